/- Plain functions that say what functions of the program come to, and proofs of it, written by a program of the verifier's own. -/
import Derived.Test.YtdcgepenffjdcaaGreatDoorEvL8
import Derived.Test.YtdcgepenffjdcaaGreatDoorWorks
import Derived.KernelRfl
namespace Go.Ev.GlitchParts
open Go Go.Ev Go.Proofs
set_option maxRecDepth 100000
set_option linter.unusedVariables false

/-- The listed tables. -/
noncomputable def fixes : List (Nat × List SV) := Go.Proofs.YtdcgepenffjdcaaGreatDoor.works.fixes
noncomputable def tb0 : Ent := fixE (2, intCells .u8 [0, 1, 56, 2, 57, 49, 28, 3, 61, 58, 42, 50, 38, 29, 17, 4, 62, 47, 59, 36, 45, 43, 51, 22, 53, 39, 33, 30, 24, 18, 12, 5, 63, 55, 48, 27, 60, 41, 37, 16, 46, 35, 44, 21, 52, 32, 23, 11, 54, 26, 40, 15, 34, 20, 31, 10, 25, 14, 19, 9, 13, 8, 7, 6])
noncomputable def tb1 : Ent := fixE (5, intCells .u8 [0, 1, 28, 2, 29, 14, 24, 3, 30, 22, 20, 15, 25, 17, 4, 8, 31, 27, 13, 23, 21, 19, 16, 7, 26, 12, 18, 6, 11, 5, 10, 9])
noncomputable def tb2 : Ent := fixE (4, intCells .u64 [1, 10, 100, 1000, 10000, 100000, 1000000, 10000000, 100000000, 1000000000, 10000000000, 100000000000, 1000000000000, 10000000000000, 100000000000000, 1000000000000000, 10000000000000000, 100000000000000000, 1000000000000000000, 10000000000000000000])
/-- works() comes to true. -/
def works (_ : Nat) : Option Bool := some true
theorem works_ok (F : Nat) (r : Bool) {Fr : Rd} {H : List Ent} (M : Mem) (hH : Has Fr M H) (h0 : tb0 ∈ H) (h1 : tb1 ∈ H) (h2 : tb2 ∈ H) (h : works F = some r) : CallsM Tryz.prog 24 [] M fun s M' => s = .bool r ∧ M' = M := by
  cases h
  refine CallsM.closedFix (n := 300) (l := Go.Proofs.YtdcgepenffjdcaaGreatDoor.works.fixes) Go.Proofs.YtdcgepenffjdcaaGreatDoor.works.below Go.Proofs.YtdcgepenffjdcaaGreatDoor.works.plainF Go.Proofs.YtdcgepenffjdcaaGreatDoor.works.works_true (hH.fixIn fun x hx => ?_)
  simp only [Go.Proofs.YtdcgepenffjdcaaGreatDoor.works.fixes, List.mem_cons, List.not_mem_nil, or_false] at hx
  rcases hx with rfl | rfl | rfl
  · exact h0
  · exact h1
  · exact h2


structure S_api_Tile where
  Level : Int
  At : Int
  D : Int

def enc3 (a : Int) : List SV := [(.int .i64 a)]
theorem enc3_len (a : Int) : (enc3 a).length = 1 := rfl
theorem enc3_ones (a : Int) : ones (enc3 a) = true := rfl
def enc65 (a : S_api_Tile) : List SV := [(.int .i64 a.Level), (.int .i64 a.At), (.int .i64 a.D)]
theorem enc65_len (a : S_api_Tile) : (enc65 a).length = 3 := rfl
theorem enc65_ones (a : S_api_Tile) : ones (enc65 a) = true := rfl
theorem lenk22 : lenK Tryz.prog 22 = some .sl := by kernel_rfl
abbrev glitch_isFrom_post (r : Bool) : SV → Mem → Prop := fun s _ => s = (.bool r)

def glitch_isFrom_1 (F : Nat) (v14 : Bool) : Option (Bool) :=
  some v14

theorem glitch_isFrom_1_ok (F : Nat) : ∀ (v14 : Bool) (Fr : Rd) (M : Mem) (r : Bool) (hH : Has Fr M []), glitch_isFrom_1 F v14 = some r → Run Tryz.prog ⟨⟨98, [], none⟩, []⟩ 15 (glitch_isFrom_post r) [(14, (.bool v14))] [itemC Tryz.prog 98 [1, 0] 8, codeC Tryz.prog 98 [1, 1]] M := by
  intro v14 Fr M r hH h
  rw [glitch_isFrom_1] at h
  refine Run.opG wantS_none (ex_assign rfl) rfl ?_
  refine Run.opsEnd ?_
  cases h
  exact Run.ret Tryz.func98 rfl (res_tmp rfl res_nil) rfl

def glitch_isFrom (F : Nat) (a0 : Int) (a1 : Int) (a2 : Int) : Option (Bool) :=
  bif (decide (a0 ≤ a1)) then
    glitch_isFrom_1 F (decide (a1 ≤ a2))
  else
    glitch_isFrom_1 F false

theorem glitch_isFrom_ok (F : Nat) (a0 : Int) (a1 : Int) (a2 : Int) (r : Bool) (M : Mem) (h : glitch_isFrom F a0 a1 a2 = some r) : CallsM Tryz.prog 98 [(.int .i64 a0), (.int .i64 a1), (.int .i64 a2)] M (fun s M' => s = (.bool r) ∧ M' = M) := by
  refine CallsM.plain Tryz.func98 rfl rfl rfl (show Run _ _ _ (glitch_isFrom_post r) _ _ _ from ?_)
  rw [glitch_isFrom] at h
  have hH := Has.nil (frozen M)
  refine Run.seq (Run.region ?_)
  refine Run.opG wantS_none (ex_assign rfl) rfl ?_
  refine Run.opsEnd (Run.seq (Run.region ?_))
  refine Run.opG wantS_none (ex_move rfl) rfl ?_
  refine Run.opG wantS_none (ex_move rfl) rfl ?_
  refine Run.opG wantS_none (ex_leq rfl rfl) rfl ?_
  refine Run.opG wantS_none (ex_move rfl) rfl ?_
  rcases btf ((decide (a0 ≤ a1))) with hc1 | hc1
  · have h := bif_t hc1 h
    refine Run.opG (wantS_yes' rfl rfl hc1) (ex_move rfl) rfl ?_
    refine Run.opG (wantS_yes' rfl rfl hc1) (ex_move rfl) rfl ?_
    refine Run.opG (wantS_yes' rfl rfl hc1) (ex_leq rfl rfl) rfl ?_
    refine Run.opG wantS_none (ex_pickT' rfl hc1 rfl rfl) rfl ?_
    exact Run.pick [14] (glitch_isFrom_1_ok F (decide (a1 ≤ a2)) _ _ _ hH h)
  · have h := bif_f hc1 h
    refine Run.no (wantS_not' rfl rfl hc1) rfl ?_
    refine Run.no (wantS_not' rfl rfl hc1) rfl ?_
    refine Run.no (wantS_not' rfl rfl hc1) rfl ?_
    refine Run.opG wantS_none (ex_pickF' rfl hc1 rfl rfl) rfl ?_
    exact Run.pick [14] (glitch_isFrom_1_ok F false _ _ _ hH h)

theorem mkk98 : makeK Tryz.prog 98 = none := by kernel_rfl
theorem cal98 : callable Tryz.prog 98 = true := by kernel_rfl
abbrev glitch_isLength_post (r : Bool) : SV → Mem → Prop := fun s _ => s = (.bool r)

def glitch_isLength_1 (F : Nat) (v11 : Bool) : Option (Bool) :=
  some v11

theorem glitch_isLength_1_ok (F : Nat) : ∀ (v11 : Bool) (Fr : Rd) (M : Mem) (r : Bool) (hH : Has Fr M []), glitch_isLength_1 F v11 = some r → Run Tryz.prog ⟨⟨90, [], none⟩, []⟩ 12 (glitch_isLength_post r) [(11, (.bool v11))] [itemC Tryz.prog 90 [1, 0] 9, codeC Tryz.prog 90 [1, 1]] M := by
  intro v11 Fr M r hH h
  rw [glitch_isLength_1] at h
  refine Run.opG wantS_none (ex_assign rfl) rfl ?_
  refine Run.opsEnd ?_
  cases h
  exact Run.ret Tryz.func90 rfl (res_tmp rfl res_nil) rfl

def glitch_isLength (F : Nat) (a0 : Int) : Option (Bool) :=
  bnd (glitch_isFrom F (1 : Int) a0 (1024 : Int)) fun r1 =>
  bif r1 then
    bnd (bitZ Nat.land .i64 a0 (w64 (a0 - (1 : Int)))) fun z4 =>
    glitch_isLength_1 F (z4 == (0 : Int))
  else
    glitch_isLength_1 F false

theorem glitch_isLength_ok (F : Nat) (a0 : Int) (r : Bool) (M : Mem) (h : glitch_isLength F a0 = some r) : CallsM Tryz.prog 90 [(.int .i64 a0)] M (fun s M' => s = (.bool r) ∧ M' = M) := by
  refine CallsM.plain Tryz.func90 rfl rfl rfl (show Run _ _ _ (glitch_isLength_post r) _ _ _ from ?_)
  rw [glitch_isLength] at h
  have hH := Has.nil (frozen M)
  refine Run.seq (Run.region ?_)
  refine Run.opG wantS_none (ex_assign rfl) rfl ?_
  refine Run.opsEnd (Run.seq (Run.region ?_))
  refine Run.opG wantS_none (ex_move rfl) rfl ?_
  obtain ⟨r1, hr1, h⟩ := bnd_some h
  refine Run.callP wantS_none (ex_call rfl mkk98 cal98) rfl (glitch_isFrom_ok F (1 : Int) a0 (1024 : Int) _ _ hr1) ?_
  refine Run.opG wantS_none (ex_move rfl) rfl ?_
  rcases btf (r1) with hc3 | hc3
  · have h := bif_t hc3 h
    refine Run.opG (wantS_yes' rfl rfl hc3) (ex_move rfl) rfl ?_
    refine Run.opG (wantS_yes' rfl rfl hc3) (ex_move rfl) rfl ?_
    refine Run.opG (wantS_yes' rfl rfl hc3) (ex_sub rfl rfl) rfl ?_
    obtain ⟨z4, hz4, h⟩ := bnd_some h
    refine Run.opG (wantS_yes' rfl rfl hc3) (ex_and rfl rfl hz4) rfl ?_
    refine Run.opG (wantS_yes' rfl rfl hc3) (ex_eql rfl rfl) rfl ?_
    refine Run.opG wantS_none (ex_pickT' rfl hc3 rfl rfl) rfl ?_
    exact Run.pick [11] (glitch_isLength_1_ok F (z4 == (0 : Int)) _ _ _ hH h)
  · have h := bif_f hc3 h
    refine Run.no (wantS_not' rfl rfl hc3) rfl ?_
    refine Run.no (wantS_not' rfl rfl hc3) rfl ?_
    refine Run.no (wantS_not' rfl rfl hc3) rfl ?_
    refine Run.no (wantS_not' rfl rfl hc3) rfl ?_
    refine Run.no (wantS_not' rfl rfl hc3) rfl ?_
    refine Run.opG wantS_none (ex_pickF' rfl hc3 rfl rfl) rfl ?_
    exact Run.pick [11] (glitch_isLength_1_ok F false _ _ _ hH h)

theorem mkk90 : makeK Tryz.prog 90 = none := by kernel_rfl
theorem cal90 : callable Tryz.prog 90 = true := by kernel_rfl
theorem els22 : elems Tryz.prog 22 = some (.sl 1) := by kernel_rfl
theorem agg3 : aggSize Tryz.prog 3 = some none := by kernel_rfl
abbrev glitch_areFrom_post (r : Bool) : SV → Mem → Prop := fun s _ => s = (.bool r)

def glitch_areFrom_1 (F : Nat) : Nat → Int → (List Int) → Int → Int → Option (Bool)
  | 0, _, _, _, _ => none
  | N + 1, v1, v7, v8, v9 =>
    bif (decide (v9 < v8)) then
      bnd (idx v7 v9) fun x2 =>
      bnd (glitch_isFrom F (w64 (-v1)) x2 v1) fun r3 =>
      bif (!r3) then
        some false
      else
        (glitch_areFrom_1 F N) v1 v7 v8 (w64 (v9 + (1 : Int)))
    else
      some true

theorem glitch_areFrom_1_ok (F : Nat) : ∀ (N : Nat), ∀ (v1 : Int) (v7 : (List Int)) (v8 : Int) (v9 : Int) (sv7 : SV) (Fr : Rd) (M : Mem) (r : Bool) (hv7 : Slc Fr 1 (FlatR enc3) sv7 v7) (hH : Has Fr M []), glitch_areFrom_1 F N v1 v7 v8 v9 = some r → Run Tryz.prog ⟨⟨91, [], none⟩, []⟩ 20 (glitch_areFrom_post r) [(1, (.int .i64 v1)), (7, sv7), (8, (.int .i64 v8)), (9, (.int .i64 v9))] [codeC Tryz.prog 91 [1, 0, 1, 0, 0], loopC Tryz.prog 91 [1, 0, 1, 0, 0], .inBlock 0, codeC Tryz.prog 91 [1, 1]] M := by
  intro N
  induction N with
  | zero =>
    intro v1 v7 v8 v9 sv7 Fr M r hv7 hH h
    simp [glitch_areFrom_1] at h
  | succ N ih =>
    intro v1 v7 v8 v9 sv7 Fr M r hv7 hH h
    rw [glitch_areFrom_1] at h
    refine Run.seq (Run.region ?_)
    refine Run.opG wantS_none (ex_lss rfl rfl) rfl ?_
    refine Run.opsEnd (Run.seq ?_)
    rcases btf ((decide (v9 < v8))) with hc1 | hc1
    · have h := bif_t hc1 h
      refine Run.condT' rfl hc1 ?_
      refine Run.skip (Run.seq (Run.block (Run.seq (Run.region ?_))))
      obtain ⟨x2, hx2, h⟩ := bnd_some h
      obtain ⟨p2, o2, _, hx2, hp2, rfl⟩ := sl_elem (P := Tryz.prog) (t := 22) (kk := .i64) hv7 hx2 els22
      refine Run.opG wantS_none (ex_elX rfl rfl hx2) rfl ?_
      refine Run.opG wantS_none (ex_load1 rfl (hH.ptrF hp2) rdLe_rfl agg3) rfl ?_
      refine Run.opG wantS_none (ex_assign rfl) rfl ?_
      refine Run.opsEnd (Run.seq (Run.region ?_))
      refine Run.opG wantS_none (ex_move rfl) rfl ?_
      refine Run.opG wantS_none (ex_neg rfl) rfl ?_
      refine Run.opG wantS_none (ex_move rfl) rfl ?_
      refine Run.opG wantS_none (ex_move rfl) rfl ?_
      obtain ⟨r3, hr3, h⟩ := bnd_some h
      refine Run.callP wantS_none (ex_call rfl mkk98 cal98) rfl (glitch_isFrom_ok F (w64 (-v1)) x2 v1 _ _ hr3) ?_
      refine Run.opG wantS_none (ex_not rfl) rfl ?_
      refine Run.opsEnd ?_
      rcases btf ((!r3)) with hc5 | hc5
      · have h := bif_t hc5 h
        refine Run.condT' rfl hc5 ?_
        refine Run.seq (Run.region ?_)
        refine Run.opG wantS_none (ex_assign rfl) rfl ?_
        refine Run.opsEnd ?_
        cases h
        exact Run.ret Tryz.func91 rfl (res_tmp rfl res_nil) rfl
      · have h := bif_f hc5 h
        refine Run.condF' rfl hc5 ?_
        refine Run.skip (Run.inBlock (Run.region ?_))
        refine Run.opG wantS_none (ex_add rfl rfl) rfl ?_
        refine Run.opG wantS_none (ex_move rfl) rfl ?_
        refine Run.opsEnd (Run.inLoop ?_)
        exact Run.pick [1, 7, 8, 9] (ih v1 v7 v8 (w64 (v9 + (1 : Int))) sv7 _ _ _ hv7 hH h)
    · have h := bif_f hc1 h
      refine Run.condF' rfl hc1 ?_
      refine Run.exit rfl (Run.seq (Run.region ?_))
      refine Run.opG wantS_none (ex_assign rfl) rfl ?_
      refine Run.opsEnd ?_
      cases h
      exact Run.ret Tryz.func91 rfl (res_tmp rfl res_nil) rfl

def glitch_areFrom (F : Nat) (a0 : (List Int)) (a1 : Int) : Option (Bool) :=
  glitch_areFrom_1 F F a1 a0 (a0.length : Int) (0 : Int)

theorem glitch_areFrom_ok (F : Nat) (a0 : (List Int)) (a1 : Int) (s0 : SV) (r : Bool) (M : Mem) (hs0 : Slc (rd M) 1 (FlatR enc3) s0 a0) (h : glitch_areFrom F a0 a1 = some r) : CallsM Tryz.prog 91 [s0, (.int .i64 a1)] M (fun s M' => s = (.bool r) ∧ M' = M) := by
  refine CallsM.plain Tryz.func91 rfl rfl rfl (show Run _ _ _ (glitch_areFrom_post r) _ _ _ from ?_)
  rw [glitch_areFrom] at h
  replace hs0 := hs0.mono (rdLe_frozen M) (fun _ _ h => h)
  have hH := Has.nil (frozen M)
  refine Run.seq (Run.region ?_)
  refine Run.opG wantS_none (ex_assign rfl) rfl ?_
  refine Run.opsEnd (Run.seq (Run.seq (Run.region ?_)))
  refine Run.opG wantS_none (ex_move rfl) rfl ?_
  refine Run.opG wantS_none (ex_len' rfl hs0 lenk22) rfl ?_
  refine Run.opG wantS_none (ex_move rfl) rfl ?_
  refine Run.opsEnd (Run.block (Run.loop ?_))
  exact Run.pick [1, 7, 8, 9] (glitch_areFrom_1_ok F F a1 a0 (a0.length : Int) (0 : Int) s0 _ _ _ hs0 hH h)

theorem mkk91 : makeK Tryz.prog 91 = none := by kernel_rfl
theorem cal91 : callable Tryz.prog 91 = true := by kernel_rfl
abbrev glitch_isSignal_post (r : Bool) : SV → Mem → Prop := fun s _ => s = (.bool r)

def glitch_isSignal_1 (F : Nat) (v9 : Bool) : Option (Bool) :=
  some v9

theorem glitch_isSignal_1_ok (F : Nat) : ∀ (v9 : Bool) (Fr : Rd) (M : Mem) (r : Bool) (hH : Has Fr M []), glitch_isSignal_1 F v9 = some r → Run Tryz.prog ⟨⟨48, [], none⟩, []⟩ 10 (glitch_isSignal_post r) [(9, (.bool v9))] [itemC Tryz.prog 48 [1, 0] 7, codeC Tryz.prog 48 [1, 1]] M := by
  intro v9 Fr M r hH h
  rw [glitch_isSignal_1] at h
  refine Run.opG wantS_none (ex_assign rfl) rfl ?_
  refine Run.opsEnd ?_
  cases h
  exact Run.ret Tryz.func48 rfl (res_tmp rfl res_nil) rfl

def glitch_isSignal (F : Nat) (a0 : (List Int)) : Option (Bool) :=
  bnd (glitch_isLength F (a0.length : Int)) fun r1 =>
  bif r1 then
    bnd (glitch_areFrom F a0 (1048576 : Int)) fun r4 =>
    glitch_isSignal_1 F r4
  else
    glitch_isSignal_1 F false

theorem glitch_isSignal_ok (F : Nat) (a0 : (List Int)) (s0 : SV) (r : Bool) (M : Mem) (hs0 : Slc (rd M) 1 (FlatR enc3) s0 a0) (h : glitch_isSignal F a0 = some r) : CallsM Tryz.prog 48 [s0] M (fun s M' => s = (.bool r) ∧ M' = M) := by
  refine CallsM.plain Tryz.func48 rfl rfl rfl (show Run _ _ _ (glitch_isSignal_post r) _ _ _ from ?_)
  rw [glitch_isSignal] at h
  replace hs0 := hs0.mono (rdLe_frozen M) (fun _ _ h => h)
  have hH := Has.nil (frozen M)
  refine Run.seq (Run.region ?_)
  refine Run.opG wantS_none (ex_assign rfl) rfl ?_
  refine Run.opsEnd (Run.seq (Run.region ?_))
  refine Run.opG wantS_none (ex_move rfl) rfl ?_
  refine Run.opG wantS_none (ex_len' rfl hs0 lenk22) rfl ?_
  obtain ⟨r1, hr1, h⟩ := bnd_some h
  refine Run.callP wantS_none (ex_call rfl mkk90 cal90) rfl (glitch_isLength_ok F (a0.length : Int) _ _ hr1) ?_
  refine Run.opG wantS_none (ex_move rfl) rfl ?_
  rcases btf (r1) with hc3 | hc3
  · have h := bif_t hc3 h
    refine Run.opG (wantS_yes' rfl rfl hc3) (ex_move rfl) rfl ?_
    obtain ⟨r4, hr4, h⟩ := bnd_some h
    refine Run.callP (wantS_yes' rfl rfl hc3) (ex_call rfl mkk91 cal91) rfl (glitch_areFrom_ok F a0 (1048576 : Int) s0 _ _ (hH.slcF hs0) hr4) ?_
    refine Run.opG wantS_none (ex_pickT' rfl hc3 rfl rfl) rfl ?_
    exact Run.pick [9] (glitch_isSignal_1_ok F r4 _ _ _ hH h)
  · have h := bif_f hc3 h
    refine Run.no (wantS_not' rfl rfl hc3) rfl ?_
    refine Run.no (wantS_not' rfl rfl hc3) rfl ?_
    refine Run.opG wantS_none (ex_pickF' rfl hc3 rfl rfl) rfl ?_
    exact Run.pick [9] (glitch_isSignal_1_ok F false _ _ _ hH h)

theorem mkk48 : makeK Tryz.prog 48 = none := by kernel_rfl
theorem cal48 : callable Tryz.prog 48 = true := by kernel_rfl
theorem mkk58 : makeK Tryz.prog 58 = none := by kernel_rfl
theorem cal58 : callable Tryz.prog 58 = true := by kernel_rfl
theorem cal97 : callable Tryz.prog 97 = true := by kernel_rfl
theorem agg22 : aggSize Tryz.prog 22 = some none := by kernel_rfl
theorem eqk22 : eqK Tryz.prog 22 = some .slice := by kernel_rfl
theorem elt22 : sliceElt Tryz.prog 22 = some (⟨1, 8, [(.int .i64 0)], 3⟩ : Elt) := by kernel_rfl
theorem appt22_22 : appT Tryz.prog 22 22 = some (⟨1, 8, [(.int .i64 0)], 3⟩ : Elt) := by kernel_rfl
abbrev slices_Clone_post (r : (List Int)) : SV → Mem → Prop := fun s Me => ∃ q1, s = q1 ∧ Has (fun _ => none) Me [.vec 3 1 r.length q1 (r.flatMap enc3)]

def slices_Clone (F : Nat) (a0 : (List Int)) : Option ((List Int)) :=
  bnd (apd 8 ([] : List Int) a0) fun l6 =>
  some l6

theorem slices_Clone_ok (F : Nat) (a0 : (List Int)) (s0 : SV) (r : (List Int)) (M : Mem) (hs0 : Slc (rd M) 1 (FlatR enc3) s0 a0) (h : slices_Clone F a0 = some r) : CallsM Tryz.prog 92 [s0] M (fun s M' => ∃ q1, s = q1 ∧ New M M' [.vec 3 1 r.length q1 (r.flatMap enc3)]) := by
  refine CallsM.fresh (Q := slices_Clone_post r) Tryz.func92 rfl rfl ?_ (by rintro s Me ⟨q1, rfl, hx⟩ ha hw; exact ⟨_, rfl, New.of rfl hx ha hw⟩)
  rw [slices_Clone] at h
  replace hs0 := hs0.mono (rdLe_frozen M) (fun _ _ h => h)
  have hH := Has.nil (frozen M)
  refine Run.seq (Run.region ?_)
  refine Run.opG wantS_none (ex_assign rfl) rfl ?_
  refine Run.opsEnd (Run.seq (Run.seq (Run.region ?_)))
  refine Run.opG wantS_none (ex_move rfl) rfl ?_
  rcases slc_or hs0 with ⟨rfl, rfl⟩ | hn1
  · have h : (
      some ([] : List Int)
      ) = some r := h
    refine Run.opG wantS_none (ex_nilT rfl rfl eqk22) rfl ?_
    refine Run.opsEnd ?_
    refine Run.condT' rfl rfl ?_
    refine Run.seq (Run.region ?_)
    refine Run.opG wantS_none (ex_assign rfl) rfl ?_
    refine Run.opsEnd ?_
    have hH3 : Has (ro (frozen M)) (frozen M) [.vec 3 1 ([] : List Int).length .nils (([] : List Int).flatMap enc3)] := hH.nils 3 1
    cases h
    exact Run.ret Tryz.func92 rfl (res_tmp rfl res_nil) ⟨_, rfl, (hH3.pick [0] rfl rfl).upF (none_le _)⟩
  · refine Run.opG wantS_none (ex_nilF rfl hn1 rfl eqk22) rfl ?_
    refine Run.opsEnd ?_
    refine Run.condF' rfl rfl ?_
    refine Run.skip (Run.seq (Run.region ?_))
    refine Run.opX wantS_none rfl (ExG.built (enc := enc3) (l := ([] : List Int)) (z := 1) rfl elt22 rfl rfl rfl enc3_len hH) ?_
    rintro s4 M5 (hH5 : Has (ro (frozen M)) M5 [.vec 3 1 ([] : List Int).length s4 (([] : List Int).flatMap enc3)])
    refine Run.opG wantS_none (ex_move rfl) rfl ?_
    obtain ⟨l6, hl6, h⟩ := bnd_some h
    refine Run.opX wantS_none rfl (ExG.append rfl rfl hH5 (i := 0) rfl enc3_len rfl enc3_ones appt22_22 rfl (len_slc hs0) (first_slc hs0 (rdLe_roF hH5) enc3_len) hl6) ?_
    rintro s6 M8 (hH8 : Has (ro (frozen M)) M8 [.vec 3 1 l6.length s6 (l6.flatMap enc3)])
    refine Run.opG wantS_none (ex_assign rfl) rfl ?_
    refine Run.opsEnd ?_
    cases h
    exact Run.ret Tryz.func92 rfl (res_tmp rfl res_nil) ⟨_, rfl, (hH8.pick [0] rfl rfl).upF (none_le _)⟩

theorem mkk92 : makeK Tryz.prog 92 = none := by kernel_rfl
theorem cal92 : callable Tryz.prog 92 = true := by kernel_rfl
theorem zer22 : zerosOf Tryz.prog 22 = some [.nils] := by kernel_rfl
theorem sz22 : szOf Tryz.prog 22 = some 1 := by kernel_rfl
theorem mkk93 : makeK Tryz.prog 93 = none := by kernel_rfl
theorem cal93 : callable Tryz.prog 93 = true := by kernel_rfl
theorem slk22 : slK Tryz.prog 22 = some (.sl 1) := by kernel_rfl
theorem sz3 : szOf Tryz.prog 3 = some 1 := by kernel_rfl
theorem plan93_1_1_0_0_1_1_0_0_1 : planOf Tryz.prog (opsC (atC Tryz.prog 93 [1, 1, 0, 0, 1, 1, 0, 0, 1])) = some [.fl 0, .fl 1, .fl 2, .fl 3, .fl 4, .fl 5, .fl 6, .fl 7, .fl 8, .fl 9, .fl 10, .fl 11, .fl 12, .fl 13, .fl 14, .fl 15, .fl 16, .fl 17, .fl 18, .fl 19, .fl 20, .fl 21, .fl 22, .fl 23, .fl 24, .fl 25, .fl 26, .fl 27, .fl 28, .fl 29, .fl 30, .an 31 [29, 5, 4, 3, 2], .fl 32, .an 33 [], .sync] := by kernel_rfl
abbrev glitch_transform_post (r : (List Int)) : SV → Mem → Prop := fun s Me => ∃ q1, s = q1 ∧ Has (fun _ => none) Me [.vec 3 1 r.length q1 (r.flatMap enc3)]

def glitch_transform_2 (F : Nat) (hd1 : Int → (List Int) → Option ((List Int))) : Nat → Int → Int → Int → Int → (List Int) → (List Int) → Option ((List Int))
  | 0, _, _, _, _, _, _ => none
  | N + 1, v0, v10, v11, v5_f1, l2, l10 =>
    bif (decide (v11 < v10)) then
      bnd (idx l10 (w64 ((2 : Int) * v11))) fun x13 =>
      bnd (idx l10 (w64 ((w64 ((2 : Int) * v11)) + (1 : Int)))) fun x14 =>
      bnd (idx l10 (w64 ((2 : Int) * v11))) fun x15 =>
      bnd (idx l10 (w64 ((w64 ((2 : Int) * v11)) + (1 : Int)))) fun x16 =>
      bnd (inn l2 v11) fun o17 =>
      bnd (upd l2 o17 (w64 (x13 + x14))) fun l18 =>
      bnd (inn l18 (w64 (v0 + v11))) fun o20 =>
      bnd (upd l18 o20 (w64 (x15 - x16))) fun l21 =>
      (glitch_transform_2 F hd1 N) v0 v10 (w64 (v11 + (1 : Int))) v5_f1 l21 l10
    else
      hd1 (w64 (Int.tdiv v5_f1 (2 : Int))) l2

theorem glitch_transform_2_ok (F : Nat) (hd1 : Int → (List Int) → Option ((List Int))) (hhd1 : ∀ (v5 : Int) (l2 : (List Int)) (b4 : Pos) (s2 : SV) (Fr : Rd) (M : Mem) (r : (List Int)) (hH : Has Fr M [.obj b4 (.row 22 .whole [s2]), .vec 3 1 l2.length s2 (l2.flatMap enc3)]), hd1 v5 l2 = some r → Run Tryz.prog ⟨⟨51, [], none⟩, []⟩ 20 (glitch_transform_post r) [(3, (.ptr b4 0)), (4, (.fn (.func 93) [] [(.ptr b4 0)])), (5, (.int .i64 v5))] [codeC Tryz.prog 51 [1, 1, 1, 0, 1, 0, 0], loopC Tryz.prog 51 [1, 1, 1, 0, 1, 0, 0], .inBlock 0, codeC Tryz.prog 51 [1, 1, 1, 1]] M) : ∀ (N : Nat), ∀ (v0 : Int) (v10 : Int) (v11 : Int) (v5_f1 : Int) (l2 : (List Int)) (l10 : (List Int)) (b4 : Pos) (s2 : SV) (s10 : SV) (Fr : Rd) (M : Mem) (r : (List Int)) (hH : Has Fr M [.obj b4 (.row 22 .whole [s2]), .vec 3 1 l2.length s2 (l2.flatMap enc3), .vec 3 1 l10.length s10 (l10.flatMap enc3)]), glitch_transform_2 F hd1 N v0 v10 v11 v5_f1 l2 l10 = some r → Run Tryz.prog ⟨⟨93, [], none⟩, [.mk ⟨51, [], none⟩ 20 (treeOf [(3, (.ptr b4 0)), (4, (.fn (.func 93) [] [(.ptr b4 0)])), (5, (.int .i64 v5_f1))]) [itemC Tryz.prog 51 [1, 1, 1, 0, 1, 0, 0, 1, 0, 0] 2, .inBlock 1, codeC Tryz.prog 51 [1, 1, 1, 0, 1, 0, 0, 1, 1], loopC Tryz.prog 51 [1, 1, 1, 0, 1, 0, 0], .inBlock 0, codeC Tryz.prog 51 [1, 1, 1, 1]]]⟩ 47 (glitch_transform_post r) [(0, (.int .i64 v0)), (1, (.ptr b4 0)), (3, s10), (10, (.int .i64 v10)), (11, (.int .i64 v11))] [codeC Tryz.prog 93 [1, 1, 0, 0], loopC Tryz.prog 93 [1, 1, 0, 0], .inBlock 0] M := by
  intro N
  induction N with
  | zero =>
    intro v0 v10 v11 v5_f1 l2 l10 b4 s2 s10 Fr M r hH h
    simp [glitch_transform_2] at h
  | succ N ih =>
    intro v0 v10 v11 v5_f1 l2 l10 b4 s2 s10 Fr M r hH h
    rw [glitch_transform_2] at h
    refine Run.seq (Run.region ?_)
    refine Run.opG wantS_none (ex_lss rfl rfl) rfl ?_
    refine Run.opsEnd (Run.seq ?_)
    rcases btf ((decide (v11 < v10))) with hc12 | hc12
    · have h := bif_t hc12 h
      refine Run.condT' rfl hc12 ?_
      refine Run.skip (Run.seq (Run.block (Run.seq (Run.region ?_))))
      refine Run.opG wantS_none (ex_move rfl) rfl ?_
      refine Run.opG wantS_none (ex_assign rfl) rfl ?_
      refine Run.opsEnd ?_
      refine Run.drawG plan93_1_1_0_0_1_1_0_0_1 ?_
      refine DrawG.fl rfl (ev_ex wantS_none (ex_load1 rfl (hH.cells (i := 0) rfl 0 rfl) rdLe_rfl agg22)) rfl ?_
      refine DrawG.fl rfl (ev_ex wantS_none (ex_move rfl)) rfl ?_
      refine DrawG.fl rfl (ev_ex wantS_none (ex_load1 rfl (hH.cells (i := 0) rfl 0 rfl) rdLe_rfl agg22)) rfl ?_
      refine DrawG.fl rfl (ev_ex wantS_none (ex_move rfl)) rfl ?_
      refine DrawG.fl rfl (ev_ex wantS_none (ex_move rfl)) rfl ?_
      refine DrawG.fl rfl (ev_ex wantS_none (ex_add rfl rfl)) rfl ?_
      refine DrawG.fl rfl (ev_ex wantS_none (ex_move rfl)) rfl ?_
      refine DrawG.fl rfl (ev_ex wantS_none (ex_move rfl)) rfl ?_
      refine DrawG.fl rfl (ev_ex wantS_none (ex_mul rfl rfl)) rfl ?_
      obtain ⟨x13, hx13, h⟩ := bnd_some h
      obtain ⟨p13, o13, hb13, hx13, he13⟩ := vec_elem (P := Tryz.prog) (t := 22) (kk := .i64) hH (i := 2) rfl hx13 els22
      refine DrawG.fl rfl (ev_ex wantS_none (ex_elX rfl rfl hx13)) rfl ?_
      refine DrawG.fl rfl (ev_ex wantS_none (ex_load1 rfl (hH.at (enc := enc3) (a := x13) (i := 2) rfl hb13 he13 enc3_len) rdLe_rfl agg3)) rfl ?_
      refine DrawG.fl rfl (ev_ex wantS_none (ex_move rfl)) rfl ?_
      refine DrawG.fl rfl (ev_ex wantS_none (ex_move rfl)) rfl ?_
      refine DrawG.fl rfl (ev_ex wantS_none (ex_mul rfl rfl)) rfl ?_
      refine DrawG.fl rfl (ev_ex wantS_none (ex_add rfl rfl)) rfl ?_
      obtain ⟨x14, hx14, h⟩ := bnd_some h
      obtain ⟨p14, o14, hb14, hx14, he14⟩ := vec_elem (P := Tryz.prog) (t := 22) (kk := .i64) hH (i := 2) rfl hx14 els22
      refine DrawG.fl rfl (ev_ex wantS_none (ex_elX rfl rfl hx14)) rfl ?_
      refine DrawG.fl rfl (ev_ex wantS_none (ex_load1 rfl (hH.at (enc := enc3) (a := x14) (i := 2) rfl hb14 he14 enc3_len) rdLe_rfl agg3)) rfl ?_
      refine DrawG.fl rfl (ev_ex wantS_none (ex_add rfl rfl)) rfl ?_
      refine DrawG.fl rfl (ev_ex wantS_none (ex_move rfl)) rfl ?_
      refine DrawG.fl rfl (ev_ex wantS_none (ex_move rfl)) rfl ?_
      refine DrawG.fl rfl (ev_ex wantS_none (ex_mul rfl rfl)) rfl ?_
      obtain ⟨x15, hx15, h⟩ := bnd_some h
      obtain ⟨p15, o15, hb15, hx15, he15⟩ := vec_elem (P := Tryz.prog) (t := 22) (kk := .i64) hH (i := 2) rfl hx15 els22
      refine DrawG.fl rfl (ev_ex wantS_none (ex_elX rfl rfl hx15)) rfl ?_
      refine DrawG.fl rfl (ev_ex wantS_none (ex_load1 rfl (hH.at (enc := enc3) (a := x15) (i := 2) rfl hb15 he15 enc3_len) rdLe_rfl agg3)) rfl ?_
      refine DrawG.fl rfl (ev_ex wantS_none (ex_move rfl)) rfl ?_
      refine DrawG.fl rfl (ev_ex wantS_none (ex_move rfl)) rfl ?_
      refine DrawG.fl rfl (ev_ex wantS_none (ex_mul rfl rfl)) rfl ?_
      refine DrawG.fl rfl (ev_ex wantS_none (ex_add rfl rfl)) rfl ?_
      obtain ⟨x16, hx16, h⟩ := bnd_some h
      obtain ⟨p16, o16, hb16, hx16, he16⟩ := vec_elem (P := Tryz.prog) (t := 22) (kk := .i64) hH (i := 2) rfl hx16 els22
      refine DrawG.fl rfl (ev_ex wantS_none (ex_elX rfl rfl hx16)) rfl ?_
      refine DrawG.fl rfl (ev_ex wantS_none (ex_load1 rfl (hH.at (enc := enc3) (a := x16) (i := 2) rfl hb16 he16 enc3_len) rdLe_rfl agg3)) rfl ?_
      refine DrawG.fl rfl (ev_ex wantS_none (ex_sub rfl rfl)) rfl ?_
      obtain ⟨o17, ho17, h⟩ := bnd_some h
      obtain ⟨p17, hb17, hx17⟩ := vec_place (P := Tryz.prog) (t := 22) (kk := .i64) hH (i := 1) rfl ho17 els22
      refine DrawG.fl rfl (ev_ex wantS_none (ex_elX rfl rfl hx17)) rfl ?_
      obtain ⟨l18, hl18, h⟩ := bnd_some h
      refine DrawG.opX rfl wantS_none rfl (ExG.storeEl rfl rfl hH (i := 1) rfl hb17 hl18 sz3 rfl enc3_len enc3_ones) ?_
      rintro _ M19 ⟨rfl, (hH19 : Has Fr M19 [.obj b4 (.row 22 .whole [s2]), .vec 3 1 l18.length s2 (l18.flatMap enc3), .vec 3 1 l10.length s10 (l10.flatMap enc3)])⟩
      refine ⟨(st_cons rfl (ev_ex wantS_none (ex_sub rfl rfl)) rfl rfl rfl (st_cons rfl (ev_ex wantS_none (ex_add rfl rfl)) rfl rfl rfl (st_cons rfl (ev_ex wantS_none (ex_move rfl)) rfl rfl rfl (st_cons rfl (ev_ex wantS_none (ex_move rfl)) rfl rfl rfl (st_cons rfl (ev_ex wantS_none (ex_load1 rfl (hH19.cells (i := 0) rfl 0 rfl) rdLe_rfl agg22)) rfl rfl (blk_self hH19 (i := 1) rfl) st_nil))))), ?_⟩
      obtain ⟨o20, ho20, h⟩ := bnd_some h
      obtain ⟨p20, hb20, hx20⟩ := vec_place (P := Tryz.prog) (t := 22) (kk := .i64) hH19 (i := 1) rfl ho20 els22
      refine DrawG.fl rfl (ev_ex wantS_none (ex_elX rfl rfl hx20)) rfl ?_
      obtain ⟨l21, hl21, h⟩ := bnd_some h
      refine DrawG.opX rfl wantS_none rfl (ExG.storeEl rfl rfl hH19 (i := 1) rfl hb20 hl21 sz3 rfl enc3_len enc3_ones) ?_
      rintro _ M22 ⟨rfl, (hH22 : Has Fr M22 [.obj b4 (.row 22 .whole [s2]), .vec 3 1 l21.length s2 (l21.flatMap enc3), .vec 3 1 l10.length s10 (l10.flatMap enc3)])⟩
      refine ⟨st_nil, ?_⟩
      refine DrawG.sync ?_
      refine DrawG.nil ?_
      refine Run.inBlock (Run.region ?_)
      refine Run.opG wantS_none (ex_add rfl rfl) rfl ?_
      refine Run.opG wantS_none (ex_move rfl) rfl ?_
      refine Run.opsEnd (Run.inLoop ?_)
      exact Run.low (.cons (fle_pick [3, 4, 5] rfl) .nil) (Run.pick [0, 1, 3, 10, 11] (ih v0 v10 (w64 (v11 + (1 : Int))) v5_f1 l21 l10 b4 s2 s10 _ _ _ hH22 h))
    · have h := bif_f hc12 h
      refine Run.condF' rfl hc12 ?_
      refine Run.exit rfl ?_
      refine Run.fallTo Tryz.func93 rfl res_nil rfl ?_
      refine Run.opsEnd (Run.inBlock (Run.region ?_))
      refine Run.opG wantS_none (ex_move rfl) rfl ?_
      refine Run.opG wantS_none (ex_quo rfl rfl (by decide)) rfl ?_
      refine Run.opG wantS_none (ex_assign rfl) rfl ?_
      refine Run.opsEnd (Run.inLoop ?_)
      exact Run.pick [3, 4, 5] (hhd1 (w64 (Int.tdiv v5_f1 (2 : Int))) l2 b4 s2 _ _ _ (hH.pick [0, 1] rfl rfl) h)

def glitch_transform_1 (F : Nat) : Nat → Int → (List Int) → Option ((List Int))
  | 0, _, _ => none
  | N + 1, v5, l2 =>
    bif (decide ((0 : Int) < v5)) then
      bnd (sub l2 0 (w64 ((2 : Int) * v5))) fun l8 =>
      bnd (slices_Clone F l8) fun r9 =>
      glitch_transform_2 F (glitch_transform_1 F N) F v5 v5 (0 : Int) v5 l2 r9
    else
      some l2

theorem glitch_transform_1_ok (F : Nat) : ∀ (N : Nat), ∀ (v5 : Int) (l2 : (List Int)) (b4 : Pos) (s2 : SV) (Fr : Rd) (M : Mem) (r : (List Int)) (hH : Has Fr M [.obj b4 (.row 22 .whole [s2]), .vec 3 1 l2.length s2 (l2.flatMap enc3)]), glitch_transform_1 F N v5 l2 = some r → Run Tryz.prog ⟨⟨51, [], none⟩, []⟩ 20 (glitch_transform_post r) [(3, (.ptr b4 0)), (4, (.fn (.func 93) [] [(.ptr b4 0)])), (5, (.int .i64 v5))] [codeC Tryz.prog 51 [1, 1, 1, 0, 1, 0, 0], loopC Tryz.prog 51 [1, 1, 1, 0, 1, 0, 0], .inBlock 0, codeC Tryz.prog 51 [1, 1, 1, 1]] M := by
  intro N
  induction N with
  | zero =>
    intro v5 l2 b4 s2 Fr M r hH h
    simp [glitch_transform_1] at h
  | succ N ih =>
    intro v5 l2 b4 s2 Fr M r hH h
    rw [glitch_transform_1] at h
    refine Run.seq (Run.seq (Run.region ?_))
    refine Run.opG wantS_none (ex_move rfl) rfl ?_
    refine Run.opG wantS_none (ex_gtr rfl rfl) rfl ?_
    refine Run.opsEnd ?_
    rcases btf ((decide ((0 : Int) < v5))) with hc7 | hc7
    · have h := bif_t hc7 h
      refine Run.condT' rfl hc7 ?_
      refine Run.skip (Run.seq (Run.block (Run.region ?_)))
      refine Run.opG wantS_none (ex_move rfl) rfl ?_
      refine Run.opG wantS_none (ex_move rfl) rfl ?_
      refine Run.enter wantS_none (ex_closure rfl rfl mkk93 cal93) Tryz.func93 rfl rfl ?_
      refine Run.seq (Run.region ?_)
      refine Run.opG wantS_none (ex_load1 rfl (hH.cells (i := 0) rfl 0 rfl) rdLe_rfl agg22) rfl ?_
      refine Run.opG wantS_none (ex_move rfl) rfl ?_
      refine Run.opG wantS_none (ex_mul rfl rfl) rfl ?_
      obtain ⟨l8, hl8, h⟩ := bnd_some h
      obtain ⟨s8, hx8, hs8⟩ := sl_subH (P := Tryz.prog) (t := 22) (k0 := .i64) (hH.slc (i := 1) rfl enc3_len) hl8 slk22
      refine Run.opG wantS_none (ex_slX rfl (argO_none) (argO_some rfl) hx8) rfl ?_
      obtain ⟨r9, hr9, h⟩ := bnd_some h
      refine Run.callX wantS_none (ex_call rfl mkk92 cal92) rfl (slices_Clone_ok F l8 s8 _ _ hs8 hr9) ?_
      rintro s9_0 M11 ⟨_, rfl, hN9⟩
      have hH11 : Has Fr M11 [.vec 3 1 r9.length s9_0 (r9.flatMap enc3), .obj b4 (.row 22 .whole [s2]), .vec 3 1 l2.length s2 (l2.flatMap enc3)] := hN9 _ _ hH
      refine Run.opG wantS_none (ex_assign rfl) rfl ?_
      refine Run.opsEnd (Run.seq (Run.region ?_))
      refine Run.opG wantS_none (ex_move rfl) rfl ?_
      refine Run.opG wantS_none (ex_move rfl) rfl ?_
      refine Run.opsEnd (Run.block (Run.loop ?_))
      exact Run.low (.cons (fle_pick [3, 4, 5] rfl) .nil) (Run.pick [0, 1, 3, 10, 11] (glitch_transform_2_ok F (glitch_transform_1 F N) ih F v5 v5 (0 : Int) v5 l2 r9 b4 s2 s9_0 _ _ _ (hH11.pick [1, 2, 0] rfl rfl) h))
    · have h := bif_f hc7 h
      refine Run.condF' rfl hc7 ?_
      refine Run.exit rfl (Run.seq (Run.region ?_))
      refine Run.opG wantS_none (ex_load1 rfl (hH.cells (i := 0) rfl 0 rfl) rdLe_rfl agg22) rfl ?_
      refine Run.opG wantS_none (ex_assign rfl) rfl ?_
      refine Run.opsEnd ?_
      cases h
      exact Run.ret Tryz.func51 rfl (res_tmp rfl res_nil) ⟨_, rfl, (hH.pick [1] rfl rfl).upF (none_le _)⟩

def glitch_transform (F : Nat) (a0 : (List Int)) : Option ((List Int)) :=
  bnd (slices_Clone F a0) fun r1 =>
  glitch_transform_1 F F (w64 (Int.tdiv (a0.length : Int) (2 : Int))) r1

theorem glitch_transform_ok (F : Nat) (a0 : (List Int)) (s0 : SV) (r : (List Int)) (M : Mem) (hs0 : Slc (rd M) 1 (FlatR enc3) s0 a0) (h : glitch_transform F a0 = some r) : CallsM Tryz.prog 51 [s0] M (fun s M' => ∃ q1, s = q1 ∧ New M M' [.vec 3 1 r.length q1 (r.flatMap enc3)]) := by
  refine CallsM.fresh (Q := glitch_transform_post r) Tryz.func51 rfl rfl ?_ (by rintro s Me ⟨q1, rfl, hx⟩ ha hw; exact ⟨_, rfl, New.of rfl hx ha hw⟩)
  rw [glitch_transform] at h
  replace hs0 := hs0.mono (rdLe_frozen M) (fun _ _ h => h)
  have hH := Has.nil (frozen M)
  refine Run.seq (Run.region ?_)
  refine Run.opG wantS_none (ex_assign rfl) rfl ?_
  refine Run.opsEnd (Run.seq (Run.region ?_))
  refine Run.opG wantS_none (ex_move rfl) rfl ?_
  obtain ⟨r1, hr1, h⟩ := bnd_some h
  refine Run.callX wantS_none (ex_call rfl mkk92 cal92) rfl (slices_Clone_ok F a0 s0 _ _ (hH.slcF hs0) hr1) ?_
  rintro s1_0 M3 ⟨_, rfl, hN1⟩
  have hH3 : Has (ro (frozen M)) M3 [.vec 3 1 r1.length s1_0 (r1.flatMap enc3)] := hN1 _ _ hH
  refine Run.opX wantS_none rfl (ExG.new (v := fun b => .ptr b 0) (ex_alloc zer22) hH3) ?_
  rintro _ M5 ⟨b4, rfl, (hH5 : Has (ro (frozen M)) M5 [.obj b4 (.row 22 .whole [.nils]), .vec 3 1 r1.length s1_0 (r1.flatMap enc3)])⟩
  refine Run.opX wantS_none rfl (ExG.storeC (c' := [s1_0]) rfl rfl (cells_one (vec_one hH5 (i := 1) rfl)) hH5 (i := 0) rfl sz22 rfl rfl rfl (ones_cons (vec_one hH5 (i := 1) rfl) ones_nil) rfl) ?_
  rintro _ M6 ⟨rfl, (hH6 : Has (ro (frozen M)) M6 [.obj b4 (.row 22 .whole [s1_0]), .vec 3 1 r1.length s1_0 (r1.flatMap enc3)])⟩
  refine Run.opsEnd (Run.seq (Run.region ?_))
  refine Run.opG wantS_none (ex_makeFunc rfl rfl) rfl ?_
  refine Run.opG wantS_none (ex_assign rfl) rfl ?_
  refine Run.opsEnd (Run.seq (Run.seq (Run.region ?_)))
  refine Run.opG wantS_none (ex_move rfl) rfl ?_
  refine Run.opG wantS_none (ex_len' rfl hs0 lenk22) rfl ?_
  refine Run.opG wantS_none (ex_quo rfl rfl (by decide)) rfl ?_
  refine Run.opG wantS_none (ex_assign rfl) rfl ?_
  refine Run.opsEnd (Run.block (Run.loop ?_))
  exact Run.pick [3, 4, 5] (glitch_transform_1_ok F F (w64 (Int.tdiv (a0.length : Int) (2 : Int))) r1 b4 s1_0 _ _ _ hH6 h)

theorem mkk51 : makeK Tryz.prog 51 = none := by kernel_rfl
theorem cal51 : callable Tryz.prog 51 = true := by kernel_rfl
theorem zer65 : zerosOf Tryz.prog 65 = some [(.int .i64 0), (.int .i64 0), (.int .i64 0)] := by kernel_rfl
theorem pls65 : placesOf Tryz.prog 65 = some (.st [(0, 1), (1, 1), (2, 1)]) := by kernel_rfl
theorem sz65 : szOf Tryz.prog 65 = some 3 := by kernel_rfl
theorem agg31 : aggSize Tryz.prog 31 = some none := by kernel_rfl
theorem lenk31 : lenK Tryz.prog 31 = some .sl := by kernel_rfl
theorem els31 : elems Tryz.prog 31 = some (.sl 3) := by kernel_rfl
theorem agg65 : aggSize Tryz.prog 65 = some (some 3) := by kernel_rfl
theorem agk3 : aggK Tryz.prog 3 = some .int := by kernel_rfl
theorem agk65 : aggK Tryz.prog 65 = some (.st [⟨ "Level", 3, 0, false, "", "", 0⟩, ⟨ "At", 3, 1, false, "", "", 8⟩, ⟨ "D", 3, 2, false, "", "", 16⟩]) := by kernel_rfl
theorem aeq65 : aggEq Tryz.prog 65 = false := by kernel_rfl
theorem slk31 : slK Tryz.prog 31 = some (.sl 3) := by kernel_rfl
theorem sz31 : szOf Tryz.prog 31 = some 1 := by kernel_rfl
theorem plan68_1_0_1_0_1_0_0 : planOf Tryz.prog (opsC (atC Tryz.prog 68 [1, 0, 1, 0, 1, 0, 0])) = some [.fl 0, .fl 1, .fl 2, .fl 3, .fl 4, .fl 5, .fl 6, .fl 7, .fl 8, .fl 9, .sync] := by kernel_rfl
theorem mkk68 : makeK Tryz.prog 68 = none := by kernel_rfl
theorem cal68 : callable Tryz.prog 68 = true := by kernel_rfl
theorem off65_1 : fieldOff Tryz.prog 65 1 = some 1 := by kernel_rfl
theorem off65_0 : fieldOff Tryz.prog 65 0 = some 0 := by kernel_rfl
theorem plan105_1_0 : planOf Tryz.prog (opsC (atC Tryz.prog 105 [1, 0])) = some [.fl 0, .fl 1, .fl 2, .fl 3, .fl 4, .fl 5, .fl 6, .fl 7, .fl 8, .fl 9, .fl 10, .fl 11, .fl 12, .sync] := by kernel_rfl
abbrev glitch_covered_post (r : Int × Int) : SV → Mem → Prop := fun s _ => s = (.tuple [(.int .i64 r.1), (.int .i64 r.2)])

def glitch_covered (F : Nat) (a0 : S_api_Tile) : Option (Int × Int) :=
  bnd (shn a0.Level) fun j3 =>
  bnd (shn a0.Level) fun j4 =>
  some ((w64 (a0.At * 2 ^ (min j3 (IntKind.bits .i64)))), (w64 ((w64 (a0.At + (1 : Int))) * 2 ^ (min j4 (IntKind.bits .i64)))))

theorem glitch_covered_ok (F : Nat) (a0 : S_api_Tile) (r : Int × Int) (M : Mem) (h : glitch_covered F a0 = some r) : CallsM Tryz.prog 105 [(.agg [(.int .i64 a0.Level), (.int .i64 a0.At), (.int .i64 a0.D)])] M (fun s M' => s = (.tuple [(.int .i64 r.1), (.int .i64 r.2)]) ∧ M' = M) := by
  refine CallsM.plain Tryz.func105 rfl rfl rfl (show Run _ _ _ (glitch_covered_post r) _ _ _ from ?_)
  rw [glitch_covered] at h
  have hH := Has.nil (frozen M)
  refine Run.seq (Run.region ?_)
  refine Run.opX wantS_none rfl (ExG.box rfl rfl hH) ?_
  rintro _ M2 ⟨b1, rfl, (hH2 : Has (ro (frozen M)) M2 [.obj b1 (.row 65 .whole [(.int .i64 a0.Level), (.int .i64 a0.At), (.int .i64 a0.D)])])⟩
  refine Run.opG wantS_none (ex_assign rfl) rfl ?_
  refine Run.opG wantS_none (ex_assign rfl) rfl ?_
  refine Run.opsEnd (Run.seq ?_)
  refine Run.drawG plan105_1_0 ?_
  refine DrawG.fl rfl (ev_ex wantS_none (ex_fieldAddr rfl off65_1)) rfl ?_
  refine DrawG.fl rfl (ev_ex wantS_none (ex_load1 rfl (hH2.cells (i := 0) rfl 1 rfl) rdLe_rfl agg3)) rfl ?_
  refine DrawG.fl rfl (ev_ex wantS_none (ex_fieldAddr rfl off65_0)) rfl ?_
  refine DrawG.fl rfl (ev_ex wantS_none (ex_load1 rfl (hH2.cells (i := 0) rfl 0 rfl) rdLe_rfl agg3)) rfl ?_
  obtain ⟨j3, hj3, h⟩ := bnd_some h
  refine DrawG.fl rfl (ev_ex wantS_none (ex_shl' rfl rfl hj3)) rfl ?_
  refine DrawG.fl rfl (ev_ex wantS_none (ex_fieldAddr rfl off65_1)) rfl ?_
  refine DrawG.fl rfl (ev_ex wantS_none (ex_load1 rfl (hH2.cells (i := 0) rfl 1 rfl) rdLe_rfl agg3)) rfl ?_
  refine DrawG.fl rfl (ev_ex wantS_none (ex_add rfl rfl)) rfl ?_
  refine DrawG.fl rfl (ev_ex wantS_none (ex_fieldAddr rfl off65_0)) rfl ?_
  refine DrawG.fl rfl (ev_ex wantS_none (ex_load1 rfl (hH2.cells (i := 0) rfl 0 rfl) rdLe_rfl agg3)) rfl ?_
  obtain ⟨j4, hj4, h⟩ := bnd_some h
  refine DrawG.fl rfl (ev_ex wantS_none (ex_shl' rfl rfl hj4)) rfl ?_
  refine DrawG.fl rfl (ev_ex wantS_none (ex_assign rfl)) rfl ?_
  refine DrawG.fl rfl (ev_ex wantS_none (ex_assign rfl)) rfl ?_
  refine DrawG.sync ?_
  refine DrawG.nil ?_
  cases h
  exact Run.ret Tryz.func105 rfl (res_tmp rfl (res_tmp rfl res_nil)) rfl

theorem mkk105 : makeK Tryz.prog 105 = none := by kernel_rfl
theorem cal105 : callable Tryz.prog 105 = true := by kernel_rfl
theorem off65_2 : fieldOff Tryz.prog 65 2 = some 2 := by kernel_rfl
theorem plan69_1_1_0_1_0_0_1_1_0_0_1_1_0 : planOf Tryz.prog (opsC (atC Tryz.prog 69 [1, 1, 0, 1, 0, 0, 1, 1, 0, 0, 1, 1, 0])) = some [.fl 0, .fl 1, .fl 2, .fl 3, .fl 4, .fl 5, .fl 6, .fl 7, .sync] := by kernel_rfl
abbrev glitch_part_post (r : (List Int)) : SV → Mem → Prop := fun s Me => ∃ q1, s = q1 ∧ Has (fun _ => none) Me [.vec 3 1 r.length q1 (r.flatMap enc3)]

def glitch_part_3 (F : Nat) (hd2 : Int → Int → Int → Int → (List S_api_Tile) → Int → Int → Int → Int → (List Int) → Option ((List Int))) (v1 : Int) (v8 : Int) (v9 : Int) (v10 : Int) (v14 : (List S_api_Tile)) (v15 : Int) (v16 : Int) (v34 : Int) (v35 : Int) (l1 : (List Int)) : Option ((List Int)) :=
  hd2 v1 v8 v9 v10 v14 v15 v16 v34 (w64 (v35 + (1 : Int))) l1

theorem glitch_part_3_ok (F : Nat) (hd2 : Int → Int → Int → Int → (List S_api_Tile) → Int → Int → Int → Int → (List Int) → Option ((List Int))) (hhd2 : ∀ (v1 : Int) (v8 : Int) (v9 : Int) (v10 : Int) (v14 : (List S_api_Tile)) (v15 : Int) (v16 : Int) (v34 : Int) (v35 : Int) (l1 : (List Int)) (sv14 : SV) (s1 : SV) (Fr : Rd) (M : Mem) (r : (List Int)) (hv14 : Slc Fr 3 (FlatR enc65) sv14 v14) (hH : Has Fr M [.vec 3 1 l1.length s1 (l1.flatMap enc3)]), hd2 v1 v8 v9 v10 v14 v15 v16 v34 v35 l1 = some r → Run Tryz.prog ⟨⟨69, [], none⟩, []⟩ 65 (glitch_part_post r) [(1, (.int .i64 v1)), (5, s1), (8, (.int .i64 v8)), (9, (.int .i64 v9)), (10, (.int .i64 v10)), (14, sv14), (15, (.int .i64 v15)), (16, (.int .i64 v16)), (34, (.int .i64 v34)), (35, (.int .i64 v35))] [codeC Tryz.prog 69 [1, 1, 0, 1, 0, 0, 1, 1, 0, 0, 1, 1, 1, 1, 0, 0], loopC Tryz.prog 69 [1, 1, 0, 1, 0, 0, 1, 1, 0, 0, 1, 1, 1, 1, 0, 0], .inBlock 2, .inBlock 1, codeC Tryz.prog 69 [1, 1, 0, 1, 0, 0, 1, 1, 1], loopC Tryz.prog 69 [1, 1, 0, 1, 0, 0], .inBlock 0, codeC Tryz.prog 69 [1, 1, 1]] M) : ∀ (v1 : Int) (v8 : Int) (v9 : Int) (v10 : Int) (v14 : (List S_api_Tile)) (v15 : Int) (v16 : Int) (v34 : Int) (v35 : Int) (l1 : (List Int)) (sv14 : SV) (s1 : SV) (Fr : Rd) (M : Mem) (r : (List Int)) (hv14 : Slc Fr 3 (FlatR enc65) sv14 v14) (hH : Has Fr M [.vec 3 1 l1.length s1 (l1.flatMap enc3)]), glitch_part_3 F hd2 v1 v8 v9 v10 v14 v15 v16 v34 v35 l1 = some r → Run Tryz.prog ⟨⟨69, [], none⟩, []⟩ 65 (glitch_part_post r) [(1, (.int .i64 v1)), (5, s1), (8, (.int .i64 v8)), (9, (.int .i64 v9)), (10, (.int .i64 v10)), (14, sv14), (15, (.int .i64 v15)), (16, (.int .i64 v16)), (34, (.int .i64 v34)), (35, (.int .i64 v35))] [itemC Tryz.prog 69 [1, 1, 0, 1, 0, 0, 1, 1, 0, 0, 1, 1, 1, 1, 0, 0, 1, 1, 1] 0, loopC Tryz.prog 69 [1, 1, 0, 1, 0, 0, 1, 1, 0, 0, 1, 1, 1, 1, 0, 0], .inBlock 2, .inBlock 1, codeC Tryz.prog 69 [1, 1, 0, 1, 0, 0, 1, 1, 1], loopC Tryz.prog 69 [1, 1, 0, 1, 0, 0], .inBlock 0, codeC Tryz.prog 69 [1, 1, 1]] M := by
  intro v1 v8 v9 v10 v14 v15 v16 v34 v35 l1 sv14 s1 Fr M r hv14 hH h
  rw [glitch_part_3] at h
  refine Run.opG wantS_none (ex_add rfl rfl) rfl ?_
  refine Run.opG wantS_none (ex_move rfl) rfl ?_
  refine Run.opsEnd (Run.inLoop ?_)
  exact Run.pick [1, 5, 8, 9, 10, 14, 15, 16, 34, 35] (hhd2 v1 v8 v9 v10 v14 v15 v16 v34 (w64 (v35 + (1 : Int))) l1 sv14 s1 _ _ _ hv14 hH h)

def glitch_part_2 (F : Nat) (hd1 : Int → (List S_api_Tile) → Int → Int → (List Int) → Option ((List Int))) : Nat → Int → Int → Int → Int → (List S_api_Tile) → Int → Int → Int → Int → (List Int) → Option ((List Int))
  | 0, _, _, _, _, _, _, _, _, _, _ => none
  | N + 1, v1, v8, v9, v10, v14, v15, v16, v34, v35, l1 =>
    bif (decide (v35 < v34)) then
      bif (decide (v35 < (w64 (Int.tdiv (w64 (v9 - v8)) (2 : Int))))) then
        bnd (idx l1 (w64 (v8 + v35))) fun x13 =>
        bnd (inn l1 (w64 (v8 + v35))) fun o14 =>
        bnd (upd l1 o14 (w64 (x13 + v10))) fun l15 =>
        glitch_part_3 F (glitch_part_2 F hd1 N) v1 v8 v9 v10 v14 v15 v16 v34 v35 l15
      else
        bnd (idx l1 (w64 (v8 + v35))) fun x17 =>
        bnd (inn l1 (w64 (v8 + v35))) fun o18 =>
        bnd (upd l1 o18 (w64 (x17 - v10))) fun l19 =>
        glitch_part_3 F (glitch_part_2 F hd1 N) v1 v8 v9 v10 v14 v15 v16 v34 v35 l19
    else
      hd1 v1 v14 v15 (w64 (v16 + (1 : Int))) l1

theorem glitch_part_2_ok (F : Nat) (hd1 : Int → (List S_api_Tile) → Int → Int → (List Int) → Option ((List Int))) (hhd1 : ∀ (v1 : Int) (v14 : (List S_api_Tile)) (v15 : Int) (v16 : Int) (l1 : (List Int)) (sv14 : SV) (s1 : SV) (Fr : Rd) (M : Mem) (r : (List Int)) (hv14 : Slc Fr 3 (FlatR enc65) sv14 v14) (hH : Has Fr M [.vec 3 1 l1.length s1 (l1.flatMap enc3)]), hd1 v1 v14 v15 v16 l1 = some r → Run Tryz.prog ⟨⟨69, [], none⟩, []⟩ 65 (glitch_part_post r) [(1, (.int .i64 v1)), (5, s1), (14, sv14), (15, (.int .i64 v15)), (16, (.int .i64 v16))] [codeC Tryz.prog 69 [1, 1, 0, 1, 0, 0], loopC Tryz.prog 69 [1, 1, 0, 1, 0, 0], .inBlock 0, codeC Tryz.prog 69 [1, 1, 1]] M) : ∀ (N : Nat), ∀ (v1 : Int) (v8 : Int) (v9 : Int) (v10 : Int) (v14 : (List S_api_Tile)) (v15 : Int) (v16 : Int) (v34 : Int) (v35 : Int) (l1 : (List Int)) (sv14 : SV) (s1 : SV) (Fr : Rd) (M : Mem) (r : (List Int)) (hv14 : Slc Fr 3 (FlatR enc65) sv14 v14) (hH : Has Fr M [.vec 3 1 l1.length s1 (l1.flatMap enc3)]), glitch_part_2 F hd1 N v1 v8 v9 v10 v14 v15 v16 v34 v35 l1 = some r → Run Tryz.prog ⟨⟨69, [], none⟩, []⟩ 65 (glitch_part_post r) [(1, (.int .i64 v1)), (5, s1), (8, (.int .i64 v8)), (9, (.int .i64 v9)), (10, (.int .i64 v10)), (14, sv14), (15, (.int .i64 v15)), (16, (.int .i64 v16)), (34, (.int .i64 v34)), (35, (.int .i64 v35))] [codeC Tryz.prog 69 [1, 1, 0, 1, 0, 0, 1, 1, 0, 0, 1, 1, 1, 1, 0, 0], loopC Tryz.prog 69 [1, 1, 0, 1, 0, 0, 1, 1, 0, 0, 1, 1, 1, 1, 0, 0], .inBlock 2, .inBlock 1, codeC Tryz.prog 69 [1, 1, 0, 1, 0, 0, 1, 1, 1], loopC Tryz.prog 69 [1, 1, 0, 1, 0, 0], .inBlock 0, codeC Tryz.prog 69 [1, 1, 1]] M := by
  intro N
  induction N with
  | zero =>
    intro v1 v8 v9 v10 v14 v15 v16 v34 v35 l1 sv14 s1 Fr M r hv14 hH h
    simp [glitch_part_2] at h
  | succ N ih =>
    intro v1 v8 v9 v10 v14 v15 v16 v34 v35 l1 sv14 s1 Fr M r hv14 hH h
    rw [glitch_part_2] at h
    refine Run.seq (Run.region ?_)
    refine Run.opG wantS_none (ex_lss rfl rfl) rfl ?_
    refine Run.opsEnd (Run.seq ?_)
    rcases btf ((decide (v35 < v34))) with hc11 | hc11
    · have h := bif_t hc11 h
      refine Run.condT' rfl hc11 ?_
      refine Run.skip (Run.seq (Run.block (Run.seq (Run.region ?_))))
      refine Run.opG wantS_none (ex_move rfl) rfl ?_
      refine Run.opG wantS_none (ex_assign rfl) rfl ?_
      refine Run.opsEnd (Run.seq (Run.region ?_))
      refine Run.opG wantS_none (ex_move rfl) rfl ?_
      refine Run.opG wantS_none (ex_move rfl) rfl ?_
      refine Run.opG wantS_none (ex_move rfl) rfl ?_
      refine Run.opG wantS_none (ex_sub rfl rfl) rfl ?_
      refine Run.opG wantS_none (ex_quo rfl rfl (by decide)) rfl ?_
      refine Run.opG wantS_none (ex_lss rfl rfl) rfl ?_
      refine Run.opsEnd ?_
      rcases btf ((decide (v35 < (w64 (Int.tdiv (w64 (v9 - v8)) (2 : Int)))))) with hc12 | hc12
      · have h := bif_t hc12 h
        refine Run.condT' rfl hc12 ?_
        refine Run.region ?_
        refine Run.opG wantS_none (ex_move rfl) rfl ?_
        refine Run.opG wantS_none (ex_move rfl) rfl ?_
        refine Run.opG wantS_none (ex_move rfl) rfl ?_
        refine Run.opG wantS_none (ex_add rfl rfl) rfl ?_
        obtain ⟨x13, hx13, h⟩ := bnd_some h
        obtain ⟨p13, o13, hb13, hx13, he13⟩ := vec_elem (P := Tryz.prog) (t := 22) (kk := .i64) hH (i := 0) rfl hx13 els22
        refine Run.opG wantS_none (ex_elX rfl rfl hx13) rfl ?_
        refine Run.opG wantS_none (ex_load1 rfl (hH.at (enc := enc3) (a := x13) (i := 0) rfl hb13 he13 enc3_len) rdLe_rfl agg3) rfl ?_
        refine Run.opG wantS_none (ex_move rfl) rfl ?_
        refine Run.opG wantS_none (ex_add rfl rfl) rfl ?_
        obtain ⟨o14, ho14, h⟩ := bnd_some h
        obtain ⟨p14, hb14, hx14⟩ := vec_place (P := Tryz.prog) (t := 22) (kk := .i64) hH (i := 0) rfl ho14 els22
        refine Run.opG wantS_none (ex_elX rfl rfl hx14) rfl ?_
        obtain ⟨l15, hl15, h⟩ := bnd_some h
        refine Run.opX wantS_none rfl (ExG.storeEl rfl rfl hH (i := 0) rfl hb14 hl15 sz3 rfl enc3_len enc3_ones) ?_
        rintro _ M16 ⟨rfl, (hH16 : Has Fr M16 [.vec 3 1 l15.length s1 (l15.flatMap enc3)])⟩
        refine Run.opsEnd (Run.inBlock (Run.region ?_))
        exact Run.pick [1, 5, 8, 9, 10, 14, 15, 16, 34, 35] (glitch_part_3_ok F (glitch_part_2 F hd1 N) ih v1 v8 v9 v10 v14 v15 v16 v34 v35 l15 sv14 s1 _ _ _ hv14 hH16 h)
      · have h := bif_f hc12 h
        refine Run.condF' rfl hc12 ?_
        refine Run.region ?_
        refine Run.opG wantS_none (ex_move rfl) rfl ?_
        refine Run.opG wantS_none (ex_move rfl) rfl ?_
        refine Run.opG wantS_none (ex_move rfl) rfl ?_
        refine Run.opG wantS_none (ex_add rfl rfl) rfl ?_
        obtain ⟨x17, hx17, h⟩ := bnd_some h
        obtain ⟨p17, o17, hb17, hx17, he17⟩ := vec_elem (P := Tryz.prog) (t := 22) (kk := .i64) hH (i := 0) rfl hx17 els22
        refine Run.opG wantS_none (ex_elX rfl rfl hx17) rfl ?_
        refine Run.opG wantS_none (ex_load1 rfl (hH.at (enc := enc3) (a := x17) (i := 0) rfl hb17 he17 enc3_len) rdLe_rfl agg3) rfl ?_
        refine Run.opG wantS_none (ex_move rfl) rfl ?_
        refine Run.opG wantS_none (ex_sub rfl rfl) rfl ?_
        obtain ⟨o18, ho18, h⟩ := bnd_some h
        obtain ⟨p18, hb18, hx18⟩ := vec_place (P := Tryz.prog) (t := 22) (kk := .i64) hH (i := 0) rfl ho18 els22
        refine Run.opG wantS_none (ex_elX rfl rfl hx18) rfl ?_
        obtain ⟨l19, hl19, h⟩ := bnd_some h
        refine Run.opX wantS_none rfl (ExG.storeEl rfl rfl hH (i := 0) rfl hb18 hl19 sz3 rfl enc3_len enc3_ones) ?_
        rintro _ M20 ⟨rfl, (hH20 : Has Fr M20 [.vec 3 1 l19.length s1 (l19.flatMap enc3)])⟩
        refine Run.opsEnd (Run.inBlock (Run.region ?_))
        exact Run.pick [1, 5, 8, 9, 10, 14, 15, 16, 34, 35] (glitch_part_3_ok F (glitch_part_2 F hd1 N) ih v1 v8 v9 v10 v14 v15 v16 v34 v35 l19 sv14 s1 _ _ _ hv14 hH20 h)
    · have h := bif_f hc11 h
      refine Run.condF' rfl hc11 ?_
      refine Run.exit rfl (Run.inBlock (Run.region ?_))
      refine Run.opG wantS_none (ex_add rfl rfl) rfl ?_
      refine Run.opG wantS_none (ex_move rfl) rfl ?_
      refine Run.opsEnd (Run.inLoop ?_)
      exact Run.pick [1, 5, 14, 15, 16] (hhd1 v1 v14 v15 (w64 (v16 + (1 : Int))) l1 sv14 s1 _ _ _ hv14 hH h)

def glitch_part_1 (F : Nat) : Nat → Int → (List S_api_Tile) → Int → Int → (List Int) → Option ((List Int))
  | 0, _, _, _, _, _ => none
  | N + 1, v1, v14, v15, v16, l1 =>
    bif (decide (v16 < v15)) then
      bnd (idx v14 v16) fun x4 =>
      bnd (glitch_covered F x4) fun r8 =>
      bnd (shn x4.Level) fun j10 =>
      glitch_part_2 F (glitch_part_1 F N) F v1 r8.1 r8.2 (w64 (x4.D * (Int.fdiv v1 (2 ^ (min j10 (IntKind.bits .i64)))))) v14 v15 v16 (w64 (r8.2 - r8.1)) (0 : Int) l1
    else
      some l1

theorem glitch_part_1_ok (F : Nat) : ∀ (N : Nat), ∀ (v1 : Int) (v14 : (List S_api_Tile)) (v15 : Int) (v16 : Int) (l1 : (List Int)) (sv14 : SV) (s1 : SV) (Fr : Rd) (M : Mem) (r : (List Int)) (hv14 : Slc Fr 3 (FlatR enc65) sv14 v14) (hH : Has Fr M [.vec 3 1 l1.length s1 (l1.flatMap enc3)]), glitch_part_1 F N v1 v14 v15 v16 l1 = some r → Run Tryz.prog ⟨⟨69, [], none⟩, []⟩ 65 (glitch_part_post r) [(1, (.int .i64 v1)), (5, s1), (14, sv14), (15, (.int .i64 v15)), (16, (.int .i64 v16))] [codeC Tryz.prog 69 [1, 1, 0, 1, 0, 0], loopC Tryz.prog 69 [1, 1, 0, 1, 0, 0], .inBlock 0, codeC Tryz.prog 69 [1, 1, 1]] M := by
  intro N
  induction N with
  | zero =>
    intro v1 v14 v15 v16 l1 sv14 s1 Fr M r hv14 hH h
    simp [glitch_part_1] at h
  | succ N ih =>
    intro v1 v14 v15 v16 l1 sv14 s1 Fr M r hv14 hH h
    rw [glitch_part_1] at h
    refine Run.seq (Run.region ?_)
    refine Run.opG wantS_none (ex_lss rfl rfl) rfl ?_
    refine Run.opsEnd (Run.seq ?_)
    rcases btf ((decide (v16 < v15))) with hc3 | hc3
    · have h := bif_t hc3 h
      refine Run.condT' rfl hc3 ?_
      refine Run.skip (Run.seq (Run.block (Run.seq (Run.region ?_))))
      obtain ⟨x4, hx4, h⟩ := bnd_some h
      obtain ⟨p4, o4, _, hx4, hp4, rfl⟩ := sl_elem (P := Tryz.prog) (t := 31) (kk := .i64) hv14 hx4 els31
      refine Run.opG wantS_none (ex_elX rfl rfl hx4) rfl ?_
      refine Run.opG wantS_none (ex_loadA rfl (hH.ptrF hp4) rdLe_rfl agg65 rfl rfl rfl) rfl ?_
      refine Run.opX wantS_none rfl (ExG.new (v := fun b => .ptr b 0) (ex_alloc zer65) hH) ?_
      rintro _ M6 ⟨b5, rfl, (hH6 : Has Fr M6 [.obj b5 (.row 65 .whole [(.int .i64 0), (.int .i64 0), (.int .i64 0)]), .vec 3 1 l1.length s1 (l1.flatMap enc3)])⟩
      refine Run.opX wantS_none rfl (ExG.storeC (c' := [(.int .i64 x4.Level), (.int .i64 x4.At), (.int .i64 x4.D)]) rfl rfl rfl hH6 (i := 0) rfl sz65 rfl rfl rfl rfl rfl) ?_
      rintro _ M7 ⟨rfl, (hH7 : Has Fr M7 [.obj b5 (.row 65 .whole [(.int .i64 x4.Level), (.int .i64 x4.At), (.int .i64 x4.D)]), .vec 3 1 l1.length s1 (l1.flatMap enc3)])⟩
      refine Run.opsEnd (Run.seq (Run.region ?_))
      refine Run.opG wantS_none (ex_loadA rfl (hH7.cells (i := 0) rfl 0 rfl) rdLe_rfl agg65 rfl rfl rfl) rfl ?_
      obtain ⟨r8, hr8, h⟩ := bnd_some h
      refine Run.callP wantS_none (ex_call rfl mkk105 cal105) rfl (glitch_covered_ok F x4 _ _ hr8) ?_
      refine Run.opG wantS_none (ex_move rfl) rfl ?_
      refine Run.opG wantS_none (ex_extract rfl rfl) rfl ?_
      refine Run.opG wantS_none (ex_extract rfl rfl) rfl ?_
      refine Run.opG wantS_none (ex_assign rfl) rfl ?_
      refine Run.opG wantS_none (ex_assign rfl) rfl ?_
      refine Run.opsEnd (Run.seq ?_)
      refine Run.drawG plan69_1_1_0_1_0_0_1_1_0_0_1_1_0 ?_
      refine DrawG.fl rfl (ev_ex wantS_none (ex_fieldAddr rfl off65_2)) rfl ?_
      refine DrawG.fl rfl (ev_ex wantS_none (ex_load1 rfl (hH7.cells (i := 0) rfl 2 rfl) rdLe_rfl agg3)) rfl ?_
      refine DrawG.fl rfl (ev_ex wantS_none (ex_move rfl)) rfl ?_
      refine DrawG.fl rfl (ev_ex wantS_none (ex_fieldAddr rfl off65_0)) rfl ?_
      refine DrawG.fl rfl (ev_ex wantS_none (ex_load1 rfl (hH7.cells (i := 0) rfl 0 rfl) rdLe_rfl agg3)) rfl ?_
      obtain ⟨j10, hj10, h⟩ := bnd_some h
      refine DrawG.fl rfl (ev_ex wantS_none (ex_shr' rfl rfl hj10)) rfl ?_
      refine DrawG.fl rfl (ev_ex wantS_none (ex_mul rfl rfl)) rfl ?_
      refine DrawG.fl rfl (ev_ex wantS_none (ex_assign rfl)) rfl ?_
      refine DrawG.sync ?_
      refine DrawG.nil ?_
      refine Run.seq (Run.region ?_)
      refine Run.opG wantS_none (ex_move rfl) rfl ?_
      refine Run.opG wantS_none (ex_move rfl) rfl ?_
      refine Run.opG wantS_none (ex_sub rfl rfl) rfl ?_
      refine Run.opG wantS_none (ex_move rfl) rfl ?_
      refine Run.opsEnd (Run.block (Run.loop ?_))
      exact Run.pick [1, 5, 8, 9, 10, 14, 15, 16, 34, 35] (glitch_part_2_ok F (glitch_part_1 F N) ih F v1 r8.1 r8.2 (w64 (x4.D * (Int.fdiv v1 (2 ^ (min j10 (IntKind.bits .i64)))))) v14 v15 v16 (w64 (r8.2 - r8.1)) (0 : Int) l1 sv14 s1 _ _ _ hv14 (hH7.pick [1] rfl rfl) h)
    · have h := bif_f hc3 h
      refine Run.condF' rfl hc3 ?_
      refine Run.exit rfl (Run.seq (Run.region ?_))
      refine Run.opG wantS_none (ex_move rfl) rfl ?_
      refine Run.opG wantS_none (ex_assign rfl) rfl ?_
      refine Run.opsEnd ?_
      cases h
      exact Run.ret Tryz.func69 rfl (res_tmp rfl res_nil) ⟨_, rfl, (hH.pick [0] rfl rfl).upF (none_le _)⟩

def glitch_part (F : Nat) (a0 : (List S_api_Tile)) (a1 : Int) : Option ((List Int)) :=
  bnd (mk a1 8 (0 : Int)) fun l1 =>
  glitch_part_1 F F a1 a0 (a0.length : Int) (0 : Int) l1

theorem glitch_part_ok (F : Nat) (a0 : (List S_api_Tile)) (a1 : Int) (s0 : SV) (r : (List Int)) (M : Mem) (hs0 : Slc (rd M) 3 (FlatR enc65) s0 a0) (h : glitch_part F a0 a1 = some r) : CallsM Tryz.prog 69 [s0, (.int .i64 a1)] M (fun s M' => ∃ q1, s = q1 ∧ New M M' [.vec 3 1 r.length q1 (r.flatMap enc3)]) := by
  refine CallsM.fresh (Q := glitch_part_post r) Tryz.func69 rfl rfl ?_ (by rintro s Me ⟨q1, rfl, hx⟩ ha hw; exact ⟨_, rfl, New.of rfl hx ha hw⟩)
  rw [glitch_part] at h
  replace hs0 := hs0.mono (rdLe_frozen M) (fun _ _ h => h)
  have hH := Has.nil (frozen M)
  refine Run.seq (Run.region ?_)
  refine Run.opG wantS_none (ex_assign rfl) rfl ?_
  refine Run.opsEnd (Run.seq (Run.region ?_))
  refine Run.opG wantS_none (ex_move rfl) rfl ?_
  obtain ⟨l1, hl1, h⟩ := bnd_some h
  refine Run.opX wantS_none rfl (ExG.make (enc := enc3) (z := 1) rfl rfl hl1 elt22 rfl rfl enc3_len hH) ?_
  rintro s1 M2 (hH2 : Has (ro (frozen M)) M2 [.vec 3 1 l1.length s1 (l1.flatMap enc3)])
  refine Run.opG wantS_none (ex_assign rfl) rfl ?_
  refine Run.opsEnd (Run.seq (Run.seq (Run.region ?_)))
  refine Run.opG wantS_none (ex_move rfl) rfl ?_
  refine Run.opG wantS_none (ex_len' rfl hs0 lenk31) rfl ?_
  refine Run.opG wantS_none (ex_move rfl) rfl ?_
  refine Run.opsEnd (Run.block (Run.loop ?_))
  exact Run.pick [1, 5, 14, 15, 16] (glitch_part_1_ok F F a1 a0 (a0.length : Int) (0 : Int) l1 s0 s1 _ _ _ hs0 hH2 h)

theorem mkk69 : makeK Tryz.prog 69 = none := by kernel_rfl
theorem cal69 : callable Tryz.prog 69 = true := by kernel_rfl
abbrev glitch_areTilesOf_c_post (r : Bool) : SV → Mem → Prop := fun s _ => s = (.bool r)

def glitch_areTilesOf_c_3 (F : Nat) (hd2 : (List Int) → Int → Int → (List Int) → Int → Int → Bool → (List S_api_Tile) → (List Int) → Option (Bool)) (v4 : Bool) (v18 : Bool) (v3_f1 : (List Int)) (v4_f1 : Int) (v5_f1 : Int) (v23_f1 : (List Int)) (v24_f1 : Int) (v25_f1 : Int) (c1_0 : (List S_api_Tile)) (v4_g5 : Bool) (c3_0 : (List Int)) : Option (Bool) :=
  bif v18 then
    bnd (subc c1_0 (1 : Int) (c1_0.length : Int)) fun l23 =>
    hd2 v3_f1 v4_f1 v5_f1 v23_f1 v24_f1 (w64 (v25_f1 + (1 : Int))) v4_g5 l23 c3_0
  else
    hd2 v3_f1 v4_f1 v5_f1 v23_f1 v24_f1 (w64 (v25_f1 + (1 : Int))) v4_g5 c1_0 c3_0

theorem glitch_areTilesOf_c_3_ok (F : Nat) (hd2 : (List Int) → Int → Int → (List Int) → Int → Int → Bool → (List S_api_Tile) → (List Int) → Option (Bool)) (hhd2 : ∀ (v3 : (List Int)) (v4 : Int) (v5 : Int) (v23 : (List Int)) (v24 : Int) (v25 : Int) (v4_g5 : Bool) (c1_0 : (List S_api_Tile)) (c3_0 : (List Int)) (sv3 : SV) (sv23 : SV) (sc1_0 : SV) (sc3_0 : SV) (b5 : Pos) (b1 : Pos) (b3 : Pos) (b6 : Pos) (Fr : Rd) (M : Mem) (r : Bool) (hv3 : Slc Fr 1 (FlatR enc3) sv3 v3) (hv23 : Slc Fr 1 (FlatR enc3) sv23 v23) (hc1_0 : Slc Fr 3 (FlatR enc65) sc1_0 c1_0) (kc1_0 : clo sc1_0 = true) (hc3_0 : Slc Fr 1 (FlatR enc3) sc3_0 c3_0) (kc3_0 : clo sc3_0 = true) (hH : Has Fr M [.obj b5 (.loop ⟨.ready, none, 68, 24, treeOf [(3, (.ptr b1 0)), (4, (.bool v4_g5)), (7, (.fn (.func 97) [] [(.ptr b3 0)]))], [8], (atC Tryz.prog 68 [1, 0, 1, 0, 0]), (atC Tryz.prog 68 [1, 0, 1, 0, 1]), b6⟩), .obj b1 (.row 31 .whole [sc1_0]), .obj b3 (.row 22 .whole [sc3_0]), .obj b6 .defd]), hd2 v3 v4 v5 v23 v24 v25 v4_g5 c1_0 c3_0 = some r → Run Tryz.prog ⟨⟨97, [], none⟩, [.mk ⟨68, [b6], none⟩ 24 (treeOf [(3, (.ptr b1 0))]) [.inRange b5, .inBlock 0, codeC Tryz.prog 68 [1, 1]]]⟩ 38 (glitch_areTilesOf_c_post r) [(0, (.yield b5)), (3, sv3), (4, (.int .i64 v4)), (5, (.int .i64 v5)), (23, sv23), (24, (.int .i64 v24)), (25, (.int .i64 v25))] [codeC Tryz.prog 97 [1, 1, 1, 0, 0, 1, 0, 0, 1, 1, 0, 0], loopC Tryz.prog 97 [1, 1, 1, 0, 0, 1, 0, 0, 1, 1, 0, 0], .inBlock 2, .inBlock 1, codeC Tryz.prog 97 [1, 1, 1, 0, 0, 1, 1], loopC Tryz.prog 97 [1, 1, 1, 0, 0], .inBlock 0] M) : ∀ (v4 : Bool) (v18 : Bool) (v3_f1 : (List Int)) (v4_f1 : Int) (v5_f1 : Int) (v23_f1 : (List Int)) (v24_f1 : Int) (v25_f1 : Int) (c1_0 : (List S_api_Tile)) (v4_g5 : Bool) (c3_0 : (List Int)) (sv3_f1 : SV) (sv23_f1 : SV) (sc1_0 : SV) (sc3_0 : SV) (b1 : Pos) (b5 : Pos) (b3 : Pos) (b6 : Pos) (Fr : Rd) (M : Mem) (r : Bool) (hv3_f1 : Slc Fr 1 (FlatR enc3) sv3_f1 v3_f1) (hv23_f1 : Slc Fr 1 (FlatR enc3) sv23_f1 v23_f1) (hc1_0 : Slc Fr 3 (FlatR enc65) sc1_0 c1_0) (kc1_0 : clo sc1_0 = true) (hc3_0 : Slc Fr 1 (FlatR enc3) sc3_0 c3_0) (kc3_0 : clo sc3_0 = true) (hH : Has Fr M [.obj b1 (.row 31 .whole [sc1_0]), .obj b5 (.loop ⟨.busy, none, 68, 24, treeOf [(3, (.ptr b1 0)), (4, (.bool v4_g5)), (7, (.fn (.func 97) [] [(.ptr b3 0)]))], [8], (atC Tryz.prog 68 [1, 0, 1, 0, 0]), (atC Tryz.prog 68 [1, 0, 1, 0, 1]), b6⟩), .obj b3 (.row 22 .whole [sc3_0]), .obj b6 .defd]), glitch_areTilesOf_c_3 F hd2 v4 v18 v3_f1 v4_f1 v5_f1 v23_f1 v24_f1 v25_f1 c1_0 v4_g5 c3_0 = some r → Run Tryz.prog ⟨⟨68, [], some b5⟩, [.mk ⟨97, [], none⟩ 38 (treeOf [(0, (.yield b5)), (3, sv3_f1), (4, (.int .i64 v4_f1)), (5, (.int .i64 v5_f1)), (23, sv23_f1), (24, (.int .i64 v24_f1)), (25, (.int .i64 v25_f1))]) [itemC Tryz.prog 97 [1, 1, 1, 0, 0, 1, 0, 0, 1, 1, 0, 0, 1, 1, 0, 0, 1, 0] 5, codeC Tryz.prog 97 [1, 1, 1, 0, 0, 1, 0, 0, 1, 1, 0, 0, 1, 1, 0, 0, 1, 1], .inBlock 3, codeC Tryz.prog 97 [1, 1, 1, 0, 0, 1, 0, 0, 1, 1, 0, 0, 1, 1, 1], loopC Tryz.prog 97 [1, 1, 1, 0, 0, 1, 0, 0, 1, 1, 0, 0], .inBlock 2, .inBlock 1, codeC Tryz.prog 97 [1, 1, 1, 0, 0, 1, 1], loopC Tryz.prog 97 [1, 1, 1, 0, 0], .inBlock 0], .mk ⟨68, [b6], none⟩ 24 (treeOf [(3, (.ptr b1 0))]) [.inRange b5, .inBlock 0, codeC Tryz.prog 68 [1, 1]]]⟩ 24 (glitch_areTilesOf_c_post r) [(3, (.ptr b1 0)), (4, (.bool v4)), (18, (.bool v18))] [codeC Tryz.prog 68 [1, 0, 1, 0, 1, 0, 1], .inBlock 1] M := by
  intro v4 v18 v3_f1 v4_f1 v5_f1 v23_f1 v24_f1 v25_f1 c1_0 v4_g5 c3_0 sv3_f1 sv23_f1 sc1_0 sc3_0 b1 b5 b3 b6 Fr M r hv3_f1 hv23_f1 hc1_0 kc1_0 hc3_0 kc3_0 hH h
  rw [glitch_areTilesOf_c_3] at h
  rcases btf (v18) with hc22 | hc22
  · have h := bif_t hc22 h
    refine Run.condT' rfl hc22 ?_
    refine Run.region ?_
    refine Run.opG wantS_none (ex_load1 rfl (hH.cells (i := 0) rfl 0 rfl) rdLe_rfl agg31) rfl ?_
    obtain ⟨l23, hl23, h⟩ := bnd_some h
    obtain ⟨s23, hx23, hs23, kc23⟩ := sl_cutL (P := Tryz.prog) (t := 31) (k0 := .i64) hc1_0 kc1_0 hl23 slk31
    refine Run.opG wantS_none (ex_slX rfl (argO_some rfl) (argO_none) hx23) rfl ?_
    refine Run.opX wantS_none rfl (ExG.storeC (c' := [s23]) rfl rfl (cells_one (slc_one hs23)) hH (i := 0) rfl sz31 rfl rfl rfl (ones_cons (slc_one hs23) ones_nil) rfl) ?_
    rintro _ M24 ⟨rfl, (hH24 : Has Fr M24 [.obj b1 (.row 31 .whole [s23]), .obj b5 (.loop ⟨.busy, none, 68, 24, treeOf [(3, (.ptr b1 0)), (4, (.bool v4_g5)), (7, (.fn (.func 97) [] [(.ptr b3 0)]))], [8], (atC Tryz.prog 68 [1, 0, 1, 0, 0]), (atC Tryz.prog 68 [1, 0, 1, 0, 1]), b6⟩), .obj b3 (.row 22 .whole [sc3_0]), .obj b6 .defd])⟩
    refine Run.opsEnd (Run.inBlock ?_)
    refine Run.roundEndX hH24 (i := 1) rfl rfl ?_
    intro M25 (hH25 : Has Fr M25 [.obj b1 (.row 31 .whole [s23]), .obj b5 (.loop ⟨.ready, none, 68, 24, treeOf [(3, (.ptr b1 0)), (4, (.bool v4_g5)), (7, (.fn (.func 97) [] [(.ptr b3 0)]))], [8], (atC Tryz.prog 68 [1, 0, 1, 0, 0]), (atC Tryz.prog 68 [1, 0, 1, 0, 1]), b6⟩), .obj b3 (.row 22 .whole [sc3_0]), .obj b6 .defd])
    refine Run.opG wantS_none (ex_not rfl) rfl ?_
    refine Run.opsEnd ?_
    refine Run.condF' rfl (bnot_f rfl) ?_
    refine Run.skip (Run.inBlock (Run.region ?_))
    refine Run.opG wantS_none (ex_add rfl rfl) rfl ?_
    refine Run.opG wantS_none (ex_move rfl) rfl ?_
    refine Run.opsEnd (Run.inLoop ?_)
    exact Run.low (.cons (fle_pick [3] rfl) .nil) (Run.pick [0, 3, 4, 5, 23, 24, 25] (hhd2 v3_f1 v4_f1 v5_f1 v23_f1 v24_f1 (w64 (v25_f1 + (1 : Int))) v4_g5 l23 c3_0 sv3_f1 sv23_f1 s23 sc3_0 b5 b1 b3 b6 _ _ _ hv3_f1 hv23_f1 hs23 kc23 hc3_0 kc3_0 (hH25.pick [1, 0, 2, 3] rfl rfl) h))
  · have h := bif_f hc22 h
    refine Run.condF' rfl hc22 ?_
    refine Run.skip (Run.inBlock ?_)
    refine Run.roundEndX hH (i := 1) rfl rfl ?_
    intro M26 (hH26 : Has Fr M26 [.obj b1 (.row 31 .whole [sc1_0]), .obj b5 (.loop ⟨.ready, none, 68, 24, treeOf [(3, (.ptr b1 0)), (4, (.bool v4_g5)), (7, (.fn (.func 97) [] [(.ptr b3 0)]))], [8], (atC Tryz.prog 68 [1, 0, 1, 0, 0]), (atC Tryz.prog 68 [1, 0, 1, 0, 1]), b6⟩), .obj b3 (.row 22 .whole [sc3_0]), .obj b6 .defd])
    refine Run.opG wantS_none (ex_not rfl) rfl ?_
    refine Run.opsEnd ?_
    refine Run.condF' rfl (bnot_f rfl) ?_
    refine Run.skip (Run.inBlock (Run.region ?_))
    refine Run.opG wantS_none (ex_add rfl rfl) rfl ?_
    refine Run.opG wantS_none (ex_move rfl) rfl ?_
    refine Run.opsEnd (Run.inLoop ?_)
    exact Run.low (.cons (fle_pick [3] rfl) .nil) (Run.pick [0, 3, 4, 5, 23, 24, 25] (hhd2 v3_f1 v4_f1 v5_f1 v23_f1 v24_f1 (w64 (v25_f1 + (1 : Int))) v4_g5 c1_0 c3_0 sv3_f1 sv23_f1 sc1_0 sc3_0 b5 b1 b3 b6 _ _ _ hv3_f1 hv23_f1 hc1_0 kc1_0 hc3_0 kc3_0 (hH26.pick [1, 0, 2, 3] rfl rfl) h))

def glitch_areTilesOf_c_2 (F : Nat) (hd1 : (List Int) → Int → Int → Bool → (List S_api_Tile) → (List Int) → Option (Bool)) : Nat → (List Int) → Int → Int → (List Int) → Int → Int → Bool → (List S_api_Tile) → (List Int) → Option (Bool)
  | 0, _, _, _, _, _, _, _, _, _ => none
  | N + 1, v3, v4, v5, v23, v24, v25, v4_g5, c1_0, c3_0 =>
    bif (decide (v25 < v24)) then
      bnd (idx v23 v25) fun x15 =>
      bif (decide ((0 : Int) < (c1_0.length : Int))) then
        bnd (idx c1_0 (0 : Int)) fun x21 =>
        glitch_areTilesOf_c_3 F (glitch_areTilesOf_c_2 F hd1 N) v4_g5 ((x21.Level == v4) && ((x21.At == v25) && ((x21.D == x15) && true))) v3 v4 v5 v23 v24 v25 c1_0 v4_g5 c3_0
      else
        glitch_areTilesOf_c_3 F (glitch_areTilesOf_c_2 F hd1 N) v4_g5 false v3 v4 v5 v23 v24 v25 c1_0 v4_g5 c3_0
    else
      hd1 v3 v4 (w64 (Int.tdiv v5 (2 : Int))) v4_g5 c1_0 c3_0

theorem glitch_areTilesOf_c_2_ok (F : Nat) (hd1 : (List Int) → Int → Int → Bool → (List S_api_Tile) → (List Int) → Option (Bool)) (hhd1 : ∀ (v3 : (List Int)) (v4 : Int) (v5 : Int) (v4_g5 : Bool) (c1_0 : (List S_api_Tile)) (c3_0 : (List Int)) (sv3 : SV) (sc1_0 : SV) (sc3_0 : SV) (b5 : Pos) (b1 : Pos) (b3 : Pos) (b6 : Pos) (Fr : Rd) (M : Mem) (r : Bool) (hv3 : Slc Fr 1 (FlatR enc3) sv3 v3) (hc1_0 : Slc Fr 3 (FlatR enc65) sc1_0 c1_0) (kc1_0 : clo sc1_0 = true) (hc3_0 : Slc Fr 1 (FlatR enc3) sc3_0 c3_0) (kc3_0 : clo sc3_0 = true) (hH : Has Fr M [.obj b5 (.loop ⟨.ready, none, 68, 24, treeOf [(3, (.ptr b1 0)), (4, (.bool v4_g5)), (7, (.fn (.func 97) [] [(.ptr b3 0)]))], [8], (atC Tryz.prog 68 [1, 0, 1, 0, 0]), (atC Tryz.prog 68 [1, 0, 1, 0, 1]), b6⟩), .obj b1 (.row 31 .whole [sc1_0]), .obj b3 (.row 22 .whole [sc3_0]), .obj b6 .defd]), hd1 v3 v4 v5 v4_g5 c1_0 c3_0 = some r → Run Tryz.prog ⟨⟨97, [], none⟩, [.mk ⟨68, [b6], none⟩ 24 (treeOf [(3, (.ptr b1 0))]) [.inRange b5, .inBlock 0, codeC Tryz.prog 68 [1, 1]]]⟩ 38 (glitch_areTilesOf_c_post r) [(0, (.yield b5)), (3, sv3), (4, (.int .i64 v4)), (5, (.int .i64 v5))] [codeC Tryz.prog 97 [1, 1, 1, 0, 0], loopC Tryz.prog 97 [1, 1, 1, 0, 0], .inBlock 0] M) : ∀ (N : Nat), ∀ (v3 : (List Int)) (v4 : Int) (v5 : Int) (v23 : (List Int)) (v24 : Int) (v25 : Int) (v4_g5 : Bool) (c1_0 : (List S_api_Tile)) (c3_0 : (List Int)) (sv3 : SV) (sv23 : SV) (sc1_0 : SV) (sc3_0 : SV) (b5 : Pos) (b1 : Pos) (b3 : Pos) (b6 : Pos) (Fr : Rd) (M : Mem) (r : Bool) (hv3 : Slc Fr 1 (FlatR enc3) sv3 v3) (hv23 : Slc Fr 1 (FlatR enc3) sv23 v23) (hc1_0 : Slc Fr 3 (FlatR enc65) sc1_0 c1_0) (kc1_0 : clo sc1_0 = true) (hc3_0 : Slc Fr 1 (FlatR enc3) sc3_0 c3_0) (kc3_0 : clo sc3_0 = true) (hH : Has Fr M [.obj b5 (.loop ⟨.ready, none, 68, 24, treeOf [(3, (.ptr b1 0)), (4, (.bool v4_g5)), (7, (.fn (.func 97) [] [(.ptr b3 0)]))], [8], (atC Tryz.prog 68 [1, 0, 1, 0, 0]), (atC Tryz.prog 68 [1, 0, 1, 0, 1]), b6⟩), .obj b1 (.row 31 .whole [sc1_0]), .obj b3 (.row 22 .whole [sc3_0]), .obj b6 .defd]), glitch_areTilesOf_c_2 F hd1 N v3 v4 v5 v23 v24 v25 v4_g5 c1_0 c3_0 = some r → Run Tryz.prog ⟨⟨97, [], none⟩, [.mk ⟨68, [b6], none⟩ 24 (treeOf [(3, (.ptr b1 0))]) [.inRange b5, .inBlock 0, codeC Tryz.prog 68 [1, 1]]]⟩ 38 (glitch_areTilesOf_c_post r) [(0, (.yield b5)), (3, sv3), (4, (.int .i64 v4)), (5, (.int .i64 v5)), (23, sv23), (24, (.int .i64 v24)), (25, (.int .i64 v25))] [codeC Tryz.prog 97 [1, 1, 1, 0, 0, 1, 0, 0, 1, 1, 0, 0], loopC Tryz.prog 97 [1, 1, 1, 0, 0, 1, 0, 0, 1, 1, 0, 0], .inBlock 2, .inBlock 1, codeC Tryz.prog 97 [1, 1, 1, 0, 0, 1, 1], loopC Tryz.prog 97 [1, 1, 1, 0, 0], .inBlock 0] M := by
  intro N
  induction N with
  | zero =>
    intro v3 v4 v5 v23 v24 v25 v4_g5 c1_0 c3_0 sv3 sv23 sc1_0 sc3_0 b5 b1 b3 b6 Fr M r hv3 hv23 hc1_0 kc1_0 hc3_0 kc3_0 hH h
    simp [glitch_areTilesOf_c_2] at h
  | succ N ih =>
    intro v3 v4 v5 v23 v24 v25 v4_g5 c1_0 c3_0 sv3 sv23 sc1_0 sc3_0 b5 b1 b3 b6 Fr M r hv3 hv23 hc1_0 kc1_0 hc3_0 kc3_0 hH h
    rw [glitch_areTilesOf_c_2] at h
    refine Run.seq (Run.region ?_)
    refine Run.opG wantS_none (ex_lss rfl rfl) rfl ?_
    refine Run.opsEnd (Run.seq ?_)
    rcases btf ((decide (v25 < v24))) with hc14 | hc14
    · have h := bif_t hc14 h
      refine Run.condT' rfl hc14 ?_
      refine Run.skip (Run.seq (Run.block (Run.seq (Run.region ?_))))
      refine Run.opG wantS_none (ex_move rfl) rfl ?_
      obtain ⟨x15, hx15, h⟩ := bnd_some h
      obtain ⟨p15, o15, _, hx15, hp15, rfl⟩ := sl_elem (P := Tryz.prog) (t := 22) (kk := .i64) hv23 hx15 els22
      refine Run.opG wantS_none (ex_elX rfl rfl hx15) rfl ?_
      refine Run.opG wantS_none (ex_load1 rfl (hH.ptrF hp15) rdLe_rfl agg3) rfl ?_
      refine Run.opG wantS_none (ex_assign rfl) rfl ?_
      refine Run.opG wantS_none (ex_assign rfl) rfl ?_
      refine Run.opsEnd (Run.seq (Run.region ?_))
      refine Run.opG wantS_none (ex_move rfl) rfl ?_
      refine Run.opG wantS_none (ex_move rfl) rfl ?_
      refine Run.opG wantS_none (ex_move rfl) rfl ?_
      refine Run.opG wantS_none (ex_move rfl) rfl ?_
      refine Run.opG wantS_none (ex_build (r := [(.int .i64 v4), (.int .i64 v25), (.int .i64 x15)]) rfl zer65 pls65 rfl) rfl ?_
      refine Run.round (e' := [(8, (.agg [(.int .i64 v4), (.int .i64 v25), (.int .i64 x15)])), (3, (.ptr b1 0)), (4, (.bool v4_g5)), (7, (.fn (.func 97) [] [(.ptr b3 0)]))]) wantS_none (ex_yield hH (i := 0) rfl rfl rfl rfl) (hH.loopOf (i := 0) rfl) rfl ?_
      refine Run.region ?_
      refine Run.opX wantS_none rfl (ExG.new (v := fun b => .ptr b 0) (ex_alloc zer65) hH) ?_
      rintro _ M17 ⟨b16, rfl, (hH17 : Has Fr M17 [.obj b16 (.row 65 .whole [(.int .i64 0), (.int .i64 0), (.int .i64 0)]), .obj b5 (.loop ⟨.ready, none, 68, 24, treeOf [(3, (.ptr b1 0)), (4, (.bool v4_g5)), (7, (.fn (.func 97) [] [(.ptr b3 0)]))], [8], (atC Tryz.prog 68 [1, 0, 1, 0, 0]), (atC Tryz.prog 68 [1, 0, 1, 0, 1]), b6⟩), .obj b1 (.row 31 .whole [sc1_0]), .obj b3 (.row 22 .whole [sc3_0]), .obj b6 .defd])⟩
      refine Run.opX wantS_none rfl (ExG.storeC (c' := [(.int .i64 v4), (.int .i64 v25), (.int .i64 x15)]) rfl rfl rfl hH17 (i := 0) rfl sz65 rfl rfl rfl rfl rfl) ?_
      rintro _ M18 ⟨rfl, (hH18 : Has Fr M18 [.obj b16 (.row 65 .whole [(.int .i64 v4), (.int .i64 v25), (.int .i64 x15)]), .obj b5 (.loop ⟨.ready, none, 68, 24, treeOf [(3, (.ptr b1 0)), (4, (.bool v4_g5)), (7, (.fn (.func 97) [] [(.ptr b3 0)]))], [8], (atC Tryz.prog 68 [1, 0, 1, 0, 0]), (atC Tryz.prog 68 [1, 0, 1, 0, 1]), b6⟩), .obj b1 (.row 31 .whole [sc1_0]), .obj b3 (.row 22 .whole [sc3_0]), .obj b6 .defd])⟩
      refine Run.opsEnd ?_
      refine Run.beginX hH18 (i := 1) rfl rfl ?_
      intro M19 (hH19 : Has Fr M19 [.obj b16 (.row 65 .whole [(.int .i64 v4), (.int .i64 v25), (.int .i64 x15)]), .obj b5 (.loop ⟨.busy, none, 68, 24, treeOf [(3, (.ptr b1 0)), (4, (.bool v4_g5)), (7, (.fn (.func 97) [] [(.ptr b3 0)]))], [8], (atC Tryz.prog 68 [1, 0, 1, 0, 0]), (atC Tryz.prog 68 [1, 0, 1, 0, 1]), b6⟩), .obj b1 (.row 31 .whole [sc1_0]), .obj b3 (.row 22 .whole [sc3_0]), .obj b6 .defd])
      refine Run.block (Run.seq ?_)
      refine Run.drawG plan68_1_0_1_0_1_0_0 ?_
      refine DrawG.fl rfl (ev_ex wantS_none (ex_load1 rfl (hH19.cells (i := 2) rfl 0 rfl) rdLe_rfl agg31)) rfl ?_
      refine DrawG.fl rfl (ev_ex wantS_none (ex_len' rfl hc1_0 lenk31)) rfl ?_
      refine DrawG.fl rfl (ev_ex wantS_none (ex_gtr rfl rfl)) rfl ?_
      refine DrawG.fl rfl (ev_ex wantS_none (ex_move rfl)) rfl ?_
      rcases btf ((decide ((0 : Int) < (c1_0.length : Int)))) with hc20 | hc20
      · have h := bif_t hc20 h
        refine DrawG.fl rfl (ev_ex (wantS_yes' rfl rfl hc20) (ex_load1 rfl (hH19.cells (i := 2) rfl 0 rfl) rdLe_rfl agg31)) rfl ?_
        obtain ⟨x21, hx21, h⟩ := bnd_some h
        obtain ⟨p21, o21, _, hx21, hp21, rfl⟩ := sl_elem (P := Tryz.prog) (t := 31) (kk := .i64) hc1_0 hx21 els31
        refine DrawG.fl rfl (ev_ex (wantS_yes' rfl rfl hc20) (ex_elX rfl rfl hx21)) rfl ?_
        refine DrawG.fl rfl (ev_ex (wantS_yes' rfl rfl hc20) (ex_loadA rfl (hH19.ptrF hp21) rdLe_rfl agg65 rfl rfl rfl)) rfl ?_
        refine DrawG.fl rfl (ev_ex (wantS_yes' rfl rfl hc20) (ex_loadA rfl (hH19.cells (i := 0) rfl 0 rfl) rdLe_rfl agg65 rfl rfl rfl)) rfl ?_
        refine DrawG.fl rfl (ev_ex (wantS_yes' rfl rfl hc20) (ex_eqlA rfl rfl aeq65 (eqA_st agk65 (eqFs_cons (by decide) (part_one agg3 rfl) (part_one agg3 rfl) (eqA_int agk3) (eqFs_cons (by decide) (part_one agg3 rfl) (part_one agg3 rfl) (eqA_int agk3) (eqFs_cons (by decide) (part_one agg3 rfl) (part_one agg3 rfl) (eqA_int agk3) eqFs_nil)))))) rfl ?_
        refine DrawG.fl rfl (ev_ex wantS_none (ex_pickT' rfl hc20 rfl rfl)) rfl ?_
        refine DrawG.sync ?_
        refine DrawG.nil ?_
        exact Run.low (.cons (fle_pick [0, 3, 4, 5, 23, 24, 25] rfl) (.cons (fle_pick [3] rfl) .nil)) (Run.pick [3, 4, 18] (glitch_areTilesOf_c_3_ok F (glitch_areTilesOf_c_2 F hd1 N) ih v4_g5 ((x21.Level == v4) && ((x21.At == v25) && ((x21.D == x15) && true))) v3 v4 v5 v23 v24 v25 c1_0 v4_g5 c3_0 sv3 sv23 sc1_0 sc3_0 b1 b5 b3 b6 _ _ _ hv3 hv23 hc1_0 kc1_0 hc3_0 kc3_0 (hH19.pick [2, 1, 3, 4] rfl rfl) h))
      · have h := bif_f hc20 h
        refine DrawG.fl rfl (ev_no (wantS_not' rfl rfl hc20)) rfl ?_
        refine DrawG.fl rfl (ev_no (wantS_not' rfl rfl hc20)) rfl ?_
        refine DrawG.fl rfl (ev_no (wantS_not' rfl rfl hc20)) rfl ?_
        refine DrawG.fl rfl (ev_no (wantS_not' rfl rfl hc20)) rfl ?_
        refine DrawG.fl rfl (ev_no (wantS_not' rfl rfl hc20)) rfl ?_
        refine DrawG.fl rfl (ev_ex wantS_none (ex_pickF' rfl hc20 rfl rfl)) rfl ?_
        refine DrawG.sync ?_
        refine DrawG.nil ?_
        exact Run.low (.cons (fle_pick [0, 3, 4, 5, 23, 24, 25] rfl) (.cons (fle_pick [3] rfl) .nil)) (Run.pick [3, 4, 18] (glitch_areTilesOf_c_3_ok F (glitch_areTilesOf_c_2 F hd1 N) ih v4_g5 false v3 v4 v5 v23 v24 v25 c1_0 v4_g5 c3_0 sv3 sv23 sc1_0 sc3_0 b1 b5 b3 b6 _ _ _ hv3 hv23 hc1_0 kc1_0 hc3_0 kc3_0 (hH19.pick [2, 1, 3, 4] rfl rfl) h))
    · have h := bif_f hc14 h
      refine Run.condF' rfl hc14 ?_
      refine Run.exit rfl (Run.inBlock (Run.region ?_))
      refine Run.opG wantS_none (ex_move rfl) rfl ?_
      refine Run.opG wantS_none (ex_quo rfl rfl (by decide)) rfl ?_
      refine Run.opG wantS_none (ex_assign rfl) rfl ?_
      refine Run.opsEnd (Run.inLoop ?_)
      exact Run.low (.cons (fle_pick [3] rfl) .nil) (Run.pick [0, 3, 4, 5] (hhd1 v3 v4 (w64 (Int.tdiv v5 (2 : Int))) v4_g5 c1_0 c3_0 sv3 sc1_0 sc3_0 b5 b1 b3 b6 _ _ _ hv3 hc1_0 kc1_0 hc3_0 kc3_0 hH h))

def glitch_areTilesOf_c_1 (F : Nat) : Nat → (List Int) → Int → Int → Bool → (List S_api_Tile) → (List Int) → Option (Bool)
  | 0, _, _, _, _, _, _ => none
  | N + 1, v3, v4, v5, v4_g5, c1_0, c3_0 =>
    bif (decide ((0 : Int) < v5)) then
      bnd (sub v3 v5 (w64 ((2 : Int) * v5))) fun l13 =>
      glitch_areTilesOf_c_2 F (glitch_areTilesOf_c_1 F N) F v3 (w64 (v4 + (1 : Int))) v5 l13 (l13.length : Int) (0 : Int) v4_g5 c1_0 c3_0
    else
      some ((c1_0.length : Int) == (0 : Int))

theorem glitch_areTilesOf_c_1_ok (F : Nat) : ∀ (N : Nat), ∀ (v3 : (List Int)) (v4 : Int) (v5 : Int) (v4_g5 : Bool) (c1_0 : (List S_api_Tile)) (c3_0 : (List Int)) (sv3 : SV) (sc1_0 : SV) (sc3_0 : SV) (b5 : Pos) (b1 : Pos) (b3 : Pos) (b6 : Pos) (Fr : Rd) (M : Mem) (r : Bool) (hv3 : Slc Fr 1 (FlatR enc3) sv3 v3) (hc1_0 : Slc Fr 3 (FlatR enc65) sc1_0 c1_0) (kc1_0 : clo sc1_0 = true) (hc3_0 : Slc Fr 1 (FlatR enc3) sc3_0 c3_0) (kc3_0 : clo sc3_0 = true) (hH : Has Fr M [.obj b5 (.loop ⟨.ready, none, 68, 24, treeOf [(3, (.ptr b1 0)), (4, (.bool v4_g5)), (7, (.fn (.func 97) [] [(.ptr b3 0)]))], [8], (atC Tryz.prog 68 [1, 0, 1, 0, 0]), (atC Tryz.prog 68 [1, 0, 1, 0, 1]), b6⟩), .obj b1 (.row 31 .whole [sc1_0]), .obj b3 (.row 22 .whole [sc3_0]), .obj b6 .defd]), glitch_areTilesOf_c_1 F N v3 v4 v5 v4_g5 c1_0 c3_0 = some r → Run Tryz.prog ⟨⟨97, [], none⟩, [.mk ⟨68, [b6], none⟩ 24 (treeOf [(3, (.ptr b1 0))]) [.inRange b5, .inBlock 0, codeC Tryz.prog 68 [1, 1]]]⟩ 38 (glitch_areTilesOf_c_post r) [(0, (.yield b5)), (3, sv3), (4, (.int .i64 v4)), (5, (.int .i64 v5))] [codeC Tryz.prog 97 [1, 1, 1, 0, 0], loopC Tryz.prog 97 [1, 1, 1, 0, 0], .inBlock 0] M := by
  intro N
  induction N with
  | zero =>
    intro v3 v4 v5 v4_g5 c1_0 c3_0 sv3 sc1_0 sc3_0 b5 b1 b3 b6 Fr M r hv3 hc1_0 kc1_0 hc3_0 kc3_0 hH h
    simp [glitch_areTilesOf_c_1] at h
  | succ N ih =>
    intro v3 v4 v5 v4_g5 c1_0 c3_0 sv3 sc1_0 sc3_0 b5 b1 b3 b6 Fr M r hv3 hc1_0 kc1_0 hc3_0 kc3_0 hH h
    rw [glitch_areTilesOf_c_1] at h
    refine Run.seq (Run.seq (Run.region ?_))
    refine Run.opG wantS_none (ex_move rfl) rfl ?_
    refine Run.opG wantS_none (ex_gtr rfl rfl) rfl ?_
    refine Run.opsEnd ?_
    rcases btf ((decide ((0 : Int) < v5))) with hc12 | hc12
    · have h := bif_t hc12 h
      refine Run.condT' rfl hc12 ?_
      refine Run.skip (Run.seq (Run.block (Run.seq (Run.region ?_))))
      refine Run.opG wantS_none (ex_move rfl) rfl ?_
      refine Run.opG wantS_none (ex_add rfl rfl) rfl ?_
      refine Run.opG wantS_none (ex_assign rfl) rfl ?_
      refine Run.opsEnd (Run.seq (Run.region ?_))
      refine Run.opG wantS_none (ex_move rfl) rfl ?_
      refine Run.opG wantS_none (ex_move rfl) rfl ?_
      refine Run.opG wantS_none (ex_move rfl) rfl ?_
      refine Run.opG wantS_none (ex_mul rfl rfl) rfl ?_
      obtain ⟨l13, hl13, h⟩ := bnd_some h
      obtain ⟨s13, hx13, hs13⟩ := sl_subB (P := Tryz.prog) (t := 22) (k0 := .i64) (k1 := .i64) hv3 hl13 slk22
      refine Run.opG wantS_none (ex_slX rfl (argO_some rfl) (argO_some rfl) hx13) rfl ?_
      refine Run.opG wantS_none (ex_len' rfl hs13 lenk22) rfl ?_
      refine Run.opG wantS_none (ex_move rfl) rfl ?_
      refine Run.opsEnd (Run.block (Run.loop ?_))
      exact Run.low (.cons (fle_pick [3] rfl) .nil) (Run.pick [0, 3, 4, 5, 23, 24, 25] (glitch_areTilesOf_c_2_ok F (glitch_areTilesOf_c_1 F N) ih F v3 (w64 (v4 + (1 : Int))) v5 l13 (l13.length : Int) (0 : Int) v4_g5 c1_0 c3_0 sv3 s13 sc1_0 sc3_0 b5 b1 b3 b6 _ _ _ hv3 hs13 hc1_0 kc1_0 hc3_0 kc3_0 hH h))
    · have h := bif_f hc12 h
      refine Run.condF' rfl hc12 ?_
      refine Run.exit rfl ?_
      refine Run.fallRange Tryz.func97 rfl res_nil ?_
      refine Run.endX hH (i := 0) rfl (fun hc => by cases hc) ?_
      intro M27 (hH27 : Has Fr M27 [.obj b5 (.loop ⟨.exhausted, none, 68, 24, treeOf [(3, (.ptr b1 0)), (4, (.bool v4_g5)), (7, (.fn (.func 97) [] [(.ptr b3 0)]))], [8], (atC Tryz.prog 68 [1, 0, 1, 0, 0]), (atC Tryz.prog 68 [1, 0, 1, 0, 1]), b6⟩), .obj b1 (.row 31 .whole [sc1_0]), .obj b3 (.row 22 .whole [sc3_0]), .obj b6 .defd])
      refine Run.inBlock (Run.seq (Run.region ?_))
      refine Run.opG wantS_none (ex_load1 rfl (hH27.cells (i := 1) rfl 0 rfl) rdLe_rfl agg31) rfl ?_
      refine Run.opG wantS_none (ex_len' rfl hc1_0 lenk31) rfl ?_
      refine Run.opG wantS_none (ex_eql rfl rfl) rfl ?_
      refine Run.opG wantS_none (ex_assign rfl) rfl ?_
      refine Run.opsEnd ?_
      obtain ⟨hH28x, hS28⟩ := hH27.shut (i := 3) (ds := []) rfl
      have hH28 : Has Fr (setT M27 b6 none) [.obj b5 (.loop ⟨.exhausted, none, 68, 24, treeOf [(3, (.ptr b1 0)), (4, (.bool v4_g5)), (7, (.fn (.func 97) [] [(.ptr b3 0)]))], [8], (atC Tryz.prog 68 [1, 0, 1, 0, 0]), (atC Tryz.prog 68 [1, 0, 1, 0, 1]), b6⟩), .obj b1 (.row 31 .whole [sc1_0]), .obj b3 (.row 22 .whole [sc3_0]), .vec 0 0 0 .nils []] := hH28x
      cases h
      exact Run.ret Tryz.func68 (hS28 _ rfl) (res_tmp rfl res_nil) rfl

def glitch_areTilesOf_c (F : Nat) (a0 : (List Int)) (a1 : (List S_api_Tile)) : Option (Bool) :=
  bnd (glitch_transform F a0) fun r7 =>
  glitch_areTilesOf_c_1 F F r7 (0 : Int) (w64 (Int.tdiv (r7.length : Int) (2 : Int))) false a1 a0

theorem glitch_areTilesOf_c_ok (F : Nat) (a0 : (List Int)) (a1 : (List S_api_Tile)) (s0 s1 : SV) (r : Bool) (M : Mem) (hs0 : Slc (rd M) 1 (FlatR enc3) s0 a0) (hs1 : Slc (rd M) 3 (FlatR enc65) s1 a1) (ks0 : clo s0 = true) (ks1 : clo s1 = true) (h : glitch_areTilesOf_c F a0 a1 = some r) : CallsM Tryz.prog 68 [s0, s1] M (fun s M' => s = (.bool r) ∧ M' = M) := by
  refine CallsM.plain Tryz.func68 rfl rfl rfl (show Run _ _ _ (glitch_areTilesOf_c_post r) _ _ _ from ?_)
  rw [glitch_areTilesOf_c] at h
  replace hs0 := hs0.mono (rdLe_frozen M) (fun _ _ h => h)
  replace hs1 := hs1.mono (rdLe_frozen M) (fun _ _ h => h)
  have hH := Has.nil (frozen M)
  refine Run.seq (Run.region ?_)
  refine Run.opX wantS_none rfl (ExG.box rfl (cells_one (slc_one hs1)) hH) ?_
  rintro _ M2 ⟨b1, rfl, (hH2 : Has (ro (frozen M)) M2 [.obj b1 (.row 31 .whole [s1])])⟩
  refine Run.opG wantS_none (ex_assign rfl) rfl ?_
  refine Run.opsEnd (Run.seq (Run.seq (Run.region ?_)))
  refine Run.opG wantS_none (ex_move rfl) rfl ?_
  refine Run.enter wantS_none (ex_call rfl mkk58 cal58) Tryz.func58 rfl rfl ?_
  refine Run.seq (Run.region ?_)
  refine Run.opX wantS_none rfl (ExG.box rfl (cells_one (slc_one hs0)) hH2) ?_
  rintro _ M4 ⟨b3, rfl, (hH4 : Has (ro (frozen M)) M4 [.obj b3 (.row 22 .whole [s0]), .obj b1 (.row 31 .whole [s1])])⟩
  refine Run.opG wantS_none (ex_assign rfl) rfl ?_
  refine Run.opsEnd (Run.seq (Run.region ?_))
  refine Run.opG wantS_none (ex_makeFunc rfl rfl) rfl ?_
  refine Run.opG wantS_none (ex_assign rfl) rfl ?_
  refine Run.opsEnd ?_
  refine Run.retTo Tryz.func58 rfl (res_tmp rfl res_nil) rfl ?_
  refine Run.opsEnd (Run.block ?_)
  refine Run.pick [3, 4, 7] ?_
  refine Run.rangeX rfl cal97 Tryz.func97 rfl rfl hH4 ?_
  intro b6 b5 M5 (hH5 : Has (ro (frozen M)) M5 [.obj b5 (.loop ⟨.ready, none, 68, 24, treeOf [(3, (.ptr b1 0)), (4, (.bool false)), (7, (.fn (.func 97) [] [(.ptr b3 0)]))], [8], (atC Tryz.prog 68 [1, 0, 1, 0, 0]), (atC Tryz.prog 68 [1, 0, 1, 0, 1]), b6⟩), .obj b6 .defd, .obj b3 (.row 22 .whole [s0]), .obj b1 (.row 31 .whole [s1])])
  refine Run.seq (Run.region ?_)
  refine Run.opG wantS_none (ex_load1 rfl (hH5.cells (i := 2) rfl 0 rfl) rdLe_rfl agg22) rfl ?_
  obtain ⟨r7, hr7, h⟩ := bnd_some h
  refine Run.callX wantS_none (ex_call rfl mkk51 cal51) rfl (glitch_transform_ok F a0 s0 _ _ (hH5.slcF hs0) hr7) ?_
  rintro s7_0 M9 ⟨_, rfl, hN7⟩
  have hH9 : Has (ro (frozen M)) M9 [.vec 3 1 r7.length s7_0 (r7.flatMap enc3), .obj b5 (.loop ⟨.ready, none, 68, 24, treeOf [(3, (.ptr b1 0)), (4, (.bool false)), (7, (.fn (.func 97) [] [(.ptr b3 0)]))], [8], (atC Tryz.prog 68 [1, 0, 1, 0, 0]), (atC Tryz.prog 68 [1, 0, 1, 0, 1]), b6⟩), .obj b6 .defd, .obj b3 (.row 22 .whole [s0]), .obj b1 (.row 31 .whole [s1])] := hN7 _ _ hH5
  refine Run.opG wantS_none (ex_assign rfl) rfl ?_
  refine Run.opsEnd (Run.seq (Run.region ?_))
  refine Run.opG wantS_none (ex_assign rfl) rfl ?_
  refine Run.opsEnd (Run.seq (Run.region ?_))
  refine Run.opG wantS_none (ex_move rfl) rfl ?_
  refine Run.opG wantS_none (ex_len' rfl (hH9.slc (i := 0) rfl enc3_len) lenk22) rfl ?_
  refine Run.opG wantS_none (ex_quo rfl rfl (by decide)) rfl ?_
  refine Run.opG wantS_none (ex_assign rfl) rfl ?_
  refine Run.opsEnd (Run.block (Run.loop ?_))
  refine Run.freeze (t := 3) (i := 0) (enc := enc3) rfl hH9 rfl enc3_len ?_
  intro F10 M10 hle10 (hH10 : Has F10 M10 [.vec 0 0 0 .nils [], .obj b5 (.loop ⟨.ready, none, 68, 24, treeOf [(3, (.ptr b1 0)), (4, (.bool false)), (7, (.fn (.func 97) [] [(.ptr b3 0)]))], [8], (atC Tryz.prog 68 [1, 0, 1, 0, 0]), (atC Tryz.prog 68 [1, 0, 1, 0, 1]), b6⟩), .obj b6 .defd, .obj b3 (.row 22 .whole [s0]), .obj b1 (.row 31 .whole [s1])]) hf10
  replace hs0 := hs0.mono hle10 (fun _ _ h => h)
  replace hs1 := hs1.mono hle10 (fun _ _ h => h)
  exact Run.low (.cons (fle_pick [3] rfl) .nil) (Run.pick [0, 3, 4, 5] (glitch_areTilesOf_c_1_ok F F r7 (0 : Int) (w64 (Int.tdiv (r7.length : Int) (2 : Int))) false a1 a0 s7_0 s1 s0 b5 b1 b3 b6 _ _ _ hf10 hs1 ks1 hs0 ks0 (hH10.pick [1, 4, 3, 2] rfl rfl) h))

abbrev glitch_Part_c_post (r : (List Int) × Int) : SV → Mem → Prop := fun s Me => ∃ q1, s = (.tuple [q1, (.int .i64 r.2)]) ∧ Has (fun _ => none) Me [.vec 3 1 r.1.length q1 (r.1.flatMap enc3)]

def glitch_Part_c (F : Nat) (a0 : (List Int)) (a1 : (List S_api_Tile)) : Option ((List Int) × Int) :=
  bnd (glitch_isSignal F a0) fun r1 =>
  bif (!r1) then
    some (([] : List Int), (60 : Int))
  else
    bnd (glitch_areTilesOf_c F a0 a1) fun r6 =>
    bif (!r6) then
      some (([] : List Int), (61 : Int))
    else
      bnd (glitch_part F a1 (a0.length : Int)) fun r11 =>
      some (r11, (0 : Int))

theorem glitch_Part_c_ok (F : Nat) (a0 : (List Int)) (a1 : (List S_api_Tile)) (s0 s1 : SV) (r : (List Int) × Int) (M : Mem) (hs0 : Slc (rd M) 1 (FlatR enc3) s0 a0) (hs1 : Slc (rd M) 3 (FlatR enc65) s1 a1) (ks0 : clo s0 = true) (ks1 : clo s1 = true) (h : glitch_Part_c F a0 a1 = some r) : CallsM Tryz.prog 32 [s0, s1] M (fun s M' => ∃ q1, s = (.tuple [q1, (.int .i64 r.2)]) ∧ New M M' [.vec 3 1 r.1.length q1 (r.1.flatMap enc3)]) := by
  refine CallsM.fresh (Q := glitch_Part_c_post r) Tryz.func32 rfl rfl ?_ (by rintro s Me ⟨q1, rfl, hx⟩ ha hw; exact ⟨_, rfl, New.of rfl hx ha hw⟩)
  rw [glitch_Part_c] at h
  replace hs0 := hs0.mono (rdLe_frozen M) (fun _ _ h => h)
  replace hs1 := hs1.mono (rdLe_frozen M) (fun _ _ h => h)
  have hH := Has.nil (frozen M)
  refine Run.seq (Run.region ?_)
  refine Run.opG wantS_none (ex_assign rfl) rfl ?_
  refine Run.opG wantS_none (ex_assign rfl) rfl ?_
  refine Run.opsEnd (Run.seq (Run.block (Run.seq (Run.region ?_))))
  refine Run.opG wantS_none (ex_move rfl) rfl ?_
  obtain ⟨r1, hr1, h⟩ := bnd_some h
  refine Run.callP wantS_none (ex_call rfl mkk48 cal48) rfl (glitch_isSignal_ok F a0 s0 _ _ (hH.slcF hs0) hr1) ?_
  refine Run.opG wantS_none (ex_not rfl) rfl ?_
  refine Run.opG wantS_none (ex_assign rfl) rfl ?_
  refine Run.opsEnd ?_
  rcases btf ((!r1)) with hc3 | hc3
  · have h := bif_t hc3 h
    refine Run.condT' rfl hc3 ?_
    refine Run.seq (Run.region ?_)
    refine Run.opG wantS_none (ex_assign rfl) rfl ?_
    refine Run.opG wantS_none (ex_assign rfl) rfl ?_
    refine Run.opsEnd ?_
    have hH5 : Has (ro (frozen M)) (frozen M) [.vec 3 1 ([] : List Int).length .nils (([] : List Int).flatMap enc3)] := hH.nils 3 1
    cases h
    exact Run.ret Tryz.func32 rfl (res_tmp rfl (res_tmp rfl res_nil)) ⟨_, rfl, (hH5.pick [0] rfl rfl).upF (none_le _)⟩
  · have h := bif_f hc3 h
    refine Run.condF' rfl hc3 ?_
    refine Run.seq (Run.region ?_)
    refine Run.opG wantS_none (ex_move rfl) rfl ?_
    refine Run.opG wantS_none (ex_move rfl) rfl ?_
    obtain ⟨r6, hr6, h⟩ := bnd_some h
    refine Run.callP wantS_none (ex_call rfl mkk68 cal68) rfl (glitch_areTilesOf_c_ok F a0 a1 s0 s1 _ _ (hH.slcF hs0) (hH.slcF hs1) ks0 ks1 hr6) ?_
    refine Run.opG wantS_none (ex_not rfl) rfl ?_
    refine Run.opG wantS_none (ex_assign rfl) rfl ?_
    refine Run.opsEnd ?_
    rcases btf ((!r6)) with hc8 | hc8
    · have h := bif_t hc8 h
      refine Run.condT' rfl hc8 ?_
      refine Run.seq (Run.region ?_)
      refine Run.opG wantS_none (ex_assign rfl) rfl ?_
      refine Run.opG wantS_none (ex_assign rfl) rfl ?_
      refine Run.opsEnd ?_
      have hH10 : Has (ro (frozen M)) (frozen M) [.vec 3 1 ([] : List Int).length .nils (([] : List Int).flatMap enc3)] := hH.nils 3 1
      cases h
      exact Run.ret Tryz.func32 rfl (res_tmp rfl (res_tmp rfl res_nil)) ⟨_, rfl, (hH10.pick [0] rfl rfl).upF (none_le _)⟩
    · have h := bif_f hc8 h
      refine Run.condF' rfl hc8 ?_
      refine Run.skip (Run.inBlock (Run.seq (Run.region ?_)))
      refine Run.opG wantS_none (ex_move rfl) rfl ?_
      refine Run.opG wantS_none (ex_move rfl) rfl ?_
      refine Run.opG wantS_none (ex_len' rfl hs0 lenk22) rfl ?_
      obtain ⟨r11, hr11, h⟩ := bnd_some h
      refine Run.callX wantS_none (ex_call rfl mkk69 cal69) rfl (glitch_part_ok F a1 (a0.length : Int) s1 _ _ (hH.slcF hs1) hr11) ?_
      rintro s11_0 M13 ⟨_, rfl, hN11⟩
      have hH13 : Has (ro (frozen M)) M13 [.vec 3 1 r11.length s11_0 (r11.flatMap enc3)] := hN11 _ _ hH
      refine Run.opG wantS_none (ex_assign rfl) rfl ?_
      refine Run.opG wantS_none (ex_assign rfl) rfl ?_
      refine Run.opsEnd ?_
      cases h
      exact Run.ret Tryz.func32 rfl (res_tmp rfl (res_tmp rfl res_nil)) ⟨_, rfl, (hH13.pick [0] rfl rfl).upF (none_le _)⟩

theorem mkk32 : makeK Tryz.prog 32 = none := by kernel_rfl
theorem cal32 : callable Tryz.prog 32 = true := by kernel_rfl
abbrev ref06_power_post (r : Int) : SV → Mem → Prop := fun s _ => s = (.int .i64 r)

def ref06_power_1 (F : Nat) : Nat → Int → Int → Option (Int)
  | 0, _, _ => none
  | N + 1, v0, v3 =>
    bif (decide (v3 ≤ (10 : Int))) then
      bnd (shn v3) fun j2 =>
      bif (v0 == (w64 ((1 : Int) * 2 ^ (min j2 (IntKind.bits .i64))))) then
        some v3
      else
        (ref06_power_1 F N) v0 (w64 (v3 + (1 : Int)))
    else
      some ((-1) : Int)

theorem ref06_power_1_ok (F : Nat) : ∀ (N : Nat), ∀ (v0 : Int) (v3 : Int) (Fr : Rd) (M : Mem) (r : Int) (hH : Has Fr M []), ref06_power_1 F N v0 v3 = some r → Run Tryz.prog ⟨⟨49, [], none⟩, []⟩ 13 (ref06_power_post r) [(0, (.int .i64 v0)), (3, (.int .i64 v3))] [codeC Tryz.prog 49 [1, 0, 1, 0, 0], loopC Tryz.prog 49 [1, 0, 1, 0, 0], .inBlock 0, codeC Tryz.prog 49 [1, 1]] M := by
  intro N
  induction N with
  | zero =>
    intro v0 v3 Fr M r hH h
    simp [ref06_power_1] at h
  | succ N ih =>
    intro v0 v3 Fr M r hH h
    rw [ref06_power_1] at h
    refine Run.seq (Run.seq (Run.region ?_))
    refine Run.opG wantS_none (ex_move rfl) rfl ?_
    refine Run.opG wantS_none (ex_leq rfl rfl) rfl ?_
    refine Run.opsEnd ?_
    rcases btf ((decide (v3 ≤ (10 : Int)))) with hc1 | hc1
    · have h := bif_t hc1 h
      refine Run.condT' rfl hc1 ?_
      refine Run.skip (Run.seq (Run.block (Run.seq (Run.region ?_))))
      refine Run.opG wantS_none (ex_move rfl) rfl ?_
      refine Run.opG wantS_none (ex_move rfl) rfl ?_
      obtain ⟨j2, hj2, h⟩ := bnd_some h
      refine Run.opG wantS_none (ex_shl' rfl rfl hj2) rfl ?_
      refine Run.opG wantS_none (ex_eql rfl rfl) rfl ?_
      refine Run.opsEnd ?_
      rcases btf ((v0 == (w64 ((1 : Int) * 2 ^ (min j2 (IntKind.bits .i64)))))) with hc3 | hc3
      · have h := bif_t hc3 h
        refine Run.condT' rfl hc3 ?_
        refine Run.seq (Run.region ?_)
        refine Run.opG wantS_none (ex_move rfl) rfl ?_
        refine Run.opG wantS_none (ex_assign rfl) rfl ?_
        refine Run.opsEnd ?_
        cases h
        exact Run.ret Tryz.func49 rfl (res_tmp rfl res_nil) rfl
      · have h := bif_f hc3 h
        refine Run.condF' rfl hc3 ?_
        refine Run.skip (Run.inBlock (Run.region ?_))
        refine Run.opG wantS_none (ex_move rfl) rfl ?_
        refine Run.opG wantS_none (ex_add rfl rfl) rfl ?_
        refine Run.opG wantS_none (ex_assign rfl) rfl ?_
        refine Run.opsEnd (Run.inLoop ?_)
        exact Run.pick [0, 3] (ih v0 (w64 (v3 + (1 : Int))) _ _ _ hH h)
    · have h := bif_f hc1 h
      refine Run.condF' rfl hc1 ?_
      refine Run.exit rfl (Run.seq (Run.region ?_))
      refine Run.opG wantS_none (ex_assign rfl) rfl ?_
      refine Run.opsEnd ?_
      cases h
      exact Run.ret Tryz.func49 rfl (res_tmp rfl res_nil) rfl

def ref06_power (F : Nat) (a0 : Int) : Option (Int) :=
  ref06_power_1 F F a0 (0 : Int)

theorem ref06_power_ok (F : Nat) (a0 : Int) (r : Int) (M : Mem) (h : ref06_power F a0 = some r) : CallsM Tryz.prog 49 [(.int .i64 a0)] M (fun s M' => s = (.int .i64 r) ∧ M' = M) := by
  refine CallsM.plain Tryz.func49 rfl rfl rfl (show Run _ _ _ (ref06_power_post r) _ _ _ from ?_)
  rw [ref06_power] at h
  have hH := Has.nil (frozen M)
  refine Run.seq (Run.region ?_)
  refine Run.opG wantS_none (ex_assign rfl) rfl ?_
  refine Run.opsEnd (Run.seq (Run.seq (Run.region ?_)))
  refine Run.opG wantS_none (ex_assign rfl) rfl ?_
  refine Run.opsEnd (Run.block (Run.loop ?_))
  exact Run.pick [0, 3] (ref06_power_1_ok F F a0 (0 : Int) _ _ _ hH h)

theorem mkk49 : makeK Tryz.prog 49 = none := by kernel_rfl
theorem cal49 : callable Tryz.prog 49 = true := by kernel_rfl
abbrev ref00_In_post (r : Bool) : SV → Mem → Prop := fun s _ => s = (.bool r)

def ref00_In_1 (F : Nat) (v14 : Bool) : Option (Bool) :=
  some v14

theorem ref00_In_1_ok (F : Nat) : ∀ (v14 : Bool) (Fr : Rd) (M : Mem) (r : Bool) (hH : Has Fr M []), ref00_In_1 F v14 = some r → Run Tryz.prog ⟨⟨44, [], none⟩, []⟩ 15 (ref00_In_post r) [(14, (.bool v14))] [itemC Tryz.prog 44 [1, 0] 8, codeC Tryz.prog 44 [1, 1]] M := by
  intro v14 Fr M r hH h
  rw [ref00_In_1] at h
  refine Run.opG wantS_none (ex_assign rfl) rfl ?_
  refine Run.opsEnd ?_
  cases h
  exact Run.ret Tryz.func44 rfl (res_tmp rfl res_nil) rfl

def ref00_In (F : Nat) (a0 : Int) (a1 : Int) (a2 : Int) : Option (Bool) :=
  bif (decide (a1 ≤ a0)) then
    ref00_In_1 F (decide (a0 ≤ a2))
  else
    ref00_In_1 F false

theorem ref00_In_ok (F : Nat) (a0 : Int) (a1 : Int) (a2 : Int) (r : Bool) (M : Mem) (h : ref00_In F a0 a1 a2 = some r) : CallsM Tryz.prog 44 [(.int .i64 a0), (.int .i64 a1), (.int .i64 a2)] M (fun s M' => s = (.bool r) ∧ M' = M) := by
  refine CallsM.plain Tryz.func44 rfl rfl rfl (show Run _ _ _ (ref00_In_post r) _ _ _ from ?_)
  rw [ref00_In] at h
  have hH := Has.nil (frozen M)
  refine Run.seq (Run.region ?_)
  refine Run.opG wantS_none (ex_assign rfl) rfl ?_
  refine Run.opsEnd (Run.seq (Run.region ?_))
  refine Run.opG wantS_none (ex_move rfl) rfl ?_
  refine Run.opG wantS_none (ex_move rfl) rfl ?_
  refine Run.opG wantS_none (ex_leq rfl rfl) rfl ?_
  refine Run.opG wantS_none (ex_move rfl) rfl ?_
  rcases btf ((decide (a1 ≤ a0))) with hc1 | hc1
  · have h := bif_t hc1 h
    refine Run.opG (wantS_yes' rfl rfl hc1) (ex_move rfl) rfl ?_
    refine Run.opG (wantS_yes' rfl rfl hc1) (ex_move rfl) rfl ?_
    refine Run.opG (wantS_yes' rfl rfl hc1) (ex_leq rfl rfl) rfl ?_
    refine Run.opG wantS_none (ex_pickT' rfl hc1 rfl rfl) rfl ?_
    exact Run.pick [14] (ref00_In_1_ok F (decide (a0 ≤ a2)) _ _ _ hH h)
  · have h := bif_f hc1 h
    refine Run.no (wantS_not' rfl rfl hc1) rfl ?_
    refine Run.no (wantS_not' rfl rfl hc1) rfl ?_
    refine Run.no (wantS_not' rfl rfl hc1) rfl ?_
    refine Run.opG wantS_none (ex_pickF' rfl hc1 rfl rfl) rfl ?_
    exact Run.pick [14] (ref00_In_1_ok F false _ _ _ hH h)

theorem mkk44 : makeK Tryz.prog 44 = none := by kernel_rfl
theorem cal44 : callable Tryz.prog 44 = true := by kernel_rfl
abbrev ref06_samples_post (r : Bool) : SV → Mem → Prop := fun s _ => s = (.bool r)

def ref06_samples_1 (F : Nat) : Nat → (List Int) → Int → Option (Bool)
  | 0, _, _ => none
  | N + 1, v0, v3 =>
    bif (decide (v3 < (v0.length : Int))) then
      bnd (idx v0 v3) fun x2 =>
      bnd (ref00_In F x2 ((-1048576) : Int) (1048576 : Int)) fun r3 =>
      bif (!r3) then
        some false
      else
        (ref06_samples_1 F N) v0 (w64 (v3 + (1 : Int)))
    else
      some true

theorem ref06_samples_1_ok (F : Nat) : ∀ (N : Nat), ∀ (v0 : (List Int)) (v3 : Int) (sv0 : SV) (Fr : Rd) (M : Mem) (r : Bool) (hv0 : Slc Fr 1 (FlatR enc3) sv0 v0) (hH : Has Fr M []), ref06_samples_1 F N v0 v3 = some r → Run Tryz.prog ⟨⟨50, [], none⟩, []⟩ 16 (ref06_samples_post r) [(0, sv0), (3, (.int .i64 v3))] [codeC Tryz.prog 50 [1, 0, 1, 0, 0], loopC Tryz.prog 50 [1, 0, 1, 0, 0], .inBlock 0, codeC Tryz.prog 50 [1, 1]] M := by
  intro N
  induction N with
  | zero =>
    intro v0 v3 sv0 Fr M r hv0 hH h
    simp [ref06_samples_1] at h
  | succ N ih =>
    intro v0 v3 sv0 Fr M r hv0 hH h
    rw [ref06_samples_1] at h
    refine Run.seq (Run.seq (Run.region ?_))
    refine Run.opG wantS_none (ex_move rfl) rfl ?_
    refine Run.opG wantS_none (ex_move rfl) rfl ?_
    refine Run.opG wantS_none (ex_len' rfl hv0 lenk22) rfl ?_
    refine Run.opG wantS_none (ex_lss rfl rfl) rfl ?_
    refine Run.opsEnd ?_
    rcases btf ((decide (v3 < (v0.length : Int)))) with hc1 | hc1
    · have h := bif_t hc1 h
      refine Run.condT' rfl hc1 ?_
      refine Run.skip (Run.seq (Run.block (Run.seq (Run.region ?_))))
      refine Run.opG wantS_none (ex_move rfl) rfl ?_
      refine Run.opG wantS_none (ex_move rfl) rfl ?_
      obtain ⟨x2, hx2, h⟩ := bnd_some h
      obtain ⟨p2, o2, _, hx2, hp2, rfl⟩ := sl_elem (P := Tryz.prog) (t := 22) (kk := .i64) hv0 hx2 els22
      refine Run.opG wantS_none (ex_elX rfl rfl hx2) rfl ?_
      refine Run.opG wantS_none (ex_load1 rfl (hH.ptrF hp2) rdLe_rfl agg3) rfl ?_
      obtain ⟨r3, hr3, h⟩ := bnd_some h
      refine Run.callP wantS_none (ex_call rfl mkk44 cal44) rfl (ref00_In_ok F x2 ((-1048576) : Int) (1048576 : Int) _ _ hr3) ?_
      refine Run.opG wantS_none (ex_not rfl) rfl ?_
      refine Run.opsEnd ?_
      rcases btf ((!r3)) with hc5 | hc5
      · have h := bif_t hc5 h
        refine Run.condT' rfl hc5 ?_
        refine Run.seq (Run.region ?_)
        refine Run.opG wantS_none (ex_assign rfl) rfl ?_
        refine Run.opsEnd ?_
        cases h
        exact Run.ret Tryz.func50 rfl (res_tmp rfl res_nil) rfl
      · have h := bif_f hc5 h
        refine Run.condF' rfl hc5 ?_
        refine Run.skip (Run.inBlock (Run.region ?_))
        refine Run.opG wantS_none (ex_move rfl) rfl ?_
        refine Run.opG wantS_none (ex_add rfl rfl) rfl ?_
        refine Run.opG wantS_none (ex_assign rfl) rfl ?_
        refine Run.opsEnd (Run.inLoop ?_)
        exact Run.pick [0, 3] (ih v0 (w64 (v3 + (1 : Int))) sv0 _ _ _ hv0 hH h)
    · have h := bif_f hc1 h
      refine Run.condF' rfl hc1 ?_
      refine Run.exit rfl (Run.seq (Run.region ?_))
      refine Run.opG wantS_none (ex_assign rfl) rfl ?_
      refine Run.opsEnd ?_
      cases h
      exact Run.ret Tryz.func50 rfl (res_tmp rfl res_nil) rfl

def ref06_samples (F : Nat) (a0 : (List Int)) : Option (Bool) :=
  ref06_samples_1 F F a0 (0 : Int)

theorem ref06_samples_ok (F : Nat) (a0 : (List Int)) (s0 : SV) (r : Bool) (M : Mem) (hs0 : Slc (rd M) 1 (FlatR enc3) s0 a0) (h : ref06_samples F a0 = some r) : CallsM Tryz.prog 50 [s0] M (fun s M' => s = (.bool r) ∧ M' = M) := by
  refine CallsM.plain Tryz.func50 rfl rfl rfl (show Run _ _ _ (ref06_samples_post r) _ _ _ from ?_)
  rw [ref06_samples] at h
  replace hs0 := hs0.mono (rdLe_frozen M) (fun _ _ h => h)
  have hH := Has.nil (frozen M)
  refine Run.seq (Run.region ?_)
  refine Run.opG wantS_none (ex_assign rfl) rfl ?_
  refine Run.opsEnd (Run.seq (Run.seq (Run.region ?_)))
  refine Run.opG wantS_none (ex_assign rfl) rfl ?_
  refine Run.opsEnd (Run.block (Run.loop ?_))
  exact Run.pick [0, 3] (ref06_samples_1_ok F F a0 (0 : Int) s0 _ _ _ hs0 hH h)

theorem mkk50 : makeK Tryz.prog 50 = none := by kernel_rfl
theorem cal50 : callable Tryz.prog 50 = true := by kernel_rfl
abbrev ref06_CheckSignal_post (r : Int) : SV → Mem → Prop := fun s _ => s = (.int .i64 r)

def ref06_CheckSignal_1 (F : Nat) (v11 : Bool) : Option (Int) :=
  bif v11 then
    some (60 : Int)
  else
    some (0 : Int)

theorem ref06_CheckSignal_1_ok (F : Nat) : ∀ (v11 : Bool) (Fr : Rd) (M : Mem) (r : Int) (hH : Has Fr M []), ref06_CheckSignal_1 F v11 = some r → Run Tryz.prog ⟨⟨16, [], none⟩, []⟩ 12 (ref06_CheckSignal_post r) [(11, (.bool v11))] [codeC Tryz.prog 16 [1, 0, 1], codeC Tryz.prog 16 [1, 1]] M := by
  intro v11 Fr M r hH h
  rw [ref06_CheckSignal_1] at h
  rcases btf (v11) with hc4 | hc4
  · have h := bif_t hc4 h
    refine Run.condT' rfl hc4 ?_
    refine Run.seq (Run.region ?_)
    refine Run.opG wantS_none (ex_assign rfl) rfl ?_
    refine Run.opsEnd ?_
    cases h
    exact Run.ret Tryz.func16 rfl (res_tmp rfl res_nil) rfl
  · have h := bif_f hc4 h
    refine Run.condF' rfl hc4 ?_
    refine Run.skip (Run.seq (Run.region ?_))
    refine Run.opG wantS_none (ex_assign rfl) rfl ?_
    refine Run.opsEnd ?_
    cases h
    exact Run.ret Tryz.func16 rfl (res_tmp rfl res_nil) rfl

def ref06_CheckSignal (F : Nat) (a0 : (List Int)) : Option (Int) :=
  bnd (ref06_power F (a0.length : Int)) fun r1 =>
  bif (decide (r1 < (0 : Int))) then
    ref06_CheckSignal_1 F true
  else
    bnd (ref06_samples F a0) fun r5 =>
    ref06_CheckSignal_1 F (!r5)

theorem ref06_CheckSignal_ok (F : Nat) (a0 : (List Int)) (s0 : SV) (r : Int) (M : Mem) (hs0 : Slc (rd M) 1 (FlatR enc3) s0 a0) (h : ref06_CheckSignal F a0 = some r) : CallsM Tryz.prog 16 [s0] M (fun s M' => s = (.int .i64 r) ∧ M' = M) := by
  refine CallsM.plain Tryz.func16 rfl rfl rfl (show Run _ _ _ (ref06_CheckSignal_post r) _ _ _ from ?_)
  rw [ref06_CheckSignal] at h
  replace hs0 := hs0.mono (rdLe_frozen M) (fun _ _ h => h)
  have hH := Has.nil (frozen M)
  refine Run.seq (Run.region ?_)
  refine Run.opG wantS_none (ex_assign rfl) rfl ?_
  refine Run.opsEnd (Run.seq (Run.seq (Run.region ?_)))
  refine Run.opG wantS_none (ex_move rfl) rfl ?_
  refine Run.opG wantS_none (ex_len' rfl hs0 lenk22) rfl ?_
  obtain ⟨r1, hr1, h⟩ := bnd_some h
  refine Run.callP wantS_none (ex_call rfl mkk49 cal49) rfl (ref06_power_ok F (a0.length : Int) _ _ hr1) ?_
  refine Run.opG wantS_none (ex_lss rfl rfl) rfl ?_
  refine Run.opG wantS_none (ex_move rfl) rfl ?_
  rcases btf ((decide (r1 < (0 : Int)))) with hc3 | hc3
  · have h := bif_t hc3 h
    refine Run.no (wantS_not' rfl rfl hc3) rfl ?_
    refine Run.no (wantS_not' rfl rfl hc3) rfl ?_
    refine Run.no (wantS_not' rfl rfl hc3) rfl ?_
    refine Run.opG wantS_none (ex_pickT' rfl hc3 rfl rfl) rfl ?_
    refine Run.opsEnd ?_
    exact Run.pick [11] (ref06_CheckSignal_1_ok F true _ _ _ hH h)
  · have h := bif_f hc3 h
    refine Run.opG (wantS_yes' rfl rfl hc3) (ex_move rfl) rfl ?_
    obtain ⟨r5, hr5, h⟩ := bnd_some h
    refine Run.callP (wantS_yes' rfl rfl hc3) (ex_call rfl mkk50 cal50) rfl (ref06_samples_ok F a0 s0 _ _ (hH.slcF hs0) hr5) ?_
    refine Run.opG (wantS_yes' rfl rfl hc3) (ex_not rfl) rfl ?_
    refine Run.opG wantS_none (ex_pickF' rfl hc3 rfl rfl) rfl ?_
    refine Run.opsEnd ?_
    exact Run.pick [11] (ref06_CheckSignal_1_ok F (!r5) _ _ _ hH h)

theorem mkk16 : makeK Tryz.prog 16 = none := by kernel_rfl
theorem cal16 : callable Tryz.prog 16 = true := by kernel_rfl
theorem plan94_1_1_0_1_0_0_1_0_0 : planOf Tryz.prog (opsC (atC Tryz.prog 94 [1, 1, 0, 1, 0, 0, 1, 0, 0])) = some [.fl 0, .fl 1, .fl 2, .fl 3, .fl 4, .fl 5, .fl 6, .fl 7, .fl 8, .fl 9, .fl 10, .fl 11, .fl 12, .an 13 [0], .an 14 [], .an 15 [], .sync] := by kernel_rfl
abbrev ref06_halves_post (r : (List Int)) : SV → Mem → Prop := fun s Me => ∃ q1, s = q1 ∧ Has (fun _ => none) Me [.vec 3 1 r.length q1 (r.flatMap enc3)]

def ref06_halves_1 (F : Nat) : Nat → (List Int) → Int → Int → (List Int) → Option ((List Int))
  | 0, _, _, _, _ => none
  | N + 1, v0, v1, v6, l1 =>
    bif (decide ((w64 (v6 + (1 : Int))) < (v0.length : Int))) then
      bnd (idx v0 v6) fun x4 =>
      bnd (idx v0 (w64 (v6 + (1 : Int)))) fun x5 =>
      bnd (apd 8 l1 ([(w64 (x4 + (w64 (v1 * x5))))] : List Int)) fun l8 =>
      (ref06_halves_1 F N) v0 v1 (w64 (v6 + (2 : Int))) l8
    else
      some l1

theorem ref06_halves_1_ok (F : Nat) : ∀ (N : Nat), ∀ (v0 : (List Int)) (v1 : Int) (v6 : Int) (l1 : (List Int)) (sv0 : SV) (s1 : SV) (Fr : Rd) (M : Mem) (r : (List Int)) (hv0 : Slc Fr 1 (FlatR enc3) sv0 v0) (hH : Has Fr M [.vec 3 1 l1.length s1 (l1.flatMap enc3)]), ref06_halves_1 F N v0 v1 v6 l1 = some r → Run Tryz.prog ⟨⟨94, [], none⟩, []⟩ 30 (ref06_halves_post r) [(0, sv0), (1, (.int .i64 v1)), (5, s1), (6, (.int .i64 v6))] [codeC Tryz.prog 94 [1, 1, 0, 1, 0, 0], loopC Tryz.prog 94 [1, 1, 0, 1, 0, 0], .inBlock 0, codeC Tryz.prog 94 [1, 1, 1]] M := by
  intro N
  induction N with
  | zero =>
    intro v0 v1 v6 l1 sv0 s1 Fr M r hv0 hH h
    simp [ref06_halves_1] at h
  | succ N ih =>
    intro v0 v1 v6 l1 sv0 s1 Fr M r hv0 hH h
    rw [ref06_halves_1] at h
    refine Run.seq (Run.seq (Run.region ?_))
    refine Run.opG wantS_none (ex_move rfl) rfl ?_
    refine Run.opG wantS_none (ex_add rfl rfl) rfl ?_
    refine Run.opG wantS_none (ex_move rfl) rfl ?_
    refine Run.opG wantS_none (ex_len' rfl hv0 lenk22) rfl ?_
    refine Run.opG wantS_none (ex_lss rfl rfl) rfl ?_
    refine Run.opsEnd ?_
    rcases btf ((decide ((w64 (v6 + (1 : Int))) < (v0.length : Int)))) with hc3 | hc3
    · have h := bif_t hc3 h
      refine Run.condT' rfl hc3 ?_
      refine Run.skip (Run.seq (Run.block ?_))
      refine Run.drawG plan94_1_1_0_1_0_0_1_0_0 ?_
      refine DrawG.fl rfl (ev_ex wantS_none (ex_move rfl)) rfl ?_
      refine DrawG.fl rfl (ev_ex wantS_none (ex_move rfl)) rfl ?_
      refine DrawG.fl rfl (ev_ex wantS_none (ex_move rfl)) rfl ?_
      obtain ⟨x4, hx4, h⟩ := bnd_some h
      obtain ⟨p4, o4, _, hx4, hp4, rfl⟩ := sl_elem (P := Tryz.prog) (t := 22) (kk := .i64) hv0 hx4 els22
      refine DrawG.fl rfl (ev_ex wantS_none (ex_elX rfl rfl hx4)) rfl ?_
      refine DrawG.fl rfl (ev_ex wantS_none (ex_load1 rfl (hH.ptrF hp4) rdLe_rfl agg3)) rfl ?_
      refine DrawG.fl rfl (ev_ex wantS_none (ex_move rfl)) rfl ?_
      refine DrawG.fl rfl (ev_ex wantS_none (ex_move rfl)) rfl ?_
      refine DrawG.fl rfl (ev_ex wantS_none (ex_move rfl)) rfl ?_
      refine DrawG.fl rfl (ev_ex wantS_none (ex_add rfl rfl)) rfl ?_
      obtain ⟨x5, hx5, h⟩ := bnd_some h
      obtain ⟨p5, o5, _, hx5, hp5, rfl⟩ := sl_elem (P := Tryz.prog) (t := 22) (kk := .i64) hv0 hx5 els22
      refine DrawG.fl rfl (ev_ex wantS_none (ex_elX rfl rfl hx5)) rfl ?_
      refine DrawG.fl rfl (ev_ex wantS_none (ex_load1 rfl (hH.ptrF hp5) rdLe_rfl agg3)) rfl ?_
      refine DrawG.fl rfl (ev_ex wantS_none (ex_mul rfl rfl)) rfl ?_
      refine DrawG.fl rfl (ev_ex wantS_none (ex_add rfl rfl)) rfl ?_
      refine DrawG.opX rfl wantS_none rfl (ExG.built (enc := enc3) (l := ([(w64 (x4 + (w64 (v1 * x5))))] : List Int)) (z := 1) rfl elt22 rfl rfl rfl enc3_len hH) ?_
      rintro s6 M7 (hH7 : Has Fr M7 [.vec 3 1 ([(w64 (x4 + (w64 (v1 * x5))))] : List Int).length s6 (([(w64 (x4 + (w64 (v1 * x5))))] : List Int).flatMap enc3), .vec 3 1 l1.length s1 (l1.flatMap enc3)])
      refine ⟨(st_cons rfl (ev_ex wantS_none (ex_move rfl)) rfl rfl (blk_self hH7 (i := 1) rfl) st_nil), ?_⟩
      obtain ⟨l8, hl8, h⟩ := bnd_some h
      refine DrawG.opX rfl wantS_none rfl (ExG.append rfl rfl hH7 (i := 1) rfl enc3_len rfl enc3_ones appt22_22 rfl (len_slc (hH7.slc (i := 0) rfl enc3_len)) (first_slc (hH7.slc (i := 0) rfl enc3_len) (rdLe_rdRow _) enc3_len) hl8) ?_
      rintro s8 M10 (hH10 : Has Fr M10 [.vec 3 1 ([(w64 (x4 + (w64 (v1 * x5))))] : List Int).length s6 (([(w64 (x4 + (w64 (v1 * x5))))] : List Int).flatMap enc3), .vec 3 1 l8.length s8 (l8.flatMap enc3)])
      refine ⟨st_nil, ?_⟩
      refine DrawG.val rfl wantS_none (ex_assign rfl) rfl st_nil ?_
      refine DrawG.sync ?_
      refine DrawG.nil ?_
      refine Run.inBlock (Run.region ?_)
      refine Run.opG wantS_none (ex_move rfl) rfl ?_
      refine Run.opG wantS_none (ex_add rfl rfl) rfl ?_
      refine Run.opG wantS_none (ex_assign rfl) rfl ?_
      refine Run.opsEnd (Run.inLoop ?_)
      exact Run.pick [0, 1, 5, 6] (ih v0 v1 (w64 (v6 + (2 : Int))) l8 sv0 s8 _ _ _ hv0 (hH10.pick [1] rfl rfl) h)
    · have h := bif_f hc3 h
      refine Run.condF' rfl hc3 ?_
      refine Run.exit rfl (Run.seq (Run.region ?_))
      refine Run.opG wantS_none (ex_move rfl) rfl ?_
      refine Run.opG wantS_none (ex_assign rfl) rfl ?_
      refine Run.opsEnd ?_
      cases h
      exact Run.ret Tryz.func94 rfl (res_tmp rfl res_nil) ⟨_, rfl, (hH.pick [0] rfl rfl).upF (none_le _)⟩

def ref06_halves (F : Nat) (a0 : (List Int)) (a1 : Int) : Option ((List Int)) :=
  ref06_halves_1 F F a0 a1 (0 : Int) ([] : List Int)

theorem ref06_halves_ok (F : Nat) (a0 : (List Int)) (a1 : Int) (s0 : SV) (r : (List Int)) (M : Mem) (hs0 : Slc (rd M) 1 (FlatR enc3) s0 a0) (h : ref06_halves F a0 a1 = some r) : CallsM Tryz.prog 94 [s0, (.int .i64 a1)] M (fun s M' => ∃ q1, s = q1 ∧ New M M' [.vec 3 1 r.length q1 (r.flatMap enc3)]) := by
  refine CallsM.fresh (Q := ref06_halves_post r) Tryz.func94 rfl rfl ?_ (by rintro s Me ⟨q1, rfl, hx⟩ ha hw; exact ⟨_, rfl, New.of rfl hx ha hw⟩)
  rw [ref06_halves] at h
  replace hs0 := hs0.mono (rdLe_frozen M) (fun _ _ h => h)
  have hH := Has.nil (frozen M)
  refine Run.seq (Run.region ?_)
  refine Run.opG wantS_none (ex_assign rfl) rfl ?_
  refine Run.opsEnd (Run.seq (Run.region ?_))
  refine Run.opG wantS_none (ex_assign rfl) rfl ?_
  refine Run.opsEnd (Run.seq (Run.seq (Run.region ?_)))
  refine Run.opG wantS_none (ex_assign rfl) rfl ?_
  refine Run.opsEnd (Run.block (Run.loop ?_))
  have hH2 : Has (ro (frozen M)) (frozen M) [.vec 3 1 ([] : List Int).length .nils (([] : List Int).flatMap enc3)] := hH.nils 3 1
  exact Run.pick [0, 1, 5, 6] (ref06_halves_1_ok F F a0 a1 (0 : Int) ([] : List Int) s0 .nils _ _ _ hs0 hH2 h)

theorem mkk94 : makeK Tryz.prog 94 = none := by kernel_rfl
theorem cal94 : callable Tryz.prog 94 = true := by kernel_rfl
theorem elt31 : sliceElt Tryz.prog 31 = some (⟨3, 24, [(.int .i64 0), (.int .i64 0), (.int .i64 0)], 65⟩ : Elt) := by kernel_rfl
theorem appt31_31 : appT Tryz.prog 31 31 = some (⟨3, 24, [(.int .i64 0), (.int .i64 0), (.int .i64 0)], 65⟩ : Elt) := by kernel_rfl
abbrev ref06_tiles_post (r : (List S_api_Tile)) : SV → Mem → Prop := fun s Me => ∃ q1, s = q1 ∧ Has (fun _ => none) Me [.vec 65 3 r.length q1 (r.flatMap enc65)]

def ref06_tiles_2 (F : Nat) (hd1 : (List Int) → Int → (List S_api_Tile) → Option ((List S_api_Tile))) : Nat → (List Int) → Int → Int → (List S_api_Tile) → (List Int) → Option ((List S_api_Tile))
  | 0, _, _, _, _, _ => none
  | N + 1, v0, v4, v6, l1, l5 =>
    bif (decide (v6 < (l5.length : Int))) then
      bnd (idx l5 v6) fun x8 =>
      bnd (apd 24 l1 ([(S_api_Tile.mk v4 v6 x8)] : List S_api_Tile)) fun l11 =>
      (ref06_tiles_2 F hd1 N) v0 v4 (w64 (v6 + (1 : Int))) l11 l5
    else
      bnd (ref06_halves F v0 (1 : Int)) fun r14 =>
      hd1 r14 (w64 (v4 + (1 : Int))) l1

theorem ref06_tiles_2_ok (F : Nat) (hd1 : (List Int) → Int → (List S_api_Tile) → Option ((List S_api_Tile))) (hhd1 : ∀ (v0 : (List Int)) (v4 : Int) (l1 : (List S_api_Tile)) (sv0 : SV) (s1 : SV) (Fr : Rd) (M : Mem) (r : (List S_api_Tile)) (hv0 : Slc Fr 1 (FlatR enc3) sv0 v0) (hH : Has Fr M [.vec 65 3 l1.length s1 (l1.flatMap enc65)]), hd1 v0 v4 l1 = some r → Run Tryz.prog ⟨⟨59, [], none⟩, []⟩ 33 (ref06_tiles_post r) [(0, sv0), (3, s1), (4, (.int .i64 v4))] [codeC Tryz.prog 59 [1, 1, 0, 1, 0, 0], loopC Tryz.prog 59 [1, 1, 0, 1, 0, 0], .inBlock 0, codeC Tryz.prog 59 [1, 1, 1]] M) : ∀ (N : Nat), ∀ (v0 : (List Int)) (v4 : Int) (v6 : Int) (l1 : (List S_api_Tile)) (l5 : (List Int)) (sv0 : SV) (s1 : SV) (s5 : SV) (Fr : Rd) (M : Mem) (r : (List S_api_Tile)) (hv0 : Slc Fr 1 (FlatR enc3) sv0 v0) (hH : Has Fr M [.vec 65 3 l1.length s1 (l1.flatMap enc65), .vec 3 1 l5.length s5 (l5.flatMap enc3)]), ref06_tiles_2 F hd1 N v0 v4 v6 l1 l5 = some r → Run Tryz.prog ⟨⟨59, [], none⟩, []⟩ 33 (ref06_tiles_post r) [(0, sv0), (3, s1), (4, (.int .i64 v4)), (5, s5), (6, (.int .i64 v6))] [codeC Tryz.prog 59 [1, 1, 0, 1, 0, 0, 1, 0, 0, 1, 0, 1, 0, 0], loopC Tryz.prog 59 [1, 1, 0, 1, 0, 0, 1, 0, 0, 1, 0, 1, 0, 0], .inBlock 2, codeC Tryz.prog 59 [1, 1, 0, 1, 0, 0, 1, 0, 0, 1, 1], .inBlock 1, codeC Tryz.prog 59 [1, 1, 0, 1, 0, 0, 1, 1], loopC Tryz.prog 59 [1, 1, 0, 1, 0, 0], .inBlock 0, codeC Tryz.prog 59 [1, 1, 1]] M := by
  intro N
  induction N with
  | zero =>
    intro v0 v4 v6 l1 l5 sv0 s1 s5 Fr M r hv0 hH h
    simp [ref06_tiles_2] at h
  | succ N ih =>
    intro v0 v4 v6 l1 l5 sv0 s1 s5 Fr M r hv0 hH h
    rw [ref06_tiles_2] at h
    refine Run.seq (Run.seq (Run.region ?_))
    refine Run.opG wantS_none (ex_move rfl) rfl ?_
    refine Run.opG wantS_none (ex_move rfl) rfl ?_
    refine Run.opG wantS_none (ex_len' rfl (hH.slc (i := 1) rfl enc3_len) lenk22) rfl ?_
    refine Run.opG wantS_none (ex_lss rfl rfl) rfl ?_
    refine Run.opsEnd ?_
    rcases btf ((decide (v6 < (l5.length : Int)))) with hc7 | hc7
    · have h := bif_t hc7 h
      refine Run.condT' rfl hc7 ?_
      refine Run.skip (Run.seq (Run.block (Run.region ?_)))
      refine Run.opG wantS_none (ex_move rfl) rfl ?_
      refine Run.opG wantS_none (ex_move rfl) rfl ?_
      refine Run.opG wantS_none (ex_move rfl) rfl ?_
      refine Run.opG wantS_none (ex_move rfl) rfl ?_
      refine Run.opG wantS_none (ex_move rfl) rfl ?_
      obtain ⟨x8, hx8, h⟩ := bnd_some h
      obtain ⟨p8, o8, hb8, hx8, he8⟩ := vec_elem (P := Tryz.prog) (t := 22) (kk := .i64) hH (i := 1) rfl hx8 els22
      refine Run.opG wantS_none (ex_elX rfl rfl hx8) rfl ?_
      refine Run.opG wantS_none (ex_load1 rfl (hH.at (enc := enc3) (a := x8) (i := 1) rfl hb8 he8 enc3_len) rdLe_rfl agg3) rfl ?_
      refine Run.opG wantS_none (ex_build (r := [(.int .i64 v4), (.int .i64 v6), (.int .i64 x8)]) rfl zer65 pls65 rfl) rfl ?_
      refine Run.opX wantS_none rfl (ExG.built (enc := enc65) (l := ([(S_api_Tile.mk v4 v6 x8)] : List S_api_Tile)) (z := 3) rfl elt31 rfl rfl rfl enc65_len hH) ?_
      rintro s9 M10 (hH10 : Has Fr M10 [.vec 65 3 ([(S_api_Tile.mk v4 v6 x8)] : List S_api_Tile).length s9 (([(S_api_Tile.mk v4 v6 x8)] : List S_api_Tile).flatMap enc65), .vec 65 3 l1.length s1 (l1.flatMap enc65), .vec 3 1 l5.length s5 (l5.flatMap enc3)])
      obtain ⟨l11, hl11, h⟩ := bnd_some h
      refine Run.opX wantS_none rfl (ExG.append rfl rfl hH10 (i := 1) rfl enc65_len rfl enc65_ones appt31_31 rfl (len_slc (hH10.slc (i := 0) rfl enc65_len)) (first_slc (hH10.slc (i := 0) rfl enc65_len) (rdLe_rdRow _) enc65_len) hl11) ?_
      rintro s11 M13 (hH13 : Has Fr M13 [.vec 65 3 ([(S_api_Tile.mk v4 v6 x8)] : List S_api_Tile).length s9 (([(S_api_Tile.mk v4 v6 x8)] : List S_api_Tile).flatMap enc65), .vec 65 3 l11.length s11 (l11.flatMap enc65), .vec 3 1 l5.length s5 (l5.flatMap enc3)])
      refine Run.opG wantS_none (ex_assign rfl) rfl ?_
      refine Run.opsEnd (Run.inBlock (Run.region ?_))
      refine Run.opG wantS_none (ex_move rfl) rfl ?_
      refine Run.opG wantS_none (ex_add rfl rfl) rfl ?_
      refine Run.opG wantS_none (ex_assign rfl) rfl ?_
      refine Run.opsEnd (Run.inLoop ?_)
      exact Run.pick [0, 3, 4, 5, 6] (ih v0 v4 (w64 (v6 + (1 : Int))) l11 l5 sv0 s11 s5 _ _ _ hv0 (hH13.pick [1, 2] rfl rfl) h)
    · have h := bif_f hc7 h
      refine Run.condF' rfl hc7 ?_
      refine Run.exit rfl (Run.region ?_)
      refine Run.opG wantS_none (ex_move rfl) rfl ?_
      obtain ⟨r14, hr14, h⟩ := bnd_some h
      refine Run.callX wantS_none (ex_call rfl mkk94 cal94) rfl (ref06_halves_ok F v0 (1 : Int) sv0 _ _ (hH.slcF hv0) hr14) ?_
      rintro s14_0 M16 ⟨_, rfl, hN14⟩
      have hH16 : Has Fr M16 [.vec 3 1 r14.length s14_0 (r14.flatMap enc3), .vec 65 3 l1.length s1 (l1.flatMap enc65), .vec 3 1 l5.length s5 (l5.flatMap enc3)] := hN14 _ _ hH
      refine Run.opG wantS_none (ex_assign rfl) rfl ?_
      refine Run.opsEnd (Run.inBlock (Run.region ?_))
      refine Run.opG wantS_none (ex_move rfl) rfl ?_
      refine Run.opG wantS_none (ex_add rfl rfl) rfl ?_
      refine Run.opG wantS_none (ex_assign rfl) rfl ?_
      refine Run.opsEnd (Run.inLoop ?_)
      refine Run.freeze (t := 0) (i := 0) (enc := enc3) rfl hH16 rfl enc3_len ?_
      intro F17 M17 hle17 (hH17 : Has F17 M17 [.vec 0 0 0 .nils [], .vec 65 3 l1.length s1 (l1.flatMap enc65), .vec 3 1 l5.length s5 (l5.flatMap enc3)]) hf17
      exact Run.pick [0, 3, 4] (hhd1 r14 (w64 (v4 + (1 : Int))) l1 s14_0 s1 _ _ _ hf17 (hH17.pick [1] rfl rfl) h)

def ref06_tiles_1 (F : Nat) : Nat → (List Int) → Int → (List S_api_Tile) → Option ((List S_api_Tile))
  | 0, _, _, _ => none
  | N + 1, v0, v4, l1 =>
    bif (decide ((1 : Int) < (v0.length : Int))) then
      bnd (ref06_halves F v0 ((-1) : Int)) fun r4 =>
      ref06_tiles_2 F (ref06_tiles_1 F N) F v0 v4 (0 : Int) l1 r4
    else
      some l1

theorem ref06_tiles_1_ok (F : Nat) : ∀ (N : Nat), ∀ (v0 : (List Int)) (v4 : Int) (l1 : (List S_api_Tile)) (sv0 : SV) (s1 : SV) (Fr : Rd) (M : Mem) (r : (List S_api_Tile)) (hv0 : Slc Fr 1 (FlatR enc3) sv0 v0) (hH : Has Fr M [.vec 65 3 l1.length s1 (l1.flatMap enc65)]), ref06_tiles_1 F N v0 v4 l1 = some r → Run Tryz.prog ⟨⟨59, [], none⟩, []⟩ 33 (ref06_tiles_post r) [(0, sv0), (3, s1), (4, (.int .i64 v4))] [codeC Tryz.prog 59 [1, 1, 0, 1, 0, 0], loopC Tryz.prog 59 [1, 1, 0, 1, 0, 0], .inBlock 0, codeC Tryz.prog 59 [1, 1, 1]] M := by
  intro N
  induction N with
  | zero =>
    intro v0 v4 l1 sv0 s1 Fr M r hv0 hH h
    simp [ref06_tiles_1] at h
  | succ N ih =>
    intro v0 v4 l1 sv0 s1 Fr M r hv0 hH h
    rw [ref06_tiles_1] at h
    refine Run.seq (Run.seq (Run.region ?_))
    refine Run.opG wantS_none (ex_move rfl) rfl ?_
    refine Run.opG wantS_none (ex_len' rfl hv0 lenk22) rfl ?_
    refine Run.opG wantS_none (ex_gtr rfl rfl) rfl ?_
    refine Run.opsEnd ?_
    rcases btf ((decide ((1 : Int) < (v0.length : Int)))) with hc3 | hc3
    · have h := bif_t hc3 h
      refine Run.condT' rfl hc3 ?_
      refine Run.skip (Run.seq (Run.block (Run.seq (Run.region ?_))))
      refine Run.opG wantS_none (ex_move rfl) rfl ?_
      obtain ⟨r4, hr4, h⟩ := bnd_some h
      refine Run.callX wantS_none (ex_call rfl mkk94 cal94) rfl (ref06_halves_ok F v0 ((-1) : Int) sv0 _ _ (hH.slcF hv0) hr4) ?_
      rintro s4_0 M6 ⟨_, rfl, hN4⟩
      have hH6 : Has Fr M6 [.vec 3 1 r4.length s4_0 (r4.flatMap enc3), .vec 65 3 l1.length s1 (l1.flatMap enc65)] := hN4 _ _ hH
      refine Run.opG wantS_none (ex_assign rfl) rfl ?_
      refine Run.opsEnd (Run.seq (Run.seq (Run.region ?_)))
      refine Run.opG wantS_none (ex_assign rfl) rfl ?_
      refine Run.opsEnd (Run.block (Run.loop ?_))
      exact Run.pick [0, 3, 4, 5, 6] (ref06_tiles_2_ok F (ref06_tiles_1 F N) ih F v0 v4 (0 : Int) l1 r4 sv0 s1 s4_0 _ _ _ hv0 (hH6.pick [1, 0] rfl rfl) h)
    · have h := bif_f hc3 h
      refine Run.condF' rfl hc3 ?_
      refine Run.exit rfl (Run.seq (Run.region ?_))
      refine Run.opG wantS_none (ex_move rfl) rfl ?_
      refine Run.opG wantS_none (ex_assign rfl) rfl ?_
      refine Run.opsEnd ?_
      cases h
      exact Run.ret Tryz.func59 rfl (res_tmp rfl res_nil) ⟨_, rfl, (hH.pick [0] rfl rfl).upF (none_le _)⟩

def ref06_tiles (F : Nat) (a0 : (List Int)) : Option ((List S_api_Tile)) :=
  ref06_tiles_1 F F a0 (1 : Int) ([] : List S_api_Tile)

theorem ref06_tiles_ok (F : Nat) (a0 : (List Int)) (s0 : SV) (r : (List S_api_Tile)) (M : Mem) (hs0 : Slc (rd M) 1 (FlatR enc3) s0 a0) (h : ref06_tiles F a0 = some r) : CallsM Tryz.prog 59 [s0] M (fun s M' => ∃ q1, s = q1 ∧ New M M' [.vec 65 3 r.length q1 (r.flatMap enc65)]) := by
  refine CallsM.fresh (Q := ref06_tiles_post r) Tryz.func59 rfl rfl ?_ (by rintro s Me ⟨q1, rfl, hx⟩ ha hw; exact ⟨_, rfl, New.of rfl hx ha hw⟩)
  rw [ref06_tiles] at h
  replace hs0 := hs0.mono (rdLe_frozen M) (fun _ _ h => h)
  have hH := Has.nil (frozen M)
  refine Run.seq (Run.region ?_)
  refine Run.opG wantS_none (ex_assign rfl) rfl ?_
  refine Run.opsEnd (Run.seq (Run.region ?_))
  refine Run.opG wantS_none (ex_assign rfl) rfl ?_
  refine Run.opsEnd (Run.seq (Run.seq (Run.region ?_)))
  refine Run.opG wantS_none (ex_assign rfl) rfl ?_
  refine Run.opsEnd (Run.block (Run.loop ?_))
  have hH2 : Has (ro (frozen M)) (frozen M) [.vec 65 3 ([] : List S_api_Tile).length .nils (([] : List S_api_Tile).flatMap enc65)] := hH.nils 65 3
  exact Run.pick [0, 3, 4] (ref06_tiles_1_ok F F a0 (1 : Int) ([] : List S_api_Tile) s0 .nils _ _ _ hs0 hH2 h)

theorem mkk59 : makeK Tryz.prog 59 = none := by kernel_rfl
theorem cal59 : callable Tryz.prog 59 = true := by kernel_rfl
theorem plan70_1_0 : planOf Tryz.prog (opsC (atC Tryz.prog 70 [1, 0])) = some [.fl 0, .fl 1, .fl 2, .fl 3, .fl 4, .fl 5, .fl 6, .fl 7, .fl 8, .fl 9, .fl 10, .fl 11, .fl 12, .sync] := by kernel_rfl
abbrev ref06_covers_post (r : Int × Int) : SV → Mem → Prop := fun s _ => s = (.tuple [(.int .i64 r.1), (.int .i64 r.2)])

def ref06_covers (F : Nat) (a0 : S_api_Tile) : Option (Int × Int) :=
  bnd (shn a0.Level) fun j3 =>
  bnd (shn a0.Level) fun j4 =>
  some ((w64 (a0.At * 2 ^ (min j3 (IntKind.bits .i64)))), (w64 ((w64 (a0.At + (1 : Int))) * 2 ^ (min j4 (IntKind.bits .i64)))))

theorem ref06_covers_ok (F : Nat) (a0 : S_api_Tile) (r : Int × Int) (M : Mem) (h : ref06_covers F a0 = some r) : CallsM Tryz.prog 70 [(.agg [(.int .i64 a0.Level), (.int .i64 a0.At), (.int .i64 a0.D)])] M (fun s M' => s = (.tuple [(.int .i64 r.1), (.int .i64 r.2)]) ∧ M' = M) := by
  refine CallsM.plain Tryz.func70 rfl rfl rfl (show Run _ _ _ (ref06_covers_post r) _ _ _ from ?_)
  rw [ref06_covers] at h
  have hH := Has.nil (frozen M)
  refine Run.seq (Run.region ?_)
  refine Run.opX wantS_none rfl (ExG.box rfl rfl hH) ?_
  rintro _ M2 ⟨b1, rfl, (hH2 : Has (ro (frozen M)) M2 [.obj b1 (.row 65 .whole [(.int .i64 a0.Level), (.int .i64 a0.At), (.int .i64 a0.D)])])⟩
  refine Run.opG wantS_none (ex_assign rfl) rfl ?_
  refine Run.opG wantS_none (ex_assign rfl) rfl ?_
  refine Run.opsEnd (Run.seq ?_)
  refine Run.drawG plan70_1_0 ?_
  refine DrawG.fl rfl (ev_ex wantS_none (ex_fieldAddr rfl off65_1)) rfl ?_
  refine DrawG.fl rfl (ev_ex wantS_none (ex_load1 rfl (hH2.cells (i := 0) rfl 1 rfl) rdLe_rfl agg3)) rfl ?_
  refine DrawG.fl rfl (ev_ex wantS_none (ex_fieldAddr rfl off65_0)) rfl ?_
  refine DrawG.fl rfl (ev_ex wantS_none (ex_load1 rfl (hH2.cells (i := 0) rfl 0 rfl) rdLe_rfl agg3)) rfl ?_
  obtain ⟨j3, hj3, h⟩ := bnd_some h
  refine DrawG.fl rfl (ev_ex wantS_none (ex_shl' rfl rfl hj3)) rfl ?_
  refine DrawG.fl rfl (ev_ex wantS_none (ex_fieldAddr rfl off65_1)) rfl ?_
  refine DrawG.fl rfl (ev_ex wantS_none (ex_load1 rfl (hH2.cells (i := 0) rfl 1 rfl) rdLe_rfl agg3)) rfl ?_
  refine DrawG.fl rfl (ev_ex wantS_none (ex_add rfl rfl)) rfl ?_
  refine DrawG.fl rfl (ev_ex wantS_none (ex_fieldAddr rfl off65_0)) rfl ?_
  refine DrawG.fl rfl (ev_ex wantS_none (ex_load1 rfl (hH2.cells (i := 0) rfl 0 rfl) rdLe_rfl agg3)) rfl ?_
  obtain ⟨j4, hj4, h⟩ := bnd_some h
  refine DrawG.fl rfl (ev_ex wantS_none (ex_shl' rfl rfl hj4)) rfl ?_
  refine DrawG.fl rfl (ev_ex wantS_none (ex_assign rfl)) rfl ?_
  refine DrawG.fl rfl (ev_ex wantS_none (ex_assign rfl)) rfl ?_
  refine DrawG.sync ?_
  refine DrawG.nil ?_
  cases h
  exact Run.ret Tryz.func70 rfl (res_tmp rfl (res_tmp rfl res_nil)) rfl

theorem mkk70 : makeK Tryz.prog 70 = none := by kernel_rfl
theorem cal70 : callable Tryz.prog 70 = true := by kernel_rfl
theorem plan33_1_1_1_1_1_0_1_0_0_1_0_0_1_1_1_1_1_0_0_1_0_0_0 : planOf Tryz.prog (opsC (atC Tryz.prog 33 [1, 1, 1, 1, 1, 0, 1, 0, 0, 1, 0, 0, 1, 1, 1, 1, 1, 0, 0, 1, 0, 0, 0])) = some [.fl 0, .fl 1, .fl 2, .fl 3, .fl 4, .fl 5, .fl 6, .fl 7, .fl 8, .fl 9, .fl 10, .fl 11, .fl 12, .fl 13, .fl 14, .sync] := by kernel_rfl
theorem plan33_1_1_1_1_1_0_1_0_0_1_0_0_0_0_0_0_0 : planOf Tryz.prog (opsC (atC Tryz.prog 33 [1, 1, 1, 1, 1, 0, 1, 0, 0, 1, 0, 0, 0, 0, 0, 0, 0])) = some [.fl 0, .fl 1, .fl 2, .fl 3, .fl 4, .fl 5, .fl 6, .fl 7, .fl 8, .fl 9, .fl 10, .fl 11, .fl 12, .fl 13, .fl 14, .sync] := by kernel_rfl
abbrev ref06_Part_post (r : (List Int) × Int) : SV → Mem → Prop := fun s Me => ∃ q1, s = (.tuple [q1, (.int .i64 r.2)]) ∧ Has (fun _ => none) Me [.vec 3 1 r.1.length q1 (r.1.flatMap enc3)]

def ref06_Part_5 (F : Nat) (hd4 : (List Int) → (List S_api_Tile) → Int → Int → Int → Int → Int → (List S_api_Tile) → (List Int) → Option ((List Int) × Int)) (v0 : (List Int)) (v1 : (List S_api_Tile)) (v9 : Int) (v10 : Int) (v11 : Int) (v12 : Int) (v13 : Int) (v14 : Int) (l7 : (List S_api_Tile)) (l9 : (List Int)) : Option ((List Int) × Int) :=
  bnd (idx l9 v13) fun x29 =>
  bnd (inn l9 v13) fun o30 =>
  bnd (upd l9 o30 (w64 (x29 + v14))) fun l31 =>
  hd4 v0 v1 v9 v10 v11 v12 (w64 (v13 + (1 : Int))) l7 l31

theorem ref06_Part_5_ok (F : Nat) (hd4 : (List Int) → (List S_api_Tile) → Int → Int → Int → Int → Int → (List S_api_Tile) → (List Int) → Option ((List Int) × Int)) (hhd4 : ∀ (v0 : (List Int)) (v1 : (List S_api_Tile)) (v9 : Int) (v10 : Int) (v11 : Int) (v12 : Int) (v13 : Int) (l7 : (List S_api_Tile)) (l9 : (List Int)) (sv0 : SV) (sv1 : SV) (s7 : SV) (s9 : SV) (Fr : Rd) (M : Mem) (r : (List Int) × Int) (hv0 : Slc Fr 1 (FlatR enc3) sv0 v0) (hv1 : Slc Fr 3 (FlatR enc65) sv1 v1) (hH : Has Fr M [.vec 65 3 l7.length s7 (l7.flatMap enc65), .vec 3 1 l9.length s9 (l9.flatMap enc3)]), hd4 v0 v1 v9 v10 v11 v12 v13 l7 l9 = some r → Run Tryz.prog ⟨⟨33, [], none⟩, []⟩ 100 (ref06_Part_post r) [(0, sv0), (1, sv1), (7, s7), (8, s9), (9, (.int .i64 v9)), (10, (.int .i64 v10)), (11, (.int .i64 v11)), (12, (.int .i64 v12)), (13, (.int .i64 v13))] [codeC Tryz.prog 33 [1, 1, 1, 1, 1, 0, 1, 0, 0, 1, 0, 0, 1, 1, 1, 1, 1, 0, 0], loopC Tryz.prog 33 [1, 1, 1, 1, 1, 0, 1, 0, 0, 1, 0, 0, 1, 1, 1, 1, 1, 0, 0], .inBlock 4, .inBlock 1, codeC Tryz.prog 33 [1, 1, 1, 1, 1, 0, 1, 0, 0, 1, 1], loopC Tryz.prog 33 [1, 1, 1, 1, 1, 0, 1, 0, 0], .inBlock 0, codeC Tryz.prog 33 [1, 1, 1, 1, 1, 1]] M) : ∀ (v0 : (List Int)) (v1 : (List S_api_Tile)) (v9 : Int) (v10 : Int) (v11 : Int) (v12 : Int) (v13 : Int) (v14 : Int) (l7 : (List S_api_Tile)) (l9 : (List Int)) (sv0 : SV) (sv1 : SV) (s7 : SV) (s9 : SV) (Fr : Rd) (M : Mem) (r : (List Int) × Int) (hv0 : Slc Fr 1 (FlatR enc3) sv0 v0) (hv1 : Slc Fr 3 (FlatR enc65) sv1 v1) (hH : Has Fr M [.vec 65 3 l7.length s7 (l7.flatMap enc65), .vec 3 1 l9.length s9 (l9.flatMap enc3)]), ref06_Part_5 F hd4 v0 v1 v9 v10 v11 v12 v13 v14 l7 l9 = some r → Run Tryz.prog ⟨⟨33, [], none⟩, []⟩ 100 (ref06_Part_post r) [(0, sv0), (1, sv1), (7, s7), (8, s9), (9, (.int .i64 v9)), (10, (.int .i64 v10)), (11, (.int .i64 v11)), (12, (.int .i64 v12)), (13, (.int .i64 v13)), (14, (.int .i64 v14))] [itemC Tryz.prog 33 [1, 1, 1, 1, 1, 0, 1, 0, 0, 1, 0, 0, 1, 1, 1, 1, 1, 0, 0, 1, 0, 0, 1, 1] 0, .inBlock 5, codeC Tryz.prog 33 [1, 1, 1, 1, 1, 0, 1, 0, 0, 1, 0, 0, 1, 1, 1, 1, 1, 0, 0, 1, 1], loopC Tryz.prog 33 [1, 1, 1, 1, 1, 0, 1, 0, 0, 1, 0, 0, 1, 1, 1, 1, 1, 0, 0], .inBlock 4, .inBlock 1, codeC Tryz.prog 33 [1, 1, 1, 1, 1, 0, 1, 0, 0, 1, 1], loopC Tryz.prog 33 [1, 1, 1, 1, 1, 0, 1, 0, 0], .inBlock 0, codeC Tryz.prog 33 [1, 1, 1, 1, 1, 1]] M := by
  intro v0 v1 v9 v10 v11 v12 v13 v14 l7 l9 sv0 sv1 s7 s9 Fr M r hv0 hv1 hH h
  rw [ref06_Part_5] at h
  refine Run.opG wantS_none (ex_move rfl) rfl ?_
  refine Run.opG wantS_none (ex_move rfl) rfl ?_
  obtain ⟨x29, hx29, h⟩ := bnd_some h
  obtain ⟨p29, o29, hb29, hx29, he29⟩ := vec_elem (P := Tryz.prog) (t := 22) (kk := .i64) hH (i := 1) rfl hx29 els22
  refine Run.opG wantS_none (ex_elX rfl rfl hx29) rfl ?_
  refine Run.opG wantS_none (ex_load1 rfl (hH.at (enc := enc3) (a := x29) (i := 1) rfl hb29 he29 enc3_len) rdLe_rfl agg3) rfl ?_
  refine Run.opG wantS_none (ex_move rfl) rfl ?_
  refine Run.opG wantS_none (ex_add rfl rfl) rfl ?_
  obtain ⟨o30, ho30, h⟩ := bnd_some h
  obtain ⟨p30, hb30, hx30⟩ := vec_place (P := Tryz.prog) (t := 22) (kk := .i64) hH (i := 1) rfl ho30 els22
  refine Run.opG wantS_none (ex_elX rfl rfl hx30) rfl ?_
  obtain ⟨l31, hl31, h⟩ := bnd_some h
  refine Run.opX wantS_none rfl (ExG.storeEl rfl rfl hH (i := 1) rfl hb30 hl31 sz3 rfl enc3_len enc3_ones) ?_
  rintro _ M32 ⟨rfl, (hH32 : Has Fr M32 [.vec 65 3 l7.length s7 (l7.flatMap enc65), .vec 3 1 l31.length s9 (l31.flatMap enc3)])⟩
  refine Run.opsEnd (Run.inBlock (Run.region ?_))
  refine Run.opG wantS_none (ex_move rfl) rfl ?_
  refine Run.opG wantS_none (ex_add rfl rfl) rfl ?_
  refine Run.opG wantS_none (ex_assign rfl) rfl ?_
  refine Run.opsEnd (Run.inLoop ?_)
  exact Run.pick [0, 1, 7, 8, 9, 10, 11, 12, 13] (hhd4 v0 v1 v9 v10 v11 v12 (w64 (v13 + (1 : Int))) l7 l31 sv0 sv1 s7 s9 _ _ _ hv0 hv1 hH32 h)

def ref06_Part_4 (F : Nat) (hd1 : (List Int) → (List S_api_Tile) → Int → Int → (List S_api_Tile) → (List Int) → Option ((List Int) × Int)) : Nat → (List Int) → (List S_api_Tile) → Int → Int → Int → Int → Int → (List S_api_Tile) → (List Int) → Option ((List Int) × Int)
  | 0, _, _, _, _, _, _, _, _, _ => none
  | N + 1, v0, v1, v9, v10, v11, v12, v13, l7, l9 =>
    bif (decide (v13 < v12)) then
      bnd (idx v1 v10) fun x23 =>
      bnd (idx v1 v10) fun x25 =>
      bnd (shn x25.Level) fun j27 =>
      bif (decide ((w64 (v12 - v11)) ≤ (w64 ((2 : Int) * (w64 (v13 - v11)))))) then
        ref06_Part_5 F (ref06_Part_4 F hd1 N) v0 v1 v9 v10 v11 v12 v13 (w64 (-(w64 (x23.D * (Int.fdiv (v0.length : Int) (2 ^ (min j27 (IntKind.bits .i64)))))))) l7 l9
      else
        ref06_Part_5 F (ref06_Part_4 F hd1 N) v0 v1 v9 v10 v11 v12 v13 (w64 (x23.D * (Int.fdiv (v0.length : Int) (2 ^ (min j27 (IntKind.bits .i64)))))) l7 l9
    else
      hd1 v0 v1 v9 (w64 (v10 + (1 : Int))) l7 l9

theorem ref06_Part_4_ok (F : Nat) (hd1 : (List Int) → (List S_api_Tile) → Int → Int → (List S_api_Tile) → (List Int) → Option ((List Int) × Int)) (hhd1 : ∀ (v0 : (List Int)) (v1 : (List S_api_Tile)) (v9 : Int) (v10 : Int) (l7 : (List S_api_Tile)) (l9 : (List Int)) (sv0 : SV) (sv1 : SV) (s7 : SV) (s9 : SV) (Fr : Rd) (M : Mem) (r : (List Int) × Int) (hv0 : Slc Fr 1 (FlatR enc3) sv0 v0) (hv1 : Slc Fr 3 (FlatR enc65) sv1 v1) (hH : Has Fr M [.vec 65 3 l7.length s7 (l7.flatMap enc65), .vec 3 1 l9.length s9 (l9.flatMap enc3)]), hd1 v0 v1 v9 v10 l7 l9 = some r → Run Tryz.prog ⟨⟨33, [], none⟩, []⟩ 100 (ref06_Part_post r) [(0, sv0), (1, sv1), (7, s7), (8, s9), (9, (.int .i64 v9)), (10, (.int .i64 v10))] [codeC Tryz.prog 33 [1, 1, 1, 1, 1, 0, 1, 0, 0], loopC Tryz.prog 33 [1, 1, 1, 1, 1, 0, 1, 0, 0], .inBlock 0, codeC Tryz.prog 33 [1, 1, 1, 1, 1, 1]] M) : ∀ (N : Nat), ∀ (v0 : (List Int)) (v1 : (List S_api_Tile)) (v9 : Int) (v10 : Int) (v11 : Int) (v12 : Int) (v13 : Int) (l7 : (List S_api_Tile)) (l9 : (List Int)) (sv0 : SV) (sv1 : SV) (s7 : SV) (s9 : SV) (Fr : Rd) (M : Mem) (r : (List Int) × Int) (hv0 : Slc Fr 1 (FlatR enc3) sv0 v0) (hv1 : Slc Fr 3 (FlatR enc65) sv1 v1) (hH : Has Fr M [.vec 65 3 l7.length s7 (l7.flatMap enc65), .vec 3 1 l9.length s9 (l9.flatMap enc3)]), ref06_Part_4 F hd1 N v0 v1 v9 v10 v11 v12 v13 l7 l9 = some r → Run Tryz.prog ⟨⟨33, [], none⟩, []⟩ 100 (ref06_Part_post r) [(0, sv0), (1, sv1), (7, s7), (8, s9), (9, (.int .i64 v9)), (10, (.int .i64 v10)), (11, (.int .i64 v11)), (12, (.int .i64 v12)), (13, (.int .i64 v13))] [codeC Tryz.prog 33 [1, 1, 1, 1, 1, 0, 1, 0, 0, 1, 0, 0, 1, 1, 1, 1, 1, 0, 0], loopC Tryz.prog 33 [1, 1, 1, 1, 1, 0, 1, 0, 0, 1, 0, 0, 1, 1, 1, 1, 1, 0, 0], .inBlock 4, .inBlock 1, codeC Tryz.prog 33 [1, 1, 1, 1, 1, 0, 1, 0, 0, 1, 1], loopC Tryz.prog 33 [1, 1, 1, 1, 1, 0, 1, 0, 0], .inBlock 0, codeC Tryz.prog 33 [1, 1, 1, 1, 1, 1]] M := by
  intro N
  induction N with
  | zero =>
    intro v0 v1 v9 v10 v11 v12 v13 l7 l9 sv0 sv1 s7 s9 Fr M r hv0 hv1 hH h
    simp [ref06_Part_4] at h
  | succ N ih =>
    intro v0 v1 v9 v10 v11 v12 v13 l7 l9 sv0 sv1 s7 s9 Fr M r hv0 hv1 hH h
    rw [ref06_Part_4] at h
    refine Run.seq (Run.seq (Run.region ?_))
    refine Run.opG wantS_none (ex_move rfl) rfl ?_
    refine Run.opG wantS_none (ex_move rfl) rfl ?_
    refine Run.opG wantS_none (ex_lss rfl rfl) rfl ?_
    refine Run.opsEnd ?_
    rcases btf ((decide (v13 < v12))) with hc22 | hc22
    · have h := bif_t hc22 h
      refine Run.condT' rfl hc22 ?_
      refine Run.skip (Run.seq (Run.block (Run.seq ?_)))
      refine Run.drawG plan33_1_1_1_1_1_0_1_0_0_1_0_0_1_1_1_1_1_0_0_1_0_0_0 ?_
      refine DrawG.fl rfl (ev_ex wantS_none (ex_move rfl)) rfl ?_
      refine DrawG.fl rfl (ev_ex wantS_none (ex_move rfl)) rfl ?_
      obtain ⟨x23, hx23, h⟩ := bnd_some h
      obtain ⟨p23, o23, _, hx23, hp23, rfl⟩ := sl_elem (P := Tryz.prog) (t := 31) (kk := .i64) hv1 hx23 els31
      refine DrawG.fl rfl (ev_ex wantS_none (ex_elX rfl rfl hx23)) rfl ?_
      have hp24 := (hp23.fld (o := 2) rfl)
      refine DrawG.fl rfl (ev_ex wantS_none (ex_fieldAddr rfl off65_2)) rfl ?_
      refine DrawG.fl rfl (ev_ex wantS_none (ex_load1 rfl (hH.ptrF hp24) rdLe_rfl agg3)) rfl ?_
      refine DrawG.fl rfl (ev_ex wantS_none (ex_move rfl)) rfl ?_
      refine DrawG.fl rfl (ev_ex wantS_none (ex_len' rfl hv0 lenk22)) rfl ?_
      refine DrawG.fl rfl (ev_ex wantS_none (ex_move rfl)) rfl ?_
      refine DrawG.fl rfl (ev_ex wantS_none (ex_move rfl)) rfl ?_
      obtain ⟨x25, hx25, h⟩ := bnd_some h
      obtain ⟨p25, o25, _, hx25, hp25, rfl⟩ := sl_elem (P := Tryz.prog) (t := 31) (kk := .i64) hv1 hx25 els31
      refine DrawG.fl rfl (ev_ex wantS_none (ex_elX rfl rfl hx25)) rfl ?_
      have hp26 := (hp25.fld (o := 0) rfl)
      refine DrawG.fl rfl (ev_ex wantS_none (ex_fieldAddr rfl off65_0)) rfl ?_
      refine DrawG.fl rfl (ev_ex wantS_none (ex_load1 rfl (hH.ptrF hp26) rdLe_rfl agg3)) rfl ?_
      obtain ⟨j27, hj27, h⟩ := bnd_some h
      refine DrawG.fl rfl (ev_ex wantS_none (ex_shr' rfl rfl hj27)) rfl ?_
      refine DrawG.fl rfl (ev_ex wantS_none (ex_mul rfl rfl)) rfl ?_
      refine DrawG.fl rfl (ev_ex wantS_none (ex_assign rfl)) rfl ?_
      refine DrawG.sync ?_
      refine DrawG.nil ?_
      refine Run.seq (Run.seq (Run.region ?_))
      refine Run.opG wantS_none (ex_move rfl) rfl ?_
      refine Run.opG wantS_none (ex_move rfl) rfl ?_
      refine Run.opG wantS_none (ex_sub rfl rfl) rfl ?_
      refine Run.opG wantS_none (ex_mul rfl rfl) rfl ?_
      refine Run.opG wantS_none (ex_move rfl) rfl ?_
      refine Run.opG wantS_none (ex_move rfl) rfl ?_
      refine Run.opG wantS_none (ex_sub rfl rfl) rfl ?_
      refine Run.opG wantS_none (ex_geq rfl rfl) rfl ?_
      refine Run.opsEnd ?_
      rcases btf ((decide ((w64 (v12 - v11)) ≤ (w64 ((2 : Int) * (w64 (v13 - v11))))))) with hc28 | hc28
      · have h := bif_t hc28 h
        refine Run.condT' rfl hc28 ?_
        refine Run.region ?_
        refine Run.opG wantS_none (ex_move rfl) rfl ?_
        refine Run.opG wantS_none (ex_neg rfl) rfl ?_
        refine Run.opG wantS_none (ex_assign rfl) rfl ?_
        refine Run.opsEnd (Run.region ?_)
        exact Run.pick [0, 1, 7, 8, 9, 10, 11, 12, 13, 14] (ref06_Part_5_ok F (ref06_Part_4 F hd1 N) ih v0 v1 v9 v10 v11 v12 v13 (w64 (-(w64 (x23.D * (Int.fdiv (v0.length : Int) (2 ^ (min j27 (IntKind.bits .i64)))))))) l7 l9 sv0 sv1 s7 s9 _ _ _ hv0 hv1 hH h)
      · have h := bif_f hc28 h
        refine Run.condF' rfl hc28 ?_
        refine Run.skip (Run.region ?_)
        exact Run.pick [0, 1, 7, 8, 9, 10, 11, 12, 13, 14] (ref06_Part_5_ok F (ref06_Part_4 F hd1 N) ih v0 v1 v9 v10 v11 v12 v13 (w64 (x23.D * (Int.fdiv (v0.length : Int) (2 ^ (min j27 (IntKind.bits .i64)))))) l7 l9 sv0 sv1 s7 s9 _ _ _ hv0 hv1 hH h)
    · have h := bif_f hc22 h
      refine Run.condF' rfl hc22 ?_
      refine Run.exit rfl (Run.inBlock (Run.region ?_))
      refine Run.opG wantS_none (ex_move rfl) rfl ?_
      refine Run.opG wantS_none (ex_add rfl rfl) rfl ?_
      refine Run.opG wantS_none (ex_assign rfl) rfl ?_
      refine Run.opsEnd (Run.inLoop ?_)
      exact Run.pick [0, 1, 7, 8, 9, 10] (hhd1 v0 v1 v9 (w64 (v10 + (1 : Int))) l7 l9 sv0 sv1 s7 s9 _ _ _ hv0 hv1 hH h)

def ref06_Part_3 (F : Nat) (hd1 : (List Int) → (List S_api_Tile) → Int → Int → (List S_api_Tile) → (List Int) → Option ((List Int) × Int)) (hd2 : (List Int) → (List S_api_Tile) → Int → Int → (List S_api_Tile) → (List Int) → Option ((List Int) × Int)) (v0 : (List Int)) (v1 : (List S_api_Tile)) (v9 : Int) (v10 : Int) (v45 : Bool) (l7 : (List S_api_Tile)) (l9 : (List Int)) : Option ((List Int) × Int) :=
  bif v45 then
    hd2 v0 v1 (w64 (v9 + (1 : Int))) v10 l7 l9
  else
    bif (v9 == (l7.length : Int)) then
      some (([] : List Int), (61 : Int))
    else
      bnd (idx v1 v10) fun x19 =>
      bnd (ref06_covers F x19) fun r20 =>
      ref06_Part_4 F hd1 F v0 v1 (w64 (v9 + (1 : Int))) v10 r20.1 r20.2 r20.1 l7 l9

theorem ref06_Part_3_ok (F : Nat) (hd1 : (List Int) → (List S_api_Tile) → Int → Int → (List S_api_Tile) → (List Int) → Option ((List Int) × Int)) (hhd1 : ∀ (v0 : (List Int)) (v1 : (List S_api_Tile)) (v9 : Int) (v10 : Int) (l7 : (List S_api_Tile)) (l9 : (List Int)) (sv0 : SV) (sv1 : SV) (s7 : SV) (s9 : SV) (Fr : Rd) (M : Mem) (r : (List Int) × Int) (hv0 : Slc Fr 1 (FlatR enc3) sv0 v0) (hv1 : Slc Fr 3 (FlatR enc65) sv1 v1) (hH : Has Fr M [.vec 65 3 l7.length s7 (l7.flatMap enc65), .vec 3 1 l9.length s9 (l9.flatMap enc3)]), hd1 v0 v1 v9 v10 l7 l9 = some r → Run Tryz.prog ⟨⟨33, [], none⟩, []⟩ 100 (ref06_Part_post r) [(0, sv0), (1, sv1), (7, s7), (8, s9), (9, (.int .i64 v9)), (10, (.int .i64 v10))] [codeC Tryz.prog 33 [1, 1, 1, 1, 1, 0, 1, 0, 0], loopC Tryz.prog 33 [1, 1, 1, 1, 1, 0, 1, 0, 0], .inBlock 0, codeC Tryz.prog 33 [1, 1, 1, 1, 1, 1]] M) (hd2 : (List Int) → (List S_api_Tile) → Int → Int → (List S_api_Tile) → (List Int) → Option ((List Int) × Int)) (hhd2 : ∀ (v0 : (List Int)) (v1 : (List S_api_Tile)) (v9 : Int) (v10 : Int) (l7 : (List S_api_Tile)) (l9 : (List Int)) (sv0 : SV) (sv1 : SV) (s7 : SV) (s9 : SV) (Fr : Rd) (M : Mem) (r : (List Int) × Int) (hv0 : Slc Fr 1 (FlatR enc3) sv0 v0) (hv1 : Slc Fr 3 (FlatR enc65) sv1 v1) (hH : Has Fr M [.vec 65 3 l7.length s7 (l7.flatMap enc65), .vec 3 1 l9.length s9 (l9.flatMap enc3)]), hd2 v0 v1 v9 v10 l7 l9 = some r → Run Tryz.prog ⟨⟨33, [], none⟩, []⟩ 100 (ref06_Part_post r) [(0, sv0), (1, sv1), (7, s7), (8, s9), (9, (.int .i64 v9)), (10, (.int .i64 v10))] [codeC Tryz.prog 33 [1, 1, 1, 1, 1, 0, 1, 0, 0, 1, 0, 0, 0, 0, 0], loopC Tryz.prog 33 [1, 1, 1, 1, 1, 0, 1, 0, 0, 1, 0, 0, 0, 0, 0], .inBlock 2, codeC Tryz.prog 33 [1, 1, 1, 1, 1, 0, 1, 0, 0, 1, 0, 0, 1], .inBlock 1, codeC Tryz.prog 33 [1, 1, 1, 1, 1, 0, 1, 0, 0, 1, 1], loopC Tryz.prog 33 [1, 1, 1, 1, 1, 0, 1, 0, 0], .inBlock 0, codeC Tryz.prog 33 [1, 1, 1, 1, 1, 1]] M) : ∀ (v0 : (List Int)) (v1 : (List S_api_Tile)) (v9 : Int) (v10 : Int) (v45 : Bool) (l7 : (List S_api_Tile)) (l9 : (List Int)) (sv0 : SV) (sv1 : SV) (s7 : SV) (s9 : SV) (Fr : Rd) (M : Mem) (r : (List Int) × Int) (hv0 : Slc Fr 1 (FlatR enc3) sv0 v0) (hv1 : Slc Fr 3 (FlatR enc65) sv1 v1) (hH : Has Fr M [.vec 65 3 l7.length s7 (l7.flatMap enc65), .vec 3 1 l9.length s9 (l9.flatMap enc3)]), ref06_Part_3 F hd1 hd2 v0 v1 v9 v10 v45 l7 l9 = some r → Run Tryz.prog ⟨⟨33, [], none⟩, []⟩ 100 (ref06_Part_post r) [(0, sv0), (1, sv1), (7, s7), (8, s9), (9, (.int .i64 v9)), (10, (.int .i64 v10)), (45, (.bool v45))] [codeC Tryz.prog 33 [1, 1, 1, 1, 1, 0, 1, 0, 0, 1, 0, 0, 0, 0, 0, 0, 1], codeC Tryz.prog 33 [1, 1, 1, 1, 1, 0, 1, 0, 0, 1, 0, 0, 0, 0, 0, 1], loopC Tryz.prog 33 [1, 1, 1, 1, 1, 0, 1, 0, 0, 1, 0, 0, 0, 0, 0], .inBlock 2, codeC Tryz.prog 33 [1, 1, 1, 1, 1, 0, 1, 0, 0, 1, 0, 0, 1], .inBlock 1, codeC Tryz.prog 33 [1, 1, 1, 1, 1, 0, 1, 0, 0, 1, 1], loopC Tryz.prog 33 [1, 1, 1, 1, 1, 0, 1, 0, 0], .inBlock 0, codeC Tryz.prog 33 [1, 1, 1, 1, 1, 1]] M := by
  intro v0 v1 v9 v10 v45 l7 l9 sv0 sv1 s7 s9 Fr M r hv0 hv1 hH h
  rw [ref06_Part_3] at h
  rcases btf (v45) with hc15 | hc15
  · have h := bif_t hc15 h
    refine Run.condT' rfl hc15 ?_
    refine Run.skip (Run.block (Run.region ?_))
    refine Run.opG wantS_none (ex_move rfl) rfl ?_
    refine Run.opG wantS_none (ex_add rfl rfl) rfl ?_
    refine Run.opG wantS_none (ex_assign rfl) rfl ?_
    refine Run.opsEnd (Run.inBlock (Run.inLoop ?_))
    exact Run.pick [0, 1, 7, 8, 9, 10] (hhd2 v0 v1 (w64 (v9 + (1 : Int))) v10 l7 l9 sv0 sv1 s7 s9 _ _ _ hv0 hv1 hH h)
  · have h := bif_f hc15 h
    refine Run.condF' rfl hc15 ?_
    refine Run.exit rfl (Run.seq (Run.seq (Run.region ?_)))
    refine Run.opG wantS_none (ex_move rfl) rfl ?_
    refine Run.opG wantS_none (ex_move rfl) rfl ?_
    refine Run.opG wantS_none (ex_len' rfl (hH.slc (i := 0) rfl enc65_len) lenk31) rfl ?_
    refine Run.opG wantS_none (ex_eql rfl rfl) rfl ?_
    refine Run.opsEnd ?_
    rcases btf ((v9 == (l7.length : Int))) with hc16 | hc16
    · have h := bif_t hc16 h
      refine Run.condT' rfl hc16 ?_
      refine Run.seq (Run.region ?_)
      refine Run.opG wantS_none (ex_assign rfl) rfl ?_
      refine Run.opG wantS_none (ex_assign rfl) rfl ?_
      refine Run.opsEnd ?_
      have hH18 : Has Fr M [.vec 3 1 ([] : List Int).length .nils (([] : List Int).flatMap enc3), .vec 65 3 l7.length s7 (l7.flatMap enc65), .vec 3 1 l9.length s9 (l9.flatMap enc3)] := hH.nils 3 1
      cases h
      exact Run.ret Tryz.func33 rfl (res_tmp rfl (res_tmp rfl res_nil)) ⟨_, rfl, (hH18.pick [0] rfl rfl).upF (none_le _)⟩
    · have h := bif_f hc16 h
      refine Run.condF' rfl hc16 ?_
      refine Run.skip (Run.seq (Run.region ?_))
      refine Run.opG wantS_none (ex_move rfl) rfl ?_
      refine Run.opG wantS_none (ex_add rfl rfl) rfl ?_
      refine Run.opG wantS_none (ex_assign rfl) rfl ?_
      refine Run.opsEnd (Run.seq (Run.region ?_))
      refine Run.opG wantS_none (ex_move rfl) rfl ?_
      refine Run.opG wantS_none (ex_move rfl) rfl ?_
      obtain ⟨x19, hx19, h⟩ := bnd_some h
      obtain ⟨p19, o19, _, hx19, hp19, rfl⟩ := sl_elem (P := Tryz.prog) (t := 31) (kk := .i64) hv1 hx19 els31
      refine Run.opG wantS_none (ex_elX rfl rfl hx19) rfl ?_
      refine Run.opG wantS_none (ex_loadA rfl (hH.ptrF hp19) rdLe_rfl agg65 rfl rfl rfl) rfl ?_
      obtain ⟨r20, hr20, h⟩ := bnd_some h
      refine Run.callP wantS_none (ex_call rfl mkk70 cal70) rfl (ref06_covers_ok F x19 _ _ hr20) ?_
      refine Run.opG wantS_none (ex_move rfl) rfl ?_
      refine Run.opG wantS_none (ex_extract rfl rfl) rfl ?_
      refine Run.opG wantS_none (ex_extract rfl rfl) rfl ?_
      refine Run.opG wantS_none (ex_assign rfl) rfl ?_
      refine Run.opG wantS_none (ex_assign rfl) rfl ?_
      refine Run.opsEnd (Run.seq (Run.region ?_))
      refine Run.opG wantS_none (ex_move rfl) rfl ?_
      refine Run.opG wantS_none (ex_assign rfl) rfl ?_
      refine Run.opsEnd (Run.block (Run.loop ?_))
      exact Run.pick [0, 1, 7, 8, 9, 10, 11, 12, 13] (ref06_Part_4_ok F hd1 hhd1 F v0 v1 (w64 (v9 + (1 : Int))) v10 r20.1 r20.2 r20.1 l7 l9 sv0 sv1 s7 s9 _ _ _ hv0 hv1 hH h)

def ref06_Part_2 (F : Nat) (hd1 : (List Int) → (List S_api_Tile) → Int → Int → (List S_api_Tile) → (List Int) → Option ((List Int) × Int)) : Nat → (List Int) → (List S_api_Tile) → Int → Int → (List S_api_Tile) → (List Int) → Option ((List Int) × Int)
  | 0, _, _, _, _, _, _ => none
  | N + 1, v0, v1, v9, v10, l7, l9 =>
    bif (decide (v9 < (l7.length : Int))) then
      bnd (idx l7 v9) fun x13 =>
      bnd (idx v1 v10) fun x14 =>
      ref06_Part_3 F hd1 (ref06_Part_2 F hd1 N) v0 v1 v9 v10 (!((x13.Level == x14.Level) && ((x13.At == x14.At) && ((x13.D == x14.D) && true)))) l7 l9
    else
      ref06_Part_3 F hd1 (ref06_Part_2 F hd1 N) v0 v1 v9 v10 false l7 l9

theorem ref06_Part_2_ok (F : Nat) (hd1 : (List Int) → (List S_api_Tile) → Int → Int → (List S_api_Tile) → (List Int) → Option ((List Int) × Int)) (hhd1 : ∀ (v0 : (List Int)) (v1 : (List S_api_Tile)) (v9 : Int) (v10 : Int) (l7 : (List S_api_Tile)) (l9 : (List Int)) (sv0 : SV) (sv1 : SV) (s7 : SV) (s9 : SV) (Fr : Rd) (M : Mem) (r : (List Int) × Int) (hv0 : Slc Fr 1 (FlatR enc3) sv0 v0) (hv1 : Slc Fr 3 (FlatR enc65) sv1 v1) (hH : Has Fr M [.vec 65 3 l7.length s7 (l7.flatMap enc65), .vec 3 1 l9.length s9 (l9.flatMap enc3)]), hd1 v0 v1 v9 v10 l7 l9 = some r → Run Tryz.prog ⟨⟨33, [], none⟩, []⟩ 100 (ref06_Part_post r) [(0, sv0), (1, sv1), (7, s7), (8, s9), (9, (.int .i64 v9)), (10, (.int .i64 v10))] [codeC Tryz.prog 33 [1, 1, 1, 1, 1, 0, 1, 0, 0], loopC Tryz.prog 33 [1, 1, 1, 1, 1, 0, 1, 0, 0], .inBlock 0, codeC Tryz.prog 33 [1, 1, 1, 1, 1, 1]] M) : ∀ (N : Nat), ∀ (v0 : (List Int)) (v1 : (List S_api_Tile)) (v9 : Int) (v10 : Int) (l7 : (List S_api_Tile)) (l9 : (List Int)) (sv0 : SV) (sv1 : SV) (s7 : SV) (s9 : SV) (Fr : Rd) (M : Mem) (r : (List Int) × Int) (hv0 : Slc Fr 1 (FlatR enc3) sv0 v0) (hv1 : Slc Fr 3 (FlatR enc65) sv1 v1) (hH : Has Fr M [.vec 65 3 l7.length s7 (l7.flatMap enc65), .vec 3 1 l9.length s9 (l9.flatMap enc3)]), ref06_Part_2 F hd1 N v0 v1 v9 v10 l7 l9 = some r → Run Tryz.prog ⟨⟨33, [], none⟩, []⟩ 100 (ref06_Part_post r) [(0, sv0), (1, sv1), (7, s7), (8, s9), (9, (.int .i64 v9)), (10, (.int .i64 v10))] [codeC Tryz.prog 33 [1, 1, 1, 1, 1, 0, 1, 0, 0, 1, 0, 0, 0, 0, 0], loopC Tryz.prog 33 [1, 1, 1, 1, 1, 0, 1, 0, 0, 1, 0, 0, 0, 0, 0], .inBlock 2, codeC Tryz.prog 33 [1, 1, 1, 1, 1, 0, 1, 0, 0, 1, 0, 0, 1], .inBlock 1, codeC Tryz.prog 33 [1, 1, 1, 1, 1, 0, 1, 0, 0, 1, 1], loopC Tryz.prog 33 [1, 1, 1, 1, 1, 0, 1, 0, 0], .inBlock 0, codeC Tryz.prog 33 [1, 1, 1, 1, 1, 1]] M := by
  intro N
  induction N with
  | zero =>
    intro v0 v1 v9 v10 l7 l9 sv0 sv1 s7 s9 Fr M r hv0 hv1 hH h
    simp [ref06_Part_2] at h
  | succ N ih =>
    intro v0 v1 v9 v10 l7 l9 sv0 sv1 s7 s9 Fr M r hv0 hv1 hH h
    rw [ref06_Part_2] at h
    refine Run.seq (Run.seq ?_)
    refine Run.drawG plan33_1_1_1_1_1_0_1_0_0_1_0_0_0_0_0_0_0 ?_
    refine DrawG.fl rfl (ev_ex wantS_none (ex_move rfl)) rfl ?_
    refine DrawG.fl rfl (ev_ex wantS_none (ex_move rfl)) rfl ?_
    refine DrawG.fl rfl (ev_ex wantS_none (ex_len' rfl (hH.slc (i := 0) rfl enc65_len) lenk31)) rfl ?_
    refine DrawG.fl rfl (ev_ex wantS_none (ex_lss rfl rfl)) rfl ?_
    refine DrawG.fl rfl (ev_ex wantS_none (ex_move rfl)) rfl ?_
    rcases btf ((decide (v9 < (l7.length : Int)))) with hc12 | hc12
    · have h := bif_t hc12 h
      refine DrawG.fl rfl (ev_ex (wantS_yes' rfl rfl hc12) (ex_move rfl)) rfl ?_
      refine DrawG.fl rfl (ev_ex (wantS_yes' rfl rfl hc12) (ex_move rfl)) rfl ?_
      obtain ⟨x13, hx13, h⟩ := bnd_some h
      obtain ⟨p13, o13, hb13, hx13, he13⟩ := vec_elem (P := Tryz.prog) (t := 31) (kk := .i64) hH (i := 0) rfl hx13 els31
      refine DrawG.fl rfl (ev_ex (wantS_yes' rfl rfl hc12) (ex_elX rfl rfl hx13)) rfl ?_
      refine DrawG.fl rfl (ev_ex (wantS_yes' rfl rfl hc12) (ex_loadA rfl (hH.at (enc := enc65) (a := x13) (i := 0) rfl hb13 he13 enc65_len) rdLe_rfl agg65 rfl rfl rfl)) rfl ?_
      refine DrawG.fl rfl (ev_ex (wantS_yes' rfl rfl hc12) (ex_move rfl)) rfl ?_
      refine DrawG.fl rfl (ev_ex (wantS_yes' rfl rfl hc12) (ex_move rfl)) rfl ?_
      obtain ⟨x14, hx14, h⟩ := bnd_some h
      obtain ⟨p14, o14, _, hx14, hp14, rfl⟩ := sl_elem (P := Tryz.prog) (t := 31) (kk := .i64) hv1 hx14 els31
      refine DrawG.fl rfl (ev_ex (wantS_yes' rfl rfl hc12) (ex_elX rfl rfl hx14)) rfl ?_
      refine DrawG.fl rfl (ev_ex (wantS_yes' rfl rfl hc12) (ex_loadA rfl (hH.ptrF hp14) rdLe_rfl agg65 rfl rfl rfl)) rfl ?_
      refine DrawG.fl rfl (ev_ex (wantS_yes' rfl rfl hc12) (ex_neqA rfl rfl aeq65 (eqA_st agk65 (eqFs_cons (by decide) (part_one agg3 rfl) (part_one agg3 rfl) (eqA_int agk3) (eqFs_cons (by decide) (part_one agg3 rfl) (part_one agg3 rfl) (eqA_int agk3) (eqFs_cons (by decide) (part_one agg3 rfl) (part_one agg3 rfl) (eqA_int agk3) eqFs_nil)))))) rfl ?_
      refine DrawG.fl rfl (ev_ex wantS_none (ex_pickT' rfl hc12 rfl rfl)) rfl ?_
      refine DrawG.sync ?_
      refine DrawG.nil ?_
      exact Run.pick [0, 1, 7, 8, 9, 10, 45] (ref06_Part_3_ok F hd1 hhd1 (ref06_Part_2 F hd1 N) ih v0 v1 v9 v10 (!((x13.Level == x14.Level) && ((x13.At == x14.At) && ((x13.D == x14.D) && true)))) l7 l9 sv0 sv1 s7 s9 _ _ _ hv0 hv1 hH h)
    · have h := bif_f hc12 h
      refine DrawG.fl rfl (ev_no (wantS_not' rfl rfl hc12)) rfl ?_
      refine DrawG.fl rfl (ev_no (wantS_not' rfl rfl hc12)) rfl ?_
      refine DrawG.fl rfl (ev_no (wantS_not' rfl rfl hc12)) rfl ?_
      refine DrawG.fl rfl (ev_no (wantS_not' rfl rfl hc12)) rfl ?_
      refine DrawG.fl rfl (ev_no (wantS_not' rfl rfl hc12)) rfl ?_
      refine DrawG.fl rfl (ev_no (wantS_not' rfl rfl hc12)) rfl ?_
      refine DrawG.fl rfl (ev_no (wantS_not' rfl rfl hc12)) rfl ?_
      refine DrawG.fl rfl (ev_no (wantS_not' rfl rfl hc12)) rfl ?_
      refine DrawG.fl rfl (ev_no (wantS_not' rfl rfl hc12)) rfl ?_
      refine DrawG.fl rfl (ev_ex wantS_none (ex_pickF' rfl hc12 rfl rfl)) rfl ?_
      refine DrawG.sync ?_
      refine DrawG.nil ?_
      exact Run.pick [0, 1, 7, 8, 9, 10, 45] (ref06_Part_3_ok F hd1 hhd1 (ref06_Part_2 F hd1 N) ih v0 v1 v9 v10 false l7 l9 sv0 sv1 s7 s9 _ _ _ hv0 hv1 hH h)

def ref06_Part_1 (F : Nat) : Nat → (List Int) → (List S_api_Tile) → Int → Int → (List S_api_Tile) → (List Int) → Option ((List Int) × Int)
  | 0, _, _, _, _, _, _ => none
  | N + 1, v0, v1, v9, v10, l7, l9 =>
    bif (decide (v10 < (v1.length : Int))) then
      ref06_Part_2 F (ref06_Part_1 F N) F v0 v1 v9 v10 l7 l9
    else
      some (l9, (0 : Int))

theorem ref06_Part_1_ok (F : Nat) : ∀ (N : Nat), ∀ (v0 : (List Int)) (v1 : (List S_api_Tile)) (v9 : Int) (v10 : Int) (l7 : (List S_api_Tile)) (l9 : (List Int)) (sv0 : SV) (sv1 : SV) (s7 : SV) (s9 : SV) (Fr : Rd) (M : Mem) (r : (List Int) × Int) (hv0 : Slc Fr 1 (FlatR enc3) sv0 v0) (hv1 : Slc Fr 3 (FlatR enc65) sv1 v1) (hH : Has Fr M [.vec 65 3 l7.length s7 (l7.flatMap enc65), .vec 3 1 l9.length s9 (l9.flatMap enc3)]), ref06_Part_1 F N v0 v1 v9 v10 l7 l9 = some r → Run Tryz.prog ⟨⟨33, [], none⟩, []⟩ 100 (ref06_Part_post r) [(0, sv0), (1, sv1), (7, s7), (8, s9), (9, (.int .i64 v9)), (10, (.int .i64 v10))] [codeC Tryz.prog 33 [1, 1, 1, 1, 1, 0, 1, 0, 0], loopC Tryz.prog 33 [1, 1, 1, 1, 1, 0, 1, 0, 0], .inBlock 0, codeC Tryz.prog 33 [1, 1, 1, 1, 1, 1]] M := by
  intro N
  induction N with
  | zero =>
    intro v0 v1 v9 v10 l7 l9 sv0 sv1 s7 s9 Fr M r hv0 hv1 hH h
    simp [ref06_Part_1] at h
  | succ N ih =>
    intro v0 v1 v9 v10 l7 l9 sv0 sv1 s7 s9 Fr M r hv0 hv1 hH h
    rw [ref06_Part_1] at h
    refine Run.seq (Run.seq (Run.region ?_))
    refine Run.opG wantS_none (ex_move rfl) rfl ?_
    refine Run.opG wantS_none (ex_move rfl) rfl ?_
    refine Run.opG wantS_none (ex_len' rfl hv1 lenk31) rfl ?_
    refine Run.opG wantS_none (ex_lss rfl rfl) rfl ?_
    refine Run.opsEnd ?_
    rcases btf ((decide (v10 < (v1.length : Int)))) with hc11 | hc11
    · have h := bif_t hc11 h
      refine Run.condT' rfl hc11 ?_
      refine Run.skip (Run.seq (Run.block (Run.seq (Run.block (Run.loop ?_)))))
      exact Run.pick [0, 1, 7, 8, 9, 10] (ref06_Part_2_ok F (ref06_Part_1 F N) ih F v0 v1 v9 v10 l7 l9 sv0 sv1 s7 s9 _ _ _ hv0 hv1 hH h)
    · have h := bif_f hc11 h
      refine Run.condF' rfl hc11 ?_
      refine Run.exit rfl (Run.seq (Run.region ?_))
      refine Run.opG wantS_none (ex_move rfl) rfl ?_
      refine Run.opG wantS_none (ex_assign rfl) rfl ?_
      refine Run.opG wantS_none (ex_assign rfl) rfl ?_
      refine Run.opsEnd ?_
      cases h
      exact Run.ret Tryz.func33 rfl (res_tmp rfl (res_tmp rfl res_nil)) ⟨_, rfl, (hH.pick [1] rfl rfl).upF (none_le _)⟩

def ref06_Part (F : Nat) (a0 : (List Int)) (a1 : (List S_api_Tile)) : Option ((List Int) × Int) :=
  bnd (ref06_CheckSignal F a0) fun r1 =>
  bif (!(r1 == (0 : Int))) then
    some (([] : List Int), r1)
  else
    bnd (ref06_tiles F a0) fun r6 =>
    bnd (mk (a0.length : Int) 8 (0 : Int)) fun l9 =>
    ref06_Part_1 F F a0 a1 (0 : Int) (0 : Int) r6 l9

theorem ref06_Part_ok (F : Nat) (a0 : (List Int)) (a1 : (List S_api_Tile)) (s0 s1 : SV) (r : (List Int) × Int) (M : Mem) (hs0 : Slc (rd M) 1 (FlatR enc3) s0 a0) (hs1 : Slc (rd M) 3 (FlatR enc65) s1 a1) (h : ref06_Part F a0 a1 = some r) : CallsM Tryz.prog 33 [s0, s1] M (fun s M' => ∃ q1, s = (.tuple [q1, (.int .i64 r.2)]) ∧ New M M' [.vec 3 1 r.1.length q1 (r.1.flatMap enc3)]) := by
  refine CallsM.fresh (Q := ref06_Part_post r) Tryz.func33 rfl rfl ?_ (by rintro s Me ⟨q1, rfl, hx⟩ ha hw; exact ⟨_, rfl, New.of rfl hx ha hw⟩)
  rw [ref06_Part] at h
  replace hs0 := hs0.mono (rdLe_frozen M) (fun _ _ h => h)
  replace hs1 := hs1.mono (rdLe_frozen M) (fun _ _ h => h)
  have hH := Has.nil (frozen M)
  refine Run.seq (Run.region ?_)
  refine Run.opG wantS_none (ex_assign rfl) rfl ?_
  refine Run.opG wantS_none (ex_assign rfl) rfl ?_
  refine Run.opsEnd (Run.seq (Run.seq (Run.region ?_)))
  refine Run.opG wantS_none (ex_move rfl) rfl ?_
  obtain ⟨r1, hr1, h⟩ := bnd_some h
  refine Run.callP wantS_none (ex_call rfl mkk16 cal16) rfl (ref06_CheckSignal_ok F a0 s0 _ _ (hH.slcF hs0) hr1) ?_
  refine Run.opG wantS_none (ex_assign rfl) rfl ?_
  refine Run.opsEnd (Run.seq (Run.region ?_))
  refine Run.opG wantS_none (ex_move rfl) rfl ?_
  refine Run.opG wantS_none (ex_neq rfl rfl) rfl ?_
  refine Run.opsEnd ?_
  rcases btf ((!(r1 == (0 : Int)))) with hc3 | hc3
  · have h := bif_t hc3 h
    refine Run.condT' rfl hc3 ?_
    refine Run.seq (Run.region ?_)
    refine Run.opG wantS_none (ex_move rfl) rfl ?_
    refine Run.opG wantS_none (ex_assign rfl) rfl ?_
    refine Run.opG wantS_none (ex_assign rfl) rfl ?_
    refine Run.opsEnd ?_
    have hH5 : Has (ro (frozen M)) (frozen M) [.vec 3 1 ([] : List Int).length .nils (([] : List Int).flatMap enc3)] := hH.nils 3 1
    cases h
    exact Run.ret Tryz.func33 rfl (res_tmp rfl (res_tmp rfl res_nil)) ⟨_, rfl, (hH5.pick [0] rfl rfl).upF (none_le _)⟩
  · have h := bif_f hc3 h
    refine Run.condF' rfl hc3 ?_
    refine Run.skip (Run.seq (Run.region ?_))
    refine Run.opG wantS_none (ex_move rfl) rfl ?_
    obtain ⟨r6, hr6, h⟩ := bnd_some h
    refine Run.callX wantS_none (ex_call rfl mkk59 cal59) rfl (ref06_tiles_ok F a0 s0 _ _ (hH.slcF hs0) hr6) ?_
    rintro s6_0 M8 ⟨_, rfl, hN6⟩
    have hH8 : Has (ro (frozen M)) M8 [.vec 65 3 r6.length s6_0 (r6.flatMap enc65)] := hN6 _ _ hH
    refine Run.opG wantS_none (ex_assign rfl) rfl ?_
    refine Run.opsEnd (Run.seq (Run.region ?_))
    refine Run.opG wantS_none (ex_move rfl) rfl ?_
    refine Run.opG wantS_none (ex_len' rfl hs0 lenk22) rfl ?_
    obtain ⟨l9, hl9, h⟩ := bnd_some h
    refine Run.opX wantS_none rfl (ExG.make (enc := enc3) (z := 1) rfl rfl hl9 elt22 rfl rfl enc3_len hH8) ?_
    rintro s9 M10 (hH10 : Has (ro (frozen M)) M10 [.vec 3 1 l9.length s9 (l9.flatMap enc3), .vec 65 3 r6.length s6_0 (r6.flatMap enc65)])
    refine Run.opG wantS_none (ex_assign rfl) rfl ?_
    refine Run.opsEnd (Run.seq (Run.region ?_))
    refine Run.opG wantS_none (ex_assign rfl) rfl ?_
    refine Run.opsEnd (Run.seq (Run.seq (Run.region ?_)))
    refine Run.opG wantS_none (ex_assign rfl) rfl ?_
    refine Run.opsEnd (Run.block (Run.loop ?_))
    exact Run.pick [0, 1, 7, 8, 9, 10] (ref06_Part_1_ok F F a0 a1 (0 : Int) (0 : Int) r6 l9 s0 s1 s6_0 s9 _ _ _ hs0 hs1 (hH10.pick [1, 0] rfl rfl) h)

theorem mkk33 : makeK Tryz.prog 33 = none := by kernel_rfl
theorem cal33 : callable Tryz.prog 33 = true := by kernel_rfl
theorem plan19_1_1_0_1_0_0_1_0_0_0 : planOf Tryz.prog (opsC (atC Tryz.prog 19 [1, 1, 0, 1, 0, 0, 1, 0, 0, 0])) = some [.fl 0, .fl 1, .fl 2, .fl 3, .fl 4, .fl 5, .fl 6, .fl 7, .fl 8, .sync] := by kernel_rfl
abbrev ref00_SameInts_post (r : Bool) : SV → Mem → Prop := fun s _ => s = (.bool r)

def ref00_SameInts_1 (F : Nat) : Nat → (List Int) → (List Int) → Int → Option (Bool)
  | 0, _, _, _ => none
  | N + 1, v0, v1, v5 =>
    bif (decide (v5 < (v0.length : Int))) then
      bnd (idx v0 v5) fun x3 =>
      bnd (idx v1 v5) fun x4 =>
      bif (!(x3 == x4)) then
        some false
      else
        (ref00_SameInts_1 F N) v0 v1 (w64 (v5 + (1 : Int)))
    else
      some true

theorem ref00_SameInts_1_ok (F : Nat) : ∀ (N : Nat), ∀ (v0 : (List Int)) (v1 : (List Int)) (v5 : Int) (sv0 : SV) (sv1 : SV) (Fr : Rd) (M : Mem) (r : Bool) (hv0 : Slc Fr 1 (FlatR enc3) sv0 v0) (hv1 : Slc Fr 1 (FlatR enc3) sv1 v1) (hH : Has Fr M []), ref00_SameInts_1 F N v0 v1 v5 = some r → Run Tryz.prog ⟨⟨19, [], none⟩, []⟩ 26 (ref00_SameInts_post r) [(0, sv0), (1, sv1), (5, (.int .i64 v5))] [codeC Tryz.prog 19 [1, 1, 0, 1, 0, 0], loopC Tryz.prog 19 [1, 1, 0, 1, 0, 0], .inBlock 0, codeC Tryz.prog 19 [1, 1, 1]] M := by
  intro N
  induction N with
  | zero =>
    intro v0 v1 v5 sv0 sv1 Fr M r hv0 hv1 hH h
    simp [ref00_SameInts_1] at h
  | succ N ih =>
    intro v0 v1 v5 sv0 sv1 Fr M r hv0 hv1 hH h
    rw [ref00_SameInts_1] at h
    refine Run.seq (Run.seq (Run.region ?_))
    refine Run.opG wantS_none (ex_move rfl) rfl ?_
    refine Run.opG wantS_none (ex_move rfl) rfl ?_
    refine Run.opG wantS_none (ex_len' rfl hv0 lenk22) rfl ?_
    refine Run.opG wantS_none (ex_lss rfl rfl) rfl ?_
    refine Run.opsEnd ?_
    rcases btf ((decide (v5 < (v0.length : Int)))) with hc2 | hc2
    · have h := bif_t hc2 h
      refine Run.condT' rfl hc2 ?_
      refine Run.skip (Run.seq (Run.block (Run.seq ?_)))
      refine Run.drawG plan19_1_1_0_1_0_0_1_0_0_0 ?_
      refine DrawG.fl rfl (ev_ex wantS_none (ex_move rfl)) rfl ?_
      refine DrawG.fl rfl (ev_ex wantS_none (ex_move rfl)) rfl ?_
      obtain ⟨x3, hx3, h⟩ := bnd_some h
      obtain ⟨p3, o3, _, hx3, hp3, rfl⟩ := sl_elem (P := Tryz.prog) (t := 22) (kk := .i64) hv0 hx3 els22
      refine DrawG.fl rfl (ev_ex wantS_none (ex_elX rfl rfl hx3)) rfl ?_
      refine DrawG.fl rfl (ev_ex wantS_none (ex_load1 rfl (hH.ptrF hp3) rdLe_rfl agg3)) rfl ?_
      refine DrawG.fl rfl (ev_ex wantS_none (ex_move rfl)) rfl ?_
      refine DrawG.fl rfl (ev_ex wantS_none (ex_move rfl)) rfl ?_
      obtain ⟨x4, hx4, h⟩ := bnd_some h
      obtain ⟨p4, o4, _, hx4, hp4, rfl⟩ := sl_elem (P := Tryz.prog) (t := 22) (kk := .i64) hv1 hx4 els22
      refine DrawG.fl rfl (ev_ex wantS_none (ex_elX rfl rfl hx4)) rfl ?_
      refine DrawG.fl rfl (ev_ex wantS_none (ex_load1 rfl (hH.ptrF hp4) rdLe_rfl agg3)) rfl ?_
      refine DrawG.fl rfl (ev_ex wantS_none (ex_neq rfl rfl)) rfl ?_
      refine DrawG.sync ?_
      refine DrawG.nil ?_
      rcases btf ((!(x3 == x4))) with hc5 | hc5
      · have h := bif_t hc5 h
        refine Run.condT' rfl hc5 ?_
        refine Run.seq (Run.region ?_)
        refine Run.opG wantS_none (ex_assign rfl) rfl ?_
        refine Run.opsEnd ?_
        cases h
        exact Run.ret Tryz.func19 rfl (res_tmp rfl res_nil) rfl
      · have h := bif_f hc5 h
        refine Run.condF' rfl hc5 ?_
        refine Run.skip (Run.inBlock (Run.region ?_))
        refine Run.opG wantS_none (ex_move rfl) rfl ?_
        refine Run.opG wantS_none (ex_add rfl rfl) rfl ?_
        refine Run.opG wantS_none (ex_assign rfl) rfl ?_
        refine Run.opsEnd (Run.inLoop ?_)
        exact Run.pick [0, 1, 5] (ih v0 v1 (w64 (v5 + (1 : Int))) sv0 sv1 _ _ _ hv0 hv1 hH h)
    · have h := bif_f hc2 h
      refine Run.condF' rfl hc2 ?_
      refine Run.exit rfl (Run.seq (Run.region ?_))
      refine Run.opG wantS_none (ex_assign rfl) rfl ?_
      refine Run.opsEnd ?_
      cases h
      exact Run.ret Tryz.func19 rfl (res_tmp rfl res_nil) rfl

def ref00_SameInts (F : Nat) (a0 : (List Int)) (a1 : (List Int)) : Option (Bool) :=
  bif (!((a0.length : Int) == (a1.length : Int))) then
    some false
  else
    ref00_SameInts_1 F F a0 a1 (0 : Int)

theorem ref00_SameInts_ok (F : Nat) (a0 : (List Int)) (a1 : (List Int)) (s0 s1 : SV) (r : Bool) (M : Mem) (hs0 : Slc (rd M) 1 (FlatR enc3) s0 a0) (hs1 : Slc (rd M) 1 (FlatR enc3) s1 a1) (h : ref00_SameInts F a0 a1 = some r) : CallsM Tryz.prog 19 [s0, s1] M (fun s M' => s = (.bool r) ∧ M' = M) := by
  refine CallsM.plain Tryz.func19 rfl rfl rfl (show Run _ _ _ (ref00_SameInts_post r) _ _ _ from ?_)
  rw [ref00_SameInts] at h
  replace hs0 := hs0.mono (rdLe_frozen M) (fun _ _ h => h)
  replace hs1 := hs1.mono (rdLe_frozen M) (fun _ _ h => h)
  have hH := Has.nil (frozen M)
  refine Run.seq (Run.region ?_)
  refine Run.opG wantS_none (ex_assign rfl) rfl ?_
  refine Run.opsEnd (Run.seq (Run.seq (Run.region ?_)))
  refine Run.opG wantS_none (ex_move rfl) rfl ?_
  refine Run.opG wantS_none (ex_len' rfl hs0 lenk22) rfl ?_
  refine Run.opG wantS_none (ex_move rfl) rfl ?_
  refine Run.opG wantS_none (ex_len' rfl hs1 lenk22) rfl ?_
  refine Run.opG wantS_none (ex_neq rfl rfl) rfl ?_
  refine Run.opsEnd ?_
  rcases btf ((!((a0.length : Int) == (a1.length : Int)))) with hc1 | hc1
  · have h := bif_t hc1 h
    refine Run.condT' rfl hc1 ?_
    refine Run.seq (Run.region ?_)
    refine Run.opG wantS_none (ex_assign rfl) rfl ?_
    refine Run.opsEnd ?_
    cases h
    exact Run.ret Tryz.func19 rfl (res_tmp rfl res_nil) rfl
  · have h := bif_f hc1 h
    refine Run.condF' rfl hc1 ?_
    refine Run.skip (Run.seq (Run.seq (Run.region ?_)))
    refine Run.opG wantS_none (ex_assign rfl) rfl ?_
    refine Run.opsEnd (Run.block (Run.loop ?_))
    exact Run.pick [0, 1, 5] (ref00_SameInts_1_ok F F a0 a1 (0 : Int) s0 s1 _ _ _ hs0 hs1 hH h)

theorem mkk19 : makeK Tryz.prog 19 = none := by kernel_rfl
theorem cal19 : callable Tryz.prog 19 = true := by kernel_rfl
theorem mkk24 : makeK Tryz.prog 24 = none := by kernel_rfl
theorem cal24 : callable Tryz.prog 24 = true := by kernel_rfl
abbrev law06_GlitchParts_post (r : Bool) : SV → Mem → Prop := fun s _ => s = (.bool r)

def law06_GlitchParts_2 (F : Nat) (v31 : Bool) : Option (Bool) :=
  some v31

theorem law06_GlitchParts_2_ok (F : Nat) : ∀ (v31 : Bool) (Fr : Rd) (M : Mem) (r : Bool) (hH : Has Fr M [tb0, tb1, tb2]), law06_GlitchParts_2 F v31 = some r → Run Tryz.prog ⟨⟨5, [], none⟩, []⟩ 32 (law06_GlitchParts_post r) [(31, (.bool v31))] [itemC Tryz.prog 5 [1, 1, 1, 0] 11, codeC Tryz.prog 5 [1, 1, 1, 1]] M := by
  intro v31 Fr M r hH h
  rw [law06_GlitchParts_2] at h
  refine Run.opG wantS_none (ex_assign rfl) rfl ?_
  refine Run.opsEnd ?_
  cases h
  exact Run.ret Tryz.func5 rfl (res_tmp rfl res_nil) rfl

def law06_GlitchParts_1 (F : Nat) (v28 : Bool) : Option (Bool) :=
  bif v28 then
    bnd (works F) fun r14 =>
    law06_GlitchParts_2 F r14
  else
    law06_GlitchParts_2 F false

theorem law06_GlitchParts_1_ok (F : Nat) : ∀ (v28 : Bool) (Fr : Rd) (M : Mem) (r : Bool) (hH : Has Fr M [tb0, tb1, tb2]), law06_GlitchParts_1 F v28 = some r → Run Tryz.prog ⟨⟨5, [], none⟩, []⟩ 32 (law06_GlitchParts_post r) [(28, (.bool v28))] [itemC Tryz.prog 5 [1, 1, 1, 0] 8, codeC Tryz.prog 5 [1, 1, 1, 1]] M := by
  intro v28 Fr M r hH h
  rw [law06_GlitchParts_1] at h
  refine Run.opG wantS_none (ex_move rfl) rfl ?_
  rcases btf (v28) with hc13 | hc13
  · have h := bif_t hc13 h
    obtain ⟨r14, hr14, h⟩ := bnd_some h
    refine Run.callP (wantS_yes' rfl rfl hc13) (ex_call rfl mkk24 cal24) rfl (works_ok F r14 _ hH (List.mem_of_getElem? (i := 0) rfl) (List.mem_of_getElem? (i := 1) rfl) (List.mem_of_getElem? (i := 2) rfl) hr14) ?_
    refine Run.opG wantS_none (ex_pickT' rfl hc13 rfl rfl) rfl ?_
    exact Run.pick [31] (law06_GlitchParts_2_ok F r14 _ _ _ hH h)
  · have h := bif_f hc13 h
    refine Run.no (wantS_not' rfl rfl hc13) rfl ?_
    refine Run.opG wantS_none (ex_pickF' rfl hc13 rfl rfl) rfl ?_
    exact Run.pick [31] (law06_GlitchParts_2_ok F false _ _ _ hH h)

def law06_GlitchParts (F : Nat) (a0 : (List Int)) (a1 : (List S_api_Tile)) : Option (Bool) :=
  bnd (glitch_Part_c F a0 a1) fun r4 =>
  bnd (ref06_Part F a0 a1) fun r7 =>
  bnd (ref00_SameInts F r4.1 r7.1) fun r10 =>
  bif r10 then
    law06_GlitchParts_1 F (r4.2 == r7.2)
  else
    law06_GlitchParts_1 F false

theorem law06_GlitchParts_run (F : Nat) (a0 : (List Int)) (a1 : (List S_api_Tile)) (s0 s1 : SV) (r : Bool) (M : Mem) (hs0 : Slc (rd M) 1 (FlatR enc3) s0 a0) (hs1 : Slc (rd M) 3 (FlatR enc65) s1 a1) (ks0 : clo s0 = true) (ks1 : clo s1 = true) (hfx : FixIn M fixes) (h : law06_GlitchParts F a0 a1 = some r) : Run Tryz.prog (fx0 5) 32 (law06_GlitchParts_post r) [(0, s0), (1, s1)] [codeC Tryz.prog 5 []] (frozen M) := by
  rw [law06_GlitchParts] at h
  replace hs0 := hs0.mono (rdLe_frozen M) (fun _ _ h => h)
  replace hs1 := hs1.mono (rdLe_frozen M) (fun _ _ h => h)
  have hH : Has (ro (frozen M)) (frozen M) [tb0, tb1, tb2] := Has.ofFix hfx.frozen
  refine Run.seq (Run.region ?_)
  refine Run.opG wantS_none (ex_assign rfl) rfl ?_
  refine Run.opsEnd (Run.seq (Run.region ?_))
  refine Run.opG wantS_none (ex_move rfl) rfl ?_
  refine Run.opG wantS_none (ex_move rfl) rfl ?_
  obtain ⟨r4, hr4, h⟩ := bnd_some h
  refine Run.callX wantS_none (ex_call rfl mkk32 cal32) rfl (glitch_Part_c_ok F a0 a1 s0 s1 _ _ (hH.slcF hs0) (hH.slcF hs1) ks0 ks1 hr4) ?_
  rintro _ M6 ⟨s4_0, rfl, hN4⟩
  have hH6 : Has (ro (frozen M)) M6 [.vec 3 1 r4.1.length s4_0 (r4.1.flatMap enc3), tb0, tb1, tb2] := hN4 _ _ hH
  refine Run.opG wantS_none (ex_move rfl) rfl ?_
  refine Run.opG wantS_none (ex_extract rfl rfl) rfl ?_
  refine Run.opG wantS_none (ex_extract rfl rfl) rfl ?_
  refine Run.opG wantS_none (ex_assign rfl) rfl ?_
  refine Run.opG wantS_none (ex_assign rfl) rfl ?_
  refine Run.opsEnd (Run.seq (Run.region ?_))
  refine Run.opG wantS_none (ex_move rfl) rfl ?_
  refine Run.opG wantS_none (ex_move rfl) rfl ?_
  obtain ⟨r7, hr7, h⟩ := bnd_some h
  refine Run.callX wantS_none (ex_call rfl mkk33 cal33) rfl (ref06_Part_ok F a0 a1 s0 s1 _ _ (hH6.slcF hs0) (hH6.slcF hs1) hr7) ?_
  rintro _ M9 ⟨s7_0, rfl, hN7⟩
  have hH9 : Has (ro (frozen M)) M9 [.vec 3 1 r7.1.length s7_0 (r7.1.flatMap enc3), .vec 3 1 r4.1.length s4_0 (r4.1.flatMap enc3), tb0, tb1, tb2] := hN7 _ _ hH6
  refine Run.opG wantS_none (ex_move rfl) rfl ?_
  refine Run.opG wantS_none (ex_extract rfl rfl) rfl ?_
  refine Run.opG wantS_none (ex_extract rfl rfl) rfl ?_
  refine Run.opG wantS_none (ex_assign rfl) rfl ?_
  refine Run.opG wantS_none (ex_assign rfl) rfl ?_
  refine Run.opsEnd (Run.seq (Run.region ?_))
  refine Run.opG wantS_none (ex_move rfl) rfl ?_
  refine Run.opG wantS_none (ex_move rfl) rfl ?_
  obtain ⟨r10, hr10, h⟩ := bnd_some h
  refine Run.callP wantS_none (ex_call rfl mkk19 cal19) rfl (ref00_SameInts_ok F r4.1 r7.1 s4_0 s7_0 _ _ (hH9.slc (i := 1) rfl enc3_len) (hH9.slc (i := 0) rfl enc3_len) hr10) ?_
  refine Run.opG wantS_none (ex_move rfl) rfl ?_
  rcases btf (r10) with hc12 | hc12
  · have h := bif_t hc12 h
    refine Run.opG (wantS_yes' rfl rfl hc12) (ex_move rfl) rfl ?_
    refine Run.opG (wantS_yes' rfl rfl hc12) (ex_move rfl) rfl ?_
    refine Run.opG (wantS_yes' rfl rfl hc12) (ex_eql rfl rfl) rfl ?_
    refine Run.opG wantS_none (ex_pickT' rfl hc12 rfl rfl) rfl ?_
    exact Run.pick [28] (law06_GlitchParts_1_ok F (r4.2 == r7.2) _ _ _ (hH9.pick [2, 3, 4] rfl rfl) h)
  · have h := bif_f hc12 h
    refine Run.no (wantS_not' rfl rfl hc12) rfl ?_
    refine Run.no (wantS_not' rfl rfl hc12) rfl ?_
    refine Run.no (wantS_not' rfl rfl hc12) rfl ?_
    refine Run.opG wantS_none (ex_pickF' rfl hc12 rfl rfl) rfl ?_
    exact Run.pick [28] (law06_GlitchParts_1_ok F false _ _ _ (hH9.pick [2, 3, 4] rfl rfl) h)

end Go.Ev.GlitchParts
