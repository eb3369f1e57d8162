/- Plain functions that say what functions of the program come to, and proofs of it, written by a program of the verifier's own. -/
import Derived.Test.YtdjaigpcfhbcmaaGreatDoorEvL9
import Derived.Test.YtdjaigpcfhbcmaaGreatDoorWorks
import Derived.KernelRfl
namespace Go.Ev.GlitchSplits
open Go Go.Ev Go.Proofs
set_option maxRecDepth 100000
set_option linter.unusedVariables false

/-- The listed tables. -/
noncomputable def fixes : List (Nat × List SV) := Go.Proofs.YtdjaigpcfhbcmaaGreatDoor.works.fixes
noncomputable def tb0 : Ent := fixE (5, intCells .u8 [0, 1, 28, 2, 29, 14, 24, 3, 30, 22, 20, 15, 25, 17, 4, 8, 31, 27, 13, 23, 21, 19, 16, 7, 26, 12, 18, 6, 11, 5, 10, 9])
noncomputable def tb1 : Ent := fixE (2, intCells .u8 [0, 1, 56, 2, 57, 49, 28, 3, 61, 58, 42, 50, 38, 29, 17, 4, 62, 47, 59, 36, 45, 43, 51, 22, 53, 39, 33, 30, 24, 18, 12, 5, 63, 55, 48, 27, 60, 41, 37, 16, 46, 35, 44, 21, 52, 32, 23, 11, 54, 26, 40, 15, 34, 20, 31, 10, 25, 14, 19, 9, 13, 8, 7, 6])
noncomputable def tb2 : Ent := fixE (4, intCells .u64 [1, 10, 100, 1000, 10000, 100000, 1000000, 10000000, 100000000, 1000000000, 10000000000, 100000000000, 1000000000000, 10000000000000, 100000000000000, 1000000000000000, 10000000000000000, 100000000000000000, 1000000000000000000, 10000000000000000000])
/-- works() comes to true. -/
def works (_ : Nat) : Option Bool := some true
theorem works_ok (F : Nat) (r : Bool) {Fr : Rd} {H : List Ent} (M : Mem) (hH : Has Fr M H) (h0 : tb0 ∈ H) (h1 : tb1 ∈ H) (h2 : tb2 ∈ H) (h : works F = some r) : CallsM Tryz.prog 10 [] M fun s M' => s = .bool r ∧ M' = M := by
  cases h
  refine CallsM.closedFix (n := 300) (l := Go.Proofs.YtdjaigpcfhbcmaaGreatDoor.works.fixes) Go.Proofs.YtdjaigpcfhbcmaaGreatDoor.works.below Go.Proofs.YtdjaigpcfhbcmaaGreatDoor.works.plainF Go.Proofs.YtdjaigpcfhbcmaaGreatDoor.works.works_true (hH.fixIn fun x hx => ?_)
  simp only [Go.Proofs.YtdjaigpcfhbcmaaGreatDoor.works.fixes, List.mem_cons, List.not_mem_nil, or_false] at hx
  rcases hx with rfl | rfl | rfl
  · exact h0
  · exact h1
  · exact h2


def enc3 (a : Int) : List SV := [(.int .i64 a)]
theorem enc3_len (a : Int) : (enc3 a).length = 1 := rfl
theorem enc3_ones (a : Int) : ones (enc3 a) = true := rfl
structure S_api_Tile where
  Level : Int
  At : Int
  D : Int

def enc32 (a : S_api_Tile) : List SV := [(.int .i64 a.Level), (.int .i64 a.At), (.int .i64 a.D)]
theorem enc32_len (a : S_api_Tile) : (enc32 a).length = 3 := rfl
theorem enc32_ones (a : S_api_Tile) : ones (enc32 a) = true := rfl
theorem lenk22 : lenK Tryz.prog 22 = some .sl := by kernel_rfl
abbrev glitch_isFrom_post (r : Bool) : SV → Mem → Prop := fun s _ => s = (.bool r)

def glitch_isFrom_1 (F : Nat) (v14 : Bool) : Option (Bool) :=
  some v14

theorem glitch_isFrom_1_ok (F : Nat) : ∀ (v14 : Bool) (Fr : Rd) (M : Mem) (r : Bool) (hH : Has Fr M []), glitch_isFrom_1 F v14 = some r → Run Tryz.prog ⟨⟨80, [], none⟩, []⟩ 15 (glitch_isFrom_post r) [(14, (.bool v14))] [itemC Tryz.prog 80 [1, 0] 8, codeC Tryz.prog 80 [1, 1]] M := by
  intro v14 Fr M r hH h
  rw [glitch_isFrom_1] at h
  refine Run.opG wantS_none (ex_assign rfl) rfl ?_
  refine Run.opsEnd ?_
  cases h
  exact Run.ret Tryz.func80 rfl (res_tmp rfl res_nil) rfl

def glitch_isFrom (F : Nat) (a0 : Int) (a1 : Int) (a2 : Int) : Option (Bool) :=
  bif (decide (a0 ≤ a1)) then
    glitch_isFrom_1 F (decide (a1 ≤ a2))
  else
    glitch_isFrom_1 F false

theorem glitch_isFrom_ok (F : Nat) (a0 : Int) (a1 : Int) (a2 : Int) (r : Bool) (M : Mem) (h : glitch_isFrom F a0 a1 a2 = some r) : CallsM Tryz.prog 80 [(.int .i64 a0), (.int .i64 a1), (.int .i64 a2)] M (fun s M' => s = (.bool r) ∧ M' = M) := by
  refine CallsM.plain Tryz.func80 rfl rfl rfl (show Run _ _ _ (glitch_isFrom_post r) _ _ _ from ?_)
  rw [glitch_isFrom] at h
  have hH := Has.nil (frozen M)
  refine Run.seq (Run.region ?_)
  refine Run.opG wantS_none (ex_assign rfl) rfl ?_
  refine Run.opsEnd (Run.seq (Run.region ?_))
  refine Run.opG wantS_none (ex_move rfl) rfl ?_
  refine Run.opG wantS_none (ex_move rfl) rfl ?_
  refine Run.opG wantS_none (ex_leq rfl rfl) rfl ?_
  refine Run.opG wantS_none (ex_move rfl) rfl ?_
  rcases btf ((decide (a0 ≤ a1))) with hc1 | hc1
  · have h := bif_t hc1 h
    refine Run.opG (wantS_yes' rfl rfl hc1) (ex_move rfl) rfl ?_
    refine Run.opG (wantS_yes' rfl rfl hc1) (ex_move rfl) rfl ?_
    refine Run.opG (wantS_yes' rfl rfl hc1) (ex_leq rfl rfl) rfl ?_
    refine Run.opG wantS_none (ex_pickT' rfl hc1 rfl rfl) rfl ?_
    exact Run.pick [14] (glitch_isFrom_1_ok F (decide (a1 ≤ a2)) _ _ _ hH h)
  · have h := bif_f hc1 h
    refine Run.no (wantS_not' rfl rfl hc1) rfl ?_
    refine Run.no (wantS_not' rfl rfl hc1) rfl ?_
    refine Run.no (wantS_not' rfl rfl hc1) rfl ?_
    refine Run.opG wantS_none (ex_pickF' rfl hc1 rfl rfl) rfl ?_
    exact Run.pick [14] (glitch_isFrom_1_ok F false _ _ _ hH h)

theorem mkk80 : makeK Tryz.prog 80 = none := by kernel_rfl
theorem cal80 : callable Tryz.prog 80 = true := by kernel_rfl
abbrev glitch_isLength_post (r : Bool) : SV → Mem → Prop := fun s _ => s = (.bool r)

def glitch_isLength_1 (F : Nat) (v11 : Bool) : Option (Bool) :=
  some v11

theorem glitch_isLength_1_ok (F : Nat) : ∀ (v11 : Bool) (Fr : Rd) (M : Mem) (r : Bool) (hH : Has Fr M []), glitch_isLength_1 F v11 = some r → Run Tryz.prog ⟨⟨64, [], none⟩, []⟩ 12 (glitch_isLength_post r) [(11, (.bool v11))] [itemC Tryz.prog 64 [1, 0] 9, codeC Tryz.prog 64 [1, 1]] M := by
  intro v11 Fr M r hH h
  rw [glitch_isLength_1] at h
  refine Run.opG wantS_none (ex_assign rfl) rfl ?_
  refine Run.opsEnd ?_
  cases h
  exact Run.ret Tryz.func64 rfl (res_tmp rfl res_nil) rfl

def glitch_isLength (F : Nat) (a0 : Int) : Option (Bool) :=
  bnd (glitch_isFrom F (1 : Int) a0 (1024 : Int)) fun r2 =>
  bif r2 then
    bnd (bitZ Nat.land .i64 a0 (w64 (a0 - (1 : Int)))) fun z6 =>
    glitch_isLength_1 F (z6 == (0 : Int))
  else
    glitch_isLength_1 F false

theorem glitch_isLength_ok (F : Nat) (a0 : Int) (r : Bool) (M : Mem) (h : glitch_isLength F a0 = some r) : CallsM Tryz.prog 64 [(.int .i64 a0)] M (fun s M' => s = (.bool r) ∧ M' = M) := by
  refine CallsM.plain Tryz.func64 rfl rfl rfl (show Run _ _ _ (glitch_isLength_post r) _ _ _ from ?_)
  rw [glitch_isLength] at h
  have hH := Has.nil (frozen M)
  refine Run.seq (Run.region ?_)
  refine Run.opG wantS_none (ex_assign rfl) rfl ?_
  refine Run.opsEnd (Run.seq (Run.region ?_))
  refine Run.opG wantS_none (ex_move rfl) rfl ?_
  obtain ⟨r2, hr2, h⟩ := bnd_some h
  refine Run.callP wantS_none (ex_call rfl mkk80 cal80) rfl (glitch_isFrom_ok F (1 : Int) a0 (1024 : Int) _ _ hr2) ?_
  refine Run.opG wantS_none (ex_move rfl) rfl ?_
  rcases btf (r2) with hc4 | hc4
  · have h := bif_t hc4 h
    refine Run.opG (wantS_yes' rfl rfl hc4) (ex_move rfl) rfl ?_
    refine Run.opG (wantS_yes' rfl rfl hc4) (ex_move rfl) rfl ?_
    refine Run.opG (wantS_yes' rfl rfl hc4) (ex_sub rfl rfl) rfl ?_
    obtain ⟨z6, hz6, h⟩ := bnd_some h
    refine Run.opG (wantS_yes' rfl rfl hc4) (ex_and rfl rfl hz6) rfl ?_
    refine Run.opG (wantS_yes' rfl rfl hc4) (ex_eql rfl rfl) rfl ?_
    refine Run.opG wantS_none (ex_pickT' rfl hc4 rfl rfl) rfl ?_
    exact Run.pick [11] (glitch_isLength_1_ok F (z6 == (0 : Int)) _ _ _ hH h)
  · have h := bif_f hc4 h
    refine Run.no (wantS_not' rfl rfl hc4) rfl ?_
    refine Run.no (wantS_not' rfl rfl hc4) rfl ?_
    refine Run.no (wantS_not' rfl rfl hc4) rfl ?_
    refine Run.no (wantS_not' rfl rfl hc4) rfl ?_
    refine Run.no (wantS_not' rfl rfl hc4) rfl ?_
    refine Run.opG wantS_none (ex_pickF' rfl hc4 rfl rfl) rfl ?_
    exact Run.pick [11] (glitch_isLength_1_ok F false _ _ _ hH h)

theorem mkk64 : makeK Tryz.prog 64 = none := by kernel_rfl
theorem cal64 : callable Tryz.prog 64 = true := by kernel_rfl
theorem els22 : elems Tryz.prog 22 = some (.sl 1) := by kernel_rfl
theorem agg3 : aggSize Tryz.prog 3 = some none := by kernel_rfl
abbrev glitch_areFrom_post (r : Bool) : SV → Mem → Prop := fun s _ => s = (.bool r)

def glitch_areFrom_1 (F : Nat) : Nat → Int → (List Int) → Int → Int → Option (Bool)
  | 0, _, _, _, _ => none
  | N + 1, v1, v7, v8, v9 =>
    bif (decide (v9 < v8)) then
      bnd (idx v7 v9) fun x3 =>
      bnd (glitch_isFrom F (w64 (-v1)) x3 v1) fun r5 =>
      bif (!r5) then
        some false
      else
        (glitch_areFrom_1 F N) v1 v7 v8 (w64 (v9 + (1 : Int)))
    else
      some true

theorem glitch_areFrom_1_ok (F : Nat) : ∀ (N : Nat), ∀ (v1 : Int) (v7 : (List Int)) (v8 : Int) (v9 : Int) (sv7 : SV) (Fr : Rd) (M : Mem) (r : Bool) (hv7 : Slc Fr 1 (FlatR enc3) sv7 v7) (hH : Has Fr M []), glitch_areFrom_1 F N v1 v7 v8 v9 = some r → Run Tryz.prog ⟨⟨65, [], none⟩, []⟩ 20 (glitch_areFrom_post r) [(1, (.int .i64 v1)), (7, sv7), (8, (.int .i64 v8)), (9, (.int .i64 v9))] [codeC Tryz.prog 65 [1, 0, 1, 0, 0], loopC Tryz.prog 65 [1, 0, 1, 0, 0], .inBlock 0, codeC Tryz.prog 65 [1, 1]] M := by
  intro N
  induction N with
  | zero =>
    intro v1 v7 v8 v9 sv7 Fr M r hv7 hH h
    simp [glitch_areFrom_1] at h
  | succ N ih =>
    intro v1 v7 v8 v9 sv7 Fr M r hv7 hH h
    rw [glitch_areFrom_1] at h
    refine Run.seq (Run.region ?_)
    refine Run.opG wantS_none (ex_lss rfl rfl) rfl ?_
    refine Run.opsEnd (Run.seq ?_)
    rcases btf ((decide (v9 < v8))) with hc1 | hc1
    · have h := bif_t hc1 h
      refine Run.condT' rfl hc1 ?_
      refine Run.skip (Run.seq (Run.block (Run.seq (Run.region ?_))))
      obtain ⟨x3, hx3, h⟩ := bnd_some h
      obtain ⟨p3, o3, _, hx3, hp3, rfl⟩ := sl_elem (P := Tryz.prog) (t := 22) (kk := .i64) hv7 hx3 els22
      refine Run.opG wantS_none (ex_elX rfl rfl hx3) rfl ?_
      refine Run.opG wantS_none (ex_load1 rfl (hH.ptrF hp3) rdLe_rfl agg3) rfl ?_
      refine Run.opG wantS_none (ex_assign rfl) rfl ?_
      refine Run.opsEnd (Run.seq (Run.region ?_))
      refine Run.opG wantS_none (ex_move rfl) rfl ?_
      refine Run.opG wantS_none (ex_neg rfl) rfl ?_
      refine Run.opG wantS_none (ex_move rfl) rfl ?_
      refine Run.opG wantS_none (ex_move rfl) rfl ?_
      obtain ⟨r5, hr5, h⟩ := bnd_some h
      refine Run.callP wantS_none (ex_call rfl mkk80 cal80) rfl (glitch_isFrom_ok F (w64 (-v1)) x3 v1 _ _ hr5) ?_
      refine Run.opG wantS_none (ex_not rfl) rfl ?_
      refine Run.opsEnd ?_
      rcases btf ((!r5)) with hc7 | hc7
      · have h := bif_t hc7 h
        refine Run.condT' rfl hc7 ?_
        refine Run.seq (Run.region ?_)
        refine Run.opG wantS_none (ex_assign rfl) rfl ?_
        refine Run.opsEnd ?_
        cases h
        exact Run.ret Tryz.func65 rfl (res_tmp rfl res_nil) rfl
      · have h := bif_f hc7 h
        refine Run.condF' rfl hc7 ?_
        refine Run.skip (Run.inBlock (Run.region ?_))
        refine Run.opG wantS_none (ex_add rfl rfl) rfl ?_
        refine Run.opG wantS_none (ex_move rfl) rfl ?_
        refine Run.opsEnd (Run.inLoop ?_)
        exact Run.pick [1, 7, 8, 9] (ih v1 v7 v8 (w64 (v9 + (1 : Int))) sv7 _ _ _ hv7 hH h)
    · have h := bif_f hc1 h
      refine Run.condF' rfl hc1 ?_
      refine Run.exit rfl (Run.seq (Run.region ?_))
      refine Run.opG wantS_none (ex_assign rfl) rfl ?_
      refine Run.opsEnd ?_
      cases h
      exact Run.ret Tryz.func65 rfl (res_tmp rfl res_nil) rfl

def glitch_areFrom (F : Nat) (a0 : (List Int)) (a1 : Int) : Option (Bool) :=
  glitch_areFrom_1 F F a1 a0 (a0.length : Int) (0 : Int)

theorem glitch_areFrom_ok (F : Nat) (a0 : (List Int)) (a1 : Int) (s0 : SV) (r : Bool) (M : Mem) (hs0 : Slc (rd M) 1 (FlatR enc3) s0 a0) (h : glitch_areFrom F a0 a1 = some r) : CallsM Tryz.prog 65 [s0, (.int .i64 a1)] M (fun s M' => s = (.bool r) ∧ M' = M) := by
  refine CallsM.plain Tryz.func65 rfl rfl rfl (show Run _ _ _ (glitch_areFrom_post r) _ _ _ from ?_)
  rw [glitch_areFrom] at h
  replace hs0 := hs0.mono (rdLe_frozen M) (fun _ _ h => h)
  have hH := Has.nil (frozen M)
  refine Run.seq (Run.region ?_)
  refine Run.opG wantS_none (ex_assign rfl) rfl ?_
  refine Run.opsEnd (Run.seq (Run.seq (Run.region ?_)))
  refine Run.opG wantS_none (ex_move rfl) rfl ?_
  refine Run.opG wantS_none (ex_len' rfl hs0 lenk22) rfl ?_
  refine Run.opG wantS_none (ex_move rfl) rfl ?_
  refine Run.opsEnd (Run.block (Run.loop ?_))
  exact Run.pick [1, 7, 8, 9] (glitch_areFrom_1_ok F F a1 a0 (a0.length : Int) (0 : Int) s0 _ _ _ hs0 hH h)

theorem mkk65 : makeK Tryz.prog 65 = none := by kernel_rfl
theorem cal65 : callable Tryz.prog 65 = true := by kernel_rfl
abbrev glitch_isSignal_post (r : Bool) : SV → Mem → Prop := fun s _ => s = (.bool r)

def glitch_isSignal_1 (F : Nat) (v9 : Bool) : Option (Bool) :=
  some v9

theorem glitch_isSignal_1_ok (F : Nat) : ∀ (v9 : Bool) (Fr : Rd) (M : Mem) (r : Bool) (hH : Has Fr M []), glitch_isSignal_1 F v9 = some r → Run Tryz.prog ⟨⟨30, [], none⟩, []⟩ 10 (glitch_isSignal_post r) [(9, (.bool v9))] [itemC Tryz.prog 30 [1, 0] 7, codeC Tryz.prog 30 [1, 1]] M := by
  intro v9 Fr M r hH h
  rw [glitch_isSignal_1] at h
  refine Run.opG wantS_none (ex_assign rfl) rfl ?_
  refine Run.opsEnd ?_
  cases h
  exact Run.ret Tryz.func30 rfl (res_tmp rfl res_nil) rfl

def glitch_isSignal (F : Nat) (a0 : (List Int)) : Option (Bool) :=
  bnd (glitch_isLength F (a0.length : Int)) fun r2 =>
  bif r2 then
    bnd (glitch_areFrom F a0 (1048576 : Int)) fun r6 =>
    glitch_isSignal_1 F r6
  else
    glitch_isSignal_1 F false

theorem glitch_isSignal_ok (F : Nat) (a0 : (List Int)) (s0 : SV) (r : Bool) (M : Mem) (hs0 : Slc (rd M) 1 (FlatR enc3) s0 a0) (h : glitch_isSignal F a0 = some r) : CallsM Tryz.prog 30 [s0] M (fun s M' => s = (.bool r) ∧ M' = M) := by
  refine CallsM.plain Tryz.func30 rfl rfl rfl (show Run _ _ _ (glitch_isSignal_post r) _ _ _ from ?_)
  rw [glitch_isSignal] at h
  replace hs0 := hs0.mono (rdLe_frozen M) (fun _ _ h => h)
  have hH := Has.nil (frozen M)
  refine Run.seq (Run.region ?_)
  refine Run.opG wantS_none (ex_assign rfl) rfl ?_
  refine Run.opsEnd (Run.seq (Run.region ?_))
  refine Run.opG wantS_none (ex_move rfl) rfl ?_
  refine Run.opG wantS_none (ex_len' rfl hs0 lenk22) rfl ?_
  obtain ⟨r2, hr2, h⟩ := bnd_some h
  refine Run.callP wantS_none (ex_call rfl mkk64 cal64) rfl (glitch_isLength_ok F (a0.length : Int) _ _ hr2) ?_
  refine Run.opG wantS_none (ex_move rfl) rfl ?_
  rcases btf (r2) with hc4 | hc4
  · have h := bif_t hc4 h
    refine Run.opG (wantS_yes' rfl rfl hc4) (ex_move rfl) rfl ?_
    obtain ⟨r6, hr6, h⟩ := bnd_some h
    refine Run.callP (wantS_yes' rfl rfl hc4) (ex_call rfl mkk65 cal65) rfl (glitch_areFrom_ok F a0 (1048576 : Int) s0 _ _ (hH.slcF hs0) hr6) ?_
    refine Run.opG wantS_none (ex_pickT' rfl hc4 rfl rfl) rfl ?_
    exact Run.pick [9] (glitch_isSignal_1_ok F r6 _ _ _ hH h)
  · have h := bif_f hc4 h
    refine Run.no (wantS_not' rfl rfl hc4) rfl ?_
    refine Run.no (wantS_not' rfl rfl hc4) rfl ?_
    refine Run.opG wantS_none (ex_pickF' rfl hc4 rfl rfl) rfl ?_
    exact Run.pick [9] (glitch_isSignal_1_ok F false _ _ _ hH h)

theorem mkk30 : makeK Tryz.prog 30 = none := by kernel_rfl
theorem cal30 : callable Tryz.prog 30 = true := by kernel_rfl
theorem mkk38 : makeK Tryz.prog 38 = none := by kernel_rfl
theorem cal38 : callable Tryz.prog 38 = true := by kernel_rfl
theorem mkk37 : makeK Tryz.prog 37 = none := by kernel_rfl
theorem cal37 : callable Tryz.prog 37 = true := by kernel_rfl
theorem mkk74 : makeK Tryz.prog 74 = none := by kernel_rfl
theorem cal74 : callable Tryz.prog 74 = true := by kernel_rfl
theorem cal75 : callable Tryz.prog 75 = true := by kernel_rfl
theorem agg22 : aggSize Tryz.prog 22 = some none := by kernel_rfl
theorem eqk22 : eqK Tryz.prog 22 = some .slice := by kernel_rfl
theorem elt22 : sliceElt Tryz.prog 22 = some (⟨1, 8, [(.int .i64 0)], 3⟩ : Elt) := by kernel_rfl
theorem appt22_22 : appT Tryz.prog 22 22 = some (⟨1, 8, [(.int .i64 0)], 3⟩ : Elt) := by kernel_rfl
abbrev slices_Clone_post (r : (List Int)) : SV → Mem → Prop := fun s Me => ∃ q1, s = q1 ∧ Has (fun _ => none) Me [.vec 3 1 r.length q1 (r.flatMap enc3)]

def slices_Clone (F : Nat) (a0 : (List Int)) : Option ((List Int)) :=
  bnd (apd 8 ([] : List Int) a0) fun l9 =>
  some l9

theorem slices_Clone_ok (F : Nat) (a0 : (List Int)) (s0 : SV) (r : (List Int)) (M : Mem) (hs0 : Slc (rd M) 1 (FlatR enc3) s0 a0) (h : slices_Clone F a0 = some r) : CallsM Tryz.prog 66 [s0] M (fun s M' => ∃ q1, s = q1 ∧ New M M' [.vec 3 1 r.length q1 (r.flatMap enc3)]) := by
  refine CallsM.fresh (Q := slices_Clone_post r) Tryz.func66 rfl rfl ?_ (by rintro s Me ⟨q1, rfl, hx⟩ ha hw; exact ⟨_, rfl, New.of rfl hx ha hw⟩)
  rw [slices_Clone] at h
  replace hs0 := hs0.mono (rdLe_frozen M) (fun _ _ h => h)
  have hH := Has.nil (frozen M)
  refine Run.seq (Run.region ?_)
  refine Run.opG wantS_none (ex_assign rfl) rfl ?_
  refine Run.opsEnd (Run.seq (Run.seq (Run.region ?_)))
  refine Run.opG wantS_none (ex_move rfl) rfl ?_
  rcases slc_or hs0 with ⟨rfl, rfl⟩ | hn1
  · have h : (
      some ([] : List Int)
      ) = some r := h
    refine Run.opG wantS_none (ex_nilT rfl rfl eqk22) rfl ?_
    refine Run.opsEnd ?_
    refine Run.condT' rfl rfl ?_
    refine Run.seq (Run.region ?_)
    refine Run.opG wantS_none (ex_assign rfl) rfl ?_
    refine Run.opsEnd ?_
    have hH3 : Has (ro (frozen M)) (frozen M) [.vec 3 1 ([] : List Int).length .nils (([] : List Int).flatMap enc3)] := hH.nils 3 1
    cases h
    exact Run.ret Tryz.func66 rfl (res_tmp rfl res_nil) ⟨_, rfl, (hH3.pick [0] rfl rfl).upF (none_le _)⟩
  · refine Run.opG wantS_none (ex_nilF rfl hn1 rfl eqk22) rfl ?_
    refine Run.opsEnd ?_
    refine Run.condF' rfl rfl ?_
    refine Run.skip (Run.seq (Run.region ?_))
    refine Run.opX wantS_none rfl (ExG.built (enc := enc3) (l := ([] : List Int)) (z := 1) rfl elt22 rfl rfl rfl enc3_len hH) ?_
    rintro s5 M6 (hH6 : Has (ro (frozen M)) M6 [.vec 3 1 ([] : List Int).length s5 (([] : List Int).flatMap enc3)])
    refine Run.opG wantS_none (ex_move rfl) rfl ?_
    obtain ⟨l9, hl9, h⟩ := bnd_some h
    refine Run.opX wantS_none rfl (ExG.append rfl rfl hH6 (i := 0) rfl enc3_len rfl enc3_ones appt22_22 rfl (len_slc hs0) (first_slc hs0 (rdLe_roF hH6) enc3_len) hl9) ?_
    rintro s9 M11 (hH11 : Has (ro (frozen M)) M11 [.vec 3 1 l9.length s9 (l9.flatMap enc3)])
    refine Run.opG wantS_none (ex_assign rfl) rfl ?_
    refine Run.opsEnd ?_
    cases h
    exact Run.ret Tryz.func66 rfl (res_tmp rfl res_nil) ⟨_, rfl, (hH11.pick [0] rfl rfl).upF (none_le _)⟩

theorem mkk66 : makeK Tryz.prog 66 = none := by kernel_rfl
theorem cal66 : callable Tryz.prog 66 = true := by kernel_rfl
theorem zer22 : zerosOf Tryz.prog 22 = some [.nils] := by kernel_rfl
theorem sz22 : szOf Tryz.prog 22 = some 1 := by kernel_rfl
theorem mkk67 : makeK Tryz.prog 67 = none := by kernel_rfl
theorem cal67 : callable Tryz.prog 67 = true := by kernel_rfl
theorem slk22 : slK Tryz.prog 22 = some (.sl 1) := by kernel_rfl
theorem sz3 : szOf Tryz.prog 3 = some 1 := by kernel_rfl
theorem plan67_1_1_0_0_1_1_0_0_1 : planOf Tryz.prog (opsC (atC Tryz.prog 67 [1, 1, 0, 0, 1, 1, 0, 0, 1])) = some [.fl 0, .fl 1, .fl 2, .fl 3, .fl 4, .fl 5, .fl 6, .fl 7, .fl 8, .fl 9, .fl 10, .fl 11, .fl 12, .fl 13, .fl 14, .fl 15, .fl 16, .fl 17, .fl 18, .fl 19, .fl 20, .fl 21, .fl 22, .fl 23, .fl 24, .fl 25, .fl 26, .fl 27, .fl 28, .fl 29, .fl 30, .an 31 [29, 5, 4, 3, 2], .fl 32, .an 33 [], .sync] := by kernel_rfl
abbrev glitch_transform_post (r : (List Int)) : SV → Mem → Prop := fun s Me => ∃ q1, s = q1 ∧ Has (fun _ => none) Me [.vec 3 1 r.length q1 (r.flatMap enc3)]

def glitch_transform_2 (F : Nat) (hd1 : Int → (List Int) → Option ((List Int))) : Nat → Int → Int → Int → Int → (List Int) → (List Int) → Option ((List Int))
  | 0, _, _, _, _, _, _ => none
  | N + 1, v0, v10, v11, v5_f1, l4, l16 =>
    bif (decide (v11 < v10)) then
      bnd (idx l16 (w64 ((2 : Int) * v11))) fun x19 =>
      bnd (idx l16 (w64 ((w64 ((2 : Int) * v11)) + (1 : Int)))) fun x20 =>
      bnd (idx l16 (w64 ((2 : Int) * v11))) fun x21 =>
      bnd (idx l16 (w64 ((w64 ((2 : Int) * v11)) + (1 : Int)))) fun x22 =>
      bnd (inn l4 v11) fun o23 =>
      bnd (upd l4 o23 (w64 (x19 + x20))) fun l24 =>
      bnd (inn l24 (w64 (v0 + v11))) fun o26 =>
      bnd (upd l24 o26 (w64 (x21 - x22))) fun l27 =>
      (glitch_transform_2 F hd1 N) v0 v10 (w64 (v11 + (1 : Int))) v5_f1 l27 l16
    else
      hd1 (w64 (Int.tdiv v5_f1 (2 : Int))) l4

theorem glitch_transform_2_ok (F : Nat) (hd1 : Int → (List Int) → Option ((List Int))) (hhd1 : ∀ (v5 : Int) (l4 : (List Int)) (b7 : Pos) (s4 : SV) (Fr : Rd) (M : Mem) (r : (List Int)) (hH : Has Fr M [.obj b7 (.row 22 .whole [s4]), .vec 3 1 l4.length s4 (l4.flatMap enc3)]), hd1 v5 l4 = some r → Run Tryz.prog ⟨⟨31, [], none⟩, []⟩ 20 (glitch_transform_post r) [(3, (.ptr b7 0)), (4, (.fn (.func 67) [] [(.ptr b7 0)])), (5, (.int .i64 v5))] [codeC Tryz.prog 31 [1, 1, 1, 0, 1, 0, 0], loopC Tryz.prog 31 [1, 1, 1, 0, 1, 0, 0], .inBlock 0, codeC Tryz.prog 31 [1, 1, 1, 1]] M) : ∀ (N : Nat), ∀ (v0 : Int) (v10 : Int) (v11 : Int) (v5_f1 : Int) (l4 : (List Int)) (l16 : (List Int)) (b7 : Pos) (s4 : SV) (s16 : SV) (Fr : Rd) (M : Mem) (r : (List Int)) (hH : Has Fr M [.obj b7 (.row 22 .whole [s4]), .vec 3 1 l4.length s4 (l4.flatMap enc3), .vec 3 1 l16.length s16 (l16.flatMap enc3)]), glitch_transform_2 F hd1 N v0 v10 v11 v5_f1 l4 l16 = some r → Run Tryz.prog ⟨⟨67, [], none⟩, [.mk ⟨31, [], none⟩ 20 (treeOf [(3, (.ptr b7 0)), (4, (.fn (.func 67) [] [(.ptr b7 0)])), (5, (.int .i64 v5_f1))]) [itemC Tryz.prog 31 [1, 1, 1, 0, 1, 0, 0, 1, 0, 0] 2, .inBlock 1, codeC Tryz.prog 31 [1, 1, 1, 0, 1, 0, 0, 1, 1], loopC Tryz.prog 31 [1, 1, 1, 0, 1, 0, 0], .inBlock 0, codeC Tryz.prog 31 [1, 1, 1, 1]]]⟩ 47 (glitch_transform_post r) [(0, (.int .i64 v0)), (1, (.ptr b7 0)), (3, s16), (10, (.int .i64 v10)), (11, (.int .i64 v11))] [codeC Tryz.prog 67 [1, 1, 0, 0], loopC Tryz.prog 67 [1, 1, 0, 0], .inBlock 0] M := by
  intro N
  induction N with
  | zero =>
    intro v0 v10 v11 v5_f1 l4 l16 b7 s4 s16 Fr M r hH h
    simp [glitch_transform_2] at h
  | succ N ih =>
    intro v0 v10 v11 v5_f1 l4 l16 b7 s4 s16 Fr M r hH h
    rw [glitch_transform_2] at h
    refine Run.seq (Run.region ?_)
    refine Run.opG wantS_none (ex_lss rfl rfl) rfl ?_
    refine Run.opsEnd (Run.seq ?_)
    rcases btf ((decide (v11 < v10))) with hc18 | hc18
    · have h := bif_t hc18 h
      refine Run.condT' rfl hc18 ?_
      refine Run.skip (Run.seq (Run.block (Run.seq (Run.region ?_))))
      refine Run.opG wantS_none (ex_move rfl) rfl ?_
      refine Run.opG wantS_none (ex_assign rfl) rfl ?_
      refine Run.opsEnd ?_
      refine Run.drawG plan67_1_1_0_0_1_1_0_0_1 ?_
      refine DrawG.fl rfl (ev_ex wantS_none (ex_load1 rfl (hH.cells (i := 0) rfl 0 rfl) rdLe_rfl agg22)) rfl ?_
      refine DrawG.fl rfl (ev_ex wantS_none (ex_move rfl)) rfl ?_
      refine DrawG.fl rfl (ev_ex wantS_none (ex_load1 rfl (hH.cells (i := 0) rfl 0 rfl) rdLe_rfl agg22)) rfl ?_
      refine DrawG.fl rfl (ev_ex wantS_none (ex_move rfl)) rfl ?_
      refine DrawG.fl rfl (ev_ex wantS_none (ex_move rfl)) rfl ?_
      refine DrawG.fl rfl (ev_ex wantS_none (ex_add rfl rfl)) rfl ?_
      refine DrawG.fl rfl (ev_ex wantS_none (ex_move rfl)) rfl ?_
      refine DrawG.fl rfl (ev_ex wantS_none (ex_move rfl)) rfl ?_
      refine DrawG.fl rfl (ev_ex wantS_none (ex_mul rfl rfl)) rfl ?_
      obtain ⟨x19, hx19, h⟩ := bnd_some h
      obtain ⟨p19, o19, hb19, hx19, he19⟩ := vec_elem (P := Tryz.prog) (t := 22) (kk := .i64) hH (i := 2) rfl hx19 els22
      refine DrawG.fl rfl (ev_ex wantS_none (ex_elX rfl rfl hx19)) rfl ?_
      refine DrawG.fl rfl (ev_ex wantS_none (ex_load1 rfl (hH.at (enc := enc3) (a := x19) (i := 2) rfl hb19 he19 enc3_len) rdLe_rfl agg3)) rfl ?_
      refine DrawG.fl rfl (ev_ex wantS_none (ex_move rfl)) rfl ?_
      refine DrawG.fl rfl (ev_ex wantS_none (ex_move rfl)) rfl ?_
      refine DrawG.fl rfl (ev_ex wantS_none (ex_mul rfl rfl)) rfl ?_
      refine DrawG.fl rfl (ev_ex wantS_none (ex_add rfl rfl)) rfl ?_
      obtain ⟨x20, hx20, h⟩ := bnd_some h
      obtain ⟨p20, o20, hb20, hx20, he20⟩ := vec_elem (P := Tryz.prog) (t := 22) (kk := .i64) hH (i := 2) rfl hx20 els22
      refine DrawG.fl rfl (ev_ex wantS_none (ex_elX rfl rfl hx20)) rfl ?_
      refine DrawG.fl rfl (ev_ex wantS_none (ex_load1 rfl (hH.at (enc := enc3) (a := x20) (i := 2) rfl hb20 he20 enc3_len) rdLe_rfl agg3)) rfl ?_
      refine DrawG.fl rfl (ev_ex wantS_none (ex_add rfl rfl)) rfl ?_
      refine DrawG.fl rfl (ev_ex wantS_none (ex_move rfl)) rfl ?_
      refine DrawG.fl rfl (ev_ex wantS_none (ex_move rfl)) rfl ?_
      refine DrawG.fl rfl (ev_ex wantS_none (ex_mul rfl rfl)) rfl ?_
      obtain ⟨x21, hx21, h⟩ := bnd_some h
      obtain ⟨p21, o21, hb21, hx21, he21⟩ := vec_elem (P := Tryz.prog) (t := 22) (kk := .i64) hH (i := 2) rfl hx21 els22
      refine DrawG.fl rfl (ev_ex wantS_none (ex_elX rfl rfl hx21)) rfl ?_
      refine DrawG.fl rfl (ev_ex wantS_none (ex_load1 rfl (hH.at (enc := enc3) (a := x21) (i := 2) rfl hb21 he21 enc3_len) rdLe_rfl agg3)) rfl ?_
      refine DrawG.fl rfl (ev_ex wantS_none (ex_move rfl)) rfl ?_
      refine DrawG.fl rfl (ev_ex wantS_none (ex_move rfl)) rfl ?_
      refine DrawG.fl rfl (ev_ex wantS_none (ex_mul rfl rfl)) rfl ?_
      refine DrawG.fl rfl (ev_ex wantS_none (ex_add rfl rfl)) rfl ?_
      obtain ⟨x22, hx22, h⟩ := bnd_some h
      obtain ⟨p22, o22, hb22, hx22, he22⟩ := vec_elem (P := Tryz.prog) (t := 22) (kk := .i64) hH (i := 2) rfl hx22 els22
      refine DrawG.fl rfl (ev_ex wantS_none (ex_elX rfl rfl hx22)) rfl ?_
      refine DrawG.fl rfl (ev_ex wantS_none (ex_load1 rfl (hH.at (enc := enc3) (a := x22) (i := 2) rfl hb22 he22 enc3_len) rdLe_rfl agg3)) rfl ?_
      refine DrawG.fl rfl (ev_ex wantS_none (ex_sub rfl rfl)) rfl ?_
      obtain ⟨o23, ho23, h⟩ := bnd_some h
      obtain ⟨p23, hb23, hx23⟩ := vec_place (P := Tryz.prog) (t := 22) (kk := .i64) hH (i := 1) rfl ho23 els22
      refine DrawG.fl rfl (ev_ex wantS_none (ex_elX rfl rfl hx23)) rfl ?_
      obtain ⟨l24, hl24, h⟩ := bnd_some h
      refine DrawG.opX rfl wantS_none rfl (ExG.storeEl rfl rfl hH (i := 1) rfl hb23 hl24 sz3 rfl enc3_len enc3_ones) ?_
      rintro _ M25 ⟨rfl, (hH25 : Has Fr M25 [.obj b7 (.row 22 .whole [s4]), .vec 3 1 l24.length s4 (l24.flatMap enc3), .vec 3 1 l16.length s16 (l16.flatMap enc3)])⟩
      refine ⟨(st_cons rfl (ev_ex wantS_none (ex_sub rfl rfl)) rfl rfl rfl (st_cons rfl (ev_ex wantS_none (ex_add rfl rfl)) rfl rfl rfl (st_cons rfl (ev_ex wantS_none (ex_move rfl)) rfl rfl rfl (st_cons rfl (ev_ex wantS_none (ex_move rfl)) rfl rfl rfl (st_cons rfl (ev_ex wantS_none (ex_load1 rfl (hH25.cells (i := 0) rfl 0 rfl) rdLe_rfl agg22)) rfl rfl (blk_self hH25 (i := 1) rfl) st_nil))))), ?_⟩
      obtain ⟨o26, ho26, h⟩ := bnd_some h
      obtain ⟨p26, hb26, hx26⟩ := vec_place (P := Tryz.prog) (t := 22) (kk := .i64) hH25 (i := 1) rfl ho26 els22
      refine DrawG.fl rfl (ev_ex wantS_none (ex_elX rfl rfl hx26)) rfl ?_
      obtain ⟨l27, hl27, h⟩ := bnd_some h
      refine DrawG.opX rfl wantS_none rfl (ExG.storeEl rfl rfl hH25 (i := 1) rfl hb26 hl27 sz3 rfl enc3_len enc3_ones) ?_
      rintro _ M28 ⟨rfl, (hH28 : Has Fr M28 [.obj b7 (.row 22 .whole [s4]), .vec 3 1 l27.length s4 (l27.flatMap enc3), .vec 3 1 l16.length s16 (l16.flatMap enc3)])⟩
      refine ⟨st_nil, ?_⟩
      refine DrawG.sync ?_
      refine DrawG.nil ?_
      refine Run.inBlock (Run.region ?_)
      refine Run.opG wantS_none (ex_add rfl rfl) rfl ?_
      refine Run.opG wantS_none (ex_move rfl) rfl ?_
      refine Run.opsEnd (Run.inLoop ?_)
      exact Run.low (.cons (fle_pick [3, 4, 5] rfl) .nil) (Run.pick [0, 1, 3, 10, 11] (ih v0 v10 (w64 (v11 + (1 : Int))) v5_f1 l27 l16 b7 s4 s16 _ _ _ hH28 h))
    · have h := bif_f hc18 h
      refine Run.condF' rfl hc18 ?_
      refine Run.exit rfl ?_
      refine Run.fallTo Tryz.func67 rfl res_nil rfl ?_
      refine Run.opsEnd (Run.inBlock (Run.region ?_))
      refine Run.opG wantS_none (ex_move rfl) rfl ?_
      refine Run.opG wantS_none (ex_quo rfl rfl (by decide)) rfl ?_
      refine Run.opG wantS_none (ex_assign rfl) rfl ?_
      refine Run.opsEnd (Run.inLoop ?_)
      exact Run.pick [3, 4, 5] (hhd1 (w64 (Int.tdiv v5_f1 (2 : Int))) l4 b7 s4 _ _ _ (hH.pick [0, 1] rfl rfl) h)

def glitch_transform_1 (F : Nat) : Nat → Int → (List Int) → Option ((List Int))
  | 0, _, _ => none
  | N + 1, v5, l4 =>
    bif (decide ((0 : Int) < v5)) then
      bnd (sub l4 0 (w64 ((2 : Int) * v5))) fun l12 =>
      bnd (slices_Clone F l12) fun r15 =>
      glitch_transform_2 F (glitch_transform_1 F N) F v5 v5 (0 : Int) v5 l4 r15
    else
      some l4

theorem glitch_transform_1_ok (F : Nat) : ∀ (N : Nat), ∀ (v5 : Int) (l4 : (List Int)) (b7 : Pos) (s4 : SV) (Fr : Rd) (M : Mem) (r : (List Int)) (hH : Has Fr M [.obj b7 (.row 22 .whole [s4]), .vec 3 1 l4.length s4 (l4.flatMap enc3)]), glitch_transform_1 F N v5 l4 = some r → Run Tryz.prog ⟨⟨31, [], none⟩, []⟩ 20 (glitch_transform_post r) [(3, (.ptr b7 0)), (4, (.fn (.func 67) [] [(.ptr b7 0)])), (5, (.int .i64 v5))] [codeC Tryz.prog 31 [1, 1, 1, 0, 1, 0, 0], loopC Tryz.prog 31 [1, 1, 1, 0, 1, 0, 0], .inBlock 0, codeC Tryz.prog 31 [1, 1, 1, 1]] M := by
  intro N
  induction N with
  | zero =>
    intro v5 l4 b7 s4 Fr M r hH h
    simp [glitch_transform_1] at h
  | succ N ih =>
    intro v5 l4 b7 s4 Fr M r hH h
    rw [glitch_transform_1] at h
    refine Run.seq (Run.seq (Run.region ?_))
    refine Run.opG wantS_none (ex_move rfl) rfl ?_
    refine Run.opG wantS_none (ex_gtr rfl rfl) rfl ?_
    refine Run.opsEnd ?_
    rcases btf ((decide ((0 : Int) < v5))) with hc10 | hc10
    · have h := bif_t hc10 h
      refine Run.condT' rfl hc10 ?_
      refine Run.skip (Run.seq (Run.block (Run.region ?_)))
      refine Run.opG wantS_none (ex_move rfl) rfl ?_
      refine Run.opG wantS_none (ex_move rfl) rfl ?_
      refine Run.enter wantS_none (ex_closure rfl rfl mkk67 cal67) Tryz.func67 rfl rfl ?_
      refine Run.seq (Run.region ?_)
      refine Run.opG wantS_none (ex_load1 rfl (hH.cells (i := 0) rfl 0 rfl) rdLe_rfl agg22) rfl ?_
      refine Run.opG wantS_none (ex_move rfl) rfl ?_
      refine Run.opG wantS_none (ex_mul rfl rfl) rfl ?_
      obtain ⟨l12, hl12, h⟩ := bnd_some h
      obtain ⟨s12, hx12, hs12⟩ := sl_subH (P := Tryz.prog) (t := 22) (k0 := .i64) (hH.slc (i := 1) rfl enc3_len) hl12 slk22
      refine Run.opG wantS_none (ex_slX rfl (argO_none) (argO_some rfl) hx12) rfl ?_
      obtain ⟨r15, hr15, h⟩ := bnd_some h
      refine Run.callX wantS_none (ex_call rfl mkk66 cal66) rfl (slices_Clone_ok F l12 s12 _ _ hs12 hr15) ?_
      rintro s15_0 M17 ⟨_, rfl, hN15⟩
      have hH17 : Has Fr M17 [.vec 3 1 r15.length s15_0 (r15.flatMap enc3), .obj b7 (.row 22 .whole [s4]), .vec 3 1 l4.length s4 (l4.flatMap enc3)] := hN15.1 _ _ hH
      refine Run.opG wantS_none (ex_assign rfl) rfl ?_
      refine Run.opsEnd (Run.seq (Run.region ?_))
      refine Run.opG wantS_none (ex_move rfl) rfl ?_
      refine Run.opG wantS_none (ex_move rfl) rfl ?_
      refine Run.opsEnd (Run.block (Run.loop ?_))
      exact Run.low (.cons (fle_pick [3, 4, 5] rfl) .nil) (Run.pick [0, 1, 3, 10, 11] (glitch_transform_2_ok F (glitch_transform_1 F N) ih F v5 v5 (0 : Int) v5 l4 r15 b7 s4 s15_0 _ _ _ (hH17.pick [1, 2, 0] rfl rfl) h))
    · have h := bif_f hc10 h
      refine Run.condF' rfl hc10 ?_
      refine Run.exit rfl (Run.seq (Run.region ?_))
      refine Run.opG wantS_none (ex_load1 rfl (hH.cells (i := 0) rfl 0 rfl) rdLe_rfl agg22) rfl ?_
      refine Run.opG wantS_none (ex_assign rfl) rfl ?_
      refine Run.opsEnd ?_
      cases h
      exact Run.ret Tryz.func31 rfl (res_tmp rfl res_nil) ⟨_, rfl, (hH.pick [1] rfl rfl).upF (none_le _)⟩

def glitch_transform (F : Nat) (a0 : (List Int)) : Option ((List Int)) :=
  bnd (slices_Clone F a0) fun r3 =>
  glitch_transform_1 F F (w64 (Int.tdiv (a0.length : Int) (2 : Int))) r3

theorem glitch_transform_ok (F : Nat) (a0 : (List Int)) (s0 : SV) (r : (List Int)) (M : Mem) (hs0 : Slc (rd M) 1 (FlatR enc3) s0 a0) (h : glitch_transform F a0 = some r) : CallsM Tryz.prog 31 [s0] M (fun s M' => ∃ q1, s = q1 ∧ New M M' [.vec 3 1 r.length q1 (r.flatMap enc3)]) := by
  refine CallsM.fresh (Q := glitch_transform_post r) Tryz.func31 rfl rfl ?_ (by rintro s Me ⟨q1, rfl, hx⟩ ha hw; exact ⟨_, rfl, New.of rfl hx ha hw⟩)
  rw [glitch_transform] at h
  replace hs0 := hs0.mono (rdLe_frozen M) (fun _ _ h => h)
  have hH := Has.nil (frozen M)
  refine Run.seq (Run.region ?_)
  refine Run.opG wantS_none (ex_assign rfl) rfl ?_
  refine Run.opsEnd (Run.seq (Run.region ?_))
  refine Run.opG wantS_none (ex_move rfl) rfl ?_
  obtain ⟨r3, hr3, h⟩ := bnd_some h
  refine Run.callX wantS_none (ex_call rfl mkk66 cal66) rfl (slices_Clone_ok F a0 s0 _ _ (hH.slcF hs0) hr3) ?_
  rintro s3_0 M5 ⟨_, rfl, hN3⟩
  have hH5 : Has (ro (frozen M)) M5 [.vec 3 1 r3.length s3_0 (r3.flatMap enc3)] := hN3.1 _ _ hH
  refine Run.opX wantS_none rfl (ExG.new (v := fun b => .ptr b 0) (ex_alloc zer22) hH5) ?_
  rintro _ M8 ⟨b7, rfl, (hH8 : Has (ro (frozen M)) M8 [.obj b7 (.row 22 .whole [.nils]), .vec 3 1 r3.length s3_0 (r3.flatMap enc3)])⟩
  refine Run.opX wantS_none rfl (ExG.storeC (c' := [s3_0]) rfl rfl (cells_one (vec_one hH8 (i := 1) rfl)) hH8 (i := 0) rfl sz22 rfl rfl rfl (ones_cons (vec_one hH8 (i := 1) rfl) ones_nil) rfl) ?_
  rintro _ M9 ⟨rfl, (hH9 : Has (ro (frozen M)) M9 [.obj b7 (.row 22 .whole [s3_0]), .vec 3 1 r3.length s3_0 (r3.flatMap enc3)])⟩
  refine Run.opsEnd (Run.seq (Run.region ?_))
  refine Run.opG wantS_none (ex_makeFunc rfl rfl) rfl ?_
  refine Run.opG wantS_none (ex_assign rfl) rfl ?_
  refine Run.opsEnd (Run.seq (Run.seq (Run.region ?_)))
  refine Run.opG wantS_none (ex_move rfl) rfl ?_
  refine Run.opG wantS_none (ex_len' rfl hs0 lenk22) rfl ?_
  refine Run.opG wantS_none (ex_quo rfl rfl (by decide)) rfl ?_
  refine Run.opG wantS_none (ex_assign rfl) rfl ?_
  refine Run.opsEnd (Run.block (Run.loop ?_))
  exact Run.pick [3, 4, 5] (glitch_transform_1_ok F F (w64 (Int.tdiv (a0.length : Int) (2 : Int))) r3 b7 s3_0 _ _ _ hH9 h)

theorem mkk31 : makeK Tryz.prog 31 = none := by kernel_rfl
theorem cal31 : callable Tryz.prog 31 = true := by kernel_rfl
theorem zer32 : zerosOf Tryz.prog 32 = some [(.int .i64 0), (.int .i64 0), (.int .i64 0)] := by kernel_rfl
theorem pls32 : placesOf Tryz.prog 32 = some (.st [(0, 1), (1, 1), (2, 1)]) := by kernel_rfl
theorem sz32 : szOf Tryz.prog 32 = some 3 := by kernel_rfl
theorem agg28 : aggSize Tryz.prog 28 = some none := by kernel_rfl
theorem agg32 : aggSize Tryz.prog 32 = some (some 3) := by kernel_rfl
theorem elt28 : sliceElt Tryz.prog 28 = some (⟨3, 24, [(.int .i64 0), (.int .i64 0), (.int .i64 0)], 32⟩ : Elt) := by kernel_rfl
theorem appt28_28 : appT Tryz.prog 28 28 = some (⟨3, 24, [(.int .i64 0), (.int .i64 0), (.int .i64 0)], 32⟩ : Elt) := by kernel_rfl
theorem sz28 : szOf Tryz.prog 28 = some 1 := by kernel_rfl
abbrev glitch_Tiles_post (r : (List S_api_Tile) × Int) : SV → Mem → Prop := fun s Me => ∃ q1, s = (.tuple [q1, (.int .i64 r.2)]) ∧ Has (fun _ => none) Me [.vec 32 3 r.1.length q1 (r.1.flatMap enc32)]

def glitch_Tiles_2 (F : Nat) (hd1 : (List Int) → Int → Int → (List Int) → (List S_api_Tile) → Option ((List S_api_Tile) × Int)) : Nat → (List Int) → Int → Int → (List Int) → Int → Int → (List Int) → (List S_api_Tile) → Option ((List S_api_Tile) × Int)
  | 0, _, _, _, _, _, _, _, _ => none
  | N + 1, v3, v4, v5, v23, v24, v25, c8_0, l20 =>
    bif (decide (v25 < v24)) then
      bnd (idx v23 v25) fun x29 =>
      bnd (apd 24 l20 ([(S_api_Tile.mk v4 v25 x29)] : List S_api_Tile)) fun l40 =>
      (glitch_Tiles_2 F hd1 N) v3 v4 v5 v23 v24 (w64 (v25 + (1 : Int))) c8_0 l40
    else
      hd1 v3 v4 (w64 (Int.tdiv v5 (2 : Int))) c8_0 l20

theorem glitch_Tiles_2_ok (F : Nat) (hd1 : (List Int) → Int → Int → (List Int) → (List S_api_Tile) → Option ((List S_api_Tile) × Int)) (hhd1 : ∀ (v3 : (List Int)) (v4 : Int) (v5 : Int) (c8_0 : (List Int)) (l20 : (List S_api_Tile)) (sv3 : SV) (sc8_0 : SV) (b13 : Pos) (b11 : Pos) (s20 : SV) (b8 : Pos) (b14 : Pos) (Fr : Rd) (M : Mem) (r : (List S_api_Tile) × Int) (hv3 : Slc Fr 1 (FlatR enc3) sv3 v3) (hc8_0 : Slc Fr 1 (FlatR enc3) sc8_0 c8_0) (hH : Has Fr M [.obj b13 (.loop ⟨.ready, none, 74, 13, treeOf [(2, (.ptr b11 0)), (4, .nils), (6, (.fn (.func 75) [] [(.ptr b8 0)]))], [7], (atC Tryz.prog 74 [1, 0, 1, 0, 0]), (atC Tryz.prog 74 [1, 0, 1, 0, 1]), b14⟩), .obj b11 (.row 28 .whole [s20]), .vec 32 3 l20.length s20 (l20.flatMap enc32), .obj b8 (.row 22 .whole [sc8_0]), .obj b14 .defd]), hd1 v3 v4 v5 c8_0 l20 = some r → Run Tryz.prog ⟨⟨75, [], none⟩, [.mk ⟨74, [b14], none⟩ 13 (treeOf [(2, (.ptr b11 0))]) [.inRange b13, .inBlock 0, codeC Tryz.prog 74 [1, 1]], .mk ⟨37, [], none⟩ 5 (treeOf []) [itemC Tryz.prog 37 [1, 0] 1, codeC Tryz.prog 37 [1, 1]], .mk ⟨12, [], none⟩ 10 (treeOf []) [itemC Tryz.prog 12 [1, 1, 0] 2, codeC Tryz.prog 12 [1, 1, 1]]]⟩ 38 (glitch_Tiles_post r) [(0, (.yield b13)), (3, sv3), (4, (.int .i64 v4)), (5, (.int .i64 v5))] [codeC Tryz.prog 75 [1, 1, 1, 0, 0], loopC Tryz.prog 75 [1, 1, 1, 0, 0], .inBlock 0] M) : ∀ (N : Nat), ∀ (v3 : (List Int)) (v4 : Int) (v5 : Int) (v23 : (List Int)) (v24 : Int) (v25 : Int) (c8_0 : (List Int)) (l20 : (List S_api_Tile)) (sv3 : SV) (sv23 : SV) (sc8_0 : SV) (b13 : Pos) (b11 : Pos) (s20 : SV) (b8 : Pos) (b14 : Pos) (Fr : Rd) (M : Mem) (r : (List S_api_Tile) × Int) (hv3 : Slc Fr 1 (FlatR enc3) sv3 v3) (hv23 : Slc Fr 1 (FlatR enc3) sv23 v23) (hc8_0 : Slc Fr 1 (FlatR enc3) sc8_0 c8_0) (hH : Has Fr M [.obj b13 (.loop ⟨.ready, none, 74, 13, treeOf [(2, (.ptr b11 0)), (4, .nils), (6, (.fn (.func 75) [] [(.ptr b8 0)]))], [7], (atC Tryz.prog 74 [1, 0, 1, 0, 0]), (atC Tryz.prog 74 [1, 0, 1, 0, 1]), b14⟩), .obj b11 (.row 28 .whole [s20]), .vec 32 3 l20.length s20 (l20.flatMap enc32), .obj b8 (.row 22 .whole [sc8_0]), .obj b14 .defd]), glitch_Tiles_2 F hd1 N v3 v4 v5 v23 v24 v25 c8_0 l20 = some r → Run Tryz.prog ⟨⟨75, [], none⟩, [.mk ⟨74, [b14], none⟩ 13 (treeOf [(2, (.ptr b11 0))]) [.inRange b13, .inBlock 0, codeC Tryz.prog 74 [1, 1]], .mk ⟨37, [], none⟩ 5 (treeOf []) [itemC Tryz.prog 37 [1, 0] 1, codeC Tryz.prog 37 [1, 1]], .mk ⟨12, [], none⟩ 10 (treeOf []) [itemC Tryz.prog 12 [1, 1, 0] 2, codeC Tryz.prog 12 [1, 1, 1]]]⟩ 38 (glitch_Tiles_post r) [(0, (.yield b13)), (3, sv3), (4, (.int .i64 v4)), (5, (.int .i64 v5)), (23, sv23), (24, (.int .i64 v24)), (25, (.int .i64 v25))] [codeC Tryz.prog 75 [1, 1, 1, 0, 0, 1, 0, 0, 1, 1, 0, 0], loopC Tryz.prog 75 [1, 1, 1, 0, 0, 1, 0, 0, 1, 1, 0, 0], .inBlock 2, .inBlock 1, codeC Tryz.prog 75 [1, 1, 1, 0, 0, 1, 1], loopC Tryz.prog 75 [1, 1, 1, 0, 0], .inBlock 0] M := by
  intro N
  induction N with
  | zero =>
    intro v3 v4 v5 v23 v24 v25 c8_0 l20 sv3 sv23 sc8_0 b13 b11 s20 b8 b14 Fr M r hv3 hv23 hc8_0 hH h
    simp [glitch_Tiles_2] at h
  | succ N ih =>
    intro v3 v4 v5 v23 v24 v25 c8_0 l20 sv3 sv23 sc8_0 b13 b11 s20 b8 b14 Fr M r hv3 hv23 hc8_0 hH h
    rw [glitch_Tiles_2] at h
    refine Run.seq (Run.region ?_)
    refine Run.opG wantS_none (ex_lss rfl rfl) rfl ?_
    refine Run.opsEnd (Run.seq ?_)
    rcases btf ((decide (v25 < v24))) with hc27 | hc27
    · have h := bif_t hc27 h
      refine Run.condT' rfl hc27 ?_
      refine Run.skip (Run.seq (Run.block (Run.seq (Run.region ?_))))
      refine Run.opG wantS_none (ex_move rfl) rfl ?_
      obtain ⟨x29, hx29, h⟩ := bnd_some h
      obtain ⟨p29, o29, _, hx29, hp29, rfl⟩ := sl_elem (P := Tryz.prog) (t := 22) (kk := .i64) hv23 hx29 els22
      refine Run.opG wantS_none (ex_elX rfl rfl hx29) rfl ?_
      refine Run.opG wantS_none (ex_load1 rfl (hH.ptrF hp29) rdLe_rfl agg3) rfl ?_
      refine Run.opG wantS_none (ex_assign rfl) rfl ?_
      refine Run.opG wantS_none (ex_assign rfl) rfl ?_
      refine Run.opsEnd (Run.seq (Run.region ?_))
      refine Run.opG wantS_none (ex_move rfl) rfl ?_
      refine Run.opG wantS_none (ex_move rfl) rfl ?_
      refine Run.opG wantS_none (ex_move rfl) rfl ?_
      refine Run.opG wantS_none (ex_move rfl) rfl ?_
      refine Run.opG wantS_none (ex_build (r := [(.int .i64 v4), (.int .i64 v25), (.int .i64 x29)]) rfl zer32 pls32 rfl) rfl ?_
      refine Run.round (e' := [(7, (.agg [(.int .i64 v4), (.int .i64 v25), (.int .i64 x29)])), (2, (.ptr b11 0)), (4, .nils), (6, (.fn (.func 75) [] [(.ptr b8 0)]))]) wantS_none (ex_yield hH (i := 0) rfl rfl rfl rfl) (hH.loopOf (i := 0) rfl) rfl ?_
      refine Run.region ?_
      refine Run.opX wantS_none rfl (ExG.new (v := fun b => .ptr b 0) (ex_alloc zer32) hH) ?_
      rintro _ M32 ⟨b31, rfl, (hH32 : Has Fr M32 [.obj b31 (.row 32 .whole [(.int .i64 0), (.int .i64 0), (.int .i64 0)]), .obj b13 (.loop ⟨.ready, none, 74, 13, treeOf [(2, (.ptr b11 0)), (4, .nils), (6, (.fn (.func 75) [] [(.ptr b8 0)]))], [7], (atC Tryz.prog 74 [1, 0, 1, 0, 0]), (atC Tryz.prog 74 [1, 0, 1, 0, 1]), b14⟩), .obj b11 (.row 28 .whole [s20]), .vec 32 3 l20.length s20 (l20.flatMap enc32), .obj b8 (.row 22 .whole [sc8_0]), .obj b14 .defd])⟩
      refine Run.opX wantS_none rfl (ExG.storeC (c' := [(.int .i64 v4), (.int .i64 v25), (.int .i64 x29)]) rfl rfl rfl hH32 (i := 0) rfl sz32 rfl rfl rfl rfl rfl) ?_
      rintro _ M33 ⟨rfl, (hH33 : Has Fr M33 [.obj b31 (.row 32 .whole [(.int .i64 v4), (.int .i64 v25), (.int .i64 x29)]), .obj b13 (.loop ⟨.ready, none, 74, 13, treeOf [(2, (.ptr b11 0)), (4, .nils), (6, (.fn (.func 75) [] [(.ptr b8 0)]))], [7], (atC Tryz.prog 74 [1, 0, 1, 0, 0]), (atC Tryz.prog 74 [1, 0, 1, 0, 1]), b14⟩), .obj b11 (.row 28 .whole [s20]), .vec 32 3 l20.length s20 (l20.flatMap enc32), .obj b8 (.row 22 .whole [sc8_0]), .obj b14 .defd])⟩
      refine Run.opsEnd ?_
      refine Run.beginX hH33 (i := 1) rfl rfl ?_
      intro M34 (hH34 : Has Fr M34 [.obj b31 (.row 32 .whole [(.int .i64 v4), (.int .i64 v25), (.int .i64 x29)]), .obj b13 (.loop ⟨.busy, none, 74, 13, treeOf [(2, (.ptr b11 0)), (4, .nils), (6, (.fn (.func 75) [] [(.ptr b8 0)]))], [7], (atC Tryz.prog 74 [1, 0, 1, 0, 0]), (atC Tryz.prog 74 [1, 0, 1, 0, 1]), b14⟩), .obj b11 (.row 28 .whole [s20]), .vec 32 3 l20.length s20 (l20.flatMap enc32), .obj b8 (.row 22 .whole [sc8_0]), .obj b14 .defd])
      refine Run.block (Run.region ?_)
      refine Run.opG wantS_none (ex_load1 rfl (hH34.cells (i := 2) rfl 0 rfl) rdLe_rfl agg28) rfl ?_
      refine Run.opG wantS_none (ex_loadA rfl (hH34.cells (i := 0) rfl 0 rfl) rdLe_rfl agg32 rfl rfl rfl) rfl ?_
      refine Run.opX wantS_none rfl (ExG.built (enc := enc32) (l := ([(S_api_Tile.mk v4 v25 x29)] : List S_api_Tile)) (z := 3) rfl elt28 rfl rfl rfl enc32_len hH34) ?_
      rintro s36 M37 (hH37 : Has Fr M37 [.vec 32 3 ([(S_api_Tile.mk v4 v25 x29)] : List S_api_Tile).length s36 (([(S_api_Tile.mk v4 v25 x29)] : List S_api_Tile).flatMap enc32), .obj b31 (.row 32 .whole [(.int .i64 v4), (.int .i64 v25), (.int .i64 x29)]), .obj b13 (.loop ⟨.busy, none, 74, 13, treeOf [(2, (.ptr b11 0)), (4, .nils), (6, (.fn (.func 75) [] [(.ptr b8 0)]))], [7], (atC Tryz.prog 74 [1, 0, 1, 0, 0]), (atC Tryz.prog 74 [1, 0, 1, 0, 1]), b14⟩), .obj b11 (.row 28 .whole [s20]), .vec 32 3 l20.length s20 (l20.flatMap enc32), .obj b8 (.row 22 .whole [sc8_0]), .obj b14 .defd])
      obtain ⟨l40, hl40, h⟩ := bnd_some h
      refine Run.opX wantS_none rfl (ExG.append rfl rfl hH37 (i := 4) rfl enc32_len rfl enc32_ones appt28_28 rfl (len_slc (hH37.slc (i := 0) rfl enc32_len)) (first_slc (hH37.slc (i := 0) rfl enc32_len) (rdLe_rdRow _) enc32_len) hl40) ?_
      rintro s40 M42 (hH42 : Has Fr M42 [.vec 32 3 ([(S_api_Tile.mk v4 v25 x29)] : List S_api_Tile).length s36 (([(S_api_Tile.mk v4 v25 x29)] : List S_api_Tile).flatMap enc32), .obj b31 (.row 32 .whole [(.int .i64 v4), (.int .i64 v25), (.int .i64 x29)]), .obj b13 (.loop ⟨.busy, none, 74, 13, treeOf [(2, (.ptr b11 0)), (4, .nils), (6, (.fn (.func 75) [] [(.ptr b8 0)]))], [7], (atC Tryz.prog 74 [1, 0, 1, 0, 0]), (atC Tryz.prog 74 [1, 0, 1, 0, 1]), b14⟩), .obj b11 (.row 28 .whole [s20]), .vec 32 3 l40.length s40 (l40.flatMap enc32), .obj b8 (.row 22 .whole [sc8_0]), .obj b14 .defd])
      refine Run.opX wantS_none rfl (ExG.storeC (c' := [s40]) rfl rfl (cells_one (vec_one hH42 (i := 4) rfl)) hH42 (i := 3) rfl sz28 rfl rfl rfl (ones_cons (vec_one hH42 (i := 4) rfl) ones_nil) rfl) ?_
      rintro _ M43 ⟨rfl, (hH43 : Has Fr M43 [.vec 32 3 ([(S_api_Tile.mk v4 v25 x29)] : List S_api_Tile).length s36 (([(S_api_Tile.mk v4 v25 x29)] : List S_api_Tile).flatMap enc32), .obj b31 (.row 32 .whole [(.int .i64 v4), (.int .i64 v25), (.int .i64 x29)]), .obj b13 (.loop ⟨.busy, none, 74, 13, treeOf [(2, (.ptr b11 0)), (4, .nils), (6, (.fn (.func 75) [] [(.ptr b8 0)]))], [7], (atC Tryz.prog 74 [1, 0, 1, 0, 0]), (atC Tryz.prog 74 [1, 0, 1, 0, 1]), b14⟩), .obj b11 (.row 28 .whole [s40]), .vec 32 3 l40.length s40 (l40.flatMap enc32), .obj b8 (.row 22 .whole [sc8_0]), .obj b14 .defd])⟩
      refine Run.opsEnd (Run.inBlock ?_)
      refine Run.roundEndX hH43 (i := 2) rfl rfl ?_
      intro M44 (hH44 : Has Fr M44 [.vec 32 3 ([(S_api_Tile.mk v4 v25 x29)] : List S_api_Tile).length s36 (([(S_api_Tile.mk v4 v25 x29)] : List S_api_Tile).flatMap enc32), .obj b31 (.row 32 .whole [(.int .i64 v4), (.int .i64 v25), (.int .i64 x29)]), .obj b13 (.loop ⟨.ready, none, 74, 13, treeOf [(2, (.ptr b11 0)), (4, .nils), (6, (.fn (.func 75) [] [(.ptr b8 0)]))], [7], (atC Tryz.prog 74 [1, 0, 1, 0, 0]), (atC Tryz.prog 74 [1, 0, 1, 0, 1]), b14⟩), .obj b11 (.row 28 .whole [s40]), .vec 32 3 l40.length s40 (l40.flatMap enc32), .obj b8 (.row 22 .whole [sc8_0]), .obj b14 .defd])
      refine Run.opG wantS_none (ex_not rfl) rfl ?_
      refine Run.opsEnd ?_
      refine Run.condF' rfl (bnot_f rfl) ?_
      refine Run.skip (Run.inBlock (Run.region ?_))
      refine Run.opG wantS_none (ex_add rfl rfl) rfl ?_
      refine Run.opG wantS_none (ex_move rfl) rfl ?_
      refine Run.opsEnd (Run.inLoop ?_)
      exact Run.low (.cons (fle_pick [2] rfl) (.cons (fle_pick [] rfl) (.cons (fle_pick [] rfl) .nil))) (Run.pick [0, 3, 4, 5, 23, 24, 25] (ih v3 v4 v5 v23 v24 (w64 (v25 + (1 : Int))) c8_0 l40 sv3 sv23 sc8_0 b13 b11 s40 b8 b14 _ _ _ hv3 hv23 hc8_0 (hH44.pick [2, 3, 4, 5, 6] rfl rfl) h))
    · have h := bif_f hc27 h
      refine Run.condF' rfl hc27 ?_
      refine Run.exit rfl (Run.inBlock (Run.region ?_))
      refine Run.opG wantS_none (ex_move rfl) rfl ?_
      refine Run.opG wantS_none (ex_quo rfl rfl (by decide)) rfl ?_
      refine Run.opG wantS_none (ex_assign rfl) rfl ?_
      refine Run.opsEnd (Run.inLoop ?_)
      exact Run.low (.cons (fle_pick [2] rfl) (.cons (fle_pick [] rfl) (.cons (fle_pick [] rfl) .nil))) (Run.pick [0, 3, 4, 5] (hhd1 v3 v4 (w64 (Int.tdiv v5 (2 : Int))) c8_0 l20 sv3 sc8_0 b13 b11 s20 b8 b14 _ _ _ hv3 hc8_0 hH h))

def glitch_Tiles_1 (F : Nat) : Nat → (List Int) → Int → Int → (List Int) → (List S_api_Tile) → Option ((List S_api_Tile) × Int)
  | 0, _, _, _, _, _ => none
  | N + 1, v3, v4, v5, c8_0, l20 =>
    bif (decide ((0 : Int) < v5)) then
      bnd (sub v3 v5 (w64 ((2 : Int) * v5))) fun l26 =>
      glitch_Tiles_2 F (glitch_Tiles_1 F N) F v3 (w64 (v4 + (1 : Int))) v5 l26 (l26.length : Int) (0 : Int) c8_0 l20
    else
      some (l20, (0 : Int))

theorem glitch_Tiles_1_ok (F : Nat) : ∀ (N : Nat), ∀ (v3 : (List Int)) (v4 : Int) (v5 : Int) (c8_0 : (List Int)) (l20 : (List S_api_Tile)) (sv3 : SV) (sc8_0 : SV) (b13 : Pos) (b11 : Pos) (s20 : SV) (b8 : Pos) (b14 : Pos) (Fr : Rd) (M : Mem) (r : (List S_api_Tile) × Int) (hv3 : Slc Fr 1 (FlatR enc3) sv3 v3) (hc8_0 : Slc Fr 1 (FlatR enc3) sc8_0 c8_0) (hH : Has Fr M [.obj b13 (.loop ⟨.ready, none, 74, 13, treeOf [(2, (.ptr b11 0)), (4, .nils), (6, (.fn (.func 75) [] [(.ptr b8 0)]))], [7], (atC Tryz.prog 74 [1, 0, 1, 0, 0]), (atC Tryz.prog 74 [1, 0, 1, 0, 1]), b14⟩), .obj b11 (.row 28 .whole [s20]), .vec 32 3 l20.length s20 (l20.flatMap enc32), .obj b8 (.row 22 .whole [sc8_0]), .obj b14 .defd]), glitch_Tiles_1 F N v3 v4 v5 c8_0 l20 = some r → Run Tryz.prog ⟨⟨75, [], none⟩, [.mk ⟨74, [b14], none⟩ 13 (treeOf [(2, (.ptr b11 0))]) [.inRange b13, .inBlock 0, codeC Tryz.prog 74 [1, 1]], .mk ⟨37, [], none⟩ 5 (treeOf []) [itemC Tryz.prog 37 [1, 0] 1, codeC Tryz.prog 37 [1, 1]], .mk ⟨12, [], none⟩ 10 (treeOf []) [itemC Tryz.prog 12 [1, 1, 0] 2, codeC Tryz.prog 12 [1, 1, 1]]]⟩ 38 (glitch_Tiles_post r) [(0, (.yield b13)), (3, sv3), (4, (.int .i64 v4)), (5, (.int .i64 v5))] [codeC Tryz.prog 75 [1, 1, 1, 0, 0], loopC Tryz.prog 75 [1, 1, 1, 0, 0], .inBlock 0] M := by
  intro N
  induction N with
  | zero =>
    intro v3 v4 v5 c8_0 l20 sv3 sc8_0 b13 b11 s20 b8 b14 Fr M r hv3 hc8_0 hH h
    simp [glitch_Tiles_1] at h
  | succ N ih =>
    intro v3 v4 v5 c8_0 l20 sv3 sc8_0 b13 b11 s20 b8 b14 Fr M r hv3 hc8_0 hH h
    rw [glitch_Tiles_1] at h
    refine Run.seq (Run.seq (Run.region ?_))
    refine Run.opG wantS_none (ex_move rfl) rfl ?_
    refine Run.opG wantS_none (ex_gtr rfl rfl) rfl ?_
    refine Run.opsEnd ?_
    rcases btf ((decide ((0 : Int) < v5))) with hc24 | hc24
    · have h := bif_t hc24 h
      refine Run.condT' rfl hc24 ?_
      refine Run.skip (Run.seq (Run.block (Run.seq (Run.region ?_))))
      refine Run.opG wantS_none (ex_move rfl) rfl ?_
      refine Run.opG wantS_none (ex_add rfl rfl) rfl ?_
      refine Run.opG wantS_none (ex_assign rfl) rfl ?_
      refine Run.opsEnd (Run.seq (Run.region ?_))
      refine Run.opG wantS_none (ex_move rfl) rfl ?_
      refine Run.opG wantS_none (ex_move rfl) rfl ?_
      refine Run.opG wantS_none (ex_move rfl) rfl ?_
      refine Run.opG wantS_none (ex_mul rfl rfl) rfl ?_
      obtain ⟨l26, hl26, h⟩ := bnd_some h
      obtain ⟨s26, hx26, hs26⟩ := sl_subB (P := Tryz.prog) (t := 22) (k0 := .i64) (k1 := .i64) hv3 hl26 slk22
      refine Run.opG wantS_none (ex_slX rfl (argO_some rfl) (argO_some rfl) hx26) rfl ?_
      refine Run.opG wantS_none (ex_len' rfl hs26 lenk22) rfl ?_
      refine Run.opG wantS_none (ex_move rfl) rfl ?_
      refine Run.opsEnd (Run.block (Run.loop ?_))
      exact Run.low (.cons (fle_pick [2] rfl) (.cons (fle_pick [] rfl) (.cons (fle_pick [] rfl) .nil))) (Run.pick [0, 3, 4, 5, 23, 24, 25] (glitch_Tiles_2_ok F (glitch_Tiles_1 F N) ih F v3 (w64 (v4 + (1 : Int))) v5 l26 (l26.length : Int) (0 : Int) c8_0 l20 sv3 s26 sc8_0 b13 b11 s20 b8 b14 _ _ _ hv3 hs26 hc8_0 hH h))
    · have h := bif_f hc24 h
      refine Run.condF' rfl hc24 ?_
      refine Run.exit rfl ?_
      refine Run.fallRange Tryz.func75 rfl res_nil ?_
      refine Run.endX hH (i := 0) rfl (fun hc => by cases hc) ?_
      intro M45 (hH45 : Has Fr M45 [.obj b13 (.loop ⟨.exhausted, none, 74, 13, treeOf [(2, (.ptr b11 0)), (4, .nils), (6, (.fn (.func 75) [] [(.ptr b8 0)]))], [7], (atC Tryz.prog 74 [1, 0, 1, 0, 0]), (atC Tryz.prog 74 [1, 0, 1, 0, 1]), b14⟩), .obj b11 (.row 28 .whole [s20]), .vec 32 3 l20.length s20 (l20.flatMap enc32), .obj b8 (.row 22 .whole [sc8_0]), .obj b14 .defd])
      refine Run.inBlock (Run.seq (Run.region ?_))
      refine Run.opG wantS_none (ex_load1 rfl (hH45.cells (i := 1) rfl 0 rfl) rdLe_rfl agg28) rfl ?_
      refine Run.opG wantS_none (ex_assign rfl) rfl ?_
      refine Run.opsEnd ?_
      obtain ⟨hH46x, hS46⟩ := hH45.shut (i := 4) (ds := []) rfl
      have hH46 : Has Fr (setT M45 b14 none) [.obj b13 (.loop ⟨.exhausted, none, 74, 13, treeOf [(2, (.ptr b11 0)), (4, .nils), (6, (.fn (.func 75) [] [(.ptr b8 0)]))], [7], (atC Tryz.prog 74 [1, 0, 1, 0, 0]), (atC Tryz.prog 74 [1, 0, 1, 0, 1]), b14⟩), .obj b11 (.row 28 .whole [s20]), .vec 32 3 l20.length s20 (l20.flatMap enc32), .obj b8 (.row 22 .whole [sc8_0]), .vec 0 0 0 .nils []] := hH46x
      refine Run.retTo Tryz.func74 (hS46 _ rfl) (res_tmp rfl res_nil) rfl ?_
      refine Run.opG wantS_none (ex_assign rfl) rfl ?_
      refine Run.opsEnd ?_
      refine Run.retTo Tryz.func37 rfl (res_tmp rfl res_nil) rfl ?_
      refine Run.opG wantS_none (ex_assign rfl) rfl ?_
      refine Run.opG wantS_none (ex_assign rfl) rfl ?_
      refine Run.opsEnd ?_
      cases h
      exact Run.ret Tryz.func12 rfl (res_tmp rfl (res_tmp rfl res_nil)) ⟨_, rfl, (hH46.pick [2] rfl rfl).upF (none_le _)⟩

def glitch_Tiles (F : Nat) (a0 : (List Int)) : Option ((List S_api_Tile) × Int) :=
  bnd (glitch_isSignal F a0) fun r2 =>
  bif (!r2) then
    some (([] : List S_api_Tile), (60 : Int))
  else
    bnd (glitch_transform F a0) fun r17 =>
    glitch_Tiles_1 F F r17 (0 : Int) (w64 (Int.tdiv (r17.length : Int) (2 : Int))) a0 ([] : List S_api_Tile)

theorem glitch_Tiles_ok (F : Nat) (a0 : (List Int)) (s0 : SV) (r : (List S_api_Tile) × Int) (M : Mem) (hs0 : Slc (rd M) 1 (FlatR enc3) s0 a0) (h : glitch_Tiles F a0 = some r) : CallsM Tryz.prog 12 [s0] M (fun s M' => ∃ q1, s = (.tuple [q1, (.int .i64 r.2)]) ∧ New M M' [.vec 32 3 r.1.length q1 (r.1.flatMap enc32)]) := by
  refine CallsM.fresh (Q := glitch_Tiles_post r) Tryz.func12 rfl rfl ?_ (by rintro s Me ⟨q1, rfl, hx⟩ ha hw; exact ⟨_, rfl, New.of rfl hx ha hw⟩)
  rw [glitch_Tiles] at h
  replace hs0 := hs0.mono (rdLe_frozen M) (fun _ _ h => h)
  have hH := Has.nil (frozen M)
  refine Run.seq (Run.region ?_)
  refine Run.opG wantS_none (ex_assign rfl) rfl ?_
  refine Run.opG wantS_none (ex_assign rfl) rfl ?_
  refine Run.opsEnd (Run.seq (Run.seq (Run.region ?_)))
  refine Run.opG wantS_none (ex_move rfl) rfl ?_
  obtain ⟨r2, hr2, h⟩ := bnd_some h
  refine Run.callP wantS_none (ex_call rfl mkk30 cal30) rfl (glitch_isSignal_ok F a0 s0 _ _ (hH.slcF hs0) hr2) ?_
  refine Run.opG wantS_none (ex_not rfl) rfl ?_
  refine Run.opsEnd ?_
  rcases btf ((!r2)) with hc4 | hc4
  · have h := bif_t hc4 h
    refine Run.condT' rfl hc4 ?_
    refine Run.seq (Run.region ?_)
    refine Run.opG wantS_none (ex_assign rfl) rfl ?_
    refine Run.opG wantS_none (ex_assign rfl) rfl ?_
    refine Run.opsEnd ?_
    have hH6 : Has (ro (frozen M)) (frozen M) [.vec 32 3 ([] : List S_api_Tile).length .nils (([] : List S_api_Tile).flatMap enc32)] := hH.nils 32 3
    cases h
    exact Run.ret Tryz.func12 rfl (res_tmp rfl (res_tmp rfl res_nil)) ⟨_, rfl, (hH6.pick [0] rfl rfl).upF (none_le _)⟩
  · have h := bif_f hc4 h
    refine Run.condF' rfl hc4 ?_
    refine Run.skip (Run.seq (Run.region ?_))
    refine Run.opG wantS_none (ex_move rfl) rfl ?_
    refine Run.enter wantS_none (ex_call rfl mkk38 cal38) Tryz.func38 rfl rfl ?_
    refine Run.seq (Run.region ?_)
    refine Run.opX wantS_none rfl (ExG.box rfl (cells_one (slc_one hs0)) hH) ?_
    rintro _ M9 ⟨b8, rfl, (hH9 : Has (ro (frozen M)) M9 [.obj b8 (.row 22 .whole [s0])])⟩
    refine Run.opG wantS_none (ex_assign rfl) rfl ?_
    refine Run.opsEnd (Run.seq (Run.region ?_))
    refine Run.opG wantS_none (ex_makeFunc rfl rfl) rfl ?_
    refine Run.opG wantS_none (ex_assign rfl) rfl ?_
    refine Run.opsEnd ?_
    refine Run.retTo Tryz.func38 rfl (res_tmp rfl res_nil) rfl ?_
    refine Run.enter wantS_none (ex_call rfl mkk37 cal37) Tryz.func37 rfl rfl ?_
    refine Run.seq (Run.region ?_)
    refine Run.opG wantS_none (ex_assign rfl) rfl ?_
    refine Run.opsEnd (Run.seq (Run.region ?_))
    refine Run.opG wantS_none (ex_move rfl) rfl ?_
    refine Run.enter wantS_none (ex_call rfl mkk74 cal74) Tryz.func74 rfl rfl ?_
    refine Run.seq (Run.region ?_)
    refine Run.opX wantS_none rfl (ExG.box rfl rfl hH9) ?_
    rintro _ M12 ⟨b11, rfl, (hH12 : Has (ro (frozen M)) M12 [.obj b11 (.row 28 .whole [.nils]), .obj b8 (.row 22 .whole [s0])])⟩
    refine Run.opG wantS_none (ex_assign rfl) rfl ?_
    refine Run.opsEnd (Run.seq (Run.seq (Run.region ?_)))
    refine Run.opG wantS_none (ex_move rfl) rfl ?_
    refine Run.opsEnd (Run.block ?_)
    refine Run.pick [2, 4, 6] ?_
    refine Run.rangeX rfl cal75 Tryz.func75 rfl rfl hH12 ?_
    intro b14 b13 M13 (hH13 : Has (ro (frozen M)) M13 [.obj b13 (.loop ⟨.ready, none, 74, 13, treeOf [(2, (.ptr b11 0)), (4, .nils), (6, (.fn (.func 75) [] [(.ptr b8 0)]))], [7], (atC Tryz.prog 74 [1, 0, 1, 0, 0]), (atC Tryz.prog 74 [1, 0, 1, 0, 1]), b14⟩), .obj b14 .defd, .obj b11 (.row 28 .whole [.nils]), .obj b8 (.row 22 .whole [s0])])
    refine Run.seq (Run.region ?_)
    refine Run.opG wantS_none (ex_load1 rfl (hH13.cells (i := 3) rfl 0 rfl) rdLe_rfl agg22) rfl ?_
    obtain ⟨r17, hr17, h⟩ := bnd_some h
    refine Run.callX wantS_none (ex_call rfl mkk31 cal31) rfl (glitch_transform_ok F a0 s0 _ _ (hH13.slcF hs0) hr17) ?_
    rintro s17_0 M19 ⟨_, rfl, hN17⟩
    have hH19 : Has (ro (frozen M)) M19 [.vec 3 1 r17.length s17_0 (r17.flatMap enc3), .obj b13 (.loop ⟨.ready, none, 74, 13, treeOf [(2, (.ptr b11 0)), (4, .nils), (6, (.fn (.func 75) [] [(.ptr b8 0)]))], [7], (atC Tryz.prog 74 [1, 0, 1, 0, 0]), (atC Tryz.prog 74 [1, 0, 1, 0, 1]), b14⟩), .obj b14 .defd, .obj b11 (.row 28 .whole [.nils]), .obj b8 (.row 22 .whole [s0])] := hN17.1 _ _ hH13
    refine Run.opG wantS_none (ex_assign rfl) rfl ?_
    refine Run.opsEnd (Run.seq (Run.region ?_))
    refine Run.opG wantS_none (ex_assign rfl) rfl ?_
    refine Run.opsEnd (Run.seq (Run.region ?_))
    refine Run.opG wantS_none (ex_move rfl) rfl ?_
    refine Run.opG wantS_none (ex_len' rfl (hH19.slc (i := 0) rfl enc3_len) lenk22) rfl ?_
    refine Run.opG wantS_none (ex_quo rfl rfl (by decide)) rfl ?_
    refine Run.opG wantS_none (ex_assign rfl) rfl ?_
    refine Run.opsEnd (Run.block (Run.loop ?_))
    have hH21 : Has (ro (frozen M)) M19 [.vec 32 3 ([] : List S_api_Tile).length .nils (([] : List S_api_Tile).flatMap enc32), .vec 3 1 r17.length s17_0 (r17.flatMap enc3), .obj b13 (.loop ⟨.ready, none, 74, 13, treeOf [(2, (.ptr b11 0)), (4, .nils), (6, (.fn (.func 75) [] [(.ptr b8 0)]))], [7], (atC Tryz.prog 74 [1, 0, 1, 0, 0]), (atC Tryz.prog 74 [1, 0, 1, 0, 1]), b14⟩), .obj b14 .defd, .obj b11 (.row 28 .whole [.nils]), .obj b8 (.row 22 .whole [s0])] := hH19.nils 32 3
    refine Run.freeze (t := 3) (i := 1) (enc := enc3) rfl hH21 rfl enc3_len ?_
    intro F22 M22 hle22 (hH22 : Has F22 M22 [.vec 32 3 ([] : List S_api_Tile).length .nils (([] : List S_api_Tile).flatMap enc32), .vec 0 0 0 .nils [], .obj b13 (.loop ⟨.ready, none, 74, 13, treeOf [(2, (.ptr b11 0)), (4, .nils), (6, (.fn (.func 75) [] [(.ptr b8 0)]))], [7], (atC Tryz.prog 74 [1, 0, 1, 0, 0]), (atC Tryz.prog 74 [1, 0, 1, 0, 1]), b14⟩), .obj b14 .defd, .obj b11 (.row 28 .whole [.nils]), .obj b8 (.row 22 .whole [s0])]) hf22
    replace hs0 := hs0.mono hle22 (fun _ _ h => h)
    exact Run.low (.cons (fle_pick [2] rfl) (.cons (fle_pick [] rfl) (.cons (fle_pick [] rfl) .nil))) (Run.pick [0, 3, 4, 5] (glitch_Tiles_1_ok F F r17 (0 : Int) (w64 (Int.tdiv (r17.length : Int) (2 : Int))) a0 ([] : List S_api_Tile) s17_0 s0 b13 b11 .nils b8 b14 _ _ _ hf22 hs0 (hH22.pick [2, 4, 0, 5, 3] rfl rfl) h))

theorem mkk12 : makeK Tryz.prog 12 = none := by kernel_rfl
theorem cal12 : callable Tryz.prog 12 = true := by kernel_rfl
theorem lenk28 : lenK Tryz.prog 28 = some .sl := by kernel_rfl
theorem mkk10 : makeK Tryz.prog 10 = none := by kernel_rfl
theorem cal10 : callable Tryz.prog 10 = true := by kernel_rfl
abbrev glitch_Transform_post (r : (List Int) × Int) : SV → Mem → Prop := fun s Me => ∃ q1, s = (.tuple [q1, (.int .i64 r.2)]) ∧ Has (fun _ => none) Me [.vec 3 1 r.1.length q1 (r.1.flatMap enc3)]

def glitch_Transform (F : Nat) (a0 : (List Int)) : Option ((List Int) × Int) :=
  bnd (glitch_isSignal F a0) fun r2 =>
  bif (!r2) then
    some (([] : List Int), (60 : Int))
  else
    bnd (glitch_transform F a0) fun r9 =>
    some (r9, (0 : Int))

theorem glitch_Transform_ok (F : Nat) (a0 : (List Int)) (s0 : SV) (r : (List Int) × Int) (M : Mem) (hs0 : Slc (rd M) 1 (FlatR enc3) s0 a0) (h : glitch_Transform F a0 = some r) : CallsM Tryz.prog 9 [s0] M (fun s M' => ∃ q1, s = (.tuple [q1, (.int .i64 r.2)]) ∧ New M M' [.vec 3 1 r.1.length q1 (r.1.flatMap enc3)]) := by
  refine CallsM.fresh (Q := glitch_Transform_post r) Tryz.func9 rfl rfl ?_ (by rintro s Me ⟨q1, rfl, hx⟩ ha hw; exact ⟨_, rfl, New.of rfl hx ha hw⟩)
  rw [glitch_Transform] at h
  replace hs0 := hs0.mono (rdLe_frozen M) (fun _ _ h => h)
  have hH := Has.nil (frozen M)
  refine Run.seq (Run.region ?_)
  refine Run.opG wantS_none (ex_assign rfl) rfl ?_
  refine Run.opG wantS_none (ex_assign rfl) rfl ?_
  refine Run.opsEnd (Run.seq (Run.seq (Run.region ?_)))
  refine Run.opG wantS_none (ex_move rfl) rfl ?_
  obtain ⟨r2, hr2, h⟩ := bnd_some h
  refine Run.callP wantS_none (ex_call rfl mkk30 cal30) rfl (glitch_isSignal_ok F a0 s0 _ _ (hH.slcF hs0) hr2) ?_
  refine Run.opG wantS_none (ex_not rfl) rfl ?_
  refine Run.opsEnd ?_
  rcases btf ((!r2)) with hc4 | hc4
  · have h := bif_t hc4 h
    refine Run.condT' rfl hc4 ?_
    refine Run.seq (Run.region ?_)
    refine Run.opG wantS_none (ex_assign rfl) rfl ?_
    refine Run.opG wantS_none (ex_assign rfl) rfl ?_
    refine Run.opsEnd ?_
    have hH6 : Has (ro (frozen M)) (frozen M) [.vec 3 1 ([] : List Int).length .nils (([] : List Int).flatMap enc3)] := hH.nils 3 1
    cases h
    exact Run.ret Tryz.func9 rfl (res_tmp rfl (res_tmp rfl res_nil)) ⟨_, rfl, (hH6.pick [0] rfl rfl).upF (none_le _)⟩
  · have h := bif_f hc4 h
    refine Run.condF' rfl hc4 ?_
    refine Run.skip (Run.seq (Run.region ?_))
    refine Run.opG wantS_none (ex_move rfl) rfl ?_
    obtain ⟨r9, hr9, h⟩ := bnd_some h
    refine Run.callX wantS_none (ex_call rfl mkk31 cal31) rfl (glitch_transform_ok F a0 s0 _ _ (hH.slcF hs0) hr9) ?_
    rintro s9_0 M11 ⟨_, rfl, hN9⟩
    have hH11 : Has (ro (frozen M)) M11 [.vec 3 1 r9.length s9_0 (r9.flatMap enc3)] := hN9.1 _ _ hH
    refine Run.opG wantS_none (ex_assign rfl) rfl ?_
    refine Run.opG wantS_none (ex_assign rfl) rfl ?_
    refine Run.opsEnd ?_
    cases h
    exact Run.ret Tryz.func9 rfl (res_tmp rfl (res_tmp rfl res_nil)) ⟨_, rfl, (hH11.pick [0] rfl rfl).upF (none_le _)⟩

theorem mkk9 : makeK Tryz.prog 9 = none := by kernel_rfl
theorem cal9 : callable Tryz.prog 9 = true := by kernel_rfl
theorem els28 : elems Tryz.prog 28 = some (.sl 3) := by kernel_rfl
theorem agk3 : aggK Tryz.prog 3 = some .int := by kernel_rfl
theorem agk32 : aggK Tryz.prog 32 = some (.st [⟨ "Level", 3, 0, false, "", "", 0⟩, ⟨ "At", 3, 1, false, "", "", 8⟩, ⟨ "D", 3, 2, false, "", "", 16⟩]) := by kernel_rfl
theorem aeq32 : aggEq Tryz.prog 32 = false := by kernel_rfl
theorem slk28 : slK Tryz.prog 28 = some (.sl 3) := by kernel_rfl
theorem plan39_1_0_1_0_1_0_0 : planOf Tryz.prog (opsC (atC Tryz.prog 39 [1, 0, 1, 0, 1, 0, 0])) = some [.fl 0, .fl 1, .fl 2, .fl 3, .fl 4, .fl 5, .fl 6, .fl 7, .fl 8, .fl 9, .sync] := by kernel_rfl
abbrev glitch_areTilesOf_post (r : Bool) : SV → Mem → Prop := fun s _ => s = (.bool r)

def glitch_areTilesOf_3 (F : Nat) (hd2 : (List Int) → Int → Int → (List Int) → Int → Int → Bool → (List S_api_Tile) → (List Int) → Option (Bool)) (v4 : Bool) (v18 : Bool) (v3_f1 : (List Int)) (v4_f1 : Int) (v5_f1 : Int) (v23_f1 : (List Int)) (v24_f1 : Int) (v25_f1 : Int) (c2_0 : (List S_api_Tile)) (v4_g7 : Bool) (c5_0 : (List Int)) : Option (Bool) :=
  bif v18 then
    bnd (sub c2_0 (1 : Int) (c2_0.length : Int)) fun l31 =>
    hd2 v3_f1 v4_f1 v5_f1 v23_f1 v24_f1 (w64 (v25_f1 + (1 : Int))) v4_g7 l31 c5_0
  else
    hd2 v3_f1 v4_f1 v5_f1 v23_f1 v24_f1 (w64 (v25_f1 + (1 : Int))) v4_g7 c2_0 c5_0

theorem glitch_areTilesOf_3_ok (F : Nat) (hd2 : (List Int) → Int → Int → (List Int) → Int → Int → Bool → (List S_api_Tile) → (List Int) → Option (Bool)) (hhd2 : ∀ (v3 : (List Int)) (v4 : Int) (v5 : Int) (v23 : (List Int)) (v24 : Int) (v25 : Int) (v4_g7 : Bool) (c2_0 : (List S_api_Tile)) (c5_0 : (List Int)) (sv3 : SV) (sv23 : SV) (sc2_0 : SV) (sc5_0 : SV) (b7 : Pos) (b2 : Pos) (b5 : Pos) (b8 : Pos) (Fr : Rd) (M : Mem) (r : Bool) (hv3 : Slc Fr 1 (FlatR enc3) sv3 v3) (hv23 : Slc Fr 1 (FlatR enc3) sv23 v23) (hc2_0 : Slc Fr 3 (FlatR enc32) sc2_0 c2_0) (hc5_0 : Slc Fr 1 (FlatR enc3) sc5_0 c5_0) (hH : Has Fr M [.obj b7 (.loop ⟨.ready, none, 39, 24, treeOf [(3, (.ptr b2 0)), (4, (.bool v4_g7)), (7, (.fn (.func 75) [] [(.ptr b5 0)]))], [8], (atC Tryz.prog 39 [1, 0, 1, 0, 0]), (atC Tryz.prog 39 [1, 0, 1, 0, 1]), b8⟩), .obj b2 (.row 28 .whole [sc2_0]), .obj b5 (.row 22 .whole [sc5_0]), .obj b8 .defd]), hd2 v3 v4 v5 v23 v24 v25 v4_g7 c2_0 c5_0 = some r → Run Tryz.prog ⟨⟨75, [], none⟩, [.mk ⟨39, [b8], none⟩ 24 (treeOf [(3, (.ptr b2 0))]) [.inRange b7, .inBlock 0, codeC Tryz.prog 39 [1, 1]]]⟩ 38 (glitch_areTilesOf_post r) [(0, (.yield b7)), (3, sv3), (4, (.int .i64 v4)), (5, (.int .i64 v5)), (23, sv23), (24, (.int .i64 v24)), (25, (.int .i64 v25))] [codeC Tryz.prog 75 [1, 1, 1, 0, 0, 1, 0, 0, 1, 1, 0, 0], loopC Tryz.prog 75 [1, 1, 1, 0, 0, 1, 0, 0, 1, 1, 0, 0], .inBlock 2, .inBlock 1, codeC Tryz.prog 75 [1, 1, 1, 0, 0, 1, 1], loopC Tryz.prog 75 [1, 1, 1, 0, 0], .inBlock 0] M) : ∀ (v4 : Bool) (v18 : Bool) (v3_f1 : (List Int)) (v4_f1 : Int) (v5_f1 : Int) (v23_f1 : (List Int)) (v24_f1 : Int) (v25_f1 : Int) (c2_0 : (List S_api_Tile)) (v4_g7 : Bool) (c5_0 : (List Int)) (sv3_f1 : SV) (sv23_f1 : SV) (sc2_0 : SV) (sc5_0 : SV) (b2 : Pos) (b7 : Pos) (b5 : Pos) (b8 : Pos) (Fr : Rd) (M : Mem) (r : Bool) (hv3_f1 : Slc Fr 1 (FlatR enc3) sv3_f1 v3_f1) (hv23_f1 : Slc Fr 1 (FlatR enc3) sv23_f1 v23_f1) (hc2_0 : Slc Fr 3 (FlatR enc32) sc2_0 c2_0) (hc5_0 : Slc Fr 1 (FlatR enc3) sc5_0 c5_0) (hH : Has Fr M [.obj b2 (.row 28 .whole [sc2_0]), .obj b7 (.loop ⟨.busy, none, 39, 24, treeOf [(3, (.ptr b2 0)), (4, (.bool v4_g7)), (7, (.fn (.func 75) [] [(.ptr b5 0)]))], [8], (atC Tryz.prog 39 [1, 0, 1, 0, 0]), (atC Tryz.prog 39 [1, 0, 1, 0, 1]), b8⟩), .obj b5 (.row 22 .whole [sc5_0]), .obj b8 .defd]), glitch_areTilesOf_3 F hd2 v4 v18 v3_f1 v4_f1 v5_f1 v23_f1 v24_f1 v25_f1 c2_0 v4_g7 c5_0 = some r → Run Tryz.prog ⟨⟨39, [], some b7⟩, [.mk ⟨75, [], none⟩ 38 (treeOf [(0, (.yield b7)), (3, sv3_f1), (4, (.int .i64 v4_f1)), (5, (.int .i64 v5_f1)), (23, sv23_f1), (24, (.int .i64 v24_f1)), (25, (.int .i64 v25_f1))]) [itemC Tryz.prog 75 [1, 1, 1, 0, 0, 1, 0, 0, 1, 1, 0, 0, 1, 1, 0, 0, 1, 0] 5, codeC Tryz.prog 75 [1, 1, 1, 0, 0, 1, 0, 0, 1, 1, 0, 0, 1, 1, 0, 0, 1, 1], .inBlock 3, codeC Tryz.prog 75 [1, 1, 1, 0, 0, 1, 0, 0, 1, 1, 0, 0, 1, 1, 1], loopC Tryz.prog 75 [1, 1, 1, 0, 0, 1, 0, 0, 1, 1, 0, 0], .inBlock 2, .inBlock 1, codeC Tryz.prog 75 [1, 1, 1, 0, 0, 1, 1], loopC Tryz.prog 75 [1, 1, 1, 0, 0], .inBlock 0], .mk ⟨39, [b8], none⟩ 24 (treeOf [(3, (.ptr b2 0))]) [.inRange b7, .inBlock 0, codeC Tryz.prog 39 [1, 1]]]⟩ 24 (glitch_areTilesOf_post r) [(3, (.ptr b2 0)), (4, (.bool v4)), (18, (.bool v18))] [codeC Tryz.prog 39 [1, 0, 1, 0, 1, 0, 1], .inBlock 1] M := by
  intro v4 v18 v3_f1 v4_f1 v5_f1 v23_f1 v24_f1 v25_f1 c2_0 v4_g7 c5_0 sv3_f1 sv23_f1 sc2_0 sc5_0 b2 b7 b5 b8 Fr M r hv3_f1 hv23_f1 hc2_0 hc5_0 hH h
  rw [glitch_areTilesOf_3] at h
  rcases btf (v18) with hc29 | hc29
  · have h := bif_t hc29 h
    refine Run.condT' rfl hc29 ?_
    refine Run.region ?_
    refine Run.opG wantS_none (ex_load1 rfl (hH.cells (i := 0) rfl 0 rfl) rdLe_rfl agg28) rfl ?_
    obtain ⟨l31, hl31, h⟩ := bnd_some h
    obtain ⟨s31, hx31, hs31⟩ := sl_subL (P := Tryz.prog) (t := 28) (k0 := .i64) hc2_0 hl31 slk28
    refine Run.opG wantS_none (ex_slX rfl (argO_some rfl) (argO_none) hx31) rfl ?_
    refine Run.opX wantS_none rfl (ExG.storeC (c' := [s31]) rfl rfl (cells_one (slc_one hs31)) hH (i := 0) rfl sz28 rfl rfl rfl (ones_cons (slc_one hs31) ones_nil) rfl) ?_
    rintro _ M32 ⟨rfl, (hH32 : Has Fr M32 [.obj b2 (.row 28 .whole [s31]), .obj b7 (.loop ⟨.busy, none, 39, 24, treeOf [(3, (.ptr b2 0)), (4, (.bool v4_g7)), (7, (.fn (.func 75) [] [(.ptr b5 0)]))], [8], (atC Tryz.prog 39 [1, 0, 1, 0, 0]), (atC Tryz.prog 39 [1, 0, 1, 0, 1]), b8⟩), .obj b5 (.row 22 .whole [sc5_0]), .obj b8 .defd])⟩
    refine Run.opsEnd (Run.inBlock ?_)
    refine Run.roundEndX hH32 (i := 1) rfl rfl ?_
    intro M33 (hH33 : Has Fr M33 [.obj b2 (.row 28 .whole [s31]), .obj b7 (.loop ⟨.ready, none, 39, 24, treeOf [(3, (.ptr b2 0)), (4, (.bool v4_g7)), (7, (.fn (.func 75) [] [(.ptr b5 0)]))], [8], (atC Tryz.prog 39 [1, 0, 1, 0, 0]), (atC Tryz.prog 39 [1, 0, 1, 0, 1]), b8⟩), .obj b5 (.row 22 .whole [sc5_0]), .obj b8 .defd])
    refine Run.opG wantS_none (ex_not rfl) rfl ?_
    refine Run.opsEnd ?_
    refine Run.condF' rfl (bnot_f rfl) ?_
    refine Run.skip (Run.inBlock (Run.region ?_))
    refine Run.opG wantS_none (ex_add rfl rfl) rfl ?_
    refine Run.opG wantS_none (ex_move rfl) rfl ?_
    refine Run.opsEnd (Run.inLoop ?_)
    exact Run.low (.cons (fle_pick [3] rfl) .nil) (Run.pick [0, 3, 4, 5, 23, 24, 25] (hhd2 v3_f1 v4_f1 v5_f1 v23_f1 v24_f1 (w64 (v25_f1 + (1 : Int))) v4_g7 l31 c5_0 sv3_f1 sv23_f1 s31 sc5_0 b7 b2 b5 b8 _ _ _ hv3_f1 hv23_f1 hs31 hc5_0 (hH33.pick [1, 0, 2, 3] rfl rfl) h))
  · have h := bif_f hc29 h
    refine Run.condF' rfl hc29 ?_
    refine Run.skip (Run.inBlock ?_)
    refine Run.roundEndX hH (i := 1) rfl rfl ?_
    intro M34 (hH34 : Has Fr M34 [.obj b2 (.row 28 .whole [sc2_0]), .obj b7 (.loop ⟨.ready, none, 39, 24, treeOf [(3, (.ptr b2 0)), (4, (.bool v4_g7)), (7, (.fn (.func 75) [] [(.ptr b5 0)]))], [8], (atC Tryz.prog 39 [1, 0, 1, 0, 0]), (atC Tryz.prog 39 [1, 0, 1, 0, 1]), b8⟩), .obj b5 (.row 22 .whole [sc5_0]), .obj b8 .defd])
    refine Run.opG wantS_none (ex_not rfl) rfl ?_
    refine Run.opsEnd ?_
    refine Run.condF' rfl (bnot_f rfl) ?_
    refine Run.skip (Run.inBlock (Run.region ?_))
    refine Run.opG wantS_none (ex_add rfl rfl) rfl ?_
    refine Run.opG wantS_none (ex_move rfl) rfl ?_
    refine Run.opsEnd (Run.inLoop ?_)
    exact Run.low (.cons (fle_pick [3] rfl) .nil) (Run.pick [0, 3, 4, 5, 23, 24, 25] (hhd2 v3_f1 v4_f1 v5_f1 v23_f1 v24_f1 (w64 (v25_f1 + (1 : Int))) v4_g7 c2_0 c5_0 sv3_f1 sv23_f1 sc2_0 sc5_0 b7 b2 b5 b8 _ _ _ hv3_f1 hv23_f1 hc2_0 hc5_0 (hH34.pick [1, 0, 2, 3] rfl rfl) h))

def glitch_areTilesOf_2 (F : Nat) (hd1 : (List Int) → Int → Int → Bool → (List S_api_Tile) → (List Int) → Option (Bool)) : Nat → (List Int) → Int → Int → (List Int) → Int → Int → Bool → (List S_api_Tile) → (List Int) → Option (Bool)
  | 0, _, _, _, _, _, _, _, _, _ => none
  | N + 1, v3, v4, v5, v23, v24, v25, v4_g7, c2_0, c5_0 =>
    bif (decide (v25 < v24)) then
      bnd (idx v23 v25) fun x21 =>
      bif (decide ((0 : Int) < (c2_0.length : Int))) then
        bnd (idx c2_0 (0 : Int)) fun x28 =>
        glitch_areTilesOf_3 F (glitch_areTilesOf_2 F hd1 N) v4_g7 ((x28.Level == v4) && ((x28.At == v25) && ((x28.D == x21) && true))) v3 v4 v5 v23 v24 v25 c2_0 v4_g7 c5_0
      else
        glitch_areTilesOf_3 F (glitch_areTilesOf_2 F hd1 N) v4_g7 false v3 v4 v5 v23 v24 v25 c2_0 v4_g7 c5_0
    else
      hd1 v3 v4 (w64 (Int.tdiv v5 (2 : Int))) v4_g7 c2_0 c5_0

theorem glitch_areTilesOf_2_ok (F : Nat) (hd1 : (List Int) → Int → Int → Bool → (List S_api_Tile) → (List Int) → Option (Bool)) (hhd1 : ∀ (v3 : (List Int)) (v4 : Int) (v5 : Int) (v4_g7 : Bool) (c2_0 : (List S_api_Tile)) (c5_0 : (List Int)) (sv3 : SV) (sc2_0 : SV) (sc5_0 : SV) (b7 : Pos) (b2 : Pos) (b5 : Pos) (b8 : Pos) (Fr : Rd) (M : Mem) (r : Bool) (hv3 : Slc Fr 1 (FlatR enc3) sv3 v3) (hc2_0 : Slc Fr 3 (FlatR enc32) sc2_0 c2_0) (hc5_0 : Slc Fr 1 (FlatR enc3) sc5_0 c5_0) (hH : Has Fr M [.obj b7 (.loop ⟨.ready, none, 39, 24, treeOf [(3, (.ptr b2 0)), (4, (.bool v4_g7)), (7, (.fn (.func 75) [] [(.ptr b5 0)]))], [8], (atC Tryz.prog 39 [1, 0, 1, 0, 0]), (atC Tryz.prog 39 [1, 0, 1, 0, 1]), b8⟩), .obj b2 (.row 28 .whole [sc2_0]), .obj b5 (.row 22 .whole [sc5_0]), .obj b8 .defd]), hd1 v3 v4 v5 v4_g7 c2_0 c5_0 = some r → Run Tryz.prog ⟨⟨75, [], none⟩, [.mk ⟨39, [b8], none⟩ 24 (treeOf [(3, (.ptr b2 0))]) [.inRange b7, .inBlock 0, codeC Tryz.prog 39 [1, 1]]]⟩ 38 (glitch_areTilesOf_post r) [(0, (.yield b7)), (3, sv3), (4, (.int .i64 v4)), (5, (.int .i64 v5))] [codeC Tryz.prog 75 [1, 1, 1, 0, 0], loopC Tryz.prog 75 [1, 1, 1, 0, 0], .inBlock 0] M) : ∀ (N : Nat), ∀ (v3 : (List Int)) (v4 : Int) (v5 : Int) (v23 : (List Int)) (v24 : Int) (v25 : Int) (v4_g7 : Bool) (c2_0 : (List S_api_Tile)) (c5_0 : (List Int)) (sv3 : SV) (sv23 : SV) (sc2_0 : SV) (sc5_0 : SV) (b7 : Pos) (b2 : Pos) (b5 : Pos) (b8 : Pos) (Fr : Rd) (M : Mem) (r : Bool) (hv3 : Slc Fr 1 (FlatR enc3) sv3 v3) (hv23 : Slc Fr 1 (FlatR enc3) sv23 v23) (hc2_0 : Slc Fr 3 (FlatR enc32) sc2_0 c2_0) (hc5_0 : Slc Fr 1 (FlatR enc3) sc5_0 c5_0) (hH : Has Fr M [.obj b7 (.loop ⟨.ready, none, 39, 24, treeOf [(3, (.ptr b2 0)), (4, (.bool v4_g7)), (7, (.fn (.func 75) [] [(.ptr b5 0)]))], [8], (atC Tryz.prog 39 [1, 0, 1, 0, 0]), (atC Tryz.prog 39 [1, 0, 1, 0, 1]), b8⟩), .obj b2 (.row 28 .whole [sc2_0]), .obj b5 (.row 22 .whole [sc5_0]), .obj b8 .defd]), glitch_areTilesOf_2 F hd1 N v3 v4 v5 v23 v24 v25 v4_g7 c2_0 c5_0 = some r → Run Tryz.prog ⟨⟨75, [], none⟩, [.mk ⟨39, [b8], none⟩ 24 (treeOf [(3, (.ptr b2 0))]) [.inRange b7, .inBlock 0, codeC Tryz.prog 39 [1, 1]]]⟩ 38 (glitch_areTilesOf_post r) [(0, (.yield b7)), (3, sv3), (4, (.int .i64 v4)), (5, (.int .i64 v5)), (23, sv23), (24, (.int .i64 v24)), (25, (.int .i64 v25))] [codeC Tryz.prog 75 [1, 1, 1, 0, 0, 1, 0, 0, 1, 1, 0, 0], loopC Tryz.prog 75 [1, 1, 1, 0, 0, 1, 0, 0, 1, 1, 0, 0], .inBlock 2, .inBlock 1, codeC Tryz.prog 75 [1, 1, 1, 0, 0, 1, 1], loopC Tryz.prog 75 [1, 1, 1, 0, 0], .inBlock 0] M := by
  intro N
  induction N with
  | zero =>
    intro v3 v4 v5 v23 v24 v25 v4_g7 c2_0 c5_0 sv3 sv23 sc2_0 sc5_0 b7 b2 b5 b8 Fr M r hv3 hv23 hc2_0 hc5_0 hH h
    simp [glitch_areTilesOf_2] at h
  | succ N ih =>
    intro v3 v4 v5 v23 v24 v25 v4_g7 c2_0 c5_0 sv3 sv23 sc2_0 sc5_0 b7 b2 b5 b8 Fr M r hv3 hv23 hc2_0 hc5_0 hH h
    rw [glitch_areTilesOf_2] at h
    refine Run.seq (Run.region ?_)
    refine Run.opG wantS_none (ex_lss rfl rfl) rfl ?_
    refine Run.opsEnd (Run.seq ?_)
    rcases btf ((decide (v25 < v24))) with hc19 | hc19
    · have h := bif_t hc19 h
      refine Run.condT' rfl hc19 ?_
      refine Run.skip (Run.seq (Run.block (Run.seq (Run.region ?_))))
      refine Run.opG wantS_none (ex_move rfl) rfl ?_
      obtain ⟨x21, hx21, h⟩ := bnd_some h
      obtain ⟨p21, o21, _, hx21, hp21, rfl⟩ := sl_elem (P := Tryz.prog) (t := 22) (kk := .i64) hv23 hx21 els22
      refine Run.opG wantS_none (ex_elX rfl rfl hx21) rfl ?_
      refine Run.opG wantS_none (ex_load1 rfl (hH.ptrF hp21) rdLe_rfl agg3) rfl ?_
      refine Run.opG wantS_none (ex_assign rfl) rfl ?_
      refine Run.opG wantS_none (ex_assign rfl) rfl ?_
      refine Run.opsEnd (Run.seq (Run.region ?_))
      refine Run.opG wantS_none (ex_move rfl) rfl ?_
      refine Run.opG wantS_none (ex_move rfl) rfl ?_
      refine Run.opG wantS_none (ex_move rfl) rfl ?_
      refine Run.opG wantS_none (ex_move rfl) rfl ?_
      refine Run.opG wantS_none (ex_build (r := [(.int .i64 v4), (.int .i64 v25), (.int .i64 x21)]) rfl zer32 pls32 rfl) rfl ?_
      refine Run.round (e' := [(8, (.agg [(.int .i64 v4), (.int .i64 v25), (.int .i64 x21)])), (3, (.ptr b2 0)), (4, (.bool v4_g7)), (7, (.fn (.func 75) [] [(.ptr b5 0)]))]) wantS_none (ex_yield hH (i := 0) rfl rfl rfl rfl) (hH.loopOf (i := 0) rfl) rfl ?_
      refine Run.region ?_
      refine Run.opX wantS_none rfl (ExG.new (v := fun b => .ptr b 0) (ex_alloc zer32) hH) ?_
      rintro _ M24 ⟨b23, rfl, (hH24 : Has Fr M24 [.obj b23 (.row 32 .whole [(.int .i64 0), (.int .i64 0), (.int .i64 0)]), .obj b7 (.loop ⟨.ready, none, 39, 24, treeOf [(3, (.ptr b2 0)), (4, (.bool v4_g7)), (7, (.fn (.func 75) [] [(.ptr b5 0)]))], [8], (atC Tryz.prog 39 [1, 0, 1, 0, 0]), (atC Tryz.prog 39 [1, 0, 1, 0, 1]), b8⟩), .obj b2 (.row 28 .whole [sc2_0]), .obj b5 (.row 22 .whole [sc5_0]), .obj b8 .defd])⟩
      refine Run.opX wantS_none rfl (ExG.storeC (c' := [(.int .i64 v4), (.int .i64 v25), (.int .i64 x21)]) rfl rfl rfl hH24 (i := 0) rfl sz32 rfl rfl rfl rfl rfl) ?_
      rintro _ M25 ⟨rfl, (hH25 : Has Fr M25 [.obj b23 (.row 32 .whole [(.int .i64 v4), (.int .i64 v25), (.int .i64 x21)]), .obj b7 (.loop ⟨.ready, none, 39, 24, treeOf [(3, (.ptr b2 0)), (4, (.bool v4_g7)), (7, (.fn (.func 75) [] [(.ptr b5 0)]))], [8], (atC Tryz.prog 39 [1, 0, 1, 0, 0]), (atC Tryz.prog 39 [1, 0, 1, 0, 1]), b8⟩), .obj b2 (.row 28 .whole [sc2_0]), .obj b5 (.row 22 .whole [sc5_0]), .obj b8 .defd])⟩
      refine Run.opsEnd ?_
      refine Run.beginX hH25 (i := 1) rfl rfl ?_
      intro M26 (hH26 : Has Fr M26 [.obj b23 (.row 32 .whole [(.int .i64 v4), (.int .i64 v25), (.int .i64 x21)]), .obj b7 (.loop ⟨.busy, none, 39, 24, treeOf [(3, (.ptr b2 0)), (4, (.bool v4_g7)), (7, (.fn (.func 75) [] [(.ptr b5 0)]))], [8], (atC Tryz.prog 39 [1, 0, 1, 0, 0]), (atC Tryz.prog 39 [1, 0, 1, 0, 1]), b8⟩), .obj b2 (.row 28 .whole [sc2_0]), .obj b5 (.row 22 .whole [sc5_0]), .obj b8 .defd])
      refine Run.block (Run.seq ?_)
      refine Run.drawG plan39_1_0_1_0_1_0_0 ?_
      refine DrawG.fl rfl (ev_ex wantS_none (ex_load1 rfl (hH26.cells (i := 2) rfl 0 rfl) rdLe_rfl agg28)) rfl ?_
      refine DrawG.fl rfl (ev_ex wantS_none (ex_len' rfl hc2_0 lenk28)) rfl ?_
      refine DrawG.fl rfl (ev_ex wantS_none (ex_gtr rfl rfl)) rfl ?_
      refine DrawG.fl rfl (ev_ex wantS_none (ex_move rfl)) rfl ?_
      rcases btf ((decide ((0 : Int) < (c2_0.length : Int)))) with hc27 | hc27
      · have h := bif_t hc27 h
        refine DrawG.fl rfl (ev_ex (wantS_yes' rfl rfl hc27) (ex_load1 rfl (hH26.cells (i := 2) rfl 0 rfl) rdLe_rfl agg28)) rfl ?_
        obtain ⟨x28, hx28, h⟩ := bnd_some h
        obtain ⟨p28, o28, _, hx28, hp28, rfl⟩ := sl_elem (P := Tryz.prog) (t := 28) (kk := .i64) hc2_0 hx28 els28
        refine DrawG.fl rfl (ev_ex (wantS_yes' rfl rfl hc27) (ex_elX rfl rfl hx28)) rfl ?_
        refine DrawG.fl rfl (ev_ex (wantS_yes' rfl rfl hc27) (ex_loadA rfl (hH26.ptrF hp28) rdLe_rfl agg32 rfl rfl rfl)) rfl ?_
        refine DrawG.fl rfl (ev_ex (wantS_yes' rfl rfl hc27) (ex_loadA rfl (hH26.cells (i := 0) rfl 0 rfl) rdLe_rfl agg32 rfl rfl rfl)) rfl ?_
        refine DrawG.fl rfl (ev_ex (wantS_yes' rfl rfl hc27) (ex_eqlA rfl rfl aeq32 (eqA_st agk32 (eqFs_cons (by decide) (part_one agg3 rfl) (part_one agg3 rfl) (eqA_int agk3) (eqFs_cons (by decide) (part_one agg3 rfl) (part_one agg3 rfl) (eqA_int agk3) (eqFs_cons (by decide) (part_one agg3 rfl) (part_one agg3 rfl) (eqA_int agk3) eqFs_nil)))))) rfl ?_
        refine DrawG.fl rfl (ev_ex wantS_none (ex_pickT' rfl hc27 rfl rfl)) rfl ?_
        refine DrawG.sync ?_
        refine DrawG.nil ?_
        exact Run.low (.cons (fle_pick [0, 3, 4, 5, 23, 24, 25] rfl) (.cons (fle_pick [3] rfl) .nil)) (Run.pick [3, 4, 18] (glitch_areTilesOf_3_ok F (glitch_areTilesOf_2 F hd1 N) ih v4_g7 ((x28.Level == v4) && ((x28.At == v25) && ((x28.D == x21) && true))) v3 v4 v5 v23 v24 v25 c2_0 v4_g7 c5_0 sv3 sv23 sc2_0 sc5_0 b2 b7 b5 b8 _ _ _ hv3 hv23 hc2_0 hc5_0 (hH26.pick [2, 1, 3, 4] rfl rfl) h))
      · have h := bif_f hc27 h
        refine DrawG.fl rfl (ev_no (wantS_not' rfl rfl hc27)) rfl ?_
        refine DrawG.fl rfl (ev_no (wantS_not' rfl rfl hc27)) rfl ?_
        refine DrawG.fl rfl (ev_no (wantS_not' rfl rfl hc27)) rfl ?_
        refine DrawG.fl rfl (ev_no (wantS_not' rfl rfl hc27)) rfl ?_
        refine DrawG.fl rfl (ev_no (wantS_not' rfl rfl hc27)) rfl ?_
        refine DrawG.fl rfl (ev_ex wantS_none (ex_pickF' rfl hc27 rfl rfl)) rfl ?_
        refine DrawG.sync ?_
        refine DrawG.nil ?_
        exact Run.low (.cons (fle_pick [0, 3, 4, 5, 23, 24, 25] rfl) (.cons (fle_pick [3] rfl) .nil)) (Run.pick [3, 4, 18] (glitch_areTilesOf_3_ok F (glitch_areTilesOf_2 F hd1 N) ih v4_g7 false v3 v4 v5 v23 v24 v25 c2_0 v4_g7 c5_0 sv3 sv23 sc2_0 sc5_0 b2 b7 b5 b8 _ _ _ hv3 hv23 hc2_0 hc5_0 (hH26.pick [2, 1, 3, 4] rfl rfl) h))
    · have h := bif_f hc19 h
      refine Run.condF' rfl hc19 ?_
      refine Run.exit rfl (Run.inBlock (Run.region ?_))
      refine Run.opG wantS_none (ex_move rfl) rfl ?_
      refine Run.opG wantS_none (ex_quo rfl rfl (by decide)) rfl ?_
      refine Run.opG wantS_none (ex_assign rfl) rfl ?_
      refine Run.opsEnd (Run.inLoop ?_)
      exact Run.low (.cons (fle_pick [3] rfl) .nil) (Run.pick [0, 3, 4, 5] (hhd1 v3 v4 (w64 (Int.tdiv v5 (2 : Int))) v4_g7 c2_0 c5_0 sv3 sc2_0 sc5_0 b7 b2 b5 b8 _ _ _ hv3 hc2_0 hc5_0 hH h))

def glitch_areTilesOf_1 (F : Nat) : Nat → (List Int) → Int → Int → Bool → (List S_api_Tile) → (List Int) → Option (Bool)
  | 0, _, _, _, _, _, _ => none
  | N + 1, v3, v4, v5, v4_g7, c2_0, c5_0 =>
    bif (decide ((0 : Int) < v5)) then
      bnd (sub v3 v5 (w64 ((2 : Int) * v5))) fun l18 =>
      glitch_areTilesOf_2 F (glitch_areTilesOf_1 F N) F v3 (w64 (v4 + (1 : Int))) v5 l18 (l18.length : Int) (0 : Int) v4_g7 c2_0 c5_0
    else
      some ((c2_0.length : Int) == (0 : Int))

theorem glitch_areTilesOf_1_ok (F : Nat) : ∀ (N : Nat), ∀ (v3 : (List Int)) (v4 : Int) (v5 : Int) (v4_g7 : Bool) (c2_0 : (List S_api_Tile)) (c5_0 : (List Int)) (sv3 : SV) (sc2_0 : SV) (sc5_0 : SV) (b7 : Pos) (b2 : Pos) (b5 : Pos) (b8 : Pos) (Fr : Rd) (M : Mem) (r : Bool) (hv3 : Slc Fr 1 (FlatR enc3) sv3 v3) (hc2_0 : Slc Fr 3 (FlatR enc32) sc2_0 c2_0) (hc5_0 : Slc Fr 1 (FlatR enc3) sc5_0 c5_0) (hH : Has Fr M [.obj b7 (.loop ⟨.ready, none, 39, 24, treeOf [(3, (.ptr b2 0)), (4, (.bool v4_g7)), (7, (.fn (.func 75) [] [(.ptr b5 0)]))], [8], (atC Tryz.prog 39 [1, 0, 1, 0, 0]), (atC Tryz.prog 39 [1, 0, 1, 0, 1]), b8⟩), .obj b2 (.row 28 .whole [sc2_0]), .obj b5 (.row 22 .whole [sc5_0]), .obj b8 .defd]), glitch_areTilesOf_1 F N v3 v4 v5 v4_g7 c2_0 c5_0 = some r → Run Tryz.prog ⟨⟨75, [], none⟩, [.mk ⟨39, [b8], none⟩ 24 (treeOf [(3, (.ptr b2 0))]) [.inRange b7, .inBlock 0, codeC Tryz.prog 39 [1, 1]]]⟩ 38 (glitch_areTilesOf_post r) [(0, (.yield b7)), (3, sv3), (4, (.int .i64 v4)), (5, (.int .i64 v5))] [codeC Tryz.prog 75 [1, 1, 1, 0, 0], loopC Tryz.prog 75 [1, 1, 1, 0, 0], .inBlock 0] M := by
  intro N
  induction N with
  | zero =>
    intro v3 v4 v5 v4_g7 c2_0 c5_0 sv3 sc2_0 sc5_0 b7 b2 b5 b8 Fr M r hv3 hc2_0 hc5_0 hH h
    simp [glitch_areTilesOf_1] at h
  | succ N ih =>
    intro v3 v4 v5 v4_g7 c2_0 c5_0 sv3 sc2_0 sc5_0 b7 b2 b5 b8 Fr M r hv3 hc2_0 hc5_0 hH h
    rw [glitch_areTilesOf_1] at h
    refine Run.seq (Run.seq (Run.region ?_))
    refine Run.opG wantS_none (ex_move rfl) rfl ?_
    refine Run.opG wantS_none (ex_gtr rfl rfl) rfl ?_
    refine Run.opsEnd ?_
    rcases btf ((decide ((0 : Int) < v5))) with hc16 | hc16
    · have h := bif_t hc16 h
      refine Run.condT' rfl hc16 ?_
      refine Run.skip (Run.seq (Run.block (Run.seq (Run.region ?_))))
      refine Run.opG wantS_none (ex_move rfl) rfl ?_
      refine Run.opG wantS_none (ex_add rfl rfl) rfl ?_
      refine Run.opG wantS_none (ex_assign rfl) rfl ?_
      refine Run.opsEnd (Run.seq (Run.region ?_))
      refine Run.opG wantS_none (ex_move rfl) rfl ?_
      refine Run.opG wantS_none (ex_move rfl) rfl ?_
      refine Run.opG wantS_none (ex_move rfl) rfl ?_
      refine Run.opG wantS_none (ex_mul rfl rfl) rfl ?_
      obtain ⟨l18, hl18, h⟩ := bnd_some h
      obtain ⟨s18, hx18, hs18⟩ := sl_subB (P := Tryz.prog) (t := 22) (k0 := .i64) (k1 := .i64) hv3 hl18 slk22
      refine Run.opG wantS_none (ex_slX rfl (argO_some rfl) (argO_some rfl) hx18) rfl ?_
      refine Run.opG wantS_none (ex_len' rfl hs18 lenk22) rfl ?_
      refine Run.opG wantS_none (ex_move rfl) rfl ?_
      refine Run.opsEnd (Run.block (Run.loop ?_))
      exact Run.low (.cons (fle_pick [3] rfl) .nil) (Run.pick [0, 3, 4, 5, 23, 24, 25] (glitch_areTilesOf_2_ok F (glitch_areTilesOf_1 F N) ih F v3 (w64 (v4 + (1 : Int))) v5 l18 (l18.length : Int) (0 : Int) v4_g7 c2_0 c5_0 sv3 s18 sc2_0 sc5_0 b7 b2 b5 b8 _ _ _ hv3 hs18 hc2_0 hc5_0 hH h))
    · have h := bif_f hc16 h
      refine Run.condF' rfl hc16 ?_
      refine Run.exit rfl ?_
      refine Run.fallRange Tryz.func75 rfl res_nil ?_
      refine Run.endX hH (i := 0) rfl (fun hc => by cases hc) ?_
      intro M35 (hH35 : Has Fr M35 [.obj b7 (.loop ⟨.exhausted, none, 39, 24, treeOf [(3, (.ptr b2 0)), (4, (.bool v4_g7)), (7, (.fn (.func 75) [] [(.ptr b5 0)]))], [8], (atC Tryz.prog 39 [1, 0, 1, 0, 0]), (atC Tryz.prog 39 [1, 0, 1, 0, 1]), b8⟩), .obj b2 (.row 28 .whole [sc2_0]), .obj b5 (.row 22 .whole [sc5_0]), .obj b8 .defd])
      refine Run.inBlock (Run.seq (Run.region ?_))
      refine Run.opG wantS_none (ex_load1 rfl (hH35.cells (i := 1) rfl 0 rfl) rdLe_rfl agg28) rfl ?_
      refine Run.opG wantS_none (ex_len' rfl hc2_0 lenk28) rfl ?_
      refine Run.opG wantS_none (ex_eql rfl rfl) rfl ?_
      refine Run.opG wantS_none (ex_assign rfl) rfl ?_
      refine Run.opsEnd ?_
      obtain ⟨hH36x, hS36⟩ := hH35.shut (i := 3) (ds := []) rfl
      have hH36 : Has Fr (setT M35 b8 none) [.obj b7 (.loop ⟨.exhausted, none, 39, 24, treeOf [(3, (.ptr b2 0)), (4, (.bool v4_g7)), (7, (.fn (.func 75) [] [(.ptr b5 0)]))], [8], (atC Tryz.prog 39 [1, 0, 1, 0, 0]), (atC Tryz.prog 39 [1, 0, 1, 0, 1]), b8⟩), .obj b2 (.row 28 .whole [sc2_0]), .obj b5 (.row 22 .whole [sc5_0]), .vec 0 0 0 .nils []] := hH36x
      cases h
      exact Run.ret Tryz.func39 (hS36 _ rfl) (res_tmp rfl res_nil) rfl

def glitch_areTilesOf (F : Nat) (a0 : (List Int)) (a1 : (List S_api_Tile)) : Option (Bool) :=
  bnd (glitch_transform F a0) fun r11 =>
  glitch_areTilesOf_1 F F r11 (0 : Int) (w64 (Int.tdiv (r11.length : Int) (2 : Int))) false a1 a0

theorem glitch_areTilesOf_ok (F : Nat) (a0 : (List Int)) (a1 : (List S_api_Tile)) (s0 s1 : SV) (r : Bool) (M : Mem) (hs0 : Slc (rd M) 1 (FlatR enc3) s0 a0) (hs1 : Slc (rd M) 3 (FlatR enc32) s1 a1) (h : glitch_areTilesOf F a0 a1 = some r) : CallsM Tryz.prog 39 [s0, s1] M (fun s M' => s = (.bool r) ∧ M' = M) := by
  refine CallsM.plain Tryz.func39 rfl rfl rfl (show Run _ _ _ (glitch_areTilesOf_post r) _ _ _ from ?_)
  rw [glitch_areTilesOf] at h
  replace hs0 := hs0.mono (rdLe_frozen M) (fun _ _ h => h)
  replace hs1 := hs1.mono (rdLe_frozen M) (fun _ _ h => h)
  have hH := Has.nil (frozen M)
  refine Run.seq (Run.region ?_)
  refine Run.opX wantS_none rfl (ExG.box rfl (cells_one (slc_one hs1)) hH) ?_
  rintro _ M3 ⟨b2, rfl, (hH3 : Has (ro (frozen M)) M3 [.obj b2 (.row 28 .whole [s1])])⟩
  refine Run.opG wantS_none (ex_assign rfl) rfl ?_
  refine Run.opsEnd (Run.seq (Run.seq (Run.region ?_)))
  refine Run.opG wantS_none (ex_move rfl) rfl ?_
  refine Run.enter wantS_none (ex_call rfl mkk38 cal38) Tryz.func38 rfl rfl ?_
  refine Run.seq (Run.region ?_)
  refine Run.opX wantS_none rfl (ExG.box rfl (cells_one (slc_one hs0)) hH3) ?_
  rintro _ M6 ⟨b5, rfl, (hH6 : Has (ro (frozen M)) M6 [.obj b5 (.row 22 .whole [s0]), .obj b2 (.row 28 .whole [s1])])⟩
  refine Run.opG wantS_none (ex_assign rfl) rfl ?_
  refine Run.opsEnd (Run.seq (Run.region ?_))
  refine Run.opG wantS_none (ex_makeFunc rfl rfl) rfl ?_
  refine Run.opG wantS_none (ex_assign rfl) rfl ?_
  refine Run.opsEnd ?_
  refine Run.retTo Tryz.func38 rfl (res_tmp rfl res_nil) rfl ?_
  refine Run.opsEnd (Run.block ?_)
  refine Run.pick [3, 4, 7] ?_
  refine Run.rangeX rfl cal75 Tryz.func75 rfl rfl hH6 ?_
  intro b8 b7 M7 (hH7 : Has (ro (frozen M)) M7 [.obj b7 (.loop ⟨.ready, none, 39, 24, treeOf [(3, (.ptr b2 0)), (4, (.bool false)), (7, (.fn (.func 75) [] [(.ptr b5 0)]))], [8], (atC Tryz.prog 39 [1, 0, 1, 0, 0]), (atC Tryz.prog 39 [1, 0, 1, 0, 1]), b8⟩), .obj b8 .defd, .obj b5 (.row 22 .whole [s0]), .obj b2 (.row 28 .whole [s1])])
  refine Run.seq (Run.region ?_)
  refine Run.opG wantS_none (ex_load1 rfl (hH7.cells (i := 2) rfl 0 rfl) rdLe_rfl agg22) rfl ?_
  obtain ⟨r11, hr11, h⟩ := bnd_some h
  refine Run.callX wantS_none (ex_call rfl mkk31 cal31) rfl (glitch_transform_ok F a0 s0 _ _ (hH7.slcF hs0) hr11) ?_
  rintro s11_0 M13 ⟨_, rfl, hN11⟩
  have hH13 : Has (ro (frozen M)) M13 [.vec 3 1 r11.length s11_0 (r11.flatMap enc3), .obj b7 (.loop ⟨.ready, none, 39, 24, treeOf [(3, (.ptr b2 0)), (4, (.bool false)), (7, (.fn (.func 75) [] [(.ptr b5 0)]))], [8], (atC Tryz.prog 39 [1, 0, 1, 0, 0]), (atC Tryz.prog 39 [1, 0, 1, 0, 1]), b8⟩), .obj b8 .defd, .obj b5 (.row 22 .whole [s0]), .obj b2 (.row 28 .whole [s1])] := hN11.1 _ _ hH7
  refine Run.opG wantS_none (ex_assign rfl) rfl ?_
  refine Run.opsEnd (Run.seq (Run.region ?_))
  refine Run.opG wantS_none (ex_assign rfl) rfl ?_
  refine Run.opsEnd (Run.seq (Run.region ?_))
  refine Run.opG wantS_none (ex_move rfl) rfl ?_
  refine Run.opG wantS_none (ex_len' rfl (hH13.slc (i := 0) rfl enc3_len) lenk22) rfl ?_
  refine Run.opG wantS_none (ex_quo rfl rfl (by decide)) rfl ?_
  refine Run.opG wantS_none (ex_assign rfl) rfl ?_
  refine Run.opsEnd (Run.block (Run.loop ?_))
  refine Run.freeze (t := 3) (i := 0) (enc := enc3) rfl hH13 rfl enc3_len ?_
  intro F14 M14 hle14 (hH14 : Has F14 M14 [.vec 0 0 0 .nils [], .obj b7 (.loop ⟨.ready, none, 39, 24, treeOf [(3, (.ptr b2 0)), (4, (.bool false)), (7, (.fn (.func 75) [] [(.ptr b5 0)]))], [8], (atC Tryz.prog 39 [1, 0, 1, 0, 0]), (atC Tryz.prog 39 [1, 0, 1, 0, 1]), b8⟩), .obj b8 .defd, .obj b5 (.row 22 .whole [s0]), .obj b2 (.row 28 .whole [s1])]) hf14
  replace hs0 := hs0.mono hle14 (fun _ _ h => h)
  replace hs1 := hs1.mono hle14 (fun _ _ h => h)
  exact Run.low (.cons (fle_pick [3] rfl) .nil) (Run.pick [0, 3, 4, 5] (glitch_areTilesOf_1_ok F F r11 (0 : Int) (w64 (Int.tdiv (r11.length : Int) (2 : Int))) false a1 a0 s11_0 s1 s0 b7 b2 b5 b8 _ _ _ hf14 hs1 hs0 (hH14.pick [1, 4, 3, 2] rfl rfl) h))

theorem mkk39 : makeK Tryz.prog 39 = none := by kernel_rfl
theorem cal39 : callable Tryz.prog 39 = true := by kernel_rfl
theorem off32_1 : fieldOff Tryz.prog 32 1 = some 1 := by kernel_rfl
theorem off32_0 : fieldOff Tryz.prog 32 0 = some 0 := by kernel_rfl
theorem plan76_1_0 : planOf Tryz.prog (opsC (atC Tryz.prog 76 [1, 0])) = some [.fl 0, .fl 1, .fl 2, .fl 3, .fl 4, .fl 5, .fl 6, .fl 7, .fl 8, .fl 9, .fl 10, .fl 11, .fl 12, .sync] := by kernel_rfl
abbrev glitch_covered_post (r : Int × Int) : SV → Mem → Prop := fun s _ => s = (.tuple [(.int .i64 r.1), (.int .i64 r.2)])

def glitch_covered (F : Nat) (a0 : S_api_Tile) : Option (Int × Int) :=
  bnd (shn a0.Level) fun j4 =>
  bnd (shn a0.Level) fun j5 =>
  some ((w64 (a0.At * 2 ^ (min j4 (IntKind.bits .i64)))), (w64 ((w64 (a0.At + (1 : Int))) * 2 ^ (min j5 (IntKind.bits .i64)))))

theorem glitch_covered_ok (F : Nat) (a0 : S_api_Tile) (r : Int × Int) (M : Mem) (h : glitch_covered F a0 = some r) : CallsM Tryz.prog 76 [(.agg [(.int .i64 a0.Level), (.int .i64 a0.At), (.int .i64 a0.D)])] M (fun s M' => s = (.tuple [(.int .i64 r.1), (.int .i64 r.2)]) ∧ M' = M) := by
  refine CallsM.plain Tryz.func76 rfl rfl rfl (show Run _ _ _ (glitch_covered_post r) _ _ _ from ?_)
  rw [glitch_covered] at h
  have hH := Has.nil (frozen M)
  refine Run.seq (Run.region ?_)
  refine Run.opX wantS_none rfl (ExG.box rfl rfl hH) ?_
  rintro _ M3 ⟨b2, rfl, (hH3 : Has (ro (frozen M)) M3 [.obj b2 (.row 32 .whole [(.int .i64 a0.Level), (.int .i64 a0.At), (.int .i64 a0.D)])])⟩
  refine Run.opG wantS_none (ex_assign rfl) rfl ?_
  refine Run.opG wantS_none (ex_assign rfl) rfl ?_
  refine Run.opsEnd (Run.seq ?_)
  refine Run.drawG plan76_1_0 ?_
  refine DrawG.fl rfl (ev_ex wantS_none (ex_fieldAddr rfl off32_1)) rfl ?_
  refine DrawG.fl rfl (ev_ex wantS_none (ex_load1 rfl (hH3.cells (i := 0) rfl 1 rfl) rdLe_rfl agg3)) rfl ?_
  refine DrawG.fl rfl (ev_ex wantS_none (ex_fieldAddr rfl off32_0)) rfl ?_
  refine DrawG.fl rfl (ev_ex wantS_none (ex_load1 rfl (hH3.cells (i := 0) rfl 0 rfl) rdLe_rfl agg3)) rfl ?_
  obtain ⟨j4, hj4, h⟩ := bnd_some h
  refine DrawG.fl rfl (ev_ex wantS_none (ex_shl' rfl rfl hj4)) rfl ?_
  refine DrawG.fl rfl (ev_ex wantS_none (ex_fieldAddr rfl off32_1)) rfl ?_
  refine DrawG.fl rfl (ev_ex wantS_none (ex_load1 rfl (hH3.cells (i := 0) rfl 1 rfl) rdLe_rfl agg3)) rfl ?_
  refine DrawG.fl rfl (ev_ex wantS_none (ex_add rfl rfl)) rfl ?_
  refine DrawG.fl rfl (ev_ex wantS_none (ex_fieldAddr rfl off32_0)) rfl ?_
  refine DrawG.fl rfl (ev_ex wantS_none (ex_load1 rfl (hH3.cells (i := 0) rfl 0 rfl) rdLe_rfl agg3)) rfl ?_
  obtain ⟨j5, hj5, h⟩ := bnd_some h
  refine DrawG.fl rfl (ev_ex wantS_none (ex_shl' rfl rfl hj5)) rfl ?_
  refine DrawG.fl rfl (ev_ex wantS_none (ex_assign rfl)) rfl ?_
  refine DrawG.fl rfl (ev_ex wantS_none (ex_assign rfl)) rfl ?_
  refine DrawG.sync ?_
  refine DrawG.nil ?_
  cases h
  exact Run.ret Tryz.func76 rfl (res_tmp rfl (res_tmp rfl res_nil)) rfl

theorem mkk76 : makeK Tryz.prog 76 = none := by kernel_rfl
theorem cal76 : callable Tryz.prog 76 = true := by kernel_rfl
theorem off32_2 : fieldOff Tryz.prog 32 2 = some 2 := by kernel_rfl
theorem plan40_1_1_0_1_0_0_1_1_0_0_1_1_0 : planOf Tryz.prog (opsC (atC Tryz.prog 40 [1, 1, 0, 1, 0, 0, 1, 1, 0, 0, 1, 1, 0])) = some [.fl 0, .fl 1, .fl 2, .fl 3, .fl 4, .fl 5, .fl 6, .fl 7, .sync] := by kernel_rfl
abbrev glitch_part_post (r : (List Int)) : SV → Mem → Prop := fun s Me => ∃ q1, s = q1 ∧ Has (fun _ => none) Me [.vec 3 1 r.length q1 (r.flatMap enc3)]

def glitch_part_3 (F : Nat) (hd2 : Int → Int → Int → Int → (List S_api_Tile) → Int → Int → Int → Int → (List Int) → Option ((List Int))) (v1 : Int) (v8 : Int) (v9 : Int) (v10 : Int) (v14 : (List S_api_Tile)) (v15 : Int) (v16 : Int) (v34 : Int) (v35 : Int) (l2 : (List Int)) : Option ((List Int)) :=
  hd2 v1 v8 v9 v10 v14 v15 v16 v34 (w64 (v35 + (1 : Int))) l2

theorem glitch_part_3_ok (F : Nat) (hd2 : Int → Int → Int → Int → (List S_api_Tile) → Int → Int → Int → Int → (List Int) → Option ((List Int))) (hhd2 : ∀ (v1 : Int) (v8 : Int) (v9 : Int) (v10 : Int) (v14 : (List S_api_Tile)) (v15 : Int) (v16 : Int) (v34 : Int) (v35 : Int) (l2 : (List Int)) (sv14 : SV) (s2 : SV) (Fr : Rd) (M : Mem) (r : (List Int)) (hv14 : Slc Fr 3 (FlatR enc32) sv14 v14) (hH : Has Fr M [.vec 3 1 l2.length s2 (l2.flatMap enc3)]), hd2 v1 v8 v9 v10 v14 v15 v16 v34 v35 l2 = some r → Run Tryz.prog ⟨⟨40, [], none⟩, []⟩ 65 (glitch_part_post r) [(1, (.int .i64 v1)), (5, s2), (8, (.int .i64 v8)), (9, (.int .i64 v9)), (10, (.int .i64 v10)), (14, sv14), (15, (.int .i64 v15)), (16, (.int .i64 v16)), (34, (.int .i64 v34)), (35, (.int .i64 v35))] [codeC Tryz.prog 40 [1, 1, 0, 1, 0, 0, 1, 1, 0, 0, 1, 1, 1, 1, 0, 0], loopC Tryz.prog 40 [1, 1, 0, 1, 0, 0, 1, 1, 0, 0, 1, 1, 1, 1, 0, 0], .inBlock 2, .inBlock 1, codeC Tryz.prog 40 [1, 1, 0, 1, 0, 0, 1, 1, 1], loopC Tryz.prog 40 [1, 1, 0, 1, 0, 0], .inBlock 0, codeC Tryz.prog 40 [1, 1, 1]] M) : ∀ (v1 : Int) (v8 : Int) (v9 : Int) (v10 : Int) (v14 : (List S_api_Tile)) (v15 : Int) (v16 : Int) (v34 : Int) (v35 : Int) (l2 : (List Int)) (sv14 : SV) (s2 : SV) (Fr : Rd) (M : Mem) (r : (List Int)) (hv14 : Slc Fr 3 (FlatR enc32) sv14 v14) (hH : Has Fr M [.vec 3 1 l2.length s2 (l2.flatMap enc3)]), glitch_part_3 F hd2 v1 v8 v9 v10 v14 v15 v16 v34 v35 l2 = some r → Run Tryz.prog ⟨⟨40, [], none⟩, []⟩ 65 (glitch_part_post r) [(1, (.int .i64 v1)), (5, s2), (8, (.int .i64 v8)), (9, (.int .i64 v9)), (10, (.int .i64 v10)), (14, sv14), (15, (.int .i64 v15)), (16, (.int .i64 v16)), (34, (.int .i64 v34)), (35, (.int .i64 v35))] [itemC Tryz.prog 40 [1, 1, 0, 1, 0, 0, 1, 1, 0, 0, 1, 1, 1, 1, 0, 0, 1, 1, 1] 0, loopC Tryz.prog 40 [1, 1, 0, 1, 0, 0, 1, 1, 0, 0, 1, 1, 1, 1, 0, 0], .inBlock 2, .inBlock 1, codeC Tryz.prog 40 [1, 1, 0, 1, 0, 0, 1, 1, 1], loopC Tryz.prog 40 [1, 1, 0, 1, 0, 0], .inBlock 0, codeC Tryz.prog 40 [1, 1, 1]] M := by
  intro v1 v8 v9 v10 v14 v15 v16 v34 v35 l2 sv14 s2 Fr M r hv14 hH h
  rw [glitch_part_3] at h
  refine Run.opG wantS_none (ex_add rfl rfl) rfl ?_
  refine Run.opG wantS_none (ex_move rfl) rfl ?_
  refine Run.opsEnd (Run.inLoop ?_)
  exact Run.pick [1, 5, 8, 9, 10, 14, 15, 16, 34, 35] (hhd2 v1 v8 v9 v10 v14 v15 v16 v34 (w64 (v35 + (1 : Int))) l2 sv14 s2 _ _ _ hv14 hH h)

def glitch_part_2 (F : Nat) (hd1 : Int → (List S_api_Tile) → Int → Int → (List Int) → Option ((List Int))) : Nat → Int → Int → Int → Int → (List S_api_Tile) → Int → Int → Int → Int → (List Int) → Option ((List Int))
  | 0, _, _, _, _, _, _, _, _, _, _ => none
  | N + 1, v1, v8, v9, v10, v14, v15, v16, v34, v35, l2 =>
    bif (decide (v35 < v34)) then
      bif (decide (v35 < (w64 (Int.tdiv (w64 (v9 - v8)) (2 : Int))))) then
        bnd (idx l2 (w64 (v8 + v35))) fun x18 =>
        bnd (inn l2 (w64 (v8 + v35))) fun o20 =>
        bnd (upd l2 o20 (w64 (x18 + v10))) fun l22 =>
        glitch_part_3 F (glitch_part_2 F hd1 N) v1 v8 v9 v10 v14 v15 v16 v34 v35 l22
      else
        bnd (idx l2 (w64 (v8 + v35))) fun x25 =>
        bnd (inn l2 (w64 (v8 + v35))) fun o27 =>
        bnd (upd l2 o27 (w64 (x25 - v10))) fun l29 =>
        glitch_part_3 F (glitch_part_2 F hd1 N) v1 v8 v9 v10 v14 v15 v16 v34 v35 l29
    else
      hd1 v1 v14 v15 (w64 (v16 + (1 : Int))) l2

theorem glitch_part_2_ok (F : Nat) (hd1 : Int → (List S_api_Tile) → Int → Int → (List Int) → Option ((List Int))) (hhd1 : ∀ (v1 : Int) (v14 : (List S_api_Tile)) (v15 : Int) (v16 : Int) (l2 : (List Int)) (sv14 : SV) (s2 : SV) (Fr : Rd) (M : Mem) (r : (List Int)) (hv14 : Slc Fr 3 (FlatR enc32) sv14 v14) (hH : Has Fr M [.vec 3 1 l2.length s2 (l2.flatMap enc3)]), hd1 v1 v14 v15 v16 l2 = some r → Run Tryz.prog ⟨⟨40, [], none⟩, []⟩ 65 (glitch_part_post r) [(1, (.int .i64 v1)), (5, s2), (14, sv14), (15, (.int .i64 v15)), (16, (.int .i64 v16))] [codeC Tryz.prog 40 [1, 1, 0, 1, 0, 0], loopC Tryz.prog 40 [1, 1, 0, 1, 0, 0], .inBlock 0, codeC Tryz.prog 40 [1, 1, 1]] M) : ∀ (N : Nat), ∀ (v1 : Int) (v8 : Int) (v9 : Int) (v10 : Int) (v14 : (List S_api_Tile)) (v15 : Int) (v16 : Int) (v34 : Int) (v35 : Int) (l2 : (List Int)) (sv14 : SV) (s2 : SV) (Fr : Rd) (M : Mem) (r : (List Int)) (hv14 : Slc Fr 3 (FlatR enc32) sv14 v14) (hH : Has Fr M [.vec 3 1 l2.length s2 (l2.flatMap enc3)]), glitch_part_2 F hd1 N v1 v8 v9 v10 v14 v15 v16 v34 v35 l2 = some r → Run Tryz.prog ⟨⟨40, [], none⟩, []⟩ 65 (glitch_part_post r) [(1, (.int .i64 v1)), (5, s2), (8, (.int .i64 v8)), (9, (.int .i64 v9)), (10, (.int .i64 v10)), (14, sv14), (15, (.int .i64 v15)), (16, (.int .i64 v16)), (34, (.int .i64 v34)), (35, (.int .i64 v35))] [codeC Tryz.prog 40 [1, 1, 0, 1, 0, 0, 1, 1, 0, 0, 1, 1, 1, 1, 0, 0], loopC Tryz.prog 40 [1, 1, 0, 1, 0, 0, 1, 1, 0, 0, 1, 1, 1, 1, 0, 0], .inBlock 2, .inBlock 1, codeC Tryz.prog 40 [1, 1, 0, 1, 0, 0, 1, 1, 1], loopC Tryz.prog 40 [1, 1, 0, 1, 0, 0], .inBlock 0, codeC Tryz.prog 40 [1, 1, 1]] M := by
  intro N
  induction N with
  | zero =>
    intro v1 v8 v9 v10 v14 v15 v16 v34 v35 l2 sv14 s2 Fr M r hv14 hH h
    simp [glitch_part_2] at h
  | succ N ih =>
    intro v1 v8 v9 v10 v14 v15 v16 v34 v35 l2 sv14 s2 Fr M r hv14 hH h
    rw [glitch_part_2] at h
    refine Run.seq (Run.region ?_)
    refine Run.opG wantS_none (ex_lss rfl rfl) rfl ?_
    refine Run.opsEnd (Run.seq ?_)
    rcases btf ((decide (v35 < v34))) with hc15 | hc15
    · have h := bif_t hc15 h
      refine Run.condT' rfl hc15 ?_
      refine Run.skip (Run.seq (Run.block (Run.seq (Run.region ?_))))
      refine Run.opG wantS_none (ex_move rfl) rfl ?_
      refine Run.opG wantS_none (ex_assign rfl) rfl ?_
      refine Run.opsEnd (Run.seq (Run.region ?_))
      refine Run.opG wantS_none (ex_move rfl) rfl ?_
      refine Run.opG wantS_none (ex_move rfl) rfl ?_
      refine Run.opG wantS_none (ex_move rfl) rfl ?_
      refine Run.opG wantS_none (ex_sub rfl rfl) rfl ?_
      refine Run.opG wantS_none (ex_quo rfl rfl (by decide)) rfl ?_
      refine Run.opG wantS_none (ex_lss rfl rfl) rfl ?_
      refine Run.opsEnd ?_
      rcases btf ((decide (v35 < (w64 (Int.tdiv (w64 (v9 - v8)) (2 : Int)))))) with hc16 | hc16
      · have h := bif_t hc16 h
        refine Run.condT' rfl hc16 ?_
        refine Run.region ?_
        refine Run.opG wantS_none (ex_move rfl) rfl ?_
        refine Run.opG wantS_none (ex_move rfl) rfl ?_
        refine Run.opG wantS_none (ex_move rfl) rfl ?_
        refine Run.opG wantS_none (ex_add rfl rfl) rfl ?_
        obtain ⟨x18, hx18, h⟩ := bnd_some h
        obtain ⟨p18, o18, hb18, hx18, he18⟩ := vec_elem (P := Tryz.prog) (t := 22) (kk := .i64) hH (i := 0) rfl hx18 els22
        refine Run.opG wantS_none (ex_elX rfl rfl hx18) rfl ?_
        refine Run.opG wantS_none (ex_load1 rfl (hH.at (enc := enc3) (a := x18) (i := 0) rfl hb18 he18 enc3_len) rdLe_rfl agg3) rfl ?_
        refine Run.opG wantS_none (ex_move rfl) rfl ?_
        refine Run.opG wantS_none (ex_add rfl rfl) rfl ?_
        obtain ⟨o20, ho20, h⟩ := bnd_some h
        obtain ⟨p20, hb20, hx20⟩ := vec_place (P := Tryz.prog) (t := 22) (kk := .i64) hH (i := 0) rfl ho20 els22
        refine Run.opG wantS_none (ex_elX rfl rfl hx20) rfl ?_
        obtain ⟨l22, hl22, h⟩ := bnd_some h
        refine Run.opX wantS_none rfl (ExG.storeEl rfl rfl hH (i := 0) rfl hb20 hl22 sz3 rfl enc3_len enc3_ones) ?_
        rintro _ M23 ⟨rfl, (hH23 : Has Fr M23 [.vec 3 1 l22.length s2 (l22.flatMap enc3)])⟩
        refine Run.opsEnd (Run.inBlock (Run.region ?_))
        exact Run.pick [1, 5, 8, 9, 10, 14, 15, 16, 34, 35] (glitch_part_3_ok F (glitch_part_2 F hd1 N) ih v1 v8 v9 v10 v14 v15 v16 v34 v35 l22 sv14 s2 _ _ _ hv14 hH23 h)
      · have h := bif_f hc16 h
        refine Run.condF' rfl hc16 ?_
        refine Run.region ?_
        refine Run.opG wantS_none (ex_move rfl) rfl ?_
        refine Run.opG wantS_none (ex_move rfl) rfl ?_
        refine Run.opG wantS_none (ex_move rfl) rfl ?_
        refine Run.opG wantS_none (ex_add rfl rfl) rfl ?_
        obtain ⟨x25, hx25, h⟩ := bnd_some h
        obtain ⟨p25, o25, hb25, hx25, he25⟩ := vec_elem (P := Tryz.prog) (t := 22) (kk := .i64) hH (i := 0) rfl hx25 els22
        refine Run.opG wantS_none (ex_elX rfl rfl hx25) rfl ?_
        refine Run.opG wantS_none (ex_load1 rfl (hH.at (enc := enc3) (a := x25) (i := 0) rfl hb25 he25 enc3_len) rdLe_rfl agg3) rfl ?_
        refine Run.opG wantS_none (ex_move rfl) rfl ?_
        refine Run.opG wantS_none (ex_sub rfl rfl) rfl ?_
        obtain ⟨o27, ho27, h⟩ := bnd_some h
        obtain ⟨p27, hb27, hx27⟩ := vec_place (P := Tryz.prog) (t := 22) (kk := .i64) hH (i := 0) rfl ho27 els22
        refine Run.opG wantS_none (ex_elX rfl rfl hx27) rfl ?_
        obtain ⟨l29, hl29, h⟩ := bnd_some h
        refine Run.opX wantS_none rfl (ExG.storeEl rfl rfl hH (i := 0) rfl hb27 hl29 sz3 rfl enc3_len enc3_ones) ?_
        rintro _ M30 ⟨rfl, (hH30 : Has Fr M30 [.vec 3 1 l29.length s2 (l29.flatMap enc3)])⟩
        refine Run.opsEnd (Run.inBlock (Run.region ?_))
        exact Run.pick [1, 5, 8, 9, 10, 14, 15, 16, 34, 35] (glitch_part_3_ok F (glitch_part_2 F hd1 N) ih v1 v8 v9 v10 v14 v15 v16 v34 v35 l29 sv14 s2 _ _ _ hv14 hH30 h)
    · have h := bif_f hc15 h
      refine Run.condF' rfl hc15 ?_
      refine Run.exit rfl (Run.inBlock (Run.region ?_))
      refine Run.opG wantS_none (ex_add rfl rfl) rfl ?_
      refine Run.opG wantS_none (ex_move rfl) rfl ?_
      refine Run.opsEnd (Run.inLoop ?_)
      exact Run.pick [1, 5, 14, 15, 16] (hhd1 v1 v14 v15 (w64 (v16 + (1 : Int))) l2 sv14 s2 _ _ _ hv14 hH h)

def glitch_part_1 (F : Nat) : Nat → Int → (List S_api_Tile) → Int → Int → (List Int) → Option ((List Int))
  | 0, _, _, _, _, _ => none
  | N + 1, v1, v14, v15, v16, l2 =>
    bif (decide (v16 < v15)) then
      bnd (idx v14 v16) fun x6 =>
      bnd (glitch_covered F x6) fun r12 =>
      bnd (shn x6.Level) fun j14 =>
      glitch_part_2 F (glitch_part_1 F N) F v1 r12.1 r12.2 (w64 (x6.D * (Int.fdiv v1 (2 ^ (min j14 (IntKind.bits .i64)))))) v14 v15 v16 (w64 (r12.2 - r12.1)) (0 : Int) l2
    else
      some l2

theorem glitch_part_1_ok (F : Nat) : ∀ (N : Nat), ∀ (v1 : Int) (v14 : (List S_api_Tile)) (v15 : Int) (v16 : Int) (l2 : (List Int)) (sv14 : SV) (s2 : SV) (Fr : Rd) (M : Mem) (r : (List Int)) (hv14 : Slc Fr 3 (FlatR enc32) sv14 v14) (hH : Has Fr M [.vec 3 1 l2.length s2 (l2.flatMap enc3)]), glitch_part_1 F N v1 v14 v15 v16 l2 = some r → Run Tryz.prog ⟨⟨40, [], none⟩, []⟩ 65 (glitch_part_post r) [(1, (.int .i64 v1)), (5, s2), (14, sv14), (15, (.int .i64 v15)), (16, (.int .i64 v16))] [codeC Tryz.prog 40 [1, 1, 0, 1, 0, 0], loopC Tryz.prog 40 [1, 1, 0, 1, 0, 0], .inBlock 0, codeC Tryz.prog 40 [1, 1, 1]] M := by
  intro N
  induction N with
  | zero =>
    intro v1 v14 v15 v16 l2 sv14 s2 Fr M r hv14 hH h
    simp [glitch_part_1] at h
  | succ N ih =>
    intro v1 v14 v15 v16 l2 sv14 s2 Fr M r hv14 hH h
    rw [glitch_part_1] at h
    refine Run.seq (Run.region ?_)
    refine Run.opG wantS_none (ex_lss rfl rfl) rfl ?_
    refine Run.opsEnd (Run.seq ?_)
    rcases btf ((decide (v16 < v15))) with hc4 | hc4
    · have h := bif_t hc4 h
      refine Run.condT' rfl hc4 ?_
      refine Run.skip (Run.seq (Run.block (Run.seq (Run.region ?_))))
      obtain ⟨x6, hx6, h⟩ := bnd_some h
      obtain ⟨p6, o6, _, hx6, hp6, rfl⟩ := sl_elem (P := Tryz.prog) (t := 28) (kk := .i64) hv14 hx6 els28
      refine Run.opG wantS_none (ex_elX rfl rfl hx6) rfl ?_
      refine Run.opG wantS_none (ex_loadA rfl (hH.ptrF hp6) rdLe_rfl agg32 rfl rfl rfl) rfl ?_
      refine Run.opX wantS_none rfl (ExG.new (v := fun b => .ptr b 0) (ex_alloc zer32) hH) ?_
      rintro _ M9 ⟨b8, rfl, (hH9 : Has Fr M9 [.obj b8 (.row 32 .whole [(.int .i64 0), (.int .i64 0), (.int .i64 0)]), .vec 3 1 l2.length s2 (l2.flatMap enc3)])⟩
      refine Run.opX wantS_none rfl (ExG.storeC (c' := [(.int .i64 x6.Level), (.int .i64 x6.At), (.int .i64 x6.D)]) rfl rfl rfl hH9 (i := 0) rfl sz32 rfl rfl rfl rfl rfl) ?_
      rintro _ M10 ⟨rfl, (hH10 : Has Fr M10 [.obj b8 (.row 32 .whole [(.int .i64 x6.Level), (.int .i64 x6.At), (.int .i64 x6.D)]), .vec 3 1 l2.length s2 (l2.flatMap enc3)])⟩
      refine Run.opsEnd (Run.seq (Run.region ?_))
      refine Run.opG wantS_none (ex_loadA rfl (hH10.cells (i := 0) rfl 0 rfl) rdLe_rfl agg32 rfl rfl rfl) rfl ?_
      obtain ⟨r12, hr12, h⟩ := bnd_some h
      refine Run.callP wantS_none (ex_call rfl mkk76 cal76) rfl (glitch_covered_ok F x6 _ _ hr12) ?_
      refine Run.opG wantS_none (ex_move rfl) rfl ?_
      refine Run.opG wantS_none (ex_extract rfl rfl) rfl ?_
      refine Run.opG wantS_none (ex_extract rfl rfl) rfl ?_
      refine Run.opG wantS_none (ex_assign rfl) rfl ?_
      refine Run.opG wantS_none (ex_assign rfl) rfl ?_
      refine Run.opsEnd (Run.seq ?_)
      refine Run.drawG plan40_1_1_0_1_0_0_1_1_0_0_1_1_0 ?_
      refine DrawG.fl rfl (ev_ex wantS_none (ex_fieldAddr rfl off32_2)) rfl ?_
      refine DrawG.fl rfl (ev_ex wantS_none (ex_load1 rfl (hH10.cells (i := 0) rfl 2 rfl) rdLe_rfl agg3)) rfl ?_
      refine DrawG.fl rfl (ev_ex wantS_none (ex_move rfl)) rfl ?_
      refine DrawG.fl rfl (ev_ex wantS_none (ex_fieldAddr rfl off32_0)) rfl ?_
      refine DrawG.fl rfl (ev_ex wantS_none (ex_load1 rfl (hH10.cells (i := 0) rfl 0 rfl) rdLe_rfl agg3)) rfl ?_
      obtain ⟨j14, hj14, h⟩ := bnd_some h
      refine DrawG.fl rfl (ev_ex wantS_none (ex_shr' rfl rfl hj14)) rfl ?_
      refine DrawG.fl rfl (ev_ex wantS_none (ex_mul rfl rfl)) rfl ?_
      refine DrawG.fl rfl (ev_ex wantS_none (ex_assign rfl)) rfl ?_
      refine DrawG.sync ?_
      refine DrawG.nil ?_
      refine Run.seq (Run.region ?_)
      refine Run.opG wantS_none (ex_move rfl) rfl ?_
      refine Run.opG wantS_none (ex_move rfl) rfl ?_
      refine Run.opG wantS_none (ex_sub rfl rfl) rfl ?_
      refine Run.opG wantS_none (ex_move rfl) rfl ?_
      refine Run.opsEnd (Run.block (Run.loop ?_))
      exact Run.pick [1, 5, 8, 9, 10, 14, 15, 16, 34, 35] (glitch_part_2_ok F (glitch_part_1 F N) ih F v1 r12.1 r12.2 (w64 (x6.D * (Int.fdiv v1 (2 ^ (min j14 (IntKind.bits .i64)))))) v14 v15 v16 (w64 (r12.2 - r12.1)) (0 : Int) l2 sv14 s2 _ _ _ hv14 (hH10.pick [1] rfl rfl) h)
    · have h := bif_f hc4 h
      refine Run.condF' rfl hc4 ?_
      refine Run.exit rfl (Run.seq (Run.region ?_))
      refine Run.opG wantS_none (ex_move rfl) rfl ?_
      refine Run.opG wantS_none (ex_assign rfl) rfl ?_
      refine Run.opsEnd ?_
      cases h
      exact Run.ret Tryz.func40 rfl (res_tmp rfl res_nil) ⟨_, rfl, (hH.pick [0] rfl rfl).upF (none_le _)⟩

def glitch_part (F : Nat) (a0 : (List S_api_Tile)) (a1 : Int) : Option ((List Int)) :=
  bnd (mk a1 8 (0 : Int)) fun l2 =>
  glitch_part_1 F F a1 a0 (a0.length : Int) (0 : Int) l2

theorem glitch_part_ok (F : Nat) (a0 : (List S_api_Tile)) (a1 : Int) (s0 : SV) (r : (List Int)) (M : Mem) (hs0 : Slc (rd M) 3 (FlatR enc32) s0 a0) (h : glitch_part F a0 a1 = some r) : CallsM Tryz.prog 40 [s0, (.int .i64 a1)] M (fun s M' => ∃ q1, s = q1 ∧ New M M' [.vec 3 1 r.length q1 (r.flatMap enc3)]) := by
  refine CallsM.fresh (Q := glitch_part_post r) Tryz.func40 rfl rfl ?_ (by rintro s Me ⟨q1, rfl, hx⟩ ha hw; exact ⟨_, rfl, New.of rfl hx ha hw⟩)
  rw [glitch_part] at h
  replace hs0 := hs0.mono (rdLe_frozen M) (fun _ _ h => h)
  have hH := Has.nil (frozen M)
  refine Run.seq (Run.region ?_)
  refine Run.opG wantS_none (ex_assign rfl) rfl ?_
  refine Run.opsEnd (Run.seq (Run.region ?_))
  refine Run.opG wantS_none (ex_move rfl) rfl ?_
  obtain ⟨l2, hl2, h⟩ := bnd_some h
  refine Run.opX wantS_none rfl (ExG.make (enc := enc3) (z := 1) rfl rfl hl2 elt22 rfl rfl enc3_len hH) ?_
  rintro s2 M3 (hH3 : Has (ro (frozen M)) M3 [.vec 3 1 l2.length s2 (l2.flatMap enc3)])
  refine Run.opG wantS_none (ex_assign rfl) rfl ?_
  refine Run.opsEnd (Run.seq (Run.seq (Run.region ?_)))
  refine Run.opG wantS_none (ex_move rfl) rfl ?_
  refine Run.opG wantS_none (ex_len' rfl hs0 lenk28) rfl ?_
  refine Run.opG wantS_none (ex_move rfl) rfl ?_
  refine Run.opsEnd (Run.block (Run.loop ?_))
  exact Run.pick [1, 5, 14, 15, 16] (glitch_part_1_ok F F a1 a0 (a0.length : Int) (0 : Int) l2 s0 s2 _ _ _ hs0 hH3 h)

theorem mkk40 : makeK Tryz.prog 40 = none := by kernel_rfl
theorem cal40 : callable Tryz.prog 40 = true := by kernel_rfl
abbrev glitch_Part_post (r : (List Int) × Int) : SV → Mem → Prop := fun s Me => ∃ q1, s = (.tuple [q1, (.int .i64 r.2)]) ∧ Has (fun _ => none) Me [.vec 3 1 r.1.length q1 (r.1.flatMap enc3)]

def glitch_Part (F : Nat) (a0 : (List Int)) (a1 : (List S_api_Tile)) : Option ((List Int) × Int) :=
  bnd (glitch_isSignal F a0) fun r2 =>
  bif (!r2) then
    some (([] : List Int), (60 : Int))
  else
    bnd (glitch_areTilesOf F a0 a1) fun r8 =>
    bif (!r8) then
      some (([] : List Int), (61 : Int))
    else
      bnd (glitch_part F a1 (a0.length : Int)) fun r15 =>
      some (r15, (0 : Int))

theorem glitch_Part_ok (F : Nat) (a0 : (List Int)) (a1 : (List S_api_Tile)) (s0 s1 : SV) (r : (List Int) × Int) (M : Mem) (hs0 : Slc (rd M) 1 (FlatR enc3) s0 a0) (hs1 : Slc (rd M) 3 (FlatR enc32) s1 a1) (h : glitch_Part F a0 a1 = some r) : CallsM Tryz.prog 13 [s0, s1] M (fun s M' => ∃ q1, s = (.tuple [q1, (.int .i64 r.2)]) ∧ New M M' [.vec 3 1 r.1.length q1 (r.1.flatMap enc3)]) := by
  refine CallsM.fresh (Q := glitch_Part_post r) Tryz.func13 rfl rfl ?_ (by rintro s Me ⟨q1, rfl, hx⟩ ha hw; exact ⟨_, rfl, New.of rfl hx ha hw⟩)
  rw [glitch_Part] at h
  replace hs0 := hs0.mono (rdLe_frozen M) (fun _ _ h => h)
  replace hs1 := hs1.mono (rdLe_frozen M) (fun _ _ h => h)
  have hH := Has.nil (frozen M)
  refine Run.seq (Run.region ?_)
  refine Run.opG wantS_none (ex_assign rfl) rfl ?_
  refine Run.opG wantS_none (ex_assign rfl) rfl ?_
  refine Run.opsEnd (Run.seq (Run.block (Run.seq (Run.region ?_))))
  refine Run.opG wantS_none (ex_move rfl) rfl ?_
  obtain ⟨r2, hr2, h⟩ := bnd_some h
  refine Run.callP wantS_none (ex_call rfl mkk30 cal30) rfl (glitch_isSignal_ok F a0 s0 _ _ (hH.slcF hs0) hr2) ?_
  refine Run.opG wantS_none (ex_not rfl) rfl ?_
  refine Run.opG wantS_none (ex_assign rfl) rfl ?_
  refine Run.opsEnd ?_
  rcases btf ((!r2)) with hc4 | hc4
  · have h := bif_t hc4 h
    refine Run.condT' rfl hc4 ?_
    refine Run.seq (Run.region ?_)
    refine Run.opG wantS_none (ex_assign rfl) rfl ?_
    refine Run.opG wantS_none (ex_assign rfl) rfl ?_
    refine Run.opsEnd ?_
    have hH6 : Has (ro (frozen M)) (frozen M) [.vec 3 1 ([] : List Int).length .nils (([] : List Int).flatMap enc3)] := hH.nils 3 1
    cases h
    exact Run.ret Tryz.func13 rfl (res_tmp rfl (res_tmp rfl res_nil)) ⟨_, rfl, (hH6.pick [0] rfl rfl).upF (none_le _)⟩
  · have h := bif_f hc4 h
    refine Run.condF' rfl hc4 ?_
    refine Run.seq (Run.region ?_)
    refine Run.opG wantS_none (ex_move rfl) rfl ?_
    refine Run.opG wantS_none (ex_move rfl) rfl ?_
    obtain ⟨r8, hr8, h⟩ := bnd_some h
    refine Run.callP wantS_none (ex_call rfl mkk39 cal39) rfl (glitch_areTilesOf_ok F a0 a1 s0 s1 _ _ (hH.slcF hs0) (hH.slcF hs1) hr8) ?_
    refine Run.opG wantS_none (ex_not rfl) rfl ?_
    refine Run.opG wantS_none (ex_assign rfl) rfl ?_
    refine Run.opsEnd ?_
    rcases btf ((!r8)) with hc10 | hc10
    · have h := bif_t hc10 h
      refine Run.condT' rfl hc10 ?_
      refine Run.seq (Run.region ?_)
      refine Run.opG wantS_none (ex_assign rfl) rfl ?_
      refine Run.opG wantS_none (ex_assign rfl) rfl ?_
      refine Run.opsEnd ?_
      have hH12 : Has (ro (frozen M)) (frozen M) [.vec 3 1 ([] : List Int).length .nils (([] : List Int).flatMap enc3)] := hH.nils 3 1
      cases h
      exact Run.ret Tryz.func13 rfl (res_tmp rfl (res_tmp rfl res_nil)) ⟨_, rfl, (hH12.pick [0] rfl rfl).upF (none_le _)⟩
    · have h := bif_f hc10 h
      refine Run.condF' rfl hc10 ?_
      refine Run.skip (Run.inBlock (Run.seq (Run.region ?_)))
      refine Run.opG wantS_none (ex_move rfl) rfl ?_
      refine Run.opG wantS_none (ex_move rfl) rfl ?_
      refine Run.opG wantS_none (ex_len' rfl hs0 lenk22) rfl ?_
      obtain ⟨r15, hr15, h⟩ := bnd_some h
      refine Run.callX wantS_none (ex_call rfl mkk40 cal40) rfl (glitch_part_ok F a1 (a0.length : Int) s1 _ _ (hH.slcF hs1) hr15) ?_
      rintro s15_0 M17 ⟨_, rfl, hN15⟩
      have hH17 : Has (ro (frozen M)) M17 [.vec 3 1 r15.length s15_0 (r15.flatMap enc3)] := hN15.1 _ _ hH
      refine Run.opG wantS_none (ex_assign rfl) rfl ?_
      refine Run.opG wantS_none (ex_assign rfl) rfl ?_
      refine Run.opsEnd ?_
      cases h
      exact Run.ret Tryz.func13 rfl (res_tmp rfl (res_tmp rfl res_nil)) ⟨_, rfl, (hH17.pick [0] rfl rfl).upF (none_le _)⟩

theorem mkk13 : makeK Tryz.prog 13 = none := by kernel_rfl
theorem cal13 : callable Tryz.prog 13 = true := by kernel_rfl
theorem plan4_1_1_1_1_1_1_1_1_1_1_0_1_0_0_1_0_0_0 : planOf Tryz.prog (opsC (atC Tryz.prog 4 [1, 1, 1, 1, 1, 1, 1, 1, 1, 1, 0, 1, 0, 0, 1, 0, 0, 0])) = some [.fl 0, .fl 1, .fl 2, .fl 3, .fl 4, .fl 5, .fl 6, .fl 7, .fl 8, .fl 9, .fl 10, .fl 11, .fl 12, .fl 13, .fl 14, .fl 15, .fl 16, .fl 17, .fl 18, .fl 19, .fl 20, .sync] := by kernel_rfl
abbrev law06_GlitchSplits_post (r : Bool) : SV → Mem → Prop := fun s _ => s = (.bool r)

def law06_GlitchSplits_1 (F : Nat) (v27 : Bool) : Option (Bool) :=
  some v27

theorem law06_GlitchSplits_1_ok (F : Nat) : ∀ (v27 : Bool) (Fr : Rd) (M : Mem) (r : Bool) (hH : Has Fr M [tb0, tb1, tb2]), law06_GlitchSplits_1 F v27 = some r → Run Tryz.prog ⟨⟨4, [], none⟩, []⟩ 134 (law06_GlitchSplits_post r) [(27, (.bool v27))] [itemC Tryz.prog 4 [1, 1, 0, 1, 0, 0] 6, codeC Tryz.prog 4 [1, 1, 0, 1, 0, 1], codeC Tryz.prog 4 [1, 1, 1]] M := by
  intro v27 Fr M r hH h
  rw [law06_GlitchSplits_1] at h
  refine Run.opG wantS_none (ex_assign rfl) rfl ?_
  refine Run.opsEnd ?_
  cases h
  exact Run.ret Tryz.func4 rfl (res_tmp rfl res_nil) rfl

def law06_GlitchSplits_5 (F : Nat) (hd3 : (List Int) → (List Int) → Int → (List S_api_Tile) → (List Int) → (List S_api_Tile) → (List S_api_Tile) → Option (Bool)) (v0 : (List Int)) (v1 : (List Int)) (v10 : Int) (l7 : (List S_api_Tile)) (l17 : (List Int)) (l38 : (List S_api_Tile)) (l23 : (List S_api_Tile)) : Option (Bool) :=
  hd3 v0 v1 (w64 (v10 + (1 : Int))) l7 l17 l38 l23

theorem law06_GlitchSplits_5_ok (F : Nat) (hd3 : (List Int) → (List Int) → Int → (List S_api_Tile) → (List Int) → (List S_api_Tile) → (List S_api_Tile) → Option (Bool)) (hhd3 : ∀ (v0 : (List Int)) (v1 : (List Int)) (v10 : Int) (l7 : (List S_api_Tile)) (l17 : (List Int)) (l21 : (List S_api_Tile)) (l23 : (List S_api_Tile)) (sv0 : SV) (sv1 : SV) (s7 : SV) (s17 : SV) (s21 : SV) (s23 : SV) (Fr : Rd) (M : Mem) (r : Bool) (hv0 : Slc Fr 1 (FlatR enc3) sv0 v0) (hv1 : Slc Fr 1 (FlatR enc3) sv1 v1) (hH : Has Fr M [.vec 32 3 l7.length s7 (l7.flatMap enc32), .vec 3 1 l17.length s17 (l17.flatMap enc3), .vec 32 3 l21.length s21 (l21.flatMap enc32), .vec 32 3 l23.length s23 (l23.flatMap enc32), tb0, tb1, tb2]), hd3 v0 v1 v10 l7 l17 l21 l23 = some r → Run Tryz.prog ⟨⟨4, [], none⟩, []⟩ 134 (law06_GlitchSplits_post r) [(0, sv0), (1, sv1), (5, s7), (7, s17), (8, s21), (9, s23), (10, (.int .i64 v10))] [codeC Tryz.prog 4 [1, 1, 1, 1, 1, 1, 0, 1, 0, 0], loopC Tryz.prog 4 [1, 1, 1, 1, 1, 1, 0, 1, 0, 0], .inBlock 0, codeC Tryz.prog 4 [1, 1, 1, 1, 1, 1, 1]] M) : ∀ (v0 : (List Int)) (v1 : (List Int)) (v10 : Int) (l7 : (List S_api_Tile)) (l17 : (List Int)) (l38 : (List S_api_Tile)) (l23 : (List S_api_Tile)) (sv0 : SV) (sv1 : SV) (s7 : SV) (s17 : SV) (s38 : SV) (s23 : SV) (Fr : Rd) (M : Mem) (r : Bool) (hv0 : Slc Fr 1 (FlatR enc3) sv0 v0) (hv1 : Slc Fr 1 (FlatR enc3) sv1 v1) (hH : Has Fr M [.vec 32 3 l7.length s7 (l7.flatMap enc32), .vec 3 1 l17.length s17 (l17.flatMap enc3), .vec 32 3 l38.length s38 (l38.flatMap enc32), .vec 32 3 l23.length s23 (l23.flatMap enc32), tb0, tb1, tb2]), law06_GlitchSplits_5 F hd3 v0 v1 v10 l7 l17 l38 l23 = some r → Run Tryz.prog ⟨⟨4, [], none⟩, []⟩ 134 (law06_GlitchSplits_post r) [(0, sv0), (1, sv1), (5, s7), (7, s17), (8, s38), (9, s23), (10, (.int .i64 v10))] [itemC Tryz.prog 4 [1, 1, 1, 1, 1, 1, 0, 1, 0, 0, 1, 1] 0, loopC Tryz.prog 4 [1, 1, 1, 1, 1, 1, 0, 1, 0, 0], .inBlock 0, codeC Tryz.prog 4 [1, 1, 1, 1, 1, 1, 1]] M := by
  intro v0 v1 v10 l7 l17 l38 l23 sv0 sv1 s7 s17 s38 s23 Fr M r hv0 hv1 hH h
  rw [law06_GlitchSplits_5] at h
  refine Run.opG wantS_none (ex_move rfl) rfl ?_
  refine Run.opG wantS_none (ex_add rfl rfl) rfl ?_
  refine Run.opG wantS_none (ex_assign rfl) rfl ?_
  refine Run.opsEnd (Run.inLoop ?_)
  exact Run.pick [0, 1, 5, 7, 8, 9, 10] (hhd3 v0 v1 (w64 (v10 + (1 : Int))) l7 l17 l38 l23 sv0 sv1 s7 s17 s38 s23 _ _ _ hv0 hv1 hH h)

def law06_GlitchSplits_4 (F : Nat) (hd3 : (List Int) → (List Int) → Int → (List S_api_Tile) → (List Int) → (List S_api_Tile) → (List S_api_Tile) → Option (Bool)) (v0 : (List Int)) (v1 : (List Int)) (v10 : Int) (v59 : Bool) (l7 : (List S_api_Tile)) (l17 : (List Int)) (l21 : (List S_api_Tile)) (l23 : (List S_api_Tile)) : Option (Bool) :=
  bif v59 then
    bnd (idx l7 v10) fun x31 =>
    bnd (apd 24 l21 ([x31] : List S_api_Tile)) fun l37 =>
    law06_GlitchSplits_5 F hd3 v0 v1 v10 l7 l17 l37 l23
  else
    bnd (idx l7 v10) fun x41 =>
    bnd (apd 24 l23 ([x41] : List S_api_Tile)) fun l47 =>
    law06_GlitchSplits_5 F hd3 v0 v1 v10 l7 l17 l21 l47

theorem law06_GlitchSplits_4_ok (F : Nat) (hd3 : (List Int) → (List Int) → Int → (List S_api_Tile) → (List Int) → (List S_api_Tile) → (List S_api_Tile) → Option (Bool)) (hhd3 : ∀ (v0 : (List Int)) (v1 : (List Int)) (v10 : Int) (l7 : (List S_api_Tile)) (l17 : (List Int)) (l21 : (List S_api_Tile)) (l23 : (List S_api_Tile)) (sv0 : SV) (sv1 : SV) (s7 : SV) (s17 : SV) (s21 : SV) (s23 : SV) (Fr : Rd) (M : Mem) (r : Bool) (hv0 : Slc Fr 1 (FlatR enc3) sv0 v0) (hv1 : Slc Fr 1 (FlatR enc3) sv1 v1) (hH : Has Fr M [.vec 32 3 l7.length s7 (l7.flatMap enc32), .vec 3 1 l17.length s17 (l17.flatMap enc3), .vec 32 3 l21.length s21 (l21.flatMap enc32), .vec 32 3 l23.length s23 (l23.flatMap enc32), tb0, tb1, tb2]), hd3 v0 v1 v10 l7 l17 l21 l23 = some r → Run Tryz.prog ⟨⟨4, [], none⟩, []⟩ 134 (law06_GlitchSplits_post r) [(0, sv0), (1, sv1), (5, s7), (7, s17), (8, s21), (9, s23), (10, (.int .i64 v10))] [codeC Tryz.prog 4 [1, 1, 1, 1, 1, 1, 0, 1, 0, 0], loopC Tryz.prog 4 [1, 1, 1, 1, 1, 1, 0, 1, 0, 0], .inBlock 0, codeC Tryz.prog 4 [1, 1, 1, 1, 1, 1, 1]] M) : ∀ (v0 : (List Int)) (v1 : (List Int)) (v10 : Int) (v59 : Bool) (l7 : (List S_api_Tile)) (l17 : (List Int)) (l21 : (List S_api_Tile)) (l23 : (List S_api_Tile)) (sv0 : SV) (sv1 : SV) (s7 : SV) (s17 : SV) (s21 : SV) (s23 : SV) (Fr : Rd) (M : Mem) (r : Bool) (hv0 : Slc Fr 1 (FlatR enc3) sv0 v0) (hv1 : Slc Fr 1 (FlatR enc3) sv1 v1) (hH : Has Fr M [.vec 32 3 l7.length s7 (l7.flatMap enc32), .vec 3 1 l17.length s17 (l17.flatMap enc3), .vec 32 3 l21.length s21 (l21.flatMap enc32), .vec 32 3 l23.length s23 (l23.flatMap enc32), tb0, tb1, tb2]), law06_GlitchSplits_4 F hd3 v0 v1 v10 v59 l7 l17 l21 l23 = some r → Run Tryz.prog ⟨⟨4, [], none⟩, []⟩ 134 (law06_GlitchSplits_post r) [(0, sv0), (1, sv1), (5, s7), (7, s17), (8, s21), (9, s23), (10, (.int .i64 v10)), (59, (.bool v59))] [codeC Tryz.prog 4 [1, 1, 1, 1, 1, 1, 0, 1, 0, 0, 1, 0, 0, 1], .inBlock 1, codeC Tryz.prog 4 [1, 1, 1, 1, 1, 1, 0, 1, 0, 0, 1, 1], loopC Tryz.prog 4 [1, 1, 1, 1, 1, 1, 0, 1, 0, 0], .inBlock 0, codeC Tryz.prog 4 [1, 1, 1, 1, 1, 1, 1]] M := by
  intro v0 v1 v10 v59 l7 l17 l21 l23 sv0 sv1 s7 s17 s21 s23 Fr M r hv0 hv1 hH h
  rw [law06_GlitchSplits_4] at h
  rcases btf (v59) with hc29 | hc29
  · have h := bif_t hc29 h
    refine Run.condT' rfl hc29 ?_
    refine Run.region ?_
    refine Run.opG wantS_none (ex_move rfl) rfl ?_
    refine Run.opG wantS_none (ex_move rfl) rfl ?_
    refine Run.opG wantS_none (ex_move rfl) rfl ?_
    obtain ⟨x31, hx31, h⟩ := bnd_some h
    obtain ⟨p31, o31, hb31, hx31, he31⟩ := vec_elem (P := Tryz.prog) (t := 28) (kk := .i64) hH (i := 0) rfl hx31 els28
    refine Run.opG wantS_none (ex_elX rfl rfl hx31) rfl ?_
    refine Run.opG wantS_none (ex_loadA rfl (hH.at (enc := enc32) (a := x31) (i := 0) rfl hb31 he31 enc32_len) rdLe_rfl agg32 rfl rfl rfl) rfl ?_
    refine Run.opX wantS_none rfl (ExG.built (enc := enc32) (l := ([x31] : List S_api_Tile)) (z := 3) rfl elt28 rfl rfl rfl enc32_len hH) ?_
    rintro s33 M34 (hH34 : Has Fr M34 [.vec 32 3 ([x31] : List S_api_Tile).length s33 (([x31] : List S_api_Tile).flatMap enc32), .vec 32 3 l7.length s7 (l7.flatMap enc32), .vec 3 1 l17.length s17 (l17.flatMap enc3), .vec 32 3 l21.length s21 (l21.flatMap enc32), .vec 32 3 l23.length s23 (l23.flatMap enc32), tb0, tb1, tb2])
    obtain ⟨l37, hl37, h⟩ := bnd_some h
    refine Run.opX wantS_none rfl (ExG.append rfl rfl hH34 (i := 3) rfl enc32_len rfl enc32_ones appt28_28 rfl (len_slc (hH34.slc (i := 0) rfl enc32_len)) (first_slc (hH34.slc (i := 0) rfl enc32_len) (rdLe_rdRow _) enc32_len) hl37) ?_
    rintro s37 M39 (hH39 : Has Fr M39 [.vec 32 3 ([x31] : List S_api_Tile).length s33 (([x31] : List S_api_Tile).flatMap enc32), .vec 32 3 l7.length s7 (l7.flatMap enc32), .vec 3 1 l17.length s17 (l17.flatMap enc3), .vec 32 3 l37.length s37 (l37.flatMap enc32), .vec 32 3 l23.length s23 (l23.flatMap enc32), tb0, tb1, tb2])
    refine Run.opG wantS_none (ex_assign rfl) rfl ?_
    refine Run.opsEnd (Run.inBlock (Run.region ?_))
    exact Run.pick [0, 1, 5, 7, 8, 9, 10] (law06_GlitchSplits_5_ok F hd3 hhd3 v0 v1 v10 l7 l17 l37 l23 sv0 sv1 s7 s17 s37 s23 _ _ _ hv0 hv1 (hH39.pick [1, 2, 3, 4, 5, 6, 7] rfl rfl) h)
  · have h := bif_f hc29 h
    refine Run.condF' rfl hc29 ?_
    refine Run.region ?_
    refine Run.opG wantS_none (ex_move rfl) rfl ?_
    refine Run.opG wantS_none (ex_move rfl) rfl ?_
    refine Run.opG wantS_none (ex_move rfl) rfl ?_
    obtain ⟨x41, hx41, h⟩ := bnd_some h
    obtain ⟨p41, o41, hb41, hx41, he41⟩ := vec_elem (P := Tryz.prog) (t := 28) (kk := .i64) hH (i := 0) rfl hx41 els28
    refine Run.opG wantS_none (ex_elX rfl rfl hx41) rfl ?_
    refine Run.opG wantS_none (ex_loadA rfl (hH.at (enc := enc32) (a := x41) (i := 0) rfl hb41 he41 enc32_len) rdLe_rfl agg32 rfl rfl rfl) rfl ?_
    refine Run.opX wantS_none rfl (ExG.built (enc := enc32) (l := ([x41] : List S_api_Tile)) (z := 3) rfl elt28 rfl rfl rfl enc32_len hH) ?_
    rintro s43 M44 (hH44 : Has Fr M44 [.vec 32 3 ([x41] : List S_api_Tile).length s43 (([x41] : List S_api_Tile).flatMap enc32), .vec 32 3 l7.length s7 (l7.flatMap enc32), .vec 3 1 l17.length s17 (l17.flatMap enc3), .vec 32 3 l21.length s21 (l21.flatMap enc32), .vec 32 3 l23.length s23 (l23.flatMap enc32), tb0, tb1, tb2])
    obtain ⟨l47, hl47, h⟩ := bnd_some h
    refine Run.opX wantS_none rfl (ExG.append rfl rfl hH44 (i := 4) rfl enc32_len rfl enc32_ones appt28_28 rfl (len_slc (hH44.slc (i := 0) rfl enc32_len)) (first_slc (hH44.slc (i := 0) rfl enc32_len) (rdLe_rdRow _) enc32_len) hl47) ?_
    rintro s47 M49 (hH49 : Has Fr M49 [.vec 32 3 ([x41] : List S_api_Tile).length s43 (([x41] : List S_api_Tile).flatMap enc32), .vec 32 3 l7.length s7 (l7.flatMap enc32), .vec 3 1 l17.length s17 (l17.flatMap enc3), .vec 32 3 l21.length s21 (l21.flatMap enc32), .vec 32 3 l47.length s47 (l47.flatMap enc32), tb0, tb1, tb2])
    refine Run.opG wantS_none (ex_assign rfl) rfl ?_
    refine Run.opsEnd (Run.inBlock (Run.region ?_))
    exact Run.pick [0, 1, 5, 7, 8, 9, 10] (law06_GlitchSplits_5_ok F hd3 hhd3 v0 v1 v10 l7 l17 l21 l47 sv0 sv1 s7 s17 s21 s47 _ _ _ hv0 hv1 (hH49.pick [1, 2, 3, 4, 5, 6, 7] rfl rfl) h)

def law06_GlitchSplits_9 (F : Nat) : Nat → (List Int) → Int → (List Int) → (List Int) → (List Int) → Option (Bool)
  | 0, _, _, _, _, _ => none
  | N + 1, v0, v14, l17, l53, l58 =>
    bif (decide (v14 < (v0.length : Int))) then
      bnd (idx l53 v14) fun x65 =>
      bnd (idx l58 v14) fun x66 =>
      bnd (idx v0 v14) fun x67 =>
      bnd (idx l17 (0 : Int)) fun x68 =>
      bif (!((w64 (x65 + x66)) == (w64 ((w64 ((v0.length : Int) * x67)) - x68)))) then
        some false
      else
        (law06_GlitchSplits_9 F N) v0 (w64 (v14 + (1 : Int))) l17 l53 l58
    else
      bnd (works F) fun r71 =>
      some r71

theorem law06_GlitchSplits_9_ok (F : Nat) : ∀ (N : Nat), ∀ (v0 : (List Int)) (v14 : Int) (l17 : (List Int)) (l53 : (List Int)) (l58 : (List Int)) (sv0 : SV) (s17 : SV) (s53 : SV) (s58 : SV) (Fr : Rd) (M : Mem) (r : Bool) (hv0 : Slc Fr 1 (FlatR enc3) sv0 v0) (hH : Has Fr M [.vec 3 1 l17.length s17 (l17.flatMap enc3), .vec 3 1 l53.length s53 (l53.flatMap enc3), .vec 3 1 l58.length s58 (l58.flatMap enc3), tb0, tb1, tb2]), law06_GlitchSplits_9 F N v0 v14 l17 l53 l58 = some r → Run Tryz.prog ⟨⟨4, [], none⟩, []⟩ 134 (law06_GlitchSplits_post r) [(0, sv0), (7, s17), (11, s53), (13, s58), (14, (.int .i64 v14))] [codeC Tryz.prog 4 [1, 1, 1, 1, 1, 1, 1, 1, 1, 1, 0, 1, 0, 0], loopC Tryz.prog 4 [1, 1, 1, 1, 1, 1, 1, 1, 1, 1, 0, 1, 0, 0], .inBlock 2, codeC Tryz.prog 4 [1, 1, 1, 1, 1, 1, 1, 1, 1, 1, 1]] M := by
  intro N
  induction N with
  | zero =>
    intro v0 v14 l17 l53 l58 sv0 s17 s53 s58 Fr M r hv0 hH h
    simp [law06_GlitchSplits_9] at h
  | succ N ih =>
    intro v0 v14 l17 l53 l58 sv0 s17 s53 s58 Fr M r hv0 hH h
    rw [law06_GlitchSplits_9] at h
    refine Run.seq (Run.seq (Run.region ?_))
    refine Run.opG wantS_none (ex_move rfl) rfl ?_
    refine Run.opG wantS_none (ex_move rfl) rfl ?_
    refine Run.opG wantS_none (ex_len' rfl hv0 lenk22) rfl ?_
    refine Run.opG wantS_none (ex_lss rfl rfl) rfl ?_
    refine Run.opsEnd ?_
    rcases btf ((decide (v14 < (v0.length : Int)))) with hc64 | hc64
    · have h := bif_t hc64 h
      refine Run.condT' rfl hc64 ?_
      refine Run.skip (Run.seq (Run.block (Run.seq ?_)))
      refine Run.drawG plan4_1_1_1_1_1_1_1_1_1_1_0_1_0_0_1_0_0_0 ?_
      refine DrawG.fl rfl (ev_ex wantS_none (ex_move rfl)) rfl ?_
      refine DrawG.fl rfl (ev_ex wantS_none (ex_move rfl)) rfl ?_
      obtain ⟨x65, hx65, h⟩ := bnd_some h
      obtain ⟨p65, o65, hb65, hx65, he65⟩ := vec_elem (P := Tryz.prog) (t := 22) (kk := .i64) hH (i := 1) rfl hx65 els22
      refine DrawG.fl rfl (ev_ex wantS_none (ex_elX rfl rfl hx65)) rfl ?_
      refine DrawG.fl rfl (ev_ex wantS_none (ex_load1 rfl (hH.at (enc := enc3) (a := x65) (i := 1) rfl hb65 he65 enc3_len) rdLe_rfl agg3)) rfl ?_
      refine DrawG.fl rfl (ev_ex wantS_none (ex_move rfl)) rfl ?_
      refine DrawG.fl rfl (ev_ex wantS_none (ex_move rfl)) rfl ?_
      obtain ⟨x66, hx66, h⟩ := bnd_some h
      obtain ⟨p66, o66, hb66, hx66, he66⟩ := vec_elem (P := Tryz.prog) (t := 22) (kk := .i64) hH (i := 2) rfl hx66 els22
      refine DrawG.fl rfl (ev_ex wantS_none (ex_elX rfl rfl hx66)) rfl ?_
      refine DrawG.fl rfl (ev_ex wantS_none (ex_load1 rfl (hH.at (enc := enc3) (a := x66) (i := 2) rfl hb66 he66 enc3_len) rdLe_rfl agg3)) rfl ?_
      refine DrawG.fl rfl (ev_ex wantS_none (ex_add rfl rfl)) rfl ?_
      refine DrawG.fl rfl (ev_ex wantS_none (ex_move rfl)) rfl ?_
      refine DrawG.fl rfl (ev_ex wantS_none (ex_len' rfl hv0 lenk22)) rfl ?_
      refine DrawG.fl rfl (ev_ex wantS_none (ex_move rfl)) rfl ?_
      refine DrawG.fl rfl (ev_ex wantS_none (ex_move rfl)) rfl ?_
      obtain ⟨x67, hx67, h⟩ := bnd_some h
      obtain ⟨p67, o67, _, hx67, hp67, rfl⟩ := sl_elem (P := Tryz.prog) (t := 22) (kk := .i64) hv0 hx67 els22
      refine DrawG.fl rfl (ev_ex wantS_none (ex_elX rfl rfl hx67)) rfl ?_
      refine DrawG.fl rfl (ev_ex wantS_none (ex_load1 rfl (hH.ptrF hp67) rdLe_rfl agg3)) rfl ?_
      refine DrawG.fl rfl (ev_ex wantS_none (ex_mul rfl rfl)) rfl ?_
      refine DrawG.fl rfl (ev_ex wantS_none (ex_move rfl)) rfl ?_
      obtain ⟨x68, hx68, h⟩ := bnd_some h
      obtain ⟨p68, o68, hb68, hx68, he68⟩ := vec_elem (P := Tryz.prog) (t := 22) (kk := .i64) hH (i := 0) rfl hx68 els22
      refine DrawG.fl rfl (ev_ex wantS_none (ex_elX rfl rfl hx68)) rfl ?_
      refine DrawG.fl rfl (ev_ex wantS_none (ex_load1 rfl (hH.at (enc := enc3) (a := x68) (i := 0) rfl hb68 he68 enc3_len) rdLe_rfl agg3)) rfl ?_
      refine DrawG.fl rfl (ev_ex wantS_none (ex_sub rfl rfl)) rfl ?_
      refine DrawG.fl rfl (ev_ex wantS_none (ex_neq rfl rfl)) rfl ?_
      refine DrawG.sync ?_
      refine DrawG.nil ?_
      rcases btf ((!((w64 (x65 + x66)) == (w64 ((w64 ((v0.length : Int) * x67)) - x68))))) with hc69 | hc69
      · have h := bif_t hc69 h
        refine Run.condT' rfl hc69 ?_
        refine Run.seq (Run.region ?_)
        refine Run.opG wantS_none (ex_assign rfl) rfl ?_
        refine Run.opsEnd ?_
        cases h
        exact Run.ret Tryz.func4 rfl (res_tmp rfl res_nil) rfl
      · have h := bif_f hc69 h
        refine Run.condF' rfl hc69 ?_
        refine Run.skip (Run.inBlock (Run.region ?_))
        refine Run.opG wantS_none (ex_move rfl) rfl ?_
        refine Run.opG wantS_none (ex_add rfl rfl) rfl ?_
        refine Run.opG wantS_none (ex_assign rfl) rfl ?_
        refine Run.opsEnd (Run.inLoop ?_)
        exact Run.pick [0, 7, 11, 13, 14] (ih v0 (w64 (v14 + (1 : Int))) l17 l53 l58 sv0 s17 s53 s58 _ _ _ hv0 hH h)
    · have h := bif_f hc64 h
      refine Run.condF' rfl hc64 ?_
      refine Run.exit rfl (Run.seq (Run.region ?_))
      obtain ⟨r71, hr71, h⟩ := bnd_some h
      refine Run.callP wantS_none (ex_call rfl mkk10 cal10) rfl (works_ok F r71 _ hH (List.mem_of_getElem? (i := 3) rfl) (List.mem_of_getElem? (i := 4) rfl) (List.mem_of_getElem? (i := 5) rfl) hr71) ?_
      refine Run.opG wantS_none (ex_assign rfl) rfl ?_
      refine Run.opsEnd ?_
      cases h
      exact Run.ret Tryz.func4 rfl (res_tmp rfl res_nil) rfl

def law06_GlitchSplits_8 (F : Nat) (v0 : (List Int)) (v105 : Bool) (l17 : (List Int)) (l53 : (List Int)) (l58 : (List Int)) : Option (Bool) :=
  bif v105 then
    some false
  else
    law06_GlitchSplits_9 F F v0 (0 : Int) l17 l53 l58

theorem law06_GlitchSplits_8_ok (F : Nat) : ∀ (v0 : (List Int)) (v105 : Bool) (l17 : (List Int)) (l53 : (List Int)) (l58 : (List Int)) (sv0 : SV) (s17 : SV) (s53 : SV) (s58 : SV) (Fr : Rd) (M : Mem) (r : Bool) (hv0 : Slc Fr 1 (FlatR enc3) sv0 v0) (hH : Has Fr M [.vec 3 1 l17.length s17 (l17.flatMap enc3), .vec 3 1 l53.length s53 (l53.flatMap enc3), .vec 3 1 l58.length s58 (l58.flatMap enc3), tb0, tb1, tb2]), law06_GlitchSplits_8 F v0 v105 l17 l53 l58 = some r → Run Tryz.prog ⟨⟨4, [], none⟩, []⟩ 134 (law06_GlitchSplits_post r) [(0, sv0), (7, s17), (11, s53), (13, s58), (105, (.bool v105))] [codeC Tryz.prog 4 [1, 1, 1, 1, 1, 1, 1, 1, 1, 0, 1], codeC Tryz.prog 4 [1, 1, 1, 1, 1, 1, 1, 1, 1, 1]] M := by
  intro v0 v105 l17 l53 l58 sv0 s17 s53 s58 Fr M r hv0 hH h
  rw [law06_GlitchSplits_8] at h
  rcases btf (v105) with hc63 | hc63
  · have h := bif_t hc63 h
    refine Run.condT' rfl hc63 ?_
    refine Run.seq (Run.region ?_)
    refine Run.opG wantS_none (ex_assign rfl) rfl ?_
    refine Run.opsEnd ?_
    cases h
    exact Run.ret Tryz.func4 rfl (res_tmp rfl res_nil) rfl
  · have h := bif_f hc63 h
    refine Run.condF' rfl hc63 ?_
    refine Run.skip (Run.seq (Run.seq (Run.region ?_)))
    refine Run.opG wantS_none (ex_assign rfl) rfl ?_
    refine Run.opsEnd (Run.block (Run.loop ?_))
    exact Run.pick [0, 7, 11, 13, 14] (law06_GlitchSplits_9_ok F F v0 (0 : Int) l17 l53 l58 sv0 s17 s53 s58 _ _ _ hv0 hH h)

def law06_GlitchSplits_7 (F : Nat) (v0 : (List Int)) (v98 : Bool) (l17 : (List Int)) (l53 : (List Int)) (l58 : (List Int)) : Option (Bool) :=
  bif v98 then
    law06_GlitchSplits_8 F v0 true l17 l53 l58
  else
    law06_GlitchSplits_8 F v0 (!((l58.length : Int) == (v0.length : Int))) l17 l53 l58

theorem law06_GlitchSplits_7_ok (F : Nat) : ∀ (v0 : (List Int)) (v98 : Bool) (l17 : (List Int)) (l53 : (List Int)) (l58 : (List Int)) (sv0 : SV) (s17 : SV) (s53 : SV) (s58 : SV) (Fr : Rd) (M : Mem) (r : Bool) (hv0 : Slc Fr 1 (FlatR enc3) sv0 v0) (hH : Has Fr M [.vec 3 1 l17.length s17 (l17.flatMap enc3), .vec 3 1 l53.length s53 (l53.flatMap enc3), .vec 3 1 l58.length s58 (l58.flatMap enc3), tb0, tb1, tb2]), law06_GlitchSplits_7 F v0 v98 l17 l53 l58 = some r → Run Tryz.prog ⟨⟨4, [], none⟩, []⟩ 134 (law06_GlitchSplits_post r) [(0, sv0), (7, s17), (11, s53), (13, s58), (98, (.bool v98))] [itemC Tryz.prog 4 [1, 1, 1, 1, 1, 1, 1, 1, 1, 0, 0] 13, codeC Tryz.prog 4 [1, 1, 1, 1, 1, 1, 1, 1, 1, 0, 1], codeC Tryz.prog 4 [1, 1, 1, 1, 1, 1, 1, 1, 1, 1]] M := by
  intro v0 v98 l17 l53 l58 sv0 s17 s53 s58 Fr M r hv0 hH h
  rw [law06_GlitchSplits_7] at h
  refine Run.opG wantS_none (ex_move rfl) rfl ?_
  rcases btf (v98) with hc62 | hc62
  · have h := bif_t hc62 h
    refine Run.no (wantS_not' rfl rfl hc62) rfl ?_
    refine Run.no (wantS_not' rfl rfl hc62) rfl ?_
    refine Run.no (wantS_not' rfl rfl hc62) rfl ?_
    refine Run.no (wantS_not' rfl rfl hc62) rfl ?_
    refine Run.no (wantS_not' rfl rfl hc62) rfl ?_
    refine Run.opG wantS_none (ex_pickT' rfl hc62 rfl rfl) rfl ?_
    refine Run.opsEnd ?_
    exact Run.pick [0, 7, 11, 13, 105] (law06_GlitchSplits_8_ok F v0 true l17 l53 l58 sv0 s17 s53 s58 _ _ _ hv0 hH h)
  · have h := bif_f hc62 h
    refine Run.opG (wantS_yes' rfl rfl hc62) (ex_move rfl) rfl ?_
    refine Run.opG (wantS_yes' rfl rfl hc62) (ex_len' rfl (hH.slc (i := 2) rfl enc3_len) lenk22) rfl ?_
    refine Run.opG (wantS_yes' rfl rfl hc62) (ex_move rfl) rfl ?_
    refine Run.opG (wantS_yes' rfl rfl hc62) (ex_len' rfl hv0 lenk22) rfl ?_
    refine Run.opG (wantS_yes' rfl rfl hc62) (ex_neq rfl rfl) rfl ?_
    refine Run.opG wantS_none (ex_pickF' rfl hc62 rfl rfl) rfl ?_
    refine Run.opsEnd ?_
    exact Run.pick [0, 7, 11, 13, 105] (law06_GlitchSplits_8_ok F v0 (!((l58.length : Int) == (v0.length : Int))) l17 l53 l58 sv0 s17 s53 s58 _ _ _ hv0 hH h)

def law06_GlitchSplits_6 (F : Nat) (v0 : (List Int)) (v91 : Bool) (l17 : (List Int)) (l53 : (List Int)) (l58 : (List Int)) : Option (Bool) :=
  bif v91 then
    law06_GlitchSplits_7 F v0 true l17 l53 l58
  else
    law06_GlitchSplits_7 F v0 (!((l53.length : Int) == (v0.length : Int))) l17 l53 l58

theorem law06_GlitchSplits_6_ok (F : Nat) : ∀ (v0 : (List Int)) (v91 : Bool) (l17 : (List Int)) (l53 : (List Int)) (l58 : (List Int)) (sv0 : SV) (s17 : SV) (s53 : SV) (s58 : SV) (Fr : Rd) (M : Mem) (r : Bool) (hv0 : Slc Fr 1 (FlatR enc3) sv0 v0) (hH : Has Fr M [.vec 3 1 l17.length s17 (l17.flatMap enc3), .vec 3 1 l53.length s53 (l53.flatMap enc3), .vec 3 1 l58.length s58 (l58.flatMap enc3), tb0, tb1, tb2]), law06_GlitchSplits_6 F v0 v91 l17 l53 l58 = some r → Run Tryz.prog ⟨⟨4, [], none⟩, []⟩ 134 (law06_GlitchSplits_post r) [(0, sv0), (7, s17), (11, s53), (13, s58), (91, (.bool v91))] [itemC Tryz.prog 4 [1, 1, 1, 1, 1, 1, 1, 1, 1, 0, 0] 6, codeC Tryz.prog 4 [1, 1, 1, 1, 1, 1, 1, 1, 1, 0, 1], codeC Tryz.prog 4 [1, 1, 1, 1, 1, 1, 1, 1, 1, 1]] M := by
  intro v0 v91 l17 l53 l58 sv0 s17 s53 s58 Fr M r hv0 hH h
  rw [law06_GlitchSplits_6] at h
  refine Run.opG wantS_none (ex_move rfl) rfl ?_
  rcases btf (v91) with hc61 | hc61
  · have h := bif_t hc61 h
    refine Run.no (wantS_not' rfl rfl hc61) rfl ?_
    refine Run.no (wantS_not' rfl rfl hc61) rfl ?_
    refine Run.no (wantS_not' rfl rfl hc61) rfl ?_
    refine Run.no (wantS_not' rfl rfl hc61) rfl ?_
    refine Run.no (wantS_not' rfl rfl hc61) rfl ?_
    refine Run.opG wantS_none (ex_pickT' rfl hc61 rfl rfl) rfl ?_
    exact Run.pick [0, 7, 11, 13, 98] (law06_GlitchSplits_7_ok F v0 true l17 l53 l58 sv0 s17 s53 s58 _ _ _ hv0 hH h)
  · have h := bif_f hc61 h
    refine Run.opG (wantS_yes' rfl rfl hc61) (ex_move rfl) rfl ?_
    refine Run.opG (wantS_yes' rfl rfl hc61) (ex_len' rfl (hH.slc (i := 1) rfl enc3_len) lenk22) rfl ?_
    refine Run.opG (wantS_yes' rfl rfl hc61) (ex_move rfl) rfl ?_
    refine Run.opG (wantS_yes' rfl rfl hc61) (ex_len' rfl hv0 lenk22) rfl ?_
    refine Run.opG (wantS_yes' rfl rfl hc61) (ex_neq rfl rfl) rfl ?_
    refine Run.opG wantS_none (ex_pickF' rfl hc61 rfl rfl) rfl ?_
    exact Run.pick [0, 7, 11, 13, 98] (law06_GlitchSplits_7_ok F v0 (!((l53.length : Int) == (v0.length : Int))) l17 l53 l58 sv0 s17 s53 s58 _ _ _ hv0 hH h)

def law06_GlitchSplits_3 (F : Nat) : Nat → (List Int) → (List Int) → Int → (List S_api_Tile) → (List Int) → (List S_api_Tile) → (List S_api_Tile) → Option (Bool)
  | 0, _, _, _, _, _, _, _ => none
  | N + 1, v0, v1, v10, l7, l17, l21, l23 =>
    bif (decide (v10 < (l7.length : Int))) then
      bif (decide (v10 < (v1.length : Int))) then
        bnd (idx v1 v10) fun x28 =>
        law06_GlitchSplits_4 F (law06_GlitchSplits_3 F N) v0 v1 v10 ((Int.tmod x28 (2 : Int)) == (0 : Int)) l7 l17 l21 l23
      else
        law06_GlitchSplits_4 F (law06_GlitchSplits_3 F N) v0 v1 v10 false l7 l17 l21 l23
    else
      bnd (glitch_Part F v0 l21) fun r52 =>
      bnd (glitch_Part F v0 l23) fun r57 =>
      bif (!(r52.2 == (0 : Int))) then
        law06_GlitchSplits_6 F v0 true l17 r52.1 r57.1
      else
        law06_GlitchSplits_6 F v0 (!(r57.2 == (0 : Int))) l17 r52.1 r57.1

theorem law06_GlitchSplits_3_ok (F : Nat) : ∀ (N : Nat), ∀ (v0 : (List Int)) (v1 : (List Int)) (v10 : Int) (l7 : (List S_api_Tile)) (l17 : (List Int)) (l21 : (List S_api_Tile)) (l23 : (List S_api_Tile)) (sv0 : SV) (sv1 : SV) (s7 : SV) (s17 : SV) (s21 : SV) (s23 : SV) (Fr : Rd) (M : Mem) (r : Bool) (hv0 : Slc Fr 1 (FlatR enc3) sv0 v0) (hv1 : Slc Fr 1 (FlatR enc3) sv1 v1) (hH : Has Fr M [.vec 32 3 l7.length s7 (l7.flatMap enc32), .vec 3 1 l17.length s17 (l17.flatMap enc3), .vec 32 3 l21.length s21 (l21.flatMap enc32), .vec 32 3 l23.length s23 (l23.flatMap enc32), tb0, tb1, tb2]), law06_GlitchSplits_3 F N v0 v1 v10 l7 l17 l21 l23 = some r → Run Tryz.prog ⟨⟨4, [], none⟩, []⟩ 134 (law06_GlitchSplits_post r) [(0, sv0), (1, sv1), (5, s7), (7, s17), (8, s21), (9, s23), (10, (.int .i64 v10))] [codeC Tryz.prog 4 [1, 1, 1, 1, 1, 1, 0, 1, 0, 0], loopC Tryz.prog 4 [1, 1, 1, 1, 1, 1, 0, 1, 0, 0], .inBlock 0, codeC Tryz.prog 4 [1, 1, 1, 1, 1, 1, 1]] M := by
  intro N
  induction N with
  | zero =>
    intro v0 v1 v10 l7 l17 l21 l23 sv0 sv1 s7 s17 s21 s23 Fr M r hv0 hv1 hH h
    simp [law06_GlitchSplits_3] at h
  | succ N ih =>
    intro v0 v1 v10 l7 l17 l21 l23 sv0 sv1 s7 s17 s21 s23 Fr M r hv0 hv1 hH h
    rw [law06_GlitchSplits_3] at h
    refine Run.seq (Run.seq (Run.region ?_))
    refine Run.opG wantS_none (ex_move rfl) rfl ?_
    refine Run.opG wantS_none (ex_move rfl) rfl ?_
    refine Run.opG wantS_none (ex_len' rfl (hH.slc (i := 0) rfl enc32_len) lenk28) rfl ?_
    refine Run.opG wantS_none (ex_lss rfl rfl) rfl ?_
    refine Run.opsEnd ?_
    rcases btf ((decide (v10 < (l7.length : Int)))) with hc25 | hc25
    · have h := bif_t hc25 h
      refine Run.condT' rfl hc25 ?_
      refine Run.skip (Run.seq (Run.block (Run.seq (Run.region ?_))))
      refine Run.opG wantS_none (ex_move rfl) rfl ?_
      refine Run.opG wantS_none (ex_move rfl) rfl ?_
      refine Run.opG wantS_none (ex_len' rfl hv1 lenk22) rfl ?_
      refine Run.opG wantS_none (ex_lss rfl rfl) rfl ?_
      refine Run.opG wantS_none (ex_move rfl) rfl ?_
      rcases btf ((decide (v10 < (v1.length : Int)))) with hc26 | hc26
      · have h := bif_t hc26 h
        refine Run.opG (wantS_yes' rfl rfl hc26) (ex_move rfl) rfl ?_
        refine Run.opG (wantS_yes' rfl rfl hc26) (ex_move rfl) rfl ?_
        obtain ⟨x28, hx28, h⟩ := bnd_some h
        obtain ⟨p28, o28, _, hx28, hp28, rfl⟩ := sl_elem (P := Tryz.prog) (t := 22) (kk := .i64) hv1 hx28 els22
        refine Run.opG (wantS_yes' rfl rfl hc26) (ex_elX rfl rfl hx28) rfl ?_
        refine Run.opG (wantS_yes' rfl rfl hc26) (ex_load1 rfl (hH.ptrF hp28) rdLe_rfl agg3) rfl ?_
        refine Run.opG (wantS_yes' rfl rfl hc26) (ex_rem rfl rfl (by decide)) rfl ?_
        refine Run.opG (wantS_yes' rfl rfl hc26) (ex_eql rfl rfl) rfl ?_
        refine Run.opG wantS_none (ex_pickT' rfl hc26 rfl rfl) rfl ?_
        refine Run.opsEnd ?_
        exact Run.pick [0, 1, 5, 7, 8, 9, 10, 59] (law06_GlitchSplits_4_ok F (law06_GlitchSplits_3 F N) ih v0 v1 v10 ((Int.tmod x28 (2 : Int)) == (0 : Int)) l7 l17 l21 l23 sv0 sv1 s7 s17 s21 s23 _ _ _ hv0 hv1 hH h)
      · have h := bif_f hc26 h
        refine Run.no (wantS_not' rfl rfl hc26) rfl ?_
        refine Run.no (wantS_not' rfl rfl hc26) rfl ?_
        refine Run.no (wantS_not' rfl rfl hc26) rfl ?_
        refine Run.no (wantS_not' rfl rfl hc26) rfl ?_
        refine Run.no (wantS_not' rfl rfl hc26) rfl ?_
        refine Run.no (wantS_not' rfl rfl hc26) rfl ?_
        refine Run.opG wantS_none (ex_pickF' rfl hc26 rfl rfl) rfl ?_
        refine Run.opsEnd ?_
        exact Run.pick [0, 1, 5, 7, 8, 9, 10, 59] (law06_GlitchSplits_4_ok F (law06_GlitchSplits_3 F N) ih v0 v1 v10 false l7 l17 l21 l23 sv0 sv1 s7 s17 s21 s23 _ _ _ hv0 hv1 hH h)
    · have h := bif_f hc25 h
      refine Run.condF' rfl hc25 ?_
      refine Run.exit rfl (Run.seq (Run.region ?_))
      refine Run.opG wantS_none (ex_move rfl) rfl ?_
      refine Run.opG wantS_none (ex_move rfl) rfl ?_
      obtain ⟨r52, hr52, h⟩ := bnd_some h
      refine Run.callX wantS_none (ex_call rfl mkk13 cal13) rfl (glitch_Part_ok F v0 l21 sv0 s21 _ _ (hH.slcF hv0) (hH.slc (i := 2) rfl enc32_len) hr52) ?_
      rintro _ M54 ⟨s52_0, rfl, hN52⟩
      have hH54 : Has Fr M54 [.vec 3 1 r52.1.length s52_0 (r52.1.flatMap enc3), .vec 32 3 l7.length s7 (l7.flatMap enc32), .vec 3 1 l17.length s17 (l17.flatMap enc3), .vec 32 3 l21.length s21 (l21.flatMap enc32), .vec 32 3 l23.length s23 (l23.flatMap enc32), tb0, tb1, tb2] := hN52.1 _ _ hH
      refine Run.opG wantS_none (ex_move rfl) rfl ?_
      refine Run.opG wantS_none (ex_extract rfl rfl) rfl ?_
      refine Run.opG wantS_none (ex_extract rfl rfl) rfl ?_
      refine Run.opG wantS_none (ex_assign rfl) rfl ?_
      refine Run.opG wantS_none (ex_assign rfl) rfl ?_
      refine Run.opsEnd (Run.seq (Run.region ?_))
      refine Run.opG wantS_none (ex_move rfl) rfl ?_
      refine Run.opG wantS_none (ex_move rfl) rfl ?_
      obtain ⟨r57, hr57, h⟩ := bnd_some h
      refine Run.callX wantS_none (ex_call rfl mkk13 cal13) rfl (glitch_Part_ok F v0 l23 sv0 s23 _ _ (hH54.slcF hv0) (hH54.slc (i := 4) rfl enc32_len) hr57) ?_
      rintro _ M59 ⟨s57_0, rfl, hN57⟩
      have hH59 : Has Fr M59 [.vec 3 1 r57.1.length s57_0 (r57.1.flatMap enc3), .vec 3 1 r52.1.length s52_0 (r52.1.flatMap enc3), .vec 32 3 l7.length s7 (l7.flatMap enc32), .vec 3 1 l17.length s17 (l17.flatMap enc3), .vec 32 3 l21.length s21 (l21.flatMap enc32), .vec 32 3 l23.length s23 (l23.flatMap enc32), tb0, tb1, tb2] := hN57.1 _ _ hH54
      refine Run.opG wantS_none (ex_move rfl) rfl ?_
      refine Run.opG wantS_none (ex_extract rfl rfl) rfl ?_
      refine Run.opG wantS_none (ex_extract rfl rfl) rfl ?_
      refine Run.opG wantS_none (ex_assign rfl) rfl ?_
      refine Run.opG wantS_none (ex_assign rfl) rfl ?_
      refine Run.opsEnd (Run.seq (Run.seq (Run.region ?_)))
      refine Run.opG wantS_none (ex_move rfl) rfl ?_
      refine Run.opG wantS_none (ex_neq rfl rfl) rfl ?_
      refine Run.opG wantS_none (ex_move rfl) rfl ?_
      rcases btf ((!(r52.2 == (0 : Int)))) with hc60 | hc60
      · have h := bif_t hc60 h
        refine Run.no (wantS_not' rfl rfl hc60) rfl ?_
        refine Run.no (wantS_not' rfl rfl hc60) rfl ?_
        refine Run.opG wantS_none (ex_pickT' rfl hc60 rfl rfl) rfl ?_
        exact Run.pick [0, 7, 11, 13, 91] (law06_GlitchSplits_6_ok F v0 true l17 r52.1 r57.1 sv0 s17 s52_0 s57_0 _ _ _ hv0 (hH59.pick [3, 1, 0, 6, 7, 8] rfl rfl) h)
      · have h := bif_f hc60 h
        refine Run.opG (wantS_yes' rfl rfl hc60) (ex_move rfl) rfl ?_
        refine Run.opG (wantS_yes' rfl rfl hc60) (ex_neq rfl rfl) rfl ?_
        refine Run.opG wantS_none (ex_pickF' rfl hc60 rfl rfl) rfl ?_
        exact Run.pick [0, 7, 11, 13, 91] (law06_GlitchSplits_6_ok F v0 (!(r57.2 == (0 : Int))) l17 r52.1 r57.1 sv0 s17 s52_0 s57_0 _ _ _ hv0 (hH59.pick [3, 1, 0, 6, 7, 8] rfl rfl) h)

def law06_GlitchSplits_2 (F : Nat) (v0 : (List Int)) (v1 : (List Int)) (v41 : Bool) (l7 : (List S_api_Tile)) (l17 : (List Int)) : Option (Bool) :=
  bif v41 then
    some false
  else
    law06_GlitchSplits_3 F F v0 v1 (0 : Int) l7 l17 ([] : List S_api_Tile) ([] : List S_api_Tile)

theorem law06_GlitchSplits_2_ok (F : Nat) : ∀ (v0 : (List Int)) (v1 : (List Int)) (v41 : Bool) (l7 : (List S_api_Tile)) (l17 : (List Int)) (sv0 : SV) (sv1 : SV) (s7 : SV) (s17 : SV) (Fr : Rd) (M : Mem) (r : Bool) (hv0 : Slc Fr 1 (FlatR enc3) sv0 v0) (hv1 : Slc Fr 1 (FlatR enc3) sv1 v1) (hH : Has Fr M [.vec 32 3 l7.length s7 (l7.flatMap enc32), .vec 3 1 l17.length s17 (l17.flatMap enc3), tb0, tb1, tb2]), law06_GlitchSplits_2 F v0 v1 v41 l7 l17 = some r → Run Tryz.prog ⟨⟨4, [], none⟩, []⟩ 134 (law06_GlitchSplits_post r) [(0, sv0), (1, sv1), (5, s7), (7, s17), (41, (.bool v41))] [codeC Tryz.prog 4 [1, 1, 1, 1, 0, 1], codeC Tryz.prog 4 [1, 1, 1, 1, 1]] M := by
  intro v0 v1 v41 l7 l17 sv0 sv1 s7 s17 Fr M r hv0 hv1 hH h
  rw [law06_GlitchSplits_2] at h
  rcases btf (v41) with hc20 | hc20
  · have h := bif_t hc20 h
    refine Run.condT' rfl hc20 ?_
    refine Run.seq (Run.region ?_)
    refine Run.opG wantS_none (ex_assign rfl) rfl ?_
    refine Run.opsEnd ?_
    cases h
    exact Run.ret Tryz.func4 rfl (res_tmp rfl res_nil) rfl
  · have h := bif_f hc20 h
    refine Run.condF' rfl hc20 ?_
    refine Run.skip (Run.seq (Run.region ?_))
    refine Run.opG wantS_none (ex_assign rfl) rfl ?_
    refine Run.opG wantS_none (ex_assign rfl) rfl ?_
    refine Run.opsEnd (Run.seq (Run.seq (Run.region ?_)))
    refine Run.opG wantS_none (ex_assign rfl) rfl ?_
    refine Run.opsEnd (Run.block (Run.loop ?_))
    have hH22 : Has Fr M [.vec 32 3 ([] : List S_api_Tile).length .nils (([] : List S_api_Tile).flatMap enc32), .vec 32 3 l7.length s7 (l7.flatMap enc32), .vec 3 1 l17.length s17 (l17.flatMap enc3), tb0, tb1, tb2] := hH.nils 32 3
    have hH24 : Has Fr M [.vec 32 3 ([] : List S_api_Tile).length .nils (([] : List S_api_Tile).flatMap enc32), .vec 32 3 ([] : List S_api_Tile).length .nils (([] : List S_api_Tile).flatMap enc32), .vec 32 3 l7.length s7 (l7.flatMap enc32), .vec 3 1 l17.length s17 (l17.flatMap enc3), tb0, tb1, tb2] := hH22.nils 32 3
    exact Run.pick [0, 1, 5, 7, 8, 9, 10] (law06_GlitchSplits_3_ok F F v0 v1 (0 : Int) l7 l17 ([] : List S_api_Tile) ([] : List S_api_Tile) sv0 sv1 s7 s17 .nils .nils _ _ _ hv0 hv1 (hH24.pick [2, 3, 1, 0, 4, 5, 6] rfl rfl) h)

def law06_GlitchSplits (F : Nat) (a0 : (List Int)) (a1 : (List Int)) : Option (Bool) :=
  bnd (glitch_Tiles F a0) fun r6 =>
  bif (!(r6.2 == (0 : Int))) then
    bif ((r6.1.length : Int) == (0 : Int)) then
      bnd (works F) fun r12 =>
      law06_GlitchSplits_1 F r12
    else
      law06_GlitchSplits_1 F false
  else
    bnd (glitch_Transform F a0) fun r16 =>
    bif (!(r16.2 == (0 : Int))) then
      law06_GlitchSplits_2 F a0 a1 true r6.1 r16.1
    else
      law06_GlitchSplits_2 F a0 a1 (!((r16.1.length : Int) == (a0.length : Int))) r6.1 r16.1

theorem law06_GlitchSplits_run (F : Nat) (a0 : (List Int)) (a1 : (List Int)) (s0 s1 : SV) (r : Bool) (M : Mem) (hs0 : Slc (rd M) 1 (FlatR enc3) s0 a0) (hs1 : Slc (rd M) 1 (FlatR enc3) s1 a1) (hfx : FixIn M fixes) (h : law06_GlitchSplits F a0 a1 = some r) : Run Tryz.prog (fx0 4) 134 (law06_GlitchSplits_post r) [(0, s0), (1, s1)] [codeC Tryz.prog 4 []] (frozen M) := by
  rw [law06_GlitchSplits] at h
  replace hs0 := hs0.mono (rdLe_frozen M) (fun _ _ h => h)
  replace hs1 := hs1.mono (rdLe_frozen M) (fun _ _ h => h)
  have hH : Has (ro (frozen M)) (frozen M) [tb0, tb1, tb2] := Has.ofFix hfx.frozen
  refine Run.seq (Run.region ?_)
  refine Run.opG wantS_none (ex_assign rfl) rfl ?_
  refine Run.opsEnd (Run.seq (Run.region ?_))
  refine Run.opG wantS_none (ex_move rfl) rfl ?_
  obtain ⟨r6, hr6, h⟩ := bnd_some h
  refine Run.callX wantS_none (ex_call rfl mkk12 cal12) rfl (glitch_Tiles_ok F a0 s0 _ _ (hH.slcF hs0) hr6) ?_
  rintro _ M8 ⟨s6_0, rfl, hN6⟩
  have hH8 : Has (ro (frozen M)) M8 [.vec 32 3 r6.1.length s6_0 (r6.1.flatMap enc32), tb0, tb1, tb2] := hN6.1 _ _ hH
  refine Run.opG wantS_none (ex_move rfl) rfl ?_
  refine Run.opG wantS_none (ex_extract rfl rfl) rfl ?_
  refine Run.opG wantS_none (ex_extract rfl rfl) rfl ?_
  refine Run.opG wantS_none (ex_assign rfl) rfl ?_
  refine Run.opG wantS_none (ex_assign rfl) rfl ?_
  refine Run.opsEnd (Run.seq (Run.seq (Run.region ?_)))
  refine Run.opG wantS_none (ex_move rfl) rfl ?_
  refine Run.opG wantS_none (ex_neq rfl rfl) rfl ?_
  refine Run.opsEnd ?_
  rcases btf ((!(r6.2 == (0 : Int)))) with hc9 | hc9
  · have h := bif_t hc9 h
    refine Run.condT' rfl hc9 ?_
    refine Run.seq (Run.region ?_)
    refine Run.opG wantS_none (ex_move rfl) rfl ?_
    refine Run.opG wantS_none (ex_len' rfl (hH8.slc (i := 0) rfl enc32_len) lenk28) rfl ?_
    refine Run.opG wantS_none (ex_eql rfl rfl) rfl ?_
    refine Run.opG wantS_none (ex_move rfl) rfl ?_
    rcases btf (((r6.1.length : Int) == (0 : Int))) with hc10 | hc10
    · have h := bif_t hc10 h
      obtain ⟨r12, hr12, h⟩ := bnd_some h
      refine Run.callP (wantS_yes' rfl rfl hc10) (ex_call rfl mkk10 cal10) rfl (works_ok F r12 _ hH8 (List.mem_of_getElem? (i := 1) rfl) (List.mem_of_getElem? (i := 2) rfl) (List.mem_of_getElem? (i := 3) rfl) hr12) ?_
      refine Run.opG wantS_none (ex_pickT' rfl hc10 rfl rfl) rfl ?_
      exact Run.pick [27] (law06_GlitchSplits_1_ok F r12 _ _ _ (hH8.pick [1, 2, 3] rfl rfl) h)
    · have h := bif_f hc10 h
      refine Run.no (wantS_not' rfl rfl hc10) rfl ?_
      refine Run.opG wantS_none (ex_pickF' rfl hc10 rfl rfl) rfl ?_
      exact Run.pick [27] (law06_GlitchSplits_1_ok F false _ _ _ (hH8.pick [1, 2, 3] rfl rfl) h)
  · have h := bif_f hc9 h
    refine Run.condF' rfl hc9 ?_
    refine Run.skip (Run.seq (Run.region ?_))
    refine Run.opG wantS_none (ex_move rfl) rfl ?_
    obtain ⟨r16, hr16, h⟩ := bnd_some h
    refine Run.callX wantS_none (ex_call rfl mkk9 cal9) rfl (glitch_Transform_ok F a0 s0 _ _ (hH8.slcF hs0) hr16) ?_
    rintro _ M18 ⟨s16_0, rfl, hN16⟩
    have hH18 : Has (ro (frozen M)) M18 [.vec 3 1 r16.1.length s16_0 (r16.1.flatMap enc3), .vec 32 3 r6.1.length s6_0 (r6.1.flatMap enc32), tb0, tb1, tb2] := hN16.1 _ _ hH8
    refine Run.opG wantS_none (ex_move rfl) rfl ?_
    refine Run.opG wantS_none (ex_extract rfl rfl) rfl ?_
    refine Run.opG wantS_none (ex_extract rfl rfl) rfl ?_
    refine Run.opG wantS_none (ex_assign rfl) rfl ?_
    refine Run.opG wantS_none (ex_assign rfl) rfl ?_
    refine Run.opsEnd (Run.seq (Run.seq (Run.region ?_)))
    refine Run.opG wantS_none (ex_move rfl) rfl ?_
    refine Run.opG wantS_none (ex_neq rfl rfl) rfl ?_
    refine Run.opG wantS_none (ex_move rfl) rfl ?_
    rcases btf ((!(r16.2 == (0 : Int)))) with hc19 | hc19
    · have h := bif_t hc19 h
      refine Run.no (wantS_not' rfl rfl hc19) rfl ?_
      refine Run.no (wantS_not' rfl rfl hc19) rfl ?_
      refine Run.no (wantS_not' rfl rfl hc19) rfl ?_
      refine Run.no (wantS_not' rfl rfl hc19) rfl ?_
      refine Run.no (wantS_not' rfl rfl hc19) rfl ?_
      refine Run.opG wantS_none (ex_pickT' rfl hc19 rfl rfl) rfl ?_
      refine Run.opsEnd ?_
      exact Run.pick [0, 1, 5, 7, 41] (law06_GlitchSplits_2_ok F a0 a1 true r6.1 r16.1 s0 s1 s6_0 s16_0 _ _ _ hs0 hs1 (hH18.pick [1, 0, 2, 3, 4] rfl rfl) h)
    · have h := bif_f hc19 h
      refine Run.opG (wantS_yes' rfl rfl hc19) (ex_move rfl) rfl ?_
      refine Run.opG (wantS_yes' rfl rfl hc19) (ex_len' rfl (hH18.slc (i := 0) rfl enc3_len) lenk22) rfl ?_
      refine Run.opG (wantS_yes' rfl rfl hc19) (ex_move rfl) rfl ?_
      refine Run.opG (wantS_yes' rfl rfl hc19) (ex_len' rfl hs0 lenk22) rfl ?_
      refine Run.opG (wantS_yes' rfl rfl hc19) (ex_neq rfl rfl) rfl ?_
      refine Run.opG wantS_none (ex_pickF' rfl hc19 rfl rfl) rfl ?_
      refine Run.opsEnd ?_
      exact Run.pick [0, 1, 5, 7, 41] (law06_GlitchSplits_2_ok F a0 a1 (!((r16.1.length : Int) == (a0.length : Int))) r6.1 r16.1 s0 s1 s6_0 s16_0 _ _ _ hs0 hs1 (hH18.pick [1, 0, 2, 3, 4] rfl rfl) h)

end Go.Ev.GlitchSplits
