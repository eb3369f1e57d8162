/- Plain functions that say what functions of the program come to, and proofs of it, written by a program of the verifier's own. -/
import Derived.Test.YtdjaigpcfhbcmaaGreatDoorEvL9
import Derived.Test.YtdjaigpcfhbcmaaGreatDoorWorks
import Derived.KernelRfl
namespace Go.Ev.GlitchLinear
open Go Go.Ev Go.Proofs
set_option maxRecDepth 100000
set_option linter.unusedVariables false

/-- The listed tables. -/
noncomputable def fixes : List (Nat × List SV) := Go.Proofs.YtdjaigpcfhbcmaaGreatDoor.works.fixes
noncomputable def tb0 : Ent := fixE (5, intCells .u8 [0, 1, 28, 2, 29, 14, 24, 3, 30, 22, 20, 15, 25, 17, 4, 8, 31, 27, 13, 23, 21, 19, 16, 7, 26, 12, 18, 6, 11, 5, 10, 9])
noncomputable def tb1 : Ent := fixE (2, intCells .u8 [0, 1, 56, 2, 57, 49, 28, 3, 61, 58, 42, 50, 38, 29, 17, 4, 62, 47, 59, 36, 45, 43, 51, 22, 53, 39, 33, 30, 24, 18, 12, 5, 63, 55, 48, 27, 60, 41, 37, 16, 46, 35, 44, 21, 52, 32, 23, 11, 54, 26, 40, 15, 34, 20, 31, 10, 25, 14, 19, 9, 13, 8, 7, 6])
noncomputable def tb2 : Ent := fixE (4, intCells .u64 [1, 10, 100, 1000, 10000, 100000, 1000000, 10000000, 100000000, 1000000000, 10000000000, 100000000000, 1000000000000, 10000000000000, 100000000000000, 1000000000000000, 10000000000000000, 100000000000000000, 1000000000000000000, 10000000000000000000])
/-- works() comes to true. -/
def works (_ : Nat) : Option Bool := some true
theorem works_ok (F : Nat) (r : Bool) {Fr : Rd} {H : List Ent} (M : Mem) (hH : Has Fr M H) (h0 : tb0 ∈ H) (h1 : tb1 ∈ H) (h2 : tb2 ∈ H) (h : works F = some r) : CallsM Tryz.prog 10 [] M fun s M' => s = .bool r ∧ M' = M := by
  cases h
  refine CallsM.closedFix (n := 300) (l := Go.Proofs.YtdjaigpcfhbcmaaGreatDoor.works.fixes) Go.Proofs.YtdjaigpcfhbcmaaGreatDoor.works.below Go.Proofs.YtdjaigpcfhbcmaaGreatDoor.works.plainF Go.Proofs.YtdjaigpcfhbcmaaGreatDoor.works.works_true (hH.fixIn fun x hx => ?_)
  simp only [Go.Proofs.YtdjaigpcfhbcmaaGreatDoor.works.fixes, List.mem_cons, List.not_mem_nil, or_false] at hx
  rcases hx with rfl | rfl | rfl
  · exact h0
  · exact h1
  · exact h2


def enc3 (a : Int) : List SV := [(.int .i64 a)]
theorem enc3_len (a : Int) : (enc3 a).length = 1 := rfl
theorem enc3_ones (a : Int) : ones (enc3 a) = true := rfl
theorem lenk22 : lenK Tryz.prog 22 = some .sl := by kernel_rfl
abbrev glitch_isFrom_post (r : Bool) : SV → Mem → Prop := fun s _ => s = (.bool r)

def glitch_isFrom_1 (F : Nat) (v14 : Bool) : Option (Bool) :=
  some v14

theorem glitch_isFrom_1_ok (F : Nat) : ∀ (v14 : Bool) (Fr : Rd) (M : Mem) (r : Bool) (hH : Has Fr M []), glitch_isFrom_1 F v14 = some r → Run Tryz.prog ⟨⟨80, [], none⟩, []⟩ 15 (glitch_isFrom_post r) [(14, (.bool v14))] [itemC Tryz.prog 80 [1, 0] 8, codeC Tryz.prog 80 [1, 1]] M := by
  intro v14 Fr M r hH h
  rw [glitch_isFrom_1] at h
  refine Run.opG wantS_none (ex_assign rfl) rfl ?_
  refine Run.opsEnd ?_
  cases h
  exact Run.ret Tryz.func80 rfl (res_tmp rfl res_nil) rfl

def glitch_isFrom (F : Nat) (a0 : Int) (a1 : Int) (a2 : Int) : Option (Bool) :=
  bif (decide (a0 ≤ a1)) then
    glitch_isFrom_1 F (decide (a1 ≤ a2))
  else
    glitch_isFrom_1 F false

theorem glitch_isFrom_ok (F : Nat) (a0 : Int) (a1 : Int) (a2 : Int) (r : Bool) (M : Mem) (h : glitch_isFrom F a0 a1 a2 = some r) : CallsM Tryz.prog 80 [(.int .i64 a0), (.int .i64 a1), (.int .i64 a2)] M (fun s M' => s = (.bool r) ∧ M' = M) := by
  refine CallsM.plain Tryz.func80 rfl rfl rfl (show Run _ _ _ (glitch_isFrom_post r) _ _ _ from ?_)
  rw [glitch_isFrom] at h
  have hH := Has.nil (frozen M)
  refine Run.seq (Run.region ?_)
  refine Run.opG wantS_none (ex_assign rfl) rfl ?_
  refine Run.opsEnd (Run.seq (Run.region ?_))
  refine Run.opG wantS_none (ex_move rfl) rfl ?_
  refine Run.opG wantS_none (ex_move rfl) rfl ?_
  refine Run.opG wantS_none (ex_leq rfl rfl) rfl ?_
  refine Run.opG wantS_none (ex_move rfl) rfl ?_
  rcases btf ((decide (a0 ≤ a1))) with hc1 | hc1
  · have h := bif_t hc1 h
    refine Run.opG (wantS_yes' rfl rfl hc1) (ex_move rfl) rfl ?_
    refine Run.opG (wantS_yes' rfl rfl hc1) (ex_move rfl) rfl ?_
    refine Run.opG (wantS_yes' rfl rfl hc1) (ex_leq rfl rfl) rfl ?_
    refine Run.opG wantS_none (ex_pickT' rfl hc1 rfl rfl) rfl ?_
    exact Run.pick [14] (glitch_isFrom_1_ok F (decide (a1 ≤ a2)) _ _ _ hH h)
  · have h := bif_f hc1 h
    refine Run.no (wantS_not' rfl rfl hc1) rfl ?_
    refine Run.no (wantS_not' rfl rfl hc1) rfl ?_
    refine Run.no (wantS_not' rfl rfl hc1) rfl ?_
    refine Run.opG wantS_none (ex_pickF' rfl hc1 rfl rfl) rfl ?_
    exact Run.pick [14] (glitch_isFrom_1_ok F false _ _ _ hH h)

theorem mkk80 : makeK Tryz.prog 80 = none := by kernel_rfl
theorem cal80 : callable Tryz.prog 80 = true := by kernel_rfl
abbrev glitch_isLength_post (r : Bool) : SV → Mem → Prop := fun s _ => s = (.bool r)

def glitch_isLength_1 (F : Nat) (v11 : Bool) : Option (Bool) :=
  some v11

theorem glitch_isLength_1_ok (F : Nat) : ∀ (v11 : Bool) (Fr : Rd) (M : Mem) (r : Bool) (hH : Has Fr M []), glitch_isLength_1 F v11 = some r → Run Tryz.prog ⟨⟨64, [], none⟩, []⟩ 12 (glitch_isLength_post r) [(11, (.bool v11))] [itemC Tryz.prog 64 [1, 0] 9, codeC Tryz.prog 64 [1, 1]] M := by
  intro v11 Fr M r hH h
  rw [glitch_isLength_1] at h
  refine Run.opG wantS_none (ex_assign rfl) rfl ?_
  refine Run.opsEnd ?_
  cases h
  exact Run.ret Tryz.func64 rfl (res_tmp rfl res_nil) rfl

def glitch_isLength (F : Nat) (a0 : Int) : Option (Bool) :=
  bnd (glitch_isFrom F (1 : Int) a0 (1024 : Int)) fun r2 =>
  bif r2 then
    bnd (bitZ Nat.land .i64 a0 (w64 (a0 - (1 : Int)))) fun z6 =>
    glitch_isLength_1 F (z6 == (0 : Int))
  else
    glitch_isLength_1 F false

theorem glitch_isLength_ok (F : Nat) (a0 : Int) (r : Bool) (M : Mem) (h : glitch_isLength F a0 = some r) : CallsM Tryz.prog 64 [(.int .i64 a0)] M (fun s M' => s = (.bool r) ∧ M' = M) := by
  refine CallsM.plain Tryz.func64 rfl rfl rfl (show Run _ _ _ (glitch_isLength_post r) _ _ _ from ?_)
  rw [glitch_isLength] at h
  have hH := Has.nil (frozen M)
  refine Run.seq (Run.region ?_)
  refine Run.opG wantS_none (ex_assign rfl) rfl ?_
  refine Run.opsEnd (Run.seq (Run.region ?_))
  refine Run.opG wantS_none (ex_move rfl) rfl ?_
  obtain ⟨r2, hr2, h⟩ := bnd_some h
  refine Run.callP wantS_none (ex_call rfl mkk80 cal80) rfl (glitch_isFrom_ok F (1 : Int) a0 (1024 : Int) _ _ hr2) ?_
  refine Run.opG wantS_none (ex_move rfl) rfl ?_
  rcases btf (r2) with hc4 | hc4
  · have h := bif_t hc4 h
    refine Run.opG (wantS_yes' rfl rfl hc4) (ex_move rfl) rfl ?_
    refine Run.opG (wantS_yes' rfl rfl hc4) (ex_move rfl) rfl ?_
    refine Run.opG (wantS_yes' rfl rfl hc4) (ex_sub rfl rfl) rfl ?_
    obtain ⟨z6, hz6, h⟩ := bnd_some h
    refine Run.opG (wantS_yes' rfl rfl hc4) (ex_and rfl rfl hz6) rfl ?_
    refine Run.opG (wantS_yes' rfl rfl hc4) (ex_eql rfl rfl) rfl ?_
    refine Run.opG wantS_none (ex_pickT' rfl hc4 rfl rfl) rfl ?_
    exact Run.pick [11] (glitch_isLength_1_ok F (z6 == (0 : Int)) _ _ _ hH h)
  · have h := bif_f hc4 h
    refine Run.no (wantS_not' rfl rfl hc4) rfl ?_
    refine Run.no (wantS_not' rfl rfl hc4) rfl ?_
    refine Run.no (wantS_not' rfl rfl hc4) rfl ?_
    refine Run.no (wantS_not' rfl rfl hc4) rfl ?_
    refine Run.no (wantS_not' rfl rfl hc4) rfl ?_
    refine Run.opG wantS_none (ex_pickF' rfl hc4 rfl rfl) rfl ?_
    exact Run.pick [11] (glitch_isLength_1_ok F false _ _ _ hH h)

theorem mkk64 : makeK Tryz.prog 64 = none := by kernel_rfl
theorem cal64 : callable Tryz.prog 64 = true := by kernel_rfl
theorem els22 : elems Tryz.prog 22 = some (.sl 1) := by kernel_rfl
theorem agg3 : aggSize Tryz.prog 3 = some none := by kernel_rfl
abbrev glitch_areFrom_post (r : Bool) : SV → Mem → Prop := fun s _ => s = (.bool r)

def glitch_areFrom_1 (F : Nat) : Nat → Int → (List Int) → Int → Int → Option (Bool)
  | 0, _, _, _, _ => none
  | N + 1, v1, v7, v8, v9 =>
    bif (decide (v9 < v8)) then
      bnd (idx v7 v9) fun x3 =>
      bnd (glitch_isFrom F (w64 (-v1)) x3 v1) fun r5 =>
      bif (!r5) then
        some false
      else
        (glitch_areFrom_1 F N) v1 v7 v8 (w64 (v9 + (1 : Int)))
    else
      some true

theorem glitch_areFrom_1_ok (F : Nat) : ∀ (N : Nat), ∀ (v1 : Int) (v7 : (List Int)) (v8 : Int) (v9 : Int) (sv7 : SV) (Fr : Rd) (M : Mem) (r : Bool) (hv7 : Slc Fr 1 (FlatR enc3) sv7 v7) (hH : Has Fr M []), glitch_areFrom_1 F N v1 v7 v8 v9 = some r → Run Tryz.prog ⟨⟨65, [], none⟩, []⟩ 20 (glitch_areFrom_post r) [(1, (.int .i64 v1)), (7, sv7), (8, (.int .i64 v8)), (9, (.int .i64 v9))] [codeC Tryz.prog 65 [1, 0, 1, 0, 0], loopC Tryz.prog 65 [1, 0, 1, 0, 0], .inBlock 0, codeC Tryz.prog 65 [1, 1]] M := by
  intro N
  induction N with
  | zero =>
    intro v1 v7 v8 v9 sv7 Fr M r hv7 hH h
    simp [glitch_areFrom_1] at h
  | succ N ih =>
    intro v1 v7 v8 v9 sv7 Fr M r hv7 hH h
    rw [glitch_areFrom_1] at h
    refine Run.seq (Run.region ?_)
    refine Run.opG wantS_none (ex_lss rfl rfl) rfl ?_
    refine Run.opsEnd (Run.seq ?_)
    rcases btf ((decide (v9 < v8))) with hc1 | hc1
    · have h := bif_t hc1 h
      refine Run.condT' rfl hc1 ?_
      refine Run.skip (Run.seq (Run.block (Run.seq (Run.region ?_))))
      obtain ⟨x3, hx3, h⟩ := bnd_some h
      obtain ⟨p3, o3, _, hx3, hp3, rfl⟩ := sl_elem (P := Tryz.prog) (t := 22) (kk := .i64) hv7 hx3 els22
      refine Run.opG wantS_none (ex_elX rfl rfl hx3) rfl ?_
      refine Run.opG wantS_none (ex_load1 rfl (hH.ptrF hp3) rdLe_rfl agg3) rfl ?_
      refine Run.opG wantS_none (ex_assign rfl) rfl ?_
      refine Run.opsEnd (Run.seq (Run.region ?_))
      refine Run.opG wantS_none (ex_move rfl) rfl ?_
      refine Run.opG wantS_none (ex_neg rfl) rfl ?_
      refine Run.opG wantS_none (ex_move rfl) rfl ?_
      refine Run.opG wantS_none (ex_move rfl) rfl ?_
      obtain ⟨r5, hr5, h⟩ := bnd_some h
      refine Run.callP wantS_none (ex_call rfl mkk80 cal80) rfl (glitch_isFrom_ok F (w64 (-v1)) x3 v1 _ _ hr5) ?_
      refine Run.opG wantS_none (ex_not rfl) rfl ?_
      refine Run.opsEnd ?_
      rcases btf ((!r5)) with hc7 | hc7
      · have h := bif_t hc7 h
        refine Run.condT' rfl hc7 ?_
        refine Run.seq (Run.region ?_)
        refine Run.opG wantS_none (ex_assign rfl) rfl ?_
        refine Run.opsEnd ?_
        cases h
        exact Run.ret Tryz.func65 rfl (res_tmp rfl res_nil) rfl
      · have h := bif_f hc7 h
        refine Run.condF' rfl hc7 ?_
        refine Run.skip (Run.inBlock (Run.region ?_))
        refine Run.opG wantS_none (ex_add rfl rfl) rfl ?_
        refine Run.opG wantS_none (ex_move rfl) rfl ?_
        refine Run.opsEnd (Run.inLoop ?_)
        exact Run.pick [1, 7, 8, 9] (ih v1 v7 v8 (w64 (v9 + (1 : Int))) sv7 _ _ _ hv7 hH h)
    · have h := bif_f hc1 h
      refine Run.condF' rfl hc1 ?_
      refine Run.exit rfl (Run.seq (Run.region ?_))
      refine Run.opG wantS_none (ex_assign rfl) rfl ?_
      refine Run.opsEnd ?_
      cases h
      exact Run.ret Tryz.func65 rfl (res_tmp rfl res_nil) rfl

def glitch_areFrom (F : Nat) (a0 : (List Int)) (a1 : Int) : Option (Bool) :=
  glitch_areFrom_1 F F a1 a0 (a0.length : Int) (0 : Int)

theorem glitch_areFrom_ok (F : Nat) (a0 : (List Int)) (a1 : Int) (s0 : SV) (r : Bool) (M : Mem) (hs0 : Slc (rd M) 1 (FlatR enc3) s0 a0) (h : glitch_areFrom F a0 a1 = some r) : CallsM Tryz.prog 65 [s0, (.int .i64 a1)] M (fun s M' => s = (.bool r) ∧ M' = M) := by
  refine CallsM.plain Tryz.func65 rfl rfl rfl (show Run _ _ _ (glitch_areFrom_post r) _ _ _ from ?_)
  rw [glitch_areFrom] at h
  replace hs0 := hs0.mono (rdLe_frozen M) (fun _ _ h => h)
  have hH := Has.nil (frozen M)
  refine Run.seq (Run.region ?_)
  refine Run.opG wantS_none (ex_assign rfl) rfl ?_
  refine Run.opsEnd (Run.seq (Run.seq (Run.region ?_)))
  refine Run.opG wantS_none (ex_move rfl) rfl ?_
  refine Run.opG wantS_none (ex_len' rfl hs0 lenk22) rfl ?_
  refine Run.opG wantS_none (ex_move rfl) rfl ?_
  refine Run.opsEnd (Run.block (Run.loop ?_))
  exact Run.pick [1, 7, 8, 9] (glitch_areFrom_1_ok F F a1 a0 (a0.length : Int) (0 : Int) s0 _ _ _ hs0 hH h)

theorem mkk65 : makeK Tryz.prog 65 = none := by kernel_rfl
theorem cal65 : callable Tryz.prog 65 = true := by kernel_rfl
abbrev glitch_isSignal_post (r : Bool) : SV → Mem → Prop := fun s _ => s = (.bool r)

def glitch_isSignal_1 (F : Nat) (v9 : Bool) : Option (Bool) :=
  some v9

theorem glitch_isSignal_1_ok (F : Nat) : ∀ (v9 : Bool) (Fr : Rd) (M : Mem) (r : Bool) (hH : Has Fr M []), glitch_isSignal_1 F v9 = some r → Run Tryz.prog ⟨⟨30, [], none⟩, []⟩ 10 (glitch_isSignal_post r) [(9, (.bool v9))] [itemC Tryz.prog 30 [1, 0] 7, codeC Tryz.prog 30 [1, 1]] M := by
  intro v9 Fr M r hH h
  rw [glitch_isSignal_1] at h
  refine Run.opG wantS_none (ex_assign rfl) rfl ?_
  refine Run.opsEnd ?_
  cases h
  exact Run.ret Tryz.func30 rfl (res_tmp rfl res_nil) rfl

def glitch_isSignal (F : Nat) (a0 : (List Int)) : Option (Bool) :=
  bnd (glitch_isLength F (a0.length : Int)) fun r2 =>
  bif r2 then
    bnd (glitch_areFrom F a0 (1048576 : Int)) fun r6 =>
    glitch_isSignal_1 F r6
  else
    glitch_isSignal_1 F false

theorem glitch_isSignal_ok (F : Nat) (a0 : (List Int)) (s0 : SV) (r : Bool) (M : Mem) (hs0 : Slc (rd M) 1 (FlatR enc3) s0 a0) (h : glitch_isSignal F a0 = some r) : CallsM Tryz.prog 30 [s0] M (fun s M' => s = (.bool r) ∧ M' = M) := by
  refine CallsM.plain Tryz.func30 rfl rfl rfl (show Run _ _ _ (glitch_isSignal_post r) _ _ _ from ?_)
  rw [glitch_isSignal] at h
  replace hs0 := hs0.mono (rdLe_frozen M) (fun _ _ h => h)
  have hH := Has.nil (frozen M)
  refine Run.seq (Run.region ?_)
  refine Run.opG wantS_none (ex_assign rfl) rfl ?_
  refine Run.opsEnd (Run.seq (Run.region ?_))
  refine Run.opG wantS_none (ex_move rfl) rfl ?_
  refine Run.opG wantS_none (ex_len' rfl hs0 lenk22) rfl ?_
  obtain ⟨r2, hr2, h⟩ := bnd_some h
  refine Run.callP wantS_none (ex_call rfl mkk64 cal64) rfl (glitch_isLength_ok F (a0.length : Int) _ _ hr2) ?_
  refine Run.opG wantS_none (ex_move rfl) rfl ?_
  rcases btf (r2) with hc4 | hc4
  · have h := bif_t hc4 h
    refine Run.opG (wantS_yes' rfl rfl hc4) (ex_move rfl) rfl ?_
    obtain ⟨r6, hr6, h⟩ := bnd_some h
    refine Run.callP (wantS_yes' rfl rfl hc4) (ex_call rfl mkk65 cal65) rfl (glitch_areFrom_ok F a0 (1048576 : Int) s0 _ _ (hH.slcF hs0) hr6) ?_
    refine Run.opG wantS_none (ex_pickT' rfl hc4 rfl rfl) rfl ?_
    exact Run.pick [9] (glitch_isSignal_1_ok F r6 _ _ _ hH h)
  · have h := bif_f hc4 h
    refine Run.no (wantS_not' rfl rfl hc4) rfl ?_
    refine Run.no (wantS_not' rfl rfl hc4) rfl ?_
    refine Run.opG wantS_none (ex_pickF' rfl hc4 rfl rfl) rfl ?_
    exact Run.pick [9] (glitch_isSignal_1_ok F false _ _ _ hH h)

theorem mkk30 : makeK Tryz.prog 30 = none := by kernel_rfl
theorem cal30 : callable Tryz.prog 30 = true := by kernel_rfl
theorem eqk22 : eqK Tryz.prog 22 = some .slice := by kernel_rfl
theorem elt22 : sliceElt Tryz.prog 22 = some (⟨1, 8, [(.int .i64 0)], 3⟩ : Elt) := by kernel_rfl
theorem appt22_22 : appT Tryz.prog 22 22 = some (⟨1, 8, [(.int .i64 0)], 3⟩ : Elt) := by kernel_rfl
abbrev slices_Clone_post (r : (List Int)) : SV → Mem → Prop := fun s Me => ∃ q1, s = q1 ∧ Has (fun _ => none) Me [.vec 3 1 r.length q1 (r.flatMap enc3)]

def slices_Clone (F : Nat) (a0 : (List Int)) : Option ((List Int)) :=
  bnd (apd 8 ([] : List Int) a0) fun l9 =>
  some l9

theorem slices_Clone_ok (F : Nat) (a0 : (List Int)) (s0 : SV) (r : (List Int)) (M : Mem) (hs0 : Slc (rd M) 1 (FlatR enc3) s0 a0) (h : slices_Clone F a0 = some r) : CallsM Tryz.prog 66 [s0] M (fun s M' => ∃ q1, s = q1 ∧ New M M' [.vec 3 1 r.length q1 (r.flatMap enc3)]) := by
  refine CallsM.fresh (Q := slices_Clone_post r) Tryz.func66 rfl rfl ?_ (by rintro s Me ⟨q1, rfl, hx⟩ ha hw; exact ⟨_, rfl, New.of rfl hx ha hw⟩)
  rw [slices_Clone] at h
  replace hs0 := hs0.mono (rdLe_frozen M) (fun _ _ h => h)
  have hH := Has.nil (frozen M)
  refine Run.seq (Run.region ?_)
  refine Run.opG wantS_none (ex_assign rfl) rfl ?_
  refine Run.opsEnd (Run.seq (Run.seq (Run.region ?_)))
  refine Run.opG wantS_none (ex_move rfl) rfl ?_
  rcases slc_or hs0 with ⟨rfl, rfl⟩ | hn1
  · have h : (
      some ([] : List Int)
      ) = some r := h
    refine Run.opG wantS_none (ex_nilT rfl rfl eqk22) rfl ?_
    refine Run.opsEnd ?_
    refine Run.condT' rfl rfl ?_
    refine Run.seq (Run.region ?_)
    refine Run.opG wantS_none (ex_assign rfl) rfl ?_
    refine Run.opsEnd ?_
    have hH3 : Has (ro (frozen M)) (frozen M) [.vec 3 1 ([] : List Int).length .nils (([] : List Int).flatMap enc3)] := hH.nils 3 1
    cases h
    exact Run.ret Tryz.func66 rfl (res_tmp rfl res_nil) ⟨_, rfl, (hH3.pick [0] rfl rfl).upF (none_le _)⟩
  · refine Run.opG wantS_none (ex_nilF rfl hn1 rfl eqk22) rfl ?_
    refine Run.opsEnd ?_
    refine Run.condF' rfl rfl ?_
    refine Run.skip (Run.seq (Run.region ?_))
    refine Run.opX wantS_none rfl (ExG.built (enc := enc3) (l := ([] : List Int)) (z := 1) rfl elt22 rfl rfl rfl enc3_len hH) ?_
    rintro s5 M6 (hH6 : Has (ro (frozen M)) M6 [.vec 3 1 ([] : List Int).length s5 (([] : List Int).flatMap enc3)])
    refine Run.opG wantS_none (ex_move rfl) rfl ?_
    obtain ⟨l9, hl9, h⟩ := bnd_some h
    refine Run.opX wantS_none rfl (ExG.append rfl rfl hH6 (i := 0) rfl enc3_len rfl enc3_ones appt22_22 rfl (len_slc hs0) (first_slc hs0 (rdLe_roF hH6) enc3_len) hl9) ?_
    rintro s9 M11 (hH11 : Has (ro (frozen M)) M11 [.vec 3 1 l9.length s9 (l9.flatMap enc3)])
    refine Run.opG wantS_none (ex_assign rfl) rfl ?_
    refine Run.opsEnd ?_
    cases h
    exact Run.ret Tryz.func66 rfl (res_tmp rfl res_nil) ⟨_, rfl, (hH11.pick [0] rfl rfl).upF (none_le _)⟩

theorem mkk66 : makeK Tryz.prog 66 = none := by kernel_rfl
theorem cal66 : callable Tryz.prog 66 = true := by kernel_rfl
theorem zer22 : zerosOf Tryz.prog 22 = some [.nils] := by kernel_rfl
theorem sz22 : szOf Tryz.prog 22 = some 1 := by kernel_rfl
theorem mkk67 : makeK Tryz.prog 67 = none := by kernel_rfl
theorem cal67 : callable Tryz.prog 67 = true := by kernel_rfl
theorem agg22 : aggSize Tryz.prog 22 = some none := by kernel_rfl
theorem slk22 : slK Tryz.prog 22 = some (.sl 1) := by kernel_rfl
theorem sz3 : szOf Tryz.prog 3 = some 1 := by kernel_rfl
theorem plan67_1_1_0_0_1_1_0_0_1 : planOf Tryz.prog (opsC (atC Tryz.prog 67 [1, 1, 0, 0, 1, 1, 0, 0, 1])) = some [.fl 0, .fl 1, .fl 2, .fl 3, .fl 4, .fl 5, .fl 6, .fl 7, .fl 8, .fl 9, .fl 10, .fl 11, .fl 12, .fl 13, .fl 14, .fl 15, .fl 16, .fl 17, .fl 18, .fl 19, .fl 20, .fl 21, .fl 22, .fl 23, .fl 24, .fl 25, .fl 26, .fl 27, .fl 28, .fl 29, .fl 30, .an 31 [29, 5, 4, 3, 2], .fl 32, .an 33 [], .sync] := by kernel_rfl
abbrev glitch_transform_post (r : (List Int)) : SV → Mem → Prop := fun s Me => ∃ q1, s = q1 ∧ Has (fun _ => none) Me [.vec 3 1 r.length q1 (r.flatMap enc3)]

def glitch_transform_2 (F : Nat) (hd1 : Int → (List Int) → Option ((List Int))) : Nat → Int → Int → Int → Int → (List Int) → (List Int) → Option ((List Int))
  | 0, _, _, _, _, _, _ => none
  | N + 1, v0, v10, v11, v5_f1, l4, l16 =>
    bif (decide (v11 < v10)) then
      bnd (idx l16 (w64 ((2 : Int) * v11))) fun x19 =>
      bnd (idx l16 (w64 ((w64 ((2 : Int) * v11)) + (1 : Int)))) fun x20 =>
      bnd (idx l16 (w64 ((2 : Int) * v11))) fun x21 =>
      bnd (idx l16 (w64 ((w64 ((2 : Int) * v11)) + (1 : Int)))) fun x22 =>
      bnd (inn l4 v11) fun o23 =>
      bnd (upd l4 o23 (w64 (x19 + x20))) fun l24 =>
      bnd (inn l24 (w64 (v0 + v11))) fun o26 =>
      bnd (upd l24 o26 (w64 (x21 - x22))) fun l27 =>
      (glitch_transform_2 F hd1 N) v0 v10 (w64 (v11 + (1 : Int))) v5_f1 l27 l16
    else
      hd1 (w64 (Int.tdiv v5_f1 (2 : Int))) l4

theorem glitch_transform_2_ok (F : Nat) (hd1 : Int → (List Int) → Option ((List Int))) (hhd1 : ∀ (v5 : Int) (l4 : (List Int)) (b7 : Pos) (s4 : SV) (Fr : Rd) (M : Mem) (r : (List Int)) (hH : Has Fr M [.obj b7 (.row 22 .whole [s4]), .vec 3 1 l4.length s4 (l4.flatMap enc3)]), hd1 v5 l4 = some r → Run Tryz.prog ⟨⟨31, [], none⟩, []⟩ 20 (glitch_transform_post r) [(3, (.ptr b7 0)), (4, (.fn (.func 67) [] [(.ptr b7 0)])), (5, (.int .i64 v5))] [codeC Tryz.prog 31 [1, 1, 1, 0, 1, 0, 0], loopC Tryz.prog 31 [1, 1, 1, 0, 1, 0, 0], .inBlock 0, codeC Tryz.prog 31 [1, 1, 1, 1]] M) : ∀ (N : Nat), ∀ (v0 : Int) (v10 : Int) (v11 : Int) (v5_f1 : Int) (l4 : (List Int)) (l16 : (List Int)) (b7 : Pos) (s4 : SV) (s16 : SV) (Fr : Rd) (M : Mem) (r : (List Int)) (hH : Has Fr M [.obj b7 (.row 22 .whole [s4]), .vec 3 1 l4.length s4 (l4.flatMap enc3), .vec 3 1 l16.length s16 (l16.flatMap enc3)]), glitch_transform_2 F hd1 N v0 v10 v11 v5_f1 l4 l16 = some r → Run Tryz.prog ⟨⟨67, [], none⟩, [.mk ⟨31, [], none⟩ 20 (treeOf [(3, (.ptr b7 0)), (4, (.fn (.func 67) [] [(.ptr b7 0)])), (5, (.int .i64 v5_f1))]) [itemC Tryz.prog 31 [1, 1, 1, 0, 1, 0, 0, 1, 0, 0] 2, .inBlock 1, codeC Tryz.prog 31 [1, 1, 1, 0, 1, 0, 0, 1, 1], loopC Tryz.prog 31 [1, 1, 1, 0, 1, 0, 0], .inBlock 0, codeC Tryz.prog 31 [1, 1, 1, 1]]]⟩ 47 (glitch_transform_post r) [(0, (.int .i64 v0)), (1, (.ptr b7 0)), (3, s16), (10, (.int .i64 v10)), (11, (.int .i64 v11))] [codeC Tryz.prog 67 [1, 1, 0, 0], loopC Tryz.prog 67 [1, 1, 0, 0], .inBlock 0] M := by
  intro N
  induction N with
  | zero =>
    intro v0 v10 v11 v5_f1 l4 l16 b7 s4 s16 Fr M r hH h
    simp [glitch_transform_2] at h
  | succ N ih =>
    intro v0 v10 v11 v5_f1 l4 l16 b7 s4 s16 Fr M r hH h
    rw [glitch_transform_2] at h
    refine Run.seq (Run.region ?_)
    refine Run.opG wantS_none (ex_lss rfl rfl) rfl ?_
    refine Run.opsEnd (Run.seq ?_)
    rcases btf ((decide (v11 < v10))) with hc18 | hc18
    · have h := bif_t hc18 h
      refine Run.condT' rfl hc18 ?_
      refine Run.skip (Run.seq (Run.block (Run.seq (Run.region ?_))))
      refine Run.opG wantS_none (ex_move rfl) rfl ?_
      refine Run.opG wantS_none (ex_assign rfl) rfl ?_
      refine Run.opsEnd ?_
      refine Run.drawG plan67_1_1_0_0_1_1_0_0_1 ?_
      refine DrawG.fl rfl (ev_ex wantS_none (ex_load1 rfl (hH.cells (i := 0) rfl 0 rfl) rdLe_rfl agg22)) rfl ?_
      refine DrawG.fl rfl (ev_ex wantS_none (ex_move rfl)) rfl ?_
      refine DrawG.fl rfl (ev_ex wantS_none (ex_load1 rfl (hH.cells (i := 0) rfl 0 rfl) rdLe_rfl agg22)) rfl ?_
      refine DrawG.fl rfl (ev_ex wantS_none (ex_move rfl)) rfl ?_
      refine DrawG.fl rfl (ev_ex wantS_none (ex_move rfl)) rfl ?_
      refine DrawG.fl rfl (ev_ex wantS_none (ex_add rfl rfl)) rfl ?_
      refine DrawG.fl rfl (ev_ex wantS_none (ex_move rfl)) rfl ?_
      refine DrawG.fl rfl (ev_ex wantS_none (ex_move rfl)) rfl ?_
      refine DrawG.fl rfl (ev_ex wantS_none (ex_mul rfl rfl)) rfl ?_
      obtain ⟨x19, hx19, h⟩ := bnd_some h
      obtain ⟨p19, o19, hb19, hx19, he19⟩ := vec_elem (P := Tryz.prog) (t := 22) (kk := .i64) hH (i := 2) rfl hx19 els22
      refine DrawG.fl rfl (ev_ex wantS_none (ex_elX rfl rfl hx19)) rfl ?_
      refine DrawG.fl rfl (ev_ex wantS_none (ex_load1 rfl (hH.at (enc := enc3) (a := x19) (i := 2) rfl hb19 he19 enc3_len) rdLe_rfl agg3)) rfl ?_
      refine DrawG.fl rfl (ev_ex wantS_none (ex_move rfl)) rfl ?_
      refine DrawG.fl rfl (ev_ex wantS_none (ex_move rfl)) rfl ?_
      refine DrawG.fl rfl (ev_ex wantS_none (ex_mul rfl rfl)) rfl ?_
      refine DrawG.fl rfl (ev_ex wantS_none (ex_add rfl rfl)) rfl ?_
      obtain ⟨x20, hx20, h⟩ := bnd_some h
      obtain ⟨p20, o20, hb20, hx20, he20⟩ := vec_elem (P := Tryz.prog) (t := 22) (kk := .i64) hH (i := 2) rfl hx20 els22
      refine DrawG.fl rfl (ev_ex wantS_none (ex_elX rfl rfl hx20)) rfl ?_
      refine DrawG.fl rfl (ev_ex wantS_none (ex_load1 rfl (hH.at (enc := enc3) (a := x20) (i := 2) rfl hb20 he20 enc3_len) rdLe_rfl agg3)) rfl ?_
      refine DrawG.fl rfl (ev_ex wantS_none (ex_add rfl rfl)) rfl ?_
      refine DrawG.fl rfl (ev_ex wantS_none (ex_move rfl)) rfl ?_
      refine DrawG.fl rfl (ev_ex wantS_none (ex_move rfl)) rfl ?_
      refine DrawG.fl rfl (ev_ex wantS_none (ex_mul rfl rfl)) rfl ?_
      obtain ⟨x21, hx21, h⟩ := bnd_some h
      obtain ⟨p21, o21, hb21, hx21, he21⟩ := vec_elem (P := Tryz.prog) (t := 22) (kk := .i64) hH (i := 2) rfl hx21 els22
      refine DrawG.fl rfl (ev_ex wantS_none (ex_elX rfl rfl hx21)) rfl ?_
      refine DrawG.fl rfl (ev_ex wantS_none (ex_load1 rfl (hH.at (enc := enc3) (a := x21) (i := 2) rfl hb21 he21 enc3_len) rdLe_rfl agg3)) rfl ?_
      refine DrawG.fl rfl (ev_ex wantS_none (ex_move rfl)) rfl ?_
      refine DrawG.fl rfl (ev_ex wantS_none (ex_move rfl)) rfl ?_
      refine DrawG.fl rfl (ev_ex wantS_none (ex_mul rfl rfl)) rfl ?_
      refine DrawG.fl rfl (ev_ex wantS_none (ex_add rfl rfl)) rfl ?_
      obtain ⟨x22, hx22, h⟩ := bnd_some h
      obtain ⟨p22, o22, hb22, hx22, he22⟩ := vec_elem (P := Tryz.prog) (t := 22) (kk := .i64) hH (i := 2) rfl hx22 els22
      refine DrawG.fl rfl (ev_ex wantS_none (ex_elX rfl rfl hx22)) rfl ?_
      refine DrawG.fl rfl (ev_ex wantS_none (ex_load1 rfl (hH.at (enc := enc3) (a := x22) (i := 2) rfl hb22 he22 enc3_len) rdLe_rfl agg3)) rfl ?_
      refine DrawG.fl rfl (ev_ex wantS_none (ex_sub rfl rfl)) rfl ?_
      obtain ⟨o23, ho23, h⟩ := bnd_some h
      obtain ⟨p23, hb23, hx23⟩ := vec_place (P := Tryz.prog) (t := 22) (kk := .i64) hH (i := 1) rfl ho23 els22
      refine DrawG.fl rfl (ev_ex wantS_none (ex_elX rfl rfl hx23)) rfl ?_
      obtain ⟨l24, hl24, h⟩ := bnd_some h
      refine DrawG.opX rfl wantS_none rfl (ExG.storeEl rfl rfl hH (i := 1) rfl hb23 hl24 sz3 rfl enc3_len enc3_ones) ?_
      rintro _ M25 ⟨rfl, (hH25 : Has Fr M25 [.obj b7 (.row 22 .whole [s4]), .vec 3 1 l24.length s4 (l24.flatMap enc3), .vec 3 1 l16.length s16 (l16.flatMap enc3)])⟩
      refine ⟨(st_cons rfl (ev_ex wantS_none (ex_sub rfl rfl)) rfl rfl rfl (st_cons rfl (ev_ex wantS_none (ex_add rfl rfl)) rfl rfl rfl (st_cons rfl (ev_ex wantS_none (ex_move rfl)) rfl rfl rfl (st_cons rfl (ev_ex wantS_none (ex_move rfl)) rfl rfl rfl (st_cons rfl (ev_ex wantS_none (ex_load1 rfl (hH25.cells (i := 0) rfl 0 rfl) rdLe_rfl agg22)) rfl rfl (blk_self hH25 (i := 1) rfl) st_nil))))), ?_⟩
      obtain ⟨o26, ho26, h⟩ := bnd_some h
      obtain ⟨p26, hb26, hx26⟩ := vec_place (P := Tryz.prog) (t := 22) (kk := .i64) hH25 (i := 1) rfl ho26 els22
      refine DrawG.fl rfl (ev_ex wantS_none (ex_elX rfl rfl hx26)) rfl ?_
      obtain ⟨l27, hl27, h⟩ := bnd_some h
      refine DrawG.opX rfl wantS_none rfl (ExG.storeEl rfl rfl hH25 (i := 1) rfl hb26 hl27 sz3 rfl enc3_len enc3_ones) ?_
      rintro _ M28 ⟨rfl, (hH28 : Has Fr M28 [.obj b7 (.row 22 .whole [s4]), .vec 3 1 l27.length s4 (l27.flatMap enc3), .vec 3 1 l16.length s16 (l16.flatMap enc3)])⟩
      refine ⟨st_nil, ?_⟩
      refine DrawG.sync ?_
      refine DrawG.nil ?_
      refine Run.inBlock (Run.region ?_)
      refine Run.opG wantS_none (ex_add rfl rfl) rfl ?_
      refine Run.opG wantS_none (ex_move rfl) rfl ?_
      refine Run.opsEnd (Run.inLoop ?_)
      exact Run.low (.cons (fle_pick [3, 4, 5] rfl) .nil) (Run.pick [0, 1, 3, 10, 11] (ih v0 v10 (w64 (v11 + (1 : Int))) v5_f1 l27 l16 b7 s4 s16 _ _ _ hH28 h))
    · have h := bif_f hc18 h
      refine Run.condF' rfl hc18 ?_
      refine Run.exit rfl ?_
      refine Run.fallTo Tryz.func67 rfl res_nil rfl ?_
      refine Run.opsEnd (Run.inBlock (Run.region ?_))
      refine Run.opG wantS_none (ex_move rfl) rfl ?_
      refine Run.opG wantS_none (ex_quo rfl rfl (by decide)) rfl ?_
      refine Run.opG wantS_none (ex_assign rfl) rfl ?_
      refine Run.opsEnd (Run.inLoop ?_)
      exact Run.pick [3, 4, 5] (hhd1 (w64 (Int.tdiv v5_f1 (2 : Int))) l4 b7 s4 _ _ _ (hH.pick [0, 1] rfl rfl) h)

def glitch_transform_1 (F : Nat) : Nat → Int → (List Int) → Option ((List Int))
  | 0, _, _ => none
  | N + 1, v5, l4 =>
    bif (decide ((0 : Int) < v5)) then
      bnd (sub l4 0 (w64 ((2 : Int) * v5))) fun l12 =>
      bnd (slices_Clone F l12) fun r15 =>
      glitch_transform_2 F (glitch_transform_1 F N) F v5 v5 (0 : Int) v5 l4 r15
    else
      some l4

theorem glitch_transform_1_ok (F : Nat) : ∀ (N : Nat), ∀ (v5 : Int) (l4 : (List Int)) (b7 : Pos) (s4 : SV) (Fr : Rd) (M : Mem) (r : (List Int)) (hH : Has Fr M [.obj b7 (.row 22 .whole [s4]), .vec 3 1 l4.length s4 (l4.flatMap enc3)]), glitch_transform_1 F N v5 l4 = some r → Run Tryz.prog ⟨⟨31, [], none⟩, []⟩ 20 (glitch_transform_post r) [(3, (.ptr b7 0)), (4, (.fn (.func 67) [] [(.ptr b7 0)])), (5, (.int .i64 v5))] [codeC Tryz.prog 31 [1, 1, 1, 0, 1, 0, 0], loopC Tryz.prog 31 [1, 1, 1, 0, 1, 0, 0], .inBlock 0, codeC Tryz.prog 31 [1, 1, 1, 1]] M := by
  intro N
  induction N with
  | zero =>
    intro v5 l4 b7 s4 Fr M r hH h
    simp [glitch_transform_1] at h
  | succ N ih =>
    intro v5 l4 b7 s4 Fr M r hH h
    rw [glitch_transform_1] at h
    refine Run.seq (Run.seq (Run.region ?_))
    refine Run.opG wantS_none (ex_move rfl) rfl ?_
    refine Run.opG wantS_none (ex_gtr rfl rfl) rfl ?_
    refine Run.opsEnd ?_
    rcases btf ((decide ((0 : Int) < v5))) with hc10 | hc10
    · have h := bif_t hc10 h
      refine Run.condT' rfl hc10 ?_
      refine Run.skip (Run.seq (Run.block (Run.region ?_)))
      refine Run.opG wantS_none (ex_move rfl) rfl ?_
      refine Run.opG wantS_none (ex_move rfl) rfl ?_
      refine Run.enter wantS_none (ex_closure rfl rfl mkk67 cal67) Tryz.func67 rfl rfl ?_
      refine Run.seq (Run.region ?_)
      refine Run.opG wantS_none (ex_load1 rfl (hH.cells (i := 0) rfl 0 rfl) rdLe_rfl agg22) rfl ?_
      refine Run.opG wantS_none (ex_move rfl) rfl ?_
      refine Run.opG wantS_none (ex_mul rfl rfl) rfl ?_
      obtain ⟨l12, hl12, h⟩ := bnd_some h
      obtain ⟨s12, hx12, hs12⟩ := sl_subH (P := Tryz.prog) (t := 22) (k0 := .i64) (hH.slc (i := 1) rfl enc3_len) hl12 slk22
      refine Run.opG wantS_none (ex_slX rfl (argO_none) (argO_some rfl) hx12) rfl ?_
      obtain ⟨r15, hr15, h⟩ := bnd_some h
      refine Run.callX wantS_none (ex_call rfl mkk66 cal66) rfl (slices_Clone_ok F l12 s12 _ _ hs12 hr15) ?_
      rintro s15_0 M17 ⟨_, rfl, hN15⟩
      have hH17 : Has Fr M17 [.vec 3 1 r15.length s15_0 (r15.flatMap enc3), .obj b7 (.row 22 .whole [s4]), .vec 3 1 l4.length s4 (l4.flatMap enc3)] := hN15.1 _ _ hH
      refine Run.opG wantS_none (ex_assign rfl) rfl ?_
      refine Run.opsEnd (Run.seq (Run.region ?_))
      refine Run.opG wantS_none (ex_move rfl) rfl ?_
      refine Run.opG wantS_none (ex_move rfl) rfl ?_
      refine Run.opsEnd (Run.block (Run.loop ?_))
      exact Run.low (.cons (fle_pick [3, 4, 5] rfl) .nil) (Run.pick [0, 1, 3, 10, 11] (glitch_transform_2_ok F (glitch_transform_1 F N) ih F v5 v5 (0 : Int) v5 l4 r15 b7 s4 s15_0 _ _ _ (hH17.pick [1, 2, 0] rfl rfl) h))
    · have h := bif_f hc10 h
      refine Run.condF' rfl hc10 ?_
      refine Run.exit rfl (Run.seq (Run.region ?_))
      refine Run.opG wantS_none (ex_load1 rfl (hH.cells (i := 0) rfl 0 rfl) rdLe_rfl agg22) rfl ?_
      refine Run.opG wantS_none (ex_assign rfl) rfl ?_
      refine Run.opsEnd ?_
      cases h
      exact Run.ret Tryz.func31 rfl (res_tmp rfl res_nil) ⟨_, rfl, (hH.pick [1] rfl rfl).upF (none_le _)⟩

def glitch_transform (F : Nat) (a0 : (List Int)) : Option ((List Int)) :=
  bnd (slices_Clone F a0) fun r3 =>
  glitch_transform_1 F F (w64 (Int.tdiv (a0.length : Int) (2 : Int))) r3

theorem glitch_transform_ok (F : Nat) (a0 : (List Int)) (s0 : SV) (r : (List Int)) (M : Mem) (hs0 : Slc (rd M) 1 (FlatR enc3) s0 a0) (h : glitch_transform F a0 = some r) : CallsM Tryz.prog 31 [s0] M (fun s M' => ∃ q1, s = q1 ∧ New M M' [.vec 3 1 r.length q1 (r.flatMap enc3)]) := by
  refine CallsM.fresh (Q := glitch_transform_post r) Tryz.func31 rfl rfl ?_ (by rintro s Me ⟨q1, rfl, hx⟩ ha hw; exact ⟨_, rfl, New.of rfl hx ha hw⟩)
  rw [glitch_transform] at h
  replace hs0 := hs0.mono (rdLe_frozen M) (fun _ _ h => h)
  have hH := Has.nil (frozen M)
  refine Run.seq (Run.region ?_)
  refine Run.opG wantS_none (ex_assign rfl) rfl ?_
  refine Run.opsEnd (Run.seq (Run.region ?_))
  refine Run.opG wantS_none (ex_move rfl) rfl ?_
  obtain ⟨r3, hr3, h⟩ := bnd_some h
  refine Run.callX wantS_none (ex_call rfl mkk66 cal66) rfl (slices_Clone_ok F a0 s0 _ _ (hH.slcF hs0) hr3) ?_
  rintro s3_0 M5 ⟨_, rfl, hN3⟩
  have hH5 : Has (ro (frozen M)) M5 [.vec 3 1 r3.length s3_0 (r3.flatMap enc3)] := hN3.1 _ _ hH
  refine Run.opX wantS_none rfl (ExG.new (v := fun b => .ptr b 0) (ex_alloc zer22) hH5) ?_
  rintro _ M8 ⟨b7, rfl, (hH8 : Has (ro (frozen M)) M8 [.obj b7 (.row 22 .whole [.nils]), .vec 3 1 r3.length s3_0 (r3.flatMap enc3)])⟩
  refine Run.opX wantS_none rfl (ExG.storeC (c' := [s3_0]) rfl rfl (cells_one (vec_one hH8 (i := 1) rfl)) hH8 (i := 0) rfl sz22 rfl rfl rfl (ones_cons (vec_one hH8 (i := 1) rfl) ones_nil) rfl) ?_
  rintro _ M9 ⟨rfl, (hH9 : Has (ro (frozen M)) M9 [.obj b7 (.row 22 .whole [s3_0]), .vec 3 1 r3.length s3_0 (r3.flatMap enc3)])⟩
  refine Run.opsEnd (Run.seq (Run.region ?_))
  refine Run.opG wantS_none (ex_makeFunc rfl rfl) rfl ?_
  refine Run.opG wantS_none (ex_assign rfl) rfl ?_
  refine Run.opsEnd (Run.seq (Run.seq (Run.region ?_)))
  refine Run.opG wantS_none (ex_move rfl) rfl ?_
  refine Run.opG wantS_none (ex_len' rfl hs0 lenk22) rfl ?_
  refine Run.opG wantS_none (ex_quo rfl rfl (by decide)) rfl ?_
  refine Run.opG wantS_none (ex_assign rfl) rfl ?_
  refine Run.opsEnd (Run.block (Run.loop ?_))
  exact Run.pick [3, 4, 5] (glitch_transform_1_ok F F (w64 (Int.tdiv (a0.length : Int) (2 : Int))) r3 b7 s3_0 _ _ _ hH9 h)

theorem mkk31 : makeK Tryz.prog 31 = none := by kernel_rfl
theorem cal31 : callable Tryz.prog 31 = true := by kernel_rfl
abbrev glitch_Transform_post (r : (List Int) × Int) : SV → Mem → Prop := fun s Me => ∃ q1, s = (.tuple [q1, (.int .i64 r.2)]) ∧ Has (fun _ => none) Me [.vec 3 1 r.1.length q1 (r.1.flatMap enc3)]

def glitch_Transform (F : Nat) (a0 : (List Int)) : Option ((List Int) × Int) :=
  bnd (glitch_isSignal F a0) fun r2 =>
  bif (!r2) then
    some (([] : List Int), (60 : Int))
  else
    bnd (glitch_transform F a0) fun r9 =>
    some (r9, (0 : Int))

theorem glitch_Transform_ok (F : Nat) (a0 : (List Int)) (s0 : SV) (r : (List Int) × Int) (M : Mem) (hs0 : Slc (rd M) 1 (FlatR enc3) s0 a0) (h : glitch_Transform F a0 = some r) : CallsM Tryz.prog 9 [s0] M (fun s M' => ∃ q1, s = (.tuple [q1, (.int .i64 r.2)]) ∧ New M M' [.vec 3 1 r.1.length q1 (r.1.flatMap enc3)]) := by
  refine CallsM.fresh (Q := glitch_Transform_post r) Tryz.func9 rfl rfl ?_ (by rintro s Me ⟨q1, rfl, hx⟩ ha hw; exact ⟨_, rfl, New.of rfl hx ha hw⟩)
  rw [glitch_Transform] at h
  replace hs0 := hs0.mono (rdLe_frozen M) (fun _ _ h => h)
  have hH := Has.nil (frozen M)
  refine Run.seq (Run.region ?_)
  refine Run.opG wantS_none (ex_assign rfl) rfl ?_
  refine Run.opG wantS_none (ex_assign rfl) rfl ?_
  refine Run.opsEnd (Run.seq (Run.seq (Run.region ?_)))
  refine Run.opG wantS_none (ex_move rfl) rfl ?_
  obtain ⟨r2, hr2, h⟩ := bnd_some h
  refine Run.callP wantS_none (ex_call rfl mkk30 cal30) rfl (glitch_isSignal_ok F a0 s0 _ _ (hH.slcF hs0) hr2) ?_
  refine Run.opG wantS_none (ex_not rfl) rfl ?_
  refine Run.opsEnd ?_
  rcases btf ((!r2)) with hc4 | hc4
  · have h := bif_t hc4 h
    refine Run.condT' rfl hc4 ?_
    refine Run.seq (Run.region ?_)
    refine Run.opG wantS_none (ex_assign rfl) rfl ?_
    refine Run.opG wantS_none (ex_assign rfl) rfl ?_
    refine Run.opsEnd ?_
    have hH6 : Has (ro (frozen M)) (frozen M) [.vec 3 1 ([] : List Int).length .nils (([] : List Int).flatMap enc3)] := hH.nils 3 1
    cases h
    exact Run.ret Tryz.func9 rfl (res_tmp rfl (res_tmp rfl res_nil)) ⟨_, rfl, (hH6.pick [0] rfl rfl).upF (none_le _)⟩
  · have h := bif_f hc4 h
    refine Run.condF' rfl hc4 ?_
    refine Run.skip (Run.seq (Run.region ?_))
    refine Run.opG wantS_none (ex_move rfl) rfl ?_
    obtain ⟨r9, hr9, h⟩ := bnd_some h
    refine Run.callX wantS_none (ex_call rfl mkk31 cal31) rfl (glitch_transform_ok F a0 s0 _ _ (hH.slcF hs0) hr9) ?_
    rintro s9_0 M11 ⟨_, rfl, hN9⟩
    have hH11 : Has (ro (frozen M)) M11 [.vec 3 1 r9.length s9_0 (r9.flatMap enc3)] := hN9.1 _ _ hH
    refine Run.opG wantS_none (ex_assign rfl) rfl ?_
    refine Run.opG wantS_none (ex_assign rfl) rfl ?_
    refine Run.opsEnd ?_
    cases h
    exact Run.ret Tryz.func9 rfl (res_tmp rfl (res_tmp rfl res_nil)) ⟨_, rfl, (hH11.pick [0] rfl rfl).upF (none_le _)⟩

theorem mkk9 : makeK Tryz.prog 9 = none := by kernel_rfl
theorem cal9 : callable Tryz.prog 9 = true := by kernel_rfl
theorem mkk10 : makeK Tryz.prog 10 = none := by kernel_rfl
theorem cal10 : callable Tryz.prog 10 = true := by kernel_rfl
theorem plan3_1_1_1_1_1_0_1_0_0_1_0_0 : planOf Tryz.prog (opsC (atC Tryz.prog 3 [1, 1, 1, 1, 1, 0, 1, 0, 0, 1, 0, 0])) = some [.fl 0, .fl 1, .fl 2, .fl 3, .fl 4, .fl 5, .fl 6, .fl 7, .fl 8, .fl 9, .an 10 [0], .an 11 [], .an 12 [], .sync] := by kernel_rfl
theorem plan3_1_1_1_1_1_1_0_1_0_0_1_0_0 : planOf Tryz.prog (opsC (atC Tryz.prog 3 [1, 1, 1, 1, 1, 1, 0, 1, 0, 0, 1, 0, 0])) = some [.fl 0, .fl 1, .fl 2, .fl 3, .fl 4, .fl 5, .fl 6, .fl 7, .fl 8, .fl 9, .an 10 [0], .an 11 [], .an 12 [], .sync] := by kernel_rfl
theorem plan11_1_1_0_1_0_0_1_0_0_0 : planOf Tryz.prog (opsC (atC Tryz.prog 11 [1, 1, 0, 1, 0, 0, 1, 0, 0, 0])) = some [.fl 0, .fl 1, .fl 2, .fl 3, .fl 4, .fl 5, .fl 6, .fl 7, .fl 8, .sync] := by kernel_rfl
abbrev ref00_SameInts_post (r : Bool) : SV → Mem → Prop := fun s _ => s = (.bool r)

def ref00_SameInts_1 (F : Nat) : Nat → (List Int) → (List Int) → Int → Option (Bool)
  | 0, _, _, _ => none
  | N + 1, v0, v1, v5 =>
    bif (decide (v5 < (v0.length : Int))) then
      bnd (idx v0 v5) fun x3 =>
      bnd (idx v1 v5) fun x4 =>
      bif (!(x3 == x4)) then
        some false
      else
        (ref00_SameInts_1 F N) v0 v1 (w64 (v5 + (1 : Int)))
    else
      some true

theorem ref00_SameInts_1_ok (F : Nat) : ∀ (N : Nat), ∀ (v0 : (List Int)) (v1 : (List Int)) (v5 : Int) (sv0 : SV) (sv1 : SV) (Fr : Rd) (M : Mem) (r : Bool) (hv0 : Slc Fr 1 (FlatR enc3) sv0 v0) (hv1 : Slc Fr 1 (FlatR enc3) sv1 v1) (hH : Has Fr M []), ref00_SameInts_1 F N v0 v1 v5 = some r → Run Tryz.prog ⟨⟨11, [], none⟩, []⟩ 26 (ref00_SameInts_post r) [(0, sv0), (1, sv1), (5, (.int .i64 v5))] [codeC Tryz.prog 11 [1, 1, 0, 1, 0, 0], loopC Tryz.prog 11 [1, 1, 0, 1, 0, 0], .inBlock 0, codeC Tryz.prog 11 [1, 1, 1]] M := by
  intro N
  induction N with
  | zero =>
    intro v0 v1 v5 sv0 sv1 Fr M r hv0 hv1 hH h
    simp [ref00_SameInts_1] at h
  | succ N ih =>
    intro v0 v1 v5 sv0 sv1 Fr M r hv0 hv1 hH h
    rw [ref00_SameInts_1] at h
    refine Run.seq (Run.seq (Run.region ?_))
    refine Run.opG wantS_none (ex_move rfl) rfl ?_
    refine Run.opG wantS_none (ex_move rfl) rfl ?_
    refine Run.opG wantS_none (ex_len' rfl hv0 lenk22) rfl ?_
    refine Run.opG wantS_none (ex_lss rfl rfl) rfl ?_
    refine Run.opsEnd ?_
    rcases btf ((decide (v5 < (v0.length : Int)))) with hc2 | hc2
    · have h := bif_t hc2 h
      refine Run.condT' rfl hc2 ?_
      refine Run.skip (Run.seq (Run.block (Run.seq ?_)))
      refine Run.drawG plan11_1_1_0_1_0_0_1_0_0_0 ?_
      refine DrawG.fl rfl (ev_ex wantS_none (ex_move rfl)) rfl ?_
      refine DrawG.fl rfl (ev_ex wantS_none (ex_move rfl)) rfl ?_
      obtain ⟨x3, hx3, h⟩ := bnd_some h
      obtain ⟨p3, o3, _, hx3, hp3, rfl⟩ := sl_elem (P := Tryz.prog) (t := 22) (kk := .i64) hv0 hx3 els22
      refine DrawG.fl rfl (ev_ex wantS_none (ex_elX rfl rfl hx3)) rfl ?_
      refine DrawG.fl rfl (ev_ex wantS_none (ex_load1 rfl (hH.ptrF hp3) rdLe_rfl agg3)) rfl ?_
      refine DrawG.fl rfl (ev_ex wantS_none (ex_move rfl)) rfl ?_
      refine DrawG.fl rfl (ev_ex wantS_none (ex_move rfl)) rfl ?_
      obtain ⟨x4, hx4, h⟩ := bnd_some h
      obtain ⟨p4, o4, _, hx4, hp4, rfl⟩ := sl_elem (P := Tryz.prog) (t := 22) (kk := .i64) hv1 hx4 els22
      refine DrawG.fl rfl (ev_ex wantS_none (ex_elX rfl rfl hx4)) rfl ?_
      refine DrawG.fl rfl (ev_ex wantS_none (ex_load1 rfl (hH.ptrF hp4) rdLe_rfl agg3)) rfl ?_
      refine DrawG.fl rfl (ev_ex wantS_none (ex_neq rfl rfl)) rfl ?_
      refine DrawG.sync ?_
      refine DrawG.nil ?_
      rcases btf ((!(x3 == x4))) with hc5 | hc5
      · have h := bif_t hc5 h
        refine Run.condT' rfl hc5 ?_
        refine Run.seq (Run.region ?_)
        refine Run.opG wantS_none (ex_assign rfl) rfl ?_
        refine Run.opsEnd ?_
        cases h
        exact Run.ret Tryz.func11 rfl (res_tmp rfl res_nil) rfl
      · have h := bif_f hc5 h
        refine Run.condF' rfl hc5 ?_
        refine Run.skip (Run.inBlock (Run.region ?_))
        refine Run.opG wantS_none (ex_move rfl) rfl ?_
        refine Run.opG wantS_none (ex_add rfl rfl) rfl ?_
        refine Run.opG wantS_none (ex_assign rfl) rfl ?_
        refine Run.opsEnd (Run.inLoop ?_)
        exact Run.pick [0, 1, 5] (ih v0 v1 (w64 (v5 + (1 : Int))) sv0 sv1 _ _ _ hv0 hv1 hH h)
    · have h := bif_f hc2 h
      refine Run.condF' rfl hc2 ?_
      refine Run.exit rfl (Run.seq (Run.region ?_))
      refine Run.opG wantS_none (ex_assign rfl) rfl ?_
      refine Run.opsEnd ?_
      cases h
      exact Run.ret Tryz.func11 rfl (res_tmp rfl res_nil) rfl

def ref00_SameInts (F : Nat) (a0 : (List Int)) (a1 : (List Int)) : Option (Bool) :=
  bif (!((a0.length : Int) == (a1.length : Int))) then
    some false
  else
    ref00_SameInts_1 F F a0 a1 (0 : Int)

theorem ref00_SameInts_ok (F : Nat) (a0 : (List Int)) (a1 : (List Int)) (s0 s1 : SV) (r : Bool) (M : Mem) (hs0 : Slc (rd M) 1 (FlatR enc3) s0 a0) (hs1 : Slc (rd M) 1 (FlatR enc3) s1 a1) (h : ref00_SameInts F a0 a1 = some r) : CallsM Tryz.prog 11 [s0, s1] M (fun s M' => s = (.bool r) ∧ M' = M) := by
  refine CallsM.plain Tryz.func11 rfl rfl rfl (show Run _ _ _ (ref00_SameInts_post r) _ _ _ from ?_)
  rw [ref00_SameInts] at h
  replace hs0 := hs0.mono (rdLe_frozen M) (fun _ _ h => h)
  replace hs1 := hs1.mono (rdLe_frozen M) (fun _ _ h => h)
  have hH := Has.nil (frozen M)
  refine Run.seq (Run.region ?_)
  refine Run.opG wantS_none (ex_assign rfl) rfl ?_
  refine Run.opsEnd (Run.seq (Run.seq (Run.region ?_)))
  refine Run.opG wantS_none (ex_move rfl) rfl ?_
  refine Run.opG wantS_none (ex_len' rfl hs0 lenk22) rfl ?_
  refine Run.opG wantS_none (ex_move rfl) rfl ?_
  refine Run.opG wantS_none (ex_len' rfl hs1 lenk22) rfl ?_
  refine Run.opG wantS_none (ex_neq rfl rfl) rfl ?_
  refine Run.opsEnd ?_
  rcases btf ((!((a0.length : Int) == (a1.length : Int)))) with hc1 | hc1
  · have h := bif_t hc1 h
    refine Run.condT' rfl hc1 ?_
    refine Run.seq (Run.region ?_)
    refine Run.opG wantS_none (ex_assign rfl) rfl ?_
    refine Run.opsEnd ?_
    cases h
    exact Run.ret Tryz.func11 rfl (res_tmp rfl res_nil) rfl
  · have h := bif_f hc1 h
    refine Run.condF' rfl hc1 ?_
    refine Run.skip (Run.seq (Run.seq (Run.region ?_)))
    refine Run.opG wantS_none (ex_assign rfl) rfl ?_
    refine Run.opsEnd (Run.block (Run.loop ?_))
    exact Run.pick [0, 1, 5] (ref00_SameInts_1_ok F F a0 a1 (0 : Int) s0 s1 _ _ _ hs0 hs1 hH h)

theorem mkk11 : makeK Tryz.prog 11 = none := by kernel_rfl
theorem cal11 : callable Tryz.prog 11 = true := by kernel_rfl
abbrev law06_GlitchLinear_post (r : Bool) : SV → Mem → Prop := fun s _ => s = (.bool r)

def law06_GlitchLinear_8 (F : Nat) (v107 : Bool) : Option (Bool) :=
  some v107

theorem law06_GlitchLinear_8_ok (F : Nat) : ∀ (v107 : Bool) (Fr : Rd) (M : Mem) (r : Bool) (hH : Has Fr M [tb0, tb1, tb2]), law06_GlitchLinear_8 F v107 = some r → Run Tryz.prog ⟨⟨3, [], none⟩, []⟩ 108 (law06_GlitchLinear_post r) [(107, (.bool v107))] [itemC Tryz.prog 3 [1, 1, 1, 1, 1, 1, 1, 1, 1, 0] 20, codeC Tryz.prog 3 [1, 1, 1, 1, 1, 1, 1, 1, 1, 1]] M := by
  intro v107 Fr M r hH h
  rw [law06_GlitchLinear_8] at h
  refine Run.opG wantS_none (ex_assign rfl) rfl ?_
  refine Run.opsEnd ?_
  cases h
  exact Run.ret Tryz.func3 rfl (res_tmp rfl res_nil) rfl

def law06_GlitchLinear_7 (F : Nat) (v104 : Bool) : Option (Bool) :=
  bif v104 then
    bnd (works F) fun r57 =>
    law06_GlitchLinear_8 F r57
  else
    law06_GlitchLinear_8 F false

theorem law06_GlitchLinear_7_ok (F : Nat) : ∀ (v104 : Bool) (Fr : Rd) (M : Mem) (r : Bool) (hH : Has Fr M [tb0, tb1, tb2]), law06_GlitchLinear_7 F v104 = some r → Run Tryz.prog ⟨⟨3, [], none⟩, []⟩ 108 (law06_GlitchLinear_post r) [(104, (.bool v104))] [itemC Tryz.prog 3 [1, 1, 1, 1, 1, 1, 1, 1, 1, 0] 17, codeC Tryz.prog 3 [1, 1, 1, 1, 1, 1, 1, 1, 1, 1]] M := by
  intro v104 Fr M r hH h
  rw [law06_GlitchLinear_7] at h
  refine Run.opG wantS_none (ex_move rfl) rfl ?_
  rcases btf (v104) with hc55 | hc55
  · have h := bif_t hc55 h
    obtain ⟨r57, hr57, h⟩ := bnd_some h
    refine Run.callP (wantS_yes' rfl rfl hc55) (ex_call rfl mkk10 cal10) rfl (works_ok F r57 _ hH (List.mem_of_getElem? (i := 0) rfl) (List.mem_of_getElem? (i := 1) rfl) (List.mem_of_getElem? (i := 2) rfl) hr57) ?_
    refine Run.opG wantS_none (ex_pickT' rfl hc55 rfl rfl) rfl ?_
    exact Run.pick [107] (law06_GlitchLinear_8_ok F r57 _ _ _ hH h)
  · have h := bif_f hc55 h
    refine Run.no (wantS_not' rfl rfl hc55) rfl ?_
    refine Run.opG wantS_none (ex_pickF' rfl hc55 rfl rfl) rfl ?_
    exact Run.pick [107] (law06_GlitchLinear_8_ok F false _ _ _ hH h)

def law06_GlitchLinear_6 (F : Nat) (v99 : Bool) (l30 : (List Int)) (l44 : (List Int)) : Option (Bool) :=
  bif v99 then
    bnd (ref00_SameInts F l44 l30) fun r53 =>
    law06_GlitchLinear_7 F r53
  else
    law06_GlitchLinear_7 F false

theorem law06_GlitchLinear_6_ok (F : Nat) : ∀ (v99 : Bool) (l30 : (List Int)) (l44 : (List Int)) (s30 : SV) (s44 : SV) (Fr : Rd) (M : Mem) (r : Bool) (hH : Has Fr M [.vec 3 1 l30.length s30 (l30.flatMap enc3), .vec 3 1 l44.length s44 (l44.flatMap enc3), tb0, tb1, tb2]), law06_GlitchLinear_6 F v99 l30 l44 = some r → Run Tryz.prog ⟨⟨3, [], none⟩, []⟩ 108 (law06_GlitchLinear_post r) [(10, s30), (13, s44), (99, (.bool v99))] [itemC Tryz.prog 3 [1, 1, 1, 1, 1, 1, 1, 1, 1, 0] 12, codeC Tryz.prog 3 [1, 1, 1, 1, 1, 1, 1, 1, 1, 1]] M := by
  intro v99 l30 l44 s30 s44 Fr M r hH h
  rw [law06_GlitchLinear_6] at h
  refine Run.opG wantS_none (ex_move rfl) rfl ?_
  rcases btf (v99) with hc51 | hc51
  · have h := bif_t hc51 h
    refine Run.opG (wantS_yes' rfl rfl hc51) (ex_move rfl) rfl ?_
    refine Run.opG (wantS_yes' rfl rfl hc51) (ex_move rfl) rfl ?_
    obtain ⟨r53, hr53, h⟩ := bnd_some h
    refine Run.callP (wantS_yes' rfl rfl hc51) (ex_call rfl mkk11 cal11) rfl (ref00_SameInts_ok F l44 l30 s44 s30 _ _ (hH.slc (i := 1) rfl enc3_len) (hH.slc (i := 0) rfl enc3_len) hr53) ?_
    refine Run.opG wantS_none (ex_pickT' rfl hc51 rfl rfl) rfl ?_
    exact Run.pick [104] (law06_GlitchLinear_7_ok F r53 _ _ _ (hH.pick [2, 3, 4] rfl rfl) h)
  · have h := bif_f hc51 h
    refine Run.no (wantS_not' rfl rfl hc51) rfl ?_
    refine Run.no (wantS_not' rfl rfl hc51) rfl ?_
    refine Run.no (wantS_not' rfl rfl hc51) rfl ?_
    refine Run.opG wantS_none (ex_pickF' rfl hc51 rfl rfl) rfl ?_
    exact Run.pick [104] (law06_GlitchLinear_7_ok F false _ _ _ (hH.pick [2, 3, 4] rfl rfl) h)

def law06_GlitchLinear_5 (F : Nat) (hd4 : (List Int) → Int → (List Int) → (List Int) → (List Int) → (List Int) → Option (Bool)) (v0 : (List Int)) (v12 : Int) (v65 : Bool) (l7 : (List Int)) (l12 : (List Int)) (l20 : (List Int)) (l30 : (List Int)) : Option (Bool) :=
  bif v65 then
    bnd (idx l7 v12) fun x34 =>
    bnd (idx l12 v12) fun x35 =>
    bnd (apd 8 l30 ([(w64 (x34 + x35))] : List Int)) fun l38 =>
    hd4 v0 (w64 (v12 + (1 : Int))) l7 l12 l20 l38
  else
    bnd (glitch_Transform F l20) fun r43 =>
    bif (!(r43.2 == (0 : Int))) then
      bnd (works F) fun r48 =>
      some r48
    else
      bif ((l7.length : Int) == (v0.length : Int)) then
        law06_GlitchLinear_6 F ((l12.length : Int) == (v0.length : Int)) l30 r43.1
      else
        law06_GlitchLinear_6 F false l30 r43.1

theorem law06_GlitchLinear_5_ok (F : Nat) (hd4 : (List Int) → Int → (List Int) → (List Int) → (List Int) → (List Int) → Option (Bool)) (hhd4 : ∀ (v0 : (List Int)) (v12 : Int) (l7 : (List Int)) (l12 : (List Int)) (l20 : (List Int)) (l30 : (List Int)) (sv0 : SV) (s7 : SV) (s12 : SV) (s20 : SV) (s30 : SV) (Fr : Rd) (M : Mem) (r : Bool) (hv0 : Slc Fr 1 (FlatR enc3) sv0 v0) (hH : Has Fr M [.vec 3 1 l7.length s7 (l7.flatMap enc3), .vec 3 1 l12.length s12 (l12.flatMap enc3), .vec 3 1 l20.length s20 (l20.flatMap enc3), .vec 3 1 l30.length s30 (l30.flatMap enc3), tb0, tb1, tb2]), hd4 v0 v12 l7 l12 l20 l30 = some r → Run Tryz.prog ⟨⟨3, [], none⟩, []⟩ 108 (law06_GlitchLinear_post r) [(0, sv0), (5, s7), (7, s12), (9, s20), (10, s30), (12, (.int .i64 v12))] [codeC Tryz.prog 3 [1, 1, 1, 1, 1, 1, 0, 1, 0, 0], loopC Tryz.prog 3 [1, 1, 1, 1, 1, 1, 0, 1, 0, 0], .inBlock 2, codeC Tryz.prog 3 [1, 1, 1, 1, 1, 1, 1]] M) : ∀ (v0 : (List Int)) (v12 : Int) (v65 : Bool) (l7 : (List Int)) (l12 : (List Int)) (l20 : (List Int)) (l30 : (List Int)) (sv0 : SV) (s7 : SV) (s12 : SV) (s20 : SV) (s30 : SV) (Fr : Rd) (M : Mem) (r : Bool) (hv0 : Slc Fr 1 (FlatR enc3) sv0 v0) (hH : Has Fr M [.vec 3 1 l7.length s7 (l7.flatMap enc3), .vec 3 1 l12.length s12 (l12.flatMap enc3), .vec 3 1 l20.length s20 (l20.flatMap enc3), .vec 3 1 l30.length s30 (l30.flatMap enc3), tb0, tb1, tb2]), law06_GlitchLinear_5 F hd4 v0 v12 v65 l7 l12 l20 l30 = some r → Run Tryz.prog ⟨⟨3, [], none⟩, []⟩ 108 (law06_GlitchLinear_post r) [(0, sv0), (5, s7), (7, s12), (9, s20), (10, s30), (12, (.int .i64 v12)), (65, (.bool v65))] [codeC Tryz.prog 3 [1, 1, 1, 1, 1, 1, 0, 1, 0, 0, 0, 1], codeC Tryz.prog 3 [1, 1, 1, 1, 1, 1, 0, 1, 0, 0, 1], loopC Tryz.prog 3 [1, 1, 1, 1, 1, 1, 0, 1, 0, 0], .inBlock 2, codeC Tryz.prog 3 [1, 1, 1, 1, 1, 1, 1]] M := by
  intro v0 v12 v65 l7 l12 l20 l30 sv0 s7 s12 s20 s30 Fr M r hv0 hH h
  rw [law06_GlitchLinear_5] at h
  rcases btf (v65) with hc33 | hc33
  · have h := bif_t hc33 h
    refine Run.condT' rfl hc33 ?_
    refine Run.skip (Run.seq (Run.block ?_))
    refine Run.drawG plan3_1_1_1_1_1_1_0_1_0_0_1_0_0 ?_
    refine DrawG.fl rfl (ev_ex wantS_none (ex_move rfl)) rfl ?_
    refine DrawG.fl rfl (ev_ex wantS_none (ex_move rfl)) rfl ?_
    refine DrawG.fl rfl (ev_ex wantS_none (ex_move rfl)) rfl ?_
    obtain ⟨x34, hx34, h⟩ := bnd_some h
    obtain ⟨p34, o34, hb34, hx34, he34⟩ := vec_elem (P := Tryz.prog) (t := 22) (kk := .i64) hH (i := 0) rfl hx34 els22
    refine DrawG.fl rfl (ev_ex wantS_none (ex_elX rfl rfl hx34)) rfl ?_
    refine DrawG.fl rfl (ev_ex wantS_none (ex_load1 rfl (hH.at (enc := enc3) (a := x34) (i := 0) rfl hb34 he34 enc3_len) rdLe_rfl agg3)) rfl ?_
    refine DrawG.fl rfl (ev_ex wantS_none (ex_move rfl)) rfl ?_
    refine DrawG.fl rfl (ev_ex wantS_none (ex_move rfl)) rfl ?_
    obtain ⟨x35, hx35, h⟩ := bnd_some h
    obtain ⟨p35, o35, hb35, hx35, he35⟩ := vec_elem (P := Tryz.prog) (t := 22) (kk := .i64) hH (i := 1) rfl hx35 els22
    refine DrawG.fl rfl (ev_ex wantS_none (ex_elX rfl rfl hx35)) rfl ?_
    refine DrawG.fl rfl (ev_ex wantS_none (ex_load1 rfl (hH.at (enc := enc3) (a := x35) (i := 1) rfl hb35 he35 enc3_len) rdLe_rfl agg3)) rfl ?_
    refine DrawG.fl rfl (ev_ex wantS_none (ex_add rfl rfl)) rfl ?_
    refine DrawG.opX rfl wantS_none rfl (ExG.built (enc := enc3) (l := ([(w64 (x34 + x35))] : List Int)) (z := 1) rfl elt22 rfl rfl rfl enc3_len hH) ?_
    rintro s36 M37 (hH37 : Has Fr M37 [.vec 3 1 ([(w64 (x34 + x35))] : List Int).length s36 (([(w64 (x34 + x35))] : List Int).flatMap enc3), .vec 3 1 l7.length s7 (l7.flatMap enc3), .vec 3 1 l12.length s12 (l12.flatMap enc3), .vec 3 1 l20.length s20 (l20.flatMap enc3), .vec 3 1 l30.length s30 (l30.flatMap enc3), tb0, tb1, tb2])
    refine ⟨(st_cons rfl (ev_ex wantS_none (ex_move rfl)) rfl rfl (blk_self hH37 (i := 4) rfl) st_nil), ?_⟩
    obtain ⟨l38, hl38, h⟩ := bnd_some h
    refine DrawG.opX rfl wantS_none rfl (ExG.append rfl rfl hH37 (i := 4) rfl enc3_len rfl enc3_ones appt22_22 rfl (len_slc (hH37.slc (i := 0) rfl enc3_len)) (first_slc (hH37.slc (i := 0) rfl enc3_len) (rdLe_rdRow _) enc3_len) hl38) ?_
    rintro s38 M40 (hH40 : Has Fr M40 [.vec 3 1 ([(w64 (x34 + x35))] : List Int).length s36 (([(w64 (x34 + x35))] : List Int).flatMap enc3), .vec 3 1 l7.length s7 (l7.flatMap enc3), .vec 3 1 l12.length s12 (l12.flatMap enc3), .vec 3 1 l20.length s20 (l20.flatMap enc3), .vec 3 1 l38.length s38 (l38.flatMap enc3), tb0, tb1, tb2])
    refine ⟨st_nil, ?_⟩
    refine DrawG.val rfl wantS_none (ex_assign rfl) rfl st_nil ?_
    refine DrawG.sync ?_
    refine DrawG.nil ?_
    refine Run.inBlock (Run.region ?_)
    refine Run.opG wantS_none (ex_move rfl) rfl ?_
    refine Run.opG wantS_none (ex_add rfl rfl) rfl ?_
    refine Run.opG wantS_none (ex_assign rfl) rfl ?_
    refine Run.opsEnd (Run.inLoop ?_)
    exact Run.pick [0, 5, 7, 9, 10, 12] (hhd4 v0 (w64 (v12 + (1 : Int))) l7 l12 l20 l38 sv0 s7 s12 s20 s38 _ _ _ hv0 (hH40.pick [1, 2, 3, 4, 5, 6, 7] rfl rfl) h)
  · have h := bif_f hc33 h
    refine Run.condF' rfl hc33 ?_
    refine Run.exit rfl (Run.seq (Run.region ?_))
    refine Run.opG wantS_none (ex_move rfl) rfl ?_
    obtain ⟨r43, hr43, h⟩ := bnd_some h
    refine Run.callX wantS_none (ex_call rfl mkk9 cal9) rfl (glitch_Transform_ok F l20 s20 _ _ (hH.slc (i := 2) rfl enc3_len) hr43) ?_
    rintro _ M45 ⟨s43_0, rfl, hN43⟩
    have hH45 : Has Fr M45 [.vec 3 1 r43.1.length s43_0 (r43.1.flatMap enc3), .vec 3 1 l7.length s7 (l7.flatMap enc3), .vec 3 1 l12.length s12 (l12.flatMap enc3), .vec 3 1 l20.length s20 (l20.flatMap enc3), .vec 3 1 l30.length s30 (l30.flatMap enc3), tb0, tb1, tb2] := hN43.1 _ _ hH
    refine Run.opG wantS_none (ex_move rfl) rfl ?_
    refine Run.opG wantS_none (ex_extract rfl rfl) rfl ?_
    refine Run.opG wantS_none (ex_extract rfl rfl) rfl ?_
    refine Run.opG wantS_none (ex_assign rfl) rfl ?_
    refine Run.opG wantS_none (ex_assign rfl) rfl ?_
    refine Run.opsEnd (Run.seq (Run.seq (Run.region ?_)))
    refine Run.opG wantS_none (ex_move rfl) rfl ?_
    refine Run.opG wantS_none (ex_neq rfl rfl) rfl ?_
    refine Run.opsEnd ?_
    rcases btf ((!(r43.2 == (0 : Int)))) with hc46 | hc46
    · have h := bif_t hc46 h
      refine Run.condT' rfl hc46 ?_
      refine Run.seq (Run.region ?_)
      obtain ⟨r48, hr48, h⟩ := bnd_some h
      refine Run.callP wantS_none (ex_call rfl mkk10 cal10) rfl (works_ok F r48 _ hH45 (List.mem_of_getElem? (i := 5) rfl) (List.mem_of_getElem? (i := 6) rfl) (List.mem_of_getElem? (i := 7) rfl) hr48) ?_
      refine Run.opG wantS_none (ex_assign rfl) rfl ?_
      refine Run.opsEnd ?_
      cases h
      exact Run.ret Tryz.func3 rfl (res_tmp rfl res_nil) rfl
    · have h := bif_f hc46 h
      refine Run.condF' rfl hc46 ?_
      refine Run.skip (Run.seq (Run.region ?_))
      refine Run.opG wantS_none (ex_move rfl) rfl ?_
      refine Run.opG wantS_none (ex_len' rfl (hH45.slc (i := 1) rfl enc3_len) lenk22) rfl ?_
      refine Run.opG wantS_none (ex_move rfl) rfl ?_
      refine Run.opG wantS_none (ex_len' rfl hv0 lenk22) rfl ?_
      refine Run.opG wantS_none (ex_eql rfl rfl) rfl ?_
      refine Run.opG wantS_none (ex_move rfl) rfl ?_
      rcases btf (((l7.length : Int) == (v0.length : Int))) with hc50 | hc50
      · have h := bif_t hc50 h
        refine Run.opG (wantS_yes' rfl rfl hc50) (ex_move rfl) rfl ?_
        refine Run.opG (wantS_yes' rfl rfl hc50) (ex_len' rfl (hH45.slc (i := 2) rfl enc3_len) lenk22) rfl ?_
        refine Run.opG (wantS_yes' rfl rfl hc50) (ex_move rfl) rfl ?_
        refine Run.opG (wantS_yes' rfl rfl hc50) (ex_len' rfl hv0 lenk22) rfl ?_
        refine Run.opG (wantS_yes' rfl rfl hc50) (ex_eql rfl rfl) rfl ?_
        refine Run.opG wantS_none (ex_pickT' rfl hc50 rfl rfl) rfl ?_
        exact Run.pick [10, 13, 99] (law06_GlitchLinear_6_ok F ((l12.length : Int) == (v0.length : Int)) l30 r43.1 s30 s43_0 _ _ _ (hH45.pick [4, 0, 5, 6, 7] rfl rfl) h)
      · have h := bif_f hc50 h
        refine Run.no (wantS_not' rfl rfl hc50) rfl ?_
        refine Run.no (wantS_not' rfl rfl hc50) rfl ?_
        refine Run.no (wantS_not' rfl rfl hc50) rfl ?_
        refine Run.no (wantS_not' rfl rfl hc50) rfl ?_
        refine Run.no (wantS_not' rfl rfl hc50) rfl ?_
        refine Run.opG wantS_none (ex_pickF' rfl hc50 rfl rfl) rfl ?_
        exact Run.pick [10, 13, 99] (law06_GlitchLinear_6_ok F false l30 r43.1 s30 s43_0 _ _ _ (hH45.pick [4, 0, 5, 6, 7] rfl rfl) h)

def law06_GlitchLinear_4 (F : Nat) : Nat → (List Int) → Int → (List Int) → (List Int) → (List Int) → (List Int) → Option (Bool)
  | 0, _, _, _, _, _, _ => none
  | N + 1, v0, v12, l7, l12, l20, l30 =>
    bif (decide (v12 < (l7.length : Int))) then
      law06_GlitchLinear_5 F (law06_GlitchLinear_4 F N) v0 v12 (decide (v12 < (l12.length : Int))) l7 l12 l20 l30
    else
      law06_GlitchLinear_5 F (law06_GlitchLinear_4 F N) v0 v12 false l7 l12 l20 l30

theorem law06_GlitchLinear_4_ok (F : Nat) : ∀ (N : Nat), ∀ (v0 : (List Int)) (v12 : Int) (l7 : (List Int)) (l12 : (List Int)) (l20 : (List Int)) (l30 : (List Int)) (sv0 : SV) (s7 : SV) (s12 : SV) (s20 : SV) (s30 : SV) (Fr : Rd) (M : Mem) (r : Bool) (hv0 : Slc Fr 1 (FlatR enc3) sv0 v0) (hH : Has Fr M [.vec 3 1 l7.length s7 (l7.flatMap enc3), .vec 3 1 l12.length s12 (l12.flatMap enc3), .vec 3 1 l20.length s20 (l20.flatMap enc3), .vec 3 1 l30.length s30 (l30.flatMap enc3), tb0, tb1, tb2]), law06_GlitchLinear_4 F N v0 v12 l7 l12 l20 l30 = some r → Run Tryz.prog ⟨⟨3, [], none⟩, []⟩ 108 (law06_GlitchLinear_post r) [(0, sv0), (5, s7), (7, s12), (9, s20), (10, s30), (12, (.int .i64 v12))] [codeC Tryz.prog 3 [1, 1, 1, 1, 1, 1, 0, 1, 0, 0], loopC Tryz.prog 3 [1, 1, 1, 1, 1, 1, 0, 1, 0, 0], .inBlock 2, codeC Tryz.prog 3 [1, 1, 1, 1, 1, 1, 1]] M := by
  intro N
  induction N with
  | zero =>
    intro v0 v12 l7 l12 l20 l30 sv0 s7 s12 s20 s30 Fr M r hv0 hH h
    simp [law06_GlitchLinear_4] at h
  | succ N ih =>
    intro v0 v12 l7 l12 l20 l30 sv0 s7 s12 s20 s30 Fr M r hv0 hH h
    rw [law06_GlitchLinear_4] at h
    refine Run.seq (Run.seq (Run.region ?_))
    refine Run.opG wantS_none (ex_move rfl) rfl ?_
    refine Run.opG wantS_none (ex_move rfl) rfl ?_
    refine Run.opG wantS_none (ex_len' rfl (hH.slc (i := 0) rfl enc3_len) lenk22) rfl ?_
    refine Run.opG wantS_none (ex_lss rfl rfl) rfl ?_
    refine Run.opG wantS_none (ex_move rfl) rfl ?_
    rcases btf ((decide (v12 < (l7.length : Int)))) with hc32 | hc32
    · have h := bif_t hc32 h
      refine Run.opG (wantS_yes' rfl rfl hc32) (ex_move rfl) rfl ?_
      refine Run.opG (wantS_yes' rfl rfl hc32) (ex_move rfl) rfl ?_
      refine Run.opG (wantS_yes' rfl rfl hc32) (ex_len' rfl (hH.slc (i := 1) rfl enc3_len) lenk22) rfl ?_
      refine Run.opG (wantS_yes' rfl rfl hc32) (ex_lss rfl rfl) rfl ?_
      refine Run.opG wantS_none (ex_pickT' rfl hc32 rfl rfl) rfl ?_
      refine Run.opsEnd ?_
      exact Run.pick [0, 5, 7, 9, 10, 12, 65] (law06_GlitchLinear_5_ok F (law06_GlitchLinear_4 F N) ih v0 v12 (decide (v12 < (l12.length : Int))) l7 l12 l20 l30 sv0 s7 s12 s20 s30 _ _ _ hv0 hH h)
    · have h := bif_f hc32 h
      refine Run.no (wantS_not' rfl rfl hc32) rfl ?_
      refine Run.no (wantS_not' rfl rfl hc32) rfl ?_
      refine Run.no (wantS_not' rfl rfl hc32) rfl ?_
      refine Run.no (wantS_not' rfl rfl hc32) rfl ?_
      refine Run.opG wantS_none (ex_pickF' rfl hc32 rfl rfl) rfl ?_
      refine Run.opsEnd ?_
      exact Run.pick [0, 5, 7, 9, 10, 12, 65] (law06_GlitchLinear_5_ok F (law06_GlitchLinear_4 F N) ih v0 v12 false l7 l12 l20 l30 sv0 s7 s12 s20 s30 _ _ _ hv0 hH h)

def law06_GlitchLinear_3 (F : Nat) : Nat → (List Int) → (List Int) → Int → (List Int) → (List Int) → (List Int) → Option (Bool)
  | 0, _, _, _, _, _, _ => none
  | N + 1, v0, v1, v11, l7, l12, l20 =>
    bif (decide (v11 < (v0.length : Int))) then
      bnd (idx v0 v11) fun x23 =>
      bnd (idx v1 v11) fun x24 =>
      bnd (apd 8 l20 ([(w64 (x23 + x24))] : List Int)) fun l27 =>
      (law06_GlitchLinear_3 F N) v0 v1 (w64 (v11 + (1 : Int))) l7 l12 l27
    else
      law06_GlitchLinear_4 F F v0 (0 : Int) l7 l12 l20 ([] : List Int)

theorem law06_GlitchLinear_3_ok (F : Nat) : ∀ (N : Nat), ∀ (v0 : (List Int)) (v1 : (List Int)) (v11 : Int) (l7 : (List Int)) (l12 : (List Int)) (l20 : (List Int)) (sv0 : SV) (sv1 : SV) (s7 : SV) (s12 : SV) (s20 : SV) (Fr : Rd) (M : Mem) (r : Bool) (hv0 : Slc Fr 1 (FlatR enc3) sv0 v0) (hv1 : Slc Fr 1 (FlatR enc3) sv1 v1) (hH : Has Fr M [.vec 3 1 l7.length s7 (l7.flatMap enc3), .vec 3 1 l12.length s12 (l12.flatMap enc3), .vec 3 1 l20.length s20 (l20.flatMap enc3), tb0, tb1, tb2]), law06_GlitchLinear_3 F N v0 v1 v11 l7 l12 l20 = some r → Run Tryz.prog ⟨⟨3, [], none⟩, []⟩ 108 (law06_GlitchLinear_post r) [(0, sv0), (1, sv1), (5, s7), (7, s12), (9, s20), (10, .nils), (11, (.int .i64 v11))] [codeC Tryz.prog 3 [1, 1, 1, 1, 1, 0, 1, 0, 0], loopC Tryz.prog 3 [1, 1, 1, 1, 1, 0, 1, 0, 0], .inBlock 0, codeC Tryz.prog 3 [1, 1, 1, 1, 1, 1]] M := by
  intro N
  induction N with
  | zero =>
    intro v0 v1 v11 l7 l12 l20 sv0 sv1 s7 s12 s20 Fr M r hv0 hv1 hH h
    simp [law06_GlitchLinear_3] at h
  | succ N ih =>
    intro v0 v1 v11 l7 l12 l20 sv0 sv1 s7 s12 s20 Fr M r hv0 hv1 hH h
    rw [law06_GlitchLinear_3] at h
    refine Run.seq (Run.seq (Run.region ?_))
    refine Run.opG wantS_none (ex_move rfl) rfl ?_
    refine Run.opG wantS_none (ex_move rfl) rfl ?_
    refine Run.opG wantS_none (ex_len' rfl hv0 lenk22) rfl ?_
    refine Run.opG wantS_none (ex_lss rfl rfl) rfl ?_
    refine Run.opsEnd ?_
    rcases btf ((decide (v11 < (v0.length : Int)))) with hc22 | hc22
    · have h := bif_t hc22 h
      refine Run.condT' rfl hc22 ?_
      refine Run.skip (Run.seq (Run.block ?_))
      refine Run.drawG plan3_1_1_1_1_1_0_1_0_0_1_0_0 ?_
      refine DrawG.fl rfl (ev_ex wantS_none (ex_move rfl)) rfl ?_
      refine DrawG.fl rfl (ev_ex wantS_none (ex_move rfl)) rfl ?_
      refine DrawG.fl rfl (ev_ex wantS_none (ex_move rfl)) rfl ?_
      obtain ⟨x23, hx23, h⟩ := bnd_some h
      obtain ⟨p23, o23, _, hx23, hp23, rfl⟩ := sl_elem (P := Tryz.prog) (t := 22) (kk := .i64) hv0 hx23 els22
      refine DrawG.fl rfl (ev_ex wantS_none (ex_elX rfl rfl hx23)) rfl ?_
      refine DrawG.fl rfl (ev_ex wantS_none (ex_load1 rfl (hH.ptrF hp23) rdLe_rfl agg3)) rfl ?_
      refine DrawG.fl rfl (ev_ex wantS_none (ex_move rfl)) rfl ?_
      refine DrawG.fl rfl (ev_ex wantS_none (ex_move rfl)) rfl ?_
      obtain ⟨x24, hx24, h⟩ := bnd_some h
      obtain ⟨p24, o24, _, hx24, hp24, rfl⟩ := sl_elem (P := Tryz.prog) (t := 22) (kk := .i64) hv1 hx24 els22
      refine DrawG.fl rfl (ev_ex wantS_none (ex_elX rfl rfl hx24)) rfl ?_
      refine DrawG.fl rfl (ev_ex wantS_none (ex_load1 rfl (hH.ptrF hp24) rdLe_rfl agg3)) rfl ?_
      refine DrawG.fl rfl (ev_ex wantS_none (ex_add rfl rfl)) rfl ?_
      refine DrawG.opX rfl wantS_none rfl (ExG.built (enc := enc3) (l := ([(w64 (x23 + x24))] : List Int)) (z := 1) rfl elt22 rfl rfl rfl enc3_len hH) ?_
      rintro s25 M26 (hH26 : Has Fr M26 [.vec 3 1 ([(w64 (x23 + x24))] : List Int).length s25 (([(w64 (x23 + x24))] : List Int).flatMap enc3), .vec 3 1 l7.length s7 (l7.flatMap enc3), .vec 3 1 l12.length s12 (l12.flatMap enc3), .vec 3 1 l20.length s20 (l20.flatMap enc3), tb0, tb1, tb2])
      refine ⟨(st_cons rfl (ev_ex wantS_none (ex_move rfl)) rfl rfl (blk_self hH26 (i := 3) rfl) st_nil), ?_⟩
      obtain ⟨l27, hl27, h⟩ := bnd_some h
      refine DrawG.opX rfl wantS_none rfl (ExG.append rfl rfl hH26 (i := 3) rfl enc3_len rfl enc3_ones appt22_22 rfl (len_slc (hH26.slc (i := 0) rfl enc3_len)) (first_slc (hH26.slc (i := 0) rfl enc3_len) (rdLe_rdRow _) enc3_len) hl27) ?_
      rintro s27 M29 (hH29 : Has Fr M29 [.vec 3 1 ([(w64 (x23 + x24))] : List Int).length s25 (([(w64 (x23 + x24))] : List Int).flatMap enc3), .vec 3 1 l7.length s7 (l7.flatMap enc3), .vec 3 1 l12.length s12 (l12.flatMap enc3), .vec 3 1 l27.length s27 (l27.flatMap enc3), tb0, tb1, tb2])
      refine ⟨st_nil, ?_⟩
      refine DrawG.val rfl wantS_none (ex_assign rfl) rfl st_nil ?_
      refine DrawG.sync ?_
      refine DrawG.nil ?_
      refine Run.inBlock (Run.region ?_)
      refine Run.opG wantS_none (ex_move rfl) rfl ?_
      refine Run.opG wantS_none (ex_add rfl rfl) rfl ?_
      refine Run.opG wantS_none (ex_assign rfl) rfl ?_
      refine Run.opsEnd (Run.inLoop ?_)
      exact Run.pick [0, 1, 5, 7, 9, 10, 11] (ih v0 v1 (w64 (v11 + (1 : Int))) l7 l12 l27 sv0 sv1 s7 s12 s27 _ _ _ hv0 hv1 (hH29.pick [1, 2, 3, 4, 5, 6] rfl rfl) h)
    · have h := bif_f hc22 h
      refine Run.condF' rfl hc22 ?_
      refine Run.exit rfl (Run.seq (Run.seq (Run.region ?_)))
      refine Run.opG wantS_none (ex_assign rfl) rfl ?_
      refine Run.opsEnd (Run.block (Run.loop ?_))
      have hH31 : Has Fr M [.vec 3 1 ([] : List Int).length .nils (([] : List Int).flatMap enc3), .vec 3 1 l7.length s7 (l7.flatMap enc3), .vec 3 1 l12.length s12 (l12.flatMap enc3), .vec 3 1 l20.length s20 (l20.flatMap enc3), tb0, tb1, tb2] := hH.nils 3 1
      exact Run.pick [0, 5, 7, 9, 10, 12] (law06_GlitchLinear_4_ok F F v0 (0 : Int) l7 l12 l20 ([] : List Int) sv0 s7 s12 s20 .nils _ _ _ hv0 (hH31.pick [1, 2, 3, 0, 4, 5, 6] rfl rfl) h)

def law06_GlitchLinear_2 (F : Nat) (v0 : (List Int)) (v1 : (List Int)) (v36 : Bool) (l7 : (List Int)) (l12 : (List Int)) : Option (Bool) :=
  bif v36 then
    bnd (works F) fun r18 =>
    some r18
  else
    law06_GlitchLinear_3 F F v0 v1 (0 : Int) l7 l12 ([] : List Int)

theorem law06_GlitchLinear_2_ok (F : Nat) : ∀ (v0 : (List Int)) (v1 : (List Int)) (v36 : Bool) (l7 : (List Int)) (l12 : (List Int)) (sv0 : SV) (sv1 : SV) (s7 : SV) (s12 : SV) (Fr : Rd) (M : Mem) (r : Bool) (hv0 : Slc Fr 1 (FlatR enc3) sv0 v0) (hv1 : Slc Fr 1 (FlatR enc3) sv1 v1) (hH : Has Fr M [.vec 3 1 l7.length s7 (l7.flatMap enc3), .vec 3 1 l12.length s12 (l12.flatMap enc3), tb0, tb1, tb2]), law06_GlitchLinear_2 F v0 v1 v36 l7 l12 = some r → Run Tryz.prog ⟨⟨3, [], none⟩, []⟩ 108 (law06_GlitchLinear_post r) [(0, sv0), (1, sv1), (5, s7), (7, s12), (36, (.bool v36))] [codeC Tryz.prog 3 [1, 1, 1, 0, 1], codeC Tryz.prog 3 [1, 1, 1, 1]] M := by
  intro v0 v1 v36 l7 l12 sv0 sv1 s7 s12 Fr M r hv0 hv1 hH h
  rw [law06_GlitchLinear_2] at h
  rcases btf (v36) with hc16 | hc16
  · have h := bif_t hc16 h
    refine Run.condT' rfl hc16 ?_
    refine Run.seq (Run.region ?_)
    obtain ⟨r18, hr18, h⟩ := bnd_some h
    refine Run.callP wantS_none (ex_call rfl mkk10 cal10) rfl (works_ok F r18 _ hH (List.mem_of_getElem? (i := 2) rfl) (List.mem_of_getElem? (i := 3) rfl) (List.mem_of_getElem? (i := 4) rfl) hr18) ?_
    refine Run.opG wantS_none (ex_assign rfl) rfl ?_
    refine Run.opsEnd ?_
    cases h
    exact Run.ret Tryz.func3 rfl (res_tmp rfl res_nil) rfl
  · have h := bif_f hc16 h
    refine Run.condF' rfl hc16 ?_
    refine Run.skip (Run.seq (Run.region ?_))
    refine Run.opG wantS_none (ex_assign rfl) rfl ?_
    refine Run.opG wantS_none (ex_assign rfl) rfl ?_
    refine Run.opsEnd (Run.seq (Run.seq (Run.region ?_)))
    refine Run.opG wantS_none (ex_assign rfl) rfl ?_
    refine Run.opsEnd (Run.block (Run.loop ?_))
    have hH21 : Has Fr M [.vec 3 1 ([] : List Int).length .nils (([] : List Int).flatMap enc3), .vec 3 1 l7.length s7 (l7.flatMap enc3), .vec 3 1 l12.length s12 (l12.flatMap enc3), tb0, tb1, tb2] := hH.nils 3 1
    exact Run.pick [0, 1, 5, 7, 9, 10, 11] (law06_GlitchLinear_3_ok F F v0 v1 (0 : Int) l7 l12 ([] : List Int) sv0 sv1 s7 s12 .nils _ _ _ hv0 hv1 (hH21.pick [1, 2, 0, 3, 4, 5] rfl rfl) h)

def law06_GlitchLinear_1 (F : Nat) (v0 : (List Int)) (v1 : (List Int)) (v29 : Bool) (l7 : (List Int)) (l12 : (List Int)) : Option (Bool) :=
  bif v29 then
    law06_GlitchLinear_2 F v0 v1 true l7 l12
  else
    law06_GlitchLinear_2 F v0 v1 (!((v0.length : Int) == (v1.length : Int))) l7 l12

theorem law06_GlitchLinear_1_ok (F : Nat) : ∀ (v0 : (List Int)) (v1 : (List Int)) (v29 : Bool) (l7 : (List Int)) (l12 : (List Int)) (sv0 : SV) (sv1 : SV) (s7 : SV) (s12 : SV) (Fr : Rd) (M : Mem) (r : Bool) (hv0 : Slc Fr 1 (FlatR enc3) sv0 v0) (hv1 : Slc Fr 1 (FlatR enc3) sv1 v1) (hH : Has Fr M [.vec 3 1 l7.length s7 (l7.flatMap enc3), .vec 3 1 l12.length s12 (l12.flatMap enc3), tb0, tb1, tb2]), law06_GlitchLinear_1 F v0 v1 v29 l7 l12 = some r → Run Tryz.prog ⟨⟨3, [], none⟩, []⟩ 108 (law06_GlitchLinear_post r) [(0, sv0), (1, sv1), (5, s7), (7, s12), (29, (.bool v29))] [itemC Tryz.prog 3 [1, 1, 1, 0, 0] 6, codeC Tryz.prog 3 [1, 1, 1, 0, 1], codeC Tryz.prog 3 [1, 1, 1, 1]] M := by
  intro v0 v1 v29 l7 l12 sv0 sv1 s7 s12 Fr M r hv0 hv1 hH h
  rw [law06_GlitchLinear_1] at h
  refine Run.opG wantS_none (ex_move rfl) rfl ?_
  rcases btf (v29) with hc15 | hc15
  · have h := bif_t hc15 h
    refine Run.no (wantS_not' rfl rfl hc15) rfl ?_
    refine Run.no (wantS_not' rfl rfl hc15) rfl ?_
    refine Run.no (wantS_not' rfl rfl hc15) rfl ?_
    refine Run.no (wantS_not' rfl rfl hc15) rfl ?_
    refine Run.no (wantS_not' rfl rfl hc15) rfl ?_
    refine Run.opG wantS_none (ex_pickT' rfl hc15 rfl rfl) rfl ?_
    refine Run.opsEnd ?_
    exact Run.pick [0, 1, 5, 7, 36] (law06_GlitchLinear_2_ok F v0 v1 true l7 l12 sv0 sv1 s7 s12 _ _ _ hv0 hv1 hH h)
  · have h := bif_f hc15 h
    refine Run.opG (wantS_yes' rfl rfl hc15) (ex_move rfl) rfl ?_
    refine Run.opG (wantS_yes' rfl rfl hc15) (ex_len' rfl hv0 lenk22) rfl ?_
    refine Run.opG (wantS_yes' rfl rfl hc15) (ex_move rfl) rfl ?_
    refine Run.opG (wantS_yes' rfl rfl hc15) (ex_len' rfl hv1 lenk22) rfl ?_
    refine Run.opG (wantS_yes' rfl rfl hc15) (ex_neq rfl rfl) rfl ?_
    refine Run.opG wantS_none (ex_pickF' rfl hc15 rfl rfl) rfl ?_
    refine Run.opsEnd ?_
    exact Run.pick [0, 1, 5, 7, 36] (law06_GlitchLinear_2_ok F v0 v1 (!((v0.length : Int) == (v1.length : Int))) l7 l12 sv0 sv1 s7 s12 _ _ _ hv0 hv1 hH h)

def law06_GlitchLinear (F : Nat) (a0 : (List Int)) (a1 : (List Int)) : Option (Bool) :=
  bnd (glitch_Transform F a0) fun r6 =>
  bnd (glitch_Transform F a1) fun r11 =>
  bif (!(r6.2 == (0 : Int))) then
    law06_GlitchLinear_1 F a0 a1 true r6.1 r11.1
  else
    law06_GlitchLinear_1 F a0 a1 (!(r11.2 == (0 : Int))) r6.1 r11.1

theorem law06_GlitchLinear_run (F : Nat) (a0 : (List Int)) (a1 : (List Int)) (s0 s1 : SV) (r : Bool) (M : Mem) (hs0 : Slc (rd M) 1 (FlatR enc3) s0 a0) (hs1 : Slc (rd M) 1 (FlatR enc3) s1 a1) (hfx : FixIn M fixes) (h : law06_GlitchLinear F a0 a1 = some r) : Run Tryz.prog (fx0 3) 108 (law06_GlitchLinear_post r) [(0, s0), (1, s1)] [codeC Tryz.prog 3 []] (frozen M) := by
  rw [law06_GlitchLinear] at h
  replace hs0 := hs0.mono (rdLe_frozen M) (fun _ _ h => h)
  replace hs1 := hs1.mono (rdLe_frozen M) (fun _ _ h => h)
  have hH : Has (ro (frozen M)) (frozen M) [tb0, tb1, tb2] := Has.ofFix hfx.frozen
  refine Run.seq (Run.region ?_)
  refine Run.opG wantS_none (ex_assign rfl) rfl ?_
  refine Run.opsEnd (Run.seq (Run.region ?_))
  refine Run.opG wantS_none (ex_move rfl) rfl ?_
  obtain ⟨r6, hr6, h⟩ := bnd_some h
  refine Run.callX wantS_none (ex_call rfl mkk9 cal9) rfl (glitch_Transform_ok F a0 s0 _ _ (hH.slcF hs0) hr6) ?_
  rintro _ M8 ⟨s6_0, rfl, hN6⟩
  have hH8 : Has (ro (frozen M)) M8 [.vec 3 1 r6.1.length s6_0 (r6.1.flatMap enc3), tb0, tb1, tb2] := hN6.1 _ _ hH
  refine Run.opG wantS_none (ex_move rfl) rfl ?_
  refine Run.opG wantS_none (ex_extract rfl rfl) rfl ?_
  refine Run.opG wantS_none (ex_extract rfl rfl) rfl ?_
  refine Run.opG wantS_none (ex_assign rfl) rfl ?_
  refine Run.opG wantS_none (ex_assign rfl) rfl ?_
  refine Run.opsEnd (Run.seq (Run.region ?_))
  refine Run.opG wantS_none (ex_move rfl) rfl ?_
  obtain ⟨r11, hr11, h⟩ := bnd_some h
  refine Run.callX wantS_none (ex_call rfl mkk9 cal9) rfl (glitch_Transform_ok F a1 s1 _ _ (hH8.slcF hs1) hr11) ?_
  rintro _ M13 ⟨s11_0, rfl, hN11⟩
  have hH13 : Has (ro (frozen M)) M13 [.vec 3 1 r11.1.length s11_0 (r11.1.flatMap enc3), .vec 3 1 r6.1.length s6_0 (r6.1.flatMap enc3), tb0, tb1, tb2] := hN11.1 _ _ hH8
  refine Run.opG wantS_none (ex_move rfl) rfl ?_
  refine Run.opG wantS_none (ex_extract rfl rfl) rfl ?_
  refine Run.opG wantS_none (ex_extract rfl rfl) rfl ?_
  refine Run.opG wantS_none (ex_assign rfl) rfl ?_
  refine Run.opG wantS_none (ex_assign rfl) rfl ?_
  refine Run.opsEnd (Run.seq (Run.seq (Run.region ?_)))
  refine Run.opG wantS_none (ex_move rfl) rfl ?_
  refine Run.opG wantS_none (ex_neq rfl rfl) rfl ?_
  refine Run.opG wantS_none (ex_move rfl) rfl ?_
  rcases btf ((!(r6.2 == (0 : Int)))) with hc14 | hc14
  · have h := bif_t hc14 h
    refine Run.no (wantS_not' rfl rfl hc14) rfl ?_
    refine Run.no (wantS_not' rfl rfl hc14) rfl ?_
    refine Run.opG wantS_none (ex_pickT' rfl hc14 rfl rfl) rfl ?_
    exact Run.pick [0, 1, 5, 7, 29] (law06_GlitchLinear_1_ok F a0 a1 true r6.1 r11.1 s0 s1 s6_0 s11_0 _ _ _ hs0 hs1 (hH13.pick [1, 0, 2, 3, 4] rfl rfl) h)
  · have h := bif_f hc14 h
    refine Run.opG (wantS_yes' rfl rfl hc14) (ex_move rfl) rfl ?_
    refine Run.opG (wantS_yes' rfl rfl hc14) (ex_neq rfl rfl) rfl ?_
    refine Run.opG wantS_none (ex_pickF' rfl hc14 rfl rfl) rfl ?_
    exact Run.pick [0, 1, 5, 7, 29] (law06_GlitchLinear_1_ok F a0 a1 (!(r11.2 == (0 : Int))) r6.1 r11.1 s0 s1 s6_0 s11_0 _ _ _ hs0 hs1 (hH13.pick [1, 0, 2, 3, 4] rfl rfl) h)

end Go.Ev.GlitchLinear
