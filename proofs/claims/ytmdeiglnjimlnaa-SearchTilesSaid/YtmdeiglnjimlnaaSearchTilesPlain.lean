/- Plain functions that say what functions of the program come to, and proofs of it, written by a program of the verifier's own. -/
import Derived.Test.YtmdeiglnjimlnaaEvL11
import Derived.Test.YtmdeiglnjimlnaaEvL16
import Derived.Test.YtmdeiglnjimlnaaWorks
import Derived.KernelRfl
namespace Go.Ev.SearchTiles
open Go Go.Ev Go.Proofs
set_option maxRecDepth 100000
set_option linter.unusedVariables false

/-- The listed tables. -/
noncomputable def fixes : List (Nat × List SV) := Go.Proofs.Ytmdeiglnjimlnaa.works.fixes
/-- works() comes to true. -/
def works (_ : Nat) : Option Bool := some true
theorem fixH {Fr : Rd} {H : List Ent} {M : Mem} (hH : Has Fr M H) : FixIn M fixes := fun x hx => absurd hx List.not_mem_nil

theorem works_ok (F : Nat) (r : Bool) {Fr : Rd} {H : List Ent} (M : Mem) (hH : Has Fr M H) (h : works F = some r) : CallsM Try.prog 6 [] M fun s M' => s = .bool r ∧ M' = M := by
  cases h
  exact CallsM.closedFix (n := 300) (l := Go.Proofs.Ytmdeiglnjimlnaa.works.fixes) Go.Proofs.Ytmdeiglnjimlnaa.works.below Go.Proofs.Ytmdeiglnjimlnaa.works.plainF Go.Proofs.Ytmdeiglnjimlnaa.works.works_true (fun x hx => absurd hx List.not_mem_nil)


def enc3 (a : Int) : List SV := [(.int .i64 a)]
theorem enc3_len (a : Int) : (enc3 a).length = 1 := rfl
theorem enc3_ones (a : Int) : ones (enc3 a) = true := rfl
structure S_api_Tile where
  Level : Int
  At : Int
  D : Int

def enc29 (a : S_api_Tile) : List SV := [(.int .i64 a.Level), (.int .i64 a.At), (.int .i64 a.D)]
theorem enc29_len (a : S_api_Tile) : (enc29 a).length = 3 := rfl
theorem enc29_ones (a : S_api_Tile) : ones (enc29 a) = true := rfl
theorem lenk22 : lenK Try.prog 22 = some .sl := by kernel_rfl
abbrev glitch_isFrom_post (r : Bool) : SV → Mem → Prop := fun s _ => s = (.bool r)

def glitch_isFrom_1 (F : Nat) (v14 : Bool) : Option (Bool) :=
  some v14

theorem glitch_isFrom_1_ok (F : Nat) : ∀ (v14 : Bool) (Fr : Rd) (M : Mem) (r : Bool) (hH : Has Fr M []), glitch_isFrom_1 F v14 = some r → Run Try.prog ⟨⟨62, [], none⟩, []⟩ 15 (glitch_isFrom_post r) [(14, (.bool v14))] [itemC Try.prog 62 [1, 0] 8, codeC Try.prog 62 [1, 1]] M := by
  intro v14 Fr M r hH h
  rw [glitch_isFrom_1] at h
  refine Run.opG wantS_none (ex_assign rfl) rfl ?_
  refine Run.opsEnd ?_
  cases h
  exact Run.ret Try.func62 rfl (res_tmp rfl res_nil) rfl

def glitch_isFrom (F : Nat) (a0 : Int) (a1 : Int) (a2 : Int) : Option (Bool) :=
  bif (decide (a0 ≤ a1)) then
    glitch_isFrom_1 F (decide (a1 ≤ a2))
  else
    glitch_isFrom_1 F false

theorem glitch_isFrom_ok (F : Nat) (a0 : Int) (a1 : Int) (a2 : Int) (r : Bool) (M : Mem) (h : glitch_isFrom F a0 a1 a2 = some r) : CallsM Try.prog 62 [(.int .i64 a0), (.int .i64 a1), (.int .i64 a2)] M (fun s M' => s = (.bool r) ∧ M' = M) := by
  refine CallsM.plain Try.func62 rfl rfl rfl (show Run _ _ _ (glitch_isFrom_post r) _ _ _ from ?_)
  rw [glitch_isFrom] at h
  have hH := Has.nil (frozen M)
  refine Run.seq (Run.region ?_)
  refine Run.opG wantS_none (ex_assign rfl) rfl ?_
  refine Run.opsEnd (Run.seq (Run.region ?_))
  refine Run.opG wantS_none (ex_move rfl) rfl ?_
  refine Run.opG wantS_none (ex_move rfl) rfl ?_
  refine Run.opG wantS_none (ex_leq rfl rfl) rfl ?_
  refine Run.opG wantS_none (ex_move rfl) rfl ?_
  rcases btf ((decide (a0 ≤ a1))) with hc21 | hc21
  · have h := bif_t hc21 h
    refine Run.opG (wantS_yes' rfl rfl hc21) (ex_move rfl) rfl ?_
    refine Run.opG (wantS_yes' rfl rfl hc21) (ex_move rfl) rfl ?_
    refine Run.opG (wantS_yes' rfl rfl hc21) (ex_leq rfl rfl) rfl ?_
    refine Run.opG wantS_none (ex_pickT' rfl hc21 rfl rfl) rfl ?_
    exact Run.pick [14] (glitch_isFrom_1_ok F (decide (a1 ≤ a2)) _ _ _ hH h)
  · have h := bif_f hc21 h
    refine Run.no (wantS_not' rfl rfl hc21) rfl ?_
    refine Run.no (wantS_not' rfl rfl hc21) rfl ?_
    refine Run.no (wantS_not' rfl rfl hc21) rfl ?_
    refine Run.opG wantS_none (ex_pickF' rfl hc21 rfl rfl) rfl ?_
    exact Run.pick [14] (glitch_isFrom_1_ok F false _ _ _ hH h)

theorem mkk62 : makeK Try.prog 62 = none := by kernel_rfl
theorem cal62 : callable Try.prog 62 = true := by kernel_rfl
abbrev glitch_isLength_post (r : Bool) : SV → Mem → Prop := fun s _ => s = (.bool r)

def glitch_isLength_1 (F : Nat) (v11 : Bool) : Option (Bool) :=
  some v11

theorem glitch_isLength_1_ok (F : Nat) : ∀ (v11 : Bool) (Fr : Rd) (M : Mem) (r : Bool) (hH : Has Fr M []), glitch_isLength_1 F v11 = some r → Run Try.prog ⟨⟨39, [], none⟩, []⟩ 12 (glitch_isLength_post r) [(11, (.bool v11))] [itemC Try.prog 39 [1, 0] 9, codeC Try.prog 39 [1, 1]] M := by
  intro v11 Fr M r hH h
  rw [glitch_isLength_1] at h
  refine Run.opG wantS_none (ex_assign rfl) rfl ?_
  refine Run.opsEnd ?_
  cases h
  exact Run.ret Try.func39 rfl (res_tmp rfl res_nil) rfl

def glitch_isLength (F : Nat) (a0 : Int) : Option (Bool) :=
  bnd (glitch_isFrom F (1 : Int) a0 (1024 : Int)) fun r22 =>
  bif r22 then
    bnd (bitZ Nat.land .i64 a0 (w64 (a0 - (1 : Int)))) fun z26 =>
    glitch_isLength_1 F (z26 == (0 : Int))
  else
    glitch_isLength_1 F false

theorem glitch_isLength_ok (F : Nat) (a0 : Int) (r : Bool) (M : Mem) (h : glitch_isLength F a0 = some r) : CallsM Try.prog 39 [(.int .i64 a0)] M (fun s M' => s = (.bool r) ∧ M' = M) := by
  refine CallsM.plain Try.func39 rfl rfl rfl (show Run _ _ _ (glitch_isLength_post r) _ _ _ from ?_)
  rw [glitch_isLength] at h
  have hH := Has.nil (frozen M)
  refine Run.seq (Run.region ?_)
  refine Run.opG wantS_none (ex_assign rfl) rfl ?_
  refine Run.opsEnd (Run.seq (Run.region ?_))
  refine Run.opG wantS_none (ex_move rfl) rfl ?_
  obtain ⟨r22, hr22, h⟩ := bnd_some h
  refine Run.callP wantS_none (ex_call rfl mkk62 cal62) rfl (glitch_isFrom_ok F (1 : Int) a0 (1024 : Int) _ _ hr22) ?_
  refine Run.opG wantS_none (ex_move rfl) rfl ?_
  rcases btf (r22) with hc24 | hc24
  · have h := bif_t hc24 h
    refine Run.opG (wantS_yes' rfl rfl hc24) (ex_move rfl) rfl ?_
    refine Run.opG (wantS_yes' rfl rfl hc24) (ex_move rfl) rfl ?_
    refine Run.opG (wantS_yes' rfl rfl hc24) (ex_sub rfl rfl) rfl ?_
    obtain ⟨z26, hz26, h⟩ := bnd_some h
    refine Run.opG (wantS_yes' rfl rfl hc24) (ex_and rfl rfl hz26) rfl ?_
    refine Run.opG (wantS_yes' rfl rfl hc24) (ex_eql rfl rfl) rfl ?_
    refine Run.opG wantS_none (ex_pickT' rfl hc24 rfl rfl) rfl ?_
    exact Run.pick [11] (glitch_isLength_1_ok F (z26 == (0 : Int)) _ _ _ hH h)
  · have h := bif_f hc24 h
    refine Run.no (wantS_not' rfl rfl hc24) rfl ?_
    refine Run.no (wantS_not' rfl rfl hc24) rfl ?_
    refine Run.no (wantS_not' rfl rfl hc24) rfl ?_
    refine Run.no (wantS_not' rfl rfl hc24) rfl ?_
    refine Run.no (wantS_not' rfl rfl hc24) rfl ?_
    refine Run.opG wantS_none (ex_pickF' rfl hc24 rfl rfl) rfl ?_
    exact Run.pick [11] (glitch_isLength_1_ok F false _ _ _ hH h)

theorem mkk39 : makeK Try.prog 39 = none := by kernel_rfl
theorem cal39 : callable Try.prog 39 = true := by kernel_rfl
theorem els22 : elems Try.prog 22 = some (.sl 1) := by kernel_rfl
theorem agg3 : aggSize Try.prog 3 = some none := by kernel_rfl
abbrev glitch_areFrom_post (r : Bool) : SV → Mem → Prop := fun s _ => s = (.bool r)

def glitch_areFrom_1 (F : Nat) : Nat → Int → (List Int) → Int → Int → Option (Bool)
  | 0, _, _, _, _ => none
  | N + 1, v1, v7, v8, v9 =>
    bif (decide (v9 < v8)) then
      bnd (idx v7 v9) fun x23 =>
      bnd (glitch_isFrom F (w64 (-v1)) x23 v1) fun r25 =>
      bif (!r25) then
        some false
      else
        (glitch_areFrom_1 F N) v1 v7 v8 (w64 (v9 + (1 : Int)))
    else
      some true

theorem glitch_areFrom_1_ok (F : Nat) : ∀ (N : Nat), ∀ (v1 : Int) (v7 : (List Int)) (v8 : Int) (v9 : Int) (sv7 : SV) (Fr : Rd) (M : Mem) (r : Bool) (hv7 : Slc Fr 1 (FlatR enc3) sv7 v7) (hH : Has Fr M []), glitch_areFrom_1 F N v1 v7 v8 v9 = some r → Run Try.prog ⟨⟨40, [], none⟩, []⟩ 20 (glitch_areFrom_post r) [(1, (.int .i64 v1)), (7, sv7), (8, (.int .i64 v8)), (9, (.int .i64 v9))] [codeC Try.prog 40 [1, 0, 1, 0, 0], loopC Try.prog 40 [1, 0, 1, 0, 0], .inBlock 0, codeC Try.prog 40 [1, 1]] M := by
  intro N
  induction N with
  | zero =>
    intro v1 v7 v8 v9 sv7 Fr M r hv7 hH h
    simp [glitch_areFrom_1] at h
  | succ N ih =>
    intro v1 v7 v8 v9 sv7 Fr M r hv7 hH h
    rw [glitch_areFrom_1] at h
    refine Run.seq (Run.region ?_)
    refine Run.opG wantS_none (ex_lss rfl rfl) rfl ?_
    refine Run.opsEnd (Run.seq ?_)
    rcases btf ((decide (v9 < v8))) with hc21 | hc21
    · have h := bif_t hc21 h
      refine Run.condT' rfl hc21 ?_
      refine Run.skip (Run.seq (Run.block (Run.seq (Run.region ?_))))
      obtain ⟨x23, hx23, h⟩ := bnd_some h
      obtain ⟨p23, o23, _, hx23, hp23, rfl⟩ := sl_elem (P := Try.prog) (t := 22) (kk := .i64) hv7 hx23 els22
      refine Run.opG wantS_none (ex_elX rfl rfl hx23) rfl ?_
      refine Run.opG wantS_none (ex_load1 rfl (hH.ptrF hp23) rdLe_rfl agg3) rfl ?_
      refine Run.opG wantS_none (ex_assign rfl) rfl ?_
      refine Run.opsEnd (Run.seq (Run.region ?_))
      refine Run.opG wantS_none (ex_move rfl) rfl ?_
      refine Run.opG wantS_none (ex_neg rfl) rfl ?_
      refine Run.opG wantS_none (ex_move rfl) rfl ?_
      refine Run.opG wantS_none (ex_move rfl) rfl ?_
      obtain ⟨r25, hr25, h⟩ := bnd_some h
      refine Run.callP wantS_none (ex_call rfl mkk62 cal62) rfl (glitch_isFrom_ok F (w64 (-v1)) x23 v1 _ _ hr25) ?_
      refine Run.opG wantS_none (ex_not rfl) rfl ?_
      refine Run.opsEnd ?_
      rcases btf ((!r25)) with hc27 | hc27
      · have h := bif_t hc27 h
        refine Run.condT' rfl hc27 ?_
        refine Run.seq (Run.region ?_)
        refine Run.opG wantS_none (ex_assign rfl) rfl ?_
        refine Run.opsEnd ?_
        cases h
        exact Run.ret Try.func40 rfl (res_tmp rfl res_nil) rfl
      · have h := bif_f hc27 h
        refine Run.condF' rfl hc27 ?_
        refine Run.skip (Run.inBlock (Run.region ?_))
        refine Run.opG wantS_none (ex_add rfl rfl) rfl ?_
        refine Run.opG wantS_none (ex_move rfl) rfl ?_
        refine Run.opsEnd (Run.inLoop ?_)
        exact Run.pick [1, 7, 8, 9] (ih v1 v7 v8 (w64 (v9 + (1 : Int))) sv7 _ _ _ hv7 hH h)
    · have h := bif_f hc21 h
      refine Run.condF' rfl hc21 ?_
      refine Run.exit rfl (Run.seq (Run.region ?_))
      refine Run.opG wantS_none (ex_assign rfl) rfl ?_
      refine Run.opsEnd ?_
      cases h
      exact Run.ret Try.func40 rfl (res_tmp rfl res_nil) rfl

def glitch_areFrom (F : Nat) (a0 : (List Int)) (a1 : Int) : Option (Bool) :=
  glitch_areFrom_1 F F a1 a0 (a0.length : Int) (0 : Int)

theorem glitch_areFrom_ok (F : Nat) (a0 : (List Int)) (a1 : Int) (s0 : SV) (r : Bool) (M : Mem) (hs0 : Slc (rd M) 1 (FlatR enc3) s0 a0) (h : glitch_areFrom F a0 a1 = some r) : CallsM Try.prog 40 [s0, (.int .i64 a1)] M (fun s M' => s = (.bool r) ∧ M' = M) := by
  refine CallsM.plain Try.func40 rfl rfl rfl (show Run _ _ _ (glitch_areFrom_post r) _ _ _ from ?_)
  rw [glitch_areFrom] at h
  replace hs0 := hs0.mono (rdLe_frozen M) (fun _ _ h => h)
  have hH := Has.nil (frozen M)
  refine Run.seq (Run.region ?_)
  refine Run.opG wantS_none (ex_assign rfl) rfl ?_
  refine Run.opsEnd (Run.seq (Run.seq (Run.region ?_)))
  refine Run.opG wantS_none (ex_move rfl) rfl ?_
  refine Run.opG wantS_none (ex_len' rfl hs0 lenk22) rfl ?_
  refine Run.opG wantS_none (ex_move rfl) rfl ?_
  refine Run.opsEnd (Run.block (Run.loop ?_))
  exact Run.pick [1, 7, 8, 9] (glitch_areFrom_1_ok F F a1 a0 (a0.length : Int) (0 : Int) s0 _ _ _ hs0 hH h)

theorem mkk40 : makeK Try.prog 40 = none := by kernel_rfl
theorem cal40 : callable Try.prog 40 = true := by kernel_rfl
abbrev glitch_isSignal_post (r : Bool) : SV → Mem → Prop := fun s _ => s = (.bool r)

def glitch_isSignal_1 (F : Nat) (v9 : Bool) : Option (Bool) :=
  some v9

theorem glitch_isSignal_1_ok (F : Nat) : ∀ (v9 : Bool) (Fr : Rd) (M : Mem) (r : Bool) (hH : Has Fr M []), glitch_isSignal_1 F v9 = some r → Run Try.prog ⟨⟨14, [], none⟩, []⟩ 10 (glitch_isSignal_post r) [(9, (.bool v9))] [itemC Try.prog 14 [1, 0] 7, codeC Try.prog 14 [1, 1]] M := by
  intro v9 Fr M r hH h
  rw [glitch_isSignal_1] at h
  refine Run.opG wantS_none (ex_assign rfl) rfl ?_
  refine Run.opsEnd ?_
  cases h
  exact Run.ret Try.func14 rfl (res_tmp rfl res_nil) rfl

def glitch_isSignal (F : Nat) (a0 : (List Int)) : Option (Bool) :=
  bnd (glitch_isLength F (a0.length : Int)) fun r22 =>
  bif r22 then
    bnd (glitch_areFrom F a0 (1048576 : Int)) fun r26 =>
    glitch_isSignal_1 F r26
  else
    glitch_isSignal_1 F false

theorem glitch_isSignal_ok (F : Nat) (a0 : (List Int)) (s0 : SV) (r : Bool) (M : Mem) (hs0 : Slc (rd M) 1 (FlatR enc3) s0 a0) (h : glitch_isSignal F a0 = some r) : CallsM Try.prog 14 [s0] M (fun s M' => s = (.bool r) ∧ M' = M) := by
  refine CallsM.plain Try.func14 rfl rfl rfl (show Run _ _ _ (glitch_isSignal_post r) _ _ _ from ?_)
  rw [glitch_isSignal] at h
  replace hs0 := hs0.mono (rdLe_frozen M) (fun _ _ h => h)
  have hH := Has.nil (frozen M)
  refine Run.seq (Run.region ?_)
  refine Run.opG wantS_none (ex_assign rfl) rfl ?_
  refine Run.opsEnd (Run.seq (Run.region ?_))
  refine Run.opG wantS_none (ex_move rfl) rfl ?_
  refine Run.opG wantS_none (ex_len' rfl hs0 lenk22) rfl ?_
  obtain ⟨r22, hr22, h⟩ := bnd_some h
  refine Run.callP wantS_none (ex_call rfl mkk39 cal39) rfl (glitch_isLength_ok F (a0.length : Int) _ _ hr22) ?_
  refine Run.opG wantS_none (ex_move rfl) rfl ?_
  rcases btf (r22) with hc24 | hc24
  · have h := bif_t hc24 h
    refine Run.opG (wantS_yes' rfl rfl hc24) (ex_move rfl) rfl ?_
    obtain ⟨r26, hr26, h⟩ := bnd_some h
    refine Run.callP (wantS_yes' rfl rfl hc24) (ex_call rfl mkk40 cal40) rfl (glitch_areFrom_ok F a0 (1048576 : Int) s0 _ _ (hH.slcF hs0) hr26) ?_
    refine Run.opG wantS_none (ex_pickT' rfl hc24 rfl rfl) rfl ?_
    exact Run.pick [9] (glitch_isSignal_1_ok F r26 _ _ _ hH h)
  · have h := bif_f hc24 h
    refine Run.no (wantS_not' rfl rfl hc24) rfl ?_
    refine Run.no (wantS_not' rfl rfl hc24) rfl ?_
    refine Run.opG wantS_none (ex_pickF' rfl hc24 rfl rfl) rfl ?_
    exact Run.pick [9] (glitch_isSignal_1_ok F false _ _ _ hH h)

theorem mkk14 : makeK Try.prog 14 = none := by kernel_rfl
theorem cal14 : callable Try.prog 14 = true := by kernel_rfl
theorem mkk16 : makeK Try.prog 16 = none := by kernel_rfl
theorem cal16 : callable Try.prog 16 = true := by kernel_rfl
theorem mkk15 : makeK Try.prog 15 = none := by kernel_rfl
theorem cal15 : callable Try.prog 15 = true := by kernel_rfl
theorem mkk41 : makeK Try.prog 41 = none := by kernel_rfl
theorem cal41 : callable Try.prog 41 = true := by kernel_rfl
theorem cal42 : callable Try.prog 42 = true := by kernel_rfl
theorem agg22 : aggSize Try.prog 22 = some none := by kernel_rfl
theorem eqk22 : eqK Try.prog 22 = some .slice := by kernel_rfl
theorem elt22 : sliceElt Try.prog 22 = some (⟨1, 8, [(.int .i64 0)], 3⟩ : Elt) := by kernel_rfl
theorem appt22_22 : appT Try.prog 22 22 = some (⟨1, 8, [(.int .i64 0)], 3⟩ : Elt) := by kernel_rfl
abbrev slices_Clone_post (r : (List Int)) : SV → Mem → Prop := fun s Me => ∃ q1, s = q1 ∧ Has (fun _ => none) Me [.vec 3 1 r.length q1 (r.flatMap enc3)]

def slices_Clone (F : Nat) (a0 : (List Int)) : Option ((List Int)) :=
  bnd (apd 8 ([] : List Int) a0) fun l29 =>
  some l29

theorem slices_Clone_ok (F : Nat) (a0 : (List Int)) (s0 : SV) (r : (List Int)) (M : Mem) (hs0 : Slc (rd M) 1 (FlatR enc3) s0 a0) (h : slices_Clone F a0 = some r) : CallsM Try.prog 76 [s0] M (fun s M' => ∃ q1, s = q1 ∧ New M M' [.vec 3 1 r.length q1 (r.flatMap enc3)]) := by
  refine CallsM.fresh (Q := slices_Clone_post r) Try.func76 rfl rfl ?_ (by rintro s Me ⟨q1, rfl, hx⟩ ha hw; exact ⟨_, rfl, New.of rfl hx ha hw⟩)
  rw [slices_Clone] at h
  replace hs0 := hs0.mono (rdLe_frozen M) (fun _ _ h => h)
  have hH := Has.nil (frozen M)
  refine Run.seq (Run.region ?_)
  refine Run.opG wantS_none (ex_assign rfl) rfl ?_
  refine Run.opsEnd (Run.seq (Run.seq (Run.region ?_)))
  refine Run.opG wantS_none (ex_move rfl) rfl ?_
  rcases slc_or hs0 with ⟨rfl, rfl⟩ | hn21
  · have h : (
      some ([] : List Int)
      ) = some r := h
    refine Run.opG wantS_none (ex_nilT rfl rfl eqk22) rfl ?_
    refine Run.opsEnd ?_
    refine Run.condT' rfl rfl ?_
    refine Run.seq (Run.region ?_)
    refine Run.opG wantS_none (ex_assign rfl) rfl ?_
    refine Run.opsEnd ?_
    have hH23 : Has (ro (frozen M)) (frozen M) [.vec 3 1 ([] : List Int).length .nils (([] : List Int).flatMap enc3)] := hH.nils 3 1
    cases h
    exact Run.ret Try.func76 rfl (res_tmp rfl res_nil) ⟨_, rfl, (hH23.pick [0] rfl rfl).upF (none_le _)⟩
  · refine Run.opG wantS_none (ex_nilF rfl hn21 rfl eqk22) rfl ?_
    refine Run.opsEnd ?_
    refine Run.condF' rfl rfl ?_
    refine Run.skip (Run.seq (Run.region ?_))
    refine Run.opX wantS_none rfl (ExG.built (enc := enc3) (l := ([] : List Int)) (z := 1) rfl elt22 rfl rfl rfl enc3_len hH) ?_
    rintro s25 M26 (hH26 : Has (ro (frozen M)) M26 [.vec 3 1 ([] : List Int).length s25 (([] : List Int).flatMap enc3)])
    refine Run.opG wantS_none (ex_move rfl) rfl ?_
    obtain ⟨l29, hl29, h⟩ := bnd_some h
    refine Run.opX wantS_none rfl (ExG.append rfl rfl hH26 (i := 0) rfl enc3_len rfl enc3_ones appt22_22 rfl (len_slc hs0) (first_slc hs0 (rdLe_roF hH26) enc3_len) hl29) ?_
    rintro s29 M31 (hH31 : Has (ro (frozen M)) M31 [.vec 3 1 l29.length s29 (l29.flatMap enc3)])
    refine Run.opG wantS_none (ex_assign rfl) rfl ?_
    refine Run.opsEnd ?_
    cases h
    exact Run.ret Try.func76 rfl (res_tmp rfl res_nil) ⟨_, rfl, (hH31.pick [0] rfl rfl).upF (none_le _)⟩

theorem mkk76 : makeK Try.prog 76 = none := by kernel_rfl
theorem cal76 : callable Try.prog 76 = true := by kernel_rfl
theorem zer22 : zerosOf Try.prog 22 = some [.nils] := by kernel_rfl
theorem sz22 : szOf Try.prog 22 = some 1 := by kernel_rfl
theorem mkk77 : makeK Try.prog 77 = none := by kernel_rfl
theorem cal77 : callable Try.prog 77 = true := by kernel_rfl
theorem slk22 : slK Try.prog 22 = some (.sl 1) := by kernel_rfl
theorem sz3 : szOf Try.prog 3 = some 1 := by kernel_rfl
theorem plan77_1_1_0_0_1_1_0_0_1 : planOf Try.prog (opsC (atC Try.prog 77 [1, 1, 0, 0, 1, 1, 0, 0, 1])) = some [.fl 0, .fl 1, .fl 2, .fl 3, .fl 4, .fl 5, .fl 6, .fl 7, .fl 8, .fl 9, .fl 10, .fl 11, .fl 12, .fl 13, .fl 14, .fl 15, .fl 16, .fl 17, .fl 18, .fl 19, .fl 20, .fl 21, .fl 22, .fl 23, .fl 24, .fl 25, .fl 26, .fl 27, .fl 28, .fl 29, .fl 30, .an 31 [29, 5, 4, 3, 2], .fl 32, .an 33 [], .sync] := by kernel_rfl
abbrev glitch_transform_post (r : (List Int)) : SV → Mem → Prop := fun s Me => ∃ q1, s = q1 ∧ Has (fun _ => none) Me [.vec 3 1 r.length q1 (r.flatMap enc3)]

def glitch_transform_2 (F : Nat) (hd1 : Int → (List Int) → Option ((List Int))) : Nat → Int → Int → Int → Int → (List Int) → (List Int) → Option ((List Int))
  | 0, _, _, _, _, _, _ => none
  | N + 1, v0, v10, v11, v5_f1, l24, l36 =>
    bif (decide (v11 < v10)) then
      bnd (idx l36 (w64 ((2 : Int) * v11))) fun x39 =>
      bnd (idx l36 (w64 ((w64 ((2 : Int) * v11)) + (1 : Int)))) fun x40 =>
      bnd (idx l36 (w64 ((2 : Int) * v11))) fun x41 =>
      bnd (idx l36 (w64 ((w64 ((2 : Int) * v11)) + (1 : Int)))) fun x42 =>
      bnd (inn l24 v11) fun o43 =>
      bnd (upd l24 o43 (w64 (x39 + x40))) fun l44 =>
      bnd (inn l44 (w64 (v0 + v11))) fun o46 =>
      bnd (upd l44 o46 (w64 (x41 - x42))) fun l47 =>
      (glitch_transform_2 F hd1 N) v0 v10 (w64 (v11 + (1 : Int))) v5_f1 l47 l36
    else
      hd1 (w64 (Int.tdiv v5_f1 (2 : Int))) l24

theorem glitch_transform_2_ok (F : Nat) (hd1 : Int → (List Int) → Option ((List Int))) (hhd1 : ∀ (v5 : Int) (l24 : (List Int)) (b27 : Pos) (s24 : SV) (Fr : Rd) (M : Mem) (r : (List Int)) (hH : Has Fr M [.obj b27 (.row 22 .whole [s24]), .vec 3 1 l24.length s24 (l24.flatMap enc3)]), hd1 v5 l24 = some r → Run Try.prog ⟨⟨43, [], none⟩, []⟩ 20 (glitch_transform_post r) [(3, (.ptr b27 0)), (4, (.fn (.func 77) [] [(.ptr b27 0)])), (5, (.int .i64 v5))] [codeC Try.prog 43 [1, 1, 1, 0, 1, 0, 0], loopC Try.prog 43 [1, 1, 1, 0, 1, 0, 0], .inBlock 0, codeC Try.prog 43 [1, 1, 1, 1]] M) : ∀ (N : Nat), ∀ (v0 : Int) (v10 : Int) (v11 : Int) (v5_f1 : Int) (l24 : (List Int)) (l36 : (List Int)) (b27 : Pos) (s24 : SV) (s36 : SV) (Fr : Rd) (M : Mem) (r : (List Int)) (hH : Has Fr M [.obj b27 (.row 22 .whole [s24]), .vec 3 1 l24.length s24 (l24.flatMap enc3), .vec 3 1 l36.length s36 (l36.flatMap enc3)]), glitch_transform_2 F hd1 N v0 v10 v11 v5_f1 l24 l36 = some r → Run Try.prog ⟨⟨77, [], none⟩, [.mk ⟨43, [], none⟩ 20 (treeOf [(3, (.ptr b27 0)), (4, (.fn (.func 77) [] [(.ptr b27 0)])), (5, (.int .i64 v5_f1))]) [itemC Try.prog 43 [1, 1, 1, 0, 1, 0, 0, 1, 0, 0] 2, .inBlock 1, codeC Try.prog 43 [1, 1, 1, 0, 1, 0, 0, 1, 1], loopC Try.prog 43 [1, 1, 1, 0, 1, 0, 0], .inBlock 0, codeC Try.prog 43 [1, 1, 1, 1]]]⟩ 47 (glitch_transform_post r) [(0, (.int .i64 v0)), (1, (.ptr b27 0)), (3, s36), (10, (.int .i64 v10)), (11, (.int .i64 v11))] [codeC Try.prog 77 [1, 1, 0, 0], loopC Try.prog 77 [1, 1, 0, 0], .inBlock 0] M := by
  intro N
  induction N with
  | zero =>
    intro v0 v10 v11 v5_f1 l24 l36 b27 s24 s36 Fr M r hH h
    simp [glitch_transform_2] at h
  | succ N ih =>
    intro v0 v10 v11 v5_f1 l24 l36 b27 s24 s36 Fr M r hH h
    rw [glitch_transform_2] at h
    refine Run.seq (Run.region ?_)
    refine Run.opG wantS_none (ex_lss rfl rfl) rfl ?_
    refine Run.opsEnd (Run.seq ?_)
    rcases btf ((decide (v11 < v10))) with hc38 | hc38
    · have h := bif_t hc38 h
      refine Run.condT' rfl hc38 ?_
      refine Run.skip (Run.seq (Run.block (Run.seq (Run.region ?_))))
      refine Run.opG wantS_none (ex_move rfl) rfl ?_
      refine Run.opG wantS_none (ex_assign rfl) rfl ?_
      refine Run.opsEnd ?_
      refine Run.drawG plan77_1_1_0_0_1_1_0_0_1 ?_
      refine DrawG.fl rfl (ev_ex wantS_none (ex_load1 rfl (hH.cells (i := 0) rfl 0 rfl) rdLe_rfl agg22)) rfl ?_
      refine DrawG.fl rfl (ev_ex wantS_none (ex_move rfl)) rfl ?_
      refine DrawG.fl rfl (ev_ex wantS_none (ex_load1 rfl (hH.cells (i := 0) rfl 0 rfl) rdLe_rfl agg22)) rfl ?_
      refine DrawG.fl rfl (ev_ex wantS_none (ex_move rfl)) rfl ?_
      refine DrawG.fl rfl (ev_ex wantS_none (ex_move rfl)) rfl ?_
      refine DrawG.fl rfl (ev_ex wantS_none (ex_add rfl rfl)) rfl ?_
      refine DrawG.fl rfl (ev_ex wantS_none (ex_move rfl)) rfl ?_
      refine DrawG.fl rfl (ev_ex wantS_none (ex_move rfl)) rfl ?_
      refine DrawG.fl rfl (ev_ex wantS_none (ex_mul rfl rfl)) rfl ?_
      obtain ⟨x39, hx39, h⟩ := bnd_some h
      obtain ⟨p39, o39, hb39, hx39, he39⟩ := vec_elem (P := Try.prog) (t := 22) (kk := .i64) hH (i := 2) rfl hx39 els22
      refine DrawG.fl rfl (ev_ex wantS_none (ex_elX rfl rfl hx39)) rfl ?_
      refine DrawG.fl rfl (ev_ex wantS_none (ex_load1 rfl (hH.at (enc := enc3) (a := x39) (i := 2) rfl hb39 he39 enc3_len) rdLe_rfl agg3)) rfl ?_
      refine DrawG.fl rfl (ev_ex wantS_none (ex_move rfl)) rfl ?_
      refine DrawG.fl rfl (ev_ex wantS_none (ex_move rfl)) rfl ?_
      refine DrawG.fl rfl (ev_ex wantS_none (ex_mul rfl rfl)) rfl ?_
      refine DrawG.fl rfl (ev_ex wantS_none (ex_add rfl rfl)) rfl ?_
      obtain ⟨x40, hx40, h⟩ := bnd_some h
      obtain ⟨p40, o40, hb40, hx40, he40⟩ := vec_elem (P := Try.prog) (t := 22) (kk := .i64) hH (i := 2) rfl hx40 els22
      refine DrawG.fl rfl (ev_ex wantS_none (ex_elX rfl rfl hx40)) rfl ?_
      refine DrawG.fl rfl (ev_ex wantS_none (ex_load1 rfl (hH.at (enc := enc3) (a := x40) (i := 2) rfl hb40 he40 enc3_len) rdLe_rfl agg3)) rfl ?_
      refine DrawG.fl rfl (ev_ex wantS_none (ex_add rfl rfl)) rfl ?_
      refine DrawG.fl rfl (ev_ex wantS_none (ex_move rfl)) rfl ?_
      refine DrawG.fl rfl (ev_ex wantS_none (ex_move rfl)) rfl ?_
      refine DrawG.fl rfl (ev_ex wantS_none (ex_mul rfl rfl)) rfl ?_
      obtain ⟨x41, hx41, h⟩ := bnd_some h
      obtain ⟨p41, o41, hb41, hx41, he41⟩ := vec_elem (P := Try.prog) (t := 22) (kk := .i64) hH (i := 2) rfl hx41 els22
      refine DrawG.fl rfl (ev_ex wantS_none (ex_elX rfl rfl hx41)) rfl ?_
      refine DrawG.fl rfl (ev_ex wantS_none (ex_load1 rfl (hH.at (enc := enc3) (a := x41) (i := 2) rfl hb41 he41 enc3_len) rdLe_rfl agg3)) rfl ?_
      refine DrawG.fl rfl (ev_ex wantS_none (ex_move rfl)) rfl ?_
      refine DrawG.fl rfl (ev_ex wantS_none (ex_move rfl)) rfl ?_
      refine DrawG.fl rfl (ev_ex wantS_none (ex_mul rfl rfl)) rfl ?_
      refine DrawG.fl rfl (ev_ex wantS_none (ex_add rfl rfl)) rfl ?_
      obtain ⟨x42, hx42, h⟩ := bnd_some h
      obtain ⟨p42, o42, hb42, hx42, he42⟩ := vec_elem (P := Try.prog) (t := 22) (kk := .i64) hH (i := 2) rfl hx42 els22
      refine DrawG.fl rfl (ev_ex wantS_none (ex_elX rfl rfl hx42)) rfl ?_
      refine DrawG.fl rfl (ev_ex wantS_none (ex_load1 rfl (hH.at (enc := enc3) (a := x42) (i := 2) rfl hb42 he42 enc3_len) rdLe_rfl agg3)) rfl ?_
      refine DrawG.fl rfl (ev_ex wantS_none (ex_sub rfl rfl)) rfl ?_
      obtain ⟨o43, ho43, h⟩ := bnd_some h
      obtain ⟨p43, hb43, hx43⟩ := vec_place (P := Try.prog) (t := 22) (kk := .i64) hH (i := 1) rfl ho43 els22
      refine DrawG.fl rfl (ev_ex wantS_none (ex_elX rfl rfl hx43)) rfl ?_
      obtain ⟨l44, hl44, h⟩ := bnd_some h
      refine DrawG.opX rfl wantS_none rfl (ExG.storeEl rfl rfl hH (i := 1) rfl hb43 hl44 sz3 rfl enc3_len enc3_ones) ?_
      rintro _ M45 ⟨rfl, (hH45 : Has Fr M45 [.obj b27 (.row 22 .whole [s24]), .vec 3 1 l44.length s24 (l44.flatMap enc3), .vec 3 1 l36.length s36 (l36.flatMap enc3)])⟩
      refine ⟨(st_cons rfl (ev_ex wantS_none (ex_sub rfl rfl)) rfl rfl rfl (st_cons rfl (ev_ex wantS_none (ex_add rfl rfl)) rfl rfl rfl (st_cons rfl (ev_ex wantS_none (ex_move rfl)) rfl rfl rfl (st_cons rfl (ev_ex wantS_none (ex_move rfl)) rfl rfl rfl (st_cons rfl (ev_ex wantS_none (ex_load1 rfl (hH45.cells (i := 0) rfl 0 rfl) rdLe_rfl agg22)) rfl rfl (blk_self hH45 (i := 1) rfl) st_nil))))), ?_⟩
      obtain ⟨o46, ho46, h⟩ := bnd_some h
      obtain ⟨p46, hb46, hx46⟩ := vec_place (P := Try.prog) (t := 22) (kk := .i64) hH45 (i := 1) rfl ho46 els22
      refine DrawG.fl rfl (ev_ex wantS_none (ex_elX rfl rfl hx46)) rfl ?_
      obtain ⟨l47, hl47, h⟩ := bnd_some h
      refine DrawG.opX rfl wantS_none rfl (ExG.storeEl rfl rfl hH45 (i := 1) rfl hb46 hl47 sz3 rfl enc3_len enc3_ones) ?_
      rintro _ M48 ⟨rfl, (hH48 : Has Fr M48 [.obj b27 (.row 22 .whole [s24]), .vec 3 1 l47.length s24 (l47.flatMap enc3), .vec 3 1 l36.length s36 (l36.flatMap enc3)])⟩
      refine ⟨st_nil, ?_⟩
      refine DrawG.sync ?_
      refine DrawG.nil ?_
      refine Run.inBlock (Run.region ?_)
      refine Run.opG wantS_none (ex_add rfl rfl) rfl ?_
      refine Run.opG wantS_none (ex_move rfl) rfl ?_
      refine Run.opsEnd (Run.inLoop ?_)
      exact Run.low (.cons (fle_pick [3, 4, 5] rfl) .nil) (Run.pick [0, 1, 3, 10, 11] (ih v0 v10 (w64 (v11 + (1 : Int))) v5_f1 l47 l36 b27 s24 s36 _ _ _ hH48 h))
    · have h := bif_f hc38 h
      refine Run.condF' rfl hc38 ?_
      refine Run.exit rfl ?_
      refine Run.fallTo Try.func77 rfl res_nil rfl ?_
      refine Run.opsEnd (Run.inBlock (Run.region ?_))
      refine Run.opG wantS_none (ex_move rfl) rfl ?_
      refine Run.opG wantS_none (ex_quo rfl rfl (by decide)) rfl ?_
      refine Run.opG wantS_none (ex_assign rfl) rfl ?_
      refine Run.opsEnd (Run.inLoop ?_)
      exact Run.pick [3, 4, 5] (hhd1 (w64 (Int.tdiv v5_f1 (2 : Int))) l24 b27 s24 _ _ _ (hH.pick [0, 1] rfl rfl) h)

def glitch_transform_1 (F : Nat) : Nat → Int → (List Int) → Option ((List Int))
  | 0, _, _ => none
  | N + 1, v5, l24 =>
    bif (decide ((0 : Int) < v5)) then
      bnd (sub l24 0 (w64 ((2 : Int) * v5))) fun l32 =>
      bnd (slices_Clone F l32) fun r35 =>
      glitch_transform_2 F (glitch_transform_1 F N) F v5 v5 (0 : Int) v5 l24 r35
    else
      some l24

theorem glitch_transform_1_ok (F : Nat) : ∀ (N : Nat), ∀ (v5 : Int) (l24 : (List Int)) (b27 : Pos) (s24 : SV) (Fr : Rd) (M : Mem) (r : (List Int)) (hH : Has Fr M [.obj b27 (.row 22 .whole [s24]), .vec 3 1 l24.length s24 (l24.flatMap enc3)]), glitch_transform_1 F N v5 l24 = some r → Run Try.prog ⟨⟨43, [], none⟩, []⟩ 20 (glitch_transform_post r) [(3, (.ptr b27 0)), (4, (.fn (.func 77) [] [(.ptr b27 0)])), (5, (.int .i64 v5))] [codeC Try.prog 43 [1, 1, 1, 0, 1, 0, 0], loopC Try.prog 43 [1, 1, 1, 0, 1, 0, 0], .inBlock 0, codeC Try.prog 43 [1, 1, 1, 1]] M := by
  intro N
  induction N with
  | zero =>
    intro v5 l24 b27 s24 Fr M r hH h
    simp [glitch_transform_1] at h
  | succ N ih =>
    intro v5 l24 b27 s24 Fr M r hH h
    rw [glitch_transform_1] at h
    refine Run.seq (Run.seq (Run.region ?_))
    refine Run.opG wantS_none (ex_move rfl) rfl ?_
    refine Run.opG wantS_none (ex_gtr rfl rfl) rfl ?_
    refine Run.opsEnd ?_
    rcases btf ((decide ((0 : Int) < v5))) with hc30 | hc30
    · have h := bif_t hc30 h
      refine Run.condT' rfl hc30 ?_
      refine Run.skip (Run.seq (Run.block (Run.region ?_)))
      refine Run.opG wantS_none (ex_move rfl) rfl ?_
      refine Run.opG wantS_none (ex_move rfl) rfl ?_
      refine Run.enter wantS_none (ex_closure rfl rfl mkk77 cal77) Try.func77 rfl rfl ?_
      refine Run.seq (Run.region ?_)
      refine Run.opG wantS_none (ex_load1 rfl (hH.cells (i := 0) rfl 0 rfl) rdLe_rfl agg22) rfl ?_
      refine Run.opG wantS_none (ex_move rfl) rfl ?_
      refine Run.opG wantS_none (ex_mul rfl rfl) rfl ?_
      obtain ⟨l32, hl32, h⟩ := bnd_some h
      obtain ⟨s32, hx32, hs32⟩ := sl_subH (P := Try.prog) (t := 22) (k0 := .i64) (hH.slc (i := 1) rfl enc3_len) hl32 slk22
      refine Run.opG wantS_none (ex_slX rfl (argO_none) (argO_some rfl) hx32) rfl ?_
      obtain ⟨r35, hr35, h⟩ := bnd_some h
      refine Run.callX wantS_none (ex_call rfl mkk76 cal76) rfl (slices_Clone_ok F l32 s32 _ _ hs32 hr35) ?_
      rintro s35_0 M37 ⟨_, rfl, hN35⟩
      have hH37 : Has Fr M37 [.vec 3 1 r35.length s35_0 (r35.flatMap enc3), .obj b27 (.row 22 .whole [s24]), .vec 3 1 l24.length s24 (l24.flatMap enc3)] := hN35.1 _ _ hH
      refine Run.opG wantS_none (ex_assign rfl) rfl ?_
      refine Run.opsEnd (Run.seq (Run.region ?_))
      refine Run.opG wantS_none (ex_move rfl) rfl ?_
      refine Run.opG wantS_none (ex_move rfl) rfl ?_
      refine Run.opsEnd (Run.block (Run.loop ?_))
      exact Run.low (.cons (fle_pick [3, 4, 5] rfl) .nil) (Run.pick [0, 1, 3, 10, 11] (glitch_transform_2_ok F (glitch_transform_1 F N) ih F v5 v5 (0 : Int) v5 l24 r35 b27 s24 s35_0 _ _ _ (hH37.pick [1, 2, 0] rfl rfl) h))
    · have h := bif_f hc30 h
      refine Run.condF' rfl hc30 ?_
      refine Run.exit rfl (Run.seq (Run.region ?_))
      refine Run.opG wantS_none (ex_load1 rfl (hH.cells (i := 0) rfl 0 rfl) rdLe_rfl agg22) rfl ?_
      refine Run.opG wantS_none (ex_assign rfl) rfl ?_
      refine Run.opsEnd ?_
      cases h
      exact Run.ret Try.func43 rfl (res_tmp rfl res_nil) ⟨_, rfl, (hH.pick [1] rfl rfl).upF (none_le _)⟩

def glitch_transform (F : Nat) (a0 : (List Int)) : Option ((List Int)) :=
  bnd (slices_Clone F a0) fun r23 =>
  glitch_transform_1 F F (w64 (Int.tdiv (a0.length : Int) (2 : Int))) r23

theorem glitch_transform_ok (F : Nat) (a0 : (List Int)) (s0 : SV) (r : (List Int)) (M : Mem) (hs0 : Slc (rd M) 1 (FlatR enc3) s0 a0) (h : glitch_transform F a0 = some r) : CallsM Try.prog 43 [s0] M (fun s M' => ∃ q1, s = q1 ∧ New M M' [.vec 3 1 r.length q1 (r.flatMap enc3)]) := by
  refine CallsM.fresh (Q := glitch_transform_post r) Try.func43 rfl rfl ?_ (by rintro s Me ⟨q1, rfl, hx⟩ ha hw; exact ⟨_, rfl, New.of rfl hx ha hw⟩)
  rw [glitch_transform] at h
  replace hs0 := hs0.mono (rdLe_frozen M) (fun _ _ h => h)
  have hH := Has.nil (frozen M)
  refine Run.seq (Run.region ?_)
  refine Run.opG wantS_none (ex_assign rfl) rfl ?_
  refine Run.opsEnd (Run.seq (Run.region ?_))
  refine Run.opG wantS_none (ex_move rfl) rfl ?_
  obtain ⟨r23, hr23, h⟩ := bnd_some h
  refine Run.callX wantS_none (ex_call rfl mkk76 cal76) rfl (slices_Clone_ok F a0 s0 _ _ (hH.slcF hs0) hr23) ?_
  rintro s23_0 M25 ⟨_, rfl, hN23⟩
  have hH25 : Has (ro (frozen M)) M25 [.vec 3 1 r23.length s23_0 (r23.flatMap enc3)] := hN23.1 _ _ hH
  refine Run.opX wantS_none rfl (ExG.new (v := fun b => .ptr b 0) (ex_alloc zer22) hH25) ?_
  rintro _ M28 ⟨b27, rfl, (hH28 : Has (ro (frozen M)) M28 [.obj b27 (.row 22 .whole [.nils]), .vec 3 1 r23.length s23_0 (r23.flatMap enc3)])⟩
  refine Run.opX wantS_none rfl (ExG.storeC (c' := [s23_0]) rfl rfl (cells_one (vec_one hH28 (i := 1) rfl)) hH28 (i := 0) rfl sz22 rfl rfl rfl (ones_cons (vec_one hH28 (i := 1) rfl) ones_nil) rfl) ?_
  rintro _ M29 ⟨rfl, (hH29 : Has (ro (frozen M)) M29 [.obj b27 (.row 22 .whole [s23_0]), .vec 3 1 r23.length s23_0 (r23.flatMap enc3)])⟩
  refine Run.opsEnd (Run.seq (Run.region ?_))
  refine Run.opG wantS_none (ex_makeFunc rfl rfl) rfl ?_
  refine Run.opG wantS_none (ex_assign rfl) rfl ?_
  refine Run.opsEnd (Run.seq (Run.seq (Run.region ?_)))
  refine Run.opG wantS_none (ex_move rfl) rfl ?_
  refine Run.opG wantS_none (ex_len' rfl hs0 lenk22) rfl ?_
  refine Run.opG wantS_none (ex_quo rfl rfl (by decide)) rfl ?_
  refine Run.opG wantS_none (ex_assign rfl) rfl ?_
  refine Run.opsEnd (Run.block (Run.loop ?_))
  exact Run.pick [3, 4, 5] (glitch_transform_1_ok F F (w64 (Int.tdiv (a0.length : Int) (2 : Int))) r23 b27 s23_0 _ _ _ hH29 h)

theorem mkk43 : makeK Try.prog 43 = none := by kernel_rfl
theorem cal43 : callable Try.prog 43 = true := by kernel_rfl
theorem zer29 : zerosOf Try.prog 29 = some [(.int .i64 0), (.int .i64 0), (.int .i64 0)] := by kernel_rfl
theorem pls29 : placesOf Try.prog 29 = some (.st [(0, 1), (1, 1), (2, 1)]) := by kernel_rfl
theorem sz29 : szOf Try.prog 29 = some 3 := by kernel_rfl
theorem agg23 : aggSize Try.prog 23 = some none := by kernel_rfl
theorem agg29 : aggSize Try.prog 29 = some (some 3) := by kernel_rfl
theorem elt23 : sliceElt Try.prog 23 = some (⟨3, 24, [(.int .i64 0), (.int .i64 0), (.int .i64 0)], 29⟩ : Elt) := by kernel_rfl
theorem appt23_23 : appT Try.prog 23 23 = some (⟨3, 24, [(.int .i64 0), (.int .i64 0), (.int .i64 0)], 29⟩ : Elt) := by kernel_rfl
theorem sz23 : szOf Try.prog 23 = some 1 := by kernel_rfl
abbrev glitch_Tiles_post (r : (List S_api_Tile) × Int) : SV → Mem → Prop := fun s Me => ∃ q1, s = (.tuple [q1, (.int .i64 r.2)]) ∧ Has (fun _ => none) Me [.vec 29 3 r.1.length q1 (r.1.flatMap enc29)]

def glitch_Tiles_2 (F : Nat) (hd1 : (List Int) → Int → Int → (List Int) → (List S_api_Tile) → Option ((List S_api_Tile) × Int)) : Nat → (List Int) → Int → Int → (List Int) → Int → Int → (List Int) → (List S_api_Tile) → Option ((List S_api_Tile) × Int)
  | 0, _, _, _, _, _, _, _, _ => none
  | N + 1, v3, v4, v5, v23, v24, v25, c28_0, l40 =>
    bif (decide (v25 < v24)) then
      bnd (idx v23 v25) fun x49 =>
      bnd (apd 24 l40 ([(S_api_Tile.mk v4 v25 x49)] : List S_api_Tile)) fun l60 =>
      (glitch_Tiles_2 F hd1 N) v3 v4 v5 v23 v24 (w64 (v25 + (1 : Int))) c28_0 l60
    else
      hd1 v3 v4 (w64 (Int.tdiv v5 (2 : Int))) c28_0 l40

theorem glitch_Tiles_2_ok (F : Nat) (hd1 : (List Int) → Int → Int → (List Int) → (List S_api_Tile) → Option ((List S_api_Tile) × Int)) (hhd1 : ∀ (v3 : (List Int)) (v4 : Int) (v5 : Int) (c28_0 : (List Int)) (l40 : (List S_api_Tile)) (sv3 : SV) (sc28_0 : SV) (b33 : Pos) (b31 : Pos) (s40 : SV) (b28 : Pos) (b34 : Pos) (Fr : Rd) (M : Mem) (r : (List S_api_Tile) × Int) (hv3 : Slc Fr 1 (FlatR enc3) sv3 v3) (hc28_0 : Slc Fr 1 (FlatR enc3) sc28_0 c28_0) (hH : Has Fr M [.obj b33 (.loop ⟨.ready, none, 41, 13, treeOf [(2, (.ptr b31 0)), (4, .nils), (6, (.fn (.func 42) [] [(.ptr b28 0)]))], [7], (atC Try.prog 41 [1, 0, 1, 0, 0]), (atC Try.prog 41 [1, 0, 1, 0, 1]), b34⟩), .obj b31 (.row 23 .whole [s40]), .vec 29 3 l40.length s40 (l40.flatMap enc29), .obj b28 (.row 22 .whole [sc28_0]), .obj b34 .defd]), hd1 v3 v4 v5 c28_0 l40 = some r → Run Try.prog ⟨⟨42, [], none⟩, [.mk ⟨41, [b34], none⟩ 13 (treeOf [(2, (.ptr b31 0))]) [.inRange b33, .inBlock 0, codeC Try.prog 41 [1, 1]], .mk ⟨15, [], none⟩ 5 (treeOf []) [itemC Try.prog 15 [1, 0] 1, codeC Try.prog 15 [1, 1]], .mk ⟨5, [], none⟩ 10 (treeOf []) [itemC Try.prog 5 [1, 1, 0] 2, codeC Try.prog 5 [1, 1, 1]]]⟩ 38 (glitch_Tiles_post r) [(0, (.yield b33)), (3, sv3), (4, (.int .i64 v4)), (5, (.int .i64 v5))] [codeC Try.prog 42 [1, 1, 1, 0, 0], loopC Try.prog 42 [1, 1, 1, 0, 0], .inBlock 0] M) : ∀ (N : Nat), ∀ (v3 : (List Int)) (v4 : Int) (v5 : Int) (v23 : (List Int)) (v24 : Int) (v25 : Int) (c28_0 : (List Int)) (l40 : (List S_api_Tile)) (sv3 : SV) (sv23 : SV) (sc28_0 : SV) (b33 : Pos) (b31 : Pos) (s40 : SV) (b28 : Pos) (b34 : Pos) (Fr : Rd) (M : Mem) (r : (List S_api_Tile) × Int) (hv3 : Slc Fr 1 (FlatR enc3) sv3 v3) (hv23 : Slc Fr 1 (FlatR enc3) sv23 v23) (hc28_0 : Slc Fr 1 (FlatR enc3) sc28_0 c28_0) (hH : Has Fr M [.obj b33 (.loop ⟨.ready, none, 41, 13, treeOf [(2, (.ptr b31 0)), (4, .nils), (6, (.fn (.func 42) [] [(.ptr b28 0)]))], [7], (atC Try.prog 41 [1, 0, 1, 0, 0]), (atC Try.prog 41 [1, 0, 1, 0, 1]), b34⟩), .obj b31 (.row 23 .whole [s40]), .vec 29 3 l40.length s40 (l40.flatMap enc29), .obj b28 (.row 22 .whole [sc28_0]), .obj b34 .defd]), glitch_Tiles_2 F hd1 N v3 v4 v5 v23 v24 v25 c28_0 l40 = some r → Run Try.prog ⟨⟨42, [], none⟩, [.mk ⟨41, [b34], none⟩ 13 (treeOf [(2, (.ptr b31 0))]) [.inRange b33, .inBlock 0, codeC Try.prog 41 [1, 1]], .mk ⟨15, [], none⟩ 5 (treeOf []) [itemC Try.prog 15 [1, 0] 1, codeC Try.prog 15 [1, 1]], .mk ⟨5, [], none⟩ 10 (treeOf []) [itemC Try.prog 5 [1, 1, 0] 2, codeC Try.prog 5 [1, 1, 1]]]⟩ 38 (glitch_Tiles_post r) [(0, (.yield b33)), (3, sv3), (4, (.int .i64 v4)), (5, (.int .i64 v5)), (23, sv23), (24, (.int .i64 v24)), (25, (.int .i64 v25))] [codeC Try.prog 42 [1, 1, 1, 0, 0, 1, 0, 0, 1, 1, 0, 0], loopC Try.prog 42 [1, 1, 1, 0, 0, 1, 0, 0, 1, 1, 0, 0], .inBlock 2, .inBlock 1, codeC Try.prog 42 [1, 1, 1, 0, 0, 1, 1], loopC Try.prog 42 [1, 1, 1, 0, 0], .inBlock 0] M := by
  intro N
  induction N with
  | zero =>
    intro v3 v4 v5 v23 v24 v25 c28_0 l40 sv3 sv23 sc28_0 b33 b31 s40 b28 b34 Fr M r hv3 hv23 hc28_0 hH h
    simp [glitch_Tiles_2] at h
  | succ N ih =>
    intro v3 v4 v5 v23 v24 v25 c28_0 l40 sv3 sv23 sc28_0 b33 b31 s40 b28 b34 Fr M r hv3 hv23 hc28_0 hH h
    rw [glitch_Tiles_2] at h
    refine Run.seq (Run.region ?_)
    refine Run.opG wantS_none (ex_lss rfl rfl) rfl ?_
    refine Run.opsEnd (Run.seq ?_)
    rcases btf ((decide (v25 < v24))) with hc47 | hc47
    · have h := bif_t hc47 h
      refine Run.condT' rfl hc47 ?_
      refine Run.skip (Run.seq (Run.block (Run.seq (Run.region ?_))))
      refine Run.opG wantS_none (ex_move rfl) rfl ?_
      obtain ⟨x49, hx49, h⟩ := bnd_some h
      obtain ⟨p49, o49, _, hx49, hp49, rfl⟩ := sl_elem (P := Try.prog) (t := 22) (kk := .i64) hv23 hx49 els22
      refine Run.opG wantS_none (ex_elX rfl rfl hx49) rfl ?_
      refine Run.opG wantS_none (ex_load1 rfl (hH.ptrF hp49) rdLe_rfl agg3) rfl ?_
      refine Run.opG wantS_none (ex_assign rfl) rfl ?_
      refine Run.opG wantS_none (ex_assign rfl) rfl ?_
      refine Run.opsEnd (Run.seq (Run.region ?_))
      refine Run.opG wantS_none (ex_move rfl) rfl ?_
      refine Run.opG wantS_none (ex_move rfl) rfl ?_
      refine Run.opG wantS_none (ex_move rfl) rfl ?_
      refine Run.opG wantS_none (ex_move rfl) rfl ?_
      refine Run.opG wantS_none (ex_build (r := [(.int .i64 v4), (.int .i64 v25), (.int .i64 x49)]) rfl zer29 pls29 rfl) rfl ?_
      refine Run.round (e' := [(7, (.agg [(.int .i64 v4), (.int .i64 v25), (.int .i64 x49)])), (2, (.ptr b31 0)), (4, .nils), (6, (.fn (.func 42) [] [(.ptr b28 0)]))]) wantS_none (ex_yield hH (i := 0) rfl rfl rfl rfl) (hH.loopOf (i := 0) rfl) rfl ?_
      refine Run.region ?_
      refine Run.opX wantS_none rfl (ExG.new (v := fun b => .ptr b 0) (ex_alloc zer29) hH) ?_
      rintro _ M52 ⟨b51, rfl, (hH52 : Has Fr M52 [.obj b51 (.row 29 .whole [(.int .i64 0), (.int .i64 0), (.int .i64 0)]), .obj b33 (.loop ⟨.ready, none, 41, 13, treeOf [(2, (.ptr b31 0)), (4, .nils), (6, (.fn (.func 42) [] [(.ptr b28 0)]))], [7], (atC Try.prog 41 [1, 0, 1, 0, 0]), (atC Try.prog 41 [1, 0, 1, 0, 1]), b34⟩), .obj b31 (.row 23 .whole [s40]), .vec 29 3 l40.length s40 (l40.flatMap enc29), .obj b28 (.row 22 .whole [sc28_0]), .obj b34 .defd])⟩
      refine Run.opX wantS_none rfl (ExG.storeC (c' := [(.int .i64 v4), (.int .i64 v25), (.int .i64 x49)]) rfl rfl rfl hH52 (i := 0) rfl sz29 rfl rfl rfl rfl rfl) ?_
      rintro _ M53 ⟨rfl, (hH53 : Has Fr M53 [.obj b51 (.row 29 .whole [(.int .i64 v4), (.int .i64 v25), (.int .i64 x49)]), .obj b33 (.loop ⟨.ready, none, 41, 13, treeOf [(2, (.ptr b31 0)), (4, .nils), (6, (.fn (.func 42) [] [(.ptr b28 0)]))], [7], (atC Try.prog 41 [1, 0, 1, 0, 0]), (atC Try.prog 41 [1, 0, 1, 0, 1]), b34⟩), .obj b31 (.row 23 .whole [s40]), .vec 29 3 l40.length s40 (l40.flatMap enc29), .obj b28 (.row 22 .whole [sc28_0]), .obj b34 .defd])⟩
      refine Run.opsEnd ?_
      refine Run.beginX hH53 (i := 1) rfl rfl ?_
      intro M54 (hH54 : Has Fr M54 [.obj b51 (.row 29 .whole [(.int .i64 v4), (.int .i64 v25), (.int .i64 x49)]), .obj b33 (.loop ⟨.busy, none, 41, 13, treeOf [(2, (.ptr b31 0)), (4, .nils), (6, (.fn (.func 42) [] [(.ptr b28 0)]))], [7], (atC Try.prog 41 [1, 0, 1, 0, 0]), (atC Try.prog 41 [1, 0, 1, 0, 1]), b34⟩), .obj b31 (.row 23 .whole [s40]), .vec 29 3 l40.length s40 (l40.flatMap enc29), .obj b28 (.row 22 .whole [sc28_0]), .obj b34 .defd])
      refine Run.block (Run.region ?_)
      refine Run.opG wantS_none (ex_load1 rfl (hH54.cells (i := 2) rfl 0 rfl) rdLe_rfl agg23) rfl ?_
      refine Run.opG wantS_none (ex_loadA rfl (hH54.cells (i := 0) rfl 0 rfl) rdLe_rfl agg29 rfl rfl rfl) rfl ?_
      refine Run.opX wantS_none rfl (ExG.built (enc := enc29) (l := ([(S_api_Tile.mk v4 v25 x49)] : List S_api_Tile)) (z := 3) rfl elt23 rfl rfl rfl enc29_len hH54) ?_
      rintro s56 M57 (hH57 : Has Fr M57 [.vec 29 3 ([(S_api_Tile.mk v4 v25 x49)] : List S_api_Tile).length s56 (([(S_api_Tile.mk v4 v25 x49)] : List S_api_Tile).flatMap enc29), .obj b51 (.row 29 .whole [(.int .i64 v4), (.int .i64 v25), (.int .i64 x49)]), .obj b33 (.loop ⟨.busy, none, 41, 13, treeOf [(2, (.ptr b31 0)), (4, .nils), (6, (.fn (.func 42) [] [(.ptr b28 0)]))], [7], (atC Try.prog 41 [1, 0, 1, 0, 0]), (atC Try.prog 41 [1, 0, 1, 0, 1]), b34⟩), .obj b31 (.row 23 .whole [s40]), .vec 29 3 l40.length s40 (l40.flatMap enc29), .obj b28 (.row 22 .whole [sc28_0]), .obj b34 .defd])
      obtain ⟨l60, hl60, h⟩ := bnd_some h
      refine Run.opX wantS_none rfl (ExG.append rfl rfl hH57 (i := 4) rfl enc29_len rfl enc29_ones appt23_23 rfl (len_slc (hH57.slc (i := 0) rfl enc29_len)) (first_slc (hH57.slc (i := 0) rfl enc29_len) (rdLe_rdRow _) enc29_len) hl60) ?_
      rintro s60 M62 (hH62 : Has Fr M62 [.vec 29 3 ([(S_api_Tile.mk v4 v25 x49)] : List S_api_Tile).length s56 (([(S_api_Tile.mk v4 v25 x49)] : List S_api_Tile).flatMap enc29), .obj b51 (.row 29 .whole [(.int .i64 v4), (.int .i64 v25), (.int .i64 x49)]), .obj b33 (.loop ⟨.busy, none, 41, 13, treeOf [(2, (.ptr b31 0)), (4, .nils), (6, (.fn (.func 42) [] [(.ptr b28 0)]))], [7], (atC Try.prog 41 [1, 0, 1, 0, 0]), (atC Try.prog 41 [1, 0, 1, 0, 1]), b34⟩), .obj b31 (.row 23 .whole [s40]), .vec 29 3 l60.length s60 (l60.flatMap enc29), .obj b28 (.row 22 .whole [sc28_0]), .obj b34 .defd])
      refine Run.opX wantS_none rfl (ExG.storeC (c' := [s60]) rfl rfl (cells_one (vec_one hH62 (i := 4) rfl)) hH62 (i := 3) rfl sz23 rfl rfl rfl (ones_cons (vec_one hH62 (i := 4) rfl) ones_nil) rfl) ?_
      rintro _ M63 ⟨rfl, (hH63 : Has Fr M63 [.vec 29 3 ([(S_api_Tile.mk v4 v25 x49)] : List S_api_Tile).length s56 (([(S_api_Tile.mk v4 v25 x49)] : List S_api_Tile).flatMap enc29), .obj b51 (.row 29 .whole [(.int .i64 v4), (.int .i64 v25), (.int .i64 x49)]), .obj b33 (.loop ⟨.busy, none, 41, 13, treeOf [(2, (.ptr b31 0)), (4, .nils), (6, (.fn (.func 42) [] [(.ptr b28 0)]))], [7], (atC Try.prog 41 [1, 0, 1, 0, 0]), (atC Try.prog 41 [1, 0, 1, 0, 1]), b34⟩), .obj b31 (.row 23 .whole [s60]), .vec 29 3 l60.length s60 (l60.flatMap enc29), .obj b28 (.row 22 .whole [sc28_0]), .obj b34 .defd])⟩
      refine Run.opsEnd (Run.inBlock ?_)
      refine Run.roundEndX hH63 (i := 2) rfl rfl ?_
      intro M64 (hH64 : Has Fr M64 [.vec 29 3 ([(S_api_Tile.mk v4 v25 x49)] : List S_api_Tile).length s56 (([(S_api_Tile.mk v4 v25 x49)] : List S_api_Tile).flatMap enc29), .obj b51 (.row 29 .whole [(.int .i64 v4), (.int .i64 v25), (.int .i64 x49)]), .obj b33 (.loop ⟨.ready, none, 41, 13, treeOf [(2, (.ptr b31 0)), (4, .nils), (6, (.fn (.func 42) [] [(.ptr b28 0)]))], [7], (atC Try.prog 41 [1, 0, 1, 0, 0]), (atC Try.prog 41 [1, 0, 1, 0, 1]), b34⟩), .obj b31 (.row 23 .whole [s60]), .vec 29 3 l60.length s60 (l60.flatMap enc29), .obj b28 (.row 22 .whole [sc28_0]), .obj b34 .defd])
      refine Run.opG wantS_none (ex_not rfl) rfl ?_
      refine Run.opsEnd ?_
      refine Run.condF' rfl (bnot_f rfl) ?_
      refine Run.skip (Run.inBlock (Run.region ?_))
      refine Run.opG wantS_none (ex_add rfl rfl) rfl ?_
      refine Run.opG wantS_none (ex_move rfl) rfl ?_
      refine Run.opsEnd (Run.inLoop ?_)
      exact Run.low (.cons (fle_pick [2] rfl) (.cons (fle_pick [] rfl) (.cons (fle_pick [] rfl) .nil))) (Run.pick [0, 3, 4, 5, 23, 24, 25] (ih v3 v4 v5 v23 v24 (w64 (v25 + (1 : Int))) c28_0 l60 sv3 sv23 sc28_0 b33 b31 s60 b28 b34 _ _ _ hv3 hv23 hc28_0 (hH64.pick [2, 3, 4, 5, 6] rfl rfl) h))
    · have h := bif_f hc47 h
      refine Run.condF' rfl hc47 ?_
      refine Run.exit rfl (Run.inBlock (Run.region ?_))
      refine Run.opG wantS_none (ex_move rfl) rfl ?_
      refine Run.opG wantS_none (ex_quo rfl rfl (by decide)) rfl ?_
      refine Run.opG wantS_none (ex_assign rfl) rfl ?_
      refine Run.opsEnd (Run.inLoop ?_)
      exact Run.low (.cons (fle_pick [2] rfl) (.cons (fle_pick [] rfl) (.cons (fle_pick [] rfl) .nil))) (Run.pick [0, 3, 4, 5] (hhd1 v3 v4 (w64 (Int.tdiv v5 (2 : Int))) c28_0 l40 sv3 sc28_0 b33 b31 s40 b28 b34 _ _ _ hv3 hc28_0 hH h))

def glitch_Tiles_1 (F : Nat) : Nat → (List Int) → Int → Int → (List Int) → (List S_api_Tile) → Option ((List S_api_Tile) × Int)
  | 0, _, _, _, _, _ => none
  | N + 1, v3, v4, v5, c28_0, l40 =>
    bif (decide ((0 : Int) < v5)) then
      bnd (sub v3 v5 (w64 ((2 : Int) * v5))) fun l46 =>
      glitch_Tiles_2 F (glitch_Tiles_1 F N) F v3 (w64 (v4 + (1 : Int))) v5 l46 (l46.length : Int) (0 : Int) c28_0 l40
    else
      some (l40, (0 : Int))

theorem glitch_Tiles_1_ok (F : Nat) : ∀ (N : Nat), ∀ (v3 : (List Int)) (v4 : Int) (v5 : Int) (c28_0 : (List Int)) (l40 : (List S_api_Tile)) (sv3 : SV) (sc28_0 : SV) (b33 : Pos) (b31 : Pos) (s40 : SV) (b28 : Pos) (b34 : Pos) (Fr : Rd) (M : Mem) (r : (List S_api_Tile) × Int) (hv3 : Slc Fr 1 (FlatR enc3) sv3 v3) (hc28_0 : Slc Fr 1 (FlatR enc3) sc28_0 c28_0) (hH : Has Fr M [.obj b33 (.loop ⟨.ready, none, 41, 13, treeOf [(2, (.ptr b31 0)), (4, .nils), (6, (.fn (.func 42) [] [(.ptr b28 0)]))], [7], (atC Try.prog 41 [1, 0, 1, 0, 0]), (atC Try.prog 41 [1, 0, 1, 0, 1]), b34⟩), .obj b31 (.row 23 .whole [s40]), .vec 29 3 l40.length s40 (l40.flatMap enc29), .obj b28 (.row 22 .whole [sc28_0]), .obj b34 .defd]), glitch_Tiles_1 F N v3 v4 v5 c28_0 l40 = some r → Run Try.prog ⟨⟨42, [], none⟩, [.mk ⟨41, [b34], none⟩ 13 (treeOf [(2, (.ptr b31 0))]) [.inRange b33, .inBlock 0, codeC Try.prog 41 [1, 1]], .mk ⟨15, [], none⟩ 5 (treeOf []) [itemC Try.prog 15 [1, 0] 1, codeC Try.prog 15 [1, 1]], .mk ⟨5, [], none⟩ 10 (treeOf []) [itemC Try.prog 5 [1, 1, 0] 2, codeC Try.prog 5 [1, 1, 1]]]⟩ 38 (glitch_Tiles_post r) [(0, (.yield b33)), (3, sv3), (4, (.int .i64 v4)), (5, (.int .i64 v5))] [codeC Try.prog 42 [1, 1, 1, 0, 0], loopC Try.prog 42 [1, 1, 1, 0, 0], .inBlock 0] M := by
  intro N
  induction N with
  | zero =>
    intro v3 v4 v5 c28_0 l40 sv3 sc28_0 b33 b31 s40 b28 b34 Fr M r hv3 hc28_0 hH h
    simp [glitch_Tiles_1] at h
  | succ N ih =>
    intro v3 v4 v5 c28_0 l40 sv3 sc28_0 b33 b31 s40 b28 b34 Fr M r hv3 hc28_0 hH h
    rw [glitch_Tiles_1] at h
    refine Run.seq (Run.seq (Run.region ?_))
    refine Run.opG wantS_none (ex_move rfl) rfl ?_
    refine Run.opG wantS_none (ex_gtr rfl rfl) rfl ?_
    refine Run.opsEnd ?_
    rcases btf ((decide ((0 : Int) < v5))) with hc44 | hc44
    · have h := bif_t hc44 h
      refine Run.condT' rfl hc44 ?_
      refine Run.skip (Run.seq (Run.block (Run.seq (Run.region ?_))))
      refine Run.opG wantS_none (ex_move rfl) rfl ?_
      refine Run.opG wantS_none (ex_add rfl rfl) rfl ?_
      refine Run.opG wantS_none (ex_assign rfl) rfl ?_
      refine Run.opsEnd (Run.seq (Run.region ?_))
      refine Run.opG wantS_none (ex_move rfl) rfl ?_
      refine Run.opG wantS_none (ex_move rfl) rfl ?_
      refine Run.opG wantS_none (ex_move rfl) rfl ?_
      refine Run.opG wantS_none (ex_mul rfl rfl) rfl ?_
      obtain ⟨l46, hl46, h⟩ := bnd_some h
      obtain ⟨s46, hx46, hs46⟩ := sl_subB (P := Try.prog) (t := 22) (k0 := .i64) (k1 := .i64) hv3 hl46 slk22
      refine Run.opG wantS_none (ex_slX rfl (argO_some rfl) (argO_some rfl) hx46) rfl ?_
      refine Run.opG wantS_none (ex_len' rfl hs46 lenk22) rfl ?_
      refine Run.opG wantS_none (ex_move rfl) rfl ?_
      refine Run.opsEnd (Run.block (Run.loop ?_))
      exact Run.low (.cons (fle_pick [2] rfl) (.cons (fle_pick [] rfl) (.cons (fle_pick [] rfl) .nil))) (Run.pick [0, 3, 4, 5, 23, 24, 25] (glitch_Tiles_2_ok F (glitch_Tiles_1 F N) ih F v3 (w64 (v4 + (1 : Int))) v5 l46 (l46.length : Int) (0 : Int) c28_0 l40 sv3 s46 sc28_0 b33 b31 s40 b28 b34 _ _ _ hv3 hs46 hc28_0 hH h))
    · have h := bif_f hc44 h
      refine Run.condF' rfl hc44 ?_
      refine Run.exit rfl ?_
      refine Run.fallRange Try.func42 rfl res_nil ?_
      refine Run.endX hH (i := 0) rfl (fun hc => by cases hc) ?_
      intro M65 (hH65 : Has Fr M65 [.obj b33 (.loop ⟨.exhausted, none, 41, 13, treeOf [(2, (.ptr b31 0)), (4, .nils), (6, (.fn (.func 42) [] [(.ptr b28 0)]))], [7], (atC Try.prog 41 [1, 0, 1, 0, 0]), (atC Try.prog 41 [1, 0, 1, 0, 1]), b34⟩), .obj b31 (.row 23 .whole [s40]), .vec 29 3 l40.length s40 (l40.flatMap enc29), .obj b28 (.row 22 .whole [sc28_0]), .obj b34 .defd])
      refine Run.inBlock (Run.seq (Run.region ?_))
      refine Run.opG wantS_none (ex_load1 rfl (hH65.cells (i := 1) rfl 0 rfl) rdLe_rfl agg23) rfl ?_
      refine Run.opG wantS_none (ex_assign rfl) rfl ?_
      refine Run.opsEnd ?_
      obtain ⟨hH66x, hS66⟩ := hH65.shut (i := 4) (ds := []) rfl
      have hH66 : Has Fr (setT M65 b34 none) [.obj b33 (.loop ⟨.exhausted, none, 41, 13, treeOf [(2, (.ptr b31 0)), (4, .nils), (6, (.fn (.func 42) [] [(.ptr b28 0)]))], [7], (atC Try.prog 41 [1, 0, 1, 0, 0]), (atC Try.prog 41 [1, 0, 1, 0, 1]), b34⟩), .obj b31 (.row 23 .whole [s40]), .vec 29 3 l40.length s40 (l40.flatMap enc29), .obj b28 (.row 22 .whole [sc28_0]), .vec 0 0 0 .nils []] := hH66x
      refine Run.retTo Try.func41 (hS66 _ rfl) (res_tmp rfl res_nil) rfl ?_
      refine Run.opG wantS_none (ex_assign rfl) rfl ?_
      refine Run.opsEnd ?_
      refine Run.retTo Try.func15 rfl (res_tmp rfl res_nil) rfl ?_
      refine Run.opG wantS_none (ex_assign rfl) rfl ?_
      refine Run.opG wantS_none (ex_assign rfl) rfl ?_
      refine Run.opsEnd ?_
      cases h
      exact Run.ret Try.func5 rfl (res_tmp rfl (res_tmp rfl res_nil)) ⟨_, rfl, (hH66.pick [2] rfl rfl).upF (none_le _)⟩

def glitch_Tiles (F : Nat) (a0 : (List Int)) : Option ((List S_api_Tile) × Int) :=
  bnd (glitch_isSignal F a0) fun r22 =>
  bif (!r22) then
    some (([] : List S_api_Tile), (60 : Int))
  else
    bnd (glitch_transform F a0) fun r37 =>
    glitch_Tiles_1 F F r37 (0 : Int) (w64 (Int.tdiv (r37.length : Int) (2 : Int))) a0 ([] : List S_api_Tile)

theorem glitch_Tiles_ok (F : Nat) (a0 : (List Int)) (s0 : SV) (r : (List S_api_Tile) × Int) (M : Mem) (hs0 : Slc (rd M) 1 (FlatR enc3) s0 a0) (h : glitch_Tiles F a0 = some r) : CallsM Try.prog 5 [s0] M (fun s M' => ∃ q1, s = (.tuple [q1, (.int .i64 r.2)]) ∧ New M M' [.vec 29 3 r.1.length q1 (r.1.flatMap enc29)]) := by
  refine CallsM.fresh (Q := glitch_Tiles_post r) Try.func5 rfl rfl ?_ (by rintro s Me ⟨q1, rfl, hx⟩ ha hw; exact ⟨_, rfl, New.of rfl hx ha hw⟩)
  rw [glitch_Tiles] at h
  replace hs0 := hs0.mono (rdLe_frozen M) (fun _ _ h => h)
  have hH := Has.nil (frozen M)
  refine Run.seq (Run.region ?_)
  refine Run.opG wantS_none (ex_assign rfl) rfl ?_
  refine Run.opG wantS_none (ex_assign rfl) rfl ?_
  refine Run.opsEnd (Run.seq (Run.seq (Run.region ?_)))
  refine Run.opG wantS_none (ex_move rfl) rfl ?_
  obtain ⟨r22, hr22, h⟩ := bnd_some h
  refine Run.callP wantS_none (ex_call rfl mkk14 cal14) rfl (glitch_isSignal_ok F a0 s0 _ _ (hH.slcF hs0) hr22) ?_
  refine Run.opG wantS_none (ex_not rfl) rfl ?_
  refine Run.opsEnd ?_
  rcases btf ((!r22)) with hc24 | hc24
  · have h := bif_t hc24 h
    refine Run.condT' rfl hc24 ?_
    refine Run.seq (Run.region ?_)
    refine Run.opG wantS_none (ex_assign rfl) rfl ?_
    refine Run.opG wantS_none (ex_assign rfl) rfl ?_
    refine Run.opsEnd ?_
    have hH26 : Has (ro (frozen M)) (frozen M) [.vec 29 3 ([] : List S_api_Tile).length .nils (([] : List S_api_Tile).flatMap enc29)] := hH.nils 29 3
    cases h
    exact Run.ret Try.func5 rfl (res_tmp rfl (res_tmp rfl res_nil)) ⟨_, rfl, (hH26.pick [0] rfl rfl).upF (none_le _)⟩
  · have h := bif_f hc24 h
    refine Run.condF' rfl hc24 ?_
    refine Run.skip (Run.seq (Run.region ?_))
    refine Run.opG wantS_none (ex_move rfl) rfl ?_
    refine Run.enter wantS_none (ex_call rfl mkk16 cal16) Try.func16 rfl rfl ?_
    refine Run.seq (Run.region ?_)
    refine Run.opX wantS_none rfl (ExG.box rfl (cells_one (slc_one hs0)) hH) ?_
    rintro _ M29 ⟨b28, rfl, (hH29 : Has (ro (frozen M)) M29 [.obj b28 (.row 22 .whole [s0])])⟩
    refine Run.opG wantS_none (ex_assign rfl) rfl ?_
    refine Run.opsEnd (Run.seq (Run.region ?_))
    refine Run.opG wantS_none (ex_makeFunc rfl rfl) rfl ?_
    refine Run.opG wantS_none (ex_assign rfl) rfl ?_
    refine Run.opsEnd ?_
    refine Run.retTo Try.func16 rfl (res_tmp rfl res_nil) rfl ?_
    refine Run.enter wantS_none (ex_call rfl mkk15 cal15) Try.func15 rfl rfl ?_
    refine Run.seq (Run.region ?_)
    refine Run.opG wantS_none (ex_assign rfl) rfl ?_
    refine Run.opsEnd (Run.seq (Run.region ?_))
    refine Run.opG wantS_none (ex_move rfl) rfl ?_
    refine Run.enter wantS_none (ex_call rfl mkk41 cal41) Try.func41 rfl rfl ?_
    refine Run.seq (Run.region ?_)
    refine Run.opX wantS_none rfl (ExG.box rfl rfl hH29) ?_
    rintro _ M32 ⟨b31, rfl, (hH32 : Has (ro (frozen M)) M32 [.obj b31 (.row 23 .whole [.nils]), .obj b28 (.row 22 .whole [s0])])⟩
    refine Run.opG wantS_none (ex_assign rfl) rfl ?_
    refine Run.opsEnd (Run.seq (Run.seq (Run.region ?_)))
    refine Run.opG wantS_none (ex_move rfl) rfl ?_
    refine Run.opsEnd (Run.block ?_)
    refine Run.pick [2, 4, 6] ?_
    refine Run.rangeX rfl cal42 Try.func42 rfl rfl hH32 ?_
    intro b34 b33 M33 (hH33 : Has (ro (frozen M)) M33 [.obj b33 (.loop ⟨.ready, none, 41, 13, treeOf [(2, (.ptr b31 0)), (4, .nils), (6, (.fn (.func 42) [] [(.ptr b28 0)]))], [7], (atC Try.prog 41 [1, 0, 1, 0, 0]), (atC Try.prog 41 [1, 0, 1, 0, 1]), b34⟩), .obj b34 .defd, .obj b31 (.row 23 .whole [.nils]), .obj b28 (.row 22 .whole [s0])])
    refine Run.seq (Run.region ?_)
    refine Run.opG wantS_none (ex_load1 rfl (hH33.cells (i := 3) rfl 0 rfl) rdLe_rfl agg22) rfl ?_
    obtain ⟨r37, hr37, h⟩ := bnd_some h
    refine Run.callX wantS_none (ex_call rfl mkk43 cal43) rfl (glitch_transform_ok F a0 s0 _ _ (hH33.slcF hs0) hr37) ?_
    rintro s37_0 M39 ⟨_, rfl, hN37⟩
    have hH39 : Has (ro (frozen M)) M39 [.vec 3 1 r37.length s37_0 (r37.flatMap enc3), .obj b33 (.loop ⟨.ready, none, 41, 13, treeOf [(2, (.ptr b31 0)), (4, .nils), (6, (.fn (.func 42) [] [(.ptr b28 0)]))], [7], (atC Try.prog 41 [1, 0, 1, 0, 0]), (atC Try.prog 41 [1, 0, 1, 0, 1]), b34⟩), .obj b34 .defd, .obj b31 (.row 23 .whole [.nils]), .obj b28 (.row 22 .whole [s0])] := hN37.1 _ _ hH33
    refine Run.opG wantS_none (ex_assign rfl) rfl ?_
    refine Run.opsEnd (Run.seq (Run.region ?_))
    refine Run.opG wantS_none (ex_assign rfl) rfl ?_
    refine Run.opsEnd (Run.seq (Run.region ?_))
    refine Run.opG wantS_none (ex_move rfl) rfl ?_
    refine Run.opG wantS_none (ex_len' rfl (hH39.slc (i := 0) rfl enc3_len) lenk22) rfl ?_
    refine Run.opG wantS_none (ex_quo rfl rfl (by decide)) rfl ?_
    refine Run.opG wantS_none (ex_assign rfl) rfl ?_
    refine Run.opsEnd (Run.block (Run.loop ?_))
    have hH41 : Has (ro (frozen M)) M39 [.vec 29 3 ([] : List S_api_Tile).length .nils (([] : List S_api_Tile).flatMap enc29), .vec 3 1 r37.length s37_0 (r37.flatMap enc3), .obj b33 (.loop ⟨.ready, none, 41, 13, treeOf [(2, (.ptr b31 0)), (4, .nils), (6, (.fn (.func 42) [] [(.ptr b28 0)]))], [7], (atC Try.prog 41 [1, 0, 1, 0, 0]), (atC Try.prog 41 [1, 0, 1, 0, 1]), b34⟩), .obj b34 .defd, .obj b31 (.row 23 .whole [.nils]), .obj b28 (.row 22 .whole [s0])] := hH39.nils 29 3
    refine Run.freeze (t := 3) (i := 1) (enc := enc3) rfl hH41 rfl enc3_len ?_
    intro F42 M42 hle42 (hH42 : Has F42 M42 [.vec 29 3 ([] : List S_api_Tile).length .nils (([] : List S_api_Tile).flatMap enc29), .vec 0 0 0 .nils [], .obj b33 (.loop ⟨.ready, none, 41, 13, treeOf [(2, (.ptr b31 0)), (4, .nils), (6, (.fn (.func 42) [] [(.ptr b28 0)]))], [7], (atC Try.prog 41 [1, 0, 1, 0, 0]), (atC Try.prog 41 [1, 0, 1, 0, 1]), b34⟩), .obj b34 .defd, .obj b31 (.row 23 .whole [.nils]), .obj b28 (.row 22 .whole [s0])]) hf42
    replace hs0 := hs0.mono hle42 (fun _ _ h => h)
    exact Run.low (.cons (fle_pick [2] rfl) (.cons (fle_pick [] rfl) (.cons (fle_pick [] rfl) .nil))) (Run.pick [0, 3, 4, 5] (glitch_Tiles_1_ok F F r37 (0 : Int) (w64 (Int.tdiv (r37.length : Int) (2 : Int))) a0 ([] : List S_api_Tile) s37_0 s0 b33 b31 .nils b28 b34 _ _ _ hf42 hs0 (hH42.pick [2, 4, 0, 5, 3] rfl rfl) h))

theorem mkk5 : makeK Try.prog 5 = none := by kernel_rfl
theorem cal5 : callable Try.prog 5 = true := by kernel_rfl
theorem mkk6 : makeK Try.prog 6 = none := by kernel_rfl
theorem cal6 : callable Try.prog 6 = true := by kernel_rfl
theorem lenk23 : lenK Try.prog 23 = some .sl := by kernel_rfl
abbrev ref00_Mod_post (r : Int) : SV → Mem → Prop := fun s _ => s = (.int .i64 r)

def ref00_Mod_1 (F : Nat) (v0 : Int) : Option (Int) :=
  some v0

theorem ref00_Mod_1_ok (F : Nat) : ∀ (v0 : Int) (Fr : Rd) (M : Mem) (r : Int) (hH : Has Fr M []), ref00_Mod_1 F v0 = some r → Run Try.prog ⟨⟨7, [], none⟩, []⟩ 16 (ref00_Mod_post r) [(0, (.int .i64 v0))] [itemC Try.prog 7 [1, 1, 1, 1, 0] 0, codeC Try.prog 7 [1, 1, 1, 1, 1]] M := by
  intro v0 Fr M r hH h
  rw [ref00_Mod_1] at h
  refine Run.opG wantS_none (ex_move rfl) rfl ?_
  refine Run.opG wantS_none (ex_assign rfl) rfl ?_
  refine Run.opsEnd ?_
  cases h
  exact Run.ret Try.func7 rfl (res_tmp rfl res_nil) rfl

def ref00_Mod (F : Nat) (a0 : Int) (a1 : Int) : Option (Int) :=
  bif (decide (a1 < (1 : Int))) then
    some (0 : Int)
  else
    bnd (nz a1) fun z23 =>
    bif (decide ((Int.tmod a0 a1) < (0 : Int))) then
      ref00_Mod_1 F (w64 ((Int.tmod a0 a1) + a1))
    else
      ref00_Mod_1 F (Int.tmod a0 a1)

theorem ref00_Mod_ok (F : Nat) (a0 : Int) (a1 : Int) (r : Int) (M : Mem) (h : ref00_Mod F a0 a1 = some r) : CallsM Try.prog 7 [(.int .i64 a0), (.int .i64 a1)] M (fun s M' => s = (.int .i64 r) ∧ M' = M) := by
  refine CallsM.plain Try.func7 rfl rfl rfl (show Run _ _ _ (ref00_Mod_post r) _ _ _ from ?_)
  rw [ref00_Mod] at h
  have hH := Has.nil (frozen M)
  refine Run.seq (Run.region ?_)
  refine Run.opG wantS_none (ex_assign rfl) rfl ?_
  refine Run.opsEnd (Run.seq (Run.seq (Run.region ?_)))
  refine Run.opG wantS_none (ex_move rfl) rfl ?_
  refine Run.opG wantS_none (ex_lss rfl rfl) rfl ?_
  refine Run.opsEnd ?_
  rcases btf ((decide (a1 < (1 : Int)))) with hc21 | hc21
  · have h := bif_t hc21 h
    refine Run.condT' rfl hc21 ?_
    refine Run.seq (Run.region ?_)
    refine Run.opG wantS_none (ex_assign rfl) rfl ?_
    refine Run.opsEnd ?_
    cases h
    exact Run.ret Try.func7 rfl (res_tmp rfl res_nil) rfl
  · have h := bif_f hc21 h
    refine Run.condF' rfl hc21 ?_
    refine Run.skip (Run.seq (Run.region ?_))
    refine Run.opG wantS_none (ex_move rfl) rfl ?_
    refine Run.opG wantS_none (ex_move rfl) rfl ?_
    obtain ⟨z23, hz23, h⟩ := bnd_some h
    refine Run.opG wantS_none (ex_rem' rfl rfl hz23) rfl ?_
    refine Run.opG wantS_none (ex_assign rfl) rfl ?_
    refine Run.opsEnd (Run.seq (Run.seq (Run.region ?_)))
    refine Run.opG wantS_none (ex_move rfl) rfl ?_
    refine Run.opG wantS_none (ex_lss rfl rfl) rfl ?_
    refine Run.opsEnd ?_
    rcases btf ((decide ((Int.tmod a0 a1) < (0 : Int)))) with hc24 | hc24
    · have h := bif_t hc24 h
      refine Run.condT' rfl hc24 ?_
      refine Run.region ?_
      refine Run.opG wantS_none (ex_move rfl) rfl ?_
      refine Run.opG wantS_none (ex_move rfl) rfl ?_
      refine Run.opG wantS_none (ex_add rfl rfl) rfl ?_
      refine Run.opG wantS_none (ex_assign rfl) rfl ?_
      refine Run.opsEnd (Run.seq (Run.region ?_))
      exact Run.pick [0] (ref00_Mod_1_ok F (w64 ((Int.tmod a0 a1) + a1)) _ _ _ hH h)
    · have h := bif_f hc24 h
      refine Run.condF' rfl hc24 ?_
      refine Run.skip (Run.seq (Run.region ?_))
      exact Run.pick [0] (ref00_Mod_1_ok F (Int.tmod a0 a1) _ _ _ hH h)

theorem mkk7 : makeK Try.prog 7 = none := by kernel_rfl
theorem cal7 : callable Try.prog 7 = true := by kernel_rfl
theorem els23 : elems Try.prog 23 = some (.sl 3) := by kernel_rfl
theorem off29_0 : fieldOff Try.prog 29 0 = some 0 := by kernel_rfl
abbrev ref00_In_post (r : Bool) : SV → Mem → Prop := fun s _ => s = (.bool r)

def ref00_In_1 (F : Nat) (v14 : Bool) : Option (Bool) :=
  some v14

theorem ref00_In_1_ok (F : Nat) : ∀ (v14 : Bool) (Fr : Rd) (M : Mem) (r : Bool) (hH : Has Fr M []), ref00_In_1 F v14 = some r → Run Try.prog ⟨⟨8, [], none⟩, []⟩ 15 (ref00_In_post r) [(14, (.bool v14))] [itemC Try.prog 8 [1, 0] 8, codeC Try.prog 8 [1, 1]] M := by
  intro v14 Fr M r hH h
  rw [ref00_In_1] at h
  refine Run.opG wantS_none (ex_assign rfl) rfl ?_
  refine Run.opsEnd ?_
  cases h
  exact Run.ret Try.func8 rfl (res_tmp rfl res_nil) rfl

def ref00_In (F : Nat) (a0 : Int) (a1 : Int) (a2 : Int) : Option (Bool) :=
  bif (decide (a1 ≤ a0)) then
    ref00_In_1 F (decide (a0 ≤ a2))
  else
    ref00_In_1 F false

theorem ref00_In_ok (F : Nat) (a0 : Int) (a1 : Int) (a2 : Int) (r : Bool) (M : Mem) (h : ref00_In F a0 a1 a2 = some r) : CallsM Try.prog 8 [(.int .i64 a0), (.int .i64 a1), (.int .i64 a2)] M (fun s M' => s = (.bool r) ∧ M' = M) := by
  refine CallsM.plain Try.func8 rfl rfl rfl (show Run _ _ _ (ref00_In_post r) _ _ _ from ?_)
  rw [ref00_In] at h
  have hH := Has.nil (frozen M)
  refine Run.seq (Run.region ?_)
  refine Run.opG wantS_none (ex_assign rfl) rfl ?_
  refine Run.opsEnd (Run.seq (Run.region ?_))
  refine Run.opG wantS_none (ex_move rfl) rfl ?_
  refine Run.opG wantS_none (ex_move rfl) rfl ?_
  refine Run.opG wantS_none (ex_leq rfl rfl) rfl ?_
  refine Run.opG wantS_none (ex_move rfl) rfl ?_
  rcases btf ((decide (a1 ≤ a0))) with hc21 | hc21
  · have h := bif_t hc21 h
    refine Run.opG (wantS_yes' rfl rfl hc21) (ex_move rfl) rfl ?_
    refine Run.opG (wantS_yes' rfl rfl hc21) (ex_move rfl) rfl ?_
    refine Run.opG (wantS_yes' rfl rfl hc21) (ex_leq rfl rfl) rfl ?_
    refine Run.opG wantS_none (ex_pickT' rfl hc21 rfl rfl) rfl ?_
    exact Run.pick [14] (ref00_In_1_ok F (decide (a0 ≤ a2)) _ _ _ hH h)
  · have h := bif_f hc21 h
    refine Run.no (wantS_not' rfl rfl hc21) rfl ?_
    refine Run.no (wantS_not' rfl rfl hc21) rfl ?_
    refine Run.no (wantS_not' rfl rfl hc21) rfl ?_
    refine Run.opG wantS_none (ex_pickF' rfl hc21 rfl rfl) rfl ?_
    exact Run.pick [14] (ref00_In_1_ok F false _ _ _ hH h)

theorem mkk8 : makeK Try.prog 8 = none := by kernel_rfl
theorem cal8 : callable Try.prog 8 = true := by kernel_rfl
theorem off29_2 : fieldOff Try.prog 29 2 = some 2 := by kernel_rfl
structure S_api_Burst where
  From : Int
  To : Int
  Peak : Int

def enc36 (a : S_api_Burst) : List SV := [(.int .i64 a.From), (.int .i64 a.To), (.int .i64 a.Peak)]
theorem enc36_len (a : S_api_Burst) : (enc36 a).length = 3 := rfl
theorem enc36_ones (a : S_api_Burst) : ones (enc36 a) = true := rfl
theorem mkk90 : makeK Try.prog 90 = none := by kernel_rfl
theorem cal90 : callable Try.prog 90 = true := by kernel_rfl
theorem mkk104 : makeK Try.prog 104 = none := by kernel_rfl
theorem cal104 : callable Try.prog 104 = true := by kernel_rfl
theorem mkk89 : makeK Try.prog 89 = none := by kernel_rfl
theorem cal89 : callable Try.prog 89 = true := by kernel_rfl
abbrev search_isFrom_post (r : Bool) : SV → Mem → Prop := fun s _ => s = (.bool r)

def search_isFrom_1 (F : Nat) (v14 : Bool) : Option (Bool) :=
  some v14

theorem search_isFrom_1_ok (F : Nat) : ∀ (v14 : Bool) (Fr : Rd) (M : Mem) (r : Bool) (hH : Has Fr M []), search_isFrom_1 F v14 = some r → Run Try.prog ⟨⟨30, [], none⟩, []⟩ 15 (search_isFrom_post r) [(14, (.bool v14))] [itemC Try.prog 30 [1, 0] 8, codeC Try.prog 30 [1, 1]] M := by
  intro v14 Fr M r hH h
  rw [search_isFrom_1] at h
  refine Run.opG wantS_none (ex_assign rfl) rfl ?_
  refine Run.opsEnd ?_
  cases h
  exact Run.ret Try.func30 rfl (res_tmp rfl res_nil) rfl

def search_isFrom (F : Nat) (a0 : Int) (a1 : Int) (a2 : Int) : Option (Bool) :=
  bif (decide (a0 ≤ a1)) then
    search_isFrom_1 F (decide (a1 ≤ a2))
  else
    search_isFrom_1 F false

theorem search_isFrom_ok (F : Nat) (a0 : Int) (a1 : Int) (a2 : Int) (r : Bool) (M : Mem) (h : search_isFrom F a0 a1 a2 = some r) : CallsM Try.prog 30 [(.int .i64 a0), (.int .i64 a1), (.int .i64 a2)] M (fun s M' => s = (.bool r) ∧ M' = M) := by
  refine CallsM.plain Try.func30 rfl rfl rfl (show Run _ _ _ (search_isFrom_post r) _ _ _ from ?_)
  rw [search_isFrom] at h
  have hH := Has.nil (frozen M)
  refine Run.seq (Run.region ?_)
  refine Run.opG wantS_none (ex_assign rfl) rfl ?_
  refine Run.opsEnd (Run.seq (Run.region ?_))
  refine Run.opG wantS_none (ex_move rfl) rfl ?_
  refine Run.opG wantS_none (ex_move rfl) rfl ?_
  refine Run.opG wantS_none (ex_leq rfl rfl) rfl ?_
  refine Run.opG wantS_none (ex_move rfl) rfl ?_
  rcases btf ((decide (a0 ≤ a1))) with hc21 | hc21
  · have h := bif_t hc21 h
    refine Run.opG (wantS_yes' rfl rfl hc21) (ex_move rfl) rfl ?_
    refine Run.opG (wantS_yes' rfl rfl hc21) (ex_move rfl) rfl ?_
    refine Run.opG (wantS_yes' rfl rfl hc21) (ex_leq rfl rfl) rfl ?_
    refine Run.opG wantS_none (ex_pickT' rfl hc21 rfl rfl) rfl ?_
    exact Run.pick [14] (search_isFrom_1_ok F (decide (a1 ≤ a2)) _ _ _ hH h)
  · have h := bif_f hc21 h
    refine Run.no (wantS_not' rfl rfl hc21) rfl ?_
    refine Run.no (wantS_not' rfl rfl hc21) rfl ?_
    refine Run.no (wantS_not' rfl rfl hc21) rfl ?_
    refine Run.opG wantS_none (ex_pickF' rfl hc21 rfl rfl) rfl ?_
    exact Run.pick [14] (search_isFrom_1_ok F false _ _ _ hH h)

theorem mkk30 : makeK Try.prog 30 = none := by kernel_rfl
theorem cal30 : callable Try.prog 30 = true := by kernel_rfl
abbrev search_areFrom_post (r : Bool) : SV → Mem → Prop := fun s _ => s = (.bool r)

def search_areFrom_1 (F : Nat) : Nat → (List Int) → Int → Int → Int → Option (Bool)
  | 0, _, _, _, _ => none
  | N + 1, v0, v7, v8, c22_0 =>
    bif (decide (v8 < v7)) then
      bnd (idx v0 v8) fun x26 =>
      bnd (search_isFrom F (w64 (-c22_0)) x26 c22_0) fun r28 =>
      bif (!r28) then
        some (!(decide ((0 : Int) ≤ v8)))
      else
        (search_areFrom_1 F N) v0 v7 (w64 (v8 + (1 : Int))) c22_0
    else
      some (!(decide ((0 : Int) ≤ ((-1) : Int))))

theorem search_areFrom_1_ok (F : Nat) : ∀ (N : Nat), ∀ (v0 : (List Int)) (v7 : Int) (v8 : Int) (c22_0 : Int) (sv0 : SV) (b22 : Pos) (Fr : Rd) (M : Mem) (r : Bool) (hv0 : Slc Fr 1 (FlatR enc3) sv0 v0) (hH : Has Fr M [.obj b22 (.row 3 .whole [(.int .i64 c22_0)])]), search_areFrom_1 F N v0 v7 v8 c22_0 = some r → Run Try.prog ⟨⟨104, [], none⟩, [.mk ⟨90, [], none⟩ 9 (treeOf []) [itemC Try.prog 90 [1, 0] 2, codeC Try.prog 90 [1, 1]], .mk ⟨58, [], none⟩ 11 (treeOf []) [itemC Try.prog 58 [1, 1, 0] 2, codeC Try.prog 58 [1, 1, 1]]]⟩ 19 (search_areFrom_post r) [(0, sv0), (1, (.fn (.func 89) [] [(.ptr b22 0)])), (7, (.int .i64 v7)), (8, (.int .i64 v8))] [codeC Try.prog 104 [1, 0, 1, 0, 0], loopC Try.prog 104 [1, 0, 1, 0, 0], .inBlock 0, codeC Try.prog 104 [1, 1]] M := by
  intro N
  induction N with
  | zero =>
    intro v0 v7 v8 c22_0 sv0 b22 Fr M r hv0 hH h
    simp [search_areFrom_1] at h
  | succ N ih =>
    intro v0 v7 v8 c22_0 sv0 b22 Fr M r hv0 hH h
    rw [search_areFrom_1] at h
    refine Run.seq (Run.region ?_)
    refine Run.opG wantS_none (ex_lss rfl rfl) rfl ?_
    refine Run.opsEnd (Run.seq ?_)
    rcases btf ((decide (v8 < v7))) with hc24 | hc24
    · have h := bif_t hc24 h
      refine Run.condT' rfl hc24 ?_
      refine Run.skip (Run.seq (Run.block (Run.seq (Run.region ?_))))
      refine Run.opG wantS_none (ex_move rfl) rfl ?_
      refine Run.opG wantS_none (ex_assign rfl) rfl ?_
      refine Run.opsEnd (Run.seq (Run.region ?_))
      refine Run.opG wantS_none (ex_move rfl) rfl ?_
      refine Run.opG wantS_none (ex_move rfl) rfl ?_
      refine Run.opG wantS_none (ex_move rfl) rfl ?_
      obtain ⟨x26, hx26, h⟩ := bnd_some h
      obtain ⟨p26, o26, _, hx26, hp26, rfl⟩ := sl_elem (P := Try.prog) (t := 22) (kk := .i64) hv0 hx26 els22
      refine Run.opG wantS_none (ex_elX rfl rfl hx26) rfl ?_
      refine Run.opG wantS_none (ex_load1 rfl (hH.ptrF hp26) rdLe_rfl agg3) rfl ?_
      refine Run.enter wantS_none (ex_closure rfl rfl mkk89 cal89) Try.func89 rfl rfl ?_
      refine Run.seq (Run.region ?_)
      refine Run.opG wantS_none (ex_assign rfl) rfl ?_
      refine Run.opsEnd (Run.seq (Run.region ?_))
      refine Run.opG wantS_none (ex_load1 rfl (hH.cells (i := 0) rfl 0 rfl) rdLe_rfl agg3) rfl ?_
      refine Run.opG wantS_none (ex_neg rfl) rfl ?_
      refine Run.opG wantS_none (ex_move rfl) rfl ?_
      refine Run.opG wantS_none (ex_load1 rfl (hH.cells (i := 0) rfl 0 rfl) rdLe_rfl agg3) rfl ?_
      obtain ⟨r28, hr28, h⟩ := bnd_some h
      refine Run.callP wantS_none (ex_call rfl mkk30 cal30) rfl (search_isFrom_ok F (w64 (-c22_0)) x26 c22_0 _ _ hr28) ?_
      refine Run.opG wantS_none (ex_not rfl) rfl ?_
      refine Run.opG wantS_none (ex_assign rfl) rfl ?_
      refine Run.opsEnd ?_
      refine Run.retTo Try.func89 rfl (res_tmp rfl res_nil) rfl ?_
      refine Run.opsEnd ?_
      rcases btf ((!r28)) with hc30 | hc30
      · have h := bif_t hc30 h
        refine Run.condT' rfl hc30 ?_
        refine Run.seq (Run.region ?_)
        refine Run.opG wantS_none (ex_move rfl) rfl ?_
        refine Run.opG wantS_none (ex_assign rfl) rfl ?_
        refine Run.opsEnd ?_
        refine Run.retTo Try.func104 rfl (res_tmp rfl res_nil) rfl ?_
        refine Run.opG wantS_none (ex_geq rfl rfl) rfl ?_
        refine Run.opG wantS_none (ex_assign rfl) rfl ?_
        refine Run.opsEnd ?_
        refine Run.retTo Try.func90 rfl (res_tmp rfl res_nil) rfl ?_
        refine Run.opG wantS_none (ex_not rfl) rfl ?_
        refine Run.opG wantS_none (ex_assign rfl) rfl ?_
        refine Run.opsEnd ?_
        cases h
        exact Run.ret Try.func58 rfl (res_tmp rfl res_nil) rfl
      · have h := bif_f hc30 h
        refine Run.condF' rfl hc30 ?_
        refine Run.skip (Run.inBlock (Run.region ?_))
        refine Run.opG wantS_none (ex_add rfl rfl) rfl ?_
        refine Run.opG wantS_none (ex_move rfl) rfl ?_
        refine Run.opsEnd (Run.inLoop ?_)
        exact Run.low (.cons (fle_pick [] rfl) (.cons (fle_pick [] rfl) .nil)) (Run.pick [0, 1, 7, 8] (ih v0 v7 (w64 (v8 + (1 : Int))) c22_0 sv0 b22 _ _ _ hv0 hH h))
    · have h := bif_f hc24 h
      refine Run.condF' rfl hc24 ?_
      refine Run.exit rfl (Run.seq (Run.region ?_))
      refine Run.opG wantS_none (ex_assign rfl) rfl ?_
      refine Run.opsEnd ?_
      refine Run.retTo Try.func104 rfl (res_tmp rfl res_nil) rfl ?_
      refine Run.opG wantS_none (ex_geq rfl rfl) rfl ?_
      refine Run.opG wantS_none (ex_assign rfl) rfl ?_
      refine Run.opsEnd ?_
      refine Run.retTo Try.func90 rfl (res_tmp rfl res_nil) rfl ?_
      refine Run.opG wantS_none (ex_not rfl) rfl ?_
      refine Run.opG wantS_none (ex_assign rfl) rfl ?_
      refine Run.opsEnd ?_
      cases h
      exact Run.ret Try.func58 rfl (res_tmp rfl res_nil) rfl

def search_areFrom (F : Nat) (a0 : (List Int)) (a1 : Int) : Option (Bool) :=
  search_areFrom_1 F F a0 (a0.length : Int) (0 : Int) a1

theorem search_areFrom_ok (F : Nat) (a0 : (List Int)) (a1 : Int) (s0 : SV) (r : Bool) (M : Mem) (hs0 : Slc (rd M) 1 (FlatR enc3) s0 a0) (h : search_areFrom F a0 a1 = some r) : CallsM Try.prog 58 [s0, (.int .i64 a1)] M (fun s M' => s = (.bool r) ∧ M' = M) := by
  refine CallsM.plain Try.func58 rfl rfl rfl (show Run _ _ _ (search_areFrom_post r) _ _ _ from ?_)
  rw [search_areFrom] at h
  replace hs0 := hs0.mono (rdLe_frozen M) (fun _ _ h => h)
  have hH := Has.nil (frozen M)
  refine Run.seq (Run.region ?_)
  refine Run.opX wantS_none rfl (ExG.box rfl rfl hH) ?_
  rintro _ M23 ⟨b22, rfl, (hH23 : Has (ro (frozen M)) M23 [.obj b22 (.row 3 .whole [(.int .i64 a1)])])⟩
  refine Run.opG wantS_none (ex_assign rfl) rfl ?_
  refine Run.opsEnd (Run.seq (Run.region ?_))
  refine Run.opG wantS_none (ex_makeFunc rfl rfl) rfl ?_
  refine Run.opG wantS_none (ex_assign rfl) rfl ?_
  refine Run.opsEnd (Run.seq (Run.region ?_))
  refine Run.opG wantS_none (ex_move rfl) rfl ?_
  refine Run.opG wantS_none (ex_move rfl) rfl ?_
  refine Run.enter wantS_none (ex_call rfl mkk90 cal90) Try.func90 rfl rfl ?_
  refine Run.seq (Run.region ?_)
  refine Run.opG wantS_none (ex_assign rfl) rfl ?_
  refine Run.opsEnd (Run.seq (Run.region ?_))
  refine Run.opG wantS_none (ex_move rfl) rfl ?_
  refine Run.opG wantS_none (ex_move rfl) rfl ?_
  refine Run.enter wantS_none (ex_call rfl mkk104 cal104) Try.func104 rfl rfl ?_
  refine Run.seq (Run.region ?_)
  refine Run.opG wantS_none (ex_assign rfl) rfl ?_
  refine Run.opsEnd (Run.seq (Run.seq (Run.region ?_)))
  refine Run.opG wantS_none (ex_move rfl) rfl ?_
  refine Run.opG wantS_none (ex_len' rfl hs0 lenk22) rfl ?_
  refine Run.opG wantS_none (ex_move rfl) rfl ?_
  refine Run.opsEnd (Run.block (Run.loop ?_))
  exact Run.low (.cons (fle_pick [] rfl) (.cons (fle_pick [] rfl) .nil)) (Run.pick [0, 1, 7, 8] (search_areFrom_1_ok F F a0 (a0.length : Int) (0 : Int) a1 s0 b22 _ _ _ hs0 hH23 h))

theorem mkk58 : makeK Try.prog 58 = none := by kernel_rfl
theorem cal58 : callable Try.prog 58 = true := by kernel_rfl
abbrev search_isRecord_post (r : Bool) : SV → Mem → Prop := fun s _ => s = (.bool r)

def search_isRecord_1 (F : Nat) (v9 : Bool) : Option (Bool) :=
  some v9

theorem search_isRecord_1_ok (F : Nat) : ∀ (v9 : Bool) (Fr : Rd) (M : Mem) (r : Bool) (hH : Has Fr M []), search_isRecord_1 F v9 = some r → Run Try.prog ⟨⟨29, [], none⟩, []⟩ 10 (search_isRecord_post r) [(9, (.bool v9))] [itemC Try.prog 29 [1, 0] 7, codeC Try.prog 29 [1, 1]] M := by
  intro v9 Fr M r hH h
  rw [search_isRecord_1] at h
  refine Run.opG wantS_none (ex_assign rfl) rfl ?_
  refine Run.opsEnd ?_
  cases h
  exact Run.ret Try.func29 rfl (res_tmp rfl res_nil) rfl

def search_isRecord (F : Nat) (a0 : (List Int)) : Option (Bool) :=
  bif (decide ((a0.length : Int) ≤ (1024 : Int))) then
    bnd (search_areFrom F a0 (16384 : Int)) fun r23 =>
    search_isRecord_1 F r23
  else
    search_isRecord_1 F false

theorem search_isRecord_ok (F : Nat) (a0 : (List Int)) (s0 : SV) (r : Bool) (M : Mem) (hs0 : Slc (rd M) 1 (FlatR enc3) s0 a0) (h : search_isRecord F a0 = some r) : CallsM Try.prog 29 [s0] M (fun s M' => s = (.bool r) ∧ M' = M) := by
  refine CallsM.plain Try.func29 rfl rfl rfl (show Run _ _ _ (search_isRecord_post r) _ _ _ from ?_)
  rw [search_isRecord] at h
  replace hs0 := hs0.mono (rdLe_frozen M) (fun _ _ h => h)
  have hH := Has.nil (frozen M)
  refine Run.seq (Run.region ?_)
  refine Run.opG wantS_none (ex_assign rfl) rfl ?_
  refine Run.opsEnd (Run.seq (Run.region ?_))
  refine Run.opG wantS_none (ex_move rfl) rfl ?_
  refine Run.opG wantS_none (ex_len' rfl hs0 lenk22) rfl ?_
  refine Run.opG wantS_none (ex_leq rfl rfl) rfl ?_
  refine Run.opG wantS_none (ex_move rfl) rfl ?_
  rcases btf ((decide ((a0.length : Int) ≤ (1024 : Int)))) with hc21 | hc21
  · have h := bif_t hc21 h
    refine Run.opG (wantS_yes' rfl rfl hc21) (ex_move rfl) rfl ?_
    obtain ⟨r23, hr23, h⟩ := bnd_some h
    refine Run.callP (wantS_yes' rfl rfl hc21) (ex_call rfl mkk58 cal58) rfl (search_areFrom_ok F a0 (16384 : Int) s0 _ _ (hH.slcF hs0) hr23) ?_
    refine Run.opG wantS_none (ex_pickT' rfl hc21 rfl rfl) rfl ?_
    exact Run.pick [9] (search_isRecord_1_ok F r23 _ _ _ hH h)
  · have h := bif_f hc21 h
    refine Run.no (wantS_not' rfl rfl hc21) rfl ?_
    refine Run.no (wantS_not' rfl rfl hc21) rfl ?_
    refine Run.opG wantS_none (ex_pickF' rfl hc21 rfl rfl) rfl ?_
    exact Run.pick [9] (search_isRecord_1_ok F false _ _ _ hH h)

theorem mkk29 : makeK Try.prog 29 = none := by kernel_rfl
theorem cal29 : callable Try.prog 29 = true := by kernel_rfl
theorem zer32 : zerosOf Try.prog 32 = some [.nils] := by kernel_rfl
theorem mkk59 : makeK Try.prog 59 = none := by kernel_rfl
theorem cal59 : callable Try.prog 59 = true := by kernel_rfl
theorem cal91 : callable Try.prog 91 = true := by kernel_rfl
theorem zra148 : zerosOf Try.prog 148 = some ((List.replicate 1027 (0 : Int)).flatMap enc3) := by kernel_rfl
theorem pls148 : placesOf Try.prog 148 = some (.st [(0, 1024), (1024, 1), (1025, 1), (1026, 1)]) := by kernel_rfl
theorem bld148_1 : ∀ x : Int, fillS (placeAt [(0, 1024), (1024, 1), (1025, 1), (1026, 1)]) ((List.replicate 1027 (0 : Int)).flatMap enc3) [(1, .int .i64 x)] = some (((List.replicate 1027 (0 : Int)).set 1024 x).flatMap enc3) := fun x => congrFun (show (fun x : Int => fillS (placeAt [(0, 1024), (1024, 1), (1025, 1), (1026, 1)]) ((List.replicate 1027 (0 : Int)).flatMap enc3) [(1, .int .i64 x)]) = fun x => some (((List.replicate 1027 (0 : Int)).set 1024 x).flatMap enc3) by kernel_rfl) x
theorem zer148 : zerosOf Try.prog 148 = some [(.int .i64 0), (.int .i64 0), (.int .i64 0), (.int .i64 0), (.int .i64 0), (.int .i64 0), (.int .i64 0), (.int .i64 0), (.int .i64 0), (.int .i64 0), (.int .i64 0), (.int .i64 0), (.int .i64 0), (.int .i64 0), (.int .i64 0), (.int .i64 0), (.int .i64 0), (.int .i64 0), (.int .i64 0), (.int .i64 0), (.int .i64 0), (.int .i64 0), (.int .i64 0), (.int .i64 0), (.int .i64 0), (.int .i64 0), (.int .i64 0), (.int .i64 0), (.int .i64 0), (.int .i64 0), (.int .i64 0), (.int .i64 0), (.int .i64 0), (.int .i64 0), (.int .i64 0), (.int .i64 0), (.int .i64 0), (.int .i64 0), (.int .i64 0), (.int .i64 0), (.int .i64 0), (.int .i64 0), (.int .i64 0), (.int .i64 0), (.int .i64 0), (.int .i64 0), (.int .i64 0), (.int .i64 0), (.int .i64 0), (.int .i64 0), (.int .i64 0), (.int .i64 0), (.int .i64 0), (.int .i64 0), (.int .i64 0), (.int .i64 0), (.int .i64 0), (.int .i64 0), (.int .i64 0), (.int .i64 0), (.int .i64 0), (.int .i64 0), (.int .i64 0), (.int .i64 0), (.int .i64 0), (.int .i64 0), (.int .i64 0), (.int .i64 0), (.int .i64 0), (.int .i64 0), (.int .i64 0), (.int .i64 0), (.int .i64 0), (.int .i64 0), (.int .i64 0), (.int .i64 0), (.int .i64 0), (.int .i64 0), (.int .i64 0), (.int .i64 0), (.int .i64 0), (.int .i64 0), (.int .i64 0), (.int .i64 0), (.int .i64 0), (.int .i64 0), (.int .i64 0), (.int .i64 0), (.int .i64 0), (.int .i64 0), (.int .i64 0), (.int .i64 0), (.int .i64 0), (.int .i64 0), (.int .i64 0), (.int .i64 0), (.int .i64 0), (.int .i64 0), (.int .i64 0), (.int .i64 0), (.int .i64 0), (.int .i64 0), (.int .i64 0), (.int .i64 0), (.int .i64 0), (.int .i64 0), (.int .i64 0), (.int .i64 0), (.int .i64 0), (.int .i64 0), (.int .i64 0), (.int .i64 0), (.int .i64 0), (.int .i64 0), (.int .i64 0), (.int .i64 0), (.int .i64 0), (.int .i64 0), (.int .i64 0), (.int .i64 0), (.int .i64 0), (.int .i64 0), (.int .i64 0), (.int .i64 0), (.int .i64 0), (.int .i64 0), (.int .i64 0), (.int .i64 0), (.int .i64 0), (.int .i64 0), (.int .i64 0), (.int .i64 0), (.int .i64 0), (.int .i64 0), (.int .i64 0), (.int .i64 0), (.int .i64 0), (.int .i64 0), (.int .i64 0), (.int .i64 0), (.int .i64 0), (.int .i64 0), (.int .i64 0), (.int .i64 0), (.int .i64 0), (.int .i64 0), (.int .i64 0), (.int .i64 0), (.int .i64 0), (.int .i64 0), (.int .i64 0), (.int .i64 0), (.int .i64 0), (.int .i64 0), (.int .i64 0), (.int .i64 0), (.int .i64 0), (.int .i64 0), (.int .i64 0), (.int .i64 0), (.int .i64 0), (.int .i64 0), (.int .i64 0), (.int .i64 0), (.int .i64 0), (.int .i64 0), (.int .i64 0), (.int .i64 0), (.int .i64 0), (.int .i64 0), (.int .i64 0), (.int .i64 0), (.int .i64 0), (.int .i64 0), (.int .i64 0), (.int .i64 0), (.int .i64 0), (.int .i64 0), (.int .i64 0), (.int .i64 0), (.int .i64 0), (.int .i64 0), (.int .i64 0), (.int .i64 0), (.int .i64 0), (.int .i64 0), (.int .i64 0), (.int .i64 0), (.int .i64 0), (.int .i64 0), (.int .i64 0), (.int .i64 0), (.int .i64 0), (.int .i64 0), (.int .i64 0), (.int .i64 0), (.int .i64 0), (.int .i64 0), (.int .i64 0), (.int .i64 0), (.int .i64 0), (.int .i64 0), (.int .i64 0), (.int .i64 0), (.int .i64 0), (.int .i64 0), (.int .i64 0), (.int .i64 0), (.int .i64 0), (.int .i64 0), (.int .i64 0), (.int .i64 0), (.int .i64 0), (.int .i64 0), (.int .i64 0), (.int .i64 0), (.int .i64 0), (.int .i64 0), (.int .i64 0), (.int .i64 0), (.int .i64 0), (.int .i64 0), (.int .i64 0), (.int .i64 0), (.int .i64 0), (.int .i64 0), (.int .i64 0), (.int .i64 0), (.int .i64 0), (.int .i64 0), (.int .i64 0), (.int .i64 0), (.int .i64 0), (.int .i64 0), (.int .i64 0), (.int .i64 0), (.int .i64 0), (.int .i64 0), (.int .i64 0), (.int .i64 0), (.int .i64 0), (.int .i64 0), (.int .i64 0), (.int .i64 0), (.int .i64 0), (.int .i64 0), (.int .i64 0), (.int .i64 0), (.int .i64 0), (.int .i64 0), (.int .i64 0), (.int .i64 0), (.int .i64 0), (.int .i64 0), (.int .i64 0), (.int .i64 0), (.int .i64 0), (.int .i64 0), (.int .i64 0), (.int .i64 0), (.int .i64 0), (.int .i64 0), (.int .i64 0), (.int .i64 0), (.int .i64 0), (.int .i64 0), (.int .i64 0), (.int .i64 0), (.int .i64 0), (.int .i64 0), (.int .i64 0), (.int .i64 0), (.int .i64 0), (.int .i64 0), (.int .i64 0), (.int .i64 0), (.int .i64 0), (.int .i64 0), (.int .i64 0), (.int .i64 0), (.int .i64 0), (.int .i64 0), (.int .i64 0), (.int .i64 0), (.int .i64 0), (.int .i64 0), (.int .i64 0), (.int .i64 0), (.int .i64 0), (.int .i64 0), (.int .i64 0), (.int .i64 0), (.int .i64 0), (.int .i64 0), (.int .i64 0), (.int .i64 0), (.int .i64 0), (.int .i64 0), (.int .i64 0), (.int .i64 0), (.int .i64 0), (.int .i64 0), (.int .i64 0), (.int .i64 0), (.int .i64 0), (.int .i64 0), (.int .i64 0), (.int .i64 0), (.int .i64 0), (.int .i64 0), (.int .i64 0), (.int .i64 0), (.int .i64 0), (.int .i64 0), (.int .i64 0), (.int .i64 0), (.int .i64 0), (.int .i64 0), (.int .i64 0), (.int .i64 0), (.int .i64 0), (.int .i64 0), (.int .i64 0), (.int .i64 0), (.int .i64 0), (.int .i64 0), (.int .i64 0), (.int .i64 0), (.int .i64 0), (.int .i64 0), (.int .i64 0), (.int .i64 0), (.int .i64 0), (.int .i64 0), (.int .i64 0), (.int .i64 0), (.int .i64 0), (.int .i64 0), (.int .i64 0), (.int .i64 0), (.int .i64 0), (.int .i64 0), (.int .i64 0), (.int .i64 0), (.int .i64 0), (.int .i64 0), (.int .i64 0), (.int .i64 0), (.int .i64 0), (.int .i64 0), (.int .i64 0), (.int .i64 0), (.int .i64 0), (.int .i64 0), (.int .i64 0), (.int .i64 0), (.int .i64 0), (.int .i64 0), (.int .i64 0), (.int .i64 0), (.int .i64 0), (.int .i64 0), (.int .i64 0), (.int .i64 0), (.int .i64 0), (.int .i64 0), (.int .i64 0), (.int .i64 0), (.int .i64 0), (.int .i64 0), (.int .i64 0), (.int .i64 0), (.int .i64 0), (.int .i64 0), (.int .i64 0), (.int .i64 0), (.int .i64 0), (.int .i64 0), (.int .i64 0), (.int .i64 0), (.int .i64 0), (.int .i64 0), (.int .i64 0), (.int .i64 0), (.int .i64 0), (.int .i64 0), (.int .i64 0), (.int .i64 0), (.int .i64 0), (.int .i64 0), (.int .i64 0), (.int .i64 0), (.int .i64 0), (.int .i64 0), (.int .i64 0), (.int .i64 0), (.int .i64 0), (.int .i64 0), (.int .i64 0), (.int .i64 0), (.int .i64 0), (.int .i64 0), (.int .i64 0), (.int .i64 0), (.int .i64 0), (.int .i64 0), (.int .i64 0), (.int .i64 0), (.int .i64 0), (.int .i64 0), (.int .i64 0), (.int .i64 0), (.int .i64 0), (.int .i64 0), (.int .i64 0), (.int .i64 0), (.int .i64 0), (.int .i64 0), (.int .i64 0), (.int .i64 0), (.int .i64 0), (.int .i64 0), (.int .i64 0), (.int .i64 0), (.int .i64 0), (.int .i64 0), (.int .i64 0), (.int .i64 0), (.int .i64 0), (.int .i64 0), (.int .i64 0), (.int .i64 0), (.int .i64 0), (.int .i64 0), (.int .i64 0), (.int .i64 0), (.int .i64 0), (.int .i64 0), (.int .i64 0), (.int .i64 0), (.int .i64 0), (.int .i64 0), (.int .i64 0), (.int .i64 0), (.int .i64 0), (.int .i64 0), (.int .i64 0), (.int .i64 0), (.int .i64 0), (.int .i64 0), (.int .i64 0), (.int .i64 0), (.int .i64 0), (.int .i64 0), (.int .i64 0), (.int .i64 0), (.int .i64 0), (.int .i64 0), (.int .i64 0), (.int .i64 0), (.int .i64 0), (.int .i64 0), (.int .i64 0), (.int .i64 0), (.int .i64 0), (.int .i64 0), (.int .i64 0), (.int .i64 0), (.int .i64 0), (.int .i64 0), (.int .i64 0), (.int .i64 0), (.int .i64 0), (.int .i64 0), (.int .i64 0), (.int .i64 0), (.int .i64 0), (.int .i64 0), (.int .i64 0), (.int .i64 0), (.int .i64 0), (.int .i64 0), (.int .i64 0), (.int .i64 0), (.int .i64 0), (.int .i64 0), (.int .i64 0), (.int .i64 0), (.int .i64 0), (.int .i64 0), (.int .i64 0), (.int .i64 0), (.int .i64 0), (.int .i64 0), (.int .i64 0), (.int .i64 0), (.int .i64 0), (.int .i64 0), (.int .i64 0), (.int .i64 0), (.int .i64 0), (.int .i64 0), (.int .i64 0), (.int .i64 0), (.int .i64 0), (.int .i64 0), (.int .i64 0), (.int .i64 0), (.int .i64 0), (.int .i64 0), (.int .i64 0), (.int .i64 0), (.int .i64 0), (.int .i64 0), (.int .i64 0), (.int .i64 0), (.int .i64 0), (.int .i64 0), (.int .i64 0), (.int .i64 0), (.int .i64 0), (.int .i64 0), (.int .i64 0), (.int .i64 0), (.int .i64 0), (.int .i64 0), (.int .i64 0), (.int .i64 0), (.int .i64 0), (.int .i64 0), (.int .i64 0), (.int .i64 0), (.int .i64 0), (.int .i64 0), (.int .i64 0), (.int .i64 0), (.int .i64 0), (.int .i64 0), (.int .i64 0), (.int .i64 0), (.int .i64 0), (.int .i64 0), (.int .i64 0), (.int .i64 0), (.int .i64 0), (.int .i64 0), (.int .i64 0), (.int .i64 0), (.int .i64 0), (.int .i64 0), (.int .i64 0), (.int .i64 0), (.int .i64 0), (.int .i64 0), (.int .i64 0), (.int .i64 0), (.int .i64 0), (.int .i64 0), (.int .i64 0), (.int .i64 0), (.int .i64 0), (.int .i64 0), (.int .i64 0), (.int .i64 0), (.int .i64 0), (.int .i64 0), (.int .i64 0), (.int .i64 0), (.int .i64 0), (.int .i64 0), (.int .i64 0), (.int .i64 0), (.int .i64 0), (.int .i64 0), (.int .i64 0), (.int .i64 0), (.int .i64 0), (.int .i64 0), (.int .i64 0), (.int .i64 0), (.int .i64 0), (.int .i64 0), (.int .i64 0), (.int .i64 0), (.int .i64 0), (.int .i64 0), (.int .i64 0), (.int .i64 0), (.int .i64 0), (.int .i64 0), (.int .i64 0), (.int .i64 0), (.int .i64 0), (.int .i64 0), (.int .i64 0), (.int .i64 0), (.int .i64 0), (.int .i64 0), (.int .i64 0), (.int .i64 0), (.int .i64 0), (.int .i64 0), (.int .i64 0), (.int .i64 0), (.int .i64 0), (.int .i64 0), (.int .i64 0), (.int .i64 0), (.int .i64 0), (.int .i64 0), (.int .i64 0), (.int .i64 0), (.int .i64 0), (.int .i64 0), (.int .i64 0), (.int .i64 0), (.int .i64 0), (.int .i64 0), (.int .i64 0), (.int .i64 0), (.int .i64 0), (.int .i64 0), (.int .i64 0), (.int .i64 0), (.int .i64 0), (.int .i64 0), (.int .i64 0), (.int .i64 0), (.int .i64 0), (.int .i64 0), (.int .i64 0), (.int .i64 0), (.int .i64 0), (.int .i64 0), (.int .i64 0), (.int .i64 0), (.int .i64 0), (.int .i64 0), (.int .i64 0), (.int .i64 0), (.int .i64 0), (.int .i64 0), (.int .i64 0), (.int .i64 0), (.int .i64 0), (.int .i64 0), (.int .i64 0), (.int .i64 0), (.int .i64 0), (.int .i64 0), (.int .i64 0), (.int .i64 0), (.int .i64 0), (.int .i64 0), (.int .i64 0), (.int .i64 0), (.int .i64 0), (.int .i64 0), (.int .i64 0), (.int .i64 0), (.int .i64 0), (.int .i64 0), (.int .i64 0), (.int .i64 0), (.int .i64 0), (.int .i64 0), (.int .i64 0), (.int .i64 0), (.int .i64 0), (.int .i64 0), (.int .i64 0), (.int .i64 0), (.int .i64 0), (.int .i64 0), (.int .i64 0), (.int .i64 0), (.int .i64 0), (.int .i64 0), (.int .i64 0), (.int .i64 0), (.int .i64 0), (.int .i64 0), (.int .i64 0), (.int .i64 0), (.int .i64 0), (.int .i64 0), (.int .i64 0), (.int .i64 0), (.int .i64 0), (.int .i64 0), (.int .i64 0), (.int .i64 0), (.int .i64 0), (.int .i64 0), (.int .i64 0), (.int .i64 0), (.int .i64 0), (.int .i64 0), (.int .i64 0), (.int .i64 0), (.int .i64 0), (.int .i64 0), (.int .i64 0), (.int .i64 0), (.int .i64 0), (.int .i64 0), (.int .i64 0), (.int .i64 0), (.int .i64 0), (.int .i64 0), (.int .i64 0), (.int .i64 0), (.int .i64 0), (.int .i64 0), (.int .i64 0), (.int .i64 0), (.int .i64 0), (.int .i64 0), (.int .i64 0), (.int .i64 0), (.int .i64 0), (.int .i64 0), (.int .i64 0), (.int .i64 0), (.int .i64 0), (.int .i64 0), (.int .i64 0), (.int .i64 0), (.int .i64 0), (.int .i64 0), (.int .i64 0), (.int .i64 0), (.int .i64 0), (.int .i64 0), (.int .i64 0), (.int .i64 0), (.int .i64 0), (.int .i64 0), (.int .i64 0), (.int .i64 0), (.int .i64 0), (.int .i64 0), (.int .i64 0), (.int .i64 0), (.int .i64 0), (.int .i64 0), (.int .i64 0), (.int .i64 0), (.int .i64 0), (.int .i64 0), (.int .i64 0), (.int .i64 0), (.int .i64 0), (.int .i64 0), (.int .i64 0), (.int .i64 0), (.int .i64 0), (.int .i64 0), (.int .i64 0), (.int .i64 0), (.int .i64 0), (.int .i64 0), (.int .i64 0), (.int .i64 0), (.int .i64 0), (.int .i64 0), (.int .i64 0), (.int .i64 0), (.int .i64 0), (.int .i64 0), (.int .i64 0), (.int .i64 0), (.int .i64 0), (.int .i64 0), (.int .i64 0), (.int .i64 0), (.int .i64 0), (.int .i64 0), (.int .i64 0), (.int .i64 0), (.int .i64 0), (.int .i64 0), (.int .i64 0), (.int .i64 0), (.int .i64 0), (.int .i64 0), (.int .i64 0), (.int .i64 0), (.int .i64 0), (.int .i64 0), (.int .i64 0), (.int .i64 0), (.int .i64 0), (.int .i64 0), (.int .i64 0), (.int .i64 0), (.int .i64 0), (.int .i64 0), (.int .i64 0), (.int .i64 0), (.int .i64 0), (.int .i64 0), (.int .i64 0), (.int .i64 0), (.int .i64 0), (.int .i64 0), (.int .i64 0), (.int .i64 0), (.int .i64 0), (.int .i64 0), (.int .i64 0), (.int .i64 0), (.int .i64 0), (.int .i64 0), (.int .i64 0), (.int .i64 0), (.int .i64 0), (.int .i64 0), (.int .i64 0), (.int .i64 0), (.int .i64 0), (.int .i64 0), (.int .i64 0), (.int .i64 0), (.int .i64 0), (.int .i64 0), (.int .i64 0), (.int .i64 0), (.int .i64 0), (.int .i64 0), (.int .i64 0), (.int .i64 0), (.int .i64 0), (.int .i64 0), (.int .i64 0), (.int .i64 0), (.int .i64 0), (.int .i64 0), (.int .i64 0), (.int .i64 0), (.int .i64 0), (.int .i64 0), (.int .i64 0), (.int .i64 0), (.int .i64 0), (.int .i64 0), (.int .i64 0), (.int .i64 0), (.int .i64 0), (.int .i64 0), (.int .i64 0), (.int .i64 0), (.int .i64 0), (.int .i64 0), (.int .i64 0), (.int .i64 0), (.int .i64 0), (.int .i64 0), (.int .i64 0), (.int .i64 0), (.int .i64 0), (.int .i64 0), (.int .i64 0), (.int .i64 0), (.int .i64 0), (.int .i64 0), (.int .i64 0), (.int .i64 0), (.int .i64 0), (.int .i64 0), (.int .i64 0), (.int .i64 0), (.int .i64 0), (.int .i64 0), (.int .i64 0), (.int .i64 0), (.int .i64 0), (.int .i64 0), (.int .i64 0), (.int .i64 0), (.int .i64 0), (.int .i64 0), (.int .i64 0), (.int .i64 0), (.int .i64 0), (.int .i64 0), (.int .i64 0), (.int .i64 0), (.int .i64 0), (.int .i64 0), (.int .i64 0), (.int .i64 0), (.int .i64 0), (.int .i64 0), (.int .i64 0), (.int .i64 0), (.int .i64 0), (.int .i64 0), (.int .i64 0), (.int .i64 0), (.int .i64 0), (.int .i64 0), (.int .i64 0), (.int .i64 0), (.int .i64 0), (.int .i64 0), (.int .i64 0), (.int .i64 0), (.int .i64 0), (.int .i64 0), (.int .i64 0), (.int .i64 0), (.int .i64 0), (.int .i64 0), (.int .i64 0), (.int .i64 0), (.int .i64 0), (.int .i64 0), (.int .i64 0), (.int .i64 0), (.int .i64 0), (.int .i64 0), (.int .i64 0), (.int .i64 0), (.int .i64 0), (.int .i64 0), (.int .i64 0), (.int .i64 0), (.int .i64 0), (.int .i64 0), (.int .i64 0), (.int .i64 0), (.int .i64 0), (.int .i64 0), (.int .i64 0), (.int .i64 0), (.int .i64 0), (.int .i64 0), (.int .i64 0), (.int .i64 0), (.int .i64 0), (.int .i64 0), (.int .i64 0), (.int .i64 0), (.int .i64 0), (.int .i64 0), (.int .i64 0), (.int .i64 0), (.int .i64 0), (.int .i64 0), (.int .i64 0), (.int .i64 0), (.int .i64 0), (.int .i64 0), (.int .i64 0), (.int .i64 0), (.int .i64 0), (.int .i64 0), (.int .i64 0), (.int .i64 0), (.int .i64 0), (.int .i64 0), (.int .i64 0), (.int .i64 0), (.int .i64 0), (.int .i64 0), (.int .i64 0), (.int .i64 0), (.int .i64 0), (.int .i64 0), (.int .i64 0), (.int .i64 0), (.int .i64 0), (.int .i64 0), (.int .i64 0), (.int .i64 0), (.int .i64 0), (.int .i64 0), (.int .i64 0), (.int .i64 0), (.int .i64 0), (.int .i64 0), (.int .i64 0), (.int .i64 0), (.int .i64 0), (.int .i64 0), (.int .i64 0), (.int .i64 0), (.int .i64 0), (.int .i64 0), (.int .i64 0), (.int .i64 0), (.int .i64 0), (.int .i64 0), (.int .i64 0), (.int .i64 0), (.int .i64 0), (.int .i64 0), (.int .i64 0), (.int .i64 0), (.int .i64 0), (.int .i64 0), (.int .i64 0), (.int .i64 0), (.int .i64 0), (.int .i64 0), (.int .i64 0), (.int .i64 0), (.int .i64 0), (.int .i64 0), (.int .i64 0), (.int .i64 0), (.int .i64 0), (.int .i64 0), (.int .i64 0), (.int .i64 0), (.int .i64 0), (.int .i64 0), (.int .i64 0), (.int .i64 0), (.int .i64 0), (.int .i64 0), (.int .i64 0), (.int .i64 0), (.int .i64 0), (.int .i64 0), (.int .i64 0)] := by kernel_rfl
theorem sz148 : szOf Try.prog 148 = some 1027 := by kernel_rfl
theorem mkk92 : makeK Try.prog 92 = none := by kernel_rfl
theorem cal92 : callable Try.prog 92 = true := by kernel_rfl
theorem off148_3 : fieldOff Try.prog 148 3 = some 1026 := by kernel_rfl
theorem off148_2 : fieldOff Try.prog 148 2 = some 1025 := by kernel_rfl
theorem off148_0 : fieldOff Try.prog 148 0 = some 0 := by kernel_rfl
theorem els146 : elems Try.prog 146 = some (.arr 1024 1) := by kernel_rfl
theorem off148_1 : fieldOff Try.prog 148 1 = some 1024 := by kernel_rfl
theorem agg32 : aggSize Try.prog 32 = some none := by kernel_rfl
theorem lenk32 : lenK Try.prog 32 = some .sl := by kernel_rfl
theorem zer36 : zerosOf Try.prog 36 = some [(.int .i64 0), (.int .i64 0), (.int .i64 0)] := by kernel_rfl
theorem pls36 : placesOf Try.prog 36 = some (.st [(0, 1), (1, 1), (2, 1)]) := by kernel_rfl
theorem elt32 : sliceElt Try.prog 32 = some (⟨3, 24, [(.int .i64 0), (.int .i64 0), (.int .i64 0)], 36⟩ : Elt) := by kernel_rfl
theorem appt32_32 : appT Try.prog 32 32 = some (⟨3, 24, [(.int .i64 0), (.int .i64 0), (.int .i64 0)], 36⟩ : Elt) := by kernel_rfl
theorem sz32 : szOf Try.prog 32 = some 1 := by kernel_rfl
theorem els32 : elems Try.prog 32 = some (.sl 3) := by kernel_rfl
theorem off36_1 : fieldOff Try.prog 36 1 = some 1 := by kernel_rfl
theorem off36_2 : fieldOff Try.prog 36 2 = some 2 := by kernel_rfl
theorem plan31_1_1_0_1_0_1_0_1_1_1_0_1 : planOf Try.prog (opsC (atC Try.prog 31 [1, 1, 0, 1, 0, 1, 0, 1, 1, 1, 0, 1])) = some [.fl 0, .fl 1, .fl 2, .fl 3, .fl 4, .fl 5, .fl 6, .fl 7, .fl 8, .fl 9, .fl 10, .an 11 [], .sync] := by kernel_rfl
theorem plan92_1_1 : planOf Try.prog (opsC (atC Try.prog 92 [1, 1])) = some [.fl 0, .fl 1, .fl 2, .fl 3, .fl 4, .fl 5, .fl 6, .fl 7, .fl 8, .fl 9, .fl 10, .fl 11, .fl 12, .an 13 [], .sync] := by kernel_rfl
theorem plan92_1_0 : planOf Try.prog (opsC (atC Try.prog 92 [1, 0])) = some [.fl 0, .fl 1, .fl 2, .fl 3, .fl 4, .fl 5, .fl 6, .fl 7, .fl 8, .fl 9, .fl 10, .an 11 [], .sync] := by kernel_rfl
theorem plan92_0 : planOf Try.prog (opsC (atC Try.prog 92 [0])) = some [.fl 0, .fl 1, .fl 2, .fl 3, .fl 4, .fl 5, .fl 6, .fl 7, .fl 8, .fl 9, .fl 10, .fl 11, .fl 12, .fl 13, .fl 14, .fl 15, .fl 16, .fl 17, .fl 18, .fl 19, .an 20 [], .sync] := by kernel_rfl
abbrev search_bursts_post (r : (List S_api_Burst)) : SV → Mem → Prop := fun s Me => ∃ q1, s = q1 ∧ Has (fun _ => none) Me [.vec 36 3 r.length q1 (r.flatMap enc36)]

def search_bursts_2 (F : Nat) (hd1 : (List Int) → Int → Int → Int → Int → Int → (List Int) → (List S_api_Burst) → (List Int) → Option ((List S_api_Burst))) (v10 : (List Int)) (v11 : Int) (v12 : Int) (v32 : Bool) (c22_0 : Int) (c25_0 : Int) (c34_0 : Int) (c31_0 : (List Int)) (l42 : (List S_api_Burst)) (l39 : (List Int)) : Option ((List S_api_Burst)) :=
  bif v32 then
    some l42
  else
    hd1 v10 v11 (w64 (v12 + (1 : Int))) c22_0 c25_0 c34_0 c31_0 l42 l39

theorem search_bursts_2_ok (F : Nat) (hd1 : (List Int) → Int → Int → Int → Int → Int → (List Int) → (List S_api_Burst) → (List Int) → Option ((List S_api_Burst))) (hhd1 : ∀ (v10 : (List Int)) (v11 : Int) (v12 : Int) (c22_0 : Int) (c25_0 : Int) (c34_0 : Int) (c31_0 : (List Int)) (l42 : (List S_api_Burst)) (l39 : (List Int)) (sv10 : SV) (sc31_0 : SV) (b36 : Pos) (b22 : Pos) (b25 : Pos) (b28 : Pos) (s42 : SV) (b34 : Pos) (b31 : Pos) (b37 : Pos) (b39 : Pos) (Fr : Rd) (M : Mem) (r : (List S_api_Burst)) (hv10 : Slc Fr 1 (FlatR enc3) sv10 v10) (hc31_0 : Slc Fr 1 (FlatR enc3) sc31_0 c31_0) (hH : Has Fr M [.obj b36 (.loop ⟨.ready, none, 31, 61, treeOf [(4, (.ptr b22 0)), (5, (.ptr b25 0)), (6, .nils), (7, (.ptr b28 0)), (13, (.fn (.func 91) [] [(.ptr b34 0), (.ptr b31 0)]))], [14, 15], (atC Try.prog 31 [1, 1, 0, 1, 0, 0]), (atC Try.prog 31 [1, 1, 0, 1, 0, 1]), b37⟩), .obj b22 (.row 3 .whole [(.int .i64 c22_0)]), .obj b25 (.row 3 .whole [(.int .i64 c25_0)]), .obj b28 (.row 32 .whole [s42]), .vec 36 3 l42.length s42 (l42.flatMap enc36), .obj b34 (.row 3 .whole [(.int .i64 c34_0)]), .obj b31 (.row 22 .whole [sc31_0]), .obj b37 .defd, .obj b39 (.row 148 .whole (l39.flatMap enc3))]), hd1 v10 v11 v12 c22_0 c25_0 c34_0 c31_0 l42 l39 = some r → Run Try.prog ⟨⟨91, [], none⟩, [.mk ⟨31, [b37], none⟩ 61 (treeOf [(7, (.ptr b28 0))]) [.inRange b36, .inBlock 0, codeC Try.prog 31 [1, 1, 1]]]⟩ 34 (search_bursts_post r) [(0, (.yield b36)), (1, (.ptr b34 0)), (4, (.ptr b39 0)), (10, sv10), (11, (.int .i64 v11)), (12, (.int .i64 v12))] [codeC Try.prog 91 [1, 1, 0, 0], loopC Try.prog 91 [1, 1, 0, 0], .inBlock 0] M) : ∀ (v10 : (List Int)) (v11 : Int) (v12 : Int) (v32 : Bool) (c22_0 : Int) (c25_0 : Int) (c34_0 : Int) (c31_0 : (List Int)) (l42 : (List S_api_Burst)) (l39 : (List Int)) (sv10 : SV) (sc31_0 : SV) (b36 : Pos) (b22 : Pos) (b25 : Pos) (b28 : Pos) (s42 : SV) (b34 : Pos) (b31 : Pos) (b37 : Pos) (b39 : Pos) (Fr : Rd) (M : Mem) (r : (List S_api_Burst)) (hv10 : Slc Fr 1 (FlatR enc3) sv10 v10) (hc31_0 : Slc Fr 1 (FlatR enc3) sc31_0 c31_0) (hH : Has Fr M [.obj b36 (.loop ⟨.ready, none, 31, 61, treeOf [(4, (.ptr b22 0)), (5, (.ptr b25 0)), (6, .nils), (7, (.ptr b28 0)), (13, (.fn (.func 91) [] [(.ptr b34 0), (.ptr b31 0)]))], [14, 15], (atC Try.prog 31 [1, 1, 0, 1, 0, 0]), (atC Try.prog 31 [1, 1, 0, 1, 0, 1]), b37⟩), .obj b22 (.row 3 .whole [(.int .i64 c22_0)]), .obj b25 (.row 3 .whole [(.int .i64 c25_0)]), .obj b28 (.row 32 .whole [s42]), .vec 36 3 l42.length s42 (l42.flatMap enc36), .obj b34 (.row 3 .whole [(.int .i64 c34_0)]), .obj b31 (.row 22 .whole [sc31_0]), .obj b37 .defd, .obj b39 (.row 148 .whole (l39.flatMap enc3))]), search_bursts_2 F hd1 v10 v11 v12 v32 c22_0 c25_0 c34_0 c31_0 l42 l39 = some r → Run Try.prog ⟨⟨91, [], none⟩, [.mk ⟨31, [b37], none⟩ 61 (treeOf [(7, (.ptr b28 0))]) [.inRange b36, .inBlock 0, codeC Try.prog 31 [1, 1, 1]]]⟩ 34 (search_bursts_post r) [(0, (.yield b36)), (1, (.ptr b34 0)), (4, (.ptr b39 0)), (10, sv10), (11, (.int .i64 v11)), (12, (.int .i64 v12)), (32, (.bool v32))] [codeC Try.prog 91 [1, 1, 0, 0, 1, 1, 0, 0, 1, 1, 1, 1], .inBlock 1, codeC Try.prog 91 [1, 1, 0, 0, 1, 1, 1], loopC Try.prog 91 [1, 1, 0, 0], .inBlock 0] M := by
  intro v10 v11 v12 v32 c22_0 c25_0 c34_0 c31_0 l42 l39 sv10 sc31_0 b36 b22 b25 b28 s42 b34 b31 b37 b39 Fr M r hv10 hc31_0 hH h
  rw [search_bursts_2] at h
  rcases btf (v32) with hc68 | hc68
  · have h := bif_t hc68 h
    refine Run.condT' rfl hc68 ?_
    refine Run.retRange Try.func91 rfl res_nil ?_
    refine Run.endX hH (i := 0) rfl (fun hc => by cases hc) ?_
    intro M69 (hH69 : Has Fr M69 [.obj b36 (.loop ⟨.exhausted, none, 31, 61, treeOf [(4, (.ptr b22 0)), (5, (.ptr b25 0)), (6, .nils), (7, (.ptr b28 0)), (13, (.fn (.func 91) [] [(.ptr b34 0), (.ptr b31 0)]))], [14, 15], (atC Try.prog 31 [1, 1, 0, 1, 0, 0]), (atC Try.prog 31 [1, 1, 0, 1, 0, 1]), b37⟩), .obj b22 (.row 3 .whole [(.int .i64 c22_0)]), .obj b25 (.row 3 .whole [(.int .i64 c25_0)]), .obj b28 (.row 32 .whole [s42]), .vec 36 3 l42.length s42 (l42.flatMap enc36), .obj b34 (.row 3 .whole [(.int .i64 c34_0)]), .obj b31 (.row 22 .whole [sc31_0]), .obj b37 .defd, .obj b39 (.row 148 .whole (l39.flatMap enc3))])
    refine Run.inBlock (Run.seq (Run.region ?_))
    refine Run.opG wantS_none (ex_load1 rfl (hH69.cells (i := 3) rfl 0 rfl) rdLe_rfl agg32) rfl ?_
    refine Run.opG wantS_none (ex_assign rfl) rfl ?_
    refine Run.opsEnd ?_
    obtain ⟨hH70x, hS70⟩ := hH69.shut (i := 7) (ds := []) rfl
    have hH70 : Has Fr (setT M69 b37 none) [.obj b36 (.loop ⟨.exhausted, none, 31, 61, treeOf [(4, (.ptr b22 0)), (5, (.ptr b25 0)), (6, .nils), (7, (.ptr b28 0)), (13, (.fn (.func 91) [] [(.ptr b34 0), (.ptr b31 0)]))], [14, 15], (atC Try.prog 31 [1, 1, 0, 1, 0, 0]), (atC Try.prog 31 [1, 1, 0, 1, 0, 1]), b37⟩), .obj b22 (.row 3 .whole [(.int .i64 c22_0)]), .obj b25 (.row 3 .whole [(.int .i64 c25_0)]), .obj b28 (.row 32 .whole [s42]), .vec 36 3 l42.length s42 (l42.flatMap enc36), .obj b34 (.row 3 .whole [(.int .i64 c34_0)]), .obj b31 (.row 22 .whole [sc31_0]), .vec 0 0 0 .nils [], .obj b39 (.row 148 .whole (l39.flatMap enc3))] := hH70x
    cases h
    exact Run.ret Try.func31 (hS70 _ rfl) (res_tmp rfl res_nil) ⟨_, rfl, (hH70.pick [4] rfl rfl).upF (none_le _)⟩
  · have h := bif_f hc68 h
    refine Run.condF' rfl hc68 ?_
    refine Run.skip (Run.inBlock (Run.region ?_))
    refine Run.opG wantS_none (ex_add rfl rfl) rfl ?_
    refine Run.opG wantS_none (ex_move rfl) rfl ?_
    refine Run.opsEnd (Run.inLoop ?_)
    exact Run.low (.cons (fle_pick [7] rfl) .nil) (Run.pick [0, 1, 4, 10, 11, 12] (hhd1 v10 v11 (w64 (v12 + (1 : Int))) c22_0 c25_0 c34_0 c31_0 l42 l39 sv10 sc31_0 b36 b22 b25 b28 s42 b34 b31 b37 b39 _ _ _ hv10 hc31_0 hH h))

def search_bursts_3 (F : Nat) (hd1 : (List Int) → Int → Int → Int → Int → Int → (List Int) → (List S_api_Burst) → (List Int) → Option ((List S_api_Burst))) (v8 : Int) (v9 : Int) (v10 : Int) (v32 : Bool) (v10_f1 : (List Int)) (v11_f1 : Int) (v12_f1 : Int) (v25_f1 : Bool) (c22_0 : Int) (c25_0 : Int) (c34_0 : Int) (c31_0 : (List Int)) (l42 : (List S_api_Burst)) (l39 : (List Int)) : Option ((List S_api_Burst)) :=
  bif v32 then
    bnd (inn l42 v10) fun o77 =>
    bnd (l42[o77]?) fun x79 =>
    bnd (upd l42 o77 (S_api_Burst.mk x79.From (w64 (v8 + c22_0)) x79.Peak)) fun l79 =>
    bnd (idx l79 v10) fun x81 =>
    bnd (inn l79 v10) fun o82 =>
    bnd (l79[o82]?) fun x83 =>
    bnd (upd l79 o82 (S_api_Burst.mk x83.From x83.To (max x81.Peak v9))) fun l83 =>
    bif v25_f1 then
      search_bursts_2 F hd1 v10_f1 v11_f1 v12_f1 (!true) c22_0 c25_0 c34_0 c31_0 l83 l39
    else
      search_bursts_2 F hd1 v10_f1 v11_f1 v12_f1 false c22_0 c25_0 c34_0 c31_0 l83 l39
  else
    bnd (apd 24 l42 ([(S_api_Burst.mk v8 (w64 (v8 + c22_0)) v9)] : List S_api_Burst)) fun l92 =>
    bif v25_f1 then
      search_bursts_2 F hd1 v10_f1 v11_f1 v12_f1 (!true) c22_0 c25_0 c34_0 c31_0 l92 l39
    else
      search_bursts_2 F hd1 v10_f1 v11_f1 v12_f1 false c22_0 c25_0 c34_0 c31_0 l92 l39

theorem search_bursts_3_ok (F : Nat) (hd1 : (List Int) → Int → Int → Int → Int → Int → (List Int) → (List S_api_Burst) → (List Int) → Option ((List S_api_Burst))) (hhd1 : ∀ (v10 : (List Int)) (v11 : Int) (v12 : Int) (c22_0 : Int) (c25_0 : Int) (c34_0 : Int) (c31_0 : (List Int)) (l42 : (List S_api_Burst)) (l39 : (List Int)) (sv10 : SV) (sc31_0 : SV) (b36 : Pos) (b22 : Pos) (b25 : Pos) (b28 : Pos) (s42 : SV) (b34 : Pos) (b31 : Pos) (b37 : Pos) (b39 : Pos) (Fr : Rd) (M : Mem) (r : (List S_api_Burst)) (hv10 : Slc Fr 1 (FlatR enc3) sv10 v10) (hc31_0 : Slc Fr 1 (FlatR enc3) sc31_0 c31_0) (hH : Has Fr M [.obj b36 (.loop ⟨.ready, none, 31, 61, treeOf [(4, (.ptr b22 0)), (5, (.ptr b25 0)), (6, .nils), (7, (.ptr b28 0)), (13, (.fn (.func 91) [] [(.ptr b34 0), (.ptr b31 0)]))], [14, 15], (atC Try.prog 31 [1, 1, 0, 1, 0, 0]), (atC Try.prog 31 [1, 1, 0, 1, 0, 1]), b37⟩), .obj b22 (.row 3 .whole [(.int .i64 c22_0)]), .obj b25 (.row 3 .whole [(.int .i64 c25_0)]), .obj b28 (.row 32 .whole [s42]), .vec 36 3 l42.length s42 (l42.flatMap enc36), .obj b34 (.row 3 .whole [(.int .i64 c34_0)]), .obj b31 (.row 22 .whole [sc31_0]), .obj b37 .defd, .obj b39 (.row 148 .whole (l39.flatMap enc3))]), hd1 v10 v11 v12 c22_0 c25_0 c34_0 c31_0 l42 l39 = some r → Run Try.prog ⟨⟨91, [], none⟩, [.mk ⟨31, [b37], none⟩ 61 (treeOf [(7, (.ptr b28 0))]) [.inRange b36, .inBlock 0, codeC Try.prog 31 [1, 1, 1]]]⟩ 34 (search_bursts_post r) [(0, (.yield b36)), (1, (.ptr b34 0)), (4, (.ptr b39 0)), (10, sv10), (11, (.int .i64 v11)), (12, (.int .i64 v12))] [codeC Try.prog 91 [1, 1, 0, 0], loopC Try.prog 91 [1, 1, 0, 0], .inBlock 0] M) : ∀ (v8 : Int) (v9 : Int) (v10 : Int) (v32 : Bool) (v10_f1 : (List Int)) (v11_f1 : Int) (v12_f1 : Int) (v25_f1 : Bool) (c22_0 : Int) (c25_0 : Int) (c34_0 : Int) (c31_0 : (List Int)) (l42 : (List S_api_Burst)) (l39 : (List Int)) (sv10_f1 : SV) (sc31_0 : SV) (b22 : Pos) (b28 : Pos) (s42 : SV) (b36 : Pos) (b25 : Pos) (b34 : Pos) (b31 : Pos) (b37 : Pos) (b39 : Pos) (Fr : Rd) (M : Mem) (r : (List S_api_Burst)) (hv10_f1 : Slc Fr 1 (FlatR enc3) sv10_f1 v10_f1) (hc31_0 : Slc Fr 1 (FlatR enc3) sc31_0 c31_0) (hH : Has Fr M [.obj b22 (.row 3 .whole [(.int .i64 c22_0)]), .obj b28 (.row 32 .whole [s42]), .vec 36 3 l42.length s42 (l42.flatMap enc36), .obj b36 (.loop ⟨.busy, none, 31, 61, treeOf [(4, (.ptr b22 0)), (5, (.ptr b25 0)), (6, .nils), (7, (.ptr b28 0)), (13, (.fn (.func 91) [] [(.ptr b34 0), (.ptr b31 0)]))], [14, 15], (atC Try.prog 31 [1, 1, 0, 1, 0, 0]), (atC Try.prog 31 [1, 1, 0, 1, 0, 1]), b37⟩), .obj b25 (.row 3 .whole [(.int .i64 c25_0)]), .obj b34 (.row 3 .whole [(.int .i64 c34_0)]), .obj b31 (.row 22 .whole [sc31_0]), .obj b37 .defd, .obj b39 (.row 148 .whole (l39.flatMap enc3))]), search_bursts_3 F hd1 v8 v9 v10 v32 v10_f1 v11_f1 v12_f1 v25_f1 c22_0 c25_0 c34_0 c31_0 l42 l39 = some r → Run Try.prog ⟨⟨31, [], some b36⟩, [.mk ⟨91, [], none⟩ 34 (treeOf [(0, (.yield b36)), (1, (.ptr b34 0)), (4, (.ptr b39 0)), (10, sv10_f1), (11, (.int .i64 v11_f1)), (12, (.int .i64 v12_f1)), (25, (.bool v25_f1))]) [itemC Try.prog 91 [1, 1, 0, 0, 1, 1, 0, 0, 1, 1, 1, 0] 7, codeC Try.prog 91 [1, 1, 0, 0, 1, 1, 0, 0, 1, 1, 1, 1], .inBlock 1, codeC Try.prog 91 [1, 1, 0, 0, 1, 1, 1], loopC Try.prog 91 [1, 1, 0, 0], .inBlock 0], .mk ⟨31, [b37], none⟩ 61 (treeOf [(7, (.ptr b28 0))]) [.inRange b36, .inBlock 0, codeC Try.prog 31 [1, 1, 1]]]⟩ 61 (search_bursts_post r) [(4, (.ptr b22 0)), (6, .nils), (7, (.ptr b28 0)), (8, (.int .i64 v8)), (9, (.int .i64 v9)), (10, (.int .i64 v10)), (32, (.bool v32))] [codeC Try.prog 31 [1, 1, 0, 1, 0, 1, 0, 1, 1, 1], .inBlock 1] M := by
  intro v8 v9 v10 v32 v10_f1 v11_f1 v12_f1 v25_f1 c22_0 c25_0 c34_0 c31_0 l42 l39 sv10_f1 sc31_0 b22 b28 s42 b36 b25 b34 b31 b37 b39 Fr M r hv10_f1 hc31_0 hH h
  rw [search_bursts_3] at h
  rcases btf (v32) with hc75 | hc75
  · have h := bif_t hc75 h
    refine Run.condT' rfl hc75 ?_
    refine Run.seq (Run.region ?_)
    refine Run.opG wantS_none (ex_load1 rfl (hH.cells (i := 1) rfl 0 rfl) rdLe_rfl agg32) rfl ?_
    refine Run.opG wantS_none (ex_move rfl) rfl ?_
    refine Run.opG wantS_none (ex_move rfl) rfl ?_
    refine Run.opG wantS_none (ex_load1 rfl (hH.cells (i := 0) rfl 0 rfl) rdLe_rfl agg3) rfl ?_
    refine Run.opG wantS_none (ex_add rfl rfl) rfl ?_
    obtain ⟨o77, ho77, h⟩ := bnd_some h
    obtain ⟨p77, hb77, hx77⟩ := vec_place (P := Try.prog) (t := 32) (kk := .i64) hH (i := 2) rfl ho77 els32
    refine Run.opG wantS_none (ex_elX rfl rfl hx77) rfl ?_
    refine Run.opG wantS_none (ex_fieldAddr rfl off36_1) rfl ?_
    obtain ⟨x79, hx79, h⟩ := bnd_some h
    obtain ⟨l79, hl79, h⟩ := bnd_some h
    refine Run.opX wantS_none rfl (ExG.storeFld (o := 1) rfl rfl hH (i := 2) rfl hb77 hx79 hl79 sz3 rfl rfl rfl rfl enc36_len) ?_
    rintro _ M80 ⟨rfl, (hH80 : Has Fr M80 [.obj b22 (.row 3 .whole [(.int .i64 c22_0)]), .obj b28 (.row 32 .whole [s42]), .vec 36 3 l79.length s42 (l79.flatMap enc36), .obj b36 (.loop ⟨.busy, none, 31, 61, treeOf [(4, (.ptr b22 0)), (5, (.ptr b25 0)), (6, .nils), (7, (.ptr b28 0)), (13, (.fn (.func 91) [] [(.ptr b34 0), (.ptr b31 0)]))], [14, 15], (atC Try.prog 31 [1, 1, 0, 1, 0, 0]), (atC Try.prog 31 [1, 1, 0, 1, 0, 1]), b37⟩), .obj b25 (.row 3 .whole [(.int .i64 c25_0)]), .obj b34 (.row 3 .whole [(.int .i64 c34_0)]), .obj b31 (.row 22 .whole [sc31_0]), .obj b37 .defd, .obj b39 (.row 148 .whole (l39.flatMap enc3))])⟩
    refine Run.opsEnd ?_
    refine Run.drawG plan31_1_1_0_1_0_1_0_1_1_1_0_1 ?_
    refine DrawG.fl rfl (ev_ex wantS_none (ex_load1 rfl (hH80.cells (i := 1) rfl 0 rfl) rdLe_rfl agg32)) rfl ?_
    refine DrawG.fl rfl (ev_ex wantS_none (ex_move rfl)) rfl ?_
    refine DrawG.fl rfl (ev_ex wantS_none (ex_load1 rfl (hH80.cells (i := 1) rfl 0 rfl) rdLe_rfl agg32)) rfl ?_
    refine DrawG.fl rfl (ev_ex wantS_none (ex_move rfl)) rfl ?_
    obtain ⟨x81, hx81, h⟩ := bnd_some h
    obtain ⟨p81, o81, hb81, hx81, he81⟩ := vec_elem (P := Try.prog) (t := 32) (kk := .i64) hH80 (i := 2) rfl hx81 els32
    refine DrawG.fl rfl (ev_ex wantS_none (ex_elX rfl rfl hx81)) rfl ?_
    refine DrawG.fl rfl (ev_ex wantS_none (ex_fieldAddr rfl off36_2)) rfl ?_
    refine DrawG.fl rfl (ev_ex wantS_none (ex_load1 rfl ((hH80.at (enc := enc36) (a := x81) (i := 2) rfl hb81 he81 enc36_len).fld (o := 2) rfl) rdLe_rfl agg3)) rfl ?_
    refine DrawG.fl rfl (ev_ex wantS_none (ex_move rfl)) rfl ?_
    refine DrawG.fl rfl (ev_ex wantS_none (ex_max rfl rfl)) rfl ?_
    obtain ⟨o82, ho82, h⟩ := bnd_some h
    obtain ⟨p82, hb82, hx82⟩ := vec_place (P := Try.prog) (t := 32) (kk := .i64) hH80 (i := 2) rfl ho82 els32
    refine DrawG.fl rfl (ev_ex wantS_none (ex_elX rfl rfl hx82)) rfl ?_
    refine DrawG.fl rfl (ev_ex wantS_none (ex_fieldAddr rfl off36_2)) rfl ?_
    obtain ⟨x83, hx83, h⟩ := bnd_some h
    obtain ⟨l83, hl83, h⟩ := bnd_some h
    refine DrawG.opX rfl wantS_none rfl (ExG.storeFld (o := 2) rfl rfl hH80 (i := 2) rfl hb82 hx83 hl83 sz3 rfl rfl rfl rfl enc36_len) ?_
    rintro _ M84 ⟨rfl, (hH84 : Has Fr M84 [.obj b22 (.row 3 .whole [(.int .i64 c22_0)]), .obj b28 (.row 32 .whole [s42]), .vec 36 3 l83.length s42 (l83.flatMap enc36), .obj b36 (.loop ⟨.busy, none, 31, 61, treeOf [(4, (.ptr b22 0)), (5, (.ptr b25 0)), (6, .nils), (7, (.ptr b28 0)), (13, (.fn (.func 91) [] [(.ptr b34 0), (.ptr b31 0)]))], [14, 15], (atC Try.prog 31 [1, 1, 0, 1, 0, 0]), (atC Try.prog 31 [1, 1, 0, 1, 0, 1]), b37⟩), .obj b25 (.row 3 .whole [(.int .i64 c25_0)]), .obj b34 (.row 3 .whole [(.int .i64 c34_0)]), .obj b31 (.row 22 .whole [sc31_0]), .obj b37 .defd, .obj b39 (.row 148 .whole (l39.flatMap enc3))])⟩
    refine ⟨st_nil, ?_⟩
    refine DrawG.sync ?_
    refine DrawG.nil ?_
    refine Run.inBlock ?_
    refine Run.roundEndX hH84 (i := 3) rfl rfl ?_
    intro M85 (hH85 : Has Fr M85 [.obj b22 (.row 3 .whole [(.int .i64 c22_0)]), .obj b28 (.row 32 .whole [s42]), .vec 36 3 l83.length s42 (l83.flatMap enc36), .obj b36 (.loop ⟨.ready, none, 31, 61, treeOf [(4, (.ptr b22 0)), (5, (.ptr b25 0)), (6, .nils), (7, (.ptr b28 0)), (13, (.fn (.func 91) [] [(.ptr b34 0), (.ptr b31 0)]))], [14, 15], (atC Try.prog 31 [1, 1, 0, 1, 0, 0]), (atC Try.prog 31 [1, 1, 0, 1, 0, 1]), b37⟩), .obj b25 (.row 3 .whole [(.int .i64 c25_0)]), .obj b34 (.row 3 .whole [(.int .i64 c34_0)]), .obj b31 (.row 22 .whole [sc31_0]), .obj b37 .defd, .obj b39 (.row 148 .whole (l39.flatMap enc3))])
    rcases btf (v25_f1) with hc86 | hc86
    · have h := bif_t hc86 h
      refine Run.opG (wantS_yes' rfl rfl hc86) (ex_not rfl) rfl ?_
      refine Run.opG wantS_none (ex_pickT' rfl hc86 rfl rfl) rfl ?_
      refine Run.opsEnd ?_
      exact Run.low (.cons (fle_pick [7] rfl) .nil) (Run.pick [0, 1, 4, 10, 11, 12, 32] (search_bursts_2_ok F hd1 hhd1 v10_f1 v11_f1 v12_f1 (!true) c22_0 c25_0 c34_0 c31_0 l83 l39 sv10_f1 sc31_0 b36 b22 b25 b28 s42 b34 b31 b37 b39 _ _ _ hv10_f1 hc31_0 (hH85.pick [3, 0, 4, 1, 2, 5, 6, 7, 8] rfl rfl) h))
    · have h := bif_f hc86 h
      refine Run.no (wantS_not' rfl rfl hc86) rfl ?_
      refine Run.opG wantS_none (ex_pickF' rfl hc86 rfl rfl) rfl ?_
      refine Run.opsEnd ?_
      exact Run.low (.cons (fle_pick [7] rfl) .nil) (Run.pick [0, 1, 4, 10, 11, 12, 32] (search_bursts_2_ok F hd1 hhd1 v10_f1 v11_f1 v12_f1 false c22_0 c25_0 c34_0 c31_0 l83 l39 sv10_f1 sc31_0 b36 b22 b25 b28 s42 b34 b31 b37 b39 _ _ _ hv10_f1 hc31_0 (hH85.pick [3, 0, 4, 1, 2, 5, 6, 7, 8] rfl rfl) h))
  · have h := bif_f hc75 h
    refine Run.condF' rfl hc75 ?_
    refine Run.region ?_
    refine Run.opG wantS_none (ex_load1 rfl (hH.cells (i := 1) rfl 0 rfl) rdLe_rfl agg32) rfl ?_
    refine Run.opG wantS_none (ex_move rfl) rfl ?_
    refine Run.opG wantS_none (ex_move rfl) rfl ?_
    refine Run.opG wantS_none (ex_load1 rfl (hH.cells (i := 0) rfl 0 rfl) rdLe_rfl agg3) rfl ?_
    refine Run.opG wantS_none (ex_add rfl rfl) rfl ?_
    refine Run.opG wantS_none (ex_move rfl) rfl ?_
    refine Run.opG wantS_none (ex_build (r := [(.int .i64 v8), (.int .i64 (w64 (v8 + c22_0))), (.int .i64 v9)]) rfl zer36 pls36 rfl) rfl ?_
    refine Run.opX wantS_none rfl (ExG.built (enc := enc36) (l := ([(S_api_Burst.mk v8 (w64 (v8 + c22_0)) v9)] : List S_api_Burst)) (z := 3) rfl elt32 rfl rfl rfl enc36_len hH) ?_
    rintro s88 M89 (hH89 : Has Fr M89 [.vec 36 3 ([(S_api_Burst.mk v8 (w64 (v8 + c22_0)) v9)] : List S_api_Burst).length s88 (([(S_api_Burst.mk v8 (w64 (v8 + c22_0)) v9)] : List S_api_Burst).flatMap enc36), .obj b22 (.row 3 .whole [(.int .i64 c22_0)]), .obj b28 (.row 32 .whole [s42]), .vec 36 3 l42.length s42 (l42.flatMap enc36), .obj b36 (.loop ⟨.busy, none, 31, 61, treeOf [(4, (.ptr b22 0)), (5, (.ptr b25 0)), (6, .nils), (7, (.ptr b28 0)), (13, (.fn (.func 91) [] [(.ptr b34 0), (.ptr b31 0)]))], [14, 15], (atC Try.prog 31 [1, 1, 0, 1, 0, 0]), (atC Try.prog 31 [1, 1, 0, 1, 0, 1]), b37⟩), .obj b25 (.row 3 .whole [(.int .i64 c25_0)]), .obj b34 (.row 3 .whole [(.int .i64 c34_0)]), .obj b31 (.row 22 .whole [sc31_0]), .obj b37 .defd, .obj b39 (.row 148 .whole (l39.flatMap enc3))])
    obtain ⟨l92, hl92, h⟩ := bnd_some h
    refine Run.opX wantS_none rfl (ExG.append rfl rfl hH89 (i := 3) rfl enc36_len rfl enc36_ones appt32_32 rfl (len_slc (hH89.slc (i := 0) rfl enc36_len)) (first_slc (hH89.slc (i := 0) rfl enc36_len) (rdLe_rdRow _) enc36_len) hl92) ?_
    rintro s92 M94 (hH94 : Has Fr M94 [.vec 36 3 ([(S_api_Burst.mk v8 (w64 (v8 + c22_0)) v9)] : List S_api_Burst).length s88 (([(S_api_Burst.mk v8 (w64 (v8 + c22_0)) v9)] : List S_api_Burst).flatMap enc36), .obj b22 (.row 3 .whole [(.int .i64 c22_0)]), .obj b28 (.row 32 .whole [s42]), .vec 36 3 l92.length s92 (l92.flatMap enc36), .obj b36 (.loop ⟨.busy, none, 31, 61, treeOf [(4, (.ptr b22 0)), (5, (.ptr b25 0)), (6, .nils), (7, (.ptr b28 0)), (13, (.fn (.func 91) [] [(.ptr b34 0), (.ptr b31 0)]))], [14, 15], (atC Try.prog 31 [1, 1, 0, 1, 0, 0]), (atC Try.prog 31 [1, 1, 0, 1, 0, 1]), b37⟩), .obj b25 (.row 3 .whole [(.int .i64 c25_0)]), .obj b34 (.row 3 .whole [(.int .i64 c34_0)]), .obj b31 (.row 22 .whole [sc31_0]), .obj b37 .defd, .obj b39 (.row 148 .whole (l39.flatMap enc3))])
    refine Run.opX wantS_none rfl (ExG.storeC (c' := [s92]) rfl rfl (cells_one (vec_one hH94 (i := 3) rfl)) hH94 (i := 2) rfl sz32 rfl rfl rfl (ones_cons (vec_one hH94 (i := 3) rfl) ones_nil) rfl) ?_
    rintro _ M95 ⟨rfl, (hH95 : Has Fr M95 [.vec 36 3 ([(S_api_Burst.mk v8 (w64 (v8 + c22_0)) v9)] : List S_api_Burst).length s88 (([(S_api_Burst.mk v8 (w64 (v8 + c22_0)) v9)] : List S_api_Burst).flatMap enc36), .obj b22 (.row 3 .whole [(.int .i64 c22_0)]), .obj b28 (.row 32 .whole [s92]), .vec 36 3 l92.length s92 (l92.flatMap enc36), .obj b36 (.loop ⟨.busy, none, 31, 61, treeOf [(4, (.ptr b22 0)), (5, (.ptr b25 0)), (6, .nils), (7, (.ptr b28 0)), (13, (.fn (.func 91) [] [(.ptr b34 0), (.ptr b31 0)]))], [14, 15], (atC Try.prog 31 [1, 1, 0, 1, 0, 0]), (atC Try.prog 31 [1, 1, 0, 1, 0, 1]), b37⟩), .obj b25 (.row 3 .whole [(.int .i64 c25_0)]), .obj b34 (.row 3 .whole [(.int .i64 c34_0)]), .obj b31 (.row 22 .whole [sc31_0]), .obj b37 .defd, .obj b39 (.row 148 .whole (l39.flatMap enc3))])⟩
    refine Run.opsEnd (Run.inBlock ?_)
    refine Run.roundEndX hH95 (i := 4) rfl rfl ?_
    intro M96 (hH96 : Has Fr M96 [.vec 36 3 ([(S_api_Burst.mk v8 (w64 (v8 + c22_0)) v9)] : List S_api_Burst).length s88 (([(S_api_Burst.mk v8 (w64 (v8 + c22_0)) v9)] : List S_api_Burst).flatMap enc36), .obj b22 (.row 3 .whole [(.int .i64 c22_0)]), .obj b28 (.row 32 .whole [s92]), .vec 36 3 l92.length s92 (l92.flatMap enc36), .obj b36 (.loop ⟨.ready, none, 31, 61, treeOf [(4, (.ptr b22 0)), (5, (.ptr b25 0)), (6, .nils), (7, (.ptr b28 0)), (13, (.fn (.func 91) [] [(.ptr b34 0), (.ptr b31 0)]))], [14, 15], (atC Try.prog 31 [1, 1, 0, 1, 0, 0]), (atC Try.prog 31 [1, 1, 0, 1, 0, 1]), b37⟩), .obj b25 (.row 3 .whole [(.int .i64 c25_0)]), .obj b34 (.row 3 .whole [(.int .i64 c34_0)]), .obj b31 (.row 22 .whole [sc31_0]), .obj b37 .defd, .obj b39 (.row 148 .whole (l39.flatMap enc3))])
    rcases btf (v25_f1) with hc97 | hc97
    · have h := bif_t hc97 h
      refine Run.opG (wantS_yes' rfl rfl hc97) (ex_not rfl) rfl ?_
      refine Run.opG wantS_none (ex_pickT' rfl hc97 rfl rfl) rfl ?_
      refine Run.opsEnd ?_
      exact Run.low (.cons (fle_pick [7] rfl) .nil) (Run.pick [0, 1, 4, 10, 11, 12, 32] (search_bursts_2_ok F hd1 hhd1 v10_f1 v11_f1 v12_f1 (!true) c22_0 c25_0 c34_0 c31_0 l92 l39 sv10_f1 sc31_0 b36 b22 b25 b28 s92 b34 b31 b37 b39 _ _ _ hv10_f1 hc31_0 (hH96.pick [4, 1, 5, 2, 3, 6, 7, 8, 9] rfl rfl) h))
    · have h := bif_f hc97 h
      refine Run.no (wantS_not' rfl rfl hc97) rfl ?_
      refine Run.opG wantS_none (ex_pickF' rfl hc97 rfl rfl) rfl ?_
      refine Run.opsEnd ?_
      exact Run.low (.cons (fle_pick [7] rfl) .nil) (Run.pick [0, 1, 4, 10, 11, 12, 32] (search_bursts_2_ok F hd1 hhd1 v10_f1 v11_f1 v12_f1 false c22_0 c25_0 c34_0 c31_0 l92 l39 sv10_f1 sc31_0 b36 b22 b25 b28 s92 b34 b31 b37 b39 _ _ _ hv10_f1 hc31_0 (hH96.pick [4, 1, 5, 2, 3, 6, 7, 8, 9] rfl rfl) h))

def search_bursts_1 (F : Nat) : Nat → (List Int) → Int → Int → Int → Int → Int → (List Int) → (List S_api_Burst) → (List Int) → Option ((List S_api_Burst))
  | 0, _, _, _, _, _, _, _, _, _ => none
  | N + 1, v10, v11, v12, c22_0, c25_0, c34_0, c31_0, l42, l39 =>
    bif (decide (v12 < v11)) then
      bnd (idx v10 v12) fun x46 =>
      bnd (l39[(1026 : Nat)]?) fun x47 =>
      bnd (l39[(1025 : Nat)]?) fun x48 =>
      bnd (inA x48 1024) fun o49 =>
      bnd (l39[((0 + o49 * 1) : Nat)]?) fun x50 =>
      bnd (upd l39 ((1026 : Nat) : Int) (w64 (x47 + (w64 ((w64 (x46 * x46)) - x50))))) fun l51 =>
      bnd (l51[(1025 : Nat)]?) fun x53 =>
      bnd (inA x53 1024) fun o54 =>
      bnd (upd l51 (((0 + o54 * 1) : Nat) : Int) (w64 (x46 * x46))) fun l55 =>
      bnd (l55[(1025 : Nat)]?) fun x57 =>
      bnd (l55[(1024 : Nat)]?) fun x58 =>
      bnd (nz x58) fun z59 =>
      bnd (upd l55 ((1025 : Nat) : Int) (Int.tmod (w64 (x57 + (1 : Int))) x58)) fun l60 =>
      bif (decide ((0 : Int) ≤ (w64 ((w64 (v12 + (1 : Int))) - c34_0)))) then
        bnd (l60[(1026 : Nat)]?) fun x64 =>
        bif (decide (x64 < c25_0)) then
          search_bursts_2 F (search_bursts_1 F N) v10 v11 v12 (!true) c22_0 c25_0 c34_0 c31_0 l42 l60
        else
          bif (decide ((0 : Int) ≤ (w64 ((l42.length : Int) - (1 : Int))))) then
            bnd (idx l42 (w64 ((l42.length : Int) - (1 : Int)))) fun x74 =>
            search_bursts_3 F (search_bursts_1 F N) (w64 ((w64 (v12 + (1 : Int))) - c34_0)) x64 (w64 ((l42.length : Int) - (1 : Int))) (decide ((w64 ((w64 (v12 + (1 : Int))) - c34_0)) ≤ x74.To)) v10 v11 v12 (decide ((0 : Int) ≤ (w64 ((w64 (v12 + (1 : Int))) - c34_0)))) c22_0 c25_0 c34_0 c31_0 l42 l60
          else
            search_bursts_3 F (search_bursts_1 F N) (w64 ((w64 (v12 + (1 : Int))) - c34_0)) x64 (w64 ((l42.length : Int) - (1 : Int))) false v10 v11 v12 (decide ((0 : Int) ≤ (w64 ((w64 (v12 + (1 : Int))) - c34_0)))) c22_0 c25_0 c34_0 c31_0 l42 l60
      else
        search_bursts_2 F (search_bursts_1 F N) v10 v11 v12 false c22_0 c25_0 c34_0 c31_0 l42 l60
    else
      some l42

theorem search_bursts_1_ok (F : Nat) : ∀ (N : Nat), ∀ (v10 : (List Int)) (v11 : Int) (v12 : Int) (c22_0 : Int) (c25_0 : Int) (c34_0 : Int) (c31_0 : (List Int)) (l42 : (List S_api_Burst)) (l39 : (List Int)) (sv10 : SV) (sc31_0 : SV) (b36 : Pos) (b22 : Pos) (b25 : Pos) (b28 : Pos) (s42 : SV) (b34 : Pos) (b31 : Pos) (b37 : Pos) (b39 : Pos) (Fr : Rd) (M : Mem) (r : (List S_api_Burst)) (hv10 : Slc Fr 1 (FlatR enc3) sv10 v10) (hc31_0 : Slc Fr 1 (FlatR enc3) sc31_0 c31_0) (hH : Has Fr M [.obj b36 (.loop ⟨.ready, none, 31, 61, treeOf [(4, (.ptr b22 0)), (5, (.ptr b25 0)), (6, .nils), (7, (.ptr b28 0)), (13, (.fn (.func 91) [] [(.ptr b34 0), (.ptr b31 0)]))], [14, 15], (atC Try.prog 31 [1, 1, 0, 1, 0, 0]), (atC Try.prog 31 [1, 1, 0, 1, 0, 1]), b37⟩), .obj b22 (.row 3 .whole [(.int .i64 c22_0)]), .obj b25 (.row 3 .whole [(.int .i64 c25_0)]), .obj b28 (.row 32 .whole [s42]), .vec 36 3 l42.length s42 (l42.flatMap enc36), .obj b34 (.row 3 .whole [(.int .i64 c34_0)]), .obj b31 (.row 22 .whole [sc31_0]), .obj b37 .defd, .obj b39 (.row 148 .whole (l39.flatMap enc3))]), search_bursts_1 F N v10 v11 v12 c22_0 c25_0 c34_0 c31_0 l42 l39 = some r → Run Try.prog ⟨⟨91, [], none⟩, [.mk ⟨31, [b37], none⟩ 61 (treeOf [(7, (.ptr b28 0))]) [.inRange b36, .inBlock 0, codeC Try.prog 31 [1, 1, 1]]]⟩ 34 (search_bursts_post r) [(0, (.yield b36)), (1, (.ptr b34 0)), (4, (.ptr b39 0)), (10, sv10), (11, (.int .i64 v11)), (12, (.int .i64 v12))] [codeC Try.prog 91 [1, 1, 0, 0], loopC Try.prog 91 [1, 1, 0, 0], .inBlock 0] M := by
  intro N
  induction N with
  | zero =>
    intro v10 v11 v12 c22_0 c25_0 c34_0 c31_0 l42 l39 sv10 sc31_0 b36 b22 b25 b28 s42 b34 b31 b37 b39 Fr M r hv10 hc31_0 hH h
    simp [search_bursts_1] at h
  | succ N ih =>
    intro v10 v11 v12 c22_0 c25_0 c34_0 c31_0 l42 l39 sv10 sc31_0 b36 b22 b25 b28 s42 b34 b31 b37 b39 Fr M r hv10 hc31_0 hH h
    rw [search_bursts_1] at h
    refine Run.seq (Run.region ?_)
    refine Run.opG wantS_none (ex_lss rfl rfl) rfl ?_
    refine Run.opsEnd (Run.seq ?_)
    rcases btf ((decide (v12 < v11))) with hc44 | hc44
    · have h := bif_t hc44 h
      refine Run.condT' rfl hc44 ?_
      refine Run.skip (Run.seq (Run.block (Run.seq (Run.region ?_))))
      refine Run.opG wantS_none (ex_move rfl) rfl ?_
      obtain ⟨x46, hx46, h⟩ := bnd_some h
      obtain ⟨p46, o46, _, hx46, hp46, rfl⟩ := sl_elem (P := Try.prog) (t := 22) (kk := .i64) hv10 hx46 els22
      refine Run.opG wantS_none (ex_elX rfl rfl hx46) rfl ?_
      refine Run.opG wantS_none (ex_load1 rfl (hH.ptrF hp46) rdLe_rfl agg3) rfl ?_
      refine Run.opG wantS_none (ex_assign rfl) rfl ?_
      refine Run.opG wantS_none (ex_assign rfl) rfl ?_
      refine Run.opsEnd (Run.seq (Run.region ?_))
      refine Run.opG wantS_none (ex_move rfl) rfl ?_
      refine Run.enter wantS_none (ex_call rfl mkk92 cal92) Try.func92 rfl rfl ?_
      refine Run.seq ?_
      refine Run.drawG plan92_0 ?_
      refine DrawG.fl rfl (ev_ex wantS_none (ex_move rfl)) rfl ?_
      refine DrawG.fl rfl (ev_ex wantS_none (ex_nilP rfl)) rfl ?_
      refine DrawG.fl rfl (ev_ex wantS_none (ex_fieldAddr rfl off148_3)) rfl ?_
      obtain ⟨x47, hx47, h⟩ := bnd_some h
      refine DrawG.fl rfl (ev_ex wantS_none (ex_load1 rfl (hH.arrAt (enc := enc3) (a := x47) (i := 8) rfl hx47 enc3_len) rdLe_rfl agg3)) rfl ?_
      refine DrawG.fl rfl (ev_ex wantS_none (ex_move rfl)) rfl ?_
      refine DrawG.fl rfl (ev_ex wantS_none (ex_move rfl)) rfl ?_
      refine DrawG.fl rfl (ev_ex wantS_none (ex_mul rfl rfl)) rfl ?_
      refine DrawG.fl rfl (ev_ex wantS_none (ex_move rfl)) rfl ?_
      refine DrawG.fl rfl (ev_ex wantS_none (ex_move rfl)) rfl ?_
      refine DrawG.fl rfl (ev_ex wantS_none (ex_nilP rfl)) rfl ?_
      refine DrawG.fl rfl (ev_ex wantS_none (ex_fieldAddr rfl off148_2)) rfl ?_
      obtain ⟨x48, hx48, h⟩ := bnd_some h
      refine DrawG.fl rfl (ev_ex wantS_none (ex_load1 rfl (hH.arrAt (enc := enc3) (a := x48) (i := 8) rfl hx48 enc3_len) rdLe_rfl agg3)) rfl ?_
      refine DrawG.fl rfl (ev_ex wantS_none (ex_nilP rfl)) rfl ?_
      refine DrawG.fl rfl (ev_ex wantS_none (ex_fieldAddr rfl off148_0)) rfl ?_
      obtain ⟨o49, ho49, h⟩ := bnd_some h
      refine DrawG.fl rfl (ev_ex wantS_none (ex_elX rfl rfl (arr_place (inA_natIn ho49) els146))) rfl ?_
      obtain ⟨x50, hx50, h⟩ := bnd_some h
      refine DrawG.fl rfl (ev_ex wantS_none (ex_load1 rfl (hH.arrAt (enc := enc3) (a := x50) (i := 8) rfl hx50 enc3_len) rdLe_rfl agg3)) rfl ?_
      refine DrawG.fl rfl (ev_ex wantS_none (ex_sub rfl rfl)) rfl ?_
      refine DrawG.fl rfl (ev_ex wantS_none (ex_add rfl rfl)) rfl ?_
      refine DrawG.fl rfl (ev_ex wantS_none (ex_nilP rfl)) rfl ?_
      refine DrawG.fl rfl (ev_ex wantS_none (ex_fieldAddr rfl off148_3)) rfl ?_
      obtain ⟨l51, hl51, h⟩ := bnd_some h
      refine DrawG.opX rfl wantS_none rfl (ExG.storeA rfl rfl hH (i := 8) rfl hl51 sz3 rfl enc3_len enc3_ones) ?_
      rintro _ M52 ⟨rfl, (hH52 : Has Fr M52 [.obj b36 (.loop ⟨.ready, none, 31, 61, treeOf [(4, (.ptr b22 0)), (5, (.ptr b25 0)), (6, .nils), (7, (.ptr b28 0)), (13, (.fn (.func 91) [] [(.ptr b34 0), (.ptr b31 0)]))], [14, 15], (atC Try.prog 31 [1, 1, 0, 1, 0, 0]), (atC Try.prog 31 [1, 1, 0, 1, 0, 1]), b37⟩), .obj b22 (.row 3 .whole [(.int .i64 c22_0)]), .obj b25 (.row 3 .whole [(.int .i64 c25_0)]), .obj b28 (.row 32 .whole [s42]), .vec 36 3 l42.length s42 (l42.flatMap enc36), .obj b34 (.row 3 .whole [(.int .i64 c34_0)]), .obj b31 (.row 22 .whole [sc31_0]), .obj b37 .defd, .obj b39 (.row 148 .whole (l51.flatMap enc3))])⟩
      refine ⟨st_nil, ?_⟩
      refine DrawG.sync ?_
      refine DrawG.nil ?_
      refine Run.seq ?_
      refine Run.drawG plan92_1_0 ?_
      refine DrawG.fl rfl (ev_ex wantS_none (ex_move rfl)) rfl ?_
      refine DrawG.fl rfl (ev_ex wantS_none (ex_move rfl)) rfl ?_
      refine DrawG.fl rfl (ev_ex wantS_none (ex_nilP rfl)) rfl ?_
      refine DrawG.fl rfl (ev_ex wantS_none (ex_fieldAddr rfl off148_2)) rfl ?_
      obtain ⟨x53, hx53, h⟩ := bnd_some h
      refine DrawG.fl rfl (ev_ex wantS_none (ex_load1 rfl (hH52.arrAt (enc := enc3) (a := x53) (i := 8) rfl hx53 enc3_len) rdLe_rfl agg3)) rfl ?_
      refine DrawG.fl rfl (ev_ex wantS_none (ex_move rfl)) rfl ?_
      refine DrawG.fl rfl (ev_ex wantS_none (ex_move rfl)) rfl ?_
      refine DrawG.fl rfl (ev_ex wantS_none (ex_mul rfl rfl)) rfl ?_
      refine DrawG.fl rfl (ev_ex wantS_none (ex_nilP rfl)) rfl ?_
      refine DrawG.fl rfl (ev_ex wantS_none (ex_fieldAddr rfl off148_0)) rfl ?_
      obtain ⟨o54, ho54, h⟩ := bnd_some h
      refine DrawG.fl rfl (ev_ex wantS_none (ex_elX rfl rfl (arr_place (inA_natIn ho54) els146))) rfl ?_
      obtain ⟨l55, hl55, h⟩ := bnd_some h
      refine DrawG.opX rfl wantS_none rfl (ExG.storeA rfl rfl hH52 (i := 8) rfl hl55 sz3 rfl enc3_len enc3_ones) ?_
      rintro _ M56 ⟨rfl, (hH56 : Has Fr M56 [.obj b36 (.loop ⟨.ready, none, 31, 61, treeOf [(4, (.ptr b22 0)), (5, (.ptr b25 0)), (6, .nils), (7, (.ptr b28 0)), (13, (.fn (.func 91) [] [(.ptr b34 0), (.ptr b31 0)]))], [14, 15], (atC Try.prog 31 [1, 1, 0, 1, 0, 0]), (atC Try.prog 31 [1, 1, 0, 1, 0, 1]), b37⟩), .obj b22 (.row 3 .whole [(.int .i64 c22_0)]), .obj b25 (.row 3 .whole [(.int .i64 c25_0)]), .obj b28 (.row 32 .whole [s42]), .vec 36 3 l42.length s42 (l42.flatMap enc36), .obj b34 (.row 3 .whole [(.int .i64 c34_0)]), .obj b31 (.row 22 .whole [sc31_0]), .obj b37 .defd, .obj b39 (.row 148 .whole (l55.flatMap enc3))])⟩
      refine ⟨st_nil, ?_⟩
      refine DrawG.sync ?_
      refine DrawG.nil ?_
      refine Run.drawG plan92_1_1 ?_
      refine DrawG.fl rfl (ev_ex wantS_none (ex_move rfl)) rfl ?_
      refine DrawG.fl rfl (ev_ex wantS_none (ex_move rfl)) rfl ?_
      refine DrawG.fl rfl (ev_ex wantS_none (ex_nilP rfl)) rfl ?_
      refine DrawG.fl rfl (ev_ex wantS_none (ex_fieldAddr rfl off148_2)) rfl ?_
      obtain ⟨x57, hx57, h⟩ := bnd_some h
      refine DrawG.fl rfl (ev_ex wantS_none (ex_load1 rfl (hH56.arrAt (enc := enc3) (a := x57) (i := 8) rfl hx57 enc3_len) rdLe_rfl agg3)) rfl ?_
      refine DrawG.fl rfl (ev_ex wantS_none (ex_add rfl rfl)) rfl ?_
      refine DrawG.fl rfl (ev_ex wantS_none (ex_move rfl)) rfl ?_
      refine DrawG.fl rfl (ev_ex wantS_none (ex_nilP rfl)) rfl ?_
      refine DrawG.fl rfl (ev_ex wantS_none (ex_fieldAddr rfl off148_1)) rfl ?_
      obtain ⟨x58, hx58, h⟩ := bnd_some h
      refine DrawG.fl rfl (ev_ex wantS_none (ex_load1 rfl (hH56.arrAt (enc := enc3) (a := x58) (i := 8) rfl hx58 enc3_len) rdLe_rfl agg3)) rfl ?_
      obtain ⟨z59, hz59, h⟩ := bnd_some h
      refine DrawG.fl rfl (ev_ex wantS_none (ex_rem' rfl rfl hz59)) rfl ?_
      refine DrawG.fl rfl (ev_ex wantS_none (ex_nilP rfl)) rfl ?_
      refine DrawG.fl rfl (ev_ex wantS_none (ex_fieldAddr rfl off148_2)) rfl ?_
      obtain ⟨l60, hl60, h⟩ := bnd_some h
      refine DrawG.opX rfl wantS_none rfl (ExG.storeA rfl rfl hH56 (i := 8) rfl hl60 sz3 rfl enc3_len enc3_ones) ?_
      rintro _ M61 ⟨rfl, (hH61 : Has Fr M61 [.obj b36 (.loop ⟨.ready, none, 31, 61, treeOf [(4, (.ptr b22 0)), (5, (.ptr b25 0)), (6, .nils), (7, (.ptr b28 0)), (13, (.fn (.func 91) [] [(.ptr b34 0), (.ptr b31 0)]))], [14, 15], (atC Try.prog 31 [1, 1, 0, 1, 0, 0]), (atC Try.prog 31 [1, 1, 0, 1, 0, 1]), b37⟩), .obj b22 (.row 3 .whole [(.int .i64 c22_0)]), .obj b25 (.row 3 .whole [(.int .i64 c25_0)]), .obj b28 (.row 32 .whole [s42]), .vec 36 3 l42.length s42 (l42.flatMap enc36), .obj b34 (.row 3 .whole [(.int .i64 c34_0)]), .obj b31 (.row 22 .whole [sc31_0]), .obj b37 .defd, .obj b39 (.row 148 .whole (l60.flatMap enc3))])⟩
      refine ⟨st_nil, ?_⟩
      refine DrawG.sync ?_
      refine DrawG.nil ?_
      refine Run.fallTo Try.func92 rfl res_nil rfl ?_
      refine Run.opsEnd (Run.seq (Run.region ?_))
      refine Run.opG wantS_none (ex_move rfl) rfl ?_
      refine Run.opG wantS_none (ex_add rfl rfl) rfl ?_
      refine Run.opG wantS_none (ex_load1 rfl (hH61.cells (i := 5) rfl 0 rfl) rdLe_rfl agg3) rfl ?_
      refine Run.opG wantS_none (ex_sub rfl rfl) rfl ?_
      refine Run.opG wantS_none (ex_assign rfl) rfl ?_
      refine Run.opsEnd (Run.seq (Run.region ?_))
      refine Run.opG wantS_none (ex_move rfl) rfl ?_
      refine Run.opG wantS_none (ex_geq rfl rfl) rfl ?_
      refine Run.opG wantS_none (ex_move rfl) rfl ?_
      rcases btf ((decide ((0 : Int) ≤ (w64 ((w64 (v12 + (1 : Int))) - c34_0))))) with hc62 | hc62
      · have h := bif_t hc62 h
        refine Run.opG (wantS_yes' rfl rfl hc62) (ex_move rfl) rfl ?_
        refine Run.opG (wantS_yes' rfl rfl hc62) (ex_move rfl) rfl ?_
        refine Run.opG (wantS_yes' rfl rfl hc62) (ex_fieldAddr rfl off148_3) rfl ?_
        obtain ⟨x64, hx64, h⟩ := bnd_some h
        refine Run.opG (wantS_yes' rfl rfl hc62) (ex_load1 rfl (hH61.arrAt (enc := enc3) (a := x64) (i := 8) rfl hx64 enc3_len) rdLe_rfl agg3) rfl ?_
        refine Run.round (e' := [(15, (.int .i64 x64)), (14, (.int .i64 (w64 ((w64 (v12 + (1 : Int))) - c34_0)))), (4, (.ptr b22 0)), (5, (.ptr b25 0)), (6, .nils), (7, (.ptr b28 0)), (13, (.fn (.func 91) [] [(.ptr b34 0), (.ptr b31 0)]))]) (wantS_yes' rfl rfl hc62) (ex_yield hH61 (i := 0) rfl rfl rfl rfl) (hH61.loopOf (i := 0) rfl) rfl ?_
        refine Run.seq (Run.region ?_)
        refine Run.opG wantS_none (ex_assign rfl) rfl ?_
        refine Run.opsEnd (Run.region ?_)
        refine Run.opG wantS_none (ex_assign rfl) rfl ?_
        refine Run.opsEnd ?_
        refine Run.beginX hH61 (i := 0) rfl rfl ?_
        intro M65 (hH65 : Has Fr M65 [.obj b36 (.loop ⟨.busy, none, 31, 61, treeOf [(4, (.ptr b22 0)), (5, (.ptr b25 0)), (6, .nils), (7, (.ptr b28 0)), (13, (.fn (.func 91) [] [(.ptr b34 0), (.ptr b31 0)]))], [14, 15], (atC Try.prog 31 [1, 1, 0, 1, 0, 0]), (atC Try.prog 31 [1, 1, 0, 1, 0, 1]), b37⟩), .obj b22 (.row 3 .whole [(.int .i64 c22_0)]), .obj b25 (.row 3 .whole [(.int .i64 c25_0)]), .obj b28 (.row 32 .whole [s42]), .vec 36 3 l42.length s42 (l42.flatMap enc36), .obj b34 (.row 3 .whole [(.int .i64 c34_0)]), .obj b31 (.row 22 .whole [sc31_0]), .obj b37 .defd, .obj b39 (.row 148 .whole (l60.flatMap enc3))])
        refine Run.block (Run.seq (Run.seq (Run.region ?_)))
        refine Run.opG wantS_none (ex_move rfl) rfl ?_
        refine Run.opG wantS_none (ex_load1 rfl (hH65.cells (i := 2) rfl 0 rfl) rdLe_rfl agg3) rfl ?_
        refine Run.opG wantS_none (ex_lss rfl rfl) rfl ?_
        refine Run.opsEnd ?_
        rcases btf ((decide (x64 < c25_0))) with hc66 | hc66
        · have h := bif_t hc66 h
          refine Run.condT' rfl hc66 ?_
          refine Run.exit rfl ?_
          refine Run.roundEndX hH65 (i := 0) rfl rfl ?_
          intro M67 (hH67 : Has Fr M67 [.obj b36 (.loop ⟨.ready, none, 31, 61, treeOf [(4, (.ptr b22 0)), (5, (.ptr b25 0)), (6, .nils), (7, (.ptr b28 0)), (13, (.fn (.func 91) [] [(.ptr b34 0), (.ptr b31 0)]))], [14, 15], (atC Try.prog 31 [1, 1, 0, 1, 0, 0]), (atC Try.prog 31 [1, 1, 0, 1, 0, 1]), b37⟩), .obj b22 (.row 3 .whole [(.int .i64 c22_0)]), .obj b25 (.row 3 .whole [(.int .i64 c25_0)]), .obj b28 (.row 32 .whole [s42]), .vec 36 3 l42.length s42 (l42.flatMap enc36), .obj b34 (.row 3 .whole [(.int .i64 c34_0)]), .obj b31 (.row 22 .whole [sc31_0]), .obj b37 .defd, .obj b39 (.row 148 .whole (l60.flatMap enc3))])
          refine Run.opG (wantS_yes' rfl rfl hc62) (ex_not rfl) rfl ?_
          refine Run.opG wantS_none (ex_pickT' rfl hc62 rfl rfl) rfl ?_
          refine Run.opsEnd ?_
          exact Run.low (.cons (fle_pick [7] rfl) .nil) (Run.pick [0, 1, 4, 10, 11, 12, 32] (search_bursts_2_ok F (search_bursts_1 F N) ih v10 v11 v12 (!true) c22_0 c25_0 c34_0 c31_0 l42 l60 sv10 sc31_0 b36 b22 b25 b28 s42 b34 b31 b37 b39 _ _ _ hv10 hc31_0 hH67 h))
        · have h := bif_f hc66 h
          refine Run.condF' rfl hc66 ?_
          refine Run.skip (Run.seq (Run.region ?_))
          refine Run.opG wantS_none (ex_load1 rfl (hH65.cells (i := 3) rfl 0 rfl) rdLe_rfl agg32) rfl ?_
          refine Run.opG wantS_none (ex_len' rfl (hH65.slc (i := 4) rfl enc36_len) lenk32) rfl ?_
          refine Run.opG wantS_none (ex_sub rfl rfl) rfl ?_
          refine Run.opG wantS_none (ex_assign rfl) rfl ?_
          refine Run.opsEnd (Run.seq (Run.region ?_))
          refine Run.opG wantS_none (ex_move rfl) rfl ?_
          refine Run.opG wantS_none (ex_geq rfl rfl) rfl ?_
          refine Run.opG wantS_none (ex_move rfl) rfl ?_
          rcases btf ((decide ((0 : Int) ≤ (w64 ((l42.length : Int) - (1 : Int)))))) with hc72 | hc72
          · have h := bif_t hc72 h
            refine Run.opG (wantS_yes' rfl rfl hc72) (ex_move rfl) rfl ?_
            refine Run.opG (wantS_yes' rfl rfl hc72) (ex_load1 rfl (hH65.cells (i := 3) rfl 0 rfl) rdLe_rfl agg32) rfl ?_
            refine Run.opG (wantS_yes' rfl rfl hc72) (ex_move rfl) rfl ?_
            obtain ⟨x74, hx74, h⟩ := bnd_some h
            obtain ⟨p74, o74, hb74, hx74, he74⟩ := vec_elem (P := Try.prog) (t := 32) (kk := .i64) hH65 (i := 4) rfl hx74 els32
            refine Run.opG (wantS_yes' rfl rfl hc72) (ex_elX rfl rfl hx74) rfl ?_
            refine Run.opG (wantS_yes' rfl rfl hc72) (ex_fieldAddr rfl off36_1) rfl ?_
            refine Run.opG (wantS_yes' rfl rfl hc72) (ex_load1 rfl ((hH65.at (enc := enc36) (a := x74) (i := 4) rfl hb74 he74 enc36_len).fld (o := 1) rfl) rdLe_rfl agg3) rfl ?_
            refine Run.opG (wantS_yes' rfl rfl hc72) (ex_leq rfl rfl) rfl ?_
            refine Run.opG wantS_none (ex_pickT' rfl hc72 rfl rfl) rfl ?_
            refine Run.opsEnd ?_
            exact Run.low (.cons (fle_pick [0, 1, 4, 10, 11, 12, 25] rfl) (.cons (fle_pick [7] rfl) .nil)) (Run.pick [4, 6, 7, 8, 9, 10, 32] (search_bursts_3_ok F (search_bursts_1 F N) ih (w64 ((w64 (v12 + (1 : Int))) - c34_0)) x64 (w64 ((l42.length : Int) - (1 : Int))) (decide ((w64 ((w64 (v12 + (1 : Int))) - c34_0)) ≤ x74.To)) v10 v11 v12 (decide ((0 : Int) ≤ (w64 ((w64 (v12 + (1 : Int))) - c34_0)))) c22_0 c25_0 c34_0 c31_0 l42 l60 sv10 sc31_0 b22 b28 s42 b36 b25 b34 b31 b37 b39 _ _ _ hv10 hc31_0 (hH65.pick [1, 3, 4, 0, 2, 5, 6, 7, 8] rfl rfl) h))
          · have h := bif_f hc72 h
            refine Run.no (wantS_not' rfl rfl hc72) rfl ?_
            refine Run.no (wantS_not' rfl rfl hc72) rfl ?_
            refine Run.no (wantS_not' rfl rfl hc72) rfl ?_
            refine Run.no (wantS_not' rfl rfl hc72) rfl ?_
            refine Run.no (wantS_not' rfl rfl hc72) rfl ?_
            refine Run.no (wantS_not' rfl rfl hc72) rfl ?_
            refine Run.no (wantS_not' rfl rfl hc72) rfl ?_
            refine Run.opG wantS_none (ex_pickF' rfl hc72 rfl rfl) rfl ?_
            refine Run.opsEnd ?_
            exact Run.low (.cons (fle_pick [0, 1, 4, 10, 11, 12, 25] rfl) (.cons (fle_pick [7] rfl) .nil)) (Run.pick [4, 6, 7, 8, 9, 10, 32] (search_bursts_3_ok F (search_bursts_1 F N) ih (w64 ((w64 (v12 + (1 : Int))) - c34_0)) x64 (w64 ((l42.length : Int) - (1 : Int))) false v10 v11 v12 (decide ((0 : Int) ≤ (w64 ((w64 (v12 + (1 : Int))) - c34_0)))) c22_0 c25_0 c34_0 c31_0 l42 l60 sv10 sc31_0 b22 b28 s42 b36 b25 b34 b31 b37 b39 _ _ _ hv10 hc31_0 (hH65.pick [1, 3, 4, 0, 2, 5, 6, 7, 8] rfl rfl) h))
      · have h := bif_f hc62 h
        refine Run.no (wantS_not' rfl rfl hc62) rfl ?_
        refine Run.no (wantS_not' rfl rfl hc62) rfl ?_
        refine Run.no (wantS_not' rfl rfl hc62) rfl ?_
        refine Run.no (wantS_not' rfl rfl hc62) rfl ?_
        refine Run.no (wantS_not' rfl rfl hc62) rfl ?_
        refine Run.no (wantS_not' rfl rfl hc62) rfl ?_
        refine Run.opG wantS_none (ex_pickF' rfl hc62 rfl rfl) rfl ?_
        refine Run.opsEnd ?_
        exact Run.low (.cons (fle_pick [7] rfl) .nil) (Run.pick [0, 1, 4, 10, 11, 12, 32] (search_bursts_2_ok F (search_bursts_1 F N) ih v10 v11 v12 false c22_0 c25_0 c34_0 c31_0 l42 l60 sv10 sc31_0 b36 b22 b25 b28 s42 b34 b31 b37 b39 _ _ _ hv10 hc31_0 hH61 h))
    · have h := bif_f hc44 h
      refine Run.condF' rfl hc44 ?_
      refine Run.exit rfl ?_
      refine Run.fallRange Try.func91 rfl res_nil ?_
      refine Run.endX hH (i := 0) rfl (fun hc => by cases hc) ?_
      intro M98 (hH98 : Has Fr M98 [.obj b36 (.loop ⟨.exhausted, none, 31, 61, treeOf [(4, (.ptr b22 0)), (5, (.ptr b25 0)), (6, .nils), (7, (.ptr b28 0)), (13, (.fn (.func 91) [] [(.ptr b34 0), (.ptr b31 0)]))], [14, 15], (atC Try.prog 31 [1, 1, 0, 1, 0, 0]), (atC Try.prog 31 [1, 1, 0, 1, 0, 1]), b37⟩), .obj b22 (.row 3 .whole [(.int .i64 c22_0)]), .obj b25 (.row 3 .whole [(.int .i64 c25_0)]), .obj b28 (.row 32 .whole [s42]), .vec 36 3 l42.length s42 (l42.flatMap enc36), .obj b34 (.row 3 .whole [(.int .i64 c34_0)]), .obj b31 (.row 22 .whole [sc31_0]), .obj b37 .defd, .obj b39 (.row 148 .whole (l39.flatMap enc3))])
      refine Run.inBlock (Run.seq (Run.region ?_))
      refine Run.opG wantS_none (ex_load1 rfl (hH98.cells (i := 3) rfl 0 rfl) rdLe_rfl agg32) rfl ?_
      refine Run.opG wantS_none (ex_assign rfl) rfl ?_
      refine Run.opsEnd ?_
      obtain ⟨hH99x, hS99⟩ := hH98.shut (i := 7) (ds := []) rfl
      have hH99 : Has Fr (setT M98 b37 none) [.obj b36 (.loop ⟨.exhausted, none, 31, 61, treeOf [(4, (.ptr b22 0)), (5, (.ptr b25 0)), (6, .nils), (7, (.ptr b28 0)), (13, (.fn (.func 91) [] [(.ptr b34 0), (.ptr b31 0)]))], [14, 15], (atC Try.prog 31 [1, 1, 0, 1, 0, 0]), (atC Try.prog 31 [1, 1, 0, 1, 0, 1]), b37⟩), .obj b22 (.row 3 .whole [(.int .i64 c22_0)]), .obj b25 (.row 3 .whole [(.int .i64 c25_0)]), .obj b28 (.row 32 .whole [s42]), .vec 36 3 l42.length s42 (l42.flatMap enc36), .obj b34 (.row 3 .whole [(.int .i64 c34_0)]), .obj b31 (.row 22 .whole [sc31_0]), .vec 0 0 0 .nils [], .obj b39 (.row 148 .whole (l39.flatMap enc3))] := hH99x
      cases h
      exact Run.ret Try.func31 (hS99 _ rfl) (res_tmp rfl res_nil) ⟨_, rfl, (hH99.pick [4] rfl rfl).upF (none_le _)⟩

def search_bursts (F : Nat) (a0 : (List Int)) (a1 : Int) (a2 : Int) : Option ((List S_api_Burst)) :=
  search_bursts_1 F F a0 (a0.length : Int) (0 : Int) a1 a2 a1 a0 ([] : List S_api_Burst) ((List.replicate 1027 (0 : Int)).set 1024 a1)

theorem search_bursts_ok (F : Nat) (a0 : (List Int)) (a1 : Int) (a2 : Int) (s0 : SV) (r : (List S_api_Burst)) (M : Mem) (hs0 : Slc (rd M) 1 (FlatR enc3) s0 a0) (h : search_bursts F a0 a1 a2 = some r) : CallsM Try.prog 31 [s0, (.int .i64 a1), (.int .i64 a2)] M (fun s M' => ∃ q1, s = q1 ∧ New M M' [.vec 36 3 r.length q1 (r.flatMap enc36)]) := by
  refine CallsM.fresh (Q := search_bursts_post r) Try.func31 rfl rfl ?_ (by rintro s Me ⟨q1, rfl, hx⟩ ha hw; exact ⟨_, rfl, New.of rfl hx ha hw⟩)
  rw [search_bursts] at h
  replace hs0 := hs0.mono (rdLe_frozen M) (fun _ _ h => h)
  have hH := Has.nil (frozen M)
  refine Run.seq (Run.region ?_)
  refine Run.opX wantS_none rfl (ExG.box rfl rfl hH) ?_
  rintro _ M23 ⟨b22, rfl, (hH23 : Has (ro (frozen M)) M23 [.obj b22 (.row 3 .whole [(.int .i64 a1)])])⟩
  refine Run.opX wantS_none rfl (ExG.box rfl rfl hH23) ?_
  rintro _ M26 ⟨b25, rfl, (hH26 : Has (ro (frozen M)) M26 [.obj b25 (.row 3 .whole [(.int .i64 a2)]), .obj b22 (.row 3 .whole [(.int .i64 a1)])])⟩
  refine Run.opG wantS_none (ex_assign rfl) rfl ?_
  refine Run.opsEnd (Run.seq (Run.region ?_))
  refine Run.opX wantS_none rfl (ExG.new (v := fun b => .ptr b 0) (ex_alloc zer32) hH26) ?_
  rintro _ M29 ⟨b28, rfl, (hH29 : Has (ro (frozen M)) M29 [.obj b28 (.row 32 .whole [.nils]), .obj b25 (.row 3 .whole [(.int .i64 a2)]), .obj b22 (.row 3 .whole [(.int .i64 a1)])])⟩
  refine Run.opsEnd (Run.seq (Run.seq (Run.region ?_)))
  refine Run.opG wantS_none (ex_move rfl) rfl ?_
  refine Run.opG wantS_none (ex_load1 rfl (hH29.cells (i := 2) rfl 0 rfl) rdLe_rfl agg3) rfl ?_
  refine Run.enter wantS_none (ex_call rfl mkk59 cal59) Try.func59 rfl rfl ?_
  refine Run.seq (Run.region ?_)
  refine Run.opX wantS_none rfl (ExG.box rfl (cells_one (slc_one hs0)) hH29) ?_
  rintro _ M32 ⟨b31, rfl, (hH32 : Has (ro (frozen M)) M32 [.obj b31 (.row 22 .whole [s0]), .obj b28 (.row 32 .whole [.nils]), .obj b25 (.row 3 .whole [(.int .i64 a2)]), .obj b22 (.row 3 .whole [(.int .i64 a1)])])⟩
  refine Run.opX wantS_none rfl (ExG.box rfl rfl hH32) ?_
  rintro _ M35 ⟨b34, rfl, (hH35 : Has (ro (frozen M)) M35 [.obj b34 (.row 3 .whole [(.int .i64 a1)]), .obj b31 (.row 22 .whole [s0]), .obj b28 (.row 32 .whole [.nils]), .obj b25 (.row 3 .whole [(.int .i64 a2)]), .obj b22 (.row 3 .whole [(.int .i64 a1)])])⟩
  refine Run.opG wantS_none (ex_assign rfl) rfl ?_
  refine Run.opsEnd (Run.seq (Run.region ?_))
  refine Run.opG wantS_none (ex_makeFunc rfl rfl) rfl ?_
  refine Run.opG wantS_none (ex_assign rfl) rfl ?_
  refine Run.opsEnd ?_
  refine Run.retTo Try.func59 rfl (res_tmp rfl res_nil) rfl ?_
  refine Run.opsEnd (Run.block ?_)
  refine Run.pick [4, 5, 6, 7, 13] ?_
  refine Run.rangeX rfl cal91 Try.func91 rfl rfl hH35 ?_
  intro b37 b36 M36 (hH36 : Has (ro (frozen M)) M36 [.obj b36 (.loop ⟨.ready, none, 31, 61, treeOf [(4, (.ptr b22 0)), (5, (.ptr b25 0)), (6, .nils), (7, (.ptr b28 0)), (13, (.fn (.func 91) [] [(.ptr b34 0), (.ptr b31 0)]))], [14, 15], (atC Try.prog 31 [1, 1, 0, 1, 0, 0]), (atC Try.prog 31 [1, 1, 0, 1, 0, 1]), b37⟩), .obj b37 .defd, .obj b34 (.row 3 .whole [(.int .i64 a1)]), .obj b31 (.row 22 .whole [s0]), .obj b28 (.row 32 .whole [.nils]), .obj b25 (.row 3 .whole [(.int .i64 a2)]), .obj b22 (.row 3 .whole [(.int .i64 a1)])])
  refine Run.seq (Run.region ?_)
  refine Run.opG wantS_none (ex_load1 rfl (hH36.cells (i := 2) rfl 0 rfl) rdLe_rfl agg3) rfl ?_
  refine Run.opG wantS_none (ex_build (r := ((List.replicate 1027 (0 : Int)).set 1024 a1).flatMap enc3) rfl zra148 pls148 (bld148_1 _)) rfl ?_
  refine Run.opX wantS_none rfl (ExG.new (v := fun b => .ptr b 0) (ex_alloc zra148) hH36) ?_
  rintro _ M40 ⟨b39, rfl, (hH40 : Has (ro (frozen M)) M40 [.obj b39 (.row 148 .whole ((List.replicate 1027 (0 : Int)).flatMap enc3)), .obj b36 (.loop ⟨.ready, none, 31, 61, treeOf [(4, (.ptr b22 0)), (5, (.ptr b25 0)), (6, .nils), (7, (.ptr b28 0)), (13, (.fn (.func 91) [] [(.ptr b34 0), (.ptr b31 0)]))], [14, 15], (atC Try.prog 31 [1, 1, 0, 1, 0, 0]), (atC Try.prog 31 [1, 1, 0, 1, 0, 1]), b37⟩), .obj b37 .defd, .obj b34 (.row 3 .whole [(.int .i64 a1)]), .obj b31 (.row 22 .whole [s0]), .obj b28 (.row 32 .whole [.nils]), .obj b25 (.row 3 .whole [(.int .i64 a2)]), .obj b22 (.row 3 .whole [(.int .i64 a1)])])⟩
  refine Run.opX wantS_none rfl (ExG.storeAll (l := ((List.replicate 1027 (0 : Int)).set 1024 a1)) rfl rfl hH40 (i := 0) rfl sz148 enc3_len enc3_ones (by simp) (by simp)) ?_
  rintro _ M41 ⟨rfl, (hH41 : Has (ro (frozen M)) M41 [.obj b39 (.row 148 .whole (((List.replicate 1027 (0 : Int)).set 1024 a1).flatMap enc3)), .obj b36 (.loop ⟨.ready, none, 31, 61, treeOf [(4, (.ptr b22 0)), (5, (.ptr b25 0)), (6, .nils), (7, (.ptr b28 0)), (13, (.fn (.func 91) [] [(.ptr b34 0), (.ptr b31 0)]))], [14, 15], (atC Try.prog 31 [1, 1, 0, 1, 0, 0]), (atC Try.prog 31 [1, 1, 0, 1, 0, 1]), b37⟩), .obj b37 .defd, .obj b34 (.row 3 .whole [(.int .i64 a1)]), .obj b31 (.row 22 .whole [s0]), .obj b28 (.row 32 .whole [.nils]), .obj b25 (.row 3 .whole [(.int .i64 a2)]), .obj b22 (.row 3 .whole [(.int .i64 a1)])])⟩
  refine Run.opsEnd (Run.seq (Run.region ?_))
  refine Run.opG wantS_none (ex_load1 rfl (hH41.cells (i := 4) rfl 0 rfl) rdLe_rfl agg22) rfl ?_
  refine Run.opG wantS_none (ex_len' rfl hs0 lenk22) rfl ?_
  refine Run.opG wantS_none (ex_move rfl) rfl ?_
  refine Run.opsEnd (Run.block (Run.loop ?_))
  have hH43 : Has (ro (frozen M)) M41 [.vec 36 3 ([] : List S_api_Burst).length .nils (([] : List S_api_Burst).flatMap enc36), .obj b39 (.row 148 .whole (((List.replicate 1027 (0 : Int)).set 1024 a1).flatMap enc3)), .obj b36 (.loop ⟨.ready, none, 31, 61, treeOf [(4, (.ptr b22 0)), (5, (.ptr b25 0)), (6, .nils), (7, (.ptr b28 0)), (13, (.fn (.func 91) [] [(.ptr b34 0), (.ptr b31 0)]))], [14, 15], (atC Try.prog 31 [1, 1, 0, 1, 0, 0]), (atC Try.prog 31 [1, 1, 0, 1, 0, 1]), b37⟩), .obj b37 .defd, .obj b34 (.row 3 .whole [(.int .i64 a1)]), .obj b31 (.row 22 .whole [s0]), .obj b28 (.row 32 .whole [.nils]), .obj b25 (.row 3 .whole [(.int .i64 a2)]), .obj b22 (.row 3 .whole [(.int .i64 a1)])] := hH41.nils 36 3
  exact Run.low (.cons (fle_pick [7] rfl) .nil) (Run.pick [0, 1, 4, 10, 11, 12] (search_bursts_1_ok F F a0 (a0.length : Int) (0 : Int) a1 a2 a1 a0 ([] : List S_api_Burst) ((List.replicate 1027 (0 : Int)).set 1024 a1) s0 s0 b36 b22 b25 b28 .nils b34 b31 b37 b39 _ _ _ hs0 hs0 (hH43.pick [2, 8, 7, 6, 0, 4, 5, 3, 1] rfl rfl) h))

theorem mkk31 : makeK Try.prog 31 = none := by kernel_rfl
theorem cal31 : callable Try.prog 31 = true := by kernel_rfl
abbrev search_Bursts_post (r : (List S_api_Burst) × Int) : SV → Mem → Prop := fun s Me => ∃ q1, s = (.tuple [q1, (.int .i64 r.2)]) ∧ Has (fun _ => none) Me [.vec 36 3 r.1.length q1 (r.1.flatMap enc36)]

def search_Bursts_1 (F : Nat) (v0 : (List Int)) (v1 : Int) (v2 : Int) (v20 : Bool) : Option ((List S_api_Burst) × Int) :=
  bif v20 then
    some (([] : List S_api_Burst), (8 : Int))
  else
    bnd (search_bursts F v0 v1 v2) fun r36 =>
    some (r36, (0 : Int))

theorem search_Bursts_1_ok (F : Nat) : ∀ (v0 : (List Int)) (v1 : Int) (v2 : Int) (v20 : Bool) (sv0 : SV) (Fr : Rd) (M : Mem) (r : (List S_api_Burst) × Int) (hv0 : Slc Fr 1 (FlatR enc3) sv0 v0) (hH : Has Fr M []), search_Bursts_1 F v0 v1 v2 v20 = some r → Run Try.prog ⟨⟨9, [], none⟩, []⟩ 25 (search_Bursts_post r) [(0, sv0), (1, (.int .i64 v1)), (2, (.int .i64 v2)), (20, (.bool v20))] [itemC Try.prog 9 [1, 0, 0, 1, 1, 0] 8, codeC Try.prog 9 [1, 0, 0, 1, 1, 1], .inBlock 0, codeC Try.prog 9 [1, 1]] M := by
  intro v0 v1 v2 v20 sv0 Fr M r hv0 hH h
  rw [search_Bursts_1] at h
  refine Run.opG wantS_none (ex_assign rfl) rfl ?_
  refine Run.opsEnd ?_
  rcases btf (v20) with hc31 | hc31
  · have h := bif_t hc31 h
    refine Run.condT' rfl hc31 ?_
    refine Run.seq (Run.region ?_)
    refine Run.opG wantS_none (ex_assign rfl) rfl ?_
    refine Run.opG wantS_none (ex_assign rfl) rfl ?_
    refine Run.opsEnd ?_
    have hH33 : Has Fr M [.vec 36 3 ([] : List S_api_Burst).length .nils (([] : List S_api_Burst).flatMap enc36)] := hH.nils 36 3
    cases h
    exact Run.ret Try.func9 rfl (res_tmp rfl (res_tmp rfl res_nil)) ⟨_, rfl, (hH33.pick [0] rfl rfl).upF (none_le _)⟩
  · have h := bif_f hc31 h
    refine Run.condF' rfl hc31 ?_
    refine Run.skip (Run.inBlock (Run.seq (Run.region ?_)))
    refine Run.opG wantS_none (ex_move rfl) rfl ?_
    refine Run.opG wantS_none (ex_move rfl) rfl ?_
    refine Run.opG wantS_none (ex_move rfl) rfl ?_
    obtain ⟨r36, hr36, h⟩ := bnd_some h
    refine Run.callX wantS_none (ex_call rfl mkk31 cal31) rfl (search_bursts_ok F v0 v1 v2 sv0 _ _ (hH.slcF hv0) hr36) ?_
    rintro s36_0 M38 ⟨_, rfl, hN36⟩
    have hH38 : Has Fr M38 [.vec 36 3 r36.length s36_0 (r36.flatMap enc36)] := hN36.1 _ _ hH
    refine Run.opG wantS_none (ex_assign rfl) rfl ?_
    refine Run.opG wantS_none (ex_assign rfl) rfl ?_
    refine Run.opsEnd ?_
    cases h
    exact Run.ret Try.func9 rfl (res_tmp rfl (res_tmp rfl res_nil)) ⟨_, rfl, (hH38.pick [0] rfl rfl).upF (none_le _)⟩

def search_Bursts (F : Nat) (a0 : (List Int)) (a1 : Int) (a2 : Int) : Option ((List S_api_Burst) × Int) :=
  bnd (search_isRecord F a0) fun r22 =>
  bif (!r22) then
    some (([] : List S_api_Burst), (82 : Int))
  else
    bnd (search_isFrom F (1 : Int) a1 (1024 : Int)) fun r28 =>
    bif (!r28) then
      search_Bursts_1 F a0 a1 a2 true
    else
      bnd (search_isFrom F (1 : Int) a2 (1152921504606846976 : Int)) fun r40 =>
      search_Bursts_1 F a0 a1 a2 (!r40)

theorem search_Bursts_ok (F : Nat) (a0 : (List Int)) (a1 : Int) (a2 : Int) (s0 : SV) (r : (List S_api_Burst) × Int) (M : Mem) (hs0 : Slc (rd M) 1 (FlatR enc3) s0 a0) (h : search_Bursts F a0 a1 a2 = some r) : CallsM Try.prog 9 [s0, (.int .i64 a1), (.int .i64 a2)] M (fun s M' => ∃ q1, s = (.tuple [q1, (.int .i64 r.2)]) ∧ New M M' [.vec 36 3 r.1.length q1 (r.1.flatMap enc36)]) := by
  refine CallsM.fresh (Q := search_Bursts_post r) Try.func9 rfl rfl ?_ (by rintro s Me ⟨q1, rfl, hx⟩ ha hw; exact ⟨_, rfl, New.of rfl hx ha hw⟩)
  rw [search_Bursts] at h
  replace hs0 := hs0.mono (rdLe_frozen M) (fun _ _ h => h)
  have hH := Has.nil (frozen M)
  refine Run.seq (Run.region ?_)
  refine Run.opG wantS_none (ex_assign rfl) rfl ?_
  refine Run.opG wantS_none (ex_assign rfl) rfl ?_
  refine Run.opsEnd (Run.seq (Run.block (Run.seq (Run.region ?_))))
  refine Run.opG wantS_none (ex_move rfl) rfl ?_
  obtain ⟨r22, hr22, h⟩ := bnd_some h
  refine Run.callP wantS_none (ex_call rfl mkk29 cal29) rfl (search_isRecord_ok F a0 s0 _ _ (hH.slcF hs0) hr22) ?_
  refine Run.opG wantS_none (ex_not rfl) rfl ?_
  refine Run.opG wantS_none (ex_assign rfl) rfl ?_
  refine Run.opsEnd ?_
  rcases btf ((!r22)) with hc24 | hc24
  · have h := bif_t hc24 h
    refine Run.condT' rfl hc24 ?_
    refine Run.seq (Run.region ?_)
    refine Run.opG wantS_none (ex_assign rfl) rfl ?_
    refine Run.opG wantS_none (ex_assign rfl) rfl ?_
    refine Run.opsEnd ?_
    have hH26 : Has (ro (frozen M)) (frozen M) [.vec 36 3 ([] : List S_api_Burst).length .nils (([] : List S_api_Burst).flatMap enc36)] := hH.nils 36 3
    cases h
    exact Run.ret Try.func9 rfl (res_tmp rfl (res_tmp rfl res_nil)) ⟨_, rfl, (hH26.pick [0] rfl rfl).upF (none_le _)⟩
  · have h := bif_f hc24 h
    refine Run.condF' rfl hc24 ?_
    refine Run.seq (Run.region ?_)
    refine Run.opG wantS_none (ex_move rfl) rfl ?_
    obtain ⟨r28, hr28, h⟩ := bnd_some h
    refine Run.callP wantS_none (ex_call rfl mkk30 cal30) rfl (search_isFrom_ok F (1 : Int) a1 (1024 : Int) _ _ hr28) ?_
    refine Run.opG wantS_none (ex_not rfl) rfl ?_
    refine Run.opG wantS_none (ex_move rfl) rfl ?_
    rcases btf ((!r28)) with hc30 | hc30
    · have h := bif_t hc30 h
      refine Run.no (wantS_not' rfl rfl hc30) rfl ?_
      refine Run.no (wantS_not' rfl rfl hc30) rfl ?_
      refine Run.no (wantS_not' rfl rfl hc30) rfl ?_
      refine Run.opG wantS_none (ex_pickT' rfl hc30 rfl rfl) rfl ?_
      exact Run.pick [0, 1, 2, 20] (search_Bursts_1_ok F a0 a1 a2 true s0 _ _ _ hs0 hH h)
    · have h := bif_f hc30 h
      refine Run.opG (wantS_yes' rfl rfl hc30) (ex_move rfl) rfl ?_
      obtain ⟨r40, hr40, h⟩ := bnd_some h
      refine Run.callP (wantS_yes' rfl rfl hc30) (ex_call rfl mkk30 cal30) rfl (search_isFrom_ok F (1 : Int) a2 (1152921504606846976 : Int) _ _ hr40) ?_
      refine Run.opG (wantS_yes' rfl rfl hc30) (ex_not rfl) rfl ?_
      refine Run.opG wantS_none (ex_pickF' rfl hc30 rfl rfl) rfl ?_
      exact Run.pick [0, 1, 2, 20] (search_Bursts_1_ok F a0 a1 a2 (!r40) s0 _ _ _ hs0 hH h)

theorem mkk9 : makeK Try.prog 9 = none := by kernel_rfl
theorem cal9 : callable Try.prog 9 = true := by kernel_rfl
theorem off36_0 : fieldOff Try.prog 36 0 = some 0 := by kernel_rfl
theorem off29_1 : fieldOff Try.prog 29 1 = some 1 := by kernel_rfl
theorem plan3_1_1_1_1_1_1_1_1_1_1_1_0_1_0_0_1_0_0_0 : planOf Try.prog (opsC (atC Try.prog 3 [1, 1, 1, 1, 1, 1, 1, 1, 1, 1, 1, 0, 1, 0, 0, 1, 0, 0, 0])) = some [.fl 0, .fl 1, .fl 2, .fl 3, .fl 4, .fl 5, .fl 6, .fl 7, .fl 8, .fl 9, .fl 10, .fl 11, .fl 12, .fl 13, .fl 14, .fl 15, .fl 16, .fl 17, .fl 18, .fl 19, .fl 20, .fl 21, .fl 22, .sync] := by kernel_rfl
abbrev law08_SearchTiles_post (r : Bool) : SV → Mem → Prop := fun s _ => s = (.bool r)

def law08_SearchTiles_2 (F : Nat) (v66 : Bool) : Option (Bool) :=
  some v66

theorem law08_SearchTiles_2_ok (F : Nat) : ∀ (v66 : Bool) (Fr : Rd) (M : Mem) (r : Bool) (hH : Has Fr M []), law08_SearchTiles_2 F v66 = some r → Run Try.prog ⟨⟨3, [], none⟩, []⟩ 103 (law08_SearchTiles_post r) [(66, (.bool v66))] [itemC Try.prog 3 [1, 1, 1, 1, 1, 1, 1, 1, 1, 0, 1, 0, 0] 5, codeC Try.prog 3 [1, 1, 1, 1, 1, 1, 1, 1, 1, 0, 1, 0, 1], codeC Try.prog 3 [1, 1, 1, 1, 1, 1, 1, 1, 1, 1]] M := by
  intro v66 Fr M r hH h
  rw [law08_SearchTiles_2] at h
  refine Run.opG wantS_none (ex_assign rfl) rfl ?_
  refine Run.opsEnd ?_
  cases h
  exact Run.ret Try.func3 rfl (res_tmp rfl res_nil) rfl

def law08_SearchTiles_5 (F : Nat) (hd3 : Int → Int → Int → S_api_Tile → (List S_api_Burst) → Option (Bool)) (v8 : Int) (v11 : Int) (v12 : Int) (c37 : S_api_Tile) (l55 : (List S_api_Burst)) : Option (Bool) :=
  hd3 v8 v11 (w64 (v12 + (1 : Int))) c37 l55

theorem law08_SearchTiles_5_ok (F : Nat) (hd3 : Int → Int → Int → S_api_Tile → (List S_api_Burst) → Option (Bool)) (hhd3 : ∀ (v8 : Int) (v11 : Int) (v12 : Int) (c37 : S_api_Tile) (l55 : (List S_api_Burst)) (b37 : Pos) (s55 : SV) (Fr : Rd) (M : Mem) (r : Bool) (hH : Has Fr M [.obj b37 (.row 29 .whole [(.int .i64 c37.Level), (.int .i64 c37.At), (.int .i64 c37.D)]), .vec 36 3 l55.length s55 (l55.flatMap enc36)]), hd3 v8 v11 v12 c37 l55 = some r → Run Try.prog ⟨⟨3, [], none⟩, []⟩ 103 (law08_SearchTiles_post r) [(7, (.ptr b37 0)), (8, (.int .i64 v8)), (10, s55), (11, (.int .i64 v11)), (12, (.int .i64 v12))] [codeC Try.prog 3 [1, 1, 1, 1, 1, 1, 1, 1, 1, 1, 1, 0, 1, 0, 0], loopC Try.prog 3 [1, 1, 1, 1, 1, 1, 1, 1, 1, 1, 1, 0, 1, 0, 0], .inBlock 0, codeC Try.prog 3 [1, 1, 1, 1, 1, 1, 1, 1, 1, 1, 1, 1]] M) : ∀ (v8 : Int) (v11 : Int) (v12 : Int) (c37 : S_api_Tile) (l55 : (List S_api_Burst)) (b37 : Pos) (s55 : SV) (Fr : Rd) (M : Mem) (r : Bool) (hH : Has Fr M [.obj b37 (.row 29 .whole [(.int .i64 c37.Level), (.int .i64 c37.At), (.int .i64 c37.D)]), .vec 36 3 l55.length s55 (l55.flatMap enc36)]), law08_SearchTiles_5 F hd3 v8 v11 v12 c37 l55 = some r → Run Try.prog ⟨⟨3, [], none⟩, []⟩ 103 (law08_SearchTiles_post r) [(7, (.ptr b37 0)), (8, (.int .i64 v8)), (10, s55), (11, (.int .i64 v11)), (12, (.int .i64 v12))] [itemC Try.prog 3 [1, 1, 1, 1, 1, 1, 1, 1, 1, 1, 1, 0, 1, 0, 0, 1, 1] 0, loopC Try.prog 3 [1, 1, 1, 1, 1, 1, 1, 1, 1, 1, 1, 0, 1, 0, 0], .inBlock 0, codeC Try.prog 3 [1, 1, 1, 1, 1, 1, 1, 1, 1, 1, 1, 1]] M := by
  intro v8 v11 v12 c37 l55 b37 s55 Fr M r hH h
  rw [law08_SearchTiles_5] at h
  refine Run.opG wantS_none (ex_move rfl) rfl ?_
  refine Run.opG wantS_none (ex_add rfl rfl) rfl ?_
  refine Run.opG wantS_none (ex_assign rfl) rfl ?_
  refine Run.opsEnd (Run.inLoop ?_)
  exact Run.pick [7, 8, 10, 11, 12] (hhd3 v8 v11 (w64 (v12 + (1 : Int))) c37 l55 b37 s55 _ _ _ hH h)

def law08_SearchTiles_4 (F : Nat) (hd3 : Int → Int → Int → S_api_Tile → (List S_api_Burst) → Option (Bool)) (v8 : Int) (v11 : Int) (v12 : Int) (v95 : Bool) (c37 : S_api_Tile) (l55 : (List S_api_Burst)) : Option (Bool) :=
  bif v95 then
    law08_SearchTiles_5 F hd3 v8 (w64 (v11 + (1 : Int))) v12 c37 l55
  else
    law08_SearchTiles_5 F hd3 v8 v11 v12 c37 l55

theorem law08_SearchTiles_4_ok (F : Nat) (hd3 : Int → Int → Int → S_api_Tile → (List S_api_Burst) → Option (Bool)) (hhd3 : ∀ (v8 : Int) (v11 : Int) (v12 : Int) (c37 : S_api_Tile) (l55 : (List S_api_Burst)) (b37 : Pos) (s55 : SV) (Fr : Rd) (M : Mem) (r : Bool) (hH : Has Fr M [.obj b37 (.row 29 .whole [(.int .i64 c37.Level), (.int .i64 c37.At), (.int .i64 c37.D)]), .vec 36 3 l55.length s55 (l55.flatMap enc36)]), hd3 v8 v11 v12 c37 l55 = some r → Run Try.prog ⟨⟨3, [], none⟩, []⟩ 103 (law08_SearchTiles_post r) [(7, (.ptr b37 0)), (8, (.int .i64 v8)), (10, s55), (11, (.int .i64 v11)), (12, (.int .i64 v12))] [codeC Try.prog 3 [1, 1, 1, 1, 1, 1, 1, 1, 1, 1, 1, 0, 1, 0, 0], loopC Try.prog 3 [1, 1, 1, 1, 1, 1, 1, 1, 1, 1, 1, 0, 1, 0, 0], .inBlock 0, codeC Try.prog 3 [1, 1, 1, 1, 1, 1, 1, 1, 1, 1, 1, 1]] M) : ∀ (v8 : Int) (v11 : Int) (v12 : Int) (v95 : Bool) (c37 : S_api_Tile) (l55 : (List S_api_Burst)) (b37 : Pos) (s55 : SV) (Fr : Rd) (M : Mem) (r : Bool) (hH : Has Fr M [.obj b37 (.row 29 .whole [(.int .i64 c37.Level), (.int .i64 c37.At), (.int .i64 c37.D)]), .vec 36 3 l55.length s55 (l55.flatMap enc36)]), law08_SearchTiles_4 F hd3 v8 v11 v12 v95 c37 l55 = some r → Run Try.prog ⟨⟨3, [], none⟩, []⟩ 103 (law08_SearchTiles_post r) [(7, (.ptr b37 0)), (8, (.int .i64 v8)), (10, s55), (11, (.int .i64 v11)), (12, (.int .i64 v12)), (95, (.bool v95))] [codeC Try.prog 3 [1, 1, 1, 1, 1, 1, 1, 1, 1, 1, 1, 0, 1, 0, 0, 1, 0, 0, 1], .inBlock 1, codeC Try.prog 3 [1, 1, 1, 1, 1, 1, 1, 1, 1, 1, 1, 0, 1, 0, 0, 1, 1], loopC Try.prog 3 [1, 1, 1, 1, 1, 1, 1, 1, 1, 1, 1, 0, 1, 0, 0], .inBlock 0, codeC Try.prog 3 [1, 1, 1, 1, 1, 1, 1, 1, 1, 1, 1, 1]] M := by
  intro v8 v11 v12 v95 c37 l55 b37 s55 Fr M r hH h
  rw [law08_SearchTiles_4] at h
  rcases btf (v95) with hc66 | hc66
  · have h := bif_t hc66 h
    refine Run.condT' rfl hc66 ?_
    refine Run.region ?_
    refine Run.opG wantS_none (ex_move rfl) rfl ?_
    refine Run.opG wantS_none (ex_add rfl rfl) rfl ?_
    refine Run.opG wantS_none (ex_assign rfl) rfl ?_
    refine Run.opsEnd (Run.inBlock (Run.region ?_))
    exact Run.pick [7, 8, 10, 11, 12] (law08_SearchTiles_5_ok F hd3 hhd3 v8 (w64 (v11 + (1 : Int))) v12 c37 l55 b37 s55 _ _ _ hH h)
  · have h := bif_f hc66 h
    refine Run.condF' rfl hc66 ?_
    refine Run.skip (Run.inBlock (Run.region ?_))
    exact Run.pick [7, 8, 10, 11, 12] (law08_SearchTiles_5_ok F hd3 hhd3 v8 v11 v12 c37 l55 b37 s55 _ _ _ hH h)

def law08_SearchTiles_6 (F : Nat) (v102 : Bool) : Option (Bool) :=
  some v102

theorem law08_SearchTiles_6_ok (F : Nat) : ∀ (v102 : Bool) (Fr : Rd) (M : Mem) (r : Bool) (hH : Has Fr M []), law08_SearchTiles_6 F v102 = some r → Run Try.prog ⟨⟨3, [], none⟩, []⟩ 103 (law08_SearchTiles_post r) [(102, (.bool v102))] [itemC Try.prog 3 [1, 1, 1, 1, 1, 1, 1, 1, 1, 1, 1, 1, 0] 5, codeC Try.prog 3 [1, 1, 1, 1, 1, 1, 1, 1, 1, 1, 1, 1, 1]] M := by
  intro v102 Fr M r hH h
  rw [law08_SearchTiles_6] at h
  refine Run.opG wantS_none (ex_assign rfl) rfl ?_
  refine Run.opsEnd ?_
  cases h
  exact Run.ret Try.func3 rfl (res_tmp rfl res_nil) rfl

def law08_SearchTiles_3 (F : Nat) : Nat → Int → Int → Int → S_api_Tile → (List S_api_Burst) → Option (Bool)
  | 0, _, _, _, _, _ => none
  | N + 1, v8, v11, v12, c37, l55 =>
    bif (decide (v12 < (l55.length : Int))) then
      bnd (idx l55 v12) fun x63 =>
      bif (decide (x63.From ≤ (w64 (c37.At * v8)))) then
        bnd (idx l55 v12) fun x65 =>
        law08_SearchTiles_4 F (law08_SearchTiles_3 F N) v8 v11 v12 (decide ((w64 ((w64 (c37.At + (1 : Int))) * v8)) ≤ x65.To)) c37 l55
      else
        law08_SearchTiles_4 F (law08_SearchTiles_3 F N) v8 v11 v12 false c37 l55
    else
      bif (v11 == (1 : Int)) then
        bnd (works F) fun r69 =>
        law08_SearchTiles_6 F r69
      else
        law08_SearchTiles_6 F false

theorem law08_SearchTiles_3_ok (F : Nat) : ∀ (N : Nat), ∀ (v8 : Int) (v11 : Int) (v12 : Int) (c37 : S_api_Tile) (l55 : (List S_api_Burst)) (b37 : Pos) (s55 : SV) (Fr : Rd) (M : Mem) (r : Bool) (hH : Has Fr M [.obj b37 (.row 29 .whole [(.int .i64 c37.Level), (.int .i64 c37.At), (.int .i64 c37.D)]), .vec 36 3 l55.length s55 (l55.flatMap enc36)]), law08_SearchTiles_3 F N v8 v11 v12 c37 l55 = some r → Run Try.prog ⟨⟨3, [], none⟩, []⟩ 103 (law08_SearchTiles_post r) [(7, (.ptr b37 0)), (8, (.int .i64 v8)), (10, s55), (11, (.int .i64 v11)), (12, (.int .i64 v12))] [codeC Try.prog 3 [1, 1, 1, 1, 1, 1, 1, 1, 1, 1, 1, 0, 1, 0, 0], loopC Try.prog 3 [1, 1, 1, 1, 1, 1, 1, 1, 1, 1, 1, 0, 1, 0, 0], .inBlock 0, codeC Try.prog 3 [1, 1, 1, 1, 1, 1, 1, 1, 1, 1, 1, 1]] M := by
  intro N
  induction N with
  | zero =>
    intro v8 v11 v12 c37 l55 b37 s55 Fr M r hH h
    simp [law08_SearchTiles_3] at h
  | succ N ih =>
    intro v8 v11 v12 c37 l55 b37 s55 Fr M r hH h
    rw [law08_SearchTiles_3] at h
    refine Run.seq (Run.seq (Run.region ?_))
    refine Run.opG wantS_none (ex_move rfl) rfl ?_
    refine Run.opG wantS_none (ex_move rfl) rfl ?_
    refine Run.opG wantS_none (ex_len' rfl (hH.slc (i := 1) rfl enc36_len) lenk32) rfl ?_
    refine Run.opG wantS_none (ex_lss rfl rfl) rfl ?_
    refine Run.opsEnd ?_
    rcases btf ((decide (v12 < (l55.length : Int)))) with hc62 | hc62
    · have h := bif_t hc62 h
      refine Run.condT' rfl hc62 ?_
      refine Run.skip (Run.seq (Run.block (Run.seq ?_)))
      refine Run.drawG plan3_1_1_1_1_1_1_1_1_1_1_1_0_1_0_0_1_0_0_0 ?_
      refine DrawG.fl rfl (ev_ex wantS_none (ex_move rfl)) rfl ?_
      refine DrawG.fl rfl (ev_ex wantS_none (ex_move rfl)) rfl ?_
      obtain ⟨x63, hx63, h⟩ := bnd_some h
      obtain ⟨p63, o63, hb63, hx63, he63⟩ := vec_elem (P := Try.prog) (t := 32) (kk := .i64) hH (i := 1) rfl hx63 els32
      refine DrawG.fl rfl (ev_ex wantS_none (ex_elX rfl rfl hx63)) rfl ?_
      refine DrawG.fl rfl (ev_ex wantS_none (ex_fieldAddr rfl off36_0)) rfl ?_
      refine DrawG.fl rfl (ev_ex wantS_none (ex_load1 rfl ((hH.at (enc := enc36) (a := x63) (i := 1) rfl hb63 he63 enc36_len).fld (o := 0) rfl) rdLe_rfl agg3)) rfl ?_
      refine DrawG.fl rfl (ev_ex wantS_none (ex_fieldAddr rfl off29_1)) rfl ?_
      refine DrawG.fl rfl (ev_ex wantS_none (ex_load1 rfl (hH.cells (i := 0) rfl 1 rfl) rdLe_rfl agg3)) rfl ?_
      refine DrawG.fl rfl (ev_ex wantS_none (ex_move rfl)) rfl ?_
      refine DrawG.fl rfl (ev_ex wantS_none (ex_mul rfl rfl)) rfl ?_
      refine DrawG.fl rfl (ev_ex wantS_none (ex_leq rfl rfl)) rfl ?_
      refine DrawG.fl rfl (ev_ex wantS_none (ex_move rfl)) rfl ?_
      rcases btf ((decide (x63.From ≤ (w64 (c37.At * v8))))) with hc64 | hc64
      · have h := bif_t hc64 h
        refine DrawG.fl rfl (ev_ex (wantS_yes' rfl rfl hc64) (ex_fieldAddr rfl off29_1)) rfl ?_
        refine DrawG.fl rfl (ev_ex (wantS_yes' rfl rfl hc64) (ex_load1 rfl (hH.cells (i := 0) rfl 1 rfl) rdLe_rfl agg3)) rfl ?_
        refine DrawG.fl rfl (ev_ex (wantS_yes' rfl rfl hc64) (ex_add rfl rfl)) rfl ?_
        refine DrawG.fl rfl (ev_ex (wantS_yes' rfl rfl hc64) (ex_move rfl)) rfl ?_
        refine DrawG.fl rfl (ev_ex (wantS_yes' rfl rfl hc64) (ex_mul rfl rfl)) rfl ?_
        refine DrawG.fl rfl (ev_ex (wantS_yes' rfl rfl hc64) (ex_move rfl)) rfl ?_
        refine DrawG.fl rfl (ev_ex (wantS_yes' rfl rfl hc64) (ex_move rfl)) rfl ?_
        obtain ⟨x65, hx65, h⟩ := bnd_some h
        obtain ⟨p65, o65, hb65, hx65, he65⟩ := vec_elem (P := Try.prog) (t := 32) (kk := .i64) hH (i := 1) rfl hx65 els32
        refine DrawG.fl rfl (ev_ex (wantS_yes' rfl rfl hc64) (ex_elX rfl rfl hx65)) rfl ?_
        refine DrawG.fl rfl (ev_ex (wantS_yes' rfl rfl hc64) (ex_fieldAddr rfl off36_1)) rfl ?_
        refine DrawG.fl rfl (ev_ex (wantS_yes' rfl rfl hc64) (ex_load1 rfl ((hH.at (enc := enc36) (a := x65) (i := 1) rfl hb65 he65 enc36_len).fld (o := 1) rfl) rdLe_rfl agg3)) rfl ?_
        refine DrawG.fl rfl (ev_ex (wantS_yes' rfl rfl hc64) (ex_leq rfl rfl)) rfl ?_
        refine DrawG.fl rfl (ev_ex wantS_none (ex_pickT' rfl hc64 rfl rfl)) rfl ?_
        refine DrawG.sync ?_
        refine DrawG.nil ?_
        exact Run.pick [7, 8, 10, 11, 12, 95] (law08_SearchTiles_4_ok F (law08_SearchTiles_3 F N) ih v8 v11 v12 (decide ((w64 ((w64 (c37.At + (1 : Int))) * v8)) ≤ x65.To)) c37 l55 b37 s55 _ _ _ hH h)
      · have h := bif_f hc64 h
        refine DrawG.fl rfl (ev_no (wantS_not' rfl rfl hc64)) rfl ?_
        refine DrawG.fl rfl (ev_no (wantS_not' rfl rfl hc64)) rfl ?_
        refine DrawG.fl rfl (ev_no (wantS_not' rfl rfl hc64)) rfl ?_
        refine DrawG.fl rfl (ev_no (wantS_not' rfl rfl hc64)) rfl ?_
        refine DrawG.fl rfl (ev_no (wantS_not' rfl rfl hc64)) rfl ?_
        refine DrawG.fl rfl (ev_no (wantS_not' rfl rfl hc64)) rfl ?_
        refine DrawG.fl rfl (ev_no (wantS_not' rfl rfl hc64)) rfl ?_
        refine DrawG.fl rfl (ev_no (wantS_not' rfl rfl hc64)) rfl ?_
        refine DrawG.fl rfl (ev_no (wantS_not' rfl rfl hc64)) rfl ?_
        refine DrawG.fl rfl (ev_no (wantS_not' rfl rfl hc64)) rfl ?_
        refine DrawG.fl rfl (ev_no (wantS_not' rfl rfl hc64)) rfl ?_
        refine DrawG.fl rfl (ev_ex wantS_none (ex_pickF' rfl hc64 rfl rfl)) rfl ?_
        refine DrawG.sync ?_
        refine DrawG.nil ?_
        exact Run.pick [7, 8, 10, 11, 12, 95] (law08_SearchTiles_4_ok F (law08_SearchTiles_3 F N) ih v8 v11 v12 false c37 l55 b37 s55 _ _ _ hH h)
    · have h := bif_f hc62 h
      refine Run.condF' rfl hc62 ?_
      refine Run.exit rfl (Run.seq (Run.region ?_))
      refine Run.opG wantS_none (ex_move rfl) rfl ?_
      refine Run.opG wantS_none (ex_eql rfl rfl) rfl ?_
      refine Run.opG wantS_none (ex_move rfl) rfl ?_
      rcases btf ((v11 == (1 : Int))) with hc67 | hc67
      · have h := bif_t hc67 h
        obtain ⟨r69, hr69, h⟩ := bnd_some h
        refine Run.callP (wantS_yes' rfl rfl hc67) (ex_call rfl mkk6 cal6) rfl (works_ok F r69 _ hH  hr69) ?_
        refine Run.opG wantS_none (ex_pickT' rfl hc67 rfl rfl) rfl ?_
        exact Run.pick [102] (law08_SearchTiles_6_ok F r69 _ _ _ (hH.pick [] rfl rfl) h)
      · have h := bif_f hc67 h
        refine Run.no (wantS_not' rfl rfl hc67) rfl ?_
        refine Run.opG wantS_none (ex_pickF' rfl hc67 rfl rfl) rfl ?_
        exact Run.pick [102] (law08_SearchTiles_6_ok F false _ _ _ (hH.pick [] rfl rfl) h)

def law08_SearchTiles_1 (F : Nat) (v0 : (List Int)) (v1 : Int) (v24 : Bool) (l24 : (List S_api_Tile)) : Option (Bool) :=
  bif v24 then
    bnd (works F) fun r29 =>
    some r29
  else
    bnd (ref00_Mod F v1 (l24.length : Int)) fun r32 =>
    bnd (idx l24 r32) fun x35 =>
    bnd (ref00_In F x35.Level (1 : Int) (10 : Int)) fun r41 =>
    bif (!r41) then
      some false
    else
      bnd (shn x35.Level) fun j45 =>
      bnd (nz (w64 ((1 : Int) * 2 ^ (min j45 (IntKind.bits .i64))))) fun z47 =>
      bif ((w64 (Int.tdiv (w64 ((w64 ((w64 (x35.D * x35.D)) + (w64 ((1 : Int) * 2 ^ (min j45 (IntKind.bits .i64)))))) - (1 : Int))) (w64 ((1 : Int) * 2 ^ (min j45 (IntKind.bits .i64)))))) == (0 : Int)) then
        bnd (works F) fun r50 =>
        some r50
      else
        bnd (search_Bursts F v0 (w64 ((1 : Int) * 2 ^ (min j45 (IntKind.bits .i64)))) (w64 (Int.tdiv (w64 ((w64 ((w64 (x35.D * x35.D)) + (w64 ((1 : Int) * 2 ^ (min j45 (IntKind.bits .i64)))))) - (1 : Int))) (w64 ((1 : Int) * 2 ^ (min j45 (IntKind.bits .i64))))))) fun r54 =>
        bif (!(r54.2 == (0 : Int))) then
          bif (r54.2 == (82 : Int)) then
            bnd (works F) fun r60 =>
            law08_SearchTiles_2 F r60
          else
            law08_SearchTiles_2 F false
        else
          law08_SearchTiles_3 F F (w64 ((1 : Int) * 2 ^ (min j45 (IntKind.bits .i64)))) (0 : Int) (0 : Int) x35 r54.1

theorem law08_SearchTiles_1_ok (F : Nat) : ∀ (v0 : (List Int)) (v1 : Int) (v24 : Bool) (l24 : (List S_api_Tile)) (sv0 : SV) (s24 : SV) (Fr : Rd) (M : Mem) (r : Bool) (hv0 : Slc Fr 1 (FlatR enc3) sv0 v0) (hH : Has Fr M [.vec 29 3 l24.length s24 (l24.flatMap enc29)]), law08_SearchTiles_1 F v0 v1 v24 l24 = some r → Run Try.prog ⟨⟨3, [], none⟩, []⟩ 103 (law08_SearchTiles_post r) [(0, sv0), (1, (.int .i64 v1)), (5, s24), (24, (.bool v24))] [codeC Try.prog 3 [1, 1, 0, 1], codeC Try.prog 3 [1, 1, 1]] M := by
  intro v0 v1 v24 l24 sv0 s24 Fr M r hv0 hH h
  rw [law08_SearchTiles_1] at h
  rcases btf (v24) with hc27 | hc27
  · have h := bif_t hc27 h
    refine Run.condT' rfl hc27 ?_
    refine Run.seq (Run.region ?_)
    obtain ⟨r29, hr29, h⟩ := bnd_some h
    refine Run.callP wantS_none (ex_call rfl mkk6 cal6) rfl (works_ok F r29 _ hH  hr29) ?_
    refine Run.opG wantS_none (ex_assign rfl) rfl ?_
    refine Run.opsEnd ?_
    cases h
    exact Run.ret Try.func3 rfl (res_tmp rfl res_nil) rfl
  · have h := bif_f hc27 h
    refine Run.condF' rfl hc27 ?_
    refine Run.skip (Run.seq (Run.region ?_))
    refine Run.opG wantS_none (ex_move rfl) rfl ?_
    refine Run.opG wantS_none (ex_move rfl) rfl ?_
    refine Run.opG wantS_none (ex_move rfl) rfl ?_
    refine Run.opG wantS_none (ex_len' rfl (hH.slc (i := 0) rfl enc29_len) lenk23) rfl ?_
    obtain ⟨r32, hr32, h⟩ := bnd_some h
    refine Run.callP wantS_none (ex_call rfl mkk7 cal7) rfl (ref00_Mod_ok F v1 (l24.length : Int) _ _ hr32) ?_
    obtain ⟨x35, hx35, h⟩ := bnd_some h
    obtain ⟨p35, o35, hb35, hx35, he35⟩ := vec_elem (P := Try.prog) (t := 23) (kk := .i64) hH (i := 0) rfl hx35 els23
    refine Run.opG wantS_none (ex_elX rfl rfl hx35) rfl ?_
    refine Run.opG wantS_none (ex_loadA rfl (hH.at (enc := enc29) (a := x35) (i := 0) rfl hb35 he35 enc29_len) rdLe_rfl agg29 rfl rfl rfl) rfl ?_
    refine Run.opX wantS_none rfl (ExG.new (v := fun b => .ptr b 0) (ex_alloc zer29) hH) ?_
    rintro _ M38 ⟨b37, rfl, (hH38 : Has Fr M38 [.obj b37 (.row 29 .whole [(.int .i64 0), (.int .i64 0), (.int .i64 0)]), .vec 29 3 l24.length s24 (l24.flatMap enc29)])⟩
    refine Run.opX wantS_none rfl (ExG.storeC (c' := [(.int .i64 x35.Level), (.int .i64 x35.At), (.int .i64 x35.D)]) rfl rfl rfl hH38 (i := 0) rfl sz29 rfl rfl rfl rfl rfl) ?_
    rintro _ M39 ⟨rfl, (hH39 : Has Fr M39 [.obj b37 (.row 29 .whole [(.int .i64 x35.Level), (.int .i64 x35.At), (.int .i64 x35.D)]), .vec 29 3 l24.length s24 (l24.flatMap enc29)])⟩
    refine Run.opsEnd (Run.seq (Run.seq (Run.region ?_)))
    refine Run.opG wantS_none (ex_fieldAddr rfl off29_0) rfl ?_
    refine Run.opG wantS_none (ex_load1 rfl (hH39.cells (i := 0) rfl 0 rfl) rdLe_rfl agg3) rfl ?_
    obtain ⟨r41, hr41, h⟩ := bnd_some h
    refine Run.callP wantS_none (ex_call rfl mkk8 cal8) rfl (ref00_In_ok F x35.Level (1 : Int) (10 : Int) _ _ hr41) ?_
    refine Run.opG wantS_none (ex_not rfl) rfl ?_
    refine Run.opsEnd ?_
    rcases btf ((!r41)) with hc43 | hc43
    · have h := bif_t hc43 h
      refine Run.condT' rfl hc43 ?_
      refine Run.seq (Run.region ?_)
      refine Run.opG wantS_none (ex_assign rfl) rfl ?_
      refine Run.opsEnd ?_
      cases h
      exact Run.ret Try.func3 rfl (res_tmp rfl res_nil) rfl
    · have h := bif_f hc43 h
      refine Run.condF' rfl hc43 ?_
      refine Run.skip (Run.seq (Run.region ?_))
      refine Run.opG wantS_none (ex_fieldAddr rfl off29_0) rfl ?_
      refine Run.opG wantS_none (ex_load1 rfl (hH39.cells (i := 0) rfl 0 rfl) rdLe_rfl agg3) rfl ?_
      obtain ⟨j45, hj45, h⟩ := bnd_some h
      refine Run.opG wantS_none (ex_shl' rfl rfl hj45) rfl ?_
      refine Run.opG wantS_none (ex_assign rfl) rfl ?_
      refine Run.opsEnd (Run.seq (Run.region ?_))
      refine Run.opG wantS_none (ex_fieldAddr rfl off29_2) rfl ?_
      refine Run.opG wantS_none (ex_load1 rfl (hH39.cells (i := 0) rfl 2 rfl) rdLe_rfl agg3) rfl ?_
      refine Run.opG wantS_none (ex_fieldAddr rfl off29_2) rfl ?_
      refine Run.opG wantS_none (ex_load1 rfl (hH39.cells (i := 0) rfl 2 rfl) rdLe_rfl agg3) rfl ?_
      refine Run.opG wantS_none (ex_mul rfl rfl) rfl ?_
      refine Run.opG wantS_none (ex_move rfl) rfl ?_
      refine Run.opG wantS_none (ex_add rfl rfl) rfl ?_
      refine Run.opG wantS_none (ex_sub rfl rfl) rfl ?_
      refine Run.opG wantS_none (ex_move rfl) rfl ?_
      obtain ⟨z47, hz47, h⟩ := bnd_some h
      refine Run.opG wantS_none (ex_quo' rfl rfl hz47) rfl ?_
      refine Run.opG wantS_none (ex_assign rfl) rfl ?_
      refine Run.opsEnd (Run.seq (Run.seq (Run.region ?_)))
      refine Run.opG wantS_none (ex_move rfl) rfl ?_
      refine Run.opG wantS_none (ex_eql rfl rfl) rfl ?_
      refine Run.opsEnd ?_
      rcases btf (((w64 (Int.tdiv (w64 ((w64 ((w64 (x35.D * x35.D)) + (w64 ((1 : Int) * 2 ^ (min j45 (IntKind.bits .i64)))))) - (1 : Int))) (w64 ((1 : Int) * 2 ^ (min j45 (IntKind.bits .i64)))))) == (0 : Int))) with hc48 | hc48
      · have h := bif_t hc48 h
        refine Run.condT' rfl hc48 ?_
        refine Run.seq (Run.region ?_)
        obtain ⟨r50, hr50, h⟩ := bnd_some h
        refine Run.callP wantS_none (ex_call rfl mkk6 cal6) rfl (works_ok F r50 _ hH39  hr50) ?_
        refine Run.opG wantS_none (ex_assign rfl) rfl ?_
        refine Run.opsEnd ?_
        cases h
        exact Run.ret Try.func3 rfl (res_tmp rfl res_nil) rfl
      · have h := bif_f hc48 h
        refine Run.condF' rfl hc48 ?_
        refine Run.skip (Run.seq (Run.region ?_))
        refine Run.opG wantS_none (ex_move rfl) rfl ?_
        refine Run.opG wantS_none (ex_move rfl) rfl ?_
        refine Run.opG wantS_none (ex_move rfl) rfl ?_
        obtain ⟨r54, hr54, h⟩ := bnd_some h
        refine Run.callX wantS_none (ex_call rfl mkk9 cal9) rfl (search_Bursts_ok F v0 (w64 ((1 : Int) * 2 ^ (min j45 (IntKind.bits .i64)))) (w64 (Int.tdiv (w64 ((w64 ((w64 (x35.D * x35.D)) + (w64 ((1 : Int) * 2 ^ (min j45 (IntKind.bits .i64)))))) - (1 : Int))) (w64 ((1 : Int) * 2 ^ (min j45 (IntKind.bits .i64)))))) sv0 _ _ (hH39.slcF hv0) hr54) ?_
        rintro _ M56 ⟨s54_0, rfl, hN54⟩
        have hH56 : Has Fr M56 [.vec 36 3 r54.1.length s54_0 (r54.1.flatMap enc36), .obj b37 (.row 29 .whole [(.int .i64 x35.Level), (.int .i64 x35.At), (.int .i64 x35.D)]), .vec 29 3 l24.length s24 (l24.flatMap enc29)] := hN54.1 _ _ hH39
        refine Run.opG wantS_none (ex_move rfl) rfl ?_
        refine Run.opG wantS_none (ex_extract rfl rfl) rfl ?_
        refine Run.opG wantS_none (ex_extract rfl rfl) rfl ?_
        refine Run.opG wantS_none (ex_assign rfl) rfl ?_
        refine Run.opG wantS_none (ex_assign rfl) rfl ?_
        refine Run.opsEnd (Run.seq (Run.seq (Run.region ?_)))
        refine Run.opG wantS_none (ex_move rfl) rfl ?_
        refine Run.opG wantS_none (ex_neq rfl rfl) rfl ?_
        refine Run.opsEnd ?_
        rcases btf ((!(r54.2 == (0 : Int)))) with hc57 | hc57
        · have h := bif_t hc57 h
          refine Run.condT' rfl hc57 ?_
          refine Run.seq (Run.region ?_)
          refine Run.opG wantS_none (ex_move rfl) rfl ?_
          refine Run.opG wantS_none (ex_eql rfl rfl) rfl ?_
          refine Run.opG wantS_none (ex_move rfl) rfl ?_
          rcases btf ((r54.2 == (82 : Int))) with hc58 | hc58
          · have h := bif_t hc58 h
            obtain ⟨r60, hr60, h⟩ := bnd_some h
            refine Run.callP (wantS_yes' rfl rfl hc58) (ex_call rfl mkk6 cal6) rfl (works_ok F r60 _ hH56  hr60) ?_
            refine Run.opG wantS_none (ex_pickT' rfl hc58 rfl rfl) rfl ?_
            exact Run.pick [66] (law08_SearchTiles_2_ok F r60 _ _ _ (hH56.pick [] rfl rfl) h)
          · have h := bif_f hc58 h
            refine Run.no (wantS_not' rfl rfl hc58) rfl ?_
            refine Run.opG wantS_none (ex_pickF' rfl hc58 rfl rfl) rfl ?_
            exact Run.pick [66] (law08_SearchTiles_2_ok F false _ _ _ (hH56.pick [] rfl rfl) h)
        · have h := bif_f hc57 h
          refine Run.condF' rfl hc57 ?_
          refine Run.skip (Run.seq (Run.region ?_))
          refine Run.opG wantS_none (ex_assign rfl) rfl ?_
          refine Run.opsEnd (Run.seq (Run.seq (Run.region ?_)))
          refine Run.opG wantS_none (ex_assign rfl) rfl ?_
          refine Run.opsEnd (Run.block (Run.loop ?_))
          exact Run.pick [7, 8, 10, 11, 12] (law08_SearchTiles_3_ok F F (w64 ((1 : Int) * 2 ^ (min j45 (IntKind.bits .i64)))) (0 : Int) (0 : Int) x35 r54.1 b37 s54_0 _ _ _ (hH56.pick [1, 0] rfl rfl) h)

def law08_SearchTiles (F : Nat) (a0 : (List Int)) (a1 : Int) : Option (Bool) :=
  bnd (glitch_Tiles F a0) fun r23 =>
  bif (!(r23.2 == (0 : Int))) then
    law08_SearchTiles_1 F a0 a1 true r23.1
  else
    law08_SearchTiles_1 F a0 a1 ((r23.1.length : Int) == (0 : Int)) r23.1

theorem law08_SearchTiles_run (F : Nat) (a0 : (List Int)) (a1 : Int) (s0 : SV) (r : Bool) (M : Mem) (hs0 : Slc (rd M) 1 (FlatR enc3) s0 a0) (hfx : FixIn M fixes) (h : law08_SearchTiles F a0 a1 = some r) : Run Try.prog (fx0 3) 103 (law08_SearchTiles_post r) [(0, s0), (1, (.int .i64 a1))] [codeC Try.prog 3 []] (frozen M) := by
  rw [law08_SearchTiles] at h
  replace hs0 := hs0.mono (rdLe_frozen M) (fun _ _ h => h)
  have hH : Has (ro (frozen M)) (frozen M) [] := Has.ofFix hfx.frozen
  refine Run.seq (Run.region ?_)
  refine Run.opG wantS_none (ex_assign rfl) rfl ?_
  refine Run.opsEnd (Run.seq (Run.region ?_))
  refine Run.opG wantS_none (ex_move rfl) rfl ?_
  obtain ⟨r23, hr23, h⟩ := bnd_some h
  refine Run.callX wantS_none (ex_call rfl mkk5 cal5) rfl (glitch_Tiles_ok F a0 s0 _ _ (hH.slcF hs0) hr23) ?_
  rintro _ M25 ⟨s23_0, rfl, hN23⟩
  have hH25 : Has (ro (frozen M)) M25 [.vec 29 3 r23.1.length s23_0 (r23.1.flatMap enc29)] := hN23.1 _ _ hH
  refine Run.opG wantS_none (ex_move rfl) rfl ?_
  refine Run.opG wantS_none (ex_extract rfl rfl) rfl ?_
  refine Run.opG wantS_none (ex_extract rfl rfl) rfl ?_
  refine Run.opG wantS_none (ex_assign rfl) rfl ?_
  refine Run.opG wantS_none (ex_assign rfl) rfl ?_
  refine Run.opsEnd (Run.seq (Run.seq (Run.region ?_)))
  refine Run.opG wantS_none (ex_move rfl) rfl ?_
  refine Run.opG wantS_none (ex_neq rfl rfl) rfl ?_
  refine Run.opG wantS_none (ex_move rfl) rfl ?_
  rcases btf ((!(r23.2 == (0 : Int)))) with hc26 | hc26
  · have h := bif_t hc26 h
    refine Run.no (wantS_not' rfl rfl hc26) rfl ?_
    refine Run.no (wantS_not' rfl rfl hc26) rfl ?_
    refine Run.no (wantS_not' rfl rfl hc26) rfl ?_
    refine Run.opG wantS_none (ex_pickT' rfl hc26 rfl rfl) rfl ?_
    refine Run.opsEnd ?_
    exact Run.pick [0, 1, 5, 24] (law08_SearchTiles_1_ok F a0 a1 true r23.1 s0 s23_0 _ _ _ hs0 hH25 h)
  · have h := bif_f hc26 h
    refine Run.opG (wantS_yes' rfl rfl hc26) (ex_move rfl) rfl ?_
    refine Run.opG (wantS_yes' rfl rfl hc26) (ex_len' rfl (hH25.slc (i := 0) rfl enc29_len) lenk23) rfl ?_
    refine Run.opG (wantS_yes' rfl rfl hc26) (ex_eql rfl rfl) rfl ?_
    refine Run.opG wantS_none (ex_pickF' rfl hc26 rfl rfl) rfl ?_
    refine Run.opsEnd ?_
    exact Run.pick [0, 1, 5, 24] (law08_SearchTiles_1_ok F a0 a1 ((r23.1.length : Int) == (0 : Int)) r23.1 s0 s23_0 _ _ _ hs0 hH25 h)

end Go.Ev.SearchTiles
