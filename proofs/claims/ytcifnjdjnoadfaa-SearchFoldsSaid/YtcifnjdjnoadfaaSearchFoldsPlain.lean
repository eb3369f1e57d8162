/- Plain functions that say what functions of the program come to, and proofs of it, written by a program of the verifier's own. -/
import Derived.Test.YtcifnjdjnoadfaaEvL11
import Derived.Test.YtcifnjdjnoadfaaWorks
import Derived.KernelRfl
namespace Go.Ev.SearchFolds
open Go Go.Ev Go.Proofs
set_option maxRecDepth 100000
set_option linter.unusedVariables false

/-- The listed tables. -/
noncomputable def fixes : List (Nat × List SV) := Go.Proofs.Ytcifnjdjnoadfaa.works.fixes
/-- works() comes to true. -/
def works (_ : Nat) : Option Bool := some true
theorem fixH {Fr : Rd} {H : List Ent} {M : Mem} (hH : Has Fr M H) : FixIn M fixes := fun x hx => absurd hx List.not_mem_nil

theorem works_ok (F : Nat) (r : Bool) {Fr : Rd} {H : List Ent} (M : Mem) (hH : Has Fr M H) (h : works F = some r) : CallsM Try.prog 22 [] M fun s M' => s = .bool r ∧ M' = M := by
  cases h
  exact CallsM.closedFix (n := 300) (l := Go.Proofs.Ytcifnjdjnoadfaa.works.fixes) Go.Proofs.Ytcifnjdjnoadfaa.works.below Go.Proofs.Ytcifnjdjnoadfaa.works.plainF Go.Proofs.Ytcifnjdjnoadfaa.works.works_true (fun x hx => absurd hx List.not_mem_nil)


def enc3 (a : Int) : List SV := [(.int .i64 a)]
theorem enc3_len (a : Int) : (enc3 a).length = 1 := rfl
theorem enc3_ones (a : Int) : ones (enc3 a) = true := rfl
theorem elt38 : sliceElt Try.prog 38 = some (⟨1, 8, [(.int .i64 0)], 3⟩ : Elt) := by kernel_rfl
theorem lenk38 : lenK Try.prog 38 = some .sl := by kernel_rfl
theorem mkk131 : makeK Try.prog 131 = none := by kernel_rfl
theorem cal131 : callable Try.prog 131 = true := by kernel_rfl
theorem mkk136 : makeK Try.prog 136 = none := by kernel_rfl
theorem cal136 : callable Try.prog 136 = true := by kernel_rfl
theorem els38 : elems Try.prog 38 = some (.sl 1) := by kernel_rfl
theorem agg3 : aggSize Try.prog 3 = some none := by kernel_rfl
theorem mkk130 : makeK Try.prog 130 = none := by kernel_rfl
theorem cal130 : callable Try.prog 130 = true := by kernel_rfl
abbrev search_isFrom_post (r : Bool) : SV → Mem → Prop := fun s _ => s = (.bool r)

def search_isFrom_1 (F : Nat) (v14 : Bool) : Option (Bool) :=
  some v14

theorem search_isFrom_1_ok (F : Nat) : ∀ (v14 : Bool) (Fr : Rd) (M : Mem) (r : Bool) (hH : Has Fr M []), search_isFrom_1 F v14 = some r → Run Try.prog ⟨⟨62, [], none⟩, []⟩ 15 (search_isFrom_post r) [(14, (.bool v14))] [itemC Try.prog 62 [1, 0] 8, codeC Try.prog 62 [1, 1]] M := by
  intro v14 Fr M r hH h
  rw [search_isFrom_1] at h
  refine Run.opG wantS_none (ex_assign rfl) rfl ?_
  refine Run.opsEnd ?_
  cases h
  exact Run.ret Try.func62 rfl (res_tmp rfl res_nil) rfl

def search_isFrom (F : Nat) (a0 : Int) (a1 : Int) (a2 : Int) : Option (Bool) :=
  bif (decide (a0 ≤ a1)) then
    search_isFrom_1 F (decide (a1 ≤ a2))
  else
    search_isFrom_1 F false

theorem search_isFrom_ok (F : Nat) (a0 : Int) (a1 : Int) (a2 : Int) (r : Bool) (M : Mem) (h : search_isFrom F a0 a1 a2 = some r) : CallsM Try.prog 62 [(.int .i64 a0), (.int .i64 a1), (.int .i64 a2)] M (fun s M' => s = (.bool r) ∧ M' = M) := by
  refine CallsM.plain Try.func62 rfl rfl rfl (show Run _ _ _ (search_isFrom_post r) _ _ _ from ?_)
  rw [search_isFrom] at h
  have hH := Has.nil (frozen M)
  refine Run.seq (Run.region ?_)
  refine Run.opG wantS_none (ex_assign rfl) rfl ?_
  refine Run.opsEnd (Run.seq (Run.region ?_))
  refine Run.opG wantS_none (ex_move rfl) rfl ?_
  refine Run.opG wantS_none (ex_move rfl) rfl ?_
  refine Run.opG wantS_none (ex_leq rfl rfl) rfl ?_
  refine Run.opG wantS_none (ex_move rfl) rfl ?_
  rcases btf ((decide (a0 ≤ a1))) with hc21 | hc21
  · have h := bif_t hc21 h
    refine Run.opG (wantS_yes' rfl rfl hc21) (ex_move rfl) rfl ?_
    refine Run.opG (wantS_yes' rfl rfl hc21) (ex_move rfl) rfl ?_
    refine Run.opG (wantS_yes' rfl rfl hc21) (ex_leq rfl rfl) rfl ?_
    refine Run.opG wantS_none (ex_pickT' rfl hc21 rfl rfl) rfl ?_
    exact Run.pick [14] (search_isFrom_1_ok F (decide (a1 ≤ a2)) _ _ _ hH h)
  · have h := bif_f hc21 h
    refine Run.no (wantS_not' rfl rfl hc21) rfl ?_
    refine Run.no (wantS_not' rfl rfl hc21) rfl ?_
    refine Run.no (wantS_not' rfl rfl hc21) rfl ?_
    refine Run.opG wantS_none (ex_pickF' rfl hc21 rfl rfl) rfl ?_
    exact Run.pick [14] (search_isFrom_1_ok F false _ _ _ hH h)

theorem mkk62 : makeK Try.prog 62 = none := by kernel_rfl
theorem cal62 : callable Try.prog 62 = true := by kernel_rfl
abbrev search_areFrom_post (r : Bool) : SV → Mem → Prop := fun s _ => s = (.bool r)

def search_areFrom_1 (F : Nat) : Nat → (List Int) → Int → Int → Int → Option (Bool)
  | 0, _, _, _, _ => none
  | N + 1, v0, v7, v8, c22_0 =>
    bif (decide (v8 < v7)) then
      bnd (idx v0 v8) fun x26 =>
      bnd (search_isFrom F (w64 (-c22_0)) x26 c22_0) fun r28 =>
      bif (!r28) then
        some (!(decide ((0 : Int) ≤ v8)))
      else
        (search_areFrom_1 F N) v0 v7 (w64 (v8 + (1 : Int))) c22_0
    else
      some (!(decide ((0 : Int) ≤ ((-1) : Int))))

theorem search_areFrom_1_ok (F : Nat) : ∀ (N : Nat), ∀ (v0 : (List Int)) (v7 : Int) (v8 : Int) (c22_0 : Int) (sv0 : SV) (b22 : Pos) (Fr : Rd) (M : Mem) (r : Bool) (hv0 : Slc Fr 1 (FlatR enc3) sv0 v0) (hH : Has Fr M [.obj b22 (.row 3 .whole [(.int .i64 c22_0)])]), search_areFrom_1 F N v0 v7 v8 c22_0 = some r → Run Try.prog ⟨⟨136, [], none⟩, [.mk ⟨131, [], none⟩ 9 (treeOf []) [itemC Try.prog 131 [1, 0] 2, codeC Try.prog 131 [1, 1]], .mk ⟨113, [], none⟩ 11 (treeOf []) [itemC Try.prog 113 [1, 1, 0] 2, codeC Try.prog 113 [1, 1, 1]]]⟩ 19 (search_areFrom_post r) [(0, sv0), (1, (.fn (.func 130) [] [(.ptr b22 0)])), (7, (.int .i64 v7)), (8, (.int .i64 v8))] [codeC Try.prog 136 [1, 0, 1, 0, 0], loopC Try.prog 136 [1, 0, 1, 0, 0], .inBlock 0, codeC Try.prog 136 [1, 1]] M := by
  intro N
  induction N with
  | zero =>
    intro v0 v7 v8 c22_0 sv0 b22 Fr M r hv0 hH h
    simp [search_areFrom_1] at h
  | succ N ih =>
    intro v0 v7 v8 c22_0 sv0 b22 Fr M r hv0 hH h
    rw [search_areFrom_1] at h
    refine Run.seq (Run.region ?_)
    refine Run.opG wantS_none (ex_lss rfl rfl) rfl ?_
    refine Run.opsEnd (Run.seq ?_)
    rcases btf ((decide (v8 < v7))) with hc24 | hc24
    · have h := bif_t hc24 h
      refine Run.condT' rfl hc24 ?_
      refine Run.skip (Run.seq (Run.block (Run.seq (Run.region ?_))))
      refine Run.opG wantS_none (ex_move rfl) rfl ?_
      refine Run.opG wantS_none (ex_assign rfl) rfl ?_
      refine Run.opsEnd (Run.seq (Run.region ?_))
      refine Run.opG wantS_none (ex_move rfl) rfl ?_
      refine Run.opG wantS_none (ex_move rfl) rfl ?_
      refine Run.opG wantS_none (ex_move rfl) rfl ?_
      obtain ⟨x26, hx26, h⟩ := bnd_some h
      obtain ⟨p26, o26, _, hx26, hp26, rfl⟩ := sl_elem (P := Try.prog) (t := 38) (kk := .i64) hv0 hx26 els38
      refine Run.opG wantS_none (ex_elX rfl rfl hx26) rfl ?_
      refine Run.opG wantS_none (ex_load1 rfl (hH.ptrF hp26) rdLe_rfl agg3) rfl ?_
      refine Run.enter wantS_none (ex_closure rfl rfl mkk130 cal130) Try.func130 rfl rfl ?_
      refine Run.seq (Run.region ?_)
      refine Run.opG wantS_none (ex_assign rfl) rfl ?_
      refine Run.opsEnd (Run.seq (Run.region ?_))
      refine Run.opG wantS_none (ex_load1 rfl (hH.cells (i := 0) rfl 0 rfl) rdLe_rfl agg3) rfl ?_
      refine Run.opG wantS_none (ex_neg rfl) rfl ?_
      refine Run.opG wantS_none (ex_move rfl) rfl ?_
      refine Run.opG wantS_none (ex_load1 rfl (hH.cells (i := 0) rfl 0 rfl) rdLe_rfl agg3) rfl ?_
      obtain ⟨r28, hr28, h⟩ := bnd_some h
      refine Run.callP wantS_none (ex_call rfl mkk62 cal62) rfl (search_isFrom_ok F (w64 (-c22_0)) x26 c22_0 _ _ hr28) ?_
      refine Run.opG wantS_none (ex_not rfl) rfl ?_
      refine Run.opG wantS_none (ex_assign rfl) rfl ?_
      refine Run.opsEnd ?_
      refine Run.retTo Try.func130 rfl (res_tmp rfl res_nil) rfl ?_
      refine Run.opsEnd ?_
      rcases btf ((!r28)) with hc30 | hc30
      · have h := bif_t hc30 h
        refine Run.condT' rfl hc30 ?_
        refine Run.seq (Run.region ?_)
        refine Run.opG wantS_none (ex_move rfl) rfl ?_
        refine Run.opG wantS_none (ex_assign rfl) rfl ?_
        refine Run.opsEnd ?_
        refine Run.retTo Try.func136 rfl (res_tmp rfl res_nil) rfl ?_
        refine Run.opG wantS_none (ex_geq rfl rfl) rfl ?_
        refine Run.opG wantS_none (ex_assign rfl) rfl ?_
        refine Run.opsEnd ?_
        refine Run.retTo Try.func131 rfl (res_tmp rfl res_nil) rfl ?_
        refine Run.opG wantS_none (ex_not rfl) rfl ?_
        refine Run.opG wantS_none (ex_assign rfl) rfl ?_
        refine Run.opsEnd ?_
        cases h
        exact Run.ret Try.func113 rfl (res_tmp rfl res_nil) rfl
      · have h := bif_f hc30 h
        refine Run.condF' rfl hc30 ?_
        refine Run.skip (Run.inBlock (Run.region ?_))
        refine Run.opG wantS_none (ex_add rfl rfl) rfl ?_
        refine Run.opG wantS_none (ex_move rfl) rfl ?_
        refine Run.opsEnd (Run.inLoop ?_)
        exact Run.low (.cons (fle_pick [] rfl) (.cons (fle_pick [] rfl) .nil)) (Run.pick [0, 1, 7, 8] (ih v0 v7 (w64 (v8 + (1 : Int))) c22_0 sv0 b22 _ _ _ hv0 hH h))
    · have h := bif_f hc24 h
      refine Run.condF' rfl hc24 ?_
      refine Run.exit rfl (Run.seq (Run.region ?_))
      refine Run.opG wantS_none (ex_assign rfl) rfl ?_
      refine Run.opsEnd ?_
      refine Run.retTo Try.func136 rfl (res_tmp rfl res_nil) rfl ?_
      refine Run.opG wantS_none (ex_geq rfl rfl) rfl ?_
      refine Run.opG wantS_none (ex_assign rfl) rfl ?_
      refine Run.opsEnd ?_
      refine Run.retTo Try.func131 rfl (res_tmp rfl res_nil) rfl ?_
      refine Run.opG wantS_none (ex_not rfl) rfl ?_
      refine Run.opG wantS_none (ex_assign rfl) rfl ?_
      refine Run.opsEnd ?_
      cases h
      exact Run.ret Try.func113 rfl (res_tmp rfl res_nil) rfl

def search_areFrom (F : Nat) (a0 : (List Int)) (a1 : Int) : Option (Bool) :=
  search_areFrom_1 F F a0 (a0.length : Int) (0 : Int) a1

theorem search_areFrom_ok (F : Nat) (a0 : (List Int)) (a1 : Int) (s0 : SV) (r : Bool) (M : Mem) (hs0 : Slc (rd M) 1 (FlatR enc3) s0 a0) (h : search_areFrom F a0 a1 = some r) : CallsM Try.prog 113 [s0, (.int .i64 a1)] M (fun s M' => s = (.bool r) ∧ M' = M) := by
  refine CallsM.plain Try.func113 rfl rfl rfl (show Run _ _ _ (search_areFrom_post r) _ _ _ from ?_)
  rw [search_areFrom] at h
  replace hs0 := hs0.mono (rdLe_frozen M) (fun _ _ h => h)
  have hH := Has.nil (frozen M)
  refine Run.seq (Run.region ?_)
  refine Run.opX wantS_none rfl (ExG.box rfl rfl hH) ?_
  rintro _ M23 ⟨b22, rfl, (hH23 : Has (ro (frozen M)) M23 [.obj b22 (.row 3 .whole [(.int .i64 a1)])])⟩
  refine Run.opG wantS_none (ex_assign rfl) rfl ?_
  refine Run.opsEnd (Run.seq (Run.region ?_))
  refine Run.opG wantS_none (ex_makeFunc rfl rfl) rfl ?_
  refine Run.opG wantS_none (ex_assign rfl) rfl ?_
  refine Run.opsEnd (Run.seq (Run.region ?_))
  refine Run.opG wantS_none (ex_move rfl) rfl ?_
  refine Run.opG wantS_none (ex_move rfl) rfl ?_
  refine Run.enter wantS_none (ex_call rfl mkk131 cal131) Try.func131 rfl rfl ?_
  refine Run.seq (Run.region ?_)
  refine Run.opG wantS_none (ex_assign rfl) rfl ?_
  refine Run.opsEnd (Run.seq (Run.region ?_))
  refine Run.opG wantS_none (ex_move rfl) rfl ?_
  refine Run.opG wantS_none (ex_move rfl) rfl ?_
  refine Run.enter wantS_none (ex_call rfl mkk136 cal136) Try.func136 rfl rfl ?_
  refine Run.seq (Run.region ?_)
  refine Run.opG wantS_none (ex_assign rfl) rfl ?_
  refine Run.opsEnd (Run.seq (Run.seq (Run.region ?_)))
  refine Run.opG wantS_none (ex_move rfl) rfl ?_
  refine Run.opG wantS_none (ex_len' rfl hs0 lenk38) rfl ?_
  refine Run.opG wantS_none (ex_move rfl) rfl ?_
  refine Run.opsEnd (Run.block (Run.loop ?_))
  exact Run.low (.cons (fle_pick [] rfl) (.cons (fle_pick [] rfl) .nil)) (Run.pick [0, 1, 7, 8] (search_areFrom_1_ok F F a0 (a0.length : Int) (0 : Int) a1 s0 b22 _ _ _ hs0 hH23 h))

theorem mkk113 : makeK Try.prog 113 = none := by kernel_rfl
theorem cal113 : callable Try.prog 113 = true := by kernel_rfl
abbrev search_isRecord_post (r : Bool) : SV → Mem → Prop := fun s _ => s = (.bool r)

def search_isRecord_1 (F : Nat) (v9 : Bool) : Option (Bool) :=
  some v9

theorem search_isRecord_1_ok (F : Nat) : ∀ (v9 : Bool) (Fr : Rd) (M : Mem) (r : Bool) (hH : Has Fr M []), search_isRecord_1 F v9 = some r → Run Try.prog ⟨⟨69, [], none⟩, []⟩ 10 (search_isRecord_post r) [(9, (.bool v9))] [itemC Try.prog 69 [1, 0] 7, codeC Try.prog 69 [1, 1]] M := by
  intro v9 Fr M r hH h
  rw [search_isRecord_1] at h
  refine Run.opG wantS_none (ex_assign rfl) rfl ?_
  refine Run.opsEnd ?_
  cases h
  exact Run.ret Try.func69 rfl (res_tmp rfl res_nil) rfl

def search_isRecord (F : Nat) (a0 : (List Int)) : Option (Bool) :=
  bif (decide ((a0.length : Int) ≤ (1024 : Int))) then
    bnd (search_areFrom F a0 (16384 : Int)) fun r23 =>
    search_isRecord_1 F r23
  else
    search_isRecord_1 F false

theorem search_isRecord_ok (F : Nat) (a0 : (List Int)) (s0 : SV) (r : Bool) (M : Mem) (hs0 : Slc (rd M) 1 (FlatR enc3) s0 a0) (h : search_isRecord F a0 = some r) : CallsM Try.prog 69 [s0] M (fun s M' => s = (.bool r) ∧ M' = M) := by
  refine CallsM.plain Try.func69 rfl rfl rfl (show Run _ _ _ (search_isRecord_post r) _ _ _ from ?_)
  rw [search_isRecord] at h
  replace hs0 := hs0.mono (rdLe_frozen M) (fun _ _ h => h)
  have hH := Has.nil (frozen M)
  refine Run.seq (Run.region ?_)
  refine Run.opG wantS_none (ex_assign rfl) rfl ?_
  refine Run.opsEnd (Run.seq (Run.region ?_))
  refine Run.opG wantS_none (ex_move rfl) rfl ?_
  refine Run.opG wantS_none (ex_len' rfl hs0 lenk38) rfl ?_
  refine Run.opG wantS_none (ex_leq rfl rfl) rfl ?_
  refine Run.opG wantS_none (ex_move rfl) rfl ?_
  rcases btf ((decide ((a0.length : Int) ≤ (1024 : Int)))) with hc21 | hc21
  · have h := bif_t hc21 h
    refine Run.opG (wantS_yes' rfl rfl hc21) (ex_move rfl) rfl ?_
    obtain ⟨r23, hr23, h⟩ := bnd_some h
    refine Run.callP (wantS_yes' rfl rfl hc21) (ex_call rfl mkk113 cal113) rfl (search_areFrom_ok F a0 (16384 : Int) s0 _ _ (hH.slcF hs0) hr23) ?_
    refine Run.opG wantS_none (ex_pickT' rfl hc21 rfl rfl) rfl ?_
    exact Run.pick [9] (search_isRecord_1_ok F r23 _ _ _ hH h)
  · have h := bif_f hc21 h
    refine Run.no (wantS_not' rfl rfl hc21) rfl ?_
    refine Run.no (wantS_not' rfl rfl hc21) rfl ?_
    refine Run.opG wantS_none (ex_pickF' rfl hc21 rfl rfl) rfl ?_
    exact Run.pick [9] (search_isRecord_1_ok F false _ _ _ hH h)

theorem mkk69 : makeK Try.prog 69 = none := by kernel_rfl
theorem cal69 : callable Try.prog 69 = true := by kernel_rfl
abbrev search_arePeriods_post (r : Bool) : SV → Mem → Prop := fun s _ => s = (.bool r)

def search_arePeriods_1 (F : Nat) : Nat → Int → (List Int) → Int → Int → Option (Bool)
  | 0, _, _, _, _ => none
  | N + 1, v0, v7, v8, v9 =>
    bif (decide (v9 < v8)) then
      bnd (idx v7 v9) fun x23 =>
      bnd (search_isFrom F (1 : Int) x23 v0) fun r25 =>
      bif (!r25) then
        some false
      else
        (search_arePeriods_1 F N) v0 v7 v8 (w64 (v9 + (1 : Int)))
    else
      some true

theorem search_arePeriods_1_ok (F : Nat) : ∀ (N : Nat), ∀ (v0 : Int) (v7 : (List Int)) (v8 : Int) (v9 : Int) (sv7 : SV) (Fr : Rd) (M : Mem) (r : Bool) (hv7 : Slc Fr 1 (FlatR enc3) sv7 v7) (hH : Has Fr M []), search_arePeriods_1 F N v0 v7 v8 v9 = some r → Run Try.prog ⟨⟨115, [], none⟩, []⟩ 18 (search_arePeriods_post r) [(0, (.int .i64 v0)), (7, sv7), (8, (.int .i64 v8)), (9, (.int .i64 v9))] [codeC Try.prog 115 [1, 0, 1, 0, 0], loopC Try.prog 115 [1, 0, 1, 0, 0], .inBlock 0, codeC Try.prog 115 [1, 1]] M := by
  intro N
  induction N with
  | zero =>
    intro v0 v7 v8 v9 sv7 Fr M r hv7 hH h
    simp [search_arePeriods_1] at h
  | succ N ih =>
    intro v0 v7 v8 v9 sv7 Fr M r hv7 hH h
    rw [search_arePeriods_1] at h
    refine Run.seq (Run.region ?_)
    refine Run.opG wantS_none (ex_lss rfl rfl) rfl ?_
    refine Run.opsEnd (Run.seq ?_)
    rcases btf ((decide (v9 < v8))) with hc21 | hc21
    · have h := bif_t hc21 h
      refine Run.condT' rfl hc21 ?_
      refine Run.skip (Run.seq (Run.block (Run.seq (Run.region ?_))))
      obtain ⟨x23, hx23, h⟩ := bnd_some h
      obtain ⟨p23, o23, _, hx23, hp23, rfl⟩ := sl_elem (P := Try.prog) (t := 38) (kk := .i64) hv7 hx23 els38
      refine Run.opG wantS_none (ex_elX rfl rfl hx23) rfl ?_
      refine Run.opG wantS_none (ex_load1 rfl (hH.ptrF hp23) rdLe_rfl agg3) rfl ?_
      refine Run.opG wantS_none (ex_assign rfl) rfl ?_
      refine Run.opsEnd (Run.seq (Run.region ?_))
      refine Run.opG wantS_none (ex_move rfl) rfl ?_
      refine Run.opG wantS_none (ex_move rfl) rfl ?_
      obtain ⟨r25, hr25, h⟩ := bnd_some h
      refine Run.callP wantS_none (ex_call rfl mkk62 cal62) rfl (search_isFrom_ok F (1 : Int) x23 v0 _ _ hr25) ?_
      refine Run.opG wantS_none (ex_not rfl) rfl ?_
      refine Run.opsEnd ?_
      rcases btf ((!r25)) with hc27 | hc27
      · have h := bif_t hc27 h
        refine Run.condT' rfl hc27 ?_
        refine Run.seq (Run.region ?_)
        refine Run.opG wantS_none (ex_assign rfl) rfl ?_
        refine Run.opsEnd ?_
        cases h
        exact Run.ret Try.func115 rfl (res_tmp rfl res_nil) rfl
      · have h := bif_f hc27 h
        refine Run.condF' rfl hc27 ?_
        refine Run.skip (Run.inBlock (Run.region ?_))
        refine Run.opG wantS_none (ex_add rfl rfl) rfl ?_
        refine Run.opG wantS_none (ex_move rfl) rfl ?_
        refine Run.opsEnd (Run.inLoop ?_)
        exact Run.pick [0, 7, 8, 9] (ih v0 v7 v8 (w64 (v9 + (1 : Int))) sv7 _ _ _ hv7 hH h)
    · have h := bif_f hc21 h
      refine Run.condF' rfl hc21 ?_
      refine Run.exit rfl (Run.seq (Run.region ?_))
      refine Run.opG wantS_none (ex_assign rfl) rfl ?_
      refine Run.opsEnd ?_
      cases h
      exact Run.ret Try.func115 rfl (res_tmp rfl res_nil) rfl

def search_arePeriods (F : Nat) (a0 : Int) (a1 : (List Int)) : Option (Bool) :=
  search_arePeriods_1 F F a0 a1 (a1.length : Int) (0 : Int)

theorem search_arePeriods_ok (F : Nat) (a0 : Int) (a1 : (List Int)) (s0 : SV) (r : Bool) (M : Mem) (hs0 : Slc (rd M) 1 (FlatR enc3) s0 a1) (h : search_arePeriods F a0 a1 = some r) : CallsM Try.prog 115 [(.int .i64 a0), s0] M (fun s M' => s = (.bool r) ∧ M' = M) := by
  refine CallsM.plain Try.func115 rfl rfl rfl (show Run _ _ _ (search_arePeriods_post r) _ _ _ from ?_)
  rw [search_arePeriods] at h
  replace hs0 := hs0.mono (rdLe_frozen M) (fun _ _ h => h)
  have hH := Has.nil (frozen M)
  refine Run.seq (Run.region ?_)
  refine Run.opG wantS_none (ex_assign rfl) rfl ?_
  refine Run.opsEnd (Run.seq (Run.seq (Run.region ?_)))
  refine Run.opG wantS_none (ex_move rfl) rfl ?_
  refine Run.opG wantS_none (ex_len' rfl hs0 lenk38) rfl ?_
  refine Run.opG wantS_none (ex_move rfl) rfl ?_
  refine Run.opsEnd (Run.block (Run.loop ?_))
  exact Run.pick [0, 7, 8, 9] (search_arePeriods_1_ok F F a0 a1 (a1.length : Int) (0 : Int) s0 _ _ _ hs0 hH h)

theorem mkk115 : makeK Try.prog 115 = none := by kernel_rfl
theorem cal115 : callable Try.prog 115 = true := by kernel_rfl
abbrev search_checkPeriods_post (r : Int) : SV → Mem → Prop := fun s _ => s = (.int .i64 r)

def search_checkPeriods (F : Nat) (a0 : (List Int)) (a1 : (List Int)) : Option (Int) :=
  bnd (search_isRecord F a0) fun r22 =>
  bif (!r22) then
    some (82 : Int)
  else
    bnd (search_arePeriods F (a0.length : Int) a1) fun r26 =>
    bif (!r26) then
      some (8 : Int)
    else
      some (0 : Int)

theorem search_checkPeriods_ok (F : Nat) (a0 : (List Int)) (a1 : (List Int)) (s0 s1 : SV) (r : Int) (M : Mem) (hs0 : Slc (rd M) 1 (FlatR enc3) s0 a0) (hs1 : Slc (rd M) 1 (FlatR enc3) s1 a1) (h : search_checkPeriods F a0 a1 = some r) : CallsM Try.prog 73 [s0, s1] M (fun s M' => s = (.int .i64 r) ∧ M' = M) := by
  refine CallsM.plain Try.func73 rfl rfl rfl (show Run _ _ _ (search_checkPeriods_post r) _ _ _ from ?_)
  rw [search_checkPeriods] at h
  replace hs0 := hs0.mono (rdLe_frozen M) (fun _ _ h => h)
  replace hs1 := hs1.mono (rdLe_frozen M) (fun _ _ h => h)
  have hH := Has.nil (frozen M)
  refine Run.seq (Run.region ?_)
  refine Run.opG wantS_none (ex_assign rfl) rfl ?_
  refine Run.opsEnd (Run.seq (Run.block (Run.seq (Run.region ?_))))
  refine Run.opG wantS_none (ex_move rfl) rfl ?_
  obtain ⟨r22, hr22, h⟩ := bnd_some h
  refine Run.callP wantS_none (ex_call rfl mkk69 cal69) rfl (search_isRecord_ok F a0 s0 _ _ (hH.slcF hs0) hr22) ?_
  refine Run.opG wantS_none (ex_not rfl) rfl ?_
  refine Run.opG wantS_none (ex_assign rfl) rfl ?_
  refine Run.opsEnd ?_
  rcases btf ((!r22)) with hc24 | hc24
  · have h := bif_t hc24 h
    refine Run.condT' rfl hc24 ?_
    refine Run.seq (Run.region ?_)
    refine Run.opG wantS_none (ex_assign rfl) rfl ?_
    refine Run.opsEnd ?_
    cases h
    exact Run.ret Try.func73 rfl (res_tmp rfl res_nil) rfl
  · have h := bif_f hc24 h
    refine Run.condF' rfl hc24 ?_
    refine Run.seq (Run.region ?_)
    refine Run.opG wantS_none (ex_move rfl) rfl ?_
    refine Run.opG wantS_none (ex_len' rfl hs0 lenk38) rfl ?_
    refine Run.opG wantS_none (ex_move rfl) rfl ?_
    obtain ⟨r26, hr26, h⟩ := bnd_some h
    refine Run.callP wantS_none (ex_call rfl mkk115 cal115) rfl (search_arePeriods_ok F (a0.length : Int) a1 s1 _ _ (hH.slcF hs1) hr26) ?_
    refine Run.opG wantS_none (ex_not rfl) rfl ?_
    refine Run.opG wantS_none (ex_assign rfl) rfl ?_
    refine Run.opsEnd ?_
    rcases btf ((!r26)) with hc28 | hc28
    · have h := bif_t hc28 h
      refine Run.condT' rfl hc28 ?_
      refine Run.seq (Run.region ?_)
      refine Run.opG wantS_none (ex_assign rfl) rfl ?_
      refine Run.opsEnd ?_
      cases h
      exact Run.ret Try.func73 rfl (res_tmp rfl res_nil) rfl
    · have h := bif_f hc28 h
      refine Run.condF' rfl hc28 ?_
      refine Run.skip (Run.inBlock (Run.seq (Run.region ?_)))
      refine Run.opG wantS_none (ex_assign rfl) rfl ?_
      refine Run.opsEnd ?_
      cases h
      exact Run.ret Try.func73 rfl (res_tmp rfl res_nil) rfl

theorem mkk73 : makeK Try.prog 73 = none := by kernel_rfl
theorem cal73 : callable Try.prog 73 = true := by kernel_rfl
theorem slk38 : slK Try.prog 38 = some (.sl 1) := by kernel_rfl
theorem sz3 : szOf Try.prog 3 = some 1 := by kernel_rfl
abbrev search_fold_post (r : (List Int) × Int) : SV → Mem → Prop := fun s Me => ∃ q1, s = (.tuple [q1, (.int .i64 r.2)]) ∧ Has (fun _ => none) Me [.vec 3 1 r.1.length q1 (r.1.flatMap enc3)]

def search_fold_1 (F : Nat) : Nat → Int → Int → (List Int) → Int → Int → (List Int) → Option ((List Int) × Int)
  | 0, _, _, _, _, _, _ => none
  | N + 1, v1, v5, v18, v19, v20, l24 =>
    bif (decide (v20 < v19)) then
      bnd (idx v18 v20) fun x30 =>
      bnd (nz v1) fun z32 =>
      bnd (idx l24 (Int.tmod v20 v1)) fun x34 =>
      bnd (inn l24 (Int.tmod v20 v1)) fun o36 =>
      bnd (upd l24 o36 (w64 (x34 + x30))) fun l38 =>
      (search_fold_1 F N) v1 v5 v18 v19 (w64 (v20 + (1 : Int))) l38
    else
      some (l24, v5)

theorem search_fold_1_ok (F : Nat) : ∀ (N : Nat), ∀ (v1 : Int) (v5 : Int) (v18 : (List Int)) (v19 : Int) (v20 : Int) (l24 : (List Int)) (sv18 : SV) (s24 : SV) (Fr : Rd) (M : Mem) (r : (List Int) × Int) (hv18 : Slc Fr 1 (FlatR enc3) sv18 v18) (hH : Has Fr M [.vec 3 1 l24.length s24 (l24.flatMap enc3)]), search_fold_1 F N v1 v5 v18 v19 v20 l24 = some r → Run Try.prog ⟨⟨74, [], none⟩, []⟩ 37 (search_fold_post r) [(1, (.int .i64 v1)), (4, s24), (5, (.int .i64 v5)), (18, sv18), (19, (.int .i64 v19)), (20, (.int .i64 v20))] [codeC Try.prog 74 [1, 1, 1, 0, 1, 0, 0], loopC Try.prog 74 [1, 1, 1, 0, 1, 0, 0], .inBlock 0, codeC Try.prog 74 [1, 1, 1, 1]] M := by
  intro N
  induction N with
  | zero =>
    intro v1 v5 v18 v19 v20 l24 sv18 s24 Fr M r hv18 hH h
    simp [search_fold_1] at h
  | succ N ih =>
    intro v1 v5 v18 v19 v20 l24 sv18 s24 Fr M r hv18 hH h
    rw [search_fold_1] at h
    refine Run.seq (Run.region ?_)
    refine Run.opG wantS_none (ex_lss rfl rfl) rfl ?_
    refine Run.opsEnd (Run.seq ?_)
    rcases btf ((decide (v20 < v19))) with hc28 | hc28
    · have h := bif_t hc28 h
      refine Run.condT' rfl hc28 ?_
      refine Run.skip (Run.seq (Run.block (Run.seq (Run.region ?_))))
      refine Run.opG wantS_none (ex_move rfl) rfl ?_
      obtain ⟨x30, hx30, h⟩ := bnd_some h
      obtain ⟨p30, o30, _, hx30, hp30, rfl⟩ := sl_elem (P := Try.prog) (t := 38) (kk := .i64) hv18 hx30 els38
      refine Run.opG wantS_none (ex_elX rfl rfl hx30) rfl ?_
      refine Run.opG wantS_none (ex_load1 rfl (hH.ptrF hp30) rdLe_rfl agg3) rfl ?_
      refine Run.opG wantS_none (ex_assign rfl) rfl ?_
      refine Run.opG wantS_none (ex_assign rfl) rfl ?_
      refine Run.opsEnd (Run.region ?_)
      refine Run.opG wantS_none (ex_move rfl) rfl ?_
      refine Run.opG wantS_none (ex_move rfl) rfl ?_
      refine Run.opG wantS_none (ex_move rfl) rfl ?_
      obtain ⟨z32, hz32, h⟩ := bnd_some h
      refine Run.opG wantS_none (ex_rem' rfl rfl hz32) rfl ?_
      obtain ⟨x34, hx34, h⟩ := bnd_some h
      obtain ⟨p34, o34, hb34, hx34, he34⟩ := vec_elem (P := Try.prog) (t := 38) (kk := .i64) hH (i := 0) rfl hx34 els38
      refine Run.opG wantS_none (ex_elX rfl rfl hx34) rfl ?_
      refine Run.opG wantS_none (ex_load1 rfl (hH.at (enc := enc3) (a := x34) (i := 0) rfl hb34 he34 enc3_len) rdLe_rfl agg3) rfl ?_
      refine Run.opG wantS_none (ex_move rfl) rfl ?_
      refine Run.opG wantS_none (ex_add rfl rfl) rfl ?_
      obtain ⟨o36, ho36, h⟩ := bnd_some h
      obtain ⟨p36, hb36, hx36⟩ := vec_place (P := Try.prog) (t := 38) (kk := .i64) hH (i := 0) rfl ho36 els38
      refine Run.opG wantS_none (ex_elX rfl rfl hx36) rfl ?_
      obtain ⟨l38, hl38, h⟩ := bnd_some h
      refine Run.opX wantS_none rfl (ExG.storeEl rfl rfl hH (i := 0) rfl hb36 hl38 sz3 rfl enc3_len enc3_ones) ?_
      rintro _ M39 ⟨rfl, (hH39 : Has Fr M39 [.vec 3 1 l38.length s24 (l38.flatMap enc3)])⟩
      refine Run.opsEnd (Run.inBlock (Run.region ?_))
      refine Run.opG wantS_none (ex_add rfl rfl) rfl ?_
      refine Run.opG wantS_none (ex_move rfl) rfl ?_
      refine Run.opsEnd (Run.inLoop ?_)
      exact Run.pick [1, 4, 5, 18, 19, 20] (ih v1 v5 v18 v19 (w64 (v20 + (1 : Int))) l38 sv18 s24 _ _ _ hv18 hH39 h)
    · have h := bif_f hc28 h
      refine Run.condF' rfl hc28 ?_
      refine Run.exit rfl (Run.seq (Run.region ?_))
      refine Run.opG wantS_none (ex_move rfl) rfl ?_
      refine Run.opG wantS_none (ex_move rfl) rfl ?_
      refine Run.opG wantS_none (ex_assign rfl) rfl ?_
      refine Run.opG wantS_none (ex_assign rfl) rfl ?_
      refine Run.opsEnd ?_
      cases h
      exact Run.ret Try.func74 rfl (res_tmp rfl (res_tmp rfl res_nil)) ⟨_, rfl, (hH.pick [0] rfl rfl).upF (none_le _)⟩

def search_fold (F : Nat) (a0 : (List Int)) (a1 : Int) : Option ((List Int) × Int) :=
  bnd (nz a1) fun z22 =>
  bnd (mk a1 8 (0 : Int)) fun l24 =>
  bnd (sub a0 0 (w64 ((w64 (Int.tdiv (a0.length : Int) a1)) * a1))) fun l27 =>
  search_fold_1 F F a1 (w64 (Int.tdiv (a0.length : Int) a1)) l27 (l27.length : Int) (0 : Int) l24

theorem search_fold_ok (F : Nat) (a0 : (List Int)) (a1 : Int) (s0 : SV) (r : (List Int) × Int) (M : Mem) (hs0 : Slc (rd M) 1 (FlatR enc3) s0 a0) (h : search_fold F a0 a1 = some r) : CallsM Try.prog 74 [s0, (.int .i64 a1)] M (fun s M' => ∃ q1, s = (.tuple [q1, (.int .i64 r.2)]) ∧ New M M' [.vec 3 1 r.1.length q1 (r.1.flatMap enc3)]) := by
  refine CallsM.fresh (Q := search_fold_post r) Try.func74 rfl rfl ?_ (by rintro s Me ⟨q1, rfl, hx⟩ ha hw; exact ⟨_, rfl, New.of rfl hx ha hw⟩)
  rw [search_fold] at h
  replace hs0 := hs0.mono (rdLe_frozen M) (fun _ _ h => h)
  have hH := Has.nil (frozen M)
  refine Run.seq (Run.region ?_)
  refine Run.opG wantS_none (ex_assign rfl) rfl ?_
  refine Run.opG wantS_none (ex_assign rfl) rfl ?_
  refine Run.opsEnd (Run.seq (Run.region ?_))
  refine Run.opG wantS_none (ex_move rfl) rfl ?_
  refine Run.opG wantS_none (ex_len' rfl hs0 lenk38) rfl ?_
  refine Run.opG wantS_none (ex_move rfl) rfl ?_
  obtain ⟨z22, hz22, h⟩ := bnd_some h
  refine Run.opG wantS_none (ex_quo' rfl rfl hz22) rfl ?_
  refine Run.opG wantS_none (ex_assign rfl) rfl ?_
  refine Run.opsEnd (Run.seq (Run.region ?_))
  refine Run.opG wantS_none (ex_move rfl) rfl ?_
  obtain ⟨l24, hl24, h⟩ := bnd_some h
  refine Run.opX wantS_none rfl (ExG.make (enc := enc3) (z := 1) rfl rfl hl24 elt38 rfl rfl enc3_len hH) ?_
  rintro s24 M25 (hH25 : Has (ro (frozen M)) M25 [.vec 3 1 l24.length s24 (l24.flatMap enc3)])
  refine Run.opG wantS_none (ex_assign rfl) rfl ?_
  refine Run.opsEnd (Run.seq (Run.seq (Run.region ?_)))
  refine Run.opG wantS_none (ex_move rfl) rfl ?_
  refine Run.opG wantS_none (ex_move rfl) rfl ?_
  refine Run.opG wantS_none (ex_move rfl) rfl ?_
  refine Run.opG wantS_none (ex_mul rfl rfl) rfl ?_
  obtain ⟨l27, hl27, h⟩ := bnd_some h
  obtain ⟨s27, hx27, hs27⟩ := sl_subH (P := Try.prog) (t := 38) (k0 := .i64) hs0 hl27 slk38
  refine Run.opG wantS_none (ex_slX rfl (argO_none) (argO_some rfl) hx27) rfl ?_
  refine Run.opG wantS_none (ex_len' rfl hs27 lenk38) rfl ?_
  refine Run.opG wantS_none (ex_move rfl) rfl ?_
  refine Run.opsEnd (Run.block (Run.loop ?_))
  exact Run.pick [1, 4, 5, 18, 19, 20] (search_fold_1_ok F F a1 (w64 (Int.tdiv (a0.length : Int) a1)) l27 (l27.length : Int) (0 : Int) l24 s27 s24 _ _ _ hs27 hH25 h)

theorem mkk74 : makeK Try.prog 74 = none := by kernel_rfl
theorem cal74 : callable Try.prog 74 = true := by kernel_rfl
abbrev search_Fold_post (r : (List Int) × Int) : SV → Mem → Prop := fun s Me => ∃ q1, s = (.tuple [q1, (.int .i64 r.2)]) ∧ Has (fun _ => none) Me [.vec 3 1 r.1.length q1 (r.1.flatMap enc3)]

def search_Fold (F : Nat) (a0 : (List Int)) (a1 : Int) : Option ((List Int) × Int) :=
  bnd (search_checkPeriods F a0 ([a1] : List Int)) fun r25 =>
  bif (!(r25 == (0 : Int))) then
    some (([] : List Int), r25)
  else
    bnd (search_fold F a0 a1) fun r32 =>
    some (r32.1, (0 : Int))

theorem search_Fold_ok (F : Nat) (a0 : (List Int)) (a1 : Int) (s0 : SV) (r : (List Int) × Int) (M : Mem) (hs0 : Slc (rd M) 1 (FlatR enc3) s0 a0) (h : search_Fold F a0 a1 = some r) : CallsM Try.prog 33 [s0, (.int .i64 a1)] M (fun s M' => ∃ q1, s = (.tuple [q1, (.int .i64 r.2)]) ∧ New M M' [.vec 3 1 r.1.length q1 (r.1.flatMap enc3)]) := by
  refine CallsM.fresh (Q := search_Fold_post r) Try.func33 rfl rfl ?_ (by rintro s Me ⟨q1, rfl, hx⟩ ha hw; exact ⟨_, rfl, New.of rfl hx ha hw⟩)
  rw [search_Fold] at h
  replace hs0 := hs0.mono (rdLe_frozen M) (fun _ _ h => h)
  have hH := Has.nil (frozen M)
  refine Run.seq (Run.region ?_)
  refine Run.opG wantS_none (ex_assign rfl) rfl ?_
  refine Run.opG wantS_none (ex_assign rfl) rfl ?_
  refine Run.opsEnd (Run.seq (Run.seq (Run.region ?_)))
  refine Run.opG wantS_none (ex_move rfl) rfl ?_
  refine Run.opG wantS_none (ex_move rfl) rfl ?_
  refine Run.opX wantS_none rfl (ExG.built (enc := enc3) (l := ([a1] : List Int)) (z := 1) rfl elt38 rfl rfl rfl enc3_len hH) ?_
  rintro s22 M23 (hH23 : Has (ro (frozen M)) M23 [.vec 3 1 ([a1] : List Int).length s22 (([a1] : List Int).flatMap enc3)])
  obtain ⟨r25, hr25, h⟩ := bnd_some h
  refine Run.callP wantS_none (ex_call rfl mkk73 cal73) rfl (search_checkPeriods_ok F a0 ([a1] : List Int) s0 s22 _ _ (hH23.slcF hs0) (hH23.slc (i := 0) rfl enc3_len) hr25) ?_
  refine Run.opG wantS_none (ex_assign rfl) rfl ?_
  refine Run.opsEnd (Run.seq (Run.region ?_))
  refine Run.opG wantS_none (ex_move rfl) rfl ?_
  refine Run.opG wantS_none (ex_neq rfl rfl) rfl ?_
  refine Run.opsEnd ?_
  rcases btf ((!(r25 == (0 : Int)))) with hc27 | hc27
  · have h := bif_t hc27 h
    refine Run.condT' rfl hc27 ?_
    refine Run.seq (Run.region ?_)
    refine Run.opG wantS_none (ex_move rfl) rfl ?_
    refine Run.opG wantS_none (ex_assign rfl) rfl ?_
    refine Run.opG wantS_none (ex_assign rfl) rfl ?_
    refine Run.opsEnd ?_
    have hH29 : Has (ro (frozen M)) M23 [.vec 3 1 ([] : List Int).length .nils (([] : List Int).flatMap enc3), .vec 3 1 ([a1] : List Int).length s22 (([a1] : List Int).flatMap enc3)] := hH23.nils 3 1
    cases h
    exact Run.ret Try.func33 rfl (res_tmp rfl (res_tmp rfl res_nil)) ⟨_, rfl, (hH29.pick [0] rfl rfl).upF (none_le _)⟩
  · have h := bif_f hc27 h
    refine Run.condF' rfl hc27 ?_
    refine Run.skip (Run.seq (Run.region ?_))
    refine Run.opG wantS_none (ex_move rfl) rfl ?_
    refine Run.opG wantS_none (ex_move rfl) rfl ?_
    obtain ⟨r32, hr32, h⟩ := bnd_some h
    refine Run.callX wantS_none (ex_call rfl mkk74 cal74) rfl (search_fold_ok F a0 a1 s0 _ _ (hH23.slcF hs0) hr32) ?_
    rintro _ M34 ⟨s32_0, rfl, hN32⟩
    have hH34 : Has (ro (frozen M)) M34 [.vec 3 1 r32.1.length s32_0 (r32.1.flatMap enc3), .vec 3 1 ([a1] : List Int).length s22 (([a1] : List Int).flatMap enc3)] := hN32.1 _ _ hH23
    refine Run.opG wantS_none (ex_move rfl) rfl ?_
    refine Run.opG wantS_none (ex_extract rfl rfl) rfl ?_
    refine Run.opG wantS_none (ex_extract rfl rfl) rfl ?_
    refine Run.opG wantS_none (ex_assign rfl) rfl ?_
    refine Run.opG wantS_none (ex_assign rfl) rfl ?_
    refine Run.opsEnd (Run.seq (Run.region ?_))
    refine Run.opG wantS_none (ex_move rfl) rfl ?_
    refine Run.opG wantS_none (ex_assign rfl) rfl ?_
    refine Run.opG wantS_none (ex_assign rfl) rfl ?_
    refine Run.opsEnd ?_
    cases h
    exact Run.ret Try.func33 rfl (res_tmp rfl (res_tmp rfl res_nil)) ⟨_, rfl, (hH34.pick [0] rfl rfl).upF (none_le _)⟩

theorem mkk33 : makeK Try.prog 33 = none := by kernel_rfl
theorem cal33 : callable Try.prog 33 = true := by kernel_rfl
abbrev ref00_In_post (r : Bool) : SV → Mem → Prop := fun s _ => s = (.bool r)

def ref00_In_1 (F : Nat) (v14 : Bool) : Option (Bool) :=
  some v14

theorem ref00_In_1_ok (F : Nat) : ∀ (v14 : Bool) (Fr : Rd) (M : Mem) (r : Bool) (hH : Has Fr M []), ref00_In_1 F v14 = some r → Run Try.prog ⟨⟨49, [], none⟩, []⟩ 15 (ref00_In_post r) [(14, (.bool v14))] [itemC Try.prog 49 [1, 0] 8, codeC Try.prog 49 [1, 1]] M := by
  intro v14 Fr M r hH h
  rw [ref00_In_1] at h
  refine Run.opG wantS_none (ex_assign rfl) rfl ?_
  refine Run.opsEnd ?_
  cases h
  exact Run.ret Try.func49 rfl (res_tmp rfl res_nil) rfl

def ref00_In (F : Nat) (a0 : Int) (a1 : Int) (a2 : Int) : Option (Bool) :=
  bif (decide (a1 ≤ a0)) then
    ref00_In_1 F (decide (a0 ≤ a2))
  else
    ref00_In_1 F false

theorem ref00_In_ok (F : Nat) (a0 : Int) (a1 : Int) (a2 : Int) (r : Bool) (M : Mem) (h : ref00_In F a0 a1 a2 = some r) : CallsM Try.prog 49 [(.int .i64 a0), (.int .i64 a1), (.int .i64 a2)] M (fun s M' => s = (.bool r) ∧ M' = M) := by
  refine CallsM.plain Try.func49 rfl rfl rfl (show Run _ _ _ (ref00_In_post r) _ _ _ from ?_)
  rw [ref00_In] at h
  have hH := Has.nil (frozen M)
  refine Run.seq (Run.region ?_)
  refine Run.opG wantS_none (ex_assign rfl) rfl ?_
  refine Run.opsEnd (Run.seq (Run.region ?_))
  refine Run.opG wantS_none (ex_move rfl) rfl ?_
  refine Run.opG wantS_none (ex_move rfl) rfl ?_
  refine Run.opG wantS_none (ex_leq rfl rfl) rfl ?_
  refine Run.opG wantS_none (ex_move rfl) rfl ?_
  rcases btf ((decide (a1 ≤ a0))) with hc21 | hc21
  · have h := bif_t hc21 h
    refine Run.opG (wantS_yes' rfl rfl hc21) (ex_move rfl) rfl ?_
    refine Run.opG (wantS_yes' rfl rfl hc21) (ex_move rfl) rfl ?_
    refine Run.opG (wantS_yes' rfl rfl hc21) (ex_leq rfl rfl) rfl ?_
    refine Run.opG wantS_none (ex_pickT' rfl hc21 rfl rfl) rfl ?_
    exact Run.pick [14] (ref00_In_1_ok F (decide (a0 ≤ a2)) _ _ _ hH h)
  · have h := bif_f hc21 h
    refine Run.no (wantS_not' rfl rfl hc21) rfl ?_
    refine Run.no (wantS_not' rfl rfl hc21) rfl ?_
    refine Run.no (wantS_not' rfl rfl hc21) rfl ?_
    refine Run.opG wantS_none (ex_pickF' rfl hc21 rfl rfl) rfl ?_
    exact Run.pick [14] (ref00_In_1_ok F false _ _ _ hH h)

theorem mkk49 : makeK Try.prog 49 = none := by kernel_rfl
theorem cal49 : callable Try.prog 49 = true := by kernel_rfl
abbrev ref08_record_post (r : Bool) : SV → Mem → Prop := fun s _ => s = (.bool r)

def ref08_record_1 (F : Nat) : Nat → (List Int) → Int → Option (Bool)
  | 0, _, _ => none
  | N + 1, v0, v3 =>
    bif (decide (v3 < (v0.length : Int))) then
      bnd (idx v0 v3) fun x23 =>
      bnd (ref00_In F x23 ((-16384) : Int) (16384 : Int)) fun r25 =>
      bif (!r25) then
        some false
      else
        (ref08_record_1 F N) v0 (w64 (v3 + (1 : Int)))
    else
      some (decide ((v0.length : Int) ≤ (1024 : Int)))

theorem ref08_record_1_ok (F : Nat) : ∀ (N : Nat), ∀ (v0 : (List Int)) (v3 : Int) (sv0 : SV) (Fr : Rd) (M : Mem) (r : Bool) (hv0 : Slc Fr 1 (FlatR enc3) sv0 v0) (hH : Has Fr M []), ref08_record_1 F N v0 v3 = some r → Run Try.prog ⟨⟨71, [], none⟩, []⟩ 19 (ref08_record_post r) [(0, sv0), (3, (.int .i64 v3))] [codeC Try.prog 71 [1, 0, 1, 0, 0], loopC Try.prog 71 [1, 0, 1, 0, 0], .inBlock 0, codeC Try.prog 71 [1, 1]] M := by
  intro N
  induction N with
  | zero =>
    intro v0 v3 sv0 Fr M r hv0 hH h
    simp [ref08_record_1] at h
  | succ N ih =>
    intro v0 v3 sv0 Fr M r hv0 hH h
    rw [ref08_record_1] at h
    refine Run.seq (Run.seq (Run.region ?_))
    refine Run.opG wantS_none (ex_move rfl) rfl ?_
    refine Run.opG wantS_none (ex_move rfl) rfl ?_
    refine Run.opG wantS_none (ex_len' rfl hv0 lenk38) rfl ?_
    refine Run.opG wantS_none (ex_lss rfl rfl) rfl ?_
    refine Run.opsEnd ?_
    rcases btf ((decide (v3 < (v0.length : Int)))) with hc21 | hc21
    · have h := bif_t hc21 h
      refine Run.condT' rfl hc21 ?_
      refine Run.skip (Run.seq (Run.block (Run.seq (Run.region ?_))))
      refine Run.opG wantS_none (ex_move rfl) rfl ?_
      refine Run.opG wantS_none (ex_move rfl) rfl ?_
      obtain ⟨x23, hx23, h⟩ := bnd_some h
      obtain ⟨p23, o23, _, hx23, hp23, rfl⟩ := sl_elem (P := Try.prog) (t := 38) (kk := .i64) hv0 hx23 els38
      refine Run.opG wantS_none (ex_elX rfl rfl hx23) rfl ?_
      refine Run.opG wantS_none (ex_load1 rfl (hH.ptrF hp23) rdLe_rfl agg3) rfl ?_
      obtain ⟨r25, hr25, h⟩ := bnd_some h
      refine Run.callP wantS_none (ex_call rfl mkk49 cal49) rfl (ref00_In_ok F x23 ((-16384) : Int) (16384 : Int) _ _ hr25) ?_
      refine Run.opG wantS_none (ex_not rfl) rfl ?_
      refine Run.opsEnd ?_
      rcases btf ((!r25)) with hc27 | hc27
      · have h := bif_t hc27 h
        refine Run.condT' rfl hc27 ?_
        refine Run.seq (Run.region ?_)
        refine Run.opG wantS_none (ex_assign rfl) rfl ?_
        refine Run.opsEnd ?_
        cases h
        exact Run.ret Try.func71 rfl (res_tmp rfl res_nil) rfl
      · have h := bif_f hc27 h
        refine Run.condF' rfl hc27 ?_
        refine Run.skip (Run.inBlock (Run.region ?_))
        refine Run.opG wantS_none (ex_move rfl) rfl ?_
        refine Run.opG wantS_none (ex_add rfl rfl) rfl ?_
        refine Run.opG wantS_none (ex_assign rfl) rfl ?_
        refine Run.opsEnd (Run.inLoop ?_)
        exact Run.pick [0, 3] (ih v0 (w64 (v3 + (1 : Int))) sv0 _ _ _ hv0 hH h)
    · have h := bif_f hc21 h
      refine Run.condF' rfl hc21 ?_
      refine Run.exit rfl (Run.seq (Run.region ?_))
      refine Run.opG wantS_none (ex_move rfl) rfl ?_
      refine Run.opG wantS_none (ex_len' rfl hv0 lenk38) rfl ?_
      refine Run.opG wantS_none (ex_leq rfl rfl) rfl ?_
      refine Run.opG wantS_none (ex_assign rfl) rfl ?_
      refine Run.opsEnd ?_
      cases h
      exact Run.ret Try.func71 rfl (res_tmp rfl res_nil) rfl

def ref08_record (F : Nat) (a0 : (List Int)) : Option (Bool) :=
  ref08_record_1 F F a0 (0 : Int)

theorem ref08_record_ok (F : Nat) (a0 : (List Int)) (s0 : SV) (r : Bool) (M : Mem) (hs0 : Slc (rd M) 1 (FlatR enc3) s0 a0) (h : ref08_record F a0 = some r) : CallsM Try.prog 71 [s0] M (fun s M' => s = (.bool r) ∧ M' = M) := by
  refine CallsM.plain Try.func71 rfl rfl rfl (show Run _ _ _ (ref08_record_post r) _ _ _ from ?_)
  rw [ref08_record] at h
  replace hs0 := hs0.mono (rdLe_frozen M) (fun _ _ h => h)
  have hH := Has.nil (frozen M)
  refine Run.seq (Run.region ?_)
  refine Run.opG wantS_none (ex_assign rfl) rfl ?_
  refine Run.opsEnd (Run.seq (Run.seq (Run.region ?_)))
  refine Run.opG wantS_none (ex_assign rfl) rfl ?_
  refine Run.opsEnd (Run.block (Run.loop ?_))
  exact Run.pick [0, 3] (ref08_record_1_ok F F a0 (0 : Int) s0 _ _ _ hs0 hH h)

theorem mkk71 : makeK Try.prog 71 = none := by kernel_rfl
theorem cal71 : callable Try.prog 71 = true := by kernel_rfl
abbrev ref08_period_post (r : Int) : SV → Mem → Prop := fun s _ => s = (.int .i64 r)

def ref08_period (F : Nat) (a0 : (List Int)) (a1 : Int) : Option (Int) :=
  bnd (ref08_record F a0) fun r22 =>
  bif (!r22) then
    some (82 : Int)
  else
    bnd (ref00_In F a1 (1 : Int) (a0.length : Int)) fun r26 =>
    bif (!r26) then
      some (8 : Int)
    else
      some (0 : Int)

theorem ref08_period_ok (F : Nat) (a0 : (List Int)) (a1 : Int) (s0 : SV) (r : Int) (M : Mem) (hs0 : Slc (rd M) 1 (FlatR enc3) s0 a0) (h : ref08_period F a0 a1 = some r) : CallsM Try.prog 75 [s0, (.int .i64 a1)] M (fun s M' => s = (.int .i64 r) ∧ M' = M) := by
  refine CallsM.plain Try.func75 rfl rfl rfl (show Run _ _ _ (ref08_period_post r) _ _ _ from ?_)
  rw [ref08_period] at h
  replace hs0 := hs0.mono (rdLe_frozen M) (fun _ _ h => h)
  have hH := Has.nil (frozen M)
  refine Run.seq (Run.region ?_)
  refine Run.opG wantS_none (ex_assign rfl) rfl ?_
  refine Run.opsEnd (Run.seq (Run.seq (Run.region ?_)))
  refine Run.opG wantS_none (ex_move rfl) rfl ?_
  obtain ⟨r22, hr22, h⟩ := bnd_some h
  refine Run.callP wantS_none (ex_call rfl mkk71 cal71) rfl (ref08_record_ok F a0 s0 _ _ (hH.slcF hs0) hr22) ?_
  refine Run.opG wantS_none (ex_not rfl) rfl ?_
  refine Run.opsEnd ?_
  rcases btf ((!r22)) with hc24 | hc24
  · have h := bif_t hc24 h
    refine Run.condT' rfl hc24 ?_
    refine Run.seq (Run.region ?_)
    refine Run.opG wantS_none (ex_assign rfl) rfl ?_
    refine Run.opsEnd ?_
    cases h
    exact Run.ret Try.func75 rfl (res_tmp rfl res_nil) rfl
  · have h := bif_f hc24 h
    refine Run.condF' rfl hc24 ?_
    refine Run.skip (Run.seq (Run.seq (Run.region ?_)))
    refine Run.opG wantS_none (ex_move rfl) rfl ?_
    refine Run.opG wantS_none (ex_move rfl) rfl ?_
    refine Run.opG wantS_none (ex_len' rfl hs0 lenk38) rfl ?_
    obtain ⟨r26, hr26, h⟩ := bnd_some h
    refine Run.callP wantS_none (ex_call rfl mkk49 cal49) rfl (ref00_In_ok F a1 (1 : Int) (a0.length : Int) _ _ hr26) ?_
    refine Run.opG wantS_none (ex_not rfl) rfl ?_
    refine Run.opsEnd ?_
    rcases btf ((!r26)) with hc28 | hc28
    · have h := bif_t hc28 h
      refine Run.condT' rfl hc28 ?_
      refine Run.seq (Run.region ?_)
      refine Run.opG wantS_none (ex_assign rfl) rfl ?_
      refine Run.opsEnd ?_
      cases h
      exact Run.ret Try.func75 rfl (res_tmp rfl res_nil) rfl
    · have h := bif_f hc28 h
      refine Run.condF' rfl hc28 ?_
      refine Run.skip (Run.seq (Run.region ?_))
      refine Run.opG wantS_none (ex_assign rfl) rfl ?_
      refine Run.opsEnd ?_
      cases h
      exact Run.ret Try.func75 rfl (res_tmp rfl res_nil) rfl

theorem mkk75 : makeK Try.prog 75 = none := by kernel_rfl
theorem cal75 : callable Try.prog 75 = true := by kernel_rfl
theorem plan76_1_1_0_1_0_0_1_0_0 : planOf Try.prog (opsC (atC Try.prog 76 [1, 1, 0, 1, 0, 0, 1, 0, 0])) = some [.fl 0, .fl 1, .fl 2, .fl 3, .fl 4, .fl 5, .fl 6, .fl 7, .fl 8, .fl 9, .fl 10, .fl 11, .an 12 [], .sync] := by kernel_rfl
abbrev ref08_fold_post (r : (List Int)) : SV → Mem → Prop := fun s Me => ∃ q1, s = q1 ∧ Has (fun _ => none) Me [.vec 3 1 r.length q1 (r.flatMap enc3)]

def ref08_fold_1 (F : Nat) : Nat → (List Int) → Int → Int → (List Int) → Option ((List Int))
  | 0, _, _, _, _ => none
  | N + 1, v0, v1, v6, l22 =>
    bnd (nz v1) fun z25 =>
    bif (decide (v6 < (w64 ((w64 (Int.tdiv (v0.length : Int) v1)) * v1)))) then
      bnd (nz v1) fun z27 =>
      bnd (idx l22 (Int.tmod v6 v1)) fun x28 =>
      bnd (idx v0 v6) fun x29 =>
      bnd (inn l22 (Int.tmod v6 v1)) fun o30 =>
      bnd (upd l22 o30 (w64 (x28 + x29))) fun l31 =>
      (ref08_fold_1 F N) v0 v1 (w64 (v6 + (1 : Int))) l31
    else
      some l22

theorem ref08_fold_1_ok (F : Nat) : ∀ (N : Nat), ∀ (v0 : (List Int)) (v1 : Int) (v6 : Int) (l22 : (List Int)) (sv0 : SV) (s22 : SV) (Fr : Rd) (M : Mem) (r : (List Int)) (hv0 : Slc Fr 1 (FlatR enc3) sv0 v0) (hH : Has Fr M [.vec 3 1 l22.length s22 (l22.flatMap enc3)]), ref08_fold_1 F N v0 v1 v6 l22 = some r → Run Try.prog ⟨⟨76, [], none⟩, []⟩ 32 (ref08_fold_post r) [(0, sv0), (1, (.int .i64 v1)), (5, s22), (6, (.int .i64 v6))] [codeC Try.prog 76 [1, 1, 0, 1, 0, 0], loopC Try.prog 76 [1, 1, 0, 1, 0, 0], .inBlock 0, codeC Try.prog 76 [1, 1, 1]] M := by
  intro N
  induction N with
  | zero =>
    intro v0 v1 v6 l22 sv0 s22 Fr M r hv0 hH h
    simp [ref08_fold_1] at h
  | succ N ih =>
    intro v0 v1 v6 l22 sv0 s22 Fr M r hv0 hH h
    rw [ref08_fold_1] at h
    refine Run.seq (Run.seq (Run.region ?_))
    refine Run.opG wantS_none (ex_move rfl) rfl ?_
    refine Run.opG wantS_none (ex_move rfl) rfl ?_
    refine Run.opG wantS_none (ex_len' rfl hv0 lenk38) rfl ?_
    refine Run.opG wantS_none (ex_move rfl) rfl ?_
    obtain ⟨z25, hz25, h⟩ := bnd_some h
    refine Run.opG wantS_none (ex_quo' rfl rfl hz25) rfl ?_
    refine Run.opG wantS_none (ex_move rfl) rfl ?_
    refine Run.opG wantS_none (ex_mul rfl rfl) rfl ?_
    refine Run.opG wantS_none (ex_lss rfl rfl) rfl ?_
    refine Run.opsEnd ?_
    rcases btf ((decide (v6 < (w64 ((w64 (Int.tdiv (v0.length : Int) v1)) * v1))))) with hc26 | hc26
    · have h := bif_t hc26 h
      refine Run.condT' rfl hc26 ?_
      refine Run.skip (Run.seq (Run.block ?_))
      refine Run.drawG plan76_1_1_0_1_0_0_1_0_0 ?_
      refine DrawG.fl rfl (ev_ex wantS_none (ex_move rfl)) rfl ?_
      refine DrawG.fl rfl (ev_ex wantS_none (ex_move rfl)) rfl ?_
      refine DrawG.fl rfl (ev_ex wantS_none (ex_move rfl)) rfl ?_
      obtain ⟨z27, hz27, h⟩ := bnd_some h
      refine DrawG.fl rfl (ev_ex wantS_none (ex_rem' rfl rfl hz27)) rfl ?_
      obtain ⟨x28, hx28, h⟩ := bnd_some h
      obtain ⟨p28, o28, hb28, hx28, he28⟩ := vec_elem (P := Try.prog) (t := 38) (kk := .i64) hH (i := 0) rfl hx28 els38
      refine DrawG.fl rfl (ev_ex wantS_none (ex_elX rfl rfl hx28)) rfl ?_
      refine DrawG.fl rfl (ev_ex wantS_none (ex_load1 rfl (hH.at (enc := enc3) (a := x28) (i := 0) rfl hb28 he28 enc3_len) rdLe_rfl agg3)) rfl ?_
      refine DrawG.fl rfl (ev_ex wantS_none (ex_move rfl)) rfl ?_
      refine DrawG.fl rfl (ev_ex wantS_none (ex_move rfl)) rfl ?_
      obtain ⟨x29, hx29, h⟩ := bnd_some h
      obtain ⟨p29, o29, _, hx29, hp29, rfl⟩ := sl_elem (P := Try.prog) (t := 38) (kk := .i64) hv0 hx29 els38
      refine DrawG.fl rfl (ev_ex wantS_none (ex_elX rfl rfl hx29)) rfl ?_
      refine DrawG.fl rfl (ev_ex wantS_none (ex_load1 rfl (hH.ptrF hp29) rdLe_rfl agg3)) rfl ?_
      refine DrawG.fl rfl (ev_ex wantS_none (ex_add rfl rfl)) rfl ?_
      obtain ⟨o30, ho30, h⟩ := bnd_some h
      obtain ⟨p30, hb30, hx30⟩ := vec_place (P := Try.prog) (t := 38) (kk := .i64) hH (i := 0) rfl ho30 els38
      refine DrawG.fl rfl (ev_ex wantS_none (ex_elX rfl rfl hx30)) rfl ?_
      obtain ⟨l31, hl31, h⟩ := bnd_some h
      refine DrawG.opX rfl wantS_none rfl (ExG.storeEl rfl rfl hH (i := 0) rfl hb30 hl31 sz3 rfl enc3_len enc3_ones) ?_
      rintro _ M32 ⟨rfl, (hH32 : Has Fr M32 [.vec 3 1 l31.length s22 (l31.flatMap enc3)])⟩
      refine ⟨st_nil, ?_⟩
      refine DrawG.sync ?_
      refine DrawG.nil ?_
      refine Run.inBlock (Run.region ?_)
      refine Run.opG wantS_none (ex_move rfl) rfl ?_
      refine Run.opG wantS_none (ex_add rfl rfl) rfl ?_
      refine Run.opG wantS_none (ex_assign rfl) rfl ?_
      refine Run.opsEnd (Run.inLoop ?_)
      exact Run.pick [0, 1, 5, 6] (ih v0 v1 (w64 (v6 + (1 : Int))) l31 sv0 s22 _ _ _ hv0 hH32 h)
    · have h := bif_f hc26 h
      refine Run.condF' rfl hc26 ?_
      refine Run.exit rfl (Run.seq (Run.region ?_))
      refine Run.opG wantS_none (ex_move rfl) rfl ?_
      refine Run.opG wantS_none (ex_assign rfl) rfl ?_
      refine Run.opsEnd ?_
      cases h
      exact Run.ret Try.func76 rfl (res_tmp rfl res_nil) ⟨_, rfl, (hH.pick [0] rfl rfl).upF (none_le _)⟩

def ref08_fold (F : Nat) (a0 : (List Int)) (a1 : Int) : Option ((List Int)) :=
  bnd (mk a1 8 (0 : Int)) fun l22 =>
  ref08_fold_1 F F a0 a1 (0 : Int) l22

theorem ref08_fold_ok (F : Nat) (a0 : (List Int)) (a1 : Int) (s0 : SV) (r : (List Int)) (M : Mem) (hs0 : Slc (rd M) 1 (FlatR enc3) s0 a0) (h : ref08_fold F a0 a1 = some r) : CallsM Try.prog 76 [s0, (.int .i64 a1)] M (fun s M' => ∃ q1, s = q1 ∧ New M M' [.vec 3 1 r.length q1 (r.flatMap enc3)]) := by
  refine CallsM.fresh (Q := ref08_fold_post r) Try.func76 rfl rfl ?_ (by rintro s Me ⟨q1, rfl, hx⟩ ha hw; exact ⟨_, rfl, New.of rfl hx ha hw⟩)
  rw [ref08_fold] at h
  replace hs0 := hs0.mono (rdLe_frozen M) (fun _ _ h => h)
  have hH := Has.nil (frozen M)
  refine Run.seq (Run.region ?_)
  refine Run.opG wantS_none (ex_assign rfl) rfl ?_
  refine Run.opsEnd (Run.seq (Run.region ?_))
  refine Run.opG wantS_none (ex_move rfl) rfl ?_
  obtain ⟨l22, hl22, h⟩ := bnd_some h
  refine Run.opX wantS_none rfl (ExG.make (enc := enc3) (z := 1) rfl rfl hl22 elt38 rfl rfl enc3_len hH) ?_
  rintro s22 M23 (hH23 : Has (ro (frozen M)) M23 [.vec 3 1 l22.length s22 (l22.flatMap enc3)])
  refine Run.opG wantS_none (ex_assign rfl) rfl ?_
  refine Run.opsEnd (Run.seq (Run.seq (Run.region ?_)))
  refine Run.opG wantS_none (ex_assign rfl) rfl ?_
  refine Run.opsEnd (Run.block (Run.loop ?_))
  exact Run.pick [0, 1, 5, 6] (ref08_fold_1_ok F F a0 a1 (0 : Int) l22 s0 s22 _ _ _ hs0 hH23 h)

theorem mkk76 : makeK Try.prog 76 = none := by kernel_rfl
theorem cal76 : callable Try.prog 76 = true := by kernel_rfl
abbrev ref08_Fold_post (r : (List Int) × Int) : SV → Mem → Prop := fun s Me => ∃ q1, s = (.tuple [q1, (.int .i64 r.2)]) ∧ Has (fun _ => none) Me [.vec 3 1 r.1.length q1 (r.1.flatMap enc3)]

def ref08_Fold (F : Nat) (a0 : (List Int)) (a1 : Int) : Option ((List Int) × Int) :=
  bnd (ref08_period F a0 a1) fun r22 =>
  bif (!(r22 == (0 : Int))) then
    some (([] : List Int), r22)
  else
    bnd (ref08_fold F a0 a1) fun r29 =>
    some (r29, (0 : Int))

theorem ref08_Fold_ok (F : Nat) (a0 : (List Int)) (a1 : Int) (s0 : SV) (r : (List Int) × Int) (M : Mem) (hs0 : Slc (rd M) 1 (FlatR enc3) s0 a0) (h : ref08_Fold F a0 a1 = some r) : CallsM Try.prog 34 [s0, (.int .i64 a1)] M (fun s M' => ∃ q1, s = (.tuple [q1, (.int .i64 r.2)]) ∧ New M M' [.vec 3 1 r.1.length q1 (r.1.flatMap enc3)]) := by
  refine CallsM.fresh (Q := ref08_Fold_post r) Try.func34 rfl rfl ?_ (by rintro s Me ⟨q1, rfl, hx⟩ ha hw; exact ⟨_, rfl, New.of rfl hx ha hw⟩)
  rw [ref08_Fold] at h
  replace hs0 := hs0.mono (rdLe_frozen M) (fun _ _ h => h)
  have hH := Has.nil (frozen M)
  refine Run.seq (Run.region ?_)
  refine Run.opG wantS_none (ex_assign rfl) rfl ?_
  refine Run.opG wantS_none (ex_assign rfl) rfl ?_
  refine Run.opsEnd (Run.seq (Run.seq (Run.region ?_)))
  refine Run.opG wantS_none (ex_move rfl) rfl ?_
  refine Run.opG wantS_none (ex_move rfl) rfl ?_
  obtain ⟨r22, hr22, h⟩ := bnd_some h
  refine Run.callP wantS_none (ex_call rfl mkk75 cal75) rfl (ref08_period_ok F a0 a1 s0 _ _ (hH.slcF hs0) hr22) ?_
  refine Run.opG wantS_none (ex_assign rfl) rfl ?_
  refine Run.opsEnd (Run.seq (Run.region ?_))
  refine Run.opG wantS_none (ex_move rfl) rfl ?_
  refine Run.opG wantS_none (ex_neq rfl rfl) rfl ?_
  refine Run.opsEnd ?_
  rcases btf ((!(r22 == (0 : Int)))) with hc24 | hc24
  · have h := bif_t hc24 h
    refine Run.condT' rfl hc24 ?_
    refine Run.seq (Run.region ?_)
    refine Run.opG wantS_none (ex_move rfl) rfl ?_
    refine Run.opG wantS_none (ex_assign rfl) rfl ?_
    refine Run.opG wantS_none (ex_assign rfl) rfl ?_
    refine Run.opsEnd ?_
    have hH26 : Has (ro (frozen M)) (frozen M) [.vec 3 1 ([] : List Int).length .nils (([] : List Int).flatMap enc3)] := hH.nils 3 1
    cases h
    exact Run.ret Try.func34 rfl (res_tmp rfl (res_tmp rfl res_nil)) ⟨_, rfl, (hH26.pick [0] rfl rfl).upF (none_le _)⟩
  · have h := bif_f hc24 h
    refine Run.condF' rfl hc24 ?_
    refine Run.skip (Run.seq (Run.region ?_))
    refine Run.opG wantS_none (ex_move rfl) rfl ?_
    refine Run.opG wantS_none (ex_move rfl) rfl ?_
    obtain ⟨r29, hr29, h⟩ := bnd_some h
    refine Run.callX wantS_none (ex_call rfl mkk76 cal76) rfl (ref08_fold_ok F a0 a1 s0 _ _ (hH.slcF hs0) hr29) ?_
    rintro s29_0 M31 ⟨_, rfl, hN29⟩
    have hH31 : Has (ro (frozen M)) M31 [.vec 3 1 r29.length s29_0 (r29.flatMap enc3)] := hN29.1 _ _ hH
    refine Run.opG wantS_none (ex_assign rfl) rfl ?_
    refine Run.opG wantS_none (ex_assign rfl) rfl ?_
    refine Run.opsEnd ?_
    cases h
    exact Run.ret Try.func34 rfl (res_tmp rfl (res_tmp rfl res_nil)) ⟨_, rfl, (hH31.pick [0] rfl rfl).upF (none_le _)⟩

theorem mkk34 : makeK Try.prog 34 = none := by kernel_rfl
theorem cal34 : callable Try.prog 34 = true := by kernel_rfl
theorem plan28_1_1_0_1_0_0_1_0_0_0 : planOf Try.prog (opsC (atC Try.prog 28 [1, 1, 0, 1, 0, 0, 1, 0, 0, 0])) = some [.fl 0, .fl 1, .fl 2, .fl 3, .fl 4, .fl 5, .fl 6, .fl 7, .fl 8, .sync] := by kernel_rfl
abbrev ref00_SameInts_post (r : Bool) : SV → Mem → Prop := fun s _ => s = (.bool r)

def ref00_SameInts_1 (F : Nat) : Nat → (List Int) → (List Int) → Int → Option (Bool)
  | 0, _, _, _ => none
  | N + 1, v0, v1, v5 =>
    bif (decide (v5 < (v0.length : Int))) then
      bnd (idx v0 v5) fun x23 =>
      bnd (idx v1 v5) fun x24 =>
      bif (!(x23 == x24)) then
        some false
      else
        (ref00_SameInts_1 F N) v0 v1 (w64 (v5 + (1 : Int)))
    else
      some true

theorem ref00_SameInts_1_ok (F : Nat) : ∀ (N : Nat), ∀ (v0 : (List Int)) (v1 : (List Int)) (v5 : Int) (sv0 : SV) (sv1 : SV) (Fr : Rd) (M : Mem) (r : Bool) (hv0 : Slc Fr 1 (FlatR enc3) sv0 v0) (hv1 : Slc Fr 1 (FlatR enc3) sv1 v1) (hH : Has Fr M []), ref00_SameInts_1 F N v0 v1 v5 = some r → Run Try.prog ⟨⟨28, [], none⟩, []⟩ 26 (ref00_SameInts_post r) [(0, sv0), (1, sv1), (5, (.int .i64 v5))] [codeC Try.prog 28 [1, 1, 0, 1, 0, 0], loopC Try.prog 28 [1, 1, 0, 1, 0, 0], .inBlock 0, codeC Try.prog 28 [1, 1, 1]] M := by
  intro N
  induction N with
  | zero =>
    intro v0 v1 v5 sv0 sv1 Fr M r hv0 hv1 hH h
    simp [ref00_SameInts_1] at h
  | succ N ih =>
    intro v0 v1 v5 sv0 sv1 Fr M r hv0 hv1 hH h
    rw [ref00_SameInts_1] at h
    refine Run.seq (Run.seq (Run.region ?_))
    refine Run.opG wantS_none (ex_move rfl) rfl ?_
    refine Run.opG wantS_none (ex_move rfl) rfl ?_
    refine Run.opG wantS_none (ex_len' rfl hv0 lenk38) rfl ?_
    refine Run.opG wantS_none (ex_lss rfl rfl) rfl ?_
    refine Run.opsEnd ?_
    rcases btf ((decide (v5 < (v0.length : Int)))) with hc22 | hc22
    · have h := bif_t hc22 h
      refine Run.condT' rfl hc22 ?_
      refine Run.skip (Run.seq (Run.block (Run.seq ?_)))
      refine Run.drawG plan28_1_1_0_1_0_0_1_0_0_0 ?_
      refine DrawG.fl rfl (ev_ex wantS_none (ex_move rfl)) rfl ?_
      refine DrawG.fl rfl (ev_ex wantS_none (ex_move rfl)) rfl ?_
      obtain ⟨x23, hx23, h⟩ := bnd_some h
      obtain ⟨p23, o23, _, hx23, hp23, rfl⟩ := sl_elem (P := Try.prog) (t := 38) (kk := .i64) hv0 hx23 els38
      refine DrawG.fl rfl (ev_ex wantS_none (ex_elX rfl rfl hx23)) rfl ?_
      refine DrawG.fl rfl (ev_ex wantS_none (ex_load1 rfl (hH.ptrF hp23) rdLe_rfl agg3)) rfl ?_
      refine DrawG.fl rfl (ev_ex wantS_none (ex_move rfl)) rfl ?_
      refine DrawG.fl rfl (ev_ex wantS_none (ex_move rfl)) rfl ?_
      obtain ⟨x24, hx24, h⟩ := bnd_some h
      obtain ⟨p24, o24, _, hx24, hp24, rfl⟩ := sl_elem (P := Try.prog) (t := 38) (kk := .i64) hv1 hx24 els38
      refine DrawG.fl rfl (ev_ex wantS_none (ex_elX rfl rfl hx24)) rfl ?_
      refine DrawG.fl rfl (ev_ex wantS_none (ex_load1 rfl (hH.ptrF hp24) rdLe_rfl agg3)) rfl ?_
      refine DrawG.fl rfl (ev_ex wantS_none (ex_neq rfl rfl)) rfl ?_
      refine DrawG.sync ?_
      refine DrawG.nil ?_
      rcases btf ((!(x23 == x24))) with hc25 | hc25
      · have h := bif_t hc25 h
        refine Run.condT' rfl hc25 ?_
        refine Run.seq (Run.region ?_)
        refine Run.opG wantS_none (ex_assign rfl) rfl ?_
        refine Run.opsEnd ?_
        cases h
        exact Run.ret Try.func28 rfl (res_tmp rfl res_nil) rfl
      · have h := bif_f hc25 h
        refine Run.condF' rfl hc25 ?_
        refine Run.skip (Run.inBlock (Run.region ?_))
        refine Run.opG wantS_none (ex_move rfl) rfl ?_
        refine Run.opG wantS_none (ex_add rfl rfl) rfl ?_
        refine Run.opG wantS_none (ex_assign rfl) rfl ?_
        refine Run.opsEnd (Run.inLoop ?_)
        exact Run.pick [0, 1, 5] (ih v0 v1 (w64 (v5 + (1 : Int))) sv0 sv1 _ _ _ hv0 hv1 hH h)
    · have h := bif_f hc22 h
      refine Run.condF' rfl hc22 ?_
      refine Run.exit rfl (Run.seq (Run.region ?_))
      refine Run.opG wantS_none (ex_assign rfl) rfl ?_
      refine Run.opsEnd ?_
      cases h
      exact Run.ret Try.func28 rfl (res_tmp rfl res_nil) rfl

def ref00_SameInts (F : Nat) (a0 : (List Int)) (a1 : (List Int)) : Option (Bool) :=
  bif (!((a0.length : Int) == (a1.length : Int))) then
    some false
  else
    ref00_SameInts_1 F F a0 a1 (0 : Int)

theorem ref00_SameInts_ok (F : Nat) (a0 : (List Int)) (a1 : (List Int)) (s0 s1 : SV) (r : Bool) (M : Mem) (hs0 : Slc (rd M) 1 (FlatR enc3) s0 a0) (hs1 : Slc (rd M) 1 (FlatR enc3) s1 a1) (h : ref00_SameInts F a0 a1 = some r) : CallsM Try.prog 28 [s0, s1] M (fun s M' => s = (.bool r) ∧ M' = M) := by
  refine CallsM.plain Try.func28 rfl rfl rfl (show Run _ _ _ (ref00_SameInts_post r) _ _ _ from ?_)
  rw [ref00_SameInts] at h
  replace hs0 := hs0.mono (rdLe_frozen M) (fun _ _ h => h)
  replace hs1 := hs1.mono (rdLe_frozen M) (fun _ _ h => h)
  have hH := Has.nil (frozen M)
  refine Run.seq (Run.region ?_)
  refine Run.opG wantS_none (ex_assign rfl) rfl ?_
  refine Run.opsEnd (Run.seq (Run.seq (Run.region ?_)))
  refine Run.opG wantS_none (ex_move rfl) rfl ?_
  refine Run.opG wantS_none (ex_len' rfl hs0 lenk38) rfl ?_
  refine Run.opG wantS_none (ex_move rfl) rfl ?_
  refine Run.opG wantS_none (ex_len' rfl hs1 lenk38) rfl ?_
  refine Run.opG wantS_none (ex_neq rfl rfl) rfl ?_
  refine Run.opsEnd ?_
  rcases btf ((!((a0.length : Int) == (a1.length : Int)))) with hc21 | hc21
  · have h := bif_t hc21 h
    refine Run.condT' rfl hc21 ?_
    refine Run.seq (Run.region ?_)
    refine Run.opG wantS_none (ex_assign rfl) rfl ?_
    refine Run.opsEnd ?_
    cases h
    exact Run.ret Try.func28 rfl (res_tmp rfl res_nil) rfl
  · have h := bif_f hc21 h
    refine Run.condF' rfl hc21 ?_
    refine Run.skip (Run.seq (Run.seq (Run.region ?_)))
    refine Run.opG wantS_none (ex_assign rfl) rfl ?_
    refine Run.opsEnd (Run.block (Run.loop ?_))
    exact Run.pick [0, 1, 5] (ref00_SameInts_1_ok F F a0 a1 (0 : Int) s0 s1 _ _ _ hs0 hs1 hH h)

theorem mkk28 : makeK Try.prog 28 = none := by kernel_rfl
theorem cal28 : callable Try.prog 28 = true := by kernel_rfl
structure S_search_strength where
  squares : Int
  folds : Int

theorem zer114 : zerosOf Try.prog 114 = some [(.int .i64 0), (.int .i64 0)] := by kernel_rfl
abbrev search_power_post (r : Int) : SV → Mem → Prop := fun s _ => s = (.int .i64 r)

def search_power_1 (F : Nat) : Nat → Int → (List Int) → Int → Int → Option (Int)
  | 0, _, _, _, _ => none
  | N + 1, v3, v6, v7, v8 =>
    bif (decide (v8 < v7)) then
      bnd (idx v6 v8) fun x23 =>
      (search_power_1 F N) (w64 (v3 + (w64 (x23 * x23)))) v6 v7 (w64 (v8 + (1 : Int)))
    else
      some v3

theorem search_power_1_ok (F : Nat) : ∀ (N : Nat), ∀ (v3 : Int) (v6 : (List Int)) (v7 : Int) (v8 : Int) (sv6 : SV) (Fr : Rd) (M : Mem) (r : Int) (hv6 : Slc Fr 1 (FlatR enc3) sv6 v6) (hH : Has Fr M []), search_power_1 F N v3 v6 v7 v8 = some r → Run Try.prog ⟨⟨116, [], none⟩, []⟩ 19 (search_power_post r) [(3, (.int .i64 v3)), (6, sv6), (7, (.int .i64 v7)), (8, (.int .i64 v8))] [codeC Try.prog 116 [1, 1, 0, 1, 0, 0], loopC Try.prog 116 [1, 1, 0, 1, 0, 0], .inBlock 0, codeC Try.prog 116 [1, 1, 1]] M := by
  intro N
  induction N with
  | zero =>
    intro v3 v6 v7 v8 sv6 Fr M r hv6 hH h
    simp [search_power_1] at h
  | succ N ih =>
    intro v3 v6 v7 v8 sv6 Fr M r hv6 hH h
    rw [search_power_1] at h
    refine Run.seq (Run.region ?_)
    refine Run.opG wantS_none (ex_lss rfl rfl) rfl ?_
    refine Run.opsEnd (Run.seq ?_)
    rcases btf ((decide (v8 < v7))) with hc21 | hc21
    · have h := bif_t hc21 h
      refine Run.condT' rfl hc21 ?_
      refine Run.skip (Run.seq (Run.block (Run.seq (Run.region ?_))))
      obtain ⟨x23, hx23, h⟩ := bnd_some h
      obtain ⟨p23, o23, _, hx23, hp23, rfl⟩ := sl_elem (P := Try.prog) (t := 38) (kk := .i64) hv6 hx23 els38
      refine Run.opG wantS_none (ex_elX rfl rfl hx23) rfl ?_
      refine Run.opG wantS_none (ex_load1 rfl (hH.ptrF hp23) rdLe_rfl agg3) rfl ?_
      refine Run.opG wantS_none (ex_assign rfl) rfl ?_
      refine Run.opsEnd (Run.region ?_)
      refine Run.opG wantS_none (ex_move rfl) rfl ?_
      refine Run.opG wantS_none (ex_move rfl) rfl ?_
      refine Run.opG wantS_none (ex_move rfl) rfl ?_
      refine Run.opG wantS_none (ex_mul rfl rfl) rfl ?_
      refine Run.opG wantS_none (ex_add rfl rfl) rfl ?_
      refine Run.opG wantS_none (ex_assign rfl) rfl ?_
      refine Run.opsEnd (Run.inBlock (Run.region ?_))
      refine Run.opG wantS_none (ex_add rfl rfl) rfl ?_
      refine Run.opG wantS_none (ex_move rfl) rfl ?_
      refine Run.opsEnd (Run.inLoop ?_)
      exact Run.pick [3, 6, 7, 8] (ih (w64 (v3 + (w64 (x23 * x23)))) v6 v7 (w64 (v8 + (1 : Int))) sv6 _ _ _ hv6 hH h)
    · have h := bif_f hc21 h
      refine Run.condF' rfl hc21 ?_
      refine Run.exit rfl (Run.seq (Run.region ?_))
      refine Run.opG wantS_none (ex_move rfl) rfl ?_
      refine Run.opG wantS_none (ex_assign rfl) rfl ?_
      refine Run.opsEnd ?_
      cases h
      exact Run.ret Try.func116 rfl (res_tmp rfl res_nil) rfl

def search_power (F : Nat) (a0 : (List Int)) : Option (Int) :=
  search_power_1 F F (0 : Int) a0 (a0.length : Int) (0 : Int)

theorem search_power_ok (F : Nat) (a0 : (List Int)) (s0 : SV) (r : Int) (M : Mem) (hs0 : Slc (rd M) 1 (FlatR enc3) s0 a0) (h : search_power F a0 = some r) : CallsM Try.prog 116 [s0] M (fun s M' => s = (.int .i64 r) ∧ M' = M) := by
  refine CallsM.plain Try.func116 rfl rfl rfl (show Run _ _ _ (search_power_post r) _ _ _ from ?_)
  rw [search_power] at h
  replace hs0 := hs0.mono (rdLe_frozen M) (fun _ _ h => h)
  have hH := Has.nil (frozen M)
  refine Run.seq (Run.region ?_)
  refine Run.opG wantS_none (ex_assign rfl) rfl ?_
  refine Run.opsEnd (Run.seq (Run.region ?_))
  refine Run.opG wantS_none (ex_assign rfl) rfl ?_
  refine Run.opsEnd (Run.seq (Run.seq (Run.region ?_)))
  refine Run.opG wantS_none (ex_move rfl) rfl ?_
  refine Run.opG wantS_none (ex_len' rfl hs0 lenk38) rfl ?_
  refine Run.opG wantS_none (ex_move rfl) rfl ?_
  refine Run.opsEnd (Run.block (Run.loop ?_))
  exact Run.pick [3, 6, 7, 8] (search_power_1_ok F F (0 : Int) a0 (a0.length : Int) (0 : Int) s0 _ _ _ hs0 hH h)

theorem mkk116 : makeK Try.prog 116 = none := by kernel_rfl
theorem cal116 : callable Try.prog 116 = true := by kernel_rfl
theorem pls114 : placesOf Try.prog 114 = some (.st [(0, 1), (1, 1)]) := by kernel_rfl
theorem sz114 : szOf Try.prog 114 = some 2 := by kernel_rfl
theorem agg114 : aggSize Try.prog 114 = some (some 2) := by kernel_rfl
abbrev search_strengthOf_post (r : S_search_strength) : SV → Mem → Prop := fun s _ => s = (.agg [(.int .i64 r.squares), (.int .i64 r.folds)])

def search_strengthOf (F : Nat) (a0 : (List Int)) (a1 : Int) : Option (S_search_strength) :=
  bnd (search_fold F a0 a1) fun r26 =>
  bnd (search_power F r26.1) fun r30 =>
  some (S_search_strength.mk r30 r26.2)

theorem search_strengthOf_ok (F : Nat) (a0 : (List Int)) (a1 : Int) (s0 : SV) (r : S_search_strength) (M : Mem) (hs0 : Slc (rd M) 1 (FlatR enc3) s0 a0) (h : search_strengthOf F a0 a1 = some r) : CallsM Try.prog 77 [s0, (.int .i64 a1)] M (fun s M' => s = (.agg [(.int .i64 r.squares), (.int .i64 r.folds)]) ∧ M' = M) := by
  refine CallsM.plain Try.func77 rfl rfl rfl (show Run _ _ _ (search_strengthOf_post r) _ _ _ from ?_)
  rw [search_strengthOf] at h
  replace hs0 := hs0.mono (rdLe_frozen M) (fun _ _ h => h)
  have hH := Has.nil (frozen M)
  refine Run.seq (Run.region ?_)
  refine Run.opX wantS_none rfl (ExG.new (v := fun b => .ptr b 0) (ex_alloc zer114) hH) ?_
  rintro _ M23 ⟨b22, rfl, (hH23 : Has (ro (frozen M)) M23 [.obj b22 (.row 114 .whole [(.int .i64 0), (.int .i64 0)])])⟩
  refine Run.opsEnd (Run.seq (Run.region ?_))
  refine Run.opG wantS_none (ex_move rfl) rfl ?_
  refine Run.opG wantS_none (ex_move rfl) rfl ?_
  obtain ⟨r26, hr26, h⟩ := bnd_some h
  refine Run.callX wantS_none (ex_call rfl mkk74 cal74) rfl (search_fold_ok F a0 a1 s0 _ _ (hH23.slcF hs0) hr26) ?_
  rintro _ M28 ⟨s26_0, rfl, hN26⟩
  have hH28 : Has (ro (frozen M)) M28 [.vec 3 1 r26.1.length s26_0 (r26.1.flatMap enc3), .obj b22 (.row 114 .whole [(.int .i64 0), (.int .i64 0)])] := hN26.1 _ _ hH23
  refine Run.opG wantS_none (ex_move rfl) rfl ?_
  refine Run.opG wantS_none (ex_extract rfl rfl) rfl ?_
  refine Run.opG wantS_none (ex_extract rfl rfl) rfl ?_
  refine Run.opG wantS_none (ex_assign rfl) rfl ?_
  refine Run.opG wantS_none (ex_assign rfl) rfl ?_
  refine Run.opsEnd (Run.seq (Run.region ?_))
  refine Run.opG wantS_none (ex_move rfl) rfl ?_
  obtain ⟨r30, hr30, h⟩ := bnd_some h
  refine Run.callP wantS_none (ex_call rfl mkk116 cal116) rfl (search_power_ok F r26.1 s26_0 _ _ (hH28.slc (i := 0) rfl enc3_len) hr30) ?_
  refine Run.opG wantS_none (ex_move rfl) rfl ?_
  refine Run.opG wantS_none (ex_build (r := [(.int .i64 r30), (.int .i64 r26.2)]) rfl zer114 pls114 rfl) rfl ?_
  refine Run.opX wantS_none rfl (ExG.storeC (c' := [(.int .i64 r30), (.int .i64 r26.2)]) rfl rfl rfl hH28 (i := 1) rfl sz114 rfl rfl rfl rfl rfl) ?_
  rintro _ M32 ⟨rfl, (hH32 : Has (ro (frozen M)) M32 [.vec 3 1 r26.1.length s26_0 (r26.1.flatMap enc3), .obj b22 (.row 114 .whole [(.int .i64 r30), (.int .i64 r26.2)])])⟩
  refine Run.opsEnd ?_
  cases h
  exact Run.ret Try.func77 rfl (res_cell rfl (x_load (ex_loadA rfl (hH32.cells (i := 1) rfl 0 rfl) rdLe_rfl agg114 rfl rfl rfl)) res_nil) rfl

theorem mkk77 : makeK Try.prog 77 = none := by kernel_rfl
theorem cal77 : callable Try.prog 77 = true := by kernel_rfl
theorem off114_0 : fieldOff Try.prog 114 0 = some 0 := by kernel_rfl
theorem off114_1 : fieldOff Try.prog 114 1 = some 1 := by kernel_rfl
abbrev cmp_isNaN_post (r : Bool) : SV → Mem → Prop := fun s _ => s = (.bool r)

def cmp_isNaN (F : Nat) (a0 : Int) : Option (Bool) :=
  some (!(a0 == a0))

theorem cmp_isNaN_ok (F : Nat) (a0 : Int) (r : Bool) (M : Mem) (h : cmp_isNaN F a0 = some r) : CallsM Try.prog 134 [(.int .i64 a0)] M (fun s M' => s = (.bool r) ∧ M' = M) := by
  refine CallsM.plain Try.func134 rfl rfl rfl (show Run _ _ _ (cmp_isNaN_post r) _ _ _ from ?_)
  rw [cmp_isNaN] at h
  have hH := Has.nil (frozen M)
  refine Run.seq (Run.region ?_)
  refine Run.opG wantS_none (ex_assign rfl) rfl ?_
  refine Run.opsEnd (Run.seq (Run.region ?_))
  refine Run.opG wantS_none (ex_move rfl) rfl ?_
  refine Run.opG wantS_none (ex_move rfl) rfl ?_
  refine Run.opG wantS_none (ex_neq rfl rfl) rfl ?_
  refine Run.opG wantS_none (ex_assign rfl) rfl ?_
  refine Run.opsEnd ?_
  cases h
  exact Run.ret Try.func134 rfl (res_tmp rfl res_nil) rfl

theorem mkk134 : makeK Try.prog 134 = none := by kernel_rfl
theorem cal134 : callable Try.prog 134 = true := by kernel_rfl
abbrev cmp_Compare_post (r : Int) : SV → Mem → Prop := fun s _ => s = (.int .i64 r)

def cmp_Compare (F : Nat) (a0 : Int) (a1 : Int) : Option (Int) :=
  bnd (cmp_isNaN F a0) fun r22 =>
  bnd (cmp_isNaN F a1) fun r25 =>
  bif r22 then
    bif r25 then
      some (0 : Int)
    else
      some ((-1) : Int)
  else
    bif r25 then
      some (1 : Int)
    else
      bif (decide (a0 < a1)) then
        some ((-1) : Int)
      else
        bif (decide (a1 < a0)) then
          some (1 : Int)
        else
          some (0 : Int)

theorem cmp_Compare_ok (F : Nat) (a0 : Int) (a1 : Int) (r : Int) (M : Mem) (h : cmp_Compare F a0 a1 = some r) : CallsM Try.prog 117 [(.int .i64 a0), (.int .i64 a1)] M (fun s M' => s = (.int .i64 r) ∧ M' = M) := by
  refine CallsM.plain Try.func117 rfl rfl rfl (show Run _ _ _ (cmp_Compare_post r) _ _ _ from ?_)
  rw [cmp_Compare] at h
  have hH := Has.nil (frozen M)
  refine Run.seq (Run.region ?_)
  refine Run.opG wantS_none (ex_assign rfl) rfl ?_
  refine Run.opsEnd (Run.seq (Run.region ?_))
  refine Run.opG wantS_none (ex_move rfl) rfl ?_
  obtain ⟨r22, hr22, h⟩ := bnd_some h
  refine Run.callP wantS_none (ex_call rfl mkk134 cal134) rfl (cmp_isNaN_ok F a0 _ _ hr22) ?_
  refine Run.opG wantS_none (ex_assign rfl) rfl ?_
  refine Run.opsEnd (Run.seq (Run.region ?_))
  refine Run.opG wantS_none (ex_move rfl) rfl ?_
  obtain ⟨r25, hr25, h⟩ := bnd_some h
  refine Run.callP wantS_none (ex_call rfl mkk134 cal134) rfl (cmp_isNaN_ok F a1 _ _ hr25) ?_
  refine Run.opG wantS_none (ex_assign rfl) rfl ?_
  refine Run.opsEnd (Run.seq (Run.seq (Run.region ?_)))
  refine Run.opG wantS_none (ex_move rfl) rfl ?_
  refine Run.opsEnd ?_
  rcases btf (r22) with hc27 | hc27
  · have h := bif_t hc27 h
    refine Run.condT' rfl hc27 ?_
    refine Run.seq (Run.seq (Run.region ?_))
    refine Run.opG wantS_none (ex_move rfl) rfl ?_
    refine Run.opsEnd ?_
    rcases btf (r25) with hc28 | hc28
    · have h := bif_t hc28 h
      refine Run.condT' rfl hc28 ?_
      refine Run.seq (Run.region ?_)
      refine Run.opG wantS_none (ex_assign rfl) rfl ?_
      refine Run.opsEnd ?_
      cases h
      exact Run.ret Try.func117 rfl (res_tmp rfl res_nil) rfl
    · have h := bif_f hc28 h
      refine Run.condF' rfl hc28 ?_
      refine Run.skip (Run.seq (Run.region ?_))
      refine Run.opG wantS_none (ex_assign rfl) rfl ?_
      refine Run.opsEnd ?_
      cases h
      exact Run.ret Try.func117 rfl (res_tmp rfl res_nil) rfl
  · have h := bif_f hc27 h
    refine Run.condF' rfl hc27 ?_
    refine Run.skip (Run.seq (Run.seq (Run.region ?_)))
    refine Run.opG wantS_none (ex_move rfl) rfl ?_
    refine Run.opsEnd ?_
    rcases btf (r25) with hc29 | hc29
    · have h := bif_t hc29 h
      refine Run.condT' rfl hc29 ?_
      refine Run.seq (Run.region ?_)
      refine Run.opG wantS_none (ex_assign rfl) rfl ?_
      refine Run.opsEnd ?_
      cases h
      exact Run.ret Try.func117 rfl (res_tmp rfl res_nil) rfl
    · have h := bif_f hc29 h
      refine Run.condF' rfl hc29 ?_
      refine Run.skip (Run.seq (Run.seq (Run.region ?_)))
      refine Run.opG wantS_none (ex_move rfl) rfl ?_
      refine Run.opG wantS_none (ex_move rfl) rfl ?_
      refine Run.opG wantS_none (ex_lss rfl rfl) rfl ?_
      refine Run.opsEnd ?_
      rcases btf ((decide (a0 < a1))) with hc30 | hc30
      · have h := bif_t hc30 h
        refine Run.condT' rfl hc30 ?_
        refine Run.seq (Run.region ?_)
        refine Run.opG wantS_none (ex_assign rfl) rfl ?_
        refine Run.opsEnd ?_
        cases h
        exact Run.ret Try.func117 rfl (res_tmp rfl res_nil) rfl
      · have h := bif_f hc30 h
        refine Run.condF' rfl hc30 ?_
        refine Run.skip (Run.seq (Run.seq (Run.region ?_)))
        refine Run.opG wantS_none (ex_move rfl) rfl ?_
        refine Run.opG wantS_none (ex_move rfl) rfl ?_
        refine Run.opG wantS_none (ex_gtr rfl rfl) rfl ?_
        refine Run.opsEnd ?_
        rcases btf ((decide (a1 < a0))) with hc31 | hc31
        · have h := bif_t hc31 h
          refine Run.condT' rfl hc31 ?_
          refine Run.seq (Run.region ?_)
          refine Run.opG wantS_none (ex_assign rfl) rfl ?_
          refine Run.opsEnd ?_
          cases h
          exact Run.ret Try.func117 rfl (res_tmp rfl res_nil) rfl
        · have h := bif_f hc31 h
          refine Run.condF' rfl hc31 ?_
          refine Run.skip (Run.seq (Run.region ?_))
          refine Run.opG wantS_none (ex_assign rfl) rfl ?_
          refine Run.opsEnd ?_
          cases h
          exact Run.ret Try.func117 rfl (res_tmp rfl res_nil) rfl

theorem mkk117 : makeK Try.prog 117 = none := by kernel_rfl
theorem cal117 : callable Try.prog 117 = true := by kernel_rfl
abbrev search_strength_compare_post (r : Int) : SV → Mem → Prop := fun s _ => s = (.int .i64 r)

def search_strength_compare (F : Nat) (a0 : S_search_strength) (a1 : S_search_strength) : Option (Int) :=
  bnd (cmp_Compare F (w64 (a0.squares * a1.folds)) (w64 (a1.squares * a0.folds))) fun r28 =>
  some r28

theorem search_strength_compare_ok (F : Nat) (a0 : S_search_strength) (a1 : S_search_strength) (r : Int) (M : Mem) (h : search_strength_compare F a0 a1 = some r) : CallsM Try.prog 78 [(.agg [(.int .i64 a0.squares), (.int .i64 a0.folds)]), (.agg [(.int .i64 a1.squares), (.int .i64 a1.folds)])] M (fun s M' => s = (.int .i64 r) ∧ M' = M) := by
  refine CallsM.plain Try.func78 rfl rfl rfl (show Run _ _ _ (search_strength_compare_post r) _ _ _ from ?_)
  rw [search_strength_compare] at h
  have hH := Has.nil (frozen M)
  refine Run.seq (Run.region ?_)
  refine Run.opX wantS_none rfl (ExG.box rfl rfl hH) ?_
  rintro _ M23 ⟨b22, rfl, (hH23 : Has (ro (frozen M)) M23 [.obj b22 (.row 114 .whole [(.int .i64 a0.squares), (.int .i64 a0.folds)])])⟩
  refine Run.opX wantS_none rfl (ExG.box rfl rfl hH23) ?_
  rintro _ M26 ⟨b25, rfl, (hH26 : Has (ro (frozen M)) M26 [.obj b25 (.row 114 .whole [(.int .i64 a1.squares), (.int .i64 a1.folds)]), .obj b22 (.row 114 .whole [(.int .i64 a0.squares), (.int .i64 a0.folds)])])⟩
  refine Run.opG wantS_none (ex_assign rfl) rfl ?_
  refine Run.opsEnd (Run.seq (Run.region ?_))
  refine Run.opG wantS_none (ex_fieldAddr rfl off114_0) rfl ?_
  refine Run.opG wantS_none (ex_load1 rfl (hH26.cells (i := 1) rfl 0 rfl) rdLe_rfl agg3) rfl ?_
  refine Run.opG wantS_none (ex_fieldAddr rfl off114_1) rfl ?_
  refine Run.opG wantS_none (ex_load1 rfl (hH26.cells (i := 0) rfl 1 rfl) rdLe_rfl agg3) rfl ?_
  refine Run.opG wantS_none (ex_mul rfl rfl) rfl ?_
  refine Run.opG wantS_none (ex_fieldAddr rfl off114_0) rfl ?_
  refine Run.opG wantS_none (ex_load1 rfl (hH26.cells (i := 0) rfl 0 rfl) rdLe_rfl agg3) rfl ?_
  refine Run.opG wantS_none (ex_fieldAddr rfl off114_1) rfl ?_
  refine Run.opG wantS_none (ex_load1 rfl (hH26.cells (i := 1) rfl 1 rfl) rdLe_rfl agg3) rfl ?_
  refine Run.opG wantS_none (ex_mul rfl rfl) rfl ?_
  obtain ⟨r28, hr28, h⟩ := bnd_some h
  refine Run.callP wantS_none (ex_call rfl mkk117 cal117) rfl (cmp_Compare_ok F (w64 (a0.squares * a1.folds)) (w64 (a1.squares * a0.folds)) _ _ hr28) ?_
  refine Run.opG wantS_none (ex_assign rfl) rfl ?_
  refine Run.opsEnd ?_
  cases h
  exact Run.ret Try.func78 rfl (res_tmp rfl res_nil) rfl

theorem mkk78 : makeK Try.prog 78 = none := by kernel_rfl
theorem cal78 : callable Try.prog 78 = true := by kernel_rfl
abbrev search_Compare_post (r : Int × Int) : SV → Mem → Prop := fun s _ => s = (.tuple [(.int .i64 r.1), (.int .i64 r.2)])

def search_Compare (F : Nat) (a0 : (List Int)) (a1 : Int) (a2 : Int) : Option (Int × Int) :=
  bnd (search_checkPeriods F a0 ([a1, a2] : List Int)) fun r25 =>
  bif (!(r25 == (0 : Int))) then
    some ((0 : Int), r25)
  else
    bnd (search_strengthOf F a0 a1) fun r29 =>
    bnd (search_strengthOf F a0 a2) fun r32 =>
    bnd (search_strength_compare F r29 r32) fun r35 =>
    some (r35, (0 : Int))

theorem search_Compare_ok (F : Nat) (a0 : (List Int)) (a1 : Int) (a2 : Int) (s0 : SV) (r : Int × Int) (M : Mem) (hs0 : Slc (rd M) 1 (FlatR enc3) s0 a0) (h : search_Compare F a0 a1 a2 = some r) : CallsM Try.prog 35 [s0, (.int .i64 a1), (.int .i64 a2)] M (fun s M' => s = (.tuple [(.int .i64 r.1), (.int .i64 r.2)]) ∧ M' = M) := by
  refine CallsM.plain Try.func35 rfl rfl rfl (show Run _ _ _ (search_Compare_post r) _ _ _ from ?_)
  rw [search_Compare] at h
  replace hs0 := hs0.mono (rdLe_frozen M) (fun _ _ h => h)
  have hH := Has.nil (frozen M)
  refine Run.seq (Run.region ?_)
  refine Run.opG wantS_none (ex_assign rfl) rfl ?_
  refine Run.opG wantS_none (ex_assign rfl) rfl ?_
  refine Run.opsEnd (Run.seq (Run.seq (Run.region ?_)))
  refine Run.opG wantS_none (ex_move rfl) rfl ?_
  refine Run.opG wantS_none (ex_move rfl) rfl ?_
  refine Run.opG wantS_none (ex_move rfl) rfl ?_
  refine Run.opX wantS_none rfl (ExG.built (enc := enc3) (l := ([a1, a2] : List Int)) (z := 1) rfl elt38 rfl rfl rfl enc3_len hH) ?_
  rintro s22 M23 (hH23 : Has (ro (frozen M)) M23 [.vec 3 1 ([a1, a2] : List Int).length s22 (([a1, a2] : List Int).flatMap enc3)])
  obtain ⟨r25, hr25, h⟩ := bnd_some h
  refine Run.callP wantS_none (ex_call rfl mkk73 cal73) rfl (search_checkPeriods_ok F a0 ([a1, a2] : List Int) s0 s22 _ _ (hH23.slcF hs0) (hH23.slc (i := 0) rfl enc3_len) hr25) ?_
  refine Run.opG wantS_none (ex_assign rfl) rfl ?_
  refine Run.opsEnd (Run.seq (Run.region ?_))
  refine Run.opG wantS_none (ex_move rfl) rfl ?_
  refine Run.opG wantS_none (ex_neq rfl rfl) rfl ?_
  refine Run.opsEnd ?_
  rcases btf ((!(r25 == (0 : Int)))) with hc27 | hc27
  · have h := bif_t hc27 h
    refine Run.condT' rfl hc27 ?_
    refine Run.seq (Run.region ?_)
    refine Run.opG wantS_none (ex_move rfl) rfl ?_
    refine Run.opG wantS_none (ex_assign rfl) rfl ?_
    refine Run.opG wantS_none (ex_assign rfl) rfl ?_
    refine Run.opsEnd ?_
    cases h
    exact Run.ret Try.func35 rfl (res_tmp rfl (res_tmp rfl res_nil)) rfl
  · have h := bif_f hc27 h
    refine Run.condF' rfl hc27 ?_
    refine Run.skip (Run.seq (Run.region ?_))
    refine Run.opG wantS_none (ex_move rfl) rfl ?_
    refine Run.opG wantS_none (ex_move rfl) rfl ?_
    obtain ⟨r29, hr29, h⟩ := bnd_some h
    refine Run.callP wantS_none (ex_call rfl mkk77 cal77) rfl (search_strengthOf_ok F a0 a1 s0 _ _ (hH23.slcF hs0) hr29) ?_
    refine Run.opG wantS_none (ex_move rfl) rfl ?_
    refine Run.opG wantS_none (ex_move rfl) rfl ?_
    obtain ⟨r32, hr32, h⟩ := bnd_some h
    refine Run.callP wantS_none (ex_call rfl mkk77 cal77) rfl (search_strengthOf_ok F a0 a2 s0 _ _ (hH23.slcF hs0) hr32) ?_
    obtain ⟨r35, hr35, h⟩ := bnd_some h
    refine Run.callP wantS_none (ex_call rfl mkk78 cal78) rfl (search_strength_compare_ok F r29 r32 _ _ hr35) ?_
    refine Run.opG wantS_none (ex_assign rfl) rfl ?_
    refine Run.opG wantS_none (ex_assign rfl) rfl ?_
    refine Run.opsEnd ?_
    cases h
    exact Run.ret Try.func35 rfl (res_tmp rfl (res_tmp rfl res_nil)) rfl

theorem mkk35 : makeK Try.prog 35 = none := by kernel_rfl
theorem cal35 : callable Try.prog 35 = true := by kernel_rfl
theorem plan72_1_1_0_1_0_0_1_0_0 : planOf Try.prog (opsC (atC Try.prog 72 [1, 1, 0, 1, 0, 0, 1, 0, 0])) = some [.fl 0, .fl 1, .fl 2, .fl 3, .fl 4, .fl 5, .fl 6, .fl 7, .fl 8, .fl 9, .fl 10, .an 11 [], .sync] := by kernel_rfl
abbrev ref08_power_post (r : Int) : SV → Mem → Prop := fun s _ => s = (.int .i64 r)

def ref08_power_1 (F : Nat) : Nat → (List Int) → Int → Int → Int → Int → Option (Int)
  | 0, _, _, _, _, _ => none
  | N + 1, v0, v1, v2, v7, v8 =>
    bif (decide (v8 < (w64 (v1 + v2)))) then
      bnd (idx v0 v8) fun x22 =>
      bnd (idx v0 v8) fun x23 =>
      (ref08_power_1 F N) v0 v1 v2 (w64 (v7 + (w64 (x22 * x23)))) (w64 (v8 + (1 : Int)))
    else
      some v7

theorem ref08_power_1_ok (F : Nat) : ∀ (N : Nat), ∀ (v0 : (List Int)) (v1 : Int) (v2 : Int) (v7 : Int) (v8 : Int) (sv0 : SV) (Fr : Rd) (M : Mem) (r : Int) (hv0 : Slc Fr 1 (FlatR enc3) sv0 v0) (hH : Has Fr M []), ref08_power_1 F N v0 v1 v2 v7 v8 = some r → Run Try.prog ⟨⟨72, [], none⟩, []⟩ 29 (ref08_power_post r) [(0, sv0), (1, (.int .i64 v1)), (2, (.int .i64 v2)), (7, (.int .i64 v7)), (8, (.int .i64 v8))] [codeC Try.prog 72 [1, 1, 0, 1, 0, 0], loopC Try.prog 72 [1, 1, 0, 1, 0, 0], .inBlock 0, codeC Try.prog 72 [1, 1, 1]] M := by
  intro N
  induction N with
  | zero =>
    intro v0 v1 v2 v7 v8 sv0 Fr M r hv0 hH h
    simp [ref08_power_1] at h
  | succ N ih =>
    intro v0 v1 v2 v7 v8 sv0 Fr M r hv0 hH h
    rw [ref08_power_1] at h
    refine Run.seq (Run.seq (Run.region ?_))
    refine Run.opG wantS_none (ex_move rfl) rfl ?_
    refine Run.opG wantS_none (ex_move rfl) rfl ?_
    refine Run.opG wantS_none (ex_move rfl) rfl ?_
    refine Run.opG wantS_none (ex_add rfl rfl) rfl ?_
    refine Run.opG wantS_none (ex_lss rfl rfl) rfl ?_
    refine Run.opsEnd ?_
    rcases btf ((decide (v8 < (w64 (v1 + v2))))) with hc21 | hc21
    · have h := bif_t hc21 h
      refine Run.condT' rfl hc21 ?_
      refine Run.skip (Run.seq (Run.block ?_))
      refine Run.drawG plan72_1_1_0_1_0_0_1_0_0 ?_
      refine DrawG.fl rfl (ev_ex wantS_none (ex_move rfl)) rfl ?_
      refine DrawG.fl rfl (ev_ex wantS_none (ex_move rfl)) rfl ?_
      refine DrawG.fl rfl (ev_ex wantS_none (ex_move rfl)) rfl ?_
      obtain ⟨x22, hx22, h⟩ := bnd_some h
      obtain ⟨p22, o22, _, hx22, hp22, rfl⟩ := sl_elem (P := Try.prog) (t := 38) (kk := .i64) hv0 hx22 els38
      refine DrawG.fl rfl (ev_ex wantS_none (ex_elX rfl rfl hx22)) rfl ?_
      refine DrawG.fl rfl (ev_ex wantS_none (ex_load1 rfl (hH.ptrF hp22) rdLe_rfl agg3)) rfl ?_
      refine DrawG.fl rfl (ev_ex wantS_none (ex_move rfl)) rfl ?_
      refine DrawG.fl rfl (ev_ex wantS_none (ex_move rfl)) rfl ?_
      obtain ⟨x23, hx23, h⟩ := bnd_some h
      obtain ⟨p23, o23, _, hx23, hp23, rfl⟩ := sl_elem (P := Try.prog) (t := 38) (kk := .i64) hv0 hx23 els38
      refine DrawG.fl rfl (ev_ex wantS_none (ex_elX rfl rfl hx23)) rfl ?_
      refine DrawG.fl rfl (ev_ex wantS_none (ex_load1 rfl (hH.ptrF hp23) rdLe_rfl agg3)) rfl ?_
      refine DrawG.fl rfl (ev_ex wantS_none (ex_mul rfl rfl)) rfl ?_
      refine DrawG.fl rfl (ev_ex wantS_none (ex_add rfl rfl)) rfl ?_
      refine DrawG.val rfl wantS_none (ex_assign rfl) rfl st_nil ?_
      refine DrawG.sync ?_
      refine DrawG.nil ?_
      refine Run.inBlock (Run.region ?_)
      refine Run.opG wantS_none (ex_move rfl) rfl ?_
      refine Run.opG wantS_none (ex_add rfl rfl) rfl ?_
      refine Run.opG wantS_none (ex_assign rfl) rfl ?_
      refine Run.opsEnd (Run.inLoop ?_)
      exact Run.pick [0, 1, 2, 7, 8] (ih v0 v1 v2 (w64 (v7 + (w64 (x22 * x23)))) (w64 (v8 + (1 : Int))) sv0 _ _ _ hv0 hH h)
    · have h := bif_f hc21 h
      refine Run.condF' rfl hc21 ?_
      refine Run.exit rfl (Run.seq (Run.region ?_))
      refine Run.opG wantS_none (ex_move rfl) rfl ?_
      refine Run.opG wantS_none (ex_assign rfl) rfl ?_
      refine Run.opsEnd ?_
      cases h
      exact Run.ret Try.func72 rfl (res_tmp rfl res_nil) rfl

def ref08_power (F : Nat) (a0 : (List Int)) (a1 : Int) (a2 : Int) : Option (Int) :=
  ref08_power_1 F F a0 a1 a2 (0 : Int) a1

theorem ref08_power_ok (F : Nat) (a0 : (List Int)) (a1 : Int) (a2 : Int) (s0 : SV) (r : Int) (M : Mem) (hs0 : Slc (rd M) 1 (FlatR enc3) s0 a0) (h : ref08_power F a0 a1 a2 = some r) : CallsM Try.prog 72 [s0, (.int .i64 a1), (.int .i64 a2)] M (fun s M' => s = (.int .i64 r) ∧ M' = M) := by
  refine CallsM.plain Try.func72 rfl rfl rfl (show Run _ _ _ (ref08_power_post r) _ _ _ from ?_)
  rw [ref08_power] at h
  replace hs0 := hs0.mono (rdLe_frozen M) (fun _ _ h => h)
  have hH := Has.nil (frozen M)
  refine Run.seq (Run.region ?_)
  refine Run.opG wantS_none (ex_assign rfl) rfl ?_
  refine Run.opsEnd (Run.seq (Run.region ?_))
  refine Run.opG wantS_none (ex_assign rfl) rfl ?_
  refine Run.opsEnd (Run.seq (Run.seq (Run.region ?_)))
  refine Run.opG wantS_none (ex_move rfl) rfl ?_
  refine Run.opG wantS_none (ex_assign rfl) rfl ?_
  refine Run.opsEnd (Run.block (Run.loop ?_))
  exact Run.pick [0, 1, 2, 7, 8] (ref08_power_1_ok F F a0 a1 a2 (0 : Int) a1 s0 _ _ _ hs0 hH h)

theorem mkk72 : makeK Try.prog 72 = none := by kernel_rfl
theorem cal72 : callable Try.prog 72 = true := by kernel_rfl
theorem plan79_1_1_0 : planOf Try.prog (opsC (atC Try.prog 79 [1, 1, 0])) = some [.fl 0, .fl 1, .fl 3, .fl 4, .fl 5, .fl 6, .fl 8, .fl 9, .fl 11, .fl 12, .fl 13, .fl 14, .an 2 [14, 13, 12, 11, 9, 8, 6, 5, 4, 3], .fl 7, .an 10 [7, 14, 13, 12, 11, 6, 5, 4, 3], .fl 15, .fl 16, .fl 17, .sync] := by kernel_rfl
abbrev ref08_compare_post (r : Int) : SV → Mem → Prop := fun s _ => s = (.int .i64 r)

def ref08_compare (F : Nat) (a0 : (List Int)) (a1 : Int) (a2 : Int) : Option (Int) :=
  bnd (ref08_fold F a0 a1) fun r23 =>
  bnd (ref08_fold F a0 a2) fun r28 =>
  bnd (nz a2) fun z31 =>
  bnd (nz a1) fun z32 =>
  bnd (ref08_power F r23 (0 : Int) a1) fun r33 =>
  bnd (ref08_power F r28 (0 : Int) a2) fun r35 =>
  bif (decide ((w64 ((w64 (r33 * (w64 (Int.tdiv (a0.length : Int) a2)))) - (w64 (r35 * (w64 (Int.tdiv (a0.length : Int) a1)))))) < (0 : Int))) then
    some ((-1) : Int)
  else
    some (min (w64 ((w64 (r33 * (w64 (Int.tdiv (a0.length : Int) a2)))) - (w64 (r35 * (w64 (Int.tdiv (a0.length : Int) a1)))))) (1 : Int))

theorem ref08_compare_ok (F : Nat) (a0 : (List Int)) (a1 : Int) (a2 : Int) (s0 : SV) (r : Int) (M : Mem) (hs0 : Slc (rd M) 1 (FlatR enc3) s0 a0) (h : ref08_compare F a0 a1 a2 = some r) : CallsM Try.prog 79 [s0, (.int .i64 a1), (.int .i64 a2)] M (fun s M' => s = (.int .i64 r) ∧ M' = M) := by
  refine CallsM.plain Try.func79 rfl rfl rfl (show Run _ _ _ (ref08_compare_post r) _ _ _ from ?_)
  rw [ref08_compare] at h
  replace hs0 := hs0.mono (rdLe_frozen M) (fun _ _ h => h)
  have hH := Has.nil (frozen M)
  refine Run.seq (Run.region ?_)
  refine Run.opG wantS_none (ex_assign rfl) rfl ?_
  refine Run.opsEnd (Run.seq (Run.region ?_))
  refine Run.opG wantS_none (ex_move rfl) rfl ?_
  refine Run.opG wantS_none (ex_move rfl) rfl ?_
  obtain ⟨r23, hr23, h⟩ := bnd_some h
  refine Run.callX wantS_none (ex_call rfl mkk76 cal76) rfl (ref08_fold_ok F a0 a1 s0 _ _ (hH.slcF hs0) hr23) ?_
  rintro s23_0 M25 ⟨_, rfl, hN23⟩
  have hH25 : Has (ro (frozen M)) M25 [.vec 3 1 r23.length s23_0 (r23.flatMap enc3)] := hN23.1 _ _ hH
  refine Run.opG wantS_none (ex_move rfl) rfl ?_
  refine Run.opG wantS_none (ex_move rfl) rfl ?_
  obtain ⟨r28, hr28, h⟩ := bnd_some h
  refine Run.callX wantS_none (ex_call rfl mkk76 cal76) rfl (ref08_fold_ok F a0 a2 s0 _ _ (hH25.slcF hs0) hr28) ?_
  rintro s28_0 M30 ⟨_, rfl, hN28⟩
  have hH30 : Has (ro (frozen M)) M30 [.vec 3 1 r28.length s28_0 (r28.flatMap enc3), .vec 3 1 r23.length s23_0 (r23.flatMap enc3)] := hN28.1 _ _ hH25
  refine Run.opG wantS_none (ex_assign rfl) rfl ?_
  refine Run.opG wantS_none (ex_assign rfl) rfl ?_
  refine Run.opsEnd (Run.seq ?_)
  refine Run.drawG plan79_1_1_0 ?_
  refine DrawG.fl rfl (ev_ex wantS_none (ex_move rfl)) rfl ?_
  refine DrawG.fl rfl (ev_ex wantS_none (ex_move rfl)) rfl ?_
  refine DrawG.fl rfl (ev_ex wantS_none (ex_move rfl)) rfl ?_
  refine DrawG.fl rfl (ev_ex wantS_none (ex_len' rfl hs0 lenk38)) rfl ?_
  refine DrawG.fl rfl (ev_ex wantS_none (ex_move rfl)) rfl ?_
  obtain ⟨z31, hz31, h⟩ := bnd_some h
  refine DrawG.fl rfl (ev_ex wantS_none (ex_quo' rfl rfl hz31)) rfl ?_
  refine DrawG.fl rfl (ev_ex wantS_none (ex_move rfl)) rfl ?_
  refine DrawG.fl rfl (ev_ex wantS_none (ex_move rfl)) rfl ?_
  refine DrawG.fl rfl (ev_ex wantS_none (ex_move rfl)) rfl ?_
  refine DrawG.fl rfl (ev_ex wantS_none (ex_len' rfl hs0 lenk38)) rfl ?_
  refine DrawG.fl rfl (ev_ex wantS_none (ex_move rfl)) rfl ?_
  obtain ⟨z32, hz32, h⟩ := bnd_some h
  refine DrawG.fl rfl (ev_ex wantS_none (ex_quo' rfl rfl hz32)) rfl ?_
  obtain ⟨r33, hr33, h⟩ := bnd_some h
  refine DrawG.callP rfl wantS_none (ex_call rfl mkk72 cal72) rfl (ref08_power_ok F r23 (0 : Int) a1 s23_0 _ _ (hH30.slc (i := 1) rfl enc3_len) hr33) (st_cons rfl (ev_ex wantS_none (ex_quo' rfl rfl hz32)) rfl rfl rfl (st_cons rfl (ev_ex wantS_none (ex_move rfl)) rfl rfl rfl (st_cons rfl (ev_ex wantS_none (ex_len' rfl hs0 lenk38)) rfl rfl rfl (st_cons rfl (ev_ex wantS_none (ex_move rfl)) rfl rfl (slc_self hs0) (st_cons rfl (ev_ex wantS_none (ex_move rfl)) rfl rfl rfl (st_cons rfl (ev_ex wantS_none (ex_move rfl)) rfl rfl (blk_self hH30 (i := 0) rfl) (st_cons rfl (ev_ex wantS_none (ex_quo' rfl rfl hz31)) rfl rfl rfl (st_cons rfl (ev_ex wantS_none (ex_move rfl)) rfl rfl rfl (st_cons rfl (ev_ex wantS_none (ex_len' rfl hs0 lenk38)) rfl rfl rfl (st_cons rfl (ev_ex wantS_none (ex_move rfl)) rfl rfl (slc_self hs0) st_nil)))))))))) ?_
  refine DrawG.fl rfl (ev_ex wantS_none (ex_mul rfl rfl)) rfl ?_
  obtain ⟨r35, hr35, h⟩ := bnd_some h
  refine DrawG.callP rfl wantS_none (ex_call rfl mkk72 cal72) rfl (ref08_power_ok F r28 (0 : Int) a2 s28_0 _ _ (hH30.slc (i := 0) rfl enc3_len) hr35) (st_cons rfl (ev_ex wantS_none (ex_mul rfl rfl)) rfl rfl rfl (st_cons rfl (ev_ex wantS_none (ex_quo' rfl rfl hz32)) rfl rfl rfl (st_cons rfl (ev_ex wantS_none (ex_move rfl)) rfl rfl rfl (st_cons rfl (ev_ex wantS_none (ex_len' rfl hs0 lenk38)) rfl rfl rfl (st_cons rfl (ev_ex wantS_none (ex_move rfl)) rfl rfl (slc_self hs0) (st_cons rfl (ev_ex wantS_none (ex_quo' rfl rfl hz31)) rfl rfl rfl (st_cons rfl (ev_ex wantS_none (ex_move rfl)) rfl rfl rfl (st_cons rfl (ev_ex wantS_none (ex_len' rfl hs0 lenk38)) rfl rfl rfl (st_cons rfl (ev_ex wantS_none (ex_move rfl)) rfl rfl (slc_self hs0) st_nil))))))))) ?_
  refine DrawG.fl rfl (ev_ex wantS_none (ex_mul rfl rfl)) rfl ?_
  refine DrawG.fl rfl (ev_ex wantS_none (ex_sub rfl rfl)) rfl ?_
  refine DrawG.fl rfl (ev_ex wantS_none (ex_assign rfl)) rfl ?_
  refine DrawG.sync ?_
  refine DrawG.nil ?_
  refine Run.seq (Run.seq (Run.region ?_))
  refine Run.opG wantS_none (ex_move rfl) rfl ?_
  refine Run.opG wantS_none (ex_lss rfl rfl) rfl ?_
  refine Run.opsEnd ?_
  rcases btf ((decide ((w64 ((w64 (r33 * (w64 (Int.tdiv (a0.length : Int) a2)))) - (w64 (r35 * (w64 (Int.tdiv (a0.length : Int) a1)))))) < (0 : Int)))) with hc37 | hc37
  · have h := bif_t hc37 h
    refine Run.condT' rfl hc37 ?_
    refine Run.seq (Run.region ?_)
    refine Run.opG wantS_none (ex_assign rfl) rfl ?_
    refine Run.opsEnd ?_
    cases h
    exact Run.ret Try.func79 rfl (res_tmp rfl res_nil) rfl
  · have h := bif_f hc37 h
    refine Run.condF' rfl hc37 ?_
    refine Run.skip (Run.seq (Run.region ?_))
    refine Run.opG wantS_none (ex_move rfl) rfl ?_
    refine Run.opG wantS_none (ex_min rfl rfl) rfl ?_
    refine Run.opG wantS_none (ex_assign rfl) rfl ?_
    refine Run.opsEnd ?_
    cases h
    exact Run.ret Try.func79 rfl (res_tmp rfl res_nil) rfl

theorem mkk79 : makeK Try.prog 79 = none := by kernel_rfl
theorem cal79 : callable Try.prog 79 = true := by kernel_rfl
abbrev ref08_Compare_post (r : Int × Int) : SV → Mem → Prop := fun s _ => s = (.tuple [(.int .i64 r.1), (.int .i64 r.2)])

def ref08_Compare (F : Nat) (a0 : (List Int)) (a1 : Int) (a2 : Int) : Option (Int × Int) :=
  bnd (ref08_period F a0 a1) fun r22 =>
  bif (!(r22 == (0 : Int))) then
    some ((0 : Int), r22)
  else
    bnd (ref08_period F a0 a2) fun r26 =>
    bif (!(r26 == (0 : Int))) then
      some ((0 : Int), r26)
    else
      bnd (ref08_compare F a0 a1 a2) fun r30 =>
      some (r30, (0 : Int))

theorem ref08_Compare_ok (F : Nat) (a0 : (List Int)) (a1 : Int) (a2 : Int) (s0 : SV) (r : Int × Int) (M : Mem) (hs0 : Slc (rd M) 1 (FlatR enc3) s0 a0) (h : ref08_Compare F a0 a1 a2 = some r) : CallsM Try.prog 36 [s0, (.int .i64 a1), (.int .i64 a2)] M (fun s M' => s = (.tuple [(.int .i64 r.1), (.int .i64 r.2)]) ∧ M' = M) := by
  refine CallsM.plain Try.func36 rfl rfl rfl (show Run _ _ _ (ref08_Compare_post r) _ _ _ from ?_)
  rw [ref08_Compare] at h
  replace hs0 := hs0.mono (rdLe_frozen M) (fun _ _ h => h)
  have hH := Has.nil (frozen M)
  refine Run.seq (Run.region ?_)
  refine Run.opG wantS_none (ex_assign rfl) rfl ?_
  refine Run.opG wantS_none (ex_assign rfl) rfl ?_
  refine Run.opsEnd (Run.seq (Run.seq (Run.region ?_)))
  refine Run.opG wantS_none (ex_move rfl) rfl ?_
  refine Run.opG wantS_none (ex_move rfl) rfl ?_
  obtain ⟨r22, hr22, h⟩ := bnd_some h
  refine Run.callP wantS_none (ex_call rfl mkk75 cal75) rfl (ref08_period_ok F a0 a1 s0 _ _ (hH.slcF hs0) hr22) ?_
  refine Run.opG wantS_none (ex_assign rfl) rfl ?_
  refine Run.opsEnd (Run.seq (Run.region ?_))
  refine Run.opG wantS_none (ex_move rfl) rfl ?_
  refine Run.opG wantS_none (ex_neq rfl rfl) rfl ?_
  refine Run.opsEnd ?_
  rcases btf ((!(r22 == (0 : Int)))) with hc24 | hc24
  · have h := bif_t hc24 h
    refine Run.condT' rfl hc24 ?_
    refine Run.seq (Run.region ?_)
    refine Run.opG wantS_none (ex_move rfl) rfl ?_
    refine Run.opG wantS_none (ex_assign rfl) rfl ?_
    refine Run.opG wantS_none (ex_assign rfl) rfl ?_
    refine Run.opsEnd ?_
    cases h
    exact Run.ret Try.func36 rfl (res_tmp rfl (res_tmp rfl res_nil)) rfl
  · have h := bif_f hc24 h
    refine Run.condF' rfl hc24 ?_
    refine Run.skip (Run.seq (Run.seq (Run.region ?_)))
    refine Run.opG wantS_none (ex_move rfl) rfl ?_
    refine Run.opG wantS_none (ex_move rfl) rfl ?_
    obtain ⟨r26, hr26, h⟩ := bnd_some h
    refine Run.callP wantS_none (ex_call rfl mkk75 cal75) rfl (ref08_period_ok F a0 a2 s0 _ _ (hH.slcF hs0) hr26) ?_
    refine Run.opG wantS_none (ex_assign rfl) rfl ?_
    refine Run.opsEnd (Run.seq (Run.region ?_))
    refine Run.opG wantS_none (ex_move rfl) rfl ?_
    refine Run.opG wantS_none (ex_neq rfl rfl) rfl ?_
    refine Run.opsEnd ?_
    rcases btf ((!(r26 == (0 : Int)))) with hc28 | hc28
    · have h := bif_t hc28 h
      refine Run.condT' rfl hc28 ?_
      refine Run.seq (Run.region ?_)
      refine Run.opG wantS_none (ex_move rfl) rfl ?_
      refine Run.opG wantS_none (ex_assign rfl) rfl ?_
      refine Run.opG wantS_none (ex_assign rfl) rfl ?_
      refine Run.opsEnd ?_
      cases h
      exact Run.ret Try.func36 rfl (res_tmp rfl (res_tmp rfl res_nil)) rfl
    · have h := bif_f hc28 h
      refine Run.condF' rfl hc28 ?_
      refine Run.skip (Run.seq (Run.region ?_))
      refine Run.opG wantS_none (ex_move rfl) rfl ?_
      refine Run.opG wantS_none (ex_move rfl) rfl ?_
      refine Run.opG wantS_none (ex_move rfl) rfl ?_
      obtain ⟨r30, hr30, h⟩ := bnd_some h
      refine Run.callP wantS_none (ex_call rfl mkk79 cal79) rfl (ref08_compare_ok F a0 a1 a2 s0 _ _ (hH.slcF hs0) hr30) ?_
      refine Run.opG wantS_none (ex_assign rfl) rfl ?_
      refine Run.opG wantS_none (ex_assign rfl) rfl ?_
      refine Run.opsEnd ?_
      cases h
      exact Run.ret Try.func36 rfl (res_tmp rfl (res_tmp rfl res_nil)) rfl

theorem mkk36 : makeK Try.prog 36 = none := by kernel_rfl
theorem cal36 : callable Try.prog 36 = true := by kernel_rfl
theorem plan80_1_0_1_1_1_0_1_0_0_1_0_0_1_0_1_1_1_0 : planOf Try.prog (opsC (atC Try.prog 80 [1, 0, 1, 1, 1, 0, 1, 0, 0, 1, 0, 0, 1, 0, 1, 1, 1, 0])) = some [.fl 0, .fl 1, .fl 2, .an 3 [], .sync] := by kernel_rfl
abbrev search_strongest_post (r : Int) : SV → Mem → Prop := fun s _ => s = (.int .i64 r)

def search_strongest_2 (F : Nat) (v7 : Int) : Option (Int) :=
  some v7

theorem search_strongest_2_ok (F : Nat) : ∀ (v7 : Int) (Fr : Rd) (M : Mem) (r : Int) (hH : Has Fr M []), search_strongest_2 F v7 = some r → Run Try.prog ⟨⟨80, [], none⟩, []⟩ 39 (search_strongest_post r) [(7, (.int .i64 v7))] [itemC Try.prog 80 [1, 0, 1, 1, 1, 1, 0] 0, codeC Try.prog 80 [1, 0, 1, 1, 1, 1, 1], scopeC Try.prog 80 [1, 0]] M := by
  intro v7 Fr M r hH h
  rw [search_strongest_2] at h
  refine Run.opG wantS_none (ex_move rfl) rfl ?_
  refine Run.opG wantS_none (ex_assign rfl) rfl ?_
  refine Run.opsEnd ?_
  cases h
  exact Run.ret Try.func80 rfl (res_tmp rfl res_nil) rfl

def search_strongest_3 (F : Nat) (hd1 : (List Int) → Int → Int → Int → S_search_strength → S_search_strength → Option (Int)) (v0 : (List Int)) (v2 : Int) (v7 : Int) (v10 : Int) (c22 : S_search_strength) (c29 : S_search_strength) : Option (Int) :=
  hd1 v0 v2 v7 (w64 (v10 + (1 : Int))) c22 c29

theorem search_strongest_3_ok (F : Nat) (hd1 : (List Int) → Int → Int → Int → S_search_strength → S_search_strength → Option (Int)) (hhd1 : ∀ (v0 : (List Int)) (v2 : Int) (v7 : Int) (v10 : Int) (c22 : S_search_strength) (c29 : S_search_strength) (sv0 : SV) (b22 : Pos) (b29 : Pos) (Fr : Rd) (M : Mem) (r : Int) (hv0 : Slc Fr 1 (FlatR enc3) sv0 v0) (hH : Has Fr M [.obj b22 (.row 114 .whole [(.int .i64 c22.squares), (.int .i64 c22.folds)]), .obj b29 (.row 114 .whole [(.int .i64 c29.squares), (.int .i64 c29.folds)])]), hd1 v0 v2 v7 v10 c22 c29 = some r → Run Try.prog ⟨⟨80, [], none⟩, []⟩ 39 (search_strongest_post r) [(0, sv0), (2, (.int .i64 v2)), (7, (.int .i64 v7)), (8, (.ptr b22 0)), (9, (.ptr b29 0)), (10, (.int .i64 v10))] [codeC Try.prog 80 [1, 0, 1, 1, 1, 0, 1, 0, 0], loopC Try.prog 80 [1, 0, 1, 1, 1, 0, 1, 0, 0], .inBlock 0, codeC Try.prog 80 [1, 0, 1, 1, 1, 1], scopeC Try.prog 80 [1, 0]] M) : ∀ (v0 : (List Int)) (v2 : Int) (v7 : Int) (v10 : Int) (c22 : S_search_strength) (c29 : S_search_strength) (sv0 : SV) (b22 : Pos) (b29 : Pos) (Fr : Rd) (M : Mem) (r : Int) (hv0 : Slc Fr 1 (FlatR enc3) sv0 v0) (hH : Has Fr M [.obj b22 (.row 114 .whole [(.int .i64 c22.squares), (.int .i64 c22.folds)]), .obj b29 (.row 114 .whole [(.int .i64 c29.squares), (.int .i64 c29.folds)])]), search_strongest_3 F hd1 v0 v2 v7 v10 c22 c29 = some r → Run Try.prog ⟨⟨80, [], none⟩, []⟩ 39 (search_strongest_post r) [(0, sv0), (2, (.int .i64 v2)), (7, (.int .i64 v7)), (8, (.ptr b22 0)), (9, (.ptr b29 0)), (10, (.int .i64 v10))] [itemC Try.prog 80 [1, 0, 1, 1, 1, 0, 1, 0, 0, 1, 1] 0, loopC Try.prog 80 [1, 0, 1, 1, 1, 0, 1, 0, 0], .inBlock 0, codeC Try.prog 80 [1, 0, 1, 1, 1, 1], scopeC Try.prog 80 [1, 0]] M := by
  intro v0 v2 v7 v10 c22 c29 sv0 b22 b29 Fr M r hv0 hH h
  rw [search_strongest_3] at h
  refine Run.opG wantS_none (ex_move rfl) rfl ?_
  refine Run.opG wantS_none (ex_add rfl rfl) rfl ?_
  refine Run.opG wantS_none (ex_assign rfl) rfl ?_
  refine Run.opsEnd (Run.inLoop ?_)
  exact Run.pick [0, 2, 7, 8, 9, 10] (hhd1 v0 v2 v7 (w64 (v10 + (1 : Int))) c22 c29 sv0 b22 b29 _ _ _ hv0 hH h)

def search_strongest_1 (F : Nat) : Nat → (List Int) → Int → Int → Int → S_search_strength → S_search_strength → Option (Int)
  | 0, _, _, _, _, _, _ => none
  | N + 1, v0, v2, v7, v10, c22, c29 =>
    bif (decide (v10 ≤ v2)) then
      bnd (search_strengthOf F v0 v10) fun r34 =>
      bnd (search_strength_compare F r34 c29) fun r41 =>
      bif (r41 == (0 : Int)) then
        search_strongest_2 F v10
      else
        bnd (search_strength_compare F r34 c22) fun r45 =>
        bif (decide ((0 : Int) < r45)) then
          search_strongest_3 F (search_strongest_1 F N) v0 v2 v10 v10 r34 c29
        else
          search_strongest_3 F (search_strongest_1 F N) v0 v2 v7 v10 c22 c29
    else
      search_strongest_2 F v7

theorem search_strongest_1_ok (F : Nat) : ∀ (N : Nat), ∀ (v0 : (List Int)) (v2 : Int) (v7 : Int) (v10 : Int) (c22 : S_search_strength) (c29 : S_search_strength) (sv0 : SV) (b22 : Pos) (b29 : Pos) (Fr : Rd) (M : Mem) (r : Int) (hv0 : Slc Fr 1 (FlatR enc3) sv0 v0) (hH : Has Fr M [.obj b22 (.row 114 .whole [(.int .i64 c22.squares), (.int .i64 c22.folds)]), .obj b29 (.row 114 .whole [(.int .i64 c29.squares), (.int .i64 c29.folds)])]), search_strongest_1 F N v0 v2 v7 v10 c22 c29 = some r → Run Try.prog ⟨⟨80, [], none⟩, []⟩ 39 (search_strongest_post r) [(0, sv0), (2, (.int .i64 v2)), (7, (.int .i64 v7)), (8, (.ptr b22 0)), (9, (.ptr b29 0)), (10, (.int .i64 v10))] [codeC Try.prog 80 [1, 0, 1, 1, 1, 0, 1, 0, 0], loopC Try.prog 80 [1, 0, 1, 1, 1, 0, 1, 0, 0], .inBlock 0, codeC Try.prog 80 [1, 0, 1, 1, 1, 1], scopeC Try.prog 80 [1, 0]] M := by
  intro N
  induction N with
  | zero =>
    intro v0 v2 v7 v10 c22 c29 sv0 b22 b29 Fr M r hv0 hH h
    simp [search_strongest_1] at h
  | succ N ih =>
    intro v0 v2 v7 v10 c22 c29 sv0 b22 b29 Fr M r hv0 hH h
    rw [search_strongest_1] at h
    refine Run.seq (Run.seq (Run.region ?_))
    refine Run.opG wantS_none (ex_move rfl) rfl ?_
    refine Run.opG wantS_none (ex_move rfl) rfl ?_
    refine Run.opG wantS_none (ex_leq rfl rfl) rfl ?_
    refine Run.opsEnd ?_
    rcases btf ((decide (v10 ≤ v2))) with hc32 | hc32
    · have h := bif_t hc32 h
      refine Run.condT' rfl hc32 ?_
      refine Run.skip (Run.seq (Run.block (Run.seq (Run.region ?_))))
      refine Run.opG wantS_none (ex_move rfl) rfl ?_
      refine Run.opG wantS_none (ex_move rfl) rfl ?_
      obtain ⟨r34, hr34, h⟩ := bnd_some h
      refine Run.callP wantS_none (ex_call rfl mkk77 cal77) rfl (search_strengthOf_ok F v0 v10 sv0 _ _ (hH.slcF hv0) hr34) ?_
      refine Run.opX wantS_none rfl (ExG.new (v := fun b => .ptr b 0) (ex_alloc zer114) hH) ?_
      rintro _ M38 ⟨b37, rfl, (hH38 : Has Fr M38 [.obj b37 (.row 114 .whole [(.int .i64 0), (.int .i64 0)]), .obj b22 (.row 114 .whole [(.int .i64 c22.squares), (.int .i64 c22.folds)]), .obj b29 (.row 114 .whole [(.int .i64 c29.squares), (.int .i64 c29.folds)])])⟩
      refine Run.opX wantS_none rfl (ExG.storeC (c' := [(.int .i64 r34.squares), (.int .i64 r34.folds)]) rfl rfl rfl hH38 (i := 0) rfl sz114 rfl rfl rfl rfl rfl) ?_
      rintro _ M39 ⟨rfl, (hH39 : Has Fr M39 [.obj b37 (.row 114 .whole [(.int .i64 r34.squares), (.int .i64 r34.folds)]), .obj b22 (.row 114 .whole [(.int .i64 c22.squares), (.int .i64 c22.folds)]), .obj b29 (.row 114 .whole [(.int .i64 c29.squares), (.int .i64 c29.folds)])])⟩
      refine Run.opsEnd (Run.block (Run.seq (Run.region ?_)))
      refine Run.opG wantS_none (ex_loadA rfl (hH39.cells (i := 0) rfl 0 rfl) rdLe_rfl agg114 rfl rfl rfl) rfl ?_
      refine Run.opG wantS_none (ex_loadA rfl (hH39.cells (i := 2) rfl 0 rfl) rdLe_rfl agg114 rfl rfl rfl) rfl ?_
      obtain ⟨r41, hr41, h⟩ := bnd_some h
      refine Run.callP wantS_none (ex_call rfl mkk78 cal78) rfl (search_strength_compare_ok F r34 c29 _ _ hr41) ?_
      refine Run.opG wantS_none (ex_eql rfl rfl) rfl ?_
      refine Run.opG wantS_none (ex_assign rfl) rfl ?_
      refine Run.opsEnd ?_
      rcases btf ((r41 == (0 : Int))) with hc43 | hc43
      · have h := bif_t hc43 h
        refine Run.condT' rfl hc43 ?_
        refine Run.seq (Run.region ?_)
        refine Run.opG wantS_none (ex_move rfl) rfl ?_
        refine Run.opG wantS_none (ex_assign rfl) rfl ?_
        refine Run.opsEnd (Run.exit rfl (Run.seq (Run.region ?_)))
        exact Run.pick [7] (search_strongest_2_ok F v10 _ _ _ (hH39.pick [] rfl rfl) h)
      · have h := bif_f hc43 h
        refine Run.condF' rfl hc43 ?_
        refine Run.seq (Run.region ?_)
        refine Run.opG wantS_none (ex_loadA rfl (hH39.cells (i := 0) rfl 0 rfl) rdLe_rfl agg114 rfl rfl rfl) rfl ?_
        refine Run.opG wantS_none (ex_loadA rfl (hH39.cells (i := 1) rfl 0 rfl) rdLe_rfl agg114 rfl rfl rfl) rfl ?_
        obtain ⟨r45, hr45, h⟩ := bnd_some h
        refine Run.callP wantS_none (ex_call rfl mkk78 cal78) rfl (search_strength_compare_ok F r34 c22 _ _ hr45) ?_
        refine Run.opG wantS_none (ex_gtr rfl rfl) rfl ?_
        refine Run.opG wantS_none (ex_assign rfl) rfl ?_
        refine Run.opsEnd ?_
        rcases btf ((decide ((0 : Int) < r45))) with hc47 | hc47
        · have h := bif_t hc47 h
          refine Run.condT' rfl hc47 ?_
          refine Run.drawG plan80_1_0_1_1_1_0_1_0_0_1_0_0_1_0_1_1_1_0 ?_
          refine DrawG.fl rfl (ev_ex wantS_none (ex_move rfl)) rfl ?_
          refine DrawG.fl rfl (ev_ex wantS_none (ex_loadA rfl (hH39.cells (i := 0) rfl 0 rfl) rdLe_rfl agg114 rfl rfl rfl)) rfl ?_
          refine DrawG.fl rfl (ev_ex wantS_none (ex_assign rfl)) rfl ?_
          refine DrawG.opX rfl wantS_none rfl (ExG.storeC (c' := [(.int .i64 r34.squares), (.int .i64 r34.folds)]) rfl rfl rfl hH39 (i := 1) rfl sz114 rfl rfl rfl rfl rfl) ?_
          rintro _ M48 ⟨rfl, (hH48 : Has Fr M48 [.obj b37 (.row 114 .whole [(.int .i64 r34.squares), (.int .i64 r34.folds)]), .obj b22 (.row 114 .whole [(.int .i64 r34.squares), (.int .i64 r34.folds)]), .obj b29 (.row 114 .whole [(.int .i64 c29.squares), (.int .i64 c29.folds)])])⟩
          refine ⟨st_nil, ?_⟩
          refine DrawG.sync ?_
          refine DrawG.nil ?_
          refine Run.inBlock (Run.inBlock (Run.region ?_))
          exact Run.pick [0, 2, 7, 8, 9, 10] (search_strongest_3_ok F (search_strongest_1 F N) ih v0 v2 v10 v10 r34 c29 sv0 b22 b29 _ _ _ hv0 (hH48.pick [1, 2] rfl rfl) h)
        · have h := bif_f hc47 h
          refine Run.condF' rfl hc47 ?_
          refine Run.skip (Run.inBlock (Run.inBlock (Run.region ?_)))
          exact Run.pick [0, 2, 7, 8, 9, 10] (search_strongest_3_ok F (search_strongest_1 F N) ih v0 v2 v7 v10 c22 c29 sv0 b22 b29 _ _ _ hv0 (hH39.pick [1, 2] rfl rfl) h)
    · have h := bif_f hc32 h
      refine Run.condF' rfl hc32 ?_
      refine Run.exit rfl (Run.seq (Run.region ?_))
      exact Run.pick [7] (search_strongest_2_ok F v7 _ _ _ (hH.pick [] rfl rfl) h)

def search_strongest (F : Nat) (a0 : (List Int)) (a1 : Int) (a2 : Int) : Option (Int) :=
  bnd (search_power F a0) fun r26 =>
  search_strongest_1 F F a0 a2 (0 : Int) a1 (S_search_strength.mk (-1) 1) (S_search_strength.mk r26 1)

theorem search_strongest_ok (F : Nat) (a0 : (List Int)) (a1 : Int) (a2 : Int) (s0 : SV) (r : Int) (M : Mem) (hs0 : Slc (rd M) 1 (FlatR enc3) s0 a0) (h : search_strongest F a0 a1 a2 = some r) : CallsM Try.prog 80 [s0, (.int .i64 a1), (.int .i64 a2)] M (fun s M' => s = (.int .i64 r) ∧ M' = M) := by
  refine CallsM.plain Try.func80 rfl rfl rfl (show Run _ _ _ (search_strongest_post r) _ _ _ from ?_)
  rw [search_strongest] at h
  replace hs0 := hs0.mono (rdLe_frozen M) (fun _ _ h => h)
  have hH := Has.nil (frozen M)
  refine Run.seq (Run.region ?_)
  refine Run.opG wantS_none (ex_assign rfl) rfl ?_
  refine Run.opsEnd (Run.scope (Run.seq (Run.region ?_)))
  refine Run.opG wantS_none (ex_build (r := [(.int .i64 (-1)), (.int .i64 1)]) rfl zer114 pls114 rfl) rfl ?_
  refine Run.opX wantS_none rfl (ExG.new (v := fun b => .ptr b 0) (ex_alloc zer114) hH) ?_
  rintro _ M23 ⟨b22, rfl, (hH23 : Has (ro (frozen M)) M23 [.obj b22 (.row 114 .whole [(.int .i64 0), (.int .i64 0)])])⟩
  refine Run.opG wantS_none (ex_assign rfl) rfl ?_
  refine Run.opX wantS_none rfl (ExG.storeC (c' := [(.int .i64 (-1)), (.int .i64 1)]) rfl rfl rfl hH23 (i := 0) rfl sz114 rfl rfl rfl rfl rfl) ?_
  rintro _ M24 ⟨rfl, (hH24 : Has (ro (frozen M)) M24 [.obj b22 (.row 114 .whole [(.int .i64 (-1)), (.int .i64 1)])])⟩
  refine Run.opsEnd (Run.seq (Run.region ?_))
  refine Run.opG wantS_none (ex_move rfl) rfl ?_
  obtain ⟨r26, hr26, h⟩ := bnd_some h
  refine Run.callP wantS_none (ex_call rfl mkk116 cal116) rfl (search_power_ok F a0 s0 _ _ (hH24.slcF hs0) hr26) ?_
  refine Run.opG wantS_none (ex_build (r := [(.int .i64 r26), (.int .i64 1)]) rfl zer114 pls114 rfl) rfl ?_
  refine Run.opX wantS_none rfl (ExG.new (v := fun b => .ptr b 0) (ex_alloc zer114) hH24) ?_
  rintro _ M30 ⟨b29, rfl, (hH30 : Has (ro (frozen M)) M30 [.obj b29 (.row 114 .whole [(.int .i64 0), (.int .i64 0)]), .obj b22 (.row 114 .whole [(.int .i64 (-1)), (.int .i64 1)])])⟩
  refine Run.opX wantS_none rfl (ExG.storeC (c' := [(.int .i64 r26), (.int .i64 1)]) rfl rfl rfl hH30 (i := 0) rfl sz114 rfl rfl rfl rfl rfl) ?_
  rintro _ M31 ⟨rfl, (hH31 : Has (ro (frozen M)) M31 [.obj b29 (.row 114 .whole [(.int .i64 r26), (.int .i64 1)]), .obj b22 (.row 114 .whole [(.int .i64 (-1)), (.int .i64 1)])])⟩
  refine Run.opsEnd (Run.seq (Run.label (Run.seq (Run.seq (Run.region ?_)))))
  refine Run.opG wantS_none (ex_move rfl) rfl ?_
  refine Run.opG wantS_none (ex_assign rfl) rfl ?_
  refine Run.opsEnd (Run.block (Run.loop ?_))
  exact Run.pick [0, 2, 7, 8, 9, 10] (search_strongest_1_ok F F a0 a2 (0 : Int) a1 (S_search_strength.mk (-1) 1) (S_search_strength.mk r26 1) s0 b22 b29 _ _ _ hs0 (hH31.pick [1, 0] rfl rfl) h)

theorem mkk80 : makeK Try.prog 80 = none := by kernel_rfl
theorem cal80 : callable Try.prog 80 = true := by kernel_rfl
abbrev search_Period_post (r : Int × Int) : SV → Mem → Prop := fun s _ => s = (.tuple [(.int .i64 r.1), (.int .i64 r.2)])

def search_Period (F : Nat) (a0 : (List Int)) (a1 : Int) (a2 : Int) : Option (Int × Int) :=
  bnd (search_checkPeriods F a0 ([a1, a2] : List Int)) fun r25 =>
  bif (!(r25 == (0 : Int))) then
    some ((0 : Int), r25)
  else
    bif (decide (a2 < a1)) then
      some ((0 : Int), (8 : Int))
    else
      bnd (search_strongest F a0 a1 a2) fun r30 =>
      some (r30, (0 : Int))

theorem search_Period_ok (F : Nat) (a0 : (List Int)) (a1 : Int) (a2 : Int) (s0 : SV) (r : Int × Int) (M : Mem) (hs0 : Slc (rd M) 1 (FlatR enc3) s0 a0) (h : search_Period F a0 a1 a2 = some r) : CallsM Try.prog 37 [s0, (.int .i64 a1), (.int .i64 a2)] M (fun s M' => s = (.tuple [(.int .i64 r.1), (.int .i64 r.2)]) ∧ M' = M) := by
  refine CallsM.plain Try.func37 rfl rfl rfl (show Run _ _ _ (search_Period_post r) _ _ _ from ?_)
  rw [search_Period] at h
  replace hs0 := hs0.mono (rdLe_frozen M) (fun _ _ h => h)
  have hH := Has.nil (frozen M)
  refine Run.seq (Run.region ?_)
  refine Run.opG wantS_none (ex_assign rfl) rfl ?_
  refine Run.opG wantS_none (ex_assign rfl) rfl ?_
  refine Run.opsEnd (Run.seq (Run.seq (Run.region ?_)))
  refine Run.opG wantS_none (ex_move rfl) rfl ?_
  refine Run.opG wantS_none (ex_move rfl) rfl ?_
  refine Run.opG wantS_none (ex_move rfl) rfl ?_
  refine Run.opX wantS_none rfl (ExG.built (enc := enc3) (l := ([a1, a2] : List Int)) (z := 1) rfl elt38 rfl rfl rfl enc3_len hH) ?_
  rintro s22 M23 (hH23 : Has (ro (frozen M)) M23 [.vec 3 1 ([a1, a2] : List Int).length s22 (([a1, a2] : List Int).flatMap enc3)])
  obtain ⟨r25, hr25, h⟩ := bnd_some h
  refine Run.callP wantS_none (ex_call rfl mkk73 cal73) rfl (search_checkPeriods_ok F a0 ([a1, a2] : List Int) s0 s22 _ _ (hH23.slcF hs0) (hH23.slc (i := 0) rfl enc3_len) hr25) ?_
  refine Run.opG wantS_none (ex_assign rfl) rfl ?_
  refine Run.opsEnd (Run.block (Run.seq (Run.region ?_)))
  refine Run.opG wantS_none (ex_move rfl) rfl ?_
  refine Run.opG wantS_none (ex_neq rfl rfl) rfl ?_
  refine Run.opG wantS_none (ex_assign rfl) rfl ?_
  refine Run.opsEnd ?_
  rcases btf ((!(r25 == (0 : Int)))) with hc27 | hc27
  · have h := bif_t hc27 h
    refine Run.condT' rfl hc27 ?_
    refine Run.seq (Run.region ?_)
    refine Run.opG wantS_none (ex_move rfl) rfl ?_
    refine Run.opG wantS_none (ex_assign rfl) rfl ?_
    refine Run.opG wantS_none (ex_assign rfl) rfl ?_
    refine Run.opsEnd ?_
    cases h
    exact Run.ret Try.func37 rfl (res_tmp rfl (res_tmp rfl res_nil)) rfl
  · have h := bif_f hc27 h
    refine Run.condF' rfl hc27 ?_
    refine Run.seq (Run.region ?_)
    refine Run.opG wantS_none (ex_move rfl) rfl ?_
    refine Run.opG wantS_none (ex_move rfl) rfl ?_
    refine Run.opG wantS_none (ex_gtr rfl rfl) rfl ?_
    refine Run.opG wantS_none (ex_assign rfl) rfl ?_
    refine Run.opsEnd ?_
    rcases btf ((decide (a2 < a1))) with hc28 | hc28
    · have h := bif_t hc28 h
      refine Run.condT' rfl hc28 ?_
      refine Run.seq (Run.region ?_)
      refine Run.opG wantS_none (ex_assign rfl) rfl ?_
      refine Run.opG wantS_none (ex_assign rfl) rfl ?_
      refine Run.opsEnd ?_
      cases h
      exact Run.ret Try.func37 rfl (res_tmp rfl (res_tmp rfl res_nil)) rfl
    · have h := bif_f hc28 h
      refine Run.condF' rfl hc28 ?_
      refine Run.skip (Run.inBlock (Run.seq (Run.region ?_)))
      refine Run.opG wantS_none (ex_move rfl) rfl ?_
      refine Run.opG wantS_none (ex_move rfl) rfl ?_
      refine Run.opG wantS_none (ex_move rfl) rfl ?_
      obtain ⟨r30, hr30, h⟩ := bnd_some h
      refine Run.callP wantS_none (ex_call rfl mkk80 cal80) rfl (search_strongest_ok F a0 a1 a2 s0 _ _ (hH23.slcF hs0) hr30) ?_
      refine Run.opG wantS_none (ex_assign rfl) rfl ?_
      refine Run.opG wantS_none (ex_assign rfl) rfl ?_
      refine Run.opsEnd ?_
      cases h
      exact Run.ret Try.func37 rfl (res_tmp rfl (res_tmp rfl res_nil)) rfl

theorem mkk37 : makeK Try.prog 37 = none := by kernel_rfl
theorem cal37 : callable Try.prog 37 = true := by kernel_rfl
abbrev ref08_Period_post (r : Int × Int) : SV → Mem → Prop := fun s _ => s = (.tuple [(.int .i64 r.1), (.int .i64 r.2)])

def ref08_Period_2 (F : Nat) (hd1 : (List Int) → Int → Int → Int → Option (Int × Int)) (v0 : (List Int)) (v2 : Int) (v10 : Int) (v11 : Int) : Option (Int × Int) :=
  hd1 v0 v2 v10 (w64 (v11 + (1 : Int)))

theorem ref08_Period_2_ok (F : Nat) (hd1 : (List Int) → Int → Int → Int → Option (Int × Int)) (hhd1 : ∀ (v0 : (List Int)) (v2 : Int) (v10 : Int) (v11 : Int) (sv0 : SV) (Fr : Rd) (M : Mem) (r : Int × Int) (hv0 : Slc Fr 1 (FlatR enc3) sv0 v0) (hH : Has Fr M []), hd1 v0 v2 v10 v11 = some r → Run Try.prog ⟨⟨38, [], none⟩, []⟩ 41 (ref08_Period_post r) [(0, sv0), (2, (.int .i64 v2)), (10, (.int .i64 v10)), (11, (.int .i64 v11))] [codeC Try.prog 38 [1, 1, 1, 1, 1, 0, 1, 0, 0], loopC Try.prog 38 [1, 1, 1, 1, 1, 0, 1, 0, 0], .inBlock 0, codeC Try.prog 38 [1, 1, 1, 1, 1, 1]] M) : ∀ (v0 : (List Int)) (v2 : Int) (v10 : Int) (v11 : Int) (sv0 : SV) (Fr : Rd) (M : Mem) (r : Int × Int) (hv0 : Slc Fr 1 (FlatR enc3) sv0 v0) (hH : Has Fr M []), ref08_Period_2 F hd1 v0 v2 v10 v11 = some r → Run Try.prog ⟨⟨38, [], none⟩, []⟩ 41 (ref08_Period_post r) [(0, sv0), (2, (.int .i64 v2)), (10, (.int .i64 v10)), (11, (.int .i64 v11))] [itemC Try.prog 38 [1, 1, 1, 1, 1, 0, 1, 0, 0, 1, 1] 0, loopC Try.prog 38 [1, 1, 1, 1, 1, 0, 1, 0, 0], .inBlock 0, codeC Try.prog 38 [1, 1, 1, 1, 1, 1]] M := by
  intro v0 v2 v10 v11 sv0 Fr M r hv0 hH h
  rw [ref08_Period_2] at h
  refine Run.opG wantS_none (ex_move rfl) rfl ?_
  refine Run.opG wantS_none (ex_add rfl rfl) rfl ?_
  refine Run.opG wantS_none (ex_assign rfl) rfl ?_
  refine Run.opsEnd (Run.inLoop ?_)
  exact Run.pick [0, 2, 10, 11] (hhd1 v0 v2 v10 (w64 (v11 + (1 : Int))) sv0 _ _ _ hv0 hH h)

def ref08_Period_1 (F : Nat) : Nat → (List Int) → Int → Int → Int → Option (Int × Int)
  | 0, _, _, _, _ => none
  | N + 1, v0, v2, v10, v11 =>
    bif (decide (v11 ≤ v2)) then
      bnd (ref08_compare F v0 v11 v10) fun r32 =>
      bif (decide ((0 : Int) < r32)) then
        ref08_Period_2 F (ref08_Period_1 F N) v0 v2 v11 v11
      else
        ref08_Period_2 F (ref08_Period_1 F N) v0 v2 v10 v11
    else
      some (v10, (0 : Int))

theorem ref08_Period_1_ok (F : Nat) : ∀ (N : Nat), ∀ (v0 : (List Int)) (v2 : Int) (v10 : Int) (v11 : Int) (sv0 : SV) (Fr : Rd) (M : Mem) (r : Int × Int) (hv0 : Slc Fr 1 (FlatR enc3) sv0 v0) (hH : Has Fr M []), ref08_Period_1 F N v0 v2 v10 v11 = some r → Run Try.prog ⟨⟨38, [], none⟩, []⟩ 41 (ref08_Period_post r) [(0, sv0), (2, (.int .i64 v2)), (10, (.int .i64 v10)), (11, (.int .i64 v11))] [codeC Try.prog 38 [1, 1, 1, 1, 1, 0, 1, 0, 0], loopC Try.prog 38 [1, 1, 1, 1, 1, 0, 1, 0, 0], .inBlock 0, codeC Try.prog 38 [1, 1, 1, 1, 1, 1]] M := by
  intro N
  induction N with
  | zero =>
    intro v0 v2 v10 v11 sv0 Fr M r hv0 hH h
    simp [ref08_Period_1] at h
  | succ N ih =>
    intro v0 v2 v10 v11 sv0 Fr M r hv0 hH h
    rw [ref08_Period_1] at h
    refine Run.seq (Run.seq (Run.region ?_))
    refine Run.opG wantS_none (ex_move rfl) rfl ?_
    refine Run.opG wantS_none (ex_move rfl) rfl ?_
    refine Run.opG wantS_none (ex_leq rfl rfl) rfl ?_
    refine Run.opsEnd ?_
    rcases btf ((decide (v11 ≤ v2))) with hc30 | hc30
    · have h := bif_t hc30 h
      refine Run.condT' rfl hc30 ?_
      refine Run.skip (Run.seq (Run.block (Run.seq (Run.region ?_))))
      refine Run.opG wantS_none (ex_move rfl) rfl ?_
      refine Run.opG wantS_none (ex_move rfl) rfl ?_
      refine Run.opG wantS_none (ex_move rfl) rfl ?_
      obtain ⟨r32, hr32, h⟩ := bnd_some h
      refine Run.callP wantS_none (ex_call rfl mkk79 cal79) rfl (ref08_compare_ok F v0 v11 v10 sv0 _ _ (hH.slcF hv0) hr32) ?_
      refine Run.opG wantS_none (ex_gtr rfl rfl) rfl ?_
      refine Run.opsEnd ?_
      rcases btf ((decide ((0 : Int) < r32))) with hc34 | hc34
      · have h := bif_t hc34 h
        refine Run.condT' rfl hc34 ?_
        refine Run.region ?_
        refine Run.opG wantS_none (ex_move rfl) rfl ?_
        refine Run.opG wantS_none (ex_assign rfl) rfl ?_
        refine Run.opsEnd (Run.inBlock (Run.region ?_))
        exact Run.pick [0, 2, 10, 11] (ref08_Period_2_ok F (ref08_Period_1 F N) ih v0 v2 v11 v11 sv0 _ _ _ hv0 hH h)
      · have h := bif_f hc34 h
        refine Run.condF' rfl hc34 ?_
        refine Run.skip (Run.inBlock (Run.region ?_))
        exact Run.pick [0, 2, 10, 11] (ref08_Period_2_ok F (ref08_Period_1 F N) ih v0 v2 v10 v11 sv0 _ _ _ hv0 hH h)
    · have h := bif_f hc30 h
      refine Run.condF' rfl hc30 ?_
      refine Run.exit rfl (Run.seq (Run.region ?_))
      refine Run.opG wantS_none (ex_move rfl) rfl ?_
      refine Run.opG wantS_none (ex_assign rfl) rfl ?_
      refine Run.opG wantS_none (ex_assign rfl) rfl ?_
      refine Run.opsEnd ?_
      cases h
      exact Run.ret Try.func38 rfl (res_tmp rfl (res_tmp rfl res_nil)) rfl

def ref08_Period (F : Nat) (a0 : (List Int)) (a1 : Int) (a2 : Int) : Option (Int × Int) :=
  bnd (ref08_period F a0 a1) fun r22 =>
  bif (!(r22 == (0 : Int))) then
    some ((0 : Int), r22)
  else
    bnd (ref08_period F a0 a2) fun r26 =>
    bif (!(r26 == (0 : Int))) then
      some ((0 : Int), r26)
    else
      bif (decide (a2 < a1)) then
        some ((0 : Int), (8 : Int))
      else
        ref08_Period_1 F F a0 a2 a1 a1

theorem ref08_Period_ok (F : Nat) (a0 : (List Int)) (a1 : Int) (a2 : Int) (s0 : SV) (r : Int × Int) (M : Mem) (hs0 : Slc (rd M) 1 (FlatR enc3) s0 a0) (h : ref08_Period F a0 a1 a2 = some r) : CallsM Try.prog 38 [s0, (.int .i64 a1), (.int .i64 a2)] M (fun s M' => s = (.tuple [(.int .i64 r.1), (.int .i64 r.2)]) ∧ M' = M) := by
  refine CallsM.plain Try.func38 rfl rfl rfl (show Run _ _ _ (ref08_Period_post r) _ _ _ from ?_)
  rw [ref08_Period] at h
  replace hs0 := hs0.mono (rdLe_frozen M) (fun _ _ h => h)
  have hH := Has.nil (frozen M)
  refine Run.seq (Run.region ?_)
  refine Run.opG wantS_none (ex_assign rfl) rfl ?_
  refine Run.opG wantS_none (ex_assign rfl) rfl ?_
  refine Run.opsEnd (Run.seq (Run.seq (Run.region ?_)))
  refine Run.opG wantS_none (ex_move rfl) rfl ?_
  refine Run.opG wantS_none (ex_move rfl) rfl ?_
  obtain ⟨r22, hr22, h⟩ := bnd_some h
  refine Run.callP wantS_none (ex_call rfl mkk75 cal75) rfl (ref08_period_ok F a0 a1 s0 _ _ (hH.slcF hs0) hr22) ?_
  refine Run.opG wantS_none (ex_assign rfl) rfl ?_
  refine Run.opsEnd (Run.seq (Run.region ?_))
  refine Run.opG wantS_none (ex_move rfl) rfl ?_
  refine Run.opG wantS_none (ex_neq rfl rfl) rfl ?_
  refine Run.opsEnd ?_
  rcases btf ((!(r22 == (0 : Int)))) with hc24 | hc24
  · have h := bif_t hc24 h
    refine Run.condT' rfl hc24 ?_
    refine Run.seq (Run.region ?_)
    refine Run.opG wantS_none (ex_move rfl) rfl ?_
    refine Run.opG wantS_none (ex_assign rfl) rfl ?_
    refine Run.opG wantS_none (ex_assign rfl) rfl ?_
    refine Run.opsEnd ?_
    cases h
    exact Run.ret Try.func38 rfl (res_tmp rfl (res_tmp rfl res_nil)) rfl
  · have h := bif_f hc24 h
    refine Run.condF' rfl hc24 ?_
    refine Run.skip (Run.seq (Run.seq (Run.region ?_)))
    refine Run.opG wantS_none (ex_move rfl) rfl ?_
    refine Run.opG wantS_none (ex_move rfl) rfl ?_
    obtain ⟨r26, hr26, h⟩ := bnd_some h
    refine Run.callP wantS_none (ex_call rfl mkk75 cal75) rfl (ref08_period_ok F a0 a2 s0 _ _ (hH.slcF hs0) hr26) ?_
    refine Run.opG wantS_none (ex_assign rfl) rfl ?_
    refine Run.opsEnd (Run.seq (Run.region ?_))
    refine Run.opG wantS_none (ex_move rfl) rfl ?_
    refine Run.opG wantS_none (ex_neq rfl rfl) rfl ?_
    refine Run.opsEnd ?_
    rcases btf ((!(r26 == (0 : Int)))) with hc28 | hc28
    · have h := bif_t hc28 h
      refine Run.condT' rfl hc28 ?_
      refine Run.seq (Run.region ?_)
      refine Run.opG wantS_none (ex_move rfl) rfl ?_
      refine Run.opG wantS_none (ex_assign rfl) rfl ?_
      refine Run.opG wantS_none (ex_assign rfl) rfl ?_
      refine Run.opsEnd ?_
      cases h
      exact Run.ret Try.func38 rfl (res_tmp rfl (res_tmp rfl res_nil)) rfl
    · have h := bif_f hc28 h
      refine Run.condF' rfl hc28 ?_
      refine Run.skip (Run.seq (Run.seq (Run.region ?_)))
      refine Run.opG wantS_none (ex_move rfl) rfl ?_
      refine Run.opG wantS_none (ex_move rfl) rfl ?_
      refine Run.opG wantS_none (ex_gtr rfl rfl) rfl ?_
      refine Run.opsEnd ?_
      rcases btf ((decide (a2 < a1))) with hc29 | hc29
      · have h := bif_t hc29 h
        refine Run.condT' rfl hc29 ?_
        refine Run.seq (Run.region ?_)
        refine Run.opG wantS_none (ex_assign rfl) rfl ?_
        refine Run.opG wantS_none (ex_assign rfl) rfl ?_
        refine Run.opsEnd ?_
        cases h
        exact Run.ret Try.func38 rfl (res_tmp rfl (res_tmp rfl res_nil)) rfl
      · have h := bif_f hc29 h
        refine Run.condF' rfl hc29 ?_
        refine Run.skip (Run.seq (Run.region ?_))
        refine Run.opG wantS_none (ex_move rfl) rfl ?_
        refine Run.opG wantS_none (ex_assign rfl) rfl ?_
        refine Run.opsEnd (Run.seq (Run.seq (Run.region ?_)))
        refine Run.opG wantS_none (ex_move rfl) rfl ?_
        refine Run.opG wantS_none (ex_assign rfl) rfl ?_
        refine Run.opsEnd (Run.block (Run.loop ?_))
        exact Run.pick [0, 2, 10, 11] (ref08_Period_1_ok F F a0 a2 a1 a1 s0 _ _ _ hs0 hH h)

theorem mkk38 : makeK Try.prog 38 = none := by kernel_rfl
theorem cal38 : callable Try.prog 38 = true := by kernel_rfl
theorem mkk22 : makeK Try.prog 22 = none := by kernel_rfl
theorem cal22 : callable Try.prog 22 = true := by kernel_rfl
abbrev law08_SearchFolds_post (r : Bool) : SV → Mem → Prop := fun s _ => s = (.bool r)

def law08_SearchFolds_4 (F : Nat) (v80 : Bool) : Option (Bool) :=
  some v80

theorem law08_SearchFolds_4_ok (F : Nat) : ∀ (v80 : Bool) (Fr : Rd) (M : Mem) (r : Bool) (hH : Has Fr M []), law08_SearchFolds_4 F v80 = some r → Run Try.prog ⟨⟨7, [], none⟩, []⟩ 81 (law08_SearchFolds_post r) [(80, (.bool v80))] [itemC Try.prog 7 [1, 1, 1, 1, 1, 1, 1, 1, 1, 0] 11, codeC Try.prog 7 [1, 1, 1, 1, 1, 1, 1, 1, 1, 1]] M := by
  intro v80 Fr M r hH h
  rw [law08_SearchFolds_4] at h
  refine Run.opG wantS_none (ex_assign rfl) rfl ?_
  refine Run.opsEnd ?_
  cases h
  exact Run.ret Try.func7 rfl (res_tmp rfl res_nil) rfl

def law08_SearchFolds_3 (F : Nat) (v77 : Bool) : Option (Bool) :=
  bif v77 then
    bnd (works F) fun r53 =>
    law08_SearchFolds_4 F r53
  else
    law08_SearchFolds_4 F false

theorem law08_SearchFolds_3_ok (F : Nat) : ∀ (v77 : Bool) (Fr : Rd) (M : Mem) (r : Bool) (hH : Has Fr M []), law08_SearchFolds_3 F v77 = some r → Run Try.prog ⟨⟨7, [], none⟩, []⟩ 81 (law08_SearchFolds_post r) [(77, (.bool v77))] [itemC Try.prog 7 [1, 1, 1, 1, 1, 1, 1, 1, 1, 0] 8, codeC Try.prog 7 [1, 1, 1, 1, 1, 1, 1, 1, 1, 1]] M := by
  intro v77 Fr M r hH h
  rw [law08_SearchFolds_3] at h
  refine Run.opG wantS_none (ex_move rfl) rfl ?_
  rcases btf (v77) with hc51 | hc51
  · have h := bif_t hc51 h
    obtain ⟨r53, hr53, h⟩ := bnd_some h
    refine Run.callP (wantS_yes' rfl rfl hc51) (ex_call rfl mkk22 cal22) rfl (works_ok F r53 _ hH  hr53) ?_
    refine Run.opG wantS_none (ex_pickT' rfl hc51 rfl rfl) rfl ?_
    exact Run.pick [80] (law08_SearchFolds_4_ok F r53 _ _ _ hH h)
  · have h := bif_f hc51 h
    refine Run.no (wantS_not' rfl rfl hc51) rfl ?_
    refine Run.opG wantS_none (ex_pickF' rfl hc51 rfl rfl) rfl ?_
    exact Run.pick [80] (law08_SearchFolds_4_ok F false _ _ _ hH h)

def law08_SearchFolds_2 (F : Nat) (v0 : (List Int)) (v1 : Int) (v2 : Int) (v55 : Bool) : Option (Bool) :=
  bif v55 then
    some false
  else
    bnd (search_Period F v0 v1 v2) fun r45 =>
    bnd (ref08_Period F v0 v1 v2) fun r48 =>
    bif (r45.1 == r48.1) then
      law08_SearchFolds_3 F (r45.2 == r48.2)
    else
      law08_SearchFolds_3 F false

theorem law08_SearchFolds_2_ok (F : Nat) : ∀ (v0 : (List Int)) (v1 : Int) (v2 : Int) (v55 : Bool) (sv0 : SV) (Fr : Rd) (M : Mem) (r : Bool) (hv0 : Slc Fr 1 (FlatR enc3) sv0 v0) (hH : Has Fr M []), law08_SearchFolds_2 F v0 v1 v2 v55 = some r → Run Try.prog ⟨⟨7, [], none⟩, []⟩ 81 (law08_SearchFolds_post r) [(0, sv0), (1, (.int .i64 v1)), (2, (.int .i64 v2)), (55, (.bool v55))] [codeC Try.prog 7 [1, 1, 1, 1, 1, 1, 0, 1], codeC Try.prog 7 [1, 1, 1, 1, 1, 1, 1]] M := by
  intro v0 v1 v2 v55 sv0 Fr M r hv0 hH h
  rw [law08_SearchFolds_2] at h
  rcases btf (v55) with hc43 | hc43
  · have h := bif_t hc43 h
    refine Run.condT' rfl hc43 ?_
    refine Run.seq (Run.region ?_)
    refine Run.opG wantS_none (ex_assign rfl) rfl ?_
    refine Run.opsEnd ?_
    cases h
    exact Run.ret Try.func7 rfl (res_tmp rfl res_nil) rfl
  · have h := bif_f hc43 h
    refine Run.condF' rfl hc43 ?_
    refine Run.skip (Run.seq (Run.region ?_))
    refine Run.opG wantS_none (ex_move rfl) rfl ?_
    refine Run.opG wantS_none (ex_move rfl) rfl ?_
    refine Run.opG wantS_none (ex_move rfl) rfl ?_
    obtain ⟨r45, hr45, h⟩ := bnd_some h
    refine Run.callP wantS_none (ex_call rfl mkk37 cal37) rfl (search_Period_ok F v0 v1 v2 sv0 _ _ (hH.slcF hv0) hr45) ?_
    refine Run.opG wantS_none (ex_move rfl) rfl ?_
    refine Run.opG wantS_none (ex_extract rfl rfl) rfl ?_
    refine Run.opG wantS_none (ex_extract rfl rfl) rfl ?_
    refine Run.opG wantS_none (ex_assign rfl) rfl ?_
    refine Run.opG wantS_none (ex_assign rfl) rfl ?_
    refine Run.opsEnd (Run.seq (Run.region ?_))
    refine Run.opG wantS_none (ex_move rfl) rfl ?_
    refine Run.opG wantS_none (ex_move rfl) rfl ?_
    refine Run.opG wantS_none (ex_move rfl) rfl ?_
    obtain ⟨r48, hr48, h⟩ := bnd_some h
    refine Run.callP wantS_none (ex_call rfl mkk38 cal38) rfl (ref08_Period_ok F v0 v1 v2 sv0 _ _ (hH.slcF hv0) hr48) ?_
    refine Run.opG wantS_none (ex_move rfl) rfl ?_
    refine Run.opG wantS_none (ex_extract rfl rfl) rfl ?_
    refine Run.opG wantS_none (ex_extract rfl rfl) rfl ?_
    refine Run.opG wantS_none (ex_assign rfl) rfl ?_
    refine Run.opG wantS_none (ex_assign rfl) rfl ?_
    refine Run.opsEnd (Run.seq (Run.region ?_))
    refine Run.opG wantS_none (ex_move rfl) rfl ?_
    refine Run.opG wantS_none (ex_move rfl) rfl ?_
    refine Run.opG wantS_none (ex_eql rfl rfl) rfl ?_
    refine Run.opG wantS_none (ex_move rfl) rfl ?_
    rcases btf ((r45.1 == r48.1)) with hc50 | hc50
    · have h := bif_t hc50 h
      refine Run.opG (wantS_yes' rfl rfl hc50) (ex_move rfl) rfl ?_
      refine Run.opG (wantS_yes' rfl rfl hc50) (ex_move rfl) rfl ?_
      refine Run.opG (wantS_yes' rfl rfl hc50) (ex_eql rfl rfl) rfl ?_
      refine Run.opG wantS_none (ex_pickT' rfl hc50 rfl rfl) rfl ?_
      exact Run.pick [77] (law08_SearchFolds_3_ok F (r45.2 == r48.2) _ _ _ hH h)
    · have h := bif_f hc50 h
      refine Run.no (wantS_not' rfl rfl hc50) rfl ?_
      refine Run.no (wantS_not' rfl rfl hc50) rfl ?_
      refine Run.no (wantS_not' rfl rfl hc50) rfl ?_
      refine Run.opG wantS_none (ex_pickF' rfl hc50 rfl rfl) rfl ?_
      exact Run.pick [77] (law08_SearchFolds_3_ok F false _ _ _ hH h)

def law08_SearchFolds_1 (F : Nat) (v0 : (List Int)) (v1 : Int) (v2 : Int) (v33 : Bool) : Option (Bool) :=
  bif v33 then
    some false
  else
    bnd (search_Compare F v0 v1 v2) fun r37 =>
    bnd (ref08_Compare F v0 v1 v2) fun r40 =>
    bif (!(r37.1 == r40.1)) then
      law08_SearchFolds_2 F v0 v1 v2 true
    else
      law08_SearchFolds_2 F v0 v1 v2 (!(r37.2 == r40.2))

theorem law08_SearchFolds_1_ok (F : Nat) : ∀ (v0 : (List Int)) (v1 : Int) (v2 : Int) (v33 : Bool) (sv0 : SV) (Fr : Rd) (M : Mem) (r : Bool) (hv0 : Slc Fr 1 (FlatR enc3) sv0 v0) (hH : Has Fr M []), law08_SearchFolds_1 F v0 v1 v2 v33 = some r → Run Try.prog ⟨⟨7, [], none⟩, []⟩ 81 (law08_SearchFolds_post r) [(0, sv0), (1, (.int .i64 v1)), (2, (.int .i64 v2)), (33, (.bool v33))] [codeC Try.prog 7 [1, 1, 1, 0, 1], codeC Try.prog 7 [1, 1, 1, 1]] M := by
  intro v0 v1 v2 v33 sv0 Fr M r hv0 hH h
  rw [law08_SearchFolds_1] at h
  rcases btf (v33) with hc35 | hc35
  · have h := bif_t hc35 h
    refine Run.condT' rfl hc35 ?_
    refine Run.seq (Run.region ?_)
    refine Run.opG wantS_none (ex_assign rfl) rfl ?_
    refine Run.opsEnd ?_
    cases h
    exact Run.ret Try.func7 rfl (res_tmp rfl res_nil) rfl
  · have h := bif_f hc35 h
    refine Run.condF' rfl hc35 ?_
    refine Run.skip (Run.seq (Run.region ?_))
    refine Run.opG wantS_none (ex_move rfl) rfl ?_
    refine Run.opG wantS_none (ex_move rfl) rfl ?_
    refine Run.opG wantS_none (ex_move rfl) rfl ?_
    obtain ⟨r37, hr37, h⟩ := bnd_some h
    refine Run.callP wantS_none (ex_call rfl mkk35 cal35) rfl (search_Compare_ok F v0 v1 v2 sv0 _ _ (hH.slcF hv0) hr37) ?_
    refine Run.opG wantS_none (ex_move rfl) rfl ?_
    refine Run.opG wantS_none (ex_extract rfl rfl) rfl ?_
    refine Run.opG wantS_none (ex_extract rfl rfl) rfl ?_
    refine Run.opG wantS_none (ex_assign rfl) rfl ?_
    refine Run.opG wantS_none (ex_assign rfl) rfl ?_
    refine Run.opsEnd (Run.seq (Run.region ?_))
    refine Run.opG wantS_none (ex_move rfl) rfl ?_
    refine Run.opG wantS_none (ex_move rfl) rfl ?_
    refine Run.opG wantS_none (ex_move rfl) rfl ?_
    obtain ⟨r40, hr40, h⟩ := bnd_some h
    refine Run.callP wantS_none (ex_call rfl mkk36 cal36) rfl (ref08_Compare_ok F v0 v1 v2 sv0 _ _ (hH.slcF hv0) hr40) ?_
    refine Run.opG wantS_none (ex_move rfl) rfl ?_
    refine Run.opG wantS_none (ex_extract rfl rfl) rfl ?_
    refine Run.opG wantS_none (ex_extract rfl rfl) rfl ?_
    refine Run.opG wantS_none (ex_assign rfl) rfl ?_
    refine Run.opG wantS_none (ex_assign rfl) rfl ?_
    refine Run.opsEnd (Run.seq (Run.seq (Run.region ?_)))
    refine Run.opG wantS_none (ex_move rfl) rfl ?_
    refine Run.opG wantS_none (ex_move rfl) rfl ?_
    refine Run.opG wantS_none (ex_neq rfl rfl) rfl ?_
    refine Run.opG wantS_none (ex_move rfl) rfl ?_
    rcases btf ((!(r37.1 == r40.1))) with hc42 | hc42
    · have h := bif_t hc42 h
      refine Run.no (wantS_not' rfl rfl hc42) rfl ?_
      refine Run.no (wantS_not' rfl rfl hc42) rfl ?_
      refine Run.no (wantS_not' rfl rfl hc42) rfl ?_
      refine Run.opG wantS_none (ex_pickT' rfl hc42 rfl rfl) rfl ?_
      refine Run.opsEnd ?_
      exact Run.pick [0, 1, 2, 55] (law08_SearchFolds_2_ok F v0 v1 v2 true sv0 _ _ _ hv0 hH h)
    · have h := bif_f hc42 h
      refine Run.opG (wantS_yes' rfl rfl hc42) (ex_move rfl) rfl ?_
      refine Run.opG (wantS_yes' rfl rfl hc42) (ex_move rfl) rfl ?_
      refine Run.opG (wantS_yes' rfl rfl hc42) (ex_neq rfl rfl) rfl ?_
      refine Run.opG wantS_none (ex_pickF' rfl hc42 rfl rfl) rfl ?_
      refine Run.opsEnd ?_
      exact Run.pick [0, 1, 2, 55] (law08_SearchFolds_2_ok F v0 v1 v2 (!(r37.2 == r40.2)) sv0 _ _ _ hv0 hH h)

def law08_SearchFolds (F : Nat) (a0 : (List Int)) (a1 : Int) (a2 : Int) : Option (Bool) :=
  bnd (search_Fold F a0 a1) fun r23 =>
  bnd (ref08_Fold F a0 a1) fun r28 =>
  bnd (ref00_SameInts F r23.1 r28.1) fun r32 =>
  bif (!r32) then
    law08_SearchFolds_1 F a0 a1 a2 true
  else
    law08_SearchFolds_1 F a0 a1 a2 (!(r23.2 == r28.2))

theorem law08_SearchFolds_run (F : Nat) (a0 : (List Int)) (a1 : Int) (a2 : Int) (s0 : SV) (r : Bool) (M : Mem) (hs0 : Slc (rd M) 1 (FlatR enc3) s0 a0) (hfx : FixIn M fixes) (h : law08_SearchFolds F a0 a1 a2 = some r) : Run Try.prog (fx0 7) 81 (law08_SearchFolds_post r) [(0, s0), (1, (.int .i64 a1)), (2, (.int .i64 a2))] [codeC Try.prog 7 []] (frozen M) := by
  rw [law08_SearchFolds] at h
  replace hs0 := hs0.mono (rdLe_frozen M) (fun _ _ h => h)
  have hH : Has (ro (frozen M)) (frozen M) [] := Has.ofFix hfx.frozen
  refine Run.seq (Run.region ?_)
  refine Run.opG wantS_none (ex_assign rfl) rfl ?_
  refine Run.opsEnd (Run.seq (Run.region ?_))
  refine Run.opG wantS_none (ex_move rfl) rfl ?_
  refine Run.opG wantS_none (ex_move rfl) rfl ?_
  obtain ⟨r23, hr23, h⟩ := bnd_some h
  refine Run.callX wantS_none (ex_call rfl mkk33 cal33) rfl (search_Fold_ok F a0 a1 s0 _ _ (hH.slcF hs0) hr23) ?_
  rintro _ M25 ⟨s23_0, rfl, hN23⟩
  have hH25 : Has (ro (frozen M)) M25 [.vec 3 1 r23.1.length s23_0 (r23.1.flatMap enc3)] := hN23.1 _ _ hH
  refine Run.opG wantS_none (ex_move rfl) rfl ?_
  refine Run.opG wantS_none (ex_extract rfl rfl) rfl ?_
  refine Run.opG wantS_none (ex_extract rfl rfl) rfl ?_
  refine Run.opG wantS_none (ex_assign rfl) rfl ?_
  refine Run.opG wantS_none (ex_assign rfl) rfl ?_
  refine Run.opsEnd (Run.seq (Run.region ?_))
  refine Run.opG wantS_none (ex_move rfl) rfl ?_
  refine Run.opG wantS_none (ex_move rfl) rfl ?_
  obtain ⟨r28, hr28, h⟩ := bnd_some h
  refine Run.callX wantS_none (ex_call rfl mkk34 cal34) rfl (ref08_Fold_ok F a0 a1 s0 _ _ (hH25.slcF hs0) hr28) ?_
  rintro _ M30 ⟨s28_0, rfl, hN28⟩
  have hH30 : Has (ro (frozen M)) M30 [.vec 3 1 r28.1.length s28_0 (r28.1.flatMap enc3), .vec 3 1 r23.1.length s23_0 (r23.1.flatMap enc3)] := hN28.1 _ _ hH25
  refine Run.opG wantS_none (ex_move rfl) rfl ?_
  refine Run.opG wantS_none (ex_extract rfl rfl) rfl ?_
  refine Run.opG wantS_none (ex_extract rfl rfl) rfl ?_
  refine Run.opG wantS_none (ex_assign rfl) rfl ?_
  refine Run.opG wantS_none (ex_assign rfl) rfl ?_
  refine Run.opsEnd (Run.seq (Run.seq (Run.region ?_)))
  refine Run.opG wantS_none (ex_move rfl) rfl ?_
  refine Run.opG wantS_none (ex_move rfl) rfl ?_
  obtain ⟨r32, hr32, h⟩ := bnd_some h
  refine Run.callP wantS_none (ex_call rfl mkk28 cal28) rfl (ref00_SameInts_ok F r23.1 r28.1 s23_0 s28_0 _ _ (hH30.slc (i := 1) rfl enc3_len) (hH30.slc (i := 0) rfl enc3_len) hr32) ?_
  refine Run.opG wantS_none (ex_not rfl) rfl ?_
  refine Run.opG wantS_none (ex_move rfl) rfl ?_
  rcases btf ((!r32)) with hc34 | hc34
  · have h := bif_t hc34 h
    refine Run.no (wantS_not' rfl rfl hc34) rfl ?_
    refine Run.no (wantS_not' rfl rfl hc34) rfl ?_
    refine Run.no (wantS_not' rfl rfl hc34) rfl ?_
    refine Run.opG wantS_none (ex_pickT' rfl hc34 rfl rfl) rfl ?_
    refine Run.opsEnd ?_
    exact Run.pick [0, 1, 2, 33] (law08_SearchFolds_1_ok F a0 a1 a2 true s0 _ _ _ hs0 (hH30.pick [] rfl rfl) h)
  · have h := bif_f hc34 h
    refine Run.opG (wantS_yes' rfl rfl hc34) (ex_move rfl) rfl ?_
    refine Run.opG (wantS_yes' rfl rfl hc34) (ex_move rfl) rfl ?_
    refine Run.opG (wantS_yes' rfl rfl hc34) (ex_neq rfl rfl) rfl ?_
    refine Run.opG wantS_none (ex_pickF' rfl hc34 rfl rfl) rfl ?_
    refine Run.opsEnd ?_
    exact Run.pick [0, 1, 2, 33] (law08_SearchFolds_1_ok F a0 a1 a2 (!(r23.2 == r28.2)) s0 _ _ _ hs0 (hH30.pick [] rfl rfl) h)

end Go.Ev.SearchFolds
