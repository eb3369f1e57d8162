/- Plain functions that say what functions of the program come to, and proofs of it, written by a program of the verifier's own. -/
import Derived.Test.YtcifnjdjnoadfaaEvL11
import Derived.Test.YtcifnjdjnoadfaaWorks
import Derived.KernelRfl
namespace Go.Ev.SearchSums
open Go Go.Ev Go.Proofs
set_option maxRecDepth 100000
set_option linter.unusedVariables false

/-- The listed tables. -/
noncomputable def fixes : List (Nat × List SV) := Go.Proofs.Ytcifnjdjnoadfaa.works.fixes
/-- works() comes to true. -/
def works (_ : Nat) : Option Bool := some true
theorem fixH {Fr : Rd} {H : List Ent} {M : Mem} (hH : Has Fr M H) : FixIn M fixes := fun x hx => absurd hx List.not_mem_nil

theorem works_ok (F : Nat) (r : Bool) {Fr : Rd} {H : List Ent} (M : Mem) (hH : Has Fr M H) (h : works F = some r) : CallsM Try.prog 22 [] M fun s M' => s = .bool r ∧ M' = M := by
  cases h
  exact CallsM.closedFix (n := 300) (l := Go.Proofs.Ytcifnjdjnoadfaa.works.fixes) Go.Proofs.Ytcifnjdjnoadfaa.works.below Go.Proofs.Ytcifnjdjnoadfaa.works.plainF Go.Proofs.Ytcifnjdjnoadfaa.works.works_true (fun x hx => absurd hx List.not_mem_nil)


def enc3 (a : Int) : List SV := [(.int .i64 a)]
theorem enc3_len (a : Int) : (enc3 a).length = 1 := rfl
theorem enc3_ones (a : Int) : ones (enc3 a) = true := rfl
theorem elt38 : sliceElt Try.prog 38 = some (⟨1, 8, [(.int .i64 0)], 3⟩ : Elt) := by kernel_rfl
theorem lenk38 : lenK Try.prog 38 = some .sl := by kernel_rfl
theorem mkk131 : makeK Try.prog 131 = none := by kernel_rfl
theorem cal131 : callable Try.prog 131 = true := by kernel_rfl
theorem mkk136 : makeK Try.prog 136 = none := by kernel_rfl
theorem cal136 : callable Try.prog 136 = true := by kernel_rfl
theorem els38 : elems Try.prog 38 = some (.sl 1) := by kernel_rfl
theorem agg3 : aggSize Try.prog 3 = some none := by kernel_rfl
theorem mkk130 : makeK Try.prog 130 = none := by kernel_rfl
theorem cal130 : callable Try.prog 130 = true := by kernel_rfl
abbrev search_isFrom_post (r : Bool) : SV → Mem → Prop := fun s _ => s = (.bool r)

def search_isFrom_1 (F : Nat) (v14 : Bool) : Option (Bool) :=
  some v14

theorem search_isFrom_1_ok (F : Nat) : ∀ (v14 : Bool) (Fr : Rd) (M : Mem) (r : Bool) (hH : Has Fr M []), search_isFrom_1 F v14 = some r → Run Try.prog ⟨⟨62, [], none⟩, []⟩ 15 (search_isFrom_post r) [(14, (.bool v14))] [itemC Try.prog 62 [1, 0] 8, codeC Try.prog 62 [1, 1]] M := by
  intro v14 Fr M r hH h
  rw [search_isFrom_1] at h
  refine Run.opG wantS_none (ex_assign rfl) rfl ?_
  refine Run.opsEnd ?_
  cases h
  exact Run.ret Try.func62 rfl (res_tmp rfl res_nil) rfl

def search_isFrom (F : Nat) (a0 : Int) (a1 : Int) (a2 : Int) : Option (Bool) :=
  bif (decide (a0 ≤ a1)) then
    search_isFrom_1 F (decide (a1 ≤ a2))
  else
    search_isFrom_1 F false

theorem search_isFrom_ok (F : Nat) (a0 : Int) (a1 : Int) (a2 : Int) (r : Bool) (M : Mem) (h : search_isFrom F a0 a1 a2 = some r) : CallsM Try.prog 62 [(.int .i64 a0), (.int .i64 a1), (.int .i64 a2)] M (fun s M' => s = (.bool r) ∧ M' = M) := by
  refine CallsM.plain Try.func62 rfl rfl rfl (show Run _ _ _ (search_isFrom_post r) _ _ _ from ?_)
  rw [search_isFrom] at h
  have hH := Has.nil (frozen M)
  refine Run.seq (Run.region ?_)
  refine Run.opG wantS_none (ex_assign rfl) rfl ?_
  refine Run.opsEnd (Run.seq (Run.region ?_))
  refine Run.opG wantS_none (ex_move rfl) rfl ?_
  refine Run.opG wantS_none (ex_move rfl) rfl ?_
  refine Run.opG wantS_none (ex_leq rfl rfl) rfl ?_
  refine Run.opG wantS_none (ex_move rfl) rfl ?_
  rcases btf ((decide (a0 ≤ a1))) with hc21 | hc21
  · have h := bif_t hc21 h
    refine Run.opG (wantS_yes' rfl rfl hc21) (ex_move rfl) rfl ?_
    refine Run.opG (wantS_yes' rfl rfl hc21) (ex_move rfl) rfl ?_
    refine Run.opG (wantS_yes' rfl rfl hc21) (ex_leq rfl rfl) rfl ?_
    refine Run.opG wantS_none (ex_pickT' rfl hc21 rfl rfl) rfl ?_
    exact Run.pick [14] (search_isFrom_1_ok F (decide (a1 ≤ a2)) _ _ _ hH h)
  · have h := bif_f hc21 h
    refine Run.no (wantS_not' rfl rfl hc21) rfl ?_
    refine Run.no (wantS_not' rfl rfl hc21) rfl ?_
    refine Run.no (wantS_not' rfl rfl hc21) rfl ?_
    refine Run.opG wantS_none (ex_pickF' rfl hc21 rfl rfl) rfl ?_
    exact Run.pick [14] (search_isFrom_1_ok F false _ _ _ hH h)

theorem mkk62 : makeK Try.prog 62 = none := by kernel_rfl
theorem cal62 : callable Try.prog 62 = true := by kernel_rfl
abbrev search_areFrom_post (r : Bool) : SV → Mem → Prop := fun s _ => s = (.bool r)

def search_areFrom_1 (F : Nat) : Nat → (List Int) → Int → Int → Int → Option (Bool)
  | 0, _, _, _, _ => none
  | N + 1, v0, v7, v8, c22_0 =>
    bif (decide (v8 < v7)) then
      bnd (idx v0 v8) fun x26 =>
      bnd (search_isFrom F (w64 (-c22_0)) x26 c22_0) fun r28 =>
      bif (!r28) then
        some (!(decide ((0 : Int) ≤ v8)))
      else
        (search_areFrom_1 F N) v0 v7 (w64 (v8 + (1 : Int))) c22_0
    else
      some (!(decide ((0 : Int) ≤ ((-1) : Int))))

theorem search_areFrom_1_ok (F : Nat) : ∀ (N : Nat), ∀ (v0 : (List Int)) (v7 : Int) (v8 : Int) (c22_0 : Int) (sv0 : SV) (b22 : Pos) (Fr : Rd) (M : Mem) (r : Bool) (hv0 : Slc Fr 1 (FlatR enc3) sv0 v0) (hH : Has Fr M [.obj b22 (.row 3 .whole [(.int .i64 c22_0)])]), search_areFrom_1 F N v0 v7 v8 c22_0 = some r → Run Try.prog ⟨⟨136, [], none⟩, [.mk ⟨131, [], none⟩ 9 (treeOf []) [itemC Try.prog 131 [1, 0] 2, codeC Try.prog 131 [1, 1]], .mk ⟨113, [], none⟩ 11 (treeOf []) [itemC Try.prog 113 [1, 1, 0] 2, codeC Try.prog 113 [1, 1, 1]]]⟩ 19 (search_areFrom_post r) [(0, sv0), (1, (.fn (.func 130) [] [(.ptr b22 0)])), (7, (.int .i64 v7)), (8, (.int .i64 v8))] [codeC Try.prog 136 [1, 0, 1, 0, 0], loopC Try.prog 136 [1, 0, 1, 0, 0], .inBlock 0, codeC Try.prog 136 [1, 1]] M := by
  intro N
  induction N with
  | zero =>
    intro v0 v7 v8 c22_0 sv0 b22 Fr M r hv0 hH h
    simp [search_areFrom_1] at h
  | succ N ih =>
    intro v0 v7 v8 c22_0 sv0 b22 Fr M r hv0 hH h
    rw [search_areFrom_1] at h
    refine Run.seq (Run.region ?_)
    refine Run.opG wantS_none (ex_lss rfl rfl) rfl ?_
    refine Run.opsEnd (Run.seq ?_)
    rcases btf ((decide (v8 < v7))) with hc24 | hc24
    · have h := bif_t hc24 h
      refine Run.condT' rfl hc24 ?_
      refine Run.skip (Run.seq (Run.block (Run.seq (Run.region ?_))))
      refine Run.opG wantS_none (ex_move rfl) rfl ?_
      refine Run.opG wantS_none (ex_assign rfl) rfl ?_
      refine Run.opsEnd (Run.seq (Run.region ?_))
      refine Run.opG wantS_none (ex_move rfl) rfl ?_
      refine Run.opG wantS_none (ex_move rfl) rfl ?_
      refine Run.opG wantS_none (ex_move rfl) rfl ?_
      obtain ⟨x26, hx26, h⟩ := bnd_some h
      obtain ⟨p26, o26, _, hx26, hp26, rfl⟩ := sl_elem (P := Try.prog) (t := 38) (kk := .i64) hv0 hx26 els38
      refine Run.opG wantS_none (ex_elX rfl rfl hx26) rfl ?_
      refine Run.opG wantS_none (ex_load1 rfl (hH.ptrF hp26) rdLe_rfl agg3) rfl ?_
      refine Run.enter wantS_none (ex_closure rfl rfl mkk130 cal130) Try.func130 rfl rfl ?_
      refine Run.seq (Run.region ?_)
      refine Run.opG wantS_none (ex_assign rfl) rfl ?_
      refine Run.opsEnd (Run.seq (Run.region ?_))
      refine Run.opG wantS_none (ex_load1 rfl (hH.cells (i := 0) rfl 0 rfl) rdLe_rfl agg3) rfl ?_
      refine Run.opG wantS_none (ex_neg rfl) rfl ?_
      refine Run.opG wantS_none (ex_move rfl) rfl ?_
      refine Run.opG wantS_none (ex_load1 rfl (hH.cells (i := 0) rfl 0 rfl) rdLe_rfl agg3) rfl ?_
      obtain ⟨r28, hr28, h⟩ := bnd_some h
      refine Run.callP wantS_none (ex_call rfl mkk62 cal62) rfl (search_isFrom_ok F (w64 (-c22_0)) x26 c22_0 _ _ hr28) ?_
      refine Run.opG wantS_none (ex_not rfl) rfl ?_
      refine Run.opG wantS_none (ex_assign rfl) rfl ?_
      refine Run.opsEnd ?_
      refine Run.retTo Try.func130 rfl (res_tmp rfl res_nil) rfl ?_
      refine Run.opsEnd ?_
      rcases btf ((!r28)) with hc30 | hc30
      · have h := bif_t hc30 h
        refine Run.condT' rfl hc30 ?_
        refine Run.seq (Run.region ?_)
        refine Run.opG wantS_none (ex_move rfl) rfl ?_
        refine Run.opG wantS_none (ex_assign rfl) rfl ?_
        refine Run.opsEnd ?_
        refine Run.retTo Try.func136 rfl (res_tmp rfl res_nil) rfl ?_
        refine Run.opG wantS_none (ex_geq rfl rfl) rfl ?_
        refine Run.opG wantS_none (ex_assign rfl) rfl ?_
        refine Run.opsEnd ?_
        refine Run.retTo Try.func131 rfl (res_tmp rfl res_nil) rfl ?_
        refine Run.opG wantS_none (ex_not rfl) rfl ?_
        refine Run.opG wantS_none (ex_assign rfl) rfl ?_
        refine Run.opsEnd ?_
        cases h
        exact Run.ret Try.func113 rfl (res_tmp rfl res_nil) rfl
      · have h := bif_f hc30 h
        refine Run.condF' rfl hc30 ?_
        refine Run.skip (Run.inBlock (Run.region ?_))
        refine Run.opG wantS_none (ex_add rfl rfl) rfl ?_
        refine Run.opG wantS_none (ex_move rfl) rfl ?_
        refine Run.opsEnd (Run.inLoop ?_)
        exact Run.low (.cons (fle_pick [] rfl) (.cons (fle_pick [] rfl) .nil)) (Run.pick [0, 1, 7, 8] (ih v0 v7 (w64 (v8 + (1 : Int))) c22_0 sv0 b22 _ _ _ hv0 hH h))
    · have h := bif_f hc24 h
      refine Run.condF' rfl hc24 ?_
      refine Run.exit rfl (Run.seq (Run.region ?_))
      refine Run.opG wantS_none (ex_assign rfl) rfl ?_
      refine Run.opsEnd ?_
      refine Run.retTo Try.func136 rfl (res_tmp rfl res_nil) rfl ?_
      refine Run.opG wantS_none (ex_geq rfl rfl) rfl ?_
      refine Run.opG wantS_none (ex_assign rfl) rfl ?_
      refine Run.opsEnd ?_
      refine Run.retTo Try.func131 rfl (res_tmp rfl res_nil) rfl ?_
      refine Run.opG wantS_none (ex_not rfl) rfl ?_
      refine Run.opG wantS_none (ex_assign rfl) rfl ?_
      refine Run.opsEnd ?_
      cases h
      exact Run.ret Try.func113 rfl (res_tmp rfl res_nil) rfl

def search_areFrom (F : Nat) (a0 : (List Int)) (a1 : Int) : Option (Bool) :=
  search_areFrom_1 F F a0 (a0.length : Int) (0 : Int) a1

theorem search_areFrom_ok (F : Nat) (a0 : (List Int)) (a1 : Int) (s0 : SV) (r : Bool) (M : Mem) (hs0 : Slc (rd M) 1 (FlatR enc3) s0 a0) (h : search_areFrom F a0 a1 = some r) : CallsM Try.prog 113 [s0, (.int .i64 a1)] M (fun s M' => s = (.bool r) ∧ M' = M) := by
  refine CallsM.plain Try.func113 rfl rfl rfl (show Run _ _ _ (search_areFrom_post r) _ _ _ from ?_)
  rw [search_areFrom] at h
  replace hs0 := hs0.mono (rdLe_frozen M) (fun _ _ h => h)
  have hH := Has.nil (frozen M)
  refine Run.seq (Run.region ?_)
  refine Run.opX wantS_none rfl (ExG.box rfl rfl hH) ?_
  rintro _ M23 ⟨b22, rfl, (hH23 : Has (ro (frozen M)) M23 [.obj b22 (.row 3 .whole [(.int .i64 a1)])])⟩
  refine Run.opG wantS_none (ex_assign rfl) rfl ?_
  refine Run.opsEnd (Run.seq (Run.region ?_))
  refine Run.opG wantS_none (ex_makeFunc rfl rfl) rfl ?_
  refine Run.opG wantS_none (ex_assign rfl) rfl ?_
  refine Run.opsEnd (Run.seq (Run.region ?_))
  refine Run.opG wantS_none (ex_move rfl) rfl ?_
  refine Run.opG wantS_none (ex_move rfl) rfl ?_
  refine Run.enter wantS_none (ex_call rfl mkk131 cal131) Try.func131 rfl rfl ?_
  refine Run.seq (Run.region ?_)
  refine Run.opG wantS_none (ex_assign rfl) rfl ?_
  refine Run.opsEnd (Run.seq (Run.region ?_))
  refine Run.opG wantS_none (ex_move rfl) rfl ?_
  refine Run.opG wantS_none (ex_move rfl) rfl ?_
  refine Run.enter wantS_none (ex_call rfl mkk136 cal136) Try.func136 rfl rfl ?_
  refine Run.seq (Run.region ?_)
  refine Run.opG wantS_none (ex_assign rfl) rfl ?_
  refine Run.opsEnd (Run.seq (Run.seq (Run.region ?_)))
  refine Run.opG wantS_none (ex_move rfl) rfl ?_
  refine Run.opG wantS_none (ex_len' rfl hs0 lenk38) rfl ?_
  refine Run.opG wantS_none (ex_move rfl) rfl ?_
  refine Run.opsEnd (Run.block (Run.loop ?_))
  exact Run.low (.cons (fle_pick [] rfl) (.cons (fle_pick [] rfl) .nil)) (Run.pick [0, 1, 7, 8] (search_areFrom_1_ok F F a0 (a0.length : Int) (0 : Int) a1 s0 b22 _ _ _ hs0 hH23 h))

theorem mkk113 : makeK Try.prog 113 = none := by kernel_rfl
theorem cal113 : callable Try.prog 113 = true := by kernel_rfl
abbrev search_isRecord_post (r : Bool) : SV → Mem → Prop := fun s _ => s = (.bool r)

def search_isRecord_1 (F : Nat) (v9 : Bool) : Option (Bool) :=
  some v9

theorem search_isRecord_1_ok (F : Nat) : ∀ (v9 : Bool) (Fr : Rd) (M : Mem) (r : Bool) (hH : Has Fr M []), search_isRecord_1 F v9 = some r → Run Try.prog ⟨⟨69, [], none⟩, []⟩ 10 (search_isRecord_post r) [(9, (.bool v9))] [itemC Try.prog 69 [1, 0] 7, codeC Try.prog 69 [1, 1]] M := by
  intro v9 Fr M r hH h
  rw [search_isRecord_1] at h
  refine Run.opG wantS_none (ex_assign rfl) rfl ?_
  refine Run.opsEnd ?_
  cases h
  exact Run.ret Try.func69 rfl (res_tmp rfl res_nil) rfl

def search_isRecord (F : Nat) (a0 : (List Int)) : Option (Bool) :=
  bif (decide ((a0.length : Int) ≤ (1024 : Int))) then
    bnd (search_areFrom F a0 (16384 : Int)) fun r23 =>
    search_isRecord_1 F r23
  else
    search_isRecord_1 F false

theorem search_isRecord_ok (F : Nat) (a0 : (List Int)) (s0 : SV) (r : Bool) (M : Mem) (hs0 : Slc (rd M) 1 (FlatR enc3) s0 a0) (h : search_isRecord F a0 = some r) : CallsM Try.prog 69 [s0] M (fun s M' => s = (.bool r) ∧ M' = M) := by
  refine CallsM.plain Try.func69 rfl rfl rfl (show Run _ _ _ (search_isRecord_post r) _ _ _ from ?_)
  rw [search_isRecord] at h
  replace hs0 := hs0.mono (rdLe_frozen M) (fun _ _ h => h)
  have hH := Has.nil (frozen M)
  refine Run.seq (Run.region ?_)
  refine Run.opG wantS_none (ex_assign rfl) rfl ?_
  refine Run.opsEnd (Run.seq (Run.region ?_))
  refine Run.opG wantS_none (ex_move rfl) rfl ?_
  refine Run.opG wantS_none (ex_len' rfl hs0 lenk38) rfl ?_
  refine Run.opG wantS_none (ex_leq rfl rfl) rfl ?_
  refine Run.opG wantS_none (ex_move rfl) rfl ?_
  rcases btf ((decide ((a0.length : Int) ≤ (1024 : Int)))) with hc21 | hc21
  · have h := bif_t hc21 h
    refine Run.opG (wantS_yes' rfl rfl hc21) (ex_move rfl) rfl ?_
    obtain ⟨r23, hr23, h⟩ := bnd_some h
    refine Run.callP (wantS_yes' rfl rfl hc21) (ex_call rfl mkk113 cal113) rfl (search_areFrom_ok F a0 (16384 : Int) s0 _ _ (hH.slcF hs0) hr23) ?_
    refine Run.opG wantS_none (ex_pickT' rfl hc21 rfl rfl) rfl ?_
    exact Run.pick [9] (search_isRecord_1_ok F r23 _ _ _ hH h)
  · have h := bif_f hc21 h
    refine Run.no (wantS_not' rfl rfl hc21) rfl ?_
    refine Run.no (wantS_not' rfl rfl hc21) rfl ?_
    refine Run.opG wantS_none (ex_pickF' rfl hc21 rfl rfl) rfl ?_
    exact Run.pick [9] (search_isRecord_1_ok F false _ _ _ hH h)

theorem mkk69 : makeK Try.prog 69 = none := by kernel_rfl
theorem cal69 : callable Try.prog 69 = true := by kernel_rfl
abbrev search_arePeriods_post (r : Bool) : SV → Mem → Prop := fun s _ => s = (.bool r)

def search_arePeriods_1 (F : Nat) : Nat → Int → (List Int) → Int → Int → Option (Bool)
  | 0, _, _, _, _ => none
  | N + 1, v0, v7, v8, v9 =>
    bif (decide (v9 < v8)) then
      bnd (idx v7 v9) fun x23 =>
      bnd (search_isFrom F (1 : Int) x23 v0) fun r25 =>
      bif (!r25) then
        some false
      else
        (search_arePeriods_1 F N) v0 v7 v8 (w64 (v9 + (1 : Int)))
    else
      some true

theorem search_arePeriods_1_ok (F : Nat) : ∀ (N : Nat), ∀ (v0 : Int) (v7 : (List Int)) (v8 : Int) (v9 : Int) (sv7 : SV) (Fr : Rd) (M : Mem) (r : Bool) (hv7 : Slc Fr 1 (FlatR enc3) sv7 v7) (hH : Has Fr M []), search_arePeriods_1 F N v0 v7 v8 v9 = some r → Run Try.prog ⟨⟨115, [], none⟩, []⟩ 18 (search_arePeriods_post r) [(0, (.int .i64 v0)), (7, sv7), (8, (.int .i64 v8)), (9, (.int .i64 v9))] [codeC Try.prog 115 [1, 0, 1, 0, 0], loopC Try.prog 115 [1, 0, 1, 0, 0], .inBlock 0, codeC Try.prog 115 [1, 1]] M := by
  intro N
  induction N with
  | zero =>
    intro v0 v7 v8 v9 sv7 Fr M r hv7 hH h
    simp [search_arePeriods_1] at h
  | succ N ih =>
    intro v0 v7 v8 v9 sv7 Fr M r hv7 hH h
    rw [search_arePeriods_1] at h
    refine Run.seq (Run.region ?_)
    refine Run.opG wantS_none (ex_lss rfl rfl) rfl ?_
    refine Run.opsEnd (Run.seq ?_)
    rcases btf ((decide (v9 < v8))) with hc21 | hc21
    · have h := bif_t hc21 h
      refine Run.condT' rfl hc21 ?_
      refine Run.skip (Run.seq (Run.block (Run.seq (Run.region ?_))))
      obtain ⟨x23, hx23, h⟩ := bnd_some h
      obtain ⟨p23, o23, _, hx23, hp23, rfl⟩ := sl_elem (P := Try.prog) (t := 38) (kk := .i64) hv7 hx23 els38
      refine Run.opG wantS_none (ex_elX rfl rfl hx23) rfl ?_
      refine Run.opG wantS_none (ex_load1 rfl (hH.ptrF hp23) rdLe_rfl agg3) rfl ?_
      refine Run.opG wantS_none (ex_assign rfl) rfl ?_
      refine Run.opsEnd (Run.seq (Run.region ?_))
      refine Run.opG wantS_none (ex_move rfl) rfl ?_
      refine Run.opG wantS_none (ex_move rfl) rfl ?_
      obtain ⟨r25, hr25, h⟩ := bnd_some h
      refine Run.callP wantS_none (ex_call rfl mkk62 cal62) rfl (search_isFrom_ok F (1 : Int) x23 v0 _ _ hr25) ?_
      refine Run.opG wantS_none (ex_not rfl) rfl ?_
      refine Run.opsEnd ?_
      rcases btf ((!r25)) with hc27 | hc27
      · have h := bif_t hc27 h
        refine Run.condT' rfl hc27 ?_
        refine Run.seq (Run.region ?_)
        refine Run.opG wantS_none (ex_assign rfl) rfl ?_
        refine Run.opsEnd ?_
        cases h
        exact Run.ret Try.func115 rfl (res_tmp rfl res_nil) rfl
      · have h := bif_f hc27 h
        refine Run.condF' rfl hc27 ?_
        refine Run.skip (Run.inBlock (Run.region ?_))
        refine Run.opG wantS_none (ex_add rfl rfl) rfl ?_
        refine Run.opG wantS_none (ex_move rfl) rfl ?_
        refine Run.opsEnd (Run.inLoop ?_)
        exact Run.pick [0, 7, 8, 9] (ih v0 v7 v8 (w64 (v9 + (1 : Int))) sv7 _ _ _ hv7 hH h)
    · have h := bif_f hc21 h
      refine Run.condF' rfl hc21 ?_
      refine Run.exit rfl (Run.seq (Run.region ?_))
      refine Run.opG wantS_none (ex_assign rfl) rfl ?_
      refine Run.opsEnd ?_
      cases h
      exact Run.ret Try.func115 rfl (res_tmp rfl res_nil) rfl

def search_arePeriods (F : Nat) (a0 : Int) (a1 : (List Int)) : Option (Bool) :=
  search_arePeriods_1 F F a0 a1 (a1.length : Int) (0 : Int)

theorem search_arePeriods_ok (F : Nat) (a0 : Int) (a1 : (List Int)) (s0 : SV) (r : Bool) (M : Mem) (hs0 : Slc (rd M) 1 (FlatR enc3) s0 a1) (h : search_arePeriods F a0 a1 = some r) : CallsM Try.prog 115 [(.int .i64 a0), s0] M (fun s M' => s = (.bool r) ∧ M' = M) := by
  refine CallsM.plain Try.func115 rfl rfl rfl (show Run _ _ _ (search_arePeriods_post r) _ _ _ from ?_)
  rw [search_arePeriods] at h
  replace hs0 := hs0.mono (rdLe_frozen M) (fun _ _ h => h)
  have hH := Has.nil (frozen M)
  refine Run.seq (Run.region ?_)
  refine Run.opG wantS_none (ex_assign rfl) rfl ?_
  refine Run.opsEnd (Run.seq (Run.seq (Run.region ?_)))
  refine Run.opG wantS_none (ex_move rfl) rfl ?_
  refine Run.opG wantS_none (ex_len' rfl hs0 lenk38) rfl ?_
  refine Run.opG wantS_none (ex_move rfl) rfl ?_
  refine Run.opsEnd (Run.block (Run.loop ?_))
  exact Run.pick [0, 7, 8, 9] (search_arePeriods_1_ok F F a0 a1 (a1.length : Int) (0 : Int) s0 _ _ _ hs0 hH h)

theorem mkk115 : makeK Try.prog 115 = none := by kernel_rfl
theorem cal115 : callable Try.prog 115 = true := by kernel_rfl
abbrev search_checkPeriods_post (r : Int) : SV → Mem → Prop := fun s _ => s = (.int .i64 r)

def search_checkPeriods (F : Nat) (a0 : (List Int)) (a1 : (List Int)) : Option (Int) :=
  bnd (search_isRecord F a0) fun r22 =>
  bif (!r22) then
    some (82 : Int)
  else
    bnd (search_arePeriods F (a0.length : Int) a1) fun r26 =>
    bif (!r26) then
      some (8 : Int)
    else
      some (0 : Int)

theorem search_checkPeriods_ok (F : Nat) (a0 : (List Int)) (a1 : (List Int)) (s0 s1 : SV) (r : Int) (M : Mem) (hs0 : Slc (rd M) 1 (FlatR enc3) s0 a0) (hs1 : Slc (rd M) 1 (FlatR enc3) s1 a1) (h : search_checkPeriods F a0 a1 = some r) : CallsM Try.prog 73 [s0, s1] M (fun s M' => s = (.int .i64 r) ∧ M' = M) := by
  refine CallsM.plain Try.func73 rfl rfl rfl (show Run _ _ _ (search_checkPeriods_post r) _ _ _ from ?_)
  rw [search_checkPeriods] at h
  replace hs0 := hs0.mono (rdLe_frozen M) (fun _ _ h => h)
  replace hs1 := hs1.mono (rdLe_frozen M) (fun _ _ h => h)
  have hH := Has.nil (frozen M)
  refine Run.seq (Run.region ?_)
  refine Run.opG wantS_none (ex_assign rfl) rfl ?_
  refine Run.opsEnd (Run.seq (Run.block (Run.seq (Run.region ?_))))
  refine Run.opG wantS_none (ex_move rfl) rfl ?_
  obtain ⟨r22, hr22, h⟩ := bnd_some h
  refine Run.callP wantS_none (ex_call rfl mkk69 cal69) rfl (search_isRecord_ok F a0 s0 _ _ (hH.slcF hs0) hr22) ?_
  refine Run.opG wantS_none (ex_not rfl) rfl ?_
  refine Run.opG wantS_none (ex_assign rfl) rfl ?_
  refine Run.opsEnd ?_
  rcases btf ((!r22)) with hc24 | hc24
  · have h := bif_t hc24 h
    refine Run.condT' rfl hc24 ?_
    refine Run.seq (Run.region ?_)
    refine Run.opG wantS_none (ex_assign rfl) rfl ?_
    refine Run.opsEnd ?_
    cases h
    exact Run.ret Try.func73 rfl (res_tmp rfl res_nil) rfl
  · have h := bif_f hc24 h
    refine Run.condF' rfl hc24 ?_
    refine Run.seq (Run.region ?_)
    refine Run.opG wantS_none (ex_move rfl) rfl ?_
    refine Run.opG wantS_none (ex_len' rfl hs0 lenk38) rfl ?_
    refine Run.opG wantS_none (ex_move rfl) rfl ?_
    obtain ⟨r26, hr26, h⟩ := bnd_some h
    refine Run.callP wantS_none (ex_call rfl mkk115 cal115) rfl (search_arePeriods_ok F (a0.length : Int) a1 s1 _ _ (hH.slcF hs1) hr26) ?_
    refine Run.opG wantS_none (ex_not rfl) rfl ?_
    refine Run.opG wantS_none (ex_assign rfl) rfl ?_
    refine Run.opsEnd ?_
    rcases btf ((!r26)) with hc28 | hc28
    · have h := bif_t hc28 h
      refine Run.condT' rfl hc28 ?_
      refine Run.seq (Run.region ?_)
      refine Run.opG wantS_none (ex_assign rfl) rfl ?_
      refine Run.opsEnd ?_
      cases h
      exact Run.ret Try.func73 rfl (res_tmp rfl res_nil) rfl
    · have h := bif_f hc28 h
      refine Run.condF' rfl hc28 ?_
      refine Run.skip (Run.inBlock (Run.seq (Run.region ?_)))
      refine Run.opG wantS_none (ex_assign rfl) rfl ?_
      refine Run.opsEnd ?_
      cases h
      exact Run.ret Try.func73 rfl (res_tmp rfl res_nil) rfl

theorem mkk73 : makeK Try.prog 73 = none := by kernel_rfl
theorem cal73 : callable Try.prog 73 = true := by kernel_rfl
theorem slk38 : slK Try.prog 38 = some (.sl 1) := by kernel_rfl
theorem sz3 : szOf Try.prog 3 = some 1 := by kernel_rfl
abbrev search_fold_post (r : (List Int) × Int) : SV → Mem → Prop := fun s Me => ∃ q1, s = (.tuple [q1, (.int .i64 r.2)]) ∧ Has (fun _ => none) Me [.vec 3 1 r.1.length q1 (r.1.flatMap enc3)]

def search_fold_1 (F : Nat) : Nat → Int → Int → (List Int) → Int → Int → (List Int) → Option ((List Int) × Int)
  | 0, _, _, _, _, _, _ => none
  | N + 1, v1, v5, v18, v19, v20, l24 =>
    bif (decide (v20 < v19)) then
      bnd (idx v18 v20) fun x30 =>
      bnd (nz v1) fun z32 =>
      bnd (idx l24 (Int.tmod v20 v1)) fun x34 =>
      bnd (inn l24 (Int.tmod v20 v1)) fun o36 =>
      bnd (upd l24 o36 (w64 (x34 + x30))) fun l38 =>
      (search_fold_1 F N) v1 v5 v18 v19 (w64 (v20 + (1 : Int))) l38
    else
      some (l24, v5)

theorem search_fold_1_ok (F : Nat) : ∀ (N : Nat), ∀ (v1 : Int) (v5 : Int) (v18 : (List Int)) (v19 : Int) (v20 : Int) (l24 : (List Int)) (sv18 : SV) (s24 : SV) (Fr : Rd) (M : Mem) (r : (List Int) × Int) (hv18 : Slc Fr 1 (FlatR enc3) sv18 v18) (hH : Has Fr M [.vec 3 1 l24.length s24 (l24.flatMap enc3)]), search_fold_1 F N v1 v5 v18 v19 v20 l24 = some r → Run Try.prog ⟨⟨74, [], none⟩, []⟩ 37 (search_fold_post r) [(1, (.int .i64 v1)), (4, s24), (5, (.int .i64 v5)), (18, sv18), (19, (.int .i64 v19)), (20, (.int .i64 v20))] [codeC Try.prog 74 [1, 1, 1, 0, 1, 0, 0], loopC Try.prog 74 [1, 1, 1, 0, 1, 0, 0], .inBlock 0, codeC Try.prog 74 [1, 1, 1, 1]] M := by
  intro N
  induction N with
  | zero =>
    intro v1 v5 v18 v19 v20 l24 sv18 s24 Fr M r hv18 hH h
    simp [search_fold_1] at h
  | succ N ih =>
    intro v1 v5 v18 v19 v20 l24 sv18 s24 Fr M r hv18 hH h
    rw [search_fold_1] at h
    refine Run.seq (Run.region ?_)
    refine Run.opG wantS_none (ex_lss rfl rfl) rfl ?_
    refine Run.opsEnd (Run.seq ?_)
    rcases btf ((decide (v20 < v19))) with hc28 | hc28
    · have h := bif_t hc28 h
      refine Run.condT' rfl hc28 ?_
      refine Run.skip (Run.seq (Run.block (Run.seq (Run.region ?_))))
      refine Run.opG wantS_none (ex_move rfl) rfl ?_
      obtain ⟨x30, hx30, h⟩ := bnd_some h
      obtain ⟨p30, o30, _, hx30, hp30, rfl⟩ := sl_elem (P := Try.prog) (t := 38) (kk := .i64) hv18 hx30 els38
      refine Run.opG wantS_none (ex_elX rfl rfl hx30) rfl ?_
      refine Run.opG wantS_none (ex_load1 rfl (hH.ptrF hp30) rdLe_rfl agg3) rfl ?_
      refine Run.opG wantS_none (ex_assign rfl) rfl ?_
      refine Run.opG wantS_none (ex_assign rfl) rfl ?_
      refine Run.opsEnd (Run.region ?_)
      refine Run.opG wantS_none (ex_move rfl) rfl ?_
      refine Run.opG wantS_none (ex_move rfl) rfl ?_
      refine Run.opG wantS_none (ex_move rfl) rfl ?_
      obtain ⟨z32, hz32, h⟩ := bnd_some h
      refine Run.opG wantS_none (ex_rem' rfl rfl hz32) rfl ?_
      obtain ⟨x34, hx34, h⟩ := bnd_some h
      obtain ⟨p34, o34, hb34, hx34, he34⟩ := vec_elem (P := Try.prog) (t := 38) (kk := .i64) hH (i := 0) rfl hx34 els38
      refine Run.opG wantS_none (ex_elX rfl rfl hx34) rfl ?_
      refine Run.opG wantS_none (ex_load1 rfl (hH.at (enc := enc3) (a := x34) (i := 0) rfl hb34 he34 enc3_len) rdLe_rfl agg3) rfl ?_
      refine Run.opG wantS_none (ex_move rfl) rfl ?_
      refine Run.opG wantS_none (ex_add rfl rfl) rfl ?_
      obtain ⟨o36, ho36, h⟩ := bnd_some h
      obtain ⟨p36, hb36, hx36⟩ := vec_place (P := Try.prog) (t := 38) (kk := .i64) hH (i := 0) rfl ho36 els38
      refine Run.opG wantS_none (ex_elX rfl rfl hx36) rfl ?_
      obtain ⟨l38, hl38, h⟩ := bnd_some h
      refine Run.opX wantS_none rfl (ExG.storeEl rfl rfl hH (i := 0) rfl hb36 hl38 sz3 rfl enc3_len enc3_ones) ?_
      rintro _ M39 ⟨rfl, (hH39 : Has Fr M39 [.vec 3 1 l38.length s24 (l38.flatMap enc3)])⟩
      refine Run.opsEnd (Run.inBlock (Run.region ?_))
      refine Run.opG wantS_none (ex_add rfl rfl) rfl ?_
      refine Run.opG wantS_none (ex_move rfl) rfl ?_
      refine Run.opsEnd (Run.inLoop ?_)
      exact Run.pick [1, 4, 5, 18, 19, 20] (ih v1 v5 v18 v19 (w64 (v20 + (1 : Int))) l38 sv18 s24 _ _ _ hv18 hH39 h)
    · have h := bif_f hc28 h
      refine Run.condF' rfl hc28 ?_
      refine Run.exit rfl (Run.seq (Run.region ?_))
      refine Run.opG wantS_none (ex_move rfl) rfl ?_
      refine Run.opG wantS_none (ex_move rfl) rfl ?_
      refine Run.opG wantS_none (ex_assign rfl) rfl ?_
      refine Run.opG wantS_none (ex_assign rfl) rfl ?_
      refine Run.opsEnd ?_
      cases h
      exact Run.ret Try.func74 rfl (res_tmp rfl (res_tmp rfl res_nil)) ⟨_, rfl, (hH.pick [0] rfl rfl).upF (none_le _)⟩

def search_fold (F : Nat) (a0 : (List Int)) (a1 : Int) : Option ((List Int) × Int) :=
  bnd (nz a1) fun z22 =>
  bnd (mk a1 8 (0 : Int)) fun l24 =>
  bnd (sub a0 0 (w64 ((w64 (Int.tdiv (a0.length : Int) a1)) * a1))) fun l27 =>
  search_fold_1 F F a1 (w64 (Int.tdiv (a0.length : Int) a1)) l27 (l27.length : Int) (0 : Int) l24

theorem search_fold_ok (F : Nat) (a0 : (List Int)) (a1 : Int) (s0 : SV) (r : (List Int) × Int) (M : Mem) (hs0 : Slc (rd M) 1 (FlatR enc3) s0 a0) (h : search_fold F a0 a1 = some r) : CallsM Try.prog 74 [s0, (.int .i64 a1)] M (fun s M' => ∃ q1, s = (.tuple [q1, (.int .i64 r.2)]) ∧ New M M' [.vec 3 1 r.1.length q1 (r.1.flatMap enc3)]) := by
  refine CallsM.fresh (Q := search_fold_post r) Try.func74 rfl rfl ?_ (by rintro s Me ⟨q1, rfl, hx⟩ ha hw; exact ⟨_, rfl, New.of rfl hx ha hw⟩)
  rw [search_fold] at h
  replace hs0 := hs0.mono (rdLe_frozen M) (fun _ _ h => h)
  have hH := Has.nil (frozen M)
  refine Run.seq (Run.region ?_)
  refine Run.opG wantS_none (ex_assign rfl) rfl ?_
  refine Run.opG wantS_none (ex_assign rfl) rfl ?_
  refine Run.opsEnd (Run.seq (Run.region ?_))
  refine Run.opG wantS_none (ex_move rfl) rfl ?_
  refine Run.opG wantS_none (ex_len' rfl hs0 lenk38) rfl ?_
  refine Run.opG wantS_none (ex_move rfl) rfl ?_
  obtain ⟨z22, hz22, h⟩ := bnd_some h
  refine Run.opG wantS_none (ex_quo' rfl rfl hz22) rfl ?_
  refine Run.opG wantS_none (ex_assign rfl) rfl ?_
  refine Run.opsEnd (Run.seq (Run.region ?_))
  refine Run.opG wantS_none (ex_move rfl) rfl ?_
  obtain ⟨l24, hl24, h⟩ := bnd_some h
  refine Run.opX wantS_none rfl (ExG.make (enc := enc3) (z := 1) rfl rfl hl24 elt38 rfl rfl enc3_len hH) ?_
  rintro s24 M25 (hH25 : Has (ro (frozen M)) M25 [.vec 3 1 l24.length s24 (l24.flatMap enc3)])
  refine Run.opG wantS_none (ex_assign rfl) rfl ?_
  refine Run.opsEnd (Run.seq (Run.seq (Run.region ?_)))
  refine Run.opG wantS_none (ex_move rfl) rfl ?_
  refine Run.opG wantS_none (ex_move rfl) rfl ?_
  refine Run.opG wantS_none (ex_move rfl) rfl ?_
  refine Run.opG wantS_none (ex_mul rfl rfl) rfl ?_
  obtain ⟨l27, hl27, h⟩ := bnd_some h
  obtain ⟨s27, hx27, hs27⟩ := sl_subH (P := Try.prog) (t := 38) (k0 := .i64) hs0 hl27 slk38
  refine Run.opG wantS_none (ex_slX rfl (argO_none) (argO_some rfl) hx27) rfl ?_
  refine Run.opG wantS_none (ex_len' rfl hs27 lenk38) rfl ?_
  refine Run.opG wantS_none (ex_move rfl) rfl ?_
  refine Run.opsEnd (Run.block (Run.loop ?_))
  exact Run.pick [1, 4, 5, 18, 19, 20] (search_fold_1_ok F F a1 (w64 (Int.tdiv (a0.length : Int) a1)) l27 (l27.length : Int) (0 : Int) l24 s27 s24 _ _ _ hs27 hH25 h)

theorem mkk74 : makeK Try.prog 74 = none := by kernel_rfl
theorem cal74 : callable Try.prog 74 = true := by kernel_rfl
abbrev search_Fold_post (r : (List Int) × Int) : SV → Mem → Prop := fun s Me => ∃ q1, s = (.tuple [q1, (.int .i64 r.2)]) ∧ Has (fun _ => none) Me [.vec 3 1 r.1.length q1 (r.1.flatMap enc3)]

def search_Fold (F : Nat) (a0 : (List Int)) (a1 : Int) : Option ((List Int) × Int) :=
  bnd (search_checkPeriods F a0 ([a1] : List Int)) fun r25 =>
  bif (!(r25 == (0 : Int))) then
    some (([] : List Int), r25)
  else
    bnd (search_fold F a0 a1) fun r32 =>
    some (r32.1, (0 : Int))

theorem search_Fold_ok (F : Nat) (a0 : (List Int)) (a1 : Int) (s0 : SV) (r : (List Int) × Int) (M : Mem) (hs0 : Slc (rd M) 1 (FlatR enc3) s0 a0) (h : search_Fold F a0 a1 = some r) : CallsM Try.prog 33 [s0, (.int .i64 a1)] M (fun s M' => ∃ q1, s = (.tuple [q1, (.int .i64 r.2)]) ∧ New M M' [.vec 3 1 r.1.length q1 (r.1.flatMap enc3)]) := by
  refine CallsM.fresh (Q := search_Fold_post r) Try.func33 rfl rfl ?_ (by rintro s Me ⟨q1, rfl, hx⟩ ha hw; exact ⟨_, rfl, New.of rfl hx ha hw⟩)
  rw [search_Fold] at h
  replace hs0 := hs0.mono (rdLe_frozen M) (fun _ _ h => h)
  have hH := Has.nil (frozen M)
  refine Run.seq (Run.region ?_)
  refine Run.opG wantS_none (ex_assign rfl) rfl ?_
  refine Run.opG wantS_none (ex_assign rfl) rfl ?_
  refine Run.opsEnd (Run.seq (Run.seq (Run.region ?_)))
  refine Run.opG wantS_none (ex_move rfl) rfl ?_
  refine Run.opG wantS_none (ex_move rfl) rfl ?_
  refine Run.opX wantS_none rfl (ExG.built (enc := enc3) (l := ([a1] : List Int)) (z := 1) rfl elt38 rfl rfl rfl enc3_len hH) ?_
  rintro s22 M23 (hH23 : Has (ro (frozen M)) M23 [.vec 3 1 ([a1] : List Int).length s22 (([a1] : List Int).flatMap enc3)])
  obtain ⟨r25, hr25, h⟩ := bnd_some h
  refine Run.callP wantS_none (ex_call rfl mkk73 cal73) rfl (search_checkPeriods_ok F a0 ([a1] : List Int) s0 s22 _ _ (hH23.slcF hs0) (hH23.slc (i := 0) rfl enc3_len) hr25) ?_
  refine Run.opG wantS_none (ex_assign rfl) rfl ?_
  refine Run.opsEnd (Run.seq (Run.region ?_))
  refine Run.opG wantS_none (ex_move rfl) rfl ?_
  refine Run.opG wantS_none (ex_neq rfl rfl) rfl ?_
  refine Run.opsEnd ?_
  rcases btf ((!(r25 == (0 : Int)))) with hc27 | hc27
  · have h := bif_t hc27 h
    refine Run.condT' rfl hc27 ?_
    refine Run.seq (Run.region ?_)
    refine Run.opG wantS_none (ex_move rfl) rfl ?_
    refine Run.opG wantS_none (ex_assign rfl) rfl ?_
    refine Run.opG wantS_none (ex_assign rfl) rfl ?_
    refine Run.opsEnd ?_
    have hH29 : Has (ro (frozen M)) M23 [.vec 3 1 ([] : List Int).length .nils (([] : List Int).flatMap enc3), .vec 3 1 ([a1] : List Int).length s22 (([a1] : List Int).flatMap enc3)] := hH23.nils 3 1
    cases h
    exact Run.ret Try.func33 rfl (res_tmp rfl (res_tmp rfl res_nil)) ⟨_, rfl, (hH29.pick [0] rfl rfl).upF (none_le _)⟩
  · have h := bif_f hc27 h
    refine Run.condF' rfl hc27 ?_
    refine Run.skip (Run.seq (Run.region ?_))
    refine Run.opG wantS_none (ex_move rfl) rfl ?_
    refine Run.opG wantS_none (ex_move rfl) rfl ?_
    obtain ⟨r32, hr32, h⟩ := bnd_some h
    refine Run.callX wantS_none (ex_call rfl mkk74 cal74) rfl (search_fold_ok F a0 a1 s0 _ _ (hH23.slcF hs0) hr32) ?_
    rintro _ M34 ⟨s32_0, rfl, hN32⟩
    have hH34 : Has (ro (frozen M)) M34 [.vec 3 1 r32.1.length s32_0 (r32.1.flatMap enc3), .vec 3 1 ([a1] : List Int).length s22 (([a1] : List Int).flatMap enc3)] := hN32.1 _ _ hH23
    refine Run.opG wantS_none (ex_move rfl) rfl ?_
    refine Run.opG wantS_none (ex_extract rfl rfl) rfl ?_
    refine Run.opG wantS_none (ex_extract rfl rfl) rfl ?_
    refine Run.opG wantS_none (ex_assign rfl) rfl ?_
    refine Run.opG wantS_none (ex_assign rfl) rfl ?_
    refine Run.opsEnd (Run.seq (Run.region ?_))
    refine Run.opG wantS_none (ex_move rfl) rfl ?_
    refine Run.opG wantS_none (ex_assign rfl) rfl ?_
    refine Run.opG wantS_none (ex_assign rfl) rfl ?_
    refine Run.opsEnd ?_
    cases h
    exact Run.ret Try.func33 rfl (res_tmp rfl (res_tmp rfl res_nil)) ⟨_, rfl, (hH34.pick [0] rfl rfl).upF (none_le _)⟩

theorem mkk33 : makeK Try.prog 33 = none := by kernel_rfl
theorem cal33 : callable Try.prog 33 = true := by kernel_rfl
theorem mkk22 : makeK Try.prog 22 = none := by kernel_rfl
theorem cal22 : callable Try.prog 22 = true := by kernel_rfl
abbrev ref00_In_post (r : Bool) : SV → Mem → Prop := fun s _ => s = (.bool r)

def ref00_In_1 (F : Nat) (v14 : Bool) : Option (Bool) :=
  some v14

theorem ref00_In_1_ok (F : Nat) : ∀ (v14 : Bool) (Fr : Rd) (M : Mem) (r : Bool) (hH : Has Fr M []), ref00_In_1 F v14 = some r → Run Try.prog ⟨⟨49, [], none⟩, []⟩ 15 (ref00_In_post r) [(14, (.bool v14))] [itemC Try.prog 49 [1, 0] 8, codeC Try.prog 49 [1, 1]] M := by
  intro v14 Fr M r hH h
  rw [ref00_In_1] at h
  refine Run.opG wantS_none (ex_assign rfl) rfl ?_
  refine Run.opsEnd ?_
  cases h
  exact Run.ret Try.func49 rfl (res_tmp rfl res_nil) rfl

def ref00_In (F : Nat) (a0 : Int) (a1 : Int) (a2 : Int) : Option (Bool) :=
  bif (decide (a1 ≤ a0)) then
    ref00_In_1 F (decide (a0 ≤ a2))
  else
    ref00_In_1 F false

theorem ref00_In_ok (F : Nat) (a0 : Int) (a1 : Int) (a2 : Int) (r : Bool) (M : Mem) (h : ref00_In F a0 a1 a2 = some r) : CallsM Try.prog 49 [(.int .i64 a0), (.int .i64 a1), (.int .i64 a2)] M (fun s M' => s = (.bool r) ∧ M' = M) := by
  refine CallsM.plain Try.func49 rfl rfl rfl (show Run _ _ _ (ref00_In_post r) _ _ _ from ?_)
  rw [ref00_In] at h
  have hH := Has.nil (frozen M)
  refine Run.seq (Run.region ?_)
  refine Run.opG wantS_none (ex_assign rfl) rfl ?_
  refine Run.opsEnd (Run.seq (Run.region ?_))
  refine Run.opG wantS_none (ex_move rfl) rfl ?_
  refine Run.opG wantS_none (ex_move rfl) rfl ?_
  refine Run.opG wantS_none (ex_leq rfl rfl) rfl ?_
  refine Run.opG wantS_none (ex_move rfl) rfl ?_
  rcases btf ((decide (a1 ≤ a0))) with hc21 | hc21
  · have h := bif_t hc21 h
    refine Run.opG (wantS_yes' rfl rfl hc21) (ex_move rfl) rfl ?_
    refine Run.opG (wantS_yes' rfl rfl hc21) (ex_move rfl) rfl ?_
    refine Run.opG (wantS_yes' rfl rfl hc21) (ex_leq rfl rfl) rfl ?_
    refine Run.opG wantS_none (ex_pickT' rfl hc21 rfl rfl) rfl ?_
    exact Run.pick [14] (ref00_In_1_ok F (decide (a0 ≤ a2)) _ _ _ hH h)
  · have h := bif_f hc21 h
    refine Run.no (wantS_not' rfl rfl hc21) rfl ?_
    refine Run.no (wantS_not' rfl rfl hc21) rfl ?_
    refine Run.no (wantS_not' rfl rfl hc21) rfl ?_
    refine Run.opG wantS_none (ex_pickF' rfl hc21 rfl rfl) rfl ?_
    exact Run.pick [14] (ref00_In_1_ok F false _ _ _ hH h)

theorem mkk49 : makeK Try.prog 49 = none := by kernel_rfl
theorem cal49 : callable Try.prog 49 = true := by kernel_rfl
abbrev ref00_Mod_post (r : Int) : SV → Mem → Prop := fun s _ => s = (.int .i64 r)

def ref00_Mod_1 (F : Nat) (v0 : Int) : Option (Int) :=
  some v0

theorem ref00_Mod_1_ok (F : Nat) : ∀ (v0 : Int) (Fr : Rd) (M : Mem) (r : Int) (hH : Has Fr M []), ref00_Mod_1 F v0 = some r → Run Try.prog ⟨⟨48, [], none⟩, []⟩ 16 (ref00_Mod_post r) [(0, (.int .i64 v0))] [itemC Try.prog 48 [1, 1, 1, 1, 0] 0, codeC Try.prog 48 [1, 1, 1, 1, 1]] M := by
  intro v0 Fr M r hH h
  rw [ref00_Mod_1] at h
  refine Run.opG wantS_none (ex_move rfl) rfl ?_
  refine Run.opG wantS_none (ex_assign rfl) rfl ?_
  refine Run.opsEnd ?_
  cases h
  exact Run.ret Try.func48 rfl (res_tmp rfl res_nil) rfl

def ref00_Mod (F : Nat) (a0 : Int) (a1 : Int) : Option (Int) :=
  bif (decide (a1 < (1 : Int))) then
    some (0 : Int)
  else
    bnd (nz a1) fun z23 =>
    bif (decide ((Int.tmod a0 a1) < (0 : Int))) then
      ref00_Mod_1 F (w64 ((Int.tmod a0 a1) + a1))
    else
      ref00_Mod_1 F (Int.tmod a0 a1)

theorem ref00_Mod_ok (F : Nat) (a0 : Int) (a1 : Int) (r : Int) (M : Mem) (h : ref00_Mod F a0 a1 = some r) : CallsM Try.prog 48 [(.int .i64 a0), (.int .i64 a1)] M (fun s M' => s = (.int .i64 r) ∧ M' = M) := by
  refine CallsM.plain Try.func48 rfl rfl rfl (show Run _ _ _ (ref00_Mod_post r) _ _ _ from ?_)
  rw [ref00_Mod] at h
  have hH := Has.nil (frozen M)
  refine Run.seq (Run.region ?_)
  refine Run.opG wantS_none (ex_assign rfl) rfl ?_
  refine Run.opsEnd (Run.seq (Run.seq (Run.region ?_)))
  refine Run.opG wantS_none (ex_move rfl) rfl ?_
  refine Run.opG wantS_none (ex_lss rfl rfl) rfl ?_
  refine Run.opsEnd ?_
  rcases btf ((decide (a1 < (1 : Int)))) with hc21 | hc21
  · have h := bif_t hc21 h
    refine Run.condT' rfl hc21 ?_
    refine Run.seq (Run.region ?_)
    refine Run.opG wantS_none (ex_assign rfl) rfl ?_
    refine Run.opsEnd ?_
    cases h
    exact Run.ret Try.func48 rfl (res_tmp rfl res_nil) rfl
  · have h := bif_f hc21 h
    refine Run.condF' rfl hc21 ?_
    refine Run.skip (Run.seq (Run.region ?_))
    refine Run.opG wantS_none (ex_move rfl) rfl ?_
    refine Run.opG wantS_none (ex_move rfl) rfl ?_
    obtain ⟨z23, hz23, h⟩ := bnd_some h
    refine Run.opG wantS_none (ex_rem' rfl rfl hz23) rfl ?_
    refine Run.opG wantS_none (ex_assign rfl) rfl ?_
    refine Run.opsEnd (Run.seq (Run.seq (Run.region ?_)))
    refine Run.opG wantS_none (ex_move rfl) rfl ?_
    refine Run.opG wantS_none (ex_lss rfl rfl) rfl ?_
    refine Run.opsEnd ?_
    rcases btf ((decide ((Int.tmod a0 a1) < (0 : Int)))) with hc24 | hc24
    · have h := bif_t hc24 h
      refine Run.condT' rfl hc24 ?_
      refine Run.region ?_
      refine Run.opG wantS_none (ex_move rfl) rfl ?_
      refine Run.opG wantS_none (ex_move rfl) rfl ?_
      refine Run.opG wantS_none (ex_add rfl rfl) rfl ?_
      refine Run.opG wantS_none (ex_assign rfl) rfl ?_
      refine Run.opsEnd (Run.seq (Run.region ?_))
      exact Run.pick [0] (ref00_Mod_1_ok F (w64 ((Int.tmod a0 a1) + a1)) _ _ _ hH h)
    · have h := bif_f hc24 h
      refine Run.condF' rfl hc24 ?_
      refine Run.skip (Run.seq (Run.region ?_))
      exact Run.pick [0] (ref00_Mod_1_ok F (Int.tmod a0 a1) _ _ _ hH h)

theorem mkk48 : makeK Try.prog 48 = none := by kernel_rfl
theorem cal48 : callable Try.prog 48 = true := by kernel_rfl
theorem appt38_38 : appT Try.prog 38 38 = some (⟨1, 8, [(.int .i64 0)], 3⟩ : Elt) := by kernel_rfl
structure S_search_strength where
  squares : Int
  folds : Int

theorem zer114 : zerosOf Try.prog 114 = some [(.int .i64 0), (.int .i64 0)] := by kernel_rfl
abbrev search_power_post (r : Int) : SV → Mem → Prop := fun s _ => s = (.int .i64 r)

def search_power_1 (F : Nat) : Nat → Int → (List Int) → Int → Int → Option (Int)
  | 0, _, _, _, _ => none
  | N + 1, v3, v6, v7, v8 =>
    bif (decide (v8 < v7)) then
      bnd (idx v6 v8) fun x23 =>
      (search_power_1 F N) (w64 (v3 + (w64 (x23 * x23)))) v6 v7 (w64 (v8 + (1 : Int)))
    else
      some v3

theorem search_power_1_ok (F : Nat) : ∀ (N : Nat), ∀ (v3 : Int) (v6 : (List Int)) (v7 : Int) (v8 : Int) (sv6 : SV) (Fr : Rd) (M : Mem) (r : Int) (hv6 : Slc Fr 1 (FlatR enc3) sv6 v6) (hH : Has Fr M []), search_power_1 F N v3 v6 v7 v8 = some r → Run Try.prog ⟨⟨116, [], none⟩, []⟩ 19 (search_power_post r) [(3, (.int .i64 v3)), (6, sv6), (7, (.int .i64 v7)), (8, (.int .i64 v8))] [codeC Try.prog 116 [1, 1, 0, 1, 0, 0], loopC Try.prog 116 [1, 1, 0, 1, 0, 0], .inBlock 0, codeC Try.prog 116 [1, 1, 1]] M := by
  intro N
  induction N with
  | zero =>
    intro v3 v6 v7 v8 sv6 Fr M r hv6 hH h
    simp [search_power_1] at h
  | succ N ih =>
    intro v3 v6 v7 v8 sv6 Fr M r hv6 hH h
    rw [search_power_1] at h
    refine Run.seq (Run.region ?_)
    refine Run.opG wantS_none (ex_lss rfl rfl) rfl ?_
    refine Run.opsEnd (Run.seq ?_)
    rcases btf ((decide (v8 < v7))) with hc21 | hc21
    · have h := bif_t hc21 h
      refine Run.condT' rfl hc21 ?_
      refine Run.skip (Run.seq (Run.block (Run.seq (Run.region ?_))))
      obtain ⟨x23, hx23, h⟩ := bnd_some h
      obtain ⟨p23, o23, _, hx23, hp23, rfl⟩ := sl_elem (P := Try.prog) (t := 38) (kk := .i64) hv6 hx23 els38
      refine Run.opG wantS_none (ex_elX rfl rfl hx23) rfl ?_
      refine Run.opG wantS_none (ex_load1 rfl (hH.ptrF hp23) rdLe_rfl agg3) rfl ?_
      refine Run.opG wantS_none (ex_assign rfl) rfl ?_
      refine Run.opsEnd (Run.region ?_)
      refine Run.opG wantS_none (ex_move rfl) rfl ?_
      refine Run.opG wantS_none (ex_move rfl) rfl ?_
      refine Run.opG wantS_none (ex_move rfl) rfl ?_
      refine Run.opG wantS_none (ex_mul rfl rfl) rfl ?_
      refine Run.opG wantS_none (ex_add rfl rfl) rfl ?_
      refine Run.opG wantS_none (ex_assign rfl) rfl ?_
      refine Run.opsEnd (Run.inBlock (Run.region ?_))
      refine Run.opG wantS_none (ex_add rfl rfl) rfl ?_
      refine Run.opG wantS_none (ex_move rfl) rfl ?_
      refine Run.opsEnd (Run.inLoop ?_)
      exact Run.pick [3, 6, 7, 8] (ih (w64 (v3 + (w64 (x23 * x23)))) v6 v7 (w64 (v8 + (1 : Int))) sv6 _ _ _ hv6 hH h)
    · have h := bif_f hc21 h
      refine Run.condF' rfl hc21 ?_
      refine Run.exit rfl (Run.seq (Run.region ?_))
      refine Run.opG wantS_none (ex_move rfl) rfl ?_
      refine Run.opG wantS_none (ex_assign rfl) rfl ?_
      refine Run.opsEnd ?_
      cases h
      exact Run.ret Try.func116 rfl (res_tmp rfl res_nil) rfl

def search_power (F : Nat) (a0 : (List Int)) : Option (Int) :=
  search_power_1 F F (0 : Int) a0 (a0.length : Int) (0 : Int)

theorem search_power_ok (F : Nat) (a0 : (List Int)) (s0 : SV) (r : Int) (M : Mem) (hs0 : Slc (rd M) 1 (FlatR enc3) s0 a0) (h : search_power F a0 = some r) : CallsM Try.prog 116 [s0] M (fun s M' => s = (.int .i64 r) ∧ M' = M) := by
  refine CallsM.plain Try.func116 rfl rfl rfl (show Run _ _ _ (search_power_post r) _ _ _ from ?_)
  rw [search_power] at h
  replace hs0 := hs0.mono (rdLe_frozen M) (fun _ _ h => h)
  have hH := Has.nil (frozen M)
  refine Run.seq (Run.region ?_)
  refine Run.opG wantS_none (ex_assign rfl) rfl ?_
  refine Run.opsEnd (Run.seq (Run.region ?_))
  refine Run.opG wantS_none (ex_assign rfl) rfl ?_
  refine Run.opsEnd (Run.seq (Run.seq (Run.region ?_)))
  refine Run.opG wantS_none (ex_move rfl) rfl ?_
  refine Run.opG wantS_none (ex_len' rfl hs0 lenk38) rfl ?_
  refine Run.opG wantS_none (ex_move rfl) rfl ?_
  refine Run.opsEnd (Run.block (Run.loop ?_))
  exact Run.pick [3, 6, 7, 8] (search_power_1_ok F F (0 : Int) a0 (a0.length : Int) (0 : Int) s0 _ _ _ hs0 hH h)

theorem mkk116 : makeK Try.prog 116 = none := by kernel_rfl
theorem cal116 : callable Try.prog 116 = true := by kernel_rfl
theorem pls114 : placesOf Try.prog 114 = some (.st [(0, 1), (1, 1)]) := by kernel_rfl
theorem sz114 : szOf Try.prog 114 = some 2 := by kernel_rfl
theorem agg114 : aggSize Try.prog 114 = some (some 2) := by kernel_rfl
abbrev search_strengthOf_post (r : S_search_strength) : SV → Mem → Prop := fun s _ => s = (.agg [(.int .i64 r.squares), (.int .i64 r.folds)])

def search_strengthOf (F : Nat) (a0 : (List Int)) (a1 : Int) : Option (S_search_strength) :=
  bnd (search_fold F a0 a1) fun r26 =>
  bnd (search_power F r26.1) fun r30 =>
  some (S_search_strength.mk r30 r26.2)

theorem search_strengthOf_ok (F : Nat) (a0 : (List Int)) (a1 : Int) (s0 : SV) (r : S_search_strength) (M : Mem) (hs0 : Slc (rd M) 1 (FlatR enc3) s0 a0) (h : search_strengthOf F a0 a1 = some r) : CallsM Try.prog 77 [s0, (.int .i64 a1)] M (fun s M' => s = (.agg [(.int .i64 r.squares), (.int .i64 r.folds)]) ∧ M' = M) := by
  refine CallsM.plain Try.func77 rfl rfl rfl (show Run _ _ _ (search_strengthOf_post r) _ _ _ from ?_)
  rw [search_strengthOf] at h
  replace hs0 := hs0.mono (rdLe_frozen M) (fun _ _ h => h)
  have hH := Has.nil (frozen M)
  refine Run.seq (Run.region ?_)
  refine Run.opX wantS_none rfl (ExG.new (v := fun b => .ptr b 0) (ex_alloc zer114) hH) ?_
  rintro _ M23 ⟨b22, rfl, (hH23 : Has (ro (frozen M)) M23 [.obj b22 (.row 114 .whole [(.int .i64 0), (.int .i64 0)])])⟩
  refine Run.opsEnd (Run.seq (Run.region ?_))
  refine Run.opG wantS_none (ex_move rfl) rfl ?_
  refine Run.opG wantS_none (ex_move rfl) rfl ?_
  obtain ⟨r26, hr26, h⟩ := bnd_some h
  refine Run.callX wantS_none (ex_call rfl mkk74 cal74) rfl (search_fold_ok F a0 a1 s0 _ _ (hH23.slcF hs0) hr26) ?_
  rintro _ M28 ⟨s26_0, rfl, hN26⟩
  have hH28 : Has (ro (frozen M)) M28 [.vec 3 1 r26.1.length s26_0 (r26.1.flatMap enc3), .obj b22 (.row 114 .whole [(.int .i64 0), (.int .i64 0)])] := hN26.1 _ _ hH23
  refine Run.opG wantS_none (ex_move rfl) rfl ?_
  refine Run.opG wantS_none (ex_extract rfl rfl) rfl ?_
  refine Run.opG wantS_none (ex_extract rfl rfl) rfl ?_
  refine Run.opG wantS_none (ex_assign rfl) rfl ?_
  refine Run.opG wantS_none (ex_assign rfl) rfl ?_
  refine Run.opsEnd (Run.seq (Run.region ?_))
  refine Run.opG wantS_none (ex_move rfl) rfl ?_
  obtain ⟨r30, hr30, h⟩ := bnd_some h
  refine Run.callP wantS_none (ex_call rfl mkk116 cal116) rfl (search_power_ok F r26.1 s26_0 _ _ (hH28.slc (i := 0) rfl enc3_len) hr30) ?_
  refine Run.opG wantS_none (ex_move rfl) rfl ?_
  refine Run.opG wantS_none (ex_build (r := [(.int .i64 r30), (.int .i64 r26.2)]) rfl zer114 pls114 rfl) rfl ?_
  refine Run.opX wantS_none rfl (ExG.storeC (c' := [(.int .i64 r30), (.int .i64 r26.2)]) rfl rfl rfl hH28 (i := 1) rfl sz114 rfl rfl rfl rfl rfl) ?_
  rintro _ M32 ⟨rfl, (hH32 : Has (ro (frozen M)) M32 [.vec 3 1 r26.1.length s26_0 (r26.1.flatMap enc3), .obj b22 (.row 114 .whole [(.int .i64 r30), (.int .i64 r26.2)])])⟩
  refine Run.opsEnd ?_
  cases h
  exact Run.ret Try.func77 rfl (res_cell rfl (x_load (ex_loadA rfl (hH32.cells (i := 1) rfl 0 rfl) rdLe_rfl agg114 rfl rfl rfl)) res_nil) rfl

theorem mkk77 : makeK Try.prog 77 = none := by kernel_rfl
theorem cal77 : callable Try.prog 77 = true := by kernel_rfl
theorem off114_0 : fieldOff Try.prog 114 0 = some 0 := by kernel_rfl
theorem off114_1 : fieldOff Try.prog 114 1 = some 1 := by kernel_rfl
abbrev cmp_isNaN_post (r : Bool) : SV → Mem → Prop := fun s _ => s = (.bool r)

def cmp_isNaN (F : Nat) (a0 : Int) : Option (Bool) :=
  some (!(a0 == a0))

theorem cmp_isNaN_ok (F : Nat) (a0 : Int) (r : Bool) (M : Mem) (h : cmp_isNaN F a0 = some r) : CallsM Try.prog 134 [(.int .i64 a0)] M (fun s M' => s = (.bool r) ∧ M' = M) := by
  refine CallsM.plain Try.func134 rfl rfl rfl (show Run _ _ _ (cmp_isNaN_post r) _ _ _ from ?_)
  rw [cmp_isNaN] at h
  have hH := Has.nil (frozen M)
  refine Run.seq (Run.region ?_)
  refine Run.opG wantS_none (ex_assign rfl) rfl ?_
  refine Run.opsEnd (Run.seq (Run.region ?_))
  refine Run.opG wantS_none (ex_move rfl) rfl ?_
  refine Run.opG wantS_none (ex_move rfl) rfl ?_
  refine Run.opG wantS_none (ex_neq rfl rfl) rfl ?_
  refine Run.opG wantS_none (ex_assign rfl) rfl ?_
  refine Run.opsEnd ?_
  cases h
  exact Run.ret Try.func134 rfl (res_tmp rfl res_nil) rfl

theorem mkk134 : makeK Try.prog 134 = none := by kernel_rfl
theorem cal134 : callable Try.prog 134 = true := by kernel_rfl
abbrev cmp_Compare_post (r : Int) : SV → Mem → Prop := fun s _ => s = (.int .i64 r)

def cmp_Compare (F : Nat) (a0 : Int) (a1 : Int) : Option (Int) :=
  bnd (cmp_isNaN F a0) fun r22 =>
  bnd (cmp_isNaN F a1) fun r25 =>
  bif r22 then
    bif r25 then
      some (0 : Int)
    else
      some ((-1) : Int)
  else
    bif r25 then
      some (1 : Int)
    else
      bif (decide (a0 < a1)) then
        some ((-1) : Int)
      else
        bif (decide (a1 < a0)) then
          some (1 : Int)
        else
          some (0 : Int)

theorem cmp_Compare_ok (F : Nat) (a0 : Int) (a1 : Int) (r : Int) (M : Mem) (h : cmp_Compare F a0 a1 = some r) : CallsM Try.prog 117 [(.int .i64 a0), (.int .i64 a1)] M (fun s M' => s = (.int .i64 r) ∧ M' = M) := by
  refine CallsM.plain Try.func117 rfl rfl rfl (show Run _ _ _ (cmp_Compare_post r) _ _ _ from ?_)
  rw [cmp_Compare] at h
  have hH := Has.nil (frozen M)
  refine Run.seq (Run.region ?_)
  refine Run.opG wantS_none (ex_assign rfl) rfl ?_
  refine Run.opsEnd (Run.seq (Run.region ?_))
  refine Run.opG wantS_none (ex_move rfl) rfl ?_
  obtain ⟨r22, hr22, h⟩ := bnd_some h
  refine Run.callP wantS_none (ex_call rfl mkk134 cal134) rfl (cmp_isNaN_ok F a0 _ _ hr22) ?_
  refine Run.opG wantS_none (ex_assign rfl) rfl ?_
  refine Run.opsEnd (Run.seq (Run.region ?_))
  refine Run.opG wantS_none (ex_move rfl) rfl ?_
  obtain ⟨r25, hr25, h⟩ := bnd_some h
  refine Run.callP wantS_none (ex_call rfl mkk134 cal134) rfl (cmp_isNaN_ok F a1 _ _ hr25) ?_
  refine Run.opG wantS_none (ex_assign rfl) rfl ?_
  refine Run.opsEnd (Run.seq (Run.seq (Run.region ?_)))
  refine Run.opG wantS_none (ex_move rfl) rfl ?_
  refine Run.opsEnd ?_
  rcases btf (r22) with hc27 | hc27
  · have h := bif_t hc27 h
    refine Run.condT' rfl hc27 ?_
    refine Run.seq (Run.seq (Run.region ?_))
    refine Run.opG wantS_none (ex_move rfl) rfl ?_
    refine Run.opsEnd ?_
    rcases btf (r25) with hc28 | hc28
    · have h := bif_t hc28 h
      refine Run.condT' rfl hc28 ?_
      refine Run.seq (Run.region ?_)
      refine Run.opG wantS_none (ex_assign rfl) rfl ?_
      refine Run.opsEnd ?_
      cases h
      exact Run.ret Try.func117 rfl (res_tmp rfl res_nil) rfl
    · have h := bif_f hc28 h
      refine Run.condF' rfl hc28 ?_
      refine Run.skip (Run.seq (Run.region ?_))
      refine Run.opG wantS_none (ex_assign rfl) rfl ?_
      refine Run.opsEnd ?_
      cases h
      exact Run.ret Try.func117 rfl (res_tmp rfl res_nil) rfl
  · have h := bif_f hc27 h
    refine Run.condF' rfl hc27 ?_
    refine Run.skip (Run.seq (Run.seq (Run.region ?_)))
    refine Run.opG wantS_none (ex_move rfl) rfl ?_
    refine Run.opsEnd ?_
    rcases btf (r25) with hc29 | hc29
    · have h := bif_t hc29 h
      refine Run.condT' rfl hc29 ?_
      refine Run.seq (Run.region ?_)
      refine Run.opG wantS_none (ex_assign rfl) rfl ?_
      refine Run.opsEnd ?_
      cases h
      exact Run.ret Try.func117 rfl (res_tmp rfl res_nil) rfl
    · have h := bif_f hc29 h
      refine Run.condF' rfl hc29 ?_
      refine Run.skip (Run.seq (Run.seq (Run.region ?_)))
      refine Run.opG wantS_none (ex_move rfl) rfl ?_
      refine Run.opG wantS_none (ex_move rfl) rfl ?_
      refine Run.opG wantS_none (ex_lss rfl rfl) rfl ?_
      refine Run.opsEnd ?_
      rcases btf ((decide (a0 < a1))) with hc30 | hc30
      · have h := bif_t hc30 h
        refine Run.condT' rfl hc30 ?_
        refine Run.seq (Run.region ?_)
        refine Run.opG wantS_none (ex_assign rfl) rfl ?_
        refine Run.opsEnd ?_
        cases h
        exact Run.ret Try.func117 rfl (res_tmp rfl res_nil) rfl
      · have h := bif_f hc30 h
        refine Run.condF' rfl hc30 ?_
        refine Run.skip (Run.seq (Run.seq (Run.region ?_)))
        refine Run.opG wantS_none (ex_move rfl) rfl ?_
        refine Run.opG wantS_none (ex_move rfl) rfl ?_
        refine Run.opG wantS_none (ex_gtr rfl rfl) rfl ?_
        refine Run.opsEnd ?_
        rcases btf ((decide (a1 < a0))) with hc31 | hc31
        · have h := bif_t hc31 h
          refine Run.condT' rfl hc31 ?_
          refine Run.seq (Run.region ?_)
          refine Run.opG wantS_none (ex_assign rfl) rfl ?_
          refine Run.opsEnd ?_
          cases h
          exact Run.ret Try.func117 rfl (res_tmp rfl res_nil) rfl
        · have h := bif_f hc31 h
          refine Run.condF' rfl hc31 ?_
          refine Run.skip (Run.seq (Run.region ?_))
          refine Run.opG wantS_none (ex_assign rfl) rfl ?_
          refine Run.opsEnd ?_
          cases h
          exact Run.ret Try.func117 rfl (res_tmp rfl res_nil) rfl

theorem mkk117 : makeK Try.prog 117 = none := by kernel_rfl
theorem cal117 : callable Try.prog 117 = true := by kernel_rfl
abbrev search_strength_compare_post (r : Int) : SV → Mem → Prop := fun s _ => s = (.int .i64 r)

def search_strength_compare (F : Nat) (a0 : S_search_strength) (a1 : S_search_strength) : Option (Int) :=
  bnd (cmp_Compare F (w64 (a0.squares * a1.folds)) (w64 (a1.squares * a0.folds))) fun r28 =>
  some r28

theorem search_strength_compare_ok (F : Nat) (a0 : S_search_strength) (a1 : S_search_strength) (r : Int) (M : Mem) (h : search_strength_compare F a0 a1 = some r) : CallsM Try.prog 78 [(.agg [(.int .i64 a0.squares), (.int .i64 a0.folds)]), (.agg [(.int .i64 a1.squares), (.int .i64 a1.folds)])] M (fun s M' => s = (.int .i64 r) ∧ M' = M) := by
  refine CallsM.plain Try.func78 rfl rfl rfl (show Run _ _ _ (search_strength_compare_post r) _ _ _ from ?_)
  rw [search_strength_compare] at h
  have hH := Has.nil (frozen M)
  refine Run.seq (Run.region ?_)
  refine Run.opX wantS_none rfl (ExG.box rfl rfl hH) ?_
  rintro _ M23 ⟨b22, rfl, (hH23 : Has (ro (frozen M)) M23 [.obj b22 (.row 114 .whole [(.int .i64 a0.squares), (.int .i64 a0.folds)])])⟩
  refine Run.opX wantS_none rfl (ExG.box rfl rfl hH23) ?_
  rintro _ M26 ⟨b25, rfl, (hH26 : Has (ro (frozen M)) M26 [.obj b25 (.row 114 .whole [(.int .i64 a1.squares), (.int .i64 a1.folds)]), .obj b22 (.row 114 .whole [(.int .i64 a0.squares), (.int .i64 a0.folds)])])⟩
  refine Run.opG wantS_none (ex_assign rfl) rfl ?_
  refine Run.opsEnd (Run.seq (Run.region ?_))
  refine Run.opG wantS_none (ex_fieldAddr rfl off114_0) rfl ?_
  refine Run.opG wantS_none (ex_load1 rfl (hH26.cells (i := 1) rfl 0 rfl) rdLe_rfl agg3) rfl ?_
  refine Run.opG wantS_none (ex_fieldAddr rfl off114_1) rfl ?_
  refine Run.opG wantS_none (ex_load1 rfl (hH26.cells (i := 0) rfl 1 rfl) rdLe_rfl agg3) rfl ?_
  refine Run.opG wantS_none (ex_mul rfl rfl) rfl ?_
  refine Run.opG wantS_none (ex_fieldAddr rfl off114_0) rfl ?_
  refine Run.opG wantS_none (ex_load1 rfl (hH26.cells (i := 0) rfl 0 rfl) rdLe_rfl agg3) rfl ?_
  refine Run.opG wantS_none (ex_fieldAddr rfl off114_1) rfl ?_
  refine Run.opG wantS_none (ex_load1 rfl (hH26.cells (i := 1) rfl 1 rfl) rdLe_rfl agg3) rfl ?_
  refine Run.opG wantS_none (ex_mul rfl rfl) rfl ?_
  obtain ⟨r28, hr28, h⟩ := bnd_some h
  refine Run.callP wantS_none (ex_call rfl mkk117 cal117) rfl (cmp_Compare_ok F (w64 (a0.squares * a1.folds)) (w64 (a1.squares * a0.folds)) _ _ hr28) ?_
  refine Run.opG wantS_none (ex_assign rfl) rfl ?_
  refine Run.opsEnd ?_
  cases h
  exact Run.ret Try.func78 rfl (res_tmp rfl res_nil) rfl

theorem mkk78 : makeK Try.prog 78 = none := by kernel_rfl
theorem cal78 : callable Try.prog 78 = true := by kernel_rfl
abbrev search_Compare_post (r : Int × Int) : SV → Mem → Prop := fun s _ => s = (.tuple [(.int .i64 r.1), (.int .i64 r.2)])

def search_Compare (F : Nat) (a0 : (List Int)) (a1 : Int) (a2 : Int) : Option (Int × Int) :=
  bnd (search_checkPeriods F a0 ([a1, a2] : List Int)) fun r25 =>
  bif (!(r25 == (0 : Int))) then
    some ((0 : Int), r25)
  else
    bnd (search_strengthOf F a0 a1) fun r29 =>
    bnd (search_strengthOf F a0 a2) fun r32 =>
    bnd (search_strength_compare F r29 r32) fun r35 =>
    some (r35, (0 : Int))

theorem search_Compare_ok (F : Nat) (a0 : (List Int)) (a1 : Int) (a2 : Int) (s0 : SV) (r : Int × Int) (M : Mem) (hs0 : Slc (rd M) 1 (FlatR enc3) s0 a0) (h : search_Compare F a0 a1 a2 = some r) : CallsM Try.prog 35 [s0, (.int .i64 a1), (.int .i64 a2)] M (fun s M' => s = (.tuple [(.int .i64 r.1), (.int .i64 r.2)]) ∧ M' = M) := by
  refine CallsM.plain Try.func35 rfl rfl rfl (show Run _ _ _ (search_Compare_post r) _ _ _ from ?_)
  rw [search_Compare] at h
  replace hs0 := hs0.mono (rdLe_frozen M) (fun _ _ h => h)
  have hH := Has.nil (frozen M)
  refine Run.seq (Run.region ?_)
  refine Run.opG wantS_none (ex_assign rfl) rfl ?_
  refine Run.opG wantS_none (ex_assign rfl) rfl ?_
  refine Run.opsEnd (Run.seq (Run.seq (Run.region ?_)))
  refine Run.opG wantS_none (ex_move rfl) rfl ?_
  refine Run.opG wantS_none (ex_move rfl) rfl ?_
  refine Run.opG wantS_none (ex_move rfl) rfl ?_
  refine Run.opX wantS_none rfl (ExG.built (enc := enc3) (l := ([a1, a2] : List Int)) (z := 1) rfl elt38 rfl rfl rfl enc3_len hH) ?_
  rintro s22 M23 (hH23 : Has (ro (frozen M)) M23 [.vec 3 1 ([a1, a2] : List Int).length s22 (([a1, a2] : List Int).flatMap enc3)])
  obtain ⟨r25, hr25, h⟩ := bnd_some h
  refine Run.callP wantS_none (ex_call rfl mkk73 cal73) rfl (search_checkPeriods_ok F a0 ([a1, a2] : List Int) s0 s22 _ _ (hH23.slcF hs0) (hH23.slc (i := 0) rfl enc3_len) hr25) ?_
  refine Run.opG wantS_none (ex_assign rfl) rfl ?_
  refine Run.opsEnd (Run.seq (Run.region ?_))
  refine Run.opG wantS_none (ex_move rfl) rfl ?_
  refine Run.opG wantS_none (ex_neq rfl rfl) rfl ?_
  refine Run.opsEnd ?_
  rcases btf ((!(r25 == (0 : Int)))) with hc27 | hc27
  · have h := bif_t hc27 h
    refine Run.condT' rfl hc27 ?_
    refine Run.seq (Run.region ?_)
    refine Run.opG wantS_none (ex_move rfl) rfl ?_
    refine Run.opG wantS_none (ex_assign rfl) rfl ?_
    refine Run.opG wantS_none (ex_assign rfl) rfl ?_
    refine Run.opsEnd ?_
    cases h
    exact Run.ret Try.func35 rfl (res_tmp rfl (res_tmp rfl res_nil)) rfl
  · have h := bif_f hc27 h
    refine Run.condF' rfl hc27 ?_
    refine Run.skip (Run.seq (Run.region ?_))
    refine Run.opG wantS_none (ex_move rfl) rfl ?_
    refine Run.opG wantS_none (ex_move rfl) rfl ?_
    obtain ⟨r29, hr29, h⟩ := bnd_some h
    refine Run.callP wantS_none (ex_call rfl mkk77 cal77) rfl (search_strengthOf_ok F a0 a1 s0 _ _ (hH23.slcF hs0) hr29) ?_
    refine Run.opG wantS_none (ex_move rfl) rfl ?_
    refine Run.opG wantS_none (ex_move rfl) rfl ?_
    obtain ⟨r32, hr32, h⟩ := bnd_some h
    refine Run.callP wantS_none (ex_call rfl mkk77 cal77) rfl (search_strengthOf_ok F a0 a2 s0 _ _ (hH23.slcF hs0) hr32) ?_
    obtain ⟨r35, hr35, h⟩ := bnd_some h
    refine Run.callP wantS_none (ex_call rfl mkk78 cal78) rfl (search_strength_compare_ok F r29 r32 _ _ hr35) ?_
    refine Run.opG wantS_none (ex_assign rfl) rfl ?_
    refine Run.opG wantS_none (ex_assign rfl) rfl ?_
    refine Run.opsEnd ?_
    cases h
    exact Run.ret Try.func35 rfl (res_tmp rfl (res_tmp rfl res_nil)) rfl

theorem mkk35 : makeK Try.prog 35 = none := by kernel_rfl
theorem cal35 : callable Try.prog 35 = true := by kernel_rfl
abbrev law08_SearchSums_post (r : Bool) : SV → Mem → Prop := fun s _ => s = (.bool r)

def law08_SearchSums_1 (F : Nat) (v32 : Bool) : Option (Bool) :=
  some v32

theorem law08_SearchSums_1_ok (F : Nat) : ∀ (v32 : Bool) (Fr : Rd) (M : Mem) (r : Bool) (hH : Has Fr M []), law08_SearchSums_1 F v32 = some r → Run Try.prog ⟨⟨13, [], none⟩, []⟩ 126 (law08_SearchSums_post r) [(32, (.bool v32))] [itemC Try.prog 13 [1, 1, 0, 1, 0, 0] 6, codeC Try.prog 13 [1, 1, 0, 1, 0, 1], codeC Try.prog 13 [1, 1, 1]] M := by
  intro v32 Fr M r hH h
  rw [law08_SearchSums_1] at h
  refine Run.opG wantS_none (ex_assign rfl) rfl ?_
  refine Run.opsEnd ?_
  cases h
  exact Run.ret Try.func13 rfl (res_tmp rfl res_nil) rfl

def law08_SearchSums_9 (F : Nat) (v125 : Bool) : Option (Bool) :=
  some v125

theorem law08_SearchSums_9_ok (F : Nat) : ∀ (v125 : Bool) (Fr : Rd) (M : Mem) (r : Bool) (hH : Has Fr M []), law08_SearchSums_9 F v125 = some r → Run Try.prog ⟨⟨13, [], none⟩, []⟩ 126 (law08_SearchSums_post r) [(125, (.bool v125))] [itemC Try.prog 13 [1, 1, 1, 1, 1, 1, 1, 1, 1, 1, 1, 1, 1, 1, 0] 17, codeC Try.prog 13 [1, 1, 1, 1, 1, 1, 1, 1, 1, 1, 1, 1, 1, 1, 1]] M := by
  intro v125 Fr M r hH h
  rw [law08_SearchSums_9] at h
  refine Run.opG wantS_none (ex_assign rfl) rfl ?_
  refine Run.opsEnd ?_
  cases h
  exact Run.ret Try.func13 rfl (res_tmp rfl res_nil) rfl

def law08_SearchSums_8 (F : Nat) (v122 : Bool) : Option (Bool) :=
  bif v122 then
    bnd (works F) fun r69 =>
    law08_SearchSums_9 F r69
  else
    law08_SearchSums_9 F false

theorem law08_SearchSums_8_ok (F : Nat) : ∀ (v122 : Bool) (Fr : Rd) (M : Mem) (r : Bool) (hH : Has Fr M []), law08_SearchSums_8 F v122 = some r → Run Try.prog ⟨⟨13, [], none⟩, []⟩ 126 (law08_SearchSums_post r) [(122, (.bool v122))] [itemC Try.prog 13 [1, 1, 1, 1, 1, 1, 1, 1, 1, 1, 1, 1, 1, 1, 0] 14, codeC Try.prog 13 [1, 1, 1, 1, 1, 1, 1, 1, 1, 1, 1, 1, 1, 1, 1]] M := by
  intro v122 Fr M r hH h
  rw [law08_SearchSums_8] at h
  refine Run.opG wantS_none (ex_move rfl) rfl ?_
  rcases btf (v122) with hc67 | hc67
  · have h := bif_t hc67 h
    obtain ⟨r69, hr69, h⟩ := bnd_some h
    refine Run.callP (wantS_yes' rfl rfl hc67) (ex_call rfl mkk22 cal22) rfl (works_ok F r69 _ hH  hr69) ?_
    refine Run.opG wantS_none (ex_pickT' rfl hc67 rfl rfl) rfl ?_
    exact Run.pick [125] (law08_SearchSums_9_ok F r69 _ _ _ hH h)
  · have h := bif_f hc67 h
    refine Run.no (wantS_not' rfl rfl hc67) rfl ?_
    refine Run.opG wantS_none (ex_pickF' rfl hc67 rfl rfl) rfl ?_
    exact Run.pick [125] (law08_SearchSums_9_ok F false _ _ _ hH h)

def law08_SearchSums_7 (F : Nat) (v18 : Int) (v118 : Bool) : Option (Bool) :=
  bif v118 then
    law08_SearchSums_8 F (v18 == (0 : Int))
  else
    law08_SearchSums_8 F false

theorem law08_SearchSums_7_ok (F : Nat) : ∀ (v18 : Int) (v118 : Bool) (Fr : Rd) (M : Mem) (r : Bool) (hH : Has Fr M []), law08_SearchSums_7 F v18 v118 = some r → Run Try.prog ⟨⟨13, [], none⟩, []⟩ 126 (law08_SearchSums_post r) [(18, (.int .i64 v18)), (118, (.bool v118))] [itemC Try.prog 13 [1, 1, 1, 1, 1, 1, 1, 1, 1, 1, 1, 1, 1, 1, 0] 10, codeC Try.prog 13 [1, 1, 1, 1, 1, 1, 1, 1, 1, 1, 1, 1, 1, 1, 1]] M := by
  intro v18 v118 Fr M r hH h
  rw [law08_SearchSums_7] at h
  refine Run.opG wantS_none (ex_move rfl) rfl ?_
  rcases btf (v118) with hc66 | hc66
  · have h := bif_t hc66 h
    refine Run.opG (wantS_yes' rfl rfl hc66) (ex_move rfl) rfl ?_
    refine Run.opG (wantS_yes' rfl rfl hc66) (ex_eql rfl rfl) rfl ?_
    refine Run.opG wantS_none (ex_pickT' rfl hc66 rfl rfl) rfl ?_
    exact Run.pick [122] (law08_SearchSums_8_ok F (v18 == (0 : Int)) _ _ _ hH h)
  · have h := bif_f hc66 h
    refine Run.no (wantS_not' rfl rfl hc66) rfl ?_
    refine Run.no (wantS_not' rfl rfl hc66) rfl ?_
    refine Run.opG wantS_none (ex_pickF' rfl hc66 rfl rfl) rfl ?_
    exact Run.pick [122] (law08_SearchSums_8_ok F false _ _ _ hH h)

def law08_SearchSums_6 (F : Nat) (v16 : Int) (v18 : Int) (v114 : Bool) : Option (Bool) :=
  bif v114 then
    law08_SearchSums_7 F v18 (v16 == (0 : Int))
  else
    law08_SearchSums_7 F v18 false

theorem law08_SearchSums_6_ok (F : Nat) : ∀ (v16 : Int) (v18 : Int) (v114 : Bool) (Fr : Rd) (M : Mem) (r : Bool) (hH : Has Fr M []), law08_SearchSums_6 F v16 v18 v114 = some r → Run Try.prog ⟨⟨13, [], none⟩, []⟩ 126 (law08_SearchSums_post r) [(16, (.int .i64 v16)), (18, (.int .i64 v18)), (114, (.bool v114))] [itemC Try.prog 13 [1, 1, 1, 1, 1, 1, 1, 1, 1, 1, 1, 1, 1, 1, 0] 6, codeC Try.prog 13 [1, 1, 1, 1, 1, 1, 1, 1, 1, 1, 1, 1, 1, 1, 1]] M := by
  intro v16 v18 v114 Fr M r hH h
  rw [law08_SearchSums_6] at h
  refine Run.opG wantS_none (ex_move rfl) rfl ?_
  rcases btf (v114) with hc65 | hc65
  · have h := bif_t hc65 h
    refine Run.opG (wantS_yes' rfl rfl hc65) (ex_move rfl) rfl ?_
    refine Run.opG (wantS_yes' rfl rfl hc65) (ex_eql rfl rfl) rfl ?_
    refine Run.opG wantS_none (ex_pickT' rfl hc65 rfl rfl) rfl ?_
    exact Run.pick [18, 118] (law08_SearchSums_7_ok F v18 (v16 == (0 : Int)) _ _ _ hH h)
  · have h := bif_f hc65 h
    refine Run.no (wantS_not' rfl rfl hc65) rfl ?_
    refine Run.no (wantS_not' rfl rfl hc65) rfl ?_
    refine Run.opG wantS_none (ex_pickF' rfl hc65 rfl rfl) rfl ?_
    exact Run.pick [18, 118] (law08_SearchSums_7_ok F v18 false _ _ _ hH h)

def law08_SearchSums_5 (F : Nat) : Nat → (List Int) → Int → Int → Int → (List Int) → Option (Bool)
  | 0, _, _, _, _, _ => none
  | N + 1, v0, v12, v13, v15, l48 =>
    bif (decide (v15 < (w64 ((2 : Int) * v13)))) then
      bnd (sub v0 0 v12) fun l52 =>
      bnd (apd 8 l48 l52) fun l55 =>
      (law08_SearchSums_5 F N) v0 v12 v13 (w64 (v15 + (1 : Int))) l55
    else
      bnd (search_Compare F l48 v12 (w64 (v13 * v12))) fun r59 =>
      bnd (search_Compare F l48 v12 (w64 ((w64 ((2 : Int) * v13)) * v12))) fun r62 =>
      bif (r59.2 == (0 : Int)) then
        law08_SearchSums_6 F r59.1 r62.1 (r62.2 == (0 : Int))
      else
        law08_SearchSums_6 F r59.1 r62.1 false

theorem law08_SearchSums_5_ok (F : Nat) : ∀ (N : Nat), ∀ (v0 : (List Int)) (v12 : Int) (v13 : Int) (v15 : Int) (l48 : (List Int)) (sv0 : SV) (s48 : SV) (Fr : Rd) (M : Mem) (r : Bool) (hv0 : Slc Fr 1 (FlatR enc3) sv0 v0) (hH : Has Fr M [.vec 3 1 l48.length s48 (l48.flatMap enc3)]), law08_SearchSums_5 F N v0 v12 v13 v15 l48 = some r → Run Try.prog ⟨⟨13, [], none⟩, []⟩ 126 (law08_SearchSums_post r) [(0, sv0), (12, (.int .i64 v12)), (13, (.int .i64 v13)), (14, s48), (15, (.int .i64 v15))] [codeC Try.prog 13 [1, 1, 1, 1, 1, 1, 1, 1, 1, 1, 1, 0, 1, 0, 0], loopC Try.prog 13 [1, 1, 1, 1, 1, 1, 1, 1, 1, 1, 1, 0, 1, 0, 0], .inBlock 4, codeC Try.prog 13 [1, 1, 1, 1, 1, 1, 1, 1, 1, 1, 1, 1]] M := by
  intro N
  induction N with
  | zero =>
    intro v0 v12 v13 v15 l48 sv0 s48 Fr M r hv0 hH h
    simp [law08_SearchSums_5] at h
  | succ N ih =>
    intro v0 v12 v13 v15 l48 sv0 s48 Fr M r hv0 hH h
    rw [law08_SearchSums_5] at h
    refine Run.seq (Run.seq (Run.region ?_))
    refine Run.opG wantS_none (ex_move rfl) rfl ?_
    refine Run.opG wantS_none (ex_move rfl) rfl ?_
    refine Run.opG wantS_none (ex_mul rfl rfl) rfl ?_
    refine Run.opG wantS_none (ex_lss rfl rfl) rfl ?_
    refine Run.opsEnd ?_
    rcases btf ((decide (v15 < (w64 ((2 : Int) * v13))))) with hc50 | hc50
    · have h := bif_t hc50 h
      refine Run.condT' rfl hc50 ?_
      refine Run.skip (Run.seq (Run.block (Run.region ?_)))
      refine Run.opG wantS_none (ex_move rfl) rfl ?_
      refine Run.opG wantS_none (ex_move rfl) rfl ?_
      refine Run.opG wantS_none (ex_move rfl) rfl ?_
      obtain ⟨l52, hl52, h⟩ := bnd_some h
      obtain ⟨s52, hx52, hs52⟩ := sl_subH (P := Try.prog) (t := 38) (k0 := .i64) hv0 hl52 slk38
      refine Run.opG wantS_none (ex_slX rfl (argO_none) (argO_some rfl) hx52) rfl ?_
      obtain ⟨l55, hl55, h⟩ := bnd_some h
      refine Run.opX wantS_none rfl (ExG.append rfl rfl hH (i := 0) rfl enc3_len rfl enc3_ones appt38_38 rfl (len_slc hs52) (first_slc hs52 (rdLe_roF hH) enc3_len) hl55) ?_
      rintro s55 M57 (hH57 : Has Fr M57 [.vec 3 1 l55.length s55 (l55.flatMap enc3)])
      refine Run.opG wantS_none (ex_assign rfl) rfl ?_
      refine Run.opsEnd (Run.inBlock (Run.region ?_))
      refine Run.opG wantS_none (ex_move rfl) rfl ?_
      refine Run.opG wantS_none (ex_add rfl rfl) rfl ?_
      refine Run.opG wantS_none (ex_assign rfl) rfl ?_
      refine Run.opsEnd (Run.inLoop ?_)
      exact Run.pick [0, 12, 13, 14, 15] (ih v0 v12 v13 (w64 (v15 + (1 : Int))) l55 sv0 s55 _ _ _ hv0 hH57 h)
    · have h := bif_f hc50 h
      refine Run.condF' rfl hc50 ?_
      refine Run.exit rfl (Run.seq (Run.region ?_))
      refine Run.opG wantS_none (ex_move rfl) rfl ?_
      refine Run.opG wantS_none (ex_move rfl) rfl ?_
      refine Run.opG wantS_none (ex_move rfl) rfl ?_
      refine Run.opG wantS_none (ex_move rfl) rfl ?_
      refine Run.opG wantS_none (ex_mul rfl rfl) rfl ?_
      obtain ⟨r59, hr59, h⟩ := bnd_some h
      refine Run.callP wantS_none (ex_call rfl mkk35 cal35) rfl (search_Compare_ok F l48 v12 (w64 (v13 * v12)) s48 _ _ (hH.slc (i := 0) rfl enc3_len) hr59) ?_
      refine Run.opG wantS_none (ex_move rfl) rfl ?_
      refine Run.opG wantS_none (ex_extract rfl rfl) rfl ?_
      refine Run.opG wantS_none (ex_extract rfl rfl) rfl ?_
      refine Run.opG wantS_none (ex_assign rfl) rfl ?_
      refine Run.opG wantS_none (ex_assign rfl) rfl ?_
      refine Run.opsEnd (Run.seq (Run.region ?_))
      refine Run.opG wantS_none (ex_move rfl) rfl ?_
      refine Run.opG wantS_none (ex_move rfl) rfl ?_
      refine Run.opG wantS_none (ex_move rfl) rfl ?_
      refine Run.opG wantS_none (ex_mul rfl rfl) rfl ?_
      refine Run.opG wantS_none (ex_move rfl) rfl ?_
      refine Run.opG wantS_none (ex_mul rfl rfl) rfl ?_
      obtain ⟨r62, hr62, h⟩ := bnd_some h
      refine Run.callP wantS_none (ex_call rfl mkk35 cal35) rfl (search_Compare_ok F l48 v12 (w64 ((w64 ((2 : Int) * v13)) * v12)) s48 _ _ (hH.slc (i := 0) rfl enc3_len) hr62) ?_
      refine Run.opG wantS_none (ex_move rfl) rfl ?_
      refine Run.opG wantS_none (ex_extract rfl rfl) rfl ?_
      refine Run.opG wantS_none (ex_extract rfl rfl) rfl ?_
      refine Run.opG wantS_none (ex_assign rfl) rfl ?_
      refine Run.opG wantS_none (ex_assign rfl) rfl ?_
      refine Run.opsEnd (Run.seq (Run.region ?_))
      refine Run.opG wantS_none (ex_move rfl) rfl ?_
      refine Run.opG wantS_none (ex_eql rfl rfl) rfl ?_
      refine Run.opG wantS_none (ex_move rfl) rfl ?_
      rcases btf ((r59.2 == (0 : Int))) with hc64 | hc64
      · have h := bif_t hc64 h
        refine Run.opG (wantS_yes' rfl rfl hc64) (ex_move rfl) rfl ?_
        refine Run.opG (wantS_yes' rfl rfl hc64) (ex_eql rfl rfl) rfl ?_
        refine Run.opG wantS_none (ex_pickT' rfl hc64 rfl rfl) rfl ?_
        exact Run.pick [16, 18, 114] (law08_SearchSums_6_ok F r59.1 r62.1 (r62.2 == (0 : Int)) _ _ _ (hH.pick [] rfl rfl) h)
      · have h := bif_f hc64 h
        refine Run.no (wantS_not' rfl rfl hc64) rfl ?_
        refine Run.no (wantS_not' rfl rfl hc64) rfl ?_
        refine Run.opG wantS_none (ex_pickF' rfl hc64 rfl rfl) rfl ?_
        exact Run.pick [16, 18, 114] (law08_SearchSums_6_ok F r59.1 r62.1 false _ _ _ (hH.pick [] rfl rfl) h)

def law08_SearchSums_4 (F : Nat) (v0 : (List Int)) (v1 : Int) (v2 : Int) (v73 : Bool) : Option (Bool) :=
  bif v73 then
    some false
  else
    bnd (ref00_Mod F v2 (4 : Int)) fun r46 =>
    law08_SearchSums_5 F F v0 (min v1 (16 : Int)) (w64 ((1 : Int) + r46)) (0 : Int) ([] : List Int)

theorem law08_SearchSums_4_ok (F : Nat) : ∀ (v0 : (List Int)) (v1 : Int) (v2 : Int) (v73 : Bool) (sv0 : SV) (Fr : Rd) (M : Mem) (r : Bool) (hv0 : Slc Fr 1 (FlatR enc3) sv0 v0) (hH : Has Fr M []), law08_SearchSums_4 F v0 v1 v2 v73 = some r → Run Try.prog ⟨⟨13, [], none⟩, []⟩ 126 (law08_SearchSums_post r) [(0, sv0), (1, (.int .i64 v1)), (2, (.int .i64 v2)), (73, (.bool v73))] [codeC Try.prog 13 [1, 1, 1, 1, 1, 1, 1, 0, 1], codeC Try.prog 13 [1, 1, 1, 1, 1, 1, 1, 1]] M := by
  intro v0 v1 v2 v73 sv0 Fr M r hv0 hH h
  rw [law08_SearchSums_4] at h
  rcases btf (v73) with hc44 | hc44
  · have h := bif_t hc44 h
    refine Run.condT' rfl hc44 ?_
    refine Run.seq (Run.region ?_)
    refine Run.opG wantS_none (ex_assign rfl) rfl ?_
    refine Run.opsEnd ?_
    cases h
    exact Run.ret Try.func13 rfl (res_tmp rfl res_nil) rfl
  · have h := bif_f hc44 h
    refine Run.condF' rfl hc44 ?_
    refine Run.skip (Run.seq (Run.region ?_))
    refine Run.opG wantS_none (ex_move rfl) rfl ?_
    refine Run.opG wantS_none (ex_min rfl rfl) rfl ?_
    refine Run.opG wantS_none (ex_assign rfl) rfl ?_
    refine Run.opsEnd (Run.seq (Run.region ?_))
    refine Run.opG wantS_none (ex_move rfl) rfl ?_
    obtain ⟨r46, hr46, h⟩ := bnd_some h
    refine Run.callP wantS_none (ex_call rfl mkk48 cal48) rfl (ref00_Mod_ok F v2 (4 : Int) _ _ hr46) ?_
    refine Run.opG wantS_none (ex_add rfl rfl) rfl ?_
    refine Run.opG wantS_none (ex_assign rfl) rfl ?_
    refine Run.opsEnd (Run.seq (Run.region ?_))
    refine Run.opG wantS_none (ex_assign rfl) rfl ?_
    refine Run.opsEnd (Run.seq (Run.seq (Run.region ?_)))
    refine Run.opG wantS_none (ex_assign rfl) rfl ?_
    refine Run.opsEnd (Run.block (Run.loop ?_))
    have hH49 : Has Fr M [.vec 3 1 ([] : List Int).length .nils (([] : List Int).flatMap enc3)] := hH.nils 3 1
    exact Run.pick [0, 12, 13, 14, 15] (law08_SearchSums_5_ok F F v0 (min v1 (16 : Int)) (w64 ((1 : Int) + r46)) (0 : Int) ([] : List Int) sv0 .nils _ _ _ hv0 hH49 h)

def law08_SearchSums_3 (F : Nat) : Nat → (List Int) → Int → Int → Int → Int → (List Int) → Option (Bool)
  | 0, _, _, _, _, _, _ => none
  | N + 1, v0, v1, v2, v9, v11, l24 =>
    bnd (nz v1) fun z39 =>
    bif (decide (v11 < (w64 ((w64 (Int.tdiv (v0.length : Int) v1)) * v1)))) then
      bnd (idx v0 v11) fun x42 =>
      (law08_SearchSums_3 F N) v0 v1 v2 (w64 (v9 - x42)) (w64 (v11 + (1 : Int))) l24
    else
      bif (!(v9 == (0 : Int))) then
        law08_SearchSums_4 F v0 v1 v2 true
      else
        law08_SearchSums_4 F v0 v1 v2 (!((l24.length : Int) == v1))

theorem law08_SearchSums_3_ok (F : Nat) : ∀ (N : Nat), ∀ (v0 : (List Int)) (v1 : Int) (v2 : Int) (v9 : Int) (v11 : Int) (l24 : (List Int)) (sv0 : SV) (s24 : SV) (Fr : Rd) (M : Mem) (r : Bool) (hv0 : Slc Fr 1 (FlatR enc3) sv0 v0) (hH : Has Fr M [.vec 3 1 l24.length s24 (l24.flatMap enc3)]), law08_SearchSums_3 F N v0 v1 v2 v9 v11 l24 = some r → Run Try.prog ⟨⟨13, [], none⟩, []⟩ 126 (law08_SearchSums_post r) [(0, sv0), (1, (.int .i64 v1)), (2, (.int .i64 v2)), (7, s24), (9, (.int .i64 v9)), (11, (.int .i64 v11))] [codeC Try.prog 13 [1, 1, 1, 1, 1, 1, 0, 1, 0, 0], loopC Try.prog 13 [1, 1, 1, 1, 1, 1, 0, 1, 0, 0], .inBlock 2, codeC Try.prog 13 [1, 1, 1, 1, 1, 1, 1]] M := by
  intro N
  induction N with
  | zero =>
    intro v0 v1 v2 v9 v11 l24 sv0 s24 Fr M r hv0 hH h
    simp [law08_SearchSums_3] at h
  | succ N ih =>
    intro v0 v1 v2 v9 v11 l24 sv0 s24 Fr M r hv0 hH h
    rw [law08_SearchSums_3] at h
    refine Run.seq (Run.seq (Run.region ?_))
    refine Run.opG wantS_none (ex_move rfl) rfl ?_
    refine Run.opG wantS_none (ex_move rfl) rfl ?_
    refine Run.opG wantS_none (ex_len' rfl hv0 lenk38) rfl ?_
    refine Run.opG wantS_none (ex_move rfl) rfl ?_
    obtain ⟨z39, hz39, h⟩ := bnd_some h
    refine Run.opG wantS_none (ex_quo' rfl rfl hz39) rfl ?_
    refine Run.opG wantS_none (ex_move rfl) rfl ?_
    refine Run.opG wantS_none (ex_mul rfl rfl) rfl ?_
    refine Run.opG wantS_none (ex_lss rfl rfl) rfl ?_
    refine Run.opsEnd ?_
    rcases btf ((decide (v11 < (w64 ((w64 (Int.tdiv (v0.length : Int) v1)) * v1))))) with hc40 | hc40
    · have h := bif_t hc40 h
      refine Run.condT' rfl hc40 ?_
      refine Run.skip (Run.seq (Run.block (Run.region ?_)))
      refine Run.opG wantS_none (ex_move rfl) rfl ?_
      refine Run.opG wantS_none (ex_move rfl) rfl ?_
      refine Run.opG wantS_none (ex_move rfl) rfl ?_
      obtain ⟨x42, hx42, h⟩ := bnd_some h
      obtain ⟨p42, o42, _, hx42, hp42, rfl⟩ := sl_elem (P := Try.prog) (t := 38) (kk := .i64) hv0 hx42 els38
      refine Run.opG wantS_none (ex_elX rfl rfl hx42) rfl ?_
      refine Run.opG wantS_none (ex_load1 rfl (hH.ptrF hp42) rdLe_rfl agg3) rfl ?_
      refine Run.opG wantS_none (ex_sub rfl rfl) rfl ?_
      refine Run.opG wantS_none (ex_assign rfl) rfl ?_
      refine Run.opsEnd (Run.inBlock (Run.region ?_))
      refine Run.opG wantS_none (ex_move rfl) rfl ?_
      refine Run.opG wantS_none (ex_add rfl rfl) rfl ?_
      refine Run.opG wantS_none (ex_assign rfl) rfl ?_
      refine Run.opsEnd (Run.inLoop ?_)
      exact Run.pick [0, 1, 2, 7, 9, 11] (ih v0 v1 v2 (w64 (v9 - x42)) (w64 (v11 + (1 : Int))) l24 sv0 s24 _ _ _ hv0 hH h)
    · have h := bif_f hc40 h
      refine Run.condF' rfl hc40 ?_
      refine Run.exit rfl (Run.seq (Run.seq (Run.region ?_)))
      refine Run.opG wantS_none (ex_move rfl) rfl ?_
      refine Run.opG wantS_none (ex_neq rfl rfl) rfl ?_
      refine Run.opG wantS_none (ex_move rfl) rfl ?_
      rcases btf ((!(v9 == (0 : Int)))) with hc43 | hc43
      · have h := bif_t hc43 h
        refine Run.no (wantS_not' rfl rfl hc43) rfl ?_
        refine Run.no (wantS_not' rfl rfl hc43) rfl ?_
        refine Run.no (wantS_not' rfl rfl hc43) rfl ?_
        refine Run.no (wantS_not' rfl rfl hc43) rfl ?_
        refine Run.opG wantS_none (ex_pickT' rfl hc43 rfl rfl) rfl ?_
        refine Run.opsEnd ?_
        exact Run.pick [0, 1, 2, 73] (law08_SearchSums_4_ok F v0 v1 v2 true sv0 _ _ _ hv0 (hH.pick [] rfl rfl) h)
      · have h := bif_f hc43 h
        refine Run.opG (wantS_yes' rfl rfl hc43) (ex_move rfl) rfl ?_
        refine Run.opG (wantS_yes' rfl rfl hc43) (ex_len' rfl (hH.slc (i := 0) rfl enc3_len) lenk38) rfl ?_
        refine Run.opG (wantS_yes' rfl rfl hc43) (ex_move rfl) rfl ?_
        refine Run.opG (wantS_yes' rfl rfl hc43) (ex_neq rfl rfl) rfl ?_
        refine Run.opG wantS_none (ex_pickF' rfl hc43 rfl rfl) rfl ?_
        refine Run.opsEnd ?_
        exact Run.pick [0, 1, 2, 73] (law08_SearchSums_4_ok F v0 v1 v2 (!((l24.length : Int) == v1)) sv0 _ _ _ hv0 (hH.pick [] rfl rfl) h)

def law08_SearchSums_2 (F : Nat) : Nat → (List Int) → Int → Int → Int → Int → (List Int) → Option (Bool)
  | 0, _, _, _, _, _, _ => none
  | N + 1, v0, v1, v2, v9, v10, l24 =>
    bif (decide (v10 < (l24.length : Int))) then
      bnd (idx l24 v10) fun x37 =>
      (law08_SearchSums_2 F N) v0 v1 v2 (w64 (v9 + x37)) (w64 (v10 + (1 : Int))) l24
    else
      law08_SearchSums_3 F F v0 v1 v2 v9 (0 : Int) l24

theorem law08_SearchSums_2_ok (F : Nat) : ∀ (N : Nat), ∀ (v0 : (List Int)) (v1 : Int) (v2 : Int) (v9 : Int) (v10 : Int) (l24 : (List Int)) (sv0 : SV) (s24 : SV) (Fr : Rd) (M : Mem) (r : Bool) (hv0 : Slc Fr 1 (FlatR enc3) sv0 v0) (hH : Has Fr M [.vec 3 1 l24.length s24 (l24.flatMap enc3)]), law08_SearchSums_2 F N v0 v1 v2 v9 v10 l24 = some r → Run Try.prog ⟨⟨13, [], none⟩, []⟩ 126 (law08_SearchSums_post r) [(0, sv0), (1, (.int .i64 v1)), (2, (.int .i64 v2)), (7, s24), (9, (.int .i64 v9)), (10, (.int .i64 v10))] [codeC Try.prog 13 [1, 1, 1, 1, 1, 0, 1, 0, 0], loopC Try.prog 13 [1, 1, 1, 1, 1, 0, 1, 0, 0], .inBlock 0, codeC Try.prog 13 [1, 1, 1, 1, 1, 1]] M := by
  intro N
  induction N with
  | zero =>
    intro v0 v1 v2 v9 v10 l24 sv0 s24 Fr M r hv0 hH h
    simp [law08_SearchSums_2] at h
  | succ N ih =>
    intro v0 v1 v2 v9 v10 l24 sv0 s24 Fr M r hv0 hH h
    rw [law08_SearchSums_2] at h
    refine Run.seq (Run.seq (Run.region ?_))
    refine Run.opG wantS_none (ex_move rfl) rfl ?_
    refine Run.opG wantS_none (ex_move rfl) rfl ?_
    refine Run.opG wantS_none (ex_len' rfl (hH.slc (i := 0) rfl enc3_len) lenk38) rfl ?_
    refine Run.opG wantS_none (ex_lss rfl rfl) rfl ?_
    refine Run.opsEnd ?_
    rcases btf ((decide (v10 < (l24.length : Int)))) with hc35 | hc35
    · have h := bif_t hc35 h
      refine Run.condT' rfl hc35 ?_
      refine Run.skip (Run.seq (Run.block (Run.region ?_)))
      refine Run.opG wantS_none (ex_move rfl) rfl ?_
      refine Run.opG wantS_none (ex_move rfl) rfl ?_
      refine Run.opG wantS_none (ex_move rfl) rfl ?_
      obtain ⟨x37, hx37, h⟩ := bnd_some h
      obtain ⟨p37, o37, hb37, hx37, he37⟩ := vec_elem (P := Try.prog) (t := 38) (kk := .i64) hH (i := 0) rfl hx37 els38
      refine Run.opG wantS_none (ex_elX rfl rfl hx37) rfl ?_
      refine Run.opG wantS_none (ex_load1 rfl (hH.at (enc := enc3) (a := x37) (i := 0) rfl hb37 he37 enc3_len) rdLe_rfl agg3) rfl ?_
      refine Run.opG wantS_none (ex_add rfl rfl) rfl ?_
      refine Run.opG wantS_none (ex_assign rfl) rfl ?_
      refine Run.opsEnd (Run.inBlock (Run.region ?_))
      refine Run.opG wantS_none (ex_move rfl) rfl ?_
      refine Run.opG wantS_none (ex_add rfl rfl) rfl ?_
      refine Run.opG wantS_none (ex_assign rfl) rfl ?_
      refine Run.opsEnd (Run.inLoop ?_)
      exact Run.pick [0, 1, 2, 7, 9, 10] (ih v0 v1 v2 (w64 (v9 + x37)) (w64 (v10 + (1 : Int))) l24 sv0 s24 _ _ _ hv0 hH h)
    · have h := bif_f hc35 h
      refine Run.condF' rfl hc35 ?_
      refine Run.exit rfl (Run.seq (Run.seq (Run.region ?_)))
      refine Run.opG wantS_none (ex_assign rfl) rfl ?_
      refine Run.opsEnd (Run.block (Run.loop ?_))
      exact Run.pick [0, 1, 2, 7, 9, 11] (law08_SearchSums_3_ok F F v0 v1 v2 v9 (0 : Int) l24 sv0 s24 _ _ _ hv0 hH h)

def law08_SearchSums (F : Nat) (a0 : (List Int)) (a1 : Int) (a2 : Int) : Option (Bool) :=
  bnd (search_Fold F a0 a1) fun r23 =>
  bif (!(r23.2 == (0 : Int))) then
    bif ((r23.1.length : Int) == (0 : Int)) then
      bnd (works F) fun r29 =>
      law08_SearchSums_1 F r29
    else
      law08_SearchSums_1 F false
  else
    bnd (ref00_In F a1 (1 : Int) (a0.length : Int)) fun r32 =>
    bif (!r32) then
      some false
    else
      law08_SearchSums_2 F F a0 a1 a2 (0 : Int) (0 : Int) r23.1

theorem law08_SearchSums_run (F : Nat) (a0 : (List Int)) (a1 : Int) (a2 : Int) (s0 : SV) (r : Bool) (M : Mem) (hs0 : Slc (rd M) 1 (FlatR enc3) s0 a0) (hfx : FixIn M fixes) (h : law08_SearchSums F a0 a1 a2 = some r) : Run Try.prog (fx0 13) 126 (law08_SearchSums_post r) [(0, s0), (1, (.int .i64 a1)), (2, (.int .i64 a2))] [codeC Try.prog 13 []] (frozen M) := by
  rw [law08_SearchSums] at h
  replace hs0 := hs0.mono (rdLe_frozen M) (fun _ _ h => h)
  have hH : Has (ro (frozen M)) (frozen M) [] := Has.ofFix hfx.frozen
  refine Run.seq (Run.region ?_)
  refine Run.opG wantS_none (ex_assign rfl) rfl ?_
  refine Run.opsEnd (Run.seq (Run.region ?_))
  refine Run.opG wantS_none (ex_move rfl) rfl ?_
  refine Run.opG wantS_none (ex_move rfl) rfl ?_
  obtain ⟨r23, hr23, h⟩ := bnd_some h
  refine Run.callX wantS_none (ex_call rfl mkk33 cal33) rfl (search_Fold_ok F a0 a1 s0 _ _ (hH.slcF hs0) hr23) ?_
  rintro _ M25 ⟨s23_0, rfl, hN23⟩
  have hH25 : Has (ro (frozen M)) M25 [.vec 3 1 r23.1.length s23_0 (r23.1.flatMap enc3)] := hN23.1 _ _ hH
  refine Run.opG wantS_none (ex_move rfl) rfl ?_
  refine Run.opG wantS_none (ex_extract rfl rfl) rfl ?_
  refine Run.opG wantS_none (ex_extract rfl rfl) rfl ?_
  refine Run.opG wantS_none (ex_assign rfl) rfl ?_
  refine Run.opG wantS_none (ex_assign rfl) rfl ?_
  refine Run.opsEnd (Run.seq (Run.seq (Run.region ?_)))
  refine Run.opG wantS_none (ex_move rfl) rfl ?_
  refine Run.opG wantS_none (ex_neq rfl rfl) rfl ?_
  refine Run.opsEnd ?_
  rcases btf ((!(r23.2 == (0 : Int)))) with hc26 | hc26
  · have h := bif_t hc26 h
    refine Run.condT' rfl hc26 ?_
    refine Run.seq (Run.region ?_)
    refine Run.opG wantS_none (ex_move rfl) rfl ?_
    refine Run.opG wantS_none (ex_len' rfl (hH25.slc (i := 0) rfl enc3_len) lenk38) rfl ?_
    refine Run.opG wantS_none (ex_eql rfl rfl) rfl ?_
    refine Run.opG wantS_none (ex_move rfl) rfl ?_
    rcases btf (((r23.1.length : Int) == (0 : Int))) with hc27 | hc27
    · have h := bif_t hc27 h
      obtain ⟨r29, hr29, h⟩ := bnd_some h
      refine Run.callP (wantS_yes' rfl rfl hc27) (ex_call rfl mkk22 cal22) rfl (works_ok F r29 _ hH25  hr29) ?_
      refine Run.opG wantS_none (ex_pickT' rfl hc27 rfl rfl) rfl ?_
      exact Run.pick [32] (law08_SearchSums_1_ok F r29 _ _ _ (hH25.pick [] rfl rfl) h)
    · have h := bif_f hc27 h
      refine Run.no (wantS_not' rfl rfl hc27) rfl ?_
      refine Run.opG wantS_none (ex_pickF' rfl hc27 rfl rfl) rfl ?_
      exact Run.pick [32] (law08_SearchSums_1_ok F false _ _ _ (hH25.pick [] rfl rfl) h)
  · have h := bif_f hc26 h
    refine Run.condF' rfl hc26 ?_
    refine Run.skip (Run.seq (Run.seq (Run.region ?_)))
    refine Run.opG wantS_none (ex_move rfl) rfl ?_
    refine Run.opG wantS_none (ex_move rfl) rfl ?_
    refine Run.opG wantS_none (ex_len' rfl hs0 lenk38) rfl ?_
    obtain ⟨r32, hr32, h⟩ := bnd_some h
    refine Run.callP wantS_none (ex_call rfl mkk49 cal49) rfl (ref00_In_ok F a1 (1 : Int) (a0.length : Int) _ _ hr32) ?_
    refine Run.opG wantS_none (ex_not rfl) rfl ?_
    refine Run.opsEnd ?_
    rcases btf ((!r32)) with hc34 | hc34
    · have h := bif_t hc34 h
      refine Run.condT' rfl hc34 ?_
      refine Run.seq (Run.region ?_)
      refine Run.opG wantS_none (ex_assign rfl) rfl ?_
      refine Run.opsEnd ?_
      cases h
      exact Run.ret Try.func13 rfl (res_tmp rfl res_nil) rfl
    · have h := bif_f hc34 h
      refine Run.condF' rfl hc34 ?_
      refine Run.skip (Run.seq (Run.region ?_))
      refine Run.opG wantS_none (ex_assign rfl) rfl ?_
      refine Run.opsEnd (Run.seq (Run.seq (Run.region ?_)))
      refine Run.opG wantS_none (ex_assign rfl) rfl ?_
      refine Run.opsEnd (Run.block (Run.loop ?_))
      exact Run.pick [0, 1, 2, 7, 9, 10] (law08_SearchSums_2_ok F F a0 a1 a2 (0 : Int) (0 : Int) r23.1 s0 s23_0 _ _ _ hs0 hH25 h)

end Go.Ev.SearchSums
