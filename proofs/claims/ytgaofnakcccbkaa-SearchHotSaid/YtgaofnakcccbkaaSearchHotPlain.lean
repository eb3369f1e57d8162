/- Plain functions that say what functions of the program come to, and proofs of it, written by a program of the verifier's own. -/
import Derived.Test.YtgaofnakcccbkaaEvL11
import Derived.Test.YtgaofnakcccbkaaWorks
import Derived.KernelRfl
namespace Go.Ev.SearchHot
open Go Go.Ev Go.Proofs
set_option maxRecDepth 100000
set_option linter.unusedVariables false

/-- The listed tables. -/
noncomputable def fixes : List (Nat × List SV) := Go.Proofs.Ytgaofnakcccbkaa.works.fixes
/-- works() comes to true. -/
def works (_ : Nat) : Option Bool := some true
theorem fixH {Fr : Rd} {H : List Ent} {M : Mem} (hH : Has Fr M H) : FixIn M fixes := fun x hx => absurd hx List.not_mem_nil

theorem works_ok (F : Nat) (r : Bool) {Fr : Rd} {H : List Ent} (M : Mem) (hH : Has Fr M H) (h : works F = some r) : CallsM Try.prog 12 [] M fun s M' => s = .bool r ∧ M' = M := by
  cases h
  exact CallsM.closedFix (n := 300) (l := Go.Proofs.Ytgaofnakcccbkaa.works.fixes) Go.Proofs.Ytgaofnakcccbkaa.works.below Go.Proofs.Ytgaofnakcccbkaa.works.plainF Go.Proofs.Ytgaofnakcccbkaa.works.works_true (fun x hx => absurd hx List.not_mem_nil)


def enc3 (a : Int) : List SV := [(.int .i64 a)]
theorem enc3_len (a : Int) : (enc3 a).length = 1 := rfl
theorem enc3_ones (a : Int) : ones (enc3 a) = true := rfl
theorem lenk22 : lenK Try.prog 22 = some .sl := by kernel_rfl
theorem slk22 : slK Try.prog 22 = some (.sl 1) := by kernel_rfl
structure S_api_Burst where
  From : Int
  To : Int
  Peak : Int

def enc31 (a : S_api_Burst) : List SV := [(.int .i64 a.From), (.int .i64 a.To), (.int .i64 a.Peak)]
theorem enc31_len (a : S_api_Burst) : (enc31 a).length = 3 := rfl
theorem enc31_ones (a : S_api_Burst) : ones (enc31 a) = true := rfl
theorem mkk96 : makeK Try.prog 96 = none := by kernel_rfl
theorem cal96 : callable Try.prog 96 = true := by kernel_rfl
theorem mkk107 : makeK Try.prog 107 = none := by kernel_rfl
theorem cal107 : callable Try.prog 107 = true := by kernel_rfl
theorem els22 : elems Try.prog 22 = some (.sl 1) := by kernel_rfl
theorem agg3 : aggSize Try.prog 3 = some none := by kernel_rfl
theorem mkk95 : makeK Try.prog 95 = none := by kernel_rfl
theorem cal95 : callable Try.prog 95 = true := by kernel_rfl
abbrev search_isFrom_post (r : Bool) : SV → Mem → Prop := fun s _ => s = (.bool r)

def search_isFrom_1 (F : Nat) (v14 : Bool) : Option (Bool) :=
  some v14

theorem search_isFrom_1_ok (F : Nat) : ∀ (v14 : Bool) (Fr : Rd) (M : Mem) (r : Bool) (hH : Has Fr M []), search_isFrom_1 F v14 = some r → Run Try.prog ⟨⟨36, [], none⟩, []⟩ 15 (search_isFrom_post r) [(14, (.bool v14))] [itemC Try.prog 36 [1, 0] 8, codeC Try.prog 36 [1, 1]] M := by
  intro v14 Fr M r hH h
  rw [search_isFrom_1] at h
  refine Run.opG wantS_none (ex_assign rfl) rfl ?_
  refine Run.opsEnd ?_
  cases h
  exact Run.ret Try.func36 rfl (res_tmp rfl res_nil) rfl

def search_isFrom (F : Nat) (a0 : Int) (a1 : Int) (a2 : Int) : Option (Bool) :=
  bif (decide (a0 ≤ a1)) then
    search_isFrom_1 F (decide (a1 ≤ a2))
  else
    search_isFrom_1 F false

theorem search_isFrom_ok (F : Nat) (a0 : Int) (a1 : Int) (a2 : Int) (r : Bool) (M : Mem) (h : search_isFrom F a0 a1 a2 = some r) : CallsM Try.prog 36 [(.int .i64 a0), (.int .i64 a1), (.int .i64 a2)] M (fun s M' => s = (.bool r) ∧ M' = M) := by
  refine CallsM.plain Try.func36 rfl rfl rfl (show Run _ _ _ (search_isFrom_post r) _ _ _ from ?_)
  rw [search_isFrom] at h
  have hH := Has.nil (frozen M)
  refine Run.seq (Run.region ?_)
  refine Run.opG wantS_none (ex_assign rfl) rfl ?_
  refine Run.opsEnd (Run.seq (Run.region ?_))
  refine Run.opG wantS_none (ex_move rfl) rfl ?_
  refine Run.opG wantS_none (ex_move rfl) rfl ?_
  refine Run.opG wantS_none (ex_leq rfl rfl) rfl ?_
  refine Run.opG wantS_none (ex_move rfl) rfl ?_
  rcases btf ((decide (a0 ≤ a1))) with hc21 | hc21
  · have h := bif_t hc21 h
    refine Run.opG (wantS_yes' rfl rfl hc21) (ex_move rfl) rfl ?_
    refine Run.opG (wantS_yes' rfl rfl hc21) (ex_move rfl) rfl ?_
    refine Run.opG (wantS_yes' rfl rfl hc21) (ex_leq rfl rfl) rfl ?_
    refine Run.opG wantS_none (ex_pickT' rfl hc21 rfl rfl) rfl ?_
    exact Run.pick [14] (search_isFrom_1_ok F (decide (a1 ≤ a2)) _ _ _ hH h)
  · have h := bif_f hc21 h
    refine Run.no (wantS_not' rfl rfl hc21) rfl ?_
    refine Run.no (wantS_not' rfl rfl hc21) rfl ?_
    refine Run.no (wantS_not' rfl rfl hc21) rfl ?_
    refine Run.opG wantS_none (ex_pickF' rfl hc21 rfl rfl) rfl ?_
    exact Run.pick [14] (search_isFrom_1_ok F false _ _ _ hH h)

theorem mkk36 : makeK Try.prog 36 = none := by kernel_rfl
theorem cal36 : callable Try.prog 36 = true := by kernel_rfl
abbrev search_areFrom_post (r : Bool) : SV → Mem → Prop := fun s _ => s = (.bool r)

def search_areFrom_1 (F : Nat) : Nat → (List Int) → Int → Int → Int → Option (Bool)
  | 0, _, _, _, _ => none
  | N + 1, v0, v7, v8, c22_0 =>
    bif (decide (v8 < v7)) then
      bnd (idx v0 v8) fun x26 =>
      bnd (search_isFrom F (w64 (-c22_0)) x26 c22_0) fun r28 =>
      bif (!r28) then
        some (!(decide ((0 : Int) ≤ v8)))
      else
        (search_areFrom_1 F N) v0 v7 (w64 (v8 + (1 : Int))) c22_0
    else
      some (!(decide ((0 : Int) ≤ ((-1) : Int))))

theorem search_areFrom_1_ok (F : Nat) : ∀ (N : Nat), ∀ (v0 : (List Int)) (v7 : Int) (v8 : Int) (c22_0 : Int) (sv0 : SV) (b22 : Pos) (Fr : Rd) (M : Mem) (r : Bool) (hv0 : Slc Fr 1 (FlatR enc3) sv0 v0) (hH : Has Fr M [.obj b22 (.row 3 .whole [(.int .i64 c22_0)])]), search_areFrom_1 F N v0 v7 v8 c22_0 = some r → Run Try.prog ⟨⟨107, [], none⟩, [.mk ⟨96, [], none⟩ 9 (treeOf []) [itemC Try.prog 96 [1, 0] 2, codeC Try.prog 96 [1, 1]], .mk ⟨64, [], none⟩ 11 (treeOf []) [itemC Try.prog 64 [1, 1, 0] 2, codeC Try.prog 64 [1, 1, 1]]]⟩ 19 (search_areFrom_post r) [(0, sv0), (1, (.fn (.func 95) [] [(.ptr b22 0)])), (7, (.int .i64 v7)), (8, (.int .i64 v8))] [codeC Try.prog 107 [1, 0, 1, 0, 0], loopC Try.prog 107 [1, 0, 1, 0, 0], .inBlock 0, codeC Try.prog 107 [1, 1]] M := by
  intro N
  induction N with
  | zero =>
    intro v0 v7 v8 c22_0 sv0 b22 Fr M r hv0 hH h
    simp [search_areFrom_1] at h
  | succ N ih =>
    intro v0 v7 v8 c22_0 sv0 b22 Fr M r hv0 hH h
    rw [search_areFrom_1] at h
    refine Run.seq (Run.region ?_)
    refine Run.opG wantS_none (ex_lss rfl rfl) rfl ?_
    refine Run.opsEnd (Run.seq ?_)
    rcases btf ((decide (v8 < v7))) with hc24 | hc24
    · have h := bif_t hc24 h
      refine Run.condT' rfl hc24 ?_
      refine Run.skip (Run.seq (Run.block (Run.seq (Run.region ?_))))
      refine Run.opG wantS_none (ex_move rfl) rfl ?_
      refine Run.opG wantS_none (ex_assign rfl) rfl ?_
      refine Run.opsEnd (Run.seq (Run.region ?_))
      refine Run.opG wantS_none (ex_move rfl) rfl ?_
      refine Run.opG wantS_none (ex_move rfl) rfl ?_
      refine Run.opG wantS_none (ex_move rfl) rfl ?_
      obtain ⟨x26, hx26, h⟩ := bnd_some h
      obtain ⟨p26, o26, _, hx26, hp26, rfl⟩ := sl_elem (P := Try.prog) (t := 22) (kk := .i64) hv0 hx26 els22
      refine Run.opG wantS_none (ex_elX rfl rfl hx26) rfl ?_
      refine Run.opG wantS_none (ex_load1 rfl (hH.ptrF hp26) rdLe_rfl agg3) rfl ?_
      refine Run.enter wantS_none (ex_closure rfl rfl mkk95 cal95) Try.func95 rfl rfl ?_
      refine Run.seq (Run.region ?_)
      refine Run.opG wantS_none (ex_assign rfl) rfl ?_
      refine Run.opsEnd (Run.seq (Run.region ?_))
      refine Run.opG wantS_none (ex_load1 rfl (hH.cells (i := 0) rfl 0 rfl) rdLe_rfl agg3) rfl ?_
      refine Run.opG wantS_none (ex_neg rfl) rfl ?_
      refine Run.opG wantS_none (ex_move rfl) rfl ?_
      refine Run.opG wantS_none (ex_load1 rfl (hH.cells (i := 0) rfl 0 rfl) rdLe_rfl agg3) rfl ?_
      obtain ⟨r28, hr28, h⟩ := bnd_some h
      refine Run.callP wantS_none (ex_call rfl mkk36 cal36) rfl (search_isFrom_ok F (w64 (-c22_0)) x26 c22_0 _ _ hr28) ?_
      refine Run.opG wantS_none (ex_not rfl) rfl ?_
      refine Run.opG wantS_none (ex_assign rfl) rfl ?_
      refine Run.opsEnd ?_
      refine Run.retTo Try.func95 rfl (res_tmp rfl res_nil) rfl ?_
      refine Run.opsEnd ?_
      rcases btf ((!r28)) with hc30 | hc30
      · have h := bif_t hc30 h
        refine Run.condT' rfl hc30 ?_
        refine Run.seq (Run.region ?_)
        refine Run.opG wantS_none (ex_move rfl) rfl ?_
        refine Run.opG wantS_none (ex_assign rfl) rfl ?_
        refine Run.opsEnd ?_
        refine Run.retTo Try.func107 rfl (res_tmp rfl res_nil) rfl ?_
        refine Run.opG wantS_none (ex_geq rfl rfl) rfl ?_
        refine Run.opG wantS_none (ex_assign rfl) rfl ?_
        refine Run.opsEnd ?_
        refine Run.retTo Try.func96 rfl (res_tmp rfl res_nil) rfl ?_
        refine Run.opG wantS_none (ex_not rfl) rfl ?_
        refine Run.opG wantS_none (ex_assign rfl) rfl ?_
        refine Run.opsEnd ?_
        cases h
        exact Run.ret Try.func64 rfl (res_tmp rfl res_nil) rfl
      · have h := bif_f hc30 h
        refine Run.condF' rfl hc30 ?_
        refine Run.skip (Run.inBlock (Run.region ?_))
        refine Run.opG wantS_none (ex_add rfl rfl) rfl ?_
        refine Run.opG wantS_none (ex_move rfl) rfl ?_
        refine Run.opsEnd (Run.inLoop ?_)
        exact Run.low (.cons (fle_pick [] rfl) (.cons (fle_pick [] rfl) .nil)) (Run.pick [0, 1, 7, 8] (ih v0 v7 (w64 (v8 + (1 : Int))) c22_0 sv0 b22 _ _ _ hv0 hH h))
    · have h := bif_f hc24 h
      refine Run.condF' rfl hc24 ?_
      refine Run.exit rfl (Run.seq (Run.region ?_))
      refine Run.opG wantS_none (ex_assign rfl) rfl ?_
      refine Run.opsEnd ?_
      refine Run.retTo Try.func107 rfl (res_tmp rfl res_nil) rfl ?_
      refine Run.opG wantS_none (ex_geq rfl rfl) rfl ?_
      refine Run.opG wantS_none (ex_assign rfl) rfl ?_
      refine Run.opsEnd ?_
      refine Run.retTo Try.func96 rfl (res_tmp rfl res_nil) rfl ?_
      refine Run.opG wantS_none (ex_not rfl) rfl ?_
      refine Run.opG wantS_none (ex_assign rfl) rfl ?_
      refine Run.opsEnd ?_
      cases h
      exact Run.ret Try.func64 rfl (res_tmp rfl res_nil) rfl

def search_areFrom (F : Nat) (a0 : (List Int)) (a1 : Int) : Option (Bool) :=
  search_areFrom_1 F F a0 (a0.length : Int) (0 : Int) a1

theorem search_areFrom_ok (F : Nat) (a0 : (List Int)) (a1 : Int) (s0 : SV) (r : Bool) (M : Mem) (hs0 : Slc (rd M) 1 (FlatR enc3) s0 a0) (h : search_areFrom F a0 a1 = some r) : CallsM Try.prog 64 [s0, (.int .i64 a1)] M (fun s M' => s = (.bool r) ∧ M' = M) := by
  refine CallsM.plain Try.func64 rfl rfl rfl (show Run _ _ _ (search_areFrom_post r) _ _ _ from ?_)
  rw [search_areFrom] at h
  replace hs0 := hs0.mono (rdLe_frozen M) (fun _ _ h => h)
  have hH := Has.nil (frozen M)
  refine Run.seq (Run.region ?_)
  refine Run.opX wantS_none rfl (ExG.box rfl rfl hH) ?_
  rintro _ M23 ⟨b22, rfl, (hH23 : Has (ro (frozen M)) M23 [.obj b22 (.row 3 .whole [(.int .i64 a1)])])⟩
  refine Run.opG wantS_none (ex_assign rfl) rfl ?_
  refine Run.opsEnd (Run.seq (Run.region ?_))
  refine Run.opG wantS_none (ex_makeFunc rfl rfl) rfl ?_
  refine Run.opG wantS_none (ex_assign rfl) rfl ?_
  refine Run.opsEnd (Run.seq (Run.region ?_))
  refine Run.opG wantS_none (ex_move rfl) rfl ?_
  refine Run.opG wantS_none (ex_move rfl) rfl ?_
  refine Run.enter wantS_none (ex_call rfl mkk96 cal96) Try.func96 rfl rfl ?_
  refine Run.seq (Run.region ?_)
  refine Run.opG wantS_none (ex_assign rfl) rfl ?_
  refine Run.opsEnd (Run.seq (Run.region ?_))
  refine Run.opG wantS_none (ex_move rfl) rfl ?_
  refine Run.opG wantS_none (ex_move rfl) rfl ?_
  refine Run.enter wantS_none (ex_call rfl mkk107 cal107) Try.func107 rfl rfl ?_
  refine Run.seq (Run.region ?_)
  refine Run.opG wantS_none (ex_assign rfl) rfl ?_
  refine Run.opsEnd (Run.seq (Run.seq (Run.region ?_)))
  refine Run.opG wantS_none (ex_move rfl) rfl ?_
  refine Run.opG wantS_none (ex_len' rfl hs0 lenk22) rfl ?_
  refine Run.opG wantS_none (ex_move rfl) rfl ?_
  refine Run.opsEnd (Run.block (Run.loop ?_))
  exact Run.low (.cons (fle_pick [] rfl) (.cons (fle_pick [] rfl) .nil)) (Run.pick [0, 1, 7, 8] (search_areFrom_1_ok F F a0 (a0.length : Int) (0 : Int) a1 s0 b22 _ _ _ hs0 hH23 h))

theorem mkk64 : makeK Try.prog 64 = none := by kernel_rfl
theorem cal64 : callable Try.prog 64 = true := by kernel_rfl
abbrev search_isRecord_post (r : Bool) : SV → Mem → Prop := fun s _ => s = (.bool r)

def search_isRecord_1 (F : Nat) (v9 : Bool) : Option (Bool) :=
  some v9

theorem search_isRecord_1_ok (F : Nat) : ∀ (v9 : Bool) (Fr : Rd) (M : Mem) (r : Bool) (hH : Has Fr M []), search_isRecord_1 F v9 = some r → Run Try.prog ⟨⟨35, [], none⟩, []⟩ 10 (search_isRecord_post r) [(9, (.bool v9))] [itemC Try.prog 35 [1, 0] 7, codeC Try.prog 35 [1, 1]] M := by
  intro v9 Fr M r hH h
  rw [search_isRecord_1] at h
  refine Run.opG wantS_none (ex_assign rfl) rfl ?_
  refine Run.opsEnd ?_
  cases h
  exact Run.ret Try.func35 rfl (res_tmp rfl res_nil) rfl

def search_isRecord (F : Nat) (a0 : (List Int)) : Option (Bool) :=
  bif (decide ((a0.length : Int) ≤ (1024 : Int))) then
    bnd (search_areFrom F a0 (16384 : Int)) fun r23 =>
    search_isRecord_1 F r23
  else
    search_isRecord_1 F false

theorem search_isRecord_ok (F : Nat) (a0 : (List Int)) (s0 : SV) (r : Bool) (M : Mem) (hs0 : Slc (rd M) 1 (FlatR enc3) s0 a0) (h : search_isRecord F a0 = some r) : CallsM Try.prog 35 [s0] M (fun s M' => s = (.bool r) ∧ M' = M) := by
  refine CallsM.plain Try.func35 rfl rfl rfl (show Run _ _ _ (search_isRecord_post r) _ _ _ from ?_)
  rw [search_isRecord] at h
  replace hs0 := hs0.mono (rdLe_frozen M) (fun _ _ h => h)
  have hH := Has.nil (frozen M)
  refine Run.seq (Run.region ?_)
  refine Run.opG wantS_none (ex_assign rfl) rfl ?_
  refine Run.opsEnd (Run.seq (Run.region ?_))
  refine Run.opG wantS_none (ex_move rfl) rfl ?_
  refine Run.opG wantS_none (ex_len' rfl hs0 lenk22) rfl ?_
  refine Run.opG wantS_none (ex_leq rfl rfl) rfl ?_
  refine Run.opG wantS_none (ex_move rfl) rfl ?_
  rcases btf ((decide ((a0.length : Int) ≤ (1024 : Int)))) with hc21 | hc21
  · have h := bif_t hc21 h
    refine Run.opG (wantS_yes' rfl rfl hc21) (ex_move rfl) rfl ?_
    obtain ⟨r23, hr23, h⟩ := bnd_some h
    refine Run.callP (wantS_yes' rfl rfl hc21) (ex_call rfl mkk64 cal64) rfl (search_areFrom_ok F a0 (16384 : Int) s0 _ _ (hH.slcF hs0) hr23) ?_
    refine Run.opG wantS_none (ex_pickT' rfl hc21 rfl rfl) rfl ?_
    exact Run.pick [9] (search_isRecord_1_ok F r23 _ _ _ hH h)
  · have h := bif_f hc21 h
    refine Run.no (wantS_not' rfl rfl hc21) rfl ?_
    refine Run.no (wantS_not' rfl rfl hc21) rfl ?_
    refine Run.opG wantS_none (ex_pickF' rfl hc21 rfl rfl) rfl ?_
    exact Run.pick [9] (search_isRecord_1_ok F false _ _ _ hH h)

theorem mkk35 : makeK Try.prog 35 = none := by kernel_rfl
theorem cal35 : callable Try.prog 35 = true := by kernel_rfl
theorem zer27 : zerosOf Try.prog 27 = some [.nils] := by kernel_rfl
theorem mkk65 : makeK Try.prog 65 = none := by kernel_rfl
theorem cal65 : callable Try.prog 65 = true := by kernel_rfl
theorem cal97 : callable Try.prog 97 = true := by kernel_rfl
theorem zra145 : zerosOf Try.prog 145 = some ((List.replicate 1027 (0 : Int)).flatMap enc3) := by kernel_rfl
theorem pls145 : placesOf Try.prog 145 = some (.st [(0, 1024), (1024, 1), (1025, 1), (1026, 1)]) := by kernel_rfl
theorem bld145_1 : ∀ x : Int, fillS (placeAt [(0, 1024), (1024, 1), (1025, 1), (1026, 1)]) ((List.replicate 1027 (0 : Int)).flatMap enc3) [(1, .int .i64 x)] = some (((List.replicate 1027 (0 : Int)).set 1024 x).flatMap enc3) := fun x => congrFun (show (fun x : Int => fillS (placeAt [(0, 1024), (1024, 1), (1025, 1), (1026, 1)]) ((List.replicate 1027 (0 : Int)).flatMap enc3) [(1, .int .i64 x)]) = fun x => some (((List.replicate 1027 (0 : Int)).set 1024 x).flatMap enc3) by kernel_rfl) x
theorem zer145 : zerosOf Try.prog 145 = some [(.int .i64 0), (.int .i64 0), (.int .i64 0), (.int .i64 0), (.int .i64 0), (.int .i64 0), (.int .i64 0), (.int .i64 0), (.int .i64 0), (.int .i64 0), (.int .i64 0), (.int .i64 0), (.int .i64 0), (.int .i64 0), (.int .i64 0), (.int .i64 0), (.int .i64 0), (.int .i64 0), (.int .i64 0), (.int .i64 0), (.int .i64 0), (.int .i64 0), (.int .i64 0), (.int .i64 0), (.int .i64 0), (.int .i64 0), (.int .i64 0), (.int .i64 0), (.int .i64 0), (.int .i64 0), (.int .i64 0), (.int .i64 0), (.int .i64 0), (.int .i64 0), (.int .i64 0), (.int .i64 0), (.int .i64 0), (.int .i64 0), (.int .i64 0), (.int .i64 0), (.int .i64 0), (.int .i64 0), (.int .i64 0), (.int .i64 0), (.int .i64 0), (.int .i64 0), (.int .i64 0), (.int .i64 0), (.int .i64 0), (.int .i64 0), (.int .i64 0), (.int .i64 0), (.int .i64 0), (.int .i64 0), (.int .i64 0), (.int .i64 0), (.int .i64 0), (.int .i64 0), (.int .i64 0), (.int .i64 0), (.int .i64 0), (.int .i64 0), (.int .i64 0), (.int .i64 0), (.int .i64 0), (.int .i64 0), (.int .i64 0), (.int .i64 0), (.int .i64 0), (.int .i64 0), (.int .i64 0), (.int .i64 0), (.int .i64 0), (.int .i64 0), (.int .i64 0), (.int .i64 0), (.int .i64 0), (.int .i64 0), (.int .i64 0), (.int .i64 0), (.int .i64 0), (.int .i64 0), (.int .i64 0), (.int .i64 0), (.int .i64 0), (.int .i64 0), (.int .i64 0), (.int .i64 0), (.int .i64 0), (.int .i64 0), (.int .i64 0), (.int .i64 0), (.int .i64 0), (.int .i64 0), (.int .i64 0), (.int .i64 0), (.int .i64 0), (.int .i64 0), (.int .i64 0), (.int .i64 0), (.int .i64 0), (.int .i64 0), (.int .i64 0), (.int .i64 0), (.int .i64 0), (.int .i64 0), (.int .i64 0), (.int .i64 0), (.int .i64 0), (.int .i64 0), (.int .i64 0), (.int .i64 0), (.int .i64 0), (.int .i64 0), (.int .i64 0), (.int .i64 0), (.int .i64 0), (.int .i64 0), (.int .i64 0), (.int .i64 0), (.int .i64 0), (.int .i64 0), (.int .i64 0), (.int .i64 0), (.int .i64 0), (.int .i64 0), (.int .i64 0), (.int .i64 0), (.int .i64 0), (.int .i64 0), (.int .i64 0), (.int .i64 0), (.int .i64 0), (.int .i64 0), (.int .i64 0), (.int .i64 0), (.int .i64 0), (.int .i64 0), (.int .i64 0), (.int .i64 0), (.int .i64 0), (.int .i64 0), (.int .i64 0), (.int .i64 0), (.int .i64 0), (.int .i64 0), (.int .i64 0), (.int .i64 0), (.int .i64 0), (.int .i64 0), (.int .i64 0), (.int .i64 0), (.int .i64 0), (.int .i64 0), (.int .i64 0), (.int .i64 0), (.int .i64 0), (.int .i64 0), (.int .i64 0), (.int .i64 0), (.int .i64 0), (.int .i64 0), (.int .i64 0), (.int .i64 0), (.int .i64 0), (.int .i64 0), (.int .i64 0), (.int .i64 0), (.int .i64 0), (.int .i64 0), (.int .i64 0), (.int .i64 0), (.int .i64 0), (.int .i64 0), (.int .i64 0), (.int .i64 0), (.int .i64 0), (.int .i64 0), (.int .i64 0), (.int .i64 0), (.int .i64 0), (.int .i64 0), (.int .i64 0), (.int .i64 0), (.int .i64 0), (.int .i64 0), (.int .i64 0), (.int .i64 0), (.int .i64 0), (.int .i64 0), (.int .i64 0), (.int .i64 0), (.int .i64 0), (.int .i64 0), (.int .i64 0), (.int .i64 0), (.int .i64 0), (.int .i64 0), (.int .i64 0), (.int .i64 0), (.int .i64 0), (.int .i64 0), (.int .i64 0), (.int .i64 0), (.int .i64 0), (.int .i64 0), (.int .i64 0), (.int .i64 0), (.int .i64 0), (.int .i64 0), (.int .i64 0), (.int .i64 0), (.int .i64 0), (.int .i64 0), (.int .i64 0), (.int .i64 0), (.int .i64 0), (.int .i64 0), (.int .i64 0), (.int .i64 0), (.int .i64 0), (.int .i64 0), (.int .i64 0), (.int .i64 0), (.int .i64 0), (.int .i64 0), (.int .i64 0), (.int .i64 0), (.int .i64 0), (.int .i64 0), (.int .i64 0), (.int .i64 0), (.int .i64 0), (.int .i64 0), (.int .i64 0), (.int .i64 0), (.int .i64 0), (.int .i64 0), (.int .i64 0), (.int .i64 0), (.int .i64 0), (.int .i64 0), (.int .i64 0), (.int .i64 0), (.int .i64 0), (.int .i64 0), (.int .i64 0), (.int .i64 0), (.int .i64 0), (.int .i64 0), (.int .i64 0), (.int .i64 0), (.int .i64 0), (.int .i64 0), (.int .i64 0), (.int .i64 0), (.int .i64 0), (.int .i64 0), (.int .i64 0), (.int .i64 0), (.int .i64 0), (.int .i64 0), (.int .i64 0), (.int .i64 0), (.int .i64 0), (.int .i64 0), (.int .i64 0), (.int .i64 0), (.int .i64 0), (.int .i64 0), (.int .i64 0), (.int .i64 0), (.int .i64 0), (.int .i64 0), (.int .i64 0), (.int .i64 0), (.int .i64 0), (.int .i64 0), (.int .i64 0), (.int .i64 0), (.int .i64 0), (.int .i64 0), (.int .i64 0), (.int .i64 0), (.int .i64 0), (.int .i64 0), (.int .i64 0), (.int .i64 0), (.int .i64 0), (.int .i64 0), (.int .i64 0), (.int .i64 0), (.int .i64 0), (.int .i64 0), (.int .i64 0), (.int .i64 0), (.int .i64 0), (.int .i64 0), (.int .i64 0), (.int .i64 0), (.int .i64 0), (.int .i64 0), (.int .i64 0), (.int .i64 0), (.int .i64 0), (.int .i64 0), (.int .i64 0), (.int .i64 0), (.int .i64 0), (.int .i64 0), (.int .i64 0), (.int .i64 0), (.int .i64 0), (.int .i64 0), (.int .i64 0), (.int .i64 0), (.int .i64 0), (.int .i64 0), (.int .i64 0), (.int .i64 0), (.int .i64 0), (.int .i64 0), (.int .i64 0), (.int .i64 0), (.int .i64 0), (.int .i64 0), (.int .i64 0), (.int .i64 0), (.int .i64 0), (.int .i64 0), (.int .i64 0), (.int .i64 0), (.int .i64 0), (.int .i64 0), (.int .i64 0), (.int .i64 0), (.int .i64 0), (.int .i64 0), (.int .i64 0), (.int .i64 0), (.int .i64 0), (.int .i64 0), (.int .i64 0), (.int .i64 0), (.int .i64 0), (.int .i64 0), (.int .i64 0), (.int .i64 0), (.int .i64 0), (.int .i64 0), (.int .i64 0), (.int .i64 0), (.int .i64 0), (.int .i64 0), (.int .i64 0), (.int .i64 0), (.int .i64 0), (.int .i64 0), (.int .i64 0), (.int .i64 0), (.int .i64 0), (.int .i64 0), (.int .i64 0), (.int .i64 0), (.int .i64 0), (.int .i64 0), (.int .i64 0), (.int .i64 0), (.int .i64 0), (.int .i64 0), (.int .i64 0), (.int .i64 0), (.int .i64 0), (.int .i64 0), (.int .i64 0), (.int .i64 0), (.int .i64 0), (.int .i64 0), (.int .i64 0), (.int .i64 0), (.int .i64 0), (.int .i64 0), (.int .i64 0), (.int .i64 0), (.int .i64 0), (.int .i64 0), (.int .i64 0), (.int .i64 0), (.int .i64 0), (.int .i64 0), (.int .i64 0), (.int .i64 0), (.int .i64 0), (.int .i64 0), (.int .i64 0), (.int .i64 0), (.int .i64 0), (.int .i64 0), (.int .i64 0), (.int .i64 0), (.int .i64 0), (.int .i64 0), (.int .i64 0), (.int .i64 0), (.int .i64 0), (.int .i64 0), (.int .i64 0), (.int .i64 0), (.int .i64 0), (.int .i64 0), (.int .i64 0), (.int .i64 0), (.int .i64 0), (.int .i64 0), (.int .i64 0), (.int .i64 0), (.int .i64 0), (.int .i64 0), (.int .i64 0), (.int .i64 0), (.int .i64 0), (.int .i64 0), (.int .i64 0), (.int .i64 0), (.int .i64 0), (.int .i64 0), (.int .i64 0), (.int .i64 0), (.int .i64 0), (.int .i64 0), (.int .i64 0), (.int .i64 0), (.int .i64 0), (.int .i64 0), (.int .i64 0), (.int .i64 0), (.int .i64 0), (.int .i64 0), (.int .i64 0), (.int .i64 0), (.int .i64 0), (.int .i64 0), (.int .i64 0), (.int .i64 0), (.int .i64 0), (.int .i64 0), (.int .i64 0), (.int .i64 0), (.int .i64 0), (.int .i64 0), (.int .i64 0), (.int .i64 0), (.int .i64 0), (.int .i64 0), (.int .i64 0), (.int .i64 0), (.int .i64 0), (.int .i64 0), (.int .i64 0), (.int .i64 0), (.int .i64 0), (.int .i64 0), (.int .i64 0), (.int .i64 0), (.int .i64 0), (.int .i64 0), (.int .i64 0), (.int .i64 0), (.int .i64 0), (.int .i64 0), (.int .i64 0), (.int .i64 0), (.int .i64 0), (.int .i64 0), (.int .i64 0), (.int .i64 0), (.int .i64 0), (.int .i64 0), (.int .i64 0), (.int .i64 0), (.int .i64 0), (.int .i64 0), (.int .i64 0), (.int .i64 0), (.int .i64 0), (.int .i64 0), (.int .i64 0), (.int .i64 0), (.int .i64 0), (.int .i64 0), (.int .i64 0), (.int .i64 0), (.int .i64 0), (.int .i64 0), (.int .i64 0), (.int .i64 0), (.int .i64 0), (.int .i64 0), (.int .i64 0), (.int .i64 0), (.int .i64 0), (.int .i64 0), (.int .i64 0), (.int .i64 0), (.int .i64 0), (.int .i64 0), (.int .i64 0), (.int .i64 0), (.int .i64 0), (.int .i64 0), (.int .i64 0), (.int .i64 0), (.int .i64 0), (.int .i64 0), (.int .i64 0), (.int .i64 0), (.int .i64 0), (.int .i64 0), (.int .i64 0), (.int .i64 0), (.int .i64 0), (.int .i64 0), (.int .i64 0), (.int .i64 0), (.int .i64 0), (.int .i64 0), (.int .i64 0), (.int .i64 0), (.int .i64 0), (.int .i64 0), (.int .i64 0), (.int .i64 0), (.int .i64 0), (.int .i64 0), (.int .i64 0), (.int .i64 0), (.int .i64 0), (.int .i64 0), (.int .i64 0), (.int .i64 0), (.int .i64 0), (.int .i64 0), (.int .i64 0), (.int .i64 0), (.int .i64 0), (.int .i64 0), (.int .i64 0), (.int .i64 0), (.int .i64 0), (.int .i64 0), (.int .i64 0), (.int .i64 0), (.int .i64 0), (.int .i64 0), (.int .i64 0), (.int .i64 0), (.int .i64 0), (.int .i64 0), (.int .i64 0), (.int .i64 0), (.int .i64 0), (.int .i64 0), (.int .i64 0), (.int .i64 0), (.int .i64 0), (.int .i64 0), (.int .i64 0), (.int .i64 0), (.int .i64 0), (.int .i64 0), (.int .i64 0), (.int .i64 0), (.int .i64 0), (.int .i64 0), (.int .i64 0), (.int .i64 0), (.int .i64 0), (.int .i64 0), (.int .i64 0), (.int .i64 0), (.int .i64 0), (.int .i64 0), (.int .i64 0), (.int .i64 0), (.int .i64 0), (.int .i64 0), (.int .i64 0), (.int .i64 0), (.int .i64 0), (.int .i64 0), (.int .i64 0), (.int .i64 0), (.int .i64 0), (.int .i64 0), (.int .i64 0), (.int .i64 0), (.int .i64 0), (.int .i64 0), (.int .i64 0), (.int .i64 0), (.int .i64 0), (.int .i64 0), (.int .i64 0), (.int .i64 0), (.int .i64 0), (.int .i64 0), (.int .i64 0), (.int .i64 0), (.int .i64 0), (.int .i64 0), (.int .i64 0), (.int .i64 0), (.int .i64 0), (.int .i64 0), (.int .i64 0), (.int .i64 0), (.int .i64 0), (.int .i64 0), (.int .i64 0), (.int .i64 0), (.int .i64 0), (.int .i64 0), (.int .i64 0), (.int .i64 0), (.int .i64 0), (.int .i64 0), (.int .i64 0), (.int .i64 0), (.int .i64 0), (.int .i64 0), (.int .i64 0), (.int .i64 0), (.int .i64 0), (.int .i64 0), (.int .i64 0), (.int .i64 0), (.int .i64 0), (.int .i64 0), (.int .i64 0), (.int .i64 0), (.int .i64 0), (.int .i64 0), (.int .i64 0), (.int .i64 0), (.int .i64 0), (.int .i64 0), (.int .i64 0), (.int .i64 0), (.int .i64 0), (.int .i64 0), (.int .i64 0), (.int .i64 0), (.int .i64 0), (.int .i64 0), (.int .i64 0), (.int .i64 0), (.int .i64 0), (.int .i64 0), (.int .i64 0), (.int .i64 0), (.int .i64 0), (.int .i64 0), (.int .i64 0), (.int .i64 0), (.int .i64 0), (.int .i64 0), (.int .i64 0), (.int .i64 0), (.int .i64 0), (.int .i64 0), (.int .i64 0), (.int .i64 0), (.int .i64 0), (.int .i64 0), (.int .i64 0), (.int .i64 0), (.int .i64 0), (.int .i64 0), (.int .i64 0), (.int .i64 0), (.int .i64 0), (.int .i64 0), (.int .i64 0), (.int .i64 0), (.int .i64 0), (.int .i64 0), (.int .i64 0), (.int .i64 0), (.int .i64 0), (.int .i64 0), (.int .i64 0), (.int .i64 0), (.int .i64 0), (.int .i64 0), (.int .i64 0), (.int .i64 0), (.int .i64 0), (.int .i64 0), (.int .i64 0), (.int .i64 0), (.int .i64 0), (.int .i64 0), (.int .i64 0), (.int .i64 0), (.int .i64 0), (.int .i64 0), (.int .i64 0), (.int .i64 0), (.int .i64 0), (.int .i64 0), (.int .i64 0), (.int .i64 0), (.int .i64 0), (.int .i64 0), (.int .i64 0), (.int .i64 0), (.int .i64 0), (.int .i64 0), (.int .i64 0), (.int .i64 0), (.int .i64 0), (.int .i64 0), (.int .i64 0), (.int .i64 0), (.int .i64 0), (.int .i64 0), (.int .i64 0), (.int .i64 0), (.int .i64 0), (.int .i64 0), (.int .i64 0), (.int .i64 0), (.int .i64 0), (.int .i64 0), (.int .i64 0), (.int .i64 0), (.int .i64 0), (.int .i64 0), (.int .i64 0), (.int .i64 0), (.int .i64 0), (.int .i64 0), (.int .i64 0), (.int .i64 0), (.int .i64 0), (.int .i64 0), (.int .i64 0), (.int .i64 0), (.int .i64 0), (.int .i64 0), (.int .i64 0), (.int .i64 0), (.int .i64 0), (.int .i64 0), (.int .i64 0), (.int .i64 0), (.int .i64 0), (.int .i64 0), (.int .i64 0), (.int .i64 0), (.int .i64 0), (.int .i64 0), (.int .i64 0), (.int .i64 0), (.int .i64 0), (.int .i64 0), (.int .i64 0), (.int .i64 0), (.int .i64 0), (.int .i64 0), (.int .i64 0), (.int .i64 0), (.int .i64 0), (.int .i64 0), (.int .i64 0), (.int .i64 0), (.int .i64 0), (.int .i64 0), (.int .i64 0), (.int .i64 0), (.int .i64 0), (.int .i64 0), (.int .i64 0), (.int .i64 0), (.int .i64 0), (.int .i64 0), (.int .i64 0), (.int .i64 0), (.int .i64 0), (.int .i64 0), (.int .i64 0), (.int .i64 0), (.int .i64 0), (.int .i64 0), (.int .i64 0), (.int .i64 0), (.int .i64 0), (.int .i64 0), (.int .i64 0), (.int .i64 0), (.int .i64 0), (.int .i64 0), (.int .i64 0), (.int .i64 0), (.int .i64 0), (.int .i64 0), (.int .i64 0), (.int .i64 0), (.int .i64 0), (.int .i64 0), (.int .i64 0), (.int .i64 0), (.int .i64 0), (.int .i64 0), (.int .i64 0), (.int .i64 0), (.int .i64 0), (.int .i64 0), (.int .i64 0), (.int .i64 0), (.int .i64 0), (.int .i64 0), (.int .i64 0), (.int .i64 0), (.int .i64 0), (.int .i64 0), (.int .i64 0), (.int .i64 0), (.int .i64 0), (.int .i64 0), (.int .i64 0), (.int .i64 0), (.int .i64 0), (.int .i64 0), (.int .i64 0), (.int .i64 0), (.int .i64 0), (.int .i64 0), (.int .i64 0), (.int .i64 0), (.int .i64 0), (.int .i64 0), (.int .i64 0), (.int .i64 0), (.int .i64 0), (.int .i64 0), (.int .i64 0), (.int .i64 0), (.int .i64 0), (.int .i64 0), (.int .i64 0), (.int .i64 0), (.int .i64 0), (.int .i64 0), (.int .i64 0), (.int .i64 0), (.int .i64 0), (.int .i64 0), (.int .i64 0), (.int .i64 0), (.int .i64 0), (.int .i64 0), (.int .i64 0), (.int .i64 0), (.int .i64 0), (.int .i64 0), (.int .i64 0), (.int .i64 0), (.int .i64 0), (.int .i64 0), (.int .i64 0), (.int .i64 0), (.int .i64 0), (.int .i64 0), (.int .i64 0), (.int .i64 0), (.int .i64 0), (.int .i64 0), (.int .i64 0), (.int .i64 0), (.int .i64 0), (.int .i64 0), (.int .i64 0), (.int .i64 0), (.int .i64 0), (.int .i64 0), (.int .i64 0), (.int .i64 0), (.int .i64 0), (.int .i64 0), (.int .i64 0), (.int .i64 0), (.int .i64 0), (.int .i64 0), (.int .i64 0), (.int .i64 0), (.int .i64 0), (.int .i64 0), (.int .i64 0), (.int .i64 0), (.int .i64 0), (.int .i64 0), (.int .i64 0), (.int .i64 0), (.int .i64 0), (.int .i64 0), (.int .i64 0), (.int .i64 0), (.int .i64 0), (.int .i64 0), (.int .i64 0), (.int .i64 0), (.int .i64 0), (.int .i64 0), (.int .i64 0), (.int .i64 0), (.int .i64 0), (.int .i64 0), (.int .i64 0), (.int .i64 0), (.int .i64 0), (.int .i64 0), (.int .i64 0), (.int .i64 0), (.int .i64 0), (.int .i64 0), (.int .i64 0), (.int .i64 0), (.int .i64 0), (.int .i64 0), (.int .i64 0), (.int .i64 0), (.int .i64 0), (.int .i64 0), (.int .i64 0), (.int .i64 0), (.int .i64 0), (.int .i64 0), (.int .i64 0), (.int .i64 0), (.int .i64 0), (.int .i64 0), (.int .i64 0), (.int .i64 0), (.int .i64 0), (.int .i64 0), (.int .i64 0), (.int .i64 0), (.int .i64 0), (.int .i64 0), (.int .i64 0), (.int .i64 0), (.int .i64 0), (.int .i64 0), (.int .i64 0), (.int .i64 0), (.int .i64 0), (.int .i64 0), (.int .i64 0), (.int .i64 0), (.int .i64 0), (.int .i64 0), (.int .i64 0), (.int .i64 0), (.int .i64 0), (.int .i64 0), (.int .i64 0), (.int .i64 0), (.int .i64 0), (.int .i64 0), (.int .i64 0), (.int .i64 0), (.int .i64 0), (.int .i64 0), (.int .i64 0), (.int .i64 0), (.int .i64 0), (.int .i64 0), (.int .i64 0), (.int .i64 0), (.int .i64 0), (.int .i64 0), (.int .i64 0), (.int .i64 0), (.int .i64 0), (.int .i64 0), (.int .i64 0), (.int .i64 0), (.int .i64 0), (.int .i64 0), (.int .i64 0), (.int .i64 0), (.int .i64 0), (.int .i64 0), (.int .i64 0), (.int .i64 0), (.int .i64 0), (.int .i64 0), (.int .i64 0), (.int .i64 0), (.int .i64 0), (.int .i64 0), (.int .i64 0), (.int .i64 0), (.int .i64 0), (.int .i64 0), (.int .i64 0), (.int .i64 0), (.int .i64 0), (.int .i64 0), (.int .i64 0), (.int .i64 0), (.int .i64 0), (.int .i64 0), (.int .i64 0), (.int .i64 0), (.int .i64 0), (.int .i64 0), (.int .i64 0), (.int .i64 0), (.int .i64 0), (.int .i64 0), (.int .i64 0), (.int .i64 0), (.int .i64 0), (.int .i64 0), (.int .i64 0)] := by kernel_rfl
theorem sz145 : szOf Try.prog 145 = some 1027 := by kernel_rfl
theorem agg22 : aggSize Try.prog 22 = some none := by kernel_rfl
theorem mkk98 : makeK Try.prog 98 = none := by kernel_rfl
theorem cal98 : callable Try.prog 98 = true := by kernel_rfl
theorem off145_3 : fieldOff Try.prog 145 3 = some 1026 := by kernel_rfl
theorem off145_2 : fieldOff Try.prog 145 2 = some 1025 := by kernel_rfl
theorem off145_0 : fieldOff Try.prog 145 0 = some 0 := by kernel_rfl
theorem els143 : elems Try.prog 143 = some (.arr 1024 1) := by kernel_rfl
theorem sz3 : szOf Try.prog 3 = some 1 := by kernel_rfl
theorem off145_1 : fieldOff Try.prog 145 1 = some 1024 := by kernel_rfl
theorem agg27 : aggSize Try.prog 27 = some none := by kernel_rfl
theorem lenk27 : lenK Try.prog 27 = some .sl := by kernel_rfl
theorem zer31 : zerosOf Try.prog 31 = some [(.int .i64 0), (.int .i64 0), (.int .i64 0)] := by kernel_rfl
theorem pls31 : placesOf Try.prog 31 = some (.st [(0, 1), (1, 1), (2, 1)]) := by kernel_rfl
theorem elt27 : sliceElt Try.prog 27 = some (⟨3, 24, [(.int .i64 0), (.int .i64 0), (.int .i64 0)], 31⟩ : Elt) := by kernel_rfl
theorem appt27_27 : appT Try.prog 27 27 = some (⟨3, 24, [(.int .i64 0), (.int .i64 0), (.int .i64 0)], 31⟩ : Elt) := by kernel_rfl
theorem sz27 : szOf Try.prog 27 = some 1 := by kernel_rfl
theorem els27 : elems Try.prog 27 = some (.sl 3) := by kernel_rfl
theorem off31_1 : fieldOff Try.prog 31 1 = some 1 := by kernel_rfl
theorem off31_2 : fieldOff Try.prog 31 2 = some 2 := by kernel_rfl
theorem plan37_1_1_0_1_0_1_0_1_1_1_0_1 : planOf Try.prog (opsC (atC Try.prog 37 [1, 1, 0, 1, 0, 1, 0, 1, 1, 1, 0, 1])) = some [.fl 0, .fl 1, .fl 2, .fl 3, .fl 4, .fl 5, .fl 6, .fl 7, .fl 8, .fl 9, .fl 10, .an 11 [], .sync] := by kernel_rfl
theorem plan98_1_1 : planOf Try.prog (opsC (atC Try.prog 98 [1, 1])) = some [.fl 0, .fl 1, .fl 2, .fl 3, .fl 4, .fl 5, .fl 6, .fl 7, .fl 8, .fl 9, .fl 10, .fl 11, .fl 12, .an 13 [], .sync] := by kernel_rfl
theorem plan98_1_0 : planOf Try.prog (opsC (atC Try.prog 98 [1, 0])) = some [.fl 0, .fl 1, .fl 2, .fl 3, .fl 4, .fl 5, .fl 6, .fl 7, .fl 8, .fl 9, .fl 10, .an 11 [], .sync] := by kernel_rfl
theorem plan98_0 : planOf Try.prog (opsC (atC Try.prog 98 [0])) = some [.fl 0, .fl 1, .fl 2, .fl 3, .fl 4, .fl 5, .fl 6, .fl 7, .fl 8, .fl 9, .fl 10, .fl 11, .fl 12, .fl 13, .fl 14, .fl 15, .fl 16, .fl 17, .fl 18, .fl 19, .an 20 [], .sync] := by kernel_rfl
abbrev search_bursts_post (r : (List S_api_Burst)) : SV → Mem → Prop := fun s Me => ∃ q1, s = q1 ∧ Has (fun _ => none) Me [.vec 31 3 r.length q1 (r.flatMap enc31)]

def search_bursts_2 (F : Nat) (hd1 : (List Int) → Int → Int → Int → Int → Int → (List Int) → (List S_api_Burst) → (List Int) → Option ((List S_api_Burst))) (v10 : (List Int)) (v11 : Int) (v12 : Int) (v32 : Bool) (c22_0 : Int) (c25_0 : Int) (c34_0 : Int) (c31_0 : (List Int)) (l42 : (List S_api_Burst)) (l39 : (List Int)) : Option ((List S_api_Burst)) :=
  bif v32 then
    some l42
  else
    hd1 v10 v11 (w64 (v12 + (1 : Int))) c22_0 c25_0 c34_0 c31_0 l42 l39

theorem search_bursts_2_ok (F : Nat) (hd1 : (List Int) → Int → Int → Int → Int → Int → (List Int) → (List S_api_Burst) → (List Int) → Option ((List S_api_Burst))) (hhd1 : ∀ (v10 : (List Int)) (v11 : Int) (v12 : Int) (c22_0 : Int) (c25_0 : Int) (c34_0 : Int) (c31_0 : (List Int)) (l42 : (List S_api_Burst)) (l39 : (List Int)) (sv10 : SV) (sc31_0 : SV) (b36 : Pos) (b22 : Pos) (b25 : Pos) (b28 : Pos) (s42 : SV) (b34 : Pos) (b31 : Pos) (b37 : Pos) (b39 : Pos) (Fr : Rd) (M : Mem) (r : (List S_api_Burst)) (hv10 : Slc Fr 1 (FlatR enc3) sv10 v10) (hc31_0 : Slc Fr 1 (FlatR enc3) sc31_0 c31_0) (hH : Has Fr M [.obj b36 (.loop ⟨.ready, none, 37, 61, treeOf [(4, (.ptr b22 0)), (5, (.ptr b25 0)), (6, .nils), (7, (.ptr b28 0)), (13, (.fn (.func 97) [] [(.ptr b34 0), (.ptr b31 0)]))], [14, 15], (atC Try.prog 37 [1, 1, 0, 1, 0, 0]), (atC Try.prog 37 [1, 1, 0, 1, 0, 1]), b37⟩), .obj b22 (.row 3 .whole [(.int .i64 c22_0)]), .obj b25 (.row 3 .whole [(.int .i64 c25_0)]), .obj b28 (.row 27 .whole [s42]), .vec 31 3 l42.length s42 (l42.flatMap enc31), .obj b34 (.row 3 .whole [(.int .i64 c34_0)]), .obj b31 (.row 22 .whole [sc31_0]), .obj b37 .defd, .obj b39 (.row 145 .whole (l39.flatMap enc3))]), hd1 v10 v11 v12 c22_0 c25_0 c34_0 c31_0 l42 l39 = some r → Run Try.prog ⟨⟨97, [], none⟩, [.mk ⟨37, [b37], none⟩ 61 (treeOf [(7, (.ptr b28 0))]) [.inRange b36, .inBlock 0, codeC Try.prog 37 [1, 1, 1]]]⟩ 34 (search_bursts_post r) [(0, (.yield b36)), (1, (.ptr b34 0)), (4, (.ptr b39 0)), (10, sv10), (11, (.int .i64 v11)), (12, (.int .i64 v12))] [codeC Try.prog 97 [1, 1, 0, 0], loopC Try.prog 97 [1, 1, 0, 0], .inBlock 0] M) : ∀ (v10 : (List Int)) (v11 : Int) (v12 : Int) (v32 : Bool) (c22_0 : Int) (c25_0 : Int) (c34_0 : Int) (c31_0 : (List Int)) (l42 : (List S_api_Burst)) (l39 : (List Int)) (sv10 : SV) (sc31_0 : SV) (b36 : Pos) (b22 : Pos) (b25 : Pos) (b28 : Pos) (s42 : SV) (b34 : Pos) (b31 : Pos) (b37 : Pos) (b39 : Pos) (Fr : Rd) (M : Mem) (r : (List S_api_Burst)) (hv10 : Slc Fr 1 (FlatR enc3) sv10 v10) (hc31_0 : Slc Fr 1 (FlatR enc3) sc31_0 c31_0) (hH : Has Fr M [.obj b36 (.loop ⟨.ready, none, 37, 61, treeOf [(4, (.ptr b22 0)), (5, (.ptr b25 0)), (6, .nils), (7, (.ptr b28 0)), (13, (.fn (.func 97) [] [(.ptr b34 0), (.ptr b31 0)]))], [14, 15], (atC Try.prog 37 [1, 1, 0, 1, 0, 0]), (atC Try.prog 37 [1, 1, 0, 1, 0, 1]), b37⟩), .obj b22 (.row 3 .whole [(.int .i64 c22_0)]), .obj b25 (.row 3 .whole [(.int .i64 c25_0)]), .obj b28 (.row 27 .whole [s42]), .vec 31 3 l42.length s42 (l42.flatMap enc31), .obj b34 (.row 3 .whole [(.int .i64 c34_0)]), .obj b31 (.row 22 .whole [sc31_0]), .obj b37 .defd, .obj b39 (.row 145 .whole (l39.flatMap enc3))]), search_bursts_2 F hd1 v10 v11 v12 v32 c22_0 c25_0 c34_0 c31_0 l42 l39 = some r → Run Try.prog ⟨⟨97, [], none⟩, [.mk ⟨37, [b37], none⟩ 61 (treeOf [(7, (.ptr b28 0))]) [.inRange b36, .inBlock 0, codeC Try.prog 37 [1, 1, 1]]]⟩ 34 (search_bursts_post r) [(0, (.yield b36)), (1, (.ptr b34 0)), (4, (.ptr b39 0)), (10, sv10), (11, (.int .i64 v11)), (12, (.int .i64 v12)), (32, (.bool v32))] [codeC Try.prog 97 [1, 1, 0, 0, 1, 1, 0, 0, 1, 1, 1, 1], .inBlock 1, codeC Try.prog 97 [1, 1, 0, 0, 1, 1, 1], loopC Try.prog 97 [1, 1, 0, 0], .inBlock 0] M := by
  intro v10 v11 v12 v32 c22_0 c25_0 c34_0 c31_0 l42 l39 sv10 sc31_0 b36 b22 b25 b28 s42 b34 b31 b37 b39 Fr M r hv10 hc31_0 hH h
  rw [search_bursts_2] at h
  rcases btf (v32) with hc68 | hc68
  · have h := bif_t hc68 h
    refine Run.condT' rfl hc68 ?_
    refine Run.retRange Try.func97 rfl res_nil ?_
    refine Run.endX hH (i := 0) rfl (fun hc => by cases hc) ?_
    intro M69 (hH69 : Has Fr M69 [.obj b36 (.loop ⟨.exhausted, none, 37, 61, treeOf [(4, (.ptr b22 0)), (5, (.ptr b25 0)), (6, .nils), (7, (.ptr b28 0)), (13, (.fn (.func 97) [] [(.ptr b34 0), (.ptr b31 0)]))], [14, 15], (atC Try.prog 37 [1, 1, 0, 1, 0, 0]), (atC Try.prog 37 [1, 1, 0, 1, 0, 1]), b37⟩), .obj b22 (.row 3 .whole [(.int .i64 c22_0)]), .obj b25 (.row 3 .whole [(.int .i64 c25_0)]), .obj b28 (.row 27 .whole [s42]), .vec 31 3 l42.length s42 (l42.flatMap enc31), .obj b34 (.row 3 .whole [(.int .i64 c34_0)]), .obj b31 (.row 22 .whole [sc31_0]), .obj b37 .defd, .obj b39 (.row 145 .whole (l39.flatMap enc3))])
    refine Run.inBlock (Run.seq (Run.region ?_))
    refine Run.opG wantS_none (ex_load1 rfl (hH69.cells (i := 3) rfl 0 rfl) rdLe_rfl agg27) rfl ?_
    refine Run.opG wantS_none (ex_assign rfl) rfl ?_
    refine Run.opsEnd ?_
    obtain ⟨hH70x, hS70⟩ := hH69.shut (i := 7) (ds := []) rfl
    have hH70 : Has Fr (setT M69 b37 none) [.obj b36 (.loop ⟨.exhausted, none, 37, 61, treeOf [(4, (.ptr b22 0)), (5, (.ptr b25 0)), (6, .nils), (7, (.ptr b28 0)), (13, (.fn (.func 97) [] [(.ptr b34 0), (.ptr b31 0)]))], [14, 15], (atC Try.prog 37 [1, 1, 0, 1, 0, 0]), (atC Try.prog 37 [1, 1, 0, 1, 0, 1]), b37⟩), .obj b22 (.row 3 .whole [(.int .i64 c22_0)]), .obj b25 (.row 3 .whole [(.int .i64 c25_0)]), .obj b28 (.row 27 .whole [s42]), .vec 31 3 l42.length s42 (l42.flatMap enc31), .obj b34 (.row 3 .whole [(.int .i64 c34_0)]), .obj b31 (.row 22 .whole [sc31_0]), .vec 0 0 0 .nils [], .obj b39 (.row 145 .whole (l39.flatMap enc3))] := hH70x
    cases h
    exact Run.ret Try.func37 (hS70 _ rfl) (res_tmp rfl res_nil) ⟨_, rfl, (hH70.pick [4] rfl rfl).upF (none_le _)⟩
  · have h := bif_f hc68 h
    refine Run.condF' rfl hc68 ?_
    refine Run.skip (Run.inBlock (Run.region ?_))
    refine Run.opG wantS_none (ex_add rfl rfl) rfl ?_
    refine Run.opG wantS_none (ex_move rfl) rfl ?_
    refine Run.opsEnd (Run.inLoop ?_)
    exact Run.low (.cons (fle_pick [7] rfl) .nil) (Run.pick [0, 1, 4, 10, 11, 12] (hhd1 v10 v11 (w64 (v12 + (1 : Int))) c22_0 c25_0 c34_0 c31_0 l42 l39 sv10 sc31_0 b36 b22 b25 b28 s42 b34 b31 b37 b39 _ _ _ hv10 hc31_0 hH h))

def search_bursts_3 (F : Nat) (hd1 : (List Int) → Int → Int → Int → Int → Int → (List Int) → (List S_api_Burst) → (List Int) → Option ((List S_api_Burst))) (v8 : Int) (v9 : Int) (v10 : Int) (v32 : Bool) (v10_f1 : (List Int)) (v11_f1 : Int) (v12_f1 : Int) (v25_f1 : Bool) (c22_0 : Int) (c25_0 : Int) (c34_0 : Int) (c31_0 : (List Int)) (l42 : (List S_api_Burst)) (l39 : (List Int)) : Option ((List S_api_Burst)) :=
  bif v32 then
    bnd (inn l42 v10) fun o77 =>
    bnd (l42[o77]?) fun x79 =>
    bnd (upd l42 o77 (S_api_Burst.mk x79.From (w64 (v8 + c22_0)) x79.Peak)) fun l79 =>
    bnd (idx l79 v10) fun x81 =>
    bnd (inn l79 v10) fun o82 =>
    bnd (l79[o82]?) fun x83 =>
    bnd (upd l79 o82 (S_api_Burst.mk x83.From x83.To (max x81.Peak v9))) fun l83 =>
    bif v25_f1 then
      search_bursts_2 F hd1 v10_f1 v11_f1 v12_f1 (!true) c22_0 c25_0 c34_0 c31_0 l83 l39
    else
      search_bursts_2 F hd1 v10_f1 v11_f1 v12_f1 false c22_0 c25_0 c34_0 c31_0 l83 l39
  else
    bnd (apd 24 l42 ([(S_api_Burst.mk v8 (w64 (v8 + c22_0)) v9)] : List S_api_Burst)) fun l92 =>
    bif v25_f1 then
      search_bursts_2 F hd1 v10_f1 v11_f1 v12_f1 (!true) c22_0 c25_0 c34_0 c31_0 l92 l39
    else
      search_bursts_2 F hd1 v10_f1 v11_f1 v12_f1 false c22_0 c25_0 c34_0 c31_0 l92 l39

theorem search_bursts_3_ok (F : Nat) (hd1 : (List Int) → Int → Int → Int → Int → Int → (List Int) → (List S_api_Burst) → (List Int) → Option ((List S_api_Burst))) (hhd1 : ∀ (v10 : (List Int)) (v11 : Int) (v12 : Int) (c22_0 : Int) (c25_0 : Int) (c34_0 : Int) (c31_0 : (List Int)) (l42 : (List S_api_Burst)) (l39 : (List Int)) (sv10 : SV) (sc31_0 : SV) (b36 : Pos) (b22 : Pos) (b25 : Pos) (b28 : Pos) (s42 : SV) (b34 : Pos) (b31 : Pos) (b37 : Pos) (b39 : Pos) (Fr : Rd) (M : Mem) (r : (List S_api_Burst)) (hv10 : Slc Fr 1 (FlatR enc3) sv10 v10) (hc31_0 : Slc Fr 1 (FlatR enc3) sc31_0 c31_0) (hH : Has Fr M [.obj b36 (.loop ⟨.ready, none, 37, 61, treeOf [(4, (.ptr b22 0)), (5, (.ptr b25 0)), (6, .nils), (7, (.ptr b28 0)), (13, (.fn (.func 97) [] [(.ptr b34 0), (.ptr b31 0)]))], [14, 15], (atC Try.prog 37 [1, 1, 0, 1, 0, 0]), (atC Try.prog 37 [1, 1, 0, 1, 0, 1]), b37⟩), .obj b22 (.row 3 .whole [(.int .i64 c22_0)]), .obj b25 (.row 3 .whole [(.int .i64 c25_0)]), .obj b28 (.row 27 .whole [s42]), .vec 31 3 l42.length s42 (l42.flatMap enc31), .obj b34 (.row 3 .whole [(.int .i64 c34_0)]), .obj b31 (.row 22 .whole [sc31_0]), .obj b37 .defd, .obj b39 (.row 145 .whole (l39.flatMap enc3))]), hd1 v10 v11 v12 c22_0 c25_0 c34_0 c31_0 l42 l39 = some r → Run Try.prog ⟨⟨97, [], none⟩, [.mk ⟨37, [b37], none⟩ 61 (treeOf [(7, (.ptr b28 0))]) [.inRange b36, .inBlock 0, codeC Try.prog 37 [1, 1, 1]]]⟩ 34 (search_bursts_post r) [(0, (.yield b36)), (1, (.ptr b34 0)), (4, (.ptr b39 0)), (10, sv10), (11, (.int .i64 v11)), (12, (.int .i64 v12))] [codeC Try.prog 97 [1, 1, 0, 0], loopC Try.prog 97 [1, 1, 0, 0], .inBlock 0] M) : ∀ (v8 : Int) (v9 : Int) (v10 : Int) (v32 : Bool) (v10_f1 : (List Int)) (v11_f1 : Int) (v12_f1 : Int) (v25_f1 : Bool) (c22_0 : Int) (c25_0 : Int) (c34_0 : Int) (c31_0 : (List Int)) (l42 : (List S_api_Burst)) (l39 : (List Int)) (sv10_f1 : SV) (sc31_0 : SV) (b22 : Pos) (b28 : Pos) (s42 : SV) (b36 : Pos) (b25 : Pos) (b34 : Pos) (b31 : Pos) (b37 : Pos) (b39 : Pos) (Fr : Rd) (M : Mem) (r : (List S_api_Burst)) (hv10_f1 : Slc Fr 1 (FlatR enc3) sv10_f1 v10_f1) (hc31_0 : Slc Fr 1 (FlatR enc3) sc31_0 c31_0) (hH : Has Fr M [.obj b22 (.row 3 .whole [(.int .i64 c22_0)]), .obj b28 (.row 27 .whole [s42]), .vec 31 3 l42.length s42 (l42.flatMap enc31), .obj b36 (.loop ⟨.busy, none, 37, 61, treeOf [(4, (.ptr b22 0)), (5, (.ptr b25 0)), (6, .nils), (7, (.ptr b28 0)), (13, (.fn (.func 97) [] [(.ptr b34 0), (.ptr b31 0)]))], [14, 15], (atC Try.prog 37 [1, 1, 0, 1, 0, 0]), (atC Try.prog 37 [1, 1, 0, 1, 0, 1]), b37⟩), .obj b25 (.row 3 .whole [(.int .i64 c25_0)]), .obj b34 (.row 3 .whole [(.int .i64 c34_0)]), .obj b31 (.row 22 .whole [sc31_0]), .obj b37 .defd, .obj b39 (.row 145 .whole (l39.flatMap enc3))]), search_bursts_3 F hd1 v8 v9 v10 v32 v10_f1 v11_f1 v12_f1 v25_f1 c22_0 c25_0 c34_0 c31_0 l42 l39 = some r → Run Try.prog ⟨⟨37, [], some b36⟩, [.mk ⟨97, [], none⟩ 34 (treeOf [(0, (.yield b36)), (1, (.ptr b34 0)), (4, (.ptr b39 0)), (10, sv10_f1), (11, (.int .i64 v11_f1)), (12, (.int .i64 v12_f1)), (25, (.bool v25_f1))]) [itemC Try.prog 97 [1, 1, 0, 0, 1, 1, 0, 0, 1, 1, 1, 0] 7, codeC Try.prog 97 [1, 1, 0, 0, 1, 1, 0, 0, 1, 1, 1, 1], .inBlock 1, codeC Try.prog 97 [1, 1, 0, 0, 1, 1, 1], loopC Try.prog 97 [1, 1, 0, 0], .inBlock 0], .mk ⟨37, [b37], none⟩ 61 (treeOf [(7, (.ptr b28 0))]) [.inRange b36, .inBlock 0, codeC Try.prog 37 [1, 1, 1]]]⟩ 61 (search_bursts_post r) [(4, (.ptr b22 0)), (6, .nils), (7, (.ptr b28 0)), (8, (.int .i64 v8)), (9, (.int .i64 v9)), (10, (.int .i64 v10)), (32, (.bool v32))] [codeC Try.prog 37 [1, 1, 0, 1, 0, 1, 0, 1, 1, 1], .inBlock 1] M := by
  intro v8 v9 v10 v32 v10_f1 v11_f1 v12_f1 v25_f1 c22_0 c25_0 c34_0 c31_0 l42 l39 sv10_f1 sc31_0 b22 b28 s42 b36 b25 b34 b31 b37 b39 Fr M r hv10_f1 hc31_0 hH h
  rw [search_bursts_3] at h
  rcases btf (v32) with hc75 | hc75
  · have h := bif_t hc75 h
    refine Run.condT' rfl hc75 ?_
    refine Run.seq (Run.region ?_)
    refine Run.opG wantS_none (ex_load1 rfl (hH.cells (i := 1) rfl 0 rfl) rdLe_rfl agg27) rfl ?_
    refine Run.opG wantS_none (ex_move rfl) rfl ?_
    refine Run.opG wantS_none (ex_move rfl) rfl ?_
    refine Run.opG wantS_none (ex_load1 rfl (hH.cells (i := 0) rfl 0 rfl) rdLe_rfl agg3) rfl ?_
    refine Run.opG wantS_none (ex_add rfl rfl) rfl ?_
    obtain ⟨o77, ho77, h⟩ := bnd_some h
    obtain ⟨p77, hb77, hx77⟩ := vec_place (P := Try.prog) (t := 27) (kk := .i64) hH (i := 2) rfl ho77 els27
    refine Run.opG wantS_none (ex_elX rfl rfl hx77) rfl ?_
    refine Run.opG wantS_none (ex_fieldAddr rfl off31_1) rfl ?_
    obtain ⟨x79, hx79, h⟩ := bnd_some h
    obtain ⟨l79, hl79, h⟩ := bnd_some h
    refine Run.opX wantS_none rfl (ExG.storeFld (o := 1) rfl rfl hH (i := 2) rfl hb77 hx79 hl79 sz3 rfl rfl rfl rfl enc31_len) ?_
    rintro _ M80 ⟨rfl, (hH80 : Has Fr M80 [.obj b22 (.row 3 .whole [(.int .i64 c22_0)]), .obj b28 (.row 27 .whole [s42]), .vec 31 3 l79.length s42 (l79.flatMap enc31), .obj b36 (.loop ⟨.busy, none, 37, 61, treeOf [(4, (.ptr b22 0)), (5, (.ptr b25 0)), (6, .nils), (7, (.ptr b28 0)), (13, (.fn (.func 97) [] [(.ptr b34 0), (.ptr b31 0)]))], [14, 15], (atC Try.prog 37 [1, 1, 0, 1, 0, 0]), (atC Try.prog 37 [1, 1, 0, 1, 0, 1]), b37⟩), .obj b25 (.row 3 .whole [(.int .i64 c25_0)]), .obj b34 (.row 3 .whole [(.int .i64 c34_0)]), .obj b31 (.row 22 .whole [sc31_0]), .obj b37 .defd, .obj b39 (.row 145 .whole (l39.flatMap enc3))])⟩
    refine Run.opsEnd ?_
    refine Run.drawG plan37_1_1_0_1_0_1_0_1_1_1_0_1 ?_
    refine DrawG.fl rfl (ev_ex wantS_none (ex_load1 rfl (hH80.cells (i := 1) rfl 0 rfl) rdLe_rfl agg27)) rfl ?_
    refine DrawG.fl rfl (ev_ex wantS_none (ex_move rfl)) rfl ?_
    refine DrawG.fl rfl (ev_ex wantS_none (ex_load1 rfl (hH80.cells (i := 1) rfl 0 rfl) rdLe_rfl agg27)) rfl ?_
    refine DrawG.fl rfl (ev_ex wantS_none (ex_move rfl)) rfl ?_
    obtain ⟨x81, hx81, h⟩ := bnd_some h
    obtain ⟨p81, o81, hb81, hx81, he81⟩ := vec_elem (P := Try.prog) (t := 27) (kk := .i64) hH80 (i := 2) rfl hx81 els27
    refine DrawG.fl rfl (ev_ex wantS_none (ex_elX rfl rfl hx81)) rfl ?_
    refine DrawG.fl rfl (ev_ex wantS_none (ex_fieldAddr rfl off31_2)) rfl ?_
    refine DrawG.fl rfl (ev_ex wantS_none (ex_load1 rfl ((hH80.at (enc := enc31) (a := x81) (i := 2) rfl hb81 he81 enc31_len).fld (o := 2) rfl) rdLe_rfl agg3)) rfl ?_
    refine DrawG.fl rfl (ev_ex wantS_none (ex_move rfl)) rfl ?_
    refine DrawG.fl rfl (ev_ex wantS_none (ex_max rfl rfl)) rfl ?_
    obtain ⟨o82, ho82, h⟩ := bnd_some h
    obtain ⟨p82, hb82, hx82⟩ := vec_place (P := Try.prog) (t := 27) (kk := .i64) hH80 (i := 2) rfl ho82 els27
    refine DrawG.fl rfl (ev_ex wantS_none (ex_elX rfl rfl hx82)) rfl ?_
    refine DrawG.fl rfl (ev_ex wantS_none (ex_fieldAddr rfl off31_2)) rfl ?_
    obtain ⟨x83, hx83, h⟩ := bnd_some h
    obtain ⟨l83, hl83, h⟩ := bnd_some h
    refine DrawG.opX rfl wantS_none rfl (ExG.storeFld (o := 2) rfl rfl hH80 (i := 2) rfl hb82 hx83 hl83 sz3 rfl rfl rfl rfl enc31_len) ?_
    rintro _ M84 ⟨rfl, (hH84 : Has Fr M84 [.obj b22 (.row 3 .whole [(.int .i64 c22_0)]), .obj b28 (.row 27 .whole [s42]), .vec 31 3 l83.length s42 (l83.flatMap enc31), .obj b36 (.loop ⟨.busy, none, 37, 61, treeOf [(4, (.ptr b22 0)), (5, (.ptr b25 0)), (6, .nils), (7, (.ptr b28 0)), (13, (.fn (.func 97) [] [(.ptr b34 0), (.ptr b31 0)]))], [14, 15], (atC Try.prog 37 [1, 1, 0, 1, 0, 0]), (atC Try.prog 37 [1, 1, 0, 1, 0, 1]), b37⟩), .obj b25 (.row 3 .whole [(.int .i64 c25_0)]), .obj b34 (.row 3 .whole [(.int .i64 c34_0)]), .obj b31 (.row 22 .whole [sc31_0]), .obj b37 .defd, .obj b39 (.row 145 .whole (l39.flatMap enc3))])⟩
    refine ⟨st_nil, ?_⟩
    refine DrawG.sync ?_
    refine DrawG.nil ?_
    refine Run.inBlock ?_
    refine Run.roundEndX hH84 (i := 3) rfl rfl ?_
    intro M85 (hH85 : Has Fr M85 [.obj b22 (.row 3 .whole [(.int .i64 c22_0)]), .obj b28 (.row 27 .whole [s42]), .vec 31 3 l83.length s42 (l83.flatMap enc31), .obj b36 (.loop ⟨.ready, none, 37, 61, treeOf [(4, (.ptr b22 0)), (5, (.ptr b25 0)), (6, .nils), (7, (.ptr b28 0)), (13, (.fn (.func 97) [] [(.ptr b34 0), (.ptr b31 0)]))], [14, 15], (atC Try.prog 37 [1, 1, 0, 1, 0, 0]), (atC Try.prog 37 [1, 1, 0, 1, 0, 1]), b37⟩), .obj b25 (.row 3 .whole [(.int .i64 c25_0)]), .obj b34 (.row 3 .whole [(.int .i64 c34_0)]), .obj b31 (.row 22 .whole [sc31_0]), .obj b37 .defd, .obj b39 (.row 145 .whole (l39.flatMap enc3))])
    rcases btf (v25_f1) with hc86 | hc86
    · have h := bif_t hc86 h
      refine Run.opG (wantS_yes' rfl rfl hc86) (ex_not rfl) rfl ?_
      refine Run.opG wantS_none (ex_pickT' rfl hc86 rfl rfl) rfl ?_
      refine Run.opsEnd ?_
      exact Run.low (.cons (fle_pick [7] rfl) .nil) (Run.pick [0, 1, 4, 10, 11, 12, 32] (search_bursts_2_ok F hd1 hhd1 v10_f1 v11_f1 v12_f1 (!true) c22_0 c25_0 c34_0 c31_0 l83 l39 sv10_f1 sc31_0 b36 b22 b25 b28 s42 b34 b31 b37 b39 _ _ _ hv10_f1 hc31_0 (hH85.pick [3, 0, 4, 1, 2, 5, 6, 7, 8] rfl rfl) h))
    · have h := bif_f hc86 h
      refine Run.no (wantS_not' rfl rfl hc86) rfl ?_
      refine Run.opG wantS_none (ex_pickF' rfl hc86 rfl rfl) rfl ?_
      refine Run.opsEnd ?_
      exact Run.low (.cons (fle_pick [7] rfl) .nil) (Run.pick [0, 1, 4, 10, 11, 12, 32] (search_bursts_2_ok F hd1 hhd1 v10_f1 v11_f1 v12_f1 false c22_0 c25_0 c34_0 c31_0 l83 l39 sv10_f1 sc31_0 b36 b22 b25 b28 s42 b34 b31 b37 b39 _ _ _ hv10_f1 hc31_0 (hH85.pick [3, 0, 4, 1, 2, 5, 6, 7, 8] rfl rfl) h))
  · have h := bif_f hc75 h
    refine Run.condF' rfl hc75 ?_
    refine Run.region ?_
    refine Run.opG wantS_none (ex_load1 rfl (hH.cells (i := 1) rfl 0 rfl) rdLe_rfl agg27) rfl ?_
    refine Run.opG wantS_none (ex_move rfl) rfl ?_
    refine Run.opG wantS_none (ex_move rfl) rfl ?_
    refine Run.opG wantS_none (ex_load1 rfl (hH.cells (i := 0) rfl 0 rfl) rdLe_rfl agg3) rfl ?_
    refine Run.opG wantS_none (ex_add rfl rfl) rfl ?_
    refine Run.opG wantS_none (ex_move rfl) rfl ?_
    refine Run.opG wantS_none (ex_build (r := [(.int .i64 v8), (.int .i64 (w64 (v8 + c22_0))), (.int .i64 v9)]) rfl zer31 pls31 rfl) rfl ?_
    refine Run.opX wantS_none rfl (ExG.built (enc := enc31) (l := ([(S_api_Burst.mk v8 (w64 (v8 + c22_0)) v9)] : List S_api_Burst)) (z := 3) rfl elt27 rfl rfl rfl enc31_len hH) ?_
    rintro s88 M89 (hH89 : Has Fr M89 [.vec 31 3 ([(S_api_Burst.mk v8 (w64 (v8 + c22_0)) v9)] : List S_api_Burst).length s88 (([(S_api_Burst.mk v8 (w64 (v8 + c22_0)) v9)] : List S_api_Burst).flatMap enc31), .obj b22 (.row 3 .whole [(.int .i64 c22_0)]), .obj b28 (.row 27 .whole [s42]), .vec 31 3 l42.length s42 (l42.flatMap enc31), .obj b36 (.loop ⟨.busy, none, 37, 61, treeOf [(4, (.ptr b22 0)), (5, (.ptr b25 0)), (6, .nils), (7, (.ptr b28 0)), (13, (.fn (.func 97) [] [(.ptr b34 0), (.ptr b31 0)]))], [14, 15], (atC Try.prog 37 [1, 1, 0, 1, 0, 0]), (atC Try.prog 37 [1, 1, 0, 1, 0, 1]), b37⟩), .obj b25 (.row 3 .whole [(.int .i64 c25_0)]), .obj b34 (.row 3 .whole [(.int .i64 c34_0)]), .obj b31 (.row 22 .whole [sc31_0]), .obj b37 .defd, .obj b39 (.row 145 .whole (l39.flatMap enc3))])
    obtain ⟨l92, hl92, h⟩ := bnd_some h
    refine Run.opX wantS_none rfl (ExG.append rfl rfl hH89 (i := 3) rfl enc31_len rfl enc31_ones appt27_27 rfl (len_slc (hH89.slc (i := 0) rfl enc31_len)) (first_slc (hH89.slc (i := 0) rfl enc31_len) (rdLe_rdRow _) enc31_len) hl92) ?_
    rintro s92 M94 (hH94 : Has Fr M94 [.vec 31 3 ([(S_api_Burst.mk v8 (w64 (v8 + c22_0)) v9)] : List S_api_Burst).length s88 (([(S_api_Burst.mk v8 (w64 (v8 + c22_0)) v9)] : List S_api_Burst).flatMap enc31), .obj b22 (.row 3 .whole [(.int .i64 c22_0)]), .obj b28 (.row 27 .whole [s42]), .vec 31 3 l92.length s92 (l92.flatMap enc31), .obj b36 (.loop ⟨.busy, none, 37, 61, treeOf [(4, (.ptr b22 0)), (5, (.ptr b25 0)), (6, .nils), (7, (.ptr b28 0)), (13, (.fn (.func 97) [] [(.ptr b34 0), (.ptr b31 0)]))], [14, 15], (atC Try.prog 37 [1, 1, 0, 1, 0, 0]), (atC Try.prog 37 [1, 1, 0, 1, 0, 1]), b37⟩), .obj b25 (.row 3 .whole [(.int .i64 c25_0)]), .obj b34 (.row 3 .whole [(.int .i64 c34_0)]), .obj b31 (.row 22 .whole [sc31_0]), .obj b37 .defd, .obj b39 (.row 145 .whole (l39.flatMap enc3))])
    refine Run.opX wantS_none rfl (ExG.storeC (c' := [s92]) rfl rfl (cells_one (vec_one hH94 (i := 3) rfl)) hH94 (i := 2) rfl sz27 rfl rfl rfl (ones_cons (vec_one hH94 (i := 3) rfl) ones_nil) rfl) ?_
    rintro _ M95 ⟨rfl, (hH95 : Has Fr M95 [.vec 31 3 ([(S_api_Burst.mk v8 (w64 (v8 + c22_0)) v9)] : List S_api_Burst).length s88 (([(S_api_Burst.mk v8 (w64 (v8 + c22_0)) v9)] : List S_api_Burst).flatMap enc31), .obj b22 (.row 3 .whole [(.int .i64 c22_0)]), .obj b28 (.row 27 .whole [s92]), .vec 31 3 l92.length s92 (l92.flatMap enc31), .obj b36 (.loop ⟨.busy, none, 37, 61, treeOf [(4, (.ptr b22 0)), (5, (.ptr b25 0)), (6, .nils), (7, (.ptr b28 0)), (13, (.fn (.func 97) [] [(.ptr b34 0), (.ptr b31 0)]))], [14, 15], (atC Try.prog 37 [1, 1, 0, 1, 0, 0]), (atC Try.prog 37 [1, 1, 0, 1, 0, 1]), b37⟩), .obj b25 (.row 3 .whole [(.int .i64 c25_0)]), .obj b34 (.row 3 .whole [(.int .i64 c34_0)]), .obj b31 (.row 22 .whole [sc31_0]), .obj b37 .defd, .obj b39 (.row 145 .whole (l39.flatMap enc3))])⟩
    refine Run.opsEnd (Run.inBlock ?_)
    refine Run.roundEndX hH95 (i := 4) rfl rfl ?_
    intro M96 (hH96 : Has Fr M96 [.vec 31 3 ([(S_api_Burst.mk v8 (w64 (v8 + c22_0)) v9)] : List S_api_Burst).length s88 (([(S_api_Burst.mk v8 (w64 (v8 + c22_0)) v9)] : List S_api_Burst).flatMap enc31), .obj b22 (.row 3 .whole [(.int .i64 c22_0)]), .obj b28 (.row 27 .whole [s92]), .vec 31 3 l92.length s92 (l92.flatMap enc31), .obj b36 (.loop ⟨.ready, none, 37, 61, treeOf [(4, (.ptr b22 0)), (5, (.ptr b25 0)), (6, .nils), (7, (.ptr b28 0)), (13, (.fn (.func 97) [] [(.ptr b34 0), (.ptr b31 0)]))], [14, 15], (atC Try.prog 37 [1, 1, 0, 1, 0, 0]), (atC Try.prog 37 [1, 1, 0, 1, 0, 1]), b37⟩), .obj b25 (.row 3 .whole [(.int .i64 c25_0)]), .obj b34 (.row 3 .whole [(.int .i64 c34_0)]), .obj b31 (.row 22 .whole [sc31_0]), .obj b37 .defd, .obj b39 (.row 145 .whole (l39.flatMap enc3))])
    rcases btf (v25_f1) with hc97 | hc97
    · have h := bif_t hc97 h
      refine Run.opG (wantS_yes' rfl rfl hc97) (ex_not rfl) rfl ?_
      refine Run.opG wantS_none (ex_pickT' rfl hc97 rfl rfl) rfl ?_
      refine Run.opsEnd ?_
      exact Run.low (.cons (fle_pick [7] rfl) .nil) (Run.pick [0, 1, 4, 10, 11, 12, 32] (search_bursts_2_ok F hd1 hhd1 v10_f1 v11_f1 v12_f1 (!true) c22_0 c25_0 c34_0 c31_0 l92 l39 sv10_f1 sc31_0 b36 b22 b25 b28 s92 b34 b31 b37 b39 _ _ _ hv10_f1 hc31_0 (hH96.pick [4, 1, 5, 2, 3, 6, 7, 8, 9] rfl rfl) h))
    · have h := bif_f hc97 h
      refine Run.no (wantS_not' rfl rfl hc97) rfl ?_
      refine Run.opG wantS_none (ex_pickF' rfl hc97 rfl rfl) rfl ?_
      refine Run.opsEnd ?_
      exact Run.low (.cons (fle_pick [7] rfl) .nil) (Run.pick [0, 1, 4, 10, 11, 12, 32] (search_bursts_2_ok F hd1 hhd1 v10_f1 v11_f1 v12_f1 false c22_0 c25_0 c34_0 c31_0 l92 l39 sv10_f1 sc31_0 b36 b22 b25 b28 s92 b34 b31 b37 b39 _ _ _ hv10_f1 hc31_0 (hH96.pick [4, 1, 5, 2, 3, 6, 7, 8, 9] rfl rfl) h))

def search_bursts_1 (F : Nat) : Nat → (List Int) → Int → Int → Int → Int → Int → (List Int) → (List S_api_Burst) → (List Int) → Option ((List S_api_Burst))
  | 0, _, _, _, _, _, _, _, _, _ => none
  | N + 1, v10, v11, v12, c22_0, c25_0, c34_0, c31_0, l42, l39 =>
    bif (decide (v12 < v11)) then
      bnd (idx v10 v12) fun x46 =>
      bnd (l39[(1026 : Nat)]?) fun x47 =>
      bnd (l39[(1025 : Nat)]?) fun x48 =>
      bnd (inA x48 1024) fun o49 =>
      bnd (l39[((0 + o49 * 1) : Nat)]?) fun x50 =>
      bnd (upd l39 ((1026 : Nat) : Int) (w64 (x47 + (w64 ((w64 (x46 * x46)) - x50))))) fun l51 =>
      bnd (l51[(1025 : Nat)]?) fun x53 =>
      bnd (inA x53 1024) fun o54 =>
      bnd (upd l51 (((0 + o54 * 1) : Nat) : Int) (w64 (x46 * x46))) fun l55 =>
      bnd (l55[(1025 : Nat)]?) fun x57 =>
      bnd (l55[(1024 : Nat)]?) fun x58 =>
      bnd (nz x58) fun z59 =>
      bnd (upd l55 ((1025 : Nat) : Int) (Int.tmod (w64 (x57 + (1 : Int))) x58)) fun l60 =>
      bif (decide ((0 : Int) ≤ (w64 ((w64 (v12 + (1 : Int))) - c34_0)))) then
        bnd (l60[(1026 : Nat)]?) fun x64 =>
        bif (decide (x64 < c25_0)) then
          search_bursts_2 F (search_bursts_1 F N) v10 v11 v12 (!true) c22_0 c25_0 c34_0 c31_0 l42 l60
        else
          bif (decide ((0 : Int) ≤ (w64 ((l42.length : Int) - (1 : Int))))) then
            bnd (idx l42 (w64 ((l42.length : Int) - (1 : Int)))) fun x74 =>
            search_bursts_3 F (search_bursts_1 F N) (w64 ((w64 (v12 + (1 : Int))) - c34_0)) x64 (w64 ((l42.length : Int) - (1 : Int))) (decide ((w64 ((w64 (v12 + (1 : Int))) - c34_0)) ≤ x74.To)) v10 v11 v12 (decide ((0 : Int) ≤ (w64 ((w64 (v12 + (1 : Int))) - c34_0)))) c22_0 c25_0 c34_0 c31_0 l42 l60
          else
            search_bursts_3 F (search_bursts_1 F N) (w64 ((w64 (v12 + (1 : Int))) - c34_0)) x64 (w64 ((l42.length : Int) - (1 : Int))) false v10 v11 v12 (decide ((0 : Int) ≤ (w64 ((w64 (v12 + (1 : Int))) - c34_0)))) c22_0 c25_0 c34_0 c31_0 l42 l60
      else
        search_bursts_2 F (search_bursts_1 F N) v10 v11 v12 false c22_0 c25_0 c34_0 c31_0 l42 l60
    else
      some l42

theorem search_bursts_1_ok (F : Nat) : ∀ (N : Nat), ∀ (v10 : (List Int)) (v11 : Int) (v12 : Int) (c22_0 : Int) (c25_0 : Int) (c34_0 : Int) (c31_0 : (List Int)) (l42 : (List S_api_Burst)) (l39 : (List Int)) (sv10 : SV) (sc31_0 : SV) (b36 : Pos) (b22 : Pos) (b25 : Pos) (b28 : Pos) (s42 : SV) (b34 : Pos) (b31 : Pos) (b37 : Pos) (b39 : Pos) (Fr : Rd) (M : Mem) (r : (List S_api_Burst)) (hv10 : Slc Fr 1 (FlatR enc3) sv10 v10) (hc31_0 : Slc Fr 1 (FlatR enc3) sc31_0 c31_0) (hH : Has Fr M [.obj b36 (.loop ⟨.ready, none, 37, 61, treeOf [(4, (.ptr b22 0)), (5, (.ptr b25 0)), (6, .nils), (7, (.ptr b28 0)), (13, (.fn (.func 97) [] [(.ptr b34 0), (.ptr b31 0)]))], [14, 15], (atC Try.prog 37 [1, 1, 0, 1, 0, 0]), (atC Try.prog 37 [1, 1, 0, 1, 0, 1]), b37⟩), .obj b22 (.row 3 .whole [(.int .i64 c22_0)]), .obj b25 (.row 3 .whole [(.int .i64 c25_0)]), .obj b28 (.row 27 .whole [s42]), .vec 31 3 l42.length s42 (l42.flatMap enc31), .obj b34 (.row 3 .whole [(.int .i64 c34_0)]), .obj b31 (.row 22 .whole [sc31_0]), .obj b37 .defd, .obj b39 (.row 145 .whole (l39.flatMap enc3))]), search_bursts_1 F N v10 v11 v12 c22_0 c25_0 c34_0 c31_0 l42 l39 = some r → Run Try.prog ⟨⟨97, [], none⟩, [.mk ⟨37, [b37], none⟩ 61 (treeOf [(7, (.ptr b28 0))]) [.inRange b36, .inBlock 0, codeC Try.prog 37 [1, 1, 1]]]⟩ 34 (search_bursts_post r) [(0, (.yield b36)), (1, (.ptr b34 0)), (4, (.ptr b39 0)), (10, sv10), (11, (.int .i64 v11)), (12, (.int .i64 v12))] [codeC Try.prog 97 [1, 1, 0, 0], loopC Try.prog 97 [1, 1, 0, 0], .inBlock 0] M := by
  intro N
  induction N with
  | zero =>
    intro v10 v11 v12 c22_0 c25_0 c34_0 c31_0 l42 l39 sv10 sc31_0 b36 b22 b25 b28 s42 b34 b31 b37 b39 Fr M r hv10 hc31_0 hH h
    simp [search_bursts_1] at h
  | succ N ih =>
    intro v10 v11 v12 c22_0 c25_0 c34_0 c31_0 l42 l39 sv10 sc31_0 b36 b22 b25 b28 s42 b34 b31 b37 b39 Fr M r hv10 hc31_0 hH h
    rw [search_bursts_1] at h
    refine Run.seq (Run.region ?_)
    refine Run.opG wantS_none (ex_lss rfl rfl) rfl ?_
    refine Run.opsEnd (Run.seq ?_)
    rcases btf ((decide (v12 < v11))) with hc44 | hc44
    · have h := bif_t hc44 h
      refine Run.condT' rfl hc44 ?_
      refine Run.skip (Run.seq (Run.block (Run.seq (Run.region ?_))))
      refine Run.opG wantS_none (ex_move rfl) rfl ?_
      obtain ⟨x46, hx46, h⟩ := bnd_some h
      obtain ⟨p46, o46, _, hx46, hp46, rfl⟩ := sl_elem (P := Try.prog) (t := 22) (kk := .i64) hv10 hx46 els22
      refine Run.opG wantS_none (ex_elX rfl rfl hx46) rfl ?_
      refine Run.opG wantS_none (ex_load1 rfl (hH.ptrF hp46) rdLe_rfl agg3) rfl ?_
      refine Run.opG wantS_none (ex_assign rfl) rfl ?_
      refine Run.opG wantS_none (ex_assign rfl) rfl ?_
      refine Run.opsEnd (Run.seq (Run.region ?_))
      refine Run.opG wantS_none (ex_move rfl) rfl ?_
      refine Run.enter wantS_none (ex_call rfl mkk98 cal98) Try.func98 rfl rfl ?_
      refine Run.seq ?_
      refine Run.drawG plan98_0 ?_
      refine DrawG.fl rfl (ev_ex wantS_none (ex_move rfl)) rfl ?_
      refine DrawG.fl rfl (ev_ex wantS_none (ex_nilP rfl)) rfl ?_
      refine DrawG.fl rfl (ev_ex wantS_none (ex_fieldAddr rfl off145_3)) rfl ?_
      obtain ⟨x47, hx47, h⟩ := bnd_some h
      refine DrawG.fl rfl (ev_ex wantS_none (ex_load1 rfl (hH.arrAt (enc := enc3) (a := x47) (i := 8) rfl hx47 enc3_len) rdLe_rfl agg3)) rfl ?_
      refine DrawG.fl rfl (ev_ex wantS_none (ex_move rfl)) rfl ?_
      refine DrawG.fl rfl (ev_ex wantS_none (ex_move rfl)) rfl ?_
      refine DrawG.fl rfl (ev_ex wantS_none (ex_mul rfl rfl)) rfl ?_
      refine DrawG.fl rfl (ev_ex wantS_none (ex_move rfl)) rfl ?_
      refine DrawG.fl rfl (ev_ex wantS_none (ex_move rfl)) rfl ?_
      refine DrawG.fl rfl (ev_ex wantS_none (ex_nilP rfl)) rfl ?_
      refine DrawG.fl rfl (ev_ex wantS_none (ex_fieldAddr rfl off145_2)) rfl ?_
      obtain ⟨x48, hx48, h⟩ := bnd_some h
      refine DrawG.fl rfl (ev_ex wantS_none (ex_load1 rfl (hH.arrAt (enc := enc3) (a := x48) (i := 8) rfl hx48 enc3_len) rdLe_rfl agg3)) rfl ?_
      refine DrawG.fl rfl (ev_ex wantS_none (ex_nilP rfl)) rfl ?_
      refine DrawG.fl rfl (ev_ex wantS_none (ex_fieldAddr rfl off145_0)) rfl ?_
      obtain ⟨o49, ho49, h⟩ := bnd_some h
      refine DrawG.fl rfl (ev_ex wantS_none (ex_elX rfl rfl (arr_place (inA_natIn ho49) els143))) rfl ?_
      obtain ⟨x50, hx50, h⟩ := bnd_some h
      refine DrawG.fl rfl (ev_ex wantS_none (ex_load1 rfl (hH.arrAt (enc := enc3) (a := x50) (i := 8) rfl hx50 enc3_len) rdLe_rfl agg3)) rfl ?_
      refine DrawG.fl rfl (ev_ex wantS_none (ex_sub rfl rfl)) rfl ?_
      refine DrawG.fl rfl (ev_ex wantS_none (ex_add rfl rfl)) rfl ?_
      refine DrawG.fl rfl (ev_ex wantS_none (ex_nilP rfl)) rfl ?_
      refine DrawG.fl rfl (ev_ex wantS_none (ex_fieldAddr rfl off145_3)) rfl ?_
      obtain ⟨l51, hl51, h⟩ := bnd_some h
      refine DrawG.opX rfl wantS_none rfl (ExG.storeA rfl rfl hH (i := 8) rfl hl51 sz3 rfl enc3_len enc3_ones) ?_
      rintro _ M52 ⟨rfl, (hH52 : Has Fr M52 [.obj b36 (.loop ⟨.ready, none, 37, 61, treeOf [(4, (.ptr b22 0)), (5, (.ptr b25 0)), (6, .nils), (7, (.ptr b28 0)), (13, (.fn (.func 97) [] [(.ptr b34 0), (.ptr b31 0)]))], [14, 15], (atC Try.prog 37 [1, 1, 0, 1, 0, 0]), (atC Try.prog 37 [1, 1, 0, 1, 0, 1]), b37⟩), .obj b22 (.row 3 .whole [(.int .i64 c22_0)]), .obj b25 (.row 3 .whole [(.int .i64 c25_0)]), .obj b28 (.row 27 .whole [s42]), .vec 31 3 l42.length s42 (l42.flatMap enc31), .obj b34 (.row 3 .whole [(.int .i64 c34_0)]), .obj b31 (.row 22 .whole [sc31_0]), .obj b37 .defd, .obj b39 (.row 145 .whole (l51.flatMap enc3))])⟩
      refine ⟨st_nil, ?_⟩
      refine DrawG.sync ?_
      refine DrawG.nil ?_
      refine Run.seq ?_
      refine Run.drawG plan98_1_0 ?_
      refine DrawG.fl rfl (ev_ex wantS_none (ex_move rfl)) rfl ?_
      refine DrawG.fl rfl (ev_ex wantS_none (ex_move rfl)) rfl ?_
      refine DrawG.fl rfl (ev_ex wantS_none (ex_nilP rfl)) rfl ?_
      refine DrawG.fl rfl (ev_ex wantS_none (ex_fieldAddr rfl off145_2)) rfl ?_
      obtain ⟨x53, hx53, h⟩ := bnd_some h
      refine DrawG.fl rfl (ev_ex wantS_none (ex_load1 rfl (hH52.arrAt (enc := enc3) (a := x53) (i := 8) rfl hx53 enc3_len) rdLe_rfl agg3)) rfl ?_
      refine DrawG.fl rfl (ev_ex wantS_none (ex_move rfl)) rfl ?_
      refine DrawG.fl rfl (ev_ex wantS_none (ex_move rfl)) rfl ?_
      refine DrawG.fl rfl (ev_ex wantS_none (ex_mul rfl rfl)) rfl ?_
      refine DrawG.fl rfl (ev_ex wantS_none (ex_nilP rfl)) rfl ?_
      refine DrawG.fl rfl (ev_ex wantS_none (ex_fieldAddr rfl off145_0)) rfl ?_
      obtain ⟨o54, ho54, h⟩ := bnd_some h
      refine DrawG.fl rfl (ev_ex wantS_none (ex_elX rfl rfl (arr_place (inA_natIn ho54) els143))) rfl ?_
      obtain ⟨l55, hl55, h⟩ := bnd_some h
      refine DrawG.opX rfl wantS_none rfl (ExG.storeA rfl rfl hH52 (i := 8) rfl hl55 sz3 rfl enc3_len enc3_ones) ?_
      rintro _ M56 ⟨rfl, (hH56 : Has Fr M56 [.obj b36 (.loop ⟨.ready, none, 37, 61, treeOf [(4, (.ptr b22 0)), (5, (.ptr b25 0)), (6, .nils), (7, (.ptr b28 0)), (13, (.fn (.func 97) [] [(.ptr b34 0), (.ptr b31 0)]))], [14, 15], (atC Try.prog 37 [1, 1, 0, 1, 0, 0]), (atC Try.prog 37 [1, 1, 0, 1, 0, 1]), b37⟩), .obj b22 (.row 3 .whole [(.int .i64 c22_0)]), .obj b25 (.row 3 .whole [(.int .i64 c25_0)]), .obj b28 (.row 27 .whole [s42]), .vec 31 3 l42.length s42 (l42.flatMap enc31), .obj b34 (.row 3 .whole [(.int .i64 c34_0)]), .obj b31 (.row 22 .whole [sc31_0]), .obj b37 .defd, .obj b39 (.row 145 .whole (l55.flatMap enc3))])⟩
      refine ⟨st_nil, ?_⟩
      refine DrawG.sync ?_
      refine DrawG.nil ?_
      refine Run.drawG plan98_1_1 ?_
      refine DrawG.fl rfl (ev_ex wantS_none (ex_move rfl)) rfl ?_
      refine DrawG.fl rfl (ev_ex wantS_none (ex_move rfl)) rfl ?_
      refine DrawG.fl rfl (ev_ex wantS_none (ex_nilP rfl)) rfl ?_
      refine DrawG.fl rfl (ev_ex wantS_none (ex_fieldAddr rfl off145_2)) rfl ?_
      obtain ⟨x57, hx57, h⟩ := bnd_some h
      refine DrawG.fl rfl (ev_ex wantS_none (ex_load1 rfl (hH56.arrAt (enc := enc3) (a := x57) (i := 8) rfl hx57 enc3_len) rdLe_rfl agg3)) rfl ?_
      refine DrawG.fl rfl (ev_ex wantS_none (ex_add rfl rfl)) rfl ?_
      refine DrawG.fl rfl (ev_ex wantS_none (ex_move rfl)) rfl ?_
      refine DrawG.fl rfl (ev_ex wantS_none (ex_nilP rfl)) rfl ?_
      refine DrawG.fl rfl (ev_ex wantS_none (ex_fieldAddr rfl off145_1)) rfl ?_
      obtain ⟨x58, hx58, h⟩ := bnd_some h
      refine DrawG.fl rfl (ev_ex wantS_none (ex_load1 rfl (hH56.arrAt (enc := enc3) (a := x58) (i := 8) rfl hx58 enc3_len) rdLe_rfl agg3)) rfl ?_
      obtain ⟨z59, hz59, h⟩ := bnd_some h
      refine DrawG.fl rfl (ev_ex wantS_none (ex_rem' rfl rfl hz59)) rfl ?_
      refine DrawG.fl rfl (ev_ex wantS_none (ex_nilP rfl)) rfl ?_
      refine DrawG.fl rfl (ev_ex wantS_none (ex_fieldAddr rfl off145_2)) rfl ?_
      obtain ⟨l60, hl60, h⟩ := bnd_some h
      refine DrawG.opX rfl wantS_none rfl (ExG.storeA rfl rfl hH56 (i := 8) rfl hl60 sz3 rfl enc3_len enc3_ones) ?_
      rintro _ M61 ⟨rfl, (hH61 : Has Fr M61 [.obj b36 (.loop ⟨.ready, none, 37, 61, treeOf [(4, (.ptr b22 0)), (5, (.ptr b25 0)), (6, .nils), (7, (.ptr b28 0)), (13, (.fn (.func 97) [] [(.ptr b34 0), (.ptr b31 0)]))], [14, 15], (atC Try.prog 37 [1, 1, 0, 1, 0, 0]), (atC Try.prog 37 [1, 1, 0, 1, 0, 1]), b37⟩), .obj b22 (.row 3 .whole [(.int .i64 c22_0)]), .obj b25 (.row 3 .whole [(.int .i64 c25_0)]), .obj b28 (.row 27 .whole [s42]), .vec 31 3 l42.length s42 (l42.flatMap enc31), .obj b34 (.row 3 .whole [(.int .i64 c34_0)]), .obj b31 (.row 22 .whole [sc31_0]), .obj b37 .defd, .obj b39 (.row 145 .whole (l60.flatMap enc3))])⟩
      refine ⟨st_nil, ?_⟩
      refine DrawG.sync ?_
      refine DrawG.nil ?_
      refine Run.fallTo Try.func98 rfl res_nil rfl ?_
      refine Run.opsEnd (Run.seq (Run.region ?_))
      refine Run.opG wantS_none (ex_move rfl) rfl ?_
      refine Run.opG wantS_none (ex_add rfl rfl) rfl ?_
      refine Run.opG wantS_none (ex_load1 rfl (hH61.cells (i := 5) rfl 0 rfl) rdLe_rfl agg3) rfl ?_
      refine Run.opG wantS_none (ex_sub rfl rfl) rfl ?_
      refine Run.opG wantS_none (ex_assign rfl) rfl ?_
      refine Run.opsEnd (Run.seq (Run.region ?_))
      refine Run.opG wantS_none (ex_move rfl) rfl ?_
      refine Run.opG wantS_none (ex_geq rfl rfl) rfl ?_
      refine Run.opG wantS_none (ex_move rfl) rfl ?_
      rcases btf ((decide ((0 : Int) ≤ (w64 ((w64 (v12 + (1 : Int))) - c34_0))))) with hc62 | hc62
      · have h := bif_t hc62 h
        refine Run.opG (wantS_yes' rfl rfl hc62) (ex_move rfl) rfl ?_
        refine Run.opG (wantS_yes' rfl rfl hc62) (ex_move rfl) rfl ?_
        refine Run.opG (wantS_yes' rfl rfl hc62) (ex_fieldAddr rfl off145_3) rfl ?_
        obtain ⟨x64, hx64, h⟩ := bnd_some h
        refine Run.opG (wantS_yes' rfl rfl hc62) (ex_load1 rfl (hH61.arrAt (enc := enc3) (a := x64) (i := 8) rfl hx64 enc3_len) rdLe_rfl agg3) rfl ?_
        refine Run.round (e' := [(15, (.int .i64 x64)), (14, (.int .i64 (w64 ((w64 (v12 + (1 : Int))) - c34_0)))), (4, (.ptr b22 0)), (5, (.ptr b25 0)), (6, .nils), (7, (.ptr b28 0)), (13, (.fn (.func 97) [] [(.ptr b34 0), (.ptr b31 0)]))]) (wantS_yes' rfl rfl hc62) (ex_yield hH61 (i := 0) rfl rfl rfl rfl) (hH61.loopOf (i := 0) rfl) rfl ?_
        refine Run.seq (Run.region ?_)
        refine Run.opG wantS_none (ex_assign rfl) rfl ?_
        refine Run.opsEnd (Run.region ?_)
        refine Run.opG wantS_none (ex_assign rfl) rfl ?_
        refine Run.opsEnd ?_
        refine Run.beginX hH61 (i := 0) rfl rfl ?_
        intro M65 (hH65 : Has Fr M65 [.obj b36 (.loop ⟨.busy, none, 37, 61, treeOf [(4, (.ptr b22 0)), (5, (.ptr b25 0)), (6, .nils), (7, (.ptr b28 0)), (13, (.fn (.func 97) [] [(.ptr b34 0), (.ptr b31 0)]))], [14, 15], (atC Try.prog 37 [1, 1, 0, 1, 0, 0]), (atC Try.prog 37 [1, 1, 0, 1, 0, 1]), b37⟩), .obj b22 (.row 3 .whole [(.int .i64 c22_0)]), .obj b25 (.row 3 .whole [(.int .i64 c25_0)]), .obj b28 (.row 27 .whole [s42]), .vec 31 3 l42.length s42 (l42.flatMap enc31), .obj b34 (.row 3 .whole [(.int .i64 c34_0)]), .obj b31 (.row 22 .whole [sc31_0]), .obj b37 .defd, .obj b39 (.row 145 .whole (l60.flatMap enc3))])
        refine Run.block (Run.seq (Run.seq (Run.region ?_)))
        refine Run.opG wantS_none (ex_move rfl) rfl ?_
        refine Run.opG wantS_none (ex_load1 rfl (hH65.cells (i := 2) rfl 0 rfl) rdLe_rfl agg3) rfl ?_
        refine Run.opG wantS_none (ex_lss rfl rfl) rfl ?_
        refine Run.opsEnd ?_
        rcases btf ((decide (x64 < c25_0))) with hc66 | hc66
        · have h := bif_t hc66 h
          refine Run.condT' rfl hc66 ?_
          refine Run.exit rfl ?_
          refine Run.roundEndX hH65 (i := 0) rfl rfl ?_
          intro M67 (hH67 : Has Fr M67 [.obj b36 (.loop ⟨.ready, none, 37, 61, treeOf [(4, (.ptr b22 0)), (5, (.ptr b25 0)), (6, .nils), (7, (.ptr b28 0)), (13, (.fn (.func 97) [] [(.ptr b34 0), (.ptr b31 0)]))], [14, 15], (atC Try.prog 37 [1, 1, 0, 1, 0, 0]), (atC Try.prog 37 [1, 1, 0, 1, 0, 1]), b37⟩), .obj b22 (.row 3 .whole [(.int .i64 c22_0)]), .obj b25 (.row 3 .whole [(.int .i64 c25_0)]), .obj b28 (.row 27 .whole [s42]), .vec 31 3 l42.length s42 (l42.flatMap enc31), .obj b34 (.row 3 .whole [(.int .i64 c34_0)]), .obj b31 (.row 22 .whole [sc31_0]), .obj b37 .defd, .obj b39 (.row 145 .whole (l60.flatMap enc3))])
          refine Run.opG (wantS_yes' rfl rfl hc62) (ex_not rfl) rfl ?_
          refine Run.opG wantS_none (ex_pickT' rfl hc62 rfl rfl) rfl ?_
          refine Run.opsEnd ?_
          exact Run.low (.cons (fle_pick [7] rfl) .nil) (Run.pick [0, 1, 4, 10, 11, 12, 32] (search_bursts_2_ok F (search_bursts_1 F N) ih v10 v11 v12 (!true) c22_0 c25_0 c34_0 c31_0 l42 l60 sv10 sc31_0 b36 b22 b25 b28 s42 b34 b31 b37 b39 _ _ _ hv10 hc31_0 hH67 h))
        · have h := bif_f hc66 h
          refine Run.condF' rfl hc66 ?_
          refine Run.skip (Run.seq (Run.region ?_))
          refine Run.opG wantS_none (ex_load1 rfl (hH65.cells (i := 3) rfl 0 rfl) rdLe_rfl agg27) rfl ?_
          refine Run.opG wantS_none (ex_len' rfl (hH65.slc (i := 4) rfl enc31_len) lenk27) rfl ?_
          refine Run.opG wantS_none (ex_sub rfl rfl) rfl ?_
          refine Run.opG wantS_none (ex_assign rfl) rfl ?_
          refine Run.opsEnd (Run.seq (Run.region ?_))
          refine Run.opG wantS_none (ex_move rfl) rfl ?_
          refine Run.opG wantS_none (ex_geq rfl rfl) rfl ?_
          refine Run.opG wantS_none (ex_move rfl) rfl ?_
          rcases btf ((decide ((0 : Int) ≤ (w64 ((l42.length : Int) - (1 : Int)))))) with hc72 | hc72
          · have h := bif_t hc72 h
            refine Run.opG (wantS_yes' rfl rfl hc72) (ex_move rfl) rfl ?_
            refine Run.opG (wantS_yes' rfl rfl hc72) (ex_load1 rfl (hH65.cells (i := 3) rfl 0 rfl) rdLe_rfl agg27) rfl ?_
            refine Run.opG (wantS_yes' rfl rfl hc72) (ex_move rfl) rfl ?_
            obtain ⟨x74, hx74, h⟩ := bnd_some h
            obtain ⟨p74, o74, hb74, hx74, he74⟩ := vec_elem (P := Try.prog) (t := 27) (kk := .i64) hH65 (i := 4) rfl hx74 els27
            refine Run.opG (wantS_yes' rfl rfl hc72) (ex_elX rfl rfl hx74) rfl ?_
            refine Run.opG (wantS_yes' rfl rfl hc72) (ex_fieldAddr rfl off31_1) rfl ?_
            refine Run.opG (wantS_yes' rfl rfl hc72) (ex_load1 rfl ((hH65.at (enc := enc31) (a := x74) (i := 4) rfl hb74 he74 enc31_len).fld (o := 1) rfl) rdLe_rfl agg3) rfl ?_
            refine Run.opG (wantS_yes' rfl rfl hc72) (ex_leq rfl rfl) rfl ?_
            refine Run.opG wantS_none (ex_pickT' rfl hc72 rfl rfl) rfl ?_
            refine Run.opsEnd ?_
            exact Run.low (.cons (fle_pick [0, 1, 4, 10, 11, 12, 25] rfl) (.cons (fle_pick [7] rfl) .nil)) (Run.pick [4, 6, 7, 8, 9, 10, 32] (search_bursts_3_ok F (search_bursts_1 F N) ih (w64 ((w64 (v12 + (1 : Int))) - c34_0)) x64 (w64 ((l42.length : Int) - (1 : Int))) (decide ((w64 ((w64 (v12 + (1 : Int))) - c34_0)) ≤ x74.To)) v10 v11 v12 (decide ((0 : Int) ≤ (w64 ((w64 (v12 + (1 : Int))) - c34_0)))) c22_0 c25_0 c34_0 c31_0 l42 l60 sv10 sc31_0 b22 b28 s42 b36 b25 b34 b31 b37 b39 _ _ _ hv10 hc31_0 (hH65.pick [1, 3, 4, 0, 2, 5, 6, 7, 8] rfl rfl) h))
          · have h := bif_f hc72 h
            refine Run.no (wantS_not' rfl rfl hc72) rfl ?_
            refine Run.no (wantS_not' rfl rfl hc72) rfl ?_
            refine Run.no (wantS_not' rfl rfl hc72) rfl ?_
            refine Run.no (wantS_not' rfl rfl hc72) rfl ?_
            refine Run.no (wantS_not' rfl rfl hc72) rfl ?_
            refine Run.no (wantS_not' rfl rfl hc72) rfl ?_
            refine Run.no (wantS_not' rfl rfl hc72) rfl ?_
            refine Run.opG wantS_none (ex_pickF' rfl hc72 rfl rfl) rfl ?_
            refine Run.opsEnd ?_
            exact Run.low (.cons (fle_pick [0, 1, 4, 10, 11, 12, 25] rfl) (.cons (fle_pick [7] rfl) .nil)) (Run.pick [4, 6, 7, 8, 9, 10, 32] (search_bursts_3_ok F (search_bursts_1 F N) ih (w64 ((w64 (v12 + (1 : Int))) - c34_0)) x64 (w64 ((l42.length : Int) - (1 : Int))) false v10 v11 v12 (decide ((0 : Int) ≤ (w64 ((w64 (v12 + (1 : Int))) - c34_0)))) c22_0 c25_0 c34_0 c31_0 l42 l60 sv10 sc31_0 b22 b28 s42 b36 b25 b34 b31 b37 b39 _ _ _ hv10 hc31_0 (hH65.pick [1, 3, 4, 0, 2, 5, 6, 7, 8] rfl rfl) h))
      · have h := bif_f hc62 h
        refine Run.no (wantS_not' rfl rfl hc62) rfl ?_
        refine Run.no (wantS_not' rfl rfl hc62) rfl ?_
        refine Run.no (wantS_not' rfl rfl hc62) rfl ?_
        refine Run.no (wantS_not' rfl rfl hc62) rfl ?_
        refine Run.no (wantS_not' rfl rfl hc62) rfl ?_
        refine Run.no (wantS_not' rfl rfl hc62) rfl ?_
        refine Run.opG wantS_none (ex_pickF' rfl hc62 rfl rfl) rfl ?_
        refine Run.opsEnd ?_
        exact Run.low (.cons (fle_pick [7] rfl) .nil) (Run.pick [0, 1, 4, 10, 11, 12, 32] (search_bursts_2_ok F (search_bursts_1 F N) ih v10 v11 v12 false c22_0 c25_0 c34_0 c31_0 l42 l60 sv10 sc31_0 b36 b22 b25 b28 s42 b34 b31 b37 b39 _ _ _ hv10 hc31_0 hH61 h))
    · have h := bif_f hc44 h
      refine Run.condF' rfl hc44 ?_
      refine Run.exit rfl ?_
      refine Run.fallRange Try.func97 rfl res_nil ?_
      refine Run.endX hH (i := 0) rfl (fun hc => by cases hc) ?_
      intro M98 (hH98 : Has Fr M98 [.obj b36 (.loop ⟨.exhausted, none, 37, 61, treeOf [(4, (.ptr b22 0)), (5, (.ptr b25 0)), (6, .nils), (7, (.ptr b28 0)), (13, (.fn (.func 97) [] [(.ptr b34 0), (.ptr b31 0)]))], [14, 15], (atC Try.prog 37 [1, 1, 0, 1, 0, 0]), (atC Try.prog 37 [1, 1, 0, 1, 0, 1]), b37⟩), .obj b22 (.row 3 .whole [(.int .i64 c22_0)]), .obj b25 (.row 3 .whole [(.int .i64 c25_0)]), .obj b28 (.row 27 .whole [s42]), .vec 31 3 l42.length s42 (l42.flatMap enc31), .obj b34 (.row 3 .whole [(.int .i64 c34_0)]), .obj b31 (.row 22 .whole [sc31_0]), .obj b37 .defd, .obj b39 (.row 145 .whole (l39.flatMap enc3))])
      refine Run.inBlock (Run.seq (Run.region ?_))
      refine Run.opG wantS_none (ex_load1 rfl (hH98.cells (i := 3) rfl 0 rfl) rdLe_rfl agg27) rfl ?_
      refine Run.opG wantS_none (ex_assign rfl) rfl ?_
      refine Run.opsEnd ?_
      obtain ⟨hH99x, hS99⟩ := hH98.shut (i := 7) (ds := []) rfl
      have hH99 : Has Fr (setT M98 b37 none) [.obj b36 (.loop ⟨.exhausted, none, 37, 61, treeOf [(4, (.ptr b22 0)), (5, (.ptr b25 0)), (6, .nils), (7, (.ptr b28 0)), (13, (.fn (.func 97) [] [(.ptr b34 0), (.ptr b31 0)]))], [14, 15], (atC Try.prog 37 [1, 1, 0, 1, 0, 0]), (atC Try.prog 37 [1, 1, 0, 1, 0, 1]), b37⟩), .obj b22 (.row 3 .whole [(.int .i64 c22_0)]), .obj b25 (.row 3 .whole [(.int .i64 c25_0)]), .obj b28 (.row 27 .whole [s42]), .vec 31 3 l42.length s42 (l42.flatMap enc31), .obj b34 (.row 3 .whole [(.int .i64 c34_0)]), .obj b31 (.row 22 .whole [sc31_0]), .vec 0 0 0 .nils [], .obj b39 (.row 145 .whole (l39.flatMap enc3))] := hH99x
      cases h
      exact Run.ret Try.func37 (hS99 _ rfl) (res_tmp rfl res_nil) ⟨_, rfl, (hH99.pick [4] rfl rfl).upF (none_le _)⟩

def search_bursts (F : Nat) (a0 : (List Int)) (a1 : Int) (a2 : Int) : Option ((List S_api_Burst)) :=
  search_bursts_1 F F a0 (a0.length : Int) (0 : Int) a1 a2 a1 a0 ([] : List S_api_Burst) ((List.replicate 1027 (0 : Int)).set 1024 a1)

theorem search_bursts_ok (F : Nat) (a0 : (List Int)) (a1 : Int) (a2 : Int) (s0 : SV) (r : (List S_api_Burst)) (M : Mem) (hs0 : Slc (rd M) 1 (FlatR enc3) s0 a0) (h : search_bursts F a0 a1 a2 = some r) : CallsM Try.prog 37 [s0, (.int .i64 a1), (.int .i64 a2)] M (fun s M' => ∃ q1, s = q1 ∧ New M M' [.vec 31 3 r.length q1 (r.flatMap enc31)]) := by
  refine CallsM.fresh (Q := search_bursts_post r) Try.func37 rfl rfl ?_ (by rintro s Me ⟨q1, rfl, hx⟩ ha hw; exact ⟨_, rfl, New.of rfl hx ha hw⟩)
  rw [search_bursts] at h
  replace hs0 := hs0.mono (rdLe_frozen M) (fun _ _ h => h)
  have hH := Has.nil (frozen M)
  refine Run.seq (Run.region ?_)
  refine Run.opX wantS_none rfl (ExG.box rfl rfl hH) ?_
  rintro _ M23 ⟨b22, rfl, (hH23 : Has (ro (frozen M)) M23 [.obj b22 (.row 3 .whole [(.int .i64 a1)])])⟩
  refine Run.opX wantS_none rfl (ExG.box rfl rfl hH23) ?_
  rintro _ M26 ⟨b25, rfl, (hH26 : Has (ro (frozen M)) M26 [.obj b25 (.row 3 .whole [(.int .i64 a2)]), .obj b22 (.row 3 .whole [(.int .i64 a1)])])⟩
  refine Run.opG wantS_none (ex_assign rfl) rfl ?_
  refine Run.opsEnd (Run.seq (Run.region ?_))
  refine Run.opX wantS_none rfl (ExG.new (v := fun b => .ptr b 0) (ex_alloc zer27) hH26) ?_
  rintro _ M29 ⟨b28, rfl, (hH29 : Has (ro (frozen M)) M29 [.obj b28 (.row 27 .whole [.nils]), .obj b25 (.row 3 .whole [(.int .i64 a2)]), .obj b22 (.row 3 .whole [(.int .i64 a1)])])⟩
  refine Run.opsEnd (Run.seq (Run.seq (Run.region ?_)))
  refine Run.opG wantS_none (ex_move rfl) rfl ?_
  refine Run.opG wantS_none (ex_load1 rfl (hH29.cells (i := 2) rfl 0 rfl) rdLe_rfl agg3) rfl ?_
  refine Run.enter wantS_none (ex_call rfl mkk65 cal65) Try.func65 rfl rfl ?_
  refine Run.seq (Run.region ?_)
  refine Run.opX wantS_none rfl (ExG.box rfl (cells_one (slc_one hs0)) hH29) ?_
  rintro _ M32 ⟨b31, rfl, (hH32 : Has (ro (frozen M)) M32 [.obj b31 (.row 22 .whole [s0]), .obj b28 (.row 27 .whole [.nils]), .obj b25 (.row 3 .whole [(.int .i64 a2)]), .obj b22 (.row 3 .whole [(.int .i64 a1)])])⟩
  refine Run.opX wantS_none rfl (ExG.box rfl rfl hH32) ?_
  rintro _ M35 ⟨b34, rfl, (hH35 : Has (ro (frozen M)) M35 [.obj b34 (.row 3 .whole [(.int .i64 a1)]), .obj b31 (.row 22 .whole [s0]), .obj b28 (.row 27 .whole [.nils]), .obj b25 (.row 3 .whole [(.int .i64 a2)]), .obj b22 (.row 3 .whole [(.int .i64 a1)])])⟩
  refine Run.opG wantS_none (ex_assign rfl) rfl ?_
  refine Run.opsEnd (Run.seq (Run.region ?_))
  refine Run.opG wantS_none (ex_makeFunc rfl rfl) rfl ?_
  refine Run.opG wantS_none (ex_assign rfl) rfl ?_
  refine Run.opsEnd ?_
  refine Run.retTo Try.func65 rfl (res_tmp rfl res_nil) rfl ?_
  refine Run.opsEnd (Run.block ?_)
  refine Run.pick [4, 5, 6, 7, 13] ?_
  refine Run.rangeX rfl cal97 Try.func97 rfl rfl hH35 ?_
  intro b37 b36 M36 (hH36 : Has (ro (frozen M)) M36 [.obj b36 (.loop ⟨.ready, none, 37, 61, treeOf [(4, (.ptr b22 0)), (5, (.ptr b25 0)), (6, .nils), (7, (.ptr b28 0)), (13, (.fn (.func 97) [] [(.ptr b34 0), (.ptr b31 0)]))], [14, 15], (atC Try.prog 37 [1, 1, 0, 1, 0, 0]), (atC Try.prog 37 [1, 1, 0, 1, 0, 1]), b37⟩), .obj b37 .defd, .obj b34 (.row 3 .whole [(.int .i64 a1)]), .obj b31 (.row 22 .whole [s0]), .obj b28 (.row 27 .whole [.nils]), .obj b25 (.row 3 .whole [(.int .i64 a2)]), .obj b22 (.row 3 .whole [(.int .i64 a1)])])
  refine Run.seq (Run.region ?_)
  refine Run.opG wantS_none (ex_load1 rfl (hH36.cells (i := 2) rfl 0 rfl) rdLe_rfl agg3) rfl ?_
  refine Run.opG wantS_none (ex_build (r := ((List.replicate 1027 (0 : Int)).set 1024 a1).flatMap enc3) rfl zra145 pls145 (bld145_1 _)) rfl ?_
  refine Run.opX wantS_none rfl (ExG.new (v := fun b => .ptr b 0) (ex_alloc zra145) hH36) ?_
  rintro _ M40 ⟨b39, rfl, (hH40 : Has (ro (frozen M)) M40 [.obj b39 (.row 145 .whole ((List.replicate 1027 (0 : Int)).flatMap enc3)), .obj b36 (.loop ⟨.ready, none, 37, 61, treeOf [(4, (.ptr b22 0)), (5, (.ptr b25 0)), (6, .nils), (7, (.ptr b28 0)), (13, (.fn (.func 97) [] [(.ptr b34 0), (.ptr b31 0)]))], [14, 15], (atC Try.prog 37 [1, 1, 0, 1, 0, 0]), (atC Try.prog 37 [1, 1, 0, 1, 0, 1]), b37⟩), .obj b37 .defd, .obj b34 (.row 3 .whole [(.int .i64 a1)]), .obj b31 (.row 22 .whole [s0]), .obj b28 (.row 27 .whole [.nils]), .obj b25 (.row 3 .whole [(.int .i64 a2)]), .obj b22 (.row 3 .whole [(.int .i64 a1)])])⟩
  refine Run.opX wantS_none rfl (ExG.storeAll (l := ((List.replicate 1027 (0 : Int)).set 1024 a1)) rfl rfl hH40 (i := 0) rfl sz145 enc3_len enc3_ones (by simp) (by simp)) ?_
  rintro _ M41 ⟨rfl, (hH41 : Has (ro (frozen M)) M41 [.obj b39 (.row 145 .whole (((List.replicate 1027 (0 : Int)).set 1024 a1).flatMap enc3)), .obj b36 (.loop ⟨.ready, none, 37, 61, treeOf [(4, (.ptr b22 0)), (5, (.ptr b25 0)), (6, .nils), (7, (.ptr b28 0)), (13, (.fn (.func 97) [] [(.ptr b34 0), (.ptr b31 0)]))], [14, 15], (atC Try.prog 37 [1, 1, 0, 1, 0, 0]), (atC Try.prog 37 [1, 1, 0, 1, 0, 1]), b37⟩), .obj b37 .defd, .obj b34 (.row 3 .whole [(.int .i64 a1)]), .obj b31 (.row 22 .whole [s0]), .obj b28 (.row 27 .whole [.nils]), .obj b25 (.row 3 .whole [(.int .i64 a2)]), .obj b22 (.row 3 .whole [(.int .i64 a1)])])⟩
  refine Run.opsEnd (Run.seq (Run.region ?_))
  refine Run.opG wantS_none (ex_load1 rfl (hH41.cells (i := 4) rfl 0 rfl) rdLe_rfl agg22) rfl ?_
  refine Run.opG wantS_none (ex_len' rfl hs0 lenk22) rfl ?_
  refine Run.opG wantS_none (ex_move rfl) rfl ?_
  refine Run.opsEnd (Run.block (Run.loop ?_))
  have hH43 : Has (ro (frozen M)) M41 [.vec 31 3 ([] : List S_api_Burst).length .nils (([] : List S_api_Burst).flatMap enc31), .obj b39 (.row 145 .whole (((List.replicate 1027 (0 : Int)).set 1024 a1).flatMap enc3)), .obj b36 (.loop ⟨.ready, none, 37, 61, treeOf [(4, (.ptr b22 0)), (5, (.ptr b25 0)), (6, .nils), (7, (.ptr b28 0)), (13, (.fn (.func 97) [] [(.ptr b34 0), (.ptr b31 0)]))], [14, 15], (atC Try.prog 37 [1, 1, 0, 1, 0, 0]), (atC Try.prog 37 [1, 1, 0, 1, 0, 1]), b37⟩), .obj b37 .defd, .obj b34 (.row 3 .whole [(.int .i64 a1)]), .obj b31 (.row 22 .whole [s0]), .obj b28 (.row 27 .whole [.nils]), .obj b25 (.row 3 .whole [(.int .i64 a2)]), .obj b22 (.row 3 .whole [(.int .i64 a1)])] := hH41.nils 31 3
  exact Run.low (.cons (fle_pick [7] rfl) .nil) (Run.pick [0, 1, 4, 10, 11, 12] (search_bursts_1_ok F F a0 (a0.length : Int) (0 : Int) a1 a2 a1 a0 ([] : List S_api_Burst) ((List.replicate 1027 (0 : Int)).set 1024 a1) s0 s0 b36 b22 b25 b28 .nils b34 b31 b37 b39 _ _ _ hs0 hs0 (hH43.pick [2, 8, 7, 6, 0, 4, 5, 3, 1] rfl rfl) h))

theorem mkk37 : makeK Try.prog 37 = none := by kernel_rfl
theorem cal37 : callable Try.prog 37 = true := by kernel_rfl
abbrev search_Bursts_post (r : (List S_api_Burst) × Int) : SV → Mem → Prop := fun s Me => ∃ q1, s = (.tuple [q1, (.int .i64 r.2)]) ∧ Has (fun _ => none) Me [.vec 31 3 r.1.length q1 (r.1.flatMap enc31)]

def search_Bursts_1 (F : Nat) (v0 : (List Int)) (v1 : Int) (v2 : Int) (v20 : Bool) : Option ((List S_api_Burst) × Int) :=
  bif v20 then
    some (([] : List S_api_Burst), (8 : Int))
  else
    bnd (search_bursts F v0 v1 v2) fun r36 =>
    some (r36, (0 : Int))

theorem search_Bursts_1_ok (F : Nat) : ∀ (v0 : (List Int)) (v1 : Int) (v2 : Int) (v20 : Bool) (sv0 : SV) (Fr : Rd) (M : Mem) (r : (List S_api_Burst) × Int) (hv0 : Slc Fr 1 (FlatR enc3) sv0 v0) (hH : Has Fr M []), search_Bursts_1 F v0 v1 v2 v20 = some r → Run Try.prog ⟨⟨13, [], none⟩, []⟩ 25 (search_Bursts_post r) [(0, sv0), (1, (.int .i64 v1)), (2, (.int .i64 v2)), (20, (.bool v20))] [itemC Try.prog 13 [1, 0, 0, 1, 1, 0] 8, codeC Try.prog 13 [1, 0, 0, 1, 1, 1], .inBlock 0, codeC Try.prog 13 [1, 1]] M := by
  intro v0 v1 v2 v20 sv0 Fr M r hv0 hH h
  rw [search_Bursts_1] at h
  refine Run.opG wantS_none (ex_assign rfl) rfl ?_
  refine Run.opsEnd ?_
  rcases btf (v20) with hc31 | hc31
  · have h := bif_t hc31 h
    refine Run.condT' rfl hc31 ?_
    refine Run.seq (Run.region ?_)
    refine Run.opG wantS_none (ex_assign rfl) rfl ?_
    refine Run.opG wantS_none (ex_assign rfl) rfl ?_
    refine Run.opsEnd ?_
    have hH33 : Has Fr M [.vec 31 3 ([] : List S_api_Burst).length .nils (([] : List S_api_Burst).flatMap enc31)] := hH.nils 31 3
    cases h
    exact Run.ret Try.func13 rfl (res_tmp rfl (res_tmp rfl res_nil)) ⟨_, rfl, (hH33.pick [0] rfl rfl).upF (none_le _)⟩
  · have h := bif_f hc31 h
    refine Run.condF' rfl hc31 ?_
    refine Run.skip (Run.inBlock (Run.seq (Run.region ?_)))
    refine Run.opG wantS_none (ex_move rfl) rfl ?_
    refine Run.opG wantS_none (ex_move rfl) rfl ?_
    refine Run.opG wantS_none (ex_move rfl) rfl ?_
    obtain ⟨r36, hr36, h⟩ := bnd_some h
    refine Run.callX wantS_none (ex_call rfl mkk37 cal37) rfl (search_bursts_ok F v0 v1 v2 sv0 _ _ (hH.slcF hv0) hr36) ?_
    rintro s36_0 M38 ⟨_, rfl, hN36⟩
    have hH38 : Has Fr M38 [.vec 31 3 r36.length s36_0 (r36.flatMap enc31)] := hN36.1 _ _ hH
    refine Run.opG wantS_none (ex_assign rfl) rfl ?_
    refine Run.opG wantS_none (ex_assign rfl) rfl ?_
    refine Run.opsEnd ?_
    cases h
    exact Run.ret Try.func13 rfl (res_tmp rfl (res_tmp rfl res_nil)) ⟨_, rfl, (hH38.pick [0] rfl rfl).upF (none_le _)⟩

def search_Bursts (F : Nat) (a0 : (List Int)) (a1 : Int) (a2 : Int) : Option ((List S_api_Burst) × Int) :=
  bnd (search_isRecord F a0) fun r22 =>
  bif (!r22) then
    some (([] : List S_api_Burst), (82 : Int))
  else
    bnd (search_isFrom F (1 : Int) a1 (1024 : Int)) fun r28 =>
    bif (!r28) then
      search_Bursts_1 F a0 a1 a2 true
    else
      bnd (search_isFrom F (1 : Int) a2 (1152921504606846976 : Int)) fun r40 =>
      search_Bursts_1 F a0 a1 a2 (!r40)

theorem search_Bursts_ok (F : Nat) (a0 : (List Int)) (a1 : Int) (a2 : Int) (s0 : SV) (r : (List S_api_Burst) × Int) (M : Mem) (hs0 : Slc (rd M) 1 (FlatR enc3) s0 a0) (h : search_Bursts F a0 a1 a2 = some r) : CallsM Try.prog 13 [s0, (.int .i64 a1), (.int .i64 a2)] M (fun s M' => ∃ q1, s = (.tuple [q1, (.int .i64 r.2)]) ∧ New M M' [.vec 31 3 r.1.length q1 (r.1.flatMap enc31)]) := by
  refine CallsM.fresh (Q := search_Bursts_post r) Try.func13 rfl rfl ?_ (by rintro s Me ⟨q1, rfl, hx⟩ ha hw; exact ⟨_, rfl, New.of rfl hx ha hw⟩)
  rw [search_Bursts] at h
  replace hs0 := hs0.mono (rdLe_frozen M) (fun _ _ h => h)
  have hH := Has.nil (frozen M)
  refine Run.seq (Run.region ?_)
  refine Run.opG wantS_none (ex_assign rfl) rfl ?_
  refine Run.opG wantS_none (ex_assign rfl) rfl ?_
  refine Run.opsEnd (Run.seq (Run.block (Run.seq (Run.region ?_))))
  refine Run.opG wantS_none (ex_move rfl) rfl ?_
  obtain ⟨r22, hr22, h⟩ := bnd_some h
  refine Run.callP wantS_none (ex_call rfl mkk35 cal35) rfl (search_isRecord_ok F a0 s0 _ _ (hH.slcF hs0) hr22) ?_
  refine Run.opG wantS_none (ex_not rfl) rfl ?_
  refine Run.opG wantS_none (ex_assign rfl) rfl ?_
  refine Run.opsEnd ?_
  rcases btf ((!r22)) with hc24 | hc24
  · have h := bif_t hc24 h
    refine Run.condT' rfl hc24 ?_
    refine Run.seq (Run.region ?_)
    refine Run.opG wantS_none (ex_assign rfl) rfl ?_
    refine Run.opG wantS_none (ex_assign rfl) rfl ?_
    refine Run.opsEnd ?_
    have hH26 : Has (ro (frozen M)) (frozen M) [.vec 31 3 ([] : List S_api_Burst).length .nils (([] : List S_api_Burst).flatMap enc31)] := hH.nils 31 3
    cases h
    exact Run.ret Try.func13 rfl (res_tmp rfl (res_tmp rfl res_nil)) ⟨_, rfl, (hH26.pick [0] rfl rfl).upF (none_le _)⟩
  · have h := bif_f hc24 h
    refine Run.condF' rfl hc24 ?_
    refine Run.seq (Run.region ?_)
    refine Run.opG wantS_none (ex_move rfl) rfl ?_
    obtain ⟨r28, hr28, h⟩ := bnd_some h
    refine Run.callP wantS_none (ex_call rfl mkk36 cal36) rfl (search_isFrom_ok F (1 : Int) a1 (1024 : Int) _ _ hr28) ?_
    refine Run.opG wantS_none (ex_not rfl) rfl ?_
    refine Run.opG wantS_none (ex_move rfl) rfl ?_
    rcases btf ((!r28)) with hc30 | hc30
    · have h := bif_t hc30 h
      refine Run.no (wantS_not' rfl rfl hc30) rfl ?_
      refine Run.no (wantS_not' rfl rfl hc30) rfl ?_
      refine Run.no (wantS_not' rfl rfl hc30) rfl ?_
      refine Run.opG wantS_none (ex_pickT' rfl hc30 rfl rfl) rfl ?_
      exact Run.pick [0, 1, 2, 20] (search_Bursts_1_ok F a0 a1 a2 true s0 _ _ _ hs0 hH h)
    · have h := bif_f hc30 h
      refine Run.opG (wantS_yes' rfl rfl hc30) (ex_move rfl) rfl ?_
      obtain ⟨r40, hr40, h⟩ := bnd_some h
      refine Run.callP (wantS_yes' rfl rfl hc30) (ex_call rfl mkk36 cal36) rfl (search_isFrom_ok F (1 : Int) a2 (1152921504606846976 : Int) _ _ hr40) ?_
      refine Run.opG (wantS_yes' rfl rfl hc30) (ex_not rfl) rfl ?_
      refine Run.opG wantS_none (ex_pickF' rfl hc30 rfl rfl) rfl ?_
      exact Run.pick [0, 1, 2, 20] (search_Bursts_1_ok F a0 a1 a2 (!r40) s0 _ _ _ hs0 hH h)

theorem mkk13 : makeK Try.prog 13 = none := by kernel_rfl
theorem cal13 : callable Try.prog 13 = true := by kernel_rfl
theorem mkk12 : makeK Try.prog 12 = none := by kernel_rfl
theorem cal12 : callable Try.prog 12 = true := by kernel_rfl
abbrev ref00_In_post (r : Bool) : SV → Mem → Prop := fun s _ => s = (.bool r)

def ref00_In_1 (F : Nat) (v14 : Bool) : Option (Bool) :=
  some v14

theorem ref00_In_1_ok (F : Nat) : ∀ (v14 : Bool) (Fr : Rd) (M : Mem) (r : Bool) (hH : Has Fr M []), ref00_In_1 F v14 = some r → Run Try.prog ⟨⟨21, [], none⟩, []⟩ 15 (ref00_In_post r) [(14, (.bool v14))] [itemC Try.prog 21 [1, 0] 8, codeC Try.prog 21 [1, 1]] M := by
  intro v14 Fr M r hH h
  rw [ref00_In_1] at h
  refine Run.opG wantS_none (ex_assign rfl) rfl ?_
  refine Run.opsEnd ?_
  cases h
  exact Run.ret Try.func21 rfl (res_tmp rfl res_nil) rfl

def ref00_In (F : Nat) (a0 : Int) (a1 : Int) (a2 : Int) : Option (Bool) :=
  bif (decide (a1 ≤ a0)) then
    ref00_In_1 F (decide (a0 ≤ a2))
  else
    ref00_In_1 F false

theorem ref00_In_ok (F : Nat) (a0 : Int) (a1 : Int) (a2 : Int) (r : Bool) (M : Mem) (h : ref00_In F a0 a1 a2 = some r) : CallsM Try.prog 21 [(.int .i64 a0), (.int .i64 a1), (.int .i64 a2)] M (fun s M' => s = (.bool r) ∧ M' = M) := by
  refine CallsM.plain Try.func21 rfl rfl rfl (show Run _ _ _ (ref00_In_post r) _ _ _ from ?_)
  rw [ref00_In] at h
  have hH := Has.nil (frozen M)
  refine Run.seq (Run.region ?_)
  refine Run.opG wantS_none (ex_assign rfl) rfl ?_
  refine Run.opsEnd (Run.seq (Run.region ?_))
  refine Run.opG wantS_none (ex_move rfl) rfl ?_
  refine Run.opG wantS_none (ex_move rfl) rfl ?_
  refine Run.opG wantS_none (ex_leq rfl rfl) rfl ?_
  refine Run.opG wantS_none (ex_move rfl) rfl ?_
  rcases btf ((decide (a1 ≤ a0))) with hc21 | hc21
  · have h := bif_t hc21 h
    refine Run.opG (wantS_yes' rfl rfl hc21) (ex_move rfl) rfl ?_
    refine Run.opG (wantS_yes' rfl rfl hc21) (ex_move rfl) rfl ?_
    refine Run.opG (wantS_yes' rfl rfl hc21) (ex_leq rfl rfl) rfl ?_
    refine Run.opG wantS_none (ex_pickT' rfl hc21 rfl rfl) rfl ?_
    exact Run.pick [14] (ref00_In_1_ok F (decide (a0 ≤ a2)) _ _ _ hH h)
  · have h := bif_f hc21 h
    refine Run.no (wantS_not' rfl rfl hc21) rfl ?_
    refine Run.no (wantS_not' rfl rfl hc21) rfl ?_
    refine Run.no (wantS_not' rfl rfl hc21) rfl ?_
    refine Run.opG wantS_none (ex_pickF' rfl hc21 rfl rfl) rfl ?_
    exact Run.pick [14] (ref00_In_1_ok F false _ _ _ hH h)

theorem mkk21 : makeK Try.prog 21 = none := by kernel_rfl
theorem cal21 : callable Try.prog 21 = true := by kernel_rfl
theorem elt22 : sliceElt Try.prog 22 = some (⟨1, 8, [(.int .i64 0)], 3⟩ : Elt) := by kernel_rfl
theorem plan8_1_1_1_1_1_1_0_1_0_0_1_0_0_1_0_1_0_0_1_0_0 : planOf Try.prog (opsC (atC Try.prog 8 [1, 1, 1, 1, 1, 1, 0, 1, 0, 0, 1, 0, 0, 1, 0, 1, 0, 0, 1, 0, 0])) = some [.fl 0, .fl 1, .fl 2, .fl 3, .fl 4, .fl 5, .fl 6, .fl 7, .fl 8, .fl 9, .fl 10, .an 11 [], .sync] := by kernel_rfl
theorem off31_0 : fieldOff Try.prog 31 0 = some 0 := by kernel_rfl
theorem plan8_1_1_1_1_1_1_1_0_1_0_0_1_0_0_0 : planOf Try.prog (opsC (atC Try.prog 8 [1, 1, 1, 1, 1, 1, 1, 0, 1, 0, 0, 1, 0, 0, 0])) = some [.fl 0, .fl 1, .fl 2, .fl 3, .fl 4, .fl 5, .fl 6, .fl 7, .fl 8, .fl 9, .fl 10, .fl 11, .fl 12, .fl 13, .fl 14, .fl 15, .fl 16, .fl 17, .fl 18, .fl 19, .fl 20, .fl 21, .fl 22, .fl 23, .fl 24, .fl 25, .fl 26, .fl 27, .sync] := by kernel_rfl
abbrev law08_SearchHot_post (r : Bool) : SV → Mem → Prop := fun s _ => s = (.bool r)

def law08_SearchHot_2 (F : Nat) (v35 : Bool) : Option (Bool) :=
  some v35

theorem law08_SearchHot_2_ok (F : Nat) : ∀ (v35 : Bool) (Fr : Rd) (M : Mem) (r : Bool) (hH : Has Fr M []), law08_SearchHot_2 F v35 = some r → Run Try.prog ⟨⟨8, [], none⟩, []⟩ 151 (law08_SearchHot_post r) [(35, (.bool v35))] [itemC Try.prog 8 [1, 1, 1, 0, 1, 0, 0] 6, codeC Try.prog 8 [1, 1, 1, 0, 1, 0, 1], codeC Try.prog 8 [1, 1, 1, 1]] M := by
  intro v35 Fr M r hH h
  rw [law08_SearchHot_2] at h
  refine Run.opG wantS_none (ex_assign rfl) rfl ?_
  refine Run.opsEnd ?_
  cases h
  exact Run.ret Try.func8 rfl (res_tmp rfl res_nil) rfl

def law08_SearchHot_8 (F : Nat) (hd5 : (List Int) → Int → Int → Int → Int → Int → Int → (List S_api_Burst) → (List Int) → Option (Bool)) (v0 : (List Int)) (v1 : Int) (v2 : Int) (v10 : Int) (v11 : Int) (v12 : Int) (v14 : Int) (l27 : (List S_api_Burst)) (l39 : (List Int)) : Option (Bool) :=
  hd5 v0 v1 v2 v10 v11 v12 (w64 (v14 + (1 : Int))) l27 l39

theorem law08_SearchHot_8_ok (F : Nat) (hd5 : (List Int) → Int → Int → Int → Int → Int → Int → (List S_api_Burst) → (List Int) → Option (Bool)) (hhd5 : ∀ (v0 : (List Int)) (v1 : Int) (v2 : Int) (v10 : Int) (v11 : Int) (v12 : Int) (v14 : Int) (l27 : (List S_api_Burst)) (l39 : (List Int)) (sv0 : SV) (s27 : SV) (s39 : SV) (Fr : Rd) (M : Mem) (r : Bool) (hv0 : Slc Fr 1 (FlatR enc3) sv0 v0) (hH : Has Fr M [.vec 31 3 l27.length s27 (l27.flatMap enc31), .vec 3 1 l39.length s39 (l39.flatMap enc3)]), hd5 v0 v1 v2 v10 v11 v12 v14 l27 l39 = some r → Run Try.prog ⟨⟨8, [], none⟩, []⟩ 151 (law08_SearchHot_post r) [(0, sv0), (1, (.int .i64 v1)), (2, (.int .i64 v2)), (7, s27), (9, s39), (10, (.int .i64 v10)), (11, (.int .i64 v11)), (12, (.int .i64 v12)), (14, (.int .i64 v14))] [codeC Try.prog 8 [1, 1, 1, 1, 1, 1, 0, 1, 0, 0, 1, 0, 0, 1, 1, 0, 1, 0, 0], loopC Try.prog 8 [1, 1, 1, 1, 1, 1, 0, 1, 0, 0, 1, 0, 0, 1, 1, 0, 1, 0, 0], .inBlock 4, codeC Try.prog 8 [1, 1, 1, 1, 1, 1, 0, 1, 0, 0, 1, 0, 0, 1, 1, 1], .inBlock 1, codeC Try.prog 8 [1, 1, 1, 1, 1, 1, 0, 1, 0, 0, 1, 1], loopC Try.prog 8 [1, 1, 1, 1, 1, 1, 0, 1, 0, 0], .inBlock 0, codeC Try.prog 8 [1, 1, 1, 1, 1, 1, 1]] M) : ∀ (v0 : (List Int)) (v1 : Int) (v2 : Int) (v10 : Int) (v11 : Int) (v12 : Int) (v14 : Int) (l27 : (List S_api_Burst)) (l39 : (List Int)) (sv0 : SV) (s27 : SV) (s39 : SV) (Fr : Rd) (M : Mem) (r : Bool) (hv0 : Slc Fr 1 (FlatR enc3) sv0 v0) (hH : Has Fr M [.vec 31 3 l27.length s27 (l27.flatMap enc31), .vec 3 1 l39.length s39 (l39.flatMap enc3)]), law08_SearchHot_8 F hd5 v0 v1 v2 v10 v11 v12 v14 l27 l39 = some r → Run Try.prog ⟨⟨8, [], none⟩, []⟩ 151 (law08_SearchHot_post r) [(0, sv0), (1, (.int .i64 v1)), (2, (.int .i64 v2)), (7, s27), (9, s39), (10, (.int .i64 v10)), (11, (.int .i64 v11)), (12, (.int .i64 v12)), (14, (.int .i64 v14))] [itemC Try.prog 8 [1, 1, 1, 1, 1, 1, 0, 1, 0, 0, 1, 0, 0, 1, 1, 0, 1, 0, 0, 1, 1] 0, loopC Try.prog 8 [1, 1, 1, 1, 1, 1, 0, 1, 0, 0, 1, 0, 0, 1, 1, 0, 1, 0, 0], .inBlock 4, codeC Try.prog 8 [1, 1, 1, 1, 1, 1, 0, 1, 0, 0, 1, 0, 0, 1, 1, 1], .inBlock 1, codeC Try.prog 8 [1, 1, 1, 1, 1, 1, 0, 1, 0, 0, 1, 1], loopC Try.prog 8 [1, 1, 1, 1, 1, 1, 0, 1, 0, 0], .inBlock 0, codeC Try.prog 8 [1, 1, 1, 1, 1, 1, 1]] M := by
  intro v0 v1 v2 v10 v11 v12 v14 l27 l39 sv0 s27 s39 Fr M r hv0 hH h
  rw [law08_SearchHot_8] at h
  refine Run.opG wantS_none (ex_move rfl) rfl ?_
  refine Run.opG wantS_none (ex_add rfl rfl) rfl ?_
  refine Run.opG wantS_none (ex_assign rfl) rfl ?_
  refine Run.opsEnd (Run.inLoop ?_)
  exact Run.pick [0, 1, 2, 7, 9, 10, 11, 12, 14] (hhd5 v0 v1 v2 v10 v11 v12 (w64 (v14 + (1 : Int))) l27 l39 sv0 s27 s39 _ _ _ hv0 hH h)

def law08_SearchHot_7 (F : Nat) (hd5 : (List Int) → Int → Int → Int → Int → Int → Int → (List S_api_Burst) → (List Int) → Option (Bool)) (v0 : (List Int)) (v1 : Int) (v2 : Int) (v10 : Int) (v11 : Int) (v12 : Int) (v14 : Int) (v97 : Bool) (l27 : (List S_api_Burst)) (l39 : (List Int)) : Option (Bool) :=
  bif v97 then
    bnd (idx l39 v14) fun x54 =>
    bnd (inn l39 v14) fun o56 =>
    bnd (upd l39 o56 (max x54 v11)) fun l58 =>
    law08_SearchHot_8 F hd5 v0 v1 v2 v10 v11 (w64 (v12 + (1 : Int))) v14 l27 l58
  else
    law08_SearchHot_8 F hd5 v0 v1 v2 v10 v11 v12 v14 l27 l39

theorem law08_SearchHot_7_ok (F : Nat) (hd5 : (List Int) → Int → Int → Int → Int → Int → Int → (List S_api_Burst) → (List Int) → Option (Bool)) (hhd5 : ∀ (v0 : (List Int)) (v1 : Int) (v2 : Int) (v10 : Int) (v11 : Int) (v12 : Int) (v14 : Int) (l27 : (List S_api_Burst)) (l39 : (List Int)) (sv0 : SV) (s27 : SV) (s39 : SV) (Fr : Rd) (M : Mem) (r : Bool) (hv0 : Slc Fr 1 (FlatR enc3) sv0 v0) (hH : Has Fr M [.vec 31 3 l27.length s27 (l27.flatMap enc31), .vec 3 1 l39.length s39 (l39.flatMap enc3)]), hd5 v0 v1 v2 v10 v11 v12 v14 l27 l39 = some r → Run Try.prog ⟨⟨8, [], none⟩, []⟩ 151 (law08_SearchHot_post r) [(0, sv0), (1, (.int .i64 v1)), (2, (.int .i64 v2)), (7, s27), (9, s39), (10, (.int .i64 v10)), (11, (.int .i64 v11)), (12, (.int .i64 v12)), (14, (.int .i64 v14))] [codeC Try.prog 8 [1, 1, 1, 1, 1, 1, 0, 1, 0, 0, 1, 0, 0, 1, 1, 0, 1, 0, 0], loopC Try.prog 8 [1, 1, 1, 1, 1, 1, 0, 1, 0, 0, 1, 0, 0, 1, 1, 0, 1, 0, 0], .inBlock 4, codeC Try.prog 8 [1, 1, 1, 1, 1, 1, 0, 1, 0, 0, 1, 0, 0, 1, 1, 1], .inBlock 1, codeC Try.prog 8 [1, 1, 1, 1, 1, 1, 0, 1, 0, 0, 1, 1], loopC Try.prog 8 [1, 1, 1, 1, 1, 1, 0, 1, 0, 0], .inBlock 0, codeC Try.prog 8 [1, 1, 1, 1, 1, 1, 1]] M) : ∀ (v0 : (List Int)) (v1 : Int) (v2 : Int) (v10 : Int) (v11 : Int) (v12 : Int) (v14 : Int) (v97 : Bool) (l27 : (List S_api_Burst)) (l39 : (List Int)) (sv0 : SV) (s27 : SV) (s39 : SV) (Fr : Rd) (M : Mem) (r : Bool) (hv0 : Slc Fr 1 (FlatR enc3) sv0 v0) (hH : Has Fr M [.vec 31 3 l27.length s27 (l27.flatMap enc31), .vec 3 1 l39.length s39 (l39.flatMap enc3)]), law08_SearchHot_7 F hd5 v0 v1 v2 v10 v11 v12 v14 v97 l27 l39 = some r → Run Try.prog ⟨⟨8, [], none⟩, []⟩ 151 (law08_SearchHot_post r) [(0, sv0), (1, (.int .i64 v1)), (2, (.int .i64 v2)), (7, s27), (9, s39), (10, (.int .i64 v10)), (11, (.int .i64 v11)), (12, (.int .i64 v12)), (14, (.int .i64 v14)), (97, (.bool v97))] [codeC Try.prog 8 [1, 1, 1, 1, 1, 1, 0, 1, 0, 0, 1, 0, 0, 1, 1, 0, 1, 0, 0, 1, 0, 0, 1], .inBlock 5, codeC Try.prog 8 [1, 1, 1, 1, 1, 1, 0, 1, 0, 0, 1, 0, 0, 1, 1, 0, 1, 0, 0, 1, 1], loopC Try.prog 8 [1, 1, 1, 1, 1, 1, 0, 1, 0, 0, 1, 0, 0, 1, 1, 0, 1, 0, 0], .inBlock 4, codeC Try.prog 8 [1, 1, 1, 1, 1, 1, 0, 1, 0, 0, 1, 0, 0, 1, 1, 1], .inBlock 1, codeC Try.prog 8 [1, 1, 1, 1, 1, 1, 0, 1, 0, 0, 1, 1], loopC Try.prog 8 [1, 1, 1, 1, 1, 1, 0, 1, 0, 0], .inBlock 0, codeC Try.prog 8 [1, 1, 1, 1, 1, 1, 1]] M := by
  intro v0 v1 v2 v10 v11 v12 v14 v97 l27 l39 sv0 s27 s39 Fr M r hv0 hH h
  rw [law08_SearchHot_7] at h
  rcases btf (v97) with hc52 | hc52
  · have h := bif_t hc52 h
    refine Run.condT' rfl hc52 ?_
    refine Run.seq (Run.region ?_)
    refine Run.opG wantS_none (ex_move rfl) rfl ?_
    refine Run.opG wantS_none (ex_add rfl rfl) rfl ?_
    refine Run.opG wantS_none (ex_assign rfl) rfl ?_
    refine Run.opsEnd (Run.region ?_)
    refine Run.opG wantS_none (ex_move rfl) rfl ?_
    refine Run.opG wantS_none (ex_move rfl) rfl ?_
    refine Run.opG wantS_none (ex_move rfl) rfl ?_
    refine Run.opG wantS_none (ex_move rfl) rfl ?_
    obtain ⟨x54, hx54, h⟩ := bnd_some h
    obtain ⟨p54, o54, hb54, hx54, he54⟩ := vec_elem (P := Try.prog) (t := 22) (kk := .i64) hH (i := 1) rfl hx54 els22
    refine Run.opG wantS_none (ex_elX rfl rfl hx54) rfl ?_
    refine Run.opG wantS_none (ex_load1 rfl (hH.at (enc := enc3) (a := x54) (i := 1) rfl hb54 he54 enc3_len) rdLe_rfl agg3) rfl ?_
    refine Run.opG wantS_none (ex_move rfl) rfl ?_
    refine Run.opG wantS_none (ex_max rfl rfl) rfl ?_
    obtain ⟨o56, ho56, h⟩ := bnd_some h
    obtain ⟨p56, hb56, hx56⟩ := vec_place (P := Try.prog) (t := 22) (kk := .i64) hH (i := 1) rfl ho56 els22
    refine Run.opG wantS_none (ex_elX rfl rfl hx56) rfl ?_
    obtain ⟨l58, hl58, h⟩ := bnd_some h
    refine Run.opX wantS_none rfl (ExG.storeEl rfl rfl hH (i := 1) rfl hb56 hl58 sz3 rfl enc3_len enc3_ones) ?_
    rintro _ M59 ⟨rfl, (hH59 : Has Fr M59 [.vec 31 3 l27.length s27 (l27.flatMap enc31), .vec 3 1 l58.length s39 (l58.flatMap enc3)])⟩
    refine Run.opsEnd (Run.inBlock (Run.region ?_))
    exact Run.pick [0, 1, 2, 7, 9, 10, 11, 12, 14] (law08_SearchHot_8_ok F hd5 hhd5 v0 v1 v2 v10 v11 (w64 (v12 + (1 : Int))) v14 l27 l58 sv0 s27 s39 _ _ _ hv0 hH59 h)
  · have h := bif_f hc52 h
    refine Run.condF' rfl hc52 ?_
    refine Run.skip (Run.inBlock (Run.region ?_))
    exact Run.pick [0, 1, 2, 7, 9, 10, 11, 12, 14] (law08_SearchHot_8_ok F hd5 hhd5 v0 v1 v2 v10 v11 v12 v14 l27 l39 sv0 s27 s39 _ _ _ hv0 hH h)

def law08_SearchHot_9 (F : Nat) (hd3 : (List Int) → Int → Int → Int → (List S_api_Burst) → (List Int) → Option (Bool)) (v0 : (List Int)) (v1 : Int) (v2 : Int) (v10 : Int) (v115 : Bool) (l27 : (List S_api_Burst)) (l39 : (List Int)) : Option (Bool) :=
  bif v115 then
    some false
  else
    hd3 v0 v1 v2 (w64 (v10 + (1 : Int))) l27 l39

theorem law08_SearchHot_9_ok (F : Nat) (hd3 : (List Int) → Int → Int → Int → (List S_api_Burst) → (List Int) → Option (Bool)) (hhd3 : ∀ (v0 : (List Int)) (v1 : Int) (v2 : Int) (v10 : Int) (l27 : (List S_api_Burst)) (l39 : (List Int)) (sv0 : SV) (s27 : SV) (s39 : SV) (Fr : Rd) (M : Mem) (r : Bool) (hv0 : Slc Fr 1 (FlatR enc3) sv0 v0) (hH : Has Fr M [.vec 31 3 l27.length s27 (l27.flatMap enc31), .vec 3 1 l39.length s39 (l39.flatMap enc3)]), hd3 v0 v1 v2 v10 l27 l39 = some r → Run Try.prog ⟨⟨8, [], none⟩, []⟩ 151 (law08_SearchHot_post r) [(0, sv0), (1, (.int .i64 v1)), (2, (.int .i64 v2)), (7, s27), (9, s39), (10, (.int .i64 v10))] [codeC Try.prog 8 [1, 1, 1, 1, 1, 1, 0, 1, 0, 0], loopC Try.prog 8 [1, 1, 1, 1, 1, 1, 0, 1, 0, 0], .inBlock 0, codeC Try.prog 8 [1, 1, 1, 1, 1, 1, 1]] M) : ∀ (v0 : (List Int)) (v1 : Int) (v2 : Int) (v10 : Int) (v115 : Bool) (l27 : (List S_api_Burst)) (l39 : (List Int)) (sv0 : SV) (s27 : SV) (s39 : SV) (Fr : Rd) (M : Mem) (r : Bool) (hv0 : Slc Fr 1 (FlatR enc3) sv0 v0) (hH : Has Fr M [.vec 31 3 l27.length s27 (l27.flatMap enc31), .vec 3 1 l39.length s39 (l39.flatMap enc3)]), law08_SearchHot_9 F hd3 v0 v1 v2 v10 v115 l27 l39 = some r → Run Try.prog ⟨⟨8, [], none⟩, []⟩ 151 (law08_SearchHot_post r) [(0, sv0), (1, (.int .i64 v1)), (2, (.int .i64 v2)), (7, s27), (9, s39), (10, (.int .i64 v10)), (115, (.bool v115))] [codeC Try.prog 8 [1, 1, 1, 1, 1, 1, 0, 1, 0, 0, 1, 0, 0, 1, 1, 1, 1], .inBlock 1, codeC Try.prog 8 [1, 1, 1, 1, 1, 1, 0, 1, 0, 0, 1, 1], loopC Try.prog 8 [1, 1, 1, 1, 1, 1, 0, 1, 0, 0], .inBlock 0, codeC Try.prog 8 [1, 1, 1, 1, 1, 1, 1]] M := by
  intro v0 v1 v2 v10 v115 l27 l39 sv0 s27 s39 Fr M r hv0 hH h
  rw [law08_SearchHot_9] at h
  rcases btf (v115) with hc61 | hc61
  · have h := bif_t hc61 h
    refine Run.condT' rfl hc61 ?_
    refine Run.seq (Run.region ?_)
    refine Run.opG wantS_none (ex_assign rfl) rfl ?_
    refine Run.opsEnd ?_
    cases h
    exact Run.ret Try.func8 rfl (res_tmp rfl res_nil) rfl
  · have h := bif_f hc61 h
    refine Run.condF' rfl hc61 ?_
    refine Run.skip (Run.inBlock (Run.region ?_))
    refine Run.opG wantS_none (ex_move rfl) rfl ?_
    refine Run.opG wantS_none (ex_add rfl rfl) rfl ?_
    refine Run.opG wantS_none (ex_assign rfl) rfl ?_
    refine Run.opsEnd (Run.inLoop ?_)
    exact Run.pick [0, 1, 2, 7, 9, 10] (hhd3 v0 v1 v2 (w64 (v10 + (1 : Int))) l27 l39 sv0 s27 s39 _ _ _ hv0 hH h)

def law08_SearchHot_6 (F : Nat) (hd3 : (List Int) → Int → Int → Int → (List S_api_Burst) → (List Int) → Option (Bool)) (hd5 : (List Int) → Int → Int → Int → Int → Int → Int → (List S_api_Burst) → (List Int) → Option (Bool)) (v0 : (List Int)) (v1 : Int) (v2 : Int) (v10 : Int) (v11 : Int) (v12 : Int) (v14 : Int) (v77 : Bool) (l27 : (List S_api_Burst)) (l39 : (List Int)) : Option (Bool) :=
  bif v77 then
    bnd (idx l27 v14) fun x48 =>
    bif (decide (x48.From ≤ v10)) then
      bnd (idx l27 v14) fun x51 =>
      law08_SearchHot_7 F hd5 v0 v1 v2 v10 v11 v12 v14 (decide ((w64 (v10 + v1)) ≤ x51.To)) l27 l39
    else
      law08_SearchHot_7 F hd5 v0 v1 v2 v10 v11 v12 v14 false l27 l39
  else
    bif (decide (v2 ≤ v11)) then
      law08_SearchHot_9 F hd3 v0 v1 v2 v10 (!(v12 == (1 : Int))) l27 l39
    else
      law08_SearchHot_9 F hd3 v0 v1 v2 v10 false l27 l39

theorem law08_SearchHot_6_ok (F : Nat) (hd3 : (List Int) → Int → Int → Int → (List S_api_Burst) → (List Int) → Option (Bool)) (hhd3 : ∀ (v0 : (List Int)) (v1 : Int) (v2 : Int) (v10 : Int) (l27 : (List S_api_Burst)) (l39 : (List Int)) (sv0 : SV) (s27 : SV) (s39 : SV) (Fr : Rd) (M : Mem) (r : Bool) (hv0 : Slc Fr 1 (FlatR enc3) sv0 v0) (hH : Has Fr M [.vec 31 3 l27.length s27 (l27.flatMap enc31), .vec 3 1 l39.length s39 (l39.flatMap enc3)]), hd3 v0 v1 v2 v10 l27 l39 = some r → Run Try.prog ⟨⟨8, [], none⟩, []⟩ 151 (law08_SearchHot_post r) [(0, sv0), (1, (.int .i64 v1)), (2, (.int .i64 v2)), (7, s27), (9, s39), (10, (.int .i64 v10))] [codeC Try.prog 8 [1, 1, 1, 1, 1, 1, 0, 1, 0, 0], loopC Try.prog 8 [1, 1, 1, 1, 1, 1, 0, 1, 0, 0], .inBlock 0, codeC Try.prog 8 [1, 1, 1, 1, 1, 1, 1]] M) (hd5 : (List Int) → Int → Int → Int → Int → Int → Int → (List S_api_Burst) → (List Int) → Option (Bool)) (hhd5 : ∀ (v0 : (List Int)) (v1 : Int) (v2 : Int) (v10 : Int) (v11 : Int) (v12 : Int) (v14 : Int) (l27 : (List S_api_Burst)) (l39 : (List Int)) (sv0 : SV) (s27 : SV) (s39 : SV) (Fr : Rd) (M : Mem) (r : Bool) (hv0 : Slc Fr 1 (FlatR enc3) sv0 v0) (hH : Has Fr M [.vec 31 3 l27.length s27 (l27.flatMap enc31), .vec 3 1 l39.length s39 (l39.flatMap enc3)]), hd5 v0 v1 v2 v10 v11 v12 v14 l27 l39 = some r → Run Try.prog ⟨⟨8, [], none⟩, []⟩ 151 (law08_SearchHot_post r) [(0, sv0), (1, (.int .i64 v1)), (2, (.int .i64 v2)), (7, s27), (9, s39), (10, (.int .i64 v10)), (11, (.int .i64 v11)), (12, (.int .i64 v12)), (14, (.int .i64 v14))] [codeC Try.prog 8 [1, 1, 1, 1, 1, 1, 0, 1, 0, 0, 1, 0, 0, 1, 1, 0, 1, 0, 0], loopC Try.prog 8 [1, 1, 1, 1, 1, 1, 0, 1, 0, 0, 1, 0, 0, 1, 1, 0, 1, 0, 0], .inBlock 4, codeC Try.prog 8 [1, 1, 1, 1, 1, 1, 0, 1, 0, 0, 1, 0, 0, 1, 1, 1], .inBlock 1, codeC Try.prog 8 [1, 1, 1, 1, 1, 1, 0, 1, 0, 0, 1, 1], loopC Try.prog 8 [1, 1, 1, 1, 1, 1, 0, 1, 0, 0], .inBlock 0, codeC Try.prog 8 [1, 1, 1, 1, 1, 1, 1]] M) : ∀ (v0 : (List Int)) (v1 : Int) (v2 : Int) (v10 : Int) (v11 : Int) (v12 : Int) (v14 : Int) (v77 : Bool) (l27 : (List S_api_Burst)) (l39 : (List Int)) (sv0 : SV) (s27 : SV) (s39 : SV) (Fr : Rd) (M : Mem) (r : Bool) (hv0 : Slc Fr 1 (FlatR enc3) sv0 v0) (hH : Has Fr M [.vec 31 3 l27.length s27 (l27.flatMap enc31), .vec 3 1 l39.length s39 (l39.flatMap enc3)]), law08_SearchHot_6 F hd3 hd5 v0 v1 v2 v10 v11 v12 v14 v77 l27 l39 = some r → Run Try.prog ⟨⟨8, [], none⟩, []⟩ 151 (law08_SearchHot_post r) [(0, sv0), (1, (.int .i64 v1)), (2, (.int .i64 v2)), (7, s27), (9, s39), (10, (.int .i64 v10)), (11, (.int .i64 v11)), (12, (.int .i64 v12)), (14, (.int .i64 v14)), (77, (.bool v77))] [codeC Try.prog 8 [1, 1, 1, 1, 1, 1, 0, 1, 0, 0, 1, 0, 0, 1, 1, 0, 1, 0, 0, 0, 1], codeC Try.prog 8 [1, 1, 1, 1, 1, 1, 0, 1, 0, 0, 1, 0, 0, 1, 1, 0, 1, 0, 0, 1], loopC Try.prog 8 [1, 1, 1, 1, 1, 1, 0, 1, 0, 0, 1, 0, 0, 1, 1, 0, 1, 0, 0], .inBlock 4, codeC Try.prog 8 [1, 1, 1, 1, 1, 1, 0, 1, 0, 0, 1, 0, 0, 1, 1, 1], .inBlock 1, codeC Try.prog 8 [1, 1, 1, 1, 1, 1, 0, 1, 0, 0, 1, 1], loopC Try.prog 8 [1, 1, 1, 1, 1, 1, 0, 1, 0, 0], .inBlock 0, codeC Try.prog 8 [1, 1, 1, 1, 1, 1, 1]] M := by
  intro v0 v1 v2 v10 v11 v12 v14 v77 l27 l39 sv0 s27 s39 Fr M r hv0 hH h
  rw [law08_SearchHot_6] at h
  rcases btf (v77) with hc46 | hc46
  · have h := bif_t hc46 h
    refine Run.condT' rfl hc46 ?_
    refine Run.skip (Run.seq (Run.block (Run.seq (Run.region ?_))))
    refine Run.opG wantS_none (ex_move rfl) rfl ?_
    refine Run.opG wantS_none (ex_move rfl) rfl ?_
    obtain ⟨x48, hx48, h⟩ := bnd_some h
    obtain ⟨p48, o48, hb48, hx48, he48⟩ := vec_elem (P := Try.prog) (t := 27) (kk := .i64) hH (i := 0) rfl hx48 els27
    refine Run.opG wantS_none (ex_elX rfl rfl hx48) rfl ?_
    refine Run.opG wantS_none (ex_fieldAddr rfl off31_0) rfl ?_
    refine Run.opG wantS_none (ex_load1 rfl ((hH.at (enc := enc31) (a := x48) (i := 0) rfl hb48 he48 enc31_len).fld (o := 0) rfl) rdLe_rfl agg3) rfl ?_
    refine Run.opG wantS_none (ex_move rfl) rfl ?_
    refine Run.opG wantS_none (ex_leq rfl rfl) rfl ?_
    refine Run.opG wantS_none (ex_move rfl) rfl ?_
    rcases btf ((decide (x48.From ≤ v10))) with hc49 | hc49
    · have h := bif_t hc49 h
      refine Run.opG (wantS_yes' rfl rfl hc49) (ex_move rfl) rfl ?_
      refine Run.opG (wantS_yes' rfl rfl hc49) (ex_move rfl) rfl ?_
      refine Run.opG (wantS_yes' rfl rfl hc49) (ex_add rfl rfl) rfl ?_
      refine Run.opG (wantS_yes' rfl rfl hc49) (ex_move rfl) rfl ?_
      refine Run.opG (wantS_yes' rfl rfl hc49) (ex_move rfl) rfl ?_
      obtain ⟨x51, hx51, h⟩ := bnd_some h
      obtain ⟨p51, o51, hb51, hx51, he51⟩ := vec_elem (P := Try.prog) (t := 27) (kk := .i64) hH (i := 0) rfl hx51 els27
      refine Run.opG (wantS_yes' rfl rfl hc49) (ex_elX rfl rfl hx51) rfl ?_
      refine Run.opG (wantS_yes' rfl rfl hc49) (ex_fieldAddr rfl off31_1) rfl ?_
      refine Run.opG (wantS_yes' rfl rfl hc49) (ex_load1 rfl ((hH.at (enc := enc31) (a := x51) (i := 0) rfl hb51 he51 enc31_len).fld (o := 1) rfl) rdLe_rfl agg3) rfl ?_
      refine Run.opG (wantS_yes' rfl rfl hc49) (ex_leq rfl rfl) rfl ?_
      refine Run.opG wantS_none (ex_pickT' rfl hc49 rfl rfl) rfl ?_
      refine Run.opsEnd ?_
      exact Run.pick [0, 1, 2, 7, 9, 10, 11, 12, 14, 97] (law08_SearchHot_7_ok F hd5 hhd5 v0 v1 v2 v10 v11 v12 v14 (decide ((w64 (v10 + v1)) ≤ x51.To)) l27 l39 sv0 s27 s39 _ _ _ hv0 hH h)
    · have h := bif_f hc49 h
      refine Run.no (wantS_not' rfl rfl hc49) rfl ?_
      refine Run.no (wantS_not' rfl rfl hc49) rfl ?_
      refine Run.no (wantS_not' rfl rfl hc49) rfl ?_
      refine Run.no (wantS_not' rfl rfl hc49) rfl ?_
      refine Run.no (wantS_not' rfl rfl hc49) rfl ?_
      refine Run.no (wantS_not' rfl rfl hc49) rfl ?_
      refine Run.no (wantS_not' rfl rfl hc49) rfl ?_
      refine Run.no (wantS_not' rfl rfl hc49) rfl ?_
      refine Run.no (wantS_not' rfl rfl hc49) rfl ?_
      refine Run.opG wantS_none (ex_pickF' rfl hc49 rfl rfl) rfl ?_
      refine Run.opsEnd ?_
      exact Run.pick [0, 1, 2, 7, 9, 10, 11, 12, 14, 97] (law08_SearchHot_7_ok F hd5 hhd5 v0 v1 v2 v10 v11 v12 v14 false l27 l39 sv0 s27 s39 _ _ _ hv0 hH h)
  · have h := bif_f hc46 h
    refine Run.condF' rfl hc46 ?_
    refine Run.exit rfl (Run.seq (Run.region ?_))
    refine Run.opG wantS_none (ex_move rfl) rfl ?_
    refine Run.opG wantS_none (ex_move rfl) rfl ?_
    refine Run.opG wantS_none (ex_geq rfl rfl) rfl ?_
    refine Run.opG wantS_none (ex_move rfl) rfl ?_
    rcases btf ((decide (v2 ≤ v11))) with hc60 | hc60
    · have h := bif_t hc60 h
      refine Run.opG (wantS_yes' rfl rfl hc60) (ex_move rfl) rfl ?_
      refine Run.opG (wantS_yes' rfl rfl hc60) (ex_neq rfl rfl) rfl ?_
      refine Run.opG wantS_none (ex_pickT' rfl hc60 rfl rfl) rfl ?_
      refine Run.opsEnd ?_
      exact Run.pick [0, 1, 2, 7, 9, 10, 115] (law08_SearchHot_9_ok F hd3 hhd3 v0 v1 v2 v10 (!(v12 == (1 : Int))) l27 l39 sv0 s27 s39 _ _ _ hv0 hH h)
    · have h := bif_f hc60 h
      refine Run.no (wantS_not' rfl rfl hc60) rfl ?_
      refine Run.no (wantS_not' rfl rfl hc60) rfl ?_
      refine Run.opG wantS_none (ex_pickF' rfl hc60 rfl rfl) rfl ?_
      refine Run.opsEnd ?_
      exact Run.pick [0, 1, 2, 7, 9, 10, 115] (law08_SearchHot_9_ok F hd3 hhd3 v0 v1 v2 v10 false l27 l39 sv0 s27 s39 _ _ _ hv0 hH h)

def law08_SearchHot_5 (F : Nat) (hd3 : (List Int) → Int → Int → Int → (List S_api_Burst) → (List Int) → Option (Bool)) : Nat → (List Int) → Int → Int → Int → Int → Int → Int → (List S_api_Burst) → (List Int) → Option (Bool)
  | 0, _, _, _, _, _, _, _, _, _ => none
  | N + 1, v0, v1, v2, v10, v11, v12, v14, l27, l39 =>
    bif (decide (v14 < (l27.length : Int))) then
      law08_SearchHot_6 F hd3 (law08_SearchHot_5 F hd3 N) v0 v1 v2 v10 v11 v12 v14 (decide (v2 ≤ v11)) l27 l39
    else
      law08_SearchHot_6 F hd3 (law08_SearchHot_5 F hd3 N) v0 v1 v2 v10 v11 v12 v14 false l27 l39

theorem law08_SearchHot_5_ok (F : Nat) (hd3 : (List Int) → Int → Int → Int → (List S_api_Burst) → (List Int) → Option (Bool)) (hhd3 : ∀ (v0 : (List Int)) (v1 : Int) (v2 : Int) (v10 : Int) (l27 : (List S_api_Burst)) (l39 : (List Int)) (sv0 : SV) (s27 : SV) (s39 : SV) (Fr : Rd) (M : Mem) (r : Bool) (hv0 : Slc Fr 1 (FlatR enc3) sv0 v0) (hH : Has Fr M [.vec 31 3 l27.length s27 (l27.flatMap enc31), .vec 3 1 l39.length s39 (l39.flatMap enc3)]), hd3 v0 v1 v2 v10 l27 l39 = some r → Run Try.prog ⟨⟨8, [], none⟩, []⟩ 151 (law08_SearchHot_post r) [(0, sv0), (1, (.int .i64 v1)), (2, (.int .i64 v2)), (7, s27), (9, s39), (10, (.int .i64 v10))] [codeC Try.prog 8 [1, 1, 1, 1, 1, 1, 0, 1, 0, 0], loopC Try.prog 8 [1, 1, 1, 1, 1, 1, 0, 1, 0, 0], .inBlock 0, codeC Try.prog 8 [1, 1, 1, 1, 1, 1, 1]] M) : ∀ (N : Nat), ∀ (v0 : (List Int)) (v1 : Int) (v2 : Int) (v10 : Int) (v11 : Int) (v12 : Int) (v14 : Int) (l27 : (List S_api_Burst)) (l39 : (List Int)) (sv0 : SV) (s27 : SV) (s39 : SV) (Fr : Rd) (M : Mem) (r : Bool) (hv0 : Slc Fr 1 (FlatR enc3) sv0 v0) (hH : Has Fr M [.vec 31 3 l27.length s27 (l27.flatMap enc31), .vec 3 1 l39.length s39 (l39.flatMap enc3)]), law08_SearchHot_5 F hd3 N v0 v1 v2 v10 v11 v12 v14 l27 l39 = some r → Run Try.prog ⟨⟨8, [], none⟩, []⟩ 151 (law08_SearchHot_post r) [(0, sv0), (1, (.int .i64 v1)), (2, (.int .i64 v2)), (7, s27), (9, s39), (10, (.int .i64 v10)), (11, (.int .i64 v11)), (12, (.int .i64 v12)), (14, (.int .i64 v14))] [codeC Try.prog 8 [1, 1, 1, 1, 1, 1, 0, 1, 0, 0, 1, 0, 0, 1, 1, 0, 1, 0, 0], loopC Try.prog 8 [1, 1, 1, 1, 1, 1, 0, 1, 0, 0, 1, 0, 0, 1, 1, 0, 1, 0, 0], .inBlock 4, codeC Try.prog 8 [1, 1, 1, 1, 1, 1, 0, 1, 0, 0, 1, 0, 0, 1, 1, 1], .inBlock 1, codeC Try.prog 8 [1, 1, 1, 1, 1, 1, 0, 1, 0, 0, 1, 1], loopC Try.prog 8 [1, 1, 1, 1, 1, 1, 0, 1, 0, 0], .inBlock 0, codeC Try.prog 8 [1, 1, 1, 1, 1, 1, 1]] M := by
  intro N
  induction N with
  | zero =>
    intro v0 v1 v2 v10 v11 v12 v14 l27 l39 sv0 s27 s39 Fr M r hv0 hH h
    simp [law08_SearchHot_5] at h
  | succ N ih =>
    intro v0 v1 v2 v10 v11 v12 v14 l27 l39 sv0 s27 s39 Fr M r hv0 hH h
    rw [law08_SearchHot_5] at h
    refine Run.seq (Run.seq (Run.region ?_))
    refine Run.opG wantS_none (ex_move rfl) rfl ?_
    refine Run.opG wantS_none (ex_move rfl) rfl ?_
    refine Run.opG wantS_none (ex_len' rfl (hH.slc (i := 0) rfl enc31_len) lenk27) rfl ?_
    refine Run.opG wantS_none (ex_lss rfl rfl) rfl ?_
    refine Run.opG wantS_none (ex_move rfl) rfl ?_
    rcases btf ((decide (v14 < (l27.length : Int)))) with hc45 | hc45
    · have h := bif_t hc45 h
      refine Run.opG (wantS_yes' rfl rfl hc45) (ex_move rfl) rfl ?_
      refine Run.opG (wantS_yes' rfl rfl hc45) (ex_move rfl) rfl ?_
      refine Run.opG (wantS_yes' rfl rfl hc45) (ex_geq rfl rfl) rfl ?_
      refine Run.opG wantS_none (ex_pickT' rfl hc45 rfl rfl) rfl ?_
      refine Run.opsEnd ?_
      exact Run.pick [0, 1, 2, 7, 9, 10, 11, 12, 14, 77] (law08_SearchHot_6_ok F hd3 hhd3 (law08_SearchHot_5 F hd3 N) ih v0 v1 v2 v10 v11 v12 v14 (decide (v2 ≤ v11)) l27 l39 sv0 s27 s39 _ _ _ hv0 hH h)
    · have h := bif_f hc45 h
      refine Run.no (wantS_not' rfl rfl hc45) rfl ?_
      refine Run.no (wantS_not' rfl rfl hc45) rfl ?_
      refine Run.no (wantS_not' rfl rfl hc45) rfl ?_
      refine Run.opG wantS_none (ex_pickF' rfl hc45 rfl rfl) rfl ?_
      refine Run.opsEnd ?_
      exact Run.pick [0, 1, 2, 7, 9, 10, 11, 12, 14, 77] (law08_SearchHot_6_ok F hd3 hhd3 (law08_SearchHot_5 F hd3 N) ih v0 v1 v2 v10 v11 v12 v14 false l27 l39 sv0 s27 s39 _ _ _ hv0 hH h)

def law08_SearchHot_4 (F : Nat) (hd3 : (List Int) → Int → Int → Int → (List S_api_Burst) → (List Int) → Option (Bool)) : Nat → (List Int) → Int → Int → Int → Int → Int → Int → (List S_api_Burst) → (List Int) → Option (Bool)
  | 0, _, _, _, _, _, _, _, _, _ => none
  | N + 1, v0, v1, v2, v10, v11, v12, v13, l27, l39 =>
    bif (decide (v13 < (w64 (v10 + v1)))) then
      bnd (idx v0 v13) fun x43 =>
      bnd (idx v0 v13) fun x44 =>
      (law08_SearchHot_4 F hd3 N) v0 v1 v2 v10 (w64 (v11 + (w64 (x43 * x44)))) v12 (w64 (v13 + (1 : Int))) l27 l39
    else
      law08_SearchHot_5 F hd3 F v0 v1 v2 v10 v11 v12 (0 : Int) l27 l39

theorem law08_SearchHot_4_ok (F : Nat) (hd3 : (List Int) → Int → Int → Int → (List S_api_Burst) → (List Int) → Option (Bool)) (hhd3 : ∀ (v0 : (List Int)) (v1 : Int) (v2 : Int) (v10 : Int) (l27 : (List S_api_Burst)) (l39 : (List Int)) (sv0 : SV) (s27 : SV) (s39 : SV) (Fr : Rd) (M : Mem) (r : Bool) (hv0 : Slc Fr 1 (FlatR enc3) sv0 v0) (hH : Has Fr M [.vec 31 3 l27.length s27 (l27.flatMap enc31), .vec 3 1 l39.length s39 (l39.flatMap enc3)]), hd3 v0 v1 v2 v10 l27 l39 = some r → Run Try.prog ⟨⟨8, [], none⟩, []⟩ 151 (law08_SearchHot_post r) [(0, sv0), (1, (.int .i64 v1)), (2, (.int .i64 v2)), (7, s27), (9, s39), (10, (.int .i64 v10))] [codeC Try.prog 8 [1, 1, 1, 1, 1, 1, 0, 1, 0, 0], loopC Try.prog 8 [1, 1, 1, 1, 1, 1, 0, 1, 0, 0], .inBlock 0, codeC Try.prog 8 [1, 1, 1, 1, 1, 1, 1]] M) : ∀ (N : Nat), ∀ (v0 : (List Int)) (v1 : Int) (v2 : Int) (v10 : Int) (v11 : Int) (v12 : Int) (v13 : Int) (l27 : (List S_api_Burst)) (l39 : (List Int)) (sv0 : SV) (s27 : SV) (s39 : SV) (Fr : Rd) (M : Mem) (r : Bool) (hv0 : Slc Fr 1 (FlatR enc3) sv0 v0) (hH : Has Fr M [.vec 31 3 l27.length s27 (l27.flatMap enc31), .vec 3 1 l39.length s39 (l39.flatMap enc3)]), law08_SearchHot_4 F hd3 N v0 v1 v2 v10 v11 v12 v13 l27 l39 = some r → Run Try.prog ⟨⟨8, [], none⟩, []⟩ 151 (law08_SearchHot_post r) [(0, sv0), (1, (.int .i64 v1)), (2, (.int .i64 v2)), (7, s27), (9, s39), (10, (.int .i64 v10)), (11, (.int .i64 v11)), (12, (.int .i64 v12)), (13, (.int .i64 v13))] [codeC Try.prog 8 [1, 1, 1, 1, 1, 1, 0, 1, 0, 0, 1, 0, 0, 1, 0, 1, 0, 0], loopC Try.prog 8 [1, 1, 1, 1, 1, 1, 0, 1, 0, 0, 1, 0, 0, 1, 0, 1, 0, 0], .inBlock 2, codeC Try.prog 8 [1, 1, 1, 1, 1, 1, 0, 1, 0, 0, 1, 0, 0, 1, 1], .inBlock 1, codeC Try.prog 8 [1, 1, 1, 1, 1, 1, 0, 1, 0, 0, 1, 1], loopC Try.prog 8 [1, 1, 1, 1, 1, 1, 0, 1, 0, 0], .inBlock 0, codeC Try.prog 8 [1, 1, 1, 1, 1, 1, 1]] M := by
  intro N
  induction N with
  | zero =>
    intro v0 v1 v2 v10 v11 v12 v13 l27 l39 sv0 s27 s39 Fr M r hv0 hH h
    simp [law08_SearchHot_4] at h
  | succ N ih =>
    intro v0 v1 v2 v10 v11 v12 v13 l27 l39 sv0 s27 s39 Fr M r hv0 hH h
    rw [law08_SearchHot_4] at h
    refine Run.seq (Run.seq (Run.region ?_))
    refine Run.opG wantS_none (ex_move rfl) rfl ?_
    refine Run.opG wantS_none (ex_move rfl) rfl ?_
    refine Run.opG wantS_none (ex_move rfl) rfl ?_
    refine Run.opG wantS_none (ex_add rfl rfl) rfl ?_
    refine Run.opG wantS_none (ex_lss rfl rfl) rfl ?_
    refine Run.opsEnd ?_
    rcases btf ((decide (v13 < (w64 (v10 + v1))))) with hc42 | hc42
    · have h := bif_t hc42 h
      refine Run.condT' rfl hc42 ?_
      refine Run.skip (Run.seq (Run.block ?_))
      refine Run.drawG plan8_1_1_1_1_1_1_0_1_0_0_1_0_0_1_0_1_0_0_1_0_0 ?_
      refine DrawG.fl rfl (ev_ex wantS_none (ex_move rfl)) rfl ?_
      refine DrawG.fl rfl (ev_ex wantS_none (ex_move rfl)) rfl ?_
      refine DrawG.fl rfl (ev_ex wantS_none (ex_move rfl)) rfl ?_
      obtain ⟨x43, hx43, h⟩ := bnd_some h
      obtain ⟨p43, o43, _, hx43, hp43, rfl⟩ := sl_elem (P := Try.prog) (t := 22) (kk := .i64) hv0 hx43 els22
      refine DrawG.fl rfl (ev_ex wantS_none (ex_elX rfl rfl hx43)) rfl ?_
      refine DrawG.fl rfl (ev_ex wantS_none (ex_load1 rfl (hH.ptrF hp43) rdLe_rfl agg3)) rfl ?_
      refine DrawG.fl rfl (ev_ex wantS_none (ex_move rfl)) rfl ?_
      refine DrawG.fl rfl (ev_ex wantS_none (ex_move rfl)) rfl ?_
      obtain ⟨x44, hx44, h⟩ := bnd_some h
      obtain ⟨p44, o44, _, hx44, hp44, rfl⟩ := sl_elem (P := Try.prog) (t := 22) (kk := .i64) hv0 hx44 els22
      refine DrawG.fl rfl (ev_ex wantS_none (ex_elX rfl rfl hx44)) rfl ?_
      refine DrawG.fl rfl (ev_ex wantS_none (ex_load1 rfl (hH.ptrF hp44) rdLe_rfl agg3)) rfl ?_
      refine DrawG.fl rfl (ev_ex wantS_none (ex_mul rfl rfl)) rfl ?_
      refine DrawG.fl rfl (ev_ex wantS_none (ex_add rfl rfl)) rfl ?_
      refine DrawG.val rfl wantS_none (ex_assign rfl) rfl st_nil ?_
      refine DrawG.sync ?_
      refine DrawG.nil ?_
      refine Run.inBlock (Run.region ?_)
      refine Run.opG wantS_none (ex_move rfl) rfl ?_
      refine Run.opG wantS_none (ex_add rfl rfl) rfl ?_
      refine Run.opG wantS_none (ex_assign rfl) rfl ?_
      refine Run.opsEnd (Run.inLoop ?_)
      exact Run.pick [0, 1, 2, 7, 9, 10, 11, 12, 13] (ih v0 v1 v2 v10 (w64 (v11 + (w64 (x43 * x44)))) v12 (w64 (v13 + (1 : Int))) l27 l39 sv0 s27 s39 _ _ _ hv0 hH h)
    · have h := bif_f hc42 h
      refine Run.condF' rfl hc42 ?_
      refine Run.exit rfl (Run.seq (Run.seq (Run.region ?_)))
      refine Run.opG wantS_none (ex_assign rfl) rfl ?_
      refine Run.opsEnd (Run.block (Run.loop ?_))
      exact Run.pick [0, 1, 2, 7, 9, 10, 11, 12, 14] (law08_SearchHot_5_ok F hd3 hhd3 F v0 v1 v2 v10 v11 v12 (0 : Int) l27 l39 sv0 s27 s39 _ _ _ hv0 hH h)

def law08_SearchHot_11 (F : Nat) (hd10 : Int → (List S_api_Burst) → (List Int) → Option (Bool)) (v15 : Int) (v149 : Bool) (l27 : (List S_api_Burst)) (l39 : (List Int)) : Option (Bool) :=
  bif v149 then
    some false
  else
    hd10 (w64 (v15 + (1 : Int))) l27 l39

theorem law08_SearchHot_11_ok (F : Nat) (hd10 : Int → (List S_api_Burst) → (List Int) → Option (Bool)) (hhd10 : ∀ (v15 : Int) (l27 : (List S_api_Burst)) (l39 : (List Int)) (s27 : SV) (s39 : SV) (Fr : Rd) (M : Mem) (r : Bool) (hH : Has Fr M [.vec 31 3 l27.length s27 (l27.flatMap enc31), .vec 3 1 l39.length s39 (l39.flatMap enc3)]), hd10 v15 l27 l39 = some r → Run Try.prog ⟨⟨8, [], none⟩, []⟩ 151 (law08_SearchHot_post r) [(7, s27), (9, s39), (15, (.int .i64 v15))] [codeC Try.prog 8 [1, 1, 1, 1, 1, 1, 1, 0, 1, 0, 0], loopC Try.prog 8 [1, 1, 1, 1, 1, 1, 1, 0, 1, 0, 0], .inBlock 6, codeC Try.prog 8 [1, 1, 1, 1, 1, 1, 1, 1]] M) : ∀ (v15 : Int) (v149 : Bool) (l27 : (List S_api_Burst)) (l39 : (List Int)) (s27 : SV) (s39 : SV) (Fr : Rd) (M : Mem) (r : Bool) (hH : Has Fr M [.vec 31 3 l27.length s27 (l27.flatMap enc31), .vec 3 1 l39.length s39 (l39.flatMap enc3)]), law08_SearchHot_11 F hd10 v15 v149 l27 l39 = some r → Run Try.prog ⟨⟨8, [], none⟩, []⟩ 151 (law08_SearchHot_post r) [(7, s27), (9, s39), (15, (.int .i64 v15)), (149, (.bool v149))] [codeC Try.prog 8 [1, 1, 1, 1, 1, 1, 1, 0, 1, 0, 0, 1, 0, 0, 1], .inBlock 7, codeC Try.prog 8 [1, 1, 1, 1, 1, 1, 1, 0, 1, 0, 0, 1, 1], loopC Try.prog 8 [1, 1, 1, 1, 1, 1, 1, 0, 1, 0, 0], .inBlock 6, codeC Try.prog 8 [1, 1, 1, 1, 1, 1, 1, 1]] M := by
  intro v15 v149 l27 l39 s27 s39 Fr M r hH h
  rw [law08_SearchHot_11] at h
  rcases btf (v149) with hc66 | hc66
  · have h := bif_t hc66 h
    refine Run.condT' rfl hc66 ?_
    refine Run.seq (Run.region ?_)
    refine Run.opG wantS_none (ex_assign rfl) rfl ?_
    refine Run.opsEnd ?_
    cases h
    exact Run.ret Try.func8 rfl (res_tmp rfl res_nil) rfl
  · have h := bif_f hc66 h
    refine Run.condF' rfl hc66 ?_
    refine Run.skip (Run.inBlock (Run.region ?_))
    refine Run.opG wantS_none (ex_move rfl) rfl ?_
    refine Run.opG wantS_none (ex_add rfl rfl) rfl ?_
    refine Run.opG wantS_none (ex_assign rfl) rfl ?_
    refine Run.opsEnd (Run.inLoop ?_)
    exact Run.pick [7, 9, 15] (hhd10 (w64 (v15 + (1 : Int))) l27 l39 s27 s39 _ _ _ hH h)

def law08_SearchHot_10 (F : Nat) : Nat → Int → (List S_api_Burst) → (List Int) → Option (Bool)
  | 0, _, _, _ => none
  | N + 1, v15, l27, l39 =>
    bif (decide (v15 < (l27.length : Int))) then
      bnd (idx l39 v15) fun x63 =>
      bnd (idx l27 v15) fun x64 =>
      bif (!(x63 == x64.Peak)) then
        law08_SearchHot_11 F (law08_SearchHot_10 F N) v15 true l27 l39
      else
        bif (decide ((0 : Int) < v15)) then
          bnd (idx l27 (w64 (v15 - (1 : Int)))) fun x68 =>
          bnd (idx l27 v15) fun x69 =>
          law08_SearchHot_11 F (law08_SearchHot_10 F N) v15 (decide (x69.From ≤ x68.To)) l27 l39
        else
          law08_SearchHot_11 F (law08_SearchHot_10 F N) v15 false l27 l39
    else
      bnd (works F) fun r71 =>
      some r71

theorem law08_SearchHot_10_ok (F : Nat) : ∀ (N : Nat), ∀ (v15 : Int) (l27 : (List S_api_Burst)) (l39 : (List Int)) (s27 : SV) (s39 : SV) (Fr : Rd) (M : Mem) (r : Bool) (hH : Has Fr M [.vec 31 3 l27.length s27 (l27.flatMap enc31), .vec 3 1 l39.length s39 (l39.flatMap enc3)]), law08_SearchHot_10 F N v15 l27 l39 = some r → Run Try.prog ⟨⟨8, [], none⟩, []⟩ 151 (law08_SearchHot_post r) [(7, s27), (9, s39), (15, (.int .i64 v15))] [codeC Try.prog 8 [1, 1, 1, 1, 1, 1, 1, 0, 1, 0, 0], loopC Try.prog 8 [1, 1, 1, 1, 1, 1, 1, 0, 1, 0, 0], .inBlock 6, codeC Try.prog 8 [1, 1, 1, 1, 1, 1, 1, 1]] M := by
  intro N
  induction N with
  | zero =>
    intro v15 l27 l39 s27 s39 Fr M r hH h
    simp [law08_SearchHot_10] at h
  | succ N ih =>
    intro v15 l27 l39 s27 s39 Fr M r hH h
    rw [law08_SearchHot_10] at h
    refine Run.seq (Run.seq (Run.region ?_))
    refine Run.opG wantS_none (ex_move rfl) rfl ?_
    refine Run.opG wantS_none (ex_move rfl) rfl ?_
    refine Run.opG wantS_none (ex_len' rfl (hH.slc (i := 0) rfl enc31_len) lenk27) rfl ?_
    refine Run.opG wantS_none (ex_lss rfl rfl) rfl ?_
    refine Run.opsEnd ?_
    rcases btf ((decide (v15 < (l27.length : Int)))) with hc62 | hc62
    · have h := bif_t hc62 h
      refine Run.condT' rfl hc62 ?_
      refine Run.skip (Run.seq (Run.block (Run.seq ?_)))
      refine Run.drawG plan8_1_1_1_1_1_1_1_0_1_0_0_1_0_0_0 ?_
      refine DrawG.fl rfl (ev_ex wantS_none (ex_move rfl)) rfl ?_
      refine DrawG.fl rfl (ev_ex wantS_none (ex_move rfl)) rfl ?_
      obtain ⟨x63, hx63, h⟩ := bnd_some h
      obtain ⟨p63, o63, hb63, hx63, he63⟩ := vec_elem (P := Try.prog) (t := 22) (kk := .i64) hH (i := 1) rfl hx63 els22
      refine DrawG.fl rfl (ev_ex wantS_none (ex_elX rfl rfl hx63)) rfl ?_
      refine DrawG.fl rfl (ev_ex wantS_none (ex_load1 rfl (hH.at (enc := enc3) (a := x63) (i := 1) rfl hb63 he63 enc3_len) rdLe_rfl agg3)) rfl ?_
      refine DrawG.fl rfl (ev_ex wantS_none (ex_move rfl)) rfl ?_
      refine DrawG.fl rfl (ev_ex wantS_none (ex_move rfl)) rfl ?_
      obtain ⟨x64, hx64, h⟩ := bnd_some h
      obtain ⟨p64, o64, hb64, hx64, he64⟩ := vec_elem (P := Try.prog) (t := 27) (kk := .i64) hH (i := 0) rfl hx64 els27
      refine DrawG.fl rfl (ev_ex wantS_none (ex_elX rfl rfl hx64)) rfl ?_
      refine DrawG.fl rfl (ev_ex wantS_none (ex_fieldAddr rfl off31_2)) rfl ?_
      refine DrawG.fl rfl (ev_ex wantS_none (ex_load1 rfl ((hH.at (enc := enc31) (a := x64) (i := 0) rfl hb64 he64 enc31_len).fld (o := 2) rfl) rdLe_rfl agg3)) rfl ?_
      refine DrawG.fl rfl (ev_ex wantS_none (ex_neq rfl rfl)) rfl ?_
      refine DrawG.fl rfl (ev_ex wantS_none (ex_move rfl)) rfl ?_
      rcases btf ((!(x63 == x64.Peak))) with hc65 | hc65
      · have h := bif_t hc65 h
        refine DrawG.fl rfl (ev_no (wantS_not' rfl rfl hc65)) rfl ?_
        refine DrawG.fl rfl (ev_no (wantS_not' rfl rfl hc65)) rfl ?_
        refine DrawG.fl rfl (ev_no (wantS_not' rfl rfl hc65)) rfl ?_
        refine DrawG.fl rfl (ev_no (wantS_skip rfl rfl)) rfl ?_
        refine DrawG.fl rfl (ev_no (wantS_skip rfl rfl)) rfl ?_
        refine DrawG.fl rfl (ev_no (wantS_skip rfl rfl)) rfl ?_
        refine DrawG.fl rfl (ev_no (wantS_skip rfl rfl)) rfl ?_
        refine DrawG.fl rfl (ev_no (wantS_skip rfl rfl)) rfl ?_
        refine DrawG.fl rfl (ev_no (wantS_skip rfl rfl)) rfl ?_
        refine DrawG.fl rfl (ev_no (wantS_skip rfl rfl)) rfl ?_
        refine DrawG.fl rfl (ev_no (wantS_skip rfl rfl)) rfl ?_
        refine DrawG.fl rfl (ev_no (wantS_skip rfl rfl)) rfl ?_
        refine DrawG.fl rfl (ev_no (wantS_skip rfl rfl)) rfl ?_
        refine DrawG.fl rfl (ev_no (wantS_skip rfl rfl)) rfl ?_
        refine DrawG.fl rfl (ev_no (wantS_skip rfl rfl)) rfl ?_
        refine DrawG.fl rfl (ev_no (wantS_not' rfl rfl hc65)) rfl ?_
        refine DrawG.fl rfl (ev_ex wantS_none (ex_pickT' rfl hc65 rfl rfl)) rfl ?_
        refine DrawG.sync ?_
        refine DrawG.nil ?_
        exact Run.pick [7, 9, 15, 149] (law08_SearchHot_11_ok F (law08_SearchHot_10 F N) ih v15 true l27 l39 s27 s39 _ _ _ hH h)
      · have h := bif_f hc65 h
        refine DrawG.fl rfl (ev_ex (wantS_yes' rfl rfl hc65) (ex_move rfl)) rfl ?_
        refine DrawG.fl rfl (ev_ex (wantS_yes' rfl rfl hc65) (ex_gtr rfl rfl)) rfl ?_
        refine DrawG.fl rfl (ev_ex (wantS_yes' rfl rfl hc65) (ex_move rfl)) rfl ?_
        rcases btf ((decide ((0 : Int) < v15))) with hc67 | hc67
        · have h := bif_t hc67 h
          refine DrawG.fl rfl (ev_ex (wantS_yes' rfl rfl hc67) (ex_move rfl)) rfl ?_
          refine DrawG.fl rfl (ev_ex (wantS_yes' rfl rfl hc67) (ex_move rfl)) rfl ?_
          refine DrawG.fl rfl (ev_ex (wantS_yes' rfl rfl hc67) (ex_sub rfl rfl)) rfl ?_
          obtain ⟨x68, hx68, h⟩ := bnd_some h
          obtain ⟨p68, o68, hb68, hx68, he68⟩ := vec_elem (P := Try.prog) (t := 27) (kk := .i64) hH (i := 0) rfl hx68 els27
          refine DrawG.fl rfl (ev_ex (wantS_yes' rfl rfl hc67) (ex_elX rfl rfl hx68)) rfl ?_
          refine DrawG.fl rfl (ev_ex (wantS_yes' rfl rfl hc67) (ex_fieldAddr rfl off31_1)) rfl ?_
          refine DrawG.fl rfl (ev_ex (wantS_yes' rfl rfl hc67) (ex_load1 rfl ((hH.at (enc := enc31) (a := x68) (i := 0) rfl hb68 he68 enc31_len).fld (o := 1) rfl) rdLe_rfl agg3)) rfl ?_
          refine DrawG.fl rfl (ev_ex (wantS_yes' rfl rfl hc67) (ex_move rfl)) rfl ?_
          refine DrawG.fl rfl (ev_ex (wantS_yes' rfl rfl hc67) (ex_move rfl)) rfl ?_
          obtain ⟨x69, hx69, h⟩ := bnd_some h
          obtain ⟨p69, o69, hb69, hx69, he69⟩ := vec_elem (P := Try.prog) (t := 27) (kk := .i64) hH (i := 0) rfl hx69 els27
          refine DrawG.fl rfl (ev_ex (wantS_yes' rfl rfl hc67) (ex_elX rfl rfl hx69)) rfl ?_
          refine DrawG.fl rfl (ev_ex (wantS_yes' rfl rfl hc67) (ex_fieldAddr rfl off31_0)) rfl ?_
          refine DrawG.fl rfl (ev_ex (wantS_yes' rfl rfl hc67) (ex_load1 rfl ((hH.at (enc := enc31) (a := x69) (i := 0) rfl hb69 he69 enc31_len).fld (o := 0) rfl) rdLe_rfl agg3)) rfl ?_
          refine DrawG.fl rfl (ev_ex (wantS_yes' rfl rfl hc67) (ex_geq rfl rfl)) rfl ?_
          refine DrawG.fl rfl (ev_ex (wantS_yes' rfl rfl hc65) (ex_pickT' rfl hc67 rfl rfl)) rfl ?_
          refine DrawG.fl rfl (ev_ex wantS_none (ex_pickF' rfl hc65 rfl rfl)) rfl ?_
          refine DrawG.sync ?_
          refine DrawG.nil ?_
          exact Run.pick [7, 9, 15, 149] (law08_SearchHot_11_ok F (law08_SearchHot_10 F N) ih v15 (decide (x69.From ≤ x68.To)) l27 l39 s27 s39 _ _ _ hH h)
        · have h := bif_f hc67 h
          refine DrawG.fl rfl (ev_no (wantS_not' rfl rfl hc67)) rfl ?_
          refine DrawG.fl rfl (ev_no (wantS_not' rfl rfl hc67)) rfl ?_
          refine DrawG.fl rfl (ev_no (wantS_not' rfl rfl hc67)) rfl ?_
          refine DrawG.fl rfl (ev_no (wantS_not' rfl rfl hc67)) rfl ?_
          refine DrawG.fl rfl (ev_no (wantS_not' rfl rfl hc67)) rfl ?_
          refine DrawG.fl rfl (ev_no (wantS_not' rfl rfl hc67)) rfl ?_
          refine DrawG.fl rfl (ev_no (wantS_not' rfl rfl hc67)) rfl ?_
          refine DrawG.fl rfl (ev_no (wantS_not' rfl rfl hc67)) rfl ?_
          refine DrawG.fl rfl (ev_no (wantS_not' rfl rfl hc67)) rfl ?_
          refine DrawG.fl rfl (ev_no (wantS_not' rfl rfl hc67)) rfl ?_
          refine DrawG.fl rfl (ev_no (wantS_not' rfl rfl hc67)) rfl ?_
          refine DrawG.fl rfl (ev_no (wantS_not' rfl rfl hc67)) rfl ?_
          refine DrawG.fl rfl (ev_ex (wantS_yes' rfl rfl hc65) (ex_pickF' rfl hc67 rfl rfl)) rfl ?_
          refine DrawG.fl rfl (ev_ex wantS_none (ex_pickF' rfl hc65 rfl rfl)) rfl ?_
          refine DrawG.sync ?_
          refine DrawG.nil ?_
          exact Run.pick [7, 9, 15, 149] (law08_SearchHot_11_ok F (law08_SearchHot_10 F N) ih v15 false l27 l39 s27 s39 _ _ _ hH h)
    · have h := bif_f hc62 h
      refine Run.condF' rfl hc62 ?_
      refine Run.exit rfl (Run.seq (Run.region ?_))
      obtain ⟨r71, hr71, h⟩ := bnd_some h
      refine Run.callP wantS_none (ex_call rfl mkk12 cal12) rfl (works_ok F r71 _ hH  hr71) ?_
      refine Run.opG wantS_none (ex_assign rfl) rfl ?_
      refine Run.opsEnd ?_
      cases h
      exact Run.ret Try.func8 rfl (res_tmp rfl res_nil) rfl

def law08_SearchHot_3 (F : Nat) : Nat → (List Int) → Int → Int → Int → (List S_api_Burst) → (List Int) → Option (Bool)
  | 0, _, _, _, _, _, _ => none
  | N + 1, v0, v1, v2, v10, l27, l39 =>
    bif (decide ((w64 (v10 + v1)) ≤ (v0.length : Int))) then
      law08_SearchHot_4 F (law08_SearchHot_3 F N) F v0 v1 v2 v10 (0 : Int) (0 : Int) v10 l27 l39
    else
      law08_SearchHot_10 F F (0 : Int) l27 l39

theorem law08_SearchHot_3_ok (F : Nat) : ∀ (N : Nat), ∀ (v0 : (List Int)) (v1 : Int) (v2 : Int) (v10 : Int) (l27 : (List S_api_Burst)) (l39 : (List Int)) (sv0 : SV) (s27 : SV) (s39 : SV) (Fr : Rd) (M : Mem) (r : Bool) (hv0 : Slc Fr 1 (FlatR enc3) sv0 v0) (hH : Has Fr M [.vec 31 3 l27.length s27 (l27.flatMap enc31), .vec 3 1 l39.length s39 (l39.flatMap enc3)]), law08_SearchHot_3 F N v0 v1 v2 v10 l27 l39 = some r → Run Try.prog ⟨⟨8, [], none⟩, []⟩ 151 (law08_SearchHot_post r) [(0, sv0), (1, (.int .i64 v1)), (2, (.int .i64 v2)), (7, s27), (9, s39), (10, (.int .i64 v10))] [codeC Try.prog 8 [1, 1, 1, 1, 1, 1, 0, 1, 0, 0], loopC Try.prog 8 [1, 1, 1, 1, 1, 1, 0, 1, 0, 0], .inBlock 0, codeC Try.prog 8 [1, 1, 1, 1, 1, 1, 1]] M := by
  intro N
  induction N with
  | zero =>
    intro v0 v1 v2 v10 l27 l39 sv0 s27 s39 Fr M r hv0 hH h
    simp [law08_SearchHot_3] at h
  | succ N ih =>
    intro v0 v1 v2 v10 l27 l39 sv0 s27 s39 Fr M r hv0 hH h
    rw [law08_SearchHot_3] at h
    refine Run.seq (Run.seq (Run.region ?_))
    refine Run.opG wantS_none (ex_move rfl) rfl ?_
    refine Run.opG wantS_none (ex_move rfl) rfl ?_
    refine Run.opG wantS_none (ex_add rfl rfl) rfl ?_
    refine Run.opG wantS_none (ex_move rfl) rfl ?_
    refine Run.opG wantS_none (ex_len' rfl hv0 lenk22) rfl ?_
    refine Run.opG wantS_none (ex_leq rfl rfl) rfl ?_
    refine Run.opsEnd ?_
    rcases btf ((decide ((w64 (v10 + v1)) ≤ (v0.length : Int)))) with hc41 | hc41
    · have h := bif_t hc41 h
      refine Run.condT' rfl hc41 ?_
      refine Run.skip (Run.seq (Run.block (Run.seq (Run.region ?_))))
      refine Run.opG wantS_none (ex_assign rfl) rfl ?_
      refine Run.opG wantS_none (ex_assign rfl) rfl ?_
      refine Run.opsEnd (Run.seq (Run.seq (Run.region ?_)))
      refine Run.opG wantS_none (ex_move rfl) rfl ?_
      refine Run.opG wantS_none (ex_assign rfl) rfl ?_
      refine Run.opsEnd (Run.block (Run.loop ?_))
      exact Run.pick [0, 1, 2, 7, 9, 10, 11, 12, 13] (law08_SearchHot_4_ok F (law08_SearchHot_3 F N) ih F v0 v1 v2 v10 (0 : Int) (0 : Int) v10 l27 l39 sv0 s27 s39 _ _ _ hv0 hH h)
    · have h := bif_f hc41 h
      refine Run.condF' rfl hc41 ?_
      refine Run.exit rfl (Run.seq (Run.seq (Run.region ?_)))
      refine Run.opG wantS_none (ex_assign rfl) rfl ?_
      refine Run.opsEnd (Run.block (Run.loop ?_))
      exact Run.pick [7, 9, 15] (law08_SearchHot_10_ok F F (0 : Int) l27 l39 s27 s39 _ _ _ hH h)

def law08_SearchHot_1 (F : Nat) (v0 : (List Int)) (v1 : Int) (v2 : Int) : Option (Bool) :=
  bnd (search_Bursts F v0 v1 v2) fun r26 =>
  bif (!(r26.2 == (0 : Int))) then
    bif ((r26.1.length : Int) == (0 : Int)) then
      bnd (works F) fun r32 =>
      law08_SearchHot_2 F r32
    else
      law08_SearchHot_2 F false
  else
    bnd (ref00_In F v1 (1 : Int) (1024 : Int)) fun r35 =>
    bif (!r35) then
      some false
    else
      bnd (mk (r26.1.length : Int) 8 (0 : Int)) fun l39 =>
      law08_SearchHot_3 F F v0 v1 v2 (0 : Int) r26.1 l39

theorem law08_SearchHot_1_ok (F : Nat) : ∀ (v0 : (List Int)) (v1 : Int) (v2 : Int) (sv0 : SV) (Fr : Rd) (M : Mem) (r : Bool) (hv0 : Slc Fr 1 (FlatR enc3) sv0 v0) (hH : Has Fr M []), law08_SearchHot_1 F v0 v1 v2 = some r → Run Try.prog ⟨⟨8, [], none⟩, []⟩ 151 (law08_SearchHot_post r) [(0, sv0), (1, (.int .i64 v1)), (2, (.int .i64 v2))] [itemC Try.prog 8 [1, 1, 0] 0, codeC Try.prog 8 [1, 1, 1]] M := by
  intro v0 v1 v2 sv0 Fr M r hv0 hH h
  rw [law08_SearchHot_1] at h
  refine Run.opG wantS_none (ex_move rfl) rfl ?_
  refine Run.opG wantS_none (ex_move rfl) rfl ?_
  refine Run.opG wantS_none (ex_move rfl) rfl ?_
  obtain ⟨r26, hr26, h⟩ := bnd_some h
  refine Run.callX wantS_none (ex_call rfl mkk13 cal13) rfl (search_Bursts_ok F v0 v1 v2 sv0 _ _ (hH.slcF hv0) hr26) ?_
  rintro _ M28 ⟨s26_0, rfl, hN26⟩
  have hH28 : Has Fr M28 [.vec 31 3 r26.1.length s26_0 (r26.1.flatMap enc31)] := hN26.1 _ _ hH
  refine Run.opG wantS_none (ex_move rfl) rfl ?_
  refine Run.opG wantS_none (ex_extract rfl rfl) rfl ?_
  refine Run.opG wantS_none (ex_extract rfl rfl) rfl ?_
  refine Run.opG wantS_none (ex_assign rfl) rfl ?_
  refine Run.opG wantS_none (ex_assign rfl) rfl ?_
  refine Run.opsEnd (Run.seq (Run.seq (Run.region ?_)))
  refine Run.opG wantS_none (ex_move rfl) rfl ?_
  refine Run.opG wantS_none (ex_neq rfl rfl) rfl ?_
  refine Run.opsEnd ?_
  rcases btf ((!(r26.2 == (0 : Int)))) with hc29 | hc29
  · have h := bif_t hc29 h
    refine Run.condT' rfl hc29 ?_
    refine Run.seq (Run.region ?_)
    refine Run.opG wantS_none (ex_move rfl) rfl ?_
    refine Run.opG wantS_none (ex_len' rfl (hH28.slc (i := 0) rfl enc31_len) lenk27) rfl ?_
    refine Run.opG wantS_none (ex_eql rfl rfl) rfl ?_
    refine Run.opG wantS_none (ex_move rfl) rfl ?_
    rcases btf (((r26.1.length : Int) == (0 : Int))) with hc30 | hc30
    · have h := bif_t hc30 h
      obtain ⟨r32, hr32, h⟩ := bnd_some h
      refine Run.callP (wantS_yes' rfl rfl hc30) (ex_call rfl mkk12 cal12) rfl (works_ok F r32 _ hH28  hr32) ?_
      refine Run.opG wantS_none (ex_pickT' rfl hc30 rfl rfl) rfl ?_
      exact Run.pick [35] (law08_SearchHot_2_ok F r32 _ _ _ (hH28.pick [] rfl rfl) h)
    · have h := bif_f hc30 h
      refine Run.no (wantS_not' rfl rfl hc30) rfl ?_
      refine Run.opG wantS_none (ex_pickF' rfl hc30 rfl rfl) rfl ?_
      exact Run.pick [35] (law08_SearchHot_2_ok F false _ _ _ (hH28.pick [] rfl rfl) h)
  · have h := bif_f hc29 h
    refine Run.condF' rfl hc29 ?_
    refine Run.skip (Run.seq (Run.seq (Run.region ?_)))
    refine Run.opG wantS_none (ex_move rfl) rfl ?_
    obtain ⟨r35, hr35, h⟩ := bnd_some h
    refine Run.callP wantS_none (ex_call rfl mkk21 cal21) rfl (ref00_In_ok F v1 (1 : Int) (1024 : Int) _ _ hr35) ?_
    refine Run.opG wantS_none (ex_not rfl) rfl ?_
    refine Run.opsEnd ?_
    rcases btf ((!r35)) with hc37 | hc37
    · have h := bif_t hc37 h
      refine Run.condT' rfl hc37 ?_
      refine Run.seq (Run.region ?_)
      refine Run.opG wantS_none (ex_assign rfl) rfl ?_
      refine Run.opsEnd ?_
      cases h
      exact Run.ret Try.func8 rfl (res_tmp rfl res_nil) rfl
    · have h := bif_f hc37 h
      refine Run.condF' rfl hc37 ?_
      refine Run.skip (Run.seq (Run.region ?_))
      refine Run.opG wantS_none (ex_move rfl) rfl ?_
      refine Run.opG wantS_none (ex_len' rfl (hH28.slc (i := 0) rfl enc31_len) lenk27) rfl ?_
      obtain ⟨l39, hl39, h⟩ := bnd_some h
      refine Run.opX wantS_none rfl (ExG.make (enc := enc3) (z := 1) rfl rfl hl39 elt22 rfl rfl enc3_len hH28) ?_
      rintro s39 M40 (hH40 : Has Fr M40 [.vec 3 1 l39.length s39 (l39.flatMap enc3), .vec 31 3 r26.1.length s26_0 (r26.1.flatMap enc31)])
      refine Run.opG wantS_none (ex_assign rfl) rfl ?_
      refine Run.opsEnd (Run.seq (Run.seq (Run.region ?_)))
      refine Run.opG wantS_none (ex_assign rfl) rfl ?_
      refine Run.opsEnd (Run.block (Run.loop ?_))
      exact Run.pick [0, 1, 2, 7, 9, 10] (law08_SearchHot_3_ok F F v0 v1 v2 (0 : Int) r26.1 l39 sv0 s26_0 s39 _ _ _ hv0 (hH40.pick [1, 0] rfl rfl) h)

def law08_SearchHot (F : Nat) (a0 : (List Int)) (a1 : Int) (a2 : Int) : Option (Bool) :=
  bif (decide ((200 : Int) < (a0.length : Int))) then
    bnd (sub a0 0 (200 : Int)) fun l23 =>
    law08_SearchHot_1 F l23 a1 a2
  else
    law08_SearchHot_1 F a0 a1 a2

theorem law08_SearchHot_run (F : Nat) (a0 : (List Int)) (a1 : Int) (a2 : Int) (s0 : SV) (r : Bool) (M : Mem) (hs0 : Slc (rd M) 1 (FlatR enc3) s0 a0) (hfx : FixIn M fixes) (h : law08_SearchHot F a0 a1 a2 = some r) : Run Try.prog (fx0 8) 151 (law08_SearchHot_post r) [(0, s0), (1, (.int .i64 a1)), (2, (.int .i64 a2))] [codeC Try.prog 8 []] (frozen M) := by
  rw [law08_SearchHot] at h
  replace hs0 := hs0.mono (rdLe_frozen M) (fun _ _ h => h)
  have hH : Has (ro (frozen M)) (frozen M) [] := Has.ofFix hfx.frozen
  refine Run.seq (Run.region ?_)
  refine Run.opG wantS_none (ex_assign rfl) rfl ?_
  refine Run.opsEnd (Run.seq (Run.seq (Run.region ?_)))
  refine Run.opG wantS_none (ex_move rfl) rfl ?_
  refine Run.opG wantS_none (ex_len' rfl hs0 lenk22) rfl ?_
  refine Run.opG wantS_none (ex_gtr rfl rfl) rfl ?_
  refine Run.opsEnd ?_
  rcases btf ((decide ((200 : Int) < (a0.length : Int)))) with hc21 | hc21
  · have h := bif_t hc21 h
    refine Run.condT' rfl hc21 ?_
    refine Run.region ?_
    refine Run.opG wantS_none (ex_move rfl) rfl ?_
    obtain ⟨l23, hl23, h⟩ := bnd_some h
    obtain ⟨s23, hx23, hs23⟩ := sl_subH (P := Try.prog) (t := 22) (k0 := .i64) hs0 hl23 slk22
    refine Run.opG wantS_none (ex_slX rfl (argO_none) (argO_some rfl) hx23) rfl ?_
    refine Run.opG wantS_none (ex_assign rfl) rfl ?_
    refine Run.opsEnd (Run.seq (Run.region ?_))
    exact Run.pick [0, 1, 2] (law08_SearchHot_1_ok F l23 a1 a2 s23 _ _ _ hs23 hH h)
  · have h := bif_f hc21 h
    refine Run.condF' rfl hc21 ?_
    refine Run.skip (Run.seq (Run.region ?_))
    exact Run.pick [0, 1, 2] (law08_SearchHot_1_ok F a0 a1 a2 s0 _ _ _ hs0 hH h)

end Go.Ev.SearchHot
