/- Plain functions that say what functions of the program come to, and proofs of it, written by a program of the verifier's own. -/
import Derived.Test.YtcifnjdjnoadfaaEvL11
import Derived.Test.YtcifnjdjnoadfaaWorks
import Derived.KernelRfl
namespace Go.Ev.SearchBursts
open Go Go.Ev Go.Proofs
set_option maxRecDepth 100000
set_option linter.unusedVariables false

/-- The listed tables. -/
noncomputable def fixes : List (Nat × List SV) := Go.Proofs.Ytcifnjdjnoadfaa.works.fixes
/-- works() comes to true. -/
def works (_ : Nat) : Option Bool := some true
theorem fixH {Fr : Rd} {H : List Ent} {M : Mem} (hH : Has Fr M H) : FixIn M fixes := fun x hx => absurd hx List.not_mem_nil

theorem works_ok (F : Nat) (r : Bool) {Fr : Rd} {H : List Ent} (M : Mem) (hH : Has Fr M H) (h : works F = some r) : CallsM Try.prog 22 [] M fun s M' => s = .bool r ∧ M' = M := by
  cases h
  exact CallsM.closedFix (n := 300) (l := Go.Proofs.Ytcifnjdjnoadfaa.works.fixes) Go.Proofs.Ytcifnjdjnoadfaa.works.below Go.Proofs.Ytcifnjdjnoadfaa.works.plainF Go.Proofs.Ytcifnjdjnoadfaa.works.works_true (fun x hx => absurd hx List.not_mem_nil)


def enc3 (a : Int) : List SV := [(.int .i64 a)]
theorem enc3_len (a : Int) : (enc3 a).length = 1 := rfl
theorem enc3_ones (a : Int) : ones (enc3 a) = true := rfl
structure S_api_Burst where
  From : Int
  To : Int
  Peak : Int

def enc51 (a : S_api_Burst) : List SV := [(.int .i64 a.From), (.int .i64 a.To), (.int .i64 a.Peak)]
theorem enc51_len (a : S_api_Burst) : (enc51 a).length = 3 := rfl
theorem enc51_ones (a : S_api_Burst) : ones (enc51 a) = true := rfl
theorem lenk38 : lenK Try.prog 38 = some .sl := by kernel_rfl
theorem mkk131 : makeK Try.prog 131 = none := by kernel_rfl
theorem cal131 : callable Try.prog 131 = true := by kernel_rfl
theorem mkk136 : makeK Try.prog 136 = none := by kernel_rfl
theorem cal136 : callable Try.prog 136 = true := by kernel_rfl
theorem els38 : elems Try.prog 38 = some (.sl 1) := by kernel_rfl
theorem agg3 : aggSize Try.prog 3 = some none := by kernel_rfl
theorem mkk130 : makeK Try.prog 130 = none := by kernel_rfl
theorem cal130 : callable Try.prog 130 = true := by kernel_rfl
abbrev search_isFrom_post (r : Bool) : SV → Mem → Prop := fun s _ => s = (.bool r)

def search_isFrom_1 (F : Nat) (v14 : Bool) : Option (Bool) :=
  some v14

theorem search_isFrom_1_ok (F : Nat) : ∀ (v14 : Bool) (Fr : Rd) (M : Mem) (r : Bool) (hH : Has Fr M []), search_isFrom_1 F v14 = some r → Run Try.prog ⟨⟨62, [], none⟩, []⟩ 15 (search_isFrom_post r) [(14, (.bool v14))] [itemC Try.prog 62 [1, 0] 8, codeC Try.prog 62 [1, 1]] M := by
  intro v14 Fr M r hH h
  rw [search_isFrom_1] at h
  refine Run.opG wantS_none (ex_assign rfl) rfl ?_
  refine Run.opsEnd ?_
  cases h
  exact Run.ret Try.func62 rfl (res_tmp rfl res_nil) rfl

def search_isFrom (F : Nat) (a0 : Int) (a1 : Int) (a2 : Int) : Option (Bool) :=
  bif (decide (a0 ≤ a1)) then
    search_isFrom_1 F (decide (a1 ≤ a2))
  else
    search_isFrom_1 F false

theorem search_isFrom_ok (F : Nat) (a0 : Int) (a1 : Int) (a2 : Int) (r : Bool) (M : Mem) (h : search_isFrom F a0 a1 a2 = some r) : CallsM Try.prog 62 [(.int .i64 a0), (.int .i64 a1), (.int .i64 a2)] M (fun s M' => s = (.bool r) ∧ M' = M) := by
  refine CallsM.plain Try.func62 rfl rfl rfl (show Run _ _ _ (search_isFrom_post r) _ _ _ from ?_)
  rw [search_isFrom] at h
  have hH := Has.nil (frozen M)
  refine Run.seq (Run.region ?_)
  refine Run.opG wantS_none (ex_assign rfl) rfl ?_
  refine Run.opsEnd (Run.seq (Run.region ?_))
  refine Run.opG wantS_none (ex_move rfl) rfl ?_
  refine Run.opG wantS_none (ex_move rfl) rfl ?_
  refine Run.opG wantS_none (ex_leq rfl rfl) rfl ?_
  refine Run.opG wantS_none (ex_move rfl) rfl ?_
  rcases btf ((decide (a0 ≤ a1))) with hc21 | hc21
  · have h := bif_t hc21 h
    refine Run.opG (wantS_yes' rfl rfl hc21) (ex_move rfl) rfl ?_
    refine Run.opG (wantS_yes' rfl rfl hc21) (ex_move rfl) rfl ?_
    refine Run.opG (wantS_yes' rfl rfl hc21) (ex_leq rfl rfl) rfl ?_
    refine Run.opG wantS_none (ex_pickT' rfl hc21 rfl rfl) rfl ?_
    exact Run.pick [14] (search_isFrom_1_ok F (decide (a1 ≤ a2)) _ _ _ hH h)
  · have h := bif_f hc21 h
    refine Run.no (wantS_not' rfl rfl hc21) rfl ?_
    refine Run.no (wantS_not' rfl rfl hc21) rfl ?_
    refine Run.no (wantS_not' rfl rfl hc21) rfl ?_
    refine Run.opG wantS_none (ex_pickF' rfl hc21 rfl rfl) rfl ?_
    exact Run.pick [14] (search_isFrom_1_ok F false _ _ _ hH h)

theorem mkk62 : makeK Try.prog 62 = none := by kernel_rfl
theorem cal62 : callable Try.prog 62 = true := by kernel_rfl
abbrev search_areFrom_post (r : Bool) : SV → Mem → Prop := fun s _ => s = (.bool r)

def search_areFrom_1 (F : Nat) : Nat → (List Int) → Int → Int → Int → Option (Bool)
  | 0, _, _, _, _ => none
  | N + 1, v0, v7, v8, c22_0 =>
    bif (decide (v8 < v7)) then
      bnd (idx v0 v8) fun x26 =>
      bnd (search_isFrom F (w64 (-c22_0)) x26 c22_0) fun r28 =>
      bif (!r28) then
        some (!(decide ((0 : Int) ≤ v8)))
      else
        (search_areFrom_1 F N) v0 v7 (w64 (v8 + (1 : Int))) c22_0
    else
      some (!(decide ((0 : Int) ≤ ((-1) : Int))))

theorem search_areFrom_1_ok (F : Nat) : ∀ (N : Nat), ∀ (v0 : (List Int)) (v7 : Int) (v8 : Int) (c22_0 : Int) (sv0 : SV) (b22 : Pos) (Fr : Rd) (M : Mem) (r : Bool) (hv0 : Slc Fr 1 (FlatR enc3) sv0 v0) (hH : Has Fr M [.obj b22 (.row 3 .whole [(.int .i64 c22_0)])]), search_areFrom_1 F N v0 v7 v8 c22_0 = some r → Run Try.prog ⟨⟨136, [], none⟩, [.mk ⟨131, [], none⟩ 9 (treeOf []) [itemC Try.prog 131 [1, 0] 2, codeC Try.prog 131 [1, 1]], .mk ⟨113, [], none⟩ 11 (treeOf []) [itemC Try.prog 113 [1, 1, 0] 2, codeC Try.prog 113 [1, 1, 1]]]⟩ 19 (search_areFrom_post r) [(0, sv0), (1, (.fn (.func 130) [] [(.ptr b22 0)])), (7, (.int .i64 v7)), (8, (.int .i64 v8))] [codeC Try.prog 136 [1, 0, 1, 0, 0], loopC Try.prog 136 [1, 0, 1, 0, 0], .inBlock 0, codeC Try.prog 136 [1, 1]] M := by
  intro N
  induction N with
  | zero =>
    intro v0 v7 v8 c22_0 sv0 b22 Fr M r hv0 hH h
    simp [search_areFrom_1] at h
  | succ N ih =>
    intro v0 v7 v8 c22_0 sv0 b22 Fr M r hv0 hH h
    rw [search_areFrom_1] at h
    refine Run.seq (Run.region ?_)
    refine Run.opG wantS_none (ex_lss rfl rfl) rfl ?_
    refine Run.opsEnd (Run.seq ?_)
    rcases btf ((decide (v8 < v7))) with hc24 | hc24
    · have h := bif_t hc24 h
      refine Run.condT' rfl hc24 ?_
      refine Run.skip (Run.seq (Run.block (Run.seq (Run.region ?_))))
      refine Run.opG wantS_none (ex_move rfl) rfl ?_
      refine Run.opG wantS_none (ex_assign rfl) rfl ?_
      refine Run.opsEnd (Run.seq (Run.region ?_))
      refine Run.opG wantS_none (ex_move rfl) rfl ?_
      refine Run.opG wantS_none (ex_move rfl) rfl ?_
      refine Run.opG wantS_none (ex_move rfl) rfl ?_
      obtain ⟨x26, hx26, h⟩ := bnd_some h
      obtain ⟨p26, o26, _, hx26, hp26, rfl⟩ := sl_elem (P := Try.prog) (t := 38) (kk := .i64) hv0 hx26 els38
      refine Run.opG wantS_none (ex_elX rfl rfl hx26) rfl ?_
      refine Run.opG wantS_none (ex_load1 rfl (hH.ptrF hp26) rdLe_rfl agg3) rfl ?_
      refine Run.enter wantS_none (ex_closure rfl rfl mkk130 cal130) Try.func130 rfl rfl ?_
      refine Run.seq (Run.region ?_)
      refine Run.opG wantS_none (ex_assign rfl) rfl ?_
      refine Run.opsEnd (Run.seq (Run.region ?_))
      refine Run.opG wantS_none (ex_load1 rfl (hH.cells (i := 0) rfl 0 rfl) rdLe_rfl agg3) rfl ?_
      refine Run.opG wantS_none (ex_neg rfl) rfl ?_
      refine Run.opG wantS_none (ex_move rfl) rfl ?_
      refine Run.opG wantS_none (ex_load1 rfl (hH.cells (i := 0) rfl 0 rfl) rdLe_rfl agg3) rfl ?_
      obtain ⟨r28, hr28, h⟩ := bnd_some h
      refine Run.callP wantS_none (ex_call rfl mkk62 cal62) rfl (search_isFrom_ok F (w64 (-c22_0)) x26 c22_0 _ _ hr28) ?_
      refine Run.opG wantS_none (ex_not rfl) rfl ?_
      refine Run.opG wantS_none (ex_assign rfl) rfl ?_
      refine Run.opsEnd ?_
      refine Run.retTo Try.func130 rfl (res_tmp rfl res_nil) rfl ?_
      refine Run.opsEnd ?_
      rcases btf ((!r28)) with hc30 | hc30
      · have h := bif_t hc30 h
        refine Run.condT' rfl hc30 ?_
        refine Run.seq (Run.region ?_)
        refine Run.opG wantS_none (ex_move rfl) rfl ?_
        refine Run.opG wantS_none (ex_assign rfl) rfl ?_
        refine Run.opsEnd ?_
        refine Run.retTo Try.func136 rfl (res_tmp rfl res_nil) rfl ?_
        refine Run.opG wantS_none (ex_geq rfl rfl) rfl ?_
        refine Run.opG wantS_none (ex_assign rfl) rfl ?_
        refine Run.opsEnd ?_
        refine Run.retTo Try.func131 rfl (res_tmp rfl res_nil) rfl ?_
        refine Run.opG wantS_none (ex_not rfl) rfl ?_
        refine Run.opG wantS_none (ex_assign rfl) rfl ?_
        refine Run.opsEnd ?_
        cases h
        exact Run.ret Try.func113 rfl (res_tmp rfl res_nil) rfl
      · have h := bif_f hc30 h
        refine Run.condF' rfl hc30 ?_
        refine Run.skip (Run.inBlock (Run.region ?_))
        refine Run.opG wantS_none (ex_add rfl rfl) rfl ?_
        refine Run.opG wantS_none (ex_move rfl) rfl ?_
        refine Run.opsEnd (Run.inLoop ?_)
        exact Run.low (.cons (fle_pick [] rfl) (.cons (fle_pick [] rfl) .nil)) (Run.pick [0, 1, 7, 8] (ih v0 v7 (w64 (v8 + (1 : Int))) c22_0 sv0 b22 _ _ _ hv0 hH h))
    · have h := bif_f hc24 h
      refine Run.condF' rfl hc24 ?_
      refine Run.exit rfl (Run.seq (Run.region ?_))
      refine Run.opG wantS_none (ex_assign rfl) rfl ?_
      refine Run.opsEnd ?_
      refine Run.retTo Try.func136 rfl (res_tmp rfl res_nil) rfl ?_
      refine Run.opG wantS_none (ex_geq rfl rfl) rfl ?_
      refine Run.opG wantS_none (ex_assign rfl) rfl ?_
      refine Run.opsEnd ?_
      refine Run.retTo Try.func131 rfl (res_tmp rfl res_nil) rfl ?_
      refine Run.opG wantS_none (ex_not rfl) rfl ?_
      refine Run.opG wantS_none (ex_assign rfl) rfl ?_
      refine Run.opsEnd ?_
      cases h
      exact Run.ret Try.func113 rfl (res_tmp rfl res_nil) rfl

def search_areFrom (F : Nat) (a0 : (List Int)) (a1 : Int) : Option (Bool) :=
  search_areFrom_1 F F a0 (a0.length : Int) (0 : Int) a1

theorem search_areFrom_ok (F : Nat) (a0 : (List Int)) (a1 : Int) (s0 : SV) (r : Bool) (M : Mem) (hs0 : Slc (rd M) 1 (FlatR enc3) s0 a0) (h : search_areFrom F a0 a1 = some r) : CallsM Try.prog 113 [s0, (.int .i64 a1)] M (fun s M' => s = (.bool r) ∧ M' = M) := by
  refine CallsM.plain Try.func113 rfl rfl rfl (show Run _ _ _ (search_areFrom_post r) _ _ _ from ?_)
  rw [search_areFrom] at h
  replace hs0 := hs0.mono (rdLe_frozen M) (fun _ _ h => h)
  have hH := Has.nil (frozen M)
  refine Run.seq (Run.region ?_)
  refine Run.opX wantS_none rfl (ExG.box rfl rfl hH) ?_
  rintro _ M23 ⟨b22, rfl, (hH23 : Has (ro (frozen M)) M23 [.obj b22 (.row 3 .whole [(.int .i64 a1)])])⟩
  refine Run.opG wantS_none (ex_assign rfl) rfl ?_
  refine Run.opsEnd (Run.seq (Run.region ?_))
  refine Run.opG wantS_none (ex_makeFunc rfl rfl) rfl ?_
  refine Run.opG wantS_none (ex_assign rfl) rfl ?_
  refine Run.opsEnd (Run.seq (Run.region ?_))
  refine Run.opG wantS_none (ex_move rfl) rfl ?_
  refine Run.opG wantS_none (ex_move rfl) rfl ?_
  refine Run.enter wantS_none (ex_call rfl mkk131 cal131) Try.func131 rfl rfl ?_
  refine Run.seq (Run.region ?_)
  refine Run.opG wantS_none (ex_assign rfl) rfl ?_
  refine Run.opsEnd (Run.seq (Run.region ?_))
  refine Run.opG wantS_none (ex_move rfl) rfl ?_
  refine Run.opG wantS_none (ex_move rfl) rfl ?_
  refine Run.enter wantS_none (ex_call rfl mkk136 cal136) Try.func136 rfl rfl ?_
  refine Run.seq (Run.region ?_)
  refine Run.opG wantS_none (ex_assign rfl) rfl ?_
  refine Run.opsEnd (Run.seq (Run.seq (Run.region ?_)))
  refine Run.opG wantS_none (ex_move rfl) rfl ?_
  refine Run.opG wantS_none (ex_len' rfl hs0 lenk38) rfl ?_
  refine Run.opG wantS_none (ex_move rfl) rfl ?_
  refine Run.opsEnd (Run.block (Run.loop ?_))
  exact Run.low (.cons (fle_pick [] rfl) (.cons (fle_pick [] rfl) .nil)) (Run.pick [0, 1, 7, 8] (search_areFrom_1_ok F F a0 (a0.length : Int) (0 : Int) a1 s0 b22 _ _ _ hs0 hH23 h))

theorem mkk113 : makeK Try.prog 113 = none := by kernel_rfl
theorem cal113 : callable Try.prog 113 = true := by kernel_rfl
abbrev search_isRecord_post (r : Bool) : SV → Mem → Prop := fun s _ => s = (.bool r)

def search_isRecord_1 (F : Nat) (v9 : Bool) : Option (Bool) :=
  some v9

theorem search_isRecord_1_ok (F : Nat) : ∀ (v9 : Bool) (Fr : Rd) (M : Mem) (r : Bool) (hH : Has Fr M []), search_isRecord_1 F v9 = some r → Run Try.prog ⟨⟨69, [], none⟩, []⟩ 10 (search_isRecord_post r) [(9, (.bool v9))] [itemC Try.prog 69 [1, 0] 7, codeC Try.prog 69 [1, 1]] M := by
  intro v9 Fr M r hH h
  rw [search_isRecord_1] at h
  refine Run.opG wantS_none (ex_assign rfl) rfl ?_
  refine Run.opsEnd ?_
  cases h
  exact Run.ret Try.func69 rfl (res_tmp rfl res_nil) rfl

def search_isRecord (F : Nat) (a0 : (List Int)) : Option (Bool) :=
  bif (decide ((a0.length : Int) ≤ (1024 : Int))) then
    bnd (search_areFrom F a0 (16384 : Int)) fun r23 =>
    search_isRecord_1 F r23
  else
    search_isRecord_1 F false

theorem search_isRecord_ok (F : Nat) (a0 : (List Int)) (s0 : SV) (r : Bool) (M : Mem) (hs0 : Slc (rd M) 1 (FlatR enc3) s0 a0) (h : search_isRecord F a0 = some r) : CallsM Try.prog 69 [s0] M (fun s M' => s = (.bool r) ∧ M' = M) := by
  refine CallsM.plain Try.func69 rfl rfl rfl (show Run _ _ _ (search_isRecord_post r) _ _ _ from ?_)
  rw [search_isRecord] at h
  replace hs0 := hs0.mono (rdLe_frozen M) (fun _ _ h => h)
  have hH := Has.nil (frozen M)
  refine Run.seq (Run.region ?_)
  refine Run.opG wantS_none (ex_assign rfl) rfl ?_
  refine Run.opsEnd (Run.seq (Run.region ?_))
  refine Run.opG wantS_none (ex_move rfl) rfl ?_
  refine Run.opG wantS_none (ex_len' rfl hs0 lenk38) rfl ?_
  refine Run.opG wantS_none (ex_leq rfl rfl) rfl ?_
  refine Run.opG wantS_none (ex_move rfl) rfl ?_
  rcases btf ((decide ((a0.length : Int) ≤ (1024 : Int)))) with hc21 | hc21
  · have h := bif_t hc21 h
    refine Run.opG (wantS_yes' rfl rfl hc21) (ex_move rfl) rfl ?_
    obtain ⟨r23, hr23, h⟩ := bnd_some h
    refine Run.callP (wantS_yes' rfl rfl hc21) (ex_call rfl mkk113 cal113) rfl (search_areFrom_ok F a0 (16384 : Int) s0 _ _ (hH.slcF hs0) hr23) ?_
    refine Run.opG wantS_none (ex_pickT' rfl hc21 rfl rfl) rfl ?_
    exact Run.pick [9] (search_isRecord_1_ok F r23 _ _ _ hH h)
  · have h := bif_f hc21 h
    refine Run.no (wantS_not' rfl rfl hc21) rfl ?_
    refine Run.no (wantS_not' rfl rfl hc21) rfl ?_
    refine Run.opG wantS_none (ex_pickF' rfl hc21 rfl rfl) rfl ?_
    exact Run.pick [9] (search_isRecord_1_ok F false _ _ _ hH h)

theorem mkk69 : makeK Try.prog 69 = none := by kernel_rfl
theorem cal69 : callable Try.prog 69 = true := by kernel_rfl
theorem zer47 : zerosOf Try.prog 47 = some [.nils] := by kernel_rfl
theorem mkk114 : makeK Try.prog 114 = none := by kernel_rfl
theorem cal114 : callable Try.prog 114 = true := by kernel_rfl
theorem cal132 : callable Try.prog 132 = true := by kernel_rfl
theorem zra159 : zerosOf Try.prog 159 = some ((List.replicate 1027 (0 : Int)).flatMap enc3) := by kernel_rfl
theorem pls159 : placesOf Try.prog 159 = some (.st [(0, 1024), (1024, 1), (1025, 1), (1026, 1)]) := by kernel_rfl
theorem bld159_1 : ∀ x : Int, fillS (placeAt [(0, 1024), (1024, 1), (1025, 1), (1026, 1)]) ((List.replicate 1027 (0 : Int)).flatMap enc3) [(1, .int .i64 x)] = some (((List.replicate 1027 (0 : Int)).set 1024 x).flatMap enc3) := fun x => congrFun (show (fun x : Int => fillS (placeAt [(0, 1024), (1024, 1), (1025, 1), (1026, 1)]) ((List.replicate 1027 (0 : Int)).flatMap enc3) [(1, .int .i64 x)]) = fun x => some (((List.replicate 1027 (0 : Int)).set 1024 x).flatMap enc3) by kernel_rfl) x
theorem zer159 : zerosOf Try.prog 159 = some [(.int .i64 0), (.int .i64 0), (.int .i64 0), (.int .i64 0), (.int .i64 0), (.int .i64 0), (.int .i64 0), (.int .i64 0), (.int .i64 0), (.int .i64 0), (.int .i64 0), (.int .i64 0), (.int .i64 0), (.int .i64 0), (.int .i64 0), (.int .i64 0), (.int .i64 0), (.int .i64 0), (.int .i64 0), (.int .i64 0), (.int .i64 0), (.int .i64 0), (.int .i64 0), (.int .i64 0), (.int .i64 0), (.int .i64 0), (.int .i64 0), (.int .i64 0), (.int .i64 0), (.int .i64 0), (.int .i64 0), (.int .i64 0), (.int .i64 0), (.int .i64 0), (.int .i64 0), (.int .i64 0), (.int .i64 0), (.int .i64 0), (.int .i64 0), (.int .i64 0), (.int .i64 0), (.int .i64 0), (.int .i64 0), (.int .i64 0), (.int .i64 0), (.int .i64 0), (.int .i64 0), (.int .i64 0), (.int .i64 0), (.int .i64 0), (.int .i64 0), (.int .i64 0), (.int .i64 0), (.int .i64 0), (.int .i64 0), (.int .i64 0), (.int .i64 0), (.int .i64 0), (.int .i64 0), (.int .i64 0), (.int .i64 0), (.int .i64 0), (.int .i64 0), (.int .i64 0), (.int .i64 0), (.int .i64 0), (.int .i64 0), (.int .i64 0), (.int .i64 0), (.int .i64 0), (.int .i64 0), (.int .i64 0), (.int .i64 0), (.int .i64 0), (.int .i64 0), (.int .i64 0), (.int .i64 0), (.int .i64 0), (.int .i64 0), (.int .i64 0), (.int .i64 0), (.int .i64 0), (.int .i64 0), (.int .i64 0), (.int .i64 0), (.int .i64 0), (.int .i64 0), (.int .i64 0), (.int .i64 0), (.int .i64 0), (.int .i64 0), (.int .i64 0), (.int .i64 0), (.int .i64 0), (.int .i64 0), (.int .i64 0), (.int .i64 0), (.int .i64 0), (.int .i64 0), (.int .i64 0), (.int .i64 0), (.int .i64 0), (.int .i64 0), (.int .i64 0), (.int .i64 0), (.int .i64 0), (.int .i64 0), (.int .i64 0), (.int .i64 0), (.int .i64 0), (.int .i64 0), (.int .i64 0), (.int .i64 0), (.int .i64 0), (.int .i64 0), (.int .i64 0), (.int .i64 0), (.int .i64 0), (.int .i64 0), (.int .i64 0), (.int .i64 0), (.int .i64 0), (.int .i64 0), (.int .i64 0), (.int .i64 0), (.int .i64 0), (.int .i64 0), (.int .i64 0), (.int .i64 0), (.int .i64 0), (.int .i64 0), (.int .i64 0), (.int .i64 0), (.int .i64 0), (.int .i64 0), (.int .i64 0), (.int .i64 0), (.int .i64 0), (.int .i64 0), (.int .i64 0), (.int .i64 0), (.int .i64 0), (.int .i64 0), (.int .i64 0), (.int .i64 0), (.int .i64 0), (.int .i64 0), (.int .i64 0), (.int .i64 0), (.int .i64 0), (.int .i64 0), (.int .i64 0), (.int .i64 0), (.int .i64 0), (.int .i64 0), (.int .i64 0), (.int .i64 0), (.int .i64 0), (.int .i64 0), (.int .i64 0), (.int .i64 0), (.int .i64 0), (.int .i64 0), (.int .i64 0), (.int .i64 0), (.int .i64 0), (.int .i64 0), (.int .i64 0), (.int .i64 0), (.int .i64 0), (.int .i64 0), (.int .i64 0), (.int .i64 0), (.int .i64 0), (.int .i64 0), (.int .i64 0), (.int .i64 0), (.int .i64 0), (.int .i64 0), (.int .i64 0), (.int .i64 0), (.int .i64 0), (.int .i64 0), (.int .i64 0), (.int .i64 0), (.int .i64 0), (.int .i64 0), (.int .i64 0), (.int .i64 0), (.int .i64 0), (.int .i64 0), (.int .i64 0), (.int .i64 0), (.int .i64 0), (.int .i64 0), (.int .i64 0), (.int .i64 0), (.int .i64 0), (.int .i64 0), (.int .i64 0), (.int .i64 0), (.int .i64 0), (.int .i64 0), (.int .i64 0), (.int .i64 0), (.int .i64 0), (.int .i64 0), (.int .i64 0), (.int .i64 0), (.int .i64 0), (.int .i64 0), (.int .i64 0), (.int .i64 0), (.int .i64 0), (.int .i64 0), (.int .i64 0), (.int .i64 0), (.int .i64 0), (.int .i64 0), (.int .i64 0), (.int .i64 0), (.int .i64 0), (.int .i64 0), (.int .i64 0), (.int .i64 0), (.int .i64 0), (.int .i64 0), (.int .i64 0), (.int .i64 0), (.int .i64 0), (.int .i64 0), (.int .i64 0), (.int .i64 0), (.int .i64 0), (.int .i64 0), (.int .i64 0), (.int .i64 0), (.int .i64 0), (.int .i64 0), (.int .i64 0), (.int .i64 0), (.int .i64 0), (.int .i64 0), (.int .i64 0), (.int .i64 0), (.int .i64 0), (.int .i64 0), (.int .i64 0), (.int .i64 0), (.int .i64 0), (.int .i64 0), (.int .i64 0), (.int .i64 0), (.int .i64 0), (.int .i64 0), (.int .i64 0), (.int .i64 0), (.int .i64 0), (.int .i64 0), (.int .i64 0), (.int .i64 0), (.int .i64 0), (.int .i64 0), (.int .i64 0), (.int .i64 0), (.int .i64 0), (.int .i64 0), (.int .i64 0), (.int .i64 0), (.int .i64 0), (.int .i64 0), (.int .i64 0), (.int .i64 0), (.int .i64 0), (.int .i64 0), (.int .i64 0), (.int .i64 0), (.int .i64 0), (.int .i64 0), (.int .i64 0), (.int .i64 0), (.int .i64 0), (.int .i64 0), (.int .i64 0), (.int .i64 0), (.int .i64 0), (.int .i64 0), (.int .i64 0), (.int .i64 0), (.int .i64 0), (.int .i64 0), (.int .i64 0), (.int .i64 0), (.int .i64 0), (.int .i64 0), (.int .i64 0), (.int .i64 0), (.int .i64 0), (.int .i64 0), (.int .i64 0), (.int .i64 0), (.int .i64 0), (.int .i64 0), (.int .i64 0), (.int .i64 0), (.int .i64 0), (.int .i64 0), (.int .i64 0), (.int .i64 0), (.int .i64 0), (.int .i64 0), (.int .i64 0), (.int .i64 0), (.int .i64 0), (.int .i64 0), (.int .i64 0), (.int .i64 0), (.int .i64 0), (.int .i64 0), (.int .i64 0), (.int .i64 0), (.int .i64 0), (.int .i64 0), (.int .i64 0), (.int .i64 0), (.int .i64 0), (.int .i64 0), (.int .i64 0), (.int .i64 0), (.int .i64 0), (.int .i64 0), (.int .i64 0), (.int .i64 0), (.int .i64 0), (.int .i64 0), (.int .i64 0), (.int .i64 0), (.int .i64 0), (.int .i64 0), (.int .i64 0), (.int .i64 0), (.int .i64 0), (.int .i64 0), (.int .i64 0), (.int .i64 0), (.int .i64 0), (.int .i64 0), (.int .i64 0), (.int .i64 0), (.int .i64 0), (.int .i64 0), (.int .i64 0), (.int .i64 0), (.int .i64 0), (.int .i64 0), (.int .i64 0), (.int .i64 0), (.int .i64 0), (.int .i64 0), (.int .i64 0), (.int .i64 0), (.int .i64 0), (.int .i64 0), (.int .i64 0), (.int .i64 0), (.int .i64 0), (.int .i64 0), (.int .i64 0), (.int .i64 0), (.int .i64 0), (.int .i64 0), (.int .i64 0), (.int .i64 0), (.int .i64 0), (.int .i64 0), (.int .i64 0), (.int .i64 0), (.int .i64 0), (.int .i64 0), (.int .i64 0), (.int .i64 0), (.int .i64 0), (.int .i64 0), (.int .i64 0), (.int .i64 0), (.int .i64 0), (.int .i64 0), (.int .i64 0), (.int .i64 0), (.int .i64 0), (.int .i64 0), (.int .i64 0), (.int .i64 0), (.int .i64 0), (.int .i64 0), (.int .i64 0), (.int .i64 0), (.int .i64 0), (.int .i64 0), (.int .i64 0), (.int .i64 0), (.int .i64 0), (.int .i64 0), (.int .i64 0), (.int .i64 0), (.int .i64 0), (.int .i64 0), (.int .i64 0), (.int .i64 0), (.int .i64 0), (.int .i64 0), (.int .i64 0), (.int .i64 0), (.int .i64 0), (.int .i64 0), (.int .i64 0), (.int .i64 0), (.int .i64 0), (.int .i64 0), (.int .i64 0), (.int .i64 0), (.int .i64 0), (.int .i64 0), (.int .i64 0), (.int .i64 0), (.int .i64 0), (.int .i64 0), (.int .i64 0), (.int .i64 0), (.int .i64 0), (.int .i64 0), (.int .i64 0), (.int .i64 0), (.int .i64 0), (.int .i64 0), (.int .i64 0), (.int .i64 0), (.int .i64 0), (.int .i64 0), (.int .i64 0), (.int .i64 0), (.int .i64 0), (.int .i64 0), (.int .i64 0), (.int .i64 0), (.int .i64 0), (.int .i64 0), (.int .i64 0), (.int .i64 0), (.int .i64 0), (.int .i64 0), (.int .i64 0), (.int .i64 0), (.int .i64 0), (.int .i64 0), (.int .i64 0), (.int .i64 0), (.int .i64 0), (.int .i64 0), (.int .i64 0), (.int .i64 0), (.int .i64 0), (.int .i64 0), (.int .i64 0), (.int .i64 0), (.int .i64 0), (.int .i64 0), (.int .i64 0), (.int .i64 0), (.int .i64 0), (.int .i64 0), (.int .i64 0), (.int .i64 0), (.int .i64 0), (.int .i64 0), (.int .i64 0), (.int .i64 0), (.int .i64 0), (.int .i64 0), (.int .i64 0), (.int .i64 0), (.int .i64 0), (.int .i64 0), (.int .i64 0), (.int .i64 0), (.int .i64 0), (.int .i64 0), (.int .i64 0), (.int .i64 0), (.int .i64 0), (.int .i64 0), (.int .i64 0), (.int .i64 0), (.int .i64 0), (.int .i64 0), (.int .i64 0), (.int .i64 0), (.int .i64 0), (.int .i64 0), (.int .i64 0), (.int .i64 0), (.int .i64 0), (.int .i64 0), (.int .i64 0), (.int .i64 0), (.int .i64 0), (.int .i64 0), (.int .i64 0), (.int .i64 0), (.int .i64 0), (.int .i64 0), (.int .i64 0), (.int .i64 0), (.int .i64 0), (.int .i64 0), (.int .i64 0), (.int .i64 0), (.int .i64 0), (.int .i64 0), (.int .i64 0), (.int .i64 0), (.int .i64 0), (.int .i64 0), (.int .i64 0), (.int .i64 0), (.int .i64 0), (.int .i64 0), (.int .i64 0), (.int .i64 0), (.int .i64 0), (.int .i64 0), (.int .i64 0), (.int .i64 0), (.int .i64 0), (.int .i64 0), (.int .i64 0), (.int .i64 0), (.int .i64 0), (.int .i64 0), (.int .i64 0), (.int .i64 0), (.int .i64 0), (.int .i64 0), (.int .i64 0), (.int .i64 0), (.int .i64 0), (.int .i64 0), (.int .i64 0), (.int .i64 0), (.int .i64 0), (.int .i64 0), (.int .i64 0), (.int .i64 0), (.int .i64 0), (.int .i64 0), (.int .i64 0), (.int .i64 0), (.int .i64 0), (.int .i64 0), (.int .i64 0), (.int .i64 0), (.int .i64 0), (.int .i64 0), (.int .i64 0), (.int .i64 0), (.int .i64 0), (.int .i64 0), (.int .i64 0), (.int .i64 0), (.int .i64 0), (.int .i64 0), (.int .i64 0), (.int .i64 0), (.int .i64 0), (.int .i64 0), (.int .i64 0), (.int .i64 0), (.int .i64 0), (.int .i64 0), (.int .i64 0), (.int .i64 0), (.int .i64 0), (.int .i64 0), (.int .i64 0), (.int .i64 0), (.int .i64 0), (.int .i64 0), (.int .i64 0), (.int .i64 0), (.int .i64 0), (.int .i64 0), (.int .i64 0), (.int .i64 0), (.int .i64 0), (.int .i64 0), (.int .i64 0), (.int .i64 0), (.int .i64 0), (.int .i64 0), (.int .i64 0), (.int .i64 0), (.int .i64 0), (.int .i64 0), (.int .i64 0), (.int .i64 0), (.int .i64 0), (.int .i64 0), (.int .i64 0), (.int .i64 0), (.int .i64 0), (.int .i64 0), (.int .i64 0), (.int .i64 0), (.int .i64 0), (.int .i64 0), (.int .i64 0), (.int .i64 0), (.int .i64 0), (.int .i64 0), (.int .i64 0), (.int .i64 0), (.int .i64 0), (.int .i64 0), (.int .i64 0), (.int .i64 0), (.int .i64 0), (.int .i64 0), (.int .i64 0), (.int .i64 0), (.int .i64 0), (.int .i64 0), (.int .i64 0), (.int .i64 0), (.int .i64 0), (.int .i64 0), (.int .i64 0), (.int .i64 0), (.int .i64 0), (.int .i64 0), (.int .i64 0), (.int .i64 0), (.int .i64 0), (.int .i64 0), (.int .i64 0), (.int .i64 0), (.int .i64 0), (.int .i64 0), (.int .i64 0), (.int .i64 0), (.int .i64 0), (.int .i64 0), (.int .i64 0), (.int .i64 0), (.int .i64 0), (.int .i64 0), (.int .i64 0), (.int .i64 0), (.int .i64 0), (.int .i64 0), (.int .i64 0), (.int .i64 0), (.int .i64 0), (.int .i64 0), (.int .i64 0), (.int .i64 0), (.int .i64 0), (.int .i64 0), (.int .i64 0), (.int .i64 0), (.int .i64 0), (.int .i64 0), (.int .i64 0), (.int .i64 0), (.int .i64 0), (.int .i64 0), (.int .i64 0), (.int .i64 0), (.int .i64 0), (.int .i64 0), (.int .i64 0), (.int .i64 0), (.int .i64 0), (.int .i64 0), (.int .i64 0), (.int .i64 0), (.int .i64 0), (.int .i64 0), (.int .i64 0), (.int .i64 0), (.int .i64 0), (.int .i64 0), (.int .i64 0), (.int .i64 0), (.int .i64 0), (.int .i64 0), (.int .i64 0), (.int .i64 0), (.int .i64 0), (.int .i64 0), (.int .i64 0), (.int .i64 0), (.int .i64 0), (.int .i64 0), (.int .i64 0), (.int .i64 0), (.int .i64 0), (.int .i64 0), (.int .i64 0), (.int .i64 0), (.int .i64 0), (.int .i64 0), (.int .i64 0), (.int .i64 0), (.int .i64 0), (.int .i64 0), (.int .i64 0), (.int .i64 0), (.int .i64 0), (.int .i64 0), (.int .i64 0), (.int .i64 0), (.int .i64 0), (.int .i64 0), (.int .i64 0), (.int .i64 0), (.int .i64 0), (.int .i64 0), (.int .i64 0), (.int .i64 0), (.int .i64 0), (.int .i64 0), (.int .i64 0), (.int .i64 0), (.int .i64 0), (.int .i64 0), (.int .i64 0), (.int .i64 0), (.int .i64 0), (.int .i64 0), (.int .i64 0), (.int .i64 0), (.int .i64 0), (.int .i64 0), (.int .i64 0), (.int .i64 0), (.int .i64 0), (.int .i64 0), (.int .i64 0), (.int .i64 0), (.int .i64 0), (.int .i64 0), (.int .i64 0), (.int .i64 0), (.int .i64 0), (.int .i64 0), (.int .i64 0), (.int .i64 0), (.int .i64 0), (.int .i64 0), (.int .i64 0), (.int .i64 0), (.int .i64 0), (.int .i64 0), (.int .i64 0), (.int .i64 0), (.int .i64 0), (.int .i64 0), (.int .i64 0), (.int .i64 0), (.int .i64 0), (.int .i64 0), (.int .i64 0), (.int .i64 0), (.int .i64 0), (.int .i64 0), (.int .i64 0), (.int .i64 0), (.int .i64 0), (.int .i64 0), (.int .i64 0), (.int .i64 0), (.int .i64 0), (.int .i64 0), (.int .i64 0), (.int .i64 0), (.int .i64 0), (.int .i64 0), (.int .i64 0), (.int .i64 0), (.int .i64 0), (.int .i64 0), (.int .i64 0), (.int .i64 0), (.int .i64 0), (.int .i64 0), (.int .i64 0), (.int .i64 0), (.int .i64 0), (.int .i64 0), (.int .i64 0), (.int .i64 0), (.int .i64 0), (.int .i64 0), (.int .i64 0), (.int .i64 0), (.int .i64 0), (.int .i64 0), (.int .i64 0), (.int .i64 0), (.int .i64 0), (.int .i64 0), (.int .i64 0), (.int .i64 0), (.int .i64 0), (.int .i64 0), (.int .i64 0), (.int .i64 0), (.int .i64 0), (.int .i64 0), (.int .i64 0), (.int .i64 0), (.int .i64 0), (.int .i64 0), (.int .i64 0), (.int .i64 0), (.int .i64 0), (.int .i64 0), (.int .i64 0), (.int .i64 0), (.int .i64 0), (.int .i64 0), (.int .i64 0), (.int .i64 0), (.int .i64 0), (.int .i64 0), (.int .i64 0), (.int .i64 0), (.int .i64 0), (.int .i64 0), (.int .i64 0), (.int .i64 0), (.int .i64 0), (.int .i64 0), (.int .i64 0), (.int .i64 0), (.int .i64 0), (.int .i64 0), (.int .i64 0), (.int .i64 0), (.int .i64 0), (.int .i64 0), (.int .i64 0), (.int .i64 0), (.int .i64 0), (.int .i64 0), (.int .i64 0), (.int .i64 0), (.int .i64 0), (.int .i64 0), (.int .i64 0), (.int .i64 0), (.int .i64 0), (.int .i64 0), (.int .i64 0), (.int .i64 0), (.int .i64 0), (.int .i64 0), (.int .i64 0), (.int .i64 0), (.int .i64 0), (.int .i64 0), (.int .i64 0), (.int .i64 0), (.int .i64 0), (.int .i64 0), (.int .i64 0), (.int .i64 0), (.int .i64 0), (.int .i64 0), (.int .i64 0), (.int .i64 0), (.int .i64 0), (.int .i64 0), (.int .i64 0), (.int .i64 0), (.int .i64 0), (.int .i64 0), (.int .i64 0), (.int .i64 0), (.int .i64 0), (.int .i64 0), (.int .i64 0), (.int .i64 0), (.int .i64 0), (.int .i64 0), (.int .i64 0), (.int .i64 0), (.int .i64 0), (.int .i64 0), (.int .i64 0), (.int .i64 0), (.int .i64 0), (.int .i64 0), (.int .i64 0), (.int .i64 0), (.int .i64 0), (.int .i64 0), (.int .i64 0), (.int .i64 0), (.int .i64 0), (.int .i64 0), (.int .i64 0), (.int .i64 0), (.int .i64 0), (.int .i64 0), (.int .i64 0), (.int .i64 0), (.int .i64 0), (.int .i64 0), (.int .i64 0), (.int .i64 0), (.int .i64 0), (.int .i64 0), (.int .i64 0), (.int .i64 0), (.int .i64 0), (.int .i64 0), (.int .i64 0), (.int .i64 0), (.int .i64 0), (.int .i64 0), (.int .i64 0), (.int .i64 0), (.int .i64 0), (.int .i64 0), (.int .i64 0), (.int .i64 0), (.int .i64 0), (.int .i64 0), (.int .i64 0), (.int .i64 0), (.int .i64 0), (.int .i64 0), (.int .i64 0), (.int .i64 0), (.int .i64 0), (.int .i64 0), (.int .i64 0), (.int .i64 0), (.int .i64 0), (.int .i64 0), (.int .i64 0), (.int .i64 0), (.int .i64 0), (.int .i64 0), (.int .i64 0), (.int .i64 0), (.int .i64 0), (.int .i64 0), (.int .i64 0), (.int .i64 0), (.int .i64 0), (.int .i64 0), (.int .i64 0), (.int .i64 0), (.int .i64 0), (.int .i64 0), (.int .i64 0), (.int .i64 0), (.int .i64 0), (.int .i64 0), (.int .i64 0), (.int .i64 0), (.int .i64 0), (.int .i64 0), (.int .i64 0), (.int .i64 0), (.int .i64 0), (.int .i64 0), (.int .i64 0), (.int .i64 0), (.int .i64 0), (.int .i64 0), (.int .i64 0), (.int .i64 0), (.int .i64 0), (.int .i64 0), (.int .i64 0), (.int .i64 0), (.int .i64 0), (.int .i64 0), (.int .i64 0), (.int .i64 0), (.int .i64 0), (.int .i64 0), (.int .i64 0), (.int .i64 0), (.int .i64 0), (.int .i64 0), (.int .i64 0), (.int .i64 0), (.int .i64 0), (.int .i64 0), (.int .i64 0), (.int .i64 0), (.int .i64 0), (.int .i64 0), (.int .i64 0), (.int .i64 0), (.int .i64 0), (.int .i64 0), (.int .i64 0), (.int .i64 0), (.int .i64 0), (.int .i64 0), (.int .i64 0), (.int .i64 0), (.int .i64 0), (.int .i64 0), (.int .i64 0), (.int .i64 0), (.int .i64 0), (.int .i64 0), (.int .i64 0), (.int .i64 0), (.int .i64 0), (.int .i64 0)] := by kernel_rfl
theorem sz159 : szOf Try.prog 159 = some 1027 := by kernel_rfl
theorem agg38 : aggSize Try.prog 38 = some none := by kernel_rfl
theorem mkk133 : makeK Try.prog 133 = none := by kernel_rfl
theorem cal133 : callable Try.prog 133 = true := by kernel_rfl
theorem off159_3 : fieldOff Try.prog 159 3 = some 1026 := by kernel_rfl
theorem off159_2 : fieldOff Try.prog 159 2 = some 1025 := by kernel_rfl
theorem off159_0 : fieldOff Try.prog 159 0 = some 0 := by kernel_rfl
theorem els157 : elems Try.prog 157 = some (.arr 1024 1) := by kernel_rfl
theorem sz3 : szOf Try.prog 3 = some 1 := by kernel_rfl
theorem off159_1 : fieldOff Try.prog 159 1 = some 1024 := by kernel_rfl
theorem agg47 : aggSize Try.prog 47 = some none := by kernel_rfl
theorem lenk47 : lenK Try.prog 47 = some .sl := by kernel_rfl
theorem zer51 : zerosOf Try.prog 51 = some [(.int .i64 0), (.int .i64 0), (.int .i64 0)] := by kernel_rfl
theorem pls51 : placesOf Try.prog 51 = some (.st [(0, 1), (1, 1), (2, 1)]) := by kernel_rfl
theorem elt47 : sliceElt Try.prog 47 = some (⟨3, 24, [(.int .i64 0), (.int .i64 0), (.int .i64 0)], 51⟩ : Elt) := by kernel_rfl
theorem appt47_47 : appT Try.prog 47 47 = some (⟨3, 24, [(.int .i64 0), (.int .i64 0), (.int .i64 0)], 51⟩ : Elt) := by kernel_rfl
theorem sz47 : szOf Try.prog 47 = some 1 := by kernel_rfl
theorem els47 : elems Try.prog 47 = some (.sl 3) := by kernel_rfl
theorem off51_1 : fieldOff Try.prog 51 1 = some 1 := by kernel_rfl
theorem off51_2 : fieldOff Try.prog 51 2 = some 2 := by kernel_rfl
theorem plan70_1_1_0_1_0_1_0_1_1_1_0_1 : planOf Try.prog (opsC (atC Try.prog 70 [1, 1, 0, 1, 0, 1, 0, 1, 1, 1, 0, 1])) = some [.fl 0, .fl 1, .fl 2, .fl 3, .fl 4, .fl 5, .fl 6, .fl 7, .fl 8, .fl 9, .fl 10, .an 11 [], .sync] := by kernel_rfl
theorem plan133_1_1 : planOf Try.prog (opsC (atC Try.prog 133 [1, 1])) = some [.fl 0, .fl 1, .fl 2, .fl 3, .fl 4, .fl 5, .fl 6, .fl 7, .fl 8, .fl 9, .fl 10, .fl 11, .fl 12, .an 13 [], .sync] := by kernel_rfl
theorem plan133_1_0 : planOf Try.prog (opsC (atC Try.prog 133 [1, 0])) = some [.fl 0, .fl 1, .fl 2, .fl 3, .fl 4, .fl 5, .fl 6, .fl 7, .fl 8, .fl 9, .fl 10, .an 11 [], .sync] := by kernel_rfl
theorem plan133_0 : planOf Try.prog (opsC (atC Try.prog 133 [0])) = some [.fl 0, .fl 1, .fl 2, .fl 3, .fl 4, .fl 5, .fl 6, .fl 7, .fl 8, .fl 9, .fl 10, .fl 11, .fl 12, .fl 13, .fl 14, .fl 15, .fl 16, .fl 17, .fl 18, .fl 19, .an 20 [], .sync] := by kernel_rfl
abbrev search_bursts_post (r : (List S_api_Burst)) : SV → Mem → Prop := fun s Me => ∃ q1, s = q1 ∧ Has (fun _ => none) Me [.vec 51 3 r.length q1 (r.flatMap enc51)]

def search_bursts_2 (F : Nat) (hd1 : (List Int) → Int → Int → Int → Int → Int → (List Int) → (List S_api_Burst) → (List Int) → Option ((List S_api_Burst))) (v10 : (List Int)) (v11 : Int) (v12 : Int) (v32 : Bool) (c22_0 : Int) (c25_0 : Int) (c34_0 : Int) (c31_0 : (List Int)) (l42 : (List S_api_Burst)) (l39 : (List Int)) : Option ((List S_api_Burst)) :=
  bif v32 then
    some l42
  else
    hd1 v10 v11 (w64 (v12 + (1 : Int))) c22_0 c25_0 c34_0 c31_0 l42 l39

theorem search_bursts_2_ok (F : Nat) (hd1 : (List Int) → Int → Int → Int → Int → Int → (List Int) → (List S_api_Burst) → (List Int) → Option ((List S_api_Burst))) (hhd1 : ∀ (v10 : (List Int)) (v11 : Int) (v12 : Int) (c22_0 : Int) (c25_0 : Int) (c34_0 : Int) (c31_0 : (List Int)) (l42 : (List S_api_Burst)) (l39 : (List Int)) (sv10 : SV) (sc31_0 : SV) (b36 : Pos) (b22 : Pos) (b25 : Pos) (b28 : Pos) (s42 : SV) (b34 : Pos) (b31 : Pos) (b37 : Pos) (b39 : Pos) (Fr : Rd) (M : Mem) (r : (List S_api_Burst)) (hv10 : Slc Fr 1 (FlatR enc3) sv10 v10) (hc31_0 : Slc Fr 1 (FlatR enc3) sc31_0 c31_0) (hH : Has Fr M [.obj b36 (.loop ⟨.ready, none, 70, 61, treeOf [(4, (.ptr b22 0)), (5, (.ptr b25 0)), (6, .nils), (7, (.ptr b28 0)), (13, (.fn (.func 132) [] [(.ptr b34 0), (.ptr b31 0)]))], [14, 15], (atC Try.prog 70 [1, 1, 0, 1, 0, 0]), (atC Try.prog 70 [1, 1, 0, 1, 0, 1]), b37⟩), .obj b22 (.row 3 .whole [(.int .i64 c22_0)]), .obj b25 (.row 3 .whole [(.int .i64 c25_0)]), .obj b28 (.row 47 .whole [s42]), .vec 51 3 l42.length s42 (l42.flatMap enc51), .obj b34 (.row 3 .whole [(.int .i64 c34_0)]), .obj b31 (.row 38 .whole [sc31_0]), .obj b37 .defd, .obj b39 (.row 159 .whole (l39.flatMap enc3))]), hd1 v10 v11 v12 c22_0 c25_0 c34_0 c31_0 l42 l39 = some r → Run Try.prog ⟨⟨132, [], none⟩, [.mk ⟨70, [b37], none⟩ 61 (treeOf [(7, (.ptr b28 0))]) [.inRange b36, .inBlock 0, codeC Try.prog 70 [1, 1, 1]]]⟩ 34 (search_bursts_post r) [(0, (.yield b36)), (1, (.ptr b34 0)), (4, (.ptr b39 0)), (10, sv10), (11, (.int .i64 v11)), (12, (.int .i64 v12))] [codeC Try.prog 132 [1, 1, 0, 0], loopC Try.prog 132 [1, 1, 0, 0], .inBlock 0] M) : ∀ (v10 : (List Int)) (v11 : Int) (v12 : Int) (v32 : Bool) (c22_0 : Int) (c25_0 : Int) (c34_0 : Int) (c31_0 : (List Int)) (l42 : (List S_api_Burst)) (l39 : (List Int)) (sv10 : SV) (sc31_0 : SV) (b36 : Pos) (b22 : Pos) (b25 : Pos) (b28 : Pos) (s42 : SV) (b34 : Pos) (b31 : Pos) (b37 : Pos) (b39 : Pos) (Fr : Rd) (M : Mem) (r : (List S_api_Burst)) (hv10 : Slc Fr 1 (FlatR enc3) sv10 v10) (hc31_0 : Slc Fr 1 (FlatR enc3) sc31_0 c31_0) (hH : Has Fr M [.obj b36 (.loop ⟨.ready, none, 70, 61, treeOf [(4, (.ptr b22 0)), (5, (.ptr b25 0)), (6, .nils), (7, (.ptr b28 0)), (13, (.fn (.func 132) [] [(.ptr b34 0), (.ptr b31 0)]))], [14, 15], (atC Try.prog 70 [1, 1, 0, 1, 0, 0]), (atC Try.prog 70 [1, 1, 0, 1, 0, 1]), b37⟩), .obj b22 (.row 3 .whole [(.int .i64 c22_0)]), .obj b25 (.row 3 .whole [(.int .i64 c25_0)]), .obj b28 (.row 47 .whole [s42]), .vec 51 3 l42.length s42 (l42.flatMap enc51), .obj b34 (.row 3 .whole [(.int .i64 c34_0)]), .obj b31 (.row 38 .whole [sc31_0]), .obj b37 .defd, .obj b39 (.row 159 .whole (l39.flatMap enc3))]), search_bursts_2 F hd1 v10 v11 v12 v32 c22_0 c25_0 c34_0 c31_0 l42 l39 = some r → Run Try.prog ⟨⟨132, [], none⟩, [.mk ⟨70, [b37], none⟩ 61 (treeOf [(7, (.ptr b28 0))]) [.inRange b36, .inBlock 0, codeC Try.prog 70 [1, 1, 1]]]⟩ 34 (search_bursts_post r) [(0, (.yield b36)), (1, (.ptr b34 0)), (4, (.ptr b39 0)), (10, sv10), (11, (.int .i64 v11)), (12, (.int .i64 v12)), (32, (.bool v32))] [codeC Try.prog 132 [1, 1, 0, 0, 1, 1, 0, 0, 1, 1, 1, 1], .inBlock 1, codeC Try.prog 132 [1, 1, 0, 0, 1, 1, 1], loopC Try.prog 132 [1, 1, 0, 0], .inBlock 0] M := by
  intro v10 v11 v12 v32 c22_0 c25_0 c34_0 c31_0 l42 l39 sv10 sc31_0 b36 b22 b25 b28 s42 b34 b31 b37 b39 Fr M r hv10 hc31_0 hH h
  rw [search_bursts_2] at h
  rcases btf (v32) with hc68 | hc68
  · have h := bif_t hc68 h
    refine Run.condT' rfl hc68 ?_
    refine Run.retRange Try.func132 rfl res_nil ?_
    refine Run.endX hH (i := 0) rfl (fun hc => by cases hc) ?_
    intro M69 (hH69 : Has Fr M69 [.obj b36 (.loop ⟨.exhausted, none, 70, 61, treeOf [(4, (.ptr b22 0)), (5, (.ptr b25 0)), (6, .nils), (7, (.ptr b28 0)), (13, (.fn (.func 132) [] [(.ptr b34 0), (.ptr b31 0)]))], [14, 15], (atC Try.prog 70 [1, 1, 0, 1, 0, 0]), (atC Try.prog 70 [1, 1, 0, 1, 0, 1]), b37⟩), .obj b22 (.row 3 .whole [(.int .i64 c22_0)]), .obj b25 (.row 3 .whole [(.int .i64 c25_0)]), .obj b28 (.row 47 .whole [s42]), .vec 51 3 l42.length s42 (l42.flatMap enc51), .obj b34 (.row 3 .whole [(.int .i64 c34_0)]), .obj b31 (.row 38 .whole [sc31_0]), .obj b37 .defd, .obj b39 (.row 159 .whole (l39.flatMap enc3))])
    refine Run.inBlock (Run.seq (Run.region ?_))
    refine Run.opG wantS_none (ex_load1 rfl (hH69.cells (i := 3) rfl 0 rfl) rdLe_rfl agg47) rfl ?_
    refine Run.opG wantS_none (ex_assign rfl) rfl ?_
    refine Run.opsEnd ?_
    obtain ⟨hH70x, hS70⟩ := hH69.shut (i := 7) (ds := []) rfl
    have hH70 : Has Fr (setT M69 b37 none) [.obj b36 (.loop ⟨.exhausted, none, 70, 61, treeOf [(4, (.ptr b22 0)), (5, (.ptr b25 0)), (6, .nils), (7, (.ptr b28 0)), (13, (.fn (.func 132) [] [(.ptr b34 0), (.ptr b31 0)]))], [14, 15], (atC Try.prog 70 [1, 1, 0, 1, 0, 0]), (atC Try.prog 70 [1, 1, 0, 1, 0, 1]), b37⟩), .obj b22 (.row 3 .whole [(.int .i64 c22_0)]), .obj b25 (.row 3 .whole [(.int .i64 c25_0)]), .obj b28 (.row 47 .whole [s42]), .vec 51 3 l42.length s42 (l42.flatMap enc51), .obj b34 (.row 3 .whole [(.int .i64 c34_0)]), .obj b31 (.row 38 .whole [sc31_0]), .vec 0 0 0 .nils [], .obj b39 (.row 159 .whole (l39.flatMap enc3))] := hH70x
    cases h
    exact Run.ret Try.func70 (hS70 _ rfl) (res_tmp rfl res_nil) ⟨_, rfl, (hH70.pick [4] rfl rfl).upF (none_le _)⟩
  · have h := bif_f hc68 h
    refine Run.condF' rfl hc68 ?_
    refine Run.skip (Run.inBlock (Run.region ?_))
    refine Run.opG wantS_none (ex_add rfl rfl) rfl ?_
    refine Run.opG wantS_none (ex_move rfl) rfl ?_
    refine Run.opsEnd (Run.inLoop ?_)
    exact Run.low (.cons (fle_pick [7] rfl) .nil) (Run.pick [0, 1, 4, 10, 11, 12] (hhd1 v10 v11 (w64 (v12 + (1 : Int))) c22_0 c25_0 c34_0 c31_0 l42 l39 sv10 sc31_0 b36 b22 b25 b28 s42 b34 b31 b37 b39 _ _ _ hv10 hc31_0 hH h))

def search_bursts_3 (F : Nat) (hd1 : (List Int) → Int → Int → Int → Int → Int → (List Int) → (List S_api_Burst) → (List Int) → Option ((List S_api_Burst))) (v8 : Int) (v9 : Int) (v10 : Int) (v32 : Bool) (v10_f1 : (List Int)) (v11_f1 : Int) (v12_f1 : Int) (v25_f1 : Bool) (c22_0 : Int) (c25_0 : Int) (c34_0 : Int) (c31_0 : (List Int)) (l42 : (List S_api_Burst)) (l39 : (List Int)) : Option ((List S_api_Burst)) :=
  bif v32 then
    bnd (inn l42 v10) fun o77 =>
    bnd (l42[o77]?) fun x79 =>
    bnd (upd l42 o77 (S_api_Burst.mk x79.From (w64 (v8 + c22_0)) x79.Peak)) fun l79 =>
    bnd (idx l79 v10) fun x81 =>
    bnd (inn l79 v10) fun o82 =>
    bnd (l79[o82]?) fun x83 =>
    bnd (upd l79 o82 (S_api_Burst.mk x83.From x83.To (max x81.Peak v9))) fun l83 =>
    bif v25_f1 then
      search_bursts_2 F hd1 v10_f1 v11_f1 v12_f1 (!true) c22_0 c25_0 c34_0 c31_0 l83 l39
    else
      search_bursts_2 F hd1 v10_f1 v11_f1 v12_f1 false c22_0 c25_0 c34_0 c31_0 l83 l39
  else
    bnd (apd 24 l42 ([(S_api_Burst.mk v8 (w64 (v8 + c22_0)) v9)] : List S_api_Burst)) fun l92 =>
    bif v25_f1 then
      search_bursts_2 F hd1 v10_f1 v11_f1 v12_f1 (!true) c22_0 c25_0 c34_0 c31_0 l92 l39
    else
      search_bursts_2 F hd1 v10_f1 v11_f1 v12_f1 false c22_0 c25_0 c34_0 c31_0 l92 l39

theorem search_bursts_3_ok (F : Nat) (hd1 : (List Int) → Int → Int → Int → Int → Int → (List Int) → (List S_api_Burst) → (List Int) → Option ((List S_api_Burst))) (hhd1 : ∀ (v10 : (List Int)) (v11 : Int) (v12 : Int) (c22_0 : Int) (c25_0 : Int) (c34_0 : Int) (c31_0 : (List Int)) (l42 : (List S_api_Burst)) (l39 : (List Int)) (sv10 : SV) (sc31_0 : SV) (b36 : Pos) (b22 : Pos) (b25 : Pos) (b28 : Pos) (s42 : SV) (b34 : Pos) (b31 : Pos) (b37 : Pos) (b39 : Pos) (Fr : Rd) (M : Mem) (r : (List S_api_Burst)) (hv10 : Slc Fr 1 (FlatR enc3) sv10 v10) (hc31_0 : Slc Fr 1 (FlatR enc3) sc31_0 c31_0) (hH : Has Fr M [.obj b36 (.loop ⟨.ready, none, 70, 61, treeOf [(4, (.ptr b22 0)), (5, (.ptr b25 0)), (6, .nils), (7, (.ptr b28 0)), (13, (.fn (.func 132) [] [(.ptr b34 0), (.ptr b31 0)]))], [14, 15], (atC Try.prog 70 [1, 1, 0, 1, 0, 0]), (atC Try.prog 70 [1, 1, 0, 1, 0, 1]), b37⟩), .obj b22 (.row 3 .whole [(.int .i64 c22_0)]), .obj b25 (.row 3 .whole [(.int .i64 c25_0)]), .obj b28 (.row 47 .whole [s42]), .vec 51 3 l42.length s42 (l42.flatMap enc51), .obj b34 (.row 3 .whole [(.int .i64 c34_0)]), .obj b31 (.row 38 .whole [sc31_0]), .obj b37 .defd, .obj b39 (.row 159 .whole (l39.flatMap enc3))]), hd1 v10 v11 v12 c22_0 c25_0 c34_0 c31_0 l42 l39 = some r → Run Try.prog ⟨⟨132, [], none⟩, [.mk ⟨70, [b37], none⟩ 61 (treeOf [(7, (.ptr b28 0))]) [.inRange b36, .inBlock 0, codeC Try.prog 70 [1, 1, 1]]]⟩ 34 (search_bursts_post r) [(0, (.yield b36)), (1, (.ptr b34 0)), (4, (.ptr b39 0)), (10, sv10), (11, (.int .i64 v11)), (12, (.int .i64 v12))] [codeC Try.prog 132 [1, 1, 0, 0], loopC Try.prog 132 [1, 1, 0, 0], .inBlock 0] M) : ∀ (v8 : Int) (v9 : Int) (v10 : Int) (v32 : Bool) (v10_f1 : (List Int)) (v11_f1 : Int) (v12_f1 : Int) (v25_f1 : Bool) (c22_0 : Int) (c25_0 : Int) (c34_0 : Int) (c31_0 : (List Int)) (l42 : (List S_api_Burst)) (l39 : (List Int)) (sv10_f1 : SV) (sc31_0 : SV) (b22 : Pos) (b28 : Pos) (s42 : SV) (b36 : Pos) (b25 : Pos) (b34 : Pos) (b31 : Pos) (b37 : Pos) (b39 : Pos) (Fr : Rd) (M : Mem) (r : (List S_api_Burst)) (hv10_f1 : Slc Fr 1 (FlatR enc3) sv10_f1 v10_f1) (hc31_0 : Slc Fr 1 (FlatR enc3) sc31_0 c31_0) (hH : Has Fr M [.obj b22 (.row 3 .whole [(.int .i64 c22_0)]), .obj b28 (.row 47 .whole [s42]), .vec 51 3 l42.length s42 (l42.flatMap enc51), .obj b36 (.loop ⟨.busy, none, 70, 61, treeOf [(4, (.ptr b22 0)), (5, (.ptr b25 0)), (6, .nils), (7, (.ptr b28 0)), (13, (.fn (.func 132) [] [(.ptr b34 0), (.ptr b31 0)]))], [14, 15], (atC Try.prog 70 [1, 1, 0, 1, 0, 0]), (atC Try.prog 70 [1, 1, 0, 1, 0, 1]), b37⟩), .obj b25 (.row 3 .whole [(.int .i64 c25_0)]), .obj b34 (.row 3 .whole [(.int .i64 c34_0)]), .obj b31 (.row 38 .whole [sc31_0]), .obj b37 .defd, .obj b39 (.row 159 .whole (l39.flatMap enc3))]), search_bursts_3 F hd1 v8 v9 v10 v32 v10_f1 v11_f1 v12_f1 v25_f1 c22_0 c25_0 c34_0 c31_0 l42 l39 = some r → Run Try.prog ⟨⟨70, [], some b36⟩, [.mk ⟨132, [], none⟩ 34 (treeOf [(0, (.yield b36)), (1, (.ptr b34 0)), (4, (.ptr b39 0)), (10, sv10_f1), (11, (.int .i64 v11_f1)), (12, (.int .i64 v12_f1)), (25, (.bool v25_f1))]) [itemC Try.prog 132 [1, 1, 0, 0, 1, 1, 0, 0, 1, 1, 1, 0] 7, codeC Try.prog 132 [1, 1, 0, 0, 1, 1, 0, 0, 1, 1, 1, 1], .inBlock 1, codeC Try.prog 132 [1, 1, 0, 0, 1, 1, 1], loopC Try.prog 132 [1, 1, 0, 0], .inBlock 0], .mk ⟨70, [b37], none⟩ 61 (treeOf [(7, (.ptr b28 0))]) [.inRange b36, .inBlock 0, codeC Try.prog 70 [1, 1, 1]]]⟩ 61 (search_bursts_post r) [(4, (.ptr b22 0)), (6, .nils), (7, (.ptr b28 0)), (8, (.int .i64 v8)), (9, (.int .i64 v9)), (10, (.int .i64 v10)), (32, (.bool v32))] [codeC Try.prog 70 [1, 1, 0, 1, 0, 1, 0, 1, 1, 1], .inBlock 1] M := by
  intro v8 v9 v10 v32 v10_f1 v11_f1 v12_f1 v25_f1 c22_0 c25_0 c34_0 c31_0 l42 l39 sv10_f1 sc31_0 b22 b28 s42 b36 b25 b34 b31 b37 b39 Fr M r hv10_f1 hc31_0 hH h
  rw [search_bursts_3] at h
  rcases btf (v32) with hc75 | hc75
  · have h := bif_t hc75 h
    refine Run.condT' rfl hc75 ?_
    refine Run.seq (Run.region ?_)
    refine Run.opG wantS_none (ex_load1 rfl (hH.cells (i := 1) rfl 0 rfl) rdLe_rfl agg47) rfl ?_
    refine Run.opG wantS_none (ex_move rfl) rfl ?_
    refine Run.opG wantS_none (ex_move rfl) rfl ?_
    refine Run.opG wantS_none (ex_load1 rfl (hH.cells (i := 0) rfl 0 rfl) rdLe_rfl agg3) rfl ?_
    refine Run.opG wantS_none (ex_add rfl rfl) rfl ?_
    obtain ⟨o77, ho77, h⟩ := bnd_some h
    obtain ⟨p77, hb77, hx77⟩ := vec_place (P := Try.prog) (t := 47) (kk := .i64) hH (i := 2) rfl ho77 els47
    refine Run.opG wantS_none (ex_elX rfl rfl hx77) rfl ?_
    refine Run.opG wantS_none (ex_fieldAddr rfl off51_1) rfl ?_
    obtain ⟨x79, hx79, h⟩ := bnd_some h
    obtain ⟨l79, hl79, h⟩ := bnd_some h
    refine Run.opX wantS_none rfl (ExG.storeFld (o := 1) rfl rfl hH (i := 2) rfl hb77 hx79 hl79 sz3 rfl rfl rfl rfl enc51_len) ?_
    rintro _ M80 ⟨rfl, (hH80 : Has Fr M80 [.obj b22 (.row 3 .whole [(.int .i64 c22_0)]), .obj b28 (.row 47 .whole [s42]), .vec 51 3 l79.length s42 (l79.flatMap enc51), .obj b36 (.loop ⟨.busy, none, 70, 61, treeOf [(4, (.ptr b22 0)), (5, (.ptr b25 0)), (6, .nils), (7, (.ptr b28 0)), (13, (.fn (.func 132) [] [(.ptr b34 0), (.ptr b31 0)]))], [14, 15], (atC Try.prog 70 [1, 1, 0, 1, 0, 0]), (atC Try.prog 70 [1, 1, 0, 1, 0, 1]), b37⟩), .obj b25 (.row 3 .whole [(.int .i64 c25_0)]), .obj b34 (.row 3 .whole [(.int .i64 c34_0)]), .obj b31 (.row 38 .whole [sc31_0]), .obj b37 .defd, .obj b39 (.row 159 .whole (l39.flatMap enc3))])⟩
    refine Run.opsEnd ?_
    refine Run.drawG plan70_1_1_0_1_0_1_0_1_1_1_0_1 ?_
    refine DrawG.fl rfl (ev_ex wantS_none (ex_load1 rfl (hH80.cells (i := 1) rfl 0 rfl) rdLe_rfl agg47)) rfl ?_
    refine DrawG.fl rfl (ev_ex wantS_none (ex_move rfl)) rfl ?_
    refine DrawG.fl rfl (ev_ex wantS_none (ex_load1 rfl (hH80.cells (i := 1) rfl 0 rfl) rdLe_rfl agg47)) rfl ?_
    refine DrawG.fl rfl (ev_ex wantS_none (ex_move rfl)) rfl ?_
    obtain ⟨x81, hx81, h⟩ := bnd_some h
    obtain ⟨p81, o81, hb81, hx81, he81⟩ := vec_elem (P := Try.prog) (t := 47) (kk := .i64) hH80 (i := 2) rfl hx81 els47
    refine DrawG.fl rfl (ev_ex wantS_none (ex_elX rfl rfl hx81)) rfl ?_
    refine DrawG.fl rfl (ev_ex wantS_none (ex_fieldAddr rfl off51_2)) rfl ?_
    refine DrawG.fl rfl (ev_ex wantS_none (ex_load1 rfl ((hH80.at (enc := enc51) (a := x81) (i := 2) rfl hb81 he81 enc51_len).fld (o := 2) rfl) rdLe_rfl agg3)) rfl ?_
    refine DrawG.fl rfl (ev_ex wantS_none (ex_move rfl)) rfl ?_
    refine DrawG.fl rfl (ev_ex wantS_none (ex_max rfl rfl)) rfl ?_
    obtain ⟨o82, ho82, h⟩ := bnd_some h
    obtain ⟨p82, hb82, hx82⟩ := vec_place (P := Try.prog) (t := 47) (kk := .i64) hH80 (i := 2) rfl ho82 els47
    refine DrawG.fl rfl (ev_ex wantS_none (ex_elX rfl rfl hx82)) rfl ?_
    refine DrawG.fl rfl (ev_ex wantS_none (ex_fieldAddr rfl off51_2)) rfl ?_
    obtain ⟨x83, hx83, h⟩ := bnd_some h
    obtain ⟨l83, hl83, h⟩ := bnd_some h
    refine DrawG.opX rfl wantS_none rfl (ExG.storeFld (o := 2) rfl rfl hH80 (i := 2) rfl hb82 hx83 hl83 sz3 rfl rfl rfl rfl enc51_len) ?_
    rintro _ M84 ⟨rfl, (hH84 : Has Fr M84 [.obj b22 (.row 3 .whole [(.int .i64 c22_0)]), .obj b28 (.row 47 .whole [s42]), .vec 51 3 l83.length s42 (l83.flatMap enc51), .obj b36 (.loop ⟨.busy, none, 70, 61, treeOf [(4, (.ptr b22 0)), (5, (.ptr b25 0)), (6, .nils), (7, (.ptr b28 0)), (13, (.fn (.func 132) [] [(.ptr b34 0), (.ptr b31 0)]))], [14, 15], (atC Try.prog 70 [1, 1, 0, 1, 0, 0]), (atC Try.prog 70 [1, 1, 0, 1, 0, 1]), b37⟩), .obj b25 (.row 3 .whole [(.int .i64 c25_0)]), .obj b34 (.row 3 .whole [(.int .i64 c34_0)]), .obj b31 (.row 38 .whole [sc31_0]), .obj b37 .defd, .obj b39 (.row 159 .whole (l39.flatMap enc3))])⟩
    refine ⟨st_nil, ?_⟩
    refine DrawG.sync ?_
    refine DrawG.nil ?_
    refine Run.inBlock ?_
    refine Run.roundEndX hH84 (i := 3) rfl rfl ?_
    intro M85 (hH85 : Has Fr M85 [.obj b22 (.row 3 .whole [(.int .i64 c22_0)]), .obj b28 (.row 47 .whole [s42]), .vec 51 3 l83.length s42 (l83.flatMap enc51), .obj b36 (.loop ⟨.ready, none, 70, 61, treeOf [(4, (.ptr b22 0)), (5, (.ptr b25 0)), (6, .nils), (7, (.ptr b28 0)), (13, (.fn (.func 132) [] [(.ptr b34 0), (.ptr b31 0)]))], [14, 15], (atC Try.prog 70 [1, 1, 0, 1, 0, 0]), (atC Try.prog 70 [1, 1, 0, 1, 0, 1]), b37⟩), .obj b25 (.row 3 .whole [(.int .i64 c25_0)]), .obj b34 (.row 3 .whole [(.int .i64 c34_0)]), .obj b31 (.row 38 .whole [sc31_0]), .obj b37 .defd, .obj b39 (.row 159 .whole (l39.flatMap enc3))])
    rcases btf (v25_f1) with hc86 | hc86
    · have h := bif_t hc86 h
      refine Run.opG (wantS_yes' rfl rfl hc86) (ex_not rfl) rfl ?_
      refine Run.opG wantS_none (ex_pickT' rfl hc86 rfl rfl) rfl ?_
      refine Run.opsEnd ?_
      exact Run.low (.cons (fle_pick [7] rfl) .nil) (Run.pick [0, 1, 4, 10, 11, 12, 32] (search_bursts_2_ok F hd1 hhd1 v10_f1 v11_f1 v12_f1 (!true) c22_0 c25_0 c34_0 c31_0 l83 l39 sv10_f1 sc31_0 b36 b22 b25 b28 s42 b34 b31 b37 b39 _ _ _ hv10_f1 hc31_0 (hH85.pick [3, 0, 4, 1, 2, 5, 6, 7, 8] rfl rfl) h))
    · have h := bif_f hc86 h
      refine Run.no (wantS_not' rfl rfl hc86) rfl ?_
      refine Run.opG wantS_none (ex_pickF' rfl hc86 rfl rfl) rfl ?_
      refine Run.opsEnd ?_
      exact Run.low (.cons (fle_pick [7] rfl) .nil) (Run.pick [0, 1, 4, 10, 11, 12, 32] (search_bursts_2_ok F hd1 hhd1 v10_f1 v11_f1 v12_f1 false c22_0 c25_0 c34_0 c31_0 l83 l39 sv10_f1 sc31_0 b36 b22 b25 b28 s42 b34 b31 b37 b39 _ _ _ hv10_f1 hc31_0 (hH85.pick [3, 0, 4, 1, 2, 5, 6, 7, 8] rfl rfl) h))
  · have h := bif_f hc75 h
    refine Run.condF' rfl hc75 ?_
    refine Run.region ?_
    refine Run.opG wantS_none (ex_load1 rfl (hH.cells (i := 1) rfl 0 rfl) rdLe_rfl agg47) rfl ?_
    refine Run.opG wantS_none (ex_move rfl) rfl ?_
    refine Run.opG wantS_none (ex_move rfl) rfl ?_
    refine Run.opG wantS_none (ex_load1 rfl (hH.cells (i := 0) rfl 0 rfl) rdLe_rfl agg3) rfl ?_
    refine Run.opG wantS_none (ex_add rfl rfl) rfl ?_
    refine Run.opG wantS_none (ex_move rfl) rfl ?_
    refine Run.opG wantS_none (ex_build (r := [(.int .i64 v8), (.int .i64 (w64 (v8 + c22_0))), (.int .i64 v9)]) rfl zer51 pls51 rfl) rfl ?_
    refine Run.opX wantS_none rfl (ExG.built (enc := enc51) (l := ([(S_api_Burst.mk v8 (w64 (v8 + c22_0)) v9)] : List S_api_Burst)) (z := 3) rfl elt47 rfl rfl rfl enc51_len hH) ?_
    rintro s88 M89 (hH89 : Has Fr M89 [.vec 51 3 ([(S_api_Burst.mk v8 (w64 (v8 + c22_0)) v9)] : List S_api_Burst).length s88 (([(S_api_Burst.mk v8 (w64 (v8 + c22_0)) v9)] : List S_api_Burst).flatMap enc51), .obj b22 (.row 3 .whole [(.int .i64 c22_0)]), .obj b28 (.row 47 .whole [s42]), .vec 51 3 l42.length s42 (l42.flatMap enc51), .obj b36 (.loop ⟨.busy, none, 70, 61, treeOf [(4, (.ptr b22 0)), (5, (.ptr b25 0)), (6, .nils), (7, (.ptr b28 0)), (13, (.fn (.func 132) [] [(.ptr b34 0), (.ptr b31 0)]))], [14, 15], (atC Try.prog 70 [1, 1, 0, 1, 0, 0]), (atC Try.prog 70 [1, 1, 0, 1, 0, 1]), b37⟩), .obj b25 (.row 3 .whole [(.int .i64 c25_0)]), .obj b34 (.row 3 .whole [(.int .i64 c34_0)]), .obj b31 (.row 38 .whole [sc31_0]), .obj b37 .defd, .obj b39 (.row 159 .whole (l39.flatMap enc3))])
    obtain ⟨l92, hl92, h⟩ := bnd_some h
    refine Run.opX wantS_none rfl (ExG.append rfl rfl hH89 (i := 3) rfl enc51_len rfl enc51_ones appt47_47 rfl (len_slc (hH89.slc (i := 0) rfl enc51_len)) (first_slc (hH89.slc (i := 0) rfl enc51_len) (rdLe_rdRow _) enc51_len) hl92) ?_
    rintro s92 M94 (hH94 : Has Fr M94 [.vec 51 3 ([(S_api_Burst.mk v8 (w64 (v8 + c22_0)) v9)] : List S_api_Burst).length s88 (([(S_api_Burst.mk v8 (w64 (v8 + c22_0)) v9)] : List S_api_Burst).flatMap enc51), .obj b22 (.row 3 .whole [(.int .i64 c22_0)]), .obj b28 (.row 47 .whole [s42]), .vec 51 3 l92.length s92 (l92.flatMap enc51), .obj b36 (.loop ⟨.busy, none, 70, 61, treeOf [(4, (.ptr b22 0)), (5, (.ptr b25 0)), (6, .nils), (7, (.ptr b28 0)), (13, (.fn (.func 132) [] [(.ptr b34 0), (.ptr b31 0)]))], [14, 15], (atC Try.prog 70 [1, 1, 0, 1, 0, 0]), (atC Try.prog 70 [1, 1, 0, 1, 0, 1]), b37⟩), .obj b25 (.row 3 .whole [(.int .i64 c25_0)]), .obj b34 (.row 3 .whole [(.int .i64 c34_0)]), .obj b31 (.row 38 .whole [sc31_0]), .obj b37 .defd, .obj b39 (.row 159 .whole (l39.flatMap enc3))])
    refine Run.opX wantS_none rfl (ExG.storeC (c' := [s92]) rfl rfl (cells_one (vec_one hH94 (i := 3) rfl)) hH94 (i := 2) rfl sz47 rfl rfl rfl (ones_cons (vec_one hH94 (i := 3) rfl) ones_nil) rfl) ?_
    rintro _ M95 ⟨rfl, (hH95 : Has Fr M95 [.vec 51 3 ([(S_api_Burst.mk v8 (w64 (v8 + c22_0)) v9)] : List S_api_Burst).length s88 (([(S_api_Burst.mk v8 (w64 (v8 + c22_0)) v9)] : List S_api_Burst).flatMap enc51), .obj b22 (.row 3 .whole [(.int .i64 c22_0)]), .obj b28 (.row 47 .whole [s92]), .vec 51 3 l92.length s92 (l92.flatMap enc51), .obj b36 (.loop ⟨.busy, none, 70, 61, treeOf [(4, (.ptr b22 0)), (5, (.ptr b25 0)), (6, .nils), (7, (.ptr b28 0)), (13, (.fn (.func 132) [] [(.ptr b34 0), (.ptr b31 0)]))], [14, 15], (atC Try.prog 70 [1, 1, 0, 1, 0, 0]), (atC Try.prog 70 [1, 1, 0, 1, 0, 1]), b37⟩), .obj b25 (.row 3 .whole [(.int .i64 c25_0)]), .obj b34 (.row 3 .whole [(.int .i64 c34_0)]), .obj b31 (.row 38 .whole [sc31_0]), .obj b37 .defd, .obj b39 (.row 159 .whole (l39.flatMap enc3))])⟩
    refine Run.opsEnd (Run.inBlock ?_)
    refine Run.roundEndX hH95 (i := 4) rfl rfl ?_
    intro M96 (hH96 : Has Fr M96 [.vec 51 3 ([(S_api_Burst.mk v8 (w64 (v8 + c22_0)) v9)] : List S_api_Burst).length s88 (([(S_api_Burst.mk v8 (w64 (v8 + c22_0)) v9)] : List S_api_Burst).flatMap enc51), .obj b22 (.row 3 .whole [(.int .i64 c22_0)]), .obj b28 (.row 47 .whole [s92]), .vec 51 3 l92.length s92 (l92.flatMap enc51), .obj b36 (.loop ⟨.ready, none, 70, 61, treeOf [(4, (.ptr b22 0)), (5, (.ptr b25 0)), (6, .nils), (7, (.ptr b28 0)), (13, (.fn (.func 132) [] [(.ptr b34 0), (.ptr b31 0)]))], [14, 15], (atC Try.prog 70 [1, 1, 0, 1, 0, 0]), (atC Try.prog 70 [1, 1, 0, 1, 0, 1]), b37⟩), .obj b25 (.row 3 .whole [(.int .i64 c25_0)]), .obj b34 (.row 3 .whole [(.int .i64 c34_0)]), .obj b31 (.row 38 .whole [sc31_0]), .obj b37 .defd, .obj b39 (.row 159 .whole (l39.flatMap enc3))])
    rcases btf (v25_f1) with hc97 | hc97
    · have h := bif_t hc97 h
      refine Run.opG (wantS_yes' rfl rfl hc97) (ex_not rfl) rfl ?_
      refine Run.opG wantS_none (ex_pickT' rfl hc97 rfl rfl) rfl ?_
      refine Run.opsEnd ?_
      exact Run.low (.cons (fle_pick [7] rfl) .nil) (Run.pick [0, 1, 4, 10, 11, 12, 32] (search_bursts_2_ok F hd1 hhd1 v10_f1 v11_f1 v12_f1 (!true) c22_0 c25_0 c34_0 c31_0 l92 l39 sv10_f1 sc31_0 b36 b22 b25 b28 s92 b34 b31 b37 b39 _ _ _ hv10_f1 hc31_0 (hH96.pick [4, 1, 5, 2, 3, 6, 7, 8, 9] rfl rfl) h))
    · have h := bif_f hc97 h
      refine Run.no (wantS_not' rfl rfl hc97) rfl ?_
      refine Run.opG wantS_none (ex_pickF' rfl hc97 rfl rfl) rfl ?_
      refine Run.opsEnd ?_
      exact Run.low (.cons (fle_pick [7] rfl) .nil) (Run.pick [0, 1, 4, 10, 11, 12, 32] (search_bursts_2_ok F hd1 hhd1 v10_f1 v11_f1 v12_f1 false c22_0 c25_0 c34_0 c31_0 l92 l39 sv10_f1 sc31_0 b36 b22 b25 b28 s92 b34 b31 b37 b39 _ _ _ hv10_f1 hc31_0 (hH96.pick [4, 1, 5, 2, 3, 6, 7, 8, 9] rfl rfl) h))

def search_bursts_1 (F : Nat) : Nat → (List Int) → Int → Int → Int → Int → Int → (List Int) → (List S_api_Burst) → (List Int) → Option ((List S_api_Burst))
  | 0, _, _, _, _, _, _, _, _, _ => none
  | N + 1, v10, v11, v12, c22_0, c25_0, c34_0, c31_0, l42, l39 =>
    bif (decide (v12 < v11)) then
      bnd (idx v10 v12) fun x46 =>
      bnd (l39[(1026 : Nat)]?) fun x47 =>
      bnd (l39[(1025 : Nat)]?) fun x48 =>
      bnd (inA x48 1024) fun o49 =>
      bnd (l39[((0 + o49 * 1) : Nat)]?) fun x50 =>
      bnd (upd l39 ((1026 : Nat) : Int) (w64 (x47 + (w64 ((w64 (x46 * x46)) - x50))))) fun l51 =>
      bnd (l51[(1025 : Nat)]?) fun x53 =>
      bnd (inA x53 1024) fun o54 =>
      bnd (upd l51 (((0 + o54 * 1) : Nat) : Int) (w64 (x46 * x46))) fun l55 =>
      bnd (l55[(1025 : Nat)]?) fun x57 =>
      bnd (l55[(1024 : Nat)]?) fun x58 =>
      bnd (nz x58) fun z59 =>
      bnd (upd l55 ((1025 : Nat) : Int) (Int.tmod (w64 (x57 + (1 : Int))) x58)) fun l60 =>
      bif (decide ((0 : Int) ≤ (w64 ((w64 (v12 + (1 : Int))) - c34_0)))) then
        bnd (l60[(1026 : Nat)]?) fun x64 =>
        bif (decide (x64 < c25_0)) then
          search_bursts_2 F (search_bursts_1 F N) v10 v11 v12 (!true) c22_0 c25_0 c34_0 c31_0 l42 l60
        else
          bif (decide ((0 : Int) ≤ (w64 ((l42.length : Int) - (1 : Int))))) then
            bnd (idx l42 (w64 ((l42.length : Int) - (1 : Int)))) fun x74 =>
            search_bursts_3 F (search_bursts_1 F N) (w64 ((w64 (v12 + (1 : Int))) - c34_0)) x64 (w64 ((l42.length : Int) - (1 : Int))) (decide ((w64 ((w64 (v12 + (1 : Int))) - c34_0)) ≤ x74.To)) v10 v11 v12 (decide ((0 : Int) ≤ (w64 ((w64 (v12 + (1 : Int))) - c34_0)))) c22_0 c25_0 c34_0 c31_0 l42 l60
          else
            search_bursts_3 F (search_bursts_1 F N) (w64 ((w64 (v12 + (1 : Int))) - c34_0)) x64 (w64 ((l42.length : Int) - (1 : Int))) false v10 v11 v12 (decide ((0 : Int) ≤ (w64 ((w64 (v12 + (1 : Int))) - c34_0)))) c22_0 c25_0 c34_0 c31_0 l42 l60
      else
        search_bursts_2 F (search_bursts_1 F N) v10 v11 v12 false c22_0 c25_0 c34_0 c31_0 l42 l60
    else
      some l42

theorem search_bursts_1_ok (F : Nat) : ∀ (N : Nat), ∀ (v10 : (List Int)) (v11 : Int) (v12 : Int) (c22_0 : Int) (c25_0 : Int) (c34_0 : Int) (c31_0 : (List Int)) (l42 : (List S_api_Burst)) (l39 : (List Int)) (sv10 : SV) (sc31_0 : SV) (b36 : Pos) (b22 : Pos) (b25 : Pos) (b28 : Pos) (s42 : SV) (b34 : Pos) (b31 : Pos) (b37 : Pos) (b39 : Pos) (Fr : Rd) (M : Mem) (r : (List S_api_Burst)) (hv10 : Slc Fr 1 (FlatR enc3) sv10 v10) (hc31_0 : Slc Fr 1 (FlatR enc3) sc31_0 c31_0) (hH : Has Fr M [.obj b36 (.loop ⟨.ready, none, 70, 61, treeOf [(4, (.ptr b22 0)), (5, (.ptr b25 0)), (6, .nils), (7, (.ptr b28 0)), (13, (.fn (.func 132) [] [(.ptr b34 0), (.ptr b31 0)]))], [14, 15], (atC Try.prog 70 [1, 1, 0, 1, 0, 0]), (atC Try.prog 70 [1, 1, 0, 1, 0, 1]), b37⟩), .obj b22 (.row 3 .whole [(.int .i64 c22_0)]), .obj b25 (.row 3 .whole [(.int .i64 c25_0)]), .obj b28 (.row 47 .whole [s42]), .vec 51 3 l42.length s42 (l42.flatMap enc51), .obj b34 (.row 3 .whole [(.int .i64 c34_0)]), .obj b31 (.row 38 .whole [sc31_0]), .obj b37 .defd, .obj b39 (.row 159 .whole (l39.flatMap enc3))]), search_bursts_1 F N v10 v11 v12 c22_0 c25_0 c34_0 c31_0 l42 l39 = some r → Run Try.prog ⟨⟨132, [], none⟩, [.mk ⟨70, [b37], none⟩ 61 (treeOf [(7, (.ptr b28 0))]) [.inRange b36, .inBlock 0, codeC Try.prog 70 [1, 1, 1]]]⟩ 34 (search_bursts_post r) [(0, (.yield b36)), (1, (.ptr b34 0)), (4, (.ptr b39 0)), (10, sv10), (11, (.int .i64 v11)), (12, (.int .i64 v12))] [codeC Try.prog 132 [1, 1, 0, 0], loopC Try.prog 132 [1, 1, 0, 0], .inBlock 0] M := by
  intro N
  induction N with
  | zero =>
    intro v10 v11 v12 c22_0 c25_0 c34_0 c31_0 l42 l39 sv10 sc31_0 b36 b22 b25 b28 s42 b34 b31 b37 b39 Fr M r hv10 hc31_0 hH h
    simp [search_bursts_1] at h
  | succ N ih =>
    intro v10 v11 v12 c22_0 c25_0 c34_0 c31_0 l42 l39 sv10 sc31_0 b36 b22 b25 b28 s42 b34 b31 b37 b39 Fr M r hv10 hc31_0 hH h
    rw [search_bursts_1] at h
    refine Run.seq (Run.region ?_)
    refine Run.opG wantS_none (ex_lss rfl rfl) rfl ?_
    refine Run.opsEnd (Run.seq ?_)
    rcases btf ((decide (v12 < v11))) with hc44 | hc44
    · have h := bif_t hc44 h
      refine Run.condT' rfl hc44 ?_
      refine Run.skip (Run.seq (Run.block (Run.seq (Run.region ?_))))
      refine Run.opG wantS_none (ex_move rfl) rfl ?_
      obtain ⟨x46, hx46, h⟩ := bnd_some h
      obtain ⟨p46, o46, _, hx46, hp46, rfl⟩ := sl_elem (P := Try.prog) (t := 38) (kk := .i64) hv10 hx46 els38
      refine Run.opG wantS_none (ex_elX rfl rfl hx46) rfl ?_
      refine Run.opG wantS_none (ex_load1 rfl (hH.ptrF hp46) rdLe_rfl agg3) rfl ?_
      refine Run.opG wantS_none (ex_assign rfl) rfl ?_
      refine Run.opG wantS_none (ex_assign rfl) rfl ?_
      refine Run.opsEnd (Run.seq (Run.region ?_))
      refine Run.opG wantS_none (ex_move rfl) rfl ?_
      refine Run.enter wantS_none (ex_call rfl mkk133 cal133) Try.func133 rfl rfl ?_
      refine Run.seq ?_
      refine Run.drawG plan133_0 ?_
      refine DrawG.fl rfl (ev_ex wantS_none (ex_move rfl)) rfl ?_
      refine DrawG.fl rfl (ev_ex wantS_none (ex_nilP rfl)) rfl ?_
      refine DrawG.fl rfl (ev_ex wantS_none (ex_fieldAddr rfl off159_3)) rfl ?_
      obtain ⟨x47, hx47, h⟩ := bnd_some h
      refine DrawG.fl rfl (ev_ex wantS_none (ex_load1 rfl (hH.arrAt (enc := enc3) (a := x47) (i := 8) rfl hx47 enc3_len) rdLe_rfl agg3)) rfl ?_
      refine DrawG.fl rfl (ev_ex wantS_none (ex_move rfl)) rfl ?_
      refine DrawG.fl rfl (ev_ex wantS_none (ex_move rfl)) rfl ?_
      refine DrawG.fl rfl (ev_ex wantS_none (ex_mul rfl rfl)) rfl ?_
      refine DrawG.fl rfl (ev_ex wantS_none (ex_move rfl)) rfl ?_
      refine DrawG.fl rfl (ev_ex wantS_none (ex_move rfl)) rfl ?_
      refine DrawG.fl rfl (ev_ex wantS_none (ex_nilP rfl)) rfl ?_
      refine DrawG.fl rfl (ev_ex wantS_none (ex_fieldAddr rfl off159_2)) rfl ?_
      obtain ⟨x48, hx48, h⟩ := bnd_some h
      refine DrawG.fl rfl (ev_ex wantS_none (ex_load1 rfl (hH.arrAt (enc := enc3) (a := x48) (i := 8) rfl hx48 enc3_len) rdLe_rfl agg3)) rfl ?_
      refine DrawG.fl rfl (ev_ex wantS_none (ex_nilP rfl)) rfl ?_
      refine DrawG.fl rfl (ev_ex wantS_none (ex_fieldAddr rfl off159_0)) rfl ?_
      obtain ⟨o49, ho49, h⟩ := bnd_some h
      refine DrawG.fl rfl (ev_ex wantS_none (ex_elX rfl rfl (arr_place (inA_natIn ho49) els157))) rfl ?_
      obtain ⟨x50, hx50, h⟩ := bnd_some h
      refine DrawG.fl rfl (ev_ex wantS_none (ex_load1 rfl (hH.arrAt (enc := enc3) (a := x50) (i := 8) rfl hx50 enc3_len) rdLe_rfl agg3)) rfl ?_
      refine DrawG.fl rfl (ev_ex wantS_none (ex_sub rfl rfl)) rfl ?_
      refine DrawG.fl rfl (ev_ex wantS_none (ex_add rfl rfl)) rfl ?_
      refine DrawG.fl rfl (ev_ex wantS_none (ex_nilP rfl)) rfl ?_
      refine DrawG.fl rfl (ev_ex wantS_none (ex_fieldAddr rfl off159_3)) rfl ?_
      obtain ⟨l51, hl51, h⟩ := bnd_some h
      refine DrawG.opX rfl wantS_none rfl (ExG.storeA rfl rfl hH (i := 8) rfl hl51 sz3 rfl enc3_len enc3_ones) ?_
      rintro _ M52 ⟨rfl, (hH52 : Has Fr M52 [.obj b36 (.loop ⟨.ready, none, 70, 61, treeOf [(4, (.ptr b22 0)), (5, (.ptr b25 0)), (6, .nils), (7, (.ptr b28 0)), (13, (.fn (.func 132) [] [(.ptr b34 0), (.ptr b31 0)]))], [14, 15], (atC Try.prog 70 [1, 1, 0, 1, 0, 0]), (atC Try.prog 70 [1, 1, 0, 1, 0, 1]), b37⟩), .obj b22 (.row 3 .whole [(.int .i64 c22_0)]), .obj b25 (.row 3 .whole [(.int .i64 c25_0)]), .obj b28 (.row 47 .whole [s42]), .vec 51 3 l42.length s42 (l42.flatMap enc51), .obj b34 (.row 3 .whole [(.int .i64 c34_0)]), .obj b31 (.row 38 .whole [sc31_0]), .obj b37 .defd, .obj b39 (.row 159 .whole (l51.flatMap enc3))])⟩
      refine ⟨st_nil, ?_⟩
      refine DrawG.sync ?_
      refine DrawG.nil ?_
      refine Run.seq ?_
      refine Run.drawG plan133_1_0 ?_
      refine DrawG.fl rfl (ev_ex wantS_none (ex_move rfl)) rfl ?_
      refine DrawG.fl rfl (ev_ex wantS_none (ex_move rfl)) rfl ?_
      refine DrawG.fl rfl (ev_ex wantS_none (ex_nilP rfl)) rfl ?_
      refine DrawG.fl rfl (ev_ex wantS_none (ex_fieldAddr rfl off159_2)) rfl ?_
      obtain ⟨x53, hx53, h⟩ := bnd_some h
      refine DrawG.fl rfl (ev_ex wantS_none (ex_load1 rfl (hH52.arrAt (enc := enc3) (a := x53) (i := 8) rfl hx53 enc3_len) rdLe_rfl agg3)) rfl ?_
      refine DrawG.fl rfl (ev_ex wantS_none (ex_move rfl)) rfl ?_
      refine DrawG.fl rfl (ev_ex wantS_none (ex_move rfl)) rfl ?_
      refine DrawG.fl rfl (ev_ex wantS_none (ex_mul rfl rfl)) rfl ?_
      refine DrawG.fl rfl (ev_ex wantS_none (ex_nilP rfl)) rfl ?_
      refine DrawG.fl rfl (ev_ex wantS_none (ex_fieldAddr rfl off159_0)) rfl ?_
      obtain ⟨o54, ho54, h⟩ := bnd_some h
      refine DrawG.fl rfl (ev_ex wantS_none (ex_elX rfl rfl (arr_place (inA_natIn ho54) els157))) rfl ?_
      obtain ⟨l55, hl55, h⟩ := bnd_some h
      refine DrawG.opX rfl wantS_none rfl (ExG.storeA rfl rfl hH52 (i := 8) rfl hl55 sz3 rfl enc3_len enc3_ones) ?_
      rintro _ M56 ⟨rfl, (hH56 : Has Fr M56 [.obj b36 (.loop ⟨.ready, none, 70, 61, treeOf [(4, (.ptr b22 0)), (5, (.ptr b25 0)), (6, .nils), (7, (.ptr b28 0)), (13, (.fn (.func 132) [] [(.ptr b34 0), (.ptr b31 0)]))], [14, 15], (atC Try.prog 70 [1, 1, 0, 1, 0, 0]), (atC Try.prog 70 [1, 1, 0, 1, 0, 1]), b37⟩), .obj b22 (.row 3 .whole [(.int .i64 c22_0)]), .obj b25 (.row 3 .whole [(.int .i64 c25_0)]), .obj b28 (.row 47 .whole [s42]), .vec 51 3 l42.length s42 (l42.flatMap enc51), .obj b34 (.row 3 .whole [(.int .i64 c34_0)]), .obj b31 (.row 38 .whole [sc31_0]), .obj b37 .defd, .obj b39 (.row 159 .whole (l55.flatMap enc3))])⟩
      refine ⟨st_nil, ?_⟩
      refine DrawG.sync ?_
      refine DrawG.nil ?_
      refine Run.drawG plan133_1_1 ?_
      refine DrawG.fl rfl (ev_ex wantS_none (ex_move rfl)) rfl ?_
      refine DrawG.fl rfl (ev_ex wantS_none (ex_move rfl)) rfl ?_
      refine DrawG.fl rfl (ev_ex wantS_none (ex_nilP rfl)) rfl ?_
      refine DrawG.fl rfl (ev_ex wantS_none (ex_fieldAddr rfl off159_2)) rfl ?_
      obtain ⟨x57, hx57, h⟩ := bnd_some h
      refine DrawG.fl rfl (ev_ex wantS_none (ex_load1 rfl (hH56.arrAt (enc := enc3) (a := x57) (i := 8) rfl hx57 enc3_len) rdLe_rfl agg3)) rfl ?_
      refine DrawG.fl rfl (ev_ex wantS_none (ex_add rfl rfl)) rfl ?_
      refine DrawG.fl rfl (ev_ex wantS_none (ex_move rfl)) rfl ?_
      refine DrawG.fl rfl (ev_ex wantS_none (ex_nilP rfl)) rfl ?_
      refine DrawG.fl rfl (ev_ex wantS_none (ex_fieldAddr rfl off159_1)) rfl ?_
      obtain ⟨x58, hx58, h⟩ := bnd_some h
      refine DrawG.fl rfl (ev_ex wantS_none (ex_load1 rfl (hH56.arrAt (enc := enc3) (a := x58) (i := 8) rfl hx58 enc3_len) rdLe_rfl agg3)) rfl ?_
      obtain ⟨z59, hz59, h⟩ := bnd_some h
      refine DrawG.fl rfl (ev_ex wantS_none (ex_rem' rfl rfl hz59)) rfl ?_
      refine DrawG.fl rfl (ev_ex wantS_none (ex_nilP rfl)) rfl ?_
      refine DrawG.fl rfl (ev_ex wantS_none (ex_fieldAddr rfl off159_2)) rfl ?_
      obtain ⟨l60, hl60, h⟩ := bnd_some h
      refine DrawG.opX rfl wantS_none rfl (ExG.storeA rfl rfl hH56 (i := 8) rfl hl60 sz3 rfl enc3_len enc3_ones) ?_
      rintro _ M61 ⟨rfl, (hH61 : Has Fr M61 [.obj b36 (.loop ⟨.ready, none, 70, 61, treeOf [(4, (.ptr b22 0)), (5, (.ptr b25 0)), (6, .nils), (7, (.ptr b28 0)), (13, (.fn (.func 132) [] [(.ptr b34 0), (.ptr b31 0)]))], [14, 15], (atC Try.prog 70 [1, 1, 0, 1, 0, 0]), (atC Try.prog 70 [1, 1, 0, 1, 0, 1]), b37⟩), .obj b22 (.row 3 .whole [(.int .i64 c22_0)]), .obj b25 (.row 3 .whole [(.int .i64 c25_0)]), .obj b28 (.row 47 .whole [s42]), .vec 51 3 l42.length s42 (l42.flatMap enc51), .obj b34 (.row 3 .whole [(.int .i64 c34_0)]), .obj b31 (.row 38 .whole [sc31_0]), .obj b37 .defd, .obj b39 (.row 159 .whole (l60.flatMap enc3))])⟩
      refine ⟨st_nil, ?_⟩
      refine DrawG.sync ?_
      refine DrawG.nil ?_
      refine Run.fallTo Try.func133 rfl res_nil rfl ?_
      refine Run.opsEnd (Run.seq (Run.region ?_))
      refine Run.opG wantS_none (ex_move rfl) rfl ?_
      refine Run.opG wantS_none (ex_add rfl rfl) rfl ?_
      refine Run.opG wantS_none (ex_load1 rfl (hH61.cells (i := 5) rfl 0 rfl) rdLe_rfl agg3) rfl ?_
      refine Run.opG wantS_none (ex_sub rfl rfl) rfl ?_
      refine Run.opG wantS_none (ex_assign rfl) rfl ?_
      refine Run.opsEnd (Run.seq (Run.region ?_))
      refine Run.opG wantS_none (ex_move rfl) rfl ?_
      refine Run.opG wantS_none (ex_geq rfl rfl) rfl ?_
      refine Run.opG wantS_none (ex_move rfl) rfl ?_
      rcases btf ((decide ((0 : Int) ≤ (w64 ((w64 (v12 + (1 : Int))) - c34_0))))) with hc62 | hc62
      · have h := bif_t hc62 h
        refine Run.opG (wantS_yes' rfl rfl hc62) (ex_move rfl) rfl ?_
        refine Run.opG (wantS_yes' rfl rfl hc62) (ex_move rfl) rfl ?_
        refine Run.opG (wantS_yes' rfl rfl hc62) (ex_fieldAddr rfl off159_3) rfl ?_
        obtain ⟨x64, hx64, h⟩ := bnd_some h
        refine Run.opG (wantS_yes' rfl rfl hc62) (ex_load1 rfl (hH61.arrAt (enc := enc3) (a := x64) (i := 8) rfl hx64 enc3_len) rdLe_rfl agg3) rfl ?_
        refine Run.round (e' := [(15, (.int .i64 x64)), (14, (.int .i64 (w64 ((w64 (v12 + (1 : Int))) - c34_0)))), (4, (.ptr b22 0)), (5, (.ptr b25 0)), (6, .nils), (7, (.ptr b28 0)), (13, (.fn (.func 132) [] [(.ptr b34 0), (.ptr b31 0)]))]) (wantS_yes' rfl rfl hc62) (ex_yield hH61 (i := 0) rfl rfl rfl rfl) (hH61.loopOf (i := 0) rfl) rfl ?_
        refine Run.seq (Run.region ?_)
        refine Run.opG wantS_none (ex_assign rfl) rfl ?_
        refine Run.opsEnd (Run.region ?_)
        refine Run.opG wantS_none (ex_assign rfl) rfl ?_
        refine Run.opsEnd ?_
        refine Run.beginX hH61 (i := 0) rfl rfl ?_
        intro M65 (hH65 : Has Fr M65 [.obj b36 (.loop ⟨.busy, none, 70, 61, treeOf [(4, (.ptr b22 0)), (5, (.ptr b25 0)), (6, .nils), (7, (.ptr b28 0)), (13, (.fn (.func 132) [] [(.ptr b34 0), (.ptr b31 0)]))], [14, 15], (atC Try.prog 70 [1, 1, 0, 1, 0, 0]), (atC Try.prog 70 [1, 1, 0, 1, 0, 1]), b37⟩), .obj b22 (.row 3 .whole [(.int .i64 c22_0)]), .obj b25 (.row 3 .whole [(.int .i64 c25_0)]), .obj b28 (.row 47 .whole [s42]), .vec 51 3 l42.length s42 (l42.flatMap enc51), .obj b34 (.row 3 .whole [(.int .i64 c34_0)]), .obj b31 (.row 38 .whole [sc31_0]), .obj b37 .defd, .obj b39 (.row 159 .whole (l60.flatMap enc3))])
        refine Run.block (Run.seq (Run.seq (Run.region ?_)))
        refine Run.opG wantS_none (ex_move rfl) rfl ?_
        refine Run.opG wantS_none (ex_load1 rfl (hH65.cells (i := 2) rfl 0 rfl) rdLe_rfl agg3) rfl ?_
        refine Run.opG wantS_none (ex_lss rfl rfl) rfl ?_
        refine Run.opsEnd ?_
        rcases btf ((decide (x64 < c25_0))) with hc66 | hc66
        · have h := bif_t hc66 h
          refine Run.condT' rfl hc66 ?_
          refine Run.exit rfl ?_
          refine Run.roundEndX hH65 (i := 0) rfl rfl ?_
          intro M67 (hH67 : Has Fr M67 [.obj b36 (.loop ⟨.ready, none, 70, 61, treeOf [(4, (.ptr b22 0)), (5, (.ptr b25 0)), (6, .nils), (7, (.ptr b28 0)), (13, (.fn (.func 132) [] [(.ptr b34 0), (.ptr b31 0)]))], [14, 15], (atC Try.prog 70 [1, 1, 0, 1, 0, 0]), (atC Try.prog 70 [1, 1, 0, 1, 0, 1]), b37⟩), .obj b22 (.row 3 .whole [(.int .i64 c22_0)]), .obj b25 (.row 3 .whole [(.int .i64 c25_0)]), .obj b28 (.row 47 .whole [s42]), .vec 51 3 l42.length s42 (l42.flatMap enc51), .obj b34 (.row 3 .whole [(.int .i64 c34_0)]), .obj b31 (.row 38 .whole [sc31_0]), .obj b37 .defd, .obj b39 (.row 159 .whole (l60.flatMap enc3))])
          refine Run.opG (wantS_yes' rfl rfl hc62) (ex_not rfl) rfl ?_
          refine Run.opG wantS_none (ex_pickT' rfl hc62 rfl rfl) rfl ?_
          refine Run.opsEnd ?_
          exact Run.low (.cons (fle_pick [7] rfl) .nil) (Run.pick [0, 1, 4, 10, 11, 12, 32] (search_bursts_2_ok F (search_bursts_1 F N) ih v10 v11 v12 (!true) c22_0 c25_0 c34_0 c31_0 l42 l60 sv10 sc31_0 b36 b22 b25 b28 s42 b34 b31 b37 b39 _ _ _ hv10 hc31_0 hH67 h))
        · have h := bif_f hc66 h
          refine Run.condF' rfl hc66 ?_
          refine Run.skip (Run.seq (Run.region ?_))
          refine Run.opG wantS_none (ex_load1 rfl (hH65.cells (i := 3) rfl 0 rfl) rdLe_rfl agg47) rfl ?_
          refine Run.opG wantS_none (ex_len' rfl (hH65.slc (i := 4) rfl enc51_len) lenk47) rfl ?_
          refine Run.opG wantS_none (ex_sub rfl rfl) rfl ?_
          refine Run.opG wantS_none (ex_assign rfl) rfl ?_
          refine Run.opsEnd (Run.seq (Run.region ?_))
          refine Run.opG wantS_none (ex_move rfl) rfl ?_
          refine Run.opG wantS_none (ex_geq rfl rfl) rfl ?_
          refine Run.opG wantS_none (ex_move rfl) rfl ?_
          rcases btf ((decide ((0 : Int) ≤ (w64 ((l42.length : Int) - (1 : Int)))))) with hc72 | hc72
          · have h := bif_t hc72 h
            refine Run.opG (wantS_yes' rfl rfl hc72) (ex_move rfl) rfl ?_
            refine Run.opG (wantS_yes' rfl rfl hc72) (ex_load1 rfl (hH65.cells (i := 3) rfl 0 rfl) rdLe_rfl agg47) rfl ?_
            refine Run.opG (wantS_yes' rfl rfl hc72) (ex_move rfl) rfl ?_
            obtain ⟨x74, hx74, h⟩ := bnd_some h
            obtain ⟨p74, o74, hb74, hx74, he74⟩ := vec_elem (P := Try.prog) (t := 47) (kk := .i64) hH65 (i := 4) rfl hx74 els47
            refine Run.opG (wantS_yes' rfl rfl hc72) (ex_elX rfl rfl hx74) rfl ?_
            refine Run.opG (wantS_yes' rfl rfl hc72) (ex_fieldAddr rfl off51_1) rfl ?_
            refine Run.opG (wantS_yes' rfl rfl hc72) (ex_load1 rfl ((hH65.at (enc := enc51) (a := x74) (i := 4) rfl hb74 he74 enc51_len).fld (o := 1) rfl) rdLe_rfl agg3) rfl ?_
            refine Run.opG (wantS_yes' rfl rfl hc72) (ex_leq rfl rfl) rfl ?_
            refine Run.opG wantS_none (ex_pickT' rfl hc72 rfl rfl) rfl ?_
            refine Run.opsEnd ?_
            exact Run.low (.cons (fle_pick [0, 1, 4, 10, 11, 12, 25] rfl) (.cons (fle_pick [7] rfl) .nil)) (Run.pick [4, 6, 7, 8, 9, 10, 32] (search_bursts_3_ok F (search_bursts_1 F N) ih (w64 ((w64 (v12 + (1 : Int))) - c34_0)) x64 (w64 ((l42.length : Int) - (1 : Int))) (decide ((w64 ((w64 (v12 + (1 : Int))) - c34_0)) ≤ x74.To)) v10 v11 v12 (decide ((0 : Int) ≤ (w64 ((w64 (v12 + (1 : Int))) - c34_0)))) c22_0 c25_0 c34_0 c31_0 l42 l60 sv10 sc31_0 b22 b28 s42 b36 b25 b34 b31 b37 b39 _ _ _ hv10 hc31_0 (hH65.pick [1, 3, 4, 0, 2, 5, 6, 7, 8] rfl rfl) h))
          · have h := bif_f hc72 h
            refine Run.no (wantS_not' rfl rfl hc72) rfl ?_
            refine Run.no (wantS_not' rfl rfl hc72) rfl ?_
            refine Run.no (wantS_not' rfl rfl hc72) rfl ?_
            refine Run.no (wantS_not' rfl rfl hc72) rfl ?_
            refine Run.no (wantS_not' rfl rfl hc72) rfl ?_
            refine Run.no (wantS_not' rfl rfl hc72) rfl ?_
            refine Run.no (wantS_not' rfl rfl hc72) rfl ?_
            refine Run.opG wantS_none (ex_pickF' rfl hc72 rfl rfl) rfl ?_
            refine Run.opsEnd ?_
            exact Run.low (.cons (fle_pick [0, 1, 4, 10, 11, 12, 25] rfl) (.cons (fle_pick [7] rfl) .nil)) (Run.pick [4, 6, 7, 8, 9, 10, 32] (search_bursts_3_ok F (search_bursts_1 F N) ih (w64 ((w64 (v12 + (1 : Int))) - c34_0)) x64 (w64 ((l42.length : Int) - (1 : Int))) false v10 v11 v12 (decide ((0 : Int) ≤ (w64 ((w64 (v12 + (1 : Int))) - c34_0)))) c22_0 c25_0 c34_0 c31_0 l42 l60 sv10 sc31_0 b22 b28 s42 b36 b25 b34 b31 b37 b39 _ _ _ hv10 hc31_0 (hH65.pick [1, 3, 4, 0, 2, 5, 6, 7, 8] rfl rfl) h))
      · have h := bif_f hc62 h
        refine Run.no (wantS_not' rfl rfl hc62) rfl ?_
        refine Run.no (wantS_not' rfl rfl hc62) rfl ?_
        refine Run.no (wantS_not' rfl rfl hc62) rfl ?_
        refine Run.no (wantS_not' rfl rfl hc62) rfl ?_
        refine Run.no (wantS_not' rfl rfl hc62) rfl ?_
        refine Run.no (wantS_not' rfl rfl hc62) rfl ?_
        refine Run.opG wantS_none (ex_pickF' rfl hc62 rfl rfl) rfl ?_
        refine Run.opsEnd ?_
        exact Run.low (.cons (fle_pick [7] rfl) .nil) (Run.pick [0, 1, 4, 10, 11, 12, 32] (search_bursts_2_ok F (search_bursts_1 F N) ih v10 v11 v12 false c22_0 c25_0 c34_0 c31_0 l42 l60 sv10 sc31_0 b36 b22 b25 b28 s42 b34 b31 b37 b39 _ _ _ hv10 hc31_0 hH61 h))
    · have h := bif_f hc44 h
      refine Run.condF' rfl hc44 ?_
      refine Run.exit rfl ?_
      refine Run.fallRange Try.func132 rfl res_nil ?_
      refine Run.endX hH (i := 0) rfl (fun hc => by cases hc) ?_
      intro M98 (hH98 : Has Fr M98 [.obj b36 (.loop ⟨.exhausted, none, 70, 61, treeOf [(4, (.ptr b22 0)), (5, (.ptr b25 0)), (6, .nils), (7, (.ptr b28 0)), (13, (.fn (.func 132) [] [(.ptr b34 0), (.ptr b31 0)]))], [14, 15], (atC Try.prog 70 [1, 1, 0, 1, 0, 0]), (atC Try.prog 70 [1, 1, 0, 1, 0, 1]), b37⟩), .obj b22 (.row 3 .whole [(.int .i64 c22_0)]), .obj b25 (.row 3 .whole [(.int .i64 c25_0)]), .obj b28 (.row 47 .whole [s42]), .vec 51 3 l42.length s42 (l42.flatMap enc51), .obj b34 (.row 3 .whole [(.int .i64 c34_0)]), .obj b31 (.row 38 .whole [sc31_0]), .obj b37 .defd, .obj b39 (.row 159 .whole (l39.flatMap enc3))])
      refine Run.inBlock (Run.seq (Run.region ?_))
      refine Run.opG wantS_none (ex_load1 rfl (hH98.cells (i := 3) rfl 0 rfl) rdLe_rfl agg47) rfl ?_
      refine Run.opG wantS_none (ex_assign rfl) rfl ?_
      refine Run.opsEnd ?_
      obtain ⟨hH99x, hS99⟩ := hH98.shut (i := 7) (ds := []) rfl
      have hH99 : Has Fr (setT M98 b37 none) [.obj b36 (.loop ⟨.exhausted, none, 70, 61, treeOf [(4, (.ptr b22 0)), (5, (.ptr b25 0)), (6, .nils), (7, (.ptr b28 0)), (13, (.fn (.func 132) [] [(.ptr b34 0), (.ptr b31 0)]))], [14, 15], (atC Try.prog 70 [1, 1, 0, 1, 0, 0]), (atC Try.prog 70 [1, 1, 0, 1, 0, 1]), b37⟩), .obj b22 (.row 3 .whole [(.int .i64 c22_0)]), .obj b25 (.row 3 .whole [(.int .i64 c25_0)]), .obj b28 (.row 47 .whole [s42]), .vec 51 3 l42.length s42 (l42.flatMap enc51), .obj b34 (.row 3 .whole [(.int .i64 c34_0)]), .obj b31 (.row 38 .whole [sc31_0]), .vec 0 0 0 .nils [], .obj b39 (.row 159 .whole (l39.flatMap enc3))] := hH99x
      cases h
      exact Run.ret Try.func70 (hS99 _ rfl) (res_tmp rfl res_nil) ⟨_, rfl, (hH99.pick [4] rfl rfl).upF (none_le _)⟩

def search_bursts (F : Nat) (a0 : (List Int)) (a1 : Int) (a2 : Int) : Option ((List S_api_Burst)) :=
  search_bursts_1 F F a0 (a0.length : Int) (0 : Int) a1 a2 a1 a0 ([] : List S_api_Burst) ((List.replicate 1027 (0 : Int)).set 1024 a1)

theorem search_bursts_ok (F : Nat) (a0 : (List Int)) (a1 : Int) (a2 : Int) (s0 : SV) (r : (List S_api_Burst)) (M : Mem) (hs0 : Slc (rd M) 1 (FlatR enc3) s0 a0) (h : search_bursts F a0 a1 a2 = some r) : CallsM Try.prog 70 [s0, (.int .i64 a1), (.int .i64 a2)] M (fun s M' => ∃ q1, s = q1 ∧ New M M' [.vec 51 3 r.length q1 (r.flatMap enc51)]) := by
  refine CallsM.fresh (Q := search_bursts_post r) Try.func70 rfl rfl ?_ (by rintro s Me ⟨q1, rfl, hx⟩ ha hw; exact ⟨_, rfl, New.of rfl hx ha hw⟩)
  rw [search_bursts] at h
  replace hs0 := hs0.mono (rdLe_frozen M) (fun _ _ h => h)
  have hH := Has.nil (frozen M)
  refine Run.seq (Run.region ?_)
  refine Run.opX wantS_none rfl (ExG.box rfl rfl hH) ?_
  rintro _ M23 ⟨b22, rfl, (hH23 : Has (ro (frozen M)) M23 [.obj b22 (.row 3 .whole [(.int .i64 a1)])])⟩
  refine Run.opX wantS_none rfl (ExG.box rfl rfl hH23) ?_
  rintro _ M26 ⟨b25, rfl, (hH26 : Has (ro (frozen M)) M26 [.obj b25 (.row 3 .whole [(.int .i64 a2)]), .obj b22 (.row 3 .whole [(.int .i64 a1)])])⟩
  refine Run.opG wantS_none (ex_assign rfl) rfl ?_
  refine Run.opsEnd (Run.seq (Run.region ?_))
  refine Run.opX wantS_none rfl (ExG.new (v := fun b => .ptr b 0) (ex_alloc zer47) hH26) ?_
  rintro _ M29 ⟨b28, rfl, (hH29 : Has (ro (frozen M)) M29 [.obj b28 (.row 47 .whole [.nils]), .obj b25 (.row 3 .whole [(.int .i64 a2)]), .obj b22 (.row 3 .whole [(.int .i64 a1)])])⟩
  refine Run.opsEnd (Run.seq (Run.seq (Run.region ?_)))
  refine Run.opG wantS_none (ex_move rfl) rfl ?_
  refine Run.opG wantS_none (ex_load1 rfl (hH29.cells (i := 2) rfl 0 rfl) rdLe_rfl agg3) rfl ?_
  refine Run.enter wantS_none (ex_call rfl mkk114 cal114) Try.func114 rfl rfl ?_
  refine Run.seq (Run.region ?_)
  refine Run.opX wantS_none rfl (ExG.box rfl (cells_one (slc_one hs0)) hH29) ?_
  rintro _ M32 ⟨b31, rfl, (hH32 : Has (ro (frozen M)) M32 [.obj b31 (.row 38 .whole [s0]), .obj b28 (.row 47 .whole [.nils]), .obj b25 (.row 3 .whole [(.int .i64 a2)]), .obj b22 (.row 3 .whole [(.int .i64 a1)])])⟩
  refine Run.opX wantS_none rfl (ExG.box rfl rfl hH32) ?_
  rintro _ M35 ⟨b34, rfl, (hH35 : Has (ro (frozen M)) M35 [.obj b34 (.row 3 .whole [(.int .i64 a1)]), .obj b31 (.row 38 .whole [s0]), .obj b28 (.row 47 .whole [.nils]), .obj b25 (.row 3 .whole [(.int .i64 a2)]), .obj b22 (.row 3 .whole [(.int .i64 a1)])])⟩
  refine Run.opG wantS_none (ex_assign rfl) rfl ?_
  refine Run.opsEnd (Run.seq (Run.region ?_))
  refine Run.opG wantS_none (ex_makeFunc rfl rfl) rfl ?_
  refine Run.opG wantS_none (ex_assign rfl) rfl ?_
  refine Run.opsEnd ?_
  refine Run.retTo Try.func114 rfl (res_tmp rfl res_nil) rfl ?_
  refine Run.opsEnd (Run.block ?_)
  refine Run.pick [4, 5, 6, 7, 13] ?_
  refine Run.rangeX rfl cal132 Try.func132 rfl rfl hH35 ?_
  intro b37 b36 M36 (hH36 : Has (ro (frozen M)) M36 [.obj b36 (.loop ⟨.ready, none, 70, 61, treeOf [(4, (.ptr b22 0)), (5, (.ptr b25 0)), (6, .nils), (7, (.ptr b28 0)), (13, (.fn (.func 132) [] [(.ptr b34 0), (.ptr b31 0)]))], [14, 15], (atC Try.prog 70 [1, 1, 0, 1, 0, 0]), (atC Try.prog 70 [1, 1, 0, 1, 0, 1]), b37⟩), .obj b37 .defd, .obj b34 (.row 3 .whole [(.int .i64 a1)]), .obj b31 (.row 38 .whole [s0]), .obj b28 (.row 47 .whole [.nils]), .obj b25 (.row 3 .whole [(.int .i64 a2)]), .obj b22 (.row 3 .whole [(.int .i64 a1)])])
  refine Run.seq (Run.region ?_)
  refine Run.opG wantS_none (ex_load1 rfl (hH36.cells (i := 2) rfl 0 rfl) rdLe_rfl agg3) rfl ?_
  refine Run.opG wantS_none (ex_build (r := ((List.replicate 1027 (0 : Int)).set 1024 a1).flatMap enc3) rfl zra159 pls159 (bld159_1 _)) rfl ?_
  refine Run.opX wantS_none rfl (ExG.new (v := fun b => .ptr b 0) (ex_alloc zra159) hH36) ?_
  rintro _ M40 ⟨b39, rfl, (hH40 : Has (ro (frozen M)) M40 [.obj b39 (.row 159 .whole ((List.replicate 1027 (0 : Int)).flatMap enc3)), .obj b36 (.loop ⟨.ready, none, 70, 61, treeOf [(4, (.ptr b22 0)), (5, (.ptr b25 0)), (6, .nils), (7, (.ptr b28 0)), (13, (.fn (.func 132) [] [(.ptr b34 0), (.ptr b31 0)]))], [14, 15], (atC Try.prog 70 [1, 1, 0, 1, 0, 0]), (atC Try.prog 70 [1, 1, 0, 1, 0, 1]), b37⟩), .obj b37 .defd, .obj b34 (.row 3 .whole [(.int .i64 a1)]), .obj b31 (.row 38 .whole [s0]), .obj b28 (.row 47 .whole [.nils]), .obj b25 (.row 3 .whole [(.int .i64 a2)]), .obj b22 (.row 3 .whole [(.int .i64 a1)])])⟩
  refine Run.opX wantS_none rfl (ExG.storeAll (l := ((List.replicate 1027 (0 : Int)).set 1024 a1)) rfl rfl hH40 (i := 0) rfl sz159 enc3_len enc3_ones (by simp) (by simp)) ?_
  rintro _ M41 ⟨rfl, (hH41 : Has (ro (frozen M)) M41 [.obj b39 (.row 159 .whole (((List.replicate 1027 (0 : Int)).set 1024 a1).flatMap enc3)), .obj b36 (.loop ⟨.ready, none, 70, 61, treeOf [(4, (.ptr b22 0)), (5, (.ptr b25 0)), (6, .nils), (7, (.ptr b28 0)), (13, (.fn (.func 132) [] [(.ptr b34 0), (.ptr b31 0)]))], [14, 15], (atC Try.prog 70 [1, 1, 0, 1, 0, 0]), (atC Try.prog 70 [1, 1, 0, 1, 0, 1]), b37⟩), .obj b37 .defd, .obj b34 (.row 3 .whole [(.int .i64 a1)]), .obj b31 (.row 38 .whole [s0]), .obj b28 (.row 47 .whole [.nils]), .obj b25 (.row 3 .whole [(.int .i64 a2)]), .obj b22 (.row 3 .whole [(.int .i64 a1)])])⟩
  refine Run.opsEnd (Run.seq (Run.region ?_))
  refine Run.opG wantS_none (ex_load1 rfl (hH41.cells (i := 4) rfl 0 rfl) rdLe_rfl agg38) rfl ?_
  refine Run.opG wantS_none (ex_len' rfl hs0 lenk38) rfl ?_
  refine Run.opG wantS_none (ex_move rfl) rfl ?_
  refine Run.opsEnd (Run.block (Run.loop ?_))
  have hH43 : Has (ro (frozen M)) M41 [.vec 51 3 ([] : List S_api_Burst).length .nils (([] : List S_api_Burst).flatMap enc51), .obj b39 (.row 159 .whole (((List.replicate 1027 (0 : Int)).set 1024 a1).flatMap enc3)), .obj b36 (.loop ⟨.ready, none, 70, 61, treeOf [(4, (.ptr b22 0)), (5, (.ptr b25 0)), (6, .nils), (7, (.ptr b28 0)), (13, (.fn (.func 132) [] [(.ptr b34 0), (.ptr b31 0)]))], [14, 15], (atC Try.prog 70 [1, 1, 0, 1, 0, 0]), (atC Try.prog 70 [1, 1, 0, 1, 0, 1]), b37⟩), .obj b37 .defd, .obj b34 (.row 3 .whole [(.int .i64 a1)]), .obj b31 (.row 38 .whole [s0]), .obj b28 (.row 47 .whole [.nils]), .obj b25 (.row 3 .whole [(.int .i64 a2)]), .obj b22 (.row 3 .whole [(.int .i64 a1)])] := hH41.nils 51 3
  exact Run.low (.cons (fle_pick [7] rfl) .nil) (Run.pick [0, 1, 4, 10, 11, 12] (search_bursts_1_ok F F a0 (a0.length : Int) (0 : Int) a1 a2 a1 a0 ([] : List S_api_Burst) ((List.replicate 1027 (0 : Int)).set 1024 a1) s0 s0 b36 b22 b25 b28 .nils b34 b31 b37 b39 _ _ _ hs0 hs0 (hH43.pick [2, 8, 7, 6, 0, 4, 5, 3, 1] rfl rfl) h))

theorem mkk70 : makeK Try.prog 70 = none := by kernel_rfl
theorem cal70 : callable Try.prog 70 = true := by kernel_rfl
abbrev search_Bursts_post (r : (List S_api_Burst) × Int) : SV → Mem → Prop := fun s Me => ∃ q1, s = (.tuple [q1, (.int .i64 r.2)]) ∧ Has (fun _ => none) Me [.vec 51 3 r.1.length q1 (r.1.flatMap enc51)]

def search_Bursts_1 (F : Nat) (v0 : (List Int)) (v1 : Int) (v2 : Int) (v20 : Bool) : Option ((List S_api_Burst) × Int) :=
  bif v20 then
    some (([] : List S_api_Burst), (8 : Int))
  else
    bnd (search_bursts F v0 v1 v2) fun r36 =>
    some (r36, (0 : Int))

theorem search_Bursts_1_ok (F : Nat) : ∀ (v0 : (List Int)) (v1 : Int) (v2 : Int) (v20 : Bool) (sv0 : SV) (Fr : Rd) (M : Mem) (r : (List S_api_Burst) × Int) (hv0 : Slc Fr 1 (FlatR enc3) sv0 v0) (hH : Has Fr M []), search_Bursts_1 F v0 v1 v2 v20 = some r → Run Try.prog ⟨⟨31, [], none⟩, []⟩ 25 (search_Bursts_post r) [(0, sv0), (1, (.int .i64 v1)), (2, (.int .i64 v2)), (20, (.bool v20))] [itemC Try.prog 31 [1, 0, 0, 1, 1, 0] 8, codeC Try.prog 31 [1, 0, 0, 1, 1, 1], .inBlock 0, codeC Try.prog 31 [1, 1]] M := by
  intro v0 v1 v2 v20 sv0 Fr M r hv0 hH h
  rw [search_Bursts_1] at h
  refine Run.opG wantS_none (ex_assign rfl) rfl ?_
  refine Run.opsEnd ?_
  rcases btf (v20) with hc31 | hc31
  · have h := bif_t hc31 h
    refine Run.condT' rfl hc31 ?_
    refine Run.seq (Run.region ?_)
    refine Run.opG wantS_none (ex_assign rfl) rfl ?_
    refine Run.opG wantS_none (ex_assign rfl) rfl ?_
    refine Run.opsEnd ?_
    have hH33 : Has Fr M [.vec 51 3 ([] : List S_api_Burst).length .nils (([] : List S_api_Burst).flatMap enc51)] := hH.nils 51 3
    cases h
    exact Run.ret Try.func31 rfl (res_tmp rfl (res_tmp rfl res_nil)) ⟨_, rfl, (hH33.pick [0] rfl rfl).upF (none_le _)⟩
  · have h := bif_f hc31 h
    refine Run.condF' rfl hc31 ?_
    refine Run.skip (Run.inBlock (Run.seq (Run.region ?_)))
    refine Run.opG wantS_none (ex_move rfl) rfl ?_
    refine Run.opG wantS_none (ex_move rfl) rfl ?_
    refine Run.opG wantS_none (ex_move rfl) rfl ?_
    obtain ⟨r36, hr36, h⟩ := bnd_some h
    refine Run.callX wantS_none (ex_call rfl mkk70 cal70) rfl (search_bursts_ok F v0 v1 v2 sv0 _ _ (hH.slcF hv0) hr36) ?_
    rintro s36_0 M38 ⟨_, rfl, hN36⟩
    have hH38 : Has Fr M38 [.vec 51 3 r36.length s36_0 (r36.flatMap enc51)] := hN36.1 _ _ hH
    refine Run.opG wantS_none (ex_assign rfl) rfl ?_
    refine Run.opG wantS_none (ex_assign rfl) rfl ?_
    refine Run.opsEnd ?_
    cases h
    exact Run.ret Try.func31 rfl (res_tmp rfl (res_tmp rfl res_nil)) ⟨_, rfl, (hH38.pick [0] rfl rfl).upF (none_le _)⟩

def search_Bursts (F : Nat) (a0 : (List Int)) (a1 : Int) (a2 : Int) : Option ((List S_api_Burst) × Int) :=
  bnd (search_isRecord F a0) fun r22 =>
  bif (!r22) then
    some (([] : List S_api_Burst), (82 : Int))
  else
    bnd (search_isFrom F (1 : Int) a1 (1024 : Int)) fun r28 =>
    bif (!r28) then
      search_Bursts_1 F a0 a1 a2 true
    else
      bnd (search_isFrom F (1 : Int) a2 (1152921504606846976 : Int)) fun r40 =>
      search_Bursts_1 F a0 a1 a2 (!r40)

theorem search_Bursts_ok (F : Nat) (a0 : (List Int)) (a1 : Int) (a2 : Int) (s0 : SV) (r : (List S_api_Burst) × Int) (M : Mem) (hs0 : Slc (rd M) 1 (FlatR enc3) s0 a0) (h : search_Bursts F a0 a1 a2 = some r) : CallsM Try.prog 31 [s0, (.int .i64 a1), (.int .i64 a2)] M (fun s M' => ∃ q1, s = (.tuple [q1, (.int .i64 r.2)]) ∧ New M M' [.vec 51 3 r.1.length q1 (r.1.flatMap enc51)]) := by
  refine CallsM.fresh (Q := search_Bursts_post r) Try.func31 rfl rfl ?_ (by rintro s Me ⟨q1, rfl, hx⟩ ha hw; exact ⟨_, rfl, New.of rfl hx ha hw⟩)
  rw [search_Bursts] at h
  replace hs0 := hs0.mono (rdLe_frozen M) (fun _ _ h => h)
  have hH := Has.nil (frozen M)
  refine Run.seq (Run.region ?_)
  refine Run.opG wantS_none (ex_assign rfl) rfl ?_
  refine Run.opG wantS_none (ex_assign rfl) rfl ?_
  refine Run.opsEnd (Run.seq (Run.block (Run.seq (Run.region ?_))))
  refine Run.opG wantS_none (ex_move rfl) rfl ?_
  obtain ⟨r22, hr22, h⟩ := bnd_some h
  refine Run.callP wantS_none (ex_call rfl mkk69 cal69) rfl (search_isRecord_ok F a0 s0 _ _ (hH.slcF hs0) hr22) ?_
  refine Run.opG wantS_none (ex_not rfl) rfl ?_
  refine Run.opG wantS_none (ex_assign rfl) rfl ?_
  refine Run.opsEnd ?_
  rcases btf ((!r22)) with hc24 | hc24
  · have h := bif_t hc24 h
    refine Run.condT' rfl hc24 ?_
    refine Run.seq (Run.region ?_)
    refine Run.opG wantS_none (ex_assign rfl) rfl ?_
    refine Run.opG wantS_none (ex_assign rfl) rfl ?_
    refine Run.opsEnd ?_
    have hH26 : Has (ro (frozen M)) (frozen M) [.vec 51 3 ([] : List S_api_Burst).length .nils (([] : List S_api_Burst).flatMap enc51)] := hH.nils 51 3
    cases h
    exact Run.ret Try.func31 rfl (res_tmp rfl (res_tmp rfl res_nil)) ⟨_, rfl, (hH26.pick [0] rfl rfl).upF (none_le _)⟩
  · have h := bif_f hc24 h
    refine Run.condF' rfl hc24 ?_
    refine Run.seq (Run.region ?_)
    refine Run.opG wantS_none (ex_move rfl) rfl ?_
    obtain ⟨r28, hr28, h⟩ := bnd_some h
    refine Run.callP wantS_none (ex_call rfl mkk62 cal62) rfl (search_isFrom_ok F (1 : Int) a1 (1024 : Int) _ _ hr28) ?_
    refine Run.opG wantS_none (ex_not rfl) rfl ?_
    refine Run.opG wantS_none (ex_move rfl) rfl ?_
    rcases btf ((!r28)) with hc30 | hc30
    · have h := bif_t hc30 h
      refine Run.no (wantS_not' rfl rfl hc30) rfl ?_
      refine Run.no (wantS_not' rfl rfl hc30) rfl ?_
      refine Run.no (wantS_not' rfl rfl hc30) rfl ?_
      refine Run.opG wantS_none (ex_pickT' rfl hc30 rfl rfl) rfl ?_
      exact Run.pick [0, 1, 2, 20] (search_Bursts_1_ok F a0 a1 a2 true s0 _ _ _ hs0 hH h)
    · have h := bif_f hc30 h
      refine Run.opG (wantS_yes' rfl rfl hc30) (ex_move rfl) rfl ?_
      obtain ⟨r40, hr40, h⟩ := bnd_some h
      refine Run.callP (wantS_yes' rfl rfl hc30) (ex_call rfl mkk62 cal62) rfl (search_isFrom_ok F (1 : Int) a2 (1152921504606846976 : Int) _ _ hr40) ?_
      refine Run.opG (wantS_yes' rfl rfl hc30) (ex_not rfl) rfl ?_
      refine Run.opG wantS_none (ex_pickF' rfl hc30 rfl rfl) rfl ?_
      exact Run.pick [0, 1, 2, 20] (search_Bursts_1_ok F a0 a1 a2 (!r40) s0 _ _ _ hs0 hH h)

theorem mkk31 : makeK Try.prog 31 = none := by kernel_rfl
theorem cal31 : callable Try.prog 31 = true := by kernel_rfl
abbrev ref00_In_post (r : Bool) : SV → Mem → Prop := fun s _ => s = (.bool r)

def ref00_In_1 (F : Nat) (v14 : Bool) : Option (Bool) :=
  some v14

theorem ref00_In_1_ok (F : Nat) : ∀ (v14 : Bool) (Fr : Rd) (M : Mem) (r : Bool) (hH : Has Fr M []), ref00_In_1 F v14 = some r → Run Try.prog ⟨⟨49, [], none⟩, []⟩ 15 (ref00_In_post r) [(14, (.bool v14))] [itemC Try.prog 49 [1, 0] 8, codeC Try.prog 49 [1, 1]] M := by
  intro v14 Fr M r hH h
  rw [ref00_In_1] at h
  refine Run.opG wantS_none (ex_assign rfl) rfl ?_
  refine Run.opsEnd ?_
  cases h
  exact Run.ret Try.func49 rfl (res_tmp rfl res_nil) rfl

def ref00_In (F : Nat) (a0 : Int) (a1 : Int) (a2 : Int) : Option (Bool) :=
  bif (decide (a1 ≤ a0)) then
    ref00_In_1 F (decide (a0 ≤ a2))
  else
    ref00_In_1 F false

theorem ref00_In_ok (F : Nat) (a0 : Int) (a1 : Int) (a2 : Int) (r : Bool) (M : Mem) (h : ref00_In F a0 a1 a2 = some r) : CallsM Try.prog 49 [(.int .i64 a0), (.int .i64 a1), (.int .i64 a2)] M (fun s M' => s = (.bool r) ∧ M' = M) := by
  refine CallsM.plain Try.func49 rfl rfl rfl (show Run _ _ _ (ref00_In_post r) _ _ _ from ?_)
  rw [ref00_In] at h
  have hH := Has.nil (frozen M)
  refine Run.seq (Run.region ?_)
  refine Run.opG wantS_none (ex_assign rfl) rfl ?_
  refine Run.opsEnd (Run.seq (Run.region ?_))
  refine Run.opG wantS_none (ex_move rfl) rfl ?_
  refine Run.opG wantS_none (ex_move rfl) rfl ?_
  refine Run.opG wantS_none (ex_leq rfl rfl) rfl ?_
  refine Run.opG wantS_none (ex_move rfl) rfl ?_
  rcases btf ((decide (a1 ≤ a0))) with hc21 | hc21
  · have h := bif_t hc21 h
    refine Run.opG (wantS_yes' rfl rfl hc21) (ex_move rfl) rfl ?_
    refine Run.opG (wantS_yes' rfl rfl hc21) (ex_move rfl) rfl ?_
    refine Run.opG (wantS_yes' rfl rfl hc21) (ex_leq rfl rfl) rfl ?_
    refine Run.opG wantS_none (ex_pickT' rfl hc21 rfl rfl) rfl ?_
    exact Run.pick [14] (ref00_In_1_ok F (decide (a0 ≤ a2)) _ _ _ hH h)
  · have h := bif_f hc21 h
    refine Run.no (wantS_not' rfl rfl hc21) rfl ?_
    refine Run.no (wantS_not' rfl rfl hc21) rfl ?_
    refine Run.no (wantS_not' rfl rfl hc21) rfl ?_
    refine Run.opG wantS_none (ex_pickF' rfl hc21 rfl rfl) rfl ?_
    exact Run.pick [14] (ref00_In_1_ok F false _ _ _ hH h)

theorem mkk49 : makeK Try.prog 49 = none := by kernel_rfl
theorem cal49 : callable Try.prog 49 = true := by kernel_rfl
abbrev ref08_record_post (r : Bool) : SV → Mem → Prop := fun s _ => s = (.bool r)

def ref08_record_1 (F : Nat) : Nat → (List Int) → Int → Option (Bool)
  | 0, _, _ => none
  | N + 1, v0, v3 =>
    bif (decide (v3 < (v0.length : Int))) then
      bnd (idx v0 v3) fun x23 =>
      bnd (ref00_In F x23 ((-16384) : Int) (16384 : Int)) fun r25 =>
      bif (!r25) then
        some false
      else
        (ref08_record_1 F N) v0 (w64 (v3 + (1 : Int)))
    else
      some (decide ((v0.length : Int) ≤ (1024 : Int)))

theorem ref08_record_1_ok (F : Nat) : ∀ (N : Nat), ∀ (v0 : (List Int)) (v3 : Int) (sv0 : SV) (Fr : Rd) (M : Mem) (r : Bool) (hv0 : Slc Fr 1 (FlatR enc3) sv0 v0) (hH : Has Fr M []), ref08_record_1 F N v0 v3 = some r → Run Try.prog ⟨⟨71, [], none⟩, []⟩ 19 (ref08_record_post r) [(0, sv0), (3, (.int .i64 v3))] [codeC Try.prog 71 [1, 0, 1, 0, 0], loopC Try.prog 71 [1, 0, 1, 0, 0], .inBlock 0, codeC Try.prog 71 [1, 1]] M := by
  intro N
  induction N with
  | zero =>
    intro v0 v3 sv0 Fr M r hv0 hH h
    simp [ref08_record_1] at h
  | succ N ih =>
    intro v0 v3 sv0 Fr M r hv0 hH h
    rw [ref08_record_1] at h
    refine Run.seq (Run.seq (Run.region ?_))
    refine Run.opG wantS_none (ex_move rfl) rfl ?_
    refine Run.opG wantS_none (ex_move rfl) rfl ?_
    refine Run.opG wantS_none (ex_len' rfl hv0 lenk38) rfl ?_
    refine Run.opG wantS_none (ex_lss rfl rfl) rfl ?_
    refine Run.opsEnd ?_
    rcases btf ((decide (v3 < (v0.length : Int)))) with hc21 | hc21
    · have h := bif_t hc21 h
      refine Run.condT' rfl hc21 ?_
      refine Run.skip (Run.seq (Run.block (Run.seq (Run.region ?_))))
      refine Run.opG wantS_none (ex_move rfl) rfl ?_
      refine Run.opG wantS_none (ex_move rfl) rfl ?_
      obtain ⟨x23, hx23, h⟩ := bnd_some h
      obtain ⟨p23, o23, _, hx23, hp23, rfl⟩ := sl_elem (P := Try.prog) (t := 38) (kk := .i64) hv0 hx23 els38
      refine Run.opG wantS_none (ex_elX rfl rfl hx23) rfl ?_
      refine Run.opG wantS_none (ex_load1 rfl (hH.ptrF hp23) rdLe_rfl agg3) rfl ?_
      obtain ⟨r25, hr25, h⟩ := bnd_some h
      refine Run.callP wantS_none (ex_call rfl mkk49 cal49) rfl (ref00_In_ok F x23 ((-16384) : Int) (16384 : Int) _ _ hr25) ?_
      refine Run.opG wantS_none (ex_not rfl) rfl ?_
      refine Run.opsEnd ?_
      rcases btf ((!r25)) with hc27 | hc27
      · have h := bif_t hc27 h
        refine Run.condT' rfl hc27 ?_
        refine Run.seq (Run.region ?_)
        refine Run.opG wantS_none (ex_assign rfl) rfl ?_
        refine Run.opsEnd ?_
        cases h
        exact Run.ret Try.func71 rfl (res_tmp rfl res_nil) rfl
      · have h := bif_f hc27 h
        refine Run.condF' rfl hc27 ?_
        refine Run.skip (Run.inBlock (Run.region ?_))
        refine Run.opG wantS_none (ex_move rfl) rfl ?_
        refine Run.opG wantS_none (ex_add rfl rfl) rfl ?_
        refine Run.opG wantS_none (ex_assign rfl) rfl ?_
        refine Run.opsEnd (Run.inLoop ?_)
        exact Run.pick [0, 3] (ih v0 (w64 (v3 + (1 : Int))) sv0 _ _ _ hv0 hH h)
    · have h := bif_f hc21 h
      refine Run.condF' rfl hc21 ?_
      refine Run.exit rfl (Run.seq (Run.region ?_))
      refine Run.opG wantS_none (ex_move rfl) rfl ?_
      refine Run.opG wantS_none (ex_len' rfl hv0 lenk38) rfl ?_
      refine Run.opG wantS_none (ex_leq rfl rfl) rfl ?_
      refine Run.opG wantS_none (ex_assign rfl) rfl ?_
      refine Run.opsEnd ?_
      cases h
      exact Run.ret Try.func71 rfl (res_tmp rfl res_nil) rfl

def ref08_record (F : Nat) (a0 : (List Int)) : Option (Bool) :=
  ref08_record_1 F F a0 (0 : Int)

theorem ref08_record_ok (F : Nat) (a0 : (List Int)) (s0 : SV) (r : Bool) (M : Mem) (hs0 : Slc (rd M) 1 (FlatR enc3) s0 a0) (h : ref08_record F a0 = some r) : CallsM Try.prog 71 [s0] M (fun s M' => s = (.bool r) ∧ M' = M) := by
  refine CallsM.plain Try.func71 rfl rfl rfl (show Run _ _ _ (ref08_record_post r) _ _ _ from ?_)
  rw [ref08_record] at h
  replace hs0 := hs0.mono (rdLe_frozen M) (fun _ _ h => h)
  have hH := Has.nil (frozen M)
  refine Run.seq (Run.region ?_)
  refine Run.opG wantS_none (ex_assign rfl) rfl ?_
  refine Run.opsEnd (Run.seq (Run.seq (Run.region ?_)))
  refine Run.opG wantS_none (ex_assign rfl) rfl ?_
  refine Run.opsEnd (Run.block (Run.loop ?_))
  exact Run.pick [0, 3] (ref08_record_1_ok F F a0 (0 : Int) s0 _ _ _ hs0 hH h)

theorem mkk71 : makeK Try.prog 71 = none := by kernel_rfl
theorem cal71 : callable Try.prog 71 = true := by kernel_rfl
theorem plan72_1_1_0_1_0_0_1_0_0 : planOf Try.prog (opsC (atC Try.prog 72 [1, 1, 0, 1, 0, 0, 1, 0, 0])) = some [.fl 0, .fl 1, .fl 2, .fl 3, .fl 4, .fl 5, .fl 6, .fl 7, .fl 8, .fl 9, .fl 10, .an 11 [], .sync] := by kernel_rfl
abbrev ref08_power_post (r : Int) : SV → Mem → Prop := fun s _ => s = (.int .i64 r)

def ref08_power_1 (F : Nat) : Nat → (List Int) → Int → Int → Int → Int → Option (Int)
  | 0, _, _, _, _, _ => none
  | N + 1, v0, v1, v2, v7, v8 =>
    bif (decide (v8 < (w64 (v1 + v2)))) then
      bnd (idx v0 v8) fun x22 =>
      bnd (idx v0 v8) fun x23 =>
      (ref08_power_1 F N) v0 v1 v2 (w64 (v7 + (w64 (x22 * x23)))) (w64 (v8 + (1 : Int)))
    else
      some v7

theorem ref08_power_1_ok (F : Nat) : ∀ (N : Nat), ∀ (v0 : (List Int)) (v1 : Int) (v2 : Int) (v7 : Int) (v8 : Int) (sv0 : SV) (Fr : Rd) (M : Mem) (r : Int) (hv0 : Slc Fr 1 (FlatR enc3) sv0 v0) (hH : Has Fr M []), ref08_power_1 F N v0 v1 v2 v7 v8 = some r → Run Try.prog ⟨⟨72, [], none⟩, []⟩ 29 (ref08_power_post r) [(0, sv0), (1, (.int .i64 v1)), (2, (.int .i64 v2)), (7, (.int .i64 v7)), (8, (.int .i64 v8))] [codeC Try.prog 72 [1, 1, 0, 1, 0, 0], loopC Try.prog 72 [1, 1, 0, 1, 0, 0], .inBlock 0, codeC Try.prog 72 [1, 1, 1]] M := by
  intro N
  induction N with
  | zero =>
    intro v0 v1 v2 v7 v8 sv0 Fr M r hv0 hH h
    simp [ref08_power_1] at h
  | succ N ih =>
    intro v0 v1 v2 v7 v8 sv0 Fr M r hv0 hH h
    rw [ref08_power_1] at h
    refine Run.seq (Run.seq (Run.region ?_))
    refine Run.opG wantS_none (ex_move rfl) rfl ?_
    refine Run.opG wantS_none (ex_move rfl) rfl ?_
    refine Run.opG wantS_none (ex_move rfl) rfl ?_
    refine Run.opG wantS_none (ex_add rfl rfl) rfl ?_
    refine Run.opG wantS_none (ex_lss rfl rfl) rfl ?_
    refine Run.opsEnd ?_
    rcases btf ((decide (v8 < (w64 (v1 + v2))))) with hc21 | hc21
    · have h := bif_t hc21 h
      refine Run.condT' rfl hc21 ?_
      refine Run.skip (Run.seq (Run.block ?_))
      refine Run.drawG plan72_1_1_0_1_0_0_1_0_0 ?_
      refine DrawG.fl rfl (ev_ex wantS_none (ex_move rfl)) rfl ?_
      refine DrawG.fl rfl (ev_ex wantS_none (ex_move rfl)) rfl ?_
      refine DrawG.fl rfl (ev_ex wantS_none (ex_move rfl)) rfl ?_
      obtain ⟨x22, hx22, h⟩ := bnd_some h
      obtain ⟨p22, o22, _, hx22, hp22, rfl⟩ := sl_elem (P := Try.prog) (t := 38) (kk := .i64) hv0 hx22 els38
      refine DrawG.fl rfl (ev_ex wantS_none (ex_elX rfl rfl hx22)) rfl ?_
      refine DrawG.fl rfl (ev_ex wantS_none (ex_load1 rfl (hH.ptrF hp22) rdLe_rfl agg3)) rfl ?_
      refine DrawG.fl rfl (ev_ex wantS_none (ex_move rfl)) rfl ?_
      refine DrawG.fl rfl (ev_ex wantS_none (ex_move rfl)) rfl ?_
      obtain ⟨x23, hx23, h⟩ := bnd_some h
      obtain ⟨p23, o23, _, hx23, hp23, rfl⟩ := sl_elem (P := Try.prog) (t := 38) (kk := .i64) hv0 hx23 els38
      refine DrawG.fl rfl (ev_ex wantS_none (ex_elX rfl rfl hx23)) rfl ?_
      refine DrawG.fl rfl (ev_ex wantS_none (ex_load1 rfl (hH.ptrF hp23) rdLe_rfl agg3)) rfl ?_
      refine DrawG.fl rfl (ev_ex wantS_none (ex_mul rfl rfl)) rfl ?_
      refine DrawG.fl rfl (ev_ex wantS_none (ex_add rfl rfl)) rfl ?_
      refine DrawG.val rfl wantS_none (ex_assign rfl) rfl st_nil ?_
      refine DrawG.sync ?_
      refine DrawG.nil ?_
      refine Run.inBlock (Run.region ?_)
      refine Run.opG wantS_none (ex_move rfl) rfl ?_
      refine Run.opG wantS_none (ex_add rfl rfl) rfl ?_
      refine Run.opG wantS_none (ex_assign rfl) rfl ?_
      refine Run.opsEnd (Run.inLoop ?_)
      exact Run.pick [0, 1, 2, 7, 8] (ih v0 v1 v2 (w64 (v7 + (w64 (x22 * x23)))) (w64 (v8 + (1 : Int))) sv0 _ _ _ hv0 hH h)
    · have h := bif_f hc21 h
      refine Run.condF' rfl hc21 ?_
      refine Run.exit rfl (Run.seq (Run.region ?_))
      refine Run.opG wantS_none (ex_move rfl) rfl ?_
      refine Run.opG wantS_none (ex_assign rfl) rfl ?_
      refine Run.opsEnd ?_
      cases h
      exact Run.ret Try.func72 rfl (res_tmp rfl res_nil) rfl

def ref08_power (F : Nat) (a0 : (List Int)) (a1 : Int) (a2 : Int) : Option (Int) :=
  ref08_power_1 F F a0 a1 a2 (0 : Int) a1

theorem ref08_power_ok (F : Nat) (a0 : (List Int)) (a1 : Int) (a2 : Int) (s0 : SV) (r : Int) (M : Mem) (hs0 : Slc (rd M) 1 (FlatR enc3) s0 a0) (h : ref08_power F a0 a1 a2 = some r) : CallsM Try.prog 72 [s0, (.int .i64 a1), (.int .i64 a2)] M (fun s M' => s = (.int .i64 r) ∧ M' = M) := by
  refine CallsM.plain Try.func72 rfl rfl rfl (show Run _ _ _ (ref08_power_post r) _ _ _ from ?_)
  rw [ref08_power] at h
  replace hs0 := hs0.mono (rdLe_frozen M) (fun _ _ h => h)
  have hH := Has.nil (frozen M)
  refine Run.seq (Run.region ?_)
  refine Run.opG wantS_none (ex_assign rfl) rfl ?_
  refine Run.opsEnd (Run.seq (Run.region ?_))
  refine Run.opG wantS_none (ex_assign rfl) rfl ?_
  refine Run.opsEnd (Run.seq (Run.seq (Run.region ?_)))
  refine Run.opG wantS_none (ex_move rfl) rfl ?_
  refine Run.opG wantS_none (ex_assign rfl) rfl ?_
  refine Run.opsEnd (Run.block (Run.loop ?_))
  exact Run.pick [0, 1, 2, 7, 8] (ref08_power_1_ok F F a0 a1 a2 (0 : Int) a1 s0 _ _ _ hs0 hH h)

theorem mkk72 : makeK Try.prog 72 = none := by kernel_rfl
theorem cal72 : callable Try.prog 72 = true := by kernel_rfl
theorem off51_0 : fieldOff Try.prog 51 0 = some 0 := by kernel_rfl
theorem sz51 : szOf Try.prog 51 = some 3 := by kernel_rfl
theorem plan32_1_1_1_1_0_1_0_0_1_0_0_1_1_1_1_0 : planOf Try.prog (opsC (atC Try.prog 32 [1, 1, 1, 1, 0, 1, 0, 0, 1, 0, 0, 1, 1, 1, 1, 0])) = some [.fl 0, .fl 1, .fl 2, .fl 3, .fl 4, .fl 5, .fl 6, .fl 7, .fl 8, .fl 9, .fl 10, .fl 11, .fl 12, .fl 13, .fl 14, .fl 15, .fl 16, .fl 17, .fl 18, .an 19 [], .sync] := by kernel_rfl
abbrev ref08_Bursts_post (r : (List S_api_Burst) × Int) : SV → Mem → Prop := fun s Me => ∃ q1, s = (.tuple [q1, (.int .i64 r.2)]) ∧ Has (fun _ => none) Me [.vec 51 3 r.1.length q1 (r.1.flatMap enc51)]

def ref08_Bursts_3 (F : Nat) (hd2 : (List Int) → Int → Int → Int → (List S_api_Burst) → Option ((List S_api_Burst) × Int)) (v0 : (List Int)) (v1 : Int) (v2 : Int) (v9 : Int) (l34 : (List S_api_Burst)) : Option ((List S_api_Burst) × Int) :=
  hd2 v0 v1 v2 (w64 (v9 + (1 : Int))) l34

theorem ref08_Bursts_3_ok (F : Nat) (hd2 : (List Int) → Int → Int → Int → (List S_api_Burst) → Option ((List S_api_Burst) × Int)) (hhd2 : ∀ (v0 : (List Int)) (v1 : Int) (v2 : Int) (v9 : Int) (l34 : (List S_api_Burst)) (sv0 : SV) (s34 : SV) (Fr : Rd) (M : Mem) (r : (List S_api_Burst) × Int) (hv0 : Slc Fr 1 (FlatR enc3) sv0 v0) (hH : Has Fr M [.vec 51 3 l34.length s34 (l34.flatMap enc51)]), hd2 v0 v1 v2 v9 l34 = some r → Run Try.prog ⟨⟨32, [], none⟩, []⟩ 81 (ref08_Bursts_post r) [(0, sv0), (1, (.int .i64 v1)), (2, (.int .i64 v2)), (8, s34), (9, (.int .i64 v9))] [codeC Try.prog 32 [1, 1, 1, 1, 0, 1, 0, 0], loopC Try.prog 32 [1, 1, 1, 1, 0, 1, 0, 0], .inBlock 0, codeC Try.prog 32 [1, 1, 1, 1, 1]] M) : ∀ (v0 : (List Int)) (v1 : Int) (v2 : Int) (v9 : Int) (l34 : (List S_api_Burst)) (sv0 : SV) (s34 : SV) (Fr : Rd) (M : Mem) (r : (List S_api_Burst) × Int) (hv0 : Slc Fr 1 (FlatR enc3) sv0 v0) (hH : Has Fr M [.vec 51 3 l34.length s34 (l34.flatMap enc51)]), ref08_Bursts_3 F hd2 v0 v1 v2 v9 l34 = some r → Run Try.prog ⟨⟨32, [], none⟩, []⟩ 81 (ref08_Bursts_post r) [(0, sv0), (1, (.int .i64 v1)), (2, (.int .i64 v2)), (8, s34), (9, (.int .i64 v9))] [itemC Try.prog 32 [1, 1, 1, 1, 0, 1, 0, 0, 1, 1] 0, loopC Try.prog 32 [1, 1, 1, 1, 0, 1, 0, 0], .inBlock 0, codeC Try.prog 32 [1, 1, 1, 1, 1]] M := by
  intro v0 v1 v2 v9 l34 sv0 s34 Fr M r hv0 hH h
  rw [ref08_Bursts_3] at h
  refine Run.opG wantS_none (ex_move rfl) rfl ?_
  refine Run.opG wantS_none (ex_add rfl rfl) rfl ?_
  refine Run.opG wantS_none (ex_assign rfl) rfl ?_
  refine Run.opsEnd (Run.inLoop ?_)
  exact Run.pick [0, 1, 2, 8, 9] (hhd2 v0 v1 v2 (w64 (v9 + (1 : Int))) l34 sv0 s34 _ _ _ hv0 hH h)

def ref08_Bursts_4 (F : Nat) (hd2 : (List Int) → Int → Int → Int → (List S_api_Burst) → Option ((List S_api_Burst) × Int)) (v0 : (List Int)) (v1 : Int) (v2 : Int) (v9 : Int) (v10 : Int) (v11 : Int) (v51 : Bool) (l34 : (List S_api_Burst)) : Option ((List S_api_Burst) × Int) :=
  bif v51 then
    bnd (idx l34 v11) fun x45 =>
    bnd (idx l34 v11) fun x46 =>
    bnd (inn l34 v11) fun o47 =>
    bnd (upd l34 o47 (S_api_Burst.mk x45.From (w64 (v9 + v1)) (max x46.Peak v10))) fun l48 =>
    ref08_Bursts_3 F hd2 v0 v1 v2 v9 l48
  else
    bnd (apd 24 l34 ([(S_api_Burst.mk v9 (w64 (v9 + v1)) v10)] : List S_api_Burst)) fun l55 =>
    ref08_Bursts_3 F hd2 v0 v1 v2 v9 l55

theorem ref08_Bursts_4_ok (F : Nat) (hd2 : (List Int) → Int → Int → Int → (List S_api_Burst) → Option ((List S_api_Burst) × Int)) (hhd2 : ∀ (v0 : (List Int)) (v1 : Int) (v2 : Int) (v9 : Int) (l34 : (List S_api_Burst)) (sv0 : SV) (s34 : SV) (Fr : Rd) (M : Mem) (r : (List S_api_Burst) × Int) (hv0 : Slc Fr 1 (FlatR enc3) sv0 v0) (hH : Has Fr M [.vec 51 3 l34.length s34 (l34.flatMap enc51)]), hd2 v0 v1 v2 v9 l34 = some r → Run Try.prog ⟨⟨32, [], none⟩, []⟩ 81 (ref08_Bursts_post r) [(0, sv0), (1, (.int .i64 v1)), (2, (.int .i64 v2)), (8, s34), (9, (.int .i64 v9))] [codeC Try.prog 32 [1, 1, 1, 1, 0, 1, 0, 0], loopC Try.prog 32 [1, 1, 1, 1, 0, 1, 0, 0], .inBlock 0, codeC Try.prog 32 [1, 1, 1, 1, 1]] M) : ∀ (v0 : (List Int)) (v1 : Int) (v2 : Int) (v9 : Int) (v10 : Int) (v11 : Int) (v51 : Bool) (l34 : (List S_api_Burst)) (sv0 : SV) (s34 : SV) (Fr : Rd) (M : Mem) (r : (List S_api_Burst) × Int) (hv0 : Slc Fr 1 (FlatR enc3) sv0 v0) (hH : Has Fr M [.vec 51 3 l34.length s34 (l34.flatMap enc51)]), ref08_Bursts_4 F hd2 v0 v1 v2 v9 v10 v11 v51 l34 = some r → Run Try.prog ⟨⟨32, [], none⟩, []⟩ 81 (ref08_Bursts_post r) [(0, sv0), (1, (.int .i64 v1)), (2, (.int .i64 v2)), (8, s34), (9, (.int .i64 v9)), (10, (.int .i64 v10)), (11, (.int .i64 v11)), (51, (.bool v51))] [codeC Try.prog 32 [1, 1, 1, 1, 0, 1, 0, 0, 1, 0, 0, 1, 1, 1, 1], .inBlock 1, codeC Try.prog 32 [1, 1, 1, 1, 0, 1, 0, 0, 1, 1], loopC Try.prog 32 [1, 1, 1, 1, 0, 1, 0, 0], .inBlock 0, codeC Try.prog 32 [1, 1, 1, 1, 1]] M := by
  intro v0 v1 v2 v9 v10 v11 v51 l34 sv0 s34 Fr M r hv0 hH h
  rw [ref08_Bursts_4] at h
  rcases btf (v51) with hc44 | hc44
  · have h := bif_t hc44 h
    refine Run.condT' rfl hc44 ?_
    refine Run.drawG plan32_1_1_1_1_0_1_0_0_1_0_0_1_1_1_1_0 ?_
    refine DrawG.fl rfl (ev_ex wantS_none (ex_move rfl)) rfl ?_
    refine DrawG.fl rfl (ev_ex wantS_none (ex_move rfl)) rfl ?_
    refine DrawG.fl rfl (ev_ex wantS_none (ex_move rfl)) rfl ?_
    refine DrawG.fl rfl (ev_ex wantS_none (ex_move rfl)) rfl ?_
    obtain ⟨x45, hx45, h⟩ := bnd_some h
    obtain ⟨p45, o45, hb45, hx45, he45⟩ := vec_elem (P := Try.prog) (t := 47) (kk := .i64) hH (i := 0) rfl hx45 els47
    refine DrawG.fl rfl (ev_ex wantS_none (ex_elX rfl rfl hx45)) rfl ?_
    refine DrawG.fl rfl (ev_ex wantS_none (ex_fieldAddr rfl off51_0)) rfl ?_
    refine DrawG.fl rfl (ev_ex wantS_none (ex_load1 rfl ((hH.at (enc := enc51) (a := x45) (i := 0) rfl hb45 he45 enc51_len).fld (o := 0) rfl) rdLe_rfl agg3)) rfl ?_
    refine DrawG.fl rfl (ev_ex wantS_none (ex_move rfl)) rfl ?_
    refine DrawG.fl rfl (ev_ex wantS_none (ex_move rfl)) rfl ?_
    refine DrawG.fl rfl (ev_ex wantS_none (ex_add rfl rfl)) rfl ?_
    refine DrawG.fl rfl (ev_ex wantS_none (ex_move rfl)) rfl ?_
    refine DrawG.fl rfl (ev_ex wantS_none (ex_move rfl)) rfl ?_
    obtain ⟨x46, hx46, h⟩ := bnd_some h
    obtain ⟨p46, o46, hb46, hx46, he46⟩ := vec_elem (P := Try.prog) (t := 47) (kk := .i64) hH (i := 0) rfl hx46 els47
    refine DrawG.fl rfl (ev_ex wantS_none (ex_elX rfl rfl hx46)) rfl ?_
    refine DrawG.fl rfl (ev_ex wantS_none (ex_fieldAddr rfl off51_2)) rfl ?_
    refine DrawG.fl rfl (ev_ex wantS_none (ex_load1 rfl ((hH.at (enc := enc51) (a := x46) (i := 0) rfl hb46 he46 enc51_len).fld (o := 2) rfl) rdLe_rfl agg3)) rfl ?_
    refine DrawG.fl rfl (ev_ex wantS_none (ex_move rfl)) rfl ?_
    refine DrawG.fl rfl (ev_ex wantS_none (ex_max rfl rfl)) rfl ?_
    refine DrawG.fl rfl (ev_ex wantS_none (ex_build (r := [(.int .i64 x45.From), (.int .i64 (w64 (v9 + v1))), (.int .i64 (max x46.Peak v10))]) rfl zer51 pls51 rfl)) rfl ?_
    obtain ⟨o47, ho47, h⟩ := bnd_some h
    obtain ⟨p47, hb47, hx47⟩ := vec_place (P := Try.prog) (t := 47) (kk := .i64) hH (i := 0) rfl ho47 els47
    refine DrawG.fl rfl (ev_ex wantS_none (ex_elX rfl rfl hx47)) rfl ?_
    obtain ⟨l48, hl48, h⟩ := bnd_some h
    refine DrawG.opX rfl wantS_none rfl (ExG.storeEl rfl rfl hH (i := 0) rfl hb47 hl48 sz51 rfl enc51_len enc51_ones) ?_
    rintro _ M49 ⟨rfl, (hH49 : Has Fr M49 [.vec 51 3 l48.length s34 (l48.flatMap enc51)])⟩
    refine ⟨st_nil, ?_⟩
    refine DrawG.sync ?_
    refine DrawG.nil ?_
    refine Run.inBlock (Run.region ?_)
    exact Run.pick [0, 1, 2, 8, 9] (ref08_Bursts_3_ok F hd2 hhd2 v0 v1 v2 v9 l48 sv0 s34 _ _ _ hv0 hH49 h)
  · have h := bif_f hc44 h
    refine Run.condF' rfl hc44 ?_
    refine Run.region ?_
    refine Run.opG wantS_none (ex_move rfl) rfl ?_
    refine Run.opG wantS_none (ex_move rfl) rfl ?_
    refine Run.opG wantS_none (ex_move rfl) rfl ?_
    refine Run.opG wantS_none (ex_move rfl) rfl ?_
    refine Run.opG wantS_none (ex_add rfl rfl) rfl ?_
    refine Run.opG wantS_none (ex_move rfl) rfl ?_
    refine Run.opG wantS_none (ex_build (r := [(.int .i64 v9), (.int .i64 (w64 (v9 + v1))), (.int .i64 v10)]) rfl zer51 pls51 rfl) rfl ?_
    refine Run.opX wantS_none rfl (ExG.built (enc := enc51) (l := ([(S_api_Burst.mk v9 (w64 (v9 + v1)) v10)] : List S_api_Burst)) (z := 3) rfl elt47 rfl rfl rfl enc51_len hH) ?_
    rintro s51 M52 (hH52 : Has Fr M52 [.vec 51 3 ([(S_api_Burst.mk v9 (w64 (v9 + v1)) v10)] : List S_api_Burst).length s51 (([(S_api_Burst.mk v9 (w64 (v9 + v1)) v10)] : List S_api_Burst).flatMap enc51), .vec 51 3 l34.length s34 (l34.flatMap enc51)])
    obtain ⟨l55, hl55, h⟩ := bnd_some h
    refine Run.opX wantS_none rfl (ExG.append rfl rfl hH52 (i := 1) rfl enc51_len rfl enc51_ones appt47_47 rfl (len_slc (hH52.slc (i := 0) rfl enc51_len)) (first_slc (hH52.slc (i := 0) rfl enc51_len) (rdLe_rdRow _) enc51_len) hl55) ?_
    rintro s55 M57 (hH57 : Has Fr M57 [.vec 51 3 ([(S_api_Burst.mk v9 (w64 (v9 + v1)) v10)] : List S_api_Burst).length s51 (([(S_api_Burst.mk v9 (w64 (v9 + v1)) v10)] : List S_api_Burst).flatMap enc51), .vec 51 3 l55.length s55 (l55.flatMap enc51)])
    refine Run.opG wantS_none (ex_assign rfl) rfl ?_
    refine Run.opsEnd (Run.inBlock (Run.region ?_))
    exact Run.pick [0, 1, 2, 8, 9] (ref08_Bursts_3_ok F hd2 hhd2 v0 v1 v2 v9 l55 sv0 s55 _ _ _ hv0 (hH57.pick [1] rfl rfl) h)

def ref08_Bursts_2 (F : Nat) : Nat → (List Int) → Int → Int → Int → (List S_api_Burst) → Option ((List S_api_Burst) × Int)
  | 0, _, _, _, _, _ => none
  | N + 1, v0, v1, v2, v9, l34 =>
    bif (decide ((w64 (v9 + v1)) ≤ (v0.length : Int))) then
      bnd (ref08_power F v0 v9 v1) fun r38 =>
      bif (decide (r38 < v2)) then
        ref08_Bursts_3 F (ref08_Bursts_2 F N) v0 v1 v2 v9 l34
      else
        bif (decide ((0 : Int) ≤ (w64 ((l34.length : Int) - (1 : Int))))) then
          bnd (idx l34 (w64 ((l34.length : Int) - (1 : Int)))) fun x43 =>
          ref08_Bursts_4 F (ref08_Bursts_2 F N) v0 v1 v2 v9 r38 (w64 ((l34.length : Int) - (1 : Int))) (decide (v9 ≤ x43.To)) l34
        else
          ref08_Bursts_4 F (ref08_Bursts_2 F N) v0 v1 v2 v9 r38 (w64 ((l34.length : Int) - (1 : Int))) false l34
    else
      some (l34, (0 : Int))

theorem ref08_Bursts_2_ok (F : Nat) : ∀ (N : Nat), ∀ (v0 : (List Int)) (v1 : Int) (v2 : Int) (v9 : Int) (l34 : (List S_api_Burst)) (sv0 : SV) (s34 : SV) (Fr : Rd) (M : Mem) (r : (List S_api_Burst) × Int) (hv0 : Slc Fr 1 (FlatR enc3) sv0 v0) (hH : Has Fr M [.vec 51 3 l34.length s34 (l34.flatMap enc51)]), ref08_Bursts_2 F N v0 v1 v2 v9 l34 = some r → Run Try.prog ⟨⟨32, [], none⟩, []⟩ 81 (ref08_Bursts_post r) [(0, sv0), (1, (.int .i64 v1)), (2, (.int .i64 v2)), (8, s34), (9, (.int .i64 v9))] [codeC Try.prog 32 [1, 1, 1, 1, 0, 1, 0, 0], loopC Try.prog 32 [1, 1, 1, 1, 0, 1, 0, 0], .inBlock 0, codeC Try.prog 32 [1, 1, 1, 1, 1]] M := by
  intro N
  induction N with
  | zero =>
    intro v0 v1 v2 v9 l34 sv0 s34 Fr M r hv0 hH h
    simp [ref08_Bursts_2] at h
  | succ N ih =>
    intro v0 v1 v2 v9 l34 sv0 s34 Fr M r hv0 hH h
    rw [ref08_Bursts_2] at h
    refine Run.seq (Run.seq (Run.region ?_))
    refine Run.opG wantS_none (ex_move rfl) rfl ?_
    refine Run.opG wantS_none (ex_move rfl) rfl ?_
    refine Run.opG wantS_none (ex_add rfl rfl) rfl ?_
    refine Run.opG wantS_none (ex_move rfl) rfl ?_
    refine Run.opG wantS_none (ex_len' rfl hv0 lenk38) rfl ?_
    refine Run.opG wantS_none (ex_leq rfl rfl) rfl ?_
    refine Run.opsEnd ?_
    rcases btf ((decide ((w64 (v9 + v1)) ≤ (v0.length : Int)))) with hc36 | hc36
    · have h := bif_t hc36 h
      refine Run.condT' rfl hc36 ?_
      refine Run.skip (Run.seq (Run.block (Run.seq (Run.region ?_))))
      refine Run.opG wantS_none (ex_move rfl) rfl ?_
      refine Run.opG wantS_none (ex_move rfl) rfl ?_
      refine Run.opG wantS_none (ex_move rfl) rfl ?_
      obtain ⟨r38, hr38, h⟩ := bnd_some h
      refine Run.callP wantS_none (ex_call rfl mkk72 cal72) rfl (ref08_power_ok F v0 v9 v1 sv0 _ _ (hH.slcF hv0) hr38) ?_
      refine Run.opG wantS_none (ex_assign rfl) rfl ?_
      refine Run.opsEnd (Run.seq (Run.seq (Run.region ?_)))
      refine Run.opG wantS_none (ex_move rfl) rfl ?_
      refine Run.opG wantS_none (ex_move rfl) rfl ?_
      refine Run.opG wantS_none (ex_lss rfl rfl) rfl ?_
      refine Run.opsEnd ?_
      rcases btf ((decide (r38 < v2))) with hc40 | hc40
      · have h := bif_t hc40 h
        refine Run.condT' rfl hc40 ?_
        refine Run.exit rfl (Run.region ?_)
        exact Run.pick [0, 1, 2, 8, 9] (ref08_Bursts_3_ok F (ref08_Bursts_2 F N) ih v0 v1 v2 v9 l34 sv0 s34 _ _ _ hv0 hH h)
      · have h := bif_f hc40 h
        refine Run.condF' rfl hc40 ?_
        refine Run.skip (Run.seq (Run.region ?_))
        refine Run.opG wantS_none (ex_move rfl) rfl ?_
        refine Run.opG wantS_none (ex_len' rfl (hH.slc (i := 0) rfl enc51_len) lenk47) rfl ?_
        refine Run.opG wantS_none (ex_sub rfl rfl) rfl ?_
        refine Run.opG wantS_none (ex_assign rfl) rfl ?_
        refine Run.opsEnd (Run.seq (Run.region ?_))
        refine Run.opG wantS_none (ex_move rfl) rfl ?_
        refine Run.opG wantS_none (ex_geq rfl rfl) rfl ?_
        refine Run.opG wantS_none (ex_move rfl) rfl ?_
        rcases btf ((decide ((0 : Int) ≤ (w64 ((l34.length : Int) - (1 : Int)))))) with hc41 | hc41
        · have h := bif_t hc41 h
          refine Run.opG (wantS_yes' rfl rfl hc41) (ex_move rfl) rfl ?_
          refine Run.opG (wantS_yes' rfl rfl hc41) (ex_move rfl) rfl ?_
          obtain ⟨x43, hx43, h⟩ := bnd_some h
          obtain ⟨p43, o43, hb43, hx43, he43⟩ := vec_elem (P := Try.prog) (t := 47) (kk := .i64) hH (i := 0) rfl hx43 els47
          refine Run.opG (wantS_yes' rfl rfl hc41) (ex_elX rfl rfl hx43) rfl ?_
          refine Run.opG (wantS_yes' rfl rfl hc41) (ex_fieldAddr rfl off51_1) rfl ?_
          refine Run.opG (wantS_yes' rfl rfl hc41) (ex_load1 rfl ((hH.at (enc := enc51) (a := x43) (i := 0) rfl hb43 he43 enc51_len).fld (o := 1) rfl) rdLe_rfl agg3) rfl ?_
          refine Run.opG (wantS_yes' rfl rfl hc41) (ex_move rfl) rfl ?_
          refine Run.opG (wantS_yes' rfl rfl hc41) (ex_geq rfl rfl) rfl ?_
          refine Run.opG wantS_none (ex_pickT' rfl hc41 rfl rfl) rfl ?_
          refine Run.opsEnd ?_
          exact Run.pick [0, 1, 2, 8, 9, 10, 11, 51] (ref08_Bursts_4_ok F (ref08_Bursts_2 F N) ih v0 v1 v2 v9 r38 (w64 ((l34.length : Int) - (1 : Int))) (decide (v9 ≤ x43.To)) l34 sv0 s34 _ _ _ hv0 hH h)
        · have h := bif_f hc41 h
          refine Run.no (wantS_not' rfl rfl hc41) rfl ?_
          refine Run.no (wantS_not' rfl rfl hc41) rfl ?_
          refine Run.no (wantS_not' rfl rfl hc41) rfl ?_
          refine Run.no (wantS_not' rfl rfl hc41) rfl ?_
          refine Run.no (wantS_not' rfl rfl hc41) rfl ?_
          refine Run.no (wantS_not' rfl rfl hc41) rfl ?_
          refine Run.no (wantS_not' rfl rfl hc41) rfl ?_
          refine Run.opG wantS_none (ex_pickF' rfl hc41 rfl rfl) rfl ?_
          refine Run.opsEnd ?_
          exact Run.pick [0, 1, 2, 8, 9, 10, 11, 51] (ref08_Bursts_4_ok F (ref08_Bursts_2 F N) ih v0 v1 v2 v9 r38 (w64 ((l34.length : Int) - (1 : Int))) false l34 sv0 s34 _ _ _ hv0 hH h)
    · have h := bif_f hc36 h
      refine Run.condF' rfl hc36 ?_
      refine Run.exit rfl (Run.seq (Run.region ?_))
      refine Run.opG wantS_none (ex_move rfl) rfl ?_
      refine Run.opG wantS_none (ex_assign rfl) rfl ?_
      refine Run.opG wantS_none (ex_assign rfl) rfl ?_
      refine Run.opsEnd ?_
      cases h
      exact Run.ret Try.func32 rfl (res_tmp rfl (res_tmp rfl res_nil)) ⟨_, rfl, (hH.pick [0] rfl rfl).upF (none_le _)⟩

def ref08_Bursts_1 (F : Nat) (v0 : (List Int)) (v1 : Int) (v2 : Int) (v22 : Bool) : Option ((List S_api_Burst) × Int) :=
  bif v22 then
    some (([] : List S_api_Burst), (8 : Int))
  else
    ref08_Bursts_2 F F v0 v1 v2 (0 : Int) ([] : List S_api_Burst)

theorem ref08_Bursts_1_ok (F : Nat) : ∀ (v0 : (List Int)) (v1 : Int) (v2 : Int) (v22 : Bool) (sv0 : SV) (Fr : Rd) (M : Mem) (r : (List S_api_Burst) × Int) (hv0 : Slc Fr 1 (FlatR enc3) sv0 v0) (hH : Has Fr M []), ref08_Bursts_1 F v0 v1 v2 v22 = some r → Run Try.prog ⟨⟨32, [], none⟩, []⟩ 81 (ref08_Bursts_post r) [(0, sv0), (1, (.int .i64 v1)), (2, (.int .i64 v2)), (22, (.bool v22))] [codeC Try.prog 32 [1, 1, 0, 1], codeC Try.prog 32 [1, 1, 1]] M := by
  intro v0 v1 v2 v22 sv0 Fr M r hv0 hH h
  rw [ref08_Bursts_1] at h
  rcases btf (v22) with hc31 | hc31
  · have h := bif_t hc31 h
    refine Run.condT' rfl hc31 ?_
    refine Run.seq (Run.region ?_)
    refine Run.opG wantS_none (ex_assign rfl) rfl ?_
    refine Run.opG wantS_none (ex_assign rfl) rfl ?_
    refine Run.opsEnd ?_
    have hH33 : Has Fr M [.vec 51 3 ([] : List S_api_Burst).length .nils (([] : List S_api_Burst).flatMap enc51)] := hH.nils 51 3
    cases h
    exact Run.ret Try.func32 rfl (res_tmp rfl (res_tmp rfl res_nil)) ⟨_, rfl, (hH33.pick [0] rfl rfl).upF (none_le _)⟩
  · have h := bif_f hc31 h
    refine Run.condF' rfl hc31 ?_
    refine Run.skip (Run.seq (Run.region ?_))
    refine Run.opG wantS_none (ex_assign rfl) rfl ?_
    refine Run.opsEnd (Run.seq (Run.seq (Run.region ?_)))
    refine Run.opG wantS_none (ex_assign rfl) rfl ?_
    refine Run.opsEnd (Run.block (Run.loop ?_))
    have hH35 : Has Fr M [.vec 51 3 ([] : List S_api_Burst).length .nils (([] : List S_api_Burst).flatMap enc51)] := hH.nils 51 3
    exact Run.pick [0, 1, 2, 8, 9] (ref08_Bursts_2_ok F F v0 v1 v2 (0 : Int) ([] : List S_api_Burst) sv0 .nils _ _ _ hv0 hH35 h)

def ref08_Bursts (F : Nat) (a0 : (List Int)) (a1 : Int) (a2 : Int) : Option ((List S_api_Burst) × Int) :=
  bnd (ref08_record F a0) fun r22 =>
  bif (!r22) then
    some (([] : List S_api_Burst), (82 : Int))
  else
    bnd (ref00_In F a1 (1 : Int) (1024 : Int)) fun r28 =>
    bif (!r28) then
      ref08_Bursts_1 F a0 a1 a2 true
    else
      bnd (ref00_In F a2 (1 : Int) (1152921504606846976 : Int)) fun r59 =>
      ref08_Bursts_1 F a0 a1 a2 (!r59)

theorem ref08_Bursts_ok (F : Nat) (a0 : (List Int)) (a1 : Int) (a2 : Int) (s0 : SV) (r : (List S_api_Burst) × Int) (M : Mem) (hs0 : Slc (rd M) 1 (FlatR enc3) s0 a0) (h : ref08_Bursts F a0 a1 a2 = some r) : CallsM Try.prog 32 [s0, (.int .i64 a1), (.int .i64 a2)] M (fun s M' => ∃ q1, s = (.tuple [q1, (.int .i64 r.2)]) ∧ New M M' [.vec 51 3 r.1.length q1 (r.1.flatMap enc51)]) := by
  refine CallsM.fresh (Q := ref08_Bursts_post r) Try.func32 rfl rfl ?_ (by rintro s Me ⟨q1, rfl, hx⟩ ha hw; exact ⟨_, rfl, New.of rfl hx ha hw⟩)
  rw [ref08_Bursts] at h
  replace hs0 := hs0.mono (rdLe_frozen M) (fun _ _ h => h)
  have hH := Has.nil (frozen M)
  refine Run.seq (Run.region ?_)
  refine Run.opG wantS_none (ex_assign rfl) rfl ?_
  refine Run.opG wantS_none (ex_assign rfl) rfl ?_
  refine Run.opsEnd (Run.seq (Run.seq (Run.region ?_)))
  refine Run.opG wantS_none (ex_move rfl) rfl ?_
  obtain ⟨r22, hr22, h⟩ := bnd_some h
  refine Run.callP wantS_none (ex_call rfl mkk71 cal71) rfl (ref08_record_ok F a0 s0 _ _ (hH.slcF hs0) hr22) ?_
  refine Run.opG wantS_none (ex_not rfl) rfl ?_
  refine Run.opsEnd ?_
  rcases btf ((!r22)) with hc24 | hc24
  · have h := bif_t hc24 h
    refine Run.condT' rfl hc24 ?_
    refine Run.seq (Run.region ?_)
    refine Run.opG wantS_none (ex_assign rfl) rfl ?_
    refine Run.opG wantS_none (ex_assign rfl) rfl ?_
    refine Run.opsEnd ?_
    have hH26 : Has (ro (frozen M)) (frozen M) [.vec 51 3 ([] : List S_api_Burst).length .nils (([] : List S_api_Burst).flatMap enc51)] := hH.nils 51 3
    cases h
    exact Run.ret Try.func32 rfl (res_tmp rfl (res_tmp rfl res_nil)) ⟨_, rfl, (hH26.pick [0] rfl rfl).upF (none_le _)⟩
  · have h := bif_f hc24 h
    refine Run.condF' rfl hc24 ?_
    refine Run.skip (Run.seq (Run.seq (Run.region ?_)))
    refine Run.opG wantS_none (ex_move rfl) rfl ?_
    obtain ⟨r28, hr28, h⟩ := bnd_some h
    refine Run.callP wantS_none (ex_call rfl mkk49 cal49) rfl (ref00_In_ok F a1 (1 : Int) (1024 : Int) _ _ hr28) ?_
    refine Run.opG wantS_none (ex_not rfl) rfl ?_
    refine Run.opG wantS_none (ex_move rfl) rfl ?_
    rcases btf ((!r28)) with hc30 | hc30
    · have h := bif_t hc30 h
      refine Run.no (wantS_not' rfl rfl hc30) rfl ?_
      refine Run.no (wantS_not' rfl rfl hc30) rfl ?_
      refine Run.no (wantS_not' rfl rfl hc30) rfl ?_
      refine Run.opG wantS_none (ex_pickT' rfl hc30 rfl rfl) rfl ?_
      refine Run.opsEnd ?_
      exact Run.pick [0, 1, 2, 22] (ref08_Bursts_1_ok F a0 a1 a2 true s0 _ _ _ hs0 hH h)
    · have h := bif_f hc30 h
      refine Run.opG (wantS_yes' rfl rfl hc30) (ex_move rfl) rfl ?_
      obtain ⟨r59, hr59, h⟩ := bnd_some h
      refine Run.callP (wantS_yes' rfl rfl hc30) (ex_call rfl mkk49 cal49) rfl (ref00_In_ok F a2 (1 : Int) (1152921504606846976 : Int) _ _ hr59) ?_
      refine Run.opG (wantS_yes' rfl rfl hc30) (ex_not rfl) rfl ?_
      refine Run.opG wantS_none (ex_pickF' rfl hc30 rfl rfl) rfl ?_
      refine Run.opsEnd ?_
      exact Run.pick [0, 1, 2, 22] (ref08_Bursts_1_ok F a0 a1 a2 (!r59) s0 _ _ _ hs0 hH h)

theorem mkk32 : makeK Try.prog 32 = none := by kernel_rfl
theorem cal32 : callable Try.prog 32 = true := by kernel_rfl
theorem agg51 : aggSize Try.prog 51 = some (some 3) := by kernel_rfl
theorem agk3 : aggK Try.prog 3 = some .int := by kernel_rfl
theorem agk51 : aggK Try.prog 51 = some (.st [⟨ "From", 3, 0, false, "", "", 0⟩, ⟨ "To", 3, 1, false, "", "", 8⟩, ⟨ "Peak", 3, 2, false, "", "", 16⟩]) := by kernel_rfl
theorem aeq51 : aggEq Try.prog 51 = false := by kernel_rfl
theorem plan6_1_1_1_1_0_1_0_0_1_0_0_0 : planOf Try.prog (opsC (atC Try.prog 6 [1, 1, 1, 1, 0, 1, 0, 0, 1, 0, 0, 0])) = some [.fl 0, .fl 1, .fl 2, .fl 3, .fl 4, .fl 5, .fl 6, .fl 7, .fl 8, .sync] := by kernel_rfl
theorem mkk22 : makeK Try.prog 22 = none := by kernel_rfl
theorem cal22 : callable Try.prog 22 = true := by kernel_rfl
abbrev law08_SearchBursts_post (r : Bool) : SV → Mem → Prop := fun s _ => s = (.bool r)

def law08_SearchBursts_2 (F : Nat) : Nat → Int → (List S_api_Burst) → (List S_api_Burst) → Option (Bool)
  | 0, _, _, _ => none
  | N + 1, v11, l24, l29 =>
    bif (decide (v11 < (l24.length : Int))) then
      bnd (idx l24 v11) fun x34 =>
      bnd (idx l29 v11) fun x35 =>
      bif (!((x34.From == x35.From) && ((x34.To == x35.To) && ((x34.Peak == x35.Peak) && true)))) then
        some false
      else
        (law08_SearchBursts_2 F N) (w64 (v11 + (1 : Int))) l24 l29
    else
      bnd (works F) fun r38 =>
      some r38

theorem law08_SearchBursts_2_ok (F : Nat) : ∀ (N : Nat), ∀ (v11 : Int) (l24 : (List S_api_Burst)) (l29 : (List S_api_Burst)) (s24 : SV) (s29 : SV) (Fr : Rd) (M : Mem) (r : Bool) (hH : Has Fr M [.vec 51 3 l24.length s24 (l24.flatMap enc51), .vec 51 3 l29.length s29 (l29.flatMap enc51)]), law08_SearchBursts_2 F N v11 l24 l29 = some r → Run Try.prog ⟨⟨6, [], none⟩, []⟩ 52 (law08_SearchBursts_post r) [(7, s24), (9, s29), (11, (.int .i64 v11))] [codeC Try.prog 6 [1, 1, 1, 1, 0, 1, 0, 0], loopC Try.prog 6 [1, 1, 1, 1, 0, 1, 0, 0], .inBlock 0, codeC Try.prog 6 [1, 1, 1, 1, 1]] M := by
  intro N
  induction N with
  | zero =>
    intro v11 l24 l29 s24 s29 Fr M r hH h
    simp [law08_SearchBursts_2] at h
  | succ N ih =>
    intro v11 l24 l29 s24 s29 Fr M r hH h
    rw [law08_SearchBursts_2] at h
    refine Run.seq (Run.seq (Run.region ?_))
    refine Run.opG wantS_none (ex_move rfl) rfl ?_
    refine Run.opG wantS_none (ex_move rfl) rfl ?_
    refine Run.opG wantS_none (ex_len' rfl (hH.slc (i := 0) rfl enc51_len) lenk47) rfl ?_
    refine Run.opG wantS_none (ex_lss rfl rfl) rfl ?_
    refine Run.opsEnd ?_
    rcases btf ((decide (v11 < (l24.length : Int)))) with hc33 | hc33
    · have h := bif_t hc33 h
      refine Run.condT' rfl hc33 ?_
      refine Run.skip (Run.seq (Run.block (Run.seq ?_)))
      refine Run.drawG plan6_1_1_1_1_0_1_0_0_1_0_0_0 ?_
      refine DrawG.fl rfl (ev_ex wantS_none (ex_move rfl)) rfl ?_
      refine DrawG.fl rfl (ev_ex wantS_none (ex_move rfl)) rfl ?_
      obtain ⟨x34, hx34, h⟩ := bnd_some h
      obtain ⟨p34, o34, hb34, hx34, he34⟩ := vec_elem (P := Try.prog) (t := 47) (kk := .i64) hH (i := 0) rfl hx34 els47
      refine DrawG.fl rfl (ev_ex wantS_none (ex_elX rfl rfl hx34)) rfl ?_
      refine DrawG.fl rfl (ev_ex wantS_none (ex_loadA rfl (hH.at (enc := enc51) (a := x34) (i := 0) rfl hb34 he34 enc51_len) rdLe_rfl agg51 rfl rfl rfl)) rfl ?_
      refine DrawG.fl rfl (ev_ex wantS_none (ex_move rfl)) rfl ?_
      refine DrawG.fl rfl (ev_ex wantS_none (ex_move rfl)) rfl ?_
      obtain ⟨x35, hx35, h⟩ := bnd_some h
      obtain ⟨p35, o35, hb35, hx35, he35⟩ := vec_elem (P := Try.prog) (t := 47) (kk := .i64) hH (i := 1) rfl hx35 els47
      refine DrawG.fl rfl (ev_ex wantS_none (ex_elX rfl rfl hx35)) rfl ?_
      refine DrawG.fl rfl (ev_ex wantS_none (ex_loadA rfl (hH.at (enc := enc51) (a := x35) (i := 1) rfl hb35 he35 enc51_len) rdLe_rfl agg51 rfl rfl rfl)) rfl ?_
      refine DrawG.fl rfl (ev_ex wantS_none (ex_neqA rfl rfl aeq51 (eqA_st agk51 (eqFs_cons (by decide) (part_one agg3 rfl) (part_one agg3 rfl) (eqA_int agk3) (eqFs_cons (by decide) (part_one agg3 rfl) (part_one agg3 rfl) (eqA_int agk3) (eqFs_cons (by decide) (part_one agg3 rfl) (part_one agg3 rfl) (eqA_int agk3) eqFs_nil)))))) rfl ?_
      refine DrawG.sync ?_
      refine DrawG.nil ?_
      rcases btf ((!((x34.From == x35.From) && ((x34.To == x35.To) && ((x34.Peak == x35.Peak) && true))))) with hc36 | hc36
      · have h := bif_t hc36 h
        refine Run.condT' rfl hc36 ?_
        refine Run.seq (Run.region ?_)
        refine Run.opG wantS_none (ex_assign rfl) rfl ?_
        refine Run.opsEnd ?_
        cases h
        exact Run.ret Try.func6 rfl (res_tmp rfl res_nil) rfl
      · have h := bif_f hc36 h
        refine Run.condF' rfl hc36 ?_
        refine Run.skip (Run.inBlock (Run.region ?_))
        refine Run.opG wantS_none (ex_move rfl) rfl ?_
        refine Run.opG wantS_none (ex_add rfl rfl) rfl ?_
        refine Run.opG wantS_none (ex_assign rfl) rfl ?_
        refine Run.opsEnd (Run.inLoop ?_)
        exact Run.pick [7, 9, 11] (ih (w64 (v11 + (1 : Int))) l24 l29 s24 s29 _ _ _ hH h)
    · have h := bif_f hc33 h
      refine Run.condF' rfl hc33 ?_
      refine Run.exit rfl (Run.seq (Run.region ?_))
      obtain ⟨r38, hr38, h⟩ := bnd_some h
      refine Run.callP wantS_none (ex_call rfl mkk22 cal22) rfl (works_ok F r38 _ hH  hr38) ?_
      refine Run.opG wantS_none (ex_assign rfl) rfl ?_
      refine Run.opsEnd ?_
      cases h
      exact Run.ret Try.func6 rfl (res_tmp rfl res_nil) rfl

def law08_SearchBursts_1 (F : Nat) (v35 : Bool) (l24 : (List S_api_Burst)) (l29 : (List S_api_Burst)) : Option (Bool) :=
  bif v35 then
    some false
  else
    law08_SearchBursts_2 F F (0 : Int) l24 l29

theorem law08_SearchBursts_1_ok (F : Nat) : ∀ (v35 : Bool) (l24 : (List S_api_Burst)) (l29 : (List S_api_Burst)) (s24 : SV) (s29 : SV) (Fr : Rd) (M : Mem) (r : Bool) (hH : Has Fr M [.vec 51 3 l24.length s24 (l24.flatMap enc51), .vec 51 3 l29.length s29 (l29.flatMap enc51)]), law08_SearchBursts_1 F v35 l24 l29 = some r → Run Try.prog ⟨⟨6, [], none⟩, []⟩ 52 (law08_SearchBursts_post r) [(7, s24), (9, s29), (35, (.bool v35))] [codeC Try.prog 6 [1, 1, 1, 0, 1], codeC Try.prog 6 [1, 1, 1, 1]] M := by
  intro v35 l24 l29 s24 s29 Fr M r hH h
  rw [law08_SearchBursts_1] at h
  rcases btf (v35) with hc32 | hc32
  · have h := bif_t hc32 h
    refine Run.condT' rfl hc32 ?_
    refine Run.seq (Run.region ?_)
    refine Run.opG wantS_none (ex_assign rfl) rfl ?_
    refine Run.opsEnd ?_
    cases h
    exact Run.ret Try.func6 rfl (res_tmp rfl res_nil) rfl
  · have h := bif_f hc32 h
    refine Run.condF' rfl hc32 ?_
    refine Run.skip (Run.seq (Run.seq (Run.region ?_)))
    refine Run.opG wantS_none (ex_assign rfl) rfl ?_
    refine Run.opsEnd (Run.block (Run.loop ?_))
    exact Run.pick [7, 9, 11] (law08_SearchBursts_2_ok F F (0 : Int) l24 l29 s24 s29 _ _ _ hH h)

def law08_SearchBursts (F : Nat) (a0 : (List Int)) (a1 : Int) (a2 : Int) : Option (Bool) :=
  bnd (search_Bursts F a0 a1 a2) fun r23 =>
  bnd (ref08_Bursts F a0 a1 a2) fun r28 =>
  bif (!((r23.1.length : Int) == (r28.1.length : Int))) then
    law08_SearchBursts_1 F true r23.1 r28.1
  else
    law08_SearchBursts_1 F (!(r23.2 == r28.2)) r23.1 r28.1

theorem law08_SearchBursts_run (F : Nat) (a0 : (List Int)) (a1 : Int) (a2 : Int) (s0 : SV) (r : Bool) (M : Mem) (hs0 : Slc (rd M) 1 (FlatR enc3) s0 a0) (hfx : FixIn M fixes) (h : law08_SearchBursts F a0 a1 a2 = some r) : Run Try.prog (fx0 6) 52 (law08_SearchBursts_post r) [(0, s0), (1, (.int .i64 a1)), (2, (.int .i64 a2))] [codeC Try.prog 6 []] (frozen M) := by
  rw [law08_SearchBursts] at h
  replace hs0 := hs0.mono (rdLe_frozen M) (fun _ _ h => h)
  have hH : Has (ro (frozen M)) (frozen M) [] := Has.ofFix hfx.frozen
  refine Run.seq (Run.region ?_)
  refine Run.opG wantS_none (ex_assign rfl) rfl ?_
  refine Run.opsEnd (Run.seq (Run.region ?_))
  refine Run.opG wantS_none (ex_move rfl) rfl ?_
  refine Run.opG wantS_none (ex_move rfl) rfl ?_
  refine Run.opG wantS_none (ex_move rfl) rfl ?_
  obtain ⟨r23, hr23, h⟩ := bnd_some h
  refine Run.callX wantS_none (ex_call rfl mkk31 cal31) rfl (search_Bursts_ok F a0 a1 a2 s0 _ _ (hH.slcF hs0) hr23) ?_
  rintro _ M25 ⟨s23_0, rfl, hN23⟩
  have hH25 : Has (ro (frozen M)) M25 [.vec 51 3 r23.1.length s23_0 (r23.1.flatMap enc51)] := hN23.1 _ _ hH
  refine Run.opG wantS_none (ex_move rfl) rfl ?_
  refine Run.opG wantS_none (ex_extract rfl rfl) rfl ?_
  refine Run.opG wantS_none (ex_extract rfl rfl) rfl ?_
  refine Run.opG wantS_none (ex_assign rfl) rfl ?_
  refine Run.opG wantS_none (ex_assign rfl) rfl ?_
  refine Run.opsEnd (Run.seq (Run.region ?_))
  refine Run.opG wantS_none (ex_move rfl) rfl ?_
  refine Run.opG wantS_none (ex_move rfl) rfl ?_
  refine Run.opG wantS_none (ex_move rfl) rfl ?_
  obtain ⟨r28, hr28, h⟩ := bnd_some h
  refine Run.callX wantS_none (ex_call rfl mkk32 cal32) rfl (ref08_Bursts_ok F a0 a1 a2 s0 _ _ (hH25.slcF hs0) hr28) ?_
  rintro _ M30 ⟨s28_0, rfl, hN28⟩
  have hH30 : Has (ro (frozen M)) M30 [.vec 51 3 r28.1.length s28_0 (r28.1.flatMap enc51), .vec 51 3 r23.1.length s23_0 (r23.1.flatMap enc51)] := hN28.1 _ _ hH25
  refine Run.opG wantS_none (ex_move rfl) rfl ?_
  refine Run.opG wantS_none (ex_extract rfl rfl) rfl ?_
  refine Run.opG wantS_none (ex_extract rfl rfl) rfl ?_
  refine Run.opG wantS_none (ex_assign rfl) rfl ?_
  refine Run.opG wantS_none (ex_assign rfl) rfl ?_
  refine Run.opsEnd (Run.seq (Run.seq (Run.region ?_)))
  refine Run.opG wantS_none (ex_move rfl) rfl ?_
  refine Run.opG wantS_none (ex_len' rfl (hH30.slc (i := 1) rfl enc51_len) lenk47) rfl ?_
  refine Run.opG wantS_none (ex_move rfl) rfl ?_
  refine Run.opG wantS_none (ex_len' rfl (hH30.slc (i := 0) rfl enc51_len) lenk47) rfl ?_
  refine Run.opG wantS_none (ex_neq rfl rfl) rfl ?_
  refine Run.opG wantS_none (ex_move rfl) rfl ?_
  rcases btf ((!((r23.1.length : Int) == (r28.1.length : Int)))) with hc31 | hc31
  · have h := bif_t hc31 h
    refine Run.no (wantS_not' rfl rfl hc31) rfl ?_
    refine Run.no (wantS_not' rfl rfl hc31) rfl ?_
    refine Run.no (wantS_not' rfl rfl hc31) rfl ?_
    refine Run.opG wantS_none (ex_pickT' rfl hc31 rfl rfl) rfl ?_
    refine Run.opsEnd ?_
    exact Run.pick [7, 9, 35] (law08_SearchBursts_1_ok F true r23.1 r28.1 s23_0 s28_0 _ _ _ (hH30.pick [1, 0] rfl rfl) h)
  · have h := bif_f hc31 h
    refine Run.opG (wantS_yes' rfl rfl hc31) (ex_move rfl) rfl ?_
    refine Run.opG (wantS_yes' rfl rfl hc31) (ex_move rfl) rfl ?_
    refine Run.opG (wantS_yes' rfl rfl hc31) (ex_neq rfl rfl) rfl ?_
    refine Run.opG wantS_none (ex_pickF' rfl hc31 rfl rfl) rfl ?_
    refine Run.opsEnd ?_
    exact Run.pick [7, 9, 35] (law08_SearchBursts_1_ok F (!(r23.2 == r28.2)) r23.1 r28.1 s23_0 s28_0 _ _ _ (hH30.pick [1, 0] rfl rfl) h)

end Go.Ev.SearchBursts
