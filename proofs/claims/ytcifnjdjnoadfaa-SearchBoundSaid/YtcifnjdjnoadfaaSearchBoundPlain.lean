/- Plain functions that say what functions of the program come to, and proofs of it, written by a program of the verifier's own. -/
import Derived.Test.YtcifnjdjnoadfaaEvL11
import Derived.Test.YtcifnjdjnoadfaaWorks
import Derived.KernelRfl
namespace Go.Ev.SearchBound
open Go Go.Ev Go.Proofs
set_option maxRecDepth 100000
set_option linter.unusedVariables false

/-- The listed tables. -/
noncomputable def fixes : List (Nat × List SV) := Go.Proofs.Ytcifnjdjnoadfaa.works.fixes
/-- works() comes to true. -/
def works (_ : Nat) : Option Bool := some true
theorem fixH {Fr : Rd} {H : List Ent} {M : Mem} (hH : Has Fr M H) : FixIn M fixes := fun x hx => absurd hx List.not_mem_nil

theorem works_ok (F : Nat) (r : Bool) {Fr : Rd} {H : List Ent} (M : Mem) (hH : Has Fr M H) (h : works F = some r) : CallsM Try.prog 22 [] M fun s M' => s = .bool r ∧ M' = M := by
  cases h
  exact CallsM.closedFix (n := 300) (l := Go.Proofs.Ytcifnjdjnoadfaa.works.fixes) Go.Proofs.Ytcifnjdjnoadfaa.works.below Go.Proofs.Ytcifnjdjnoadfaa.works.plainF Go.Proofs.Ytcifnjdjnoadfaa.works.works_true (fun x hx => absurd hx List.not_mem_nil)


def enc3 (a : Int) : List SV := [(.int .i64 a)]
theorem enc3_len (a : Int) : (enc3 a).length = 1 := rfl
theorem enc3_ones (a : Int) : ones (enc3 a) = true := rfl
theorem lenk38 : lenK Try.prog 38 = some .sl := by kernel_rfl
theorem slk38 : slK Try.prog 38 = some (.sl 1) := by kernel_rfl
structure S_api_Chance where
  N : Int
  Of : Int

theorem zer43 : zerosOf Try.prog 43 = some [(.int .i64 0), (.int .i64 0)] := by kernel_rfl
abbrev search_isFrom_post (r : Bool) : SV → Mem → Prop := fun s _ => s = (.bool r)

def search_isFrom_1 (F : Nat) (v14 : Bool) : Option (Bool) :=
  some v14

theorem search_isFrom_1_ok (F : Nat) : ∀ (v14 : Bool) (Fr : Rd) (M : Mem) (r : Bool) (hH : Has Fr M []), search_isFrom_1 F v14 = some r → Run Try.prog ⟨⟨62, [], none⟩, []⟩ 15 (search_isFrom_post r) [(14, (.bool v14))] [itemC Try.prog 62 [1, 0] 8, codeC Try.prog 62 [1, 1]] M := by
  intro v14 Fr M r hH h
  rw [search_isFrom_1] at h
  refine Run.opG wantS_none (ex_assign rfl) rfl ?_
  refine Run.opsEnd ?_
  cases h
  exact Run.ret Try.func62 rfl (res_tmp rfl res_nil) rfl

def search_isFrom (F : Nat) (a0 : Int) (a1 : Int) (a2 : Int) : Option (Bool) :=
  bif (decide (a0 ≤ a1)) then
    search_isFrom_1 F (decide (a1 ≤ a2))
  else
    search_isFrom_1 F false

theorem search_isFrom_ok (F : Nat) (a0 : Int) (a1 : Int) (a2 : Int) (r : Bool) (M : Mem) (h : search_isFrom F a0 a1 a2 = some r) : CallsM Try.prog 62 [(.int .i64 a0), (.int .i64 a1), (.int .i64 a2)] M (fun s M' => s = (.bool r) ∧ M' = M) := by
  refine CallsM.plain Try.func62 rfl rfl rfl (show Run _ _ _ (search_isFrom_post r) _ _ _ from ?_)
  rw [search_isFrom] at h
  have hH := Has.nil (frozen M)
  refine Run.seq (Run.region ?_)
  refine Run.opG wantS_none (ex_assign rfl) rfl ?_
  refine Run.opsEnd (Run.seq (Run.region ?_))
  refine Run.opG wantS_none (ex_move rfl) rfl ?_
  refine Run.opG wantS_none (ex_move rfl) rfl ?_
  refine Run.opG wantS_none (ex_leq rfl rfl) rfl ?_
  refine Run.opG wantS_none (ex_move rfl) rfl ?_
  rcases btf ((decide (a0 ≤ a1))) with hc21 | hc21
  · have h := bif_t hc21 h
    refine Run.opG (wantS_yes' rfl rfl hc21) (ex_move rfl) rfl ?_
    refine Run.opG (wantS_yes' rfl rfl hc21) (ex_move rfl) rfl ?_
    refine Run.opG (wantS_yes' rfl rfl hc21) (ex_leq rfl rfl) rfl ?_
    refine Run.opG wantS_none (ex_pickT' rfl hc21 rfl rfl) rfl ?_
    exact Run.pick [14] (search_isFrom_1_ok F (decide (a1 ≤ a2)) _ _ _ hH h)
  · have h := bif_f hc21 h
    refine Run.no (wantS_not' rfl rfl hc21) rfl ?_
    refine Run.no (wantS_not' rfl rfl hc21) rfl ?_
    refine Run.no (wantS_not' rfl rfl hc21) rfl ?_
    refine Run.opG wantS_none (ex_pickF' rfl hc21 rfl rfl) rfl ?_
    exact Run.pick [14] (search_isFrom_1_ok F false _ _ _ hH h)

theorem mkk62 : makeK Try.prog 62 = none := by kernel_rfl
theorem cal62 : callable Try.prog 62 = true := by kernel_rfl
theorem pls43 : placesOf Try.prog 43 = some (.st [(0, 1), (1, 1)]) := by kernel_rfl
theorem sz43 : szOf Try.prog 43 = some 2 := by kernel_rfl
theorem agg43 : aggSize Try.prog 43 = some (some 2) := by kernel_rfl
theorem els38 : elems Try.prog 38 = some (.sl 1) := by kernel_rfl
theorem agg3 : aggSize Try.prog 3 = some none := by kernel_rfl
abbrev search_chance_post (r : S_api_Chance) : SV → Mem → Prop := fun s _ => s = (.agg [(.int .i64 r.N), (.int .i64 r.Of)])

def search_chance_2 (F : Nat) (hd1 : (List Int) → Int → Int → (List Int) → Int → Int → S_api_Chance → Option (S_api_Chance)) (v0 : (List Int)) (v1 : Int) (v5 : Int) (v8 : (List Int)) (v9 : Int) (v10 : Int) (c22 : S_api_Chance) : Option (S_api_Chance) :=
  hd1 v0 v1 v5 v8 v9 (w64 (v10 + (1 : Int))) c22

theorem search_chance_2_ok (F : Nat) (hd1 : (List Int) → Int → Int → (List Int) → Int → Int → S_api_Chance → Option (S_api_Chance)) (hhd1 : ∀ (v0 : (List Int)) (v1 : Int) (v5 : Int) (v8 : (List Int)) (v9 : Int) (v10 : Int) (c22 : S_api_Chance) (sv0 : SV) (sv8 : SV) (b22 : Pos) (Fr : Rd) (M : Mem) (r : S_api_Chance) (hv0 : Slc Fr 1 (FlatR enc3) sv0 v0) (hv8 : Slc Fr 1 (FlatR enc3) sv8 v8) (hH : Has Fr M [.obj b22 (.row 43 .whole [(.int .i64 c22.N), (.int .i64 c22.Of)])]), hd1 v0 v1 v5 v8 v9 v10 c22 = some r → Run Try.prog ⟨⟨67, [], none⟩, []⟩ 25 (search_chance_post r) [(0, sv0), (1, (.int .i64 v1)), (4, (.ptr b22 0)), (5, (.int .i64 v5)), (8, sv8), (9, (.int .i64 v9)), (10, (.int .i64 v10))] [codeC Try.prog 67 [1, 1, 0, 1, 0, 0], loopC Try.prog 67 [1, 1, 0, 1, 0, 0], .inBlock 0, codeC Try.prog 67 [1, 1, 1]] M) : ∀ (v0 : (List Int)) (v1 : Int) (v5 : Int) (v8 : (List Int)) (v9 : Int) (v10 : Int) (c22 : S_api_Chance) (sv0 : SV) (sv8 : SV) (b22 : Pos) (Fr : Rd) (M : Mem) (r : S_api_Chance) (hv0 : Slc Fr 1 (FlatR enc3) sv0 v0) (hv8 : Slc Fr 1 (FlatR enc3) sv8 v8) (hH : Has Fr M [.obj b22 (.row 43 .whole [(.int .i64 c22.N), (.int .i64 c22.Of)])]), search_chance_2 F hd1 v0 v1 v5 v8 v9 v10 c22 = some r → Run Try.prog ⟨⟨67, [], none⟩, []⟩ 25 (search_chance_post r) [(0, sv0), (1, (.int .i64 v1)), (4, (.ptr b22 0)), (5, (.int .i64 v5)), (8, sv8), (9, (.int .i64 v9)), (10, (.int .i64 v10))] [itemC Try.prog 67 [1, 1, 0, 1, 0, 0, 1, 1, 1] 0, loopC Try.prog 67 [1, 1, 0, 1, 0, 0], .inBlock 0, codeC Try.prog 67 [1, 1, 1]] M := by
  intro v0 v1 v5 v8 v9 v10 c22 sv0 sv8 b22 Fr M r hv0 hv8 hH h
  rw [search_chance_2] at h
  refine Run.opG wantS_none (ex_add rfl rfl) rfl ?_
  refine Run.opG wantS_none (ex_move rfl) rfl ?_
  refine Run.opsEnd (Run.inLoop ?_)
  exact Run.pick [0, 1, 4, 5, 8, 9, 10] (hhd1 v0 v1 v5 v8 v9 (w64 (v10 + (1 : Int))) c22 sv0 sv8 b22 _ _ _ hv0 hv8 hH h)

def search_chance_1 (F : Nat) : Nat → (List Int) → Int → Int → (List Int) → Int → Int → S_api_Chance → Option (S_api_Chance)
  | 0, _, _, _, _, _, _, _ => none
  | N + 1, v0, v1, v5, v8, v9, v10, c22 =>
    bif (decide (v10 < v9)) then
      bnd (idx v8 v10) fun x26 =>
      bif (decide (v1 ≤ x26)) then
        search_chance_2 F (search_chance_1 F N) v0 v1 (w64 (v5 + (1 : Int))) v8 v9 v10 c22
      else
        search_chance_2 F (search_chance_1 F N) v0 v1 v5 v8 v9 v10 c22
    else
      some (S_api_Chance.mk (max v5 (1 : Int)) (v0.length : Int))

theorem search_chance_1_ok (F : Nat) : ∀ (N : Nat), ∀ (v0 : (List Int)) (v1 : Int) (v5 : Int) (v8 : (List Int)) (v9 : Int) (v10 : Int) (c22 : S_api_Chance) (sv0 : SV) (sv8 : SV) (b22 : Pos) (Fr : Rd) (M : Mem) (r : S_api_Chance) (hv0 : Slc Fr 1 (FlatR enc3) sv0 v0) (hv8 : Slc Fr 1 (FlatR enc3) sv8 v8) (hH : Has Fr M [.obj b22 (.row 43 .whole [(.int .i64 c22.N), (.int .i64 c22.Of)])]), search_chance_1 F N v0 v1 v5 v8 v9 v10 c22 = some r → Run Try.prog ⟨⟨67, [], none⟩, []⟩ 25 (search_chance_post r) [(0, sv0), (1, (.int .i64 v1)), (4, (.ptr b22 0)), (5, (.int .i64 v5)), (8, sv8), (9, (.int .i64 v9)), (10, (.int .i64 v10))] [codeC Try.prog 67 [1, 1, 0, 1, 0, 0], loopC Try.prog 67 [1, 1, 0, 1, 0, 0], .inBlock 0, codeC Try.prog 67 [1, 1, 1]] M := by
  intro N
  induction N with
  | zero =>
    intro v0 v1 v5 v8 v9 v10 c22 sv0 sv8 b22 Fr M r hv0 hv8 hH h
    simp [search_chance_1] at h
  | succ N ih =>
    intro v0 v1 v5 v8 v9 v10 c22 sv0 sv8 b22 Fr M r hv0 hv8 hH h
    rw [search_chance_1] at h
    refine Run.seq (Run.region ?_)
    refine Run.opG wantS_none (ex_lss rfl rfl) rfl ?_
    refine Run.opsEnd (Run.seq ?_)
    rcases btf ((decide (v10 < v9))) with hc24 | hc24
    · have h := bif_t hc24 h
      refine Run.condT' rfl hc24 ?_
      refine Run.skip (Run.seq (Run.block (Run.seq (Run.region ?_))))
      obtain ⟨x26, hx26, h⟩ := bnd_some h
      obtain ⟨p26, o26, _, hx26, hp26, rfl⟩ := sl_elem (P := Try.prog) (t := 38) (kk := .i64) hv8 hx26 els38
      refine Run.opG wantS_none (ex_elX rfl rfl hx26) rfl ?_
      refine Run.opG wantS_none (ex_load1 rfl (hH.ptrF hp26) rdLe_rfl agg3) rfl ?_
      refine Run.opG wantS_none (ex_assign rfl) rfl ?_
      refine Run.opsEnd (Run.seq (Run.region ?_))
      refine Run.opG wantS_none (ex_move rfl) rfl ?_
      refine Run.opG wantS_none (ex_move rfl) rfl ?_
      refine Run.opG wantS_none (ex_geq rfl rfl) rfl ?_
      refine Run.opsEnd ?_
      rcases btf ((decide (v1 ≤ x26))) with hc27 | hc27
      · have h := bif_t hc27 h
        refine Run.condT' rfl hc27 ?_
        refine Run.region ?_
        refine Run.opG wantS_none (ex_move rfl) rfl ?_
        refine Run.opG wantS_none (ex_add rfl rfl) rfl ?_
        refine Run.opG wantS_none (ex_assign rfl) rfl ?_
        refine Run.opsEnd (Run.inBlock (Run.region ?_))
        exact Run.pick [0, 1, 4, 5, 8, 9, 10] (search_chance_2_ok F (search_chance_1 F N) ih v0 v1 (w64 (v5 + (1 : Int))) v8 v9 v10 c22 sv0 sv8 b22 _ _ _ hv0 hv8 hH h)
      · have h := bif_f hc27 h
        refine Run.condF' rfl hc27 ?_
        refine Run.skip (Run.inBlock (Run.region ?_))
        exact Run.pick [0, 1, 4, 5, 8, 9, 10] (search_chance_2_ok F (search_chance_1 F N) ih v0 v1 v5 v8 v9 v10 c22 sv0 sv8 b22 _ _ _ hv0 hv8 hH h)
    · have h := bif_f hc24 h
      refine Run.condF' rfl hc24 ?_
      refine Run.exit rfl (Run.seq (Run.region ?_))
      refine Run.opG wantS_none (ex_move rfl) rfl ?_
      refine Run.opG wantS_none (ex_max rfl rfl) rfl ?_
      refine Run.opG wantS_none (ex_move rfl) rfl ?_
      refine Run.opG wantS_none (ex_len' rfl hv0 lenk38) rfl ?_
      refine Run.opG wantS_none (ex_build (r := [(.int .i64 (max v5 (1 : Int))), (.int .i64 (v0.length : Int))]) rfl zer43 pls43 rfl) rfl ?_
      refine Run.opX wantS_none rfl (ExG.storeC (c' := [(.int .i64 (max v5 (1 : Int))), (.int .i64 (v0.length : Int))]) rfl rfl rfl hH (i := 0) rfl sz43 rfl rfl rfl rfl rfl) ?_
      rintro _ M28 ⟨rfl, (hH28 : Has Fr M28 [.obj b22 (.row 43 .whole [(.int .i64 (max v5 (1 : Int))), (.int .i64 (v0.length : Int))])])⟩
      refine Run.opsEnd ?_
      cases h
      exact Run.ret Try.func67 rfl (res_cell rfl (x_load (ex_loadA rfl (hH28.cells (i := 0) rfl 0 rfl) rdLe_rfl agg43 rfl rfl rfl)) res_nil) rfl

def search_chance (F : Nat) (a0 : (List Int)) (a1 : Int) : Option (S_api_Chance) :=
  search_chance_1 F F a0 a1 (0 : Int) a0 (a0.length : Int) (0 : Int) (S_api_Chance.mk 0 0)

theorem search_chance_ok (F : Nat) (a0 : (List Int)) (a1 : Int) (s0 : SV) (r : S_api_Chance) (M : Mem) (hs0 : Slc (rd M) 1 (FlatR enc3) s0 a0) (h : search_chance F a0 a1 = some r) : CallsM Try.prog 67 [s0, (.int .i64 a1)] M (fun s M' => s = (.agg [(.int .i64 r.N), (.int .i64 r.Of)]) ∧ M' = M) := by
  refine CallsM.plain Try.func67 rfl rfl rfl (show Run _ _ _ (search_chance_post r) _ _ _ from ?_)
  rw [search_chance] at h
  replace hs0 := hs0.mono (rdLe_frozen M) (fun _ _ h => h)
  have hH := Has.nil (frozen M)
  refine Run.seq (Run.region ?_)
  refine Run.opX wantS_none rfl (ExG.new (v := fun b => .ptr b 0) (ex_alloc zer43) hH) ?_
  rintro _ M23 ⟨b22, rfl, (hH23 : Has (ro (frozen M)) M23 [.obj b22 (.row 43 .whole [(.int .i64 0), (.int .i64 0)])])⟩
  refine Run.opsEnd (Run.seq (Run.region ?_))
  refine Run.opG wantS_none (ex_assign rfl) rfl ?_
  refine Run.opsEnd (Run.seq (Run.seq (Run.region ?_)))
  refine Run.opG wantS_none (ex_move rfl) rfl ?_
  refine Run.opG wantS_none (ex_len' rfl hs0 lenk38) rfl ?_
  refine Run.opG wantS_none (ex_move rfl) rfl ?_
  refine Run.opsEnd (Run.block (Run.loop ?_))
  exact Run.pick [0, 1, 4, 5, 8, 9, 10] (search_chance_1_ok F F a0 a1 (0 : Int) a0 (a0.length : Int) (0 : Int) (S_api_Chance.mk 0 0) s0 s0 b22 _ _ _ hs0 hs0 hH23 h)

theorem mkk67 : makeK Try.prog 67 = none := by kernel_rfl
theorem cal67 : callable Try.prog 67 = true := by kernel_rfl
abbrev search_Chance_post (r : S_api_Chance × Int) : SV → Mem → Prop := fun s _ => s = (.tuple [(.agg [(.int .i64 r.1.N), (.int .i64 r.1.Of)]), (.int .i64 r.2)])

def search_Chance (F : Nat) (a0 : (List Int)) (a1 : Int) : Option (S_api_Chance × Int) :=
  bnd (search_isFrom F (1 : Int) (a0.length : Int) (256 : Int)) fun r25 =>
  bif (!r25) then
    some ((S_api_Chance.mk 0 0), (2 : Int))
  else
    bnd (search_chance F a0 a1) fun r30 =>
    some (r30, (0 : Int))

theorem search_Chance_ok (F : Nat) (a0 : (List Int)) (a1 : Int) (s0 : SV) (r : S_api_Chance × Int) (M : Mem) (hs0 : Slc (rd M) 1 (FlatR enc3) s0 a0) (h : search_Chance F a0 a1 = some r) : CallsM Try.prog 29 [s0, (.int .i64 a1)] M (fun s M' => s = (.tuple [(.agg [(.int .i64 r.1.N), (.int .i64 r.1.Of)]), (.int .i64 r.2)]) ∧ M' = M) := by
  refine CallsM.plain Try.func29 rfl rfl rfl (show Run _ _ _ (search_Chance_post r) _ _ _ from ?_)
  rw [search_Chance] at h
  replace hs0 := hs0.mono (rdLe_frozen M) (fun _ _ h => h)
  have hH := Has.nil (frozen M)
  refine Run.seq (Run.region ?_)
  refine Run.opX wantS_none rfl (ExG.new (v := fun b => .ptr b 0) (ex_alloc zer43) hH) ?_
  rintro _ M23 ⟨b22, rfl, (hH23 : Has (ro (frozen M)) M23 [.obj b22 (.row 43 .whole [(.int .i64 0), (.int .i64 0)])])⟩
  refine Run.opG wantS_none (ex_assign rfl) rfl ?_
  refine Run.opsEnd (Run.seq (Run.seq (Run.region ?_)))
  refine Run.opG wantS_none (ex_move rfl) rfl ?_
  refine Run.opG wantS_none (ex_len' rfl hs0 lenk38) rfl ?_
  obtain ⟨r25, hr25, h⟩ := bnd_some h
  refine Run.callP wantS_none (ex_call rfl mkk62 cal62) rfl (search_isFrom_ok F (1 : Int) (a0.length : Int) (256 : Int) _ _ hr25) ?_
  refine Run.opG wantS_none (ex_not rfl) rfl ?_
  refine Run.opsEnd ?_
  rcases btf ((!r25)) with hc27 | hc27
  · have h := bif_t hc27 h
    refine Run.condT' rfl hc27 ?_
    refine Run.seq (Run.region ?_)
    refine Run.opG wantS_none (ex_build (r := [(.int .i64 0), (.int .i64 0)]) rfl zer43 pls43 rfl) rfl ?_
    refine Run.opX wantS_none rfl (ExG.storeC (c' := [(.int .i64 0), (.int .i64 0)]) rfl rfl rfl hH23 (i := 0) rfl sz43 rfl rfl rfl rfl rfl) ?_
    rintro _ M28 ⟨rfl, (hH28 : Has (ro (frozen M)) M28 [.obj b22 (.row 43 .whole [(.int .i64 0), (.int .i64 0)])])⟩
    refine Run.opG wantS_none (ex_assign rfl) rfl ?_
    refine Run.opsEnd ?_
    cases h
    exact Run.ret Try.func29 rfl (res_cell rfl (x_load (ex_loadA rfl (hH28.cells (i := 0) rfl 0 rfl) rdLe_rfl agg43 rfl rfl rfl)) (res_tmp rfl res_nil)) rfl
  · have h := bif_f hc27 h
    refine Run.condF' rfl hc27 ?_
    refine Run.skip (Run.seq (Run.region ?_))
    refine Run.opG wantS_none (ex_move rfl) rfl ?_
    refine Run.opG wantS_none (ex_move rfl) rfl ?_
    obtain ⟨r30, hr30, h⟩ := bnd_some h
    refine Run.callP wantS_none (ex_call rfl mkk67 cal67) rfl (search_chance_ok F a0 a1 s0 _ _ (hH23.slcF hs0) hr30) ?_
    refine Run.opX wantS_none rfl (ExG.storeC (c' := [(.int .i64 r30.N), (.int .i64 r30.Of)]) rfl rfl rfl hH23 (i := 0) rfl sz43 rfl rfl rfl rfl rfl) ?_
    rintro _ M32 ⟨rfl, (hH32 : Has (ro (frozen M)) M32 [.obj b22 (.row 43 .whole [(.int .i64 r30.N), (.int .i64 r30.Of)])])⟩
    refine Run.opG wantS_none (ex_assign rfl) rfl ?_
    refine Run.opsEnd ?_
    cases h
    exact Run.ret Try.func29 rfl (res_cell rfl (x_load (ex_loadA rfl (hH32.cells (i := 0) rfl 0 rfl) rdLe_rfl agg43 rfl rfl rfl)) (res_tmp rfl res_nil)) rfl

theorem mkk29 : makeK Try.prog 29 = none := by kernel_rfl
theorem cal29 : callable Try.prog 29 = true := by kernel_rfl
theorem mkk22 : makeK Try.prog 22 = none := by kernel_rfl
theorem cal22 : callable Try.prog 22 = true := by kernel_rfl
abbrev ref00_Mod_post (r : Int) : SV → Mem → Prop := fun s _ => s = (.int .i64 r)

def ref00_Mod_1 (F : Nat) (v0 : Int) : Option (Int) :=
  some v0

theorem ref00_Mod_1_ok (F : Nat) : ∀ (v0 : Int) (Fr : Rd) (M : Mem) (r : Int) (hH : Has Fr M []), ref00_Mod_1 F v0 = some r → Run Try.prog ⟨⟨48, [], none⟩, []⟩ 16 (ref00_Mod_post r) [(0, (.int .i64 v0))] [itemC Try.prog 48 [1, 1, 1, 1, 0] 0, codeC Try.prog 48 [1, 1, 1, 1, 1]] M := by
  intro v0 Fr M r hH h
  rw [ref00_Mod_1] at h
  refine Run.opG wantS_none (ex_move rfl) rfl ?_
  refine Run.opG wantS_none (ex_assign rfl) rfl ?_
  refine Run.opsEnd ?_
  cases h
  exact Run.ret Try.func48 rfl (res_tmp rfl res_nil) rfl

def ref00_Mod (F : Nat) (a0 : Int) (a1 : Int) : Option (Int) :=
  bif (decide (a1 < (1 : Int))) then
    some (0 : Int)
  else
    bnd (nz a1) fun z23 =>
    bif (decide ((Int.tmod a0 a1) < (0 : Int))) then
      ref00_Mod_1 F (w64 ((Int.tmod a0 a1) + a1))
    else
      ref00_Mod_1 F (Int.tmod a0 a1)

theorem ref00_Mod_ok (F : Nat) (a0 : Int) (a1 : Int) (r : Int) (M : Mem) (h : ref00_Mod F a0 a1 = some r) : CallsM Try.prog 48 [(.int .i64 a0), (.int .i64 a1)] M (fun s M' => s = (.int .i64 r) ∧ M' = M) := by
  refine CallsM.plain Try.func48 rfl rfl rfl (show Run _ _ _ (ref00_Mod_post r) _ _ _ from ?_)
  rw [ref00_Mod] at h
  have hH := Has.nil (frozen M)
  refine Run.seq (Run.region ?_)
  refine Run.opG wantS_none (ex_assign rfl) rfl ?_
  refine Run.opsEnd (Run.seq (Run.seq (Run.region ?_)))
  refine Run.opG wantS_none (ex_move rfl) rfl ?_
  refine Run.opG wantS_none (ex_lss rfl rfl) rfl ?_
  refine Run.opsEnd ?_
  rcases btf ((decide (a1 < (1 : Int)))) with hc21 | hc21
  · have h := bif_t hc21 h
    refine Run.condT' rfl hc21 ?_
    refine Run.seq (Run.region ?_)
    refine Run.opG wantS_none (ex_assign rfl) rfl ?_
    refine Run.opsEnd ?_
    cases h
    exact Run.ret Try.func48 rfl (res_tmp rfl res_nil) rfl
  · have h := bif_f hc21 h
    refine Run.condF' rfl hc21 ?_
    refine Run.skip (Run.seq (Run.region ?_))
    refine Run.opG wantS_none (ex_move rfl) rfl ?_
    refine Run.opG wantS_none (ex_move rfl) rfl ?_
    obtain ⟨z23, hz23, h⟩ := bnd_some h
    refine Run.opG wantS_none (ex_rem' rfl rfl hz23) rfl ?_
    refine Run.opG wantS_none (ex_assign rfl) rfl ?_
    refine Run.opsEnd (Run.seq (Run.seq (Run.region ?_)))
    refine Run.opG wantS_none (ex_move rfl) rfl ?_
    refine Run.opG wantS_none (ex_lss rfl rfl) rfl ?_
    refine Run.opsEnd ?_
    rcases btf ((decide ((Int.tmod a0 a1) < (0 : Int)))) with hc24 | hc24
    · have h := bif_t hc24 h
      refine Run.condT' rfl hc24 ?_
      refine Run.region ?_
      refine Run.opG wantS_none (ex_move rfl) rfl ?_
      refine Run.opG wantS_none (ex_move rfl) rfl ?_
      refine Run.opG wantS_none (ex_add rfl rfl) rfl ?_
      refine Run.opG wantS_none (ex_assign rfl) rfl ?_
      refine Run.opsEnd (Run.seq (Run.region ?_))
      exact Run.pick [0] (ref00_Mod_1_ok F (w64 ((Int.tmod a0 a1) + a1)) _ _ _ hH h)
    · have h := bif_f hc24 h
      refine Run.condF' rfl hc24 ?_
      refine Run.skip (Run.seq (Run.region ?_))
      exact Run.pick [0] (ref00_Mod_1_ok F (Int.tmod a0 a1) _ _ _ hH h)

theorem mkk48 : makeK Try.prog 48 = none := by kernel_rfl
theorem cal48 : callable Try.prog 48 = true := by kernel_rfl
theorem off43_0 : fieldOff Try.prog 43 0 = some 0 := by kernel_rfl
theorem off43_1 : fieldOff Try.prog 43 1 = some 1 := by kernel_rfl
abbrev law08_SearchBound_post (r : Bool) : SV → Mem → Prop := fun s _ => s = (.bool r)

def law08_SearchBound_2 (F : Nat) (v28 : Bool) : Option (Bool) :=
  some v28

theorem law08_SearchBound_2_ok (F : Nat) : ∀ (v28 : Bool) (Fr : Rd) (M : Mem) (r : Bool) (hH : Has Fr M []), law08_SearchBound_2 F v28 = some r → Run Try.prog ⟨⟨12, [], none⟩, []⟩ 75 (law08_SearchBound_post r) [(28, (.bool v28))] [itemC Try.prog 12 [1, 1, 0, 1, 0, 1, 0] 5, codeC Try.prog 12 [1, 1, 0, 1, 0, 1, 1], codeC Try.prog 12 [1, 1, 1]] M := by
  intro v28 Fr M r hH h
  rw [law08_SearchBound_2] at h
  refine Run.opG wantS_none (ex_assign rfl) rfl ?_
  refine Run.opsEnd ?_
  cases h
  exact Run.ret Try.func12 rfl (res_tmp rfl res_nil) rfl

def law08_SearchBound_6 (F : Nat) (hd3 : (List Int) → Int → Int → Int → Option (Bool)) (v0 : (List Int)) (v1 : Int) (v7 : Int) (v8 : Int) : Option (Bool) :=
  hd3 v0 v1 v7 (w64 (v8 + (1 : Int)))

theorem law08_SearchBound_6_ok (F : Nat) (hd3 : (List Int) → Int → Int → Int → Option (Bool)) (hhd3 : ∀ (v0 : (List Int)) (v1 : Int) (v7 : Int) (v8 : Int) (sv0 : SV) (Fr : Rd) (M : Mem) (r : Bool) (hv0 : Slc Fr 1 (FlatR enc3) sv0 v0) (hH : Has Fr M []), hd3 v0 v1 v7 v8 = some r → Run Try.prog ⟨⟨12, [], none⟩, []⟩ 75 (law08_SearchBound_post r) [(0, sv0), (1, (.int .i64 v1)), (7, (.int .i64 v7)), (8, (.int .i64 v8))] [codeC Try.prog 12 [1, 1, 1, 1, 1, 0, 1, 0, 0], loopC Try.prog 12 [1, 1, 1, 1, 1, 0, 1, 0, 0], .inBlock 0, codeC Try.prog 12 [1, 1, 1, 1, 1, 1]] M) : ∀ (v0 : (List Int)) (v1 : Int) (v7 : Int) (v8 : Int) (sv0 : SV) (Fr : Rd) (M : Mem) (r : Bool) (hv0 : Slc Fr 1 (FlatR enc3) sv0 v0) (hH : Has Fr M []), law08_SearchBound_6 F hd3 v0 v1 v7 v8 = some r → Run Try.prog ⟨⟨12, [], none⟩, []⟩ 75 (law08_SearchBound_post r) [(0, sv0), (1, (.int .i64 v1)), (7, (.int .i64 v7)), (8, (.int .i64 v8))] [itemC Try.prog 12 [1, 1, 1, 1, 1, 0, 1, 0, 0, 1, 1] 0, loopC Try.prog 12 [1, 1, 1, 1, 1, 0, 1, 0, 0], .inBlock 0, codeC Try.prog 12 [1, 1, 1, 1, 1, 1]] M := by
  intro v0 v1 v7 v8 sv0 Fr M r hv0 hH h
  rw [law08_SearchBound_6] at h
  refine Run.opG wantS_none (ex_move rfl) rfl ?_
  refine Run.opG wantS_none (ex_add rfl rfl) rfl ?_
  refine Run.opG wantS_none (ex_assign rfl) rfl ?_
  refine Run.opsEnd (Run.inLoop ?_)
  exact Run.pick [0, 1, 7, 8] (hhd3 v0 v1 v7 (w64 (v8 + (1 : Int))) sv0 _ _ _ hv0 hH h)

def law08_SearchBound_5 (F : Nat) (hd3 : (List Int) → Int → Int → Int → Option (Bool)) (v0 : (List Int)) (v1 : Int) (v7 : Int) (v8 : Int) (v62 : Bool) (c46 : S_api_Chance) : Option (Bool) :=
  bif v62 then
    some false
  else
    bif (decide (c46.N ≤ v1)) then
      law08_SearchBound_6 F hd3 v0 v1 (w64 (v7 + (1 : Int))) v8
    else
      law08_SearchBound_6 F hd3 v0 v1 v7 v8

theorem law08_SearchBound_5_ok (F : Nat) (hd3 : (List Int) → Int → Int → Int → Option (Bool)) (hhd3 : ∀ (v0 : (List Int)) (v1 : Int) (v7 : Int) (v8 : Int) (sv0 : SV) (Fr : Rd) (M : Mem) (r : Bool) (hv0 : Slc Fr 1 (FlatR enc3) sv0 v0) (hH : Has Fr M []), hd3 v0 v1 v7 v8 = some r → Run Try.prog ⟨⟨12, [], none⟩, []⟩ 75 (law08_SearchBound_post r) [(0, sv0), (1, (.int .i64 v1)), (7, (.int .i64 v7)), (8, (.int .i64 v8))] [codeC Try.prog 12 [1, 1, 1, 1, 1, 0, 1, 0, 0], loopC Try.prog 12 [1, 1, 1, 1, 1, 0, 1, 0, 0], .inBlock 0, codeC Try.prog 12 [1, 1, 1, 1, 1, 1]] M) : ∀ (v0 : (List Int)) (v1 : Int) (v7 : Int) (v8 : Int) (v62 : Bool) (c46 : S_api_Chance) (sv0 : SV) (b46 : Pos) (Fr : Rd) (M : Mem) (r : Bool) (hv0 : Slc Fr 1 (FlatR enc3) sv0 v0) (hH : Has Fr M [.obj b46 (.row 43 .whole [(.int .i64 c46.N), (.int .i64 c46.Of)])]), law08_SearchBound_5 F hd3 v0 v1 v7 v8 v62 c46 = some r → Run Try.prog ⟨⟨12, [], none⟩, []⟩ 75 (law08_SearchBound_post r) [(0, sv0), (1, (.int .i64 v1)), (7, (.int .i64 v7)), (8, (.int .i64 v8)), (9, (.ptr b46 0)), (62, (.bool v62))] [codeC Try.prog 12 [1, 1, 1, 1, 1, 0, 1, 0, 0, 1, 0, 0, 1, 0, 1], codeC Try.prog 12 [1, 1, 1, 1, 1, 0, 1, 0, 0, 1, 0, 0, 1, 1], .inBlock 1, codeC Try.prog 12 [1, 1, 1, 1, 1, 0, 1, 0, 0, 1, 1], loopC Try.prog 12 [1, 1, 1, 1, 1, 0, 1, 0, 0], .inBlock 0, codeC Try.prog 12 [1, 1, 1, 1, 1, 1]] M := by
  intro v0 v1 v7 v8 v62 c46 sv0 b46 Fr M r hv0 hH h
  rw [law08_SearchBound_5] at h
  rcases btf (v62) with hc51 | hc51
  · have h := bif_t hc51 h
    refine Run.condT' rfl hc51 ?_
    refine Run.seq (Run.region ?_)
    refine Run.opG wantS_none (ex_assign rfl) rfl ?_
    refine Run.opsEnd ?_
    cases h
    exact Run.ret Try.func12 rfl (res_tmp rfl res_nil) rfl
  · have h := bif_f hc51 h
    refine Run.condF' rfl hc51 ?_
    refine Run.skip (Run.seq (Run.region ?_))
    refine Run.opG wantS_none (ex_fieldAddr rfl off43_0) rfl ?_
    refine Run.opG wantS_none (ex_load1 rfl (hH.cells (i := 0) rfl 0 rfl) rdLe_rfl agg3) rfl ?_
    refine Run.opG wantS_none (ex_move rfl) rfl ?_
    refine Run.opG wantS_none (ex_leq rfl rfl) rfl ?_
    refine Run.opsEnd ?_
    rcases btf ((decide (c46.N ≤ v1))) with hc52 | hc52
    · have h := bif_t hc52 h
      refine Run.condT' rfl hc52 ?_
      refine Run.region ?_
      refine Run.opG wantS_none (ex_move rfl) rfl ?_
      refine Run.opG wantS_none (ex_add rfl rfl) rfl ?_
      refine Run.opG wantS_none (ex_assign rfl) rfl ?_
      refine Run.opsEnd (Run.inBlock (Run.region ?_))
      exact Run.pick [0, 1, 7, 8] (law08_SearchBound_6_ok F hd3 hhd3 v0 v1 (w64 (v7 + (1 : Int))) v8 sv0 _ _ _ hv0 (hH.pick [] rfl rfl) h)
    · have h := bif_f hc52 h
      refine Run.condF' rfl hc52 ?_
      refine Run.skip (Run.inBlock (Run.region ?_))
      exact Run.pick [0, 1, 7, 8] (law08_SearchBound_6_ok F hd3 hhd3 v0 v1 v7 v8 sv0 _ _ _ hv0 (hH.pick [] rfl rfl) h)

def law08_SearchBound_4 (F : Nat) (hd3 : (List Int) → Int → Int → Int → Option (Bool)) (v0 : (List Int)) (v1 : Int) (v7 : Int) (v8 : Int) (v57 : Bool) (c46 : S_api_Chance) : Option (Bool) :=
  bif v57 then
    law08_SearchBound_5 F hd3 v0 v1 v7 v8 true c46
  else
    law08_SearchBound_5 F hd3 v0 v1 v7 v8 (decide (c46.N < (1 : Int))) c46

theorem law08_SearchBound_4_ok (F : Nat) (hd3 : (List Int) → Int → Int → Int → Option (Bool)) (hhd3 : ∀ (v0 : (List Int)) (v1 : Int) (v7 : Int) (v8 : Int) (sv0 : SV) (Fr : Rd) (M : Mem) (r : Bool) (hv0 : Slc Fr 1 (FlatR enc3) sv0 v0) (hH : Has Fr M []), hd3 v0 v1 v7 v8 = some r → Run Try.prog ⟨⟨12, [], none⟩, []⟩ 75 (law08_SearchBound_post r) [(0, sv0), (1, (.int .i64 v1)), (7, (.int .i64 v7)), (8, (.int .i64 v8))] [codeC Try.prog 12 [1, 1, 1, 1, 1, 0, 1, 0, 0], loopC Try.prog 12 [1, 1, 1, 1, 1, 0, 1, 0, 0], .inBlock 0, codeC Try.prog 12 [1, 1, 1, 1, 1, 1]] M) : ∀ (v0 : (List Int)) (v1 : Int) (v7 : Int) (v8 : Int) (v57 : Bool) (c46 : S_api_Chance) (sv0 : SV) (b46 : Pos) (Fr : Rd) (M : Mem) (r : Bool) (hv0 : Slc Fr 1 (FlatR enc3) sv0 v0) (hH : Has Fr M [.obj b46 (.row 43 .whole [(.int .i64 c46.N), (.int .i64 c46.Of)])]), law08_SearchBound_4 F hd3 v0 v1 v7 v8 v57 c46 = some r → Run Try.prog ⟨⟨12, [], none⟩, []⟩ 75 (law08_SearchBound_post r) [(0, sv0), (1, (.int .i64 v1)), (7, (.int .i64 v7)), (8, (.int .i64 v8)), (9, (.ptr b46 0)), (57, (.bool v57))] [itemC Try.prog 12 [1, 1, 1, 1, 1, 0, 1, 0, 0, 1, 0, 0, 1, 0, 0] 9, codeC Try.prog 12 [1, 1, 1, 1, 1, 0, 1, 0, 0, 1, 0, 0, 1, 0, 1], codeC Try.prog 12 [1, 1, 1, 1, 1, 0, 1, 0, 0, 1, 0, 0, 1, 1], .inBlock 1, codeC Try.prog 12 [1, 1, 1, 1, 1, 0, 1, 0, 0, 1, 1], loopC Try.prog 12 [1, 1, 1, 1, 1, 0, 1, 0, 0], .inBlock 0, codeC Try.prog 12 [1, 1, 1, 1, 1, 1]] M := by
  intro v0 v1 v7 v8 v57 c46 sv0 b46 Fr M r hv0 hH h
  rw [law08_SearchBound_4] at h
  refine Run.opG wantS_none (ex_move rfl) rfl ?_
  rcases btf (v57) with hc50 | hc50
  · have h := bif_t hc50 h
    refine Run.no (wantS_not' rfl rfl hc50) rfl ?_
    refine Run.no (wantS_not' rfl rfl hc50) rfl ?_
    refine Run.no (wantS_not' rfl rfl hc50) rfl ?_
    refine Run.opG wantS_none (ex_pickT' rfl hc50 rfl rfl) rfl ?_
    refine Run.opsEnd ?_
    exact Run.pick [0, 1, 7, 8, 9, 62] (law08_SearchBound_5_ok F hd3 hhd3 v0 v1 v7 v8 true c46 sv0 b46 _ _ _ hv0 hH h)
  · have h := bif_f hc50 h
    refine Run.opG (wantS_yes' rfl rfl hc50) (ex_fieldAddr rfl off43_0) rfl ?_
    refine Run.opG (wantS_yes' rfl rfl hc50) (ex_load1 rfl (hH.cells (i := 0) rfl 0 rfl) rdLe_rfl agg3) rfl ?_
    refine Run.opG (wantS_yes' rfl rfl hc50) (ex_lss rfl rfl) rfl ?_
    refine Run.opG wantS_none (ex_pickF' rfl hc50 rfl rfl) rfl ?_
    refine Run.opsEnd ?_
    exact Run.pick [0, 1, 7, 8, 9, 62] (law08_SearchBound_5_ok F hd3 hhd3 v0 v1 v7 v8 (decide (c46.N < (1 : Int))) c46 sv0 b46 _ _ _ hv0 hH h)

def law08_SearchBound_7 (F : Nat) (v74 : Bool) : Option (Bool) :=
  some v74

theorem law08_SearchBound_7_ok (F : Nat) : ∀ (v74 : Bool) (Fr : Rd) (M : Mem) (r : Bool) (hH : Has Fr M []), law08_SearchBound_7 F v74 = some r → Run Try.prog ⟨⟨12, [], none⟩, []⟩ 75 (law08_SearchBound_post r) [(74, (.bool v74))] [itemC Try.prog 12 [1, 1, 1, 1, 1, 1, 0] 6, codeC Try.prog 12 [1, 1, 1, 1, 1, 1, 1]] M := by
  intro v74 Fr M r hH h
  rw [law08_SearchBound_7] at h
  refine Run.opG wantS_none (ex_assign rfl) rfl ?_
  refine Run.opsEnd ?_
  cases h
  exact Run.ret Try.func12 rfl (res_tmp rfl res_nil) rfl

def law08_SearchBound_3 (F : Nat) : Nat → (List Int) → Int → Int → Int → Option (Bool)
  | 0, _, _, _, _ => none
  | N + 1, v0, v1, v7, v8 =>
    bif (decide (v8 < (v0.length : Int))) then
      bnd (idx v0 v8) fun x41 =>
      bnd (search_Chance F v0 x41) fun r43 =>
      bif (!(r43.2 == (0 : Int))) then
        law08_SearchBound_4 F (law08_SearchBound_3 F N) v0 v1 v7 v8 true r43.1
      else
        law08_SearchBound_4 F (law08_SearchBound_3 F N) v0 v1 v7 v8 (!(r43.1.Of == (v0.length : Int))) r43.1
    else
      bif (decide (v7 ≤ v1)) then
        bnd (works F) fun r55 =>
        law08_SearchBound_7 F r55
      else
        law08_SearchBound_7 F false

theorem law08_SearchBound_3_ok (F : Nat) : ∀ (N : Nat), ∀ (v0 : (List Int)) (v1 : Int) (v7 : Int) (v8 : Int) (sv0 : SV) (Fr : Rd) (M : Mem) (r : Bool) (hv0 : Slc Fr 1 (FlatR enc3) sv0 v0) (hH : Has Fr M []), law08_SearchBound_3 F N v0 v1 v7 v8 = some r → Run Try.prog ⟨⟨12, [], none⟩, []⟩ 75 (law08_SearchBound_post r) [(0, sv0), (1, (.int .i64 v1)), (7, (.int .i64 v7)), (8, (.int .i64 v8))] [codeC Try.prog 12 [1, 1, 1, 1, 1, 0, 1, 0, 0], loopC Try.prog 12 [1, 1, 1, 1, 1, 0, 1, 0, 0], .inBlock 0, codeC Try.prog 12 [1, 1, 1, 1, 1, 1]] M := by
  intro N
  induction N with
  | zero =>
    intro v0 v1 v7 v8 sv0 Fr M r hv0 hH h
    simp [law08_SearchBound_3] at h
  | succ N ih =>
    intro v0 v1 v7 v8 sv0 Fr M r hv0 hH h
    rw [law08_SearchBound_3] at h
    refine Run.seq (Run.seq (Run.region ?_))
    refine Run.opG wantS_none (ex_move rfl) rfl ?_
    refine Run.opG wantS_none (ex_move rfl) rfl ?_
    refine Run.opG wantS_none (ex_len' rfl hv0 lenk38) rfl ?_
    refine Run.opG wantS_none (ex_lss rfl rfl) rfl ?_
    refine Run.opsEnd ?_
    rcases btf ((decide (v8 < (v0.length : Int)))) with hc39 | hc39
    · have h := bif_t hc39 h
      refine Run.condT' rfl hc39 ?_
      refine Run.skip (Run.seq (Run.block (Run.seq (Run.region ?_))))
      refine Run.opG wantS_none (ex_move rfl) rfl ?_
      refine Run.opG wantS_none (ex_move rfl) rfl ?_
      refine Run.opG wantS_none (ex_move rfl) rfl ?_
      obtain ⟨x41, hx41, h⟩ := bnd_some h
      obtain ⟨p41, o41, _, hx41, hp41, rfl⟩ := sl_elem (P := Try.prog) (t := 38) (kk := .i64) hv0 hx41 els38
      refine Run.opG wantS_none (ex_elX rfl rfl hx41) rfl ?_
      refine Run.opG wantS_none (ex_load1 rfl (hH.ptrF hp41) rdLe_rfl agg3) rfl ?_
      obtain ⟨r43, hr43, h⟩ := bnd_some h
      refine Run.callP wantS_none (ex_call rfl mkk29 cal29) rfl (search_Chance_ok F v0 x41 sv0 _ _ (hH.slcF hv0) hr43) ?_
      refine Run.opG wantS_none (ex_move rfl) rfl ?_
      refine Run.opG wantS_none (ex_extract rfl rfl) rfl ?_
      refine Run.opG wantS_none (ex_extract rfl rfl) rfl ?_
      refine Run.opX wantS_none rfl (ExG.new (v := fun b => .ptr b 0) (ex_alloc zer43) hH) ?_
      rintro _ M47 ⟨b46, rfl, (hH47 : Has Fr M47 [.obj b46 (.row 43 .whole [(.int .i64 0), (.int .i64 0)])])⟩
      refine Run.opX wantS_none rfl (ExG.storeC (c' := [(.int .i64 r43.1.N), (.int .i64 r43.1.Of)]) rfl rfl rfl hH47 (i := 0) rfl sz43 rfl rfl rfl rfl rfl) ?_
      rintro _ M48 ⟨rfl, (hH48 : Has Fr M48 [.obj b46 (.row 43 .whole [(.int .i64 r43.1.N), (.int .i64 r43.1.Of)])])⟩
      refine Run.opG wantS_none (ex_assign rfl) rfl ?_
      refine Run.opsEnd (Run.seq (Run.seq (Run.region ?_)))
      refine Run.opG wantS_none (ex_move rfl) rfl ?_
      refine Run.opG wantS_none (ex_neq rfl rfl) rfl ?_
      refine Run.opG wantS_none (ex_move rfl) rfl ?_
      rcases btf ((!(r43.2 == (0 : Int)))) with hc49 | hc49
      · have h := bif_t hc49 h
        refine Run.no (wantS_not' rfl rfl hc49) rfl ?_
        refine Run.no (wantS_not' rfl rfl hc49) rfl ?_
        refine Run.no (wantS_not' rfl rfl hc49) rfl ?_
        refine Run.no (wantS_not' rfl rfl hc49) rfl ?_
        refine Run.no (wantS_not' rfl rfl hc49) rfl ?_
        refine Run.opG wantS_none (ex_pickT' rfl hc49 rfl rfl) rfl ?_
        exact Run.pick [0, 1, 7, 8, 9, 57] (law08_SearchBound_4_ok F (law08_SearchBound_3 F N) ih v0 v1 v7 v8 true r43.1 sv0 b46 _ _ _ hv0 hH48 h)
      · have h := bif_f hc49 h
        refine Run.opG (wantS_yes' rfl rfl hc49) (ex_fieldAddr rfl off43_1) rfl ?_
        refine Run.opG (wantS_yes' rfl rfl hc49) (ex_load1 rfl (hH48.cells (i := 0) rfl 1 rfl) rdLe_rfl agg3) rfl ?_
        refine Run.opG (wantS_yes' rfl rfl hc49) (ex_move rfl) rfl ?_
        refine Run.opG (wantS_yes' rfl rfl hc49) (ex_len' rfl hv0 lenk38) rfl ?_
        refine Run.opG (wantS_yes' rfl rfl hc49) (ex_neq rfl rfl) rfl ?_
        refine Run.opG wantS_none (ex_pickF' rfl hc49 rfl rfl) rfl ?_
        exact Run.pick [0, 1, 7, 8, 9, 57] (law08_SearchBound_4_ok F (law08_SearchBound_3 F N) ih v0 v1 v7 v8 (!(r43.1.Of == (v0.length : Int))) r43.1 sv0 b46 _ _ _ hv0 hH48 h)
    · have h := bif_f hc39 h
      refine Run.condF' rfl hc39 ?_
      refine Run.exit rfl (Run.seq (Run.region ?_))
      refine Run.opG wantS_none (ex_move rfl) rfl ?_
      refine Run.opG wantS_none (ex_move rfl) rfl ?_
      refine Run.opG wantS_none (ex_leq rfl rfl) rfl ?_
      refine Run.opG wantS_none (ex_move rfl) rfl ?_
      rcases btf ((decide (v7 ≤ v1))) with hc53 | hc53
      · have h := bif_t hc53 h
        obtain ⟨r55, hr55, h⟩ := bnd_some h
        refine Run.callP (wantS_yes' rfl rfl hc53) (ex_call rfl mkk22 cal22) rfl (works_ok F r55 _ hH  hr55) ?_
        refine Run.opG wantS_none (ex_pickT' rfl hc53 rfl rfl) rfl ?_
        exact Run.pick [74] (law08_SearchBound_7_ok F r55 _ _ _ hH h)
      · have h := bif_f hc53 h
        refine Run.no (wantS_not' rfl rfl hc53) rfl ?_
        refine Run.opG wantS_none (ex_pickF' rfl hc53 rfl rfl) rfl ?_
        exact Run.pick [74] (law08_SearchBound_7_ok F false _ _ _ hH h)

def law08_SearchBound_1 (F : Nat) (v0 : (List Int)) (v1 : Int) : Option (Bool) :=
  bif ((v0.length : Int) == (0 : Int)) then
    bnd (search_Chance F v0 (0 : Int)) fun r26 =>
    bif (r26.2 == (2 : Int)) then
      bnd (works F) fun r34 =>
      law08_SearchBound_2 F r34
    else
      law08_SearchBound_2 F false
  else
    bnd (ref00_Mod F v1 (w64 ((v0.length : Int) + (1 : Int)))) fun r37 =>
    law08_SearchBound_3 F F v0 r37 (0 : Int) (0 : Int)

theorem law08_SearchBound_1_ok (F : Nat) : ∀ (v0 : (List Int)) (v1 : Int) (sv0 : SV) (Fr : Rd) (M : Mem) (r : Bool) (hv0 : Slc Fr 1 (FlatR enc3) sv0 v0) (hH : Has Fr M []), law08_SearchBound_1 F v0 v1 = some r → Run Try.prog ⟨⟨12, [], none⟩, []⟩ 75 (law08_SearchBound_post r) [(0, sv0), (1, (.int .i64 v1))] [itemC Try.prog 12 [1, 1, 0, 0] 0, codeC Try.prog 12 [1, 1, 0, 1], codeC Try.prog 12 [1, 1, 1]] M := by
  intro v0 v1 sv0 Fr M r hv0 hH h
  rw [law08_SearchBound_1] at h
  refine Run.opG wantS_none (ex_move rfl) rfl ?_
  refine Run.opG wantS_none (ex_len' rfl hv0 lenk38) rfl ?_
  refine Run.opG wantS_none (ex_eql rfl rfl) rfl ?_
  refine Run.opsEnd ?_
  rcases btf (((v0.length : Int) == (0 : Int))) with hc24 | hc24
  · have h := bif_t hc24 h
    refine Run.condT' rfl hc24 ?_
    refine Run.seq (Run.region ?_)
    refine Run.opG wantS_none (ex_move rfl) rfl ?_
    obtain ⟨r26, hr26, h⟩ := bnd_some h
    refine Run.callP wantS_none (ex_call rfl mkk29 cal29) rfl (search_Chance_ok F v0 (0 : Int) sv0 _ _ (hH.slcF hv0) hr26) ?_
    refine Run.opG wantS_none (ex_move rfl) rfl ?_
    refine Run.opG wantS_none (ex_extract rfl rfl) rfl ?_
    refine Run.opG wantS_none (ex_extract rfl rfl) rfl ?_
    refine Run.opX wantS_none rfl (ExG.new (v := fun b => .ptr b 0) (ex_alloc zer43) hH) ?_
    rintro _ M30 ⟨b29, rfl, (hH30 : Has Fr M30 [.obj b29 (.row 43 .whole [(.int .i64 0), (.int .i64 0)])])⟩
    refine Run.opX wantS_none rfl (ExG.storeC (c' := [(.int .i64 r26.1.N), (.int .i64 r26.1.Of)]) rfl rfl rfl hH30 (i := 0) rfl sz43 rfl rfl rfl rfl rfl) ?_
    rintro _ M31 ⟨rfl, (hH31 : Has Fr M31 [.obj b29 (.row 43 .whole [(.int .i64 r26.1.N), (.int .i64 r26.1.Of)])])⟩
    refine Run.opG wantS_none (ex_assign rfl) rfl ?_
    refine Run.opsEnd (Run.seq (Run.region ?_))
    refine Run.opG wantS_none (ex_move rfl) rfl ?_
    refine Run.opG wantS_none (ex_eql rfl rfl) rfl ?_
    refine Run.opG wantS_none (ex_move rfl) rfl ?_
    rcases btf ((r26.2 == (2 : Int))) with hc32 | hc32
    · have h := bif_t hc32 h
      obtain ⟨r34, hr34, h⟩ := bnd_some h
      refine Run.callP (wantS_yes' rfl rfl hc32) (ex_call rfl mkk22 cal22) rfl (works_ok F r34 _ hH31  hr34) ?_
      refine Run.opG wantS_none (ex_pickT' rfl hc32 rfl rfl) rfl ?_
      exact Run.pick [28] (law08_SearchBound_2_ok F r34 _ _ _ (hH31.pick [] rfl rfl) h)
    · have h := bif_f hc32 h
      refine Run.no (wantS_not' rfl rfl hc32) rfl ?_
      refine Run.opG wantS_none (ex_pickF' rfl hc32 rfl rfl) rfl ?_
      exact Run.pick [28] (law08_SearchBound_2_ok F false _ _ _ (hH31.pick [] rfl rfl) h)
  · have h := bif_f hc24 h
    refine Run.condF' rfl hc24 ?_
    refine Run.skip (Run.seq (Run.region ?_))
    refine Run.opG wantS_none (ex_move rfl) rfl ?_
    refine Run.opG wantS_none (ex_move rfl) rfl ?_
    refine Run.opG wantS_none (ex_len' rfl hv0 lenk38) rfl ?_
    refine Run.opG wantS_none (ex_add rfl rfl) rfl ?_
    obtain ⟨r37, hr37, h⟩ := bnd_some h
    refine Run.callP wantS_none (ex_call rfl mkk48 cal48) rfl (ref00_Mod_ok F v1 (w64 ((v0.length : Int) + (1 : Int))) _ _ hr37) ?_
    refine Run.opG wantS_none (ex_assign rfl) rfl ?_
    refine Run.opsEnd (Run.seq (Run.region ?_))
    refine Run.opG wantS_none (ex_assign rfl) rfl ?_
    refine Run.opsEnd (Run.seq (Run.seq (Run.region ?_)))
    refine Run.opG wantS_none (ex_assign rfl) rfl ?_
    refine Run.opsEnd (Run.block (Run.loop ?_))
    exact Run.pick [0, 1, 7, 8] (law08_SearchBound_3_ok F F v0 r37 (0 : Int) (0 : Int) sv0 _ _ _ hv0 hH h)

def law08_SearchBound (F : Nat) (a0 : (List Int)) (a1 : Int) : Option (Bool) :=
  bif (decide ((256 : Int) < (a0.length : Int))) then
    bnd (sub a0 0 (256 : Int)) fun l23 =>
    law08_SearchBound_1 F l23 a1
  else
    law08_SearchBound_1 F a0 a1

theorem law08_SearchBound_run (F : Nat) (a0 : (List Int)) (a1 : Int) (s0 : SV) (r : Bool) (M : Mem) (hs0 : Slc (rd M) 1 (FlatR enc3) s0 a0) (hfx : FixIn M fixes) (h : law08_SearchBound F a0 a1 = some r) : Run Try.prog (fx0 12) 75 (law08_SearchBound_post r) [(0, s0), (1, (.int .i64 a1))] [codeC Try.prog 12 []] (frozen M) := by
  rw [law08_SearchBound] at h
  replace hs0 := hs0.mono (rdLe_frozen M) (fun _ _ h => h)
  have hH : Has (ro (frozen M)) (frozen M) [] := Has.ofFix hfx.frozen
  refine Run.seq (Run.region ?_)
  refine Run.opG wantS_none (ex_assign rfl) rfl ?_
  refine Run.opsEnd (Run.seq (Run.seq (Run.region ?_)))
  refine Run.opG wantS_none (ex_move rfl) rfl ?_
  refine Run.opG wantS_none (ex_len' rfl hs0 lenk38) rfl ?_
  refine Run.opG wantS_none (ex_gtr rfl rfl) rfl ?_
  refine Run.opsEnd ?_
  rcases btf ((decide ((256 : Int) < (a0.length : Int)))) with hc21 | hc21
  · have h := bif_t hc21 h
    refine Run.condT' rfl hc21 ?_
    refine Run.region ?_
    refine Run.opG wantS_none (ex_move rfl) rfl ?_
    obtain ⟨l23, hl23, h⟩ := bnd_some h
    obtain ⟨s23, hx23, hs23⟩ := sl_subH (P := Try.prog) (t := 38) (k0 := .i64) hs0 hl23 slk38
    refine Run.opG wantS_none (ex_slX rfl (argO_none) (argO_some rfl) hx23) rfl ?_
    refine Run.opG wantS_none (ex_assign rfl) rfl ?_
    refine Run.opsEnd (Run.seq (Run.seq (Run.region ?_)))
    exact Run.pick [0, 1] (law08_SearchBound_1_ok F l23 a1 s23 _ _ _ hs23 hH h)
  · have h := bif_f hc21 h
    refine Run.condF' rfl hc21 ?_
    refine Run.skip (Run.seq (Run.seq (Run.region ?_)))
    exact Run.pick [0, 1] (law08_SearchBound_1_ok F a0 a1 s0 _ _ _ hs0 hH h)

end Go.Ev.SearchBound
