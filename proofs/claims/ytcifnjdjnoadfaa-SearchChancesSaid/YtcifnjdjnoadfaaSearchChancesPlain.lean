/- Plain functions that say what functions of the program come to, and proofs of it, written by a program of the verifier's own. -/
import Derived.Test.YtcifnjdjnoadfaaEvL11
import Derived.Test.YtcifnjdjnoadfaaWorks
import Derived.KernelRfl
namespace Go.Ev.SearchChances
open Go Go.Ev Go.Proofs
set_option maxRecDepth 100000
set_option linter.unusedVariables false

/-- The listed tables. -/
noncomputable def fixes : List (Nat × List SV) := Go.Proofs.Ytcifnjdjnoadfaa.works.fixes
/-- works() comes to true. -/
def works (_ : Nat) : Option Bool := some true
theorem fixH {Fr : Rd} {H : List Ent} {M : Mem} (hH : Has Fr M H) : FixIn M fixes := fun x hx => absurd hx List.not_mem_nil

theorem works_ok (F : Nat) (r : Bool) {Fr : Rd} {H : List Ent} (M : Mem) (hH : Has Fr M H) (h : works F = some r) : CallsM Try.prog 22 [] M fun s M' => s = .bool r ∧ M' = M := by
  cases h
  exact CallsM.closedFix (n := 300) (l := Go.Proofs.Ytcifnjdjnoadfaa.works.fixes) Go.Proofs.Ytcifnjdjnoadfaa.works.below Go.Proofs.Ytcifnjdjnoadfaa.works.plainF Go.Proofs.Ytcifnjdjnoadfaa.works.works_true (fun x hx => absurd hx List.not_mem_nil)


def enc3 (a : Int) : List SV := [(.int .i64 a)]
theorem enc3_len (a : Int) : (enc3 a).length = 1 := rfl
theorem enc3_ones (a : Int) : ones (enc3 a) = true := rfl
structure S_api_Chance where
  N : Int
  Of : Int

theorem zer43 : zerosOf Try.prog 43 = some [(.int .i64 0), (.int .i64 0)] := by kernel_rfl
theorem lenk38 : lenK Try.prog 38 = some .sl := by kernel_rfl
abbrev search_isFrom_post (r : Bool) : SV → Mem → Prop := fun s _ => s = (.bool r)

def search_isFrom_1 (F : Nat) (v14 : Bool) : Option (Bool) :=
  some v14

theorem search_isFrom_1_ok (F : Nat) : ∀ (v14 : Bool) (Fr : Rd) (M : Mem) (r : Bool) (hH : Has Fr M []), search_isFrom_1 F v14 = some r → Run Try.prog ⟨⟨62, [], none⟩, []⟩ 15 (search_isFrom_post r) [(14, (.bool v14))] [itemC Try.prog 62 [1, 0] 8, codeC Try.prog 62 [1, 1]] M := by
  intro v14 Fr M r hH h
  rw [search_isFrom_1] at h
  refine Run.opG wantS_none (ex_assign rfl) rfl ?_
  refine Run.opsEnd ?_
  cases h
  exact Run.ret Try.func62 rfl (res_tmp rfl res_nil) rfl

def search_isFrom (F : Nat) (a0 : Int) (a1 : Int) (a2 : Int) : Option (Bool) :=
  bif (decide (a0 ≤ a1)) then
    search_isFrom_1 F (decide (a1 ≤ a2))
  else
    search_isFrom_1 F false

theorem search_isFrom_ok (F : Nat) (a0 : Int) (a1 : Int) (a2 : Int) (r : Bool) (M : Mem) (h : search_isFrom F a0 a1 a2 = some r) : CallsM Try.prog 62 [(.int .i64 a0), (.int .i64 a1), (.int .i64 a2)] M (fun s M' => s = (.bool r) ∧ M' = M) := by
  refine CallsM.plain Try.func62 rfl rfl rfl (show Run _ _ _ (search_isFrom_post r) _ _ _ from ?_)
  rw [search_isFrom] at h
  have hH := Has.nil (frozen M)
  refine Run.seq (Run.region ?_)
  refine Run.opG wantS_none (ex_assign rfl) rfl ?_
  refine Run.opsEnd (Run.seq (Run.region ?_))
  refine Run.opG wantS_none (ex_move rfl) rfl ?_
  refine Run.opG wantS_none (ex_move rfl) rfl ?_
  refine Run.opG wantS_none (ex_leq rfl rfl) rfl ?_
  refine Run.opG wantS_none (ex_move rfl) rfl ?_
  rcases btf ((decide (a0 ≤ a1))) with hc21 | hc21
  · have h := bif_t hc21 h
    refine Run.opG (wantS_yes' rfl rfl hc21) (ex_move rfl) rfl ?_
    refine Run.opG (wantS_yes' rfl rfl hc21) (ex_move rfl) rfl ?_
    refine Run.opG (wantS_yes' rfl rfl hc21) (ex_leq rfl rfl) rfl ?_
    refine Run.opG wantS_none (ex_pickT' rfl hc21 rfl rfl) rfl ?_
    exact Run.pick [14] (search_isFrom_1_ok F (decide (a1 ≤ a2)) _ _ _ hH h)
  · have h := bif_f hc21 h
    refine Run.no (wantS_not' rfl rfl hc21) rfl ?_
    refine Run.no (wantS_not' rfl rfl hc21) rfl ?_
    refine Run.no (wantS_not' rfl rfl hc21) rfl ?_
    refine Run.opG wantS_none (ex_pickF' rfl hc21 rfl rfl) rfl ?_
    exact Run.pick [14] (search_isFrom_1_ok F false _ _ _ hH h)

theorem mkk62 : makeK Try.prog 62 = none := by kernel_rfl
theorem cal62 : callable Try.prog 62 = true := by kernel_rfl
theorem pls43 : placesOf Try.prog 43 = some (.st [(0, 1), (1, 1)]) := by kernel_rfl
theorem sz43 : szOf Try.prog 43 = some 2 := by kernel_rfl
theorem agg43 : aggSize Try.prog 43 = some (some 2) := by kernel_rfl
theorem els38 : elems Try.prog 38 = some (.sl 1) := by kernel_rfl
theorem agg3 : aggSize Try.prog 3 = some none := by kernel_rfl
abbrev search_chance_post (r : S_api_Chance) : SV → Mem → Prop := fun s _ => s = (.agg [(.int .i64 r.N), (.int .i64 r.Of)])

def search_chance_2 (F : Nat) (hd1 : (List Int) → Int → Int → (List Int) → Int → Int → S_api_Chance → Option (S_api_Chance)) (v0 : (List Int)) (v1 : Int) (v5 : Int) (v8 : (List Int)) (v9 : Int) (v10 : Int) (c22 : S_api_Chance) : Option (S_api_Chance) :=
  hd1 v0 v1 v5 v8 v9 (w64 (v10 + (1 : Int))) c22

theorem search_chance_2_ok (F : Nat) (hd1 : (List Int) → Int → Int → (List Int) → Int → Int → S_api_Chance → Option (S_api_Chance)) (hhd1 : ∀ (v0 : (List Int)) (v1 : Int) (v5 : Int) (v8 : (List Int)) (v9 : Int) (v10 : Int) (c22 : S_api_Chance) (sv0 : SV) (sv8 : SV) (b22 : Pos) (Fr : Rd) (M : Mem) (r : S_api_Chance) (hv0 : Slc Fr 1 (FlatR enc3) sv0 v0) (hv8 : Slc Fr 1 (FlatR enc3) sv8 v8) (hH : Has Fr M [.obj b22 (.row 43 .whole [(.int .i64 c22.N), (.int .i64 c22.Of)])]), hd1 v0 v1 v5 v8 v9 v10 c22 = some r → Run Try.prog ⟨⟨67, [], none⟩, []⟩ 25 (search_chance_post r) [(0, sv0), (1, (.int .i64 v1)), (4, (.ptr b22 0)), (5, (.int .i64 v5)), (8, sv8), (9, (.int .i64 v9)), (10, (.int .i64 v10))] [codeC Try.prog 67 [1, 1, 0, 1, 0, 0], loopC Try.prog 67 [1, 1, 0, 1, 0, 0], .inBlock 0, codeC Try.prog 67 [1, 1, 1]] M) : ∀ (v0 : (List Int)) (v1 : Int) (v5 : Int) (v8 : (List Int)) (v9 : Int) (v10 : Int) (c22 : S_api_Chance) (sv0 : SV) (sv8 : SV) (b22 : Pos) (Fr : Rd) (M : Mem) (r : S_api_Chance) (hv0 : Slc Fr 1 (FlatR enc3) sv0 v0) (hv8 : Slc Fr 1 (FlatR enc3) sv8 v8) (hH : Has Fr M [.obj b22 (.row 43 .whole [(.int .i64 c22.N), (.int .i64 c22.Of)])]), search_chance_2 F hd1 v0 v1 v5 v8 v9 v10 c22 = some r → Run Try.prog ⟨⟨67, [], none⟩, []⟩ 25 (search_chance_post r) [(0, sv0), (1, (.int .i64 v1)), (4, (.ptr b22 0)), (5, (.int .i64 v5)), (8, sv8), (9, (.int .i64 v9)), (10, (.int .i64 v10))] [itemC Try.prog 67 [1, 1, 0, 1, 0, 0, 1, 1, 1] 0, loopC Try.prog 67 [1, 1, 0, 1, 0, 0], .inBlock 0, codeC Try.prog 67 [1, 1, 1]] M := by
  intro v0 v1 v5 v8 v9 v10 c22 sv0 sv8 b22 Fr M r hv0 hv8 hH h
  rw [search_chance_2] at h
  refine Run.opG wantS_none (ex_add rfl rfl) rfl ?_
  refine Run.opG wantS_none (ex_move rfl) rfl ?_
  refine Run.opsEnd (Run.inLoop ?_)
  exact Run.pick [0, 1, 4, 5, 8, 9, 10] (hhd1 v0 v1 v5 v8 v9 (w64 (v10 + (1 : Int))) c22 sv0 sv8 b22 _ _ _ hv0 hv8 hH h)

def search_chance_1 (F : Nat) : Nat → (List Int) → Int → Int → (List Int) → Int → Int → S_api_Chance → Option (S_api_Chance)
  | 0, _, _, _, _, _, _, _ => none
  | N + 1, v0, v1, v5, v8, v9, v10, c22 =>
    bif (decide (v10 < v9)) then
      bnd (idx v8 v10) fun x26 =>
      bif (decide (v1 ≤ x26)) then
        search_chance_2 F (search_chance_1 F N) v0 v1 (w64 (v5 + (1 : Int))) v8 v9 v10 c22
      else
        search_chance_2 F (search_chance_1 F N) v0 v1 v5 v8 v9 v10 c22
    else
      some (S_api_Chance.mk (max v5 (1 : Int)) (v0.length : Int))

theorem search_chance_1_ok (F : Nat) : ∀ (N : Nat), ∀ (v0 : (List Int)) (v1 : Int) (v5 : Int) (v8 : (List Int)) (v9 : Int) (v10 : Int) (c22 : S_api_Chance) (sv0 : SV) (sv8 : SV) (b22 : Pos) (Fr : Rd) (M : Mem) (r : S_api_Chance) (hv0 : Slc Fr 1 (FlatR enc3) sv0 v0) (hv8 : Slc Fr 1 (FlatR enc3) sv8 v8) (hH : Has Fr M [.obj b22 (.row 43 .whole [(.int .i64 c22.N), (.int .i64 c22.Of)])]), search_chance_1 F N v0 v1 v5 v8 v9 v10 c22 = some r → Run Try.prog ⟨⟨67, [], none⟩, []⟩ 25 (search_chance_post r) [(0, sv0), (1, (.int .i64 v1)), (4, (.ptr b22 0)), (5, (.int .i64 v5)), (8, sv8), (9, (.int .i64 v9)), (10, (.int .i64 v10))] [codeC Try.prog 67 [1, 1, 0, 1, 0, 0], loopC Try.prog 67 [1, 1, 0, 1, 0, 0], .inBlock 0, codeC Try.prog 67 [1, 1, 1]] M := by
  intro N
  induction N with
  | zero =>
    intro v0 v1 v5 v8 v9 v10 c22 sv0 sv8 b22 Fr M r hv0 hv8 hH h
    simp [search_chance_1] at h
  | succ N ih =>
    intro v0 v1 v5 v8 v9 v10 c22 sv0 sv8 b22 Fr M r hv0 hv8 hH h
    rw [search_chance_1] at h
    refine Run.seq (Run.region ?_)
    refine Run.opG wantS_none (ex_lss rfl rfl) rfl ?_
    refine Run.opsEnd (Run.seq ?_)
    rcases btf ((decide (v10 < v9))) with hc24 | hc24
    · have h := bif_t hc24 h
      refine Run.condT' rfl hc24 ?_
      refine Run.skip (Run.seq (Run.block (Run.seq (Run.region ?_))))
      obtain ⟨x26, hx26, h⟩ := bnd_some h
      obtain ⟨p26, o26, _, hx26, hp26, rfl⟩ := sl_elem (P := Try.prog) (t := 38) (kk := .i64) hv8 hx26 els38
      refine Run.opG wantS_none (ex_elX rfl rfl hx26) rfl ?_
      refine Run.opG wantS_none (ex_load1 rfl (hH.ptrF hp26) rdLe_rfl agg3) rfl ?_
      refine Run.opG wantS_none (ex_assign rfl) rfl ?_
      refine Run.opsEnd (Run.seq (Run.region ?_))
      refine Run.opG wantS_none (ex_move rfl) rfl ?_
      refine Run.opG wantS_none (ex_move rfl) rfl ?_
      refine Run.opG wantS_none (ex_geq rfl rfl) rfl ?_
      refine Run.opsEnd ?_
      rcases btf ((decide (v1 ≤ x26))) with hc27 | hc27
      · have h := bif_t hc27 h
        refine Run.condT' rfl hc27 ?_
        refine Run.region ?_
        refine Run.opG wantS_none (ex_move rfl) rfl ?_
        refine Run.opG wantS_none (ex_add rfl rfl) rfl ?_
        refine Run.opG wantS_none (ex_assign rfl) rfl ?_
        refine Run.opsEnd (Run.inBlock (Run.region ?_))
        exact Run.pick [0, 1, 4, 5, 8, 9, 10] (search_chance_2_ok F (search_chance_1 F N) ih v0 v1 (w64 (v5 + (1 : Int))) v8 v9 v10 c22 sv0 sv8 b22 _ _ _ hv0 hv8 hH h)
      · have h := bif_f hc27 h
        refine Run.condF' rfl hc27 ?_
        refine Run.skip (Run.inBlock (Run.region ?_))
        exact Run.pick [0, 1, 4, 5, 8, 9, 10] (search_chance_2_ok F (search_chance_1 F N) ih v0 v1 v5 v8 v9 v10 c22 sv0 sv8 b22 _ _ _ hv0 hv8 hH h)
    · have h := bif_f hc24 h
      refine Run.condF' rfl hc24 ?_
      refine Run.exit rfl (Run.seq (Run.region ?_))
      refine Run.opG wantS_none (ex_move rfl) rfl ?_
      refine Run.opG wantS_none (ex_max rfl rfl) rfl ?_
      refine Run.opG wantS_none (ex_move rfl) rfl ?_
      refine Run.opG wantS_none (ex_len' rfl hv0 lenk38) rfl ?_
      refine Run.opG wantS_none (ex_build (r := [(.int .i64 (max v5 (1 : Int))), (.int .i64 (v0.length : Int))]) rfl zer43 pls43 rfl) rfl ?_
      refine Run.opX wantS_none rfl (ExG.storeC (c' := [(.int .i64 (max v5 (1 : Int))), (.int .i64 (v0.length : Int))]) rfl rfl rfl hH (i := 0) rfl sz43 rfl rfl rfl rfl rfl) ?_
      rintro _ M28 ⟨rfl, (hH28 : Has Fr M28 [.obj b22 (.row 43 .whole [(.int .i64 (max v5 (1 : Int))), (.int .i64 (v0.length : Int))])])⟩
      refine Run.opsEnd ?_
      cases h
      exact Run.ret Try.func67 rfl (res_cell rfl (x_load (ex_loadA rfl (hH28.cells (i := 0) rfl 0 rfl) rdLe_rfl agg43 rfl rfl rfl)) res_nil) rfl

def search_chance (F : Nat) (a0 : (List Int)) (a1 : Int) : Option (S_api_Chance) :=
  search_chance_1 F F a0 a1 (0 : Int) a0 (a0.length : Int) (0 : Int) (S_api_Chance.mk 0 0)

theorem search_chance_ok (F : Nat) (a0 : (List Int)) (a1 : Int) (s0 : SV) (r : S_api_Chance) (M : Mem) (hs0 : Slc (rd M) 1 (FlatR enc3) s0 a0) (h : search_chance F a0 a1 = some r) : CallsM Try.prog 67 [s0, (.int .i64 a1)] M (fun s M' => s = (.agg [(.int .i64 r.N), (.int .i64 r.Of)]) ∧ M' = M) := by
  refine CallsM.plain Try.func67 rfl rfl rfl (show Run _ _ _ (search_chance_post r) _ _ _ from ?_)
  rw [search_chance] at h
  replace hs0 := hs0.mono (rdLe_frozen M) (fun _ _ h => h)
  have hH := Has.nil (frozen M)
  refine Run.seq (Run.region ?_)
  refine Run.opX wantS_none rfl (ExG.new (v := fun b => .ptr b 0) (ex_alloc zer43) hH) ?_
  rintro _ M23 ⟨b22, rfl, (hH23 : Has (ro (frozen M)) M23 [.obj b22 (.row 43 .whole [(.int .i64 0), (.int .i64 0)])])⟩
  refine Run.opsEnd (Run.seq (Run.region ?_))
  refine Run.opG wantS_none (ex_assign rfl) rfl ?_
  refine Run.opsEnd (Run.seq (Run.seq (Run.region ?_)))
  refine Run.opG wantS_none (ex_move rfl) rfl ?_
  refine Run.opG wantS_none (ex_len' rfl hs0 lenk38) rfl ?_
  refine Run.opG wantS_none (ex_move rfl) rfl ?_
  refine Run.opsEnd (Run.block (Run.loop ?_))
  exact Run.pick [0, 1, 4, 5, 8, 9, 10] (search_chance_1_ok F F a0 a1 (0 : Int) a0 (a0.length : Int) (0 : Int) (S_api_Chance.mk 0 0) s0 s0 b22 _ _ _ hs0 hs0 hH23 h)

theorem mkk67 : makeK Try.prog 67 = none := by kernel_rfl
theorem cal67 : callable Try.prog 67 = true := by kernel_rfl
abbrev search_Chance_post (r : S_api_Chance × Int) : SV → Mem → Prop := fun s _ => s = (.tuple [(.agg [(.int .i64 r.1.N), (.int .i64 r.1.Of)]), (.int .i64 r.2)])

def search_Chance (F : Nat) (a0 : (List Int)) (a1 : Int) : Option (S_api_Chance × Int) :=
  bnd (search_isFrom F (1 : Int) (a0.length : Int) (256 : Int)) fun r25 =>
  bif (!r25) then
    some ((S_api_Chance.mk 0 0), (2 : Int))
  else
    bnd (search_chance F a0 a1) fun r30 =>
    some (r30, (0 : Int))

theorem search_Chance_ok (F : Nat) (a0 : (List Int)) (a1 : Int) (s0 : SV) (r : S_api_Chance × Int) (M : Mem) (hs0 : Slc (rd M) 1 (FlatR enc3) s0 a0) (h : search_Chance F a0 a1 = some r) : CallsM Try.prog 29 [s0, (.int .i64 a1)] M (fun s M' => s = (.tuple [(.agg [(.int .i64 r.1.N), (.int .i64 r.1.Of)]), (.int .i64 r.2)]) ∧ M' = M) := by
  refine CallsM.plain Try.func29 rfl rfl rfl (show Run _ _ _ (search_Chance_post r) _ _ _ from ?_)
  rw [search_Chance] at h
  replace hs0 := hs0.mono (rdLe_frozen M) (fun _ _ h => h)
  have hH := Has.nil (frozen M)
  refine Run.seq (Run.region ?_)
  refine Run.opX wantS_none rfl (ExG.new (v := fun b => .ptr b 0) (ex_alloc zer43) hH) ?_
  rintro _ M23 ⟨b22, rfl, (hH23 : Has (ro (frozen M)) M23 [.obj b22 (.row 43 .whole [(.int .i64 0), (.int .i64 0)])])⟩
  refine Run.opG wantS_none (ex_assign rfl) rfl ?_
  refine Run.opsEnd (Run.seq (Run.seq (Run.region ?_)))
  refine Run.opG wantS_none (ex_move rfl) rfl ?_
  refine Run.opG wantS_none (ex_len' rfl hs0 lenk38) rfl ?_
  obtain ⟨r25, hr25, h⟩ := bnd_some h
  refine Run.callP wantS_none (ex_call rfl mkk62 cal62) rfl (search_isFrom_ok F (1 : Int) (a0.length : Int) (256 : Int) _ _ hr25) ?_
  refine Run.opG wantS_none (ex_not rfl) rfl ?_
  refine Run.opsEnd ?_
  rcases btf ((!r25)) with hc27 | hc27
  · have h := bif_t hc27 h
    refine Run.condT' rfl hc27 ?_
    refine Run.seq (Run.region ?_)
    refine Run.opG wantS_none (ex_build (r := [(.int .i64 0), (.int .i64 0)]) rfl zer43 pls43 rfl) rfl ?_
    refine Run.opX wantS_none rfl (ExG.storeC (c' := [(.int .i64 0), (.int .i64 0)]) rfl rfl rfl hH23 (i := 0) rfl sz43 rfl rfl rfl rfl rfl) ?_
    rintro _ M28 ⟨rfl, (hH28 : Has (ro (frozen M)) M28 [.obj b22 (.row 43 .whole [(.int .i64 0), (.int .i64 0)])])⟩
    refine Run.opG wantS_none (ex_assign rfl) rfl ?_
    refine Run.opsEnd ?_
    cases h
    exact Run.ret Try.func29 rfl (res_cell rfl (x_load (ex_loadA rfl (hH28.cells (i := 0) rfl 0 rfl) rdLe_rfl agg43 rfl rfl rfl)) (res_tmp rfl res_nil)) rfl
  · have h := bif_f hc27 h
    refine Run.condF' rfl hc27 ?_
    refine Run.skip (Run.seq (Run.region ?_))
    refine Run.opG wantS_none (ex_move rfl) rfl ?_
    refine Run.opG wantS_none (ex_move rfl) rfl ?_
    obtain ⟨r30, hr30, h⟩ := bnd_some h
    refine Run.callP wantS_none (ex_call rfl mkk67 cal67) rfl (search_chance_ok F a0 a1 s0 _ _ (hH23.slcF hs0) hr30) ?_
    refine Run.opX wantS_none rfl (ExG.storeC (c' := [(.int .i64 r30.N), (.int .i64 r30.Of)]) rfl rfl rfl hH23 (i := 0) rfl sz43 rfl rfl rfl rfl rfl) ?_
    rintro _ M32 ⟨rfl, (hH32 : Has (ro (frozen M)) M32 [.obj b22 (.row 43 .whole [(.int .i64 r30.N), (.int .i64 r30.Of)])])⟩
    refine Run.opG wantS_none (ex_assign rfl) rfl ?_
    refine Run.opsEnd ?_
    cases h
    exact Run.ret Try.func29 rfl (res_cell rfl (x_load (ex_loadA rfl (hH32.cells (i := 0) rfl 0 rfl) rdLe_rfl agg43 rfl rfl rfl)) (res_tmp rfl res_nil)) rfl

theorem mkk29 : makeK Try.prog 29 = none := by kernel_rfl
theorem cal29 : callable Try.prog 29 = true := by kernel_rfl
abbrev ref00_In_post (r : Bool) : SV → Mem → Prop := fun s _ => s = (.bool r)

def ref00_In_1 (F : Nat) (v14 : Bool) : Option (Bool) :=
  some v14

theorem ref00_In_1_ok (F : Nat) : ∀ (v14 : Bool) (Fr : Rd) (M : Mem) (r : Bool) (hH : Has Fr M []), ref00_In_1 F v14 = some r → Run Try.prog ⟨⟨49, [], none⟩, []⟩ 15 (ref00_In_post r) [(14, (.bool v14))] [itemC Try.prog 49 [1, 0] 8, codeC Try.prog 49 [1, 1]] M := by
  intro v14 Fr M r hH h
  rw [ref00_In_1] at h
  refine Run.opG wantS_none (ex_assign rfl) rfl ?_
  refine Run.opsEnd ?_
  cases h
  exact Run.ret Try.func49 rfl (res_tmp rfl res_nil) rfl

def ref00_In (F : Nat) (a0 : Int) (a1 : Int) (a2 : Int) : Option (Bool) :=
  bif (decide (a1 ≤ a0)) then
    ref00_In_1 F (decide (a0 ≤ a2))
  else
    ref00_In_1 F false

theorem ref00_In_ok (F : Nat) (a0 : Int) (a1 : Int) (a2 : Int) (r : Bool) (M : Mem) (h : ref00_In F a0 a1 a2 = some r) : CallsM Try.prog 49 [(.int .i64 a0), (.int .i64 a1), (.int .i64 a2)] M (fun s M' => s = (.bool r) ∧ M' = M) := by
  refine CallsM.plain Try.func49 rfl rfl rfl (show Run _ _ _ (ref00_In_post r) _ _ _ from ?_)
  rw [ref00_In] at h
  have hH := Has.nil (frozen M)
  refine Run.seq (Run.region ?_)
  refine Run.opG wantS_none (ex_assign rfl) rfl ?_
  refine Run.opsEnd (Run.seq (Run.region ?_))
  refine Run.opG wantS_none (ex_move rfl) rfl ?_
  refine Run.opG wantS_none (ex_move rfl) rfl ?_
  refine Run.opG wantS_none (ex_leq rfl rfl) rfl ?_
  refine Run.opG wantS_none (ex_move rfl) rfl ?_
  rcases btf ((decide (a1 ≤ a0))) with hc21 | hc21
  · have h := bif_t hc21 h
    refine Run.opG (wantS_yes' rfl rfl hc21) (ex_move rfl) rfl ?_
    refine Run.opG (wantS_yes' rfl rfl hc21) (ex_move rfl) rfl ?_
    refine Run.opG (wantS_yes' rfl rfl hc21) (ex_leq rfl rfl) rfl ?_
    refine Run.opG wantS_none (ex_pickT' rfl hc21 rfl rfl) rfl ?_
    exact Run.pick [14] (ref00_In_1_ok F (decide (a0 ≤ a2)) _ _ _ hH h)
  · have h := bif_f hc21 h
    refine Run.no (wantS_not' rfl rfl hc21) rfl ?_
    refine Run.no (wantS_not' rfl rfl hc21) rfl ?_
    refine Run.no (wantS_not' rfl rfl hc21) rfl ?_
    refine Run.opG wantS_none (ex_pickF' rfl hc21 rfl rfl) rfl ?_
    exact Run.pick [14] (ref00_In_1_ok F false _ _ _ hH h)

theorem mkk49 : makeK Try.prog 49 = none := by kernel_rfl
theorem cal49 : callable Try.prog 49 = true := by kernel_rfl
abbrev ref08_chance_post (r : S_api_Chance) : SV → Mem → Prop := fun s _ => s = (.agg [(.int .i64 r.N), (.int .i64 r.Of)])

def ref08_chance_2 (F : Nat) (hd1 : (List Int) → Int → Int → Int → S_api_Chance → Option (S_api_Chance)) (v0 : (List Int)) (v1 : Int) (v5 : Int) (v6 : Int) (c22 : S_api_Chance) : Option (S_api_Chance) :=
  hd1 v0 v1 v5 (w64 (v6 + (1 : Int))) c22

theorem ref08_chance_2_ok (F : Nat) (hd1 : (List Int) → Int → Int → Int → S_api_Chance → Option (S_api_Chance)) (hhd1 : ∀ (v0 : (List Int)) (v1 : Int) (v5 : Int) (v6 : Int) (c22 : S_api_Chance) (sv0 : SV) (b22 : Pos) (Fr : Rd) (M : Mem) (r : S_api_Chance) (hv0 : Slc Fr 1 (FlatR enc3) sv0 v0) (hH : Has Fr M [.obj b22 (.row 43 .whole [(.int .i64 c22.N), (.int .i64 c22.Of)])]), hd1 v0 v1 v5 v6 c22 = some r → Run Try.prog ⟨⟨68, [], none⟩, []⟩ 26 (ref08_chance_post r) [(0, sv0), (1, (.int .i64 v1)), (4, (.ptr b22 0)), (5, (.int .i64 v5)), (6, (.int .i64 v6))] [codeC Try.prog 68 [1, 1, 0, 1, 0, 0], loopC Try.prog 68 [1, 1, 0, 1, 0, 0], .inBlock 0, codeC Try.prog 68 [1, 1, 1]] M) : ∀ (v0 : (List Int)) (v1 : Int) (v5 : Int) (v6 : Int) (c22 : S_api_Chance) (sv0 : SV) (b22 : Pos) (Fr : Rd) (M : Mem) (r : S_api_Chance) (hv0 : Slc Fr 1 (FlatR enc3) sv0 v0) (hH : Has Fr M [.obj b22 (.row 43 .whole [(.int .i64 c22.N), (.int .i64 c22.Of)])]), ref08_chance_2 F hd1 v0 v1 v5 v6 c22 = some r → Run Try.prog ⟨⟨68, [], none⟩, []⟩ 26 (ref08_chance_post r) [(0, sv0), (1, (.int .i64 v1)), (4, (.ptr b22 0)), (5, (.int .i64 v5)), (6, (.int .i64 v6))] [itemC Try.prog 68 [1, 1, 0, 1, 0, 0, 1, 1] 0, loopC Try.prog 68 [1, 1, 0, 1, 0, 0], .inBlock 0, codeC Try.prog 68 [1, 1, 1]] M := by
  intro v0 v1 v5 v6 c22 sv0 b22 Fr M r hv0 hH h
  rw [ref08_chance_2] at h
  refine Run.opG wantS_none (ex_move rfl) rfl ?_
  refine Run.opG wantS_none (ex_add rfl rfl) rfl ?_
  refine Run.opG wantS_none (ex_assign rfl) rfl ?_
  refine Run.opsEnd (Run.inLoop ?_)
  exact Run.pick [0, 1, 4, 5, 6] (hhd1 v0 v1 v5 (w64 (v6 + (1 : Int))) c22 sv0 b22 _ _ _ hv0 hH h)

def ref08_chance_1 (F : Nat) : Nat → (List Int) → Int → Int → Int → S_api_Chance → Option (S_api_Chance)
  | 0, _, _, _, _, _ => none
  | N + 1, v0, v1, v5, v6, c22 =>
    bif (decide (v6 < (v0.length : Int))) then
      bnd (idx v0 v6) fun x26 =>
      bif (decide (v1 ≤ x26)) then
        ref08_chance_2 F (ref08_chance_1 F N) v0 v1 (w64 (v5 + (1 : Int))) v6 c22
      else
        ref08_chance_2 F (ref08_chance_1 F N) v0 v1 v5 v6 c22
    else
      some (S_api_Chance.mk (max (1 : Int) v5) (v0.length : Int))

theorem ref08_chance_1_ok (F : Nat) : ∀ (N : Nat), ∀ (v0 : (List Int)) (v1 : Int) (v5 : Int) (v6 : Int) (c22 : S_api_Chance) (sv0 : SV) (b22 : Pos) (Fr : Rd) (M : Mem) (r : S_api_Chance) (hv0 : Slc Fr 1 (FlatR enc3) sv0 v0) (hH : Has Fr M [.obj b22 (.row 43 .whole [(.int .i64 c22.N), (.int .i64 c22.Of)])]), ref08_chance_1 F N v0 v1 v5 v6 c22 = some r → Run Try.prog ⟨⟨68, [], none⟩, []⟩ 26 (ref08_chance_post r) [(0, sv0), (1, (.int .i64 v1)), (4, (.ptr b22 0)), (5, (.int .i64 v5)), (6, (.int .i64 v6))] [codeC Try.prog 68 [1, 1, 0, 1, 0, 0], loopC Try.prog 68 [1, 1, 0, 1, 0, 0], .inBlock 0, codeC Try.prog 68 [1, 1, 1]] M := by
  intro N
  induction N with
  | zero =>
    intro v0 v1 v5 v6 c22 sv0 b22 Fr M r hv0 hH h
    simp [ref08_chance_1] at h
  | succ N ih =>
    intro v0 v1 v5 v6 c22 sv0 b22 Fr M r hv0 hH h
    rw [ref08_chance_1] at h
    refine Run.seq (Run.seq (Run.region ?_))
    refine Run.opG wantS_none (ex_move rfl) rfl ?_
    refine Run.opG wantS_none (ex_move rfl) rfl ?_
    refine Run.opG wantS_none (ex_len' rfl hv0 lenk38) rfl ?_
    refine Run.opG wantS_none (ex_lss rfl rfl) rfl ?_
    refine Run.opsEnd ?_
    rcases btf ((decide (v6 < (v0.length : Int)))) with hc24 | hc24
    · have h := bif_t hc24 h
      refine Run.condT' rfl hc24 ?_
      refine Run.skip (Run.seq (Run.block (Run.seq (Run.region ?_))))
      refine Run.opG wantS_none (ex_move rfl) rfl ?_
      refine Run.opG wantS_none (ex_move rfl) rfl ?_
      obtain ⟨x26, hx26, h⟩ := bnd_some h
      obtain ⟨p26, o26, _, hx26, hp26, rfl⟩ := sl_elem (P := Try.prog) (t := 38) (kk := .i64) hv0 hx26 els38
      refine Run.opG wantS_none (ex_elX rfl rfl hx26) rfl ?_
      refine Run.opG wantS_none (ex_load1 rfl (hH.ptrF hp26) rdLe_rfl agg3) rfl ?_
      refine Run.opG wantS_none (ex_move rfl) rfl ?_
      refine Run.opG wantS_none (ex_geq rfl rfl) rfl ?_
      refine Run.opsEnd ?_
      rcases btf ((decide (v1 ≤ x26))) with hc27 | hc27
      · have h := bif_t hc27 h
        refine Run.condT' rfl hc27 ?_
        refine Run.region ?_
        refine Run.opG wantS_none (ex_move rfl) rfl ?_
        refine Run.opG wantS_none (ex_add rfl rfl) rfl ?_
        refine Run.opG wantS_none (ex_assign rfl) rfl ?_
        refine Run.opsEnd (Run.inBlock (Run.region ?_))
        exact Run.pick [0, 1, 4, 5, 6] (ref08_chance_2_ok F (ref08_chance_1 F N) ih v0 v1 (w64 (v5 + (1 : Int))) v6 c22 sv0 b22 _ _ _ hv0 hH h)
      · have h := bif_f hc27 h
        refine Run.condF' rfl hc27 ?_
        refine Run.skip (Run.inBlock (Run.region ?_))
        exact Run.pick [0, 1, 4, 5, 6] (ref08_chance_2_ok F (ref08_chance_1 F N) ih v0 v1 v5 v6 c22 sv0 b22 _ _ _ hv0 hH h)
    · have h := bif_f hc24 h
      refine Run.condF' rfl hc24 ?_
      refine Run.exit rfl (Run.seq (Run.region ?_))
      refine Run.opG wantS_none (ex_move rfl) rfl ?_
      refine Run.opG wantS_none (ex_max rfl rfl) rfl ?_
      refine Run.opG wantS_none (ex_move rfl) rfl ?_
      refine Run.opG wantS_none (ex_len' rfl hv0 lenk38) rfl ?_
      refine Run.opG wantS_none (ex_build (r := [(.int .i64 (max (1 : Int) v5)), (.int .i64 (v0.length : Int))]) rfl zer43 pls43 rfl) rfl ?_
      refine Run.opX wantS_none rfl (ExG.storeC (c' := [(.int .i64 (max (1 : Int) v5)), (.int .i64 (v0.length : Int))]) rfl rfl rfl hH (i := 0) rfl sz43 rfl rfl rfl rfl rfl) ?_
      rintro _ M28 ⟨rfl, (hH28 : Has Fr M28 [.obj b22 (.row 43 .whole [(.int .i64 (max (1 : Int) v5)), (.int .i64 (v0.length : Int))])])⟩
      refine Run.opsEnd ?_
      cases h
      exact Run.ret Try.func68 rfl (res_cell rfl (x_load (ex_loadA rfl (hH28.cells (i := 0) rfl 0 rfl) rdLe_rfl agg43 rfl rfl rfl)) res_nil) rfl

def ref08_chance (F : Nat) (a0 : (List Int)) (a1 : Int) : Option (S_api_Chance) :=
  ref08_chance_1 F F a0 a1 (0 : Int) (0 : Int) (S_api_Chance.mk 0 0)

theorem ref08_chance_ok (F : Nat) (a0 : (List Int)) (a1 : Int) (s0 : SV) (r : S_api_Chance) (M : Mem) (hs0 : Slc (rd M) 1 (FlatR enc3) s0 a0) (h : ref08_chance F a0 a1 = some r) : CallsM Try.prog 68 [s0, (.int .i64 a1)] M (fun s M' => s = (.agg [(.int .i64 r.N), (.int .i64 r.Of)]) ∧ M' = M) := by
  refine CallsM.plain Try.func68 rfl rfl rfl (show Run _ _ _ (ref08_chance_post r) _ _ _ from ?_)
  rw [ref08_chance] at h
  replace hs0 := hs0.mono (rdLe_frozen M) (fun _ _ h => h)
  have hH := Has.nil (frozen M)
  refine Run.seq (Run.region ?_)
  refine Run.opX wantS_none rfl (ExG.new (v := fun b => .ptr b 0) (ex_alloc zer43) hH) ?_
  rintro _ M23 ⟨b22, rfl, (hH23 : Has (ro (frozen M)) M23 [.obj b22 (.row 43 .whole [(.int .i64 0), (.int .i64 0)])])⟩
  refine Run.opsEnd (Run.seq (Run.region ?_))
  refine Run.opG wantS_none (ex_assign rfl) rfl ?_
  refine Run.opsEnd (Run.seq (Run.seq (Run.region ?_)))
  refine Run.opG wantS_none (ex_assign rfl) rfl ?_
  refine Run.opsEnd (Run.block (Run.loop ?_))
  exact Run.pick [0, 1, 4, 5, 6] (ref08_chance_1_ok F F a0 a1 (0 : Int) (0 : Int) (S_api_Chance.mk 0 0) s0 b22 _ _ _ hs0 hH23 h)

theorem mkk68 : makeK Try.prog 68 = none := by kernel_rfl
theorem cal68 : callable Try.prog 68 = true := by kernel_rfl
abbrev ref08_Chance_post (r : S_api_Chance × Int) : SV → Mem → Prop := fun s _ => s = (.tuple [(.agg [(.int .i64 r.1.N), (.int .i64 r.1.Of)]), (.int .i64 r.2)])

def ref08_Chance (F : Nat) (a0 : (List Int)) (a1 : Int) : Option (S_api_Chance × Int) :=
  bnd (ref00_In F (a0.length : Int) (1 : Int) (256 : Int)) fun r25 =>
  bif (!r25) then
    some ((S_api_Chance.mk 0 0), (2 : Int))
  else
    bnd (ref08_chance F a0 a1) fun r30 =>
    some (r30, (0 : Int))

theorem ref08_Chance_ok (F : Nat) (a0 : (List Int)) (a1 : Int) (s0 : SV) (r : S_api_Chance × Int) (M : Mem) (hs0 : Slc (rd M) 1 (FlatR enc3) s0 a0) (h : ref08_Chance F a0 a1 = some r) : CallsM Try.prog 30 [s0, (.int .i64 a1)] M (fun s M' => s = (.tuple [(.agg [(.int .i64 r.1.N), (.int .i64 r.1.Of)]), (.int .i64 r.2)]) ∧ M' = M) := by
  refine CallsM.plain Try.func30 rfl rfl rfl (show Run _ _ _ (ref08_Chance_post r) _ _ _ from ?_)
  rw [ref08_Chance] at h
  replace hs0 := hs0.mono (rdLe_frozen M) (fun _ _ h => h)
  have hH := Has.nil (frozen M)
  refine Run.seq (Run.region ?_)
  refine Run.opX wantS_none rfl (ExG.new (v := fun b => .ptr b 0) (ex_alloc zer43) hH) ?_
  rintro _ M23 ⟨b22, rfl, (hH23 : Has (ro (frozen M)) M23 [.obj b22 (.row 43 .whole [(.int .i64 0), (.int .i64 0)])])⟩
  refine Run.opG wantS_none (ex_assign rfl) rfl ?_
  refine Run.opsEnd (Run.seq (Run.seq (Run.region ?_)))
  refine Run.opG wantS_none (ex_move rfl) rfl ?_
  refine Run.opG wantS_none (ex_len' rfl hs0 lenk38) rfl ?_
  obtain ⟨r25, hr25, h⟩ := bnd_some h
  refine Run.callP wantS_none (ex_call rfl mkk49 cal49) rfl (ref00_In_ok F (a0.length : Int) (1 : Int) (256 : Int) _ _ hr25) ?_
  refine Run.opG wantS_none (ex_not rfl) rfl ?_
  refine Run.opsEnd ?_
  rcases btf ((!r25)) with hc27 | hc27
  · have h := bif_t hc27 h
    refine Run.condT' rfl hc27 ?_
    refine Run.seq (Run.region ?_)
    refine Run.opG wantS_none (ex_build (r := [(.int .i64 0), (.int .i64 0)]) rfl zer43 pls43 rfl) rfl ?_
    refine Run.opX wantS_none rfl (ExG.storeC (c' := [(.int .i64 0), (.int .i64 0)]) rfl rfl rfl hH23 (i := 0) rfl sz43 rfl rfl rfl rfl rfl) ?_
    rintro _ M28 ⟨rfl, (hH28 : Has (ro (frozen M)) M28 [.obj b22 (.row 43 .whole [(.int .i64 0), (.int .i64 0)])])⟩
    refine Run.opG wantS_none (ex_assign rfl) rfl ?_
    refine Run.opsEnd ?_
    cases h
    exact Run.ret Try.func30 rfl (res_cell rfl (x_load (ex_loadA rfl (hH28.cells (i := 0) rfl 0 rfl) rdLe_rfl agg43 rfl rfl rfl)) (res_tmp rfl res_nil)) rfl
  · have h := bif_f hc27 h
    refine Run.condF' rfl hc27 ?_
    refine Run.skip (Run.seq (Run.region ?_))
    refine Run.opG wantS_none (ex_move rfl) rfl ?_
    refine Run.opG wantS_none (ex_move rfl) rfl ?_
    obtain ⟨r30, hr30, h⟩ := bnd_some h
    refine Run.callP wantS_none (ex_call rfl mkk68 cal68) rfl (ref08_chance_ok F a0 a1 s0 _ _ (hH23.slcF hs0) hr30) ?_
    refine Run.opX wantS_none rfl (ExG.storeC (c' := [(.int .i64 r30.N), (.int .i64 r30.Of)]) rfl rfl rfl hH23 (i := 0) rfl sz43 rfl rfl rfl rfl rfl) ?_
    rintro _ M32 ⟨rfl, (hH32 : Has (ro (frozen M)) M32 [.obj b22 (.row 43 .whole [(.int .i64 r30.N), (.int .i64 r30.Of)])])⟩
    refine Run.opG wantS_none (ex_assign rfl) rfl ?_
    refine Run.opsEnd ?_
    cases h
    exact Run.ret Try.func30 rfl (res_cell rfl (x_load (ex_loadA rfl (hH32.cells (i := 0) rfl 0 rfl) rdLe_rfl agg43 rfl rfl rfl)) (res_tmp rfl res_nil)) rfl

theorem mkk30 : makeK Try.prog 30 = none := by kernel_rfl
theorem cal30 : callable Try.prog 30 = true := by kernel_rfl
theorem agk3 : aggK Try.prog 3 = some .int := by kernel_rfl
theorem agk43 : aggK Try.prog 43 = some (.st [⟨ "N", 3, 0, false, "", "", 0⟩, ⟨ "Of", 3, 1, false, "", "", 8⟩]) := by kernel_rfl
theorem aeq43 : aggEq Try.prog 43 = false := by kernel_rfl
theorem mkk22 : makeK Try.prog 22 = none := by kernel_rfl
theorem cal22 : callable Try.prog 22 = true := by kernel_rfl
abbrev law08_SearchChances_post (r : Bool) : SV → Mem → Prop := fun s _ => s = (.bool r)

def law08_SearchChances_2 (F : Nat) (v31 : Bool) : Option (Bool) :=
  some v31

theorem law08_SearchChances_2_ok (F : Nat) : ∀ (v31 : Bool) (Fr : Rd) (M : Mem) (r : Bool) (hH : Has Fr M []), law08_SearchChances_2 F v31 = some r → Run Try.prog ⟨⟨5, [], none⟩, []⟩ 32 (law08_SearchChances_post r) [(31, (.bool v31))] [itemC Try.prog 5 [1, 1, 1, 0] 11, codeC Try.prog 5 [1, 1, 1, 1]] M := by
  intro v31 Fr M r hH h
  rw [law08_SearchChances_2] at h
  refine Run.opG wantS_none (ex_assign rfl) rfl ?_
  refine Run.opsEnd ?_
  cases h
  exact Run.ret Try.func5 rfl (res_tmp rfl res_nil) rfl

def law08_SearchChances_1 (F : Nat) (v28 : Bool) : Option (Bool) :=
  bif v28 then
    bnd (works F) fun r38 =>
    law08_SearchChances_2 F r38
  else
    law08_SearchChances_2 F false

theorem law08_SearchChances_1_ok (F : Nat) : ∀ (v28 : Bool) (Fr : Rd) (M : Mem) (r : Bool) (hH : Has Fr M []), law08_SearchChances_1 F v28 = some r → Run Try.prog ⟨⟨5, [], none⟩, []⟩ 32 (law08_SearchChances_post r) [(28, (.bool v28))] [itemC Try.prog 5 [1, 1, 1, 0] 8, codeC Try.prog 5 [1, 1, 1, 1]] M := by
  intro v28 Fr M r hH h
  rw [law08_SearchChances_1] at h
  refine Run.opG wantS_none (ex_move rfl) rfl ?_
  rcases btf (v28) with hc36 | hc36
  · have h := bif_t hc36 h
    obtain ⟨r38, hr38, h⟩ := bnd_some h
    refine Run.callP (wantS_yes' rfl rfl hc36) (ex_call rfl mkk22 cal22) rfl (works_ok F r38 _ hH  hr38) ?_
    refine Run.opG wantS_none (ex_pickT' rfl hc36 rfl rfl) rfl ?_
    exact Run.pick [31] (law08_SearchChances_2_ok F r38 _ _ _ hH h)
  · have h := bif_f hc36 h
    refine Run.no (wantS_not' rfl rfl hc36) rfl ?_
    refine Run.opG wantS_none (ex_pickF' rfl hc36 rfl rfl) rfl ?_
    exact Run.pick [31] (law08_SearchChances_2_ok F false _ _ _ hH h)

def law08_SearchChances (F : Nat) (a0 : (List Int)) (a1 : Int) : Option (Bool) :=
  bnd (search_Chance F a0 a1) fun r22 =>
  bnd (ref08_Chance F a0 a1) fun r29 =>
  bif ((r22.1.N == r29.1.N) && ((r22.1.Of == r29.1.Of) && true)) then
    law08_SearchChances_1 F (r22.2 == r29.2)
  else
    law08_SearchChances_1 F false

theorem law08_SearchChances_run (F : Nat) (a0 : (List Int)) (a1 : Int) (s0 : SV) (r : Bool) (M : Mem) (hs0 : Slc (rd M) 1 (FlatR enc3) s0 a0) (hfx : FixIn M fixes) (h : law08_SearchChances F a0 a1 = some r) : Run Try.prog (fx0 5) 32 (law08_SearchChances_post r) [(0, s0), (1, (.int .i64 a1))] [codeC Try.prog 5 []] (frozen M) := by
  rw [law08_SearchChances] at h
  replace hs0 := hs0.mono (rdLe_frozen M) (fun _ _ h => h)
  have hH : Has (ro (frozen M)) (frozen M) [] := Has.ofFix hfx.frozen
  refine Run.seq (Run.region ?_)
  refine Run.opG wantS_none (ex_assign rfl) rfl ?_
  refine Run.opsEnd (Run.seq (Run.region ?_))
  refine Run.opG wantS_none (ex_move rfl) rfl ?_
  refine Run.opG wantS_none (ex_move rfl) rfl ?_
  obtain ⟨r22, hr22, h⟩ := bnd_some h
  refine Run.callP wantS_none (ex_call rfl mkk29 cal29) rfl (search_Chance_ok F a0 a1 s0 _ _ (hH.slcF hs0) hr22) ?_
  refine Run.opG wantS_none (ex_move rfl) rfl ?_
  refine Run.opG wantS_none (ex_extract rfl rfl) rfl ?_
  refine Run.opG wantS_none (ex_extract rfl rfl) rfl ?_
  refine Run.opX wantS_none rfl (ExG.new (v := fun b => .ptr b 0) (ex_alloc zer43) hH) ?_
  rintro _ M26 ⟨b25, rfl, (hH26 : Has (ro (frozen M)) M26 [.obj b25 (.row 43 .whole [(.int .i64 0), (.int .i64 0)])])⟩
  refine Run.opX wantS_none rfl (ExG.storeC (c' := [(.int .i64 r22.1.N), (.int .i64 r22.1.Of)]) rfl rfl rfl hH26 (i := 0) rfl sz43 rfl rfl rfl rfl rfl) ?_
  rintro _ M27 ⟨rfl, (hH27 : Has (ro (frozen M)) M27 [.obj b25 (.row 43 .whole [(.int .i64 r22.1.N), (.int .i64 r22.1.Of)])])⟩
  refine Run.opG wantS_none (ex_assign rfl) rfl ?_
  refine Run.opsEnd (Run.seq (Run.region ?_))
  refine Run.opG wantS_none (ex_move rfl) rfl ?_
  refine Run.opG wantS_none (ex_move rfl) rfl ?_
  obtain ⟨r29, hr29, h⟩ := bnd_some h
  refine Run.callP wantS_none (ex_call rfl mkk30 cal30) rfl (ref08_Chance_ok F a0 a1 s0 _ _ (hH27.slcF hs0) hr29) ?_
  refine Run.opG wantS_none (ex_move rfl) rfl ?_
  refine Run.opG wantS_none (ex_extract rfl rfl) rfl ?_
  refine Run.opG wantS_none (ex_extract rfl rfl) rfl ?_
  refine Run.opX wantS_none rfl (ExG.new (v := fun b => .ptr b 0) (ex_alloc zer43) hH27) ?_
  rintro _ M33 ⟨b32, rfl, (hH33 : Has (ro (frozen M)) M33 [.obj b32 (.row 43 .whole [(.int .i64 0), (.int .i64 0)]), .obj b25 (.row 43 .whole [(.int .i64 r22.1.N), (.int .i64 r22.1.Of)])])⟩
  refine Run.opX wantS_none rfl (ExG.storeC (c' := [(.int .i64 r29.1.N), (.int .i64 r29.1.Of)]) rfl rfl rfl hH33 (i := 0) rfl sz43 rfl rfl rfl rfl rfl) ?_
  rintro _ M34 ⟨rfl, (hH34 : Has (ro (frozen M)) M34 [.obj b32 (.row 43 .whole [(.int .i64 r29.1.N), (.int .i64 r29.1.Of)]), .obj b25 (.row 43 .whole [(.int .i64 r22.1.N), (.int .i64 r22.1.Of)])])⟩
  refine Run.opG wantS_none (ex_assign rfl) rfl ?_
  refine Run.opsEnd (Run.seq (Run.region ?_))
  refine Run.opG wantS_none (ex_loadA rfl (hH34.cells (i := 1) rfl 0 rfl) rdLe_rfl agg43 rfl rfl rfl) rfl ?_
  refine Run.opG wantS_none (ex_loadA rfl (hH34.cells (i := 0) rfl 0 rfl) rdLe_rfl agg43 rfl rfl rfl) rfl ?_
  refine Run.opG wantS_none (ex_eqlA rfl rfl aeq43 (eqA_st agk43 (eqFs_cons (by decide) (part_one agg3 rfl) (part_one agg3 rfl) (eqA_int agk3) (eqFs_cons (by decide) (part_one agg3 rfl) (part_one agg3 rfl) (eqA_int agk3) eqFs_nil)))) rfl ?_
  refine Run.opG wantS_none (ex_move rfl) rfl ?_
  rcases btf (((r22.1.N == r29.1.N) && ((r22.1.Of == r29.1.Of) && true))) with hc35 | hc35
  · have h := bif_t hc35 h
    refine Run.opG (wantS_yes' rfl rfl hc35) (ex_move rfl) rfl ?_
    refine Run.opG (wantS_yes' rfl rfl hc35) (ex_move rfl) rfl ?_
    refine Run.opG (wantS_yes' rfl rfl hc35) (ex_eql rfl rfl) rfl ?_
    refine Run.opG wantS_none (ex_pickT' rfl hc35 rfl rfl) rfl ?_
    exact Run.pick [28] (law08_SearchChances_1_ok F (r22.2 == r29.2) _ _ _ (hH34.pick [] rfl rfl) h)
  · have h := bif_f hc35 h
    refine Run.no (wantS_not' rfl rfl hc35) rfl ?_
    refine Run.no (wantS_not' rfl rfl hc35) rfl ?_
    refine Run.no (wantS_not' rfl rfl hc35) rfl ?_
    refine Run.opG wantS_none (ex_pickF' rfl hc35 rfl rfl) rfl ?_
    exact Run.pick [28] (law08_SearchChances_1_ok F false _ _ _ (hH34.pick [] rfl rfl) h)

end Go.Ev.SearchChances
