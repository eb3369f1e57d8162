/- Plain functions that say what functions of the program come to, and proofs of it, written by a program of the verifier's own. -/
import Derived.Test.YtgaofnakcccbkaaEvL11
import Derived.Test.YtgaofnakcccbkaaEvL13
import Derived.Test.YtgaofnakcccbkaaWorks
import Derived.KernelRfl
namespace Go.Ev.SearchOpens
open Go Go.Ev Go.Proofs
set_option maxRecDepth 100000
set_option linter.unusedVariables false

/-- The listed tables. -/
noncomputable def fixes : List (Nat × List SV) := Go.Proofs.Ytgaofnakcccbkaa.works.fixes
/-- works() comes to true. -/
def works (_ : Nat) : Option Bool := some true
theorem fixH {Fr : Rd} {H : List Ent} {M : Mem} (hH : Has Fr M H) : FixIn M fixes := fun x hx => absurd hx List.not_mem_nil

theorem works_ok (F : Nat) (r : Bool) {Fr : Rd} {H : List Ent} (M : Mem) (hH : Has Fr M H) (h : works F = some r) : CallsM Try.prog 12 [] M fun s M' => s = .bool r ∧ M' = M := by
  cases h
  exact CallsM.closedFix (n := 300) (l := Go.Proofs.Ytgaofnakcccbkaa.works.fixes) Go.Proofs.Ytgaofnakcccbkaa.works.below Go.Proofs.Ytgaofnakcccbkaa.works.plainF Go.Proofs.Ytgaofnakcccbkaa.works.works_true (fun x hx => absurd hx List.not_mem_nil)


structure S_api_Wave where
  At : Int
  Gain : Int
  Samples : (List Int)

def enc3 (a : Int) : List SV := [(.int .i64 a)]
theorem enc3_len (a : Int) : (enc3 a).length = 1 := rfl
theorem enc3_ones (a : Int) : ones (enc3 a) = true := rfl
def rep65 (f : Rd) (cs : List SV) (a : S_api_Wave) : Prop := ∃ q1, cs = [(.int .i64 a.At), (.int .i64 a.Gain), q1] ∧ Slc f 1 (FlatR enc3) q1 a.Samples
theorem rep65_mo {f g : Rd} (h : RdLe f g) {cs : List SV} {a : S_api_Wave} : rep65 f cs a → rep65 g cs a := by
  rintro ⟨q1, rfl, h0⟩
  exact ⟨q1, rfl, h0.mono h (fun _ _ h => h)⟩
theorem rep65_len {f : Rd} {cs : List SV} {a : S_api_Wave} : rep65 f cs a → cs.length = 3 := by
  rintro ⟨_, rfl, h0⟩
  rfl
theorem rep65_ones {f : Rd} {cs : List SV} {a : S_api_Wave} : rep65 f cs a → ones cs = true := by
  rintro ⟨_, rfl, h0⟩
  exact (ones_cons rfl (ones_cons rfl (ones_cons (slc_one h0) ones_nil)))
theorem lenk22 : lenK Try.prog 22 = some .sl := by kernel_rfl
theorem mkk96 : makeK Try.prog 96 = none := by kernel_rfl
theorem cal96 : callable Try.prog 96 = true := by kernel_rfl
theorem mkk107 : makeK Try.prog 107 = none := by kernel_rfl
theorem cal107 : callable Try.prog 107 = true := by kernel_rfl
theorem els22 : elems Try.prog 22 = some (.sl 1) := by kernel_rfl
theorem agg3 : aggSize Try.prog 3 = some none := by kernel_rfl
theorem mkk95 : makeK Try.prog 95 = none := by kernel_rfl
theorem cal95 : callable Try.prog 95 = true := by kernel_rfl
abbrev search_isFrom_post (r : Bool) : SV → Mem → Prop := fun s _ => s = (.bool r)

def search_isFrom_1 (F : Nat) (v14 : Bool) : Option (Bool) :=
  some v14

theorem search_isFrom_1_ok (F : Nat) : ∀ (v14 : Bool) (Fr : Rd) (M : Mem) (r : Bool) (hH : Has Fr M []), search_isFrom_1 F v14 = some r → Run Try.prog ⟨⟨36, [], none⟩, []⟩ 15 (search_isFrom_post r) [(14, (.bool v14))] [itemC Try.prog 36 [1, 0] 8, codeC Try.prog 36 [1, 1]] M := by
  intro v14 Fr M r hH h
  rw [search_isFrom_1] at h
  refine Run.opG wantS_none (ex_assign rfl) rfl ?_
  refine Run.opsEnd ?_
  cases h
  exact Run.ret Try.func36 rfl (res_tmp rfl res_nil) rfl

def search_isFrom (F : Nat) (a0 : Int) (a1 : Int) (a2 : Int) : Option (Bool) :=
  bif (decide (a0 ≤ a1)) then
    search_isFrom_1 F (decide (a1 ≤ a2))
  else
    search_isFrom_1 F false

theorem search_isFrom_ok (F : Nat) (a0 : Int) (a1 : Int) (a2 : Int) (r : Bool) (M : Mem) (h : search_isFrom F a0 a1 a2 = some r) : CallsM Try.prog 36 [(.int .i64 a0), (.int .i64 a1), (.int .i64 a2)] M (fun s M' => s = (.bool r) ∧ M' = M) := by
  refine CallsM.plain Try.func36 rfl rfl rfl (show Run _ _ _ (search_isFrom_post r) _ _ _ from ?_)
  rw [search_isFrom] at h
  have hH := Has.nil (frozen M)
  refine Run.seq (Run.region ?_)
  refine Run.opG wantS_none (ex_assign rfl) rfl ?_
  refine Run.opsEnd (Run.seq (Run.region ?_))
  refine Run.opG wantS_none (ex_move rfl) rfl ?_
  refine Run.opG wantS_none (ex_move rfl) rfl ?_
  refine Run.opG wantS_none (ex_leq rfl rfl) rfl ?_
  refine Run.opG wantS_none (ex_move rfl) rfl ?_
  rcases btf ((decide (a0 ≤ a1))) with hc21 | hc21
  · have h := bif_t hc21 h
    refine Run.opG (wantS_yes' rfl rfl hc21) (ex_move rfl) rfl ?_
    refine Run.opG (wantS_yes' rfl rfl hc21) (ex_move rfl) rfl ?_
    refine Run.opG (wantS_yes' rfl rfl hc21) (ex_leq rfl rfl) rfl ?_
    refine Run.opG wantS_none (ex_pickT' rfl hc21 rfl rfl) rfl ?_
    exact Run.pick [14] (search_isFrom_1_ok F (decide (a1 ≤ a2)) _ _ _ hH h)
  · have h := bif_f hc21 h
    refine Run.no (wantS_not' rfl rfl hc21) rfl ?_
    refine Run.no (wantS_not' rfl rfl hc21) rfl ?_
    refine Run.no (wantS_not' rfl rfl hc21) rfl ?_
    refine Run.opG wantS_none (ex_pickF' rfl hc21 rfl rfl) rfl ?_
    exact Run.pick [14] (search_isFrom_1_ok F false _ _ _ hH h)

theorem mkk36 : makeK Try.prog 36 = none := by kernel_rfl
theorem cal36 : callable Try.prog 36 = true := by kernel_rfl
abbrev search_areFrom_post (r : Bool) : SV → Mem → Prop := fun s _ => s = (.bool r)

def search_areFrom_1 (F : Nat) : Nat → (List Int) → Int → Int → Int → Option (Bool)
  | 0, _, _, _, _ => none
  | N + 1, v0, v7, v8, c22_0 =>
    bif (decide (v8 < v7)) then
      bnd (idx v0 v8) fun x26 =>
      bnd (search_isFrom F (w64 (-c22_0)) x26 c22_0) fun r28 =>
      bif (!r28) then
        some (!(decide ((0 : Int) ≤ v8)))
      else
        (search_areFrom_1 F N) v0 v7 (w64 (v8 + (1 : Int))) c22_0
    else
      some (!(decide ((0 : Int) ≤ ((-1) : Int))))

theorem search_areFrom_1_ok (F : Nat) : ∀ (N : Nat), ∀ (v0 : (List Int)) (v7 : Int) (v8 : Int) (c22_0 : Int) (sv0 : SV) (b22 : Pos) (Fr : Rd) (M : Mem) (r : Bool) (hv0 : Slc Fr 1 (FlatR enc3) sv0 v0) (hH : Has Fr M [.obj b22 (.row 3 .whole [(.int .i64 c22_0)])]), search_areFrom_1 F N v0 v7 v8 c22_0 = some r → Run Try.prog ⟨⟨107, [], none⟩, [.mk ⟨96, [], none⟩ 9 (treeOf []) [itemC Try.prog 96 [1, 0] 2, codeC Try.prog 96 [1, 1]], .mk ⟨64, [], none⟩ 11 (treeOf []) [itemC Try.prog 64 [1, 1, 0] 2, codeC Try.prog 64 [1, 1, 1]]]⟩ 19 (search_areFrom_post r) [(0, sv0), (1, (.fn (.func 95) [] [(.ptr b22 0)])), (7, (.int .i64 v7)), (8, (.int .i64 v8))] [codeC Try.prog 107 [1, 0, 1, 0, 0], loopC Try.prog 107 [1, 0, 1, 0, 0], .inBlock 0, codeC Try.prog 107 [1, 1]] M := by
  intro N
  induction N with
  | zero =>
    intro v0 v7 v8 c22_0 sv0 b22 Fr M r hv0 hH h
    simp [search_areFrom_1] at h
  | succ N ih =>
    intro v0 v7 v8 c22_0 sv0 b22 Fr M r hv0 hH h
    rw [search_areFrom_1] at h
    refine Run.seq (Run.region ?_)
    refine Run.opG wantS_none (ex_lss rfl rfl) rfl ?_
    refine Run.opsEnd (Run.seq ?_)
    rcases btf ((decide (v8 < v7))) with hc24 | hc24
    · have h := bif_t hc24 h
      refine Run.condT' rfl hc24 ?_
      refine Run.skip (Run.seq (Run.block (Run.seq (Run.region ?_))))
      refine Run.opG wantS_none (ex_move rfl) rfl ?_
      refine Run.opG wantS_none (ex_assign rfl) rfl ?_
      refine Run.opsEnd (Run.seq (Run.region ?_))
      refine Run.opG wantS_none (ex_move rfl) rfl ?_
      refine Run.opG wantS_none (ex_move rfl) rfl ?_
      refine Run.opG wantS_none (ex_move rfl) rfl ?_
      obtain ⟨x26, hx26, h⟩ := bnd_some h
      obtain ⟨p26, o26, _, hx26, hp26, rfl⟩ := sl_elem (P := Try.prog) (t := 22) (kk := .i64) hv0 hx26 els22
      refine Run.opG wantS_none (ex_elX rfl rfl hx26) rfl ?_
      refine Run.opG wantS_none (ex_load1 rfl (hH.ptrF hp26) rdLe_rfl agg3) rfl ?_
      refine Run.enter wantS_none (ex_closure rfl rfl mkk95 cal95) Try.func95 rfl rfl ?_
      refine Run.seq (Run.region ?_)
      refine Run.opG wantS_none (ex_assign rfl) rfl ?_
      refine Run.opsEnd (Run.seq (Run.region ?_))
      refine Run.opG wantS_none (ex_load1 rfl (hH.cells (i := 0) rfl 0 rfl) rdLe_rfl agg3) rfl ?_
      refine Run.opG wantS_none (ex_neg rfl) rfl ?_
      refine Run.opG wantS_none (ex_move rfl) rfl ?_
      refine Run.opG wantS_none (ex_load1 rfl (hH.cells (i := 0) rfl 0 rfl) rdLe_rfl agg3) rfl ?_
      obtain ⟨r28, hr28, h⟩ := bnd_some h
      refine Run.callP wantS_none (ex_call rfl mkk36 cal36) rfl (search_isFrom_ok F (w64 (-c22_0)) x26 c22_0 _ _ hr28) ?_
      refine Run.opG wantS_none (ex_not rfl) rfl ?_
      refine Run.opG wantS_none (ex_assign rfl) rfl ?_
      refine Run.opsEnd ?_
      refine Run.retTo Try.func95 rfl (res_tmp rfl res_nil) rfl ?_
      refine Run.opsEnd ?_
      rcases btf ((!r28)) with hc30 | hc30
      · have h := bif_t hc30 h
        refine Run.condT' rfl hc30 ?_
        refine Run.seq (Run.region ?_)
        refine Run.opG wantS_none (ex_move rfl) rfl ?_
        refine Run.opG wantS_none (ex_assign rfl) rfl ?_
        refine Run.opsEnd ?_
        refine Run.retTo Try.func107 rfl (res_tmp rfl res_nil) rfl ?_
        refine Run.opG wantS_none (ex_geq rfl rfl) rfl ?_
        refine Run.opG wantS_none (ex_assign rfl) rfl ?_
        refine Run.opsEnd ?_
        refine Run.retTo Try.func96 rfl (res_tmp rfl res_nil) rfl ?_
        refine Run.opG wantS_none (ex_not rfl) rfl ?_
        refine Run.opG wantS_none (ex_assign rfl) rfl ?_
        refine Run.opsEnd ?_
        cases h
        exact Run.ret Try.func64 rfl (res_tmp rfl res_nil) rfl
      · have h := bif_f hc30 h
        refine Run.condF' rfl hc30 ?_
        refine Run.skip (Run.inBlock (Run.region ?_))
        refine Run.opG wantS_none (ex_add rfl rfl) rfl ?_
        refine Run.opG wantS_none (ex_move rfl) rfl ?_
        refine Run.opsEnd (Run.inLoop ?_)
        exact Run.low (.cons (fle_pick [] rfl) (.cons (fle_pick [] rfl) .nil)) (Run.pick [0, 1, 7, 8] (ih v0 v7 (w64 (v8 + (1 : Int))) c22_0 sv0 b22 _ _ _ hv0 hH h))
    · have h := bif_f hc24 h
      refine Run.condF' rfl hc24 ?_
      refine Run.exit rfl (Run.seq (Run.region ?_))
      refine Run.opG wantS_none (ex_assign rfl) rfl ?_
      refine Run.opsEnd ?_
      refine Run.retTo Try.func107 rfl (res_tmp rfl res_nil) rfl ?_
      refine Run.opG wantS_none (ex_geq rfl rfl) rfl ?_
      refine Run.opG wantS_none (ex_assign rfl) rfl ?_
      refine Run.opsEnd ?_
      refine Run.retTo Try.func96 rfl (res_tmp rfl res_nil) rfl ?_
      refine Run.opG wantS_none (ex_not rfl) rfl ?_
      refine Run.opG wantS_none (ex_assign rfl) rfl ?_
      refine Run.opsEnd ?_
      cases h
      exact Run.ret Try.func64 rfl (res_tmp rfl res_nil) rfl

def search_areFrom (F : Nat) (a0 : (List Int)) (a1 : Int) : Option (Bool) :=
  search_areFrom_1 F F a0 (a0.length : Int) (0 : Int) a1

theorem search_areFrom_ok (F : Nat) (a0 : (List Int)) (a1 : Int) (s0 : SV) (r : Bool) (M : Mem) (hs0 : Slc (rd M) 1 (FlatR enc3) s0 a0) (h : search_areFrom F a0 a1 = some r) : CallsM Try.prog 64 [s0, (.int .i64 a1)] M (fun s M' => s = (.bool r) ∧ M' = M) := by
  refine CallsM.plain Try.func64 rfl rfl rfl (show Run _ _ _ (search_areFrom_post r) _ _ _ from ?_)
  rw [search_areFrom] at h
  replace hs0 := hs0.mono (rdLe_frozen M) (fun _ _ h => h)
  have hH := Has.nil (frozen M)
  refine Run.seq (Run.region ?_)
  refine Run.opX wantS_none rfl (ExG.box rfl rfl hH) ?_
  rintro _ M23 ⟨b22, rfl, (hH23 : Has (ro (frozen M)) M23 [.obj b22 (.row 3 .whole [(.int .i64 a1)])])⟩
  refine Run.opG wantS_none (ex_assign rfl) rfl ?_
  refine Run.opsEnd (Run.seq (Run.region ?_))
  refine Run.opG wantS_none (ex_makeFunc rfl rfl) rfl ?_
  refine Run.opG wantS_none (ex_assign rfl) rfl ?_
  refine Run.opsEnd (Run.seq (Run.region ?_))
  refine Run.opG wantS_none (ex_move rfl) rfl ?_
  refine Run.opG wantS_none (ex_move rfl) rfl ?_
  refine Run.enter wantS_none (ex_call rfl mkk96 cal96) Try.func96 rfl rfl ?_
  refine Run.seq (Run.region ?_)
  refine Run.opG wantS_none (ex_assign rfl) rfl ?_
  refine Run.opsEnd (Run.seq (Run.region ?_))
  refine Run.opG wantS_none (ex_move rfl) rfl ?_
  refine Run.opG wantS_none (ex_move rfl) rfl ?_
  refine Run.enter wantS_none (ex_call rfl mkk107 cal107) Try.func107 rfl rfl ?_
  refine Run.seq (Run.region ?_)
  refine Run.opG wantS_none (ex_assign rfl) rfl ?_
  refine Run.opsEnd (Run.seq (Run.seq (Run.region ?_)))
  refine Run.opG wantS_none (ex_move rfl) rfl ?_
  refine Run.opG wantS_none (ex_len' rfl hs0 lenk22) rfl ?_
  refine Run.opG wantS_none (ex_move rfl) rfl ?_
  refine Run.opsEnd (Run.block (Run.loop ?_))
  exact Run.low (.cons (fle_pick [] rfl) (.cons (fle_pick [] rfl) .nil)) (Run.pick [0, 1, 7, 8] (search_areFrom_1_ok F F a0 (a0.length : Int) (0 : Int) a1 s0 b22 _ _ _ hs0 hH23 h))

theorem mkk64 : makeK Try.prog 64 = none := by kernel_rfl
theorem cal64 : callable Try.prog 64 = true := by kernel_rfl
abbrev search_isRecord_post (r : Bool) : SV → Mem → Prop := fun s _ => s = (.bool r)

def search_isRecord_1 (F : Nat) (v9 : Bool) : Option (Bool) :=
  some v9

theorem search_isRecord_1_ok (F : Nat) : ∀ (v9 : Bool) (Fr : Rd) (M : Mem) (r : Bool) (hH : Has Fr M []), search_isRecord_1 F v9 = some r → Run Try.prog ⟨⟨35, [], none⟩, []⟩ 10 (search_isRecord_post r) [(9, (.bool v9))] [itemC Try.prog 35 [1, 0] 7, codeC Try.prog 35 [1, 1]] M := by
  intro v9 Fr M r hH h
  rw [search_isRecord_1] at h
  refine Run.opG wantS_none (ex_assign rfl) rfl ?_
  refine Run.opsEnd ?_
  cases h
  exact Run.ret Try.func35 rfl (res_tmp rfl res_nil) rfl

def search_isRecord (F : Nat) (a0 : (List Int)) : Option (Bool) :=
  bif (decide ((a0.length : Int) ≤ (1024 : Int))) then
    bnd (search_areFrom F a0 (16384 : Int)) fun r23 =>
    search_isRecord_1 F r23
  else
    search_isRecord_1 F false

theorem search_isRecord_ok (F : Nat) (a0 : (List Int)) (s0 : SV) (r : Bool) (M : Mem) (hs0 : Slc (rd M) 1 (FlatR enc3) s0 a0) (h : search_isRecord F a0 = some r) : CallsM Try.prog 35 [s0] M (fun s M' => s = (.bool r) ∧ M' = M) := by
  refine CallsM.plain Try.func35 rfl rfl rfl (show Run _ _ _ (search_isRecord_post r) _ _ _ from ?_)
  rw [search_isRecord] at h
  replace hs0 := hs0.mono (rdLe_frozen M) (fun _ _ h => h)
  have hH := Has.nil (frozen M)
  refine Run.seq (Run.region ?_)
  refine Run.opG wantS_none (ex_assign rfl) rfl ?_
  refine Run.opsEnd (Run.seq (Run.region ?_))
  refine Run.opG wantS_none (ex_move rfl) rfl ?_
  refine Run.opG wantS_none (ex_len' rfl hs0 lenk22) rfl ?_
  refine Run.opG wantS_none (ex_leq rfl rfl) rfl ?_
  refine Run.opG wantS_none (ex_move rfl) rfl ?_
  rcases btf ((decide ((a0.length : Int) ≤ (1024 : Int)))) with hc21 | hc21
  · have h := bif_t hc21 h
    refine Run.opG (wantS_yes' rfl rfl hc21) (ex_move rfl) rfl ?_
    obtain ⟨r23, hr23, h⟩ := bnd_some h
    refine Run.callP (wantS_yes' rfl rfl hc21) (ex_call rfl mkk64 cal64) rfl (search_areFrom_ok F a0 (16384 : Int) s0 _ _ (hH.slcF hs0) hr23) ?_
    refine Run.opG wantS_none (ex_pickT' rfl hc21 rfl rfl) rfl ?_
    exact Run.pick [9] (search_isRecord_1_ok F r23 _ _ _ hH h)
  · have h := bif_f hc21 h
    refine Run.no (wantS_not' rfl rfl hc21) rfl ?_
    refine Run.no (wantS_not' rfl rfl hc21) rfl ?_
    refine Run.opG wantS_none (ex_pickF' rfl hc21 rfl rfl) rfl ?_
    exact Run.pick [9] (search_isRecord_1_ok F false _ _ _ hH h)

theorem mkk35 : makeK Try.prog 35 = none := by kernel_rfl
theorem cal35 : callable Try.prog 35 = true := by kernel_rfl
theorem lenk57 : lenK Try.prog 57 = some .sl := by kernel_rfl
theorem els57 : elems Try.prog 57 = some (.sl 3) := by kernel_rfl
theorem agg65 : aggSize Try.prog 65 = some (some 3) := by kernel_rfl
theorem zer65 : zerosOf Try.prog 65 = some [(.int .i64 0), (.int .i64 0), .nils] := by kernel_rfl
theorem sz65 : szOf Try.prog 65 = some 3 := by kernel_rfl
theorem off65_1 : fieldOff Try.prog 65 1 = some 1 := by kernel_rfl
theorem off65_2 : fieldOff Try.prog 65 2 = some 2 := by kernel_rfl
theorem agg22 : aggSize Try.prog 22 = some none := by kernel_rfl
abbrev search_isWave_post (r : Bool) : SV → Mem → Prop := fun s _ => s = (.bool r)

def search_isWave_2 (F : Nat) (v16 : Bool) : Option (Bool) :=
  some v16

theorem search_isWave_2_ok (F : Nat) : ∀ (v16 : Bool) (Fr : Rd) (M : Mem) (r : Bool) (hH : Has Fr M []), search_isWave_2 F v16 = some r → Run Try.prog ⟨⟨105, [], none⟩, []⟩ 17 (search_isWave_post r) [(16, (.bool v16))] [itemC Try.prog 105 [1, 0] 14, codeC Try.prog 105 [1, 1]] M := by
  intro v16 Fr M r hH h
  rw [search_isWave_2] at h
  refine Run.opG wantS_none (ex_assign rfl) rfl ?_
  refine Run.opsEnd ?_
  cases h
  exact Run.ret Try.func105 rfl (res_tmp rfl res_nil) rfl

def search_isWave_1 (F : Nat) (v11 : Bool) (c22_0 : Int) (c22_1 : Int) (c22_2 : (List Int)) : Option (Bool) :=
  bif v11 then
    bnd (search_areFrom F c22_2 (256 : Int)) fun r33 =>
    search_isWave_2 F r33
  else
    search_isWave_2 F false

theorem search_isWave_1_ok (F : Nat) : ∀ (v11 : Bool) (c22_0 : Int) (c22_1 : Int) (c22_2 : (List Int)) (sc22_2 : SV) (b22 : Pos) (Fr : Rd) (M : Mem) (r : Bool) (hc22_2 : Slc Fr 1 (FlatR enc3) sc22_2 c22_2) (hH : Has Fr M [.obj b22 (.row 65 .whole [(.int .i64 c22_0), (.int .i64 c22_1), sc22_2])]), search_isWave_1 F v11 c22_0 c22_1 c22_2 = some r → Run Try.prog ⟨⟨105, [], none⟩, []⟩ 17 (search_isWave_post r) [(1, (.ptr b22 0)), (11, (.bool v11))] [itemC Try.prog 105 [1, 0] 9, codeC Try.prog 105 [1, 1]] M := by
  intro v11 c22_0 c22_1 c22_2 sc22_2 b22 Fr M r hc22_2 hH h
  rw [search_isWave_1] at h
  refine Run.opG wantS_none (ex_move rfl) rfl ?_
  rcases btf (v11) with hc31 | hc31
  · have h := bif_t hc31 h
    refine Run.opG (wantS_yes' rfl rfl hc31) (ex_fieldAddr rfl off65_2) rfl ?_
    refine Run.opG (wantS_yes' rfl rfl hc31) (ex_load1 rfl (hH.cells (i := 0) rfl 2 rfl) rdLe_rfl agg22) rfl ?_
    obtain ⟨r33, hr33, h⟩ := bnd_some h
    refine Run.callP (wantS_yes' rfl rfl hc31) (ex_call rfl mkk64 cal64) rfl (search_areFrom_ok F c22_2 (256 : Int) sc22_2 _ _ (hH.slcF hc22_2) hr33) ?_
    refine Run.opG wantS_none (ex_pickT' rfl hc31 rfl rfl) rfl ?_
    exact Run.pick [16] (search_isWave_2_ok F r33 _ _ _ (hH.pick [] rfl rfl) h)
  · have h := bif_f hc31 h
    refine Run.no (wantS_not' rfl rfl hc31) rfl ?_
    refine Run.no (wantS_not' rfl rfl hc31) rfl ?_
    refine Run.no (wantS_not' rfl rfl hc31) rfl ?_
    refine Run.opG wantS_none (ex_pickF' rfl hc31 rfl rfl) rfl ?_
    exact Run.pick [16] (search_isWave_2_ok F false _ _ _ (hH.pick [] rfl rfl) h)

def search_isWave (F : Nat) (a0 : S_api_Wave) : Option (Bool) :=
  bnd (search_isFrom F ((-64) : Int) a0.Gain (64 : Int)) fun r25 =>
  bif r25 then
    bnd (search_isFrom F (1 : Int) (a0.Samples.length : Int) (64 : Int)) fun r29 =>
    search_isWave_1 F r29 a0.At a0.Gain a0.Samples
  else
    search_isWave_1 F false a0.At a0.Gain a0.Samples

theorem search_isWave_ok (F : Nat) (a0 : S_api_Wave) (s0 : SV) (r : Bool) (M : Mem) (hs0 : Slc (rd M) 1 (FlatR enc3) s0 a0.Samples) (h : search_isWave F a0 = some r) : CallsM Try.prog 105 [(.agg [(.int .i64 a0.At), (.int .i64 a0.Gain), s0])] M (fun s M' => s = (.bool r) ∧ M' = M) := by
  refine CallsM.plain Try.func105 rfl rfl rfl (show Run _ _ _ (search_isWave_post r) _ _ _ from ?_)
  rw [search_isWave] at h
  replace hs0 := hs0.mono (rdLe_frozen M) (fun _ _ h => h)
  have hH := Has.nil (frozen M)
  refine Run.seq (Run.region ?_)
  refine Run.opX wantS_none rfl (ExG.box rfl rfl hH) ?_
  rintro _ M23 ⟨b22, rfl, (hH23 : Has (ro (frozen M)) M23 [.obj b22 (.row 65 .whole [(.int .i64 a0.At), (.int .i64 a0.Gain), s0])])⟩
  refine Run.opG wantS_none (ex_assign rfl) rfl ?_
  refine Run.opsEnd (Run.seq (Run.region ?_))
  refine Run.opG wantS_none (ex_fieldAddr rfl off65_1) rfl ?_
  refine Run.opG wantS_none (ex_load1 rfl (hH23.cells (i := 0) rfl 1 rfl) rdLe_rfl agg3) rfl ?_
  obtain ⟨r25, hr25, h⟩ := bnd_some h
  refine Run.callP wantS_none (ex_call rfl mkk36 cal36) rfl (search_isFrom_ok F ((-64) : Int) a0.Gain (64 : Int) _ _ hr25) ?_
  refine Run.opG wantS_none (ex_move rfl) rfl ?_
  rcases btf (r25) with hc27 | hc27
  · have h := bif_t hc27 h
    refine Run.opG (wantS_yes' rfl rfl hc27) (ex_fieldAddr rfl off65_2) rfl ?_
    refine Run.opG (wantS_yes' rfl rfl hc27) (ex_load1 rfl (hH23.cells (i := 0) rfl 2 rfl) rdLe_rfl agg22) rfl ?_
    refine Run.opG (wantS_yes' rfl rfl hc27) (ex_len' rfl hs0 lenk22) rfl ?_
    obtain ⟨r29, hr29, h⟩ := bnd_some h
    refine Run.callP (wantS_yes' rfl rfl hc27) (ex_call rfl mkk36 cal36) rfl (search_isFrom_ok F (1 : Int) (a0.Samples.length : Int) (64 : Int) _ _ hr29) ?_
    refine Run.opG wantS_none (ex_pickT' rfl hc27 rfl rfl) rfl ?_
    exact Run.pick [1, 11] (search_isWave_1_ok F r29 a0.At a0.Gain a0.Samples s0 b22 _ _ _ hs0 hH23 h)
  · have h := bif_f hc27 h
    refine Run.no (wantS_not' rfl rfl hc27) rfl ?_
    refine Run.no (wantS_not' rfl rfl hc27) rfl ?_
    refine Run.no (wantS_not' rfl rfl hc27) rfl ?_
    refine Run.no (wantS_not' rfl rfl hc27) rfl ?_
    refine Run.opG wantS_none (ex_pickF' rfl hc27 rfl rfl) rfl ?_
    exact Run.pick [1, 11] (search_isWave_1_ok F false a0.At a0.Gain a0.Samples s0 b22 _ _ _ hs0 hH23 h)

theorem mkk105 : makeK Try.prog 105 = none := by kernel_rfl
theorem cal105 : callable Try.prog 105 = true := by kernel_rfl
theorem off65_0 : fieldOff Try.prog 65 0 = some 0 := by kernel_rfl
abbrev search_areWaves_post (r : Bool) : SV → Mem → Prop := fun s _ => s = (.bool r)

def search_areWaves_2 (F : Nat) (hd1 : Int → Int → (List S_api_Wave) → Int → Int → Option (Bool)) (v1 : Int) (v11 : (List S_api_Wave)) (v12 : Int) (v13 : Int) (v32 : Bool) (c26_0 : Int) (c26_1 : Int) (c26_2 : (List Int)) : Option (Bool) :=
  bif v32 then
    some false
  else
    hd1 v1 c26_0 v11 v12 (w64 (v13 + (1 : Int)))

theorem search_areWaves_2_ok (F : Nat) (hd1 : Int → Int → (List S_api_Wave) → Int → Int → Option (Bool)) (hhd1 : ∀ (v1 : Int) (v5 : Int) (v11 : (List S_api_Wave)) (v12 : Int) (v13 : Int) (sv11 : SV) (Fr : Rd) (M : Mem) (r : Bool) (hv11 : Slc Fr 3 (rep65 Fr) sv11 v11) (hH : Has Fr M []), hd1 v1 v5 v11 v12 v13 = some r → Run Try.prog ⟨⟨86, [], none⟩, []⟩ 36 (search_areWaves_post r) [(1, (.int .i64 v1)), (5, (.int .i64 v5)), (11, sv11), (12, (.int .i64 v12)), (13, (.int .i64 v13))] [codeC Try.prog 86 [1, 1, 1, 0, 1, 0, 0], loopC Try.prog 86 [1, 1, 1, 0, 1, 0, 0], .inBlock 0, codeC Try.prog 86 [1, 1, 1, 1]] M) : ∀ (v1 : Int) (v11 : (List S_api_Wave)) (v12 : Int) (v13 : Int) (v32 : Bool) (c26_0 : Int) (c26_1 : Int) (c26_2 : (List Int)) (sv11 : SV) (sc26_2 : SV) (b26 : Pos) (Fr : Rd) (M : Mem) (r : Bool) (hv11 : Slc Fr 3 (rep65 Fr) sv11 v11) (hc26_2 : Slc Fr 1 (FlatR enc3) sc26_2 c26_2) (hH : Has Fr M [.obj b26 (.row 65 .whole [(.int .i64 c26_0), (.int .i64 c26_1), sc26_2])]), search_areWaves_2 F hd1 v1 v11 v12 v13 v32 c26_0 c26_1 c26_2 = some r → Run Try.prog ⟨⟨86, [], none⟩, []⟩ 36 (search_areWaves_post r) [(1, (.int .i64 v1)), (7, (.ptr b26 0)), (11, sv11), (12, (.int .i64 v12)), (13, (.int .i64 v13)), (32, (.bool v32))] [codeC Try.prog 86 [1, 1, 1, 0, 1, 0, 0, 1, 1, 0, 0, 1, 0, 1], codeC Try.prog 86 [1, 1, 1, 0, 1, 0, 0, 1, 1, 0, 0, 1, 1], .inBlock 1, codeC Try.prog 86 [1, 1, 1, 0, 1, 0, 0, 1, 1, 1], loopC Try.prog 86 [1, 1, 1, 0, 1, 0, 0], .inBlock 0, codeC Try.prog 86 [1, 1, 1, 1]] M := by
  intro v1 v11 v12 v13 v32 c26_0 c26_1 c26_2 sv11 sc26_2 b26 Fr M r hv11 hc26_2 hH h
  rw [search_areWaves_2] at h
  rcases btf (v32) with hc33 | hc33
  · have h := bif_t hc33 h
    refine Run.condT' rfl hc33 ?_
    refine Run.seq (Run.region ?_)
    refine Run.opG wantS_none (ex_assign rfl) rfl ?_
    refine Run.opsEnd ?_
    cases h
    exact Run.ret Try.func86 rfl (res_tmp rfl res_nil) rfl
  · have h := bif_f hc33 h
    refine Run.condF' rfl hc33 ?_
    refine Run.skip (Run.region ?_)
    refine Run.opG wantS_none (ex_fieldAddr rfl off65_0) rfl ?_
    refine Run.opG wantS_none (ex_load1 rfl (hH.cells (i := 0) rfl 0 rfl) rdLe_rfl agg3) rfl ?_
    refine Run.opG wantS_none (ex_assign rfl) rfl ?_
    refine Run.opsEnd (Run.inBlock (Run.region ?_))
    refine Run.opG wantS_none (ex_add rfl rfl) rfl ?_
    refine Run.opG wantS_none (ex_move rfl) rfl ?_
    refine Run.opsEnd (Run.inLoop ?_)
    exact Run.pick [1, 5, 11, 12, 13] (hhd1 v1 c26_0 v11 v12 (w64 (v13 + (1 : Int))) sv11 _ _ _ hv11 (hH.pick [] rfl rfl) h)

def search_areWaves_1 (F : Nat) : Nat → Int → Int → (List S_api_Wave) → Int → Int → Option (Bool)
  | 0, _, _, _, _, _ => none
  | N + 1, v1, v5, v11, v12, v13 =>
    bif (decide (v13 < v12)) then
      bnd (idx v11 v13) fun x24 =>
      bnd (search_isWave F x24) fun r30 =>
      bif (!r30) then
        search_areWaves_2 F (search_areWaves_1 F N) v1 v11 v12 v13 true x24.At x24.Gain x24.Samples
      else
        bnd (search_isFrom F (w64 (v5 + (1 : Int))) x24.At (w64 (v1 - (x24.Samples.length : Int)))) fun r35 =>
        search_areWaves_2 F (search_areWaves_1 F N) v1 v11 v12 v13 (!r35) x24.At x24.Gain x24.Samples
    else
      some true

theorem search_areWaves_1_ok (F : Nat) : ∀ (N : Nat), ∀ (v1 : Int) (v5 : Int) (v11 : (List S_api_Wave)) (v12 : Int) (v13 : Int) (sv11 : SV) (Fr : Rd) (M : Mem) (r : Bool) (hv11 : Slc Fr 3 (rep65 Fr) sv11 v11) (hH : Has Fr M []), search_areWaves_1 F N v1 v5 v11 v12 v13 = some r → Run Try.prog ⟨⟨86, [], none⟩, []⟩ 36 (search_areWaves_post r) [(1, (.int .i64 v1)), (5, (.int .i64 v5)), (11, sv11), (12, (.int .i64 v12)), (13, (.int .i64 v13))] [codeC Try.prog 86 [1, 1, 1, 0, 1, 0, 0], loopC Try.prog 86 [1, 1, 1, 0, 1, 0, 0], .inBlock 0, codeC Try.prog 86 [1, 1, 1, 1]] M := by
  intro N
  induction N with
  | zero =>
    intro v1 v5 v11 v12 v13 sv11 Fr M r hv11 hH h
    simp [search_areWaves_1] at h
  | succ N ih =>
    intro v1 v5 v11 v12 v13 sv11 Fr M r hv11 hH h
    rw [search_areWaves_1] at h
    refine Run.seq (Run.region ?_)
    refine Run.opG wantS_none (ex_lss rfl rfl) rfl ?_
    refine Run.opsEnd (Run.seq ?_)
    rcases btf ((decide (v13 < v12))) with hc22 | hc22
    · have h := bif_t hc22 h
      refine Run.condT' rfl hc22 ?_
      refine Run.skip (Run.seq (Run.block (Run.seq (Run.region ?_))))
      obtain ⟨x24, hx24, h⟩ := bnd_some h
      obtain ⟨p24, o24, _, hx24, hp24, ⟨q24_0, rfl, hq24_0⟩⟩ := sl_elem (P := Try.prog) (t := 57) (kk := .i64) hv11 hx24 els57
      refine Run.opG wantS_none (ex_elX rfl rfl hx24) rfl ?_
      refine Run.opG wantS_none (ex_loadA rfl (hH.ptrF hp24) rdLe_rfl agg65 rfl rfl rfl) rfl ?_
      refine Run.opX wantS_none rfl (ExG.new (v := fun b => .ptr b 0) (ex_alloc zer65) hH) ?_
      rintro _ M27 ⟨b26, rfl, (hH27 : Has Fr M27 [.obj b26 (.row 65 .whole [(.int .i64 0), (.int .i64 0), .nils])])⟩
      refine Run.opX wantS_none rfl (ExG.storeC (c' := [(.int .i64 x24.At), (.int .i64 x24.Gain), q24_0]) rfl rfl rfl hH27 (i := 0) rfl sz65 rfl rfl rfl (ones_cons rfl (ones_cons rfl (ones_cons (slc_one hq24_0) ones_nil))) rfl) ?_
      rintro _ M28 ⟨rfl, (hH28 : Has Fr M28 [.obj b26 (.row 65 .whole [(.int .i64 x24.At), (.int .i64 x24.Gain), q24_0])])⟩
      refine Run.opsEnd (Run.seq (Run.seq (Run.region ?_)))
      refine Run.opG wantS_none (ex_loadA rfl (hH28.cells (i := 0) rfl 0 rfl) rdLe_rfl agg65 rfl rfl rfl) rfl ?_
      obtain ⟨r30, hr30, h⟩ := bnd_some h
      refine Run.callP wantS_none (ex_call rfl mkk105 cal105) rfl (search_isWave_ok F x24 q24_0 _ _ (hH28.slcF hq24_0) hr30) ?_
      refine Run.opG wantS_none (ex_not rfl) rfl ?_
      refine Run.opG wantS_none (ex_move rfl) rfl ?_
      rcases btf ((!r30)) with hc32 | hc32
      · have h := bif_t hc32 h
        refine Run.no (wantS_not' rfl rfl hc32) rfl ?_
        refine Run.no (wantS_not' rfl rfl hc32) rfl ?_
        refine Run.no (wantS_not' rfl rfl hc32) rfl ?_
        refine Run.no (wantS_not' rfl rfl hc32) rfl ?_
        refine Run.no (wantS_not' rfl rfl hc32) rfl ?_
        refine Run.no (wantS_not' rfl rfl hc32) rfl ?_
        refine Run.no (wantS_not' rfl rfl hc32) rfl ?_
        refine Run.no (wantS_not' rfl rfl hc32) rfl ?_
        refine Run.no (wantS_not' rfl rfl hc32) rfl ?_
        refine Run.no (wantS_not' rfl rfl hc32) rfl ?_
        refine Run.no (wantS_not' rfl rfl hc32) rfl ?_
        refine Run.opG wantS_none (ex_pickT' rfl hc32 rfl rfl) rfl ?_
        refine Run.opsEnd ?_
        exact Run.pick [1, 7, 11, 12, 13, 32] (search_areWaves_2_ok F (search_areWaves_1 F N) ih v1 v11 v12 v13 true x24.At x24.Gain x24.Samples sv11 q24_0 b26 _ _ _ hv11 hq24_0 hH28 h)
      · have h := bif_f hc32 h
        refine Run.opG (wantS_yes' rfl rfl hc32) (ex_move rfl) rfl ?_
        refine Run.opG (wantS_yes' rfl rfl hc32) (ex_add rfl rfl) rfl ?_
        refine Run.opG (wantS_yes' rfl rfl hc32) (ex_fieldAddr rfl off65_0) rfl ?_
        refine Run.opG (wantS_yes' rfl rfl hc32) (ex_load1 rfl (hH28.cells (i := 0) rfl 0 rfl) rdLe_rfl agg3) rfl ?_
        refine Run.opG (wantS_yes' rfl rfl hc32) (ex_move rfl) rfl ?_
        refine Run.opG (wantS_yes' rfl rfl hc32) (ex_fieldAddr rfl off65_2) rfl ?_
        refine Run.opG (wantS_yes' rfl rfl hc32) (ex_load1 rfl (hH28.cells (i := 0) rfl 2 rfl) rdLe_rfl agg22) rfl ?_
        refine Run.opG (wantS_yes' rfl rfl hc32) (ex_len' rfl hq24_0 lenk22) rfl ?_
        refine Run.opG (wantS_yes' rfl rfl hc32) (ex_sub rfl rfl) rfl ?_
        obtain ⟨r35, hr35, h⟩ := bnd_some h
        refine Run.callP (wantS_yes' rfl rfl hc32) (ex_call rfl mkk36 cal36) rfl (search_isFrom_ok F (w64 (v5 + (1 : Int))) x24.At (w64 (v1 - (x24.Samples.length : Int))) _ _ hr35) ?_
        refine Run.opG (wantS_yes' rfl rfl hc32) (ex_not rfl) rfl ?_
        refine Run.opG wantS_none (ex_pickF' rfl hc32 rfl rfl) rfl ?_
        refine Run.opsEnd ?_
        exact Run.pick [1, 7, 11, 12, 13, 32] (search_areWaves_2_ok F (search_areWaves_1 F N) ih v1 v11 v12 v13 (!r35) x24.At x24.Gain x24.Samples sv11 q24_0 b26 _ _ _ hv11 hq24_0 hH28 h)
    · have h := bif_f hc22 h
      refine Run.condF' rfl hc22 ?_
      refine Run.exit rfl (Run.seq (Run.region ?_))
      refine Run.opG wantS_none (ex_assign rfl) rfl ?_
      refine Run.opsEnd ?_
      cases h
      exact Run.ret Try.func86 rfl (res_tmp rfl res_nil) rfl

def search_areWaves (F : Nat) (a0 : (List S_api_Wave)) (a1 : Int) : Option (Bool) :=
  bif (decide ((64 : Int) < (a0.length : Int))) then
    some false
  else
    search_areWaves_1 F F a1 ((-1) : Int) a0 (a0.length : Int) (0 : Int)

theorem search_areWaves_ok (F : Nat) (a0 : (List S_api_Wave)) (a1 : Int) (s0 : SV) (r : Bool) (M : Mem) (hs0 : Slc (rd M) 3 (rep65 (rd M)) s0 a0) (h : search_areWaves F a0 a1 = some r) : CallsM Try.prog 86 [s0, (.int .i64 a1)] M (fun s M' => s = (.bool r) ∧ M' = M) := by
  refine CallsM.plain Try.func86 rfl rfl rfl (show Run _ _ _ (search_areWaves_post r) _ _ _ from ?_)
  rw [search_areWaves] at h
  replace hs0 := hs0.mono (rdLe_frozen M) (fun _ _ => rep65_mo (rdLe_frozen M))
  have hH := Has.nil (frozen M)
  refine Run.seq (Run.region ?_)
  refine Run.opG wantS_none (ex_assign rfl) rfl ?_
  refine Run.opsEnd (Run.seq (Run.seq (Run.region ?_)))
  refine Run.opG wantS_none (ex_move rfl) rfl ?_
  refine Run.opG wantS_none (ex_len' rfl hs0 lenk57) rfl ?_
  refine Run.opG wantS_none (ex_gtr rfl rfl) rfl ?_
  refine Run.opsEnd ?_
  rcases btf ((decide ((64 : Int) < (a0.length : Int)))) with hc21 | hc21
  · have h := bif_t hc21 h
    refine Run.condT' rfl hc21 ?_
    refine Run.seq (Run.region ?_)
    refine Run.opG wantS_none (ex_assign rfl) rfl ?_
    refine Run.opsEnd ?_
    cases h
    exact Run.ret Try.func86 rfl (res_tmp rfl res_nil) rfl
  · have h := bif_f hc21 h
    refine Run.condF' rfl hc21 ?_
    refine Run.skip (Run.seq (Run.region ?_))
    refine Run.opG wantS_none (ex_assign rfl) rfl ?_
    refine Run.opsEnd (Run.seq (Run.seq (Run.region ?_)))
    refine Run.opG wantS_none (ex_move rfl) rfl ?_
    refine Run.opG wantS_none (ex_len' rfl hs0 lenk57) rfl ?_
    refine Run.opG wantS_none (ex_move rfl) rfl ?_
    refine Run.opsEnd (Run.block (Run.loop ?_))
    exact Run.pick [1, 5, 11, 12, 13] (search_areWaves_1_ok F F a1 ((-1) : Int) a0 (a0.length : Int) (0 : Int) s0 _ _ _ hs0 hH h)

theorem mkk86 : makeK Try.prog 86 = none := by kernel_rfl
theorem cal86 : callable Try.prog 86 = true := by kernel_rfl
abbrev search_checkWaves_post (r : Int) : SV → Mem → Prop := fun s _ => s = (.int .i64 r)

def search_checkWaves (F : Nat) (a0 : (List Int)) (a1 : (List S_api_Wave)) : Option (Int) :=
  bnd (search_isRecord F a0) fun r22 =>
  bif (!r22) then
    some (82 : Int)
  else
    bnd (search_areWaves F a1 (a0.length : Int)) fun r26 =>
    bif (!r26) then
      some (83 : Int)
    else
      some (0 : Int)

theorem search_checkWaves_ok (F : Nat) (a0 : (List Int)) (a1 : (List S_api_Wave)) (s0 s1 : SV) (r : Int) (M : Mem) (hs0 : Slc (rd M) 1 (FlatR enc3) s0 a0) (hs1 : Slc (rd M) 3 (rep65 (rd M)) s1 a1) (h : search_checkWaves F a0 a1 = some r) : CallsM Try.prog 52 [s0, s1] M (fun s M' => s = (.int .i64 r) ∧ M' = M) := by
  refine CallsM.plain Try.func52 rfl rfl rfl (show Run _ _ _ (search_checkWaves_post r) _ _ _ from ?_)
  rw [search_checkWaves] at h
  replace hs0 := hs0.mono (rdLe_frozen M) (fun _ _ h => h)
  replace hs1 := hs1.mono (rdLe_frozen M) (fun _ _ => rep65_mo (rdLe_frozen M))
  have hH := Has.nil (frozen M)
  refine Run.seq (Run.region ?_)
  refine Run.opG wantS_none (ex_assign rfl) rfl ?_
  refine Run.opsEnd (Run.seq (Run.block (Run.seq (Run.region ?_))))
  refine Run.opG wantS_none (ex_move rfl) rfl ?_
  obtain ⟨r22, hr22, h⟩ := bnd_some h
  refine Run.callP wantS_none (ex_call rfl mkk35 cal35) rfl (search_isRecord_ok F a0 s0 _ _ (hH.slcF hs0) hr22) ?_
  refine Run.opG wantS_none (ex_not rfl) rfl ?_
  refine Run.opG wantS_none (ex_assign rfl) rfl ?_
  refine Run.opsEnd ?_
  rcases btf ((!r22)) with hc24 | hc24
  · have h := bif_t hc24 h
    refine Run.condT' rfl hc24 ?_
    refine Run.seq (Run.region ?_)
    refine Run.opG wantS_none (ex_assign rfl) rfl ?_
    refine Run.opsEnd ?_
    cases h
    exact Run.ret Try.func52 rfl (res_tmp rfl res_nil) rfl
  · have h := bif_f hc24 h
    refine Run.condF' rfl hc24 ?_
    refine Run.seq (Run.region ?_)
    refine Run.opG wantS_none (ex_move rfl) rfl ?_
    refine Run.opG wantS_none (ex_move rfl) rfl ?_
    refine Run.opG wantS_none (ex_len' rfl hs0 lenk22) rfl ?_
    obtain ⟨r26, hr26, h⟩ := bnd_some h
    refine Run.callP wantS_none (ex_call rfl mkk86 cal86) rfl (search_areWaves_ok F a1 (a0.length : Int) s1 _ _ ((hs1).mono hH.le (fun _ _ => rep65_mo hH.le)) hr26) ?_
    refine Run.opG wantS_none (ex_not rfl) rfl ?_
    refine Run.opG wantS_none (ex_assign rfl) rfl ?_
    refine Run.opsEnd ?_
    rcases btf ((!r26)) with hc28 | hc28
    · have h := bif_t hc28 h
      refine Run.condT' rfl hc28 ?_
      refine Run.seq (Run.region ?_)
      refine Run.opG wantS_none (ex_assign rfl) rfl ?_
      refine Run.opsEnd ?_
      cases h
      exact Run.ret Try.func52 rfl (res_tmp rfl res_nil) rfl
    · have h := bif_f hc28 h
      refine Run.condF' rfl hc28 ?_
      refine Run.skip (Run.inBlock (Run.seq (Run.region ?_)))
      refine Run.opG wantS_none (ex_assign rfl) rfl ?_
      refine Run.opsEnd ?_
      cases h
      exact Run.ret Try.func52 rfl (res_tmp rfl res_nil) rfl

theorem mkk52 : makeK Try.prog 52 = none := by kernel_rfl
theorem cal52 : callable Try.prog 52 = true := by kernel_rfl
theorem eqk22 : eqK Try.prog 22 = some .slice := by kernel_rfl
theorem elt22 : sliceElt Try.prog 22 = some (⟨1, 8, [(.int .i64 0)], 3⟩ : Elt) := by kernel_rfl
theorem appt22_22 : appT Try.prog 22 22 = some (⟨1, 8, [(.int .i64 0)], 3⟩ : Elt) := by kernel_rfl
abbrev slices_Clone_post (r : (List Int)) : SV → Mem → Prop := fun s Me => ∃ q1, s = q1 ∧ Has (fun _ => none) Me [.vec 3 1 r.length q1 (r.flatMap enc3)]

def slices_Clone (F : Nat) (a0 : (List Int)) : Option ((List Int)) :=
  bnd (apd 8 ([] : List Int) a0) fun l29 =>
  some l29

theorem slices_Clone_ok (F : Nat) (a0 : (List Int)) (s0 : SV) (r : (List Int)) (M : Mem) (hs0 : Slc (rd M) 1 (FlatR enc3) s0 a0) (h : slices_Clone F a0 = some r) : CallsM Try.prog 87 [s0] M (fun s M' => ∃ q1, s = q1 ∧ New M M' [.vec 3 1 r.length q1 (r.flatMap enc3)]) := by
  refine CallsM.fresh (Q := slices_Clone_post r) Try.func87 rfl rfl ?_ (by rintro s Me ⟨q1, rfl, hx⟩ ha hw; exact ⟨_, rfl, New.of rfl hx ha hw⟩)
  rw [slices_Clone] at h
  replace hs0 := hs0.mono (rdLe_frozen M) (fun _ _ h => h)
  have hH := Has.nil (frozen M)
  refine Run.seq (Run.region ?_)
  refine Run.opG wantS_none (ex_assign rfl) rfl ?_
  refine Run.opsEnd (Run.seq (Run.seq (Run.region ?_)))
  refine Run.opG wantS_none (ex_move rfl) rfl ?_
  rcases slc_or hs0 with ⟨rfl, rfl⟩ | hn21
  · have h : (
      some ([] : List Int)
      ) = some r := h
    refine Run.opG wantS_none (ex_nilT rfl rfl eqk22) rfl ?_
    refine Run.opsEnd ?_
    refine Run.condT' rfl rfl ?_
    refine Run.seq (Run.region ?_)
    refine Run.opG wantS_none (ex_assign rfl) rfl ?_
    refine Run.opsEnd ?_
    have hH23 : Has (ro (frozen M)) (frozen M) [.vec 3 1 ([] : List Int).length .nils (([] : List Int).flatMap enc3)] := hH.nils 3 1
    cases h
    exact Run.ret Try.func87 rfl (res_tmp rfl res_nil) ⟨_, rfl, (hH23.pick [0] rfl rfl).upF (none_le _)⟩
  · refine Run.opG wantS_none (ex_nilF rfl hn21 rfl eqk22) rfl ?_
    refine Run.opsEnd ?_
    refine Run.condF' rfl rfl ?_
    refine Run.skip (Run.seq (Run.region ?_))
    refine Run.opX wantS_none rfl (ExG.built (enc := enc3) (l := ([] : List Int)) (z := 1) rfl elt22 rfl rfl rfl enc3_len hH) ?_
    rintro s25 M26 (hH26 : Has (ro (frozen M)) M26 [.vec 3 1 ([] : List Int).length s25 (([] : List Int).flatMap enc3)])
    refine Run.opG wantS_none (ex_move rfl) rfl ?_
    obtain ⟨l29, hl29, h⟩ := bnd_some h
    refine Run.opX wantS_none rfl (ExG.append rfl rfl hH26 (i := 0) rfl enc3_len rfl enc3_ones appt22_22 rfl (len_slc hs0) (first_slc hs0 (rdLe_roF hH26) enc3_len) hl29) ?_
    rintro s29 M31 (hH31 : Has (ro (frozen M)) M31 [.vec 3 1 l29.length s29 (l29.flatMap enc3)])
    refine Run.opG wantS_none (ex_assign rfl) rfl ?_
    refine Run.opsEnd ?_
    cases h
    exact Run.ret Try.func87 rfl (res_tmp rfl res_nil) ⟨_, rfl, (hH31.pick [0] rfl rfl).upF (none_le _)⟩

theorem mkk87 : makeK Try.prog 87 = none := by kernel_rfl
theorem cal87 : callable Try.prog 87 = true := by kernel_rfl
theorem sz3 : szOf Try.prog 3 = some 1 := by kernel_rfl
theorem plan54_1_1_0_1_0_0_1_1_0_0_1_1_0_0_1_1_0_0_1 : planOf Try.prog (opsC (atC Try.prog 54 [1, 1, 0, 1, 0, 0, 1, 1, 0, 0, 1, 1, 0, 0, 1, 1, 0, 0, 1])) = some [.fl 0, .fl 1, .fl 2, .fl 3, .fl 4, .fl 5, .fl 6, .fl 7, .fl 8, .fl 9, .fl 10, .fl 11, .fl 12, .fl 13, .fl 14, .an 15 [], .sync] := by kernel_rfl
abbrev search_added_post (r : (List Int)) : SV → Mem → Prop := fun s Me => ∃ q1, s = q1 ∧ Has (fun _ => none) Me [.vec 3 1 r.length q1 (r.flatMap enc3)]

def search_added_2 (F : Nat) (hd1 : Int → (List S_api_Wave) → Int → Int → (List Int) → Option ((List Int))) : Nat → Int → (List S_api_Wave) → Int → Int → (List Int) → Int → Int → Int → Int → (List Int) → (List Int) → Option ((List Int))
  | 0, _, _, _, _, _, _, _, _, _, _, _ => none
  | N + 1, v2, v14, v15, v16, v21, v22, v23, c30_0, c30_1, c30_2, l24 =>
    bif (decide (v23 < v22)) then
      bnd (idx v21 v23) fun x35 =>
      bnd (idx l24 (w64 (c30_0 + v23))) fun x36 =>
      bnd (inn l24 (w64 (c30_0 + v23))) fun o37 =>
      bnd (upd l24 o37 (w64 (x36 + (w64 ((w64 (v2 * c30_1)) * x35))))) fun l38 =>
      (search_added_2 F hd1 N) v2 v14 v15 v16 v21 v22 (w64 (v23 + (1 : Int))) c30_0 c30_1 c30_2 l38
    else
      hd1 v2 v14 v15 (w64 (v16 + (1 : Int))) l24

theorem search_added_2_ok (F : Nat) (hd1 : Int → (List S_api_Wave) → Int → Int → (List Int) → Option ((List Int))) (hhd1 : ∀ (v2 : Int) (v14 : (List S_api_Wave)) (v15 : Int) (v16 : Int) (l24 : (List Int)) (sv14 : SV) (s24 : SV) (Fr : Rd) (M : Mem) (r : (List Int)) (hv14 : Slc Fr 3 (rep65 Fr) sv14 v14) (hH : Has Fr M [.vec 3 1 l24.length s24 (l24.flatMap enc3)]), hd1 v2 v14 v15 v16 l24 = some r → Run Try.prog ⟨⟨54, [], none⟩, []⟩ 46 (search_added_post r) [(2, (.int .i64 v2)), (7, s24), (14, sv14), (15, (.int .i64 v15)), (16, (.int .i64 v16))] [codeC Try.prog 54 [1, 1, 0, 1, 0, 0], loopC Try.prog 54 [1, 1, 0, 1, 0, 0], .inBlock 0, codeC Try.prog 54 [1, 1, 1]] M) : ∀ (N : Nat), ∀ (v2 : Int) (v14 : (List S_api_Wave)) (v15 : Int) (v16 : Int) (v21 : (List Int)) (v22 : Int) (v23 : Int) (c30_0 : Int) (c30_1 : Int) (c30_2 : (List Int)) (l24 : (List Int)) (sv14 : SV) (sv21 : SV) (sc30_2 : SV) (s24 : SV) (b30 : Pos) (Fr : Rd) (M : Mem) (r : (List Int)) (hv14 : Slc Fr 3 (rep65 Fr) sv14 v14) (hv21 : Slc Fr 1 (FlatR enc3) sv21 v21) (hc30_2 : Slc Fr 1 (FlatR enc3) sc30_2 c30_2) (hH : Has Fr M [.vec 3 1 l24.length s24 (l24.flatMap enc3), .obj b30 (.row 65 .whole [(.int .i64 c30_0), (.int .i64 c30_1), sc30_2])]), search_added_2 F hd1 N v2 v14 v15 v16 v21 v22 v23 c30_0 c30_1 c30_2 l24 = some r → Run Try.prog ⟨⟨54, [], none⟩, []⟩ 46 (search_added_post r) [(2, (.int .i64 v2)), (7, s24), (9, (.ptr b30 0)), (14, sv14), (15, (.int .i64 v15)), (16, (.int .i64 v16)), (21, sv21), (22, (.int .i64 v22)), (23, (.int .i64 v23))] [codeC Try.prog 54 [1, 1, 0, 1, 0, 0, 1, 1, 0, 0, 1, 1, 0, 0], loopC Try.prog 54 [1, 1, 0, 1, 0, 0, 1, 1, 0, 0, 1, 1, 0, 0], .inBlock 2, .inBlock 1, codeC Try.prog 54 [1, 1, 0, 1, 0, 0, 1, 1, 1], loopC Try.prog 54 [1, 1, 0, 1, 0, 0], .inBlock 0, codeC Try.prog 54 [1, 1, 1]] M := by
  intro N
  induction N with
  | zero =>
    intro v2 v14 v15 v16 v21 v22 v23 c30_0 c30_1 c30_2 l24 sv14 sv21 sc30_2 s24 b30 Fr M r hv14 hv21 hc30_2 hH h
    simp [search_added_2] at h
  | succ N ih =>
    intro v2 v14 v15 v16 v21 v22 v23 c30_0 c30_1 c30_2 l24 sv14 sv21 sc30_2 s24 b30 Fr M r hv14 hv21 hc30_2 hH h
    rw [search_added_2] at h
    refine Run.seq (Run.region ?_)
    refine Run.opG wantS_none (ex_lss rfl rfl) rfl ?_
    refine Run.opsEnd (Run.seq ?_)
    rcases btf ((decide (v23 < v22))) with hc33 | hc33
    · have h := bif_t hc33 h
      refine Run.condT' rfl hc33 ?_
      refine Run.skip (Run.seq (Run.block (Run.seq (Run.region ?_))))
      refine Run.opG wantS_none (ex_move rfl) rfl ?_
      obtain ⟨x35, hx35, h⟩ := bnd_some h
      obtain ⟨p35, o35, _, hx35, hp35, rfl⟩ := sl_elem (P := Try.prog) (t := 22) (kk := .i64) hv21 hx35 els22
      refine Run.opG wantS_none (ex_elX rfl rfl hx35) rfl ?_
      refine Run.opG wantS_none (ex_load1 rfl (hH.ptrF hp35) rdLe_rfl agg3) rfl ?_
      refine Run.opG wantS_none (ex_assign rfl) rfl ?_
      refine Run.opG wantS_none (ex_assign rfl) rfl ?_
      refine Run.opsEnd ?_
      refine Run.drawG plan54_1_1_0_1_0_0_1_1_0_0_1_1_0_0_1_1_0_0_1 ?_
      refine DrawG.fl rfl (ev_ex wantS_none (ex_move rfl)) rfl ?_
      refine DrawG.fl rfl (ev_ex wantS_none (ex_fieldAddr rfl off65_0)) rfl ?_
      refine DrawG.fl rfl (ev_ex wantS_none (ex_load1 rfl (hH.cells (i := 1) rfl 0 rfl) rdLe_rfl agg3)) rfl ?_
      refine DrawG.fl rfl (ev_ex wantS_none (ex_move rfl)) rfl ?_
      refine DrawG.fl rfl (ev_ex wantS_none (ex_add rfl rfl)) rfl ?_
      obtain ⟨x36, hx36, h⟩ := bnd_some h
      obtain ⟨p36, o36, hb36, hx36, he36⟩ := vec_elem (P := Try.prog) (t := 22) (kk := .i64) hH (i := 0) rfl hx36 els22
      refine DrawG.fl rfl (ev_ex wantS_none (ex_elX rfl rfl hx36)) rfl ?_
      refine DrawG.fl rfl (ev_ex wantS_none (ex_load1 rfl (hH.at (enc := enc3) (a := x36) (i := 0) rfl hb36 he36 enc3_len) rdLe_rfl agg3)) rfl ?_
      refine DrawG.fl rfl (ev_ex wantS_none (ex_move rfl)) rfl ?_
      refine DrawG.fl rfl (ev_ex wantS_none (ex_fieldAddr rfl off65_1)) rfl ?_
      refine DrawG.fl rfl (ev_ex wantS_none (ex_load1 rfl (hH.cells (i := 1) rfl 1 rfl) rdLe_rfl agg3)) rfl ?_
      refine DrawG.fl rfl (ev_ex wantS_none (ex_mul rfl rfl)) rfl ?_
      refine DrawG.fl rfl (ev_ex wantS_none (ex_move rfl)) rfl ?_
      refine DrawG.fl rfl (ev_ex wantS_none (ex_mul rfl rfl)) rfl ?_
      refine DrawG.fl rfl (ev_ex wantS_none (ex_add rfl rfl)) rfl ?_
      obtain ⟨o37, ho37, h⟩ := bnd_some h
      obtain ⟨p37, hb37, hx37⟩ := vec_place (P := Try.prog) (t := 22) (kk := .i64) hH (i := 0) rfl ho37 els22
      refine DrawG.fl rfl (ev_ex wantS_none (ex_elX rfl rfl hx37)) rfl ?_
      obtain ⟨l38, hl38, h⟩ := bnd_some h
      refine DrawG.opX rfl wantS_none rfl (ExG.storeEl rfl rfl hH (i := 0) rfl hb37 hl38 sz3 rfl enc3_len enc3_ones) ?_
      rintro _ M39 ⟨rfl, (hH39 : Has Fr M39 [.vec 3 1 l38.length s24 (l38.flatMap enc3), .obj b30 (.row 65 .whole [(.int .i64 c30_0), (.int .i64 c30_1), sc30_2])])⟩
      refine ⟨st_nil, ?_⟩
      refine DrawG.sync ?_
      refine DrawG.nil ?_
      refine Run.inBlock (Run.region ?_)
      refine Run.opG wantS_none (ex_add rfl rfl) rfl ?_
      refine Run.opG wantS_none (ex_move rfl) rfl ?_
      refine Run.opsEnd (Run.inLoop ?_)
      exact Run.pick [2, 7, 9, 14, 15, 16, 21, 22, 23] (ih v2 v14 v15 v16 v21 v22 (w64 (v23 + (1 : Int))) c30_0 c30_1 c30_2 l38 sv14 sv21 sc30_2 s24 b30 _ _ _ hv14 hv21 hc30_2 hH39 h)
    · have h := bif_f hc33 h
      refine Run.condF' rfl hc33 ?_
      refine Run.exit rfl (Run.inBlock (Run.region ?_))
      refine Run.opG wantS_none (ex_add rfl rfl) rfl ?_
      refine Run.opG wantS_none (ex_move rfl) rfl ?_
      refine Run.opsEnd (Run.inLoop ?_)
      exact Run.pick [2, 7, 14, 15, 16] (hhd1 v2 v14 v15 (w64 (v16 + (1 : Int))) l24 sv14 s24 _ _ _ hv14 (hH.pick [0] rfl rfl) h)

def search_added_1 (F : Nat) : Nat → Int → (List S_api_Wave) → Int → Int → (List Int) → Option ((List Int))
  | 0, _, _, _, _, _ => none
  | N + 1, v2, v14, v15, v16, l24 =>
    bif (decide (v16 < v15)) then
      bnd (idx v14 v16) fun x28 =>
      search_added_2 F (search_added_1 F N) F v2 v14 v15 v16 x28.Samples (x28.Samples.length : Int) (0 : Int) x28.At x28.Gain x28.Samples l24
    else
      some l24

theorem search_added_1_ok (F : Nat) : ∀ (N : Nat), ∀ (v2 : Int) (v14 : (List S_api_Wave)) (v15 : Int) (v16 : Int) (l24 : (List Int)) (sv14 : SV) (s24 : SV) (Fr : Rd) (M : Mem) (r : (List Int)) (hv14 : Slc Fr 3 (rep65 Fr) sv14 v14) (hH : Has Fr M [.vec 3 1 l24.length s24 (l24.flatMap enc3)]), search_added_1 F N v2 v14 v15 v16 l24 = some r → Run Try.prog ⟨⟨54, [], none⟩, []⟩ 46 (search_added_post r) [(2, (.int .i64 v2)), (7, s24), (14, sv14), (15, (.int .i64 v15)), (16, (.int .i64 v16))] [codeC Try.prog 54 [1, 1, 0, 1, 0, 0], loopC Try.prog 54 [1, 1, 0, 1, 0, 0], .inBlock 0, codeC Try.prog 54 [1, 1, 1]] M := by
  intro N
  induction N with
  | zero =>
    intro v2 v14 v15 v16 l24 sv14 s24 Fr M r hv14 hH h
    simp [search_added_1] at h
  | succ N ih =>
    intro v2 v14 v15 v16 l24 sv14 s24 Fr M r hv14 hH h
    rw [search_added_1] at h
    refine Run.seq (Run.region ?_)
    refine Run.opG wantS_none (ex_lss rfl rfl) rfl ?_
    refine Run.opsEnd (Run.seq ?_)
    rcases btf ((decide (v16 < v15))) with hc26 | hc26
    · have h := bif_t hc26 h
      refine Run.condT' rfl hc26 ?_
      refine Run.skip (Run.seq (Run.block (Run.seq (Run.region ?_))))
      obtain ⟨x28, hx28, h⟩ := bnd_some h
      obtain ⟨p28, o28, _, hx28, hp28, ⟨q28_0, rfl, hq28_0⟩⟩ := sl_elem (P := Try.prog) (t := 57) (kk := .i64) hv14 hx28 els57
      refine Run.opG wantS_none (ex_elX rfl rfl hx28) rfl ?_
      refine Run.opG wantS_none (ex_loadA rfl (hH.ptrF hp28) rdLe_rfl agg65 rfl rfl rfl) rfl ?_
      refine Run.opX wantS_none rfl (ExG.new (v := fun b => .ptr b 0) (ex_alloc zer65) hH) ?_
      rintro _ M31 ⟨b30, rfl, (hH31 : Has Fr M31 [.obj b30 (.row 65 .whole [(.int .i64 0), (.int .i64 0), .nils]), .vec 3 1 l24.length s24 (l24.flatMap enc3)])⟩
      refine Run.opX wantS_none rfl (ExG.storeC (c' := [(.int .i64 x28.At), (.int .i64 x28.Gain), q28_0]) rfl rfl rfl hH31 (i := 0) rfl sz65 rfl rfl rfl (ones_cons rfl (ones_cons rfl (ones_cons (slc_one hq28_0) ones_nil))) rfl) ?_
      rintro _ M32 ⟨rfl, (hH32 : Has Fr M32 [.obj b30 (.row 65 .whole [(.int .i64 x28.At), (.int .i64 x28.Gain), q28_0]), .vec 3 1 l24.length s24 (l24.flatMap enc3)])⟩
      refine Run.opsEnd (Run.seq (Run.region ?_))
      refine Run.opG wantS_none (ex_fieldAddr rfl off65_2) rfl ?_
      refine Run.opG wantS_none (ex_load1 rfl (hH32.cells (i := 0) rfl 2 rfl) rdLe_rfl agg22) rfl ?_
      refine Run.opG wantS_none (ex_len' rfl hq28_0 lenk22) rfl ?_
      refine Run.opG wantS_none (ex_move rfl) rfl ?_
      refine Run.opsEnd (Run.block (Run.loop ?_))
      exact Run.pick [2, 7, 9, 14, 15, 16, 21, 22, 23] (search_added_2_ok F (search_added_1 F N) ih F v2 v14 v15 v16 x28.Samples (x28.Samples.length : Int) (0 : Int) x28.At x28.Gain x28.Samples l24 sv14 q28_0 q28_0 s24 b30 _ _ _ hv14 hq28_0 hq28_0 (hH32.pick [1, 0] rfl rfl) h)
    · have h := bif_f hc26 h
      refine Run.condF' rfl hc26 ?_
      refine Run.exit rfl (Run.seq (Run.region ?_))
      refine Run.opG wantS_none (ex_move rfl) rfl ?_
      refine Run.opG wantS_none (ex_assign rfl) rfl ?_
      refine Run.opsEnd ?_
      cases h
      exact Run.ret Try.func54 rfl (res_tmp rfl res_nil) ⟨_, rfl, (hH.pick [0] rfl rfl).upF (none_le _)⟩

def search_added (F : Nat) (a0 : (List Int)) (a1 : (List S_api_Wave)) (a2 : Int) : Option ((List Int)) :=
  bnd (slices_Clone F a0) fun r23 =>
  search_added_1 F F a2 a1 (a1.length : Int) (0 : Int) r23

theorem search_added_ok (F : Nat) (a0 : (List Int)) (a1 : (List S_api_Wave)) (a2 : Int) (s0 s1 : SV) (r : (List Int)) (M : Mem) (hs0 : Slc (rd M) 1 (FlatR enc3) s0 a0) (hs1 : Slc (rd M) 3 (rep65 (rd M)) s1 a1) (h : search_added F a0 a1 a2 = some r) : CallsM Try.prog 54 [s0, s1, (.int .i64 a2)] M (fun s M' => ∃ q1, s = q1 ∧ New M M' [.vec 3 1 r.length q1 (r.flatMap enc3)]) := by
  refine CallsM.fresh (Q := search_added_post r) Try.func54 rfl rfl ?_ (by rintro s Me ⟨q1, rfl, hx⟩ ha hw; exact ⟨_, rfl, New.of rfl hx ha hw⟩)
  rw [search_added] at h
  replace hs0 := hs0.mono (rdLe_frozen M) (fun _ _ h => h)
  replace hs1 := hs1.mono (rdLe_frozen M) (fun _ _ => rep65_mo (rdLe_frozen M))
  have hH := Has.nil (frozen M)
  refine Run.seq (Run.region ?_)
  refine Run.opG wantS_none (ex_assign rfl) rfl ?_
  refine Run.opsEnd (Run.seq (Run.region ?_))
  refine Run.opG wantS_none (ex_move rfl) rfl ?_
  obtain ⟨r23, hr23, h⟩ := bnd_some h
  refine Run.callX wantS_none (ex_call rfl mkk87 cal87) rfl (slices_Clone_ok F a0 s0 _ _ (hH.slcF hs0) hr23) ?_
  rintro s23_0 M25 ⟨_, rfl, hN23⟩
  have hH25 : Has (ro (frozen M)) M25 [.vec 3 1 r23.length s23_0 (r23.flatMap enc3)] := hN23.1 _ _ hH
  refine Run.opG wantS_none (ex_assign rfl) rfl ?_
  refine Run.opsEnd (Run.seq (Run.seq (Run.region ?_)))
  refine Run.opG wantS_none (ex_move rfl) rfl ?_
  refine Run.opG wantS_none (ex_len' rfl hs1 lenk57) rfl ?_
  refine Run.opG wantS_none (ex_move rfl) rfl ?_
  refine Run.opsEnd (Run.block (Run.loop ?_))
  exact Run.pick [2, 7, 14, 15, 16] (search_added_1_ok F F a2 a1 (a1.length : Int) (0 : Int) r23 s1 s23_0 _ _ _ hs1 hH25 h)

theorem mkk54 : makeK Try.prog 54 = none := by kernel_rfl
theorem cal54 : callable Try.prog 54 = true := by kernel_rfl
theorem mkk53 : makeK Try.prog 53 = none := by kernel_rfl
theorem cal53 : callable Try.prog 53 = true := by kernel_rfl
abbrev search_Inject_post (r : (List Int) × Int) : SV → Mem → Prop := fun s Me => ∃ q1, s = (.tuple [q1, (.int .i64 r.2)]) ∧ Has (fun _ => none) Me [.vec 3 1 r.1.length q1 (r.1.flatMap enc3)]

def search_Inject (F : Nat) (a0 : (List Int)) (a1 : (List S_api_Wave)) : Option ((List Int) × Int) :=
  bnd (search_checkWaves F a0 a1) fun r22 =>
  bif (!(r22 == (0 : Int))) then
    some (([] : List Int), r22)
  else
    bnd (search_added F a0 a1 (1 : Int)) fun r29 =>
    bnd (search_isRecord F r29) fun r33 =>
    bif (!r33) then
      some (([] : List Int), (8 : Int))
    else
      some (r29, (0 : Int))

theorem search_Inject_ok (F : Nat) (a0 : (List Int)) (a1 : (List S_api_Wave)) (s0 s1 : SV) (r : (List Int) × Int) (M : Mem) (hs0 : Slc (rd M) 1 (FlatR enc3) s0 a0) (hs1 : Slc (rd M) 3 (rep65 (rd M)) s1 a1) (h : search_Inject F a0 a1 = some r) : CallsM Try.prog 22 [s0, s1] M (fun s M' => ∃ q1, s = (.tuple [q1, (.int .i64 r.2)]) ∧ New M M' [.vec 3 1 r.1.length q1 (r.1.flatMap enc3)]) := by
  refine CallsM.fresh (Q := search_Inject_post r) Try.func22 rfl rfl ?_ (by rintro s Me ⟨q1, rfl, hx⟩ ha hw; exact ⟨_, rfl, New.of rfl hx ha hw⟩)
  rw [search_Inject] at h
  replace hs0 := hs0.mono (rdLe_frozen M) (fun _ _ h => h)
  replace hs1 := hs1.mono (rdLe_frozen M) (fun _ _ => rep65_mo (rdLe_frozen M))
  have hH := Has.nil (frozen M)
  refine Run.seq (Run.region ?_)
  refine Run.opG wantS_none (ex_assign rfl) rfl ?_
  refine Run.opG wantS_none (ex_assign rfl) rfl ?_
  refine Run.opsEnd (Run.seq (Run.seq (Run.region ?_)))
  refine Run.opG wantS_none (ex_move rfl) rfl ?_
  refine Run.opG wantS_none (ex_move rfl) rfl ?_
  obtain ⟨r22, hr22, h⟩ := bnd_some h
  refine Run.callP wantS_none (ex_call rfl mkk52 cal52) rfl (search_checkWaves_ok F a0 a1 s0 s1 _ _ (hH.slcF hs0) ((hs1).mono hH.le (fun _ _ => rep65_mo hH.le)) hr22) ?_
  refine Run.opG wantS_none (ex_assign rfl) rfl ?_
  refine Run.opsEnd (Run.seq (Run.region ?_))
  refine Run.opG wantS_none (ex_move rfl) rfl ?_
  refine Run.opG wantS_none (ex_neq rfl rfl) rfl ?_
  refine Run.opsEnd ?_
  rcases btf ((!(r22 == (0 : Int)))) with hc24 | hc24
  · have h := bif_t hc24 h
    refine Run.condT' rfl hc24 ?_
    refine Run.seq (Run.region ?_)
    refine Run.opG wantS_none (ex_move rfl) rfl ?_
    refine Run.opG wantS_none (ex_assign rfl) rfl ?_
    refine Run.opG wantS_none (ex_assign rfl) rfl ?_
    refine Run.opsEnd ?_
    have hH26 : Has (ro (frozen M)) (frozen M) [.vec 3 1 ([] : List Int).length .nils (([] : List Int).flatMap enc3)] := hH.nils 3 1
    cases h
    exact Run.ret Try.func22 rfl (res_tmp rfl (res_tmp rfl res_nil)) ⟨_, rfl, (hH26.pick [0] rfl rfl).upF (none_le _)⟩
  · have h := bif_f hc24 h
    refine Run.condF' rfl hc24 ?_
    refine Run.skip (Run.seq (Run.region ?_))
    refine Run.opG wantS_none (ex_move rfl) rfl ?_
    refine Run.opG wantS_none (ex_move rfl) rfl ?_
    obtain ⟨r29, hr29, h⟩ := bnd_some h
    refine Run.callX wantS_none (ex_call rfl mkk54 cal54) rfl (search_added_ok F a0 a1 (1 : Int) s0 s1 _ _ (hH.slcF hs0) ((hs1).mono hH.le (fun _ _ => rep65_mo hH.le)) hr29) ?_
    rintro s29_0 M31 ⟨_, rfl, hN29⟩
    have hH31 : Has (ro (frozen M)) M31 [.vec 3 1 r29.length s29_0 (r29.flatMap enc3)] := hN29.1 _ _ hH
    refine Run.enter wantS_none (ex_call rfl mkk53 cal53) Try.func53 rfl rfl ?_
    refine Run.seq (Run.region ?_)
    refine Run.opG wantS_none (ex_assign rfl) rfl ?_
    refine Run.opG wantS_none (ex_assign rfl) rfl ?_
    refine Run.opsEnd (Run.seq (Run.seq (Run.region ?_)))
    refine Run.opG wantS_none (ex_move rfl) rfl ?_
    obtain ⟨r33, hr33, h⟩ := bnd_some h
    refine Run.callP wantS_none (ex_call rfl mkk35 cal35) rfl (search_isRecord_ok F r29 s29_0 _ _ (hH31.slc (i := 0) rfl enc3_len) hr33) ?_
    refine Run.opG wantS_none (ex_not rfl) rfl ?_
    refine Run.opsEnd ?_
    rcases btf ((!r33)) with hc35 | hc35
    · have h := bif_t hc35 h
      refine Run.condT' rfl hc35 ?_
      refine Run.seq (Run.region ?_)
      refine Run.opG wantS_none (ex_assign rfl) rfl ?_
      refine Run.opG wantS_none (ex_assign rfl) rfl ?_
      refine Run.opsEnd ?_
      refine Run.retTo Try.func53 rfl (res_tmp rfl (res_tmp rfl res_nil)) rfl ?_
      refine Run.opG wantS_none (ex_extract rfl rfl) rfl ?_
      refine Run.opG wantS_none (ex_extract rfl rfl) rfl ?_
      refine Run.opG wantS_none (ex_assign rfl) rfl ?_
      refine Run.opG wantS_none (ex_assign rfl) rfl ?_
      refine Run.opsEnd ?_
      have hH37 : Has (ro (frozen M)) M31 [.vec 3 1 ([] : List Int).length .nils (([] : List Int).flatMap enc3), .vec 3 1 r29.length s29_0 (r29.flatMap enc3)] := hH31.nils 3 1
      cases h
      exact Run.ret Try.func22 rfl (res_tmp rfl (res_tmp rfl res_nil)) ⟨_, rfl, (hH37.pick [0] rfl rfl).upF (none_le _)⟩
    · have h := bif_f hc35 h
      refine Run.condF' rfl hc35 ?_
      refine Run.skip (Run.seq (Run.region ?_))
      refine Run.opG wantS_none (ex_move rfl) rfl ?_
      refine Run.opG wantS_none (ex_assign rfl) rfl ?_
      refine Run.opG wantS_none (ex_assign rfl) rfl ?_
      refine Run.opsEnd ?_
      refine Run.retTo Try.func53 rfl (res_tmp rfl (res_tmp rfl res_nil)) rfl ?_
      refine Run.opG wantS_none (ex_extract rfl rfl) rfl ?_
      refine Run.opG wantS_none (ex_extract rfl rfl) rfl ?_
      refine Run.opG wantS_none (ex_assign rfl) rfl ?_
      refine Run.opG wantS_none (ex_assign rfl) rfl ?_
      refine Run.opsEnd ?_
      cases h
      exact Run.ret Try.func22 rfl (res_tmp rfl (res_tmp rfl res_nil)) ⟨_, rfl, (hH31.pick [0] rfl rfl).upF (none_le _)⟩

theorem mkk22 : makeK Try.prog 22 = none := by kernel_rfl
theorem cal22 : callable Try.prog 22 = true := by kernel_rfl
theorem mkk12 : makeK Try.prog 12 = none := by kernel_rfl
theorem cal12 : callable Try.prog 12 = true := by kernel_rfl
structure S_api_Envelope where
  Many : Int
  Code : Int

theorem zer60 : zerosOf Try.prog 60 = some [(.int .i64 0), (.int .i64 0)] := by kernel_rfl
abbrev search_checkSeal_post (r : Int) : SV → Mem → Prop := fun s _ => s = (.int .i64 r)

def search_checkSeal (F : Nat) (a0 : (List Int)) (a1 : (List S_api_Wave)) (a2 : Int) : Option (Int) :=
  bnd (search_checkWaves F a0 a1) fun r22 =>
  bif (!(r22 == (0 : Int))) then
    some r22
  else
    bnd (search_isFrom F (0 : Int) a2 (1073741824 : Int)) fun r26 =>
    bif (!r26) then
      some (8 : Int)
    else
      some (0 : Int)

theorem search_checkSeal_ok (F : Nat) (a0 : (List Int)) (a1 : (List S_api_Wave)) (a2 : Int) (s0 s1 : SV) (r : Int) (M : Mem) (hs0 : Slc (rd M) 1 (FlatR enc3) s0 a0) (hs1 : Slc (rd M) 3 (rep65 (rd M)) s1 a1) (h : search_checkSeal F a0 a1 a2 = some r) : CallsM Try.prog 55 [s0, s1, (.int .i64 a2)] M (fun s M' => s = (.int .i64 r) ∧ M' = M) := by
  refine CallsM.plain Try.func55 rfl rfl rfl (show Run _ _ _ (search_checkSeal_post r) _ _ _ from ?_)
  rw [search_checkSeal] at h
  replace hs0 := hs0.mono (rdLe_frozen M) (fun _ _ h => h)
  replace hs1 := hs1.mono (rdLe_frozen M) (fun _ _ => rep65_mo (rdLe_frozen M))
  have hH := Has.nil (frozen M)
  refine Run.seq (Run.region ?_)
  refine Run.opG wantS_none (ex_assign rfl) rfl ?_
  refine Run.opsEnd (Run.seq (Run.seq (Run.region ?_)))
  refine Run.opG wantS_none (ex_move rfl) rfl ?_
  refine Run.opG wantS_none (ex_move rfl) rfl ?_
  obtain ⟨r22, hr22, h⟩ := bnd_some h
  refine Run.callP wantS_none (ex_call rfl mkk52 cal52) rfl (search_checkWaves_ok F a0 a1 s0 s1 _ _ (hH.slcF hs0) ((hs1).mono hH.le (fun _ _ => rep65_mo hH.le)) hr22) ?_
  refine Run.opG wantS_none (ex_assign rfl) rfl ?_
  refine Run.opsEnd (Run.seq (Run.region ?_))
  refine Run.opG wantS_none (ex_move rfl) rfl ?_
  refine Run.opG wantS_none (ex_neq rfl rfl) rfl ?_
  refine Run.opsEnd ?_
  rcases btf ((!(r22 == (0 : Int)))) with hc24 | hc24
  · have h := bif_t hc24 h
    refine Run.condT' rfl hc24 ?_
    refine Run.seq (Run.region ?_)
    refine Run.opG wantS_none (ex_move rfl) rfl ?_
    refine Run.opG wantS_none (ex_assign rfl) rfl ?_
    refine Run.opsEnd ?_
    cases h
    exact Run.ret Try.func55 rfl (res_tmp rfl res_nil) rfl
  · have h := bif_f hc24 h
    refine Run.condF' rfl hc24 ?_
    refine Run.skip (Run.seq (Run.seq (Run.region ?_)))
    refine Run.opG wantS_none (ex_move rfl) rfl ?_
    obtain ⟨r26, hr26, h⟩ := bnd_some h
    refine Run.callP wantS_none (ex_call rfl mkk36 cal36) rfl (search_isFrom_ok F (0 : Int) a2 (1073741824 : Int) _ _ hr26) ?_
    refine Run.opG wantS_none (ex_not rfl) rfl ?_
    refine Run.opsEnd ?_
    rcases btf ((!r26)) with hc28 | hc28
    · have h := bif_t hc28 h
      refine Run.condT' rfl hc28 ?_
      refine Run.seq (Run.region ?_)
      refine Run.opG wantS_none (ex_assign rfl) rfl ?_
      refine Run.opsEnd ?_
      cases h
      exact Run.ret Try.func55 rfl (res_tmp rfl res_nil) rfl
    · have h := bif_f hc28 h
      refine Run.condF' rfl hc28 ?_
      refine Run.skip (Run.seq (Run.region ?_))
      refine Run.opG wantS_none (ex_assign rfl) rfl ?_
      refine Run.opsEnd ?_
      cases h
      exact Run.ret Try.func55 rfl (res_tmp rfl res_nil) rfl

theorem mkk55 : makeK Try.prog 55 = none := by kernel_rfl
theorem cal55 : callable Try.prog 55 = true := by kernel_rfl
theorem pls60 : placesOf Try.prog 60 = some (.st [(0, 1), (1, 1)]) := by kernel_rfl
theorem sz60 : szOf Try.prog 60 = some 2 := by kernel_rfl
theorem agg60 : aggSize Try.prog 60 = some (some 2) := by kernel_rfl
theorem zer132 : zerosOf Try.prog 132 = some [(.int .i64 0)] := by kernel_rfl
theorem sz132 : szOf Try.prog 132 = some 1 := by kernel_rfl
theorem mkk88 : makeK Try.prog 88 = none := by kernel_rfl
theorem cal88 : callable Try.prog 88 = true := by kernel_rfl
theorem mkk89 : makeK Try.prog 89 = none := by kernel_rfl
theorem cal89 : callable Try.prog 89 = true := by kernel_rfl
theorem agg132 : aggSize Try.prog 132 = some none := by kernel_rfl
abbrev search_envelope_post (r : S_api_Envelope) : SV → Mem → Prop := fun s _ => s = (.agg [(.int .i64 r.Many), (.int .i64 r.Code)])

def search_envelope_2 (F : Nat) (hd1 : (List S_api_Wave) → Int → Int → (List S_api_Wave) → Int → S_api_Envelope → Option (S_api_Envelope)) : Nat → (List S_api_Wave) → Int → Int → (List Int) → Int → Int → (List S_api_Wave) → Int → S_api_Envelope → Option (S_api_Envelope)
  | 0, _, _, _, _, _, _, _, _, _ => none
  | N + 1, v8, v9, v10, v28, v29, v30, v0_f1, c25_0, c22 =>
    bif (decide (v30 < v29)) then
      bnd (idx v28 v30) fun x40 =>
      (search_envelope_2 F hd1 N) v8 v9 v10 v28 v29 (w64 (v30 + (1 : Int))) v0_f1 (Int.tmod (w64 ((w64 ((w64 (c25_0 * (48271 : Int))) + x40)) + (65536 : Int))) (2147483647 : Int)) c22
    else
      hd1 v8 v9 (w64 (v10 + (1 : Int))) v0_f1 c25_0 c22

theorem search_envelope_2_ok (F : Nat) (hd1 : (List S_api_Wave) → Int → Int → (List S_api_Wave) → Int → S_api_Envelope → Option (S_api_Envelope)) (hhd1 : ∀ (v8 : (List S_api_Wave)) (v9 : Int) (v10 : Int) (v0_f1 : (List S_api_Wave)) (c25_0 : Int) (c22 : S_api_Envelope) (sv8 : SV) (sv0_f1 : SV) (b25 : Pos) (b22 : Pos) (Fr : Rd) (M : Mem) (r : S_api_Envelope) (hv8 : Slc Fr 3 (rep65 Fr) sv8 v8) (hv0_f1 : Slc Fr 3 (rep65 Fr) sv0_f1 v0_f1) (hH : Has Fr M [.obj b25 (.row 132 .whole [(.int .i64 c25_0)]), .obj b22 (.row 60 .whole [(.int .i64 c22.Many), (.int .i64 c22.Code)])]), hd1 v8 v9 v10 v0_f1 c25_0 c22 = some r → Run Try.prog ⟨⟨88, [], none⟩, [.mk ⟨56, [], none⟩ 15 (treeOf [(0, sv0_f1), (4, (.ptr b22 0)), (5, (.ptr b25 0))]) [itemC Try.prog 56 [1, 1, 0] 2, codeC Try.prog 56 [1, 1, 1]]]⟩ 39 (search_envelope_post r) [(1, (.fn (.func 89) [(.ptr b25 0)] [])), (8, sv8), (9, (.int .i64 v9)), (10, (.int .i64 v10))] [codeC Try.prog 88 [1, 0, 0], loopC Try.prog 88 [1, 0, 0], .inBlock 0] M) : ∀ (N : Nat), ∀ (v8 : (List S_api_Wave)) (v9 : Int) (v10 : Int) (v28 : (List Int)) (v29 : Int) (v30 : Int) (v0_f1 : (List S_api_Wave)) (c25_0 : Int) (c22 : S_api_Envelope) (sv8 : SV) (sv28 : SV) (sv0_f1 : SV) (b25 : Pos) (b22 : Pos) (Fr : Rd) (M : Mem) (r : S_api_Envelope) (hv8 : Slc Fr 3 (rep65 Fr) sv8 v8) (hv28 : Slc Fr 1 (FlatR enc3) sv28 v28) (hv0_f1 : Slc Fr 3 (rep65 Fr) sv0_f1 v0_f1) (hH : Has Fr M [.obj b25 (.row 132 .whole [(.int .i64 c25_0)]), .obj b22 (.row 60 .whole [(.int .i64 c22.Many), (.int .i64 c22.Code)])]), search_envelope_2 F hd1 N v8 v9 v10 v28 v29 v30 v0_f1 c25_0 c22 = some r → Run Try.prog ⟨⟨88, [], none⟩, [.mk ⟨56, [], none⟩ 15 (treeOf [(0, sv0_f1), (4, (.ptr b22 0)), (5, (.ptr b25 0))]) [itemC Try.prog 56 [1, 1, 0] 2, codeC Try.prog 56 [1, 1, 1]]]⟩ 39 (search_envelope_post r) [(1, (.fn (.func 89) [(.ptr b25 0)] [])), (8, sv8), (9, (.int .i64 v9)), (10, (.int .i64 v10)), (28, sv28), (29, (.int .i64 v29)), (30, (.int .i64 v30))] [codeC Try.prog 88 [1, 0, 0, 1, 1, 0, 0, 1, 1, 1, 1, 1, 0, 0], loopC Try.prog 88 [1, 0, 0, 1, 1, 0, 0, 1, 1, 1, 1, 1, 0, 0], .inBlock 2, .inBlock 1, codeC Try.prog 88 [1, 0, 0, 1, 1, 1], loopC Try.prog 88 [1, 0, 0], .inBlock 0] M := by
  intro N
  induction N with
  | zero =>
    intro v8 v9 v10 v28 v29 v30 v0_f1 c25_0 c22 sv8 sv28 sv0_f1 b25 b22 Fr M r hv8 hv28 hv0_f1 hH h
    simp [search_envelope_2] at h
  | succ N ih =>
    intro v8 v9 v10 v28 v29 v30 v0_f1 c25_0 c22 sv8 sv28 sv0_f1 b25 b22 Fr M r hv8 hv28 hv0_f1 hH h
    rw [search_envelope_2] at h
    refine Run.seq (Run.region ?_)
    refine Run.opG wantS_none (ex_lss rfl rfl) rfl ?_
    refine Run.opsEnd (Run.seq ?_)
    rcases btf ((decide (v30 < v29))) with hc38 | hc38
    · have h := bif_t hc38 h
      refine Run.condT' rfl hc38 ?_
      refine Run.skip (Run.seq (Run.block (Run.seq (Run.region ?_))))
      obtain ⟨x40, hx40, h⟩ := bnd_some h
      obtain ⟨p40, o40, _, hx40, hp40, rfl⟩ := sl_elem (P := Try.prog) (t := 22) (kk := .i64) hv28 hx40 els22
      refine Run.opG wantS_none (ex_elX rfl rfl hx40) rfl ?_
      refine Run.opG wantS_none (ex_load1 rfl (hH.ptrF hp40) rdLe_rfl agg3) rfl ?_
      refine Run.opG wantS_none (ex_assign rfl) rfl ?_
      refine Run.opsEnd (Run.region ?_)
      refine Run.opG wantS_none (ex_move rfl) rfl ?_
      refine Run.opG wantS_none (ex_move rfl) rfl ?_
      refine Run.enter wantS_none (ex_closure rfl rfl mkk89 cal89) Try.func89 rfl rfl ?_
      refine Run.region ?_
      refine Run.opG wantS_none (ex_move rfl) rfl ?_
      refine Run.opG wantS_none (ex_move rfl) rfl ?_
      refine Run.opG wantS_none (ex_nilP rfl) rfl ?_
      refine Run.opG wantS_none (ex_load1 rfl (hH.cells (i := 0) rfl 0 rfl) rdLe_rfl agg132) rfl ?_
      refine Run.opG wantS_none (ex_mul rfl rfl) rfl ?_
      refine Run.opG wantS_none (ex_move rfl) rfl ?_
      refine Run.opG wantS_none (ex_add rfl rfl) rfl ?_
      refine Run.opG wantS_none (ex_add rfl rfl) rfl ?_
      refine Run.opG wantS_none (ex_rem rfl rfl (by decide)) rfl ?_
      refine Run.opG wantS_none (ex_nilP rfl) rfl ?_
      refine Run.opX wantS_none rfl (ExG.storeC (c' := [(.int .i64 (Int.tmod (w64 ((w64 ((w64 (c25_0 * (48271 : Int))) + x40)) + (65536 : Int))) (2147483647 : Int)))]) rfl rfl rfl hH (i := 0) rfl sz132 rfl rfl rfl rfl rfl) ?_
      rintro _ M41 ⟨rfl, (hH41 : Has Fr M41 [.obj b25 (.row 132 .whole [(.int .i64 (Int.tmod (w64 ((w64 ((w64 (c25_0 * (48271 : Int))) + x40)) + (65536 : Int))) (2147483647 : Int)))]), .obj b22 (.row 60 .whole [(.int .i64 c22.Many), (.int .i64 c22.Code)])])⟩
      refine Run.opsEnd ?_
      refine Run.fallTo Try.func89 rfl res_nil rfl ?_
      refine Run.opsEnd (Run.inBlock (Run.region ?_))
      refine Run.opG wantS_none (ex_add rfl rfl) rfl ?_
      refine Run.opG wantS_none (ex_move rfl) rfl ?_
      refine Run.opsEnd (Run.inLoop ?_)
      exact Run.low (.cons (fle_pick [0, 4, 5] rfl) .nil) (Run.pick [1, 8, 9, 10, 28, 29, 30] (ih v8 v9 v10 v28 v29 (w64 (v30 + (1 : Int))) v0_f1 (Int.tmod (w64 ((w64 ((w64 (c25_0 * (48271 : Int))) + x40)) + (65536 : Int))) (2147483647 : Int)) c22 sv8 sv28 sv0_f1 b25 b22 _ _ _ hv8 hv28 hv0_f1 hH41 h))
    · have h := bif_f hc38 h
      refine Run.condF' rfl hc38 ?_
      refine Run.exit rfl (Run.inBlock (Run.region ?_))
      refine Run.opG wantS_none (ex_add rfl rfl) rfl ?_
      refine Run.opG wantS_none (ex_move rfl) rfl ?_
      refine Run.opsEnd (Run.inLoop ?_)
      exact Run.low (.cons (fle_pick [0, 4, 5] rfl) .nil) (Run.pick [1, 8, 9, 10] (hhd1 v8 v9 (w64 (v10 + (1 : Int))) v0_f1 c25_0 c22 sv8 sv0_f1 b25 b22 _ _ _ hv8 hv0_f1 hH h))

def search_envelope_1 (F : Nat) : Nat → (List S_api_Wave) → Int → Int → (List S_api_Wave) → Int → S_api_Envelope → Option (S_api_Envelope)
  | 0, _, _, _, _, _, _ => none
  | N + 1, v8, v9, v10, v0_f1, c25_0, c22 =>
    bif (decide (v10 < v9)) then
      bnd (idx v8 v10) fun x30 =>
      search_envelope_2 F (search_envelope_1 F N) F v8 v9 v10 x30.Samples (x30.Samples.length : Int) (0 : Int) v0_f1 (Int.tmod (w64 ((w64 ((w64 ((Int.tmod (w64 ((w64 ((w64 ((Int.tmod (w64 ((w64 ((w64 (c25_0 * (48271 : Int))) + x30.At)) + (65536 : Int))) (2147483647 : Int)) * (48271 : Int))) + x30.Gain)) + (65536 : Int))) (2147483647 : Int)) * (48271 : Int))) + (x30.Samples.length : Int))) + (65536 : Int))) (2147483647 : Int)) c22
    else
      some (S_api_Envelope.mk (v0_f1.length : Int) c25_0)

theorem search_envelope_1_ok (F : Nat) : ∀ (N : Nat), ∀ (v8 : (List S_api_Wave)) (v9 : Int) (v10 : Int) (v0_f1 : (List S_api_Wave)) (c25_0 : Int) (c22 : S_api_Envelope) (sv8 : SV) (sv0_f1 : SV) (b25 : Pos) (b22 : Pos) (Fr : Rd) (M : Mem) (r : S_api_Envelope) (hv8 : Slc Fr 3 (rep65 Fr) sv8 v8) (hv0_f1 : Slc Fr 3 (rep65 Fr) sv0_f1 v0_f1) (hH : Has Fr M [.obj b25 (.row 132 .whole [(.int .i64 c25_0)]), .obj b22 (.row 60 .whole [(.int .i64 c22.Many), (.int .i64 c22.Code)])]), search_envelope_1 F N v8 v9 v10 v0_f1 c25_0 c22 = some r → Run Try.prog ⟨⟨88, [], none⟩, [.mk ⟨56, [], none⟩ 15 (treeOf [(0, sv0_f1), (4, (.ptr b22 0)), (5, (.ptr b25 0))]) [itemC Try.prog 56 [1, 1, 0] 2, codeC Try.prog 56 [1, 1, 1]]]⟩ 39 (search_envelope_post r) [(1, (.fn (.func 89) [(.ptr b25 0)] [])), (8, sv8), (9, (.int .i64 v9)), (10, (.int .i64 v10))] [codeC Try.prog 88 [1, 0, 0], loopC Try.prog 88 [1, 0, 0], .inBlock 0] M := by
  intro N
  induction N with
  | zero =>
    intro v8 v9 v10 v0_f1 c25_0 c22 sv8 sv0_f1 b25 b22 Fr M r hv8 hv0_f1 hH h
    simp [search_envelope_1] at h
  | succ N ih =>
    intro v8 v9 v10 v0_f1 c25_0 c22 sv8 sv0_f1 b25 b22 Fr M r hv8 hv0_f1 hH h
    rw [search_envelope_1] at h
    refine Run.seq (Run.region ?_)
    refine Run.opG wantS_none (ex_lss rfl rfl) rfl ?_
    refine Run.opsEnd (Run.seq ?_)
    rcases btf ((decide (v10 < v9))) with hc28 | hc28
    · have h := bif_t hc28 h
      refine Run.condT' rfl hc28 ?_
      refine Run.skip (Run.seq (Run.block (Run.seq (Run.region ?_))))
      obtain ⟨x30, hx30, h⟩ := bnd_some h
      obtain ⟨p30, o30, _, hx30, hp30, ⟨q30_0, rfl, hq30_0⟩⟩ := sl_elem (P := Try.prog) (t := 57) (kk := .i64) hv8 hx30 els57
      refine Run.opG wantS_none (ex_elX rfl rfl hx30) rfl ?_
      refine Run.opG wantS_none (ex_loadA rfl (hH.ptrF hp30) rdLe_rfl agg65 rfl rfl rfl) rfl ?_
      refine Run.opX wantS_none rfl (ExG.new (v := fun b => .ptr b 0) (ex_alloc zer65) hH) ?_
      rintro _ M33 ⟨b32, rfl, (hH33 : Has Fr M33 [.obj b32 (.row 65 .whole [(.int .i64 0), (.int .i64 0), .nils]), .obj b25 (.row 132 .whole [(.int .i64 c25_0)]), .obj b22 (.row 60 .whole [(.int .i64 c22.Many), (.int .i64 c22.Code)])])⟩
      refine Run.opX wantS_none rfl (ExG.storeC (c' := [(.int .i64 x30.At), (.int .i64 x30.Gain), q30_0]) rfl rfl rfl hH33 (i := 0) rfl sz65 rfl rfl rfl (ones_cons rfl (ones_cons rfl (ones_cons (slc_one hq30_0) ones_nil))) rfl) ?_
      rintro _ M34 ⟨rfl, (hH34 : Has Fr M34 [.obj b32 (.row 65 .whole [(.int .i64 x30.At), (.int .i64 x30.Gain), q30_0]), .obj b25 (.row 132 .whole [(.int .i64 c25_0)]), .obj b22 (.row 60 .whole [(.int .i64 c22.Many), (.int .i64 c22.Code)])])⟩
      refine Run.opsEnd (Run.seq (Run.region ?_))
      refine Run.opG wantS_none (ex_move rfl) rfl ?_
      refine Run.opG wantS_none (ex_fieldAddr rfl off65_0) rfl ?_
      refine Run.opG wantS_none (ex_load1 rfl (hH34.cells (i := 0) rfl 0 rfl) rdLe_rfl agg3) rfl ?_
      refine Run.enter wantS_none (ex_closure rfl rfl mkk89 cal89) Try.func89 rfl rfl ?_
      refine Run.region ?_
      refine Run.opG wantS_none (ex_move rfl) rfl ?_
      refine Run.opG wantS_none (ex_move rfl) rfl ?_
      refine Run.opG wantS_none (ex_nilP rfl) rfl ?_
      refine Run.opG wantS_none (ex_load1 rfl (hH34.cells (i := 1) rfl 0 rfl) rdLe_rfl agg132) rfl ?_
      refine Run.opG wantS_none (ex_mul rfl rfl) rfl ?_
      refine Run.opG wantS_none (ex_move rfl) rfl ?_
      refine Run.opG wantS_none (ex_add rfl rfl) rfl ?_
      refine Run.opG wantS_none (ex_add rfl rfl) rfl ?_
      refine Run.opG wantS_none (ex_rem rfl rfl (by decide)) rfl ?_
      refine Run.opG wantS_none (ex_nilP rfl) rfl ?_
      refine Run.opX wantS_none rfl (ExG.storeC (c' := [(.int .i64 (Int.tmod (w64 ((w64 ((w64 (c25_0 * (48271 : Int))) + x30.At)) + (65536 : Int))) (2147483647 : Int)))]) rfl rfl rfl hH34 (i := 1) rfl sz132 rfl rfl rfl rfl rfl) ?_
      rintro _ M35 ⟨rfl, (hH35 : Has Fr M35 [.obj b32 (.row 65 .whole [(.int .i64 x30.At), (.int .i64 x30.Gain), q30_0]), .obj b25 (.row 132 .whole [(.int .i64 (Int.tmod (w64 ((w64 ((w64 (c25_0 * (48271 : Int))) + x30.At)) + (65536 : Int))) (2147483647 : Int)))]), .obj b22 (.row 60 .whole [(.int .i64 c22.Many), (.int .i64 c22.Code)])])⟩
      refine Run.opsEnd ?_
      refine Run.fallTo Try.func89 rfl res_nil rfl ?_
      refine Run.opsEnd (Run.seq (Run.region ?_))
      refine Run.opG wantS_none (ex_move rfl) rfl ?_
      refine Run.opG wantS_none (ex_fieldAddr rfl off65_1) rfl ?_
      refine Run.opG wantS_none (ex_load1 rfl (hH35.cells (i := 0) rfl 1 rfl) rdLe_rfl agg3) rfl ?_
      refine Run.enter wantS_none (ex_closure rfl rfl mkk89 cal89) Try.func89 rfl rfl ?_
      refine Run.region ?_
      refine Run.opG wantS_none (ex_move rfl) rfl ?_
      refine Run.opG wantS_none (ex_move rfl) rfl ?_
      refine Run.opG wantS_none (ex_nilP rfl) rfl ?_
      refine Run.opG wantS_none (ex_load1 rfl (hH35.cells (i := 1) rfl 0 rfl) rdLe_rfl agg132) rfl ?_
      refine Run.opG wantS_none (ex_mul rfl rfl) rfl ?_
      refine Run.opG wantS_none (ex_move rfl) rfl ?_
      refine Run.opG wantS_none (ex_add rfl rfl) rfl ?_
      refine Run.opG wantS_none (ex_add rfl rfl) rfl ?_
      refine Run.opG wantS_none (ex_rem rfl rfl (by decide)) rfl ?_
      refine Run.opG wantS_none (ex_nilP rfl) rfl ?_
      refine Run.opX wantS_none rfl (ExG.storeC (c' := [(.int .i64 (Int.tmod (w64 ((w64 ((w64 ((Int.tmod (w64 ((w64 ((w64 (c25_0 * (48271 : Int))) + x30.At)) + (65536 : Int))) (2147483647 : Int)) * (48271 : Int))) + x30.Gain)) + (65536 : Int))) (2147483647 : Int)))]) rfl rfl rfl hH35 (i := 1) rfl sz132 rfl rfl rfl rfl rfl) ?_
      rintro _ M36 ⟨rfl, (hH36 : Has Fr M36 [.obj b32 (.row 65 .whole [(.int .i64 x30.At), (.int .i64 x30.Gain), q30_0]), .obj b25 (.row 132 .whole [(.int .i64 (Int.tmod (w64 ((w64 ((w64 ((Int.tmod (w64 ((w64 ((w64 (c25_0 * (48271 : Int))) + x30.At)) + (65536 : Int))) (2147483647 : Int)) * (48271 : Int))) + x30.Gain)) + (65536 : Int))) (2147483647 : Int)))]), .obj b22 (.row 60 .whole [(.int .i64 c22.Many), (.int .i64 c22.Code)])])⟩
      refine Run.opsEnd ?_
      refine Run.fallTo Try.func89 rfl res_nil rfl ?_
      refine Run.opsEnd (Run.seq (Run.region ?_))
      refine Run.opG wantS_none (ex_move rfl) rfl ?_
      refine Run.opG wantS_none (ex_fieldAddr rfl off65_2) rfl ?_
      refine Run.opG wantS_none (ex_load1 rfl (hH36.cells (i := 0) rfl 2 rfl) rdLe_rfl agg22) rfl ?_
      refine Run.opG wantS_none (ex_len' rfl hq30_0 lenk22) rfl ?_
      refine Run.enter wantS_none (ex_closure rfl rfl mkk89 cal89) Try.func89 rfl rfl ?_
      refine Run.region ?_
      refine Run.opG wantS_none (ex_move rfl) rfl ?_
      refine Run.opG wantS_none (ex_move rfl) rfl ?_
      refine Run.opG wantS_none (ex_nilP rfl) rfl ?_
      refine Run.opG wantS_none (ex_load1 rfl (hH36.cells (i := 1) rfl 0 rfl) rdLe_rfl agg132) rfl ?_
      refine Run.opG wantS_none (ex_mul rfl rfl) rfl ?_
      refine Run.opG wantS_none (ex_move rfl) rfl ?_
      refine Run.opG wantS_none (ex_add rfl rfl) rfl ?_
      refine Run.opG wantS_none (ex_add rfl rfl) rfl ?_
      refine Run.opG wantS_none (ex_rem rfl rfl (by decide)) rfl ?_
      refine Run.opG wantS_none (ex_nilP rfl) rfl ?_
      refine Run.opX wantS_none rfl (ExG.storeC (c' := [(.int .i64 (Int.tmod (w64 ((w64 ((w64 ((Int.tmod (w64 ((w64 ((w64 ((Int.tmod (w64 ((w64 ((w64 (c25_0 * (48271 : Int))) + x30.At)) + (65536 : Int))) (2147483647 : Int)) * (48271 : Int))) + x30.Gain)) + (65536 : Int))) (2147483647 : Int)) * (48271 : Int))) + (x30.Samples.length : Int))) + (65536 : Int))) (2147483647 : Int)))]) rfl rfl rfl hH36 (i := 1) rfl sz132 rfl rfl rfl rfl rfl) ?_
      rintro _ M37 ⟨rfl, (hH37 : Has Fr M37 [.obj b32 (.row 65 .whole [(.int .i64 x30.At), (.int .i64 x30.Gain), q30_0]), .obj b25 (.row 132 .whole [(.int .i64 (Int.tmod (w64 ((w64 ((w64 ((Int.tmod (w64 ((w64 ((w64 ((Int.tmod (w64 ((w64 ((w64 (c25_0 * (48271 : Int))) + x30.At)) + (65536 : Int))) (2147483647 : Int)) * (48271 : Int))) + x30.Gain)) + (65536 : Int))) (2147483647 : Int)) * (48271 : Int))) + (x30.Samples.length : Int))) + (65536 : Int))) (2147483647 : Int)))]), .obj b22 (.row 60 .whole [(.int .i64 c22.Many), (.int .i64 c22.Code)])])⟩
      refine Run.opsEnd ?_
      refine Run.fallTo Try.func89 rfl res_nil rfl ?_
      refine Run.opsEnd (Run.seq (Run.region ?_))
      refine Run.opG wantS_none (ex_fieldAddr rfl off65_2) rfl ?_
      refine Run.opG wantS_none (ex_load1 rfl (hH37.cells (i := 0) rfl 2 rfl) rdLe_rfl agg22) rfl ?_
      refine Run.opG wantS_none (ex_len' rfl hq30_0 lenk22) rfl ?_
      refine Run.opG wantS_none (ex_move rfl) rfl ?_
      refine Run.opsEnd (Run.block (Run.loop ?_))
      exact Run.low (.cons (fle_pick [0, 4, 5] rfl) .nil) (Run.pick [1, 8, 9, 10, 28, 29, 30] (search_envelope_2_ok F (search_envelope_1 F N) ih F v8 v9 v10 x30.Samples (x30.Samples.length : Int) (0 : Int) v0_f1 (Int.tmod (w64 ((w64 ((w64 ((Int.tmod (w64 ((w64 ((w64 ((Int.tmod (w64 ((w64 ((w64 (c25_0 * (48271 : Int))) + x30.At)) + (65536 : Int))) (2147483647 : Int)) * (48271 : Int))) + x30.Gain)) + (65536 : Int))) (2147483647 : Int)) * (48271 : Int))) + (x30.Samples.length : Int))) + (65536 : Int))) (2147483647 : Int)) c22 sv8 q30_0 sv0_f1 b25 b22 _ _ _ hv8 hq30_0 hv0_f1 (hH37.pick [1, 2] rfl rfl) h))
    · have h := bif_f hc28 h
      refine Run.condF' rfl hc28 ?_
      refine Run.exit rfl ?_
      refine Run.fallTo Try.func88 rfl res_nil rfl ?_
      refine Run.opsEnd (Run.seq (Run.region ?_))
      refine Run.opG wantS_none (ex_move rfl) rfl ?_
      refine Run.opG wantS_none (ex_len' rfl hv0_f1 lenk57) rfl ?_
      refine Run.opG wantS_none (ex_load1 rfl (hH.cells (i := 0) rfl 0 rfl) rdLe_rfl agg132) rfl ?_
      refine Run.opG wantS_none (ex_build (r := [(.int .i64 (v0_f1.length : Int)), (.int .i64 c25_0)]) rfl zer60 pls60 rfl) rfl ?_
      refine Run.opX wantS_none rfl (ExG.storeC (c' := [(.int .i64 (v0_f1.length : Int)), (.int .i64 c25_0)]) rfl rfl rfl hH (i := 1) rfl sz60 rfl rfl rfl rfl rfl) ?_
      rintro _ M42 ⟨rfl, (hH42 : Has Fr M42 [.obj b25 (.row 132 .whole [(.int .i64 c25_0)]), .obj b22 (.row 60 .whole [(.int .i64 (v0_f1.length : Int)), (.int .i64 c25_0)])])⟩
      refine Run.opsEnd ?_
      cases h
      exact Run.ret Try.func56 rfl (res_cell rfl (x_load (ex_loadA rfl (hH42.cells (i := 1) rfl 0 rfl) rdLe_rfl agg60 rfl rfl rfl)) res_nil) rfl

def search_envelope (F : Nat) (a0 : (List S_api_Wave)) (a1 : Int) : Option (S_api_Envelope) :=
  search_envelope_1 F F a0 (a0.length : Int) (0 : Int) a0 (w64 (a1 + (1 : Int))) (S_api_Envelope.mk 0 0)

theorem search_envelope_ok (F : Nat) (a0 : (List S_api_Wave)) (a1 : Int) (s0 : SV) (r : S_api_Envelope) (M : Mem) (hs0 : Slc (rd M) 3 (rep65 (rd M)) s0 a0) (h : search_envelope F a0 a1 = some r) : CallsM Try.prog 56 [s0, (.int .i64 a1)] M (fun s M' => s = (.agg [(.int .i64 r.Many), (.int .i64 r.Code)]) ∧ M' = M) := by
  refine CallsM.plain Try.func56 rfl rfl rfl (show Run _ _ _ (search_envelope_post r) _ _ _ from ?_)
  rw [search_envelope] at h
  replace hs0 := hs0.mono (rdLe_frozen M) (fun _ _ => rep65_mo (rdLe_frozen M))
  have hH := Has.nil (frozen M)
  refine Run.seq (Run.region ?_)
  refine Run.opX wantS_none rfl (ExG.new (v := fun b => .ptr b 0) (ex_alloc zer60) hH) ?_
  rintro _ M23 ⟨b22, rfl, (hH23 : Has (ro (frozen M)) M23 [.obj b22 (.row 60 .whole [(.int .i64 0), (.int .i64 0)])])⟩
  refine Run.opsEnd (Run.seq (Run.region ?_))
  refine Run.opG wantS_none (ex_move rfl) rfl ?_
  refine Run.opG wantS_none (ex_add rfl rfl) rfl ?_
  refine Run.opX wantS_none rfl (ExG.new (v := fun b => .ptr b 0) (ex_alloc zer132) hH23) ?_
  rintro _ M26 ⟨b25, rfl, (hH26 : Has (ro (frozen M)) M26 [.obj b25 (.row 132 .whole [(.int .i64 0)]), .obj b22 (.row 60 .whole [(.int .i64 0), (.int .i64 0)])])⟩
  refine Run.opX wantS_none rfl (ExG.storeC (c' := [(.int .i64 (w64 (a1 + (1 : Int))))]) rfl rfl rfl hH26 (i := 0) rfl sz132 rfl rfl rfl rfl rfl) ?_
  rintro _ M27 ⟨rfl, (hH27 : Has (ro (frozen M)) M27 [.obj b25 (.row 132 .whole [(.int .i64 (w64 (a1 + (1 : Int))))]), .obj b22 (.row 60 .whole [(.int .i64 0), (.int .i64 0)])])⟩
  refine Run.opsEnd (Run.seq (Run.region ?_))
  refine Run.opG wantS_none (ex_move rfl) rfl ?_
  refine Run.opG wantS_none (ex_makeFunc rfl rfl) rfl ?_
  refine Run.enter wantS_none (ex_call rfl mkk88 cal88) Try.func88 rfl rfl ?_
  refine Run.seq (Run.region ?_)
  refine Run.opG wantS_none (ex_move rfl) rfl ?_
  refine Run.opG wantS_none (ex_len' rfl hs0 lenk57) rfl ?_
  refine Run.opG wantS_none (ex_move rfl) rfl ?_
  refine Run.opsEnd (Run.block (Run.loop ?_))
  exact Run.low (.cons (fle_pick [0, 4, 5] rfl) .nil) (Run.pick [1, 8, 9, 10] (search_envelope_1_ok F F a0 (a0.length : Int) (0 : Int) a0 (w64 (a1 + (1 : Int))) (S_api_Envelope.mk 0 0) s0 s0 b25 b22 _ _ _ hs0 hs0 hH27 h))

theorem mkk56 : makeK Try.prog 56 = none := by kernel_rfl
theorem cal56 : callable Try.prog 56 = true := by kernel_rfl
abbrev search_Seal_post (r : S_api_Envelope × Int) : SV → Mem → Prop := fun s _ => s = (.tuple [(.agg [(.int .i64 r.1.Many), (.int .i64 r.1.Code)]), (.int .i64 r.2)])

def search_Seal (F : Nat) (a0 : (List Int)) (a1 : (List S_api_Wave)) (a2 : Int) : Option (S_api_Envelope × Int) :=
  bnd (search_checkSeal F a0 a1 a2) fun r25 =>
  bif (!(r25 == (0 : Int))) then
    some ((S_api_Envelope.mk 0 0), r25)
  else
    bnd (search_envelope F a1 a2) fun r30 =>
    some (r30, (0 : Int))

theorem search_Seal_ok (F : Nat) (a0 : (List Int)) (a1 : (List S_api_Wave)) (a2 : Int) (s0 s1 : SV) (r : S_api_Envelope × Int) (M : Mem) (hs0 : Slc (rd M) 1 (FlatR enc3) s0 a0) (hs1 : Slc (rd M) 3 (rep65 (rd M)) s1 a1) (h : search_Seal F a0 a1 a2 = some r) : CallsM Try.prog 23 [s0, s1, (.int .i64 a2)] M (fun s M' => s = (.tuple [(.agg [(.int .i64 r.1.Many), (.int .i64 r.1.Code)]), (.int .i64 r.2)]) ∧ M' = M) := by
  refine CallsM.plain Try.func23 rfl rfl rfl (show Run _ _ _ (search_Seal_post r) _ _ _ from ?_)
  rw [search_Seal] at h
  replace hs0 := hs0.mono (rdLe_frozen M) (fun _ _ h => h)
  replace hs1 := hs1.mono (rdLe_frozen M) (fun _ _ => rep65_mo (rdLe_frozen M))
  have hH := Has.nil (frozen M)
  refine Run.seq (Run.region ?_)
  refine Run.opX wantS_none rfl (ExG.new (v := fun b => .ptr b 0) (ex_alloc zer60) hH) ?_
  rintro _ M23 ⟨b22, rfl, (hH23 : Has (ro (frozen M)) M23 [.obj b22 (.row 60 .whole [(.int .i64 0), (.int .i64 0)])])⟩
  refine Run.opG wantS_none (ex_assign rfl) rfl ?_
  refine Run.opsEnd (Run.seq (Run.seq (Run.region ?_)))
  refine Run.opG wantS_none (ex_move rfl) rfl ?_
  refine Run.opG wantS_none (ex_move rfl) rfl ?_
  refine Run.opG wantS_none (ex_move rfl) rfl ?_
  obtain ⟨r25, hr25, h⟩ := bnd_some h
  refine Run.callP wantS_none (ex_call rfl mkk55 cal55) rfl (search_checkSeal_ok F a0 a1 a2 s0 s1 _ _ (hH23.slcF hs0) ((hs1).mono hH23.le (fun _ _ => rep65_mo hH23.le)) hr25) ?_
  refine Run.opG wantS_none (ex_assign rfl) rfl ?_
  refine Run.opsEnd (Run.seq (Run.region ?_))
  refine Run.opG wantS_none (ex_move rfl) rfl ?_
  refine Run.opG wantS_none (ex_neq rfl rfl) rfl ?_
  refine Run.opsEnd ?_
  rcases btf ((!(r25 == (0 : Int)))) with hc27 | hc27
  · have h := bif_t hc27 h
    refine Run.condT' rfl hc27 ?_
    refine Run.seq (Run.region ?_)
    refine Run.opG wantS_none (ex_build (r := [(.int .i64 0), (.int .i64 0)]) rfl zer60 pls60 rfl) rfl ?_
    refine Run.opG wantS_none (ex_move rfl) rfl ?_
    refine Run.opX wantS_none rfl (ExG.storeC (c' := [(.int .i64 0), (.int .i64 0)]) rfl rfl rfl hH23 (i := 0) rfl sz60 rfl rfl rfl rfl rfl) ?_
    rintro _ M28 ⟨rfl, (hH28 : Has (ro (frozen M)) M28 [.obj b22 (.row 60 .whole [(.int .i64 0), (.int .i64 0)])])⟩
    refine Run.opG wantS_none (ex_assign rfl) rfl ?_
    refine Run.opsEnd ?_
    cases h
    exact Run.ret Try.func23 rfl (res_cell rfl (x_load (ex_loadA rfl (hH28.cells (i := 0) rfl 0 rfl) rdLe_rfl agg60 rfl rfl rfl)) (res_tmp rfl res_nil)) rfl
  · have h := bif_f hc27 h
    refine Run.condF' rfl hc27 ?_
    refine Run.skip (Run.seq (Run.region ?_))
    refine Run.opG wantS_none (ex_move rfl) rfl ?_
    refine Run.opG wantS_none (ex_move rfl) rfl ?_
    obtain ⟨r30, hr30, h⟩ := bnd_some h
    refine Run.callP wantS_none (ex_call rfl mkk56 cal56) rfl (search_envelope_ok F a1 a2 s1 _ _ ((hs1).mono hH23.le (fun _ _ => rep65_mo hH23.le)) hr30) ?_
    refine Run.opX wantS_none rfl (ExG.storeC (c' := [(.int .i64 r30.Many), (.int .i64 r30.Code)]) rfl rfl rfl hH23 (i := 0) rfl sz60 rfl rfl rfl rfl rfl) ?_
    rintro _ M32 ⟨rfl, (hH32 : Has (ro (frozen M)) M32 [.obj b22 (.row 60 .whole [(.int .i64 r30.Many), (.int .i64 r30.Code)])])⟩
    refine Run.opG wantS_none (ex_assign rfl) rfl ?_
    refine Run.opsEnd ?_
    cases h
    exact Run.ret Try.func23 rfl (res_cell rfl (x_load (ex_loadA rfl (hH32.cells (i := 0) rfl 0 rfl) rdLe_rfl agg60 rfl rfl rfl)) (res_tmp rfl res_nil)) rfl

theorem mkk23 : makeK Try.prog 23 = none := by kernel_rfl
theorem cal23 : callable Try.prog 23 = true := by kernel_rfl
theorem agk3 : aggK Try.prog 3 = some .int := by kernel_rfl
theorem agk60 : aggK Try.prog 60 = some (.st [⟨ "Many", 3, 0, false, "", "", 0⟩, ⟨ "Code", 3, 1, false, "", "", 8⟩]) := by kernel_rfl
theorem aeq60 : aggEq Try.prog 60 = false := by kernel_rfl
theorem plan24_1_0_1_0_1_1_0 : planOf Try.prog (opsC (atC Try.prog 24 [1, 0, 1, 0, 1, 1, 0])) = some [.fl 0, .fl 1, .fl 2, .an 3 [0], .fl 4, .fl 5, .sync] := by kernel_rfl
abbrev search_Open_post (r : (List Int) × Int) : SV → Mem → Prop := fun s Me => ∃ q1, s = (.tuple [q1, (.int .i64 r.2)]) ∧ Has (fun _ => none) Me [.vec 3 1 r.1.length q1 (r.1.flatMap enc3)]

def search_Open (F : Nat) (a0 : S_api_Envelope) (a1 : (List Int)) (a2 : (List S_api_Wave)) (a3 : Int) : Option ((List Int) × Int) :=
  bnd (search_checkSeal F a1 a2 a3) fun r25 =>
  bif (!(r25 == (0 : Int))) then
    some (([] : List Int), r25)
  else
    bnd (search_envelope F a2 a3) fun r30 =>
    bif (!((a0.Many == r30.Many) && ((a0.Code == r30.Code) && true))) then
      some (([] : List Int), (84 : Int))
    else
      bnd (search_added F a1 a2 ((-1) : Int)) fun r37 =>
      bnd (search_isRecord F r37) fun r41 =>
      bif (!r41) then
        some (([] : List Int), (8 : Int))
      else
        some (r37, (0 : Int))

theorem search_Open_ok (F : Nat) (a0 : S_api_Envelope) (a1 : (List Int)) (a2 : (List S_api_Wave)) (a3 : Int) (s0 s1 : SV) (r : (List Int) × Int) (M : Mem) (hs0 : Slc (rd M) 1 (FlatR enc3) s0 a1) (hs1 : Slc (rd M) 3 (rep65 (rd M)) s1 a2) (h : search_Open F a0 a1 a2 a3 = some r) : CallsM Try.prog 24 [(.agg [(.int .i64 a0.Many), (.int .i64 a0.Code)]), s0, s1, (.int .i64 a3)] M (fun s M' => ∃ q1, s = (.tuple [q1, (.int .i64 r.2)]) ∧ New M M' [.vec 3 1 r.1.length q1 (r.1.flatMap enc3)]) := by
  refine CallsM.fresh (Q := search_Open_post r) Try.func24 rfl rfl ?_ (by rintro s Me ⟨q1, rfl, hx⟩ ha hw; exact ⟨_, rfl, New.of rfl hx ha hw⟩)
  rw [search_Open] at h
  replace hs0 := hs0.mono (rdLe_frozen M) (fun _ _ h => h)
  replace hs1 := hs1.mono (rdLe_frozen M) (fun _ _ => rep65_mo (rdLe_frozen M))
  have hH := Has.nil (frozen M)
  refine Run.seq (Run.region ?_)
  refine Run.opX wantS_none rfl (ExG.box rfl rfl hH) ?_
  rintro _ M23 ⟨b22, rfl, (hH23 : Has (ro (frozen M)) M23 [.obj b22 (.row 60 .whole [(.int .i64 a0.Many), (.int .i64 a0.Code)])])⟩
  refine Run.opG wantS_none (ex_assign rfl) rfl ?_
  refine Run.opG wantS_none (ex_assign rfl) rfl ?_
  refine Run.opsEnd (Run.seq (Run.seq (Run.region ?_)))
  refine Run.opG wantS_none (ex_move rfl) rfl ?_
  refine Run.opG wantS_none (ex_move rfl) rfl ?_
  refine Run.opG wantS_none (ex_move rfl) rfl ?_
  obtain ⟨r25, hr25, h⟩ := bnd_some h
  refine Run.callP wantS_none (ex_call rfl mkk55 cal55) rfl (search_checkSeal_ok F a1 a2 a3 s0 s1 _ _ (hH23.slcF hs0) ((hs1).mono hH23.le (fun _ _ => rep65_mo hH23.le)) hr25) ?_
  refine Run.opG wantS_none (ex_assign rfl) rfl ?_
  refine Run.opsEnd (Run.block (Run.seq (Run.region ?_)))
  refine Run.opG wantS_none (ex_move rfl) rfl ?_
  refine Run.opG wantS_none (ex_neq rfl rfl) rfl ?_
  refine Run.opG wantS_none (ex_assign rfl) rfl ?_
  refine Run.opsEnd ?_
  rcases btf ((!(r25 == (0 : Int)))) with hc27 | hc27
  · have h := bif_t hc27 h
    refine Run.condT' rfl hc27 ?_
    refine Run.seq (Run.region ?_)
    refine Run.opG wantS_none (ex_move rfl) rfl ?_
    refine Run.opG wantS_none (ex_assign rfl) rfl ?_
    refine Run.opG wantS_none (ex_assign rfl) rfl ?_
    refine Run.opsEnd ?_
    have hH29 : Has (ro (frozen M)) M23 [.vec 3 1 ([] : List Int).length .nils (([] : List Int).flatMap enc3), .obj b22 (.row 60 .whole [(.int .i64 a0.Many), (.int .i64 a0.Code)])] := hH23.nils 3 1
    cases h
    exact Run.ret Try.func24 rfl (res_tmp rfl (res_tmp rfl res_nil)) ⟨_, rfl, (hH29.pick [0] rfl rfl).upF (none_le _)⟩
  · have h := bif_f hc27 h
    refine Run.condF' rfl hc27 ?_
    refine Run.seq ?_
    refine Run.drawG plan24_1_0_1_0_1_1_0 ?_
    refine DrawG.fl rfl (ev_ex wantS_none (ex_loadA rfl (hH23.cells (i := 0) rfl 0 rfl) rdLe_rfl agg60 rfl rfl rfl)) rfl ?_
    refine DrawG.fl rfl (ev_ex wantS_none (ex_move rfl)) rfl ?_
    refine DrawG.fl rfl (ev_ex wantS_none (ex_move rfl)) rfl ?_
    obtain ⟨r30, hr30, h⟩ := bnd_some h
    refine DrawG.callP rfl wantS_none (ex_call rfl mkk56 cal56) rfl (search_envelope_ok F a2 a3 s1 _ _ ((hs1).mono hH23.le (fun _ _ => rep65_mo hH23.le)) hr30) (st_cons rfl (ev_ex wantS_none (ex_loadA rfl (hH23.cells (i := 0) rfl 0 rfl) rdLe_rfl agg60 rfl rfl rfl)) rfl rfl rfl st_nil) ?_
    refine DrawG.fl rfl (ev_ex wantS_none (ex_neqA rfl rfl aeq60 (eqA_st agk60 (eqFs_cons (by decide) (part_one agg3 rfl) (part_one agg3 rfl) (eqA_int agk3) (eqFs_cons (by decide) (part_one agg3 rfl) (part_one agg3 rfl) (eqA_int agk3) eqFs_nil))))) rfl ?_
    refine DrawG.fl rfl (ev_ex wantS_none (ex_assign rfl)) rfl ?_
    refine DrawG.sync ?_
    refine DrawG.nil ?_
    rcases btf ((!((a0.Many == r30.Many) && ((a0.Code == r30.Code) && true)))) with hc32 | hc32
    · have h := bif_t hc32 h
      refine Run.condT' rfl hc32 ?_
      refine Run.seq (Run.region ?_)
      refine Run.opG wantS_none (ex_assign rfl) rfl ?_
      refine Run.opG wantS_none (ex_assign rfl) rfl ?_
      refine Run.opsEnd ?_
      have hH34 : Has (ro (frozen M)) M23 [.vec 3 1 ([] : List Int).length .nils (([] : List Int).flatMap enc3), .obj b22 (.row 60 .whole [(.int .i64 a0.Many), (.int .i64 a0.Code)])] := hH23.nils 3 1
      cases h
      exact Run.ret Try.func24 rfl (res_tmp rfl (res_tmp rfl res_nil)) ⟨_, rfl, (hH34.pick [0] rfl rfl).upF (none_le _)⟩
    · have h := bif_f hc32 h
      refine Run.condF' rfl hc32 ?_
      refine Run.skip (Run.inBlock (Run.seq (Run.region ?_)))
      refine Run.opG wantS_none (ex_move rfl) rfl ?_
      refine Run.opG wantS_none (ex_move rfl) rfl ?_
      obtain ⟨r37, hr37, h⟩ := bnd_some h
      refine Run.callX wantS_none (ex_call rfl mkk54 cal54) rfl (search_added_ok F a1 a2 ((-1) : Int) s0 s1 _ _ (hH23.slcF hs0) ((hs1).mono hH23.le (fun _ _ => rep65_mo hH23.le)) hr37) ?_
      rintro s37_0 M39 ⟨_, rfl, hN37⟩
      have hH39 : Has (ro (frozen M)) M39 [.vec 3 1 r37.length s37_0 (r37.flatMap enc3), .obj b22 (.row 60 .whole [(.int .i64 a0.Many), (.int .i64 a0.Code)])] := hN37.1 _ _ hH23
      refine Run.enter wantS_none (ex_call rfl mkk53 cal53) Try.func53 rfl rfl ?_
      refine Run.seq (Run.region ?_)
      refine Run.opG wantS_none (ex_assign rfl) rfl ?_
      refine Run.opG wantS_none (ex_assign rfl) rfl ?_
      refine Run.opsEnd (Run.seq (Run.seq (Run.region ?_)))
      refine Run.opG wantS_none (ex_move rfl) rfl ?_
      obtain ⟨r41, hr41, h⟩ := bnd_some h
      refine Run.callP wantS_none (ex_call rfl mkk35 cal35) rfl (search_isRecord_ok F r37 s37_0 _ _ (hH39.slc (i := 0) rfl enc3_len) hr41) ?_
      refine Run.opG wantS_none (ex_not rfl) rfl ?_
      refine Run.opsEnd ?_
      rcases btf ((!r41)) with hc43 | hc43
      · have h := bif_t hc43 h
        refine Run.condT' rfl hc43 ?_
        refine Run.seq (Run.region ?_)
        refine Run.opG wantS_none (ex_assign rfl) rfl ?_
        refine Run.opG wantS_none (ex_assign rfl) rfl ?_
        refine Run.opsEnd ?_
        refine Run.retTo Try.func53 rfl (res_tmp rfl (res_tmp rfl res_nil)) rfl ?_
        refine Run.opG wantS_none (ex_extract rfl rfl) rfl ?_
        refine Run.opG wantS_none (ex_extract rfl rfl) rfl ?_
        refine Run.opG wantS_none (ex_assign rfl) rfl ?_
        refine Run.opG wantS_none (ex_assign rfl) rfl ?_
        refine Run.opsEnd ?_
        have hH45 : Has (ro (frozen M)) M39 [.vec 3 1 ([] : List Int).length .nils (([] : List Int).flatMap enc3), .vec 3 1 r37.length s37_0 (r37.flatMap enc3), .obj b22 (.row 60 .whole [(.int .i64 a0.Many), (.int .i64 a0.Code)])] := hH39.nils 3 1
        cases h
        exact Run.ret Try.func24 rfl (res_tmp rfl (res_tmp rfl res_nil)) ⟨_, rfl, (hH45.pick [0] rfl rfl).upF (none_le _)⟩
      · have h := bif_f hc43 h
        refine Run.condF' rfl hc43 ?_
        refine Run.skip (Run.seq (Run.region ?_))
        refine Run.opG wantS_none (ex_move rfl) rfl ?_
        refine Run.opG wantS_none (ex_assign rfl) rfl ?_
        refine Run.opG wantS_none (ex_assign rfl) rfl ?_
        refine Run.opsEnd ?_
        refine Run.retTo Try.func53 rfl (res_tmp rfl (res_tmp rfl res_nil)) rfl ?_
        refine Run.opG wantS_none (ex_extract rfl rfl) rfl ?_
        refine Run.opG wantS_none (ex_extract rfl rfl) rfl ?_
        refine Run.opG wantS_none (ex_assign rfl) rfl ?_
        refine Run.opG wantS_none (ex_assign rfl) rfl ?_
        refine Run.opsEnd ?_
        cases h
        exact Run.ret Try.func24 rfl (res_tmp rfl (res_tmp rfl res_nil)) ⟨_, rfl, (hH39.pick [0] rfl rfl).upF (none_le _)⟩

theorem mkk24 : makeK Try.prog 24 = none := by kernel_rfl
theorem cal24 : callable Try.prog 24 = true := by kernel_rfl
theorem elt57 : sliceElt Try.prog 57 = some (⟨3, 40, [(.int .i64 0), (.int .i64 0), .nils], 65⟩ : Elt) := by kernel_rfl
theorem appt57_57 : appT Try.prog 57 57 = some (⟨3, 40, [(.int .i64 0), (.int .i64 0), .nils], 65⟩ : Elt) := by kernel_rfl
theorem off60_0 : fieldOff Try.prog 60 0 = some 0 := by kernel_rfl
theorem off60_1 : fieldOff Try.prog 60 1 = some 1 := by kernel_rfl
theorem plan19_1_1_0_1_0_0_1_0_0_0 : planOf Try.prog (opsC (atC Try.prog 19 [1, 1, 0, 1, 0, 0, 1, 0, 0, 0])) = some [.fl 0, .fl 1, .fl 2, .fl 3, .fl 4, .fl 5, .fl 6, .fl 7, .fl 8, .sync] := by kernel_rfl
abbrev ref00_SameInts_post (r : Bool) : SV → Mem → Prop := fun s _ => s = (.bool r)

def ref00_SameInts_1 (F : Nat) : Nat → (List Int) → (List Int) → Int → Option (Bool)
  | 0, _, _, _ => none
  | N + 1, v0, v1, v5 =>
    bif (decide (v5 < (v0.length : Int))) then
      bnd (idx v0 v5) fun x23 =>
      bnd (idx v1 v5) fun x24 =>
      bif (!(x23 == x24)) then
        some false
      else
        (ref00_SameInts_1 F N) v0 v1 (w64 (v5 + (1 : Int)))
    else
      some true

theorem ref00_SameInts_1_ok (F : Nat) : ∀ (N : Nat), ∀ (v0 : (List Int)) (v1 : (List Int)) (v5 : Int) (sv0 : SV) (sv1 : SV) (Fr : Rd) (M : Mem) (r : Bool) (hv0 : Slc Fr 1 (FlatR enc3) sv0 v0) (hv1 : Slc Fr 1 (FlatR enc3) sv1 v1) (hH : Has Fr M []), ref00_SameInts_1 F N v0 v1 v5 = some r → Run Try.prog ⟨⟨19, [], none⟩, []⟩ 26 (ref00_SameInts_post r) [(0, sv0), (1, sv1), (5, (.int .i64 v5))] [codeC Try.prog 19 [1, 1, 0, 1, 0, 0], loopC Try.prog 19 [1, 1, 0, 1, 0, 0], .inBlock 0, codeC Try.prog 19 [1, 1, 1]] M := by
  intro N
  induction N with
  | zero =>
    intro v0 v1 v5 sv0 sv1 Fr M r hv0 hv1 hH h
    simp [ref00_SameInts_1] at h
  | succ N ih =>
    intro v0 v1 v5 sv0 sv1 Fr M r hv0 hv1 hH h
    rw [ref00_SameInts_1] at h
    refine Run.seq (Run.seq (Run.region ?_))
    refine Run.opG wantS_none (ex_move rfl) rfl ?_
    refine Run.opG wantS_none (ex_move rfl) rfl ?_
    refine Run.opG wantS_none (ex_len' rfl hv0 lenk22) rfl ?_
    refine Run.opG wantS_none (ex_lss rfl rfl) rfl ?_
    refine Run.opsEnd ?_
    rcases btf ((decide (v5 < (v0.length : Int)))) with hc22 | hc22
    · have h := bif_t hc22 h
      refine Run.condT' rfl hc22 ?_
      refine Run.skip (Run.seq (Run.block (Run.seq ?_)))
      refine Run.drawG plan19_1_1_0_1_0_0_1_0_0_0 ?_
      refine DrawG.fl rfl (ev_ex wantS_none (ex_move rfl)) rfl ?_
      refine DrawG.fl rfl (ev_ex wantS_none (ex_move rfl)) rfl ?_
      obtain ⟨x23, hx23, h⟩ := bnd_some h
      obtain ⟨p23, o23, _, hx23, hp23, rfl⟩ := sl_elem (P := Try.prog) (t := 22) (kk := .i64) hv0 hx23 els22
      refine DrawG.fl rfl (ev_ex wantS_none (ex_elX rfl rfl hx23)) rfl ?_
      refine DrawG.fl rfl (ev_ex wantS_none (ex_load1 rfl (hH.ptrF hp23) rdLe_rfl agg3)) rfl ?_
      refine DrawG.fl rfl (ev_ex wantS_none (ex_move rfl)) rfl ?_
      refine DrawG.fl rfl (ev_ex wantS_none (ex_move rfl)) rfl ?_
      obtain ⟨x24, hx24, h⟩ := bnd_some h
      obtain ⟨p24, o24, _, hx24, hp24, rfl⟩ := sl_elem (P := Try.prog) (t := 22) (kk := .i64) hv1 hx24 els22
      refine DrawG.fl rfl (ev_ex wantS_none (ex_elX rfl rfl hx24)) rfl ?_
      refine DrawG.fl rfl (ev_ex wantS_none (ex_load1 rfl (hH.ptrF hp24) rdLe_rfl agg3)) rfl ?_
      refine DrawG.fl rfl (ev_ex wantS_none (ex_neq rfl rfl)) rfl ?_
      refine DrawG.sync ?_
      refine DrawG.nil ?_
      rcases btf ((!(x23 == x24))) with hc25 | hc25
      · have h := bif_t hc25 h
        refine Run.condT' rfl hc25 ?_
        refine Run.seq (Run.region ?_)
        refine Run.opG wantS_none (ex_assign rfl) rfl ?_
        refine Run.opsEnd ?_
        cases h
        exact Run.ret Try.func19 rfl (res_tmp rfl res_nil) rfl
      · have h := bif_f hc25 h
        refine Run.condF' rfl hc25 ?_
        refine Run.skip (Run.inBlock (Run.region ?_))
        refine Run.opG wantS_none (ex_move rfl) rfl ?_
        refine Run.opG wantS_none (ex_add rfl rfl) rfl ?_
        refine Run.opG wantS_none (ex_assign rfl) rfl ?_
        refine Run.opsEnd (Run.inLoop ?_)
        exact Run.pick [0, 1, 5] (ih v0 v1 (w64 (v5 + (1 : Int))) sv0 sv1 _ _ _ hv0 hv1 hH h)
    · have h := bif_f hc22 h
      refine Run.condF' rfl hc22 ?_
      refine Run.exit rfl (Run.seq (Run.region ?_))
      refine Run.opG wantS_none (ex_assign rfl) rfl ?_
      refine Run.opsEnd ?_
      cases h
      exact Run.ret Try.func19 rfl (res_tmp rfl res_nil) rfl

def ref00_SameInts (F : Nat) (a0 : (List Int)) (a1 : (List Int)) : Option (Bool) :=
  bif (!((a0.length : Int) == (a1.length : Int))) then
    some false
  else
    ref00_SameInts_1 F F a0 a1 (0 : Int)

theorem ref00_SameInts_ok (F : Nat) (a0 : (List Int)) (a1 : (List Int)) (s0 s1 : SV) (r : Bool) (M : Mem) (hs0 : Slc (rd M) 1 (FlatR enc3) s0 a0) (hs1 : Slc (rd M) 1 (FlatR enc3) s1 a1) (h : ref00_SameInts F a0 a1 = some r) : CallsM Try.prog 19 [s0, s1] M (fun s M' => s = (.bool r) ∧ M' = M) := by
  refine CallsM.plain Try.func19 rfl rfl rfl (show Run _ _ _ (ref00_SameInts_post r) _ _ _ from ?_)
  rw [ref00_SameInts] at h
  replace hs0 := hs0.mono (rdLe_frozen M) (fun _ _ h => h)
  replace hs1 := hs1.mono (rdLe_frozen M) (fun _ _ h => h)
  have hH := Has.nil (frozen M)
  refine Run.seq (Run.region ?_)
  refine Run.opG wantS_none (ex_assign rfl) rfl ?_
  refine Run.opsEnd (Run.seq (Run.seq (Run.region ?_)))
  refine Run.opG wantS_none (ex_move rfl) rfl ?_
  refine Run.opG wantS_none (ex_len' rfl hs0 lenk22) rfl ?_
  refine Run.opG wantS_none (ex_move rfl) rfl ?_
  refine Run.opG wantS_none (ex_len' rfl hs1 lenk22) rfl ?_
  refine Run.opG wantS_none (ex_neq rfl rfl) rfl ?_
  refine Run.opsEnd ?_
  rcases btf ((!((a0.length : Int) == (a1.length : Int)))) with hc21 | hc21
  · have h := bif_t hc21 h
    refine Run.condT' rfl hc21 ?_
    refine Run.seq (Run.region ?_)
    refine Run.opG wantS_none (ex_assign rfl) rfl ?_
    refine Run.opsEnd ?_
    cases h
    exact Run.ret Try.func19 rfl (res_tmp rfl res_nil) rfl
  · have h := bif_f hc21 h
    refine Run.condF' rfl hc21 ?_
    refine Run.skip (Run.seq (Run.seq (Run.region ?_)))
    refine Run.opG wantS_none (ex_assign rfl) rfl ?_
    refine Run.opsEnd (Run.block (Run.loop ?_))
    exact Run.pick [0, 1, 5] (ref00_SameInts_1_ok F F a0 a1 (0 : Int) s0 s1 _ _ _ hs0 hs1 hH h)

theorem mkk19 : makeK Try.prog 19 = none := by kernel_rfl
theorem cal19 : callable Try.prog 19 = true := by kernel_rfl
abbrev law08_SearchOpens_post (r : Bool) : SV → Mem → Prop := fun s _ => s = (.bool r)

def law08_SearchOpens_1 (F : Nat) (v28 : Bool) : Option (Bool) :=
  some v28

theorem law08_SearchOpens_1_ok (F : Nat) : ∀ (v28 : Bool) (Fr : Rd) (M : Mem) (r : Bool) (hH : Has Fr M []), law08_SearchOpens_1 F v28 = some r → Run Try.prog ⟨⟨10, [], none⟩, []⟩ 121 (law08_SearchOpens_post r) [(28, (.bool v28))] [itemC Try.prog 10 [1, 1, 0, 1, 0, 0] 6, codeC Try.prog 10 [1, 1, 0, 1, 0, 1], codeC Try.prog 10 [1, 1, 1]] M := by
  intro v28 Fr M r hH h
  rw [law08_SearchOpens_1] at h
  refine Run.opG wantS_none (ex_assign rfl) rfl ?_
  refine Run.opsEnd ?_
  cases h
  exact Run.ret Try.func10 rfl (res_tmp rfl res_nil) rfl

def law08_SearchOpens_2 (F : Nat) (v42 : Bool) : Option (Bool) :=
  some v42

theorem law08_SearchOpens_2_ok (F : Nat) : ∀ (v42 : Bool) (Fr : Rd) (M : Mem) (r : Bool) (hH : Has Fr M []), law08_SearchOpens_2 F v42 = some r → Run Try.prog ⟨⟨10, [], none⟩, []⟩ 121 (law08_SearchOpens_post r) [(42, (.bool v42))] [itemC Try.prog 10 [1, 1, 1, 1, 0, 1, 0, 0] 5, codeC Try.prog 10 [1, 1, 1, 1, 0, 1, 0, 1], codeC Try.prog 10 [1, 1, 1, 1, 1]] M := by
  intro v42 Fr M r hH h
  rw [law08_SearchOpens_2] at h
  refine Run.opG wantS_none (ex_assign rfl) rfl ?_
  refine Run.opsEnd ?_
  cases h
  exact Run.ret Try.func10 rfl (res_tmp rfl res_nil) rfl

def law08_SearchOpens_7 (F : Nat) (v120 : Bool) : Option (Bool) :=
  some v120

theorem law08_SearchOpens_7_ok (F : Nat) : ∀ (v120 : Bool) (Fr : Rd) (M : Mem) (r : Bool) (hH : Has Fr M []), law08_SearchOpens_7 F v120 = some r → Run Try.prog ⟨⟨10, [], none⟩, []⟩ 121 (law08_SearchOpens_post r) [(120, (.bool v120))] [itemC Try.prog 10 [1, 1, 1, 1, 1, 1, 1, 1, 1, 0] 5, codeC Try.prog 10 [1, 1, 1, 1, 1, 1, 1, 1, 1, 1]] M := by
  intro v120 Fr M r hH h
  rw [law08_SearchOpens_7] at h
  refine Run.opG wantS_none (ex_assign rfl) rfl ?_
  refine Run.opsEnd ?_
  cases h
  exact Run.ret Try.func10 rfl (res_tmp rfl res_nil) rfl

def law08_SearchOpens_6 (F : Nat) (v1 : (List S_api_Wave)) (v2 : Int) (c35 : S_api_Envelope) (l24 : (List Int)) : Option (Bool) :=
  bnd (search_Open F (S_api_Envelope.mk (w64 (c35.Many + (1 : Int))) c35.Code) l24 v1 v2) fun r82 =>
  bif (r82.2 == (84 : Int)) then
    bnd (works F) fun r87 =>
    law08_SearchOpens_7 F r87
  else
    law08_SearchOpens_7 F false

theorem law08_SearchOpens_6_ok (F : Nat) : ∀ (v1 : (List S_api_Wave)) (v2 : Int) (c35 : S_api_Envelope) (l24 : (List Int)) (sv1 : SV) (s24 : SV) (b35 : Pos) (Fr : Rd) (M : Mem) (r : Bool) (hv1 : Slc Fr 3 (rep65 Fr) sv1 v1) (hH : Has Fr M [.vec 3 1 l24.length s24 (l24.flatMap enc3), .obj b35 (.row 60 .whole [(.int .i64 c35.Many), (.int .i64 c35.Code)])]), law08_SearchOpens_6 F v1 v2 c35 l24 = some r → Run Try.prog ⟨⟨10, [], none⟩, []⟩ 121 (law08_SearchOpens_post r) [(1, sv1), (2, (.int .i64 v2)), (7, s24), (9, (.ptr b35 0))] [itemC Try.prog 10 [1, 1, 1, 1, 1, 1, 1, 1, 0] 0, codeC Try.prog 10 [1, 1, 1, 1, 1, 1, 1, 1, 1]] M := by
  intro v1 v2 c35 l24 sv1 s24 b35 Fr M r hv1 hH h
  rw [law08_SearchOpens_6] at h
  refine Run.opG wantS_none (ex_fieldAddr rfl off60_0) rfl ?_
  refine Run.opG wantS_none (ex_load1 rfl (hH.cells (i := 1) rfl 0 rfl) rdLe_rfl agg3) rfl ?_
  refine Run.opG wantS_none (ex_add rfl rfl) rfl ?_
  refine Run.opG wantS_none (ex_fieldAddr rfl off60_1) rfl ?_
  refine Run.opG wantS_none (ex_load1 rfl (hH.cells (i := 1) rfl 1 rfl) rdLe_rfl agg3) rfl ?_
  refine Run.opG wantS_none (ex_build (r := [(.int .i64 (w64 (c35.Many + (1 : Int)))), (.int .i64 c35.Code)]) rfl zer60 pls60 rfl) rfl ?_
  refine Run.opG wantS_none (ex_move rfl) rfl ?_
  refine Run.opG wantS_none (ex_move rfl) rfl ?_
  refine Run.opG wantS_none (ex_move rfl) rfl ?_
  obtain ⟨r82, hr82, h⟩ := bnd_some h
  refine Run.callX wantS_none (ex_call rfl mkk24 cal24) rfl (search_Open_ok F (S_api_Envelope.mk (w64 (c35.Many + (1 : Int))) c35.Code) l24 v1 v2 s24 sv1 _ _ (hH.slc (i := 0) rfl enc3_len) ((hv1).mono hH.le (fun _ _ => rep65_mo hH.le)) hr82) ?_
  rintro _ M84 ⟨s82_0, rfl, hN82⟩
  have hH84 : Has Fr M84 [.vec 3 1 r82.1.length s82_0 (r82.1.flatMap enc3), .vec 3 1 l24.length s24 (l24.flatMap enc3), .obj b35 (.row 60 .whole [(.int .i64 c35.Many), (.int .i64 c35.Code)])] := hN82.1 _ _ hH
  refine Run.opG wantS_none (ex_move rfl) rfl ?_
  refine Run.opG wantS_none (ex_extract rfl rfl) rfl ?_
  refine Run.opG wantS_none (ex_extract rfl rfl) rfl ?_
  refine Run.opG wantS_none (ex_assign rfl) rfl ?_
  refine Run.opsEnd (Run.seq (Run.region ?_))
  refine Run.opG wantS_none (ex_move rfl) rfl ?_
  refine Run.opG wantS_none (ex_eql rfl rfl) rfl ?_
  refine Run.opG wantS_none (ex_move rfl) rfl ?_
  rcases btf ((r82.2 == (84 : Int))) with hc85 | hc85
  · have h := bif_t hc85 h
    obtain ⟨r87, hr87, h⟩ := bnd_some h
    refine Run.callP (wantS_yes' rfl rfl hc85) (ex_call rfl mkk12 cal12) rfl (works_ok F r87 _ hH84  hr87) ?_
    refine Run.opG wantS_none (ex_pickT' rfl hc85 rfl rfl) rfl ?_
    exact Run.pick [120] (law08_SearchOpens_7_ok F r87 _ _ _ (hH84.pick [] rfl rfl) h)
  · have h := bif_f hc85 h
    refine Run.no (wantS_not' rfl rfl hc85) rfl ?_
    refine Run.opG wantS_none (ex_pickF' rfl hc85 rfl rfl) rfl ?_
    exact Run.pick [120] (law08_SearchOpens_7_ok F false _ _ _ (hH84.pick [] rfl rfl) h)

def law08_SearchOpens_5 (F : Nat) (v1 : (List S_api_Wave)) (v2 : Int) (c35 : S_api_Envelope) (c63_0 : Int) (c63_1 : Int) (c63_2 : (List Int)) (l24 : (List Int)) (l58 : (List S_api_Wave)) : Option (Bool) :=
  bnd (inn l58 (w64 ((l58.length : Int) - (1 : Int)))) fun o70 =>
  bnd (upd l58 o70 (S_api_Wave.mk c63_0 c63_1 c63_2)) fun l72 =>
  bnd (search_Open F c35 l24 l72 v2) fun r76 =>
  bif (!(r76.2 == (84 : Int))) then
    some false
  else
    law08_SearchOpens_6 F v1 v2 c35 l24

theorem law08_SearchOpens_5_ok (F : Nat) : ∀ (v1 : (List S_api_Wave)) (v2 : Int) (c35 : S_api_Envelope) (c63_0 : Int) (c63_1 : Int) (c63_2 : (List Int)) (l24 : (List Int)) (l58 : (List S_api_Wave)) (sv1 : SV) (sc63_2 : SV) (s24 : SV) (b35 : Pos) (s58 : SV) (r58 : (List SV)) (b63 : Pos) (Fr : Rd) (M : Mem) (r : Bool) (hv1 : Slc Fr 3 (rep65 Fr) sv1 v1) (hc63_2 : Slc Fr 1 (FlatR enc3) sc63_2 c63_2) (hr58 : Rows (rep65 Fr) 3 r58 l58) (hH : Has Fr M [.vec 3 1 l24.length s24 (l24.flatMap enc3), .obj b35 (.row 60 .whole [(.int .i64 c35.Many), (.int .i64 c35.Code)]), .vec 65 3 l58.length s58 r58, .obj b63 (.row 65 .whole [(.int .i64 c63_0), (.int .i64 c63_1), sc63_2])]), law08_SearchOpens_5 F v1 v2 c35 c63_0 c63_1 c63_2 l24 l58 = some r → Run Try.prog ⟨⟨10, [], none⟩, []⟩ 121 (law08_SearchOpens_post r) [(1, sv1), (2, (.int .i64 v2)), (7, s24), (9, (.ptr b35 0)), (11, s58), (12, (.ptr b63 0))] [itemC Try.prog 10 [1, 1, 1, 1, 1, 1, 1, 0, 1, 0, 1, 1, 1, 1, 0] 0, codeC Try.prog 10 [1, 1, 1, 1, 1, 1, 1, 0, 1, 0, 1, 1, 1, 1, 1], codeC Try.prog 10 [1, 1, 1, 1, 1, 1, 1, 1]] M := by
  intro v1 v2 c35 c63_0 c63_1 c63_2 l24 l58 sv1 sc63_2 s24 b35 s58 r58 b63 Fr M r hv1 hc63_2 hr58 hH h
  rw [law08_SearchOpens_5] at h
  refine Run.opG wantS_none (ex_move rfl) rfl ?_
  refine Run.opG wantS_none (ex_move rfl) rfl ?_
  refine Run.opG wantS_none (ex_len' rfl (hH.slcR (i := 2) rfl hr58) lenk57) rfl ?_
  refine Run.opG wantS_none (ex_sub rfl rfl) rfl ?_
  refine Run.opG wantS_none (ex_loadA rfl (hH.cells (i := 3) rfl 0 rfl) rdLe_rfl agg65 rfl rfl rfl) rfl ?_
  obtain ⟨o70, ho70, h⟩ := bnd_some h
  obtain ⟨p70, hb70, hx70⟩ := vec_placeR (P := Try.prog) (t := 57) (kk := .i64) hH (i := 2) rfl ho70 els57
  refine Run.opG wantS_none (ex_elX rfl rfl hx70) rfl ?_
  obtain ⟨l72, hl72, h⟩ := bnd_some h
  obtain ⟨_, hj72, hlt72, he72⟩ := upd_some hl72
  obtain rfl : o70 = _ := Int.ofNat.inj hj72
  have hr72 : Rows (rep65 Fr) 3 (r58.take (o70 * 3) ++ ([(.int .i64 c63_0), (.int .i64 c63_1), sc63_2] ++ r58.drop (o70 * 3 + 3))) l72 := he72 ▸ Rows.set hr58 hlt72 rfl ⟨sc63_2, rfl, hc63_2⟩
  have hl72 : l58.length = l72.length := by rw [he72, List.length_set]
  refine Run.opX wantS_none rfl (ExG.storeR' rfl rfl rfl hH (i := 2) rfl hb70 hlt72 sz65 rfl (ones_cons rfl (ones_cons rfl (ones_cons (slc_one hc63_2) ones_nil))) hl72) ?_
  rintro _ M73 ⟨rfl, (hH73 : Has Fr M73 [.vec 3 1 l24.length s24 (l24.flatMap enc3), .obj b35 (.row 60 .whole [(.int .i64 c35.Many), (.int .i64 c35.Code)]), .vec 65 3 l72.length s58 (r58.take (o70 * 3) ++ ([(.int .i64 c63_0), (.int .i64 c63_1), sc63_2] ++ r58.drop (o70 * 3 + 3))), .obj b63 (.row 65 .whole [(.int .i64 c63_0), (.int .i64 c63_1), sc63_2])])⟩
  refine Run.opsEnd (Run.seq (Run.region ?_))
  refine Run.opG wantS_none (ex_loadA rfl (hH73.cells (i := 1) rfl 0 rfl) rdLe_rfl agg60 rfl rfl rfl) rfl ?_
  refine Run.opG wantS_none (ex_move rfl) rfl ?_
  refine Run.opG wantS_none (ex_move rfl) rfl ?_
  refine Run.opG wantS_none (ex_move rfl) rfl ?_
  obtain ⟨r76, hr76, h⟩ := bnd_some h
  refine Run.callX wantS_none (ex_call rfl mkk24 cal24) rfl (search_Open_ok F c35 l24 l72 v2 s24 s58 _ _ (hH73.slc (i := 0) rfl enc3_len) (((hH73.slcR (i := 2) rfl hr72)).mono (fun _ _ h => h) (fun _ _ => rep65_mo hH73.le)) hr76) ?_
  rintro _ M78 ⟨s76_0, rfl, hN76⟩
  have hH78 : Has Fr M78 [.vec 3 1 r76.1.length s76_0 (r76.1.flatMap enc3), .vec 3 1 l24.length s24 (l24.flatMap enc3), .obj b35 (.row 60 .whole [(.int .i64 c35.Many), (.int .i64 c35.Code)]), .vec 65 3 l72.length s58 (r58.take (o70 * 3) ++ ([(.int .i64 c63_0), (.int .i64 c63_1), sc63_2] ++ r58.drop (o70 * 3 + 3))), .obj b63 (.row 65 .whole [(.int .i64 c63_0), (.int .i64 c63_1), sc63_2])] := hN76.1 _ _ hH73
  refine Run.opG wantS_none (ex_move rfl) rfl ?_
  refine Run.opG wantS_none (ex_extract rfl rfl) rfl ?_
  refine Run.opG wantS_none (ex_extract rfl rfl) rfl ?_
  refine Run.opG wantS_none (ex_assign rfl) rfl ?_
  refine Run.opG wantS_none (ex_assign rfl) rfl ?_
  refine Run.opsEnd (Run.seq (Run.region ?_))
  refine Run.opG wantS_none (ex_move rfl) rfl ?_
  refine Run.opG wantS_none (ex_neq rfl rfl) rfl ?_
  refine Run.opsEnd ?_
  rcases btf ((!(r76.2 == (84 : Int)))) with hc79 | hc79
  · have h := bif_t hc79 h
    refine Run.condT' rfl hc79 ?_
    refine Run.seq (Run.region ?_)
    refine Run.opG wantS_none (ex_assign rfl) rfl ?_
    refine Run.opsEnd ?_
    cases h
    exact Run.ret Try.func10 rfl (res_tmp rfl res_nil) rfl
  · have h := bif_f hc79 h
    refine Run.condF' rfl hc79 ?_
    refine Run.skip (Run.seq (Run.region ?_))
    exact Run.pick [1, 2, 7, 9] (law08_SearchOpens_6_ok F v1 v2 c35 l24 sv1 s24 b35 _ _ _ hv1 (hH78.pick [1, 2] rfl rfl) h)

def law08_SearchOpens_4 (F : Nat) (v1 : (List S_api_Wave)) (v2 : Int) (v65 : Bool) (c35 : S_api_Envelope) (l24 : (List Int)) : Option (Bool) :=
  bif v65 then
    some false
  else
    bif (decide ((0 : Int) < (v1.length : Int))) then
      bnd (apd 40 ([] : List S_api_Wave) v1) fun l57 =>
      bnd (idx l57 (w64 ((l57.length : Int) - (1 : Int)))) fun x61 =>
      bif (decide ((w64 ((w64 (-x61.Gain)) - (1 : Int))) < ((-64) : Int))) then
        law08_SearchOpens_5 F v1 v2 c35 x61.At (0 : Int) x61.Samples l24 l57
      else
        law08_SearchOpens_5 F v1 v2 c35 x61.At (w64 ((w64 (-x61.Gain)) - (1 : Int))) x61.Samples l24 l57
    else
      law08_SearchOpens_6 F v1 v2 c35 l24

theorem law08_SearchOpens_4_ok (F : Nat) : ∀ (v1 : (List S_api_Wave)) (v2 : Int) (v65 : Bool) (c35 : S_api_Envelope) (l24 : (List Int)) (sv1 : SV) (s24 : SV) (b35 : Pos) (Fr : Rd) (M : Mem) (r : Bool) (hv1 : Slc Fr 3 (rep65 Fr) sv1 v1) (hH : Has Fr M [.vec 3 1 l24.length s24 (l24.flatMap enc3), .obj b35 (.row 60 .whole [(.int .i64 c35.Many), (.int .i64 c35.Code)])]), law08_SearchOpens_4 F v1 v2 v65 c35 l24 = some r → Run Try.prog ⟨⟨10, [], none⟩, []⟩ 121 (law08_SearchOpens_post r) [(1, sv1), (2, (.int .i64 v2)), (7, s24), (9, (.ptr b35 0)), (65, (.bool v65))] [codeC Try.prog 10 [1, 1, 1, 1, 1, 1, 0, 1], codeC Try.prog 10 [1, 1, 1, 1, 1, 1, 1]] M := by
  intro v1 v2 v65 c35 l24 sv1 s24 b35 Fr M r hv1 hH h
  rw [law08_SearchOpens_4] at h
  rcases btf (v65) with hc50 | hc50
  · have h := bif_t hc50 h
    refine Run.condT' rfl hc50 ?_
    refine Run.seq (Run.region ?_)
    refine Run.opG wantS_none (ex_assign rfl) rfl ?_
    refine Run.opsEnd ?_
    cases h
    exact Run.ret Try.func10 rfl (res_tmp rfl res_nil) rfl
  · have h := bif_f hc50 h
    refine Run.condF' rfl hc50 ?_
    refine Run.skip (Run.seq (Run.seq (Run.region ?_)))
    refine Run.opG wantS_none (ex_move rfl) rfl ?_
    refine Run.opG wantS_none (ex_len' rfl hv1 lenk57) rfl ?_
    refine Run.opG wantS_none (ex_gtr rfl rfl) rfl ?_
    refine Run.opsEnd ?_
    rcases btf ((decide ((0 : Int) < (v1.length : Int)))) with hc51 | hc51
    · have h := bif_t hc51 h
      refine Run.condT' rfl hc51 ?_
      refine Run.seq (Run.region ?_)
      have hr53 : Rows (rep65 Fr) 3 [] ([] : List S_api_Wave) := Rows.nil
      refine Run.opX wantS_none rfl (ExG.builtR (z := 3) (c := []) rfl elt57 rfl rfl rfl hH) ?_
      rintro s53 M54 (hH54 : Has Fr M54 [.vec 65 3 ([] : List S_api_Wave).length s53 [], .vec 3 1 l24.length s24 (l24.flatMap enc3), .obj b35 (.row 60 .whole [(.int .i64 c35.Many), (.int .i64 c35.Code)])])
      refine Run.opG wantS_none (ex_move rfl) rfl ?_
      obtain ⟨l57, hl57, h⟩ := bnd_some h
      refine Run.opX wantS_none rfl (ExG.appendQ (R := (rep65 Fr)) rfl rfl hH54 (i := 0) rfl hr53 (fun _ _ => rep65_ones) rfl appt57_57 rfl hv1 (rdLe_roF hH54) hl57) ?_
      rintro s57 M59 ⟨r57, hr57, (hH59 : Has Fr M59 [.vec 65 3 l57.length s57 r57, .vec 3 1 l24.length s24 (l24.flatMap enc3), .obj b35 (.row 60 .whole [(.int .i64 c35.Many), (.int .i64 c35.Code)])])⟩
      refine Run.opG wantS_none (ex_assign rfl) rfl ?_
      refine Run.opsEnd (Run.seq (Run.region ?_))
      refine Run.opG wantS_none (ex_move rfl) rfl ?_
      refine Run.opG wantS_none (ex_move rfl) rfl ?_
      refine Run.opG wantS_none (ex_len' rfl (hH59.slcR (i := 0) rfl hr57) lenk57) rfl ?_
      refine Run.opG wantS_none (ex_sub rfl rfl) rfl ?_
      obtain ⟨x61, hx61, h⟩ := bnd_some h
      obtain ⟨p61, o61, hb61, hx61, he61⟩ := vec_elemR (P := Try.prog) (t := 57) (kk := .i64) hH59 (i := 0) rfl hx61 els57
      obtain ⟨_, hcs61, hln61, ⟨q61_0, rfl, hq61_0⟩⟩ := hr57.at he61
      refine Run.opG wantS_none (ex_elX rfl rfl hx61) rfl ?_
      refine Run.opG wantS_none (ex_loadA rfl (hH59.atR (i := 0) rfl hb61 hcs61 hln61) rdLe_rfl agg65 rfl rfl rfl) rfl ?_
      refine Run.opX wantS_none rfl (ExG.new (v := fun b => .ptr b 0) (ex_alloc zer65) hH59) ?_
      rintro _ M64 ⟨b63, rfl, (hH64 : Has Fr M64 [.obj b63 (.row 65 .whole [(.int .i64 0), (.int .i64 0), .nils]), .vec 65 3 l57.length s57 r57, .vec 3 1 l24.length s24 (l24.flatMap enc3), .obj b35 (.row 60 .whole [(.int .i64 c35.Many), (.int .i64 c35.Code)])])⟩
      refine Run.opX wantS_none rfl (ExG.storeC (c' := [(.int .i64 x61.At), (.int .i64 x61.Gain), q61_0]) rfl rfl rfl hH64 (i := 0) rfl sz65 rfl rfl rfl (ones_cons rfl (ones_cons rfl (ones_cons (slc_one hq61_0) ones_nil))) rfl) ?_
      rintro _ M65 ⟨rfl, (hH65 : Has Fr M65 [.obj b63 (.row 65 .whole [(.int .i64 x61.At), (.int .i64 x61.Gain), q61_0]), .vec 65 3 l57.length s57 r57, .vec 3 1 l24.length s24 (l24.flatMap enc3), .obj b35 (.row 60 .whole [(.int .i64 c35.Many), (.int .i64 c35.Code)])])⟩
      refine Run.opsEnd (Run.seq (Run.region ?_))
      refine Run.opG wantS_none (ex_fieldAddr rfl off65_1) rfl ?_
      refine Run.opG wantS_none (ex_load1 rfl (hH65.cells (i := 0) rfl 1 rfl) rdLe_rfl agg3) rfl ?_
      refine Run.opG wantS_none (ex_neg rfl) rfl ?_
      refine Run.opG wantS_none (ex_sub rfl rfl) rfl ?_
      refine Run.opG wantS_none (ex_fieldAddr rfl off65_1) rfl ?_
      refine Run.opX wantS_none rfl (ExG.storeC (c' := [(.int .i64 x61.At), (.int .i64 (w64 ((w64 (-x61.Gain)) - (1 : Int)))), q61_0]) rfl rfl rfl hH65 (i := 0) rfl sz3 rfl rfl rfl rfl rfl) ?_
      rintro _ M66 ⟨rfl, (hH66 : Has Fr M66 [.obj b63 (.row 65 .whole [(.int .i64 x61.At), (.int .i64 (w64 ((w64 (-x61.Gain)) - (1 : Int)))), q61_0]), .vec 65 3 l57.length s57 r57, .vec 3 1 l24.length s24 (l24.flatMap enc3), .obj b35 (.row 60 .whole [(.int .i64 c35.Many), (.int .i64 c35.Code)])])⟩
      refine Run.opsEnd (Run.seq (Run.seq (Run.region ?_)))
      refine Run.opG wantS_none (ex_fieldAddr rfl off65_1) rfl ?_
      refine Run.opG wantS_none (ex_load1 rfl (hH66.cells (i := 0) rfl 1 rfl) rdLe_rfl agg3) rfl ?_
      refine Run.opG wantS_none (ex_lss rfl rfl) rfl ?_
      refine Run.opsEnd ?_
      rcases btf ((decide ((w64 ((w64 (-x61.Gain)) - (1 : Int))) < ((-64) : Int)))) with hc67 | hc67
      · have h := bif_t hc67 h
        refine Run.condT' rfl hc67 ?_
        refine Run.region ?_
        refine Run.opG wantS_none (ex_fieldAddr rfl off65_1) rfl ?_
        refine Run.opX wantS_none rfl (ExG.storeC (c' := [(.int .i64 x61.At), (.int .i64 0), q61_0]) rfl rfl rfl hH66 (i := 0) rfl sz3 rfl rfl rfl rfl rfl) ?_
        rintro _ M68 ⟨rfl, (hH68 : Has Fr M68 [.obj b63 (.row 65 .whole [(.int .i64 x61.At), (.int .i64 0), q61_0]), .vec 65 3 l57.length s57 r57, .vec 3 1 l24.length s24 (l24.flatMap enc3), .obj b35 (.row 60 .whole [(.int .i64 c35.Many), (.int .i64 c35.Code)])])⟩
        refine Run.opsEnd (Run.seq (Run.region ?_))
        exact Run.pick [1, 2, 7, 9, 11, 12] (law08_SearchOpens_5_ok F v1 v2 c35 x61.At (0 : Int) x61.Samples l24 l57 sv1 q61_0 s24 b35 s57 r57 b63 _ _ _ hv1 hq61_0 hr57 (hH68.pick [2, 3, 1, 0] rfl rfl) h)
      · have h := bif_f hc67 h
        refine Run.condF' rfl hc67 ?_
        refine Run.skip (Run.seq (Run.region ?_))
        exact Run.pick [1, 2, 7, 9, 11, 12] (law08_SearchOpens_5_ok F v1 v2 c35 x61.At (w64 ((w64 (-x61.Gain)) - (1 : Int))) x61.Samples l24 l57 sv1 q61_0 s24 b35 s57 r57 b63 _ _ _ hv1 hq61_0 hr57 (hH66.pick [2, 3, 1, 0] rfl rfl) h)
    · have h := bif_f hc51 h
      refine Run.condF' rfl hc51 ?_
      refine Run.skip (Run.seq (Run.region ?_))
      exact Run.pick [1, 2, 7, 9] (law08_SearchOpens_6_ok F v1 v2 c35 l24 sv1 s24 b35 _ _ _ hv1 hH h)

def law08_SearchOpens_3 (F : Nat) (v1 : (List S_api_Wave)) (v2 : Int) (v58 : Bool) (c35 : S_api_Envelope) (l24 : (List Int)) : Option (Bool) :=
  bif v58 then
    law08_SearchOpens_4 F v1 v2 true c35 l24
  else
    law08_SearchOpens_4 F v1 v2 (!(c35.Many == (v1.length : Int))) c35 l24

theorem law08_SearchOpens_3_ok (F : Nat) : ∀ (v1 : (List S_api_Wave)) (v2 : Int) (v58 : Bool) (c35 : S_api_Envelope) (l24 : (List Int)) (sv1 : SV) (s24 : SV) (b35 : Pos) (Fr : Rd) (M : Mem) (r : Bool) (hv1 : Slc Fr 3 (rep65 Fr) sv1 v1) (hH : Has Fr M [.vec 3 1 l24.length s24 (l24.flatMap enc3), .obj b35 (.row 60 .whole [(.int .i64 c35.Many), (.int .i64 c35.Code)])]), law08_SearchOpens_3 F v1 v2 v58 c35 l24 = some r → Run Try.prog ⟨⟨10, [], none⟩, []⟩ 121 (law08_SearchOpens_post r) [(1, sv1), (2, (.int .i64 v2)), (7, s24), (9, (.ptr b35 0)), (58, (.bool v58))] [itemC Try.prog 10 [1, 1, 1, 1, 1, 1, 0, 0] 8, codeC Try.prog 10 [1, 1, 1, 1, 1, 1, 0, 1], codeC Try.prog 10 [1, 1, 1, 1, 1, 1, 1]] M := by
  intro v1 v2 v58 c35 l24 sv1 s24 b35 Fr M r hv1 hH h
  rw [law08_SearchOpens_3] at h
  refine Run.opG wantS_none (ex_move rfl) rfl ?_
  rcases btf (v58) with hc49 | hc49
  · have h := bif_t hc49 h
    refine Run.no (wantS_not' rfl rfl hc49) rfl ?_
    refine Run.no (wantS_not' rfl rfl hc49) rfl ?_
    refine Run.no (wantS_not' rfl rfl hc49) rfl ?_
    refine Run.no (wantS_not' rfl rfl hc49) rfl ?_
    refine Run.no (wantS_not' rfl rfl hc49) rfl ?_
    refine Run.opG wantS_none (ex_pickT' rfl hc49 rfl rfl) rfl ?_
    refine Run.opsEnd ?_
    exact Run.pick [1, 2, 7, 9, 65] (law08_SearchOpens_4_ok F v1 v2 true c35 l24 sv1 s24 b35 _ _ _ hv1 hH h)
  · have h := bif_f hc49 h
    refine Run.opG (wantS_yes' rfl rfl hc49) (ex_fieldAddr rfl off60_0) rfl ?_
    refine Run.opG (wantS_yes' rfl rfl hc49) (ex_load1 rfl (hH.cells (i := 1) rfl 0 rfl) rdLe_rfl agg3) rfl ?_
    refine Run.opG (wantS_yes' rfl rfl hc49) (ex_move rfl) rfl ?_
    refine Run.opG (wantS_yes' rfl rfl hc49) (ex_len' rfl hv1 lenk57) rfl ?_
    refine Run.opG (wantS_yes' rfl rfl hc49) (ex_neq rfl rfl) rfl ?_
    refine Run.opG wantS_none (ex_pickF' rfl hc49 rfl rfl) rfl ?_
    refine Run.opsEnd ?_
    exact Run.pick [1, 2, 7, 9, 65] (law08_SearchOpens_4_ok F v1 v2 (!(c35.Many == (v1.length : Int))) c35 l24 sv1 s24 b35 _ _ _ hv1 hH h)

def law08_SearchOpens (F : Nat) (a0 : (List Int)) (a1 : (List S_api_Wave)) (a2 : Int) : Option (Bool) :=
  bnd (search_Inject F a0 a1) fun r23 =>
  bif (!(r23.2 == (0 : Int))) then
    bif ((r23.1.length : Int) == (0 : Int)) then
      bnd (works F) fun r29 =>
      law08_SearchOpens_1 F r29
    else
      law08_SearchOpens_1 F false
  else
    bnd (search_Seal F a0 a1 a2) fun r32 =>
    bif (!(r32.2 == (0 : Int))) then
      bif (r32.2 == (8 : Int)) then
        bnd (works F) fun r41 =>
        law08_SearchOpens_2 F r41
      else
        law08_SearchOpens_2 F false
    else
      bnd (search_Open F r32.1 r23.1 a1 a2) fun r45 =>
      bif (!(r45.2 == (0 : Int))) then
        law08_SearchOpens_3 F a1 a2 true r32.1 r23.1
      else
        bnd (ref00_SameInts F r45.1 a0) fun r90 =>
        law08_SearchOpens_3 F a1 a2 (!r90) r32.1 r23.1

theorem law08_SearchOpens_run (F : Nat) (a0 : (List Int)) (a1 : (List S_api_Wave)) (a2 : Int) (s0 s1 : SV) (r : Bool) (M : Mem) (hs0 : Slc (rd M) 1 (FlatR enc3) s0 a0) (hs1 : Slc (rd M) 3 (rep65 (rd M)) s1 a1) (hfx : FixIn M fixes) (h : law08_SearchOpens F a0 a1 a2 = some r) : Run Try.prog (fx0 10) 121 (law08_SearchOpens_post r) [(0, s0), (1, s1), (2, (.int .i64 a2))] [codeC Try.prog 10 []] (frozen M) := by
  rw [law08_SearchOpens] at h
  replace hs0 := hs0.mono (rdLe_frozen M) (fun _ _ h => h)
  replace hs1 := hs1.mono (rdLe_frozen M) (fun _ _ => rep65_mo (rdLe_frozen M))
  have hH : Has (ro (frozen M)) (frozen M) [] := Has.ofFix hfx.frozen
  refine Run.seq (Run.region ?_)
  refine Run.opG wantS_none (ex_assign rfl) rfl ?_
  refine Run.opsEnd (Run.seq (Run.region ?_))
  refine Run.opG wantS_none (ex_move rfl) rfl ?_
  refine Run.opG wantS_none (ex_move rfl) rfl ?_
  obtain ⟨r23, hr23, h⟩ := bnd_some h
  refine Run.callX wantS_none (ex_call rfl mkk22 cal22) rfl (search_Inject_ok F a0 a1 s0 s1 _ _ (hH.slcF hs0) ((hs1).mono hH.le (fun _ _ => rep65_mo hH.le)) hr23) ?_
  rintro _ M25 ⟨s23_0, rfl, hN23⟩
  have hH25 : Has (ro (frozen M)) M25 [.vec 3 1 r23.1.length s23_0 (r23.1.flatMap enc3)] := hN23.1 _ _ hH
  refine Run.opG wantS_none (ex_move rfl) rfl ?_
  refine Run.opG wantS_none (ex_extract rfl rfl) rfl ?_
  refine Run.opG wantS_none (ex_extract rfl rfl) rfl ?_
  refine Run.opG wantS_none (ex_assign rfl) rfl ?_
  refine Run.opG wantS_none (ex_assign rfl) rfl ?_
  refine Run.opsEnd (Run.seq (Run.seq (Run.region ?_)))
  refine Run.opG wantS_none (ex_move rfl) rfl ?_
  refine Run.opG wantS_none (ex_neq rfl rfl) rfl ?_
  refine Run.opsEnd ?_
  rcases btf ((!(r23.2 == (0 : Int)))) with hc26 | hc26
  · have h := bif_t hc26 h
    refine Run.condT' rfl hc26 ?_
    refine Run.seq (Run.region ?_)
    refine Run.opG wantS_none (ex_move rfl) rfl ?_
    refine Run.opG wantS_none (ex_len' rfl (hH25.slc (i := 0) rfl enc3_len) lenk22) rfl ?_
    refine Run.opG wantS_none (ex_eql rfl rfl) rfl ?_
    refine Run.opG wantS_none (ex_move rfl) rfl ?_
    rcases btf (((r23.1.length : Int) == (0 : Int))) with hc27 | hc27
    · have h := bif_t hc27 h
      obtain ⟨r29, hr29, h⟩ := bnd_some h
      refine Run.callP (wantS_yes' rfl rfl hc27) (ex_call rfl mkk12 cal12) rfl (works_ok F r29 _ hH25  hr29) ?_
      refine Run.opG wantS_none (ex_pickT' rfl hc27 rfl rfl) rfl ?_
      exact Run.pick [28] (law08_SearchOpens_1_ok F r29 _ _ _ (hH25.pick [] rfl rfl) h)
    · have h := bif_f hc27 h
      refine Run.no (wantS_not' rfl rfl hc27) rfl ?_
      refine Run.opG wantS_none (ex_pickF' rfl hc27 rfl rfl) rfl ?_
      exact Run.pick [28] (law08_SearchOpens_1_ok F false _ _ _ (hH25.pick [] rfl rfl) h)
  · have h := bif_f hc26 h
    refine Run.condF' rfl hc26 ?_
    refine Run.skip (Run.seq (Run.region ?_))
    refine Run.opG wantS_none (ex_move rfl) rfl ?_
    refine Run.opG wantS_none (ex_move rfl) rfl ?_
    refine Run.opG wantS_none (ex_move rfl) rfl ?_
    obtain ⟨r32, hr32, h⟩ := bnd_some h
    refine Run.callP wantS_none (ex_call rfl mkk23 cal23) rfl (search_Seal_ok F a0 a1 a2 s0 s1 _ _ (hH25.slcF hs0) ((hs1).mono hH25.le (fun _ _ => rep65_mo hH25.le)) hr32) ?_
    refine Run.opG wantS_none (ex_move rfl) rfl ?_
    refine Run.opG wantS_none (ex_extract rfl rfl) rfl ?_
    refine Run.opG wantS_none (ex_extract rfl rfl) rfl ?_
    refine Run.opX wantS_none rfl (ExG.new (v := fun b => .ptr b 0) (ex_alloc zer60) hH25) ?_
    rintro _ M36 ⟨b35, rfl, (hH36 : Has (ro (frozen M)) M36 [.obj b35 (.row 60 .whole [(.int .i64 0), (.int .i64 0)]), .vec 3 1 r23.1.length s23_0 (r23.1.flatMap enc3)])⟩
    refine Run.opX wantS_none rfl (ExG.storeC (c' := [(.int .i64 r32.1.Many), (.int .i64 r32.1.Code)]) rfl rfl rfl hH36 (i := 0) rfl sz60 rfl rfl rfl rfl rfl) ?_
    rintro _ M37 ⟨rfl, (hH37 : Has (ro (frozen M)) M37 [.obj b35 (.row 60 .whole [(.int .i64 r32.1.Many), (.int .i64 r32.1.Code)]), .vec 3 1 r23.1.length s23_0 (r23.1.flatMap enc3)])⟩
    refine Run.opG wantS_none (ex_assign rfl) rfl ?_
    refine Run.opsEnd (Run.seq (Run.seq (Run.region ?_)))
    refine Run.opG wantS_none (ex_move rfl) rfl ?_
    refine Run.opG wantS_none (ex_neq rfl rfl) rfl ?_
    refine Run.opsEnd ?_
    rcases btf ((!(r32.2 == (0 : Int)))) with hc38 | hc38
    · have h := bif_t hc38 h
      refine Run.condT' rfl hc38 ?_
      refine Run.seq (Run.region ?_)
      refine Run.opG wantS_none (ex_move rfl) rfl ?_
      refine Run.opG wantS_none (ex_eql rfl rfl) rfl ?_
      refine Run.opG wantS_none (ex_move rfl) rfl ?_
      rcases btf ((r32.2 == (8 : Int))) with hc39 | hc39
      · have h := bif_t hc39 h
        obtain ⟨r41, hr41, h⟩ := bnd_some h
        refine Run.callP (wantS_yes' rfl rfl hc39) (ex_call rfl mkk12 cal12) rfl (works_ok F r41 _ hH37  hr41) ?_
        refine Run.opG wantS_none (ex_pickT' rfl hc39 rfl rfl) rfl ?_
        exact Run.pick [42] (law08_SearchOpens_2_ok F r41 _ _ _ (hH37.pick [] rfl rfl) h)
      · have h := bif_f hc39 h
        refine Run.no (wantS_not' rfl rfl hc39) rfl ?_
        refine Run.opG wantS_none (ex_pickF' rfl hc39 rfl rfl) rfl ?_
        exact Run.pick [42] (law08_SearchOpens_2_ok F false _ _ _ (hH37.pick [] rfl rfl) h)
    · have h := bif_f hc38 h
      refine Run.condF' rfl hc38 ?_
      refine Run.skip (Run.seq (Run.region ?_))
      refine Run.opG wantS_none (ex_loadA rfl (hH37.cells (i := 0) rfl 0 rfl) rdLe_rfl agg60 rfl rfl rfl) rfl ?_
      refine Run.opG wantS_none (ex_move rfl) rfl ?_
      refine Run.opG wantS_none (ex_move rfl) rfl ?_
      refine Run.opG wantS_none (ex_move rfl) rfl ?_
      obtain ⟨r45, hr45, h⟩ := bnd_some h
      refine Run.callX wantS_none (ex_call rfl mkk24 cal24) rfl (search_Open_ok F r32.1 r23.1 a1 a2 s23_0 s1 _ _ (hH37.slc (i := 1) rfl enc3_len) ((hs1).mono hH37.le (fun _ _ => rep65_mo hH37.le)) hr45) ?_
      rintro _ M47 ⟨s45_0, rfl, hN45⟩
      have hH47 : Has (ro (frozen M)) M47 [.vec 3 1 r45.1.length s45_0 (r45.1.flatMap enc3), .obj b35 (.row 60 .whole [(.int .i64 r32.1.Many), (.int .i64 r32.1.Code)]), .vec 3 1 r23.1.length s23_0 (r23.1.flatMap enc3)] := hN45.1 _ _ hH37
      refine Run.opG wantS_none (ex_move rfl) rfl ?_
      refine Run.opG wantS_none (ex_extract rfl rfl) rfl ?_
      refine Run.opG wantS_none (ex_extract rfl rfl) rfl ?_
      refine Run.opG wantS_none (ex_assign rfl) rfl ?_
      refine Run.opG wantS_none (ex_assign rfl) rfl ?_
      refine Run.opsEnd (Run.seq (Run.seq (Run.region ?_)))
      refine Run.opG wantS_none (ex_move rfl) rfl ?_
      refine Run.opG wantS_none (ex_neq rfl rfl) rfl ?_
      refine Run.opG wantS_none (ex_move rfl) rfl ?_
      rcases btf ((!(r45.2 == (0 : Int)))) with hc48 | hc48
      · have h := bif_t hc48 h
        refine Run.no (wantS_not' rfl rfl hc48) rfl ?_
        refine Run.no (wantS_not' rfl rfl hc48) rfl ?_
        refine Run.no (wantS_not' rfl rfl hc48) rfl ?_
        refine Run.no (wantS_not' rfl rfl hc48) rfl ?_
        refine Run.opG wantS_none (ex_pickT' rfl hc48 rfl rfl) rfl ?_
        exact Run.pick [1, 2, 7, 9, 58] (law08_SearchOpens_3_ok F a1 a2 true r32.1 r23.1 s1 s23_0 b35 _ _ _ hs1 (hH47.pick [2, 1] rfl rfl) h)
      · have h := bif_f hc48 h
        refine Run.opG (wantS_yes' rfl rfl hc48) (ex_move rfl) rfl ?_
        refine Run.opG (wantS_yes' rfl rfl hc48) (ex_move rfl) rfl ?_
        obtain ⟨r90, hr90, h⟩ := bnd_some h
        refine Run.callP (wantS_yes' rfl rfl hc48) (ex_call rfl mkk19 cal19) rfl (ref00_SameInts_ok F r45.1 a0 s45_0 s0 _ _ (hH47.slc (i := 0) rfl enc3_len) (hH47.slcF hs0) hr90) ?_
        refine Run.opG (wantS_yes' rfl rfl hc48) (ex_not rfl) rfl ?_
        refine Run.opG wantS_none (ex_pickF' rfl hc48 rfl rfl) rfl ?_
        exact Run.pick [1, 2, 7, 9, 58] (law08_SearchOpens_3_ok F a1 a2 (!r90) r32.1 r23.1 s1 s23_0 b35 _ _ _ hs1 (hH47.pick [2, 1] rfl rfl) h)

end Go.Ev.SearchOpens
