/- Plain functions that say what functions of the program come to, and proofs of it, written by a program of the verifier's own. -/
import Derived.Test.YtcifnjdjnoadfaaEvL11
import Derived.Test.YtcifnjdjnoadfaaEvL13
import Derived.Test.YtcifnjdjnoadfaaWorks
import Derived.KernelRfl
namespace Go.Ev.SearchSeals
open Go Go.Ev Go.Proofs
set_option maxRecDepth 100000
set_option linter.unusedVariables false

/-- The listed tables. -/
noncomputable def fixes : List (Nat × List SV) := Go.Proofs.Ytcifnjdjnoadfaa.works.fixes
/-- works() comes to true. -/
def works (_ : Nat) : Option Bool := some true
theorem fixH {Fr : Rd} {H : List Ent} {M : Mem} (hH : Has Fr M H) : FixIn M fixes := fun x hx => absurd hx List.not_mem_nil

theorem works_ok (F : Nat) (r : Bool) {Fr : Rd} {H : List Ent} (M : Mem) (hH : Has Fr M H) (h : works F = some r) : CallsM Try.prog 22 [] M fun s M' => s = .bool r ∧ M' = M := by
  cases h
  exact CallsM.closedFix (n := 300) (l := Go.Proofs.Ytcifnjdjnoadfaa.works.fixes) Go.Proofs.Ytcifnjdjnoadfaa.works.below Go.Proofs.Ytcifnjdjnoadfaa.works.plainF Go.Proofs.Ytcifnjdjnoadfaa.works.works_true (fun x hx => absurd hx List.not_mem_nil)


structure S_api_Wave where
  At : Int
  Gain : Int
  Samples : (List Int)

def enc3 (a : Int) : List SV := [(.int .i64 a)]
theorem enc3_len (a : Int) : (enc3 a).length = 1 := rfl
theorem enc3_ones (a : Int) : ones (enc3 a) = true := rfl
def rep83 (f : Rd) (cs : List SV) (a : S_api_Wave) : Prop := ∃ q1, cs = [(.int .i64 a.At), (.int .i64 a.Gain), q1] ∧ Slc f 1 (FlatR enc3) q1 a.Samples
theorem rep83_mo {f g : Rd} (h : RdLe f g) {cs : List SV} {a : S_api_Wave} : rep83 f cs a → rep83 g cs a := by
  rintro ⟨q1, rfl, h0⟩
  exact ⟨q1, rfl, h0.mono h (fun _ _ h => h)⟩
theorem rep83_len {f : Rd} {cs : List SV} {a : S_api_Wave} : rep83 f cs a → cs.length = 3 := by
  rintro ⟨_, rfl, h0⟩
  rfl
theorem rep83_ones {f : Rd} {cs : List SV} {a : S_api_Wave} : rep83 f cs a → ones cs = true := by
  rintro ⟨_, rfl, h0⟩
  exact (ones_cons rfl (ones_cons rfl (ones_cons (slc_one h0) ones_nil)))
theorem lenk38 : lenK Try.prog 38 = some .sl := by kernel_rfl
theorem mkk131 : makeK Try.prog 131 = none := by kernel_rfl
theorem cal131 : callable Try.prog 131 = true := by kernel_rfl
theorem mkk136 : makeK Try.prog 136 = none := by kernel_rfl
theorem cal136 : callable Try.prog 136 = true := by kernel_rfl
theorem els38 : elems Try.prog 38 = some (.sl 1) := by kernel_rfl
theorem agg3 : aggSize Try.prog 3 = some none := by kernel_rfl
theorem mkk130 : makeK Try.prog 130 = none := by kernel_rfl
theorem cal130 : callable Try.prog 130 = true := by kernel_rfl
abbrev search_isFrom_post (r : Bool) : SV → Mem → Prop := fun s _ => s = (.bool r)

def search_isFrom_1 (F : Nat) (v14 : Bool) : Option (Bool) :=
  some v14

theorem search_isFrom_1_ok (F : Nat) : ∀ (v14 : Bool) (Fr : Rd) (M : Mem) (r : Bool) (hH : Has Fr M []), search_isFrom_1 F v14 = some r → Run Try.prog ⟨⟨62, [], none⟩, []⟩ 15 (search_isFrom_post r) [(14, (.bool v14))] [itemC Try.prog 62 [1, 0] 8, codeC Try.prog 62 [1, 1]] M := by
  intro v14 Fr M r hH h
  rw [search_isFrom_1] at h
  refine Run.opG wantS_none (ex_assign rfl) rfl ?_
  refine Run.opsEnd ?_
  cases h
  exact Run.ret Try.func62 rfl (res_tmp rfl res_nil) rfl

def search_isFrom (F : Nat) (a0 : Int) (a1 : Int) (a2 : Int) : Option (Bool) :=
  bif (decide (a0 ≤ a1)) then
    search_isFrom_1 F (decide (a1 ≤ a2))
  else
    search_isFrom_1 F false

theorem search_isFrom_ok (F : Nat) (a0 : Int) (a1 : Int) (a2 : Int) (r : Bool) (M : Mem) (h : search_isFrom F a0 a1 a2 = some r) : CallsM Try.prog 62 [(.int .i64 a0), (.int .i64 a1), (.int .i64 a2)] M (fun s M' => s = (.bool r) ∧ M' = M) := by
  refine CallsM.plain Try.func62 rfl rfl rfl (show Run _ _ _ (search_isFrom_post r) _ _ _ from ?_)
  rw [search_isFrom] at h
  have hH := Has.nil (frozen M)
  refine Run.seq (Run.region ?_)
  refine Run.opG wantS_none (ex_assign rfl) rfl ?_
  refine Run.opsEnd (Run.seq (Run.region ?_))
  refine Run.opG wantS_none (ex_move rfl) rfl ?_
  refine Run.opG wantS_none (ex_move rfl) rfl ?_
  refine Run.opG wantS_none (ex_leq rfl rfl) rfl ?_
  refine Run.opG wantS_none (ex_move rfl) rfl ?_
  rcases btf ((decide (a0 ≤ a1))) with hc21 | hc21
  · have h := bif_t hc21 h
    refine Run.opG (wantS_yes' rfl rfl hc21) (ex_move rfl) rfl ?_
    refine Run.opG (wantS_yes' rfl rfl hc21) (ex_move rfl) rfl ?_
    refine Run.opG (wantS_yes' rfl rfl hc21) (ex_leq rfl rfl) rfl ?_
    refine Run.opG wantS_none (ex_pickT' rfl hc21 rfl rfl) rfl ?_
    exact Run.pick [14] (search_isFrom_1_ok F (decide (a1 ≤ a2)) _ _ _ hH h)
  · have h := bif_f hc21 h
    refine Run.no (wantS_not' rfl rfl hc21) rfl ?_
    refine Run.no (wantS_not' rfl rfl hc21) rfl ?_
    refine Run.no (wantS_not' rfl rfl hc21) rfl ?_
    refine Run.opG wantS_none (ex_pickF' rfl hc21 rfl rfl) rfl ?_
    exact Run.pick [14] (search_isFrom_1_ok F false _ _ _ hH h)

theorem mkk62 : makeK Try.prog 62 = none := by kernel_rfl
theorem cal62 : callable Try.prog 62 = true := by kernel_rfl
abbrev search_areFrom_post (r : Bool) : SV → Mem → Prop := fun s _ => s = (.bool r)

def search_areFrom_1 (F : Nat) : Nat → (List Int) → Int → Int → Int → Option (Bool)
  | 0, _, _, _, _ => none
  | N + 1, v0, v7, v8, c22_0 =>
    bif (decide (v8 < v7)) then
      bnd (idx v0 v8) fun x26 =>
      bnd (search_isFrom F (w64 (-c22_0)) x26 c22_0) fun r28 =>
      bif (!r28) then
        some (!(decide ((0 : Int) ≤ v8)))
      else
        (search_areFrom_1 F N) v0 v7 (w64 (v8 + (1 : Int))) c22_0
    else
      some (!(decide ((0 : Int) ≤ ((-1) : Int))))

theorem search_areFrom_1_ok (F : Nat) : ∀ (N : Nat), ∀ (v0 : (List Int)) (v7 : Int) (v8 : Int) (c22_0 : Int) (sv0 : SV) (b22 : Pos) (Fr : Rd) (M : Mem) (r : Bool) (hv0 : Slc Fr 1 (FlatR enc3) sv0 v0) (hH : Has Fr M [.obj b22 (.row 3 .whole [(.int .i64 c22_0)])]), search_areFrom_1 F N v0 v7 v8 c22_0 = some r → Run Try.prog ⟨⟨136, [], none⟩, [.mk ⟨131, [], none⟩ 9 (treeOf []) [itemC Try.prog 131 [1, 0] 2, codeC Try.prog 131 [1, 1]], .mk ⟨113, [], none⟩ 11 (treeOf []) [itemC Try.prog 113 [1, 1, 0] 2, codeC Try.prog 113 [1, 1, 1]]]⟩ 19 (search_areFrom_post r) [(0, sv0), (1, (.fn (.func 130) [] [(.ptr b22 0)])), (7, (.int .i64 v7)), (8, (.int .i64 v8))] [codeC Try.prog 136 [1, 0, 1, 0, 0], loopC Try.prog 136 [1, 0, 1, 0, 0], .inBlock 0, codeC Try.prog 136 [1, 1]] M := by
  intro N
  induction N with
  | zero =>
    intro v0 v7 v8 c22_0 sv0 b22 Fr M r hv0 hH h
    simp [search_areFrom_1] at h
  | succ N ih =>
    intro v0 v7 v8 c22_0 sv0 b22 Fr M r hv0 hH h
    rw [search_areFrom_1] at h
    refine Run.seq (Run.region ?_)
    refine Run.opG wantS_none (ex_lss rfl rfl) rfl ?_
    refine Run.opsEnd (Run.seq ?_)
    rcases btf ((decide (v8 < v7))) with hc24 | hc24
    · have h := bif_t hc24 h
      refine Run.condT' rfl hc24 ?_
      refine Run.skip (Run.seq (Run.block (Run.seq (Run.region ?_))))
      refine Run.opG wantS_none (ex_move rfl) rfl ?_
      refine Run.opG wantS_none (ex_assign rfl) rfl ?_
      refine Run.opsEnd (Run.seq (Run.region ?_))
      refine Run.opG wantS_none (ex_move rfl) rfl ?_
      refine Run.opG wantS_none (ex_move rfl) rfl ?_
      refine Run.opG wantS_none (ex_move rfl) rfl ?_
      obtain ⟨x26, hx26, h⟩ := bnd_some h
      obtain ⟨p26, o26, _, hx26, hp26, rfl⟩ := sl_elem (P := Try.prog) (t := 38) (kk := .i64) hv0 hx26 els38
      refine Run.opG wantS_none (ex_elX rfl rfl hx26) rfl ?_
      refine Run.opG wantS_none (ex_load1 rfl (hH.ptrF hp26) rdLe_rfl agg3) rfl ?_
      refine Run.enter wantS_none (ex_closure rfl rfl mkk130 cal130) Try.func130 rfl rfl ?_
      refine Run.seq (Run.region ?_)
      refine Run.opG wantS_none (ex_assign rfl) rfl ?_
      refine Run.opsEnd (Run.seq (Run.region ?_))
      refine Run.opG wantS_none (ex_load1 rfl (hH.cells (i := 0) rfl 0 rfl) rdLe_rfl agg3) rfl ?_
      refine Run.opG wantS_none (ex_neg rfl) rfl ?_
      refine Run.opG wantS_none (ex_move rfl) rfl ?_
      refine Run.opG wantS_none (ex_load1 rfl (hH.cells (i := 0) rfl 0 rfl) rdLe_rfl agg3) rfl ?_
      obtain ⟨r28, hr28, h⟩ := bnd_some h
      refine Run.callP wantS_none (ex_call rfl mkk62 cal62) rfl (search_isFrom_ok F (w64 (-c22_0)) x26 c22_0 _ _ hr28) ?_
      refine Run.opG wantS_none (ex_not rfl) rfl ?_
      refine Run.opG wantS_none (ex_assign rfl) rfl ?_
      refine Run.opsEnd ?_
      refine Run.retTo Try.func130 rfl (res_tmp rfl res_nil) rfl ?_
      refine Run.opsEnd ?_
      rcases btf ((!r28)) with hc30 | hc30
      · have h := bif_t hc30 h
        refine Run.condT' rfl hc30 ?_
        refine Run.seq (Run.region ?_)
        refine Run.opG wantS_none (ex_move rfl) rfl ?_
        refine Run.opG wantS_none (ex_assign rfl) rfl ?_
        refine Run.opsEnd ?_
        refine Run.retTo Try.func136 rfl (res_tmp rfl res_nil) rfl ?_
        refine Run.opG wantS_none (ex_geq rfl rfl) rfl ?_
        refine Run.opG wantS_none (ex_assign rfl) rfl ?_
        refine Run.opsEnd ?_
        refine Run.retTo Try.func131 rfl (res_tmp rfl res_nil) rfl ?_
        refine Run.opG wantS_none (ex_not rfl) rfl ?_
        refine Run.opG wantS_none (ex_assign rfl) rfl ?_
        refine Run.opsEnd ?_
        cases h
        exact Run.ret Try.func113 rfl (res_tmp rfl res_nil) rfl
      · have h := bif_f hc30 h
        refine Run.condF' rfl hc30 ?_
        refine Run.skip (Run.inBlock (Run.region ?_))
        refine Run.opG wantS_none (ex_add rfl rfl) rfl ?_
        refine Run.opG wantS_none (ex_move rfl) rfl ?_
        refine Run.opsEnd (Run.inLoop ?_)
        exact Run.low (.cons (fle_pick [] rfl) (.cons (fle_pick [] rfl) .nil)) (Run.pick [0, 1, 7, 8] (ih v0 v7 (w64 (v8 + (1 : Int))) c22_0 sv0 b22 _ _ _ hv0 hH h))
    · have h := bif_f hc24 h
      refine Run.condF' rfl hc24 ?_
      refine Run.exit rfl (Run.seq (Run.region ?_))
      refine Run.opG wantS_none (ex_assign rfl) rfl ?_
      refine Run.opsEnd ?_
      refine Run.retTo Try.func136 rfl (res_tmp rfl res_nil) rfl ?_
      refine Run.opG wantS_none (ex_geq rfl rfl) rfl ?_
      refine Run.opG wantS_none (ex_assign rfl) rfl ?_
      refine Run.opsEnd ?_
      refine Run.retTo Try.func131 rfl (res_tmp rfl res_nil) rfl ?_
      refine Run.opG wantS_none (ex_not rfl) rfl ?_
      refine Run.opG wantS_none (ex_assign rfl) rfl ?_
      refine Run.opsEnd ?_
      cases h
      exact Run.ret Try.func113 rfl (res_tmp rfl res_nil) rfl

def search_areFrom (F : Nat) (a0 : (List Int)) (a1 : Int) : Option (Bool) :=
  search_areFrom_1 F F a0 (a0.length : Int) (0 : Int) a1

theorem search_areFrom_ok (F : Nat) (a0 : (List Int)) (a1 : Int) (s0 : SV) (r : Bool) (M : Mem) (hs0 : Slc (rd M) 1 (FlatR enc3) s0 a0) (h : search_areFrom F a0 a1 = some r) : CallsM Try.prog 113 [s0, (.int .i64 a1)] M (fun s M' => s = (.bool r) ∧ M' = M) := by
  refine CallsM.plain Try.func113 rfl rfl rfl (show Run _ _ _ (search_areFrom_post r) _ _ _ from ?_)
  rw [search_areFrom] at h
  replace hs0 := hs0.mono (rdLe_frozen M) (fun _ _ h => h)
  have hH := Has.nil (frozen M)
  refine Run.seq (Run.region ?_)
  refine Run.opX wantS_none rfl (ExG.box rfl rfl hH) ?_
  rintro _ M23 ⟨b22, rfl, (hH23 : Has (ro (frozen M)) M23 [.obj b22 (.row 3 .whole [(.int .i64 a1)])])⟩
  refine Run.opG wantS_none (ex_assign rfl) rfl ?_
  refine Run.opsEnd (Run.seq (Run.region ?_))
  refine Run.opG wantS_none (ex_makeFunc rfl rfl) rfl ?_
  refine Run.opG wantS_none (ex_assign rfl) rfl ?_
  refine Run.opsEnd (Run.seq (Run.region ?_))
  refine Run.opG wantS_none (ex_move rfl) rfl ?_
  refine Run.opG wantS_none (ex_move rfl) rfl ?_
  refine Run.enter wantS_none (ex_call rfl mkk131 cal131) Try.func131 rfl rfl ?_
  refine Run.seq (Run.region ?_)
  refine Run.opG wantS_none (ex_assign rfl) rfl ?_
  refine Run.opsEnd (Run.seq (Run.region ?_))
  refine Run.opG wantS_none (ex_move rfl) rfl ?_
  refine Run.opG wantS_none (ex_move rfl) rfl ?_
  refine Run.enter wantS_none (ex_call rfl mkk136 cal136) Try.func136 rfl rfl ?_
  refine Run.seq (Run.region ?_)
  refine Run.opG wantS_none (ex_assign rfl) rfl ?_
  refine Run.opsEnd (Run.seq (Run.seq (Run.region ?_)))
  refine Run.opG wantS_none (ex_move rfl) rfl ?_
  refine Run.opG wantS_none (ex_len' rfl hs0 lenk38) rfl ?_
  refine Run.opG wantS_none (ex_move rfl) rfl ?_
  refine Run.opsEnd (Run.block (Run.loop ?_))
  exact Run.low (.cons (fle_pick [] rfl) (.cons (fle_pick [] rfl) .nil)) (Run.pick [0, 1, 7, 8] (search_areFrom_1_ok F F a0 (a0.length : Int) (0 : Int) a1 s0 b22 _ _ _ hs0 hH23 h))

theorem mkk113 : makeK Try.prog 113 = none := by kernel_rfl
theorem cal113 : callable Try.prog 113 = true := by kernel_rfl
abbrev search_isRecord_post (r : Bool) : SV → Mem → Prop := fun s _ => s = (.bool r)

def search_isRecord_1 (F : Nat) (v9 : Bool) : Option (Bool) :=
  some v9

theorem search_isRecord_1_ok (F : Nat) : ∀ (v9 : Bool) (Fr : Rd) (M : Mem) (r : Bool) (hH : Has Fr M []), search_isRecord_1 F v9 = some r → Run Try.prog ⟨⟨69, [], none⟩, []⟩ 10 (search_isRecord_post r) [(9, (.bool v9))] [itemC Try.prog 69 [1, 0] 7, codeC Try.prog 69 [1, 1]] M := by
  intro v9 Fr M r hH h
  rw [search_isRecord_1] at h
  refine Run.opG wantS_none (ex_assign rfl) rfl ?_
  refine Run.opsEnd ?_
  cases h
  exact Run.ret Try.func69 rfl (res_tmp rfl res_nil) rfl

def search_isRecord (F : Nat) (a0 : (List Int)) : Option (Bool) :=
  bif (decide ((a0.length : Int) ≤ (1024 : Int))) then
    bnd (search_areFrom F a0 (16384 : Int)) fun r23 =>
    search_isRecord_1 F r23
  else
    search_isRecord_1 F false

theorem search_isRecord_ok (F : Nat) (a0 : (List Int)) (s0 : SV) (r : Bool) (M : Mem) (hs0 : Slc (rd M) 1 (FlatR enc3) s0 a0) (h : search_isRecord F a0 = some r) : CallsM Try.prog 69 [s0] M (fun s M' => s = (.bool r) ∧ M' = M) := by
  refine CallsM.plain Try.func69 rfl rfl rfl (show Run _ _ _ (search_isRecord_post r) _ _ _ from ?_)
  rw [search_isRecord] at h
  replace hs0 := hs0.mono (rdLe_frozen M) (fun _ _ h => h)
  have hH := Has.nil (frozen M)
  refine Run.seq (Run.region ?_)
  refine Run.opG wantS_none (ex_assign rfl) rfl ?_
  refine Run.opsEnd (Run.seq (Run.region ?_))
  refine Run.opG wantS_none (ex_move rfl) rfl ?_
  refine Run.opG wantS_none (ex_len' rfl hs0 lenk38) rfl ?_
  refine Run.opG wantS_none (ex_leq rfl rfl) rfl ?_
  refine Run.opG wantS_none (ex_move rfl) rfl ?_
  rcases btf ((decide ((a0.length : Int) ≤ (1024 : Int)))) with hc21 | hc21
  · have h := bif_t hc21 h
    refine Run.opG (wantS_yes' rfl rfl hc21) (ex_move rfl) rfl ?_
    obtain ⟨r23, hr23, h⟩ := bnd_some h
    refine Run.callP (wantS_yes' rfl rfl hc21) (ex_call rfl mkk113 cal113) rfl (search_areFrom_ok F a0 (16384 : Int) s0 _ _ (hH.slcF hs0) hr23) ?_
    refine Run.opG wantS_none (ex_pickT' rfl hc21 rfl rfl) rfl ?_
    exact Run.pick [9] (search_isRecord_1_ok F r23 _ _ _ hH h)
  · have h := bif_f hc21 h
    refine Run.no (wantS_not' rfl rfl hc21) rfl ?_
    refine Run.no (wantS_not' rfl rfl hc21) rfl ?_
    refine Run.opG wantS_none (ex_pickF' rfl hc21 rfl rfl) rfl ?_
    exact Run.pick [9] (search_isRecord_1_ok F false _ _ _ hH h)

theorem mkk69 : makeK Try.prog 69 = none := by kernel_rfl
theorem cal69 : callable Try.prog 69 = true := by kernel_rfl
theorem lenk55 : lenK Try.prog 55 = some .sl := by kernel_rfl
theorem els55 : elems Try.prog 55 = some (.sl 3) := by kernel_rfl
theorem agg83 : aggSize Try.prog 83 = some (some 3) := by kernel_rfl
theorem zer83 : zerosOf Try.prog 83 = some [(.int .i64 0), (.int .i64 0), .nils] := by kernel_rfl
theorem sz83 : szOf Try.prog 83 = some 3 := by kernel_rfl
theorem off83_1 : fieldOff Try.prog 83 1 = some 1 := by kernel_rfl
theorem off83_2 : fieldOff Try.prog 83 2 = some 2 := by kernel_rfl
theorem agg38 : aggSize Try.prog 38 = some none := by kernel_rfl
abbrev search_isWave_post (r : Bool) : SV → Mem → Prop := fun s _ => s = (.bool r)

def search_isWave_2 (F : Nat) (v16 : Bool) : Option (Bool) :=
  some v16

theorem search_isWave_2_ok (F : Nat) : ∀ (v16 : Bool) (Fr : Rd) (M : Mem) (r : Bool) (hH : Has Fr M []), search_isWave_2 F v16 = some r → Run Try.prog ⟨⟨123, [], none⟩, []⟩ 17 (search_isWave_post r) [(16, (.bool v16))] [itemC Try.prog 123 [1, 0] 14, codeC Try.prog 123 [1, 1]] M := by
  intro v16 Fr M r hH h
  rw [search_isWave_2] at h
  refine Run.opG wantS_none (ex_assign rfl) rfl ?_
  refine Run.opsEnd ?_
  cases h
  exact Run.ret Try.func123 rfl (res_tmp rfl res_nil) rfl

def search_isWave_1 (F : Nat) (v11 : Bool) (c22_0 : Int) (c22_1 : Int) (c22_2 : (List Int)) : Option (Bool) :=
  bif v11 then
    bnd (search_areFrom F c22_2 (256 : Int)) fun r33 =>
    search_isWave_2 F r33
  else
    search_isWave_2 F false

theorem search_isWave_1_ok (F : Nat) : ∀ (v11 : Bool) (c22_0 : Int) (c22_1 : Int) (c22_2 : (List Int)) (sc22_2 : SV) (b22 : Pos) (Fr : Rd) (M : Mem) (r : Bool) (hc22_2 : Slc Fr 1 (FlatR enc3) sc22_2 c22_2) (hH : Has Fr M [.obj b22 (.row 83 .whole [(.int .i64 c22_0), (.int .i64 c22_1), sc22_2])]), search_isWave_1 F v11 c22_0 c22_1 c22_2 = some r → Run Try.prog ⟨⟨123, [], none⟩, []⟩ 17 (search_isWave_post r) [(1, (.ptr b22 0)), (11, (.bool v11))] [itemC Try.prog 123 [1, 0] 9, codeC Try.prog 123 [1, 1]] M := by
  intro v11 c22_0 c22_1 c22_2 sc22_2 b22 Fr M r hc22_2 hH h
  rw [search_isWave_1] at h
  refine Run.opG wantS_none (ex_move rfl) rfl ?_
  rcases btf (v11) with hc31 | hc31
  · have h := bif_t hc31 h
    refine Run.opG (wantS_yes' rfl rfl hc31) (ex_fieldAddr rfl off83_2) rfl ?_
    refine Run.opG (wantS_yes' rfl rfl hc31) (ex_load1 rfl (hH.cells (i := 0) rfl 2 rfl) rdLe_rfl agg38) rfl ?_
    obtain ⟨r33, hr33, h⟩ := bnd_some h
    refine Run.callP (wantS_yes' rfl rfl hc31) (ex_call rfl mkk113 cal113) rfl (search_areFrom_ok F c22_2 (256 : Int) sc22_2 _ _ (hH.slcF hc22_2) hr33) ?_
    refine Run.opG wantS_none (ex_pickT' rfl hc31 rfl rfl) rfl ?_
    exact Run.pick [16] (search_isWave_2_ok F r33 _ _ _ (hH.pick [] rfl rfl) h)
  · have h := bif_f hc31 h
    refine Run.no (wantS_not' rfl rfl hc31) rfl ?_
    refine Run.no (wantS_not' rfl rfl hc31) rfl ?_
    refine Run.no (wantS_not' rfl rfl hc31) rfl ?_
    refine Run.opG wantS_none (ex_pickF' rfl hc31 rfl rfl) rfl ?_
    exact Run.pick [16] (search_isWave_2_ok F false _ _ _ (hH.pick [] rfl rfl) h)

def search_isWave (F : Nat) (a0 : S_api_Wave) : Option (Bool) :=
  bnd (search_isFrom F ((-64) : Int) a0.Gain (64 : Int)) fun r25 =>
  bif r25 then
    bnd (search_isFrom F (1 : Int) (a0.Samples.length : Int) (64 : Int)) fun r29 =>
    search_isWave_1 F r29 a0.At a0.Gain a0.Samples
  else
    search_isWave_1 F false a0.At a0.Gain a0.Samples

theorem search_isWave_ok (F : Nat) (a0 : S_api_Wave) (s0 : SV) (r : Bool) (M : Mem) (hs0 : Slc (rd M) 1 (FlatR enc3) s0 a0.Samples) (h : search_isWave F a0 = some r) : CallsM Try.prog 123 [(.agg [(.int .i64 a0.At), (.int .i64 a0.Gain), s0])] M (fun s M' => s = (.bool r) ∧ M' = M) := by
  refine CallsM.plain Try.func123 rfl rfl rfl (show Run _ _ _ (search_isWave_post r) _ _ _ from ?_)
  rw [search_isWave] at h
  replace hs0 := hs0.mono (rdLe_frozen M) (fun _ _ h => h)
  have hH := Has.nil (frozen M)
  refine Run.seq (Run.region ?_)
  refine Run.opX wantS_none rfl (ExG.box rfl rfl hH) ?_
  rintro _ M23 ⟨b22, rfl, (hH23 : Has (ro (frozen M)) M23 [.obj b22 (.row 83 .whole [(.int .i64 a0.At), (.int .i64 a0.Gain), s0])])⟩
  refine Run.opG wantS_none (ex_assign rfl) rfl ?_
  refine Run.opsEnd (Run.seq (Run.region ?_))
  refine Run.opG wantS_none (ex_fieldAddr rfl off83_1) rfl ?_
  refine Run.opG wantS_none (ex_load1 rfl (hH23.cells (i := 0) rfl 1 rfl) rdLe_rfl agg3) rfl ?_
  obtain ⟨r25, hr25, h⟩ := bnd_some h
  refine Run.callP wantS_none (ex_call rfl mkk62 cal62) rfl (search_isFrom_ok F ((-64) : Int) a0.Gain (64 : Int) _ _ hr25) ?_
  refine Run.opG wantS_none (ex_move rfl) rfl ?_
  rcases btf (r25) with hc27 | hc27
  · have h := bif_t hc27 h
    refine Run.opG (wantS_yes' rfl rfl hc27) (ex_fieldAddr rfl off83_2) rfl ?_
    refine Run.opG (wantS_yes' rfl rfl hc27) (ex_load1 rfl (hH23.cells (i := 0) rfl 2 rfl) rdLe_rfl agg38) rfl ?_
    refine Run.opG (wantS_yes' rfl rfl hc27) (ex_len' rfl hs0 lenk38) rfl ?_
    obtain ⟨r29, hr29, h⟩ := bnd_some h
    refine Run.callP (wantS_yes' rfl rfl hc27) (ex_call rfl mkk62 cal62) rfl (search_isFrom_ok F (1 : Int) (a0.Samples.length : Int) (64 : Int) _ _ hr29) ?_
    refine Run.opG wantS_none (ex_pickT' rfl hc27 rfl rfl) rfl ?_
    exact Run.pick [1, 11] (search_isWave_1_ok F r29 a0.At a0.Gain a0.Samples s0 b22 _ _ _ hs0 hH23 h)
  · have h := bif_f hc27 h
    refine Run.no (wantS_not' rfl rfl hc27) rfl ?_
    refine Run.no (wantS_not' rfl rfl hc27) rfl ?_
    refine Run.no (wantS_not' rfl rfl hc27) rfl ?_
    refine Run.no (wantS_not' rfl rfl hc27) rfl ?_
    refine Run.opG wantS_none (ex_pickF' rfl hc27 rfl rfl) rfl ?_
    exact Run.pick [1, 11] (search_isWave_1_ok F false a0.At a0.Gain a0.Samples s0 b22 _ _ _ hs0 hH23 h)

theorem mkk123 : makeK Try.prog 123 = none := by kernel_rfl
theorem cal123 : callable Try.prog 123 = true := by kernel_rfl
theorem off83_0 : fieldOff Try.prog 83 0 = some 0 := by kernel_rfl
abbrev search_areWaves_post (r : Bool) : SV → Mem → Prop := fun s _ => s = (.bool r)

def search_areWaves_2 (F : Nat) (hd1 : Int → Int → (List S_api_Wave) → Int → Int → Option (Bool)) (v1 : Int) (v11 : (List S_api_Wave)) (v12 : Int) (v13 : Int) (v32 : Bool) (c26_0 : Int) (c26_1 : Int) (c26_2 : (List Int)) : Option (Bool) :=
  bif v32 then
    some false
  else
    hd1 v1 c26_0 v11 v12 (w64 (v13 + (1 : Int)))

theorem search_areWaves_2_ok (F : Nat) (hd1 : Int → Int → (List S_api_Wave) → Int → Int → Option (Bool)) (hhd1 : ∀ (v1 : Int) (v5 : Int) (v11 : (List S_api_Wave)) (v12 : Int) (v13 : Int) (sv11 : SV) (Fr : Rd) (M : Mem) (r : Bool) (hv11 : Slc Fr 3 (rep83 Fr) sv11 v11) (hH : Has Fr M []), hd1 v1 v5 v11 v12 v13 = some r → Run Try.prog ⟨⟨89, [], none⟩, []⟩ 36 (search_areWaves_post r) [(1, (.int .i64 v1)), (5, (.int .i64 v5)), (11, sv11), (12, (.int .i64 v12)), (13, (.int .i64 v13))] [codeC Try.prog 89 [1, 1, 1, 0, 1, 0, 0], loopC Try.prog 89 [1, 1, 1, 0, 1, 0, 0], .inBlock 0, codeC Try.prog 89 [1, 1, 1, 1]] M) : ∀ (v1 : Int) (v11 : (List S_api_Wave)) (v12 : Int) (v13 : Int) (v32 : Bool) (c26_0 : Int) (c26_1 : Int) (c26_2 : (List Int)) (sv11 : SV) (sc26_2 : SV) (b26 : Pos) (Fr : Rd) (M : Mem) (r : Bool) (hv11 : Slc Fr 3 (rep83 Fr) sv11 v11) (hc26_2 : Slc Fr 1 (FlatR enc3) sc26_2 c26_2) (hH : Has Fr M [.obj b26 (.row 83 .whole [(.int .i64 c26_0), (.int .i64 c26_1), sc26_2])]), search_areWaves_2 F hd1 v1 v11 v12 v13 v32 c26_0 c26_1 c26_2 = some r → Run Try.prog ⟨⟨89, [], none⟩, []⟩ 36 (search_areWaves_post r) [(1, (.int .i64 v1)), (7, (.ptr b26 0)), (11, sv11), (12, (.int .i64 v12)), (13, (.int .i64 v13)), (32, (.bool v32))] [codeC Try.prog 89 [1, 1, 1, 0, 1, 0, 0, 1, 1, 0, 0, 1, 0, 1], codeC Try.prog 89 [1, 1, 1, 0, 1, 0, 0, 1, 1, 0, 0, 1, 1], .inBlock 1, codeC Try.prog 89 [1, 1, 1, 0, 1, 0, 0, 1, 1, 1], loopC Try.prog 89 [1, 1, 1, 0, 1, 0, 0], .inBlock 0, codeC Try.prog 89 [1, 1, 1, 1]] M := by
  intro v1 v11 v12 v13 v32 c26_0 c26_1 c26_2 sv11 sc26_2 b26 Fr M r hv11 hc26_2 hH h
  rw [search_areWaves_2] at h
  rcases btf (v32) with hc33 | hc33
  · have h := bif_t hc33 h
    refine Run.condT' rfl hc33 ?_
    refine Run.seq (Run.region ?_)
    refine Run.opG wantS_none (ex_assign rfl) rfl ?_
    refine Run.opsEnd ?_
    cases h
    exact Run.ret Try.func89 rfl (res_tmp rfl res_nil) rfl
  · have h := bif_f hc33 h
    refine Run.condF' rfl hc33 ?_
    refine Run.skip (Run.region ?_)
    refine Run.opG wantS_none (ex_fieldAddr rfl off83_0) rfl ?_
    refine Run.opG wantS_none (ex_load1 rfl (hH.cells (i := 0) rfl 0 rfl) rdLe_rfl agg3) rfl ?_
    refine Run.opG wantS_none (ex_assign rfl) rfl ?_
    refine Run.opsEnd (Run.inBlock (Run.region ?_))
    refine Run.opG wantS_none (ex_add rfl rfl) rfl ?_
    refine Run.opG wantS_none (ex_move rfl) rfl ?_
    refine Run.opsEnd (Run.inLoop ?_)
    exact Run.pick [1, 5, 11, 12, 13] (hhd1 v1 c26_0 v11 v12 (w64 (v13 + (1 : Int))) sv11 _ _ _ hv11 (hH.pick [] rfl rfl) h)

def search_areWaves_1 (F : Nat) : Nat → Int → Int → (List S_api_Wave) → Int → Int → Option (Bool)
  | 0, _, _, _, _, _ => none
  | N + 1, v1, v5, v11, v12, v13 =>
    bif (decide (v13 < v12)) then
      bnd (idx v11 v13) fun x24 =>
      bnd (search_isWave F x24) fun r30 =>
      bif (!r30) then
        search_areWaves_2 F (search_areWaves_1 F N) v1 v11 v12 v13 true x24.At x24.Gain x24.Samples
      else
        bnd (search_isFrom F (w64 (v5 + (1 : Int))) x24.At (w64 (v1 - (x24.Samples.length : Int)))) fun r35 =>
        search_areWaves_2 F (search_areWaves_1 F N) v1 v11 v12 v13 (!r35) x24.At x24.Gain x24.Samples
    else
      some true

theorem search_areWaves_1_ok (F : Nat) : ∀ (N : Nat), ∀ (v1 : Int) (v5 : Int) (v11 : (List S_api_Wave)) (v12 : Int) (v13 : Int) (sv11 : SV) (Fr : Rd) (M : Mem) (r : Bool) (hv11 : Slc Fr 3 (rep83 Fr) sv11 v11) (hH : Has Fr M []), search_areWaves_1 F N v1 v5 v11 v12 v13 = some r → Run Try.prog ⟨⟨89, [], none⟩, []⟩ 36 (search_areWaves_post r) [(1, (.int .i64 v1)), (5, (.int .i64 v5)), (11, sv11), (12, (.int .i64 v12)), (13, (.int .i64 v13))] [codeC Try.prog 89 [1, 1, 1, 0, 1, 0, 0], loopC Try.prog 89 [1, 1, 1, 0, 1, 0, 0], .inBlock 0, codeC Try.prog 89 [1, 1, 1, 1]] M := by
  intro N
  induction N with
  | zero =>
    intro v1 v5 v11 v12 v13 sv11 Fr M r hv11 hH h
    simp [search_areWaves_1] at h
  | succ N ih =>
    intro v1 v5 v11 v12 v13 sv11 Fr M r hv11 hH h
    rw [search_areWaves_1] at h
    refine Run.seq (Run.region ?_)
    refine Run.opG wantS_none (ex_lss rfl rfl) rfl ?_
    refine Run.opsEnd (Run.seq ?_)
    rcases btf ((decide (v13 < v12))) with hc22 | hc22
    · have h := bif_t hc22 h
      refine Run.condT' rfl hc22 ?_
      refine Run.skip (Run.seq (Run.block (Run.seq (Run.region ?_))))
      obtain ⟨x24, hx24, h⟩ := bnd_some h
      obtain ⟨p24, o24, _, hx24, hp24, ⟨q24_0, rfl, hq24_0⟩⟩ := sl_elem (P := Try.prog) (t := 55) (kk := .i64) hv11 hx24 els55
      refine Run.opG wantS_none (ex_elX rfl rfl hx24) rfl ?_
      refine Run.opG wantS_none (ex_loadA rfl (hH.ptrF hp24) rdLe_rfl agg83 rfl rfl rfl) rfl ?_
      refine Run.opX wantS_none rfl (ExG.new (v := fun b => .ptr b 0) (ex_alloc zer83) hH) ?_
      rintro _ M27 ⟨b26, rfl, (hH27 : Has Fr M27 [.obj b26 (.row 83 .whole [(.int .i64 0), (.int .i64 0), .nils])])⟩
      refine Run.opX wantS_none rfl (ExG.storeC (c' := [(.int .i64 x24.At), (.int .i64 x24.Gain), q24_0]) rfl rfl rfl hH27 (i := 0) rfl sz83 rfl rfl rfl (ones_cons rfl (ones_cons rfl (ones_cons (slc_one hq24_0) ones_nil))) rfl) ?_
      rintro _ M28 ⟨rfl, (hH28 : Has Fr M28 [.obj b26 (.row 83 .whole [(.int .i64 x24.At), (.int .i64 x24.Gain), q24_0])])⟩
      refine Run.opsEnd (Run.seq (Run.seq (Run.region ?_)))
      refine Run.opG wantS_none (ex_loadA rfl (hH28.cells (i := 0) rfl 0 rfl) rdLe_rfl agg83 rfl rfl rfl) rfl ?_
      obtain ⟨r30, hr30, h⟩ := bnd_some h
      refine Run.callP wantS_none (ex_call rfl mkk123 cal123) rfl (search_isWave_ok F x24 q24_0 _ _ (hH28.slcF hq24_0) hr30) ?_
      refine Run.opG wantS_none (ex_not rfl) rfl ?_
      refine Run.opG wantS_none (ex_move rfl) rfl ?_
      rcases btf ((!r30)) with hc32 | hc32
      · have h := bif_t hc32 h
        refine Run.no (wantS_not' rfl rfl hc32) rfl ?_
        refine Run.no (wantS_not' rfl rfl hc32) rfl ?_
        refine Run.no (wantS_not' rfl rfl hc32) rfl ?_
        refine Run.no (wantS_not' rfl rfl hc32) rfl ?_
        refine Run.no (wantS_not' rfl rfl hc32) rfl ?_
        refine Run.no (wantS_not' rfl rfl hc32) rfl ?_
        refine Run.no (wantS_not' rfl rfl hc32) rfl ?_
        refine Run.no (wantS_not' rfl rfl hc32) rfl ?_
        refine Run.no (wantS_not' rfl rfl hc32) rfl ?_
        refine Run.no (wantS_not' rfl rfl hc32) rfl ?_
        refine Run.no (wantS_not' rfl rfl hc32) rfl ?_
        refine Run.opG wantS_none (ex_pickT' rfl hc32 rfl rfl) rfl ?_
        refine Run.opsEnd ?_
        exact Run.pick [1, 7, 11, 12, 13, 32] (search_areWaves_2_ok F (search_areWaves_1 F N) ih v1 v11 v12 v13 true x24.At x24.Gain x24.Samples sv11 q24_0 b26 _ _ _ hv11 hq24_0 hH28 h)
      · have h := bif_f hc32 h
        refine Run.opG (wantS_yes' rfl rfl hc32) (ex_move rfl) rfl ?_
        refine Run.opG (wantS_yes' rfl rfl hc32) (ex_add rfl rfl) rfl ?_
        refine Run.opG (wantS_yes' rfl rfl hc32) (ex_fieldAddr rfl off83_0) rfl ?_
        refine Run.opG (wantS_yes' rfl rfl hc32) (ex_load1 rfl (hH28.cells (i := 0) rfl 0 rfl) rdLe_rfl agg3) rfl ?_
        refine Run.opG (wantS_yes' rfl rfl hc32) (ex_move rfl) rfl ?_
        refine Run.opG (wantS_yes' rfl rfl hc32) (ex_fieldAddr rfl off83_2) rfl ?_
        refine Run.opG (wantS_yes' rfl rfl hc32) (ex_load1 rfl (hH28.cells (i := 0) rfl 2 rfl) rdLe_rfl agg38) rfl ?_
        refine Run.opG (wantS_yes' rfl rfl hc32) (ex_len' rfl hq24_0 lenk38) rfl ?_
        refine Run.opG (wantS_yes' rfl rfl hc32) (ex_sub rfl rfl) rfl ?_
        obtain ⟨r35, hr35, h⟩ := bnd_some h
        refine Run.callP (wantS_yes' rfl rfl hc32) (ex_call rfl mkk62 cal62) rfl (search_isFrom_ok F (w64 (v5 + (1 : Int))) x24.At (w64 (v1 - (x24.Samples.length : Int))) _ _ hr35) ?_
        refine Run.opG (wantS_yes' rfl rfl hc32) (ex_not rfl) rfl ?_
        refine Run.opG wantS_none (ex_pickF' rfl hc32 rfl rfl) rfl ?_
        refine Run.opsEnd ?_
        exact Run.pick [1, 7, 11, 12, 13, 32] (search_areWaves_2_ok F (search_areWaves_1 F N) ih v1 v11 v12 v13 (!r35) x24.At x24.Gain x24.Samples sv11 q24_0 b26 _ _ _ hv11 hq24_0 hH28 h)
    · have h := bif_f hc22 h
      refine Run.condF' rfl hc22 ?_
      refine Run.exit rfl (Run.seq (Run.region ?_))
      refine Run.opG wantS_none (ex_assign rfl) rfl ?_
      refine Run.opsEnd ?_
      cases h
      exact Run.ret Try.func89 rfl (res_tmp rfl res_nil) rfl

def search_areWaves (F : Nat) (a0 : (List S_api_Wave)) (a1 : Int) : Option (Bool) :=
  bif (decide ((64 : Int) < (a0.length : Int))) then
    some false
  else
    search_areWaves_1 F F a1 ((-1) : Int) a0 (a0.length : Int) (0 : Int)

theorem search_areWaves_ok (F : Nat) (a0 : (List S_api_Wave)) (a1 : Int) (s0 : SV) (r : Bool) (M : Mem) (hs0 : Slc (rd M) 3 (rep83 (rd M)) s0 a0) (h : search_areWaves F a0 a1 = some r) : CallsM Try.prog 89 [s0, (.int .i64 a1)] M (fun s M' => s = (.bool r) ∧ M' = M) := by
  refine CallsM.plain Try.func89 rfl rfl rfl (show Run _ _ _ (search_areWaves_post r) _ _ _ from ?_)
  rw [search_areWaves] at h
  replace hs0 := hs0.mono (rdLe_frozen M) (fun _ _ => rep83_mo (rdLe_frozen M))
  have hH := Has.nil (frozen M)
  refine Run.seq (Run.region ?_)
  refine Run.opG wantS_none (ex_assign rfl) rfl ?_
  refine Run.opsEnd (Run.seq (Run.seq (Run.region ?_)))
  refine Run.opG wantS_none (ex_move rfl) rfl ?_
  refine Run.opG wantS_none (ex_len' rfl hs0 lenk55) rfl ?_
  refine Run.opG wantS_none (ex_gtr rfl rfl) rfl ?_
  refine Run.opsEnd ?_
  rcases btf ((decide ((64 : Int) < (a0.length : Int)))) with hc21 | hc21
  · have h := bif_t hc21 h
    refine Run.condT' rfl hc21 ?_
    refine Run.seq (Run.region ?_)
    refine Run.opG wantS_none (ex_assign rfl) rfl ?_
    refine Run.opsEnd ?_
    cases h
    exact Run.ret Try.func89 rfl (res_tmp rfl res_nil) rfl
  · have h := bif_f hc21 h
    refine Run.condF' rfl hc21 ?_
    refine Run.skip (Run.seq (Run.region ?_))
    refine Run.opG wantS_none (ex_assign rfl) rfl ?_
    refine Run.opsEnd (Run.seq (Run.seq (Run.region ?_)))
    refine Run.opG wantS_none (ex_move rfl) rfl ?_
    refine Run.opG wantS_none (ex_len' rfl hs0 lenk55) rfl ?_
    refine Run.opG wantS_none (ex_move rfl) rfl ?_
    refine Run.opsEnd (Run.block (Run.loop ?_))
    exact Run.pick [1, 5, 11, 12, 13] (search_areWaves_1_ok F F a1 ((-1) : Int) a0 (a0.length : Int) (0 : Int) s0 _ _ _ hs0 hH h)

theorem mkk89 : makeK Try.prog 89 = none := by kernel_rfl
theorem cal89 : callable Try.prog 89 = true := by kernel_rfl
abbrev search_checkWaves_post (r : Int) : SV → Mem → Prop := fun s _ => s = (.int .i64 r)

def search_checkWaves (F : Nat) (a0 : (List Int)) (a1 : (List S_api_Wave)) : Option (Int) :=
  bnd (search_isRecord F a0) fun r22 =>
  bif (!r22) then
    some (82 : Int)
  else
    bnd (search_areWaves F a1 (a0.length : Int)) fun r26 =>
    bif (!r26) then
      some (83 : Int)
    else
      some (0 : Int)

theorem search_checkWaves_ok (F : Nat) (a0 : (List Int)) (a1 : (List S_api_Wave)) (s0 s1 : SV) (r : Int) (M : Mem) (hs0 : Slc (rd M) 1 (FlatR enc3) s0 a0) (hs1 : Slc (rd M) 3 (rep83 (rd M)) s1 a1) (h : search_checkWaves F a0 a1 = some r) : CallsM Try.prog 81 [s0, s1] M (fun s M' => s = (.int .i64 r) ∧ M' = M) := by
  refine CallsM.plain Try.func81 rfl rfl rfl (show Run _ _ _ (search_checkWaves_post r) _ _ _ from ?_)
  rw [search_checkWaves] at h
  replace hs0 := hs0.mono (rdLe_frozen M) (fun _ _ h => h)
  replace hs1 := hs1.mono (rdLe_frozen M) (fun _ _ => rep83_mo (rdLe_frozen M))
  have hH := Has.nil (frozen M)
  refine Run.seq (Run.region ?_)
  refine Run.opG wantS_none (ex_assign rfl) rfl ?_
  refine Run.opsEnd (Run.seq (Run.block (Run.seq (Run.region ?_))))
  refine Run.opG wantS_none (ex_move rfl) rfl ?_
  obtain ⟨r22, hr22, h⟩ := bnd_some h
  refine Run.callP wantS_none (ex_call rfl mkk69 cal69) rfl (search_isRecord_ok F a0 s0 _ _ (hH.slcF hs0) hr22) ?_
  refine Run.opG wantS_none (ex_not rfl) rfl ?_
  refine Run.opG wantS_none (ex_assign rfl) rfl ?_
  refine Run.opsEnd ?_
  rcases btf ((!r22)) with hc24 | hc24
  · have h := bif_t hc24 h
    refine Run.condT' rfl hc24 ?_
    refine Run.seq (Run.region ?_)
    refine Run.opG wantS_none (ex_assign rfl) rfl ?_
    refine Run.opsEnd ?_
    cases h
    exact Run.ret Try.func81 rfl (res_tmp rfl res_nil) rfl
  · have h := bif_f hc24 h
    refine Run.condF' rfl hc24 ?_
    refine Run.seq (Run.region ?_)
    refine Run.opG wantS_none (ex_move rfl) rfl ?_
    refine Run.opG wantS_none (ex_move rfl) rfl ?_
    refine Run.opG wantS_none (ex_len' rfl hs0 lenk38) rfl ?_
    obtain ⟨r26, hr26, h⟩ := bnd_some h
    refine Run.callP wantS_none (ex_call rfl mkk89 cal89) rfl (search_areWaves_ok F a1 (a0.length : Int) s1 _ _ ((hs1).mono hH.le (fun _ _ => rep83_mo hH.le)) hr26) ?_
    refine Run.opG wantS_none (ex_not rfl) rfl ?_
    refine Run.opG wantS_none (ex_assign rfl) rfl ?_
    refine Run.opsEnd ?_
    rcases btf ((!r26)) with hc28 | hc28
    · have h := bif_t hc28 h
      refine Run.condT' rfl hc28 ?_
      refine Run.seq (Run.region ?_)
      refine Run.opG wantS_none (ex_assign rfl) rfl ?_
      refine Run.opsEnd ?_
      cases h
      exact Run.ret Try.func81 rfl (res_tmp rfl res_nil) rfl
    · have h := bif_f hc28 h
      refine Run.condF' rfl hc28 ?_
      refine Run.skip (Run.inBlock (Run.seq (Run.region ?_)))
      refine Run.opG wantS_none (ex_assign rfl) rfl ?_
      refine Run.opsEnd ?_
      cases h
      exact Run.ret Try.func81 rfl (res_tmp rfl res_nil) rfl

theorem mkk81 : makeK Try.prog 81 = none := by kernel_rfl
theorem cal81 : callable Try.prog 81 = true := by kernel_rfl
theorem eqk38 : eqK Try.prog 38 = some .slice := by kernel_rfl
theorem elt38 : sliceElt Try.prog 38 = some (⟨1, 8, [(.int .i64 0)], 3⟩ : Elt) := by kernel_rfl
theorem appt38_38 : appT Try.prog 38 38 = some (⟨1, 8, [(.int .i64 0)], 3⟩ : Elt) := by kernel_rfl
abbrev slices_Clone_post (r : (List Int)) : SV → Mem → Prop := fun s Me => ∃ q1, s = q1 ∧ Has (fun _ => none) Me [.vec 3 1 r.length q1 (r.flatMap enc3)]

def slices_Clone (F : Nat) (a0 : (List Int)) : Option ((List Int)) :=
  bnd (apd 8 ([] : List Int) a0) fun l29 =>
  some l29

theorem slices_Clone_ok (F : Nat) (a0 : (List Int)) (s0 : SV) (r : (List Int)) (M : Mem) (hs0 : Slc (rd M) 1 (FlatR enc3) s0 a0) (h : slices_Clone F a0 = some r) : CallsM Try.prog 118 [s0] M (fun s M' => ∃ q1, s = q1 ∧ New M M' [.vec 3 1 r.length q1 (r.flatMap enc3)]) := by
  refine CallsM.fresh (Q := slices_Clone_post r) Try.func118 rfl rfl ?_ (by rintro s Me ⟨q1, rfl, hx⟩ ha hw; exact ⟨_, rfl, New.of rfl hx ha hw⟩)
  rw [slices_Clone] at h
  replace hs0 := hs0.mono (rdLe_frozen M) (fun _ _ h => h)
  have hH := Has.nil (frozen M)
  refine Run.seq (Run.region ?_)
  refine Run.opG wantS_none (ex_assign rfl) rfl ?_
  refine Run.opsEnd (Run.seq (Run.seq (Run.region ?_)))
  refine Run.opG wantS_none (ex_move rfl) rfl ?_
  rcases slc_or hs0 with ⟨rfl, rfl⟩ | hn21
  · have h : (
      some ([] : List Int)
      ) = some r := h
    refine Run.opG wantS_none (ex_nilT rfl rfl eqk38) rfl ?_
    refine Run.opsEnd ?_
    refine Run.condT' rfl rfl ?_
    refine Run.seq (Run.region ?_)
    refine Run.opG wantS_none (ex_assign rfl) rfl ?_
    refine Run.opsEnd ?_
    have hH23 : Has (ro (frozen M)) (frozen M) [.vec 3 1 ([] : List Int).length .nils (([] : List Int).flatMap enc3)] := hH.nils 3 1
    cases h
    exact Run.ret Try.func118 rfl (res_tmp rfl res_nil) ⟨_, rfl, (hH23.pick [0] rfl rfl).upF (none_le _)⟩
  · refine Run.opG wantS_none (ex_nilF rfl hn21 rfl eqk38) rfl ?_
    refine Run.opsEnd ?_
    refine Run.condF' rfl rfl ?_
    refine Run.skip (Run.seq (Run.region ?_))
    refine Run.opX wantS_none rfl (ExG.built (enc := enc3) (l := ([] : List Int)) (z := 1) rfl elt38 rfl rfl rfl enc3_len hH) ?_
    rintro s25 M26 (hH26 : Has (ro (frozen M)) M26 [.vec 3 1 ([] : List Int).length s25 (([] : List Int).flatMap enc3)])
    refine Run.opG wantS_none (ex_move rfl) rfl ?_
    obtain ⟨l29, hl29, h⟩ := bnd_some h
    refine Run.opX wantS_none rfl (ExG.append rfl rfl hH26 (i := 0) rfl enc3_len rfl enc3_ones appt38_38 rfl (len_slc hs0) (first_slc hs0 (rdLe_roF hH26) enc3_len) hl29) ?_
    rintro s29 M31 (hH31 : Has (ro (frozen M)) M31 [.vec 3 1 l29.length s29 (l29.flatMap enc3)])
    refine Run.opG wantS_none (ex_assign rfl) rfl ?_
    refine Run.opsEnd ?_
    cases h
    exact Run.ret Try.func118 rfl (res_tmp rfl res_nil) ⟨_, rfl, (hH31.pick [0] rfl rfl).upF (none_le _)⟩

theorem mkk118 : makeK Try.prog 118 = none := by kernel_rfl
theorem cal118 : callable Try.prog 118 = true := by kernel_rfl
theorem sz3 : szOf Try.prog 3 = some 1 := by kernel_rfl
theorem plan83_1_1_0_1_0_0_1_1_0_0_1_1_0_0_1_1_0_0_1 : planOf Try.prog (opsC (atC Try.prog 83 [1, 1, 0, 1, 0, 0, 1, 1, 0, 0, 1, 1, 0, 0, 1, 1, 0, 0, 1])) = some [.fl 0, .fl 1, .fl 2, .fl 3, .fl 4, .fl 5, .fl 6, .fl 7, .fl 8, .fl 9, .fl 10, .fl 11, .fl 12, .fl 13, .fl 14, .an 15 [], .sync] := by kernel_rfl
abbrev search_added_post (r : (List Int)) : SV → Mem → Prop := fun s Me => ∃ q1, s = q1 ∧ Has (fun _ => none) Me [.vec 3 1 r.length q1 (r.flatMap enc3)]

def search_added_2 (F : Nat) (hd1 : Int → (List S_api_Wave) → Int → Int → (List Int) → Option ((List Int))) : Nat → Int → (List S_api_Wave) → Int → Int → (List Int) → Int → Int → Int → Int → (List Int) → (List Int) → Option ((List Int))
  | 0, _, _, _, _, _, _, _, _, _, _, _ => none
  | N + 1, v2, v14, v15, v16, v21, v22, v23, c30_0, c30_1, c30_2, l24 =>
    bif (decide (v23 < v22)) then
      bnd (idx v21 v23) fun x35 =>
      bnd (idx l24 (w64 (c30_0 + v23))) fun x36 =>
      bnd (inn l24 (w64 (c30_0 + v23))) fun o37 =>
      bnd (upd l24 o37 (w64 (x36 + (w64 ((w64 (v2 * c30_1)) * x35))))) fun l38 =>
      (search_added_2 F hd1 N) v2 v14 v15 v16 v21 v22 (w64 (v23 + (1 : Int))) c30_0 c30_1 c30_2 l38
    else
      hd1 v2 v14 v15 (w64 (v16 + (1 : Int))) l24

theorem search_added_2_ok (F : Nat) (hd1 : Int → (List S_api_Wave) → Int → Int → (List Int) → Option ((List Int))) (hhd1 : ∀ (v2 : Int) (v14 : (List S_api_Wave)) (v15 : Int) (v16 : Int) (l24 : (List Int)) (sv14 : SV) (s24 : SV) (Fr : Rd) (M : Mem) (r : (List Int)) (hv14 : Slc Fr 3 (rep83 Fr) sv14 v14) (hH : Has Fr M [.vec 3 1 l24.length s24 (l24.flatMap enc3)]), hd1 v2 v14 v15 v16 l24 = some r → Run Try.prog ⟨⟨83, [], none⟩, []⟩ 46 (search_added_post r) [(2, (.int .i64 v2)), (7, s24), (14, sv14), (15, (.int .i64 v15)), (16, (.int .i64 v16))] [codeC Try.prog 83 [1, 1, 0, 1, 0, 0], loopC Try.prog 83 [1, 1, 0, 1, 0, 0], .inBlock 0, codeC Try.prog 83 [1, 1, 1]] M) : ∀ (N : Nat), ∀ (v2 : Int) (v14 : (List S_api_Wave)) (v15 : Int) (v16 : Int) (v21 : (List Int)) (v22 : Int) (v23 : Int) (c30_0 : Int) (c30_1 : Int) (c30_2 : (List Int)) (l24 : (List Int)) (sv14 : SV) (sv21 : SV) (sc30_2 : SV) (s24 : SV) (b30 : Pos) (Fr : Rd) (M : Mem) (r : (List Int)) (hv14 : Slc Fr 3 (rep83 Fr) sv14 v14) (hv21 : Slc Fr 1 (FlatR enc3) sv21 v21) (hc30_2 : Slc Fr 1 (FlatR enc3) sc30_2 c30_2) (hH : Has Fr M [.vec 3 1 l24.length s24 (l24.flatMap enc3), .obj b30 (.row 83 .whole [(.int .i64 c30_0), (.int .i64 c30_1), sc30_2])]), search_added_2 F hd1 N v2 v14 v15 v16 v21 v22 v23 c30_0 c30_1 c30_2 l24 = some r → Run Try.prog ⟨⟨83, [], none⟩, []⟩ 46 (search_added_post r) [(2, (.int .i64 v2)), (7, s24), (9, (.ptr b30 0)), (14, sv14), (15, (.int .i64 v15)), (16, (.int .i64 v16)), (21, sv21), (22, (.int .i64 v22)), (23, (.int .i64 v23))] [codeC Try.prog 83 [1, 1, 0, 1, 0, 0, 1, 1, 0, 0, 1, 1, 0, 0], loopC Try.prog 83 [1, 1, 0, 1, 0, 0, 1, 1, 0, 0, 1, 1, 0, 0], .inBlock 2, .inBlock 1, codeC Try.prog 83 [1, 1, 0, 1, 0, 0, 1, 1, 1], loopC Try.prog 83 [1, 1, 0, 1, 0, 0], .inBlock 0, codeC Try.prog 83 [1, 1, 1]] M := by
  intro N
  induction N with
  | zero =>
    intro v2 v14 v15 v16 v21 v22 v23 c30_0 c30_1 c30_2 l24 sv14 sv21 sc30_2 s24 b30 Fr M r hv14 hv21 hc30_2 hH h
    simp [search_added_2] at h
  | succ N ih =>
    intro v2 v14 v15 v16 v21 v22 v23 c30_0 c30_1 c30_2 l24 sv14 sv21 sc30_2 s24 b30 Fr M r hv14 hv21 hc30_2 hH h
    rw [search_added_2] at h
    refine Run.seq (Run.region ?_)
    refine Run.opG wantS_none (ex_lss rfl rfl) rfl ?_
    refine Run.opsEnd (Run.seq ?_)
    rcases btf ((decide (v23 < v22))) with hc33 | hc33
    · have h := bif_t hc33 h
      refine Run.condT' rfl hc33 ?_
      refine Run.skip (Run.seq (Run.block (Run.seq (Run.region ?_))))
      refine Run.opG wantS_none (ex_move rfl) rfl ?_
      obtain ⟨x35, hx35, h⟩ := bnd_some h
      obtain ⟨p35, o35, _, hx35, hp35, rfl⟩ := sl_elem (P := Try.prog) (t := 38) (kk := .i64) hv21 hx35 els38
      refine Run.opG wantS_none (ex_elX rfl rfl hx35) rfl ?_
      refine Run.opG wantS_none (ex_load1 rfl (hH.ptrF hp35) rdLe_rfl agg3) rfl ?_
      refine Run.opG wantS_none (ex_assign rfl) rfl ?_
      refine Run.opG wantS_none (ex_assign rfl) rfl ?_
      refine Run.opsEnd ?_
      refine Run.drawG plan83_1_1_0_1_0_0_1_1_0_0_1_1_0_0_1_1_0_0_1 ?_
      refine DrawG.fl rfl (ev_ex wantS_none (ex_move rfl)) rfl ?_
      refine DrawG.fl rfl (ev_ex wantS_none (ex_fieldAddr rfl off83_0)) rfl ?_
      refine DrawG.fl rfl (ev_ex wantS_none (ex_load1 rfl (hH.cells (i := 1) rfl 0 rfl) rdLe_rfl agg3)) rfl ?_
      refine DrawG.fl rfl (ev_ex wantS_none (ex_move rfl)) rfl ?_
      refine DrawG.fl rfl (ev_ex wantS_none (ex_add rfl rfl)) rfl ?_
      obtain ⟨x36, hx36, h⟩ := bnd_some h
      obtain ⟨p36, o36, hb36, hx36, he36⟩ := vec_elem (P := Try.prog) (t := 38) (kk := .i64) hH (i := 0) rfl hx36 els38
      refine DrawG.fl rfl (ev_ex wantS_none (ex_elX rfl rfl hx36)) rfl ?_
      refine DrawG.fl rfl (ev_ex wantS_none (ex_load1 rfl (hH.at (enc := enc3) (a := x36) (i := 0) rfl hb36 he36 enc3_len) rdLe_rfl agg3)) rfl ?_
      refine DrawG.fl rfl (ev_ex wantS_none (ex_move rfl)) rfl ?_
      refine DrawG.fl rfl (ev_ex wantS_none (ex_fieldAddr rfl off83_1)) rfl ?_
      refine DrawG.fl rfl (ev_ex wantS_none (ex_load1 rfl (hH.cells (i := 1) rfl 1 rfl) rdLe_rfl agg3)) rfl ?_
      refine DrawG.fl rfl (ev_ex wantS_none (ex_mul rfl rfl)) rfl ?_
      refine DrawG.fl rfl (ev_ex wantS_none (ex_move rfl)) rfl ?_
      refine DrawG.fl rfl (ev_ex wantS_none (ex_mul rfl rfl)) rfl ?_
      refine DrawG.fl rfl (ev_ex wantS_none (ex_add rfl rfl)) rfl ?_
      obtain ⟨o37, ho37, h⟩ := bnd_some h
      obtain ⟨p37, hb37, hx37⟩ := vec_place (P := Try.prog) (t := 38) (kk := .i64) hH (i := 0) rfl ho37 els38
      refine DrawG.fl rfl (ev_ex wantS_none (ex_elX rfl rfl hx37)) rfl ?_
      obtain ⟨l38, hl38, h⟩ := bnd_some h
      refine DrawG.opX rfl wantS_none rfl (ExG.storeEl rfl rfl hH (i := 0) rfl hb37 hl38 sz3 rfl enc3_len enc3_ones) ?_
      rintro _ M39 ⟨rfl, (hH39 : Has Fr M39 [.vec 3 1 l38.length s24 (l38.flatMap enc3), .obj b30 (.row 83 .whole [(.int .i64 c30_0), (.int .i64 c30_1), sc30_2])])⟩
      refine ⟨st_nil, ?_⟩
      refine DrawG.sync ?_
      refine DrawG.nil ?_
      refine Run.inBlock (Run.region ?_)
      refine Run.opG wantS_none (ex_add rfl rfl) rfl ?_
      refine Run.opG wantS_none (ex_move rfl) rfl ?_
      refine Run.opsEnd (Run.inLoop ?_)
      exact Run.pick [2, 7, 9, 14, 15, 16, 21, 22, 23] (ih v2 v14 v15 v16 v21 v22 (w64 (v23 + (1 : Int))) c30_0 c30_1 c30_2 l38 sv14 sv21 sc30_2 s24 b30 _ _ _ hv14 hv21 hc30_2 hH39 h)
    · have h := bif_f hc33 h
      refine Run.condF' rfl hc33 ?_
      refine Run.exit rfl (Run.inBlock (Run.region ?_))
      refine Run.opG wantS_none (ex_add rfl rfl) rfl ?_
      refine Run.opG wantS_none (ex_move rfl) rfl ?_
      refine Run.opsEnd (Run.inLoop ?_)
      exact Run.pick [2, 7, 14, 15, 16] (hhd1 v2 v14 v15 (w64 (v16 + (1 : Int))) l24 sv14 s24 _ _ _ hv14 (hH.pick [0] rfl rfl) h)

def search_added_1 (F : Nat) : Nat → Int → (List S_api_Wave) → Int → Int → (List Int) → Option ((List Int))
  | 0, _, _, _, _, _ => none
  | N + 1, v2, v14, v15, v16, l24 =>
    bif (decide (v16 < v15)) then
      bnd (idx v14 v16) fun x28 =>
      search_added_2 F (search_added_1 F N) F v2 v14 v15 v16 x28.Samples (x28.Samples.length : Int) (0 : Int) x28.At x28.Gain x28.Samples l24
    else
      some l24

theorem search_added_1_ok (F : Nat) : ∀ (N : Nat), ∀ (v2 : Int) (v14 : (List S_api_Wave)) (v15 : Int) (v16 : Int) (l24 : (List Int)) (sv14 : SV) (s24 : SV) (Fr : Rd) (M : Mem) (r : (List Int)) (hv14 : Slc Fr 3 (rep83 Fr) sv14 v14) (hH : Has Fr M [.vec 3 1 l24.length s24 (l24.flatMap enc3)]), search_added_1 F N v2 v14 v15 v16 l24 = some r → Run Try.prog ⟨⟨83, [], none⟩, []⟩ 46 (search_added_post r) [(2, (.int .i64 v2)), (7, s24), (14, sv14), (15, (.int .i64 v15)), (16, (.int .i64 v16))] [codeC Try.prog 83 [1, 1, 0, 1, 0, 0], loopC Try.prog 83 [1, 1, 0, 1, 0, 0], .inBlock 0, codeC Try.prog 83 [1, 1, 1]] M := by
  intro N
  induction N with
  | zero =>
    intro v2 v14 v15 v16 l24 sv14 s24 Fr M r hv14 hH h
    simp [search_added_1] at h
  | succ N ih =>
    intro v2 v14 v15 v16 l24 sv14 s24 Fr M r hv14 hH h
    rw [search_added_1] at h
    refine Run.seq (Run.region ?_)
    refine Run.opG wantS_none (ex_lss rfl rfl) rfl ?_
    refine Run.opsEnd (Run.seq ?_)
    rcases btf ((decide (v16 < v15))) with hc26 | hc26
    · have h := bif_t hc26 h
      refine Run.condT' rfl hc26 ?_
      refine Run.skip (Run.seq (Run.block (Run.seq (Run.region ?_))))
      obtain ⟨x28, hx28, h⟩ := bnd_some h
      obtain ⟨p28, o28, _, hx28, hp28, ⟨q28_0, rfl, hq28_0⟩⟩ := sl_elem (P := Try.prog) (t := 55) (kk := .i64) hv14 hx28 els55
      refine Run.opG wantS_none (ex_elX rfl rfl hx28) rfl ?_
      refine Run.opG wantS_none (ex_loadA rfl (hH.ptrF hp28) rdLe_rfl agg83 rfl rfl rfl) rfl ?_
      refine Run.opX wantS_none rfl (ExG.new (v := fun b => .ptr b 0) (ex_alloc zer83) hH) ?_
      rintro _ M31 ⟨b30, rfl, (hH31 : Has Fr M31 [.obj b30 (.row 83 .whole [(.int .i64 0), (.int .i64 0), .nils]), .vec 3 1 l24.length s24 (l24.flatMap enc3)])⟩
      refine Run.opX wantS_none rfl (ExG.storeC (c' := [(.int .i64 x28.At), (.int .i64 x28.Gain), q28_0]) rfl rfl rfl hH31 (i := 0) rfl sz83 rfl rfl rfl (ones_cons rfl (ones_cons rfl (ones_cons (slc_one hq28_0) ones_nil))) rfl) ?_
      rintro _ M32 ⟨rfl, (hH32 : Has Fr M32 [.obj b30 (.row 83 .whole [(.int .i64 x28.At), (.int .i64 x28.Gain), q28_0]), .vec 3 1 l24.length s24 (l24.flatMap enc3)])⟩
      refine Run.opsEnd (Run.seq (Run.region ?_))
      refine Run.opG wantS_none (ex_fieldAddr rfl off83_2) rfl ?_
      refine Run.opG wantS_none (ex_load1 rfl (hH32.cells (i := 0) rfl 2 rfl) rdLe_rfl agg38) rfl ?_
      refine Run.opG wantS_none (ex_len' rfl hq28_0 lenk38) rfl ?_
      refine Run.opG wantS_none (ex_move rfl) rfl ?_
      refine Run.opsEnd (Run.block (Run.loop ?_))
      exact Run.pick [2, 7, 9, 14, 15, 16, 21, 22, 23] (search_added_2_ok F (search_added_1 F N) ih F v2 v14 v15 v16 x28.Samples (x28.Samples.length : Int) (0 : Int) x28.At x28.Gain x28.Samples l24 sv14 q28_0 q28_0 s24 b30 _ _ _ hv14 hq28_0 hq28_0 (hH32.pick [1, 0] rfl rfl) h)
    · have h := bif_f hc26 h
      refine Run.condF' rfl hc26 ?_
      refine Run.exit rfl (Run.seq (Run.region ?_))
      refine Run.opG wantS_none (ex_move rfl) rfl ?_
      refine Run.opG wantS_none (ex_assign rfl) rfl ?_
      refine Run.opsEnd ?_
      cases h
      exact Run.ret Try.func83 rfl (res_tmp rfl res_nil) ⟨_, rfl, (hH.pick [0] rfl rfl).upF (none_le _)⟩

def search_added (F : Nat) (a0 : (List Int)) (a1 : (List S_api_Wave)) (a2 : Int) : Option ((List Int)) :=
  bnd (slices_Clone F a0) fun r23 =>
  search_added_1 F F a2 a1 (a1.length : Int) (0 : Int) r23

theorem search_added_ok (F : Nat) (a0 : (List Int)) (a1 : (List S_api_Wave)) (a2 : Int) (s0 s1 : SV) (r : (List Int)) (M : Mem) (hs0 : Slc (rd M) 1 (FlatR enc3) s0 a0) (hs1 : Slc (rd M) 3 (rep83 (rd M)) s1 a1) (h : search_added F a0 a1 a2 = some r) : CallsM Try.prog 83 [s0, s1, (.int .i64 a2)] M (fun s M' => ∃ q1, s = q1 ∧ New M M' [.vec 3 1 r.length q1 (r.flatMap enc3)]) := by
  refine CallsM.fresh (Q := search_added_post r) Try.func83 rfl rfl ?_ (by rintro s Me ⟨q1, rfl, hx⟩ ha hw; exact ⟨_, rfl, New.of rfl hx ha hw⟩)
  rw [search_added] at h
  replace hs0 := hs0.mono (rdLe_frozen M) (fun _ _ h => h)
  replace hs1 := hs1.mono (rdLe_frozen M) (fun _ _ => rep83_mo (rdLe_frozen M))
  have hH := Has.nil (frozen M)
  refine Run.seq (Run.region ?_)
  refine Run.opG wantS_none (ex_assign rfl) rfl ?_
  refine Run.opsEnd (Run.seq (Run.region ?_))
  refine Run.opG wantS_none (ex_move rfl) rfl ?_
  obtain ⟨r23, hr23, h⟩ := bnd_some h
  refine Run.callX wantS_none (ex_call rfl mkk118 cal118) rfl (slices_Clone_ok F a0 s0 _ _ (hH.slcF hs0) hr23) ?_
  rintro s23_0 M25 ⟨_, rfl, hN23⟩
  have hH25 : Has (ro (frozen M)) M25 [.vec 3 1 r23.length s23_0 (r23.flatMap enc3)] := hN23.1 _ _ hH
  refine Run.opG wantS_none (ex_assign rfl) rfl ?_
  refine Run.opsEnd (Run.seq (Run.seq (Run.region ?_)))
  refine Run.opG wantS_none (ex_move rfl) rfl ?_
  refine Run.opG wantS_none (ex_len' rfl hs1 lenk55) rfl ?_
  refine Run.opG wantS_none (ex_move rfl) rfl ?_
  refine Run.opsEnd (Run.block (Run.loop ?_))
  exact Run.pick [2, 7, 14, 15, 16] (search_added_1_ok F F a2 a1 (a1.length : Int) (0 : Int) r23 s1 s23_0 _ _ _ hs1 hH25 h)

theorem mkk83 : makeK Try.prog 83 = none := by kernel_rfl
theorem cal83 : callable Try.prog 83 = true := by kernel_rfl
theorem mkk82 : makeK Try.prog 82 = none := by kernel_rfl
theorem cal82 : callable Try.prog 82 = true := by kernel_rfl
abbrev search_Inject_post (r : (List Int) × Int) : SV → Mem → Prop := fun s Me => ∃ q1, s = (.tuple [q1, (.int .i64 r.2)]) ∧ Has (fun _ => none) Me [.vec 3 1 r.1.length q1 (r.1.flatMap enc3)]

def search_Inject (F : Nat) (a0 : (List Int)) (a1 : (List S_api_Wave)) : Option ((List Int) × Int) :=
  bnd (search_checkWaves F a0 a1) fun r22 =>
  bif (!(r22 == (0 : Int))) then
    some (([] : List Int), r22)
  else
    bnd (search_added F a0 a1 (1 : Int)) fun r29 =>
    bnd (search_isRecord F r29) fun r33 =>
    bif (!r33) then
      some (([] : List Int), (8 : Int))
    else
      some (r29, (0 : Int))

theorem search_Inject_ok (F : Nat) (a0 : (List Int)) (a1 : (List S_api_Wave)) (s0 s1 : SV) (r : (List Int) × Int) (M : Mem) (hs0 : Slc (rd M) 1 (FlatR enc3) s0 a0) (hs1 : Slc (rd M) 3 (rep83 (rd M)) s1 a1) (h : search_Inject F a0 a1 = some r) : CallsM Try.prog 39 [s0, s1] M (fun s M' => ∃ q1, s = (.tuple [q1, (.int .i64 r.2)]) ∧ New M M' [.vec 3 1 r.1.length q1 (r.1.flatMap enc3)]) := by
  refine CallsM.fresh (Q := search_Inject_post r) Try.func39 rfl rfl ?_ (by rintro s Me ⟨q1, rfl, hx⟩ ha hw; exact ⟨_, rfl, New.of rfl hx ha hw⟩)
  rw [search_Inject] at h
  replace hs0 := hs0.mono (rdLe_frozen M) (fun _ _ h => h)
  replace hs1 := hs1.mono (rdLe_frozen M) (fun _ _ => rep83_mo (rdLe_frozen M))
  have hH := Has.nil (frozen M)
  refine Run.seq (Run.region ?_)
  refine Run.opG wantS_none (ex_assign rfl) rfl ?_
  refine Run.opG wantS_none (ex_assign rfl) rfl ?_
  refine Run.opsEnd (Run.seq (Run.seq (Run.region ?_)))
  refine Run.opG wantS_none (ex_move rfl) rfl ?_
  refine Run.opG wantS_none (ex_move rfl) rfl ?_
  obtain ⟨r22, hr22, h⟩ := bnd_some h
  refine Run.callP wantS_none (ex_call rfl mkk81 cal81) rfl (search_checkWaves_ok F a0 a1 s0 s1 _ _ (hH.slcF hs0) ((hs1).mono hH.le (fun _ _ => rep83_mo hH.le)) hr22) ?_
  refine Run.opG wantS_none (ex_assign rfl) rfl ?_
  refine Run.opsEnd (Run.seq (Run.region ?_))
  refine Run.opG wantS_none (ex_move rfl) rfl ?_
  refine Run.opG wantS_none (ex_neq rfl rfl) rfl ?_
  refine Run.opsEnd ?_
  rcases btf ((!(r22 == (0 : Int)))) with hc24 | hc24
  · have h := bif_t hc24 h
    refine Run.condT' rfl hc24 ?_
    refine Run.seq (Run.region ?_)
    refine Run.opG wantS_none (ex_move rfl) rfl ?_
    refine Run.opG wantS_none (ex_assign rfl) rfl ?_
    refine Run.opG wantS_none (ex_assign rfl) rfl ?_
    refine Run.opsEnd ?_
    have hH26 : Has (ro (frozen M)) (frozen M) [.vec 3 1 ([] : List Int).length .nils (([] : List Int).flatMap enc3)] := hH.nils 3 1
    cases h
    exact Run.ret Try.func39 rfl (res_tmp rfl (res_tmp rfl res_nil)) ⟨_, rfl, (hH26.pick [0] rfl rfl).upF (none_le _)⟩
  · have h := bif_f hc24 h
    refine Run.condF' rfl hc24 ?_
    refine Run.skip (Run.seq (Run.region ?_))
    refine Run.opG wantS_none (ex_move rfl) rfl ?_
    refine Run.opG wantS_none (ex_move rfl) rfl ?_
    obtain ⟨r29, hr29, h⟩ := bnd_some h
    refine Run.callX wantS_none (ex_call rfl mkk83 cal83) rfl (search_added_ok F a0 a1 (1 : Int) s0 s1 _ _ (hH.slcF hs0) ((hs1).mono hH.le (fun _ _ => rep83_mo hH.le)) hr29) ?_
    rintro s29_0 M31 ⟨_, rfl, hN29⟩
    have hH31 : Has (ro (frozen M)) M31 [.vec 3 1 r29.length s29_0 (r29.flatMap enc3)] := hN29.1 _ _ hH
    refine Run.enter wantS_none (ex_call rfl mkk82 cal82) Try.func82 rfl rfl ?_
    refine Run.seq (Run.region ?_)
    refine Run.opG wantS_none (ex_assign rfl) rfl ?_
    refine Run.opG wantS_none (ex_assign rfl) rfl ?_
    refine Run.opsEnd (Run.seq (Run.seq (Run.region ?_)))
    refine Run.opG wantS_none (ex_move rfl) rfl ?_
    obtain ⟨r33, hr33, h⟩ := bnd_some h
    refine Run.callP wantS_none (ex_call rfl mkk69 cal69) rfl (search_isRecord_ok F r29 s29_0 _ _ (hH31.slc (i := 0) rfl enc3_len) hr33) ?_
    refine Run.opG wantS_none (ex_not rfl) rfl ?_
    refine Run.opsEnd ?_
    rcases btf ((!r33)) with hc35 | hc35
    · have h := bif_t hc35 h
      refine Run.condT' rfl hc35 ?_
      refine Run.seq (Run.region ?_)
      refine Run.opG wantS_none (ex_assign rfl) rfl ?_
      refine Run.opG wantS_none (ex_assign rfl) rfl ?_
      refine Run.opsEnd ?_
      refine Run.retTo Try.func82 rfl (res_tmp rfl (res_tmp rfl res_nil)) rfl ?_
      refine Run.opG wantS_none (ex_extract rfl rfl) rfl ?_
      refine Run.opG wantS_none (ex_extract rfl rfl) rfl ?_
      refine Run.opG wantS_none (ex_assign rfl) rfl ?_
      refine Run.opG wantS_none (ex_assign rfl) rfl ?_
      refine Run.opsEnd ?_
      have hH37 : Has (ro (frozen M)) M31 [.vec 3 1 ([] : List Int).length .nils (([] : List Int).flatMap enc3), .vec 3 1 r29.length s29_0 (r29.flatMap enc3)] := hH31.nils 3 1
      cases h
      exact Run.ret Try.func39 rfl (res_tmp rfl (res_tmp rfl res_nil)) ⟨_, rfl, (hH37.pick [0] rfl rfl).upF (none_le _)⟩
    · have h := bif_f hc35 h
      refine Run.condF' rfl hc35 ?_
      refine Run.skip (Run.seq (Run.region ?_))
      refine Run.opG wantS_none (ex_move rfl) rfl ?_
      refine Run.opG wantS_none (ex_assign rfl) rfl ?_
      refine Run.opG wantS_none (ex_assign rfl) rfl ?_
      refine Run.opsEnd ?_
      refine Run.retTo Try.func82 rfl (res_tmp rfl (res_tmp rfl res_nil)) rfl ?_
      refine Run.opG wantS_none (ex_extract rfl rfl) rfl ?_
      refine Run.opG wantS_none (ex_extract rfl rfl) rfl ?_
      refine Run.opG wantS_none (ex_assign rfl) rfl ?_
      refine Run.opG wantS_none (ex_assign rfl) rfl ?_
      refine Run.opsEnd ?_
      cases h
      exact Run.ret Try.func39 rfl (res_tmp rfl (res_tmp rfl res_nil)) ⟨_, rfl, (hH31.pick [0] rfl rfl).upF (none_le _)⟩

theorem mkk39 : makeK Try.prog 39 = none := by kernel_rfl
theorem cal39 : callable Try.prog 39 = true := by kernel_rfl
abbrev ref00_In_post (r : Bool) : SV → Mem → Prop := fun s _ => s = (.bool r)

def ref00_In_1 (F : Nat) (v14 : Bool) : Option (Bool) :=
  some v14

theorem ref00_In_1_ok (F : Nat) : ∀ (v14 : Bool) (Fr : Rd) (M : Mem) (r : Bool) (hH : Has Fr M []), ref00_In_1 F v14 = some r → Run Try.prog ⟨⟨49, [], none⟩, []⟩ 15 (ref00_In_post r) [(14, (.bool v14))] [itemC Try.prog 49 [1, 0] 8, codeC Try.prog 49 [1, 1]] M := by
  intro v14 Fr M r hH h
  rw [ref00_In_1] at h
  refine Run.opG wantS_none (ex_assign rfl) rfl ?_
  refine Run.opsEnd ?_
  cases h
  exact Run.ret Try.func49 rfl (res_tmp rfl res_nil) rfl

def ref00_In (F : Nat) (a0 : Int) (a1 : Int) (a2 : Int) : Option (Bool) :=
  bif (decide (a1 ≤ a0)) then
    ref00_In_1 F (decide (a0 ≤ a2))
  else
    ref00_In_1 F false

theorem ref00_In_ok (F : Nat) (a0 : Int) (a1 : Int) (a2 : Int) (r : Bool) (M : Mem) (h : ref00_In F a0 a1 a2 = some r) : CallsM Try.prog 49 [(.int .i64 a0), (.int .i64 a1), (.int .i64 a2)] M (fun s M' => s = (.bool r) ∧ M' = M) := by
  refine CallsM.plain Try.func49 rfl rfl rfl (show Run _ _ _ (ref00_In_post r) _ _ _ from ?_)
  rw [ref00_In] at h
  have hH := Has.nil (frozen M)
  refine Run.seq (Run.region ?_)
  refine Run.opG wantS_none (ex_assign rfl) rfl ?_
  refine Run.opsEnd (Run.seq (Run.region ?_))
  refine Run.opG wantS_none (ex_move rfl) rfl ?_
  refine Run.opG wantS_none (ex_move rfl) rfl ?_
  refine Run.opG wantS_none (ex_leq rfl rfl) rfl ?_
  refine Run.opG wantS_none (ex_move rfl) rfl ?_
  rcases btf ((decide (a1 ≤ a0))) with hc21 | hc21
  · have h := bif_t hc21 h
    refine Run.opG (wantS_yes' rfl rfl hc21) (ex_move rfl) rfl ?_
    refine Run.opG (wantS_yes' rfl rfl hc21) (ex_move rfl) rfl ?_
    refine Run.opG (wantS_yes' rfl rfl hc21) (ex_leq rfl rfl) rfl ?_
    refine Run.opG wantS_none (ex_pickT' rfl hc21 rfl rfl) rfl ?_
    exact Run.pick [14] (ref00_In_1_ok F (decide (a0 ≤ a2)) _ _ _ hH h)
  · have h := bif_f hc21 h
    refine Run.no (wantS_not' rfl rfl hc21) rfl ?_
    refine Run.no (wantS_not' rfl rfl hc21) rfl ?_
    refine Run.no (wantS_not' rfl rfl hc21) rfl ?_
    refine Run.opG wantS_none (ex_pickF' rfl hc21 rfl rfl) rfl ?_
    exact Run.pick [14] (ref00_In_1_ok F false _ _ _ hH h)

theorem mkk49 : makeK Try.prog 49 = none := by kernel_rfl
theorem cal49 : callable Try.prog 49 = true := by kernel_rfl
abbrev ref08_record_post (r : Bool) : SV → Mem → Prop := fun s _ => s = (.bool r)

def ref08_record_1 (F : Nat) : Nat → (List Int) → Int → Option (Bool)
  | 0, _, _ => none
  | N + 1, v0, v3 =>
    bif (decide (v3 < (v0.length : Int))) then
      bnd (idx v0 v3) fun x23 =>
      bnd (ref00_In F x23 ((-16384) : Int) (16384 : Int)) fun r25 =>
      bif (!r25) then
        some false
      else
        (ref08_record_1 F N) v0 (w64 (v3 + (1 : Int)))
    else
      some (decide ((v0.length : Int) ≤ (1024 : Int)))

theorem ref08_record_1_ok (F : Nat) : ∀ (N : Nat), ∀ (v0 : (List Int)) (v3 : Int) (sv0 : SV) (Fr : Rd) (M : Mem) (r : Bool) (hv0 : Slc Fr 1 (FlatR enc3) sv0 v0) (hH : Has Fr M []), ref08_record_1 F N v0 v3 = some r → Run Try.prog ⟨⟨71, [], none⟩, []⟩ 19 (ref08_record_post r) [(0, sv0), (3, (.int .i64 v3))] [codeC Try.prog 71 [1, 0, 1, 0, 0], loopC Try.prog 71 [1, 0, 1, 0, 0], .inBlock 0, codeC Try.prog 71 [1, 1]] M := by
  intro N
  induction N with
  | zero =>
    intro v0 v3 sv0 Fr M r hv0 hH h
    simp [ref08_record_1] at h
  | succ N ih =>
    intro v0 v3 sv0 Fr M r hv0 hH h
    rw [ref08_record_1] at h
    refine Run.seq (Run.seq (Run.region ?_))
    refine Run.opG wantS_none (ex_move rfl) rfl ?_
    refine Run.opG wantS_none (ex_move rfl) rfl ?_
    refine Run.opG wantS_none (ex_len' rfl hv0 lenk38) rfl ?_
    refine Run.opG wantS_none (ex_lss rfl rfl) rfl ?_
    refine Run.opsEnd ?_
    rcases btf ((decide (v3 < (v0.length : Int)))) with hc21 | hc21
    · have h := bif_t hc21 h
      refine Run.condT' rfl hc21 ?_
      refine Run.skip (Run.seq (Run.block (Run.seq (Run.region ?_))))
      refine Run.opG wantS_none (ex_move rfl) rfl ?_
      refine Run.opG wantS_none (ex_move rfl) rfl ?_
      obtain ⟨x23, hx23, h⟩ := bnd_some h
      obtain ⟨p23, o23, _, hx23, hp23, rfl⟩ := sl_elem (P := Try.prog) (t := 38) (kk := .i64) hv0 hx23 els38
      refine Run.opG wantS_none (ex_elX rfl rfl hx23) rfl ?_
      refine Run.opG wantS_none (ex_load1 rfl (hH.ptrF hp23) rdLe_rfl agg3) rfl ?_
      obtain ⟨r25, hr25, h⟩ := bnd_some h
      refine Run.callP wantS_none (ex_call rfl mkk49 cal49) rfl (ref00_In_ok F x23 ((-16384) : Int) (16384 : Int) _ _ hr25) ?_
      refine Run.opG wantS_none (ex_not rfl) rfl ?_
      refine Run.opsEnd ?_
      rcases btf ((!r25)) with hc27 | hc27
      · have h := bif_t hc27 h
        refine Run.condT' rfl hc27 ?_
        refine Run.seq (Run.region ?_)
        refine Run.opG wantS_none (ex_assign rfl) rfl ?_
        refine Run.opsEnd ?_
        cases h
        exact Run.ret Try.func71 rfl (res_tmp rfl res_nil) rfl
      · have h := bif_f hc27 h
        refine Run.condF' rfl hc27 ?_
        refine Run.skip (Run.inBlock (Run.region ?_))
        refine Run.opG wantS_none (ex_move rfl) rfl ?_
        refine Run.opG wantS_none (ex_add rfl rfl) rfl ?_
        refine Run.opG wantS_none (ex_assign rfl) rfl ?_
        refine Run.opsEnd (Run.inLoop ?_)
        exact Run.pick [0, 3] (ih v0 (w64 (v3 + (1 : Int))) sv0 _ _ _ hv0 hH h)
    · have h := bif_f hc21 h
      refine Run.condF' rfl hc21 ?_
      refine Run.exit rfl (Run.seq (Run.region ?_))
      refine Run.opG wantS_none (ex_move rfl) rfl ?_
      refine Run.opG wantS_none (ex_len' rfl hv0 lenk38) rfl ?_
      refine Run.opG wantS_none (ex_leq rfl rfl) rfl ?_
      refine Run.opG wantS_none (ex_assign rfl) rfl ?_
      refine Run.opsEnd ?_
      cases h
      exact Run.ret Try.func71 rfl (res_tmp rfl res_nil) rfl

def ref08_record (F : Nat) (a0 : (List Int)) : Option (Bool) :=
  ref08_record_1 F F a0 (0 : Int)

theorem ref08_record_ok (F : Nat) (a0 : (List Int)) (s0 : SV) (r : Bool) (M : Mem) (hs0 : Slc (rd M) 1 (FlatR enc3) s0 a0) (h : ref08_record F a0 = some r) : CallsM Try.prog 71 [s0] M (fun s M' => s = (.bool r) ∧ M' = M) := by
  refine CallsM.plain Try.func71 rfl rfl rfl (show Run _ _ _ (ref08_record_post r) _ _ _ from ?_)
  rw [ref08_record] at h
  replace hs0 := hs0.mono (rdLe_frozen M) (fun _ _ h => h)
  have hH := Has.nil (frozen M)
  refine Run.seq (Run.region ?_)
  refine Run.opG wantS_none (ex_assign rfl) rfl ?_
  refine Run.opsEnd (Run.seq (Run.seq (Run.region ?_)))
  refine Run.opG wantS_none (ex_assign rfl) rfl ?_
  refine Run.opsEnd (Run.block (Run.loop ?_))
  exact Run.pick [0, 3] (ref08_record_1_ok F F a0 (0 : Int) s0 _ _ _ hs0 hH h)

theorem mkk71 : makeK Try.prog 71 = none := by kernel_rfl
theorem cal71 : callable Try.prog 71 = true := by kernel_rfl
theorem plan92_1_1_0_1_0_0_1_0_0_1_0_0 : planOf Try.prog (opsC (atC Try.prog 92 [1, 1, 0, 1, 0, 0, 1, 0, 0, 1, 0, 0])) = some [.fl 0, .fl 1, .fl 2, .fl 3, .fl 4, .fl 5, .fl 6, .fl 7, .fl 8, .fl 9, .fl 10, .fl 11, .an 12 [], .fl 13, .fl 14, .fl 15, .fl 16, .fl 17, .fl 18, .an 19 [], .fl 20, .fl 21, .fl 22, .fl 23, .fl 24, .fl 25, .fl 26, .fl 27, .fl 28, .fl 29, .fl 30, .fl 31, .fl 32, .fl 33, .fl 34, .fl 35, .fl 36, .fl 37, .fl 38, .fl 39, .fl 40, .fl 41, .fl 42, .fl 43, .fl 44, .fl 45, .fl 46, .sync] := by kernel_rfl
abbrev ref08_waves_post (r : Bool) : SV → Mem → Prop := fun s _ => s = (.bool r)

def ref08_waves_3 (F : Nat) (hd1 : (List S_api_Wave) → Int → Int → Option (Bool)) : Nat → (List S_api_Wave) → Int → Int → Int → Int → Int → (List Int) → Option (Bool)
  | 0, _, _, _, _, _, _, _ => none
  | N + 1, v0, v1, v5, v7, c26_0, c26_1, c26_2 =>
    bif (decide (v7 < (c26_2.length : Int))) then
      bnd (idx c26_2 v7) fun x33 =>
      bnd (ref00_In F x33 ((-256) : Int) (256 : Int)) fun r35 =>
      bif (!r35) then
        some false
      else
        (ref08_waves_3 F hd1 N) v0 v1 v5 (w64 (v7 + (1 : Int))) c26_0 c26_1 c26_2
    else
      hd1 v0 v1 (w64 (v5 + (1 : Int)))

theorem ref08_waves_3_ok (F : Nat) (hd1 : (List S_api_Wave) → Int → Int → Option (Bool)) (hhd1 : ∀ (v0 : (List S_api_Wave)) (v1 : Int) (v5 : Int) (sv0 : SV) (Fr : Rd) (M : Mem) (r : Bool) (hv0 : Slc Fr 3 (rep83 Fr) sv0 v0) (hH : Has Fr M []), hd1 v0 v1 v5 = some r → Run Try.prog ⟨⟨92, [], none⟩, []⟩ 82 (ref08_waves_post r) [(0, sv0), (1, (.int .i64 v1)), (5, (.int .i64 v5))] [codeC Try.prog 92 [1, 1, 0, 1, 0, 0], loopC Try.prog 92 [1, 1, 0, 1, 0, 0], .inBlock 0, codeC Try.prog 92 [1, 1, 1]] M) : ∀ (N : Nat), ∀ (v0 : (List S_api_Wave)) (v1 : Int) (v5 : Int) (v7 : Int) (c26_0 : Int) (c26_1 : Int) (c26_2 : (List Int)) (sv0 : SV) (sc26_2 : SV) (b26 : Pos) (Fr : Rd) (M : Mem) (r : Bool) (hv0 : Slc Fr 3 (rep83 Fr) sv0 v0) (hc26_2 : Slc Fr 1 (FlatR enc3) sc26_2 c26_2) (hH : Has Fr M [.obj b26 (.row 83 .whole [(.int .i64 c26_0), (.int .i64 c26_1), sc26_2])]), ref08_waves_3 F hd1 N v0 v1 v5 v7 c26_0 c26_1 c26_2 = some r → Run Try.prog ⟨⟨92, [], none⟩, []⟩ 82 (ref08_waves_post r) [(0, sv0), (1, (.int .i64 v1)), (5, (.int .i64 v5)), (6, (.ptr b26 0)), (7, (.int .i64 v7))] [codeC Try.prog 92 [1, 1, 0, 1, 0, 0, 1, 0, 0, 1, 1, 1, 0, 0], loopC Try.prog 92 [1, 1, 0, 1, 0, 0, 1, 0, 0, 1, 1, 1, 0, 0], .inBlock 2, .inBlock 1, codeC Try.prog 92 [1, 1, 0, 1, 0, 0, 1, 1], loopC Try.prog 92 [1, 1, 0, 1, 0, 0], .inBlock 0, codeC Try.prog 92 [1, 1, 1]] M := by
  intro N
  induction N with
  | zero =>
    intro v0 v1 v5 v7 c26_0 c26_1 c26_2 sv0 sc26_2 b26 Fr M r hv0 hc26_2 hH h
    simp [ref08_waves_3] at h
  | succ N ih =>
    intro v0 v1 v5 v7 c26_0 c26_1 c26_2 sv0 sc26_2 b26 Fr M r hv0 hc26_2 hH h
    rw [ref08_waves_3] at h
    refine Run.seq (Run.seq (Run.region ?_))
    refine Run.opG wantS_none (ex_move rfl) rfl ?_
    refine Run.opG wantS_none (ex_fieldAddr rfl off83_2) rfl ?_
    refine Run.opG wantS_none (ex_load1 rfl (hH.cells (i := 0) rfl 2 rfl) rdLe_rfl agg38) rfl ?_
    refine Run.opG wantS_none (ex_len' rfl hc26_2 lenk38) rfl ?_
    refine Run.opG wantS_none (ex_lss rfl rfl) rfl ?_
    refine Run.opsEnd ?_
    rcases btf ((decide (v7 < (c26_2.length : Int)))) with hc31 | hc31
    · have h := bif_t hc31 h
      refine Run.condT' rfl hc31 ?_
      refine Run.skip (Run.seq (Run.block (Run.seq (Run.region ?_))))
      refine Run.opG wantS_none (ex_fieldAddr rfl off83_2) rfl ?_
      refine Run.opG wantS_none (ex_load1 rfl (hH.cells (i := 0) rfl 2 rfl) rdLe_rfl agg38) rfl ?_
      refine Run.opG wantS_none (ex_move rfl) rfl ?_
      obtain ⟨x33, hx33, h⟩ := bnd_some h
      obtain ⟨p33, o33, _, hx33, hp33, rfl⟩ := sl_elem (P := Try.prog) (t := 38) (kk := .i64) hc26_2 hx33 els38
      refine Run.opG wantS_none (ex_elX rfl rfl hx33) rfl ?_
      refine Run.opG wantS_none (ex_load1 rfl (hH.ptrF hp33) rdLe_rfl agg3) rfl ?_
      obtain ⟨r35, hr35, h⟩ := bnd_some h
      refine Run.callP wantS_none (ex_call rfl mkk49 cal49) rfl (ref00_In_ok F x33 ((-256) : Int) (256 : Int) _ _ hr35) ?_
      refine Run.opG wantS_none (ex_not rfl) rfl ?_
      refine Run.opsEnd ?_
      rcases btf ((!r35)) with hc37 | hc37
      · have h := bif_t hc37 h
        refine Run.condT' rfl hc37 ?_
        refine Run.seq (Run.region ?_)
        refine Run.opG wantS_none (ex_assign rfl) rfl ?_
        refine Run.opsEnd ?_
        cases h
        exact Run.ret Try.func92 rfl (res_tmp rfl res_nil) rfl
      · have h := bif_f hc37 h
        refine Run.condF' rfl hc37 ?_
        refine Run.skip (Run.inBlock (Run.region ?_))
        refine Run.opG wantS_none (ex_move rfl) rfl ?_
        refine Run.opG wantS_none (ex_add rfl rfl) rfl ?_
        refine Run.opG wantS_none (ex_assign rfl) rfl ?_
        refine Run.opsEnd (Run.inLoop ?_)
        exact Run.pick [0, 1, 5, 6, 7] (ih v0 v1 v5 (w64 (v7 + (1 : Int))) c26_0 c26_1 c26_2 sv0 sc26_2 b26 _ _ _ hv0 hc26_2 hH h)
    · have h := bif_f hc31 h
      refine Run.condF' rfl hc31 ?_
      refine Run.exit rfl (Run.inBlock (Run.region ?_))
      refine Run.opG wantS_none (ex_move rfl) rfl ?_
      refine Run.opG wantS_none (ex_add rfl rfl) rfl ?_
      refine Run.opG wantS_none (ex_assign rfl) rfl ?_
      refine Run.opsEnd (Run.inLoop ?_)
      exact Run.pick [0, 1, 5] (hhd1 v0 v1 (w64 (v5 + (1 : Int))) sv0 _ _ _ hv0 (hH.pick [] rfl rfl) h)

def ref08_waves_2 (F : Nat) (hd1 : (List S_api_Wave) → Int → Int → Option (Bool)) (v0 : (List S_api_Wave)) (v1 : Int) (v5 : Int) (v67 : Bool) (c26_0 : Int) (c26_1 : Int) (c26_2 : (List Int)) : Option (Bool) :=
  bif v67 then
    some false
  else
    ref08_waves_3 F hd1 F v0 v1 v5 (0 : Int) c26_0 c26_1 c26_2

theorem ref08_waves_2_ok (F : Nat) (hd1 : (List S_api_Wave) → Int → Int → Option (Bool)) (hhd1 : ∀ (v0 : (List S_api_Wave)) (v1 : Int) (v5 : Int) (sv0 : SV) (Fr : Rd) (M : Mem) (r : Bool) (hv0 : Slc Fr 3 (rep83 Fr) sv0 v0) (hH : Has Fr M []), hd1 v0 v1 v5 = some r → Run Try.prog ⟨⟨92, [], none⟩, []⟩ 82 (ref08_waves_post r) [(0, sv0), (1, (.int .i64 v1)), (5, (.int .i64 v5))] [codeC Try.prog 92 [1, 1, 0, 1, 0, 0], loopC Try.prog 92 [1, 1, 0, 1, 0, 0], .inBlock 0, codeC Try.prog 92 [1, 1, 1]] M) : ∀ (v0 : (List S_api_Wave)) (v1 : Int) (v5 : Int) (v67 : Bool) (c26_0 : Int) (c26_1 : Int) (c26_2 : (List Int)) (sv0 : SV) (sc26_2 : SV) (b26 : Pos) (Fr : Rd) (M : Mem) (r : Bool) (hv0 : Slc Fr 3 (rep83 Fr) sv0 v0) (hc26_2 : Slc Fr 1 (FlatR enc3) sc26_2 c26_2) (hH : Has Fr M [.obj b26 (.row 83 .whole [(.int .i64 c26_0), (.int .i64 c26_1), sc26_2])]), ref08_waves_2 F hd1 v0 v1 v5 v67 c26_0 c26_1 c26_2 = some r → Run Try.prog ⟨⟨92, [], none⟩, []⟩ 82 (ref08_waves_post r) [(0, sv0), (1, (.int .i64 v1)), (5, (.int .i64 v5)), (6, (.ptr b26 0)), (67, (.bool v67))] [codeC Try.prog 92 [1, 1, 0, 1, 0, 0, 1, 0, 0, 1, 0, 1], codeC Try.prog 92 [1, 1, 0, 1, 0, 0, 1, 0, 0, 1, 1], .inBlock 1, codeC Try.prog 92 [1, 1, 0, 1, 0, 0, 1, 1], loopC Try.prog 92 [1, 1, 0, 1, 0, 0], .inBlock 0, codeC Try.prog 92 [1, 1, 1]] M := by
  intro v0 v1 v5 v67 c26_0 c26_1 c26_2 sv0 sc26_2 b26 Fr M r hv0 hc26_2 hH h
  rw [ref08_waves_2] at h
  rcases btf (v67) with hc30 | hc30
  · have h := bif_t hc30 h
    refine Run.condT' rfl hc30 ?_
    refine Run.seq (Run.region ?_)
    refine Run.opG wantS_none (ex_assign rfl) rfl ?_
    refine Run.opsEnd ?_
    cases h
    exact Run.ret Try.func92 rfl (res_tmp rfl res_nil) rfl
  · have h := bif_f hc30 h
    refine Run.condF' rfl hc30 ?_
    refine Run.skip (Run.seq (Run.region ?_))
    refine Run.opG wantS_none (ex_assign rfl) rfl ?_
    refine Run.opsEnd (Run.block (Run.loop ?_))
    exact Run.pick [0, 1, 5, 6, 7] (ref08_waves_3_ok F hd1 hhd1 F v0 v1 v5 (0 : Int) c26_0 c26_1 c26_2 sv0 sc26_2 b26 _ _ _ hv0 hc26_2 hH h)

def ref08_waves_1 (F : Nat) : Nat → (List S_api_Wave) → Int → Int → Option (Bool)
  | 0, _, _, _ => none
  | N + 1, v0, v1, v5 =>
    bif (decide (v5 < (v0.length : Int))) then
      bnd (idx v0 v5) fun x24 =>
      bif (decide (x24.At < (0 : Int))) then
        ref08_waves_2 F (ref08_waves_1 F N) v0 v1 v5 true x24.At x24.Gain x24.Samples
      else
        bif (decide (v1 ≤ x24.At)) then
          ref08_waves_2 F (ref08_waves_1 F N) v0 v1 v5 true x24.At x24.Gain x24.Samples
        else
          bnd (ref00_In F x24.Gain ((-64) : Int) (64 : Int)) fun r39 =>
          bif (!r39) then
            ref08_waves_2 F (ref08_waves_1 F N) v0 v1 v5 true x24.At x24.Gain x24.Samples
          else
            bnd (ref00_In F (x24.Samples.length : Int) (1 : Int) (64 : Int)) fun r42 =>
            bif (!r42) then
              ref08_waves_2 F (ref08_waves_1 F N) v0 v1 v5 true x24.At x24.Gain x24.Samples
            else
              bif (decide (v1 < (w64 (x24.At + (x24.Samples.length : Int))))) then
                ref08_waves_2 F (ref08_waves_1 F N) v0 v1 v5 true x24.At x24.Gain x24.Samples
              else
                bif (decide ((0 : Int) < v5)) then
                  bnd (idx v0 (w64 (v5 - (1 : Int)))) fun x47 =>
                  ref08_waves_2 F (ref08_waves_1 F N) v0 v1 v5 (decide (x24.At ≤ x47.At)) x24.At x24.Gain x24.Samples
                else
                  ref08_waves_2 F (ref08_waves_1 F N) v0 v1 v5 false x24.At x24.Gain x24.Samples
    else
      some true

theorem ref08_waves_1_ok (F : Nat) : ∀ (N : Nat), ∀ (v0 : (List S_api_Wave)) (v1 : Int) (v5 : Int) (sv0 : SV) (Fr : Rd) (M : Mem) (r : Bool) (hv0 : Slc Fr 3 (rep83 Fr) sv0 v0) (hH : Has Fr M []), ref08_waves_1 F N v0 v1 v5 = some r → Run Try.prog ⟨⟨92, [], none⟩, []⟩ 82 (ref08_waves_post r) [(0, sv0), (1, (.int .i64 v1)), (5, (.int .i64 v5))] [codeC Try.prog 92 [1, 1, 0, 1, 0, 0], loopC Try.prog 92 [1, 1, 0, 1, 0, 0], .inBlock 0, codeC Try.prog 92 [1, 1, 1]] M := by
  intro N
  induction N with
  | zero =>
    intro v0 v1 v5 sv0 Fr M r hv0 hH h
    simp [ref08_waves_1] at h
  | succ N ih =>
    intro v0 v1 v5 sv0 Fr M r hv0 hH h
    rw [ref08_waves_1] at h
    refine Run.seq (Run.seq (Run.region ?_))
    refine Run.opG wantS_none (ex_move rfl) rfl ?_
    refine Run.opG wantS_none (ex_move rfl) rfl ?_
    refine Run.opG wantS_none (ex_len' rfl hv0 lenk55) rfl ?_
    refine Run.opG wantS_none (ex_lss rfl rfl) rfl ?_
    refine Run.opsEnd ?_
    rcases btf ((decide (v5 < (v0.length : Int)))) with hc22 | hc22
    · have h := bif_t hc22 h
      refine Run.condT' rfl hc22 ?_
      refine Run.skip (Run.seq (Run.block (Run.seq (Run.region ?_))))
      refine Run.opG wantS_none (ex_move rfl) rfl ?_
      refine Run.opG wantS_none (ex_move rfl) rfl ?_
      obtain ⟨x24, hx24, h⟩ := bnd_some h
      obtain ⟨p24, o24, _, hx24, hp24, ⟨q24_0, rfl, hq24_0⟩⟩ := sl_elem (P := Try.prog) (t := 55) (kk := .i64) hv0 hx24 els55
      refine Run.opG wantS_none (ex_elX rfl rfl hx24) rfl ?_
      refine Run.opG wantS_none (ex_loadA rfl (hH.ptrF hp24) rdLe_rfl agg83 rfl rfl rfl) rfl ?_
      refine Run.opX wantS_none rfl (ExG.new (v := fun b => .ptr b 0) (ex_alloc zer83) hH) ?_
      rintro _ M27 ⟨b26, rfl, (hH27 : Has Fr M27 [.obj b26 (.row 83 .whole [(.int .i64 0), (.int .i64 0), .nils])])⟩
      refine Run.opX wantS_none rfl (ExG.storeC (c' := [(.int .i64 x24.At), (.int .i64 x24.Gain), q24_0]) rfl rfl rfl hH27 (i := 0) rfl sz83 rfl rfl rfl (ones_cons rfl (ones_cons rfl (ones_cons (slc_one hq24_0) ones_nil))) rfl) ?_
      rintro _ M28 ⟨rfl, (hH28 : Has Fr M28 [.obj b26 (.row 83 .whole [(.int .i64 x24.At), (.int .i64 x24.Gain), q24_0])])⟩
      refine Run.opsEnd (Run.seq (Run.seq ?_))
      refine Run.drawG plan92_1_1_0_1_0_0_1_0_0_1_0_0 ?_
      refine DrawG.fl rfl (ev_ex wantS_none (ex_fieldAddr rfl off83_0)) rfl ?_
      refine DrawG.fl rfl (ev_ex wantS_none (ex_load1 rfl (hH28.cells (i := 0) rfl 0 rfl) rdLe_rfl agg3)) rfl ?_
      refine DrawG.fl rfl (ev_ex wantS_none (ex_lss rfl rfl)) rfl ?_
      refine DrawG.fl rfl (ev_ex wantS_none (ex_move rfl)) rfl ?_
      rcases btf ((decide (x24.At < (0 : Int)))) with hc29 | hc29
      · have h := bif_t hc29 h
        refine DrawG.fl rfl (ev_no (wantS_not' rfl rfl hc29)) rfl ?_
        refine DrawG.fl rfl (ev_no (wantS_not' rfl rfl hc29)) rfl ?_
        refine DrawG.fl rfl (ev_no (wantS_not' rfl rfl hc29)) rfl ?_
        refine DrawG.fl rfl (ev_no (wantS_not' rfl rfl hc29)) rfl ?_
        refine DrawG.fl rfl (ev_ex wantS_none (ex_pickT' rfl hc29 rfl rfl)) rfl ?_
        refine DrawG.fl rfl (ev_ex wantS_none (ex_move rfl)) rfl ?_
        refine DrawG.fl rfl (ev_no (wantS_not' rfl rfl rfl)) rfl ?_
        refine DrawG.fl rfl (ev_no (wantS_not' rfl rfl rfl)) rfl ?_
        refine DrawG.no rfl (wantS_not' rfl rfl rfl) rfl st_nil ?_
        refine DrawG.fl rfl (ev_no (wantS_not' rfl rfl rfl)) rfl ?_
        refine DrawG.fl rfl (ev_ex wantS_none (ex_pickT' rfl rfl rfl rfl)) rfl ?_
        refine DrawG.fl rfl (ev_ex wantS_none (ex_move rfl)) rfl ?_
        refine DrawG.fl rfl (ev_no (wantS_not' rfl rfl rfl)) rfl ?_
        refine DrawG.fl rfl (ev_no (wantS_not' rfl rfl rfl)) rfl ?_
        refine DrawG.fl rfl (ev_no (wantS_not' rfl rfl rfl)) rfl ?_
        refine DrawG.no rfl (wantS_not' rfl rfl rfl) rfl st_nil ?_
        refine DrawG.fl rfl (ev_no (wantS_not' rfl rfl rfl)) rfl ?_
        refine DrawG.fl rfl (ev_ex wantS_none (ex_pickT' rfl rfl rfl rfl)) rfl ?_
        refine DrawG.fl rfl (ev_ex wantS_none (ex_move rfl)) rfl ?_
        refine DrawG.fl rfl (ev_no (wantS_not' rfl rfl rfl)) rfl ?_
        refine DrawG.fl rfl (ev_no (wantS_not' rfl rfl rfl)) rfl ?_
        refine DrawG.fl rfl (ev_no (wantS_not' rfl rfl rfl)) rfl ?_
        refine DrawG.fl rfl (ev_no (wantS_not' rfl rfl rfl)) rfl ?_
        refine DrawG.fl rfl (ev_no (wantS_not' rfl rfl rfl)) rfl ?_
        refine DrawG.fl rfl (ev_no (wantS_not' rfl rfl rfl)) rfl ?_
        refine DrawG.fl rfl (ev_no (wantS_not' rfl rfl rfl)) rfl ?_
        refine DrawG.fl rfl (ev_no (wantS_not' rfl rfl rfl)) rfl ?_
        refine DrawG.fl rfl (ev_ex wantS_none (ex_pickT' rfl rfl rfl rfl)) rfl ?_
        refine DrawG.fl rfl (ev_ex wantS_none (ex_move rfl)) rfl ?_
        refine DrawG.fl rfl (ev_no (wantS_not' rfl rfl rfl)) rfl ?_
        refine DrawG.fl rfl (ev_no (wantS_not' rfl rfl rfl)) rfl ?_
        refine DrawG.fl rfl (ev_no (wantS_not' rfl rfl rfl)) rfl ?_
        refine DrawG.fl rfl (ev_no (wantS_skip rfl rfl)) rfl ?_
        refine DrawG.fl rfl (ev_no (wantS_skip rfl rfl)) rfl ?_
        refine DrawG.fl rfl (ev_no (wantS_skip rfl rfl)) rfl ?_
        refine DrawG.fl rfl (ev_no (wantS_skip rfl rfl)) rfl ?_
        refine DrawG.fl rfl (ev_no (wantS_skip rfl rfl)) rfl ?_
        refine DrawG.fl rfl (ev_no (wantS_skip rfl rfl)) rfl ?_
        refine DrawG.fl rfl (ev_no (wantS_skip rfl rfl)) rfl ?_
        refine DrawG.fl rfl (ev_no (wantS_skip rfl rfl)) rfl ?_
        refine DrawG.fl rfl (ev_no (wantS_skip rfl rfl)) rfl ?_
        refine DrawG.fl rfl (ev_no (wantS_not' rfl rfl rfl)) rfl ?_
        refine DrawG.fl rfl (ev_ex wantS_none (ex_pickT' rfl rfl rfl rfl)) rfl ?_
        refine DrawG.sync ?_
        refine DrawG.nil ?_
        exact Run.pick [0, 1, 5, 6, 67] (ref08_waves_2_ok F (ref08_waves_1 F N) ih v0 v1 v5 true x24.At x24.Gain x24.Samples sv0 q24_0 b26 _ _ _ hv0 hq24_0 hH28 h)
      · have h := bif_f hc29 h
        refine DrawG.fl rfl (ev_ex (wantS_yes' rfl rfl hc29) (ex_fieldAddr rfl off83_0)) rfl ?_
        refine DrawG.fl rfl (ev_ex (wantS_yes' rfl rfl hc29) (ex_load1 rfl (hH28.cells (i := 0) rfl 0 rfl) rdLe_rfl agg3)) rfl ?_
        refine DrawG.fl rfl (ev_ex (wantS_yes' rfl rfl hc29) (ex_move rfl)) rfl ?_
        refine DrawG.fl rfl (ev_ex (wantS_yes' rfl rfl hc29) (ex_geq rfl rfl)) rfl ?_
        refine DrawG.fl rfl (ev_ex wantS_none (ex_pickF' rfl hc29 rfl rfl)) rfl ?_
        refine DrawG.fl rfl (ev_ex wantS_none (ex_move rfl)) rfl ?_
        rcases btf ((decide (v1 ≤ x24.At))) with hc38 | hc38
        · have h := bif_t hc38 h
          refine DrawG.fl rfl (ev_no (wantS_not' rfl rfl hc38)) rfl ?_
          refine DrawG.fl rfl (ev_no (wantS_not' rfl rfl hc38)) rfl ?_
          refine DrawG.no rfl (wantS_not' rfl rfl hc38) rfl st_nil ?_
          refine DrawG.fl rfl (ev_no (wantS_not' rfl rfl hc38)) rfl ?_
          refine DrawG.fl rfl (ev_ex wantS_none (ex_pickT' rfl hc38 rfl rfl)) rfl ?_
          refine DrawG.fl rfl (ev_ex wantS_none (ex_move rfl)) rfl ?_
          refine DrawG.fl rfl (ev_no (wantS_not' rfl rfl rfl)) rfl ?_
          refine DrawG.fl rfl (ev_no (wantS_not' rfl rfl rfl)) rfl ?_
          refine DrawG.fl rfl (ev_no (wantS_not' rfl rfl rfl)) rfl ?_
          refine DrawG.no rfl (wantS_not' rfl rfl rfl) rfl st_nil ?_
          refine DrawG.fl rfl (ev_no (wantS_not' rfl rfl rfl)) rfl ?_
          refine DrawG.fl rfl (ev_ex wantS_none (ex_pickT' rfl rfl rfl rfl)) rfl ?_
          refine DrawG.fl rfl (ev_ex wantS_none (ex_move rfl)) rfl ?_
          refine DrawG.fl rfl (ev_no (wantS_not' rfl rfl rfl)) rfl ?_
          refine DrawG.fl rfl (ev_no (wantS_not' rfl rfl rfl)) rfl ?_
          refine DrawG.fl rfl (ev_no (wantS_not' rfl rfl rfl)) rfl ?_
          refine DrawG.fl rfl (ev_no (wantS_not' rfl rfl rfl)) rfl ?_
          refine DrawG.fl rfl (ev_no (wantS_not' rfl rfl rfl)) rfl ?_
          refine DrawG.fl rfl (ev_no (wantS_not' rfl rfl rfl)) rfl ?_
          refine DrawG.fl rfl (ev_no (wantS_not' rfl rfl rfl)) rfl ?_
          refine DrawG.fl rfl (ev_no (wantS_not' rfl rfl rfl)) rfl ?_
          refine DrawG.fl rfl (ev_ex wantS_none (ex_pickT' rfl rfl rfl rfl)) rfl ?_
          refine DrawG.fl rfl (ev_ex wantS_none (ex_move rfl)) rfl ?_
          refine DrawG.fl rfl (ev_no (wantS_not' rfl rfl rfl)) rfl ?_
          refine DrawG.fl rfl (ev_no (wantS_not' rfl rfl rfl)) rfl ?_
          refine DrawG.fl rfl (ev_no (wantS_not' rfl rfl rfl)) rfl ?_
          refine DrawG.fl rfl (ev_no (wantS_skip rfl rfl)) rfl ?_
          refine DrawG.fl rfl (ev_no (wantS_skip rfl rfl)) rfl ?_
          refine DrawG.fl rfl (ev_no (wantS_skip rfl rfl)) rfl ?_
          refine DrawG.fl rfl (ev_no (wantS_skip rfl rfl)) rfl ?_
          refine DrawG.fl rfl (ev_no (wantS_skip rfl rfl)) rfl ?_
          refine DrawG.fl rfl (ev_no (wantS_skip rfl rfl)) rfl ?_
          refine DrawG.fl rfl (ev_no (wantS_skip rfl rfl)) rfl ?_
          refine DrawG.fl rfl (ev_no (wantS_skip rfl rfl)) rfl ?_
          refine DrawG.fl rfl (ev_no (wantS_skip rfl rfl)) rfl ?_
          refine DrawG.fl rfl (ev_no (wantS_not' rfl rfl rfl)) rfl ?_
          refine DrawG.fl rfl (ev_ex wantS_none (ex_pickT' rfl rfl rfl rfl)) rfl ?_
          refine DrawG.sync ?_
          refine DrawG.nil ?_
          exact Run.pick [0, 1, 5, 6, 67] (ref08_waves_2_ok F (ref08_waves_1 F N) ih v0 v1 v5 true x24.At x24.Gain x24.Samples sv0 q24_0 b26 _ _ _ hv0 hq24_0 hH28 h)
        · have h := bif_f hc38 h
          refine DrawG.fl rfl (ev_ex (wantS_yes' rfl rfl hc38) (ex_fieldAddr rfl off83_1)) rfl ?_
          refine DrawG.fl rfl (ev_ex (wantS_yes' rfl rfl hc38) (ex_load1 rfl (hH28.cells (i := 0) rfl 1 rfl) rdLe_rfl agg3)) rfl ?_
          obtain ⟨r39, hr39, h⟩ := bnd_some h
          refine DrawG.callP rfl (wantS_yes' rfl rfl hc38) (ex_call rfl mkk49 cal49) rfl (ref00_In_ok F x24.Gain ((-64) : Int) (64 : Int) _ _ hr39) st_nil ?_
          refine DrawG.fl rfl (ev_ex (wantS_yes' rfl rfl hc38) (ex_not rfl)) rfl ?_
          refine DrawG.fl rfl (ev_ex wantS_none (ex_pickF' rfl hc38 rfl rfl)) rfl ?_
          refine DrawG.fl rfl (ev_ex wantS_none (ex_move rfl)) rfl ?_
          rcases btf ((!r39)) with hc41 | hc41
          · have h := bif_t hc41 h
            refine DrawG.fl rfl (ev_no (wantS_not' rfl rfl hc41)) rfl ?_
            refine DrawG.fl rfl (ev_no (wantS_not' rfl rfl hc41)) rfl ?_
            refine DrawG.fl rfl (ev_no (wantS_not' rfl rfl hc41)) rfl ?_
            refine DrawG.no rfl (wantS_not' rfl rfl hc41) rfl st_nil ?_
            refine DrawG.fl rfl (ev_no (wantS_not' rfl rfl hc41)) rfl ?_
            refine DrawG.fl rfl (ev_ex wantS_none (ex_pickT' rfl hc41 rfl rfl)) rfl ?_
            refine DrawG.fl rfl (ev_ex wantS_none (ex_move rfl)) rfl ?_
            refine DrawG.fl rfl (ev_no (wantS_not' rfl rfl rfl)) rfl ?_
            refine DrawG.fl rfl (ev_no (wantS_not' rfl rfl rfl)) rfl ?_
            refine DrawG.fl rfl (ev_no (wantS_not' rfl rfl rfl)) rfl ?_
            refine DrawG.fl rfl (ev_no (wantS_not' rfl rfl rfl)) rfl ?_
            refine DrawG.fl rfl (ev_no (wantS_not' rfl rfl rfl)) rfl ?_
            refine DrawG.fl rfl (ev_no (wantS_not' rfl rfl rfl)) rfl ?_
            refine DrawG.fl rfl (ev_no (wantS_not' rfl rfl rfl)) rfl ?_
            refine DrawG.fl rfl (ev_no (wantS_not' rfl rfl rfl)) rfl ?_
            refine DrawG.fl rfl (ev_ex wantS_none (ex_pickT' rfl rfl rfl rfl)) rfl ?_
            refine DrawG.fl rfl (ev_ex wantS_none (ex_move rfl)) rfl ?_
            refine DrawG.fl rfl (ev_no (wantS_not' rfl rfl rfl)) rfl ?_
            refine DrawG.fl rfl (ev_no (wantS_not' rfl rfl rfl)) rfl ?_
            refine DrawG.fl rfl (ev_no (wantS_not' rfl rfl rfl)) rfl ?_
            refine DrawG.fl rfl (ev_no (wantS_skip rfl rfl)) rfl ?_
            refine DrawG.fl rfl (ev_no (wantS_skip rfl rfl)) rfl ?_
            refine DrawG.fl rfl (ev_no (wantS_skip rfl rfl)) rfl ?_
            refine DrawG.fl rfl (ev_no (wantS_skip rfl rfl)) rfl ?_
            refine DrawG.fl rfl (ev_no (wantS_skip rfl rfl)) rfl ?_
            refine DrawG.fl rfl (ev_no (wantS_skip rfl rfl)) rfl ?_
            refine DrawG.fl rfl (ev_no (wantS_skip rfl rfl)) rfl ?_
            refine DrawG.fl rfl (ev_no (wantS_skip rfl rfl)) rfl ?_
            refine DrawG.fl rfl (ev_no (wantS_skip rfl rfl)) rfl ?_
            refine DrawG.fl rfl (ev_no (wantS_not' rfl rfl rfl)) rfl ?_
            refine DrawG.fl rfl (ev_ex wantS_none (ex_pickT' rfl rfl rfl rfl)) rfl ?_
            refine DrawG.sync ?_
            refine DrawG.nil ?_
            exact Run.pick [0, 1, 5, 6, 67] (ref08_waves_2_ok F (ref08_waves_1 F N) ih v0 v1 v5 true x24.At x24.Gain x24.Samples sv0 q24_0 b26 _ _ _ hv0 hq24_0 hH28 h)
          · have h := bif_f hc41 h
            refine DrawG.fl rfl (ev_ex (wantS_yes' rfl rfl hc41) (ex_fieldAddr rfl off83_2)) rfl ?_
            refine DrawG.fl rfl (ev_ex (wantS_yes' rfl rfl hc41) (ex_load1 rfl (hH28.cells (i := 0) rfl 2 rfl) rdLe_rfl agg38)) rfl ?_
            refine DrawG.fl rfl (ev_ex (wantS_yes' rfl rfl hc41) (ex_len' rfl hq24_0 lenk38)) rfl ?_
            obtain ⟨r42, hr42, h⟩ := bnd_some h
            refine DrawG.callP rfl (wantS_yes' rfl rfl hc41) (ex_call rfl mkk49 cal49) rfl (ref00_In_ok F (x24.Samples.length : Int) (1 : Int) (64 : Int) _ _ hr42) st_nil ?_
            refine DrawG.fl rfl (ev_ex (wantS_yes' rfl rfl hc41) (ex_not rfl)) rfl ?_
            refine DrawG.fl rfl (ev_ex wantS_none (ex_pickF' rfl hc41 rfl rfl)) rfl ?_
            refine DrawG.fl rfl (ev_ex wantS_none (ex_move rfl)) rfl ?_
            rcases btf ((!r42)) with hc44 | hc44
            · have h := bif_t hc44 h
              refine DrawG.fl rfl (ev_no (wantS_not' rfl rfl hc44)) rfl ?_
              refine DrawG.fl rfl (ev_no (wantS_not' rfl rfl hc44)) rfl ?_
              refine DrawG.fl rfl (ev_no (wantS_not' rfl rfl hc44)) rfl ?_
              refine DrawG.fl rfl (ev_no (wantS_not' rfl rfl hc44)) rfl ?_
              refine DrawG.fl rfl (ev_no (wantS_not' rfl rfl hc44)) rfl ?_
              refine DrawG.fl rfl (ev_no (wantS_not' rfl rfl hc44)) rfl ?_
              refine DrawG.fl rfl (ev_no (wantS_not' rfl rfl hc44)) rfl ?_
              refine DrawG.fl rfl (ev_no (wantS_not' rfl rfl hc44)) rfl ?_
              refine DrawG.fl rfl (ev_ex wantS_none (ex_pickT' rfl hc44 rfl rfl)) rfl ?_
              refine DrawG.fl rfl (ev_ex wantS_none (ex_move rfl)) rfl ?_
              refine DrawG.fl rfl (ev_no (wantS_not' rfl rfl rfl)) rfl ?_
              refine DrawG.fl rfl (ev_no (wantS_not' rfl rfl rfl)) rfl ?_
              refine DrawG.fl rfl (ev_no (wantS_not' rfl rfl rfl)) rfl ?_
              refine DrawG.fl rfl (ev_no (wantS_skip rfl rfl)) rfl ?_
              refine DrawG.fl rfl (ev_no (wantS_skip rfl rfl)) rfl ?_
              refine DrawG.fl rfl (ev_no (wantS_skip rfl rfl)) rfl ?_
              refine DrawG.fl rfl (ev_no (wantS_skip rfl rfl)) rfl ?_
              refine DrawG.fl rfl (ev_no (wantS_skip rfl rfl)) rfl ?_
              refine DrawG.fl rfl (ev_no (wantS_skip rfl rfl)) rfl ?_
              refine DrawG.fl rfl (ev_no (wantS_skip rfl rfl)) rfl ?_
              refine DrawG.fl rfl (ev_no (wantS_skip rfl rfl)) rfl ?_
              refine DrawG.fl rfl (ev_no (wantS_skip rfl rfl)) rfl ?_
              refine DrawG.fl rfl (ev_no (wantS_not' rfl rfl rfl)) rfl ?_
              refine DrawG.fl rfl (ev_ex wantS_none (ex_pickT' rfl rfl rfl rfl)) rfl ?_
              refine DrawG.sync ?_
              refine DrawG.nil ?_
              exact Run.pick [0, 1, 5, 6, 67] (ref08_waves_2_ok F (ref08_waves_1 F N) ih v0 v1 v5 true x24.At x24.Gain x24.Samples sv0 q24_0 b26 _ _ _ hv0 hq24_0 hH28 h)
            · have h := bif_f hc44 h
              refine DrawG.fl rfl (ev_ex (wantS_yes' rfl rfl hc44) (ex_fieldAddr rfl off83_0)) rfl ?_
              refine DrawG.fl rfl (ev_ex (wantS_yes' rfl rfl hc44) (ex_load1 rfl (hH28.cells (i := 0) rfl 0 rfl) rdLe_rfl agg3)) rfl ?_
              refine DrawG.fl rfl (ev_ex (wantS_yes' rfl rfl hc44) (ex_fieldAddr rfl off83_2)) rfl ?_
              refine DrawG.fl rfl (ev_ex (wantS_yes' rfl rfl hc44) (ex_load1 rfl (hH28.cells (i := 0) rfl 2 rfl) rdLe_rfl agg38)) rfl ?_
              refine DrawG.fl rfl (ev_ex (wantS_yes' rfl rfl hc44) (ex_len' rfl hq24_0 lenk38)) rfl ?_
              refine DrawG.fl rfl (ev_ex (wantS_yes' rfl rfl hc44) (ex_add rfl rfl)) rfl ?_
              refine DrawG.fl rfl (ev_ex (wantS_yes' rfl rfl hc44) (ex_move rfl)) rfl ?_
              refine DrawG.fl rfl (ev_ex (wantS_yes' rfl rfl hc44) (ex_gtr rfl rfl)) rfl ?_
              refine DrawG.fl rfl (ev_ex wantS_none (ex_pickF' rfl hc44 rfl rfl)) rfl ?_
              refine DrawG.fl rfl (ev_ex wantS_none (ex_move rfl)) rfl ?_
              rcases btf ((decide (v1 < (w64 (x24.At + (x24.Samples.length : Int)))))) with hc45 | hc45
              · have h := bif_t hc45 h
                refine DrawG.fl rfl (ev_no (wantS_not' rfl rfl hc45)) rfl ?_
                refine DrawG.fl rfl (ev_no (wantS_not' rfl rfl hc45)) rfl ?_
                refine DrawG.fl rfl (ev_no (wantS_not' rfl rfl hc45)) rfl ?_
                refine DrawG.fl rfl (ev_no (wantS_skip rfl rfl)) rfl ?_
                refine DrawG.fl rfl (ev_no (wantS_skip rfl rfl)) rfl ?_
                refine DrawG.fl rfl (ev_no (wantS_skip rfl rfl)) rfl ?_
                refine DrawG.fl rfl (ev_no (wantS_skip rfl rfl)) rfl ?_
                refine DrawG.fl rfl (ev_no (wantS_skip rfl rfl)) rfl ?_
                refine DrawG.fl rfl (ev_no (wantS_skip rfl rfl)) rfl ?_
                refine DrawG.fl rfl (ev_no (wantS_skip rfl rfl)) rfl ?_
                refine DrawG.fl rfl (ev_no (wantS_skip rfl rfl)) rfl ?_
                refine DrawG.fl rfl (ev_no (wantS_skip rfl rfl)) rfl ?_
                refine DrawG.fl rfl (ev_no (wantS_not' rfl rfl hc45)) rfl ?_
                refine DrawG.fl rfl (ev_ex wantS_none (ex_pickT' rfl hc45 rfl rfl)) rfl ?_
                refine DrawG.sync ?_
                refine DrawG.nil ?_
                exact Run.pick [0, 1, 5, 6, 67] (ref08_waves_2_ok F (ref08_waves_1 F N) ih v0 v1 v5 true x24.At x24.Gain x24.Samples sv0 q24_0 b26 _ _ _ hv0 hq24_0 hH28 h)
              · have h := bif_f hc45 h
                refine DrawG.fl rfl (ev_ex (wantS_yes' rfl rfl hc45) (ex_move rfl)) rfl ?_
                refine DrawG.fl rfl (ev_ex (wantS_yes' rfl rfl hc45) (ex_gtr rfl rfl)) rfl ?_
                refine DrawG.fl rfl (ev_ex (wantS_yes' rfl rfl hc45) (ex_move rfl)) rfl ?_
                rcases btf ((decide ((0 : Int) < v5))) with hc46 | hc46
                · have h := bif_t hc46 h
                  refine DrawG.fl rfl (ev_ex (wantS_yes' rfl rfl hc46) (ex_move rfl)) rfl ?_
                  refine DrawG.fl rfl (ev_ex (wantS_yes' rfl rfl hc46) (ex_move rfl)) rfl ?_
                  refine DrawG.fl rfl (ev_ex (wantS_yes' rfl rfl hc46) (ex_sub rfl rfl)) rfl ?_
                  obtain ⟨x47, hx47, h⟩ := bnd_some h
                  obtain ⟨p47, o47, _, hx47, hp47, ⟨q47_0, rfl, hq47_0⟩⟩ := sl_elem (P := Try.prog) (t := 55) (kk := .i64) hv0 hx47 els55
                  refine DrawG.fl rfl (ev_ex (wantS_yes' rfl rfl hc46) (ex_elX rfl rfl hx47)) rfl ?_
                  have hp48 := (hp47.fld (o := 0) rfl)
                  refine DrawG.fl rfl (ev_ex (wantS_yes' rfl rfl hc46) (ex_fieldAddr rfl off83_0)) rfl ?_
                  refine DrawG.fl rfl (ev_ex (wantS_yes' rfl rfl hc46) (ex_load1 rfl (hH28.ptrF hp48) rdLe_rfl agg3)) rfl ?_
                  refine DrawG.fl rfl (ev_ex (wantS_yes' rfl rfl hc46) (ex_fieldAddr rfl off83_0)) rfl ?_
                  refine DrawG.fl rfl (ev_ex (wantS_yes' rfl rfl hc46) (ex_load1 rfl (hH28.cells (i := 0) rfl 0 rfl) rdLe_rfl agg3)) rfl ?_
                  refine DrawG.fl rfl (ev_ex (wantS_yes' rfl rfl hc46) (ex_geq rfl rfl)) rfl ?_
                  refine DrawG.fl rfl (ev_ex (wantS_yes' rfl rfl hc45) (ex_pickT' rfl hc46 rfl rfl)) rfl ?_
                  refine DrawG.fl rfl (ev_ex wantS_none (ex_pickF' rfl hc45 rfl rfl)) rfl ?_
                  refine DrawG.sync ?_
                  refine DrawG.nil ?_
                  exact Run.pick [0, 1, 5, 6, 67] (ref08_waves_2_ok F (ref08_waves_1 F N) ih v0 v1 v5 (decide (x24.At ≤ x47.At)) x24.At x24.Gain x24.Samples sv0 q24_0 b26 _ _ _ hv0 hq24_0 hH28 h)
                · have h := bif_f hc46 h
                  refine DrawG.fl rfl (ev_no (wantS_not' rfl rfl hc46)) rfl ?_
                  refine DrawG.fl rfl (ev_no (wantS_not' rfl rfl hc46)) rfl ?_
                  refine DrawG.fl rfl (ev_no (wantS_not' rfl rfl hc46)) rfl ?_
                  refine DrawG.fl rfl (ev_no (wantS_not' rfl rfl hc46)) rfl ?_
                  refine DrawG.fl rfl (ev_no (wantS_not' rfl rfl hc46)) rfl ?_
                  refine DrawG.fl rfl (ev_no (wantS_not' rfl rfl hc46)) rfl ?_
                  refine DrawG.fl rfl (ev_no (wantS_not' rfl rfl hc46)) rfl ?_
                  refine DrawG.fl rfl (ev_no (wantS_not' rfl rfl hc46)) rfl ?_
                  refine DrawG.fl rfl (ev_no (wantS_not' rfl rfl hc46)) rfl ?_
                  refine DrawG.fl rfl (ev_ex (wantS_yes' rfl rfl hc45) (ex_pickF' rfl hc46 rfl rfl)) rfl ?_
                  refine DrawG.fl rfl (ev_ex wantS_none (ex_pickF' rfl hc45 rfl rfl)) rfl ?_
                  refine DrawG.sync ?_
                  refine DrawG.nil ?_
                  exact Run.pick [0, 1, 5, 6, 67] (ref08_waves_2_ok F (ref08_waves_1 F N) ih v0 v1 v5 false x24.At x24.Gain x24.Samples sv0 q24_0 b26 _ _ _ hv0 hq24_0 hH28 h)
    · have h := bif_f hc22 h
      refine Run.condF' rfl hc22 ?_
      refine Run.exit rfl (Run.seq (Run.region ?_))
      refine Run.opG wantS_none (ex_assign rfl) rfl ?_
      refine Run.opsEnd ?_
      cases h
      exact Run.ret Try.func92 rfl (res_tmp rfl res_nil) rfl

def ref08_waves (F : Nat) (a0 : (List S_api_Wave)) (a1 : Int) : Option (Bool) :=
  bif (decide ((64 : Int) < (a0.length : Int))) then
    some false
  else
    ref08_waves_1 F F a0 a1 (0 : Int)

theorem ref08_waves_ok (F : Nat) (a0 : (List S_api_Wave)) (a1 : Int) (s0 : SV) (r : Bool) (M : Mem) (hs0 : Slc (rd M) 3 (rep83 (rd M)) s0 a0) (h : ref08_waves F a0 a1 = some r) : CallsM Try.prog 92 [s0, (.int .i64 a1)] M (fun s M' => s = (.bool r) ∧ M' = M) := by
  refine CallsM.plain Try.func92 rfl rfl rfl (show Run _ _ _ (ref08_waves_post r) _ _ _ from ?_)
  rw [ref08_waves] at h
  replace hs0 := hs0.mono (rdLe_frozen M) (fun _ _ => rep83_mo (rdLe_frozen M))
  have hH := Has.nil (frozen M)
  refine Run.seq (Run.region ?_)
  refine Run.opG wantS_none (ex_assign rfl) rfl ?_
  refine Run.opsEnd (Run.seq (Run.seq (Run.region ?_)))
  refine Run.opG wantS_none (ex_move rfl) rfl ?_
  refine Run.opG wantS_none (ex_len' rfl hs0 lenk55) rfl ?_
  refine Run.opG wantS_none (ex_gtr rfl rfl) rfl ?_
  refine Run.opsEnd ?_
  rcases btf ((decide ((64 : Int) < (a0.length : Int)))) with hc21 | hc21
  · have h := bif_t hc21 h
    refine Run.condT' rfl hc21 ?_
    refine Run.seq (Run.region ?_)
    refine Run.opG wantS_none (ex_assign rfl) rfl ?_
    refine Run.opsEnd ?_
    cases h
    exact Run.ret Try.func92 rfl (res_tmp rfl res_nil) rfl
  · have h := bif_f hc21 h
    refine Run.condF' rfl hc21 ?_
    refine Run.skip (Run.seq (Run.seq (Run.region ?_)))
    refine Run.opG wantS_none (ex_assign rfl) rfl ?_
    refine Run.opsEnd (Run.block (Run.loop ?_))
    exact Run.pick [0, 1, 5] (ref08_waves_1_ok F F a0 a1 (0 : Int) s0 _ _ _ hs0 hH h)

theorem mkk92 : makeK Try.prog 92 = none := by kernel_rfl
theorem cal92 : callable Try.prog 92 = true := by kernel_rfl
abbrev ref08_given_post (r : Int) : SV → Mem → Prop := fun s _ => s = (.int .i64 r)

def ref08_given (F : Nat) (a0 : (List Int)) (a1 : (List S_api_Wave)) : Option (Int) :=
  bnd (ref08_record F a0) fun r22 =>
  bif (!r22) then
    some (82 : Int)
  else
    bnd (ref08_waves F a1 (a0.length : Int)) fun r26 =>
    bif (!r26) then
      some (83 : Int)
    else
      some (0 : Int)

theorem ref08_given_ok (F : Nat) (a0 : (List Int)) (a1 : (List S_api_Wave)) (s0 s1 : SV) (r : Int) (M : Mem) (hs0 : Slc (rd M) 1 (FlatR enc3) s0 a0) (hs1 : Slc (rd M) 3 (rep83 (rd M)) s1 a1) (h : ref08_given F a0 a1 = some r) : CallsM Try.prog 84 [s0, s1] M (fun s M' => s = (.int .i64 r) ∧ M' = M) := by
  refine CallsM.plain Try.func84 rfl rfl rfl (show Run _ _ _ (ref08_given_post r) _ _ _ from ?_)
  rw [ref08_given] at h
  replace hs0 := hs0.mono (rdLe_frozen M) (fun _ _ h => h)
  replace hs1 := hs1.mono (rdLe_frozen M) (fun _ _ => rep83_mo (rdLe_frozen M))
  have hH := Has.nil (frozen M)
  refine Run.seq (Run.region ?_)
  refine Run.opG wantS_none (ex_assign rfl) rfl ?_
  refine Run.opsEnd (Run.seq (Run.seq (Run.region ?_)))
  refine Run.opG wantS_none (ex_move rfl) rfl ?_
  obtain ⟨r22, hr22, h⟩ := bnd_some h
  refine Run.callP wantS_none (ex_call rfl mkk71 cal71) rfl (ref08_record_ok F a0 s0 _ _ (hH.slcF hs0) hr22) ?_
  refine Run.opG wantS_none (ex_not rfl) rfl ?_
  refine Run.opsEnd ?_
  rcases btf ((!r22)) with hc24 | hc24
  · have h := bif_t hc24 h
    refine Run.condT' rfl hc24 ?_
    refine Run.seq (Run.region ?_)
    refine Run.opG wantS_none (ex_assign rfl) rfl ?_
    refine Run.opsEnd ?_
    cases h
    exact Run.ret Try.func84 rfl (res_tmp rfl res_nil) rfl
  · have h := bif_f hc24 h
    refine Run.condF' rfl hc24 ?_
    refine Run.skip (Run.seq (Run.seq (Run.region ?_)))
    refine Run.opG wantS_none (ex_move rfl) rfl ?_
    refine Run.opG wantS_none (ex_move rfl) rfl ?_
    refine Run.opG wantS_none (ex_len' rfl hs0 lenk38) rfl ?_
    obtain ⟨r26, hr26, h⟩ := bnd_some h
    refine Run.callP wantS_none (ex_call rfl mkk92 cal92) rfl (ref08_waves_ok F a1 (a0.length : Int) s1 _ _ ((hs1).mono hH.le (fun _ _ => rep83_mo hH.le)) hr26) ?_
    refine Run.opG wantS_none (ex_not rfl) rfl ?_
    refine Run.opsEnd ?_
    rcases btf ((!r26)) with hc28 | hc28
    · have h := bif_t hc28 h
      refine Run.condT' rfl hc28 ?_
      refine Run.seq (Run.region ?_)
      refine Run.opG wantS_none (ex_assign rfl) rfl ?_
      refine Run.opsEnd ?_
      cases h
      exact Run.ret Try.func84 rfl (res_tmp rfl res_nil) rfl
    · have h := bif_f hc28 h
      refine Run.condF' rfl hc28 ?_
      refine Run.skip (Run.seq (Run.region ?_))
      refine Run.opG wantS_none (ex_assign rfl) rfl ?_
      refine Run.opsEnd ?_
      cases h
      exact Run.ret Try.func84 rfl (res_tmp rfl res_nil) rfl

theorem mkk84 : makeK Try.prog 84 = none := by kernel_rfl
theorem cal84 : callable Try.prog 84 = true := by kernel_rfl
abbrev ref00_OwnInts_post (r : (List Int)) : SV → Mem → Prop := fun s Me => ∃ q1, s = q1 ∧ Has (fun _ => none) Me [.vec 3 1 r.length q1 (r.flatMap enc3)]

def ref00_OwnInts (F : Nat) (a0 : (List Int)) : Option ((List Int)) :=
  bnd (apd 8 ([] : List Int) a0) fun l24 =>
  some l24

theorem ref00_OwnInts_ok (F : Nat) (a0 : (List Int)) (s0 : SV) (r : (List Int)) (M : Mem) (hs0 : Slc (rd M) 1 (FlatR enc3) s0 a0) (h : ref00_OwnInts F a0 = some r) : CallsM Try.prog 119 [s0] M (fun s M' => ∃ q1, s = q1 ∧ New M M' [.vec 3 1 r.length q1 (r.flatMap enc3)]) := by
  refine CallsM.fresh (Q := ref00_OwnInts_post r) Try.func119 rfl rfl ?_ (by rintro s Me ⟨q1, rfl, hx⟩ ha hw; exact ⟨_, rfl, New.of rfl hx ha hw⟩)
  rw [ref00_OwnInts] at h
  replace hs0 := hs0.mono (rdLe_frozen M) (fun _ _ h => h)
  have hH := Has.nil (frozen M)
  refine Run.seq (Run.region ?_)
  refine Run.opG wantS_none (ex_assign rfl) rfl ?_
  refine Run.opsEnd (Run.seq (Run.region ?_))
  refine Run.opG wantS_none (ex_assign rfl) rfl ?_
  refine Run.opsEnd (Run.seq (Run.region ?_))
  refine Run.opG wantS_none (ex_move rfl) rfl ?_
  refine Run.opG wantS_none (ex_move rfl) rfl ?_
  obtain ⟨l24, hl24, h⟩ := bnd_some h
  have hH27 : Has (ro (frozen M)) (frozen M) [.vec 3 1 ([] : List Int).length .nils (([] : List Int).flatMap enc3)] := hH.nils 3 1
  refine Run.opX wantS_none rfl (ExG.append rfl rfl hH27 (i := 0) rfl enc3_len rfl enc3_ones appt38_38 rfl (len_slc hs0) (first_slc hs0 (rdLe_roF hH27) enc3_len) hl24) ?_
  rintro s24 M28 (hH28 : Has (ro (frozen M)) M28 [.vec 3 1 l24.length s24 (l24.flatMap enc3)])
  refine Run.opG wantS_none (ex_assign rfl) rfl ?_
  refine Run.opsEnd ?_
  cases h
  exact Run.ret Try.func119 rfl (res_tmp rfl res_nil) ⟨_, rfl, (hH28.pick [0] rfl rfl).upF (none_le _)⟩

theorem mkk119 : makeK Try.prog 119 = none := by kernel_rfl
theorem cal119 : callable Try.prog 119 = true := by kernel_rfl
theorem plan85_1_1_0_1_0_0_1_0_0_1_0_0_1_0_0 : planOf Try.prog (opsC (atC Try.prog 85 [1, 1, 0, 1, 0, 0, 1, 0, 0, 1, 0, 0, 1, 0, 0])) = some [.fl 0, .fl 1, .fl 2, .fl 3, .fl 4, .fl 5, .fl 6, .fl 7, .fl 8, .fl 9, .fl 10, .fl 11, .fl 12, .fl 13, .fl 14, .fl 15, .fl 16, .fl 17, .fl 18, .fl 19, .fl 20, .fl 21, .fl 22, .fl 23, .fl 24, .fl 25, .fl 26, .fl 27, .an 28 [], .sync] := by kernel_rfl
abbrev ref08_injected_post (r : (List Int)) : SV → Mem → Prop := fun s Me => ∃ q1, s = q1 ∧ Has (fun _ => none) Me [.vec 3 1 r.length q1 (r.flatMap enc3)]

def ref08_injected_2 (F : Nat) (hd1 : (List S_api_Wave) → Int → Int → (List Int) → Option ((List Int))) : Nat → (List S_api_Wave) → Int → Int → Int → (List Int) → Option ((List Int))
  | 0, _, _, _, _, _ => none
  | N + 1, v1, v2, v8, v9, l24 =>
    bnd (idx v1 v8) fun x28 =>
    bif (decide (v9 < (x28.Samples.length : Int))) then
      bnd (idx v1 v8) fun x32 =>
      bnd (idx l24 (w64 (x32.At + v9))) fun x34 =>
      bnd (idx v1 v8) fun x35 =>
      bnd (idx v1 v8) fun x37 =>
      bnd (idx x37.Samples v9) fun x39 =>
      bnd (inn l24 (w64 (x32.At + v9))) fun o40 =>
      bnd (upd l24 o40 (w64 (x34 + (w64 ((w64 (v2 * x35.Gain)) * x39))))) fun l41 =>
      (ref08_injected_2 F hd1 N) v1 v2 v8 (w64 (v9 + (1 : Int))) l41
    else
      hd1 v1 v2 (w64 (v8 + (1 : Int))) l24

theorem ref08_injected_2_ok (F : Nat) (hd1 : (List S_api_Wave) → Int → Int → (List Int) → Option ((List Int))) (hhd1 : ∀ (v1 : (List S_api_Wave)) (v2 : Int) (v8 : Int) (l24 : (List Int)) (sv1 : SV) (s24 : SV) (Fr : Rd) (M : Mem) (r : (List Int)) (hv1 : Slc Fr 3 (rep83 Fr) sv1 v1) (hH : Has Fr M [.vec 3 1 l24.length s24 (l24.flatMap enc3)]), hd1 v1 v2 v8 l24 = some r → Run Try.prog ⟨⟨85, [], none⟩, []⟩ 57 (ref08_injected_post r) [(1, sv1), (2, (.int .i64 v2)), (7, s24), (8, (.int .i64 v8))] [codeC Try.prog 85 [1, 1, 0, 1, 0, 0], loopC Try.prog 85 [1, 1, 0, 1, 0, 0], .inBlock 0, codeC Try.prog 85 [1, 1, 1]] M) : ∀ (N : Nat), ∀ (v1 : (List S_api_Wave)) (v2 : Int) (v8 : Int) (v9 : Int) (l24 : (List Int)) (sv1 : SV) (s24 : SV) (Fr : Rd) (M : Mem) (r : (List Int)) (hv1 : Slc Fr 3 (rep83 Fr) sv1 v1) (hH : Has Fr M [.vec 3 1 l24.length s24 (l24.flatMap enc3)]), ref08_injected_2 F hd1 N v1 v2 v8 v9 l24 = some r → Run Try.prog ⟨⟨85, [], none⟩, []⟩ 57 (ref08_injected_post r) [(1, sv1), (2, (.int .i64 v2)), (7, s24), (8, (.int .i64 v8)), (9, (.int .i64 v9))] [codeC Try.prog 85 [1, 1, 0, 1, 0, 0, 1, 0, 0, 1, 0, 0], loopC Try.prog 85 [1, 1, 0, 1, 0, 0, 1, 0, 0, 1, 0, 0], .inBlock 2, .inBlock 1, codeC Try.prog 85 [1, 1, 0, 1, 0, 0, 1, 1], loopC Try.prog 85 [1, 1, 0, 1, 0, 0], .inBlock 0, codeC Try.prog 85 [1, 1, 1]] M := by
  intro N
  induction N with
  | zero =>
    intro v1 v2 v8 v9 l24 sv1 s24 Fr M r hv1 hH h
    simp [ref08_injected_2] at h
  | succ N ih =>
    intro v1 v2 v8 v9 l24 sv1 s24 Fr M r hv1 hH h
    rw [ref08_injected_2] at h
    refine Run.seq (Run.seq (Run.region ?_))
    refine Run.opG wantS_none (ex_move rfl) rfl ?_
    refine Run.opG wantS_none (ex_move rfl) rfl ?_
    refine Run.opG wantS_none (ex_move rfl) rfl ?_
    obtain ⟨x28, hx28, h⟩ := bnd_some h
    obtain ⟨p28, o28, _, hx28, hp28, ⟨q28_0, rfl, hq28_0⟩⟩ := sl_elem (P := Try.prog) (t := 55) (kk := .i64) hv1 hx28 els55
    refine Run.opG wantS_none (ex_elX rfl rfl hx28) rfl ?_
    have hp30 := (hp28.fld (o := 2) rfl)
    refine Run.opG wantS_none (ex_fieldAddr rfl off83_2) rfl ?_
    refine Run.opG wantS_none (ex_load1 rfl (hH.ptrF hp30) rdLe_rfl agg38) rfl ?_
    refine Run.opG wantS_none (ex_len' rfl hq28_0 lenk38) rfl ?_
    refine Run.opG wantS_none (ex_lss rfl rfl) rfl ?_
    refine Run.opsEnd ?_
    rcases btf ((decide (v9 < (x28.Samples.length : Int)))) with hc31 | hc31
    · have h := bif_t hc31 h
      refine Run.condT' rfl hc31 ?_
      refine Run.skip (Run.seq (Run.block ?_))
      refine Run.drawG plan85_1_1_0_1_0_0_1_0_0_1_0_0_1_0_0 ?_
      refine DrawG.fl rfl (ev_ex wantS_none (ex_move rfl)) rfl ?_
      refine DrawG.fl rfl (ev_ex wantS_none (ex_move rfl)) rfl ?_
      refine DrawG.fl rfl (ev_ex wantS_none (ex_move rfl)) rfl ?_
      obtain ⟨x32, hx32, h⟩ := bnd_some h
      obtain ⟨p32, o32, _, hx32, hp32, ⟨q32_0, rfl, hq32_0⟩⟩ := sl_elem (P := Try.prog) (t := 55) (kk := .i64) hv1 hx32 els55
      refine DrawG.fl rfl (ev_ex wantS_none (ex_elX rfl rfl hx32)) rfl ?_
      have hp33 := (hp32.fld (o := 0) rfl)
      refine DrawG.fl rfl (ev_ex wantS_none (ex_fieldAddr rfl off83_0)) rfl ?_
      refine DrawG.fl rfl (ev_ex wantS_none (ex_load1 rfl (hH.ptrF hp33) rdLe_rfl agg3)) rfl ?_
      refine DrawG.fl rfl (ev_ex wantS_none (ex_move rfl)) rfl ?_
      refine DrawG.fl rfl (ev_ex wantS_none (ex_add rfl rfl)) rfl ?_
      obtain ⟨x34, hx34, h⟩ := bnd_some h
      obtain ⟨p34, o34, hb34, hx34, he34⟩ := vec_elem (P := Try.prog) (t := 38) (kk := .i64) hH (i := 0) rfl hx34 els38
      refine DrawG.fl rfl (ev_ex wantS_none (ex_elX rfl rfl hx34)) rfl ?_
      refine DrawG.fl rfl (ev_ex wantS_none (ex_load1 rfl (hH.at (enc := enc3) (a := x34) (i := 0) rfl hb34 he34 enc3_len) rdLe_rfl agg3)) rfl ?_
      refine DrawG.fl rfl (ev_ex wantS_none (ex_move rfl)) rfl ?_
      refine DrawG.fl rfl (ev_ex wantS_none (ex_move rfl)) rfl ?_
      refine DrawG.fl rfl (ev_ex wantS_none (ex_move rfl)) rfl ?_
      obtain ⟨x35, hx35, h⟩ := bnd_some h
      obtain ⟨p35, o35, _, hx35, hp35, ⟨q35_0, rfl, hq35_0⟩⟩ := sl_elem (P := Try.prog) (t := 55) (kk := .i64) hv1 hx35 els55
      refine DrawG.fl rfl (ev_ex wantS_none (ex_elX rfl rfl hx35)) rfl ?_
      have hp36 := (hp35.fld (o := 1) rfl)
      refine DrawG.fl rfl (ev_ex wantS_none (ex_fieldAddr rfl off83_1)) rfl ?_
      refine DrawG.fl rfl (ev_ex wantS_none (ex_load1 rfl (hH.ptrF hp36) rdLe_rfl agg3)) rfl ?_
      refine DrawG.fl rfl (ev_ex wantS_none (ex_mul rfl rfl)) rfl ?_
      refine DrawG.fl rfl (ev_ex wantS_none (ex_move rfl)) rfl ?_
      refine DrawG.fl rfl (ev_ex wantS_none (ex_move rfl)) rfl ?_
      obtain ⟨x37, hx37, h⟩ := bnd_some h
      obtain ⟨p37, o37, _, hx37, hp37, ⟨q37_0, rfl, hq37_0⟩⟩ := sl_elem (P := Try.prog) (t := 55) (kk := .i64) hv1 hx37 els55
      refine DrawG.fl rfl (ev_ex wantS_none (ex_elX rfl rfl hx37)) rfl ?_
      have hp38 := (hp37.fld (o := 2) rfl)
      refine DrawG.fl rfl (ev_ex wantS_none (ex_fieldAddr rfl off83_2)) rfl ?_
      refine DrawG.fl rfl (ev_ex wantS_none (ex_load1 rfl (hH.ptrF hp38) rdLe_rfl agg38)) rfl ?_
      refine DrawG.fl rfl (ev_ex wantS_none (ex_move rfl)) rfl ?_
      obtain ⟨x39, hx39, h⟩ := bnd_some h
      obtain ⟨p39, o39, _, hx39, hp39, rfl⟩ := sl_elem (P := Try.prog) (t := 38) (kk := .i64) hq37_0 hx39 els38
      refine DrawG.fl rfl (ev_ex wantS_none (ex_elX rfl rfl hx39)) rfl ?_
      refine DrawG.fl rfl (ev_ex wantS_none (ex_load1 rfl (hH.ptrF hp39) rdLe_rfl agg3)) rfl ?_
      refine DrawG.fl rfl (ev_ex wantS_none (ex_mul rfl rfl)) rfl ?_
      refine DrawG.fl rfl (ev_ex wantS_none (ex_add rfl rfl)) rfl ?_
      obtain ⟨o40, ho40, h⟩ := bnd_some h
      obtain ⟨p40, hb40, hx40⟩ := vec_place (P := Try.prog) (t := 38) (kk := .i64) hH (i := 0) rfl ho40 els38
      refine DrawG.fl rfl (ev_ex wantS_none (ex_elX rfl rfl hx40)) rfl ?_
      obtain ⟨l41, hl41, h⟩ := bnd_some h
      refine DrawG.opX rfl wantS_none rfl (ExG.storeEl rfl rfl hH (i := 0) rfl hb40 hl41 sz3 rfl enc3_len enc3_ones) ?_
      rintro _ M42 ⟨rfl, (hH42 : Has Fr M42 [.vec 3 1 l41.length s24 (l41.flatMap enc3)])⟩
      refine ⟨st_nil, ?_⟩
      refine DrawG.sync ?_
      refine DrawG.nil ?_
      refine Run.inBlock (Run.region ?_)
      refine Run.opG wantS_none (ex_move rfl) rfl ?_
      refine Run.opG wantS_none (ex_add rfl rfl) rfl ?_
      refine Run.opG wantS_none (ex_assign rfl) rfl ?_
      refine Run.opsEnd (Run.inLoop ?_)
      exact Run.pick [1, 2, 7, 8, 9] (ih v1 v2 v8 (w64 (v9 + (1 : Int))) l41 sv1 s24 _ _ _ hv1 hH42 h)
    · have h := bif_f hc31 h
      refine Run.condF' rfl hc31 ?_
      refine Run.exit rfl (Run.inBlock (Run.region ?_))
      refine Run.opG wantS_none (ex_move rfl) rfl ?_
      refine Run.opG wantS_none (ex_add rfl rfl) rfl ?_
      refine Run.opG wantS_none (ex_assign rfl) rfl ?_
      refine Run.opsEnd (Run.inLoop ?_)
      exact Run.pick [1, 2, 7, 8] (hhd1 v1 v2 (w64 (v8 + (1 : Int))) l24 sv1 s24 _ _ _ hv1 hH h)

def ref08_injected_1 (F : Nat) : Nat → (List S_api_Wave) → Int → Int → (List Int) → Option ((List Int))
  | 0, _, _, _, _ => none
  | N + 1, v1, v2, v8, l24 =>
    bif (decide (v8 < (v1.length : Int))) then
      ref08_injected_2 F (ref08_injected_1 F N) F v1 v2 v8 (0 : Int) l24
    else
      some l24

theorem ref08_injected_1_ok (F : Nat) : ∀ (N : Nat), ∀ (v1 : (List S_api_Wave)) (v2 : Int) (v8 : Int) (l24 : (List Int)) (sv1 : SV) (s24 : SV) (Fr : Rd) (M : Mem) (r : (List Int)) (hv1 : Slc Fr 3 (rep83 Fr) sv1 v1) (hH : Has Fr M [.vec 3 1 l24.length s24 (l24.flatMap enc3)]), ref08_injected_1 F N v1 v2 v8 l24 = some r → Run Try.prog ⟨⟨85, [], none⟩, []⟩ 57 (ref08_injected_post r) [(1, sv1), (2, (.int .i64 v2)), (7, s24), (8, (.int .i64 v8))] [codeC Try.prog 85 [1, 1, 0, 1, 0, 0], loopC Try.prog 85 [1, 1, 0, 1, 0, 0], .inBlock 0, codeC Try.prog 85 [1, 1, 1]] M := by
  intro N
  induction N with
  | zero =>
    intro v1 v2 v8 l24 sv1 s24 Fr M r hv1 hH h
    simp [ref08_injected_1] at h
  | succ N ih =>
    intro v1 v2 v8 l24 sv1 s24 Fr M r hv1 hH h
    rw [ref08_injected_1] at h
    refine Run.seq (Run.seq (Run.region ?_))
    refine Run.opG wantS_none (ex_move rfl) rfl ?_
    refine Run.opG wantS_none (ex_move rfl) rfl ?_
    refine Run.opG wantS_none (ex_len' rfl hv1 lenk55) rfl ?_
    refine Run.opG wantS_none (ex_lss rfl rfl) rfl ?_
    refine Run.opsEnd ?_
    rcases btf ((decide (v8 < (v1.length : Int)))) with hc26 | hc26
    · have h := bif_t hc26 h
      refine Run.condT' rfl hc26 ?_
      refine Run.skip (Run.seq (Run.block (Run.seq (Run.region ?_))))
      refine Run.opG wantS_none (ex_assign rfl) rfl ?_
      refine Run.opsEnd (Run.block (Run.loop ?_))
      exact Run.pick [1, 2, 7, 8, 9] (ref08_injected_2_ok F (ref08_injected_1 F N) ih F v1 v2 v8 (0 : Int) l24 sv1 s24 _ _ _ hv1 hH h)
    · have h := bif_f hc26 h
      refine Run.condF' rfl hc26 ?_
      refine Run.exit rfl (Run.seq (Run.region ?_))
      refine Run.opG wantS_none (ex_move rfl) rfl ?_
      refine Run.opG wantS_none (ex_assign rfl) rfl ?_
      refine Run.opsEnd ?_
      cases h
      exact Run.ret Try.func85 rfl (res_tmp rfl res_nil) ⟨_, rfl, (hH.pick [0] rfl rfl).upF (none_le _)⟩

def ref08_injected (F : Nat) (a0 : (List Int)) (a1 : (List S_api_Wave)) (a2 : Int) : Option ((List Int)) :=
  bnd (ref00_OwnInts F a0) fun r23 =>
  ref08_injected_1 F F a1 a2 (0 : Int) r23

theorem ref08_injected_ok (F : Nat) (a0 : (List Int)) (a1 : (List S_api_Wave)) (a2 : Int) (s0 s1 : SV) (r : (List Int)) (M : Mem) (hs0 : Slc (rd M) 1 (FlatR enc3) s0 a0) (hs1 : Slc (rd M) 3 (rep83 (rd M)) s1 a1) (h : ref08_injected F a0 a1 a2 = some r) : CallsM Try.prog 85 [s0, s1, (.int .i64 a2)] M (fun s M' => ∃ q1, s = q1 ∧ New M M' [.vec 3 1 r.length q1 (r.flatMap enc3)]) := by
  refine CallsM.fresh (Q := ref08_injected_post r) Try.func85 rfl rfl ?_ (by rintro s Me ⟨q1, rfl, hx⟩ ha hw; exact ⟨_, rfl, New.of rfl hx ha hw⟩)
  rw [ref08_injected] at h
  replace hs0 := hs0.mono (rdLe_frozen M) (fun _ _ h => h)
  replace hs1 := hs1.mono (rdLe_frozen M) (fun _ _ => rep83_mo (rdLe_frozen M))
  have hH := Has.nil (frozen M)
  refine Run.seq (Run.region ?_)
  refine Run.opG wantS_none (ex_assign rfl) rfl ?_
  refine Run.opsEnd (Run.seq (Run.region ?_))
  refine Run.opG wantS_none (ex_move rfl) rfl ?_
  obtain ⟨r23, hr23, h⟩ := bnd_some h
  refine Run.callX wantS_none (ex_call rfl mkk119 cal119) rfl (ref00_OwnInts_ok F a0 s0 _ _ (hH.slcF hs0) hr23) ?_
  rintro s23_0 M25 ⟨_, rfl, hN23⟩
  have hH25 : Has (ro (frozen M)) M25 [.vec 3 1 r23.length s23_0 (r23.flatMap enc3)] := hN23.1 _ _ hH
  refine Run.opG wantS_none (ex_assign rfl) rfl ?_
  refine Run.opsEnd (Run.seq (Run.seq (Run.region ?_)))
  refine Run.opG wantS_none (ex_assign rfl) rfl ?_
  refine Run.opsEnd (Run.block (Run.loop ?_))
  exact Run.pick [1, 2, 7, 8] (ref08_injected_1_ok F F a1 a2 (0 : Int) r23 s1 s23_0 _ _ _ hs1 hH25 h)

theorem mkk85 : makeK Try.prog 85 = none := by kernel_rfl
theorem cal85 : callable Try.prog 85 = true := by kernel_rfl
abbrev ref08_Inject_post (r : (List Int) × Int) : SV → Mem → Prop := fun s Me => ∃ q1, s = (.tuple [q1, (.int .i64 r.2)]) ∧ Has (fun _ => none) Me [.vec 3 1 r.1.length q1 (r.1.flatMap enc3)]

def ref08_Inject (F : Nat) (a0 : (List Int)) (a1 : (List S_api_Wave)) : Option ((List Int) × Int) :=
  bnd (ref08_given F a0 a1) fun r22 =>
  bif (!(r22 == (0 : Int))) then
    some (([] : List Int), r22)
  else
    bnd (ref08_injected F a0 a1 (1 : Int)) fun r29 =>
    bnd (ref08_record F r29) fun r33 =>
    bif (!r33) then
      some (([] : List Int), (8 : Int))
    else
      some (r29, (0 : Int))

theorem ref08_Inject_ok (F : Nat) (a0 : (List Int)) (a1 : (List S_api_Wave)) (s0 s1 : SV) (r : (List Int) × Int) (M : Mem) (hs0 : Slc (rd M) 1 (FlatR enc3) s0 a0) (hs1 : Slc (rd M) 3 (rep83 (rd M)) s1 a1) (h : ref08_Inject F a0 a1 = some r) : CallsM Try.prog 40 [s0, s1] M (fun s M' => ∃ q1, s = (.tuple [q1, (.int .i64 r.2)]) ∧ New M M' [.vec 3 1 r.1.length q1 (r.1.flatMap enc3)]) := by
  refine CallsM.fresh (Q := ref08_Inject_post r) Try.func40 rfl rfl ?_ (by rintro s Me ⟨q1, rfl, hx⟩ ha hw; exact ⟨_, rfl, New.of rfl hx ha hw⟩)
  rw [ref08_Inject] at h
  replace hs0 := hs0.mono (rdLe_frozen M) (fun _ _ h => h)
  replace hs1 := hs1.mono (rdLe_frozen M) (fun _ _ => rep83_mo (rdLe_frozen M))
  have hH := Has.nil (frozen M)
  refine Run.seq (Run.region ?_)
  refine Run.opG wantS_none (ex_assign rfl) rfl ?_
  refine Run.opG wantS_none (ex_assign rfl) rfl ?_
  refine Run.opsEnd (Run.seq (Run.seq (Run.region ?_)))
  refine Run.opG wantS_none (ex_move rfl) rfl ?_
  refine Run.opG wantS_none (ex_move rfl) rfl ?_
  obtain ⟨r22, hr22, h⟩ := bnd_some h
  refine Run.callP wantS_none (ex_call rfl mkk84 cal84) rfl (ref08_given_ok F a0 a1 s0 s1 _ _ (hH.slcF hs0) ((hs1).mono hH.le (fun _ _ => rep83_mo hH.le)) hr22) ?_
  refine Run.opG wantS_none (ex_assign rfl) rfl ?_
  refine Run.opsEnd (Run.seq (Run.region ?_))
  refine Run.opG wantS_none (ex_move rfl) rfl ?_
  refine Run.opG wantS_none (ex_neq rfl rfl) rfl ?_
  refine Run.opsEnd ?_
  rcases btf ((!(r22 == (0 : Int)))) with hc24 | hc24
  · have h := bif_t hc24 h
    refine Run.condT' rfl hc24 ?_
    refine Run.seq (Run.region ?_)
    refine Run.opG wantS_none (ex_move rfl) rfl ?_
    refine Run.opG wantS_none (ex_assign rfl) rfl ?_
    refine Run.opG wantS_none (ex_assign rfl) rfl ?_
    refine Run.opsEnd ?_
    have hH26 : Has (ro (frozen M)) (frozen M) [.vec 3 1 ([] : List Int).length .nils (([] : List Int).flatMap enc3)] := hH.nils 3 1
    cases h
    exact Run.ret Try.func40 rfl (res_tmp rfl (res_tmp rfl res_nil)) ⟨_, rfl, (hH26.pick [0] rfl rfl).upF (none_le _)⟩
  · have h := bif_f hc24 h
    refine Run.condF' rfl hc24 ?_
    refine Run.skip (Run.seq (Run.region ?_))
    refine Run.opG wantS_none (ex_move rfl) rfl ?_
    refine Run.opG wantS_none (ex_move rfl) rfl ?_
    obtain ⟨r29, hr29, h⟩ := bnd_some h
    refine Run.callX wantS_none (ex_call rfl mkk85 cal85) rfl (ref08_injected_ok F a0 a1 (1 : Int) s0 s1 _ _ (hH.slcF hs0) ((hs1).mono hH.le (fun _ _ => rep83_mo hH.le)) hr29) ?_
    rintro s29_0 M31 ⟨_, rfl, hN29⟩
    have hH31 : Has (ro (frozen M)) M31 [.vec 3 1 r29.length s29_0 (r29.flatMap enc3)] := hN29.1 _ _ hH
    refine Run.opG wantS_none (ex_assign rfl) rfl ?_
    refine Run.opsEnd (Run.seq (Run.seq (Run.region ?_)))
    refine Run.opG wantS_none (ex_move rfl) rfl ?_
    obtain ⟨r33, hr33, h⟩ := bnd_some h
    refine Run.callP wantS_none (ex_call rfl mkk71 cal71) rfl (ref08_record_ok F r29 s29_0 _ _ (hH31.slc (i := 0) rfl enc3_len) hr33) ?_
    refine Run.opG wantS_none (ex_not rfl) rfl ?_
    refine Run.opsEnd ?_
    rcases btf ((!r33)) with hc35 | hc35
    · have h := bif_t hc35 h
      refine Run.condT' rfl hc35 ?_
      refine Run.seq (Run.region ?_)
      refine Run.opG wantS_none (ex_assign rfl) rfl ?_
      refine Run.opG wantS_none (ex_assign rfl) rfl ?_
      refine Run.opsEnd ?_
      have hH37 : Has (ro (frozen M)) M31 [.vec 3 1 ([] : List Int).length .nils (([] : List Int).flatMap enc3), .vec 3 1 r29.length s29_0 (r29.flatMap enc3)] := hH31.nils 3 1
      cases h
      exact Run.ret Try.func40 rfl (res_tmp rfl (res_tmp rfl res_nil)) ⟨_, rfl, (hH37.pick [0] rfl rfl).upF (none_le _)⟩
    · have h := bif_f hc35 h
      refine Run.condF' rfl hc35 ?_
      refine Run.skip (Run.seq (Run.region ?_))
      refine Run.opG wantS_none (ex_move rfl) rfl ?_
      refine Run.opG wantS_none (ex_assign rfl) rfl ?_
      refine Run.opG wantS_none (ex_assign rfl) rfl ?_
      refine Run.opsEnd ?_
      cases h
      exact Run.ret Try.func40 rfl (res_tmp rfl (res_tmp rfl res_nil)) ⟨_, rfl, (hH31.pick [0] rfl rfl).upF (none_le _)⟩

theorem mkk40 : makeK Try.prog 40 = none := by kernel_rfl
theorem cal40 : callable Try.prog 40 = true := by kernel_rfl
theorem plan28_1_1_0_1_0_0_1_0_0_0 : planOf Try.prog (opsC (atC Try.prog 28 [1, 1, 0, 1, 0, 0, 1, 0, 0, 0])) = some [.fl 0, .fl 1, .fl 2, .fl 3, .fl 4, .fl 5, .fl 6, .fl 7, .fl 8, .sync] := by kernel_rfl
abbrev ref00_SameInts_post (r : Bool) : SV → Mem → Prop := fun s _ => s = (.bool r)

def ref00_SameInts_1 (F : Nat) : Nat → (List Int) → (List Int) → Int → Option (Bool)
  | 0, _, _, _ => none
  | N + 1, v0, v1, v5 =>
    bif (decide (v5 < (v0.length : Int))) then
      bnd (idx v0 v5) fun x23 =>
      bnd (idx v1 v5) fun x24 =>
      bif (!(x23 == x24)) then
        some false
      else
        (ref00_SameInts_1 F N) v0 v1 (w64 (v5 + (1 : Int)))
    else
      some true

theorem ref00_SameInts_1_ok (F : Nat) : ∀ (N : Nat), ∀ (v0 : (List Int)) (v1 : (List Int)) (v5 : Int) (sv0 : SV) (sv1 : SV) (Fr : Rd) (M : Mem) (r : Bool) (hv0 : Slc Fr 1 (FlatR enc3) sv0 v0) (hv1 : Slc Fr 1 (FlatR enc3) sv1 v1) (hH : Has Fr M []), ref00_SameInts_1 F N v0 v1 v5 = some r → Run Try.prog ⟨⟨28, [], none⟩, []⟩ 26 (ref00_SameInts_post r) [(0, sv0), (1, sv1), (5, (.int .i64 v5))] [codeC Try.prog 28 [1, 1, 0, 1, 0, 0], loopC Try.prog 28 [1, 1, 0, 1, 0, 0], .inBlock 0, codeC Try.prog 28 [1, 1, 1]] M := by
  intro N
  induction N with
  | zero =>
    intro v0 v1 v5 sv0 sv1 Fr M r hv0 hv1 hH h
    simp [ref00_SameInts_1] at h
  | succ N ih =>
    intro v0 v1 v5 sv0 sv1 Fr M r hv0 hv1 hH h
    rw [ref00_SameInts_1] at h
    refine Run.seq (Run.seq (Run.region ?_))
    refine Run.opG wantS_none (ex_move rfl) rfl ?_
    refine Run.opG wantS_none (ex_move rfl) rfl ?_
    refine Run.opG wantS_none (ex_len' rfl hv0 lenk38) rfl ?_
    refine Run.opG wantS_none (ex_lss rfl rfl) rfl ?_
    refine Run.opsEnd ?_
    rcases btf ((decide (v5 < (v0.length : Int)))) with hc22 | hc22
    · have h := bif_t hc22 h
      refine Run.condT' rfl hc22 ?_
      refine Run.skip (Run.seq (Run.block (Run.seq ?_)))
      refine Run.drawG plan28_1_1_0_1_0_0_1_0_0_0 ?_
      refine DrawG.fl rfl (ev_ex wantS_none (ex_move rfl)) rfl ?_
      refine DrawG.fl rfl (ev_ex wantS_none (ex_move rfl)) rfl ?_
      obtain ⟨x23, hx23, h⟩ := bnd_some h
      obtain ⟨p23, o23, _, hx23, hp23, rfl⟩ := sl_elem (P := Try.prog) (t := 38) (kk := .i64) hv0 hx23 els38
      refine DrawG.fl rfl (ev_ex wantS_none (ex_elX rfl rfl hx23)) rfl ?_
      refine DrawG.fl rfl (ev_ex wantS_none (ex_load1 rfl (hH.ptrF hp23) rdLe_rfl agg3)) rfl ?_
      refine DrawG.fl rfl (ev_ex wantS_none (ex_move rfl)) rfl ?_
      refine DrawG.fl rfl (ev_ex wantS_none (ex_move rfl)) rfl ?_
      obtain ⟨x24, hx24, h⟩ := bnd_some h
      obtain ⟨p24, o24, _, hx24, hp24, rfl⟩ := sl_elem (P := Try.prog) (t := 38) (kk := .i64) hv1 hx24 els38
      refine DrawG.fl rfl (ev_ex wantS_none (ex_elX rfl rfl hx24)) rfl ?_
      refine DrawG.fl rfl (ev_ex wantS_none (ex_load1 rfl (hH.ptrF hp24) rdLe_rfl agg3)) rfl ?_
      refine DrawG.fl rfl (ev_ex wantS_none (ex_neq rfl rfl)) rfl ?_
      refine DrawG.sync ?_
      refine DrawG.nil ?_
      rcases btf ((!(x23 == x24))) with hc25 | hc25
      · have h := bif_t hc25 h
        refine Run.condT' rfl hc25 ?_
        refine Run.seq (Run.region ?_)
        refine Run.opG wantS_none (ex_assign rfl) rfl ?_
        refine Run.opsEnd ?_
        cases h
        exact Run.ret Try.func28 rfl (res_tmp rfl res_nil) rfl
      · have h := bif_f hc25 h
        refine Run.condF' rfl hc25 ?_
        refine Run.skip (Run.inBlock (Run.region ?_))
        refine Run.opG wantS_none (ex_move rfl) rfl ?_
        refine Run.opG wantS_none (ex_add rfl rfl) rfl ?_
        refine Run.opG wantS_none (ex_assign rfl) rfl ?_
        refine Run.opsEnd (Run.inLoop ?_)
        exact Run.pick [0, 1, 5] (ih v0 v1 (w64 (v5 + (1 : Int))) sv0 sv1 _ _ _ hv0 hv1 hH h)
    · have h := bif_f hc22 h
      refine Run.condF' rfl hc22 ?_
      refine Run.exit rfl (Run.seq (Run.region ?_))
      refine Run.opG wantS_none (ex_assign rfl) rfl ?_
      refine Run.opsEnd ?_
      cases h
      exact Run.ret Try.func28 rfl (res_tmp rfl res_nil) rfl

def ref00_SameInts (F : Nat) (a0 : (List Int)) (a1 : (List Int)) : Option (Bool) :=
  bif (!((a0.length : Int) == (a1.length : Int))) then
    some false
  else
    ref00_SameInts_1 F F a0 a1 (0 : Int)

theorem ref00_SameInts_ok (F : Nat) (a0 : (List Int)) (a1 : (List Int)) (s0 s1 : SV) (r : Bool) (M : Mem) (hs0 : Slc (rd M) 1 (FlatR enc3) s0 a0) (hs1 : Slc (rd M) 1 (FlatR enc3) s1 a1) (h : ref00_SameInts F a0 a1 = some r) : CallsM Try.prog 28 [s0, s1] M (fun s M' => s = (.bool r) ∧ M' = M) := by
  refine CallsM.plain Try.func28 rfl rfl rfl (show Run _ _ _ (ref00_SameInts_post r) _ _ _ from ?_)
  rw [ref00_SameInts] at h
  replace hs0 := hs0.mono (rdLe_frozen M) (fun _ _ h => h)
  replace hs1 := hs1.mono (rdLe_frozen M) (fun _ _ h => h)
  have hH := Has.nil (frozen M)
  refine Run.seq (Run.region ?_)
  refine Run.opG wantS_none (ex_assign rfl) rfl ?_
  refine Run.opsEnd (Run.seq (Run.seq (Run.region ?_)))
  refine Run.opG wantS_none (ex_move rfl) rfl ?_
  refine Run.opG wantS_none (ex_len' rfl hs0 lenk38) rfl ?_
  refine Run.opG wantS_none (ex_move rfl) rfl ?_
  refine Run.opG wantS_none (ex_len' rfl hs1 lenk38) rfl ?_
  refine Run.opG wantS_none (ex_neq rfl rfl) rfl ?_
  refine Run.opsEnd ?_
  rcases btf ((!((a0.length : Int) == (a1.length : Int)))) with hc21 | hc21
  · have h := bif_t hc21 h
    refine Run.condT' rfl hc21 ?_
    refine Run.seq (Run.region ?_)
    refine Run.opG wantS_none (ex_assign rfl) rfl ?_
    refine Run.opsEnd ?_
    cases h
    exact Run.ret Try.func28 rfl (res_tmp rfl res_nil) rfl
  · have h := bif_f hc21 h
    refine Run.condF' rfl hc21 ?_
    refine Run.skip (Run.seq (Run.seq (Run.region ?_)))
    refine Run.opG wantS_none (ex_assign rfl) rfl ?_
    refine Run.opsEnd (Run.block (Run.loop ?_))
    exact Run.pick [0, 1, 5] (ref00_SameInts_1_ok F F a0 a1 (0 : Int) s0 s1 _ _ _ hs0 hs1 hH h)

theorem mkk28 : makeK Try.prog 28 = none := by kernel_rfl
theorem cal28 : callable Try.prog 28 = true := by kernel_rfl
structure S_api_Envelope where
  Many : Int
  Code : Int

theorem zer58 : zerosOf Try.prog 58 = some [(.int .i64 0), (.int .i64 0)] := by kernel_rfl
abbrev search_checkSeal_post (r : Int) : SV → Mem → Prop := fun s _ => s = (.int .i64 r)

def search_checkSeal (F : Nat) (a0 : (List Int)) (a1 : (List S_api_Wave)) (a2 : Int) : Option (Int) :=
  bnd (search_checkWaves F a0 a1) fun r22 =>
  bif (!(r22 == (0 : Int))) then
    some r22
  else
    bnd (search_isFrom F (0 : Int) a2 (1073741824 : Int)) fun r26 =>
    bif (!r26) then
      some (8 : Int)
    else
      some (0 : Int)

theorem search_checkSeal_ok (F : Nat) (a0 : (List Int)) (a1 : (List S_api_Wave)) (a2 : Int) (s0 s1 : SV) (r : Int) (M : Mem) (hs0 : Slc (rd M) 1 (FlatR enc3) s0 a0) (hs1 : Slc (rd M) 3 (rep83 (rd M)) s1 a1) (h : search_checkSeal F a0 a1 a2 = some r) : CallsM Try.prog 86 [s0, s1, (.int .i64 a2)] M (fun s M' => s = (.int .i64 r) ∧ M' = M) := by
  refine CallsM.plain Try.func86 rfl rfl rfl (show Run _ _ _ (search_checkSeal_post r) _ _ _ from ?_)
  rw [search_checkSeal] at h
  replace hs0 := hs0.mono (rdLe_frozen M) (fun _ _ h => h)
  replace hs1 := hs1.mono (rdLe_frozen M) (fun _ _ => rep83_mo (rdLe_frozen M))
  have hH := Has.nil (frozen M)
  refine Run.seq (Run.region ?_)
  refine Run.opG wantS_none (ex_assign rfl) rfl ?_
  refine Run.opsEnd (Run.seq (Run.seq (Run.region ?_)))
  refine Run.opG wantS_none (ex_move rfl) rfl ?_
  refine Run.opG wantS_none (ex_move rfl) rfl ?_
  obtain ⟨r22, hr22, h⟩ := bnd_some h
  refine Run.callP wantS_none (ex_call rfl mkk81 cal81) rfl (search_checkWaves_ok F a0 a1 s0 s1 _ _ (hH.slcF hs0) ((hs1).mono hH.le (fun _ _ => rep83_mo hH.le)) hr22) ?_
  refine Run.opG wantS_none (ex_assign rfl) rfl ?_
  refine Run.opsEnd (Run.seq (Run.region ?_))
  refine Run.opG wantS_none (ex_move rfl) rfl ?_
  refine Run.opG wantS_none (ex_neq rfl rfl) rfl ?_
  refine Run.opsEnd ?_
  rcases btf ((!(r22 == (0 : Int)))) with hc24 | hc24
  · have h := bif_t hc24 h
    refine Run.condT' rfl hc24 ?_
    refine Run.seq (Run.region ?_)
    refine Run.opG wantS_none (ex_move rfl) rfl ?_
    refine Run.opG wantS_none (ex_assign rfl) rfl ?_
    refine Run.opsEnd ?_
    cases h
    exact Run.ret Try.func86 rfl (res_tmp rfl res_nil) rfl
  · have h := bif_f hc24 h
    refine Run.condF' rfl hc24 ?_
    refine Run.skip (Run.seq (Run.seq (Run.region ?_)))
    refine Run.opG wantS_none (ex_move rfl) rfl ?_
    obtain ⟨r26, hr26, h⟩ := bnd_some h
    refine Run.callP wantS_none (ex_call rfl mkk62 cal62) rfl (search_isFrom_ok F (0 : Int) a2 (1073741824 : Int) _ _ hr26) ?_
    refine Run.opG wantS_none (ex_not rfl) rfl ?_
    refine Run.opsEnd ?_
    rcases btf ((!r26)) with hc28 | hc28
    · have h := bif_t hc28 h
      refine Run.condT' rfl hc28 ?_
      refine Run.seq (Run.region ?_)
      refine Run.opG wantS_none (ex_assign rfl) rfl ?_
      refine Run.opsEnd ?_
      cases h
      exact Run.ret Try.func86 rfl (res_tmp rfl res_nil) rfl
    · have h := bif_f hc28 h
      refine Run.condF' rfl hc28 ?_
      refine Run.skip (Run.seq (Run.region ?_))
      refine Run.opG wantS_none (ex_assign rfl) rfl ?_
      refine Run.opsEnd ?_
      cases h
      exact Run.ret Try.func86 rfl (res_tmp rfl res_nil) rfl

theorem mkk86 : makeK Try.prog 86 = none := by kernel_rfl
theorem cal86 : callable Try.prog 86 = true := by kernel_rfl
theorem pls58 : placesOf Try.prog 58 = some (.st [(0, 1), (1, 1)]) := by kernel_rfl
theorem sz58 : szOf Try.prog 58 = some 2 := by kernel_rfl
theorem agg58 : aggSize Try.prog 58 = some (some 2) := by kernel_rfl
theorem zer147 : zerosOf Try.prog 147 = some [(.int .i64 0)] := by kernel_rfl
theorem sz147 : szOf Try.prog 147 = some 1 := by kernel_rfl
theorem mkk120 : makeK Try.prog 120 = none := by kernel_rfl
theorem cal120 : callable Try.prog 120 = true := by kernel_rfl
theorem mkk121 : makeK Try.prog 121 = none := by kernel_rfl
theorem cal121 : callable Try.prog 121 = true := by kernel_rfl
theorem agg147 : aggSize Try.prog 147 = some none := by kernel_rfl
abbrev search_envelope_post (r : S_api_Envelope) : SV → Mem → Prop := fun s _ => s = (.agg [(.int .i64 r.Many), (.int .i64 r.Code)])

def search_envelope_2 (F : Nat) (hd1 : (List S_api_Wave) → Int → Int → (List S_api_Wave) → Int → S_api_Envelope → Option (S_api_Envelope)) : Nat → (List S_api_Wave) → Int → Int → (List Int) → Int → Int → (List S_api_Wave) → Int → S_api_Envelope → Option (S_api_Envelope)
  | 0, _, _, _, _, _, _, _, _, _ => none
  | N + 1, v8, v9, v10, v28, v29, v30, v0_f1, c25_0, c22 =>
    bif (decide (v30 < v29)) then
      bnd (idx v28 v30) fun x40 =>
      (search_envelope_2 F hd1 N) v8 v9 v10 v28 v29 (w64 (v30 + (1 : Int))) v0_f1 (Int.tmod (w64 ((w64 ((w64 (c25_0 * (48271 : Int))) + x40)) + (65536 : Int))) (2147483647 : Int)) c22
    else
      hd1 v8 v9 (w64 (v10 + (1 : Int))) v0_f1 c25_0 c22

theorem search_envelope_2_ok (F : Nat) (hd1 : (List S_api_Wave) → Int → Int → (List S_api_Wave) → Int → S_api_Envelope → Option (S_api_Envelope)) (hhd1 : ∀ (v8 : (List S_api_Wave)) (v9 : Int) (v10 : Int) (v0_f1 : (List S_api_Wave)) (c25_0 : Int) (c22 : S_api_Envelope) (sv8 : SV) (sv0_f1 : SV) (b25 : Pos) (b22 : Pos) (Fr : Rd) (M : Mem) (r : S_api_Envelope) (hv8 : Slc Fr 3 (rep83 Fr) sv8 v8) (hv0_f1 : Slc Fr 3 (rep83 Fr) sv0_f1 v0_f1) (hH : Has Fr M [.obj b25 (.row 147 .whole [(.int .i64 c25_0)]), .obj b22 (.row 58 .whole [(.int .i64 c22.Many), (.int .i64 c22.Code)])]), hd1 v8 v9 v10 v0_f1 c25_0 c22 = some r → Run Try.prog ⟨⟨120, [], none⟩, [.mk ⟨87, [], none⟩ 15 (treeOf [(0, sv0_f1), (4, (.ptr b22 0)), (5, (.ptr b25 0))]) [itemC Try.prog 87 [1, 1, 0] 2, codeC Try.prog 87 [1, 1, 1]]]⟩ 39 (search_envelope_post r) [(1, (.fn (.func 121) [(.ptr b25 0)] [])), (8, sv8), (9, (.int .i64 v9)), (10, (.int .i64 v10))] [codeC Try.prog 120 [1, 0, 0], loopC Try.prog 120 [1, 0, 0], .inBlock 0] M) : ∀ (N : Nat), ∀ (v8 : (List S_api_Wave)) (v9 : Int) (v10 : Int) (v28 : (List Int)) (v29 : Int) (v30 : Int) (v0_f1 : (List S_api_Wave)) (c25_0 : Int) (c22 : S_api_Envelope) (sv8 : SV) (sv28 : SV) (sv0_f1 : SV) (b25 : Pos) (b22 : Pos) (Fr : Rd) (M : Mem) (r : S_api_Envelope) (hv8 : Slc Fr 3 (rep83 Fr) sv8 v8) (hv28 : Slc Fr 1 (FlatR enc3) sv28 v28) (hv0_f1 : Slc Fr 3 (rep83 Fr) sv0_f1 v0_f1) (hH : Has Fr M [.obj b25 (.row 147 .whole [(.int .i64 c25_0)]), .obj b22 (.row 58 .whole [(.int .i64 c22.Many), (.int .i64 c22.Code)])]), search_envelope_2 F hd1 N v8 v9 v10 v28 v29 v30 v0_f1 c25_0 c22 = some r → Run Try.prog ⟨⟨120, [], none⟩, [.mk ⟨87, [], none⟩ 15 (treeOf [(0, sv0_f1), (4, (.ptr b22 0)), (5, (.ptr b25 0))]) [itemC Try.prog 87 [1, 1, 0] 2, codeC Try.prog 87 [1, 1, 1]]]⟩ 39 (search_envelope_post r) [(1, (.fn (.func 121) [(.ptr b25 0)] [])), (8, sv8), (9, (.int .i64 v9)), (10, (.int .i64 v10)), (28, sv28), (29, (.int .i64 v29)), (30, (.int .i64 v30))] [codeC Try.prog 120 [1, 0, 0, 1, 1, 0, 0, 1, 1, 1, 1, 1, 0, 0], loopC Try.prog 120 [1, 0, 0, 1, 1, 0, 0, 1, 1, 1, 1, 1, 0, 0], .inBlock 2, .inBlock 1, codeC Try.prog 120 [1, 0, 0, 1, 1, 1], loopC Try.prog 120 [1, 0, 0], .inBlock 0] M := by
  intro N
  induction N with
  | zero =>
    intro v8 v9 v10 v28 v29 v30 v0_f1 c25_0 c22 sv8 sv28 sv0_f1 b25 b22 Fr M r hv8 hv28 hv0_f1 hH h
    simp [search_envelope_2] at h
  | succ N ih =>
    intro v8 v9 v10 v28 v29 v30 v0_f1 c25_0 c22 sv8 sv28 sv0_f1 b25 b22 Fr M r hv8 hv28 hv0_f1 hH h
    rw [search_envelope_2] at h
    refine Run.seq (Run.region ?_)
    refine Run.opG wantS_none (ex_lss rfl rfl) rfl ?_
    refine Run.opsEnd (Run.seq ?_)
    rcases btf ((decide (v30 < v29))) with hc38 | hc38
    · have h := bif_t hc38 h
      refine Run.condT' rfl hc38 ?_
      refine Run.skip (Run.seq (Run.block (Run.seq (Run.region ?_))))
      obtain ⟨x40, hx40, h⟩ := bnd_some h
      obtain ⟨p40, o40, _, hx40, hp40, rfl⟩ := sl_elem (P := Try.prog) (t := 38) (kk := .i64) hv28 hx40 els38
      refine Run.opG wantS_none (ex_elX rfl rfl hx40) rfl ?_
      refine Run.opG wantS_none (ex_load1 rfl (hH.ptrF hp40) rdLe_rfl agg3) rfl ?_
      refine Run.opG wantS_none (ex_assign rfl) rfl ?_
      refine Run.opsEnd (Run.region ?_)
      refine Run.opG wantS_none (ex_move rfl) rfl ?_
      refine Run.opG wantS_none (ex_move rfl) rfl ?_
      refine Run.enter wantS_none (ex_closure rfl rfl mkk121 cal121) Try.func121 rfl rfl ?_
      refine Run.region ?_
      refine Run.opG wantS_none (ex_move rfl) rfl ?_
      refine Run.opG wantS_none (ex_move rfl) rfl ?_
      refine Run.opG wantS_none (ex_nilP rfl) rfl ?_
      refine Run.opG wantS_none (ex_load1 rfl (hH.cells (i := 0) rfl 0 rfl) rdLe_rfl agg147) rfl ?_
      refine Run.opG wantS_none (ex_mul rfl rfl) rfl ?_
      refine Run.opG wantS_none (ex_move rfl) rfl ?_
      refine Run.opG wantS_none (ex_add rfl rfl) rfl ?_
      refine Run.opG wantS_none (ex_add rfl rfl) rfl ?_
      refine Run.opG wantS_none (ex_rem rfl rfl (by decide)) rfl ?_
      refine Run.opG wantS_none (ex_nilP rfl) rfl ?_
      refine Run.opX wantS_none rfl (ExG.storeC (c' := [(.int .i64 (Int.tmod (w64 ((w64 ((w64 (c25_0 * (48271 : Int))) + x40)) + (65536 : Int))) (2147483647 : Int)))]) rfl rfl rfl hH (i := 0) rfl sz147 rfl rfl rfl rfl rfl) ?_
      rintro _ M41 ⟨rfl, (hH41 : Has Fr M41 [.obj b25 (.row 147 .whole [(.int .i64 (Int.tmod (w64 ((w64 ((w64 (c25_0 * (48271 : Int))) + x40)) + (65536 : Int))) (2147483647 : Int)))]), .obj b22 (.row 58 .whole [(.int .i64 c22.Many), (.int .i64 c22.Code)])])⟩
      refine Run.opsEnd ?_
      refine Run.fallTo Try.func121 rfl res_nil rfl ?_
      refine Run.opsEnd (Run.inBlock (Run.region ?_))
      refine Run.opG wantS_none (ex_add rfl rfl) rfl ?_
      refine Run.opG wantS_none (ex_move rfl) rfl ?_
      refine Run.opsEnd (Run.inLoop ?_)
      exact Run.low (.cons (fle_pick [0, 4, 5] rfl) .nil) (Run.pick [1, 8, 9, 10, 28, 29, 30] (ih v8 v9 v10 v28 v29 (w64 (v30 + (1 : Int))) v0_f1 (Int.tmod (w64 ((w64 ((w64 (c25_0 * (48271 : Int))) + x40)) + (65536 : Int))) (2147483647 : Int)) c22 sv8 sv28 sv0_f1 b25 b22 _ _ _ hv8 hv28 hv0_f1 hH41 h))
    · have h := bif_f hc38 h
      refine Run.condF' rfl hc38 ?_
      refine Run.exit rfl (Run.inBlock (Run.region ?_))
      refine Run.opG wantS_none (ex_add rfl rfl) rfl ?_
      refine Run.opG wantS_none (ex_move rfl) rfl ?_
      refine Run.opsEnd (Run.inLoop ?_)
      exact Run.low (.cons (fle_pick [0, 4, 5] rfl) .nil) (Run.pick [1, 8, 9, 10] (hhd1 v8 v9 (w64 (v10 + (1 : Int))) v0_f1 c25_0 c22 sv8 sv0_f1 b25 b22 _ _ _ hv8 hv0_f1 hH h))

def search_envelope_1 (F : Nat) : Nat → (List S_api_Wave) → Int → Int → (List S_api_Wave) → Int → S_api_Envelope → Option (S_api_Envelope)
  | 0, _, _, _, _, _, _ => none
  | N + 1, v8, v9, v10, v0_f1, c25_0, c22 =>
    bif (decide (v10 < v9)) then
      bnd (idx v8 v10) fun x30 =>
      search_envelope_2 F (search_envelope_1 F N) F v8 v9 v10 x30.Samples (x30.Samples.length : Int) (0 : Int) v0_f1 (Int.tmod (w64 ((w64 ((w64 ((Int.tmod (w64 ((w64 ((w64 ((Int.tmod (w64 ((w64 ((w64 (c25_0 * (48271 : Int))) + x30.At)) + (65536 : Int))) (2147483647 : Int)) * (48271 : Int))) + x30.Gain)) + (65536 : Int))) (2147483647 : Int)) * (48271 : Int))) + (x30.Samples.length : Int))) + (65536 : Int))) (2147483647 : Int)) c22
    else
      some (S_api_Envelope.mk (v0_f1.length : Int) c25_0)

theorem search_envelope_1_ok (F : Nat) : ∀ (N : Nat), ∀ (v8 : (List S_api_Wave)) (v9 : Int) (v10 : Int) (v0_f1 : (List S_api_Wave)) (c25_0 : Int) (c22 : S_api_Envelope) (sv8 : SV) (sv0_f1 : SV) (b25 : Pos) (b22 : Pos) (Fr : Rd) (M : Mem) (r : S_api_Envelope) (hv8 : Slc Fr 3 (rep83 Fr) sv8 v8) (hv0_f1 : Slc Fr 3 (rep83 Fr) sv0_f1 v0_f1) (hH : Has Fr M [.obj b25 (.row 147 .whole [(.int .i64 c25_0)]), .obj b22 (.row 58 .whole [(.int .i64 c22.Many), (.int .i64 c22.Code)])]), search_envelope_1 F N v8 v9 v10 v0_f1 c25_0 c22 = some r → Run Try.prog ⟨⟨120, [], none⟩, [.mk ⟨87, [], none⟩ 15 (treeOf [(0, sv0_f1), (4, (.ptr b22 0)), (5, (.ptr b25 0))]) [itemC Try.prog 87 [1, 1, 0] 2, codeC Try.prog 87 [1, 1, 1]]]⟩ 39 (search_envelope_post r) [(1, (.fn (.func 121) [(.ptr b25 0)] [])), (8, sv8), (9, (.int .i64 v9)), (10, (.int .i64 v10))] [codeC Try.prog 120 [1, 0, 0], loopC Try.prog 120 [1, 0, 0], .inBlock 0] M := by
  intro N
  induction N with
  | zero =>
    intro v8 v9 v10 v0_f1 c25_0 c22 sv8 sv0_f1 b25 b22 Fr M r hv8 hv0_f1 hH h
    simp [search_envelope_1] at h
  | succ N ih =>
    intro v8 v9 v10 v0_f1 c25_0 c22 sv8 sv0_f1 b25 b22 Fr M r hv8 hv0_f1 hH h
    rw [search_envelope_1] at h
    refine Run.seq (Run.region ?_)
    refine Run.opG wantS_none (ex_lss rfl rfl) rfl ?_
    refine Run.opsEnd (Run.seq ?_)
    rcases btf ((decide (v10 < v9))) with hc28 | hc28
    · have h := bif_t hc28 h
      refine Run.condT' rfl hc28 ?_
      refine Run.skip (Run.seq (Run.block (Run.seq (Run.region ?_))))
      obtain ⟨x30, hx30, h⟩ := bnd_some h
      obtain ⟨p30, o30, _, hx30, hp30, ⟨q30_0, rfl, hq30_0⟩⟩ := sl_elem (P := Try.prog) (t := 55) (kk := .i64) hv8 hx30 els55
      refine Run.opG wantS_none (ex_elX rfl rfl hx30) rfl ?_
      refine Run.opG wantS_none (ex_loadA rfl (hH.ptrF hp30) rdLe_rfl agg83 rfl rfl rfl) rfl ?_
      refine Run.opX wantS_none rfl (ExG.new (v := fun b => .ptr b 0) (ex_alloc zer83) hH) ?_
      rintro _ M33 ⟨b32, rfl, (hH33 : Has Fr M33 [.obj b32 (.row 83 .whole [(.int .i64 0), (.int .i64 0), .nils]), .obj b25 (.row 147 .whole [(.int .i64 c25_0)]), .obj b22 (.row 58 .whole [(.int .i64 c22.Many), (.int .i64 c22.Code)])])⟩
      refine Run.opX wantS_none rfl (ExG.storeC (c' := [(.int .i64 x30.At), (.int .i64 x30.Gain), q30_0]) rfl rfl rfl hH33 (i := 0) rfl sz83 rfl rfl rfl (ones_cons rfl (ones_cons rfl (ones_cons (slc_one hq30_0) ones_nil))) rfl) ?_
      rintro _ M34 ⟨rfl, (hH34 : Has Fr M34 [.obj b32 (.row 83 .whole [(.int .i64 x30.At), (.int .i64 x30.Gain), q30_0]), .obj b25 (.row 147 .whole [(.int .i64 c25_0)]), .obj b22 (.row 58 .whole [(.int .i64 c22.Many), (.int .i64 c22.Code)])])⟩
      refine Run.opsEnd (Run.seq (Run.region ?_))
      refine Run.opG wantS_none (ex_move rfl) rfl ?_
      refine Run.opG wantS_none (ex_fieldAddr rfl off83_0) rfl ?_
      refine Run.opG wantS_none (ex_load1 rfl (hH34.cells (i := 0) rfl 0 rfl) rdLe_rfl agg3) rfl ?_
      refine Run.enter wantS_none (ex_closure rfl rfl mkk121 cal121) Try.func121 rfl rfl ?_
      refine Run.region ?_
      refine Run.opG wantS_none (ex_move rfl) rfl ?_
      refine Run.opG wantS_none (ex_move rfl) rfl ?_
      refine Run.opG wantS_none (ex_nilP rfl) rfl ?_
      refine Run.opG wantS_none (ex_load1 rfl (hH34.cells (i := 1) rfl 0 rfl) rdLe_rfl agg147) rfl ?_
      refine Run.opG wantS_none (ex_mul rfl rfl) rfl ?_
      refine Run.opG wantS_none (ex_move rfl) rfl ?_
      refine Run.opG wantS_none (ex_add rfl rfl) rfl ?_
      refine Run.opG wantS_none (ex_add rfl rfl) rfl ?_
      refine Run.opG wantS_none (ex_rem rfl rfl (by decide)) rfl ?_
      refine Run.opG wantS_none (ex_nilP rfl) rfl ?_
      refine Run.opX wantS_none rfl (ExG.storeC (c' := [(.int .i64 (Int.tmod (w64 ((w64 ((w64 (c25_0 * (48271 : Int))) + x30.At)) + (65536 : Int))) (2147483647 : Int)))]) rfl rfl rfl hH34 (i := 1) rfl sz147 rfl rfl rfl rfl rfl) ?_
      rintro _ M35 ⟨rfl, (hH35 : Has Fr M35 [.obj b32 (.row 83 .whole [(.int .i64 x30.At), (.int .i64 x30.Gain), q30_0]), .obj b25 (.row 147 .whole [(.int .i64 (Int.tmod (w64 ((w64 ((w64 (c25_0 * (48271 : Int))) + x30.At)) + (65536 : Int))) (2147483647 : Int)))]), .obj b22 (.row 58 .whole [(.int .i64 c22.Many), (.int .i64 c22.Code)])])⟩
      refine Run.opsEnd ?_
      refine Run.fallTo Try.func121 rfl res_nil rfl ?_
      refine Run.opsEnd (Run.seq (Run.region ?_))
      refine Run.opG wantS_none (ex_move rfl) rfl ?_
      refine Run.opG wantS_none (ex_fieldAddr rfl off83_1) rfl ?_
      refine Run.opG wantS_none (ex_load1 rfl (hH35.cells (i := 0) rfl 1 rfl) rdLe_rfl agg3) rfl ?_
      refine Run.enter wantS_none (ex_closure rfl rfl mkk121 cal121) Try.func121 rfl rfl ?_
      refine Run.region ?_
      refine Run.opG wantS_none (ex_move rfl) rfl ?_
      refine Run.opG wantS_none (ex_move rfl) rfl ?_
      refine Run.opG wantS_none (ex_nilP rfl) rfl ?_
      refine Run.opG wantS_none (ex_load1 rfl (hH35.cells (i := 1) rfl 0 rfl) rdLe_rfl agg147) rfl ?_
      refine Run.opG wantS_none (ex_mul rfl rfl) rfl ?_
      refine Run.opG wantS_none (ex_move rfl) rfl ?_
      refine Run.opG wantS_none (ex_add rfl rfl) rfl ?_
      refine Run.opG wantS_none (ex_add rfl rfl) rfl ?_
      refine Run.opG wantS_none (ex_rem rfl rfl (by decide)) rfl ?_
      refine Run.opG wantS_none (ex_nilP rfl) rfl ?_
      refine Run.opX wantS_none rfl (ExG.storeC (c' := [(.int .i64 (Int.tmod (w64 ((w64 ((w64 ((Int.tmod (w64 ((w64 ((w64 (c25_0 * (48271 : Int))) + x30.At)) + (65536 : Int))) (2147483647 : Int)) * (48271 : Int))) + x30.Gain)) + (65536 : Int))) (2147483647 : Int)))]) rfl rfl rfl hH35 (i := 1) rfl sz147 rfl rfl rfl rfl rfl) ?_
      rintro _ M36 ⟨rfl, (hH36 : Has Fr M36 [.obj b32 (.row 83 .whole [(.int .i64 x30.At), (.int .i64 x30.Gain), q30_0]), .obj b25 (.row 147 .whole [(.int .i64 (Int.tmod (w64 ((w64 ((w64 ((Int.tmod (w64 ((w64 ((w64 (c25_0 * (48271 : Int))) + x30.At)) + (65536 : Int))) (2147483647 : Int)) * (48271 : Int))) + x30.Gain)) + (65536 : Int))) (2147483647 : Int)))]), .obj b22 (.row 58 .whole [(.int .i64 c22.Many), (.int .i64 c22.Code)])])⟩
      refine Run.opsEnd ?_
      refine Run.fallTo Try.func121 rfl res_nil rfl ?_
      refine Run.opsEnd (Run.seq (Run.region ?_))
      refine Run.opG wantS_none (ex_move rfl) rfl ?_
      refine Run.opG wantS_none (ex_fieldAddr rfl off83_2) rfl ?_
      refine Run.opG wantS_none (ex_load1 rfl (hH36.cells (i := 0) rfl 2 rfl) rdLe_rfl agg38) rfl ?_
      refine Run.opG wantS_none (ex_len' rfl hq30_0 lenk38) rfl ?_
      refine Run.enter wantS_none (ex_closure rfl rfl mkk121 cal121) Try.func121 rfl rfl ?_
      refine Run.region ?_
      refine Run.opG wantS_none (ex_move rfl) rfl ?_
      refine Run.opG wantS_none (ex_move rfl) rfl ?_
      refine Run.opG wantS_none (ex_nilP rfl) rfl ?_
      refine Run.opG wantS_none (ex_load1 rfl (hH36.cells (i := 1) rfl 0 rfl) rdLe_rfl agg147) rfl ?_
      refine Run.opG wantS_none (ex_mul rfl rfl) rfl ?_
      refine Run.opG wantS_none (ex_move rfl) rfl ?_
      refine Run.opG wantS_none (ex_add rfl rfl) rfl ?_
      refine Run.opG wantS_none (ex_add rfl rfl) rfl ?_
      refine Run.opG wantS_none (ex_rem rfl rfl (by decide)) rfl ?_
      refine Run.opG wantS_none (ex_nilP rfl) rfl ?_
      refine Run.opX wantS_none rfl (ExG.storeC (c' := [(.int .i64 (Int.tmod (w64 ((w64 ((w64 ((Int.tmod (w64 ((w64 ((w64 ((Int.tmod (w64 ((w64 ((w64 (c25_0 * (48271 : Int))) + x30.At)) + (65536 : Int))) (2147483647 : Int)) * (48271 : Int))) + x30.Gain)) + (65536 : Int))) (2147483647 : Int)) * (48271 : Int))) + (x30.Samples.length : Int))) + (65536 : Int))) (2147483647 : Int)))]) rfl rfl rfl hH36 (i := 1) rfl sz147 rfl rfl rfl rfl rfl) ?_
      rintro _ M37 ⟨rfl, (hH37 : Has Fr M37 [.obj b32 (.row 83 .whole [(.int .i64 x30.At), (.int .i64 x30.Gain), q30_0]), .obj b25 (.row 147 .whole [(.int .i64 (Int.tmod (w64 ((w64 ((w64 ((Int.tmod (w64 ((w64 ((w64 ((Int.tmod (w64 ((w64 ((w64 (c25_0 * (48271 : Int))) + x30.At)) + (65536 : Int))) (2147483647 : Int)) * (48271 : Int))) + x30.Gain)) + (65536 : Int))) (2147483647 : Int)) * (48271 : Int))) + (x30.Samples.length : Int))) + (65536 : Int))) (2147483647 : Int)))]), .obj b22 (.row 58 .whole [(.int .i64 c22.Many), (.int .i64 c22.Code)])])⟩
      refine Run.opsEnd ?_
      refine Run.fallTo Try.func121 rfl res_nil rfl ?_
      refine Run.opsEnd (Run.seq (Run.region ?_))
      refine Run.opG wantS_none (ex_fieldAddr rfl off83_2) rfl ?_
      refine Run.opG wantS_none (ex_load1 rfl (hH37.cells (i := 0) rfl 2 rfl) rdLe_rfl agg38) rfl ?_
      refine Run.opG wantS_none (ex_len' rfl hq30_0 lenk38) rfl ?_
      refine Run.opG wantS_none (ex_move rfl) rfl ?_
      refine Run.opsEnd (Run.block (Run.loop ?_))
      exact Run.low (.cons (fle_pick [0, 4, 5] rfl) .nil) (Run.pick [1, 8, 9, 10, 28, 29, 30] (search_envelope_2_ok F (search_envelope_1 F N) ih F v8 v9 v10 x30.Samples (x30.Samples.length : Int) (0 : Int) v0_f1 (Int.tmod (w64 ((w64 ((w64 ((Int.tmod (w64 ((w64 ((w64 ((Int.tmod (w64 ((w64 ((w64 (c25_0 * (48271 : Int))) + x30.At)) + (65536 : Int))) (2147483647 : Int)) * (48271 : Int))) + x30.Gain)) + (65536 : Int))) (2147483647 : Int)) * (48271 : Int))) + (x30.Samples.length : Int))) + (65536 : Int))) (2147483647 : Int)) c22 sv8 q30_0 sv0_f1 b25 b22 _ _ _ hv8 hq30_0 hv0_f1 (hH37.pick [1, 2] rfl rfl) h))
    · have h := bif_f hc28 h
      refine Run.condF' rfl hc28 ?_
      refine Run.exit rfl ?_
      refine Run.fallTo Try.func120 rfl res_nil rfl ?_
      refine Run.opsEnd (Run.seq (Run.region ?_))
      refine Run.opG wantS_none (ex_move rfl) rfl ?_
      refine Run.opG wantS_none (ex_len' rfl hv0_f1 lenk55) rfl ?_
      refine Run.opG wantS_none (ex_load1 rfl (hH.cells (i := 0) rfl 0 rfl) rdLe_rfl agg147) rfl ?_
      refine Run.opG wantS_none (ex_build (r := [(.int .i64 (v0_f1.length : Int)), (.int .i64 c25_0)]) rfl zer58 pls58 rfl) rfl ?_
      refine Run.opX wantS_none rfl (ExG.storeC (c' := [(.int .i64 (v0_f1.length : Int)), (.int .i64 c25_0)]) rfl rfl rfl hH (i := 1) rfl sz58 rfl rfl rfl rfl rfl) ?_
      rintro _ M42 ⟨rfl, (hH42 : Has Fr M42 [.obj b25 (.row 147 .whole [(.int .i64 c25_0)]), .obj b22 (.row 58 .whole [(.int .i64 (v0_f1.length : Int)), (.int .i64 c25_0)])])⟩
      refine Run.opsEnd ?_
      cases h
      exact Run.ret Try.func87 rfl (res_cell rfl (x_load (ex_loadA rfl (hH42.cells (i := 1) rfl 0 rfl) rdLe_rfl agg58 rfl rfl rfl)) res_nil) rfl

def search_envelope (F : Nat) (a0 : (List S_api_Wave)) (a1 : Int) : Option (S_api_Envelope) :=
  search_envelope_1 F F a0 (a0.length : Int) (0 : Int) a0 (w64 (a1 + (1 : Int))) (S_api_Envelope.mk 0 0)

theorem search_envelope_ok (F : Nat) (a0 : (List S_api_Wave)) (a1 : Int) (s0 : SV) (r : S_api_Envelope) (M : Mem) (hs0 : Slc (rd M) 3 (rep83 (rd M)) s0 a0) (h : search_envelope F a0 a1 = some r) : CallsM Try.prog 87 [s0, (.int .i64 a1)] M (fun s M' => s = (.agg [(.int .i64 r.Many), (.int .i64 r.Code)]) ∧ M' = M) := by
  refine CallsM.plain Try.func87 rfl rfl rfl (show Run _ _ _ (search_envelope_post r) _ _ _ from ?_)
  rw [search_envelope] at h
  replace hs0 := hs0.mono (rdLe_frozen M) (fun _ _ => rep83_mo (rdLe_frozen M))
  have hH := Has.nil (frozen M)
  refine Run.seq (Run.region ?_)
  refine Run.opX wantS_none rfl (ExG.new (v := fun b => .ptr b 0) (ex_alloc zer58) hH) ?_
  rintro _ M23 ⟨b22, rfl, (hH23 : Has (ro (frozen M)) M23 [.obj b22 (.row 58 .whole [(.int .i64 0), (.int .i64 0)])])⟩
  refine Run.opsEnd (Run.seq (Run.region ?_))
  refine Run.opG wantS_none (ex_move rfl) rfl ?_
  refine Run.opG wantS_none (ex_add rfl rfl) rfl ?_
  refine Run.opX wantS_none rfl (ExG.new (v := fun b => .ptr b 0) (ex_alloc zer147) hH23) ?_
  rintro _ M26 ⟨b25, rfl, (hH26 : Has (ro (frozen M)) M26 [.obj b25 (.row 147 .whole [(.int .i64 0)]), .obj b22 (.row 58 .whole [(.int .i64 0), (.int .i64 0)])])⟩
  refine Run.opX wantS_none rfl (ExG.storeC (c' := [(.int .i64 (w64 (a1 + (1 : Int))))]) rfl rfl rfl hH26 (i := 0) rfl sz147 rfl rfl rfl rfl rfl) ?_
  rintro _ M27 ⟨rfl, (hH27 : Has (ro (frozen M)) M27 [.obj b25 (.row 147 .whole [(.int .i64 (w64 (a1 + (1 : Int))))]), .obj b22 (.row 58 .whole [(.int .i64 0), (.int .i64 0)])])⟩
  refine Run.opsEnd (Run.seq (Run.region ?_))
  refine Run.opG wantS_none (ex_move rfl) rfl ?_
  refine Run.opG wantS_none (ex_makeFunc rfl rfl) rfl ?_
  refine Run.enter wantS_none (ex_call rfl mkk120 cal120) Try.func120 rfl rfl ?_
  refine Run.seq (Run.region ?_)
  refine Run.opG wantS_none (ex_move rfl) rfl ?_
  refine Run.opG wantS_none (ex_len' rfl hs0 lenk55) rfl ?_
  refine Run.opG wantS_none (ex_move rfl) rfl ?_
  refine Run.opsEnd (Run.block (Run.loop ?_))
  exact Run.low (.cons (fle_pick [0, 4, 5] rfl) .nil) (Run.pick [1, 8, 9, 10] (search_envelope_1_ok F F a0 (a0.length : Int) (0 : Int) a0 (w64 (a1 + (1 : Int))) (S_api_Envelope.mk 0 0) s0 s0 b25 b22 _ _ _ hs0 hs0 hH27 h))

theorem mkk87 : makeK Try.prog 87 = none := by kernel_rfl
theorem cal87 : callable Try.prog 87 = true := by kernel_rfl
abbrev search_Seal_post (r : S_api_Envelope × Int) : SV → Mem → Prop := fun s _ => s = (.tuple [(.agg [(.int .i64 r.1.Many), (.int .i64 r.1.Code)]), (.int .i64 r.2)])

def search_Seal (F : Nat) (a0 : (List Int)) (a1 : (List S_api_Wave)) (a2 : Int) : Option (S_api_Envelope × Int) :=
  bnd (search_checkSeal F a0 a1 a2) fun r25 =>
  bif (!(r25 == (0 : Int))) then
    some ((S_api_Envelope.mk 0 0), r25)
  else
    bnd (search_envelope F a1 a2) fun r30 =>
    some (r30, (0 : Int))

theorem search_Seal_ok (F : Nat) (a0 : (List Int)) (a1 : (List S_api_Wave)) (a2 : Int) (s0 s1 : SV) (r : S_api_Envelope × Int) (M : Mem) (hs0 : Slc (rd M) 1 (FlatR enc3) s0 a0) (hs1 : Slc (rd M) 3 (rep83 (rd M)) s1 a1) (h : search_Seal F a0 a1 a2 = some r) : CallsM Try.prog 41 [s0, s1, (.int .i64 a2)] M (fun s M' => s = (.tuple [(.agg [(.int .i64 r.1.Many), (.int .i64 r.1.Code)]), (.int .i64 r.2)]) ∧ M' = M) := by
  refine CallsM.plain Try.func41 rfl rfl rfl (show Run _ _ _ (search_Seal_post r) _ _ _ from ?_)
  rw [search_Seal] at h
  replace hs0 := hs0.mono (rdLe_frozen M) (fun _ _ h => h)
  replace hs1 := hs1.mono (rdLe_frozen M) (fun _ _ => rep83_mo (rdLe_frozen M))
  have hH := Has.nil (frozen M)
  refine Run.seq (Run.region ?_)
  refine Run.opX wantS_none rfl (ExG.new (v := fun b => .ptr b 0) (ex_alloc zer58) hH) ?_
  rintro _ M23 ⟨b22, rfl, (hH23 : Has (ro (frozen M)) M23 [.obj b22 (.row 58 .whole [(.int .i64 0), (.int .i64 0)])])⟩
  refine Run.opG wantS_none (ex_assign rfl) rfl ?_
  refine Run.opsEnd (Run.seq (Run.seq (Run.region ?_)))
  refine Run.opG wantS_none (ex_move rfl) rfl ?_
  refine Run.opG wantS_none (ex_move rfl) rfl ?_
  refine Run.opG wantS_none (ex_move rfl) rfl ?_
  obtain ⟨r25, hr25, h⟩ := bnd_some h
  refine Run.callP wantS_none (ex_call rfl mkk86 cal86) rfl (search_checkSeal_ok F a0 a1 a2 s0 s1 _ _ (hH23.slcF hs0) ((hs1).mono hH23.le (fun _ _ => rep83_mo hH23.le)) hr25) ?_
  refine Run.opG wantS_none (ex_assign rfl) rfl ?_
  refine Run.opsEnd (Run.seq (Run.region ?_))
  refine Run.opG wantS_none (ex_move rfl) rfl ?_
  refine Run.opG wantS_none (ex_neq rfl rfl) rfl ?_
  refine Run.opsEnd ?_
  rcases btf ((!(r25 == (0 : Int)))) with hc27 | hc27
  · have h := bif_t hc27 h
    refine Run.condT' rfl hc27 ?_
    refine Run.seq (Run.region ?_)
    refine Run.opG wantS_none (ex_build (r := [(.int .i64 0), (.int .i64 0)]) rfl zer58 pls58 rfl) rfl ?_
    refine Run.opG wantS_none (ex_move rfl) rfl ?_
    refine Run.opX wantS_none rfl (ExG.storeC (c' := [(.int .i64 0), (.int .i64 0)]) rfl rfl rfl hH23 (i := 0) rfl sz58 rfl rfl rfl rfl rfl) ?_
    rintro _ M28 ⟨rfl, (hH28 : Has (ro (frozen M)) M28 [.obj b22 (.row 58 .whole [(.int .i64 0), (.int .i64 0)])])⟩
    refine Run.opG wantS_none (ex_assign rfl) rfl ?_
    refine Run.opsEnd ?_
    cases h
    exact Run.ret Try.func41 rfl (res_cell rfl (x_load (ex_loadA rfl (hH28.cells (i := 0) rfl 0 rfl) rdLe_rfl agg58 rfl rfl rfl)) (res_tmp rfl res_nil)) rfl
  · have h := bif_f hc27 h
    refine Run.condF' rfl hc27 ?_
    refine Run.skip (Run.seq (Run.region ?_))
    refine Run.opG wantS_none (ex_move rfl) rfl ?_
    refine Run.opG wantS_none (ex_move rfl) rfl ?_
    obtain ⟨r30, hr30, h⟩ := bnd_some h
    refine Run.callP wantS_none (ex_call rfl mkk87 cal87) rfl (search_envelope_ok F a1 a2 s1 _ _ ((hs1).mono hH23.le (fun _ _ => rep83_mo hH23.le)) hr30) ?_
    refine Run.opX wantS_none rfl (ExG.storeC (c' := [(.int .i64 r30.Many), (.int .i64 r30.Code)]) rfl rfl rfl hH23 (i := 0) rfl sz58 rfl rfl rfl rfl rfl) ?_
    rintro _ M32 ⟨rfl, (hH32 : Has (ro (frozen M)) M32 [.obj b22 (.row 58 .whole [(.int .i64 r30.Many), (.int .i64 r30.Code)])])⟩
    refine Run.opG wantS_none (ex_assign rfl) rfl ?_
    refine Run.opsEnd ?_
    cases h
    exact Run.ret Try.func41 rfl (res_cell rfl (x_load (ex_loadA rfl (hH32.cells (i := 0) rfl 0 rfl) rdLe_rfl agg58 rfl rfl rfl)) (res_tmp rfl res_nil)) rfl

theorem mkk41 : makeK Try.prog 41 = none := by kernel_rfl
theorem cal41 : callable Try.prog 41 = true := by kernel_rfl
abbrev ref08_next_post (r : Int) : SV → Mem → Prop := fun s _ => s = (.int .i64 r)

def ref08_next (F : Nat) (a0 : Int) (a1 : Int) : Option (Int) :=
  some (Int.tmod (w64 ((w64 ((w64 (a0 * (48271 : Int))) + a1)) + (65536 : Int))) (2147483647 : Int))

theorem ref08_next_ok (F : Nat) (a0 : Int) (a1 : Int) (r : Int) (M : Mem) (h : ref08_next F a0 a1 = some r) : CallsM Try.prog 122 [(.int .i64 a0), (.int .i64 a1)] M (fun s M' => s = (.int .i64 r) ∧ M' = M) := by
  refine CallsM.plain Try.func122 rfl rfl rfl (show Run _ _ _ (ref08_next_post r) _ _ _ from ?_)
  rw [ref08_next] at h
  have hH := Has.nil (frozen M)
  refine Run.seq (Run.region ?_)
  refine Run.opG wantS_none (ex_assign rfl) rfl ?_
  refine Run.opsEnd (Run.seq (Run.region ?_))
  refine Run.opG wantS_none (ex_move rfl) rfl ?_
  refine Run.opG wantS_none (ex_mul rfl rfl) rfl ?_
  refine Run.opG wantS_none (ex_move rfl) rfl ?_
  refine Run.opG wantS_none (ex_add rfl rfl) rfl ?_
  refine Run.opG wantS_none (ex_add rfl rfl) rfl ?_
  refine Run.opG wantS_none (ex_rem rfl rfl (by decide)) rfl ?_
  refine Run.opG wantS_none (ex_assign rfl) rfl ?_
  refine Run.opsEnd ?_
  cases h
  exact Run.ret Try.func122 rfl (res_tmp rfl res_nil) rfl

theorem mkk122 : makeK Try.prog 122 = none := by kernel_rfl
theorem cal122 : callable Try.prog 122 = true := by kernel_rfl
theorem plan88_1_1_0_1_0_0_1_0_0_1_0 : planOf Try.prog (opsC (atC Try.prog 88 [1, 1, 0, 1, 0, 0, 1, 0, 0, 1, 0])) = some [.fl 0, .fl 1, .fl 2, .fl 4, .fl 5, .fl 7, .fl 8, .fl 9, .an 3 [9, 8, 7, 5, 4], .an 6 [9, 8, 7], .an 10 [], .an 11 [], .sync] := by kernel_rfl
abbrev ref08_envelope_post (r : S_api_Envelope) : SV → Mem → Prop := fun s _ => s = (.agg [(.int .i64 r.Many), (.int .i64 r.Code)])

def ref08_envelope_2 (F : Nat) (hd1 : (List S_api_Wave) → Int → Int → S_api_Envelope → Option (S_api_Envelope)) : Nat → (List S_api_Wave) → Int → Int → Int → S_api_Envelope → Int → Int → (List Int) → Option (S_api_Envelope)
  | 0, _, _, _, _, _, _, _, _ => none
  | N + 1, v0, v5, v6, v8, c22, c28_0, c28_1, c28_2 =>
    bif (decide (v8 < (c28_2.length : Int))) then
      bnd (idx c28_2 v8) fun x39 =>
      bnd (ref08_next F v5 x39) fun r41 =>
      (ref08_envelope_2 F hd1 N) v0 r41 v6 (w64 (v8 + (1 : Int))) c22 c28_0 c28_1 c28_2
    else
      hd1 v0 v5 (w64 (v6 + (1 : Int))) c22

theorem ref08_envelope_2_ok (F : Nat) (hd1 : (List S_api_Wave) → Int → Int → S_api_Envelope → Option (S_api_Envelope)) (hhd1 : ∀ (v0 : (List S_api_Wave)) (v5 : Int) (v6 : Int) (c22 : S_api_Envelope) (sv0 : SV) (b22 : Pos) (Fr : Rd) (M : Mem) (r : S_api_Envelope) (hv0 : Slc Fr 3 (rep83 Fr) sv0 v0) (hH : Has Fr M [.obj b22 (.row 58 .whole [(.int .i64 c22.Many), (.int .i64 c22.Code)])]), hd1 v0 v5 v6 c22 = some r → Run Try.prog ⟨⟨88, [], none⟩, []⟩ 50 (ref08_envelope_post r) [(0, sv0), (4, (.ptr b22 0)), (5, (.int .i64 v5)), (6, (.int .i64 v6))] [codeC Try.prog 88 [1, 1, 0, 1, 0, 0], loopC Try.prog 88 [1, 1, 0, 1, 0, 0], .inBlock 0, codeC Try.prog 88 [1, 1, 1]] M) : ∀ (N : Nat), ∀ (v0 : (List S_api_Wave)) (v5 : Int) (v6 : Int) (v8 : Int) (c22 : S_api_Envelope) (c28_0 : Int) (c28_1 : Int) (c28_2 : (List Int)) (sv0 : SV) (sc28_2 : SV) (b22 : Pos) (b28 : Pos) (Fr : Rd) (M : Mem) (r : S_api_Envelope) (hv0 : Slc Fr 3 (rep83 Fr) sv0 v0) (hc28_2 : Slc Fr 1 (FlatR enc3) sc28_2 c28_2) (hH : Has Fr M [.obj b22 (.row 58 .whole [(.int .i64 c22.Many), (.int .i64 c22.Code)]), .obj b28 (.row 83 .whole [(.int .i64 c28_0), (.int .i64 c28_1), sc28_2])]), ref08_envelope_2 F hd1 N v0 v5 v6 v8 c22 c28_0 c28_1 c28_2 = some r → Run Try.prog ⟨⟨88, [], none⟩, []⟩ 50 (ref08_envelope_post r) [(0, sv0), (4, (.ptr b22 0)), (5, (.int .i64 v5)), (6, (.int .i64 v6)), (7, (.ptr b28 0)), (8, (.int .i64 v8))] [codeC Try.prog 88 [1, 1, 0, 1, 0, 0, 1, 0, 0, 1, 1, 1, 0, 0], loopC Try.prog 88 [1, 1, 0, 1, 0, 0, 1, 0, 0, 1, 1, 1, 0, 0], .inBlock 2, .inBlock 1, codeC Try.prog 88 [1, 1, 0, 1, 0, 0, 1, 1], loopC Try.prog 88 [1, 1, 0, 1, 0, 0], .inBlock 0, codeC Try.prog 88 [1, 1, 1]] M := by
  intro N
  induction N with
  | zero =>
    intro v0 v5 v6 v8 c22 c28_0 c28_1 c28_2 sv0 sc28_2 b22 b28 Fr M r hv0 hc28_2 hH h
    simp [ref08_envelope_2] at h
  | succ N ih =>
    intro v0 v5 v6 v8 c22 c28_0 c28_1 c28_2 sv0 sc28_2 b22 b28 Fr M r hv0 hc28_2 hH h
    rw [ref08_envelope_2] at h
    refine Run.seq (Run.seq (Run.region ?_))
    refine Run.opG wantS_none (ex_move rfl) rfl ?_
    refine Run.opG wantS_none (ex_fieldAddr rfl off83_2) rfl ?_
    refine Run.opG wantS_none (ex_load1 rfl (hH.cells (i := 1) rfl 2 rfl) rdLe_rfl agg38) rfl ?_
    refine Run.opG wantS_none (ex_len' rfl hc28_2 lenk38) rfl ?_
    refine Run.opG wantS_none (ex_lss rfl rfl) rfl ?_
    refine Run.opsEnd ?_
    rcases btf ((decide (v8 < (c28_2.length : Int)))) with hc37 | hc37
    · have h := bif_t hc37 h
      refine Run.condT' rfl hc37 ?_
      refine Run.skip (Run.seq (Run.block (Run.region ?_)))
      refine Run.opG wantS_none (ex_move rfl) rfl ?_
      refine Run.opG wantS_none (ex_fieldAddr rfl off83_2) rfl ?_
      refine Run.opG wantS_none (ex_load1 rfl (hH.cells (i := 1) rfl 2 rfl) rdLe_rfl agg38) rfl ?_
      refine Run.opG wantS_none (ex_move rfl) rfl ?_
      obtain ⟨x39, hx39, h⟩ := bnd_some h
      obtain ⟨p39, o39, _, hx39, hp39, rfl⟩ := sl_elem (P := Try.prog) (t := 38) (kk := .i64) hc28_2 hx39 els38
      refine Run.opG wantS_none (ex_elX rfl rfl hx39) rfl ?_
      refine Run.opG wantS_none (ex_load1 rfl (hH.ptrF hp39) rdLe_rfl agg3) rfl ?_
      obtain ⟨r41, hr41, h⟩ := bnd_some h
      refine Run.callP wantS_none (ex_call rfl mkk122 cal122) rfl (ref08_next_ok F v5 x39 _ _ hr41) ?_
      refine Run.opG wantS_none (ex_assign rfl) rfl ?_
      refine Run.opsEnd (Run.inBlock (Run.region ?_))
      refine Run.opG wantS_none (ex_move rfl) rfl ?_
      refine Run.opG wantS_none (ex_add rfl rfl) rfl ?_
      refine Run.opG wantS_none (ex_assign rfl) rfl ?_
      refine Run.opsEnd (Run.inLoop ?_)
      exact Run.pick [0, 4, 5, 6, 7, 8] (ih v0 r41 v6 (w64 (v8 + (1 : Int))) c22 c28_0 c28_1 c28_2 sv0 sc28_2 b22 b28 _ _ _ hv0 hc28_2 hH h)
    · have h := bif_f hc37 h
      refine Run.condF' rfl hc37 ?_
      refine Run.exit rfl (Run.inBlock (Run.region ?_))
      refine Run.opG wantS_none (ex_move rfl) rfl ?_
      refine Run.opG wantS_none (ex_add rfl rfl) rfl ?_
      refine Run.opG wantS_none (ex_assign rfl) rfl ?_
      refine Run.opsEnd (Run.inLoop ?_)
      exact Run.pick [0, 4, 5, 6] (hhd1 v0 v5 (w64 (v6 + (1 : Int))) c22 sv0 b22 _ _ _ hv0 (hH.pick [0] rfl rfl) h)

def ref08_envelope_1 (F : Nat) : Nat → (List S_api_Wave) → Int → Int → S_api_Envelope → Option (S_api_Envelope)
  | 0, _, _, _, _ => none
  | N + 1, v0, v5, v6, c22 =>
    bif (decide (v6 < (v0.length : Int))) then
      bnd (idx v0 v6) fun x26 =>
      bnd (ref08_next F v5 x26.At) fun r31 =>
      bnd (ref08_next F r31 x26.Gain) fun r33 =>
      bnd (ref08_next F r33 (x26.Samples.length : Int)) fun r35 =>
      ref08_envelope_2 F (ref08_envelope_1 F N) F v0 r35 v6 (0 : Int) c22 x26.At x26.Gain x26.Samples
    else
      some (S_api_Envelope.mk (v0.length : Int) v5)

theorem ref08_envelope_1_ok (F : Nat) : ∀ (N : Nat), ∀ (v0 : (List S_api_Wave)) (v5 : Int) (v6 : Int) (c22 : S_api_Envelope) (sv0 : SV) (b22 : Pos) (Fr : Rd) (M : Mem) (r : S_api_Envelope) (hv0 : Slc Fr 3 (rep83 Fr) sv0 v0) (hH : Has Fr M [.obj b22 (.row 58 .whole [(.int .i64 c22.Many), (.int .i64 c22.Code)])]), ref08_envelope_1 F N v0 v5 v6 c22 = some r → Run Try.prog ⟨⟨88, [], none⟩, []⟩ 50 (ref08_envelope_post r) [(0, sv0), (4, (.ptr b22 0)), (5, (.int .i64 v5)), (6, (.int .i64 v6))] [codeC Try.prog 88 [1, 1, 0, 1, 0, 0], loopC Try.prog 88 [1, 1, 0, 1, 0, 0], .inBlock 0, codeC Try.prog 88 [1, 1, 1]] M := by
  intro N
  induction N with
  | zero =>
    intro v0 v5 v6 c22 sv0 b22 Fr M r hv0 hH h
    simp [ref08_envelope_1] at h
  | succ N ih =>
    intro v0 v5 v6 c22 sv0 b22 Fr M r hv0 hH h
    rw [ref08_envelope_1] at h
    refine Run.seq (Run.seq (Run.region ?_))
    refine Run.opG wantS_none (ex_move rfl) rfl ?_
    refine Run.opG wantS_none (ex_move rfl) rfl ?_
    refine Run.opG wantS_none (ex_len' rfl hv0 lenk55) rfl ?_
    refine Run.opG wantS_none (ex_lss rfl rfl) rfl ?_
    refine Run.opsEnd ?_
    rcases btf ((decide (v6 < (v0.length : Int)))) with hc24 | hc24
    · have h := bif_t hc24 h
      refine Run.condT' rfl hc24 ?_
      refine Run.skip (Run.seq (Run.block (Run.seq (Run.region ?_))))
      refine Run.opG wantS_none (ex_move rfl) rfl ?_
      refine Run.opG wantS_none (ex_move rfl) rfl ?_
      obtain ⟨x26, hx26, h⟩ := bnd_some h
      obtain ⟨p26, o26, _, hx26, hp26, ⟨q26_0, rfl, hq26_0⟩⟩ := sl_elem (P := Try.prog) (t := 55) (kk := .i64) hv0 hx26 els55
      refine Run.opG wantS_none (ex_elX rfl rfl hx26) rfl ?_
      refine Run.opG wantS_none (ex_loadA rfl (hH.ptrF hp26) rdLe_rfl agg83 rfl rfl rfl) rfl ?_
      refine Run.opX wantS_none rfl (ExG.new (v := fun b => .ptr b 0) (ex_alloc zer83) hH) ?_
      rintro _ M29 ⟨b28, rfl, (hH29 : Has Fr M29 [.obj b28 (.row 83 .whole [(.int .i64 0), (.int .i64 0), .nils]), .obj b22 (.row 58 .whole [(.int .i64 c22.Many), (.int .i64 c22.Code)])])⟩
      refine Run.opX wantS_none rfl (ExG.storeC (c' := [(.int .i64 x26.At), (.int .i64 x26.Gain), q26_0]) rfl rfl rfl hH29 (i := 0) rfl sz83 rfl rfl rfl (ones_cons rfl (ones_cons rfl (ones_cons (slc_one hq26_0) ones_nil))) rfl) ?_
      rintro _ M30 ⟨rfl, (hH30 : Has Fr M30 [.obj b28 (.row 83 .whole [(.int .i64 x26.At), (.int .i64 x26.Gain), q26_0]), .obj b22 (.row 58 .whole [(.int .i64 c22.Many), (.int .i64 c22.Code)])])⟩
      refine Run.opsEnd (Run.seq ?_)
      refine Run.drawG plan88_1_1_0_1_0_0_1_0_0_1_0 ?_
      refine DrawG.fl rfl (ev_ex wantS_none (ex_move rfl)) rfl ?_
      refine DrawG.fl rfl (ev_ex wantS_none (ex_fieldAddr rfl off83_0)) rfl ?_
      refine DrawG.fl rfl (ev_ex wantS_none (ex_load1 rfl (hH30.cells (i := 0) rfl 0 rfl) rdLe_rfl agg3)) rfl ?_
      refine DrawG.fl rfl (ev_ex wantS_none (ex_fieldAddr rfl off83_1)) rfl ?_
      refine DrawG.fl rfl (ev_ex wantS_none (ex_load1 rfl (hH30.cells (i := 0) rfl 1 rfl) rdLe_rfl agg3)) rfl ?_
      refine DrawG.fl rfl (ev_ex wantS_none (ex_fieldAddr rfl off83_2)) rfl ?_
      refine DrawG.fl rfl (ev_ex wantS_none (ex_load1 rfl (hH30.cells (i := 0) rfl 2 rfl) rdLe_rfl agg38)) rfl ?_
      refine DrawG.fl rfl (ev_ex wantS_none (ex_len' rfl hq26_0 lenk38)) rfl ?_
      obtain ⟨r31, hr31, h⟩ := bnd_some h
      refine DrawG.callP rfl wantS_none (ex_call rfl mkk122 cal122) rfl (ref08_next_ok F v5 x26.At _ _ hr31) (st_cons rfl (ev_ex wantS_none (ex_len' rfl hq26_0 lenk38)) rfl rfl rfl (st_cons rfl (ev_ex wantS_none (ex_load1 rfl (hH30.cells (i := 0) rfl 2 rfl) rdLe_rfl agg38)) rfl rfl (slc_self hq26_0) (st_cons rfl (ev_ex wantS_none (ex_fieldAddr rfl off83_2)) rfl rfl rfl (st_cons rfl (ev_ex wantS_none (ex_load1 rfl (hH30.cells (i := 0) rfl 1 rfl) rdLe_rfl agg3)) rfl rfl rfl (st_cons rfl (ev_ex wantS_none (ex_fieldAddr rfl off83_1)) rfl rfl rfl st_nil))))) ?_
      obtain ⟨r33, hr33, h⟩ := bnd_some h
      refine DrawG.callP rfl wantS_none (ex_call rfl mkk122 cal122) rfl (ref08_next_ok F r31 x26.Gain _ _ hr33) (st_cons rfl (ev_ex wantS_none (ex_len' rfl hq26_0 lenk38)) rfl rfl rfl (st_cons rfl (ev_ex wantS_none (ex_load1 rfl (hH30.cells (i := 0) rfl 2 rfl) rdLe_rfl agg38)) rfl rfl (slc_self hq26_0) (st_cons rfl (ev_ex wantS_none (ex_fieldAddr rfl off83_2)) rfl rfl rfl st_nil))) ?_
      obtain ⟨r35, hr35, h⟩ := bnd_some h
      refine DrawG.callP rfl wantS_none (ex_call rfl mkk122 cal122) rfl (ref08_next_ok F r33 (x26.Samples.length : Int) _ _ hr35) st_nil ?_
      refine DrawG.val rfl wantS_none (ex_assign rfl) rfl st_nil ?_
      refine DrawG.sync ?_
      refine DrawG.nil ?_
      refine Run.seq (Run.region ?_)
      refine Run.opG wantS_none (ex_assign rfl) rfl ?_
      refine Run.opsEnd (Run.block (Run.loop ?_))
      exact Run.pick [0, 4, 5, 6, 7, 8] (ref08_envelope_2_ok F (ref08_envelope_1 F N) ih F v0 r35 v6 (0 : Int) c22 x26.At x26.Gain x26.Samples sv0 q26_0 b22 b28 _ _ _ hv0 hq26_0 (hH30.pick [1, 0] rfl rfl) h)
    · have h := bif_f hc24 h
      refine Run.condF' rfl hc24 ?_
      refine Run.exit rfl (Run.seq (Run.region ?_))
      refine Run.opG wantS_none (ex_move rfl) rfl ?_
      refine Run.opG wantS_none (ex_len' rfl hv0 lenk55) rfl ?_
      refine Run.opG wantS_none (ex_move rfl) rfl ?_
      refine Run.opG wantS_none (ex_build (r := [(.int .i64 (v0.length : Int)), (.int .i64 v5)]) rfl zer58 pls58 rfl) rfl ?_
      refine Run.opX wantS_none rfl (ExG.storeC (c' := [(.int .i64 (v0.length : Int)), (.int .i64 v5)]) rfl rfl rfl hH (i := 0) rfl sz58 rfl rfl rfl rfl rfl) ?_
      rintro _ M43 ⟨rfl, (hH43 : Has Fr M43 [.obj b22 (.row 58 .whole [(.int .i64 (v0.length : Int)), (.int .i64 v5)])])⟩
      refine Run.opsEnd ?_
      cases h
      exact Run.ret Try.func88 rfl (res_cell rfl (x_load (ex_loadA rfl (hH43.cells (i := 0) rfl 0 rfl) rdLe_rfl agg58 rfl rfl rfl)) res_nil) rfl

def ref08_envelope (F : Nat) (a0 : (List S_api_Wave)) (a1 : Int) : Option (S_api_Envelope) :=
  ref08_envelope_1 F F a0 (w64 (a1 + (1 : Int))) (0 : Int) (S_api_Envelope.mk 0 0)

theorem ref08_envelope_ok (F : Nat) (a0 : (List S_api_Wave)) (a1 : Int) (s0 : SV) (r : S_api_Envelope) (M : Mem) (hs0 : Slc (rd M) 3 (rep83 (rd M)) s0 a0) (h : ref08_envelope F a0 a1 = some r) : CallsM Try.prog 88 [s0, (.int .i64 a1)] M (fun s M' => s = (.agg [(.int .i64 r.Many), (.int .i64 r.Code)]) ∧ M' = M) := by
  refine CallsM.plain Try.func88 rfl rfl rfl (show Run _ _ _ (ref08_envelope_post r) _ _ _ from ?_)
  rw [ref08_envelope] at h
  replace hs0 := hs0.mono (rdLe_frozen M) (fun _ _ => rep83_mo (rdLe_frozen M))
  have hH := Has.nil (frozen M)
  refine Run.seq (Run.region ?_)
  refine Run.opX wantS_none rfl (ExG.new (v := fun b => .ptr b 0) (ex_alloc zer58) hH) ?_
  rintro _ M23 ⟨b22, rfl, (hH23 : Has (ro (frozen M)) M23 [.obj b22 (.row 58 .whole [(.int .i64 0), (.int .i64 0)])])⟩
  refine Run.opsEnd (Run.seq (Run.region ?_))
  refine Run.opG wantS_none (ex_move rfl) rfl ?_
  refine Run.opG wantS_none (ex_add rfl rfl) rfl ?_
  refine Run.opG wantS_none (ex_assign rfl) rfl ?_
  refine Run.opsEnd (Run.seq (Run.seq (Run.region ?_)))
  refine Run.opG wantS_none (ex_assign rfl) rfl ?_
  refine Run.opsEnd (Run.block (Run.loop ?_))
  exact Run.pick [0, 4, 5, 6] (ref08_envelope_1_ok F F a0 (w64 (a1 + (1 : Int))) (0 : Int) (S_api_Envelope.mk 0 0) s0 b22 _ _ _ hs0 hH23 h)

theorem mkk88 : makeK Try.prog 88 = none := by kernel_rfl
theorem cal88 : callable Try.prog 88 = true := by kernel_rfl
abbrev ref08_Seal_post (r : S_api_Envelope × Int) : SV → Mem → Prop := fun s _ => s = (.tuple [(.agg [(.int .i64 r.1.Many), (.int .i64 r.1.Code)]), (.int .i64 r.2)])

def ref08_Seal (F : Nat) (a0 : (List Int)) (a1 : (List S_api_Wave)) (a2 : Int) : Option (S_api_Envelope × Int) :=
  bnd (ref08_given F a0 a1) fun r25 =>
  bif (!(r25 == (0 : Int))) then
    some ((S_api_Envelope.mk 0 0), r25)
  else
    bnd (ref00_In F a2 (0 : Int) (1073741824 : Int)) fun r30 =>
    bif (!r30) then
      some ((S_api_Envelope.mk 0 0), (8 : Int))
    else
      bnd (ref08_envelope F a1 a2) fun r35 =>
      some (r35, (0 : Int))

theorem ref08_Seal_ok (F : Nat) (a0 : (List Int)) (a1 : (List S_api_Wave)) (a2 : Int) (s0 s1 : SV) (r : S_api_Envelope × Int) (M : Mem) (hs0 : Slc (rd M) 1 (FlatR enc3) s0 a0) (hs1 : Slc (rd M) 3 (rep83 (rd M)) s1 a1) (h : ref08_Seal F a0 a1 a2 = some r) : CallsM Try.prog 42 [s0, s1, (.int .i64 a2)] M (fun s M' => s = (.tuple [(.agg [(.int .i64 r.1.Many), (.int .i64 r.1.Code)]), (.int .i64 r.2)]) ∧ M' = M) := by
  refine CallsM.plain Try.func42 rfl rfl rfl (show Run _ _ _ (ref08_Seal_post r) _ _ _ from ?_)
  rw [ref08_Seal] at h
  replace hs0 := hs0.mono (rdLe_frozen M) (fun _ _ h => h)
  replace hs1 := hs1.mono (rdLe_frozen M) (fun _ _ => rep83_mo (rdLe_frozen M))
  have hH := Has.nil (frozen M)
  refine Run.seq (Run.region ?_)
  refine Run.opX wantS_none rfl (ExG.new (v := fun b => .ptr b 0) (ex_alloc zer58) hH) ?_
  rintro _ M23 ⟨b22, rfl, (hH23 : Has (ro (frozen M)) M23 [.obj b22 (.row 58 .whole [(.int .i64 0), (.int .i64 0)])])⟩
  refine Run.opG wantS_none (ex_assign rfl) rfl ?_
  refine Run.opsEnd (Run.seq (Run.seq (Run.region ?_)))
  refine Run.opG wantS_none (ex_move rfl) rfl ?_
  refine Run.opG wantS_none (ex_move rfl) rfl ?_
  obtain ⟨r25, hr25, h⟩ := bnd_some h
  refine Run.callP wantS_none (ex_call rfl mkk84 cal84) rfl (ref08_given_ok F a0 a1 s0 s1 _ _ (hH23.slcF hs0) ((hs1).mono hH23.le (fun _ _ => rep83_mo hH23.le)) hr25) ?_
  refine Run.opG wantS_none (ex_assign rfl) rfl ?_
  refine Run.opsEnd (Run.seq (Run.region ?_))
  refine Run.opG wantS_none (ex_move rfl) rfl ?_
  refine Run.opG wantS_none (ex_neq rfl rfl) rfl ?_
  refine Run.opsEnd ?_
  rcases btf ((!(r25 == (0 : Int)))) with hc27 | hc27
  · have h := bif_t hc27 h
    refine Run.condT' rfl hc27 ?_
    refine Run.seq (Run.region ?_)
    refine Run.opG wantS_none (ex_build (r := [(.int .i64 0), (.int .i64 0)]) rfl zer58 pls58 rfl) rfl ?_
    refine Run.opG wantS_none (ex_move rfl) rfl ?_
    refine Run.opX wantS_none rfl (ExG.storeC (c' := [(.int .i64 0), (.int .i64 0)]) rfl rfl rfl hH23 (i := 0) rfl sz58 rfl rfl rfl rfl rfl) ?_
    rintro _ M28 ⟨rfl, (hH28 : Has (ro (frozen M)) M28 [.obj b22 (.row 58 .whole [(.int .i64 0), (.int .i64 0)])])⟩
    refine Run.opG wantS_none (ex_assign rfl) rfl ?_
    refine Run.opsEnd ?_
    cases h
    exact Run.ret Try.func42 rfl (res_cell rfl (x_load (ex_loadA rfl (hH28.cells (i := 0) rfl 0 rfl) rdLe_rfl agg58 rfl rfl rfl)) (res_tmp rfl res_nil)) rfl
  · have h := bif_f hc27 h
    refine Run.condF' rfl hc27 ?_
    refine Run.skip (Run.seq (Run.seq (Run.region ?_)))
    refine Run.opG wantS_none (ex_move rfl) rfl ?_
    obtain ⟨r30, hr30, h⟩ := bnd_some h
    refine Run.callP wantS_none (ex_call rfl mkk49 cal49) rfl (ref00_In_ok F a2 (0 : Int) (1073741824 : Int) _ _ hr30) ?_
    refine Run.opG wantS_none (ex_not rfl) rfl ?_
    refine Run.opsEnd ?_
    rcases btf ((!r30)) with hc32 | hc32
    · have h := bif_t hc32 h
      refine Run.condT' rfl hc32 ?_
      refine Run.seq (Run.region ?_)
      refine Run.opG wantS_none (ex_build (r := [(.int .i64 0), (.int .i64 0)]) rfl zer58 pls58 rfl) rfl ?_
      refine Run.opX wantS_none rfl (ExG.storeC (c' := [(.int .i64 0), (.int .i64 0)]) rfl rfl rfl hH23 (i := 0) rfl sz58 rfl rfl rfl rfl rfl) ?_
      rintro _ M33 ⟨rfl, (hH33 : Has (ro (frozen M)) M33 [.obj b22 (.row 58 .whole [(.int .i64 0), (.int .i64 0)])])⟩
      refine Run.opG wantS_none (ex_assign rfl) rfl ?_
      refine Run.opsEnd ?_
      cases h
      exact Run.ret Try.func42 rfl (res_cell rfl (x_load (ex_loadA rfl (hH33.cells (i := 0) rfl 0 rfl) rdLe_rfl agg58 rfl rfl rfl)) (res_tmp rfl res_nil)) rfl
    · have h := bif_f hc32 h
      refine Run.condF' rfl hc32 ?_
      refine Run.skip (Run.seq (Run.region ?_))
      refine Run.opG wantS_none (ex_move rfl) rfl ?_
      refine Run.opG wantS_none (ex_move rfl) rfl ?_
      obtain ⟨r35, hr35, h⟩ := bnd_some h
      refine Run.callP wantS_none (ex_call rfl mkk88 cal88) rfl (ref08_envelope_ok F a1 a2 s1 _ _ ((hs1).mono hH23.le (fun _ _ => rep83_mo hH23.le)) hr35) ?_
      refine Run.opX wantS_none rfl (ExG.storeC (c' := [(.int .i64 r35.Many), (.int .i64 r35.Code)]) rfl rfl rfl hH23 (i := 0) rfl sz58 rfl rfl rfl rfl rfl) ?_
      rintro _ M37 ⟨rfl, (hH37 : Has (ro (frozen M)) M37 [.obj b22 (.row 58 .whole [(.int .i64 r35.Many), (.int .i64 r35.Code)])])⟩
      refine Run.opG wantS_none (ex_assign rfl) rfl ?_
      refine Run.opsEnd ?_
      cases h
      exact Run.ret Try.func42 rfl (res_cell rfl (x_load (ex_loadA rfl (hH37.cells (i := 0) rfl 0 rfl) rdLe_rfl agg58 rfl rfl rfl)) (res_tmp rfl res_nil)) rfl

theorem mkk42 : makeK Try.prog 42 = none := by kernel_rfl
theorem cal42 : callable Try.prog 42 = true := by kernel_rfl
theorem agk3 : aggK Try.prog 3 = some .int := by kernel_rfl
theorem agk58 : aggK Try.prog 58 = some (.st [⟨ "Many", 3, 0, false, "", "", 0⟩, ⟨ "Code", 3, 1, false, "", "", 8⟩]) := by kernel_rfl
theorem aeq58 : aggEq Try.prog 58 = false := by kernel_rfl
theorem plan43_1_0_1_0_1_1_0 : planOf Try.prog (opsC (atC Try.prog 43 [1, 0, 1, 0, 1, 1, 0])) = some [.fl 0, .fl 1, .fl 2, .an 3 [0], .fl 4, .fl 5, .sync] := by kernel_rfl
abbrev search_Open_post (r : (List Int) × Int) : SV → Mem → Prop := fun s Me => ∃ q1, s = (.tuple [q1, (.int .i64 r.2)]) ∧ Has (fun _ => none) Me [.vec 3 1 r.1.length q1 (r.1.flatMap enc3)]

def search_Open (F : Nat) (a0 : S_api_Envelope) (a1 : (List Int)) (a2 : (List S_api_Wave)) (a3 : Int) : Option ((List Int) × Int) :=
  bnd (search_checkSeal F a1 a2 a3) fun r25 =>
  bif (!(r25 == (0 : Int))) then
    some (([] : List Int), r25)
  else
    bnd (search_envelope F a2 a3) fun r30 =>
    bif (!((a0.Many == r30.Many) && ((a0.Code == r30.Code) && true))) then
      some (([] : List Int), (84 : Int))
    else
      bnd (search_added F a1 a2 ((-1) : Int)) fun r37 =>
      bnd (search_isRecord F r37) fun r41 =>
      bif (!r41) then
        some (([] : List Int), (8 : Int))
      else
        some (r37, (0 : Int))

theorem search_Open_ok (F : Nat) (a0 : S_api_Envelope) (a1 : (List Int)) (a2 : (List S_api_Wave)) (a3 : Int) (s0 s1 : SV) (r : (List Int) × Int) (M : Mem) (hs0 : Slc (rd M) 1 (FlatR enc3) s0 a1) (hs1 : Slc (rd M) 3 (rep83 (rd M)) s1 a2) (h : search_Open F a0 a1 a2 a3 = some r) : CallsM Try.prog 43 [(.agg [(.int .i64 a0.Many), (.int .i64 a0.Code)]), s0, s1, (.int .i64 a3)] M (fun s M' => ∃ q1, s = (.tuple [q1, (.int .i64 r.2)]) ∧ New M M' [.vec 3 1 r.1.length q1 (r.1.flatMap enc3)]) := by
  refine CallsM.fresh (Q := search_Open_post r) Try.func43 rfl rfl ?_ (by rintro s Me ⟨q1, rfl, hx⟩ ha hw; exact ⟨_, rfl, New.of rfl hx ha hw⟩)
  rw [search_Open] at h
  replace hs0 := hs0.mono (rdLe_frozen M) (fun _ _ h => h)
  replace hs1 := hs1.mono (rdLe_frozen M) (fun _ _ => rep83_mo (rdLe_frozen M))
  have hH := Has.nil (frozen M)
  refine Run.seq (Run.region ?_)
  refine Run.opX wantS_none rfl (ExG.box rfl rfl hH) ?_
  rintro _ M23 ⟨b22, rfl, (hH23 : Has (ro (frozen M)) M23 [.obj b22 (.row 58 .whole [(.int .i64 a0.Many), (.int .i64 a0.Code)])])⟩
  refine Run.opG wantS_none (ex_assign rfl) rfl ?_
  refine Run.opG wantS_none (ex_assign rfl) rfl ?_
  refine Run.opsEnd (Run.seq (Run.seq (Run.region ?_)))
  refine Run.opG wantS_none (ex_move rfl) rfl ?_
  refine Run.opG wantS_none (ex_move rfl) rfl ?_
  refine Run.opG wantS_none (ex_move rfl) rfl ?_
  obtain ⟨r25, hr25, h⟩ := bnd_some h
  refine Run.callP wantS_none (ex_call rfl mkk86 cal86) rfl (search_checkSeal_ok F a1 a2 a3 s0 s1 _ _ (hH23.slcF hs0) ((hs1).mono hH23.le (fun _ _ => rep83_mo hH23.le)) hr25) ?_
  refine Run.opG wantS_none (ex_assign rfl) rfl ?_
  refine Run.opsEnd (Run.block (Run.seq (Run.region ?_)))
  refine Run.opG wantS_none (ex_move rfl) rfl ?_
  refine Run.opG wantS_none (ex_neq rfl rfl) rfl ?_
  refine Run.opG wantS_none (ex_assign rfl) rfl ?_
  refine Run.opsEnd ?_
  rcases btf ((!(r25 == (0 : Int)))) with hc27 | hc27
  · have h := bif_t hc27 h
    refine Run.condT' rfl hc27 ?_
    refine Run.seq (Run.region ?_)
    refine Run.opG wantS_none (ex_move rfl) rfl ?_
    refine Run.opG wantS_none (ex_assign rfl) rfl ?_
    refine Run.opG wantS_none (ex_assign rfl) rfl ?_
    refine Run.opsEnd ?_
    have hH29 : Has (ro (frozen M)) M23 [.vec 3 1 ([] : List Int).length .nils (([] : List Int).flatMap enc3), .obj b22 (.row 58 .whole [(.int .i64 a0.Many), (.int .i64 a0.Code)])] := hH23.nils 3 1
    cases h
    exact Run.ret Try.func43 rfl (res_tmp rfl (res_tmp rfl res_nil)) ⟨_, rfl, (hH29.pick [0] rfl rfl).upF (none_le _)⟩
  · have h := bif_f hc27 h
    refine Run.condF' rfl hc27 ?_
    refine Run.seq ?_
    refine Run.drawG plan43_1_0_1_0_1_1_0 ?_
    refine DrawG.fl rfl (ev_ex wantS_none (ex_loadA rfl (hH23.cells (i := 0) rfl 0 rfl) rdLe_rfl agg58 rfl rfl rfl)) rfl ?_
    refine DrawG.fl rfl (ev_ex wantS_none (ex_move rfl)) rfl ?_
    refine DrawG.fl rfl (ev_ex wantS_none (ex_move rfl)) rfl ?_
    obtain ⟨r30, hr30, h⟩ := bnd_some h
    refine DrawG.callP rfl wantS_none (ex_call rfl mkk87 cal87) rfl (search_envelope_ok F a2 a3 s1 _ _ ((hs1).mono hH23.le (fun _ _ => rep83_mo hH23.le)) hr30) (st_cons rfl (ev_ex wantS_none (ex_loadA rfl (hH23.cells (i := 0) rfl 0 rfl) rdLe_rfl agg58 rfl rfl rfl)) rfl rfl rfl st_nil) ?_
    refine DrawG.fl rfl (ev_ex wantS_none (ex_neqA rfl rfl aeq58 (eqA_st agk58 (eqFs_cons (by decide) (part_one agg3 rfl) (part_one agg3 rfl) (eqA_int agk3) (eqFs_cons (by decide) (part_one agg3 rfl) (part_one agg3 rfl) (eqA_int agk3) eqFs_nil))))) rfl ?_
    refine DrawG.fl rfl (ev_ex wantS_none (ex_assign rfl)) rfl ?_
    refine DrawG.sync ?_
    refine DrawG.nil ?_
    rcases btf ((!((a0.Many == r30.Many) && ((a0.Code == r30.Code) && true)))) with hc32 | hc32
    · have h := bif_t hc32 h
      refine Run.condT' rfl hc32 ?_
      refine Run.seq (Run.region ?_)
      refine Run.opG wantS_none (ex_assign rfl) rfl ?_
      refine Run.opG wantS_none (ex_assign rfl) rfl ?_
      refine Run.opsEnd ?_
      have hH34 : Has (ro (frozen M)) M23 [.vec 3 1 ([] : List Int).length .nils (([] : List Int).flatMap enc3), .obj b22 (.row 58 .whole [(.int .i64 a0.Many), (.int .i64 a0.Code)])] := hH23.nils 3 1
      cases h
      exact Run.ret Try.func43 rfl (res_tmp rfl (res_tmp rfl res_nil)) ⟨_, rfl, (hH34.pick [0] rfl rfl).upF (none_le _)⟩
    · have h := bif_f hc32 h
      refine Run.condF' rfl hc32 ?_
      refine Run.skip (Run.inBlock (Run.seq (Run.region ?_)))
      refine Run.opG wantS_none (ex_move rfl) rfl ?_
      refine Run.opG wantS_none (ex_move rfl) rfl ?_
      obtain ⟨r37, hr37, h⟩ := bnd_some h
      refine Run.callX wantS_none (ex_call rfl mkk83 cal83) rfl (search_added_ok F a1 a2 ((-1) : Int) s0 s1 _ _ (hH23.slcF hs0) ((hs1).mono hH23.le (fun _ _ => rep83_mo hH23.le)) hr37) ?_
      rintro s37_0 M39 ⟨_, rfl, hN37⟩
      have hH39 : Has (ro (frozen M)) M39 [.vec 3 1 r37.length s37_0 (r37.flatMap enc3), .obj b22 (.row 58 .whole [(.int .i64 a0.Many), (.int .i64 a0.Code)])] := hN37.1 _ _ hH23
      refine Run.enter wantS_none (ex_call rfl mkk82 cal82) Try.func82 rfl rfl ?_
      refine Run.seq (Run.region ?_)
      refine Run.opG wantS_none (ex_assign rfl) rfl ?_
      refine Run.opG wantS_none (ex_assign rfl) rfl ?_
      refine Run.opsEnd (Run.seq (Run.seq (Run.region ?_)))
      refine Run.opG wantS_none (ex_move rfl) rfl ?_
      obtain ⟨r41, hr41, h⟩ := bnd_some h
      refine Run.callP wantS_none (ex_call rfl mkk69 cal69) rfl (search_isRecord_ok F r37 s37_0 _ _ (hH39.slc (i := 0) rfl enc3_len) hr41) ?_
      refine Run.opG wantS_none (ex_not rfl) rfl ?_
      refine Run.opsEnd ?_
      rcases btf ((!r41)) with hc43 | hc43
      · have h := bif_t hc43 h
        refine Run.condT' rfl hc43 ?_
        refine Run.seq (Run.region ?_)
        refine Run.opG wantS_none (ex_assign rfl) rfl ?_
        refine Run.opG wantS_none (ex_assign rfl) rfl ?_
        refine Run.opsEnd ?_
        refine Run.retTo Try.func82 rfl (res_tmp rfl (res_tmp rfl res_nil)) rfl ?_
        refine Run.opG wantS_none (ex_extract rfl rfl) rfl ?_
        refine Run.opG wantS_none (ex_extract rfl rfl) rfl ?_
        refine Run.opG wantS_none (ex_assign rfl) rfl ?_
        refine Run.opG wantS_none (ex_assign rfl) rfl ?_
        refine Run.opsEnd ?_
        have hH45 : Has (ro (frozen M)) M39 [.vec 3 1 ([] : List Int).length .nils (([] : List Int).flatMap enc3), .vec 3 1 r37.length s37_0 (r37.flatMap enc3), .obj b22 (.row 58 .whole [(.int .i64 a0.Many), (.int .i64 a0.Code)])] := hH39.nils 3 1
        cases h
        exact Run.ret Try.func43 rfl (res_tmp rfl (res_tmp rfl res_nil)) ⟨_, rfl, (hH45.pick [0] rfl rfl).upF (none_le _)⟩
      · have h := bif_f hc43 h
        refine Run.condF' rfl hc43 ?_
        refine Run.skip (Run.seq (Run.region ?_))
        refine Run.opG wantS_none (ex_move rfl) rfl ?_
        refine Run.opG wantS_none (ex_assign rfl) rfl ?_
        refine Run.opG wantS_none (ex_assign rfl) rfl ?_
        refine Run.opsEnd ?_
        refine Run.retTo Try.func82 rfl (res_tmp rfl (res_tmp rfl res_nil)) rfl ?_
        refine Run.opG wantS_none (ex_extract rfl rfl) rfl ?_
        refine Run.opG wantS_none (ex_extract rfl rfl) rfl ?_
        refine Run.opG wantS_none (ex_assign rfl) rfl ?_
        refine Run.opG wantS_none (ex_assign rfl) rfl ?_
        refine Run.opsEnd ?_
        cases h
        exact Run.ret Try.func43 rfl (res_tmp rfl (res_tmp rfl res_nil)) ⟨_, rfl, (hH39.pick [0] rfl rfl).upF (none_le _)⟩

theorem mkk43 : makeK Try.prog 43 = none := by kernel_rfl
theorem cal43 : callable Try.prog 43 = true := by kernel_rfl
abbrev ref08_Open_post (r : (List Int) × Int) : SV → Mem → Prop := fun s Me => ∃ q1, s = (.tuple [q1, (.int .i64 r.2)]) ∧ Has (fun _ => none) Me [.vec 3 1 r.1.length q1 (r.1.flatMap enc3)]

def ref08_Open (F : Nat) (a0 : S_api_Envelope) (a1 : (List Int)) (a2 : (List S_api_Wave)) (a3 : Int) : Option ((List Int) × Int) :=
  bnd (ref08_Seal F a1 a2 a3) fun r25 =>
  bif (!(r25.2 == (0 : Int))) then
    some (([] : List Int), r25.2)
  else
    bif (!((r25.1.Many == a0.Many) && ((r25.1.Code == a0.Code) && true))) then
      some (([] : List Int), (84 : Int))
    else
      bnd (ref08_injected F a1 a2 ((-1) : Int)) fun r39 =>
      bnd (ref08_record F r39) fun r43 =>
      bif (!r43) then
        some (([] : List Int), (8 : Int))
      else
        some (r39, (0 : Int))

theorem ref08_Open_ok (F : Nat) (a0 : S_api_Envelope) (a1 : (List Int)) (a2 : (List S_api_Wave)) (a3 : Int) (s0 s1 : SV) (r : (List Int) × Int) (M : Mem) (hs0 : Slc (rd M) 1 (FlatR enc3) s0 a1) (hs1 : Slc (rd M) 3 (rep83 (rd M)) s1 a2) (h : ref08_Open F a0 a1 a2 a3 = some r) : CallsM Try.prog 44 [(.agg [(.int .i64 a0.Many), (.int .i64 a0.Code)]), s0, s1, (.int .i64 a3)] M (fun s M' => ∃ q1, s = (.tuple [q1, (.int .i64 r.2)]) ∧ New M M' [.vec 3 1 r.1.length q1 (r.1.flatMap enc3)]) := by
  refine CallsM.fresh (Q := ref08_Open_post r) Try.func44 rfl rfl ?_ (by rintro s Me ⟨q1, rfl, hx⟩ ha hw; exact ⟨_, rfl, New.of rfl hx ha hw⟩)
  rw [ref08_Open] at h
  replace hs0 := hs0.mono (rdLe_frozen M) (fun _ _ h => h)
  replace hs1 := hs1.mono (rdLe_frozen M) (fun _ _ => rep83_mo (rdLe_frozen M))
  have hH := Has.nil (frozen M)
  refine Run.seq (Run.region ?_)
  refine Run.opX wantS_none rfl (ExG.box rfl rfl hH) ?_
  rintro _ M23 ⟨b22, rfl, (hH23 : Has (ro (frozen M)) M23 [.obj b22 (.row 58 .whole [(.int .i64 a0.Many), (.int .i64 a0.Code)])])⟩
  refine Run.opG wantS_none (ex_assign rfl) rfl ?_
  refine Run.opG wantS_none (ex_assign rfl) rfl ?_
  refine Run.opsEnd (Run.seq (Run.region ?_))
  refine Run.opG wantS_none (ex_move rfl) rfl ?_
  refine Run.opG wantS_none (ex_move rfl) rfl ?_
  refine Run.opG wantS_none (ex_move rfl) rfl ?_
  obtain ⟨r25, hr25, h⟩ := bnd_some h
  refine Run.callP wantS_none (ex_call rfl mkk42 cal42) rfl (ref08_Seal_ok F a1 a2 a3 s0 s1 _ _ (hH23.slcF hs0) ((hs1).mono hH23.le (fun _ _ => rep83_mo hH23.le)) hr25) ?_
  refine Run.opG wantS_none (ex_move rfl) rfl ?_
  refine Run.opG wantS_none (ex_extract rfl rfl) rfl ?_
  refine Run.opG wantS_none (ex_extract rfl rfl) rfl ?_
  refine Run.opX wantS_none rfl (ExG.new (v := fun b => .ptr b 0) (ex_alloc zer58) hH23) ?_
  rintro _ M29 ⟨b28, rfl, (hH29 : Has (ro (frozen M)) M29 [.obj b28 (.row 58 .whole [(.int .i64 0), (.int .i64 0)]), .obj b22 (.row 58 .whole [(.int .i64 a0.Many), (.int .i64 a0.Code)])])⟩
  refine Run.opX wantS_none rfl (ExG.storeC (c' := [(.int .i64 r25.1.Many), (.int .i64 r25.1.Code)]) rfl rfl rfl hH29 (i := 0) rfl sz58 rfl rfl rfl rfl rfl) ?_
  rintro _ M30 ⟨rfl, (hH30 : Has (ro (frozen M)) M30 [.obj b28 (.row 58 .whole [(.int .i64 r25.1.Many), (.int .i64 r25.1.Code)]), .obj b22 (.row 58 .whole [(.int .i64 a0.Many), (.int .i64 a0.Code)])])⟩
  refine Run.opG wantS_none (ex_assign rfl) rfl ?_
  refine Run.opsEnd (Run.seq (Run.seq (Run.region ?_)))
  refine Run.opG wantS_none (ex_move rfl) rfl ?_
  refine Run.opG wantS_none (ex_neq rfl rfl) rfl ?_
  refine Run.opsEnd ?_
  rcases btf ((!(r25.2 == (0 : Int)))) with hc31 | hc31
  · have h := bif_t hc31 h
    refine Run.condT' rfl hc31 ?_
    refine Run.seq (Run.region ?_)
    refine Run.opG wantS_none (ex_move rfl) rfl ?_
    refine Run.opG wantS_none (ex_assign rfl) rfl ?_
    refine Run.opG wantS_none (ex_assign rfl) rfl ?_
    refine Run.opsEnd ?_
    have hH33 : Has (ro (frozen M)) M30 [.vec 3 1 ([] : List Int).length .nils (([] : List Int).flatMap enc3), .obj b28 (.row 58 .whole [(.int .i64 r25.1.Many), (.int .i64 r25.1.Code)]), .obj b22 (.row 58 .whole [(.int .i64 a0.Many), (.int .i64 a0.Code)])] := hH30.nils 3 1
    cases h
    exact Run.ret Try.func44 rfl (res_tmp rfl (res_tmp rfl res_nil)) ⟨_, rfl, (hH33.pick [0] rfl rfl).upF (none_le _)⟩
  · have h := bif_f hc31 h
    refine Run.condF' rfl hc31 ?_
    refine Run.skip (Run.seq (Run.seq (Run.region ?_)))
    refine Run.opG wantS_none (ex_loadA rfl (hH30.cells (i := 0) rfl 0 rfl) rdLe_rfl agg58 rfl rfl rfl) rfl ?_
    refine Run.opG wantS_none (ex_loadA rfl (hH30.cells (i := 1) rfl 0 rfl) rdLe_rfl agg58 rfl rfl rfl) rfl ?_
    refine Run.opG wantS_none (ex_neqA rfl rfl aeq58 (eqA_st agk58 (eqFs_cons (by decide) (part_one agg3 rfl) (part_one agg3 rfl) (eqA_int agk3) (eqFs_cons (by decide) (part_one agg3 rfl) (part_one agg3 rfl) (eqA_int agk3) eqFs_nil)))) rfl ?_
    refine Run.opsEnd ?_
    rcases btf ((!((r25.1.Many == a0.Many) && ((r25.1.Code == a0.Code) && true)))) with hc34 | hc34
    · have h := bif_t hc34 h
      refine Run.condT' rfl hc34 ?_
      refine Run.seq (Run.region ?_)
      refine Run.opG wantS_none (ex_assign rfl) rfl ?_
      refine Run.opG wantS_none (ex_assign rfl) rfl ?_
      refine Run.opsEnd ?_
      have hH36 : Has (ro (frozen M)) M30 [.vec 3 1 ([] : List Int).length .nils (([] : List Int).flatMap enc3), .obj b28 (.row 58 .whole [(.int .i64 r25.1.Many), (.int .i64 r25.1.Code)]), .obj b22 (.row 58 .whole [(.int .i64 a0.Many), (.int .i64 a0.Code)])] := hH30.nils 3 1
      cases h
      exact Run.ret Try.func44 rfl (res_tmp rfl (res_tmp rfl res_nil)) ⟨_, rfl, (hH36.pick [0] rfl rfl).upF (none_le _)⟩
    · have h := bif_f hc34 h
      refine Run.condF' rfl hc34 ?_
      refine Run.skip (Run.seq (Run.region ?_))
      refine Run.opG wantS_none (ex_move rfl) rfl ?_
      refine Run.opG wantS_none (ex_move rfl) rfl ?_
      obtain ⟨r39, hr39, h⟩ := bnd_some h
      refine Run.callX wantS_none (ex_call rfl mkk85 cal85) rfl (ref08_injected_ok F a1 a2 ((-1) : Int) s0 s1 _ _ (hH30.slcF hs0) ((hs1).mono hH30.le (fun _ _ => rep83_mo hH30.le)) hr39) ?_
      rintro s39_0 M41 ⟨_, rfl, hN39⟩
      have hH41 : Has (ro (frozen M)) M41 [.vec 3 1 r39.length s39_0 (r39.flatMap enc3), .obj b28 (.row 58 .whole [(.int .i64 r25.1.Many), (.int .i64 r25.1.Code)]), .obj b22 (.row 58 .whole [(.int .i64 a0.Many), (.int .i64 a0.Code)])] := hN39.1 _ _ hH30
      refine Run.opG wantS_none (ex_assign rfl) rfl ?_
      refine Run.opsEnd (Run.seq (Run.seq (Run.region ?_)))
      refine Run.opG wantS_none (ex_move rfl) rfl ?_
      obtain ⟨r43, hr43, h⟩ := bnd_some h
      refine Run.callP wantS_none (ex_call rfl mkk71 cal71) rfl (ref08_record_ok F r39 s39_0 _ _ (hH41.slc (i := 0) rfl enc3_len) hr43) ?_
      refine Run.opG wantS_none (ex_not rfl) rfl ?_
      refine Run.opsEnd ?_
      rcases btf ((!r43)) with hc45 | hc45
      · have h := bif_t hc45 h
        refine Run.condT' rfl hc45 ?_
        refine Run.seq (Run.region ?_)
        refine Run.opG wantS_none (ex_assign rfl) rfl ?_
        refine Run.opG wantS_none (ex_assign rfl) rfl ?_
        refine Run.opsEnd ?_
        have hH47 : Has (ro (frozen M)) M41 [.vec 3 1 ([] : List Int).length .nils (([] : List Int).flatMap enc3), .vec 3 1 r39.length s39_0 (r39.flatMap enc3), .obj b28 (.row 58 .whole [(.int .i64 r25.1.Many), (.int .i64 r25.1.Code)]), .obj b22 (.row 58 .whole [(.int .i64 a0.Many), (.int .i64 a0.Code)])] := hH41.nils 3 1
        cases h
        exact Run.ret Try.func44 rfl (res_tmp rfl (res_tmp rfl res_nil)) ⟨_, rfl, (hH47.pick [0] rfl rfl).upF (none_le _)⟩
      · have h := bif_f hc45 h
        refine Run.condF' rfl hc45 ?_
        refine Run.skip (Run.seq (Run.region ?_))
        refine Run.opG wantS_none (ex_move rfl) rfl ?_
        refine Run.opG wantS_none (ex_assign rfl) rfl ?_
        refine Run.opG wantS_none (ex_assign rfl) rfl ?_
        refine Run.opsEnd ?_
        cases h
        exact Run.ret Try.func44 rfl (res_tmp rfl (res_tmp rfl res_nil)) ⟨_, rfl, (hH41.pick [0] rfl rfl).upF (none_le _)⟩

theorem mkk44 : makeK Try.prog 44 = none := by kernel_rfl
theorem cal44 : callable Try.prog 44 = true := by kernel_rfl
theorem mkk22 : makeK Try.prog 22 = none := by kernel_rfl
theorem cal22 : callable Try.prog 22 = true := by kernel_rfl
abbrev law08_SearchSeals_post (r : Bool) : SV → Mem → Prop := fun s _ => s = (.bool r)

def law08_SearchSeals_4 (F : Nat) (hd3 : (List Int) → (List S_api_Wave) → Int → Int → S_api_Envelope → S_api_Envelope → Option (Bool)) (v0 : (List Int)) (v1 : (List S_api_Wave)) (v2 : Int) (v13 : Int) (v89 : Bool) (c40 : S_api_Envelope) (c47 : S_api_Envelope) : Option (Bool) :=
  bif v89 then
    some false
  else
    hd3 v0 v1 v2 (w64 (v13 + (1 : Int))) c40 c47

theorem law08_SearchSeals_4_ok (F : Nat) (hd3 : (List Int) → (List S_api_Wave) → Int → Int → S_api_Envelope → S_api_Envelope → Option (Bool)) (hhd3 : ∀ (v0 : (List Int)) (v1 : (List S_api_Wave)) (v2 : Int) (v13 : Int) (c40 : S_api_Envelope) (c47 : S_api_Envelope) (sv0 : SV) (sv1 : SV) (b40 : Pos) (b47 : Pos) (Fr : Rd) (M : Mem) (r : Bool) (hv0 : Slc Fr 1 (FlatR enc3) sv0 v0) (hv1 : Slc Fr 3 (rep83 Fr) sv1 v1) (hH : Has Fr M [.obj b40 (.row 58 .whole [(.int .i64 c40.Many), (.int .i64 c40.Code)]), .obj b47 (.row 58 .whole [(.int .i64 c47.Many), (.int .i64 c47.Code)])]), hd3 v0 v1 v2 v13 c40 c47 = some r → Run Try.prog ⟨⟨8, [], none⟩, []⟩ 91 (law08_SearchSeals_post r) [(0, sv0), (1, sv1), (2, (.int .i64 v2)), (11, (.ptr b40 0)), (12, (.ptr b47 0)), (13, (.int .i64 v13))] [codeC Try.prog 8 [1, 1, 1, 1, 1, 1, 1, 0, 1, 0, 0], loopC Try.prog 8 [1, 1, 1, 1, 1, 1, 1, 0, 1, 0, 0], .inBlock 0, codeC Try.prog 8 [1, 1, 1, 1, 1, 1, 1, 1]] M) : ∀ (v0 : (List Int)) (v1 : (List S_api_Wave)) (v2 : Int) (v13 : Int) (v89 : Bool) (c40 : S_api_Envelope) (c47 : S_api_Envelope) (sv0 : SV) (sv1 : SV) (b40 : Pos) (b47 : Pos) (Fr : Rd) (M : Mem) (r : Bool) (hv0 : Slc Fr 1 (FlatR enc3) sv0 v0) (hv1 : Slc Fr 3 (rep83 Fr) sv1 v1) (hH : Has Fr M [.obj b40 (.row 58 .whole [(.int .i64 c40.Many), (.int .i64 c40.Code)]), .obj b47 (.row 58 .whole [(.int .i64 c47.Many), (.int .i64 c47.Code)])]), law08_SearchSeals_4 F hd3 v0 v1 v2 v13 v89 c40 c47 = some r → Run Try.prog ⟨⟨8, [], none⟩, []⟩ 91 (law08_SearchSeals_post r) [(0, sv0), (1, sv1), (2, (.int .i64 v2)), (11, (.ptr b40 0)), (12, (.ptr b47 0)), (13, (.int .i64 v13)), (89, (.bool v89))] [codeC Try.prog 8 [1, 1, 1, 1, 1, 1, 1, 0, 1, 0, 0, 1, 0, 0, 1, 1, 1], .inBlock 1, codeC Try.prog 8 [1, 1, 1, 1, 1, 1, 1, 0, 1, 0, 0, 1, 1], loopC Try.prog 8 [1, 1, 1, 1, 1, 1, 1, 0, 1, 0, 0], .inBlock 0, codeC Try.prog 8 [1, 1, 1, 1, 1, 1, 1, 1]] M := by
  intro v0 v1 v2 v13 v89 c40 c47 sv0 sv1 b40 b47 Fr M r hv0 hv1 hH h
  rw [law08_SearchSeals_4] at h
  rcases btf (v89) with hc67 | hc67
  · have h := bif_t hc67 h
    refine Run.condT' rfl hc67 ?_
    refine Run.seq (Run.region ?_)
    refine Run.opG wantS_none (ex_assign rfl) rfl ?_
    refine Run.opsEnd ?_
    cases h
    exact Run.ret Try.func8 rfl (res_tmp rfl res_nil) rfl
  · have h := bif_f hc67 h
    refine Run.condF' rfl hc67 ?_
    refine Run.skip (Run.inBlock (Run.region ?_))
    refine Run.opG wantS_none (ex_move rfl) rfl ?_
    refine Run.opG wantS_none (ex_add rfl rfl) rfl ?_
    refine Run.opG wantS_none (ex_assign rfl) rfl ?_
    refine Run.opsEnd (Run.inLoop ?_)
    exact Run.pick [0, 1, 2, 11, 12, 13] (hhd3 v0 v1 v2 (w64 (v13 + (1 : Int))) c40 c47 sv0 sv1 b40 b47 _ _ _ hv0 hv1 hH h)

def law08_SearchSeals_3 (F : Nat) : Nat → (List Int) → (List S_api_Wave) → Int → Int → S_api_Envelope → S_api_Envelope → Option (Bool)
  | 0, _, _, _, _, _, _ => none
  | N + 1, v0, v1, v2, v13, c40, c47 =>
    bif (decide (v13 < (2 : Int))) then
      bnd (search_Open F c40 v0 v1 (w64 (v2 - v13))) fun r55 =>
      bnd (ref08_Open F c47 v0 v1 (w64 (v2 - v13))) fun r60 =>
      bnd (ref00_SameInts F r55.1 r60.1) fun r64 =>
      bif (!r64) then
        law08_SearchSeals_4 F (law08_SearchSeals_3 F N) v0 v1 v2 v13 true c40 c47
      else
        law08_SearchSeals_4 F (law08_SearchSeals_3 F N) v0 v1 v2 v13 (!(r55.2 == r60.2)) c40 c47
    else
      bnd (works F) fun r69 =>
      some r69

theorem law08_SearchSeals_3_ok (F : Nat) : ∀ (N : Nat), ∀ (v0 : (List Int)) (v1 : (List S_api_Wave)) (v2 : Int) (v13 : Int) (c40 : S_api_Envelope) (c47 : S_api_Envelope) (sv0 : SV) (sv1 : SV) (b40 : Pos) (b47 : Pos) (Fr : Rd) (M : Mem) (r : Bool) (hv0 : Slc Fr 1 (FlatR enc3) sv0 v0) (hv1 : Slc Fr 3 (rep83 Fr) sv1 v1) (hH : Has Fr M [.obj b40 (.row 58 .whole [(.int .i64 c40.Many), (.int .i64 c40.Code)]), .obj b47 (.row 58 .whole [(.int .i64 c47.Many), (.int .i64 c47.Code)])]), law08_SearchSeals_3 F N v0 v1 v2 v13 c40 c47 = some r → Run Try.prog ⟨⟨8, [], none⟩, []⟩ 91 (law08_SearchSeals_post r) [(0, sv0), (1, sv1), (2, (.int .i64 v2)), (11, (.ptr b40 0)), (12, (.ptr b47 0)), (13, (.int .i64 v13))] [codeC Try.prog 8 [1, 1, 1, 1, 1, 1, 1, 0, 1, 0, 0], loopC Try.prog 8 [1, 1, 1, 1, 1, 1, 1, 0, 1, 0, 0], .inBlock 0, codeC Try.prog 8 [1, 1, 1, 1, 1, 1, 1, 1]] M := by
  intro N
  induction N with
  | zero =>
    intro v0 v1 v2 v13 c40 c47 sv0 sv1 b40 b47 Fr M r hv0 hv1 hH h
    simp [law08_SearchSeals_3] at h
  | succ N ih =>
    intro v0 v1 v2 v13 c40 c47 sv0 sv1 b40 b47 Fr M r hv0 hv1 hH h
    rw [law08_SearchSeals_3] at h
    refine Run.seq (Run.seq (Run.region ?_))
    refine Run.opG wantS_none (ex_move rfl) rfl ?_
    refine Run.opG wantS_none (ex_lss rfl rfl) rfl ?_
    refine Run.opsEnd ?_
    rcases btf ((decide (v13 < (2 : Int)))) with hc52 | hc52
    · have h := bif_t hc52 h
      refine Run.condT' rfl hc52 ?_
      refine Run.skip (Run.seq (Run.block (Run.seq (Run.region ?_))))
      refine Run.opG wantS_none (ex_loadA rfl (hH.cells (i := 0) rfl 0 rfl) rdLe_rfl agg58 rfl rfl rfl) rfl ?_
      refine Run.opG wantS_none (ex_move rfl) rfl ?_
      refine Run.opG wantS_none (ex_move rfl) rfl ?_
      refine Run.opG wantS_none (ex_move rfl) rfl ?_
      refine Run.opG wantS_none (ex_move rfl) rfl ?_
      refine Run.opG wantS_none (ex_sub rfl rfl) rfl ?_
      obtain ⟨r55, hr55, h⟩ := bnd_some h
      refine Run.callX wantS_none (ex_call rfl mkk43 cal43) rfl (search_Open_ok F c40 v0 v1 (w64 (v2 - v13)) sv0 sv1 _ _ (hH.slcF hv0) ((hv1).mono hH.le (fun _ _ => rep83_mo hH.le)) hr55) ?_
      rintro _ M57 ⟨s55_0, rfl, hN55⟩
      have hH57 : Has Fr M57 [.vec 3 1 r55.1.length s55_0 (r55.1.flatMap enc3), .obj b40 (.row 58 .whole [(.int .i64 c40.Many), (.int .i64 c40.Code)]), .obj b47 (.row 58 .whole [(.int .i64 c47.Many), (.int .i64 c47.Code)])] := hN55.1 _ _ hH
      refine Run.opG wantS_none (ex_move rfl) rfl ?_
      refine Run.opG wantS_none (ex_extract rfl rfl) rfl ?_
      refine Run.opG wantS_none (ex_extract rfl rfl) rfl ?_
      refine Run.opG wantS_none (ex_assign rfl) rfl ?_
      refine Run.opG wantS_none (ex_assign rfl) rfl ?_
      refine Run.opsEnd (Run.seq (Run.region ?_))
      refine Run.opG wantS_none (ex_loadA rfl (hH57.cells (i := 2) rfl 0 rfl) rdLe_rfl agg58 rfl rfl rfl) rfl ?_
      refine Run.opG wantS_none (ex_move rfl) rfl ?_
      refine Run.opG wantS_none (ex_move rfl) rfl ?_
      refine Run.opG wantS_none (ex_move rfl) rfl ?_
      refine Run.opG wantS_none (ex_move rfl) rfl ?_
      refine Run.opG wantS_none (ex_sub rfl rfl) rfl ?_
      obtain ⟨r60, hr60, h⟩ := bnd_some h
      refine Run.callX wantS_none (ex_call rfl mkk44 cal44) rfl (ref08_Open_ok F c47 v0 v1 (w64 (v2 - v13)) sv0 sv1 _ _ (hH57.slcF hv0) ((hv1).mono hH57.le (fun _ _ => rep83_mo hH57.le)) hr60) ?_
      rintro _ M62 ⟨s60_0, rfl, hN60⟩
      have hH62 : Has Fr M62 [.vec 3 1 r60.1.length s60_0 (r60.1.flatMap enc3), .vec 3 1 r55.1.length s55_0 (r55.1.flatMap enc3), .obj b40 (.row 58 .whole [(.int .i64 c40.Many), (.int .i64 c40.Code)]), .obj b47 (.row 58 .whole [(.int .i64 c47.Many), (.int .i64 c47.Code)])] := hN60.1 _ _ hH57
      refine Run.opG wantS_none (ex_move rfl) rfl ?_
      refine Run.opG wantS_none (ex_extract rfl rfl) rfl ?_
      refine Run.opG wantS_none (ex_extract rfl rfl) rfl ?_
      refine Run.opG wantS_none (ex_assign rfl) rfl ?_
      refine Run.opG wantS_none (ex_assign rfl) rfl ?_
      refine Run.opsEnd (Run.seq (Run.region ?_))
      refine Run.opG wantS_none (ex_move rfl) rfl ?_
      refine Run.opG wantS_none (ex_move rfl) rfl ?_
      obtain ⟨r64, hr64, h⟩ := bnd_some h
      refine Run.callP wantS_none (ex_call rfl mkk28 cal28) rfl (ref00_SameInts_ok F r55.1 r60.1 s55_0 s60_0 _ _ (hH62.slc (i := 1) rfl enc3_len) (hH62.slc (i := 0) rfl enc3_len) hr64) ?_
      refine Run.opG wantS_none (ex_not rfl) rfl ?_
      refine Run.opG wantS_none (ex_move rfl) rfl ?_
      rcases btf ((!r64)) with hc66 | hc66
      · have h := bif_t hc66 h
        refine Run.no (wantS_not' rfl rfl hc66) rfl ?_
        refine Run.no (wantS_not' rfl rfl hc66) rfl ?_
        refine Run.no (wantS_not' rfl rfl hc66) rfl ?_
        refine Run.opG wantS_none (ex_pickT' rfl hc66 rfl rfl) rfl ?_
        refine Run.opsEnd ?_
        exact Run.pick [0, 1, 2, 11, 12, 13, 89] (law08_SearchSeals_4_ok F (law08_SearchSeals_3 F N) ih v0 v1 v2 v13 true c40 c47 sv0 sv1 b40 b47 _ _ _ hv0 hv1 (hH62.pick [2, 3] rfl rfl) h)
      · have h := bif_f hc66 h
        refine Run.opG (wantS_yes' rfl rfl hc66) (ex_move rfl) rfl ?_
        refine Run.opG (wantS_yes' rfl rfl hc66) (ex_move rfl) rfl ?_
        refine Run.opG (wantS_yes' rfl rfl hc66) (ex_neq rfl rfl) rfl ?_
        refine Run.opG wantS_none (ex_pickF' rfl hc66 rfl rfl) rfl ?_
        refine Run.opsEnd ?_
        exact Run.pick [0, 1, 2, 11, 12, 13, 89] (law08_SearchSeals_4_ok F (law08_SearchSeals_3 F N) ih v0 v1 v2 v13 (!(r55.2 == r60.2)) c40 c47 sv0 sv1 b40 b47 _ _ _ hv0 hv1 (hH62.pick [2, 3] rfl rfl) h)
    · have h := bif_f hc52 h
      refine Run.condF' rfl hc52 ?_
      refine Run.exit rfl (Run.seq (Run.region ?_))
      obtain ⟨r69, hr69, h⟩ := bnd_some h
      refine Run.callP wantS_none (ex_call rfl mkk22 cal22) rfl (works_ok F r69 _ hH  hr69) ?_
      refine Run.opG wantS_none (ex_assign rfl) rfl ?_
      refine Run.opsEnd ?_
      cases h
      exact Run.ret Try.func8 rfl (res_tmp rfl res_nil) rfl

def law08_SearchSeals_2 (F : Nat) (v0 : (List Int)) (v1 : (List S_api_Wave)) (v2 : Int) (v56 : Bool) (c40 : S_api_Envelope) (c47 : S_api_Envelope) : Option (Bool) :=
  bif v56 then
    some false
  else
    law08_SearchSeals_3 F F v0 v1 v2 (0 : Int) c40 c47

theorem law08_SearchSeals_2_ok (F : Nat) : ∀ (v0 : (List Int)) (v1 : (List S_api_Wave)) (v2 : Int) (v56 : Bool) (c40 : S_api_Envelope) (c47 : S_api_Envelope) (sv0 : SV) (sv1 : SV) (b40 : Pos) (b47 : Pos) (Fr : Rd) (M : Mem) (r : Bool) (hv0 : Slc Fr 1 (FlatR enc3) sv0 v0) (hv1 : Slc Fr 3 (rep83 Fr) sv1 v1) (hH : Has Fr M [.obj b40 (.row 58 .whole [(.int .i64 c40.Many), (.int .i64 c40.Code)]), .obj b47 (.row 58 .whole [(.int .i64 c47.Many), (.int .i64 c47.Code)])]), law08_SearchSeals_2 F v0 v1 v2 v56 c40 c47 = some r → Run Try.prog ⟨⟨8, [], none⟩, []⟩ 91 (law08_SearchSeals_post r) [(0, sv0), (1, sv1), (2, (.int .i64 v2)), (11, (.ptr b40 0)), (12, (.ptr b47 0)), (56, (.bool v56))] [codeC Try.prog 8 [1, 1, 1, 1, 1, 1, 0, 1], codeC Try.prog 8 [1, 1, 1, 1, 1, 1, 1]] M := by
  intro v0 v1 v2 v56 c40 c47 sv0 sv1 b40 b47 Fr M r hv0 hv1 hH h
  rw [law08_SearchSeals_2] at h
  rcases btf (v56) with hc51 | hc51
  · have h := bif_t hc51 h
    refine Run.condT' rfl hc51 ?_
    refine Run.seq (Run.region ?_)
    refine Run.opG wantS_none (ex_assign rfl) rfl ?_
    refine Run.opsEnd ?_
    cases h
    exact Run.ret Try.func8 rfl (res_tmp rfl res_nil) rfl
  · have h := bif_f hc51 h
    refine Run.condF' rfl hc51 ?_
    refine Run.skip (Run.seq (Run.seq (Run.region ?_)))
    refine Run.opG wantS_none (ex_assign rfl) rfl ?_
    refine Run.opsEnd (Run.block (Run.loop ?_))
    exact Run.pick [0, 1, 2, 11, 12, 13] (law08_SearchSeals_3_ok F F v0 v1 v2 (0 : Int) c40 c47 sv0 sv1 b40 b47 _ _ _ hv0 hv1 hH h)

def law08_SearchSeals_1 (F : Nat) (v0 : (List Int)) (v1 : (List S_api_Wave)) (v2 : Int) (v34 : Bool) : Option (Bool) :=
  bif v34 then
    some false
  else
    bnd (search_Seal F v0 v1 v2) fun r37 =>
    bnd (ref08_Seal F v0 v1 v2) fun r44 =>
    bif (!((r37.1.Many == r44.1.Many) && ((r37.1.Code == r44.1.Code) && true))) then
      law08_SearchSeals_2 F v0 v1 v2 true r37.1 r44.1
    else
      law08_SearchSeals_2 F v0 v1 v2 (!(r37.2 == r44.2)) r37.1 r44.1

theorem law08_SearchSeals_1_ok (F : Nat) : ∀ (v0 : (List Int)) (v1 : (List S_api_Wave)) (v2 : Int) (v34 : Bool) (sv0 : SV) (sv1 : SV) (Fr : Rd) (M : Mem) (r : Bool) (hv0 : Slc Fr 1 (FlatR enc3) sv0 v0) (hv1 : Slc Fr 3 (rep83 Fr) sv1 v1) (hH : Has Fr M []), law08_SearchSeals_1 F v0 v1 v2 v34 = some r → Run Try.prog ⟨⟨8, [], none⟩, []⟩ 91 (law08_SearchSeals_post r) [(0, sv0), (1, sv1), (2, (.int .i64 v2)), (34, (.bool v34))] [codeC Try.prog 8 [1, 1, 1, 0, 1], codeC Try.prog 8 [1, 1, 1, 1]] M := by
  intro v0 v1 v2 v34 sv0 sv1 Fr M r hv0 hv1 hH h
  rw [law08_SearchSeals_1] at h
  rcases btf (v34) with hc35 | hc35
  · have h := bif_t hc35 h
    refine Run.condT' rfl hc35 ?_
    refine Run.seq (Run.region ?_)
    refine Run.opG wantS_none (ex_assign rfl) rfl ?_
    refine Run.opsEnd ?_
    cases h
    exact Run.ret Try.func8 rfl (res_tmp rfl res_nil) rfl
  · have h := bif_f hc35 h
    refine Run.condF' rfl hc35 ?_
    refine Run.skip (Run.seq (Run.region ?_))
    refine Run.opG wantS_none (ex_move rfl) rfl ?_
    refine Run.opG wantS_none (ex_move rfl) rfl ?_
    refine Run.opG wantS_none (ex_move rfl) rfl ?_
    obtain ⟨r37, hr37, h⟩ := bnd_some h
    refine Run.callP wantS_none (ex_call rfl mkk41 cal41) rfl (search_Seal_ok F v0 v1 v2 sv0 sv1 _ _ (hH.slcF hv0) ((hv1).mono hH.le (fun _ _ => rep83_mo hH.le)) hr37) ?_
    refine Run.opG wantS_none (ex_move rfl) rfl ?_
    refine Run.opG wantS_none (ex_extract rfl rfl) rfl ?_
    refine Run.opG wantS_none (ex_extract rfl rfl) rfl ?_
    refine Run.opX wantS_none rfl (ExG.new (v := fun b => .ptr b 0) (ex_alloc zer58) hH) ?_
    rintro _ M41 ⟨b40, rfl, (hH41 : Has Fr M41 [.obj b40 (.row 58 .whole [(.int .i64 0), (.int .i64 0)])])⟩
    refine Run.opX wantS_none rfl (ExG.storeC (c' := [(.int .i64 r37.1.Many), (.int .i64 r37.1.Code)]) rfl rfl rfl hH41 (i := 0) rfl sz58 rfl rfl rfl rfl rfl) ?_
    rintro _ M42 ⟨rfl, (hH42 : Has Fr M42 [.obj b40 (.row 58 .whole [(.int .i64 r37.1.Many), (.int .i64 r37.1.Code)])])⟩
    refine Run.opG wantS_none (ex_assign rfl) rfl ?_
    refine Run.opsEnd (Run.seq (Run.region ?_))
    refine Run.opG wantS_none (ex_move rfl) rfl ?_
    refine Run.opG wantS_none (ex_move rfl) rfl ?_
    refine Run.opG wantS_none (ex_move rfl) rfl ?_
    obtain ⟨r44, hr44, h⟩ := bnd_some h
    refine Run.callP wantS_none (ex_call rfl mkk42 cal42) rfl (ref08_Seal_ok F v0 v1 v2 sv0 sv1 _ _ (hH42.slcF hv0) ((hv1).mono hH42.le (fun _ _ => rep83_mo hH42.le)) hr44) ?_
    refine Run.opG wantS_none (ex_move rfl) rfl ?_
    refine Run.opG wantS_none (ex_extract rfl rfl) rfl ?_
    refine Run.opG wantS_none (ex_extract rfl rfl) rfl ?_
    refine Run.opX wantS_none rfl (ExG.new (v := fun b => .ptr b 0) (ex_alloc zer58) hH42) ?_
    rintro _ M48 ⟨b47, rfl, (hH48 : Has Fr M48 [.obj b47 (.row 58 .whole [(.int .i64 0), (.int .i64 0)]), .obj b40 (.row 58 .whole [(.int .i64 r37.1.Many), (.int .i64 r37.1.Code)])])⟩
    refine Run.opX wantS_none rfl (ExG.storeC (c' := [(.int .i64 r44.1.Many), (.int .i64 r44.1.Code)]) rfl rfl rfl hH48 (i := 0) rfl sz58 rfl rfl rfl rfl rfl) ?_
    rintro _ M49 ⟨rfl, (hH49 : Has Fr M49 [.obj b47 (.row 58 .whole [(.int .i64 r44.1.Many), (.int .i64 r44.1.Code)]), .obj b40 (.row 58 .whole [(.int .i64 r37.1.Many), (.int .i64 r37.1.Code)])])⟩
    refine Run.opG wantS_none (ex_assign rfl) rfl ?_
    refine Run.opsEnd (Run.seq (Run.seq (Run.region ?_)))
    refine Run.opG wantS_none (ex_loadA rfl (hH49.cells (i := 1) rfl 0 rfl) rdLe_rfl agg58 rfl rfl rfl) rfl ?_
    refine Run.opG wantS_none (ex_loadA rfl (hH49.cells (i := 0) rfl 0 rfl) rdLe_rfl agg58 rfl rfl rfl) rfl ?_
    refine Run.opG wantS_none (ex_neqA rfl rfl aeq58 (eqA_st agk58 (eqFs_cons (by decide) (part_one agg3 rfl) (part_one agg3 rfl) (eqA_int agk3) (eqFs_cons (by decide) (part_one agg3 rfl) (part_one agg3 rfl) (eqA_int agk3) eqFs_nil)))) rfl ?_
    refine Run.opG wantS_none (ex_move rfl) rfl ?_
    rcases btf ((!((r37.1.Many == r44.1.Many) && ((r37.1.Code == r44.1.Code) && true)))) with hc50 | hc50
    · have h := bif_t hc50 h
      refine Run.no (wantS_not' rfl rfl hc50) rfl ?_
      refine Run.no (wantS_not' rfl rfl hc50) rfl ?_
      refine Run.no (wantS_not' rfl rfl hc50) rfl ?_
      refine Run.opG wantS_none (ex_pickT' rfl hc50 rfl rfl) rfl ?_
      refine Run.opsEnd ?_
      exact Run.pick [0, 1, 2, 11, 12, 56] (law08_SearchSeals_2_ok F v0 v1 v2 true r37.1 r44.1 sv0 sv1 b40 b47 _ _ _ hv0 hv1 (hH49.pick [1, 0] rfl rfl) h)
    · have h := bif_f hc50 h
      refine Run.opG (wantS_yes' rfl rfl hc50) (ex_move rfl) rfl ?_
      refine Run.opG (wantS_yes' rfl rfl hc50) (ex_move rfl) rfl ?_
      refine Run.opG (wantS_yes' rfl rfl hc50) (ex_neq rfl rfl) rfl ?_
      refine Run.opG wantS_none (ex_pickF' rfl hc50 rfl rfl) rfl ?_
      refine Run.opsEnd ?_
      exact Run.pick [0, 1, 2, 11, 12, 56] (law08_SearchSeals_2_ok F v0 v1 v2 (!(r37.2 == r44.2)) r37.1 r44.1 sv0 sv1 b40 b47 _ _ _ hv0 hv1 (hH49.pick [1, 0] rfl rfl) h)

def law08_SearchSeals (F : Nat) (a0 : (List Int)) (a1 : (List S_api_Wave)) (a2 : Int) : Option (Bool) :=
  bnd (search_Inject F a0 a1) fun r23 =>
  bnd (ref08_Inject F a0 a1) fun r28 =>
  bnd (ref00_SameInts F r23.1 r28.1) fun r32 =>
  bif (!r32) then
    law08_SearchSeals_1 F a0 a1 a2 true
  else
    law08_SearchSeals_1 F a0 a1 a2 (!(r23.2 == r28.2))

theorem law08_SearchSeals_run (F : Nat) (a0 : (List Int)) (a1 : (List S_api_Wave)) (a2 : Int) (s0 s1 : SV) (r : Bool) (M : Mem) (hs0 : Slc (rd M) 1 (FlatR enc3) s0 a0) (hs1 : Slc (rd M) 3 (rep83 (rd M)) s1 a1) (hfx : FixIn M fixes) (h : law08_SearchSeals F a0 a1 a2 = some r) : Run Try.prog (fx0 8) 91 (law08_SearchSeals_post r) [(0, s0), (1, s1), (2, (.int .i64 a2))] [codeC Try.prog 8 []] (frozen M) := by
  rw [law08_SearchSeals] at h
  replace hs0 := hs0.mono (rdLe_frozen M) (fun _ _ h => h)
  replace hs1 := hs1.mono (rdLe_frozen M) (fun _ _ => rep83_mo (rdLe_frozen M))
  have hH : Has (ro (frozen M)) (frozen M) [] := Has.ofFix hfx.frozen
  refine Run.seq (Run.region ?_)
  refine Run.opG wantS_none (ex_assign rfl) rfl ?_
  refine Run.opsEnd (Run.seq (Run.region ?_))
  refine Run.opG wantS_none (ex_move rfl) rfl ?_
  refine Run.opG wantS_none (ex_move rfl) rfl ?_
  obtain ⟨r23, hr23, h⟩ := bnd_some h
  refine Run.callX wantS_none (ex_call rfl mkk39 cal39) rfl (search_Inject_ok F a0 a1 s0 s1 _ _ (hH.slcF hs0) ((hs1).mono hH.le (fun _ _ => rep83_mo hH.le)) hr23) ?_
  rintro _ M25 ⟨s23_0, rfl, hN23⟩
  have hH25 : Has (ro (frozen M)) M25 [.vec 3 1 r23.1.length s23_0 (r23.1.flatMap enc3)] := hN23.1 _ _ hH
  refine Run.opG wantS_none (ex_move rfl) rfl ?_
  refine Run.opG wantS_none (ex_extract rfl rfl) rfl ?_
  refine Run.opG wantS_none (ex_extract rfl rfl) rfl ?_
  refine Run.opG wantS_none (ex_assign rfl) rfl ?_
  refine Run.opG wantS_none (ex_assign rfl) rfl ?_
  refine Run.opsEnd (Run.seq (Run.region ?_))
  refine Run.opG wantS_none (ex_move rfl) rfl ?_
  refine Run.opG wantS_none (ex_move rfl) rfl ?_
  obtain ⟨r28, hr28, h⟩ := bnd_some h
  refine Run.callX wantS_none (ex_call rfl mkk40 cal40) rfl (ref08_Inject_ok F a0 a1 s0 s1 _ _ (hH25.slcF hs0) ((hs1).mono hH25.le (fun _ _ => rep83_mo hH25.le)) hr28) ?_
  rintro _ M30 ⟨s28_0, rfl, hN28⟩
  have hH30 : Has (ro (frozen M)) M30 [.vec 3 1 r28.1.length s28_0 (r28.1.flatMap enc3), .vec 3 1 r23.1.length s23_0 (r23.1.flatMap enc3)] := hN28.1 _ _ hH25
  refine Run.opG wantS_none (ex_move rfl) rfl ?_
  refine Run.opG wantS_none (ex_extract rfl rfl) rfl ?_
  refine Run.opG wantS_none (ex_extract rfl rfl) rfl ?_
  refine Run.opG wantS_none (ex_assign rfl) rfl ?_
  refine Run.opG wantS_none (ex_assign rfl) rfl ?_
  refine Run.opsEnd (Run.seq (Run.seq (Run.region ?_)))
  refine Run.opG wantS_none (ex_move rfl) rfl ?_
  refine Run.opG wantS_none (ex_move rfl) rfl ?_
  obtain ⟨r32, hr32, h⟩ := bnd_some h
  refine Run.callP wantS_none (ex_call rfl mkk28 cal28) rfl (ref00_SameInts_ok F r23.1 r28.1 s23_0 s28_0 _ _ (hH30.slc (i := 1) rfl enc3_len) (hH30.slc (i := 0) rfl enc3_len) hr32) ?_
  refine Run.opG wantS_none (ex_not rfl) rfl ?_
  refine Run.opG wantS_none (ex_move rfl) rfl ?_
  rcases btf ((!r32)) with hc34 | hc34
  · have h := bif_t hc34 h
    refine Run.no (wantS_not' rfl rfl hc34) rfl ?_
    refine Run.no (wantS_not' rfl rfl hc34) rfl ?_
    refine Run.no (wantS_not' rfl rfl hc34) rfl ?_
    refine Run.opG wantS_none (ex_pickT' rfl hc34 rfl rfl) rfl ?_
    refine Run.opsEnd ?_
    exact Run.pick [0, 1, 2, 34] (law08_SearchSeals_1_ok F a0 a1 a2 true s0 s1 _ _ _ hs0 hs1 (hH30.pick [] rfl rfl) h)
  · have h := bif_f hc34 h
    refine Run.opG (wantS_yes' rfl rfl hc34) (ex_move rfl) rfl ?_
    refine Run.opG (wantS_yes' rfl rfl hc34) (ex_move rfl) rfl ?_
    refine Run.opG (wantS_yes' rfl rfl hc34) (ex_neq rfl rfl) rfl ?_
    refine Run.opG wantS_none (ex_pickF' rfl hc34 rfl rfl) rfl ?_
    refine Run.opsEnd ?_
    exact Run.pick [0, 1, 2, 34] (law08_SearchSeals_1_ok F a0 a1 a2 (!(r23.2 == r28.2)) s0 s1 _ _ _ hs0 hs1 (hH30.pick [] rfl rfl) h)

end Go.Ev.SearchSeals
