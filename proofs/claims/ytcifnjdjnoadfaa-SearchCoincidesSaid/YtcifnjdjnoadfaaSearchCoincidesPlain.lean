/- Plain functions that say what functions of the program come to, and proofs of it, written by a program of the verifier's own. -/
import Derived.Test.YtcifnjdjnoadfaaEvL11
import Derived.Test.YtcifnjdjnoadfaaWorks
import Derived.KernelRfl
namespace Go.Ev.SearchCoincides
open Go Go.Ev Go.Proofs
set_option maxRecDepth 100000
set_option linter.unusedVariables false

/-- The listed tables. -/
noncomputable def fixes : List (Nat × List SV) := Go.Proofs.Ytcifnjdjnoadfaa.works.fixes
/-- works() comes to true. -/
def works (_ : Nat) : Option Bool := some true
theorem fixH {Fr : Rd} {H : List Ent} {M : Mem} (hH : Has Fr M H) : FixIn M fixes := fun x hx => absurd hx List.not_mem_nil

theorem works_ok (F : Nat) (r : Bool) {Fr : Rd} {H : List Ent} (M : Mem) (hH : Has Fr M H) (h : works F = some r) : CallsM Try.prog 22 [] M fun s M' => s = .bool r ∧ M' = M := by
  cases h
  exact CallsM.closedFix (n := 300) (l := Go.Proofs.Ytcifnjdjnoadfaa.works.fixes) Go.Proofs.Ytcifnjdjnoadfaa.works.below Go.Proofs.Ytcifnjdjnoadfaa.works.plainF Go.Proofs.Ytcifnjdjnoadfaa.works.works_true (fun x hx => absurd hx List.not_mem_nil)


structure S_api_Trigger where
  Time : Int
  Loud : Int
  Template : Int

structure S_ringdownlaw08_Clock where
  Live : Int
  Window : Int
  Step : Int
  Limit : Int

def enc76 (a : S_api_Trigger) : List SV := [(.int .i64 a.Time), (.int .i64 a.Loud), (.int .i64 a.Template)]
theorem enc76_len (a : S_api_Trigger) : (enc76 a).length = 3 := rfl
theorem enc76_ones (a : S_api_Trigger) : ones (enc76 a) = true := rfl
def rep22 (f : Rd) (cs : List SV) (a : (List S_api_Trigger)) : Prop := ∃ q1, cs = [q1] ∧ Slc f 3 (FlatR enc76) q1 a
theorem rep22_mo {f g : Rd} (h : RdLe f g) {cs : List SV} {a : (List S_api_Trigger)} : rep22 f cs a → rep22 g cs a := by
  rintro ⟨q1, rfl, h0⟩
  exact ⟨q1, rfl, h0.mono h (fun _ _ h => h)⟩
theorem rep22_len {f : Rd} {cs : List SV} {a : (List S_api_Trigger)} : rep22 f cs a → cs.length = 1 := by
  rintro ⟨_, rfl, h0⟩
  rfl
theorem rep22_ones {f : Rd} {cs : List SV} {a : (List S_api_Trigger)} : rep22 f cs a → ones cs = true := by
  rintro ⟨_, rfl, h0⟩
  exact (ones_cons (slc_one h0) ones_nil)
theorem elt132 : sliceElt Try.prog 132 = some (⟨1, 24, [.nils], 22⟩ : Elt) := by kernel_rfl
theorem lenk132 : lenK Try.prog 132 = some .sl := by kernel_rfl
theorem els132 : elems Try.prog 132 = some (.sl 1) := by kernel_rfl
theorem agg22 : aggSize Try.prog 22 = some none := by kernel_rfl
theorem lenk22 : lenK Try.prog 22 = some .sl := by kernel_rfl
theorem els22 : elems Try.prog 22 = some (.sl 3) := by kernel_rfl
theorem agg76 : aggSize Try.prog 76 = some (some 3) := by kernel_rfl
theorem zer76 : zerosOf Try.prog 76 = some [(.int .i64 0), (.int .i64 0), (.int .i64 0)] := by kernel_rfl
theorem sz76 : szOf Try.prog 76 = some 3 := by kernel_rfl
theorem off76_0 : fieldOff Try.prog 76 0 = some 0 := by kernel_rfl
theorem agg3 : aggSize Try.prog 3 = some none := by kernel_rfl
abbrev search_isFrom_post (r : Bool) : SV → Mem → Prop := fun s _ => s = (.bool r)

def search_isFrom_1 (F : Nat) (v14 : Bool) : Option (Bool) :=
  some v14

theorem search_isFrom_1_ok (F : Nat) : ∀ (v14 : Bool) (Fr : Rd) (M : Mem) (r : Bool) (hH : Has Fr M []), search_isFrom_1 F v14 = some r → Run Try.prog ⟨⟨62, [], none⟩, []⟩ 15 (search_isFrom_post r) [(14, (.bool v14))] [itemC Try.prog 62 [1, 0] 8, codeC Try.prog 62 [1, 1]] M := by
  intro v14 Fr M r hH h
  rw [search_isFrom_1] at h
  refine Run.opG wantS_none (ex_assign rfl) rfl ?_
  refine Run.opsEnd ?_
  cases h
  exact Run.ret Try.func62 rfl (res_tmp rfl res_nil) rfl

def search_isFrom (F : Nat) (a0 : Int) (a1 : Int) (a2 : Int) : Option (Bool) :=
  bif (decide (a0 ≤ a1)) then
    search_isFrom_1 F (decide (a1 ≤ a2))
  else
    search_isFrom_1 F false

theorem search_isFrom_ok (F : Nat) (a0 : Int) (a1 : Int) (a2 : Int) (r : Bool) (M : Mem) (h : search_isFrom F a0 a1 a2 = some r) : CallsM Try.prog 62 [(.int .i64 a0), (.int .i64 a1), (.int .i64 a2)] M (fun s M' => s = (.bool r) ∧ M' = M) := by
  refine CallsM.plain Try.func62 rfl rfl rfl (show Run _ _ _ (search_isFrom_post r) _ _ _ from ?_)
  rw [search_isFrom] at h
  have hH := Has.nil (frozen M)
  refine Run.seq (Run.region ?_)
  refine Run.opG wantS_none (ex_assign rfl) rfl ?_
  refine Run.opsEnd (Run.seq (Run.region ?_))
  refine Run.opG wantS_none (ex_move rfl) rfl ?_
  refine Run.opG wantS_none (ex_move rfl) rfl ?_
  refine Run.opG wantS_none (ex_leq rfl rfl) rfl ?_
  refine Run.opG wantS_none (ex_move rfl) rfl ?_
  rcases btf ((decide (a0 ≤ a1))) with hc21 | hc21
  · have h := bif_t hc21 h
    refine Run.opG (wantS_yes' rfl rfl hc21) (ex_move rfl) rfl ?_
    refine Run.opG (wantS_yes' rfl rfl hc21) (ex_move rfl) rfl ?_
    refine Run.opG (wantS_yes' rfl rfl hc21) (ex_leq rfl rfl) rfl ?_
    refine Run.opG wantS_none (ex_pickT' rfl hc21 rfl rfl) rfl ?_
    exact Run.pick [14] (search_isFrom_1_ok F (decide (a1 ≤ a2)) _ _ _ hH h)
  · have h := bif_f hc21 h
    refine Run.no (wantS_not' rfl rfl hc21) rfl ?_
    refine Run.no (wantS_not' rfl rfl hc21) rfl ?_
    refine Run.no (wantS_not' rfl rfl hc21) rfl ?_
    refine Run.opG wantS_none (ex_pickF' rfl hc21 rfl rfl) rfl ?_
    exact Run.pick [14] (search_isFrom_1_ok F false _ _ _ hH h)

theorem mkk62 : makeK Try.prog 62 = none := by kernel_rfl
theorem cal62 : callable Try.prog 62 = true := by kernel_rfl
theorem off76_2 : fieldOff Try.prog 76 2 = some 2 := by kernel_rfl
theorem off76_1 : fieldOff Try.prog 76 1 = some 1 := by kernel_rfl
abbrev search_areTriggers_post (r : Bool) : SV → Mem → Prop := fun s _ => s = (.bool r)

def search_areTriggers_3 (F : Nat) (hd1 : Int → (List S_api_Trigger) → Int → Int → Option (Bool)) (v9 : (List S_api_Trigger)) (v10 : Int) (v11 : Int) (v32 : Bool) (c26 : S_api_Trigger) : Option (Bool) :=
  bif v32 then
    some false
  else
    hd1 c26.Time v9 v10 (w64 (v11 + (1 : Int)))

theorem search_areTriggers_3_ok (F : Nat) (hd1 : Int → (List S_api_Trigger) → Int → Int → Option (Bool)) (hhd1 : ∀ (v3 : Int) (v9 : (List S_api_Trigger)) (v10 : Int) (v11 : Int) (sv9 : SV) (Fr : Rd) (M : Mem) (r : Bool) (hv9 : Slc Fr 3 (FlatR enc76) sv9 v9) (hH : Has Fr M []), hd1 v3 v9 v10 v11 = some r → Run Try.prog ⟨⟨99, [], none⟩, []⟩ 36 (search_areTriggers_post r) [(3, (.int .i64 v3)), (9, sv9), (10, (.int .i64 v10)), (11, (.int .i64 v11))] [codeC Try.prog 99 [1, 1, 1, 0, 1, 0, 0], loopC Try.prog 99 [1, 1, 1, 0, 1, 0, 0], .inBlock 0, codeC Try.prog 99 [1, 1, 1, 1]] M) : ∀ (v9 : (List S_api_Trigger)) (v10 : Int) (v11 : Int) (v32 : Bool) (c26 : S_api_Trigger) (sv9 : SV) (b26 : Pos) (Fr : Rd) (M : Mem) (r : Bool) (hv9 : Slc Fr 3 (FlatR enc76) sv9 v9) (hH : Has Fr M [.obj b26 (.row 76 .whole [(.int .i64 c26.Time), (.int .i64 c26.Loud), (.int .i64 c26.Template)])]), search_areTriggers_3 F hd1 v9 v10 v11 v32 c26 = some r → Run Try.prog ⟨⟨99, [], none⟩, []⟩ 36 (search_areTriggers_post r) [(5, (.ptr b26 0)), (9, sv9), (10, (.int .i64 v10)), (11, (.int .i64 v11)), (32, (.bool v32))] [codeC Try.prog 99 [1, 1, 1, 0, 1, 0, 0, 1, 1, 0, 0, 1, 0, 1], codeC Try.prog 99 [1, 1, 1, 0, 1, 0, 0, 1, 1, 0, 0, 1, 1], .inBlock 1, codeC Try.prog 99 [1, 1, 1, 0, 1, 0, 0, 1, 1, 1], loopC Try.prog 99 [1, 1, 1, 0, 1, 0, 0], .inBlock 0, codeC Try.prog 99 [1, 1, 1, 1]] M := by
  intro v9 v10 v11 v32 c26 sv9 b26 Fr M r hv9 hH h
  rw [search_areTriggers_3] at h
  rcases btf (v32) with hc34 | hc34
  · have h := bif_t hc34 h
    refine Run.condT' rfl hc34 ?_
    refine Run.seq (Run.region ?_)
    refine Run.opG wantS_none (ex_assign rfl) rfl ?_
    refine Run.opsEnd ?_
    cases h
    exact Run.ret Try.func99 rfl (res_tmp rfl res_nil) rfl
  · have h := bif_f hc34 h
    refine Run.condF' rfl hc34 ?_
    refine Run.skip (Run.region ?_)
    refine Run.opG wantS_none (ex_fieldAddr rfl off76_0) rfl ?_
    refine Run.opG wantS_none (ex_load1 rfl (hH.cells (i := 0) rfl 0 rfl) rdLe_rfl agg3) rfl ?_
    refine Run.opG wantS_none (ex_assign rfl) rfl ?_
    refine Run.opsEnd (Run.inBlock (Run.region ?_))
    refine Run.opG wantS_none (ex_add rfl rfl) rfl ?_
    refine Run.opG wantS_none (ex_move rfl) rfl ?_
    refine Run.opsEnd (Run.inLoop ?_)
    exact Run.pick [3, 9, 10, 11] (hhd1 c26.Time v9 v10 (w64 (v11 + (1 : Int))) sv9 _ _ _ hv9 (hH.pick [] rfl rfl) h)

def search_areTriggers_2 (F : Nat) (hd1 : Int → (List S_api_Trigger) → Int → Int → Option (Bool)) (v9 : (List S_api_Trigger)) (v10 : Int) (v11 : Int) (v26 : Bool) (c26 : S_api_Trigger) : Option (Bool) :=
  bif v26 then
    search_areTriggers_3 F hd1 v9 v10 v11 true c26
  else
    bnd (search_isFrom F (0 : Int) c26.Template (255 : Int)) fun r36 =>
    search_areTriggers_3 F hd1 v9 v10 v11 (!r36) c26

theorem search_areTriggers_2_ok (F : Nat) (hd1 : Int → (List S_api_Trigger) → Int → Int → Option (Bool)) (hhd1 : ∀ (v3 : Int) (v9 : (List S_api_Trigger)) (v10 : Int) (v11 : Int) (sv9 : SV) (Fr : Rd) (M : Mem) (r : Bool) (hv9 : Slc Fr 3 (FlatR enc76) sv9 v9) (hH : Has Fr M []), hd1 v3 v9 v10 v11 = some r → Run Try.prog ⟨⟨99, [], none⟩, []⟩ 36 (search_areTriggers_post r) [(3, (.int .i64 v3)), (9, sv9), (10, (.int .i64 v10)), (11, (.int .i64 v11))] [codeC Try.prog 99 [1, 1, 1, 0, 1, 0, 0], loopC Try.prog 99 [1, 1, 1, 0, 1, 0, 0], .inBlock 0, codeC Try.prog 99 [1, 1, 1, 1]] M) : ∀ (v9 : (List S_api_Trigger)) (v10 : Int) (v11 : Int) (v26 : Bool) (c26 : S_api_Trigger) (sv9 : SV) (b26 : Pos) (Fr : Rd) (M : Mem) (r : Bool) (hv9 : Slc Fr 3 (FlatR enc76) sv9 v9) (hH : Has Fr M [.obj b26 (.row 76 .whole [(.int .i64 c26.Time), (.int .i64 c26.Loud), (.int .i64 c26.Template)])]), search_areTriggers_2 F hd1 v9 v10 v11 v26 c26 = some r → Run Try.prog ⟨⟨99, [], none⟩, []⟩ 36 (search_areTriggers_post r) [(5, (.ptr b26 0)), (9, sv9), (10, (.int .i64 v10)), (11, (.int .i64 v11)), (26, (.bool v26))] [itemC Try.prog 99 [1, 1, 1, 0, 1, 0, 0, 1, 1, 0, 0, 1, 0, 0] 12, codeC Try.prog 99 [1, 1, 1, 0, 1, 0, 0, 1, 1, 0, 0, 1, 0, 1], codeC Try.prog 99 [1, 1, 1, 0, 1, 0, 0, 1, 1, 0, 0, 1, 1], .inBlock 1, codeC Try.prog 99 [1, 1, 1, 0, 1, 0, 0, 1, 1, 1], loopC Try.prog 99 [1, 1, 1, 0, 1, 0, 0], .inBlock 0, codeC Try.prog 99 [1, 1, 1, 1]] M := by
  intro v9 v10 v11 v26 c26 sv9 b26 Fr M r hv9 hH h
  rw [search_areTriggers_2] at h
  refine Run.opG wantS_none (ex_move rfl) rfl ?_
  rcases btf (v26) with hc33 | hc33
  · have h := bif_t hc33 h
    refine Run.no (wantS_not' rfl rfl hc33) rfl ?_
    refine Run.no (wantS_not' rfl rfl hc33) rfl ?_
    refine Run.no (wantS_not' rfl rfl hc33) rfl ?_
    refine Run.no (wantS_not' rfl rfl hc33) rfl ?_
    refine Run.opG wantS_none (ex_pickT' rfl hc33 rfl rfl) rfl ?_
    refine Run.opsEnd ?_
    exact Run.pick [5, 9, 10, 11, 32] (search_areTriggers_3_ok F hd1 hhd1 v9 v10 v11 true c26 sv9 b26 _ _ _ hv9 hH h)
  · have h := bif_f hc33 h
    refine Run.opG (wantS_yes' rfl rfl hc33) (ex_fieldAddr rfl off76_2) rfl ?_
    refine Run.opG (wantS_yes' rfl rfl hc33) (ex_load1 rfl (hH.cells (i := 0) rfl 2 rfl) rdLe_rfl agg3) rfl ?_
    obtain ⟨r36, hr36, h⟩ := bnd_some h
    refine Run.callP (wantS_yes' rfl rfl hc33) (ex_call rfl mkk62 cal62) rfl (search_isFrom_ok F (0 : Int) c26.Template (255 : Int) _ _ hr36) ?_
    refine Run.opG (wantS_yes' rfl rfl hc33) (ex_not rfl) rfl ?_
    refine Run.opG wantS_none (ex_pickF' rfl hc33 rfl rfl) rfl ?_
    refine Run.opsEnd ?_
    exact Run.pick [5, 9, 10, 11, 32] (search_areTriggers_3_ok F hd1 hhd1 v9 v10 v11 (!r36) c26 sv9 b26 _ _ _ hv9 hH h)

def search_areTriggers_1 (F : Nat) : Nat → Int → (List S_api_Trigger) → Int → Int → Option (Bool)
  | 0, _, _, _, _ => none
  | N + 1, v3, v9, v10, v11 =>
    bif (decide (v11 < v10)) then
      bnd (idx v9 v11) fun x24 =>
      bnd (search_isFrom F (w64 (v3 + (1 : Int))) x24.Time (1073741823 : Int)) fun r30 =>
      bif (!r30) then
        search_areTriggers_2 F (search_areTriggers_1 F N) v9 v10 v11 true x24
      else
        bnd (search_isFrom F (0 : Int) x24.Loud (1073741824 : Int)) fun r39 =>
        search_areTriggers_2 F (search_areTriggers_1 F N) v9 v10 v11 (!r39) x24
    else
      some true

theorem search_areTriggers_1_ok (F : Nat) : ∀ (N : Nat), ∀ (v3 : Int) (v9 : (List S_api_Trigger)) (v10 : Int) (v11 : Int) (sv9 : SV) (Fr : Rd) (M : Mem) (r : Bool) (hv9 : Slc Fr 3 (FlatR enc76) sv9 v9) (hH : Has Fr M []), search_areTriggers_1 F N v3 v9 v10 v11 = some r → Run Try.prog ⟨⟨99, [], none⟩, []⟩ 36 (search_areTriggers_post r) [(3, (.int .i64 v3)), (9, sv9), (10, (.int .i64 v10)), (11, (.int .i64 v11))] [codeC Try.prog 99 [1, 1, 1, 0, 1, 0, 0], loopC Try.prog 99 [1, 1, 1, 0, 1, 0, 0], .inBlock 0, codeC Try.prog 99 [1, 1, 1, 1]] M := by
  intro N
  induction N with
  | zero =>
    intro v3 v9 v10 v11 sv9 Fr M r hv9 hH h
    simp [search_areTriggers_1] at h
  | succ N ih =>
    intro v3 v9 v10 v11 sv9 Fr M r hv9 hH h
    rw [search_areTriggers_1] at h
    refine Run.seq (Run.region ?_)
    refine Run.opG wantS_none (ex_lss rfl rfl) rfl ?_
    refine Run.opsEnd (Run.seq ?_)
    rcases btf ((decide (v11 < v10))) with hc22 | hc22
    · have h := bif_t hc22 h
      refine Run.condT' rfl hc22 ?_
      refine Run.skip (Run.seq (Run.block (Run.seq (Run.region ?_))))
      obtain ⟨x24, hx24, h⟩ := bnd_some h
      obtain ⟨p24, o24, _, hx24, hp24, rfl⟩ := sl_elem (P := Try.prog) (t := 22) (kk := .i64) hv9 hx24 els22
      refine Run.opG wantS_none (ex_elX rfl rfl hx24) rfl ?_
      refine Run.opG wantS_none (ex_loadA rfl (hH.ptrF hp24) rdLe_rfl agg76 rfl rfl rfl) rfl ?_
      refine Run.opX wantS_none rfl (ExG.new (v := fun b => .ptr b 0) (ex_alloc zer76) hH) ?_
      rintro _ M27 ⟨b26, rfl, (hH27 : Has Fr M27 [.obj b26 (.row 76 .whole [(.int .i64 0), (.int .i64 0), (.int .i64 0)])])⟩
      refine Run.opX wantS_none rfl (ExG.storeC (c' := [(.int .i64 x24.Time), (.int .i64 x24.Loud), (.int .i64 x24.Template)]) rfl rfl rfl hH27 (i := 0) rfl sz76 rfl rfl rfl rfl rfl) ?_
      rintro _ M28 ⟨rfl, (hH28 : Has Fr M28 [.obj b26 (.row 76 .whole [(.int .i64 x24.Time), (.int .i64 x24.Loud), (.int .i64 x24.Template)])])⟩
      refine Run.opsEnd (Run.seq (Run.seq (Run.region ?_)))
      refine Run.opG wantS_none (ex_move rfl) rfl ?_
      refine Run.opG wantS_none (ex_add rfl rfl) rfl ?_
      refine Run.opG wantS_none (ex_fieldAddr rfl off76_0) rfl ?_
      refine Run.opG wantS_none (ex_load1 rfl (hH28.cells (i := 0) rfl 0 rfl) rdLe_rfl agg3) rfl ?_
      obtain ⟨r30, hr30, h⟩ := bnd_some h
      refine Run.callP wantS_none (ex_call rfl mkk62 cal62) rfl (search_isFrom_ok F (w64 (v3 + (1 : Int))) x24.Time (1073741823 : Int) _ _ hr30) ?_
      refine Run.opG wantS_none (ex_not rfl) rfl ?_
      refine Run.opG wantS_none (ex_move rfl) rfl ?_
      rcases btf ((!r30)) with hc32 | hc32
      · have h := bif_t hc32 h
        refine Run.no (wantS_not' rfl rfl hc32) rfl ?_
        refine Run.no (wantS_not' rfl rfl hc32) rfl ?_
        refine Run.no (wantS_not' rfl rfl hc32) rfl ?_
        refine Run.no (wantS_not' rfl rfl hc32) rfl ?_
        refine Run.opG wantS_none (ex_pickT' rfl hc32 rfl rfl) rfl ?_
        exact Run.pick [5, 9, 10, 11, 26] (search_areTriggers_2_ok F (search_areTriggers_1 F N) ih v9 v10 v11 true x24 sv9 b26 _ _ _ hv9 hH28 h)
      · have h := bif_f hc32 h
        refine Run.opG (wantS_yes' rfl rfl hc32) (ex_fieldAddr rfl off76_1) rfl ?_
        refine Run.opG (wantS_yes' rfl rfl hc32) (ex_load1 rfl (hH28.cells (i := 0) rfl 1 rfl) rdLe_rfl agg3) rfl ?_
        obtain ⟨r39, hr39, h⟩ := bnd_some h
        refine Run.callP (wantS_yes' rfl rfl hc32) (ex_call rfl mkk62 cal62) rfl (search_isFrom_ok F (0 : Int) x24.Loud (1073741824 : Int) _ _ hr39) ?_
        refine Run.opG (wantS_yes' rfl rfl hc32) (ex_not rfl) rfl ?_
        refine Run.opG wantS_none (ex_pickF' rfl hc32 rfl rfl) rfl ?_
        exact Run.pick [5, 9, 10, 11, 26] (search_areTriggers_2_ok F (search_areTriggers_1 F N) ih v9 v10 v11 (!r39) x24 sv9 b26 _ _ _ hv9 hH28 h)
    · have h := bif_f hc22 h
      refine Run.condF' rfl hc22 ?_
      refine Run.exit rfl (Run.seq (Run.region ?_))
      refine Run.opG wantS_none (ex_assign rfl) rfl ?_
      refine Run.opsEnd ?_
      cases h
      exact Run.ret Try.func99 rfl (res_tmp rfl res_nil) rfl

def search_areTriggers (F : Nat) (a0 : (List S_api_Trigger)) : Option (Bool) :=
  bif (decide ((256 : Int) < (a0.length : Int))) then
    some false
  else
    search_areTriggers_1 F F ((-1) : Int) a0 (a0.length : Int) (0 : Int)

theorem search_areTriggers_ok (F : Nat) (a0 : (List S_api_Trigger)) (s0 : SV) (r : Bool) (M : Mem) (hs0 : Slc (rd M) 3 (FlatR enc76) s0 a0) (h : search_areTriggers F a0 = some r) : CallsM Try.prog 99 [s0] M (fun s M' => s = (.bool r) ∧ M' = M) := by
  refine CallsM.plain Try.func99 rfl rfl rfl (show Run _ _ _ (search_areTriggers_post r) _ _ _ from ?_)
  rw [search_areTriggers] at h
  replace hs0 := hs0.mono (rdLe_frozen M) (fun _ _ h => h)
  have hH := Has.nil (frozen M)
  refine Run.seq (Run.region ?_)
  refine Run.opG wantS_none (ex_assign rfl) rfl ?_
  refine Run.opsEnd (Run.seq (Run.seq (Run.region ?_)))
  refine Run.opG wantS_none (ex_move rfl) rfl ?_
  refine Run.opG wantS_none (ex_len' rfl hs0 lenk22) rfl ?_
  refine Run.opG wantS_none (ex_gtr rfl rfl) rfl ?_
  refine Run.opsEnd ?_
  rcases btf ((decide ((256 : Int) < (a0.length : Int)))) with hc21 | hc21
  · have h := bif_t hc21 h
    refine Run.condT' rfl hc21 ?_
    refine Run.seq (Run.region ?_)
    refine Run.opG wantS_none (ex_assign rfl) rfl ?_
    refine Run.opsEnd ?_
    cases h
    exact Run.ret Try.func99 rfl (res_tmp rfl res_nil) rfl
  · have h := bif_f hc21 h
    refine Run.condF' rfl hc21 ?_
    refine Run.skip (Run.seq (Run.region ?_))
    refine Run.opG wantS_none (ex_assign rfl) rfl ?_
    refine Run.opsEnd (Run.seq (Run.seq (Run.region ?_)))
    refine Run.opG wantS_none (ex_move rfl) rfl ?_
    refine Run.opG wantS_none (ex_len' rfl hs0 lenk22) rfl ?_
    refine Run.opG wantS_none (ex_move rfl) rfl ?_
    refine Run.opsEnd (Run.block (Run.loop ?_))
    exact Run.pick [3, 9, 10, 11] (search_areTriggers_1_ok F F ((-1) : Int) a0 (a0.length : Int) (0 : Int) s0 _ _ _ hs0 hH h)

theorem mkk99 : makeK Try.prog 99 = none := by kernel_rfl
theorem cal99 : callable Try.prog 99 = true := by kernel_rfl
abbrev search_checkTriggers_post (r : Int) : SV → Mem → Prop := fun s _ => s = (.int .i64 r)

def search_checkTriggers_1 (F : Nat) : Nat → (List (List S_api_Trigger)) → Int → Int → Option (Int)
  | 0, _, _, _ => none
  | N + 1, v5, v6, v7 =>
    bif (decide (v7 < v6)) then
      bnd (idx v5 v7) fun x23 =>
      bnd (search_areTriggers F x23) fun r25 =>
      bif (!r25) then
        some (80 : Int)
      else
        (search_checkTriggers_1 F N) v5 v6 (w64 (v7 + (1 : Int)))
    else
      some (0 : Int)

theorem search_checkTriggers_1_ok (F : Nat) : ∀ (N : Nat), ∀ (v5 : (List (List S_api_Trigger))) (v6 : Int) (v7 : Int) (sv5 : SV) (Fr : Rd) (M : Mem) (r : Int) (hv5 : Slc Fr 1 (rep22 Fr) sv5 v5) (hH : Has Fr M []), search_checkTriggers_1 F N v5 v6 v7 = some r → Run Try.prog ⟨⟨54, [], none⟩, []⟩ 15 (search_checkTriggers_post r) [(5, sv5), (6, (.int .i64 v6)), (7, (.int .i64 v7))] [codeC Try.prog 54 [1, 0, 1, 0, 0], loopC Try.prog 54 [1, 0, 1, 0, 0], .inBlock 0, codeC Try.prog 54 [1, 1]] M := by
  intro N
  induction N with
  | zero =>
    intro v5 v6 v7 sv5 Fr M r hv5 hH h
    simp [search_checkTriggers_1] at h
  | succ N ih =>
    intro v5 v6 v7 sv5 Fr M r hv5 hH h
    rw [search_checkTriggers_1] at h
    refine Run.seq (Run.region ?_)
    refine Run.opG wantS_none (ex_lss rfl rfl) rfl ?_
    refine Run.opsEnd (Run.seq ?_)
    rcases btf ((decide (v7 < v6))) with hc21 | hc21
    · have h := bif_t hc21 h
      refine Run.condT' rfl hc21 ?_
      refine Run.skip (Run.seq (Run.block (Run.seq (Run.region ?_))))
      obtain ⟨x23, hx23, h⟩ := bnd_some h
      obtain ⟨p23, o23, _, hx23, hp23, ⟨q23_0, rfl, hq23_0⟩⟩ := sl_elem (P := Try.prog) (t := 132) (kk := .i64) hv5 hx23 els132
      refine Run.opG wantS_none (ex_elX rfl rfl hx23) rfl ?_
      refine Run.opG wantS_none (ex_load1 rfl (hH.ptrF hp23) rdLe_rfl agg22) rfl ?_
      refine Run.opG wantS_none (ex_assign rfl) rfl ?_
      refine Run.opsEnd (Run.seq (Run.region ?_))
      refine Run.opG wantS_none (ex_move rfl) rfl ?_
      obtain ⟨r25, hr25, h⟩ := bnd_some h
      refine Run.callP wantS_none (ex_call rfl mkk99 cal99) rfl (search_areTriggers_ok F x23 q23_0 _ _ (hH.slcF hq23_0) hr25) ?_
      refine Run.opG wantS_none (ex_not rfl) rfl ?_
      refine Run.opsEnd ?_
      rcases btf ((!r25)) with hc27 | hc27
      · have h := bif_t hc27 h
        refine Run.condT' rfl hc27 ?_
        refine Run.seq (Run.region ?_)
        refine Run.opG wantS_none (ex_assign rfl) rfl ?_
        refine Run.opsEnd ?_
        cases h
        exact Run.ret Try.func54 rfl (res_tmp rfl res_nil) rfl
      · have h := bif_f hc27 h
        refine Run.condF' rfl hc27 ?_
        refine Run.skip (Run.inBlock (Run.region ?_))
        refine Run.opG wantS_none (ex_add rfl rfl) rfl ?_
        refine Run.opG wantS_none (ex_move rfl) rfl ?_
        refine Run.opsEnd (Run.inLoop ?_)
        exact Run.pick [5, 6, 7] (ih v5 v6 (w64 (v7 + (1 : Int))) sv5 _ _ _ hv5 hH h)
    · have h := bif_f hc21 h
      refine Run.condF' rfl hc21 ?_
      refine Run.exit rfl (Run.seq (Run.region ?_))
      refine Run.opG wantS_none (ex_assign rfl) rfl ?_
      refine Run.opsEnd ?_
      cases h
      exact Run.ret Try.func54 rfl (res_tmp rfl res_nil) rfl

def search_checkTriggers (F : Nat) (a0 : (List (List S_api_Trigger))) : Option (Int) :=
  search_checkTriggers_1 F F a0 (a0.length : Int) (0 : Int)

theorem search_checkTriggers_ok (F : Nat) (a0 : (List (List S_api_Trigger))) (s0 : SV) (r : Int) (M : Mem) (hs0 : Slc (rd M) 1 (rep22 (rd M)) s0 a0) (h : search_checkTriggers F a0 = some r) : CallsM Try.prog 54 [s0] M (fun s M' => s = (.int .i64 r) ∧ M' = M) := by
  refine CallsM.plain Try.func54 rfl rfl rfl (show Run _ _ _ (search_checkTriggers_post r) _ _ _ from ?_)
  rw [search_checkTriggers] at h
  replace hs0 := hs0.mono (rdLe_frozen M) (fun _ _ => rep22_mo (rdLe_frozen M))
  have hH := Has.nil (frozen M)
  refine Run.seq (Run.region ?_)
  refine Run.opG wantS_none (ex_assign rfl) rfl ?_
  refine Run.opsEnd (Run.seq (Run.seq (Run.region ?_)))
  refine Run.opG wantS_none (ex_move rfl) rfl ?_
  refine Run.opG wantS_none (ex_len' rfl hs0 lenk132) rfl ?_
  refine Run.opG wantS_none (ex_move rfl) rfl ?_
  refine Run.opsEnd (Run.block (Run.loop ?_))
  exact Run.pick [5, 6, 7] (search_checkTriggers_1_ok F F a0 (a0.length : Int) (0 : Int) s0 _ _ _ hs0 hH h)

theorem mkk54 : makeK Try.prog 54 = none := by kernel_rfl
theorem cal54 : callable Try.prog 54 = true := by kernel_rfl
abbrev search_CheckTriggers_post (r : Int) : SV → Mem → Prop := fun s _ => s = (.int .i64 r)

def search_CheckTriggers (F : Nat) (a0 : (List S_api_Trigger)) : Option (Int) :=
  bnd (search_checkTriggers F ([a0] : List (List S_api_Trigger))) fun r25 =>
  some r25

theorem search_CheckTriggers_ok (F : Nat) (a0 : (List S_api_Trigger)) (s0 : SV) (r : Int) (M : Mem) (hs0 : Slc (rd M) 3 (FlatR enc76) s0 a0) (h : search_CheckTriggers F a0 = some r) : CallsM Try.prog 15 [s0] M (fun s M' => s = (.int .i64 r) ∧ M' = M) := by
  refine CallsM.plain Try.func15 rfl rfl rfl (show Run _ _ _ (search_CheckTriggers_post r) _ _ _ from ?_)
  rw [search_CheckTriggers] at h
  replace hs0 := hs0.mono (rdLe_frozen M) (fun _ _ h => h)
  have hH := Has.nil (frozen M)
  refine Run.seq (Run.region ?_)
  refine Run.opG wantS_none (ex_assign rfl) rfl ?_
  refine Run.opsEnd (Run.seq (Run.region ?_))
  refine Run.opG wantS_none (ex_move rfl) rfl ?_
  have hr22 : Rows (rep22 (ro (frozen M))) 1 [s0] ([a0] : List (List S_api_Trigger)) := (Rows.cons (cs := [s0]) rfl ⟨s0, rfl, hs0⟩ Rows.nil)
  refine Run.opX wantS_none rfl (ExG.builtR (z := 1) (c := [s0]) rfl elt132 rfl (by simp only [fillS, cells_one (slc_one hs0)]; rfl) rfl hH) ?_
  rintro s22 M23 (hH23 : Has (ro (frozen M)) M23 [.vec 22 1 ([a0] : List (List S_api_Trigger)).length s22 [s0]])
  obtain ⟨r25, hr25, h⟩ := bnd_some h
  refine Run.callP wantS_none (ex_call rfl mkk54 cal54) rfl (search_checkTriggers_ok F ([a0] : List (List S_api_Trigger)) s22 _ _ (((hH23.slcR (i := 0) rfl hr22)).mono (fun _ _ h => h) (fun _ _ => rep22_mo hH23.le)) hr25) ?_
  refine Run.opG wantS_none (ex_assign rfl) rfl ?_
  refine Run.opsEnd ?_
  cases h
  exact Run.ret Try.func15 rfl (res_tmp rfl res_nil) rfl

theorem mkk15 : makeK Try.prog 15 = none := by kernel_rfl
theorem cal15 : callable Try.prog 15 = true := by kernel_rfl
abbrev ref00_In_post (r : Bool) : SV → Mem → Prop := fun s _ => s = (.bool r)

def ref00_In_1 (F : Nat) (v14 : Bool) : Option (Bool) :=
  some v14

theorem ref00_In_1_ok (F : Nat) : ∀ (v14 : Bool) (Fr : Rd) (M : Mem) (r : Bool) (hH : Has Fr M []), ref00_In_1 F v14 = some r → Run Try.prog ⟨⟨49, [], none⟩, []⟩ 15 (ref00_In_post r) [(14, (.bool v14))] [itemC Try.prog 49 [1, 0] 8, codeC Try.prog 49 [1, 1]] M := by
  intro v14 Fr M r hH h
  rw [ref00_In_1] at h
  refine Run.opG wantS_none (ex_assign rfl) rfl ?_
  refine Run.opsEnd ?_
  cases h
  exact Run.ret Try.func49 rfl (res_tmp rfl res_nil) rfl

def ref00_In (F : Nat) (a0 : Int) (a1 : Int) (a2 : Int) : Option (Bool) :=
  bif (decide (a1 ≤ a0)) then
    ref00_In_1 F (decide (a0 ≤ a2))
  else
    ref00_In_1 F false

theorem ref00_In_ok (F : Nat) (a0 : Int) (a1 : Int) (a2 : Int) (r : Bool) (M : Mem) (h : ref00_In F a0 a1 a2 = some r) : CallsM Try.prog 49 [(.int .i64 a0), (.int .i64 a1), (.int .i64 a2)] M (fun s M' => s = (.bool r) ∧ M' = M) := by
  refine CallsM.plain Try.func49 rfl rfl rfl (show Run _ _ _ (ref00_In_post r) _ _ _ from ?_)
  rw [ref00_In] at h
  have hH := Has.nil (frozen M)
  refine Run.seq (Run.region ?_)
  refine Run.opG wantS_none (ex_assign rfl) rfl ?_
  refine Run.opsEnd (Run.seq (Run.region ?_))
  refine Run.opG wantS_none (ex_move rfl) rfl ?_
  refine Run.opG wantS_none (ex_move rfl) rfl ?_
  refine Run.opG wantS_none (ex_leq rfl rfl) rfl ?_
  refine Run.opG wantS_none (ex_move rfl) rfl ?_
  rcases btf ((decide (a1 ≤ a0))) with hc21 | hc21
  · have h := bif_t hc21 h
    refine Run.opG (wantS_yes' rfl rfl hc21) (ex_move rfl) rfl ?_
    refine Run.opG (wantS_yes' rfl rfl hc21) (ex_move rfl) rfl ?_
    refine Run.opG (wantS_yes' rfl rfl hc21) (ex_leq rfl rfl) rfl ?_
    refine Run.opG wantS_none (ex_pickT' rfl hc21 rfl rfl) rfl ?_
    exact Run.pick [14] (ref00_In_1_ok F (decide (a0 ≤ a2)) _ _ _ hH h)
  · have h := bif_f hc21 h
    refine Run.no (wantS_not' rfl rfl hc21) rfl ?_
    refine Run.no (wantS_not' rfl rfl hc21) rfl ?_
    refine Run.no (wantS_not' rfl rfl hc21) rfl ?_
    refine Run.opG wantS_none (ex_pickF' rfl hc21 rfl rfl) rfl ?_
    exact Run.pick [14] (ref00_In_1_ok F false _ _ _ hH h)

theorem mkk49 : makeK Try.prog 49 = none := by kernel_rfl
theorem cal49 : callable Try.prog 49 = true := by kernel_rfl
theorem plan16_1_1_0_1_0_0_1_0_0_1_0 : planOf Try.prog (opsC (atC Try.prog 16 [1, 1, 0, 1, 0, 0, 1, 0, 0, 1, 0])) = some [.fl 0, .fl 1, .an 2 [], .fl 3, .fl 4, .fl 5, .fl 6, .an 7 [], .fl 8, .fl 9, .fl 10, .fl 11, .fl 12, .an 13 [], .fl 14, .fl 15, .fl 16, .fl 17, .fl 18, .fl 19, .fl 20, .fl 21, .fl 22, .fl 23, .fl 24, .fl 25, .fl 26, .fl 27, .fl 28, .fl 29, .fl 30, .sync] := by kernel_rfl
abbrev ref08_CheckTriggers_post (r : Int) : SV → Mem → Prop := fun s _ => s = (.int .i64 r)

def ref08_CheckTriggers_2 (F : Nat) (hd1 : (List S_api_Trigger) → Int → Option (Int)) (v0 : (List S_api_Trigger)) (v3 : Int) (v48 : Bool) : Option (Int) :=
  bif v48 then
    some (80 : Int)
  else
    hd1 v0 (w64 (v3 + (1 : Int)))

theorem ref08_CheckTriggers_2_ok (F : Nat) (hd1 : (List S_api_Trigger) → Int → Option (Int)) (hhd1 : ∀ (v0 : (List S_api_Trigger)) (v3 : Int) (sv0 : SV) (Fr : Rd) (M : Mem) (r : Int) (hv0 : Slc Fr 3 (FlatR enc76) sv0 v0) (hH : Has Fr M []), hd1 v0 v3 = some r → Run Try.prog ⟨⟨16, [], none⟩, []⟩ 49 (ref08_CheckTriggers_post r) [(0, sv0), (3, (.int .i64 v3))] [codeC Try.prog 16 [1, 1, 0, 1, 0, 0], loopC Try.prog 16 [1, 1, 0, 1, 0, 0], .inBlock 0, codeC Try.prog 16 [1, 1, 1]] M) : ∀ (v0 : (List S_api_Trigger)) (v3 : Int) (v48 : Bool) (sv0 : SV) (Fr : Rd) (M : Mem) (r : Int) (hv0 : Slc Fr 3 (FlatR enc76) sv0 v0) (hH : Has Fr M []), ref08_CheckTriggers_2 F hd1 v0 v3 v48 = some r → Run Try.prog ⟨⟨16, [], none⟩, []⟩ 49 (ref08_CheckTriggers_post r) [(0, sv0), (3, (.int .i64 v3)), (48, (.bool v48))] [codeC Try.prog 16 [1, 1, 0, 1, 0, 0, 1, 0, 0, 1, 1], .inBlock 1, codeC Try.prog 16 [1, 1, 0, 1, 0, 0, 1, 1], loopC Try.prog 16 [1, 1, 0, 1, 0, 0], .inBlock 0, codeC Try.prog 16 [1, 1, 1]] M := by
  intro v0 v3 v48 sv0 Fr M r hv0 hH h
  rw [ref08_CheckTriggers_2] at h
  rcases btf (v48) with hc32 | hc32
  · have h := bif_t hc32 h
    refine Run.condT' rfl hc32 ?_
    refine Run.seq (Run.region ?_)
    refine Run.opG wantS_none (ex_assign rfl) rfl ?_
    refine Run.opsEnd ?_
    cases h
    exact Run.ret Try.func16 rfl (res_tmp rfl res_nil) rfl
  · have h := bif_f hc32 h
    refine Run.condF' rfl hc32 ?_
    refine Run.skip (Run.inBlock (Run.region ?_))
    refine Run.opG wantS_none (ex_move rfl) rfl ?_
    refine Run.opG wantS_none (ex_add rfl rfl) rfl ?_
    refine Run.opG wantS_none (ex_assign rfl) rfl ?_
    refine Run.opsEnd (Run.inLoop ?_)
    exact Run.pick [0, 3] (hhd1 v0 (w64 (v3 + (1 : Int))) sv0 _ _ _ hv0 hH h)

def ref08_CheckTriggers_1 (F : Nat) : Nat → (List S_api_Trigger) → Int → Option (Int)
  | 0, _, _ => none
  | N + 1, v0, v3 =>
    bif (decide (v3 < (v0.length : Int))) then
      bnd (idx v0 v3) fun x24 =>
      bnd (ref00_In F x24.Time (0 : Int) (1073741823 : Int)) fun r29 =>
      bif (!r29) then
        ref08_CheckTriggers_2 F (ref08_CheckTriggers_1 F N) v0 v3 true
      else
        bnd (ref00_In F x24.Loud (0 : Int) (1073741824 : Int)) fun r33 =>
        bif (!r33) then
          ref08_CheckTriggers_2 F (ref08_CheckTriggers_1 F N) v0 v3 true
        else
          bnd (ref00_In F x24.Template (0 : Int) (255 : Int)) fun r36 =>
          bif (!r36) then
            ref08_CheckTriggers_2 F (ref08_CheckTriggers_1 F N) v0 v3 true
          else
            bif (decide ((0 : Int) < v3)) then
              bnd (idx v0 (w64 (v3 - (1 : Int)))) fun x40 =>
              ref08_CheckTriggers_2 F (ref08_CheckTriggers_1 F N) v0 v3 (decide (x24.Time ≤ x40.Time))
            else
              ref08_CheckTriggers_2 F (ref08_CheckTriggers_1 F N) v0 v3 false
    else
      some (0 : Int)

theorem ref08_CheckTriggers_1_ok (F : Nat) : ∀ (N : Nat), ∀ (v0 : (List S_api_Trigger)) (v3 : Int) (sv0 : SV) (Fr : Rd) (M : Mem) (r : Int) (hv0 : Slc Fr 3 (FlatR enc76) sv0 v0) (hH : Has Fr M []), ref08_CheckTriggers_1 F N v0 v3 = some r → Run Try.prog ⟨⟨16, [], none⟩, []⟩ 49 (ref08_CheckTriggers_post r) [(0, sv0), (3, (.int .i64 v3))] [codeC Try.prog 16 [1, 1, 0, 1, 0, 0], loopC Try.prog 16 [1, 1, 0, 1, 0, 0], .inBlock 0, codeC Try.prog 16 [1, 1, 1]] M := by
  intro N
  induction N with
  | zero =>
    intro v0 v3 sv0 Fr M r hv0 hH h
    simp [ref08_CheckTriggers_1] at h
  | succ N ih =>
    intro v0 v3 sv0 Fr M r hv0 hH h
    rw [ref08_CheckTriggers_1] at h
    refine Run.seq (Run.seq (Run.region ?_))
    refine Run.opG wantS_none (ex_move rfl) rfl ?_
    refine Run.opG wantS_none (ex_move rfl) rfl ?_
    refine Run.opG wantS_none (ex_len' rfl hv0 lenk22) rfl ?_
    refine Run.opG wantS_none (ex_lss rfl rfl) rfl ?_
    refine Run.opsEnd ?_
    rcases btf ((decide (v3 < (v0.length : Int)))) with hc22 | hc22
    · have h := bif_t hc22 h
      refine Run.condT' rfl hc22 ?_
      refine Run.skip (Run.seq (Run.block (Run.seq (Run.region ?_))))
      refine Run.opG wantS_none (ex_move rfl) rfl ?_
      refine Run.opG wantS_none (ex_move rfl) rfl ?_
      obtain ⟨x24, hx24, h⟩ := bnd_some h
      obtain ⟨p24, o24, _, hx24, hp24, rfl⟩ := sl_elem (P := Try.prog) (t := 22) (kk := .i64) hv0 hx24 els22
      refine Run.opG wantS_none (ex_elX rfl rfl hx24) rfl ?_
      refine Run.opG wantS_none (ex_loadA rfl (hH.ptrF hp24) rdLe_rfl agg76 rfl rfl rfl) rfl ?_
      refine Run.opX wantS_none rfl (ExG.new (v := fun b => .ptr b 0) (ex_alloc zer76) hH) ?_
      rintro _ M27 ⟨b26, rfl, (hH27 : Has Fr M27 [.obj b26 (.row 76 .whole [(.int .i64 0), (.int .i64 0), (.int .i64 0)])])⟩
      refine Run.opX wantS_none rfl (ExG.storeC (c' := [(.int .i64 x24.Time), (.int .i64 x24.Loud), (.int .i64 x24.Template)]) rfl rfl rfl hH27 (i := 0) rfl sz76 rfl rfl rfl rfl rfl) ?_
      rintro _ M28 ⟨rfl, (hH28 : Has Fr M28 [.obj b26 (.row 76 .whole [(.int .i64 x24.Time), (.int .i64 x24.Loud), (.int .i64 x24.Template)])])⟩
      refine Run.opsEnd (Run.seq ?_)
      refine Run.drawG plan16_1_1_0_1_0_0_1_0_0_1_0 ?_
      refine DrawG.fl rfl (ev_ex wantS_none (ex_fieldAddr rfl off76_0)) rfl ?_
      refine DrawG.fl rfl (ev_ex wantS_none (ex_load1 rfl (hH28.cells (i := 0) rfl 0 rfl) rdLe_rfl agg3)) rfl ?_
      obtain ⟨r29, hr29, h⟩ := bnd_some h
      refine DrawG.callP rfl wantS_none (ex_call rfl mkk49 cal49) rfl (ref00_In_ok F x24.Time (0 : Int) (1073741823 : Int) _ _ hr29) st_nil ?_
      refine DrawG.fl rfl (ev_ex wantS_none (ex_not rfl)) rfl ?_
      refine DrawG.fl rfl (ev_ex wantS_none (ex_move rfl)) rfl ?_
      rcases btf ((!r29)) with hc31 | hc31
      · have h := bif_t hc31 h
        refine DrawG.fl rfl (ev_no (wantS_not' rfl rfl hc31)) rfl ?_
        refine DrawG.fl rfl (ev_no (wantS_not' rfl rfl hc31)) rfl ?_
        refine DrawG.no rfl (wantS_not' rfl rfl hc31) rfl st_nil ?_
        refine DrawG.fl rfl (ev_no (wantS_not' rfl rfl hc31)) rfl ?_
        refine DrawG.fl rfl (ev_ex wantS_none (ex_pickT' rfl hc31 rfl rfl)) rfl ?_
        refine DrawG.fl rfl (ev_ex wantS_none (ex_move rfl)) rfl ?_
        refine DrawG.fl rfl (ev_no (wantS_not' rfl rfl rfl)) rfl ?_
        refine DrawG.fl rfl (ev_no (wantS_not' rfl rfl rfl)) rfl ?_
        refine DrawG.no rfl (wantS_not' rfl rfl rfl) rfl st_nil ?_
        refine DrawG.fl rfl (ev_no (wantS_not' rfl rfl rfl)) rfl ?_
        refine DrawG.fl rfl (ev_ex wantS_none (ex_pickT' rfl rfl rfl rfl)) rfl ?_
        refine DrawG.fl rfl (ev_ex wantS_none (ex_move rfl)) rfl ?_
        refine DrawG.fl rfl (ev_no (wantS_not' rfl rfl rfl)) rfl ?_
        refine DrawG.fl rfl (ev_no (wantS_not' rfl rfl rfl)) rfl ?_
        refine DrawG.fl rfl (ev_no (wantS_not' rfl rfl rfl)) rfl ?_
        refine DrawG.fl rfl (ev_no (wantS_skip rfl rfl)) rfl ?_
        refine DrawG.fl rfl (ev_no (wantS_skip rfl rfl)) rfl ?_
        refine DrawG.fl rfl (ev_no (wantS_skip rfl rfl)) rfl ?_
        refine DrawG.fl rfl (ev_no (wantS_skip rfl rfl)) rfl ?_
        refine DrawG.fl rfl (ev_no (wantS_skip rfl rfl)) rfl ?_
        refine DrawG.fl rfl (ev_no (wantS_skip rfl rfl)) rfl ?_
        refine DrawG.fl rfl (ev_no (wantS_skip rfl rfl)) rfl ?_
        refine DrawG.fl rfl (ev_no (wantS_skip rfl rfl)) rfl ?_
        refine DrawG.fl rfl (ev_no (wantS_skip rfl rfl)) rfl ?_
        refine DrawG.fl rfl (ev_no (wantS_not' rfl rfl rfl)) rfl ?_
        refine DrawG.fl rfl (ev_ex wantS_none (ex_pickT' rfl rfl rfl rfl)) rfl ?_
        refine DrawG.sync ?_
        refine DrawG.nil ?_
        exact Run.pick [0, 3, 48] (ref08_CheckTriggers_2_ok F (ref08_CheckTriggers_1 F N) ih v0 v3 true sv0 _ _ _ hv0 (hH28.pick [] rfl rfl) h)
      · have h := bif_f hc31 h
        refine DrawG.fl rfl (ev_ex (wantS_yes' rfl rfl hc31) (ex_fieldAddr rfl off76_1)) rfl ?_
        refine DrawG.fl rfl (ev_ex (wantS_yes' rfl rfl hc31) (ex_load1 rfl (hH28.cells (i := 0) rfl 1 rfl) rdLe_rfl agg3)) rfl ?_
        obtain ⟨r33, hr33, h⟩ := bnd_some h
        refine DrawG.callP rfl (wantS_yes' rfl rfl hc31) (ex_call rfl mkk49 cal49) rfl (ref00_In_ok F x24.Loud (0 : Int) (1073741824 : Int) _ _ hr33) st_nil ?_
        refine DrawG.fl rfl (ev_ex (wantS_yes' rfl rfl hc31) (ex_not rfl)) rfl ?_
        refine DrawG.fl rfl (ev_ex wantS_none (ex_pickF' rfl hc31 rfl rfl)) rfl ?_
        refine DrawG.fl rfl (ev_ex wantS_none (ex_move rfl)) rfl ?_
        rcases btf ((!r33)) with hc35 | hc35
        · have h := bif_t hc35 h
          refine DrawG.fl rfl (ev_no (wantS_not' rfl rfl hc35)) rfl ?_
          refine DrawG.fl rfl (ev_no (wantS_not' rfl rfl hc35)) rfl ?_
          refine DrawG.no rfl (wantS_not' rfl rfl hc35) rfl st_nil ?_
          refine DrawG.fl rfl (ev_no (wantS_not' rfl rfl hc35)) rfl ?_
          refine DrawG.fl rfl (ev_ex wantS_none (ex_pickT' rfl hc35 rfl rfl)) rfl ?_
          refine DrawG.fl rfl (ev_ex wantS_none (ex_move rfl)) rfl ?_
          refine DrawG.fl rfl (ev_no (wantS_not' rfl rfl rfl)) rfl ?_
          refine DrawG.fl rfl (ev_no (wantS_not' rfl rfl rfl)) rfl ?_
          refine DrawG.fl rfl (ev_no (wantS_not' rfl rfl rfl)) rfl ?_
          refine DrawG.fl rfl (ev_no (wantS_skip rfl rfl)) rfl ?_
          refine DrawG.fl rfl (ev_no (wantS_skip rfl rfl)) rfl ?_
          refine DrawG.fl rfl (ev_no (wantS_skip rfl rfl)) rfl ?_
          refine DrawG.fl rfl (ev_no (wantS_skip rfl rfl)) rfl ?_
          refine DrawG.fl rfl (ev_no (wantS_skip rfl rfl)) rfl ?_
          refine DrawG.fl rfl (ev_no (wantS_skip rfl rfl)) rfl ?_
          refine DrawG.fl rfl (ev_no (wantS_skip rfl rfl)) rfl ?_
          refine DrawG.fl rfl (ev_no (wantS_skip rfl rfl)) rfl ?_
          refine DrawG.fl rfl (ev_no (wantS_skip rfl rfl)) rfl ?_
          refine DrawG.fl rfl (ev_no (wantS_not' rfl rfl rfl)) rfl ?_
          refine DrawG.fl rfl (ev_ex wantS_none (ex_pickT' rfl rfl rfl rfl)) rfl ?_
          refine DrawG.sync ?_
          refine DrawG.nil ?_
          exact Run.pick [0, 3, 48] (ref08_CheckTriggers_2_ok F (ref08_CheckTriggers_1 F N) ih v0 v3 true sv0 _ _ _ hv0 (hH28.pick [] rfl rfl) h)
        · have h := bif_f hc35 h
          refine DrawG.fl rfl (ev_ex (wantS_yes' rfl rfl hc35) (ex_fieldAddr rfl off76_2)) rfl ?_
          refine DrawG.fl rfl (ev_ex (wantS_yes' rfl rfl hc35) (ex_load1 rfl (hH28.cells (i := 0) rfl 2 rfl) rdLe_rfl agg3)) rfl ?_
          obtain ⟨r36, hr36, h⟩ := bnd_some h
          refine DrawG.callP rfl (wantS_yes' rfl rfl hc35) (ex_call rfl mkk49 cal49) rfl (ref00_In_ok F x24.Template (0 : Int) (255 : Int) _ _ hr36) st_nil ?_
          refine DrawG.fl rfl (ev_ex (wantS_yes' rfl rfl hc35) (ex_not rfl)) rfl ?_
          refine DrawG.fl rfl (ev_ex wantS_none (ex_pickF' rfl hc35 rfl rfl)) rfl ?_
          refine DrawG.fl rfl (ev_ex wantS_none (ex_move rfl)) rfl ?_
          rcases btf ((!r36)) with hc38 | hc38
          · have h := bif_t hc38 h
            refine DrawG.fl rfl (ev_no (wantS_not' rfl rfl hc38)) rfl ?_
            refine DrawG.fl rfl (ev_no (wantS_not' rfl rfl hc38)) rfl ?_
            refine DrawG.fl rfl (ev_no (wantS_not' rfl rfl hc38)) rfl ?_
            refine DrawG.fl rfl (ev_no (wantS_skip rfl rfl)) rfl ?_
            refine DrawG.fl rfl (ev_no (wantS_skip rfl rfl)) rfl ?_
            refine DrawG.fl rfl (ev_no (wantS_skip rfl rfl)) rfl ?_
            refine DrawG.fl rfl (ev_no (wantS_skip rfl rfl)) rfl ?_
            refine DrawG.fl rfl (ev_no (wantS_skip rfl rfl)) rfl ?_
            refine DrawG.fl rfl (ev_no (wantS_skip rfl rfl)) rfl ?_
            refine DrawG.fl rfl (ev_no (wantS_skip rfl rfl)) rfl ?_
            refine DrawG.fl rfl (ev_no (wantS_skip rfl rfl)) rfl ?_
            refine DrawG.fl rfl (ev_no (wantS_skip rfl rfl)) rfl ?_
            refine DrawG.fl rfl (ev_no (wantS_not' rfl rfl hc38)) rfl ?_
            refine DrawG.fl rfl (ev_ex wantS_none (ex_pickT' rfl hc38 rfl rfl)) rfl ?_
            refine DrawG.sync ?_
            refine DrawG.nil ?_
            exact Run.pick [0, 3, 48] (ref08_CheckTriggers_2_ok F (ref08_CheckTriggers_1 F N) ih v0 v3 true sv0 _ _ _ hv0 (hH28.pick [] rfl rfl) h)
          · have h := bif_f hc38 h
            refine DrawG.fl rfl (ev_ex (wantS_yes' rfl rfl hc38) (ex_move rfl)) rfl ?_
            refine DrawG.fl rfl (ev_ex (wantS_yes' rfl rfl hc38) (ex_gtr rfl rfl)) rfl ?_
            refine DrawG.fl rfl (ev_ex (wantS_yes' rfl rfl hc38) (ex_move rfl)) rfl ?_
            rcases btf ((decide ((0 : Int) < v3))) with hc39 | hc39
            · have h := bif_t hc39 h
              refine DrawG.fl rfl (ev_ex (wantS_yes' rfl rfl hc39) (ex_move rfl)) rfl ?_
              refine DrawG.fl rfl (ev_ex (wantS_yes' rfl rfl hc39) (ex_move rfl)) rfl ?_
              refine DrawG.fl rfl (ev_ex (wantS_yes' rfl rfl hc39) (ex_sub rfl rfl)) rfl ?_
              obtain ⟨x40, hx40, h⟩ := bnd_some h
              obtain ⟨p40, o40, _, hx40, hp40, rfl⟩ := sl_elem (P := Try.prog) (t := 22) (kk := .i64) hv0 hx40 els22
              refine DrawG.fl rfl (ev_ex (wantS_yes' rfl rfl hc39) (ex_elX rfl rfl hx40)) rfl ?_
              have hp41 := (hp40.fld (o := 0) rfl)
              refine DrawG.fl rfl (ev_ex (wantS_yes' rfl rfl hc39) (ex_fieldAddr rfl off76_0)) rfl ?_
              refine DrawG.fl rfl (ev_ex (wantS_yes' rfl rfl hc39) (ex_load1 rfl (hH28.ptrF hp41) rdLe_rfl agg3)) rfl ?_
              refine DrawG.fl rfl (ev_ex (wantS_yes' rfl rfl hc39) (ex_fieldAddr rfl off76_0)) rfl ?_
              refine DrawG.fl rfl (ev_ex (wantS_yes' rfl rfl hc39) (ex_load1 rfl (hH28.cells (i := 0) rfl 0 rfl) rdLe_rfl agg3)) rfl ?_
              refine DrawG.fl rfl (ev_ex (wantS_yes' rfl rfl hc39) (ex_geq rfl rfl)) rfl ?_
              refine DrawG.fl rfl (ev_ex (wantS_yes' rfl rfl hc38) (ex_pickT' rfl hc39 rfl rfl)) rfl ?_
              refine DrawG.fl rfl (ev_ex wantS_none (ex_pickF' rfl hc38 rfl rfl)) rfl ?_
              refine DrawG.sync ?_
              refine DrawG.nil ?_
              exact Run.pick [0, 3, 48] (ref08_CheckTriggers_2_ok F (ref08_CheckTriggers_1 F N) ih v0 v3 (decide (x24.Time ≤ x40.Time)) sv0 _ _ _ hv0 (hH28.pick [] rfl rfl) h)
            · have h := bif_f hc39 h
              refine DrawG.fl rfl (ev_no (wantS_not' rfl rfl hc39)) rfl ?_
              refine DrawG.fl rfl (ev_no (wantS_not' rfl rfl hc39)) rfl ?_
              refine DrawG.fl rfl (ev_no (wantS_not' rfl rfl hc39)) rfl ?_
              refine DrawG.fl rfl (ev_no (wantS_not' rfl rfl hc39)) rfl ?_
              refine DrawG.fl rfl (ev_no (wantS_not' rfl rfl hc39)) rfl ?_
              refine DrawG.fl rfl (ev_no (wantS_not' rfl rfl hc39)) rfl ?_
              refine DrawG.fl rfl (ev_no (wantS_not' rfl rfl hc39)) rfl ?_
              refine DrawG.fl rfl (ev_no (wantS_not' rfl rfl hc39)) rfl ?_
              refine DrawG.fl rfl (ev_no (wantS_not' rfl rfl hc39)) rfl ?_
              refine DrawG.fl rfl (ev_ex (wantS_yes' rfl rfl hc38) (ex_pickF' rfl hc39 rfl rfl)) rfl ?_
              refine DrawG.fl rfl (ev_ex wantS_none (ex_pickF' rfl hc38 rfl rfl)) rfl ?_
              refine DrawG.sync ?_
              refine DrawG.nil ?_
              exact Run.pick [0, 3, 48] (ref08_CheckTriggers_2_ok F (ref08_CheckTriggers_1 F N) ih v0 v3 false sv0 _ _ _ hv0 (hH28.pick [] rfl rfl) h)
    · have h := bif_f hc22 h
      refine Run.condF' rfl hc22 ?_
      refine Run.exit rfl (Run.seq (Run.region ?_))
      refine Run.opG wantS_none (ex_assign rfl) rfl ?_
      refine Run.opsEnd ?_
      cases h
      exact Run.ret Try.func16 rfl (res_tmp rfl res_nil) rfl

def ref08_CheckTriggers (F : Nat) (a0 : (List S_api_Trigger)) : Option (Int) :=
  bif (decide ((256 : Int) < (a0.length : Int))) then
    some (80 : Int)
  else
    ref08_CheckTriggers_1 F F a0 (0 : Int)

theorem ref08_CheckTriggers_ok (F : Nat) (a0 : (List S_api_Trigger)) (s0 : SV) (r : Int) (M : Mem) (hs0 : Slc (rd M) 3 (FlatR enc76) s0 a0) (h : ref08_CheckTriggers F a0 = some r) : CallsM Try.prog 16 [s0] M (fun s M' => s = (.int .i64 r) ∧ M' = M) := by
  refine CallsM.plain Try.func16 rfl rfl rfl (show Run _ _ _ (ref08_CheckTriggers_post r) _ _ _ from ?_)
  rw [ref08_CheckTriggers] at h
  replace hs0 := hs0.mono (rdLe_frozen M) (fun _ _ h => h)
  have hH := Has.nil (frozen M)
  refine Run.seq (Run.region ?_)
  refine Run.opG wantS_none (ex_assign rfl) rfl ?_
  refine Run.opsEnd (Run.seq (Run.seq (Run.region ?_)))
  refine Run.opG wantS_none (ex_move rfl) rfl ?_
  refine Run.opG wantS_none (ex_len' rfl hs0 lenk22) rfl ?_
  refine Run.opG wantS_none (ex_gtr rfl rfl) rfl ?_
  refine Run.opsEnd ?_
  rcases btf ((decide ((256 : Int) < (a0.length : Int)))) with hc21 | hc21
  · have h := bif_t hc21 h
    refine Run.condT' rfl hc21 ?_
    refine Run.seq (Run.region ?_)
    refine Run.opG wantS_none (ex_assign rfl) rfl ?_
    refine Run.opsEnd ?_
    cases h
    exact Run.ret Try.func16 rfl (res_tmp rfl res_nil) rfl
  · have h := bif_f hc21 h
    refine Run.condF' rfl hc21 ?_
    refine Run.skip (Run.seq (Run.seq (Run.region ?_)))
    refine Run.opG wantS_none (ex_assign rfl) rfl ?_
    refine Run.opsEnd (Run.block (Run.loop ?_))
    exact Run.pick [0, 3] (ref08_CheckTriggers_1_ok F F a0 (0 : Int) s0 _ _ _ hs0 hH h)

theorem mkk16 : makeK Try.prog 16 = none := by kernel_rfl
theorem cal16 : callable Try.prog 16 = true := by kernel_rfl
theorem off24_0 : fieldOff Try.prog 24 0 = some 0 := by kernel_rfl
theorem off24_1 : fieldOff Try.prog 24 1 = some 1 := by kernel_rfl
structure S_api_Pair where
  A : Int
  B : Int
  Loud : Int

def enc71 (a : S_api_Pair) : List SV := [(.int .i64 a.A), (.int .i64 a.B), (.int .i64 a.Loud)]
theorem enc71_len (a : S_api_Pair) : (enc71 a).length = 3 := rfl
theorem enc71_ones (a : S_api_Pair) : ones (enc71 a) = true := rfl
theorem zer87 : zerosOf Try.prog 87 = some [(.int .i64 0), (.int .i64 0), (.int .i64 0)] := by kernel_rfl
theorem pls87 : placesOf Try.prog 87 = some (.st [(0, 1), (1, 1), (2, 1)]) := by kernel_rfl
theorem sz87 : szOf Try.prog 87 = some 3 := by kernel_rfl
theorem agg87 : aggSize Try.prog 87 = some (some 3) := by kernel_rfl
structure S_search_clock where
  live : Int
  window : Int
  step : Int

theorem off87_0 : fieldOff Try.prog 87 0 = some 0 := by kernel_rfl
theorem off87_2 : fieldOff Try.prog 87 2 = some 2 := by kernel_rfl
abbrev search_clock_slides_post (r : Int) : SV → Mem → Prop := fun s _ => s = (.int .i64 r)

def search_clock_slides (F : Nat) (a0 : S_search_clock) : Option (Int) :=
  bnd (nz a0.step) fun z25 =>
  some (w64 (Int.tdiv a0.live a0.step))

theorem search_clock_slides_ok (F : Nat) (a0 : S_search_clock) (r : Int) (M : Mem) (h : search_clock_slides F a0 = some r) : CallsM Try.prog 94 [(.agg [(.int .i64 a0.live), (.int .i64 a0.window), (.int .i64 a0.step)])] M (fun s M' => s = (.int .i64 r) ∧ M' = M) := by
  refine CallsM.plain Try.func94 rfl rfl rfl (show Run _ _ _ (search_clock_slides_post r) _ _ _ from ?_)
  rw [search_clock_slides] at h
  have hH := Has.nil (frozen M)
  refine Run.seq (Run.region ?_)
  refine Run.opX wantS_none rfl (ExG.box rfl rfl hH) ?_
  rintro _ M23 ⟨b22, rfl, (hH23 : Has (ro (frozen M)) M23 [.obj b22 (.row 87 .whole [(.int .i64 a0.live), (.int .i64 a0.window), (.int .i64 a0.step)])])⟩
  refine Run.opG wantS_none (ex_assign rfl) rfl ?_
  refine Run.opsEnd (Run.seq (Run.region ?_))
  refine Run.opG wantS_none (ex_fieldAddr rfl off87_0) rfl ?_
  refine Run.opG wantS_none (ex_load1 rfl (hH23.cells (i := 0) rfl 0 rfl) rdLe_rfl agg3) rfl ?_
  refine Run.opG wantS_none (ex_fieldAddr rfl off87_2) rfl ?_
  refine Run.opG wantS_none (ex_load1 rfl (hH23.cells (i := 0) rfl 2 rfl) rdLe_rfl agg3) rfl ?_
  obtain ⟨z25, hz25, h⟩ := bnd_some h
  refine Run.opG wantS_none (ex_quo' rfl rfl hz25) rfl ?_
  refine Run.opG wantS_none (ex_assign rfl) rfl ?_
  refine Run.opsEnd ?_
  cases h
  exact Run.ret Try.func94 rfl (res_tmp rfl res_nil) rfl

theorem mkk94 : makeK Try.prog 94 = none := by kernel_rfl
theorem cal94 : callable Try.prog 94 = true := by kernel_rfl
theorem off87_1 : fieldOff Try.prog 87 1 = some 1 := by kernel_rfl
abbrev search_clock_isValid_post (r : Bool) : SV → Mem → Prop := fun s _ => s = (.bool r)

def search_clock_isValid_3 (F : Nat) (v34 : Bool) : Option (Bool) :=
  some v34

theorem search_clock_isValid_3_ok (F : Nat) : ∀ (v34 : Bool) (Fr : Rd) (M : Mem) (r : Bool) (hH : Has Fr M []), search_clock_isValid_3 F v34 = some r → Run Try.prog ⟨⟨102, [], none⟩, []⟩ 35 (search_clock_isValid_post r) [(34, (.bool v34))] [itemC Try.prog 102 [1, 1, 0] 11, codeC Try.prog 102 [1, 1, 1]] M := by
  intro v34 Fr M r hH h
  rw [search_clock_isValid_3] at h
  refine Run.opG wantS_none (ex_assign rfl) rfl ?_
  refine Run.opsEnd ?_
  cases h
  exact Run.ret Try.func102 rfl (res_tmp rfl res_nil) rfl

def search_clock_isValid_2 (F : Nat) (v23 : Bool) (c22 : S_search_clock) : Option (Bool) :=
  bif v23 then
    some false
  else
    bnd (nz c22.step) fun z31 =>
    bif ((Int.tmod c22.live c22.step) == (0 : Int)) then
      bnd (search_clock_slides F c22) fun r34 =>
      search_clock_isValid_3 F (decide (r34 ≤ (256 : Int)))
    else
      search_clock_isValid_3 F false

theorem search_clock_isValid_2_ok (F : Nat) : ∀ (v23 : Bool) (c22 : S_search_clock) (b22 : Pos) (Fr : Rd) (M : Mem) (r : Bool) (hH : Has Fr M [.obj b22 (.row 87 .whole [(.int .i64 c22.live), (.int .i64 c22.window), (.int .i64 c22.step)])]), search_clock_isValid_2 F v23 c22 = some r → Run Try.prog ⟨⟨102, [], none⟩, []⟩ 35 (search_clock_isValid_post r) [(1, (.ptr b22 0)), (23, (.bool v23))] [codeC Try.prog 102 [1, 0, 1], codeC Try.prog 102 [1, 1]] M := by
  intro v23 c22 b22 Fr M r hH h
  rw [search_clock_isValid_2] at h
  rcases btf (v23) with hc29 | hc29
  · have h := bif_t hc29 h
    refine Run.condT' rfl hc29 ?_
    refine Run.seq (Run.region ?_)
    refine Run.opG wantS_none (ex_assign rfl) rfl ?_
    refine Run.opsEnd ?_
    cases h
    exact Run.ret Try.func102 rfl (res_tmp rfl res_nil) rfl
  · have h := bif_f hc29 h
    refine Run.condF' rfl hc29 ?_
    refine Run.skip (Run.seq (Run.region ?_))
    refine Run.opG wantS_none (ex_fieldAddr rfl off87_0) rfl ?_
    refine Run.opG wantS_none (ex_load1 rfl (hH.cells (i := 0) rfl 0 rfl) rdLe_rfl agg3) rfl ?_
    refine Run.opG wantS_none (ex_fieldAddr rfl off87_2) rfl ?_
    refine Run.opG wantS_none (ex_load1 rfl (hH.cells (i := 0) rfl 2 rfl) rdLe_rfl agg3) rfl ?_
    obtain ⟨z31, hz31, h⟩ := bnd_some h
    refine Run.opG wantS_none (ex_rem' rfl rfl hz31) rfl ?_
    refine Run.opG wantS_none (ex_eql rfl rfl) rfl ?_
    refine Run.opG wantS_none (ex_move rfl) rfl ?_
    rcases btf (((Int.tmod c22.live c22.step) == (0 : Int))) with hc32 | hc32
    · have h := bif_t hc32 h
      refine Run.opG (wantS_yes' rfl rfl hc32) (ex_loadA rfl (hH.cells (i := 0) rfl 0 rfl) rdLe_rfl agg87 rfl rfl rfl) rfl ?_
      obtain ⟨r34, hr34, h⟩ := bnd_some h
      refine Run.callP (wantS_yes' rfl rfl hc32) (ex_call rfl mkk94 cal94) rfl (search_clock_slides_ok F c22 _ _ hr34) ?_
      refine Run.opG (wantS_yes' rfl rfl hc32) (ex_leq rfl rfl) rfl ?_
      refine Run.opG wantS_none (ex_pickT' rfl hc32 rfl rfl) rfl ?_
      exact Run.pick [34] (search_clock_isValid_3_ok F (decide (r34 ≤ (256 : Int))) _ _ _ (hH.pick [] rfl rfl) h)
    · have h := bif_f hc32 h
      refine Run.no (wantS_not' rfl rfl hc32) rfl ?_
      refine Run.no (wantS_not' rfl rfl hc32) rfl ?_
      refine Run.no (wantS_not' rfl rfl hc32) rfl ?_
      refine Run.opG wantS_none (ex_pickF' rfl hc32 rfl rfl) rfl ?_
      exact Run.pick [34] (search_clock_isValid_3_ok F false _ _ _ (hH.pick [] rfl rfl) h)

def search_clock_isValid_1 (F : Nat) (v15 : Bool) (c22 : S_search_clock) : Option (Bool) :=
  bif v15 then
    search_clock_isValid_2 F true c22
  else
    bnd (search_isFrom F (1 : Int) c22.step c22.live) fun r37 =>
    search_clock_isValid_2 F (!r37) c22

theorem search_clock_isValid_1_ok (F : Nat) : ∀ (v15 : Bool) (c22 : S_search_clock) (b22 : Pos) (Fr : Rd) (M : Mem) (r : Bool) (hH : Has Fr M [.obj b22 (.row 87 .whole [(.int .i64 c22.live), (.int .i64 c22.window), (.int .i64 c22.step)])]), search_clock_isValid_1 F v15 c22 = some r → Run Try.prog ⟨⟨102, [], none⟩, []⟩ 35 (search_clock_isValid_post r) [(1, (.ptr b22 0)), (15, (.bool v15))] [itemC Try.prog 102 [1, 0, 0] 13, codeC Try.prog 102 [1, 0, 1], codeC Try.prog 102 [1, 1]] M := by
  intro v15 c22 b22 Fr M r hH h
  rw [search_clock_isValid_1] at h
  refine Run.opG wantS_none (ex_move rfl) rfl ?_
  rcases btf (v15) with hc28 | hc28
  · have h := bif_t hc28 h
    refine Run.no (wantS_not' rfl rfl hc28) rfl ?_
    refine Run.no (wantS_not' rfl rfl hc28) rfl ?_
    refine Run.no (wantS_not' rfl rfl hc28) rfl ?_
    refine Run.no (wantS_not' rfl rfl hc28) rfl ?_
    refine Run.no (wantS_not' rfl rfl hc28) rfl ?_
    refine Run.no (wantS_not' rfl rfl hc28) rfl ?_
    refine Run.opG wantS_none (ex_pickT' rfl hc28 rfl rfl) rfl ?_
    refine Run.opsEnd ?_
    exact Run.pick [1, 23] (search_clock_isValid_2_ok F true c22 b22 _ _ _ hH h)
  · have h := bif_f hc28 h
    refine Run.opG (wantS_yes' rfl rfl hc28) (ex_fieldAddr rfl off87_2) rfl ?_
    refine Run.opG (wantS_yes' rfl rfl hc28) (ex_load1 rfl (hH.cells (i := 0) rfl 2 rfl) rdLe_rfl agg3) rfl ?_
    refine Run.opG (wantS_yes' rfl rfl hc28) (ex_fieldAddr rfl off87_0) rfl ?_
    refine Run.opG (wantS_yes' rfl rfl hc28) (ex_load1 rfl (hH.cells (i := 0) rfl 0 rfl) rdLe_rfl agg3) rfl ?_
    obtain ⟨r37, hr37, h⟩ := bnd_some h
    refine Run.callP (wantS_yes' rfl rfl hc28) (ex_call rfl mkk62 cal62) rfl (search_isFrom_ok F (1 : Int) c22.step c22.live _ _ hr37) ?_
    refine Run.opG (wantS_yes' rfl rfl hc28) (ex_not rfl) rfl ?_
    refine Run.opG wantS_none (ex_pickF' rfl hc28 rfl rfl) rfl ?_
    refine Run.opsEnd ?_
    exact Run.pick [1, 23] (search_clock_isValid_2_ok F (!r37) c22 b22 _ _ _ hH h)

def search_clock_isValid (F : Nat) (a0 : S_search_clock) : Option (Bool) :=
  bnd (search_isFrom F (1 : Int) a0.live (1073741824 : Int)) fun r25 =>
  bif (!r25) then
    search_clock_isValid_1 F true a0
  else
    bnd (search_isFrom F (0 : Int) a0.window (w64 (a0.live - (1 : Int)))) fun r40 =>
    search_clock_isValid_1 F (!r40) a0

theorem search_clock_isValid_ok (F : Nat) (a0 : S_search_clock) (r : Bool) (M : Mem) (h : search_clock_isValid F a0 = some r) : CallsM Try.prog 102 [(.agg [(.int .i64 a0.live), (.int .i64 a0.window), (.int .i64 a0.step)])] M (fun s M' => s = (.bool r) ∧ M' = M) := by
  refine CallsM.plain Try.func102 rfl rfl rfl (show Run _ _ _ (search_clock_isValid_post r) _ _ _ from ?_)
  rw [search_clock_isValid] at h
  have hH := Has.nil (frozen M)
  refine Run.seq (Run.region ?_)
  refine Run.opX wantS_none rfl (ExG.box rfl rfl hH) ?_
  rintro _ M23 ⟨b22, rfl, (hH23 : Has (ro (frozen M)) M23 [.obj b22 (.row 87 .whole [(.int .i64 a0.live), (.int .i64 a0.window), (.int .i64 a0.step)])])⟩
  refine Run.opG wantS_none (ex_assign rfl) rfl ?_
  refine Run.opsEnd (Run.seq (Run.seq (Run.region ?_)))
  refine Run.opG wantS_none (ex_fieldAddr rfl off87_0) rfl ?_
  refine Run.opG wantS_none (ex_load1 rfl (hH23.cells (i := 0) rfl 0 rfl) rdLe_rfl agg3) rfl ?_
  obtain ⟨r25, hr25, h⟩ := bnd_some h
  refine Run.callP wantS_none (ex_call rfl mkk62 cal62) rfl (search_isFrom_ok F (1 : Int) a0.live (1073741824 : Int) _ _ hr25) ?_
  refine Run.opG wantS_none (ex_not rfl) rfl ?_
  refine Run.opG wantS_none (ex_move rfl) rfl ?_
  rcases btf ((!r25)) with hc27 | hc27
  · have h := bif_t hc27 h
    refine Run.no (wantS_not' rfl rfl hc27) rfl ?_
    refine Run.no (wantS_not' rfl rfl hc27) rfl ?_
    refine Run.no (wantS_not' rfl rfl hc27) rfl ?_
    refine Run.no (wantS_not' rfl rfl hc27) rfl ?_
    refine Run.no (wantS_not' rfl rfl hc27) rfl ?_
    refine Run.no (wantS_not' rfl rfl hc27) rfl ?_
    refine Run.no (wantS_not' rfl rfl hc27) rfl ?_
    refine Run.opG wantS_none (ex_pickT' rfl hc27 rfl rfl) rfl ?_
    exact Run.pick [1, 15] (search_clock_isValid_1_ok F true a0 b22 _ _ _ hH23 h)
  · have h := bif_f hc27 h
    refine Run.opG (wantS_yes' rfl rfl hc27) (ex_fieldAddr rfl off87_1) rfl ?_
    refine Run.opG (wantS_yes' rfl rfl hc27) (ex_load1 rfl (hH23.cells (i := 0) rfl 1 rfl) rdLe_rfl agg3) rfl ?_
    refine Run.opG (wantS_yes' rfl rfl hc27) (ex_fieldAddr rfl off87_0) rfl ?_
    refine Run.opG (wantS_yes' rfl rfl hc27) (ex_load1 rfl (hH23.cells (i := 0) rfl 0 rfl) rdLe_rfl agg3) rfl ?_
    refine Run.opG (wantS_yes' rfl rfl hc27) (ex_sub rfl rfl) rfl ?_
    obtain ⟨r40, hr40, h⟩ := bnd_some h
    refine Run.callP (wantS_yes' rfl rfl hc27) (ex_call rfl mkk62 cal62) rfl (search_isFrom_ok F (0 : Int) a0.window (w64 (a0.live - (1 : Int))) _ _ hr40) ?_
    refine Run.opG (wantS_yes' rfl rfl hc27) (ex_not rfl) rfl ?_
    refine Run.opG wantS_none (ex_pickF' rfl hc27 rfl rfl) rfl ?_
    exact Run.pick [1, 15] (search_clock_isValid_1_ok F (!r40) a0 b22 _ _ _ hH23 h)

theorem mkk102 : makeK Try.prog 102 = none := by kernel_rfl
theorem cal102 : callable Try.prog 102 = true := by kernel_rfl
theorem mkk103 : makeK Try.prog 103 = none := by kernel_rfl
theorem cal103 : callable Try.prog 103 = true := by kernel_rfl
theorem mkk128 : makeK Try.prog 128 = none := by kernel_rfl
theorem cal128 : callable Try.prog 128 = true := by kernel_rfl
theorem mkk100 : makeK Try.prog 100 = none := by kernel_rfl
theorem cal100 : callable Try.prog 100 = true := by kernel_rfl
theorem mkk91 : makeK Try.prog 91 = none := by kernel_rfl
theorem cal91 : callable Try.prog 91 = true := by kernel_rfl
theorem mkk111 : makeK Try.prog 111 = none := by kernel_rfl
theorem cal111 : callable Try.prog 111 = true := by kernel_rfl
theorem mkk127 : makeK Try.prog 127 = none := by kernel_rfl
theorem cal127 : callable Try.prog 127 = true := by kernel_rfl
abbrev search_clock_fits_post (r : Bool) : SV → Mem → Prop := fun s _ => s = (.bool r)

def search_clock_fits_1 (F : Nat) : Nat → (List S_api_Trigger) → Int → Int → S_search_clock → Option (Bool)
  | 0, _, _, _, _ => none
  | N + 1, v0, v7, v8, c22 =>
    bif (decide (v8 < v7)) then
      bnd (idx v0 v8) fun x26 =>
      bif (decide (c22.live ≤ x26.Time)) then
        some (!(decide ((0 : Int) ≤ v8)))
      else
        (search_clock_fits_1 F N) v0 v7 (w64 (v8 + (1 : Int))) c22
    else
      some (!(decide ((0 : Int) ≤ ((-1) : Int))))

theorem search_clock_fits_1_ok (F : Nat) : ∀ (N : Nat), ∀ (v0 : (List S_api_Trigger)) (v7 : Int) (v8 : Int) (c22 : S_search_clock) (sv0 : SV) (b22 : Pos) (Fr : Rd) (M : Mem) (r : Bool) (hv0 : Slc Fr 3 (FlatR enc76) sv0 v0) (hH : Has Fr M [.obj b22 (.row 87 .whole [(.int .i64 c22.live), (.int .i64 c22.window), (.int .i64 c22.step)])]), search_clock_fits_1 F N v0 v7 v8 c22 = some r → Run Try.prog ⟨⟨111, [], none⟩, [.mk ⟨91, [], none⟩ 9 (treeOf []) [itemC Try.prog 91 [1, 0] 2, codeC Try.prog 91 [1, 1]], .mk ⟨101, [], none⟩ 11 (treeOf []) [itemC Try.prog 101 [1, 1, 0] 2, codeC Try.prog 101 [1, 1, 1]]]⟩ 19 (search_clock_fits_post r) [(0, sv0), (1, (.fn (.func 127) [] [(.ptr b22 0)])), (7, (.int .i64 v7)), (8, (.int .i64 v8))] [codeC Try.prog 111 [1, 0, 1, 0, 0], loopC Try.prog 111 [1, 0, 1, 0, 0], .inBlock 0, codeC Try.prog 111 [1, 1]] M := by
  intro N
  induction N with
  | zero =>
    intro v0 v7 v8 c22 sv0 b22 Fr M r hv0 hH h
    simp [search_clock_fits_1] at h
  | succ N ih =>
    intro v0 v7 v8 c22 sv0 b22 Fr M r hv0 hH h
    rw [search_clock_fits_1] at h
    refine Run.seq (Run.region ?_)
    refine Run.opG wantS_none (ex_lss rfl rfl) rfl ?_
    refine Run.opsEnd (Run.seq ?_)
    rcases btf ((decide (v8 < v7))) with hc24 | hc24
    · have h := bif_t hc24 h
      refine Run.condT' rfl hc24 ?_
      refine Run.skip (Run.seq (Run.block (Run.seq (Run.region ?_))))
      refine Run.opG wantS_none (ex_move rfl) rfl ?_
      refine Run.opG wantS_none (ex_assign rfl) rfl ?_
      refine Run.opsEnd (Run.seq (Run.region ?_))
      refine Run.opG wantS_none (ex_move rfl) rfl ?_
      refine Run.opG wantS_none (ex_move rfl) rfl ?_
      refine Run.opG wantS_none (ex_move rfl) rfl ?_
      obtain ⟨x26, hx26, h⟩ := bnd_some h
      obtain ⟨p26, o26, _, hx26, hp26, rfl⟩ := sl_elem (P := Try.prog) (t := 22) (kk := .i64) hv0 hx26 els22
      refine Run.opG wantS_none (ex_elX rfl rfl hx26) rfl ?_
      refine Run.opG wantS_none (ex_loadA rfl (hH.ptrF hp26) rdLe_rfl agg76 rfl rfl rfl) rfl ?_
      refine Run.enter wantS_none (ex_closure rfl rfl mkk127 cal127) Try.func127 rfl rfl ?_
      refine Run.seq (Run.region ?_)
      refine Run.opX wantS_none rfl (ExG.box rfl rfl hH) ?_
      rintro _ M29 ⟨b28, rfl, (hH29 : Has Fr M29 [.obj b28 (.row 76 .whole [(.int .i64 x26.Time), (.int .i64 x26.Loud), (.int .i64 x26.Template)]), .obj b22 (.row 87 .whole [(.int .i64 c22.live), (.int .i64 c22.window), (.int .i64 c22.step)])])⟩
      refine Run.opG wantS_none (ex_assign rfl) rfl ?_
      refine Run.opsEnd (Run.seq (Run.region ?_))
      refine Run.opG wantS_none (ex_fieldAddr rfl off76_0) rfl ?_
      refine Run.opG wantS_none (ex_load1 rfl (hH29.cells (i := 0) rfl 0 rfl) rdLe_rfl agg3) rfl ?_
      refine Run.opG wantS_none (ex_fieldAddr rfl off87_0) rfl ?_
      refine Run.opG wantS_none (ex_load1 rfl (hH29.cells (i := 1) rfl 0 rfl) rdLe_rfl agg3) rfl ?_
      refine Run.opG wantS_none (ex_geq rfl rfl) rfl ?_
      refine Run.opG wantS_none (ex_assign rfl) rfl ?_
      refine Run.opsEnd ?_
      refine Run.retTo Try.func127 rfl (res_tmp rfl res_nil) rfl ?_
      refine Run.opsEnd ?_
      rcases btf ((decide (c22.live ≤ x26.Time))) with hc30 | hc30
      · have h := bif_t hc30 h
        refine Run.condT' rfl hc30 ?_
        refine Run.seq (Run.region ?_)
        refine Run.opG wantS_none (ex_move rfl) rfl ?_
        refine Run.opG wantS_none (ex_assign rfl) rfl ?_
        refine Run.opsEnd ?_
        refine Run.retTo Try.func111 rfl (res_tmp rfl res_nil) rfl ?_
        refine Run.opG wantS_none (ex_geq rfl rfl) rfl ?_
        refine Run.opG wantS_none (ex_assign rfl) rfl ?_
        refine Run.opsEnd ?_
        refine Run.retTo Try.func91 rfl (res_tmp rfl res_nil) rfl ?_
        refine Run.opG wantS_none (ex_not rfl) rfl ?_
        refine Run.opG wantS_none (ex_assign rfl) rfl ?_
        refine Run.opsEnd ?_
        cases h
        exact Run.ret Try.func101 rfl (res_tmp rfl res_nil) rfl
      · have h := bif_f hc30 h
        refine Run.condF' rfl hc30 ?_
        refine Run.skip (Run.inBlock (Run.region ?_))
        refine Run.opG wantS_none (ex_add rfl rfl) rfl ?_
        refine Run.opG wantS_none (ex_move rfl) rfl ?_
        refine Run.opsEnd (Run.inLoop ?_)
        exact Run.low (.cons (fle_pick [] rfl) (.cons (fle_pick [] rfl) .nil)) (Run.pick [0, 1, 7, 8] (ih v0 v7 (w64 (v8 + (1 : Int))) c22 sv0 b22 _ _ _ hv0 (hH29.pick [1] rfl rfl) h))
    · have h := bif_f hc24 h
      refine Run.condF' rfl hc24 ?_
      refine Run.exit rfl (Run.seq (Run.region ?_))
      refine Run.opG wantS_none (ex_assign rfl) rfl ?_
      refine Run.opsEnd ?_
      refine Run.retTo Try.func111 rfl (res_tmp rfl res_nil) rfl ?_
      refine Run.opG wantS_none (ex_geq rfl rfl) rfl ?_
      refine Run.opG wantS_none (ex_assign rfl) rfl ?_
      refine Run.opsEnd ?_
      refine Run.retTo Try.func91 rfl (res_tmp rfl res_nil) rfl ?_
      refine Run.opG wantS_none (ex_not rfl) rfl ?_
      refine Run.opG wantS_none (ex_assign rfl) rfl ?_
      refine Run.opsEnd ?_
      cases h
      exact Run.ret Try.func101 rfl (res_tmp rfl res_nil) rfl

def search_clock_fits (F : Nat) (a0 : S_search_clock) (a1 : (List S_api_Trigger)) : Option (Bool) :=
  search_clock_fits_1 F F a1 (a1.length : Int) (0 : Int) a0

theorem search_clock_fits_ok (F : Nat) (a0 : S_search_clock) (a1 : (List S_api_Trigger)) (s0 : SV) (r : Bool) (M : Mem) (hs0 : Slc (rd M) 3 (FlatR enc76) s0 a1) (h : search_clock_fits F a0 a1 = some r) : CallsM Try.prog 101 [(.agg [(.int .i64 a0.live), (.int .i64 a0.window), (.int .i64 a0.step)]), s0] M (fun s M' => s = (.bool r) ∧ M' = M) := by
  refine CallsM.plain Try.func101 rfl rfl rfl (show Run _ _ _ (search_clock_fits_post r) _ _ _ from ?_)
  rw [search_clock_fits] at h
  replace hs0 := hs0.mono (rdLe_frozen M) (fun _ _ h => h)
  have hH := Has.nil (frozen M)
  refine Run.seq (Run.region ?_)
  refine Run.opX wantS_none rfl (ExG.box rfl rfl hH) ?_
  rintro _ M23 ⟨b22, rfl, (hH23 : Has (ro (frozen M)) M23 [.obj b22 (.row 87 .whole [(.int .i64 a0.live), (.int .i64 a0.window), (.int .i64 a0.step)])])⟩
  refine Run.opG wantS_none (ex_assign rfl) rfl ?_
  refine Run.opsEnd (Run.seq (Run.region ?_))
  refine Run.opG wantS_none (ex_makeFunc rfl rfl) rfl ?_
  refine Run.opG wantS_none (ex_assign rfl) rfl ?_
  refine Run.opsEnd (Run.seq (Run.region ?_))
  refine Run.opG wantS_none (ex_move rfl) rfl ?_
  refine Run.opG wantS_none (ex_move rfl) rfl ?_
  refine Run.enter wantS_none (ex_call rfl mkk91 cal91) Try.func91 rfl rfl ?_
  refine Run.seq (Run.region ?_)
  refine Run.opG wantS_none (ex_assign rfl) rfl ?_
  refine Run.opsEnd (Run.seq (Run.region ?_))
  refine Run.opG wantS_none (ex_move rfl) rfl ?_
  refine Run.opG wantS_none (ex_move rfl) rfl ?_
  refine Run.enter wantS_none (ex_call rfl mkk111 cal111) Try.func111 rfl rfl ?_
  refine Run.seq (Run.region ?_)
  refine Run.opG wantS_none (ex_assign rfl) rfl ?_
  refine Run.opsEnd (Run.seq (Run.seq (Run.region ?_)))
  refine Run.opG wantS_none (ex_move rfl) rfl ?_
  refine Run.opG wantS_none (ex_len' rfl hs0 lenk22) rfl ?_
  refine Run.opG wantS_none (ex_move rfl) rfl ?_
  refine Run.opsEnd (Run.block (Run.loop ?_))
  exact Run.low (.cons (fle_pick [] rfl) (.cons (fle_pick [] rfl) .nil)) (Run.pick [0, 1, 7, 8] (search_clock_fits_1_ok F F a1 (a1.length : Int) (0 : Int) a0 s0 b22 _ _ _ hs0 hH23 h))

theorem mkk101 : makeK Try.prog 101 = none := by kernel_rfl
theorem cal101 : callable Try.prog 101 = true := by kernel_rfl
abbrev search_clock_check_post (r : Int) : SV → Mem → Prop := fun s _ => s = (.int .i64 r)

def search_clock_check_1 (F : Nat) (v20 : Bool) : Option (Int) :=
  bif v20 then
    some (81 : Int)
  else
    some (0 : Int)

theorem search_clock_check_1_ok (F : Nat) : ∀ (v20 : Bool) (Fr : Rd) (M : Mem) (r : Int) (hH : Has Fr M []), search_clock_check_1 F v20 = some r → Run Try.prog ⟨⟨55, [], none⟩, []⟩ 21 (search_clock_check_post r) [(20, (.bool v20))] [codeC Try.prog 55 [1, 1, 1, 0, 1], codeC Try.prog 55 [1, 1, 1, 1]] M := by
  intro v20 Fr M r hH h
  rw [search_clock_check_1] at h
  rcases btf (v20) with hc32 | hc32
  · have h := bif_t hc32 h
    refine Run.condT' rfl hc32 ?_
    refine Run.seq (Run.region ?_)
    refine Run.opG wantS_none (ex_assign rfl) rfl ?_
    refine Run.opsEnd ?_
    cases h
    exact Run.ret Try.func55 rfl (res_tmp rfl res_nil) rfl
  · have h := bif_f hc32 h
    refine Run.condF' rfl hc32 ?_
    refine Run.skip (Run.seq (Run.region ?_))
    refine Run.opG wantS_none (ex_assign rfl) rfl ?_
    refine Run.opsEnd ?_
    cases h
    exact Run.ret Try.func55 rfl (res_tmp rfl res_nil) rfl

def search_clock_check_2 (F : Nat) : Nat → (List (List S_api_Trigger)) → Int → Int → Bool → S_search_clock → Option (Int)
  | 0, _, _, _, _, _ => none
  | N + 1, v0, v7, v8, v16_f2, c22 =>
    bif (decide (v8 < v7)) then
      bnd (idx v0 v8) fun x35 =>
      bnd (search_clock_fits F c22 x35) fun r37 =>
      bif (!r37) then
        search_clock_check_1 F (bif v16_f2 then true else (decide ((0 : Int) ≤ v8)))
      else
        (search_clock_check_2 F N) v0 v7 (w64 (v8 + (1 : Int))) v16_f2 c22
    else
      search_clock_check_1 F (bif v16_f2 then true else (decide ((0 : Int) ≤ ((-1) : Int))))

theorem search_clock_check_2_ok (F : Nat) : ∀ (N : Nat), ∀ (v0 : (List (List S_api_Trigger))) (v7 : Int) (v8 : Int) (v16_f2 : Bool) (c22 : S_search_clock) (sv0 : SV) (b22 : Pos) (Fr : Rd) (M : Mem) (r : Int) (hv0 : Slc Fr 1 (rep22 Fr) sv0 v0) (hH : Has Fr M [.obj b22 (.row 87 .whole [(.int .i64 c22.live), (.int .i64 c22.window), (.int .i64 c22.step)])]), search_clock_check_2 F N v0 v7 v8 v16_f2 c22 = some r → Run Try.prog ⟨⟨128, [], none⟩, [.mk ⟨103, [], none⟩ 9 (treeOf []) [itemC Try.prog 103 [1, 0] 2, codeC Try.prog 103 [1, 1]], .mk ⟨55, [], none⟩ 21 (treeOf [(16, (.bool v16_f2))]) [itemC Try.prog 55 [1, 1, 1, 0, 0] 6, codeC Try.prog 55 [1, 1, 1, 0, 1], codeC Try.prog 55 [1, 1, 1, 1]]]⟩ 19 (search_clock_check_post r) [(0, sv0), (1, (.fn (.func 100) [] [(.ptr b22 0)])), (7, (.int .i64 v7)), (8, (.int .i64 v8))] [codeC Try.prog 128 [1, 0, 1, 0, 0], loopC Try.prog 128 [1, 0, 1, 0, 0], .inBlock 0, codeC Try.prog 128 [1, 1]] M := by
  intro N
  induction N with
  | zero =>
    intro v0 v7 v8 v16_f2 c22 sv0 b22 Fr M r hv0 hH h
    simp [search_clock_check_2] at h
  | succ N ih =>
    intro v0 v7 v8 v16_f2 c22 sv0 b22 Fr M r hv0 hH h
    rw [search_clock_check_2] at h
    refine Run.seq (Run.region ?_)
    refine Run.opG wantS_none (ex_lss rfl rfl) rfl ?_
    refine Run.opsEnd (Run.seq ?_)
    rcases btf ((decide (v8 < v7))) with hc33 | hc33
    · have h := bif_t hc33 h
      refine Run.condT' rfl hc33 ?_
      refine Run.skip (Run.seq (Run.block (Run.seq (Run.region ?_))))
      refine Run.opG wantS_none (ex_move rfl) rfl ?_
      refine Run.opG wantS_none (ex_assign rfl) rfl ?_
      refine Run.opsEnd (Run.seq (Run.region ?_))
      refine Run.opG wantS_none (ex_move rfl) rfl ?_
      refine Run.opG wantS_none (ex_move rfl) rfl ?_
      refine Run.opG wantS_none (ex_move rfl) rfl ?_
      obtain ⟨x35, hx35, h⟩ := bnd_some h
      obtain ⟨p35, o35, _, hx35, hp35, ⟨q35_0, rfl, hq35_0⟩⟩ := sl_elem (P := Try.prog) (t := 132) (kk := .i64) hv0 hx35 els132
      refine Run.opG wantS_none (ex_elX rfl rfl hx35) rfl ?_
      refine Run.opG wantS_none (ex_load1 rfl (hH.ptrF hp35) rdLe_rfl agg22) rfl ?_
      refine Run.enter wantS_none (ex_closure rfl rfl mkk100 cal100) Try.func100 rfl rfl ?_
      refine Run.seq (Run.region ?_)
      refine Run.opG wantS_none (ex_assign rfl) rfl ?_
      refine Run.opsEnd (Run.seq (Run.region ?_))
      refine Run.opG wantS_none (ex_loadA rfl (hH.cells (i := 0) rfl 0 rfl) rdLe_rfl agg87 rfl rfl rfl) rfl ?_
      refine Run.opG wantS_none (ex_move rfl) rfl ?_
      obtain ⟨r37, hr37, h⟩ := bnd_some h
      refine Run.callP wantS_none (ex_call rfl mkk101 cal101) rfl (search_clock_fits_ok F c22 x35 q35_0 _ _ (hH.slcF hq35_0) hr37) ?_
      refine Run.opG wantS_none (ex_not rfl) rfl ?_
      refine Run.opG wantS_none (ex_assign rfl) rfl ?_
      refine Run.opsEnd ?_
      refine Run.retTo Try.func100 rfl (res_tmp rfl res_nil) rfl ?_
      refine Run.opsEnd ?_
      rcases btf ((!r37)) with hc39 | hc39
      · have h := bif_t hc39 h
        refine Run.condT' rfl hc39 ?_
        refine Run.seq (Run.region ?_)
        refine Run.opG wantS_none (ex_move rfl) rfl ?_
        refine Run.opG wantS_none (ex_assign rfl) rfl ?_
        refine Run.opsEnd ?_
        refine Run.retTo Try.func128 rfl (res_tmp rfl res_nil) rfl ?_
        refine Run.opG wantS_none (ex_geq rfl rfl) rfl ?_
        refine Run.opG wantS_none (ex_assign rfl) rfl ?_
        refine Run.opsEnd ?_
        refine Run.retTo Try.func103 rfl (res_tmp rfl res_nil) rfl ?_
        refine Run.opG wantS_none (ex_pickB rfl rfl rfl) rfl ?_
        refine Run.opsEnd ?_
        exact Run.pick [20] (search_clock_check_1_ok F (bif v16_f2 then true else (decide ((0 : Int) ≤ v8))) _ _ _ (hH.pick [] rfl rfl) h)
      · have h := bif_f hc39 h
        refine Run.condF' rfl hc39 ?_
        refine Run.skip (Run.inBlock (Run.region ?_))
        refine Run.opG wantS_none (ex_add rfl rfl) rfl ?_
        refine Run.opG wantS_none (ex_move rfl) rfl ?_
        refine Run.opsEnd (Run.inLoop ?_)
        exact Run.low (.cons (fle_pick [] rfl) (.cons (fle_pick [16] rfl) .nil)) (Run.pick [0, 1, 7, 8] (ih v0 v7 (w64 (v8 + (1 : Int))) v16_f2 c22 sv0 b22 _ _ _ hv0 hH h))
    · have h := bif_f hc33 h
      refine Run.condF' rfl hc33 ?_
      refine Run.exit rfl (Run.seq (Run.region ?_))
      refine Run.opG wantS_none (ex_assign rfl) rfl ?_
      refine Run.opsEnd ?_
      refine Run.retTo Try.func128 rfl (res_tmp rfl res_nil) rfl ?_
      refine Run.opG wantS_none (ex_geq rfl rfl) rfl ?_
      refine Run.opG wantS_none (ex_assign rfl) rfl ?_
      refine Run.opsEnd ?_
      refine Run.retTo Try.func103 rfl (res_tmp rfl res_nil) rfl ?_
      refine Run.opG wantS_none (ex_pickB rfl rfl rfl) rfl ?_
      refine Run.opsEnd ?_
      exact Run.pick [20] (search_clock_check_1_ok F (bif v16_f2 then true else (decide ((0 : Int) ≤ ((-1) : Int)))) _ _ _ (hH.pick [] rfl rfl) h)

def search_clock_check (F : Nat) (a0 : S_search_clock) (a1 : (List (List S_api_Trigger))) : Option (Int) :=
  bnd (search_checkTriggers F a1) fun r25 =>
  bif (!(r25 == (0 : Int))) then
    some r25
  else
    bnd (search_clock_isValid F a0) fun r29 =>
    bif (!r29) then
      search_clock_check_1 F true
    else
      search_clock_check_2 F F a1 (a1.length : Int) (0 : Int) (!r29) a0

theorem search_clock_check_ok (F : Nat) (a0 : S_search_clock) (a1 : (List (List S_api_Trigger))) (s0 : SV) (r : Int) (M : Mem) (hs0 : Slc (rd M) 1 (rep22 (rd M)) s0 a1) (h : search_clock_check F a0 a1 = some r) : CallsM Try.prog 55 [(.agg [(.int .i64 a0.live), (.int .i64 a0.window), (.int .i64 a0.step)]), s0] M (fun s M' => s = (.int .i64 r) ∧ M' = M) := by
  refine CallsM.plain Try.func55 rfl rfl rfl (show Run _ _ _ (search_clock_check_post r) _ _ _ from ?_)
  rw [search_clock_check] at h
  replace hs0 := hs0.mono (rdLe_frozen M) (fun _ _ => rep22_mo (rdLe_frozen M))
  have hH := Has.nil (frozen M)
  refine Run.seq (Run.region ?_)
  refine Run.opX wantS_none rfl (ExG.box rfl rfl hH) ?_
  rintro _ M23 ⟨b22, rfl, (hH23 : Has (ro (frozen M)) M23 [.obj b22 (.row 87 .whole [(.int .i64 a0.live), (.int .i64 a0.window), (.int .i64 a0.step)])])⟩
  refine Run.opG wantS_none (ex_assign rfl) rfl ?_
  refine Run.opsEnd (Run.seq (Run.seq (Run.region ?_)))
  refine Run.opG wantS_none (ex_move rfl) rfl ?_
  obtain ⟨r25, hr25, h⟩ := bnd_some h
  refine Run.callP wantS_none (ex_call rfl mkk54 cal54) rfl (search_checkTriggers_ok F a1 s0 _ _ ((hs0).mono hH23.le (fun _ _ => rep22_mo hH23.le)) hr25) ?_
  refine Run.opG wantS_none (ex_assign rfl) rfl ?_
  refine Run.opsEnd (Run.seq (Run.region ?_))
  refine Run.opG wantS_none (ex_move rfl) rfl ?_
  refine Run.opG wantS_none (ex_neq rfl rfl) rfl ?_
  refine Run.opsEnd ?_
  rcases btf ((!(r25 == (0 : Int)))) with hc27 | hc27
  · have h := bif_t hc27 h
    refine Run.condT' rfl hc27 ?_
    refine Run.seq (Run.region ?_)
    refine Run.opG wantS_none (ex_move rfl) rfl ?_
    refine Run.opG wantS_none (ex_assign rfl) rfl ?_
    refine Run.opsEnd ?_
    cases h
    exact Run.ret Try.func55 rfl (res_tmp rfl res_nil) rfl
  · have h := bif_f hc27 h
    refine Run.condF' rfl hc27 ?_
    refine Run.skip (Run.seq (Run.region ?_))
    refine Run.opG wantS_none (ex_makeFunc rfl rfl) rfl ?_
    refine Run.opG wantS_none (ex_assign rfl) rfl ?_
    refine Run.opsEnd (Run.seq (Run.seq (Run.region ?_)))
    refine Run.opG wantS_none (ex_loadA rfl (hH23.cells (i := 0) rfl 0 rfl) rdLe_rfl agg87 rfl rfl rfl) rfl ?_
    obtain ⟨r29, hr29, h⟩ := bnd_some h
    refine Run.callP wantS_none (ex_call rfl mkk102 cal102) rfl (search_clock_isValid_ok F a0 _ _ hr29) ?_
    refine Run.opG wantS_none (ex_not rfl) rfl ?_
    refine Run.opG wantS_none (ex_move rfl) rfl ?_
    rcases btf ((!r29)) with hc31 | hc31
    · have h := bif_t hc31 h
      refine Run.no (wantS_not' rfl rfl hc31) rfl ?_
      refine Run.no (wantS_not' rfl rfl hc31) rfl ?_
      refine Run.no (wantS_not' rfl rfl hc31) rfl ?_
      refine Run.opG wantS_none (ex_pickT' rfl hc31 rfl rfl) rfl ?_
      refine Run.opsEnd ?_
      exact Run.pick [20] (search_clock_check_1_ok F true _ _ _ (hH23.pick [] rfl rfl) h)
    · have h := bif_f hc31 h
      refine Run.opG (wantS_yes' rfl rfl hc31) (ex_move rfl) rfl ?_
      refine Run.opG (wantS_yes' rfl rfl hc31) (ex_move rfl) rfl ?_
      refine Run.enter (wantS_yes' rfl rfl hc31) (ex_call rfl mkk103 cal103) Try.func103 rfl rfl ?_
      refine Run.seq (Run.region ?_)
      refine Run.opG wantS_none (ex_assign rfl) rfl ?_
      refine Run.opsEnd (Run.seq (Run.region ?_))
      refine Run.opG wantS_none (ex_move rfl) rfl ?_
      refine Run.opG wantS_none (ex_move rfl) rfl ?_
      refine Run.enter wantS_none (ex_call rfl mkk128 cal128) Try.func128 rfl rfl ?_
      refine Run.seq (Run.region ?_)
      refine Run.opG wantS_none (ex_assign rfl) rfl ?_
      refine Run.opsEnd (Run.seq (Run.seq (Run.region ?_)))
      refine Run.opG wantS_none (ex_move rfl) rfl ?_
      refine Run.opG wantS_none (ex_len' rfl hs0 lenk132) rfl ?_
      refine Run.opG wantS_none (ex_move rfl) rfl ?_
      refine Run.opsEnd (Run.block (Run.loop ?_))
      exact Run.low (.cons (fle_pick [] rfl) (.cons (fle_pick [16] rfl) .nil)) (Run.pick [0, 1, 7, 8] (search_clock_check_2_ok F F a1 (a1.length : Int) (0 : Int) (!r29) a0 s0 b22 _ _ _ hs0 hH23 h))

theorem mkk55 : makeK Try.prog 55 = none := by kernel_rfl
theorem cal55 : callable Try.prog 55 = true := by kernel_rfl
theorem mkk57 : makeK Try.prog 57 = none := by kernel_rfl
theorem cal57 : callable Try.prog 57 = true := by kernel_rfl
theorem mkk56 : makeK Try.prog 56 = none := by kernel_rfl
theorem cal56 : callable Try.prog 56 = true := by kernel_rfl
theorem mkk104 : makeK Try.prog 104 = none := by kernel_rfl
theorem cal104 : callable Try.prog 104 = true := by kernel_rfl
theorem cal105 : callable Try.prog 105 = true := by kernel_rfl
abbrev search_clock_distance_post (r : Int) : SV → Mem → Prop := fun s _ => s = (.int .i64 r)

def search_clock_distance (F : Nat) (a0 : S_search_clock) (a1 : Int) (a2 : Int) : Option (Int) :=
  some (min (max (w64 (a1 - a2)) (w64 (a2 - a1))) (w64 (a0.live - (max (w64 (a1 - a2)) (w64 (a2 - a1))))))

theorem search_clock_distance_ok (F : Nat) (a0 : S_search_clock) (a1 : Int) (a2 : Int) (r : Int) (M : Mem) (h : search_clock_distance F a0 a1 a2 = some r) : CallsM Try.prog 106 [(.agg [(.int .i64 a0.live), (.int .i64 a0.window), (.int .i64 a0.step)]), (.int .i64 a1), (.int .i64 a2)] M (fun s M' => s = (.int .i64 r) ∧ M' = M) := by
  refine CallsM.plain Try.func106 rfl rfl rfl (show Run _ _ _ (search_clock_distance_post r) _ _ _ from ?_)
  rw [search_clock_distance] at h
  have hH := Has.nil (frozen M)
  refine Run.seq (Run.region ?_)
  refine Run.opX wantS_none rfl (ExG.box rfl rfl hH) ?_
  rintro _ M23 ⟨b22, rfl, (hH23 : Has (ro (frozen M)) M23 [.obj b22 (.row 87 .whole [(.int .i64 a0.live), (.int .i64 a0.window), (.int .i64 a0.step)])])⟩
  refine Run.opG wantS_none (ex_assign rfl) rfl ?_
  refine Run.opsEnd (Run.seq (Run.region ?_))
  refine Run.opG wantS_none (ex_move rfl) rfl ?_
  refine Run.opG wantS_none (ex_move rfl) rfl ?_
  refine Run.opG wantS_none (ex_sub rfl rfl) rfl ?_
  refine Run.opG wantS_none (ex_move rfl) rfl ?_
  refine Run.opG wantS_none (ex_move rfl) rfl ?_
  refine Run.opG wantS_none (ex_sub rfl rfl) rfl ?_
  refine Run.opG wantS_none (ex_max rfl rfl) rfl ?_
  refine Run.opG wantS_none (ex_assign rfl) rfl ?_
  refine Run.opsEnd (Run.seq (Run.region ?_))
  refine Run.opG wantS_none (ex_move rfl) rfl ?_
  refine Run.opG wantS_none (ex_fieldAddr rfl off87_0) rfl ?_
  refine Run.opG wantS_none (ex_load1 rfl (hH23.cells (i := 0) rfl 0 rfl) rdLe_rfl agg3) rfl ?_
  refine Run.opG wantS_none (ex_move rfl) rfl ?_
  refine Run.opG wantS_none (ex_sub rfl rfl) rfl ?_
  refine Run.opG wantS_none (ex_min rfl rfl) rfl ?_
  refine Run.opG wantS_none (ex_assign rfl) rfl ?_
  refine Run.opsEnd ?_
  cases h
  exact Run.ret Try.func106 rfl (res_tmp rfl res_nil) rfl

theorem mkk106 : makeK Try.prog 106 = none := by kernel_rfl
theorem cal106 : callable Try.prog 106 = true := by kernel_rfl
theorem zer71 : zerosOf Try.prog 71 = some [(.int .i64 0), (.int .i64 0), (.int .i64 0)] := by kernel_rfl
theorem pls71 : placesOf Try.prog 71 = some (.st [(0, 1), (1, 1), (2, 1)]) := by kernel_rfl
theorem sz71 : szOf Try.prog 71 = some 3 := by kernel_rfl
theorem agg27 : aggSize Try.prog 27 = some none := by kernel_rfl
theorem agg71 : aggSize Try.prog 71 = some (some 3) := by kernel_rfl
theorem elt27 : sliceElt Try.prog 27 = some (⟨3, 24, [(.int .i64 0), (.int .i64 0), (.int .i64 0)], 71⟩ : Elt) := by kernel_rfl
theorem appt27_27 : appT Try.prog 27 27 = some (⟨3, 24, [(.int .i64 0), (.int .i64 0), (.int .i64 0)], 71⟩ : Elt) := by kernel_rfl
theorem sz27 : szOf Try.prog 27 = some 1 := by kernel_rfl
theorem plan105_1_0_0_1_1_0_0_1_1_0_0_1_1_0_0_1_0 : planOf Try.prog (opsC (atC Try.prog 105 [1, 0, 0, 1, 1, 0, 0, 1, 1, 0, 0, 1, 1, 0, 0, 1, 0])) = some [.fl 0, .fl 1, .fl 2, .fl 3, .fl 4, .fl 5, .fl 6, .fl 7, .fl 8, .fl 9, .fl 10, .fl 12, .fl 13, .an 11 [13, 12], .fl 14, .fl 15, .fl 16, .sync] := by kernel_rfl
abbrev search_Coincide_post (r : (List S_api_Pair) × Int) : SV → Mem → Prop := fun s Me => ∃ q1, s = (.tuple [q1, (.int .i64 r.2)]) ∧ Has (fun _ => none) Me [.vec 71 3 r.1.length q1 (r.1.flatMap enc71)]

def search_Coincide_4 (F : Nat) (hd2 : Int → (List S_api_Trigger) → Int → Int → (List S_api_Trigger) → Int → Int → (List S_api_Trigger) → (List S_api_Trigger) → S_search_clock → S_api_Trigger → (List S_api_Pair) → Option ((List S_api_Pair) × Int)) (v5 : Int) (v10 : (List S_api_Trigger)) (v11 : Int) (v12 : Int) (v17 : (List S_api_Trigger)) (v18 : Int) (v19 : Int) (v53 : Bool) (c38_0 : (List S_api_Trigger)) (c41_0 : (List S_api_Trigger)) (c35 : S_search_clock) (c54 : S_api_Trigger) (l79 : (List S_api_Pair)) : Option ((List S_api_Pair) × Int) :=
  bif v53 then
    some (l79, (0 : Int))
  else
    hd2 v5 v10 v11 v12 v17 v18 (w64 (v19 + (1 : Int))) c38_0 c41_0 c35 c54 l79

theorem search_Coincide_4_ok (F : Nat) (hd2 : Int → (List S_api_Trigger) → Int → Int → (List S_api_Trigger) → Int → Int → (List S_api_Trigger) → (List S_api_Trigger) → S_search_clock → S_api_Trigger → (List S_api_Pair) → Option ((List S_api_Pair) × Int)) (hhd2 : ∀ (v5 : Int) (v10 : (List S_api_Trigger)) (v11 : Int) (v12 : Int) (v17 : (List S_api_Trigger)) (v18 : Int) (v19 : Int) (c38_0 : (List S_api_Trigger)) (c41_0 : (List S_api_Trigger)) (c35 : S_search_clock) (c54 : S_api_Trigger) (l48 : (List S_api_Pair)) (sv10 : SV) (sv17 : SV) (sc38_0 : SV) (sc41_0 : SV) (b46 : Pos) (b44 : Pos) (s48 : SV) (b38 : Pos) (b41 : Pos) (b35 : Pos) (b47 : Pos) (b54 : Pos) (Fr : Rd) (M : Mem) (r : (List S_api_Pair) × Int) (hv10 : Slc Fr 3 (FlatR enc76) sv10 v10) (hv17 : Slc Fr 3 (FlatR enc76) sv17 v17) (hc38_0 : Slc Fr 3 (FlatR enc76) sc38_0 c38_0) (hc41_0 : Slc Fr 3 (FlatR enc76) sc41_0 c41_0) (hH : Has Fr M [.obj b46 (.loop ⟨.ready, none, 104, 13, treeOf [(2, (.ptr b44 0)), (4, .nils), (6, (.fn (.func 105) [] [(.ptr b38 0), (.ptr b41 0), (.ptr b35 0)]))], [7], (atC Try.prog 104 [1, 0, 1, 0, 0]), (atC Try.prog 104 [1, 0, 1, 0, 1]), b47⟩), .obj b44 (.row 27 .whole [s48]), .vec 71 3 l48.length s48 (l48.flatMap enc71), .obj b38 (.row 22 .whole [sc38_0]), .obj b41 (.row 22 .whole [sc41_0]), .obj b35 (.row 87 .whole [(.int .i64 c35.live), (.int .i64 c35.window), (.int .i64 c35.step)]), .obj b47 .defd, .obj b54 (.row 76 .whole [(.int .i64 c54.Time), (.int .i64 c54.Loud), (.int .i64 c54.Template)])]), hd2 v5 v10 v11 v12 v17 v18 v19 c38_0 c41_0 c35 c54 l48 = some r → Run Try.prog ⟨⟨105, [], none⟩, [.mk ⟨104, [b47], none⟩ 13 (treeOf [(2, (.ptr b44 0))]) [.inRange b46, .inBlock 0, codeC Try.prog 104 [1, 1]], .mk ⟨56, [], none⟩ 5 (treeOf []) [itemC Try.prog 56 [1, 0] 1, codeC Try.prog 56 [1, 1]], .mk ⟨17, [], none⟩ 29 (treeOf []) [itemC Try.prog 17 [1, 1, 1, 0] 4, codeC Try.prog 17 [1, 1, 1, 1]]]⟩ 56 (search_Coincide_post r) [(0, (.yield b46)), (2, (.ptr b41 0)), (3, (.ptr b35 0)), (5, (.int .i64 v5)), (6, (.ptr b54 0)), (10, sv10), (11, (.int .i64 v11)), (12, (.int .i64 v12)), (17, sv17), (18, (.int .i64 v18)), (19, (.int .i64 v19))] [codeC Try.prog 105 [1, 0, 0, 1, 1, 0, 0, 1, 1, 0, 0], loopC Try.prog 105 [1, 0, 0, 1, 1, 0, 0, 1, 1, 0, 0], .inBlock 2, .inBlock 1, codeC Try.prog 105 [1, 0, 0, 1, 1, 1], loopC Try.prog 105 [1, 0, 0], .inBlock 0] M) : ∀ (v5 : Int) (v10 : (List S_api_Trigger)) (v11 : Int) (v12 : Int) (v17 : (List S_api_Trigger)) (v18 : Int) (v19 : Int) (v53 : Bool) (c38_0 : (List S_api_Trigger)) (c41_0 : (List S_api_Trigger)) (c35 : S_search_clock) (c54 : S_api_Trigger) (l79 : (List S_api_Pair)) (sv10 : SV) (sv17 : SV) (sc38_0 : SV) (sc41_0 : SV) (b46 : Pos) (b44 : Pos) (s79 : SV) (b38 : Pos) (b41 : Pos) (b35 : Pos) (b47 : Pos) (b54 : Pos) (Fr : Rd) (M : Mem) (r : (List S_api_Pair) × Int) (hv10 : Slc Fr 3 (FlatR enc76) sv10 v10) (hv17 : Slc Fr 3 (FlatR enc76) sv17 v17) (hc38_0 : Slc Fr 3 (FlatR enc76) sc38_0 c38_0) (hc41_0 : Slc Fr 3 (FlatR enc76) sc41_0 c41_0) (hH : Has Fr M [.obj b46 (.loop ⟨.ready, none, 104, 13, treeOf [(2, (.ptr b44 0)), (4, .nils), (6, (.fn (.func 105) [] [(.ptr b38 0), (.ptr b41 0), (.ptr b35 0)]))], [7], (atC Try.prog 104 [1, 0, 1, 0, 0]), (atC Try.prog 104 [1, 0, 1, 0, 1]), b47⟩), .obj b44 (.row 27 .whole [s79]), .vec 71 3 l79.length s79 (l79.flatMap enc71), .obj b38 (.row 22 .whole [sc38_0]), .obj b41 (.row 22 .whole [sc41_0]), .obj b35 (.row 87 .whole [(.int .i64 c35.live), (.int .i64 c35.window), (.int .i64 c35.step)]), .obj b47 .defd, .obj b54 (.row 76 .whole [(.int .i64 c54.Time), (.int .i64 c54.Loud), (.int .i64 c54.Template)])]), search_Coincide_4 F hd2 v5 v10 v11 v12 v17 v18 v19 v53 c38_0 c41_0 c35 c54 l79 = some r → Run Try.prog ⟨⟨105, [], none⟩, [.mk ⟨104, [b47], none⟩ 13 (treeOf [(2, (.ptr b44 0))]) [.inRange b46, .inBlock 0, codeC Try.prog 104 [1, 1]], .mk ⟨56, [], none⟩ 5 (treeOf []) [itemC Try.prog 56 [1, 0] 1, codeC Try.prog 56 [1, 1]], .mk ⟨17, [], none⟩ 29 (treeOf []) [itemC Try.prog 17 [1, 1, 1, 0] 4, codeC Try.prog 17 [1, 1, 1, 1]]]⟩ 56 (search_Coincide_post r) [(0, (.yield b46)), (2, (.ptr b41 0)), (3, (.ptr b35 0)), (5, (.int .i64 v5)), (6, (.ptr b54 0)), (10, sv10), (11, (.int .i64 v11)), (12, (.int .i64 v12)), (17, sv17), (18, (.int .i64 v18)), (19, (.int .i64 v19)), (53, (.bool v53))] [codeC Try.prog 105 [1, 0, 0, 1, 1, 0, 0, 1, 1, 0, 0, 1, 1, 0, 0, 1, 1, 1], .inBlock 3, codeC Try.prog 105 [1, 0, 0, 1, 1, 0, 0, 1, 1, 0, 0, 1, 1, 1], loopC Try.prog 105 [1, 0, 0, 1, 1, 0, 0, 1, 1, 0, 0], .inBlock 2, .inBlock 1, codeC Try.prog 105 [1, 0, 0, 1, 1, 1], loopC Try.prog 105 [1, 0, 0], .inBlock 0] M := by
  intro v5 v10 v11 v12 v17 v18 v19 v53 c38_0 c41_0 c35 c54 l79 sv10 sv17 sc38_0 sc41_0 b46 b44 s79 b38 b41 b35 b47 b54 Fr M r hv10 hv17 hc38_0 hc41_0 hH h
  rw [search_Coincide_4] at h
  rcases btf (v53) with hc83 | hc83
  · have h := bif_t hc83 h
    refine Run.condT' rfl hc83 ?_
    refine Run.retRange Try.func105 rfl res_nil ?_
    refine Run.endX hH (i := 0) rfl (fun hc => by cases hc) ?_
    intro M84 (hH84 : Has Fr M84 [.obj b46 (.loop ⟨.exhausted, none, 104, 13, treeOf [(2, (.ptr b44 0)), (4, .nils), (6, (.fn (.func 105) [] [(.ptr b38 0), (.ptr b41 0), (.ptr b35 0)]))], [7], (atC Try.prog 104 [1, 0, 1, 0, 0]), (atC Try.prog 104 [1, 0, 1, 0, 1]), b47⟩), .obj b44 (.row 27 .whole [s79]), .vec 71 3 l79.length s79 (l79.flatMap enc71), .obj b38 (.row 22 .whole [sc38_0]), .obj b41 (.row 22 .whole [sc41_0]), .obj b35 (.row 87 .whole [(.int .i64 c35.live), (.int .i64 c35.window), (.int .i64 c35.step)]), .obj b47 .defd, .obj b54 (.row 76 .whole [(.int .i64 c54.Time), (.int .i64 c54.Loud), (.int .i64 c54.Template)])])
    refine Run.inBlock (Run.seq (Run.region ?_))
    refine Run.opG wantS_none (ex_load1 rfl (hH84.cells (i := 1) rfl 0 rfl) rdLe_rfl agg27) rfl ?_
    refine Run.opG wantS_none (ex_assign rfl) rfl ?_
    refine Run.opsEnd ?_
    obtain ⟨hH85x, hS85⟩ := hH84.shut (i := 6) (ds := []) rfl
    have hH85 : Has Fr (setT M84 b47 none) [.obj b46 (.loop ⟨.exhausted, none, 104, 13, treeOf [(2, (.ptr b44 0)), (4, .nils), (6, (.fn (.func 105) [] [(.ptr b38 0), (.ptr b41 0), (.ptr b35 0)]))], [7], (atC Try.prog 104 [1, 0, 1, 0, 0]), (atC Try.prog 104 [1, 0, 1, 0, 1]), b47⟩), .obj b44 (.row 27 .whole [s79]), .vec 71 3 l79.length s79 (l79.flatMap enc71), .obj b38 (.row 22 .whole [sc38_0]), .obj b41 (.row 22 .whole [sc41_0]), .obj b35 (.row 87 .whole [(.int .i64 c35.live), (.int .i64 c35.window), (.int .i64 c35.step)]), .vec 0 0 0 .nils [], .obj b54 (.row 76 .whole [(.int .i64 c54.Time), (.int .i64 c54.Loud), (.int .i64 c54.Template)])] := hH85x
    refine Run.retTo Try.func104 (hS85 _ rfl) (res_tmp rfl res_nil) rfl ?_
    refine Run.opG wantS_none (ex_assign rfl) rfl ?_
    refine Run.opsEnd ?_
    refine Run.retTo Try.func56 rfl (res_tmp rfl res_nil) rfl ?_
    refine Run.opG wantS_none (ex_assign rfl) rfl ?_
    refine Run.opG wantS_none (ex_assign rfl) rfl ?_
    refine Run.opsEnd ?_
    cases h
    exact Run.ret Try.func17 rfl (res_tmp rfl (res_tmp rfl res_nil)) ⟨_, rfl, (hH85.pick [2] rfl rfl).upF (none_le _)⟩
  · have h := bif_f hc83 h
    refine Run.condF' rfl hc83 ?_
    refine Run.skip (Run.inBlock (Run.region ?_))
    refine Run.opG wantS_none (ex_add rfl rfl) rfl ?_
    refine Run.opG wantS_none (ex_move rfl) rfl ?_
    refine Run.opsEnd (Run.inLoop ?_)
    exact Run.low (.cons (fle_pick [2] rfl) (.cons (fle_pick [] rfl) (.cons (fle_pick [] rfl) .nil))) (Run.pick [0, 2, 3, 5, 6, 10, 11, 12, 17, 18, 19] (hhd2 v5 v10 v11 v12 v17 v18 (w64 (v19 + (1 : Int))) c38_0 c41_0 c35 c54 l79 sv10 sv17 sc38_0 sc41_0 b46 b44 s79 b38 b41 b35 b47 b54 _ _ _ hv10 hv17 hc38_0 hc41_0 hH h))

def search_Coincide_3 (F : Nat) (hd2 : Int → (List S_api_Trigger) → Int → Int → (List S_api_Trigger) → Int → Int → (List S_api_Trigger) → (List S_api_Trigger) → S_search_clock → S_api_Trigger → (List S_api_Pair) → Option ((List S_api_Pair) × Int)) (v5 : Int) (v7 : Int) (v9 : Bool) (v10 : (List S_api_Trigger)) (v11 : Int) (v12 : Int) (v17 : (List S_api_Trigger)) (v18 : Int) (v19 : Int) (c38_0 : (List S_api_Trigger)) (c41_0 : (List S_api_Trigger)) (c35 : S_search_clock) (c54 : S_api_Trigger) (c61 : S_api_Trigger) (l48 : (List S_api_Pair)) : Option ((List S_api_Pair) × Int) :=
  bif v9 then
    bnd (apd 24 l48 ([(S_api_Pair.mk v5 v7 (w64 (c54.Loud + c61.Loud)))] : List S_api_Pair)) fun l78 =>
    search_Coincide_4 F hd2 v5 v10 v11 v12 v17 v18 v19 (!true) c38_0 c41_0 c35 c54 l78
  else
    search_Coincide_4 F hd2 v5 v10 v11 v12 v17 v18 v19 false c38_0 c41_0 c35 c54 l48

theorem search_Coincide_3_ok (F : Nat) (hd2 : Int → (List S_api_Trigger) → Int → Int → (List S_api_Trigger) → Int → Int → (List S_api_Trigger) → (List S_api_Trigger) → S_search_clock → S_api_Trigger → (List S_api_Pair) → Option ((List S_api_Pair) × Int)) (hhd2 : ∀ (v5 : Int) (v10 : (List S_api_Trigger)) (v11 : Int) (v12 : Int) (v17 : (List S_api_Trigger)) (v18 : Int) (v19 : Int) (c38_0 : (List S_api_Trigger)) (c41_0 : (List S_api_Trigger)) (c35 : S_search_clock) (c54 : S_api_Trigger) (l48 : (List S_api_Pair)) (sv10 : SV) (sv17 : SV) (sc38_0 : SV) (sc41_0 : SV) (b46 : Pos) (b44 : Pos) (s48 : SV) (b38 : Pos) (b41 : Pos) (b35 : Pos) (b47 : Pos) (b54 : Pos) (Fr : Rd) (M : Mem) (r : (List S_api_Pair) × Int) (hv10 : Slc Fr 3 (FlatR enc76) sv10 v10) (hv17 : Slc Fr 3 (FlatR enc76) sv17 v17) (hc38_0 : Slc Fr 3 (FlatR enc76) sc38_0 c38_0) (hc41_0 : Slc Fr 3 (FlatR enc76) sc41_0 c41_0) (hH : Has Fr M [.obj b46 (.loop ⟨.ready, none, 104, 13, treeOf [(2, (.ptr b44 0)), (4, .nils), (6, (.fn (.func 105) [] [(.ptr b38 0), (.ptr b41 0), (.ptr b35 0)]))], [7], (atC Try.prog 104 [1, 0, 1, 0, 0]), (atC Try.prog 104 [1, 0, 1, 0, 1]), b47⟩), .obj b44 (.row 27 .whole [s48]), .vec 71 3 l48.length s48 (l48.flatMap enc71), .obj b38 (.row 22 .whole [sc38_0]), .obj b41 (.row 22 .whole [sc41_0]), .obj b35 (.row 87 .whole [(.int .i64 c35.live), (.int .i64 c35.window), (.int .i64 c35.step)]), .obj b47 .defd, .obj b54 (.row 76 .whole [(.int .i64 c54.Time), (.int .i64 c54.Loud), (.int .i64 c54.Template)])]), hd2 v5 v10 v11 v12 v17 v18 v19 c38_0 c41_0 c35 c54 l48 = some r → Run Try.prog ⟨⟨105, [], none⟩, [.mk ⟨104, [b47], none⟩ 13 (treeOf [(2, (.ptr b44 0))]) [.inRange b46, .inBlock 0, codeC Try.prog 104 [1, 1]], .mk ⟨56, [], none⟩ 5 (treeOf []) [itemC Try.prog 56 [1, 0] 1, codeC Try.prog 56 [1, 1]], .mk ⟨17, [], none⟩ 29 (treeOf []) [itemC Try.prog 17 [1, 1, 1, 0] 4, codeC Try.prog 17 [1, 1, 1, 1]]]⟩ 56 (search_Coincide_post r) [(0, (.yield b46)), (2, (.ptr b41 0)), (3, (.ptr b35 0)), (5, (.int .i64 v5)), (6, (.ptr b54 0)), (10, sv10), (11, (.int .i64 v11)), (12, (.int .i64 v12)), (17, sv17), (18, (.int .i64 v18)), (19, (.int .i64 v19))] [codeC Try.prog 105 [1, 0, 0, 1, 1, 0, 0, 1, 1, 0, 0], loopC Try.prog 105 [1, 0, 0, 1, 1, 0, 0, 1, 1, 0, 0], .inBlock 2, .inBlock 1, codeC Try.prog 105 [1, 0, 0, 1, 1, 1], loopC Try.prog 105 [1, 0, 0], .inBlock 0] M) : ∀ (v5 : Int) (v7 : Int) (v9 : Bool) (v10 : (List S_api_Trigger)) (v11 : Int) (v12 : Int) (v17 : (List S_api_Trigger)) (v18 : Int) (v19 : Int) (c38_0 : (List S_api_Trigger)) (c41_0 : (List S_api_Trigger)) (c35 : S_search_clock) (c54 : S_api_Trigger) (c61 : S_api_Trigger) (l48 : (List S_api_Pair)) (sv10 : SV) (sv17 : SV) (sc38_0 : SV) (sc41_0 : SV) (b46 : Pos) (b44 : Pos) (s48 : SV) (b38 : Pos) (b41 : Pos) (b35 : Pos) (b47 : Pos) (b54 : Pos) (b61 : Pos) (Fr : Rd) (M : Mem) (r : (List S_api_Pair) × Int) (hv10 : Slc Fr 3 (FlatR enc76) sv10 v10) (hv17 : Slc Fr 3 (FlatR enc76) sv17 v17) (hc38_0 : Slc Fr 3 (FlatR enc76) sc38_0 c38_0) (hc41_0 : Slc Fr 3 (FlatR enc76) sc41_0 c41_0) (hH : Has Fr M [.obj b46 (.loop ⟨.ready, none, 104, 13, treeOf [(2, (.ptr b44 0)), (4, .nils), (6, (.fn (.func 105) [] [(.ptr b38 0), (.ptr b41 0), (.ptr b35 0)]))], [7], (atC Try.prog 104 [1, 0, 1, 0, 0]), (atC Try.prog 104 [1, 0, 1, 0, 1]), b47⟩), .obj b44 (.row 27 .whole [s48]), .vec 71 3 l48.length s48 (l48.flatMap enc71), .obj b38 (.row 22 .whole [sc38_0]), .obj b41 (.row 22 .whole [sc41_0]), .obj b35 (.row 87 .whole [(.int .i64 c35.live), (.int .i64 c35.window), (.int .i64 c35.step)]), .obj b47 .defd, .obj b54 (.row 76 .whole [(.int .i64 c54.Time), (.int .i64 c54.Loud), (.int .i64 c54.Template)]), .obj b61 (.row 76 .whole [(.int .i64 c61.Time), (.int .i64 c61.Loud), (.int .i64 c61.Template)])]), search_Coincide_3 F hd2 v5 v7 v9 v10 v11 v12 v17 v18 v19 c38_0 c41_0 c35 c54 c61 l48 = some r → Run Try.prog ⟨⟨105, [], none⟩, [.mk ⟨104, [b47], none⟩ 13 (treeOf [(2, (.ptr b44 0))]) [.inRange b46, .inBlock 0, codeC Try.prog 104 [1, 1]], .mk ⟨56, [], none⟩ 5 (treeOf []) [itemC Try.prog 56 [1, 0] 1, codeC Try.prog 56 [1, 1]], .mk ⟨17, [], none⟩ 29 (treeOf []) [itemC Try.prog 17 [1, 1, 1, 0] 4, codeC Try.prog 17 [1, 1, 1, 1]]]⟩ 56 (search_Coincide_post r) [(0, (.yield b46)), (2, (.ptr b41 0)), (3, (.ptr b35 0)), (5, (.int .i64 v5)), (6, (.ptr b54 0)), (7, (.int .i64 v7)), (8, (.ptr b61 0)), (9, (.bool v9)), (10, sv10), (11, (.int .i64 v11)), (12, (.int .i64 v12)), (17, sv17), (18, (.int .i64 v18)), (19, (.int .i64 v19))] [itemC Try.prog 105 [1, 0, 0, 1, 1, 0, 0, 1, 1, 0, 0, 1, 1, 0, 0, 1, 1, 0] 0, codeC Try.prog 105 [1, 0, 0, 1, 1, 0, 0, 1, 1, 0, 0, 1, 1, 0, 0, 1, 1, 1], .inBlock 3, codeC Try.prog 105 [1, 0, 0, 1, 1, 0, 0, 1, 1, 0, 0, 1, 1, 1], loopC Try.prog 105 [1, 0, 0, 1, 1, 0, 0, 1, 1, 0, 0], .inBlock 2, .inBlock 1, codeC Try.prog 105 [1, 0, 0, 1, 1, 1], loopC Try.prog 105 [1, 0, 0], .inBlock 0] M := by
  intro v5 v7 v9 v10 v11 v12 v17 v18 v19 c38_0 c41_0 c35 c54 c61 l48 sv10 sv17 sc38_0 sc41_0 b46 b44 s48 b38 b41 b35 b47 b54 b61 Fr M r hv10 hv17 hc38_0 hc41_0 hH h
  rw [search_Coincide_3] at h
  refine Run.opG wantS_none (ex_move rfl) rfl ?_
  refine Run.opG wantS_none (ex_move rfl) rfl ?_
  rcases btf (v9) with hc67 | hc67
  · have h := bif_t hc67 h
    refine Run.opG (wantS_yes' rfl rfl hc67) (ex_move rfl) rfl ?_
    refine Run.opG (wantS_yes' rfl rfl hc67) (ex_move rfl) rfl ?_
    refine Run.opG (wantS_yes' rfl rfl hc67) (ex_move rfl) rfl ?_
    refine Run.opG (wantS_yes' rfl rfl hc67) (ex_fieldAddr rfl off76_1) rfl ?_
    refine Run.opG (wantS_yes' rfl rfl hc67) (ex_load1 rfl (hH.cells (i := 7) rfl 1 rfl) rdLe_rfl agg3) rfl ?_
    refine Run.opG (wantS_yes' rfl rfl hc67) (ex_fieldAddr rfl off76_1) rfl ?_
    refine Run.opG (wantS_yes' rfl rfl hc67) (ex_load1 rfl (hH.cells (i := 8) rfl 1 rfl) rdLe_rfl agg3) rfl ?_
    refine Run.opG (wantS_yes' rfl rfl hc67) (ex_add rfl rfl) rfl ?_
    refine Run.opG (wantS_yes' rfl rfl hc67) (ex_build (r := [(.int .i64 v5), (.int .i64 v7), (.int .i64 (w64 (c54.Loud + c61.Loud)))]) rfl zer71 pls71 rfl) rfl ?_
    refine Run.round (e' := [(7, (.agg [(.int .i64 v5), (.int .i64 v7), (.int .i64 (w64 (c54.Loud + c61.Loud)))])), (2, (.ptr b44 0)), (4, .nils), (6, (.fn (.func 105) [] [(.ptr b38 0), (.ptr b41 0), (.ptr b35 0)]))]) (wantS_yes' rfl rfl hc67) (ex_yield hH (i := 0) rfl rfl rfl rfl) (hH.loopOf (i := 0) rfl) rfl ?_
    refine Run.region ?_
    refine Run.opX wantS_none rfl (ExG.new (v := fun b => .ptr b 0) (ex_alloc zer71) hH) ?_
    rintro _ M70 ⟨b69, rfl, (hH70 : Has Fr M70 [.obj b69 (.row 71 .whole [(.int .i64 0), (.int .i64 0), (.int .i64 0)]), .obj b46 (.loop ⟨.ready, none, 104, 13, treeOf [(2, (.ptr b44 0)), (4, .nils), (6, (.fn (.func 105) [] [(.ptr b38 0), (.ptr b41 0), (.ptr b35 0)]))], [7], (atC Try.prog 104 [1, 0, 1, 0, 0]), (atC Try.prog 104 [1, 0, 1, 0, 1]), b47⟩), .obj b44 (.row 27 .whole [s48]), .vec 71 3 l48.length s48 (l48.flatMap enc71), .obj b38 (.row 22 .whole [sc38_0]), .obj b41 (.row 22 .whole [sc41_0]), .obj b35 (.row 87 .whole [(.int .i64 c35.live), (.int .i64 c35.window), (.int .i64 c35.step)]), .obj b47 .defd, .obj b54 (.row 76 .whole [(.int .i64 c54.Time), (.int .i64 c54.Loud), (.int .i64 c54.Template)]), .obj b61 (.row 76 .whole [(.int .i64 c61.Time), (.int .i64 c61.Loud), (.int .i64 c61.Template)])])⟩
    refine Run.opX wantS_none rfl (ExG.storeC (c' := [(.int .i64 v5), (.int .i64 v7), (.int .i64 (w64 (c54.Loud + c61.Loud)))]) rfl rfl rfl hH70 (i := 0) rfl sz71 rfl rfl rfl rfl rfl) ?_
    rintro _ M71 ⟨rfl, (hH71 : Has Fr M71 [.obj b69 (.row 71 .whole [(.int .i64 v5), (.int .i64 v7), (.int .i64 (w64 (c54.Loud + c61.Loud)))]), .obj b46 (.loop ⟨.ready, none, 104, 13, treeOf [(2, (.ptr b44 0)), (4, .nils), (6, (.fn (.func 105) [] [(.ptr b38 0), (.ptr b41 0), (.ptr b35 0)]))], [7], (atC Try.prog 104 [1, 0, 1, 0, 0]), (atC Try.prog 104 [1, 0, 1, 0, 1]), b47⟩), .obj b44 (.row 27 .whole [s48]), .vec 71 3 l48.length s48 (l48.flatMap enc71), .obj b38 (.row 22 .whole [sc38_0]), .obj b41 (.row 22 .whole [sc41_0]), .obj b35 (.row 87 .whole [(.int .i64 c35.live), (.int .i64 c35.window), (.int .i64 c35.step)]), .obj b47 .defd, .obj b54 (.row 76 .whole [(.int .i64 c54.Time), (.int .i64 c54.Loud), (.int .i64 c54.Template)]), .obj b61 (.row 76 .whole [(.int .i64 c61.Time), (.int .i64 c61.Loud), (.int .i64 c61.Template)])])⟩
    refine Run.opsEnd ?_
    refine Run.beginX hH71 (i := 1) rfl rfl ?_
    intro M72 (hH72 : Has Fr M72 [.obj b69 (.row 71 .whole [(.int .i64 v5), (.int .i64 v7), (.int .i64 (w64 (c54.Loud + c61.Loud)))]), .obj b46 (.loop ⟨.busy, none, 104, 13, treeOf [(2, (.ptr b44 0)), (4, .nils), (6, (.fn (.func 105) [] [(.ptr b38 0), (.ptr b41 0), (.ptr b35 0)]))], [7], (atC Try.prog 104 [1, 0, 1, 0, 0]), (atC Try.prog 104 [1, 0, 1, 0, 1]), b47⟩), .obj b44 (.row 27 .whole [s48]), .vec 71 3 l48.length s48 (l48.flatMap enc71), .obj b38 (.row 22 .whole [sc38_0]), .obj b41 (.row 22 .whole [sc41_0]), .obj b35 (.row 87 .whole [(.int .i64 c35.live), (.int .i64 c35.window), (.int .i64 c35.step)]), .obj b47 .defd, .obj b54 (.row 76 .whole [(.int .i64 c54.Time), (.int .i64 c54.Loud), (.int .i64 c54.Template)]), .obj b61 (.row 76 .whole [(.int .i64 c61.Time), (.int .i64 c61.Loud), (.int .i64 c61.Template)])])
    refine Run.block (Run.region ?_)
    refine Run.opG wantS_none (ex_load1 rfl (hH72.cells (i := 2) rfl 0 rfl) rdLe_rfl agg27) rfl ?_
    refine Run.opG wantS_none (ex_loadA rfl (hH72.cells (i := 0) rfl 0 rfl) rdLe_rfl agg71 rfl rfl rfl) rfl ?_
    refine Run.opX wantS_none rfl (ExG.built (enc := enc71) (l := ([(S_api_Pair.mk v5 v7 (w64 (c54.Loud + c61.Loud)))] : List S_api_Pair)) (z := 3) rfl elt27 rfl rfl rfl enc71_len hH72) ?_
    rintro s74 M75 (hH75 : Has Fr M75 [.vec 71 3 ([(S_api_Pair.mk v5 v7 (w64 (c54.Loud + c61.Loud)))] : List S_api_Pair).length s74 (([(S_api_Pair.mk v5 v7 (w64 (c54.Loud + c61.Loud)))] : List S_api_Pair).flatMap enc71), .obj b69 (.row 71 .whole [(.int .i64 v5), (.int .i64 v7), (.int .i64 (w64 (c54.Loud + c61.Loud)))]), .obj b46 (.loop ⟨.busy, none, 104, 13, treeOf [(2, (.ptr b44 0)), (4, .nils), (6, (.fn (.func 105) [] [(.ptr b38 0), (.ptr b41 0), (.ptr b35 0)]))], [7], (atC Try.prog 104 [1, 0, 1, 0, 0]), (atC Try.prog 104 [1, 0, 1, 0, 1]), b47⟩), .obj b44 (.row 27 .whole [s48]), .vec 71 3 l48.length s48 (l48.flatMap enc71), .obj b38 (.row 22 .whole [sc38_0]), .obj b41 (.row 22 .whole [sc41_0]), .obj b35 (.row 87 .whole [(.int .i64 c35.live), (.int .i64 c35.window), (.int .i64 c35.step)]), .obj b47 .defd, .obj b54 (.row 76 .whole [(.int .i64 c54.Time), (.int .i64 c54.Loud), (.int .i64 c54.Template)]), .obj b61 (.row 76 .whole [(.int .i64 c61.Time), (.int .i64 c61.Loud), (.int .i64 c61.Template)])])
    obtain ⟨l78, hl78, h⟩ := bnd_some h
    refine Run.opX wantS_none rfl (ExG.append rfl rfl hH75 (i := 4) rfl enc71_len rfl enc71_ones appt27_27 rfl (len_slc (hH75.slc (i := 0) rfl enc71_len)) (first_slc (hH75.slc (i := 0) rfl enc71_len) (rdLe_rdRow _) enc71_len) hl78) ?_
    rintro s78 M80 (hH80 : Has Fr M80 [.vec 71 3 ([(S_api_Pair.mk v5 v7 (w64 (c54.Loud + c61.Loud)))] : List S_api_Pair).length s74 (([(S_api_Pair.mk v5 v7 (w64 (c54.Loud + c61.Loud)))] : List S_api_Pair).flatMap enc71), .obj b69 (.row 71 .whole [(.int .i64 v5), (.int .i64 v7), (.int .i64 (w64 (c54.Loud + c61.Loud)))]), .obj b46 (.loop ⟨.busy, none, 104, 13, treeOf [(2, (.ptr b44 0)), (4, .nils), (6, (.fn (.func 105) [] [(.ptr b38 0), (.ptr b41 0), (.ptr b35 0)]))], [7], (atC Try.prog 104 [1, 0, 1, 0, 0]), (atC Try.prog 104 [1, 0, 1, 0, 1]), b47⟩), .obj b44 (.row 27 .whole [s48]), .vec 71 3 l78.length s78 (l78.flatMap enc71), .obj b38 (.row 22 .whole [sc38_0]), .obj b41 (.row 22 .whole [sc41_0]), .obj b35 (.row 87 .whole [(.int .i64 c35.live), (.int .i64 c35.window), (.int .i64 c35.step)]), .obj b47 .defd, .obj b54 (.row 76 .whole [(.int .i64 c54.Time), (.int .i64 c54.Loud), (.int .i64 c54.Template)]), .obj b61 (.row 76 .whole [(.int .i64 c61.Time), (.int .i64 c61.Loud), (.int .i64 c61.Template)])])
    refine Run.opX wantS_none rfl (ExG.storeC (c' := [s78]) rfl rfl (cells_one (vec_one hH80 (i := 4) rfl)) hH80 (i := 3) rfl sz27 rfl rfl rfl (ones_cons (vec_one hH80 (i := 4) rfl) ones_nil) rfl) ?_
    rintro _ M81 ⟨rfl, (hH81 : Has Fr M81 [.vec 71 3 ([(S_api_Pair.mk v5 v7 (w64 (c54.Loud + c61.Loud)))] : List S_api_Pair).length s74 (([(S_api_Pair.mk v5 v7 (w64 (c54.Loud + c61.Loud)))] : List S_api_Pair).flatMap enc71), .obj b69 (.row 71 .whole [(.int .i64 v5), (.int .i64 v7), (.int .i64 (w64 (c54.Loud + c61.Loud)))]), .obj b46 (.loop ⟨.busy, none, 104, 13, treeOf [(2, (.ptr b44 0)), (4, .nils), (6, (.fn (.func 105) [] [(.ptr b38 0), (.ptr b41 0), (.ptr b35 0)]))], [7], (atC Try.prog 104 [1, 0, 1, 0, 0]), (atC Try.prog 104 [1, 0, 1, 0, 1]), b47⟩), .obj b44 (.row 27 .whole [s78]), .vec 71 3 l78.length s78 (l78.flatMap enc71), .obj b38 (.row 22 .whole [sc38_0]), .obj b41 (.row 22 .whole [sc41_0]), .obj b35 (.row 87 .whole [(.int .i64 c35.live), (.int .i64 c35.window), (.int .i64 c35.step)]), .obj b47 .defd, .obj b54 (.row 76 .whole [(.int .i64 c54.Time), (.int .i64 c54.Loud), (.int .i64 c54.Template)]), .obj b61 (.row 76 .whole [(.int .i64 c61.Time), (.int .i64 c61.Loud), (.int .i64 c61.Template)])])⟩
    refine Run.opsEnd (Run.inBlock ?_)
    refine Run.roundEndX hH81 (i := 2) rfl rfl ?_
    intro M82 (hH82 : Has Fr M82 [.vec 71 3 ([(S_api_Pair.mk v5 v7 (w64 (c54.Loud + c61.Loud)))] : List S_api_Pair).length s74 (([(S_api_Pair.mk v5 v7 (w64 (c54.Loud + c61.Loud)))] : List S_api_Pair).flatMap enc71), .obj b69 (.row 71 .whole [(.int .i64 v5), (.int .i64 v7), (.int .i64 (w64 (c54.Loud + c61.Loud)))]), .obj b46 (.loop ⟨.ready, none, 104, 13, treeOf [(2, (.ptr b44 0)), (4, .nils), (6, (.fn (.func 105) [] [(.ptr b38 0), (.ptr b41 0), (.ptr b35 0)]))], [7], (atC Try.prog 104 [1, 0, 1, 0, 0]), (atC Try.prog 104 [1, 0, 1, 0, 1]), b47⟩), .obj b44 (.row 27 .whole [s78]), .vec 71 3 l78.length s78 (l78.flatMap enc71), .obj b38 (.row 22 .whole [sc38_0]), .obj b41 (.row 22 .whole [sc41_0]), .obj b35 (.row 87 .whole [(.int .i64 c35.live), (.int .i64 c35.window), (.int .i64 c35.step)]), .obj b47 .defd, .obj b54 (.row 76 .whole [(.int .i64 c54.Time), (.int .i64 c54.Loud), (.int .i64 c54.Template)]), .obj b61 (.row 76 .whole [(.int .i64 c61.Time), (.int .i64 c61.Loud), (.int .i64 c61.Template)])])
    refine Run.opG (wantS_yes' rfl rfl hc67) (ex_not rfl) rfl ?_
    refine Run.opG wantS_none (ex_pickT' rfl hc67 rfl rfl) rfl ?_
    refine Run.opsEnd ?_
    exact Run.low (.cons (fle_pick [2] rfl) (.cons (fle_pick [] rfl) (.cons (fle_pick [] rfl) .nil))) (Run.pick [0, 2, 3, 5, 6, 10, 11, 12, 17, 18, 19, 53] (search_Coincide_4_ok F hd2 hhd2 v5 v10 v11 v12 v17 v18 v19 (!true) c38_0 c41_0 c35 c54 l78 sv10 sv17 sc38_0 sc41_0 b46 b44 s78 b38 b41 b35 b47 b54 _ _ _ hv10 hv17 hc38_0 hc41_0 (hH82.pick [2, 3, 4, 5, 6, 7, 8, 9] rfl rfl) h))
  · have h := bif_f hc67 h
    refine Run.no (wantS_not' rfl rfl hc67) rfl ?_
    refine Run.no (wantS_not' rfl rfl hc67) rfl ?_
    refine Run.no (wantS_not' rfl rfl hc67) rfl ?_
    refine Run.no (wantS_not' rfl rfl hc67) rfl ?_
    refine Run.no (wantS_not' rfl rfl hc67) rfl ?_
    refine Run.no (wantS_not' rfl rfl hc67) rfl ?_
    refine Run.no (wantS_not' rfl rfl hc67) rfl ?_
    refine Run.no (wantS_not' rfl rfl hc67) rfl ?_
    refine Run.no (wantS_not' rfl rfl hc67) rfl ?_
    refine Run.no (wantS_not' rfl rfl hc67) rfl ?_
    refine Run.no (wantS_not' rfl rfl hc67) rfl ?_
    refine Run.opG wantS_none (ex_pickF' rfl hc67 rfl rfl) rfl ?_
    refine Run.opsEnd ?_
    exact Run.low (.cons (fle_pick [2] rfl) (.cons (fle_pick [] rfl) (.cons (fle_pick [] rfl) .nil))) (Run.pick [0, 2, 3, 5, 6, 10, 11, 12, 17, 18, 19, 53] (search_Coincide_4_ok F hd2 hhd2 v5 v10 v11 v12 v17 v18 v19 false c38_0 c41_0 c35 c54 l48 sv10 sv17 sc38_0 sc41_0 b46 b44 s48 b38 b41 b35 b47 b54 _ _ _ hv10 hv17 hc38_0 hc41_0 (hH.pick [0, 1, 2, 3, 4, 5, 6, 7] rfl rfl) h))

def search_Coincide_2 (F : Nat) (hd1 : (List S_api_Trigger) → Int → Int → (List S_api_Trigger) → (List S_api_Trigger) → S_search_clock → (List S_api_Pair) → Option ((List S_api_Pair) × Int)) : Nat → Int → (List S_api_Trigger) → Int → Int → (List S_api_Trigger) → Int → Int → (List S_api_Trigger) → (List S_api_Trigger) → S_search_clock → S_api_Trigger → (List S_api_Pair) → Option ((List S_api_Pair) × Int)
  | 0, _, _, _, _, _, _, _, _, _, _, _, _ => none
  | N + 1, v5, v10, v11, v12, v17, v18, v19, c38_0, c41_0, c35, c54, l48 =>
    bif (decide (v19 < v18)) then
      bnd (idx v17 v19) fun x59 =>
      bif (c54.Template == x59.Template) then
        bnd (search_clock_distance F c35 c54.Time x59.Time) fun r65 =>
        search_Coincide_3 F (search_Coincide_2 F hd1 N) v5 v19 (decide (r65 ≤ c35.window)) v10 v11 v12 v17 v18 v19 c38_0 c41_0 c35 c54 x59 l48
      else
        search_Coincide_3 F (search_Coincide_2 F hd1 N) v5 v19 false v10 v11 v12 v17 v18 v19 c38_0 c41_0 c35 c54 x59 l48
    else
      hd1 v10 v11 (w64 (v12 + (1 : Int))) c38_0 c41_0 c35 l48

theorem search_Coincide_2_ok (F : Nat) (hd1 : (List S_api_Trigger) → Int → Int → (List S_api_Trigger) → (List S_api_Trigger) → S_search_clock → (List S_api_Pair) → Option ((List S_api_Pair) × Int)) (hhd1 : ∀ (v10 : (List S_api_Trigger)) (v11 : Int) (v12 : Int) (c38_0 : (List S_api_Trigger)) (c41_0 : (List S_api_Trigger)) (c35 : S_search_clock) (l48 : (List S_api_Pair)) (sv10 : SV) (sc38_0 : SV) (sc41_0 : SV) (b46 : Pos) (b44 : Pos) (s48 : SV) (b38 : Pos) (b41 : Pos) (b35 : Pos) (b47 : Pos) (Fr : Rd) (M : Mem) (r : (List S_api_Pair) × Int) (hv10 : Slc Fr 3 (FlatR enc76) sv10 v10) (hc38_0 : Slc Fr 3 (FlatR enc76) sc38_0 c38_0) (hc41_0 : Slc Fr 3 (FlatR enc76) sc41_0 c41_0) (hH : Has Fr M [.obj b46 (.loop ⟨.ready, none, 104, 13, treeOf [(2, (.ptr b44 0)), (4, .nils), (6, (.fn (.func 105) [] [(.ptr b38 0), (.ptr b41 0), (.ptr b35 0)]))], [7], (atC Try.prog 104 [1, 0, 1, 0, 0]), (atC Try.prog 104 [1, 0, 1, 0, 1]), b47⟩), .obj b44 (.row 27 .whole [s48]), .vec 71 3 l48.length s48 (l48.flatMap enc71), .obj b38 (.row 22 .whole [sc38_0]), .obj b41 (.row 22 .whole [sc41_0]), .obj b35 (.row 87 .whole [(.int .i64 c35.live), (.int .i64 c35.window), (.int .i64 c35.step)]), .obj b47 .defd]), hd1 v10 v11 v12 c38_0 c41_0 c35 l48 = some r → Run Try.prog ⟨⟨105, [], none⟩, [.mk ⟨104, [b47], none⟩ 13 (treeOf [(2, (.ptr b44 0))]) [.inRange b46, .inBlock 0, codeC Try.prog 104 [1, 1]], .mk ⟨56, [], none⟩ 5 (treeOf []) [itemC Try.prog 56 [1, 0] 1, codeC Try.prog 56 [1, 1]], .mk ⟨17, [], none⟩ 29 (treeOf []) [itemC Try.prog 17 [1, 1, 1, 0] 4, codeC Try.prog 17 [1, 1, 1, 1]]]⟩ 56 (search_Coincide_post r) [(0, (.yield b46)), (2, (.ptr b41 0)), (3, (.ptr b35 0)), (10, sv10), (11, (.int .i64 v11)), (12, (.int .i64 v12))] [codeC Try.prog 105 [1, 0, 0], loopC Try.prog 105 [1, 0, 0], .inBlock 0] M) : ∀ (N : Nat), ∀ (v5 : Int) (v10 : (List S_api_Trigger)) (v11 : Int) (v12 : Int) (v17 : (List S_api_Trigger)) (v18 : Int) (v19 : Int) (c38_0 : (List S_api_Trigger)) (c41_0 : (List S_api_Trigger)) (c35 : S_search_clock) (c54 : S_api_Trigger) (l48 : (List S_api_Pair)) (sv10 : SV) (sv17 : SV) (sc38_0 : SV) (sc41_0 : SV) (b46 : Pos) (b44 : Pos) (s48 : SV) (b38 : Pos) (b41 : Pos) (b35 : Pos) (b47 : Pos) (b54 : Pos) (Fr : Rd) (M : Mem) (r : (List S_api_Pair) × Int) (hv10 : Slc Fr 3 (FlatR enc76) sv10 v10) (hv17 : Slc Fr 3 (FlatR enc76) sv17 v17) (hc38_0 : Slc Fr 3 (FlatR enc76) sc38_0 c38_0) (hc41_0 : Slc Fr 3 (FlatR enc76) sc41_0 c41_0) (hH : Has Fr M [.obj b46 (.loop ⟨.ready, none, 104, 13, treeOf [(2, (.ptr b44 0)), (4, .nils), (6, (.fn (.func 105) [] [(.ptr b38 0), (.ptr b41 0), (.ptr b35 0)]))], [7], (atC Try.prog 104 [1, 0, 1, 0, 0]), (atC Try.prog 104 [1, 0, 1, 0, 1]), b47⟩), .obj b44 (.row 27 .whole [s48]), .vec 71 3 l48.length s48 (l48.flatMap enc71), .obj b38 (.row 22 .whole [sc38_0]), .obj b41 (.row 22 .whole [sc41_0]), .obj b35 (.row 87 .whole [(.int .i64 c35.live), (.int .i64 c35.window), (.int .i64 c35.step)]), .obj b47 .defd, .obj b54 (.row 76 .whole [(.int .i64 c54.Time), (.int .i64 c54.Loud), (.int .i64 c54.Template)])]), search_Coincide_2 F hd1 N v5 v10 v11 v12 v17 v18 v19 c38_0 c41_0 c35 c54 l48 = some r → Run Try.prog ⟨⟨105, [], none⟩, [.mk ⟨104, [b47], none⟩ 13 (treeOf [(2, (.ptr b44 0))]) [.inRange b46, .inBlock 0, codeC Try.prog 104 [1, 1]], .mk ⟨56, [], none⟩ 5 (treeOf []) [itemC Try.prog 56 [1, 0] 1, codeC Try.prog 56 [1, 1]], .mk ⟨17, [], none⟩ 29 (treeOf []) [itemC Try.prog 17 [1, 1, 1, 0] 4, codeC Try.prog 17 [1, 1, 1, 1]]]⟩ 56 (search_Coincide_post r) [(0, (.yield b46)), (2, (.ptr b41 0)), (3, (.ptr b35 0)), (5, (.int .i64 v5)), (6, (.ptr b54 0)), (10, sv10), (11, (.int .i64 v11)), (12, (.int .i64 v12)), (17, sv17), (18, (.int .i64 v18)), (19, (.int .i64 v19))] [codeC Try.prog 105 [1, 0, 0, 1, 1, 0, 0, 1, 1, 0, 0], loopC Try.prog 105 [1, 0, 0, 1, 1, 0, 0, 1, 1, 0, 0], .inBlock 2, .inBlock 1, codeC Try.prog 105 [1, 0, 0, 1, 1, 1], loopC Try.prog 105 [1, 0, 0], .inBlock 0] M := by
  intro N
  induction N with
  | zero =>
    intro v5 v10 v11 v12 v17 v18 v19 c38_0 c41_0 c35 c54 l48 sv10 sv17 sc38_0 sc41_0 b46 b44 s48 b38 b41 b35 b47 b54 Fr M r hv10 hv17 hc38_0 hc41_0 hH h
    simp [search_Coincide_2] at h
  | succ N ih =>
    intro v5 v10 v11 v12 v17 v18 v19 c38_0 c41_0 c35 c54 l48 sv10 sv17 sc38_0 sc41_0 b46 b44 s48 b38 b41 b35 b47 b54 Fr M r hv10 hv17 hc38_0 hc41_0 hH h
    rw [search_Coincide_2] at h
    refine Run.seq (Run.region ?_)
    refine Run.opG wantS_none (ex_lss rfl rfl) rfl ?_
    refine Run.opsEnd (Run.seq ?_)
    rcases btf ((decide (v19 < v18))) with hc57 | hc57
    · have h := bif_t hc57 h
      refine Run.condT' rfl hc57 ?_
      refine Run.skip (Run.seq (Run.block (Run.seq (Run.region ?_))))
      refine Run.opG wantS_none (ex_move rfl) rfl ?_
      obtain ⟨x59, hx59, h⟩ := bnd_some h
      obtain ⟨p59, o59, _, hx59, hp59, rfl⟩ := sl_elem (P := Try.prog) (t := 22) (kk := .i64) hv17 hx59 els22
      refine Run.opG wantS_none (ex_elX rfl rfl hx59) rfl ?_
      refine Run.opG wantS_none (ex_loadA rfl (hH.ptrF hp59) rdLe_rfl agg76 rfl rfl rfl) rfl ?_
      refine Run.opX wantS_none rfl (ExG.new (v := fun b => .ptr b 0) (ex_alloc zer76) hH) ?_
      rintro _ M62 ⟨b61, rfl, (hH62 : Has Fr M62 [.obj b61 (.row 76 .whole [(.int .i64 0), (.int .i64 0), (.int .i64 0)]), .obj b46 (.loop ⟨.ready, none, 104, 13, treeOf [(2, (.ptr b44 0)), (4, .nils), (6, (.fn (.func 105) [] [(.ptr b38 0), (.ptr b41 0), (.ptr b35 0)]))], [7], (atC Try.prog 104 [1, 0, 1, 0, 0]), (atC Try.prog 104 [1, 0, 1, 0, 1]), b47⟩), .obj b44 (.row 27 .whole [s48]), .vec 71 3 l48.length s48 (l48.flatMap enc71), .obj b38 (.row 22 .whole [sc38_0]), .obj b41 (.row 22 .whole [sc41_0]), .obj b35 (.row 87 .whole [(.int .i64 c35.live), (.int .i64 c35.window), (.int .i64 c35.step)]), .obj b47 .defd, .obj b54 (.row 76 .whole [(.int .i64 c54.Time), (.int .i64 c54.Loud), (.int .i64 c54.Template)])])⟩
      refine Run.opG wantS_none (ex_assign rfl) rfl ?_
      refine Run.opX wantS_none rfl (ExG.storeC (c' := [(.int .i64 x59.Time), (.int .i64 x59.Loud), (.int .i64 x59.Template)]) rfl rfl rfl hH62 (i := 0) rfl sz76 rfl rfl rfl rfl rfl) ?_
      rintro _ M63 ⟨rfl, (hH63 : Has Fr M63 [.obj b61 (.row 76 .whole [(.int .i64 x59.Time), (.int .i64 x59.Loud), (.int .i64 x59.Template)]), .obj b46 (.loop ⟨.ready, none, 104, 13, treeOf [(2, (.ptr b44 0)), (4, .nils), (6, (.fn (.func 105) [] [(.ptr b38 0), (.ptr b41 0), (.ptr b35 0)]))], [7], (atC Try.prog 104 [1, 0, 1, 0, 0]), (atC Try.prog 104 [1, 0, 1, 0, 1]), b47⟩), .obj b44 (.row 27 .whole [s48]), .vec 71 3 l48.length s48 (l48.flatMap enc71), .obj b38 (.row 22 .whole [sc38_0]), .obj b41 (.row 22 .whole [sc41_0]), .obj b35 (.row 87 .whole [(.int .i64 c35.live), (.int .i64 c35.window), (.int .i64 c35.step)]), .obj b47 .defd, .obj b54 (.row 76 .whole [(.int .i64 c54.Time), (.int .i64 c54.Loud), (.int .i64 c54.Template)])])⟩
      refine Run.opsEnd (Run.seq ?_)
      refine Run.drawG plan105_1_0_0_1_1_0_0_1_1_0_0_1_1_0_0_1_0 ?_
      refine DrawG.fl rfl (ev_ex wantS_none (ex_fieldAddr rfl off76_2)) rfl ?_
      refine DrawG.fl rfl (ev_ex wantS_none (ex_load1 rfl (hH63.cells (i := 8) rfl 2 rfl) rdLe_rfl agg3)) rfl ?_
      refine DrawG.fl rfl (ev_ex wantS_none (ex_fieldAddr rfl off76_2)) rfl ?_
      refine DrawG.fl rfl (ev_ex wantS_none (ex_load1 rfl (hH63.cells (i := 0) rfl 2 rfl) rdLe_rfl agg3)) rfl ?_
      refine DrawG.fl rfl (ev_ex wantS_none (ex_eql rfl rfl)) rfl ?_
      refine DrawG.fl rfl (ev_ex wantS_none (ex_move rfl)) rfl ?_
      rcases btf ((c54.Template == x59.Template)) with hc64 | hc64
      · have h := bif_t hc64 h
        refine DrawG.fl rfl (ev_ex (wantS_yes' rfl rfl hc64) (ex_loadA rfl (hH63.cells (i := 6) rfl 0 rfl) rdLe_rfl agg87 rfl rfl rfl)) rfl ?_
        refine DrawG.fl rfl (ev_ex (wantS_yes' rfl rfl hc64) (ex_fieldAddr rfl off76_0)) rfl ?_
        refine DrawG.fl rfl (ev_ex (wantS_yes' rfl rfl hc64) (ex_load1 rfl (hH63.cells (i := 8) rfl 0 rfl) rdLe_rfl agg3)) rfl ?_
        refine DrawG.fl rfl (ev_ex (wantS_yes' rfl rfl hc64) (ex_fieldAddr rfl off76_0)) rfl ?_
        refine DrawG.fl rfl (ev_ex (wantS_yes' rfl rfl hc64) (ex_load1 rfl (hH63.cells (i := 0) rfl 0 rfl) rdLe_rfl agg3)) rfl ?_
        refine DrawG.fl rfl (ev_ex (wantS_yes' rfl rfl hc64) (ex_fieldAddr rfl off87_1)) rfl ?_
        refine DrawG.fl rfl (ev_ex (wantS_yes' rfl rfl hc64) (ex_load1 rfl (hH63.cells (i := 6) rfl 1 rfl) rdLe_rfl agg3)) rfl ?_
        obtain ⟨r65, hr65, h⟩ := bnd_some h
        refine DrawG.callP rfl (wantS_yes' rfl rfl hc64) (ex_call rfl mkk106 cal106) rfl (search_clock_distance_ok F c35 c54.Time x59.Time _ _ hr65) (st_cons rfl (ev_ex (wantS_yes' rfl rfl hc64) (ex_load1 rfl (hH63.cells (i := 6) rfl 1 rfl) rdLe_rfl agg3)) rfl rfl rfl (st_cons rfl (ev_ex (wantS_yes' rfl rfl hc64) (ex_fieldAddr rfl off87_1)) rfl rfl rfl st_nil)) ?_
        refine DrawG.fl rfl (ev_ex (wantS_yes' rfl rfl hc64) (ex_leq rfl rfl)) rfl ?_
        refine DrawG.fl rfl (ev_ex wantS_none (ex_pickT' rfl hc64 rfl rfl)) rfl ?_
        refine DrawG.fl rfl (ev_ex wantS_none (ex_assign rfl)) rfl ?_
        refine DrawG.sync ?_
        refine DrawG.nil ?_
        refine Run.seq (Run.region ?_)
        exact Run.low (.cons (fle_pick [2] rfl) (.cons (fle_pick [] rfl) (.cons (fle_pick [] rfl) .nil))) (Run.pick [0, 2, 3, 5, 6, 7, 8, 9, 10, 11, 12, 17, 18, 19] (search_Coincide_3_ok F (search_Coincide_2 F hd1 N) ih v5 v19 (decide (r65 ≤ c35.window)) v10 v11 v12 v17 v18 v19 c38_0 c41_0 c35 c54 x59 l48 sv10 sv17 sc38_0 sc41_0 b46 b44 s48 b38 b41 b35 b47 b54 b61 _ _ _ hv10 hv17 hc38_0 hc41_0 (hH63.pick [1, 2, 3, 4, 5, 6, 7, 8, 0] rfl rfl) h))
      · have h := bif_f hc64 h
        refine DrawG.fl rfl (ev_no (wantS_not' rfl rfl hc64)) rfl ?_
        refine DrawG.fl rfl (ev_no (wantS_not' rfl rfl hc64)) rfl ?_
        refine DrawG.fl rfl (ev_no (wantS_not' rfl rfl hc64)) rfl ?_
        refine DrawG.fl rfl (ev_no (wantS_not' rfl rfl hc64)) rfl ?_
        refine DrawG.fl rfl (ev_no (wantS_not' rfl rfl hc64)) rfl ?_
        refine DrawG.fl rfl (ev_no (wantS_not' rfl rfl hc64)) rfl ?_
        refine DrawG.fl rfl (ev_no (wantS_not' rfl rfl hc64)) rfl ?_
        refine DrawG.no rfl (wantS_not' rfl rfl hc64) rfl (st_cons rfl (ev_no (wantS_not' rfl rfl hc64)) rfl rfl rfl (st_cons rfl (ev_no (wantS_not' rfl rfl hc64)) rfl rfl rfl st_nil)) ?_
        refine DrawG.fl rfl (ev_no (wantS_not' rfl rfl hc64)) rfl ?_
        refine DrawG.fl rfl (ev_ex wantS_none (ex_pickF' rfl hc64 rfl rfl)) rfl ?_
        refine DrawG.fl rfl (ev_ex wantS_none (ex_assign rfl)) rfl ?_
        refine DrawG.sync ?_
        refine DrawG.nil ?_
        refine Run.seq (Run.region ?_)
        exact Run.low (.cons (fle_pick [2] rfl) (.cons (fle_pick [] rfl) (.cons (fle_pick [] rfl) .nil))) (Run.pick [0, 2, 3, 5, 6, 7, 8, 9, 10, 11, 12, 17, 18, 19] (search_Coincide_3_ok F (search_Coincide_2 F hd1 N) ih v5 v19 false v10 v11 v12 v17 v18 v19 c38_0 c41_0 c35 c54 x59 l48 sv10 sv17 sc38_0 sc41_0 b46 b44 s48 b38 b41 b35 b47 b54 b61 _ _ _ hv10 hv17 hc38_0 hc41_0 (hH63.pick [1, 2, 3, 4, 5, 6, 7, 8, 0] rfl rfl) h))
    · have h := bif_f hc57 h
      refine Run.condF' rfl hc57 ?_
      refine Run.exit rfl (Run.inBlock (Run.region ?_))
      refine Run.opG wantS_none (ex_add rfl rfl) rfl ?_
      refine Run.opG wantS_none (ex_move rfl) rfl ?_
      refine Run.opsEnd (Run.inLoop ?_)
      exact Run.low (.cons (fle_pick [2] rfl) (.cons (fle_pick [] rfl) (.cons (fle_pick [] rfl) .nil))) (Run.pick [0, 2, 3, 10, 11, 12] (hhd1 v10 v11 (w64 (v12 + (1 : Int))) c38_0 c41_0 c35 l48 sv10 sc38_0 sc41_0 b46 b44 s48 b38 b41 b35 b47 _ _ _ hv10 hc38_0 hc41_0 (hH.pick [0, 1, 2, 3, 4, 5, 6] rfl rfl) h))

def search_Coincide_1 (F : Nat) : Nat → (List S_api_Trigger) → Int → Int → (List S_api_Trigger) → (List S_api_Trigger) → S_search_clock → (List S_api_Pair) → Option ((List S_api_Pair) × Int)
  | 0, _, _, _, _, _, _, _ => none
  | N + 1, v10, v11, v12, c38_0, c41_0, c35, l48 =>
    bif (decide (v12 < v11)) then
      bnd (idx v10 v12) fun x52 =>
      search_Coincide_2 F (search_Coincide_1 F N) F v12 v10 v11 v12 c41_0 (c41_0.length : Int) (0 : Int) c38_0 c41_0 c35 x52 l48
    else
      some (l48, (0 : Int))

theorem search_Coincide_1_ok (F : Nat) : ∀ (N : Nat), ∀ (v10 : (List S_api_Trigger)) (v11 : Int) (v12 : Int) (c38_0 : (List S_api_Trigger)) (c41_0 : (List S_api_Trigger)) (c35 : S_search_clock) (l48 : (List S_api_Pair)) (sv10 : SV) (sc38_0 : SV) (sc41_0 : SV) (b46 : Pos) (b44 : Pos) (s48 : SV) (b38 : Pos) (b41 : Pos) (b35 : Pos) (b47 : Pos) (Fr : Rd) (M : Mem) (r : (List S_api_Pair) × Int) (hv10 : Slc Fr 3 (FlatR enc76) sv10 v10) (hc38_0 : Slc Fr 3 (FlatR enc76) sc38_0 c38_0) (hc41_0 : Slc Fr 3 (FlatR enc76) sc41_0 c41_0) (hH : Has Fr M [.obj b46 (.loop ⟨.ready, none, 104, 13, treeOf [(2, (.ptr b44 0)), (4, .nils), (6, (.fn (.func 105) [] [(.ptr b38 0), (.ptr b41 0), (.ptr b35 0)]))], [7], (atC Try.prog 104 [1, 0, 1, 0, 0]), (atC Try.prog 104 [1, 0, 1, 0, 1]), b47⟩), .obj b44 (.row 27 .whole [s48]), .vec 71 3 l48.length s48 (l48.flatMap enc71), .obj b38 (.row 22 .whole [sc38_0]), .obj b41 (.row 22 .whole [sc41_0]), .obj b35 (.row 87 .whole [(.int .i64 c35.live), (.int .i64 c35.window), (.int .i64 c35.step)]), .obj b47 .defd]), search_Coincide_1 F N v10 v11 v12 c38_0 c41_0 c35 l48 = some r → Run Try.prog ⟨⟨105, [], none⟩, [.mk ⟨104, [b47], none⟩ 13 (treeOf [(2, (.ptr b44 0))]) [.inRange b46, .inBlock 0, codeC Try.prog 104 [1, 1]], .mk ⟨56, [], none⟩ 5 (treeOf []) [itemC Try.prog 56 [1, 0] 1, codeC Try.prog 56 [1, 1]], .mk ⟨17, [], none⟩ 29 (treeOf []) [itemC Try.prog 17 [1, 1, 1, 0] 4, codeC Try.prog 17 [1, 1, 1, 1]]]⟩ 56 (search_Coincide_post r) [(0, (.yield b46)), (2, (.ptr b41 0)), (3, (.ptr b35 0)), (10, sv10), (11, (.int .i64 v11)), (12, (.int .i64 v12))] [codeC Try.prog 105 [1, 0, 0], loopC Try.prog 105 [1, 0, 0], .inBlock 0] M := by
  intro N
  induction N with
  | zero =>
    intro v10 v11 v12 c38_0 c41_0 c35 l48 sv10 sc38_0 sc41_0 b46 b44 s48 b38 b41 b35 b47 Fr M r hv10 hc38_0 hc41_0 hH h
    simp [search_Coincide_1] at h
  | succ N ih =>
    intro v10 v11 v12 c38_0 c41_0 c35 l48 sv10 sc38_0 sc41_0 b46 b44 s48 b38 b41 b35 b47 Fr M r hv10 hc38_0 hc41_0 hH h
    rw [search_Coincide_1] at h
    refine Run.seq (Run.region ?_)
    refine Run.opG wantS_none (ex_lss rfl rfl) rfl ?_
    refine Run.opsEnd (Run.seq ?_)
    rcases btf ((decide (v12 < v11))) with hc50 | hc50
    · have h := bif_t hc50 h
      refine Run.condT' rfl hc50 ?_
      refine Run.skip (Run.seq (Run.block (Run.seq (Run.region ?_))))
      refine Run.opG wantS_none (ex_move rfl) rfl ?_
      obtain ⟨x52, hx52, h⟩ := bnd_some h
      obtain ⟨p52, o52, _, hx52, hp52, rfl⟩ := sl_elem (P := Try.prog) (t := 22) (kk := .i64) hv10 hx52 els22
      refine Run.opG wantS_none (ex_elX rfl rfl hx52) rfl ?_
      refine Run.opG wantS_none (ex_loadA rfl (hH.ptrF hp52) rdLe_rfl agg76 rfl rfl rfl) rfl ?_
      refine Run.opX wantS_none rfl (ExG.new (v := fun b => .ptr b 0) (ex_alloc zer76) hH) ?_
      rintro _ M55 ⟨b54, rfl, (hH55 : Has Fr M55 [.obj b54 (.row 76 .whole [(.int .i64 0), (.int .i64 0), (.int .i64 0)]), .obj b46 (.loop ⟨.ready, none, 104, 13, treeOf [(2, (.ptr b44 0)), (4, .nils), (6, (.fn (.func 105) [] [(.ptr b38 0), (.ptr b41 0), (.ptr b35 0)]))], [7], (atC Try.prog 104 [1, 0, 1, 0, 0]), (atC Try.prog 104 [1, 0, 1, 0, 1]), b47⟩), .obj b44 (.row 27 .whole [s48]), .vec 71 3 l48.length s48 (l48.flatMap enc71), .obj b38 (.row 22 .whole [sc38_0]), .obj b41 (.row 22 .whole [sc41_0]), .obj b35 (.row 87 .whole [(.int .i64 c35.live), (.int .i64 c35.window), (.int .i64 c35.step)]), .obj b47 .defd])⟩
      refine Run.opG wantS_none (ex_assign rfl) rfl ?_
      refine Run.opX wantS_none rfl (ExG.storeC (c' := [(.int .i64 x52.Time), (.int .i64 x52.Loud), (.int .i64 x52.Template)]) rfl rfl rfl hH55 (i := 0) rfl sz76 rfl rfl rfl rfl rfl) ?_
      rintro _ M56 ⟨rfl, (hH56 : Has Fr M56 [.obj b54 (.row 76 .whole [(.int .i64 x52.Time), (.int .i64 x52.Loud), (.int .i64 x52.Template)]), .obj b46 (.loop ⟨.ready, none, 104, 13, treeOf [(2, (.ptr b44 0)), (4, .nils), (6, (.fn (.func 105) [] [(.ptr b38 0), (.ptr b41 0), (.ptr b35 0)]))], [7], (atC Try.prog 104 [1, 0, 1, 0, 0]), (atC Try.prog 104 [1, 0, 1, 0, 1]), b47⟩), .obj b44 (.row 27 .whole [s48]), .vec 71 3 l48.length s48 (l48.flatMap enc71), .obj b38 (.row 22 .whole [sc38_0]), .obj b41 (.row 22 .whole [sc41_0]), .obj b35 (.row 87 .whole [(.int .i64 c35.live), (.int .i64 c35.window), (.int .i64 c35.step)]), .obj b47 .defd])⟩
      refine Run.opsEnd (Run.seq (Run.region ?_))
      refine Run.opG wantS_none (ex_load1 rfl (hH56.cells (i := 5) rfl 0 rfl) rdLe_rfl agg22) rfl ?_
      refine Run.opG wantS_none (ex_len' rfl hc41_0 lenk22) rfl ?_
      refine Run.opG wantS_none (ex_move rfl) rfl ?_
      refine Run.opsEnd (Run.block (Run.loop ?_))
      exact Run.low (.cons (fle_pick [2] rfl) (.cons (fle_pick [] rfl) (.cons (fle_pick [] rfl) .nil))) (Run.pick [0, 2, 3, 5, 6, 10, 11, 12, 17, 18, 19] (search_Coincide_2_ok F (search_Coincide_1 F N) ih F v12 v10 v11 v12 c41_0 (c41_0.length : Int) (0 : Int) c38_0 c41_0 c35 x52 l48 sv10 sc41_0 sc38_0 sc41_0 b46 b44 s48 b38 b41 b35 b47 b54 _ _ _ hv10 hc41_0 hc38_0 hc41_0 (hH56.pick [1, 2, 3, 4, 5, 6, 7, 0] rfl rfl) h))
    · have h := bif_f hc50 h
      refine Run.condF' rfl hc50 ?_
      refine Run.exit rfl ?_
      refine Run.fallRange Try.func105 rfl res_nil ?_
      refine Run.endX hH (i := 0) rfl (fun hc => by cases hc) ?_
      intro M87 (hH87 : Has Fr M87 [.obj b46 (.loop ⟨.exhausted, none, 104, 13, treeOf [(2, (.ptr b44 0)), (4, .nils), (6, (.fn (.func 105) [] [(.ptr b38 0), (.ptr b41 0), (.ptr b35 0)]))], [7], (atC Try.prog 104 [1, 0, 1, 0, 0]), (atC Try.prog 104 [1, 0, 1, 0, 1]), b47⟩), .obj b44 (.row 27 .whole [s48]), .vec 71 3 l48.length s48 (l48.flatMap enc71), .obj b38 (.row 22 .whole [sc38_0]), .obj b41 (.row 22 .whole [sc41_0]), .obj b35 (.row 87 .whole [(.int .i64 c35.live), (.int .i64 c35.window), (.int .i64 c35.step)]), .obj b47 .defd])
      refine Run.inBlock (Run.seq (Run.region ?_))
      refine Run.opG wantS_none (ex_load1 rfl (hH87.cells (i := 1) rfl 0 rfl) rdLe_rfl agg27) rfl ?_
      refine Run.opG wantS_none (ex_assign rfl) rfl ?_
      refine Run.opsEnd ?_
      obtain ⟨hH88x, hS88⟩ := hH87.shut (i := 6) (ds := []) rfl
      have hH88 : Has Fr (setT M87 b47 none) [.obj b46 (.loop ⟨.exhausted, none, 104, 13, treeOf [(2, (.ptr b44 0)), (4, .nils), (6, (.fn (.func 105) [] [(.ptr b38 0), (.ptr b41 0), (.ptr b35 0)]))], [7], (atC Try.prog 104 [1, 0, 1, 0, 0]), (atC Try.prog 104 [1, 0, 1, 0, 1]), b47⟩), .obj b44 (.row 27 .whole [s48]), .vec 71 3 l48.length s48 (l48.flatMap enc71), .obj b38 (.row 22 .whole [sc38_0]), .obj b41 (.row 22 .whole [sc41_0]), .obj b35 (.row 87 .whole [(.int .i64 c35.live), (.int .i64 c35.window), (.int .i64 c35.step)]), .vec 0 0 0 .nils []] := hH88x
      refine Run.retTo Try.func104 (hS88 _ rfl) (res_tmp rfl res_nil) rfl ?_
      refine Run.opG wantS_none (ex_assign rfl) rfl ?_
      refine Run.opsEnd ?_
      refine Run.retTo Try.func56 rfl (res_tmp rfl res_nil) rfl ?_
      refine Run.opG wantS_none (ex_assign rfl) rfl ?_
      refine Run.opG wantS_none (ex_assign rfl) rfl ?_
      refine Run.opsEnd ?_
      cases h
      exact Run.ret Try.func17 rfl (res_tmp rfl (res_tmp rfl res_nil)) ⟨_, rfl, (hH88.pick [2] rfl rfl).upF (none_le _)⟩

def search_Coincide (F : Nat) (a0 : (List S_api_Trigger)) (a1 : (List S_api_Trigger)) (a2 : Int) (a3 : Int) : Option ((List S_api_Pair) × Int) :=
  bnd (search_clock_check F (S_search_clock.mk a2 a3 a2) ([a0, a1] : List (List S_api_Trigger))) fun r29 =>
  bif (!(r29 == (0 : Int))) then
    some (([] : List S_api_Pair), r29)
  else
    search_Coincide_1 F F a0 (a0.length : Int) (0 : Int) a0 a1 (S_search_clock.mk a2 a3 a2) ([] : List S_api_Pair)

theorem search_Coincide_ok (F : Nat) (a0 : (List S_api_Trigger)) (a1 : (List S_api_Trigger)) (a2 : Int) (a3 : Int) (s0 s1 : SV) (r : (List S_api_Pair) × Int) (M : Mem) (hs0 : Slc (rd M) 3 (FlatR enc76) s0 a0) (hs1 : Slc (rd M) 3 (FlatR enc76) s1 a1) (h : search_Coincide F a0 a1 a2 a3 = some r) : CallsM Try.prog 17 [s0, s1, (.int .i64 a2), (.int .i64 a3)] M (fun s M' => ∃ q1, s = (.tuple [q1, (.int .i64 r.2)]) ∧ New M M' [.vec 71 3 r.1.length q1 (r.1.flatMap enc71)]) := by
  refine CallsM.fresh (Q := search_Coincide_post r) Try.func17 rfl rfl ?_ (by rintro s Me ⟨q1, rfl, hx⟩ ha hw; exact ⟨_, rfl, New.of rfl hx ha hw⟩)
  rw [search_Coincide] at h
  replace hs0 := hs0.mono (rdLe_frozen M) (fun _ _ h => h)
  replace hs1 := hs1.mono (rdLe_frozen M) (fun _ _ h => h)
  have hH := Has.nil (frozen M)
  refine Run.seq (Run.region ?_)
  refine Run.opG wantS_none (ex_assign rfl) rfl ?_
  refine Run.opG wantS_none (ex_assign rfl) rfl ?_
  refine Run.opsEnd (Run.seq (Run.region ?_))
  refine Run.opG wantS_none (ex_move rfl) rfl ?_
  refine Run.opG wantS_none (ex_move rfl) rfl ?_
  refine Run.opG wantS_none (ex_move rfl) rfl ?_
  refine Run.opG wantS_none (ex_build (r := [(.int .i64 a2), (.int .i64 a3), (.int .i64 a2)]) rfl zer87 pls87 rfl) rfl ?_
  refine Run.opX wantS_none rfl (ExG.new (v := fun b => .ptr b 0) (ex_alloc zer87) hH) ?_
  rintro _ M23 ⟨b22, rfl, (hH23 : Has (ro (frozen M)) M23 [.obj b22 (.row 87 .whole [(.int .i64 0), (.int .i64 0), (.int .i64 0)])])⟩
  refine Run.opX wantS_none rfl (ExG.storeC (c' := [(.int .i64 a2), (.int .i64 a3), (.int .i64 a2)]) rfl rfl rfl hH23 (i := 0) rfl sz87 rfl rfl rfl rfl rfl) ?_
  rintro _ M24 ⟨rfl, (hH24 : Has (ro (frozen M)) M24 [.obj b22 (.row 87 .whole [(.int .i64 a2), (.int .i64 a3), (.int .i64 a2)])])⟩
  refine Run.opsEnd (Run.seq (Run.seq (Run.region ?_)))
  refine Run.opG wantS_none (ex_loadA rfl (hH24.cells (i := 0) rfl 0 rfl) rdLe_rfl agg87 rfl rfl rfl) rfl ?_
  refine Run.opG wantS_none (ex_move rfl) rfl ?_
  refine Run.opG wantS_none (ex_move rfl) rfl ?_
  have hr26 : Rows (rep22 (ro (frozen M))) 1 [s0, s1] ([a0, a1] : List (List S_api_Trigger)) := (Rows.cons (cs := [s0]) rfl ⟨s0, rfl, hs0⟩ (Rows.cons (cs := [s1]) rfl ⟨s1, rfl, hs1⟩ Rows.nil))
  refine Run.opX wantS_none rfl (ExG.builtR (z := 1) (c := [s0, s1]) rfl elt132 rfl (by simp only [fillS, cells_one (slc_one hs0), cells_one (slc_one hs1)]; rfl) rfl hH24) ?_
  rintro s26 M27 (hH27 : Has (ro (frozen M)) M27 [.vec 22 1 ([a0, a1] : List (List S_api_Trigger)).length s26 [s0, s1], .obj b22 (.row 87 .whole [(.int .i64 a2), (.int .i64 a3), (.int .i64 a2)])])
  obtain ⟨r29, hr29, h⟩ := bnd_some h
  refine Run.callP wantS_none (ex_call rfl mkk55 cal55) rfl (search_clock_check_ok F (S_search_clock.mk a2 a3 a2) ([a0, a1] : List (List S_api_Trigger)) s26 _ _ (((hH27.slcR (i := 0) rfl hr26)).mono (fun _ _ h => h) (fun _ _ => rep22_mo hH27.le)) hr29) ?_
  refine Run.opG wantS_none (ex_assign rfl) rfl ?_
  refine Run.opsEnd (Run.seq (Run.region ?_))
  refine Run.opG wantS_none (ex_move rfl) rfl ?_
  refine Run.opG wantS_none (ex_neq rfl rfl) rfl ?_
  refine Run.opsEnd ?_
  rcases btf ((!(r29 == (0 : Int)))) with hc31 | hc31
  · have h := bif_t hc31 h
    refine Run.condT' rfl hc31 ?_
    refine Run.seq (Run.region ?_)
    refine Run.opG wantS_none (ex_move rfl) rfl ?_
    refine Run.opG wantS_none (ex_assign rfl) rfl ?_
    refine Run.opG wantS_none (ex_assign rfl) rfl ?_
    refine Run.opsEnd ?_
    have hH33 : Has (ro (frozen M)) M27 [.vec 71 3 ([] : List S_api_Pair).length .nils (([] : List S_api_Pair).flatMap enc71), .vec 22 1 ([a0, a1] : List (List S_api_Trigger)).length s26 [s0, s1], .obj b22 (.row 87 .whole [(.int .i64 a2), (.int .i64 a3), (.int .i64 a2)])] := hH27.nils 71 3
    cases h
    exact Run.ret Try.func17 rfl (res_tmp rfl (res_tmp rfl res_nil)) ⟨_, rfl, (hH33.pick [0] rfl rfl).upF (none_le _)⟩
  · have h := bif_f hc31 h
    refine Run.condF' rfl hc31 ?_
    refine Run.skip (Run.seq (Run.region ?_))
    refine Run.opG wantS_none (ex_loadA rfl (hH27.cells (i := 1) rfl 0 rfl) rdLe_rfl agg87 rfl rfl rfl) rfl ?_
    refine Run.opG wantS_none (ex_move rfl) rfl ?_
    refine Run.opG wantS_none (ex_move rfl) rfl ?_
    refine Run.enter wantS_none (ex_call rfl mkk57 cal57) Try.func57 rfl rfl ?_
    refine Run.seq (Run.region ?_)
    refine Run.opX wantS_none rfl (ExG.box rfl rfl hH27) ?_
    rintro _ M36 ⟨b35, rfl, (hH36 : Has (ro (frozen M)) M36 [.obj b35 (.row 87 .whole [(.int .i64 a2), (.int .i64 a3), (.int .i64 a2)]), .vec 22 1 ([a0, a1] : List (List S_api_Trigger)).length s26 [s0, s1], .obj b22 (.row 87 .whole [(.int .i64 a2), (.int .i64 a3), (.int .i64 a2)])])⟩
    refine Run.opX wantS_none rfl (ExG.box rfl (cells_one (slc_one hs0)) hH36) ?_
    rintro _ M39 ⟨b38, rfl, (hH39 : Has (ro (frozen M)) M39 [.obj b38 (.row 22 .whole [s0]), .obj b35 (.row 87 .whole [(.int .i64 a2), (.int .i64 a3), (.int .i64 a2)]), .vec 22 1 ([a0, a1] : List (List S_api_Trigger)).length s26 [s0, s1], .obj b22 (.row 87 .whole [(.int .i64 a2), (.int .i64 a3), (.int .i64 a2)])])⟩
    refine Run.opX wantS_none rfl (ExG.box rfl (cells_one (slc_one hs1)) hH39) ?_
    rintro _ M42 ⟨b41, rfl, (hH42 : Has (ro (frozen M)) M42 [.obj b41 (.row 22 .whole [s1]), .obj b38 (.row 22 .whole [s0]), .obj b35 (.row 87 .whole [(.int .i64 a2), (.int .i64 a3), (.int .i64 a2)]), .vec 22 1 ([a0, a1] : List (List S_api_Trigger)).length s26 [s0, s1], .obj b22 (.row 87 .whole [(.int .i64 a2), (.int .i64 a3), (.int .i64 a2)])])⟩
    refine Run.opG wantS_none (ex_assign rfl) rfl ?_
    refine Run.opsEnd (Run.seq (Run.region ?_))
    refine Run.opG wantS_none (ex_makeFunc rfl rfl) rfl ?_
    refine Run.opG wantS_none (ex_assign rfl) rfl ?_
    refine Run.opsEnd ?_
    refine Run.retTo Try.func57 rfl (res_tmp rfl res_nil) rfl ?_
    refine Run.enter wantS_none (ex_call rfl mkk56 cal56) Try.func56 rfl rfl ?_
    refine Run.seq (Run.region ?_)
    refine Run.opG wantS_none (ex_assign rfl) rfl ?_
    refine Run.opsEnd (Run.seq (Run.region ?_))
    refine Run.opG wantS_none (ex_move rfl) rfl ?_
    refine Run.enter wantS_none (ex_call rfl mkk104 cal104) Try.func104 rfl rfl ?_
    refine Run.seq (Run.region ?_)
    refine Run.opX wantS_none rfl (ExG.box rfl rfl hH42) ?_
    rintro _ M45 ⟨b44, rfl, (hH45 : Has (ro (frozen M)) M45 [.obj b44 (.row 27 .whole [.nils]), .obj b41 (.row 22 .whole [s1]), .obj b38 (.row 22 .whole [s0]), .obj b35 (.row 87 .whole [(.int .i64 a2), (.int .i64 a3), (.int .i64 a2)]), .vec 22 1 ([a0, a1] : List (List S_api_Trigger)).length s26 [s0, s1], .obj b22 (.row 87 .whole [(.int .i64 a2), (.int .i64 a3), (.int .i64 a2)])])⟩
    refine Run.opG wantS_none (ex_assign rfl) rfl ?_
    refine Run.opsEnd (Run.seq (Run.seq (Run.region ?_)))
    refine Run.opG wantS_none (ex_move rfl) rfl ?_
    refine Run.opsEnd (Run.block ?_)
    refine Run.pick [2, 4, 6] ?_
    refine Run.rangeX rfl cal105 Try.func105 rfl rfl hH45 ?_
    intro b47 b46 M46 (hH46 : Has (ro (frozen M)) M46 [.obj b46 (.loop ⟨.ready, none, 104, 13, treeOf [(2, (.ptr b44 0)), (4, .nils), (6, (.fn (.func 105) [] [(.ptr b38 0), (.ptr b41 0), (.ptr b35 0)]))], [7], (atC Try.prog 104 [1, 0, 1, 0, 0]), (atC Try.prog 104 [1, 0, 1, 0, 1]), b47⟩), .obj b47 .defd, .obj b44 (.row 27 .whole [.nils]), .obj b41 (.row 22 .whole [s1]), .obj b38 (.row 22 .whole [s0]), .obj b35 (.row 87 .whole [(.int .i64 a2), (.int .i64 a3), (.int .i64 a2)]), .vec 22 1 ([a0, a1] : List (List S_api_Trigger)).length s26 [s0, s1], .obj b22 (.row 87 .whole [(.int .i64 a2), (.int .i64 a3), (.int .i64 a2)])])
    refine Run.seq (Run.region ?_)
    refine Run.opG wantS_none (ex_load1 rfl (hH46.cells (i := 4) rfl 0 rfl) rdLe_rfl agg22) rfl ?_
    refine Run.opG wantS_none (ex_len' rfl hs0 lenk22) rfl ?_
    refine Run.opG wantS_none (ex_move rfl) rfl ?_
    refine Run.opsEnd (Run.block (Run.loop ?_))
    have hH49 : Has (ro (frozen M)) M46 [.vec 71 3 ([] : List S_api_Pair).length .nils (([] : List S_api_Pair).flatMap enc71), .obj b46 (.loop ⟨.ready, none, 104, 13, treeOf [(2, (.ptr b44 0)), (4, .nils), (6, (.fn (.func 105) [] [(.ptr b38 0), (.ptr b41 0), (.ptr b35 0)]))], [7], (atC Try.prog 104 [1, 0, 1, 0, 0]), (atC Try.prog 104 [1, 0, 1, 0, 1]), b47⟩), .obj b47 .defd, .obj b44 (.row 27 .whole [.nils]), .obj b41 (.row 22 .whole [s1]), .obj b38 (.row 22 .whole [s0]), .obj b35 (.row 87 .whole [(.int .i64 a2), (.int .i64 a3), (.int .i64 a2)]), .vec 22 1 ([a0, a1] : List (List S_api_Trigger)).length s26 [s0, s1], .obj b22 (.row 87 .whole [(.int .i64 a2), (.int .i64 a3), (.int .i64 a2)])] := hH46.nils 71 3
    exact Run.low (.cons (fle_pick [2] rfl) (.cons (fle_pick [] rfl) (.cons (fle_pick [] rfl) .nil))) (Run.pick [0, 2, 3, 10, 11, 12] (search_Coincide_1_ok F F a0 (a0.length : Int) (0 : Int) a0 a1 (S_search_clock.mk a2 a3 a2) ([] : List S_api_Pair) s0 s0 s1 b46 b44 .nils b38 b41 b35 b47 _ _ _ hs0 hs0 hs1 (hH49.pick [1, 3, 0, 5, 4, 6, 2] rfl rfl) h))

theorem mkk17 : makeK Try.prog 17 = none := by kernel_rfl
theorem cal17 : callable Try.prog 17 = true := by kernel_rfl
theorem zer93 : zerosOf Try.prog 93 = some [(.int .i64 0), (.int .i64 0), (.int .i64 0)] := by kernel_rfl
theorem pls93 : placesOf Try.prog 93 = some (.st [(0, 1), (1, 1), (2, 1)]) := by kernel_rfl
theorem sz93 : szOf Try.prog 93 = some 3 := by kernel_rfl
theorem agg93 : aggSize Try.prog 93 = some (some 3) := by kernel_rfl
structure S_ringdownref08_Clock where
  Live : Int
  Window : Int
  Step : Int

theorem off93_0 : fieldOff Try.prog 93 0 = some 0 := by kernel_rfl
theorem off93_1 : fieldOff Try.prog 93 1 = some 1 := by kernel_rfl
theorem off93_2 : fieldOff Try.prog 93 2 = some 2 := by kernel_rfl
abbrev ref08_clock_post (r : Bool) : SV → Mem → Prop := fun s _ => s = (.bool r)

def ref08_clock_4 (F : Nat) (v36 : Bool) : Option (Bool) :=
  some v36

theorem ref08_clock_4_ok (F : Nat) : ∀ (v36 : Bool) (Fr : Rd) (M : Mem) (r : Bool) (hH : Has Fr M []), ref08_clock_4 F v36 = some r → Run Try.prog ⟨⟨107, [], none⟩, []⟩ 37 (ref08_clock_post r) [(36, (.bool v36))] [itemC Try.prog 107 [1, 0] 34, codeC Try.prog 107 [1, 1]] M := by
  intro v36 Fr M r hH h
  rw [ref08_clock_4] at h
  refine Run.opG wantS_none (ex_assign rfl) rfl ?_
  refine Run.opsEnd ?_
  cases h
  exact Run.ret Try.func107 rfl (res_tmp rfl res_nil) rfl

def ref08_clock_3 (F : Nat) (v28 : Bool) (c22 : S_ringdownref08_Clock) : Option (Bool) :=
  bif v28 then
    bnd (nz c22.Step) fun z40 =>
    ref08_clock_4 F (decide ((w64 (Int.tdiv c22.Live c22.Step)) ≤ (256 : Int)))
  else
    ref08_clock_4 F false

theorem ref08_clock_3_ok (F : Nat) : ∀ (v28 : Bool) (c22 : S_ringdownref08_Clock) (b22 : Pos) (Fr : Rd) (M : Mem) (r : Bool) (hH : Has Fr M [.obj b22 (.row 93 .whole [(.int .i64 c22.Live), (.int .i64 c22.Window), (.int .i64 c22.Step)])]), ref08_clock_3 F v28 c22 = some r → Run Try.prog ⟨⟨107, [], none⟩, []⟩ 37 (ref08_clock_post r) [(1, (.ptr b22 0)), (28, (.bool v28))] [itemC Try.prog 107 [1, 0] 26, codeC Try.prog 107 [1, 1]] M := by
  intro v28 c22 b22 Fr M r hH h
  rw [ref08_clock_3] at h
  refine Run.opG wantS_none (ex_move rfl) rfl ?_
  rcases btf (v28) with hc38 | hc38
  · have h := bif_t hc38 h
    refine Run.opG (wantS_yes' rfl rfl hc38) (ex_fieldAddr rfl off93_0) rfl ?_
    refine Run.opG (wantS_yes' rfl rfl hc38) (ex_load1 rfl (hH.cells (i := 0) rfl 0 rfl) rdLe_rfl agg3) rfl ?_
    refine Run.opG (wantS_yes' rfl rfl hc38) (ex_fieldAddr rfl off93_2) rfl ?_
    refine Run.opG (wantS_yes' rfl rfl hc38) (ex_load1 rfl (hH.cells (i := 0) rfl 2 rfl) rdLe_rfl agg3) rfl ?_
    obtain ⟨z40, hz40, h⟩ := bnd_some h
    refine Run.opG (wantS_yes' rfl rfl hc38) (ex_quo' rfl rfl hz40) rfl ?_
    refine Run.opG (wantS_yes' rfl rfl hc38) (ex_leq rfl rfl) rfl ?_
    refine Run.opG wantS_none (ex_pickT' rfl hc38 rfl rfl) rfl ?_
    exact Run.pick [36] (ref08_clock_4_ok F (decide ((w64 (Int.tdiv c22.Live c22.Step)) ≤ (256 : Int))) _ _ _ (hH.pick [] rfl rfl) h)
  · have h := bif_f hc38 h
    refine Run.no (wantS_not' rfl rfl hc38) rfl ?_
    refine Run.no (wantS_not' rfl rfl hc38) rfl ?_
    refine Run.no (wantS_not' rfl rfl hc38) rfl ?_
    refine Run.no (wantS_not' rfl rfl hc38) rfl ?_
    refine Run.no (wantS_not' rfl rfl hc38) rfl ?_
    refine Run.no (wantS_not' rfl rfl hc38) rfl ?_
    refine Run.opG wantS_none (ex_pickF' rfl hc38 rfl rfl) rfl ?_
    exact Run.pick [36] (ref08_clock_4_ok F false _ _ _ (hH.pick [] rfl rfl) h)

def ref08_clock_2 (F : Nat) (v20 : Bool) (c22 : S_ringdownref08_Clock) : Option (Bool) :=
  bif v20 then
    bnd (nz c22.Step) fun z37 =>
    ref08_clock_3 F ((Int.tmod c22.Live c22.Step) == (0 : Int)) c22
  else
    ref08_clock_3 F false c22

theorem ref08_clock_2_ok (F : Nat) : ∀ (v20 : Bool) (c22 : S_ringdownref08_Clock) (b22 : Pos) (Fr : Rd) (M : Mem) (r : Bool) (hH : Has Fr M [.obj b22 (.row 93 .whole [(.int .i64 c22.Live), (.int .i64 c22.Window), (.int .i64 c22.Step)])]), ref08_clock_2 F v20 c22 = some r → Run Try.prog ⟨⟨107, [], none⟩, []⟩ 37 (ref08_clock_post r) [(1, (.ptr b22 0)), (20, (.bool v20))] [itemC Try.prog 107 [1, 0] 18, codeC Try.prog 107 [1, 1]] M := by
  intro v20 c22 b22 Fr M r hH h
  rw [ref08_clock_2] at h
  refine Run.opG wantS_none (ex_move rfl) rfl ?_
  rcases btf (v20) with hc35 | hc35
  · have h := bif_t hc35 h
    refine Run.opG (wantS_yes' rfl rfl hc35) (ex_fieldAddr rfl off93_0) rfl ?_
    refine Run.opG (wantS_yes' rfl rfl hc35) (ex_load1 rfl (hH.cells (i := 0) rfl 0 rfl) rdLe_rfl agg3) rfl ?_
    refine Run.opG (wantS_yes' rfl rfl hc35) (ex_fieldAddr rfl off93_2) rfl ?_
    refine Run.opG (wantS_yes' rfl rfl hc35) (ex_load1 rfl (hH.cells (i := 0) rfl 2 rfl) rdLe_rfl agg3) rfl ?_
    obtain ⟨z37, hz37, h⟩ := bnd_some h
    refine Run.opG (wantS_yes' rfl rfl hc35) (ex_rem' rfl rfl hz37) rfl ?_
    refine Run.opG (wantS_yes' rfl rfl hc35) (ex_eql rfl rfl) rfl ?_
    refine Run.opG wantS_none (ex_pickT' rfl hc35 rfl rfl) rfl ?_
    exact Run.pick [1, 28] (ref08_clock_3_ok F ((Int.tmod c22.Live c22.Step) == (0 : Int)) c22 b22 _ _ _ hH h)
  · have h := bif_f hc35 h
    refine Run.no (wantS_not' rfl rfl hc35) rfl ?_
    refine Run.no (wantS_not' rfl rfl hc35) rfl ?_
    refine Run.no (wantS_not' rfl rfl hc35) rfl ?_
    refine Run.no (wantS_not' rfl rfl hc35) rfl ?_
    refine Run.no (wantS_not' rfl rfl hc35) rfl ?_
    refine Run.no (wantS_not' rfl rfl hc35) rfl ?_
    refine Run.opG wantS_none (ex_pickF' rfl hc35 rfl rfl) rfl ?_
    exact Run.pick [1, 28] (ref08_clock_3_ok F false c22 b22 _ _ _ hH h)

def ref08_clock_1 (F : Nat) (v13 : Bool) (c22 : S_ringdownref08_Clock) : Option (Bool) :=
  bif v13 then
    bnd (ref00_In F c22.Step (1 : Int) c22.Live) fun r33 =>
    ref08_clock_2 F r33 c22
  else
    ref08_clock_2 F false c22

theorem ref08_clock_1_ok (F : Nat) : ∀ (v13 : Bool) (c22 : S_ringdownref08_Clock) (b22 : Pos) (Fr : Rd) (M : Mem) (r : Bool) (hH : Has Fr M [.obj b22 (.row 93 .whole [(.int .i64 c22.Live), (.int .i64 c22.Window), (.int .i64 c22.Step)])]), ref08_clock_1 F v13 c22 = some r → Run Try.prog ⟨⟨107, [], none⟩, []⟩ 37 (ref08_clock_post r) [(1, (.ptr b22 0)), (13, (.bool v13))] [itemC Try.prog 107 [1, 0] 11, codeC Try.prog 107 [1, 1]] M := by
  intro v13 c22 b22 Fr M r hH h
  rw [ref08_clock_1] at h
  refine Run.opG wantS_none (ex_move rfl) rfl ?_
  rcases btf (v13) with hc31 | hc31
  · have h := bif_t hc31 h
    refine Run.opG (wantS_yes' rfl rfl hc31) (ex_fieldAddr rfl off93_2) rfl ?_
    refine Run.opG (wantS_yes' rfl rfl hc31) (ex_load1 rfl (hH.cells (i := 0) rfl 2 rfl) rdLe_rfl agg3) rfl ?_
    refine Run.opG (wantS_yes' rfl rfl hc31) (ex_fieldAddr rfl off93_0) rfl ?_
    refine Run.opG (wantS_yes' rfl rfl hc31) (ex_load1 rfl (hH.cells (i := 0) rfl 0 rfl) rdLe_rfl agg3) rfl ?_
    obtain ⟨r33, hr33, h⟩ := bnd_some h
    refine Run.callP (wantS_yes' rfl rfl hc31) (ex_call rfl mkk49 cal49) rfl (ref00_In_ok F c22.Step (1 : Int) c22.Live _ _ hr33) ?_
    refine Run.opG wantS_none (ex_pickT' rfl hc31 rfl rfl) rfl ?_
    exact Run.pick [1, 20] (ref08_clock_2_ok F r33 c22 b22 _ _ _ hH h)
  · have h := bif_f hc31 h
    refine Run.no (wantS_not' rfl rfl hc31) rfl ?_
    refine Run.no (wantS_not' rfl rfl hc31) rfl ?_
    refine Run.no (wantS_not' rfl rfl hc31) rfl ?_
    refine Run.no (wantS_not' rfl rfl hc31) rfl ?_
    refine Run.no (wantS_not' rfl rfl hc31) rfl ?_
    refine Run.opG wantS_none (ex_pickF' rfl hc31 rfl rfl) rfl ?_
    exact Run.pick [1, 20] (ref08_clock_2_ok F false c22 b22 _ _ _ hH h)

def ref08_clock (F : Nat) (a0 : S_ringdownref08_Clock) : Option (Bool) :=
  bnd (ref00_In F a0.Live (1 : Int) (1073741824 : Int)) fun r25 =>
  bif r25 then
    bnd (ref00_In F a0.Window (0 : Int) (w64 (a0.Live - (1 : Int)))) fun r29 =>
    ref08_clock_1 F r29 a0
  else
    ref08_clock_1 F false a0

theorem ref08_clock_ok (F : Nat) (a0 : S_ringdownref08_Clock) (r : Bool) (M : Mem) (h : ref08_clock F a0 = some r) : CallsM Try.prog 107 [(.agg [(.int .i64 a0.Live), (.int .i64 a0.Window), (.int .i64 a0.Step)])] M (fun s M' => s = (.bool r) ∧ M' = M) := by
  refine CallsM.plain Try.func107 rfl rfl rfl (show Run _ _ _ (ref08_clock_post r) _ _ _ from ?_)
  rw [ref08_clock] at h
  have hH := Has.nil (frozen M)
  refine Run.seq (Run.region ?_)
  refine Run.opX wantS_none rfl (ExG.box rfl rfl hH) ?_
  rintro _ M23 ⟨b22, rfl, (hH23 : Has (ro (frozen M)) M23 [.obj b22 (.row 93 .whole [(.int .i64 a0.Live), (.int .i64 a0.Window), (.int .i64 a0.Step)])])⟩
  refine Run.opG wantS_none (ex_assign rfl) rfl ?_
  refine Run.opsEnd (Run.seq (Run.region ?_))
  refine Run.opG wantS_none (ex_fieldAddr rfl off93_0) rfl ?_
  refine Run.opG wantS_none (ex_load1 rfl (hH23.cells (i := 0) rfl 0 rfl) rdLe_rfl agg3) rfl ?_
  obtain ⟨r25, hr25, h⟩ := bnd_some h
  refine Run.callP wantS_none (ex_call rfl mkk49 cal49) rfl (ref00_In_ok F a0.Live (1 : Int) (1073741824 : Int) _ _ hr25) ?_
  refine Run.opG wantS_none (ex_move rfl) rfl ?_
  rcases btf (r25) with hc27 | hc27
  · have h := bif_t hc27 h
    refine Run.opG (wantS_yes' rfl rfl hc27) (ex_fieldAddr rfl off93_1) rfl ?_
    refine Run.opG (wantS_yes' rfl rfl hc27) (ex_load1 rfl (hH23.cells (i := 0) rfl 1 rfl) rdLe_rfl agg3) rfl ?_
    refine Run.opG (wantS_yes' rfl rfl hc27) (ex_fieldAddr rfl off93_0) rfl ?_
    refine Run.opG (wantS_yes' rfl rfl hc27) (ex_load1 rfl (hH23.cells (i := 0) rfl 0 rfl) rdLe_rfl agg3) rfl ?_
    refine Run.opG (wantS_yes' rfl rfl hc27) (ex_sub rfl rfl) rfl ?_
    obtain ⟨r29, hr29, h⟩ := bnd_some h
    refine Run.callP (wantS_yes' rfl rfl hc27) (ex_call rfl mkk49 cal49) rfl (ref00_In_ok F a0.Window (0 : Int) (w64 (a0.Live - (1 : Int))) _ _ hr29) ?_
    refine Run.opG wantS_none (ex_pickT' rfl hc27 rfl rfl) rfl ?_
    exact Run.pick [1, 13] (ref08_clock_1_ok F r29 a0 b22 _ _ _ hH23 h)
  · have h := bif_f hc27 h
    refine Run.no (wantS_not' rfl rfl hc27) rfl ?_
    refine Run.no (wantS_not' rfl rfl hc27) rfl ?_
    refine Run.no (wantS_not' rfl rfl hc27) rfl ?_
    refine Run.no (wantS_not' rfl rfl hc27) rfl ?_
    refine Run.no (wantS_not' rfl rfl hc27) rfl ?_
    refine Run.no (wantS_not' rfl rfl hc27) rfl ?_
    refine Run.opG wantS_none (ex_pickF' rfl hc27 rfl rfl) rfl ?_
    exact Run.pick [1, 13] (ref08_clock_1_ok F false a0 b22 _ _ _ hH23 h)

theorem mkk107 : makeK Try.prog 107 = none := by kernel_rfl
theorem cal107 : callable Try.prog 107 = true := by kernel_rfl
theorem plan108_1_0 : planOf Try.prog (opsC (atC Try.prog 108 [1, 0])) = some [.fl 0, .fl 1, .fl 2, .fl 3, .fl 4, .fl 5, .fl 6, .fl 7, .fl 8, .fl 9, .fl 10, .fl 11, .fl 12, .fl 13, .fl 14, .fl 15, .sync] := by kernel_rfl
abbrev ref08_fits_post (r : Bool) : SV → Mem → Prop := fun s _ => s = (.bool r)

def ref08_fits_1 (F : Nat) (v4 : Bool) : Option (Bool) :=
  some v4

theorem ref08_fits_1_ok (F : Nat) : ∀ (v4 : Bool) (Fr : Rd) (M : Mem) (r : Bool) (hH : Has Fr M []), ref08_fits_1 F v4 = some r → Run Try.prog ⟨⟨108, [], none⟩, []⟩ 20 (ref08_fits_post r) [(4, (.bool v4))] [codeC Try.prog 108 [1, 1]] M := by
  intro v4 Fr M r hH h
  rw [ref08_fits_1] at h
  cases h
  exact Run.ret Try.func108 rfl (res_tmp rfl res_nil) rfl

def ref08_fits (F : Nat) (a0 : (List S_api_Trigger)) (a1 : S_ringdownref08_Clock) : Option (Bool) :=
  bif ((a0.length : Int) == (0 : Int)) then
    ref08_fits_1 F true
  else
    bnd (idx a0 (w64 ((a0.length : Int) - (1 : Int)))) fun x25 =>
    ref08_fits_1 F (decide (x25.Time < a1.Live))

theorem ref08_fits_ok (F : Nat) (a0 : (List S_api_Trigger)) (a1 : S_ringdownref08_Clock) (s0 : SV) (r : Bool) (M : Mem) (hs0 : Slc (rd M) 3 (FlatR enc76) s0 a0) (h : ref08_fits F a0 a1 = some r) : CallsM Try.prog 108 [s0, (.agg [(.int .i64 a1.Live), (.int .i64 a1.Window), (.int .i64 a1.Step)])] M (fun s M' => s = (.bool r) ∧ M' = M) := by
  refine CallsM.plain Try.func108 rfl rfl rfl (show Run _ _ _ (ref08_fits_post r) _ _ _ from ?_)
  rw [ref08_fits] at h
  replace hs0 := hs0.mono (rdLe_frozen M) (fun _ _ h => h)
  have hH := Has.nil (frozen M)
  refine Run.seq (Run.region ?_)
  refine Run.opX wantS_none rfl (ExG.box rfl rfl hH) ?_
  rintro _ M23 ⟨b22, rfl, (hH23 : Has (ro (frozen M)) M23 [.obj b22 (.row 93 .whole [(.int .i64 a1.Live), (.int .i64 a1.Window), (.int .i64 a1.Step)])])⟩
  refine Run.opG wantS_none (ex_assign rfl) rfl ?_
  refine Run.opsEnd (Run.seq ?_)
  refine Run.drawG plan108_1_0 ?_
  refine DrawG.fl rfl (ev_ex wantS_none (ex_move rfl)) rfl ?_
  refine DrawG.fl rfl (ev_ex wantS_none (ex_len' rfl hs0 lenk22)) rfl ?_
  refine DrawG.fl rfl (ev_ex wantS_none (ex_eql rfl rfl)) rfl ?_
  refine DrawG.fl rfl (ev_ex wantS_none (ex_move rfl)) rfl ?_
  rcases btf (((a0.length : Int) == (0 : Int))) with hc24 | hc24
  · have h := bif_t hc24 h
    refine DrawG.fl rfl (ev_no (wantS_not' rfl rfl hc24)) rfl ?_
    refine DrawG.fl rfl (ev_no (wantS_not' rfl rfl hc24)) rfl ?_
    refine DrawG.fl rfl (ev_no (wantS_not' rfl rfl hc24)) rfl ?_
    refine DrawG.fl rfl (ev_no (wantS_not' rfl rfl hc24)) rfl ?_
    refine DrawG.fl rfl (ev_no (wantS_not' rfl rfl hc24)) rfl ?_
    refine DrawG.fl rfl (ev_no (wantS_not' rfl rfl hc24)) rfl ?_
    refine DrawG.fl rfl (ev_no (wantS_not' rfl rfl hc24)) rfl ?_
    refine DrawG.fl rfl (ev_no (wantS_not' rfl rfl hc24)) rfl ?_
    refine DrawG.fl rfl (ev_no (wantS_not' rfl rfl hc24)) rfl ?_
    refine DrawG.fl rfl (ev_no (wantS_not' rfl rfl hc24)) rfl ?_
    refine DrawG.fl rfl (ev_ex wantS_none (ex_pickT' rfl hc24 rfl rfl)) rfl ?_
    refine DrawG.fl rfl (ev_ex wantS_none (ex_assign rfl)) rfl ?_
    refine DrawG.sync ?_
    refine DrawG.nil ?_
    exact Run.pick [4] (ref08_fits_1_ok F true _ _ _ (hH23.pick [] rfl rfl) h)
  · have h := bif_f hc24 h
    refine DrawG.fl rfl (ev_ex (wantS_yes' rfl rfl hc24) (ex_move rfl)) rfl ?_
    refine DrawG.fl rfl (ev_ex (wantS_yes' rfl rfl hc24) (ex_move rfl)) rfl ?_
    refine DrawG.fl rfl (ev_ex (wantS_yes' rfl rfl hc24) (ex_len' rfl hs0 lenk22)) rfl ?_
    refine DrawG.fl rfl (ev_ex (wantS_yes' rfl rfl hc24) (ex_sub rfl rfl)) rfl ?_
    obtain ⟨x25, hx25, h⟩ := bnd_some h
    obtain ⟨p25, o25, _, hx25, hp25, rfl⟩ := sl_elem (P := Try.prog) (t := 22) (kk := .i64) hs0 hx25 els22
    refine DrawG.fl rfl (ev_ex (wantS_yes' rfl rfl hc24) (ex_elX rfl rfl hx25)) rfl ?_
    have hp26 := (hp25.fld (o := 0) rfl)
    refine DrawG.fl rfl (ev_ex (wantS_yes' rfl rfl hc24) (ex_fieldAddr rfl off76_0)) rfl ?_
    refine DrawG.fl rfl (ev_ex (wantS_yes' rfl rfl hc24) (ex_load1 rfl (hH23.ptrF hp26) rdLe_rfl agg3)) rfl ?_
    refine DrawG.fl rfl (ev_ex (wantS_yes' rfl rfl hc24) (ex_fieldAddr rfl off93_0)) rfl ?_
    refine DrawG.fl rfl (ev_ex (wantS_yes' rfl rfl hc24) (ex_load1 rfl (hH23.cells (i := 0) rfl 0 rfl) rdLe_rfl agg3)) rfl ?_
    refine DrawG.fl rfl (ev_ex (wantS_yes' rfl rfl hc24) (ex_lss rfl rfl)) rfl ?_
    refine DrawG.fl rfl (ev_ex wantS_none (ex_pickF' rfl hc24 rfl rfl)) rfl ?_
    refine DrawG.fl rfl (ev_ex wantS_none (ex_assign rfl)) rfl ?_
    refine DrawG.sync ?_
    refine DrawG.nil ?_
    exact Run.pick [4] (ref08_fits_1_ok F (decide (x25.Time < a1.Live)) _ _ _ (hH23.pick [] rfl rfl) h)

theorem mkk108 : makeK Try.prog 108 = none := by kernel_rfl
theorem cal108 : callable Try.prog 108 = true := by kernel_rfl
abbrev ref08_ready_post (r : Int) : SV → Mem → Prop := fun s _ => s = (.int .i64 r)

def ref08_ready_2 (F : Nat) (v33 : Bool) : Option (Int) :=
  bif v33 then
    some (81 : Int)
  else
    some (0 : Int)

theorem ref08_ready_2_ok (F : Nat) : ∀ (v33 : Bool) (Fr : Rd) (M : Mem) (r : Int) (hH : Has Fr M []), ref08_ready_2 F v33 = some r → Run Try.prog ⟨⟨58, [], none⟩, []⟩ 34 (ref08_ready_post r) [(33, (.bool v33))] [codeC Try.prog 58 [1, 1, 1, 0, 1], codeC Try.prog 58 [1, 1, 1, 1]] M := by
  intro v33 Fr M r hH h
  rw [ref08_ready_2] at h
  rcases btf (v33) with hc37 | hc37
  · have h := bif_t hc37 h
    refine Run.condT' rfl hc37 ?_
    refine Run.seq (Run.region ?_)
    refine Run.opG wantS_none (ex_assign rfl) rfl ?_
    refine Run.opsEnd ?_
    cases h
    exact Run.ret Try.func58 rfl (res_tmp rfl res_nil) rfl
  · have h := bif_f hc37 h
    refine Run.condF' rfl hc37 ?_
    refine Run.skip (Run.seq (Run.region ?_))
    refine Run.opG wantS_none (ex_assign rfl) rfl ?_
    refine Run.opsEnd ?_
    cases h
    exact Run.ret Try.func58 rfl (res_tmp rfl res_nil) rfl

def ref08_ready_1 (F : Nat) (v1 : (List S_api_Trigger)) (v27 : Bool) (c22 : S_ringdownref08_Clock) : Option (Int) :=
  bif v27 then
    ref08_ready_2 F true
  else
    bnd (ref08_fits F v1 c22) fun r39 =>
    ref08_ready_2 F (!r39)

theorem ref08_ready_1_ok (F : Nat) : ∀ (v1 : (List S_api_Trigger)) (v27 : Bool) (c22 : S_ringdownref08_Clock) (sv1 : SV) (b22 : Pos) (Fr : Rd) (M : Mem) (r : Int) (hv1 : Slc Fr 3 (FlatR enc76) sv1 v1) (hH : Has Fr M [.obj b22 (.row 93 .whole [(.int .i64 c22.Live), (.int .i64 c22.Window), (.int .i64 c22.Step)])]), ref08_ready_1 F v1 v27 c22 = some r → Run Try.prog ⟨⟨58, [], none⟩, []⟩ 34 (ref08_ready_post r) [(1, sv1), (5, (.ptr b22 0)), (27, (.bool v27))] [itemC Try.prog 58 [1, 1, 1, 0, 0] 9, codeC Try.prog 58 [1, 1, 1, 0, 1], codeC Try.prog 58 [1, 1, 1, 1]] M := by
  intro v1 v27 c22 sv1 b22 Fr M r hv1 hH h
  rw [ref08_ready_1] at h
  refine Run.opG wantS_none (ex_move rfl) rfl ?_
  rcases btf (v27) with hc36 | hc36
  · have h := bif_t hc36 h
    refine Run.no (wantS_not' rfl rfl hc36) rfl ?_
    refine Run.no (wantS_not' rfl rfl hc36) rfl ?_
    refine Run.no (wantS_not' rfl rfl hc36) rfl ?_
    refine Run.no (wantS_not' rfl rfl hc36) rfl ?_
    refine Run.opG wantS_none (ex_pickT' rfl hc36 rfl rfl) rfl ?_
    refine Run.opsEnd ?_
    exact Run.pick [33] (ref08_ready_2_ok F true _ _ _ (hH.pick [] rfl rfl) h)
  · have h := bif_f hc36 h
    refine Run.opG (wantS_yes' rfl rfl hc36) (ex_move rfl) rfl ?_
    refine Run.opG (wantS_yes' rfl rfl hc36) (ex_loadA rfl (hH.cells (i := 0) rfl 0 rfl) rdLe_rfl agg93 rfl rfl rfl) rfl ?_
    obtain ⟨r39, hr39, h⟩ := bnd_some h
    refine Run.callP (wantS_yes' rfl rfl hc36) (ex_call rfl mkk108 cal108) rfl (ref08_fits_ok F v1 c22 sv1 _ _ (hH.slcF hv1) hr39) ?_
    refine Run.opG (wantS_yes' rfl rfl hc36) (ex_not rfl) rfl ?_
    refine Run.opG wantS_none (ex_pickF' rfl hc36 rfl rfl) rfl ?_
    refine Run.opsEnd ?_
    exact Run.pick [33] (ref08_ready_2_ok F (!r39) _ _ _ (hH.pick [] rfl rfl) h)

def ref08_ready (F : Nat) (a0 : (List S_api_Trigger)) (a1 : (List S_api_Trigger)) (a2 : S_ringdownref08_Clock) : Option (Int) :=
  bnd (ref08_CheckTriggers F a0) fun r25 =>
  bif (!(r25 == (0 : Int))) then
    some r25
  else
    bnd (ref08_CheckTriggers F a1) fun r29 =>
    bif (!(r29 == (0 : Int))) then
      some r29
    else
      bnd (ref08_clock F a2) fun r33 =>
      bif (!r33) then
        ref08_ready_1 F a1 true a2
      else
        bnd (ref08_fits F a0 a2) fun r42 =>
        ref08_ready_1 F a1 (!r42) a2

theorem ref08_ready_ok (F : Nat) (a0 : (List S_api_Trigger)) (a1 : (List S_api_Trigger)) (a2 : S_ringdownref08_Clock) (s0 s1 : SV) (r : Int) (M : Mem) (hs0 : Slc (rd M) 3 (FlatR enc76) s0 a0) (hs1 : Slc (rd M) 3 (FlatR enc76) s1 a1) (h : ref08_ready F a0 a1 a2 = some r) : CallsM Try.prog 58 [s0, s1, (.agg [(.int .i64 a2.Live), (.int .i64 a2.Window), (.int .i64 a2.Step)])] M (fun s M' => s = (.int .i64 r) ∧ M' = M) := by
  refine CallsM.plain Try.func58 rfl rfl rfl (show Run _ _ _ (ref08_ready_post r) _ _ _ from ?_)
  rw [ref08_ready] at h
  replace hs0 := hs0.mono (rdLe_frozen M) (fun _ _ h => h)
  replace hs1 := hs1.mono (rdLe_frozen M) (fun _ _ h => h)
  have hH := Has.nil (frozen M)
  refine Run.seq (Run.region ?_)
  refine Run.opX wantS_none rfl (ExG.box rfl rfl hH) ?_
  rintro _ M23 ⟨b22, rfl, (hH23 : Has (ro (frozen M)) M23 [.obj b22 (.row 93 .whole [(.int .i64 a2.Live), (.int .i64 a2.Window), (.int .i64 a2.Step)])])⟩
  refine Run.opG wantS_none (ex_assign rfl) rfl ?_
  refine Run.opsEnd (Run.seq (Run.seq (Run.region ?_)))
  refine Run.opG wantS_none (ex_move rfl) rfl ?_
  obtain ⟨r25, hr25, h⟩ := bnd_some h
  refine Run.callP wantS_none (ex_call rfl mkk16 cal16) rfl (ref08_CheckTriggers_ok F a0 s0 _ _ (hH23.slcF hs0) hr25) ?_
  refine Run.opG wantS_none (ex_assign rfl) rfl ?_
  refine Run.opsEnd (Run.seq (Run.region ?_))
  refine Run.opG wantS_none (ex_move rfl) rfl ?_
  refine Run.opG wantS_none (ex_neq rfl rfl) rfl ?_
  refine Run.opsEnd ?_
  rcases btf ((!(r25 == (0 : Int)))) with hc27 | hc27
  · have h := bif_t hc27 h
    refine Run.condT' rfl hc27 ?_
    refine Run.seq (Run.region ?_)
    refine Run.opG wantS_none (ex_move rfl) rfl ?_
    refine Run.opG wantS_none (ex_assign rfl) rfl ?_
    refine Run.opsEnd ?_
    cases h
    exact Run.ret Try.func58 rfl (res_tmp rfl res_nil) rfl
  · have h := bif_f hc27 h
    refine Run.condF' rfl hc27 ?_
    refine Run.skip (Run.seq (Run.seq (Run.region ?_)))
    refine Run.opG wantS_none (ex_move rfl) rfl ?_
    obtain ⟨r29, hr29, h⟩ := bnd_some h
    refine Run.callP wantS_none (ex_call rfl mkk16 cal16) rfl (ref08_CheckTriggers_ok F a1 s1 _ _ (hH23.slcF hs1) hr29) ?_
    refine Run.opG wantS_none (ex_assign rfl) rfl ?_
    refine Run.opsEnd (Run.seq (Run.region ?_))
    refine Run.opG wantS_none (ex_move rfl) rfl ?_
    refine Run.opG wantS_none (ex_neq rfl rfl) rfl ?_
    refine Run.opsEnd ?_
    rcases btf ((!(r29 == (0 : Int)))) with hc31 | hc31
    · have h := bif_t hc31 h
      refine Run.condT' rfl hc31 ?_
      refine Run.seq (Run.region ?_)
      refine Run.opG wantS_none (ex_move rfl) rfl ?_
      refine Run.opG wantS_none (ex_assign rfl) rfl ?_
      refine Run.opsEnd ?_
      cases h
      exact Run.ret Try.func58 rfl (res_tmp rfl res_nil) rfl
    · have h := bif_f hc31 h
      refine Run.condF' rfl hc31 ?_
      refine Run.skip (Run.seq (Run.seq (Run.region ?_)))
      refine Run.opG wantS_none (ex_loadA rfl (hH23.cells (i := 0) rfl 0 rfl) rdLe_rfl agg93 rfl rfl rfl) rfl ?_
      obtain ⟨r33, hr33, h⟩ := bnd_some h
      refine Run.callP wantS_none (ex_call rfl mkk107 cal107) rfl (ref08_clock_ok F a2 _ _ hr33) ?_
      refine Run.opG wantS_none (ex_not rfl) rfl ?_
      refine Run.opG wantS_none (ex_move rfl) rfl ?_
      rcases btf ((!r33)) with hc35 | hc35
      · have h := bif_t hc35 h
        refine Run.no (wantS_not' rfl rfl hc35) rfl ?_
        refine Run.no (wantS_not' rfl rfl hc35) rfl ?_
        refine Run.no (wantS_not' rfl rfl hc35) rfl ?_
        refine Run.no (wantS_not' rfl rfl hc35) rfl ?_
        refine Run.opG wantS_none (ex_pickT' rfl hc35 rfl rfl) rfl ?_
        exact Run.pick [1, 5, 27] (ref08_ready_1_ok F a1 true a2 s1 b22 _ _ _ hs1 hH23 h)
      · have h := bif_f hc35 h
        refine Run.opG (wantS_yes' rfl rfl hc35) (ex_move rfl) rfl ?_
        refine Run.opG (wantS_yes' rfl rfl hc35) (ex_loadA rfl (hH23.cells (i := 0) rfl 0 rfl) rdLe_rfl agg93 rfl rfl rfl) rfl ?_
        obtain ⟨r42, hr42, h⟩ := bnd_some h
        refine Run.callP (wantS_yes' rfl rfl hc35) (ex_call rfl mkk108 cal108) rfl (ref08_fits_ok F a0 a2 s0 _ _ (hH23.slcF hs0) hr42) ?_
        refine Run.opG (wantS_yes' rfl rfl hc35) (ex_not rfl) rfl ?_
        refine Run.opG wantS_none (ex_pickF' rfl hc35 rfl rfl) rfl ?_
        exact Run.pick [1, 5, 27] (ref08_ready_1_ok F a1 (!r42) a2 s1 b22 _ _ _ hs1 hH23 h)

theorem mkk58 : makeK Try.prog 58 = none := by kernel_rfl
theorem cal58 : callable Try.prog 58 = true := by kernel_rfl
abbrev ref00_Abs_post (r : Int) : SV → Mem → Prop := fun s _ => s = (.int .i64 r)

def ref00_Abs (F : Nat) (a0 : Int) : Option (Int) :=
  bif (decide (a0 < (0 : Int))) then
    some (w64 (-a0))
  else
    some a0

theorem ref00_Abs_ok (F : Nat) (a0 : Int) (r : Int) (M : Mem) (h : ref00_Abs F a0 = some r) : CallsM Try.prog 93 [(.int .i64 a0)] M (fun s M' => s = (.int .i64 r) ∧ M' = M) := by
  refine CallsM.plain Try.func93 rfl rfl rfl (show Run _ _ _ (ref00_Abs_post r) _ _ _ from ?_)
  rw [ref00_Abs] at h
  have hH := Has.nil (frozen M)
  refine Run.seq (Run.region ?_)
  refine Run.opG wantS_none (ex_assign rfl) rfl ?_
  refine Run.opsEnd (Run.seq (Run.seq (Run.region ?_)))
  refine Run.opG wantS_none (ex_move rfl) rfl ?_
  refine Run.opG wantS_none (ex_lss rfl rfl) rfl ?_
  refine Run.opsEnd ?_
  rcases btf ((decide (a0 < (0 : Int)))) with hc21 | hc21
  · have h := bif_t hc21 h
    refine Run.condT' rfl hc21 ?_
    refine Run.seq (Run.region ?_)
    refine Run.opG wantS_none (ex_move rfl) rfl ?_
    refine Run.opG wantS_none (ex_neg rfl) rfl ?_
    refine Run.opG wantS_none (ex_assign rfl) rfl ?_
    refine Run.opsEnd ?_
    cases h
    exact Run.ret Try.func93 rfl (res_tmp rfl res_nil) rfl
  · have h := bif_f hc21 h
    refine Run.condF' rfl hc21 ?_
    refine Run.skip (Run.seq (Run.region ?_))
    refine Run.opG wantS_none (ex_move rfl) rfl ?_
    refine Run.opG wantS_none (ex_assign rfl) rfl ?_
    refine Run.opsEnd ?_
    cases h
    exact Run.ret Try.func93 rfl (res_tmp rfl res_nil) rfl

theorem mkk93 : makeK Try.prog 93 = none := by kernel_rfl
theorem cal93 : callable Try.prog 93 = true := by kernel_rfl
abbrev ref08_distance_post (r : Int) : SV → Mem → Prop := fun s _ => s = (.int .i64 r)

def ref08_distance (F : Nat) (a0 : Int) (a1 : Int) (a2 : Int) : Option (Int) :=
  bnd (ref00_Abs F (w64 (a0 - a1))) fun r22 =>
  some (min r22 (w64 (a2 - r22)))

theorem ref08_distance_ok (F : Nat) (a0 : Int) (a1 : Int) (a2 : Int) (r : Int) (M : Mem) (h : ref08_distance F a0 a1 a2 = some r) : CallsM Try.prog 109 [(.int .i64 a0), (.int .i64 a1), (.int .i64 a2)] M (fun s M' => s = (.int .i64 r) ∧ M' = M) := by
  refine CallsM.plain Try.func109 rfl rfl rfl (show Run _ _ _ (ref08_distance_post r) _ _ _ from ?_)
  rw [ref08_distance] at h
  have hH := Has.nil (frozen M)
  refine Run.seq (Run.region ?_)
  refine Run.opG wantS_none (ex_assign rfl) rfl ?_
  refine Run.opsEnd (Run.seq (Run.region ?_))
  refine Run.opG wantS_none (ex_move rfl) rfl ?_
  refine Run.opG wantS_none (ex_move rfl) rfl ?_
  refine Run.opG wantS_none (ex_sub rfl rfl) rfl ?_
  obtain ⟨r22, hr22, h⟩ := bnd_some h
  refine Run.callP wantS_none (ex_call rfl mkk93 cal93) rfl (ref00_Abs_ok F (w64 (a0 - a1)) _ _ hr22) ?_
  refine Run.opG wantS_none (ex_assign rfl) rfl ?_
  refine Run.opsEnd (Run.seq (Run.region ?_))
  refine Run.opG wantS_none (ex_move rfl) rfl ?_
  refine Run.opG wantS_none (ex_move rfl) rfl ?_
  refine Run.opG wantS_none (ex_move rfl) rfl ?_
  refine Run.opG wantS_none (ex_sub rfl rfl) rfl ?_
  refine Run.opG wantS_none (ex_min rfl rfl) rfl ?_
  refine Run.opG wantS_none (ex_assign rfl) rfl ?_
  refine Run.opsEnd ?_
  cases h
  exact Run.ret Try.func109 rfl (res_tmp rfl res_nil) rfl

theorem mkk109 : makeK Try.prog 109 = none := by kernel_rfl
theorem cal109 : callable Try.prog 109 = true := by kernel_rfl
theorem plan59_1_1_0_1_0_0_1_0_0_1_0_0_1_0_0_1_0 : planOf Try.prog (opsC (atC Try.prog 59 [1, 1, 0, 1, 0, 0, 1, 0, 0, 1, 0, 0, 1, 0, 0, 1, 0])) = some [.fl 0, .fl 1, .fl 2, .fl 3, .fl 4, .fl 5, .fl 6, .fl 7, .fl 8, .fl 9, .fl 10, .fl 11, .fl 12, .fl 13, .fl 14, .an 15 [0], .an 16 [], .an 17 [], .sync] := by kernel_rfl
theorem plan59_1_1_0_1_0_0_1_0_0_1_0_0_1_0_0_0 : planOf Try.prog (opsC (atC Try.prog 59 [1, 1, 0, 1, 0, 0, 1, 0, 0, 1, 0, 0, 1, 0, 0, 0])) = some [.fl 0, .fl 1, .fl 2, .fl 3, .fl 4, .fl 5, .fl 6, .fl 7, .fl 8, .fl 9, .fl 10, .fl 11, .fl 12, .fl 13, .fl 14, .fl 15, .fl 16, .fl 17, .fl 18, .fl 19, .fl 20, .fl 21, .fl 22, .fl 23, .fl 25, .fl 26, .an 24 [26, 25], .fl 27, .fl 28, .sync] := by kernel_rfl
abbrev ref08_coincide_post (r : (List S_api_Pair)) : SV → Mem → Prop := fun s Me => ∃ q1, s = q1 ∧ Has (fun _ => none) Me [.vec 71 3 r.length q1 (r.flatMap enc71)]

def ref08_coincide_4 (F : Nat) (hd2 : (List S_api_Trigger) → (List S_api_Trigger) → Int → Int → S_ringdownref08_Clock → (List S_api_Pair) → Option ((List S_api_Pair))) (v0 : (List S_api_Trigger)) (v1 : (List S_api_Trigger)) (v8 : Int) (v9 : Int) (c22 : S_ringdownref08_Clock) (l47 : (List S_api_Pair)) : Option ((List S_api_Pair)) :=
  hd2 v0 v1 v8 (w64 (v9 + (1 : Int))) c22 l47

theorem ref08_coincide_4_ok (F : Nat) (hd2 : (List S_api_Trigger) → (List S_api_Trigger) → Int → Int → S_ringdownref08_Clock → (List S_api_Pair) → Option ((List S_api_Pair))) (hhd2 : ∀ (v0 : (List S_api_Trigger)) (v1 : (List S_api_Trigger)) (v8 : Int) (v9 : Int) (c22 : S_ringdownref08_Clock) (l24 : (List S_api_Pair)) (sv0 : SV) (sv1 : SV) (b22 : Pos) (s24 : SV) (Fr : Rd) (M : Mem) (r : (List S_api_Pair)) (hv0 : Slc Fr 3 (FlatR enc76) sv0 v0) (hv1 : Slc Fr 3 (FlatR enc76) sv1 v1) (hH : Has Fr M [.obj b22 (.row 93 .whole [(.int .i64 c22.Live), (.int .i64 c22.Window), (.int .i64 c22.Step)]), .vec 71 3 l24.length s24 (l24.flatMap enc71)]), hd2 v0 v1 v8 v9 c22 l24 = some r → Run Try.prog ⟨⟨59, [], none⟩, []⟩ 69 (ref08_coincide_post r) [(0, sv0), (1, sv1), (5, (.ptr b22 0)), (7, s24), (8, (.int .i64 v8)), (9, (.int .i64 v9))] [codeC Try.prog 59 [1, 1, 0, 1, 0, 0, 1, 0, 0, 1, 0, 0], loopC Try.prog 59 [1, 1, 0, 1, 0, 0, 1, 0, 0, 1, 0, 0], .inBlock 2, .inBlock 1, codeC Try.prog 59 [1, 1, 0, 1, 0, 0, 1, 1], loopC Try.prog 59 [1, 1, 0, 1, 0, 0], .inBlock 0, codeC Try.prog 59 [1, 1, 1]] M) : ∀ (v0 : (List S_api_Trigger)) (v1 : (List S_api_Trigger)) (v8 : Int) (v9 : Int) (c22 : S_ringdownref08_Clock) (l47 : (List S_api_Pair)) (sv0 : SV) (sv1 : SV) (b22 : Pos) (s47 : SV) (Fr : Rd) (M : Mem) (r : (List S_api_Pair)) (hv0 : Slc Fr 3 (FlatR enc76) sv0 v0) (hv1 : Slc Fr 3 (FlatR enc76) sv1 v1) (hH : Has Fr M [.obj b22 (.row 93 .whole [(.int .i64 c22.Live), (.int .i64 c22.Window), (.int .i64 c22.Step)]), .vec 71 3 l47.length s47 (l47.flatMap enc71)]), ref08_coincide_4 F hd2 v0 v1 v8 v9 c22 l47 = some r → Run Try.prog ⟨⟨59, [], none⟩, []⟩ 69 (ref08_coincide_post r) [(0, sv0), (1, sv1), (5, (.ptr b22 0)), (7, s47), (8, (.int .i64 v8)), (9, (.int .i64 v9))] [itemC Try.prog 59 [1, 1, 0, 1, 0, 0, 1, 0, 0, 1, 0, 0, 1, 1] 0, loopC Try.prog 59 [1, 1, 0, 1, 0, 0, 1, 0, 0, 1, 0, 0], .inBlock 2, .inBlock 1, codeC Try.prog 59 [1, 1, 0, 1, 0, 0, 1, 1], loopC Try.prog 59 [1, 1, 0, 1, 0, 0], .inBlock 0, codeC Try.prog 59 [1, 1, 1]] M := by
  intro v0 v1 v8 v9 c22 l47 sv0 sv1 b22 s47 Fr M r hv0 hv1 hH h
  rw [ref08_coincide_4] at h
  refine Run.opG wantS_none (ex_move rfl) rfl ?_
  refine Run.opG wantS_none (ex_add rfl rfl) rfl ?_
  refine Run.opG wantS_none (ex_assign rfl) rfl ?_
  refine Run.opsEnd (Run.inLoop ?_)
  exact Run.pick [0, 1, 5, 7, 8, 9] (hhd2 v0 v1 v8 (w64 (v9 + (1 : Int))) c22 l47 sv0 sv1 b22 s47 _ _ _ hv0 hv1 hH h)

def ref08_coincide_3 (F : Nat) (hd2 : (List S_api_Trigger) → (List S_api_Trigger) → Int → Int → S_ringdownref08_Clock → (List S_api_Pair) → Option ((List S_api_Pair))) (v0 : (List S_api_Trigger)) (v1 : (List S_api_Trigger)) (v8 : Int) (v9 : Int) (v50 : Bool) (c22 : S_ringdownref08_Clock) (l24 : (List S_api_Pair)) : Option ((List S_api_Pair)) :=
  bif v50 then
    bnd (idx v0 v8) fun x40 =>
    bnd (idx v1 v9) fun x42 =>
    bnd (apd 24 l24 ([(S_api_Pair.mk v8 v9 (w64 (x40.Loud + x42.Loud)))] : List S_api_Pair)) fun l46 =>
    ref08_coincide_4 F hd2 v0 v1 v8 v9 c22 l46
  else
    ref08_coincide_4 F hd2 v0 v1 v8 v9 c22 l24

theorem ref08_coincide_3_ok (F : Nat) (hd2 : (List S_api_Trigger) → (List S_api_Trigger) → Int → Int → S_ringdownref08_Clock → (List S_api_Pair) → Option ((List S_api_Pair))) (hhd2 : ∀ (v0 : (List S_api_Trigger)) (v1 : (List S_api_Trigger)) (v8 : Int) (v9 : Int) (c22 : S_ringdownref08_Clock) (l24 : (List S_api_Pair)) (sv0 : SV) (sv1 : SV) (b22 : Pos) (s24 : SV) (Fr : Rd) (M : Mem) (r : (List S_api_Pair)) (hv0 : Slc Fr 3 (FlatR enc76) sv0 v0) (hv1 : Slc Fr 3 (FlatR enc76) sv1 v1) (hH : Has Fr M [.obj b22 (.row 93 .whole [(.int .i64 c22.Live), (.int .i64 c22.Window), (.int .i64 c22.Step)]), .vec 71 3 l24.length s24 (l24.flatMap enc71)]), hd2 v0 v1 v8 v9 c22 l24 = some r → Run Try.prog ⟨⟨59, [], none⟩, []⟩ 69 (ref08_coincide_post r) [(0, sv0), (1, sv1), (5, (.ptr b22 0)), (7, s24), (8, (.int .i64 v8)), (9, (.int .i64 v9))] [codeC Try.prog 59 [1, 1, 0, 1, 0, 0, 1, 0, 0, 1, 0, 0], loopC Try.prog 59 [1, 1, 0, 1, 0, 0, 1, 0, 0, 1, 0, 0], .inBlock 2, .inBlock 1, codeC Try.prog 59 [1, 1, 0, 1, 0, 0, 1, 1], loopC Try.prog 59 [1, 1, 0, 1, 0, 0], .inBlock 0, codeC Try.prog 59 [1, 1, 1]] M) : ∀ (v0 : (List S_api_Trigger)) (v1 : (List S_api_Trigger)) (v8 : Int) (v9 : Int) (v50 : Bool) (c22 : S_ringdownref08_Clock) (l24 : (List S_api_Pair)) (sv0 : SV) (sv1 : SV) (b22 : Pos) (s24 : SV) (Fr : Rd) (M : Mem) (r : (List S_api_Pair)) (hv0 : Slc Fr 3 (FlatR enc76) sv0 v0) (hv1 : Slc Fr 3 (FlatR enc76) sv1 v1) (hH : Has Fr M [.obj b22 (.row 93 .whole [(.int .i64 c22.Live), (.int .i64 c22.Window), (.int .i64 c22.Step)]), .vec 71 3 l24.length s24 (l24.flatMap enc71)]), ref08_coincide_3 F hd2 v0 v1 v8 v9 v50 c22 l24 = some r → Run Try.prog ⟨⟨59, [], none⟩, []⟩ 69 (ref08_coincide_post r) [(0, sv0), (1, sv1), (5, (.ptr b22 0)), (7, s24), (8, (.int .i64 v8)), (9, (.int .i64 v9)), (50, (.bool v50))] [codeC Try.prog 59 [1, 1, 0, 1, 0, 0, 1, 0, 0, 1, 0, 0, 1, 0, 0, 1], .inBlock 3, codeC Try.prog 59 [1, 1, 0, 1, 0, 0, 1, 0, 0, 1, 0, 0, 1, 1], loopC Try.prog 59 [1, 1, 0, 1, 0, 0, 1, 0, 0, 1, 0, 0], .inBlock 2, .inBlock 1, codeC Try.prog 59 [1, 1, 0, 1, 0, 0, 1, 1], loopC Try.prog 59 [1, 1, 0, 1, 0, 0], .inBlock 0, codeC Try.prog 59 [1, 1, 1]] M := by
  intro v0 v1 v8 v9 v50 c22 l24 sv0 sv1 b22 s24 Fr M r hv0 hv1 hH h
  rw [ref08_coincide_3] at h
  rcases btf (v50) with hc39 | hc39
  · have h := bif_t hc39 h
    refine Run.condT' rfl hc39 ?_
    refine Run.drawG plan59_1_1_0_1_0_0_1_0_0_1_0_0_1_0_0_1_0 ?_
    refine DrawG.fl rfl (ev_ex wantS_none (ex_move rfl)) rfl ?_
    refine DrawG.fl rfl (ev_ex wantS_none (ex_move rfl)) rfl ?_
    refine DrawG.fl rfl (ev_ex wantS_none (ex_move rfl)) rfl ?_
    refine DrawG.fl rfl (ev_ex wantS_none (ex_move rfl)) rfl ?_
    refine DrawG.fl rfl (ev_ex wantS_none (ex_move rfl)) rfl ?_
    obtain ⟨x40, hx40, h⟩ := bnd_some h
    obtain ⟨p40, o40, _, hx40, hp40, rfl⟩ := sl_elem (P := Try.prog) (t := 22) (kk := .i64) hv0 hx40 els22
    refine DrawG.fl rfl (ev_ex wantS_none (ex_elX rfl rfl hx40)) rfl ?_
    have hp41 := (hp40.fld (o := 1) rfl)
    refine DrawG.fl rfl (ev_ex wantS_none (ex_fieldAddr rfl off76_1)) rfl ?_
    refine DrawG.fl rfl (ev_ex wantS_none (ex_load1 rfl (hH.ptrF hp41) rdLe_rfl agg3)) rfl ?_
    refine DrawG.fl rfl (ev_ex wantS_none (ex_move rfl)) rfl ?_
    refine DrawG.fl rfl (ev_ex wantS_none (ex_move rfl)) rfl ?_
    obtain ⟨x42, hx42, h⟩ := bnd_some h
    obtain ⟨p42, o42, _, hx42, hp42, rfl⟩ := sl_elem (P := Try.prog) (t := 22) (kk := .i64) hv1 hx42 els22
    refine DrawG.fl rfl (ev_ex wantS_none (ex_elX rfl rfl hx42)) rfl ?_
    have hp43 := (hp42.fld (o := 1) rfl)
    refine DrawG.fl rfl (ev_ex wantS_none (ex_fieldAddr rfl off76_1)) rfl ?_
    refine DrawG.fl rfl (ev_ex wantS_none (ex_load1 rfl (hH.ptrF hp43) rdLe_rfl agg3)) rfl ?_
    refine DrawG.fl rfl (ev_ex wantS_none (ex_add rfl rfl)) rfl ?_
    refine DrawG.fl rfl (ev_ex wantS_none (ex_build (r := [(.int .i64 v8), (.int .i64 v9), (.int .i64 (w64 (x40.Loud + x42.Loud)))]) rfl zer71 pls71 rfl)) rfl ?_
    refine DrawG.opX rfl wantS_none rfl (ExG.built (enc := enc71) (l := ([(S_api_Pair.mk v8 v9 (w64 (x40.Loud + x42.Loud)))] : List S_api_Pair)) (z := 3) rfl elt27 rfl rfl rfl enc71_len hH) ?_
    rintro s44 M45 (hH45 : Has Fr M45 [.vec 71 3 ([(S_api_Pair.mk v8 v9 (w64 (x40.Loud + x42.Loud)))] : List S_api_Pair).length s44 (([(S_api_Pair.mk v8 v9 (w64 (x40.Loud + x42.Loud)))] : List S_api_Pair).flatMap enc71), .obj b22 (.row 93 .whole [(.int .i64 c22.Live), (.int .i64 c22.Window), (.int .i64 c22.Step)]), .vec 71 3 l24.length s24 (l24.flatMap enc71)])
    refine ⟨(st_cons rfl (ev_ex wantS_none (ex_move rfl)) rfl rfl (blk_self hH45 (i := 2) rfl) st_nil), ?_⟩
    obtain ⟨l46, hl46, h⟩ := bnd_some h
    refine DrawG.opX rfl wantS_none rfl (ExG.append rfl rfl hH45 (i := 2) rfl enc71_len rfl enc71_ones appt27_27 rfl (len_slc (hH45.slc (i := 0) rfl enc71_len)) (first_slc (hH45.slc (i := 0) rfl enc71_len) (rdLe_rdRow _) enc71_len) hl46) ?_
    rintro s46 M48 (hH48 : Has Fr M48 [.vec 71 3 ([(S_api_Pair.mk v8 v9 (w64 (x40.Loud + x42.Loud)))] : List S_api_Pair).length s44 (([(S_api_Pair.mk v8 v9 (w64 (x40.Loud + x42.Loud)))] : List S_api_Pair).flatMap enc71), .obj b22 (.row 93 .whole [(.int .i64 c22.Live), (.int .i64 c22.Window), (.int .i64 c22.Step)]), .vec 71 3 l46.length s46 (l46.flatMap enc71)])
    refine ⟨st_nil, ?_⟩
    refine DrawG.val rfl wantS_none (ex_assign rfl) rfl st_nil ?_
    refine DrawG.sync ?_
    refine DrawG.nil ?_
    refine Run.inBlock (Run.region ?_)
    exact Run.pick [0, 1, 5, 7, 8, 9] (ref08_coincide_4_ok F hd2 hhd2 v0 v1 v8 v9 c22 l46 sv0 sv1 b22 s46 _ _ _ hv0 hv1 (hH48.pick [1, 2] rfl rfl) h)
  · have h := bif_f hc39 h
    refine Run.condF' rfl hc39 ?_
    refine Run.skip (Run.inBlock (Run.region ?_))
    exact Run.pick [0, 1, 5, 7, 8, 9] (ref08_coincide_4_ok F hd2 hhd2 v0 v1 v8 v9 c22 l24 sv0 sv1 b22 s24 _ _ _ hv0 hv1 hH h)

def ref08_coincide_2 (F : Nat) (hd1 : (List S_api_Trigger) → (List S_api_Trigger) → Int → S_ringdownref08_Clock → (List S_api_Pair) → Option ((List S_api_Pair))) : Nat → (List S_api_Trigger) → (List S_api_Trigger) → Int → Int → S_ringdownref08_Clock → (List S_api_Pair) → Option ((List S_api_Pair))
  | 0, _, _, _, _, _, _ => none
  | N + 1, v0, v1, v8, v9, c22, l24 =>
    bif (decide (v9 < (v1.length : Int))) then
      bnd (idx v0 v8) fun x28 =>
      bnd (idx v1 v9) fun x30 =>
      bif (x28.Template == x30.Template) then
        bnd (idx v0 v8) fun x33 =>
        bnd (idx v1 v9) fun x35 =>
        bnd (ref08_distance F x33.Time x35.Time c22.Live) fun r37 =>
        ref08_coincide_3 F (ref08_coincide_2 F hd1 N) v0 v1 v8 v9 (decide (r37 ≤ c22.Window)) c22 l24
      else
        ref08_coincide_3 F (ref08_coincide_2 F hd1 N) v0 v1 v8 v9 false c22 l24
    else
      hd1 v0 v1 (w64 (v8 + (1 : Int))) c22 l24

theorem ref08_coincide_2_ok (F : Nat) (hd1 : (List S_api_Trigger) → (List S_api_Trigger) → Int → S_ringdownref08_Clock → (List S_api_Pair) → Option ((List S_api_Pair))) (hhd1 : ∀ (v0 : (List S_api_Trigger)) (v1 : (List S_api_Trigger)) (v8 : Int) (c22 : S_ringdownref08_Clock) (l24 : (List S_api_Pair)) (sv0 : SV) (sv1 : SV) (b22 : Pos) (s24 : SV) (Fr : Rd) (M : Mem) (r : (List S_api_Pair)) (hv0 : Slc Fr 3 (FlatR enc76) sv0 v0) (hv1 : Slc Fr 3 (FlatR enc76) sv1 v1) (hH : Has Fr M [.obj b22 (.row 93 .whole [(.int .i64 c22.Live), (.int .i64 c22.Window), (.int .i64 c22.Step)]), .vec 71 3 l24.length s24 (l24.flatMap enc71)]), hd1 v0 v1 v8 c22 l24 = some r → Run Try.prog ⟨⟨59, [], none⟩, []⟩ 69 (ref08_coincide_post r) [(0, sv0), (1, sv1), (5, (.ptr b22 0)), (7, s24), (8, (.int .i64 v8))] [codeC Try.prog 59 [1, 1, 0, 1, 0, 0], loopC Try.prog 59 [1, 1, 0, 1, 0, 0], .inBlock 0, codeC Try.prog 59 [1, 1, 1]] M) : ∀ (N : Nat), ∀ (v0 : (List S_api_Trigger)) (v1 : (List S_api_Trigger)) (v8 : Int) (v9 : Int) (c22 : S_ringdownref08_Clock) (l24 : (List S_api_Pair)) (sv0 : SV) (sv1 : SV) (b22 : Pos) (s24 : SV) (Fr : Rd) (M : Mem) (r : (List S_api_Pair)) (hv0 : Slc Fr 3 (FlatR enc76) sv0 v0) (hv1 : Slc Fr 3 (FlatR enc76) sv1 v1) (hH : Has Fr M [.obj b22 (.row 93 .whole [(.int .i64 c22.Live), (.int .i64 c22.Window), (.int .i64 c22.Step)]), .vec 71 3 l24.length s24 (l24.flatMap enc71)]), ref08_coincide_2 F hd1 N v0 v1 v8 v9 c22 l24 = some r → Run Try.prog ⟨⟨59, [], none⟩, []⟩ 69 (ref08_coincide_post r) [(0, sv0), (1, sv1), (5, (.ptr b22 0)), (7, s24), (8, (.int .i64 v8)), (9, (.int .i64 v9))] [codeC Try.prog 59 [1, 1, 0, 1, 0, 0, 1, 0, 0, 1, 0, 0], loopC Try.prog 59 [1, 1, 0, 1, 0, 0, 1, 0, 0, 1, 0, 0], .inBlock 2, .inBlock 1, codeC Try.prog 59 [1, 1, 0, 1, 0, 0, 1, 1], loopC Try.prog 59 [1, 1, 0, 1, 0, 0], .inBlock 0, codeC Try.prog 59 [1, 1, 1]] M := by
  intro N
  induction N with
  | zero =>
    intro v0 v1 v8 v9 c22 l24 sv0 sv1 b22 s24 Fr M r hv0 hv1 hH h
    simp [ref08_coincide_2] at h
  | succ N ih =>
    intro v0 v1 v8 v9 c22 l24 sv0 sv1 b22 s24 Fr M r hv0 hv1 hH h
    rw [ref08_coincide_2] at h
    refine Run.seq (Run.seq (Run.region ?_))
    refine Run.opG wantS_none (ex_move rfl) rfl ?_
    refine Run.opG wantS_none (ex_move rfl) rfl ?_
    refine Run.opG wantS_none (ex_len' rfl hv1 lenk22) rfl ?_
    refine Run.opG wantS_none (ex_lss rfl rfl) rfl ?_
    refine Run.opsEnd ?_
    rcases btf ((decide (v9 < (v1.length : Int)))) with hc27 | hc27
    · have h := bif_t hc27 h
      refine Run.condT' rfl hc27 ?_
      refine Run.skip (Run.seq (Run.block (Run.seq ?_)))
      refine Run.drawG plan59_1_1_0_1_0_0_1_0_0_1_0_0_1_0_0_0 ?_
      refine DrawG.fl rfl (ev_ex wantS_none (ex_move rfl)) rfl ?_
      refine DrawG.fl rfl (ev_ex wantS_none (ex_move rfl)) rfl ?_
      obtain ⟨x28, hx28, h⟩ := bnd_some h
      obtain ⟨p28, o28, _, hx28, hp28, rfl⟩ := sl_elem (P := Try.prog) (t := 22) (kk := .i64) hv0 hx28 els22
      refine DrawG.fl rfl (ev_ex wantS_none (ex_elX rfl rfl hx28)) rfl ?_
      have hp29 := (hp28.fld (o := 2) rfl)
      refine DrawG.fl rfl (ev_ex wantS_none (ex_fieldAddr rfl off76_2)) rfl ?_
      refine DrawG.fl rfl (ev_ex wantS_none (ex_load1 rfl (hH.ptrF hp29) rdLe_rfl agg3)) rfl ?_
      refine DrawG.fl rfl (ev_ex wantS_none (ex_move rfl)) rfl ?_
      refine DrawG.fl rfl (ev_ex wantS_none (ex_move rfl)) rfl ?_
      obtain ⟨x30, hx30, h⟩ := bnd_some h
      obtain ⟨p30, o30, _, hx30, hp30, rfl⟩ := sl_elem (P := Try.prog) (t := 22) (kk := .i64) hv1 hx30 els22
      refine DrawG.fl rfl (ev_ex wantS_none (ex_elX rfl rfl hx30)) rfl ?_
      have hp31 := (hp30.fld (o := 2) rfl)
      refine DrawG.fl rfl (ev_ex wantS_none (ex_fieldAddr rfl off76_2)) rfl ?_
      refine DrawG.fl rfl (ev_ex wantS_none (ex_load1 rfl (hH.ptrF hp31) rdLe_rfl agg3)) rfl ?_
      refine DrawG.fl rfl (ev_ex wantS_none (ex_eql rfl rfl)) rfl ?_
      refine DrawG.fl rfl (ev_ex wantS_none (ex_move rfl)) rfl ?_
      rcases btf ((x28.Template == x30.Template)) with hc32 | hc32
      · have h := bif_t hc32 h
        refine DrawG.fl rfl (ev_ex (wantS_yes' rfl rfl hc32) (ex_move rfl)) rfl ?_
        refine DrawG.fl rfl (ev_ex (wantS_yes' rfl rfl hc32) (ex_move rfl)) rfl ?_
        obtain ⟨x33, hx33, h⟩ := bnd_some h
        obtain ⟨p33, o33, _, hx33, hp33, rfl⟩ := sl_elem (P := Try.prog) (t := 22) (kk := .i64) hv0 hx33 els22
        refine DrawG.fl rfl (ev_ex (wantS_yes' rfl rfl hc32) (ex_elX rfl rfl hx33)) rfl ?_
        have hp34 := (hp33.fld (o := 0) rfl)
        refine DrawG.fl rfl (ev_ex (wantS_yes' rfl rfl hc32) (ex_fieldAddr rfl off76_0)) rfl ?_
        refine DrawG.fl rfl (ev_ex (wantS_yes' rfl rfl hc32) (ex_load1 rfl (hH.ptrF hp34) rdLe_rfl agg3)) rfl ?_
        refine DrawG.fl rfl (ev_ex (wantS_yes' rfl rfl hc32) (ex_move rfl)) rfl ?_
        refine DrawG.fl rfl (ev_ex (wantS_yes' rfl rfl hc32) (ex_move rfl)) rfl ?_
        obtain ⟨x35, hx35, h⟩ := bnd_some h
        obtain ⟨p35, o35, _, hx35, hp35, rfl⟩ := sl_elem (P := Try.prog) (t := 22) (kk := .i64) hv1 hx35 els22
        refine DrawG.fl rfl (ev_ex (wantS_yes' rfl rfl hc32) (ex_elX rfl rfl hx35)) rfl ?_
        have hp36 := (hp35.fld (o := 0) rfl)
        refine DrawG.fl rfl (ev_ex (wantS_yes' rfl rfl hc32) (ex_fieldAddr rfl off76_0)) rfl ?_
        refine DrawG.fl rfl (ev_ex (wantS_yes' rfl rfl hc32) (ex_load1 rfl (hH.ptrF hp36) rdLe_rfl agg3)) rfl ?_
        refine DrawG.fl rfl (ev_ex (wantS_yes' rfl rfl hc32) (ex_fieldAddr rfl off93_0)) rfl ?_
        refine DrawG.fl rfl (ev_ex (wantS_yes' rfl rfl hc32) (ex_load1 rfl (hH.cells (i := 0) rfl 0 rfl) rdLe_rfl agg3)) rfl ?_
        refine DrawG.fl rfl (ev_ex (wantS_yes' rfl rfl hc32) (ex_fieldAddr rfl off93_1)) rfl ?_
        refine DrawG.fl rfl (ev_ex (wantS_yes' rfl rfl hc32) (ex_load1 rfl (hH.cells (i := 0) rfl 1 rfl) rdLe_rfl agg3)) rfl ?_
        obtain ⟨r37, hr37, h⟩ := bnd_some h
        refine DrawG.callP rfl (wantS_yes' rfl rfl hc32) (ex_call rfl mkk109 cal109) rfl (ref08_distance_ok F x33.Time x35.Time c22.Live _ _ hr37) (st_cons rfl (ev_ex (wantS_yes' rfl rfl hc32) (ex_load1 rfl (hH.cells (i := 0) rfl 1 rfl) rdLe_rfl agg3)) rfl rfl rfl (st_cons rfl (ev_ex (wantS_yes' rfl rfl hc32) (ex_fieldAddr rfl off93_1)) rfl rfl rfl st_nil)) ?_
        refine DrawG.fl rfl (ev_ex (wantS_yes' rfl rfl hc32) (ex_leq rfl rfl)) rfl ?_
        refine DrawG.fl rfl (ev_ex wantS_none (ex_pickT' rfl hc32 rfl rfl)) rfl ?_
        refine DrawG.sync ?_
        refine DrawG.nil ?_
        exact Run.pick [0, 1, 5, 7, 8, 9, 50] (ref08_coincide_3_ok F (ref08_coincide_2 F hd1 N) ih v0 v1 v8 v9 (decide (r37 ≤ c22.Window)) c22 l24 sv0 sv1 b22 s24 _ _ _ hv0 hv1 hH h)
      · have h := bif_f hc32 h
        refine DrawG.fl rfl (ev_no (wantS_not' rfl rfl hc32)) rfl ?_
        refine DrawG.fl rfl (ev_no (wantS_not' rfl rfl hc32)) rfl ?_
        refine DrawG.fl rfl (ev_no (wantS_not' rfl rfl hc32)) rfl ?_
        refine DrawG.fl rfl (ev_no (wantS_not' rfl rfl hc32)) rfl ?_
        refine DrawG.fl rfl (ev_no (wantS_not' rfl rfl hc32)) rfl ?_
        refine DrawG.fl rfl (ev_no (wantS_not' rfl rfl hc32)) rfl ?_
        refine DrawG.fl rfl (ev_no (wantS_not' rfl rfl hc32)) rfl ?_
        refine DrawG.fl rfl (ev_no (wantS_not' rfl rfl hc32)) rfl ?_
        refine DrawG.fl rfl (ev_no (wantS_not' rfl rfl hc32)) rfl ?_
        refine DrawG.fl rfl (ev_no (wantS_not' rfl rfl hc32)) rfl ?_
        refine DrawG.fl rfl (ev_no (wantS_not' rfl rfl hc32)) rfl ?_
        refine DrawG.fl rfl (ev_no (wantS_not' rfl rfl hc32)) rfl ?_
        refine DrawG.fl rfl (ev_no (wantS_not' rfl rfl hc32)) rfl ?_
        refine DrawG.fl rfl (ev_no (wantS_not' rfl rfl hc32)) rfl ?_
        refine DrawG.no rfl (wantS_not' rfl rfl hc32) rfl (st_cons rfl (ev_no (wantS_not' rfl rfl hc32)) rfl rfl rfl (st_cons rfl (ev_no (wantS_not' rfl rfl hc32)) rfl rfl rfl st_nil)) ?_
        refine DrawG.fl rfl (ev_no (wantS_not' rfl rfl hc32)) rfl ?_
        refine DrawG.fl rfl (ev_ex wantS_none (ex_pickF' rfl hc32 rfl rfl)) rfl ?_
        refine DrawG.sync ?_
        refine DrawG.nil ?_
        exact Run.pick [0, 1, 5, 7, 8, 9, 50] (ref08_coincide_3_ok F (ref08_coincide_2 F hd1 N) ih v0 v1 v8 v9 false c22 l24 sv0 sv1 b22 s24 _ _ _ hv0 hv1 hH h)
    · have h := bif_f hc27 h
      refine Run.condF' rfl hc27 ?_
      refine Run.exit rfl (Run.inBlock (Run.region ?_))
      refine Run.opG wantS_none (ex_move rfl) rfl ?_
      refine Run.opG wantS_none (ex_add rfl rfl) rfl ?_
      refine Run.opG wantS_none (ex_assign rfl) rfl ?_
      refine Run.opsEnd (Run.inLoop ?_)
      exact Run.pick [0, 1, 5, 7, 8] (hhd1 v0 v1 (w64 (v8 + (1 : Int))) c22 l24 sv0 sv1 b22 s24 _ _ _ hv0 hv1 hH h)

def ref08_coincide_1 (F : Nat) : Nat → (List S_api_Trigger) → (List S_api_Trigger) → Int → S_ringdownref08_Clock → (List S_api_Pair) → Option ((List S_api_Pair))
  | 0, _, _, _, _, _ => none
  | N + 1, v0, v1, v8, c22, l24 =>
    bif (decide (v8 < (v0.length : Int))) then
      ref08_coincide_2 F (ref08_coincide_1 F N) F v0 v1 v8 (0 : Int) c22 l24
    else
      some l24

theorem ref08_coincide_1_ok (F : Nat) : ∀ (N : Nat), ∀ (v0 : (List S_api_Trigger)) (v1 : (List S_api_Trigger)) (v8 : Int) (c22 : S_ringdownref08_Clock) (l24 : (List S_api_Pair)) (sv0 : SV) (sv1 : SV) (b22 : Pos) (s24 : SV) (Fr : Rd) (M : Mem) (r : (List S_api_Pair)) (hv0 : Slc Fr 3 (FlatR enc76) sv0 v0) (hv1 : Slc Fr 3 (FlatR enc76) sv1 v1) (hH : Has Fr M [.obj b22 (.row 93 .whole [(.int .i64 c22.Live), (.int .i64 c22.Window), (.int .i64 c22.Step)]), .vec 71 3 l24.length s24 (l24.flatMap enc71)]), ref08_coincide_1 F N v0 v1 v8 c22 l24 = some r → Run Try.prog ⟨⟨59, [], none⟩, []⟩ 69 (ref08_coincide_post r) [(0, sv0), (1, sv1), (5, (.ptr b22 0)), (7, s24), (8, (.int .i64 v8))] [codeC Try.prog 59 [1, 1, 0, 1, 0, 0], loopC Try.prog 59 [1, 1, 0, 1, 0, 0], .inBlock 0, codeC Try.prog 59 [1, 1, 1]] M := by
  intro N
  induction N with
  | zero =>
    intro v0 v1 v8 c22 l24 sv0 sv1 b22 s24 Fr M r hv0 hv1 hH h
    simp [ref08_coincide_1] at h
  | succ N ih =>
    intro v0 v1 v8 c22 l24 sv0 sv1 b22 s24 Fr M r hv0 hv1 hH h
    rw [ref08_coincide_1] at h
    refine Run.seq (Run.seq (Run.region ?_))
    refine Run.opG wantS_none (ex_move rfl) rfl ?_
    refine Run.opG wantS_none (ex_move rfl) rfl ?_
    refine Run.opG wantS_none (ex_len' rfl hv0 lenk22) rfl ?_
    refine Run.opG wantS_none (ex_lss rfl rfl) rfl ?_
    refine Run.opsEnd ?_
    rcases btf ((decide (v8 < (v0.length : Int)))) with hc26 | hc26
    · have h := bif_t hc26 h
      refine Run.condT' rfl hc26 ?_
      refine Run.skip (Run.seq (Run.block (Run.seq (Run.region ?_))))
      refine Run.opG wantS_none (ex_assign rfl) rfl ?_
      refine Run.opsEnd (Run.block (Run.loop ?_))
      exact Run.pick [0, 1, 5, 7, 8, 9] (ref08_coincide_2_ok F (ref08_coincide_1 F N) ih F v0 v1 v8 (0 : Int) c22 l24 sv0 sv1 b22 s24 _ _ _ hv0 hv1 hH h)
    · have h := bif_f hc26 h
      refine Run.condF' rfl hc26 ?_
      refine Run.exit rfl (Run.seq (Run.region ?_))
      refine Run.opG wantS_none (ex_move rfl) rfl ?_
      refine Run.opG wantS_none (ex_assign rfl) rfl ?_
      refine Run.opsEnd ?_
      cases h
      exact Run.ret Try.func59 rfl (res_tmp rfl res_nil) ⟨_, rfl, (hH.pick [1] rfl rfl).upF (none_le _)⟩

def ref08_coincide (F : Nat) (a0 : (List S_api_Trigger)) (a1 : (List S_api_Trigger)) (a2 : S_ringdownref08_Clock) : Option ((List S_api_Pair)) :=
  ref08_coincide_1 F F a0 a1 (0 : Int) a2 ([] : List S_api_Pair)

theorem ref08_coincide_ok (F : Nat) (a0 : (List S_api_Trigger)) (a1 : (List S_api_Trigger)) (a2 : S_ringdownref08_Clock) (s0 s1 : SV) (r : (List S_api_Pair)) (M : Mem) (hs0 : Slc (rd M) 3 (FlatR enc76) s0 a0) (hs1 : Slc (rd M) 3 (FlatR enc76) s1 a1) (h : ref08_coincide F a0 a1 a2 = some r) : CallsM Try.prog 59 [s0, s1, (.agg [(.int .i64 a2.Live), (.int .i64 a2.Window), (.int .i64 a2.Step)])] M (fun s M' => ∃ q1, s = q1 ∧ New M M' [.vec 71 3 r.length q1 (r.flatMap enc71)]) := by
  refine CallsM.fresh (Q := ref08_coincide_post r) Try.func59 rfl rfl ?_ (by rintro s Me ⟨q1, rfl, hx⟩ ha hw; exact ⟨_, rfl, New.of rfl hx ha hw⟩)
  rw [ref08_coincide] at h
  replace hs0 := hs0.mono (rdLe_frozen M) (fun _ _ h => h)
  replace hs1 := hs1.mono (rdLe_frozen M) (fun _ _ h => h)
  have hH := Has.nil (frozen M)
  refine Run.seq (Run.region ?_)
  refine Run.opX wantS_none rfl (ExG.box rfl rfl hH) ?_
  rintro _ M23 ⟨b22, rfl, (hH23 : Has (ro (frozen M)) M23 [.obj b22 (.row 93 .whole [(.int .i64 a2.Live), (.int .i64 a2.Window), (.int .i64 a2.Step)])])⟩
  refine Run.opG wantS_none (ex_assign rfl) rfl ?_
  refine Run.opsEnd (Run.seq (Run.region ?_))
  refine Run.opG wantS_none (ex_assign rfl) rfl ?_
  refine Run.opsEnd (Run.seq (Run.seq (Run.region ?_)))
  refine Run.opG wantS_none (ex_assign rfl) rfl ?_
  refine Run.opsEnd (Run.block (Run.loop ?_))
  have hH25 : Has (ro (frozen M)) M23 [.vec 71 3 ([] : List S_api_Pair).length .nils (([] : List S_api_Pair).flatMap enc71), .obj b22 (.row 93 .whole [(.int .i64 a2.Live), (.int .i64 a2.Window), (.int .i64 a2.Step)])] := hH23.nils 71 3
  exact Run.pick [0, 1, 5, 7, 8] (ref08_coincide_1_ok F F a0 a1 (0 : Int) a2 ([] : List S_api_Pair) s0 s1 b22 .nils _ _ _ hs0 hs1 (hH25.pick [1, 0] rfl rfl) h)

theorem mkk59 : makeK Try.prog 59 = none := by kernel_rfl
theorem cal59 : callable Try.prog 59 = true := by kernel_rfl
abbrev ref08_Coincide_post (r : (List S_api_Pair) × Int) : SV → Mem → Prop := fun s Me => ∃ q1, s = (.tuple [q1, (.int .i64 r.2)]) ∧ Has (fun _ => none) Me [.vec 71 3 r.1.length q1 (r.1.flatMap enc71)]

def ref08_Coincide (F : Nat) (a0 : (List S_api_Trigger)) (a1 : (List S_api_Trigger)) (a2 : Int) (a3 : Int) : Option ((List S_api_Pair) × Int) :=
  bnd (ref08_ready F a0 a1 (S_ringdownref08_Clock.mk a2 a3 a2)) fun r26 =>
  bif (!(r26 == (0 : Int))) then
    some (([] : List S_api_Pair), r26)
  else
    bnd (ref08_coincide F a0 a1 (S_ringdownref08_Clock.mk a2 a3 a2)) fun r33 =>
    some (r33, (0 : Int))

theorem ref08_Coincide_ok (F : Nat) (a0 : (List S_api_Trigger)) (a1 : (List S_api_Trigger)) (a2 : Int) (a3 : Int) (s0 s1 : SV) (r : (List S_api_Pair) × Int) (M : Mem) (hs0 : Slc (rd M) 3 (FlatR enc76) s0 a0) (hs1 : Slc (rd M) 3 (FlatR enc76) s1 a1) (h : ref08_Coincide F a0 a1 a2 a3 = some r) : CallsM Try.prog 18 [s0, s1, (.int .i64 a2), (.int .i64 a3)] M (fun s M' => ∃ q1, s = (.tuple [q1, (.int .i64 r.2)]) ∧ New M M' [.vec 71 3 r.1.length q1 (r.1.flatMap enc71)]) := by
  refine CallsM.fresh (Q := ref08_Coincide_post r) Try.func18 rfl rfl ?_ (by rintro s Me ⟨q1, rfl, hx⟩ ha hw; exact ⟨_, rfl, New.of rfl hx ha hw⟩)
  rw [ref08_Coincide] at h
  replace hs0 := hs0.mono (rdLe_frozen M) (fun _ _ h => h)
  replace hs1 := hs1.mono (rdLe_frozen M) (fun _ _ h => h)
  have hH := Has.nil (frozen M)
  refine Run.seq (Run.region ?_)
  refine Run.opG wantS_none (ex_assign rfl) rfl ?_
  refine Run.opG wantS_none (ex_assign rfl) rfl ?_
  refine Run.opsEnd (Run.seq (Run.region ?_))
  refine Run.opG wantS_none (ex_move rfl) rfl ?_
  refine Run.opG wantS_none (ex_move rfl) rfl ?_
  refine Run.opG wantS_none (ex_move rfl) rfl ?_
  refine Run.opG wantS_none (ex_build (r := [(.int .i64 a2), (.int .i64 a3), (.int .i64 a2)]) rfl zer93 pls93 rfl) rfl ?_
  refine Run.opX wantS_none rfl (ExG.new (v := fun b => .ptr b 0) (ex_alloc zer93) hH) ?_
  rintro _ M23 ⟨b22, rfl, (hH23 : Has (ro (frozen M)) M23 [.obj b22 (.row 93 .whole [(.int .i64 0), (.int .i64 0), (.int .i64 0)])])⟩
  refine Run.opX wantS_none rfl (ExG.storeC (c' := [(.int .i64 a2), (.int .i64 a3), (.int .i64 a2)]) rfl rfl rfl hH23 (i := 0) rfl sz93 rfl rfl rfl rfl rfl) ?_
  rintro _ M24 ⟨rfl, (hH24 : Has (ro (frozen M)) M24 [.obj b22 (.row 93 .whole [(.int .i64 a2), (.int .i64 a3), (.int .i64 a2)])])⟩
  refine Run.opsEnd (Run.seq (Run.seq (Run.region ?_)))
  refine Run.opG wantS_none (ex_move rfl) rfl ?_
  refine Run.opG wantS_none (ex_move rfl) rfl ?_
  refine Run.opG wantS_none (ex_loadA rfl (hH24.cells (i := 0) rfl 0 rfl) rdLe_rfl agg93 rfl rfl rfl) rfl ?_
  obtain ⟨r26, hr26, h⟩ := bnd_some h
  refine Run.callP wantS_none (ex_call rfl mkk58 cal58) rfl (ref08_ready_ok F a0 a1 (S_ringdownref08_Clock.mk a2 a3 a2) s0 s1 _ _ (hH24.slcF hs0) (hH24.slcF hs1) hr26) ?_
  refine Run.opG wantS_none (ex_assign rfl) rfl ?_
  refine Run.opsEnd (Run.seq (Run.region ?_))
  refine Run.opG wantS_none (ex_move rfl) rfl ?_
  refine Run.opG wantS_none (ex_neq rfl rfl) rfl ?_
  refine Run.opsEnd ?_
  rcases btf ((!(r26 == (0 : Int)))) with hc28 | hc28
  · have h := bif_t hc28 h
    refine Run.condT' rfl hc28 ?_
    refine Run.seq (Run.region ?_)
    refine Run.opG wantS_none (ex_move rfl) rfl ?_
    refine Run.opG wantS_none (ex_assign rfl) rfl ?_
    refine Run.opG wantS_none (ex_assign rfl) rfl ?_
    refine Run.opsEnd ?_
    have hH30 : Has (ro (frozen M)) M24 [.vec 71 3 ([] : List S_api_Pair).length .nils (([] : List S_api_Pair).flatMap enc71), .obj b22 (.row 93 .whole [(.int .i64 a2), (.int .i64 a3), (.int .i64 a2)])] := hH24.nils 71 3
    cases h
    exact Run.ret Try.func18 rfl (res_tmp rfl (res_tmp rfl res_nil)) ⟨_, rfl, (hH30.pick [0] rfl rfl).upF (none_le _)⟩
  · have h := bif_f hc28 h
    refine Run.condF' rfl hc28 ?_
    refine Run.skip (Run.seq (Run.region ?_))
    refine Run.opG wantS_none (ex_move rfl) rfl ?_
    refine Run.opG wantS_none (ex_move rfl) rfl ?_
    refine Run.opG wantS_none (ex_loadA rfl (hH24.cells (i := 0) rfl 0 rfl) rdLe_rfl agg93 rfl rfl rfl) rfl ?_
    obtain ⟨r33, hr33, h⟩ := bnd_some h
    refine Run.callX wantS_none (ex_call rfl mkk59 cal59) rfl (ref08_coincide_ok F a0 a1 (S_ringdownref08_Clock.mk a2 a3 a2) s0 s1 _ _ (hH24.slcF hs0) (hH24.slcF hs1) hr33) ?_
    rintro s33_0 M35 ⟨_, rfl, hN33⟩
    have hH35 : Has (ro (frozen M)) M35 [.vec 71 3 r33.length s33_0 (r33.flatMap enc71), .obj b22 (.row 93 .whole [(.int .i64 a2), (.int .i64 a3), (.int .i64 a2)])] := hN33.1 _ _ hH24
    refine Run.opG wantS_none (ex_assign rfl) rfl ?_
    refine Run.opG wantS_none (ex_assign rfl) rfl ?_
    refine Run.opsEnd ?_
    cases h
    exact Run.ret Try.func18 rfl (res_tmp rfl (res_tmp rfl res_nil)) ⟨_, rfl, (hH35.pick [0] rfl rfl).upF (none_le _)⟩

theorem mkk18 : makeK Try.prog 18 = none := by kernel_rfl
theorem cal18 : callable Try.prog 18 = true := by kernel_rfl
theorem lenk27 : lenK Try.prog 27 = some .sl := by kernel_rfl
theorem els27 : elems Try.prog 27 = some (.sl 3) := by kernel_rfl
theorem agk3 : aggK Try.prog 3 = some .int := by kernel_rfl
theorem agk71 : aggK Try.prog 71 = some (.st [⟨ "A", 3, 0, false, "", "", 0⟩, ⟨ "B", 3, 1, false, "", "", 8⟩, ⟨ "Loud", 3, 2, false, "", "", 16⟩]) := by kernel_rfl
theorem aeq71 : aggEq Try.prog 71 = false := by kernel_rfl
theorem plan19_1_1_0_1_0_0_1_0_0_0 : planOf Try.prog (opsC (atC Try.prog 19 [1, 1, 0, 1, 0, 0, 1, 0, 0, 0])) = some [.fl 0, .fl 1, .fl 2, .fl 3, .fl 4, .fl 5, .fl 6, .fl 7, .fl 8, .sync] := by kernel_rfl
abbrev law08_pairs_post (r : Bool) : SV → Mem → Prop := fun s _ => s = (.bool r)

def law08_pairs_1 (F : Nat) : Nat → (List S_api_Pair) → (List S_api_Pair) → Int → Option (Bool)
  | 0, _, _, _ => none
  | N + 1, v0, v1, v5 =>
    bif (decide (v5 < (v0.length : Int))) then
      bnd (idx v0 v5) fun x23 =>
      bnd (idx v1 v5) fun x24 =>
      bif (!((x23.A == x24.A) && ((x23.B == x24.B) && ((x23.Loud == x24.Loud) && true)))) then
        some false
      else
        (law08_pairs_1 F N) v0 v1 (w64 (v5 + (1 : Int)))
    else
      some true

theorem law08_pairs_1_ok (F : Nat) : ∀ (N : Nat), ∀ (v0 : (List S_api_Pair)) (v1 : (List S_api_Pair)) (v5 : Int) (sv0 : SV) (sv1 : SV) (Fr : Rd) (M : Mem) (r : Bool) (hv0 : Slc Fr 3 (FlatR enc71) sv0 v0) (hv1 : Slc Fr 3 (FlatR enc71) sv1 v1) (hH : Has Fr M []), law08_pairs_1 F N v0 v1 v5 = some r → Run Try.prog ⟨⟨19, [], none⟩, []⟩ 26 (law08_pairs_post r) [(0, sv0), (1, sv1), (5, (.int .i64 v5))] [codeC Try.prog 19 [1, 1, 0, 1, 0, 0], loopC Try.prog 19 [1, 1, 0, 1, 0, 0], .inBlock 0, codeC Try.prog 19 [1, 1, 1]] M := by
  intro N
  induction N with
  | zero =>
    intro v0 v1 v5 sv0 sv1 Fr M r hv0 hv1 hH h
    simp [law08_pairs_1] at h
  | succ N ih =>
    intro v0 v1 v5 sv0 sv1 Fr M r hv0 hv1 hH h
    rw [law08_pairs_1] at h
    refine Run.seq (Run.seq (Run.region ?_))
    refine Run.opG wantS_none (ex_move rfl) rfl ?_
    refine Run.opG wantS_none (ex_move rfl) rfl ?_
    refine Run.opG wantS_none (ex_len' rfl hv0 lenk27) rfl ?_
    refine Run.opG wantS_none (ex_lss rfl rfl) rfl ?_
    refine Run.opsEnd ?_
    rcases btf ((decide (v5 < (v0.length : Int)))) with hc22 | hc22
    · have h := bif_t hc22 h
      refine Run.condT' rfl hc22 ?_
      refine Run.skip (Run.seq (Run.block (Run.seq ?_)))
      refine Run.drawG plan19_1_1_0_1_0_0_1_0_0_0 ?_
      refine DrawG.fl rfl (ev_ex wantS_none (ex_move rfl)) rfl ?_
      refine DrawG.fl rfl (ev_ex wantS_none (ex_move rfl)) rfl ?_
      obtain ⟨x23, hx23, h⟩ := bnd_some h
      obtain ⟨p23, o23, _, hx23, hp23, rfl⟩ := sl_elem (P := Try.prog) (t := 27) (kk := .i64) hv0 hx23 els27
      refine DrawG.fl rfl (ev_ex wantS_none (ex_elX rfl rfl hx23)) rfl ?_
      refine DrawG.fl rfl (ev_ex wantS_none (ex_loadA rfl (hH.ptrF hp23) rdLe_rfl agg71 rfl rfl rfl)) rfl ?_
      refine DrawG.fl rfl (ev_ex wantS_none (ex_move rfl)) rfl ?_
      refine DrawG.fl rfl (ev_ex wantS_none (ex_move rfl)) rfl ?_
      obtain ⟨x24, hx24, h⟩ := bnd_some h
      obtain ⟨p24, o24, _, hx24, hp24, rfl⟩ := sl_elem (P := Try.prog) (t := 27) (kk := .i64) hv1 hx24 els27
      refine DrawG.fl rfl (ev_ex wantS_none (ex_elX rfl rfl hx24)) rfl ?_
      refine DrawG.fl rfl (ev_ex wantS_none (ex_loadA rfl (hH.ptrF hp24) rdLe_rfl agg71 rfl rfl rfl)) rfl ?_
      refine DrawG.fl rfl (ev_ex wantS_none (ex_neqA rfl rfl aeq71 (eqA_st agk71 (eqFs_cons (by decide) (part_one agg3 rfl) (part_one agg3 rfl) (eqA_int agk3) (eqFs_cons (by decide) (part_one agg3 rfl) (part_one agg3 rfl) (eqA_int agk3) (eqFs_cons (by decide) (part_one agg3 rfl) (part_one agg3 rfl) (eqA_int agk3) eqFs_nil)))))) rfl ?_
      refine DrawG.sync ?_
      refine DrawG.nil ?_
      rcases btf ((!((x23.A == x24.A) && ((x23.B == x24.B) && ((x23.Loud == x24.Loud) && true))))) with hc25 | hc25
      · have h := bif_t hc25 h
        refine Run.condT' rfl hc25 ?_
        refine Run.seq (Run.region ?_)
        refine Run.opG wantS_none (ex_assign rfl) rfl ?_
        refine Run.opsEnd ?_
        cases h
        exact Run.ret Try.func19 rfl (res_tmp rfl res_nil) rfl
      · have h := bif_f hc25 h
        refine Run.condF' rfl hc25 ?_
        refine Run.skip (Run.inBlock (Run.region ?_))
        refine Run.opG wantS_none (ex_move rfl) rfl ?_
        refine Run.opG wantS_none (ex_add rfl rfl) rfl ?_
        refine Run.opG wantS_none (ex_assign rfl) rfl ?_
        refine Run.opsEnd (Run.inLoop ?_)
        exact Run.pick [0, 1, 5] (ih v0 v1 (w64 (v5 + (1 : Int))) sv0 sv1 _ _ _ hv0 hv1 hH h)
    · have h := bif_f hc22 h
      refine Run.condF' rfl hc22 ?_
      refine Run.exit rfl (Run.seq (Run.region ?_))
      refine Run.opG wantS_none (ex_assign rfl) rfl ?_
      refine Run.opsEnd ?_
      cases h
      exact Run.ret Try.func19 rfl (res_tmp rfl res_nil) rfl

def law08_pairs (F : Nat) (a0 : (List S_api_Pair)) (a1 : (List S_api_Pair)) : Option (Bool) :=
  bif (!((a0.length : Int) == (a1.length : Int))) then
    some false
  else
    law08_pairs_1 F F a0 a1 (0 : Int)

theorem law08_pairs_ok (F : Nat) (a0 : (List S_api_Pair)) (a1 : (List S_api_Pair)) (s0 s1 : SV) (r : Bool) (M : Mem) (hs0 : Slc (rd M) 3 (FlatR enc71) s0 a0) (hs1 : Slc (rd M) 3 (FlatR enc71) s1 a1) (h : law08_pairs F a0 a1 = some r) : CallsM Try.prog 19 [s0, s1] M (fun s M' => s = (.bool r) ∧ M' = M) := by
  refine CallsM.plain Try.func19 rfl rfl rfl (show Run _ _ _ (law08_pairs_post r) _ _ _ from ?_)
  rw [law08_pairs] at h
  replace hs0 := hs0.mono (rdLe_frozen M) (fun _ _ h => h)
  replace hs1 := hs1.mono (rdLe_frozen M) (fun _ _ h => h)
  have hH := Has.nil (frozen M)
  refine Run.seq (Run.region ?_)
  refine Run.opG wantS_none (ex_assign rfl) rfl ?_
  refine Run.opsEnd (Run.seq (Run.seq (Run.region ?_)))
  refine Run.opG wantS_none (ex_move rfl) rfl ?_
  refine Run.opG wantS_none (ex_len' rfl hs0 lenk27) rfl ?_
  refine Run.opG wantS_none (ex_move rfl) rfl ?_
  refine Run.opG wantS_none (ex_len' rfl hs1 lenk27) rfl ?_
  refine Run.opG wantS_none (ex_neq rfl rfl) rfl ?_
  refine Run.opsEnd ?_
  rcases btf ((!((a0.length : Int) == (a1.length : Int)))) with hc21 | hc21
  · have h := bif_t hc21 h
    refine Run.condT' rfl hc21 ?_
    refine Run.seq (Run.region ?_)
    refine Run.opG wantS_none (ex_assign rfl) rfl ?_
    refine Run.opsEnd ?_
    cases h
    exact Run.ret Try.func19 rfl (res_tmp rfl res_nil) rfl
  · have h := bif_f hc21 h
    refine Run.condF' rfl hc21 ?_
    refine Run.skip (Run.seq (Run.seq (Run.region ?_)))
    refine Run.opG wantS_none (ex_assign rfl) rfl ?_
    refine Run.opsEnd (Run.block (Run.loop ?_))
    exact Run.pick [0, 1, 5] (law08_pairs_1_ok F F a0 a1 (0 : Int) s0 s1 _ _ _ hs0 hs1 hH h)

theorem mkk19 : makeK Try.prog 19 = none := by kernel_rfl
theorem cal19 : callable Try.prog 19 = true := by kernel_rfl
theorem zer3 : zerosOf Try.prog 3 = some [(.int .i64 0)] := by kernel_rfl
theorem sz3 : szOf Try.prog 3 = some 1 := by kernel_rfl
theorem off71_2 : fieldOff Try.prog 71 2 = some 2 := by kernel_rfl
abbrev search_clock_loudest_post (r : Int) : SV → Mem → Prop := fun s _ => s = (.int .i64 r)

def search_clock_loudest_4 (F : Nat) (hd2 : Int → (List S_api_Trigger) → Int → Int → (List S_api_Trigger) → Int → Int → Int → Int → (List S_api_Trigger) → (List S_api_Trigger) → S_search_clock → S_api_Trigger → Option (Int)) (v5 : Int) (v10 : (List S_api_Trigger)) (v11 : Int) (v12 : Int) (v17 : (List S_api_Trigger)) (v18 : Int) (v19 : Int) (v53 : Bool) (v6_g37 : Int) (c25_0 : Int) (c32_0 : (List S_api_Trigger)) (c35_0 : (List S_api_Trigger)) (c29 : S_search_clock) (c43 : S_api_Trigger) : Option (Int) :=
  bif v53 then
    some c25_0
  else
    hd2 v5 v10 v11 v12 v17 v18 (w64 (v19 + (1 : Int))) v6_g37 c25_0 c32_0 c35_0 c29 c43

theorem search_clock_loudest_4_ok (F : Nat) (hd2 : Int → (List S_api_Trigger) → Int → Int → (List S_api_Trigger) → Int → Int → Int → Int → (List S_api_Trigger) → (List S_api_Trigger) → S_search_clock → S_api_Trigger → Option (Int)) (hhd2 : ∀ (v5 : Int) (v10 : (List S_api_Trigger)) (v11 : Int) (v12 : Int) (v17 : (List S_api_Trigger)) (v18 : Int) (v19 : Int) (v6_g37 : Int) (c25_0 : Int) (c32_0 : (List S_api_Trigger)) (c35_0 : (List S_api_Trigger)) (c29 : S_search_clock) (c43 : S_api_Trigger) (sv10 : SV) (sv17 : SV) (sc32_0 : SV) (sc35_0 : SV) (b37 : Pos) (b25 : Pos) (b32 : Pos) (b35 : Pos) (b29 : Pos) (b38 : Pos) (b43 : Pos) (Fr : Rd) (M : Mem) (r : Int) (hv10 : Slc Fr 3 (FlatR enc76) sv10 v10) (hv17 : Slc Fr 3 (FlatR enc76) sv17 v17) (hc32_0 : Slc Fr 3 (FlatR enc76) sc32_0 c32_0) (hc35_0 : Slc Fr 3 (FlatR enc76) sc35_0 c35_0) (hH : Has Fr M [.obj b37 (.loop ⟨.ready, none, 60, 19, treeOf [(6, (.int .i64 v6_g37)), (7, (.ptr b25 0)), (12, (.fn (.func 105) [] [(.ptr b32 0), (.ptr b35 0), (.ptr b29 0)]))], [13], (atC Try.prog 60 [1, 1, 0, 1, 0, 0]), (atC Try.prog 60 [1, 1, 0, 1, 0, 1]), b38⟩), .obj b25 (.row 3 .whole [(.int .i64 c25_0)]), .obj b32 (.row 22 .whole [sc32_0]), .obj b35 (.row 22 .whole [sc35_0]), .obj b29 (.row 87 .whole [(.int .i64 c29.live), (.int .i64 c29.window), (.int .i64 c29.step)]), .obj b38 .defd, .obj b43 (.row 76 .whole [(.int .i64 c43.Time), (.int .i64 c43.Loud), (.int .i64 c43.Template)])]), hd2 v5 v10 v11 v12 v17 v18 v19 v6_g37 c25_0 c32_0 c35_0 c29 c43 = some r → Run Try.prog ⟨⟨105, [], none⟩, [.mk ⟨60, [b38], none⟩ 19 (treeOf [(7, (.ptr b25 0))]) [.inRange b37, .inBlock 0, codeC Try.prog 60 [1, 1, 1]]]⟩ 56 (search_clock_loudest_post r) [(0, (.yield b37)), (2, (.ptr b35 0)), (3, (.ptr b29 0)), (5, (.int .i64 v5)), (6, (.ptr b43 0)), (10, sv10), (11, (.int .i64 v11)), (12, (.int .i64 v12)), (17, sv17), (18, (.int .i64 v18)), (19, (.int .i64 v19))] [codeC Try.prog 105 [1, 0, 0, 1, 1, 0, 0, 1, 1, 0, 0], loopC Try.prog 105 [1, 0, 0, 1, 1, 0, 0, 1, 1, 0, 0], .inBlock 2, .inBlock 1, codeC Try.prog 105 [1, 0, 0, 1, 1, 1], loopC Try.prog 105 [1, 0, 0], .inBlock 0] M) : ∀ (v5 : Int) (v10 : (List S_api_Trigger)) (v11 : Int) (v12 : Int) (v17 : (List S_api_Trigger)) (v18 : Int) (v19 : Int) (v53 : Bool) (v6_g37 : Int) (c25_0 : Int) (c32_0 : (List S_api_Trigger)) (c35_0 : (List S_api_Trigger)) (c29 : S_search_clock) (c43 : S_api_Trigger) (sv10 : SV) (sv17 : SV) (sc32_0 : SV) (sc35_0 : SV) (b37 : Pos) (b25 : Pos) (b32 : Pos) (b35 : Pos) (b29 : Pos) (b38 : Pos) (b43 : Pos) (Fr : Rd) (M : Mem) (r : Int) (hv10 : Slc Fr 3 (FlatR enc76) sv10 v10) (hv17 : Slc Fr 3 (FlatR enc76) sv17 v17) (hc32_0 : Slc Fr 3 (FlatR enc76) sc32_0 c32_0) (hc35_0 : Slc Fr 3 (FlatR enc76) sc35_0 c35_0) (hH : Has Fr M [.obj b37 (.loop ⟨.ready, none, 60, 19, treeOf [(6, (.int .i64 v6_g37)), (7, (.ptr b25 0)), (12, (.fn (.func 105) [] [(.ptr b32 0), (.ptr b35 0), (.ptr b29 0)]))], [13], (atC Try.prog 60 [1, 1, 0, 1, 0, 0]), (atC Try.prog 60 [1, 1, 0, 1, 0, 1]), b38⟩), .obj b25 (.row 3 .whole [(.int .i64 c25_0)]), .obj b32 (.row 22 .whole [sc32_0]), .obj b35 (.row 22 .whole [sc35_0]), .obj b29 (.row 87 .whole [(.int .i64 c29.live), (.int .i64 c29.window), (.int .i64 c29.step)]), .obj b38 .defd, .obj b43 (.row 76 .whole [(.int .i64 c43.Time), (.int .i64 c43.Loud), (.int .i64 c43.Template)])]), search_clock_loudest_4 F hd2 v5 v10 v11 v12 v17 v18 v19 v53 v6_g37 c25_0 c32_0 c35_0 c29 c43 = some r → Run Try.prog ⟨⟨105, [], none⟩, [.mk ⟨60, [b38], none⟩ 19 (treeOf [(7, (.ptr b25 0))]) [.inRange b37, .inBlock 0, codeC Try.prog 60 [1, 1, 1]]]⟩ 56 (search_clock_loudest_post r) [(0, (.yield b37)), (2, (.ptr b35 0)), (3, (.ptr b29 0)), (5, (.int .i64 v5)), (6, (.ptr b43 0)), (10, sv10), (11, (.int .i64 v11)), (12, (.int .i64 v12)), (17, sv17), (18, (.int .i64 v18)), (19, (.int .i64 v19)), (53, (.bool v53))] [codeC Try.prog 105 [1, 0, 0, 1, 1, 0, 0, 1, 1, 0, 0, 1, 1, 0, 0, 1, 1, 1], .inBlock 3, codeC Try.prog 105 [1, 0, 0, 1, 1, 0, 0, 1, 1, 0, 0, 1, 1, 1], loopC Try.prog 105 [1, 0, 0, 1, 1, 0, 0, 1, 1, 0, 0], .inBlock 2, .inBlock 1, codeC Try.prog 105 [1, 0, 0, 1, 1, 1], loopC Try.prog 105 [1, 0, 0], .inBlock 0] M := by
  intro v5 v10 v11 v12 v17 v18 v19 v53 v6_g37 c25_0 c32_0 c35_0 c29 c43 sv10 sv17 sc32_0 sc35_0 b37 b25 b32 b35 b29 b38 b43 Fr M r hv10 hv17 hc32_0 hc35_0 hH h
  rw [search_clock_loudest_4] at h
  rcases btf (v53) with hc64 | hc64
  · have h := bif_t hc64 h
    refine Run.condT' rfl hc64 ?_
    refine Run.retRange Try.func105 rfl res_nil ?_
    refine Run.endX hH (i := 0) rfl (fun hc => by cases hc) ?_
    intro M65 (hH65 : Has Fr M65 [.obj b37 (.loop ⟨.exhausted, none, 60, 19, treeOf [(6, (.int .i64 v6_g37)), (7, (.ptr b25 0)), (12, (.fn (.func 105) [] [(.ptr b32 0), (.ptr b35 0), (.ptr b29 0)]))], [13], (atC Try.prog 60 [1, 1, 0, 1, 0, 0]), (atC Try.prog 60 [1, 1, 0, 1, 0, 1]), b38⟩), .obj b25 (.row 3 .whole [(.int .i64 c25_0)]), .obj b32 (.row 22 .whole [sc32_0]), .obj b35 (.row 22 .whole [sc35_0]), .obj b29 (.row 87 .whole [(.int .i64 c29.live), (.int .i64 c29.window), (.int .i64 c29.step)]), .obj b38 .defd, .obj b43 (.row 76 .whole [(.int .i64 c43.Time), (.int .i64 c43.Loud), (.int .i64 c43.Template)])])
    refine Run.inBlock (Run.seq (Run.region ?_))
    refine Run.opG wantS_none (ex_load1 rfl (hH65.cells (i := 1) rfl 0 rfl) rdLe_rfl agg3) rfl ?_
    refine Run.opG wantS_none (ex_assign rfl) rfl ?_
    refine Run.opsEnd ?_
    obtain ⟨hH66x, hS66⟩ := hH65.shut (i := 5) (ds := []) rfl
    have hH66 : Has Fr (setT M65 b38 none) [.obj b37 (.loop ⟨.exhausted, none, 60, 19, treeOf [(6, (.int .i64 v6_g37)), (7, (.ptr b25 0)), (12, (.fn (.func 105) [] [(.ptr b32 0), (.ptr b35 0), (.ptr b29 0)]))], [13], (atC Try.prog 60 [1, 1, 0, 1, 0, 0]), (atC Try.prog 60 [1, 1, 0, 1, 0, 1]), b38⟩), .obj b25 (.row 3 .whole [(.int .i64 c25_0)]), .obj b32 (.row 22 .whole [sc32_0]), .obj b35 (.row 22 .whole [sc35_0]), .obj b29 (.row 87 .whole [(.int .i64 c29.live), (.int .i64 c29.window), (.int .i64 c29.step)]), .vec 0 0 0 .nils [], .obj b43 (.row 76 .whole [(.int .i64 c43.Time), (.int .i64 c43.Loud), (.int .i64 c43.Template)])] := hH66x
    cases h
    exact Run.ret Try.func60 (hS66 _ rfl) (res_tmp rfl res_nil) rfl
  · have h := bif_f hc64 h
    refine Run.condF' rfl hc64 ?_
    refine Run.skip (Run.inBlock (Run.region ?_))
    refine Run.opG wantS_none (ex_add rfl rfl) rfl ?_
    refine Run.opG wantS_none (ex_move rfl) rfl ?_
    refine Run.opsEnd (Run.inLoop ?_)
    exact Run.low (.cons (fle_pick [7] rfl) .nil) (Run.pick [0, 2, 3, 5, 6, 10, 11, 12, 17, 18, 19] (hhd2 v5 v10 v11 v12 v17 v18 (w64 (v19 + (1 : Int))) v6_g37 c25_0 c32_0 c35_0 c29 c43 sv10 sv17 sc32_0 sc35_0 b37 b25 b32 b35 b29 b38 b43 _ _ _ hv10 hv17 hc32_0 hc35_0 hH h))

def search_clock_loudest_3 (F : Nat) (hd2 : Int → (List S_api_Trigger) → Int → Int → (List S_api_Trigger) → Int → Int → Int → Int → (List S_api_Trigger) → (List S_api_Trigger) → S_search_clock → S_api_Trigger → Option (Int)) (v5 : Int) (v7 : Int) (v9 : Bool) (v10 : (List S_api_Trigger)) (v11 : Int) (v12 : Int) (v17 : (List S_api_Trigger)) (v18 : Int) (v19 : Int) (v6_g37 : Int) (c25_0 : Int) (c32_0 : (List S_api_Trigger)) (c35_0 : (List S_api_Trigger)) (c29 : S_search_clock) (c43 : S_api_Trigger) (c50 : S_api_Trigger) : Option (Int) :=
  bif v9 then
    search_clock_loudest_4 F hd2 v5 v10 v11 v12 v17 v18 v19 (!true) v6_g37 (max c25_0 (w64 (c43.Loud + c50.Loud))) c32_0 c35_0 c29 c43
  else
    search_clock_loudest_4 F hd2 v5 v10 v11 v12 v17 v18 v19 false v6_g37 c25_0 c32_0 c35_0 c29 c43

theorem search_clock_loudest_3_ok (F : Nat) (hd2 : Int → (List S_api_Trigger) → Int → Int → (List S_api_Trigger) → Int → Int → Int → Int → (List S_api_Trigger) → (List S_api_Trigger) → S_search_clock → S_api_Trigger → Option (Int)) (hhd2 : ∀ (v5 : Int) (v10 : (List S_api_Trigger)) (v11 : Int) (v12 : Int) (v17 : (List S_api_Trigger)) (v18 : Int) (v19 : Int) (v6_g37 : Int) (c25_0 : Int) (c32_0 : (List S_api_Trigger)) (c35_0 : (List S_api_Trigger)) (c29 : S_search_clock) (c43 : S_api_Trigger) (sv10 : SV) (sv17 : SV) (sc32_0 : SV) (sc35_0 : SV) (b37 : Pos) (b25 : Pos) (b32 : Pos) (b35 : Pos) (b29 : Pos) (b38 : Pos) (b43 : Pos) (Fr : Rd) (M : Mem) (r : Int) (hv10 : Slc Fr 3 (FlatR enc76) sv10 v10) (hv17 : Slc Fr 3 (FlatR enc76) sv17 v17) (hc32_0 : Slc Fr 3 (FlatR enc76) sc32_0 c32_0) (hc35_0 : Slc Fr 3 (FlatR enc76) sc35_0 c35_0) (hH : Has Fr M [.obj b37 (.loop ⟨.ready, none, 60, 19, treeOf [(6, (.int .i64 v6_g37)), (7, (.ptr b25 0)), (12, (.fn (.func 105) [] [(.ptr b32 0), (.ptr b35 0), (.ptr b29 0)]))], [13], (atC Try.prog 60 [1, 1, 0, 1, 0, 0]), (atC Try.prog 60 [1, 1, 0, 1, 0, 1]), b38⟩), .obj b25 (.row 3 .whole [(.int .i64 c25_0)]), .obj b32 (.row 22 .whole [sc32_0]), .obj b35 (.row 22 .whole [sc35_0]), .obj b29 (.row 87 .whole [(.int .i64 c29.live), (.int .i64 c29.window), (.int .i64 c29.step)]), .obj b38 .defd, .obj b43 (.row 76 .whole [(.int .i64 c43.Time), (.int .i64 c43.Loud), (.int .i64 c43.Template)])]), hd2 v5 v10 v11 v12 v17 v18 v19 v6_g37 c25_0 c32_0 c35_0 c29 c43 = some r → Run Try.prog ⟨⟨105, [], none⟩, [.mk ⟨60, [b38], none⟩ 19 (treeOf [(7, (.ptr b25 0))]) [.inRange b37, .inBlock 0, codeC Try.prog 60 [1, 1, 1]]]⟩ 56 (search_clock_loudest_post r) [(0, (.yield b37)), (2, (.ptr b35 0)), (3, (.ptr b29 0)), (5, (.int .i64 v5)), (6, (.ptr b43 0)), (10, sv10), (11, (.int .i64 v11)), (12, (.int .i64 v12)), (17, sv17), (18, (.int .i64 v18)), (19, (.int .i64 v19))] [codeC Try.prog 105 [1, 0, 0, 1, 1, 0, 0, 1, 1, 0, 0], loopC Try.prog 105 [1, 0, 0, 1, 1, 0, 0, 1, 1, 0, 0], .inBlock 2, .inBlock 1, codeC Try.prog 105 [1, 0, 0, 1, 1, 1], loopC Try.prog 105 [1, 0, 0], .inBlock 0] M) : ∀ (v5 : Int) (v7 : Int) (v9 : Bool) (v10 : (List S_api_Trigger)) (v11 : Int) (v12 : Int) (v17 : (List S_api_Trigger)) (v18 : Int) (v19 : Int) (v6_g37 : Int) (c25_0 : Int) (c32_0 : (List S_api_Trigger)) (c35_0 : (List S_api_Trigger)) (c29 : S_search_clock) (c43 : S_api_Trigger) (c50 : S_api_Trigger) (sv10 : SV) (sv17 : SV) (sc32_0 : SV) (sc35_0 : SV) (b37 : Pos) (b25 : Pos) (b32 : Pos) (b35 : Pos) (b29 : Pos) (b38 : Pos) (b43 : Pos) (b50 : Pos) (Fr : Rd) (M : Mem) (r : Int) (hv10 : Slc Fr 3 (FlatR enc76) sv10 v10) (hv17 : Slc Fr 3 (FlatR enc76) sv17 v17) (hc32_0 : Slc Fr 3 (FlatR enc76) sc32_0 c32_0) (hc35_0 : Slc Fr 3 (FlatR enc76) sc35_0 c35_0) (hH : Has Fr M [.obj b37 (.loop ⟨.ready, none, 60, 19, treeOf [(6, (.int .i64 v6_g37)), (7, (.ptr b25 0)), (12, (.fn (.func 105) [] [(.ptr b32 0), (.ptr b35 0), (.ptr b29 0)]))], [13], (atC Try.prog 60 [1, 1, 0, 1, 0, 0]), (atC Try.prog 60 [1, 1, 0, 1, 0, 1]), b38⟩), .obj b25 (.row 3 .whole [(.int .i64 c25_0)]), .obj b32 (.row 22 .whole [sc32_0]), .obj b35 (.row 22 .whole [sc35_0]), .obj b29 (.row 87 .whole [(.int .i64 c29.live), (.int .i64 c29.window), (.int .i64 c29.step)]), .obj b38 .defd, .obj b43 (.row 76 .whole [(.int .i64 c43.Time), (.int .i64 c43.Loud), (.int .i64 c43.Template)]), .obj b50 (.row 76 .whole [(.int .i64 c50.Time), (.int .i64 c50.Loud), (.int .i64 c50.Template)])]), search_clock_loudest_3 F hd2 v5 v7 v9 v10 v11 v12 v17 v18 v19 v6_g37 c25_0 c32_0 c35_0 c29 c43 c50 = some r → Run Try.prog ⟨⟨105, [], none⟩, [.mk ⟨60, [b38], none⟩ 19 (treeOf [(7, (.ptr b25 0))]) [.inRange b37, .inBlock 0, codeC Try.prog 60 [1, 1, 1]]]⟩ 56 (search_clock_loudest_post r) [(0, (.yield b37)), (2, (.ptr b35 0)), (3, (.ptr b29 0)), (5, (.int .i64 v5)), (6, (.ptr b43 0)), (7, (.int .i64 v7)), (8, (.ptr b50 0)), (9, (.bool v9)), (10, sv10), (11, (.int .i64 v11)), (12, (.int .i64 v12)), (17, sv17), (18, (.int .i64 v18)), (19, (.int .i64 v19))] [itemC Try.prog 105 [1, 0, 0, 1, 1, 0, 0, 1, 1, 0, 0, 1, 1, 0, 0, 1, 1, 0] 0, codeC Try.prog 105 [1, 0, 0, 1, 1, 0, 0, 1, 1, 0, 0, 1, 1, 0, 0, 1, 1, 1], .inBlock 3, codeC Try.prog 105 [1, 0, 0, 1, 1, 0, 0, 1, 1, 0, 0, 1, 1, 1], loopC Try.prog 105 [1, 0, 0, 1, 1, 0, 0, 1, 1, 0, 0], .inBlock 2, .inBlock 1, codeC Try.prog 105 [1, 0, 0, 1, 1, 1], loopC Try.prog 105 [1, 0, 0], .inBlock 0] M := by
  intro v5 v7 v9 v10 v11 v12 v17 v18 v19 v6_g37 c25_0 c32_0 c35_0 c29 c43 c50 sv10 sv17 sc32_0 sc35_0 b37 b25 b32 b35 b29 b38 b43 b50 Fr M r hv10 hv17 hc32_0 hc35_0 hH h
  rw [search_clock_loudest_3] at h
  refine Run.opG wantS_none (ex_move rfl) rfl ?_
  refine Run.opG wantS_none (ex_move rfl) rfl ?_
  rcases btf (v9) with hc56 | hc56
  · have h := bif_t hc56 h
    refine Run.opG (wantS_yes' rfl rfl hc56) (ex_move rfl) rfl ?_
    refine Run.opG (wantS_yes' rfl rfl hc56) (ex_move rfl) rfl ?_
    refine Run.opG (wantS_yes' rfl rfl hc56) (ex_move rfl) rfl ?_
    refine Run.opG (wantS_yes' rfl rfl hc56) (ex_fieldAddr rfl off76_1) rfl ?_
    refine Run.opG (wantS_yes' rfl rfl hc56) (ex_load1 rfl (hH.cells (i := 6) rfl 1 rfl) rdLe_rfl agg3) rfl ?_
    refine Run.opG (wantS_yes' rfl rfl hc56) (ex_fieldAddr rfl off76_1) rfl ?_
    refine Run.opG (wantS_yes' rfl rfl hc56) (ex_load1 rfl (hH.cells (i := 7) rfl 1 rfl) rdLe_rfl agg3) rfl ?_
    refine Run.opG (wantS_yes' rfl rfl hc56) (ex_add rfl rfl) rfl ?_
    refine Run.opG (wantS_yes' rfl rfl hc56) (ex_build (r := [(.int .i64 v5), (.int .i64 v7), (.int .i64 (w64 (c43.Loud + c50.Loud)))]) rfl zer71 pls71 rfl) rfl ?_
    refine Run.round (e' := [(13, (.agg [(.int .i64 v5), (.int .i64 v7), (.int .i64 (w64 (c43.Loud + c50.Loud)))])), (6, (.int .i64 v6_g37)), (7, (.ptr b25 0)), (12, (.fn (.func 105) [] [(.ptr b32 0), (.ptr b35 0), (.ptr b29 0)]))]) (wantS_yes' rfl rfl hc56) (ex_yield hH (i := 0) rfl rfl rfl rfl) (hH.loopOf (i := 0) rfl) rfl ?_
    refine Run.region ?_
    refine Run.opX wantS_none rfl (ExG.new (v := fun b => .ptr b 0) (ex_alloc zer71) hH) ?_
    rintro _ M59 ⟨b58, rfl, (hH59 : Has Fr M59 [.obj b58 (.row 71 .whole [(.int .i64 0), (.int .i64 0), (.int .i64 0)]), .obj b37 (.loop ⟨.ready, none, 60, 19, treeOf [(6, (.int .i64 v6_g37)), (7, (.ptr b25 0)), (12, (.fn (.func 105) [] [(.ptr b32 0), (.ptr b35 0), (.ptr b29 0)]))], [13], (atC Try.prog 60 [1, 1, 0, 1, 0, 0]), (atC Try.prog 60 [1, 1, 0, 1, 0, 1]), b38⟩), .obj b25 (.row 3 .whole [(.int .i64 c25_0)]), .obj b32 (.row 22 .whole [sc32_0]), .obj b35 (.row 22 .whole [sc35_0]), .obj b29 (.row 87 .whole [(.int .i64 c29.live), (.int .i64 c29.window), (.int .i64 c29.step)]), .obj b38 .defd, .obj b43 (.row 76 .whole [(.int .i64 c43.Time), (.int .i64 c43.Loud), (.int .i64 c43.Template)]), .obj b50 (.row 76 .whole [(.int .i64 c50.Time), (.int .i64 c50.Loud), (.int .i64 c50.Template)])])⟩
    refine Run.opX wantS_none rfl (ExG.storeC (c' := [(.int .i64 v5), (.int .i64 v7), (.int .i64 (w64 (c43.Loud + c50.Loud)))]) rfl rfl rfl hH59 (i := 0) rfl sz71 rfl rfl rfl rfl rfl) ?_
    rintro _ M60 ⟨rfl, (hH60 : Has Fr M60 [.obj b58 (.row 71 .whole [(.int .i64 v5), (.int .i64 v7), (.int .i64 (w64 (c43.Loud + c50.Loud)))]), .obj b37 (.loop ⟨.ready, none, 60, 19, treeOf [(6, (.int .i64 v6_g37)), (7, (.ptr b25 0)), (12, (.fn (.func 105) [] [(.ptr b32 0), (.ptr b35 0), (.ptr b29 0)]))], [13], (atC Try.prog 60 [1, 1, 0, 1, 0, 0]), (atC Try.prog 60 [1, 1, 0, 1, 0, 1]), b38⟩), .obj b25 (.row 3 .whole [(.int .i64 c25_0)]), .obj b32 (.row 22 .whole [sc32_0]), .obj b35 (.row 22 .whole [sc35_0]), .obj b29 (.row 87 .whole [(.int .i64 c29.live), (.int .i64 c29.window), (.int .i64 c29.step)]), .obj b38 .defd, .obj b43 (.row 76 .whole [(.int .i64 c43.Time), (.int .i64 c43.Loud), (.int .i64 c43.Template)]), .obj b50 (.row 76 .whole [(.int .i64 c50.Time), (.int .i64 c50.Loud), (.int .i64 c50.Template)])])⟩
    refine Run.opsEnd ?_
    refine Run.beginX hH60 (i := 1) rfl rfl ?_
    intro M61 (hH61 : Has Fr M61 [.obj b58 (.row 71 .whole [(.int .i64 v5), (.int .i64 v7), (.int .i64 (w64 (c43.Loud + c50.Loud)))]), .obj b37 (.loop ⟨.busy, none, 60, 19, treeOf [(6, (.int .i64 v6_g37)), (7, (.ptr b25 0)), (12, (.fn (.func 105) [] [(.ptr b32 0), (.ptr b35 0), (.ptr b29 0)]))], [13], (atC Try.prog 60 [1, 1, 0, 1, 0, 0]), (atC Try.prog 60 [1, 1, 0, 1, 0, 1]), b38⟩), .obj b25 (.row 3 .whole [(.int .i64 c25_0)]), .obj b32 (.row 22 .whole [sc32_0]), .obj b35 (.row 22 .whole [sc35_0]), .obj b29 (.row 87 .whole [(.int .i64 c29.live), (.int .i64 c29.window), (.int .i64 c29.step)]), .obj b38 .defd, .obj b43 (.row 76 .whole [(.int .i64 c43.Time), (.int .i64 c43.Loud), (.int .i64 c43.Template)]), .obj b50 (.row 76 .whole [(.int .i64 c50.Time), (.int .i64 c50.Loud), (.int .i64 c50.Template)])])
    refine Run.block (Run.region ?_)
    refine Run.opG wantS_none (ex_load1 rfl (hH61.cells (i := 2) rfl 0 rfl) rdLe_rfl agg3) rfl ?_
    refine Run.opG wantS_none (ex_fieldAddr rfl off71_2) rfl ?_
    refine Run.opG wantS_none (ex_load1 rfl (hH61.cells (i := 0) rfl 2 rfl) rdLe_rfl agg3) rfl ?_
    refine Run.opG wantS_none (ex_max rfl rfl) rfl ?_
    refine Run.opX wantS_none rfl (ExG.storeC (c' := [(.int .i64 (max c25_0 (w64 (c43.Loud + c50.Loud))))]) rfl rfl rfl hH61 (i := 2) rfl sz3 rfl rfl rfl rfl rfl) ?_
    rintro _ M62 ⟨rfl, (hH62 : Has Fr M62 [.obj b58 (.row 71 .whole [(.int .i64 v5), (.int .i64 v7), (.int .i64 (w64 (c43.Loud + c50.Loud)))]), .obj b37 (.loop ⟨.busy, none, 60, 19, treeOf [(6, (.int .i64 v6_g37)), (7, (.ptr b25 0)), (12, (.fn (.func 105) [] [(.ptr b32 0), (.ptr b35 0), (.ptr b29 0)]))], [13], (atC Try.prog 60 [1, 1, 0, 1, 0, 0]), (atC Try.prog 60 [1, 1, 0, 1, 0, 1]), b38⟩), .obj b25 (.row 3 .whole [(.int .i64 (max c25_0 (w64 (c43.Loud + c50.Loud))))]), .obj b32 (.row 22 .whole [sc32_0]), .obj b35 (.row 22 .whole [sc35_0]), .obj b29 (.row 87 .whole [(.int .i64 c29.live), (.int .i64 c29.window), (.int .i64 c29.step)]), .obj b38 .defd, .obj b43 (.row 76 .whole [(.int .i64 c43.Time), (.int .i64 c43.Loud), (.int .i64 c43.Template)]), .obj b50 (.row 76 .whole [(.int .i64 c50.Time), (.int .i64 c50.Loud), (.int .i64 c50.Template)])])⟩
    refine Run.opsEnd (Run.inBlock ?_)
    refine Run.roundEndX hH62 (i := 1) rfl rfl ?_
    intro M63 (hH63 : Has Fr M63 [.obj b58 (.row 71 .whole [(.int .i64 v5), (.int .i64 v7), (.int .i64 (w64 (c43.Loud + c50.Loud)))]), .obj b37 (.loop ⟨.ready, none, 60, 19, treeOf [(6, (.int .i64 v6_g37)), (7, (.ptr b25 0)), (12, (.fn (.func 105) [] [(.ptr b32 0), (.ptr b35 0), (.ptr b29 0)]))], [13], (atC Try.prog 60 [1, 1, 0, 1, 0, 0]), (atC Try.prog 60 [1, 1, 0, 1, 0, 1]), b38⟩), .obj b25 (.row 3 .whole [(.int .i64 (max c25_0 (w64 (c43.Loud + c50.Loud))))]), .obj b32 (.row 22 .whole [sc32_0]), .obj b35 (.row 22 .whole [sc35_0]), .obj b29 (.row 87 .whole [(.int .i64 c29.live), (.int .i64 c29.window), (.int .i64 c29.step)]), .obj b38 .defd, .obj b43 (.row 76 .whole [(.int .i64 c43.Time), (.int .i64 c43.Loud), (.int .i64 c43.Template)]), .obj b50 (.row 76 .whole [(.int .i64 c50.Time), (.int .i64 c50.Loud), (.int .i64 c50.Template)])])
    refine Run.opG (wantS_yes' rfl rfl hc56) (ex_not rfl) rfl ?_
    refine Run.opG wantS_none (ex_pickT' rfl hc56 rfl rfl) rfl ?_
    refine Run.opsEnd ?_
    exact Run.low (.cons (fle_pick [7] rfl) .nil) (Run.pick [0, 2, 3, 5, 6, 10, 11, 12, 17, 18, 19, 53] (search_clock_loudest_4_ok F hd2 hhd2 v5 v10 v11 v12 v17 v18 v19 (!true) v6_g37 (max c25_0 (w64 (c43.Loud + c50.Loud))) c32_0 c35_0 c29 c43 sv10 sv17 sc32_0 sc35_0 b37 b25 b32 b35 b29 b38 b43 _ _ _ hv10 hv17 hc32_0 hc35_0 (hH63.pick [1, 2, 3, 4, 5, 6, 7] rfl rfl) h))
  · have h := bif_f hc56 h
    refine Run.no (wantS_not' rfl rfl hc56) rfl ?_
    refine Run.no (wantS_not' rfl rfl hc56) rfl ?_
    refine Run.no (wantS_not' rfl rfl hc56) rfl ?_
    refine Run.no (wantS_not' rfl rfl hc56) rfl ?_
    refine Run.no (wantS_not' rfl rfl hc56) rfl ?_
    refine Run.no (wantS_not' rfl rfl hc56) rfl ?_
    refine Run.no (wantS_not' rfl rfl hc56) rfl ?_
    refine Run.no (wantS_not' rfl rfl hc56) rfl ?_
    refine Run.no (wantS_not' rfl rfl hc56) rfl ?_
    refine Run.no (wantS_not' rfl rfl hc56) rfl ?_
    refine Run.no (wantS_not' rfl rfl hc56) rfl ?_
    refine Run.opG wantS_none (ex_pickF' rfl hc56 rfl rfl) rfl ?_
    refine Run.opsEnd ?_
    exact Run.low (.cons (fle_pick [7] rfl) .nil) (Run.pick [0, 2, 3, 5, 6, 10, 11, 12, 17, 18, 19, 53] (search_clock_loudest_4_ok F hd2 hhd2 v5 v10 v11 v12 v17 v18 v19 false v6_g37 c25_0 c32_0 c35_0 c29 c43 sv10 sv17 sc32_0 sc35_0 b37 b25 b32 b35 b29 b38 b43 _ _ _ hv10 hv17 hc32_0 hc35_0 (hH.pick [0, 1, 2, 3, 4, 5, 6] rfl rfl) h))

def search_clock_loudest_2 (F : Nat) (hd1 : (List S_api_Trigger) → Int → Int → Int → Int → (List S_api_Trigger) → (List S_api_Trigger) → S_search_clock → Option (Int)) : Nat → Int → (List S_api_Trigger) → Int → Int → (List S_api_Trigger) → Int → Int → Int → Int → (List S_api_Trigger) → (List S_api_Trigger) → S_search_clock → S_api_Trigger → Option (Int)
  | 0, _, _, _, _, _, _, _, _, _, _, _, _, _ => none
  | N + 1, v5, v10, v11, v12, v17, v18, v19, v6_g37, c25_0, c32_0, c35_0, c29, c43 =>
    bif (decide (v19 < v18)) then
      bnd (idx v17 v19) fun x48 =>
      bif (c43.Template == x48.Template) then
        bnd (search_clock_distance F c29 c43.Time x48.Time) fun r54 =>
        search_clock_loudest_3 F (search_clock_loudest_2 F hd1 N) v5 v19 (decide (r54 ≤ c29.window)) v10 v11 v12 v17 v18 v19 v6_g37 c25_0 c32_0 c35_0 c29 c43 x48
      else
        search_clock_loudest_3 F (search_clock_loudest_2 F hd1 N) v5 v19 false v10 v11 v12 v17 v18 v19 v6_g37 c25_0 c32_0 c35_0 c29 c43 x48
    else
      hd1 v10 v11 (w64 (v12 + (1 : Int))) v6_g37 c25_0 c32_0 c35_0 c29

theorem search_clock_loudest_2_ok (F : Nat) (hd1 : (List S_api_Trigger) → Int → Int → Int → Int → (List S_api_Trigger) → (List S_api_Trigger) → S_search_clock → Option (Int)) (hhd1 : ∀ (v10 : (List S_api_Trigger)) (v11 : Int) (v12 : Int) (v6_g37 : Int) (c25_0 : Int) (c32_0 : (List S_api_Trigger)) (c35_0 : (List S_api_Trigger)) (c29 : S_search_clock) (sv10 : SV) (sc32_0 : SV) (sc35_0 : SV) (b37 : Pos) (b25 : Pos) (b32 : Pos) (b35 : Pos) (b29 : Pos) (b38 : Pos) (Fr : Rd) (M : Mem) (r : Int) (hv10 : Slc Fr 3 (FlatR enc76) sv10 v10) (hc32_0 : Slc Fr 3 (FlatR enc76) sc32_0 c32_0) (hc35_0 : Slc Fr 3 (FlatR enc76) sc35_0 c35_0) (hH : Has Fr M [.obj b37 (.loop ⟨.ready, none, 60, 19, treeOf [(6, (.int .i64 v6_g37)), (7, (.ptr b25 0)), (12, (.fn (.func 105) [] [(.ptr b32 0), (.ptr b35 0), (.ptr b29 0)]))], [13], (atC Try.prog 60 [1, 1, 0, 1, 0, 0]), (atC Try.prog 60 [1, 1, 0, 1, 0, 1]), b38⟩), .obj b25 (.row 3 .whole [(.int .i64 c25_0)]), .obj b32 (.row 22 .whole [sc32_0]), .obj b35 (.row 22 .whole [sc35_0]), .obj b29 (.row 87 .whole [(.int .i64 c29.live), (.int .i64 c29.window), (.int .i64 c29.step)]), .obj b38 .defd]), hd1 v10 v11 v12 v6_g37 c25_0 c32_0 c35_0 c29 = some r → Run Try.prog ⟨⟨105, [], none⟩, [.mk ⟨60, [b38], none⟩ 19 (treeOf [(7, (.ptr b25 0))]) [.inRange b37, .inBlock 0, codeC Try.prog 60 [1, 1, 1]]]⟩ 56 (search_clock_loudest_post r) [(0, (.yield b37)), (2, (.ptr b35 0)), (3, (.ptr b29 0)), (10, sv10), (11, (.int .i64 v11)), (12, (.int .i64 v12))] [codeC Try.prog 105 [1, 0, 0], loopC Try.prog 105 [1, 0, 0], .inBlock 0] M) : ∀ (N : Nat), ∀ (v5 : Int) (v10 : (List S_api_Trigger)) (v11 : Int) (v12 : Int) (v17 : (List S_api_Trigger)) (v18 : Int) (v19 : Int) (v6_g37 : Int) (c25_0 : Int) (c32_0 : (List S_api_Trigger)) (c35_0 : (List S_api_Trigger)) (c29 : S_search_clock) (c43 : S_api_Trigger) (sv10 : SV) (sv17 : SV) (sc32_0 : SV) (sc35_0 : SV) (b37 : Pos) (b25 : Pos) (b32 : Pos) (b35 : Pos) (b29 : Pos) (b38 : Pos) (b43 : Pos) (Fr : Rd) (M : Mem) (r : Int) (hv10 : Slc Fr 3 (FlatR enc76) sv10 v10) (hv17 : Slc Fr 3 (FlatR enc76) sv17 v17) (hc32_0 : Slc Fr 3 (FlatR enc76) sc32_0 c32_0) (hc35_0 : Slc Fr 3 (FlatR enc76) sc35_0 c35_0) (hH : Has Fr M [.obj b37 (.loop ⟨.ready, none, 60, 19, treeOf [(6, (.int .i64 v6_g37)), (7, (.ptr b25 0)), (12, (.fn (.func 105) [] [(.ptr b32 0), (.ptr b35 0), (.ptr b29 0)]))], [13], (atC Try.prog 60 [1, 1, 0, 1, 0, 0]), (atC Try.prog 60 [1, 1, 0, 1, 0, 1]), b38⟩), .obj b25 (.row 3 .whole [(.int .i64 c25_0)]), .obj b32 (.row 22 .whole [sc32_0]), .obj b35 (.row 22 .whole [sc35_0]), .obj b29 (.row 87 .whole [(.int .i64 c29.live), (.int .i64 c29.window), (.int .i64 c29.step)]), .obj b38 .defd, .obj b43 (.row 76 .whole [(.int .i64 c43.Time), (.int .i64 c43.Loud), (.int .i64 c43.Template)])]), search_clock_loudest_2 F hd1 N v5 v10 v11 v12 v17 v18 v19 v6_g37 c25_0 c32_0 c35_0 c29 c43 = some r → Run Try.prog ⟨⟨105, [], none⟩, [.mk ⟨60, [b38], none⟩ 19 (treeOf [(7, (.ptr b25 0))]) [.inRange b37, .inBlock 0, codeC Try.prog 60 [1, 1, 1]]]⟩ 56 (search_clock_loudest_post r) [(0, (.yield b37)), (2, (.ptr b35 0)), (3, (.ptr b29 0)), (5, (.int .i64 v5)), (6, (.ptr b43 0)), (10, sv10), (11, (.int .i64 v11)), (12, (.int .i64 v12)), (17, sv17), (18, (.int .i64 v18)), (19, (.int .i64 v19))] [codeC Try.prog 105 [1, 0, 0, 1, 1, 0, 0, 1, 1, 0, 0], loopC Try.prog 105 [1, 0, 0, 1, 1, 0, 0, 1, 1, 0, 0], .inBlock 2, .inBlock 1, codeC Try.prog 105 [1, 0, 0, 1, 1, 1], loopC Try.prog 105 [1, 0, 0], .inBlock 0] M := by
  intro N
  induction N with
  | zero =>
    intro v5 v10 v11 v12 v17 v18 v19 v6_g37 c25_0 c32_0 c35_0 c29 c43 sv10 sv17 sc32_0 sc35_0 b37 b25 b32 b35 b29 b38 b43 Fr M r hv10 hv17 hc32_0 hc35_0 hH h
    simp [search_clock_loudest_2] at h
  | succ N ih =>
    intro v5 v10 v11 v12 v17 v18 v19 v6_g37 c25_0 c32_0 c35_0 c29 c43 sv10 sv17 sc32_0 sc35_0 b37 b25 b32 b35 b29 b38 b43 Fr M r hv10 hv17 hc32_0 hc35_0 hH h
    rw [search_clock_loudest_2] at h
    refine Run.seq (Run.region ?_)
    refine Run.opG wantS_none (ex_lss rfl rfl) rfl ?_
    refine Run.opsEnd (Run.seq ?_)
    rcases btf ((decide (v19 < v18))) with hc46 | hc46
    · have h := bif_t hc46 h
      refine Run.condT' rfl hc46 ?_
      refine Run.skip (Run.seq (Run.block (Run.seq (Run.region ?_))))
      refine Run.opG wantS_none (ex_move rfl) rfl ?_
      obtain ⟨x48, hx48, h⟩ := bnd_some h
      obtain ⟨p48, o48, _, hx48, hp48, rfl⟩ := sl_elem (P := Try.prog) (t := 22) (kk := .i64) hv17 hx48 els22
      refine Run.opG wantS_none (ex_elX rfl rfl hx48) rfl ?_
      refine Run.opG wantS_none (ex_loadA rfl (hH.ptrF hp48) rdLe_rfl agg76 rfl rfl rfl) rfl ?_
      refine Run.opX wantS_none rfl (ExG.new (v := fun b => .ptr b 0) (ex_alloc zer76) hH) ?_
      rintro _ M51 ⟨b50, rfl, (hH51 : Has Fr M51 [.obj b50 (.row 76 .whole [(.int .i64 0), (.int .i64 0), (.int .i64 0)]), .obj b37 (.loop ⟨.ready, none, 60, 19, treeOf [(6, (.int .i64 v6_g37)), (7, (.ptr b25 0)), (12, (.fn (.func 105) [] [(.ptr b32 0), (.ptr b35 0), (.ptr b29 0)]))], [13], (atC Try.prog 60 [1, 1, 0, 1, 0, 0]), (atC Try.prog 60 [1, 1, 0, 1, 0, 1]), b38⟩), .obj b25 (.row 3 .whole [(.int .i64 c25_0)]), .obj b32 (.row 22 .whole [sc32_0]), .obj b35 (.row 22 .whole [sc35_0]), .obj b29 (.row 87 .whole [(.int .i64 c29.live), (.int .i64 c29.window), (.int .i64 c29.step)]), .obj b38 .defd, .obj b43 (.row 76 .whole [(.int .i64 c43.Time), (.int .i64 c43.Loud), (.int .i64 c43.Template)])])⟩
      refine Run.opG wantS_none (ex_assign rfl) rfl ?_
      refine Run.opX wantS_none rfl (ExG.storeC (c' := [(.int .i64 x48.Time), (.int .i64 x48.Loud), (.int .i64 x48.Template)]) rfl rfl rfl hH51 (i := 0) rfl sz76 rfl rfl rfl rfl rfl) ?_
      rintro _ M52 ⟨rfl, (hH52 : Has Fr M52 [.obj b50 (.row 76 .whole [(.int .i64 x48.Time), (.int .i64 x48.Loud), (.int .i64 x48.Template)]), .obj b37 (.loop ⟨.ready, none, 60, 19, treeOf [(6, (.int .i64 v6_g37)), (7, (.ptr b25 0)), (12, (.fn (.func 105) [] [(.ptr b32 0), (.ptr b35 0), (.ptr b29 0)]))], [13], (atC Try.prog 60 [1, 1, 0, 1, 0, 0]), (atC Try.prog 60 [1, 1, 0, 1, 0, 1]), b38⟩), .obj b25 (.row 3 .whole [(.int .i64 c25_0)]), .obj b32 (.row 22 .whole [sc32_0]), .obj b35 (.row 22 .whole [sc35_0]), .obj b29 (.row 87 .whole [(.int .i64 c29.live), (.int .i64 c29.window), (.int .i64 c29.step)]), .obj b38 .defd, .obj b43 (.row 76 .whole [(.int .i64 c43.Time), (.int .i64 c43.Loud), (.int .i64 c43.Template)])])⟩
      refine Run.opsEnd (Run.seq ?_)
      refine Run.drawG plan105_1_0_0_1_1_0_0_1_1_0_0_1_1_0_0_1_0 ?_
      refine DrawG.fl rfl (ev_ex wantS_none (ex_fieldAddr rfl off76_2)) rfl ?_
      refine DrawG.fl rfl (ev_ex wantS_none (ex_load1 rfl (hH52.cells (i := 7) rfl 2 rfl) rdLe_rfl agg3)) rfl ?_
      refine DrawG.fl rfl (ev_ex wantS_none (ex_fieldAddr rfl off76_2)) rfl ?_
      refine DrawG.fl rfl (ev_ex wantS_none (ex_load1 rfl (hH52.cells (i := 0) rfl 2 rfl) rdLe_rfl agg3)) rfl ?_
      refine DrawG.fl rfl (ev_ex wantS_none (ex_eql rfl rfl)) rfl ?_
      refine DrawG.fl rfl (ev_ex wantS_none (ex_move rfl)) rfl ?_
      rcases btf ((c43.Template == x48.Template)) with hc53 | hc53
      · have h := bif_t hc53 h
        refine DrawG.fl rfl (ev_ex (wantS_yes' rfl rfl hc53) (ex_loadA rfl (hH52.cells (i := 5) rfl 0 rfl) rdLe_rfl agg87 rfl rfl rfl)) rfl ?_
        refine DrawG.fl rfl (ev_ex (wantS_yes' rfl rfl hc53) (ex_fieldAddr rfl off76_0)) rfl ?_
        refine DrawG.fl rfl (ev_ex (wantS_yes' rfl rfl hc53) (ex_load1 rfl (hH52.cells (i := 7) rfl 0 rfl) rdLe_rfl agg3)) rfl ?_
        refine DrawG.fl rfl (ev_ex (wantS_yes' rfl rfl hc53) (ex_fieldAddr rfl off76_0)) rfl ?_
        refine DrawG.fl rfl (ev_ex (wantS_yes' rfl rfl hc53) (ex_load1 rfl (hH52.cells (i := 0) rfl 0 rfl) rdLe_rfl agg3)) rfl ?_
        refine DrawG.fl rfl (ev_ex (wantS_yes' rfl rfl hc53) (ex_fieldAddr rfl off87_1)) rfl ?_
        refine DrawG.fl rfl (ev_ex (wantS_yes' rfl rfl hc53) (ex_load1 rfl (hH52.cells (i := 5) rfl 1 rfl) rdLe_rfl agg3)) rfl ?_
        obtain ⟨r54, hr54, h⟩ := bnd_some h
        refine DrawG.callP rfl (wantS_yes' rfl rfl hc53) (ex_call rfl mkk106 cal106) rfl (search_clock_distance_ok F c29 c43.Time x48.Time _ _ hr54) (st_cons rfl (ev_ex (wantS_yes' rfl rfl hc53) (ex_load1 rfl (hH52.cells (i := 5) rfl 1 rfl) rdLe_rfl agg3)) rfl rfl rfl (st_cons rfl (ev_ex (wantS_yes' rfl rfl hc53) (ex_fieldAddr rfl off87_1)) rfl rfl rfl st_nil)) ?_
        refine DrawG.fl rfl (ev_ex (wantS_yes' rfl rfl hc53) (ex_leq rfl rfl)) rfl ?_
        refine DrawG.fl rfl (ev_ex wantS_none (ex_pickT' rfl hc53 rfl rfl)) rfl ?_
        refine DrawG.fl rfl (ev_ex wantS_none (ex_assign rfl)) rfl ?_
        refine DrawG.sync ?_
        refine DrawG.nil ?_
        refine Run.seq (Run.region ?_)
        exact Run.low (.cons (fle_pick [7] rfl) .nil) (Run.pick [0, 2, 3, 5, 6, 7, 8, 9, 10, 11, 12, 17, 18, 19] (search_clock_loudest_3_ok F (search_clock_loudest_2 F hd1 N) ih v5 v19 (decide (r54 ≤ c29.window)) v10 v11 v12 v17 v18 v19 v6_g37 c25_0 c32_0 c35_0 c29 c43 x48 sv10 sv17 sc32_0 sc35_0 b37 b25 b32 b35 b29 b38 b43 b50 _ _ _ hv10 hv17 hc32_0 hc35_0 (hH52.pick [1, 2, 3, 4, 5, 6, 7, 0] rfl rfl) h))
      · have h := bif_f hc53 h
        refine DrawG.fl rfl (ev_no (wantS_not' rfl rfl hc53)) rfl ?_
        refine DrawG.fl rfl (ev_no (wantS_not' rfl rfl hc53)) rfl ?_
        refine DrawG.fl rfl (ev_no (wantS_not' rfl rfl hc53)) rfl ?_
        refine DrawG.fl rfl (ev_no (wantS_not' rfl rfl hc53)) rfl ?_
        refine DrawG.fl rfl (ev_no (wantS_not' rfl rfl hc53)) rfl ?_
        refine DrawG.fl rfl (ev_no (wantS_not' rfl rfl hc53)) rfl ?_
        refine DrawG.fl rfl (ev_no (wantS_not' rfl rfl hc53)) rfl ?_
        refine DrawG.no rfl (wantS_not' rfl rfl hc53) rfl (st_cons rfl (ev_no (wantS_not' rfl rfl hc53)) rfl rfl rfl (st_cons rfl (ev_no (wantS_not' rfl rfl hc53)) rfl rfl rfl st_nil)) ?_
        refine DrawG.fl rfl (ev_no (wantS_not' rfl rfl hc53)) rfl ?_
        refine DrawG.fl rfl (ev_ex wantS_none (ex_pickF' rfl hc53 rfl rfl)) rfl ?_
        refine DrawG.fl rfl (ev_ex wantS_none (ex_assign rfl)) rfl ?_
        refine DrawG.sync ?_
        refine DrawG.nil ?_
        refine Run.seq (Run.region ?_)
        exact Run.low (.cons (fle_pick [7] rfl) .nil) (Run.pick [0, 2, 3, 5, 6, 7, 8, 9, 10, 11, 12, 17, 18, 19] (search_clock_loudest_3_ok F (search_clock_loudest_2 F hd1 N) ih v5 v19 false v10 v11 v12 v17 v18 v19 v6_g37 c25_0 c32_0 c35_0 c29 c43 x48 sv10 sv17 sc32_0 sc35_0 b37 b25 b32 b35 b29 b38 b43 b50 _ _ _ hv10 hv17 hc32_0 hc35_0 (hH52.pick [1, 2, 3, 4, 5, 6, 7, 0] rfl rfl) h))
    · have h := bif_f hc46 h
      refine Run.condF' rfl hc46 ?_
      refine Run.exit rfl (Run.inBlock (Run.region ?_))
      refine Run.opG wantS_none (ex_add rfl rfl) rfl ?_
      refine Run.opG wantS_none (ex_move rfl) rfl ?_
      refine Run.opsEnd (Run.inLoop ?_)
      exact Run.low (.cons (fle_pick [7] rfl) .nil) (Run.pick [0, 2, 3, 10, 11, 12] (hhd1 v10 v11 (w64 (v12 + (1 : Int))) v6_g37 c25_0 c32_0 c35_0 c29 sv10 sc32_0 sc35_0 b37 b25 b32 b35 b29 b38 _ _ _ hv10 hc32_0 hc35_0 (hH.pick [0, 1, 2, 3, 4, 5] rfl rfl) h))

def search_clock_loudest_1 (F : Nat) : Nat → (List S_api_Trigger) → Int → Int → Int → Int → (List S_api_Trigger) → (List S_api_Trigger) → S_search_clock → Option (Int)
  | 0, _, _, _, _, _, _, _, _ => none
  | N + 1, v10, v11, v12, v6_g37, c25_0, c32_0, c35_0, c29 =>
    bif (decide (v12 < v11)) then
      bnd (idx v10 v12) fun x41 =>
      search_clock_loudest_2 F (search_clock_loudest_1 F N) F v12 v10 v11 v12 c35_0 (c35_0.length : Int) (0 : Int) v6_g37 c25_0 c32_0 c35_0 c29 x41
    else
      some c25_0

theorem search_clock_loudest_1_ok (F : Nat) : ∀ (N : Nat), ∀ (v10 : (List S_api_Trigger)) (v11 : Int) (v12 : Int) (v6_g37 : Int) (c25_0 : Int) (c32_0 : (List S_api_Trigger)) (c35_0 : (List S_api_Trigger)) (c29 : S_search_clock) (sv10 : SV) (sc32_0 : SV) (sc35_0 : SV) (b37 : Pos) (b25 : Pos) (b32 : Pos) (b35 : Pos) (b29 : Pos) (b38 : Pos) (Fr : Rd) (M : Mem) (r : Int) (hv10 : Slc Fr 3 (FlatR enc76) sv10 v10) (hc32_0 : Slc Fr 3 (FlatR enc76) sc32_0 c32_0) (hc35_0 : Slc Fr 3 (FlatR enc76) sc35_0 c35_0) (hH : Has Fr M [.obj b37 (.loop ⟨.ready, none, 60, 19, treeOf [(6, (.int .i64 v6_g37)), (7, (.ptr b25 0)), (12, (.fn (.func 105) [] [(.ptr b32 0), (.ptr b35 0), (.ptr b29 0)]))], [13], (atC Try.prog 60 [1, 1, 0, 1, 0, 0]), (atC Try.prog 60 [1, 1, 0, 1, 0, 1]), b38⟩), .obj b25 (.row 3 .whole [(.int .i64 c25_0)]), .obj b32 (.row 22 .whole [sc32_0]), .obj b35 (.row 22 .whole [sc35_0]), .obj b29 (.row 87 .whole [(.int .i64 c29.live), (.int .i64 c29.window), (.int .i64 c29.step)]), .obj b38 .defd]), search_clock_loudest_1 F N v10 v11 v12 v6_g37 c25_0 c32_0 c35_0 c29 = some r → Run Try.prog ⟨⟨105, [], none⟩, [.mk ⟨60, [b38], none⟩ 19 (treeOf [(7, (.ptr b25 0))]) [.inRange b37, .inBlock 0, codeC Try.prog 60 [1, 1, 1]]]⟩ 56 (search_clock_loudest_post r) [(0, (.yield b37)), (2, (.ptr b35 0)), (3, (.ptr b29 0)), (10, sv10), (11, (.int .i64 v11)), (12, (.int .i64 v12))] [codeC Try.prog 105 [1, 0, 0], loopC Try.prog 105 [1, 0, 0], .inBlock 0] M := by
  intro N
  induction N with
  | zero =>
    intro v10 v11 v12 v6_g37 c25_0 c32_0 c35_0 c29 sv10 sc32_0 sc35_0 b37 b25 b32 b35 b29 b38 Fr M r hv10 hc32_0 hc35_0 hH h
    simp [search_clock_loudest_1] at h
  | succ N ih =>
    intro v10 v11 v12 v6_g37 c25_0 c32_0 c35_0 c29 sv10 sc32_0 sc35_0 b37 b25 b32 b35 b29 b38 Fr M r hv10 hc32_0 hc35_0 hH h
    rw [search_clock_loudest_1] at h
    refine Run.seq (Run.region ?_)
    refine Run.opG wantS_none (ex_lss rfl rfl) rfl ?_
    refine Run.opsEnd (Run.seq ?_)
    rcases btf ((decide (v12 < v11))) with hc39 | hc39
    · have h := bif_t hc39 h
      refine Run.condT' rfl hc39 ?_
      refine Run.skip (Run.seq (Run.block (Run.seq (Run.region ?_))))
      refine Run.opG wantS_none (ex_move rfl) rfl ?_
      obtain ⟨x41, hx41, h⟩ := bnd_some h
      obtain ⟨p41, o41, _, hx41, hp41, rfl⟩ := sl_elem (P := Try.prog) (t := 22) (kk := .i64) hv10 hx41 els22
      refine Run.opG wantS_none (ex_elX rfl rfl hx41) rfl ?_
      refine Run.opG wantS_none (ex_loadA rfl (hH.ptrF hp41) rdLe_rfl agg76 rfl rfl rfl) rfl ?_
      refine Run.opX wantS_none rfl (ExG.new (v := fun b => .ptr b 0) (ex_alloc zer76) hH) ?_
      rintro _ M44 ⟨b43, rfl, (hH44 : Has Fr M44 [.obj b43 (.row 76 .whole [(.int .i64 0), (.int .i64 0), (.int .i64 0)]), .obj b37 (.loop ⟨.ready, none, 60, 19, treeOf [(6, (.int .i64 v6_g37)), (7, (.ptr b25 0)), (12, (.fn (.func 105) [] [(.ptr b32 0), (.ptr b35 0), (.ptr b29 0)]))], [13], (atC Try.prog 60 [1, 1, 0, 1, 0, 0]), (atC Try.prog 60 [1, 1, 0, 1, 0, 1]), b38⟩), .obj b25 (.row 3 .whole [(.int .i64 c25_0)]), .obj b32 (.row 22 .whole [sc32_0]), .obj b35 (.row 22 .whole [sc35_0]), .obj b29 (.row 87 .whole [(.int .i64 c29.live), (.int .i64 c29.window), (.int .i64 c29.step)]), .obj b38 .defd])⟩
      refine Run.opG wantS_none (ex_assign rfl) rfl ?_
      refine Run.opX wantS_none rfl (ExG.storeC (c' := [(.int .i64 x41.Time), (.int .i64 x41.Loud), (.int .i64 x41.Template)]) rfl rfl rfl hH44 (i := 0) rfl sz76 rfl rfl rfl rfl rfl) ?_
      rintro _ M45 ⟨rfl, (hH45 : Has Fr M45 [.obj b43 (.row 76 .whole [(.int .i64 x41.Time), (.int .i64 x41.Loud), (.int .i64 x41.Template)]), .obj b37 (.loop ⟨.ready, none, 60, 19, treeOf [(6, (.int .i64 v6_g37)), (7, (.ptr b25 0)), (12, (.fn (.func 105) [] [(.ptr b32 0), (.ptr b35 0), (.ptr b29 0)]))], [13], (atC Try.prog 60 [1, 1, 0, 1, 0, 0]), (atC Try.prog 60 [1, 1, 0, 1, 0, 1]), b38⟩), .obj b25 (.row 3 .whole [(.int .i64 c25_0)]), .obj b32 (.row 22 .whole [sc32_0]), .obj b35 (.row 22 .whole [sc35_0]), .obj b29 (.row 87 .whole [(.int .i64 c29.live), (.int .i64 c29.window), (.int .i64 c29.step)]), .obj b38 .defd])⟩
      refine Run.opsEnd (Run.seq (Run.region ?_))
      refine Run.opG wantS_none (ex_load1 rfl (hH45.cells (i := 4) rfl 0 rfl) rdLe_rfl agg22) rfl ?_
      refine Run.opG wantS_none (ex_len' rfl hc35_0 lenk22) rfl ?_
      refine Run.opG wantS_none (ex_move rfl) rfl ?_
      refine Run.opsEnd (Run.block (Run.loop ?_))
      exact Run.low (.cons (fle_pick [7] rfl) .nil) (Run.pick [0, 2, 3, 5, 6, 10, 11, 12, 17, 18, 19] (search_clock_loudest_2_ok F (search_clock_loudest_1 F N) ih F v12 v10 v11 v12 c35_0 (c35_0.length : Int) (0 : Int) v6_g37 c25_0 c32_0 c35_0 c29 x41 sv10 sc35_0 sc32_0 sc35_0 b37 b25 b32 b35 b29 b38 b43 _ _ _ hv10 hc35_0 hc32_0 hc35_0 (hH45.pick [1, 2, 3, 4, 5, 6, 0] rfl rfl) h))
    · have h := bif_f hc39 h
      refine Run.condF' rfl hc39 ?_
      refine Run.exit rfl ?_
      refine Run.fallRange Try.func105 rfl res_nil ?_
      refine Run.endX hH (i := 0) rfl (fun hc => by cases hc) ?_
      intro M68 (hH68 : Has Fr M68 [.obj b37 (.loop ⟨.exhausted, none, 60, 19, treeOf [(6, (.int .i64 v6_g37)), (7, (.ptr b25 0)), (12, (.fn (.func 105) [] [(.ptr b32 0), (.ptr b35 0), (.ptr b29 0)]))], [13], (atC Try.prog 60 [1, 1, 0, 1, 0, 0]), (atC Try.prog 60 [1, 1, 0, 1, 0, 1]), b38⟩), .obj b25 (.row 3 .whole [(.int .i64 c25_0)]), .obj b32 (.row 22 .whole [sc32_0]), .obj b35 (.row 22 .whole [sc35_0]), .obj b29 (.row 87 .whole [(.int .i64 c29.live), (.int .i64 c29.window), (.int .i64 c29.step)]), .obj b38 .defd])
      refine Run.inBlock (Run.seq (Run.region ?_))
      refine Run.opG wantS_none (ex_load1 rfl (hH68.cells (i := 1) rfl 0 rfl) rdLe_rfl agg3) rfl ?_
      refine Run.opG wantS_none (ex_assign rfl) rfl ?_
      refine Run.opsEnd ?_
      obtain ⟨hH69x, hS69⟩ := hH68.shut (i := 5) (ds := []) rfl
      have hH69 : Has Fr (setT M68 b38 none) [.obj b37 (.loop ⟨.exhausted, none, 60, 19, treeOf [(6, (.int .i64 v6_g37)), (7, (.ptr b25 0)), (12, (.fn (.func 105) [] [(.ptr b32 0), (.ptr b35 0), (.ptr b29 0)]))], [13], (atC Try.prog 60 [1, 1, 0, 1, 0, 0]), (atC Try.prog 60 [1, 1, 0, 1, 0, 1]), b38⟩), .obj b25 (.row 3 .whole [(.int .i64 c25_0)]), .obj b32 (.row 22 .whole [sc32_0]), .obj b35 (.row 22 .whole [sc35_0]), .obj b29 (.row 87 .whole [(.int .i64 c29.live), (.int .i64 c29.window), (.int .i64 c29.step)]), .vec 0 0 0 .nils []] := hH69x
      cases h
      exact Run.ret Try.func60 (hS69 _ rfl) (res_tmp rfl res_nil) rfl

def search_clock_loudest (F : Nat) (a0 : S_search_clock) (a1 : (List S_api_Trigger)) (a2 : (List S_api_Trigger)) : Option (Int) :=
  search_clock_loudest_1 F F a1 (a1.length : Int) (0 : Int) (0 : Int) ((-1) : Int) a1 a2 a0

theorem search_clock_loudest_ok (F : Nat) (a0 : S_search_clock) (a1 : (List S_api_Trigger)) (a2 : (List S_api_Trigger)) (s0 s1 : SV) (r : Int) (M : Mem) (hs0 : Slc (rd M) 3 (FlatR enc76) s0 a1) (hs1 : Slc (rd M) 3 (FlatR enc76) s1 a2) (h : search_clock_loudest F a0 a1 a2 = some r) : CallsM Try.prog 60 [(.agg [(.int .i64 a0.live), (.int .i64 a0.window), (.int .i64 a0.step)]), s0, s1] M (fun s M' => s = (.int .i64 r) ∧ M' = M) := by
  refine CallsM.plain Try.func60 rfl rfl rfl (show Run _ _ _ (search_clock_loudest_post r) _ _ _ from ?_)
  rw [search_clock_loudest] at h
  replace hs0 := hs0.mono (rdLe_frozen M) (fun _ _ h => h)
  replace hs1 := hs1.mono (rdLe_frozen M) (fun _ _ h => h)
  have hH := Has.nil (frozen M)
  refine Run.seq (Run.region ?_)
  refine Run.opX wantS_none rfl (ExG.box rfl rfl hH) ?_
  rintro _ M23 ⟨b22, rfl, (hH23 : Has (ro (frozen M)) M23 [.obj b22 (.row 87 .whole [(.int .i64 a0.live), (.int .i64 a0.window), (.int .i64 a0.step)])])⟩
  refine Run.opG wantS_none (ex_assign rfl) rfl ?_
  refine Run.opsEnd (Run.seq (Run.region ?_))
  refine Run.opX wantS_none rfl (ExG.new (v := fun b => .ptr b 0) (ex_alloc zer3) hH23) ?_
  rintro _ M26 ⟨b25, rfl, (hH26 : Has (ro (frozen M)) M26 [.obj b25 (.row 3 .whole [(.int .i64 0)]), .obj b22 (.row 87 .whole [(.int .i64 a0.live), (.int .i64 a0.window), (.int .i64 a0.step)])])⟩
  refine Run.opX wantS_none rfl (ExG.storeC (c' := [(.int .i64 (-1))]) rfl rfl rfl hH26 (i := 0) rfl sz3 rfl rfl rfl rfl rfl) ?_
  rintro _ M27 ⟨rfl, (hH27 : Has (ro (frozen M)) M27 [.obj b25 (.row 3 .whole [(.int .i64 (-1))]), .obj b22 (.row 87 .whole [(.int .i64 a0.live), (.int .i64 a0.window), (.int .i64 a0.step)])])⟩
  refine Run.opsEnd (Run.seq (Run.seq (Run.region ?_)))
  refine Run.opG wantS_none (ex_loadA rfl (hH27.cells (i := 1) rfl 0 rfl) rdLe_rfl agg87 rfl rfl rfl) rfl ?_
  refine Run.opG wantS_none (ex_move rfl) rfl ?_
  refine Run.opG wantS_none (ex_move rfl) rfl ?_
  refine Run.enter wantS_none (ex_call rfl mkk57 cal57) Try.func57 rfl rfl ?_
  refine Run.seq (Run.region ?_)
  refine Run.opX wantS_none rfl (ExG.box rfl rfl hH27) ?_
  rintro _ M30 ⟨b29, rfl, (hH30 : Has (ro (frozen M)) M30 [.obj b29 (.row 87 .whole [(.int .i64 a0.live), (.int .i64 a0.window), (.int .i64 a0.step)]), .obj b25 (.row 3 .whole [(.int .i64 (-1))]), .obj b22 (.row 87 .whole [(.int .i64 a0.live), (.int .i64 a0.window), (.int .i64 a0.step)])])⟩
  refine Run.opX wantS_none rfl (ExG.box rfl (cells_one (slc_one hs0)) hH30) ?_
  rintro _ M33 ⟨b32, rfl, (hH33 : Has (ro (frozen M)) M33 [.obj b32 (.row 22 .whole [s0]), .obj b29 (.row 87 .whole [(.int .i64 a0.live), (.int .i64 a0.window), (.int .i64 a0.step)]), .obj b25 (.row 3 .whole [(.int .i64 (-1))]), .obj b22 (.row 87 .whole [(.int .i64 a0.live), (.int .i64 a0.window), (.int .i64 a0.step)])])⟩
  refine Run.opX wantS_none rfl (ExG.box rfl (cells_one (slc_one hs1)) hH33) ?_
  rintro _ M36 ⟨b35, rfl, (hH36 : Has (ro (frozen M)) M36 [.obj b35 (.row 22 .whole [s1]), .obj b32 (.row 22 .whole [s0]), .obj b29 (.row 87 .whole [(.int .i64 a0.live), (.int .i64 a0.window), (.int .i64 a0.step)]), .obj b25 (.row 3 .whole [(.int .i64 (-1))]), .obj b22 (.row 87 .whole [(.int .i64 a0.live), (.int .i64 a0.window), (.int .i64 a0.step)])])⟩
  refine Run.opG wantS_none (ex_assign rfl) rfl ?_
  refine Run.opsEnd (Run.seq (Run.region ?_))
  refine Run.opG wantS_none (ex_makeFunc rfl rfl) rfl ?_
  refine Run.opG wantS_none (ex_assign rfl) rfl ?_
  refine Run.opsEnd ?_
  refine Run.retTo Try.func57 rfl (res_tmp rfl res_nil) rfl ?_
  refine Run.opsEnd (Run.block ?_)
  refine Run.pick [6, 7, 12] ?_
  refine Run.rangeX rfl cal105 Try.func105 rfl rfl hH36 ?_
  intro b38 b37 M37 (hH37 : Has (ro (frozen M)) M37 [.obj b37 (.loop ⟨.ready, none, 60, 19, treeOf [(6, (.int .i64 0)), (7, (.ptr b25 0)), (12, (.fn (.func 105) [] [(.ptr b32 0), (.ptr b35 0), (.ptr b29 0)]))], [13], (atC Try.prog 60 [1, 1, 0, 1, 0, 0]), (atC Try.prog 60 [1, 1, 0, 1, 0, 1]), b38⟩), .obj b38 .defd, .obj b35 (.row 22 .whole [s1]), .obj b32 (.row 22 .whole [s0]), .obj b29 (.row 87 .whole [(.int .i64 a0.live), (.int .i64 a0.window), (.int .i64 a0.step)]), .obj b25 (.row 3 .whole [(.int .i64 (-1))]), .obj b22 (.row 87 .whole [(.int .i64 a0.live), (.int .i64 a0.window), (.int .i64 a0.step)])])
  refine Run.seq (Run.region ?_)
  refine Run.opG wantS_none (ex_load1 rfl (hH37.cells (i := 3) rfl 0 rfl) rdLe_rfl agg22) rfl ?_
  refine Run.opG wantS_none (ex_len' rfl hs0 lenk22) rfl ?_
  refine Run.opG wantS_none (ex_move rfl) rfl ?_
  refine Run.opsEnd (Run.block (Run.loop ?_))
  exact Run.low (.cons (fle_pick [7] rfl) .nil) (Run.pick [0, 2, 3, 10, 11, 12] (search_clock_loudest_1_ok F F a1 (a1.length : Int) (0 : Int) (0 : Int) ((-1) : Int) a1 a2 a0 s0 s0 s1 b37 b25 b32 b35 b29 b38 _ _ _ hs0 hs0 hs1 (hH37.pick [0, 5, 3, 2, 4, 1] rfl rfl) h))

theorem mkk60 : makeK Try.prog 60 = none := by kernel_rfl
theorem cal60 : callable Try.prog 60 = true := by kernel_rfl
abbrev search_Loudest_post (r : Int × Int) : SV → Mem → Prop := fun s _ => s = (.tuple [(.int .i64 r.1), (.int .i64 r.2)])

def search_Loudest (F : Nat) (a0 : (List S_api_Trigger)) (a1 : (List S_api_Trigger)) (a2 : Int) (a3 : Int) : Option (Int × Int) :=
  bnd (search_clock_check F (S_search_clock.mk a2 a3 a2) ([a0, a1] : List (List S_api_Trigger))) fun r29 =>
  bif (!(r29 == (0 : Int))) then
    some ((0 : Int), r29)
  else
    bnd (search_clock_loudest F (S_search_clock.mk a2 a3 a2) a0 a1) fun r33 =>
    some (r33, (0 : Int))

theorem search_Loudest_ok (F : Nat) (a0 : (List S_api_Trigger)) (a1 : (List S_api_Trigger)) (a2 : Int) (a3 : Int) (s0 s1 : SV) (r : Int × Int) (M : Mem) (hs0 : Slc (rd M) 3 (FlatR enc76) s0 a0) (hs1 : Slc (rd M) 3 (FlatR enc76) s1 a1) (h : search_Loudest F a0 a1 a2 a3 = some r) : CallsM Try.prog 20 [s0, s1, (.int .i64 a2), (.int .i64 a3)] M (fun s M' => s = (.tuple [(.int .i64 r.1), (.int .i64 r.2)]) ∧ M' = M) := by
  refine CallsM.plain Try.func20 rfl rfl rfl (show Run _ _ _ (search_Loudest_post r) _ _ _ from ?_)
  rw [search_Loudest] at h
  replace hs0 := hs0.mono (rdLe_frozen M) (fun _ _ h => h)
  replace hs1 := hs1.mono (rdLe_frozen M) (fun _ _ h => h)
  have hH := Has.nil (frozen M)
  refine Run.seq (Run.region ?_)
  refine Run.opG wantS_none (ex_assign rfl) rfl ?_
  refine Run.opG wantS_none (ex_assign rfl) rfl ?_
  refine Run.opsEnd (Run.seq (Run.region ?_))
  refine Run.opG wantS_none (ex_move rfl) rfl ?_
  refine Run.opG wantS_none (ex_move rfl) rfl ?_
  refine Run.opG wantS_none (ex_move rfl) rfl ?_
  refine Run.opG wantS_none (ex_build (r := [(.int .i64 a2), (.int .i64 a3), (.int .i64 a2)]) rfl zer87 pls87 rfl) rfl ?_
  refine Run.opX wantS_none rfl (ExG.new (v := fun b => .ptr b 0) (ex_alloc zer87) hH) ?_
  rintro _ M23 ⟨b22, rfl, (hH23 : Has (ro (frozen M)) M23 [.obj b22 (.row 87 .whole [(.int .i64 0), (.int .i64 0), (.int .i64 0)])])⟩
  refine Run.opX wantS_none rfl (ExG.storeC (c' := [(.int .i64 a2), (.int .i64 a3), (.int .i64 a2)]) rfl rfl rfl hH23 (i := 0) rfl sz87 rfl rfl rfl rfl rfl) ?_
  rintro _ M24 ⟨rfl, (hH24 : Has (ro (frozen M)) M24 [.obj b22 (.row 87 .whole [(.int .i64 a2), (.int .i64 a3), (.int .i64 a2)])])⟩
  refine Run.opsEnd (Run.seq (Run.seq (Run.region ?_)))
  refine Run.opG wantS_none (ex_loadA rfl (hH24.cells (i := 0) rfl 0 rfl) rdLe_rfl agg87 rfl rfl rfl) rfl ?_
  refine Run.opG wantS_none (ex_move rfl) rfl ?_
  refine Run.opG wantS_none (ex_move rfl) rfl ?_
  have hr26 : Rows (rep22 (ro (frozen M))) 1 [s0, s1] ([a0, a1] : List (List S_api_Trigger)) := (Rows.cons (cs := [s0]) rfl ⟨s0, rfl, hs0⟩ (Rows.cons (cs := [s1]) rfl ⟨s1, rfl, hs1⟩ Rows.nil))
  refine Run.opX wantS_none rfl (ExG.builtR (z := 1) (c := [s0, s1]) rfl elt132 rfl (by simp only [fillS, cells_one (slc_one hs0), cells_one (slc_one hs1)]; rfl) rfl hH24) ?_
  rintro s26 M27 (hH27 : Has (ro (frozen M)) M27 [.vec 22 1 ([a0, a1] : List (List S_api_Trigger)).length s26 [s0, s1], .obj b22 (.row 87 .whole [(.int .i64 a2), (.int .i64 a3), (.int .i64 a2)])])
  obtain ⟨r29, hr29, h⟩ := bnd_some h
  refine Run.callP wantS_none (ex_call rfl mkk55 cal55) rfl (search_clock_check_ok F (S_search_clock.mk a2 a3 a2) ([a0, a1] : List (List S_api_Trigger)) s26 _ _ (((hH27.slcR (i := 0) rfl hr26)).mono (fun _ _ h => h) (fun _ _ => rep22_mo hH27.le)) hr29) ?_
  refine Run.opG wantS_none (ex_assign rfl) rfl ?_
  refine Run.opsEnd (Run.seq (Run.region ?_))
  refine Run.opG wantS_none (ex_move rfl) rfl ?_
  refine Run.opG wantS_none (ex_neq rfl rfl) rfl ?_
  refine Run.opsEnd ?_
  rcases btf ((!(r29 == (0 : Int)))) with hc31 | hc31
  · have h := bif_t hc31 h
    refine Run.condT' rfl hc31 ?_
    refine Run.seq (Run.region ?_)
    refine Run.opG wantS_none (ex_move rfl) rfl ?_
    refine Run.opG wantS_none (ex_assign rfl) rfl ?_
    refine Run.opG wantS_none (ex_assign rfl) rfl ?_
    refine Run.opsEnd ?_
    cases h
    exact Run.ret Try.func20 rfl (res_tmp rfl (res_tmp rfl res_nil)) rfl
  · have h := bif_f hc31 h
    refine Run.condF' rfl hc31 ?_
    refine Run.skip (Run.seq (Run.region ?_))
    refine Run.opG wantS_none (ex_loadA rfl (hH27.cells (i := 1) rfl 0 rfl) rdLe_rfl agg87 rfl rfl rfl) rfl ?_
    refine Run.opG wantS_none (ex_move rfl) rfl ?_
    refine Run.opG wantS_none (ex_move rfl) rfl ?_
    obtain ⟨r33, hr33, h⟩ := bnd_some h
    refine Run.callP wantS_none (ex_call rfl mkk60 cal60) rfl (search_clock_loudest_ok F (S_search_clock.mk a2 a3 a2) a0 a1 s0 s1 _ _ (hH27.slcF hs0) (hH27.slcF hs1) hr33) ?_
    refine Run.opG wantS_none (ex_assign rfl) rfl ?_
    refine Run.opG wantS_none (ex_assign rfl) rfl ?_
    refine Run.opsEnd ?_
    cases h
    exact Run.ret Try.func20 rfl (res_tmp rfl (res_tmp rfl res_nil)) rfl

theorem mkk20 : makeK Try.prog 20 = none := by kernel_rfl
theorem cal20 : callable Try.prog 20 = true := by kernel_rfl
abbrev ref08_loudest_post (r : Int) : SV → Mem → Prop := fun s _ => s = (.int .i64 r)

def ref08_loudest_1 (F : Nat) : Nat → (List S_api_Pair) → Int → Int → Option (Int)
  | 0, _, _, _ => none
  | N + 1, v0, v3, v4 =>
    bif (decide (v4 < (v0.length : Int))) then
      bnd (idx v0 v4) fun x23 =>
      (ref08_loudest_1 F N) v0 (max v3 x23.Loud) (w64 (v4 + (1 : Int)))
    else
      some v3

theorem ref08_loudest_1_ok (F : Nat) : ∀ (N : Nat), ∀ (v0 : (List S_api_Pair)) (v3 : Int) (v4 : Int) (sv0 : SV) (Fr : Rd) (M : Mem) (r : Int) (hv0 : Slc Fr 3 (FlatR enc71) sv0 v0) (hH : Has Fr M []), ref08_loudest_1 F N v0 v3 v4 = some r → Run Try.prog ⟨⟨61, [], none⟩, []⟩ 19 (ref08_loudest_post r) [(0, sv0), (3, (.int .i64 v3)), (4, (.int .i64 v4))] [codeC Try.prog 61 [1, 1, 0, 1, 0, 0], loopC Try.prog 61 [1, 1, 0, 1, 0, 0], .inBlock 0, codeC Try.prog 61 [1, 1, 1]] M := by
  intro N
  induction N with
  | zero =>
    intro v0 v3 v4 sv0 Fr M r hv0 hH h
    simp [ref08_loudest_1] at h
  | succ N ih =>
    intro v0 v3 v4 sv0 Fr M r hv0 hH h
    rw [ref08_loudest_1] at h
    refine Run.seq (Run.seq (Run.region ?_))
    refine Run.opG wantS_none (ex_move rfl) rfl ?_
    refine Run.opG wantS_none (ex_move rfl) rfl ?_
    refine Run.opG wantS_none (ex_len' rfl hv0 lenk27) rfl ?_
    refine Run.opG wantS_none (ex_lss rfl rfl) rfl ?_
    refine Run.opsEnd ?_
    rcases btf ((decide (v4 < (v0.length : Int)))) with hc21 | hc21
    · have h := bif_t hc21 h
      refine Run.condT' rfl hc21 ?_
      refine Run.skip (Run.seq (Run.block (Run.region ?_)))
      refine Run.opG wantS_none (ex_move rfl) rfl ?_
      refine Run.opG wantS_none (ex_move rfl) rfl ?_
      refine Run.opG wantS_none (ex_move rfl) rfl ?_
      obtain ⟨x23, hx23, h⟩ := bnd_some h
      obtain ⟨p23, o23, _, hx23, hp23, rfl⟩ := sl_elem (P := Try.prog) (t := 27) (kk := .i64) hv0 hx23 els27
      refine Run.opG wantS_none (ex_elX rfl rfl hx23) rfl ?_
      have hp25 := (hp23.fld (o := 2) rfl)
      refine Run.opG wantS_none (ex_fieldAddr rfl off71_2) rfl ?_
      refine Run.opG wantS_none (ex_load1 rfl (hH.ptrF hp25) rdLe_rfl agg3) rfl ?_
      refine Run.opG wantS_none (ex_max rfl rfl) rfl ?_
      refine Run.opG wantS_none (ex_assign rfl) rfl ?_
      refine Run.opsEnd (Run.inBlock (Run.region ?_))
      refine Run.opG wantS_none (ex_move rfl) rfl ?_
      refine Run.opG wantS_none (ex_add rfl rfl) rfl ?_
      refine Run.opG wantS_none (ex_assign rfl) rfl ?_
      refine Run.opsEnd (Run.inLoop ?_)
      exact Run.pick [0, 3, 4] (ih v0 (max v3 x23.Loud) (w64 (v4 + (1 : Int))) sv0 _ _ _ hv0 hH h)
    · have h := bif_f hc21 h
      refine Run.condF' rfl hc21 ?_
      refine Run.exit rfl (Run.seq (Run.region ?_))
      refine Run.opG wantS_none (ex_move rfl) rfl ?_
      refine Run.opG wantS_none (ex_assign rfl) rfl ?_
      refine Run.opsEnd ?_
      cases h
      exact Run.ret Try.func61 rfl (res_tmp rfl res_nil) rfl

def ref08_loudest (F : Nat) (a0 : (List S_api_Pair)) : Option (Int) :=
  ref08_loudest_1 F F a0 ((-1) : Int) (0 : Int)

theorem ref08_loudest_ok (F : Nat) (a0 : (List S_api_Pair)) (s0 : SV) (r : Int) (M : Mem) (hs0 : Slc (rd M) 3 (FlatR enc71) s0 a0) (h : ref08_loudest F a0 = some r) : CallsM Try.prog 61 [s0] M (fun s M' => s = (.int .i64 r) ∧ M' = M) := by
  refine CallsM.plain Try.func61 rfl rfl rfl (show Run _ _ _ (ref08_loudest_post r) _ _ _ from ?_)
  rw [ref08_loudest] at h
  replace hs0 := hs0.mono (rdLe_frozen M) (fun _ _ h => h)
  have hH := Has.nil (frozen M)
  refine Run.seq (Run.region ?_)
  refine Run.opG wantS_none (ex_assign rfl) rfl ?_
  refine Run.opsEnd (Run.seq (Run.region ?_))
  refine Run.opG wantS_none (ex_assign rfl) rfl ?_
  refine Run.opsEnd (Run.seq (Run.seq (Run.region ?_)))
  refine Run.opG wantS_none (ex_assign rfl) rfl ?_
  refine Run.opsEnd (Run.block (Run.loop ?_))
  exact Run.pick [0, 3, 4] (ref08_loudest_1_ok F F a0 ((-1) : Int) (0 : Int) s0 _ _ _ hs0 hH h)

theorem mkk61 : makeK Try.prog 61 = none := by kernel_rfl
theorem cal61 : callable Try.prog 61 = true := by kernel_rfl
abbrev ref08_Loudest_post (r : Int × Int) : SV → Mem → Prop := fun s _ => s = (.tuple [(.int .i64 r.1), (.int .i64 r.2)])

def ref08_Loudest (F : Nat) (a0 : (List S_api_Trigger)) (a1 : (List S_api_Trigger)) (a2 : Int) (a3 : Int) : Option (Int × Int) :=
  bnd (ref08_Coincide F a0 a1 a2 a3) fun r23 =>
  bif (!(r23.2 == (0 : Int))) then
    some ((0 : Int), r23.2)
  else
    bnd (ref08_loudest F r23.1) fun r28 =>
    some (r28, (0 : Int))

theorem ref08_Loudest_ok (F : Nat) (a0 : (List S_api_Trigger)) (a1 : (List S_api_Trigger)) (a2 : Int) (a3 : Int) (s0 s1 : SV) (r : Int × Int) (M : Mem) (hs0 : Slc (rd M) 3 (FlatR enc76) s0 a0) (hs1 : Slc (rd M) 3 (FlatR enc76) s1 a1) (h : ref08_Loudest F a0 a1 a2 a3 = some r) : CallsM Try.prog 21 [s0, s1, (.int .i64 a2), (.int .i64 a3)] M (fun s M' => s = (.tuple [(.int .i64 r.1), (.int .i64 r.2)]) ∧ M' = M) := by
  refine CallsM.plain Try.func21 rfl rfl rfl (show Run _ _ _ (ref08_Loudest_post r) _ _ _ from ?_)
  rw [ref08_Loudest] at h
  replace hs0 := hs0.mono (rdLe_frozen M) (fun _ _ h => h)
  replace hs1 := hs1.mono (rdLe_frozen M) (fun _ _ h => h)
  have hH := Has.nil (frozen M)
  refine Run.seq (Run.region ?_)
  refine Run.opG wantS_none (ex_assign rfl) rfl ?_
  refine Run.opG wantS_none (ex_assign rfl) rfl ?_
  refine Run.opsEnd (Run.seq (Run.region ?_))
  refine Run.opG wantS_none (ex_move rfl) rfl ?_
  refine Run.opG wantS_none (ex_move rfl) rfl ?_
  refine Run.opG wantS_none (ex_move rfl) rfl ?_
  refine Run.opG wantS_none (ex_move rfl) rfl ?_
  obtain ⟨r23, hr23, h⟩ := bnd_some h
  refine Run.callX wantS_none (ex_call rfl mkk18 cal18) rfl (ref08_Coincide_ok F a0 a1 a2 a3 s0 s1 _ _ (hH.slcF hs0) (hH.slcF hs1) hr23) ?_
  rintro _ M25 ⟨s23_0, rfl, hN23⟩
  have hH25 : Has (ro (frozen M)) M25 [.vec 71 3 r23.1.length s23_0 (r23.1.flatMap enc71)] := hN23.1 _ _ hH
  refine Run.opG wantS_none (ex_move rfl) rfl ?_
  refine Run.opG wantS_none (ex_extract rfl rfl) rfl ?_
  refine Run.opG wantS_none (ex_extract rfl rfl) rfl ?_
  refine Run.opG wantS_none (ex_assign rfl) rfl ?_
  refine Run.opG wantS_none (ex_assign rfl) rfl ?_
  refine Run.opsEnd (Run.seq (Run.seq (Run.region ?_)))
  refine Run.opG wantS_none (ex_move rfl) rfl ?_
  refine Run.opG wantS_none (ex_neq rfl rfl) rfl ?_
  refine Run.opsEnd ?_
  rcases btf ((!(r23.2 == (0 : Int)))) with hc26 | hc26
  · have h := bif_t hc26 h
    refine Run.condT' rfl hc26 ?_
    refine Run.seq (Run.region ?_)
    refine Run.opG wantS_none (ex_move rfl) rfl ?_
    refine Run.opG wantS_none (ex_assign rfl) rfl ?_
    refine Run.opG wantS_none (ex_assign rfl) rfl ?_
    refine Run.opsEnd ?_
    cases h
    exact Run.ret Try.func21 rfl (res_tmp rfl (res_tmp rfl res_nil)) rfl
  · have h := bif_f hc26 h
    refine Run.condF' rfl hc26 ?_
    refine Run.skip (Run.seq (Run.region ?_))
    refine Run.opG wantS_none (ex_move rfl) rfl ?_
    obtain ⟨r28, hr28, h⟩ := bnd_some h
    refine Run.callP wantS_none (ex_call rfl mkk61 cal61) rfl (ref08_loudest_ok F r23.1 s23_0 _ _ (hH25.slc (i := 0) rfl enc71_len) hr28) ?_
    refine Run.opG wantS_none (ex_assign rfl) rfl ?_
    refine Run.opG wantS_none (ex_assign rfl) rfl ?_
    refine Run.opsEnd ?_
    cases h
    exact Run.ret Try.func21 rfl (res_tmp rfl (res_tmp rfl res_nil)) rfl

theorem mkk21 : makeK Try.prog 21 = none := by kernel_rfl
theorem cal21 : callable Try.prog 21 = true := by kernel_rfl
theorem mkk22 : makeK Try.prog 22 = none := by kernel_rfl
theorem cal22 : callable Try.prog 22 = true := by kernel_rfl
abbrev law08_SearchCoincides_post (r : Bool) : SV → Mem → Prop := fun s _ => s = (.bool r)

def law08_SearchCoincides_3 (F : Nat) (v77 : Bool) : Option (Bool) :=
  some v77

theorem law08_SearchCoincides_3_ok (F : Nat) : ∀ (v77 : Bool) (Fr : Rd) (M : Mem) (r : Bool) (hH : Has Fr M []), law08_SearchCoincides_3 F v77 = some r → Run Try.prog ⟨⟨3, [], none⟩, []⟩ 78 (law08_SearchCoincides_post r) [(77, (.bool v77))] [itemC Try.prog 3 [1, 1, 1, 1, 1, 1, 1, 0] 11, codeC Try.prog 3 [1, 1, 1, 1, 1, 1, 1, 1]] M := by
  intro v77 Fr M r hH h
  rw [law08_SearchCoincides_3] at h
  refine Run.opG wantS_none (ex_assign rfl) rfl ?_
  refine Run.opsEnd ?_
  cases h
  exact Run.ret Try.func3 rfl (res_tmp rfl res_nil) rfl

def law08_SearchCoincides_2 (F : Nat) (v74 : Bool) : Option (Bool) :=
  bif v74 then
    bnd (works F) fun r55 =>
    law08_SearchCoincides_3 F r55
  else
    law08_SearchCoincides_3 F false

theorem law08_SearchCoincides_2_ok (F : Nat) : ∀ (v74 : Bool) (Fr : Rd) (M : Mem) (r : Bool) (hH : Has Fr M []), law08_SearchCoincides_2 F v74 = some r → Run Try.prog ⟨⟨3, [], none⟩, []⟩ 78 (law08_SearchCoincides_post r) [(74, (.bool v74))] [itemC Try.prog 3 [1, 1, 1, 1, 1, 1, 1, 0] 8, codeC Try.prog 3 [1, 1, 1, 1, 1, 1, 1, 1]] M := by
  intro v74 Fr M r hH h
  rw [law08_SearchCoincides_2] at h
  refine Run.opG wantS_none (ex_move rfl) rfl ?_
  rcases btf (v74) with hc53 | hc53
  · have h := bif_t hc53 h
    obtain ⟨r55, hr55, h⟩ := bnd_some h
    refine Run.callP (wantS_yes' rfl rfl hc53) (ex_call rfl mkk22 cal22) rfl (works_ok F r55 _ hH  hr55) ?_
    refine Run.opG wantS_none (ex_pickT' rfl hc53 rfl rfl) rfl ?_
    exact Run.pick [77] (law08_SearchCoincides_3_ok F r55 _ _ _ hH h)
  · have h := bif_f hc53 h
    refine Run.no (wantS_not' rfl rfl hc53) rfl ?_
    refine Run.opG wantS_none (ex_pickF' rfl hc53 rfl rfl) rfl ?_
    exact Run.pick [77] (law08_SearchCoincides_3_ok F false _ _ _ hH h)

def law08_SearchCoincides_1 (F : Nat) (v0 : (List S_api_Trigger)) (v1 : (List S_api_Trigger)) (v46 : Bool) (c22 : S_ringdownlaw08_Clock) : Option (Bool) :=
  bif v46 then
    some false
  else
    bnd (search_Loudest F v0 v1 c22.Live c22.Window) fun r47 =>
    bnd (ref08_Loudest F v0 v1 c22.Live c22.Window) fun r50 =>
    bif (r47.1 == r50.1) then
      law08_SearchCoincides_2 F (r47.2 == r50.2)
    else
      law08_SearchCoincides_2 F false

theorem law08_SearchCoincides_1_ok (F : Nat) : ∀ (v0 : (List S_api_Trigger)) (v1 : (List S_api_Trigger)) (v46 : Bool) (c22 : S_ringdownlaw08_Clock) (sv0 : SV) (sv1 : SV) (b22 : Pos) (Fr : Rd) (M : Mem) (r : Bool) (hv0 : Slc Fr 3 (FlatR enc76) sv0 v0) (hv1 : Slc Fr 3 (FlatR enc76) sv1 v1) (hH : Has Fr M [.obj b22 (.row 24 .whole [(.int .i64 c22.Live), (.int .i64 c22.Window), (.int .i64 c22.Step), (.int .i64 c22.Limit)])]), law08_SearchCoincides_1 F v0 v1 v46 c22 = some r → Run Try.prog ⟨⟨3, [], none⟩, []⟩ 78 (law08_SearchCoincides_post r) [(0, sv0), (1, sv1), (5, (.ptr b22 0)), (46, (.bool v46))] [codeC Try.prog 3 [1, 1, 1, 1, 0, 1], codeC Try.prog 3 [1, 1, 1, 1, 1]] M := by
  intro v0 v1 v46 c22 sv0 sv1 b22 Fr M r hv0 hv1 hH h
  rw [law08_SearchCoincides_1] at h
  rcases btf (v46) with hc45 | hc45
  · have h := bif_t hc45 h
    refine Run.condT' rfl hc45 ?_
    refine Run.seq (Run.region ?_)
    refine Run.opG wantS_none (ex_assign rfl) rfl ?_
    refine Run.opsEnd ?_
    cases h
    exact Run.ret Try.func3 rfl (res_tmp rfl res_nil) rfl
  · have h := bif_f hc45 h
    refine Run.condF' rfl hc45 ?_
    refine Run.skip (Run.seq (Run.region ?_))
    refine Run.opG wantS_none (ex_move rfl) rfl ?_
    refine Run.opG wantS_none (ex_move rfl) rfl ?_
    refine Run.opG wantS_none (ex_fieldAddr rfl off24_0) rfl ?_
    refine Run.opG wantS_none (ex_load1 rfl (hH.cells (i := 0) rfl 0 rfl) rdLe_rfl agg3) rfl ?_
    refine Run.opG wantS_none (ex_fieldAddr rfl off24_1) rfl ?_
    refine Run.opG wantS_none (ex_load1 rfl (hH.cells (i := 0) rfl 1 rfl) rdLe_rfl agg3) rfl ?_
    obtain ⟨r47, hr47, h⟩ := bnd_some h
    refine Run.callP wantS_none (ex_call rfl mkk20 cal20) rfl (search_Loudest_ok F v0 v1 c22.Live c22.Window sv0 sv1 _ _ (hH.slcF hv0) (hH.slcF hv1) hr47) ?_
    refine Run.opG wantS_none (ex_move rfl) rfl ?_
    refine Run.opG wantS_none (ex_extract rfl rfl) rfl ?_
    refine Run.opG wantS_none (ex_extract rfl rfl) rfl ?_
    refine Run.opG wantS_none (ex_assign rfl) rfl ?_
    refine Run.opG wantS_none (ex_assign rfl) rfl ?_
    refine Run.opsEnd (Run.seq (Run.region ?_))
    refine Run.opG wantS_none (ex_move rfl) rfl ?_
    refine Run.opG wantS_none (ex_move rfl) rfl ?_
    refine Run.opG wantS_none (ex_fieldAddr rfl off24_0) rfl ?_
    refine Run.opG wantS_none (ex_load1 rfl (hH.cells (i := 0) rfl 0 rfl) rdLe_rfl agg3) rfl ?_
    refine Run.opG wantS_none (ex_fieldAddr rfl off24_1) rfl ?_
    refine Run.opG wantS_none (ex_load1 rfl (hH.cells (i := 0) rfl 1 rfl) rdLe_rfl agg3) rfl ?_
    obtain ⟨r50, hr50, h⟩ := bnd_some h
    refine Run.callP wantS_none (ex_call rfl mkk21 cal21) rfl (ref08_Loudest_ok F v0 v1 c22.Live c22.Window sv0 sv1 _ _ (hH.slcF hv0) (hH.slcF hv1) hr50) ?_
    refine Run.opG wantS_none (ex_move rfl) rfl ?_
    refine Run.opG wantS_none (ex_extract rfl rfl) rfl ?_
    refine Run.opG wantS_none (ex_extract rfl rfl) rfl ?_
    refine Run.opG wantS_none (ex_assign rfl) rfl ?_
    refine Run.opG wantS_none (ex_assign rfl) rfl ?_
    refine Run.opsEnd (Run.seq (Run.region ?_))
    refine Run.opG wantS_none (ex_move rfl) rfl ?_
    refine Run.opG wantS_none (ex_move rfl) rfl ?_
    refine Run.opG wantS_none (ex_eql rfl rfl) rfl ?_
    refine Run.opG wantS_none (ex_move rfl) rfl ?_
    rcases btf ((r47.1 == r50.1)) with hc52 | hc52
    · have h := bif_t hc52 h
      refine Run.opG (wantS_yes' rfl rfl hc52) (ex_move rfl) rfl ?_
      refine Run.opG (wantS_yes' rfl rfl hc52) (ex_move rfl) rfl ?_
      refine Run.opG (wantS_yes' rfl rfl hc52) (ex_eql rfl rfl) rfl ?_
      refine Run.opG wantS_none (ex_pickT' rfl hc52 rfl rfl) rfl ?_
      exact Run.pick [74] (law08_SearchCoincides_2_ok F (r47.2 == r50.2) _ _ _ (hH.pick [] rfl rfl) h)
    · have h := bif_f hc52 h
      refine Run.no (wantS_not' rfl rfl hc52) rfl ?_
      refine Run.no (wantS_not' rfl rfl hc52) rfl ?_
      refine Run.no (wantS_not' rfl rfl hc52) rfl ?_
      refine Run.opG wantS_none (ex_pickF' rfl hc52 rfl rfl) rfl ?_
      exact Run.pick [74] (law08_SearchCoincides_2_ok F false _ _ _ (hH.pick [] rfl rfl) h)

def law08_SearchCoincides (F : Nat) (a0 : (List S_api_Trigger)) (a1 : (List S_api_Trigger)) (a2 : S_ringdownlaw08_Clock) : Option (Bool) :=
  bnd (search_CheckTriggers F a0) fun r25 =>
  bnd (ref08_CheckTriggers F a0) fun r28 =>
  bif (!(r25 == r28)) then
    some false
  else
    bnd (search_Coincide F a0 a1 a2.Live a2.Window) fun r33 =>
    bnd (ref08_Coincide F a0 a1 a2.Live a2.Window) fun r38 =>
    bnd (law08_pairs F r33.1 r38.1) fun r42 =>
    bif (!r42) then
      law08_SearchCoincides_1 F a0 a1 true a2
    else
      law08_SearchCoincides_1 F a0 a1 (!(r33.2 == r38.2)) a2

theorem law08_SearchCoincides_run (F : Nat) (a0 : (List S_api_Trigger)) (a1 : (List S_api_Trigger)) (a2 : S_ringdownlaw08_Clock) (s0 s1 : SV) (r : Bool) (M : Mem) (hs0 : Slc (rd M) 3 (FlatR enc76) s0 a0) (hs1 : Slc (rd M) 3 (FlatR enc76) s1 a1) (hfx : FixIn M fixes) (h : law08_SearchCoincides F a0 a1 a2 = some r) : Run Try.prog (fx0 3) 78 (law08_SearchCoincides_post r) [(0, s0), (1, s1), (2, (.agg [(.int .i64 a2.Live), (.int .i64 a2.Window), (.int .i64 a2.Step), (.int .i64 a2.Limit)]))] [codeC Try.prog 3 []] (frozen M) := by
  rw [law08_SearchCoincides] at h
  replace hs0 := hs0.mono (rdLe_frozen M) (fun _ _ h => h)
  replace hs1 := hs1.mono (rdLe_frozen M) (fun _ _ h => h)
  have hH : Has (ro (frozen M)) (frozen M) [] := Has.ofFix hfx.frozen
  refine Run.seq (Run.region ?_)
  refine Run.opX wantS_none rfl (ExG.box rfl rfl hH) ?_
  rintro _ M23 ⟨b22, rfl, (hH23 : Has (ro (frozen M)) M23 [.obj b22 (.row 24 .whole [(.int .i64 a2.Live), (.int .i64 a2.Window), (.int .i64 a2.Step), (.int .i64 a2.Limit)])])⟩
  refine Run.opG wantS_none (ex_assign rfl) rfl ?_
  refine Run.opsEnd (Run.seq (Run.seq (Run.region ?_)))
  refine Run.opG wantS_none (ex_move rfl) rfl ?_
  obtain ⟨r25, hr25, h⟩ := bnd_some h
  refine Run.callP wantS_none (ex_call rfl mkk15 cal15) rfl (search_CheckTriggers_ok F a0 s0 _ _ (hH23.slcF hs0) hr25) ?_
  refine Run.opG wantS_none (ex_move rfl) rfl ?_
  obtain ⟨r28, hr28, h⟩ := bnd_some h
  refine Run.callP wantS_none (ex_call rfl mkk16 cal16) rfl (ref08_CheckTriggers_ok F a0 s0 _ _ (hH23.slcF hs0) hr28) ?_
  refine Run.opG wantS_none (ex_neq rfl rfl) rfl ?_
  refine Run.opsEnd ?_
  rcases btf ((!(r25 == r28))) with hc30 | hc30
  · have h := bif_t hc30 h
    refine Run.condT' rfl hc30 ?_
    refine Run.seq (Run.region ?_)
    refine Run.opG wantS_none (ex_assign rfl) rfl ?_
    refine Run.opsEnd ?_
    cases h
    exact Run.ret Try.func3 rfl (res_tmp rfl res_nil) rfl
  · have h := bif_f hc30 h
    refine Run.condF' rfl hc30 ?_
    refine Run.skip (Run.seq (Run.region ?_))
    refine Run.opG wantS_none (ex_move rfl) rfl ?_
    refine Run.opG wantS_none (ex_move rfl) rfl ?_
    refine Run.opG wantS_none (ex_fieldAddr rfl off24_0) rfl ?_
    refine Run.opG wantS_none (ex_load1 rfl (hH23.cells (i := 0) rfl 0 rfl) rdLe_rfl agg3) rfl ?_
    refine Run.opG wantS_none (ex_fieldAddr rfl off24_1) rfl ?_
    refine Run.opG wantS_none (ex_load1 rfl (hH23.cells (i := 0) rfl 1 rfl) rdLe_rfl agg3) rfl ?_
    obtain ⟨r33, hr33, h⟩ := bnd_some h
    refine Run.callX wantS_none (ex_call rfl mkk17 cal17) rfl (search_Coincide_ok F a0 a1 a2.Live a2.Window s0 s1 _ _ (hH23.slcF hs0) (hH23.slcF hs1) hr33) ?_
    rintro _ M35 ⟨s33_0, rfl, hN33⟩
    have hH35 : Has (ro (frozen M)) M35 [.vec 71 3 r33.1.length s33_0 (r33.1.flatMap enc71), .obj b22 (.row 24 .whole [(.int .i64 a2.Live), (.int .i64 a2.Window), (.int .i64 a2.Step), (.int .i64 a2.Limit)])] := hN33.1 _ _ hH23
    refine Run.opG wantS_none (ex_move rfl) rfl ?_
    refine Run.opG wantS_none (ex_extract rfl rfl) rfl ?_
    refine Run.opG wantS_none (ex_extract rfl rfl) rfl ?_
    refine Run.opG wantS_none (ex_assign rfl) rfl ?_
    refine Run.opG wantS_none (ex_assign rfl) rfl ?_
    refine Run.opsEnd (Run.seq (Run.region ?_))
    refine Run.opG wantS_none (ex_move rfl) rfl ?_
    refine Run.opG wantS_none (ex_move rfl) rfl ?_
    refine Run.opG wantS_none (ex_fieldAddr rfl off24_0) rfl ?_
    refine Run.opG wantS_none (ex_load1 rfl (hH35.cells (i := 1) rfl 0 rfl) rdLe_rfl agg3) rfl ?_
    refine Run.opG wantS_none (ex_fieldAddr rfl off24_1) rfl ?_
    refine Run.opG wantS_none (ex_load1 rfl (hH35.cells (i := 1) rfl 1 rfl) rdLe_rfl agg3) rfl ?_
    obtain ⟨r38, hr38, h⟩ := bnd_some h
    refine Run.callX wantS_none (ex_call rfl mkk18 cal18) rfl (ref08_Coincide_ok F a0 a1 a2.Live a2.Window s0 s1 _ _ (hH35.slcF hs0) (hH35.slcF hs1) hr38) ?_
    rintro _ M40 ⟨s38_0, rfl, hN38⟩
    have hH40 : Has (ro (frozen M)) M40 [.vec 71 3 r38.1.length s38_0 (r38.1.flatMap enc71), .vec 71 3 r33.1.length s33_0 (r33.1.flatMap enc71), .obj b22 (.row 24 .whole [(.int .i64 a2.Live), (.int .i64 a2.Window), (.int .i64 a2.Step), (.int .i64 a2.Limit)])] := hN38.1 _ _ hH35
    refine Run.opG wantS_none (ex_move rfl) rfl ?_
    refine Run.opG wantS_none (ex_extract rfl rfl) rfl ?_
    refine Run.opG wantS_none (ex_extract rfl rfl) rfl ?_
    refine Run.opG wantS_none (ex_assign rfl) rfl ?_
    refine Run.opG wantS_none (ex_assign rfl) rfl ?_
    refine Run.opsEnd (Run.seq (Run.seq (Run.region ?_)))
    refine Run.opG wantS_none (ex_move rfl) rfl ?_
    refine Run.opG wantS_none (ex_move rfl) rfl ?_
    obtain ⟨r42, hr42, h⟩ := bnd_some h
    refine Run.callP wantS_none (ex_call rfl mkk19 cal19) rfl (law08_pairs_ok F r33.1 r38.1 s33_0 s38_0 _ _ (hH40.slc (i := 1) rfl enc71_len) (hH40.slc (i := 0) rfl enc71_len) hr42) ?_
    refine Run.opG wantS_none (ex_not rfl) rfl ?_
    refine Run.opG wantS_none (ex_move rfl) rfl ?_
    rcases btf ((!r42)) with hc44 | hc44
    · have h := bif_t hc44 h
      refine Run.no (wantS_not' rfl rfl hc44) rfl ?_
      refine Run.no (wantS_not' rfl rfl hc44) rfl ?_
      refine Run.no (wantS_not' rfl rfl hc44) rfl ?_
      refine Run.opG wantS_none (ex_pickT' rfl hc44 rfl rfl) rfl ?_
      refine Run.opsEnd ?_
      exact Run.pick [0, 1, 5, 46] (law08_SearchCoincides_1_ok F a0 a1 true a2 s0 s1 b22 _ _ _ hs0 hs1 (hH40.pick [2] rfl rfl) h)
    · have h := bif_f hc44 h
      refine Run.opG (wantS_yes' rfl rfl hc44) (ex_move rfl) rfl ?_
      refine Run.opG (wantS_yes' rfl rfl hc44) (ex_move rfl) rfl ?_
      refine Run.opG (wantS_yes' rfl rfl hc44) (ex_neq rfl rfl) rfl ?_
      refine Run.opG wantS_none (ex_pickF' rfl hc44 rfl rfl) rfl ?_
      refine Run.opsEnd ?_
      exact Run.pick [0, 1, 5, 46] (law08_SearchCoincides_1_ok F a0 a1 (!(r33.2 == r38.2)) a2 s0 s1 b22 _ _ _ hs0 hs1 (hH40.pick [2] rfl rfl) h)

end Go.Ev.SearchCoincides
