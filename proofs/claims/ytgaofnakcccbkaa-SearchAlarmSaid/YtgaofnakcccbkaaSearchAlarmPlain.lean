/- Plain functions that say what functions of the program come to, and proofs of it, written by a program of the verifier's own. -/
import Derived.Test.YtgaofnakcccbkaaEvL11
import Derived.Test.YtgaofnakcccbkaaEvL12
import Derived.Test.YtgaofnakcccbkaaWorks
import Derived.KernelRfl
namespace Go.Ev.SearchAlarm
open Go Go.Ev Go.Proofs
set_option maxRecDepth 100000
set_option linter.unusedVariables false

/-- The listed tables. -/
noncomputable def fixes : List (Nat × List SV) := Go.Proofs.Ytgaofnakcccbkaa.works.fixes
/-- works() comes to true. -/
def works (_ : Nat) : Option Bool := some true
theorem fixH {Fr : Rd} {H : List Ent} {M : Mem} (hH : Has Fr M H) : FixIn M fixes := fun x hx => absurd hx List.not_mem_nil

theorem works_ok (F : Nat) (r : Bool) {Fr : Rd} {H : List Ent} (M : Mem) (hH : Has Fr M H) (h : works F = some r) : CallsM Try.prog 12 [] M fun s M' => s = .bool r ∧ M' = M := by
  cases h
  exact CallsM.closedFix (n := 300) (l := Go.Proofs.Ytgaofnakcccbkaa.works.fixes) Go.Proofs.Ytgaofnakcccbkaa.works.below Go.Proofs.Ytgaofnakcccbkaa.works.plainF Go.Proofs.Ytgaofnakcccbkaa.works.works_true (fun x hx => absurd hx List.not_mem_nil)


structure S_api_Trigger where
  Time : Int
  Loud : Int
  Template : Int

structure S_ringdownlaw08_Clock where
  Live : Int
  Window : Int
  Step : Int
  Limit : Int

def enc73 (a : S_api_Trigger) : List SV := [(.int .i64 a.Time), (.int .i64 a.Loud), (.int .i64 a.Template)]
theorem enc73_len (a : S_api_Trigger) : (enc73 a).length = 3 := rfl
theorem enc73_ones (a : S_api_Trigger) : ones (enc73 a) = true := rfl
theorem off35_0 : fieldOff Try.prog 35 0 = some 0 := by kernel_rfl
theorem agg3 : aggSize Try.prog 3 = some none := by kernel_rfl
theorem off35_1 : fieldOff Try.prog 35 1 = some 1 := by kernel_rfl
theorem off35_2 : fieldOff Try.prog 35 2 = some 2 := by kernel_rfl
def enc3 (a : Int) : List SV := [(.int .i64 a)]
theorem enc3_len (a : Int) : (enc3 a).length = 1 := rfl
theorem enc3_ones (a : Int) : ones (enc3 a) = true := rfl
theorem zer80 : zerosOf Try.prog 80 = some [(.int .i64 0), (.int .i64 0), (.int .i64 0)] := by kernel_rfl
theorem pls80 : placesOf Try.prog 80 = some (.st [(0, 1), (1, 1), (2, 1)]) := by kernel_rfl
theorem sz80 : szOf Try.prog 80 = some 3 := by kernel_rfl
theorem agg80 : aggSize Try.prog 80 = some (some 3) := by kernel_rfl
def rep33 (f : Rd) (cs : List SV) (a : (List S_api_Trigger)) : Prop := ∃ q1, cs = [q1] ∧ Slc f 3 (FlatR enc73) q1 a
theorem rep33_mo {f g : Rd} (h : RdLe f g) {cs : List SV} {a : (List S_api_Trigger)} : rep33 f cs a → rep33 g cs a := by
  rintro ⟨q1, rfl, h0⟩
  exact ⟨q1, rfl, h0.mono h (fun _ _ h => h)⟩
theorem rep33_len {f : Rd} {cs : List SV} {a : (List S_api_Trigger)} : rep33 f cs a → cs.length = 1 := by
  rintro ⟨_, rfl, h0⟩
  rfl
theorem rep33_ones {f : Rd} {cs : List SV} {a : (List S_api_Trigger)} : rep33 f cs a → ones cs = true := by
  rintro ⟨_, rfl, h0⟩
  exact (ones_cons (slc_one h0) ones_nil)
theorem elt116 : sliceElt Try.prog 116 = some (⟨1, 24, [.nils], 33⟩ : Elt) := by kernel_rfl
structure S_search_clock where
  live : Int
  window : Int
  step : Int

theorem lenk116 : lenK Try.prog 116 = some .sl := by kernel_rfl
theorem els116 : elems Try.prog 116 = some (.sl 1) := by kernel_rfl
theorem agg33 : aggSize Try.prog 33 = some none := by kernel_rfl
theorem lenk33 : lenK Try.prog 33 = some .sl := by kernel_rfl
theorem els33 : elems Try.prog 33 = some (.sl 3) := by kernel_rfl
theorem agg73 : aggSize Try.prog 73 = some (some 3) := by kernel_rfl
theorem zer73 : zerosOf Try.prog 73 = some [(.int .i64 0), (.int .i64 0), (.int .i64 0)] := by kernel_rfl
theorem sz73 : szOf Try.prog 73 = some 3 := by kernel_rfl
theorem off73_0 : fieldOff Try.prog 73 0 = some 0 := by kernel_rfl
abbrev search_isFrom_post (r : Bool) : SV → Mem → Prop := fun s _ => s = (.bool r)

def search_isFrom_1 (F : Nat) (v14 : Bool) : Option (Bool) :=
  some v14

theorem search_isFrom_1_ok (F : Nat) : ∀ (v14 : Bool) (Fr : Rd) (M : Mem) (r : Bool) (hH : Has Fr M []), search_isFrom_1 F v14 = some r → Run Try.prog ⟨⟨36, [], none⟩, []⟩ 15 (search_isFrom_post r) [(14, (.bool v14))] [itemC Try.prog 36 [1, 0] 8, codeC Try.prog 36 [1, 1]] M := by
  intro v14 Fr M r hH h
  rw [search_isFrom_1] at h
  refine Run.opG wantS_none (ex_assign rfl) rfl ?_
  refine Run.opsEnd ?_
  cases h
  exact Run.ret Try.func36 rfl (res_tmp rfl res_nil) rfl

def search_isFrom (F : Nat) (a0 a1 a2 : Int) : Option (Bool) :=
  bif (decide (a0 ≤ a1)) then
    search_isFrom_1 F (decide (a1 ≤ a2))
  else
    search_isFrom_1 F false

theorem search_isFrom_ok (F : Nat) (a0 a1 a2 : Int) (r : Bool) (M : Mem) (h : search_isFrom F a0 a1 a2 = some r) : CallsM Try.prog 36 [(.int .i64 a0), (.int .i64 a1), (.int .i64 a2)] M (fun s M' => s = (.bool r) ∧ M' = M) := by
  refine CallsM.plain Try.func36 rfl rfl rfl (show Run _ _ _ (search_isFrom_post r) _ _ _ from ?_)
  rw [search_isFrom] at h
  have hH := Has.nil (frozen M)
  refine Run.seq (Run.region ?_)
  refine Run.opG wantS_none (ex_assign rfl) rfl ?_
  refine Run.opsEnd (Run.seq (Run.region ?_))
  refine Run.opG wantS_none (ex_move rfl) rfl ?_
  refine Run.opG wantS_none (ex_move rfl) rfl ?_
  refine Run.opG wantS_none (ex_leq rfl rfl) rfl ?_
  refine Run.opG wantS_none (ex_move rfl) rfl ?_
  rcases btf ((decide (a0 ≤ a1))) with hc21 | hc21
  · have h := bif_t hc21 h
    refine Run.opG (wantS_yes' rfl rfl hc21) (ex_move rfl) rfl ?_
    refine Run.opG (wantS_yes' rfl rfl hc21) (ex_move rfl) rfl ?_
    refine Run.opG (wantS_yes' rfl rfl hc21) (ex_leq rfl rfl) rfl ?_
    refine Run.opG wantS_none (ex_pickT' rfl hc21 rfl rfl) rfl ?_
    exact Run.pick [14] (search_isFrom_1_ok F (decide (a1 ≤ a2)) _ _ _ hH h)
  · have h := bif_f hc21 h
    refine Run.no (wantS_not' rfl rfl hc21) rfl ?_
    refine Run.no (wantS_not' rfl rfl hc21) rfl ?_
    refine Run.no (wantS_not' rfl rfl hc21) rfl ?_
    refine Run.opG wantS_none (ex_pickF' rfl hc21 rfl rfl) rfl ?_
    exact Run.pick [14] (search_isFrom_1_ok F false _ _ _ hH h)

theorem mkk36 : makeK Try.prog 36 = none := by kernel_rfl
theorem cal36 : callable Try.prog 36 = true := by kernel_rfl
theorem off73_2 : fieldOff Try.prog 73 2 = some 2 := by kernel_rfl
theorem off73_1 : fieldOff Try.prog 73 1 = some 1 := by kernel_rfl
abbrev search_areTriggers_post (r : Bool) : SV → Mem → Prop := fun s _ => s = (.bool r)

def search_areTriggers_3 (F : Nat) (hd1 : Int → (List S_api_Trigger) → Int → Int → Option (Bool)) (v9 : (List S_api_Trigger)) (v10 v11 : Int) (v32 : Bool) (c26 : S_api_Trigger) : Option (Bool) :=
  bif v32 then
    some false
  else
    hd1 c26.Time v9 v10 (w64 (v11 + (1 : Int)))

theorem search_areTriggers_3_ok (F : Nat) (hd1 : Int → (List S_api_Trigger) → Int → Int → Option (Bool)) (hhd1 : ∀ (v3 : Int) (v9 : (List S_api_Trigger)) (v10 v11 : Int) (sv9 : SV) (Fr : Rd) (M : Mem) (r : Bool) (hv9 : Slc Fr 3 (FlatR enc73) sv9 v9) (hH : Has Fr M []), hd1 v3 v9 v10 v11 = some r → Run Try.prog ⟨⟨99, [], none⟩, []⟩ 36 (search_areTriggers_post r) [(3, (.int .i64 v3)), (9, sv9), (10, (.int .i64 v10)), (11, (.int .i64 v11))] [codeC Try.prog 99 [1, 1, 1, 0, 1, 0, 0], loopC Try.prog 99 [1, 1, 1, 0, 1, 0, 0], .inBlock 0, codeC Try.prog 99 [1, 1, 1, 1]] M) : ∀ (v9 : (List S_api_Trigger)) (v10 v11 : Int) (v32 : Bool) (c26 : S_api_Trigger) (sv9 : SV) (b26 : Pos) (Fr : Rd) (M : Mem) (r : Bool) (hv9 : Slc Fr 3 (FlatR enc73) sv9 v9) (hH : Has Fr M [.obj b26 (.row 73 .whole [(.int .i64 c26.Time), (.int .i64 c26.Loud), (.int .i64 c26.Template)])]), search_areTriggers_3 F hd1 v9 v10 v11 v32 c26 = some r → Run Try.prog ⟨⟨99, [], none⟩, []⟩ 36 (search_areTriggers_post r) [(5, (.ptr b26 0)), (9, sv9), (10, (.int .i64 v10)), (11, (.int .i64 v11)), (32, (.bool v32))] [codeC Try.prog 99 [1, 1, 1, 0, 1, 0, 0, 1, 1, 0, 0, 1, 0, 1], codeC Try.prog 99 [1, 1, 1, 0, 1, 0, 0, 1, 1, 0, 0, 1, 1], .inBlock 1, codeC Try.prog 99 [1, 1, 1, 0, 1, 0, 0, 1, 1, 1], loopC Try.prog 99 [1, 1, 1, 0, 1, 0, 0], .inBlock 0, codeC Try.prog 99 [1, 1, 1, 1]] M := by
  intro v9 v10 v11 v32 c26 sv9 b26 Fr M r hv9 hH h
  rw [search_areTriggers_3] at h
  rcases btf (v32) with hc34 | hc34
  · have h := bif_t hc34 h
    refine Run.condT' rfl hc34 ?_
    refine Run.seq (Run.region ?_)
    refine Run.opG wantS_none (ex_assign rfl) rfl ?_
    refine Run.opsEnd ?_
    cases h
    exact Run.ret Try.func99 rfl (res_tmp rfl res_nil) rfl
  · have h := bif_f hc34 h
    refine Run.condF' rfl hc34 ?_
    refine Run.skip (Run.region ?_)
    refine Run.opG wantS_none (ex_fieldAddr rfl off73_0) rfl ?_
    refine Run.opG wantS_none (ex_load1 rfl (hH.cells (i := 0) rfl 0 rfl) rdLe_rfl agg3) rfl ?_
    refine Run.opG wantS_none (ex_assign rfl) rfl ?_
    refine Run.opsEnd (Run.inBlock (Run.region ?_))
    refine Run.opG wantS_none (ex_add rfl rfl) rfl ?_
    refine Run.opG wantS_none (ex_move rfl) rfl ?_
    refine Run.opsEnd (Run.inLoop ?_)
    exact Run.pick [3, 9, 10, 11] (hhd1 c26.Time v9 v10 (w64 (v11 + (1 : Int))) sv9 _ _ _ hv9 (hH.pick [] rfl rfl) h)

def search_areTriggers_2 (F : Nat) (hd1 : Int → (List S_api_Trigger) → Int → Int → Option (Bool)) (v9 : (List S_api_Trigger)) (v10 v11 : Int) (v26 : Bool) (c26 : S_api_Trigger) : Option (Bool) :=
  bif v26 then
    search_areTriggers_3 F hd1 v9 v10 v11 true c26
  else
    bnd (search_isFrom F (0 : Int) c26.Template (255 : Int)) fun r36 =>
    search_areTriggers_3 F hd1 v9 v10 v11 (!r36) c26

theorem search_areTriggers_2_ok (F : Nat) (hd1 : Int → (List S_api_Trigger) → Int → Int → Option (Bool)) (hhd1 : ∀ (v3 : Int) (v9 : (List S_api_Trigger)) (v10 v11 : Int) (sv9 : SV) (Fr : Rd) (M : Mem) (r : Bool) (hv9 : Slc Fr 3 (FlatR enc73) sv9 v9) (hH : Has Fr M []), hd1 v3 v9 v10 v11 = some r → Run Try.prog ⟨⟨99, [], none⟩, []⟩ 36 (search_areTriggers_post r) [(3, (.int .i64 v3)), (9, sv9), (10, (.int .i64 v10)), (11, (.int .i64 v11))] [codeC Try.prog 99 [1, 1, 1, 0, 1, 0, 0], loopC Try.prog 99 [1, 1, 1, 0, 1, 0, 0], .inBlock 0, codeC Try.prog 99 [1, 1, 1, 1]] M) : ∀ (v9 : (List S_api_Trigger)) (v10 v11 : Int) (v26 : Bool) (c26 : S_api_Trigger) (sv9 : SV) (b26 : Pos) (Fr : Rd) (M : Mem) (r : Bool) (hv9 : Slc Fr 3 (FlatR enc73) sv9 v9) (hH : Has Fr M [.obj b26 (.row 73 .whole [(.int .i64 c26.Time), (.int .i64 c26.Loud), (.int .i64 c26.Template)])]), search_areTriggers_2 F hd1 v9 v10 v11 v26 c26 = some r → Run Try.prog ⟨⟨99, [], none⟩, []⟩ 36 (search_areTriggers_post r) [(5, (.ptr b26 0)), (9, sv9), (10, (.int .i64 v10)), (11, (.int .i64 v11)), (26, (.bool v26))] [itemC Try.prog 99 [1, 1, 1, 0, 1, 0, 0, 1, 1, 0, 0, 1, 0, 0] 12, codeC Try.prog 99 [1, 1, 1, 0, 1, 0, 0, 1, 1, 0, 0, 1, 0, 1], codeC Try.prog 99 [1, 1, 1, 0, 1, 0, 0, 1, 1, 0, 0, 1, 1], .inBlock 1, codeC Try.prog 99 [1, 1, 1, 0, 1, 0, 0, 1, 1, 1], loopC Try.prog 99 [1, 1, 1, 0, 1, 0, 0], .inBlock 0, codeC Try.prog 99 [1, 1, 1, 1]] M := by
  intro v9 v10 v11 v26 c26 sv9 b26 Fr M r hv9 hH h
  rw [search_areTriggers_2] at h
  refine Run.opG wantS_none (ex_move rfl) rfl ?_
  rcases btf (v26) with hc33 | hc33
  · have h := bif_t hc33 h
    refine Run.no (wantS_not' rfl rfl hc33) rfl ?_
    refine Run.no (wantS_not' rfl rfl hc33) rfl ?_
    refine Run.no (wantS_not' rfl rfl hc33) rfl ?_
    refine Run.no (wantS_not' rfl rfl hc33) rfl ?_
    refine Run.opG wantS_none (ex_pickT' rfl hc33 rfl rfl) rfl ?_
    refine Run.opsEnd ?_
    exact Run.pick [5, 9, 10, 11, 32] (search_areTriggers_3_ok F hd1 hhd1 v9 v10 v11 true c26 sv9 b26 _ _ _ hv9 hH h)
  · have h := bif_f hc33 h
    refine Run.opG (wantS_yes' rfl rfl hc33) (ex_fieldAddr rfl off73_2) rfl ?_
    refine Run.opG (wantS_yes' rfl rfl hc33) (ex_load1 rfl (hH.cells (i := 0) rfl 2 rfl) rdLe_rfl agg3) rfl ?_
    obtain ⟨r36, hr36, h⟩ := bnd_some h
    refine Run.callP (wantS_yes' rfl rfl hc33) (ex_call rfl mkk36 cal36) rfl (search_isFrom_ok F (0 : Int) c26.Template (255 : Int) _ _ hr36) ?_
    refine Run.opG (wantS_yes' rfl rfl hc33) (ex_not rfl) rfl ?_
    refine Run.opG wantS_none (ex_pickF' rfl hc33 rfl rfl) rfl ?_
    refine Run.opsEnd ?_
    exact Run.pick [5, 9, 10, 11, 32] (search_areTriggers_3_ok F hd1 hhd1 v9 v10 v11 (!r36) c26 sv9 b26 _ _ _ hv9 hH h)

def search_areTriggers_1 (F : Nat) : Nat → Int → (List S_api_Trigger) → Int → Int → Option (Bool)
  | 0, _, _, _, _ => none
  | N + 1, v3, v9, v10, v11 =>
    bif (decide (v11 < v10)) then
      bnd (idx v9 v11) fun x24 =>
      bnd (search_isFrom F (w64 (v3 + (1 : Int))) x24.Time (1073741823 : Int)) fun r30 =>
      bif (!r30) then
        search_areTriggers_2 F (search_areTriggers_1 F N) v9 v10 v11 true x24
      else
        bnd (search_isFrom F (0 : Int) x24.Loud (1073741824 : Int)) fun r39 =>
        search_areTriggers_2 F (search_areTriggers_1 F N) v9 v10 v11 (!r39) x24
    else
      some true

theorem search_areTriggers_1_ok (F : Nat) : ∀ (N : Nat), ∀ (v3 : Int) (v9 : (List S_api_Trigger)) (v10 v11 : Int) (sv9 : SV) (Fr : Rd) (M : Mem) (r : Bool) (hv9 : Slc Fr 3 (FlatR enc73) sv9 v9) (hH : Has Fr M []), search_areTriggers_1 F N v3 v9 v10 v11 = some r → Run Try.prog ⟨⟨99, [], none⟩, []⟩ 36 (search_areTriggers_post r) [(3, (.int .i64 v3)), (9, sv9), (10, (.int .i64 v10)), (11, (.int .i64 v11))] [codeC Try.prog 99 [1, 1, 1, 0, 1, 0, 0], loopC Try.prog 99 [1, 1, 1, 0, 1, 0, 0], .inBlock 0, codeC Try.prog 99 [1, 1, 1, 1]] M := by
  intro N
  induction N with
  | zero =>
    intro v3 v9 v10 v11 sv9 Fr M r hv9 hH h
    simp [search_areTriggers_1] at h
  | succ N ih =>
    intro v3 v9 v10 v11 sv9 Fr M r hv9 hH h
    rw [search_areTriggers_1] at h
    refine Run.seq (Run.region ?_)
    refine Run.opG wantS_none (ex_lss rfl rfl) rfl ?_
    refine Run.opsEnd (Run.seq ?_)
    rcases btf ((decide (v11 < v10))) with hc22 | hc22
    · have h := bif_t hc22 h
      refine Run.condT' rfl hc22 ?_
      refine Run.skip (Run.seq (Run.block (Run.seq (Run.region ?_))))
      obtain ⟨x24, hx24, h⟩ := bnd_some h
      obtain ⟨p24, o24, _, hx24, hp24, rfl⟩ := sl_elem (P := Try.prog) (t := 33) (kk := .i64) hv9 hx24 els33
      refine Run.opG wantS_none (ex_elX rfl rfl hx24) rfl ?_
      refine Run.opG wantS_none (ex_loadA rfl (hH.ptrF hp24) rdLe_rfl agg73 rfl rfl rfl) rfl ?_
      refine Run.opX wantS_none rfl (ExG.new (v := fun b => .ptr b 0) (ex_alloc zer73) hH) ?_
      rintro _ M27 ⟨b26, rfl, hH27⟩
      refine Run.opX wantS_none rfl (ExG.storeC (c' := [(.int .i64 x24.Time), (.int .i64 x24.Loud), (.int .i64 x24.Template)]) rfl rfl rfl hH27 (i := 0) rfl sz73 rfl rfl rfl rfl rfl) ?_
      rintro _ M28 ⟨rfl, (hH28 : Has Fr M28 [.obj b26 (.row 73 .whole [(.int .i64 x24.Time), (.int .i64 x24.Loud), (.int .i64 x24.Template)])])⟩
      refine Run.opsEnd (Run.seq (Run.seq (Run.region ?_)))
      refine Run.opG wantS_none (ex_move rfl) rfl ?_
      refine Run.opG wantS_none (ex_add rfl rfl) rfl ?_
      refine Run.opG wantS_none (ex_fieldAddr rfl off73_0) rfl ?_
      refine Run.opG wantS_none (ex_load1 rfl (hH28.cells (i := 0) rfl 0 rfl) rdLe_rfl agg3) rfl ?_
      obtain ⟨r30, hr30, h⟩ := bnd_some h
      refine Run.callP wantS_none (ex_call rfl mkk36 cal36) rfl (search_isFrom_ok F (w64 (v3 + (1 : Int))) x24.Time (1073741823 : Int) _ _ hr30) ?_
      refine Run.opG wantS_none (ex_not rfl) rfl ?_
      refine Run.opG wantS_none (ex_move rfl) rfl ?_
      rcases btf ((!r30)) with hc32 | hc32
      · have h := bif_t hc32 h
        refine Run.no (wantS_not' rfl rfl hc32) rfl ?_
        refine Run.no (wantS_not' rfl rfl hc32) rfl ?_
        refine Run.no (wantS_not' rfl rfl hc32) rfl ?_
        refine Run.no (wantS_not' rfl rfl hc32) rfl ?_
        refine Run.opG wantS_none (ex_pickT' rfl hc32 rfl rfl) rfl ?_
        exact Run.pick [5, 9, 10, 11, 26] (search_areTriggers_2_ok F (search_areTriggers_1 F N) ih v9 v10 v11 true x24 sv9 b26 _ _ _ hv9 hH28 h)
      · have h := bif_f hc32 h
        refine Run.opG (wantS_yes' rfl rfl hc32) (ex_fieldAddr rfl off73_1) rfl ?_
        refine Run.opG (wantS_yes' rfl rfl hc32) (ex_load1 rfl (hH28.cells (i := 0) rfl 1 rfl) rdLe_rfl agg3) rfl ?_
        obtain ⟨r39, hr39, h⟩ := bnd_some h
        refine Run.callP (wantS_yes' rfl rfl hc32) (ex_call rfl mkk36 cal36) rfl (search_isFrom_ok F (0 : Int) x24.Loud (1073741824 : Int) _ _ hr39) ?_
        refine Run.opG (wantS_yes' rfl rfl hc32) (ex_not rfl) rfl ?_
        refine Run.opG wantS_none (ex_pickF' rfl hc32 rfl rfl) rfl ?_
        exact Run.pick [5, 9, 10, 11, 26] (search_areTriggers_2_ok F (search_areTriggers_1 F N) ih v9 v10 v11 (!r39) x24 sv9 b26 _ _ _ hv9 hH28 h)
    · have h := bif_f hc22 h
      refine Run.condF' rfl hc22 ?_
      refine Run.exit rfl (Run.seq (Run.region ?_))
      refine Run.opG wantS_none (ex_assign rfl) rfl ?_
      refine Run.opsEnd ?_
      cases h
      exact Run.ret Try.func99 rfl (res_tmp rfl res_nil) rfl

def search_areTriggers (F : Nat) (a0 : (List S_api_Trigger)) : Option (Bool) :=
  bif (decide ((256 : Int) < (a0.length : Int))) then
    some false
  else
    search_areTriggers_1 F F ((-1) : Int) a0 (a0.length : Int) (0 : Int)

theorem search_areTriggers_ok (F : Nat) (a0 : (List S_api_Trigger)) (s0 : SV) (r : Bool) (M : Mem) (hs0 : Slc (rd M) 3 (FlatR enc73) s0 a0) (h : search_areTriggers F a0 = some r) : CallsM Try.prog 99 [s0] M (fun s M' => s = (.bool r) ∧ M' = M) := by
  refine CallsM.plain Try.func99 rfl rfl rfl (show Run _ _ _ (search_areTriggers_post r) _ _ _ from ?_)
  rw [search_areTriggers] at h
  replace hs0 := hs0.mono (rdLe_frozen M) (fun _ _ h => h)
  have hH := Has.nil (frozen M)
  refine Run.seq (Run.region ?_)
  refine Run.opG wantS_none (ex_assign rfl) rfl ?_
  refine Run.opsEnd (Run.seq (Run.seq (Run.region ?_)))
  refine Run.opG wantS_none (ex_move rfl) rfl ?_
  refine Run.opG wantS_none (ex_len' rfl hs0 lenk33) rfl ?_
  refine Run.opG wantS_none (ex_gtr rfl rfl) rfl ?_
  refine Run.opsEnd ?_
  rcases btf ((decide ((256 : Int) < (a0.length : Int)))) with hc21 | hc21
  · have h := bif_t hc21 h
    refine Run.condT' rfl hc21 ?_
    refine Run.seq (Run.region ?_)
    refine Run.opG wantS_none (ex_assign rfl) rfl ?_
    refine Run.opsEnd ?_
    cases h
    exact Run.ret Try.func99 rfl (res_tmp rfl res_nil) rfl
  · have h := bif_f hc21 h
    refine Run.condF' rfl hc21 ?_
    refine Run.skip (Run.seq (Run.region ?_))
    refine Run.opG wantS_none (ex_assign rfl) rfl ?_
    refine Run.opsEnd (Run.seq (Run.seq (Run.region ?_)))
    refine Run.opG wantS_none (ex_move rfl) rfl ?_
    refine Run.opG wantS_none (ex_len' rfl hs0 lenk33) rfl ?_
    refine Run.opG wantS_none (ex_move rfl) rfl ?_
    refine Run.opsEnd (Run.block (Run.loop ?_))
    exact Run.pick [3, 9, 10, 11] (search_areTriggers_1_ok F F ((-1) : Int) a0 (a0.length : Int) (0 : Int) s0 _ _ _ hs0 hH h)

theorem mkk99 : makeK Try.prog 99 = none := by kernel_rfl
theorem cal99 : callable Try.prog 99 = true := by kernel_rfl
abbrev search_checkTriggers_post (r : Int) : SV → Mem → Prop := fun s _ => s = (.int .i64 r)

def search_checkTriggers_1 (F : Nat) : Nat → (List (List S_api_Trigger)) → Int → Int → Option (Int)
  | 0, _, _, _ => none
  | N + 1, v5, v6, v7 =>
    bif (decide (v7 < v6)) then
      bnd (idx v5 v7) fun x23 =>
      bnd (search_areTriggers F x23) fun r25 =>
      bif (!r25) then
        some (80 : Int)
      else
        (search_checkTriggers_1 F N) v5 v6 (w64 (v7 + (1 : Int)))
    else
      some (0 : Int)

theorem search_checkTriggers_1_ok (F : Nat) : ∀ (N : Nat), ∀ (v5 : (List (List S_api_Trigger))) (v6 v7 : Int) (sv5 : SV) (Fr : Rd) (M : Mem) (r : Int) (hv5 : Slc Fr 1 (rep33 Fr) sv5 v5) (hH : Has Fr M []), search_checkTriggers_1 F N v5 v6 v7 = some r → Run Try.prog ⟨⟨66, [], none⟩, []⟩ 15 (search_checkTriggers_post r) [(5, sv5), (6, (.int .i64 v6)), (7, (.int .i64 v7))] [codeC Try.prog 66 [1, 0, 1, 0, 0], loopC Try.prog 66 [1, 0, 1, 0, 0], .inBlock 0, codeC Try.prog 66 [1, 1]] M := by
  intro N
  induction N with
  | zero =>
    intro v5 v6 v7 sv5 Fr M r hv5 hH h
    simp [search_checkTriggers_1] at h
  | succ N ih =>
    intro v5 v6 v7 sv5 Fr M r hv5 hH h
    rw [search_checkTriggers_1] at h
    refine Run.seq (Run.region ?_)
    refine Run.opG wantS_none (ex_lss rfl rfl) rfl ?_
    refine Run.opsEnd (Run.seq ?_)
    rcases btf ((decide (v7 < v6))) with hc21 | hc21
    · have h := bif_t hc21 h
      refine Run.condT' rfl hc21 ?_
      refine Run.skip (Run.seq (Run.block (Run.seq (Run.region ?_))))
      obtain ⟨x23, hx23, h⟩ := bnd_some h
      obtain ⟨p23, o23, _, hx23, hp23, ⟨q23_0, rfl, hq23_0⟩⟩ := sl_elem (P := Try.prog) (t := 116) (kk := .i64) hv5 hx23 els116
      refine Run.opG wantS_none (ex_elX rfl rfl hx23) rfl ?_
      refine Run.opG wantS_none (ex_load1 rfl (hH.ptrF hp23) rdLe_rfl agg33) rfl ?_
      refine Run.opG wantS_none (ex_assign rfl) rfl ?_
      refine Run.opsEnd (Run.seq (Run.region ?_))
      refine Run.opG wantS_none (ex_move rfl) rfl ?_
      obtain ⟨r25, hr25, h⟩ := bnd_some h
      refine Run.callP wantS_none (ex_call rfl mkk99 cal99) rfl (search_areTriggers_ok F x23 q23_0 _ _ (hH.slcF hq23_0) hr25) ?_
      refine Run.opG wantS_none (ex_not rfl) rfl ?_
      refine Run.opsEnd ?_
      rcases btf ((!r25)) with hc27 | hc27
      · have h := bif_t hc27 h
        refine Run.condT' rfl hc27 ?_
        refine Run.seq (Run.region ?_)
        refine Run.opG wantS_none (ex_assign rfl) rfl ?_
        refine Run.opsEnd ?_
        cases h
        exact Run.ret Try.func66 rfl (res_tmp rfl res_nil) rfl
      · have h := bif_f hc27 h
        refine Run.condF' rfl hc27 ?_
        refine Run.skip (Run.inBlock (Run.region ?_))
        refine Run.opG wantS_none (ex_add rfl rfl) rfl ?_
        refine Run.opG wantS_none (ex_move rfl) rfl ?_
        refine Run.opsEnd (Run.inLoop ?_)
        exact Run.pick [5, 6, 7] (ih v5 v6 (w64 (v7 + (1 : Int))) sv5 _ _ _ hv5 hH h)
    · have h := bif_f hc21 h
      refine Run.condF' rfl hc21 ?_
      refine Run.exit rfl (Run.seq (Run.region ?_))
      refine Run.opG wantS_none (ex_assign rfl) rfl ?_
      refine Run.opsEnd ?_
      cases h
      exact Run.ret Try.func66 rfl (res_tmp rfl res_nil) rfl

def search_checkTriggers (F : Nat) (a0 : (List (List S_api_Trigger))) : Option (Int) :=
  search_checkTriggers_1 F F a0 (a0.length : Int) (0 : Int)

theorem search_checkTriggers_ok (F : Nat) (a0 : (List (List S_api_Trigger))) (s0 : SV) (r : Int) (M : Mem) (hs0 : Slc (rd M) 1 (rep33 (rd M)) s0 a0) (h : search_checkTriggers F a0 = some r) : CallsM Try.prog 66 [s0] M (fun s M' => s = (.int .i64 r) ∧ M' = M) := by
  refine CallsM.plain Try.func66 rfl rfl rfl (show Run _ _ _ (search_checkTriggers_post r) _ _ _ from ?_)
  rw [search_checkTriggers] at h
  replace hs0 := hs0.mono (rdLe_frozen M) (fun _ _ => rep33_mo (rdLe_frozen M))
  have hH := Has.nil (frozen M)
  refine Run.seq (Run.region ?_)
  refine Run.opG wantS_none (ex_assign rfl) rfl ?_
  refine Run.opsEnd (Run.seq (Run.seq (Run.region ?_)))
  refine Run.opG wantS_none (ex_move rfl) rfl ?_
  refine Run.opG wantS_none (ex_len' rfl hs0 lenk116) rfl ?_
  refine Run.opG wantS_none (ex_move rfl) rfl ?_
  refine Run.opsEnd (Run.block (Run.loop ?_))
  exact Run.pick [5, 6, 7] (search_checkTriggers_1_ok F F a0 (a0.length : Int) (0 : Int) s0 _ _ _ hs0 hH h)

theorem mkk66 : makeK Try.prog 66 = none := by kernel_rfl
theorem cal66 : callable Try.prog 66 = true := by kernel_rfl
theorem off80_0 : fieldOff Try.prog 80 0 = some 0 := by kernel_rfl
theorem off80_2 : fieldOff Try.prog 80 2 = some 2 := by kernel_rfl
abbrev search_clock_slides_post (r : Int) : SV → Mem → Prop := fun s _ => s = (.int .i64 r)

def search_clock_slides (F : Nat) (a0 : S_search_clock) : Option (Int) :=
  bnd (nz a0.step) fun z25 =>
  some (w64 (Int.tdiv a0.live a0.step))

theorem search_clock_slides_ok (F : Nat) (a0 : S_search_clock) (r : Int) (M : Mem) (h : search_clock_slides F a0 = some r) : CallsM Try.prog 39 [(.agg [(.int .i64 a0.live), (.int .i64 a0.window), (.int .i64 a0.step)])] M (fun s M' => s = (.int .i64 r) ∧ M' = M) := by
  refine CallsM.plain Try.func39 rfl rfl rfl (show Run _ _ _ (search_clock_slides_post r) _ _ _ from ?_)
  rw [search_clock_slides] at h
  have hH := Has.nil (frozen M)
  refine Run.seq (Run.region ?_)
  refine Run.opX wantS_none rfl (ExG.box rfl rfl hH) ?_
  rintro _ M23 ⟨b22, rfl, hH23⟩
  refine Run.opG wantS_none (ex_assign rfl) rfl ?_
  refine Run.opsEnd (Run.seq (Run.region ?_))
  refine Run.opG wantS_none (ex_fieldAddr rfl off80_0) rfl ?_
  refine Run.opG wantS_none (ex_load1 rfl (hH23.cells (i := 0) rfl 0 rfl) rdLe_rfl agg3) rfl ?_
  refine Run.opG wantS_none (ex_fieldAddr rfl off80_2) rfl ?_
  refine Run.opG wantS_none (ex_load1 rfl (hH23.cells (i := 0) rfl 2 rfl) rdLe_rfl agg3) rfl ?_
  obtain ⟨z25, hz25, h⟩ := bnd_some h
  refine Run.opG wantS_none (ex_quo' rfl rfl hz25) rfl ?_
  refine Run.opG wantS_none (ex_assign rfl) rfl ?_
  refine Run.opsEnd ?_
  cases h
  exact Run.ret Try.func39 rfl (res_tmp rfl res_nil) rfl

theorem mkk39 : makeK Try.prog 39 = none := by kernel_rfl
theorem cal39 : callable Try.prog 39 = true := by kernel_rfl
theorem off80_1 : fieldOff Try.prog 80 1 = some 1 := by kernel_rfl
abbrev search_clock_isValid_post (r : Bool) : SV → Mem → Prop := fun s _ => s = (.bool r)

def search_clock_isValid_3 (F : Nat) (v34 : Bool) : Option (Bool) :=
  some v34

theorem search_clock_isValid_3_ok (F : Nat) : ∀ (v34 : Bool) (Fr : Rd) (M : Mem) (r : Bool) (hH : Has Fr M []), search_clock_isValid_3 F v34 = some r → Run Try.prog ⟨⟨69, [], none⟩, []⟩ 35 (search_clock_isValid_post r) [(34, (.bool v34))] [itemC Try.prog 69 [1, 1, 0] 11, codeC Try.prog 69 [1, 1, 1]] M := by
  intro v34 Fr M r hH h
  rw [search_clock_isValid_3] at h
  refine Run.opG wantS_none (ex_assign rfl) rfl ?_
  refine Run.opsEnd ?_
  cases h
  exact Run.ret Try.func69 rfl (res_tmp rfl res_nil) rfl

def search_clock_isValid_2 (F : Nat) (v23 : Bool) (c22 : S_search_clock) : Option (Bool) :=
  bif v23 then
    some false
  else
    bnd (nz c22.step) fun z31 =>
    bif ((Int.tmod c22.live c22.step) == (0 : Int)) then
      bnd (search_clock_slides F c22) fun r34 =>
      search_clock_isValid_3 F (decide (r34 ≤ (256 : Int)))
    else
      search_clock_isValid_3 F false

theorem search_clock_isValid_2_ok (F : Nat) : ∀ (v23 : Bool) (c22 : S_search_clock) (b22 : Pos) (Fr : Rd) (M : Mem) (r : Bool) (hH : Has Fr M [.obj b22 (.row 80 .whole [(.int .i64 c22.live), (.int .i64 c22.window), (.int .i64 c22.step)])]), search_clock_isValid_2 F v23 c22 = some r → Run Try.prog ⟨⟨69, [], none⟩, []⟩ 35 (search_clock_isValid_post r) [(1, (.ptr b22 0)), (23, (.bool v23))] [codeC Try.prog 69 [1, 0, 1], codeC Try.prog 69 [1, 1]] M := by
  intro v23 c22 b22 Fr M r hH h
  rw [search_clock_isValid_2] at h
  rcases btf (v23) with hc29 | hc29
  · have h := bif_t hc29 h
    refine Run.condT' rfl hc29 ?_
    refine Run.seq (Run.region ?_)
    refine Run.opG wantS_none (ex_assign rfl) rfl ?_
    refine Run.opsEnd ?_
    cases h
    exact Run.ret Try.func69 rfl (res_tmp rfl res_nil) rfl
  · have h := bif_f hc29 h
    refine Run.condF' rfl hc29 ?_
    refine Run.skip (Run.seq (Run.region ?_))
    refine Run.opG wantS_none (ex_fieldAddr rfl off80_0) rfl ?_
    refine Run.opG wantS_none (ex_load1 rfl (hH.cells (i := 0) rfl 0 rfl) rdLe_rfl agg3) rfl ?_
    refine Run.opG wantS_none (ex_fieldAddr rfl off80_2) rfl ?_
    refine Run.opG wantS_none (ex_load1 rfl (hH.cells (i := 0) rfl 2 rfl) rdLe_rfl agg3) rfl ?_
    obtain ⟨z31, hz31, h⟩ := bnd_some h
    refine Run.opG wantS_none (ex_rem' rfl rfl hz31) rfl ?_
    refine Run.opG wantS_none (ex_eql rfl rfl) rfl ?_
    refine Run.opG wantS_none (ex_move rfl) rfl ?_
    rcases btf (((Int.tmod c22.live c22.step) == (0 : Int))) with hc32 | hc32
    · have h := bif_t hc32 h
      refine Run.opG (wantS_yes' rfl rfl hc32) (ex_loadA rfl (hH.cells (i := 0) rfl 0 rfl) rdLe_rfl agg80 rfl rfl rfl) rfl ?_
      obtain ⟨r34, hr34, h⟩ := bnd_some h
      refine Run.callP (wantS_yes' rfl rfl hc32) (ex_call rfl mkk39 cal39) rfl (search_clock_slides_ok F c22 _ _ hr34) ?_
      refine Run.opG (wantS_yes' rfl rfl hc32) (ex_leq rfl rfl) rfl ?_
      refine Run.opG wantS_none (ex_pickT' rfl hc32 rfl rfl) rfl ?_
      exact Run.pick [34] (search_clock_isValid_3_ok F (decide (r34 ≤ (256 : Int))) _ _ _ (hH.pick [] rfl rfl) h)
    · have h := bif_f hc32 h
      refine Run.no (wantS_not' rfl rfl hc32) rfl ?_
      refine Run.no (wantS_not' rfl rfl hc32) rfl ?_
      refine Run.no (wantS_not' rfl rfl hc32) rfl ?_
      refine Run.opG wantS_none (ex_pickF' rfl hc32 rfl rfl) rfl ?_
      exact Run.pick [34] (search_clock_isValid_3_ok F false _ _ _ (hH.pick [] rfl rfl) h)

def search_clock_isValid_1 (F : Nat) (v15 : Bool) (c22 : S_search_clock) : Option (Bool) :=
  bif v15 then
    search_clock_isValid_2 F true c22
  else
    bnd (search_isFrom F (1 : Int) c22.step c22.live) fun r37 =>
    search_clock_isValid_2 F (!r37) c22

theorem search_clock_isValid_1_ok (F : Nat) : ∀ (v15 : Bool) (c22 : S_search_clock) (b22 : Pos) (Fr : Rd) (M : Mem) (r : Bool) (hH : Has Fr M [.obj b22 (.row 80 .whole [(.int .i64 c22.live), (.int .i64 c22.window), (.int .i64 c22.step)])]), search_clock_isValid_1 F v15 c22 = some r → Run Try.prog ⟨⟨69, [], none⟩, []⟩ 35 (search_clock_isValid_post r) [(1, (.ptr b22 0)), (15, (.bool v15))] [itemC Try.prog 69 [1, 0, 0] 13, codeC Try.prog 69 [1, 0, 1], codeC Try.prog 69 [1, 1]] M := by
  intro v15 c22 b22 Fr M r hH h
  rw [search_clock_isValid_1] at h
  refine Run.opG wantS_none (ex_move rfl) rfl ?_
  rcases btf (v15) with hc28 | hc28
  · have h := bif_t hc28 h
    refine Run.no (wantS_not' rfl rfl hc28) rfl ?_
    refine Run.no (wantS_not' rfl rfl hc28) rfl ?_
    refine Run.no (wantS_not' rfl rfl hc28) rfl ?_
    refine Run.no (wantS_not' rfl rfl hc28) rfl ?_
    refine Run.no (wantS_not' rfl rfl hc28) rfl ?_
    refine Run.no (wantS_not' rfl rfl hc28) rfl ?_
    refine Run.opG wantS_none (ex_pickT' rfl hc28 rfl rfl) rfl ?_
    refine Run.opsEnd ?_
    exact Run.pick [1, 23] (search_clock_isValid_2_ok F true c22 b22 _ _ _ hH h)
  · have h := bif_f hc28 h
    refine Run.opG (wantS_yes' rfl rfl hc28) (ex_fieldAddr rfl off80_2) rfl ?_
    refine Run.opG (wantS_yes' rfl rfl hc28) (ex_load1 rfl (hH.cells (i := 0) rfl 2 rfl) rdLe_rfl agg3) rfl ?_
    refine Run.opG (wantS_yes' rfl rfl hc28) (ex_fieldAddr rfl off80_0) rfl ?_
    refine Run.opG (wantS_yes' rfl rfl hc28) (ex_load1 rfl (hH.cells (i := 0) rfl 0 rfl) rdLe_rfl agg3) rfl ?_
    obtain ⟨r37, hr37, h⟩ := bnd_some h
    refine Run.callP (wantS_yes' rfl rfl hc28) (ex_call rfl mkk36 cal36) rfl (search_isFrom_ok F (1 : Int) c22.step c22.live _ _ hr37) ?_
    refine Run.opG (wantS_yes' rfl rfl hc28) (ex_not rfl) rfl ?_
    refine Run.opG wantS_none (ex_pickF' rfl hc28 rfl rfl) rfl ?_
    refine Run.opsEnd ?_
    exact Run.pick [1, 23] (search_clock_isValid_2_ok F (!r37) c22 b22 _ _ _ hH h)

def search_clock_isValid (F : Nat) (a0 : S_search_clock) : Option (Bool) :=
  bnd (search_isFrom F (1 : Int) a0.live (1073741824 : Int)) fun r25 =>
  bif (!r25) then
    search_clock_isValid_1 F true a0
  else
    bnd (search_isFrom F (0 : Int) a0.window (w64 (a0.live - (1 : Int)))) fun r40 =>
    search_clock_isValid_1 F (!r40) a0

theorem search_clock_isValid_ok (F : Nat) (a0 : S_search_clock) (r : Bool) (M : Mem) (h : search_clock_isValid F a0 = some r) : CallsM Try.prog 69 [(.agg [(.int .i64 a0.live), (.int .i64 a0.window), (.int .i64 a0.step)])] M (fun s M' => s = (.bool r) ∧ M' = M) := by
  refine CallsM.plain Try.func69 rfl rfl rfl (show Run _ _ _ (search_clock_isValid_post r) _ _ _ from ?_)
  rw [search_clock_isValid] at h
  have hH := Has.nil (frozen M)
  refine Run.seq (Run.region ?_)
  refine Run.opX wantS_none rfl (ExG.box rfl rfl hH) ?_
  rintro _ M23 ⟨b22, rfl, hH23⟩
  refine Run.opG wantS_none (ex_assign rfl) rfl ?_
  refine Run.opsEnd (Run.seq (Run.seq (Run.region ?_)))
  refine Run.opG wantS_none (ex_fieldAddr rfl off80_0) rfl ?_
  refine Run.opG wantS_none (ex_load1 rfl (hH23.cells (i := 0) rfl 0 rfl) rdLe_rfl agg3) rfl ?_
  obtain ⟨r25, hr25, h⟩ := bnd_some h
  refine Run.callP wantS_none (ex_call rfl mkk36 cal36) rfl (search_isFrom_ok F (1 : Int) a0.live (1073741824 : Int) _ _ hr25) ?_
  refine Run.opG wantS_none (ex_not rfl) rfl ?_
  refine Run.opG wantS_none (ex_move rfl) rfl ?_
  rcases btf ((!r25)) with hc27 | hc27
  · have h := bif_t hc27 h
    refine Run.no (wantS_not' rfl rfl hc27) rfl ?_
    refine Run.no (wantS_not' rfl rfl hc27) rfl ?_
    refine Run.no (wantS_not' rfl rfl hc27) rfl ?_
    refine Run.no (wantS_not' rfl rfl hc27) rfl ?_
    refine Run.no (wantS_not' rfl rfl hc27) rfl ?_
    refine Run.no (wantS_not' rfl rfl hc27) rfl ?_
    refine Run.no (wantS_not' rfl rfl hc27) rfl ?_
    refine Run.opG wantS_none (ex_pickT' rfl hc27 rfl rfl) rfl ?_
    exact Run.pick [1, 15] (search_clock_isValid_1_ok F true a0 b22 _ _ _ hH23 h)
  · have h := bif_f hc27 h
    refine Run.opG (wantS_yes' rfl rfl hc27) (ex_fieldAddr rfl off80_1) rfl ?_
    refine Run.opG (wantS_yes' rfl rfl hc27) (ex_load1 rfl (hH23.cells (i := 0) rfl 1 rfl) rdLe_rfl agg3) rfl ?_
    refine Run.opG (wantS_yes' rfl rfl hc27) (ex_fieldAddr rfl off80_0) rfl ?_
    refine Run.opG (wantS_yes' rfl rfl hc27) (ex_load1 rfl (hH23.cells (i := 0) rfl 0 rfl) rdLe_rfl agg3) rfl ?_
    refine Run.opG (wantS_yes' rfl rfl hc27) (ex_sub rfl rfl) rfl ?_
    obtain ⟨r40, hr40, h⟩ := bnd_some h
    refine Run.callP (wantS_yes' rfl rfl hc27) (ex_call rfl mkk36 cal36) rfl (search_isFrom_ok F (0 : Int) a0.window (w64 (a0.live - (1 : Int))) _ _ hr40) ?_
    refine Run.opG (wantS_yes' rfl rfl hc27) (ex_not rfl) rfl ?_
    refine Run.opG wantS_none (ex_pickF' rfl hc27 rfl rfl) rfl ?_
    exact Run.pick [1, 15] (search_clock_isValid_1_ok F (!r40) a0 b22 _ _ _ hH23 h)

theorem mkk69 : makeK Try.prog 69 = none := by kernel_rfl
theorem cal69 : callable Try.prog 69 = true := by kernel_rfl
theorem mkk70 : makeK Try.prog 70 = none := by kernel_rfl
theorem cal70 : callable Try.prog 70 = true := by kernel_rfl
theorem mkk102 : makeK Try.prog 102 = none := by kernel_rfl
theorem cal102 : callable Try.prog 102 = true := by kernel_rfl
theorem mkk67 : makeK Try.prog 67 = none := by kernel_rfl
theorem cal67 : callable Try.prog 67 = true := by kernel_rfl
theorem mkk101 : makeK Try.prog 101 = none := by kernel_rfl
theorem cal101 : callable Try.prog 101 = true := by kernel_rfl
theorem mkk81 : makeK Try.prog 81 = none := by kernel_rfl
theorem cal81 : callable Try.prog 81 = true := by kernel_rfl
theorem mkk100 : makeK Try.prog 100 = none := by kernel_rfl
theorem cal100 : callable Try.prog 100 = true := by kernel_rfl
abbrev search_clock_fits_post (r : Bool) : SV → Mem → Prop := fun s _ => s = (.bool r)

def search_clock_fits_1 (F : Nat) : Nat → (List S_api_Trigger) → Int → Int → S_search_clock → Option (Bool)
  | 0, _, _, _, _ => none
  | N + 1, v0, v7, v8, c22 =>
    bif (decide (v8 < v7)) then
      bnd (idx v0 v8) fun x26 =>
      bif (decide (c22.live ≤ x26.Time)) then
        some (!(decide ((0 : Int) ≤ v8)))
      else
        (search_clock_fits_1 F N) v0 v7 (w64 (v8 + (1 : Int))) c22
    else
      some (!(decide ((0 : Int) ≤ ((-1) : Int))))

theorem search_clock_fits_1_ok (F : Nat) : ∀ (N : Nat), ∀ (v0 : (List S_api_Trigger)) (v7 v8 : Int) (c22 : S_search_clock) (sv0 : SV) (b22 : Pos) (Fr : Rd) (M : Mem) (r : Bool) (hv0 : Slc Fr 3 (FlatR enc73) sv0 v0) (hH : Has Fr M [.obj b22 (.row 80 .whole [(.int .i64 c22.live), (.int .i64 c22.window), (.int .i64 c22.step)])]), search_clock_fits_1 F N v0 v7 v8 c22 = some r → Run Try.prog ⟨⟨81, [], none⟩, [.mk ⟨101, [], none⟩ 9 (treeOf []) [itemC Try.prog 101 [1, 0] 2, codeC Try.prog 101 [1, 1]], .mk ⟨68, [], none⟩ 11 (treeOf []) [itemC Try.prog 68 [1, 1, 0] 2, codeC Try.prog 68 [1, 1, 1]]]⟩ 19 (search_clock_fits_post r) [(0, sv0), (1, (.fn (.func 100) [] [(.ptr b22 0)])), (7, (.int .i64 v7)), (8, (.int .i64 v8))] [codeC Try.prog 81 [1, 0, 1, 0, 0], loopC Try.prog 81 [1, 0, 1, 0, 0], .inBlock 0, codeC Try.prog 81 [1, 1]] M := by
  intro N
  induction N with
  | zero =>
    intro v0 v7 v8 c22 sv0 b22 Fr M r hv0 hH h
    simp [search_clock_fits_1] at h
  | succ N ih =>
    intro v0 v7 v8 c22 sv0 b22 Fr M r hv0 hH h
    rw [search_clock_fits_1] at h
    refine Run.seq (Run.region ?_)
    refine Run.opG wantS_none (ex_lss rfl rfl) rfl ?_
    refine Run.opsEnd (Run.seq ?_)
    rcases btf ((decide (v8 < v7))) with hc24 | hc24
    · have h := bif_t hc24 h
      refine Run.condT' rfl hc24 ?_
      refine Run.skip (Run.seq (Run.block (Run.seq (Run.region ?_))))
      refine Run.opG wantS_none (ex_move rfl) rfl ?_
      refine Run.opG wantS_none (ex_assign rfl) rfl ?_
      refine Run.opsEnd (Run.seq (Run.region ?_))
      refine Run.opG wantS_none (ex_move rfl) rfl ?_
      refine Run.opG wantS_none (ex_move rfl) rfl ?_
      refine Run.opG wantS_none (ex_move rfl) rfl ?_
      obtain ⟨x26, hx26, h⟩ := bnd_some h
      obtain ⟨p26, o26, _, hx26, hp26, rfl⟩ := sl_elem (P := Try.prog) (t := 33) (kk := .i64) hv0 hx26 els33
      refine Run.opG wantS_none (ex_elX rfl rfl hx26) rfl ?_
      refine Run.opG wantS_none (ex_loadA rfl (hH.ptrF hp26) rdLe_rfl agg73 rfl rfl rfl) rfl ?_
      refine Run.enter wantS_none (ex_closure rfl rfl mkk100 cal100) Try.func100 rfl rfl ?_
      refine Run.seq (Run.region ?_)
      refine Run.opX wantS_none rfl (ExG.box rfl rfl hH) ?_
      rintro _ M29 ⟨b28, rfl, hH29⟩
      refine Run.opG wantS_none (ex_assign rfl) rfl ?_
      refine Run.opsEnd (Run.seq (Run.region ?_))
      refine Run.opG wantS_none (ex_fieldAddr rfl off73_0) rfl ?_
      refine Run.opG wantS_none (ex_load1 rfl (hH29.cells (i := 0) rfl 0 rfl) rdLe_rfl agg3) rfl ?_
      refine Run.opG wantS_none (ex_fieldAddr rfl off80_0) rfl ?_
      refine Run.opG wantS_none (ex_load1 rfl (hH29.cells (i := 1) rfl 0 rfl) rdLe_rfl agg3) rfl ?_
      refine Run.opG wantS_none (ex_geq rfl rfl) rfl ?_
      refine Run.opG wantS_none (ex_assign rfl) rfl ?_
      refine Run.opsEnd ?_
      refine Run.retTo Try.func100 rfl (res_tmp rfl res_nil) rfl ?_
      refine Run.opsEnd ?_
      rcases btf ((decide (c22.live ≤ x26.Time))) with hc30 | hc30
      · have h := bif_t hc30 h
        refine Run.condT' rfl hc30 ?_
        refine Run.seq (Run.region ?_)
        refine Run.opG wantS_none (ex_move rfl) rfl ?_
        refine Run.opG wantS_none (ex_assign rfl) rfl ?_
        refine Run.opsEnd ?_
        refine Run.retTo Try.func81 rfl (res_tmp rfl res_nil) rfl ?_
        refine Run.opG wantS_none (ex_geq rfl rfl) rfl ?_
        refine Run.opG wantS_none (ex_assign rfl) rfl ?_
        refine Run.opsEnd ?_
        refine Run.retTo Try.func101 rfl (res_tmp rfl res_nil) rfl ?_
        refine Run.opG wantS_none (ex_not rfl) rfl ?_
        refine Run.opG wantS_none (ex_assign rfl) rfl ?_
        refine Run.opsEnd ?_
        cases h
        exact Run.ret Try.func68 rfl (res_tmp rfl res_nil) rfl
      · have h := bif_f hc30 h
        refine Run.condF' rfl hc30 ?_
        refine Run.skip (Run.inBlock (Run.region ?_))
        refine Run.opG wantS_none (ex_add rfl rfl) rfl ?_
        refine Run.opG wantS_none (ex_move rfl) rfl ?_
        refine Run.opsEnd (Run.inLoop ?_)
        exact Run.low (.cons (fle_pick [] rfl) (.cons (fle_pick [] rfl) .nil)) (Run.pick [0, 1, 7, 8] (ih v0 v7 (w64 (v8 + (1 : Int))) c22 sv0 b22 _ _ _ hv0 (hH29.pick [1] rfl rfl) h))
    · have h := bif_f hc24 h
      refine Run.condF' rfl hc24 ?_
      refine Run.exit rfl (Run.seq (Run.region ?_))
      refine Run.opG wantS_none (ex_assign rfl) rfl ?_
      refine Run.opsEnd ?_
      refine Run.retTo Try.func81 rfl (res_tmp rfl res_nil) rfl ?_
      refine Run.opG wantS_none (ex_geq rfl rfl) rfl ?_
      refine Run.opG wantS_none (ex_assign rfl) rfl ?_
      refine Run.opsEnd ?_
      refine Run.retTo Try.func101 rfl (res_tmp rfl res_nil) rfl ?_
      refine Run.opG wantS_none (ex_not rfl) rfl ?_
      refine Run.opG wantS_none (ex_assign rfl) rfl ?_
      refine Run.opsEnd ?_
      cases h
      exact Run.ret Try.func68 rfl (res_tmp rfl res_nil) rfl

def search_clock_fits (F : Nat) (a0 : S_search_clock) (a1 : (List S_api_Trigger)) : Option (Bool) :=
  search_clock_fits_1 F F a1 (a1.length : Int) (0 : Int) a0

theorem search_clock_fits_ok (F : Nat) (a0 : S_search_clock) (a1 : (List S_api_Trigger)) (s0 : SV) (r : Bool) (M : Mem) (hs0 : Slc (rd M) 3 (FlatR enc73) s0 a1) (h : search_clock_fits F a0 a1 = some r) : CallsM Try.prog 68 [(.agg [(.int .i64 a0.live), (.int .i64 a0.window), (.int .i64 a0.step)]), s0] M (fun s M' => s = (.bool r) ∧ M' = M) := by
  refine CallsM.plain Try.func68 rfl rfl rfl (show Run _ _ _ (search_clock_fits_post r) _ _ _ from ?_)
  rw [search_clock_fits] at h
  replace hs0 := hs0.mono (rdLe_frozen M) (fun _ _ h => h)
  have hH := Has.nil (frozen M)
  refine Run.seq (Run.region ?_)
  refine Run.opX wantS_none rfl (ExG.box rfl rfl hH) ?_
  rintro _ M23 ⟨b22, rfl, hH23⟩
  refine Run.opG wantS_none (ex_assign rfl) rfl ?_
  refine Run.opsEnd (Run.seq (Run.region ?_))
  refine Run.opG wantS_none (ex_makeFunc rfl rfl) rfl ?_
  refine Run.opG wantS_none (ex_assign rfl) rfl ?_
  refine Run.opsEnd (Run.seq (Run.region ?_))
  refine Run.opG wantS_none (ex_move rfl) rfl ?_
  refine Run.opG wantS_none (ex_move rfl) rfl ?_
  refine Run.enter wantS_none (ex_call rfl mkk101 cal101) Try.func101 rfl rfl ?_
  refine Run.seq (Run.region ?_)
  refine Run.opG wantS_none (ex_assign rfl) rfl ?_
  refine Run.opsEnd (Run.seq (Run.region ?_))
  refine Run.opG wantS_none (ex_move rfl) rfl ?_
  refine Run.opG wantS_none (ex_move rfl) rfl ?_
  refine Run.enter wantS_none (ex_call rfl mkk81 cal81) Try.func81 rfl rfl ?_
  refine Run.seq (Run.region ?_)
  refine Run.opG wantS_none (ex_assign rfl) rfl ?_
  refine Run.opsEnd (Run.seq (Run.seq (Run.region ?_)))
  refine Run.opG wantS_none (ex_move rfl) rfl ?_
  refine Run.opG wantS_none (ex_len' rfl hs0 lenk33) rfl ?_
  refine Run.opG wantS_none (ex_move rfl) rfl ?_
  refine Run.opsEnd (Run.block (Run.loop ?_))
  exact Run.low (.cons (fle_pick [] rfl) (.cons (fle_pick [] rfl) .nil)) (Run.pick [0, 1, 7, 8] (search_clock_fits_1_ok F F a1 (a1.length : Int) (0 : Int) a0 s0 b22 _ _ _ hs0 hH23 h))

theorem mkk68 : makeK Try.prog 68 = none := by kernel_rfl
theorem cal68 : callable Try.prog 68 = true := by kernel_rfl
abbrev search_clock_check_post (r : Int) : SV → Mem → Prop := fun s _ => s = (.int .i64 r)

def search_clock_check_1 (F : Nat) (v20 : Bool) : Option (Int) :=
  bif v20 then
    some (81 : Int)
  else
    some (0 : Int)

theorem search_clock_check_1_ok (F : Nat) : ∀ (v20 : Bool) (Fr : Rd) (M : Mem) (r : Int) (hH : Has Fr M []), search_clock_check_1 F v20 = some r → Run Try.prog ⟨⟨38, [], none⟩, []⟩ 21 (search_clock_check_post r) [(20, (.bool v20))] [codeC Try.prog 38 [1, 1, 1, 0, 1], codeC Try.prog 38 [1, 1, 1, 1]] M := by
  intro v20 Fr M r hH h
  rw [search_clock_check_1] at h
  rcases btf (v20) with hc32 | hc32
  · have h := bif_t hc32 h
    refine Run.condT' rfl hc32 ?_
    refine Run.seq (Run.region ?_)
    refine Run.opG wantS_none (ex_assign rfl) rfl ?_
    refine Run.opsEnd ?_
    cases h
    exact Run.ret Try.func38 rfl (res_tmp rfl res_nil) rfl
  · have h := bif_f hc32 h
    refine Run.condF' rfl hc32 ?_
    refine Run.skip (Run.seq (Run.region ?_))
    refine Run.opG wantS_none (ex_assign rfl) rfl ?_
    refine Run.opsEnd ?_
    cases h
    exact Run.ret Try.func38 rfl (res_tmp rfl res_nil) rfl

def search_clock_check_2 (F : Nat) : Nat → (List (List S_api_Trigger)) → Int → Int → Bool → S_search_clock → Option (Int)
  | 0, _, _, _, _, _ => none
  | N + 1, v0, v7, v8, v16_f2, c22 =>
    bif (decide (v8 < v7)) then
      bnd (idx v0 v8) fun x35 =>
      bnd (search_clock_fits F c22 x35) fun r37 =>
      bif (!r37) then
        search_clock_check_1 F (bif v16_f2 then true else (decide ((0 : Int) ≤ v8)))
      else
        (search_clock_check_2 F N) v0 v7 (w64 (v8 + (1 : Int))) v16_f2 c22
    else
      search_clock_check_1 F (bif v16_f2 then true else (decide ((0 : Int) ≤ ((-1) : Int))))

theorem search_clock_check_2_ok (F : Nat) : ∀ (N : Nat), ∀ (v0 : (List (List S_api_Trigger))) (v7 v8 : Int) (v16_f2 : Bool) (c22 : S_search_clock) (sv0 : SV) (b22 : Pos) (Fr : Rd) (M : Mem) (r : Int) (hv0 : Slc Fr 1 (rep33 Fr) sv0 v0) (hH : Has Fr M [.obj b22 (.row 80 .whole [(.int .i64 c22.live), (.int .i64 c22.window), (.int .i64 c22.step)])]), search_clock_check_2 F N v0 v7 v8 v16_f2 c22 = some r → Run Try.prog ⟨⟨102, [], none⟩, [.mk ⟨70, [], none⟩ 9 (treeOf []) [itemC Try.prog 70 [1, 0] 2, codeC Try.prog 70 [1, 1]], .mk ⟨38, [], none⟩ 21 (treeOf [(16, (.bool v16_f2))]) [itemC Try.prog 38 [1, 1, 1, 0, 0] 6, codeC Try.prog 38 [1, 1, 1, 0, 1], codeC Try.prog 38 [1, 1, 1, 1]]]⟩ 19 (search_clock_check_post r) [(0, sv0), (1, (.fn (.func 67) [] [(.ptr b22 0)])), (7, (.int .i64 v7)), (8, (.int .i64 v8))] [codeC Try.prog 102 [1, 0, 1, 0, 0], loopC Try.prog 102 [1, 0, 1, 0, 0], .inBlock 0, codeC Try.prog 102 [1, 1]] M := by
  intro N
  induction N with
  | zero =>
    intro v0 v7 v8 v16_f2 c22 sv0 b22 Fr M r hv0 hH h
    simp [search_clock_check_2] at h
  | succ N ih =>
    intro v0 v7 v8 v16_f2 c22 sv0 b22 Fr M r hv0 hH h
    rw [search_clock_check_2] at h
    refine Run.seq (Run.region ?_)
    refine Run.opG wantS_none (ex_lss rfl rfl) rfl ?_
    refine Run.opsEnd (Run.seq ?_)
    rcases btf ((decide (v8 < v7))) with hc33 | hc33
    · have h := bif_t hc33 h
      refine Run.condT' rfl hc33 ?_
      refine Run.skip (Run.seq (Run.block (Run.seq (Run.region ?_))))
      refine Run.opG wantS_none (ex_move rfl) rfl ?_
      refine Run.opG wantS_none (ex_assign rfl) rfl ?_
      refine Run.opsEnd (Run.seq (Run.region ?_))
      refine Run.opG wantS_none (ex_move rfl) rfl ?_
      refine Run.opG wantS_none (ex_move rfl) rfl ?_
      refine Run.opG wantS_none (ex_move rfl) rfl ?_
      obtain ⟨x35, hx35, h⟩ := bnd_some h
      obtain ⟨p35, o35, _, hx35, hp35, ⟨q35_0, rfl, hq35_0⟩⟩ := sl_elem (P := Try.prog) (t := 116) (kk := .i64) hv0 hx35 els116
      refine Run.opG wantS_none (ex_elX rfl rfl hx35) rfl ?_
      refine Run.opG wantS_none (ex_load1 rfl (hH.ptrF hp35) rdLe_rfl agg33) rfl ?_
      refine Run.enter wantS_none (ex_closure rfl rfl mkk67 cal67) Try.func67 rfl rfl ?_
      refine Run.seq (Run.region ?_)
      refine Run.opG wantS_none (ex_assign rfl) rfl ?_
      refine Run.opsEnd (Run.seq (Run.region ?_))
      refine Run.opG wantS_none (ex_loadA rfl (hH.cells (i := 0) rfl 0 rfl) rdLe_rfl agg80 rfl rfl rfl) rfl ?_
      refine Run.opG wantS_none (ex_move rfl) rfl ?_
      obtain ⟨r37, hr37, h⟩ := bnd_some h
      refine Run.callP wantS_none (ex_call rfl mkk68 cal68) rfl (search_clock_fits_ok F c22 x35 q35_0 _ _ (hH.slcF hq35_0) hr37) ?_
      refine Run.opG wantS_none (ex_not rfl) rfl ?_
      refine Run.opG wantS_none (ex_assign rfl) rfl ?_
      refine Run.opsEnd ?_
      refine Run.retTo Try.func67 rfl (res_tmp rfl res_nil) rfl ?_
      refine Run.opsEnd ?_
      rcases btf ((!r37)) with hc39 | hc39
      · have h := bif_t hc39 h
        refine Run.condT' rfl hc39 ?_
        refine Run.seq (Run.region ?_)
        refine Run.opG wantS_none (ex_move rfl) rfl ?_
        refine Run.opG wantS_none (ex_assign rfl) rfl ?_
        refine Run.opsEnd ?_
        refine Run.retTo Try.func102 rfl (res_tmp rfl res_nil) rfl ?_
        refine Run.opG wantS_none (ex_geq rfl rfl) rfl ?_
        refine Run.opG wantS_none (ex_assign rfl) rfl ?_
        refine Run.opsEnd ?_
        refine Run.retTo Try.func70 rfl (res_tmp rfl res_nil) rfl ?_
        refine Run.opG wantS_none (ex_pickB rfl rfl rfl) rfl ?_
        refine Run.opsEnd ?_
        exact Run.pick [20] (search_clock_check_1_ok F (bif v16_f2 then true else (decide ((0 : Int) ≤ v8))) _ _ _ (hH.pick [] rfl rfl) h)
      · have h := bif_f hc39 h
        refine Run.condF' rfl hc39 ?_
        refine Run.skip (Run.inBlock (Run.region ?_))
        refine Run.opG wantS_none (ex_add rfl rfl) rfl ?_
        refine Run.opG wantS_none (ex_move rfl) rfl ?_
        refine Run.opsEnd (Run.inLoop ?_)
        exact Run.low (.cons (fle_pick [] rfl) (.cons (fle_pick [16] rfl) .nil)) (Run.pick [0, 1, 7, 8] (ih v0 v7 (w64 (v8 + (1 : Int))) v16_f2 c22 sv0 b22 _ _ _ hv0 hH h))
    · have h := bif_f hc33 h
      refine Run.condF' rfl hc33 ?_
      refine Run.exit rfl (Run.seq (Run.region ?_))
      refine Run.opG wantS_none (ex_assign rfl) rfl ?_
      refine Run.opsEnd ?_
      refine Run.retTo Try.func102 rfl (res_tmp rfl res_nil) rfl ?_
      refine Run.opG wantS_none (ex_geq rfl rfl) rfl ?_
      refine Run.opG wantS_none (ex_assign rfl) rfl ?_
      refine Run.opsEnd ?_
      refine Run.retTo Try.func70 rfl (res_tmp rfl res_nil) rfl ?_
      refine Run.opG wantS_none (ex_pickB rfl rfl rfl) rfl ?_
      refine Run.opsEnd ?_
      exact Run.pick [20] (search_clock_check_1_ok F (bif v16_f2 then true else (decide ((0 : Int) ≤ ((-1) : Int)))) _ _ _ (hH.pick [] rfl rfl) h)

def search_clock_check (F : Nat) (a0 : S_search_clock) (a1 : (List (List S_api_Trigger))) : Option (Int) :=
  bnd (search_checkTriggers F a1) fun r25 =>
  bif (!(r25 == (0 : Int))) then
    some r25
  else
    bnd (search_clock_isValid F a0) fun r29 =>
    bif (!r29) then
      search_clock_check_1 F true
    else
      search_clock_check_2 F F a1 (a1.length : Int) (0 : Int) (!r29) a0

theorem search_clock_check_ok (F : Nat) (a0 : S_search_clock) (a1 : (List (List S_api_Trigger))) (s0 : SV) (r : Int) (M : Mem) (hs0 : Slc (rd M) 1 (rep33 (rd M)) s0 a1) (h : search_clock_check F a0 a1 = some r) : CallsM Try.prog 38 [(.agg [(.int .i64 a0.live), (.int .i64 a0.window), (.int .i64 a0.step)]), s0] M (fun s M' => s = (.int .i64 r) ∧ M' = M) := by
  refine CallsM.plain Try.func38 rfl rfl rfl (show Run _ _ _ (search_clock_check_post r) _ _ _ from ?_)
  rw [search_clock_check] at h
  replace hs0 := hs0.mono (rdLe_frozen M) (fun _ _ => rep33_mo (rdLe_frozen M))
  have hH := Has.nil (frozen M)
  refine Run.seq (Run.region ?_)
  refine Run.opX wantS_none rfl (ExG.box rfl rfl hH) ?_
  rintro _ M23 ⟨b22, rfl, hH23⟩
  refine Run.opG wantS_none (ex_assign rfl) rfl ?_
  refine Run.opsEnd (Run.seq (Run.seq (Run.region ?_)))
  refine Run.opG wantS_none (ex_move rfl) rfl ?_
  obtain ⟨r25, hr25, h⟩ := bnd_some h
  refine Run.callP wantS_none (ex_call rfl mkk66 cal66) rfl (search_checkTriggers_ok F a1 s0 _ _ ((hs0).mono hH23.le (fun _ _ => rep33_mo hH23.le)) hr25) ?_
  refine Run.opG wantS_none (ex_assign rfl) rfl ?_
  refine Run.opsEnd (Run.seq (Run.region ?_))
  refine Run.opG wantS_none (ex_move rfl) rfl ?_
  refine Run.opG wantS_none (ex_neq rfl rfl) rfl ?_
  refine Run.opsEnd ?_
  rcases btf ((!(r25 == (0 : Int)))) with hc27 | hc27
  · have h := bif_t hc27 h
    refine Run.condT' rfl hc27 ?_
    refine Run.seq (Run.region ?_)
    refine Run.opG wantS_none (ex_move rfl) rfl ?_
    refine Run.opG wantS_none (ex_assign rfl) rfl ?_
    refine Run.opsEnd ?_
    cases h
    exact Run.ret Try.func38 rfl (res_tmp rfl res_nil) rfl
  · have h := bif_f hc27 h
    refine Run.condF' rfl hc27 ?_
    refine Run.skip (Run.seq (Run.region ?_))
    refine Run.opG wantS_none (ex_makeFunc rfl rfl) rfl ?_
    refine Run.opG wantS_none (ex_assign rfl) rfl ?_
    refine Run.opsEnd (Run.seq (Run.seq (Run.region ?_)))
    refine Run.opG wantS_none (ex_loadA rfl (hH23.cells (i := 0) rfl 0 rfl) rdLe_rfl agg80 rfl rfl rfl) rfl ?_
    obtain ⟨r29, hr29, h⟩ := bnd_some h
    refine Run.callP wantS_none (ex_call rfl mkk69 cal69) rfl (search_clock_isValid_ok F a0 _ _ hr29) ?_
    refine Run.opG wantS_none (ex_not rfl) rfl ?_
    refine Run.opG wantS_none (ex_move rfl) rfl ?_
    rcases btf ((!r29)) with hc31 | hc31
    · have h := bif_t hc31 h
      refine Run.no (wantS_not' rfl rfl hc31) rfl ?_
      refine Run.no (wantS_not' rfl rfl hc31) rfl ?_
      refine Run.no (wantS_not' rfl rfl hc31) rfl ?_
      refine Run.opG wantS_none (ex_pickT' rfl hc31 rfl rfl) rfl ?_
      refine Run.opsEnd ?_
      exact Run.pick [20] (search_clock_check_1_ok F true _ _ _ (hH23.pick [] rfl rfl) h)
    · have h := bif_f hc31 h
      refine Run.opG (wantS_yes' rfl rfl hc31) (ex_move rfl) rfl ?_
      refine Run.opG (wantS_yes' rfl rfl hc31) (ex_move rfl) rfl ?_
      refine Run.enter (wantS_yes' rfl rfl hc31) (ex_call rfl mkk70 cal70) Try.func70 rfl rfl ?_
      refine Run.seq (Run.region ?_)
      refine Run.opG wantS_none (ex_assign rfl) rfl ?_
      refine Run.opsEnd (Run.seq (Run.region ?_))
      refine Run.opG wantS_none (ex_move rfl) rfl ?_
      refine Run.opG wantS_none (ex_move rfl) rfl ?_
      refine Run.enter wantS_none (ex_call rfl mkk102 cal102) Try.func102 rfl rfl ?_
      refine Run.seq (Run.region ?_)
      refine Run.opG wantS_none (ex_assign rfl) rfl ?_
      refine Run.opsEnd (Run.seq (Run.seq (Run.region ?_)))
      refine Run.opG wantS_none (ex_move rfl) rfl ?_
      refine Run.opG wantS_none (ex_len' rfl hs0 lenk116) rfl ?_
      refine Run.opG wantS_none (ex_move rfl) rfl ?_
      refine Run.opsEnd (Run.block (Run.loop ?_))
      exact Run.low (.cons (fle_pick [] rfl) (.cons (fle_pick [16] rfl) .nil)) (Run.pick [0, 1, 7, 8] (search_clock_check_2_ok F F a1 (a1.length : Int) (0 : Int) (!r29) a0 s0 b22 _ _ _ hs0 hH23 h))

theorem mkk38 : makeK Try.prog 38 = none := by kernel_rfl
theorem cal38 : callable Try.prog 38 = true := by kernel_rfl
theorem mkk80 : makeK Try.prog 80 = none := by kernel_rfl
theorem cal80 : callable Try.prog 80 = true := by kernel_rfl
theorem slk33 : slK Try.prog 33 = some (.sl 3) := by kernel_rfl
theorem mkk108 : makeK Try.prog 108 = none := by kernel_rfl
theorem cal108 : callable Try.prog 108 = true := by kernel_rfl
theorem apn33_3 : appT Try.prog 33 3 = none := by kernel_rfl
theorem elt33 : sliceElt Try.prog 33 = some (⟨3, 24, [(.int .i64 0), (.int .i64 0), (.int .i64 0)], 73⟩ : Elt) := by kernel_rfl
theorem int3 : intTy Try.prog 3 = true := by kernel_rfl
theorem appt33_33 : appT Try.prog 33 33 = some (⟨3, 24, [(.int .i64 0), (.int .i64 0), (.int .i64 0)], 73⟩ : Elt) := by kernel_rfl
abbrev slices_Concat_post (r : (List S_api_Trigger)) : SV → Mem → Prop := fun s Me => ∃ q1, s = q1 ∧ Has (fun _ => none) Me [.vec 73 3 r.length q1 (r.flatMap enc73)]

def slices_Concat_2 (F : Nat) (hd1 : (List (List S_api_Trigger)) → Int → (List (List S_api_Trigger)) → Int → Int → Option ((List S_api_Trigger))) (v0 : (List (List S_api_Trigger))) (v3 : Int) (v9 : (List (List S_api_Trigger))) (v10 v11 : Int) : Option ((List S_api_Trigger)) :=
  hd1 v0 v3 v9 v10 (w64 (v11 + (1 : Int)))

theorem slices_Concat_2_ok (F : Nat) (hd1 : (List (List S_api_Trigger)) → Int → (List (List S_api_Trigger)) → Int → Int → Option ((List S_api_Trigger))) (hhd1 : ∀ (v0 : (List (List S_api_Trigger))) (v3 : Int) (v9 : (List (List S_api_Trigger))) (v10 v11 : Int) (sv0 sv9 : SV) (Fr : Rd) (M : Mem) (r : (List S_api_Trigger)) (hv0 : Slc Fr 1 (rep33 Fr) sv0 v0) (hv9 : Slc Fr 1 (rep33 Fr) sv9 v9) (hH : Has Fr M []), hd1 v0 v3 v9 v10 v11 = some r → Run Try.prog ⟨⟨104, [], none⟩, []⟩ 36 (slices_Concat_post r) [(0, sv0), (3, (.int .i64 v3)), (9, sv9), (10, (.int .i64 v10)), (11, (.int .i64 v11))] [codeC Try.prog 104 [1, 1, 0, 1, 0, 0], loopC Try.prog 104 [1, 1, 0, 1, 0, 0], .inBlock 0, codeC Try.prog 104 [1, 1, 1]] M) : ∀ (v0 : (List (List S_api_Trigger))) (v3 : Int) (v9 : (List (List S_api_Trigger))) (v10 v11 : Int) (sv0 sv9 : SV) (Fr : Rd) (M : Mem) (r : (List S_api_Trigger)) (hv0 : Slc Fr 1 (rep33 Fr) sv0 v0) (hv9 : Slc Fr 1 (rep33 Fr) sv9 v9) (hH : Has Fr M []), slices_Concat_2 F hd1 v0 v3 v9 v10 v11 = some r → Run Try.prog ⟨⟨104, [], none⟩, []⟩ 36 (slices_Concat_post r) [(0, sv0), (3, (.int .i64 v3)), (9, sv9), (10, (.int .i64 v10)), (11, (.int .i64 v11))] [itemC Try.prog 104 [1, 1, 0, 1, 0, 0, 1, 1, 1] 0, loopC Try.prog 104 [1, 1, 0, 1, 0, 0], .inBlock 0, codeC Try.prog 104 [1, 1, 1]] M := by
  intro v0 v3 v9 v10 v11 sv0 sv9 Fr M r hv0 hv9 hH h
  rw [slices_Concat_2] at h
  refine Run.opG wantS_none (ex_add rfl rfl) rfl ?_
  refine Run.opG wantS_none (ex_move rfl) rfl ?_
  refine Run.opsEnd (Run.inLoop ?_)
  exact Run.pick [0, 3, 9, 10, 11] (hhd1 v0 v3 v9 v10 (w64 (v11 + (1 : Int))) sv0 sv9 _ _ _ hv0 hv9 hH h)

def slices_Concat_5 (F : Nat) : Nat → (List (List S_api_Trigger)) → Int → Int → (List S_api_Trigger) → Option ((List S_api_Trigger))
  | 0, _, _, _, _ => none
  | N + 1, v25, v26, v27, l35 =>
    bif (decide (v27 < v26)) then
      bnd (idx v25 v27) fun x38 =>
      bnd (apd 24 l35 x38) fun l41 =>
      (slices_Concat_5 F N) v25 v26 (w64 (v27 + (1 : Int))) l41
    else
      some l35

theorem slices_Concat_5_ok (F : Nat) : ∀ (N : Nat), ∀ (v25 : (List (List S_api_Trigger))) (v26 v27 : Int) (l35 : (List S_api_Trigger)) (sv25 s35 : SV) (Fr : Rd) (M : Mem) (r : (List S_api_Trigger)) (hv25 : Slc Fr 1 (rep33 Fr) sv25 v25) (hH : Has Fr M [.vec 73 3 l35.length s35 (l35.flatMap enc73)]), slices_Concat_5 F N v25 v26 v27 l35 = some r → Run Try.prog ⟨⟨104, [], none⟩, []⟩ 36 (slices_Concat_post r) [(6, s35), (25, sv25), (26, (.int .i64 v26)), (27, (.int .i64 v27))] [codeC Try.prog 104 [1, 1, 1, 1, 0, 1, 0, 0], loopC Try.prog 104 [1, 1, 1, 1, 0, 1, 0, 0], .inBlock 2, codeC Try.prog 104 [1, 1, 1, 1, 1]] M := by
  intro N
  induction N with
  | zero =>
    intro v25 v26 v27 l35 sv25 s35 Fr M r hv25 hH h
    simp [slices_Concat_5] at h
  | succ N ih =>
    intro v25 v26 v27 l35 sv25 s35 Fr M r hv25 hH h
    rw [slices_Concat_5] at h
    refine Run.seq (Run.region ?_)
    refine Run.opG wantS_none (ex_lss rfl rfl) rfl ?_
    refine Run.opsEnd (Run.seq ?_)
    rcases btf ((decide (v27 < v26))) with hc36 | hc36
    · have h := bif_t hc36 h
      refine Run.condT' rfl hc36 ?_
      refine Run.skip (Run.seq (Run.block (Run.seq (Run.region ?_))))
      obtain ⟨x38, hx38, h⟩ := bnd_some h
      obtain ⟨p38, o38, _, hx38, hp38, ⟨q38_0, rfl, hq38_0⟩⟩ := sl_elem (P := Try.prog) (t := 116) (kk := .i64) hv25 hx38 els116
      refine Run.opG wantS_none (ex_elX rfl rfl hx38) rfl ?_
      refine Run.opG wantS_none (ex_load1 rfl (hH.ptrF hp38) rdLe_rfl agg33) rfl ?_
      refine Run.opG wantS_none (ex_assign rfl) rfl ?_
      refine Run.opsEnd (Run.region ?_)
      refine Run.opG wantS_none (ex_move rfl) rfl ?_
      refine Run.opG wantS_none (ex_move rfl) rfl ?_
      obtain ⟨l41, hl41, h⟩ := bnd_some h
      refine Run.opX wantS_none rfl (ExG.append rfl rfl hH (i := 0) rfl enc73_len rfl enc73_ones appt33_33 rfl (len_slc hq38_0) (first_slc hq38_0 (rdLe_roF hH) enc73_len) hl41) ?_
      rintro s41 M43 (hH43 : Has Fr M43 [.vec 73 3 l41.length s41 (l41.flatMap enc73)])
      refine Run.opG wantS_none (ex_assign rfl) rfl ?_
      refine Run.opsEnd (Run.inBlock (Run.region ?_))
      refine Run.opG wantS_none (ex_add rfl rfl) rfl ?_
      refine Run.opG wantS_none (ex_move rfl) rfl ?_
      refine Run.opsEnd (Run.inLoop ?_)
      exact Run.pick [6, 25, 26, 27] (ih v25 v26 (w64 (v27 + (1 : Int))) l41 sv25 s41 _ _ _ hv25 hH43 h)
    · have h := bif_f hc36 h
      refine Run.condF' rfl hc36 ?_
      refine Run.exit rfl (Run.seq (Run.region ?_))
      refine Run.opG wantS_none (ex_move rfl) rfl ?_
      refine Run.opG wantS_none (ex_assign rfl) rfl ?_
      refine Run.opsEnd ?_
      cases h
      exact Run.ret Try.func104 rfl (res_tmp rfl res_nil) ⟨_, rfl, (hH.pick [0] rfl rfl).upF (none_le _)⟩

def slices_Concat_4 (F : Nat) (v0_f1 : (List (List S_api_Trigger))) (l35 : (List S_api_Trigger)) : Option ((List S_api_Trigger)) :=
  slices_Concat_5 F F v0_f1 (v0_f1.length : Int) (0 : Int) l35

theorem slices_Concat_4_ok (F : Nat) : ∀ (v0_f1 : (List (List S_api_Trigger))) (l35 : (List S_api_Trigger)) (sv0_f1 s35 : SV) (Fr : Rd) (M : Mem) (r : (List S_api_Trigger)) (hv0_f1 : Slc Fr 1 (rep33 Fr) sv0_f1 v0_f1) (hH : Has Fr M [.vec 73 3 l35.length s35 (l35.flatMap enc73)]), slices_Concat_4 F v0_f1 l35 = some r → Run Try.prog ⟨⟨108, [], none⟩, [.mk ⟨104, [], none⟩ 36 (treeOf [(0, sv0_f1)]) [itemC Try.prog 104 [1, 1, 1, 0] 1, codeC Try.prog 104 [1, 1, 1, 1]]]⟩ 27 (slices_Concat_post r) [(0, s35)] [itemC Try.prog 108 [1, 1, 1, 0] 0, codeC Try.prog 108 [1, 1, 1, 1]] M := by
  intro v0_f1 l35 sv0_f1 s35 Fr M r hv0_f1 hH h
  rw [slices_Concat_4] at h
  refine Run.opG wantS_none (ex_move rfl) rfl ?_
  refine Run.opG wantS_none (ex_assign rfl) rfl ?_
  refine Run.opsEnd ?_
  refine Run.retTo Try.func108 rfl (res_tmp rfl res_nil) rfl ?_
  refine Run.opG wantS_none (ex_assign rfl) rfl ?_
  refine Run.opsEnd (Run.seq (Run.seq (Run.region ?_)))
  refine Run.opG wantS_none (ex_move rfl) rfl ?_
  refine Run.opG wantS_none (ex_len' rfl hv0_f1 lenk116) rfl ?_
  refine Run.opG wantS_none (ex_move rfl) rfl ?_
  refine Run.opsEnd (Run.block (Run.loop ?_))
  exact Run.pick [6, 25, 26, 27] (slices_Concat_5_ok F F v0_f1 (v0_f1.length : Int) (0 : Int) l35 sv0_f1 s35 _ _ _ hv0_f1 hH h)

def slices_Concat_3 (F : Nat) (v1 : Int) (v0_f1 : (List (List S_api_Trigger))) : Option ((List S_api_Trigger)) :=
  bif (decide ((0 : Int) < (w64 (v1 - (w64 ((0 : Int) - (0 : Int))))))) then
    bnd (sub ([] : List S_api_Trigger) 0 (0 : Int)) fun l28 =>
    bnd (mkz (w64 (v1 - (w64 ((0 : Int) - (0 : Int))))) 24 (S_api_Trigger.mk (0 : Int) (0 : Int) (0 : Int))) fun l30 =>
    slices_Concat_4 F v0_f1 ([] : List S_api_Trigger)
  else
    slices_Concat_4 F v0_f1 ([] : List S_api_Trigger)

theorem slices_Concat_3_ok (F : Nat) : ∀ (v1 : Int) (v0_f1 : (List (List S_api_Trigger))) (sv0_f1 : SV) (Fr : Rd) (M : Mem) (r : (List S_api_Trigger)) (hv0_f1 : Slc Fr 1 (rep33 Fr) sv0_f1 v0_f1) (hH : Has Fr M []), slices_Concat_3 F v1 v0_f1 = some r → Run Try.prog ⟨⟨108, [], none⟩, [.mk ⟨104, [], none⟩ 36 (treeOf [(0, sv0_f1)]) [itemC Try.prog 104 [1, 1, 1, 0] 1, codeC Try.prog 104 [1, 1, 1, 1]]]⟩ 27 (slices_Concat_post r) [(0, .nils), (1, (.int .i64 v1))] [itemC Try.prog 108 [1, 1, 0, 0] 0, codeC Try.prog 108 [1, 1, 0, 1], codeC Try.prog 108 [1, 1, 1]] M := by
  intro v1 v0_f1 sv0_f1 Fr M r hv0_f1 hH h
  rw [slices_Concat_3] at h
  refine Run.opG wantS_none (ex_move rfl) rfl ?_
  refine Run.opG wantS_none (ex_move rfl) rfl ?_
  refine Run.opG wantS_none (ex_capN rfl lenk33) rfl ?_
  refine Run.opG wantS_none (ex_move rfl) rfl ?_
  refine Run.opG wantS_none (ex_len' (z := 1) (R := FlatR (fun a => [a])) (f := Fr) (l := []) rfl slc_nil lenk33) rfl ?_
  refine Run.opG wantS_none (ex_sub rfl rfl) rfl ?_
  refine Run.opG wantS_none (ex_sub rfl rfl) rfl ?_
  refine Run.opG wantS_none (ex_assign rfl) rfl ?_
  refine Run.opsEnd (Run.seq (Run.region ?_))
  refine Run.opG wantS_none (ex_move rfl) rfl ?_
  refine Run.opG wantS_none (ex_gtr rfl rfl) rfl ?_
  refine Run.opsEnd ?_
  rcases btf ((decide ((0 : Int) < (w64 (v1 - (w64 ((0 : Int) - (0 : Int)))))))) with hc26 | hc26
  · have h := bif_t hc26 h
    refine Run.condT' rfl hc26 ?_
    refine Run.region ?_
    refine Run.opG wantS_none (ex_move rfl) rfl ?_
    refine Run.opG wantS_none (ex_move rfl) rfl ?_
    refine Run.opG wantS_none (ex_capN rfl lenk33) rfl ?_
    obtain ⟨l28, hl28, h⟩ := bnd_some h
    refine Run.opG wantS_none (ex_slX rfl argO_none (argO_some rfl) (nil_sub hl28 slk33 (.inl ⟨rfl, rfl⟩) (.inr ⟨_, rfl⟩))) rfl ?_
    refine Run.opG wantS_none (ex_move rfl) rfl ?_
    obtain ⟨l30, hl30, h⟩ := bnd_some h
    refine Run.opX wantS_none rfl (ExG.appendZ (enc := enc73) rfl rfl hl30 apn33_3 elt33 int3 rfl rfl rfl rfl enc73_len hH) ?_
    rintro _ M31 ⟨b30, rfl, hH31⟩
    refine Run.opG wantS_none (ex_move rfl) rfl ?_
    refine Run.opG wantS_none (ex_len' (z := 1) (R := FlatR (fun a => [a])) (f := Fr) (l := []) rfl slc_nil lenk33) rfl ?_
    refine Run.opX wantS_none rfl (ExG.cut0 (ex_slX rfl argO_none (argO_some rfl) (cut0_sl (mkz_pos hl30) slk33)) hH31 (i := 0) rfl) ?_
    rintro _ M34 ⟨rfl, (hH34 : Has Fr M34 [.obj b30 (.row 73 (.head 0) (l30.flatMap enc73))])⟩
    refine Run.trunc (ti := 25) (i := 0) rfl hH34 rfl ?_
    intro M35 (hH35 : Has Fr M35 [.vec 73 3 ([] : List S_api_Trigger).length (.ope b30 0 0 3) (([] : List S_api_Trigger).flatMap enc73)])
    refine Run.opG wantS_none (ex_assign rfl) rfl ?_
    refine Run.opsEnd (Run.seq (Run.region ?_))
    exact Run.low (.cons (fle_pick [0] rfl) .nil) (Run.pick [0] (slices_Concat_4_ok F v0_f1 ([] : List S_api_Trigger) sv0_f1 (.ope b30 0 0 3) _ _ _ hv0_f1 hH35 h))
  · have h := bif_f hc26 h
    refine Run.condF' rfl hc26 ?_
    refine Run.skip (Run.seq (Run.region ?_))
    have hH45 : Has Fr M [.vec 73 3 ([] : List S_api_Trigger).length .nils (([] : List S_api_Trigger).flatMap enc73)] := hH.nils 73 3
    exact Run.low (.cons (fle_pick [0] rfl) .nil) (Run.pick [0] (slices_Concat_4_ok F v0_f1 ([] : List S_api_Trigger) sv0_f1 .nils _ _ _ hv0_f1 hH45 h))

def slices_Concat_1 (F : Nat) : Nat → (List (List S_api_Trigger)) → Int → (List (List S_api_Trigger)) → Int → Int → Option ((List S_api_Trigger))
  | 0, _, _, _, _, _ => none
  | N + 1, v0, v3, v9, v10, v11 =>
    bif (decide (v11 < v10)) then
      bnd (idx v9 v11) fun x23 =>
      bif (decide ((w64 (v3 + (x23.length : Int))) < (0 : Int))) then
        none
      else
        slices_Concat_2 F (slices_Concat_1 F N) v0 (w64 (v3 + (x23.length : Int))) v9 v10 v11
    else
      bif (decide (v3 < (0 : Int))) then
        none
      else
        slices_Concat_3 F v3 v0

theorem slices_Concat_1_ok (F : Nat) : ∀ (N : Nat), ∀ (v0 : (List (List S_api_Trigger))) (v3 : Int) (v9 : (List (List S_api_Trigger))) (v10 v11 : Int) (sv0 sv9 : SV) (Fr : Rd) (M : Mem) (r : (List S_api_Trigger)) (hv0 : Slc Fr 1 (rep33 Fr) sv0 v0) (hv9 : Slc Fr 1 (rep33 Fr) sv9 v9) (hH : Has Fr M []), slices_Concat_1 F N v0 v3 v9 v10 v11 = some r → Run Try.prog ⟨⟨104, [], none⟩, []⟩ 36 (slices_Concat_post r) [(0, sv0), (3, (.int .i64 v3)), (9, sv9), (10, (.int .i64 v10)), (11, (.int .i64 v11))] [codeC Try.prog 104 [1, 1, 0, 1, 0, 0], loopC Try.prog 104 [1, 1, 0, 1, 0, 0], .inBlock 0, codeC Try.prog 104 [1, 1, 1]] M := by
  intro N
  induction N with
  | zero =>
    intro v0 v3 v9 v10 v11 sv0 sv9 Fr M r hv0 hv9 hH h
    simp [slices_Concat_1] at h
  | succ N ih =>
    intro v0 v3 v9 v10 v11 sv0 sv9 Fr M r hv0 hv9 hH h
    rw [slices_Concat_1] at h
    refine Run.seq (Run.region ?_)
    refine Run.opG wantS_none (ex_lss rfl rfl) rfl ?_
    refine Run.opsEnd (Run.seq ?_)
    rcases btf ((decide (v11 < v10))) with hc21 | hc21
    · have h := bif_t hc21 h
      refine Run.condT' rfl hc21 ?_
      refine Run.skip (Run.seq (Run.block (Run.seq (Run.region ?_))))
      obtain ⟨x23, hx23, h⟩ := bnd_some h
      obtain ⟨p23, o23, _, hx23, hp23, ⟨q23_0, rfl, hq23_0⟩⟩ := sl_elem (P := Try.prog) (t := 116) (kk := .i64) hv9 hx23 els116
      refine Run.opG wantS_none (ex_elX rfl rfl hx23) rfl ?_
      refine Run.opG wantS_none (ex_load1 rfl (hH.ptrF hp23) rdLe_rfl agg33) rfl ?_
      refine Run.opG wantS_none (ex_assign rfl) rfl ?_
      refine Run.opsEnd (Run.seq (Run.region ?_))
      refine Run.opG wantS_none (ex_move rfl) rfl ?_
      refine Run.opG wantS_none (ex_move rfl) rfl ?_
      refine Run.opG wantS_none (ex_len' rfl hq23_0 lenk33) rfl ?_
      refine Run.opG wantS_none (ex_add rfl rfl) rfl ?_
      refine Run.opG wantS_none (ex_assign rfl) rfl ?_
      refine Run.opsEnd (Run.seq (Run.region ?_))
      refine Run.opG wantS_none (ex_move rfl) rfl ?_
      refine Run.opG wantS_none (ex_lss rfl rfl) rfl ?_
      refine Run.opsEnd ?_
      rcases btf ((decide ((w64 (v3 + (x23.length : Int))) < (0 : Int)))) with hc24 | hc24
      · have h := bif_t hc24 h
        refine Run.condT' rfl hc24 ?_
        refine Run.region ?_
        cases h
      · have h := bif_f hc24 h
        refine Run.condF' rfl hc24 ?_
        refine Run.skip (Run.inBlock (Run.region ?_))
        exact Run.pick [0, 3, 9, 10, 11] (slices_Concat_2_ok F (slices_Concat_1 F N) ih v0 (w64 (v3 + (x23.length : Int))) v9 v10 v11 sv0 sv9 _ _ _ hv0 hv9 hH h)
    · have h := bif_f hc21 h
      refine Run.condF' rfl hc21 ?_
      refine Run.exit rfl (Run.seq (Run.region ?_))
      refine Run.opG wantS_none (ex_move rfl) rfl ?_
      refine Run.enter wantS_none (ex_call rfl mkk108 cal108) Try.func108 rfl rfl ?_
      refine Run.seq (Run.region ?_)
      refine Run.opG wantS_none (ex_assign rfl) rfl ?_
      refine Run.opsEnd (Run.seq (Run.seq (Run.region ?_)))
      refine Run.opG wantS_none (ex_move rfl) rfl ?_
      refine Run.opG wantS_none (ex_lss rfl rfl) rfl ?_
      refine Run.opsEnd ?_
      rcases btf ((decide (v3 < (0 : Int)))) with hc25 | hc25
      · have h := bif_t hc25 h
        refine Run.condT' rfl hc25 ?_
        refine Run.region ?_
        cases h
      · have h := bif_f hc25 h
        refine Run.condF' rfl hc25 ?_
        refine Run.skip (Run.seq (Run.seq (Run.region ?_)))
        exact Run.low (.cons (fle_pick [0] rfl) .nil) (Run.pick [0, 1] (slices_Concat_3_ok F v3 v0 sv0 _ _ _ hv0 hH h))

def slices_Concat (F : Nat) (a0 : (List (List S_api_Trigger))) : Option ((List S_api_Trigger)) :=
  slices_Concat_1 F F a0 (0 : Int) a0 (a0.length : Int) (0 : Int)

theorem slices_Concat_ok (F : Nat) (a0 : (List (List S_api_Trigger))) (s0 : SV) (r : (List S_api_Trigger)) (M : Mem) (hs0 : Slc (rd M) 1 (rep33 (rd M)) s0 a0) (h : slices_Concat F a0 = some r) : CallsM Try.prog 104 [s0] M (fun s M' => ∃ q1, s = q1 ∧ New M M' [.vec 73 3 r.length q1 (r.flatMap enc73)]) := by
  refine CallsM.fresh (Q := slices_Concat_post r) Try.func104 rfl rfl ?_ (by rintro s Me ⟨q1, rfl, hx⟩ ha hw; exact ⟨_, rfl, New.of rfl hx ha hw⟩)
  rw [slices_Concat] at h
  replace hs0 := hs0.mono (rdLe_frozen M) (fun _ _ => rep33_mo (rdLe_frozen M))
  have hH := Has.nil (frozen M)
  refine Run.seq (Run.region ?_)
  refine Run.opG wantS_none (ex_assign rfl) rfl ?_
  refine Run.opsEnd (Run.seq (Run.region ?_))
  refine Run.opG wantS_none (ex_assign rfl) rfl ?_
  refine Run.opsEnd (Run.seq (Run.seq (Run.region ?_)))
  refine Run.opG wantS_none (ex_move rfl) rfl ?_
  refine Run.opG wantS_none (ex_len' rfl hs0 lenk116) rfl ?_
  refine Run.opG wantS_none (ex_move rfl) rfl ?_
  refine Run.opsEnd (Run.block (Run.loop ?_))
  exact Run.pick [0, 3, 9, 10, 11] (slices_Concat_1_ok F F a0 (0 : Int) a0 (a0.length : Int) (0 : Int) s0 s0 _ _ _ hs0 hs0 hH h)

theorem mkk104 : makeK Try.prog 104 = none := by kernel_rfl
theorem cal104 : callable Try.prog 104 = true := by kernel_rfl
theorem plan82_1_0 : planOf Try.prog (opsC (atC Try.prog 82 [1, 0])) = some [.fl 0, .fl 1, .fl 2, .fl 3, .fl 4, .fl 5, .an 6 [], .an 7 [], .fl 8, .sync] := by kernel_rfl
abbrev search_rotate_post (r : (List S_api_Trigger)) : SV → Mem → Prop := fun s Me => ∃ q1, s = q1 ∧ Has (fun _ => none) Me [.vec 73 3 r.length q1 (r.flatMap enc73)]

def search_rotate (F : Nat) (a0 : (List S_api_Trigger)) (a1 : Int) : Option ((List S_api_Trigger)) :=
  bnd (sub a0 a1 (a0.length : Int)) fun l21 =>
  bnd (sub a0 0 a1) fun l22 =>
  bnd (slices_Concat F ([l21, l22] : List (List S_api_Trigger))) fun r25 =>
  some r25

theorem search_rotate_ok (F : Nat) (a0 : (List S_api_Trigger)) (a1 : Int) (s0 : SV) (r : (List S_api_Trigger)) (M : Mem) (hs0 : Slc (rd M) 3 (FlatR enc73) s0 a0) (h : search_rotate F a0 a1 = some r) : CallsM Try.prog 82 [s0, (.int .i64 a1)] M (fun s M' => ∃ q1, s = q1 ∧ New M M' [.vec 73 3 r.length q1 (r.flatMap enc73)]) := by
  refine CallsM.fresh (Q := search_rotate_post r) Try.func82 rfl rfl ?_ (by rintro s Me ⟨q1, rfl, hx⟩ ha hw; exact ⟨_, rfl, New.of rfl hx ha hw⟩)
  rw [search_rotate] at h
  replace hs0 := hs0.mono (rdLe_frozen M) (fun _ _ h => h)
  have hH := Has.nil (frozen M)
  refine Run.seq (Run.region ?_)
  refine Run.opG wantS_none (ex_assign rfl) rfl ?_
  refine Run.opsEnd (Run.seq ?_)
  refine Run.drawG plan82_1_0 ?_
  refine DrawG.fl rfl (ev_ex wantS_none (ex_move rfl)) rfl ?_
  refine DrawG.fl rfl (ev_ex wantS_none (ex_move rfl)) rfl ?_
  obtain ⟨l21, hl21, h⟩ := bnd_some h
  obtain ⟨s21, hx21, hs21⟩ := sl_subL (P := Try.prog) (t := 33) (k0 := .i64) hs0 hl21 slk33
  refine DrawG.fl rfl (ev_ex wantS_none (ex_slX rfl (argO_some rfl) (argO_none) hx21)) rfl ?_
  refine DrawG.fl rfl (ev_ex wantS_none (ex_move rfl)) rfl ?_
  refine DrawG.fl rfl (ev_ex wantS_none (ex_move rfl)) rfl ?_
  obtain ⟨l22, hl22, h⟩ := bnd_some h
  obtain ⟨s22, hx22, hs22⟩ := sl_subH (P := Try.prog) (t := 33) (k0 := .i64) hs0 hl22 slk33
  refine DrawG.fl rfl (ev_ex wantS_none (ex_slX rfl (argO_none) (argO_some rfl) hx22)) rfl ?_
  have hr23 : Rows (rep33 (ro (frozen M))) 1 [s21, s22] ([l21, l22] : List (List S_api_Trigger)) := (Rows.cons (cs := [s21]) rfl ⟨s21, rfl, hs21⟩ (Rows.cons (cs := [s22]) rfl ⟨s22, rfl, hs22⟩ Rows.nil))
  refine DrawG.opX rfl wantS_none rfl (ExG.builtR (z := 1) (c := [s21, s22]) rfl elt116 rfl (by simp only [fillS, cells_one (slc_one hs21), cells_one (slc_one hs22)]; rfl) rfl hH) ?_
  rintro s23 M24 (hH24 : Has (ro (frozen M)) M24 [.vec 33 1 ([l21, l22] : List (List S_api_Trigger)).length s23 [s21, s22]])
  refine ⟨st_nil, ?_⟩
  obtain ⟨r25, hr25, h⟩ := bnd_some h
  refine DrawG.call rfl wantS_none (ex_call rfl mkk104 cal104) rfl (slices_Concat_ok F ([l21, l22] : List (List S_api_Trigger)) s23 _ _ (((hH24.slcR (i := 0) rfl hr23)).mono (fun _ _ h => h) (fun _ _ => rep33_mo hH24.le)) hr25) ?_
  rintro s25_0 M27 ⟨_, rfl, hN25⟩
  have hH27 : Has (ro (frozen M)) M27 [.vec 73 3 r25.length s25_0 (r25.flatMap enc73), .vec 33 1 ([l21, l22] : List (List S_api_Trigger)).length s23 [s21, s22]] := hN25.1 _ _ hH24
  refine ⟨st_nil, ?_⟩
  refine DrawG.fl rfl (ev_ex wantS_none (ex_assign rfl)) rfl ?_
  refine DrawG.sync ?_
  refine DrawG.nil ?_
  cases h
  exact Run.ret Try.func82 rfl (res_tmp rfl res_nil) ⟨_, rfl, (hH27.pick [0] rfl rfl).upF (none_le _)⟩

theorem mkk82 : makeK Try.prog 82 = none := by kernel_rfl
theorem cal82 : callable Try.prog 82 = true := by kernel_rfl
theorem sz3 : szOf Try.prog 3 = some 1 := by kernel_rfl
theorem plan49_1_1_1_1_0_1_0_0_1_1_0_0_1 : planOf Try.prog (opsC (atC Try.prog 49 [1, 1, 1, 1, 0, 1, 0, 0, 1, 1, 0, 0, 1])) = some [.fl 0, .fl 1, .fl 2, .fl 3, .fl 4, .fl 5, .fl 6, .fl 7, .fl 8, .fl 9, .fl 10, .fl 11, .fl 12, .fl 13, .an 14 [], .sync] := by kernel_rfl
abbrev search_clock_slide_post (r : (List S_api_Trigger)) : SV → Mem → Prop := fun s Me => ∃ q1, s = q1 ∧ Has (fun _ => none) Me [.vec 73 3 r.length q1 (r.flatMap enc73)]

def search_clock_slide_2 (F : Nat) : Nat → Int → Int → S_search_clock → Int → (List S_api_Trigger) → Option ((List S_api_Trigger))
  | 0, _, _, _, _, _ => none
  | N + 1, v20, v21, c22, c25_0, l37 =>
    bif (decide (v21 < v20)) then
      bnd (idx l37 v21) fun x40 =>
      bnd (nz c22.live) fun z41 =>
      bnd (inn l37 v21) fun o42 =>
      bnd (l37[o42]?) fun x43 =>
      bnd (upd l37 o42 (S_api_Trigger.mk (Int.tmod (w64 (x40.Time + c25_0)) c22.live) x43.Loud x43.Template)) fun l43 =>
      (search_clock_slide_2 F N) v20 (w64 (v21 + (1 : Int))) c22 c25_0 l43
    else
      some l37

theorem search_clock_slide_2_ok (F : Nat) : ∀ (N : Nat), ∀ (v20 v21 : Int) (c22 : S_search_clock) (c25_0 : Int) (l37 : (List S_api_Trigger)) (b22 b25 : Pos) (s37 : SV) (Fr : Rd) (M : Mem) (r : (List S_api_Trigger)) (hH : Has Fr M [.obj b22 (.row 80 .whole [(.int .i64 c22.live), (.int .i64 c22.window), (.int .i64 c22.step)]), .obj b25 (.row 3 .whole [(.int .i64 c25_0)]), .vec 73 3 l37.length s37 (l37.flatMap enc73)]), search_clock_slide_2 F N v20 v21 c22 c25_0 l37 = some r → Run Try.prog ⟨⟨49, [], none⟩, []⟩ 40 (search_clock_slide_post r) [(3, (.ptr b22 0)), (5, (.ptr b25 0)), (9, s37), (20, (.int .i64 v20)), (21, (.int .i64 v21))] [codeC Try.prog 49 [1, 1, 1, 1, 0, 1, 0, 0], loopC Try.prog 49 [1, 1, 1, 1, 0, 1, 0, 0], .inBlock 0, codeC Try.prog 49 [1, 1, 1, 1, 1]] M := by
  intro N
  induction N with
  | zero =>
    intro v20 v21 c22 c25_0 l37 b22 b25 s37 Fr M r hH h
    simp [search_clock_slide_2] at h
  | succ N ih =>
    intro v20 v21 c22 c25_0 l37 b22 b25 s37 Fr M r hH h
    rw [search_clock_slide_2] at h
    refine Run.seq (Run.region ?_)
    refine Run.opG wantS_none (ex_lss rfl rfl) rfl ?_
    refine Run.opsEnd (Run.seq ?_)
    rcases btf ((decide (v21 < v20))) with hc39 | hc39
    · have h := bif_t hc39 h
      refine Run.condT' rfl hc39 ?_
      refine Run.skip (Run.seq (Run.block (Run.seq (Run.region ?_))))
      refine Run.opG wantS_none (ex_move rfl) rfl ?_
      refine Run.opG wantS_none (ex_assign rfl) rfl ?_
      refine Run.opsEnd ?_
      refine Run.drawG plan49_1_1_1_1_0_1_0_0_1_1_0_0_1 ?_
      refine DrawG.fl rfl (ev_ex wantS_none (ex_move rfl)) rfl ?_
      refine DrawG.fl rfl (ev_ex wantS_none (ex_move rfl)) rfl ?_
      refine DrawG.fl rfl (ev_ex wantS_none (ex_move rfl)) rfl ?_
      refine DrawG.fl rfl (ev_ex wantS_none (ex_move rfl)) rfl ?_
      obtain ⟨x40, hx40, h⟩ := bnd_some h
      obtain ⟨p40, o40, hb40, hx40, he40⟩ := vec_elem (P := Try.prog) (t := 33) (kk := .i64) hH (i := 2) rfl hx40 els33
      refine DrawG.fl rfl (ev_ex wantS_none (ex_elX rfl rfl hx40)) rfl ?_
      refine DrawG.fl rfl (ev_ex wantS_none (ex_fieldAddr rfl off73_0)) rfl ?_
      refine DrawG.fl rfl (ev_ex wantS_none (ex_load1 rfl ((hH.at (enc := enc73) (a := x40) (i := 2) rfl hb40 he40 enc73_len).fld (o := 0) rfl) rdLe_rfl agg3)) rfl ?_
      refine DrawG.fl rfl (ev_ex wantS_none (ex_load1 rfl (hH.cells (i := 1) rfl 0 rfl) rdLe_rfl agg3)) rfl ?_
      refine DrawG.fl rfl (ev_ex wantS_none (ex_add rfl rfl)) rfl ?_
      refine DrawG.fl rfl (ev_ex wantS_none (ex_fieldAddr rfl off80_0)) rfl ?_
      refine DrawG.fl rfl (ev_ex wantS_none (ex_load1 rfl (hH.cells (i := 0) rfl 0 rfl) rdLe_rfl agg3)) rfl ?_
      obtain ⟨z41, hz41, h⟩ := bnd_some h
      refine DrawG.fl rfl (ev_ex wantS_none (ex_rem' rfl rfl hz41)) rfl ?_
      obtain ⟨o42, ho42, h⟩ := bnd_some h
      obtain ⟨p42, hb42, hx42⟩ := vec_place (P := Try.prog) (t := 33) (kk := .i64) hH (i := 2) rfl ho42 els33
      refine DrawG.fl rfl (ev_ex wantS_none (ex_elX rfl rfl hx42)) rfl ?_
      refine DrawG.fl rfl (ev_ex wantS_none (ex_fieldAddr rfl off73_0)) rfl ?_
      obtain ⟨x43, hx43, h⟩ := bnd_some h
      obtain ⟨l43, hl43, h⟩ := bnd_some h
      refine DrawG.opX rfl wantS_none rfl (ExG.storeFld (o := 0) rfl rfl hH (i := 2) rfl hb42 hx43 hl43 sz3 rfl rfl rfl rfl enc73_len) ?_
      rintro _ M44 ⟨rfl, (hH44 : Has Fr M44 [.obj b22 (.row 80 .whole [(.int .i64 c22.live), (.int .i64 c22.window), (.int .i64 c22.step)]), .obj b25 (.row 3 .whole [(.int .i64 c25_0)]), .vec 73 3 l43.length s37 (l43.flatMap enc73)])⟩
      refine ⟨st_nil, ?_⟩
      refine DrawG.sync ?_
      refine DrawG.nil ?_
      refine Run.inBlock (Run.region ?_)
      refine Run.opG wantS_none (ex_add rfl rfl) rfl ?_
      refine Run.opG wantS_none (ex_move rfl) rfl ?_
      refine Run.opsEnd (Run.inLoop ?_)
      exact Run.pick [3, 5, 9, 20, 21] (ih v20 (w64 (v21 + (1 : Int))) c22 c25_0 l43 b22 b25 s37 _ _ _ hH44 h)
    · have h := bif_f hc39 h
      refine Run.condF' rfl hc39 ?_
      refine Run.exit rfl (Run.seq (Run.region ?_))
      refine Run.opG wantS_none (ex_move rfl) rfl ?_
      refine Run.opG wantS_none (ex_assign rfl) rfl ?_
      refine Run.opsEnd ?_
      cases h
      exact Run.ret Try.func49 rfl (res_tmp rfl res_nil) ⟨_, rfl, (hH.pick [2] rfl rfl).upF (none_le _)⟩

def search_clock_slide_1 (F : Nat) : Nat → (List S_api_Trigger) → Int → Int → (List S_api_Trigger) → Int → S_search_clock → Option ((List S_api_Trigger))
  | 0, _, _, _, _, _, _ => none
  | N + 1, v0, v7, v8, v1_f1, c25_0, c22 =>
    bif (decide (v8 < v7)) then
      bnd (idx v0 v8) fun x29 =>
      bif (decide (c22.live ≤ (w64 (x29.Time + c25_0)))) then
        bnd (search_rotate F v1_f1 (max v8 (0 : Int))) fun r36 =>
        search_clock_slide_2 F F (r36.length : Int) (0 : Int) c22 c25_0 r36
      else
        (search_clock_slide_1 F N) v0 v7 (w64 (v8 + (1 : Int))) v1_f1 c25_0 c22
    else
      bnd (search_rotate F v1_f1 (max ((-1) : Int) (0 : Int))) fun r47 =>
      search_clock_slide_2 F F (r47.length : Int) (0 : Int) c22 c25_0 r47

theorem search_clock_slide_1_ok (F : Nat) : ∀ (N : Nat), ∀ (v0 : (List S_api_Trigger)) (v7 v8 : Int) (v1_f1 : (List S_api_Trigger)) (c25_0 : Int) (c22 : S_search_clock) (sv0 sv1_f1 : SV) (b25 b22 : Pos) (Fr : Rd) (M : Mem) (r : (List S_api_Trigger)) (hv0 : Slc Fr 3 (FlatR enc73) sv0 v0) (hv1_f1 : Slc Fr 3 (FlatR enc73) sv1_f1 v1_f1) (hH : Has Fr M [.obj b25 (.row 3 .whole [(.int .i64 c25_0)]), .obj b22 (.row 80 .whole [(.int .i64 c22.live), (.int .i64 c22.window), (.int .i64 c22.step)])]), search_clock_slide_1 F N v0 v7 v8 v1_f1 c25_0 c22 = some r → Run Try.prog ⟨⟨81, [], none⟩, [.mk ⟨49, [], none⟩ 40 (treeOf [(1, sv1_f1), (3, (.ptr b22 0)), (5, (.ptr b25 0))]) [itemC Try.prog 49 [1, 1, 0] 2, codeC Try.prog 49 [1, 1, 1]]]⟩ 19 (search_clock_slide_post r) [(0, sv0), (1, (.fn (.func 80) [] [(.ptr b25 0), (.ptr b22 0)])), (7, (.int .i64 v7)), (8, (.int .i64 v8))] [codeC Try.prog 81 [1, 0, 1, 0, 0], loopC Try.prog 81 [1, 0, 1, 0, 0], .inBlock 0, codeC Try.prog 81 [1, 1]] M := by
  intro N
  induction N with
  | zero =>
    intro v0 v7 v8 v1_f1 c25_0 c22 sv0 sv1_f1 b25 b22 Fr M r hv0 hv1_f1 hH h
    simp [search_clock_slide_1] at h
  | succ N ih =>
    intro v0 v7 v8 v1_f1 c25_0 c22 sv0 sv1_f1 b25 b22 Fr M r hv0 hv1_f1 hH h
    rw [search_clock_slide_1] at h
    refine Run.seq (Run.region ?_)
    refine Run.opG wantS_none (ex_lss rfl rfl) rfl ?_
    refine Run.opsEnd (Run.seq ?_)
    rcases btf ((decide (v8 < v7))) with hc27 | hc27
    · have h := bif_t hc27 h
      refine Run.condT' rfl hc27 ?_
      refine Run.skip (Run.seq (Run.block (Run.seq (Run.region ?_))))
      refine Run.opG wantS_none (ex_move rfl) rfl ?_
      refine Run.opG wantS_none (ex_assign rfl) rfl ?_
      refine Run.opsEnd (Run.seq (Run.region ?_))
      refine Run.opG wantS_none (ex_move rfl) rfl ?_
      refine Run.opG wantS_none (ex_move rfl) rfl ?_
      refine Run.opG wantS_none (ex_move rfl) rfl ?_
      obtain ⟨x29, hx29, h⟩ := bnd_some h
      obtain ⟨p29, o29, _, hx29, hp29, rfl⟩ := sl_elem (P := Try.prog) (t := 33) (kk := .i64) hv0 hx29 els33
      refine Run.opG wantS_none (ex_elX rfl rfl hx29) rfl ?_
      refine Run.opG wantS_none (ex_loadA rfl (hH.ptrF hp29) rdLe_rfl agg73 rfl rfl rfl) rfl ?_
      refine Run.enter wantS_none (ex_closure rfl rfl mkk80 cal80) Try.func80 rfl rfl ?_
      refine Run.seq (Run.region ?_)
      refine Run.opX wantS_none rfl (ExG.box rfl rfl hH) ?_
      rintro _ M32 ⟨b31, rfl, hH32⟩
      refine Run.opG wantS_none (ex_assign rfl) rfl ?_
      refine Run.opsEnd (Run.seq (Run.region ?_))
      refine Run.opG wantS_none (ex_fieldAddr rfl off73_0) rfl ?_
      refine Run.opG wantS_none (ex_load1 rfl (hH32.cells (i := 0) rfl 0 rfl) rdLe_rfl agg3) rfl ?_
      refine Run.opG wantS_none (ex_load1 rfl (hH32.cells (i := 1) rfl 0 rfl) rdLe_rfl agg3) rfl ?_
      refine Run.opG wantS_none (ex_add rfl rfl) rfl ?_
      refine Run.opG wantS_none (ex_fieldAddr rfl off80_0) rfl ?_
      refine Run.opG wantS_none (ex_load1 rfl (hH32.cells (i := 2) rfl 0 rfl) rdLe_rfl agg3) rfl ?_
      refine Run.opG wantS_none (ex_geq rfl rfl) rfl ?_
      refine Run.opG wantS_none (ex_assign rfl) rfl ?_
      refine Run.opsEnd ?_
      refine Run.retTo Try.func80 rfl (res_tmp rfl res_nil) rfl ?_
      refine Run.opsEnd ?_
      rcases btf ((decide (c22.live ≤ (w64 (x29.Time + c25_0))))) with hc33 | hc33
      · have h := bif_t hc33 h
        refine Run.condT' rfl hc33 ?_
        refine Run.seq (Run.region ?_)
        refine Run.opG wantS_none (ex_move rfl) rfl ?_
        refine Run.opG wantS_none (ex_assign rfl) rfl ?_
        refine Run.opsEnd ?_
        refine Run.retTo Try.func81 rfl (res_tmp rfl res_nil) rfl ?_
        refine Run.opG wantS_none (ex_assign rfl) rfl ?_
        refine Run.opsEnd (Run.seq (Run.region ?_))
        refine Run.opG wantS_none (ex_move rfl) rfl ?_
        refine Run.opG wantS_none (ex_move rfl) rfl ?_
        refine Run.opG wantS_none (ex_max rfl rfl) rfl ?_
        obtain ⟨r36, hr36, h⟩ := bnd_some h
        refine Run.callX wantS_none (ex_call rfl mkk82 cal82) rfl (search_rotate_ok F v1_f1 (max v8 (0 : Int)) sv1_f1 _ _ (hH32.slcF hv1_f1) hr36) ?_
        rintro s36_0 M38 ⟨_, rfl, hN36⟩
        have hH38 : Has Fr M38 [.vec 73 3 r36.length s36_0 (r36.flatMap enc73), .obj b31 (.row 73 .whole [(.int .i64 x29.Time), (.int .i64 x29.Loud), (.int .i64 x29.Template)]), .obj b25 (.row 3 .whole [(.int .i64 c25_0)]), .obj b22 (.row 80 .whole [(.int .i64 c22.live), (.int .i64 c22.window), (.int .i64 c22.step)])] := hN36.1 _ _ hH32
        refine Run.opG wantS_none (ex_assign rfl) rfl ?_
        refine Run.opsEnd (Run.seq (Run.seq (Run.region ?_)))
        refine Run.opG wantS_none (ex_move rfl) rfl ?_
        refine Run.opG wantS_none (ex_len' rfl (hH38.slc (i := 0) rfl enc73_len) lenk33) rfl ?_
        refine Run.opG wantS_none (ex_move rfl) rfl ?_
        refine Run.opsEnd (Run.block (Run.loop ?_))
        exact Run.pick [3, 5, 9, 20, 21] (search_clock_slide_2_ok F F (r36.length : Int) (0 : Int) c22 c25_0 r36 b22 b25 s36_0 _ _ _ (hH38.pick [3, 2, 0] rfl rfl) h)
      · have h := bif_f hc33 h
        refine Run.condF' rfl hc33 ?_
        refine Run.skip (Run.inBlock (Run.region ?_))
        refine Run.opG wantS_none (ex_add rfl rfl) rfl ?_
        refine Run.opG wantS_none (ex_move rfl) rfl ?_
        refine Run.opsEnd (Run.inLoop ?_)
        exact Run.low (.cons (fle_pick [1, 3, 5] rfl) .nil) (Run.pick [0, 1, 7, 8] (ih v0 v7 (w64 (v8 + (1 : Int))) v1_f1 c25_0 c22 sv0 sv1_f1 b25 b22 _ _ _ hv0 hv1_f1 (hH32.pick [1, 2] rfl rfl) h))
    · have h := bif_f hc27 h
      refine Run.condF' rfl hc27 ?_
      refine Run.exit rfl (Run.seq (Run.region ?_))
      refine Run.opG wantS_none (ex_assign rfl) rfl ?_
      refine Run.opsEnd ?_
      refine Run.retTo Try.func81 rfl (res_tmp rfl res_nil) rfl ?_
      refine Run.opG wantS_none (ex_assign rfl) rfl ?_
      refine Run.opsEnd (Run.seq (Run.region ?_))
      refine Run.opG wantS_none (ex_move rfl) rfl ?_
      refine Run.opG wantS_none (ex_move rfl) rfl ?_
      refine Run.opG wantS_none (ex_max rfl rfl) rfl ?_
      obtain ⟨r47, hr47, h⟩ := bnd_some h
      refine Run.callX wantS_none (ex_call rfl mkk82 cal82) rfl (search_rotate_ok F v1_f1 (max ((-1) : Int) (0 : Int)) sv1_f1 _ _ (hH.slcF hv1_f1) hr47) ?_
      rintro s47_0 M49 ⟨_, rfl, hN47⟩
      have hH49 : Has Fr M49 [.vec 73 3 r47.length s47_0 (r47.flatMap enc73), .obj b25 (.row 3 .whole [(.int .i64 c25_0)]), .obj b22 (.row 80 .whole [(.int .i64 c22.live), (.int .i64 c22.window), (.int .i64 c22.step)])] := hN47.1 _ _ hH
      refine Run.opG wantS_none (ex_assign rfl) rfl ?_
      refine Run.opsEnd (Run.seq (Run.seq (Run.region ?_)))
      refine Run.opG wantS_none (ex_move rfl) rfl ?_
      refine Run.opG wantS_none (ex_len' rfl (hH49.slc (i := 0) rfl enc73_len) lenk33) rfl ?_
      refine Run.opG wantS_none (ex_move rfl) rfl ?_
      refine Run.opsEnd (Run.block (Run.loop ?_))
      exact Run.pick [3, 5, 9, 20, 21] (search_clock_slide_2_ok F F (r47.length : Int) (0 : Int) c22 c25_0 r47 b22 b25 s47_0 _ _ _ (hH49.pick [2, 1, 0] rfl rfl) h)

def search_clock_slide (F : Nat) (a0 : S_search_clock) (a1 : (List S_api_Trigger)) (a2 : Int) : Option ((List S_api_Trigger)) :=
  search_clock_slide_1 F F a1 (a1.length : Int) (0 : Int) a1 a2 a0

theorem search_clock_slide_ok (F : Nat) (a0 : S_search_clock) (a1 : (List S_api_Trigger)) (a2 : Int) (s0 : SV) (r : (List S_api_Trigger)) (M : Mem) (hs0 : Slc (rd M) 3 (FlatR enc73) s0 a1) (h : search_clock_slide F a0 a1 a2 = some r) : CallsM Try.prog 49 [(.agg [(.int .i64 a0.live), (.int .i64 a0.window), (.int .i64 a0.step)]), s0, (.int .i64 a2)] M (fun s M' => ∃ q1, s = q1 ∧ New M M' [.vec 73 3 r.length q1 (r.flatMap enc73)]) := by
  refine CallsM.fresh (Q := search_clock_slide_post r) Try.func49 rfl rfl ?_ (by rintro s Me ⟨q1, rfl, hx⟩ ha hw; exact ⟨_, rfl, New.of rfl hx ha hw⟩)
  rw [search_clock_slide] at h
  replace hs0 := hs0.mono (rdLe_frozen M) (fun _ _ h => h)
  have hH := Has.nil (frozen M)
  refine Run.seq (Run.region ?_)
  refine Run.opX wantS_none rfl (ExG.box rfl rfl hH) ?_
  rintro _ M23 ⟨b22, rfl, hH23⟩
  refine Run.opX wantS_none rfl (ExG.box rfl rfl hH23) ?_
  rintro _ M26 ⟨b25, rfl, hH26⟩
  refine Run.opG wantS_none (ex_assign rfl) rfl ?_
  refine Run.opsEnd (Run.seq (Run.region ?_))
  refine Run.opG wantS_none (ex_makeFunc rfl rfl) rfl ?_
  refine Run.opG wantS_none (ex_assign rfl) rfl ?_
  refine Run.opsEnd (Run.seq (Run.region ?_))
  refine Run.opG wantS_none (ex_move rfl) rfl ?_
  refine Run.opG wantS_none (ex_move rfl) rfl ?_
  refine Run.enter wantS_none (ex_call rfl mkk81 cal81) Try.func81 rfl rfl ?_
  refine Run.seq (Run.region ?_)
  refine Run.opG wantS_none (ex_assign rfl) rfl ?_
  refine Run.opsEnd (Run.seq (Run.seq (Run.region ?_)))
  refine Run.opG wantS_none (ex_move rfl) rfl ?_
  refine Run.opG wantS_none (ex_len' rfl hs0 lenk33) rfl ?_
  refine Run.opG wantS_none (ex_move rfl) rfl ?_
  refine Run.opsEnd (Run.block (Run.loop ?_))
  exact Run.low (.cons (fle_pick [1, 3, 5] rfl) .nil) (Run.pick [0, 1, 7, 8] (search_clock_slide_1_ok F F a1 (a1.length : Int) (0 : Int) a1 a2 a0 s0 s0 b25 b22 _ _ _ hs0 hs0 hH26 h))

theorem mkk49 : makeK Try.prog 49 = none := by kernel_rfl
theorem cal49 : callable Try.prog 49 = true := by kernel_rfl
theorem zer3 : zerosOf Try.prog 3 = some [(.int .i64 0)] := by kernel_rfl
theorem mkk51 : makeK Try.prog 51 = none := by kernel_rfl
theorem cal51 : callable Try.prog 51 = true := by kernel_rfl
theorem cal84 : callable Try.prog 84 = true := by kernel_rfl
abbrev search_clock_distance_post (r : Int) : SV → Mem → Prop := fun s _ => s = (.int .i64 r)

def search_clock_distance (F : Nat) (a0 : S_search_clock) (a1 a2 : Int) : Option (Int) :=
  some (min (max (w64 (a1 - a2)) (w64 (a2 - a1))) (w64 (a0.live - (max (w64 (a1 - a2)) (w64 (a2 - a1))))))

theorem search_clock_distance_ok (F : Nat) (a0 : S_search_clock) (a1 a2 r : Int) (M : Mem) (h : search_clock_distance F a0 a1 a2 = some r) : CallsM Try.prog 85 [(.agg [(.int .i64 a0.live), (.int .i64 a0.window), (.int .i64 a0.step)]), (.int .i64 a1), (.int .i64 a2)] M (fun s M' => s = (.int .i64 r) ∧ M' = M) := by
  refine CallsM.plain Try.func85 rfl rfl rfl (show Run _ _ _ (search_clock_distance_post r) _ _ _ from ?_)
  rw [search_clock_distance] at h
  have hH := Has.nil (frozen M)
  refine Run.seq (Run.region ?_)
  refine Run.opX wantS_none rfl (ExG.box rfl rfl hH) ?_
  rintro _ M23 ⟨b22, rfl, hH23⟩
  refine Run.opG wantS_none (ex_assign rfl) rfl ?_
  refine Run.opsEnd (Run.seq (Run.region ?_))
  refine Run.opG wantS_none (ex_move rfl) rfl ?_
  refine Run.opG wantS_none (ex_move rfl) rfl ?_
  refine Run.opG wantS_none (ex_sub rfl rfl) rfl ?_
  refine Run.opG wantS_none (ex_move rfl) rfl ?_
  refine Run.opG wantS_none (ex_move rfl) rfl ?_
  refine Run.opG wantS_none (ex_sub rfl rfl) rfl ?_
  refine Run.opG wantS_none (ex_max rfl rfl) rfl ?_
  refine Run.opG wantS_none (ex_assign rfl) rfl ?_
  refine Run.opsEnd (Run.seq (Run.region ?_))
  refine Run.opG wantS_none (ex_move rfl) rfl ?_
  refine Run.opG wantS_none (ex_fieldAddr rfl off80_0) rfl ?_
  refine Run.opG wantS_none (ex_load1 rfl (hH23.cells (i := 0) rfl 0 rfl) rdLe_rfl agg3) rfl ?_
  refine Run.opG wantS_none (ex_move rfl) rfl ?_
  refine Run.opG wantS_none (ex_sub rfl rfl) rfl ?_
  refine Run.opG wantS_none (ex_min rfl rfl) rfl ?_
  refine Run.opG wantS_none (ex_assign rfl) rfl ?_
  refine Run.opsEnd ?_
  cases h
  exact Run.ret Try.func85 rfl (res_tmp rfl res_nil) rfl

theorem mkk85 : makeK Try.prog 85 = none := by kernel_rfl
theorem cal85 : callable Try.prog 85 = true := by kernel_rfl
theorem zer40 : zerosOf Try.prog 40 = some [(.int .i64 0), (.int .i64 0), (.int .i64 0)] := by kernel_rfl
theorem pls40 : placesOf Try.prog 40 = some (.st [(0, 1), (1, 1), (2, 1)]) := by kernel_rfl
theorem sz40 : szOf Try.prog 40 = some 3 := by kernel_rfl
theorem off40_2 : fieldOff Try.prog 40 2 = some 2 := by kernel_rfl
theorem plan84_1_0_0_1_1_0_0_1_1_0_0_1_1_0_0_1_0 : planOf Try.prog (opsC (atC Try.prog 84 [1, 0, 0, 1, 1, 0, 0, 1, 1, 0, 0, 1, 1, 0, 0, 1, 0])) = some [.fl 0, .fl 1, .fl 2, .fl 3, .fl 4, .fl 5, .fl 6, .fl 7, .fl 8, .fl 9, .fl 10, .fl 12, .fl 13, .an 11 [13, 12], .fl 14, .fl 15, .fl 16, .sync] := by kernel_rfl
abbrev search_clock_loudest_post (r : Int) : SV → Mem → Prop := fun s _ => s = (.int .i64 r)

def search_clock_loudest_4 (F : Nat) (hd2 : Int → (List S_api_Trigger) → Int → Int → (List S_api_Trigger) → Int → Int → Int → Int → (List S_api_Trigger) → (List S_api_Trigger) → S_search_clock → S_api_Trigger → Option (Int)) (v5 : Int) (v10 : (List S_api_Trigger)) (v11 v12 : Int) (v17 : (List S_api_Trigger)) (v18 v19 : Int) (v53 : Bool) (v6_g37 c25_0 : Int) (c32_0 c35_0 : (List S_api_Trigger)) (c29 : S_search_clock) (c43 : S_api_Trigger) : Option (Int) :=
  bif v53 then
    some c25_0
  else
    hd2 v5 v10 v11 v12 v17 v18 (w64 (v19 + (1 : Int))) v6_g37 c25_0 c32_0 c35_0 c29 c43

theorem search_clock_loudest_4_ok (F : Nat) (hd2 : Int → (List S_api_Trigger) → Int → Int → (List S_api_Trigger) → Int → Int → Int → Int → (List S_api_Trigger) → (List S_api_Trigger) → S_search_clock → S_api_Trigger → Option (Int)) (hhd2 : ∀ (v5 : Int) (v10 : (List S_api_Trigger)) (v11 v12 : Int) (v17 : (List S_api_Trigger)) (v18 v19 v6_g37 c25_0 : Int) (c32_0 c35_0 : (List S_api_Trigger)) (c29 : S_search_clock) (c43 : S_api_Trigger) (sv10 sv17 sc32_0 sc35_0 : SV) (b37 b25 b32 b35 b29 b38 b43 : Pos) (Fr : Rd) (M : Mem) (r : Int) (hv10 : Slc Fr 3 (FlatR enc73) sv10 v10) (hv17 : Slc Fr 3 (FlatR enc73) sv17 v17) (hc32_0 : Slc Fr 3 (FlatR enc73) sc32_0 c32_0) (hc35_0 : Slc Fr 3 (FlatR enc73) sc35_0 c35_0) (hH : Has Fr M [.obj b37 (.loop ⟨.ready, none, 59, 19, treeOf [(6, (.int .i64 v6_g37)), (7, (.ptr b25 0)), (12, (.fn (.func 84) [] [(.ptr b32 0), (.ptr b35 0), (.ptr b29 0)]))], [13], (atC Try.prog 59 [1, 1, 0, 1, 0, 0]), (atC Try.prog 59 [1, 1, 0, 1, 0, 1]), b38⟩), .obj b25 (.row 3 .whole [(.int .i64 c25_0)]), .obj b32 (.row 33 .whole [sc32_0]), .obj b35 (.row 33 .whole [sc35_0]), .obj b29 (.row 80 .whole [(.int .i64 c29.live), (.int .i64 c29.window), (.int .i64 c29.step)]), .obj b38 .defd, .obj b43 (.row 73 .whole [(.int .i64 c43.Time), (.int .i64 c43.Loud), (.int .i64 c43.Template)])]), hd2 v5 v10 v11 v12 v17 v18 v19 v6_g37 c25_0 c32_0 c35_0 c29 c43 = some r → Run Try.prog ⟨⟨84, [], none⟩, [.mk ⟨59, [b38], none⟩ 19 (treeOf [(7, (.ptr b25 0))]) [.inRange b37, .inBlock 0, codeC Try.prog 59 [1, 1, 1]]]⟩ 56 (search_clock_loudest_post r) [(0, (.yield b37)), (2, (.ptr b35 0)), (3, (.ptr b29 0)), (5, (.int .i64 v5)), (6, (.ptr b43 0)), (10, sv10), (11, (.int .i64 v11)), (12, (.int .i64 v12)), (17, sv17), (18, (.int .i64 v18)), (19, (.int .i64 v19))] [codeC Try.prog 84 [1, 0, 0, 1, 1, 0, 0, 1, 1, 0, 0], loopC Try.prog 84 [1, 0, 0, 1, 1, 0, 0, 1, 1, 0, 0], .inBlock 2, .inBlock 1, codeC Try.prog 84 [1, 0, 0, 1, 1, 1], loopC Try.prog 84 [1, 0, 0], .inBlock 0] M) : ∀ (v5 : Int) (v10 : (List S_api_Trigger)) (v11 v12 : Int) (v17 : (List S_api_Trigger)) (v18 v19 : Int) (v53 : Bool) (v6_g37 c25_0 : Int) (c32_0 c35_0 : (List S_api_Trigger)) (c29 : S_search_clock) (c43 : S_api_Trigger) (sv10 sv17 sc32_0 sc35_0 : SV) (b37 b25 b32 b35 b29 b38 b43 : Pos) (Fr : Rd) (M : Mem) (r : Int) (hv10 : Slc Fr 3 (FlatR enc73) sv10 v10) (hv17 : Slc Fr 3 (FlatR enc73) sv17 v17) (hc32_0 : Slc Fr 3 (FlatR enc73) sc32_0 c32_0) (hc35_0 : Slc Fr 3 (FlatR enc73) sc35_0 c35_0) (hH : Has Fr M [.obj b37 (.loop ⟨.ready, none, 59, 19, treeOf [(6, (.int .i64 v6_g37)), (7, (.ptr b25 0)), (12, (.fn (.func 84) [] [(.ptr b32 0), (.ptr b35 0), (.ptr b29 0)]))], [13], (atC Try.prog 59 [1, 1, 0, 1, 0, 0]), (atC Try.prog 59 [1, 1, 0, 1, 0, 1]), b38⟩), .obj b25 (.row 3 .whole [(.int .i64 c25_0)]), .obj b32 (.row 33 .whole [sc32_0]), .obj b35 (.row 33 .whole [sc35_0]), .obj b29 (.row 80 .whole [(.int .i64 c29.live), (.int .i64 c29.window), (.int .i64 c29.step)]), .obj b38 .defd, .obj b43 (.row 73 .whole [(.int .i64 c43.Time), (.int .i64 c43.Loud), (.int .i64 c43.Template)])]), search_clock_loudest_4 F hd2 v5 v10 v11 v12 v17 v18 v19 v53 v6_g37 c25_0 c32_0 c35_0 c29 c43 = some r → Run Try.prog ⟨⟨84, [], none⟩, [.mk ⟨59, [b38], none⟩ 19 (treeOf [(7, (.ptr b25 0))]) [.inRange b37, .inBlock 0, codeC Try.prog 59 [1, 1, 1]]]⟩ 56 (search_clock_loudest_post r) [(0, (.yield b37)), (2, (.ptr b35 0)), (3, (.ptr b29 0)), (5, (.int .i64 v5)), (6, (.ptr b43 0)), (10, sv10), (11, (.int .i64 v11)), (12, (.int .i64 v12)), (17, sv17), (18, (.int .i64 v18)), (19, (.int .i64 v19)), (53, (.bool v53))] [codeC Try.prog 84 [1, 0, 0, 1, 1, 0, 0, 1, 1, 0, 0, 1, 1, 0, 0, 1, 1, 1], .inBlock 3, codeC Try.prog 84 [1, 0, 0, 1, 1, 0, 0, 1, 1, 0, 0, 1, 1, 1], loopC Try.prog 84 [1, 0, 0, 1, 1, 0, 0, 1, 1, 0, 0], .inBlock 2, .inBlock 1, codeC Try.prog 84 [1, 0, 0, 1, 1, 1], loopC Try.prog 84 [1, 0, 0], .inBlock 0] M := by
  intro v5 v10 v11 v12 v17 v18 v19 v53 v6_g37 c25_0 c32_0 c35_0 c29 c43 sv10 sv17 sc32_0 sc35_0 b37 b25 b32 b35 b29 b38 b43 Fr M r hv10 hv17 hc32_0 hc35_0 hH h
  rw [search_clock_loudest_4] at h
  rcases btf (v53) with hc64 | hc64
  · have h := bif_t hc64 h
    refine Run.condT' rfl hc64 ?_
    refine Run.retRange Try.func84 rfl res_nil ?_
    refine Run.endX hH (i := 0) rfl (fun hc => by cases hc) ?_
    intro M65 (hH65 : Has Fr M65 [.obj b37 (.loop ⟨.exhausted, none, 59, 19, treeOf [(6, (.int .i64 v6_g37)), (7, (.ptr b25 0)), (12, (.fn (.func 84) [] [(.ptr b32 0), (.ptr b35 0), (.ptr b29 0)]))], [13], (atC Try.prog 59 [1, 1, 0, 1, 0, 0]), (atC Try.prog 59 [1, 1, 0, 1, 0, 1]), b38⟩), .obj b25 (.row 3 .whole [(.int .i64 c25_0)]), .obj b32 (.row 33 .whole [sc32_0]), .obj b35 (.row 33 .whole [sc35_0]), .obj b29 (.row 80 .whole [(.int .i64 c29.live), (.int .i64 c29.window), (.int .i64 c29.step)]), .obj b38 .defd, .obj b43 (.row 73 .whole [(.int .i64 c43.Time), (.int .i64 c43.Loud), (.int .i64 c43.Template)])])
    refine Run.inBlock (Run.seq (Run.region ?_))
    refine Run.opG wantS_none (ex_load1 rfl (hH65.cells (i := 1) rfl 0 rfl) rdLe_rfl agg3) rfl ?_
    refine Run.opG wantS_none (ex_assign rfl) rfl ?_
    refine Run.opsEnd ?_
    obtain ⟨hH66x, hS66⟩ := hH65.shut (i := 5) (ds := []) rfl
    have hH66 : Has Fr (setT M65 b38 none) [.obj b37 (.loop ⟨.exhausted, none, 59, 19, treeOf [(6, (.int .i64 v6_g37)), (7, (.ptr b25 0)), (12, (.fn (.func 84) [] [(.ptr b32 0), (.ptr b35 0), (.ptr b29 0)]))], [13], (atC Try.prog 59 [1, 1, 0, 1, 0, 0]), (atC Try.prog 59 [1, 1, 0, 1, 0, 1]), b38⟩), .obj b25 (.row 3 .whole [(.int .i64 c25_0)]), .obj b32 (.row 33 .whole [sc32_0]), .obj b35 (.row 33 .whole [sc35_0]), .obj b29 (.row 80 .whole [(.int .i64 c29.live), (.int .i64 c29.window), (.int .i64 c29.step)]), .vec 0 0 0 .nils [], .obj b43 (.row 73 .whole [(.int .i64 c43.Time), (.int .i64 c43.Loud), (.int .i64 c43.Template)])] := hH66x
    cases h
    exact Run.ret Try.func59 (hS66 _ rfl) (res_tmp rfl res_nil) rfl
  · have h := bif_f hc64 h
    refine Run.condF' rfl hc64 ?_
    refine Run.skip (Run.inBlock (Run.region ?_))
    refine Run.opG wantS_none (ex_add rfl rfl) rfl ?_
    refine Run.opG wantS_none (ex_move rfl) rfl ?_
    refine Run.opsEnd (Run.inLoop ?_)
    exact Run.low (.cons (fle_pick [7] rfl) .nil) (Run.pick [0, 2, 3, 5, 6, 10, 11, 12, 17, 18, 19] (hhd2 v5 v10 v11 v12 v17 v18 (w64 (v19 + (1 : Int))) v6_g37 c25_0 c32_0 c35_0 c29 c43 sv10 sv17 sc32_0 sc35_0 b37 b25 b32 b35 b29 b38 b43 _ _ _ hv10 hv17 hc32_0 hc35_0 hH h))

def search_clock_loudest_3 (F : Nat) (hd2 : Int → (List S_api_Trigger) → Int → Int → (List S_api_Trigger) → Int → Int → Int → Int → (List S_api_Trigger) → (List S_api_Trigger) → S_search_clock → S_api_Trigger → Option (Int)) (v5 v7 : Int) (v9 : Bool) (v10 : (List S_api_Trigger)) (v11 v12 : Int) (v17 : (List S_api_Trigger)) (v18 v19 v6_g37 c25_0 : Int) (c32_0 c35_0 : (List S_api_Trigger)) (c29 : S_search_clock) (c43 c50 : S_api_Trigger) : Option (Int) :=
  bif v9 then
    search_clock_loudest_4 F hd2 v5 v10 v11 v12 v17 v18 v19 (!true) v6_g37 (max c25_0 (w64 (c43.Loud + c50.Loud))) c32_0 c35_0 c29 c43
  else
    search_clock_loudest_4 F hd2 v5 v10 v11 v12 v17 v18 v19 false v6_g37 c25_0 c32_0 c35_0 c29 c43

theorem search_clock_loudest_3_ok (F : Nat) (hd2 : Int → (List S_api_Trigger) → Int → Int → (List S_api_Trigger) → Int → Int → Int → Int → (List S_api_Trigger) → (List S_api_Trigger) → S_search_clock → S_api_Trigger → Option (Int)) (hhd2 : ∀ (v5 : Int) (v10 : (List S_api_Trigger)) (v11 v12 : Int) (v17 : (List S_api_Trigger)) (v18 v19 v6_g37 c25_0 : Int) (c32_0 c35_0 : (List S_api_Trigger)) (c29 : S_search_clock) (c43 : S_api_Trigger) (sv10 sv17 sc32_0 sc35_0 : SV) (b37 b25 b32 b35 b29 b38 b43 : Pos) (Fr : Rd) (M : Mem) (r : Int) (hv10 : Slc Fr 3 (FlatR enc73) sv10 v10) (hv17 : Slc Fr 3 (FlatR enc73) sv17 v17) (hc32_0 : Slc Fr 3 (FlatR enc73) sc32_0 c32_0) (hc35_0 : Slc Fr 3 (FlatR enc73) sc35_0 c35_0) (hH : Has Fr M [.obj b37 (.loop ⟨.ready, none, 59, 19, treeOf [(6, (.int .i64 v6_g37)), (7, (.ptr b25 0)), (12, (.fn (.func 84) [] [(.ptr b32 0), (.ptr b35 0), (.ptr b29 0)]))], [13], (atC Try.prog 59 [1, 1, 0, 1, 0, 0]), (atC Try.prog 59 [1, 1, 0, 1, 0, 1]), b38⟩), .obj b25 (.row 3 .whole [(.int .i64 c25_0)]), .obj b32 (.row 33 .whole [sc32_0]), .obj b35 (.row 33 .whole [sc35_0]), .obj b29 (.row 80 .whole [(.int .i64 c29.live), (.int .i64 c29.window), (.int .i64 c29.step)]), .obj b38 .defd, .obj b43 (.row 73 .whole [(.int .i64 c43.Time), (.int .i64 c43.Loud), (.int .i64 c43.Template)])]), hd2 v5 v10 v11 v12 v17 v18 v19 v6_g37 c25_0 c32_0 c35_0 c29 c43 = some r → Run Try.prog ⟨⟨84, [], none⟩, [.mk ⟨59, [b38], none⟩ 19 (treeOf [(7, (.ptr b25 0))]) [.inRange b37, .inBlock 0, codeC Try.prog 59 [1, 1, 1]]]⟩ 56 (search_clock_loudest_post r) [(0, (.yield b37)), (2, (.ptr b35 0)), (3, (.ptr b29 0)), (5, (.int .i64 v5)), (6, (.ptr b43 0)), (10, sv10), (11, (.int .i64 v11)), (12, (.int .i64 v12)), (17, sv17), (18, (.int .i64 v18)), (19, (.int .i64 v19))] [codeC Try.prog 84 [1, 0, 0, 1, 1, 0, 0, 1, 1, 0, 0], loopC Try.prog 84 [1, 0, 0, 1, 1, 0, 0, 1, 1, 0, 0], .inBlock 2, .inBlock 1, codeC Try.prog 84 [1, 0, 0, 1, 1, 1], loopC Try.prog 84 [1, 0, 0], .inBlock 0] M) : ∀ (v5 v7 : Int) (v9 : Bool) (v10 : (List S_api_Trigger)) (v11 v12 : Int) (v17 : (List S_api_Trigger)) (v18 v19 v6_g37 c25_0 : Int) (c32_0 c35_0 : (List S_api_Trigger)) (c29 : S_search_clock) (c43 c50 : S_api_Trigger) (sv10 sv17 sc32_0 sc35_0 : SV) (b37 b25 b32 b35 b29 b38 b43 b50 : Pos) (Fr : Rd) (M : Mem) (r : Int) (hv10 : Slc Fr 3 (FlatR enc73) sv10 v10) (hv17 : Slc Fr 3 (FlatR enc73) sv17 v17) (hc32_0 : Slc Fr 3 (FlatR enc73) sc32_0 c32_0) (hc35_0 : Slc Fr 3 (FlatR enc73) sc35_0 c35_0) (hH : Has Fr M [.obj b37 (.loop ⟨.ready, none, 59, 19, treeOf [(6, (.int .i64 v6_g37)), (7, (.ptr b25 0)), (12, (.fn (.func 84) [] [(.ptr b32 0), (.ptr b35 0), (.ptr b29 0)]))], [13], (atC Try.prog 59 [1, 1, 0, 1, 0, 0]), (atC Try.prog 59 [1, 1, 0, 1, 0, 1]), b38⟩), .obj b25 (.row 3 .whole [(.int .i64 c25_0)]), .obj b32 (.row 33 .whole [sc32_0]), .obj b35 (.row 33 .whole [sc35_0]), .obj b29 (.row 80 .whole [(.int .i64 c29.live), (.int .i64 c29.window), (.int .i64 c29.step)]), .obj b38 .defd, .obj b43 (.row 73 .whole [(.int .i64 c43.Time), (.int .i64 c43.Loud), (.int .i64 c43.Template)]), .obj b50 (.row 73 .whole [(.int .i64 c50.Time), (.int .i64 c50.Loud), (.int .i64 c50.Template)])]), search_clock_loudest_3 F hd2 v5 v7 v9 v10 v11 v12 v17 v18 v19 v6_g37 c25_0 c32_0 c35_0 c29 c43 c50 = some r → Run Try.prog ⟨⟨84, [], none⟩, [.mk ⟨59, [b38], none⟩ 19 (treeOf [(7, (.ptr b25 0))]) [.inRange b37, .inBlock 0, codeC Try.prog 59 [1, 1, 1]]]⟩ 56 (search_clock_loudest_post r) [(0, (.yield b37)), (2, (.ptr b35 0)), (3, (.ptr b29 0)), (5, (.int .i64 v5)), (6, (.ptr b43 0)), (7, (.int .i64 v7)), (8, (.ptr b50 0)), (9, (.bool v9)), (10, sv10), (11, (.int .i64 v11)), (12, (.int .i64 v12)), (17, sv17), (18, (.int .i64 v18)), (19, (.int .i64 v19))] [itemC Try.prog 84 [1, 0, 0, 1, 1, 0, 0, 1, 1, 0, 0, 1, 1, 0, 0, 1, 1, 0] 0, codeC Try.prog 84 [1, 0, 0, 1, 1, 0, 0, 1, 1, 0, 0, 1, 1, 0, 0, 1, 1, 1], .inBlock 3, codeC Try.prog 84 [1, 0, 0, 1, 1, 0, 0, 1, 1, 0, 0, 1, 1, 1], loopC Try.prog 84 [1, 0, 0, 1, 1, 0, 0, 1, 1, 0, 0], .inBlock 2, .inBlock 1, codeC Try.prog 84 [1, 0, 0, 1, 1, 1], loopC Try.prog 84 [1, 0, 0], .inBlock 0] M := by
  intro v5 v7 v9 v10 v11 v12 v17 v18 v19 v6_g37 c25_0 c32_0 c35_0 c29 c43 c50 sv10 sv17 sc32_0 sc35_0 b37 b25 b32 b35 b29 b38 b43 b50 Fr M r hv10 hv17 hc32_0 hc35_0 hH h
  rw [search_clock_loudest_3] at h
  refine Run.opG wantS_none (ex_move rfl) rfl ?_
  refine Run.opG wantS_none (ex_move rfl) rfl ?_
  rcases btf (v9) with hc56 | hc56
  · have h := bif_t hc56 h
    refine Run.opG (wantS_yes' rfl rfl hc56) (ex_move rfl) rfl ?_
    refine Run.opG (wantS_yes' rfl rfl hc56) (ex_move rfl) rfl ?_
    refine Run.opG (wantS_yes' rfl rfl hc56) (ex_move rfl) rfl ?_
    refine Run.opG (wantS_yes' rfl rfl hc56) (ex_fieldAddr rfl off73_1) rfl ?_
    refine Run.opG (wantS_yes' rfl rfl hc56) (ex_load1 rfl (hH.cells (i := 6) rfl 1 rfl) rdLe_rfl agg3) rfl ?_
    refine Run.opG (wantS_yes' rfl rfl hc56) (ex_fieldAddr rfl off73_1) rfl ?_
    refine Run.opG (wantS_yes' rfl rfl hc56) (ex_load1 rfl (hH.cells (i := 7) rfl 1 rfl) rdLe_rfl agg3) rfl ?_
    refine Run.opG (wantS_yes' rfl rfl hc56) (ex_add rfl rfl) rfl ?_
    refine Run.opG (wantS_yes' rfl rfl hc56) (ex_build (r := [(.int .i64 v5), (.int .i64 v7), (.int .i64 (w64 (c43.Loud + c50.Loud)))]) rfl zer40 pls40 rfl) rfl ?_
    refine Run.round (e' := [(13, (.agg [(.int .i64 v5), (.int .i64 v7), (.int .i64 (w64 (c43.Loud + c50.Loud)))])), (6, (.int .i64 v6_g37)), (7, (.ptr b25 0)), (12, (.fn (.func 84) [] [(.ptr b32 0), (.ptr b35 0), (.ptr b29 0)]))]) (wantS_yes' rfl rfl hc56) (ex_yield hH (i := 0) rfl rfl rfl rfl) (hH.loopOf (i := 0) rfl) rfl ?_
    refine Run.region ?_
    refine Run.opX wantS_none rfl (ExG.new (v := fun b => .ptr b 0) (ex_alloc zer40) hH) ?_
    rintro _ M59 ⟨b58, rfl, hH59⟩
    refine Run.opX wantS_none rfl (ExG.storeC (c' := [(.int .i64 v5), (.int .i64 v7), (.int .i64 (w64 (c43.Loud + c50.Loud)))]) rfl rfl rfl hH59 (i := 0) rfl sz40 rfl rfl rfl rfl rfl) ?_
    rintro _ M60 ⟨rfl, (hH60 : Has Fr M60 [.obj b58 (.row 40 .whole [(.int .i64 v5), (.int .i64 v7), (.int .i64 (w64 (c43.Loud + c50.Loud)))]), .obj b37 (.loop ⟨.ready, none, 59, 19, treeOf [(6, (.int .i64 v6_g37)), (7, (.ptr b25 0)), (12, (.fn (.func 84) [] [(.ptr b32 0), (.ptr b35 0), (.ptr b29 0)]))], [13], (atC Try.prog 59 [1, 1, 0, 1, 0, 0]), (atC Try.prog 59 [1, 1, 0, 1, 0, 1]), b38⟩), .obj b25 (.row 3 .whole [(.int .i64 c25_0)]), .obj b32 (.row 33 .whole [sc32_0]), .obj b35 (.row 33 .whole [sc35_0]), .obj b29 (.row 80 .whole [(.int .i64 c29.live), (.int .i64 c29.window), (.int .i64 c29.step)]), .obj b38 .defd, .obj b43 (.row 73 .whole [(.int .i64 c43.Time), (.int .i64 c43.Loud), (.int .i64 c43.Template)]), .obj b50 (.row 73 .whole [(.int .i64 c50.Time), (.int .i64 c50.Loud), (.int .i64 c50.Template)])])⟩
    refine Run.opsEnd ?_
    refine Run.beginX hH60 (i := 1) rfl rfl ?_
    intro M61 (hH61 : Has Fr M61 [.obj b58 (.row 40 .whole [(.int .i64 v5), (.int .i64 v7), (.int .i64 (w64 (c43.Loud + c50.Loud)))]), .obj b37 (.loop ⟨.busy, none, 59, 19, treeOf [(6, (.int .i64 v6_g37)), (7, (.ptr b25 0)), (12, (.fn (.func 84) [] [(.ptr b32 0), (.ptr b35 0), (.ptr b29 0)]))], [13], (atC Try.prog 59 [1, 1, 0, 1, 0, 0]), (atC Try.prog 59 [1, 1, 0, 1, 0, 1]), b38⟩), .obj b25 (.row 3 .whole [(.int .i64 c25_0)]), .obj b32 (.row 33 .whole [sc32_0]), .obj b35 (.row 33 .whole [sc35_0]), .obj b29 (.row 80 .whole [(.int .i64 c29.live), (.int .i64 c29.window), (.int .i64 c29.step)]), .obj b38 .defd, .obj b43 (.row 73 .whole [(.int .i64 c43.Time), (.int .i64 c43.Loud), (.int .i64 c43.Template)]), .obj b50 (.row 73 .whole [(.int .i64 c50.Time), (.int .i64 c50.Loud), (.int .i64 c50.Template)])])
    refine Run.block (Run.region ?_)
    refine Run.opG wantS_none (ex_load1 rfl (hH61.cells (i := 2) rfl 0 rfl) rdLe_rfl agg3) rfl ?_
    refine Run.opG wantS_none (ex_fieldAddr rfl off40_2) rfl ?_
    refine Run.opG wantS_none (ex_load1 rfl (hH61.cells (i := 0) rfl 2 rfl) rdLe_rfl agg3) rfl ?_
    refine Run.opG wantS_none (ex_max rfl rfl) rfl ?_
    refine Run.opX wantS_none rfl (ExG.storeC (c' := [(.int .i64 (max c25_0 (w64 (c43.Loud + c50.Loud))))]) rfl rfl rfl hH61 (i := 2) rfl sz3 rfl rfl rfl rfl rfl) ?_
    rintro _ M62 ⟨rfl, (hH62 : Has Fr M62 [.obj b58 (.row 40 .whole [(.int .i64 v5), (.int .i64 v7), (.int .i64 (w64 (c43.Loud + c50.Loud)))]), .obj b37 (.loop ⟨.busy, none, 59, 19, treeOf [(6, (.int .i64 v6_g37)), (7, (.ptr b25 0)), (12, (.fn (.func 84) [] [(.ptr b32 0), (.ptr b35 0), (.ptr b29 0)]))], [13], (atC Try.prog 59 [1, 1, 0, 1, 0, 0]), (atC Try.prog 59 [1, 1, 0, 1, 0, 1]), b38⟩), .obj b25 (.row 3 .whole [(.int .i64 (max c25_0 (w64 (c43.Loud + c50.Loud))))]), .obj b32 (.row 33 .whole [sc32_0]), .obj b35 (.row 33 .whole [sc35_0]), .obj b29 (.row 80 .whole [(.int .i64 c29.live), (.int .i64 c29.window), (.int .i64 c29.step)]), .obj b38 .defd, .obj b43 (.row 73 .whole [(.int .i64 c43.Time), (.int .i64 c43.Loud), (.int .i64 c43.Template)]), .obj b50 (.row 73 .whole [(.int .i64 c50.Time), (.int .i64 c50.Loud), (.int .i64 c50.Template)])])⟩
    refine Run.opsEnd (Run.inBlock ?_)
    refine Run.roundEndX hH62 (i := 1) rfl rfl ?_
    intro M63 (hH63 : Has Fr M63 [.obj b58 (.row 40 .whole [(.int .i64 v5), (.int .i64 v7), (.int .i64 (w64 (c43.Loud + c50.Loud)))]), .obj b37 (.loop ⟨.ready, none, 59, 19, treeOf [(6, (.int .i64 v6_g37)), (7, (.ptr b25 0)), (12, (.fn (.func 84) [] [(.ptr b32 0), (.ptr b35 0), (.ptr b29 0)]))], [13], (atC Try.prog 59 [1, 1, 0, 1, 0, 0]), (atC Try.prog 59 [1, 1, 0, 1, 0, 1]), b38⟩), .obj b25 (.row 3 .whole [(.int .i64 (max c25_0 (w64 (c43.Loud + c50.Loud))))]), .obj b32 (.row 33 .whole [sc32_0]), .obj b35 (.row 33 .whole [sc35_0]), .obj b29 (.row 80 .whole [(.int .i64 c29.live), (.int .i64 c29.window), (.int .i64 c29.step)]), .obj b38 .defd, .obj b43 (.row 73 .whole [(.int .i64 c43.Time), (.int .i64 c43.Loud), (.int .i64 c43.Template)]), .obj b50 (.row 73 .whole [(.int .i64 c50.Time), (.int .i64 c50.Loud), (.int .i64 c50.Template)])])
    refine Run.opG (wantS_yes' rfl rfl hc56) (ex_not rfl) rfl ?_
    refine Run.opG wantS_none (ex_pickT' rfl hc56 rfl rfl) rfl ?_
    refine Run.opsEnd ?_
    exact Run.low (.cons (fle_pick [7] rfl) .nil) (Run.pick [0, 2, 3, 5, 6, 10, 11, 12, 17, 18, 19, 53] (search_clock_loudest_4_ok F hd2 hhd2 v5 v10 v11 v12 v17 v18 v19 (!true) v6_g37 (max c25_0 (w64 (c43.Loud + c50.Loud))) c32_0 c35_0 c29 c43 sv10 sv17 sc32_0 sc35_0 b37 b25 b32 b35 b29 b38 b43 _ _ _ hv10 hv17 hc32_0 hc35_0 (hH63.pick [1, 2, 3, 4, 5, 6, 7] rfl rfl) h))
  · have h := bif_f hc56 h
    refine Run.no (wantS_not' rfl rfl hc56) rfl ?_
    refine Run.no (wantS_not' rfl rfl hc56) rfl ?_
    refine Run.no (wantS_not' rfl rfl hc56) rfl ?_
    refine Run.no (wantS_not' rfl rfl hc56) rfl ?_
    refine Run.no (wantS_not' rfl rfl hc56) rfl ?_
    refine Run.no (wantS_not' rfl rfl hc56) rfl ?_
    refine Run.no (wantS_not' rfl rfl hc56) rfl ?_
    refine Run.no (wantS_not' rfl rfl hc56) rfl ?_
    refine Run.no (wantS_not' rfl rfl hc56) rfl ?_
    refine Run.no (wantS_not' rfl rfl hc56) rfl ?_
    refine Run.no (wantS_not' rfl rfl hc56) rfl ?_
    refine Run.opG wantS_none (ex_pickF' rfl hc56 rfl rfl) rfl ?_
    refine Run.opsEnd ?_
    exact Run.low (.cons (fle_pick [7] rfl) .nil) (Run.pick [0, 2, 3, 5, 6, 10, 11, 12, 17, 18, 19, 53] (search_clock_loudest_4_ok F hd2 hhd2 v5 v10 v11 v12 v17 v18 v19 false v6_g37 c25_0 c32_0 c35_0 c29 c43 sv10 sv17 sc32_0 sc35_0 b37 b25 b32 b35 b29 b38 b43 _ _ _ hv10 hv17 hc32_0 hc35_0 (hH.pick [0, 1, 2, 3, 4, 5, 6] rfl rfl) h))

def search_clock_loudest_2 (F : Nat) (hd1 : (List S_api_Trigger) → Int → Int → Int → Int → (List S_api_Trigger) → (List S_api_Trigger) → S_search_clock → Option (Int)) : Nat → Int → (List S_api_Trigger) → Int → Int → (List S_api_Trigger) → Int → Int → Int → Int → (List S_api_Trigger) → (List S_api_Trigger) → S_search_clock → S_api_Trigger → Option (Int)
  | 0, _, _, _, _, _, _, _, _, _, _, _, _, _ => none
  | N + 1, v5, v10, v11, v12, v17, v18, v19, v6_g37, c25_0, c32_0, c35_0, c29, c43 =>
    bif (decide (v19 < v18)) then
      bnd (idx v17 v19) fun x48 =>
      bif (c43.Template == x48.Template) then
        bnd (search_clock_distance F c29 c43.Time x48.Time) fun r54 =>
        search_clock_loudest_3 F (search_clock_loudest_2 F hd1 N) v5 v19 (decide (r54 ≤ c29.window)) v10 v11 v12 v17 v18 v19 v6_g37 c25_0 c32_0 c35_0 c29 c43 x48
      else
        search_clock_loudest_3 F (search_clock_loudest_2 F hd1 N) v5 v19 false v10 v11 v12 v17 v18 v19 v6_g37 c25_0 c32_0 c35_0 c29 c43 x48
    else
      hd1 v10 v11 (w64 (v12 + (1 : Int))) v6_g37 c25_0 c32_0 c35_0 c29

theorem search_clock_loudest_2_ok (F : Nat) (hd1 : (List S_api_Trigger) → Int → Int → Int → Int → (List S_api_Trigger) → (List S_api_Trigger) → S_search_clock → Option (Int)) (hhd1 : ∀ (v10 : (List S_api_Trigger)) (v11 v12 v6_g37 c25_0 : Int) (c32_0 c35_0 : (List S_api_Trigger)) (c29 : S_search_clock) (sv10 sc32_0 sc35_0 : SV) (b37 b25 b32 b35 b29 b38 : Pos) (Fr : Rd) (M : Mem) (r : Int) (hv10 : Slc Fr 3 (FlatR enc73) sv10 v10) (hc32_0 : Slc Fr 3 (FlatR enc73) sc32_0 c32_0) (hc35_0 : Slc Fr 3 (FlatR enc73) sc35_0 c35_0) (hH : Has Fr M [.obj b37 (.loop ⟨.ready, none, 59, 19, treeOf [(6, (.int .i64 v6_g37)), (7, (.ptr b25 0)), (12, (.fn (.func 84) [] [(.ptr b32 0), (.ptr b35 0), (.ptr b29 0)]))], [13], (atC Try.prog 59 [1, 1, 0, 1, 0, 0]), (atC Try.prog 59 [1, 1, 0, 1, 0, 1]), b38⟩), .obj b25 (.row 3 .whole [(.int .i64 c25_0)]), .obj b32 (.row 33 .whole [sc32_0]), .obj b35 (.row 33 .whole [sc35_0]), .obj b29 (.row 80 .whole [(.int .i64 c29.live), (.int .i64 c29.window), (.int .i64 c29.step)]), .obj b38 .defd]), hd1 v10 v11 v12 v6_g37 c25_0 c32_0 c35_0 c29 = some r → Run Try.prog ⟨⟨84, [], none⟩, [.mk ⟨59, [b38], none⟩ 19 (treeOf [(7, (.ptr b25 0))]) [.inRange b37, .inBlock 0, codeC Try.prog 59 [1, 1, 1]]]⟩ 56 (search_clock_loudest_post r) [(0, (.yield b37)), (2, (.ptr b35 0)), (3, (.ptr b29 0)), (10, sv10), (11, (.int .i64 v11)), (12, (.int .i64 v12))] [codeC Try.prog 84 [1, 0, 0], loopC Try.prog 84 [1, 0, 0], .inBlock 0] M) : ∀ (N : Nat), ∀ (v5 : Int) (v10 : (List S_api_Trigger)) (v11 v12 : Int) (v17 : (List S_api_Trigger)) (v18 v19 v6_g37 c25_0 : Int) (c32_0 c35_0 : (List S_api_Trigger)) (c29 : S_search_clock) (c43 : S_api_Trigger) (sv10 sv17 sc32_0 sc35_0 : SV) (b37 b25 b32 b35 b29 b38 b43 : Pos) (Fr : Rd) (M : Mem) (r : Int) (hv10 : Slc Fr 3 (FlatR enc73) sv10 v10) (hv17 : Slc Fr 3 (FlatR enc73) sv17 v17) (hc32_0 : Slc Fr 3 (FlatR enc73) sc32_0 c32_0) (hc35_0 : Slc Fr 3 (FlatR enc73) sc35_0 c35_0) (hH : Has Fr M [.obj b37 (.loop ⟨.ready, none, 59, 19, treeOf [(6, (.int .i64 v6_g37)), (7, (.ptr b25 0)), (12, (.fn (.func 84) [] [(.ptr b32 0), (.ptr b35 0), (.ptr b29 0)]))], [13], (atC Try.prog 59 [1, 1, 0, 1, 0, 0]), (atC Try.prog 59 [1, 1, 0, 1, 0, 1]), b38⟩), .obj b25 (.row 3 .whole [(.int .i64 c25_0)]), .obj b32 (.row 33 .whole [sc32_0]), .obj b35 (.row 33 .whole [sc35_0]), .obj b29 (.row 80 .whole [(.int .i64 c29.live), (.int .i64 c29.window), (.int .i64 c29.step)]), .obj b38 .defd, .obj b43 (.row 73 .whole [(.int .i64 c43.Time), (.int .i64 c43.Loud), (.int .i64 c43.Template)])]), search_clock_loudest_2 F hd1 N v5 v10 v11 v12 v17 v18 v19 v6_g37 c25_0 c32_0 c35_0 c29 c43 = some r → Run Try.prog ⟨⟨84, [], none⟩, [.mk ⟨59, [b38], none⟩ 19 (treeOf [(7, (.ptr b25 0))]) [.inRange b37, .inBlock 0, codeC Try.prog 59 [1, 1, 1]]]⟩ 56 (search_clock_loudest_post r) [(0, (.yield b37)), (2, (.ptr b35 0)), (3, (.ptr b29 0)), (5, (.int .i64 v5)), (6, (.ptr b43 0)), (10, sv10), (11, (.int .i64 v11)), (12, (.int .i64 v12)), (17, sv17), (18, (.int .i64 v18)), (19, (.int .i64 v19))] [codeC Try.prog 84 [1, 0, 0, 1, 1, 0, 0, 1, 1, 0, 0], loopC Try.prog 84 [1, 0, 0, 1, 1, 0, 0, 1, 1, 0, 0], .inBlock 2, .inBlock 1, codeC Try.prog 84 [1, 0, 0, 1, 1, 1], loopC Try.prog 84 [1, 0, 0], .inBlock 0] M := by
  intro N
  induction N with
  | zero =>
    intro v5 v10 v11 v12 v17 v18 v19 v6_g37 c25_0 c32_0 c35_0 c29 c43 sv10 sv17 sc32_0 sc35_0 b37 b25 b32 b35 b29 b38 b43 Fr M r hv10 hv17 hc32_0 hc35_0 hH h
    simp [search_clock_loudest_2] at h
  | succ N ih =>
    intro v5 v10 v11 v12 v17 v18 v19 v6_g37 c25_0 c32_0 c35_0 c29 c43 sv10 sv17 sc32_0 sc35_0 b37 b25 b32 b35 b29 b38 b43 Fr M r hv10 hv17 hc32_0 hc35_0 hH h
    rw [search_clock_loudest_2] at h
    refine Run.seq (Run.region ?_)
    refine Run.opG wantS_none (ex_lss rfl rfl) rfl ?_
    refine Run.opsEnd (Run.seq ?_)
    rcases btf ((decide (v19 < v18))) with hc46 | hc46
    · have h := bif_t hc46 h
      refine Run.condT' rfl hc46 ?_
      refine Run.skip (Run.seq (Run.block (Run.seq (Run.region ?_))))
      refine Run.opG wantS_none (ex_move rfl) rfl ?_
      obtain ⟨x48, hx48, h⟩ := bnd_some h
      obtain ⟨p48, o48, _, hx48, hp48, rfl⟩ := sl_elem (P := Try.prog) (t := 33) (kk := .i64) hv17 hx48 els33
      refine Run.opG wantS_none (ex_elX rfl rfl hx48) rfl ?_
      refine Run.opG wantS_none (ex_loadA rfl (hH.ptrF hp48) rdLe_rfl agg73 rfl rfl rfl) rfl ?_
      refine Run.opX wantS_none rfl (ExG.new (v := fun b => .ptr b 0) (ex_alloc zer73) hH) ?_
      rintro _ M51 ⟨b50, rfl, hH51⟩
      refine Run.opG wantS_none (ex_assign rfl) rfl ?_
      refine Run.opX wantS_none rfl (ExG.storeC (c' := [(.int .i64 x48.Time), (.int .i64 x48.Loud), (.int .i64 x48.Template)]) rfl rfl rfl hH51 (i := 0) rfl sz73 rfl rfl rfl rfl rfl) ?_
      rintro _ M52 ⟨rfl, (hH52 : Has Fr M52 [.obj b50 (.row 73 .whole [(.int .i64 x48.Time), (.int .i64 x48.Loud), (.int .i64 x48.Template)]), .obj b37 (.loop ⟨.ready, none, 59, 19, treeOf [(6, (.int .i64 v6_g37)), (7, (.ptr b25 0)), (12, (.fn (.func 84) [] [(.ptr b32 0), (.ptr b35 0), (.ptr b29 0)]))], [13], (atC Try.prog 59 [1, 1, 0, 1, 0, 0]), (atC Try.prog 59 [1, 1, 0, 1, 0, 1]), b38⟩), .obj b25 (.row 3 .whole [(.int .i64 c25_0)]), .obj b32 (.row 33 .whole [sc32_0]), .obj b35 (.row 33 .whole [sc35_0]), .obj b29 (.row 80 .whole [(.int .i64 c29.live), (.int .i64 c29.window), (.int .i64 c29.step)]), .obj b38 .defd, .obj b43 (.row 73 .whole [(.int .i64 c43.Time), (.int .i64 c43.Loud), (.int .i64 c43.Template)])])⟩
      refine Run.opsEnd (Run.seq ?_)
      refine Run.drawG plan84_1_0_0_1_1_0_0_1_1_0_0_1_1_0_0_1_0 ?_
      refine DrawG.fl rfl (ev_ex wantS_none (ex_fieldAddr rfl off73_2)) rfl ?_
      refine DrawG.fl rfl (ev_ex wantS_none (ex_load1 rfl (hH52.cells (i := 7) rfl 2 rfl) rdLe_rfl agg3)) rfl ?_
      refine DrawG.fl rfl (ev_ex wantS_none (ex_fieldAddr rfl off73_2)) rfl ?_
      refine DrawG.fl rfl (ev_ex wantS_none (ex_load1 rfl (hH52.cells (i := 0) rfl 2 rfl) rdLe_rfl agg3)) rfl ?_
      refine DrawG.fl rfl (ev_ex wantS_none (ex_eql rfl rfl)) rfl ?_
      refine DrawG.fl rfl (ev_ex wantS_none (ex_move rfl)) rfl ?_
      rcases btf ((c43.Template == x48.Template)) with hc53 | hc53
      · have h := bif_t hc53 h
        refine DrawG.fl rfl (ev_ex (wantS_yes' rfl rfl hc53) (ex_loadA rfl (hH52.cells (i := 5) rfl 0 rfl) rdLe_rfl agg80 rfl rfl rfl)) rfl ?_
        refine DrawG.fl rfl (ev_ex (wantS_yes' rfl rfl hc53) (ex_fieldAddr rfl off73_0)) rfl ?_
        refine DrawG.fl rfl (ev_ex (wantS_yes' rfl rfl hc53) (ex_load1 rfl (hH52.cells (i := 7) rfl 0 rfl) rdLe_rfl agg3)) rfl ?_
        refine DrawG.fl rfl (ev_ex (wantS_yes' rfl rfl hc53) (ex_fieldAddr rfl off73_0)) rfl ?_
        refine DrawG.fl rfl (ev_ex (wantS_yes' rfl rfl hc53) (ex_load1 rfl (hH52.cells (i := 0) rfl 0 rfl) rdLe_rfl agg3)) rfl ?_
        refine DrawG.fl rfl (ev_ex (wantS_yes' rfl rfl hc53) (ex_fieldAddr rfl off80_1)) rfl ?_
        refine DrawG.fl rfl (ev_ex (wantS_yes' rfl rfl hc53) (ex_load1 rfl (hH52.cells (i := 5) rfl 1 rfl) rdLe_rfl agg3)) rfl ?_
        obtain ⟨r54, hr54, h⟩ := bnd_some h
        refine DrawG.callP rfl (wantS_yes' rfl rfl hc53) (ex_call rfl mkk85 cal85) rfl (search_clock_distance_ok F c29 c43.Time x48.Time _ _ hr54) (st_cons rfl (ev_ex (wantS_yes' rfl rfl hc53) (ex_load1 rfl (hH52.cells (i := 5) rfl 1 rfl) rdLe_rfl agg3)) rfl rfl rfl (st_cons rfl (ev_ex (wantS_yes' rfl rfl hc53) (ex_fieldAddr rfl off80_1)) rfl rfl rfl st_nil)) ?_
        refine DrawG.fl rfl (ev_ex (wantS_yes' rfl rfl hc53) (ex_leq rfl rfl)) rfl ?_
        refine DrawG.fl rfl (ev_ex wantS_none (ex_pickT' rfl hc53 rfl rfl)) rfl ?_
        refine DrawG.fl rfl (ev_ex wantS_none (ex_assign rfl)) rfl ?_
        refine DrawG.sync ?_
        refine DrawG.nil ?_
        refine Run.seq (Run.region ?_)
        exact Run.low (.cons (fle_pick [7] rfl) .nil) (Run.pick [0, 2, 3, 5, 6, 7, 8, 9, 10, 11, 12, 17, 18, 19] (search_clock_loudest_3_ok F (search_clock_loudest_2 F hd1 N) ih v5 v19 (decide (r54 ≤ c29.window)) v10 v11 v12 v17 v18 v19 v6_g37 c25_0 c32_0 c35_0 c29 c43 x48 sv10 sv17 sc32_0 sc35_0 b37 b25 b32 b35 b29 b38 b43 b50 _ _ _ hv10 hv17 hc32_0 hc35_0 (hH52.pick [1, 2, 3, 4, 5, 6, 7, 0] rfl rfl) h))
      · have h := bif_f hc53 h
        refine DrawG.fl rfl (ev_no (wantS_not' rfl rfl hc53)) rfl ?_
        refine DrawG.fl rfl (ev_no (wantS_not' rfl rfl hc53)) rfl ?_
        refine DrawG.fl rfl (ev_no (wantS_not' rfl rfl hc53)) rfl ?_
        refine DrawG.fl rfl (ev_no (wantS_not' rfl rfl hc53)) rfl ?_
        refine DrawG.fl rfl (ev_no (wantS_not' rfl rfl hc53)) rfl ?_
        refine DrawG.fl rfl (ev_no (wantS_not' rfl rfl hc53)) rfl ?_
        refine DrawG.fl rfl (ev_no (wantS_not' rfl rfl hc53)) rfl ?_
        refine DrawG.no rfl (wantS_not' rfl rfl hc53) rfl (st_cons rfl (ev_no (wantS_not' rfl rfl hc53)) rfl rfl rfl (st_cons rfl (ev_no (wantS_not' rfl rfl hc53)) rfl rfl rfl st_nil)) ?_
        refine DrawG.fl rfl (ev_no (wantS_not' rfl rfl hc53)) rfl ?_
        refine DrawG.fl rfl (ev_ex wantS_none (ex_pickF' rfl hc53 rfl rfl)) rfl ?_
        refine DrawG.fl rfl (ev_ex wantS_none (ex_assign rfl)) rfl ?_
        refine DrawG.sync ?_
        refine DrawG.nil ?_
        refine Run.seq (Run.region ?_)
        exact Run.low (.cons (fle_pick [7] rfl) .nil) (Run.pick [0, 2, 3, 5, 6, 7, 8, 9, 10, 11, 12, 17, 18, 19] (search_clock_loudest_3_ok F (search_clock_loudest_2 F hd1 N) ih v5 v19 false v10 v11 v12 v17 v18 v19 v6_g37 c25_0 c32_0 c35_0 c29 c43 x48 sv10 sv17 sc32_0 sc35_0 b37 b25 b32 b35 b29 b38 b43 b50 _ _ _ hv10 hv17 hc32_0 hc35_0 (hH52.pick [1, 2, 3, 4, 5, 6, 7, 0] rfl rfl) h))
    · have h := bif_f hc46 h
      refine Run.condF' rfl hc46 ?_
      refine Run.exit rfl (Run.inBlock (Run.region ?_))
      refine Run.opG wantS_none (ex_add rfl rfl) rfl ?_
      refine Run.opG wantS_none (ex_move rfl) rfl ?_
      refine Run.opsEnd (Run.inLoop ?_)
      exact Run.low (.cons (fle_pick [7] rfl) .nil) (Run.pick [0, 2, 3, 10, 11, 12] (hhd1 v10 v11 (w64 (v12 + (1 : Int))) v6_g37 c25_0 c32_0 c35_0 c29 sv10 sc32_0 sc35_0 b37 b25 b32 b35 b29 b38 _ _ _ hv10 hc32_0 hc35_0 (hH.pick [0, 1, 2, 3, 4, 5] rfl rfl) h))

def search_clock_loudest_1 (F : Nat) : Nat → (List S_api_Trigger) → Int → Int → Int → Int → (List S_api_Trigger) → (List S_api_Trigger) → S_search_clock → Option (Int)
  | 0, _, _, _, _, _, _, _, _ => none
  | N + 1, v10, v11, v12, v6_g37, c25_0, c32_0, c35_0, c29 =>
    bif (decide (v12 < v11)) then
      bnd (idx v10 v12) fun x41 =>
      search_clock_loudest_2 F (search_clock_loudest_1 F N) F v12 v10 v11 v12 c35_0 (c35_0.length : Int) (0 : Int) v6_g37 c25_0 c32_0 c35_0 c29 x41
    else
      some c25_0

theorem search_clock_loudest_1_ok (F : Nat) : ∀ (N : Nat), ∀ (v10 : (List S_api_Trigger)) (v11 v12 v6_g37 c25_0 : Int) (c32_0 c35_0 : (List S_api_Trigger)) (c29 : S_search_clock) (sv10 sc32_0 sc35_0 : SV) (b37 b25 b32 b35 b29 b38 : Pos) (Fr : Rd) (M : Mem) (r : Int) (hv10 : Slc Fr 3 (FlatR enc73) sv10 v10) (hc32_0 : Slc Fr 3 (FlatR enc73) sc32_0 c32_0) (hc35_0 : Slc Fr 3 (FlatR enc73) sc35_0 c35_0) (hH : Has Fr M [.obj b37 (.loop ⟨.ready, none, 59, 19, treeOf [(6, (.int .i64 v6_g37)), (7, (.ptr b25 0)), (12, (.fn (.func 84) [] [(.ptr b32 0), (.ptr b35 0), (.ptr b29 0)]))], [13], (atC Try.prog 59 [1, 1, 0, 1, 0, 0]), (atC Try.prog 59 [1, 1, 0, 1, 0, 1]), b38⟩), .obj b25 (.row 3 .whole [(.int .i64 c25_0)]), .obj b32 (.row 33 .whole [sc32_0]), .obj b35 (.row 33 .whole [sc35_0]), .obj b29 (.row 80 .whole [(.int .i64 c29.live), (.int .i64 c29.window), (.int .i64 c29.step)]), .obj b38 .defd]), search_clock_loudest_1 F N v10 v11 v12 v6_g37 c25_0 c32_0 c35_0 c29 = some r → Run Try.prog ⟨⟨84, [], none⟩, [.mk ⟨59, [b38], none⟩ 19 (treeOf [(7, (.ptr b25 0))]) [.inRange b37, .inBlock 0, codeC Try.prog 59 [1, 1, 1]]]⟩ 56 (search_clock_loudest_post r) [(0, (.yield b37)), (2, (.ptr b35 0)), (3, (.ptr b29 0)), (10, sv10), (11, (.int .i64 v11)), (12, (.int .i64 v12))] [codeC Try.prog 84 [1, 0, 0], loopC Try.prog 84 [1, 0, 0], .inBlock 0] M := by
  intro N
  induction N with
  | zero =>
    intro v10 v11 v12 v6_g37 c25_0 c32_0 c35_0 c29 sv10 sc32_0 sc35_0 b37 b25 b32 b35 b29 b38 Fr M r hv10 hc32_0 hc35_0 hH h
    simp [search_clock_loudest_1] at h
  | succ N ih =>
    intro v10 v11 v12 v6_g37 c25_0 c32_0 c35_0 c29 sv10 sc32_0 sc35_0 b37 b25 b32 b35 b29 b38 Fr M r hv10 hc32_0 hc35_0 hH h
    rw [search_clock_loudest_1] at h
    refine Run.seq (Run.region ?_)
    refine Run.opG wantS_none (ex_lss rfl rfl) rfl ?_
    refine Run.opsEnd (Run.seq ?_)
    rcases btf ((decide (v12 < v11))) with hc39 | hc39
    · have h := bif_t hc39 h
      refine Run.condT' rfl hc39 ?_
      refine Run.skip (Run.seq (Run.block (Run.seq (Run.region ?_))))
      refine Run.opG wantS_none (ex_move rfl) rfl ?_
      obtain ⟨x41, hx41, h⟩ := bnd_some h
      obtain ⟨p41, o41, _, hx41, hp41, rfl⟩ := sl_elem (P := Try.prog) (t := 33) (kk := .i64) hv10 hx41 els33
      refine Run.opG wantS_none (ex_elX rfl rfl hx41) rfl ?_
      refine Run.opG wantS_none (ex_loadA rfl (hH.ptrF hp41) rdLe_rfl agg73 rfl rfl rfl) rfl ?_
      refine Run.opX wantS_none rfl (ExG.new (v := fun b => .ptr b 0) (ex_alloc zer73) hH) ?_
      rintro _ M44 ⟨b43, rfl, hH44⟩
      refine Run.opG wantS_none (ex_assign rfl) rfl ?_
      refine Run.opX wantS_none rfl (ExG.storeC (c' := [(.int .i64 x41.Time), (.int .i64 x41.Loud), (.int .i64 x41.Template)]) rfl rfl rfl hH44 (i := 0) rfl sz73 rfl rfl rfl rfl rfl) ?_
      rintro _ M45 ⟨rfl, (hH45 : Has Fr M45 [.obj b43 (.row 73 .whole [(.int .i64 x41.Time), (.int .i64 x41.Loud), (.int .i64 x41.Template)]), .obj b37 (.loop ⟨.ready, none, 59, 19, treeOf [(6, (.int .i64 v6_g37)), (7, (.ptr b25 0)), (12, (.fn (.func 84) [] [(.ptr b32 0), (.ptr b35 0), (.ptr b29 0)]))], [13], (atC Try.prog 59 [1, 1, 0, 1, 0, 0]), (atC Try.prog 59 [1, 1, 0, 1, 0, 1]), b38⟩), .obj b25 (.row 3 .whole [(.int .i64 c25_0)]), .obj b32 (.row 33 .whole [sc32_0]), .obj b35 (.row 33 .whole [sc35_0]), .obj b29 (.row 80 .whole [(.int .i64 c29.live), (.int .i64 c29.window), (.int .i64 c29.step)]), .obj b38 .defd])⟩
      refine Run.opsEnd (Run.seq (Run.region ?_))
      refine Run.opG wantS_none (ex_load1 rfl (hH45.cells (i := 4) rfl 0 rfl) rdLe_rfl agg33) rfl ?_
      refine Run.opG wantS_none (ex_len' rfl hc35_0 lenk33) rfl ?_
      refine Run.opG wantS_none (ex_move rfl) rfl ?_
      refine Run.opsEnd (Run.block (Run.loop ?_))
      exact Run.low (.cons (fle_pick [7] rfl) .nil) (Run.pick [0, 2, 3, 5, 6, 10, 11, 12, 17, 18, 19] (search_clock_loudest_2_ok F (search_clock_loudest_1 F N) ih F v12 v10 v11 v12 c35_0 (c35_0.length : Int) (0 : Int) v6_g37 c25_0 c32_0 c35_0 c29 x41 sv10 sc35_0 sc32_0 sc35_0 b37 b25 b32 b35 b29 b38 b43 _ _ _ hv10 hc35_0 hc32_0 hc35_0 (hH45.pick [1, 2, 3, 4, 5, 6, 0] rfl rfl) h))
    · have h := bif_f hc39 h
      refine Run.condF' rfl hc39 ?_
      refine Run.exit rfl ?_
      refine Run.fallRange Try.func84 rfl res_nil ?_
      refine Run.endX hH (i := 0) rfl (fun hc => by cases hc) ?_
      intro M68 (hH68 : Has Fr M68 [.obj b37 (.loop ⟨.exhausted, none, 59, 19, treeOf [(6, (.int .i64 v6_g37)), (7, (.ptr b25 0)), (12, (.fn (.func 84) [] [(.ptr b32 0), (.ptr b35 0), (.ptr b29 0)]))], [13], (atC Try.prog 59 [1, 1, 0, 1, 0, 0]), (atC Try.prog 59 [1, 1, 0, 1, 0, 1]), b38⟩), .obj b25 (.row 3 .whole [(.int .i64 c25_0)]), .obj b32 (.row 33 .whole [sc32_0]), .obj b35 (.row 33 .whole [sc35_0]), .obj b29 (.row 80 .whole [(.int .i64 c29.live), (.int .i64 c29.window), (.int .i64 c29.step)]), .obj b38 .defd])
      refine Run.inBlock (Run.seq (Run.region ?_))
      refine Run.opG wantS_none (ex_load1 rfl (hH68.cells (i := 1) rfl 0 rfl) rdLe_rfl agg3) rfl ?_
      refine Run.opG wantS_none (ex_assign rfl) rfl ?_
      refine Run.opsEnd ?_
      obtain ⟨hH69x, hS69⟩ := hH68.shut (i := 5) (ds := []) rfl
      have hH69 : Has Fr (setT M68 b38 none) [.obj b37 (.loop ⟨.exhausted, none, 59, 19, treeOf [(6, (.int .i64 v6_g37)), (7, (.ptr b25 0)), (12, (.fn (.func 84) [] [(.ptr b32 0), (.ptr b35 0), (.ptr b29 0)]))], [13], (atC Try.prog 59 [1, 1, 0, 1, 0, 0]), (atC Try.prog 59 [1, 1, 0, 1, 0, 1]), b38⟩), .obj b25 (.row 3 .whole [(.int .i64 c25_0)]), .obj b32 (.row 33 .whole [sc32_0]), .obj b35 (.row 33 .whole [sc35_0]), .obj b29 (.row 80 .whole [(.int .i64 c29.live), (.int .i64 c29.window), (.int .i64 c29.step)]), .vec 0 0 0 .nils []] := hH69x
      cases h
      exact Run.ret Try.func59 (hS69 _ rfl) (res_tmp rfl res_nil) rfl

def search_clock_loudest (F : Nat) (a0 : S_search_clock) (a1 a2 : (List S_api_Trigger)) : Option (Int) :=
  search_clock_loudest_1 F F a1 (a1.length : Int) (0 : Int) (0 : Int) ((-1) : Int) a1 a2 a0

theorem search_clock_loudest_ok (F : Nat) (a0 : S_search_clock) (a1 a2 : (List S_api_Trigger)) (s0 s1 : SV) (r : Int) (M : Mem) (hs0 : Slc (rd M) 3 (FlatR enc73) s0 a1) (hs1 : Slc (rd M) 3 (FlatR enc73) s1 a2) (h : search_clock_loudest F a0 a1 a2 = some r) : CallsM Try.prog 59 [(.agg [(.int .i64 a0.live), (.int .i64 a0.window), (.int .i64 a0.step)]), s0, s1] M (fun s M' => s = (.int .i64 r) ∧ M' = M) := by
  refine CallsM.plain Try.func59 rfl rfl rfl (show Run _ _ _ (search_clock_loudest_post r) _ _ _ from ?_)
  rw [search_clock_loudest] at h
  replace hs0 := hs0.mono (rdLe_frozen M) (fun _ _ h => h)
  replace hs1 := hs1.mono (rdLe_frozen M) (fun _ _ h => h)
  have hH := Has.nil (frozen M)
  refine Run.seq (Run.region ?_)
  refine Run.opX wantS_none rfl (ExG.box rfl rfl hH) ?_
  rintro _ M23 ⟨b22, rfl, hH23⟩
  refine Run.opG wantS_none (ex_assign rfl) rfl ?_
  refine Run.opsEnd (Run.seq (Run.region ?_))
  refine Run.opX wantS_none rfl (ExG.new (v := fun b => .ptr b 0) (ex_alloc zer3) hH23) ?_
  rintro _ M26 ⟨b25, rfl, hH26⟩
  refine Run.opX wantS_none rfl (ExG.storeC (c' := [(.int .i64 (-1))]) rfl rfl rfl hH26 (i := 0) rfl sz3 rfl rfl rfl rfl rfl) ?_
  rintro _ M27 ⟨rfl, (hH27 : Has (ro (frozen M)) M27 [.obj b25 (.row 3 .whole [(.int .i64 (-1))]), .obj b22 (.row 80 .whole [(.int .i64 a0.live), (.int .i64 a0.window), (.int .i64 a0.step)])])⟩
  refine Run.opsEnd (Run.seq (Run.seq (Run.region ?_)))
  refine Run.opG wantS_none (ex_loadA rfl (hH27.cells (i := 1) rfl 0 rfl) rdLe_rfl agg80 rfl rfl rfl) rfl ?_
  refine Run.opG wantS_none (ex_move rfl) rfl ?_
  refine Run.opG wantS_none (ex_move rfl) rfl ?_
  refine Run.enter wantS_none (ex_call rfl mkk51 cal51) Try.func51 rfl rfl ?_
  refine Run.seq (Run.region ?_)
  refine Run.opX wantS_none rfl (ExG.box rfl rfl hH27) ?_
  rintro _ M30 ⟨b29, rfl, hH30⟩
  refine Run.opX wantS_none rfl (ExG.box rfl (cells_one (slc_one hs0)) hH30) ?_
  rintro _ M33 ⟨b32, rfl, hH33⟩
  refine Run.opX wantS_none rfl (ExG.box rfl (cells_one (slc_one hs1)) hH33) ?_
  rintro _ M36 ⟨b35, rfl, hH36⟩
  refine Run.opG wantS_none (ex_assign rfl) rfl ?_
  refine Run.opsEnd (Run.seq (Run.region ?_))
  refine Run.opG wantS_none (ex_makeFunc rfl rfl) rfl ?_
  refine Run.opG wantS_none (ex_assign rfl) rfl ?_
  refine Run.opsEnd ?_
  refine Run.retTo Try.func51 rfl (res_tmp rfl res_nil) rfl ?_
  refine Run.opsEnd (Run.block ?_)
  refine Run.pick [6, 7, 12] ?_
  refine Run.rangeX rfl cal84 Try.func84 rfl rfl hH36 ?_
  intro b38 b37 M37 (hH37 : Has (ro (frozen M)) M37 [.obj b37 (.loop ⟨.ready, none, 59, 19, treeOf [(6, (.int .i64 0)), (7, (.ptr b25 0)), (12, (.fn (.func 84) [] [(.ptr b32 0), (.ptr b35 0), (.ptr b29 0)]))], [13], (atC Try.prog 59 [1, 1, 0, 1, 0, 0]), (atC Try.prog 59 [1, 1, 0, 1, 0, 1]), b38⟩), .obj b38 .defd, .obj b35 (.row 33 .whole [s1]), .obj b32 (.row 33 .whole [s0]), .obj b29 (.row 80 .whole [(.int .i64 a0.live), (.int .i64 a0.window), (.int .i64 a0.step)]), .obj b25 (.row 3 .whole [(.int .i64 (-1))]), .obj b22 (.row 80 .whole [(.int .i64 a0.live), (.int .i64 a0.window), (.int .i64 a0.step)])])
  refine Run.seq (Run.region ?_)
  refine Run.opG wantS_none (ex_load1 rfl (hH37.cells (i := 3) rfl 0 rfl) rdLe_rfl agg33) rfl ?_
  refine Run.opG wantS_none (ex_len' rfl hs0 lenk33) rfl ?_
  refine Run.opG wantS_none (ex_move rfl) rfl ?_
  refine Run.opsEnd (Run.block (Run.loop ?_))
  exact Run.low (.cons (fle_pick [7] rfl) .nil) (Run.pick [0, 2, 3, 10, 11, 12] (search_clock_loudest_1_ok F F a1 (a1.length : Int) (0 : Int) (0 : Int) ((-1) : Int) a1 a2 a0 s0 s0 s1 b37 b25 b32 b35 b29 b38 _ _ _ hs0 hs0 hs1 (hH37.pick [0, 5, 3, 2, 4, 1] rfl rfl) h))

theorem mkk59 : makeK Try.prog 59 = none := by kernel_rfl
theorem cal59 : callable Try.prog 59 = true := by kernel_rfl
theorem elt22 : sliceElt Try.prog 22 = some (⟨1, 8, [(.int .i64 0)], 3⟩ : Elt) := by kernel_rfl
theorem appt22_22 : appT Try.prog 22 22 = some (⟨1, 8, [(.int .i64 0)], 3⟩ : Elt) := by kernel_rfl
theorem plan48_1_1_0_1_0_0_1_1_0_0_1 : planOf Try.prog (opsC (atC Try.prog 48 [1, 1, 0, 1, 0, 0, 1, 1, 0, 0, 1])) = some [.fl 0, .fl 1, .fl 2, .fl 3, .fl 4, .fl 5, .fl 6, .fl 7, .fl 8, .an 9 [2, 1, 0], .an 10 [0], .an 11 [0], .an 12 [], .an 13 [], .sync] := by kernel_rfl
abbrev search_clock_statistics_post (r : (List Int)) : SV → Mem → Prop := fun s Me => ∃ q1, s = q1 ∧ Has (fun _ => none) Me [.vec 3 1 r.length q1 (r.flatMap enc3)]

def search_clock_statistics_1 (F : Nat) : Nat → (List S_api_Trigger) → (List S_api_Trigger) → Int → Int → S_search_clock → (List Int) → Option ((List Int))
  | 0, _, _, _, _, _, _ => none
  | N + 1, v1, v2, v10, v11, c22, l27 =>
    bif (decide (v11 < v10)) then
      bnd (search_clock_slide F c22 v2 (w64 (v11 * c22.step))) fun r30 =>
      bnd (search_clock_loudest F c22 v1 r30) fun r33 =>
      bnd (apd 8 l27 ([r33] : List Int)) fun l37 =>
      (search_clock_statistics_1 F N) v1 v2 v10 (w64 (v11 + (1 : Int))) c22 l37
    else
      some l27

theorem search_clock_statistics_1_ok (F : Nat) : ∀ (N : Nat), ∀ (v1 v2 : (List S_api_Trigger)) (v10 v11 : Int) (c22 : S_search_clock) (l27 : (List Int)) (sv1 sv2 : SV) (b22 : Pos) (s27 : SV) (Fr : Rd) (M : Mem) (r : (List Int)) (hv1 : Slc Fr 3 (FlatR enc73) sv1 v1) (hv2 : Slc Fr 3 (FlatR enc73) sv2 v2) (hH : Has Fr M [.obj b22 (.row 80 .whole [(.int .i64 c22.live), (.int .i64 c22.window), (.int .i64 c22.step)]), .vec 3 1 l27.length s27 (l27.flatMap enc3)]), search_clock_statistics_1 F N v1 v2 v10 v11 c22 l27 = some r → Run Try.prog ⟨⟨48, [], none⟩, []⟩ 29 (search_clock_statistics_post r) [(1, sv1), (2, sv2), (3, (.ptr b22 0)), (7, s27), (10, (.int .i64 v10)), (11, (.int .i64 v11))] [codeC Try.prog 48 [1, 1, 0, 1, 0, 0], loopC Try.prog 48 [1, 1, 0, 1, 0, 0], .inBlock 0, codeC Try.prog 48 [1, 1, 1]] M := by
  intro N
  induction N with
  | zero =>
    intro v1 v2 v10 v11 c22 l27 sv1 sv2 b22 s27 Fr M r hv1 hv2 hH h
    simp [search_clock_statistics_1] at h
  | succ N ih =>
    intro v1 v2 v10 v11 c22 l27 sv1 sv2 b22 s27 Fr M r hv1 hv2 hH h
    rw [search_clock_statistics_1] at h
    refine Run.seq (Run.region ?_)
    refine Run.opG wantS_none (ex_lss rfl rfl) rfl ?_
    refine Run.opsEnd (Run.seq ?_)
    rcases btf ((decide (v11 < v10))) with hc29 | hc29
    · have h := bif_t hc29 h
      refine Run.condT' rfl hc29 ?_
      refine Run.skip (Run.seq (Run.block (Run.seq (Run.region ?_))))
      refine Run.opG wantS_none (ex_move rfl) rfl ?_
      refine Run.opG wantS_none (ex_assign rfl) rfl ?_
      refine Run.opsEnd ?_
      refine Run.drawG plan48_1_1_0_1_0_0_1_1_0_0_1 ?_
      refine DrawG.fl rfl (ev_ex wantS_none (ex_move rfl)) rfl ?_
      refine DrawG.fl rfl (ev_ex wantS_none (ex_loadA rfl (hH.cells (i := 0) rfl 0 rfl) rdLe_rfl agg80 rfl rfl rfl)) rfl ?_
      refine DrawG.fl rfl (ev_ex wantS_none (ex_move rfl)) rfl ?_
      refine DrawG.fl rfl (ev_ex wantS_none (ex_loadA rfl (hH.cells (i := 0) rfl 0 rfl) rdLe_rfl agg80 rfl rfl rfl)) rfl ?_
      refine DrawG.fl rfl (ev_ex wantS_none (ex_move rfl)) rfl ?_
      refine DrawG.fl rfl (ev_ex wantS_none (ex_move rfl)) rfl ?_
      refine DrawG.fl rfl (ev_ex wantS_none (ex_fieldAddr rfl off80_2)) rfl ?_
      refine DrawG.fl rfl (ev_ex wantS_none (ex_load1 rfl (hH.cells (i := 0) rfl 2 rfl) rdLe_rfl agg3)) rfl ?_
      refine DrawG.fl rfl (ev_ex wantS_none (ex_mul rfl rfl)) rfl ?_
      obtain ⟨r30, hr30, h⟩ := bnd_some h
      refine DrawG.call rfl wantS_none (ex_call rfl mkk49 cal49) rfl (search_clock_slide_ok F c22 v2 (w64 (v11 * c22.step)) sv2 _ _ (hH.slcF hv2) hr30) ?_
      rintro s30_0 M32 ⟨_, rfl, hN30⟩
      have hH32 : Has Fr M32 [.vec 73 3 r30.length s30_0 (r30.flatMap enc73), .obj b22 (.row 80 .whole [(.int .i64 c22.live), (.int .i64 c22.window), (.int .i64 c22.step)]), .vec 3 1 l27.length s27 (l27.flatMap enc3)] := hN30.1 _ _ hH
      refine ⟨(st_cons rfl (ev_ex wantS_none (ex_move rfl)) rfl rfl (slc_self hv1) (st_cons rfl (ev_ex wantS_none (ex_loadA rfl (hH32.cells (i := 1) rfl 0 rfl) rdLe_rfl agg80 rfl rfl rfl)) rfl rfl rfl (st_cons rfl (ev_ex wantS_none (ex_move rfl)) rfl rfl (blk_self hH32 (i := 2) rfl) st_nil))), ?_⟩
      obtain ⟨r33, hr33, h⟩ := bnd_some h
      refine DrawG.callP rfl wantS_none (ex_call rfl mkk59 cal59) rfl (search_clock_loudest_ok F c22 v1 r30 sv1 s30_0 _ _ (hH32.slcF hv1) (hH32.slc (i := 0) rfl enc73_len) hr33) (st_cons rfl (ev_ex wantS_none (ex_move rfl)) rfl rfl (blk_self hH32 (i := 2) rfl) st_nil) ?_
      refine DrawG.opX rfl wantS_none rfl (ExG.built (enc := enc3) (l := ([r33] : List Int)) (z := 1) rfl elt22 rfl rfl rfl enc3_len hH32) ?_
      rintro s35 M36 (hH36 : Has Fr M36 [.vec 3 1 ([r33] : List Int).length s35 (([r33] : List Int).flatMap enc3), .vec 73 3 r30.length s30_0 (r30.flatMap enc73), .obj b22 (.row 80 .whole [(.int .i64 c22.live), (.int .i64 c22.window), (.int .i64 c22.step)]), .vec 3 1 l27.length s27 (l27.flatMap enc3)])
      refine ⟨(st_cons rfl (ev_ex wantS_none (ex_move rfl)) rfl rfl (blk_self hH36 (i := 3) rfl) st_nil), ?_⟩
      obtain ⟨l37, hl37, h⟩ := bnd_some h
      refine DrawG.opX rfl wantS_none rfl (ExG.append rfl rfl hH36 (i := 3) rfl enc3_len rfl enc3_ones appt22_22 rfl (len_slc (hH36.slc (i := 0) rfl enc3_len)) (first_slc (hH36.slc (i := 0) rfl enc3_len) (rdLe_rdRow _) enc3_len) hl37) ?_
      rintro s37 M39 (hH39 : Has Fr M39 [.vec 3 1 ([r33] : List Int).length s35 (([r33] : List Int).flatMap enc3), .vec 73 3 r30.length s30_0 (r30.flatMap enc73), .obj b22 (.row 80 .whole [(.int .i64 c22.live), (.int .i64 c22.window), (.int .i64 c22.step)]), .vec 3 1 l37.length s37 (l37.flatMap enc3)])
      refine ⟨st_nil, ?_⟩
      refine DrawG.val rfl wantS_none (ex_assign rfl) rfl st_nil ?_
      refine DrawG.sync ?_
      refine DrawG.nil ?_
      refine Run.inBlock (Run.region ?_)
      refine Run.opG wantS_none (ex_add rfl rfl) rfl ?_
      refine Run.opG wantS_none (ex_move rfl) rfl ?_
      refine Run.opsEnd (Run.inLoop ?_)
      exact Run.pick [1, 2, 3, 7, 10, 11] (ih v1 v2 v10 (w64 (v11 + (1 : Int))) c22 l37 sv1 sv2 b22 s37 _ _ _ hv1 hv2 (hH39.pick [2, 3] rfl rfl) h)
    · have h := bif_f hc29 h
      refine Run.condF' rfl hc29 ?_
      refine Run.exit rfl (Run.seq (Run.region ?_))
      refine Run.opG wantS_none (ex_move rfl) rfl ?_
      refine Run.opG wantS_none (ex_assign rfl) rfl ?_
      refine Run.opsEnd ?_
      cases h
      exact Run.ret Try.func48 rfl (res_tmp rfl res_nil) ⟨_, rfl, (hH.pick [1] rfl rfl).upF (none_le _)⟩

def search_clock_statistics (F : Nat) (a0 : S_search_clock) (a1 a2 : (List S_api_Trigger)) : Option ((List Int)) :=
  bnd (search_clock_slides F a0) fun r25 =>
  search_clock_statistics_1 F F a1 a2 r25 (0 : Int) a0 ([] : List Int)

theorem search_clock_statistics_ok (F : Nat) (a0 : S_search_clock) (a1 a2 : (List S_api_Trigger)) (s0 s1 : SV) (r : (List Int)) (M : Mem) (hs0 : Slc (rd M) 3 (FlatR enc73) s0 a1) (hs1 : Slc (rd M) 3 (FlatR enc73) s1 a2) (h : search_clock_statistics F a0 a1 a2 = some r) : CallsM Try.prog 48 [(.agg [(.int .i64 a0.live), (.int .i64 a0.window), (.int .i64 a0.step)]), s0, s1] M (fun s M' => ∃ q1, s = q1 ∧ New M M' [.vec 3 1 r.length q1 (r.flatMap enc3)]) := by
  refine CallsM.fresh (Q := search_clock_statistics_post r) Try.func48 rfl rfl ?_ (by rintro s Me ⟨q1, rfl, hx⟩ ha hw; exact ⟨_, rfl, New.of rfl hx ha hw⟩)
  rw [search_clock_statistics] at h
  replace hs0 := hs0.mono (rdLe_frozen M) (fun _ _ h => h)
  replace hs1 := hs1.mono (rdLe_frozen M) (fun _ _ h => h)
  have hH := Has.nil (frozen M)
  refine Run.seq (Run.region ?_)
  refine Run.opX wantS_none rfl (ExG.box rfl rfl hH) ?_
  rintro _ M23 ⟨b22, rfl, hH23⟩
  refine Run.opG wantS_none (ex_assign rfl) rfl ?_
  refine Run.opsEnd (Run.seq (Run.region ?_))
  refine Run.opG wantS_none (ex_assign rfl) rfl ?_
  refine Run.opsEnd (Run.seq (Run.seq (Run.region ?_)))
  refine Run.opG wantS_none (ex_loadA rfl (hH23.cells (i := 0) rfl 0 rfl) rdLe_rfl agg80 rfl rfl rfl) rfl ?_
  obtain ⟨r25, hr25, h⟩ := bnd_some h
  refine Run.callP wantS_none (ex_call rfl mkk39 cal39) rfl (search_clock_slides_ok F a0 _ _ hr25) ?_
  refine Run.opG wantS_none (ex_move rfl) rfl ?_
  refine Run.opsEnd (Run.block (Run.loop ?_))
  have hH28 : Has (ro (frozen M)) M23 [.vec 3 1 ([] : List Int).length .nils (([] : List Int).flatMap enc3), .obj b22 (.row 80 .whole [(.int .i64 a0.live), (.int .i64 a0.window), (.int .i64 a0.step)])] := hH23.nils 3 1
  exact Run.pick [1, 2, 3, 7, 10, 11] (search_clock_statistics_1_ok F F a1 a2 r25 (0 : Int) a0 ([] : List Int) s0 s1 b22 .nils _ _ _ hs0 hs1 (hH28.pick [1, 0] rfl rfl) h)

theorem mkk48 : makeK Try.prog 48 = none := by kernel_rfl
theorem cal48 : callable Try.prog 48 = true := by kernel_rfl
abbrev search_Statistics_post (r : (List Int) × Int) : SV → Mem → Prop := fun s Me => ∃ q1, s = (.tuple [q1, (.int .i64 r.2)]) ∧ Has (fun _ => none) Me [.vec 3 1 r.1.length q1 (r.1.flatMap enc3)]

def search_Statistics (F : Nat) (a0 a1 : (List S_api_Trigger)) (a2 a3 a4 : Int) : Option ((List Int) × Int) :=
  bnd (search_clock_check F (S_search_clock.mk a2 a3 a4) ([a0, a1] : List (List S_api_Trigger))) fun r29 =>
  bif (!(r29 == (0 : Int))) then
    some (([] : List Int), r29)
  else
    bnd (search_clock_statistics F (S_search_clock.mk a2 a3 a4) a0 a1) fun r36 =>
    some (r36, (0 : Int))

theorem search_Statistics_ok (F : Nat) (a0 a1 : (List S_api_Trigger)) (a2 a3 a4 : Int) (s0 s1 : SV) (r : (List Int) × Int) (M : Mem) (hs0 : Slc (rd M) 3 (FlatR enc73) s0 a0) (hs1 : Slc (rd M) 3 (FlatR enc73) s1 a1) (h : search_Statistics F a0 a1 a2 a3 a4 = some r) : CallsM Try.prog 16 [s0, s1, (.int .i64 a2), (.int .i64 a3), (.int .i64 a4)] M (fun s M' => ∃ q1, s = (.tuple [q1, (.int .i64 r.2)]) ∧ New M M' [.vec 3 1 r.1.length q1 (r.1.flatMap enc3)]) := by
  refine CallsM.fresh (Q := search_Statistics_post r) Try.func16 rfl rfl ?_ (by rintro s Me ⟨q1, rfl, hx⟩ ha hw; exact ⟨_, rfl, New.of rfl hx ha hw⟩)
  rw [search_Statistics] at h
  replace hs0 := hs0.mono (rdLe_frozen M) (fun _ _ h => h)
  replace hs1 := hs1.mono (rdLe_frozen M) (fun _ _ h => h)
  have hH := Has.nil (frozen M)
  refine Run.seq (Run.region ?_)
  refine Run.opG wantS_none (ex_assign rfl) rfl ?_
  refine Run.opG wantS_none (ex_assign rfl) rfl ?_
  refine Run.opsEnd (Run.seq (Run.region ?_))
  refine Run.opG wantS_none (ex_move rfl) rfl ?_
  refine Run.opG wantS_none (ex_move rfl) rfl ?_
  refine Run.opG wantS_none (ex_move rfl) rfl ?_
  refine Run.opG wantS_none (ex_build (r := [(.int .i64 a2), (.int .i64 a3), (.int .i64 a4)]) rfl zer80 pls80 rfl) rfl ?_
  refine Run.opX wantS_none rfl (ExG.new (v := fun b => .ptr b 0) (ex_alloc zer80) hH) ?_
  rintro _ M23 ⟨b22, rfl, hH23⟩
  refine Run.opX wantS_none rfl (ExG.storeC (c' := [(.int .i64 a2), (.int .i64 a3), (.int .i64 a4)]) rfl rfl rfl hH23 (i := 0) rfl sz80 rfl rfl rfl rfl rfl) ?_
  rintro _ M24 ⟨rfl, (hH24 : Has (ro (frozen M)) M24 [.obj b22 (.row 80 .whole [(.int .i64 a2), (.int .i64 a3), (.int .i64 a4)])])⟩
  refine Run.opsEnd (Run.seq (Run.seq (Run.region ?_)))
  refine Run.opG wantS_none (ex_loadA rfl (hH24.cells (i := 0) rfl 0 rfl) rdLe_rfl agg80 rfl rfl rfl) rfl ?_
  refine Run.opG wantS_none (ex_move rfl) rfl ?_
  refine Run.opG wantS_none (ex_move rfl) rfl ?_
  have hr26 : Rows (rep33 (ro (frozen M))) 1 [s0, s1] ([a0, a1] : List (List S_api_Trigger)) := (Rows.cons (cs := [s0]) rfl ⟨s0, rfl, hs0⟩ (Rows.cons (cs := [s1]) rfl ⟨s1, rfl, hs1⟩ Rows.nil))
  refine Run.opX wantS_none rfl (ExG.builtR (z := 1) (c := [s0, s1]) rfl elt116 rfl (by simp only [fillS, cells_one (slc_one hs0), cells_one (slc_one hs1)]; rfl) rfl hH24) ?_
  rintro s26 M27 (hH27 : Has (ro (frozen M)) M27 [.vec 33 1 ([a0, a1] : List (List S_api_Trigger)).length s26 [s0, s1], .obj b22 (.row 80 .whole [(.int .i64 a2), (.int .i64 a3), (.int .i64 a4)])])
  obtain ⟨r29, hr29, h⟩ := bnd_some h
  refine Run.callP wantS_none (ex_call rfl mkk38 cal38) rfl (search_clock_check_ok F (S_search_clock.mk a2 a3 a4) ([a0, a1] : List (List S_api_Trigger)) s26 _ _ (((hH27.slcR (i := 0) rfl hr26)).mono (fun _ _ h => h) (fun _ _ => rep33_mo hH27.le)) hr29) ?_
  refine Run.opG wantS_none (ex_assign rfl) rfl ?_
  refine Run.opsEnd (Run.seq (Run.region ?_))
  refine Run.opG wantS_none (ex_move rfl) rfl ?_
  refine Run.opG wantS_none (ex_neq rfl rfl) rfl ?_
  refine Run.opsEnd ?_
  rcases btf ((!(r29 == (0 : Int)))) with hc31 | hc31
  · have h := bif_t hc31 h
    refine Run.condT' rfl hc31 ?_
    refine Run.seq (Run.region ?_)
    refine Run.opG wantS_none (ex_move rfl) rfl ?_
    refine Run.opG wantS_none (ex_assign rfl) rfl ?_
    refine Run.opG wantS_none (ex_assign rfl) rfl ?_
    refine Run.opsEnd ?_
    have hH33 : Has (ro (frozen M)) M27 [.vec 3 1 ([] : List Int).length .nils (([] : List Int).flatMap enc3), .vec 33 1 ([a0, a1] : List (List S_api_Trigger)).length s26 [s0, s1], .obj b22 (.row 80 .whole [(.int .i64 a2), (.int .i64 a3), (.int .i64 a4)])] := hH27.nils 3 1
    cases h
    exact Run.ret Try.func16 rfl (res_tmp rfl (res_tmp rfl res_nil)) ⟨_, rfl, (hH33.pick [0] rfl rfl).upF (none_le _)⟩
  · have h := bif_f hc31 h
    refine Run.condF' rfl hc31 ?_
    refine Run.skip (Run.seq (Run.region ?_))
    refine Run.opG wantS_none (ex_loadA rfl (hH27.cells (i := 1) rfl 0 rfl) rdLe_rfl agg80 rfl rfl rfl) rfl ?_
    refine Run.opG wantS_none (ex_move rfl) rfl ?_
    refine Run.opG wantS_none (ex_move rfl) rfl ?_
    obtain ⟨r36, hr36, h⟩ := bnd_some h
    refine Run.callX wantS_none (ex_call rfl mkk48 cal48) rfl (search_clock_statistics_ok F (S_search_clock.mk a2 a3 a4) a0 a1 s0 s1 _ _ (hH27.slcF hs0) (hH27.slcF hs1) hr36) ?_
    rintro s36_0 M38 ⟨_, rfl, hN36⟩
    have hH38 : Has (ro (frozen M)) M38 [.vec 3 1 r36.length s36_0 (r36.flatMap enc3), .vec 33 1 ([a0, a1] : List (List S_api_Trigger)).length s26 [s0, s1], .obj b22 (.row 80 .whole [(.int .i64 a2), (.int .i64 a3), (.int .i64 a4)])] := hN36.1 _ _ hH27
    refine Run.opG wantS_none (ex_assign rfl) rfl ?_
    refine Run.opG wantS_none (ex_assign rfl) rfl ?_
    refine Run.opsEnd ?_
    cases h
    exact Run.ret Try.func16 rfl (res_tmp rfl (res_tmp rfl res_nil)) ⟨_, rfl, (hH38.pick [0] rfl rfl).upF (none_le _)⟩

theorem mkk16 : makeK Try.prog 16 = none := by kernel_rfl
theorem cal16 : callable Try.prog 16 = true := by kernel_rfl
theorem mkk12 : makeK Try.prog 12 = none := by kernel_rfl
theorem cal12 : callable Try.prog 12 = true := by kernel_rfl
theorem off35_3 : fieldOff Try.prog 35 3 = some 3 := by kernel_rfl
theorem lenk22 : lenK Try.prog 22 = some .sl := by kernel_rfl
abbrev ref00_Mod_post (r : Int) : SV → Mem → Prop := fun s _ => s = (.int .i64 r)

def ref00_Mod_1 (F : Nat) (v0 : Int) : Option (Int) :=
  some v0

theorem ref00_Mod_1_ok (F : Nat) : ∀ (v0 : Int) (Fr : Rd) (M : Mem) (r : Int) (hH : Has Fr M []), ref00_Mod_1 F v0 = some r → Run Try.prog ⟨⟨17, [], none⟩, []⟩ 16 (ref00_Mod_post r) [(0, (.int .i64 v0))] [itemC Try.prog 17 [1, 1, 1, 1, 0] 0, codeC Try.prog 17 [1, 1, 1, 1, 1]] M := by
  intro v0 Fr M r hH h
  rw [ref00_Mod_1] at h
  refine Run.opG wantS_none (ex_move rfl) rfl ?_
  refine Run.opG wantS_none (ex_assign rfl) rfl ?_
  refine Run.opsEnd ?_
  cases h
  exact Run.ret Try.func17 rfl (res_tmp rfl res_nil) rfl

def ref00_Mod (F : Nat) (a0 a1 : Int) : Option (Int) :=
  bif (decide (a1 < (1 : Int))) then
    some (0 : Int)
  else
    bnd (nz a1) fun z23 =>
    bif (decide ((Int.tmod a0 a1) < (0 : Int))) then
      ref00_Mod_1 F (w64 ((Int.tmod a0 a1) + a1))
    else
      ref00_Mod_1 F (Int.tmod a0 a1)

theorem ref00_Mod_ok (F : Nat) (a0 a1 r : Int) (M : Mem) (h : ref00_Mod F a0 a1 = some r) : CallsM Try.prog 17 [(.int .i64 a0), (.int .i64 a1)] M (fun s M' => s = (.int .i64 r) ∧ M' = M) := by
  refine CallsM.plain Try.func17 rfl rfl rfl (show Run _ _ _ (ref00_Mod_post r) _ _ _ from ?_)
  rw [ref00_Mod] at h
  have hH := Has.nil (frozen M)
  refine Run.seq (Run.region ?_)
  refine Run.opG wantS_none (ex_assign rfl) rfl ?_
  refine Run.opsEnd (Run.seq (Run.seq (Run.region ?_)))
  refine Run.opG wantS_none (ex_move rfl) rfl ?_
  refine Run.opG wantS_none (ex_lss rfl rfl) rfl ?_
  refine Run.opsEnd ?_
  rcases btf ((decide (a1 < (1 : Int)))) with hc21 | hc21
  · have h := bif_t hc21 h
    refine Run.condT' rfl hc21 ?_
    refine Run.seq (Run.region ?_)
    refine Run.opG wantS_none (ex_assign rfl) rfl ?_
    refine Run.opsEnd ?_
    cases h
    exact Run.ret Try.func17 rfl (res_tmp rfl res_nil) rfl
  · have h := bif_f hc21 h
    refine Run.condF' rfl hc21 ?_
    refine Run.skip (Run.seq (Run.region ?_))
    refine Run.opG wantS_none (ex_move rfl) rfl ?_
    refine Run.opG wantS_none (ex_move rfl) rfl ?_
    obtain ⟨z23, hz23, h⟩ := bnd_some h
    refine Run.opG wantS_none (ex_rem' rfl rfl hz23) rfl ?_
    refine Run.opG wantS_none (ex_assign rfl) rfl ?_
    refine Run.opsEnd (Run.seq (Run.seq (Run.region ?_)))
    refine Run.opG wantS_none (ex_move rfl) rfl ?_
    refine Run.opG wantS_none (ex_lss rfl rfl) rfl ?_
    refine Run.opsEnd ?_
    rcases btf ((decide ((Int.tmod a0 a1) < (0 : Int)))) with hc24 | hc24
    · have h := bif_t hc24 h
      refine Run.condT' rfl hc24 ?_
      refine Run.region ?_
      refine Run.opG wantS_none (ex_move rfl) rfl ?_
      refine Run.opG wantS_none (ex_move rfl) rfl ?_
      refine Run.opG wantS_none (ex_add rfl rfl) rfl ?_
      refine Run.opG wantS_none (ex_assign rfl) rfl ?_
      refine Run.opsEnd (Run.seq (Run.region ?_))
      exact Run.pick [0] (ref00_Mod_1_ok F (w64 ((Int.tmod a0 a1) + a1)) _ _ _ hH h)
    · have h := bif_f hc24 h
      refine Run.condF' rfl hc24 ?_
      refine Run.skip (Run.seq (Run.region ?_))
      exact Run.pick [0] (ref00_Mod_1_ok F (Int.tmod a0 a1) _ _ _ hH h)

theorem mkk17 : makeK Try.prog 17 = none := by kernel_rfl
theorem cal17 : callable Try.prog 17 = true := by kernel_rfl
end Go.Ev.SearchAlarm
