/- Plain functions that say what functions of the program come to, and proofs of it, written by a program of the verifier's own. -/
import Derived.Test.YtcifnjdjnoadfaaEvL11
import Derived.Test.YtcifnjdjnoadfaaWorks
import Derived.KernelRfl
namespace Go.Ev.SearchSlides
open Go Go.Ev Go.Proofs
set_option maxRecDepth 100000
set_option linter.unusedVariables false

/-- The listed tables. -/
noncomputable def fixes : List (Nat × List SV) := Go.Proofs.Ytcifnjdjnoadfaa.works.fixes
/-- works() comes to true. -/
def works (_ : Nat) : Option Bool := some true
theorem fixH {Fr : Rd} {H : List Ent} {M : Mem} (hH : Has Fr M H) : FixIn M fixes := fun x hx => absurd hx List.not_mem_nil

theorem works_ok (F : Nat) (r : Bool) {Fr : Rd} {H : List Ent} (M : Mem) (hH : Has Fr M H) (h : works F = some r) : CallsM Try.prog 22 [] M fun s M' => s = .bool r ∧ M' = M := by
  cases h
  exact CallsM.closedFix (n := 300) (l := Go.Proofs.Ytcifnjdjnoadfaa.works.fixes) Go.Proofs.Ytcifnjdjnoadfaa.works.below Go.Proofs.Ytcifnjdjnoadfaa.works.plainF Go.Proofs.Ytcifnjdjnoadfaa.works.works_true (fun x hx => absurd hx List.not_mem_nil)


structure S_api_Trigger where
  Time : Int
  Loud : Int
  Template : Int

structure S_ringdownlaw08_Clock where
  Live : Int
  Window : Int
  Step : Int
  Limit : Int

def enc76 (a : S_api_Trigger) : List SV := [(.int .i64 a.Time), (.int .i64 a.Loud), (.int .i64 a.Template)]
theorem enc76_len (a : S_api_Trigger) : (enc76 a).length = 3 := rfl
theorem enc76_ones (a : S_api_Trigger) : ones (enc76 a) = true := rfl
theorem off24_0 : fieldOff Try.prog 24 0 = some 0 := by kernel_rfl
theorem agg3 : aggSize Try.prog 3 = some none := by kernel_rfl
theorem off24_3 : fieldOff Try.prog 24 3 = some 3 := by kernel_rfl
theorem zer87 : zerosOf Try.prog 87 = some [(.int .i64 0), (.int .i64 0), (.int .i64 0)] := by kernel_rfl
theorem pls87 : placesOf Try.prog 87 = some (.st [(0, 1), (1, 1), (2, 1)]) := by kernel_rfl
theorem sz87 : szOf Try.prog 87 = some 3 := by kernel_rfl
theorem agg87 : aggSize Try.prog 87 = some (some 3) := by kernel_rfl
def rep22 (f : Rd) (cs : List SV) (a : (List S_api_Trigger)) : Prop := ∃ q1, cs = [q1] ∧ Slc f 3 (FlatR enc76) q1 a
theorem rep22_mo {f g : Rd} (h : RdLe f g) {cs : List SV} {a : (List S_api_Trigger)} : rep22 f cs a → rep22 g cs a := by
  rintro ⟨q1, rfl, h0⟩
  exact ⟨q1, rfl, h0.mono h (fun _ _ h => h)⟩
theorem rep22_len {f : Rd} {cs : List SV} {a : (List S_api_Trigger)} : rep22 f cs a → cs.length = 1 := by
  rintro ⟨_, rfl, h0⟩
  rfl
theorem rep22_ones {f : Rd} {cs : List SV} {a : (List S_api_Trigger)} : rep22 f cs a → ones cs = true := by
  rintro ⟨_, rfl, h0⟩
  exact (ones_cons (slc_one h0) ones_nil)
theorem elt132 : sliceElt Try.prog 132 = some (⟨1, 24, [.nils], 22⟩ : Elt) := by kernel_rfl
structure S_search_clock where
  live : Int
  window : Int
  step : Int

theorem lenk132 : lenK Try.prog 132 = some .sl := by kernel_rfl
theorem els132 : elems Try.prog 132 = some (.sl 1) := by kernel_rfl
theorem agg22 : aggSize Try.prog 22 = some none := by kernel_rfl
theorem lenk22 : lenK Try.prog 22 = some .sl := by kernel_rfl
theorem els22 : elems Try.prog 22 = some (.sl 3) := by kernel_rfl
theorem agg76 : aggSize Try.prog 76 = some (some 3) := by kernel_rfl
theorem zer76 : zerosOf Try.prog 76 = some [(.int .i64 0), (.int .i64 0), (.int .i64 0)] := by kernel_rfl
theorem sz76 : szOf Try.prog 76 = some 3 := by kernel_rfl
theorem off76_0 : fieldOff Try.prog 76 0 = some 0 := by kernel_rfl
abbrev search_isFrom_post (r : Bool) : SV → Mem → Prop := fun s _ => s = (.bool r)

def search_isFrom_1 (F : Nat) (v14 : Bool) : Option (Bool) :=
  some v14

theorem search_isFrom_1_ok (F : Nat) : ∀ (v14 : Bool) (Fr : Rd) (M : Mem) (r : Bool) (hH : Has Fr M []), search_isFrom_1 F v14 = some r → Run Try.prog ⟨⟨62, [], none⟩, []⟩ 15 (search_isFrom_post r) [(14, (.bool v14))] [itemC Try.prog 62 [1, 0] 8, codeC Try.prog 62 [1, 1]] M := by
  intro v14 Fr M r hH h
  rw [search_isFrom_1] at h
  refine Run.opG wantS_none (ex_assign rfl) rfl ?_
  refine Run.opsEnd ?_
  cases h
  exact Run.ret Try.func62 rfl (res_tmp rfl res_nil) rfl

def search_isFrom (F : Nat) (a0 : Int) (a1 : Int) (a2 : Int) : Option (Bool) :=
  bif (decide (a0 ≤ a1)) then
    search_isFrom_1 F (decide (a1 ≤ a2))
  else
    search_isFrom_1 F false

theorem search_isFrom_ok (F : Nat) (a0 : Int) (a1 : Int) (a2 : Int) (r : Bool) (M : Mem) (h : search_isFrom F a0 a1 a2 = some r) : CallsM Try.prog 62 [(.int .i64 a0), (.int .i64 a1), (.int .i64 a2)] M (fun s M' => s = (.bool r) ∧ M' = M) := by
  refine CallsM.plain Try.func62 rfl rfl rfl (show Run _ _ _ (search_isFrom_post r) _ _ _ from ?_)
  rw [search_isFrom] at h
  have hH := Has.nil (frozen M)
  refine Run.seq (Run.region ?_)
  refine Run.opG wantS_none (ex_assign rfl) rfl ?_
  refine Run.opsEnd (Run.seq (Run.region ?_))
  refine Run.opG wantS_none (ex_move rfl) rfl ?_
  refine Run.opG wantS_none (ex_move rfl) rfl ?_
  refine Run.opG wantS_none (ex_leq rfl rfl) rfl ?_
  refine Run.opG wantS_none (ex_move rfl) rfl ?_
  rcases btf ((decide (a0 ≤ a1))) with hc21 | hc21
  · have h := bif_t hc21 h
    refine Run.opG (wantS_yes' rfl rfl hc21) (ex_move rfl) rfl ?_
    refine Run.opG (wantS_yes' rfl rfl hc21) (ex_move rfl) rfl ?_
    refine Run.opG (wantS_yes' rfl rfl hc21) (ex_leq rfl rfl) rfl ?_
    refine Run.opG wantS_none (ex_pickT' rfl hc21 rfl rfl) rfl ?_
    exact Run.pick [14] (search_isFrom_1_ok F (decide (a1 ≤ a2)) _ _ _ hH h)
  · have h := bif_f hc21 h
    refine Run.no (wantS_not' rfl rfl hc21) rfl ?_
    refine Run.no (wantS_not' rfl rfl hc21) rfl ?_
    refine Run.no (wantS_not' rfl rfl hc21) rfl ?_
    refine Run.opG wantS_none (ex_pickF' rfl hc21 rfl rfl) rfl ?_
    exact Run.pick [14] (search_isFrom_1_ok F false _ _ _ hH h)

theorem mkk62 : makeK Try.prog 62 = none := by kernel_rfl
theorem cal62 : callable Try.prog 62 = true := by kernel_rfl
theorem off76_2 : fieldOff Try.prog 76 2 = some 2 := by kernel_rfl
theorem off76_1 : fieldOff Try.prog 76 1 = some 1 := by kernel_rfl
abbrev search_areTriggers_post (r : Bool) : SV → Mem → Prop := fun s _ => s = (.bool r)

def search_areTriggers_3 (F : Nat) (hd1 : Int → (List S_api_Trigger) → Int → Int → Option (Bool)) (v9 : (List S_api_Trigger)) (v10 : Int) (v11 : Int) (v32 : Bool) (c26 : S_api_Trigger) : Option (Bool) :=
  bif v32 then
    some false
  else
    hd1 c26.Time v9 v10 (w64 (v11 + (1 : Int)))

theorem search_areTriggers_3_ok (F : Nat) (hd1 : Int → (List S_api_Trigger) → Int → Int → Option (Bool)) (hhd1 : ∀ (v3 : Int) (v9 : (List S_api_Trigger)) (v10 : Int) (v11 : Int) (sv9 : SV) (Fr : Rd) (M : Mem) (r : Bool) (hv9 : Slc Fr 3 (FlatR enc76) sv9 v9) (hH : Has Fr M []), hd1 v3 v9 v10 v11 = some r → Run Try.prog ⟨⟨99, [], none⟩, []⟩ 36 (search_areTriggers_post r) [(3, (.int .i64 v3)), (9, sv9), (10, (.int .i64 v10)), (11, (.int .i64 v11))] [codeC Try.prog 99 [1, 1, 1, 0, 1, 0, 0], loopC Try.prog 99 [1, 1, 1, 0, 1, 0, 0], .inBlock 0, codeC Try.prog 99 [1, 1, 1, 1]] M) : ∀ (v9 : (List S_api_Trigger)) (v10 : Int) (v11 : Int) (v32 : Bool) (c26 : S_api_Trigger) (sv9 : SV) (b26 : Pos) (Fr : Rd) (M : Mem) (r : Bool) (hv9 : Slc Fr 3 (FlatR enc76) sv9 v9) (hH : Has Fr M [.obj b26 (.row 76 .whole [(.int .i64 c26.Time), (.int .i64 c26.Loud), (.int .i64 c26.Template)])]), search_areTriggers_3 F hd1 v9 v10 v11 v32 c26 = some r → Run Try.prog ⟨⟨99, [], none⟩, []⟩ 36 (search_areTriggers_post r) [(5, (.ptr b26 0)), (9, sv9), (10, (.int .i64 v10)), (11, (.int .i64 v11)), (32, (.bool v32))] [codeC Try.prog 99 [1, 1, 1, 0, 1, 0, 0, 1, 1, 0, 0, 1, 0, 1], codeC Try.prog 99 [1, 1, 1, 0, 1, 0, 0, 1, 1, 0, 0, 1, 1], .inBlock 1, codeC Try.prog 99 [1, 1, 1, 0, 1, 0, 0, 1, 1, 1], loopC Try.prog 99 [1, 1, 1, 0, 1, 0, 0], .inBlock 0, codeC Try.prog 99 [1, 1, 1, 1]] M := by
  intro v9 v10 v11 v32 c26 sv9 b26 Fr M r hv9 hH h
  rw [search_areTriggers_3] at h
  rcases btf (v32) with hc34 | hc34
  · have h := bif_t hc34 h
    refine Run.condT' rfl hc34 ?_
    refine Run.seq (Run.region ?_)
    refine Run.opG wantS_none (ex_assign rfl) rfl ?_
    refine Run.opsEnd ?_
    cases h
    exact Run.ret Try.func99 rfl (res_tmp rfl res_nil) rfl
  · have h := bif_f hc34 h
    refine Run.condF' rfl hc34 ?_
    refine Run.skip (Run.region ?_)
    refine Run.opG wantS_none (ex_fieldAddr rfl off76_0) rfl ?_
    refine Run.opG wantS_none (ex_load1 rfl (hH.cells (i := 0) rfl 0 rfl) rdLe_rfl agg3) rfl ?_
    refine Run.opG wantS_none (ex_assign rfl) rfl ?_
    refine Run.opsEnd (Run.inBlock (Run.region ?_))
    refine Run.opG wantS_none (ex_add rfl rfl) rfl ?_
    refine Run.opG wantS_none (ex_move rfl) rfl ?_
    refine Run.opsEnd (Run.inLoop ?_)
    exact Run.pick [3, 9, 10, 11] (hhd1 c26.Time v9 v10 (w64 (v11 + (1 : Int))) sv9 _ _ _ hv9 (hH.pick [] rfl rfl) h)

def search_areTriggers_2 (F : Nat) (hd1 : Int → (List S_api_Trigger) → Int → Int → Option (Bool)) (v9 : (List S_api_Trigger)) (v10 : Int) (v11 : Int) (v26 : Bool) (c26 : S_api_Trigger) : Option (Bool) :=
  bif v26 then
    search_areTriggers_3 F hd1 v9 v10 v11 true c26
  else
    bnd (search_isFrom F (0 : Int) c26.Template (255 : Int)) fun r36 =>
    search_areTriggers_3 F hd1 v9 v10 v11 (!r36) c26

theorem search_areTriggers_2_ok (F : Nat) (hd1 : Int → (List S_api_Trigger) → Int → Int → Option (Bool)) (hhd1 : ∀ (v3 : Int) (v9 : (List S_api_Trigger)) (v10 : Int) (v11 : Int) (sv9 : SV) (Fr : Rd) (M : Mem) (r : Bool) (hv9 : Slc Fr 3 (FlatR enc76) sv9 v9) (hH : Has Fr M []), hd1 v3 v9 v10 v11 = some r → Run Try.prog ⟨⟨99, [], none⟩, []⟩ 36 (search_areTriggers_post r) [(3, (.int .i64 v3)), (9, sv9), (10, (.int .i64 v10)), (11, (.int .i64 v11))] [codeC Try.prog 99 [1, 1, 1, 0, 1, 0, 0], loopC Try.prog 99 [1, 1, 1, 0, 1, 0, 0], .inBlock 0, codeC Try.prog 99 [1, 1, 1, 1]] M) : ∀ (v9 : (List S_api_Trigger)) (v10 : Int) (v11 : Int) (v26 : Bool) (c26 : S_api_Trigger) (sv9 : SV) (b26 : Pos) (Fr : Rd) (M : Mem) (r : Bool) (hv9 : Slc Fr 3 (FlatR enc76) sv9 v9) (hH : Has Fr M [.obj b26 (.row 76 .whole [(.int .i64 c26.Time), (.int .i64 c26.Loud), (.int .i64 c26.Template)])]), search_areTriggers_2 F hd1 v9 v10 v11 v26 c26 = some r → Run Try.prog ⟨⟨99, [], none⟩, []⟩ 36 (search_areTriggers_post r) [(5, (.ptr b26 0)), (9, sv9), (10, (.int .i64 v10)), (11, (.int .i64 v11)), (26, (.bool v26))] [itemC Try.prog 99 [1, 1, 1, 0, 1, 0, 0, 1, 1, 0, 0, 1, 0, 0] 12, codeC Try.prog 99 [1, 1, 1, 0, 1, 0, 0, 1, 1, 0, 0, 1, 0, 1], codeC Try.prog 99 [1, 1, 1, 0, 1, 0, 0, 1, 1, 0, 0, 1, 1], .inBlock 1, codeC Try.prog 99 [1, 1, 1, 0, 1, 0, 0, 1, 1, 1], loopC Try.prog 99 [1, 1, 1, 0, 1, 0, 0], .inBlock 0, codeC Try.prog 99 [1, 1, 1, 1]] M := by
  intro v9 v10 v11 v26 c26 sv9 b26 Fr M r hv9 hH h
  rw [search_areTriggers_2] at h
  refine Run.opG wantS_none (ex_move rfl) rfl ?_
  rcases btf (v26) with hc33 | hc33
  · have h := bif_t hc33 h
    refine Run.no (wantS_not' rfl rfl hc33) rfl ?_
    refine Run.no (wantS_not' rfl rfl hc33) rfl ?_
    refine Run.no (wantS_not' rfl rfl hc33) rfl ?_
    refine Run.no (wantS_not' rfl rfl hc33) rfl ?_
    refine Run.opG wantS_none (ex_pickT' rfl hc33 rfl rfl) rfl ?_
    refine Run.opsEnd ?_
    exact Run.pick [5, 9, 10, 11, 32] (search_areTriggers_3_ok F hd1 hhd1 v9 v10 v11 true c26 sv9 b26 _ _ _ hv9 hH h)
  · have h := bif_f hc33 h
    refine Run.opG (wantS_yes' rfl rfl hc33) (ex_fieldAddr rfl off76_2) rfl ?_
    refine Run.opG (wantS_yes' rfl rfl hc33) (ex_load1 rfl (hH.cells (i := 0) rfl 2 rfl) rdLe_rfl agg3) rfl ?_
    obtain ⟨r36, hr36, h⟩ := bnd_some h
    refine Run.callP (wantS_yes' rfl rfl hc33) (ex_call rfl mkk62 cal62) rfl (search_isFrom_ok F (0 : Int) c26.Template (255 : Int) _ _ hr36) ?_
    refine Run.opG (wantS_yes' rfl rfl hc33) (ex_not rfl) rfl ?_
    refine Run.opG wantS_none (ex_pickF' rfl hc33 rfl rfl) rfl ?_
    refine Run.opsEnd ?_
    exact Run.pick [5, 9, 10, 11, 32] (search_areTriggers_3_ok F hd1 hhd1 v9 v10 v11 (!r36) c26 sv9 b26 _ _ _ hv9 hH h)

def search_areTriggers_1 (F : Nat) : Nat → Int → (List S_api_Trigger) → Int → Int → Option (Bool)
  | 0, _, _, _, _ => none
  | N + 1, v3, v9, v10, v11 =>
    bif (decide (v11 < v10)) then
      bnd (idx v9 v11) fun x24 =>
      bnd (search_isFrom F (w64 (v3 + (1 : Int))) x24.Time (1073741823 : Int)) fun r30 =>
      bif (!r30) then
        search_areTriggers_2 F (search_areTriggers_1 F N) v9 v10 v11 true x24
      else
        bnd (search_isFrom F (0 : Int) x24.Loud (1073741824 : Int)) fun r39 =>
        search_areTriggers_2 F (search_areTriggers_1 F N) v9 v10 v11 (!r39) x24
    else
      some true

theorem search_areTriggers_1_ok (F : Nat) : ∀ (N : Nat), ∀ (v3 : Int) (v9 : (List S_api_Trigger)) (v10 : Int) (v11 : Int) (sv9 : SV) (Fr : Rd) (M : Mem) (r : Bool) (hv9 : Slc Fr 3 (FlatR enc76) sv9 v9) (hH : Has Fr M []), search_areTriggers_1 F N v3 v9 v10 v11 = some r → Run Try.prog ⟨⟨99, [], none⟩, []⟩ 36 (search_areTriggers_post r) [(3, (.int .i64 v3)), (9, sv9), (10, (.int .i64 v10)), (11, (.int .i64 v11))] [codeC Try.prog 99 [1, 1, 1, 0, 1, 0, 0], loopC Try.prog 99 [1, 1, 1, 0, 1, 0, 0], .inBlock 0, codeC Try.prog 99 [1, 1, 1, 1]] M := by
  intro N
  induction N with
  | zero =>
    intro v3 v9 v10 v11 sv9 Fr M r hv9 hH h
    simp [search_areTriggers_1] at h
  | succ N ih =>
    intro v3 v9 v10 v11 sv9 Fr M r hv9 hH h
    rw [search_areTriggers_1] at h
    refine Run.seq (Run.region ?_)
    refine Run.opG wantS_none (ex_lss rfl rfl) rfl ?_
    refine Run.opsEnd (Run.seq ?_)
    rcases btf ((decide (v11 < v10))) with hc22 | hc22
    · have h := bif_t hc22 h
      refine Run.condT' rfl hc22 ?_
      refine Run.skip (Run.seq (Run.block (Run.seq (Run.region ?_))))
      obtain ⟨x24, hx24, h⟩ := bnd_some h
      obtain ⟨p24, o24, _, hx24, hp24, rfl⟩ := sl_elem (P := Try.prog) (t := 22) (kk := .i64) hv9 hx24 els22
      refine Run.opG wantS_none (ex_elX rfl rfl hx24) rfl ?_
      refine Run.opG wantS_none (ex_loadA rfl (hH.ptrF hp24) rdLe_rfl agg76 rfl rfl rfl) rfl ?_
      refine Run.opX wantS_none rfl (ExG.new (v := fun b => .ptr b 0) (ex_alloc zer76) hH) ?_
      rintro _ M27 ⟨b26, rfl, (hH27 : Has Fr M27 [.obj b26 (.row 76 .whole [(.int .i64 0), (.int .i64 0), (.int .i64 0)])])⟩
      refine Run.opX wantS_none rfl (ExG.storeC (c' := [(.int .i64 x24.Time), (.int .i64 x24.Loud), (.int .i64 x24.Template)]) rfl rfl rfl hH27 (i := 0) rfl sz76 rfl rfl rfl rfl rfl) ?_
      rintro _ M28 ⟨rfl, (hH28 : Has Fr M28 [.obj b26 (.row 76 .whole [(.int .i64 x24.Time), (.int .i64 x24.Loud), (.int .i64 x24.Template)])])⟩
      refine Run.opsEnd (Run.seq (Run.seq (Run.region ?_)))
      refine Run.opG wantS_none (ex_move rfl) rfl ?_
      refine Run.opG wantS_none (ex_add rfl rfl) rfl ?_
      refine Run.opG wantS_none (ex_fieldAddr rfl off76_0) rfl ?_
      refine Run.opG wantS_none (ex_load1 rfl (hH28.cells (i := 0) rfl 0 rfl) rdLe_rfl agg3) rfl ?_
      obtain ⟨r30, hr30, h⟩ := bnd_some h
      refine Run.callP wantS_none (ex_call rfl mkk62 cal62) rfl (search_isFrom_ok F (w64 (v3 + (1 : Int))) x24.Time (1073741823 : Int) _ _ hr30) ?_
      refine Run.opG wantS_none (ex_not rfl) rfl ?_
      refine Run.opG wantS_none (ex_move rfl) rfl ?_
      rcases btf ((!r30)) with hc32 | hc32
      · have h := bif_t hc32 h
        refine Run.no (wantS_not' rfl rfl hc32) rfl ?_
        refine Run.no (wantS_not' rfl rfl hc32) rfl ?_
        refine Run.no (wantS_not' rfl rfl hc32) rfl ?_
        refine Run.no (wantS_not' rfl rfl hc32) rfl ?_
        refine Run.opG wantS_none (ex_pickT' rfl hc32 rfl rfl) rfl ?_
        exact Run.pick [5, 9, 10, 11, 26] (search_areTriggers_2_ok F (search_areTriggers_1 F N) ih v9 v10 v11 true x24 sv9 b26 _ _ _ hv9 hH28 h)
      · have h := bif_f hc32 h
        refine Run.opG (wantS_yes' rfl rfl hc32) (ex_fieldAddr rfl off76_1) rfl ?_
        refine Run.opG (wantS_yes' rfl rfl hc32) (ex_load1 rfl (hH28.cells (i := 0) rfl 1 rfl) rdLe_rfl agg3) rfl ?_
        obtain ⟨r39, hr39, h⟩ := bnd_some h
        refine Run.callP (wantS_yes' rfl rfl hc32) (ex_call rfl mkk62 cal62) rfl (search_isFrom_ok F (0 : Int) x24.Loud (1073741824 : Int) _ _ hr39) ?_
        refine Run.opG (wantS_yes' rfl rfl hc32) (ex_not rfl) rfl ?_
        refine Run.opG wantS_none (ex_pickF' rfl hc32 rfl rfl) rfl ?_
        exact Run.pick [5, 9, 10, 11, 26] (search_areTriggers_2_ok F (search_areTriggers_1 F N) ih v9 v10 v11 (!r39) x24 sv9 b26 _ _ _ hv9 hH28 h)
    · have h := bif_f hc22 h
      refine Run.condF' rfl hc22 ?_
      refine Run.exit rfl (Run.seq (Run.region ?_))
      refine Run.opG wantS_none (ex_assign rfl) rfl ?_
      refine Run.opsEnd ?_
      cases h
      exact Run.ret Try.func99 rfl (res_tmp rfl res_nil) rfl

def search_areTriggers (F : Nat) (a0 : (List S_api_Trigger)) : Option (Bool) :=
  bif (decide ((256 : Int) < (a0.length : Int))) then
    some false
  else
    search_areTriggers_1 F F ((-1) : Int) a0 (a0.length : Int) (0 : Int)

theorem search_areTriggers_ok (F : Nat) (a0 : (List S_api_Trigger)) (s0 : SV) (r : Bool) (M : Mem) (hs0 : Slc (rd M) 3 (FlatR enc76) s0 a0) (h : search_areTriggers F a0 = some r) : CallsM Try.prog 99 [s0] M (fun s M' => s = (.bool r) ∧ M' = M) := by
  refine CallsM.plain Try.func99 rfl rfl rfl (show Run _ _ _ (search_areTriggers_post r) _ _ _ from ?_)
  rw [search_areTriggers] at h
  replace hs0 := hs0.mono (rdLe_frozen M) (fun _ _ h => h)
  have hH := Has.nil (frozen M)
  refine Run.seq (Run.region ?_)
  refine Run.opG wantS_none (ex_assign rfl) rfl ?_
  refine Run.opsEnd (Run.seq (Run.seq (Run.region ?_)))
  refine Run.opG wantS_none (ex_move rfl) rfl ?_
  refine Run.opG wantS_none (ex_len' rfl hs0 lenk22) rfl ?_
  refine Run.opG wantS_none (ex_gtr rfl rfl) rfl ?_
  refine Run.opsEnd ?_
  rcases btf ((decide ((256 : Int) < (a0.length : Int)))) with hc21 | hc21
  · have h := bif_t hc21 h
    refine Run.condT' rfl hc21 ?_
    refine Run.seq (Run.region ?_)
    refine Run.opG wantS_none (ex_assign rfl) rfl ?_
    refine Run.opsEnd ?_
    cases h
    exact Run.ret Try.func99 rfl (res_tmp rfl res_nil) rfl
  · have h := bif_f hc21 h
    refine Run.condF' rfl hc21 ?_
    refine Run.skip (Run.seq (Run.region ?_))
    refine Run.opG wantS_none (ex_assign rfl) rfl ?_
    refine Run.opsEnd (Run.seq (Run.seq (Run.region ?_)))
    refine Run.opG wantS_none (ex_move rfl) rfl ?_
    refine Run.opG wantS_none (ex_len' rfl hs0 lenk22) rfl ?_
    refine Run.opG wantS_none (ex_move rfl) rfl ?_
    refine Run.opsEnd (Run.block (Run.loop ?_))
    exact Run.pick [3, 9, 10, 11] (search_areTriggers_1_ok F F ((-1) : Int) a0 (a0.length : Int) (0 : Int) s0 _ _ _ hs0 hH h)

theorem mkk99 : makeK Try.prog 99 = none := by kernel_rfl
theorem cal99 : callable Try.prog 99 = true := by kernel_rfl
abbrev search_checkTriggers_post (r : Int) : SV → Mem → Prop := fun s _ => s = (.int .i64 r)

def search_checkTriggers_1 (F : Nat) : Nat → (List (List S_api_Trigger)) → Int → Int → Option (Int)
  | 0, _, _, _ => none
  | N + 1, v5, v6, v7 =>
    bif (decide (v7 < v6)) then
      bnd (idx v5 v7) fun x23 =>
      bnd (search_areTriggers F x23) fun r25 =>
      bif (!r25) then
        some (80 : Int)
      else
        (search_checkTriggers_1 F N) v5 v6 (w64 (v7 + (1 : Int)))
    else
      some (0 : Int)

theorem search_checkTriggers_1_ok (F : Nat) : ∀ (N : Nat), ∀ (v5 : (List (List S_api_Trigger))) (v6 : Int) (v7 : Int) (sv5 : SV) (Fr : Rd) (M : Mem) (r : Int) (hv5 : Slc Fr 1 (rep22 Fr) sv5 v5) (hH : Has Fr M []), search_checkTriggers_1 F N v5 v6 v7 = some r → Run Try.prog ⟨⟨54, [], none⟩, []⟩ 15 (search_checkTriggers_post r) [(5, sv5), (6, (.int .i64 v6)), (7, (.int .i64 v7))] [codeC Try.prog 54 [1, 0, 1, 0, 0], loopC Try.prog 54 [1, 0, 1, 0, 0], .inBlock 0, codeC Try.prog 54 [1, 1]] M := by
  intro N
  induction N with
  | zero =>
    intro v5 v6 v7 sv5 Fr M r hv5 hH h
    simp [search_checkTriggers_1] at h
  | succ N ih =>
    intro v5 v6 v7 sv5 Fr M r hv5 hH h
    rw [search_checkTriggers_1] at h
    refine Run.seq (Run.region ?_)
    refine Run.opG wantS_none (ex_lss rfl rfl) rfl ?_
    refine Run.opsEnd (Run.seq ?_)
    rcases btf ((decide (v7 < v6))) with hc21 | hc21
    · have h := bif_t hc21 h
      refine Run.condT' rfl hc21 ?_
      refine Run.skip (Run.seq (Run.block (Run.seq (Run.region ?_))))
      obtain ⟨x23, hx23, h⟩ := bnd_some h
      obtain ⟨p23, o23, _, hx23, hp23, ⟨q23_0, rfl, hq23_0⟩⟩ := sl_elem (P := Try.prog) (t := 132) (kk := .i64) hv5 hx23 els132
      refine Run.opG wantS_none (ex_elX rfl rfl hx23) rfl ?_
      refine Run.opG wantS_none (ex_load1 rfl (hH.ptrF hp23) rdLe_rfl agg22) rfl ?_
      refine Run.opG wantS_none (ex_assign rfl) rfl ?_
      refine Run.opsEnd (Run.seq (Run.region ?_))
      refine Run.opG wantS_none (ex_move rfl) rfl ?_
      obtain ⟨r25, hr25, h⟩ := bnd_some h
      refine Run.callP wantS_none (ex_call rfl mkk99 cal99) rfl (search_areTriggers_ok F x23 q23_0 _ _ (hH.slcF hq23_0) hr25) ?_
      refine Run.opG wantS_none (ex_not rfl) rfl ?_
      refine Run.opsEnd ?_
      rcases btf ((!r25)) with hc27 | hc27
      · have h := bif_t hc27 h
        refine Run.condT' rfl hc27 ?_
        refine Run.seq (Run.region ?_)
        refine Run.opG wantS_none (ex_assign rfl) rfl ?_
        refine Run.opsEnd ?_
        cases h
        exact Run.ret Try.func54 rfl (res_tmp rfl res_nil) rfl
      · have h := bif_f hc27 h
        refine Run.condF' rfl hc27 ?_
        refine Run.skip (Run.inBlock (Run.region ?_))
        refine Run.opG wantS_none (ex_add rfl rfl) rfl ?_
        refine Run.opG wantS_none (ex_move rfl) rfl ?_
        refine Run.opsEnd (Run.inLoop ?_)
        exact Run.pick [5, 6, 7] (ih v5 v6 (w64 (v7 + (1 : Int))) sv5 _ _ _ hv5 hH h)
    · have h := bif_f hc21 h
      refine Run.condF' rfl hc21 ?_
      refine Run.exit rfl (Run.seq (Run.region ?_))
      refine Run.opG wantS_none (ex_assign rfl) rfl ?_
      refine Run.opsEnd ?_
      cases h
      exact Run.ret Try.func54 rfl (res_tmp rfl res_nil) rfl

def search_checkTriggers (F : Nat) (a0 : (List (List S_api_Trigger))) : Option (Int) :=
  search_checkTriggers_1 F F a0 (a0.length : Int) (0 : Int)

theorem search_checkTriggers_ok (F : Nat) (a0 : (List (List S_api_Trigger))) (s0 : SV) (r : Int) (M : Mem) (hs0 : Slc (rd M) 1 (rep22 (rd M)) s0 a0) (h : search_checkTriggers F a0 = some r) : CallsM Try.prog 54 [s0] M (fun s M' => s = (.int .i64 r) ∧ M' = M) := by
  refine CallsM.plain Try.func54 rfl rfl rfl (show Run _ _ _ (search_checkTriggers_post r) _ _ _ from ?_)
  rw [search_checkTriggers] at h
  replace hs0 := hs0.mono (rdLe_frozen M) (fun _ _ => rep22_mo (rdLe_frozen M))
  have hH := Has.nil (frozen M)
  refine Run.seq (Run.region ?_)
  refine Run.opG wantS_none (ex_assign rfl) rfl ?_
  refine Run.opsEnd (Run.seq (Run.seq (Run.region ?_)))
  refine Run.opG wantS_none (ex_move rfl) rfl ?_
  refine Run.opG wantS_none (ex_len' rfl hs0 lenk132) rfl ?_
  refine Run.opG wantS_none (ex_move rfl) rfl ?_
  refine Run.opsEnd (Run.block (Run.loop ?_))
  exact Run.pick [5, 6, 7] (search_checkTriggers_1_ok F F a0 (a0.length : Int) (0 : Int) s0 _ _ _ hs0 hH h)

theorem mkk54 : makeK Try.prog 54 = none := by kernel_rfl
theorem cal54 : callable Try.prog 54 = true := by kernel_rfl
theorem off87_0 : fieldOff Try.prog 87 0 = some 0 := by kernel_rfl
theorem off87_2 : fieldOff Try.prog 87 2 = some 2 := by kernel_rfl
abbrev search_clock_slides_post (r : Int) : SV → Mem → Prop := fun s _ => s = (.int .i64 r)

def search_clock_slides (F : Nat) (a0 : S_search_clock) : Option (Int) :=
  bnd (nz a0.step) fun z25 =>
  some (w64 (Int.tdiv a0.live a0.step))

theorem search_clock_slides_ok (F : Nat) (a0 : S_search_clock) (r : Int) (M : Mem) (h : search_clock_slides F a0 = some r) : CallsM Try.prog 94 [(.agg [(.int .i64 a0.live), (.int .i64 a0.window), (.int .i64 a0.step)])] M (fun s M' => s = (.int .i64 r) ∧ M' = M) := by
  refine CallsM.plain Try.func94 rfl rfl rfl (show Run _ _ _ (search_clock_slides_post r) _ _ _ from ?_)
  rw [search_clock_slides] at h
  have hH := Has.nil (frozen M)
  refine Run.seq (Run.region ?_)
  refine Run.opX wantS_none rfl (ExG.box rfl rfl hH) ?_
  rintro _ M23 ⟨b22, rfl, (hH23 : Has (ro (frozen M)) M23 [.obj b22 (.row 87 .whole [(.int .i64 a0.live), (.int .i64 a0.window), (.int .i64 a0.step)])])⟩
  refine Run.opG wantS_none (ex_assign rfl) rfl ?_
  refine Run.opsEnd (Run.seq (Run.region ?_))
  refine Run.opG wantS_none (ex_fieldAddr rfl off87_0) rfl ?_
  refine Run.opG wantS_none (ex_load1 rfl (hH23.cells (i := 0) rfl 0 rfl) rdLe_rfl agg3) rfl ?_
  refine Run.opG wantS_none (ex_fieldAddr rfl off87_2) rfl ?_
  refine Run.opG wantS_none (ex_load1 rfl (hH23.cells (i := 0) rfl 2 rfl) rdLe_rfl agg3) rfl ?_
  obtain ⟨z25, hz25, h⟩ := bnd_some h
  refine Run.opG wantS_none (ex_quo' rfl rfl hz25) rfl ?_
  refine Run.opG wantS_none (ex_assign rfl) rfl ?_
  refine Run.opsEnd ?_
  cases h
  exact Run.ret Try.func94 rfl (res_tmp rfl res_nil) rfl

theorem mkk94 : makeK Try.prog 94 = none := by kernel_rfl
theorem cal94 : callable Try.prog 94 = true := by kernel_rfl
theorem off87_1 : fieldOff Try.prog 87 1 = some 1 := by kernel_rfl
abbrev search_clock_isValid_post (r : Bool) : SV → Mem → Prop := fun s _ => s = (.bool r)

def search_clock_isValid_3 (F : Nat) (v34 : Bool) : Option (Bool) :=
  some v34

theorem search_clock_isValid_3_ok (F : Nat) : ∀ (v34 : Bool) (Fr : Rd) (M : Mem) (r : Bool) (hH : Has Fr M []), search_clock_isValid_3 F v34 = some r → Run Try.prog ⟨⟨102, [], none⟩, []⟩ 35 (search_clock_isValid_post r) [(34, (.bool v34))] [itemC Try.prog 102 [1, 1, 0] 11, codeC Try.prog 102 [1, 1, 1]] M := by
  intro v34 Fr M r hH h
  rw [search_clock_isValid_3] at h
  refine Run.opG wantS_none (ex_assign rfl) rfl ?_
  refine Run.opsEnd ?_
  cases h
  exact Run.ret Try.func102 rfl (res_tmp rfl res_nil) rfl

def search_clock_isValid_2 (F : Nat) (v23 : Bool) (c22 : S_search_clock) : Option (Bool) :=
  bif v23 then
    some false
  else
    bnd (nz c22.step) fun z31 =>
    bif ((Int.tmod c22.live c22.step) == (0 : Int)) then
      bnd (search_clock_slides F c22) fun r34 =>
      search_clock_isValid_3 F (decide (r34 ≤ (256 : Int)))
    else
      search_clock_isValid_3 F false

theorem search_clock_isValid_2_ok (F : Nat) : ∀ (v23 : Bool) (c22 : S_search_clock) (b22 : Pos) (Fr : Rd) (M : Mem) (r : Bool) (hH : Has Fr M [.obj b22 (.row 87 .whole [(.int .i64 c22.live), (.int .i64 c22.window), (.int .i64 c22.step)])]), search_clock_isValid_2 F v23 c22 = some r → Run Try.prog ⟨⟨102, [], none⟩, []⟩ 35 (search_clock_isValid_post r) [(1, (.ptr b22 0)), (23, (.bool v23))] [codeC Try.prog 102 [1, 0, 1], codeC Try.prog 102 [1, 1]] M := by
  intro v23 c22 b22 Fr M r hH h
  rw [search_clock_isValid_2] at h
  rcases btf (v23) with hc29 | hc29
  · have h := bif_t hc29 h
    refine Run.condT' rfl hc29 ?_
    refine Run.seq (Run.region ?_)
    refine Run.opG wantS_none (ex_assign rfl) rfl ?_
    refine Run.opsEnd ?_
    cases h
    exact Run.ret Try.func102 rfl (res_tmp rfl res_nil) rfl
  · have h := bif_f hc29 h
    refine Run.condF' rfl hc29 ?_
    refine Run.skip (Run.seq (Run.region ?_))
    refine Run.opG wantS_none (ex_fieldAddr rfl off87_0) rfl ?_
    refine Run.opG wantS_none (ex_load1 rfl (hH.cells (i := 0) rfl 0 rfl) rdLe_rfl agg3) rfl ?_
    refine Run.opG wantS_none (ex_fieldAddr rfl off87_2) rfl ?_
    refine Run.opG wantS_none (ex_load1 rfl (hH.cells (i := 0) rfl 2 rfl) rdLe_rfl agg3) rfl ?_
    obtain ⟨z31, hz31, h⟩ := bnd_some h
    refine Run.opG wantS_none (ex_rem' rfl rfl hz31) rfl ?_
    refine Run.opG wantS_none (ex_eql rfl rfl) rfl ?_
    refine Run.opG wantS_none (ex_move rfl) rfl ?_
    rcases btf (((Int.tmod c22.live c22.step) == (0 : Int))) with hc32 | hc32
    · have h := bif_t hc32 h
      refine Run.opG (wantS_yes' rfl rfl hc32) (ex_loadA rfl (hH.cells (i := 0) rfl 0 rfl) rdLe_rfl agg87 rfl rfl rfl) rfl ?_
      obtain ⟨r34, hr34, h⟩ := bnd_some h
      refine Run.callP (wantS_yes' rfl rfl hc32) (ex_call rfl mkk94 cal94) rfl (search_clock_slides_ok F c22 _ _ hr34) ?_
      refine Run.opG (wantS_yes' rfl rfl hc32) (ex_leq rfl rfl) rfl ?_
      refine Run.opG wantS_none (ex_pickT' rfl hc32 rfl rfl) rfl ?_
      exact Run.pick [34] (search_clock_isValid_3_ok F (decide (r34 ≤ (256 : Int))) _ _ _ (hH.pick [] rfl rfl) h)
    · have h := bif_f hc32 h
      refine Run.no (wantS_not' rfl rfl hc32) rfl ?_
      refine Run.no (wantS_not' rfl rfl hc32) rfl ?_
      refine Run.no (wantS_not' rfl rfl hc32) rfl ?_
      refine Run.opG wantS_none (ex_pickF' rfl hc32 rfl rfl) rfl ?_
      exact Run.pick [34] (search_clock_isValid_3_ok F false _ _ _ (hH.pick [] rfl rfl) h)

def search_clock_isValid_1 (F : Nat) (v15 : Bool) (c22 : S_search_clock) : Option (Bool) :=
  bif v15 then
    search_clock_isValid_2 F true c22
  else
    bnd (search_isFrom F (1 : Int) c22.step c22.live) fun r37 =>
    search_clock_isValid_2 F (!r37) c22

theorem search_clock_isValid_1_ok (F : Nat) : ∀ (v15 : Bool) (c22 : S_search_clock) (b22 : Pos) (Fr : Rd) (M : Mem) (r : Bool) (hH : Has Fr M [.obj b22 (.row 87 .whole [(.int .i64 c22.live), (.int .i64 c22.window), (.int .i64 c22.step)])]), search_clock_isValid_1 F v15 c22 = some r → Run Try.prog ⟨⟨102, [], none⟩, []⟩ 35 (search_clock_isValid_post r) [(1, (.ptr b22 0)), (15, (.bool v15))] [itemC Try.prog 102 [1, 0, 0] 13, codeC Try.prog 102 [1, 0, 1], codeC Try.prog 102 [1, 1]] M := by
  intro v15 c22 b22 Fr M r hH h
  rw [search_clock_isValid_1] at h
  refine Run.opG wantS_none (ex_move rfl) rfl ?_
  rcases btf (v15) with hc28 | hc28
  · have h := bif_t hc28 h
    refine Run.no (wantS_not' rfl rfl hc28) rfl ?_
    refine Run.no (wantS_not' rfl rfl hc28) rfl ?_
    refine Run.no (wantS_not' rfl rfl hc28) rfl ?_
    refine Run.no (wantS_not' rfl rfl hc28) rfl ?_
    refine Run.no (wantS_not' rfl rfl hc28) rfl ?_
    refine Run.no (wantS_not' rfl rfl hc28) rfl ?_
    refine Run.opG wantS_none (ex_pickT' rfl hc28 rfl rfl) rfl ?_
    refine Run.opsEnd ?_
    exact Run.pick [1, 23] (search_clock_isValid_2_ok F true c22 b22 _ _ _ hH h)
  · have h := bif_f hc28 h
    refine Run.opG (wantS_yes' rfl rfl hc28) (ex_fieldAddr rfl off87_2) rfl ?_
    refine Run.opG (wantS_yes' rfl rfl hc28) (ex_load1 rfl (hH.cells (i := 0) rfl 2 rfl) rdLe_rfl agg3) rfl ?_
    refine Run.opG (wantS_yes' rfl rfl hc28) (ex_fieldAddr rfl off87_0) rfl ?_
    refine Run.opG (wantS_yes' rfl rfl hc28) (ex_load1 rfl (hH.cells (i := 0) rfl 0 rfl) rdLe_rfl agg3) rfl ?_
    obtain ⟨r37, hr37, h⟩ := bnd_some h
    refine Run.callP (wantS_yes' rfl rfl hc28) (ex_call rfl mkk62 cal62) rfl (search_isFrom_ok F (1 : Int) c22.step c22.live _ _ hr37) ?_
    refine Run.opG (wantS_yes' rfl rfl hc28) (ex_not rfl) rfl ?_
    refine Run.opG wantS_none (ex_pickF' rfl hc28 rfl rfl) rfl ?_
    refine Run.opsEnd ?_
    exact Run.pick [1, 23] (search_clock_isValid_2_ok F (!r37) c22 b22 _ _ _ hH h)

def search_clock_isValid (F : Nat) (a0 : S_search_clock) : Option (Bool) :=
  bnd (search_isFrom F (1 : Int) a0.live (1073741824 : Int)) fun r25 =>
  bif (!r25) then
    search_clock_isValid_1 F true a0
  else
    bnd (search_isFrom F (0 : Int) a0.window (w64 (a0.live - (1 : Int)))) fun r40 =>
    search_clock_isValid_1 F (!r40) a0

theorem search_clock_isValid_ok (F : Nat) (a0 : S_search_clock) (r : Bool) (M : Mem) (h : search_clock_isValid F a0 = some r) : CallsM Try.prog 102 [(.agg [(.int .i64 a0.live), (.int .i64 a0.window), (.int .i64 a0.step)])] M (fun s M' => s = (.bool r) ∧ M' = M) := by
  refine CallsM.plain Try.func102 rfl rfl rfl (show Run _ _ _ (search_clock_isValid_post r) _ _ _ from ?_)
  rw [search_clock_isValid] at h
  have hH := Has.nil (frozen M)
  refine Run.seq (Run.region ?_)
  refine Run.opX wantS_none rfl (ExG.box rfl rfl hH) ?_
  rintro _ M23 ⟨b22, rfl, (hH23 : Has (ro (frozen M)) M23 [.obj b22 (.row 87 .whole [(.int .i64 a0.live), (.int .i64 a0.window), (.int .i64 a0.step)])])⟩
  refine Run.opG wantS_none (ex_assign rfl) rfl ?_
  refine Run.opsEnd (Run.seq (Run.seq (Run.region ?_)))
  refine Run.opG wantS_none (ex_fieldAddr rfl off87_0) rfl ?_
  refine Run.opG wantS_none (ex_load1 rfl (hH23.cells (i := 0) rfl 0 rfl) rdLe_rfl agg3) rfl ?_
  obtain ⟨r25, hr25, h⟩ := bnd_some h
  refine Run.callP wantS_none (ex_call rfl mkk62 cal62) rfl (search_isFrom_ok F (1 : Int) a0.live (1073741824 : Int) _ _ hr25) ?_
  refine Run.opG wantS_none (ex_not rfl) rfl ?_
  refine Run.opG wantS_none (ex_move rfl) rfl ?_
  rcases btf ((!r25)) with hc27 | hc27
  · have h := bif_t hc27 h
    refine Run.no (wantS_not' rfl rfl hc27) rfl ?_
    refine Run.no (wantS_not' rfl rfl hc27) rfl ?_
    refine Run.no (wantS_not' rfl rfl hc27) rfl ?_
    refine Run.no (wantS_not' rfl rfl hc27) rfl ?_
    refine Run.no (wantS_not' rfl rfl hc27) rfl ?_
    refine Run.no (wantS_not' rfl rfl hc27) rfl ?_
    refine Run.no (wantS_not' rfl rfl hc27) rfl ?_
    refine Run.opG wantS_none (ex_pickT' rfl hc27 rfl rfl) rfl ?_
    exact Run.pick [1, 15] (search_clock_isValid_1_ok F true a0 b22 _ _ _ hH23 h)
  · have h := bif_f hc27 h
    refine Run.opG (wantS_yes' rfl rfl hc27) (ex_fieldAddr rfl off87_1) rfl ?_
    refine Run.opG (wantS_yes' rfl rfl hc27) (ex_load1 rfl (hH23.cells (i := 0) rfl 1 rfl) rdLe_rfl agg3) rfl ?_
    refine Run.opG (wantS_yes' rfl rfl hc27) (ex_fieldAddr rfl off87_0) rfl ?_
    refine Run.opG (wantS_yes' rfl rfl hc27) (ex_load1 rfl (hH23.cells (i := 0) rfl 0 rfl) rdLe_rfl agg3) rfl ?_
    refine Run.opG (wantS_yes' rfl rfl hc27) (ex_sub rfl rfl) rfl ?_
    obtain ⟨r40, hr40, h⟩ := bnd_some h
    refine Run.callP (wantS_yes' rfl rfl hc27) (ex_call rfl mkk62 cal62) rfl (search_isFrom_ok F (0 : Int) a0.window (w64 (a0.live - (1 : Int))) _ _ hr40) ?_
    refine Run.opG (wantS_yes' rfl rfl hc27) (ex_not rfl) rfl ?_
    refine Run.opG wantS_none (ex_pickF' rfl hc27 rfl rfl) rfl ?_
    exact Run.pick [1, 15] (search_clock_isValid_1_ok F (!r40) a0 b22 _ _ _ hH23 h)

theorem mkk102 : makeK Try.prog 102 = none := by kernel_rfl
theorem cal102 : callable Try.prog 102 = true := by kernel_rfl
theorem mkk103 : makeK Try.prog 103 = none := by kernel_rfl
theorem cal103 : callable Try.prog 103 = true := by kernel_rfl
theorem mkk128 : makeK Try.prog 128 = none := by kernel_rfl
theorem cal128 : callable Try.prog 128 = true := by kernel_rfl
theorem mkk100 : makeK Try.prog 100 = none := by kernel_rfl
theorem cal100 : callable Try.prog 100 = true := by kernel_rfl
theorem mkk91 : makeK Try.prog 91 = none := by kernel_rfl
theorem cal91 : callable Try.prog 91 = true := by kernel_rfl
theorem mkk111 : makeK Try.prog 111 = none := by kernel_rfl
theorem cal111 : callable Try.prog 111 = true := by kernel_rfl
theorem mkk127 : makeK Try.prog 127 = none := by kernel_rfl
theorem cal127 : callable Try.prog 127 = true := by kernel_rfl
abbrev search_clock_fits_post (r : Bool) : SV → Mem → Prop := fun s _ => s = (.bool r)

def search_clock_fits_1 (F : Nat) : Nat → (List S_api_Trigger) → Int → Int → S_search_clock → Option (Bool)
  | 0, _, _, _, _ => none
  | N + 1, v0, v7, v8, c22 =>
    bif (decide (v8 < v7)) then
      bnd (idx v0 v8) fun x26 =>
      bif (decide (c22.live ≤ x26.Time)) then
        some (!(decide ((0 : Int) ≤ v8)))
      else
        (search_clock_fits_1 F N) v0 v7 (w64 (v8 + (1 : Int))) c22
    else
      some (!(decide ((0 : Int) ≤ ((-1) : Int))))

theorem search_clock_fits_1_ok (F : Nat) : ∀ (N : Nat), ∀ (v0 : (List S_api_Trigger)) (v7 : Int) (v8 : Int) (c22 : S_search_clock) (sv0 : SV) (b22 : Pos) (Fr : Rd) (M : Mem) (r : Bool) (hv0 : Slc Fr 3 (FlatR enc76) sv0 v0) (hH : Has Fr M [.obj b22 (.row 87 .whole [(.int .i64 c22.live), (.int .i64 c22.window), (.int .i64 c22.step)])]), search_clock_fits_1 F N v0 v7 v8 c22 = some r → Run Try.prog ⟨⟨111, [], none⟩, [.mk ⟨91, [], none⟩ 9 (treeOf []) [itemC Try.prog 91 [1, 0] 2, codeC Try.prog 91 [1, 1]], .mk ⟨101, [], none⟩ 11 (treeOf []) [itemC Try.prog 101 [1, 1, 0] 2, codeC Try.prog 101 [1, 1, 1]]]⟩ 19 (search_clock_fits_post r) [(0, sv0), (1, (.fn (.func 127) [] [(.ptr b22 0)])), (7, (.int .i64 v7)), (8, (.int .i64 v8))] [codeC Try.prog 111 [1, 0, 1, 0, 0], loopC Try.prog 111 [1, 0, 1, 0, 0], .inBlock 0, codeC Try.prog 111 [1, 1]] M := by
  intro N
  induction N with
  | zero =>
    intro v0 v7 v8 c22 sv0 b22 Fr M r hv0 hH h
    simp [search_clock_fits_1] at h
  | succ N ih =>
    intro v0 v7 v8 c22 sv0 b22 Fr M r hv0 hH h
    rw [search_clock_fits_1] at h
    refine Run.seq (Run.region ?_)
    refine Run.opG wantS_none (ex_lss rfl rfl) rfl ?_
    refine Run.opsEnd (Run.seq ?_)
    rcases btf ((decide (v8 < v7))) with hc24 | hc24
    · have h := bif_t hc24 h
      refine Run.condT' rfl hc24 ?_
      refine Run.skip (Run.seq (Run.block (Run.seq (Run.region ?_))))
      refine Run.opG wantS_none (ex_move rfl) rfl ?_
      refine Run.opG wantS_none (ex_assign rfl) rfl ?_
      refine Run.opsEnd (Run.seq (Run.region ?_))
      refine Run.opG wantS_none (ex_move rfl) rfl ?_
      refine Run.opG wantS_none (ex_move rfl) rfl ?_
      refine Run.opG wantS_none (ex_move rfl) rfl ?_
      obtain ⟨x26, hx26, h⟩ := bnd_some h
      obtain ⟨p26, o26, _, hx26, hp26, rfl⟩ := sl_elem (P := Try.prog) (t := 22) (kk := .i64) hv0 hx26 els22
      refine Run.opG wantS_none (ex_elX rfl rfl hx26) rfl ?_
      refine Run.opG wantS_none (ex_loadA rfl (hH.ptrF hp26) rdLe_rfl agg76 rfl rfl rfl) rfl ?_
      refine Run.enter wantS_none (ex_closure rfl rfl mkk127 cal127) Try.func127 rfl rfl ?_
      refine Run.seq (Run.region ?_)
      refine Run.opX wantS_none rfl (ExG.box rfl rfl hH) ?_
      rintro _ M29 ⟨b28, rfl, (hH29 : Has Fr M29 [.obj b28 (.row 76 .whole [(.int .i64 x26.Time), (.int .i64 x26.Loud), (.int .i64 x26.Template)]), .obj b22 (.row 87 .whole [(.int .i64 c22.live), (.int .i64 c22.window), (.int .i64 c22.step)])])⟩
      refine Run.opG wantS_none (ex_assign rfl) rfl ?_
      refine Run.opsEnd (Run.seq (Run.region ?_))
      refine Run.opG wantS_none (ex_fieldAddr rfl off76_0) rfl ?_
      refine Run.opG wantS_none (ex_load1 rfl (hH29.cells (i := 0) rfl 0 rfl) rdLe_rfl agg3) rfl ?_
      refine Run.opG wantS_none (ex_fieldAddr rfl off87_0) rfl ?_
      refine Run.opG wantS_none (ex_load1 rfl (hH29.cells (i := 1) rfl 0 rfl) rdLe_rfl agg3) rfl ?_
      refine Run.opG wantS_none (ex_geq rfl rfl) rfl ?_
      refine Run.opG wantS_none (ex_assign rfl) rfl ?_
      refine Run.opsEnd ?_
      refine Run.retTo Try.func127 rfl (res_tmp rfl res_nil) rfl ?_
      refine Run.opsEnd ?_
      rcases btf ((decide (c22.live ≤ x26.Time))) with hc30 | hc30
      · have h := bif_t hc30 h
        refine Run.condT' rfl hc30 ?_
        refine Run.seq (Run.region ?_)
        refine Run.opG wantS_none (ex_move rfl) rfl ?_
        refine Run.opG wantS_none (ex_assign rfl) rfl ?_
        refine Run.opsEnd ?_
        refine Run.retTo Try.func111 rfl (res_tmp rfl res_nil) rfl ?_
        refine Run.opG wantS_none (ex_geq rfl rfl) rfl ?_
        refine Run.opG wantS_none (ex_assign rfl) rfl ?_
        refine Run.opsEnd ?_
        refine Run.retTo Try.func91 rfl (res_tmp rfl res_nil) rfl ?_
        refine Run.opG wantS_none (ex_not rfl) rfl ?_
        refine Run.opG wantS_none (ex_assign rfl) rfl ?_
        refine Run.opsEnd ?_
        cases h
        exact Run.ret Try.func101 rfl (res_tmp rfl res_nil) rfl
      · have h := bif_f hc30 h
        refine Run.condF' rfl hc30 ?_
        refine Run.skip (Run.inBlock (Run.region ?_))
        refine Run.opG wantS_none (ex_add rfl rfl) rfl ?_
        refine Run.opG wantS_none (ex_move rfl) rfl ?_
        refine Run.opsEnd (Run.inLoop ?_)
        exact Run.low (.cons (fle_pick [] rfl) (.cons (fle_pick [] rfl) .nil)) (Run.pick [0, 1, 7, 8] (ih v0 v7 (w64 (v8 + (1 : Int))) c22 sv0 b22 _ _ _ hv0 (hH29.pick [1] rfl rfl) h))
    · have h := bif_f hc24 h
      refine Run.condF' rfl hc24 ?_
      refine Run.exit rfl (Run.seq (Run.region ?_))
      refine Run.opG wantS_none (ex_assign rfl) rfl ?_
      refine Run.opsEnd ?_
      refine Run.retTo Try.func111 rfl (res_tmp rfl res_nil) rfl ?_
      refine Run.opG wantS_none (ex_geq rfl rfl) rfl ?_
      refine Run.opG wantS_none (ex_assign rfl) rfl ?_
      refine Run.opsEnd ?_
      refine Run.retTo Try.func91 rfl (res_tmp rfl res_nil) rfl ?_
      refine Run.opG wantS_none (ex_not rfl) rfl ?_
      refine Run.opG wantS_none (ex_assign rfl) rfl ?_
      refine Run.opsEnd ?_
      cases h
      exact Run.ret Try.func101 rfl (res_tmp rfl res_nil) rfl

def search_clock_fits (F : Nat) (a0 : S_search_clock) (a1 : (List S_api_Trigger)) : Option (Bool) :=
  search_clock_fits_1 F F a1 (a1.length : Int) (0 : Int) a0

theorem search_clock_fits_ok (F : Nat) (a0 : S_search_clock) (a1 : (List S_api_Trigger)) (s0 : SV) (r : Bool) (M : Mem) (hs0 : Slc (rd M) 3 (FlatR enc76) s0 a1) (h : search_clock_fits F a0 a1 = some r) : CallsM Try.prog 101 [(.agg [(.int .i64 a0.live), (.int .i64 a0.window), (.int .i64 a0.step)]), s0] M (fun s M' => s = (.bool r) ∧ M' = M) := by
  refine CallsM.plain Try.func101 rfl rfl rfl (show Run _ _ _ (search_clock_fits_post r) _ _ _ from ?_)
  rw [search_clock_fits] at h
  replace hs0 := hs0.mono (rdLe_frozen M) (fun _ _ h => h)
  have hH := Has.nil (frozen M)
  refine Run.seq (Run.region ?_)
  refine Run.opX wantS_none rfl (ExG.box rfl rfl hH) ?_
  rintro _ M23 ⟨b22, rfl, (hH23 : Has (ro (frozen M)) M23 [.obj b22 (.row 87 .whole [(.int .i64 a0.live), (.int .i64 a0.window), (.int .i64 a0.step)])])⟩
  refine Run.opG wantS_none (ex_assign rfl) rfl ?_
  refine Run.opsEnd (Run.seq (Run.region ?_))
  refine Run.opG wantS_none (ex_makeFunc rfl rfl) rfl ?_
  refine Run.opG wantS_none (ex_assign rfl) rfl ?_
  refine Run.opsEnd (Run.seq (Run.region ?_))
  refine Run.opG wantS_none (ex_move rfl) rfl ?_
  refine Run.opG wantS_none (ex_move rfl) rfl ?_
  refine Run.enter wantS_none (ex_call rfl mkk91 cal91) Try.func91 rfl rfl ?_
  refine Run.seq (Run.region ?_)
  refine Run.opG wantS_none (ex_assign rfl) rfl ?_
  refine Run.opsEnd (Run.seq (Run.region ?_))
  refine Run.opG wantS_none (ex_move rfl) rfl ?_
  refine Run.opG wantS_none (ex_move rfl) rfl ?_
  refine Run.enter wantS_none (ex_call rfl mkk111 cal111) Try.func111 rfl rfl ?_
  refine Run.seq (Run.region ?_)
  refine Run.opG wantS_none (ex_assign rfl) rfl ?_
  refine Run.opsEnd (Run.seq (Run.seq (Run.region ?_)))
  refine Run.opG wantS_none (ex_move rfl) rfl ?_
  refine Run.opG wantS_none (ex_len' rfl hs0 lenk22) rfl ?_
  refine Run.opG wantS_none (ex_move rfl) rfl ?_
  refine Run.opsEnd (Run.block (Run.loop ?_))
  exact Run.low (.cons (fle_pick [] rfl) (.cons (fle_pick [] rfl) .nil)) (Run.pick [0, 1, 7, 8] (search_clock_fits_1_ok F F a1 (a1.length : Int) (0 : Int) a0 s0 b22 _ _ _ hs0 hH23 h))

theorem mkk101 : makeK Try.prog 101 = none := by kernel_rfl
theorem cal101 : callable Try.prog 101 = true := by kernel_rfl
abbrev search_clock_check_post (r : Int) : SV → Mem → Prop := fun s _ => s = (.int .i64 r)

def search_clock_check_1 (F : Nat) (v20 : Bool) : Option (Int) :=
  bif v20 then
    some (81 : Int)
  else
    some (0 : Int)

theorem search_clock_check_1_ok (F : Nat) : ∀ (v20 : Bool) (Fr : Rd) (M : Mem) (r : Int) (hH : Has Fr M []), search_clock_check_1 F v20 = some r → Run Try.prog ⟨⟨55, [], none⟩, []⟩ 21 (search_clock_check_post r) [(20, (.bool v20))] [codeC Try.prog 55 [1, 1, 1, 0, 1], codeC Try.prog 55 [1, 1, 1, 1]] M := by
  intro v20 Fr M r hH h
  rw [search_clock_check_1] at h
  rcases btf (v20) with hc32 | hc32
  · have h := bif_t hc32 h
    refine Run.condT' rfl hc32 ?_
    refine Run.seq (Run.region ?_)
    refine Run.opG wantS_none (ex_assign rfl) rfl ?_
    refine Run.opsEnd ?_
    cases h
    exact Run.ret Try.func55 rfl (res_tmp rfl res_nil) rfl
  · have h := bif_f hc32 h
    refine Run.condF' rfl hc32 ?_
    refine Run.skip (Run.seq (Run.region ?_))
    refine Run.opG wantS_none (ex_assign rfl) rfl ?_
    refine Run.opsEnd ?_
    cases h
    exact Run.ret Try.func55 rfl (res_tmp rfl res_nil) rfl

def search_clock_check_2 (F : Nat) : Nat → (List (List S_api_Trigger)) → Int → Int → Bool → S_search_clock → Option (Int)
  | 0, _, _, _, _, _ => none
  | N + 1, v0, v7, v8, v16_f2, c22 =>
    bif (decide (v8 < v7)) then
      bnd (idx v0 v8) fun x35 =>
      bnd (search_clock_fits F c22 x35) fun r37 =>
      bif (!r37) then
        search_clock_check_1 F (bif v16_f2 then true else (decide ((0 : Int) ≤ v8)))
      else
        (search_clock_check_2 F N) v0 v7 (w64 (v8 + (1 : Int))) v16_f2 c22
    else
      search_clock_check_1 F (bif v16_f2 then true else (decide ((0 : Int) ≤ ((-1) : Int))))

theorem search_clock_check_2_ok (F : Nat) : ∀ (N : Nat), ∀ (v0 : (List (List S_api_Trigger))) (v7 : Int) (v8 : Int) (v16_f2 : Bool) (c22 : S_search_clock) (sv0 : SV) (b22 : Pos) (Fr : Rd) (M : Mem) (r : Int) (hv0 : Slc Fr 1 (rep22 Fr) sv0 v0) (hH : Has Fr M [.obj b22 (.row 87 .whole [(.int .i64 c22.live), (.int .i64 c22.window), (.int .i64 c22.step)])]), search_clock_check_2 F N v0 v7 v8 v16_f2 c22 = some r → Run Try.prog ⟨⟨128, [], none⟩, [.mk ⟨103, [], none⟩ 9 (treeOf []) [itemC Try.prog 103 [1, 0] 2, codeC Try.prog 103 [1, 1]], .mk ⟨55, [], none⟩ 21 (treeOf [(16, (.bool v16_f2))]) [itemC Try.prog 55 [1, 1, 1, 0, 0] 6, codeC Try.prog 55 [1, 1, 1, 0, 1], codeC Try.prog 55 [1, 1, 1, 1]]]⟩ 19 (search_clock_check_post r) [(0, sv0), (1, (.fn (.func 100) [] [(.ptr b22 0)])), (7, (.int .i64 v7)), (8, (.int .i64 v8))] [codeC Try.prog 128 [1, 0, 1, 0, 0], loopC Try.prog 128 [1, 0, 1, 0, 0], .inBlock 0, codeC Try.prog 128 [1, 1]] M := by
  intro N
  induction N with
  | zero =>
    intro v0 v7 v8 v16_f2 c22 sv0 b22 Fr M r hv0 hH h
    simp [search_clock_check_2] at h
  | succ N ih =>
    intro v0 v7 v8 v16_f2 c22 sv0 b22 Fr M r hv0 hH h
    rw [search_clock_check_2] at h
    refine Run.seq (Run.region ?_)
    refine Run.opG wantS_none (ex_lss rfl rfl) rfl ?_
    refine Run.opsEnd (Run.seq ?_)
    rcases btf ((decide (v8 < v7))) with hc33 | hc33
    · have h := bif_t hc33 h
      refine Run.condT' rfl hc33 ?_
      refine Run.skip (Run.seq (Run.block (Run.seq (Run.region ?_))))
      refine Run.opG wantS_none (ex_move rfl) rfl ?_
      refine Run.opG wantS_none (ex_assign rfl) rfl ?_
      refine Run.opsEnd (Run.seq (Run.region ?_))
      refine Run.opG wantS_none (ex_move rfl) rfl ?_
      refine Run.opG wantS_none (ex_move rfl) rfl ?_
      refine Run.opG wantS_none (ex_move rfl) rfl ?_
      obtain ⟨x35, hx35, h⟩ := bnd_some h
      obtain ⟨p35, o35, _, hx35, hp35, ⟨q35_0, rfl, hq35_0⟩⟩ := sl_elem (P := Try.prog) (t := 132) (kk := .i64) hv0 hx35 els132
      refine Run.opG wantS_none (ex_elX rfl rfl hx35) rfl ?_
      refine Run.opG wantS_none (ex_load1 rfl (hH.ptrF hp35) rdLe_rfl agg22) rfl ?_
      refine Run.enter wantS_none (ex_closure rfl rfl mkk100 cal100) Try.func100 rfl rfl ?_
      refine Run.seq (Run.region ?_)
      refine Run.opG wantS_none (ex_assign rfl) rfl ?_
      refine Run.opsEnd (Run.seq (Run.region ?_))
      refine Run.opG wantS_none (ex_loadA rfl (hH.cells (i := 0) rfl 0 rfl) rdLe_rfl agg87 rfl rfl rfl) rfl ?_
      refine Run.opG wantS_none (ex_move rfl) rfl ?_
      obtain ⟨r37, hr37, h⟩ := bnd_some h
      refine Run.callP wantS_none (ex_call rfl mkk101 cal101) rfl (search_clock_fits_ok F c22 x35 q35_0 _ _ (hH.slcF hq35_0) hr37) ?_
      refine Run.opG wantS_none (ex_not rfl) rfl ?_
      refine Run.opG wantS_none (ex_assign rfl) rfl ?_
      refine Run.opsEnd ?_
      refine Run.retTo Try.func100 rfl (res_tmp rfl res_nil) rfl ?_
      refine Run.opsEnd ?_
      rcases btf ((!r37)) with hc39 | hc39
      · have h := bif_t hc39 h
        refine Run.condT' rfl hc39 ?_
        refine Run.seq (Run.region ?_)
        refine Run.opG wantS_none (ex_move rfl) rfl ?_
        refine Run.opG wantS_none (ex_assign rfl) rfl ?_
        refine Run.opsEnd ?_
        refine Run.retTo Try.func128 rfl (res_tmp rfl res_nil) rfl ?_
        refine Run.opG wantS_none (ex_geq rfl rfl) rfl ?_
        refine Run.opG wantS_none (ex_assign rfl) rfl ?_
        refine Run.opsEnd ?_
        refine Run.retTo Try.func103 rfl (res_tmp rfl res_nil) rfl ?_
        refine Run.opG wantS_none (ex_pickB rfl rfl rfl) rfl ?_
        refine Run.opsEnd ?_
        exact Run.pick [20] (search_clock_check_1_ok F (bif v16_f2 then true else (decide ((0 : Int) ≤ v8))) _ _ _ (hH.pick [] rfl rfl) h)
      · have h := bif_f hc39 h
        refine Run.condF' rfl hc39 ?_
        refine Run.skip (Run.inBlock (Run.region ?_))
        refine Run.opG wantS_none (ex_add rfl rfl) rfl ?_
        refine Run.opG wantS_none (ex_move rfl) rfl ?_
        refine Run.opsEnd (Run.inLoop ?_)
        exact Run.low (.cons (fle_pick [] rfl) (.cons (fle_pick [16] rfl) .nil)) (Run.pick [0, 1, 7, 8] (ih v0 v7 (w64 (v8 + (1 : Int))) v16_f2 c22 sv0 b22 _ _ _ hv0 hH h))
    · have h := bif_f hc33 h
      refine Run.condF' rfl hc33 ?_
      refine Run.exit rfl (Run.seq (Run.region ?_))
      refine Run.opG wantS_none (ex_assign rfl) rfl ?_
      refine Run.opsEnd ?_
      refine Run.retTo Try.func128 rfl (res_tmp rfl res_nil) rfl ?_
      refine Run.opG wantS_none (ex_geq rfl rfl) rfl ?_
      refine Run.opG wantS_none (ex_assign rfl) rfl ?_
      refine Run.opsEnd ?_
      refine Run.retTo Try.func103 rfl (res_tmp rfl res_nil) rfl ?_
      refine Run.opG wantS_none (ex_pickB rfl rfl rfl) rfl ?_
      refine Run.opsEnd ?_
      exact Run.pick [20] (search_clock_check_1_ok F (bif v16_f2 then true else (decide ((0 : Int) ≤ ((-1) : Int)))) _ _ _ (hH.pick [] rfl rfl) h)

def search_clock_check (F : Nat) (a0 : S_search_clock) (a1 : (List (List S_api_Trigger))) : Option (Int) :=
  bnd (search_checkTriggers F a1) fun r25 =>
  bif (!(r25 == (0 : Int))) then
    some r25
  else
    bnd (search_clock_isValid F a0) fun r29 =>
    bif (!r29) then
      search_clock_check_1 F true
    else
      search_clock_check_2 F F a1 (a1.length : Int) (0 : Int) (!r29) a0

theorem search_clock_check_ok (F : Nat) (a0 : S_search_clock) (a1 : (List (List S_api_Trigger))) (s0 : SV) (r : Int) (M : Mem) (hs0 : Slc (rd M) 1 (rep22 (rd M)) s0 a1) (h : search_clock_check F a0 a1 = some r) : CallsM Try.prog 55 [(.agg [(.int .i64 a0.live), (.int .i64 a0.window), (.int .i64 a0.step)]), s0] M (fun s M' => s = (.int .i64 r) ∧ M' = M) := by
  refine CallsM.plain Try.func55 rfl rfl rfl (show Run _ _ _ (search_clock_check_post r) _ _ _ from ?_)
  rw [search_clock_check] at h
  replace hs0 := hs0.mono (rdLe_frozen M) (fun _ _ => rep22_mo (rdLe_frozen M))
  have hH := Has.nil (frozen M)
  refine Run.seq (Run.region ?_)
  refine Run.opX wantS_none rfl (ExG.box rfl rfl hH) ?_
  rintro _ M23 ⟨b22, rfl, (hH23 : Has (ro (frozen M)) M23 [.obj b22 (.row 87 .whole [(.int .i64 a0.live), (.int .i64 a0.window), (.int .i64 a0.step)])])⟩
  refine Run.opG wantS_none (ex_assign rfl) rfl ?_
  refine Run.opsEnd (Run.seq (Run.seq (Run.region ?_)))
  refine Run.opG wantS_none (ex_move rfl) rfl ?_
  obtain ⟨r25, hr25, h⟩ := bnd_some h
  refine Run.callP wantS_none (ex_call rfl mkk54 cal54) rfl (search_checkTriggers_ok F a1 s0 _ _ ((hs0).mono hH23.le (fun _ _ => rep22_mo hH23.le)) hr25) ?_
  refine Run.opG wantS_none (ex_assign rfl) rfl ?_
  refine Run.opsEnd (Run.seq (Run.region ?_))
  refine Run.opG wantS_none (ex_move rfl) rfl ?_
  refine Run.opG wantS_none (ex_neq rfl rfl) rfl ?_
  refine Run.opsEnd ?_
  rcases btf ((!(r25 == (0 : Int)))) with hc27 | hc27
  · have h := bif_t hc27 h
    refine Run.condT' rfl hc27 ?_
    refine Run.seq (Run.region ?_)
    refine Run.opG wantS_none (ex_move rfl) rfl ?_
    refine Run.opG wantS_none (ex_assign rfl) rfl ?_
    refine Run.opsEnd ?_
    cases h
    exact Run.ret Try.func55 rfl (res_tmp rfl res_nil) rfl
  · have h := bif_f hc27 h
    refine Run.condF' rfl hc27 ?_
    refine Run.skip (Run.seq (Run.region ?_))
    refine Run.opG wantS_none (ex_makeFunc rfl rfl) rfl ?_
    refine Run.opG wantS_none (ex_assign rfl) rfl ?_
    refine Run.opsEnd (Run.seq (Run.seq (Run.region ?_)))
    refine Run.opG wantS_none (ex_loadA rfl (hH23.cells (i := 0) rfl 0 rfl) rdLe_rfl agg87 rfl rfl rfl) rfl ?_
    obtain ⟨r29, hr29, h⟩ := bnd_some h
    refine Run.callP wantS_none (ex_call rfl mkk102 cal102) rfl (search_clock_isValid_ok F a0 _ _ hr29) ?_
    refine Run.opG wantS_none (ex_not rfl) rfl ?_
    refine Run.opG wantS_none (ex_move rfl) rfl ?_
    rcases btf ((!r29)) with hc31 | hc31
    · have h := bif_t hc31 h
      refine Run.no (wantS_not' rfl rfl hc31) rfl ?_
      refine Run.no (wantS_not' rfl rfl hc31) rfl ?_
      refine Run.no (wantS_not' rfl rfl hc31) rfl ?_
      refine Run.opG wantS_none (ex_pickT' rfl hc31 rfl rfl) rfl ?_
      refine Run.opsEnd ?_
      exact Run.pick [20] (search_clock_check_1_ok F true _ _ _ (hH23.pick [] rfl rfl) h)
    · have h := bif_f hc31 h
      refine Run.opG (wantS_yes' rfl rfl hc31) (ex_move rfl) rfl ?_
      refine Run.opG (wantS_yes' rfl rfl hc31) (ex_move rfl) rfl ?_
      refine Run.enter (wantS_yes' rfl rfl hc31) (ex_call rfl mkk103 cal103) Try.func103 rfl rfl ?_
      refine Run.seq (Run.region ?_)
      refine Run.opG wantS_none (ex_assign rfl) rfl ?_
      refine Run.opsEnd (Run.seq (Run.region ?_))
      refine Run.opG wantS_none (ex_move rfl) rfl ?_
      refine Run.opG wantS_none (ex_move rfl) rfl ?_
      refine Run.enter wantS_none (ex_call rfl mkk128 cal128) Try.func128 rfl rfl ?_
      refine Run.seq (Run.region ?_)
      refine Run.opG wantS_none (ex_assign rfl) rfl ?_
      refine Run.opsEnd (Run.seq (Run.seq (Run.region ?_)))
      refine Run.opG wantS_none (ex_move rfl) rfl ?_
      refine Run.opG wantS_none (ex_len' rfl hs0 lenk132) rfl ?_
      refine Run.opG wantS_none (ex_move rfl) rfl ?_
      refine Run.opsEnd (Run.block (Run.loop ?_))
      exact Run.low (.cons (fle_pick [] rfl) (.cons (fle_pick [16] rfl) .nil)) (Run.pick [0, 1, 7, 8] (search_clock_check_2_ok F F a1 (a1.length : Int) (0 : Int) (!r29) a0 s0 b22 _ _ _ hs0 hH23 h))

theorem mkk55 : makeK Try.prog 55 = none := by kernel_rfl
theorem cal55 : callable Try.prog 55 = true := by kernel_rfl
theorem mkk110 : makeK Try.prog 110 = none := by kernel_rfl
theorem cal110 : callable Try.prog 110 = true := by kernel_rfl
theorem slk22 : slK Try.prog 22 = some (.sl 3) := by kernel_rfl
theorem mkk135 : makeK Try.prog 135 = none := by kernel_rfl
theorem cal135 : callable Try.prog 135 = true := by kernel_rfl
theorem apn22_3 : appT Try.prog 22 3 = none := by kernel_rfl
theorem elt22 : sliceElt Try.prog 22 = some (⟨3, 24, [(.int .i64 0), (.int .i64 0), (.int .i64 0)], 76⟩ : Elt) := by kernel_rfl
theorem int3 : intTy Try.prog 3 = true := by kernel_rfl
theorem appt22_22 : appT Try.prog 22 22 = some (⟨3, 24, [(.int .i64 0), (.int .i64 0), (.int .i64 0)], 76⟩ : Elt) := by kernel_rfl
abbrev slices_Concat_post (r : (List S_api_Trigger)) : SV → Mem → Prop := fun s Me => ∃ q1, s = q1 ∧ Has (fun _ => none) Me [.vec 76 3 r.length q1 (r.flatMap enc76)]

def slices_Concat_2 (F : Nat) (hd1 : (List (List S_api_Trigger)) → Int → (List (List S_api_Trigger)) → Int → Int → Option ((List S_api_Trigger))) (v0 : (List (List S_api_Trigger))) (v3 : Int) (v9 : (List (List S_api_Trigger))) (v10 : Int) (v11 : Int) : Option ((List S_api_Trigger)) :=
  hd1 v0 v3 v9 v10 (w64 (v11 + (1 : Int)))

theorem slices_Concat_2_ok (F : Nat) (hd1 : (List (List S_api_Trigger)) → Int → (List (List S_api_Trigger)) → Int → Int → Option ((List S_api_Trigger))) (hhd1 : ∀ (v0 : (List (List S_api_Trigger))) (v3 : Int) (v9 : (List (List S_api_Trigger))) (v10 : Int) (v11 : Int) (sv0 : SV) (sv9 : SV) (Fr : Rd) (M : Mem) (r : (List S_api_Trigger)) (hv0 : Slc Fr 1 (rep22 Fr) sv0 v0) (hv9 : Slc Fr 1 (rep22 Fr) sv9 v9) (hH : Has Fr M []), hd1 v0 v3 v9 v10 v11 = some r → Run Try.prog ⟨⟨129, [], none⟩, []⟩ 36 (slices_Concat_post r) [(0, sv0), (3, (.int .i64 v3)), (9, sv9), (10, (.int .i64 v10)), (11, (.int .i64 v11))] [codeC Try.prog 129 [1, 1, 0, 1, 0, 0], loopC Try.prog 129 [1, 1, 0, 1, 0, 0], .inBlock 0, codeC Try.prog 129 [1, 1, 1]] M) : ∀ (v0 : (List (List S_api_Trigger))) (v3 : Int) (v9 : (List (List S_api_Trigger))) (v10 : Int) (v11 : Int) (sv0 : SV) (sv9 : SV) (Fr : Rd) (M : Mem) (r : (List S_api_Trigger)) (hv0 : Slc Fr 1 (rep22 Fr) sv0 v0) (hv9 : Slc Fr 1 (rep22 Fr) sv9 v9) (hH : Has Fr M []), slices_Concat_2 F hd1 v0 v3 v9 v10 v11 = some r → Run Try.prog ⟨⟨129, [], none⟩, []⟩ 36 (slices_Concat_post r) [(0, sv0), (3, (.int .i64 v3)), (9, sv9), (10, (.int .i64 v10)), (11, (.int .i64 v11))] [itemC Try.prog 129 [1, 1, 0, 1, 0, 0, 1, 1, 1] 0, loopC Try.prog 129 [1, 1, 0, 1, 0, 0], .inBlock 0, codeC Try.prog 129 [1, 1, 1]] M := by
  intro v0 v3 v9 v10 v11 sv0 sv9 Fr M r hv0 hv9 hH h
  rw [slices_Concat_2] at h
  refine Run.opG wantS_none (ex_add rfl rfl) rfl ?_
  refine Run.opG wantS_none (ex_move rfl) rfl ?_
  refine Run.opsEnd (Run.inLoop ?_)
  exact Run.pick [0, 3, 9, 10, 11] (hhd1 v0 v3 v9 v10 (w64 (v11 + (1 : Int))) sv0 sv9 _ _ _ hv0 hv9 hH h)

def slices_Concat_5 (F : Nat) : Nat → (List (List S_api_Trigger)) → Int → Int → (List S_api_Trigger) → Option ((List S_api_Trigger))
  | 0, _, _, _, _ => none
  | N + 1, v25, v26, v27, l35 =>
    bif (decide (v27 < v26)) then
      bnd (idx v25 v27) fun x38 =>
      bnd (apd 24 l35 x38) fun l41 =>
      (slices_Concat_5 F N) v25 v26 (w64 (v27 + (1 : Int))) l41
    else
      some l35

theorem slices_Concat_5_ok (F : Nat) : ∀ (N : Nat), ∀ (v25 : (List (List S_api_Trigger))) (v26 : Int) (v27 : Int) (l35 : (List S_api_Trigger)) (sv25 : SV) (s35 : SV) (Fr : Rd) (M : Mem) (r : (List S_api_Trigger)) (hv25 : Slc Fr 1 (rep22 Fr) sv25 v25) (hH : Has Fr M [.vec 76 3 l35.length s35 (l35.flatMap enc76)]), slices_Concat_5 F N v25 v26 v27 l35 = some r → Run Try.prog ⟨⟨129, [], none⟩, []⟩ 36 (slices_Concat_post r) [(6, s35), (25, sv25), (26, (.int .i64 v26)), (27, (.int .i64 v27))] [codeC Try.prog 129 [1, 1, 1, 1, 0, 1, 0, 0], loopC Try.prog 129 [1, 1, 1, 1, 0, 1, 0, 0], .inBlock 2, codeC Try.prog 129 [1, 1, 1, 1, 1]] M := by
  intro N
  induction N with
  | zero =>
    intro v25 v26 v27 l35 sv25 s35 Fr M r hv25 hH h
    simp [slices_Concat_5] at h
  | succ N ih =>
    intro v25 v26 v27 l35 sv25 s35 Fr M r hv25 hH h
    rw [slices_Concat_5] at h
    refine Run.seq (Run.region ?_)
    refine Run.opG wantS_none (ex_lss rfl rfl) rfl ?_
    refine Run.opsEnd (Run.seq ?_)
    rcases btf ((decide (v27 < v26))) with hc36 | hc36
    · have h := bif_t hc36 h
      refine Run.condT' rfl hc36 ?_
      refine Run.skip (Run.seq (Run.block (Run.seq (Run.region ?_))))
      obtain ⟨x38, hx38, h⟩ := bnd_some h
      obtain ⟨p38, o38, _, hx38, hp38, ⟨q38_0, rfl, hq38_0⟩⟩ := sl_elem (P := Try.prog) (t := 132) (kk := .i64) hv25 hx38 els132
      refine Run.opG wantS_none (ex_elX rfl rfl hx38) rfl ?_
      refine Run.opG wantS_none (ex_load1 rfl (hH.ptrF hp38) rdLe_rfl agg22) rfl ?_
      refine Run.opG wantS_none (ex_assign rfl) rfl ?_
      refine Run.opsEnd (Run.region ?_)
      refine Run.opG wantS_none (ex_move rfl) rfl ?_
      refine Run.opG wantS_none (ex_move rfl) rfl ?_
      obtain ⟨l41, hl41, h⟩ := bnd_some h
      refine Run.opX wantS_none rfl (ExG.append rfl rfl hH (i := 0) rfl enc76_len rfl enc76_ones appt22_22 rfl (len_slc hq38_0) (first_slc hq38_0 (rdLe_roF hH) enc76_len) hl41) ?_
      rintro s41 M43 (hH43 : Has Fr M43 [.vec 76 3 l41.length s41 (l41.flatMap enc76)])
      refine Run.opG wantS_none (ex_assign rfl) rfl ?_
      refine Run.opsEnd (Run.inBlock (Run.region ?_))
      refine Run.opG wantS_none (ex_add rfl rfl) rfl ?_
      refine Run.opG wantS_none (ex_move rfl) rfl ?_
      refine Run.opsEnd (Run.inLoop ?_)
      exact Run.pick [6, 25, 26, 27] (ih v25 v26 (w64 (v27 + (1 : Int))) l41 sv25 s41 _ _ _ hv25 hH43 h)
    · have h := bif_f hc36 h
      refine Run.condF' rfl hc36 ?_
      refine Run.exit rfl (Run.seq (Run.region ?_))
      refine Run.opG wantS_none (ex_move rfl) rfl ?_
      refine Run.opG wantS_none (ex_assign rfl) rfl ?_
      refine Run.opsEnd ?_
      cases h
      exact Run.ret Try.func129 rfl (res_tmp rfl res_nil) ⟨_, rfl, (hH.pick [0] rfl rfl).upF (none_le _)⟩

def slices_Concat_4 (F : Nat) (v0_f1 : (List (List S_api_Trigger))) (l35 : (List S_api_Trigger)) : Option ((List S_api_Trigger)) :=
  slices_Concat_5 F F v0_f1 (v0_f1.length : Int) (0 : Int) l35

theorem slices_Concat_4_ok (F : Nat) : ∀ (v0_f1 : (List (List S_api_Trigger))) (l35 : (List S_api_Trigger)) (sv0_f1 : SV) (s35 : SV) (Fr : Rd) (M : Mem) (r : (List S_api_Trigger)) (hv0_f1 : Slc Fr 1 (rep22 Fr) sv0_f1 v0_f1) (hH : Has Fr M [.vec 76 3 l35.length s35 (l35.flatMap enc76)]), slices_Concat_4 F v0_f1 l35 = some r → Run Try.prog ⟨⟨135, [], none⟩, [.mk ⟨129, [], none⟩ 36 (treeOf [(0, sv0_f1)]) [itemC Try.prog 129 [1, 1, 1, 0] 1, codeC Try.prog 129 [1, 1, 1, 1]]]⟩ 27 (slices_Concat_post r) [(0, s35)] [itemC Try.prog 135 [1, 1, 1, 0] 0, codeC Try.prog 135 [1, 1, 1, 1]] M := by
  intro v0_f1 l35 sv0_f1 s35 Fr M r hv0_f1 hH h
  rw [slices_Concat_4] at h
  refine Run.opG wantS_none (ex_move rfl) rfl ?_
  refine Run.opG wantS_none (ex_assign rfl) rfl ?_
  refine Run.opsEnd ?_
  refine Run.retTo Try.func135 rfl (res_tmp rfl res_nil) rfl ?_
  refine Run.opG wantS_none (ex_assign rfl) rfl ?_
  refine Run.opsEnd (Run.seq (Run.seq (Run.region ?_)))
  refine Run.opG wantS_none (ex_move rfl) rfl ?_
  refine Run.opG wantS_none (ex_len' rfl hv0_f1 lenk132) rfl ?_
  refine Run.opG wantS_none (ex_move rfl) rfl ?_
  refine Run.opsEnd (Run.block (Run.loop ?_))
  exact Run.pick [6, 25, 26, 27] (slices_Concat_5_ok F F v0_f1 (v0_f1.length : Int) (0 : Int) l35 sv0_f1 s35 _ _ _ hv0_f1 hH h)

def slices_Concat_3 (F : Nat) (v1 : Int) (v0_f1 : (List (List S_api_Trigger))) : Option ((List S_api_Trigger)) :=
  bif (decide ((0 : Int) < (w64 (v1 - (w64 ((0 : Int) - (0 : Int))))))) then
    bnd (sub ([] : List S_api_Trigger) 0 (0 : Int)) fun l28 =>
    bnd (mkz (w64 (v1 - (w64 ((0 : Int) - (0 : Int))))) 24 (S_api_Trigger.mk (0 : Int) (0 : Int) (0 : Int))) fun l30 =>
    slices_Concat_4 F v0_f1 ([] : List S_api_Trigger)
  else
    slices_Concat_4 F v0_f1 ([] : List S_api_Trigger)

theorem slices_Concat_3_ok (F : Nat) : ∀ (v1 : Int) (v0_f1 : (List (List S_api_Trigger))) (sv0_f1 : SV) (Fr : Rd) (M : Mem) (r : (List S_api_Trigger)) (hv0_f1 : Slc Fr 1 (rep22 Fr) sv0_f1 v0_f1) (hH : Has Fr M []), slices_Concat_3 F v1 v0_f1 = some r → Run Try.prog ⟨⟨135, [], none⟩, [.mk ⟨129, [], none⟩ 36 (treeOf [(0, sv0_f1)]) [itemC Try.prog 129 [1, 1, 1, 0] 1, codeC Try.prog 129 [1, 1, 1, 1]]]⟩ 27 (slices_Concat_post r) [(0, .nils), (1, (.int .i64 v1))] [itemC Try.prog 135 [1, 1, 0, 0] 0, codeC Try.prog 135 [1, 1, 0, 1], codeC Try.prog 135 [1, 1, 1]] M := by
  intro v1 v0_f1 sv0_f1 Fr M r hv0_f1 hH h
  rw [slices_Concat_3] at h
  refine Run.opG wantS_none (ex_move rfl) rfl ?_
  refine Run.opG wantS_none (ex_move rfl) rfl ?_
  refine Run.opG wantS_none (ex_capN rfl lenk22) rfl ?_
  refine Run.opG wantS_none (ex_move rfl) rfl ?_
  refine Run.opG wantS_none (ex_len' (z := 1) (R := FlatR (fun a => [a])) (f := Fr) (l := []) rfl slc_nil lenk22) rfl ?_
  refine Run.opG wantS_none (ex_sub rfl rfl) rfl ?_
  refine Run.opG wantS_none (ex_sub rfl rfl) rfl ?_
  refine Run.opG wantS_none (ex_assign rfl) rfl ?_
  refine Run.opsEnd (Run.seq (Run.region ?_))
  refine Run.opG wantS_none (ex_move rfl) rfl ?_
  refine Run.opG wantS_none (ex_gtr rfl rfl) rfl ?_
  refine Run.opsEnd ?_
  rcases btf ((decide ((0 : Int) < (w64 (v1 - (w64 ((0 : Int) - (0 : Int)))))))) with hc26 | hc26
  · have h := bif_t hc26 h
    refine Run.condT' rfl hc26 ?_
    refine Run.region ?_
    refine Run.opG wantS_none (ex_move rfl) rfl ?_
    refine Run.opG wantS_none (ex_move rfl) rfl ?_
    refine Run.opG wantS_none (ex_capN rfl lenk22) rfl ?_
    obtain ⟨l28, hl28, h⟩ := bnd_some h
    refine Run.opG wantS_none (ex_slX rfl argO_none (argO_some rfl) (nil_sub hl28 slk22 (.inl ⟨rfl, rfl⟩) (.inr ⟨_, rfl⟩))) rfl ?_
    refine Run.opG wantS_none (ex_move rfl) rfl ?_
    obtain ⟨l30, hl30, h⟩ := bnd_some h
    refine Run.opX wantS_none rfl (ExG.appendZ (enc := enc76) rfl rfl hl30 apn22_3 elt22 int3 rfl rfl rfl rfl enc76_len hH) ?_
    rintro _ M31 ⟨b30, rfl, (hH31 : Has Fr M31 [.vec 76 3 l30.length (.ope b30 0 l30.length 3) (l30.flatMap enc76)])⟩
    refine Run.opG wantS_none (ex_move rfl) rfl ?_
    refine Run.opG wantS_none (ex_len' (z := 1) (R := FlatR (fun a => [a])) (f := Fr) (l := []) rfl slc_nil lenk22) rfl ?_
    refine Run.opX wantS_none rfl (ExG.cut0 (ex_slX rfl argO_none (argO_some rfl) (cut0_sl (mkz_pos hl30) slk22)) hH31 (i := 0) rfl) ?_
    rintro _ M34 ⟨rfl, (hH34 : Has Fr M34 [.obj b30 (.row 76 (.head 0) (l30.flatMap enc76))])⟩
    refine Run.trunc (ti := 25) (i := 0) rfl hH34 rfl ?_
    intro M35 (hH35 : Has Fr M35 [.vec 76 3 ([] : List S_api_Trigger).length (.ope b30 0 0 3) (([] : List S_api_Trigger).flatMap enc76)])
    refine Run.opG wantS_none (ex_assign rfl) rfl ?_
    refine Run.opsEnd (Run.seq (Run.region ?_))
    exact Run.low (.cons (fle_pick [0] rfl) .nil) (Run.pick [0] (slices_Concat_4_ok F v0_f1 ([] : List S_api_Trigger) sv0_f1 (.ope b30 0 0 3) _ _ _ hv0_f1 hH35 h))
  · have h := bif_f hc26 h
    refine Run.condF' rfl hc26 ?_
    refine Run.skip (Run.seq (Run.region ?_))
    have hH45 : Has Fr M [.vec 76 3 ([] : List S_api_Trigger).length .nils (([] : List S_api_Trigger).flatMap enc76)] := hH.nils 76 3
    exact Run.low (.cons (fle_pick [0] rfl) .nil) (Run.pick [0] (slices_Concat_4_ok F v0_f1 ([] : List S_api_Trigger) sv0_f1 .nils _ _ _ hv0_f1 hH45 h))

def slices_Concat_1 (F : Nat) : Nat → (List (List S_api_Trigger)) → Int → (List (List S_api_Trigger)) → Int → Int → Option ((List S_api_Trigger))
  | 0, _, _, _, _, _ => none
  | N + 1, v0, v3, v9, v10, v11 =>
    bif (decide (v11 < v10)) then
      bnd (idx v9 v11) fun x23 =>
      bif (decide ((w64 (v3 + (x23.length : Int))) < (0 : Int))) then
        none
      else
        slices_Concat_2 F (slices_Concat_1 F N) v0 (w64 (v3 + (x23.length : Int))) v9 v10 v11
    else
      bif (decide (v3 < (0 : Int))) then
        none
      else
        slices_Concat_3 F v3 v0

theorem slices_Concat_1_ok (F : Nat) : ∀ (N : Nat), ∀ (v0 : (List (List S_api_Trigger))) (v3 : Int) (v9 : (List (List S_api_Trigger))) (v10 : Int) (v11 : Int) (sv0 : SV) (sv9 : SV) (Fr : Rd) (M : Mem) (r : (List S_api_Trigger)) (hv0 : Slc Fr 1 (rep22 Fr) sv0 v0) (hv9 : Slc Fr 1 (rep22 Fr) sv9 v9) (hH : Has Fr M []), slices_Concat_1 F N v0 v3 v9 v10 v11 = some r → Run Try.prog ⟨⟨129, [], none⟩, []⟩ 36 (slices_Concat_post r) [(0, sv0), (3, (.int .i64 v3)), (9, sv9), (10, (.int .i64 v10)), (11, (.int .i64 v11))] [codeC Try.prog 129 [1, 1, 0, 1, 0, 0], loopC Try.prog 129 [1, 1, 0, 1, 0, 0], .inBlock 0, codeC Try.prog 129 [1, 1, 1]] M := by
  intro N
  induction N with
  | zero =>
    intro v0 v3 v9 v10 v11 sv0 sv9 Fr M r hv0 hv9 hH h
    simp [slices_Concat_1] at h
  | succ N ih =>
    intro v0 v3 v9 v10 v11 sv0 sv9 Fr M r hv0 hv9 hH h
    rw [slices_Concat_1] at h
    refine Run.seq (Run.region ?_)
    refine Run.opG wantS_none (ex_lss rfl rfl) rfl ?_
    refine Run.opsEnd (Run.seq ?_)
    rcases btf ((decide (v11 < v10))) with hc21 | hc21
    · have h := bif_t hc21 h
      refine Run.condT' rfl hc21 ?_
      refine Run.skip (Run.seq (Run.block (Run.seq (Run.region ?_))))
      obtain ⟨x23, hx23, h⟩ := bnd_some h
      obtain ⟨p23, o23, _, hx23, hp23, ⟨q23_0, rfl, hq23_0⟩⟩ := sl_elem (P := Try.prog) (t := 132) (kk := .i64) hv9 hx23 els132
      refine Run.opG wantS_none (ex_elX rfl rfl hx23) rfl ?_
      refine Run.opG wantS_none (ex_load1 rfl (hH.ptrF hp23) rdLe_rfl agg22) rfl ?_
      refine Run.opG wantS_none (ex_assign rfl) rfl ?_
      refine Run.opsEnd (Run.seq (Run.region ?_))
      refine Run.opG wantS_none (ex_move rfl) rfl ?_
      refine Run.opG wantS_none (ex_move rfl) rfl ?_
      refine Run.opG wantS_none (ex_len' rfl hq23_0 lenk22) rfl ?_
      refine Run.opG wantS_none (ex_add rfl rfl) rfl ?_
      refine Run.opG wantS_none (ex_assign rfl) rfl ?_
      refine Run.opsEnd (Run.seq (Run.region ?_))
      refine Run.opG wantS_none (ex_move rfl) rfl ?_
      refine Run.opG wantS_none (ex_lss rfl rfl) rfl ?_
      refine Run.opsEnd ?_
      rcases btf ((decide ((w64 (v3 + (x23.length : Int))) < (0 : Int)))) with hc24 | hc24
      · have h := bif_t hc24 h
        refine Run.condT' rfl hc24 ?_
        refine Run.region ?_
        cases h
      · have h := bif_f hc24 h
        refine Run.condF' rfl hc24 ?_
        refine Run.skip (Run.inBlock (Run.region ?_))
        exact Run.pick [0, 3, 9, 10, 11] (slices_Concat_2_ok F (slices_Concat_1 F N) ih v0 (w64 (v3 + (x23.length : Int))) v9 v10 v11 sv0 sv9 _ _ _ hv0 hv9 hH h)
    · have h := bif_f hc21 h
      refine Run.condF' rfl hc21 ?_
      refine Run.exit rfl (Run.seq (Run.region ?_))
      refine Run.opG wantS_none (ex_move rfl) rfl ?_
      refine Run.enter wantS_none (ex_call rfl mkk135 cal135) Try.func135 rfl rfl ?_
      refine Run.seq (Run.region ?_)
      refine Run.opG wantS_none (ex_assign rfl) rfl ?_
      refine Run.opsEnd (Run.seq (Run.seq (Run.region ?_)))
      refine Run.opG wantS_none (ex_move rfl) rfl ?_
      refine Run.opG wantS_none (ex_lss rfl rfl) rfl ?_
      refine Run.opsEnd ?_
      rcases btf ((decide (v3 < (0 : Int)))) with hc25 | hc25
      · have h := bif_t hc25 h
        refine Run.condT' rfl hc25 ?_
        refine Run.region ?_
        cases h
      · have h := bif_f hc25 h
        refine Run.condF' rfl hc25 ?_
        refine Run.skip (Run.seq (Run.seq (Run.region ?_)))
        exact Run.low (.cons (fle_pick [0] rfl) .nil) (Run.pick [0, 1] (slices_Concat_3_ok F v3 v0 sv0 _ _ _ hv0 hH h))

def slices_Concat (F : Nat) (a0 : (List (List S_api_Trigger))) : Option ((List S_api_Trigger)) :=
  slices_Concat_1 F F a0 (0 : Int) a0 (a0.length : Int) (0 : Int)

theorem slices_Concat_ok (F : Nat) (a0 : (List (List S_api_Trigger))) (s0 : SV) (r : (List S_api_Trigger)) (M : Mem) (hs0 : Slc (rd M) 1 (rep22 (rd M)) s0 a0) (h : slices_Concat F a0 = some r) : CallsM Try.prog 129 [s0] M (fun s M' => ∃ q1, s = q1 ∧ New M M' [.vec 76 3 r.length q1 (r.flatMap enc76)]) := by
  refine CallsM.fresh (Q := slices_Concat_post r) Try.func129 rfl rfl ?_ (by rintro s Me ⟨q1, rfl, hx⟩ ha hw; exact ⟨_, rfl, New.of rfl hx ha hw⟩)
  rw [slices_Concat] at h
  replace hs0 := hs0.mono (rdLe_frozen M) (fun _ _ => rep22_mo (rdLe_frozen M))
  have hH := Has.nil (frozen M)
  refine Run.seq (Run.region ?_)
  refine Run.opG wantS_none (ex_assign rfl) rfl ?_
  refine Run.opsEnd (Run.seq (Run.region ?_))
  refine Run.opG wantS_none (ex_assign rfl) rfl ?_
  refine Run.opsEnd (Run.seq (Run.seq (Run.region ?_)))
  refine Run.opG wantS_none (ex_move rfl) rfl ?_
  refine Run.opG wantS_none (ex_len' rfl hs0 lenk132) rfl ?_
  refine Run.opG wantS_none (ex_move rfl) rfl ?_
  refine Run.opsEnd (Run.block (Run.loop ?_))
  exact Run.pick [0, 3, 9, 10, 11] (slices_Concat_1_ok F F a0 (0 : Int) a0 (a0.length : Int) (0 : Int) s0 s0 _ _ _ hs0 hs0 hH h)

theorem mkk129 : makeK Try.prog 129 = none := by kernel_rfl
theorem cal129 : callable Try.prog 129 = true := by kernel_rfl
theorem plan112_1_0 : planOf Try.prog (opsC (atC Try.prog 112 [1, 0])) = some [.fl 0, .fl 1, .fl 2, .fl 3, .fl 4, .fl 5, .an 6 [], .an 7 [], .fl 8, .sync] := by kernel_rfl
abbrev search_rotate_post (r : (List S_api_Trigger)) : SV → Mem → Prop := fun s Me => ∃ q1, s = q1 ∧ Has (fun _ => none) Me [.vec 76 3 r.length q1 (r.flatMap enc76)]

def search_rotate (F : Nat) (a0 : (List S_api_Trigger)) (a1 : Int) : Option ((List S_api_Trigger)) :=
  bnd (sub a0 a1 (a0.length : Int)) fun l21 =>
  bnd (sub a0 0 a1) fun l22 =>
  bnd (slices_Concat F ([l21, l22] : List (List S_api_Trigger))) fun r25 =>
  some r25

theorem search_rotate_ok (F : Nat) (a0 : (List S_api_Trigger)) (a1 : Int) (s0 : SV) (r : (List S_api_Trigger)) (M : Mem) (hs0 : Slc (rd M) 3 (FlatR enc76) s0 a0) (h : search_rotate F a0 a1 = some r) : CallsM Try.prog 112 [s0, (.int .i64 a1)] M (fun s M' => ∃ q1, s = q1 ∧ New M M' [.vec 76 3 r.length q1 (r.flatMap enc76)]) := by
  refine CallsM.fresh (Q := search_rotate_post r) Try.func112 rfl rfl ?_ (by rintro s Me ⟨q1, rfl, hx⟩ ha hw; exact ⟨_, rfl, New.of rfl hx ha hw⟩)
  rw [search_rotate] at h
  replace hs0 := hs0.mono (rdLe_frozen M) (fun _ _ h => h)
  have hH := Has.nil (frozen M)
  refine Run.seq (Run.region ?_)
  refine Run.opG wantS_none (ex_assign rfl) rfl ?_
  refine Run.opsEnd (Run.seq ?_)
  refine Run.drawG plan112_1_0 ?_
  refine DrawG.fl rfl (ev_ex wantS_none (ex_move rfl)) rfl ?_
  refine DrawG.fl rfl (ev_ex wantS_none (ex_move rfl)) rfl ?_
  obtain ⟨l21, hl21, h⟩ := bnd_some h
  obtain ⟨s21, hx21, hs21⟩ := sl_subL (P := Try.prog) (t := 22) (k0 := .i64) hs0 hl21 slk22
  refine DrawG.fl rfl (ev_ex wantS_none (ex_slX rfl (argO_some rfl) (argO_none) hx21)) rfl ?_
  refine DrawG.fl rfl (ev_ex wantS_none (ex_move rfl)) rfl ?_
  refine DrawG.fl rfl (ev_ex wantS_none (ex_move rfl)) rfl ?_
  obtain ⟨l22, hl22, h⟩ := bnd_some h
  obtain ⟨s22, hx22, hs22⟩ := sl_subH (P := Try.prog) (t := 22) (k0 := .i64) hs0 hl22 slk22
  refine DrawG.fl rfl (ev_ex wantS_none (ex_slX rfl (argO_none) (argO_some rfl) hx22)) rfl ?_
  have hr23 : Rows (rep22 (ro (frozen M))) 1 [s21, s22] ([l21, l22] : List (List S_api_Trigger)) := (Rows.cons (cs := [s21]) rfl ⟨s21, rfl, hs21⟩ (Rows.cons (cs := [s22]) rfl ⟨s22, rfl, hs22⟩ Rows.nil))
  refine DrawG.opX rfl wantS_none rfl (ExG.builtR (z := 1) (c := [s21, s22]) rfl elt132 rfl (by simp only [fillS, cells_one (slc_one hs21), cells_one (slc_one hs22)]; rfl) rfl hH) ?_
  rintro s23 M24 (hH24 : Has (ro (frozen M)) M24 [.vec 22 1 ([l21, l22] : List (List S_api_Trigger)).length s23 [s21, s22]])
  refine ⟨st_nil, ?_⟩
  obtain ⟨r25, hr25, h⟩ := bnd_some h
  refine DrawG.call rfl wantS_none (ex_call rfl mkk129 cal129) rfl (slices_Concat_ok F ([l21, l22] : List (List S_api_Trigger)) s23 _ _ (((hH24.slcR (i := 0) rfl hr23)).mono (fun _ _ h => h) (fun _ _ => rep22_mo hH24.le)) hr25) ?_
  rintro s25_0 M27 ⟨_, rfl, hN25⟩
  have hH27 : Has (ro (frozen M)) M27 [.vec 76 3 r25.length s25_0 (r25.flatMap enc76), .vec 22 1 ([l21, l22] : List (List S_api_Trigger)).length s23 [s21, s22]] := hN25.1 _ _ hH24
  refine ⟨st_nil, ?_⟩
  refine DrawG.fl rfl (ev_ex wantS_none (ex_assign rfl)) rfl ?_
  refine DrawG.sync ?_
  refine DrawG.nil ?_
  cases h
  exact Run.ret Try.func112 rfl (res_tmp rfl res_nil) ⟨_, rfl, (hH27.pick [0] rfl rfl).upF (none_le _)⟩

theorem mkk112 : makeK Try.prog 112 = none := by kernel_rfl
theorem cal112 : callable Try.prog 112 = true := by kernel_rfl
theorem sz3 : szOf Try.prog 3 = some 1 := by kernel_rfl
theorem plan63_1_1_1_1_0_1_0_0_1_1_0_0_1 : planOf Try.prog (opsC (atC Try.prog 63 [1, 1, 1, 1, 0, 1, 0, 0, 1, 1, 0, 0, 1])) = some [.fl 0, .fl 1, .fl 2, .fl 3, .fl 4, .fl 5, .fl 6, .fl 7, .fl 8, .fl 9, .fl 10, .fl 11, .fl 12, .fl 13, .an 14 [], .sync] := by kernel_rfl
abbrev search_clock_slide_post (r : (List S_api_Trigger)) : SV → Mem → Prop := fun s Me => ∃ q1, s = q1 ∧ Has (fun _ => none) Me [.vec 76 3 r.length q1 (r.flatMap enc76)]

def search_clock_slide_2 (F : Nat) : Nat → Int → Int → S_search_clock → Int → (List S_api_Trigger) → Option ((List S_api_Trigger))
  | 0, _, _, _, _, _ => none
  | N + 1, v20, v21, c22, c25_0, l37 =>
    bif (decide (v21 < v20)) then
      bnd (idx l37 v21) fun x40 =>
      bnd (nz c22.live) fun z41 =>
      bnd (inn l37 v21) fun o42 =>
      bnd (l37[o42]?) fun x43 =>
      bnd (upd l37 o42 (S_api_Trigger.mk (Int.tmod (w64 (x40.Time + c25_0)) c22.live) x43.Loud x43.Template)) fun l43 =>
      (search_clock_slide_2 F N) v20 (w64 (v21 + (1 : Int))) c22 c25_0 l43
    else
      some l37

theorem search_clock_slide_2_ok (F : Nat) : ∀ (N : Nat), ∀ (v20 : Int) (v21 : Int) (c22 : S_search_clock) (c25_0 : Int) (l37 : (List S_api_Trigger)) (b22 : Pos) (b25 : Pos) (s37 : SV) (Fr : Rd) (M : Mem) (r : (List S_api_Trigger)) (hH : Has Fr M [.obj b22 (.row 87 .whole [(.int .i64 c22.live), (.int .i64 c22.window), (.int .i64 c22.step)]), .obj b25 (.row 3 .whole [(.int .i64 c25_0)]), .vec 76 3 l37.length s37 (l37.flatMap enc76)]), search_clock_slide_2 F N v20 v21 c22 c25_0 l37 = some r → Run Try.prog ⟨⟨63, [], none⟩, []⟩ 40 (search_clock_slide_post r) [(3, (.ptr b22 0)), (5, (.ptr b25 0)), (9, s37), (20, (.int .i64 v20)), (21, (.int .i64 v21))] [codeC Try.prog 63 [1, 1, 1, 1, 0, 1, 0, 0], loopC Try.prog 63 [1, 1, 1, 1, 0, 1, 0, 0], .inBlock 0, codeC Try.prog 63 [1, 1, 1, 1, 1]] M := by
  intro N
  induction N with
  | zero =>
    intro v20 v21 c22 c25_0 l37 b22 b25 s37 Fr M r hH h
    simp [search_clock_slide_2] at h
  | succ N ih =>
    intro v20 v21 c22 c25_0 l37 b22 b25 s37 Fr M r hH h
    rw [search_clock_slide_2] at h
    refine Run.seq (Run.region ?_)
    refine Run.opG wantS_none (ex_lss rfl rfl) rfl ?_
    refine Run.opsEnd (Run.seq ?_)
    rcases btf ((decide (v21 < v20))) with hc39 | hc39
    · have h := bif_t hc39 h
      refine Run.condT' rfl hc39 ?_
      refine Run.skip (Run.seq (Run.block (Run.seq (Run.region ?_))))
      refine Run.opG wantS_none (ex_move rfl) rfl ?_
      refine Run.opG wantS_none (ex_assign rfl) rfl ?_
      refine Run.opsEnd ?_
      refine Run.drawG plan63_1_1_1_1_0_1_0_0_1_1_0_0_1 ?_
      refine DrawG.fl rfl (ev_ex wantS_none (ex_move rfl)) rfl ?_
      refine DrawG.fl rfl (ev_ex wantS_none (ex_move rfl)) rfl ?_
      refine DrawG.fl rfl (ev_ex wantS_none (ex_move rfl)) rfl ?_
      refine DrawG.fl rfl (ev_ex wantS_none (ex_move rfl)) rfl ?_
      obtain ⟨x40, hx40, h⟩ := bnd_some h
      obtain ⟨p40, o40, hb40, hx40, he40⟩ := vec_elem (P := Try.prog) (t := 22) (kk := .i64) hH (i := 2) rfl hx40 els22
      refine DrawG.fl rfl (ev_ex wantS_none (ex_elX rfl rfl hx40)) rfl ?_
      refine DrawG.fl rfl (ev_ex wantS_none (ex_fieldAddr rfl off76_0)) rfl ?_
      refine DrawG.fl rfl (ev_ex wantS_none (ex_load1 rfl ((hH.at (enc := enc76) (a := x40) (i := 2) rfl hb40 he40 enc76_len).fld (o := 0) rfl) rdLe_rfl agg3)) rfl ?_
      refine DrawG.fl rfl (ev_ex wantS_none (ex_load1 rfl (hH.cells (i := 1) rfl 0 rfl) rdLe_rfl agg3)) rfl ?_
      refine DrawG.fl rfl (ev_ex wantS_none (ex_add rfl rfl)) rfl ?_
      refine DrawG.fl rfl (ev_ex wantS_none (ex_fieldAddr rfl off87_0)) rfl ?_
      refine DrawG.fl rfl (ev_ex wantS_none (ex_load1 rfl (hH.cells (i := 0) rfl 0 rfl) rdLe_rfl agg3)) rfl ?_
      obtain ⟨z41, hz41, h⟩ := bnd_some h
      refine DrawG.fl rfl (ev_ex wantS_none (ex_rem' rfl rfl hz41)) rfl ?_
      obtain ⟨o42, ho42, h⟩ := bnd_some h
      obtain ⟨p42, hb42, hx42⟩ := vec_place (P := Try.prog) (t := 22) (kk := .i64) hH (i := 2) rfl ho42 els22
      refine DrawG.fl rfl (ev_ex wantS_none (ex_elX rfl rfl hx42)) rfl ?_
      refine DrawG.fl rfl (ev_ex wantS_none (ex_fieldAddr rfl off76_0)) rfl ?_
      obtain ⟨x43, hx43, h⟩ := bnd_some h
      obtain ⟨l43, hl43, h⟩ := bnd_some h
      refine DrawG.opX rfl wantS_none rfl (ExG.storeFld (o := 0) rfl rfl hH (i := 2) rfl hb42 hx43 hl43 sz3 rfl rfl rfl rfl enc76_len) ?_
      rintro _ M44 ⟨rfl, (hH44 : Has Fr M44 [.obj b22 (.row 87 .whole [(.int .i64 c22.live), (.int .i64 c22.window), (.int .i64 c22.step)]), .obj b25 (.row 3 .whole [(.int .i64 c25_0)]), .vec 76 3 l43.length s37 (l43.flatMap enc76)])⟩
      refine ⟨st_nil, ?_⟩
      refine DrawG.sync ?_
      refine DrawG.nil ?_
      refine Run.inBlock (Run.region ?_)
      refine Run.opG wantS_none (ex_add rfl rfl) rfl ?_
      refine Run.opG wantS_none (ex_move rfl) rfl ?_
      refine Run.opsEnd (Run.inLoop ?_)
      exact Run.pick [3, 5, 9, 20, 21] (ih v20 (w64 (v21 + (1 : Int))) c22 c25_0 l43 b22 b25 s37 _ _ _ hH44 h)
    · have h := bif_f hc39 h
      refine Run.condF' rfl hc39 ?_
      refine Run.exit rfl (Run.seq (Run.region ?_))
      refine Run.opG wantS_none (ex_move rfl) rfl ?_
      refine Run.opG wantS_none (ex_assign rfl) rfl ?_
      refine Run.opsEnd ?_
      cases h
      exact Run.ret Try.func63 rfl (res_tmp rfl res_nil) ⟨_, rfl, (hH.pick [2] rfl rfl).upF (none_le _)⟩

def search_clock_slide_1 (F : Nat) : Nat → (List S_api_Trigger) → Int → Int → (List S_api_Trigger) → Int → S_search_clock → Option ((List S_api_Trigger))
  | 0, _, _, _, _, _, _ => none
  | N + 1, v0, v7, v8, v1_f1, c25_0, c22 =>
    bif (decide (v8 < v7)) then
      bnd (idx v0 v8) fun x29 =>
      bif (decide (c22.live ≤ (w64 (x29.Time + c25_0)))) then
        bnd (search_rotate F v1_f1 (max v8 (0 : Int))) fun r36 =>
        search_clock_slide_2 F F (r36.length : Int) (0 : Int) c22 c25_0 r36
      else
        (search_clock_slide_1 F N) v0 v7 (w64 (v8 + (1 : Int))) v1_f1 c25_0 c22
    else
      bnd (search_rotate F v1_f1 (max ((-1) : Int) (0 : Int))) fun r47 =>
      search_clock_slide_2 F F (r47.length : Int) (0 : Int) c22 c25_0 r47

theorem search_clock_slide_1_ok (F : Nat) : ∀ (N : Nat), ∀ (v0 : (List S_api_Trigger)) (v7 : Int) (v8 : Int) (v1_f1 : (List S_api_Trigger)) (c25_0 : Int) (c22 : S_search_clock) (sv0 : SV) (sv1_f1 : SV) (b25 : Pos) (b22 : Pos) (Fr : Rd) (M : Mem) (r : (List S_api_Trigger)) (hv0 : Slc Fr 3 (FlatR enc76) sv0 v0) (hv1_f1 : Slc Fr 3 (FlatR enc76) sv1_f1 v1_f1) (hH : Has Fr M [.obj b25 (.row 3 .whole [(.int .i64 c25_0)]), .obj b22 (.row 87 .whole [(.int .i64 c22.live), (.int .i64 c22.window), (.int .i64 c22.step)])]), search_clock_slide_1 F N v0 v7 v8 v1_f1 c25_0 c22 = some r → Run Try.prog ⟨⟨111, [], none⟩, [.mk ⟨63, [], none⟩ 40 (treeOf [(1, sv1_f1), (3, (.ptr b22 0)), (5, (.ptr b25 0))]) [itemC Try.prog 63 [1, 1, 0] 2, codeC Try.prog 63 [1, 1, 1]]]⟩ 19 (search_clock_slide_post r) [(0, sv0), (1, (.fn (.func 110) [] [(.ptr b25 0), (.ptr b22 0)])), (7, (.int .i64 v7)), (8, (.int .i64 v8))] [codeC Try.prog 111 [1, 0, 1, 0, 0], loopC Try.prog 111 [1, 0, 1, 0, 0], .inBlock 0, codeC Try.prog 111 [1, 1]] M := by
  intro N
  induction N with
  | zero =>
    intro v0 v7 v8 v1_f1 c25_0 c22 sv0 sv1_f1 b25 b22 Fr M r hv0 hv1_f1 hH h
    simp [search_clock_slide_1] at h
  | succ N ih =>
    intro v0 v7 v8 v1_f1 c25_0 c22 sv0 sv1_f1 b25 b22 Fr M r hv0 hv1_f1 hH h
    rw [search_clock_slide_1] at h
    refine Run.seq (Run.region ?_)
    refine Run.opG wantS_none (ex_lss rfl rfl) rfl ?_
    refine Run.opsEnd (Run.seq ?_)
    rcases btf ((decide (v8 < v7))) with hc27 | hc27
    · have h := bif_t hc27 h
      refine Run.condT' rfl hc27 ?_
      refine Run.skip (Run.seq (Run.block (Run.seq (Run.region ?_))))
      refine Run.opG wantS_none (ex_move rfl) rfl ?_
      refine Run.opG wantS_none (ex_assign rfl) rfl ?_
      refine Run.opsEnd (Run.seq (Run.region ?_))
      refine Run.opG wantS_none (ex_move rfl) rfl ?_
      refine Run.opG wantS_none (ex_move rfl) rfl ?_
      refine Run.opG wantS_none (ex_move rfl) rfl ?_
      obtain ⟨x29, hx29, h⟩ := bnd_some h
      obtain ⟨p29, o29, _, hx29, hp29, rfl⟩ := sl_elem (P := Try.prog) (t := 22) (kk := .i64) hv0 hx29 els22
      refine Run.opG wantS_none (ex_elX rfl rfl hx29) rfl ?_
      refine Run.opG wantS_none (ex_loadA rfl (hH.ptrF hp29) rdLe_rfl agg76 rfl rfl rfl) rfl ?_
      refine Run.enter wantS_none (ex_closure rfl rfl mkk110 cal110) Try.func110 rfl rfl ?_
      refine Run.seq (Run.region ?_)
      refine Run.opX wantS_none rfl (ExG.box rfl rfl hH) ?_
      rintro _ M32 ⟨b31, rfl, (hH32 : Has Fr M32 [.obj b31 (.row 76 .whole [(.int .i64 x29.Time), (.int .i64 x29.Loud), (.int .i64 x29.Template)]), .obj b25 (.row 3 .whole [(.int .i64 c25_0)]), .obj b22 (.row 87 .whole [(.int .i64 c22.live), (.int .i64 c22.window), (.int .i64 c22.step)])])⟩
      refine Run.opG wantS_none (ex_assign rfl) rfl ?_
      refine Run.opsEnd (Run.seq (Run.region ?_))
      refine Run.opG wantS_none (ex_fieldAddr rfl off76_0) rfl ?_
      refine Run.opG wantS_none (ex_load1 rfl (hH32.cells (i := 0) rfl 0 rfl) rdLe_rfl agg3) rfl ?_
      refine Run.opG wantS_none (ex_load1 rfl (hH32.cells (i := 1) rfl 0 rfl) rdLe_rfl agg3) rfl ?_
      refine Run.opG wantS_none (ex_add rfl rfl) rfl ?_
      refine Run.opG wantS_none (ex_fieldAddr rfl off87_0) rfl ?_
      refine Run.opG wantS_none (ex_load1 rfl (hH32.cells (i := 2) rfl 0 rfl) rdLe_rfl agg3) rfl ?_
      refine Run.opG wantS_none (ex_geq rfl rfl) rfl ?_
      refine Run.opG wantS_none (ex_assign rfl) rfl ?_
      refine Run.opsEnd ?_
      refine Run.retTo Try.func110 rfl (res_tmp rfl res_nil) rfl ?_
      refine Run.opsEnd ?_
      rcases btf ((decide (c22.live ≤ (w64 (x29.Time + c25_0))))) with hc33 | hc33
      · have h := bif_t hc33 h
        refine Run.condT' rfl hc33 ?_
        refine Run.seq (Run.region ?_)
        refine Run.opG wantS_none (ex_move rfl) rfl ?_
        refine Run.opG wantS_none (ex_assign rfl) rfl ?_
        refine Run.opsEnd ?_
        refine Run.retTo Try.func111 rfl (res_tmp rfl res_nil) rfl ?_
        refine Run.opG wantS_none (ex_assign rfl) rfl ?_
        refine Run.opsEnd (Run.seq (Run.region ?_))
        refine Run.opG wantS_none (ex_move rfl) rfl ?_
        refine Run.opG wantS_none (ex_move rfl) rfl ?_
        refine Run.opG wantS_none (ex_max rfl rfl) rfl ?_
        obtain ⟨r36, hr36, h⟩ := bnd_some h
        refine Run.callX wantS_none (ex_call rfl mkk112 cal112) rfl (search_rotate_ok F v1_f1 (max v8 (0 : Int)) sv1_f1 _ _ (hH32.slcF hv1_f1) hr36) ?_
        rintro s36_0 M38 ⟨_, rfl, hN36⟩
        have hH38 : Has Fr M38 [.vec 76 3 r36.length s36_0 (r36.flatMap enc76), .obj b31 (.row 76 .whole [(.int .i64 x29.Time), (.int .i64 x29.Loud), (.int .i64 x29.Template)]), .obj b25 (.row 3 .whole [(.int .i64 c25_0)]), .obj b22 (.row 87 .whole [(.int .i64 c22.live), (.int .i64 c22.window), (.int .i64 c22.step)])] := hN36.1 _ _ hH32
        refine Run.opG wantS_none (ex_assign rfl) rfl ?_
        refine Run.opsEnd (Run.seq (Run.seq (Run.region ?_)))
        refine Run.opG wantS_none (ex_move rfl) rfl ?_
        refine Run.opG wantS_none (ex_len' rfl (hH38.slc (i := 0) rfl enc76_len) lenk22) rfl ?_
        refine Run.opG wantS_none (ex_move rfl) rfl ?_
        refine Run.opsEnd (Run.block (Run.loop ?_))
        exact Run.pick [3, 5, 9, 20, 21] (search_clock_slide_2_ok F F (r36.length : Int) (0 : Int) c22 c25_0 r36 b22 b25 s36_0 _ _ _ (hH38.pick [3, 2, 0] rfl rfl) h)
      · have h := bif_f hc33 h
        refine Run.condF' rfl hc33 ?_
        refine Run.skip (Run.inBlock (Run.region ?_))
        refine Run.opG wantS_none (ex_add rfl rfl) rfl ?_
        refine Run.opG wantS_none (ex_move rfl) rfl ?_
        refine Run.opsEnd (Run.inLoop ?_)
        exact Run.low (.cons (fle_pick [1, 3, 5] rfl) .nil) (Run.pick [0, 1, 7, 8] (ih v0 v7 (w64 (v8 + (1 : Int))) v1_f1 c25_0 c22 sv0 sv1_f1 b25 b22 _ _ _ hv0 hv1_f1 (hH32.pick [1, 2] rfl rfl) h))
    · have h := bif_f hc27 h
      refine Run.condF' rfl hc27 ?_
      refine Run.exit rfl (Run.seq (Run.region ?_))
      refine Run.opG wantS_none (ex_assign rfl) rfl ?_
      refine Run.opsEnd ?_
      refine Run.retTo Try.func111 rfl (res_tmp rfl res_nil) rfl ?_
      refine Run.opG wantS_none (ex_assign rfl) rfl ?_
      refine Run.opsEnd (Run.seq (Run.region ?_))
      refine Run.opG wantS_none (ex_move rfl) rfl ?_
      refine Run.opG wantS_none (ex_move rfl) rfl ?_
      refine Run.opG wantS_none (ex_max rfl rfl) rfl ?_
      obtain ⟨r47, hr47, h⟩ := bnd_some h
      refine Run.callX wantS_none (ex_call rfl mkk112 cal112) rfl (search_rotate_ok F v1_f1 (max ((-1) : Int) (0 : Int)) sv1_f1 _ _ (hH.slcF hv1_f1) hr47) ?_
      rintro s47_0 M49 ⟨_, rfl, hN47⟩
      have hH49 : Has Fr M49 [.vec 76 3 r47.length s47_0 (r47.flatMap enc76), .obj b25 (.row 3 .whole [(.int .i64 c25_0)]), .obj b22 (.row 87 .whole [(.int .i64 c22.live), (.int .i64 c22.window), (.int .i64 c22.step)])] := hN47.1 _ _ hH
      refine Run.opG wantS_none (ex_assign rfl) rfl ?_
      refine Run.opsEnd (Run.seq (Run.seq (Run.region ?_)))
      refine Run.opG wantS_none (ex_move rfl) rfl ?_
      refine Run.opG wantS_none (ex_len' rfl (hH49.slc (i := 0) rfl enc76_len) lenk22) rfl ?_
      refine Run.opG wantS_none (ex_move rfl) rfl ?_
      refine Run.opsEnd (Run.block (Run.loop ?_))
      exact Run.pick [3, 5, 9, 20, 21] (search_clock_slide_2_ok F F (r47.length : Int) (0 : Int) c22 c25_0 r47 b22 b25 s47_0 _ _ _ (hH49.pick [2, 1, 0] rfl rfl) h)

def search_clock_slide (F : Nat) (a0 : S_search_clock) (a1 : (List S_api_Trigger)) (a2 : Int) : Option ((List S_api_Trigger)) :=
  search_clock_slide_1 F F a1 (a1.length : Int) (0 : Int) a1 a2 a0

theorem search_clock_slide_ok (F : Nat) (a0 : S_search_clock) (a1 : (List S_api_Trigger)) (a2 : Int) (s0 : SV) (r : (List S_api_Trigger)) (M : Mem) (hs0 : Slc (rd M) 3 (FlatR enc76) s0 a1) (h : search_clock_slide F a0 a1 a2 = some r) : CallsM Try.prog 63 [(.agg [(.int .i64 a0.live), (.int .i64 a0.window), (.int .i64 a0.step)]), s0, (.int .i64 a2)] M (fun s M' => ∃ q1, s = q1 ∧ New M M' [.vec 76 3 r.length q1 (r.flatMap enc76)]) := by
  refine CallsM.fresh (Q := search_clock_slide_post r) Try.func63 rfl rfl ?_ (by rintro s Me ⟨q1, rfl, hx⟩ ha hw; exact ⟨_, rfl, New.of rfl hx ha hw⟩)
  rw [search_clock_slide] at h
  replace hs0 := hs0.mono (rdLe_frozen M) (fun _ _ h => h)
  have hH := Has.nil (frozen M)
  refine Run.seq (Run.region ?_)
  refine Run.opX wantS_none rfl (ExG.box rfl rfl hH) ?_
  rintro _ M23 ⟨b22, rfl, (hH23 : Has (ro (frozen M)) M23 [.obj b22 (.row 87 .whole [(.int .i64 a0.live), (.int .i64 a0.window), (.int .i64 a0.step)])])⟩
  refine Run.opX wantS_none rfl (ExG.box rfl rfl hH23) ?_
  rintro _ M26 ⟨b25, rfl, (hH26 : Has (ro (frozen M)) M26 [.obj b25 (.row 3 .whole [(.int .i64 a2)]), .obj b22 (.row 87 .whole [(.int .i64 a0.live), (.int .i64 a0.window), (.int .i64 a0.step)])])⟩
  refine Run.opG wantS_none (ex_assign rfl) rfl ?_
  refine Run.opsEnd (Run.seq (Run.region ?_))
  refine Run.opG wantS_none (ex_makeFunc rfl rfl) rfl ?_
  refine Run.opG wantS_none (ex_assign rfl) rfl ?_
  refine Run.opsEnd (Run.seq (Run.region ?_))
  refine Run.opG wantS_none (ex_move rfl) rfl ?_
  refine Run.opG wantS_none (ex_move rfl) rfl ?_
  refine Run.enter wantS_none (ex_call rfl mkk111 cal111) Try.func111 rfl rfl ?_
  refine Run.seq (Run.region ?_)
  refine Run.opG wantS_none (ex_assign rfl) rfl ?_
  refine Run.opsEnd (Run.seq (Run.seq (Run.region ?_)))
  refine Run.opG wantS_none (ex_move rfl) rfl ?_
  refine Run.opG wantS_none (ex_len' rfl hs0 lenk22) rfl ?_
  refine Run.opG wantS_none (ex_move rfl) rfl ?_
  refine Run.opsEnd (Run.block (Run.loop ?_))
  exact Run.low (.cons (fle_pick [1, 3, 5] rfl) .nil) (Run.pick [0, 1, 7, 8] (search_clock_slide_1_ok F F a1 (a1.length : Int) (0 : Int) a1 a2 a0 s0 s0 b25 b22 _ _ _ hs0 hs0 hH26 h))

theorem mkk63 : makeK Try.prog 63 = none := by kernel_rfl
theorem cal63 : callable Try.prog 63 = true := by kernel_rfl
abbrev search_Slide_post (r : (List S_api_Trigger) × Int) : SV → Mem → Prop := fun s Me => ∃ q1, s = (.tuple [q1, (.int .i64 r.2)]) ∧ Has (fun _ => none) Me [.vec 76 3 r.1.length q1 (r.1.flatMap enc76)]

def search_Slide (F : Nat) (a0 : (List S_api_Trigger)) (a1 : Int) (a2 : Int) : Option ((List S_api_Trigger) × Int) :=
  bnd (search_clock_check F (S_search_clock.mk a1 0 a1) ([a0] : List (List S_api_Trigger))) fun r29 =>
  bif (!(r29 == (0 : Int))) then
    some (([] : List S_api_Trigger), r29)
  else
    bnd (search_isFrom F (0 : Int) a2 (w64 (a1 - (1 : Int)))) fun r35 =>
    bif (!r35) then
      some (([] : List S_api_Trigger), (8 : Int))
    else
      bnd (search_clock_slide F (S_search_clock.mk a1 0 a1) a0 a2) fun r42 =>
      some (r42, (0 : Int))

theorem search_Slide_ok (F : Nat) (a0 : (List S_api_Trigger)) (a1 : Int) (a2 : Int) (s0 : SV) (r : (List S_api_Trigger) × Int) (M : Mem) (hs0 : Slc (rd M) 3 (FlatR enc76) s0 a0) (h : search_Slide F a0 a1 a2 = some r) : CallsM Try.prog 23 [s0, (.int .i64 a1), (.int .i64 a2)] M (fun s M' => ∃ q1, s = (.tuple [q1, (.int .i64 r.2)]) ∧ New M M' [.vec 76 3 r.1.length q1 (r.1.flatMap enc76)]) := by
  refine CallsM.fresh (Q := search_Slide_post r) Try.func23 rfl rfl ?_ (by rintro s Me ⟨q1, rfl, hx⟩ ha hw; exact ⟨_, rfl, New.of rfl hx ha hw⟩)
  rw [search_Slide] at h
  replace hs0 := hs0.mono (rdLe_frozen M) (fun _ _ h => h)
  have hH := Has.nil (frozen M)
  refine Run.seq (Run.region ?_)
  refine Run.opG wantS_none (ex_assign rfl) rfl ?_
  refine Run.opG wantS_none (ex_assign rfl) rfl ?_
  refine Run.opsEnd (Run.seq (Run.region ?_))
  refine Run.opG wantS_none (ex_move rfl) rfl ?_
  refine Run.opG wantS_none (ex_move rfl) rfl ?_
  refine Run.opG wantS_none (ex_build (r := [(.int .i64 a1), (.int .i64 0), (.int .i64 a1)]) rfl zer87 pls87 rfl) rfl ?_
  refine Run.opX wantS_none rfl (ExG.new (v := fun b => .ptr b 0) (ex_alloc zer87) hH) ?_
  rintro _ M23 ⟨b22, rfl, (hH23 : Has (ro (frozen M)) M23 [.obj b22 (.row 87 .whole [(.int .i64 0), (.int .i64 0), (.int .i64 0)])])⟩
  refine Run.opX wantS_none rfl (ExG.storeC (c' := [(.int .i64 a1), (.int .i64 0), (.int .i64 a1)]) rfl rfl rfl hH23 (i := 0) rfl sz87 rfl rfl rfl rfl rfl) ?_
  rintro _ M24 ⟨rfl, (hH24 : Has (ro (frozen M)) M24 [.obj b22 (.row 87 .whole [(.int .i64 a1), (.int .i64 0), (.int .i64 a1)])])⟩
  refine Run.opsEnd (Run.seq (Run.seq (Run.region ?_)))
  refine Run.opG wantS_none (ex_loadA rfl (hH24.cells (i := 0) rfl 0 rfl) rdLe_rfl agg87 rfl rfl rfl) rfl ?_
  refine Run.opG wantS_none (ex_move rfl) rfl ?_
  have hr26 : Rows (rep22 (ro (frozen M))) 1 [s0] ([a0] : List (List S_api_Trigger)) := (Rows.cons (cs := [s0]) rfl ⟨s0, rfl, hs0⟩ Rows.nil)
  refine Run.opX wantS_none rfl (ExG.builtR (z := 1) (c := [s0]) rfl elt132 rfl (by simp only [fillS, cells_one (slc_one hs0)]; rfl) rfl hH24) ?_
  rintro s26 M27 (hH27 : Has (ro (frozen M)) M27 [.vec 22 1 ([a0] : List (List S_api_Trigger)).length s26 [s0], .obj b22 (.row 87 .whole [(.int .i64 a1), (.int .i64 0), (.int .i64 a1)])])
  obtain ⟨r29, hr29, h⟩ := bnd_some h
  refine Run.callP wantS_none (ex_call rfl mkk55 cal55) rfl (search_clock_check_ok F (S_search_clock.mk a1 0 a1) ([a0] : List (List S_api_Trigger)) s26 _ _ (((hH27.slcR (i := 0) rfl hr26)).mono (fun _ _ h => h) (fun _ _ => rep22_mo hH27.le)) hr29) ?_
  refine Run.opG wantS_none (ex_assign rfl) rfl ?_
  refine Run.opsEnd (Run.block (Run.seq (Run.region ?_)))
  refine Run.opG wantS_none (ex_move rfl) rfl ?_
  refine Run.opG wantS_none (ex_neq rfl rfl) rfl ?_
  refine Run.opG wantS_none (ex_assign rfl) rfl ?_
  refine Run.opsEnd ?_
  rcases btf ((!(r29 == (0 : Int)))) with hc31 | hc31
  · have h := bif_t hc31 h
    refine Run.condT' rfl hc31 ?_
    refine Run.seq (Run.region ?_)
    refine Run.opG wantS_none (ex_move rfl) rfl ?_
    refine Run.opG wantS_none (ex_assign rfl) rfl ?_
    refine Run.opG wantS_none (ex_assign rfl) rfl ?_
    refine Run.opsEnd ?_
    have hH33 : Has (ro (frozen M)) M27 [.vec 76 3 ([] : List S_api_Trigger).length .nils (([] : List S_api_Trigger).flatMap enc76), .vec 22 1 ([a0] : List (List S_api_Trigger)).length s26 [s0], .obj b22 (.row 87 .whole [(.int .i64 a1), (.int .i64 0), (.int .i64 a1)])] := hH27.nils 76 3
    cases h
    exact Run.ret Try.func23 rfl (res_tmp rfl (res_tmp rfl res_nil)) ⟨_, rfl, (hH33.pick [0] rfl rfl).upF (none_le _)⟩
  · have h := bif_f hc31 h
    refine Run.condF' rfl hc31 ?_
    refine Run.seq (Run.region ?_)
    refine Run.opG wantS_none (ex_move rfl) rfl ?_
    refine Run.opG wantS_none (ex_move rfl) rfl ?_
    refine Run.opG wantS_none (ex_sub rfl rfl) rfl ?_
    obtain ⟨r35, hr35, h⟩ := bnd_some h
    refine Run.callP wantS_none (ex_call rfl mkk62 cal62) rfl (search_isFrom_ok F (0 : Int) a2 (w64 (a1 - (1 : Int))) _ _ hr35) ?_
    refine Run.opG wantS_none (ex_not rfl) rfl ?_
    refine Run.opG wantS_none (ex_assign rfl) rfl ?_
    refine Run.opsEnd ?_
    rcases btf ((!r35)) with hc37 | hc37
    · have h := bif_t hc37 h
      refine Run.condT' rfl hc37 ?_
      refine Run.seq (Run.region ?_)
      refine Run.opG wantS_none (ex_assign rfl) rfl ?_
      refine Run.opG wantS_none (ex_assign rfl) rfl ?_
      refine Run.opsEnd ?_
      have hH39 : Has (ro (frozen M)) M27 [.vec 76 3 ([] : List S_api_Trigger).length .nils (([] : List S_api_Trigger).flatMap enc76), .vec 22 1 ([a0] : List (List S_api_Trigger)).length s26 [s0], .obj b22 (.row 87 .whole [(.int .i64 a1), (.int .i64 0), (.int .i64 a1)])] := hH27.nils 76 3
      cases h
      exact Run.ret Try.func23 rfl (res_tmp rfl (res_tmp rfl res_nil)) ⟨_, rfl, (hH39.pick [0] rfl rfl).upF (none_le _)⟩
    · have h := bif_f hc37 h
      refine Run.condF' rfl hc37 ?_
      refine Run.skip (Run.inBlock (Run.seq (Run.region ?_)))
      refine Run.opG wantS_none (ex_loadA rfl (hH27.cells (i := 1) rfl 0 rfl) rdLe_rfl agg87 rfl rfl rfl) rfl ?_
      refine Run.opG wantS_none (ex_move rfl) rfl ?_
      refine Run.opG wantS_none (ex_move rfl) rfl ?_
      obtain ⟨r42, hr42, h⟩ := bnd_some h
      refine Run.callX wantS_none (ex_call rfl mkk63 cal63) rfl (search_clock_slide_ok F (S_search_clock.mk a1 0 a1) a0 a2 s0 _ _ (hH27.slcF hs0) hr42) ?_
      rintro s42_0 M44 ⟨_, rfl, hN42⟩
      have hH44 : Has (ro (frozen M)) M44 [.vec 76 3 r42.length s42_0 (r42.flatMap enc76), .vec 22 1 ([a0] : List (List S_api_Trigger)).length s26 [s0], .obj b22 (.row 87 .whole [(.int .i64 a1), (.int .i64 0), (.int .i64 a1)])] := hN42.1 _ _ hH27
      refine Run.opG wantS_none (ex_assign rfl) rfl ?_
      refine Run.opG wantS_none (ex_assign rfl) rfl ?_
      refine Run.opsEnd ?_
      cases h
      exact Run.ret Try.func23 rfl (res_tmp rfl (res_tmp rfl res_nil)) ⟨_, rfl, (hH44.pick [0] rfl rfl).upF (none_le _)⟩

theorem mkk23 : makeK Try.prog 23 = none := by kernel_rfl
theorem cal23 : callable Try.prog 23 = true := by kernel_rfl
theorem zer93 : zerosOf Try.prog 93 = some [(.int .i64 0), (.int .i64 0), (.int .i64 0)] := by kernel_rfl
theorem pls93 : placesOf Try.prog 93 = some (.st [(0, 1), (1, 1), (2, 1)]) := by kernel_rfl
structure S_ringdownref08_Clock where
  Live : Int
  Window : Int
  Step : Int

abbrev ref00_In_post (r : Bool) : SV → Mem → Prop := fun s _ => s = (.bool r)

def ref00_In_1 (F : Nat) (v14 : Bool) : Option (Bool) :=
  some v14

theorem ref00_In_1_ok (F : Nat) : ∀ (v14 : Bool) (Fr : Rd) (M : Mem) (r : Bool) (hH : Has Fr M []), ref00_In_1 F v14 = some r → Run Try.prog ⟨⟨49, [], none⟩, []⟩ 15 (ref00_In_post r) [(14, (.bool v14))] [itemC Try.prog 49 [1, 0] 8, codeC Try.prog 49 [1, 1]] M := by
  intro v14 Fr M r hH h
  rw [ref00_In_1] at h
  refine Run.opG wantS_none (ex_assign rfl) rfl ?_
  refine Run.opsEnd ?_
  cases h
  exact Run.ret Try.func49 rfl (res_tmp rfl res_nil) rfl

def ref00_In (F : Nat) (a0 : Int) (a1 : Int) (a2 : Int) : Option (Bool) :=
  bif (decide (a1 ≤ a0)) then
    ref00_In_1 F (decide (a0 ≤ a2))
  else
    ref00_In_1 F false

theorem ref00_In_ok (F : Nat) (a0 : Int) (a1 : Int) (a2 : Int) (r : Bool) (M : Mem) (h : ref00_In F a0 a1 a2 = some r) : CallsM Try.prog 49 [(.int .i64 a0), (.int .i64 a1), (.int .i64 a2)] M (fun s M' => s = (.bool r) ∧ M' = M) := by
  refine CallsM.plain Try.func49 rfl rfl rfl (show Run _ _ _ (ref00_In_post r) _ _ _ from ?_)
  rw [ref00_In] at h
  have hH := Has.nil (frozen M)
  refine Run.seq (Run.region ?_)
  refine Run.opG wantS_none (ex_assign rfl) rfl ?_
  refine Run.opsEnd (Run.seq (Run.region ?_))
  refine Run.opG wantS_none (ex_move rfl) rfl ?_
  refine Run.opG wantS_none (ex_move rfl) rfl ?_
  refine Run.opG wantS_none (ex_leq rfl rfl) rfl ?_
  refine Run.opG wantS_none (ex_move rfl) rfl ?_
  rcases btf ((decide (a1 ≤ a0))) with hc21 | hc21
  · have h := bif_t hc21 h
    refine Run.opG (wantS_yes' rfl rfl hc21) (ex_move rfl) rfl ?_
    refine Run.opG (wantS_yes' rfl rfl hc21) (ex_move rfl) rfl ?_
    refine Run.opG (wantS_yes' rfl rfl hc21) (ex_leq rfl rfl) rfl ?_
    refine Run.opG wantS_none (ex_pickT' rfl hc21 rfl rfl) rfl ?_
    exact Run.pick [14] (ref00_In_1_ok F (decide (a0 ≤ a2)) _ _ _ hH h)
  · have h := bif_f hc21 h
    refine Run.no (wantS_not' rfl rfl hc21) rfl ?_
    refine Run.no (wantS_not' rfl rfl hc21) rfl ?_
    refine Run.no (wantS_not' rfl rfl hc21) rfl ?_
    refine Run.opG wantS_none (ex_pickF' rfl hc21 rfl rfl) rfl ?_
    exact Run.pick [14] (ref00_In_1_ok F false _ _ _ hH h)

theorem mkk49 : makeK Try.prog 49 = none := by kernel_rfl
theorem cal49 : callable Try.prog 49 = true := by kernel_rfl
theorem plan16_1_1_0_1_0_0_1_0_0_1_0 : planOf Try.prog (opsC (atC Try.prog 16 [1, 1, 0, 1, 0, 0, 1, 0, 0, 1, 0])) = some [.fl 0, .fl 1, .an 2 [], .fl 3, .fl 4, .fl 5, .fl 6, .an 7 [], .fl 8, .fl 9, .fl 10, .fl 11, .fl 12, .an 13 [], .fl 14, .fl 15, .fl 16, .fl 17, .fl 18, .fl 19, .fl 20, .fl 21, .fl 22, .fl 23, .fl 24, .fl 25, .fl 26, .fl 27, .fl 28, .fl 29, .fl 30, .sync] := by kernel_rfl
abbrev ref08_CheckTriggers_post (r : Int) : SV → Mem → Prop := fun s _ => s = (.int .i64 r)

def ref08_CheckTriggers_2 (F : Nat) (hd1 : (List S_api_Trigger) → Int → Option (Int)) (v0 : (List S_api_Trigger)) (v3 : Int) (v48 : Bool) : Option (Int) :=
  bif v48 then
    some (80 : Int)
  else
    hd1 v0 (w64 (v3 + (1 : Int)))

theorem ref08_CheckTriggers_2_ok (F : Nat) (hd1 : (List S_api_Trigger) → Int → Option (Int)) (hhd1 : ∀ (v0 : (List S_api_Trigger)) (v3 : Int) (sv0 : SV) (Fr : Rd) (M : Mem) (r : Int) (hv0 : Slc Fr 3 (FlatR enc76) sv0 v0) (hH : Has Fr M []), hd1 v0 v3 = some r → Run Try.prog ⟨⟨16, [], none⟩, []⟩ 49 (ref08_CheckTriggers_post r) [(0, sv0), (3, (.int .i64 v3))] [codeC Try.prog 16 [1, 1, 0, 1, 0, 0], loopC Try.prog 16 [1, 1, 0, 1, 0, 0], .inBlock 0, codeC Try.prog 16 [1, 1, 1]] M) : ∀ (v0 : (List S_api_Trigger)) (v3 : Int) (v48 : Bool) (sv0 : SV) (Fr : Rd) (M : Mem) (r : Int) (hv0 : Slc Fr 3 (FlatR enc76) sv0 v0) (hH : Has Fr M []), ref08_CheckTriggers_2 F hd1 v0 v3 v48 = some r → Run Try.prog ⟨⟨16, [], none⟩, []⟩ 49 (ref08_CheckTriggers_post r) [(0, sv0), (3, (.int .i64 v3)), (48, (.bool v48))] [codeC Try.prog 16 [1, 1, 0, 1, 0, 0, 1, 0, 0, 1, 1], .inBlock 1, codeC Try.prog 16 [1, 1, 0, 1, 0, 0, 1, 1], loopC Try.prog 16 [1, 1, 0, 1, 0, 0], .inBlock 0, codeC Try.prog 16 [1, 1, 1]] M := by
  intro v0 v3 v48 sv0 Fr M r hv0 hH h
  rw [ref08_CheckTriggers_2] at h
  rcases btf (v48) with hc32 | hc32
  · have h := bif_t hc32 h
    refine Run.condT' rfl hc32 ?_
    refine Run.seq (Run.region ?_)
    refine Run.opG wantS_none (ex_assign rfl) rfl ?_
    refine Run.opsEnd ?_
    cases h
    exact Run.ret Try.func16 rfl (res_tmp rfl res_nil) rfl
  · have h := bif_f hc32 h
    refine Run.condF' rfl hc32 ?_
    refine Run.skip (Run.inBlock (Run.region ?_))
    refine Run.opG wantS_none (ex_move rfl) rfl ?_
    refine Run.opG wantS_none (ex_add rfl rfl) rfl ?_
    refine Run.opG wantS_none (ex_assign rfl) rfl ?_
    refine Run.opsEnd (Run.inLoop ?_)
    exact Run.pick [0, 3] (hhd1 v0 (w64 (v3 + (1 : Int))) sv0 _ _ _ hv0 hH h)

def ref08_CheckTriggers_1 (F : Nat) : Nat → (List S_api_Trigger) → Int → Option (Int)
  | 0, _, _ => none
  | N + 1, v0, v3 =>
    bif (decide (v3 < (v0.length : Int))) then
      bnd (idx v0 v3) fun x24 =>
      bnd (ref00_In F x24.Time (0 : Int) (1073741823 : Int)) fun r29 =>
      bif (!r29) then
        ref08_CheckTriggers_2 F (ref08_CheckTriggers_1 F N) v0 v3 true
      else
        bnd (ref00_In F x24.Loud (0 : Int) (1073741824 : Int)) fun r33 =>
        bif (!r33) then
          ref08_CheckTriggers_2 F (ref08_CheckTriggers_1 F N) v0 v3 true
        else
          bnd (ref00_In F x24.Template (0 : Int) (255 : Int)) fun r36 =>
          bif (!r36) then
            ref08_CheckTriggers_2 F (ref08_CheckTriggers_1 F N) v0 v3 true
          else
            bif (decide ((0 : Int) < v3)) then
              bnd (idx v0 (w64 (v3 - (1 : Int)))) fun x40 =>
              ref08_CheckTriggers_2 F (ref08_CheckTriggers_1 F N) v0 v3 (decide (x24.Time ≤ x40.Time))
            else
              ref08_CheckTriggers_2 F (ref08_CheckTriggers_1 F N) v0 v3 false
    else
      some (0 : Int)

theorem ref08_CheckTriggers_1_ok (F : Nat) : ∀ (N : Nat), ∀ (v0 : (List S_api_Trigger)) (v3 : Int) (sv0 : SV) (Fr : Rd) (M : Mem) (r : Int) (hv0 : Slc Fr 3 (FlatR enc76) sv0 v0) (hH : Has Fr M []), ref08_CheckTriggers_1 F N v0 v3 = some r → Run Try.prog ⟨⟨16, [], none⟩, []⟩ 49 (ref08_CheckTriggers_post r) [(0, sv0), (3, (.int .i64 v3))] [codeC Try.prog 16 [1, 1, 0, 1, 0, 0], loopC Try.prog 16 [1, 1, 0, 1, 0, 0], .inBlock 0, codeC Try.prog 16 [1, 1, 1]] M := by
  intro N
  induction N with
  | zero =>
    intro v0 v3 sv0 Fr M r hv0 hH h
    simp [ref08_CheckTriggers_1] at h
  | succ N ih =>
    intro v0 v3 sv0 Fr M r hv0 hH h
    rw [ref08_CheckTriggers_1] at h
    refine Run.seq (Run.seq (Run.region ?_))
    refine Run.opG wantS_none (ex_move rfl) rfl ?_
    refine Run.opG wantS_none (ex_move rfl) rfl ?_
    refine Run.opG wantS_none (ex_len' rfl hv0 lenk22) rfl ?_
    refine Run.opG wantS_none (ex_lss rfl rfl) rfl ?_
    refine Run.opsEnd ?_
    rcases btf ((decide (v3 < (v0.length : Int)))) with hc22 | hc22
    · have h := bif_t hc22 h
      refine Run.condT' rfl hc22 ?_
      refine Run.skip (Run.seq (Run.block (Run.seq (Run.region ?_))))
      refine Run.opG wantS_none (ex_move rfl) rfl ?_
      refine Run.opG wantS_none (ex_move rfl) rfl ?_
      obtain ⟨x24, hx24, h⟩ := bnd_some h
      obtain ⟨p24, o24, _, hx24, hp24, rfl⟩ := sl_elem (P := Try.prog) (t := 22) (kk := .i64) hv0 hx24 els22
      refine Run.opG wantS_none (ex_elX rfl rfl hx24) rfl ?_
      refine Run.opG wantS_none (ex_loadA rfl (hH.ptrF hp24) rdLe_rfl agg76 rfl rfl rfl) rfl ?_
      refine Run.opX wantS_none rfl (ExG.new (v := fun b => .ptr b 0) (ex_alloc zer76) hH) ?_
      rintro _ M27 ⟨b26, rfl, (hH27 : Has Fr M27 [.obj b26 (.row 76 .whole [(.int .i64 0), (.int .i64 0), (.int .i64 0)])])⟩
      refine Run.opX wantS_none rfl (ExG.storeC (c' := [(.int .i64 x24.Time), (.int .i64 x24.Loud), (.int .i64 x24.Template)]) rfl rfl rfl hH27 (i := 0) rfl sz76 rfl rfl rfl rfl rfl) ?_
      rintro _ M28 ⟨rfl, (hH28 : Has Fr M28 [.obj b26 (.row 76 .whole [(.int .i64 x24.Time), (.int .i64 x24.Loud), (.int .i64 x24.Template)])])⟩
      refine Run.opsEnd (Run.seq ?_)
      refine Run.drawG plan16_1_1_0_1_0_0_1_0_0_1_0 ?_
      refine DrawG.fl rfl (ev_ex wantS_none (ex_fieldAddr rfl off76_0)) rfl ?_
      refine DrawG.fl rfl (ev_ex wantS_none (ex_load1 rfl (hH28.cells (i := 0) rfl 0 rfl) rdLe_rfl agg3)) rfl ?_
      obtain ⟨r29, hr29, h⟩ := bnd_some h
      refine DrawG.callP rfl wantS_none (ex_call rfl mkk49 cal49) rfl (ref00_In_ok F x24.Time (0 : Int) (1073741823 : Int) _ _ hr29) st_nil ?_
      refine DrawG.fl rfl (ev_ex wantS_none (ex_not rfl)) rfl ?_
      refine DrawG.fl rfl (ev_ex wantS_none (ex_move rfl)) rfl ?_
      rcases btf ((!r29)) with hc31 | hc31
      · have h := bif_t hc31 h
        refine DrawG.fl rfl (ev_no (wantS_not' rfl rfl hc31)) rfl ?_
        refine DrawG.fl rfl (ev_no (wantS_not' rfl rfl hc31)) rfl ?_
        refine DrawG.no rfl (wantS_not' rfl rfl hc31) rfl st_nil ?_
        refine DrawG.fl rfl (ev_no (wantS_not' rfl rfl hc31)) rfl ?_
        refine DrawG.fl rfl (ev_ex wantS_none (ex_pickT' rfl hc31 rfl rfl)) rfl ?_
        refine DrawG.fl rfl (ev_ex wantS_none (ex_move rfl)) rfl ?_
        refine DrawG.fl rfl (ev_no (wantS_not' rfl rfl rfl)) rfl ?_
        refine DrawG.fl rfl (ev_no (wantS_not' rfl rfl rfl)) rfl ?_
        refine DrawG.no rfl (wantS_not' rfl rfl rfl) rfl st_nil ?_
        refine DrawG.fl rfl (ev_no (wantS_not' rfl rfl rfl)) rfl ?_
        refine DrawG.fl rfl (ev_ex wantS_none (ex_pickT' rfl rfl rfl rfl)) rfl ?_
        refine DrawG.fl rfl (ev_ex wantS_none (ex_move rfl)) rfl ?_
        refine DrawG.fl rfl (ev_no (wantS_not' rfl rfl rfl)) rfl ?_
        refine DrawG.fl rfl (ev_no (wantS_not' rfl rfl rfl)) rfl ?_
        refine DrawG.fl rfl (ev_no (wantS_not' rfl rfl rfl)) rfl ?_
        refine DrawG.fl rfl (ev_no (wantS_skip rfl rfl)) rfl ?_
        refine DrawG.fl rfl (ev_no (wantS_skip rfl rfl)) rfl ?_
        refine DrawG.fl rfl (ev_no (wantS_skip rfl rfl)) rfl ?_
        refine DrawG.fl rfl (ev_no (wantS_skip rfl rfl)) rfl ?_
        refine DrawG.fl rfl (ev_no (wantS_skip rfl rfl)) rfl ?_
        refine DrawG.fl rfl (ev_no (wantS_skip rfl rfl)) rfl ?_
        refine DrawG.fl rfl (ev_no (wantS_skip rfl rfl)) rfl ?_
        refine DrawG.fl rfl (ev_no (wantS_skip rfl rfl)) rfl ?_
        refine DrawG.fl rfl (ev_no (wantS_skip rfl rfl)) rfl ?_
        refine DrawG.fl rfl (ev_no (wantS_not' rfl rfl rfl)) rfl ?_
        refine DrawG.fl rfl (ev_ex wantS_none (ex_pickT' rfl rfl rfl rfl)) rfl ?_
        refine DrawG.sync ?_
        refine DrawG.nil ?_
        exact Run.pick [0, 3, 48] (ref08_CheckTriggers_2_ok F (ref08_CheckTriggers_1 F N) ih v0 v3 true sv0 _ _ _ hv0 (hH28.pick [] rfl rfl) h)
      · have h := bif_f hc31 h
        refine DrawG.fl rfl (ev_ex (wantS_yes' rfl rfl hc31) (ex_fieldAddr rfl off76_1)) rfl ?_
        refine DrawG.fl rfl (ev_ex (wantS_yes' rfl rfl hc31) (ex_load1 rfl (hH28.cells (i := 0) rfl 1 rfl) rdLe_rfl agg3)) rfl ?_
        obtain ⟨r33, hr33, h⟩ := bnd_some h
        refine DrawG.callP rfl (wantS_yes' rfl rfl hc31) (ex_call rfl mkk49 cal49) rfl (ref00_In_ok F x24.Loud (0 : Int) (1073741824 : Int) _ _ hr33) st_nil ?_
        refine DrawG.fl rfl (ev_ex (wantS_yes' rfl rfl hc31) (ex_not rfl)) rfl ?_
        refine DrawG.fl rfl (ev_ex wantS_none (ex_pickF' rfl hc31 rfl rfl)) rfl ?_
        refine DrawG.fl rfl (ev_ex wantS_none (ex_move rfl)) rfl ?_
        rcases btf ((!r33)) with hc35 | hc35
        · have h := bif_t hc35 h
          refine DrawG.fl rfl (ev_no (wantS_not' rfl rfl hc35)) rfl ?_
          refine DrawG.fl rfl (ev_no (wantS_not' rfl rfl hc35)) rfl ?_
          refine DrawG.no rfl (wantS_not' rfl rfl hc35) rfl st_nil ?_
          refine DrawG.fl rfl (ev_no (wantS_not' rfl rfl hc35)) rfl ?_
          refine DrawG.fl rfl (ev_ex wantS_none (ex_pickT' rfl hc35 rfl rfl)) rfl ?_
          refine DrawG.fl rfl (ev_ex wantS_none (ex_move rfl)) rfl ?_
          refine DrawG.fl rfl (ev_no (wantS_not' rfl rfl rfl)) rfl ?_
          refine DrawG.fl rfl (ev_no (wantS_not' rfl rfl rfl)) rfl ?_
          refine DrawG.fl rfl (ev_no (wantS_not' rfl rfl rfl)) rfl ?_
          refine DrawG.fl rfl (ev_no (wantS_skip rfl rfl)) rfl ?_
          refine DrawG.fl rfl (ev_no (wantS_skip rfl rfl)) rfl ?_
          refine DrawG.fl rfl (ev_no (wantS_skip rfl rfl)) rfl ?_
          refine DrawG.fl rfl (ev_no (wantS_skip rfl rfl)) rfl ?_
          refine DrawG.fl rfl (ev_no (wantS_skip rfl rfl)) rfl ?_
          refine DrawG.fl rfl (ev_no (wantS_skip rfl rfl)) rfl ?_
          refine DrawG.fl rfl (ev_no (wantS_skip rfl rfl)) rfl ?_
          refine DrawG.fl rfl (ev_no (wantS_skip rfl rfl)) rfl ?_
          refine DrawG.fl rfl (ev_no (wantS_skip rfl rfl)) rfl ?_
          refine DrawG.fl rfl (ev_no (wantS_not' rfl rfl rfl)) rfl ?_
          refine DrawG.fl rfl (ev_ex wantS_none (ex_pickT' rfl rfl rfl rfl)) rfl ?_
          refine DrawG.sync ?_
          refine DrawG.nil ?_
          exact Run.pick [0, 3, 48] (ref08_CheckTriggers_2_ok F (ref08_CheckTriggers_1 F N) ih v0 v3 true sv0 _ _ _ hv0 (hH28.pick [] rfl rfl) h)
        · have h := bif_f hc35 h
          refine DrawG.fl rfl (ev_ex (wantS_yes' rfl rfl hc35) (ex_fieldAddr rfl off76_2)) rfl ?_
          refine DrawG.fl rfl (ev_ex (wantS_yes' rfl rfl hc35) (ex_load1 rfl (hH28.cells (i := 0) rfl 2 rfl) rdLe_rfl agg3)) rfl ?_
          obtain ⟨r36, hr36, h⟩ := bnd_some h
          refine DrawG.callP rfl (wantS_yes' rfl rfl hc35) (ex_call rfl mkk49 cal49) rfl (ref00_In_ok F x24.Template (0 : Int) (255 : Int) _ _ hr36) st_nil ?_
          refine DrawG.fl rfl (ev_ex (wantS_yes' rfl rfl hc35) (ex_not rfl)) rfl ?_
          refine DrawG.fl rfl (ev_ex wantS_none (ex_pickF' rfl hc35 rfl rfl)) rfl ?_
          refine DrawG.fl rfl (ev_ex wantS_none (ex_move rfl)) rfl ?_
          rcases btf ((!r36)) with hc38 | hc38
          · have h := bif_t hc38 h
            refine DrawG.fl rfl (ev_no (wantS_not' rfl rfl hc38)) rfl ?_
            refine DrawG.fl rfl (ev_no (wantS_not' rfl rfl hc38)) rfl ?_
            refine DrawG.fl rfl (ev_no (wantS_not' rfl rfl hc38)) rfl ?_
            refine DrawG.fl rfl (ev_no (wantS_skip rfl rfl)) rfl ?_
            refine DrawG.fl rfl (ev_no (wantS_skip rfl rfl)) rfl ?_
            refine DrawG.fl rfl (ev_no (wantS_skip rfl rfl)) rfl ?_
            refine DrawG.fl rfl (ev_no (wantS_skip rfl rfl)) rfl ?_
            refine DrawG.fl rfl (ev_no (wantS_skip rfl rfl)) rfl ?_
            refine DrawG.fl rfl (ev_no (wantS_skip rfl rfl)) rfl ?_
            refine DrawG.fl rfl (ev_no (wantS_skip rfl rfl)) rfl ?_
            refine DrawG.fl rfl (ev_no (wantS_skip rfl rfl)) rfl ?_
            refine DrawG.fl rfl (ev_no (wantS_skip rfl rfl)) rfl ?_
            refine DrawG.fl rfl (ev_no (wantS_not' rfl rfl hc38)) rfl ?_
            refine DrawG.fl rfl (ev_ex wantS_none (ex_pickT' rfl hc38 rfl rfl)) rfl ?_
            refine DrawG.sync ?_
            refine DrawG.nil ?_
            exact Run.pick [0, 3, 48] (ref08_CheckTriggers_2_ok F (ref08_CheckTriggers_1 F N) ih v0 v3 true sv0 _ _ _ hv0 (hH28.pick [] rfl rfl) h)
          · have h := bif_f hc38 h
            refine DrawG.fl rfl (ev_ex (wantS_yes' rfl rfl hc38) (ex_move rfl)) rfl ?_
            refine DrawG.fl rfl (ev_ex (wantS_yes' rfl rfl hc38) (ex_gtr rfl rfl)) rfl ?_
            refine DrawG.fl rfl (ev_ex (wantS_yes' rfl rfl hc38) (ex_move rfl)) rfl ?_
            rcases btf ((decide ((0 : Int) < v3))) with hc39 | hc39
            · have h := bif_t hc39 h
              refine DrawG.fl rfl (ev_ex (wantS_yes' rfl rfl hc39) (ex_move rfl)) rfl ?_
              refine DrawG.fl rfl (ev_ex (wantS_yes' rfl rfl hc39) (ex_move rfl)) rfl ?_
              refine DrawG.fl rfl (ev_ex (wantS_yes' rfl rfl hc39) (ex_sub rfl rfl)) rfl ?_
              obtain ⟨x40, hx40, h⟩ := bnd_some h
              obtain ⟨p40, o40, _, hx40, hp40, rfl⟩ := sl_elem (P := Try.prog) (t := 22) (kk := .i64) hv0 hx40 els22
              refine DrawG.fl rfl (ev_ex (wantS_yes' rfl rfl hc39) (ex_elX rfl rfl hx40)) rfl ?_
              have hp41 := (hp40.fld (o := 0) rfl)
              refine DrawG.fl rfl (ev_ex (wantS_yes' rfl rfl hc39) (ex_fieldAddr rfl off76_0)) rfl ?_
              refine DrawG.fl rfl (ev_ex (wantS_yes' rfl rfl hc39) (ex_load1 rfl (hH28.ptrF hp41) rdLe_rfl agg3)) rfl ?_
              refine DrawG.fl rfl (ev_ex (wantS_yes' rfl rfl hc39) (ex_fieldAddr rfl off76_0)) rfl ?_
              refine DrawG.fl rfl (ev_ex (wantS_yes' rfl rfl hc39) (ex_load1 rfl (hH28.cells (i := 0) rfl 0 rfl) rdLe_rfl agg3)) rfl ?_
              refine DrawG.fl rfl (ev_ex (wantS_yes' rfl rfl hc39) (ex_geq rfl rfl)) rfl ?_
              refine DrawG.fl rfl (ev_ex (wantS_yes' rfl rfl hc38) (ex_pickT' rfl hc39 rfl rfl)) rfl ?_
              refine DrawG.fl rfl (ev_ex wantS_none (ex_pickF' rfl hc38 rfl rfl)) rfl ?_
              refine DrawG.sync ?_
              refine DrawG.nil ?_
              exact Run.pick [0, 3, 48] (ref08_CheckTriggers_2_ok F (ref08_CheckTriggers_1 F N) ih v0 v3 (decide (x24.Time ≤ x40.Time)) sv0 _ _ _ hv0 (hH28.pick [] rfl rfl) h)
            · have h := bif_f hc39 h
              refine DrawG.fl rfl (ev_no (wantS_not' rfl rfl hc39)) rfl ?_
              refine DrawG.fl rfl (ev_no (wantS_not' rfl rfl hc39)) rfl ?_
              refine DrawG.fl rfl (ev_no (wantS_not' rfl rfl hc39)) rfl ?_
              refine DrawG.fl rfl (ev_no (wantS_not' rfl rfl hc39)) rfl ?_
              refine DrawG.fl rfl (ev_no (wantS_not' rfl rfl hc39)) rfl ?_
              refine DrawG.fl rfl (ev_no (wantS_not' rfl rfl hc39)) rfl ?_
              refine DrawG.fl rfl (ev_no (wantS_not' rfl rfl hc39)) rfl ?_
              refine DrawG.fl rfl (ev_no (wantS_not' rfl rfl hc39)) rfl ?_
              refine DrawG.fl rfl (ev_no (wantS_not' rfl rfl hc39)) rfl ?_
              refine DrawG.fl rfl (ev_ex (wantS_yes' rfl rfl hc38) (ex_pickF' rfl hc39 rfl rfl)) rfl ?_
              refine DrawG.fl rfl (ev_ex wantS_none (ex_pickF' rfl hc38 rfl rfl)) rfl ?_
              refine DrawG.sync ?_
              refine DrawG.nil ?_
              exact Run.pick [0, 3, 48] (ref08_CheckTriggers_2_ok F (ref08_CheckTriggers_1 F N) ih v0 v3 false sv0 _ _ _ hv0 (hH28.pick [] rfl rfl) h)
    · have h := bif_f hc22 h
      refine Run.condF' rfl hc22 ?_
      refine Run.exit rfl (Run.seq (Run.region ?_))
      refine Run.opG wantS_none (ex_assign rfl) rfl ?_
      refine Run.opsEnd ?_
      cases h
      exact Run.ret Try.func16 rfl (res_tmp rfl res_nil) rfl

def ref08_CheckTriggers (F : Nat) (a0 : (List S_api_Trigger)) : Option (Int) :=
  bif (decide ((256 : Int) < (a0.length : Int))) then
    some (80 : Int)
  else
    ref08_CheckTriggers_1 F F a0 (0 : Int)

theorem ref08_CheckTriggers_ok (F : Nat) (a0 : (List S_api_Trigger)) (s0 : SV) (r : Int) (M : Mem) (hs0 : Slc (rd M) 3 (FlatR enc76) s0 a0) (h : ref08_CheckTriggers F a0 = some r) : CallsM Try.prog 16 [s0] M (fun s M' => s = (.int .i64 r) ∧ M' = M) := by
  refine CallsM.plain Try.func16 rfl rfl rfl (show Run _ _ _ (ref08_CheckTriggers_post r) _ _ _ from ?_)
  rw [ref08_CheckTriggers] at h
  replace hs0 := hs0.mono (rdLe_frozen M) (fun _ _ h => h)
  have hH := Has.nil (frozen M)
  refine Run.seq (Run.region ?_)
  refine Run.opG wantS_none (ex_assign rfl) rfl ?_
  refine Run.opsEnd (Run.seq (Run.seq (Run.region ?_)))
  refine Run.opG wantS_none (ex_move rfl) rfl ?_
  refine Run.opG wantS_none (ex_len' rfl hs0 lenk22) rfl ?_
  refine Run.opG wantS_none (ex_gtr rfl rfl) rfl ?_
  refine Run.opsEnd ?_
  rcases btf ((decide ((256 : Int) < (a0.length : Int)))) with hc21 | hc21
  · have h := bif_t hc21 h
    refine Run.condT' rfl hc21 ?_
    refine Run.seq (Run.region ?_)
    refine Run.opG wantS_none (ex_assign rfl) rfl ?_
    refine Run.opsEnd ?_
    cases h
    exact Run.ret Try.func16 rfl (res_tmp rfl res_nil) rfl
  · have h := bif_f hc21 h
    refine Run.condF' rfl hc21 ?_
    refine Run.skip (Run.seq (Run.seq (Run.region ?_)))
    refine Run.opG wantS_none (ex_assign rfl) rfl ?_
    refine Run.opsEnd (Run.block (Run.loop ?_))
    exact Run.pick [0, 3] (ref08_CheckTriggers_1_ok F F a0 (0 : Int) s0 _ _ _ hs0 hH h)

theorem mkk16 : makeK Try.prog 16 = none := by kernel_rfl
theorem cal16 : callable Try.prog 16 = true := by kernel_rfl
theorem agg93 : aggSize Try.prog 93 = some (some 3) := by kernel_rfl
theorem off93_0 : fieldOff Try.prog 93 0 = some 0 := by kernel_rfl
theorem off93_1 : fieldOff Try.prog 93 1 = some 1 := by kernel_rfl
theorem off93_2 : fieldOff Try.prog 93 2 = some 2 := by kernel_rfl
abbrev ref08_clock_post (r : Bool) : SV → Mem → Prop := fun s _ => s = (.bool r)

def ref08_clock_4 (F : Nat) (v36 : Bool) : Option (Bool) :=
  some v36

theorem ref08_clock_4_ok (F : Nat) : ∀ (v36 : Bool) (Fr : Rd) (M : Mem) (r : Bool) (hH : Has Fr M []), ref08_clock_4 F v36 = some r → Run Try.prog ⟨⟨107, [], none⟩, []⟩ 37 (ref08_clock_post r) [(36, (.bool v36))] [itemC Try.prog 107 [1, 0] 34, codeC Try.prog 107 [1, 1]] M := by
  intro v36 Fr M r hH h
  rw [ref08_clock_4] at h
  refine Run.opG wantS_none (ex_assign rfl) rfl ?_
  refine Run.opsEnd ?_
  cases h
  exact Run.ret Try.func107 rfl (res_tmp rfl res_nil) rfl

def ref08_clock_3 (F : Nat) (v28 : Bool) (c22 : S_ringdownref08_Clock) : Option (Bool) :=
  bif v28 then
    bnd (nz c22.Step) fun z40 =>
    ref08_clock_4 F (decide ((w64 (Int.tdiv c22.Live c22.Step)) ≤ (256 : Int)))
  else
    ref08_clock_4 F false

theorem ref08_clock_3_ok (F : Nat) : ∀ (v28 : Bool) (c22 : S_ringdownref08_Clock) (b22 : Pos) (Fr : Rd) (M : Mem) (r : Bool) (hH : Has Fr M [.obj b22 (.row 93 .whole [(.int .i64 c22.Live), (.int .i64 c22.Window), (.int .i64 c22.Step)])]), ref08_clock_3 F v28 c22 = some r → Run Try.prog ⟨⟨107, [], none⟩, []⟩ 37 (ref08_clock_post r) [(1, (.ptr b22 0)), (28, (.bool v28))] [itemC Try.prog 107 [1, 0] 26, codeC Try.prog 107 [1, 1]] M := by
  intro v28 c22 b22 Fr M r hH h
  rw [ref08_clock_3] at h
  refine Run.opG wantS_none (ex_move rfl) rfl ?_
  rcases btf (v28) with hc38 | hc38
  · have h := bif_t hc38 h
    refine Run.opG (wantS_yes' rfl rfl hc38) (ex_fieldAddr rfl off93_0) rfl ?_
    refine Run.opG (wantS_yes' rfl rfl hc38) (ex_load1 rfl (hH.cells (i := 0) rfl 0 rfl) rdLe_rfl agg3) rfl ?_
    refine Run.opG (wantS_yes' rfl rfl hc38) (ex_fieldAddr rfl off93_2) rfl ?_
    refine Run.opG (wantS_yes' rfl rfl hc38) (ex_load1 rfl (hH.cells (i := 0) rfl 2 rfl) rdLe_rfl agg3) rfl ?_
    obtain ⟨z40, hz40, h⟩ := bnd_some h
    refine Run.opG (wantS_yes' rfl rfl hc38) (ex_quo' rfl rfl hz40) rfl ?_
    refine Run.opG (wantS_yes' rfl rfl hc38) (ex_leq rfl rfl) rfl ?_
    refine Run.opG wantS_none (ex_pickT' rfl hc38 rfl rfl) rfl ?_
    exact Run.pick [36] (ref08_clock_4_ok F (decide ((w64 (Int.tdiv c22.Live c22.Step)) ≤ (256 : Int))) _ _ _ (hH.pick [] rfl rfl) h)
  · have h := bif_f hc38 h
    refine Run.no (wantS_not' rfl rfl hc38) rfl ?_
    refine Run.no (wantS_not' rfl rfl hc38) rfl ?_
    refine Run.no (wantS_not' rfl rfl hc38) rfl ?_
    refine Run.no (wantS_not' rfl rfl hc38) rfl ?_
    refine Run.no (wantS_not' rfl rfl hc38) rfl ?_
    refine Run.no (wantS_not' rfl rfl hc38) rfl ?_
    refine Run.opG wantS_none (ex_pickF' rfl hc38 rfl rfl) rfl ?_
    exact Run.pick [36] (ref08_clock_4_ok F false _ _ _ (hH.pick [] rfl rfl) h)

def ref08_clock_2 (F : Nat) (v20 : Bool) (c22 : S_ringdownref08_Clock) : Option (Bool) :=
  bif v20 then
    bnd (nz c22.Step) fun z37 =>
    ref08_clock_3 F ((Int.tmod c22.Live c22.Step) == (0 : Int)) c22
  else
    ref08_clock_3 F false c22

theorem ref08_clock_2_ok (F : Nat) : ∀ (v20 : Bool) (c22 : S_ringdownref08_Clock) (b22 : Pos) (Fr : Rd) (M : Mem) (r : Bool) (hH : Has Fr M [.obj b22 (.row 93 .whole [(.int .i64 c22.Live), (.int .i64 c22.Window), (.int .i64 c22.Step)])]), ref08_clock_2 F v20 c22 = some r → Run Try.prog ⟨⟨107, [], none⟩, []⟩ 37 (ref08_clock_post r) [(1, (.ptr b22 0)), (20, (.bool v20))] [itemC Try.prog 107 [1, 0] 18, codeC Try.prog 107 [1, 1]] M := by
  intro v20 c22 b22 Fr M r hH h
  rw [ref08_clock_2] at h
  refine Run.opG wantS_none (ex_move rfl) rfl ?_
  rcases btf (v20) with hc35 | hc35
  · have h := bif_t hc35 h
    refine Run.opG (wantS_yes' rfl rfl hc35) (ex_fieldAddr rfl off93_0) rfl ?_
    refine Run.opG (wantS_yes' rfl rfl hc35) (ex_load1 rfl (hH.cells (i := 0) rfl 0 rfl) rdLe_rfl agg3) rfl ?_
    refine Run.opG (wantS_yes' rfl rfl hc35) (ex_fieldAddr rfl off93_2) rfl ?_
    refine Run.opG (wantS_yes' rfl rfl hc35) (ex_load1 rfl (hH.cells (i := 0) rfl 2 rfl) rdLe_rfl agg3) rfl ?_
    obtain ⟨z37, hz37, h⟩ := bnd_some h
    refine Run.opG (wantS_yes' rfl rfl hc35) (ex_rem' rfl rfl hz37) rfl ?_
    refine Run.opG (wantS_yes' rfl rfl hc35) (ex_eql rfl rfl) rfl ?_
    refine Run.opG wantS_none (ex_pickT' rfl hc35 rfl rfl) rfl ?_
    exact Run.pick [1, 28] (ref08_clock_3_ok F ((Int.tmod c22.Live c22.Step) == (0 : Int)) c22 b22 _ _ _ hH h)
  · have h := bif_f hc35 h
    refine Run.no (wantS_not' rfl rfl hc35) rfl ?_
    refine Run.no (wantS_not' rfl rfl hc35) rfl ?_
    refine Run.no (wantS_not' rfl rfl hc35) rfl ?_
    refine Run.no (wantS_not' rfl rfl hc35) rfl ?_
    refine Run.no (wantS_not' rfl rfl hc35) rfl ?_
    refine Run.no (wantS_not' rfl rfl hc35) rfl ?_
    refine Run.opG wantS_none (ex_pickF' rfl hc35 rfl rfl) rfl ?_
    exact Run.pick [1, 28] (ref08_clock_3_ok F false c22 b22 _ _ _ hH h)

def ref08_clock_1 (F : Nat) (v13 : Bool) (c22 : S_ringdownref08_Clock) : Option (Bool) :=
  bif v13 then
    bnd (ref00_In F c22.Step (1 : Int) c22.Live) fun r33 =>
    ref08_clock_2 F r33 c22
  else
    ref08_clock_2 F false c22

theorem ref08_clock_1_ok (F : Nat) : ∀ (v13 : Bool) (c22 : S_ringdownref08_Clock) (b22 : Pos) (Fr : Rd) (M : Mem) (r : Bool) (hH : Has Fr M [.obj b22 (.row 93 .whole [(.int .i64 c22.Live), (.int .i64 c22.Window), (.int .i64 c22.Step)])]), ref08_clock_1 F v13 c22 = some r → Run Try.prog ⟨⟨107, [], none⟩, []⟩ 37 (ref08_clock_post r) [(1, (.ptr b22 0)), (13, (.bool v13))] [itemC Try.prog 107 [1, 0] 11, codeC Try.prog 107 [1, 1]] M := by
  intro v13 c22 b22 Fr M r hH h
  rw [ref08_clock_1] at h
  refine Run.opG wantS_none (ex_move rfl) rfl ?_
  rcases btf (v13) with hc31 | hc31
  · have h := bif_t hc31 h
    refine Run.opG (wantS_yes' rfl rfl hc31) (ex_fieldAddr rfl off93_2) rfl ?_
    refine Run.opG (wantS_yes' rfl rfl hc31) (ex_load1 rfl (hH.cells (i := 0) rfl 2 rfl) rdLe_rfl agg3) rfl ?_
    refine Run.opG (wantS_yes' rfl rfl hc31) (ex_fieldAddr rfl off93_0) rfl ?_
    refine Run.opG (wantS_yes' rfl rfl hc31) (ex_load1 rfl (hH.cells (i := 0) rfl 0 rfl) rdLe_rfl agg3) rfl ?_
    obtain ⟨r33, hr33, h⟩ := bnd_some h
    refine Run.callP (wantS_yes' rfl rfl hc31) (ex_call rfl mkk49 cal49) rfl (ref00_In_ok F c22.Step (1 : Int) c22.Live _ _ hr33) ?_
    refine Run.opG wantS_none (ex_pickT' rfl hc31 rfl rfl) rfl ?_
    exact Run.pick [1, 20] (ref08_clock_2_ok F r33 c22 b22 _ _ _ hH h)
  · have h := bif_f hc31 h
    refine Run.no (wantS_not' rfl rfl hc31) rfl ?_
    refine Run.no (wantS_not' rfl rfl hc31) rfl ?_
    refine Run.no (wantS_not' rfl rfl hc31) rfl ?_
    refine Run.no (wantS_not' rfl rfl hc31) rfl ?_
    refine Run.no (wantS_not' rfl rfl hc31) rfl ?_
    refine Run.opG wantS_none (ex_pickF' rfl hc31 rfl rfl) rfl ?_
    exact Run.pick [1, 20] (ref08_clock_2_ok F false c22 b22 _ _ _ hH h)

def ref08_clock (F : Nat) (a0 : S_ringdownref08_Clock) : Option (Bool) :=
  bnd (ref00_In F a0.Live (1 : Int) (1073741824 : Int)) fun r25 =>
  bif r25 then
    bnd (ref00_In F a0.Window (0 : Int) (w64 (a0.Live - (1 : Int)))) fun r29 =>
    ref08_clock_1 F r29 a0
  else
    ref08_clock_1 F false a0

theorem ref08_clock_ok (F : Nat) (a0 : S_ringdownref08_Clock) (r : Bool) (M : Mem) (h : ref08_clock F a0 = some r) : CallsM Try.prog 107 [(.agg [(.int .i64 a0.Live), (.int .i64 a0.Window), (.int .i64 a0.Step)])] M (fun s M' => s = (.bool r) ∧ M' = M) := by
  refine CallsM.plain Try.func107 rfl rfl rfl (show Run _ _ _ (ref08_clock_post r) _ _ _ from ?_)
  rw [ref08_clock] at h
  have hH := Has.nil (frozen M)
  refine Run.seq (Run.region ?_)
  refine Run.opX wantS_none rfl (ExG.box rfl rfl hH) ?_
  rintro _ M23 ⟨b22, rfl, (hH23 : Has (ro (frozen M)) M23 [.obj b22 (.row 93 .whole [(.int .i64 a0.Live), (.int .i64 a0.Window), (.int .i64 a0.Step)])])⟩
  refine Run.opG wantS_none (ex_assign rfl) rfl ?_
  refine Run.opsEnd (Run.seq (Run.region ?_))
  refine Run.opG wantS_none (ex_fieldAddr rfl off93_0) rfl ?_
  refine Run.opG wantS_none (ex_load1 rfl (hH23.cells (i := 0) rfl 0 rfl) rdLe_rfl agg3) rfl ?_
  obtain ⟨r25, hr25, h⟩ := bnd_some h
  refine Run.callP wantS_none (ex_call rfl mkk49 cal49) rfl (ref00_In_ok F a0.Live (1 : Int) (1073741824 : Int) _ _ hr25) ?_
  refine Run.opG wantS_none (ex_move rfl) rfl ?_
  rcases btf (r25) with hc27 | hc27
  · have h := bif_t hc27 h
    refine Run.opG (wantS_yes' rfl rfl hc27) (ex_fieldAddr rfl off93_1) rfl ?_
    refine Run.opG (wantS_yes' rfl rfl hc27) (ex_load1 rfl (hH23.cells (i := 0) rfl 1 rfl) rdLe_rfl agg3) rfl ?_
    refine Run.opG (wantS_yes' rfl rfl hc27) (ex_fieldAddr rfl off93_0) rfl ?_
    refine Run.opG (wantS_yes' rfl rfl hc27) (ex_load1 rfl (hH23.cells (i := 0) rfl 0 rfl) rdLe_rfl agg3) rfl ?_
    refine Run.opG (wantS_yes' rfl rfl hc27) (ex_sub rfl rfl) rfl ?_
    obtain ⟨r29, hr29, h⟩ := bnd_some h
    refine Run.callP (wantS_yes' rfl rfl hc27) (ex_call rfl mkk49 cal49) rfl (ref00_In_ok F a0.Window (0 : Int) (w64 (a0.Live - (1 : Int))) _ _ hr29) ?_
    refine Run.opG wantS_none (ex_pickT' rfl hc27 rfl rfl) rfl ?_
    exact Run.pick [1, 13] (ref08_clock_1_ok F r29 a0 b22 _ _ _ hH23 h)
  · have h := bif_f hc27 h
    refine Run.no (wantS_not' rfl rfl hc27) rfl ?_
    refine Run.no (wantS_not' rfl rfl hc27) rfl ?_
    refine Run.no (wantS_not' rfl rfl hc27) rfl ?_
    refine Run.no (wantS_not' rfl rfl hc27) rfl ?_
    refine Run.no (wantS_not' rfl rfl hc27) rfl ?_
    refine Run.no (wantS_not' rfl rfl hc27) rfl ?_
    refine Run.opG wantS_none (ex_pickF' rfl hc27 rfl rfl) rfl ?_
    exact Run.pick [1, 13] (ref08_clock_1_ok F false a0 b22 _ _ _ hH23 h)

theorem mkk107 : makeK Try.prog 107 = none := by kernel_rfl
theorem cal107 : callable Try.prog 107 = true := by kernel_rfl
theorem plan108_1_0 : planOf Try.prog (opsC (atC Try.prog 108 [1, 0])) = some [.fl 0, .fl 1, .fl 2, .fl 3, .fl 4, .fl 5, .fl 6, .fl 7, .fl 8, .fl 9, .fl 10, .fl 11, .fl 12, .fl 13, .fl 14, .fl 15, .sync] := by kernel_rfl
abbrev ref08_fits_post (r : Bool) : SV → Mem → Prop := fun s _ => s = (.bool r)

def ref08_fits_1 (F : Nat) (v4 : Bool) : Option (Bool) :=
  some v4

theorem ref08_fits_1_ok (F : Nat) : ∀ (v4 : Bool) (Fr : Rd) (M : Mem) (r : Bool) (hH : Has Fr M []), ref08_fits_1 F v4 = some r → Run Try.prog ⟨⟨108, [], none⟩, []⟩ 20 (ref08_fits_post r) [(4, (.bool v4))] [codeC Try.prog 108 [1, 1]] M := by
  intro v4 Fr M r hH h
  rw [ref08_fits_1] at h
  cases h
  exact Run.ret Try.func108 rfl (res_tmp rfl res_nil) rfl

def ref08_fits (F : Nat) (a0 : (List S_api_Trigger)) (a1 : S_ringdownref08_Clock) : Option (Bool) :=
  bif ((a0.length : Int) == (0 : Int)) then
    ref08_fits_1 F true
  else
    bnd (idx a0 (w64 ((a0.length : Int) - (1 : Int)))) fun x25 =>
    ref08_fits_1 F (decide (x25.Time < a1.Live))

theorem ref08_fits_ok (F : Nat) (a0 : (List S_api_Trigger)) (a1 : S_ringdownref08_Clock) (s0 : SV) (r : Bool) (M : Mem) (hs0 : Slc (rd M) 3 (FlatR enc76) s0 a0) (h : ref08_fits F a0 a1 = some r) : CallsM Try.prog 108 [s0, (.agg [(.int .i64 a1.Live), (.int .i64 a1.Window), (.int .i64 a1.Step)])] M (fun s M' => s = (.bool r) ∧ M' = M) := by
  refine CallsM.plain Try.func108 rfl rfl rfl (show Run _ _ _ (ref08_fits_post r) _ _ _ from ?_)
  rw [ref08_fits] at h
  replace hs0 := hs0.mono (rdLe_frozen M) (fun _ _ h => h)
  have hH := Has.nil (frozen M)
  refine Run.seq (Run.region ?_)
  refine Run.opX wantS_none rfl (ExG.box rfl rfl hH) ?_
  rintro _ M23 ⟨b22, rfl, (hH23 : Has (ro (frozen M)) M23 [.obj b22 (.row 93 .whole [(.int .i64 a1.Live), (.int .i64 a1.Window), (.int .i64 a1.Step)])])⟩
  refine Run.opG wantS_none (ex_assign rfl) rfl ?_
  refine Run.opsEnd (Run.seq ?_)
  refine Run.drawG plan108_1_0 ?_
  refine DrawG.fl rfl (ev_ex wantS_none (ex_move rfl)) rfl ?_
  refine DrawG.fl rfl (ev_ex wantS_none (ex_len' rfl hs0 lenk22)) rfl ?_
  refine DrawG.fl rfl (ev_ex wantS_none (ex_eql rfl rfl)) rfl ?_
  refine DrawG.fl rfl (ev_ex wantS_none (ex_move rfl)) rfl ?_
  rcases btf (((a0.length : Int) == (0 : Int))) with hc24 | hc24
  · have h := bif_t hc24 h
    refine DrawG.fl rfl (ev_no (wantS_not' rfl rfl hc24)) rfl ?_
    refine DrawG.fl rfl (ev_no (wantS_not' rfl rfl hc24)) rfl ?_
    refine DrawG.fl rfl (ev_no (wantS_not' rfl rfl hc24)) rfl ?_
    refine DrawG.fl rfl (ev_no (wantS_not' rfl rfl hc24)) rfl ?_
    refine DrawG.fl rfl (ev_no (wantS_not' rfl rfl hc24)) rfl ?_
    refine DrawG.fl rfl (ev_no (wantS_not' rfl rfl hc24)) rfl ?_
    refine DrawG.fl rfl (ev_no (wantS_not' rfl rfl hc24)) rfl ?_
    refine DrawG.fl rfl (ev_no (wantS_not' rfl rfl hc24)) rfl ?_
    refine DrawG.fl rfl (ev_no (wantS_not' rfl rfl hc24)) rfl ?_
    refine DrawG.fl rfl (ev_no (wantS_not' rfl rfl hc24)) rfl ?_
    refine DrawG.fl rfl (ev_ex wantS_none (ex_pickT' rfl hc24 rfl rfl)) rfl ?_
    refine DrawG.fl rfl (ev_ex wantS_none (ex_assign rfl)) rfl ?_
    refine DrawG.sync ?_
    refine DrawG.nil ?_
    exact Run.pick [4] (ref08_fits_1_ok F true _ _ _ (hH23.pick [] rfl rfl) h)
  · have h := bif_f hc24 h
    refine DrawG.fl rfl (ev_ex (wantS_yes' rfl rfl hc24) (ex_move rfl)) rfl ?_
    refine DrawG.fl rfl (ev_ex (wantS_yes' rfl rfl hc24) (ex_move rfl)) rfl ?_
    refine DrawG.fl rfl (ev_ex (wantS_yes' rfl rfl hc24) (ex_len' rfl hs0 lenk22)) rfl ?_
    refine DrawG.fl rfl (ev_ex (wantS_yes' rfl rfl hc24) (ex_sub rfl rfl)) rfl ?_
    obtain ⟨x25, hx25, h⟩ := bnd_some h
    obtain ⟨p25, o25, _, hx25, hp25, rfl⟩ := sl_elem (P := Try.prog) (t := 22) (kk := .i64) hs0 hx25 els22
    refine DrawG.fl rfl (ev_ex (wantS_yes' rfl rfl hc24) (ex_elX rfl rfl hx25)) rfl ?_
    have hp26 := (hp25.fld (o := 0) rfl)
    refine DrawG.fl rfl (ev_ex (wantS_yes' rfl rfl hc24) (ex_fieldAddr rfl off76_0)) rfl ?_
    refine DrawG.fl rfl (ev_ex (wantS_yes' rfl rfl hc24) (ex_load1 rfl (hH23.ptrF hp26) rdLe_rfl agg3)) rfl ?_
    refine DrawG.fl rfl (ev_ex (wantS_yes' rfl rfl hc24) (ex_fieldAddr rfl off93_0)) rfl ?_
    refine DrawG.fl rfl (ev_ex (wantS_yes' rfl rfl hc24) (ex_load1 rfl (hH23.cells (i := 0) rfl 0 rfl) rdLe_rfl agg3)) rfl ?_
    refine DrawG.fl rfl (ev_ex (wantS_yes' rfl rfl hc24) (ex_lss rfl rfl)) rfl ?_
    refine DrawG.fl rfl (ev_ex wantS_none (ex_pickF' rfl hc24 rfl rfl)) rfl ?_
    refine DrawG.fl rfl (ev_ex wantS_none (ex_assign rfl)) rfl ?_
    refine DrawG.sync ?_
    refine DrawG.nil ?_
    exact Run.pick [4] (ref08_fits_1_ok F (decide (x25.Time < a1.Live)) _ _ _ (hH23.pick [] rfl rfl) h)

theorem mkk108 : makeK Try.prog 108 = none := by kernel_rfl
theorem cal108 : callable Try.prog 108 = true := by kernel_rfl
abbrev ref08_ready_post (r : Int) : SV → Mem → Prop := fun s _ => s = (.int .i64 r)

def ref08_ready_2 (F : Nat) (v33 : Bool) : Option (Int) :=
  bif v33 then
    some (81 : Int)
  else
    some (0 : Int)

theorem ref08_ready_2_ok (F : Nat) : ∀ (v33 : Bool) (Fr : Rd) (M : Mem) (r : Int) (hH : Has Fr M []), ref08_ready_2 F v33 = some r → Run Try.prog ⟨⟨58, [], none⟩, []⟩ 34 (ref08_ready_post r) [(33, (.bool v33))] [codeC Try.prog 58 [1, 1, 1, 0, 1], codeC Try.prog 58 [1, 1, 1, 1]] M := by
  intro v33 Fr M r hH h
  rw [ref08_ready_2] at h
  rcases btf (v33) with hc37 | hc37
  · have h := bif_t hc37 h
    refine Run.condT' rfl hc37 ?_
    refine Run.seq (Run.region ?_)
    refine Run.opG wantS_none (ex_assign rfl) rfl ?_
    refine Run.opsEnd ?_
    cases h
    exact Run.ret Try.func58 rfl (res_tmp rfl res_nil) rfl
  · have h := bif_f hc37 h
    refine Run.condF' rfl hc37 ?_
    refine Run.skip (Run.seq (Run.region ?_))
    refine Run.opG wantS_none (ex_assign rfl) rfl ?_
    refine Run.opsEnd ?_
    cases h
    exact Run.ret Try.func58 rfl (res_tmp rfl res_nil) rfl

def ref08_ready_1 (F : Nat) (v1 : (List S_api_Trigger)) (v27 : Bool) (c22 : S_ringdownref08_Clock) : Option (Int) :=
  bif v27 then
    ref08_ready_2 F true
  else
    bnd (ref08_fits F v1 c22) fun r39 =>
    ref08_ready_2 F (!r39)

theorem ref08_ready_1_ok (F : Nat) : ∀ (v1 : (List S_api_Trigger)) (v27 : Bool) (c22 : S_ringdownref08_Clock) (sv1 : SV) (b22 : Pos) (Fr : Rd) (M : Mem) (r : Int) (hv1 : Slc Fr 3 (FlatR enc76) sv1 v1) (hH : Has Fr M [.obj b22 (.row 93 .whole [(.int .i64 c22.Live), (.int .i64 c22.Window), (.int .i64 c22.Step)])]), ref08_ready_1 F v1 v27 c22 = some r → Run Try.prog ⟨⟨58, [], none⟩, []⟩ 34 (ref08_ready_post r) [(1, sv1), (5, (.ptr b22 0)), (27, (.bool v27))] [itemC Try.prog 58 [1, 1, 1, 0, 0] 9, codeC Try.prog 58 [1, 1, 1, 0, 1], codeC Try.prog 58 [1, 1, 1, 1]] M := by
  intro v1 v27 c22 sv1 b22 Fr M r hv1 hH h
  rw [ref08_ready_1] at h
  refine Run.opG wantS_none (ex_move rfl) rfl ?_
  rcases btf (v27) with hc36 | hc36
  · have h := bif_t hc36 h
    refine Run.no (wantS_not' rfl rfl hc36) rfl ?_
    refine Run.no (wantS_not' rfl rfl hc36) rfl ?_
    refine Run.no (wantS_not' rfl rfl hc36) rfl ?_
    refine Run.no (wantS_not' rfl rfl hc36) rfl ?_
    refine Run.opG wantS_none (ex_pickT' rfl hc36 rfl rfl) rfl ?_
    refine Run.opsEnd ?_
    exact Run.pick [33] (ref08_ready_2_ok F true _ _ _ (hH.pick [] rfl rfl) h)
  · have h := bif_f hc36 h
    refine Run.opG (wantS_yes' rfl rfl hc36) (ex_move rfl) rfl ?_
    refine Run.opG (wantS_yes' rfl rfl hc36) (ex_loadA rfl (hH.cells (i := 0) rfl 0 rfl) rdLe_rfl agg93 rfl rfl rfl) rfl ?_
    obtain ⟨r39, hr39, h⟩ := bnd_some h
    refine Run.callP (wantS_yes' rfl rfl hc36) (ex_call rfl mkk108 cal108) rfl (ref08_fits_ok F v1 c22 sv1 _ _ (hH.slcF hv1) hr39) ?_
    refine Run.opG (wantS_yes' rfl rfl hc36) (ex_not rfl) rfl ?_
    refine Run.opG wantS_none (ex_pickF' rfl hc36 rfl rfl) rfl ?_
    refine Run.opsEnd ?_
    exact Run.pick [33] (ref08_ready_2_ok F (!r39) _ _ _ (hH.pick [] rfl rfl) h)

def ref08_ready (F : Nat) (a0 : (List S_api_Trigger)) (a1 : (List S_api_Trigger)) (a2 : S_ringdownref08_Clock) : Option (Int) :=
  bnd (ref08_CheckTriggers F a0) fun r25 =>
  bif (!(r25 == (0 : Int))) then
    some r25
  else
    bnd (ref08_CheckTriggers F a1) fun r29 =>
    bif (!(r29 == (0 : Int))) then
      some r29
    else
      bnd (ref08_clock F a2) fun r33 =>
      bif (!r33) then
        ref08_ready_1 F a1 true a2
      else
        bnd (ref08_fits F a0 a2) fun r42 =>
        ref08_ready_1 F a1 (!r42) a2

theorem ref08_ready_ok (F : Nat) (a0 : (List S_api_Trigger)) (a1 : (List S_api_Trigger)) (a2 : S_ringdownref08_Clock) (s0 s1 : SV) (r : Int) (M : Mem) (hs0 : Slc (rd M) 3 (FlatR enc76) s0 a0) (hs1 : Slc (rd M) 3 (FlatR enc76) s1 a1) (h : ref08_ready F a0 a1 a2 = some r) : CallsM Try.prog 58 [s0, s1, (.agg [(.int .i64 a2.Live), (.int .i64 a2.Window), (.int .i64 a2.Step)])] M (fun s M' => s = (.int .i64 r) ∧ M' = M) := by
  refine CallsM.plain Try.func58 rfl rfl rfl (show Run _ _ _ (ref08_ready_post r) _ _ _ from ?_)
  rw [ref08_ready] at h
  replace hs0 := hs0.mono (rdLe_frozen M) (fun _ _ h => h)
  replace hs1 := hs1.mono (rdLe_frozen M) (fun _ _ h => h)
  have hH := Has.nil (frozen M)
  refine Run.seq (Run.region ?_)
  refine Run.opX wantS_none rfl (ExG.box rfl rfl hH) ?_
  rintro _ M23 ⟨b22, rfl, (hH23 : Has (ro (frozen M)) M23 [.obj b22 (.row 93 .whole [(.int .i64 a2.Live), (.int .i64 a2.Window), (.int .i64 a2.Step)])])⟩
  refine Run.opG wantS_none (ex_assign rfl) rfl ?_
  refine Run.opsEnd (Run.seq (Run.seq (Run.region ?_)))
  refine Run.opG wantS_none (ex_move rfl) rfl ?_
  obtain ⟨r25, hr25, h⟩ := bnd_some h
  refine Run.callP wantS_none (ex_call rfl mkk16 cal16) rfl (ref08_CheckTriggers_ok F a0 s0 _ _ (hH23.slcF hs0) hr25) ?_
  refine Run.opG wantS_none (ex_assign rfl) rfl ?_
  refine Run.opsEnd (Run.seq (Run.region ?_))
  refine Run.opG wantS_none (ex_move rfl) rfl ?_
  refine Run.opG wantS_none (ex_neq rfl rfl) rfl ?_
  refine Run.opsEnd ?_
  rcases btf ((!(r25 == (0 : Int)))) with hc27 | hc27
  · have h := bif_t hc27 h
    refine Run.condT' rfl hc27 ?_
    refine Run.seq (Run.region ?_)
    refine Run.opG wantS_none (ex_move rfl) rfl ?_
    refine Run.opG wantS_none (ex_assign rfl) rfl ?_
    refine Run.opsEnd ?_
    cases h
    exact Run.ret Try.func58 rfl (res_tmp rfl res_nil) rfl
  · have h := bif_f hc27 h
    refine Run.condF' rfl hc27 ?_
    refine Run.skip (Run.seq (Run.seq (Run.region ?_)))
    refine Run.opG wantS_none (ex_move rfl) rfl ?_
    obtain ⟨r29, hr29, h⟩ := bnd_some h
    refine Run.callP wantS_none (ex_call rfl mkk16 cal16) rfl (ref08_CheckTriggers_ok F a1 s1 _ _ (hH23.slcF hs1) hr29) ?_
    refine Run.opG wantS_none (ex_assign rfl) rfl ?_
    refine Run.opsEnd (Run.seq (Run.region ?_))
    refine Run.opG wantS_none (ex_move rfl) rfl ?_
    refine Run.opG wantS_none (ex_neq rfl rfl) rfl ?_
    refine Run.opsEnd ?_
    rcases btf ((!(r29 == (0 : Int)))) with hc31 | hc31
    · have h := bif_t hc31 h
      refine Run.condT' rfl hc31 ?_
      refine Run.seq (Run.region ?_)
      refine Run.opG wantS_none (ex_move rfl) rfl ?_
      refine Run.opG wantS_none (ex_assign rfl) rfl ?_
      refine Run.opsEnd ?_
      cases h
      exact Run.ret Try.func58 rfl (res_tmp rfl res_nil) rfl
    · have h := bif_f hc31 h
      refine Run.condF' rfl hc31 ?_
      refine Run.skip (Run.seq (Run.seq (Run.region ?_)))
      refine Run.opG wantS_none (ex_loadA rfl (hH23.cells (i := 0) rfl 0 rfl) rdLe_rfl agg93 rfl rfl rfl) rfl ?_
      obtain ⟨r33, hr33, h⟩ := bnd_some h
      refine Run.callP wantS_none (ex_call rfl mkk107 cal107) rfl (ref08_clock_ok F a2 _ _ hr33) ?_
      refine Run.opG wantS_none (ex_not rfl) rfl ?_
      refine Run.opG wantS_none (ex_move rfl) rfl ?_
      rcases btf ((!r33)) with hc35 | hc35
      · have h := bif_t hc35 h
        refine Run.no (wantS_not' rfl rfl hc35) rfl ?_
        refine Run.no (wantS_not' rfl rfl hc35) rfl ?_
        refine Run.no (wantS_not' rfl rfl hc35) rfl ?_
        refine Run.no (wantS_not' rfl rfl hc35) rfl ?_
        refine Run.opG wantS_none (ex_pickT' rfl hc35 rfl rfl) rfl ?_
        exact Run.pick [1, 5, 27] (ref08_ready_1_ok F a1 true a2 s1 b22 _ _ _ hs1 hH23 h)
      · have h := bif_f hc35 h
        refine Run.opG (wantS_yes' rfl rfl hc35) (ex_move rfl) rfl ?_
        refine Run.opG (wantS_yes' rfl rfl hc35) (ex_loadA rfl (hH23.cells (i := 0) rfl 0 rfl) rdLe_rfl agg93 rfl rfl rfl) rfl ?_
        obtain ⟨r42, hr42, h⟩ := bnd_some h
        refine Run.callP (wantS_yes' rfl rfl hc35) (ex_call rfl mkk108 cal108) rfl (ref08_fits_ok F a0 a2 s0 _ _ (hH23.slcF hs0) hr42) ?_
        refine Run.opG (wantS_yes' rfl rfl hc35) (ex_not rfl) rfl ?_
        refine Run.opG wantS_none (ex_pickF' rfl hc35 rfl rfl) rfl ?_
        exact Run.pick [1, 5, 27] (ref08_ready_1_ok F a1 (!r42) a2 s1 b22 _ _ _ hs1 hH23 h)

theorem mkk58 : makeK Try.prog 58 = none := by kernel_rfl
theorem cal58 : callable Try.prog 58 = true := by kernel_rfl
abbrev ref08_slid_post (r : (List S_api_Trigger)) : SV → Mem → Prop := fun s Me => ∃ q1, s = q1 ∧ Has (fun _ => none) Me [.vec 76 3 r.length q1 (r.flatMap enc76)]

def ref08_slid_2 (F : Nat) (hd1 : (List S_api_Trigger) → Int → Int → Int → (List S_api_Trigger) → (List S_api_Trigger) → Option ((List S_api_Trigger))) (v0 : (List S_api_Trigger)) (v1 : Int) (v2 : Int) (v9 : Int) (l46 : (List S_api_Trigger)) (l23 : (List S_api_Trigger)) : Option ((List S_api_Trigger)) :=
  hd1 v0 v1 v2 (w64 (v9 + (1 : Int))) l46 l23

theorem ref08_slid_2_ok (F : Nat) (hd1 : (List S_api_Trigger) → Int → Int → Int → (List S_api_Trigger) → (List S_api_Trigger) → Option ((List S_api_Trigger))) (hhd1 : ∀ (v0 : (List S_api_Trigger)) (v1 : Int) (v2 : Int) (v9 : Int) (l21 : (List S_api_Trigger)) (l23 : (List S_api_Trigger)) (sv0 : SV) (s21 : SV) (s23 : SV) (Fr : Rd) (M : Mem) (r : (List S_api_Trigger)) (hv0 : Slc Fr 3 (FlatR enc76) sv0 v0) (hH : Has Fr M [.vec 76 3 l21.length s21 (l21.flatMap enc76), .vec 76 3 l23.length s23 (l23.flatMap enc76)]), hd1 v0 v1 v2 v9 l21 l23 = some r → Run Try.prog ⟨⟨64, [], none⟩, []⟩ 48 (ref08_slid_post r) [(0, sv0), (1, (.int .i64 v1)), (2, (.int .i64 v2)), (7, s21), (8, s23), (9, (.int .i64 v9))] [codeC Try.prog 64 [1, 1, 0, 1, 0, 0], loopC Try.prog 64 [1, 1, 0, 1, 0, 0], .inBlock 0, codeC Try.prog 64 [1, 1, 1]] M) : ∀ (v0 : (List S_api_Trigger)) (v1 : Int) (v2 : Int) (v9 : Int) (l46 : (List S_api_Trigger)) (l23 : (List S_api_Trigger)) (sv0 : SV) (s46 : SV) (s23 : SV) (Fr : Rd) (M : Mem) (r : (List S_api_Trigger)) (hv0 : Slc Fr 3 (FlatR enc76) sv0 v0) (hH : Has Fr M [.vec 76 3 l46.length s46 (l46.flatMap enc76), .vec 76 3 l23.length s23 (l23.flatMap enc76)]), ref08_slid_2 F hd1 v0 v1 v2 v9 l46 l23 = some r → Run Try.prog ⟨⟨64, [], none⟩, []⟩ 48 (ref08_slid_post r) [(0, sv0), (1, (.int .i64 v1)), (2, (.int .i64 v2)), (7, s46), (8, s23), (9, (.int .i64 v9))] [itemC Try.prog 64 [1, 1, 0, 1, 0, 0, 1, 1] 0, loopC Try.prog 64 [1, 1, 0, 1, 0, 0], .inBlock 0, codeC Try.prog 64 [1, 1, 1]] M := by
  intro v0 v1 v2 v9 l46 l23 sv0 s46 s23 Fr M r hv0 hH h
  rw [ref08_slid_2] at h
  refine Run.opG wantS_none (ex_move rfl) rfl ?_
  refine Run.opG wantS_none (ex_add rfl rfl) rfl ?_
  refine Run.opG wantS_none (ex_assign rfl) rfl ?_
  refine Run.opsEnd (Run.inLoop ?_)
  exact Run.pick [0, 1, 2, 7, 8, 9] (hhd1 v0 v1 v2 (w64 (v9 + (1 : Int))) l46 l23 sv0 s46 s23 _ _ _ hv0 hH h)

def ref08_slid_1 (F : Nat) : Nat → (List S_api_Trigger) → Int → Int → Int → (List S_api_Trigger) → (List S_api_Trigger) → Option ((List S_api_Trigger))
  | 0, _, _, _, _, _, _ => none
  | N + 1, v0, v1, v2, v9, l21, l23 =>
    bif (decide (v9 < (v0.length : Int))) then
      bnd (idx v0 v9) fun x27 =>
      bnd (nz v1) fun z33 =>
      bnd (idx v0 v9) fun x36 =>
      bif (decide (v1 ≤ (w64 (x36.Time + v2)))) then
        bnd (apd 24 l21 ([(S_api_Trigger.mk (Int.tmod (w64 (x27.Time + v2)) v1) x27.Loud x27.Template)] : List S_api_Trigger)) fun l45 =>
        ref08_slid_2 F (ref08_slid_1 F N) v0 v1 v2 v9 l45 l23
      else
        bnd (apd 24 l23 ([(S_api_Trigger.mk (Int.tmod (w64 (x27.Time + v2)) v1) x27.Loud x27.Template)] : List S_api_Trigger)) fun l53 =>
        ref08_slid_2 F (ref08_slid_1 F N) v0 v1 v2 v9 l21 l53
    else
      bnd (apd 24 l21 l23) fun l58 =>
      some l58

theorem ref08_slid_1_ok (F : Nat) : ∀ (N : Nat), ∀ (v0 : (List S_api_Trigger)) (v1 : Int) (v2 : Int) (v9 : Int) (l21 : (List S_api_Trigger)) (l23 : (List S_api_Trigger)) (sv0 : SV) (s21 : SV) (s23 : SV) (Fr : Rd) (M : Mem) (r : (List S_api_Trigger)) (hv0 : Slc Fr 3 (FlatR enc76) sv0 v0) (hH : Has Fr M [.vec 76 3 l21.length s21 (l21.flatMap enc76), .vec 76 3 l23.length s23 (l23.flatMap enc76)]), ref08_slid_1 F N v0 v1 v2 v9 l21 l23 = some r → Run Try.prog ⟨⟨64, [], none⟩, []⟩ 48 (ref08_slid_post r) [(0, sv0), (1, (.int .i64 v1)), (2, (.int .i64 v2)), (7, s21), (8, s23), (9, (.int .i64 v9))] [codeC Try.prog 64 [1, 1, 0, 1, 0, 0], loopC Try.prog 64 [1, 1, 0, 1, 0, 0], .inBlock 0, codeC Try.prog 64 [1, 1, 1]] M := by
  intro N
  induction N with
  | zero =>
    intro v0 v1 v2 v9 l21 l23 sv0 s21 s23 Fr M r hv0 hH h
    simp [ref08_slid_1] at h
  | succ N ih =>
    intro v0 v1 v2 v9 l21 l23 sv0 s21 s23 Fr M r hv0 hH h
    rw [ref08_slid_1] at h
    refine Run.seq (Run.seq (Run.region ?_))
    refine Run.opG wantS_none (ex_move rfl) rfl ?_
    refine Run.opG wantS_none (ex_move rfl) rfl ?_
    refine Run.opG wantS_none (ex_len' rfl hv0 lenk22) rfl ?_
    refine Run.opG wantS_none (ex_lss rfl rfl) rfl ?_
    refine Run.opsEnd ?_
    rcases btf ((decide (v9 < (v0.length : Int)))) with hc25 | hc25
    · have h := bif_t hc25 h
      refine Run.condT' rfl hc25 ?_
      refine Run.skip (Run.seq (Run.block (Run.seq (Run.region ?_))))
      refine Run.opG wantS_none (ex_move rfl) rfl ?_
      refine Run.opG wantS_none (ex_move rfl) rfl ?_
      obtain ⟨x27, hx27, h⟩ := bnd_some h
      obtain ⟨p27, o27, _, hx27, hp27, rfl⟩ := sl_elem (P := Try.prog) (t := 22) (kk := .i64) hv0 hx27 els22
      refine Run.opG wantS_none (ex_elX rfl rfl hx27) rfl ?_
      refine Run.opG wantS_none (ex_loadA rfl (hH.ptrF hp27) rdLe_rfl agg76 rfl rfl rfl) rfl ?_
      refine Run.opX wantS_none rfl (ExG.new (v := fun b => .ptr b 0) (ex_alloc zer76) hH) ?_
      rintro _ M30 ⟨b29, rfl, (hH30 : Has Fr M30 [.obj b29 (.row 76 .whole [(.int .i64 0), (.int .i64 0), (.int .i64 0)]), .vec 76 3 l21.length s21 (l21.flatMap enc76), .vec 76 3 l23.length s23 (l23.flatMap enc76)])⟩
      refine Run.opX wantS_none rfl (ExG.storeC (c' := [(.int .i64 x27.Time), (.int .i64 x27.Loud), (.int .i64 x27.Template)]) rfl rfl rfl hH30 (i := 0) rfl sz76 rfl rfl rfl rfl rfl) ?_
      rintro _ M31 ⟨rfl, (hH31 : Has Fr M31 [.obj b29 (.row 76 .whole [(.int .i64 x27.Time), (.int .i64 x27.Loud), (.int .i64 x27.Template)]), .vec 76 3 l21.length s21 (l21.flatMap enc76), .vec 76 3 l23.length s23 (l23.flatMap enc76)])⟩
      refine Run.opsEnd (Run.seq (Run.region ?_))
      refine Run.opG wantS_none (ex_fieldAddr rfl off76_0) rfl ?_
      refine Run.opG wantS_none (ex_load1 rfl (hH31.cells (i := 0) rfl 0 rfl) rdLe_rfl agg3) rfl ?_
      refine Run.opG wantS_none (ex_move rfl) rfl ?_
      refine Run.opG wantS_none (ex_add rfl rfl) rfl ?_
      refine Run.opG wantS_none (ex_move rfl) rfl ?_
      obtain ⟨z33, hz33, h⟩ := bnd_some h
      refine Run.opG wantS_none (ex_rem' rfl rfl hz33) rfl ?_
      refine Run.opG wantS_none (ex_fieldAddr rfl off76_0) rfl ?_
      refine Run.opX wantS_none rfl (ExG.storeC (c' := [(.int .i64 (Int.tmod (w64 (x27.Time + v2)) v1)), (.int .i64 x27.Loud), (.int .i64 x27.Template)]) rfl rfl rfl hH31 (i := 0) rfl sz3 rfl rfl rfl rfl rfl) ?_
      rintro _ M34 ⟨rfl, (hH34 : Has Fr M34 [.obj b29 (.row 76 .whole [(.int .i64 (Int.tmod (w64 (x27.Time + v2)) v1)), (.int .i64 x27.Loud), (.int .i64 x27.Template)]), .vec 76 3 l21.length s21 (l21.flatMap enc76), .vec 76 3 l23.length s23 (l23.flatMap enc76)])⟩
      refine Run.opsEnd (Run.seq (Run.region ?_))
      refine Run.opG wantS_none (ex_move rfl) rfl ?_
      refine Run.opG wantS_none (ex_move rfl) rfl ?_
      obtain ⟨x36, hx36, h⟩ := bnd_some h
      obtain ⟨p36, o36, _, hx36, hp36, rfl⟩ := sl_elem (P := Try.prog) (t := 22) (kk := .i64) hv0 hx36 els22
      refine Run.opG wantS_none (ex_elX rfl rfl hx36) rfl ?_
      have hp38 := (hp36.fld (o := 0) rfl)
      refine Run.opG wantS_none (ex_fieldAddr rfl off76_0) rfl ?_
      refine Run.opG wantS_none (ex_load1 rfl (hH34.ptrF hp38) rdLe_rfl agg3) rfl ?_
      refine Run.opG wantS_none (ex_move rfl) rfl ?_
      refine Run.opG wantS_none (ex_add rfl rfl) rfl ?_
      refine Run.opG wantS_none (ex_move rfl) rfl ?_
      refine Run.opG wantS_none (ex_geq rfl rfl) rfl ?_
      refine Run.opsEnd ?_
      rcases btf ((decide (v1 ≤ (w64 (x36.Time + v2))))) with hc39 | hc39
      · have h := bif_t hc39 h
        refine Run.condT' rfl hc39 ?_
        refine Run.region ?_
        refine Run.opG wantS_none (ex_move rfl) rfl ?_
        refine Run.opG wantS_none (ex_loadA rfl (hH34.cells (i := 0) rfl 0 rfl) rdLe_rfl agg76 rfl rfl rfl) rfl ?_
        refine Run.opX wantS_none rfl (ExG.built (enc := enc76) (l := ([(S_api_Trigger.mk (Int.tmod (w64 (x27.Time + v2)) v1) x27.Loud x27.Template)] : List S_api_Trigger)) (z := 3) rfl elt22 rfl rfl rfl enc76_len hH34) ?_
        rintro s41 M42 (hH42 : Has Fr M42 [.vec 76 3 ([(S_api_Trigger.mk (Int.tmod (w64 (x27.Time + v2)) v1) x27.Loud x27.Template)] : List S_api_Trigger).length s41 (([(S_api_Trigger.mk (Int.tmod (w64 (x27.Time + v2)) v1) x27.Loud x27.Template)] : List S_api_Trigger).flatMap enc76), .obj b29 (.row 76 .whole [(.int .i64 (Int.tmod (w64 (x27.Time + v2)) v1)), (.int .i64 x27.Loud), (.int .i64 x27.Template)]), .vec 76 3 l21.length s21 (l21.flatMap enc76), .vec 76 3 l23.length s23 (l23.flatMap enc76)])
        obtain ⟨l45, hl45, h⟩ := bnd_some h
        refine Run.opX wantS_none rfl (ExG.append rfl rfl hH42 (i := 2) rfl enc76_len rfl enc76_ones appt22_22 rfl (len_slc (hH42.slc (i := 0) rfl enc76_len)) (first_slc (hH42.slc (i := 0) rfl enc76_len) (rdLe_rdRow _) enc76_len) hl45) ?_
        rintro s45 M47 (hH47 : Has Fr M47 [.vec 76 3 ([(S_api_Trigger.mk (Int.tmod (w64 (x27.Time + v2)) v1) x27.Loud x27.Template)] : List S_api_Trigger).length s41 (([(S_api_Trigger.mk (Int.tmod (w64 (x27.Time + v2)) v1) x27.Loud x27.Template)] : List S_api_Trigger).flatMap enc76), .obj b29 (.row 76 .whole [(.int .i64 (Int.tmod (w64 (x27.Time + v2)) v1)), (.int .i64 x27.Loud), (.int .i64 x27.Template)]), .vec 76 3 l45.length s45 (l45.flatMap enc76), .vec 76 3 l23.length s23 (l23.flatMap enc76)])
        refine Run.opG wantS_none (ex_assign rfl) rfl ?_
        refine Run.opsEnd (Run.inBlock (Run.region ?_))
        exact Run.pick [0, 1, 2, 7, 8, 9] (ref08_slid_2_ok F (ref08_slid_1 F N) ih v0 v1 v2 v9 l45 l23 sv0 s45 s23 _ _ _ hv0 (hH47.pick [2, 3] rfl rfl) h)
      · have h := bif_f hc39 h
        refine Run.condF' rfl hc39 ?_
        refine Run.region ?_
        refine Run.opG wantS_none (ex_move rfl) rfl ?_
        refine Run.opG wantS_none (ex_loadA rfl (hH34.cells (i := 0) rfl 0 rfl) rdLe_rfl agg76 rfl rfl rfl) rfl ?_
        refine Run.opX wantS_none rfl (ExG.built (enc := enc76) (l := ([(S_api_Trigger.mk (Int.tmod (w64 (x27.Time + v2)) v1) x27.Loud x27.Template)] : List S_api_Trigger)) (z := 3) rfl elt22 rfl rfl rfl enc76_len hH34) ?_
        rintro s49 M50 (hH50 : Has Fr M50 [.vec 76 3 ([(S_api_Trigger.mk (Int.tmod (w64 (x27.Time + v2)) v1) x27.Loud x27.Template)] : List S_api_Trigger).length s49 (([(S_api_Trigger.mk (Int.tmod (w64 (x27.Time + v2)) v1) x27.Loud x27.Template)] : List S_api_Trigger).flatMap enc76), .obj b29 (.row 76 .whole [(.int .i64 (Int.tmod (w64 (x27.Time + v2)) v1)), (.int .i64 x27.Loud), (.int .i64 x27.Template)]), .vec 76 3 l21.length s21 (l21.flatMap enc76), .vec 76 3 l23.length s23 (l23.flatMap enc76)])
        obtain ⟨l53, hl53, h⟩ := bnd_some h
        refine Run.opX wantS_none rfl (ExG.append rfl rfl hH50 (i := 3) rfl enc76_len rfl enc76_ones appt22_22 rfl (len_slc (hH50.slc (i := 0) rfl enc76_len)) (first_slc (hH50.slc (i := 0) rfl enc76_len) (rdLe_rdRow _) enc76_len) hl53) ?_
        rintro s53 M55 (hH55 : Has Fr M55 [.vec 76 3 ([(S_api_Trigger.mk (Int.tmod (w64 (x27.Time + v2)) v1) x27.Loud x27.Template)] : List S_api_Trigger).length s49 (([(S_api_Trigger.mk (Int.tmod (w64 (x27.Time + v2)) v1) x27.Loud x27.Template)] : List S_api_Trigger).flatMap enc76), .obj b29 (.row 76 .whole [(.int .i64 (Int.tmod (w64 (x27.Time + v2)) v1)), (.int .i64 x27.Loud), (.int .i64 x27.Template)]), .vec 76 3 l21.length s21 (l21.flatMap enc76), .vec 76 3 l53.length s53 (l53.flatMap enc76)])
        refine Run.opG wantS_none (ex_assign rfl) rfl ?_
        refine Run.opsEnd (Run.inBlock (Run.region ?_))
        exact Run.pick [0, 1, 2, 7, 8, 9] (ref08_slid_2_ok F (ref08_slid_1 F N) ih v0 v1 v2 v9 l21 l53 sv0 s21 s53 _ _ _ hv0 (hH55.pick [2, 3] rfl rfl) h)
    · have h := bif_f hc25 h
      refine Run.condF' rfl hc25 ?_
      refine Run.exit rfl (Run.seq (Run.region ?_))
      refine Run.opG wantS_none (ex_move rfl) rfl ?_
      refine Run.opG wantS_none (ex_move rfl) rfl ?_
      obtain ⟨l58, hl58, h⟩ := bnd_some h
      refine Run.opX wantS_none rfl (ExG.append rfl rfl hH (i := 0) rfl enc76_len rfl enc76_ones appt22_22 rfl (len_slc (hH.slc (i := 1) rfl enc76_len)) (first_slc (hH.slc (i := 1) rfl enc76_len) (rdLe_rdRow _) enc76_len) hl58) ?_
      rintro s58 M60 (hH60 : Has Fr M60 [.vec 76 3 l58.length s58 (l58.flatMap enc76), .vec 76 3 l23.length s23 (l23.flatMap enc76)])
      refine Run.opG wantS_none (ex_assign rfl) rfl ?_
      refine Run.opsEnd ?_
      cases h
      exact Run.ret Try.func64 rfl (res_tmp rfl res_nil) ⟨_, rfl, (hH60.pick [0] rfl rfl).upF (none_le _)⟩

def ref08_slid (F : Nat) (a0 : (List S_api_Trigger)) (a1 : Int) (a2 : Int) : Option ((List S_api_Trigger)) :=
  ref08_slid_1 F F a0 a1 a2 (0 : Int) ([] : List S_api_Trigger) ([] : List S_api_Trigger)

theorem ref08_slid_ok (F : Nat) (a0 : (List S_api_Trigger)) (a1 : Int) (a2 : Int) (s0 : SV) (r : (List S_api_Trigger)) (M : Mem) (hs0 : Slc (rd M) 3 (FlatR enc76) s0 a0) (h : ref08_slid F a0 a1 a2 = some r) : CallsM Try.prog 64 [s0, (.int .i64 a1), (.int .i64 a2)] M (fun s M' => ∃ q1, s = q1 ∧ New M M' [.vec 76 3 r.length q1 (r.flatMap enc76)]) := by
  refine CallsM.fresh (Q := ref08_slid_post r) Try.func64 rfl rfl ?_ (by rintro s Me ⟨q1, rfl, hx⟩ ha hw; exact ⟨_, rfl, New.of rfl hx ha hw⟩)
  rw [ref08_slid] at h
  replace hs0 := hs0.mono (rdLe_frozen M) (fun _ _ h => h)
  have hH := Has.nil (frozen M)
  refine Run.seq (Run.region ?_)
  refine Run.opG wantS_none (ex_assign rfl) rfl ?_
  refine Run.opsEnd (Run.seq (Run.region ?_))
  refine Run.opG wantS_none (ex_assign rfl) rfl ?_
  refine Run.opG wantS_none (ex_assign rfl) rfl ?_
  refine Run.opsEnd (Run.seq (Run.seq (Run.region ?_)))
  refine Run.opG wantS_none (ex_assign rfl) rfl ?_
  refine Run.opsEnd (Run.block (Run.loop ?_))
  have hH22 : Has (ro (frozen M)) (frozen M) [.vec 76 3 ([] : List S_api_Trigger).length .nils (([] : List S_api_Trigger).flatMap enc76)] := hH.nils 76 3
  have hH24 : Has (ro (frozen M)) (frozen M) [.vec 76 3 ([] : List S_api_Trigger).length .nils (([] : List S_api_Trigger).flatMap enc76), .vec 76 3 ([] : List S_api_Trigger).length .nils (([] : List S_api_Trigger).flatMap enc76)] := hH22.nils 76 3
  exact Run.pick [0, 1, 2, 7, 8, 9] (ref08_slid_1_ok F F a0 a1 a2 (0 : Int) ([] : List S_api_Trigger) ([] : List S_api_Trigger) s0 .nils .nils _ _ _ hs0 (hH24.pick [1, 0] rfl rfl) h)

theorem mkk64 : makeK Try.prog 64 = none := by kernel_rfl
theorem cal64 : callable Try.prog 64 = true := by kernel_rfl
abbrev ref08_Slide_post (r : (List S_api_Trigger) × Int) : SV → Mem → Prop := fun s Me => ∃ q1, s = (.tuple [q1, (.int .i64 r.2)]) ∧ Has (fun _ => none) Me [.vec 76 3 r.1.length q1 (r.1.flatMap enc76)]

def ref08_Slide (F : Nat) (a0 : (List S_api_Trigger)) (a1 : Int) (a2 : Int) : Option ((List S_api_Trigger) × Int) :=
  bnd (ref08_ready F [] a0 (S_ringdownref08_Clock.mk a1 0 a1)) fun r22 =>
  bif (!(r22 == (0 : Int))) then
    some (([] : List S_api_Trigger), r22)
  else
    bnd (ref00_In F a2 (0 : Int) (w64 (a1 - (1 : Int)))) fun r28 =>
    bif (!r28) then
      some (([] : List S_api_Trigger), (8 : Int))
    else
      bnd (ref08_slid F a0 a1 a2) fun r35 =>
      some (r35, (0 : Int))

theorem ref08_Slide_ok (F : Nat) (a0 : (List S_api_Trigger)) (a1 : Int) (a2 : Int) (s0 : SV) (r : (List S_api_Trigger) × Int) (M : Mem) (hs0 : Slc (rd M) 3 (FlatR enc76) s0 a0) (h : ref08_Slide F a0 a1 a2 = some r) : CallsM Try.prog 24 [s0, (.int .i64 a1), (.int .i64 a2)] M (fun s M' => ∃ q1, s = (.tuple [q1, (.int .i64 r.2)]) ∧ New M M' [.vec 76 3 r.1.length q1 (r.1.flatMap enc76)]) := by
  refine CallsM.fresh (Q := ref08_Slide_post r) Try.func24 rfl rfl ?_ (by rintro s Me ⟨q1, rfl, hx⟩ ha hw; exact ⟨_, rfl, New.of rfl hx ha hw⟩)
  rw [ref08_Slide] at h
  replace hs0 := hs0.mono (rdLe_frozen M) (fun _ _ h => h)
  have hH := Has.nil (frozen M)
  refine Run.seq (Run.region ?_)
  refine Run.opG wantS_none (ex_assign rfl) rfl ?_
  refine Run.opG wantS_none (ex_assign rfl) rfl ?_
  refine Run.opsEnd (Run.seq (Run.seq (Run.region ?_)))
  refine Run.opG wantS_none (ex_move rfl) rfl ?_
  refine Run.opG wantS_none (ex_move rfl) rfl ?_
  refine Run.opG wantS_none (ex_move rfl) rfl ?_
  refine Run.opG wantS_none (ex_build (r := [(.int .i64 a1), (.int .i64 0), (.int .i64 a1)]) rfl zer93 pls93 rfl) rfl ?_
  obtain ⟨r22, hr22, h⟩ := bnd_some h
  refine Run.callP wantS_none (ex_call rfl mkk58 cal58) rfl (ref08_ready_ok F [] a0 (S_ringdownref08_Clock.mk a1 0 a1) .nils s0 _ _ slc_nil (hH.slcF hs0) hr22) ?_
  refine Run.opG wantS_none (ex_assign rfl) rfl ?_
  refine Run.opsEnd (Run.seq (Run.region ?_))
  refine Run.opG wantS_none (ex_move rfl) rfl ?_
  refine Run.opG wantS_none (ex_neq rfl rfl) rfl ?_
  refine Run.opsEnd ?_
  rcases btf ((!(r22 == (0 : Int)))) with hc24 | hc24
  · have h := bif_t hc24 h
    refine Run.condT' rfl hc24 ?_
    refine Run.seq (Run.region ?_)
    refine Run.opG wantS_none (ex_move rfl) rfl ?_
    refine Run.opG wantS_none (ex_assign rfl) rfl ?_
    refine Run.opG wantS_none (ex_assign rfl) rfl ?_
    refine Run.opsEnd ?_
    have hH26 : Has (ro (frozen M)) (frozen M) [.vec 76 3 ([] : List S_api_Trigger).length .nils (([] : List S_api_Trigger).flatMap enc76)] := hH.nils 76 3
    cases h
    exact Run.ret Try.func24 rfl (res_tmp rfl (res_tmp rfl res_nil)) ⟨_, rfl, (hH26.pick [0] rfl rfl).upF (none_le _)⟩
  · have h := bif_f hc24 h
    refine Run.condF' rfl hc24 ?_
    refine Run.skip (Run.seq (Run.seq (Run.region ?_)))
    refine Run.opG wantS_none (ex_move rfl) rfl ?_
    refine Run.opG wantS_none (ex_move rfl) rfl ?_
    refine Run.opG wantS_none (ex_sub rfl rfl) rfl ?_
    obtain ⟨r28, hr28, h⟩ := bnd_some h
    refine Run.callP wantS_none (ex_call rfl mkk49 cal49) rfl (ref00_In_ok F a2 (0 : Int) (w64 (a1 - (1 : Int))) _ _ hr28) ?_
    refine Run.opG wantS_none (ex_not rfl) rfl ?_
    refine Run.opsEnd ?_
    rcases btf ((!r28)) with hc30 | hc30
    · have h := bif_t hc30 h
      refine Run.condT' rfl hc30 ?_
      refine Run.seq (Run.region ?_)
      refine Run.opG wantS_none (ex_assign rfl) rfl ?_
      refine Run.opG wantS_none (ex_assign rfl) rfl ?_
      refine Run.opsEnd ?_
      have hH32 : Has (ro (frozen M)) (frozen M) [.vec 76 3 ([] : List S_api_Trigger).length .nils (([] : List S_api_Trigger).flatMap enc76)] := hH.nils 76 3
      cases h
      exact Run.ret Try.func24 rfl (res_tmp rfl (res_tmp rfl res_nil)) ⟨_, rfl, (hH32.pick [0] rfl rfl).upF (none_le _)⟩
    · have h := bif_f hc30 h
      refine Run.condF' rfl hc30 ?_
      refine Run.skip (Run.seq (Run.region ?_))
      refine Run.opG wantS_none (ex_move rfl) rfl ?_
      refine Run.opG wantS_none (ex_move rfl) rfl ?_
      refine Run.opG wantS_none (ex_move rfl) rfl ?_
      obtain ⟨r35, hr35, h⟩ := bnd_some h
      refine Run.callX wantS_none (ex_call rfl mkk64 cal64) rfl (ref08_slid_ok F a0 a1 a2 s0 _ _ (hH.slcF hs0) hr35) ?_
      rintro s35_0 M37 ⟨_, rfl, hN35⟩
      have hH37 : Has (ro (frozen M)) M37 [.vec 76 3 r35.length s35_0 (r35.flatMap enc76)] := hN35.1 _ _ hH
      refine Run.opG wantS_none (ex_assign rfl) rfl ?_
      refine Run.opG wantS_none (ex_assign rfl) rfl ?_
      refine Run.opsEnd ?_
      cases h
      exact Run.ret Try.func24 rfl (res_tmp rfl (res_tmp rfl res_nil)) ⟨_, rfl, (hH37.pick [0] rfl rfl).upF (none_le _)⟩

theorem mkk24 : makeK Try.prog 24 = none := by kernel_rfl
theorem cal24 : callable Try.prog 24 = true := by kernel_rfl
theorem agk3 : aggK Try.prog 3 = some .int := by kernel_rfl
theorem agk76 : aggK Try.prog 76 = some (.st [⟨ "Time", 3, 0, false, "", "", 0⟩, ⟨ "Loud", 3, 1, false, "", "", 8⟩, ⟨ "Template", 3, 2, false, "", "", 16⟩]) := by kernel_rfl
theorem aeq76 : aggEq Try.prog 76 = false := by kernel_rfl
theorem plan25_1_1_0_1_0_0_1_0_0_0 : planOf Try.prog (opsC (atC Try.prog 25 [1, 1, 0, 1, 0, 0, 1, 0, 0, 0])) = some [.fl 0, .fl 1, .fl 2, .fl 3, .fl 4, .fl 5, .fl 6, .fl 7, .fl 8, .sync] := by kernel_rfl
abbrev law08_triggers_post (r : Bool) : SV → Mem → Prop := fun s _ => s = (.bool r)

def law08_triggers_1 (F : Nat) : Nat → (List S_api_Trigger) → (List S_api_Trigger) → Int → Option (Bool)
  | 0, _, _, _ => none
  | N + 1, v0, v1, v5 =>
    bif (decide (v5 < (v0.length : Int))) then
      bnd (idx v0 v5) fun x23 =>
      bnd (idx v1 v5) fun x24 =>
      bif (!((x23.Time == x24.Time) && ((x23.Loud == x24.Loud) && ((x23.Template == x24.Template) && true)))) then
        some false
      else
        (law08_triggers_1 F N) v0 v1 (w64 (v5 + (1 : Int)))
    else
      some true

theorem law08_triggers_1_ok (F : Nat) : ∀ (N : Nat), ∀ (v0 : (List S_api_Trigger)) (v1 : (List S_api_Trigger)) (v5 : Int) (sv0 : SV) (sv1 : SV) (Fr : Rd) (M : Mem) (r : Bool) (hv0 : Slc Fr 3 (FlatR enc76) sv0 v0) (hv1 : Slc Fr 3 (FlatR enc76) sv1 v1) (hH : Has Fr M []), law08_triggers_1 F N v0 v1 v5 = some r → Run Try.prog ⟨⟨25, [], none⟩, []⟩ 26 (law08_triggers_post r) [(0, sv0), (1, sv1), (5, (.int .i64 v5))] [codeC Try.prog 25 [1, 1, 0, 1, 0, 0], loopC Try.prog 25 [1, 1, 0, 1, 0, 0], .inBlock 0, codeC Try.prog 25 [1, 1, 1]] M := by
  intro N
  induction N with
  | zero =>
    intro v0 v1 v5 sv0 sv1 Fr M r hv0 hv1 hH h
    simp [law08_triggers_1] at h
  | succ N ih =>
    intro v0 v1 v5 sv0 sv1 Fr M r hv0 hv1 hH h
    rw [law08_triggers_1] at h
    refine Run.seq (Run.seq (Run.region ?_))
    refine Run.opG wantS_none (ex_move rfl) rfl ?_
    refine Run.opG wantS_none (ex_move rfl) rfl ?_
    refine Run.opG wantS_none (ex_len' rfl hv0 lenk22) rfl ?_
    refine Run.opG wantS_none (ex_lss rfl rfl) rfl ?_
    refine Run.opsEnd ?_
    rcases btf ((decide (v5 < (v0.length : Int)))) with hc22 | hc22
    · have h := bif_t hc22 h
      refine Run.condT' rfl hc22 ?_
      refine Run.skip (Run.seq (Run.block (Run.seq ?_)))
      refine Run.drawG plan25_1_1_0_1_0_0_1_0_0_0 ?_
      refine DrawG.fl rfl (ev_ex wantS_none (ex_move rfl)) rfl ?_
      refine DrawG.fl rfl (ev_ex wantS_none (ex_move rfl)) rfl ?_
      obtain ⟨x23, hx23, h⟩ := bnd_some h
      obtain ⟨p23, o23, _, hx23, hp23, rfl⟩ := sl_elem (P := Try.prog) (t := 22) (kk := .i64) hv0 hx23 els22
      refine DrawG.fl rfl (ev_ex wantS_none (ex_elX rfl rfl hx23)) rfl ?_
      refine DrawG.fl rfl (ev_ex wantS_none (ex_loadA rfl (hH.ptrF hp23) rdLe_rfl agg76 rfl rfl rfl)) rfl ?_
      refine DrawG.fl rfl (ev_ex wantS_none (ex_move rfl)) rfl ?_
      refine DrawG.fl rfl (ev_ex wantS_none (ex_move rfl)) rfl ?_
      obtain ⟨x24, hx24, h⟩ := bnd_some h
      obtain ⟨p24, o24, _, hx24, hp24, rfl⟩ := sl_elem (P := Try.prog) (t := 22) (kk := .i64) hv1 hx24 els22
      refine DrawG.fl rfl (ev_ex wantS_none (ex_elX rfl rfl hx24)) rfl ?_
      refine DrawG.fl rfl (ev_ex wantS_none (ex_loadA rfl (hH.ptrF hp24) rdLe_rfl agg76 rfl rfl rfl)) rfl ?_
      refine DrawG.fl rfl (ev_ex wantS_none (ex_neqA rfl rfl aeq76 (eqA_st agk76 (eqFs_cons (by decide) (part_one agg3 rfl) (part_one agg3 rfl) (eqA_int agk3) (eqFs_cons (by decide) (part_one agg3 rfl) (part_one agg3 rfl) (eqA_int agk3) (eqFs_cons (by decide) (part_one agg3 rfl) (part_one agg3 rfl) (eqA_int agk3) eqFs_nil)))))) rfl ?_
      refine DrawG.sync ?_
      refine DrawG.nil ?_
      rcases btf ((!((x23.Time == x24.Time) && ((x23.Loud == x24.Loud) && ((x23.Template == x24.Template) && true))))) with hc25 | hc25
      · have h := bif_t hc25 h
        refine Run.condT' rfl hc25 ?_
        refine Run.seq (Run.region ?_)
        refine Run.opG wantS_none (ex_assign rfl) rfl ?_
        refine Run.opsEnd ?_
        cases h
        exact Run.ret Try.func25 rfl (res_tmp rfl res_nil) rfl
      · have h := bif_f hc25 h
        refine Run.condF' rfl hc25 ?_
        refine Run.skip (Run.inBlock (Run.region ?_))
        refine Run.opG wantS_none (ex_move rfl) rfl ?_
        refine Run.opG wantS_none (ex_add rfl rfl) rfl ?_
        refine Run.opG wantS_none (ex_assign rfl) rfl ?_
        refine Run.opsEnd (Run.inLoop ?_)
        exact Run.pick [0, 1, 5] (ih v0 v1 (w64 (v5 + (1 : Int))) sv0 sv1 _ _ _ hv0 hv1 hH h)
    · have h := bif_f hc22 h
      refine Run.condF' rfl hc22 ?_
      refine Run.exit rfl (Run.seq (Run.region ?_))
      refine Run.opG wantS_none (ex_assign rfl) rfl ?_
      refine Run.opsEnd ?_
      cases h
      exact Run.ret Try.func25 rfl (res_tmp rfl res_nil) rfl

def law08_triggers (F : Nat) (a0 : (List S_api_Trigger)) (a1 : (List S_api_Trigger)) : Option (Bool) :=
  bif (!((a0.length : Int) == (a1.length : Int))) then
    some false
  else
    law08_triggers_1 F F a0 a1 (0 : Int)

theorem law08_triggers_ok (F : Nat) (a0 : (List S_api_Trigger)) (a1 : (List S_api_Trigger)) (s0 s1 : SV) (r : Bool) (M : Mem) (hs0 : Slc (rd M) 3 (FlatR enc76) s0 a0) (hs1 : Slc (rd M) 3 (FlatR enc76) s1 a1) (h : law08_triggers F a0 a1 = some r) : CallsM Try.prog 25 [s0, s1] M (fun s M' => s = (.bool r) ∧ M' = M) := by
  refine CallsM.plain Try.func25 rfl rfl rfl (show Run _ _ _ (law08_triggers_post r) _ _ _ from ?_)
  rw [law08_triggers] at h
  replace hs0 := hs0.mono (rdLe_frozen M) (fun _ _ h => h)
  replace hs1 := hs1.mono (rdLe_frozen M) (fun _ _ h => h)
  have hH := Has.nil (frozen M)
  refine Run.seq (Run.region ?_)
  refine Run.opG wantS_none (ex_assign rfl) rfl ?_
  refine Run.opsEnd (Run.seq (Run.seq (Run.region ?_)))
  refine Run.opG wantS_none (ex_move rfl) rfl ?_
  refine Run.opG wantS_none (ex_len' rfl hs0 lenk22) rfl ?_
  refine Run.opG wantS_none (ex_move rfl) rfl ?_
  refine Run.opG wantS_none (ex_len' rfl hs1 lenk22) rfl ?_
  refine Run.opG wantS_none (ex_neq rfl rfl) rfl ?_
  refine Run.opsEnd ?_
  rcases btf ((!((a0.length : Int) == (a1.length : Int)))) with hc21 | hc21
  · have h := bif_t hc21 h
    refine Run.condT' rfl hc21 ?_
    refine Run.seq (Run.region ?_)
    refine Run.opG wantS_none (ex_assign rfl) rfl ?_
    refine Run.opsEnd ?_
    cases h
    exact Run.ret Try.func25 rfl (res_tmp rfl res_nil) rfl
  · have h := bif_f hc21 h
    refine Run.condF' rfl hc21 ?_
    refine Run.skip (Run.seq (Run.seq (Run.region ?_)))
    refine Run.opG wantS_none (ex_assign rfl) rfl ?_
    refine Run.opsEnd (Run.block (Run.loop ?_))
    exact Run.pick [0, 1, 5] (law08_triggers_1_ok F F a0 a1 (0 : Int) s0 s1 _ _ _ hs0 hs1 hH h)

theorem mkk25 : makeK Try.prog 25 = none := by kernel_rfl
theorem cal25 : callable Try.prog 25 = true := by kernel_rfl
theorem off24_1 : fieldOff Try.prog 24 1 = some 1 := by kernel_rfl
theorem off24_2 : fieldOff Try.prog 24 2 = some 2 := by kernel_rfl
def enc3 (a : Int) : List SV := [(.int .i64 a)]
theorem enc3_len (a : Int) : (enc3 a).length = 1 := rfl
theorem enc3_ones (a : Int) : ones (enc3 a) = true := rfl
theorem zer3 : zerosOf Try.prog 3 = some [(.int .i64 0)] := by kernel_rfl
theorem mkk57 : makeK Try.prog 57 = none := by kernel_rfl
theorem cal57 : callable Try.prog 57 = true := by kernel_rfl
theorem cal105 : callable Try.prog 105 = true := by kernel_rfl
end Go.Ev.SearchSlides
