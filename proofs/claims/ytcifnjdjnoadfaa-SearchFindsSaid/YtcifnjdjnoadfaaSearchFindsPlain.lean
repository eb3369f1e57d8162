/- Plain functions that say what functions of the program come to, and proofs of it, written by a program of the verifier's own. -/
import Derived.Test.YtcifnjdjnoadfaaEvL11
import Derived.Test.YtcifnjdjnoadfaaEvL13
import Derived.Test.YtcifnjdjnoadfaaWorks
import Derived.KernelRfl
namespace Go.Ev.SearchFinds
open Go Go.Ev Go.Proofs
set_option maxRecDepth 100000
set_option linter.unusedVariables false

/-- The listed tables. -/
noncomputable def fixes : List (Nat × List SV) := Go.Proofs.Ytcifnjdjnoadfaa.works.fixes
/-- works() comes to true. -/
def works (_ : Nat) : Option Bool := some true
theorem fixH {Fr : Rd} {H : List Ent} {M : Mem} (hH : Has Fr M H) : FixIn M fixes := fun x hx => absurd hx List.not_mem_nil

theorem works_ok (F : Nat) (r : Bool) {Fr : Rd} {H : List Ent} (M : Mem) (hH : Has Fr M H) (h : works F = some r) : CallsM Try.prog 22 [] M fun s M' => s = .bool r ∧ M' = M := by
  cases h
  exact CallsM.closedFix (n := 300) (l := Go.Proofs.Ytcifnjdjnoadfaa.works.fixes) Go.Proofs.Ytcifnjdjnoadfaa.works.below Go.Proofs.Ytcifnjdjnoadfaa.works.plainF Go.Proofs.Ytcifnjdjnoadfaa.works.works_true (fun x hx => absurd hx List.not_mem_nil)


structure S_api_Trigger where
  Time : Int
  Loud : Int
  Template : Int

structure S_api_Wave where
  At : Int
  Gain : Int
  Samples : (List Int)

structure S_ringdownlaw08_Range where
  Samples : Int
  Window : Int

def enc76 (a : S_api_Trigger) : List SV := [(.int .i64 a.Time), (.int .i64 a.Loud), (.int .i64 a.Template)]
theorem enc76_len (a : S_api_Trigger) : (enc76 a).length = 3 := rfl
theorem enc76_ones (a : S_api_Trigger) : ones (enc76 a) = true := rfl
def enc3 (a : Int) : List SV := [(.int .i64 a)]
theorem enc3_len (a : Int) : (enc3 a).length = 1 := rfl
theorem enc3_ones (a : Int) : ones (enc3 a) = true := rfl
def rep83 (f : Rd) (cs : List SV) (a : S_api_Wave) : Prop := ∃ q1, cs = [(.int .i64 a.At), (.int .i64 a.Gain), q1] ∧ Slc f 1 (FlatR enc3) q1 a.Samples
theorem rep83_mo {f g : Rd} (h : RdLe f g) {cs : List SV} {a : S_api_Wave} : rep83 f cs a → rep83 g cs a := by
  rintro ⟨q1, rfl, h0⟩
  exact ⟨q1, rfl, h0.mono h (fun _ _ h => h)⟩
theorem rep83_len {f : Rd} {cs : List SV} {a : S_api_Wave} : rep83 f cs a → cs.length = 3 := by
  rintro ⟨_, rfl, h0⟩
  rfl
theorem rep83_ones {f : Rd} {cs : List SV} {a : S_api_Wave} : rep83 f cs a → ones cs = true := by
  rintro ⟨_, rfl, h0⟩
  exact (ones_cons rfl (ones_cons rfl (ones_cons (slc_one h0) ones_nil)))
theorem off64_0 : fieldOff Try.prog 64 0 = some 0 := by kernel_rfl
theorem agg3 : aggSize Try.prog 3 = some none := by kernel_rfl
theorem off64_1 : fieldOff Try.prog 64 1 = some 1 := by kernel_rfl
def enc4 (a : Bool) : List SV := [(.bool a)]
theorem enc4_len (a : Bool) : (enc4 a).length = 1 := rfl
theorem enc4_ones (a : Bool) : ones (enc4 a) = true := rfl
def rep22 (f : Rd) (cs : List SV) (a : (List S_api_Trigger)) : Prop := ∃ q1, cs = [q1] ∧ Slc f 3 (FlatR enc76) q1 a
theorem rep22_mo {f g : Rd} (h : RdLe f g) {cs : List SV} {a : (List S_api_Trigger)} : rep22 f cs a → rep22 g cs a := by
  rintro ⟨q1, rfl, h0⟩
  exact ⟨q1, rfl, h0.mono h (fun _ _ h => h)⟩
theorem rep22_len {f : Rd} {cs : List SV} {a : (List S_api_Trigger)} : rep22 f cs a → cs.length = 1 := by
  rintro ⟨_, rfl, h0⟩
  rfl
theorem rep22_ones {f : Rd} {cs : List SV} {a : (List S_api_Trigger)} : rep22 f cs a → ones cs = true := by
  rintro ⟨_, rfl, h0⟩
  exact (ones_cons (slc_one h0) ones_nil)
theorem elt132 : sliceElt Try.prog 132 = some (⟨1, 24, [.nils], 22⟩ : Elt) := by kernel_rfl
theorem lenk132 : lenK Try.prog 132 = some .sl := by kernel_rfl
theorem els132 : elems Try.prog 132 = some (.sl 1) := by kernel_rfl
theorem agg22 : aggSize Try.prog 22 = some none := by kernel_rfl
theorem lenk22 : lenK Try.prog 22 = some .sl := by kernel_rfl
theorem els22 : elems Try.prog 22 = some (.sl 3) := by kernel_rfl
theorem agg76 : aggSize Try.prog 76 = some (some 3) := by kernel_rfl
theorem zer76 : zerosOf Try.prog 76 = some [(.int .i64 0), (.int .i64 0), (.int .i64 0)] := by kernel_rfl
theorem sz76 : szOf Try.prog 76 = some 3 := by kernel_rfl
theorem off76_0 : fieldOff Try.prog 76 0 = some 0 := by kernel_rfl
abbrev search_isFrom_post (r : Bool) : SV → Mem → Prop := fun s _ => s = (.bool r)

def search_isFrom_1 (F : Nat) (v14 : Bool) : Option (Bool) :=
  some v14

theorem search_isFrom_1_ok (F : Nat) : ∀ (v14 : Bool) (Fr : Rd) (M : Mem) (r : Bool) (hH : Has Fr M []), search_isFrom_1 F v14 = some r → Run Try.prog ⟨⟨62, [], none⟩, []⟩ 15 (search_isFrom_post r) [(14, (.bool v14))] [itemC Try.prog 62 [1, 0] 8, codeC Try.prog 62 [1, 1]] M := by
  intro v14 Fr M r hH h
  rw [search_isFrom_1] at h
  refine Run.opG wantS_none (ex_assign rfl) rfl ?_
  refine Run.opsEnd ?_
  cases h
  exact Run.ret Try.func62 rfl (res_tmp rfl res_nil) rfl

def search_isFrom (F : Nat) (a0 : Int) (a1 : Int) (a2 : Int) : Option (Bool) :=
  bif (decide (a0 ≤ a1)) then
    search_isFrom_1 F (decide (a1 ≤ a2))
  else
    search_isFrom_1 F false

theorem search_isFrom_ok (F : Nat) (a0 : Int) (a1 : Int) (a2 : Int) (r : Bool) (M : Mem) (h : search_isFrom F a0 a1 a2 = some r) : CallsM Try.prog 62 [(.int .i64 a0), (.int .i64 a1), (.int .i64 a2)] M (fun s M' => s = (.bool r) ∧ M' = M) := by
  refine CallsM.plain Try.func62 rfl rfl rfl (show Run _ _ _ (search_isFrom_post r) _ _ _ from ?_)
  rw [search_isFrom] at h
  have hH := Has.nil (frozen M)
  refine Run.seq (Run.region ?_)
  refine Run.opG wantS_none (ex_assign rfl) rfl ?_
  refine Run.opsEnd (Run.seq (Run.region ?_))
  refine Run.opG wantS_none (ex_move rfl) rfl ?_
  refine Run.opG wantS_none (ex_move rfl) rfl ?_
  refine Run.opG wantS_none (ex_leq rfl rfl) rfl ?_
  refine Run.opG wantS_none (ex_move rfl) rfl ?_
  rcases btf ((decide (a0 ≤ a1))) with hc21 | hc21
  · have h := bif_t hc21 h
    refine Run.opG (wantS_yes' rfl rfl hc21) (ex_move rfl) rfl ?_
    refine Run.opG (wantS_yes' rfl rfl hc21) (ex_move rfl) rfl ?_
    refine Run.opG (wantS_yes' rfl rfl hc21) (ex_leq rfl rfl) rfl ?_
    refine Run.opG wantS_none (ex_pickT' rfl hc21 rfl rfl) rfl ?_
    exact Run.pick [14] (search_isFrom_1_ok F (decide (a1 ≤ a2)) _ _ _ hH h)
  · have h := bif_f hc21 h
    refine Run.no (wantS_not' rfl rfl hc21) rfl ?_
    refine Run.no (wantS_not' rfl rfl hc21) rfl ?_
    refine Run.no (wantS_not' rfl rfl hc21) rfl ?_
    refine Run.opG wantS_none (ex_pickF' rfl hc21 rfl rfl) rfl ?_
    exact Run.pick [14] (search_isFrom_1_ok F false _ _ _ hH h)

theorem mkk62 : makeK Try.prog 62 = none := by kernel_rfl
theorem cal62 : callable Try.prog 62 = true := by kernel_rfl
theorem off76_2 : fieldOff Try.prog 76 2 = some 2 := by kernel_rfl
theorem off76_1 : fieldOff Try.prog 76 1 = some 1 := by kernel_rfl
abbrev search_areTriggers_post (r : Bool) : SV → Mem → Prop := fun s _ => s = (.bool r)

def search_areTriggers_3 (F : Nat) (hd1 : Int → (List S_api_Trigger) → Int → Int → Option (Bool)) (v9 : (List S_api_Trigger)) (v10 : Int) (v11 : Int) (v32 : Bool) (c26 : S_api_Trigger) : Option (Bool) :=
  bif v32 then
    some false
  else
    hd1 c26.Time v9 v10 (w64 (v11 + (1 : Int)))

theorem search_areTriggers_3_ok (F : Nat) (hd1 : Int → (List S_api_Trigger) → Int → Int → Option (Bool)) (hhd1 : ∀ (v3 : Int) (v9 : (List S_api_Trigger)) (v10 : Int) (v11 : Int) (sv9 : SV) (Fr : Rd) (M : Mem) (r : Bool) (hv9 : Slc Fr 3 (FlatR enc76) sv9 v9) (hH : Has Fr M []), hd1 v3 v9 v10 v11 = some r → Run Try.prog ⟨⟨99, [], none⟩, []⟩ 36 (search_areTriggers_post r) [(3, (.int .i64 v3)), (9, sv9), (10, (.int .i64 v10)), (11, (.int .i64 v11))] [codeC Try.prog 99 [1, 1, 1, 0, 1, 0, 0], loopC Try.prog 99 [1, 1, 1, 0, 1, 0, 0], .inBlock 0, codeC Try.prog 99 [1, 1, 1, 1]] M) : ∀ (v9 : (List S_api_Trigger)) (v10 : Int) (v11 : Int) (v32 : Bool) (c26 : S_api_Trigger) (sv9 : SV) (b26 : Pos) (Fr : Rd) (M : Mem) (r : Bool) (hv9 : Slc Fr 3 (FlatR enc76) sv9 v9) (hH : Has Fr M [.obj b26 (.row 76 .whole [(.int .i64 c26.Time), (.int .i64 c26.Loud), (.int .i64 c26.Template)])]), search_areTriggers_3 F hd1 v9 v10 v11 v32 c26 = some r → Run Try.prog ⟨⟨99, [], none⟩, []⟩ 36 (search_areTriggers_post r) [(5, (.ptr b26 0)), (9, sv9), (10, (.int .i64 v10)), (11, (.int .i64 v11)), (32, (.bool v32))] [codeC Try.prog 99 [1, 1, 1, 0, 1, 0, 0, 1, 1, 0, 0, 1, 0, 1], codeC Try.prog 99 [1, 1, 1, 0, 1, 0, 0, 1, 1, 0, 0, 1, 1], .inBlock 1, codeC Try.prog 99 [1, 1, 1, 0, 1, 0, 0, 1, 1, 1], loopC Try.prog 99 [1, 1, 1, 0, 1, 0, 0], .inBlock 0, codeC Try.prog 99 [1, 1, 1, 1]] M := by
  intro v9 v10 v11 v32 c26 sv9 b26 Fr M r hv9 hH h
  rw [search_areTriggers_3] at h
  rcases btf (v32) with hc34 | hc34
  · have h := bif_t hc34 h
    refine Run.condT' rfl hc34 ?_
    refine Run.seq (Run.region ?_)
    refine Run.opG wantS_none (ex_assign rfl) rfl ?_
    refine Run.opsEnd ?_
    cases h
    exact Run.ret Try.func99 rfl (res_tmp rfl res_nil) rfl
  · have h := bif_f hc34 h
    refine Run.condF' rfl hc34 ?_
    refine Run.skip (Run.region ?_)
    refine Run.opG wantS_none (ex_fieldAddr rfl off76_0) rfl ?_
    refine Run.opG wantS_none (ex_load1 rfl (hH.cells (i := 0) rfl 0 rfl) rdLe_rfl agg3) rfl ?_
    refine Run.opG wantS_none (ex_assign rfl) rfl ?_
    refine Run.opsEnd (Run.inBlock (Run.region ?_))
    refine Run.opG wantS_none (ex_add rfl rfl) rfl ?_
    refine Run.opG wantS_none (ex_move rfl) rfl ?_
    refine Run.opsEnd (Run.inLoop ?_)
    exact Run.pick [3, 9, 10, 11] (hhd1 c26.Time v9 v10 (w64 (v11 + (1 : Int))) sv9 _ _ _ hv9 (hH.pick [] rfl rfl) h)

def search_areTriggers_2 (F : Nat) (hd1 : Int → (List S_api_Trigger) → Int → Int → Option (Bool)) (v9 : (List S_api_Trigger)) (v10 : Int) (v11 : Int) (v26 : Bool) (c26 : S_api_Trigger) : Option (Bool) :=
  bif v26 then
    search_areTriggers_3 F hd1 v9 v10 v11 true c26
  else
    bnd (search_isFrom F (0 : Int) c26.Template (255 : Int)) fun r36 =>
    search_areTriggers_3 F hd1 v9 v10 v11 (!r36) c26

theorem search_areTriggers_2_ok (F : Nat) (hd1 : Int → (List S_api_Trigger) → Int → Int → Option (Bool)) (hhd1 : ∀ (v3 : Int) (v9 : (List S_api_Trigger)) (v10 : Int) (v11 : Int) (sv9 : SV) (Fr : Rd) (M : Mem) (r : Bool) (hv9 : Slc Fr 3 (FlatR enc76) sv9 v9) (hH : Has Fr M []), hd1 v3 v9 v10 v11 = some r → Run Try.prog ⟨⟨99, [], none⟩, []⟩ 36 (search_areTriggers_post r) [(3, (.int .i64 v3)), (9, sv9), (10, (.int .i64 v10)), (11, (.int .i64 v11))] [codeC Try.prog 99 [1, 1, 1, 0, 1, 0, 0], loopC Try.prog 99 [1, 1, 1, 0, 1, 0, 0], .inBlock 0, codeC Try.prog 99 [1, 1, 1, 1]] M) : ∀ (v9 : (List S_api_Trigger)) (v10 : Int) (v11 : Int) (v26 : Bool) (c26 : S_api_Trigger) (sv9 : SV) (b26 : Pos) (Fr : Rd) (M : Mem) (r : Bool) (hv9 : Slc Fr 3 (FlatR enc76) sv9 v9) (hH : Has Fr M [.obj b26 (.row 76 .whole [(.int .i64 c26.Time), (.int .i64 c26.Loud), (.int .i64 c26.Template)])]), search_areTriggers_2 F hd1 v9 v10 v11 v26 c26 = some r → Run Try.prog ⟨⟨99, [], none⟩, []⟩ 36 (search_areTriggers_post r) [(5, (.ptr b26 0)), (9, sv9), (10, (.int .i64 v10)), (11, (.int .i64 v11)), (26, (.bool v26))] [itemC Try.prog 99 [1, 1, 1, 0, 1, 0, 0, 1, 1, 0, 0, 1, 0, 0] 12, codeC Try.prog 99 [1, 1, 1, 0, 1, 0, 0, 1, 1, 0, 0, 1, 0, 1], codeC Try.prog 99 [1, 1, 1, 0, 1, 0, 0, 1, 1, 0, 0, 1, 1], .inBlock 1, codeC Try.prog 99 [1, 1, 1, 0, 1, 0, 0, 1, 1, 1], loopC Try.prog 99 [1, 1, 1, 0, 1, 0, 0], .inBlock 0, codeC Try.prog 99 [1, 1, 1, 1]] M := by
  intro v9 v10 v11 v26 c26 sv9 b26 Fr M r hv9 hH h
  rw [search_areTriggers_2] at h
  refine Run.opG wantS_none (ex_move rfl) rfl ?_
  rcases btf (v26) with hc33 | hc33
  · have h := bif_t hc33 h
    refine Run.no (wantS_not' rfl rfl hc33) rfl ?_
    refine Run.no (wantS_not' rfl rfl hc33) rfl ?_
    refine Run.no (wantS_not' rfl rfl hc33) rfl ?_
    refine Run.no (wantS_not' rfl rfl hc33) rfl ?_
    refine Run.opG wantS_none (ex_pickT' rfl hc33 rfl rfl) rfl ?_
    refine Run.opsEnd ?_
    exact Run.pick [5, 9, 10, 11, 32] (search_areTriggers_3_ok F hd1 hhd1 v9 v10 v11 true c26 sv9 b26 _ _ _ hv9 hH h)
  · have h := bif_f hc33 h
    refine Run.opG (wantS_yes' rfl rfl hc33) (ex_fieldAddr rfl off76_2) rfl ?_
    refine Run.opG (wantS_yes' rfl rfl hc33) (ex_load1 rfl (hH.cells (i := 0) rfl 2 rfl) rdLe_rfl agg3) rfl ?_
    obtain ⟨r36, hr36, h⟩ := bnd_some h
    refine Run.callP (wantS_yes' rfl rfl hc33) (ex_call rfl mkk62 cal62) rfl (search_isFrom_ok F (0 : Int) c26.Template (255 : Int) _ _ hr36) ?_
    refine Run.opG (wantS_yes' rfl rfl hc33) (ex_not rfl) rfl ?_
    refine Run.opG wantS_none (ex_pickF' rfl hc33 rfl rfl) rfl ?_
    refine Run.opsEnd ?_
    exact Run.pick [5, 9, 10, 11, 32] (search_areTriggers_3_ok F hd1 hhd1 v9 v10 v11 (!r36) c26 sv9 b26 _ _ _ hv9 hH h)

def search_areTriggers_1 (F : Nat) : Nat → Int → (List S_api_Trigger) → Int → Int → Option (Bool)
  | 0, _, _, _, _ => none
  | N + 1, v3, v9, v10, v11 =>
    bif (decide (v11 < v10)) then
      bnd (idx v9 v11) fun x24 =>
      bnd (search_isFrom F (w64 (v3 + (1 : Int))) x24.Time (1073741823 : Int)) fun r30 =>
      bif (!r30) then
        search_areTriggers_2 F (search_areTriggers_1 F N) v9 v10 v11 true x24
      else
        bnd (search_isFrom F (0 : Int) x24.Loud (1073741824 : Int)) fun r39 =>
        search_areTriggers_2 F (search_areTriggers_1 F N) v9 v10 v11 (!r39) x24
    else
      some true

theorem search_areTriggers_1_ok (F : Nat) : ∀ (N : Nat), ∀ (v3 : Int) (v9 : (List S_api_Trigger)) (v10 : Int) (v11 : Int) (sv9 : SV) (Fr : Rd) (M : Mem) (r : Bool) (hv9 : Slc Fr 3 (FlatR enc76) sv9 v9) (hH : Has Fr M []), search_areTriggers_1 F N v3 v9 v10 v11 = some r → Run Try.prog ⟨⟨99, [], none⟩, []⟩ 36 (search_areTriggers_post r) [(3, (.int .i64 v3)), (9, sv9), (10, (.int .i64 v10)), (11, (.int .i64 v11))] [codeC Try.prog 99 [1, 1, 1, 0, 1, 0, 0], loopC Try.prog 99 [1, 1, 1, 0, 1, 0, 0], .inBlock 0, codeC Try.prog 99 [1, 1, 1, 1]] M := by
  intro N
  induction N with
  | zero =>
    intro v3 v9 v10 v11 sv9 Fr M r hv9 hH h
    simp [search_areTriggers_1] at h
  | succ N ih =>
    intro v3 v9 v10 v11 sv9 Fr M r hv9 hH h
    rw [search_areTriggers_1] at h
    refine Run.seq (Run.region ?_)
    refine Run.opG wantS_none (ex_lss rfl rfl) rfl ?_
    refine Run.opsEnd (Run.seq ?_)
    rcases btf ((decide (v11 < v10))) with hc22 | hc22
    · have h := bif_t hc22 h
      refine Run.condT' rfl hc22 ?_
      refine Run.skip (Run.seq (Run.block (Run.seq (Run.region ?_))))
      obtain ⟨x24, hx24, h⟩ := bnd_some h
      obtain ⟨p24, o24, _, hx24, hp24, rfl⟩ := sl_elem (P := Try.prog) (t := 22) (kk := .i64) hv9 hx24 els22
      refine Run.opG wantS_none (ex_elX rfl rfl hx24) rfl ?_
      refine Run.opG wantS_none (ex_loadA rfl (hH.ptrF hp24) rdLe_rfl agg76 rfl rfl rfl) rfl ?_
      refine Run.opX wantS_none rfl (ExG.new (v := fun b => .ptr b 0) (ex_alloc zer76) hH) ?_
      rintro _ M27 ⟨b26, rfl, (hH27 : Has Fr M27 [.obj b26 (.row 76 .whole [(.int .i64 0), (.int .i64 0), (.int .i64 0)])])⟩
      refine Run.opX wantS_none rfl (ExG.storeC (c' := [(.int .i64 x24.Time), (.int .i64 x24.Loud), (.int .i64 x24.Template)]) rfl rfl rfl hH27 (i := 0) rfl sz76 rfl rfl rfl rfl rfl) ?_
      rintro _ M28 ⟨rfl, (hH28 : Has Fr M28 [.obj b26 (.row 76 .whole [(.int .i64 x24.Time), (.int .i64 x24.Loud), (.int .i64 x24.Template)])])⟩
      refine Run.opsEnd (Run.seq (Run.seq (Run.region ?_)))
      refine Run.opG wantS_none (ex_move rfl) rfl ?_
      refine Run.opG wantS_none (ex_add rfl rfl) rfl ?_
      refine Run.opG wantS_none (ex_fieldAddr rfl off76_0) rfl ?_
      refine Run.opG wantS_none (ex_load1 rfl (hH28.cells (i := 0) rfl 0 rfl) rdLe_rfl agg3) rfl ?_
      obtain ⟨r30, hr30, h⟩ := bnd_some h
      refine Run.callP wantS_none (ex_call rfl mkk62 cal62) rfl (search_isFrom_ok F (w64 (v3 + (1 : Int))) x24.Time (1073741823 : Int) _ _ hr30) ?_
      refine Run.opG wantS_none (ex_not rfl) rfl ?_
      refine Run.opG wantS_none (ex_move rfl) rfl ?_
      rcases btf ((!r30)) with hc32 | hc32
      · have h := bif_t hc32 h
        refine Run.no (wantS_not' rfl rfl hc32) rfl ?_
        refine Run.no (wantS_not' rfl rfl hc32) rfl ?_
        refine Run.no (wantS_not' rfl rfl hc32) rfl ?_
        refine Run.no (wantS_not' rfl rfl hc32) rfl ?_
        refine Run.opG wantS_none (ex_pickT' rfl hc32 rfl rfl) rfl ?_
        exact Run.pick [5, 9, 10, 11, 26] (search_areTriggers_2_ok F (search_areTriggers_1 F N) ih v9 v10 v11 true x24 sv9 b26 _ _ _ hv9 hH28 h)
      · have h := bif_f hc32 h
        refine Run.opG (wantS_yes' rfl rfl hc32) (ex_fieldAddr rfl off76_1) rfl ?_
        refine Run.opG (wantS_yes' rfl rfl hc32) (ex_load1 rfl (hH28.cells (i := 0) rfl 1 rfl) rdLe_rfl agg3) rfl ?_
        obtain ⟨r39, hr39, h⟩ := bnd_some h
        refine Run.callP (wantS_yes' rfl rfl hc32) (ex_call rfl mkk62 cal62) rfl (search_isFrom_ok F (0 : Int) x24.Loud (1073741824 : Int) _ _ hr39) ?_
        refine Run.opG (wantS_yes' rfl rfl hc32) (ex_not rfl) rfl ?_
        refine Run.opG wantS_none (ex_pickF' rfl hc32 rfl rfl) rfl ?_
        exact Run.pick [5, 9, 10, 11, 26] (search_areTriggers_2_ok F (search_areTriggers_1 F N) ih v9 v10 v11 (!r39) x24 sv9 b26 _ _ _ hv9 hH28 h)
    · have h := bif_f hc22 h
      refine Run.condF' rfl hc22 ?_
      refine Run.exit rfl (Run.seq (Run.region ?_))
      refine Run.opG wantS_none (ex_assign rfl) rfl ?_
      refine Run.opsEnd ?_
      cases h
      exact Run.ret Try.func99 rfl (res_tmp rfl res_nil) rfl

def search_areTriggers (F : Nat) (a0 : (List S_api_Trigger)) : Option (Bool) :=
  bif (decide ((256 : Int) < (a0.length : Int))) then
    some false
  else
    search_areTriggers_1 F F ((-1) : Int) a0 (a0.length : Int) (0 : Int)

theorem search_areTriggers_ok (F : Nat) (a0 : (List S_api_Trigger)) (s0 : SV) (r : Bool) (M : Mem) (hs0 : Slc (rd M) 3 (FlatR enc76) s0 a0) (h : search_areTriggers F a0 = some r) : CallsM Try.prog 99 [s0] M (fun s M' => s = (.bool r) ∧ M' = M) := by
  refine CallsM.plain Try.func99 rfl rfl rfl (show Run _ _ _ (search_areTriggers_post r) _ _ _ from ?_)
  rw [search_areTriggers] at h
  replace hs0 := hs0.mono (rdLe_frozen M) (fun _ _ h => h)
  have hH := Has.nil (frozen M)
  refine Run.seq (Run.region ?_)
  refine Run.opG wantS_none (ex_assign rfl) rfl ?_
  refine Run.opsEnd (Run.seq (Run.seq (Run.region ?_)))
  refine Run.opG wantS_none (ex_move rfl) rfl ?_
  refine Run.opG wantS_none (ex_len' rfl hs0 lenk22) rfl ?_
  refine Run.opG wantS_none (ex_gtr rfl rfl) rfl ?_
  refine Run.opsEnd ?_
  rcases btf ((decide ((256 : Int) < (a0.length : Int)))) with hc21 | hc21
  · have h := bif_t hc21 h
    refine Run.condT' rfl hc21 ?_
    refine Run.seq (Run.region ?_)
    refine Run.opG wantS_none (ex_assign rfl) rfl ?_
    refine Run.opsEnd ?_
    cases h
    exact Run.ret Try.func99 rfl (res_tmp rfl res_nil) rfl
  · have h := bif_f hc21 h
    refine Run.condF' rfl hc21 ?_
    refine Run.skip (Run.seq (Run.region ?_))
    refine Run.opG wantS_none (ex_assign rfl) rfl ?_
    refine Run.opsEnd (Run.seq (Run.seq (Run.region ?_)))
    refine Run.opG wantS_none (ex_move rfl) rfl ?_
    refine Run.opG wantS_none (ex_len' rfl hs0 lenk22) rfl ?_
    refine Run.opG wantS_none (ex_move rfl) rfl ?_
    refine Run.opsEnd (Run.block (Run.loop ?_))
    exact Run.pick [3, 9, 10, 11] (search_areTriggers_1_ok F F ((-1) : Int) a0 (a0.length : Int) (0 : Int) s0 _ _ _ hs0 hH h)

theorem mkk99 : makeK Try.prog 99 = none := by kernel_rfl
theorem cal99 : callable Try.prog 99 = true := by kernel_rfl
abbrev search_checkTriggers_post (r : Int) : SV → Mem → Prop := fun s _ => s = (.int .i64 r)

def search_checkTriggers_1 (F : Nat) : Nat → (List (List S_api_Trigger)) → Int → Int → Option (Int)
  | 0, _, _, _ => none
  | N + 1, v5, v6, v7 =>
    bif (decide (v7 < v6)) then
      bnd (idx v5 v7) fun x23 =>
      bnd (search_areTriggers F x23) fun r25 =>
      bif (!r25) then
        some (80 : Int)
      else
        (search_checkTriggers_1 F N) v5 v6 (w64 (v7 + (1 : Int)))
    else
      some (0 : Int)

theorem search_checkTriggers_1_ok (F : Nat) : ∀ (N : Nat), ∀ (v5 : (List (List S_api_Trigger))) (v6 : Int) (v7 : Int) (sv5 : SV) (Fr : Rd) (M : Mem) (r : Int) (hv5 : Slc Fr 1 (rep22 Fr) sv5 v5) (hH : Has Fr M []), search_checkTriggers_1 F N v5 v6 v7 = some r → Run Try.prog ⟨⟨54, [], none⟩, []⟩ 15 (search_checkTriggers_post r) [(5, sv5), (6, (.int .i64 v6)), (7, (.int .i64 v7))] [codeC Try.prog 54 [1, 0, 1, 0, 0], loopC Try.prog 54 [1, 0, 1, 0, 0], .inBlock 0, codeC Try.prog 54 [1, 1]] M := by
  intro N
  induction N with
  | zero =>
    intro v5 v6 v7 sv5 Fr M r hv5 hH h
    simp [search_checkTriggers_1] at h
  | succ N ih =>
    intro v5 v6 v7 sv5 Fr M r hv5 hH h
    rw [search_checkTriggers_1] at h
    refine Run.seq (Run.region ?_)
    refine Run.opG wantS_none (ex_lss rfl rfl) rfl ?_
    refine Run.opsEnd (Run.seq ?_)
    rcases btf ((decide (v7 < v6))) with hc21 | hc21
    · have h := bif_t hc21 h
      refine Run.condT' rfl hc21 ?_
      refine Run.skip (Run.seq (Run.block (Run.seq (Run.region ?_))))
      obtain ⟨x23, hx23, h⟩ := bnd_some h
      obtain ⟨p23, o23, _, hx23, hp23, ⟨q23_0, rfl, hq23_0⟩⟩ := sl_elem (P := Try.prog) (t := 132) (kk := .i64) hv5 hx23 els132
      refine Run.opG wantS_none (ex_elX rfl rfl hx23) rfl ?_
      refine Run.opG wantS_none (ex_load1 rfl (hH.ptrF hp23) rdLe_rfl agg22) rfl ?_
      refine Run.opG wantS_none (ex_assign rfl) rfl ?_
      refine Run.opsEnd (Run.seq (Run.region ?_))
      refine Run.opG wantS_none (ex_move rfl) rfl ?_
      obtain ⟨r25, hr25, h⟩ := bnd_some h
      refine Run.callP wantS_none (ex_call rfl mkk99 cal99) rfl (search_areTriggers_ok F x23 q23_0 _ _ (hH.slcF hq23_0) hr25) ?_
      refine Run.opG wantS_none (ex_not rfl) rfl ?_
      refine Run.opsEnd ?_
      rcases btf ((!r25)) with hc27 | hc27
      · have h := bif_t hc27 h
        refine Run.condT' rfl hc27 ?_
        refine Run.seq (Run.region ?_)
        refine Run.opG wantS_none (ex_assign rfl) rfl ?_
        refine Run.opsEnd ?_
        cases h
        exact Run.ret Try.func54 rfl (res_tmp rfl res_nil) rfl
      · have h := bif_f hc27 h
        refine Run.condF' rfl hc27 ?_
        refine Run.skip (Run.inBlock (Run.region ?_))
        refine Run.opG wantS_none (ex_add rfl rfl) rfl ?_
        refine Run.opG wantS_none (ex_move rfl) rfl ?_
        refine Run.opsEnd (Run.inLoop ?_)
        exact Run.pick [5, 6, 7] (ih v5 v6 (w64 (v7 + (1 : Int))) sv5 _ _ _ hv5 hH h)
    · have h := bif_f hc21 h
      refine Run.condF' rfl hc21 ?_
      refine Run.exit rfl (Run.seq (Run.region ?_))
      refine Run.opG wantS_none (ex_assign rfl) rfl ?_
      refine Run.opsEnd ?_
      cases h
      exact Run.ret Try.func54 rfl (res_tmp rfl res_nil) rfl

def search_checkTriggers (F : Nat) (a0 : (List (List S_api_Trigger))) : Option (Int) :=
  search_checkTriggers_1 F F a0 (a0.length : Int) (0 : Int)

theorem search_checkTriggers_ok (F : Nat) (a0 : (List (List S_api_Trigger))) (s0 : SV) (r : Int) (M : Mem) (hs0 : Slc (rd M) 1 (rep22 (rd M)) s0 a0) (h : search_checkTriggers F a0 = some r) : CallsM Try.prog 54 [s0] M (fun s M' => s = (.int .i64 r) ∧ M' = M) := by
  refine CallsM.plain Try.func54 rfl rfl rfl (show Run _ _ _ (search_checkTriggers_post r) _ _ _ from ?_)
  rw [search_checkTriggers] at h
  replace hs0 := hs0.mono (rdLe_frozen M) (fun _ _ => rep22_mo (rdLe_frozen M))
  have hH := Has.nil (frozen M)
  refine Run.seq (Run.region ?_)
  refine Run.opG wantS_none (ex_assign rfl) rfl ?_
  refine Run.opsEnd (Run.seq (Run.seq (Run.region ?_)))
  refine Run.opG wantS_none (ex_move rfl) rfl ?_
  refine Run.opG wantS_none (ex_len' rfl hs0 lenk132) rfl ?_
  refine Run.opG wantS_none (ex_move rfl) rfl ?_
  refine Run.opsEnd (Run.block (Run.loop ?_))
  exact Run.pick [5, 6, 7] (search_checkTriggers_1_ok F F a0 (a0.length : Int) (0 : Int) s0 _ _ _ hs0 hH h)

theorem mkk54 : makeK Try.prog 54 = none := by kernel_rfl
theorem cal54 : callable Try.prog 54 = true := by kernel_rfl
theorem lenk55 : lenK Try.prog 55 = some .sl := by kernel_rfl
theorem els55 : elems Try.prog 55 = some (.sl 3) := by kernel_rfl
theorem agg83 : aggSize Try.prog 83 = some (some 3) := by kernel_rfl
theorem zer83 : zerosOf Try.prog 83 = some [(.int .i64 0), (.int .i64 0), .nils] := by kernel_rfl
theorem sz83 : szOf Try.prog 83 = some 3 := by kernel_rfl
theorem off83_1 : fieldOff Try.prog 83 1 = some 1 := by kernel_rfl
theorem off83_2 : fieldOff Try.prog 83 2 = some 2 := by kernel_rfl
theorem agg38 : aggSize Try.prog 38 = some none := by kernel_rfl
theorem lenk38 : lenK Try.prog 38 = some .sl := by kernel_rfl
theorem mkk131 : makeK Try.prog 131 = none := by kernel_rfl
theorem cal131 : callable Try.prog 131 = true := by kernel_rfl
theorem mkk136 : makeK Try.prog 136 = none := by kernel_rfl
theorem cal136 : callable Try.prog 136 = true := by kernel_rfl
theorem els38 : elems Try.prog 38 = some (.sl 1) := by kernel_rfl
theorem mkk130 : makeK Try.prog 130 = none := by kernel_rfl
theorem cal130 : callable Try.prog 130 = true := by kernel_rfl
abbrev search_areFrom_post (r : Bool) : SV → Mem → Prop := fun s _ => s = (.bool r)

def search_areFrom_1 (F : Nat) : Nat → (List Int) → Int → Int → Int → Option (Bool)
  | 0, _, _, _, _ => none
  | N + 1, v0, v7, v8, c22_0 =>
    bif (decide (v8 < v7)) then
      bnd (idx v0 v8) fun x26 =>
      bnd (search_isFrom F (w64 (-c22_0)) x26 c22_0) fun r28 =>
      bif (!r28) then
        some (!(decide ((0 : Int) ≤ v8)))
      else
        (search_areFrom_1 F N) v0 v7 (w64 (v8 + (1 : Int))) c22_0
    else
      some (!(decide ((0 : Int) ≤ ((-1) : Int))))

theorem search_areFrom_1_ok (F : Nat) : ∀ (N : Nat), ∀ (v0 : (List Int)) (v7 : Int) (v8 : Int) (c22_0 : Int) (sv0 : SV) (b22 : Pos) (Fr : Rd) (M : Mem) (r : Bool) (hv0 : Slc Fr 1 (FlatR enc3) sv0 v0) (hH : Has Fr M [.obj b22 (.row 3 .whole [(.int .i64 c22_0)])]), search_areFrom_1 F N v0 v7 v8 c22_0 = some r → Run Try.prog ⟨⟨136, [], none⟩, [.mk ⟨131, [], none⟩ 9 (treeOf []) [itemC Try.prog 131 [1, 0] 2, codeC Try.prog 131 [1, 1]], .mk ⟨113, [], none⟩ 11 (treeOf []) [itemC Try.prog 113 [1, 1, 0] 2, codeC Try.prog 113 [1, 1, 1]]]⟩ 19 (search_areFrom_post r) [(0, sv0), (1, (.fn (.func 130) [] [(.ptr b22 0)])), (7, (.int .i64 v7)), (8, (.int .i64 v8))] [codeC Try.prog 136 [1, 0, 1, 0, 0], loopC Try.prog 136 [1, 0, 1, 0, 0], .inBlock 0, codeC Try.prog 136 [1, 1]] M := by
  intro N
  induction N with
  | zero =>
    intro v0 v7 v8 c22_0 sv0 b22 Fr M r hv0 hH h
    simp [search_areFrom_1] at h
  | succ N ih =>
    intro v0 v7 v8 c22_0 sv0 b22 Fr M r hv0 hH h
    rw [search_areFrom_1] at h
    refine Run.seq (Run.region ?_)
    refine Run.opG wantS_none (ex_lss rfl rfl) rfl ?_
    refine Run.opsEnd (Run.seq ?_)
    rcases btf ((decide (v8 < v7))) with hc24 | hc24
    · have h := bif_t hc24 h
      refine Run.condT' rfl hc24 ?_
      refine Run.skip (Run.seq (Run.block (Run.seq (Run.region ?_))))
      refine Run.opG wantS_none (ex_move rfl) rfl ?_
      refine Run.opG wantS_none (ex_assign rfl) rfl ?_
      refine Run.opsEnd (Run.seq (Run.region ?_))
      refine Run.opG wantS_none (ex_move rfl) rfl ?_
      refine Run.opG wantS_none (ex_move rfl) rfl ?_
      refine Run.opG wantS_none (ex_move rfl) rfl ?_
      obtain ⟨x26, hx26, h⟩ := bnd_some h
      obtain ⟨p26, o26, _, hx26, hp26, rfl⟩ := sl_elem (P := Try.prog) (t := 38) (kk := .i64) hv0 hx26 els38
      refine Run.opG wantS_none (ex_elX rfl rfl hx26) rfl ?_
      refine Run.opG wantS_none (ex_load1 rfl (hH.ptrF hp26) rdLe_rfl agg3) rfl ?_
      refine Run.enter wantS_none (ex_closure rfl rfl mkk130 cal130) Try.func130 rfl rfl ?_
      refine Run.seq (Run.region ?_)
      refine Run.opG wantS_none (ex_assign rfl) rfl ?_
      refine Run.opsEnd (Run.seq (Run.region ?_))
      refine Run.opG wantS_none (ex_load1 rfl (hH.cells (i := 0) rfl 0 rfl) rdLe_rfl agg3) rfl ?_
      refine Run.opG wantS_none (ex_neg rfl) rfl ?_
      refine Run.opG wantS_none (ex_move rfl) rfl ?_
      refine Run.opG wantS_none (ex_load1 rfl (hH.cells (i := 0) rfl 0 rfl) rdLe_rfl agg3) rfl ?_
      obtain ⟨r28, hr28, h⟩ := bnd_some h
      refine Run.callP wantS_none (ex_call rfl mkk62 cal62) rfl (search_isFrom_ok F (w64 (-c22_0)) x26 c22_0 _ _ hr28) ?_
      refine Run.opG wantS_none (ex_not rfl) rfl ?_
      refine Run.opG wantS_none (ex_assign rfl) rfl ?_
      refine Run.opsEnd ?_
      refine Run.retTo Try.func130 rfl (res_tmp rfl res_nil) rfl ?_
      refine Run.opsEnd ?_
      rcases btf ((!r28)) with hc30 | hc30
      · have h := bif_t hc30 h
        refine Run.condT' rfl hc30 ?_
        refine Run.seq (Run.region ?_)
        refine Run.opG wantS_none (ex_move rfl) rfl ?_
        refine Run.opG wantS_none (ex_assign rfl) rfl ?_
        refine Run.opsEnd ?_
        refine Run.retTo Try.func136 rfl (res_tmp rfl res_nil) rfl ?_
        refine Run.opG wantS_none (ex_geq rfl rfl) rfl ?_
        refine Run.opG wantS_none (ex_assign rfl) rfl ?_
        refine Run.opsEnd ?_
        refine Run.retTo Try.func131 rfl (res_tmp rfl res_nil) rfl ?_
        refine Run.opG wantS_none (ex_not rfl) rfl ?_
        refine Run.opG wantS_none (ex_assign rfl) rfl ?_
        refine Run.opsEnd ?_
        cases h
        exact Run.ret Try.func113 rfl (res_tmp rfl res_nil) rfl
      · have h := bif_f hc30 h
        refine Run.condF' rfl hc30 ?_
        refine Run.skip (Run.inBlock (Run.region ?_))
        refine Run.opG wantS_none (ex_add rfl rfl) rfl ?_
        refine Run.opG wantS_none (ex_move rfl) rfl ?_
        refine Run.opsEnd (Run.inLoop ?_)
        exact Run.low (.cons (fle_pick [] rfl) (.cons (fle_pick [] rfl) .nil)) (Run.pick [0, 1, 7, 8] (ih v0 v7 (w64 (v8 + (1 : Int))) c22_0 sv0 b22 _ _ _ hv0 hH h))
    · have h := bif_f hc24 h
      refine Run.condF' rfl hc24 ?_
      refine Run.exit rfl (Run.seq (Run.region ?_))
      refine Run.opG wantS_none (ex_assign rfl) rfl ?_
      refine Run.opsEnd ?_
      refine Run.retTo Try.func136 rfl (res_tmp rfl res_nil) rfl ?_
      refine Run.opG wantS_none (ex_geq rfl rfl) rfl ?_
      refine Run.opG wantS_none (ex_assign rfl) rfl ?_
      refine Run.opsEnd ?_
      refine Run.retTo Try.func131 rfl (res_tmp rfl res_nil) rfl ?_
      refine Run.opG wantS_none (ex_not rfl) rfl ?_
      refine Run.opG wantS_none (ex_assign rfl) rfl ?_
      refine Run.opsEnd ?_
      cases h
      exact Run.ret Try.func113 rfl (res_tmp rfl res_nil) rfl

def search_areFrom (F : Nat) (a0 : (List Int)) (a1 : Int) : Option (Bool) :=
  search_areFrom_1 F F a0 (a0.length : Int) (0 : Int) a1

theorem search_areFrom_ok (F : Nat) (a0 : (List Int)) (a1 : Int) (s0 : SV) (r : Bool) (M : Mem) (hs0 : Slc (rd M) 1 (FlatR enc3) s0 a0) (h : search_areFrom F a0 a1 = some r) : CallsM Try.prog 113 [s0, (.int .i64 a1)] M (fun s M' => s = (.bool r) ∧ M' = M) := by
  refine CallsM.plain Try.func113 rfl rfl rfl (show Run _ _ _ (search_areFrom_post r) _ _ _ from ?_)
  rw [search_areFrom] at h
  replace hs0 := hs0.mono (rdLe_frozen M) (fun _ _ h => h)
  have hH := Has.nil (frozen M)
  refine Run.seq (Run.region ?_)
  refine Run.opX wantS_none rfl (ExG.box rfl rfl hH) ?_
  rintro _ M23 ⟨b22, rfl, (hH23 : Has (ro (frozen M)) M23 [.obj b22 (.row 3 .whole [(.int .i64 a1)])])⟩
  refine Run.opG wantS_none (ex_assign rfl) rfl ?_
  refine Run.opsEnd (Run.seq (Run.region ?_))
  refine Run.opG wantS_none (ex_makeFunc rfl rfl) rfl ?_
  refine Run.opG wantS_none (ex_assign rfl) rfl ?_
  refine Run.opsEnd (Run.seq (Run.region ?_))
  refine Run.opG wantS_none (ex_move rfl) rfl ?_
  refine Run.opG wantS_none (ex_move rfl) rfl ?_
  refine Run.enter wantS_none (ex_call rfl mkk131 cal131) Try.func131 rfl rfl ?_
  refine Run.seq (Run.region ?_)
  refine Run.opG wantS_none (ex_assign rfl) rfl ?_
  refine Run.opsEnd (Run.seq (Run.region ?_))
  refine Run.opG wantS_none (ex_move rfl) rfl ?_
  refine Run.opG wantS_none (ex_move rfl) rfl ?_
  refine Run.enter wantS_none (ex_call rfl mkk136 cal136) Try.func136 rfl rfl ?_
  refine Run.seq (Run.region ?_)
  refine Run.opG wantS_none (ex_assign rfl) rfl ?_
  refine Run.opsEnd (Run.seq (Run.seq (Run.region ?_)))
  refine Run.opG wantS_none (ex_move rfl) rfl ?_
  refine Run.opG wantS_none (ex_len' rfl hs0 lenk38) rfl ?_
  refine Run.opG wantS_none (ex_move rfl) rfl ?_
  refine Run.opsEnd (Run.block (Run.loop ?_))
  exact Run.low (.cons (fle_pick [] rfl) (.cons (fle_pick [] rfl) .nil)) (Run.pick [0, 1, 7, 8] (search_areFrom_1_ok F F a0 (a0.length : Int) (0 : Int) a1 s0 b22 _ _ _ hs0 hH23 h))

theorem mkk113 : makeK Try.prog 113 = none := by kernel_rfl
theorem cal113 : callable Try.prog 113 = true := by kernel_rfl
abbrev search_isWave_post (r : Bool) : SV → Mem → Prop := fun s _ => s = (.bool r)

def search_isWave_2 (F : Nat) (v16 : Bool) : Option (Bool) :=
  some v16

theorem search_isWave_2_ok (F : Nat) : ∀ (v16 : Bool) (Fr : Rd) (M : Mem) (r : Bool) (hH : Has Fr M []), search_isWave_2 F v16 = some r → Run Try.prog ⟨⟨123, [], none⟩, []⟩ 17 (search_isWave_post r) [(16, (.bool v16))] [itemC Try.prog 123 [1, 0] 14, codeC Try.prog 123 [1, 1]] M := by
  intro v16 Fr M r hH h
  rw [search_isWave_2] at h
  refine Run.opG wantS_none (ex_assign rfl) rfl ?_
  refine Run.opsEnd ?_
  cases h
  exact Run.ret Try.func123 rfl (res_tmp rfl res_nil) rfl

def search_isWave_1 (F : Nat) (v11 : Bool) (c22_0 : Int) (c22_1 : Int) (c22_2 : (List Int)) : Option (Bool) :=
  bif v11 then
    bnd (search_areFrom F c22_2 (256 : Int)) fun r33 =>
    search_isWave_2 F r33
  else
    search_isWave_2 F false

theorem search_isWave_1_ok (F : Nat) : ∀ (v11 : Bool) (c22_0 : Int) (c22_1 : Int) (c22_2 : (List Int)) (sc22_2 : SV) (b22 : Pos) (Fr : Rd) (M : Mem) (r : Bool) (hc22_2 : Slc Fr 1 (FlatR enc3) sc22_2 c22_2) (hH : Has Fr M [.obj b22 (.row 83 .whole [(.int .i64 c22_0), (.int .i64 c22_1), sc22_2])]), search_isWave_1 F v11 c22_0 c22_1 c22_2 = some r → Run Try.prog ⟨⟨123, [], none⟩, []⟩ 17 (search_isWave_post r) [(1, (.ptr b22 0)), (11, (.bool v11))] [itemC Try.prog 123 [1, 0] 9, codeC Try.prog 123 [1, 1]] M := by
  intro v11 c22_0 c22_1 c22_2 sc22_2 b22 Fr M r hc22_2 hH h
  rw [search_isWave_1] at h
  refine Run.opG wantS_none (ex_move rfl) rfl ?_
  rcases btf (v11) with hc31 | hc31
  · have h := bif_t hc31 h
    refine Run.opG (wantS_yes' rfl rfl hc31) (ex_fieldAddr rfl off83_2) rfl ?_
    refine Run.opG (wantS_yes' rfl rfl hc31) (ex_load1 rfl (hH.cells (i := 0) rfl 2 rfl) rdLe_rfl agg38) rfl ?_
    obtain ⟨r33, hr33, h⟩ := bnd_some h
    refine Run.callP (wantS_yes' rfl rfl hc31) (ex_call rfl mkk113 cal113) rfl (search_areFrom_ok F c22_2 (256 : Int) sc22_2 _ _ (hH.slcF hc22_2) hr33) ?_
    refine Run.opG wantS_none (ex_pickT' rfl hc31 rfl rfl) rfl ?_
    exact Run.pick [16] (search_isWave_2_ok F r33 _ _ _ (hH.pick [] rfl rfl) h)
  · have h := bif_f hc31 h
    refine Run.no (wantS_not' rfl rfl hc31) rfl ?_
    refine Run.no (wantS_not' rfl rfl hc31) rfl ?_
    refine Run.no (wantS_not' rfl rfl hc31) rfl ?_
    refine Run.opG wantS_none (ex_pickF' rfl hc31 rfl rfl) rfl ?_
    exact Run.pick [16] (search_isWave_2_ok F false _ _ _ (hH.pick [] rfl rfl) h)

def search_isWave (F : Nat) (a0 : S_api_Wave) : Option (Bool) :=
  bnd (search_isFrom F ((-64) : Int) a0.Gain (64 : Int)) fun r25 =>
  bif r25 then
    bnd (search_isFrom F (1 : Int) (a0.Samples.length : Int) (64 : Int)) fun r29 =>
    search_isWave_1 F r29 a0.At a0.Gain a0.Samples
  else
    search_isWave_1 F false a0.At a0.Gain a0.Samples

theorem search_isWave_ok (F : Nat) (a0 : S_api_Wave) (s0 : SV) (r : Bool) (M : Mem) (hs0 : Slc (rd M) 1 (FlatR enc3) s0 a0.Samples) (h : search_isWave F a0 = some r) : CallsM Try.prog 123 [(.agg [(.int .i64 a0.At), (.int .i64 a0.Gain), s0])] M (fun s M' => s = (.bool r) ∧ M' = M) := by
  refine CallsM.plain Try.func123 rfl rfl rfl (show Run _ _ _ (search_isWave_post r) _ _ _ from ?_)
  rw [search_isWave] at h
  replace hs0 := hs0.mono (rdLe_frozen M) (fun _ _ h => h)
  have hH := Has.nil (frozen M)
  refine Run.seq (Run.region ?_)
  refine Run.opX wantS_none rfl (ExG.box rfl rfl hH) ?_
  rintro _ M23 ⟨b22, rfl, (hH23 : Has (ro (frozen M)) M23 [.obj b22 (.row 83 .whole [(.int .i64 a0.At), (.int .i64 a0.Gain), s0])])⟩
  refine Run.opG wantS_none (ex_assign rfl) rfl ?_
  refine Run.opsEnd (Run.seq (Run.region ?_))
  refine Run.opG wantS_none (ex_fieldAddr rfl off83_1) rfl ?_
  refine Run.opG wantS_none (ex_load1 rfl (hH23.cells (i := 0) rfl 1 rfl) rdLe_rfl agg3) rfl ?_
  obtain ⟨r25, hr25, h⟩ := bnd_some h
  refine Run.callP wantS_none (ex_call rfl mkk62 cal62) rfl (search_isFrom_ok F ((-64) : Int) a0.Gain (64 : Int) _ _ hr25) ?_
  refine Run.opG wantS_none (ex_move rfl) rfl ?_
  rcases btf (r25) with hc27 | hc27
  · have h := bif_t hc27 h
    refine Run.opG (wantS_yes' rfl rfl hc27) (ex_fieldAddr rfl off83_2) rfl ?_
    refine Run.opG (wantS_yes' rfl rfl hc27) (ex_load1 rfl (hH23.cells (i := 0) rfl 2 rfl) rdLe_rfl agg38) rfl ?_
    refine Run.opG (wantS_yes' rfl rfl hc27) (ex_len' rfl hs0 lenk38) rfl ?_
    obtain ⟨r29, hr29, h⟩ := bnd_some h
    refine Run.callP (wantS_yes' rfl rfl hc27) (ex_call rfl mkk62 cal62) rfl (search_isFrom_ok F (1 : Int) (a0.Samples.length : Int) (64 : Int) _ _ hr29) ?_
    refine Run.opG wantS_none (ex_pickT' rfl hc27 rfl rfl) rfl ?_
    exact Run.pick [1, 11] (search_isWave_1_ok F r29 a0.At a0.Gain a0.Samples s0 b22 _ _ _ hs0 hH23 h)
  · have h := bif_f hc27 h
    refine Run.no (wantS_not' rfl rfl hc27) rfl ?_
    refine Run.no (wantS_not' rfl rfl hc27) rfl ?_
    refine Run.no (wantS_not' rfl rfl hc27) rfl ?_
    refine Run.no (wantS_not' rfl rfl hc27) rfl ?_
    refine Run.opG wantS_none (ex_pickF' rfl hc27 rfl rfl) rfl ?_
    exact Run.pick [1, 11] (search_isWave_1_ok F false a0.At a0.Gain a0.Samples s0 b22 _ _ _ hs0 hH23 h)

theorem mkk123 : makeK Try.prog 123 = none := by kernel_rfl
theorem cal123 : callable Try.prog 123 = true := by kernel_rfl
theorem off83_0 : fieldOff Try.prog 83 0 = some 0 := by kernel_rfl
abbrev search_areWaves_post (r : Bool) : SV → Mem → Prop := fun s _ => s = (.bool r)

def search_areWaves_2 (F : Nat) (hd1 : Int → Int → (List S_api_Wave) → Int → Int → Option (Bool)) (v1 : Int) (v11 : (List S_api_Wave)) (v12 : Int) (v13 : Int) (v32 : Bool) (c26_0 : Int) (c26_1 : Int) (c26_2 : (List Int)) : Option (Bool) :=
  bif v32 then
    some false
  else
    hd1 v1 c26_0 v11 v12 (w64 (v13 + (1 : Int)))

theorem search_areWaves_2_ok (F : Nat) (hd1 : Int → Int → (List S_api_Wave) → Int → Int → Option (Bool)) (hhd1 : ∀ (v1 : Int) (v5 : Int) (v11 : (List S_api_Wave)) (v12 : Int) (v13 : Int) (sv11 : SV) (Fr : Rd) (M : Mem) (r : Bool) (hv11 : Slc Fr 3 (rep83 Fr) sv11 v11) (hH : Has Fr M []), hd1 v1 v5 v11 v12 v13 = some r → Run Try.prog ⟨⟨89, [], none⟩, []⟩ 36 (search_areWaves_post r) [(1, (.int .i64 v1)), (5, (.int .i64 v5)), (11, sv11), (12, (.int .i64 v12)), (13, (.int .i64 v13))] [codeC Try.prog 89 [1, 1, 1, 0, 1, 0, 0], loopC Try.prog 89 [1, 1, 1, 0, 1, 0, 0], .inBlock 0, codeC Try.prog 89 [1, 1, 1, 1]] M) : ∀ (v1 : Int) (v11 : (List S_api_Wave)) (v12 : Int) (v13 : Int) (v32 : Bool) (c26_0 : Int) (c26_1 : Int) (c26_2 : (List Int)) (sv11 : SV) (sc26_2 : SV) (b26 : Pos) (Fr : Rd) (M : Mem) (r : Bool) (hv11 : Slc Fr 3 (rep83 Fr) sv11 v11) (hc26_2 : Slc Fr 1 (FlatR enc3) sc26_2 c26_2) (hH : Has Fr M [.obj b26 (.row 83 .whole [(.int .i64 c26_0), (.int .i64 c26_1), sc26_2])]), search_areWaves_2 F hd1 v1 v11 v12 v13 v32 c26_0 c26_1 c26_2 = some r → Run Try.prog ⟨⟨89, [], none⟩, []⟩ 36 (search_areWaves_post r) [(1, (.int .i64 v1)), (7, (.ptr b26 0)), (11, sv11), (12, (.int .i64 v12)), (13, (.int .i64 v13)), (32, (.bool v32))] [codeC Try.prog 89 [1, 1, 1, 0, 1, 0, 0, 1, 1, 0, 0, 1, 0, 1], codeC Try.prog 89 [1, 1, 1, 0, 1, 0, 0, 1, 1, 0, 0, 1, 1], .inBlock 1, codeC Try.prog 89 [1, 1, 1, 0, 1, 0, 0, 1, 1, 1], loopC Try.prog 89 [1, 1, 1, 0, 1, 0, 0], .inBlock 0, codeC Try.prog 89 [1, 1, 1, 1]] M := by
  intro v1 v11 v12 v13 v32 c26_0 c26_1 c26_2 sv11 sc26_2 b26 Fr M r hv11 hc26_2 hH h
  rw [search_areWaves_2] at h
  rcases btf (v32) with hc33 | hc33
  · have h := bif_t hc33 h
    refine Run.condT' rfl hc33 ?_
    refine Run.seq (Run.region ?_)
    refine Run.opG wantS_none (ex_assign rfl) rfl ?_
    refine Run.opsEnd ?_
    cases h
    exact Run.ret Try.func89 rfl (res_tmp rfl res_nil) rfl
  · have h := bif_f hc33 h
    refine Run.condF' rfl hc33 ?_
    refine Run.skip (Run.region ?_)
    refine Run.opG wantS_none (ex_fieldAddr rfl off83_0) rfl ?_
    refine Run.opG wantS_none (ex_load1 rfl (hH.cells (i := 0) rfl 0 rfl) rdLe_rfl agg3) rfl ?_
    refine Run.opG wantS_none (ex_assign rfl) rfl ?_
    refine Run.opsEnd (Run.inBlock (Run.region ?_))
    refine Run.opG wantS_none (ex_add rfl rfl) rfl ?_
    refine Run.opG wantS_none (ex_move rfl) rfl ?_
    refine Run.opsEnd (Run.inLoop ?_)
    exact Run.pick [1, 5, 11, 12, 13] (hhd1 v1 c26_0 v11 v12 (w64 (v13 + (1 : Int))) sv11 _ _ _ hv11 (hH.pick [] rfl rfl) h)

def search_areWaves_1 (F : Nat) : Nat → Int → Int → (List S_api_Wave) → Int → Int → Option (Bool)
  | 0, _, _, _, _, _ => none
  | N + 1, v1, v5, v11, v12, v13 =>
    bif (decide (v13 < v12)) then
      bnd (idx v11 v13) fun x24 =>
      bnd (search_isWave F x24) fun r30 =>
      bif (!r30) then
        search_areWaves_2 F (search_areWaves_1 F N) v1 v11 v12 v13 true x24.At x24.Gain x24.Samples
      else
        bnd (search_isFrom F (w64 (v5 + (1 : Int))) x24.At (w64 (v1 - (x24.Samples.length : Int)))) fun r35 =>
        search_areWaves_2 F (search_areWaves_1 F N) v1 v11 v12 v13 (!r35) x24.At x24.Gain x24.Samples
    else
      some true

theorem search_areWaves_1_ok (F : Nat) : ∀ (N : Nat), ∀ (v1 : Int) (v5 : Int) (v11 : (List S_api_Wave)) (v12 : Int) (v13 : Int) (sv11 : SV) (Fr : Rd) (M : Mem) (r : Bool) (hv11 : Slc Fr 3 (rep83 Fr) sv11 v11) (hH : Has Fr M []), search_areWaves_1 F N v1 v5 v11 v12 v13 = some r → Run Try.prog ⟨⟨89, [], none⟩, []⟩ 36 (search_areWaves_post r) [(1, (.int .i64 v1)), (5, (.int .i64 v5)), (11, sv11), (12, (.int .i64 v12)), (13, (.int .i64 v13))] [codeC Try.prog 89 [1, 1, 1, 0, 1, 0, 0], loopC Try.prog 89 [1, 1, 1, 0, 1, 0, 0], .inBlock 0, codeC Try.prog 89 [1, 1, 1, 1]] M := by
  intro N
  induction N with
  | zero =>
    intro v1 v5 v11 v12 v13 sv11 Fr M r hv11 hH h
    simp [search_areWaves_1] at h
  | succ N ih =>
    intro v1 v5 v11 v12 v13 sv11 Fr M r hv11 hH h
    rw [search_areWaves_1] at h
    refine Run.seq (Run.region ?_)
    refine Run.opG wantS_none (ex_lss rfl rfl) rfl ?_
    refine Run.opsEnd (Run.seq ?_)
    rcases btf ((decide (v13 < v12))) with hc22 | hc22
    · have h := bif_t hc22 h
      refine Run.condT' rfl hc22 ?_
      refine Run.skip (Run.seq (Run.block (Run.seq (Run.region ?_))))
      obtain ⟨x24, hx24, h⟩ := bnd_some h
      obtain ⟨p24, o24, _, hx24, hp24, ⟨q24_0, rfl, hq24_0⟩⟩ := sl_elem (P := Try.prog) (t := 55) (kk := .i64) hv11 hx24 els55
      refine Run.opG wantS_none (ex_elX rfl rfl hx24) rfl ?_
      refine Run.opG wantS_none (ex_loadA rfl (hH.ptrF hp24) rdLe_rfl agg83 rfl rfl rfl) rfl ?_
      refine Run.opX wantS_none rfl (ExG.new (v := fun b => .ptr b 0) (ex_alloc zer83) hH) ?_
      rintro _ M27 ⟨b26, rfl, (hH27 : Has Fr M27 [.obj b26 (.row 83 .whole [(.int .i64 0), (.int .i64 0), .nils])])⟩
      refine Run.opX wantS_none rfl (ExG.storeC (c' := [(.int .i64 x24.At), (.int .i64 x24.Gain), q24_0]) rfl rfl rfl hH27 (i := 0) rfl sz83 rfl rfl rfl (ones_cons rfl (ones_cons rfl (ones_cons (slc_one hq24_0) ones_nil))) rfl) ?_
      rintro _ M28 ⟨rfl, (hH28 : Has Fr M28 [.obj b26 (.row 83 .whole [(.int .i64 x24.At), (.int .i64 x24.Gain), q24_0])])⟩
      refine Run.opsEnd (Run.seq (Run.seq (Run.region ?_)))
      refine Run.opG wantS_none (ex_loadA rfl (hH28.cells (i := 0) rfl 0 rfl) rdLe_rfl agg83 rfl rfl rfl) rfl ?_
      obtain ⟨r30, hr30, h⟩ := bnd_some h
      refine Run.callP wantS_none (ex_call rfl mkk123 cal123) rfl (search_isWave_ok F x24 q24_0 _ _ (hH28.slcF hq24_0) hr30) ?_
      refine Run.opG wantS_none (ex_not rfl) rfl ?_
      refine Run.opG wantS_none (ex_move rfl) rfl ?_
      rcases btf ((!r30)) with hc32 | hc32
      · have h := bif_t hc32 h
        refine Run.no (wantS_not' rfl rfl hc32) rfl ?_
        refine Run.no (wantS_not' rfl rfl hc32) rfl ?_
        refine Run.no (wantS_not' rfl rfl hc32) rfl ?_
        refine Run.no (wantS_not' rfl rfl hc32) rfl ?_
        refine Run.no (wantS_not' rfl rfl hc32) rfl ?_
        refine Run.no (wantS_not' rfl rfl hc32) rfl ?_
        refine Run.no (wantS_not' rfl rfl hc32) rfl ?_
        refine Run.no (wantS_not' rfl rfl hc32) rfl ?_
        refine Run.no (wantS_not' rfl rfl hc32) rfl ?_
        refine Run.no (wantS_not' rfl rfl hc32) rfl ?_
        refine Run.no (wantS_not' rfl rfl hc32) rfl ?_
        refine Run.opG wantS_none (ex_pickT' rfl hc32 rfl rfl) rfl ?_
        refine Run.opsEnd ?_
        exact Run.pick [1, 7, 11, 12, 13, 32] (search_areWaves_2_ok F (search_areWaves_1 F N) ih v1 v11 v12 v13 true x24.At x24.Gain x24.Samples sv11 q24_0 b26 _ _ _ hv11 hq24_0 hH28 h)
      · have h := bif_f hc32 h
        refine Run.opG (wantS_yes' rfl rfl hc32) (ex_move rfl) rfl ?_
        refine Run.opG (wantS_yes' rfl rfl hc32) (ex_add rfl rfl) rfl ?_
        refine Run.opG (wantS_yes' rfl rfl hc32) (ex_fieldAddr rfl off83_0) rfl ?_
        refine Run.opG (wantS_yes' rfl rfl hc32) (ex_load1 rfl (hH28.cells (i := 0) rfl 0 rfl) rdLe_rfl agg3) rfl ?_
        refine Run.opG (wantS_yes' rfl rfl hc32) (ex_move rfl) rfl ?_
        refine Run.opG (wantS_yes' rfl rfl hc32) (ex_fieldAddr rfl off83_2) rfl ?_
        refine Run.opG (wantS_yes' rfl rfl hc32) (ex_load1 rfl (hH28.cells (i := 0) rfl 2 rfl) rdLe_rfl agg38) rfl ?_
        refine Run.opG (wantS_yes' rfl rfl hc32) (ex_len' rfl hq24_0 lenk38) rfl ?_
        refine Run.opG (wantS_yes' rfl rfl hc32) (ex_sub rfl rfl) rfl ?_
        obtain ⟨r35, hr35, h⟩ := bnd_some h
        refine Run.callP (wantS_yes' rfl rfl hc32) (ex_call rfl mkk62 cal62) rfl (search_isFrom_ok F (w64 (v5 + (1 : Int))) x24.At (w64 (v1 - (x24.Samples.length : Int))) _ _ hr35) ?_
        refine Run.opG (wantS_yes' rfl rfl hc32) (ex_not rfl) rfl ?_
        refine Run.opG wantS_none (ex_pickF' rfl hc32 rfl rfl) rfl ?_
        refine Run.opsEnd ?_
        exact Run.pick [1, 7, 11, 12, 13, 32] (search_areWaves_2_ok F (search_areWaves_1 F N) ih v1 v11 v12 v13 (!r35) x24.At x24.Gain x24.Samples sv11 q24_0 b26 _ _ _ hv11 hq24_0 hH28 h)
    · have h := bif_f hc22 h
      refine Run.condF' rfl hc22 ?_
      refine Run.exit rfl (Run.seq (Run.region ?_))
      refine Run.opG wantS_none (ex_assign rfl) rfl ?_
      refine Run.opsEnd ?_
      cases h
      exact Run.ret Try.func89 rfl (res_tmp rfl res_nil) rfl

def search_areWaves (F : Nat) (a0 : (List S_api_Wave)) (a1 : Int) : Option (Bool) :=
  bif (decide ((64 : Int) < (a0.length : Int))) then
    some false
  else
    search_areWaves_1 F F a1 ((-1) : Int) a0 (a0.length : Int) (0 : Int)

theorem search_areWaves_ok (F : Nat) (a0 : (List S_api_Wave)) (a1 : Int) (s0 : SV) (r : Bool) (M : Mem) (hs0 : Slc (rd M) 3 (rep83 (rd M)) s0 a0) (h : search_areWaves F a0 a1 = some r) : CallsM Try.prog 89 [s0, (.int .i64 a1)] M (fun s M' => s = (.bool r) ∧ M' = M) := by
  refine CallsM.plain Try.func89 rfl rfl rfl (show Run _ _ _ (search_areWaves_post r) _ _ _ from ?_)
  rw [search_areWaves] at h
  replace hs0 := hs0.mono (rdLe_frozen M) (fun _ _ => rep83_mo (rdLe_frozen M))
  have hH := Has.nil (frozen M)
  refine Run.seq (Run.region ?_)
  refine Run.opG wantS_none (ex_assign rfl) rfl ?_
  refine Run.opsEnd (Run.seq (Run.seq (Run.region ?_)))
  refine Run.opG wantS_none (ex_move rfl) rfl ?_
  refine Run.opG wantS_none (ex_len' rfl hs0 lenk55) rfl ?_
  refine Run.opG wantS_none (ex_gtr rfl rfl) rfl ?_
  refine Run.opsEnd ?_
  rcases btf ((decide ((64 : Int) < (a0.length : Int)))) with hc21 | hc21
  · have h := bif_t hc21 h
    refine Run.condT' rfl hc21 ?_
    refine Run.seq (Run.region ?_)
    refine Run.opG wantS_none (ex_assign rfl) rfl ?_
    refine Run.opsEnd ?_
    cases h
    exact Run.ret Try.func89 rfl (res_tmp rfl res_nil) rfl
  · have h := bif_f hc21 h
    refine Run.condF' rfl hc21 ?_
    refine Run.skip (Run.seq (Run.region ?_))
    refine Run.opG wantS_none (ex_assign rfl) rfl ?_
    refine Run.opsEnd (Run.seq (Run.seq (Run.region ?_)))
    refine Run.opG wantS_none (ex_move rfl) rfl ?_
    refine Run.opG wantS_none (ex_len' rfl hs0 lenk55) rfl ?_
    refine Run.opG wantS_none (ex_move rfl) rfl ?_
    refine Run.opsEnd (Run.block (Run.loop ?_))
    exact Run.pick [1, 5, 11, 12, 13] (search_areWaves_1_ok F F a1 ((-1) : Int) a0 (a0.length : Int) (0 : Int) s0 _ _ _ hs0 hH h)

theorem mkk89 : makeK Try.prog 89 = none := by kernel_rfl
theorem cal89 : callable Try.prog 89 = true := by kernel_rfl
theorem mkk91 : makeK Try.prog 91 = none := by kernel_rfl
theorem cal91 : callable Try.prog 91 = true := by kernel_rfl
theorem mkk111 : makeK Try.prog 111 = none := by kernel_rfl
theorem cal111 : callable Try.prog 111 = true := by kernel_rfl
theorem mkk90 : makeK Try.prog 90 = none := by kernel_rfl
theorem cal90 : callable Try.prog 90 = true := by kernel_rfl
theorem elt65 : sliceElt Try.prog 65 = some (⟨1, 1, [(.bool false)], 4⟩ : Elt) := by kernel_rfl
theorem appt65_65 : appT Try.prog 65 65 = some (⟨1, 1, [(.bool false)], 4⟩ : Elt) := by kernel_rfl
abbrev search_Found_post (r : (List Bool) × Int) : SV → Mem → Prop := fun s Me => ∃ q1, s = (.tuple [q1, (.int .i64 r.2)]) ∧ Has (fun _ => none) Me [.vec 4 1 r.1.length q1 (r.1.flatMap enc4)]

def search_Found_3 (F : Nat) (hd2 : (List S_api_Trigger) → (List S_api_Wave) → Int → Int → Int → (List Bool) → Option ((List Bool) × Int)) : Nat → (List S_api_Trigger) → Int → Int → (List S_api_Trigger) → (List S_api_Wave) → Int → Int → Int → Int → (List Int) → Int → (List Bool) → Option ((List Bool) × Int)
  | 0, _, _, _, _, _, _, _, _, _, _, _, _ => none
  | N + 1, v0, v7, v8, v0_f2, v36_f2, v37_f2, v38_f2, c52_0, c52_1, c52_2, c22_0, l46 =>
    bif (decide (v8 < v7)) then
      bnd (idx v0 v8) fun x57 =>
      bnd (search_isFrom F (w64 (c52_0 - c22_0)) x57.Time (w64 (c52_0 + c22_0))) fun r62 =>
      bif r62 then
        bnd (apd 1 l46 ([(decide ((0 : Int) ≤ v8))] : List Bool)) fun l70 =>
        hd2 v0_f2 v36_f2 v37_f2 (w64 (v38_f2 + (1 : Int))) c22_0 l70
      else
        (search_Found_3 F hd2 N) v0 v7 (w64 (v8 + (1 : Int))) v0_f2 v36_f2 v37_f2 v38_f2 c52_0 c52_1 c52_2 c22_0 l46
    else
      bnd (apd 1 l46 ([(decide ((0 : Int) ≤ ((-1) : Int)))] : List Bool)) fun l78 =>
      hd2 v0_f2 v36_f2 v37_f2 (w64 (v38_f2 + (1 : Int))) c22_0 l78

theorem search_Found_3_ok (F : Nat) (hd2 : (List S_api_Trigger) → (List S_api_Wave) → Int → Int → Int → (List Bool) → Option ((List Bool) × Int)) (hhd2 : ∀ (v0 : (List S_api_Trigger)) (v36 : (List S_api_Wave)) (v37 : Int) (v38 : Int) (c22_0 : Int) (l46 : (List Bool)) (sv0 : SV) (sv36 : SV) (b22 : Pos) (s46 : SV) (Fr : Rd) (M : Mem) (r : (List Bool) × Int) (hv0 : Slc Fr 3 (FlatR enc76) sv0 v0) (hv36 : Slc Fr 3 (rep83 Fr) sv36 v36) (hH : Has Fr M [.obj b22 (.row 3 .whole [(.int .i64 c22_0)]), .vec 4 1 l46.length s46 (l46.flatMap enc4)]), hd2 v0 v36 v37 v38 c22_0 l46 = some r → Run Try.prog ⟨⟨45, [], none⟩, []⟩ 51 (search_Found_post r) [(0, sv0), (7, (.ptr b22 0)), (11, s46), (36, sv36), (37, (.int .i64 v37)), (38, (.int .i64 v38))] [codeC Try.prog 45 [1, 1, 1, 0, 1, 0, 0], loopC Try.prog 45 [1, 1, 1, 0, 1, 0, 0], .inBlock 1, codeC Try.prog 45 [1, 1, 1, 1]] M) : ∀ (N : Nat), ∀ (v0 : (List S_api_Trigger)) (v7 : Int) (v8 : Int) (v0_f2 : (List S_api_Trigger)) (v36_f2 : (List S_api_Wave)) (v37_f2 : Int) (v38_f2 : Int) (c52_0 : Int) (c52_1 : Int) (c52_2 : (List Int)) (c22_0 : Int) (l46 : (List Bool)) (sv0 : SV) (sv0_f2 : SV) (sv36_f2 : SV) (sc52_2 : SV) (b52 : Pos) (b22 : Pos) (s46 : SV) (Fr : Rd) (M : Mem) (r : (List Bool) × Int) (hv0 : Slc Fr 3 (FlatR enc76) sv0 v0) (hv0_f2 : Slc Fr 3 (FlatR enc76) sv0_f2 v0_f2) (hv36_f2 : Slc Fr 3 (rep83 Fr) sv36_f2 v36_f2) (hc52_2 : Slc Fr 1 (FlatR enc3) sc52_2 c52_2) (hH : Has Fr M [.obj b52 (.row 83 .whole [(.int .i64 c52_0), (.int .i64 c52_1), sc52_2]), .obj b22 (.row 3 .whole [(.int .i64 c22_0)]), .vec 4 1 l46.length s46 (l46.flatMap enc4)]), search_Found_3 F hd2 N v0 v7 v8 v0_f2 v36_f2 v37_f2 v38_f2 c52_0 c52_1 c52_2 c22_0 l46 = some r → Run Try.prog ⟨⟨111, [], none⟩, [.mk ⟨91, [], none⟩ 9 (treeOf []) [itemC Try.prog 91 [1, 0] 2, codeC Try.prog 91 [1, 1]], .mk ⟨45, [], none⟩ 51 (treeOf [(0, sv0_f2), (7, (.ptr b22 0)), (36, sv36_f2), (37, (.int .i64 v37_f2)), (38, (.int .i64 v38_f2)), (43, s46)]) [itemC Try.prog 45 [1, 1, 1, 0, 1, 0, 0, 1, 1, 0, 0, 1, 1] 3, .inBlock 2, codeC Try.prog 45 [1, 1, 1, 0, 1, 0, 0, 1, 1, 1], loopC Try.prog 45 [1, 1, 1, 0, 1, 0, 0], .inBlock 1, codeC Try.prog 45 [1, 1, 1, 1]]]⟩ 19 (search_Found_post r) [(0, sv0), (1, (.fn (.func 90) [] [(.ptr b52 0), (.ptr b22 0)])), (7, (.int .i64 v7)), (8, (.int .i64 v8))] [codeC Try.prog 111 [1, 0, 1, 0, 0], loopC Try.prog 111 [1, 0, 1, 0, 0], .inBlock 0, codeC Try.prog 111 [1, 1]] M := by
  intro N
  induction N with
  | zero =>
    intro v0 v7 v8 v0_f2 v36_f2 v37_f2 v38_f2 c52_0 c52_1 c52_2 c22_0 l46 sv0 sv0_f2 sv36_f2 sc52_2 b52 b22 s46 Fr M r hv0 hv0_f2 hv36_f2 hc52_2 hH h
    simp [search_Found_3] at h
  | succ N ih =>
    intro v0 v7 v8 v0_f2 v36_f2 v37_f2 v38_f2 c52_0 c52_1 c52_2 c22_0 l46 sv0 sv0_f2 sv36_f2 sc52_2 b52 b22 s46 Fr M r hv0 hv0_f2 hv36_f2 hc52_2 hH h
    rw [search_Found_3] at h
    refine Run.seq (Run.region ?_)
    refine Run.opG wantS_none (ex_lss rfl rfl) rfl ?_
    refine Run.opsEnd (Run.seq ?_)
    rcases btf ((decide (v8 < v7))) with hc55 | hc55
    · have h := bif_t hc55 h
      refine Run.condT' rfl hc55 ?_
      refine Run.skip (Run.seq (Run.block (Run.seq (Run.region ?_))))
      refine Run.opG wantS_none (ex_move rfl) rfl ?_
      refine Run.opG wantS_none (ex_assign rfl) rfl ?_
      refine Run.opsEnd (Run.seq (Run.region ?_))
      refine Run.opG wantS_none (ex_move rfl) rfl ?_
      refine Run.opG wantS_none (ex_move rfl) rfl ?_
      refine Run.opG wantS_none (ex_move rfl) rfl ?_
      obtain ⟨x57, hx57, h⟩ := bnd_some h
      obtain ⟨p57, o57, _, hx57, hp57, rfl⟩ := sl_elem (P := Try.prog) (t := 22) (kk := .i64) hv0 hx57 els22
      refine Run.opG wantS_none (ex_elX rfl rfl hx57) rfl ?_
      refine Run.opG wantS_none (ex_loadA rfl (hH.ptrF hp57) rdLe_rfl agg76 rfl rfl rfl) rfl ?_
      refine Run.enter wantS_none (ex_closure rfl rfl mkk90 cal90) Try.func90 rfl rfl ?_
      refine Run.seq (Run.region ?_)
      refine Run.opX wantS_none rfl (ExG.box rfl rfl hH) ?_
      rintro _ M60 ⟨b59, rfl, (hH60 : Has Fr M60 [.obj b59 (.row 76 .whole [(.int .i64 x57.Time), (.int .i64 x57.Loud), (.int .i64 x57.Template)]), .obj b52 (.row 83 .whole [(.int .i64 c52_0), (.int .i64 c52_1), sc52_2]), .obj b22 (.row 3 .whole [(.int .i64 c22_0)]), .vec 4 1 l46.length s46 (l46.flatMap enc4)])⟩
      refine Run.opG wantS_none (ex_assign rfl) rfl ?_
      refine Run.opsEnd (Run.seq (Run.region ?_))
      refine Run.opG wantS_none (ex_fieldAddr rfl off83_0) rfl ?_
      refine Run.opG wantS_none (ex_load1 rfl (hH60.cells (i := 1) rfl 0 rfl) rdLe_rfl agg3) rfl ?_
      refine Run.opG wantS_none (ex_load1 rfl (hH60.cells (i := 2) rfl 0 rfl) rdLe_rfl agg3) rfl ?_
      refine Run.opG wantS_none (ex_sub rfl rfl) rfl ?_
      refine Run.opG wantS_none (ex_fieldAddr rfl off76_0) rfl ?_
      refine Run.opG wantS_none (ex_load1 rfl (hH60.cells (i := 0) rfl 0 rfl) rdLe_rfl agg3) rfl ?_
      refine Run.opG wantS_none (ex_fieldAddr rfl off83_0) rfl ?_
      refine Run.opG wantS_none (ex_load1 rfl (hH60.cells (i := 1) rfl 0 rfl) rdLe_rfl agg3) rfl ?_
      refine Run.opG wantS_none (ex_load1 rfl (hH60.cells (i := 2) rfl 0 rfl) rdLe_rfl agg3) rfl ?_
      refine Run.opG wantS_none (ex_add rfl rfl) rfl ?_
      obtain ⟨r62, hr62, h⟩ := bnd_some h
      refine Run.callP wantS_none (ex_call rfl mkk62 cal62) rfl (search_isFrom_ok F (w64 (c52_0 - c22_0)) x57.Time (w64 (c52_0 + c22_0)) _ _ hr62) ?_
      refine Run.opG wantS_none (ex_assign rfl) rfl ?_
      refine Run.opsEnd ?_
      refine Run.retTo Try.func90 rfl (res_tmp rfl res_nil) rfl ?_
      refine Run.opsEnd ?_
      rcases btf (r62) with hc64 | hc64
      · have h := bif_t hc64 h
        refine Run.condT' rfl hc64 ?_
        refine Run.seq (Run.region ?_)
        refine Run.opG wantS_none (ex_move rfl) rfl ?_
        refine Run.opG wantS_none (ex_assign rfl) rfl ?_
        refine Run.opsEnd ?_
        refine Run.retTo Try.func111 rfl (res_tmp rfl res_nil) rfl ?_
        refine Run.opG wantS_none (ex_geq rfl rfl) rfl ?_
        refine Run.opG wantS_none (ex_assign rfl) rfl ?_
        refine Run.opsEnd ?_
        refine Run.retTo Try.func91 rfl (res_tmp rfl res_nil) rfl ?_
        refine Run.opX wantS_none rfl (ExG.built (enc := enc4) (l := ([(decide ((0 : Int) ≤ v8))] : List Bool)) (z := 1) rfl elt65 rfl rfl rfl enc4_len hH60) ?_
        rintro s66 M67 (hH67 : Has Fr M67 [.vec 4 1 ([(decide ((0 : Int) ≤ v8))] : List Bool).length s66 (([(decide ((0 : Int) ≤ v8))] : List Bool).flatMap enc4), .obj b59 (.row 76 .whole [(.int .i64 x57.Time), (.int .i64 x57.Loud), (.int .i64 x57.Template)]), .obj b52 (.row 83 .whole [(.int .i64 c52_0), (.int .i64 c52_1), sc52_2]), .obj b22 (.row 3 .whole [(.int .i64 c22_0)]), .vec 4 1 l46.length s46 (l46.flatMap enc4)])
        obtain ⟨l70, hl70, h⟩ := bnd_some h
        refine Run.opX wantS_none rfl (ExG.append rfl rfl hH67 (i := 4) rfl enc4_len rfl enc4_ones appt65_65 rfl (len_slc (hH67.slc (i := 0) rfl enc4_len)) (first_slc (hH67.slc (i := 0) rfl enc4_len) (rdLe_rdRow _) enc4_len) hl70) ?_
        rintro s70 M72 (hH72 : Has Fr M72 [.vec 4 1 ([(decide ((0 : Int) ≤ v8))] : List Bool).length s66 (([(decide ((0 : Int) ≤ v8))] : List Bool).flatMap enc4), .obj b59 (.row 76 .whole [(.int .i64 x57.Time), (.int .i64 x57.Loud), (.int .i64 x57.Template)]), .obj b52 (.row 83 .whole [(.int .i64 c52_0), (.int .i64 c52_1), sc52_2]), .obj b22 (.row 3 .whole [(.int .i64 c22_0)]), .vec 4 1 l70.length s70 (l70.flatMap enc4)])
        refine Run.opG wantS_none (ex_assign rfl) rfl ?_
        refine Run.opsEnd (Run.inBlock (Run.region ?_))
        refine Run.opG wantS_none (ex_add rfl rfl) rfl ?_
        refine Run.opG wantS_none (ex_move rfl) rfl ?_
        refine Run.opsEnd (Run.inLoop ?_)
        exact Run.pick [0, 7, 11, 36, 37, 38] (hhd2 v0_f2 v36_f2 v37_f2 (w64 (v38_f2 + (1 : Int))) c22_0 l70 sv0_f2 sv36_f2 b22 s70 _ _ _ hv0_f2 hv36_f2 (hH72.pick [3, 4] rfl rfl) h)
      · have h := bif_f hc64 h
        refine Run.condF' rfl hc64 ?_
        refine Run.skip (Run.inBlock (Run.region ?_))
        refine Run.opG wantS_none (ex_add rfl rfl) rfl ?_
        refine Run.opG wantS_none (ex_move rfl) rfl ?_
        refine Run.opsEnd (Run.inLoop ?_)
        exact Run.low (.cons (fle_pick [] rfl) (.cons (fle_pick [0, 7, 36, 37, 38, 43] rfl) .nil)) (Run.pick [0, 1, 7, 8] (ih v0 v7 (w64 (v8 + (1 : Int))) v0_f2 v36_f2 v37_f2 v38_f2 c52_0 c52_1 c52_2 c22_0 l46 sv0 sv0_f2 sv36_f2 sc52_2 b52 b22 s46 _ _ _ hv0 hv0_f2 hv36_f2 hc52_2 (hH60.pick [1, 2, 3] rfl rfl) h))
    · have h := bif_f hc55 h
      refine Run.condF' rfl hc55 ?_
      refine Run.exit rfl (Run.seq (Run.region ?_))
      refine Run.opG wantS_none (ex_assign rfl) rfl ?_
      refine Run.opsEnd ?_
      refine Run.retTo Try.func111 rfl (res_tmp rfl res_nil) rfl ?_
      refine Run.opG wantS_none (ex_geq rfl rfl) rfl ?_
      refine Run.opG wantS_none (ex_assign rfl) rfl ?_
      refine Run.opsEnd ?_
      refine Run.retTo Try.func91 rfl (res_tmp rfl res_nil) rfl ?_
      refine Run.opX wantS_none rfl (ExG.built (enc := enc4) (l := ([(decide ((0 : Int) ≤ ((-1) : Int)))] : List Bool)) (z := 1) rfl elt65 rfl rfl rfl enc4_len hH) ?_
      rintro s74 M75 (hH75 : Has Fr M75 [.vec 4 1 ([(decide ((0 : Int) ≤ ((-1) : Int)))] : List Bool).length s74 (([(decide ((0 : Int) ≤ ((-1) : Int)))] : List Bool).flatMap enc4), .obj b52 (.row 83 .whole [(.int .i64 c52_0), (.int .i64 c52_1), sc52_2]), .obj b22 (.row 3 .whole [(.int .i64 c22_0)]), .vec 4 1 l46.length s46 (l46.flatMap enc4)])
      obtain ⟨l78, hl78, h⟩ := bnd_some h
      refine Run.opX wantS_none rfl (ExG.append rfl rfl hH75 (i := 3) rfl enc4_len rfl enc4_ones appt65_65 rfl (len_slc (hH75.slc (i := 0) rfl enc4_len)) (first_slc (hH75.slc (i := 0) rfl enc4_len) (rdLe_rdRow _) enc4_len) hl78) ?_
      rintro s78 M80 (hH80 : Has Fr M80 [.vec 4 1 ([(decide ((0 : Int) ≤ ((-1) : Int)))] : List Bool).length s74 (([(decide ((0 : Int) ≤ ((-1) : Int)))] : List Bool).flatMap enc4), .obj b52 (.row 83 .whole [(.int .i64 c52_0), (.int .i64 c52_1), sc52_2]), .obj b22 (.row 3 .whole [(.int .i64 c22_0)]), .vec 4 1 l78.length s78 (l78.flatMap enc4)])
      refine Run.opG wantS_none (ex_assign rfl) rfl ?_
      refine Run.opsEnd (Run.inBlock (Run.region ?_))
      refine Run.opG wantS_none (ex_add rfl rfl) rfl ?_
      refine Run.opG wantS_none (ex_move rfl) rfl ?_
      refine Run.opsEnd (Run.inLoop ?_)
      exact Run.pick [0, 7, 11, 36, 37, 38] (hhd2 v0_f2 v36_f2 v37_f2 (w64 (v38_f2 + (1 : Int))) c22_0 l78 sv0_f2 sv36_f2 b22 s78 _ _ _ hv0_f2 hv36_f2 (hH80.pick [2, 3] rfl rfl) h)

def search_Found_2 (F : Nat) : Nat → (List S_api_Trigger) → (List S_api_Wave) → Int → Int → Int → (List Bool) → Option ((List Bool) × Int)
  | 0, _, _, _, _, _, _ => none
  | N + 1, v0, v36, v37, v38, c22_0, l46 =>
    bif (decide (v38 < v37)) then
      bnd (idx v36 v38) fun x50 =>
      search_Found_3 F (search_Found_2 F N) F v0 (v0.length : Int) (0 : Int) v0 v36 v37 v38 x50.At x50.Gain x50.Samples c22_0 l46
    else
      some (l46, (0 : Int))

theorem search_Found_2_ok (F : Nat) : ∀ (N : Nat), ∀ (v0 : (List S_api_Trigger)) (v36 : (List S_api_Wave)) (v37 : Int) (v38 : Int) (c22_0 : Int) (l46 : (List Bool)) (sv0 : SV) (sv36 : SV) (b22 : Pos) (s46 : SV) (Fr : Rd) (M : Mem) (r : (List Bool) × Int) (hv0 : Slc Fr 3 (FlatR enc76) sv0 v0) (hv36 : Slc Fr 3 (rep83 Fr) sv36 v36) (hH : Has Fr M [.obj b22 (.row 3 .whole [(.int .i64 c22_0)]), .vec 4 1 l46.length s46 (l46.flatMap enc4)]), search_Found_2 F N v0 v36 v37 v38 c22_0 l46 = some r → Run Try.prog ⟨⟨45, [], none⟩, []⟩ 51 (search_Found_post r) [(0, sv0), (7, (.ptr b22 0)), (11, s46), (36, sv36), (37, (.int .i64 v37)), (38, (.int .i64 v38))] [codeC Try.prog 45 [1, 1, 1, 0, 1, 0, 0], loopC Try.prog 45 [1, 1, 1, 0, 1, 0, 0], .inBlock 1, codeC Try.prog 45 [1, 1, 1, 1]] M := by
  intro N
  induction N with
  | zero =>
    intro v0 v36 v37 v38 c22_0 l46 sv0 sv36 b22 s46 Fr M r hv0 hv36 hH h
    simp [search_Found_2] at h
  | succ N ih =>
    intro v0 v36 v37 v38 c22_0 l46 sv0 sv36 b22 s46 Fr M r hv0 hv36 hH h
    rw [search_Found_2] at h
    refine Run.seq (Run.region ?_)
    refine Run.opG wantS_none (ex_lss rfl rfl) rfl ?_
    refine Run.opsEnd (Run.seq ?_)
    rcases btf ((decide (v38 < v37))) with hc48 | hc48
    · have h := bif_t hc48 h
      refine Run.condT' rfl hc48 ?_
      refine Run.skip (Run.seq (Run.block (Run.seq (Run.region ?_))))
      obtain ⟨x50, hx50, h⟩ := bnd_some h
      obtain ⟨p50, o50, _, hx50, hp50, ⟨q50_0, rfl, hq50_0⟩⟩ := sl_elem (P := Try.prog) (t := 55) (kk := .i64) hv36 hx50 els55
      refine Run.opG wantS_none (ex_elX rfl rfl hx50) rfl ?_
      refine Run.opG wantS_none (ex_loadA rfl (hH.ptrF hp50) rdLe_rfl agg83 rfl rfl rfl) rfl ?_
      refine Run.opX wantS_none rfl (ExG.new (v := fun b => .ptr b 0) (ex_alloc zer83) hH) ?_
      rintro _ M53 ⟨b52, rfl, (hH53 : Has Fr M53 [.obj b52 (.row 83 .whole [(.int .i64 0), (.int .i64 0), .nils]), .obj b22 (.row 3 .whole [(.int .i64 c22_0)]), .vec 4 1 l46.length s46 (l46.flatMap enc4)])⟩
      refine Run.opX wantS_none rfl (ExG.storeC (c' := [(.int .i64 x50.At), (.int .i64 x50.Gain), q50_0]) rfl rfl rfl hH53 (i := 0) rfl sz83 rfl rfl rfl (ones_cons rfl (ones_cons rfl (ones_cons (slc_one hq50_0) ones_nil))) rfl) ?_
      rintro _ M54 ⟨rfl, (hH54 : Has Fr M54 [.obj b52 (.row 83 .whole [(.int .i64 x50.At), (.int .i64 x50.Gain), q50_0]), .obj b22 (.row 3 .whole [(.int .i64 c22_0)]), .vec 4 1 l46.length s46 (l46.flatMap enc4)])⟩
      refine Run.opsEnd (Run.seq (Run.region ?_))
      refine Run.opG wantS_none (ex_makeFunc rfl rfl) rfl ?_
      refine Run.opG wantS_none (ex_assign rfl) rfl ?_
      refine Run.opsEnd (Run.region ?_)
      refine Run.opG wantS_none (ex_move rfl) rfl ?_
      refine Run.opG wantS_none (ex_move rfl) rfl ?_
      refine Run.opG wantS_none (ex_move rfl) rfl ?_
      refine Run.enter wantS_none (ex_call rfl mkk91 cal91) Try.func91 rfl rfl ?_
      refine Run.seq (Run.region ?_)
      refine Run.opG wantS_none (ex_assign rfl) rfl ?_
      refine Run.opsEnd (Run.seq (Run.region ?_))
      refine Run.opG wantS_none (ex_move rfl) rfl ?_
      refine Run.opG wantS_none (ex_move rfl) rfl ?_
      refine Run.enter wantS_none (ex_call rfl mkk111 cal111) Try.func111 rfl rfl ?_
      refine Run.seq (Run.region ?_)
      refine Run.opG wantS_none (ex_assign rfl) rfl ?_
      refine Run.opsEnd (Run.seq (Run.seq (Run.region ?_)))
      refine Run.opG wantS_none (ex_move rfl) rfl ?_
      refine Run.opG wantS_none (ex_len' rfl hv0 lenk22) rfl ?_
      refine Run.opG wantS_none (ex_move rfl) rfl ?_
      refine Run.opsEnd (Run.block (Run.loop ?_))
      exact Run.low (.cons (fle_pick [] rfl) (.cons (fle_pick [0, 7, 36, 37, 38, 43] rfl) .nil)) (Run.pick [0, 1, 7, 8] (search_Found_3_ok F (search_Found_2 F N) ih F v0 (v0.length : Int) (0 : Int) v0 v36 v37 v38 x50.At x50.Gain x50.Samples c22_0 l46 sv0 sv0 sv36 q50_0 b52 b22 s46 _ _ _ hv0 hv0 hv36 hq50_0 hH54 h))
    · have h := bif_f hc48 h
      refine Run.condF' rfl hc48 ?_
      refine Run.exit rfl (Run.seq (Run.region ?_))
      refine Run.opG wantS_none (ex_move rfl) rfl ?_
      refine Run.opG wantS_none (ex_assign rfl) rfl ?_
      refine Run.opG wantS_none (ex_assign rfl) rfl ?_
      refine Run.opsEnd ?_
      cases h
      exact Run.ret Try.func45 rfl (res_tmp rfl (res_tmp rfl res_nil)) ⟨_, rfl, (hH.pick [1] rfl rfl).upF (none_le _)⟩

def search_Found_1 (F : Nat) (v0 : (List S_api_Trigger)) (v1 : (List S_api_Wave)) (v2 : Int) (v30 : Bool) (c22_0 : Int) : Option ((List Bool) × Int) :=
  bif v30 then
    some (([] : List Bool), (8 : Int))
  else
    bnd (search_areWaves F v1 v2) fun r41 =>
    bif (!r41) then
      some (([] : List Bool), (83 : Int))
    else
      search_Found_2 F F v0 v1 (v1.length : Int) (0 : Int) c22_0 ([] : List Bool)

theorem search_Found_1_ok (F : Nat) : ∀ (v0 : (List S_api_Trigger)) (v1 : (List S_api_Wave)) (v2 : Int) (v30 : Bool) (c22_0 : Int) (sv0 : SV) (sv1 : SV) (b22 : Pos) (Fr : Rd) (M : Mem) (r : (List Bool) × Int) (hv0 : Slc Fr 3 (FlatR enc76) sv0 v0) (hv1 : Slc Fr 3 (rep83 Fr) sv1 v1) (hH : Has Fr M [.obj b22 (.row 3 .whole [(.int .i64 c22_0)])]), search_Found_1 F v0 v1 v2 v30 c22_0 = some r → Run Try.prog ⟨⟨45, [], none⟩, []⟩ 51 (search_Found_post r) [(0, sv0), (1, sv1), (2, (.int .i64 v2)), (7, (.ptr b22 0)), (30, (.bool v30))] [itemC Try.prog 45 [1, 0, 1, 0, 1, 1, 0] 8, codeC Try.prog 45 [1, 0, 1, 0, 1, 1, 1], .inBlock 0, codeC Try.prog 45 [1, 1]] M := by
  intro v0 v1 v2 v30 c22_0 sv0 sv1 b22 Fr M r hv0 hv1 hH h
  rw [search_Found_1] at h
  refine Run.opG wantS_none (ex_assign rfl) rfl ?_
  refine Run.opsEnd ?_
  rcases btf (v30) with hc37 | hc37
  · have h := bif_t hc37 h
    refine Run.condT' rfl hc37 ?_
    refine Run.seq (Run.region ?_)
    refine Run.opG wantS_none (ex_assign rfl) rfl ?_
    refine Run.opG wantS_none (ex_assign rfl) rfl ?_
    refine Run.opsEnd ?_
    have hH39 : Has Fr M [.vec 4 1 ([] : List Bool).length .nils (([] : List Bool).flatMap enc4), .obj b22 (.row 3 .whole [(.int .i64 c22_0)])] := hH.nils 4 1
    cases h
    exact Run.ret Try.func45 rfl (res_tmp rfl (res_tmp rfl res_nil)) ⟨_, rfl, (hH39.pick [0] rfl rfl).upF (none_le _)⟩
  · have h := bif_f hc37 h
    refine Run.condF' rfl hc37 ?_
    refine Run.seq (Run.region ?_)
    refine Run.opG wantS_none (ex_move rfl) rfl ?_
    refine Run.opG wantS_none (ex_move rfl) rfl ?_
    obtain ⟨r41, hr41, h⟩ := bnd_some h
    refine Run.callP wantS_none (ex_call rfl mkk89 cal89) rfl (search_areWaves_ok F v1 v2 sv1 _ _ ((hv1).mono hH.le (fun _ _ => rep83_mo hH.le)) hr41) ?_
    refine Run.opG wantS_none (ex_not rfl) rfl ?_
    refine Run.opG wantS_none (ex_assign rfl) rfl ?_
    refine Run.opsEnd ?_
    rcases btf ((!r41)) with hc43 | hc43
    · have h := bif_t hc43 h
      refine Run.condT' rfl hc43 ?_
      refine Run.seq (Run.region ?_)
      refine Run.opG wantS_none (ex_assign rfl) rfl ?_
      refine Run.opG wantS_none (ex_assign rfl) rfl ?_
      refine Run.opsEnd ?_
      have hH45 : Has Fr M [.vec 4 1 ([] : List Bool).length .nils (([] : List Bool).flatMap enc4), .obj b22 (.row 3 .whole [(.int .i64 c22_0)])] := hH.nils 4 1
      cases h
      exact Run.ret Try.func45 rfl (res_tmp rfl (res_tmp rfl res_nil)) ⟨_, rfl, (hH45.pick [0] rfl rfl).upF (none_le _)⟩
    · have h := bif_f hc43 h
      refine Run.condF' rfl hc43 ?_
      refine Run.skip (Run.inBlock (Run.seq (Run.region ?_)))
      refine Run.opG wantS_none (ex_assign rfl) rfl ?_
      refine Run.opsEnd (Run.seq (Run.seq (Run.region ?_)))
      refine Run.opG wantS_none (ex_move rfl) rfl ?_
      refine Run.opG wantS_none (ex_len' rfl hv1 lenk55) rfl ?_
      refine Run.opG wantS_none (ex_move rfl) rfl ?_
      refine Run.opsEnd (Run.block (Run.loop ?_))
      have hH47 : Has Fr M [.vec 4 1 ([] : List Bool).length .nils (([] : List Bool).flatMap enc4), .obj b22 (.row 3 .whole [(.int .i64 c22_0)])] := hH.nils 4 1
      exact Run.pick [0, 7, 11, 36, 37, 38] (search_Found_2_ok F F v0 v1 (v1.length : Int) (0 : Int) c22_0 ([] : List Bool) sv0 sv1 b22 .nils _ _ _ hv0 hv1 (hH47.pick [1, 0] rfl rfl) h)

def search_Found (F : Nat) (a0 : (List S_api_Trigger)) (a1 : (List S_api_Wave)) (a2 : Int) (a3 : Int) : Option ((List Bool) × Int) :=
  bnd (search_checkTriggers F ([a0] : List (List S_api_Trigger))) fun r28 =>
  bif (!(r28 == (0 : Int))) then
    some (([] : List Bool), r28)
  else
    bnd (search_isFrom F (0 : Int) a2 (1024 : Int)) fun r34 =>
    bif (!r34) then
      search_Found_1 F a0 a1 a2 true a3
    else
      bnd (search_isFrom F (0 : Int) a3 (1073741824 : Int)) fun r82 =>
      search_Found_1 F a0 a1 a2 (!r82) a3

theorem search_Found_ok (F : Nat) (a0 : (List S_api_Trigger)) (a1 : (List S_api_Wave)) (a2 : Int) (a3 : Int) (s0 s1 : SV) (r : (List Bool) × Int) (M : Mem) (hs0 : Slc (rd M) 3 (FlatR enc76) s0 a0) (hs1 : Slc (rd M) 3 (rep83 (rd M)) s1 a1) (h : search_Found F a0 a1 a2 a3 = some r) : CallsM Try.prog 45 [s0, s1, (.int .i64 a2), (.int .i64 a3)] M (fun s M' => ∃ q1, s = (.tuple [q1, (.int .i64 r.2)]) ∧ New M M' [.vec 4 1 r.1.length q1 (r.1.flatMap enc4)]) := by
  refine CallsM.fresh (Q := search_Found_post r) Try.func45 rfl rfl ?_ (by rintro s Me ⟨q1, rfl, hx⟩ ha hw; exact ⟨_, rfl, New.of rfl hx ha hw⟩)
  rw [search_Found] at h
  replace hs0 := hs0.mono (rdLe_frozen M) (fun _ _ h => h)
  replace hs1 := hs1.mono (rdLe_frozen M) (fun _ _ => rep83_mo (rdLe_frozen M))
  have hH := Has.nil (frozen M)
  refine Run.seq (Run.region ?_)
  refine Run.opX wantS_none rfl (ExG.box rfl rfl hH) ?_
  rintro _ M23 ⟨b22, rfl, (hH23 : Has (ro (frozen M)) M23 [.obj b22 (.row 3 .whole [(.int .i64 a3)])])⟩
  refine Run.opG wantS_none (ex_assign rfl) rfl ?_
  refine Run.opG wantS_none (ex_assign rfl) rfl ?_
  refine Run.opsEnd (Run.seq (Run.seq (Run.region ?_)))
  refine Run.opG wantS_none (ex_move rfl) rfl ?_
  have hr25 : Rows (rep22 (ro (frozen M))) 1 [s0] ([a0] : List (List S_api_Trigger)) := (Rows.cons (cs := [s0]) rfl ⟨s0, rfl, hs0⟩ Rows.nil)
  refine Run.opX wantS_none rfl (ExG.builtR (z := 1) (c := [s0]) rfl elt132 rfl (by simp only [fillS, cells_one (slc_one hs0)]; rfl) rfl hH23) ?_
  rintro s25 M26 (hH26 : Has (ro (frozen M)) M26 [.vec 22 1 ([a0] : List (List S_api_Trigger)).length s25 [s0], .obj b22 (.row 3 .whole [(.int .i64 a3)])])
  obtain ⟨r28, hr28, h⟩ := bnd_some h
  refine Run.callP wantS_none (ex_call rfl mkk54 cal54) rfl (search_checkTriggers_ok F ([a0] : List (List S_api_Trigger)) s25 _ _ (((hH26.slcR (i := 0) rfl hr25)).mono (fun _ _ h => h) (fun _ _ => rep22_mo hH26.le)) hr28) ?_
  refine Run.opG wantS_none (ex_assign rfl) rfl ?_
  refine Run.opsEnd (Run.block (Run.seq (Run.region ?_)))
  refine Run.opG wantS_none (ex_move rfl) rfl ?_
  refine Run.opG wantS_none (ex_neq rfl rfl) rfl ?_
  refine Run.opG wantS_none (ex_assign rfl) rfl ?_
  refine Run.opsEnd ?_
  rcases btf ((!(r28 == (0 : Int)))) with hc30 | hc30
  · have h := bif_t hc30 h
    refine Run.condT' rfl hc30 ?_
    refine Run.seq (Run.region ?_)
    refine Run.opG wantS_none (ex_move rfl) rfl ?_
    refine Run.opG wantS_none (ex_assign rfl) rfl ?_
    refine Run.opG wantS_none (ex_assign rfl) rfl ?_
    refine Run.opsEnd ?_
    have hH32 : Has (ro (frozen M)) M26 [.vec 4 1 ([] : List Bool).length .nils (([] : List Bool).flatMap enc4), .vec 22 1 ([a0] : List (List S_api_Trigger)).length s25 [s0], .obj b22 (.row 3 .whole [(.int .i64 a3)])] := hH26.nils 4 1
    cases h
    exact Run.ret Try.func45 rfl (res_tmp rfl (res_tmp rfl res_nil)) ⟨_, rfl, (hH32.pick [0] rfl rfl).upF (none_le _)⟩
  · have h := bif_f hc30 h
    refine Run.condF' rfl hc30 ?_
    refine Run.seq (Run.region ?_)
    refine Run.opG wantS_none (ex_move rfl) rfl ?_
    obtain ⟨r34, hr34, h⟩ := bnd_some h
    refine Run.callP wantS_none (ex_call rfl mkk62 cal62) rfl (search_isFrom_ok F (0 : Int) a2 (1024 : Int) _ _ hr34) ?_
    refine Run.opG wantS_none (ex_not rfl) rfl ?_
    refine Run.opG wantS_none (ex_move rfl) rfl ?_
    rcases btf ((!r34)) with hc36 | hc36
    · have h := bif_t hc36 h
      refine Run.no (wantS_not' rfl rfl hc36) rfl ?_
      refine Run.no (wantS_not' rfl rfl hc36) rfl ?_
      refine Run.no (wantS_not' rfl rfl hc36) rfl ?_
      refine Run.opG wantS_none (ex_pickT' rfl hc36 rfl rfl) rfl ?_
      exact Run.pick [0, 1, 2, 7, 30] (search_Found_1_ok F a0 a1 a2 true a3 s0 s1 b22 _ _ _ hs0 hs1 (hH26.pick [1] rfl rfl) h)
    · have h := bif_f hc36 h
      refine Run.opG (wantS_yes' rfl rfl hc36) (ex_load1 rfl (hH26.cells (i := 1) rfl 0 rfl) rdLe_rfl agg3) rfl ?_
      obtain ⟨r82, hr82, h⟩ := bnd_some h
      refine Run.callP (wantS_yes' rfl rfl hc36) (ex_call rfl mkk62 cal62) rfl (search_isFrom_ok F (0 : Int) a3 (1073741824 : Int) _ _ hr82) ?_
      refine Run.opG (wantS_yes' rfl rfl hc36) (ex_not rfl) rfl ?_
      refine Run.opG wantS_none (ex_pickF' rfl hc36 rfl rfl) rfl ?_
      exact Run.pick [0, 1, 2, 7, 30] (search_Found_1_ok F a0 a1 a2 (!r82) a3 s0 s1 b22 _ _ _ hs0 hs1 (hH26.pick [1] rfl rfl) h)

theorem mkk45 : makeK Try.prog 45 = none := by kernel_rfl
theorem cal45 : callable Try.prog 45 = true := by kernel_rfl
abbrev ref00_In_post (r : Bool) : SV → Mem → Prop := fun s _ => s = (.bool r)

def ref00_In_1 (F : Nat) (v14 : Bool) : Option (Bool) :=
  some v14

theorem ref00_In_1_ok (F : Nat) : ∀ (v14 : Bool) (Fr : Rd) (M : Mem) (r : Bool) (hH : Has Fr M []), ref00_In_1 F v14 = some r → Run Try.prog ⟨⟨49, [], none⟩, []⟩ 15 (ref00_In_post r) [(14, (.bool v14))] [itemC Try.prog 49 [1, 0] 8, codeC Try.prog 49 [1, 1]] M := by
  intro v14 Fr M r hH h
  rw [ref00_In_1] at h
  refine Run.opG wantS_none (ex_assign rfl) rfl ?_
  refine Run.opsEnd ?_
  cases h
  exact Run.ret Try.func49 rfl (res_tmp rfl res_nil) rfl

def ref00_In (F : Nat) (a0 : Int) (a1 : Int) (a2 : Int) : Option (Bool) :=
  bif (decide (a1 ≤ a0)) then
    ref00_In_1 F (decide (a0 ≤ a2))
  else
    ref00_In_1 F false

theorem ref00_In_ok (F : Nat) (a0 : Int) (a1 : Int) (a2 : Int) (r : Bool) (M : Mem) (h : ref00_In F a0 a1 a2 = some r) : CallsM Try.prog 49 [(.int .i64 a0), (.int .i64 a1), (.int .i64 a2)] M (fun s M' => s = (.bool r) ∧ M' = M) := by
  refine CallsM.plain Try.func49 rfl rfl rfl (show Run _ _ _ (ref00_In_post r) _ _ _ from ?_)
  rw [ref00_In] at h
  have hH := Has.nil (frozen M)
  refine Run.seq (Run.region ?_)
  refine Run.opG wantS_none (ex_assign rfl) rfl ?_
  refine Run.opsEnd (Run.seq (Run.region ?_))
  refine Run.opG wantS_none (ex_move rfl) rfl ?_
  refine Run.opG wantS_none (ex_move rfl) rfl ?_
  refine Run.opG wantS_none (ex_leq rfl rfl) rfl ?_
  refine Run.opG wantS_none (ex_move rfl) rfl ?_
  rcases btf ((decide (a1 ≤ a0))) with hc21 | hc21
  · have h := bif_t hc21 h
    refine Run.opG (wantS_yes' rfl rfl hc21) (ex_move rfl) rfl ?_
    refine Run.opG (wantS_yes' rfl rfl hc21) (ex_move rfl) rfl ?_
    refine Run.opG (wantS_yes' rfl rfl hc21) (ex_leq rfl rfl) rfl ?_
    refine Run.opG wantS_none (ex_pickT' rfl hc21 rfl rfl) rfl ?_
    exact Run.pick [14] (ref00_In_1_ok F (decide (a0 ≤ a2)) _ _ _ hH h)
  · have h := bif_f hc21 h
    refine Run.no (wantS_not' rfl rfl hc21) rfl ?_
    refine Run.no (wantS_not' rfl rfl hc21) rfl ?_
    refine Run.no (wantS_not' rfl rfl hc21) rfl ?_
    refine Run.opG wantS_none (ex_pickF' rfl hc21 rfl rfl) rfl ?_
    exact Run.pick [14] (ref00_In_1_ok F false _ _ _ hH h)

theorem mkk49 : makeK Try.prog 49 = none := by kernel_rfl
theorem cal49 : callable Try.prog 49 = true := by kernel_rfl
theorem plan16_1_1_0_1_0_0_1_0_0_1_0 : planOf Try.prog (opsC (atC Try.prog 16 [1, 1, 0, 1, 0, 0, 1, 0, 0, 1, 0])) = some [.fl 0, .fl 1, .an 2 [], .fl 3, .fl 4, .fl 5, .fl 6, .an 7 [], .fl 8, .fl 9, .fl 10, .fl 11, .fl 12, .an 13 [], .fl 14, .fl 15, .fl 16, .fl 17, .fl 18, .fl 19, .fl 20, .fl 21, .fl 22, .fl 23, .fl 24, .fl 25, .fl 26, .fl 27, .fl 28, .fl 29, .fl 30, .sync] := by kernel_rfl
abbrev ref08_CheckTriggers_post (r : Int) : SV → Mem → Prop := fun s _ => s = (.int .i64 r)

def ref08_CheckTriggers_2 (F : Nat) (hd1 : (List S_api_Trigger) → Int → Option (Int)) (v0 : (List S_api_Trigger)) (v3 : Int) (v48 : Bool) : Option (Int) :=
  bif v48 then
    some (80 : Int)
  else
    hd1 v0 (w64 (v3 + (1 : Int)))

theorem ref08_CheckTriggers_2_ok (F : Nat) (hd1 : (List S_api_Trigger) → Int → Option (Int)) (hhd1 : ∀ (v0 : (List S_api_Trigger)) (v3 : Int) (sv0 : SV) (Fr : Rd) (M : Mem) (r : Int) (hv0 : Slc Fr 3 (FlatR enc76) sv0 v0) (hH : Has Fr M []), hd1 v0 v3 = some r → Run Try.prog ⟨⟨16, [], none⟩, []⟩ 49 (ref08_CheckTriggers_post r) [(0, sv0), (3, (.int .i64 v3))] [codeC Try.prog 16 [1, 1, 0, 1, 0, 0], loopC Try.prog 16 [1, 1, 0, 1, 0, 0], .inBlock 0, codeC Try.prog 16 [1, 1, 1]] M) : ∀ (v0 : (List S_api_Trigger)) (v3 : Int) (v48 : Bool) (sv0 : SV) (Fr : Rd) (M : Mem) (r : Int) (hv0 : Slc Fr 3 (FlatR enc76) sv0 v0) (hH : Has Fr M []), ref08_CheckTriggers_2 F hd1 v0 v3 v48 = some r → Run Try.prog ⟨⟨16, [], none⟩, []⟩ 49 (ref08_CheckTriggers_post r) [(0, sv0), (3, (.int .i64 v3)), (48, (.bool v48))] [codeC Try.prog 16 [1, 1, 0, 1, 0, 0, 1, 0, 0, 1, 1], .inBlock 1, codeC Try.prog 16 [1, 1, 0, 1, 0, 0, 1, 1], loopC Try.prog 16 [1, 1, 0, 1, 0, 0], .inBlock 0, codeC Try.prog 16 [1, 1, 1]] M := by
  intro v0 v3 v48 sv0 Fr M r hv0 hH h
  rw [ref08_CheckTriggers_2] at h
  rcases btf (v48) with hc32 | hc32
  · have h := bif_t hc32 h
    refine Run.condT' rfl hc32 ?_
    refine Run.seq (Run.region ?_)
    refine Run.opG wantS_none (ex_assign rfl) rfl ?_
    refine Run.opsEnd ?_
    cases h
    exact Run.ret Try.func16 rfl (res_tmp rfl res_nil) rfl
  · have h := bif_f hc32 h
    refine Run.condF' rfl hc32 ?_
    refine Run.skip (Run.inBlock (Run.region ?_))
    refine Run.opG wantS_none (ex_move rfl) rfl ?_
    refine Run.opG wantS_none (ex_add rfl rfl) rfl ?_
    refine Run.opG wantS_none (ex_assign rfl) rfl ?_
    refine Run.opsEnd (Run.inLoop ?_)
    exact Run.pick [0, 3] (hhd1 v0 (w64 (v3 + (1 : Int))) sv0 _ _ _ hv0 hH h)

def ref08_CheckTriggers_1 (F : Nat) : Nat → (List S_api_Trigger) → Int → Option (Int)
  | 0, _, _ => none
  | N + 1, v0, v3 =>
    bif (decide (v3 < (v0.length : Int))) then
      bnd (idx v0 v3) fun x24 =>
      bnd (ref00_In F x24.Time (0 : Int) (1073741823 : Int)) fun r29 =>
      bif (!r29) then
        ref08_CheckTriggers_2 F (ref08_CheckTriggers_1 F N) v0 v3 true
      else
        bnd (ref00_In F x24.Loud (0 : Int) (1073741824 : Int)) fun r33 =>
        bif (!r33) then
          ref08_CheckTriggers_2 F (ref08_CheckTriggers_1 F N) v0 v3 true
        else
          bnd (ref00_In F x24.Template (0 : Int) (255 : Int)) fun r36 =>
          bif (!r36) then
            ref08_CheckTriggers_2 F (ref08_CheckTriggers_1 F N) v0 v3 true
          else
            bif (decide ((0 : Int) < v3)) then
              bnd (idx v0 (w64 (v3 - (1 : Int)))) fun x40 =>
              ref08_CheckTriggers_2 F (ref08_CheckTriggers_1 F N) v0 v3 (decide (x24.Time ≤ x40.Time))
            else
              ref08_CheckTriggers_2 F (ref08_CheckTriggers_1 F N) v0 v3 false
    else
      some (0 : Int)

theorem ref08_CheckTriggers_1_ok (F : Nat) : ∀ (N : Nat), ∀ (v0 : (List S_api_Trigger)) (v3 : Int) (sv0 : SV) (Fr : Rd) (M : Mem) (r : Int) (hv0 : Slc Fr 3 (FlatR enc76) sv0 v0) (hH : Has Fr M []), ref08_CheckTriggers_1 F N v0 v3 = some r → Run Try.prog ⟨⟨16, [], none⟩, []⟩ 49 (ref08_CheckTriggers_post r) [(0, sv0), (3, (.int .i64 v3))] [codeC Try.prog 16 [1, 1, 0, 1, 0, 0], loopC Try.prog 16 [1, 1, 0, 1, 0, 0], .inBlock 0, codeC Try.prog 16 [1, 1, 1]] M := by
  intro N
  induction N with
  | zero =>
    intro v0 v3 sv0 Fr M r hv0 hH h
    simp [ref08_CheckTriggers_1] at h
  | succ N ih =>
    intro v0 v3 sv0 Fr M r hv0 hH h
    rw [ref08_CheckTriggers_1] at h
    refine Run.seq (Run.seq (Run.region ?_))
    refine Run.opG wantS_none (ex_move rfl) rfl ?_
    refine Run.opG wantS_none (ex_move rfl) rfl ?_
    refine Run.opG wantS_none (ex_len' rfl hv0 lenk22) rfl ?_
    refine Run.opG wantS_none (ex_lss rfl rfl) rfl ?_
    refine Run.opsEnd ?_
    rcases btf ((decide (v3 < (v0.length : Int)))) with hc22 | hc22
    · have h := bif_t hc22 h
      refine Run.condT' rfl hc22 ?_
      refine Run.skip (Run.seq (Run.block (Run.seq (Run.region ?_))))
      refine Run.opG wantS_none (ex_move rfl) rfl ?_
      refine Run.opG wantS_none (ex_move rfl) rfl ?_
      obtain ⟨x24, hx24, h⟩ := bnd_some h
      obtain ⟨p24, o24, _, hx24, hp24, rfl⟩ := sl_elem (P := Try.prog) (t := 22) (kk := .i64) hv0 hx24 els22
      refine Run.opG wantS_none (ex_elX rfl rfl hx24) rfl ?_
      refine Run.opG wantS_none (ex_loadA rfl (hH.ptrF hp24) rdLe_rfl agg76 rfl rfl rfl) rfl ?_
      refine Run.opX wantS_none rfl (ExG.new (v := fun b => .ptr b 0) (ex_alloc zer76) hH) ?_
      rintro _ M27 ⟨b26, rfl, (hH27 : Has Fr M27 [.obj b26 (.row 76 .whole [(.int .i64 0), (.int .i64 0), (.int .i64 0)])])⟩
      refine Run.opX wantS_none rfl (ExG.storeC (c' := [(.int .i64 x24.Time), (.int .i64 x24.Loud), (.int .i64 x24.Template)]) rfl rfl rfl hH27 (i := 0) rfl sz76 rfl rfl rfl rfl rfl) ?_
      rintro _ M28 ⟨rfl, (hH28 : Has Fr M28 [.obj b26 (.row 76 .whole [(.int .i64 x24.Time), (.int .i64 x24.Loud), (.int .i64 x24.Template)])])⟩
      refine Run.opsEnd (Run.seq ?_)
      refine Run.drawG plan16_1_1_0_1_0_0_1_0_0_1_0 ?_
      refine DrawG.fl rfl (ev_ex wantS_none (ex_fieldAddr rfl off76_0)) rfl ?_
      refine DrawG.fl rfl (ev_ex wantS_none (ex_load1 rfl (hH28.cells (i := 0) rfl 0 rfl) rdLe_rfl agg3)) rfl ?_
      obtain ⟨r29, hr29, h⟩ := bnd_some h
      refine DrawG.callP rfl wantS_none (ex_call rfl mkk49 cal49) rfl (ref00_In_ok F x24.Time (0 : Int) (1073741823 : Int) _ _ hr29) st_nil ?_
      refine DrawG.fl rfl (ev_ex wantS_none (ex_not rfl)) rfl ?_
      refine DrawG.fl rfl (ev_ex wantS_none (ex_move rfl)) rfl ?_
      rcases btf ((!r29)) with hc31 | hc31
      · have h := bif_t hc31 h
        refine DrawG.fl rfl (ev_no (wantS_not' rfl rfl hc31)) rfl ?_
        refine DrawG.fl rfl (ev_no (wantS_not' rfl rfl hc31)) rfl ?_
        refine DrawG.no rfl (wantS_not' rfl rfl hc31) rfl st_nil ?_
        refine DrawG.fl rfl (ev_no (wantS_not' rfl rfl hc31)) rfl ?_
        refine DrawG.fl rfl (ev_ex wantS_none (ex_pickT' rfl hc31 rfl rfl)) rfl ?_
        refine DrawG.fl rfl (ev_ex wantS_none (ex_move rfl)) rfl ?_
        refine DrawG.fl rfl (ev_no (wantS_not' rfl rfl rfl)) rfl ?_
        refine DrawG.fl rfl (ev_no (wantS_not' rfl rfl rfl)) rfl ?_
        refine DrawG.no rfl (wantS_not' rfl rfl rfl) rfl st_nil ?_
        refine DrawG.fl rfl (ev_no (wantS_not' rfl rfl rfl)) rfl ?_
        refine DrawG.fl rfl (ev_ex wantS_none (ex_pickT' rfl rfl rfl rfl)) rfl ?_
        refine DrawG.fl rfl (ev_ex wantS_none (ex_move rfl)) rfl ?_
        refine DrawG.fl rfl (ev_no (wantS_not' rfl rfl rfl)) rfl ?_
        refine DrawG.fl rfl (ev_no (wantS_not' rfl rfl rfl)) rfl ?_
        refine DrawG.fl rfl (ev_no (wantS_not' rfl rfl rfl)) rfl ?_
        refine DrawG.fl rfl (ev_no (wantS_skip rfl rfl)) rfl ?_
        refine DrawG.fl rfl (ev_no (wantS_skip rfl rfl)) rfl ?_
        refine DrawG.fl rfl (ev_no (wantS_skip rfl rfl)) rfl ?_
        refine DrawG.fl rfl (ev_no (wantS_skip rfl rfl)) rfl ?_
        refine DrawG.fl rfl (ev_no (wantS_skip rfl rfl)) rfl ?_
        refine DrawG.fl rfl (ev_no (wantS_skip rfl rfl)) rfl ?_
        refine DrawG.fl rfl (ev_no (wantS_skip rfl rfl)) rfl ?_
        refine DrawG.fl rfl (ev_no (wantS_skip rfl rfl)) rfl ?_
        refine DrawG.fl rfl (ev_no (wantS_skip rfl rfl)) rfl ?_
        refine DrawG.fl rfl (ev_no (wantS_not' rfl rfl rfl)) rfl ?_
        refine DrawG.fl rfl (ev_ex wantS_none (ex_pickT' rfl rfl rfl rfl)) rfl ?_
        refine DrawG.sync ?_
        refine DrawG.nil ?_
        exact Run.pick [0, 3, 48] (ref08_CheckTriggers_2_ok F (ref08_CheckTriggers_1 F N) ih v0 v3 true sv0 _ _ _ hv0 (hH28.pick [] rfl rfl) h)
      · have h := bif_f hc31 h
        refine DrawG.fl rfl (ev_ex (wantS_yes' rfl rfl hc31) (ex_fieldAddr rfl off76_1)) rfl ?_
        refine DrawG.fl rfl (ev_ex (wantS_yes' rfl rfl hc31) (ex_load1 rfl (hH28.cells (i := 0) rfl 1 rfl) rdLe_rfl agg3)) rfl ?_
        obtain ⟨r33, hr33, h⟩ := bnd_some h
        refine DrawG.callP rfl (wantS_yes' rfl rfl hc31) (ex_call rfl mkk49 cal49) rfl (ref00_In_ok F x24.Loud (0 : Int) (1073741824 : Int) _ _ hr33) st_nil ?_
        refine DrawG.fl rfl (ev_ex (wantS_yes' rfl rfl hc31) (ex_not rfl)) rfl ?_
        refine DrawG.fl rfl (ev_ex wantS_none (ex_pickF' rfl hc31 rfl rfl)) rfl ?_
        refine DrawG.fl rfl (ev_ex wantS_none (ex_move rfl)) rfl ?_
        rcases btf ((!r33)) with hc35 | hc35
        · have h := bif_t hc35 h
          refine DrawG.fl rfl (ev_no (wantS_not' rfl rfl hc35)) rfl ?_
          refine DrawG.fl rfl (ev_no (wantS_not' rfl rfl hc35)) rfl ?_
          refine DrawG.no rfl (wantS_not' rfl rfl hc35) rfl st_nil ?_
          refine DrawG.fl rfl (ev_no (wantS_not' rfl rfl hc35)) rfl ?_
          refine DrawG.fl rfl (ev_ex wantS_none (ex_pickT' rfl hc35 rfl rfl)) rfl ?_
          refine DrawG.fl rfl (ev_ex wantS_none (ex_move rfl)) rfl ?_
          refine DrawG.fl rfl (ev_no (wantS_not' rfl rfl rfl)) rfl ?_
          refine DrawG.fl rfl (ev_no (wantS_not' rfl rfl rfl)) rfl ?_
          refine DrawG.fl rfl (ev_no (wantS_not' rfl rfl rfl)) rfl ?_
          refine DrawG.fl rfl (ev_no (wantS_skip rfl rfl)) rfl ?_
          refine DrawG.fl rfl (ev_no (wantS_skip rfl rfl)) rfl ?_
          refine DrawG.fl rfl (ev_no (wantS_skip rfl rfl)) rfl ?_
          refine DrawG.fl rfl (ev_no (wantS_skip rfl rfl)) rfl ?_
          refine DrawG.fl rfl (ev_no (wantS_skip rfl rfl)) rfl ?_
          refine DrawG.fl rfl (ev_no (wantS_skip rfl rfl)) rfl ?_
          refine DrawG.fl rfl (ev_no (wantS_skip rfl rfl)) rfl ?_
          refine DrawG.fl rfl (ev_no (wantS_skip rfl rfl)) rfl ?_
          refine DrawG.fl rfl (ev_no (wantS_skip rfl rfl)) rfl ?_
          refine DrawG.fl rfl (ev_no (wantS_not' rfl rfl rfl)) rfl ?_
          refine DrawG.fl rfl (ev_ex wantS_none (ex_pickT' rfl rfl rfl rfl)) rfl ?_
          refine DrawG.sync ?_
          refine DrawG.nil ?_
          exact Run.pick [0, 3, 48] (ref08_CheckTriggers_2_ok F (ref08_CheckTriggers_1 F N) ih v0 v3 true sv0 _ _ _ hv0 (hH28.pick [] rfl rfl) h)
        · have h := bif_f hc35 h
          refine DrawG.fl rfl (ev_ex (wantS_yes' rfl rfl hc35) (ex_fieldAddr rfl off76_2)) rfl ?_
          refine DrawG.fl rfl (ev_ex (wantS_yes' rfl rfl hc35) (ex_load1 rfl (hH28.cells (i := 0) rfl 2 rfl) rdLe_rfl agg3)) rfl ?_
          obtain ⟨r36, hr36, h⟩ := bnd_some h
          refine DrawG.callP rfl (wantS_yes' rfl rfl hc35) (ex_call rfl mkk49 cal49) rfl (ref00_In_ok F x24.Template (0 : Int) (255 : Int) _ _ hr36) st_nil ?_
          refine DrawG.fl rfl (ev_ex (wantS_yes' rfl rfl hc35) (ex_not rfl)) rfl ?_
          refine DrawG.fl rfl (ev_ex wantS_none (ex_pickF' rfl hc35 rfl rfl)) rfl ?_
          refine DrawG.fl rfl (ev_ex wantS_none (ex_move rfl)) rfl ?_
          rcases btf ((!r36)) with hc38 | hc38
          · have h := bif_t hc38 h
            refine DrawG.fl rfl (ev_no (wantS_not' rfl rfl hc38)) rfl ?_
            refine DrawG.fl rfl (ev_no (wantS_not' rfl rfl hc38)) rfl ?_
            refine DrawG.fl rfl (ev_no (wantS_not' rfl rfl hc38)) rfl ?_
            refine DrawG.fl rfl (ev_no (wantS_skip rfl rfl)) rfl ?_
            refine DrawG.fl rfl (ev_no (wantS_skip rfl rfl)) rfl ?_
            refine DrawG.fl rfl (ev_no (wantS_skip rfl rfl)) rfl ?_
            refine DrawG.fl rfl (ev_no (wantS_skip rfl rfl)) rfl ?_
            refine DrawG.fl rfl (ev_no (wantS_skip rfl rfl)) rfl ?_
            refine DrawG.fl rfl (ev_no (wantS_skip rfl rfl)) rfl ?_
            refine DrawG.fl rfl (ev_no (wantS_skip rfl rfl)) rfl ?_
            refine DrawG.fl rfl (ev_no (wantS_skip rfl rfl)) rfl ?_
            refine DrawG.fl rfl (ev_no (wantS_skip rfl rfl)) rfl ?_
            refine DrawG.fl rfl (ev_no (wantS_not' rfl rfl hc38)) rfl ?_
            refine DrawG.fl rfl (ev_ex wantS_none (ex_pickT' rfl hc38 rfl rfl)) rfl ?_
            refine DrawG.sync ?_
            refine DrawG.nil ?_
            exact Run.pick [0, 3, 48] (ref08_CheckTriggers_2_ok F (ref08_CheckTriggers_1 F N) ih v0 v3 true sv0 _ _ _ hv0 (hH28.pick [] rfl rfl) h)
          · have h := bif_f hc38 h
            refine DrawG.fl rfl (ev_ex (wantS_yes' rfl rfl hc38) (ex_move rfl)) rfl ?_
            refine DrawG.fl rfl (ev_ex (wantS_yes' rfl rfl hc38) (ex_gtr rfl rfl)) rfl ?_
            refine DrawG.fl rfl (ev_ex (wantS_yes' rfl rfl hc38) (ex_move rfl)) rfl ?_
            rcases btf ((decide ((0 : Int) < v3))) with hc39 | hc39
            · have h := bif_t hc39 h
              refine DrawG.fl rfl (ev_ex (wantS_yes' rfl rfl hc39) (ex_move rfl)) rfl ?_
              refine DrawG.fl rfl (ev_ex (wantS_yes' rfl rfl hc39) (ex_move rfl)) rfl ?_
              refine DrawG.fl rfl (ev_ex (wantS_yes' rfl rfl hc39) (ex_sub rfl rfl)) rfl ?_
              obtain ⟨x40, hx40, h⟩ := bnd_some h
              obtain ⟨p40, o40, _, hx40, hp40, rfl⟩ := sl_elem (P := Try.prog) (t := 22) (kk := .i64) hv0 hx40 els22
              refine DrawG.fl rfl (ev_ex (wantS_yes' rfl rfl hc39) (ex_elX rfl rfl hx40)) rfl ?_
              have hp41 := (hp40.fld (o := 0) rfl)
              refine DrawG.fl rfl (ev_ex (wantS_yes' rfl rfl hc39) (ex_fieldAddr rfl off76_0)) rfl ?_
              refine DrawG.fl rfl (ev_ex (wantS_yes' rfl rfl hc39) (ex_load1 rfl (hH28.ptrF hp41) rdLe_rfl agg3)) rfl ?_
              refine DrawG.fl rfl (ev_ex (wantS_yes' rfl rfl hc39) (ex_fieldAddr rfl off76_0)) rfl ?_
              refine DrawG.fl rfl (ev_ex (wantS_yes' rfl rfl hc39) (ex_load1 rfl (hH28.cells (i := 0) rfl 0 rfl) rdLe_rfl agg3)) rfl ?_
              refine DrawG.fl rfl (ev_ex (wantS_yes' rfl rfl hc39) (ex_geq rfl rfl)) rfl ?_
              refine DrawG.fl rfl (ev_ex (wantS_yes' rfl rfl hc38) (ex_pickT' rfl hc39 rfl rfl)) rfl ?_
              refine DrawG.fl rfl (ev_ex wantS_none (ex_pickF' rfl hc38 rfl rfl)) rfl ?_
              refine DrawG.sync ?_
              refine DrawG.nil ?_
              exact Run.pick [0, 3, 48] (ref08_CheckTriggers_2_ok F (ref08_CheckTriggers_1 F N) ih v0 v3 (decide (x24.Time ≤ x40.Time)) sv0 _ _ _ hv0 (hH28.pick [] rfl rfl) h)
            · have h := bif_f hc39 h
              refine DrawG.fl rfl (ev_no (wantS_not' rfl rfl hc39)) rfl ?_
              refine DrawG.fl rfl (ev_no (wantS_not' rfl rfl hc39)) rfl ?_
              refine DrawG.fl rfl (ev_no (wantS_not' rfl rfl hc39)) rfl ?_
              refine DrawG.fl rfl (ev_no (wantS_not' rfl rfl hc39)) rfl ?_
              refine DrawG.fl rfl (ev_no (wantS_not' rfl rfl hc39)) rfl ?_
              refine DrawG.fl rfl (ev_no (wantS_not' rfl rfl hc39)) rfl ?_
              refine DrawG.fl rfl (ev_no (wantS_not' rfl rfl hc39)) rfl ?_
              refine DrawG.fl rfl (ev_no (wantS_not' rfl rfl hc39)) rfl ?_
              refine DrawG.fl rfl (ev_no (wantS_not' rfl rfl hc39)) rfl ?_
              refine DrawG.fl rfl (ev_ex (wantS_yes' rfl rfl hc38) (ex_pickF' rfl hc39 rfl rfl)) rfl ?_
              refine DrawG.fl rfl (ev_ex wantS_none (ex_pickF' rfl hc38 rfl rfl)) rfl ?_
              refine DrawG.sync ?_
              refine DrawG.nil ?_
              exact Run.pick [0, 3, 48] (ref08_CheckTriggers_2_ok F (ref08_CheckTriggers_1 F N) ih v0 v3 false sv0 _ _ _ hv0 (hH28.pick [] rfl rfl) h)
    · have h := bif_f hc22 h
      refine Run.condF' rfl hc22 ?_
      refine Run.exit rfl (Run.seq (Run.region ?_))
      refine Run.opG wantS_none (ex_assign rfl) rfl ?_
      refine Run.opsEnd ?_
      cases h
      exact Run.ret Try.func16 rfl (res_tmp rfl res_nil) rfl

def ref08_CheckTriggers (F : Nat) (a0 : (List S_api_Trigger)) : Option (Int) :=
  bif (decide ((256 : Int) < (a0.length : Int))) then
    some (80 : Int)
  else
    ref08_CheckTriggers_1 F F a0 (0 : Int)

theorem ref08_CheckTriggers_ok (F : Nat) (a0 : (List S_api_Trigger)) (s0 : SV) (r : Int) (M : Mem) (hs0 : Slc (rd M) 3 (FlatR enc76) s0 a0) (h : ref08_CheckTriggers F a0 = some r) : CallsM Try.prog 16 [s0] M (fun s M' => s = (.int .i64 r) ∧ M' = M) := by
  refine CallsM.plain Try.func16 rfl rfl rfl (show Run _ _ _ (ref08_CheckTriggers_post r) _ _ _ from ?_)
  rw [ref08_CheckTriggers] at h
  replace hs0 := hs0.mono (rdLe_frozen M) (fun _ _ h => h)
  have hH := Has.nil (frozen M)
  refine Run.seq (Run.region ?_)
  refine Run.opG wantS_none (ex_assign rfl) rfl ?_
  refine Run.opsEnd (Run.seq (Run.seq (Run.region ?_)))
  refine Run.opG wantS_none (ex_move rfl) rfl ?_
  refine Run.opG wantS_none (ex_len' rfl hs0 lenk22) rfl ?_
  refine Run.opG wantS_none (ex_gtr rfl rfl) rfl ?_
  refine Run.opsEnd ?_
  rcases btf ((decide ((256 : Int) < (a0.length : Int)))) with hc21 | hc21
  · have h := bif_t hc21 h
    refine Run.condT' rfl hc21 ?_
    refine Run.seq (Run.region ?_)
    refine Run.opG wantS_none (ex_assign rfl) rfl ?_
    refine Run.opsEnd ?_
    cases h
    exact Run.ret Try.func16 rfl (res_tmp rfl res_nil) rfl
  · have h := bif_f hc21 h
    refine Run.condF' rfl hc21 ?_
    refine Run.skip (Run.seq (Run.seq (Run.region ?_)))
    refine Run.opG wantS_none (ex_assign rfl) rfl ?_
    refine Run.opsEnd (Run.block (Run.loop ?_))
    exact Run.pick [0, 3] (ref08_CheckTriggers_1_ok F F a0 (0 : Int) s0 _ _ _ hs0 hH h)

theorem mkk16 : makeK Try.prog 16 = none := by kernel_rfl
theorem cal16 : callable Try.prog 16 = true := by kernel_rfl
theorem plan92_1_1_0_1_0_0_1_0_0_1_0_0 : planOf Try.prog (opsC (atC Try.prog 92 [1, 1, 0, 1, 0, 0, 1, 0, 0, 1, 0, 0])) = some [.fl 0, .fl 1, .fl 2, .fl 3, .fl 4, .fl 5, .fl 6, .fl 7, .fl 8, .fl 9, .fl 10, .fl 11, .an 12 [], .fl 13, .fl 14, .fl 15, .fl 16, .fl 17, .fl 18, .an 19 [], .fl 20, .fl 21, .fl 22, .fl 23, .fl 24, .fl 25, .fl 26, .fl 27, .fl 28, .fl 29, .fl 30, .fl 31, .fl 32, .fl 33, .fl 34, .fl 35, .fl 36, .fl 37, .fl 38, .fl 39, .fl 40, .fl 41, .fl 42, .fl 43, .fl 44, .fl 45, .fl 46, .sync] := by kernel_rfl
abbrev ref08_waves_post (r : Bool) : SV → Mem → Prop := fun s _ => s = (.bool r)

def ref08_waves_3 (F : Nat) (hd1 : (List S_api_Wave) → Int → Int → Option (Bool)) : Nat → (List S_api_Wave) → Int → Int → Int → Int → Int → (List Int) → Option (Bool)
  | 0, _, _, _, _, _, _, _ => none
  | N + 1, v0, v1, v5, v7, c26_0, c26_1, c26_2 =>
    bif (decide (v7 < (c26_2.length : Int))) then
      bnd (idx c26_2 v7) fun x33 =>
      bnd (ref00_In F x33 ((-256) : Int) (256 : Int)) fun r35 =>
      bif (!r35) then
        some false
      else
        (ref08_waves_3 F hd1 N) v0 v1 v5 (w64 (v7 + (1 : Int))) c26_0 c26_1 c26_2
    else
      hd1 v0 v1 (w64 (v5 + (1 : Int)))

theorem ref08_waves_3_ok (F : Nat) (hd1 : (List S_api_Wave) → Int → Int → Option (Bool)) (hhd1 : ∀ (v0 : (List S_api_Wave)) (v1 : Int) (v5 : Int) (sv0 : SV) (Fr : Rd) (M : Mem) (r : Bool) (hv0 : Slc Fr 3 (rep83 Fr) sv0 v0) (hH : Has Fr M []), hd1 v0 v1 v5 = some r → Run Try.prog ⟨⟨92, [], none⟩, []⟩ 82 (ref08_waves_post r) [(0, sv0), (1, (.int .i64 v1)), (5, (.int .i64 v5))] [codeC Try.prog 92 [1, 1, 0, 1, 0, 0], loopC Try.prog 92 [1, 1, 0, 1, 0, 0], .inBlock 0, codeC Try.prog 92 [1, 1, 1]] M) : ∀ (N : Nat), ∀ (v0 : (List S_api_Wave)) (v1 : Int) (v5 : Int) (v7 : Int) (c26_0 : Int) (c26_1 : Int) (c26_2 : (List Int)) (sv0 : SV) (sc26_2 : SV) (b26 : Pos) (Fr : Rd) (M : Mem) (r : Bool) (hv0 : Slc Fr 3 (rep83 Fr) sv0 v0) (hc26_2 : Slc Fr 1 (FlatR enc3) sc26_2 c26_2) (hH : Has Fr M [.obj b26 (.row 83 .whole [(.int .i64 c26_0), (.int .i64 c26_1), sc26_2])]), ref08_waves_3 F hd1 N v0 v1 v5 v7 c26_0 c26_1 c26_2 = some r → Run Try.prog ⟨⟨92, [], none⟩, []⟩ 82 (ref08_waves_post r) [(0, sv0), (1, (.int .i64 v1)), (5, (.int .i64 v5)), (6, (.ptr b26 0)), (7, (.int .i64 v7))] [codeC Try.prog 92 [1, 1, 0, 1, 0, 0, 1, 0, 0, 1, 1, 1, 0, 0], loopC Try.prog 92 [1, 1, 0, 1, 0, 0, 1, 0, 0, 1, 1, 1, 0, 0], .inBlock 2, .inBlock 1, codeC Try.prog 92 [1, 1, 0, 1, 0, 0, 1, 1], loopC Try.prog 92 [1, 1, 0, 1, 0, 0], .inBlock 0, codeC Try.prog 92 [1, 1, 1]] M := by
  intro N
  induction N with
  | zero =>
    intro v0 v1 v5 v7 c26_0 c26_1 c26_2 sv0 sc26_2 b26 Fr M r hv0 hc26_2 hH h
    simp [ref08_waves_3] at h
  | succ N ih =>
    intro v0 v1 v5 v7 c26_0 c26_1 c26_2 sv0 sc26_2 b26 Fr M r hv0 hc26_2 hH h
    rw [ref08_waves_3] at h
    refine Run.seq (Run.seq (Run.region ?_))
    refine Run.opG wantS_none (ex_move rfl) rfl ?_
    refine Run.opG wantS_none (ex_fieldAddr rfl off83_2) rfl ?_
    refine Run.opG wantS_none (ex_load1 rfl (hH.cells (i := 0) rfl 2 rfl) rdLe_rfl agg38) rfl ?_
    refine Run.opG wantS_none (ex_len' rfl hc26_2 lenk38) rfl ?_
    refine Run.opG wantS_none (ex_lss rfl rfl) rfl ?_
    refine Run.opsEnd ?_
    rcases btf ((decide (v7 < (c26_2.length : Int)))) with hc31 | hc31
    · have h := bif_t hc31 h
      refine Run.condT' rfl hc31 ?_
      refine Run.skip (Run.seq (Run.block (Run.seq (Run.region ?_))))
      refine Run.opG wantS_none (ex_fieldAddr rfl off83_2) rfl ?_
      refine Run.opG wantS_none (ex_load1 rfl (hH.cells (i := 0) rfl 2 rfl) rdLe_rfl agg38) rfl ?_
      refine Run.opG wantS_none (ex_move rfl) rfl ?_
      obtain ⟨x33, hx33, h⟩ := bnd_some h
      obtain ⟨p33, o33, _, hx33, hp33, rfl⟩ := sl_elem (P := Try.prog) (t := 38) (kk := .i64) hc26_2 hx33 els38
      refine Run.opG wantS_none (ex_elX rfl rfl hx33) rfl ?_
      refine Run.opG wantS_none (ex_load1 rfl (hH.ptrF hp33) rdLe_rfl agg3) rfl ?_
      obtain ⟨r35, hr35, h⟩ := bnd_some h
      refine Run.callP wantS_none (ex_call rfl mkk49 cal49) rfl (ref00_In_ok F x33 ((-256) : Int) (256 : Int) _ _ hr35) ?_
      refine Run.opG wantS_none (ex_not rfl) rfl ?_
      refine Run.opsEnd ?_
      rcases btf ((!r35)) with hc37 | hc37
      · have h := bif_t hc37 h
        refine Run.condT' rfl hc37 ?_
        refine Run.seq (Run.region ?_)
        refine Run.opG wantS_none (ex_assign rfl) rfl ?_
        refine Run.opsEnd ?_
        cases h
        exact Run.ret Try.func92 rfl (res_tmp rfl res_nil) rfl
      · have h := bif_f hc37 h
        refine Run.condF' rfl hc37 ?_
        refine Run.skip (Run.inBlock (Run.region ?_))
        refine Run.opG wantS_none (ex_move rfl) rfl ?_
        refine Run.opG wantS_none (ex_add rfl rfl) rfl ?_
        refine Run.opG wantS_none (ex_assign rfl) rfl ?_
        refine Run.opsEnd (Run.inLoop ?_)
        exact Run.pick [0, 1, 5, 6, 7] (ih v0 v1 v5 (w64 (v7 + (1 : Int))) c26_0 c26_1 c26_2 sv0 sc26_2 b26 _ _ _ hv0 hc26_2 hH h)
    · have h := bif_f hc31 h
      refine Run.condF' rfl hc31 ?_
      refine Run.exit rfl (Run.inBlock (Run.region ?_))
      refine Run.opG wantS_none (ex_move rfl) rfl ?_
      refine Run.opG wantS_none (ex_add rfl rfl) rfl ?_
      refine Run.opG wantS_none (ex_assign rfl) rfl ?_
      refine Run.opsEnd (Run.inLoop ?_)
      exact Run.pick [0, 1, 5] (hhd1 v0 v1 (w64 (v5 + (1 : Int))) sv0 _ _ _ hv0 (hH.pick [] rfl rfl) h)

def ref08_waves_2 (F : Nat) (hd1 : (List S_api_Wave) → Int → Int → Option (Bool)) (v0 : (List S_api_Wave)) (v1 : Int) (v5 : Int) (v67 : Bool) (c26_0 : Int) (c26_1 : Int) (c26_2 : (List Int)) : Option (Bool) :=
  bif v67 then
    some false
  else
    ref08_waves_3 F hd1 F v0 v1 v5 (0 : Int) c26_0 c26_1 c26_2

theorem ref08_waves_2_ok (F : Nat) (hd1 : (List S_api_Wave) → Int → Int → Option (Bool)) (hhd1 : ∀ (v0 : (List S_api_Wave)) (v1 : Int) (v5 : Int) (sv0 : SV) (Fr : Rd) (M : Mem) (r : Bool) (hv0 : Slc Fr 3 (rep83 Fr) sv0 v0) (hH : Has Fr M []), hd1 v0 v1 v5 = some r → Run Try.prog ⟨⟨92, [], none⟩, []⟩ 82 (ref08_waves_post r) [(0, sv0), (1, (.int .i64 v1)), (5, (.int .i64 v5))] [codeC Try.prog 92 [1, 1, 0, 1, 0, 0], loopC Try.prog 92 [1, 1, 0, 1, 0, 0], .inBlock 0, codeC Try.prog 92 [1, 1, 1]] M) : ∀ (v0 : (List S_api_Wave)) (v1 : Int) (v5 : Int) (v67 : Bool) (c26_0 : Int) (c26_1 : Int) (c26_2 : (List Int)) (sv0 : SV) (sc26_2 : SV) (b26 : Pos) (Fr : Rd) (M : Mem) (r : Bool) (hv0 : Slc Fr 3 (rep83 Fr) sv0 v0) (hc26_2 : Slc Fr 1 (FlatR enc3) sc26_2 c26_2) (hH : Has Fr M [.obj b26 (.row 83 .whole [(.int .i64 c26_0), (.int .i64 c26_1), sc26_2])]), ref08_waves_2 F hd1 v0 v1 v5 v67 c26_0 c26_1 c26_2 = some r → Run Try.prog ⟨⟨92, [], none⟩, []⟩ 82 (ref08_waves_post r) [(0, sv0), (1, (.int .i64 v1)), (5, (.int .i64 v5)), (6, (.ptr b26 0)), (67, (.bool v67))] [codeC Try.prog 92 [1, 1, 0, 1, 0, 0, 1, 0, 0, 1, 0, 1], codeC Try.prog 92 [1, 1, 0, 1, 0, 0, 1, 0, 0, 1, 1], .inBlock 1, codeC Try.prog 92 [1, 1, 0, 1, 0, 0, 1, 1], loopC Try.prog 92 [1, 1, 0, 1, 0, 0], .inBlock 0, codeC Try.prog 92 [1, 1, 1]] M := by
  intro v0 v1 v5 v67 c26_0 c26_1 c26_2 sv0 sc26_2 b26 Fr M r hv0 hc26_2 hH h
  rw [ref08_waves_2] at h
  rcases btf (v67) with hc30 | hc30
  · have h := bif_t hc30 h
    refine Run.condT' rfl hc30 ?_
    refine Run.seq (Run.region ?_)
    refine Run.opG wantS_none (ex_assign rfl) rfl ?_
    refine Run.opsEnd ?_
    cases h
    exact Run.ret Try.func92 rfl (res_tmp rfl res_nil) rfl
  · have h := bif_f hc30 h
    refine Run.condF' rfl hc30 ?_
    refine Run.skip (Run.seq (Run.region ?_))
    refine Run.opG wantS_none (ex_assign rfl) rfl ?_
    refine Run.opsEnd (Run.block (Run.loop ?_))
    exact Run.pick [0, 1, 5, 6, 7] (ref08_waves_3_ok F hd1 hhd1 F v0 v1 v5 (0 : Int) c26_0 c26_1 c26_2 sv0 sc26_2 b26 _ _ _ hv0 hc26_2 hH h)

def ref08_waves_1 (F : Nat) : Nat → (List S_api_Wave) → Int → Int → Option (Bool)
  | 0, _, _, _ => none
  | N + 1, v0, v1, v5 =>
    bif (decide (v5 < (v0.length : Int))) then
      bnd (idx v0 v5) fun x24 =>
      bif (decide (x24.At < (0 : Int))) then
        ref08_waves_2 F (ref08_waves_1 F N) v0 v1 v5 true x24.At x24.Gain x24.Samples
      else
        bif (decide (v1 ≤ x24.At)) then
          ref08_waves_2 F (ref08_waves_1 F N) v0 v1 v5 true x24.At x24.Gain x24.Samples
        else
          bnd (ref00_In F x24.Gain ((-64) : Int) (64 : Int)) fun r39 =>
          bif (!r39) then
            ref08_waves_2 F (ref08_waves_1 F N) v0 v1 v5 true x24.At x24.Gain x24.Samples
          else
            bnd (ref00_In F (x24.Samples.length : Int) (1 : Int) (64 : Int)) fun r42 =>
            bif (!r42) then
              ref08_waves_2 F (ref08_waves_1 F N) v0 v1 v5 true x24.At x24.Gain x24.Samples
            else
              bif (decide (v1 < (w64 (x24.At + (x24.Samples.length : Int))))) then
                ref08_waves_2 F (ref08_waves_1 F N) v0 v1 v5 true x24.At x24.Gain x24.Samples
              else
                bif (decide ((0 : Int) < v5)) then
                  bnd (idx v0 (w64 (v5 - (1 : Int)))) fun x47 =>
                  ref08_waves_2 F (ref08_waves_1 F N) v0 v1 v5 (decide (x24.At ≤ x47.At)) x24.At x24.Gain x24.Samples
                else
                  ref08_waves_2 F (ref08_waves_1 F N) v0 v1 v5 false x24.At x24.Gain x24.Samples
    else
      some true

theorem ref08_waves_1_ok (F : Nat) : ∀ (N : Nat), ∀ (v0 : (List S_api_Wave)) (v1 : Int) (v5 : Int) (sv0 : SV) (Fr : Rd) (M : Mem) (r : Bool) (hv0 : Slc Fr 3 (rep83 Fr) sv0 v0) (hH : Has Fr M []), ref08_waves_1 F N v0 v1 v5 = some r → Run Try.prog ⟨⟨92, [], none⟩, []⟩ 82 (ref08_waves_post r) [(0, sv0), (1, (.int .i64 v1)), (5, (.int .i64 v5))] [codeC Try.prog 92 [1, 1, 0, 1, 0, 0], loopC Try.prog 92 [1, 1, 0, 1, 0, 0], .inBlock 0, codeC Try.prog 92 [1, 1, 1]] M := by
  intro N
  induction N with
  | zero =>
    intro v0 v1 v5 sv0 Fr M r hv0 hH h
    simp [ref08_waves_1] at h
  | succ N ih =>
    intro v0 v1 v5 sv0 Fr M r hv0 hH h
    rw [ref08_waves_1] at h
    refine Run.seq (Run.seq (Run.region ?_))
    refine Run.opG wantS_none (ex_move rfl) rfl ?_
    refine Run.opG wantS_none (ex_move rfl) rfl ?_
    refine Run.opG wantS_none (ex_len' rfl hv0 lenk55) rfl ?_
    refine Run.opG wantS_none (ex_lss rfl rfl) rfl ?_
    refine Run.opsEnd ?_
    rcases btf ((decide (v5 < (v0.length : Int)))) with hc22 | hc22
    · have h := bif_t hc22 h
      refine Run.condT' rfl hc22 ?_
      refine Run.skip (Run.seq (Run.block (Run.seq (Run.region ?_))))
      refine Run.opG wantS_none (ex_move rfl) rfl ?_
      refine Run.opG wantS_none (ex_move rfl) rfl ?_
      obtain ⟨x24, hx24, h⟩ := bnd_some h
      obtain ⟨p24, o24, _, hx24, hp24, ⟨q24_0, rfl, hq24_0⟩⟩ := sl_elem (P := Try.prog) (t := 55) (kk := .i64) hv0 hx24 els55
      refine Run.opG wantS_none (ex_elX rfl rfl hx24) rfl ?_
      refine Run.opG wantS_none (ex_loadA rfl (hH.ptrF hp24) rdLe_rfl agg83 rfl rfl rfl) rfl ?_
      refine Run.opX wantS_none rfl (ExG.new (v := fun b => .ptr b 0) (ex_alloc zer83) hH) ?_
      rintro _ M27 ⟨b26, rfl, (hH27 : Has Fr M27 [.obj b26 (.row 83 .whole [(.int .i64 0), (.int .i64 0), .nils])])⟩
      refine Run.opX wantS_none rfl (ExG.storeC (c' := [(.int .i64 x24.At), (.int .i64 x24.Gain), q24_0]) rfl rfl rfl hH27 (i := 0) rfl sz83 rfl rfl rfl (ones_cons rfl (ones_cons rfl (ones_cons (slc_one hq24_0) ones_nil))) rfl) ?_
      rintro _ M28 ⟨rfl, (hH28 : Has Fr M28 [.obj b26 (.row 83 .whole [(.int .i64 x24.At), (.int .i64 x24.Gain), q24_0])])⟩
      refine Run.opsEnd (Run.seq (Run.seq ?_))
      refine Run.drawG plan92_1_1_0_1_0_0_1_0_0_1_0_0 ?_
      refine DrawG.fl rfl (ev_ex wantS_none (ex_fieldAddr rfl off83_0)) rfl ?_
      refine DrawG.fl rfl (ev_ex wantS_none (ex_load1 rfl (hH28.cells (i := 0) rfl 0 rfl) rdLe_rfl agg3)) rfl ?_
      refine DrawG.fl rfl (ev_ex wantS_none (ex_lss rfl rfl)) rfl ?_
      refine DrawG.fl rfl (ev_ex wantS_none (ex_move rfl)) rfl ?_
      rcases btf ((decide (x24.At < (0 : Int)))) with hc29 | hc29
      · have h := bif_t hc29 h
        refine DrawG.fl rfl (ev_no (wantS_not' rfl rfl hc29)) rfl ?_
        refine DrawG.fl rfl (ev_no (wantS_not' rfl rfl hc29)) rfl ?_
        refine DrawG.fl rfl (ev_no (wantS_not' rfl rfl hc29)) rfl ?_
        refine DrawG.fl rfl (ev_no (wantS_not' rfl rfl hc29)) rfl ?_
        refine DrawG.fl rfl (ev_ex wantS_none (ex_pickT' rfl hc29 rfl rfl)) rfl ?_
        refine DrawG.fl rfl (ev_ex wantS_none (ex_move rfl)) rfl ?_
        refine DrawG.fl rfl (ev_no (wantS_not' rfl rfl rfl)) rfl ?_
        refine DrawG.fl rfl (ev_no (wantS_not' rfl rfl rfl)) rfl ?_
        refine DrawG.no rfl (wantS_not' rfl rfl rfl) rfl st_nil ?_
        refine DrawG.fl rfl (ev_no (wantS_not' rfl rfl rfl)) rfl ?_
        refine DrawG.fl rfl (ev_ex wantS_none (ex_pickT' rfl rfl rfl rfl)) rfl ?_
        refine DrawG.fl rfl (ev_ex wantS_none (ex_move rfl)) rfl ?_
        refine DrawG.fl rfl (ev_no (wantS_not' rfl rfl rfl)) rfl ?_
        refine DrawG.fl rfl (ev_no (wantS_not' rfl rfl rfl)) rfl ?_
        refine DrawG.fl rfl (ev_no (wantS_not' rfl rfl rfl)) rfl ?_
        refine DrawG.no rfl (wantS_not' rfl rfl rfl) rfl st_nil ?_
        refine DrawG.fl rfl (ev_no (wantS_not' rfl rfl rfl)) rfl ?_
        refine DrawG.fl rfl (ev_ex wantS_none (ex_pickT' rfl rfl rfl rfl)) rfl ?_
        refine DrawG.fl rfl (ev_ex wantS_none (ex_move rfl)) rfl ?_
        refine DrawG.fl rfl (ev_no (wantS_not' rfl rfl rfl)) rfl ?_
        refine DrawG.fl rfl (ev_no (wantS_not' rfl rfl rfl)) rfl ?_
        refine DrawG.fl rfl (ev_no (wantS_not' rfl rfl rfl)) rfl ?_
        refine DrawG.fl rfl (ev_no (wantS_not' rfl rfl rfl)) rfl ?_
        refine DrawG.fl rfl (ev_no (wantS_not' rfl rfl rfl)) rfl ?_
        refine DrawG.fl rfl (ev_no (wantS_not' rfl rfl rfl)) rfl ?_
        refine DrawG.fl rfl (ev_no (wantS_not' rfl rfl rfl)) rfl ?_
        refine DrawG.fl rfl (ev_no (wantS_not' rfl rfl rfl)) rfl ?_
        refine DrawG.fl rfl (ev_ex wantS_none (ex_pickT' rfl rfl rfl rfl)) rfl ?_
        refine DrawG.fl rfl (ev_ex wantS_none (ex_move rfl)) rfl ?_
        refine DrawG.fl rfl (ev_no (wantS_not' rfl rfl rfl)) rfl ?_
        refine DrawG.fl rfl (ev_no (wantS_not' rfl rfl rfl)) rfl ?_
        refine DrawG.fl rfl (ev_no (wantS_not' rfl rfl rfl)) rfl ?_
        refine DrawG.fl rfl (ev_no (wantS_skip rfl rfl)) rfl ?_
        refine DrawG.fl rfl (ev_no (wantS_skip rfl rfl)) rfl ?_
        refine DrawG.fl rfl (ev_no (wantS_skip rfl rfl)) rfl ?_
        refine DrawG.fl rfl (ev_no (wantS_skip rfl rfl)) rfl ?_
        refine DrawG.fl rfl (ev_no (wantS_skip rfl rfl)) rfl ?_
        refine DrawG.fl rfl (ev_no (wantS_skip rfl rfl)) rfl ?_
        refine DrawG.fl rfl (ev_no (wantS_skip rfl rfl)) rfl ?_
        refine DrawG.fl rfl (ev_no (wantS_skip rfl rfl)) rfl ?_
        refine DrawG.fl rfl (ev_no (wantS_skip rfl rfl)) rfl ?_
        refine DrawG.fl rfl (ev_no (wantS_not' rfl rfl rfl)) rfl ?_
        refine DrawG.fl rfl (ev_ex wantS_none (ex_pickT' rfl rfl rfl rfl)) rfl ?_
        refine DrawG.sync ?_
        refine DrawG.nil ?_
        exact Run.pick [0, 1, 5, 6, 67] (ref08_waves_2_ok F (ref08_waves_1 F N) ih v0 v1 v5 true x24.At x24.Gain x24.Samples sv0 q24_0 b26 _ _ _ hv0 hq24_0 hH28 h)
      · have h := bif_f hc29 h
        refine DrawG.fl rfl (ev_ex (wantS_yes' rfl rfl hc29) (ex_fieldAddr rfl off83_0)) rfl ?_
        refine DrawG.fl rfl (ev_ex (wantS_yes' rfl rfl hc29) (ex_load1 rfl (hH28.cells (i := 0) rfl 0 rfl) rdLe_rfl agg3)) rfl ?_
        refine DrawG.fl rfl (ev_ex (wantS_yes' rfl rfl hc29) (ex_move rfl)) rfl ?_
        refine DrawG.fl rfl (ev_ex (wantS_yes' rfl rfl hc29) (ex_geq rfl rfl)) rfl ?_
        refine DrawG.fl rfl (ev_ex wantS_none (ex_pickF' rfl hc29 rfl rfl)) rfl ?_
        refine DrawG.fl rfl (ev_ex wantS_none (ex_move rfl)) rfl ?_
        rcases btf ((decide (v1 ≤ x24.At))) with hc38 | hc38
        · have h := bif_t hc38 h
          refine DrawG.fl rfl (ev_no (wantS_not' rfl rfl hc38)) rfl ?_
          refine DrawG.fl rfl (ev_no (wantS_not' rfl rfl hc38)) rfl ?_
          refine DrawG.no rfl (wantS_not' rfl rfl hc38) rfl st_nil ?_
          refine DrawG.fl rfl (ev_no (wantS_not' rfl rfl hc38)) rfl ?_
          refine DrawG.fl rfl (ev_ex wantS_none (ex_pickT' rfl hc38 rfl rfl)) rfl ?_
          refine DrawG.fl rfl (ev_ex wantS_none (ex_move rfl)) rfl ?_
          refine DrawG.fl rfl (ev_no (wantS_not' rfl rfl rfl)) rfl ?_
          refine DrawG.fl rfl (ev_no (wantS_not' rfl rfl rfl)) rfl ?_
          refine DrawG.fl rfl (ev_no (wantS_not' rfl rfl rfl)) rfl ?_
          refine DrawG.no rfl (wantS_not' rfl rfl rfl) rfl st_nil ?_
          refine DrawG.fl rfl (ev_no (wantS_not' rfl rfl rfl)) rfl ?_
          refine DrawG.fl rfl (ev_ex wantS_none (ex_pickT' rfl rfl rfl rfl)) rfl ?_
          refine DrawG.fl rfl (ev_ex wantS_none (ex_move rfl)) rfl ?_
          refine DrawG.fl rfl (ev_no (wantS_not' rfl rfl rfl)) rfl ?_
          refine DrawG.fl rfl (ev_no (wantS_not' rfl rfl rfl)) rfl ?_
          refine DrawG.fl rfl (ev_no (wantS_not' rfl rfl rfl)) rfl ?_
          refine DrawG.fl rfl (ev_no (wantS_not' rfl rfl rfl)) rfl ?_
          refine DrawG.fl rfl (ev_no (wantS_not' rfl rfl rfl)) rfl ?_
          refine DrawG.fl rfl (ev_no (wantS_not' rfl rfl rfl)) rfl ?_
          refine DrawG.fl rfl (ev_no (wantS_not' rfl rfl rfl)) rfl ?_
          refine DrawG.fl rfl (ev_no (wantS_not' rfl rfl rfl)) rfl ?_
          refine DrawG.fl rfl (ev_ex wantS_none (ex_pickT' rfl rfl rfl rfl)) rfl ?_
          refine DrawG.fl rfl (ev_ex wantS_none (ex_move rfl)) rfl ?_
          refine DrawG.fl rfl (ev_no (wantS_not' rfl rfl rfl)) rfl ?_
          refine DrawG.fl rfl (ev_no (wantS_not' rfl rfl rfl)) rfl ?_
          refine DrawG.fl rfl (ev_no (wantS_not' rfl rfl rfl)) rfl ?_
          refine DrawG.fl rfl (ev_no (wantS_skip rfl rfl)) rfl ?_
          refine DrawG.fl rfl (ev_no (wantS_skip rfl rfl)) rfl ?_
          refine DrawG.fl rfl (ev_no (wantS_skip rfl rfl)) rfl ?_
          refine DrawG.fl rfl (ev_no (wantS_skip rfl rfl)) rfl ?_
          refine DrawG.fl rfl (ev_no (wantS_skip rfl rfl)) rfl ?_
          refine DrawG.fl rfl (ev_no (wantS_skip rfl rfl)) rfl ?_
          refine DrawG.fl rfl (ev_no (wantS_skip rfl rfl)) rfl ?_
          refine DrawG.fl rfl (ev_no (wantS_skip rfl rfl)) rfl ?_
          refine DrawG.fl rfl (ev_no (wantS_skip rfl rfl)) rfl ?_
          refine DrawG.fl rfl (ev_no (wantS_not' rfl rfl rfl)) rfl ?_
          refine DrawG.fl rfl (ev_ex wantS_none (ex_pickT' rfl rfl rfl rfl)) rfl ?_
          refine DrawG.sync ?_
          refine DrawG.nil ?_
          exact Run.pick [0, 1, 5, 6, 67] (ref08_waves_2_ok F (ref08_waves_1 F N) ih v0 v1 v5 true x24.At x24.Gain x24.Samples sv0 q24_0 b26 _ _ _ hv0 hq24_0 hH28 h)
        · have h := bif_f hc38 h
          refine DrawG.fl rfl (ev_ex (wantS_yes' rfl rfl hc38) (ex_fieldAddr rfl off83_1)) rfl ?_
          refine DrawG.fl rfl (ev_ex (wantS_yes' rfl rfl hc38) (ex_load1 rfl (hH28.cells (i := 0) rfl 1 rfl) rdLe_rfl agg3)) rfl ?_
          obtain ⟨r39, hr39, h⟩ := bnd_some h
          refine DrawG.callP rfl (wantS_yes' rfl rfl hc38) (ex_call rfl mkk49 cal49) rfl (ref00_In_ok F x24.Gain ((-64) : Int) (64 : Int) _ _ hr39) st_nil ?_
          refine DrawG.fl rfl (ev_ex (wantS_yes' rfl rfl hc38) (ex_not rfl)) rfl ?_
          refine DrawG.fl rfl (ev_ex wantS_none (ex_pickF' rfl hc38 rfl rfl)) rfl ?_
          refine DrawG.fl rfl (ev_ex wantS_none (ex_move rfl)) rfl ?_
          rcases btf ((!r39)) with hc41 | hc41
          · have h := bif_t hc41 h
            refine DrawG.fl rfl (ev_no (wantS_not' rfl rfl hc41)) rfl ?_
            refine DrawG.fl rfl (ev_no (wantS_not' rfl rfl hc41)) rfl ?_
            refine DrawG.fl rfl (ev_no (wantS_not' rfl rfl hc41)) rfl ?_
            refine DrawG.no rfl (wantS_not' rfl rfl hc41) rfl st_nil ?_
            refine DrawG.fl rfl (ev_no (wantS_not' rfl rfl hc41)) rfl ?_
            refine DrawG.fl rfl (ev_ex wantS_none (ex_pickT' rfl hc41 rfl rfl)) rfl ?_
            refine DrawG.fl rfl (ev_ex wantS_none (ex_move rfl)) rfl ?_
            refine DrawG.fl rfl (ev_no (wantS_not' rfl rfl rfl)) rfl ?_
            refine DrawG.fl rfl (ev_no (wantS_not' rfl rfl rfl)) rfl ?_
            refine DrawG.fl rfl (ev_no (wantS_not' rfl rfl rfl)) rfl ?_
            refine DrawG.fl rfl (ev_no (wantS_not' rfl rfl rfl)) rfl ?_
            refine DrawG.fl rfl (ev_no (wantS_not' rfl rfl rfl)) rfl ?_
            refine DrawG.fl rfl (ev_no (wantS_not' rfl rfl rfl)) rfl ?_
            refine DrawG.fl rfl (ev_no (wantS_not' rfl rfl rfl)) rfl ?_
            refine DrawG.fl rfl (ev_no (wantS_not' rfl rfl rfl)) rfl ?_
            refine DrawG.fl rfl (ev_ex wantS_none (ex_pickT' rfl rfl rfl rfl)) rfl ?_
            refine DrawG.fl rfl (ev_ex wantS_none (ex_move rfl)) rfl ?_
            refine DrawG.fl rfl (ev_no (wantS_not' rfl rfl rfl)) rfl ?_
            refine DrawG.fl rfl (ev_no (wantS_not' rfl rfl rfl)) rfl ?_
            refine DrawG.fl rfl (ev_no (wantS_not' rfl rfl rfl)) rfl ?_
            refine DrawG.fl rfl (ev_no (wantS_skip rfl rfl)) rfl ?_
            refine DrawG.fl rfl (ev_no (wantS_skip rfl rfl)) rfl ?_
            refine DrawG.fl rfl (ev_no (wantS_skip rfl rfl)) rfl ?_
            refine DrawG.fl rfl (ev_no (wantS_skip rfl rfl)) rfl ?_
            refine DrawG.fl rfl (ev_no (wantS_skip rfl rfl)) rfl ?_
            refine DrawG.fl rfl (ev_no (wantS_skip rfl rfl)) rfl ?_
            refine DrawG.fl rfl (ev_no (wantS_skip rfl rfl)) rfl ?_
            refine DrawG.fl rfl (ev_no (wantS_skip rfl rfl)) rfl ?_
            refine DrawG.fl rfl (ev_no (wantS_skip rfl rfl)) rfl ?_
            refine DrawG.fl rfl (ev_no (wantS_not' rfl rfl rfl)) rfl ?_
            refine DrawG.fl rfl (ev_ex wantS_none (ex_pickT' rfl rfl rfl rfl)) rfl ?_
            refine DrawG.sync ?_
            refine DrawG.nil ?_
            exact Run.pick [0, 1, 5, 6, 67] (ref08_waves_2_ok F (ref08_waves_1 F N) ih v0 v1 v5 true x24.At x24.Gain x24.Samples sv0 q24_0 b26 _ _ _ hv0 hq24_0 hH28 h)
          · have h := bif_f hc41 h
            refine DrawG.fl rfl (ev_ex (wantS_yes' rfl rfl hc41) (ex_fieldAddr rfl off83_2)) rfl ?_
            refine DrawG.fl rfl (ev_ex (wantS_yes' rfl rfl hc41) (ex_load1 rfl (hH28.cells (i := 0) rfl 2 rfl) rdLe_rfl agg38)) rfl ?_
            refine DrawG.fl rfl (ev_ex (wantS_yes' rfl rfl hc41) (ex_len' rfl hq24_0 lenk38)) rfl ?_
            obtain ⟨r42, hr42, h⟩ := bnd_some h
            refine DrawG.callP rfl (wantS_yes' rfl rfl hc41) (ex_call rfl mkk49 cal49) rfl (ref00_In_ok F (x24.Samples.length : Int) (1 : Int) (64 : Int) _ _ hr42) st_nil ?_
            refine DrawG.fl rfl (ev_ex (wantS_yes' rfl rfl hc41) (ex_not rfl)) rfl ?_
            refine DrawG.fl rfl (ev_ex wantS_none (ex_pickF' rfl hc41 rfl rfl)) rfl ?_
            refine DrawG.fl rfl (ev_ex wantS_none (ex_move rfl)) rfl ?_
            rcases btf ((!r42)) with hc44 | hc44
            · have h := bif_t hc44 h
              refine DrawG.fl rfl (ev_no (wantS_not' rfl rfl hc44)) rfl ?_
              refine DrawG.fl rfl (ev_no (wantS_not' rfl rfl hc44)) rfl ?_
              refine DrawG.fl rfl (ev_no (wantS_not' rfl rfl hc44)) rfl ?_
              refine DrawG.fl rfl (ev_no (wantS_not' rfl rfl hc44)) rfl ?_
              refine DrawG.fl rfl (ev_no (wantS_not' rfl rfl hc44)) rfl ?_
              refine DrawG.fl rfl (ev_no (wantS_not' rfl rfl hc44)) rfl ?_
              refine DrawG.fl rfl (ev_no (wantS_not' rfl rfl hc44)) rfl ?_
              refine DrawG.fl rfl (ev_no (wantS_not' rfl rfl hc44)) rfl ?_
              refine DrawG.fl rfl (ev_ex wantS_none (ex_pickT' rfl hc44 rfl rfl)) rfl ?_
              refine DrawG.fl rfl (ev_ex wantS_none (ex_move rfl)) rfl ?_
              refine DrawG.fl rfl (ev_no (wantS_not' rfl rfl rfl)) rfl ?_
              refine DrawG.fl rfl (ev_no (wantS_not' rfl rfl rfl)) rfl ?_
              refine DrawG.fl rfl (ev_no (wantS_not' rfl rfl rfl)) rfl ?_
              refine DrawG.fl rfl (ev_no (wantS_skip rfl rfl)) rfl ?_
              refine DrawG.fl rfl (ev_no (wantS_skip rfl rfl)) rfl ?_
              refine DrawG.fl rfl (ev_no (wantS_skip rfl rfl)) rfl ?_
              refine DrawG.fl rfl (ev_no (wantS_skip rfl rfl)) rfl ?_
              refine DrawG.fl rfl (ev_no (wantS_skip rfl rfl)) rfl ?_
              refine DrawG.fl rfl (ev_no (wantS_skip rfl rfl)) rfl ?_
              refine DrawG.fl rfl (ev_no (wantS_skip rfl rfl)) rfl ?_
              refine DrawG.fl rfl (ev_no (wantS_skip rfl rfl)) rfl ?_
              refine DrawG.fl rfl (ev_no (wantS_skip rfl rfl)) rfl ?_
              refine DrawG.fl rfl (ev_no (wantS_not' rfl rfl rfl)) rfl ?_
              refine DrawG.fl rfl (ev_ex wantS_none (ex_pickT' rfl rfl rfl rfl)) rfl ?_
              refine DrawG.sync ?_
              refine DrawG.nil ?_
              exact Run.pick [0, 1, 5, 6, 67] (ref08_waves_2_ok F (ref08_waves_1 F N) ih v0 v1 v5 true x24.At x24.Gain x24.Samples sv0 q24_0 b26 _ _ _ hv0 hq24_0 hH28 h)
            · have h := bif_f hc44 h
              refine DrawG.fl rfl (ev_ex (wantS_yes' rfl rfl hc44) (ex_fieldAddr rfl off83_0)) rfl ?_
              refine DrawG.fl rfl (ev_ex (wantS_yes' rfl rfl hc44) (ex_load1 rfl (hH28.cells (i := 0) rfl 0 rfl) rdLe_rfl agg3)) rfl ?_
              refine DrawG.fl rfl (ev_ex (wantS_yes' rfl rfl hc44) (ex_fieldAddr rfl off83_2)) rfl ?_
              refine DrawG.fl rfl (ev_ex (wantS_yes' rfl rfl hc44) (ex_load1 rfl (hH28.cells (i := 0) rfl 2 rfl) rdLe_rfl agg38)) rfl ?_
              refine DrawG.fl rfl (ev_ex (wantS_yes' rfl rfl hc44) (ex_len' rfl hq24_0 lenk38)) rfl ?_
              refine DrawG.fl rfl (ev_ex (wantS_yes' rfl rfl hc44) (ex_add rfl rfl)) rfl ?_
              refine DrawG.fl rfl (ev_ex (wantS_yes' rfl rfl hc44) (ex_move rfl)) rfl ?_
              refine DrawG.fl rfl (ev_ex (wantS_yes' rfl rfl hc44) (ex_gtr rfl rfl)) rfl ?_
              refine DrawG.fl rfl (ev_ex wantS_none (ex_pickF' rfl hc44 rfl rfl)) rfl ?_
              refine DrawG.fl rfl (ev_ex wantS_none (ex_move rfl)) rfl ?_
              rcases btf ((decide (v1 < (w64 (x24.At + (x24.Samples.length : Int)))))) with hc45 | hc45
              · have h := bif_t hc45 h
                refine DrawG.fl rfl (ev_no (wantS_not' rfl rfl hc45)) rfl ?_
                refine DrawG.fl rfl (ev_no (wantS_not' rfl rfl hc45)) rfl ?_
                refine DrawG.fl rfl (ev_no (wantS_not' rfl rfl hc45)) rfl ?_
                refine DrawG.fl rfl (ev_no (wantS_skip rfl rfl)) rfl ?_
                refine DrawG.fl rfl (ev_no (wantS_skip rfl rfl)) rfl ?_
                refine DrawG.fl rfl (ev_no (wantS_skip rfl rfl)) rfl ?_
                refine DrawG.fl rfl (ev_no (wantS_skip rfl rfl)) rfl ?_
                refine DrawG.fl rfl (ev_no (wantS_skip rfl rfl)) rfl ?_
                refine DrawG.fl rfl (ev_no (wantS_skip rfl rfl)) rfl ?_
                refine DrawG.fl rfl (ev_no (wantS_skip rfl rfl)) rfl ?_
                refine DrawG.fl rfl (ev_no (wantS_skip rfl rfl)) rfl ?_
                refine DrawG.fl rfl (ev_no (wantS_skip rfl rfl)) rfl ?_
                refine DrawG.fl rfl (ev_no (wantS_not' rfl rfl hc45)) rfl ?_
                refine DrawG.fl rfl (ev_ex wantS_none (ex_pickT' rfl hc45 rfl rfl)) rfl ?_
                refine DrawG.sync ?_
                refine DrawG.nil ?_
                exact Run.pick [0, 1, 5, 6, 67] (ref08_waves_2_ok F (ref08_waves_1 F N) ih v0 v1 v5 true x24.At x24.Gain x24.Samples sv0 q24_0 b26 _ _ _ hv0 hq24_0 hH28 h)
              · have h := bif_f hc45 h
                refine DrawG.fl rfl (ev_ex (wantS_yes' rfl rfl hc45) (ex_move rfl)) rfl ?_
                refine DrawG.fl rfl (ev_ex (wantS_yes' rfl rfl hc45) (ex_gtr rfl rfl)) rfl ?_
                refine DrawG.fl rfl (ev_ex (wantS_yes' rfl rfl hc45) (ex_move rfl)) rfl ?_
                rcases btf ((decide ((0 : Int) < v5))) with hc46 | hc46
                · have h := bif_t hc46 h
                  refine DrawG.fl rfl (ev_ex (wantS_yes' rfl rfl hc46) (ex_move rfl)) rfl ?_
                  refine DrawG.fl rfl (ev_ex (wantS_yes' rfl rfl hc46) (ex_move rfl)) rfl ?_
                  refine DrawG.fl rfl (ev_ex (wantS_yes' rfl rfl hc46) (ex_sub rfl rfl)) rfl ?_
                  obtain ⟨x47, hx47, h⟩ := bnd_some h
                  obtain ⟨p47, o47, _, hx47, hp47, ⟨q47_0, rfl, hq47_0⟩⟩ := sl_elem (P := Try.prog) (t := 55) (kk := .i64) hv0 hx47 els55
                  refine DrawG.fl rfl (ev_ex (wantS_yes' rfl rfl hc46) (ex_elX rfl rfl hx47)) rfl ?_
                  have hp48 := (hp47.fld (o := 0) rfl)
                  refine DrawG.fl rfl (ev_ex (wantS_yes' rfl rfl hc46) (ex_fieldAddr rfl off83_0)) rfl ?_
                  refine DrawG.fl rfl (ev_ex (wantS_yes' rfl rfl hc46) (ex_load1 rfl (hH28.ptrF hp48) rdLe_rfl agg3)) rfl ?_
                  refine DrawG.fl rfl (ev_ex (wantS_yes' rfl rfl hc46) (ex_fieldAddr rfl off83_0)) rfl ?_
                  refine DrawG.fl rfl (ev_ex (wantS_yes' rfl rfl hc46) (ex_load1 rfl (hH28.cells (i := 0) rfl 0 rfl) rdLe_rfl agg3)) rfl ?_
                  refine DrawG.fl rfl (ev_ex (wantS_yes' rfl rfl hc46) (ex_geq rfl rfl)) rfl ?_
                  refine DrawG.fl rfl (ev_ex (wantS_yes' rfl rfl hc45) (ex_pickT' rfl hc46 rfl rfl)) rfl ?_
                  refine DrawG.fl rfl (ev_ex wantS_none (ex_pickF' rfl hc45 rfl rfl)) rfl ?_
                  refine DrawG.sync ?_
                  refine DrawG.nil ?_
                  exact Run.pick [0, 1, 5, 6, 67] (ref08_waves_2_ok F (ref08_waves_1 F N) ih v0 v1 v5 (decide (x24.At ≤ x47.At)) x24.At x24.Gain x24.Samples sv0 q24_0 b26 _ _ _ hv0 hq24_0 hH28 h)
                · have h := bif_f hc46 h
                  refine DrawG.fl rfl (ev_no (wantS_not' rfl rfl hc46)) rfl ?_
                  refine DrawG.fl rfl (ev_no (wantS_not' rfl rfl hc46)) rfl ?_
                  refine DrawG.fl rfl (ev_no (wantS_not' rfl rfl hc46)) rfl ?_
                  refine DrawG.fl rfl (ev_no (wantS_not' rfl rfl hc46)) rfl ?_
                  refine DrawG.fl rfl (ev_no (wantS_not' rfl rfl hc46)) rfl ?_
                  refine DrawG.fl rfl (ev_no (wantS_not' rfl rfl hc46)) rfl ?_
                  refine DrawG.fl rfl (ev_no (wantS_not' rfl rfl hc46)) rfl ?_
                  refine DrawG.fl rfl (ev_no (wantS_not' rfl rfl hc46)) rfl ?_
                  refine DrawG.fl rfl (ev_no (wantS_not' rfl rfl hc46)) rfl ?_
                  refine DrawG.fl rfl (ev_ex (wantS_yes' rfl rfl hc45) (ex_pickF' rfl hc46 rfl rfl)) rfl ?_
                  refine DrawG.fl rfl (ev_ex wantS_none (ex_pickF' rfl hc45 rfl rfl)) rfl ?_
                  refine DrawG.sync ?_
                  refine DrawG.nil ?_
                  exact Run.pick [0, 1, 5, 6, 67] (ref08_waves_2_ok F (ref08_waves_1 F N) ih v0 v1 v5 false x24.At x24.Gain x24.Samples sv0 q24_0 b26 _ _ _ hv0 hq24_0 hH28 h)
    · have h := bif_f hc22 h
      refine Run.condF' rfl hc22 ?_
      refine Run.exit rfl (Run.seq (Run.region ?_))
      refine Run.opG wantS_none (ex_assign rfl) rfl ?_
      refine Run.opsEnd ?_
      cases h
      exact Run.ret Try.func92 rfl (res_tmp rfl res_nil) rfl

def ref08_waves (F : Nat) (a0 : (List S_api_Wave)) (a1 : Int) : Option (Bool) :=
  bif (decide ((64 : Int) < (a0.length : Int))) then
    some false
  else
    ref08_waves_1 F F a0 a1 (0 : Int)

theorem ref08_waves_ok (F : Nat) (a0 : (List S_api_Wave)) (a1 : Int) (s0 : SV) (r : Bool) (M : Mem) (hs0 : Slc (rd M) 3 (rep83 (rd M)) s0 a0) (h : ref08_waves F a0 a1 = some r) : CallsM Try.prog 92 [s0, (.int .i64 a1)] M (fun s M' => s = (.bool r) ∧ M' = M) := by
  refine CallsM.plain Try.func92 rfl rfl rfl (show Run _ _ _ (ref08_waves_post r) _ _ _ from ?_)
  rw [ref08_waves] at h
  replace hs0 := hs0.mono (rdLe_frozen M) (fun _ _ => rep83_mo (rdLe_frozen M))
  have hH := Has.nil (frozen M)
  refine Run.seq (Run.region ?_)
  refine Run.opG wantS_none (ex_assign rfl) rfl ?_
  refine Run.opsEnd (Run.seq (Run.seq (Run.region ?_)))
  refine Run.opG wantS_none (ex_move rfl) rfl ?_
  refine Run.opG wantS_none (ex_len' rfl hs0 lenk55) rfl ?_
  refine Run.opG wantS_none (ex_gtr rfl rfl) rfl ?_
  refine Run.opsEnd ?_
  rcases btf ((decide ((64 : Int) < (a0.length : Int)))) with hc21 | hc21
  · have h := bif_t hc21 h
    refine Run.condT' rfl hc21 ?_
    refine Run.seq (Run.region ?_)
    refine Run.opG wantS_none (ex_assign rfl) rfl ?_
    refine Run.opsEnd ?_
    cases h
    exact Run.ret Try.func92 rfl (res_tmp rfl res_nil) rfl
  · have h := bif_f hc21 h
    refine Run.condF' rfl hc21 ?_
    refine Run.skip (Run.seq (Run.seq (Run.region ?_)))
    refine Run.opG wantS_none (ex_assign rfl) rfl ?_
    refine Run.opsEnd (Run.block (Run.loop ?_))
    exact Run.pick [0, 1, 5] (ref08_waves_1_ok F F a0 a1 (0 : Int) s0 _ _ _ hs0 hH h)

theorem mkk92 : makeK Try.prog 92 = none := by kernel_rfl
theorem cal92 : callable Try.prog 92 = true := by kernel_rfl
abbrev ref00_Abs_post (r : Int) : SV → Mem → Prop := fun s _ => s = (.int .i64 r)

def ref00_Abs (F : Nat) (a0 : Int) : Option (Int) :=
  bif (decide (a0 < (0 : Int))) then
    some (w64 (-a0))
  else
    some a0

theorem ref00_Abs_ok (F : Nat) (a0 : Int) (r : Int) (M : Mem) (h : ref00_Abs F a0 = some r) : CallsM Try.prog 93 [(.int .i64 a0)] M (fun s M' => s = (.int .i64 r) ∧ M' = M) := by
  refine CallsM.plain Try.func93 rfl rfl rfl (show Run _ _ _ (ref00_Abs_post r) _ _ _ from ?_)
  rw [ref00_Abs] at h
  have hH := Has.nil (frozen M)
  refine Run.seq (Run.region ?_)
  refine Run.opG wantS_none (ex_assign rfl) rfl ?_
  refine Run.opsEnd (Run.seq (Run.seq (Run.region ?_)))
  refine Run.opG wantS_none (ex_move rfl) rfl ?_
  refine Run.opG wantS_none (ex_lss rfl rfl) rfl ?_
  refine Run.opsEnd ?_
  rcases btf ((decide (a0 < (0 : Int)))) with hc21 | hc21
  · have h := bif_t hc21 h
    refine Run.condT' rfl hc21 ?_
    refine Run.seq (Run.region ?_)
    refine Run.opG wantS_none (ex_move rfl) rfl ?_
    refine Run.opG wantS_none (ex_neg rfl) rfl ?_
    refine Run.opG wantS_none (ex_assign rfl) rfl ?_
    refine Run.opsEnd ?_
    cases h
    exact Run.ret Try.func93 rfl (res_tmp rfl res_nil) rfl
  · have h := bif_f hc21 h
    refine Run.condF' rfl hc21 ?_
    refine Run.skip (Run.seq (Run.region ?_))
    refine Run.opG wantS_none (ex_move rfl) rfl ?_
    refine Run.opG wantS_none (ex_assign rfl) rfl ?_
    refine Run.opsEnd ?_
    cases h
    exact Run.ret Try.func93 rfl (res_tmp rfl res_nil) rfl

theorem mkk93 : makeK Try.prog 93 = none := by kernel_rfl
theorem cal93 : callable Try.prog 93 = true := by kernel_rfl
theorem plan46_1_1_1_1_1_0_1_0_0_1_0_0_1_0_1_0_0_1_0_0 : planOf Try.prog (opsC (atC Try.prog 46 [1, 1, 1, 1, 1, 0, 1, 0, 0, 1, 0, 0, 1, 0, 1, 0, 0, 1, 0, 0])) = some [.fl 0, .fl 1, .fl 2, .fl 3, .fl 4, .fl 5, .fl 6, .fl 7, .fl 8, .fl 9, .fl 10, .fl 11, .fl 12, .fl 14, .an 13 [14], .fl 15, .fl 16, .an 17 [], .sync] := by kernel_rfl
abbrev ref08_Found_post (r : (List Bool) × Int) : SV → Mem → Prop := fun s Me => ∃ q1, s = (.tuple [q1, (.int .i64 r.2)]) ∧ Has (fun _ => none) Me [.vec 4 1 r.1.length q1 (r.1.flatMap enc4)]

def ref08_Found_4 (F : Nat) (hd3 : (List S_api_Trigger) → (List S_api_Wave) → Int → Int → Bool → Int → (List Bool) → Option ((List Bool) × Int)) (v0 : (List S_api_Trigger)) (v1 : (List S_api_Wave)) (v3 : Int) (v12 : Int) (v13 : Bool) (v14 : Int) (l40 : (List Bool)) : Option ((List Bool) × Int) :=
  hd3 v0 v1 v3 v12 v13 (w64 (v14 + (1 : Int))) l40

theorem ref08_Found_4_ok (F : Nat) (hd3 : (List S_api_Trigger) → (List S_api_Wave) → Int → Int → Bool → Int → (List Bool) → Option ((List Bool) × Int)) (hhd3 : ∀ (v0 : (List S_api_Trigger)) (v1 : (List S_api_Wave)) (v3 : Int) (v12 : Int) (v13 : Bool) (v14 : Int) (l40 : (List Bool)) (sv0 : SV) (sv1 : SV) (s40 : SV) (Fr : Rd) (M : Mem) (r : (List Bool) × Int) (hv0 : Slc Fr 3 (FlatR enc76) sv0 v0) (hv1 : Slc Fr 3 (rep83 Fr) sv1 v1) (hH : Has Fr M [.vec 4 1 l40.length s40 (l40.flatMap enc4)]), hd3 v0 v1 v3 v12 v13 v14 l40 = some r → Run Try.prog ⟨⟨46, [], none⟩, []⟩ 66 (ref08_Found_post r) [(0, sv0), (1, sv1), (3, (.int .i64 v3)), (11, s40), (12, (.int .i64 v12)), (13, (.bool v13)), (14, (.int .i64 v14))] [codeC Try.prog 46 [1, 1, 1, 1, 1, 0, 1, 0, 0, 1, 0, 0, 1, 0, 1, 0, 0], loopC Try.prog 46 [1, 1, 1, 1, 1, 0, 1, 0, 0, 1, 0, 0, 1, 0, 1, 0, 0], .inBlock 2, codeC Try.prog 46 [1, 1, 1, 1, 1, 0, 1, 0, 0, 1, 0, 0, 1, 1], .inBlock 1, codeC Try.prog 46 [1, 1, 1, 1, 1, 0, 1, 0, 0, 1, 1], loopC Try.prog 46 [1, 1, 1, 1, 1, 0, 1, 0, 0], .inBlock 0, codeC Try.prog 46 [1, 1, 1, 1, 1, 1]] M) : ∀ (v0 : (List S_api_Trigger)) (v1 : (List S_api_Wave)) (v3 : Int) (v12 : Int) (v13 : Bool) (v14 : Int) (l40 : (List Bool)) (sv0 : SV) (sv1 : SV) (s40 : SV) (Fr : Rd) (M : Mem) (r : (List Bool) × Int) (hv0 : Slc Fr 3 (FlatR enc76) sv0 v0) (hv1 : Slc Fr 3 (rep83 Fr) sv1 v1) (hH : Has Fr M [.vec 4 1 l40.length s40 (l40.flatMap enc4)]), ref08_Found_4 F hd3 v0 v1 v3 v12 v13 v14 l40 = some r → Run Try.prog ⟨⟨46, [], none⟩, []⟩ 66 (ref08_Found_post r) [(0, sv0), (1, sv1), (3, (.int .i64 v3)), (11, s40), (12, (.int .i64 v12)), (13, (.bool v13)), (14, (.int .i64 v14))] [itemC Try.prog 46 [1, 1, 1, 1, 1, 0, 1, 0, 0, 1, 0, 0, 1, 0, 1, 0, 0, 1, 1] 0, loopC Try.prog 46 [1, 1, 1, 1, 1, 0, 1, 0, 0, 1, 0, 0, 1, 0, 1, 0, 0], .inBlock 2, codeC Try.prog 46 [1, 1, 1, 1, 1, 0, 1, 0, 0, 1, 0, 0, 1, 1], .inBlock 1, codeC Try.prog 46 [1, 1, 1, 1, 1, 0, 1, 0, 0, 1, 1], loopC Try.prog 46 [1, 1, 1, 1, 1, 0, 1, 0, 0], .inBlock 0, codeC Try.prog 46 [1, 1, 1, 1, 1, 1]] M := by
  intro v0 v1 v3 v12 v13 v14 l40 sv0 sv1 s40 Fr M r hv0 hv1 hH h
  rw [ref08_Found_4] at h
  refine Run.opG wantS_none (ex_move rfl) rfl ?_
  refine Run.opG wantS_none (ex_add rfl rfl) rfl ?_
  refine Run.opG wantS_none (ex_assign rfl) rfl ?_
  refine Run.opsEnd (Run.inLoop ?_)
  exact Run.pick [0, 1, 3, 11, 12, 13, 14] (hhd3 v0 v1 v3 v12 v13 (w64 (v14 + (1 : Int))) l40 sv0 sv1 s40 _ _ _ hv0 hv1 hH h)

def ref08_Found_3 (F : Nat) (hd2 : (List S_api_Trigger) → (List S_api_Wave) → Int → Int → (List Bool) → Option ((List Bool) × Int)) : Nat → (List S_api_Trigger) → (List S_api_Wave) → Int → Int → Bool → Int → (List Bool) → Option ((List Bool) × Int)
  | 0, _, _, _, _, _, _, _ => none
  | N + 1, v0, v1, v3, v12, v13, v14, l40 =>
    bif (decide (v14 < (v0.length : Int))) then
      bif v13 then
        ref08_Found_4 F (ref08_Found_3 F hd2 N) v0 v1 v3 v12 true v14 l40
      else
        bnd (idx v0 v14) fun x45 =>
        bnd (idx v1 v12) fun x47 =>
        bnd (ref00_Abs F (w64 (x45.Time - x47.At))) fun r49 =>
        ref08_Found_4 F (ref08_Found_3 F hd2 N) v0 v1 v3 v12 (decide (r49 ≤ v3)) v14 l40
    else
      bnd (apd 1 l40 ([v13] : List Bool)) fun l56 =>
      hd2 v0 v1 v3 (w64 (v12 + (1 : Int))) l56

theorem ref08_Found_3_ok (F : Nat) (hd2 : (List S_api_Trigger) → (List S_api_Wave) → Int → Int → (List Bool) → Option ((List Bool) × Int)) (hhd2 : ∀ (v0 : (List S_api_Trigger)) (v1 : (List S_api_Wave)) (v3 : Int) (v12 : Int) (l40 : (List Bool)) (sv0 : SV) (sv1 : SV) (s40 : SV) (Fr : Rd) (M : Mem) (r : (List Bool) × Int) (hv0 : Slc Fr 3 (FlatR enc76) sv0 v0) (hv1 : Slc Fr 3 (rep83 Fr) sv1 v1) (hH : Has Fr M [.vec 4 1 l40.length s40 (l40.flatMap enc4)]), hd2 v0 v1 v3 v12 l40 = some r → Run Try.prog ⟨⟨46, [], none⟩, []⟩ 66 (ref08_Found_post r) [(0, sv0), (1, sv1), (3, (.int .i64 v3)), (11, s40), (12, (.int .i64 v12))] [codeC Try.prog 46 [1, 1, 1, 1, 1, 0, 1, 0, 0], loopC Try.prog 46 [1, 1, 1, 1, 1, 0, 1, 0, 0], .inBlock 0, codeC Try.prog 46 [1, 1, 1, 1, 1, 1]] M) : ∀ (N : Nat), ∀ (v0 : (List S_api_Trigger)) (v1 : (List S_api_Wave)) (v3 : Int) (v12 : Int) (v13 : Bool) (v14 : Int) (l40 : (List Bool)) (sv0 : SV) (sv1 : SV) (s40 : SV) (Fr : Rd) (M : Mem) (r : (List Bool) × Int) (hv0 : Slc Fr 3 (FlatR enc76) sv0 v0) (hv1 : Slc Fr 3 (rep83 Fr) sv1 v1) (hH : Has Fr M [.vec 4 1 l40.length s40 (l40.flatMap enc4)]), ref08_Found_3 F hd2 N v0 v1 v3 v12 v13 v14 l40 = some r → Run Try.prog ⟨⟨46, [], none⟩, []⟩ 66 (ref08_Found_post r) [(0, sv0), (1, sv1), (3, (.int .i64 v3)), (11, s40), (12, (.int .i64 v12)), (13, (.bool v13)), (14, (.int .i64 v14))] [codeC Try.prog 46 [1, 1, 1, 1, 1, 0, 1, 0, 0, 1, 0, 0, 1, 0, 1, 0, 0], loopC Try.prog 46 [1, 1, 1, 1, 1, 0, 1, 0, 0, 1, 0, 0, 1, 0, 1, 0, 0], .inBlock 2, codeC Try.prog 46 [1, 1, 1, 1, 1, 0, 1, 0, 0, 1, 0, 0, 1, 1], .inBlock 1, codeC Try.prog 46 [1, 1, 1, 1, 1, 0, 1, 0, 0, 1, 1], loopC Try.prog 46 [1, 1, 1, 1, 1, 0, 1, 0, 0], .inBlock 0, codeC Try.prog 46 [1, 1, 1, 1, 1, 1]] M := by
  intro N
  induction N with
  | zero =>
    intro v0 v1 v3 v12 v13 v14 l40 sv0 sv1 s40 Fr M r hv0 hv1 hH h
    simp [ref08_Found_3] at h
  | succ N ih =>
    intro v0 v1 v3 v12 v13 v14 l40 sv0 sv1 s40 Fr M r hv0 hv1 hH h
    rw [ref08_Found_3] at h
    refine Run.seq (Run.seq (Run.region ?_))
    refine Run.opG wantS_none (ex_move rfl) rfl ?_
    refine Run.opG wantS_none (ex_move rfl) rfl ?_
    refine Run.opG wantS_none (ex_len' rfl hv0 lenk22) rfl ?_
    refine Run.opG wantS_none (ex_lss rfl rfl) rfl ?_
    refine Run.opsEnd ?_
    rcases btf ((decide (v14 < (v0.length : Int)))) with hc43 | hc43
    · have h := bif_t hc43 h
      refine Run.condT' rfl hc43 ?_
      refine Run.skip (Run.seq (Run.block ?_))
      refine Run.drawG plan46_1_1_1_1_1_0_1_0_0_1_0_0_1_0_1_0_0_1_0_0 ?_
      refine DrawG.fl rfl (ev_ex wantS_none (ex_move rfl)) rfl ?_
      refine DrawG.fl rfl (ev_ex wantS_none (ex_move rfl)) rfl ?_
      rcases btf (v13) with hc44 | hc44
      · have h := bif_t hc44 h
        refine DrawG.fl rfl (ev_no (wantS_not' rfl rfl hc44)) rfl ?_
        refine DrawG.fl rfl (ev_no (wantS_not' rfl rfl hc44)) rfl ?_
        refine DrawG.fl rfl (ev_no (wantS_not' rfl rfl hc44)) rfl ?_
        refine DrawG.fl rfl (ev_no (wantS_not' rfl rfl hc44)) rfl ?_
        refine DrawG.fl rfl (ev_no (wantS_not' rfl rfl hc44)) rfl ?_
        refine DrawG.fl rfl (ev_no (wantS_not' rfl rfl hc44)) rfl ?_
        refine DrawG.fl rfl (ev_no (wantS_not' rfl rfl hc44)) rfl ?_
        refine DrawG.fl rfl (ev_no (wantS_not' rfl rfl hc44)) rfl ?_
        refine DrawG.fl rfl (ev_no (wantS_not' rfl rfl hc44)) rfl ?_
        refine DrawG.fl rfl (ev_no (wantS_not' rfl rfl hc44)) rfl ?_
        refine DrawG.fl rfl (ev_no (wantS_not' rfl rfl hc44)) rfl ?_
        refine DrawG.fl rfl (ev_no (wantS_not' rfl rfl hc44)) rfl ?_
        refine DrawG.no rfl (wantS_not' rfl rfl hc44) rfl (st_cons rfl (ev_no (wantS_not' rfl rfl hc44)) rfl rfl rfl st_nil) ?_
        refine DrawG.fl rfl (ev_no (wantS_not' rfl rfl hc44)) rfl ?_
        refine DrawG.fl rfl (ev_ex wantS_none (ex_pickT' rfl hc44 rfl rfl)) rfl ?_
        refine DrawG.val rfl wantS_none (ex_assign rfl) rfl st_nil ?_
        refine DrawG.sync ?_
        refine DrawG.nil ?_
        refine Run.inBlock (Run.region ?_)
        exact Run.pick [0, 1, 3, 11, 12, 13, 14] (ref08_Found_4_ok F (ref08_Found_3 F hd2 N) ih v0 v1 v3 v12 true v14 l40 sv0 sv1 s40 _ _ _ hv0 hv1 hH h)
      · have h := bif_f hc44 h
        refine DrawG.fl rfl (ev_ex (wantS_yes' rfl rfl hc44) (ex_move rfl)) rfl ?_
        refine DrawG.fl rfl (ev_ex (wantS_yes' rfl rfl hc44) (ex_move rfl)) rfl ?_
        obtain ⟨x45, hx45, h⟩ := bnd_some h
        obtain ⟨p45, o45, _, hx45, hp45, rfl⟩ := sl_elem (P := Try.prog) (t := 22) (kk := .i64) hv0 hx45 els22
        refine DrawG.fl rfl (ev_ex (wantS_yes' rfl rfl hc44) (ex_elX rfl rfl hx45)) rfl ?_
        have hp46 := (hp45.fld (o := 0) rfl)
        refine DrawG.fl rfl (ev_ex (wantS_yes' rfl rfl hc44) (ex_fieldAddr rfl off76_0)) rfl ?_
        refine DrawG.fl rfl (ev_ex (wantS_yes' rfl rfl hc44) (ex_load1 rfl (hH.ptrF hp46) rdLe_rfl agg3)) rfl ?_
        refine DrawG.fl rfl (ev_ex (wantS_yes' rfl rfl hc44) (ex_move rfl)) rfl ?_
        refine DrawG.fl rfl (ev_ex (wantS_yes' rfl rfl hc44) (ex_move rfl)) rfl ?_
        obtain ⟨x47, hx47, h⟩ := bnd_some h
        obtain ⟨p47, o47, _, hx47, hp47, ⟨q47_0, rfl, hq47_0⟩⟩ := sl_elem (P := Try.prog) (t := 55) (kk := .i64) hv1 hx47 els55
        refine DrawG.fl rfl (ev_ex (wantS_yes' rfl rfl hc44) (ex_elX rfl rfl hx47)) rfl ?_
        have hp48 := (hp47.fld (o := 0) rfl)
        refine DrawG.fl rfl (ev_ex (wantS_yes' rfl rfl hc44) (ex_fieldAddr rfl off83_0)) rfl ?_
        refine DrawG.fl rfl (ev_ex (wantS_yes' rfl rfl hc44) (ex_load1 rfl (hH.ptrF hp48) rdLe_rfl agg3)) rfl ?_
        refine DrawG.fl rfl (ev_ex (wantS_yes' rfl rfl hc44) (ex_sub rfl rfl)) rfl ?_
        refine DrawG.fl rfl (ev_ex (wantS_yes' rfl rfl hc44) (ex_move rfl)) rfl ?_
        obtain ⟨r49, hr49, h⟩ := bnd_some h
        refine DrawG.callP rfl (wantS_yes' rfl rfl hc44) (ex_call rfl mkk93 cal93) rfl (ref00_Abs_ok F (w64 (x45.Time - x47.At)) _ _ hr49) (st_cons rfl (ev_ex (wantS_yes' rfl rfl hc44) (ex_move rfl)) rfl rfl rfl st_nil) ?_
        refine DrawG.fl rfl (ev_ex (wantS_yes' rfl rfl hc44) (ex_leq rfl rfl)) rfl ?_
        refine DrawG.fl rfl (ev_ex wantS_none (ex_pickF' rfl hc44 rfl rfl)) rfl ?_
        refine DrawG.val rfl wantS_none (ex_assign rfl) rfl st_nil ?_
        refine DrawG.sync ?_
        refine DrawG.nil ?_
        refine Run.inBlock (Run.region ?_)
        exact Run.pick [0, 1, 3, 11, 12, 13, 14] (ref08_Found_4_ok F (ref08_Found_3 F hd2 N) ih v0 v1 v3 v12 (decide (r49 ≤ v3)) v14 l40 sv0 sv1 s40 _ _ _ hv0 hv1 hH h)
    · have h := bif_f hc43 h
      refine Run.condF' rfl hc43 ?_
      refine Run.exit rfl (Run.region ?_)
      refine Run.opG wantS_none (ex_move rfl) rfl ?_
      refine Run.opG wantS_none (ex_move rfl) rfl ?_
      refine Run.opX wantS_none rfl (ExG.built (enc := enc4) (l := ([v13] : List Bool)) (z := 1) rfl elt65 rfl rfl rfl enc4_len hH) ?_
      rintro s52 M53 (hH53 : Has Fr M53 [.vec 4 1 ([v13] : List Bool).length s52 (([v13] : List Bool).flatMap enc4), .vec 4 1 l40.length s40 (l40.flatMap enc4)])
      obtain ⟨l56, hl56, h⟩ := bnd_some h
      refine Run.opX wantS_none rfl (ExG.append rfl rfl hH53 (i := 1) rfl enc4_len rfl enc4_ones appt65_65 rfl (len_slc (hH53.slc (i := 0) rfl enc4_len)) (first_slc (hH53.slc (i := 0) rfl enc4_len) (rdLe_rdRow _) enc4_len) hl56) ?_
      rintro s56 M58 (hH58 : Has Fr M58 [.vec 4 1 ([v13] : List Bool).length s52 (([v13] : List Bool).flatMap enc4), .vec 4 1 l56.length s56 (l56.flatMap enc4)])
      refine Run.opG wantS_none (ex_assign rfl) rfl ?_
      refine Run.opsEnd (Run.inBlock (Run.region ?_))
      refine Run.opG wantS_none (ex_move rfl) rfl ?_
      refine Run.opG wantS_none (ex_add rfl rfl) rfl ?_
      refine Run.opG wantS_none (ex_assign rfl) rfl ?_
      refine Run.opsEnd (Run.inLoop ?_)
      exact Run.pick [0, 1, 3, 11, 12] (hhd2 v0 v1 v3 (w64 (v12 + (1 : Int))) l56 sv0 sv1 s56 _ _ _ hv0 hv1 (hH58.pick [1] rfl rfl) h)

def ref08_Found_2 (F : Nat) : Nat → (List S_api_Trigger) → (List S_api_Wave) → Int → Int → (List Bool) → Option ((List Bool) × Int)
  | 0, _, _, _, _, _ => none
  | N + 1, v0, v1, v3, v12, l40 =>
    bif (decide (v12 < (v1.length : Int))) then
      ref08_Found_3 F (ref08_Found_2 F N) F v0 v1 v3 v12 false (0 : Int) l40
    else
      some (l40, (0 : Int))

theorem ref08_Found_2_ok (F : Nat) : ∀ (N : Nat), ∀ (v0 : (List S_api_Trigger)) (v1 : (List S_api_Wave)) (v3 : Int) (v12 : Int) (l40 : (List Bool)) (sv0 : SV) (sv1 : SV) (s40 : SV) (Fr : Rd) (M : Mem) (r : (List Bool) × Int) (hv0 : Slc Fr 3 (FlatR enc76) sv0 v0) (hv1 : Slc Fr 3 (rep83 Fr) sv1 v1) (hH : Has Fr M [.vec 4 1 l40.length s40 (l40.flatMap enc4)]), ref08_Found_2 F N v0 v1 v3 v12 l40 = some r → Run Try.prog ⟨⟨46, [], none⟩, []⟩ 66 (ref08_Found_post r) [(0, sv0), (1, sv1), (3, (.int .i64 v3)), (11, s40), (12, (.int .i64 v12))] [codeC Try.prog 46 [1, 1, 1, 1, 1, 0, 1, 0, 0], loopC Try.prog 46 [1, 1, 1, 1, 1, 0, 1, 0, 0], .inBlock 0, codeC Try.prog 46 [1, 1, 1, 1, 1, 1]] M := by
  intro N
  induction N with
  | zero =>
    intro v0 v1 v3 v12 l40 sv0 sv1 s40 Fr M r hv0 hv1 hH h
    simp [ref08_Found_2] at h
  | succ N ih =>
    intro v0 v1 v3 v12 l40 sv0 sv1 s40 Fr M r hv0 hv1 hH h
    rw [ref08_Found_2] at h
    refine Run.seq (Run.seq (Run.region ?_))
    refine Run.opG wantS_none (ex_move rfl) rfl ?_
    refine Run.opG wantS_none (ex_move rfl) rfl ?_
    refine Run.opG wantS_none (ex_len' rfl hv1 lenk55) rfl ?_
    refine Run.opG wantS_none (ex_lss rfl rfl) rfl ?_
    refine Run.opsEnd ?_
    rcases btf ((decide (v12 < (v1.length : Int)))) with hc42 | hc42
    · have h := bif_t hc42 h
      refine Run.condT' rfl hc42 ?_
      refine Run.skip (Run.seq (Run.block (Run.seq (Run.region ?_))))
      refine Run.opG wantS_none (ex_assign rfl) rfl ?_
      refine Run.opsEnd (Run.seq (Run.seq (Run.region ?_)))
      refine Run.opG wantS_none (ex_assign rfl) rfl ?_
      refine Run.opsEnd (Run.block (Run.loop ?_))
      exact Run.pick [0, 1, 3, 11, 12, 13, 14] (ref08_Found_3_ok F (ref08_Found_2 F N) ih F v0 v1 v3 v12 false (0 : Int) l40 sv0 sv1 s40 _ _ _ hv0 hv1 hH h)
    · have h := bif_f hc42 h
      refine Run.condF' rfl hc42 ?_
      refine Run.exit rfl (Run.seq (Run.region ?_))
      refine Run.opG wantS_none (ex_move rfl) rfl ?_
      refine Run.opG wantS_none (ex_assign rfl) rfl ?_
      refine Run.opG wantS_none (ex_assign rfl) rfl ?_
      refine Run.opsEnd ?_
      cases h
      exact Run.ret Try.func46 rfl (res_tmp rfl (res_tmp rfl res_nil)) ⟨_, rfl, (hH.pick [0] rfl rfl).upF (none_le _)⟩

def ref08_Found_1 (F : Nat) (v0 : (List S_api_Trigger)) (v1 : (List S_api_Wave)) (v2 : Int) (v3 : Int) (v27 : Bool) : Option ((List Bool) × Int) :=
  bif v27 then
    some (([] : List Bool), (8 : Int))
  else
    bnd (ref08_waves F v1 v2) fun r35 =>
    bif (!r35) then
      some (([] : List Bool), (83 : Int))
    else
      ref08_Found_2 F F v0 v1 v3 (0 : Int) ([] : List Bool)

theorem ref08_Found_1_ok (F : Nat) : ∀ (v0 : (List S_api_Trigger)) (v1 : (List S_api_Wave)) (v2 : Int) (v3 : Int) (v27 : Bool) (sv0 : SV) (sv1 : SV) (Fr : Rd) (M : Mem) (r : (List Bool) × Int) (hv0 : Slc Fr 3 (FlatR enc76) sv0 v0) (hv1 : Slc Fr 3 (rep83 Fr) sv1 v1) (hH : Has Fr M []), ref08_Found_1 F v0 v1 v2 v3 v27 = some r → Run Try.prog ⟨⟨46, [], none⟩, []⟩ 66 (ref08_Found_post r) [(0, sv0), (1, sv1), (2, (.int .i64 v2)), (3, (.int .i64 v3)), (27, (.bool v27))] [codeC Try.prog 46 [1, 1, 0, 1], codeC Try.prog 46 [1, 1, 1]] M := by
  intro v0 v1 v2 v3 v27 sv0 sv1 Fr M r hv0 hv1 hH h
  rw [ref08_Found_1] at h
  rcases btf (v27) with hc31 | hc31
  · have h := bif_t hc31 h
    refine Run.condT' rfl hc31 ?_
    refine Run.seq (Run.region ?_)
    refine Run.opG wantS_none (ex_assign rfl) rfl ?_
    refine Run.opG wantS_none (ex_assign rfl) rfl ?_
    refine Run.opsEnd ?_
    have hH33 : Has Fr M [.vec 4 1 ([] : List Bool).length .nils (([] : List Bool).flatMap enc4)] := hH.nils 4 1
    cases h
    exact Run.ret Try.func46 rfl (res_tmp rfl (res_tmp rfl res_nil)) ⟨_, rfl, (hH33.pick [0] rfl rfl).upF (none_le _)⟩
  · have h := bif_f hc31 h
    refine Run.condF' rfl hc31 ?_
    refine Run.skip (Run.seq (Run.seq (Run.region ?_)))
    refine Run.opG wantS_none (ex_move rfl) rfl ?_
    refine Run.opG wantS_none (ex_move rfl) rfl ?_
    obtain ⟨r35, hr35, h⟩ := bnd_some h
    refine Run.callP wantS_none (ex_call rfl mkk92 cal92) rfl (ref08_waves_ok F v1 v2 sv1 _ _ ((hv1).mono hH.le (fun _ _ => rep83_mo hH.le)) hr35) ?_
    refine Run.opG wantS_none (ex_not rfl) rfl ?_
    refine Run.opsEnd ?_
    rcases btf ((!r35)) with hc37 | hc37
    · have h := bif_t hc37 h
      refine Run.condT' rfl hc37 ?_
      refine Run.seq (Run.region ?_)
      refine Run.opG wantS_none (ex_assign rfl) rfl ?_
      refine Run.opG wantS_none (ex_assign rfl) rfl ?_
      refine Run.opsEnd ?_
      have hH39 : Has Fr M [.vec 4 1 ([] : List Bool).length .nils (([] : List Bool).flatMap enc4)] := hH.nils 4 1
      cases h
      exact Run.ret Try.func46 rfl (res_tmp rfl (res_tmp rfl res_nil)) ⟨_, rfl, (hH39.pick [0] rfl rfl).upF (none_le _)⟩
    · have h := bif_f hc37 h
      refine Run.condF' rfl hc37 ?_
      refine Run.skip (Run.seq (Run.region ?_))
      refine Run.opG wantS_none (ex_assign rfl) rfl ?_
      refine Run.opsEnd (Run.seq (Run.seq (Run.region ?_)))
      refine Run.opG wantS_none (ex_assign rfl) rfl ?_
      refine Run.opsEnd (Run.block (Run.loop ?_))
      have hH41 : Has Fr M [.vec 4 1 ([] : List Bool).length .nils (([] : List Bool).flatMap enc4)] := hH.nils 4 1
      exact Run.pick [0, 1, 3, 11, 12] (ref08_Found_2_ok F F v0 v1 v3 (0 : Int) ([] : List Bool) sv0 sv1 .nils _ _ _ hv0 hv1 hH41 h)

def ref08_Found (F : Nat) (a0 : (List S_api_Trigger)) (a1 : (List S_api_Wave)) (a2 : Int) (a3 : Int) : Option ((List Bool) × Int) :=
  bnd (ref08_CheckTriggers F a0) fun r22 =>
  bif (!(r22 == (0 : Int))) then
    some (([] : List Bool), r22)
  else
    bnd (ref00_In F a2 (0 : Int) (1024 : Int)) fun r28 =>
    bif (!r28) then
      ref08_Found_1 F a0 a1 a2 a3 true
    else
      bnd (ref00_In F a3 (0 : Int) (1073741824 : Int)) fun r60 =>
      ref08_Found_1 F a0 a1 a2 a3 (!r60)

theorem ref08_Found_ok (F : Nat) (a0 : (List S_api_Trigger)) (a1 : (List S_api_Wave)) (a2 : Int) (a3 : Int) (s0 s1 : SV) (r : (List Bool) × Int) (M : Mem) (hs0 : Slc (rd M) 3 (FlatR enc76) s0 a0) (hs1 : Slc (rd M) 3 (rep83 (rd M)) s1 a1) (h : ref08_Found F a0 a1 a2 a3 = some r) : CallsM Try.prog 46 [s0, s1, (.int .i64 a2), (.int .i64 a3)] M (fun s M' => ∃ q1, s = (.tuple [q1, (.int .i64 r.2)]) ∧ New M M' [.vec 4 1 r.1.length q1 (r.1.flatMap enc4)]) := by
  refine CallsM.fresh (Q := ref08_Found_post r) Try.func46 rfl rfl ?_ (by rintro s Me ⟨q1, rfl, hx⟩ ha hw; exact ⟨_, rfl, New.of rfl hx ha hw⟩)
  rw [ref08_Found] at h
  replace hs0 := hs0.mono (rdLe_frozen M) (fun _ _ h => h)
  replace hs1 := hs1.mono (rdLe_frozen M) (fun _ _ => rep83_mo (rdLe_frozen M))
  have hH := Has.nil (frozen M)
  refine Run.seq (Run.region ?_)
  refine Run.opG wantS_none (ex_assign rfl) rfl ?_
  refine Run.opG wantS_none (ex_assign rfl) rfl ?_
  refine Run.opsEnd (Run.seq (Run.seq (Run.region ?_)))
  refine Run.opG wantS_none (ex_move rfl) rfl ?_
  obtain ⟨r22, hr22, h⟩ := bnd_some h
  refine Run.callP wantS_none (ex_call rfl mkk16 cal16) rfl (ref08_CheckTriggers_ok F a0 s0 _ _ (hH.slcF hs0) hr22) ?_
  refine Run.opG wantS_none (ex_assign rfl) rfl ?_
  refine Run.opsEnd (Run.seq (Run.region ?_))
  refine Run.opG wantS_none (ex_move rfl) rfl ?_
  refine Run.opG wantS_none (ex_neq rfl rfl) rfl ?_
  refine Run.opsEnd ?_
  rcases btf ((!(r22 == (0 : Int)))) with hc24 | hc24
  · have h := bif_t hc24 h
    refine Run.condT' rfl hc24 ?_
    refine Run.seq (Run.region ?_)
    refine Run.opG wantS_none (ex_move rfl) rfl ?_
    refine Run.opG wantS_none (ex_assign rfl) rfl ?_
    refine Run.opG wantS_none (ex_assign rfl) rfl ?_
    refine Run.opsEnd ?_
    have hH26 : Has (ro (frozen M)) (frozen M) [.vec 4 1 ([] : List Bool).length .nils (([] : List Bool).flatMap enc4)] := hH.nils 4 1
    cases h
    exact Run.ret Try.func46 rfl (res_tmp rfl (res_tmp rfl res_nil)) ⟨_, rfl, (hH26.pick [0] rfl rfl).upF (none_le _)⟩
  · have h := bif_f hc24 h
    refine Run.condF' rfl hc24 ?_
    refine Run.skip (Run.seq (Run.seq (Run.region ?_)))
    refine Run.opG wantS_none (ex_move rfl) rfl ?_
    obtain ⟨r28, hr28, h⟩ := bnd_some h
    refine Run.callP wantS_none (ex_call rfl mkk49 cal49) rfl (ref00_In_ok F a2 (0 : Int) (1024 : Int) _ _ hr28) ?_
    refine Run.opG wantS_none (ex_not rfl) rfl ?_
    refine Run.opG wantS_none (ex_move rfl) rfl ?_
    rcases btf ((!r28)) with hc30 | hc30
    · have h := bif_t hc30 h
      refine Run.no (wantS_not' rfl rfl hc30) rfl ?_
      refine Run.no (wantS_not' rfl rfl hc30) rfl ?_
      refine Run.no (wantS_not' rfl rfl hc30) rfl ?_
      refine Run.opG wantS_none (ex_pickT' rfl hc30 rfl rfl) rfl ?_
      refine Run.opsEnd ?_
      exact Run.pick [0, 1, 2, 3, 27] (ref08_Found_1_ok F a0 a1 a2 a3 true s0 s1 _ _ _ hs0 hs1 hH h)
    · have h := bif_f hc30 h
      refine Run.opG (wantS_yes' rfl rfl hc30) (ex_move rfl) rfl ?_
      obtain ⟨r60, hr60, h⟩ := bnd_some h
      refine Run.callP (wantS_yes' rfl rfl hc30) (ex_call rfl mkk49 cal49) rfl (ref00_In_ok F a3 (0 : Int) (1073741824 : Int) _ _ hr60) ?_
      refine Run.opG (wantS_yes' rfl rfl hc30) (ex_not rfl) rfl ?_
      refine Run.opG wantS_none (ex_pickF' rfl hc30 rfl rfl) rfl ?_
      refine Run.opsEnd ?_
      exact Run.pick [0, 1, 2, 3, 27] (ref08_Found_1_ok F a0 a1 a2 a3 (!r60) s0 s1 _ _ _ hs0 hs1 hH h)

theorem mkk46 : makeK Try.prog 46 = none := by kernel_rfl
theorem cal46 : callable Try.prog 46 = true := by kernel_rfl
theorem lenk65 : lenK Try.prog 65 = some .sl := by kernel_rfl
theorem els65 : elems Try.prog 65 = some (.sl 1) := by kernel_rfl
theorem agg4 : aggSize Try.prog 4 = some none := by kernel_rfl
theorem eqk4 : eqK Try.prog 4 = some .bool := by kernel_rfl
theorem plan47_1_1_0_1_0_0_1_0_0_0 : planOf Try.prog (opsC (atC Try.prog 47 [1, 1, 0, 1, 0, 0, 1, 0, 0, 0])) = some [.fl 0, .fl 1, .fl 2, .fl 3, .fl 4, .fl 5, .fl 6, .fl 7, .fl 8, .sync] := by kernel_rfl
abbrev ref00_SameBools_post (r : Bool) : SV → Mem → Prop := fun s _ => s = (.bool r)

def ref00_SameBools_1 (F : Nat) : Nat → (List Bool) → (List Bool) → Int → Option (Bool)
  | 0, _, _, _ => none
  | N + 1, v0, v1, v5 =>
    bif (decide (v5 < (v0.length : Int))) then
      bnd (idx v0 v5) fun x23 =>
      bnd (idx v1 v5) fun x24 =>
      bif (!(x23 == x24)) then
        some false
      else
        (ref00_SameBools_1 F N) v0 v1 (w64 (v5 + (1 : Int)))
    else
      some true

theorem ref00_SameBools_1_ok (F : Nat) : ∀ (N : Nat), ∀ (v0 : (List Bool)) (v1 : (List Bool)) (v5 : Int) (sv0 : SV) (sv1 : SV) (Fr : Rd) (M : Mem) (r : Bool) (hv0 : Slc Fr 1 (FlatR enc4) sv0 v0) (hv1 : Slc Fr 1 (FlatR enc4) sv1 v1) (hH : Has Fr M []), ref00_SameBools_1 F N v0 v1 v5 = some r → Run Try.prog ⟨⟨47, [], none⟩, []⟩ 26 (ref00_SameBools_post r) [(0, sv0), (1, sv1), (5, (.int .i64 v5))] [codeC Try.prog 47 [1, 1, 0, 1, 0, 0], loopC Try.prog 47 [1, 1, 0, 1, 0, 0], .inBlock 0, codeC Try.prog 47 [1, 1, 1]] M := by
  intro N
  induction N with
  | zero =>
    intro v0 v1 v5 sv0 sv1 Fr M r hv0 hv1 hH h
    simp [ref00_SameBools_1] at h
  | succ N ih =>
    intro v0 v1 v5 sv0 sv1 Fr M r hv0 hv1 hH h
    rw [ref00_SameBools_1] at h
    refine Run.seq (Run.seq (Run.region ?_))
    refine Run.opG wantS_none (ex_move rfl) rfl ?_
    refine Run.opG wantS_none (ex_move rfl) rfl ?_
    refine Run.opG wantS_none (ex_len' rfl hv0 lenk65) rfl ?_
    refine Run.opG wantS_none (ex_lss rfl rfl) rfl ?_
    refine Run.opsEnd ?_
    rcases btf ((decide (v5 < (v0.length : Int)))) with hc22 | hc22
    · have h := bif_t hc22 h
      refine Run.condT' rfl hc22 ?_
      refine Run.skip (Run.seq (Run.block (Run.seq ?_)))
      refine Run.drawG plan47_1_1_0_1_0_0_1_0_0_0 ?_
      refine DrawG.fl rfl (ev_ex wantS_none (ex_move rfl)) rfl ?_
      refine DrawG.fl rfl (ev_ex wantS_none (ex_move rfl)) rfl ?_
      obtain ⟨x23, hx23, h⟩ := bnd_some h
      obtain ⟨p23, o23, _, hx23, hp23, rfl⟩ := sl_elem (P := Try.prog) (t := 65) (kk := .i64) hv0 hx23 els65
      refine DrawG.fl rfl (ev_ex wantS_none (ex_elX rfl rfl hx23)) rfl ?_
      refine DrawG.fl rfl (ev_ex wantS_none (ex_load1 rfl (hH.ptrF hp23) rdLe_rfl agg4)) rfl ?_
      refine DrawG.fl rfl (ev_ex wantS_none (ex_move rfl)) rfl ?_
      refine DrawG.fl rfl (ev_ex wantS_none (ex_move rfl)) rfl ?_
      obtain ⟨x24, hx24, h⟩ := bnd_some h
      obtain ⟨p24, o24, _, hx24, hp24, rfl⟩ := sl_elem (P := Try.prog) (t := 65) (kk := .i64) hv1 hx24 els65
      refine DrawG.fl rfl (ev_ex wantS_none (ex_elX rfl rfl hx24)) rfl ?_
      refine DrawG.fl rfl (ev_ex wantS_none (ex_load1 rfl (hH.ptrF hp24) rdLe_rfl agg4)) rfl ?_
      refine DrawG.fl rfl (ev_ex wantS_none (ex_neqB rfl rfl eqk4)) rfl ?_
      refine DrawG.sync ?_
      refine DrawG.nil ?_
      rcases btf ((!(x23 == x24))) with hc25 | hc25
      · have h := bif_t hc25 h
        refine Run.condT' rfl hc25 ?_
        refine Run.seq (Run.region ?_)
        refine Run.opG wantS_none (ex_assign rfl) rfl ?_
        refine Run.opsEnd ?_
        cases h
        exact Run.ret Try.func47 rfl (res_tmp rfl res_nil) rfl
      · have h := bif_f hc25 h
        refine Run.condF' rfl hc25 ?_
        refine Run.skip (Run.inBlock (Run.region ?_))
        refine Run.opG wantS_none (ex_move rfl) rfl ?_
        refine Run.opG wantS_none (ex_add rfl rfl) rfl ?_
        refine Run.opG wantS_none (ex_assign rfl) rfl ?_
        refine Run.opsEnd (Run.inLoop ?_)
        exact Run.pick [0, 1, 5] (ih v0 v1 (w64 (v5 + (1 : Int))) sv0 sv1 _ _ _ hv0 hv1 hH h)
    · have h := bif_f hc22 h
      refine Run.condF' rfl hc22 ?_
      refine Run.exit rfl (Run.seq (Run.region ?_))
      refine Run.opG wantS_none (ex_assign rfl) rfl ?_
      refine Run.opsEnd ?_
      cases h
      exact Run.ret Try.func47 rfl (res_tmp rfl res_nil) rfl

def ref00_SameBools (F : Nat) (a0 : (List Bool)) (a1 : (List Bool)) : Option (Bool) :=
  bif (!((a0.length : Int) == (a1.length : Int))) then
    some false
  else
    ref00_SameBools_1 F F a0 a1 (0 : Int)

theorem ref00_SameBools_ok (F : Nat) (a0 : (List Bool)) (a1 : (List Bool)) (s0 s1 : SV) (r : Bool) (M : Mem) (hs0 : Slc (rd M) 1 (FlatR enc4) s0 a0) (hs1 : Slc (rd M) 1 (FlatR enc4) s1 a1) (h : ref00_SameBools F a0 a1 = some r) : CallsM Try.prog 47 [s0, s1] M (fun s M' => s = (.bool r) ∧ M' = M) := by
  refine CallsM.plain Try.func47 rfl rfl rfl (show Run _ _ _ (ref00_SameBools_post r) _ _ _ from ?_)
  rw [ref00_SameBools] at h
  replace hs0 := hs0.mono (rdLe_frozen M) (fun _ _ h => h)
  replace hs1 := hs1.mono (rdLe_frozen M) (fun _ _ h => h)
  have hH := Has.nil (frozen M)
  refine Run.seq (Run.region ?_)
  refine Run.opG wantS_none (ex_assign rfl) rfl ?_
  refine Run.opsEnd (Run.seq (Run.seq (Run.region ?_)))
  refine Run.opG wantS_none (ex_move rfl) rfl ?_
  refine Run.opG wantS_none (ex_len' rfl hs0 lenk65) rfl ?_
  refine Run.opG wantS_none (ex_move rfl) rfl ?_
  refine Run.opG wantS_none (ex_len' rfl hs1 lenk65) rfl ?_
  refine Run.opG wantS_none (ex_neq rfl rfl) rfl ?_
  refine Run.opsEnd ?_
  rcases btf ((!((a0.length : Int) == (a1.length : Int)))) with hc21 | hc21
  · have h := bif_t hc21 h
    refine Run.condT' rfl hc21 ?_
    refine Run.seq (Run.region ?_)
    refine Run.opG wantS_none (ex_assign rfl) rfl ?_
    refine Run.opsEnd ?_
    cases h
    exact Run.ret Try.func47 rfl (res_tmp rfl res_nil) rfl
  · have h := bif_f hc21 h
    refine Run.condF' rfl hc21 ?_
    refine Run.skip (Run.seq (Run.seq (Run.region ?_)))
    refine Run.opG wantS_none (ex_assign rfl) rfl ?_
    refine Run.opsEnd (Run.block (Run.loop ?_))
    exact Run.pick [0, 1, 5] (ref00_SameBools_1_ok F F a0 a1 (0 : Int) s0 s1 _ _ _ hs0 hs1 hH h)

theorem mkk47 : makeK Try.prog 47 = none := by kernel_rfl
theorem cal47 : callable Try.prog 47 = true := by kernel_rfl
theorem mkk22 : makeK Try.prog 22 = none := by kernel_rfl
theorem cal22 : callable Try.prog 22 = true := by kernel_rfl
abbrev law08_SearchFinds_post (r : Bool) : SV → Mem → Prop := fun s _ => s = (.bool r)

def law08_SearchFinds_2 (F : Nat) (v41 : Bool) : Option (Bool) :=
  some v41

theorem law08_SearchFinds_2_ok (F : Nat) : ∀ (v41 : Bool) (Fr : Rd) (M : Mem) (r : Bool) (hH : Has Fr M []), law08_SearchFinds_2 F v41 = some r → Run Try.prog ⟨⟨9, [], none⟩, []⟩ 42 (law08_SearchFinds_post r) [(41, (.bool v41))] [itemC Try.prog 9 [1, 1, 1, 0] 11, codeC Try.prog 9 [1, 1, 1, 1]] M := by
  intro v41 Fr M r hH h
  rw [law08_SearchFinds_2] at h
  refine Run.opG wantS_none (ex_assign rfl) rfl ?_
  refine Run.opsEnd ?_
  cases h
  exact Run.ret Try.func9 rfl (res_tmp rfl res_nil) rfl

def law08_SearchFinds_1 (F : Nat) (v38 : Bool) : Option (Bool) :=
  bif v38 then
    bnd (works F) fun r40 =>
    law08_SearchFinds_2 F r40
  else
    law08_SearchFinds_2 F false

theorem law08_SearchFinds_1_ok (F : Nat) : ∀ (v38 : Bool) (Fr : Rd) (M : Mem) (r : Bool) (hH : Has Fr M []), law08_SearchFinds_1 F v38 = some r → Run Try.prog ⟨⟨9, [], none⟩, []⟩ 42 (law08_SearchFinds_post r) [(38, (.bool v38))] [itemC Try.prog 9 [1, 1, 1, 0] 8, codeC Try.prog 9 [1, 1, 1, 1]] M := by
  intro v38 Fr M r hH h
  rw [law08_SearchFinds_1] at h
  refine Run.opG wantS_none (ex_move rfl) rfl ?_
  rcases btf (v38) with hc38 | hc38
  · have h := bif_t hc38 h
    obtain ⟨r40, hr40, h⟩ := bnd_some h
    refine Run.callP (wantS_yes' rfl rfl hc38) (ex_call rfl mkk22 cal22) rfl (works_ok F r40 _ hH  hr40) ?_
    refine Run.opG wantS_none (ex_pickT' rfl hc38 rfl rfl) rfl ?_
    exact Run.pick [41] (law08_SearchFinds_2_ok F r40 _ _ _ hH h)
  · have h := bif_f hc38 h
    refine Run.no (wantS_not' rfl rfl hc38) rfl ?_
    refine Run.opG wantS_none (ex_pickF' rfl hc38 rfl rfl) rfl ?_
    exact Run.pick [41] (law08_SearchFinds_2_ok F false _ _ _ hH h)

def law08_SearchFinds (F : Nat) (a0 : (List S_api_Trigger)) (a1 : (List S_api_Wave)) (a2 : S_ringdownlaw08_Range) : Option (Bool) :=
  bnd (search_Found F a0 a1 a2.Samples a2.Window) fun r26 =>
  bnd (ref08_Found F a0 a1 a2.Samples a2.Window) fun r31 =>
  bnd (ref00_SameBools F r26.1 r31.1) fun r35 =>
  bif r35 then
    law08_SearchFinds_1 F (r26.2 == r31.2)
  else
    law08_SearchFinds_1 F false

theorem law08_SearchFinds_run (F : Nat) (a0 : (List S_api_Trigger)) (a1 : (List S_api_Wave)) (a2 : S_ringdownlaw08_Range) (s0 s1 : SV) (r : Bool) (M : Mem) (hs0 : Slc (rd M) 3 (FlatR enc76) s0 a0) (hs1 : Slc (rd M) 3 (rep83 (rd M)) s1 a1) (hfx : FixIn M fixes) (h : law08_SearchFinds F a0 a1 a2 = some r) : Run Try.prog (fx0 9) 42 (law08_SearchFinds_post r) [(0, s0), (1, s1), (2, (.agg [(.int .i64 a2.Samples), (.int .i64 a2.Window)]))] [codeC Try.prog 9 []] (frozen M) := by
  rw [law08_SearchFinds] at h
  replace hs0 := hs0.mono (rdLe_frozen M) (fun _ _ h => h)
  replace hs1 := hs1.mono (rdLe_frozen M) (fun _ _ => rep83_mo (rdLe_frozen M))
  have hH : Has (ro (frozen M)) (frozen M) [] := Has.ofFix hfx.frozen
  refine Run.seq (Run.region ?_)
  refine Run.opX wantS_none rfl (ExG.box rfl rfl hH) ?_
  rintro _ M23 ⟨b22, rfl, (hH23 : Has (ro (frozen M)) M23 [.obj b22 (.row 64 .whole [(.int .i64 a2.Samples), (.int .i64 a2.Window)])])⟩
  refine Run.opG wantS_none (ex_assign rfl) rfl ?_
  refine Run.opsEnd (Run.seq (Run.region ?_))
  refine Run.opG wantS_none (ex_move rfl) rfl ?_
  refine Run.opG wantS_none (ex_move rfl) rfl ?_
  refine Run.opG wantS_none (ex_fieldAddr rfl off64_0) rfl ?_
  refine Run.opG wantS_none (ex_load1 rfl (hH23.cells (i := 0) rfl 0 rfl) rdLe_rfl agg3) rfl ?_
  refine Run.opG wantS_none (ex_fieldAddr rfl off64_1) rfl ?_
  refine Run.opG wantS_none (ex_load1 rfl (hH23.cells (i := 0) rfl 1 rfl) rdLe_rfl agg3) rfl ?_
  obtain ⟨r26, hr26, h⟩ := bnd_some h
  refine Run.callX wantS_none (ex_call rfl mkk45 cal45) rfl (search_Found_ok F a0 a1 a2.Samples a2.Window s0 s1 _ _ (hH23.slcF hs0) ((hs1).mono hH23.le (fun _ _ => rep83_mo hH23.le)) hr26) ?_
  rintro _ M28 ⟨s26_0, rfl, hN26⟩
  have hH28 : Has (ro (frozen M)) M28 [.vec 4 1 r26.1.length s26_0 (r26.1.flatMap enc4), .obj b22 (.row 64 .whole [(.int .i64 a2.Samples), (.int .i64 a2.Window)])] := hN26.1 _ _ hH23
  refine Run.opG wantS_none (ex_move rfl) rfl ?_
  refine Run.opG wantS_none (ex_extract rfl rfl) rfl ?_
  refine Run.opG wantS_none (ex_extract rfl rfl) rfl ?_
  refine Run.opG wantS_none (ex_assign rfl) rfl ?_
  refine Run.opG wantS_none (ex_assign rfl) rfl ?_
  refine Run.opsEnd (Run.seq (Run.region ?_))
  refine Run.opG wantS_none (ex_move rfl) rfl ?_
  refine Run.opG wantS_none (ex_move rfl) rfl ?_
  refine Run.opG wantS_none (ex_fieldAddr rfl off64_0) rfl ?_
  refine Run.opG wantS_none (ex_load1 rfl (hH28.cells (i := 1) rfl 0 rfl) rdLe_rfl agg3) rfl ?_
  refine Run.opG wantS_none (ex_fieldAddr rfl off64_1) rfl ?_
  refine Run.opG wantS_none (ex_load1 rfl (hH28.cells (i := 1) rfl 1 rfl) rdLe_rfl agg3) rfl ?_
  obtain ⟨r31, hr31, h⟩ := bnd_some h
  refine Run.callX wantS_none (ex_call rfl mkk46 cal46) rfl (ref08_Found_ok F a0 a1 a2.Samples a2.Window s0 s1 _ _ (hH28.slcF hs0) ((hs1).mono hH28.le (fun _ _ => rep83_mo hH28.le)) hr31) ?_
  rintro _ M33 ⟨s31_0, rfl, hN31⟩
  have hH33 : Has (ro (frozen M)) M33 [.vec 4 1 r31.1.length s31_0 (r31.1.flatMap enc4), .vec 4 1 r26.1.length s26_0 (r26.1.flatMap enc4), .obj b22 (.row 64 .whole [(.int .i64 a2.Samples), (.int .i64 a2.Window)])] := hN31.1 _ _ hH28
  refine Run.opG wantS_none (ex_move rfl) rfl ?_
  refine Run.opG wantS_none (ex_extract rfl rfl) rfl ?_
  refine Run.opG wantS_none (ex_extract rfl rfl) rfl ?_
  refine Run.opG wantS_none (ex_assign rfl) rfl ?_
  refine Run.opG wantS_none (ex_assign rfl) rfl ?_
  refine Run.opsEnd (Run.seq (Run.region ?_))
  refine Run.opG wantS_none (ex_move rfl) rfl ?_
  refine Run.opG wantS_none (ex_move rfl) rfl ?_
  obtain ⟨r35, hr35, h⟩ := bnd_some h
  refine Run.callP wantS_none (ex_call rfl mkk47 cal47) rfl (ref00_SameBools_ok F r26.1 r31.1 s26_0 s31_0 _ _ (hH33.slc (i := 1) rfl enc4_len) (hH33.slc (i := 0) rfl enc4_len) hr35) ?_
  refine Run.opG wantS_none (ex_move rfl) rfl ?_
  rcases btf (r35) with hc37 | hc37
  · have h := bif_t hc37 h
    refine Run.opG (wantS_yes' rfl rfl hc37) (ex_move rfl) rfl ?_
    refine Run.opG (wantS_yes' rfl rfl hc37) (ex_move rfl) rfl ?_
    refine Run.opG (wantS_yes' rfl rfl hc37) (ex_eql rfl rfl) rfl ?_
    refine Run.opG wantS_none (ex_pickT' rfl hc37 rfl rfl) rfl ?_
    exact Run.pick [38] (law08_SearchFinds_1_ok F (r26.2 == r31.2) _ _ _ (hH33.pick [] rfl rfl) h)
  · have h := bif_f hc37 h
    refine Run.no (wantS_not' rfl rfl hc37) rfl ?_
    refine Run.no (wantS_not' rfl rfl hc37) rfl ?_
    refine Run.no (wantS_not' rfl rfl hc37) rfl ?_
    refine Run.opG wantS_none (ex_pickF' rfl hc37 rfl rfl) rfl ?_
    exact Run.pick [38] (law08_SearchFinds_1_ok F false _ _ _ (hH33.pick [] rfl rfl) h)

end Go.Ev.SearchFinds
