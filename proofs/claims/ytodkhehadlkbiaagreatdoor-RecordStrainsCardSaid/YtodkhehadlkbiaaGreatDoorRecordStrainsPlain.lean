/- Plain functions that say what functions of the program come to, and proofs of it, written by a program of the verifier's own. -/
import Derived.Test.YtodkhehadlkbiaaGreatDoorEvR7
import Derived.Test.YtodkhehadlkbiaaGreatDoorWorks
import Derived.KernelRfl
namespace Go.Ev.RecordStrains
open Go Go.Ev Go.Proofs
set_option maxRecDepth 100000
set_option linter.unusedVariables false

/-- works() comes to true. -/
def works (_ : Nat) : Option Bool := some true
theorem works_ok (F : Nat) (r : Bool) (M : Mem) (h : works F = some r) : CallsP Tryz.prog 19 [] M (.bool r) := by
  cases h
  exact CallsP.closed Go.Proofs.YtodkhehadlkbiaaGreatDoor.works.works_true M


def record_isFrom_1 (F : Nat) (v14 : Bool) : Option (Bool) :=
  some v14

theorem record_isFrom_1_ok (F : Nat) {B : Nat} : ∀ (v14 : Bool) (r : Bool) (M : Mem), record_isFrom_1 F v14 = some r → Run Tryz.prog B 44 15 (fun s _ => s = (.bool r)) [(14, (.bool v14))] [itemC Tryz.prog 44 [1, 0] 8, codeC Tryz.prog 44 [1, 1]] M := by
  intro v14 r M h
  rw [record_isFrom_1] at h
  refine Run.opG wantS_none (ex_assign rfl) rfl ?_
  refine Run.opsEnd ?_
  cases h
  exact Run.ret Tryz.func44 (res_tmp rfl res_nil) rfl

def record_isFrom (F : Nat) (a0 : Int) (a1 : Int) (a2 : Int) : Option (Bool) :=
  bif (decide (a0 ≤ a1)) then
    record_isFrom_1 F (decide (a1 ≤ a2))
  else
    record_isFrom_1 F false

theorem record_isFrom_ok (F : Nat) (a0 : Int) (a1 : Int) (a2 : Int) (r : Bool) (M : Mem) (h : record_isFrom F a0 a1 a2 = some r) : CallsP Tryz.prog 44 [(.int .i64 a0), (.int .i64 a1), (.int .i64 a2)] M (.bool r) := by
  refine CallsP.of_run Tryz.func44 rfl rfl rfl fun B => ?_
  rw [record_isFrom] at h
  refine Run.seq (Run.region ?_)
  refine Run.opG wantS_none (ex_assign rfl) rfl ?_
  refine Run.opsEnd (Run.seq (Run.region ?_))
  refine Run.opG wantS_none (ex_move rfl) rfl ?_
  refine Run.opG wantS_none (ex_move rfl) rfl ?_
  refine Run.opG wantS_none (ex_leq rfl rfl) rfl ?_
  refine Run.opG wantS_none (ex_move rfl) rfl ?_
  rcases btf ((decide (a0 ≤ a1))) with hc1 | hc1
  · have h := bif_t hc1 h
    refine Run.opG (wantS_yes' rfl rfl hc1) (ex_move rfl) rfl ?_
    refine Run.opG (wantS_yes' rfl rfl hc1) (ex_move rfl) rfl ?_
    refine Run.opG (wantS_yes' rfl rfl hc1) (ex_leq rfl rfl) rfl ?_
    refine Run.opG wantS_none (ex_pickT' rfl hc1 rfl rfl) rfl ?_
    exact Run.pick [14] (record_isFrom_1_ok F (decide (a1 ≤ a2)) _ _ h)
  · have h := bif_f hc1 h
    refine Run.no (wantS_not' rfl rfl hc1) rfl ?_
    refine Run.no (wantS_not' rfl rfl hc1) rfl ?_
    refine Run.no (wantS_not' rfl rfl hc1) rfl ?_
    refine Run.opG wantS_none (ex_pickF' rfl hc1 rfl rfl) rfl ?_
    exact Run.pick [14] (record_isFrom_1_ok F false _ _ h)

structure S_api_Tap where
  Low : Int
  High : Int

structure S_api_Model where
  Taps : (List S_api_Tap)
  Shift : Int

theorem off52_0 : fieldOff Tryz.prog 52 0 = some 0 := by kernel_rfl
theorem agg50 : aggSize Tryz.prog 50 = some none := by kernel_rfl
theorem lenk50 : lenK Tryz.prog 50 = some .sl := by kernel_rfl
theorem mkk44 : makeK Tryz.prog 44 = none := by kernel_rfl
theorem cal44 : callable Tryz.prog 44 = true := by kernel_rfl
def enc61 (a : S_api_Tap) : List SV := [(.int .i64 a.Low), (.int .i64 a.High)]
theorem enc61_len (a : S_api_Tap) : (enc61 a).length = 2 := rfl
theorem enc61_ones (a : S_api_Tap) : ones (enc61 a) = true := rfl
theorem els50 : elems Tryz.prog 50 = some (.sl 2) := by kernel_rfl
theorem agg61 : aggSize Tryz.prog 61 = some (some 2) := by kernel_rfl
theorem zer61 : zerosOf Tryz.prog 61 = some [(.int .i64 0), (.int .i64 0)] := by kernel_rfl
theorem sz61 : szOf Tryz.prog 61 = some 2 := by kernel_rfl
theorem off61_0 : fieldOff Tryz.prog 61 0 = some 0 := by kernel_rfl
theorem agg3 : aggSize Tryz.prog 3 = some none := by kernel_rfl
theorem off61_1 : fieldOff Tryz.prog 61 1 = some 1 := by kernel_rfl
theorem off52_1 : fieldOff Tryz.prog 52 1 = some 1 := by kernel_rfl
def record_CheckModel_4 (F : Nat) (hd2 : (List S_api_Tap) → Int → Int → Option (Int)) (v17 : (List S_api_Tap)) (v18 : Int) (v19 : Int) (v37 : Bool) : Option (Int) :=
  bif v37 then
    some 53
  else
    hd2 v17 v18 (w64 (v19 + (1 : Int)))

theorem record_CheckModel_4_ok (F : Nat) {B : Nat} (hd2 : (List S_api_Tap) → Int → Int → Option (Int)) (hhd2 : ∀ (v17 : (List S_api_Tap)) (v18 : Int) (v19 : Int) (sv17 : SV) (r : Int) (M : Mem) (hv17 : Slc (ro M) 2 (FlatR enc61) sv17 v17), hd2 v17 v18 v19 = some r → Run Tryz.prog B 22 39 (fun s _ => s = (.int .i64 r)) [(17, sv17), (18, (.int .i64 v18)), (19, (.int .i64 v19))] [codeC Tryz.prog 22 [1, 1, 0, 1, 0, 0], loopC Tryz.prog 22 [1, 1, 0, 1, 0, 0], .inBlock 0, codeC Tryz.prog 22 [1, 1, 1]] M) : ∀ (v17 : (List S_api_Tap)) (v18 : Int) (v19 : Int) (v37 : Bool) (sv17 : SV) (r : Int) (M : Mem) (hv17 : Slc (ro M) 2 (FlatR enc61) sv17 v17), record_CheckModel_4 F hd2 v17 v18 v19 v37 = some r → Run Tryz.prog B 22 39 (fun s _ => s = (.int .i64 r)) [(17, sv17), (18, (.int .i64 v18)), (19, (.int .i64 v19)), (37, (.bool v37))] [codeC Tryz.prog 22 [1, 1, 0, 1, 0, 0, 1, 1, 0, 0, 1, 1], .inBlock 1, codeC Tryz.prog 22 [1, 1, 0, 1, 0, 0, 1, 1, 1], loopC Tryz.prog 22 [1, 1, 0, 1, 0, 0], .inBlock 0, codeC Tryz.prog 22 [1, 1, 1]] M := by
  intro v17 v18 v19 v37 sv17 r M hv17 h
  rw [record_CheckModel_4] at h
  rcases btf (v37) with hc11 | hc11
  · have h := bif_t hc11 h
    refine Run.condT' rfl hc11 ?_
    refine Run.seq (Run.region ?_)
    refine Run.opG wantS_none (ex_assign rfl) rfl ?_
    refine Run.opsEnd ?_
    cases h
    exact Run.ret Tryz.func22 (res_tmp rfl res_nil) rfl
  · have h := bif_f hc11 h
    refine Run.condF' rfl hc11 ?_
    refine Run.skip (Run.inBlock (Run.region ?_))
    refine Run.opG wantS_none (ex_add rfl rfl) rfl ?_
    refine Run.opG wantS_none (ex_move rfl) rfl ?_
    refine Run.opsEnd (Run.inLoop ?_)
    exact Run.pick [17, 18, 19] (hhd2 v17 v18 (w64 (v19 + (1 : Int))) sv17 _ _ hv17 h)

def record_CheckModel_3 (F : Nat) (hd2 : (List S_api_Tap) → Int → Int → Option (Int)) (v17 : (List S_api_Tap)) (v18 : Int) (v19 : Int) (v32 : Bool) (c7_0 : Int) (c7_1 : Int) : Option (Int) :=
  bif v32 then
    record_CheckModel_4 F hd2 v17 v18 v19 true
  else
    record_CheckModel_4 F hd2 v17 v18 v19 (decide ((1048576 : Int) < c7_1))

theorem record_CheckModel_3_ok (F : Nat) {B : Nat} (hd2 : (List S_api_Tap) → Int → Int → Option (Int)) (hhd2 : ∀ (v17 : (List S_api_Tap)) (v18 : Int) (v19 : Int) (sv17 : SV) (r : Int) (M : Mem) (hv17 : Slc (ro M) 2 (FlatR enc61) sv17 v17), hd2 v17 v18 v19 = some r → Run Tryz.prog B 22 39 (fun s _ => s = (.int .i64 r)) [(17, sv17), (18, (.int .i64 v18)), (19, (.int .i64 v19))] [codeC Tryz.prog 22 [1, 1, 0, 1, 0, 0], loopC Tryz.prog 22 [1, 1, 0, 1, 0, 0], .inBlock 0, codeC Tryz.prog 22 [1, 1, 1]] M) : ∀ (v17 : (List S_api_Tap)) (v18 : Int) (v19 : Int) (v32 : Bool) (c7_0 : Int) (c7_1 : Int) (sv17 : SV) (b7 : Pos) (r : Int) (M : Mem) (hv17 : Slc (ro M) 2 (FlatR enc61) sv17 v17) (ho7 : Own M b7 61 .whole [(.int .i64 c7_0), (.int .i64 c7_1)]), record_CheckModel_3 F hd2 v17 v18 v19 v32 c7_0 c7_1 = some r → Run Tryz.prog B 22 39 (fun s _ => s = (.int .i64 r)) [(4, (.ptr b7 0)), (17, sv17), (18, (.int .i64 v18)), (19, (.int .i64 v19)), (32, (.bool v32))] [itemC Tryz.prog 22 [1, 1, 0, 1, 0, 0, 1, 1, 0, 0, 1, 0] 10, codeC Tryz.prog 22 [1, 1, 0, 1, 0, 0, 1, 1, 0, 0, 1, 1], .inBlock 1, codeC Tryz.prog 22 [1, 1, 0, 1, 0, 0, 1, 1, 1], loopC Tryz.prog 22 [1, 1, 0, 1, 0, 0], .inBlock 0, codeC Tryz.prog 22 [1, 1, 1]] M := by
  intro v17 v18 v19 v32 c7_0 c7_1 sv17 b7 r M hv17 ho7 h
  rw [record_CheckModel_3] at h
  refine Run.opG wantS_none (ex_move rfl) rfl ?_
  rcases btf (v32) with hc10 | hc10
  · have h := bif_t hc10 h
    refine Run.no (wantS_not' rfl rfl hc10) rfl ?_
    refine Run.no (wantS_not' rfl rfl hc10) rfl ?_
    refine Run.no (wantS_not' rfl rfl hc10) rfl ?_
    refine Run.opG wantS_none (ex_pickT' rfl hc10 rfl rfl) rfl ?_
    refine Run.opsEnd ?_
    exact Run.pick [17, 18, 19, 37] (record_CheckModel_4_ok F hd2 hhd2 v17 v18 v19 true sv17 _ _ hv17 h)
  · have h := bif_f hc10 h
    refine Run.opG (wantS_yes' rfl rfl hc10) (ex_fieldAddr rfl off61_1) rfl ?_
    refine Run.opG (wantS_yes' rfl rfl hc10) (ex_load1 rfl (ho7.at 1 rfl) rdLe_rfl agg3) rfl ?_
    refine Run.opG (wantS_yes' rfl rfl hc10) (ex_gtr rfl rfl) rfl ?_
    refine Run.opG wantS_none (ex_pickF' rfl hc10 rfl rfl) rfl ?_
    refine Run.opsEnd ?_
    exact Run.pick [17, 18, 19, 37] (record_CheckModel_4_ok F hd2 hhd2 v17 v18 v19 (decide ((1048576 : Int) < c7_1)) sv17 _ _ hv17 h)

def record_CheckModel_2 (F : Nat) : Nat → (List S_api_Tap) → Int → Int → Option (Int)
  | 0, _, _, _ => none
  | N + 1, v17, v18, v19 =>
    bif (decide (v19 < v18)) then
      bnd (idx v17 v19) fun x6 =>
      bif (decide (x6.High < x6.Low)) then
        record_CheckModel_3 F (record_CheckModel_2 F N) v17 v18 v19 true x6.Low x6.High
      else
        record_CheckModel_3 F (record_CheckModel_2 F N) v17 v18 v19 (decide (x6.Low < ((-1048576) : Int))) x6.Low x6.High
    else
      some 0

theorem record_CheckModel_2_ok (F : Nat) {B : Nat} : ∀ (N : Nat), ∀ (v17 : (List S_api_Tap)) (v18 : Int) (v19 : Int) (sv17 : SV) (r : Int) (M : Mem) (hv17 : Slc (ro M) 2 (FlatR enc61) sv17 v17), record_CheckModel_2 F N v17 v18 v19 = some r → Run Tryz.prog B 22 39 (fun s _ => s = (.int .i64 r)) [(17, sv17), (18, (.int .i64 v18)), (19, (.int .i64 v19))] [codeC Tryz.prog 22 [1, 1, 0, 1, 0, 0], loopC Tryz.prog 22 [1, 1, 0, 1, 0, 0], .inBlock 0, codeC Tryz.prog 22 [1, 1, 1]] M := by
  intro N
  induction N with
  | zero =>
    intro v17 v18 v19 sv17 r M hv17 h
    simp [record_CheckModel_2] at h
  | succ N ih =>
    intro v17 v18 v19 sv17 r M hv17 h
    rw [record_CheckModel_2] at h
    refine Run.seq (Run.region ?_)
    refine Run.opG wantS_none (ex_lss rfl rfl) rfl ?_
    refine Run.opsEnd (Run.seq ?_)
    rcases btf ((decide (v19 < v18))) with hc5 | hc5
    · have h := bif_t hc5 h
      refine Run.condT' rfl hc5 ?_
      refine Run.skip (Run.seq (Run.block (Run.seq (Run.region ?_))))
      obtain ⟨x6, hx6, h⟩ := bnd_some h
      refine Run.el wantS_none rfl rfl hv17 hx6 els50 rfl ?_
      rintro p6 o6 _ hp6 rfl
      refine Run.opG wantS_none (ex_loadA rfl hp6 (rdLe_roRow _) agg61 rfl rfl rfl) rfl ?_
      refine Run.new (v := fun b => .ptr b 0) wantS_none (ex_alloc zer61) rfl ?_
      intro b7 M7 (ho7 : Own M7 b7 61 .whole [(.int .i64 0), (.int .i64 0)]) hM7 hb7
      replace hv17 := slc_ro hv17 hM7.toRo
      refine Run.store (c' := [(.int .i64 x6.Low), (.int .i64 x6.High)]) wantS_none rfl rfl ho7 sz61 rfl rfl (Nat.le_of_ble_eq_true rfl) rfl rfl ?_
      intro M8 ho8 hM8 hO8
      replace hv17 := slc_ro hv17 hM8
      refine Run.opsEnd (Run.seq (Run.region ?_))
      refine Run.opG wantS_none (ex_fieldAddr rfl off61_0) rfl ?_
      refine Run.opG wantS_none (ex_load1 rfl (ho8.at 0 rfl) rdLe_rfl agg3) rfl ?_
      refine Run.opG wantS_none (ex_fieldAddr rfl off61_1) rfl ?_
      refine Run.opG wantS_none (ex_load1 rfl (ho8.at 1 rfl) rdLe_rfl agg3) rfl ?_
      refine Run.opG wantS_none (ex_gtr rfl rfl) rfl ?_
      refine Run.opG wantS_none (ex_move rfl) rfl ?_
      rcases btf ((decide (x6.High < x6.Low))) with hc9 | hc9
      · have h := bif_t hc9 h
        refine Run.no (wantS_not' rfl rfl hc9) rfl ?_
        refine Run.no (wantS_not' rfl rfl hc9) rfl ?_
        refine Run.no (wantS_not' rfl rfl hc9) rfl ?_
        refine Run.opG wantS_none (ex_pickT' rfl hc9 rfl rfl) rfl ?_
        exact Run.pick [4, 17, 18, 19, 32] (record_CheckModel_3_ok F (record_CheckModel_2 F N) ih v17 v18 v19 true x6.Low x6.High sv17 b7 _ _ hv17 ho8 h)
      · have h := bif_f hc9 h
        refine Run.opG (wantS_yes' rfl rfl hc9) (ex_fieldAddr rfl off61_0) rfl ?_
        refine Run.opG (wantS_yes' rfl rfl hc9) (ex_load1 rfl (ho8.at 0 rfl) rdLe_rfl agg3) rfl ?_
        refine Run.opG (wantS_yes' rfl rfl hc9) (ex_lss rfl rfl) rfl ?_
        refine Run.opG wantS_none (ex_pickF' rfl hc9 rfl rfl) rfl ?_
        exact Run.pick [4, 17, 18, 19, 32] (record_CheckModel_3_ok F (record_CheckModel_2 F N) ih v17 v18 v19 (decide (x6.Low < ((-1048576) : Int))) x6.Low x6.High sv17 b7 _ _ hv17 ho8 h)
    · have h := bif_f hc5 h
      refine Run.condF' rfl hc5 ?_
      refine Run.exit rfl (Run.seq (Run.region ?_))
      refine Run.opG wantS_none (ex_assign rfl) rfl ?_
      refine Run.opsEnd ?_
      cases h
      exact Run.ret Tryz.func22 (res_tmp rfl res_nil) rfl

def record_CheckModel_1 (F : Nat) (v15 : Bool) (c1_0 : (List S_api_Tap)) (c1_1 : Int) : Option (Int) :=
  bif v15 then
    some 53
  else
    record_CheckModel_2 F F c1_0 (c1_0.length : Int) 0

theorem record_CheckModel_1_ok (F : Nat) {B : Nat} : ∀ (v15 : Bool) (c1_0 : (List S_api_Tap)) (c1_1 : Int) (sc1_0 : SV) (b1 : Pos) (r : Int) (M : Mem) (hc1_0 : Slc (ro M) 2 (FlatR enc61) sc1_0 c1_0) (ho1 : Own M b1 52 .whole [sc1_0, (.int .i64 c1_1)]), record_CheckModel_1 F v15 c1_0 c1_1 = some r → Run Tryz.prog B 22 39 (fun s _ => s = (.int .i64 r)) [(1, (.ptr b1 0)), (15, (.bool v15))] [codeC Tryz.prog 22 [1, 0, 1], codeC Tryz.prog 22 [1, 1]] M := by
  intro v15 c1_0 c1_1 sc1_0 b1 r M hc1_0 ho1 h
  rw [record_CheckModel_1] at h
  rcases btf (v15) with hc4 | hc4
  · have h := bif_t hc4 h
    refine Run.condT' rfl hc4 ?_
    refine Run.seq (Run.region ?_)
    refine Run.opG wantS_none (ex_assign rfl) rfl ?_
    refine Run.opsEnd ?_
    cases h
    exact Run.ret Tryz.func22 (res_tmp rfl res_nil) rfl
  · have h := bif_f hc4 h
    refine Run.condF' rfl hc4 ?_
    refine Run.skip (Run.seq (Run.seq (Run.region ?_)))
    refine Run.opG wantS_none (ex_fieldAddr rfl off52_0) rfl ?_
    refine Run.opG wantS_none (ex_load1 rfl (ho1.at 0 rfl) rdLe_rfl agg50) rfl ?_
    refine Run.opG wantS_none (ex_len' rfl hc1_0 lenk50) rfl ?_
    refine Run.opG wantS_none (ex_move rfl) rfl ?_
    refine Run.opsEnd (Run.block (Run.loop ?_))
    exact Run.pick [17, 18, 19] (record_CheckModel_2_ok F F c1_0 (c1_0.length : Int) 0 sc1_0 _ _ hc1_0 h)

def record_CheckModel (F : Nat) (a0 : S_api_Model) : Option (Int) :=
  bnd (record_isFrom F 1 (a0.Taps.length : Int) 16) fun r2 =>
  bif (!r2) then
    record_CheckModel_1 F true a0.Taps a0.Shift
  else
    bnd (record_isFrom F 0 a0.Shift 20) fun r12 =>
    record_CheckModel_1 F (!r12) a0.Taps a0.Shift

theorem record_CheckModel_ok (F : Nat) (a0 : S_api_Model) (s0 : SV) (r : Int) (M : Mem) (hs0 : Slc (rd M) 2 (FlatR enc61) s0 a0.Taps) (h : record_CheckModel F a0 = some r) : CallsP Tryz.prog 22 [(.agg [s0, (.int .i64 a0.Shift)])] M (.int .i64 r) := by
  refine CallsP.of_run Tryz.func22 rfl rfl rfl fun B => ?_
  rw [record_CheckModel] at h
  replace hs0 := slc_in hs0
  refine Run.seq (Run.region ?_)
  refine Run.new (v := fun b => .ptr b 0) wantS_none (ex_box rfl) rfl ?_
  intro b1 M1 (ho1 : Own M1 b1 52 .whole [s0, (.int .i64 a0.Shift)]) hM1 hb1
  replace hs0 := slc_ro hs0 hM1.toRo
  refine Run.opG wantS_none (ex_assign rfl) rfl ?_
  refine Run.opsEnd (Run.seq (Run.seq (Run.region ?_)))
  refine Run.opG wantS_none (ex_fieldAddr rfl off52_0) rfl ?_
  refine Run.opG wantS_none (ex_load1 rfl (ho1.at 0 rfl) rdLe_rfl agg50) rfl ?_
  refine Run.opG wantS_none (ex_len' rfl hs0 lenk50) rfl ?_
  obtain ⟨r2, hr2, h⟩ := bnd_some h
  refine Run.callP wantS_none (ex_call rfl mkk44 cal44) rfl (record_isFrom_ok F 1 (a0.Taps.length : Int) 16 _ _ hr2) ?_
  refine Run.opG wantS_none (ex_not rfl) rfl ?_
  refine Run.opG wantS_none (ex_move rfl) rfl ?_
  rcases btf ((!r2)) with hc3 | hc3
  · have h := bif_t hc3 h
    refine Run.no (wantS_not' rfl rfl hc3) rfl ?_
    refine Run.no (wantS_not' rfl rfl hc3) rfl ?_
    refine Run.no (wantS_not' rfl rfl hc3) rfl ?_
    refine Run.no (wantS_not' rfl rfl hc3) rfl ?_
    refine Run.opG wantS_none (ex_pickT' rfl hc3 rfl rfl) rfl ?_
    refine Run.opsEnd ?_
    exact Run.pick [1, 15] (record_CheckModel_1_ok F true a0.Taps a0.Shift s0 b1 _ _ hs0 ho1 h)
  · have h := bif_f hc3 h
    refine Run.opG (wantS_yes' rfl rfl hc3) (ex_fieldAddr rfl off52_1) rfl ?_
    refine Run.opG (wantS_yes' rfl rfl hc3) (ex_load1 rfl (ho1.at 1 rfl) rdLe_rfl agg3) rfl ?_
    obtain ⟨r12, hr12, h⟩ := bnd_some h
    refine Run.callP (wantS_yes' rfl rfl hc3) (ex_call rfl mkk44 cal44) rfl (record_isFrom_ok F 0 a0.Shift 20 _ _ hr12) ?_
    refine Run.opG (wantS_yes' rfl rfl hc3) (ex_not rfl) rfl ?_
    refine Run.opG wantS_none (ex_pickF' rfl hc3 rfl rfl) rfl ?_
    refine Run.opsEnd ?_
    exact Run.pick [1, 15] (record_CheckModel_1_ok F (!r12) a0.Taps a0.Shift s0 b1 _ _ hs0 ho1 h)

theorem lenk24 : lenK Tryz.prog 24 = some .sl := by kernel_rfl
def enc3 (a : Int) : List SV := [(.int .i64 a)]
theorem enc3_len (a : Int) : (enc3 a).length = 1 := rfl
theorem enc3_ones (a : Int) : ones (enc3 a) = true := rfl
theorem els24 : elems Tryz.prog 24 = some (.sl 1) := by kernel_rfl
def record_areFrom_1 (F : Nat) : Nat → Int → (List Int) → Int → Int → Option (Bool)
  | 0, _, _, _, _ => none
  | N + 1, v1, v7, v8, v9 =>
    bif (decide (v9 < v8)) then
      bnd (idx v7 v9) fun x2 =>
      bnd (record_isFrom F (w64 (-v1)) x2 v1) fun r3 =>
      bif (!r3) then
        some false
      else
        record_areFrom_1 F N v1 v7 v8 (w64 (v9 + (1 : Int)))
    else
      some true

theorem record_areFrom_1_ok (F : Nat) {B : Nat} : ∀ (N : Nat), ∀ (v1 : Int) (v7 : (List Int)) (v8 : Int) (v9 : Int) (sv7 : SV) (r : Bool) (M : Mem) (hv7 : Slc (ro M) 1 (FlatR enc3) sv7 v7), record_areFrom_1 F N v1 v7 v8 v9 = some r → Run Tryz.prog B 45 20 (fun s _ => s = (.bool r)) [(1, (.int .i64 v1)), (7, sv7), (8, (.int .i64 v8)), (9, (.int .i64 v9))] [codeC Tryz.prog 45 [1, 0, 1, 0, 0], loopC Tryz.prog 45 [1, 0, 1, 0, 0], .inBlock 0, codeC Tryz.prog 45 [1, 1]] M := by
  intro N
  induction N with
  | zero =>
    intro v1 v7 v8 v9 sv7 r M hv7 h
    simp [record_areFrom_1] at h
  | succ N ih =>
    intro v1 v7 v8 v9 sv7 r M hv7 h
    rw [record_areFrom_1] at h
    refine Run.seq (Run.region ?_)
    refine Run.opG wantS_none (ex_lss rfl rfl) rfl ?_
    refine Run.opsEnd (Run.seq ?_)
    rcases btf ((decide (v9 < v8))) with hc1 | hc1
    · have h := bif_t hc1 h
      refine Run.condT' rfl hc1 ?_
      refine Run.skip (Run.seq (Run.block (Run.seq (Run.region ?_))))
      obtain ⟨x2, hx2, h⟩ := bnd_some h
      refine Run.el wantS_none rfl rfl hv7 hx2 els24 rfl ?_
      rintro p2 o2 _ hp2 rfl
      refine Run.opG wantS_none (ex_load1 rfl hp2 (rdLe_roRow _) agg3) rfl ?_
      refine Run.opG wantS_none (ex_assign rfl) rfl ?_
      refine Run.opsEnd (Run.seq (Run.region ?_))
      refine Run.opG wantS_none (ex_move rfl) rfl ?_
      refine Run.opG wantS_none (ex_neg rfl) rfl ?_
      refine Run.opG wantS_none (ex_move rfl) rfl ?_
      refine Run.opG wantS_none (ex_move rfl) rfl ?_
      obtain ⟨r3, hr3, h⟩ := bnd_some h
      refine Run.callP wantS_none (ex_call rfl mkk44 cal44) rfl (record_isFrom_ok F (w64 (-v1)) x2 v1 _ _ hr3) ?_
      refine Run.opG wantS_none (ex_not rfl) rfl ?_
      refine Run.opsEnd ?_
      rcases btf ((!r3)) with hc4 | hc4
      · have h := bif_t hc4 h
        refine Run.condT' rfl hc4 ?_
        refine Run.seq (Run.region ?_)
        refine Run.opG wantS_none (ex_assign rfl) rfl ?_
        refine Run.opsEnd ?_
        cases h
        exact Run.ret Tryz.func45 (res_tmp rfl res_nil) rfl
      · have h := bif_f hc4 h
        refine Run.condF' rfl hc4 ?_
        refine Run.skip (Run.inBlock (Run.region ?_))
        refine Run.opG wantS_none (ex_add rfl rfl) rfl ?_
        refine Run.opG wantS_none (ex_move rfl) rfl ?_
        refine Run.opsEnd (Run.inLoop ?_)
        exact Run.pick [1, 7, 8, 9] (ih v1 v7 v8 (w64 (v9 + (1 : Int))) sv7 _ _ hv7 h)
    · have h := bif_f hc1 h
      refine Run.condF' rfl hc1 ?_
      refine Run.exit rfl (Run.seq (Run.region ?_))
      refine Run.opG wantS_none (ex_assign rfl) rfl ?_
      refine Run.opsEnd ?_
      cases h
      exact Run.ret Tryz.func45 (res_tmp rfl res_nil) rfl

def record_areFrom (F : Nat) (a0 : (List Int)) (a1 : Int) : Option (Bool) :=
  record_areFrom_1 F F a1 a0 (a0.length : Int) 0

theorem record_areFrom_ok (F : Nat) (a0 : (List Int)) (a1 : Int) (s0 : SV) (r : Bool) (M : Mem) (hs0 : Slc (rd M) 1 (FlatR enc3) s0 a0) (h : record_areFrom F a0 a1 = some r) : CallsP Tryz.prog 45 [s0, (.int .i64 a1)] M (.bool r) := by
  refine CallsP.of_run Tryz.func45 rfl rfl rfl fun B => ?_
  rw [record_areFrom] at h
  replace hs0 := slc_in hs0
  refine Run.seq (Run.region ?_)
  refine Run.opG wantS_none (ex_assign rfl) rfl ?_
  refine Run.opsEnd (Run.seq (Run.seq (Run.region ?_)))
  refine Run.opG wantS_none (ex_move rfl) rfl ?_
  refine Run.opG wantS_none (ex_len' rfl hs0 lenk24) rfl ?_
  refine Run.opG wantS_none (ex_move rfl) rfl ?_
  refine Run.opsEnd (Run.block (Run.loop ?_))
  exact Run.pick [1, 7, 8, 9] (record_areFrom_1_ok F F a1 a0 (a0.length : Int) 0 s0 _ _ hs0 h)

theorem mkk45 : makeK Tryz.prog 45 = none := by kernel_rfl
theorem cal45 : callable Tryz.prog 45 = true := by kernel_rfl
def record_CheckSeries_1 (F : Nat) (v10 : Bool) : Option (Int) :=
  bif v10 then
    some 55
  else
    some 0

theorem record_CheckSeries_1_ok (F : Nat) {B : Nat} : ∀ (v10 : Bool) (r : Int) (M : Mem), record_CheckSeries_1 F v10 = some r → Run Tryz.prog B 24 11 (fun s _ => s = (.int .i64 r)) [(10, (.bool v10))] [codeC Tryz.prog 24 [1, 0, 1], codeC Tryz.prog 24 [1, 1]] M := by
  intro v10 r M h
  rw [record_CheckSeries_1] at h
  rcases btf (v10) with hc2 | hc2
  · have h := bif_t hc2 h
    refine Run.condT' rfl hc2 ?_
    refine Run.seq (Run.region ?_)
    refine Run.opG wantS_none (ex_assign rfl) rfl ?_
    refine Run.opsEnd ?_
    cases h
    exact Run.ret Tryz.func24 (res_tmp rfl res_nil) rfl
  · have h := bif_f hc2 h
    refine Run.condF' rfl hc2 ?_
    refine Run.skip (Run.seq (Run.region ?_))
    refine Run.opG wantS_none (ex_assign rfl) rfl ?_
    refine Run.opsEnd ?_
    cases h
    exact Run.ret Tryz.func24 (res_tmp rfl res_nil) rfl

def record_CheckSeries (F : Nat) (a0 : (List Int)) : Option (Int) :=
  bif (decide ((4096 : Int) < (a0.length : Int))) then
    record_CheckSeries_1 F true
  else
    bnd (record_areFrom F a0 8388608) fun r3 =>
    record_CheckSeries_1 F (!r3)

theorem record_CheckSeries_ok (F : Nat) (a0 : (List Int)) (s0 : SV) (r : Int) (M : Mem) (hs0 : Slc (rd M) 1 (FlatR enc3) s0 a0) (h : record_CheckSeries F a0 = some r) : CallsP Tryz.prog 24 [s0] M (.int .i64 r) := by
  refine CallsP.of_run Tryz.func24 rfl rfl rfl fun B => ?_
  rw [record_CheckSeries] at h
  replace hs0 := slc_in hs0
  refine Run.seq (Run.region ?_)
  refine Run.opG wantS_none (ex_assign rfl) rfl ?_
  refine Run.opsEnd (Run.seq (Run.seq (Run.region ?_)))
  refine Run.opG wantS_none (ex_move rfl) rfl ?_
  refine Run.opG wantS_none (ex_len' rfl hs0 lenk24) rfl ?_
  refine Run.opG wantS_none (ex_gtr rfl rfl) rfl ?_
  refine Run.opG wantS_none (ex_move rfl) rfl ?_
  rcases btf ((decide ((4096 : Int) < (a0.length : Int)))) with hc1 | hc1
  · have h := bif_t hc1 h
    refine Run.no (wantS_not' rfl rfl hc1) rfl ?_
    refine Run.no (wantS_not' rfl rfl hc1) rfl ?_
    refine Run.no (wantS_not' rfl rfl hc1) rfl ?_
    refine Run.opG wantS_none (ex_pickT' rfl hc1 rfl rfl) rfl ?_
    refine Run.opsEnd ?_
    exact Run.pick [10] (record_CheckSeries_1_ok F true _ _ h)
  · have h := bif_f hc1 h
    refine Run.opG (wantS_yes' rfl rfl hc1) (ex_move rfl) rfl ?_
    obtain ⟨r3, hr3, h⟩ := bnd_some h
    refine Run.callP (wantS_yes' rfl rfl hc1) (ex_call rfl mkk45 cal45) rfl (record_areFrom_ok F a0 8388608 s0 _ _ (slc_rd hs0) hr3) ?_
    refine Run.opG (wantS_yes' rfl rfl hc1) (ex_not rfl) rfl ?_
    refine Run.opG wantS_none (ex_pickF' rfl hc1 rfl rfl) rfl ?_
    refine Run.opsEnd ?_
    exact Run.pick [10] (record_CheckSeries_1_ok F (!r3) _ _ h)

theorem zer63 : zerosOf Tryz.prog 63 = some [(.int .i64 0), (.int .i64 0)] := by kernel_rfl
theorem slk50 : slK Tryz.prog 50 = some (.sl 2) := by kernel_rfl
theorem plan50_1_1_0_1_0_0_1_1_0_0_1_1_0 : planOf Tryz.prog (opsC (atC Tryz.prog 50 [1, 1, 0, 1, 0, 0, 1, 1, 0, 0, 1, 1, 0])) = some [.fl 0, .fl 1, .fl 2, .fl 3, .fl 4, .fl 5, .fl 6, .fl 7, .fl 8, .fl 9, .sync] := by kernel_rfl
theorem plan50_1_1_1_0 : planOf Tryz.prog (opsC (atC Tryz.prog 50 [1, 1, 1, 0])) = some [.fl 0, .fl 1, .fl 2, .fl 3, .fl 4, .fl 5, .fl 6, .fl 7, .fl 8, .fl 9, .fl 10, .an 11 [], .sync] := by kernel_rfl
theorem pls63 : placesOf Tryz.prog 63 = some (.st [(0, 1), (1, 1)]) := by kernel_rfl
theorem sz63 : szOf Tryz.prog 63 = some 2 := by kernel_rfl
theorem agg63 : aggSize Tryz.prog 63 = some (some 2) := by kernel_rfl
def record_bandOf_1 (F : Nat) : Nat → (List Int) → Int → Int → (List S_api_Tap) → Int → Int → (List S_api_Tap) → Int → Int → Int → Option (S_api_Tap)
  | 0, _, _, _, _, _, _, _, _, _, _ => none
  | N + 1, v1, v5, v6, v20, v21, v22, c1_0, c1_1, c2_0, c2_1 =>
    bif (decide (v22 < v21)) then
      bnd (idx v20 v22) fun x5 =>
      bnd (idx v1 (w64 ((w64 ((v1.length : Int) - (1 : Int))) - v22))) fun x8 =>
      record_bandOf_1 F N v1 (w64 (v5 + (min (w64 (x5.Low * x8)) (w64 (x5.High * x8))))) (w64 (v6 + (max (w64 (x5.Low * x8)) (w64 (x5.High * x8))))) v20 v21 (w64 (v22 + (1 : Int))) c1_0 c1_1 c2_0 c2_1
    else
      bnd (shn c1_1) fun j9 =>
      bnd (shn c1_1) fun j10 =>
      some (S_api_Tap.mk (Int.fdiv v5 (2 ^ (min j9 (IntKind.bits .i64)))) (w64 (-(Int.fdiv (w64 (-v6)) (2 ^ (min j10 (IntKind.bits .i64)))))))

theorem record_bandOf_1_ok (F : Nat) {B : Nat} : ∀ (N : Nat), ∀ (v1 : (List Int)) (v5 : Int) (v6 : Int) (v20 : (List S_api_Tap)) (v21 : Int) (v22 : Int) (c1_0 : (List S_api_Tap)) (c1_1 : Int) (c2_0 : Int) (c2_1 : Int) (sv1 : SV) (sv20 : SV) (sc1_0 : SV) (b1 : Pos) (b2 : Pos) (r : S_api_Tap) (M : Mem) (hv1 : Slc (ro M) 1 (FlatR enc3) sv1 v1) (hv20 : Slc (ro M) 2 (FlatR enc61) sv20 v20) (hc1_0 : Slc (ro M) 2 (FlatR enc61) sc1_0 c1_0) (ho1 : Own M b1 52 .whole [sc1_0, (.int .i64 c1_1)]) (ho2 : Own M b2 63 .whole [(.int .i64 c2_0), (.int .i64 c2_1)]) (l1_2 : b1.num < b2.num), record_bandOf_1 F N v1 v5 v6 v20 v21 v22 c1_0 c1_1 c2_0 c2_1 = some r → Run Tryz.prog B 50 65 (fun s _ => s = (.agg [(.int .i64 r.Low), (.int .i64 r.High)])) [(1, sv1), (2, (.ptr b1 0)), (4, (.ptr b2 0)), (5, (.int .i64 v5)), (6, (.int .i64 v6)), (20, sv20), (21, (.int .i64 v21)), (22, (.int .i64 v22))] [codeC Tryz.prog 50 [1, 1, 0, 1, 0, 0], loopC Tryz.prog 50 [1, 1, 0, 1, 0, 0], .inBlock 0, codeC Tryz.prog 50 [1, 1, 1]] M := by
  intro N
  induction N with
  | zero =>
    intro v1 v5 v6 v20 v21 v22 c1_0 c1_1 c2_0 c2_1 sv1 sv20 sc1_0 b1 b2 r M hv1 hv20 hc1_0 ho1 ho2 l1_2 h
    simp [record_bandOf_1] at h
  | succ N ih =>
    intro v1 v5 v6 v20 v21 v22 c1_0 c1_1 c2_0 c2_1 sv1 sv20 sc1_0 b1 b2 r M hv1 hv20 hc1_0 ho1 ho2 l1_2 h
    rw [record_bandOf_1] at h
    refine Run.seq (Run.region ?_)
    refine Run.opG wantS_none (ex_lss rfl rfl) rfl ?_
    refine Run.opsEnd (Run.seq ?_)
    rcases btf ((decide (v22 < v21))) with hc4 | hc4
    · have h := bif_t hc4 h
      refine Run.condT' rfl hc4 ?_
      refine Run.skip (Run.seq (Run.block (Run.seq (Run.region ?_))))
      refine Run.opG wantS_none (ex_move rfl) rfl ?_
      obtain ⟨x5, hx5, h⟩ := bnd_some h
      refine Run.el wantS_none rfl rfl hv20 hx5 els50 rfl ?_
      rintro p5 o5 _ hp5 rfl
      refine Run.opG wantS_none (ex_loadA rfl hp5 (rdLe_roRow _) agg61 rfl rfl rfl) rfl ?_
      refine Run.new (v := fun b => .ptr b 0) wantS_none (ex_alloc zer61) rfl ?_
      intro b6 M6 (ho6 : Own M6 b6 61 .whole [(.int .i64 0), (.int .i64 0)]) hM6 hb6
      have l1_6 := Nat.lt_of_lt_of_le ho1.lt hb6
      have l2_6 := Nat.lt_of_lt_of_le ho2.lt hb6
      replace hv1 := slc_ro hv1 hM6.toRo
      replace hv20 := slc_ro hv20 hM6.toRo
      replace hc1_0 := slc_ro hc1_0 hM6.toRo
      replace ho1 := hM6.own _ _ _ _ ho1
      replace ho2 := hM6.own _ _ _ _ ho2
      refine Run.opG wantS_none (ex_assign rfl) rfl ?_
      refine Run.store (c' := [(.int .i64 x5.Low), (.int .i64 x5.High)]) wantS_none rfl rfl ho6 sz61 rfl rfl (Nat.le_of_ble_eq_true rfl) rfl rfl ?_
      intro M7 ho7 hM7 hO7
      replace hv1 := slc_ro hv1 hM7
      replace hv20 := slc_ro hv20 hM7
      replace hc1_0 := slc_ro hc1_0 hM7
      replace ho1 := hO7 _ _ _ _ (pos_ne l1_6) ho1
      replace ho2 := hO7 _ _ _ _ (pos_ne l2_6) ho2
      refine Run.opsEnd (Run.seq (Run.region ?_))
      refine Run.opG wantS_none (ex_move rfl) rfl ?_
      refine Run.opG wantS_none (ex_move rfl) rfl ?_
      refine Run.opG wantS_none (ex_len' rfl hv1 lenk24) rfl ?_
      refine Run.opG wantS_none (ex_sub rfl rfl) rfl ?_
      refine Run.opG wantS_none (ex_move rfl) rfl ?_
      refine Run.opG wantS_none (ex_sub rfl rfl) rfl ?_
      obtain ⟨x8, hx8, h⟩ := bnd_some h
      refine Run.el wantS_none rfl rfl hv1 hx8 els24 rfl ?_
      rintro p8 o8 _ hp8 rfl
      refine Run.opG wantS_none (ex_load1 rfl hp8 (rdLe_roRow _) agg3) rfl ?_
      refine Run.opG wantS_none (ex_assign rfl) rfl ?_
      refine Run.opsEnd (Run.seq ?_)
      refine Run.drawG (sound_nil _) plan50_1_1_0_1_0_0_1_1_0_0_1_1_0 ?_
      refine DrawG.fl rfl (ev_ex wantS_none (ex_fieldAddr rfl off61_0)) rfl rfl ?_
      refine DrawG.fl rfl (ev_ex wantS_none (ex_load1 rfl (ho7.at 0 rfl) rdLe_rfl agg3)) rfl rfl ?_
      refine DrawG.fl rfl (ev_ex wantS_none (ex_move rfl)) rfl rfl ?_
      refine DrawG.fl rfl (ev_ex wantS_none (ex_mul rfl rfl)) rfl rfl ?_
      refine DrawG.fl rfl (ev_ex wantS_none (ex_fieldAddr rfl off61_1)) rfl rfl ?_
      refine DrawG.fl rfl (ev_ex wantS_none (ex_load1 rfl (ho7.at 1 rfl) rdLe_rfl agg3)) rfl rfl ?_
      refine DrawG.fl rfl (ev_ex wantS_none (ex_move rfl)) rfl rfl ?_
      refine DrawG.fl rfl (ev_ex wantS_none (ex_mul rfl rfl)) rfl rfl ?_
      refine DrawG.fl rfl (ev_ex wantS_none (ex_assign rfl)) rfl rfl ?_
      refine DrawG.fl rfl (ev_ex wantS_none (ex_assign rfl)) rfl rfl ?_
      refine DrawG.sync ?_
      refine DrawG.nil ?_
      refine Run.seq (Run.region ?_)
      refine Run.opG wantS_none (ex_move rfl) rfl ?_
      refine Run.opG wantS_none (ex_move rfl) rfl ?_
      refine Run.opG wantS_none (ex_move rfl) rfl ?_
      refine Run.opG wantS_none (ex_min rfl rfl) rfl ?_
      refine Run.opG wantS_none (ex_add rfl rfl) rfl ?_
      refine Run.opG wantS_none (ex_assign rfl) rfl ?_
      refine Run.opsEnd (Run.region ?_)
      refine Run.opG wantS_none (ex_move rfl) rfl ?_
      refine Run.opG wantS_none (ex_move rfl) rfl ?_
      refine Run.opG wantS_none (ex_move rfl) rfl ?_
      refine Run.opG wantS_none (ex_max rfl rfl) rfl ?_
      refine Run.opG wantS_none (ex_add rfl rfl) rfl ?_
      refine Run.opG wantS_none (ex_assign rfl) rfl ?_
      refine Run.opsEnd (Run.inBlock (Run.region ?_))
      refine Run.opG wantS_none (ex_add rfl rfl) rfl ?_
      refine Run.opG wantS_none (ex_move rfl) rfl ?_
      refine Run.opsEnd (Run.inLoop ?_)
      exact Run.pick [1, 2, 4, 5, 6, 20, 21, 22] (ih v1 (w64 (v5 + (min (w64 (x5.Low * x8)) (w64 (x5.High * x8))))) (w64 (v6 + (max (w64 (x5.Low * x8)) (w64 (x5.High * x8))))) v20 v21 (w64 (v22 + (1 : Int))) c1_0 c1_1 c2_0 c2_1 sv1 sv20 sc1_0 b1 b2 _ _ hv1 hv20 hc1_0 ho1 ho2 l1_2 h)
    · have h := bif_f hc4 h
      refine Run.condF' rfl hc4 ?_
      refine Run.exit rfl (Run.seq ?_)
      obtain ⟨j9, hj9, h⟩ := bnd_some h
      obtain ⟨j10, hj10, h⟩ := bnd_some h
      refine Run.drawG (sound_nil _) plan50_1_1_1_0 ?_
      refine DrawG.fl rfl (ev_ex wantS_none (ex_move rfl)) rfl rfl ?_
      refine DrawG.fl rfl (ev_ex wantS_none (ex_fieldAddr rfl off52_1)) rfl rfl ?_
      refine DrawG.fl rfl (ev_ex wantS_none (ex_load1 rfl (ho1.at 1 rfl) rdLe_rfl agg3)) rfl rfl ?_
      refine DrawG.fl rfl (ev_ex wantS_none (ex_shr' rfl rfl hj9)) rfl rfl ?_
      refine DrawG.fl rfl (ev_ex wantS_none (ex_move rfl)) rfl rfl ?_
      refine DrawG.fl rfl (ev_ex wantS_none (ex_neg rfl)) rfl rfl ?_
      refine DrawG.fl rfl (ev_ex wantS_none (ex_fieldAddr rfl off52_1)) rfl rfl ?_
      refine DrawG.fl rfl (ev_ex wantS_none (ex_load1 rfl (ho1.at 1 rfl) rdLe_rfl agg3)) rfl rfl ?_
      refine DrawG.fl rfl (ev_ex wantS_none (ex_shr' rfl rfl hj10)) rfl rfl ?_
      refine DrawG.fl rfl (ev_ex wantS_none (ex_neg rfl)) rfl rfl ?_
      refine DrawG.fl rfl (ev_ex wantS_none (ex_build (r := [(.int .i64 (Int.fdiv v5 (2 ^ (min j9 (IntKind.bits .i64))))), (.int .i64 (w64 (-(Int.fdiv (w64 (-v6)) (2 ^ (min j10 (IntKind.bits .i64)))))))]) rfl zer63 pls63 rfl)) rfl rfl ?_
      refine DrawG.store (c' := [(.int .i64 (Int.fdiv v5 (2 ^ (min j9 (IntKind.bits .i64))))), (.int .i64 (w64 (-(Int.fdiv (w64 (-v6)) (2 ^ (min j10 (IntKind.bits .i64)))))))]) rfl wantS_none rfl rfl ho2 sz63 rfl rfl (Nat.le_of_ble_eq_true rfl) rfl rfl ?_
      intro M11 ho11 hM11 hO11
      replace hc1_0 := slc_ro hc1_0 hM11
      replace ho1 := hO11 _ _ _ _ (pos_ne l1_2) ho1
      refine ⟨st_nil, ?_⟩
      refine DrawG.sync ?_
      refine DrawG.nil ?_
      cases h
      exact Run.ret Tryz.func50 (res_cell rfl (x_load (ex_loadA rfl (ho11.at 0 rfl) rdLe_rfl agg63 rfl rfl rfl)) res_nil) rfl

def record_bandOf (F : Nat) (a0 : S_api_Model) (a1 : (List Int)) : Option (S_api_Tap) :=
  bnd (sub a0.Taps 0 (min (a0.Taps.length : Int) (a1.length : Int))) fun l3 =>
  record_bandOf_1 F F a1 0 0 l3 (l3.length : Int) 0 a0.Taps a0.Shift 0 0

theorem record_bandOf_ok (F : Nat) (a0 : S_api_Model) (a1 : (List Int)) (s0 s1 : SV) (r : S_api_Tap) (M : Mem) (hs0 : Slc (rd M) 2 (FlatR enc61) s0 a0.Taps) (hs1 : Slc (rd M) 1 (FlatR enc3) s1 a1) (h : record_bandOf F a0 a1 = some r) : CallsP Tryz.prog 50 [(.agg [s0, (.int .i64 a0.Shift)]), s1] M (.agg [(.int .i64 r.Low), (.int .i64 r.High)]) := by
  refine CallsP.of_run Tryz.func50 rfl rfl rfl fun B => ?_
  rw [record_bandOf] at h
  replace hs0 := slc_in hs0
  replace hs1 := slc_in hs1
  refine Run.seq (Run.region ?_)
  refine Run.new (v := fun b => .ptr b 0) wantS_none (ex_box rfl) rfl ?_
  intro b1 M1 (ho1 : Own M1 b1 52 .whole [s0, (.int .i64 a0.Shift)]) hM1 hb1
  replace hs0 := slc_ro hs0 hM1.toRo
  replace hs1 := slc_ro hs1 hM1.toRo
  refine Run.new (v := fun b => .ptr b 0) wantS_none (ex_alloc zer63) rfl ?_
  intro b2 M2 (ho2 : Own M2 b2 63 .whole [(.int .i64 0), (.int .i64 0)]) hM2 hb2
  have l1_2 := Nat.lt_of_lt_of_le ho1.lt hb2
  replace hs1 := slc_ro hs1 hM2.toRo
  replace hs0 := slc_ro hs0 hM2.toRo
  replace ho1 := hM2.own _ _ _ _ ho1
  refine Run.opsEnd (Run.seq (Run.region ?_))
  refine Run.opG wantS_none (ex_assign rfl) rfl ?_
  refine Run.opG wantS_none (ex_assign rfl) rfl ?_
  refine Run.opsEnd (Run.seq (Run.seq (Run.region ?_)))
  refine Run.opG wantS_none (ex_fieldAddr rfl off52_0) rfl ?_
  refine Run.opG wantS_none (ex_load1 rfl (ho1.at 0 rfl) rdLe_rfl agg50) rfl ?_
  refine Run.opG wantS_none (ex_fieldAddr rfl off52_0) rfl ?_
  refine Run.opG wantS_none (ex_load1 rfl (ho1.at 0 rfl) rdLe_rfl agg50) rfl ?_
  refine Run.opG wantS_none (ex_len' rfl hs0 lenk50) rfl ?_
  refine Run.opG wantS_none (ex_move rfl) rfl ?_
  refine Run.opG wantS_none (ex_len' rfl hs1 lenk24) rfl ?_
  refine Run.opG wantS_none (ex_min rfl rfl) rfl ?_
  obtain ⟨l3, hl3, h⟩ := bnd_some h
  refine Run.subH wantS_none rfl rfl hs0 hl3 slk50 rfl ?_
  intro s3 hs3
  refine Run.opG wantS_none (ex_len' rfl hs3 lenk50) rfl ?_
  refine Run.opG wantS_none (ex_move rfl) rfl ?_
  refine Run.opsEnd (Run.block (Run.loop ?_))
  exact Run.pick [1, 2, 4, 5, 6, 20, 21, 22] (record_bandOf_1_ok F F a1 0 0 l3 (l3.length : Int) 0 a0.Taps a0.Shift 0 0 s1 s3 s0 b1 b2 _ _ hs1 hs3 hs0 ho1 ho2 l1_2 h)

theorem agg52 : aggSize Tryz.prog 52 = some (some 2) := by kernel_rfl
theorem mkk22 : makeK Tryz.prog 22 = none := by kernel_rfl
theorem cal22 : callable Tryz.prog 22 = true := by kernel_rfl
theorem mkk24 : makeK Tryz.prog 24 = none := by kernel_rfl
theorem cal24 : callable Tryz.prog 24 = true := by kernel_rfl
def enc63 (a : S_api_Tap) : List SV := [(.int .i64 a.Low), (.int .i64 a.High)]
theorem enc63_len (a : S_api_Tap) : (enc63 a).length = 2 := rfl
theorem enc63_ones (a : S_api_Tap) : ones (enc63 a) = true := rfl
theorem elt53 : sliceElt Tryz.prog 53 = some (⟨2, 16, [(.int .i64 0), (.int .i64 0)], 63⟩ : Elt) := by kernel_rfl
theorem plan20_1_1_1_1_0_1_0_0_1_1_0_0_1 : planOf Tryz.prog (opsC (atC Tryz.prog 20 [1, 1, 1, 1, 0, 1, 0, 0, 1, 1, 0, 0, 1])) = some [.fl 0, .fl 1, .fl 2, .fl 3, .fl 4, .fl 5, .fl 6, .an 7 [1, 0], .fl 8, .an 9 [], .sync] := by kernel_rfl
theorem slk24 : slK Tryz.prog 24 = some (.sl 1) := by kernel_rfl
theorem mkk50 : makeK Tryz.prog 50 = none := by kernel_rfl
theorem cal50 : callable Tryz.prog 50 = true := by kernel_rfl
theorem els53 : elems Tryz.prog 53 = some (.sl 2) := by kernel_rfl
def record_Strain_1 (F : Nat) : Nat → (List Int) → (List S_api_Tap) → Int → Int → (List S_api_Tap) → Int → Option ((List S_api_Tap) × Int)
  | 0, _, _, _, _, _, _ => none
  | N + 1, v1, v8, v24, v25, c1_0, c1_1 =>
    bif (decide (v25 < v24)) then
      bnd (sub v1 0 (w64 (v25 + (1 : Int)))) fun l8 =>
      bnd (record_bandOf F (S_api_Model.mk c1_0 c1_1) l8) fun r9 =>
      bnd (inn v8 v25) fun i10 =>
      bnd (upd v8 i10 r9) fun l11 =>
      record_Strain_1 F N v1 l11 v24 (w64 (v25 + (1 : Int))) c1_0 c1_1
    else
      some (v8, 0)

theorem record_Strain_1_ok (F : Nat) {B : Nat} : ∀ (N : Nat), ∀ (v1 : (List Int)) (v8 : (List S_api_Tap)) (v24 : Int) (v25 : Int) (c1_0 : (List S_api_Tap)) (c1_1 : Int) (sv1 : SV) (nv8 : Nat) (sc1_0 : SV) (b1 : Pos) (b6 : Pos) (r : (List S_api_Tap) × Int) (M : Mem) (hv1 : Slc (ro M) 1 (FlatR enc3) sv1 v1) (hlv8 : v8.length = nv8) (hc1_0 : Slc (ro M) 2 (FlatR enc61) sc1_0 c1_0) (ho1 : Own M b1 52 .whole [sc1_0, (.int .i64 c1_1)]) (ho6 : Own M b6 63 (.head 0) (v8.flatMap enc63)) (l1_6 : b1.num < b6.num), record_Strain_1 F N v1 v8 v24 v25 c1_0 c1_1 = some r → Run Tryz.prog B 20 39 (fun s Me => ∃ q1, s = (.tuple [q1, (.int .i64 r.2)]) ∧ Slc (rn Me) 2 (FlatR enc63) q1 r.1) [(1, sv1), (2, (.ptr b1 0)), (8, (.slice b6 0 nv8 nv8)), (24, (.int .i64 v24)), (25, (.int .i64 v25))] [codeC Tryz.prog 20 [1, 1, 1, 1, 0, 1, 0, 0], loopC Tryz.prog 20 [1, 1, 1, 1, 0, 1, 0, 0], .inBlock 0, codeC Tryz.prog 20 [1, 1, 1, 1, 1]] M := by
  intro N
  induction N with
  | zero =>
    intro v1 v8 v24 v25 c1_0 c1_1 sv1 nv8 sc1_0 b1 b6 r M hv1 hlv8 hc1_0 ho1 ho6 l1_6 h
    simp [record_Strain_1] at h
  | succ N ih =>
    intro v1 v8 v24 v25 c1_0 c1_1 sv1 nv8 sc1_0 b1 b6 r M hv1 hlv8 hc1_0 ho1 ho6 l1_6 h
    rw [record_Strain_1] at h
    refine Run.seq (Run.region ?_)
    refine Run.opG wantS_none (ex_lss rfl rfl) rfl ?_
    refine Run.opsEnd (Run.seq ?_)
    rcases btf ((decide (v25 < v24))) with hc7 | hc7
    · have h := bif_t hc7 h
      refine Run.condT' rfl hc7 ?_
      refine Run.skip (Run.seq (Run.block (Run.seq (Run.region ?_))))
      refine Run.opG wantS_none (ex_move rfl) rfl ?_
      refine Run.opG wantS_none (ex_assign rfl) rfl ?_
      refine Run.opsEnd ?_
      obtain ⟨l8, hl8, h⟩ := bnd_some h
      obtain ⟨s8, hx8_, hs8⟩ := xs_subH (P := Tryz.prog) (M := M) (k0 := .i64) hv1 hl8 slk24
      obtain ⟨r9, hr9, h⟩ := bnd_some h
      obtain ⟨i10, hi10, h⟩ := bnd_some h
      obtain ⟨l11, hl11, h⟩ := bnd_some h
      refine Run.drawG (sound_cons (M := M) (record_bandOf_ok F (S_api_Model.mk c1_0 c1_1) l8 sc1_0 s8 _ _ (slc_rd hc1_0) (slc_rd hs8) hr9) (sound_nil _)) plan20_1_1_1_1_0_1_0_0_1_1_0_0_1 ?_
      refine DrawG.fl rfl (ev_ex wantS_none (ex_move rfl)) rfl rfl ?_
      refine DrawG.fl rfl (ev_ex wantS_none (ex_move rfl)) rfl rfl ?_
      refine DrawG.fl rfl (ev_ex wantS_none (ex_loadA rfl (ho1.at 0 rfl) rdLe_rfl agg52 rfl rfl rfl)) rfl rfl ?_
      refine DrawG.fl rfl (ev_ex wantS_none (ex_move rfl)) rfl rfl ?_
      refine DrawG.fl rfl (ev_ex wantS_none (ex_move rfl)) rfl rfl ?_
      refine DrawG.fl rfl (ev_ex wantS_none (ex_add rfl rfl)) rfl rfl ?_
      refine DrawG.fl rfl (ev_ex wantS_none (ex_slSH rfl rfl hx8_)) rfl rfl ?_
      refine DrawG.call rfl wantS_none (ex_call rfl mkk50 cal50) (orK_left (oneK_same _ _ _ _)) rfl (st_cons rfl (ev_ex wantS_none (ex_move rfl)) rfl rfl rfl (st_cons rfl (ev_ex wantS_none (ex_move rfl)) rfl rfl rfl st_nil)) ?_
      obtain ⟨e10, q10⟩ := inn_some hi10
      rw [hlv8] at q10
      refine DrawG.fl rfl (ev_ex wantS_none (ex_elemOwn (i := i10) rfl (by rw [← e10]; rfl) q10 els53)) rfl rfl ?_
      refine DrawG.storeEl rfl wantS_none rfl rfl ho6 hl11 sz63 rfl rfl enc63_len enc63_ones ?_
      intro M11 ho11 hl11 hM11 hO11
      have hn11 := hl11.trans hlv8
      replace hv1 := slc_ro hv1 hM11
      replace hc1_0 := slc_ro hc1_0 hM11
      replace hs8 := slc_ro hs8 hM11
      replace ho1 := hO11 _ _ _ _ (pos_ne l1_6) ho1
      refine ⟨st_nil, ?_⟩
      refine DrawG.sync ?_
      refine DrawG.nil ?_
      refine Run.inBlock (Run.region ?_)
      refine Run.opG wantS_none (ex_add rfl rfl) rfl ?_
      refine Run.opG wantS_none (ex_move rfl) rfl ?_
      refine Run.opsEnd (Run.inLoop ?_)
      exact Run.pick [1, 2, 8, 24, 25] (ih v1 l11 v24 (w64 (v25 + (1 : Int))) c1_0 c1_1 sv1 nv8 sc1_0 b1 b6 _ _ hv1 hn11 hc1_0 ho1 ho11 l1_6 h)
    · have h := bif_f hc7 h
      refine Run.condF' rfl hc7 ?_
      refine Run.exit rfl (Run.seq (Run.region ?_))
      refine Run.opG wantS_none (ex_move rfl) rfl ?_
      refine Run.opG wantS_none (ex_assign rfl) rfl ?_
      refine Run.opG wantS_none (ex_assign rfl) rfl ?_
      refine Run.opsEnd ?_
      cases h
      exact Run.ret Tryz.func20 (res_tmp rfl (res_tmp rfl res_nil)) ⟨_, rfl, (own_slc ho6 hlv8 enc63_len)⟩

def record_Strain (F : Nat) (a0 : S_api_Model) (a1 : (List Int)) : Option ((List S_api_Tap) × Int) :=
  bnd (record_CheckModel F a0) fun r2 =>
  bif (!(r2 == (0 : Int))) then
    some ([], r2)
  else
    bnd (record_CheckSeries F a1) fun r4 =>
    bif (!(r4 == (0 : Int))) then
      some ([], r4)
    else
      bnd (mk (a1.length : Int) 16 (S_api_Tap.mk (0 : Int) (0 : Int))) fun l6 =>
      record_Strain_1 F F a1 l6 (a1.length : Int) 0 a0.Taps a0.Shift

theorem record_Strain_ok (F : Nat) (a0 : S_api_Model) (a1 : (List Int)) (s0 s1 : SV) (r : (List S_api_Tap) × Int) (M : Mem) (hs0 : Slc (rd M) 2 (FlatR enc61) s0 a0.Taps) (hs1 : Slc (rd M) 1 (FlatR enc3) s1 a1) (h : record_Strain F a0 a1 = some r) : CallsTo Tryz.prog 20 [(.agg [s0, (.int .i64 a0.Shift)]), s1] M fun s M' => MemLe M M' ∧ (fun s f => ∃ q1, s = (.tuple [q1, (.int .i64 r.2)]) ∧ Slc f 2 (FlatR enc63) q1 r.1) s (ro M') := by
  refine CallsTo.of_new (Q := (fun s f => ∃ q1, s = (.tuple [q1, (.int .i64 r.2)]) ∧ Slc f 2 (FlatR enc63) q1 r.1)) Tryz.func20 rfl rfl (fun s f g hfg hq => by obtain ⟨q1, he, f0⟩ := hq; exact ⟨q1, he, slc_mo hfg f0⟩) fun B => ?_
  rw [record_Strain] at h
  replace hs0 := slc_in hs0
  replace hs1 := slc_in hs1
  refine Run.seq (Run.region ?_)
  refine Run.new (v := fun b => .ptr b 0) wantS_none (ex_box rfl) rfl ?_
  intro b1 M1 (ho1 : Own M1 b1 52 .whole [s0, (.int .i64 a0.Shift)]) hM1 hb1
  replace hs0 := slc_ro hs0 hM1.toRo
  replace hs1 := slc_ro hs1 hM1.toRo
  refine Run.opG wantS_none (ex_assign rfl) rfl ?_
  refine Run.opG wantS_none (ex_assign rfl) rfl ?_
  refine Run.opsEnd (Run.seq (Run.seq (Run.region ?_)))
  refine Run.opG wantS_none (ex_loadA rfl (ho1.at 0 rfl) rdLe_rfl agg52 rfl rfl rfl) rfl ?_
  obtain ⟨r2, hr2, h⟩ := bnd_some h
  refine Run.callP wantS_none (ex_call rfl mkk22 cal22) rfl (record_CheckModel_ok F a0 s0 _ _ (slc_rd hs0) hr2) ?_
  refine Run.opG wantS_none (ex_assign rfl) rfl ?_
  refine Run.opsEnd (Run.seq (Run.region ?_))
  refine Run.opG wantS_none (ex_move rfl) rfl ?_
  refine Run.opG wantS_none (ex_neq rfl rfl) rfl ?_
  refine Run.opsEnd ?_
  rcases btf ((!(r2 == (0 : Int)))) with hc3 | hc3
  · have h := bif_t hc3 h
    refine Run.condT' rfl hc3 ?_
    refine Run.seq (Run.region ?_)
    refine Run.opG wantS_none (ex_move rfl) rfl ?_
    refine Run.opG wantS_none (ex_assign rfl) rfl ?_
    refine Run.opG wantS_none (ex_assign rfl) rfl ?_
    refine Run.opsEnd ?_
    cases h
    exact Run.ret Tryz.func20 (res_tmp rfl (res_tmp rfl res_nil)) ⟨_, rfl, slc_nil⟩
  · have h := bif_f hc3 h
    refine Run.condF' rfl hc3 ?_
    refine Run.skip (Run.seq (Run.seq (Run.region ?_)))
    refine Run.opG wantS_none (ex_move rfl) rfl ?_
    obtain ⟨r4, hr4, h⟩ := bnd_some h
    refine Run.callP wantS_none (ex_call rfl mkk24 cal24) rfl (record_CheckSeries_ok F a1 s1 _ _ (slc_rd hs1) hr4) ?_
    refine Run.opG wantS_none (ex_assign rfl) rfl ?_
    refine Run.opsEnd (Run.seq (Run.region ?_))
    refine Run.opG wantS_none (ex_move rfl) rfl ?_
    refine Run.opG wantS_none (ex_neq rfl rfl) rfl ?_
    refine Run.opsEnd ?_
    rcases btf ((!(r4 == (0 : Int)))) with hc5 | hc5
    · have h := bif_t hc5 h
      refine Run.condT' rfl hc5 ?_
      refine Run.seq (Run.region ?_)
      refine Run.opG wantS_none (ex_move rfl) rfl ?_
      refine Run.opG wantS_none (ex_assign rfl) rfl ?_
      refine Run.opG wantS_none (ex_assign rfl) rfl ?_
      refine Run.opsEnd ?_
      cases h
      exact Run.ret Tryz.func20 (res_tmp rfl (res_tmp rfl res_nil)) ⟨_, rfl, slc_nil⟩
    · have h := bif_f hc5 h
      refine Run.condF' rfl hc5 ?_
      refine Run.skip (Run.seq (Run.region ?_))
      refine Run.opG wantS_none (ex_move rfl) rfl ?_
      refine Run.opG wantS_none (ex_len' rfl hs1 lenk24) rfl ?_
      obtain ⟨l6, hl6, h⟩ := bnd_some h
      refine Run.make (enc := enc63) wantS_none rfl rfl hl6 elt53 rfl rfl rfl ?_
      intro b6 M6 n6 e6 hl6 (ho6 : Own M6 b6 63 (.head 0) (l6.flatMap enc63)) hM6 hb6
      have l1_6 := Nat.lt_of_lt_of_le ho1.lt hb6
      replace hs1 := slc_ro hs1 hM6.toRo
      replace hs0 := slc_ro hs0 hM6.toRo
      replace ho1 := hM6.own _ _ _ _ ho1
      refine Run.opG wantS_none (ex_assign rfl) rfl ?_
      refine Run.opsEnd (Run.seq (Run.seq (Run.region ?_)))
      refine Run.opG wantS_none (ex_move rfl) rfl ?_
      refine Run.opG wantS_none (ex_len' rfl hs1 lenk24) rfl ?_
      refine Run.opG wantS_none (ex_move rfl) rfl ?_
      refine Run.opsEnd (Run.block (Run.loop ?_))
      exact Run.pick [1, 2, 8, 24, 25] (record_Strain_1_ok F F a1 l6 (a1.length : Int) 0 a0.Taps a0.Shift s1 n6 s0 b1 b6 _ _ hs1 hl6 hs0 ho1 ho6 l1_6 h)

def ref00_In_1 (F : Nat) (v14 : Bool) : Option (Bool) :=
  some v14

theorem ref00_In_1_ok (F : Nat) {B : Nat} : ∀ (v14 : Bool) (r : Bool) (M : Mem), ref00_In_1 F v14 = some r → Run Tryz.prog B 51 15 (fun s _ => s = (.bool r)) [(14, (.bool v14))] [itemC Tryz.prog 51 [1, 0] 8, codeC Tryz.prog 51 [1, 1]] M := by
  intro v14 r M h
  rw [ref00_In_1] at h
  refine Run.opG wantS_none (ex_assign rfl) rfl ?_
  refine Run.opsEnd ?_
  cases h
  exact Run.ret Tryz.func51 (res_tmp rfl res_nil) rfl

def ref00_In (F : Nat) (a0 : Int) (a1 : Int) (a2 : Int) : Option (Bool) :=
  bif (decide (a1 ≤ a0)) then
    ref00_In_1 F (decide (a0 ≤ a2))
  else
    ref00_In_1 F false

theorem ref00_In_ok (F : Nat) (a0 : Int) (a1 : Int) (a2 : Int) (r : Bool) (M : Mem) (h : ref00_In F a0 a1 a2 = some r) : CallsP Tryz.prog 51 [(.int .i64 a0), (.int .i64 a1), (.int .i64 a2)] M (.bool r) := by
  refine CallsP.of_run Tryz.func51 rfl rfl rfl fun B => ?_
  rw [ref00_In] at h
  refine Run.seq (Run.region ?_)
  refine Run.opG wantS_none (ex_assign rfl) rfl ?_
  refine Run.opsEnd (Run.seq (Run.region ?_))
  refine Run.opG wantS_none (ex_move rfl) rfl ?_
  refine Run.opG wantS_none (ex_move rfl) rfl ?_
  refine Run.opG wantS_none (ex_leq rfl rfl) rfl ?_
  refine Run.opG wantS_none (ex_move rfl) rfl ?_
  rcases btf ((decide (a1 ≤ a0))) with hc1 | hc1
  · have h := bif_t hc1 h
    refine Run.opG (wantS_yes' rfl rfl hc1) (ex_move rfl) rfl ?_
    refine Run.opG (wantS_yes' rfl rfl hc1) (ex_move rfl) rfl ?_
    refine Run.opG (wantS_yes' rfl rfl hc1) (ex_leq rfl rfl) rfl ?_
    refine Run.opG wantS_none (ex_pickT' rfl hc1 rfl rfl) rfl ?_
    exact Run.pick [14] (ref00_In_1_ok F (decide (a0 ≤ a2)) _ _ h)
  · have h := bif_f hc1 h
    refine Run.no (wantS_not' rfl rfl hc1) rfl ?_
    refine Run.no (wantS_not' rfl rfl hc1) rfl ?_
    refine Run.no (wantS_not' rfl rfl hc1) rfl ?_
    refine Run.opG wantS_none (ex_pickF' rfl hc1 rfl rfl) rfl ?_
    exact Run.pick [14] (ref00_In_1_ok F false _ _ h)

theorem mkk51 : makeK Tryz.prog 51 = none := by kernel_rfl
theorem cal51 : callable Tryz.prog 51 = true := by kernel_rfl
def ref05_CheckModel_4 (F : Nat) (hd2 : Bool → Int → (List S_api_Tap) → Int → Option (Int)) (v4 : Int) (v39 : Bool) (c1_0 : (List S_api_Tap)) (c1_1 : Int) : Option (Int) :=
  hd2 v39 (w64 (v4 + (1 : Int))) c1_0 c1_1

theorem ref05_CheckModel_4_ok (F : Nat) {B : Nat} (hd2 : Bool → Int → (List S_api_Tap) → Int → Option (Int)) (hhd2 : ∀ (v3 : Bool) (v4 : Int) (c1_0 : (List S_api_Tap)) (c1_1 : Int) (sc1_0 : SV) (b1 : Pos) (r : Int) (M : Mem) (hc1_0 : Slc (ro M) 2 (FlatR enc61) sc1_0 c1_0) (ho1 : Own M b1 52 .whole [sc1_0, (.int .i64 c1_1)]), hd2 v3 v4 c1_0 c1_1 = some r → Run Tryz.prog B 23 42 (fun s _ => s = (.int .i64 r)) [(1, (.ptr b1 0)), (3, (.bool v3)), (4, (.int .i64 v4))] [codeC Tryz.prog 23 [1, 1, 0, 1, 0, 0], loopC Tryz.prog 23 [1, 1, 0, 1, 0, 0], .inBlock 0, codeC Tryz.prog 23 [1, 1, 1]] M) : ∀ (v4 : Int) (v39 : Bool) (c1_0 : (List S_api_Tap)) (c1_1 : Int) (sc1_0 : SV) (b1 : Pos) (r : Int) (M : Mem) (hc1_0 : Slc (ro M) 2 (FlatR enc61) sc1_0 c1_0) (ho1 : Own M b1 52 .whole [sc1_0, (.int .i64 c1_1)]), ref05_CheckModel_4 F hd2 v4 v39 c1_0 c1_1 = some r → Run Tryz.prog B 23 42 (fun s _ => s = (.int .i64 r)) [(1, (.ptr b1 0)), (4, (.int .i64 v4)), (39, (.bool v39))] [itemC Tryz.prog 23 [1, 1, 0, 1, 0, 0, 1, 0, 0, 1] 13, .inBlock 1, codeC Tryz.prog 23 [1, 1, 0, 1, 0, 0, 1, 1], loopC Tryz.prog 23 [1, 1, 0, 1, 0, 0], .inBlock 0, codeC Tryz.prog 23 [1, 1, 1]] M := by
  intro v4 v39 c1_0 c1_1 sc1_0 b1 r M hc1_0 ho1 h
  rw [ref05_CheckModel_4] at h
  refine Run.opG wantS_none (ex_assign rfl) rfl ?_
  refine Run.opsEnd (Run.inBlock (Run.region ?_))
  refine Run.opG wantS_none (ex_move rfl) rfl ?_
  refine Run.opG wantS_none (ex_add rfl rfl) rfl ?_
  refine Run.opG wantS_none (ex_assign rfl) rfl ?_
  refine Run.opsEnd (Run.inLoop ?_)
  exact Run.pick [1, 3, 4] (hhd2 v39 (w64 (v4 + (1 : Int))) c1_0 c1_1 sc1_0 b1 _ _ hc1_0 ho1 h)

def ref05_CheckModel_3 (F : Nat) (hd2 : Bool → Int → (List S_api_Tap) → Int → Option (Int)) (v4 : Int) (v34 : Bool) (c1_0 : (List S_api_Tap)) (c1_1 : Int) (c7_0 : Int) (c7_1 : Int) : Option (Int) :=
  bif v34 then
    ref05_CheckModel_4 F hd2 v4 (decide (c7_1 ≤ (1048576 : Int))) c1_0 c1_1
  else
    ref05_CheckModel_4 F hd2 v4 false c1_0 c1_1

theorem ref05_CheckModel_3_ok (F : Nat) {B : Nat} (hd2 : Bool → Int → (List S_api_Tap) → Int → Option (Int)) (hhd2 : ∀ (v3 : Bool) (v4 : Int) (c1_0 : (List S_api_Tap)) (c1_1 : Int) (sc1_0 : SV) (b1 : Pos) (r : Int) (M : Mem) (hc1_0 : Slc (ro M) 2 (FlatR enc61) sc1_0 c1_0) (ho1 : Own M b1 52 .whole [sc1_0, (.int .i64 c1_1)]), hd2 v3 v4 c1_0 c1_1 = some r → Run Tryz.prog B 23 42 (fun s _ => s = (.int .i64 r)) [(1, (.ptr b1 0)), (3, (.bool v3)), (4, (.int .i64 v4))] [codeC Tryz.prog 23 [1, 1, 0, 1, 0, 0], loopC Tryz.prog 23 [1, 1, 0, 1, 0, 0], .inBlock 0, codeC Tryz.prog 23 [1, 1, 1]] M) : ∀ (v4 : Int) (v34 : Bool) (c1_0 : (List S_api_Tap)) (c1_1 : Int) (c7_0 : Int) (c7_1 : Int) (sc1_0 : SV) (b1 : Pos) (b7 : Pos) (r : Int) (M : Mem) (hc1_0 : Slc (ro M) 2 (FlatR enc61) sc1_0 c1_0) (ho1 : Own M b1 52 .whole [sc1_0, (.int .i64 c1_1)]) (ho7 : Own M b7 61 .whole [(.int .i64 c7_0), (.int .i64 c7_1)]) (l1_7 : b1.num < b7.num), ref05_CheckModel_3 F hd2 v4 v34 c1_0 c1_1 c7_0 c7_1 = some r → Run Tryz.prog B 23 42 (fun s _ => s = (.int .i64 r)) [(1, (.ptr b1 0)), (4, (.int .i64 v4)), (5, (.ptr b7 0)), (34, (.bool v34))] [itemC Tryz.prog 23 [1, 1, 0, 1, 0, 0, 1, 0, 0, 1] 8, .inBlock 1, codeC Tryz.prog 23 [1, 1, 0, 1, 0, 0, 1, 1], loopC Tryz.prog 23 [1, 1, 0, 1, 0, 0], .inBlock 0, codeC Tryz.prog 23 [1, 1, 1]] M := by
  intro v4 v34 c1_0 c1_1 c7_0 c7_1 sc1_0 b1 b7 r M hc1_0 ho1 ho7 l1_7 h
  rw [ref05_CheckModel_3] at h
  refine Run.opG wantS_none (ex_move rfl) rfl ?_
  rcases btf (v34) with hc11 | hc11
  · have h := bif_t hc11 h
    refine Run.opG (wantS_yes' rfl rfl hc11) (ex_fieldAddr rfl off61_1) rfl ?_
    refine Run.opG (wantS_yes' rfl rfl hc11) (ex_load1 rfl (ho7.at 1 rfl) rdLe_rfl agg3) rfl ?_
    refine Run.opG (wantS_yes' rfl rfl hc11) (ex_leq rfl rfl) rfl ?_
    refine Run.opG wantS_none (ex_pickT' rfl hc11 rfl rfl) rfl ?_
    exact Run.pick [1, 4, 39] (ref05_CheckModel_4_ok F hd2 hhd2 v4 (decide (c7_1 ≤ (1048576 : Int))) c1_0 c1_1 sc1_0 b1 _ _ hc1_0 ho1 h)
  · have h := bif_f hc11 h
    refine Run.no (wantS_not' rfl rfl hc11) rfl ?_
    refine Run.no (wantS_not' rfl rfl hc11) rfl ?_
    refine Run.no (wantS_not' rfl rfl hc11) rfl ?_
    refine Run.opG wantS_none (ex_pickF' rfl hc11 rfl rfl) rfl ?_
    exact Run.pick [1, 4, 39] (ref05_CheckModel_4_ok F hd2 hhd2 v4 false c1_0 c1_1 sc1_0 b1 _ _ hc1_0 ho1 h)

def ref05_CheckModel_2 (F : Nat) : Nat → Bool → Int → (List S_api_Tap) → Int → Option (Int)
  | 0, _, _, _, _ => none
  | N + 1, v3, v4, c1_0, c1_1 =>
    bif (decide (v4 < (c1_0.length : Int))) then
      bnd (idx c1_0 v4) fun x6 =>
      bif v3 then
        bnd (ref00_In F x6.Low (-1048576) x6.High) fun r10 =>
        ref05_CheckModel_3 F (ref05_CheckModel_2 F N) v4 r10 c1_0 c1_1 x6.Low x6.High
      else
        ref05_CheckModel_3 F (ref05_CheckModel_2 F N) v4 false c1_0 c1_1 x6.Low x6.High
    else
      bif (!v3) then
        some 53
      else
        some 0

theorem ref05_CheckModel_2_ok (F : Nat) {B : Nat} : ∀ (N : Nat), ∀ (v3 : Bool) (v4 : Int) (c1_0 : (List S_api_Tap)) (c1_1 : Int) (sc1_0 : SV) (b1 : Pos) (r : Int) (M : Mem) (hc1_0 : Slc (ro M) 2 (FlatR enc61) sc1_0 c1_0) (ho1 : Own M b1 52 .whole [sc1_0, (.int .i64 c1_1)]), ref05_CheckModel_2 F N v3 v4 c1_0 c1_1 = some r → Run Tryz.prog B 23 42 (fun s _ => s = (.int .i64 r)) [(1, (.ptr b1 0)), (3, (.bool v3)), (4, (.int .i64 v4))] [codeC Tryz.prog 23 [1, 1, 0, 1, 0, 0], loopC Tryz.prog 23 [1, 1, 0, 1, 0, 0], .inBlock 0, codeC Tryz.prog 23 [1, 1, 1]] M := by
  intro N
  induction N with
  | zero =>
    intro v3 v4 c1_0 c1_1 sc1_0 b1 r M hc1_0 ho1 h
    simp [ref05_CheckModel_2] at h
  | succ N ih =>
    intro v3 v4 c1_0 c1_1 sc1_0 b1 r M hc1_0 ho1 h
    rw [ref05_CheckModel_2] at h
    refine Run.seq (Run.seq (Run.region ?_))
    refine Run.opG wantS_none (ex_move rfl) rfl ?_
    refine Run.opG wantS_none (ex_fieldAddr rfl off52_0) rfl ?_
    refine Run.opG wantS_none (ex_load1 rfl (ho1.at 0 rfl) rdLe_rfl agg50) rfl ?_
    refine Run.opG wantS_none (ex_len' rfl hc1_0 lenk50) rfl ?_
    refine Run.opG wantS_none (ex_lss rfl rfl) rfl ?_
    refine Run.opsEnd ?_
    rcases btf ((decide (v4 < (c1_0.length : Int)))) with hc5 | hc5
    · have h := bif_t hc5 h
      refine Run.condT' rfl hc5 ?_
      refine Run.skip (Run.seq (Run.block (Run.seq (Run.region ?_))))
      refine Run.opG wantS_none (ex_fieldAddr rfl off52_0) rfl ?_
      refine Run.opG wantS_none (ex_load1 rfl (ho1.at 0 rfl) rdLe_rfl agg50) rfl ?_
      refine Run.opG wantS_none (ex_move rfl) rfl ?_
      obtain ⟨x6, hx6, h⟩ := bnd_some h
      refine Run.el wantS_none rfl rfl hc1_0 hx6 els50 rfl ?_
      rintro p6 o6 _ hp6 rfl
      refine Run.opG wantS_none (ex_loadA rfl hp6 (rdLe_roRow _) agg61 rfl rfl rfl) rfl ?_
      refine Run.new (v := fun b => .ptr b 0) wantS_none (ex_alloc zer61) rfl ?_
      intro b7 M7 (ho7 : Own M7 b7 61 .whole [(.int .i64 0), (.int .i64 0)]) hM7 hb7
      have l1_7 := Nat.lt_of_lt_of_le ho1.lt hb7
      replace hc1_0 := slc_ro hc1_0 hM7.toRo
      replace ho1 := hM7.own _ _ _ _ ho1
      refine Run.store (c' := [(.int .i64 x6.Low), (.int .i64 x6.High)]) wantS_none rfl rfl ho7 sz61 rfl rfl (Nat.le_of_ble_eq_true rfl) rfl rfl ?_
      intro M8 ho8 hM8 hO8
      replace hc1_0 := slc_ro hc1_0 hM8
      replace ho1 := hO8 _ _ _ _ (pos_ne l1_7) ho1
      refine Run.opsEnd (Run.region ?_)
      refine Run.opG wantS_none (ex_move rfl) rfl ?_
      refine Run.opG wantS_none (ex_move rfl) rfl ?_
      rcases btf (v3) with hc9 | hc9
      · have h := bif_t hc9 h
        refine Run.opG (wantS_yes' rfl rfl hc9) (ex_fieldAddr rfl off61_0) rfl ?_
        refine Run.opG (wantS_yes' rfl rfl hc9) (ex_load1 rfl (ho8.at 0 rfl) rdLe_rfl agg3) rfl ?_
        refine Run.opG (wantS_yes' rfl rfl hc9) (ex_fieldAddr rfl off61_1) rfl ?_
        refine Run.opG (wantS_yes' rfl rfl hc9) (ex_load1 rfl (ho8.at 1 rfl) rdLe_rfl agg3) rfl ?_
        obtain ⟨r10, hr10, h⟩ := bnd_some h
        refine Run.callP (wantS_yes' rfl rfl hc9) (ex_call rfl mkk51 cal51) rfl (ref00_In_ok F x6.Low (-1048576) x6.High _ _ hr10) ?_
        refine Run.opG wantS_none (ex_pickT' rfl hc9 rfl rfl) rfl ?_
        exact Run.pick [1, 4, 5, 34] (ref05_CheckModel_3_ok F (ref05_CheckModel_2 F N) ih v4 r10 c1_0 c1_1 x6.Low x6.High sc1_0 b1 b7 _ _ hc1_0 ho1 ho8 l1_7 h)
      · have h := bif_f hc9 h
        refine Run.no (wantS_not' rfl rfl hc9) rfl ?_
        refine Run.no (wantS_not' rfl rfl hc9) rfl ?_
        refine Run.no (wantS_not' rfl rfl hc9) rfl ?_
        refine Run.no (wantS_not' rfl rfl hc9) rfl ?_
        refine Run.no (wantS_not' rfl rfl hc9) rfl ?_
        refine Run.opG wantS_none (ex_pickF' rfl hc9 rfl rfl) rfl ?_
        exact Run.pick [1, 4, 5, 34] (ref05_CheckModel_3_ok F (ref05_CheckModel_2 F N) ih v4 false c1_0 c1_1 x6.Low x6.High sc1_0 b1 b7 _ _ hc1_0 ho1 ho8 l1_7 h)
    · have h := bif_f hc5 h
      refine Run.condF' rfl hc5 ?_
      refine Run.exit rfl (Run.seq (Run.seq (Run.region ?_)))
      refine Run.opG wantS_none (ex_move rfl) rfl ?_
      refine Run.opG wantS_none (ex_not rfl) rfl ?_
      refine Run.opsEnd ?_
      rcases btf ((!v3)) with hc12 | hc12
      · have h := bif_t hc12 h
        refine Run.condT' rfl hc12 ?_
        refine Run.seq (Run.region ?_)
        refine Run.opG wantS_none (ex_assign rfl) rfl ?_
        refine Run.opsEnd ?_
        cases h
        exact Run.ret Tryz.func23 (res_tmp rfl res_nil) rfl
      · have h := bif_f hc12 h
        refine Run.condF' rfl hc12 ?_
        refine Run.skip (Run.seq (Run.region ?_))
        refine Run.opG wantS_none (ex_assign rfl) rfl ?_
        refine Run.opsEnd ?_
        cases h
        exact Run.ret Tryz.func23 (res_tmp rfl res_nil) rfl

def ref05_CheckModel_1 (F : Nat) (v14 : Bool) (c1_0 : (List S_api_Tap)) (c1_1 : Int) : Option (Int) :=
  ref05_CheckModel_2 F F v14 0 c1_0 c1_1

theorem ref05_CheckModel_1_ok (F : Nat) {B : Nat} : ∀ (v14 : Bool) (c1_0 : (List S_api_Tap)) (c1_1 : Int) (sc1_0 : SV) (b1 : Pos) (r : Int) (M : Mem) (hc1_0 : Slc (ro M) 2 (FlatR enc61) sc1_0 c1_0) (ho1 : Own M b1 52 .whole [sc1_0, (.int .i64 c1_1)]), ref05_CheckModel_1 F v14 c1_0 c1_1 = some r → Run Tryz.prog B 23 42 (fun s _ => s = (.int .i64 r)) [(1, (.ptr b1 0)), (14, (.bool v14))] [itemC Tryz.prog 23 [1, 0] 9, codeC Tryz.prog 23 [1, 1]] M := by
  intro v14 c1_0 c1_1 sc1_0 b1 r M hc1_0 ho1 h
  rw [ref05_CheckModel_1] at h
  refine Run.opG wantS_none (ex_assign rfl) rfl ?_
  refine Run.opsEnd (Run.seq (Run.seq (Run.region ?_)))
  refine Run.opG wantS_none (ex_assign rfl) rfl ?_
  refine Run.opsEnd (Run.block (Run.loop ?_))
  exact Run.pick [1, 3, 4] (ref05_CheckModel_2_ok F F v14 0 c1_0 c1_1 sc1_0 b1 _ _ hc1_0 ho1 h)

def ref05_CheckModel (F : Nat) (a0 : S_api_Model) : Option (Int) :=
  bnd (ref00_In F (a0.Taps.length : Int) 1 16) fun r2 =>
  bif r2 then
    bnd (ref00_In F a0.Shift 0 20) fun r4 =>
    ref05_CheckModel_1 F r4 a0.Taps a0.Shift
  else
    ref05_CheckModel_1 F false a0.Taps a0.Shift

theorem ref05_CheckModel_ok (F : Nat) (a0 : S_api_Model) (s0 : SV) (r : Int) (M : Mem) (hs0 : Slc (rd M) 2 (FlatR enc61) s0 a0.Taps) (h : ref05_CheckModel F a0 = some r) : CallsP Tryz.prog 23 [(.agg [s0, (.int .i64 a0.Shift)])] M (.int .i64 r) := by
  refine CallsP.of_run Tryz.func23 rfl rfl rfl fun B => ?_
  rw [ref05_CheckModel] at h
  replace hs0 := slc_in hs0
  refine Run.seq (Run.region ?_)
  refine Run.new (v := fun b => .ptr b 0) wantS_none (ex_box rfl) rfl ?_
  intro b1 M1 (ho1 : Own M1 b1 52 .whole [s0, (.int .i64 a0.Shift)]) hM1 hb1
  replace hs0 := slc_ro hs0 hM1.toRo
  refine Run.opG wantS_none (ex_assign rfl) rfl ?_
  refine Run.opsEnd (Run.seq (Run.region ?_))
  refine Run.opG wantS_none (ex_fieldAddr rfl off52_0) rfl ?_
  refine Run.opG wantS_none (ex_load1 rfl (ho1.at 0 rfl) rdLe_rfl agg50) rfl ?_
  refine Run.opG wantS_none (ex_len' rfl hs0 lenk50) rfl ?_
  obtain ⟨r2, hr2, h⟩ := bnd_some h
  refine Run.callP wantS_none (ex_call rfl mkk51 cal51) rfl (ref00_In_ok F (a0.Taps.length : Int) 1 16 _ _ hr2) ?_
  refine Run.opG wantS_none (ex_move rfl) rfl ?_
  rcases btf (r2) with hc3 | hc3
  · have h := bif_t hc3 h
    refine Run.opG (wantS_yes' rfl rfl hc3) (ex_fieldAddr rfl off52_1) rfl ?_
    refine Run.opG (wantS_yes' rfl rfl hc3) (ex_load1 rfl (ho1.at 1 rfl) rdLe_rfl agg3) rfl ?_
    obtain ⟨r4, hr4, h⟩ := bnd_some h
    refine Run.callP (wantS_yes' rfl rfl hc3) (ex_call rfl mkk51 cal51) rfl (ref00_In_ok F a0.Shift 0 20 _ _ hr4) ?_
    refine Run.opG wantS_none (ex_pickT' rfl hc3 rfl rfl) rfl ?_
    exact Run.pick [1, 14] (ref05_CheckModel_1_ok F r4 a0.Taps a0.Shift s0 b1 _ _ hs0 ho1 h)
  · have h := bif_f hc3 h
    refine Run.no (wantS_not' rfl rfl hc3) rfl ?_
    refine Run.no (wantS_not' rfl rfl hc3) rfl ?_
    refine Run.no (wantS_not' rfl rfl hc3) rfl ?_
    refine Run.opG wantS_none (ex_pickF' rfl hc3 rfl rfl) rfl ?_
    exact Run.pick [1, 14] (ref05_CheckModel_1_ok F false a0.Taps a0.Shift s0 b1 _ _ hs0 ho1 h)

def ref05_CheckSeries_2 (F : Nat) (hd1 : (List Int) → Bool → Int → Option (Int)) (v0 : (List Int)) (v4 : Int) (v21 : Bool) : Option (Int) :=
  hd1 v0 v21 (w64 (v4 + (1 : Int)))

theorem ref05_CheckSeries_2_ok (F : Nat) {B : Nat} (hd1 : (List Int) → Bool → Int → Option (Int)) (hhd1 : ∀ (v0 : (List Int)) (v3 : Bool) (v4 : Int) (sv0 : SV) (r : Int) (M : Mem) (hv0 : Slc (ro M) 1 (FlatR enc3) sv0 v0), hd1 v0 v3 v4 = some r → Run Tryz.prog B 25 24 (fun s _ => s = (.int .i64 r)) [(0, sv0), (3, (.bool v3)), (4, (.int .i64 v4))] [codeC Tryz.prog 25 [1, 1, 0, 1, 0, 0], loopC Tryz.prog 25 [1, 1, 0, 1, 0, 0], .inBlock 0, codeC Tryz.prog 25 [1, 1, 1]] M) : ∀ (v0 : (List Int)) (v4 : Int) (v21 : Bool) (sv0 : SV) (r : Int) (M : Mem) (hv0 : Slc (ro M) 1 (FlatR enc3) sv0 v0), ref05_CheckSeries_2 F hd1 v0 v4 v21 = some r → Run Tryz.prog B 25 24 (fun s _ => s = (.int .i64 r)) [(0, sv0), (4, (.int .i64 v4)), (21, (.bool v21))] [itemC Tryz.prog 25 [1, 1, 0, 1, 0, 0, 1, 0, 0] 8, .inBlock 1, codeC Tryz.prog 25 [1, 1, 0, 1, 0, 0, 1, 1], loopC Tryz.prog 25 [1, 1, 0, 1, 0, 0], .inBlock 0, codeC Tryz.prog 25 [1, 1, 1]] M := by
  intro v0 v4 v21 sv0 r M hv0 h
  rw [ref05_CheckSeries_2] at h
  refine Run.opG wantS_none (ex_assign rfl) rfl ?_
  refine Run.opsEnd (Run.inBlock (Run.region ?_))
  refine Run.opG wantS_none (ex_move rfl) rfl ?_
  refine Run.opG wantS_none (ex_add rfl rfl) rfl ?_
  refine Run.opG wantS_none (ex_assign rfl) rfl ?_
  refine Run.opsEnd (Run.inLoop ?_)
  exact Run.pick [0, 3, 4] (hhd1 v0 v21 (w64 (v4 + (1 : Int))) sv0 _ _ hv0 h)

def ref05_CheckSeries_1 (F : Nat) : Nat → (List Int) → Bool → Int → Option (Int)
  | 0, _, _, _ => none
  | N + 1, v0, v3, v4 =>
    bif (decide (v4 < (v0.length : Int))) then
      bif v3 then
        bnd (idx v0 v4) fun x3 =>
        bnd (ref00_In F x3 (-8388608) 8388608) fun r4 =>
        ref05_CheckSeries_2 F (ref05_CheckSeries_1 F N) v0 v4 r4
      else
        ref05_CheckSeries_2 F (ref05_CheckSeries_1 F N) v0 v4 false
    else
      bif (!v3) then
        some 55
      else
        some 0

theorem ref05_CheckSeries_1_ok (F : Nat) {B : Nat} : ∀ (N : Nat), ∀ (v0 : (List Int)) (v3 : Bool) (v4 : Int) (sv0 : SV) (r : Int) (M : Mem) (hv0 : Slc (ro M) 1 (FlatR enc3) sv0 v0), ref05_CheckSeries_1 F N v0 v3 v4 = some r → Run Tryz.prog B 25 24 (fun s _ => s = (.int .i64 r)) [(0, sv0), (3, (.bool v3)), (4, (.int .i64 v4))] [codeC Tryz.prog 25 [1, 1, 0, 1, 0, 0], loopC Tryz.prog 25 [1, 1, 0, 1, 0, 0], .inBlock 0, codeC Tryz.prog 25 [1, 1, 1]] M := by
  intro N
  induction N with
  | zero =>
    intro v0 v3 v4 sv0 r M hv0 h
    simp [ref05_CheckSeries_1] at h
  | succ N ih =>
    intro v0 v3 v4 sv0 r M hv0 h
    rw [ref05_CheckSeries_1] at h
    refine Run.seq (Run.seq (Run.region ?_))
    refine Run.opG wantS_none (ex_move rfl) rfl ?_
    refine Run.opG wantS_none (ex_move rfl) rfl ?_
    refine Run.opG wantS_none (ex_len' rfl hv0 lenk24) rfl ?_
    refine Run.opG wantS_none (ex_lss rfl rfl) rfl ?_
    refine Run.opsEnd ?_
    rcases btf ((decide (v4 < (v0.length : Int)))) with hc1 | hc1
    · have h := bif_t hc1 h
      refine Run.condT' rfl hc1 ?_
      refine Run.skip (Run.seq (Run.block (Run.region ?_)))
      refine Run.opG wantS_none (ex_move rfl) rfl ?_
      refine Run.opG wantS_none (ex_move rfl) rfl ?_
      rcases btf (v3) with hc2 | hc2
      · have h := bif_t hc2 h
        refine Run.opG (wantS_yes' rfl rfl hc2) (ex_move rfl) rfl ?_
        refine Run.opG (wantS_yes' rfl rfl hc2) (ex_move rfl) rfl ?_
        obtain ⟨x3, hx3, h⟩ := bnd_some h
        refine Run.el (wantS_yes' rfl rfl hc2) rfl rfl hv0 hx3 els24 rfl ?_
        rintro p3 o3 _ hp3 rfl
        refine Run.opG (wantS_yes' rfl rfl hc2) (ex_load1 rfl hp3 (rdLe_roRow _) agg3) rfl ?_
        obtain ⟨r4, hr4, h⟩ := bnd_some h
        refine Run.callP (wantS_yes' rfl rfl hc2) (ex_call rfl mkk51 cal51) rfl (ref00_In_ok F x3 (-8388608) 8388608 _ _ hr4) ?_
        refine Run.opG wantS_none (ex_pickT' rfl hc2 rfl rfl) rfl ?_
        exact Run.pick [0, 4, 21] (ref05_CheckSeries_2_ok F (ref05_CheckSeries_1 F N) ih v0 v4 r4 sv0 _ _ hv0 h)
      · have h := bif_f hc2 h
        refine Run.no (wantS_not' rfl rfl hc2) rfl ?_
        refine Run.no (wantS_not' rfl rfl hc2) rfl ?_
        refine Run.no (wantS_not' rfl rfl hc2) rfl ?_
        refine Run.no (wantS_not' rfl rfl hc2) rfl ?_
        refine Run.no (wantS_not' rfl rfl hc2) rfl ?_
        refine Run.opG wantS_none (ex_pickF' rfl hc2 rfl rfl) rfl ?_
        exact Run.pick [0, 4, 21] (ref05_CheckSeries_2_ok F (ref05_CheckSeries_1 F N) ih v0 v4 false sv0 _ _ hv0 h)
    · have h := bif_f hc1 h
      refine Run.condF' rfl hc1 ?_
      refine Run.exit rfl (Run.seq (Run.seq (Run.region ?_)))
      refine Run.opG wantS_none (ex_move rfl) rfl ?_
      refine Run.opG wantS_none (ex_not rfl) rfl ?_
      refine Run.opsEnd ?_
      rcases btf ((!v3)) with hc5 | hc5
      · have h := bif_t hc5 h
        refine Run.condT' rfl hc5 ?_
        refine Run.seq (Run.region ?_)
        refine Run.opG wantS_none (ex_assign rfl) rfl ?_
        refine Run.opsEnd ?_
        cases h
        exact Run.ret Tryz.func25 (res_tmp rfl res_nil) rfl
      · have h := bif_f hc5 h
        refine Run.condF' rfl hc5 ?_
        refine Run.skip (Run.seq (Run.region ?_))
        refine Run.opG wantS_none (ex_assign rfl) rfl ?_
        refine Run.opsEnd ?_
        cases h
        exact Run.ret Tryz.func25 (res_tmp rfl res_nil) rfl

def ref05_CheckSeries (F : Nat) (a0 : (List Int)) : Option (Int) :=
  ref05_CheckSeries_1 F F a0 (decide ((a0.length : Int) ≤ (4096 : Int))) 0

theorem ref05_CheckSeries_ok (F : Nat) (a0 : (List Int)) (s0 : SV) (r : Int) (M : Mem) (hs0 : Slc (rd M) 1 (FlatR enc3) s0 a0) (h : ref05_CheckSeries F a0 = some r) : CallsP Tryz.prog 25 [s0] M (.int .i64 r) := by
  refine CallsP.of_run Tryz.func25 rfl rfl rfl fun B => ?_
  rw [ref05_CheckSeries] at h
  replace hs0 := slc_in hs0
  refine Run.seq (Run.region ?_)
  refine Run.opG wantS_none (ex_assign rfl) rfl ?_
  refine Run.opsEnd (Run.seq (Run.region ?_))
  refine Run.opG wantS_none (ex_move rfl) rfl ?_
  refine Run.opG wantS_none (ex_len' rfl hs0 lenk24) rfl ?_
  refine Run.opG wantS_none (ex_leq rfl rfl) rfl ?_
  refine Run.opG wantS_none (ex_assign rfl) rfl ?_
  refine Run.opsEnd (Run.seq (Run.seq (Run.region ?_)))
  refine Run.opG wantS_none (ex_assign rfl) rfl ?_
  refine Run.opsEnd (Run.block (Run.loop ?_))
  exact Run.pick [0, 3, 4] (ref05_CheckSeries_1_ok F F a0 (decide ((a0.length : Int) ≤ (4096 : Int))) 0 s0 _ _ hs0 h)

def ref00_Down_1 (F : Nat) (v5 : Int) : Option (Int) :=
  some v5

theorem ref00_Down_1_ok (F : Nat) {B : Nat} : ∀ (v5 : Int) (r : Int) (M : Mem), ref00_Down_1 F v5 = some r → Run Tryz.prog B 28 16 (fun s _ => s = (.int .i64 r)) [(5, (.int .i64 v5))] [itemC Tryz.prog 28 [1, 1, 1, 0] 0, codeC Tryz.prog 28 [1, 1, 1, 1]] M := by
  intro v5 r M h
  rw [ref00_Down_1] at h
  refine Run.opG wantS_none (ex_move rfl) rfl ?_
  refine Run.opG wantS_none (ex_assign rfl) rfl ?_
  refine Run.opsEnd ?_
  cases h
  exact Run.ret Tryz.func28 (res_tmp rfl res_nil) rfl

def ref00_Down (F : Nat) (a0 : Int) (a1 : Int) : Option (Int) :=
  bnd (nz a1) fun z1 =>
  bnd (nz a1) fun z2 =>
  bif (decide ((Int.tmod a0 a1) < (0 : Int))) then
    ref00_Down_1 F (w64 ((w64 (Int.tdiv a0 a1)) - (1 : Int)))
  else
    ref00_Down_1 F (w64 (Int.tdiv a0 a1))

theorem ref00_Down_ok (F : Nat) (a0 : Int) (a1 : Int) (r : Int) (M : Mem) (h : ref00_Down F a0 a1 = some r) : CallsP Tryz.prog 28 [(.int .i64 a0), (.int .i64 a1)] M (.int .i64 r) := by
  refine CallsP.of_run Tryz.func28 rfl rfl rfl fun B => ?_
  rw [ref00_Down] at h
  refine Run.seq (Run.region ?_)
  refine Run.opG wantS_none (ex_assign rfl) rfl ?_
  refine Run.opsEnd (Run.seq (Run.region ?_))
  refine Run.opG wantS_none (ex_move rfl) rfl ?_
  refine Run.opG wantS_none (ex_move rfl) rfl ?_
  obtain ⟨z1, hz1, h⟩ := bnd_some h
  refine Run.opG wantS_none (ex_quo' rfl rfl hz1) rfl ?_
  refine Run.opG wantS_none (ex_assign rfl) rfl ?_
  refine Run.opsEnd (Run.seq (Run.seq (Run.region ?_)))
  refine Run.opG wantS_none (ex_move rfl) rfl ?_
  refine Run.opG wantS_none (ex_move rfl) rfl ?_
  obtain ⟨z2, hz2, h⟩ := bnd_some h
  refine Run.opG wantS_none (ex_rem' rfl rfl hz2) rfl ?_
  refine Run.opG wantS_none (ex_lss rfl rfl) rfl ?_
  refine Run.opsEnd ?_
  rcases btf ((decide ((Int.tmod a0 a1) < (0 : Int)))) with hc3 | hc3
  · have h := bif_t hc3 h
    refine Run.condT' rfl hc3 ?_
    refine Run.region ?_
    refine Run.opG wantS_none (ex_move rfl) rfl ?_
    refine Run.opG wantS_none (ex_sub rfl rfl) rfl ?_
    refine Run.opG wantS_none (ex_assign rfl) rfl ?_
    refine Run.opsEnd (Run.seq (Run.region ?_))
    exact Run.pick [5] (ref00_Down_1_ok F (w64 ((w64 (Int.tdiv a0 a1)) - (1 : Int))) _ _ h)
  · have h := bif_f hc3 h
    refine Run.condF' rfl hc3 ?_
    refine Run.skip (Run.seq (Run.region ?_))
    exact Run.pick [5] (ref00_Down_1_ok F (w64 (Int.tdiv a0 a1)) _ _ h)

theorem mkk28 : makeK Tryz.prog 28 = none := by kernel_rfl
theorem cal28 : callable Tryz.prog 28 = true := by kernel_rfl
def ref00_Up (F : Nat) (a0 : Int) (a1 : Int) : Option (Int) :=
  bnd (ref00_Down F (w64 (-a0)) a1) fun r1 =>
  some (w64 (-r1))

theorem ref00_Up_ok (F : Nat) (a0 : Int) (a1 : Int) (r : Int) (M : Mem) (h : ref00_Up F a0 a1 = some r) : CallsP Tryz.prog 29 [(.int .i64 a0), (.int .i64 a1)] M (.int .i64 r) := by
  refine CallsP.of_run Tryz.func29 rfl rfl rfl fun B => ?_
  rw [ref00_Up] at h
  refine Run.seq (Run.region ?_)
  refine Run.opG wantS_none (ex_assign rfl) rfl ?_
  refine Run.opsEnd (Run.seq (Run.region ?_))
  refine Run.opG wantS_none (ex_move rfl) rfl ?_
  refine Run.opG wantS_none (ex_neg rfl) rfl ?_
  refine Run.opG wantS_none (ex_move rfl) rfl ?_
  obtain ⟨r1, hr1, h⟩ := bnd_some h
  refine Run.callP wantS_none (ex_call rfl mkk28 cal28) rfl (ref00_Down_ok F (w64 (-a0)) a1 _ _ hr1) ?_
  refine Run.opG wantS_none (ex_neg rfl) rfl ?_
  refine Run.opG wantS_none (ex_assign rfl) rfl ?_
  refine Run.opsEnd ?_
  cases h
  exact Run.ret Tryz.func29 (res_tmp rfl res_nil) rfl

theorem mkk23 : makeK Tryz.prog 23 = none := by kernel_rfl
theorem cal23 : callable Tryz.prog 23 = true := by kernel_rfl
theorem mkk25 : makeK Tryz.prog 25 = none := by kernel_rfl
theorem cal25 : callable Tryz.prog 25 = true := by kernel_rfl
theorem plan21_1_1_1_1_0_1_0_0_1_0_0_1_0_1_0_0_1_0_0_0 : planOf Tryz.prog (opsC (atC Tryz.prog 21 [1, 1, 1, 1, 0, 1, 0, 0, 1, 0, 0, 1, 0, 1, 0, 0, 1, 0, 0, 0])) = some [.fl 0, .fl 1, .fl 2, .fl 3, .fl 4, .fl 5, .fl 6, .fl 7, .fl 8, .fl 9, .fl 10, .fl 11, .fl 12, .fl 13, .fl 14, .fl 15, .fl 16, .fl 17, .fl 18, .fl 19, .fl 20, .fl 21, .fl 22, .fl 23, .fl 24, .fl 25, .fl 26, .fl 27, .sync] := by kernel_rfl
theorem plan21_1_1_1_1_0_1_0_0_1_0_0_1_1 : planOf Tryz.prog (opsC (atC Tryz.prog 21 [1, 1, 1, 1, 0, 1, 0, 0, 1, 0, 0, 1, 1])) = some [.fl 0, .fl 1, .fl 2, .fl 3, .fl 4, .fl 6, .fl 7, .fl 8, .fl 9, .an 5 [9, 8, 7, 6, 0], .an 10 [0], .fl 11, .an 12 [0], .an 13 [], .an 14 [], .sync] := by kernel_rfl
theorem mkk29 : makeK Tryz.prog 29 = none := by kernel_rfl
theorem cal29 : callable Tryz.prog 29 = true := by kernel_rfl
theorem appt53_53 : appT Tryz.prog 53 53 = some (⟨2, 16, [(.int .i64 0), (.int .i64 0)], 63⟩ : Elt) := by kernel_rfl
def ref05_Strain_3 (F : Nat) (hd1 : (List Int) → (List S_api_Tap) → Int → (List S_api_Tap) → Int → Option ((List S_api_Tap) × Int)) (hd2 : (List Int) → (List S_api_Tap) → Int → Int → Int → Int → (List S_api_Tap) → Int → Option ((List S_api_Tap) × Int)) (v1 : (List Int)) (v8 : (List S_api_Tap)) (v9 : Int) (v10 : Int) (v11 : Int) (v12 : Int) (v40 : Bool) (c1_0 : (List S_api_Tap)) (c1_1 : Int) : Option ((List S_api_Tap) × Int) :=
  bif v40 then
    bnd (idx c1_0 v12) fun x9 =>
    bnd (idx v1 (w64 (v9 - v12))) fun x11 =>
    bnd (idx c1_0 v12) fun x12 =>
    bnd (idx v1 (w64 (v9 - v12))) fun x14 =>
    hd2 v1 v8 v9 (w64 (v10 + (min (w64 (x9.Low * x11)) (w64 (x12.High * x14))))) (w64 (v11 + (max (w64 (x9.Low * x11)) (w64 (x12.High * x14))))) (w64 (v12 + (1 : Int))) c1_0 c1_1
  else
    bnd (shn c1_1) fun j15 =>
    bnd (shn c1_1) fun j16 =>
    bnd (ref00_Down F v10 (w64 ((1 : Int) * 2 ^ (min j15 (IntKind.bits .i64))))) fun r17 =>
    bnd (ref00_Up F v11 (w64 ((1 : Int) * 2 ^ (min j16 (IntKind.bits .i64))))) fun r18 =>
    bnd (apd 16 v8 ([(S_api_Tap.mk r17 r18)] : List S_api_Tap)) fun l20 =>
    hd1 v1 l20 (w64 (v9 + (1 : Int))) c1_0 c1_1

theorem ref05_Strain_3_ok (F : Nat) {B : Nat} (hd1 : (List Int) → (List S_api_Tap) → Int → (List S_api_Tap) → Int → Option ((List S_api_Tap) × Int)) (hhd1 : ∀ (v1 : (List Int)) (v8 : (List S_api_Tap)) (v9 : Int) (c1_0 : (List S_api_Tap)) (c1_1 : Int) (sv1 : SV) (sv8 : SV) (sc1_0 : SV) (b1 : Pos) (r : (List S_api_Tap) × Int) (M : Mem) (hv1 : Slc (ro M) 1 (FlatR enc3) sv1 v1) (hv8 : App M [b1] 63 2 enc63 sv8 v8) (hc1_0 : Slc (ro M) 2 (FlatR enc61) sc1_0 c1_0) (ho1 : Own M b1 52 .whole [sc1_0, (.int .i64 c1_1)]), hd1 v1 v8 v9 c1_0 c1_1 = some r → Run Tryz.prog B 21 94 (fun s Me => ∃ q1, s = (.tuple [q1, (.int .i64 r.2)]) ∧ Slc (rn Me) 2 (FlatR enc63) q1 r.1) [(1, sv1), (2, (.ptr b1 0)), (8, sv8), (9, (.int .i64 v9))] [codeC Tryz.prog 21 [1, 1, 1, 1, 0, 1, 0, 0], loopC Tryz.prog 21 [1, 1, 1, 1, 0, 1, 0, 0], .inBlock 0, codeC Tryz.prog 21 [1, 1, 1, 1, 1]] M) (hd2 : (List Int) → (List S_api_Tap) → Int → Int → Int → Int → (List S_api_Tap) → Int → Option ((List S_api_Tap) × Int)) (hhd2 : ∀ (v1 : (List Int)) (v8 : (List S_api_Tap)) (v9 : Int) (v10 : Int) (v11 : Int) (v12 : Int) (c1_0 : (List S_api_Tap)) (c1_1 : Int) (sv1 : SV) (sv8 : SV) (sc1_0 : SV) (b1 : Pos) (r : (List S_api_Tap) × Int) (M : Mem) (hv1 : Slc (ro M) 1 (FlatR enc3) sv1 v1) (hv8 : App M [b1] 63 2 enc63 sv8 v8) (hc1_0 : Slc (ro M) 2 (FlatR enc61) sc1_0 c1_0) (ho1 : Own M b1 52 .whole [sc1_0, (.int .i64 c1_1)]), hd2 v1 v8 v9 v10 v11 v12 c1_0 c1_1 = some r → Run Tryz.prog B 21 94 (fun s Me => ∃ q1, s = (.tuple [q1, (.int .i64 r.2)]) ∧ Slc (rn Me) 2 (FlatR enc63) q1 r.1) [(1, sv1), (2, (.ptr b1 0)), (8, sv8), (9, (.int .i64 v9)), (10, (.int .i64 v10)), (11, (.int .i64 v11)), (12, (.int .i64 v12))] [codeC Tryz.prog 21 [1, 1, 1, 1, 0, 1, 0, 0, 1, 0, 0, 1, 0, 1, 0, 0], loopC Tryz.prog 21 [1, 1, 1, 1, 0, 1, 0, 0, 1, 0, 0, 1, 0, 1, 0, 0], .inBlock 2, codeC Tryz.prog 21 [1, 1, 1, 1, 0, 1, 0, 0, 1, 0, 0, 1, 1], .inBlock 1, codeC Tryz.prog 21 [1, 1, 1, 1, 0, 1, 0, 0, 1, 1], loopC Tryz.prog 21 [1, 1, 1, 1, 0, 1, 0, 0], .inBlock 0, codeC Tryz.prog 21 [1, 1, 1, 1, 1]] M) : ∀ (v1 : (List Int)) (v8 : (List S_api_Tap)) (v9 : Int) (v10 : Int) (v11 : Int) (v12 : Int) (v40 : Bool) (c1_0 : (List S_api_Tap)) (c1_1 : Int) (sv1 : SV) (sv8 : SV) (sc1_0 : SV) (b1 : Pos) (r : (List S_api_Tap) × Int) (M : Mem) (hv1 : Slc (ro M) 1 (FlatR enc3) sv1 v1) (hv8 : App M [b1] 63 2 enc63 sv8 v8) (hc1_0 : Slc (ro M) 2 (FlatR enc61) sc1_0 c1_0) (ho1 : Own M b1 52 .whole [sc1_0, (.int .i64 c1_1)]), ref05_Strain_3 F hd1 hd2 v1 v8 v9 v10 v11 v12 v40 c1_0 c1_1 = some r → Run Tryz.prog B 21 94 (fun s Me => ∃ q1, s = (.tuple [q1, (.int .i64 r.2)]) ∧ Slc (rn Me) 2 (FlatR enc63) q1 r.1) [(1, sv1), (2, (.ptr b1 0)), (8, sv8), (9, (.int .i64 v9)), (10, (.int .i64 v10)), (11, (.int .i64 v11)), (12, (.int .i64 v12)), (40, (.bool v40))] [codeC Tryz.prog 21 [1, 1, 1, 1, 0, 1, 0, 0, 1, 0, 0, 1, 0, 1, 0, 0, 0, 1], codeC Tryz.prog 21 [1, 1, 1, 1, 0, 1, 0, 0, 1, 0, 0, 1, 0, 1, 0, 0, 1], loopC Tryz.prog 21 [1, 1, 1, 1, 0, 1, 0, 0, 1, 0, 0, 1, 0, 1, 0, 0], .inBlock 2, codeC Tryz.prog 21 [1, 1, 1, 1, 0, 1, 0, 0, 1, 0, 0, 1, 1], .inBlock 1, codeC Tryz.prog 21 [1, 1, 1, 1, 0, 1, 0, 0, 1, 1], loopC Tryz.prog 21 [1, 1, 1, 1, 0, 1, 0, 0], .inBlock 0, codeC Tryz.prog 21 [1, 1, 1, 1, 1]] M := by
  intro v1 v8 v9 v10 v11 v12 v40 c1_0 c1_1 sv1 sv8 sc1_0 b1 r M hv1 hv8 hc1_0 ho1 h
  rw [ref05_Strain_3] at h
  rcases btf (v40) with hc8 | hc8
  · have h := bif_t hc8 h
    refine Run.condT' rfl hc8 ?_
    refine Run.skip (Run.seq (Run.block (Run.seq ?_)))
    obtain ⟨x9, hx9, h⟩ := bnd_some h
    obtain ⟨p9, o9, _, hx9_, hp9, rfl⟩ := xi_el (P := Tryz.prog) (M := M) (kk := .i64) hc1_0 hx9 els50
    obtain ⟨x11, hx11, h⟩ := bnd_some h
    obtain ⟨p11, o11, _, hx11_, hp11, rfl⟩ := xi_el (P := Tryz.prog) (M := M) (kk := .i64) hv1 hx11 els24
    obtain ⟨x12, hx12, h⟩ := bnd_some h
    obtain ⟨p12, o12, _, hx12_, hp12, rfl⟩ := xi_el (P := Tryz.prog) (M := M) (kk := .i64) hc1_0 hx12 els50
    obtain ⟨x14, hx14, h⟩ := bnd_some h
    obtain ⟨p14, o14, _, hx14_, hp14, rfl⟩ := xi_el (P := Tryz.prog) (M := M) (kk := .i64) hv1 hx14 els24
    refine Run.drawG (sound_nil _) plan21_1_1_1_1_0_1_0_0_1_0_0_1_0_1_0_0_1_0_0_0 ?_
    refine DrawG.fl rfl (ev_ex wantS_none (ex_fieldAddr rfl off52_0)) rfl rfl ?_
    refine DrawG.fl rfl (ev_ex wantS_none (ex_load1 rfl (ho1.at 0 rfl) rdLe_rfl agg50)) rfl rfl ?_
    refine DrawG.fl rfl (ev_ex wantS_none (ex_move rfl)) rfl rfl ?_
    refine DrawG.fl rfl (ev_ex wantS_none (ex_elS rfl rfl hx9_)) rfl rfl ?_
    have hp10 := (hp9.fld (o := 0) rfl)
    refine DrawG.fl rfl (ev_ex wantS_none (ex_fieldAddr rfl off61_0)) rfl rfl ?_
    refine DrawG.fl rfl (ev_ex wantS_none (ex_load1 rfl hp10 (rdLe_roRow _) agg3)) rfl rfl ?_
    refine DrawG.fl rfl (ev_ex wantS_none (ex_move rfl)) rfl rfl ?_
    refine DrawG.fl rfl (ev_ex wantS_none (ex_move rfl)) rfl rfl ?_
    refine DrawG.fl rfl (ev_ex wantS_none (ex_move rfl)) rfl rfl ?_
    refine DrawG.fl rfl (ev_ex wantS_none (ex_sub rfl rfl)) rfl rfl ?_
    refine DrawG.fl rfl (ev_ex wantS_none (ex_elS rfl rfl hx11_)) rfl rfl ?_
    refine DrawG.fl rfl (ev_ex wantS_none (ex_load1 rfl hp11 (rdLe_roRow _) agg3)) rfl rfl ?_
    refine DrawG.fl rfl (ev_ex wantS_none (ex_mul rfl rfl)) rfl rfl ?_
    refine DrawG.fl rfl (ev_ex wantS_none (ex_fieldAddr rfl off52_0)) rfl rfl ?_
    refine DrawG.fl rfl (ev_ex wantS_none (ex_load1 rfl (ho1.at 0 rfl) rdLe_rfl agg50)) rfl rfl ?_
    refine DrawG.fl rfl (ev_ex wantS_none (ex_move rfl)) rfl rfl ?_
    refine DrawG.fl rfl (ev_ex wantS_none (ex_elS rfl rfl hx12_)) rfl rfl ?_
    have hp13 := (hp12.fld (o := 1) rfl)
    refine DrawG.fl rfl (ev_ex wantS_none (ex_fieldAddr rfl off61_1)) rfl rfl ?_
    refine DrawG.fl rfl (ev_ex wantS_none (ex_load1 rfl hp13 (rdLe_roRow _) agg3)) rfl rfl ?_
    refine DrawG.fl rfl (ev_ex wantS_none (ex_move rfl)) rfl rfl ?_
    refine DrawG.fl rfl (ev_ex wantS_none (ex_move rfl)) rfl rfl ?_
    refine DrawG.fl rfl (ev_ex wantS_none (ex_move rfl)) rfl rfl ?_
    refine DrawG.fl rfl (ev_ex wantS_none (ex_sub rfl rfl)) rfl rfl ?_
    refine DrawG.fl rfl (ev_ex wantS_none (ex_elS rfl rfl hx14_)) rfl rfl ?_
    refine DrawG.fl rfl (ev_ex wantS_none (ex_load1 rfl hp14 (rdLe_roRow _) agg3)) rfl rfl ?_
    refine DrawG.fl rfl (ev_ex wantS_none (ex_mul rfl rfl)) rfl rfl ?_
    refine DrawG.fl rfl (ev_ex wantS_none (ex_assign rfl)) rfl rfl ?_
    refine DrawG.fl rfl (ev_ex wantS_none (ex_assign rfl)) rfl rfl ?_
    refine DrawG.sync ?_
    refine DrawG.nil ?_
    refine Run.region ?_
    refine Run.opG wantS_none (ex_move rfl) rfl ?_
    refine Run.opG wantS_none (ex_move rfl) rfl ?_
    refine Run.opG wantS_none (ex_move rfl) rfl ?_
    refine Run.opG wantS_none (ex_min rfl rfl) rfl ?_
    refine Run.opG wantS_none (ex_add rfl rfl) rfl ?_
    refine Run.opG wantS_none (ex_move rfl) rfl ?_
    refine Run.opG wantS_none (ex_move rfl) rfl ?_
    refine Run.opG wantS_none (ex_move rfl) rfl ?_
    refine Run.opG wantS_none (ex_max rfl rfl) rfl ?_
    refine Run.opG wantS_none (ex_add rfl rfl) rfl ?_
    refine Run.opG wantS_none (ex_assign rfl) rfl ?_
    refine Run.opG wantS_none (ex_assign rfl) rfl ?_
    refine Run.opsEnd (Run.inBlock (Run.region ?_))
    refine Run.opG wantS_none (ex_move rfl) rfl ?_
    refine Run.opG wantS_none (ex_add rfl rfl) rfl ?_
    refine Run.opG wantS_none (ex_assign rfl) rfl ?_
    refine Run.opsEnd (Run.inLoop ?_)
    exact Run.pick [1, 2, 8, 9, 10, 11, 12] (hhd2 v1 v8 v9 (w64 (v10 + (min (w64 (x9.Low * x11)) (w64 (x12.High * x14))))) (w64 (v11 + (max (w64 (x9.Low * x11)) (w64 (x12.High * x14))))) (w64 (v12 + (1 : Int))) c1_0 c1_1 sv1 sv8 sc1_0 b1 _ _ hv1 (hv8.less (by simp)) hc1_0 ho1 h)
  · have h := bif_f hc8 h
    refine Run.condF' rfl hc8 ?_
    refine Run.exit rfl ?_
    obtain ⟨j15, hj15, h⟩ := bnd_some h
    obtain ⟨j16, hj16, h⟩ := bnd_some h
    obtain ⟨r17, hr17, h⟩ := bnd_some h
    obtain ⟨r18, hr18, h⟩ := bnd_some h
    obtain ⟨l20, hl20, h⟩ := bnd_some h
    refine Run.drawG (sound_cons (M := M) (ref00_Down_ok F v10 (w64 ((1 : Int) * 2 ^ (min j15 (IntKind.bits .i64)))) _ _ hr17) (sound_cons (M := M) (ref00_Up_ok F v11 (w64 ((1 : Int) * 2 ^ (min j16 (IntKind.bits .i64)))) _ _ hr18) (sound_nil _))) plan21_1_1_1_1_0_1_0_0_1_0_0_1_1 ?_
    refine DrawG.fl rfl (ev_ex wantS_none (ex_move rfl)) rfl rfl ?_
    refine DrawG.fl rfl (ev_ex wantS_none (ex_move rfl)) rfl rfl ?_
    refine DrawG.fl rfl (ev_ex wantS_none (ex_fieldAddr rfl off52_1)) rfl rfl ?_
    refine DrawG.fl rfl (ev_ex wantS_none (ex_load1 rfl (ho1.at 1 rfl) rdLe_rfl agg3)) rfl rfl ?_
    refine DrawG.fl rfl (ev_ex wantS_none (ex_shl' rfl rfl hj15)) rfl rfl ?_
    refine DrawG.fl rfl (ev_ex wantS_none (ex_move rfl)) rfl rfl ?_
    refine DrawG.fl rfl (ev_ex wantS_none (ex_fieldAddr rfl off52_1)) rfl rfl ?_
    refine DrawG.fl rfl (ev_ex wantS_none (ex_load1 rfl (ho1.at 1 rfl) rdLe_rfl agg3)) rfl rfl ?_
    refine DrawG.fl rfl (ev_ex wantS_none (ex_shl' rfl rfl hj16)) rfl rfl ?_
    refine DrawG.call rfl wantS_none (ex_call rfl mkk28 cal28) (orK_left (oneK_same _ _ _ _)) rfl (st_cons rfl (ev_ex wantS_none (ex_shl' rfl rfl hj16)) rfl rfl rfl (st_cons rfl (ev_ex wantS_none (ex_load1 rfl (ho1.at 1 rfl) rdLe_rfl agg3)) rfl rfl rfl (st_cons rfl (ev_ex wantS_none (ex_fieldAddr rfl off52_1)) rfl rfl rfl (st_cons rfl (ev_ex wantS_none (ex_move rfl)) rfl rfl rfl (st_cons rfl (ev_ex wantS_none (ex_move rfl)) rfl rfl (app_self hv8) st_nil))))) ?_
    refine DrawG.call rfl wantS_none (ex_call rfl mkk29 cal29) (orK_right (oneK_other rfl _ _ _ _ _) (orK_left (oneK_same _ _ _ _))) rfl (st_cons rfl (ev_ex wantS_none (ex_move rfl)) rfl rfl (app_self hv8) st_nil) ?_
    refine DrawG.fl rfl (ev_ex wantS_none (ex_build (r := [(.int .i64 r17), (.int .i64 r18)]) rfl zer63 pls63 rfl)) rfl rfl ?_
    refine DrawG.new (v := fun b => .slice b 0 1 1) rfl wantS_none (ex_buildSlice rfl elt53 rfl rfl) rfl ?_
    intro b19 M19 (ho19 : Own M19 b19 63 (.head 0) (([(S_api_Tap.mk r17 r18)] : List S_api_Tap).flatMap enc63)) hM19 hb19
    have l1_19 := Nat.lt_of_lt_of_le ho1.lt hb19
    replace hv1 := slc_ro hv1 hM19.toRo
    replace hv8 := hv8.new hM19 hb19 ho19
    replace hc1_0 := slc_ro hc1_0 hM19.toRo
    replace ho1 := hM19.own _ _ _ _ ho1
    refine ⟨(st_cons rfl (ev_ex wantS_none (ex_move rfl)) rfl rfl (app_self hv8) st_nil), ?_⟩
    refine DrawG.append rfl wantS_none rfl rfl rfl hv8 enc63_len (by decide) enc63_ones appt53_53 rfl rfl (first_own ho19 enc63_len) hl20 ?_
    intro s20 M20 ha20 hM20 hO20
    replace hv1 := slc_ro hv1 hM20
    replace hc1_0 := slc_ro hc1_0 hM20
    replace ho1 := hO20 _ _ _ _ (by simp) ho1
    replace ho19 := hO20 _ _ _ _ (by simp) ho19
    refine ⟨st_nil, ?_⟩
    refine DrawG.val rfl wantS_none (ex_assign rfl) rfl st_nil ?_
    refine DrawG.sync ?_
    refine DrawG.nil ?_
    refine Run.inBlock (Run.region ?_)
    refine Run.opG wantS_none (ex_move rfl) rfl ?_
    refine Run.opG wantS_none (ex_add rfl rfl) rfl ?_
    refine Run.opG wantS_none (ex_assign rfl) rfl ?_
    refine Run.opsEnd (Run.inLoop ?_)
    exact Run.pick [1, 2, 8, 9] (hhd1 v1 l20 (w64 (v9 + (1 : Int))) c1_0 c1_1 sv1 s20 sc1_0 b1 _ _ hv1 (ha20.less (by simp)) hc1_0 ho1 h)

def ref05_Strain_2 (F : Nat) (hd1 : (List Int) → (List S_api_Tap) → Int → (List S_api_Tap) → Int → Option ((List S_api_Tap) × Int)) : Nat → (List Int) → (List S_api_Tap) → Int → Int → Int → Int → (List S_api_Tap) → Int → Option ((List S_api_Tap) × Int)
  | 0, _, _, _, _, _, _, _, _ => none
  | N + 1, v1, v8, v9, v10, v11, v12, c1_0, c1_1 =>
    bif (decide (v12 < (c1_0.length : Int))) then
      ref05_Strain_3 F hd1 (ref05_Strain_2 F hd1 N) v1 v8 v9 v10 v11 v12 (decide (v12 ≤ v9)) c1_0 c1_1
    else
      ref05_Strain_3 F hd1 (ref05_Strain_2 F hd1 N) v1 v8 v9 v10 v11 v12 false c1_0 c1_1

theorem ref05_Strain_2_ok (F : Nat) {B : Nat} (hd1 : (List Int) → (List S_api_Tap) → Int → (List S_api_Tap) → Int → Option ((List S_api_Tap) × Int)) (hhd1 : ∀ (v1 : (List Int)) (v8 : (List S_api_Tap)) (v9 : Int) (c1_0 : (List S_api_Tap)) (c1_1 : Int) (sv1 : SV) (sv8 : SV) (sc1_0 : SV) (b1 : Pos) (r : (List S_api_Tap) × Int) (M : Mem) (hv1 : Slc (ro M) 1 (FlatR enc3) sv1 v1) (hv8 : App M [b1] 63 2 enc63 sv8 v8) (hc1_0 : Slc (ro M) 2 (FlatR enc61) sc1_0 c1_0) (ho1 : Own M b1 52 .whole [sc1_0, (.int .i64 c1_1)]), hd1 v1 v8 v9 c1_0 c1_1 = some r → Run Tryz.prog B 21 94 (fun s Me => ∃ q1, s = (.tuple [q1, (.int .i64 r.2)]) ∧ Slc (rn Me) 2 (FlatR enc63) q1 r.1) [(1, sv1), (2, (.ptr b1 0)), (8, sv8), (9, (.int .i64 v9))] [codeC Tryz.prog 21 [1, 1, 1, 1, 0, 1, 0, 0], loopC Tryz.prog 21 [1, 1, 1, 1, 0, 1, 0, 0], .inBlock 0, codeC Tryz.prog 21 [1, 1, 1, 1, 1]] M) : ∀ (N : Nat), ∀ (v1 : (List Int)) (v8 : (List S_api_Tap)) (v9 : Int) (v10 : Int) (v11 : Int) (v12 : Int) (c1_0 : (List S_api_Tap)) (c1_1 : Int) (sv1 : SV) (sv8 : SV) (sc1_0 : SV) (b1 : Pos) (r : (List S_api_Tap) × Int) (M : Mem) (hv1 : Slc (ro M) 1 (FlatR enc3) sv1 v1) (hv8 : App M [b1] 63 2 enc63 sv8 v8) (hc1_0 : Slc (ro M) 2 (FlatR enc61) sc1_0 c1_0) (ho1 : Own M b1 52 .whole [sc1_0, (.int .i64 c1_1)]), ref05_Strain_2 F hd1 N v1 v8 v9 v10 v11 v12 c1_0 c1_1 = some r → Run Tryz.prog B 21 94 (fun s Me => ∃ q1, s = (.tuple [q1, (.int .i64 r.2)]) ∧ Slc (rn Me) 2 (FlatR enc63) q1 r.1) [(1, sv1), (2, (.ptr b1 0)), (8, sv8), (9, (.int .i64 v9)), (10, (.int .i64 v10)), (11, (.int .i64 v11)), (12, (.int .i64 v12))] [codeC Tryz.prog 21 [1, 1, 1, 1, 0, 1, 0, 0, 1, 0, 0, 1, 0, 1, 0, 0], loopC Tryz.prog 21 [1, 1, 1, 1, 0, 1, 0, 0, 1, 0, 0, 1, 0, 1, 0, 0], .inBlock 2, codeC Tryz.prog 21 [1, 1, 1, 1, 0, 1, 0, 0, 1, 0, 0, 1, 1], .inBlock 1, codeC Tryz.prog 21 [1, 1, 1, 1, 0, 1, 0, 0, 1, 1], loopC Tryz.prog 21 [1, 1, 1, 1, 0, 1, 0, 0], .inBlock 0, codeC Tryz.prog 21 [1, 1, 1, 1, 1]] M := by
  intro N
  induction N with
  | zero =>
    intro v1 v8 v9 v10 v11 v12 c1_0 c1_1 sv1 sv8 sc1_0 b1 r M hv1 hv8 hc1_0 ho1 h
    simp [ref05_Strain_2] at h
  | succ N ih =>
    intro v1 v8 v9 v10 v11 v12 c1_0 c1_1 sv1 sv8 sc1_0 b1 r M hv1 hv8 hc1_0 ho1 h
    rw [ref05_Strain_2] at h
    refine Run.seq (Run.seq (Run.region ?_))
    refine Run.opG wantS_none (ex_move rfl) rfl ?_
    refine Run.opG wantS_none (ex_fieldAddr rfl off52_0) rfl ?_
    refine Run.opG wantS_none (ex_load1 rfl (ho1.at 0 rfl) rdLe_rfl agg50) rfl ?_
    refine Run.opG wantS_none (ex_len' rfl hc1_0 lenk50) rfl ?_
    refine Run.opG wantS_none (ex_lss rfl rfl) rfl ?_
    refine Run.opG wantS_none (ex_move rfl) rfl ?_
    rcases btf ((decide (v12 < (c1_0.length : Int)))) with hc7 | hc7
    · have h := bif_t hc7 h
      refine Run.opG (wantS_yes' rfl rfl hc7) (ex_move rfl) rfl ?_
      refine Run.opG (wantS_yes' rfl rfl hc7) (ex_move rfl) rfl ?_
      refine Run.opG (wantS_yes' rfl rfl hc7) (ex_leq rfl rfl) rfl ?_
      refine Run.opG wantS_none (ex_pickT' rfl hc7 rfl rfl) rfl ?_
      refine Run.opsEnd ?_
      exact Run.pick [1, 2, 8, 9, 10, 11, 12, 40] (ref05_Strain_3_ok F hd1 hhd1 (ref05_Strain_2 F hd1 N) ih v1 v8 v9 v10 v11 v12 (decide (v12 ≤ v9)) c1_0 c1_1 sv1 sv8 sc1_0 b1 _ _ hv1 (hv8.less (by simp)) hc1_0 ho1 h)
    · have h := bif_f hc7 h
      refine Run.no (wantS_not' rfl rfl hc7) rfl ?_
      refine Run.no (wantS_not' rfl rfl hc7) rfl ?_
      refine Run.no (wantS_not' rfl rfl hc7) rfl ?_
      refine Run.opG wantS_none (ex_pickF' rfl hc7 rfl rfl) rfl ?_
      refine Run.opsEnd ?_
      exact Run.pick [1, 2, 8, 9, 10, 11, 12, 40] (ref05_Strain_3_ok F hd1 hhd1 (ref05_Strain_2 F hd1 N) ih v1 v8 v9 v10 v11 v12 false c1_0 c1_1 sv1 sv8 sc1_0 b1 _ _ hv1 (hv8.less (by simp)) hc1_0 ho1 h)

def ref05_Strain_1 (F : Nat) : Nat → (List Int) → (List S_api_Tap) → Int → (List S_api_Tap) → Int → Option ((List S_api_Tap) × Int)
  | 0, _, _, _, _, _ => none
  | N + 1, v1, v8, v9, c1_0, c1_1 =>
    bif (decide (v9 < (v1.length : Int))) then
      ref05_Strain_2 F (ref05_Strain_1 F N) F v1 v8 v9 0 0 0 c1_0 c1_1
    else
      some (v8, 0)

theorem ref05_Strain_1_ok (F : Nat) {B : Nat} : ∀ (N : Nat), ∀ (v1 : (List Int)) (v8 : (List S_api_Tap)) (v9 : Int) (c1_0 : (List S_api_Tap)) (c1_1 : Int) (sv1 : SV) (sv8 : SV) (sc1_0 : SV) (b1 : Pos) (r : (List S_api_Tap) × Int) (M : Mem) (hv1 : Slc (ro M) 1 (FlatR enc3) sv1 v1) (hv8 : App M [b1] 63 2 enc63 sv8 v8) (hc1_0 : Slc (ro M) 2 (FlatR enc61) sc1_0 c1_0) (ho1 : Own M b1 52 .whole [sc1_0, (.int .i64 c1_1)]), ref05_Strain_1 F N v1 v8 v9 c1_0 c1_1 = some r → Run Tryz.prog B 21 94 (fun s Me => ∃ q1, s = (.tuple [q1, (.int .i64 r.2)]) ∧ Slc (rn Me) 2 (FlatR enc63) q1 r.1) [(1, sv1), (2, (.ptr b1 0)), (8, sv8), (9, (.int .i64 v9))] [codeC Tryz.prog 21 [1, 1, 1, 1, 0, 1, 0, 0], loopC Tryz.prog 21 [1, 1, 1, 1, 0, 1, 0, 0], .inBlock 0, codeC Tryz.prog 21 [1, 1, 1, 1, 1]] M := by
  intro N
  induction N with
  | zero =>
    intro v1 v8 v9 c1_0 c1_1 sv1 sv8 sc1_0 b1 r M hv1 hv8 hc1_0 ho1 h
    simp [ref05_Strain_1] at h
  | succ N ih =>
    intro v1 v8 v9 c1_0 c1_1 sv1 sv8 sc1_0 b1 r M hv1 hv8 hc1_0 ho1 h
    rw [ref05_Strain_1] at h
    refine Run.seq (Run.seq (Run.region ?_))
    refine Run.opG wantS_none (ex_move rfl) rfl ?_
    refine Run.opG wantS_none (ex_move rfl) rfl ?_
    refine Run.opG wantS_none (ex_len' rfl hv1 lenk24) rfl ?_
    refine Run.opG wantS_none (ex_lss rfl rfl) rfl ?_
    refine Run.opsEnd ?_
    rcases btf ((decide (v9 < (v1.length : Int)))) with hc6 | hc6
    · have h := bif_t hc6 h
      refine Run.condT' rfl hc6 ?_
      refine Run.skip (Run.seq (Run.block (Run.seq (Run.region ?_))))
      refine Run.opG wantS_none (ex_assign rfl) rfl ?_
      refine Run.opG wantS_none (ex_assign rfl) rfl ?_
      refine Run.opsEnd (Run.seq (Run.seq (Run.region ?_)))
      refine Run.opG wantS_none (ex_assign rfl) rfl ?_
      refine Run.opsEnd (Run.block (Run.loop ?_))
      exact Run.pick [1, 2, 8, 9, 10, 11, 12] (ref05_Strain_2_ok F (ref05_Strain_1 F N) ih F v1 v8 v9 0 0 0 c1_0 c1_1 sv1 sv8 sc1_0 b1 _ _ hv1 (hv8.less (by simp)) hc1_0 ho1 h)
    · have h := bif_f hc6 h
      refine Run.condF' rfl hc6 ?_
      refine Run.exit rfl (Run.seq (Run.region ?_))
      refine Run.opG wantS_none (ex_move rfl) rfl ?_
      refine Run.opG wantS_none (ex_assign rfl) rfl ?_
      refine Run.opG wantS_none (ex_assign rfl) rfl ?_
      refine Run.opsEnd ?_
      cases h
      exact Run.ret Tryz.func21 (res_tmp rfl (res_tmp rfl res_nil)) ⟨_, rfl, (hv8.slc enc63_len)⟩

def ref05_Strain (F : Nat) (a0 : S_api_Model) (a1 : (List Int)) : Option ((List S_api_Tap) × Int) :=
  bnd (ref05_CheckModel F a0) fun r2 =>
  bif (!(r2 == (0 : Int))) then
    some ([], r2)
  else
    bnd (ref05_CheckSeries F a1) fun r4 =>
    bif (!(r4 == (0 : Int))) then
      some ([], r4)
    else
      ref05_Strain_1 F F a1 [] 0 a0.Taps a0.Shift

theorem ref05_Strain_ok (F : Nat) (a0 : S_api_Model) (a1 : (List Int)) (s0 s1 : SV) (r : (List S_api_Tap) × Int) (M : Mem) (hs0 : Slc (rd M) 2 (FlatR enc61) s0 a0.Taps) (hs1 : Slc (rd M) 1 (FlatR enc3) s1 a1) (h : ref05_Strain F a0 a1 = some r) : CallsTo Tryz.prog 21 [(.agg [s0, (.int .i64 a0.Shift)]), s1] M fun s M' => MemLe M M' ∧ (fun s f => ∃ q1, s = (.tuple [q1, (.int .i64 r.2)]) ∧ Slc f 2 (FlatR enc63) q1 r.1) s (ro M') := by
  refine CallsTo.of_new (Q := (fun s f => ∃ q1, s = (.tuple [q1, (.int .i64 r.2)]) ∧ Slc f 2 (FlatR enc63) q1 r.1)) Tryz.func21 rfl rfl (fun s f g hfg hq => by obtain ⟨q1, he, f0⟩ := hq; exact ⟨q1, he, slc_mo hfg f0⟩) fun B => ?_
  rw [ref05_Strain] at h
  replace hs0 := slc_in hs0
  replace hs1 := slc_in hs1
  refine Run.seq (Run.region ?_)
  refine Run.new (v := fun b => .ptr b 0) wantS_none (ex_box rfl) rfl ?_
  intro b1 M1 (ho1 : Own M1 b1 52 .whole [s0, (.int .i64 a0.Shift)]) hM1 hb1
  replace hs0 := slc_ro hs0 hM1.toRo
  replace hs1 := slc_ro hs1 hM1.toRo
  refine Run.opG wantS_none (ex_assign rfl) rfl ?_
  refine Run.opG wantS_none (ex_assign rfl) rfl ?_
  refine Run.opsEnd (Run.seq (Run.seq (Run.region ?_)))
  refine Run.opG wantS_none (ex_loadA rfl (ho1.at 0 rfl) rdLe_rfl agg52 rfl rfl rfl) rfl ?_
  obtain ⟨r2, hr2, h⟩ := bnd_some h
  refine Run.callP wantS_none (ex_call rfl mkk23 cal23) rfl (ref05_CheckModel_ok F a0 s0 _ _ (slc_rd hs0) hr2) ?_
  refine Run.opG wantS_none (ex_assign rfl) rfl ?_
  refine Run.opsEnd (Run.seq (Run.region ?_))
  refine Run.opG wantS_none (ex_move rfl) rfl ?_
  refine Run.opG wantS_none (ex_neq rfl rfl) rfl ?_
  refine Run.opsEnd ?_
  rcases btf ((!(r2 == (0 : Int)))) with hc3 | hc3
  · have h := bif_t hc3 h
    refine Run.condT' rfl hc3 ?_
    refine Run.seq (Run.region ?_)
    refine Run.opG wantS_none (ex_move rfl) rfl ?_
    refine Run.opG wantS_none (ex_assign rfl) rfl ?_
    refine Run.opG wantS_none (ex_assign rfl) rfl ?_
    refine Run.opsEnd ?_
    cases h
    exact Run.ret Tryz.func21 (res_tmp rfl (res_tmp rfl res_nil)) ⟨_, rfl, slc_nil⟩
  · have h := bif_f hc3 h
    refine Run.condF' rfl hc3 ?_
    refine Run.skip (Run.seq (Run.seq (Run.region ?_)))
    refine Run.opG wantS_none (ex_move rfl) rfl ?_
    obtain ⟨r4, hr4, h⟩ := bnd_some h
    refine Run.callP wantS_none (ex_call rfl mkk25 cal25) rfl (ref05_CheckSeries_ok F a1 s1 _ _ (slc_rd hs1) hr4) ?_
    refine Run.opG wantS_none (ex_assign rfl) rfl ?_
    refine Run.opsEnd (Run.seq (Run.region ?_))
    refine Run.opG wantS_none (ex_move rfl) rfl ?_
    refine Run.opG wantS_none (ex_neq rfl rfl) rfl ?_
    refine Run.opsEnd ?_
    rcases btf ((!(r4 == (0 : Int)))) with hc5 | hc5
    · have h := bif_t hc5 h
      refine Run.condT' rfl hc5 ?_
      refine Run.seq (Run.region ?_)
      refine Run.opG wantS_none (ex_move rfl) rfl ?_
      refine Run.opG wantS_none (ex_assign rfl) rfl ?_
      refine Run.opG wantS_none (ex_assign rfl) rfl ?_
      refine Run.opsEnd ?_
      cases h
      exact Run.ret Tryz.func21 (res_tmp rfl (res_tmp rfl res_nil)) ⟨_, rfl, slc_nil⟩
    · have h := bif_f hc5 h
      refine Run.condF' rfl hc5 ?_
      refine Run.skip (Run.seq (Run.region ?_))
      refine Run.opG wantS_none (ex_assign rfl) rfl ?_
      refine Run.opsEnd (Run.seq (Run.seq (Run.region ?_)))
      refine Run.opG wantS_none (ex_assign rfl) rfl ?_
      refine Run.opsEnd (Run.block (Run.loop ?_))
      exact Run.pick [1, 2, 8, 9] (ref05_Strain_1_ok F F a1 [] 0 a0.Taps a0.Shift s1 .nils s0 b1 _ _ hs1 (⟨fun b hb => by simp only [List.mem_cons, List.not_mem_nil, or_false] at hb; rcases hb with rfl <;> first | exact ho1.lt, .inl ⟨rfl, rfl⟩⟩) hs0 ho1 h)

theorem lenk53 : lenK Tryz.prog 53 = some .sl := by kernel_rfl
theorem plan26_1_1_0_1_0_0_1_0_0_0 : planOf Tryz.prog (opsC (atC Tryz.prog 26 [1, 1, 0, 1, 0, 0, 1, 0, 0, 0])) = some [.fl 0, .fl 1, .fl 2, .fl 3, .fl 4, .fl 5, .fl 6, .fl 7, .fl 8, .sync] := by kernel_rfl
theorem agk3 : aggK Tryz.prog 3 = some .int := by kernel_rfl
theorem agk63 : aggK Tryz.prog 63 = some (.st [⟨ "Low", 3, 0, false, "", "", 0⟩, ⟨ "High", 3, 1, false, "", "", 8⟩]) := by kernel_rfl
theorem aeq63 : aggEq Tryz.prog 63 = false := by kernel_rfl
def law05_sameBands_1 (F : Nat) : Nat → (List S_api_Tap) → (List S_api_Tap) → Int → Option (Bool)
  | 0, _, _, _ => none
  | N + 1, v0, v1, v5 =>
    bif (decide (v5 < (v0.length : Int))) then
      bnd (idx v0 v5) fun x3 =>
      bnd (idx v1 v5) fun x4 =>
      bif (!((x3.Low == x4.Low) && ((x3.High == x4.High) && true))) then
        some false
      else
        law05_sameBands_1 F N v0 v1 (w64 (v5 + (1 : Int)))
    else
      some true

theorem law05_sameBands_1_ok (F : Nat) {B : Nat} : ∀ (N : Nat), ∀ (v0 : (List S_api_Tap)) (v1 : (List S_api_Tap)) (v5 : Int) (sv0 : SV) (sv1 : SV) (r : Bool) (M : Mem) (hv0 : Slc (ro M) 2 (FlatR enc63) sv0 v0) (hv1 : Slc (ro M) 2 (FlatR enc63) sv1 v1), law05_sameBands_1 F N v0 v1 v5 = some r → Run Tryz.prog B 26 26 (fun s _ => s = (.bool r)) [(0, sv0), (1, sv1), (5, (.int .i64 v5))] [codeC Tryz.prog 26 [1, 1, 0, 1, 0, 0], loopC Tryz.prog 26 [1, 1, 0, 1, 0, 0], .inBlock 0, codeC Tryz.prog 26 [1, 1, 1]] M := by
  intro N
  induction N with
  | zero =>
    intro v0 v1 v5 sv0 sv1 r M hv0 hv1 h
    simp [law05_sameBands_1] at h
  | succ N ih =>
    intro v0 v1 v5 sv0 sv1 r M hv0 hv1 h
    rw [law05_sameBands_1] at h
    refine Run.seq (Run.seq (Run.region ?_))
    refine Run.opG wantS_none (ex_move rfl) rfl ?_
    refine Run.opG wantS_none (ex_move rfl) rfl ?_
    refine Run.opG wantS_none (ex_len' rfl hv0 lenk53) rfl ?_
    refine Run.opG wantS_none (ex_lss rfl rfl) rfl ?_
    refine Run.opsEnd ?_
    rcases btf ((decide (v5 < (v0.length : Int)))) with hc2 | hc2
    · have h := bif_t hc2 h
      refine Run.condT' rfl hc2 ?_
      refine Run.skip (Run.seq (Run.block (Run.seq ?_)))
      obtain ⟨x3, hx3, h⟩ := bnd_some h
      obtain ⟨p3, o3, _, hx3_, hp3, rfl⟩ := xi_el (P := Tryz.prog) (M := M) (kk := .i64) hv0 hx3 els53
      obtain ⟨x4, hx4, h⟩ := bnd_some h
      obtain ⟨p4, o4, _, hx4_, hp4, rfl⟩ := xi_el (P := Tryz.prog) (M := M) (kk := .i64) hv1 hx4 els53
      refine Run.drawG (sound_nil _) plan26_1_1_0_1_0_0_1_0_0_0 ?_
      refine DrawG.fl rfl (ev_ex wantS_none (ex_move rfl)) rfl rfl ?_
      refine DrawG.fl rfl (ev_ex wantS_none (ex_move rfl)) rfl rfl ?_
      refine DrawG.fl rfl (ev_ex wantS_none (ex_elS rfl rfl hx3_)) rfl rfl ?_
      refine DrawG.fl rfl (ev_ex wantS_none (ex_loadA rfl hp3 (rdLe_roRow _) agg63 rfl rfl rfl)) rfl rfl ?_
      refine DrawG.fl rfl (ev_ex wantS_none (ex_move rfl)) rfl rfl ?_
      refine DrawG.fl rfl (ev_ex wantS_none (ex_move rfl)) rfl rfl ?_
      refine DrawG.fl rfl (ev_ex wantS_none (ex_elS rfl rfl hx4_)) rfl rfl ?_
      refine DrawG.fl rfl (ev_ex wantS_none (ex_loadA rfl hp4 (rdLe_roRow _) agg63 rfl rfl rfl)) rfl rfl ?_
      refine DrawG.fl rfl (ev_ex wantS_none (ex_neqA rfl rfl aeq63 (eqA_st agk63 (eqFs_cons (by decide) (part_one agg3 rfl) (part_one agg3 rfl) (eqA_int agk3) (eqFs_cons (by decide) (part_one agg3 rfl) (part_one agg3 rfl) (eqA_int agk3) eqFs_nil))))) rfl rfl ?_
      refine DrawG.sync ?_
      refine DrawG.nil ?_
      rcases btf ((!((x3.Low == x4.Low) && ((x3.High == x4.High) && true)))) with hc5 | hc5
      · have h := bif_t hc5 h
        refine Run.condT' rfl hc5 ?_
        refine Run.seq (Run.region ?_)
        refine Run.opG wantS_none (ex_assign rfl) rfl ?_
        refine Run.opsEnd ?_
        cases h
        exact Run.ret Tryz.func26 (res_tmp rfl res_nil) rfl
      · have h := bif_f hc5 h
        refine Run.condF' rfl hc5 ?_
        refine Run.skip (Run.inBlock (Run.region ?_))
        refine Run.opG wantS_none (ex_move rfl) rfl ?_
        refine Run.opG wantS_none (ex_add rfl rfl) rfl ?_
        refine Run.opG wantS_none (ex_assign rfl) rfl ?_
        refine Run.opsEnd (Run.inLoop ?_)
        exact Run.pick [0, 1, 5] (ih v0 v1 (w64 (v5 + (1 : Int))) sv0 sv1 _ _ hv0 hv1 h)
    · have h := bif_f hc2 h
      refine Run.condF' rfl hc2 ?_
      refine Run.exit rfl (Run.seq (Run.region ?_))
      refine Run.opG wantS_none (ex_assign rfl) rfl ?_
      refine Run.opsEnd ?_
      cases h
      exact Run.ret Tryz.func26 (res_tmp rfl res_nil) rfl

def law05_sameBands (F : Nat) (a0 : (List S_api_Tap)) (a1 : (List S_api_Tap)) : Option (Bool) :=
  bif (!((a0.length : Int) == (a1.length : Int))) then
    some false
  else
    law05_sameBands_1 F F a0 a1 0

theorem law05_sameBands_ok (F : Nat) (a0 : (List S_api_Tap)) (a1 : (List S_api_Tap)) (s0 s1 : SV) (r : Bool) (M : Mem) (hs0 : Slc (rd M) 2 (FlatR enc63) s0 a0) (hs1 : Slc (rd M) 2 (FlatR enc63) s1 a1) (h : law05_sameBands F a0 a1 = some r) : CallsP Tryz.prog 26 [s0, s1] M (.bool r) := by
  refine CallsP.of_run Tryz.func26 rfl rfl rfl fun B => ?_
  rw [law05_sameBands] at h
  replace hs0 := slc_in hs0
  replace hs1 := slc_in hs1
  refine Run.seq (Run.region ?_)
  refine Run.opG wantS_none (ex_assign rfl) rfl ?_
  refine Run.opsEnd (Run.seq (Run.seq (Run.region ?_)))
  refine Run.opG wantS_none (ex_move rfl) rfl ?_
  refine Run.opG wantS_none (ex_len' rfl hs0 lenk53) rfl ?_
  refine Run.opG wantS_none (ex_move rfl) rfl ?_
  refine Run.opG wantS_none (ex_len' rfl hs1 lenk53) rfl ?_
  refine Run.opG wantS_none (ex_neq rfl rfl) rfl ?_
  refine Run.opsEnd ?_
  rcases btf ((!((a0.length : Int) == (a1.length : Int)))) with hc1 | hc1
  · have h := bif_t hc1 h
    refine Run.condT' rfl hc1 ?_
    refine Run.seq (Run.region ?_)
    refine Run.opG wantS_none (ex_assign rfl) rfl ?_
    refine Run.opsEnd ?_
    cases h
    exact Run.ret Tryz.func26 (res_tmp rfl res_nil) rfl
  · have h := bif_f hc1 h
    refine Run.condF' rfl hc1 ?_
    refine Run.skip (Run.seq (Run.seq (Run.region ?_)))
    refine Run.opG wantS_none (ex_assign rfl) rfl ?_
    refine Run.opsEnd (Run.block (Run.loop ?_))
    exact Run.pick [0, 1, 5] (law05_sameBands_1_ok F F a0 a1 0 s0 s1 _ _ hs0 hs1 h)

theorem mkk20 : makeK Tryz.prog 20 = none := by kernel_rfl
theorem cal20 : callable Tryz.prog 20 = true := by kernel_rfl
theorem mkk21 : makeK Tryz.prog 21 = none := by kernel_rfl
theorem cal21 : callable Tryz.prog 21 = true := by kernel_rfl
theorem plan4_1_1_1_0 : planOf Tryz.prog (opsC (atC Tryz.prog 4 [1, 1, 1, 0])) = some [.fl 0, .fl 2, .an 1 [2], .an 3 [], .fl 4, .fl 5, .fl 6, .fl 8, .an 7 [8], .an 9 [], .fl 10, .fl 11, .fl 12, .fl 13, .fl 14, .an 15 [], .fl 16, .fl 17, .fl 18, .fl 19, .fl 20, .fl 21, .fl 22, .an 23 [], .fl 24, .fl 25, .sync] := by kernel_rfl
theorem mkk26 : makeK Tryz.prog 26 = none := by kernel_rfl
theorem cal26 : callable Tryz.prog 26 = true := by kernel_rfl
theorem mkk19 : makeK Tryz.prog 19 = none := by kernel_rfl
theorem cal19 : callable Tryz.prog 19 = true := by kernel_rfl
def law05_RecordStrains_1 (F : Nat) (v4 : Bool) : Option (Bool) :=
  some v4

theorem law05_RecordStrains_1_ok (F : Nat) {B : Nat} : ∀ (v4 : Bool) (r : Bool) (M : Mem), law05_RecordStrains_1 F v4 = some r → Run Tryz.prog B 4 46 (fun s _ => s = (.bool r)) [(4, (.bool v4))] [codeC Tryz.prog 4 [1, 1, 1, 1]] M := by
  intro v4 r M h
  rw [law05_RecordStrains_1] at h
  cases h
  exact Run.ret Tryz.func4 (res_tmp rfl res_nil) rfl

def law05_RecordStrains (F : Nat) (a0 : S_api_Model) (a1 : (List Int)) : Option (Bool) :=
  bnd (record_Strain F a0 a1) fun r2 =>
  bnd (ref05_Strain F a0 a1) fun r3 =>
  bnd (record_CheckModel F a0) fun r4 =>
  bnd (ref05_CheckModel F a0) fun r5 =>
  bif (r4 == r5) then
    bnd (record_CheckSeries F a1) fun r7 =>
    bnd (ref05_CheckSeries F a1) fun r8 =>
    bif (r7 == r8) then
      bnd (law05_sameBands F r2.1 r3.1) fun r10 =>
      bif r10 then
        bif (r2.2 == r3.2) then
          bnd (works F) fun r13 =>
          law05_RecordStrains_1 F r13
        else
          law05_RecordStrains_1 F false
      else
        law05_RecordStrains_1 F false
    else
      law05_RecordStrains_1 F false
  else
    law05_RecordStrains_1 F false

theorem law05_RecordStrains_ok (F : Nat) (a0 : S_api_Model) (a1 : (List Int)) (s0 s1 : SV) (r : Bool) (M : Mem) (hs0 : Slc (rd M) 2 (FlatR enc61) s0 a0.Taps) (hs1 : Slc (rd M) 1 (FlatR enc3) s1 a1) (h : law05_RecordStrains F a0 a1 = some r) : CallsP Tryz.prog 4 [(.agg [s0, (.int .i64 a0.Shift)]), s1] M (.bool r) := by
  refine CallsP.of_run Tryz.func4 rfl rfl rfl fun B => ?_
  rw [law05_RecordStrains] at h
  replace hs0 := slc_in hs0
  replace hs1 := slc_in hs1
  refine Run.seq (Run.region ?_)
  refine Run.new (v := fun b => .ptr b 0) wantS_none (ex_box rfl) rfl ?_
  intro b1 M1 (ho1 : Own M1 b1 52 .whole [s0, (.int .i64 a0.Shift)]) hM1 hb1
  replace hs0 := slc_ro hs0 hM1.toRo
  replace hs1 := slc_ro hs1 hM1.toRo
  refine Run.opG wantS_none (ex_assign rfl) rfl ?_
  refine Run.opsEnd (Run.seq (Run.region ?_))
  refine Run.opG wantS_none (ex_loadA rfl (ho1.at 0 rfl) rdLe_rfl agg52 rfl rfl rfl) rfl ?_
  refine Run.opG wantS_none (ex_move rfl) rfl ?_
  obtain ⟨r2, hr2, h⟩ := bnd_some h
  refine Run.callG wantS_none (ex_call rfl mkk20 cal20) rfl (record_Strain_ok F a0 a1 s0 s1 _ _ (slc_rd hs0) (slc_rd hs1) hr2) ?_
  rintro _ M2 ⟨hM2, s2_0, rfl, hs2_0⟩
  replace hs1 := slc_ro hs1 hM2.toRo
  replace hs0 := slc_ro hs0 hM2.toRo
  replace ho1 := hM2.own _ _ _ _ ho1
  refine Run.opG wantS_none (ex_move rfl) rfl ?_
  refine Run.opG wantS_none (ex_extract rfl rfl) rfl ?_
  refine Run.opG wantS_none (ex_extract rfl rfl) rfl ?_
  refine Run.opG wantS_none (ex_assign rfl) rfl ?_
  refine Run.opG wantS_none (ex_assign rfl) rfl ?_
  refine Run.opsEnd (Run.seq (Run.region ?_))
  refine Run.opG wantS_none (ex_loadA rfl (ho1.at 0 rfl) rdLe_rfl agg52 rfl rfl rfl) rfl ?_
  refine Run.opG wantS_none (ex_move rfl) rfl ?_
  obtain ⟨r3, hr3, h⟩ := bnd_some h
  refine Run.callG wantS_none (ex_call rfl mkk21 cal21) rfl (ref05_Strain_ok F a0 a1 s0 s1 _ _ (slc_rd hs0) (slc_rd hs1) hr3) ?_
  rintro _ M3 ⟨hM3, s3_0, rfl, hs3_0⟩
  replace hs1 := slc_ro hs1 hM3.toRo
  replace hs2_0 := slc_ro hs2_0 hM3.toRo
  replace hs0 := slc_ro hs0 hM3.toRo
  replace ho1 := hM3.own _ _ _ _ ho1
  refine Run.opG wantS_none (ex_move rfl) rfl ?_
  refine Run.opG wantS_none (ex_extract rfl rfl) rfl ?_
  refine Run.opG wantS_none (ex_extract rfl rfl) rfl ?_
  refine Run.opG wantS_none (ex_assign rfl) rfl ?_
  refine Run.opG wantS_none (ex_assign rfl) rfl ?_
  refine Run.opsEnd (Run.seq ?_)
  obtain ⟨r4, hr4, h⟩ := bnd_some h
  obtain ⟨r5, hr5, h⟩ := bnd_some h
  rcases btf ((r4 == r5)) with hc6 | hc6
  · have h := bif_t hc6 h
    obtain ⟨r7, hr7, h⟩ := bnd_some h
    obtain ⟨r8, hr8, h⟩ := bnd_some h
    rcases btf ((r7 == r8)) with hc9 | hc9
    · have h := bif_t hc9 h
      obtain ⟨r10, hr10, h⟩ := bnd_some h
      rcases btf (r10) with hc11 | hc11
      · have h := bif_t hc11 h
        rcases btf ((r2.2 == r3.2)) with hc12 | hc12
        · have h := bif_t hc12 h
          obtain ⟨r13, hr13, h⟩ := bnd_some h
          refine Run.drawG (sound_cons (M := M3) (record_CheckModel_ok F a0 s0 _ _ (slc_rd hs0) hr4) (sound_cons (M := M3) (ref05_CheckModel_ok F a0 s0 _ _ (slc_rd hs0) hr5) (sound_cons (M := M3) (record_CheckSeries_ok F a1 s1 _ _ (slc_rd hs1) hr7) (sound_cons (M := M3) (ref05_CheckSeries_ok F a1 s1 _ _ (slc_rd hs1) hr8) (sound_cons (M := M3) (law05_sameBands_ok F r2.1 r3.1 s2_0 s3_0 _ _ (slc_rd hs2_0) (slc_rd hs3_0) hr10) (sound_cons (M := M3) (works_ok F _ _ hr13) (sound_nil _))))))) plan4_1_1_1_0 ?_
          refine DrawG.fl rfl (ev_ex wantS_none (ex_loadA rfl (ho1.at 0 rfl) rdLe_rfl agg52 rfl rfl rfl)) rfl rfl ?_
          refine DrawG.fl rfl (ev_ex wantS_none (ex_loadA rfl (ho1.at 0 rfl) rdLe_rfl agg52 rfl rfl rfl)) rfl rfl ?_
          refine DrawG.call rfl wantS_none (ex_call rfl mkk22 cal22) (orK_left (oneK_same _ _ _ _)) rfl (st_cons rfl (ev_ex wantS_none (ex_loadA rfl (ho1.at 0 rfl) rdLe_rfl agg52 rfl rfl rfl)) rfl rfl (self_agg (self_cons (slc_self hs0) (self_cons rfl self_nil))) st_nil) ?_
          refine DrawG.call rfl wantS_none (ex_call rfl mkk23 cal23) (orK_right (oneK_other rfl _ _ _ _ _) (orK_left (oneK_same _ _ _ _))) rfl st_nil ?_
          refine DrawG.fl rfl (ev_ex wantS_none (ex_eql rfl rfl)) rfl rfl ?_
          refine DrawG.fl rfl (ev_ex wantS_none (ex_move rfl)) rfl rfl ?_
          refine DrawG.fl rfl (ev_ex (wantS_yes' rfl rfl hc6) (ex_move rfl)) rfl rfl ?_
          refine DrawG.fl rfl (ev_ex (wantS_yes' rfl rfl hc6) (ex_move rfl)) rfl rfl ?_
          refine DrawG.call rfl (wantS_yes' rfl rfl hc6) (ex_call rfl mkk24 cal24) (orK_right (oneK_other rfl _ _ _ _ _) (orK_right (oneK_other rfl _ _ _ _ _) (orK_left (oneK_same _ _ _ _)))) rfl (st_cons rfl (ev_ex (wantS_yes' rfl rfl hc6) (ex_move rfl)) rfl rfl (slc_self hs1) st_nil) ?_
          refine DrawG.call rfl (wantS_yes' rfl rfl hc6) (ex_call rfl mkk25 cal25) (orK_right (oneK_other rfl _ _ _ _ _) (orK_right (oneK_other rfl _ _ _ _ _) (orK_right (oneK_other rfl _ _ _ _ _) (orK_left (oneK_same _ _ _ _))))) rfl st_nil ?_
          refine DrawG.fl rfl (ev_ex (wantS_yes' rfl rfl hc6) (ex_eql rfl rfl)) rfl rfl ?_
          refine DrawG.fl rfl (ev_ex wantS_none (ex_pickT' rfl hc6 rfl rfl)) rfl rfl ?_
          refine DrawG.fl rfl (ev_ex wantS_none (ex_move rfl)) rfl rfl ?_
          refine DrawG.fl rfl (ev_ex (wantS_yes' rfl rfl hc9) (ex_move rfl)) rfl rfl ?_
          refine DrawG.fl rfl (ev_ex (wantS_yes' rfl rfl hc9) (ex_move rfl)) rfl rfl ?_
          refine DrawG.call rfl (wantS_yes' rfl rfl hc9) (ex_call rfl mkk26 cal26) (orK_right (oneK_other rfl _ _ _ _ _) (orK_right (oneK_other rfl _ _ _ _ _) (orK_right (oneK_other rfl _ _ _ _ _) (orK_right (oneK_other rfl _ _ _ _ _) (orK_left (oneK_same _ _ _ _)))))) rfl st_nil ?_
          refine DrawG.fl rfl (ev_ex wantS_none (ex_pickT' rfl hc9 rfl rfl)) rfl rfl ?_
          refine DrawG.fl rfl (ev_ex wantS_none (ex_move rfl)) rfl rfl ?_
          refine DrawG.fl rfl (ev_ex (wantS_yes' rfl rfl hc11) (ex_move rfl)) rfl rfl ?_
          refine DrawG.fl rfl (ev_ex (wantS_yes' rfl rfl hc11) (ex_move rfl)) rfl rfl ?_
          refine DrawG.fl rfl (ev_ex (wantS_yes' rfl rfl hc11) (ex_eql rfl rfl)) rfl rfl ?_
          refine DrawG.fl rfl (ev_ex wantS_none (ex_pickT' rfl hc11 rfl rfl)) rfl rfl ?_
          refine DrawG.fl rfl (ev_ex wantS_none (ex_move rfl)) rfl rfl ?_
          refine DrawG.call rfl (wantS_yes' rfl rfl hc12) (ex_call rfl mkk19 cal19) (orK_right (oneK_other rfl _ _ _ _ _) (orK_right (oneK_other rfl _ _ _ _ _) (orK_right (oneK_other rfl _ _ _ _ _) (orK_right (oneK_other rfl _ _ _ _ _) (orK_right (oneK_other rfl _ _ _ _ _) (orK_left (oneK_same _ _ _ _))))))) rfl st_nil ?_
          refine DrawG.fl rfl (ev_ex wantS_none (ex_pickT' rfl hc12 rfl rfl)) rfl rfl ?_
          refine DrawG.fl rfl (ev_ex wantS_none (ex_assign rfl)) rfl rfl ?_
          refine DrawG.sync ?_
          refine DrawG.nil ?_
          exact Run.pick [4] (law05_RecordStrains_1_ok F r13 _ _ h)
        · have h := bif_f hc12 h
          refine Run.drawG (sound_cons (M := M3) (record_CheckModel_ok F a0 s0 _ _ (slc_rd hs0) hr4) (sound_cons (M := M3) (ref05_CheckModel_ok F a0 s0 _ _ (slc_rd hs0) hr5) (sound_cons (M := M3) (record_CheckSeries_ok F a1 s1 _ _ (slc_rd hs1) hr7) (sound_cons (M := M3) (ref05_CheckSeries_ok F a1 s1 _ _ (slc_rd hs1) hr8) (sound_cons (M := M3) (law05_sameBands_ok F r2.1 r3.1 s2_0 s3_0 _ _ (slc_rd hs2_0) (slc_rd hs3_0) hr10) (sound_nil _)))))) plan4_1_1_1_0 ?_
          refine DrawG.fl rfl (ev_ex wantS_none (ex_loadA rfl (ho1.at 0 rfl) rdLe_rfl agg52 rfl rfl rfl)) rfl rfl ?_
          refine DrawG.fl rfl (ev_ex wantS_none (ex_loadA rfl (ho1.at 0 rfl) rdLe_rfl agg52 rfl rfl rfl)) rfl rfl ?_
          refine DrawG.call rfl wantS_none (ex_call rfl mkk22 cal22) (orK_left (oneK_same _ _ _ _)) rfl (st_cons rfl (ev_ex wantS_none (ex_loadA rfl (ho1.at 0 rfl) rdLe_rfl agg52 rfl rfl rfl)) rfl rfl (self_agg (self_cons (slc_self hs0) (self_cons rfl self_nil))) st_nil) ?_
          refine DrawG.call rfl wantS_none (ex_call rfl mkk23 cal23) (orK_right (oneK_other rfl _ _ _ _ _) (orK_left (oneK_same _ _ _ _))) rfl st_nil ?_
          refine DrawG.fl rfl (ev_ex wantS_none (ex_eql rfl rfl)) rfl rfl ?_
          refine DrawG.fl rfl (ev_ex wantS_none (ex_move rfl)) rfl rfl ?_
          refine DrawG.fl rfl (ev_ex (wantS_yes' rfl rfl hc6) (ex_move rfl)) rfl rfl ?_
          refine DrawG.fl rfl (ev_ex (wantS_yes' rfl rfl hc6) (ex_move rfl)) rfl rfl ?_
          refine DrawG.call rfl (wantS_yes' rfl rfl hc6) (ex_call rfl mkk24 cal24) (orK_right (oneK_other rfl _ _ _ _ _) (orK_right (oneK_other rfl _ _ _ _ _) (orK_left (oneK_same _ _ _ _)))) rfl (st_cons rfl (ev_ex (wantS_yes' rfl rfl hc6) (ex_move rfl)) rfl rfl (slc_self hs1) st_nil) ?_
          refine DrawG.call rfl (wantS_yes' rfl rfl hc6) (ex_call rfl mkk25 cal25) (orK_right (oneK_other rfl _ _ _ _ _) (orK_right (oneK_other rfl _ _ _ _ _) (orK_right (oneK_other rfl _ _ _ _ _) (orK_left (oneK_same _ _ _ _))))) rfl st_nil ?_
          refine DrawG.fl rfl (ev_ex (wantS_yes' rfl rfl hc6) (ex_eql rfl rfl)) rfl rfl ?_
          refine DrawG.fl rfl (ev_ex wantS_none (ex_pickT' rfl hc6 rfl rfl)) rfl rfl ?_
          refine DrawG.fl rfl (ev_ex wantS_none (ex_move rfl)) rfl rfl ?_
          refine DrawG.fl rfl (ev_ex (wantS_yes' rfl rfl hc9) (ex_move rfl)) rfl rfl ?_
          refine DrawG.fl rfl (ev_ex (wantS_yes' rfl rfl hc9) (ex_move rfl)) rfl rfl ?_
          refine DrawG.call rfl (wantS_yes' rfl rfl hc9) (ex_call rfl mkk26 cal26) (orK_right (oneK_other rfl _ _ _ _ _) (orK_right (oneK_other rfl _ _ _ _ _) (orK_right (oneK_other rfl _ _ _ _ _) (orK_right (oneK_other rfl _ _ _ _ _) (orK_left (oneK_same _ _ _ _)))))) rfl st_nil ?_
          refine DrawG.fl rfl (ev_ex wantS_none (ex_pickT' rfl hc9 rfl rfl)) rfl rfl ?_
          refine DrawG.fl rfl (ev_ex wantS_none (ex_move rfl)) rfl rfl ?_
          refine DrawG.fl rfl (ev_ex (wantS_yes' rfl rfl hc11) (ex_move rfl)) rfl rfl ?_
          refine DrawG.fl rfl (ev_ex (wantS_yes' rfl rfl hc11) (ex_move rfl)) rfl rfl ?_
          refine DrawG.fl rfl (ev_ex (wantS_yes' rfl rfl hc11) (ex_eql rfl rfl)) rfl rfl ?_
          refine DrawG.fl rfl (ev_ex wantS_none (ex_pickT' rfl hc11 rfl rfl)) rfl rfl ?_
          refine DrawG.fl rfl (ev_ex wantS_none (ex_move rfl)) rfl rfl ?_
          refine DrawG.no rfl (wantS_not' rfl rfl hc12) rfl st_nil ?_
          refine DrawG.fl rfl (ev_ex wantS_none (ex_pickF' rfl hc12 rfl rfl)) rfl rfl ?_
          refine DrawG.fl rfl (ev_ex wantS_none (ex_assign rfl)) rfl rfl ?_
          refine DrawG.sync ?_
          refine DrawG.nil ?_
          exact Run.pick [4] (law05_RecordStrains_1_ok F false _ _ h)
      · have h := bif_f hc11 h
        refine Run.drawG (sound_cons (M := M3) (record_CheckModel_ok F a0 s0 _ _ (slc_rd hs0) hr4) (sound_cons (M := M3) (ref05_CheckModel_ok F a0 s0 _ _ (slc_rd hs0) hr5) (sound_cons (M := M3) (record_CheckSeries_ok F a1 s1 _ _ (slc_rd hs1) hr7) (sound_cons (M := M3) (ref05_CheckSeries_ok F a1 s1 _ _ (slc_rd hs1) hr8) (sound_cons (M := M3) (law05_sameBands_ok F r2.1 r3.1 s2_0 s3_0 _ _ (slc_rd hs2_0) (slc_rd hs3_0) hr10) (sound_nil _)))))) plan4_1_1_1_0 ?_
        refine DrawG.fl rfl (ev_ex wantS_none (ex_loadA rfl (ho1.at 0 rfl) rdLe_rfl agg52 rfl rfl rfl)) rfl rfl ?_
        refine DrawG.fl rfl (ev_ex wantS_none (ex_loadA rfl (ho1.at 0 rfl) rdLe_rfl agg52 rfl rfl rfl)) rfl rfl ?_
        refine DrawG.call rfl wantS_none (ex_call rfl mkk22 cal22) (orK_left (oneK_same _ _ _ _)) rfl (st_cons rfl (ev_ex wantS_none (ex_loadA rfl (ho1.at 0 rfl) rdLe_rfl agg52 rfl rfl rfl)) rfl rfl (self_agg (self_cons (slc_self hs0) (self_cons rfl self_nil))) st_nil) ?_
        refine DrawG.call rfl wantS_none (ex_call rfl mkk23 cal23) (orK_right (oneK_other rfl _ _ _ _ _) (orK_left (oneK_same _ _ _ _))) rfl st_nil ?_
        refine DrawG.fl rfl (ev_ex wantS_none (ex_eql rfl rfl)) rfl rfl ?_
        refine DrawG.fl rfl (ev_ex wantS_none (ex_move rfl)) rfl rfl ?_
        refine DrawG.fl rfl (ev_ex (wantS_yes' rfl rfl hc6) (ex_move rfl)) rfl rfl ?_
        refine DrawG.fl rfl (ev_ex (wantS_yes' rfl rfl hc6) (ex_move rfl)) rfl rfl ?_
        refine DrawG.call rfl (wantS_yes' rfl rfl hc6) (ex_call rfl mkk24 cal24) (orK_right (oneK_other rfl _ _ _ _ _) (orK_right (oneK_other rfl _ _ _ _ _) (orK_left (oneK_same _ _ _ _)))) rfl (st_cons rfl (ev_ex (wantS_yes' rfl rfl hc6) (ex_move rfl)) rfl rfl (slc_self hs1) st_nil) ?_
        refine DrawG.call rfl (wantS_yes' rfl rfl hc6) (ex_call rfl mkk25 cal25) (orK_right (oneK_other rfl _ _ _ _ _) (orK_right (oneK_other rfl _ _ _ _ _) (orK_right (oneK_other rfl _ _ _ _ _) (orK_left (oneK_same _ _ _ _))))) rfl st_nil ?_
        refine DrawG.fl rfl (ev_ex (wantS_yes' rfl rfl hc6) (ex_eql rfl rfl)) rfl rfl ?_
        refine DrawG.fl rfl (ev_ex wantS_none (ex_pickT' rfl hc6 rfl rfl)) rfl rfl ?_
        refine DrawG.fl rfl (ev_ex wantS_none (ex_move rfl)) rfl rfl ?_
        refine DrawG.fl rfl (ev_ex (wantS_yes' rfl rfl hc9) (ex_move rfl)) rfl rfl ?_
        refine DrawG.fl rfl (ev_ex (wantS_yes' rfl rfl hc9) (ex_move rfl)) rfl rfl ?_
        refine DrawG.call rfl (wantS_yes' rfl rfl hc9) (ex_call rfl mkk26 cal26) (orK_right (oneK_other rfl _ _ _ _ _) (orK_right (oneK_other rfl _ _ _ _ _) (orK_right (oneK_other rfl _ _ _ _ _) (orK_right (oneK_other rfl _ _ _ _ _) (orK_left (oneK_same _ _ _ _)))))) rfl st_nil ?_
        refine DrawG.fl rfl (ev_ex wantS_none (ex_pickT' rfl hc9 rfl rfl)) rfl rfl ?_
        refine DrawG.fl rfl (ev_ex wantS_none (ex_move rfl)) rfl rfl ?_
        refine DrawG.fl rfl (ev_no (wantS_not' rfl rfl hc11)) rfl rfl ?_
        refine DrawG.fl rfl (ev_no (wantS_not' rfl rfl hc11)) rfl rfl ?_
        refine DrawG.fl rfl (ev_no (wantS_not' rfl rfl hc11)) rfl rfl ?_
        refine DrawG.fl rfl (ev_ex wantS_none (ex_pickF' rfl hc11 rfl rfl)) rfl rfl ?_
        refine DrawG.fl rfl (ev_ex wantS_none (ex_move rfl)) rfl rfl ?_
        refine DrawG.no rfl (wantS_not' rfl rfl rfl) rfl st_nil ?_
        refine DrawG.fl rfl (ev_ex wantS_none (ex_pickF' rfl rfl rfl rfl)) rfl rfl ?_
        refine DrawG.fl rfl (ev_ex wantS_none (ex_assign rfl)) rfl rfl ?_
        refine DrawG.sync ?_
        refine DrawG.nil ?_
        exact Run.pick [4] (law05_RecordStrains_1_ok F false _ _ h)
    · have h := bif_f hc9 h
      refine Run.drawG (sound_cons (M := M3) (record_CheckModel_ok F a0 s0 _ _ (slc_rd hs0) hr4) (sound_cons (M := M3) (ref05_CheckModel_ok F a0 s0 _ _ (slc_rd hs0) hr5) (sound_cons (M := M3) (record_CheckSeries_ok F a1 s1 _ _ (slc_rd hs1) hr7) (sound_cons (M := M3) (ref05_CheckSeries_ok F a1 s1 _ _ (slc_rd hs1) hr8) (sound_nil _))))) plan4_1_1_1_0 ?_
      refine DrawG.fl rfl (ev_ex wantS_none (ex_loadA rfl (ho1.at 0 rfl) rdLe_rfl agg52 rfl rfl rfl)) rfl rfl ?_
      refine DrawG.fl rfl (ev_ex wantS_none (ex_loadA rfl (ho1.at 0 rfl) rdLe_rfl agg52 rfl rfl rfl)) rfl rfl ?_
      refine DrawG.call rfl wantS_none (ex_call rfl mkk22 cal22) (orK_left (oneK_same _ _ _ _)) rfl (st_cons rfl (ev_ex wantS_none (ex_loadA rfl (ho1.at 0 rfl) rdLe_rfl agg52 rfl rfl rfl)) rfl rfl (self_agg (self_cons (slc_self hs0) (self_cons rfl self_nil))) st_nil) ?_
      refine DrawG.call rfl wantS_none (ex_call rfl mkk23 cal23) (orK_right (oneK_other rfl _ _ _ _ _) (orK_left (oneK_same _ _ _ _))) rfl st_nil ?_
      refine DrawG.fl rfl (ev_ex wantS_none (ex_eql rfl rfl)) rfl rfl ?_
      refine DrawG.fl rfl (ev_ex wantS_none (ex_move rfl)) rfl rfl ?_
      refine DrawG.fl rfl (ev_ex (wantS_yes' rfl rfl hc6) (ex_move rfl)) rfl rfl ?_
      refine DrawG.fl rfl (ev_ex (wantS_yes' rfl rfl hc6) (ex_move rfl)) rfl rfl ?_
      refine DrawG.call rfl (wantS_yes' rfl rfl hc6) (ex_call rfl mkk24 cal24) (orK_right (oneK_other rfl _ _ _ _ _) (orK_right (oneK_other rfl _ _ _ _ _) (orK_left (oneK_same _ _ _ _)))) rfl (st_cons rfl (ev_ex (wantS_yes' rfl rfl hc6) (ex_move rfl)) rfl rfl (slc_self hs1) st_nil) ?_
      refine DrawG.call rfl (wantS_yes' rfl rfl hc6) (ex_call rfl mkk25 cal25) (orK_right (oneK_other rfl _ _ _ _ _) (orK_right (oneK_other rfl _ _ _ _ _) (orK_right (oneK_other rfl _ _ _ _ _) (orK_left (oneK_same _ _ _ _))))) rfl st_nil ?_
      refine DrawG.fl rfl (ev_ex (wantS_yes' rfl rfl hc6) (ex_eql rfl rfl)) rfl rfl ?_
      refine DrawG.fl rfl (ev_ex wantS_none (ex_pickT' rfl hc6 rfl rfl)) rfl rfl ?_
      refine DrawG.fl rfl (ev_ex wantS_none (ex_move rfl)) rfl rfl ?_
      refine DrawG.fl rfl (ev_no (wantS_not' rfl rfl hc9)) rfl rfl ?_
      refine DrawG.fl rfl (ev_no (wantS_not' rfl rfl hc9)) rfl rfl ?_
      refine DrawG.no rfl (wantS_not' rfl rfl hc9) rfl st_nil ?_
      refine DrawG.fl rfl (ev_ex wantS_none (ex_pickF' rfl hc9 rfl rfl)) rfl rfl ?_
      refine DrawG.fl rfl (ev_ex wantS_none (ex_move rfl)) rfl rfl ?_
      refine DrawG.fl rfl (ev_no (wantS_not' rfl rfl rfl)) rfl rfl ?_
      refine DrawG.fl rfl (ev_no (wantS_not' rfl rfl rfl)) rfl rfl ?_
      refine DrawG.fl rfl (ev_no (wantS_not' rfl rfl rfl)) rfl rfl ?_
      refine DrawG.fl rfl (ev_ex wantS_none (ex_pickF' rfl rfl rfl rfl)) rfl rfl ?_
      refine DrawG.fl rfl (ev_ex wantS_none (ex_move rfl)) rfl rfl ?_
      refine DrawG.no rfl (wantS_not' rfl rfl rfl) rfl st_nil ?_
      refine DrawG.fl rfl (ev_ex wantS_none (ex_pickF' rfl rfl rfl rfl)) rfl rfl ?_
      refine DrawG.fl rfl (ev_ex wantS_none (ex_assign rfl)) rfl rfl ?_
      refine DrawG.sync ?_
      refine DrawG.nil ?_
      exact Run.pick [4] (law05_RecordStrains_1_ok F false _ _ h)
  · have h := bif_f hc6 h
    refine Run.drawG (sound_cons (M := M3) (record_CheckModel_ok F a0 s0 _ _ (slc_rd hs0) hr4) (sound_cons (M := M3) (ref05_CheckModel_ok F a0 s0 _ _ (slc_rd hs0) hr5) (sound_nil _))) plan4_1_1_1_0 ?_
    refine DrawG.fl rfl (ev_ex wantS_none (ex_loadA rfl (ho1.at 0 rfl) rdLe_rfl agg52 rfl rfl rfl)) rfl rfl ?_
    refine DrawG.fl rfl (ev_ex wantS_none (ex_loadA rfl (ho1.at 0 rfl) rdLe_rfl agg52 rfl rfl rfl)) rfl rfl ?_
    refine DrawG.call rfl wantS_none (ex_call rfl mkk22 cal22) (orK_left (oneK_same _ _ _ _)) rfl (st_cons rfl (ev_ex wantS_none (ex_loadA rfl (ho1.at 0 rfl) rdLe_rfl agg52 rfl rfl rfl)) rfl rfl (self_agg (self_cons (slc_self hs0) (self_cons rfl self_nil))) st_nil) ?_
    refine DrawG.call rfl wantS_none (ex_call rfl mkk23 cal23) (orK_right (oneK_other rfl _ _ _ _ _) (orK_left (oneK_same _ _ _ _))) rfl st_nil ?_
    refine DrawG.fl rfl (ev_ex wantS_none (ex_eql rfl rfl)) rfl rfl ?_
    refine DrawG.fl rfl (ev_ex wantS_none (ex_move rfl)) rfl rfl ?_
    refine DrawG.fl rfl (ev_no (wantS_not' rfl rfl hc6)) rfl rfl ?_
    refine DrawG.fl rfl (ev_no (wantS_not' rfl rfl hc6)) rfl rfl ?_
    refine DrawG.no rfl (wantS_not' rfl rfl hc6) rfl (st_cons rfl (ev_no (wantS_not' rfl rfl hc6)) rfl rfl rfl st_nil) ?_
    refine DrawG.no rfl (wantS_not' rfl rfl hc6) rfl st_nil ?_
    refine DrawG.fl rfl (ev_no (wantS_not' rfl rfl hc6)) rfl rfl ?_
    refine DrawG.fl rfl (ev_ex wantS_none (ex_pickF' rfl hc6 rfl rfl)) rfl rfl ?_
    refine DrawG.fl rfl (ev_ex wantS_none (ex_move rfl)) rfl rfl ?_
    refine DrawG.fl rfl (ev_no (wantS_not' rfl rfl rfl)) rfl rfl ?_
    refine DrawG.fl rfl (ev_no (wantS_not' rfl rfl rfl)) rfl rfl ?_
    refine DrawG.no rfl (wantS_not' rfl rfl rfl) rfl st_nil ?_
    refine DrawG.fl rfl (ev_ex wantS_none (ex_pickF' rfl rfl rfl rfl)) rfl rfl ?_
    refine DrawG.fl rfl (ev_ex wantS_none (ex_move rfl)) rfl rfl ?_
    refine DrawG.fl rfl (ev_no (wantS_not' rfl rfl rfl)) rfl rfl ?_
    refine DrawG.fl rfl (ev_no (wantS_not' rfl rfl rfl)) rfl rfl ?_
    refine DrawG.fl rfl (ev_no (wantS_not' rfl rfl rfl)) rfl rfl ?_
    refine DrawG.fl rfl (ev_ex wantS_none (ex_pickF' rfl rfl rfl rfl)) rfl rfl ?_
    refine DrawG.fl rfl (ev_ex wantS_none (ex_move rfl)) rfl rfl ?_
    refine DrawG.no rfl (wantS_not' rfl rfl rfl) rfl st_nil ?_
    refine DrawG.fl rfl (ev_ex wantS_none (ex_pickF' rfl rfl rfl rfl)) rfl rfl ?_
    refine DrawG.fl rfl (ev_ex wantS_none (ex_assign rfl)) rfl rfl ?_
    refine DrawG.sync ?_
    refine DrawG.nil ?_
    exact Run.pick [4] (law05_RecordStrains_1_ok F false _ _ h)

end Go.Ev.RecordStrains
