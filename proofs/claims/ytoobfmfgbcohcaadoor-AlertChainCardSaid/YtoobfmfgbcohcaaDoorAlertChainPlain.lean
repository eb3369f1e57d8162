/- Plain functions that say what functions of the program come to, and proofs of it, written by a program of the verifier's own. -/
import Derived.Test.YtoobfmfgbcohcaaDoorShelf
import Derived.Test.YtoobfmfgbcohcaaDoorEvL18
import Derived.Test.YtoobfmfgbcohcaaDoorWorks
import Derived.KernelRfl
namespace Go.Ev.AlertChain
open Go Go.Ev Go.Proofs
set_option maxRecDepth 100000
set_option linter.unusedVariables false

noncomputable def fixes : List (Nat × List SV) := Go.Proofs.YtoobfmfgbcohcaaDoor.works.fixes
noncomputable def tb0 : Ent := fixE (1, intCells .u8 [0, 1, 28, 2, 29, 14, 24, 3, 30, 22, 20, 15, 25, 17, 4, 8, 31, 27, 13, 23, 21, 19, 16, 7, 26, 12, 18, 6, 11, 5, 10, 9])
noncomputable def tb1 : Ent := fixE (2, intCells .u8 [0, 1, 56, 2, 57, 49, 28, 3, 61, 58, 42, 50, 38, 29, 17, 4, 62, 47, 59, 36, 45, 43, 51, 22, 53, 39, 33, 30, 24, 18, 12, 5, 63, 55, 48, 27, 60, 41, 37, 16, 46, 35, 44, 21, 52, 32, 23, 11, 54, 26, 40, 15, 34, 20, 31, 10, 25, 14, 19, 9, 13, 8, 7, 6])
noncomputable def tb2 : Ent := fixE (0, intCells .u64 [1, 10, 100, 1000, 10000, 100000, 1000000, 10000000, 100000000, 1000000000, 10000000000, 100000000000, 1000000000000, 10000000000000, 100000000000000, 1000000000000000, 10000000000000000, 100000000000000000, 1000000000000000000, 10000000000000000000])
def works (_ : Nat) : Option Bool := some true
theorem fixH {Fr : Rd} {H : List Ent} {M : Mem} (hH : Has Fr M H) (h0 : tb0 ∈ H) (h1 : tb1 ∈ H) (h2 : tb2 ∈ H) : FixIn M fixes := by
  refine hH.fixIn fun x hx => ?_
  simp only [fixes, Go.Proofs.YtoobfmfgbcohcaaDoor.works.fixes, List.mem_cons, List.not_mem_nil, or_false] at hx
  rcases hx with rfl | rfl | rfl
  · exact h0
  · exact h1
  · exact h2

theorem works_ok (F : Nat) (r : Bool) {Fr : Rd} {H : List Ent} (M : Mem) (hH : Has Fr M H) (h0 : tb0 ∈ H) (h1 : tb1 ∈ H) (h2 : tb2 ∈ H) (h : works F = some r) : CallsM Tryd.prog 14 [] M fun s M' => s = .bool r ∧ M' = M := by
  cases h
  refine CallsM.closedFix (n := 300) (l := Go.Proofs.YtoobfmfgbcohcaaDoor.works.fixes) Go.Proofs.YtoobfmfgbcohcaaDoor.works.below Go.Proofs.YtoobfmfgbcohcaaDoor.works.plainF Go.Proofs.YtoobfmfgbcohcaaDoor.works.works_true (hH.fixIn fun x hx => ?_)
  simp only [Go.Proofs.YtoobfmfgbcohcaaDoor.works.fixes, List.mem_cons, List.not_mem_nil, or_false] at hx
  rcases hx with rfl | rfl | rfl
  · exact h0
  · exact h1
  · exact h2

def itoa (_ : Nat) (n : Int) : Option (List UInt8) := bif decide (-9223372036854775808 ≤ n) && decide (n ≤ 9223372036854775807) then some (Lib.itoa n) else none
theorem below_grown (w : World) (k : Nat) (os : Array Obj) : Go.RowKit.Below w.heap.size w (Sort.grow (w.drewN k) os) :=
  ⟨rfl, rfl, rfl, by simp [Sort.grow, World.drewN], fun i hi => by simp [Sort.grow, World.drewN, Array.getElem?_append, hi]⟩
theorem itoa_ok (F : Nat) (a0 : Int) (r : List UInt8) (M : Mem) (hfx : FixIn M fixes) (h : itoa F a0 = some r) : CallsM Tryd.prog 105 [.int .i64 a0] M fun s M' => s = .str r ∧ M' = M := by
  unfold itoa at h
  cases hb : (decide (-9223372036854775808 ≤ a0) && decide (a0 ≤ 9223372036854775807)) with
  | false => rw [hb] at h; simp at h
  | true =>
    rw [hb] at h
    obtain rfl := Option.some.inj h
    rw [Bool.and_eq_true, decide_eq_true_eq, decide_eq_true_eq] at hb
    refine CallsM.known (n := 300) (l := fixes) (vs := [.int .i64 a0]) (v := .string ⟨(Lib.itoa a0).toArray⟩) (fun _ => rfl) (fun _ => rfl) Go.Proofs.YtoobfmfgbcohcaaDoor.works.below Go.Proofs.YtoobfmfgbcohcaaDoor.works.plainF (fun w m hr => ?_) hfx
    refine (Tryd.strconv_Itoa a0 hb.1 hb.2 w (tab_is hr (List.mem_of_getElem? (i := 2) rfl) rfl (by kernel_rfl))).mono ?_
    rintro e w' ⟨rfl, k, os, rfl⟩
    exact ⟨rfl, below_grown w k os⟩


structure S_api_Key where
  Modulus : Int
  Exponent : Int

structure S_api_Roll where
  Keys : (List S_api_Key)
  Quorum : Int

structure S_api_Chance where
  N : Int
  Of : Int

structure S_api_Alert where
  Event : (List UInt8)
  Version : Int
  Time : Int
  Chance : S_api_Chance
  Grid : Int
  Cells : (List Int)
  Withdrawn : Bool
  Before : Int

structure S_api_Signature where
  Signer : Int
  Number : Int

structure S_api_Notice where
  Alert : S_api_Alert
  Signatures : (List S_api_Signature)

def enc24 (a : S_api_Key) : List SV := [(.int .i64 a.Modulus), (.int .i64 a.Exponent)]
theorem enc24_len (a : S_api_Key) : (enc24 a).length = 2 := rfl
theorem enc24_ones (a : S_api_Key) : ones (enc24 a) = true := rfl
def enc3 (a : Int) : List SV := [(.int .i64 a)]
theorem enc3_len (a : Int) : (enc3 a).length = 1 := rfl
theorem enc3_ones (a : Int) : ones (enc3 a) = true := rfl
def enc111 (a : S_api_Signature) : List SV := [(.int .i64 a.Signer), (.int .i64 a.Number)]
theorem enc111_len (a : S_api_Signature) : (enc111 a).length = 2 := rfl
theorem enc111_ones (a : S_api_Signature) : ones (enc111 a) = true := rfl
def rep46 (f : Rd) (cs : List SV) (a : S_api_Notice) : Prop := ∃ q1 q2, cs = [(.str a.Alert.Event), (.int .i64 a.Alert.Version), (.int .i64 a.Alert.Time), (.int .i64 a.Alert.Chance.N), (.int .i64 a.Alert.Chance.Of), (.int .i64 a.Alert.Grid), q1, (.bool a.Alert.Withdrawn), (.int .i64 a.Alert.Before), q2] ∧ Slc f 1 (FlatR enc3) q1 a.Alert.Cells ∧ Slc f 2 (FlatR enc111) q2 a.Signatures
theorem rep46_mo {f g : Rd} (h : RdLe f g) {cs : List SV} {a : S_api_Notice} : rep46 f cs a → rep46 g cs a := by
  rintro ⟨q1, q2, rfl, h0, h1⟩
  exact ⟨q1, q2, rfl, h0.mono h (fun _ _ h => h), h1.mono h (fun _ _ h => h)⟩
theorem rep46_len {f : Rd} {cs : List SV} {a : S_api_Notice} : rep46 f cs a → cs.length = 10 := by
  rintro ⟨_, _, rfl, h0, h1⟩
  rfl
theorem rep46_ones {f : Rd} {cs : List SV} {a : S_api_Notice} : rep46 f cs a → ones cs = true := by
  rintro ⟨_, _, rfl, h0, h1⟩
  exact (ones_cons rfl (ones_cons rfl (ones_cons rfl (ones_cons rfl (ones_cons rfl (ones_cons rfl (ones_cons (slc_one h0) (ones_cons rfl (ones_cons rfl (ones_cons (slc_one h1) ones_nil))))))))))
theorem agg43 : aggSize Tryd.prog 43 = some (some 2) := by kernel_rfl
theorem mkk29 : makeK Tryd.prog 29 = none := by kernel_rfl
theorem cal29 : callable Tryd.prog 29 = true := by kernel_rfl
theorem off43_0 : fieldOff Tryd.prog 43 0 = some 0 := by kernel_rfl
theorem agg41 : aggSize Tryd.prog 41 = some none := by kernel_rfl
theorem lenk41 : lenK Tryd.prog 41 = some .sl := by kernel_rfl
abbrev alert_isFrom_post (r : Bool) : SV → Mem → Prop := fun s _ => s = (.bool r)

def alert_isFrom_1 (F : Nat) (v14 : Bool) : Option (Bool) :=
  some v14

theorem alert_isFrom_1_ok (F : Nat) : ∀ (v14 : Bool) (Fr : Rd) (M : Mem) (r : Bool) (hH : Has Fr M []), alert_isFrom_1 F v14 = some r → Run Tryd.prog ⟨⟨36, [], none⟩, []⟩ 15 (alert_isFrom_post r) [(14, (.bool v14))] [itemC Tryd.prog 36 [1, 0] 8, codeC Tryd.prog 36 [1, 1]] M := by
  intro v14 Fr M r hH h
  rw [alert_isFrom_1] at h
  refine Run.opG wantS_none (ex_assign rfl) rfl ?_
  refine Run.opsEnd ?_
  cases h
  exact Run.ret Tryd.func36 rfl (res_tmp rfl res_nil) rfl

def alert_isFrom (F : Nat) (a0 a1 a2 : Int) : Option (Bool) :=
  bif (decide (a0 ≤ a1)) then
    alert_isFrom_1 F (decide (a1 ≤ a2))
  else
    alert_isFrom_1 F false

theorem alert_isFrom_ok (F : Nat) (a0 a1 a2 : Int) (r : Bool) (M : Mem) (h : alert_isFrom F a0 a1 a2 = some r) : CallsM Tryd.prog 36 [(.int .i64 a0), (.int .i64 a1), (.int .i64 a2)] M (fun s M' => s = (.bool r) ∧ M' = M) := by
  refine CallsM.plain Tryd.func36 rfl rfl rfl (show Run _ _ _ (alert_isFrom_post r) _ _ _ from ?_)
  rw [alert_isFrom] at h
  have hH := Has.nil (frozen M)
  refine Run.seq (Run.region ?_)
  refine Run.opG wantS_none (ex_assign rfl) rfl ?_
  refine Run.opsEnd (Run.seq (Run.region ?_))
  refine Run.opG wantS_none (ex_move rfl) rfl ?_
  refine Run.opG wantS_none (ex_move rfl) rfl ?_
  refine Run.opG wantS_none (ex_leq rfl rfl) rfl ?_
  refine Run.opG wantS_none (ex_move rfl) rfl ?_
  rcases btf ((decide (a0 ≤ a1))) with hc21 | hc21
  · have h := bif_t hc21 h
    refine Run.opG (wantS_yes' rfl rfl hc21) (ex_move rfl) rfl ?_
    refine Run.opG (wantS_yes' rfl rfl hc21) (ex_move rfl) rfl ?_
    refine Run.opG (wantS_yes' rfl rfl hc21) (ex_leq rfl rfl) rfl ?_
    refine Run.opG wantS_none (ex_pickT' rfl hc21 rfl rfl) rfl ?_
    exact Run.pick [14] (alert_isFrom_1_ok F (decide (a1 ≤ a2)) _ _ _ hH h)
  · have h := bif_f hc21 h
    refine Run.no (wantS_not' rfl rfl hc21) rfl ?_
    refine Run.no (wantS_not' rfl rfl hc21) rfl ?_
    refine Run.no (wantS_not' rfl rfl hc21) rfl ?_
    refine Run.opG wantS_none (ex_pickF' rfl hc21 rfl rfl) rfl ?_
    exact Run.pick [14] (alert_isFrom_1_ok F false _ _ _ hH h)

theorem mkk36 : makeK Tryd.prog 36 = none := by kernel_rfl
theorem cal36 : callable Tryd.prog 36 = true := by kernel_rfl
theorem els41 : elems Tryd.prog 41 = some (.sl 2) := by kernel_rfl
theorem agg24 : aggSize Tryd.prog 24 = some (some 2) := by kernel_rfl
theorem zer24 : zerosOf Tryd.prog 24 = some [(.int .i64 0), (.int .i64 0)] := by kernel_rfl
theorem sz24 : szOf Tryd.prog 24 = some 2 := by kernel_rfl
theorem off79_0 : fieldOff Tryd.prog 79 0 = some 0 := by kernel_rfl
theorem agg3 : aggSize Tryd.prog 3 = some none := by kernel_rfl
theorem off79_1 : fieldOff Tryd.prog 79 1 = some 1 := by kernel_rfl
abbrev alert_key_isPlausible_post (r : Bool) : SV → Mem → Prop := fun s _ => s = (.bool r)

def alert_key_isPlausible_1 (F : Nat) (v10 : Bool) : Option (Bool) :=
  some v10

theorem alert_key_isPlausible_1_ok (F : Nat) : ∀ (v10 : Bool) (Fr : Rd) (M : Mem) (r : Bool) (hH : Has Fr M []), alert_key_isPlausible_1 F v10 = some r → Run Tryd.prog ⟨⟨42, [], none⟩, []⟩ 11 (alert_key_isPlausible_post r) [(10, (.bool v10))] [itemC Tryd.prog 42 [1, 0] 8, codeC Tryd.prog 42 [1, 1]] M := by
  intro v10 Fr M r hH h
  rw [alert_key_isPlausible_1] at h
  refine Run.opG wantS_none (ex_assign rfl) rfl ?_
  refine Run.opsEnd ?_
  cases h
  exact Run.ret Tryd.func42 rfl (res_tmp rfl res_nil) rfl

def alert_key_isPlausible (F : Nat) (a0 : S_api_Key) : Option (Bool) :=
  bnd (alert_isFrom F (15 : Int) a0.Modulus (1073741824 : Int)) fun r25 =>
  bif r25 then
    bnd (alert_isFrom F (3 : Int) a0.Exponent (32749 : Int)) fun r29 =>
    alert_key_isPlausible_1 F r29
  else
    alert_key_isPlausible_1 F false

theorem alert_key_isPlausible_ok (F : Nat) (a0 : S_api_Key) (r : Bool) (M : Mem) (h : alert_key_isPlausible F a0 = some r) : CallsM Tryd.prog 42 [(.agg [(.int .i64 a0.Modulus), (.int .i64 a0.Exponent)])] M (fun s M' => s = (.bool r) ∧ M' = M) := by
  refine CallsM.plain Tryd.func42 rfl rfl rfl (show Run _ _ _ (alert_key_isPlausible_post r) _ _ _ from ?_)
  rw [alert_key_isPlausible] at h
  have hH := Has.nil (frozen M)
  refine Run.seq (Run.region ?_)
  refine Run.opX wantS_none rfl (ExG.box rfl rfl hH) ?_
  rintro _ M23 ⟨b22, rfl, hH23⟩
  refine Run.opG wantS_none (ex_assign rfl) rfl ?_
  refine Run.opsEnd (Run.seq (Run.region ?_))
  refine Run.opG wantS_none (ex_fieldAddr rfl off79_0) rfl ?_
  refine Run.opG wantS_none (ex_load1 rfl (hH23.cells (i := 0) rfl 0 rfl) rdLe_rfl agg3) rfl ?_
  obtain ⟨r25, hr25, h⟩ := bnd_some h
  refine Run.callP wantS_none (ex_call rfl mkk36 cal36) rfl (alert_isFrom_ok F (15 : Int) a0.Modulus (1073741824 : Int) _ _ hr25) ?_
  refine Run.opG wantS_none (ex_move rfl) rfl ?_
  rcases btf (r25) with hc27 | hc27
  · have h := bif_t hc27 h
    refine Run.opG (wantS_yes' rfl rfl hc27) (ex_fieldAddr rfl off79_1) rfl ?_
    refine Run.opG (wantS_yes' rfl rfl hc27) (ex_load1 rfl (hH23.cells (i := 0) rfl 1 rfl) rdLe_rfl agg3) rfl ?_
    obtain ⟨r29, hr29, h⟩ := bnd_some h
    refine Run.callP (wantS_yes' rfl rfl hc27) (ex_call rfl mkk36 cal36) rfl (alert_isFrom_ok F (3 : Int) a0.Exponent (32749 : Int) _ _ hr29) ?_
    refine Run.opG wantS_none (ex_pickT' rfl hc27 rfl rfl) rfl ?_
    exact Run.pick [10] (alert_key_isPlausible_1_ok F r29 _ _ _ (hH23.pick [] rfl rfl) h)
  · have h := bif_f hc27 h
    refine Run.no (wantS_not' rfl rfl hc27) rfl ?_
    refine Run.no (wantS_not' rfl rfl hc27) rfl ?_
    refine Run.no (wantS_not' rfl rfl hc27) rfl ?_
    refine Run.opG wantS_none (ex_pickF' rfl hc27 rfl rfl) rfl ?_
    exact Run.pick [10] (alert_key_isPlausible_1_ok F false _ _ _ (hH23.pick [] rfl rfl) h)

theorem mkk42 : makeK Tryd.prog 42 = none := by kernel_rfl
theorem cal42 : callable Tryd.prog 42 = true := by kernel_rfl
theorem slk41 : slK Tryd.prog 41 = some (.sl 2) := by kernel_rfl
theorem mkk79 : makeK Tryd.prog 79 = none := by kernel_rfl
theorem cal79 : callable Tryd.prog 79 = true := by kernel_rfl
theorem mkk97 : makeK Tryd.prog 97 = none := by kernel_rfl
theorem cal97 : callable Tryd.prog 97 = true := by kernel_rfl
theorem mkk78 : makeK Tryd.prog 78 = none := by kernel_rfl
theorem cal78 : callable Tryd.prog 78 = true := by kernel_rfl
theorem off24_0 : fieldOff Tryd.prog 24 0 = some 0 := by kernel_rfl
theorem off43_1 : fieldOff Tryd.prog 43 1 = some 1 := by kernel_rfl
abbrev alert_isRoll_post (r : Bool) : SV → Mem → Prop := fun s _ => s = (.bool r)

def alert_isRoll_3 (F : Nat) (hd2 : (List S_api_Key) → Int → Int → (List S_api_Key) → Int → Option (Bool)) (v21 : (List S_api_Key)) (v22 v23 : Int) (v39 : Bool) (c22_0 : (List S_api_Key)) (c22_1 : Int) : Option (Bool) :=
  bif v39 then
    some false
  else
    hd2 v21 v22 (w64 (v23 + (1 : Int))) c22_0 c22_1

theorem alert_isRoll_3_ok (F : Nat) (hd2 : (List S_api_Key) → Int → Int → (List S_api_Key) → Int → Option (Bool)) (hhd2 : ∀ (v21 : (List S_api_Key)) (v22 v23 : Int) (c22_0 : (List S_api_Key)) (c22_1 : Int) (sv21 sc22_0 : SV) (b22 : Pos) (Fr : Rd) (M : Mem) (r : Bool) (hv21 : Slc Fr 2 (FlatR enc24) sv21 v21) (hc22_0 : Slc Fr 2 (FlatR enc24) sc22_0 c22_0) (hH : Has Fr M [.obj b22 (.row 43 .whole [sc22_0, (.int .i64 c22_1)])]), hd2 v21 v22 v23 c22_0 c22_1 = some r → Run Tryd.prog ⟨⟨56, [], none⟩, []⟩ 41 (alert_isRoll_post r) [(1, (.ptr b22 0)), (21, sv21), (22, (.int .i64 v22)), (23, (.int .i64 v23))] [codeC Tryd.prog 56 [1, 1, 0, 1, 0, 0], loopC Tryd.prog 56 [1, 1, 0, 1, 0, 0], .inBlock 0, codeC Tryd.prog 56 [1, 1, 1]] M) : ∀ (v21 : (List S_api_Key)) (v22 v23 : Int) (v39 : Bool) (c22_0 : (List S_api_Key)) (c22_1 : Int) (sv21 sc22_0 : SV) (b22 : Pos) (Fr : Rd) (M : Mem) (r : Bool) (hv21 : Slc Fr 2 (FlatR enc24) sv21 v21) (hc22_0 : Slc Fr 2 (FlatR enc24) sc22_0 c22_0) (hH : Has Fr M [.obj b22 (.row 43 .whole [sc22_0, (.int .i64 c22_1)])]), alert_isRoll_3 F hd2 v21 v22 v23 v39 c22_0 c22_1 = some r → Run Tryd.prog ⟨⟨56, [], none⟩, []⟩ 41 (alert_isRoll_post r) [(1, (.ptr b22 0)), (21, sv21), (22, (.int .i64 v22)), (23, (.int .i64 v23)), (39, (.bool v39))] [codeC Tryd.prog 56 [1, 1, 0, 1, 0, 0, 1, 1, 0, 0, 1, 1, 1], .inBlock 1, codeC Tryd.prog 56 [1, 1, 0, 1, 0, 0, 1, 1, 1], loopC Tryd.prog 56 [1, 1, 0, 1, 0, 0], .inBlock 0, codeC Tryd.prog 56 [1, 1, 1]] M := by
  intro v21 v22 v23 v39 c22_0 c22_1 sv21 sc22_0 b22 Fr M r hv21 hc22_0 hH h
  rw [alert_isRoll_3] at h
  rcases btf (v39) with hc40 | hc40
  · have h := bif_t hc40 h
    refine Run.condT' rfl hc40 ?_
    refine Run.seq (Run.region ?_)
    refine Run.opG wantS_none (ex_assign rfl) rfl ?_
    refine Run.opsEnd ?_
    cases h
    exact Run.ret Tryd.func56 rfl (res_tmp rfl res_nil) rfl
  · have h := bif_f hc40 h
    refine Run.condF' rfl hc40 ?_
    refine Run.skip (Run.inBlock (Run.region ?_))
    refine Run.opG wantS_none (ex_add rfl rfl) rfl ?_
    refine Run.opG wantS_none (ex_move rfl) rfl ?_
    refine Run.opsEnd (Run.inLoop ?_)
    exact Run.pick [1, 21, 22, 23] (hhd2 v21 v22 (w64 (v23 + (1 : Int))) c22_0 c22_1 sv21 sc22_0 b22 _ _ _ hv21 hc22_0 hH h)

def alert_isRoll_4 (F : Nat) (hd2 : (List S_api_Key) → Int → Int → (List S_api_Key) → Int → Option (Bool)) : Nat → (List S_api_Key) → Int → Int → (List S_api_Key) → Int → Int → Bool → S_api_Key → (List S_api_Key) → Int → Option (Bool)
  | 0, _, _, _, _, _, _, _, _, _, _ => none
  | N + 1, v0, v7, v8, v21_f2, v22_f2, v23_f2, v32_f2, c33, c22_0, c22_1 =>
    bif (decide (v8 < v7)) then
      bnd (idx v0 v8) fun x45 =>
      bif (x45.Modulus == c33.Modulus) then
        alert_isRoll_3 F hd2 v21_f2 v22_f2 v23_f2 (bif v32_f2 then true else (decide ((0 : Int) ≤ v8))) c22_0 c22_1
      else
        (alert_isRoll_4 F hd2 N) v0 v7 (w64 (v8 + (1 : Int))) v21_f2 v22_f2 v23_f2 v32_f2 c33 c22_0 c22_1
    else
      alert_isRoll_3 F hd2 v21_f2 v22_f2 v23_f2 (bif v32_f2 then true else (decide ((0 : Int) ≤ ((-1) : Int)))) c22_0 c22_1

theorem alert_isRoll_4_ok (F : Nat) (hd2 : (List S_api_Key) → Int → Int → (List S_api_Key) → Int → Option (Bool)) (hhd2 : ∀ (v21 : (List S_api_Key)) (v22 v23 : Int) (c22_0 : (List S_api_Key)) (c22_1 : Int) (sv21 sc22_0 : SV) (b22 : Pos) (Fr : Rd) (M : Mem) (r : Bool) (hv21 : Slc Fr 2 (FlatR enc24) sv21 v21) (hc22_0 : Slc Fr 2 (FlatR enc24) sc22_0 c22_0) (hH : Has Fr M [.obj b22 (.row 43 .whole [sc22_0, (.int .i64 c22_1)])]), hd2 v21 v22 v23 c22_0 c22_1 = some r → Run Tryd.prog ⟨⟨56, [], none⟩, []⟩ 41 (alert_isRoll_post r) [(1, (.ptr b22 0)), (21, sv21), (22, (.int .i64 v22)), (23, (.int .i64 v23))] [codeC Tryd.prog 56 [1, 1, 0, 1, 0, 0], loopC Tryd.prog 56 [1, 1, 0, 1, 0, 0], .inBlock 0, codeC Tryd.prog 56 [1, 1, 1]] M) : ∀ (N : Nat), ∀ (v0 : (List S_api_Key)) (v7 v8 : Int) (v21_f2 : (List S_api_Key)) (v22_f2 v23_f2 : Int) (v32_f2 : Bool) (c33 : S_api_Key) (c22_0 : (List S_api_Key)) (c22_1 : Int) (sv0 sv21_f2 sc22_0 : SV) (b33 b22 : Pos) (Fr : Rd) (M : Mem) (r : Bool) (hv0 : Slc Fr 2 (FlatR enc24) sv0 v0) (hv21_f2 : Slc Fr 2 (FlatR enc24) sv21_f2 v21_f2) (hc22_0 : Slc Fr 2 (FlatR enc24) sc22_0 c22_0) (hH : Has Fr M [.obj b33 (.row 24 .whole [(.int .i64 c33.Modulus), (.int .i64 c33.Exponent)]), .obj b22 (.row 43 .whole [sc22_0, (.int .i64 c22_1)])]), alert_isRoll_4 F hd2 N v0 v7 v8 v21_f2 v22_f2 v23_f2 v32_f2 c33 c22_0 c22_1 = some r → Run Tryd.prog ⟨⟨97, [], none⟩, [.mk ⟨79, [], none⟩ 9 (treeOf []) [itemC Tryd.prog 79 [1, 0] 2, codeC Tryd.prog 79 [1, 1]], .mk ⟨56, [], none⟩ 41 (treeOf [(1, (.ptr b22 0)), (21, sv21_f2), (22, (.int .i64 v22_f2)), (23, (.int .i64 v23_f2)), (32, (.bool v32_f2))]) [itemC Tryd.prog 56 [1, 1, 0, 1, 0, 0, 1, 1, 0, 0, 1, 1, 0] 9, codeC Tryd.prog 56 [1, 1, 0, 1, 0, 0, 1, 1, 0, 0, 1, 1, 1], .inBlock 1, codeC Tryd.prog 56 [1, 1, 0, 1, 0, 0, 1, 1, 1], loopC Tryd.prog 56 [1, 1, 0, 1, 0, 0], .inBlock 0, codeC Tryd.prog 56 [1, 1, 1]]]⟩ 19 (alert_isRoll_post r) [(0, sv0), (1, (.fn (.func 78) [] [(.ptr b33 0)])), (7, (.int .i64 v7)), (8, (.int .i64 v8))] [codeC Tryd.prog 97 [1, 0, 1, 0, 0], loopC Tryd.prog 97 [1, 0, 1, 0, 0], .inBlock 0, codeC Tryd.prog 97 [1, 1]] M := by
  intro N
  induction N with
  | zero =>
    intro v0 v7 v8 v21_f2 v22_f2 v23_f2 v32_f2 c33 c22_0 c22_1 sv0 sv21_f2 sc22_0 b33 b22 Fr M r hv0 hv21_f2 hc22_0 hH h
    simp [alert_isRoll_4] at h
  | succ N ih =>
    intro v0 v7 v8 v21_f2 v22_f2 v23_f2 v32_f2 c33 c22_0 c22_1 sv0 sv21_f2 sc22_0 b33 b22 Fr M r hv0 hv21_f2 hc22_0 hH h
    rw [alert_isRoll_4] at h
    refine Run.seq (Run.region ?_)
    refine Run.opG wantS_none (ex_lss rfl rfl) rfl ?_
    refine Run.opsEnd (Run.seq ?_)
    rcases btf ((decide (v8 < v7))) with hc43 | hc43
    · have h := bif_t hc43 h
      refine Run.condT' rfl hc43 ?_
      refine Run.skip (Run.seq (Run.block (Run.seq (Run.region ?_))))
      refine Run.opG wantS_none (ex_move rfl) rfl ?_
      refine Run.opG wantS_none (ex_assign rfl) rfl ?_
      refine Run.opsEnd (Run.seq (Run.region ?_))
      refine Run.opG wantS_none (ex_move rfl) rfl ?_
      refine Run.opG wantS_none (ex_move rfl) rfl ?_
      refine Run.opG wantS_none (ex_move rfl) rfl ?_
      obtain ⟨x45, hx45, h⟩ := bnd_some h
      obtain ⟨p45, o45, _, hx45, hp45, rfl⟩ := sl_elem (P := Tryd.prog) (t := 41) (kk := .i64) hv0 hx45 els41
      refine Run.opG wantS_none (ex_elX rfl rfl hx45) rfl ?_
      refine Run.opG wantS_none (ex_loadA rfl (hH.ptrF hp45) rdLe_rfl agg24 rfl rfl rfl) rfl ?_
      refine Run.enter wantS_none (ex_closure rfl rfl mkk78 cal78) Tryd.func78 rfl rfl ?_
      refine Run.seq (Run.region ?_)
      refine Run.opX wantS_none rfl (ExG.box rfl rfl hH) ?_
      rintro _ M48 ⟨b47, rfl, hH48⟩
      refine Run.opG wantS_none (ex_assign rfl) rfl ?_
      refine Run.opsEnd (Run.seq (Run.region ?_))
      refine Run.opG wantS_none (ex_fieldAddr rfl off24_0) rfl ?_
      refine Run.opG wantS_none (ex_load1 rfl (hH48.cells (i := 0) rfl 0 rfl) rdLe_rfl agg3) rfl ?_
      refine Run.opG wantS_none (ex_fieldAddr rfl off24_0) rfl ?_
      refine Run.opG wantS_none (ex_load1 rfl (hH48.cells (i := 1) rfl 0 rfl) rdLe_rfl agg3) rfl ?_
      refine Run.opG wantS_none (ex_eql rfl rfl) rfl ?_
      refine Run.opG wantS_none (ex_assign rfl) rfl ?_
      refine Run.opsEnd ?_
      refine Run.retTo Tryd.func78 rfl (res_tmp rfl res_nil) rfl ?_
      refine Run.opsEnd ?_
      rcases btf ((x45.Modulus == c33.Modulus)) with hc49 | hc49
      · have h := bif_t hc49 h
        refine Run.condT' rfl hc49 ?_
        refine Run.seq (Run.region ?_)
        refine Run.opG wantS_none (ex_move rfl) rfl ?_
        refine Run.opG wantS_none (ex_assign rfl) rfl ?_
        refine Run.opsEnd ?_
        refine Run.retTo Tryd.func97 rfl (res_tmp rfl res_nil) rfl ?_
        refine Run.opG wantS_none (ex_geq rfl rfl) rfl ?_
        refine Run.opG wantS_none (ex_assign rfl) rfl ?_
        refine Run.opsEnd ?_
        refine Run.retTo Tryd.func79 rfl (res_tmp rfl res_nil) rfl ?_
        refine Run.opG wantS_none (ex_pickB rfl rfl rfl) rfl ?_
        refine Run.opsEnd ?_
        exact Run.pick [1, 21, 22, 23, 39] (alert_isRoll_3_ok F hd2 hhd2 v21_f2 v22_f2 v23_f2 (bif v32_f2 then true else (decide ((0 : Int) ≤ v8))) c22_0 c22_1 sv21_f2 sc22_0 b22 _ _ _ hv21_f2 hc22_0 (hH48.pick [2] rfl rfl) h)
      · have h := bif_f hc49 h
        refine Run.condF' rfl hc49 ?_
        refine Run.skip (Run.inBlock (Run.region ?_))
        refine Run.opG wantS_none (ex_add rfl rfl) rfl ?_
        refine Run.opG wantS_none (ex_move rfl) rfl ?_
        refine Run.opsEnd (Run.inLoop ?_)
        exact Run.low (.cons (fle_pick [] rfl) (.cons (fle_pick [1, 21, 22, 23, 32] rfl) .nil)) (Run.pick [0, 1, 7, 8] (ih v0 v7 (w64 (v8 + (1 : Int))) v21_f2 v22_f2 v23_f2 v32_f2 c33 c22_0 c22_1 sv0 sv21_f2 sc22_0 b33 b22 _ _ _ hv0 hv21_f2 hc22_0 (hH48.pick [1, 2] rfl rfl) h))
    · have h := bif_f hc43 h
      refine Run.condF' rfl hc43 ?_
      refine Run.exit rfl (Run.seq (Run.region ?_))
      refine Run.opG wantS_none (ex_assign rfl) rfl ?_
      refine Run.opsEnd ?_
      refine Run.retTo Tryd.func97 rfl (res_tmp rfl res_nil) rfl ?_
      refine Run.opG wantS_none (ex_geq rfl rfl) rfl ?_
      refine Run.opG wantS_none (ex_assign rfl) rfl ?_
      refine Run.opsEnd ?_
      refine Run.retTo Tryd.func79 rfl (res_tmp rfl res_nil) rfl ?_
      refine Run.opG wantS_none (ex_pickB rfl rfl rfl) rfl ?_
      refine Run.opsEnd ?_
      exact Run.pick [1, 21, 22, 23, 39] (alert_isRoll_3_ok F hd2 hhd2 v21_f2 v22_f2 v23_f2 (bif v32_f2 then true else (decide ((0 : Int) ≤ ((-1) : Int)))) c22_0 c22_1 sv21_f2 sc22_0 b22 _ _ _ hv21_f2 hc22_0 (hH.pick [1] rfl rfl) h)

def alert_isRoll_2 (F : Nat) : Nat → (List S_api_Key) → Int → Int → (List S_api_Key) → Int → Option (Bool)
  | 0, _, _, _, _, _ => none
  | N + 1, v21, v22, v23, c22_0, c22_1 =>
    bif (decide (v23 < v22)) then
      bnd (idx v21 v23) fun x31 =>
      bnd (alert_key_isPlausible F x31) fun r37 =>
      bif (!r37) then
        alert_isRoll_3 F (alert_isRoll_2 F N) v21 v22 v23 true c22_0 c22_1
      else
        bnd (sub c22_0 0 v23) fun l42 =>
        alert_isRoll_4 F (alert_isRoll_2 F N) F l42 (l42.length : Int) (0 : Int) v21 v22 v23 (!r37) x31 c22_0 c22_1
    else
      some true

theorem alert_isRoll_2_ok (F : Nat) : ∀ (N : Nat), ∀ (v21 : (List S_api_Key)) (v22 v23 : Int) (c22_0 : (List S_api_Key)) (c22_1 : Int) (sv21 sc22_0 : SV) (b22 : Pos) (Fr : Rd) (M : Mem) (r : Bool) (hv21 : Slc Fr 2 (FlatR enc24) sv21 v21) (hc22_0 : Slc Fr 2 (FlatR enc24) sc22_0 c22_0) (hH : Has Fr M [.obj b22 (.row 43 .whole [sc22_0, (.int .i64 c22_1)])]), alert_isRoll_2 F N v21 v22 v23 c22_0 c22_1 = some r → Run Tryd.prog ⟨⟨56, [], none⟩, []⟩ 41 (alert_isRoll_post r) [(1, (.ptr b22 0)), (21, sv21), (22, (.int .i64 v22)), (23, (.int .i64 v23))] [codeC Tryd.prog 56 [1, 1, 0, 1, 0, 0], loopC Tryd.prog 56 [1, 1, 0, 1, 0, 0], .inBlock 0, codeC Tryd.prog 56 [1, 1, 1]] M := by
  intro N
  induction N with
  | zero =>
    intro v21 v22 v23 c22_0 c22_1 sv21 sc22_0 b22 Fr M r hv21 hc22_0 hH h
    simp [alert_isRoll_2] at h
  | succ N ih =>
    intro v21 v22 v23 c22_0 c22_1 sv21 sc22_0 b22 Fr M r hv21 hc22_0 hH h
    rw [alert_isRoll_2] at h
    refine Run.seq (Run.region ?_)
    refine Run.opG wantS_none (ex_lss rfl rfl) rfl ?_
    refine Run.opsEnd (Run.seq ?_)
    rcases btf ((decide (v23 < v22))) with hc29 | hc29
    · have h := bif_t hc29 h
      refine Run.condT' rfl hc29 ?_
      refine Run.skip (Run.seq (Run.block (Run.seq (Run.region ?_))))
      refine Run.opG wantS_none (ex_move rfl) rfl ?_
      obtain ⟨x31, hx31, h⟩ := bnd_some h
      obtain ⟨p31, o31, _, hx31, hp31, rfl⟩ := sl_elem (P := Tryd.prog) (t := 41) (kk := .i64) hv21 hx31 els41
      refine Run.opG wantS_none (ex_elX rfl rfl hx31) rfl ?_
      refine Run.opG wantS_none (ex_loadA rfl (hH.ptrF hp31) rdLe_rfl agg24 rfl rfl rfl) rfl ?_
      refine Run.opX wantS_none rfl (ExG.new (v := fun b => .ptr b 0) (ex_alloc zer24) hH) ?_
      rintro _ M34 ⟨b33, rfl, hH34⟩
      refine Run.opG wantS_none (ex_assign rfl) rfl ?_
      refine Run.opX wantS_none rfl (ExG.storeC (c' := [(.int .i64 x31.Modulus), (.int .i64 x31.Exponent)]) rfl rfl rfl hH34 (i := 0) rfl sz24 rfl rfl rfl rfl rfl) ?_
      rintro _ M35 ⟨rfl, (hH35 : Has Fr M35 [.obj b33 (.row 24 .whole [(.int .i64 x31.Modulus), (.int .i64 x31.Exponent)]), .obj b22 (.row 43 .whole [sc22_0, (.int .i64 c22_1)])])⟩
      refine Run.opsEnd (Run.seq (Run.region ?_))
      refine Run.opG wantS_none (ex_makeFunc rfl rfl) rfl ?_
      refine Run.opG wantS_none (ex_assign rfl) rfl ?_
      refine Run.opsEnd (Run.seq (Run.region ?_))
      refine Run.opG wantS_none (ex_loadA rfl (hH35.cells (i := 0) rfl 0 rfl) rdLe_rfl agg24 rfl rfl rfl) rfl ?_
      obtain ⟨r37, hr37, h⟩ := bnd_some h
      refine Run.callP wantS_none (ex_call rfl mkk42 cal42) rfl (alert_key_isPlausible_ok F x31 _ _ hr37) ?_
      refine Run.opG wantS_none (ex_not rfl) rfl ?_
      refine Run.opG wantS_none (ex_move rfl) rfl ?_
      rcases btf ((!r37)) with hc39 | hc39
      · have h := bif_t hc39 h
        refine Run.no (wantS_not' rfl rfl hc39) rfl ?_
        refine Run.no (wantS_not' rfl rfl hc39) rfl ?_
        refine Run.no (wantS_not' rfl rfl hc39) rfl ?_
        refine Run.no (wantS_not' rfl rfl hc39) rfl ?_
        refine Run.no (wantS_not' rfl rfl hc39) rfl ?_
        refine Run.no (wantS_not' rfl rfl hc39) rfl ?_
        refine Run.opG wantS_none (ex_pickT' rfl hc39 rfl rfl) rfl ?_
        refine Run.opsEnd ?_
        exact Run.pick [1, 21, 22, 23, 39] (alert_isRoll_3_ok F (alert_isRoll_2 F N) ih v21 v22 v23 true c22_0 c22_1 sv21 sc22_0 b22 _ _ _ hv21 hc22_0 (hH35.pick [1] rfl rfl) h)
      · have h := bif_f hc39 h
        refine Run.opG (wantS_yes' rfl rfl hc39) (ex_fieldAddr rfl off43_0) rfl ?_
        refine Run.opG (wantS_yes' rfl rfl hc39) (ex_load1 rfl (hH35.cells (i := 1) rfl 0 rfl) rdLe_rfl agg41) rfl ?_
        refine Run.opG (wantS_yes' rfl rfl hc39) (ex_move rfl) rfl ?_
        obtain ⟨l42, hl42, h⟩ := bnd_some h
        obtain ⟨s42, hx42, hs42⟩ := sl_subH (P := Tryd.prog) (t := 41) (k0 := .i64) hc22_0 hl42 slk41
        refine Run.opG (wantS_yes' rfl rfl hc39) (ex_slX rfl (argO_none) (argO_some rfl) hx42) rfl ?_
        refine Run.opG (wantS_yes' rfl rfl hc39) (ex_move rfl) rfl ?_
        refine Run.enter (wantS_yes' rfl rfl hc39) (ex_call rfl mkk79 cal79) Tryd.func79 rfl rfl ?_
        refine Run.seq (Run.region ?_)
        refine Run.opG wantS_none (ex_assign rfl) rfl ?_
        refine Run.opsEnd (Run.seq (Run.region ?_))
        refine Run.opG wantS_none (ex_move rfl) rfl ?_
        refine Run.opG wantS_none (ex_move rfl) rfl ?_
        refine Run.enter wantS_none (ex_call rfl mkk97 cal97) Tryd.func97 rfl rfl ?_
        refine Run.seq (Run.region ?_)
        refine Run.opG wantS_none (ex_assign rfl) rfl ?_
        refine Run.opsEnd (Run.seq (Run.seq (Run.region ?_)))
        refine Run.opG wantS_none (ex_move rfl) rfl ?_
        refine Run.opG wantS_none (ex_len' rfl hs42 lenk41) rfl ?_
        refine Run.opG wantS_none (ex_move rfl) rfl ?_
        refine Run.opsEnd (Run.block (Run.loop ?_))
        exact Run.low (.cons (fle_pick [] rfl) (.cons (fle_pick [1, 21, 22, 23, 32] rfl) .nil)) (Run.pick [0, 1, 7, 8] (alert_isRoll_4_ok F (alert_isRoll_2 F N) ih F l42 (l42.length : Int) (0 : Int) v21 v22 v23 (!r37) x31 c22_0 c22_1 s42 sv21 sc22_0 b33 b22 _ _ _ hs42 hv21 hc22_0 hH35 h))
    · have h := bif_f hc29 h
      refine Run.condF' rfl hc29 ?_
      refine Run.exit rfl (Run.seq (Run.region ?_))
      refine Run.opG wantS_none (ex_assign rfl) rfl ?_
      refine Run.opsEnd ?_
      cases h
      exact Run.ret Tryd.func56 rfl (res_tmp rfl res_nil) rfl

def alert_isRoll_1 (F : Nat) (v19 : Bool) (c22_0 : (List S_api_Key)) (c22_1 : Int) : Option (Bool) :=
  bif v19 then
    some false
  else
    alert_isRoll_2 F F c22_0 (c22_0.length : Int) (0 : Int) c22_0 c22_1

theorem alert_isRoll_1_ok (F : Nat) : ∀ (v19 : Bool) (c22_0 : (List S_api_Key)) (c22_1 : Int) (sc22_0 : SV) (b22 : Pos) (Fr : Rd) (M : Mem) (r : Bool) (hc22_0 : Slc Fr 2 (FlatR enc24) sc22_0 c22_0) (hH : Has Fr M [.obj b22 (.row 43 .whole [sc22_0, (.int .i64 c22_1)])]), alert_isRoll_1 F v19 c22_0 c22_1 = some r → Run Tryd.prog ⟨⟨56, [], none⟩, []⟩ 41 (alert_isRoll_post r) [(1, (.ptr b22 0)), (19, (.bool v19))] [codeC Tryd.prog 56 [1, 0, 1], codeC Tryd.prog 56 [1, 1]] M := by
  intro v19 c22_0 c22_1 sc22_0 b22 Fr M r hc22_0 hH h
  rw [alert_isRoll_1] at h
  rcases btf (v19) with hc28 | hc28
  · have h := bif_t hc28 h
    refine Run.condT' rfl hc28 ?_
    refine Run.seq (Run.region ?_)
    refine Run.opG wantS_none (ex_assign rfl) rfl ?_
    refine Run.opsEnd ?_
    cases h
    exact Run.ret Tryd.func56 rfl (res_tmp rfl res_nil) rfl
  · have h := bif_f hc28 h
    refine Run.condF' rfl hc28 ?_
    refine Run.skip (Run.seq (Run.seq (Run.region ?_)))
    refine Run.opG wantS_none (ex_fieldAddr rfl off43_0) rfl ?_
    refine Run.opG wantS_none (ex_load1 rfl (hH.cells (i := 0) rfl 0 rfl) rdLe_rfl agg41) rfl ?_
    refine Run.opG wantS_none (ex_len' rfl hc22_0 lenk41) rfl ?_
    refine Run.opG wantS_none (ex_move rfl) rfl ?_
    refine Run.opsEnd (Run.block (Run.loop ?_))
    exact Run.pick [1, 21, 22, 23] (alert_isRoll_2_ok F F c22_0 (c22_0.length : Int) (0 : Int) c22_0 c22_1 sc22_0 sc22_0 b22 _ _ _ hc22_0 hc22_0 hH h)

def alert_isRoll (F : Nat) (a0 : S_api_Roll) : Option (Bool) :=
  bnd (alert_isFrom F (1 : Int) (a0.Keys.length : Int) (8 : Int)) fun r25 =>
  bif (!r25) then
    alert_isRoll_1 F true a0.Keys a0.Quorum
  else
    bnd (alert_isFrom F (1 : Int) a0.Quorum (a0.Keys.length : Int)) fun r51 =>
    alert_isRoll_1 F (!r51) a0.Keys a0.Quorum

theorem alert_isRoll_ok (F : Nat) (a0 : S_api_Roll) (s0 : SV) (r : Bool) (M : Mem) (hs0 : Slc (rd M) 2 (FlatR enc24) s0 a0.Keys) (h : alert_isRoll F a0 = some r) : CallsM Tryd.prog 56 [(.agg [s0, (.int .i64 a0.Quorum)])] M (fun s M' => s = (.bool r) ∧ M' = M) := by
  refine CallsM.plain Tryd.func56 rfl rfl rfl (show Run _ _ _ (alert_isRoll_post r) _ _ _ from ?_)
  rw [alert_isRoll] at h
  replace hs0 := hs0.mono (rdLe_frozen M) (fun _ _ h => h)
  have hH := Has.nil (frozen M)
  refine Run.seq (Run.region ?_)
  refine Run.opX wantS_none rfl (ExG.box rfl rfl hH) ?_
  rintro _ M23 ⟨b22, rfl, hH23⟩
  refine Run.opG wantS_none (ex_assign rfl) rfl ?_
  refine Run.opsEnd (Run.seq (Run.seq (Run.region ?_)))
  refine Run.opG wantS_none (ex_fieldAddr rfl off43_0) rfl ?_
  refine Run.opG wantS_none (ex_load1 rfl (hH23.cells (i := 0) rfl 0 rfl) rdLe_rfl agg41) rfl ?_
  refine Run.opG wantS_none (ex_len' rfl hs0 lenk41) rfl ?_
  obtain ⟨r25, hr25, h⟩ := bnd_some h
  refine Run.callP wantS_none (ex_call rfl mkk36 cal36) rfl (alert_isFrom_ok F (1 : Int) (a0.Keys.length : Int) (8 : Int) _ _ hr25) ?_
  refine Run.opG wantS_none (ex_not rfl) rfl ?_
  refine Run.opG wantS_none (ex_move rfl) rfl ?_
  rcases btf ((!r25)) with hc27 | hc27
  · have h := bif_t hc27 h
    refine Run.no (wantS_not' rfl rfl hc27) rfl ?_
    refine Run.no (wantS_not' rfl rfl hc27) rfl ?_
    refine Run.no (wantS_not' rfl rfl hc27) rfl ?_
    refine Run.no (wantS_not' rfl rfl hc27) rfl ?_
    refine Run.no (wantS_not' rfl rfl hc27) rfl ?_
    refine Run.no (wantS_not' rfl rfl hc27) rfl ?_
    refine Run.no (wantS_not' rfl rfl hc27) rfl ?_
    refine Run.opG wantS_none (ex_pickT' rfl hc27 rfl rfl) rfl ?_
    refine Run.opsEnd ?_
    exact Run.pick [1, 19] (alert_isRoll_1_ok F true a0.Keys a0.Quorum s0 b22 _ _ _ hs0 hH23 h)
  · have h := bif_f hc27 h
    refine Run.opG (wantS_yes' rfl rfl hc27) (ex_fieldAddr rfl off43_1) rfl ?_
    refine Run.opG (wantS_yes' rfl rfl hc27) (ex_load1 rfl (hH23.cells (i := 0) rfl 1 rfl) rdLe_rfl agg3) rfl ?_
    refine Run.opG (wantS_yes' rfl rfl hc27) (ex_fieldAddr rfl off43_0) rfl ?_
    refine Run.opG (wantS_yes' rfl rfl hc27) (ex_load1 rfl (hH23.cells (i := 0) rfl 0 rfl) rdLe_rfl agg41) rfl ?_
    refine Run.opG (wantS_yes' rfl rfl hc27) (ex_len' rfl hs0 lenk41) rfl ?_
    obtain ⟨r51, hr51, h⟩ := bnd_some h
    refine Run.callP (wantS_yes' rfl rfl hc27) (ex_call rfl mkk36 cal36) rfl (alert_isFrom_ok F (1 : Int) a0.Quorum (a0.Keys.length : Int) _ _ hr51) ?_
    refine Run.opG (wantS_yes' rfl rfl hc27) (ex_not rfl) rfl ?_
    refine Run.opG wantS_none (ex_pickF' rfl hc27 rfl rfl) rfl ?_
    refine Run.opsEnd ?_
    exact Run.pick [1, 19] (alert_isRoll_1_ok F (!r51) a0.Keys a0.Quorum s0 b22 _ _ _ hs0 hH23 h)

theorem mkk56 : makeK Tryd.prog 56 = none := by kernel_rfl
theorem cal56 : callable Tryd.prog 56 = true := by kernel_rfl
abbrev alert_CheckRoll_post (r : Int) : SV → Mem → Prop := fun s _ => s = (.int .i64 r)

def alert_CheckRoll (F : Nat) (a0 : S_api_Roll) : Option (Int) :=
  bnd (alert_isRoll F a0) fun r25 =>
  bif (!r25) then
    some (104 : Int)
  else
    some (0 : Int)

theorem alert_CheckRoll_ok (F : Nat) (a0 : S_api_Roll) (s0 : SV) (r : Int) (M : Mem) (hs0 : Slc (rd M) 2 (FlatR enc24) s0 a0.Keys) (h : alert_CheckRoll F a0 = some r) : CallsM Tryd.prog 15 [(.agg [s0, (.int .i64 a0.Quorum)])] M (fun s M' => s = (.int .i64 r) ∧ M' = M) := by
  refine CallsM.plain Tryd.func15 rfl rfl rfl (show Run _ _ _ (alert_CheckRoll_post r) _ _ _ from ?_)
  rw [alert_CheckRoll] at h
  replace hs0 := hs0.mono (rdLe_frozen M) (fun _ _ h => h)
  have hH := Has.nil (frozen M)
  refine Run.seq (Run.region ?_)
  refine Run.opX wantS_none rfl (ExG.box rfl rfl hH) ?_
  rintro _ M23 ⟨b22, rfl, hH23⟩
  refine Run.opG wantS_none (ex_assign rfl) rfl ?_
  refine Run.opsEnd (Run.seq (Run.seq (Run.region ?_)))
  refine Run.opG wantS_none (ex_loadA rfl (hH23.cells (i := 0) rfl 0 rfl) rdLe_rfl agg43 rfl rfl rfl) rfl ?_
  obtain ⟨r25, hr25, h⟩ := bnd_some h
  refine Run.callP wantS_none (ex_call rfl mkk56 cal56) rfl (alert_isRoll_ok F a0 s0 _ _ (hH23.slcF hs0) hr25) ?_
  refine Run.opG wantS_none (ex_not rfl) rfl ?_
  refine Run.opsEnd ?_
  rcases btf ((!r25)) with hc27 | hc27
  · have h := bif_t hc27 h
    refine Run.condT' rfl hc27 ?_
    refine Run.seq (Run.region ?_)
    refine Run.opG wantS_none (ex_assign rfl) rfl ?_
    refine Run.opsEnd ?_
    cases h
    exact Run.ret Tryd.func15 rfl (res_tmp rfl res_nil) rfl
  · have h := bif_f hc27 h
    refine Run.condF' rfl hc27 ?_
    refine Run.skip (Run.seq (Run.region ?_))
    refine Run.opG wantS_none (ex_assign rfl) rfl ?_
    refine Run.opsEnd ?_
    cases h
    exact Run.ret Tryd.func15 rfl (res_tmp rfl res_nil) rfl

theorem mkk15 : makeK Tryd.prog 15 = none := by kernel_rfl
theorem cal15 : callable Tryd.prog 15 = true := by kernel_rfl
theorem eqk67 : eqK Tryd.prog 67 = some .ptr := by kernel_rfl
theorem mkk14 : makeK Tryd.prog 14 = none := by kernel_rfl
theorem cal14 : callable Tryd.prog 14 = true := by kernel_rfl
structure S_alert_roll where
  keys : (List S_api_Key)
  quorum : Int

def enc79 (a : S_api_Key) : List SV := [(.int .i64 a.Modulus), (.int .i64 a.Exponent)]
theorem enc79_len (a : S_api_Key) : (enc79 a).length = 2 := rfl
theorem enc79_ones (a : S_api_Key) : ones (enc79 a) = true := rfl
theorem zer97 : zerosOf Tryd.prog 97 = some [.nils, (.int .i64 0)] := by kernel_rfl
theorem elt95 : sliceElt Tryd.prog 95 = some (⟨2, 16, [(.int .i64 0), (.int .i64 0)], 79⟩ : Elt) := by kernel_rfl
theorem appt95_95 : appT Tryd.prog 95 95 = some (⟨2, 16, [(.int .i64 0), (.int .i64 0)], 79⟩ : Elt) := by kernel_rfl
theorem pls97 : placesOf Tryd.prog 97 = some (.st [(0, 1), (1, 1)]) := by kernel_rfl
theorem sz97 : szOf Tryd.prog 97 = some 2 := by kernel_rfl
theorem agg97 : aggSize Tryd.prog 97 = some (some 2) := by kernel_rfl
abbrev alert_rollOf_post (r : S_alert_roll) : SV → Mem → Prop := fun s Me => ∃ q1, s = (.agg [q1, (.int .i64 r.quorum)]) ∧ Has (fun _ => none) Me [.vec 79 2 r.keys.length q1 (r.keys.flatMap enc79)]

def alert_rollOf_1 (F : Nat) : Nat → (List S_api_Key) → Int → Int → (List S_api_Key) → Int → Int → (List S_api_Key) → Option (S_alert_roll)
  | 0, _, _, _, _, _, _, _ => none
  | N + 1, v7, v8, v9, c22_0, c22_1, c25_1, l27 =>
    bif (decide (v9 < v8)) then
      bnd (idx v7 v9) fun x31 =>
      bnd (apd 16 l27 ([x31] : List S_api_Key)) fun l41 =>
      (alert_rollOf_1 F N) v7 v8 (w64 (v9 + (1 : Int))) c22_0 c22_1 c25_1 l41
    else
      some (S_alert_roll.mk l27 c22_1)

theorem alert_rollOf_1_ok (F : Nat) : ∀ (N : Nat), ∀ (v7 : (List S_api_Key)) (v8 v9 : Int) (c22_0 : (List S_api_Key)) (c22_1 c25_1 : Int) (l27 : (List S_api_Key)) (sv7 sc22_0 : SV) (b22 b25 : Pos) (s27 : SV) (Fr : Rd) (M : Mem) (r : S_alert_roll) (hv7 : Slc Fr 2 (FlatR enc24) sv7 v7) (hc22_0 : Slc Fr 2 (FlatR enc24) sc22_0 c22_0) (hH : Has Fr M [.obj b22 (.row 43 .whole [sc22_0, (.int .i64 c22_1)]), .obj b25 (.row 97 .whole [.nils, (.int .i64 c25_1)]), .vec 79 2 l27.length s27 (l27.flatMap enc79)]), alert_rollOf_1 F N v7 v8 v9 c22_0 c22_1 c25_1 l27 = some r → Run Tryd.prog ⟨⟨57, [], none⟩, []⟩ 22 (alert_rollOf_post r) [(1, (.ptr b22 0)), (2, (.ptr b25 0)), (3, s27), (7, sv7), (8, (.int .i64 v8)), (9, (.int .i64 v9))] [codeC Tryd.prog 57 [1, 1, 0, 1, 0, 0], loopC Tryd.prog 57 [1, 1, 0, 1, 0, 0], .inBlock 0, codeC Tryd.prog 57 [1, 1, 1]] M := by
  intro N
  induction N with
  | zero =>
    intro v7 v8 v9 c22_0 c22_1 c25_1 l27 sv7 sc22_0 b22 b25 s27 Fr M r hv7 hc22_0 hH h
    simp [alert_rollOf_1] at h
  | succ N ih =>
    intro v7 v8 v9 c22_0 c22_1 c25_1 l27 sv7 sc22_0 b22 b25 s27 Fr M r hv7 hc22_0 hH h
    rw [alert_rollOf_1] at h
    refine Run.seq (Run.region ?_)
    refine Run.opG wantS_none (ex_lss rfl rfl) rfl ?_
    refine Run.opsEnd (Run.seq ?_)
    rcases btf ((decide (v9 < v8))) with hc29 | hc29
    · have h := bif_t hc29 h
      refine Run.condT' rfl hc29 ?_
      refine Run.skip (Run.seq (Run.block (Run.seq (Run.region ?_))))
      obtain ⟨x31, hx31, h⟩ := bnd_some h
      obtain ⟨p31, o31, _, hx31, hp31, rfl⟩ := sl_elem (P := Tryd.prog) (t := 41) (kk := .i64) hv7 hx31 els41
      refine Run.opG wantS_none (ex_elX rfl rfl hx31) rfl ?_
      refine Run.opG wantS_none (ex_loadA rfl (hH.ptrF hp31) rdLe_rfl agg24 rfl rfl rfl) rfl ?_
      refine Run.opX wantS_none rfl (ExG.new (v := fun b => .ptr b 0) (ex_alloc zer24) hH) ?_
      rintro _ M34 ⟨b33, rfl, hH34⟩
      refine Run.opX wantS_none rfl (ExG.storeC (c' := [(.int .i64 x31.Modulus), (.int .i64 x31.Exponent)]) rfl rfl rfl hH34 (i := 0) rfl sz24 rfl rfl rfl rfl rfl) ?_
      rintro _ M35 ⟨rfl, (hH35 : Has Fr M35 [.obj b33 (.row 24 .whole [(.int .i64 x31.Modulus), (.int .i64 x31.Exponent)]), .obj b22 (.row 43 .whole [sc22_0, (.int .i64 c22_1)]), .obj b25 (.row 97 .whole [.nils, (.int .i64 c25_1)]), .vec 79 2 l27.length s27 (l27.flatMap enc79)])⟩
      refine Run.opsEnd (Run.region ?_)
      refine Run.opG wantS_none (ex_move rfl) rfl ?_
      refine Run.opG wantS_none (ex_loadA rfl (hH35.cells (i := 0) rfl 0 rfl) rdLe_rfl agg24 rfl rfl rfl) rfl ?_
      refine Run.opX wantS_none rfl (ExG.built (enc := enc79) (l := ([x31] : List S_api_Key)) (z := 2) rfl elt95 rfl rfl rfl enc79_len hH35) ?_
      rintro s37 M38 (hH38 : Has Fr M38 [.vec 79 2 ([x31] : List S_api_Key).length s37 (([x31] : List S_api_Key).flatMap enc79), .obj b33 (.row 24 .whole [(.int .i64 x31.Modulus), (.int .i64 x31.Exponent)]), .obj b22 (.row 43 .whole [sc22_0, (.int .i64 c22_1)]), .obj b25 (.row 97 .whole [.nils, (.int .i64 c25_1)]), .vec 79 2 l27.length s27 (l27.flatMap enc79)])
      obtain ⟨l41, hl41, h⟩ := bnd_some h
      refine Run.opX wantS_none rfl (ExG.append rfl rfl hH38 (i := 4) rfl enc79_len rfl enc79_ones appt95_95 rfl (len_slc (hH38.slc (i := 0) rfl enc79_len)) (first_slc (hH38.slc (i := 0) rfl enc79_len) (rdLe_rdRow _) enc79_len) hl41) ?_
      rintro s41 M43 (hH43 : Has Fr M43 [.vec 79 2 ([x31] : List S_api_Key).length s37 (([x31] : List S_api_Key).flatMap enc79), .obj b33 (.row 24 .whole [(.int .i64 x31.Modulus), (.int .i64 x31.Exponent)]), .obj b22 (.row 43 .whole [sc22_0, (.int .i64 c22_1)]), .obj b25 (.row 97 .whole [.nils, (.int .i64 c25_1)]), .vec 79 2 l41.length s41 (l41.flatMap enc79)])
      refine Run.opG wantS_none (ex_assign rfl) rfl ?_
      refine Run.opsEnd (Run.inBlock (Run.region ?_))
      refine Run.opG wantS_none (ex_add rfl rfl) rfl ?_
      refine Run.opG wantS_none (ex_move rfl) rfl ?_
      refine Run.opsEnd (Run.inLoop ?_)
      exact Run.pick [1, 2, 3, 7, 8, 9] (ih v7 v8 (w64 (v9 + (1 : Int))) c22_0 c22_1 c25_1 l41 sv7 sc22_0 b22 b25 s41 _ _ _ hv7 hc22_0 (hH43.pick [2, 3, 4] rfl rfl) h)
    · have h := bif_f hc29 h
      refine Run.condF' rfl hc29 ?_
      refine Run.exit rfl (Run.seq (Run.region ?_))
      refine Run.opG wantS_none (ex_move rfl) rfl ?_
      refine Run.opG wantS_none (ex_fieldAddr rfl off43_1) rfl ?_
      refine Run.opG wantS_none (ex_load1 rfl (hH.cells (i := 0) rfl 1 rfl) rdLe_rfl agg3) rfl ?_
      refine Run.opG wantS_none (ex_build (r := [s27, (.int .i64 c22_1)]) rfl zer97 pls97 (by simp only [fillS, cells_one (vec_one hH (i := 2) rfl)]; rfl)) rfl ?_
      refine Run.opX wantS_none rfl (ExG.storeC (c' := [s27, (.int .i64 c22_1)]) rfl rfl rfl hH (i := 1) rfl sz97 rfl rfl rfl (ones_cons (vec_one hH (i := 2) rfl) (ones_cons rfl ones_nil)) rfl) ?_
      rintro _ M44 ⟨rfl, (hH44 : Has Fr M44 [.obj b22 (.row 43 .whole [sc22_0, (.int .i64 c22_1)]), .obj b25 (.row 97 .whole [s27, (.int .i64 c22_1)]), .vec 79 2 l27.length s27 (l27.flatMap enc79)])⟩
      refine Run.opsEnd ?_
      cases h
      exact Run.ret Tryd.func57 rfl (res_cell rfl (x_load (ex_loadA rfl (hH44.cells (i := 1) rfl 0 rfl) rdLe_rfl agg97 rfl rfl rfl)) res_nil) ⟨_, rfl, (hH44.pick [2] rfl rfl).upF (none_le _)⟩

def alert_rollOf (F : Nat) (a0 : S_api_Roll) : Option (S_alert_roll) :=
  alert_rollOf_1 F F a0.Keys (a0.Keys.length : Int) (0 : Int) a0.Keys a0.Quorum (0 : Int) ([] : List S_api_Key)

theorem alert_rollOf_ok (F : Nat) (a0 : S_api_Roll) (s0 : SV) (r : S_alert_roll) (M : Mem) (hs0 : Slc (rd M) 2 (FlatR enc24) s0 a0.Keys) (h : alert_rollOf F a0 = some r) : CallsM Tryd.prog 57 [(.agg [s0, (.int .i64 a0.Quorum)])] M (fun s M' => ∃ q1, s = (.agg [q1, (.int .i64 r.quorum)]) ∧ New M M' [.vec 79 2 r.keys.length q1 (r.keys.flatMap enc79)]) := by
  refine CallsM.fresh (Q := alert_rollOf_post r) Tryd.func57 rfl rfl ?_ (by rintro s Me ⟨q1, rfl, hx⟩ ha hw; exact ⟨_, rfl, New.of rfl hx ha hw⟩)
  rw [alert_rollOf] at h
  replace hs0 := hs0.mono (rdLe_frozen M) (fun _ _ h => h)
  have hH := Has.nil (frozen M)
  refine Run.seq (Run.region ?_)
  refine Run.opX wantS_none rfl (ExG.box rfl rfl hH) ?_
  rintro _ M23 ⟨b22, rfl, hH23⟩
  refine Run.opX wantS_none rfl (ExG.new (v := fun b => .ptr b 0) (ex_alloc zer97) hH23) ?_
  rintro _ M26 ⟨b25, rfl, hH26⟩
  refine Run.opsEnd (Run.seq (Run.region ?_))
  refine Run.opG wantS_none (ex_assign rfl) rfl ?_
  refine Run.opsEnd (Run.seq (Run.seq (Run.region ?_)))
  refine Run.opG wantS_none (ex_fieldAddr rfl off43_0) rfl ?_
  refine Run.opG wantS_none (ex_load1 rfl (hH26.cells (i := 1) rfl 0 rfl) rdLe_rfl agg41) rfl ?_
  refine Run.opG wantS_none (ex_len' rfl hs0 lenk41) rfl ?_
  refine Run.opG wantS_none (ex_move rfl) rfl ?_
  refine Run.opsEnd (Run.block (Run.loop ?_))
  have hH28 : Has (ro (frozen M)) M26 [.vec 79 2 ([] : List S_api_Key).length .nils (([] : List S_api_Key).flatMap enc79), .obj b25 (.row 97 .whole [.nils, (.int .i64 0)]), .obj b22 (.row 43 .whole [s0, (.int .i64 a0.Quorum)])] := hH26.nils 79 2
  exact Run.pick [1, 2, 3, 7, 8, 9] (alert_rollOf_1_ok F F a0.Keys (a0.Keys.length : Int) (0 : Int) a0.Keys a0.Quorum (0 : Int) ([] : List S_api_Key) s0 s0 b22 b25 .nils _ _ _ hs0 hs0 (hH28.pick [2, 1, 0] rfl rfl) h)

theorem mkk57 : makeK Tryd.prog 57 = none := by kernel_rfl
theorem cal57 : callable Tryd.prog 57 = true := by kernel_rfl
theorem zer103 : zerosOf Tryd.prog 103 = some [.nils, (.int .i64 0), .nils, .nilp] := by kernel_rfl
theorem pls103 : placesOf Tryd.prog 103 = some (.st [(0, 2), (2, 1), (3, 1)]) := by kernel_rfl
theorem off103_2 : fieldOff Tryd.prog 103 2 = some 3 := by kernel_rfl
theorem sz67 : szOf Tryd.prog 67 = some 1 := by kernel_rfl
theorem lenk66 : lenK Tryd.prog 66 = some .sl := by kernel_rfl
theorem els66 : elems Tryd.prog 66 = some (.sl 10) := by kernel_rfl
theorem off46_0 : fieldOff Tryd.prog 46 0 = some 0 := by kernel_rfl
theorem off29_0 : fieldOff Tryd.prog 29 0 = some 0 := by kernel_rfl
theorem agg9 : aggSize Tryd.prog 9 = some none := by kernel_rfl
theorem mkk30 : makeK Tryd.prog 30 = none := by kernel_rfl
theorem cal30 : callable Tryd.prog 30 = true := by kernel_rfl
theorem mkk65 : makeK Tryd.prog 65 = none := by kernel_rfl
theorem cal65 : callable Tryd.prog 65 = true := by kernel_rfl
theorem agg67 : aggSize Tryd.prog 67 = some none := by kernel_rfl
theorem pte67 : ptrElt Tryd.prog 67 = some 103 := by kernel_rfl
theorem inf103 : (Tryd.prog.info? 103).isSome = true := by kernel_rfl
theorem mkk66 : makeK Tryd.prog 66 = none := by kernel_rfl
theorem cal66 : callable Tryd.prog 66 = true := by kernel_rfl
def rep29 (f : Rd) (cs : List SV) (a : S_api_Alert) : Prop := ∃ q1, cs = [(.str a.Event), (.int .i64 a.Version), (.int .i64 a.Time), (.int .i64 a.Chance.N), (.int .i64 a.Chance.Of), (.int .i64 a.Grid), q1, (.bool a.Withdrawn), (.int .i64 a.Before)] ∧ Slc f 1 (FlatR enc3) q1 a.Cells
theorem rep29_mo {f g : Rd} (h : RdLe f g) {cs : List SV} {a : S_api_Alert} : rep29 f cs a → rep29 g cs a := by
  rintro ⟨q1, rfl, h0⟩
  exact ⟨q1, rfl, h0.mono h (fun _ _ h => h)⟩
theorem rep29_len {f : Rd} {cs : List SV} {a : S_api_Alert} : rep29 f cs a → cs.length = 9 := by
  rintro ⟨_, rfl, h0⟩
  rfl
theorem rep29_ones {f : Rd} {cs : List SV} {a : S_api_Alert} : rep29 f cs a → ones cs = true := by
  rintro ⟨_, rfl, h0⟩
  exact (ones_cons rfl (ones_cons rfl (ones_cons rfl (ones_cons rfl (ones_cons rfl (ones_cons rfl (ones_cons (slc_one h0) (ones_cons rfl (ones_cons rfl ones_nil)))))))))
theorem off103_1 : fieldOff Tryd.prog 103 1 = some 2 := by kernel_rfl
theorem agg66 : aggSize Tryd.prog 66 = some none := by kernel_rfl
theorem mkk83 : makeK Tryd.prog 83 = none := by kernel_rfl
theorem cal83 : callable Tryd.prog 83 = true := by kernel_rfl
theorem agg46 : aggSize Tryd.prog 46 = some (some 10) := by kernel_rfl
theorem zer46 : zerosOf Tryd.prog 46 = some [(.str []), (.int .i64 0), (.int .i64 0), (.int .i64 0), (.int .i64 0), (.int .i64 0), .nils, (.bool false), (.int .i64 0), .nils] := by kernel_rfl
theorem sz46 : szOf Tryd.prog 46 = some 10 := by kernel_rfl
theorem agg29 : aggSize Tryd.prog 29 = some (some 9) := by kernel_rfl
theorem zer29 : zerosOf Tryd.prog 29 = some [(.str []), (.int .i64 0), (.int .i64 0), (.int .i64 0), (.int .i64 0), (.int .i64 0), .nils, (.bool false), (.int .i64 0)] := by kernel_rfl
theorem off29_5 : fieldOff Tryd.prog 29 5 = some 6 := by kernel_rfl
theorem agg27 : aggSize Tryd.prog 27 = some none := by kernel_rfl
theorem eqk27 : eqK Tryd.prog 27 = some .slice := by kernel_rfl
theorem elt27 : sliceElt Tryd.prog 27 = some (⟨1, 8, [(.int .i64 0)], 3⟩ : Elt) := by kernel_rfl
theorem appt27_27 : appT Tryd.prog 27 27 = some (⟨1, 8, [(.int .i64 0)], 3⟩ : Elt) := by kernel_rfl
abbrev slices_Clone_post (r : (List Int)) : SV → Mem → Prop := fun s Me => ∃ q1, s = q1 ∧ Has (fun _ => none) Me [.vec 3 1 r.length q1 (r.flatMap enc3)]

def slices_Clone (F : Nat) (a0 : (List Int)) : Option ((List Int)) :=
  bnd (apd 8 ([] : List Int) a0) fun l29 =>
  some l29

theorem slices_Clone_ok (F : Nat) (a0 : (List Int)) (s0 : SV) (r : (List Int)) (M : Mem) (hs0 : Slc (rd M) 1 (FlatR enc3) s0 a0) (h : slices_Clone F a0 = some r) : CallsM Tryd.prog 98 [s0] M (fun s M' => ∃ q1, s = q1 ∧ New M M' [.vec 3 1 r.length q1 (r.flatMap enc3)]) := by
  refine CallsM.fresh (Q := slices_Clone_post r) Tryd.func98 rfl rfl ?_ (by rintro s Me ⟨q1, rfl, hx⟩ ha hw; exact ⟨_, rfl, New.of rfl hx ha hw⟩)
  rw [slices_Clone] at h
  replace hs0 := hs0.mono (rdLe_frozen M) (fun _ _ h => h)
  have hH := Has.nil (frozen M)
  refine Run.seq (Run.region ?_)
  refine Run.opG wantS_none (ex_assign rfl) rfl ?_
  refine Run.opsEnd (Run.seq (Run.seq (Run.region ?_)))
  refine Run.opG wantS_none (ex_move rfl) rfl ?_
  rcases slc_or hs0 with ⟨rfl, rfl⟩ | hn21
  · have h : (
      some ([] : List Int)
      ) = some r := h
    refine Run.opG wantS_none (ex_nilT rfl rfl eqk27) rfl ?_
    refine Run.opsEnd ?_
    refine Run.condT' rfl rfl ?_
    refine Run.seq (Run.region ?_)
    refine Run.opG wantS_none (ex_assign rfl) rfl ?_
    refine Run.opsEnd ?_
    have hH23 : Has (ro (frozen M)) (frozen M) [.vec 3 1 ([] : List Int).length .nils (([] : List Int).flatMap enc3)] := hH.nils 3 1
    cases h
    exact Run.ret Tryd.func98 rfl (res_tmp rfl res_nil) ⟨_, rfl, (hH23.pick [0] rfl rfl).upF (none_le _)⟩
  · refine Run.opG wantS_none (ex_nilF rfl hn21 rfl eqk27) rfl ?_
    refine Run.opsEnd ?_
    refine Run.condF' rfl rfl ?_
    refine Run.skip (Run.seq (Run.region ?_))
    refine Run.opX wantS_none rfl (ExG.built (enc := enc3) (l := ([] : List Int)) (z := 1) rfl elt27 rfl rfl rfl enc3_len hH) ?_
    rintro s25 M26 (hH26 : Has (ro (frozen M)) M26 [.vec 3 1 ([] : List Int).length s25 (([] : List Int).flatMap enc3)])
    refine Run.opG wantS_none (ex_move rfl) rfl ?_
    obtain ⟨l29, hl29, h⟩ := bnd_some h
    refine Run.opX wantS_none rfl (ExG.append rfl rfl hH26 (i := 0) rfl enc3_len rfl enc3_ones appt27_27 rfl (len_slc hs0) (first_slc hs0 (rdLe_roF hH26) enc3_len) hl29) ?_
    rintro s29 M31 (hH31 : Has (ro (frozen M)) M31 [.vec 3 1 l29.length s29 (l29.flatMap enc3)])
    refine Run.opG wantS_none (ex_assign rfl) rfl ?_
    refine Run.opsEnd ?_
    cases h
    exact Run.ret Tryd.func98 rfl (res_tmp rfl res_nil) ⟨_, rfl, (hH31.pick [0] rfl rfl).upF (none_le _)⟩

theorem mkk98 : makeK Tryd.prog 98 = none := by kernel_rfl
theorem cal98 : callable Tryd.prog 98 = true := by kernel_rfl
theorem sz27 : szOf Tryd.prog 27 = some 1 := by kernel_rfl
theorem sz29 : szOf Tryd.prog 29 = some 9 := by kernel_rfl
abbrev alert_copyOfAlert_post (r : S_api_Alert) : SV → Mem → Prop := fun s Me => ∃ q1, s = (.agg [(.str r.Event), (.int .i64 r.Version), (.int .i64 r.Time), (.int .i64 r.Chance.N), (.int .i64 r.Chance.Of), (.int .i64 r.Grid), q1, (.bool r.Withdrawn), (.int .i64 r.Before)]) ∧ Has (fun _ => none) Me [.vec 3 1 r.Cells.length q1 (r.Cells.flatMap enc3)]

def alert_copyOfAlert (F : Nat) (a0 : S_api_Alert) : Option (S_api_Alert) :=
  bnd (slices_Clone F a0.Cells) fun r29 =>
  some (S_api_Alert.mk a0.Event a0.Version a0.Time a0.Chance a0.Grid r29 a0.Withdrawn a0.Before)

theorem alert_copyOfAlert_ok (F : Nat) (a0 : S_api_Alert) (s0 : SV) (r : S_api_Alert) (M : Mem) (hs0 : Slc (rd M) 1 (FlatR enc3) s0 a0.Cells) (h : alert_copyOfAlert F a0 = some r) : CallsM Tryd.prog 81 [(.agg [(.str a0.Event), (.int .i64 a0.Version), (.int .i64 a0.Time), (.int .i64 a0.Chance.N), (.int .i64 a0.Chance.Of), (.int .i64 a0.Grid), s0, (.bool a0.Withdrawn), (.int .i64 a0.Before)])] M (fun s M' => ∃ q1, s = (.agg [(.str r.Event), (.int .i64 r.Version), (.int .i64 r.Time), (.int .i64 r.Chance.N), (.int .i64 r.Chance.Of), (.int .i64 r.Grid), q1, (.bool r.Withdrawn), (.int .i64 r.Before)]) ∧ New M M' [.vec 3 1 r.Cells.length q1 (r.Cells.flatMap enc3)]) := by
  refine CallsM.fresh (Q := alert_copyOfAlert_post r) Tryd.func81 rfl rfl ?_ (by rintro s Me ⟨q1, rfl, hx⟩ ha hw; exact ⟨_, rfl, New.of rfl hx ha hw⟩)
  rw [alert_copyOfAlert] at h
  replace hs0 := hs0.mono (rdLe_frozen M) (fun _ _ h => h)
  have hH := Has.nil (frozen M)
  refine Run.seq (Run.region ?_)
  refine Run.opX wantS_none rfl (ExG.box rfl rfl hH) ?_
  rintro _ M23 ⟨b22, rfl, hH23⟩
  refine Run.opX wantS_none rfl (ExG.new (v := fun b => .ptr b 0) (ex_alloc zer29) hH23) ?_
  rintro _ M26 ⟨b25, rfl, hH26⟩
  refine Run.opsEnd (Run.seq (Run.region ?_))
  refine Run.opG wantS_none (ex_fieldAddr rfl off29_5) rfl ?_
  refine Run.opG wantS_none (ex_load1 rfl (hH26.cells (i := 1) rfl 6 rfl) rdLe_rfl agg27) rfl ?_
  obtain ⟨r29, hr29, h⟩ := bnd_some h
  refine Run.callX wantS_none (ex_call rfl mkk98 cal98) rfl (slices_Clone_ok F a0.Cells s0 _ _ (hH26.slcF hs0) hr29) ?_
  rintro s29_0 M31 ⟨_, rfl, hN29⟩
  have hH31 : Has (ro (frozen M)) M31 [.vec 3 1 r29.length s29_0 (r29.flatMap enc3), .obj b25 (.row 29 .whole [(.str []), (.int .i64 0), (.int .i64 0), (.int .i64 0), (.int .i64 0), (.int .i64 0), .nils, (.bool false), (.int .i64 0)]), .obj b22 (.row 29 .whole [(.str a0.Event), (.int .i64 a0.Version), (.int .i64 a0.Time), (.int .i64 a0.Chance.N), (.int .i64 a0.Chance.Of), (.int .i64 a0.Grid), s0, (.bool a0.Withdrawn), (.int .i64 a0.Before)])] := hN29.1 _ _ hH26
  refine Run.opG wantS_none (ex_fieldAddr rfl off29_5) rfl ?_
  refine Run.opX wantS_none rfl (ExG.storeC (c' := [(.str a0.Event), (.int .i64 a0.Version), (.int .i64 a0.Time), (.int .i64 a0.Chance.N), (.int .i64 a0.Chance.Of), (.int .i64 a0.Grid), s29_0, (.bool a0.Withdrawn), (.int .i64 a0.Before)]) rfl rfl (cells_one (vec_one hH31 (i := 0) rfl)) hH31 (i := 2) rfl sz27 rfl rfl rfl (ones_cons (vec_one hH31 (i := 0) rfl) ones_nil) rfl) ?_
  rintro _ M32 ⟨rfl, (hH32 : Has (ro (frozen M)) M32 [.vec 3 1 r29.length s29_0 (r29.flatMap enc3), .obj b25 (.row 29 .whole [(.str []), (.int .i64 0), (.int .i64 0), (.int .i64 0), (.int .i64 0), (.int .i64 0), .nils, (.bool false), (.int .i64 0)]), .obj b22 (.row 29 .whole [(.str a0.Event), (.int .i64 a0.Version), (.int .i64 a0.Time), (.int .i64 a0.Chance.N), (.int .i64 a0.Chance.Of), (.int .i64 a0.Grid), s29_0, (.bool a0.Withdrawn), (.int .i64 a0.Before)])])⟩
  refine Run.opsEnd (Run.seq (Run.region ?_))
  refine Run.opG wantS_none (ex_loadA rfl (hH32.cells (i := 2) rfl 0 rfl) rdLe_rfl agg29 rfl rfl rfl) rfl ?_
  refine Run.opX wantS_none rfl (ExG.storeC (c' := [(.str a0.Event), (.int .i64 a0.Version), (.int .i64 a0.Time), (.int .i64 a0.Chance.N), (.int .i64 a0.Chance.Of), (.int .i64 a0.Grid), s29_0, (.bool a0.Withdrawn), (.int .i64 a0.Before)]) rfl rfl rfl hH32 (i := 1) rfl sz29 rfl rfl rfl (ones_cons rfl (ones_cons rfl (ones_cons rfl (ones_cons rfl (ones_cons rfl (ones_cons rfl (ones_cons (vec_one hH32 (i := 0) rfl) (ones_cons rfl (ones_cons rfl ones_nil))))))))) rfl) ?_
  rintro _ M33 ⟨rfl, (hH33 : Has (ro (frozen M)) M33 [.vec 3 1 r29.length s29_0 (r29.flatMap enc3), .obj b25 (.row 29 .whole [(.str a0.Event), (.int .i64 a0.Version), (.int .i64 a0.Time), (.int .i64 a0.Chance.N), (.int .i64 a0.Chance.Of), (.int .i64 a0.Grid), s29_0, (.bool a0.Withdrawn), (.int .i64 a0.Before)]), .obj b22 (.row 29 .whole [(.str a0.Event), (.int .i64 a0.Version), (.int .i64 a0.Time), (.int .i64 a0.Chance.N), (.int .i64 a0.Chance.Of), (.int .i64 a0.Grid), s29_0, (.bool a0.Withdrawn), (.int .i64 a0.Before)])])⟩
  refine Run.opsEnd ?_
  cases h
  exact Run.ret Tryd.func81 rfl (res_cell rfl (x_load (ex_loadA rfl (hH33.cells (i := 1) rfl 0 rfl) rdLe_rfl agg29 rfl rfl rfl)) res_nil) ⟨_, rfl, (hH33.pick [0] rfl rfl).upF (none_le _)⟩

theorem mkk81 : makeK Tryd.prog 81 = none := by kernel_rfl
theorem cal81 : callable Tryd.prog 81 = true := by kernel_rfl
theorem elt70 : sliceElt Tryd.prog 70 = some (⟨9, 96, [(.str []), (.int .i64 0), (.int .i64 0), (.int .i64 0), (.int .i64 0), (.int .i64 0), .nils, (.bool false), (.int .i64 0)], 29⟩ : Elt) := by kernel_rfl
theorem appt70_70 : appT Tryd.prog 70 70 = some (⟨9, 96, [(.str []), (.int .i64 0), (.int .i64 0), (.int .i64 0), (.int .i64 0), (.int .i64 0), .nils, (.bool false), (.int .i64 0)], 29⟩ : Elt) := by kernel_rfl
theorem mkk31 : makeK Tryd.prog 31 = none := by kernel_rfl
theorem cal31 : callable Tryd.prog 31 = true := by kernel_rfl
theorem off103_0 : fieldOff Tryd.prog 103 0 = some 0 := by kernel_rfl
theorem lenk9 : lenK Tryd.prog 9 = some .str := by kernel_rfl
theorem uvk9_108 : uvK Tryd.prog 9 108 = none := by kernel_rfl
theorem cvk9_108 : cvK Tryd.prog 9 108 = some (.bytes 5) := by kernel_rfl
def enc5 (a : Int) : List SV := [(.int .u8 a)]
theorem enc5_len (a : Int) : (enc5 a).length = 1 := rfl
theorem enc5_ones (a : Int) : ones (enc5 a) = true := rfl
theorem lenk108 : lenK Tryd.prog 108 = some .sl := by kernel_rfl
theorem els108 : elems Tryd.prog 108 = some (.sl 1) := by kernel_rfl
theorem agg5 : aggSize Tryd.prog 5 = some none := by kernel_rfl
abbrev num_IsName_post (r : Bool) : SV → Mem → Prop := fun s _ => s = (.bool r)

def num_IsName_7 (F : Nat) (hd2 : (List Int) → Int → Int → Option (Bool)) (v16 : (List Int)) (v17 v18 : Int) (v48 : Bool) : Option (Bool) :=
  bif v48 then
    some false
  else
    hd2 v16 v17 (w64 (v18 + (1 : Int)))

theorem num_IsName_7_ok (F : Nat) (hd2 : (List Int) → Int → Int → Option (Bool)) (hhd2 : ∀ (v16 : (List Int)) (v17 v18 : Int) (sv16 : SV) (Fr : Rd) (M : Mem) (r : Bool) (hv16 : Slc Fr 1 (FlatR enc5) sv16 v16) (hH : Has Fr M []), hd2 v16 v17 v18 = some r → Run Tryd.prog ⟨⟨70, [], none⟩, []⟩ 50 (num_IsName_post r) [(16, sv16), (17, (.int .i64 v17)), (18, (.int .i64 v18))] [codeC Tryd.prog 70 [1, 1, 0, 1, 0, 0], loopC Tryd.prog 70 [1, 1, 0, 1, 0, 0], .inBlock 0, codeC Tryd.prog 70 [1, 1, 1]] M) : ∀ (v16 : (List Int)) (v17 v18 : Int) (v48 : Bool) (sv16 : SV) (Fr : Rd) (M : Mem) (r : Bool) (hv16 : Slc Fr 1 (FlatR enc5) sv16 v16) (hH : Has Fr M []), num_IsName_7 F hd2 v16 v17 v18 v48 = some r → Run Tryd.prog ⟨⟨70, [], none⟩, []⟩ 50 (num_IsName_post r) [(16, sv16), (17, (.int .i64 v17)), (18, (.int .i64 v18)), (48, (.bool v48))] [codeC Tryd.prog 70 [1, 1, 0, 1, 0, 0, 1, 1, 0, 0, 1, 1, 1, 1], .inBlock 1, codeC Tryd.prog 70 [1, 1, 0, 1, 0, 0, 1, 1, 1], loopC Tryd.prog 70 [1, 1, 0, 1, 0, 0], .inBlock 0, codeC Tryd.prog 70 [1, 1, 1]] M := by
  intro v16 v17 v18 v48 sv16 Fr M r hv16 hH h
  rw [num_IsName_7] at h
  rcases btf (v48) with hc37 | hc37
  · have h := bif_t hc37 h
    refine Run.condT' rfl hc37 ?_
    refine Run.seq (Run.region ?_)
    refine Run.opG wantS_none (ex_assign rfl) rfl ?_
    refine Run.opsEnd ?_
    cases h
    exact Run.ret Tryd.func70 rfl (res_tmp rfl res_nil) rfl
  · have h := bif_f hc37 h
    refine Run.condF' rfl hc37 ?_
    refine Run.skip (Run.inBlock (Run.region ?_))
    refine Run.opG wantS_none (ex_add rfl rfl) rfl ?_
    refine Run.opG wantS_none (ex_move rfl) rfl ?_
    refine Run.opsEnd (Run.inLoop ?_)
    exact Run.pick [16, 17, 18] (hhd2 v16 v17 (w64 (v18 + (1 : Int))) sv16 _ _ _ hv16 hH h)

def num_IsName_6 (F : Nat) (hd2 : (List Int) → Int → Int → Option (Bool)) (v16 : (List Int)) (v17 v18 : Int) (v41 v46 : Bool) : Option (Bool) :=
  bif v41 then
    num_IsName_7 F hd2 v16 v17 v18 (!v46)
  else
    num_IsName_7 F hd2 v16 v17 v18 false

theorem num_IsName_6_ok (F : Nat) (hd2 : (List Int) → Int → Int → Option (Bool)) (hhd2 : ∀ (v16 : (List Int)) (v17 v18 : Int) (sv16 : SV) (Fr : Rd) (M : Mem) (r : Bool) (hv16 : Slc Fr 1 (FlatR enc5) sv16 v16) (hH : Has Fr M []), hd2 v16 v17 v18 = some r → Run Tryd.prog ⟨⟨70, [], none⟩, []⟩ 50 (num_IsName_post r) [(16, sv16), (17, (.int .i64 v17)), (18, (.int .i64 v18))] [codeC Tryd.prog 70 [1, 1, 0, 1, 0, 0], loopC Tryd.prog 70 [1, 1, 0, 1, 0, 0], .inBlock 0, codeC Tryd.prog 70 [1, 1, 1]] M) : ∀ (v16 : (List Int)) (v17 v18 : Int) (v41 v46 : Bool) (sv16 : SV) (Fr : Rd) (M : Mem) (r : Bool) (hv16 : Slc Fr 1 (FlatR enc5) sv16 v16) (hH : Has Fr M []), num_IsName_6 F hd2 v16 v17 v18 v41 v46 = some r → Run Tryd.prog ⟨⟨70, [], none⟩, []⟩ 50 (num_IsName_post r) [(16, sv16), (17, (.int .i64 v17)), (18, (.int .i64 v18)), (41, (.bool v41)), (46, (.bool v46))] [itemC Tryd.prog 70 [1, 1, 0, 1, 0, 0, 1, 1, 0, 0, 1, 1, 1, 0] 8, codeC Tryd.prog 70 [1, 1, 0, 1, 0, 0, 1, 1, 0, 0, 1, 1, 1, 1], .inBlock 1, codeC Tryd.prog 70 [1, 1, 0, 1, 0, 0, 1, 1, 1], loopC Tryd.prog 70 [1, 1, 0, 1, 0, 0], .inBlock 0, codeC Tryd.prog 70 [1, 1, 1]] M := by
  intro v16 v17 v18 v41 v46 sv16 Fr M r hv16 hH h
  rw [num_IsName_6] at h
  rcases btf (v41) with hc36 | hc36
  · have h := bif_t hc36 h
    refine Run.opG (wantS_yes' rfl rfl hc36) (ex_not rfl) rfl ?_
    refine Run.opG wantS_none (ex_pickT' rfl hc36 rfl rfl) rfl ?_
    refine Run.opsEnd ?_
    exact Run.pick [16, 17, 18, 48] (num_IsName_7_ok F hd2 hhd2 v16 v17 v18 (!v46) sv16 _ _ _ hv16 hH h)
  · have h := bif_f hc36 h
    refine Run.no (wantS_not' rfl rfl hc36) rfl ?_
    refine Run.opG wantS_none (ex_pickF' rfl hc36 rfl rfl) rfl ?_
    refine Run.opsEnd ?_
    exact Run.pick [16, 17, 18, 48] (num_IsName_7_ok F hd2 hhd2 v16 v17 v18 false sv16 _ _ _ hv16 hH h)

def num_IsName_8 (F : Nat) (hd2 : (List Int) → Int → Int → Option (Bool)) (v16 : (List Int)) (v17 v18 : Int) (v41 : Bool) : Option (Bool) :=
  bif v41 then
    none
  else
    num_IsName_7 F hd2 v16 v17 v18 false

theorem num_IsName_8_ok (F : Nat) (hd2 : (List Int) → Int → Int → Option (Bool)) (hhd2 : ∀ (v16 : (List Int)) (v17 v18 : Int) (sv16 : SV) (Fr : Rd) (M : Mem) (r : Bool) (hv16 : Slc Fr 1 (FlatR enc5) sv16 v16) (hH : Has Fr M []), hd2 v16 v17 v18 = some r → Run Tryd.prog ⟨⟨70, [], none⟩, []⟩ 50 (num_IsName_post r) [(16, sv16), (17, (.int .i64 v17)), (18, (.int .i64 v18))] [codeC Tryd.prog 70 [1, 1, 0, 1, 0, 0], loopC Tryd.prog 70 [1, 1, 0, 1, 0, 0], .inBlock 0, codeC Tryd.prog 70 [1, 1, 1]] M) : ∀ (v16 : (List Int)) (v17 v18 : Int) (v41 : Bool) (sv16 : SV) (Fr : Rd) (M : Mem) (r : Bool) (hv16 : Slc Fr 1 (FlatR enc5) sv16 v16) (hH : Has Fr M []), num_IsName_8 F hd2 v16 v17 v18 v41 = some r → Run Tryd.prog ⟨⟨70, [], none⟩, []⟩ 50 (num_IsName_post r) [(16, sv16), (17, (.int .i64 v17)), (18, (.int .i64 v18)), (41, (.bool v41)), (46, (.tuple []))] [itemC Tryd.prog 70 [1, 1, 0, 1, 0, 0, 1, 1, 0, 0, 1, 1, 1, 0] 8, codeC Tryd.prog 70 [1, 1, 0, 1, 0, 0, 1, 1, 0, 0, 1, 1, 1, 1], .inBlock 1, codeC Tryd.prog 70 [1, 1, 0, 1, 0, 0, 1, 1, 1], loopC Tryd.prog 70 [1, 1, 0, 1, 0, 0], .inBlock 0, codeC Tryd.prog 70 [1, 1, 1]] M := by
  intro v16 v17 v18 v41 sv16 Fr M r hv16 hH h
  rw [num_IsName_8] at h
  rcases btf (v41) with hc38 | hc38
  · have h := bif_t hc38 h
    cases h
  · have h := bif_f hc38 h
    refine Run.no (wantS_not' rfl rfl hc38) rfl ?_
    refine Run.opG wantS_none (ex_pickF' rfl hc38 rfl rfl) rfl ?_
    refine Run.opsEnd ?_
    exact Run.pick [16, 17, 18, 48] (num_IsName_7_ok F hd2 hhd2 v16 v17 v18 false sv16 _ _ _ hv16 hH h)

def num_IsName_5 (F : Nat) (hd2 : (List Int) → Int → Int → Option (Bool)) (v3 : Int) (v5 : Bool) (v16 : (List Int)) (v17 v18 : Int) (v38 : Bool) : Option (Bool) :=
  bif (!v5) then
    bif v38 then
      num_IsName_6 F hd2 v16 v17 v18 (!v5) (decide ((0 : Int) < v3))
    else
      num_IsName_6 F hd2 v16 v17 v18 (!v5) false
  else
    num_IsName_8 F hd2 v16 v17 v18 (!v5)

theorem num_IsName_5_ok (F : Nat) (hd2 : (List Int) → Int → Int → Option (Bool)) (hhd2 : ∀ (v16 : (List Int)) (v17 v18 : Int) (sv16 : SV) (Fr : Rd) (M : Mem) (r : Bool) (hv16 : Slc Fr 1 (FlatR enc5) sv16 v16) (hH : Has Fr M []), hd2 v16 v17 v18 = some r → Run Tryd.prog ⟨⟨70, [], none⟩, []⟩ 50 (num_IsName_post r) [(16, sv16), (17, (.int .i64 v17)), (18, (.int .i64 v18))] [codeC Tryd.prog 70 [1, 1, 0, 1, 0, 0], loopC Tryd.prog 70 [1, 1, 0, 1, 0, 0], .inBlock 0, codeC Tryd.prog 70 [1, 1, 1]] M) : ∀ (v3 : Int) (v5 : Bool) (v16 : (List Int)) (v17 v18 : Int) (v38 : Bool) (sv16 : SV) (Fr : Rd) (M : Mem) (r : Bool) (hv16 : Slc Fr 1 (FlatR enc5) sv16 v16) (hH : Has Fr M []), num_IsName_5 F hd2 v3 v5 v16 v17 v18 v38 = some r → Run Tryd.prog ⟨⟨70, [], none⟩, []⟩ 50 (num_IsName_post r) [(3, (.int .i64 v3)), (5, (.bool v5)), (16, sv16), (17, (.int .i64 v17)), (18, (.int .i64 v18)), (38, (.bool v38))] [itemC Tryd.prog 70 [1, 1, 0, 1, 0, 0, 1, 1, 0, 0, 1, 1, 0] 10, codeC Tryd.prog 70 [1, 1, 0, 1, 0, 0, 1, 1, 0, 0, 1, 1, 1], .inBlock 1, codeC Tryd.prog 70 [1, 1, 0, 1, 0, 0, 1, 1, 1], loopC Tryd.prog 70 [1, 1, 0, 1, 0, 0], .inBlock 0, codeC Tryd.prog 70 [1, 1, 1]] M := by
  intro v3 v5 v16 v17 v18 v38 sv16 Fr M r hv16 hH h
  rw [num_IsName_5] at h
  refine Run.opG wantS_none (ex_assign rfl) rfl ?_
  refine Run.opsEnd (Run.seq (Run.region ?_))
  refine Run.opG wantS_none (ex_move rfl) rfl ?_
  refine Run.opG wantS_none (ex_not rfl) rfl ?_
  refine Run.opG wantS_none (ex_move rfl) rfl ?_
  rcases btf ((!v5)) with hc34 | hc34
  · have h := bif_t hc34 h
    refine Run.opG (wantS_yes' rfl rfl hc34) (ex_move rfl) rfl ?_
    refine Run.opG (wantS_yes' rfl rfl hc34) (ex_move rfl) rfl ?_
    rcases btf (v38) with hc35 | hc35
    · have h := bif_t hc35 h
      refine Run.opG (wantS_yes' rfl rfl hc35) (ex_move rfl) rfl ?_
      refine Run.opG (wantS_yes' rfl rfl hc35) (ex_gtr rfl rfl) rfl ?_
      refine Run.opG (wantS_yes' rfl rfl hc34) (ex_pickT' rfl hc35 rfl rfl) rfl ?_
      exact Run.pick [16, 17, 18, 41, 46] (num_IsName_6_ok F hd2 hhd2 v16 v17 v18 (!v5) (decide ((0 : Int) < v3)) sv16 _ _ _ hv16 hH h)
    · have h := bif_f hc35 h
      refine Run.no (wantS_not' rfl rfl hc35) rfl ?_
      refine Run.no (wantS_not' rfl rfl hc35) rfl ?_
      refine Run.opG (wantS_yes' rfl rfl hc34) (ex_pickF' rfl hc35 rfl rfl) rfl ?_
      exact Run.pick [16, 17, 18, 41, 46] (num_IsName_6_ok F hd2 hhd2 v16 v17 v18 (!v5) false sv16 _ _ _ hv16 hH h)
  · have h := bif_f hc34 h
    refine Run.no (wantS_not' rfl rfl hc34) rfl ?_
    refine Run.no (wantS_not' rfl rfl hc34) rfl ?_
    refine Run.no (wantS_skip rfl rfl) rfl ?_
    refine Run.no (wantS_skip rfl rfl) rfl ?_
    refine Run.no (wantS_not' rfl rfl hc34) rfl ?_
    exact Run.pick [16, 17, 18, 41, 46] (num_IsName_8_ok F hd2 hhd2 v16 v17 v18 (!v5) sv16 _ _ _ hv16 hH h)

def num_IsName_4 (F : Nat) (hd2 : (List Int) → Int → Int → Option (Bool)) (v3 v4 : Int) (v5 : Bool) (v16 : (List Int)) (v17 v18 : Int) (v34 : Bool) : Option (Bool) :=
  bif v34 then
    num_IsName_5 F hd2 v3 v5 v16 v17 v18 true
  else
    num_IsName_5 F hd2 v3 v5 v16 v17 v18 (v4 == (95 : Int))

theorem num_IsName_4_ok (F : Nat) (hd2 : (List Int) → Int → Int → Option (Bool)) (hhd2 : ∀ (v16 : (List Int)) (v17 v18 : Int) (sv16 : SV) (Fr : Rd) (M : Mem) (r : Bool) (hv16 : Slc Fr 1 (FlatR enc5) sv16 v16) (hH : Has Fr M []), hd2 v16 v17 v18 = some r → Run Tryd.prog ⟨⟨70, [], none⟩, []⟩ 50 (num_IsName_post r) [(16, sv16), (17, (.int .i64 v17)), (18, (.int .i64 v18))] [codeC Tryd.prog 70 [1, 1, 0, 1, 0, 0], loopC Tryd.prog 70 [1, 1, 0, 1, 0, 0], .inBlock 0, codeC Tryd.prog 70 [1, 1, 1]] M) : ∀ (v3 v4 : Int) (v5 : Bool) (v16 : (List Int)) (v17 v18 : Int) (v34 : Bool) (sv16 : SV) (Fr : Rd) (M : Mem) (r : Bool) (hv16 : Slc Fr 1 (FlatR enc5) sv16 v16) (hH : Has Fr M []), num_IsName_4 F hd2 v3 v4 v5 v16 v17 v18 v34 = some r → Run Tryd.prog ⟨⟨70, [], none⟩, []⟩ 50 (num_IsName_post r) [(3, (.int .i64 v3)), (4, (.int .u8 v4)), (5, (.bool v5)), (16, sv16), (17, (.int .i64 v17)), (18, (.int .i64 v18)), (34, (.bool v34))] [itemC Tryd.prog 70 [1, 1, 0, 1, 0, 0, 1, 1, 0, 0, 1, 1, 0] 6, codeC Tryd.prog 70 [1, 1, 0, 1, 0, 0, 1, 1, 0, 0, 1, 1, 1], .inBlock 1, codeC Tryd.prog 70 [1, 1, 0, 1, 0, 0, 1, 1, 1], loopC Tryd.prog 70 [1, 1, 0, 1, 0, 0], .inBlock 0, codeC Tryd.prog 70 [1, 1, 1]] M := by
  intro v3 v4 v5 v16 v17 v18 v34 sv16 Fr M r hv16 hH h
  rw [num_IsName_4] at h
  refine Run.opG wantS_none (ex_move rfl) rfl ?_
  rcases btf (v34) with hc33 | hc33
  · have h := bif_t hc33 h
    refine Run.no (wantS_not' rfl rfl hc33) rfl ?_
    refine Run.no (wantS_not' rfl rfl hc33) rfl ?_
    refine Run.opG wantS_none (ex_pickT' rfl hc33 rfl rfl) rfl ?_
    exact Run.pick [3, 5, 16, 17, 18, 38] (num_IsName_5_ok F hd2 hhd2 v3 v5 v16 v17 v18 true sv16 _ _ _ hv16 hH h)
  · have h := bif_f hc33 h
    refine Run.opG (wantS_yes' rfl rfl hc33) (ex_move rfl) rfl ?_
    refine Run.opG (wantS_yes' rfl rfl hc33) (ex_eql rfl rfl) rfl ?_
    refine Run.opG wantS_none (ex_pickF' rfl hc33 rfl rfl) rfl ?_
    exact Run.pick [3, 5, 16, 17, 18, 38] (num_IsName_5_ok F hd2 hhd2 v3 v5 v16 v17 v18 (v4 == (95 : Int)) sv16 _ _ _ hv16 hH h)

def num_IsName_3 (F : Nat) (hd2 : (List Int) → Int → Int → Option (Bool)) (v3 v4 : Int) (v16 : (List Int)) (v17 v18 : Int) (v28 : Bool) : Option (Bool) :=
  bif (decide ((48 : Int) ≤ v4)) then
    num_IsName_4 F hd2 v3 v4 v28 v16 v17 v18 (decide (v4 ≤ (57 : Int)))
  else
    num_IsName_4 F hd2 v3 v4 v28 v16 v17 v18 false

theorem num_IsName_3_ok (F : Nat) (hd2 : (List Int) → Int → Int → Option (Bool)) (hhd2 : ∀ (v16 : (List Int)) (v17 v18 : Int) (sv16 : SV) (Fr : Rd) (M : Mem) (r : Bool) (hv16 : Slc Fr 1 (FlatR enc5) sv16 v16) (hH : Has Fr M []), hd2 v16 v17 v18 = some r → Run Tryd.prog ⟨⟨70, [], none⟩, []⟩ 50 (num_IsName_post r) [(16, sv16), (17, (.int .i64 v17)), (18, (.int .i64 v18))] [codeC Tryd.prog 70 [1, 1, 0, 1, 0, 0], loopC Tryd.prog 70 [1, 1, 0, 1, 0, 0], .inBlock 0, codeC Tryd.prog 70 [1, 1, 1]] M) : ∀ (v3 v4 : Int) (v16 : (List Int)) (v17 v18 : Int) (v28 : Bool) (sv16 : SV) (Fr : Rd) (M : Mem) (r : Bool) (hv16 : Slc Fr 1 (FlatR enc5) sv16 v16) (hH : Has Fr M []), num_IsName_3 F hd2 v3 v4 v16 v17 v18 v28 = some r → Run Tryd.prog ⟨⟨70, [], none⟩, []⟩ 50 (num_IsName_post r) [(3, (.int .i64 v3)), (4, (.int .u8 v4)), (16, sv16), (17, (.int .i64 v17)), (18, (.int .i64 v18)), (28, (.bool v28))] [itemC Tryd.prog 70 [1, 1, 0, 1, 0, 0, 1, 1, 0, 0, 1, 0] 6, codeC Tryd.prog 70 [1, 1, 0, 1, 0, 0, 1, 1, 0, 0, 1, 1], .inBlock 1, codeC Tryd.prog 70 [1, 1, 0, 1, 0, 0, 1, 1, 1], loopC Tryd.prog 70 [1, 1, 0, 1, 0, 0], .inBlock 0, codeC Tryd.prog 70 [1, 1, 1]] M := by
  intro v3 v4 v16 v17 v18 v28 sv16 Fr M r hv16 hH h
  rw [num_IsName_3] at h
  refine Run.opG wantS_none (ex_assign rfl) rfl ?_
  refine Run.opsEnd (Run.seq (Run.region ?_))
  refine Run.opG wantS_none (ex_move rfl) rfl ?_
  refine Run.opG wantS_none (ex_geq rfl rfl) rfl ?_
  refine Run.opG wantS_none (ex_move rfl) rfl ?_
  rcases btf ((decide ((48 : Int) ≤ v4))) with hc32 | hc32
  · have h := bif_t hc32 h
    refine Run.opG (wantS_yes' rfl rfl hc32) (ex_move rfl) rfl ?_
    refine Run.opG (wantS_yes' rfl rfl hc32) (ex_leq rfl rfl) rfl ?_
    refine Run.opG wantS_none (ex_pickT' rfl hc32 rfl rfl) rfl ?_
    exact Run.pick [3, 4, 5, 16, 17, 18, 34] (num_IsName_4_ok F hd2 hhd2 v3 v4 v28 v16 v17 v18 (decide (v4 ≤ (57 : Int))) sv16 _ _ _ hv16 hH h)
  · have h := bif_f hc32 h
    refine Run.no (wantS_not' rfl rfl hc32) rfl ?_
    refine Run.no (wantS_not' rfl rfl hc32) rfl ?_
    refine Run.opG wantS_none (ex_pickF' rfl hc32 rfl rfl) rfl ?_
    exact Run.pick [3, 4, 5, 16, 17, 18, 34] (num_IsName_4_ok F hd2 hhd2 v3 v4 v28 v16 v17 v18 false sv16 _ _ _ hv16 hH h)

def num_IsName_2 (F : Nat) : Nat → (List Int) → Int → Int → Option (Bool)
  | 0, _, _, _ => none
  | N + 1, v16, v17, v18 =>
    bif (decide (v18 < v17)) then
      bnd (idx v16 v18) fun x30 =>
      bif (decide ((97 : Int) ≤ x30)) then
        num_IsName_3 F (num_IsName_2 F N) v18 x30 v16 v17 v18 (decide (x30 ≤ (122 : Int)))
      else
        num_IsName_3 F (num_IsName_2 F N) v18 x30 v16 v17 v18 false
    else
      some true

theorem num_IsName_2_ok (F : Nat) : ∀ (N : Nat), ∀ (v16 : (List Int)) (v17 v18 : Int) (sv16 : SV) (Fr : Rd) (M : Mem) (r : Bool) (hv16 : Slc Fr 1 (FlatR enc5) sv16 v16) (hH : Has Fr M []), num_IsName_2 F N v16 v17 v18 = some r → Run Tryd.prog ⟨⟨70, [], none⟩, []⟩ 50 (num_IsName_post r) [(16, sv16), (17, (.int .i64 v17)), (18, (.int .i64 v18))] [codeC Tryd.prog 70 [1, 1, 0, 1, 0, 0], loopC Tryd.prog 70 [1, 1, 0, 1, 0, 0], .inBlock 0, codeC Tryd.prog 70 [1, 1, 1]] M := by
  intro N
  induction N with
  | zero =>
    intro v16 v17 v18 sv16 Fr M r hv16 hH h
    simp [num_IsName_2] at h
  | succ N ih =>
    intro v16 v17 v18 sv16 Fr M r hv16 hH h
    rw [num_IsName_2] at h
    refine Run.seq (Run.region ?_)
    refine Run.opG wantS_none (ex_lss rfl rfl) rfl ?_
    refine Run.opsEnd (Run.seq ?_)
    rcases btf ((decide (v18 < v17))) with hc28 | hc28
    · have h := bif_t hc28 h
      refine Run.condT' rfl hc28 ?_
      refine Run.skip (Run.seq (Run.block (Run.seq (Run.region ?_))))
      refine Run.opG wantS_none (ex_move rfl) rfl ?_
      obtain ⟨x30, hx30, h⟩ := bnd_some h
      obtain ⟨p30, o30, _, hx30, hp30, rfl⟩ := sl_elem (P := Tryd.prog) (t := 108) (kk := .i64) hv16 hx30 els108
      refine Run.opG wantS_none (ex_elX rfl rfl hx30) rfl ?_
      refine Run.opG wantS_none (ex_load1 rfl (hH.ptrF hp30) rdLe_rfl agg5) rfl ?_
      refine Run.opG wantS_none (ex_assign rfl) rfl ?_
      refine Run.opG wantS_none (ex_assign rfl) rfl ?_
      refine Run.opsEnd (Run.seq (Run.region ?_))
      refine Run.opG wantS_none (ex_move rfl) rfl ?_
      refine Run.opG wantS_none (ex_geq rfl rfl) rfl ?_
      refine Run.opG wantS_none (ex_move rfl) rfl ?_
      rcases btf ((decide ((97 : Int) ≤ x30))) with hc31 | hc31
      · have h := bif_t hc31 h
        refine Run.opG (wantS_yes' rfl rfl hc31) (ex_move rfl) rfl ?_
        refine Run.opG (wantS_yes' rfl rfl hc31) (ex_leq rfl rfl) rfl ?_
        refine Run.opG wantS_none (ex_pickT' rfl hc31 rfl rfl) rfl ?_
        exact Run.pick [3, 4, 16, 17, 18, 28] (num_IsName_3_ok F (num_IsName_2 F N) ih v18 x30 v16 v17 v18 (decide (x30 ≤ (122 : Int))) sv16 _ _ _ hv16 hH h)
      · have h := bif_f hc31 h
        refine Run.no (wantS_not' rfl rfl hc31) rfl ?_
        refine Run.no (wantS_not' rfl rfl hc31) rfl ?_
        refine Run.opG wantS_none (ex_pickF' rfl hc31 rfl rfl) rfl ?_
        exact Run.pick [3, 4, 16, 17, 18, 28] (num_IsName_3_ok F (num_IsName_2 F N) ih v18 x30 v16 v17 v18 false sv16 _ _ _ hv16 hH h)
    · have h := bif_f hc28 h
      refine Run.condF' rfl hc28 ?_
      refine Run.exit rfl (Run.seq (Run.region ?_))
      refine Run.opG wantS_none (ex_assign rfl) rfl ?_
      refine Run.opsEnd ?_
      cases h
      exact Run.ret Tryd.func70 rfl (res_tmp rfl res_nil) rfl

def num_IsName_1 (F : Nat) (v0 : (List UInt8)) (v14 : Bool) : Option (Bool) :=
  bif v14 then
    some false
  else
    bnd (byt v0) fun l24 =>
    num_IsName_2 F F l24 (l24.length : Int) (0 : Int)

theorem num_IsName_1_ok (F : Nat) : ∀ (v0 : (List UInt8)) (v14 : Bool) (Fr : Rd) (M : Mem) (r : Bool) (hH : Has Fr M []), num_IsName_1 F v0 v14 = some r → Run Tryd.prog ⟨⟨70, [], none⟩, []⟩ 50 (num_IsName_post r) [(0, (.str v0)), (14, (.bool v14))] [codeC Tryd.prog 70 [1, 0, 1], codeC Tryd.prog 70 [1, 1]] M := by
  intro v0 v14 Fr M r hH h
  rw [num_IsName_1] at h
  rcases btf (v14) with hc22 | hc22
  · have h := bif_t hc22 h
    refine Run.condT' rfl hc22 ?_
    refine Run.seq (Run.region ?_)
    refine Run.opG wantS_none (ex_assign rfl) rfl ?_
    refine Run.opsEnd ?_
    cases h
    exact Run.ret Tryd.func70 rfl (res_tmp rfl res_nil) rfl
  · have h := bif_f hc22 h
    refine Run.condF' rfl hc22 ?_
    refine Run.skip (Run.seq (Run.seq (Run.region ?_)))
    refine Run.opG wantS_none (ex_move rfl) rfl ?_
    obtain ⟨l24, hl24, h⟩ := bnd_some h
    refine Run.opX wantS_none rfl (ExG.bytes rfl uvk9_108 cvk9_108 hl24 hH) ?_
    rintro _ M25 ⟨b25, rfl, hH25⟩
    refine Run.freezeB (t := 16) (i := 0) (enc := enc5) (fun _ => rfl) hl24 rfl hH25 rfl ?_
    intro F26 M26 hle26 (hH26 : Has F26 M26 [.vec 0 0 0 .nils []]) hf26
    refine Run.opG wantS_none (ex_len' rfl hf26 lenk108) rfl ?_
    refine Run.opG wantS_none (ex_move rfl) rfl ?_
    refine Run.opsEnd (Run.block (Run.loop ?_))
    exact Run.pick [16, 17, 18] (num_IsName_2_ok F F l24 (l24.length : Int) (0 : Int) (.ope b25 0 l24.length 1) _ _ _ hf26 (hH26.pick [] rfl rfl) h)

def num_IsName (F : Nat) (a0 : (List UInt8)) : Option (Bool) :=
  bif ((a0.length : Int) == (0 : Int)) then
    num_IsName_1 F a0 true
  else
    num_IsName_1 F a0 (decide ((16 : Int) < (a0.length : Int)))

theorem num_IsName_ok (F : Nat) (a0 : (List UInt8)) (r : Bool) (M : Mem) (h : num_IsName F a0 = some r) : CallsM Tryd.prog 70 [(.str a0)] M (fun s M' => s = (.bool r) ∧ M' = M) := by
  refine CallsM.plain Tryd.func70 rfl rfl rfl (show Run _ _ _ (num_IsName_post r) _ _ _ from ?_)
  rw [num_IsName] at h
  have hH := Has.nil (frozen M)
  refine Run.seq (Run.region ?_)
  refine Run.opG wantS_none (ex_assign rfl) rfl ?_
  refine Run.opsEnd (Run.seq (Run.seq (Run.region ?_)))
  refine Run.opG wantS_none (ex_move rfl) rfl ?_
  refine Run.opG wantS_none (ex_lenS rfl lenk9) rfl ?_
  refine Run.opG wantS_none (ex_eql rfl rfl) rfl ?_
  refine Run.opG wantS_none (ex_move rfl) rfl ?_
  rcases btf (((a0.length : Int) == (0 : Int))) with hc21 | hc21
  · have h := bif_t hc21 h
    refine Run.no (wantS_not' rfl rfl hc21) rfl ?_
    refine Run.no (wantS_not' rfl rfl hc21) rfl ?_
    refine Run.no (wantS_not' rfl rfl hc21) rfl ?_
    refine Run.opG wantS_none (ex_pickT' rfl hc21 rfl rfl) rfl ?_
    refine Run.opsEnd ?_
    exact Run.pick [0, 14] (num_IsName_1_ok F a0 true _ _ _ hH h)
  · have h := bif_f hc21 h
    refine Run.opG (wantS_yes' rfl rfl hc21) (ex_move rfl) rfl ?_
    refine Run.opG (wantS_yes' rfl rfl hc21) (ex_lenS rfl lenk9) rfl ?_
    refine Run.opG (wantS_yes' rfl rfl hc21) (ex_gtr rfl rfl) rfl ?_
    refine Run.opG wantS_none (ex_pickF' rfl hc21 rfl rfl) rfl ?_
    refine Run.opsEnd ?_
    exact Run.pick [0, 14] (num_IsName_1_ok F a0 (decide ((16 : Int) < (a0.length : Int))) _ _ _ hH h)

theorem mkk70 : makeK Tryd.prog 70 = none := by kernel_rfl
theorem cal70 : callable Tryd.prog 70 = true := by kernel_rfl
theorem off29_1 : fieldOff Tryd.prog 29 1 = some 1 := by kernel_rfl
theorem off29_2 : fieldOff Tryd.prog 29 2 = some 2 := by kernel_rfl
theorem off29_3 : fieldOff Tryd.prog 29 3 = some 3 := by kernel_rfl
theorem agg26 : aggSize Tryd.prog 26 = some (some 2) := by kernel_rfl
theorem off26_0 : fieldOff Tryd.prog 26 0 = some 0 := by kernel_rfl
theorem off26_1 : fieldOff Tryd.prog 26 1 = some 1 := by kernel_rfl
abbrev alert_isChance_post (r : Bool) : SV → Mem → Prop := fun s _ => s = (.bool r)

def alert_isChance_1 (F : Nat) (v12 : Bool) : Option (Bool) :=
  some v12

theorem alert_isChance_1_ok (F : Nat) : ∀ (v12 : Bool) (Fr : Rd) (M : Mem) (r : Bool) (hH : Has Fr M []), alert_isChance_1 F v12 = some r → Run Tryd.prog ⟨⟨71, [], none⟩, []⟩ 13 (alert_isChance_post r) [(12, (.bool v12))] [itemC Tryd.prog 71 [1, 0] 10, codeC Tryd.prog 71 [1, 1]] M := by
  intro v12 Fr M r hH h
  rw [alert_isChance_1] at h
  refine Run.opG wantS_none (ex_assign rfl) rfl ?_
  refine Run.opsEnd ?_
  cases h
  exact Run.ret Tryd.func71 rfl (res_tmp rfl res_nil) rfl

def alert_isChance (F : Nat) (a0 : S_api_Chance) : Option (Bool) :=
  bnd (alert_isFrom F (1 : Int) a0.N a0.Of) fun r25 =>
  bif r25 then
    alert_isChance_1 F (decide (a0.Of ≤ (256 : Int)))
  else
    alert_isChance_1 F false

theorem alert_isChance_ok (F : Nat) (a0 : S_api_Chance) (r : Bool) (M : Mem) (h : alert_isChance F a0 = some r) : CallsM Tryd.prog 71 [(.agg [(.int .i64 a0.N), (.int .i64 a0.Of)])] M (fun s M' => s = (.bool r) ∧ M' = M) := by
  refine CallsM.plain Tryd.func71 rfl rfl rfl (show Run _ _ _ (alert_isChance_post r) _ _ _ from ?_)
  rw [alert_isChance] at h
  have hH := Has.nil (frozen M)
  refine Run.seq (Run.region ?_)
  refine Run.opX wantS_none rfl (ExG.box rfl rfl hH) ?_
  rintro _ M23 ⟨b22, rfl, hH23⟩
  refine Run.opG wantS_none (ex_assign rfl) rfl ?_
  refine Run.opsEnd (Run.seq (Run.region ?_))
  refine Run.opG wantS_none (ex_fieldAddr rfl off26_0) rfl ?_
  refine Run.opG wantS_none (ex_load1 rfl (hH23.cells (i := 0) rfl 0 rfl) rdLe_rfl agg3) rfl ?_
  refine Run.opG wantS_none (ex_fieldAddr rfl off26_1) rfl ?_
  refine Run.opG wantS_none (ex_load1 rfl (hH23.cells (i := 0) rfl 1 rfl) rdLe_rfl agg3) rfl ?_
  obtain ⟨r25, hr25, h⟩ := bnd_some h
  refine Run.callP wantS_none (ex_call rfl mkk36 cal36) rfl (alert_isFrom_ok F (1 : Int) a0.N a0.Of _ _ hr25) ?_
  refine Run.opG wantS_none (ex_move rfl) rfl ?_
  rcases btf (r25) with hc27 | hc27
  · have h := bif_t hc27 h
    refine Run.opG (wantS_yes' rfl rfl hc27) (ex_fieldAddr rfl off26_1) rfl ?_
    refine Run.opG (wantS_yes' rfl rfl hc27) (ex_load1 rfl (hH23.cells (i := 0) rfl 1 rfl) rdLe_rfl agg3) rfl ?_
    refine Run.opG (wantS_yes' rfl rfl hc27) (ex_leq rfl rfl) rfl ?_
    refine Run.opG wantS_none (ex_pickT' rfl hc27 rfl rfl) rfl ?_
    exact Run.pick [12] (alert_isChance_1_ok F (decide (a0.Of ≤ (256 : Int))) _ _ _ (hH23.pick [] rfl rfl) h)
  · have h := bif_f hc27 h
    refine Run.no (wantS_not' rfl rfl hc27) rfl ?_
    refine Run.no (wantS_not' rfl rfl hc27) rfl ?_
    refine Run.no (wantS_not' rfl rfl hc27) rfl ?_
    refine Run.opG wantS_none (ex_pickF' rfl hc27 rfl rfl) rfl ?_
    exact Run.pick [12] (alert_isChance_1_ok F false _ _ _ (hH23.pick [] rfl rfl) h)

theorem mkk71 : makeK Tryd.prog 71 = none := by kernel_rfl
theorem cal71 : callable Tryd.prog 71 = true := by kernel_rfl
theorem off29_4 : fieldOff Tryd.prog 29 4 = some 5 := by kernel_rfl
abbrev sky_isFrom_post (r : Bool) : SV → Mem → Prop := fun s _ => s = (.bool r)

def sky_isFrom_1 (F : Nat) (v14 : Bool) : Option (Bool) :=
  some v14

theorem sky_isFrom_1_ok (F : Nat) : ∀ (v14 : Bool) (Fr : Rd) (M : Mem) (r : Bool) (hH : Has Fr M []), sky_isFrom_1 F v14 = some r → Run Tryd.prog ⟨⟨107, [], none⟩, []⟩ 15 (sky_isFrom_post r) [(14, (.bool v14))] [itemC Tryd.prog 107 [1, 0] 8, codeC Tryd.prog 107 [1, 1]] M := by
  intro v14 Fr M r hH h
  rw [sky_isFrom_1] at h
  refine Run.opG wantS_none (ex_assign rfl) rfl ?_
  refine Run.opsEnd ?_
  cases h
  exact Run.ret Tryd.func107 rfl (res_tmp rfl res_nil) rfl

def sky_isFrom (F : Nat) (a0 a1 a2 : Int) : Option (Bool) :=
  bif (decide (a0 ≤ a1)) then
    sky_isFrom_1 F (decide (a1 ≤ a2))
  else
    sky_isFrom_1 F false

theorem sky_isFrom_ok (F : Nat) (a0 a1 a2 : Int) (r : Bool) (M : Mem) (h : sky_isFrom F a0 a1 a2 = some r) : CallsM Tryd.prog 107 [(.int .i64 a0), (.int .i64 a1), (.int .i64 a2)] M (fun s M' => s = (.bool r) ∧ M' = M) := by
  refine CallsM.plain Tryd.func107 rfl rfl rfl (show Run _ _ _ (sky_isFrom_post r) _ _ _ from ?_)
  rw [sky_isFrom] at h
  have hH := Has.nil (frozen M)
  refine Run.seq (Run.region ?_)
  refine Run.opG wantS_none (ex_assign rfl) rfl ?_
  refine Run.opsEnd (Run.seq (Run.region ?_))
  refine Run.opG wantS_none (ex_move rfl) rfl ?_
  refine Run.opG wantS_none (ex_move rfl) rfl ?_
  refine Run.opG wantS_none (ex_leq rfl rfl) rfl ?_
  refine Run.opG wantS_none (ex_move rfl) rfl ?_
  rcases btf ((decide (a0 ≤ a1))) with hc21 | hc21
  · have h := bif_t hc21 h
    refine Run.opG (wantS_yes' rfl rfl hc21) (ex_move rfl) rfl ?_
    refine Run.opG (wantS_yes' rfl rfl hc21) (ex_move rfl) rfl ?_
    refine Run.opG (wantS_yes' rfl rfl hc21) (ex_leq rfl rfl) rfl ?_
    refine Run.opG wantS_none (ex_pickT' rfl hc21 rfl rfl) rfl ?_
    exact Run.pick [14] (sky_isFrom_1_ok F (decide (a1 ≤ a2)) _ _ _ hH h)
  · have h := bif_f hc21 h
    refine Run.no (wantS_not' rfl rfl hc21) rfl ?_
    refine Run.no (wantS_not' rfl rfl hc21) rfl ?_
    refine Run.no (wantS_not' rfl rfl hc21) rfl ?_
    refine Run.opG wantS_none (ex_pickF' rfl hc21 rfl rfl) rfl ?_
    exact Run.pick [14] (sky_isFrom_1_ok F false _ _ _ hH h)

theorem mkk107 : makeK Tryd.prog 107 = none := by kernel_rfl
theorem cal107 : callable Tryd.prog 107 = true := by kernel_rfl
abbrev sky_grid_isValid_post (r : Bool) : SV → Mem → Prop := fun s _ => s = (.bool r)

def sky_grid_isValid (F : Nat) (a0 : Int) : Option (Bool) :=
  bnd (sky_isFrom F (1 : Int) a0 (8 : Int)) fun r22 =>
  some r22

theorem sky_grid_isValid_ok (F : Nat) (a0 : Int) (r : Bool) (M : Mem) (h : sky_grid_isValid F a0 = some r) : CallsM Tryd.prog 103 [(.int .i64 a0)] M (fun s M' => s = (.bool r) ∧ M' = M) := by
  refine CallsM.plain Tryd.func103 rfl rfl rfl (show Run _ _ _ (sky_grid_isValid_post r) _ _ _ from ?_)
  rw [sky_grid_isValid] at h
  have hH := Has.nil (frozen M)
  refine Run.seq (Run.region ?_)
  refine Run.opG wantS_none (ex_assign rfl) rfl ?_
  refine Run.opsEnd (Run.seq (Run.region ?_))
  refine Run.opG wantS_none (ex_move rfl) rfl ?_
  obtain ⟨r22, hr22, h⟩ := bnd_some h
  refine Run.callP wantS_none (ex_call rfl mkk107 cal107) rfl (sky_isFrom_ok F (1 : Int) a0 (8 : Int) _ _ hr22) ?_
  refine Run.opG wantS_none (ex_assign rfl) rfl ?_
  refine Run.opsEnd ?_
  cases h
  exact Run.ret Tryd.func103 rfl (res_tmp rfl res_nil) rfl

theorem mkk103 : makeK Tryd.prog 103 = none := by kernel_rfl
theorem cal103 : callable Tryd.prog 103 = true := by kernel_rfl
abbrev sky_checkGrid_post (r : Int) : SV → Mem → Prop := fun s _ => s = (.int .i64 r)

def sky_checkGrid (F : Nat) (a0 : Int) : Option (Int) :=
  bnd (sky_grid_isValid F a0) fun r22 =>
  bif (!r22) then
    some (91 : Int)
  else
    some (0 : Int)

theorem sky_checkGrid_ok (F : Nat) (a0 r : Int) (M : Mem) (h : sky_checkGrid F a0 = some r) : CallsM Tryd.prog 99 [(.int .i64 a0)] M (fun s M' => s = (.int .i64 r) ∧ M' = M) := by
  refine CallsM.plain Tryd.func99 rfl rfl rfl (show Run _ _ _ (sky_checkGrid_post r) _ _ _ from ?_)
  rw [sky_checkGrid] at h
  have hH := Has.nil (frozen M)
  refine Run.seq (Run.region ?_)
  refine Run.opG wantS_none (ex_assign rfl) rfl ?_
  refine Run.opsEnd (Run.seq (Run.seq (Run.region ?_)))
  refine Run.opG wantS_none (ex_move rfl) rfl ?_
  obtain ⟨r22, hr22, h⟩ := bnd_some h
  refine Run.callP wantS_none (ex_call rfl mkk103 cal103) rfl (sky_grid_isValid_ok F a0 _ _ hr22) ?_
  refine Run.opG wantS_none (ex_not rfl) rfl ?_
  refine Run.opsEnd ?_
  rcases btf ((!r22)) with hc24 | hc24
  · have h := bif_t hc24 h
    refine Run.condT' rfl hc24 ?_
    refine Run.seq (Run.region ?_)
    refine Run.opG wantS_none (ex_assign rfl) rfl ?_
    refine Run.opsEnd ?_
    cases h
    exact Run.ret Tryd.func99 rfl (res_tmp rfl res_nil) rfl
  · have h := bif_f hc24 h
    refine Run.condF' rfl hc24 ?_
    refine Run.skip (Run.seq (Run.region ?_))
    refine Run.opG wantS_none (ex_assign rfl) rfl ?_
    refine Run.opsEnd ?_
    cases h
    exact Run.ret Tryd.func99 rfl (res_tmp rfl res_nil) rfl

theorem mkk99 : makeK Tryd.prog 99 = none := by kernel_rfl
theorem cal99 : callable Tryd.prog 99 = true := by kernel_rfl
abbrev sky_grid_cells_post (r : Int) : SV → Mem → Prop := fun s _ => s = (.int .i64 r)

def sky_grid_cells (F : Nat) (a0 : Int) : Option (Int) :=
  some (w64 ((6 : Int) * (w64 (a0 * a0))))

theorem sky_grid_cells_ok (F : Nat) (a0 r : Int) (M : Mem) (h : sky_grid_cells F a0 = some r) : CallsM Tryd.prog 100 [(.int .i64 a0)] M (fun s M' => s = (.int .i64 r) ∧ M' = M) := by
  refine CallsM.plain Tryd.func100 rfl rfl rfl (show Run _ _ _ (sky_grid_cells_post r) _ _ _ from ?_)
  rw [sky_grid_cells] at h
  have hH := Has.nil (frozen M)
  refine Run.seq (Run.region ?_)
  refine Run.opG wantS_none (ex_assign rfl) rfl ?_
  refine Run.opsEnd (Run.seq (Run.region ?_))
  refine Run.opG wantS_none (ex_move rfl) rfl ?_
  refine Run.opG wantS_none (ex_move rfl) rfl ?_
  refine Run.opG wantS_none (ex_mul rfl rfl) rfl ?_
  refine Run.opG wantS_none (ex_mul rfl rfl) rfl ?_
  refine Run.opG wantS_none (ex_assign rfl) rfl ?_
  refine Run.opsEnd ?_
  cases h
  exact Run.ret Tryd.func100 rfl (res_tmp rfl res_nil) rfl

theorem mkk100 : makeK Tryd.prog 100 = none := by kernel_rfl
theorem cal100 : callable Tryd.prog 100 = true := by kernel_rfl
abbrev sky_Cells_post (r : Int × Int) : SV → Mem → Prop := fun s _ => s = (.tuple [(.int .i64 r.1), (.int .i64 r.2)])

def sky_Cells (F : Nat) (a0 : Int) : Option (Int × Int) :=
  bnd (sky_checkGrid F a0) fun r22 =>
  bif (!(r22 == (0 : Int))) then
    some ((0 : Int), r22)
  else
    bnd (sky_grid_cells F a0) fun r26 =>
    some (r26, (0 : Int))

theorem sky_Cells_ok (F : Nat) (a0 : Int) (r : Int × Int) (M : Mem) (h : sky_Cells F a0 = some r) : CallsM Tryd.prog 85 [(.int .i64 a0)] M (fun s M' => s = (.tuple [(.int .i64 r.1), (.int .i64 r.2)]) ∧ M' = M) := by
  refine CallsM.plain Tryd.func85 rfl rfl rfl (show Run _ _ _ (sky_Cells_post r) _ _ _ from ?_)
  rw [sky_Cells] at h
  have hH := Has.nil (frozen M)
  refine Run.seq (Run.region ?_)
  refine Run.opG wantS_none (ex_assign rfl) rfl ?_
  refine Run.opG wantS_none (ex_assign rfl) rfl ?_
  refine Run.opsEnd (Run.seq (Run.seq (Run.region ?_)))
  refine Run.opG wantS_none (ex_move rfl) rfl ?_
  obtain ⟨r22, hr22, h⟩ := bnd_some h
  refine Run.callP wantS_none (ex_call rfl mkk99 cal99) rfl (sky_checkGrid_ok F a0 _ _ hr22) ?_
  refine Run.opG wantS_none (ex_assign rfl) rfl ?_
  refine Run.opsEnd (Run.seq (Run.region ?_))
  refine Run.opG wantS_none (ex_move rfl) rfl ?_
  refine Run.opG wantS_none (ex_neq rfl rfl) rfl ?_
  refine Run.opsEnd ?_
  rcases btf ((!(r22 == (0 : Int)))) with hc24 | hc24
  · have h := bif_t hc24 h
    refine Run.condT' rfl hc24 ?_
    refine Run.seq (Run.region ?_)
    refine Run.opG wantS_none (ex_move rfl) rfl ?_
    refine Run.opG wantS_none (ex_assign rfl) rfl ?_
    refine Run.opG wantS_none (ex_assign rfl) rfl ?_
    refine Run.opsEnd ?_
    cases h
    exact Run.ret Tryd.func85 rfl (res_tmp rfl (res_tmp rfl res_nil)) rfl
  · have h := bif_f hc24 h
    refine Run.condF' rfl hc24 ?_
    refine Run.skip (Run.seq (Run.region ?_))
    refine Run.opG wantS_none (ex_move rfl) rfl ?_
    obtain ⟨r26, hr26, h⟩ := bnd_some h
    refine Run.callP wantS_none (ex_call rfl mkk100 cal100) rfl (sky_grid_cells_ok F a0 _ _ hr26) ?_
    refine Run.opG wantS_none (ex_assign rfl) rfl ?_
    refine Run.opG wantS_none (ex_assign rfl) rfl ?_
    refine Run.opsEnd ?_
    cases h
    exact Run.ret Tryd.func85 rfl (res_tmp rfl (res_tmp rfl res_nil)) rfl

theorem mkk85 : makeK Tryd.prog 85 = none := by kernel_rfl
theorem cal85 : callable Tryd.prog 85 = true := by kernel_rfl
theorem lenk27 : lenK Tryd.prog 27 = some .sl := by kernel_rfl
theorem els27 : elems Tryd.prog 27 = some (.sl 1) := by kernel_rfl
abbrev alert_areCells_post (r : Bool) : SV → Mem → Prop := fun s _ => s = (.bool r)

def alert_areCells_1 (F : Nat) : Nat → Int → Int → (List Int) → Int → Int → Option (Bool)
  | 0, _, _, _, _, _ => none
  | N + 1, v0, v5, v8, v9, v10 =>
    bif (decide (v10 < v9)) then
      bnd (idx v8 v10) fun x23 =>
      bnd (alert_isFrom F (w64 (v5 + (1 : Int))) x23 (w64 (v0 - (1 : Int)))) fun r25 =>
      bif (!r25) then
        some false
      else
        (alert_areCells_1 F N) v0 x23 v8 v9 (w64 (v10 + (1 : Int)))
    else
      some true

theorem alert_areCells_1_ok (F : Nat) : ∀ (N : Nat), ∀ (v0 v5 : Int) (v8 : (List Int)) (v9 v10 : Int) (sv8 : SV) (Fr : Rd) (M : Mem) (r : Bool) (hv8 : Slc Fr 1 (FlatR enc3) sv8 v8) (hH : Has Fr M []), alert_areCells_1 F N v0 v5 v8 v9 v10 = some r → Run Tryd.prog ⟨⟨86, [], none⟩, []⟩ 23 (alert_areCells_post r) [(0, (.int .i64 v0)), (5, (.int .i64 v5)), (8, sv8), (9, (.int .i64 v9)), (10, (.int .i64 v10))] [codeC Tryd.prog 86 [1, 1, 0, 1, 0, 0], loopC Tryd.prog 86 [1, 1, 0, 1, 0, 0], .inBlock 0, codeC Tryd.prog 86 [1, 1, 1]] M := by
  intro N
  induction N with
  | zero =>
    intro v0 v5 v8 v9 v10 sv8 Fr M r hv8 hH h
    simp [alert_areCells_1] at h
  | succ N ih =>
    intro v0 v5 v8 v9 v10 sv8 Fr M r hv8 hH h
    rw [alert_areCells_1] at h
    refine Run.seq (Run.region ?_)
    refine Run.opG wantS_none (ex_lss rfl rfl) rfl ?_
    refine Run.opsEnd (Run.seq ?_)
    rcases btf ((decide (v10 < v9))) with hc21 | hc21
    · have h := bif_t hc21 h
      refine Run.condT' rfl hc21 ?_
      refine Run.skip (Run.seq (Run.block (Run.seq (Run.region ?_))))
      obtain ⟨x23, hx23, h⟩ := bnd_some h
      obtain ⟨p23, o23, _, hx23, hp23, rfl⟩ := sl_elem (P := Tryd.prog) (t := 27) (kk := .i64) hv8 hx23 els27
      refine Run.opG wantS_none (ex_elX rfl rfl hx23) rfl ?_
      refine Run.opG wantS_none (ex_load1 rfl (hH.ptrF hp23) rdLe_rfl agg3) rfl ?_
      refine Run.opG wantS_none (ex_assign rfl) rfl ?_
      refine Run.opsEnd (Run.seq (Run.seq (Run.region ?_)))
      refine Run.opG wantS_none (ex_move rfl) rfl ?_
      refine Run.opG wantS_none (ex_add rfl rfl) rfl ?_
      refine Run.opG wantS_none (ex_move rfl) rfl ?_
      refine Run.opG wantS_none (ex_move rfl) rfl ?_
      refine Run.opG wantS_none (ex_sub rfl rfl) rfl ?_
      obtain ⟨r25, hr25, h⟩ := bnd_some h
      refine Run.callP wantS_none (ex_call rfl mkk36 cal36) rfl (alert_isFrom_ok F (w64 (v5 + (1 : Int))) x23 (w64 (v0 - (1 : Int))) _ _ hr25) ?_
      refine Run.opG wantS_none (ex_not rfl) rfl ?_
      refine Run.opsEnd ?_
      rcases btf ((!r25)) with hc27 | hc27
      · have h := bif_t hc27 h
        refine Run.condT' rfl hc27 ?_
        refine Run.seq (Run.region ?_)
        refine Run.opG wantS_none (ex_assign rfl) rfl ?_
        refine Run.opsEnd ?_
        cases h
        exact Run.ret Tryd.func86 rfl (res_tmp rfl res_nil) rfl
      · have h := bif_f hc27 h
        refine Run.condF' rfl hc27 ?_
        refine Run.skip (Run.region ?_)
        refine Run.opG wantS_none (ex_move rfl) rfl ?_
        refine Run.opG wantS_none (ex_assign rfl) rfl ?_
        refine Run.opsEnd (Run.inBlock (Run.region ?_))
        refine Run.opG wantS_none (ex_add rfl rfl) rfl ?_
        refine Run.opG wantS_none (ex_move rfl) rfl ?_
        refine Run.opsEnd (Run.inLoop ?_)
        exact Run.pick [0, 5, 8, 9, 10] (ih v0 x23 v8 v9 (w64 (v10 + (1 : Int))) sv8 _ _ _ hv8 hH h)
    · have h := bif_f hc21 h
      refine Run.condF' rfl hc21 ?_
      refine Run.exit rfl (Run.seq (Run.region ?_))
      refine Run.opG wantS_none (ex_assign rfl) rfl ?_
      refine Run.opsEnd ?_
      cases h
      exact Run.ret Tryd.func86 rfl (res_tmp rfl res_nil) rfl

def alert_areCells (F : Nat) (a0 : Int) (a1 : (List Int)) : Option (Bool) :=
  alert_areCells_1 F F a0 ((-1) : Int) a1 (a1.length : Int) (0 : Int)

theorem alert_areCells_ok (F : Nat) (a0 : Int) (a1 : (List Int)) (s0 : SV) (r : Bool) (M : Mem) (hs0 : Slc (rd M) 1 (FlatR enc3) s0 a1) (h : alert_areCells F a0 a1 = some r) : CallsM Tryd.prog 86 [(.int .i64 a0), s0] M (fun s M' => s = (.bool r) ∧ M' = M) := by
  refine CallsM.plain Tryd.func86 rfl rfl rfl (show Run _ _ _ (alert_areCells_post r) _ _ _ from ?_)
  rw [alert_areCells] at h
  replace hs0 := hs0.mono (rdLe_frozen M) (fun _ _ h => h)
  have hH := Has.nil (frozen M)
  refine Run.seq (Run.region ?_)
  refine Run.opG wantS_none (ex_assign rfl) rfl ?_
  refine Run.opsEnd (Run.seq (Run.region ?_))
  refine Run.opG wantS_none (ex_assign rfl) rfl ?_
  refine Run.opsEnd (Run.seq (Run.seq (Run.region ?_)))
  refine Run.opG wantS_none (ex_move rfl) rfl ?_
  refine Run.opG wantS_none (ex_len' rfl hs0 lenk27) rfl ?_
  refine Run.opG wantS_none (ex_move rfl) rfl ?_
  refine Run.opsEnd (Run.block (Run.loop ?_))
  exact Run.pick [0, 5, 8, 9, 10] (alert_areCells_1_ok F F a0 ((-1) : Int) a1 (a1.length : Int) (0 : Int) s0 _ _ _ hs0 hH h)

theorem mkk86 : makeK Tryd.prog 86 = none := by kernel_rfl
theorem cal86 : callable Tryd.prog 86 = true := by kernel_rfl
theorem off29_6 : fieldOff Tryd.prog 29 6 = some 7 := by kernel_rfl
theorem agg4 : aggSize Tryd.prog 4 = some none := by kernel_rfl
theorem eqk4 : eqK Tryd.prog 4 = some .bool := by kernel_rfl
abbrev alert_isPlaced_post (r : Bool) : SV → Mem → Prop := fun s _ => s = (.bool r)

def alert_isPlaced_2 (F : Nat) (v27 : Bool) : Option (Bool) :=
  some v27

theorem alert_isPlaced_2_ok (F : Nat) : ∀ (v27 : Bool) (Fr : Rd) (M : Mem) (r : Bool) (hH : Has Fr M []), alert_isPlaced_2 F v27 = some r → Run Tryd.prog ⟨⟨72, [], none⟩, []⟩ 28 (alert_isPlaced_post r) [(27, (.bool v27))] [itemC Tryd.prog 72 [1, 1, 0] 17, codeC Tryd.prog 72 [1, 1, 1]] M := by
  intro v27 Fr M r hH h
  rw [alert_isPlaced_2] at h
  refine Run.opG wantS_none (ex_assign rfl) rfl ?_
  refine Run.opsEnd ?_
  cases h
  exact Run.ret Tryd.func72 rfl (res_tmp rfl res_nil) rfl

def alert_isPlaced_1 (F : Nat) (v18 : Bool) (c22_0 : (List UInt8)) (c22_1 c22_2 c22_3 c22_4 c22_5 : Int) (c22_6 : (List Int)) (c22_7 : Bool) (c22_8 : Int) : Option (Bool) :=
  bif v18 then
    alert_isPlaced_2 F (c22_7 == ((c22_6.length : Int) == (0 : Int)))
  else
    alert_isPlaced_2 F false

theorem alert_isPlaced_1_ok (F : Nat) : ∀ (v18 : Bool) (c22_0 : (List UInt8)) (c22_1 c22_2 c22_3 c22_4 c22_5 : Int) (c22_6 : (List Int)) (c22_7 : Bool) (c22_8 : Int) (sc22_6 : SV) (b22 : Pos) (Fr : Rd) (M : Mem) (r : Bool) (hc22_6 : Slc Fr 1 (FlatR enc3) sc22_6 c22_6) (hH : Has Fr M [.obj b22 (.row 29 .whole [(.str c22_0), (.int .i64 c22_1), (.int .i64 c22_2), (.int .i64 c22_3), (.int .i64 c22_4), (.int .i64 c22_5), sc22_6, (.bool c22_7), (.int .i64 c22_8)])]), alert_isPlaced_1 F v18 c22_0 c22_1 c22_2 c22_3 c22_4 c22_5 c22_6 c22_7 c22_8 = some r → Run Tryd.prog ⟨⟨72, [], none⟩, []⟩ 28 (alert_isPlaced_post r) [(1, (.ptr b22 0)), (18, (.bool v18))] [itemC Tryd.prog 72 [1, 1, 0] 8, codeC Tryd.prog 72 [1, 1, 1]] M := by
  intro v18 c22_0 c22_1 c22_2 c22_3 c22_4 c22_5 c22_6 c22_7 c22_8 sc22_6 b22 Fr M r hc22_6 hH h
  rw [alert_isPlaced_1] at h
  refine Run.opG wantS_none (ex_move rfl) rfl ?_
  rcases btf (v18) with hc31 | hc31
  · have h := bif_t hc31 h
    refine Run.opG (wantS_yes' rfl rfl hc31) (ex_fieldAddr rfl off29_6) rfl ?_
    refine Run.opG (wantS_yes' rfl rfl hc31) (ex_load1 rfl (hH.cells (i := 0) rfl 7 rfl) rdLe_rfl agg4) rfl ?_
    refine Run.opG (wantS_yes' rfl rfl hc31) (ex_fieldAddr rfl off29_5) rfl ?_
    refine Run.opG (wantS_yes' rfl rfl hc31) (ex_load1 rfl (hH.cells (i := 0) rfl 6 rfl) rdLe_rfl agg27) rfl ?_
    refine Run.opG (wantS_yes' rfl rfl hc31) (ex_len' rfl hc22_6 lenk27) rfl ?_
    refine Run.opG (wantS_yes' rfl rfl hc31) (ex_eql rfl rfl) rfl ?_
    refine Run.opG (wantS_yes' rfl rfl hc31) (ex_eqlB rfl rfl eqk4) rfl ?_
    refine Run.opG wantS_none (ex_pickT' rfl hc31 rfl rfl) rfl ?_
    exact Run.pick [27] (alert_isPlaced_2_ok F (c22_7 == ((c22_6.length : Int) == (0 : Int))) _ _ _ (hH.pick [] rfl rfl) h)
  · have h := bif_f hc31 h
    refine Run.no (wantS_not' rfl rfl hc31) rfl ?_
    refine Run.no (wantS_not' rfl rfl hc31) rfl ?_
    refine Run.no (wantS_not' rfl rfl hc31) rfl ?_
    refine Run.no (wantS_not' rfl rfl hc31) rfl ?_
    refine Run.no (wantS_not' rfl rfl hc31) rfl ?_
    refine Run.no (wantS_not' rfl rfl hc31) rfl ?_
    refine Run.no (wantS_not' rfl rfl hc31) rfl ?_
    refine Run.opG wantS_none (ex_pickF' rfl hc31 rfl rfl) rfl ?_
    exact Run.pick [27] (alert_isPlaced_2_ok F false _ _ _ (hH.pick [] rfl rfl) h)

def alert_isPlaced (F : Nat) (a0 : S_api_Alert) : Option (Bool) :=
  bnd (sky_Cells F a0.Grid) fun r25 =>
  bif (r25.2 == (0 : Int)) then
    bnd (alert_areCells F r25.1 a0.Cells) fun r29 =>
    alert_isPlaced_1 F r29 a0.Event a0.Version a0.Time a0.Chance.N a0.Chance.Of a0.Grid a0.Cells a0.Withdrawn a0.Before
  else
    alert_isPlaced_1 F false a0.Event a0.Version a0.Time a0.Chance.N a0.Chance.Of a0.Grid a0.Cells a0.Withdrawn a0.Before

theorem alert_isPlaced_ok (F : Nat) (a0 : S_api_Alert) (s0 : SV) (r : Bool) (M : Mem) (hs0 : Slc (rd M) 1 (FlatR enc3) s0 a0.Cells) (h : alert_isPlaced F a0 = some r) : CallsM Tryd.prog 72 [(.agg [(.str a0.Event), (.int .i64 a0.Version), (.int .i64 a0.Time), (.int .i64 a0.Chance.N), (.int .i64 a0.Chance.Of), (.int .i64 a0.Grid), s0, (.bool a0.Withdrawn), (.int .i64 a0.Before)])] M (fun s M' => s = (.bool r) ∧ M' = M) := by
  refine CallsM.plain Tryd.func72 rfl rfl rfl (show Run _ _ _ (alert_isPlaced_post r) _ _ _ from ?_)
  rw [alert_isPlaced] at h
  replace hs0 := hs0.mono (rdLe_frozen M) (fun _ _ h => h)
  have hH := Has.nil (frozen M)
  refine Run.seq (Run.region ?_)
  refine Run.opX wantS_none rfl (ExG.box rfl rfl hH) ?_
  rintro _ M23 ⟨b22, rfl, hH23⟩
  refine Run.opG wantS_none (ex_assign rfl) rfl ?_
  refine Run.opsEnd (Run.seq (Run.region ?_))
  refine Run.opG wantS_none (ex_fieldAddr rfl off29_4) rfl ?_
  refine Run.opG wantS_none (ex_load1 rfl (hH23.cells (i := 0) rfl 5 rfl) rdLe_rfl agg3) rfl ?_
  obtain ⟨r25, hr25, h⟩ := bnd_some h
  refine Run.callP wantS_none (ex_call rfl mkk85 cal85) rfl (sky_Cells_ok F a0.Grid _ _ hr25) ?_
  refine Run.opG wantS_none (ex_move rfl) rfl ?_
  refine Run.opG wantS_none (ex_extract rfl rfl) rfl ?_
  refine Run.opG wantS_none (ex_extract rfl rfl) rfl ?_
  refine Run.opG wantS_none (ex_assign rfl) rfl ?_
  refine Run.opG wantS_none (ex_assign rfl) rfl ?_
  refine Run.opsEnd (Run.seq (Run.region ?_))
  refine Run.opG wantS_none (ex_move rfl) rfl ?_
  refine Run.opG wantS_none (ex_eql rfl rfl) rfl ?_
  refine Run.opG wantS_none (ex_move rfl) rfl ?_
  rcases btf ((r25.2 == (0 : Int))) with hc27 | hc27
  · have h := bif_t hc27 h
    refine Run.opG (wantS_yes' rfl rfl hc27) (ex_move rfl) rfl ?_
    refine Run.opG (wantS_yes' rfl rfl hc27) (ex_fieldAddr rfl off29_5) rfl ?_
    refine Run.opG (wantS_yes' rfl rfl hc27) (ex_load1 rfl (hH23.cells (i := 0) rfl 6 rfl) rdLe_rfl agg27) rfl ?_
    obtain ⟨r29, hr29, h⟩ := bnd_some h
    refine Run.callP (wantS_yes' rfl rfl hc27) (ex_call rfl mkk86 cal86) rfl (alert_areCells_ok F r25.1 a0.Cells s0 _ _ (hH23.slcF hs0) hr29) ?_
    refine Run.opG wantS_none (ex_pickT' rfl hc27 rfl rfl) rfl ?_
    exact Run.pick [1, 18] (alert_isPlaced_1_ok F r29 a0.Event a0.Version a0.Time a0.Chance.N a0.Chance.Of a0.Grid a0.Cells a0.Withdrawn a0.Before s0 b22 _ _ _ hs0 hH23 h)
  · have h := bif_f hc27 h
    refine Run.no (wantS_not' rfl rfl hc27) rfl ?_
    refine Run.no (wantS_not' rfl rfl hc27) rfl ?_
    refine Run.no (wantS_not' rfl rfl hc27) rfl ?_
    refine Run.no (wantS_not' rfl rfl hc27) rfl ?_
    refine Run.opG wantS_none (ex_pickF' rfl hc27 rfl rfl) rfl ?_
    exact Run.pick [1, 18] (alert_isPlaced_1_ok F false a0.Event a0.Version a0.Time a0.Chance.N a0.Chance.Of a0.Grid a0.Cells a0.Withdrawn a0.Before s0 b22 _ _ _ hs0 hH23 h)

theorem mkk72 : makeK Tryd.prog 72 = none := by kernel_rfl
theorem cal72 : callable Tryd.prog 72 = true := by kernel_rfl
theorem off29_7 : fieldOff Tryd.prog 29 7 = some 8 := by kernel_rfl
abbrev alert_isBefore_post (r : Bool) : SV → Mem → Prop := fun s _ => s = (.bool r)

def alert_isBefore (F : Nat) (a0 : S_api_Alert) : Option (Bool) :=
  bif (a0.Version == (1 : Int)) then
    some (a0.Before == (0 : Int))
  else
    bnd (alert_isFrom F (0 : Int) a0.Before (2147483646 : Int)) fun r26 =>
    some r26

theorem alert_isBefore_ok (F : Nat) (a0 : S_api_Alert) (s0 : SV) (r : Bool) (M : Mem) (hs0 : Slc (rd M) 1 (FlatR enc3) s0 a0.Cells) (h : alert_isBefore F a0 = some r) : CallsM Tryd.prog 73 [(.agg [(.str a0.Event), (.int .i64 a0.Version), (.int .i64 a0.Time), (.int .i64 a0.Chance.N), (.int .i64 a0.Chance.Of), (.int .i64 a0.Grid), s0, (.bool a0.Withdrawn), (.int .i64 a0.Before)])] M (fun s M' => s = (.bool r) ∧ M' = M) := by
  refine CallsM.plain Tryd.func73 rfl rfl rfl (show Run _ _ _ (alert_isBefore_post r) _ _ _ from ?_)
  rw [alert_isBefore] at h
  replace hs0 := hs0.mono (rdLe_frozen M) (fun _ _ h => h)
  have hH := Has.nil (frozen M)
  refine Run.seq (Run.region ?_)
  refine Run.opX wantS_none rfl (ExG.box rfl rfl hH) ?_
  rintro _ M23 ⟨b22, rfl, hH23⟩
  refine Run.opG wantS_none (ex_assign rfl) rfl ?_
  refine Run.opsEnd (Run.seq (Run.seq (Run.region ?_)))
  refine Run.opG wantS_none (ex_fieldAddr rfl off29_1) rfl ?_
  refine Run.opG wantS_none (ex_load1 rfl (hH23.cells (i := 0) rfl 1 rfl) rdLe_rfl agg3) rfl ?_
  refine Run.opG wantS_none (ex_eql rfl rfl) rfl ?_
  refine Run.opsEnd ?_
  rcases btf ((a0.Version == (1 : Int))) with hc24 | hc24
  · have h := bif_t hc24 h
    refine Run.condT' rfl hc24 ?_
    refine Run.seq (Run.region ?_)
    refine Run.opG wantS_none (ex_fieldAddr rfl off29_7) rfl ?_
    refine Run.opG wantS_none (ex_load1 rfl (hH23.cells (i := 0) rfl 8 rfl) rdLe_rfl agg3) rfl ?_
    refine Run.opG wantS_none (ex_eql rfl rfl) rfl ?_
    refine Run.opG wantS_none (ex_assign rfl) rfl ?_
    refine Run.opsEnd ?_
    cases h
    exact Run.ret Tryd.func73 rfl (res_tmp rfl res_nil) rfl
  · have h := bif_f hc24 h
    refine Run.condF' rfl hc24 ?_
    refine Run.skip (Run.seq (Run.region ?_))
    refine Run.opG wantS_none (ex_fieldAddr rfl off29_7) rfl ?_
    refine Run.opG wantS_none (ex_load1 rfl (hH23.cells (i := 0) rfl 8 rfl) rdLe_rfl agg3) rfl ?_
    obtain ⟨r26, hr26, h⟩ := bnd_some h
    refine Run.callP wantS_none (ex_call rfl mkk36 cal36) rfl (alert_isFrom_ok F (0 : Int) a0.Before (2147483646 : Int) _ _ hr26) ?_
    refine Run.opG wantS_none (ex_assign rfl) rfl ?_
    refine Run.opsEnd ?_
    cases h
    exact Run.ret Tryd.func73 rfl (res_tmp rfl res_nil) rfl

theorem mkk73 : makeK Tryd.prog 73 = none := by kernel_rfl
theorem cal73 : callable Tryd.prog 73 = true := by kernel_rfl
abbrev alert_isAlert_post (r : Bool) : SV → Mem → Prop := fun s _ => s = (.bool r)

def alert_isAlert_5 (F : Nat) (v28 : Bool) : Option (Bool) :=
  some v28

theorem alert_isAlert_5_ok (F : Nat) : ∀ (v28 : Bool) (Fr : Rd) (M : Mem) (r : Bool) (hH : Has Fr M []), alert_isAlert_5 F v28 = some r → Run Tryd.prog ⟨⟨43, [], none⟩, []⟩ 29 (alert_isAlert_post r) [(28, (.bool v28))] [itemC Tryd.prog 43 [1, 0] 26, codeC Tryd.prog 43 [1, 1]] M := by
  intro v28 Fr M r hH h
  rw [alert_isAlert_5] at h
  refine Run.opG wantS_none (ex_assign rfl) rfl ?_
  refine Run.opsEnd ?_
  cases h
  exact Run.ret Tryd.func43 rfl (res_tmp rfl res_nil) rfl

def alert_isAlert_4 (F : Nat) (v24 : Bool) (c22_0 : (List UInt8)) (c22_1 c22_2 c22_3 c22_4 c22_5 : Int) (c22_6 : (List Int)) (c22_7 : Bool) (c22_8 : Int) : Option (Bool) :=
  bif v24 then
    bnd (alert_isBefore F (S_api_Alert.mk c22_0 c22_1 c22_2 (S_api_Chance.mk c22_3 c22_4) c22_5 c22_6 c22_7 c22_8)) fun r45 =>
    alert_isAlert_5 F r45
  else
    alert_isAlert_5 F false

theorem alert_isAlert_4_ok (F : Nat) : ∀ (v24 : Bool) (c22_0 : (List UInt8)) (c22_1 c22_2 c22_3 c22_4 c22_5 : Int) (c22_6 : (List Int)) (c22_7 : Bool) (c22_8 : Int) (sc22_6 : SV) (b22 : Pos) (Fr : Rd) (M : Mem) (r : Bool) (hc22_6 : Slc Fr 1 (FlatR enc3) sc22_6 c22_6) (hH : Has Fr M [.obj b22 (.row 29 .whole [(.str c22_0), (.int .i64 c22_1), (.int .i64 c22_2), (.int .i64 c22_3), (.int .i64 c22_4), (.int .i64 c22_5), sc22_6, (.bool c22_7), (.int .i64 c22_8)])]), alert_isAlert_4 F v24 c22_0 c22_1 c22_2 c22_3 c22_4 c22_5 c22_6 c22_7 c22_8 = some r → Run Tryd.prog ⟨⟨43, [], none⟩, []⟩ 29 (alert_isAlert_post r) [(1, (.ptr b22 0)), (24, (.bool v24))] [itemC Tryd.prog 43 [1, 0] 22, codeC Tryd.prog 43 [1, 1]] M := by
  intro v24 c22_0 c22_1 c22_2 c22_3 c22_4 c22_5 c22_6 c22_7 c22_8 sc22_6 b22 Fr M r hc22_6 hH h
  rw [alert_isAlert_4] at h
  refine Run.opG wantS_none (ex_move rfl) rfl ?_
  rcases btf (v24) with hc43 | hc43
  · have h := bif_t hc43 h
    refine Run.opG (wantS_yes' rfl rfl hc43) (ex_loadA rfl (hH.cells (i := 0) rfl 0 rfl) rdLe_rfl agg29 rfl rfl rfl) rfl ?_
    obtain ⟨r45, hr45, h⟩ := bnd_some h
    refine Run.callP (wantS_yes' rfl rfl hc43) (ex_call rfl mkk73 cal73) rfl (alert_isBefore_ok F (S_api_Alert.mk c22_0 c22_1 c22_2 (S_api_Chance.mk c22_3 c22_4) c22_5 c22_6 c22_7 c22_8) sc22_6 _ _ (hH.slcF hc22_6) hr45) ?_
    refine Run.opG wantS_none (ex_pickT' rfl hc43 rfl rfl) rfl ?_
    exact Run.pick [28] (alert_isAlert_5_ok F r45 _ _ _ (hH.pick [] rfl rfl) h)
  · have h := bif_f hc43 h
    refine Run.no (wantS_not' rfl rfl hc43) rfl ?_
    refine Run.no (wantS_not' rfl rfl hc43) rfl ?_
    refine Run.opG wantS_none (ex_pickF' rfl hc43 rfl rfl) rfl ?_
    exact Run.pick [28] (alert_isAlert_5_ok F false _ _ _ (hH.pick [] rfl rfl) h)

def alert_isAlert_3 (F : Nat) (v20 : Bool) (c22_0 : (List UInt8)) (c22_1 c22_2 c22_3 c22_4 c22_5 : Int) (c22_6 : (List Int)) (c22_7 : Bool) (c22_8 : Int) : Option (Bool) :=
  bif v20 then
    bnd (alert_isPlaced F (S_api_Alert.mk c22_0 c22_1 c22_2 (S_api_Chance.mk c22_3 c22_4) c22_5 c22_6 c22_7 c22_8)) fun r41 =>
    alert_isAlert_4 F r41 c22_0 c22_1 c22_2 c22_3 c22_4 c22_5 c22_6 c22_7 c22_8
  else
    alert_isAlert_4 F false c22_0 c22_1 c22_2 c22_3 c22_4 c22_5 c22_6 c22_7 c22_8

theorem alert_isAlert_3_ok (F : Nat) : ∀ (v20 : Bool) (c22_0 : (List UInt8)) (c22_1 c22_2 c22_3 c22_4 c22_5 : Int) (c22_6 : (List Int)) (c22_7 : Bool) (c22_8 : Int) (sc22_6 : SV) (b22 : Pos) (Fr : Rd) (M : Mem) (r : Bool) (hc22_6 : Slc Fr 1 (FlatR enc3) sc22_6 c22_6) (hH : Has Fr M [.obj b22 (.row 29 .whole [(.str c22_0), (.int .i64 c22_1), (.int .i64 c22_2), (.int .i64 c22_3), (.int .i64 c22_4), (.int .i64 c22_5), sc22_6, (.bool c22_7), (.int .i64 c22_8)])]), alert_isAlert_3 F v20 c22_0 c22_1 c22_2 c22_3 c22_4 c22_5 c22_6 c22_7 c22_8 = some r → Run Tryd.prog ⟨⟨43, [], none⟩, []⟩ 29 (alert_isAlert_post r) [(1, (.ptr b22 0)), (20, (.bool v20))] [itemC Tryd.prog 43 [1, 0] 18, codeC Tryd.prog 43 [1, 1]] M := by
  intro v20 c22_0 c22_1 c22_2 c22_3 c22_4 c22_5 c22_6 c22_7 c22_8 sc22_6 b22 Fr M r hc22_6 hH h
  rw [alert_isAlert_3] at h
  refine Run.opG wantS_none (ex_move rfl) rfl ?_
  rcases btf (v20) with hc39 | hc39
  · have h := bif_t hc39 h
    refine Run.opG (wantS_yes' rfl rfl hc39) (ex_loadA rfl (hH.cells (i := 0) rfl 0 rfl) rdLe_rfl agg29 rfl rfl rfl) rfl ?_
    obtain ⟨r41, hr41, h⟩ := bnd_some h
    refine Run.callP (wantS_yes' rfl rfl hc39) (ex_call rfl mkk72 cal72) rfl (alert_isPlaced_ok F (S_api_Alert.mk c22_0 c22_1 c22_2 (S_api_Chance.mk c22_3 c22_4) c22_5 c22_6 c22_7 c22_8) sc22_6 _ _ (hH.slcF hc22_6) hr41) ?_
    refine Run.opG wantS_none (ex_pickT' rfl hc39 rfl rfl) rfl ?_
    exact Run.pick [1, 24] (alert_isAlert_4_ok F r41 c22_0 c22_1 c22_2 c22_3 c22_4 c22_5 c22_6 c22_7 c22_8 sc22_6 b22 _ _ _ hc22_6 hH h)
  · have h := bif_f hc39 h
    refine Run.no (wantS_not' rfl rfl hc39) rfl ?_
    refine Run.no (wantS_not' rfl rfl hc39) rfl ?_
    refine Run.opG wantS_none (ex_pickF' rfl hc39 rfl rfl) rfl ?_
    exact Run.pick [1, 24] (alert_isAlert_4_ok F false c22_0 c22_1 c22_2 c22_3 c22_4 c22_5 c22_6 c22_7 c22_8 sc22_6 b22 _ _ _ hc22_6 hH h)

def alert_isAlert_2 (F : Nat) (v15 : Bool) (c22_0 : (List UInt8)) (c22_1 c22_2 c22_3 c22_4 c22_5 : Int) (c22_6 : (List Int)) (c22_7 : Bool) (c22_8 : Int) : Option (Bool) :=
  bif v15 then
    bnd (alert_isChance F (S_api_Chance.mk c22_3 c22_4)) fun r37 =>
    alert_isAlert_3 F r37 c22_0 c22_1 c22_2 c22_3 c22_4 c22_5 c22_6 c22_7 c22_8
  else
    alert_isAlert_3 F false c22_0 c22_1 c22_2 c22_3 c22_4 c22_5 c22_6 c22_7 c22_8

theorem alert_isAlert_2_ok (F : Nat) : ∀ (v15 : Bool) (c22_0 : (List UInt8)) (c22_1 c22_2 c22_3 c22_4 c22_5 : Int) (c22_6 : (List Int)) (c22_7 : Bool) (c22_8 : Int) (sc22_6 : SV) (b22 : Pos) (Fr : Rd) (M : Mem) (r : Bool) (hc22_6 : Slc Fr 1 (FlatR enc3) sc22_6 c22_6) (hH : Has Fr M [.obj b22 (.row 29 .whole [(.str c22_0), (.int .i64 c22_1), (.int .i64 c22_2), (.int .i64 c22_3), (.int .i64 c22_4), (.int .i64 c22_5), sc22_6, (.bool c22_7), (.int .i64 c22_8)])]), alert_isAlert_2 F v15 c22_0 c22_1 c22_2 c22_3 c22_4 c22_5 c22_6 c22_7 c22_8 = some r → Run Tryd.prog ⟨⟨43, [], none⟩, []⟩ 29 (alert_isAlert_post r) [(1, (.ptr b22 0)), (15, (.bool v15))] [itemC Tryd.prog 43 [1, 0] 13, codeC Tryd.prog 43 [1, 1]] M := by
  intro v15 c22_0 c22_1 c22_2 c22_3 c22_4 c22_5 c22_6 c22_7 c22_8 sc22_6 b22 Fr M r hc22_6 hH h
  rw [alert_isAlert_2] at h
  refine Run.opG wantS_none (ex_move rfl) rfl ?_
  rcases btf (v15) with hc35 | hc35
  · have h := bif_t hc35 h
    refine Run.opG (wantS_yes' rfl rfl hc35) (ex_fieldAddr rfl off29_3) rfl ?_
    refine Run.opG (wantS_yes' rfl rfl hc35) (ex_loadA rfl (hH.cells (i := 0) rfl 3 rfl) rdLe_rfl agg26 rfl rfl rfl) rfl ?_
    obtain ⟨r37, hr37, h⟩ := bnd_some h
    refine Run.callP (wantS_yes' rfl rfl hc35) (ex_call rfl mkk71 cal71) rfl (alert_isChance_ok F (S_api_Chance.mk c22_3 c22_4) _ _ hr37) ?_
    refine Run.opG wantS_none (ex_pickT' rfl hc35 rfl rfl) rfl ?_
    exact Run.pick [1, 20] (alert_isAlert_3_ok F r37 c22_0 c22_1 c22_2 c22_3 c22_4 c22_5 c22_6 c22_7 c22_8 sc22_6 b22 _ _ _ hc22_6 hH h)
  · have h := bif_f hc35 h
    refine Run.no (wantS_not' rfl rfl hc35) rfl ?_
    refine Run.no (wantS_not' rfl rfl hc35) rfl ?_
    refine Run.no (wantS_not' rfl rfl hc35) rfl ?_
    refine Run.opG wantS_none (ex_pickF' rfl hc35 rfl rfl) rfl ?_
    exact Run.pick [1, 20] (alert_isAlert_3_ok F false c22_0 c22_1 c22_2 c22_3 c22_4 c22_5 c22_6 c22_7 c22_8 sc22_6 b22 _ _ _ hc22_6 hH h)

def alert_isAlert_1 (F : Nat) (v10 : Bool) (c22_0 : (List UInt8)) (c22_1 c22_2 c22_3 c22_4 c22_5 : Int) (c22_6 : (List Int)) (c22_7 : Bool) (c22_8 : Int) : Option (Bool) :=
  bif v10 then
    bnd (alert_isFrom F (0 : Int) c22_2 (1073741824 : Int)) fun r33 =>
    alert_isAlert_2 F r33 c22_0 c22_1 c22_2 c22_3 c22_4 c22_5 c22_6 c22_7 c22_8
  else
    alert_isAlert_2 F false c22_0 c22_1 c22_2 c22_3 c22_4 c22_5 c22_6 c22_7 c22_8

theorem alert_isAlert_1_ok (F : Nat) : ∀ (v10 : Bool) (c22_0 : (List UInt8)) (c22_1 c22_2 c22_3 c22_4 c22_5 : Int) (c22_6 : (List Int)) (c22_7 : Bool) (c22_8 : Int) (sc22_6 : SV) (b22 : Pos) (Fr : Rd) (M : Mem) (r : Bool) (hc22_6 : Slc Fr 1 (FlatR enc3) sc22_6 c22_6) (hH : Has Fr M [.obj b22 (.row 29 .whole [(.str c22_0), (.int .i64 c22_1), (.int .i64 c22_2), (.int .i64 c22_3), (.int .i64 c22_4), (.int .i64 c22_5), sc22_6, (.bool c22_7), (.int .i64 c22_8)])]), alert_isAlert_1 F v10 c22_0 c22_1 c22_2 c22_3 c22_4 c22_5 c22_6 c22_7 c22_8 = some r → Run Tryd.prog ⟨⟨43, [], none⟩, []⟩ 29 (alert_isAlert_post r) [(1, (.ptr b22 0)), (10, (.bool v10))] [itemC Tryd.prog 43 [1, 0] 8, codeC Tryd.prog 43 [1, 1]] M := by
  intro v10 c22_0 c22_1 c22_2 c22_3 c22_4 c22_5 c22_6 c22_7 c22_8 sc22_6 b22 Fr M r hc22_6 hH h
  rw [alert_isAlert_1] at h
  refine Run.opG wantS_none (ex_move rfl) rfl ?_
  rcases btf (v10) with hc31 | hc31
  · have h := bif_t hc31 h
    refine Run.opG (wantS_yes' rfl rfl hc31) (ex_fieldAddr rfl off29_2) rfl ?_
    refine Run.opG (wantS_yes' rfl rfl hc31) (ex_load1 rfl (hH.cells (i := 0) rfl 2 rfl) rdLe_rfl agg3) rfl ?_
    obtain ⟨r33, hr33, h⟩ := bnd_some h
    refine Run.callP (wantS_yes' rfl rfl hc31) (ex_call rfl mkk36 cal36) rfl (alert_isFrom_ok F (0 : Int) c22_2 (1073741824 : Int) _ _ hr33) ?_
    refine Run.opG wantS_none (ex_pickT' rfl hc31 rfl rfl) rfl ?_
    exact Run.pick [1, 15] (alert_isAlert_2_ok F r33 c22_0 c22_1 c22_2 c22_3 c22_4 c22_5 c22_6 c22_7 c22_8 sc22_6 b22 _ _ _ hc22_6 hH h)
  · have h := bif_f hc31 h
    refine Run.no (wantS_not' rfl rfl hc31) rfl ?_
    refine Run.no (wantS_not' rfl rfl hc31) rfl ?_
    refine Run.no (wantS_not' rfl rfl hc31) rfl ?_
    refine Run.opG wantS_none (ex_pickF' rfl hc31 rfl rfl) rfl ?_
    exact Run.pick [1, 15] (alert_isAlert_2_ok F false c22_0 c22_1 c22_2 c22_3 c22_4 c22_5 c22_6 c22_7 c22_8 sc22_6 b22 _ _ _ hc22_6 hH h)

def alert_isAlert (F : Nat) (a0 : S_api_Alert) : Option (Bool) :=
  bnd (num_IsName F a0.Event) fun r25 =>
  bif r25 then
    bnd (alert_isFrom F (1 : Int) a0.Version (1000 : Int)) fun r29 =>
    alert_isAlert_1 F r29 a0.Event a0.Version a0.Time a0.Chance.N a0.Chance.Of a0.Grid a0.Cells a0.Withdrawn a0.Before
  else
    alert_isAlert_1 F false a0.Event a0.Version a0.Time a0.Chance.N a0.Chance.Of a0.Grid a0.Cells a0.Withdrawn a0.Before

theorem alert_isAlert_ok (F : Nat) (a0 : S_api_Alert) (s0 : SV) (r : Bool) (M : Mem) (hs0 : Slc (rd M) 1 (FlatR enc3) s0 a0.Cells) (h : alert_isAlert F a0 = some r) : CallsM Tryd.prog 43 [(.agg [(.str a0.Event), (.int .i64 a0.Version), (.int .i64 a0.Time), (.int .i64 a0.Chance.N), (.int .i64 a0.Chance.Of), (.int .i64 a0.Grid), s0, (.bool a0.Withdrawn), (.int .i64 a0.Before)])] M (fun s M' => s = (.bool r) ∧ M' = M) := by
  refine CallsM.plain Tryd.func43 rfl rfl rfl (show Run _ _ _ (alert_isAlert_post r) _ _ _ from ?_)
  rw [alert_isAlert] at h
  replace hs0 := hs0.mono (rdLe_frozen M) (fun _ _ h => h)
  have hH := Has.nil (frozen M)
  refine Run.seq (Run.region ?_)
  refine Run.opX wantS_none rfl (ExG.box rfl rfl hH) ?_
  rintro _ M23 ⟨b22, rfl, hH23⟩
  refine Run.opG wantS_none (ex_assign rfl) rfl ?_
  refine Run.opsEnd (Run.seq (Run.region ?_))
  refine Run.opG wantS_none (ex_fieldAddr rfl off29_0) rfl ?_
  refine Run.opG wantS_none (ex_load1 rfl (hH23.cells (i := 0) rfl 0 rfl) rdLe_rfl agg9) rfl ?_
  obtain ⟨r25, hr25, h⟩ := bnd_some h
  refine Run.callP wantS_none (ex_call rfl mkk70 cal70) rfl (num_IsName_ok F a0.Event _ _ hr25) ?_
  refine Run.opG wantS_none (ex_move rfl) rfl ?_
  rcases btf (r25) with hc27 | hc27
  · have h := bif_t hc27 h
    refine Run.opG (wantS_yes' rfl rfl hc27) (ex_fieldAddr rfl off29_1) rfl ?_
    refine Run.opG (wantS_yes' rfl rfl hc27) (ex_load1 rfl (hH23.cells (i := 0) rfl 1 rfl) rdLe_rfl agg3) rfl ?_
    obtain ⟨r29, hr29, h⟩ := bnd_some h
    refine Run.callP (wantS_yes' rfl rfl hc27) (ex_call rfl mkk36 cal36) rfl (alert_isFrom_ok F (1 : Int) a0.Version (1000 : Int) _ _ hr29) ?_
    refine Run.opG wantS_none (ex_pickT' rfl hc27 rfl rfl) rfl ?_
    exact Run.pick [1, 10] (alert_isAlert_1_ok F r29 a0.Event a0.Version a0.Time a0.Chance.N a0.Chance.Of a0.Grid a0.Cells a0.Withdrawn a0.Before s0 b22 _ _ _ hs0 hH23 h)
  · have h := bif_f hc27 h
    refine Run.no (wantS_not' rfl rfl hc27) rfl ?_
    refine Run.no (wantS_not' rfl rfl hc27) rfl ?_
    refine Run.no (wantS_not' rfl rfl hc27) rfl ?_
    refine Run.opG wantS_none (ex_pickF' rfl hc27 rfl rfl) rfl ?_
    exact Run.pick [1, 10] (alert_isAlert_1_ok F false a0.Event a0.Version a0.Time a0.Chance.N a0.Chance.Of a0.Grid a0.Cells a0.Withdrawn a0.Before s0 b22 _ _ _ hs0 hH23 h)

theorem mkk43 : makeK Tryd.prog 43 = none := by kernel_rfl
theorem cal43 : callable Tryd.prog 43 = true := by kernel_rfl
theorem zer119 : zerosOf Tryd.prog 119 = some [(.str []), (.int .i64 0), (.int .i64 0), (.int .i64 0), (.int .i64 0), (.int .i64 0), .nils, (.bool false), (.int .i64 0)] := by kernel_rfl
theorem sz119 : szOf Tryd.prog 119 = some 9 := by kernel_rfl
theorem agg119 : aggSize Tryd.prog 119 = some (some 9) := by kernel_rfl
theorem zer121 : zerosOf Tryd.prog 121 = some [.nilf, .nilf, .nilf, .nilf, .nilf, .nilf, .nilf] := by kernel_rfl
theorem pls121 : placesOf Tryd.prog 121 = some (.ar 1) := by kernel_rfl
theorem sz121 : szOf Tryd.prog 121 = some 7 := by kernel_rfl
theorem zer124 : zerosOf Tryd.prog 124 = some [.nilp, .nils] := by kernel_rfl
theorem agg121 : aggSize Tryd.prog 121 = some (some 7) := by kernel_rfl
theorem wha121 : whole Tryd.prog 121 = some (.arr 7 120 1) := by kernel_rfl
theorem agg120 : aggSize Tryd.prog 120 = some none := by kernel_rfl
theorem mkk87 : makeK Tryd.prog 87 = none := by kernel_rfl
theorem cal87 : callable Tryd.prog 87 = true := by kernel_rfl
theorem off119_0 : fieldOff Tryd.prog 119 0 = some 0 := by kernel_rfl
theorem off119_1 : fieldOff Tryd.prog 119 1 = some 1 := by kernel_rfl
theorem mkk94 : makeK Tryd.prog 94 = none := by kernel_rfl
theorem cal94 : callable Tryd.prog 94 = true := by kernel_rfl
theorem mkk102 : makeK Tryd.prog 102 = none := by kernel_rfl
theorem cal102 : callable Tryd.prog 102 = true := by kernel_rfl
theorem off124_0 : fieldOff Tryd.prog 124 0 = some 0 := by kernel_rfl
theorem agg122 : aggSize Tryd.prog 122 = some none := by kernel_rfl
theorem eqk122 : eqK Tryd.prog 122 = some .ptr := by kernel_rfl
theorem uvk122_137 : uvK Tryd.prog 122 137 = some (.to 2) := by kernel_rfl
theorem mkk106 : makeK Tryd.prog 106 = none := by kernel_rfl
theorem ncal106 : callable Tryd.prog 106 = false := by kernel_rfl
theorem ext106 : extK Tryd.prog 106 = some .noEsc := by kernel_rfl
theorem uvk137_122 : uvK Tryd.prog 137 122 = some (.back 124) := by kernel_rfl
theorem clo124 : Tryd.prog.cellsOf 124 = 2 := by kernel_rfl
theorem sz122 : szOf Tryd.prog 122 = some 1 := by kernel_rfl
theorem off124_1 : fieldOff Tryd.prog 124 1 = some 1 := by kernel_rfl
theorem agg108 : aggSize Tryd.prog 108 = some none := by kernel_rfl
theorem appt108_9 : appT Tryd.prog 108 9 = some (⟨1, 1, [(.int .u8 0)], 5⟩ : Elt) := by kernel_rfl
theorem sz108 : szOf Tryd.prog 108 = some 1 := by kernel_rfl
theorem mkk104 : makeK Tryd.prog 104 = none := by kernel_rfl
theorem cal104 : callable Tryd.prog 104 = true := by kernel_rfl
theorem pte122 : ptrElt Tryd.prog 122 = some 124 := by kernel_rfl
theorem inf124 : (Tryd.prog.info? 124).isSome = true := by kernel_rfl
theorem elt108 : sliceElt Tryd.prog 108 = some (⟨1, 1, [(.int .u8 0)], 5⟩ : Elt) := by kernel_rfl
theorem appt108_108 : appT Tryd.prog 108 108 = some (⟨1, 1, [(.int .u8 0)], 5⟩ : Elt) := by kernel_rfl
theorem mkk105 : makeK Tryd.prog 105 = none := by kernel_rfl
theorem cal105 : callable Tryd.prog 105 = true := by kernel_rfl
theorem mkk95 : makeK Tryd.prog 95 = none := by kernel_rfl
theorem cal95 : callable Tryd.prog 95 = true := by kernel_rfl
theorem pte135 : ptrElt Tryd.prog 135 = some 5 := by kernel_rfl
theorem clo5 : Tryd.prog.cellsOf 5 = 1 := by kernel_rfl
theorem plan95_1_0 : planOf Tryd.prog (opsC (atC Tryd.prog 95 [1, 0])) = some [.fl 0, .fl 1, .fl 2, .fl 3, .fl 4, .fl 5, .fl 6, .fl 7, .fl 8, .fl 9, .an 10 [], .fl 11, .sync] := by kernel_rfl
abbrev alert_line_post (r : (List UInt8)) : SV → Mem → Prop := fun s _ => s = (.str r)

def alert_line_1 (F : Nat) : Nat → (List Int) → Int → Int → (List Int) → Option ((List UInt8))
  | 0, _, _, _, _ => none
  | N + 1, v10, v11, v12, l33 =>
    bif (decide (v12 < v11)) then
      bnd (idx v10 v12) fun x39 =>
      bnd (apd 1 l33 ([32] : List Int)) fun l45 =>
      bnd (itoa F x39) fun r50 =>
      bnd (apd 1 l45 (bytesI r50)) fun l54 =>
      (alert_line_1 F N) v10 v11 (w64 (v12 + (1 : Int))) l54
    else
      bnd (apd 1 l33 ([10] : List Int)) fun l63 =>
      bnd (neB l63) fun u67 =>
      bnd (strOf l63) fun z68 =>
      some z68

theorem alert_line_1_ok (F : Nat) : ∀ (N : Nat), ∀ (v10 : (List Int)) (v11 v12 : Int) (l33 : (List Int)) (sv10 : SV) (b25 : Pos) (s33 : SV) (Fr : Rd) (M : Mem) (r : (List UInt8)) (hv10 : Slc Fr 1 (FlatR enc3) sv10 v10) (hH : Has Fr M [.obj b25 (.row 124 .whole [(.ptr b25 0), s33]), .vec 5 1 l33.length s33 (l33.flatMap enc5), tb0, tb1, tb2]), alert_line_1 F N v10 v11 v12 l33 = some r → Run Tryd.prog ⟨⟨101, [], none⟩, []⟩ 23 (alert_line_post r) [(5, (.ptr b25 0)), (10, sv10), (11, (.int .i64 v11)), (12, (.int .i64 v12))] [codeC Tryd.prog 101 [1, 1, 1, 0, 1, 0, 0], loopC Tryd.prog 101 [1, 1, 1, 0, 1, 0, 0], .inBlock 0, codeC Tryd.prog 101 [1, 1, 1, 1]] M := by
  intro N
  induction N with
  | zero =>
    intro v10 v11 v12 l33 sv10 b25 s33 Fr M r hv10 hH h
    simp [alert_line_1] at h
  | succ N ih =>
    intro v10 v11 v12 l33 sv10 b25 s33 Fr M r hv10 hH h
    rw [alert_line_1] at h
    refine Run.seq (Run.region ?_)
    refine Run.opG wantS_none (ex_lss rfl rfl) rfl ?_
    refine Run.opsEnd (Run.seq ?_)
    rcases btf ((decide (v12 < v11))) with hc37 | hc37
    · have h := bif_t hc37 h
      refine Run.condT' rfl hc37 ?_
      refine Run.skip (Run.seq (Run.block (Run.seq (Run.region ?_))))
      obtain ⟨x39, hx39, h⟩ := bnd_some h
      obtain ⟨p39, o39, _, hx39, hp39, rfl⟩ := sl_elem (P := Tryd.prog) (t := 27) (kk := .i64) hv10 hx39 els27
      refine Run.opG wantS_none (ex_elX rfl rfl hx39) rfl ?_
      refine Run.opG wantS_none (ex_load1 rfl (hH.ptrF hp39) rdLe_rfl agg3) rfl ?_
      refine Run.opG wantS_none (ex_assign rfl) rfl ?_
      refine Run.opsEnd (Run.seq (Run.region ?_))
      refine Run.enter wantS_none (ex_call rfl mkk104 cal104) Tryd.func104 rfl rfl ?_
      refine Run.seq (Run.region ?_)
      refine Run.opG wantS_none (ex_assign rfl) rfl ?_
      refine Run.opsEnd (Run.seq (Run.region ?_))
      refine Run.opG wantS_none (ex_move rfl) rfl ?_
      refine Run.enter wantS_none (ex_call rfl mkk102 cal102) Tryd.func102 rfl rfl ?_
      refine Run.seq (Run.region ?_)
      refine Run.opG wantS_none (ex_move rfl) rfl ?_
      refine Run.opG wantS_none (ex_nilP rfl) rfl ?_
      refine Run.opG wantS_none (ex_fieldAddr rfl off124_0) rfl ?_
      refine Run.opG wantS_none (ex_load1 rfl (hH.cells (i := 0) rfl 0 rfl) rdLe_rfl agg122) rfl ?_
      refine Run.opG wantS_none (ex_ptrPN rfl rfl eqk122) rfl ?_
      refine Run.opsEnd ?_
      refine Run.condF' rfl rfl ?_
      refine Run.seq (Run.region ?_)
      refine Run.opG wantS_none (ex_move rfl) rfl ?_
      refine Run.opG wantS_none (ex_nilP rfl) rfl ?_
      refine Run.opG wantS_none (ex_fieldAddr rfl off124_0) rfl ?_
      refine Run.opG wantS_none (ex_load1 rfl (hH.cells (i := 0) rfl 0 rfl) rdLe_rfl agg122) rfl ?_
      refine Run.opG wantS_none (ex_move rfl) rfl ?_
      refine Run.opG wantS_none (ex_ptrSamen rfl rfl pte122 inf124) rfl ?_
      refine Run.opsEnd ?_
      refine Run.condF' rfl rfl ?_
      refine Run.skip ?_
      refine Run.fallTo Tryd.func102 rfl res_nil rfl ?_
      refine Run.opsEnd (Run.seq (Run.region ?_))
      refine Run.opG wantS_none (ex_move rfl) rfl ?_
      refine Run.opG wantS_none (ex_move rfl) rfl ?_
      refine Run.opG wantS_none (ex_nilP rfl) rfl ?_
      refine Run.opG wantS_none (ex_fieldAddr rfl off124_1) rfl ?_
      refine Run.opG wantS_none (ex_load1 rfl (hH.cells (i := 0) rfl 1 rfl) rdLe_rfl agg108) rfl ?_
      refine Run.opG wantS_none (ex_move rfl) rfl ?_
      refine Run.opX wantS_none rfl (ExG.built (enc := enc5) (l := ([32] : List Int)) (z := 1) rfl elt108 rfl rfl rfl enc5_len hH) ?_
      rintro s41 M42 (hH42 : Has Fr M42 [.vec 5 1 ([32] : List Int).length s41 (([32] : List Int).flatMap enc5), .obj b25 (.row 124 .whole [(.ptr b25 0), s33]), .vec 5 1 l33.length s33 (l33.flatMap enc5), tb0, tb1, tb2])
      obtain ⟨l45, hl45, h⟩ := bnd_some h
      refine Run.opX wantS_none rfl (ExG.append rfl rfl hH42 (i := 2) rfl enc5_len rfl enc5_ones appt108_108 rfl (len_slc (hH42.slc (i := 0) rfl enc5_len)) (first_slc (hH42.slc (i := 0) rfl enc5_len) (rdLe_rdRow _) enc5_len) hl45) ?_
      rintro s45 M47 (hH47 : Has Fr M47 [.vec 5 1 ([32] : List Int).length s41 (([32] : List Int).flatMap enc5), .obj b25 (.row 124 .whole [(.ptr b25 0), s33]), .vec 5 1 l45.length s45 (l45.flatMap enc5), tb0, tb1, tb2])
      refine Run.opG wantS_none (ex_nilP rfl) rfl ?_
      refine Run.opG wantS_none (ex_fieldAddr rfl off124_1) rfl ?_
      refine Run.opX wantS_none rfl (ExG.storeC (c' := [(.ptr b25 0), s45]) rfl rfl (cells_one (vec_one hH47 (i := 2) rfl)) hH47 (i := 1) rfl sz108 rfl rfl rfl (ones_cons (vec_one hH47 (i := 2) rfl) ones_nil) rfl) ?_
      rintro _ M48 ⟨rfl, (hH48 : Has Fr M48 [.vec 5 1 ([32] : List Int).length s41 (([32] : List Int).flatMap enc5), .obj b25 (.row 124 .whole [(.ptr b25 0), s45]), .vec 5 1 l45.length s45 (l45.flatMap enc5), tb0, tb1, tb2])⟩
      refine Run.opsEnd (Run.seq (Run.region ?_))
      refine Run.opG wantS_none (ex_assign rfl) rfl ?_
      refine Run.opsEnd ?_
      refine Run.retTo Tryd.func104 rfl (res_tmp rfl res_nil) rfl ?_
      refine Run.opsEnd (Run.region ?_)
      refine Run.opG wantS_none (ex_move rfl) rfl ?_
      obtain ⟨r50, hr50, h⟩ := bnd_some h
      refine Run.callP wantS_none (ex_call rfl mkk105 cal105) rfl (itoa_ok F x39 _ _ (fixH hH48 (List.mem_of_getElem? (i := 3) rfl) (List.mem_of_getElem? (i := 4) rfl) (List.mem_of_getElem? (i := 5) rfl)) hr50) ?_
      refine Run.enter wantS_none (ex_call rfl mkk94 cal94) Tryd.func94 rfl rfl ?_
      refine Run.seq (Run.region ?_)
      refine Run.opG wantS_none (ex_assign rfl) rfl ?_
      refine Run.opG wantS_none (ex_assign rfl) rfl ?_
      refine Run.opsEnd (Run.seq (Run.region ?_))
      refine Run.opG wantS_none (ex_move rfl) rfl ?_
      refine Run.enter wantS_none (ex_call rfl mkk102 cal102) Tryd.func102 rfl rfl ?_
      refine Run.seq (Run.region ?_)
      refine Run.opG wantS_none (ex_move rfl) rfl ?_
      refine Run.opG wantS_none (ex_nilP rfl) rfl ?_
      refine Run.opG wantS_none (ex_fieldAddr rfl off124_0) rfl ?_
      refine Run.opG wantS_none (ex_load1 rfl (hH48.cells (i := 1) rfl 0 rfl) rdLe_rfl agg122) rfl ?_
      refine Run.opG wantS_none (ex_ptrPN rfl rfl eqk122) rfl ?_
      refine Run.opsEnd ?_
      refine Run.condF' rfl rfl ?_
      refine Run.seq (Run.region ?_)
      refine Run.opG wantS_none (ex_move rfl) rfl ?_
      refine Run.opG wantS_none (ex_nilP rfl) rfl ?_
      refine Run.opG wantS_none (ex_fieldAddr rfl off124_0) rfl ?_
      refine Run.opG wantS_none (ex_load1 rfl (hH48.cells (i := 1) rfl 0 rfl) rdLe_rfl agg122) rfl ?_
      refine Run.opG wantS_none (ex_move rfl) rfl ?_
      refine Run.opG wantS_none (ex_ptrSamen rfl rfl pte122 inf124) rfl ?_
      refine Run.opsEnd ?_
      refine Run.condF' rfl rfl ?_
      refine Run.skip ?_
      refine Run.fallTo Tryd.func102 rfl res_nil rfl ?_
      refine Run.opsEnd (Run.seq (Run.region ?_))
      refine Run.opG wantS_none (ex_move rfl) rfl ?_
      refine Run.opG wantS_none (ex_move rfl) rfl ?_
      refine Run.opG wantS_none (ex_nilP rfl) rfl ?_
      refine Run.opG wantS_none (ex_fieldAddr rfl off124_1) rfl ?_
      refine Run.opG wantS_none (ex_load1 rfl (hH48.cells (i := 1) rfl 1 rfl) rdLe_rfl agg108) rfl ?_
      refine Run.opG wantS_none (ex_move rfl) rfl ?_
      obtain ⟨l54, hl54, h⟩ := bnd_some h
      refine Run.opX wantS_none rfl (ExG.append rfl rfl hH48 (i := 2) rfl enc5_len rfl enc5_ones appt108_9 rfl (str_lenZ rfl _) (str_first (fun _ => rfl) _) hl54) ?_
      rintro s54 M56 (hH56 : Has Fr M56 [.vec 5 1 ([32] : List Int).length s41 (([32] : List Int).flatMap enc5), .obj b25 (.row 124 .whole [(.ptr b25 0), s45]), .vec 5 1 l54.length s54 (l54.flatMap enc5), tb0, tb1, tb2])
      refine Run.opG wantS_none (ex_nilP rfl) rfl ?_
      refine Run.opG wantS_none (ex_fieldAddr rfl off124_1) rfl ?_
      refine Run.opX wantS_none rfl (ExG.storeC (c' := [(.ptr b25 0), s54]) rfl rfl (cells_one (vec_one hH56 (i := 2) rfl)) hH56 (i := 1) rfl sz108 rfl rfl rfl (ones_cons (vec_one hH56 (i := 2) rfl) ones_nil) rfl) ?_
      rintro _ M57 ⟨rfl, (hH57 : Has Fr M57 [.vec 5 1 ([32] : List Int).length s41 (([32] : List Int).flatMap enc5), .obj b25 (.row 124 .whole [(.ptr b25 0), s54]), .vec 5 1 l54.length s54 (l54.flatMap enc5), tb0, tb1, tb2])⟩
      refine Run.opsEnd (Run.seq (Run.region ?_))
      refine Run.opG wantS_none (ex_move rfl) rfl ?_
      refine Run.opG wantS_none (ex_lenS rfl lenk9) rfl ?_
      refine Run.opG wantS_none (ex_assign rfl) rfl ?_
      refine Run.opG wantS_none (ex_assign rfl) rfl ?_
      refine Run.opsEnd ?_
      refine Run.retTo Tryd.func94 rfl (res_tmp rfl (res_tmp rfl res_nil)) rfl ?_
      refine Run.opsEnd (Run.inBlock (Run.region ?_))
      refine Run.opG wantS_none (ex_add rfl rfl) rfl ?_
      refine Run.opG wantS_none (ex_move rfl) rfl ?_
      refine Run.opsEnd (Run.inLoop ?_)
      exact Run.pick [5, 10, 11, 12] (ih v10 v11 (w64 (v12 + (1 : Int))) l54 sv10 b25 s54 _ _ _ hv10 (hH57.pick [1, 2, 3, 4, 5] rfl rfl) h)
    · have h := bif_f hc37 h
      refine Run.condF' rfl hc37 ?_
      refine Run.exit rfl (Run.seq (Run.region ?_))
      refine Run.enter wantS_none (ex_call rfl mkk104 cal104) Tryd.func104 rfl rfl ?_
      refine Run.seq (Run.region ?_)
      refine Run.opG wantS_none (ex_assign rfl) rfl ?_
      refine Run.opsEnd (Run.seq (Run.region ?_))
      refine Run.opG wantS_none (ex_move rfl) rfl ?_
      refine Run.enter wantS_none (ex_call rfl mkk102 cal102) Tryd.func102 rfl rfl ?_
      refine Run.seq (Run.region ?_)
      refine Run.opG wantS_none (ex_move rfl) rfl ?_
      refine Run.opG wantS_none (ex_nilP rfl) rfl ?_
      refine Run.opG wantS_none (ex_fieldAddr rfl off124_0) rfl ?_
      refine Run.opG wantS_none (ex_load1 rfl (hH.cells (i := 0) rfl 0 rfl) rdLe_rfl agg122) rfl ?_
      refine Run.opG wantS_none (ex_ptrPN rfl rfl eqk122) rfl ?_
      refine Run.opsEnd ?_
      refine Run.condF' rfl rfl ?_
      refine Run.seq (Run.region ?_)
      refine Run.opG wantS_none (ex_move rfl) rfl ?_
      refine Run.opG wantS_none (ex_nilP rfl) rfl ?_
      refine Run.opG wantS_none (ex_fieldAddr rfl off124_0) rfl ?_
      refine Run.opG wantS_none (ex_load1 rfl (hH.cells (i := 0) rfl 0 rfl) rdLe_rfl agg122) rfl ?_
      refine Run.opG wantS_none (ex_move rfl) rfl ?_
      refine Run.opG wantS_none (ex_ptrSamen rfl rfl pte122 inf124) rfl ?_
      refine Run.opsEnd ?_
      refine Run.condF' rfl rfl ?_
      refine Run.skip ?_
      refine Run.fallTo Tryd.func102 rfl res_nil rfl ?_
      refine Run.opsEnd (Run.seq (Run.region ?_))
      refine Run.opG wantS_none (ex_move rfl) rfl ?_
      refine Run.opG wantS_none (ex_move rfl) rfl ?_
      refine Run.opG wantS_none (ex_nilP rfl) rfl ?_
      refine Run.opG wantS_none (ex_fieldAddr rfl off124_1) rfl ?_
      refine Run.opG wantS_none (ex_load1 rfl (hH.cells (i := 0) rfl 1 rfl) rdLe_rfl agg108) rfl ?_
      refine Run.opG wantS_none (ex_move rfl) rfl ?_
      refine Run.opX wantS_none rfl (ExG.built (enc := enc5) (l := ([10] : List Int)) (z := 1) rfl elt108 rfl rfl rfl enc5_len hH) ?_
      rintro s59 M60 (hH60 : Has Fr M60 [.vec 5 1 ([10] : List Int).length s59 (([10] : List Int).flatMap enc5), .obj b25 (.row 124 .whole [(.ptr b25 0), s33]), .vec 5 1 l33.length s33 (l33.flatMap enc5), tb0, tb1, tb2])
      obtain ⟨l63, hl63, h⟩ := bnd_some h
      refine Run.opX wantS_none rfl (ExG.append rfl rfl hH60 (i := 2) rfl enc5_len rfl enc5_ones appt108_108 rfl (len_slc (hH60.slc (i := 0) rfl enc5_len)) (first_slc (hH60.slc (i := 0) rfl enc5_len) (rdLe_rdRow _) enc5_len) hl63) ?_
      rintro s63 M65 (hH65 : Has Fr M65 [.vec 5 1 ([10] : List Int).length s59 (([10] : List Int).flatMap enc5), .obj b25 (.row 124 .whole [(.ptr b25 0), s33]), .vec 5 1 l63.length s63 (l63.flatMap enc5), tb0, tb1, tb2])
      refine Run.opG wantS_none (ex_nilP rfl) rfl ?_
      refine Run.opG wantS_none (ex_fieldAddr rfl off124_1) rfl ?_
      refine Run.opX wantS_none rfl (ExG.storeC (c' := [(.ptr b25 0), s63]) rfl rfl (cells_one (vec_one hH65 (i := 2) rfl)) hH65 (i := 1) rfl sz108 rfl rfl rfl (ones_cons (vec_one hH65 (i := 2) rfl) ones_nil) rfl) ?_
      rintro _ M66 ⟨rfl, (hH66 : Has Fr M66 [.vec 5 1 ([10] : List Int).length s59 (([10] : List Int).flatMap enc5), .obj b25 (.row 124 .whole [(.ptr b25 0), s63]), .vec 5 1 l63.length s63 (l63.flatMap enc5), tb0, tb1, tb2])⟩
      refine Run.opsEnd (Run.seq (Run.region ?_))
      refine Run.opG wantS_none (ex_assign rfl) rfl ?_
      refine Run.opsEnd ?_
      refine Run.retTo Tryd.func104 rfl (res_tmp rfl res_nil) rfl ?_
      refine Run.opsEnd (Run.seq (Run.region ?_))
      refine Run.enter wantS_none (ex_call rfl mkk95 cal95) Tryd.func95 rfl rfl ?_
      refine Run.seq (Run.region ?_)
      refine Run.opG wantS_none (ex_assign rfl) rfl ?_
      refine Run.opsEnd (Run.seq ?_)
      refine Run.drawG plan95_1_0 ?_
      refine DrawG.fl rfl (ev_ex wantS_none (ex_move rfl)) rfl ?_
      refine DrawG.fl rfl (ev_ex wantS_none (ex_nilP rfl)) rfl ?_
      refine DrawG.fl rfl (ev_ex wantS_none (ex_fieldAddr rfl off124_1)) rfl ?_
      refine DrawG.fl rfl (ev_ex wantS_none (ex_load1 rfl (hH66.cells (i := 1) rfl 1 rfl) rdLe_rfl agg108)) rfl ?_
      obtain ⟨u67, hu67, h⟩ := bnd_some h
      obtain ⟨p67, hb67, hx67⟩ := vec_data (P := Tryd.prog) hH66 (i := 2) rfl (neB_some hu67)
      refine DrawG.fl rfl (ev_ex wantS_none (hx67 _ _ _ _ rfl)) rfl ?_
      refine DrawG.fl rfl (ev_ex wantS_none (ex_move rfl)) rfl ?_
      refine DrawG.fl rfl (ev_ex wantS_none (ex_nilP rfl)) rfl ?_
      refine DrawG.fl rfl (ev_ex wantS_none (ex_fieldAddr rfl off124_1)) rfl ?_
      refine DrawG.fl rfl (ev_ex wantS_none (ex_load1 rfl (hH66.cells (i := 1) rfl 1 rfl) rdLe_rfl agg108)) rfl ?_
      refine DrawG.fl rfl (ev_ex wantS_none (ex_len' rfl (hH66.slc (i := 2) rfl enc5_len) lenk108)) rfl ?_
      obtain ⟨z68, hz68, h⟩ := bnd_some h
      refine DrawG.opX rfl wantS_none rfl (ExG.uString (enc := enc5) (fun _ => rfl) rfl rfl hH66 (i := 2) rfl hb67 pte135 clo5 hz68) ?_
      rintro _ M69 ⟨rfl, (hH69 : Has Fr M69 [.vec 5 1 ([10] : List Int).length s59 (([10] : List Int).flatMap enc5), .obj b25 (.row 124 .whole [(.ptr b25 0), s63]), .vec 0 0 0 .nils [], tb0, tb1, tb2])⟩
      refine ⟨st_nil, ?_⟩
      refine DrawG.fl rfl (ev_ex wantS_none (ex_assign rfl)) rfl ?_
      refine DrawG.sync ?_
      refine DrawG.nil ?_
      refine Run.retTo Tryd.func95 rfl (res_tmp rfl res_nil) rfl ?_
      refine Run.opG wantS_none (ex_assign rfl) rfl ?_
      refine Run.opsEnd ?_
      cases h
      exact Run.ret Tryd.func101 rfl (res_tmp rfl res_nil) rfl

def alert_line (F : Nat) (a0 : (List UInt8)) (a1 : (List Int)) : Option ((List UInt8)) :=
  bnd (apd 1 ([] : List Int) (bytesI a0)) fun l31 =>
  alert_line_1 F F a1 (a1.length : Int) (0 : Int) l31

theorem alert_line_ok (F : Nat) (a0 : (List UInt8)) (a1 : (List Int)) (s0 : SV) (r : (List UInt8)) (M : Mem) (hs0 : Slc (rd M) 1 (FlatR enc3) s0 a1) (hfx : FixIn M fixes) (h : alert_line F a0 a1 = some r) : CallsM Tryd.prog 101 [(.str a0), s0] M (fun s M' => s = (.str r) ∧ M' = M) := by
  refine CallsM.plain Tryd.func101 rfl rfl rfl (show Run _ _ _ (alert_line_post r) _ _ _ from ?_)
  rw [alert_line] at h
  replace hs0 := hs0.mono (rdLe_frozen M) (fun _ _ h => h)
  have hH : Has (ro (frozen M)) (frozen M) [tb0, tb1, tb2] := Has.ofFix hfx.frozen
  refine Run.seq (Run.region ?_)
  refine Run.opG wantS_none (ex_assign rfl) rfl ?_
  refine Run.opsEnd (Run.seq (Run.region ?_))
  refine Run.opX wantS_none rfl (ExG.new (v := fun b => .ptr b 0) (ex_alloc zer124) hH) ?_
  rintro _ M26 ⟨b25, rfl, hH26⟩
  refine Run.opsEnd (Run.seq (Run.region ?_))
  refine Run.opG wantS_none (ex_move rfl) rfl ?_
  refine Run.enter wantS_none (ex_call rfl mkk94 cal94) Tryd.func94 rfl rfl ?_
  refine Run.seq (Run.region ?_)
  refine Run.opG wantS_none (ex_assign rfl) rfl ?_
  refine Run.opG wantS_none (ex_assign rfl) rfl ?_
  refine Run.opsEnd (Run.seq (Run.region ?_))
  refine Run.opG wantS_none (ex_move rfl) rfl ?_
  refine Run.enter wantS_none (ex_call rfl mkk102 cal102) Tryd.func102 rfl rfl ?_
  refine Run.seq (Run.region ?_)
  refine Run.opG wantS_none (ex_move rfl) rfl ?_
  refine Run.opG wantS_none (ex_nilP rfl) rfl ?_
  refine Run.opG wantS_none (ex_fieldAddr rfl off124_0) rfl ?_
  refine Run.opG wantS_none (ex_load1 rfl (hH26.cells (i := 0) rfl 0 rfl) rdLe_rfl agg122) rfl ?_
  refine Run.opG wantS_none (ex_ptrNN rfl rfl eqk122) rfl ?_
  refine Run.opsEnd ?_
  refine Run.condT' rfl rfl ?_
  refine Run.region ?_
  refine Run.opG wantS_none (ex_move rfl) rfl ?_
  refine Run.opG wantS_none (ex_move rfl) rfl ?_
  refine Run.opG wantS_none (ex_toU rfl uvk122_137 rfl hH26 (i := 0) rfl rfl) rfl ?_
  refine Run.opG wantS_none (ex_noEsc rfl mkk106 ncal106 ext106) rfl ?_
  refine Run.opG wantS_none (ex_backU rfl uvk137_122 hH26 (i := 0) rfl rfl clo124) rfl ?_
  refine Run.opG wantS_none (ex_nilP rfl) rfl ?_
  refine Run.opG wantS_none (ex_fieldAddr rfl off124_0) rfl ?_
  refine Run.opX wantS_none rfl (ExG.storeC (c' := [(.ptr b25 0), .nils]) rfl rfl rfl hH26 (i := 0) rfl sz122 rfl rfl rfl rfl rfl) ?_
  rintro _ M27 ⟨rfl, (hH27 : Has (ro (frozen M)) M27 [.obj b25 (.row 124 .whole [(.ptr b25 0), .nils]), tb0, tb1, tb2])⟩
  refine Run.opsEnd ?_
  refine Run.fallTo Tryd.func102 rfl res_nil rfl ?_
  refine Run.opsEnd (Run.seq (Run.region ?_))
  refine Run.opG wantS_none (ex_move rfl) rfl ?_
  refine Run.opG wantS_none (ex_move rfl) rfl ?_
  refine Run.opG wantS_none (ex_nilP rfl) rfl ?_
  refine Run.opG wantS_none (ex_fieldAddr rfl off124_1) rfl ?_
  refine Run.opG wantS_none (ex_load1 rfl (hH27.cells (i := 0) rfl 1 rfl) rdLe_rfl agg108) rfl ?_
  refine Run.opG wantS_none (ex_move rfl) rfl ?_
  obtain ⟨l31, hl31, h⟩ := bnd_some h
  have hH34 : Has (ro (frozen M)) M27 [.vec 5 1 ([] : List Int).length .nils (([] : List Int).flatMap enc5), .obj b25 (.row 124 .whole [(.ptr b25 0), .nils]), tb0, tb1, tb2] := hH27.nils 5 1
  refine Run.opX wantS_none rfl (ExG.append rfl rfl hH34 (i := 0) rfl enc5_len rfl enc5_ones appt108_9 rfl (str_lenZ rfl _) (str_first (fun _ => rfl) _) hl31) ?_
  rintro s31 M35 (hH35 : Has (ro (frozen M)) M35 [.vec 5 1 l31.length s31 (l31.flatMap enc5), .obj b25 (.row 124 .whole [(.ptr b25 0), .nils]), tb0, tb1, tb2])
  refine Run.opG wantS_none (ex_nilP rfl) rfl ?_
  refine Run.opG wantS_none (ex_fieldAddr rfl off124_1) rfl ?_
  refine Run.opX wantS_none rfl (ExG.storeC (c' := [(.ptr b25 0), s31]) rfl rfl (cells_one (vec_one hH35 (i := 0) rfl)) hH35 (i := 1) rfl sz108 rfl rfl rfl (ones_cons (vec_one hH35 (i := 0) rfl) ones_nil) rfl) ?_
  rintro _ M36 ⟨rfl, (hH36 : Has (ro (frozen M)) M36 [.vec 5 1 l31.length s31 (l31.flatMap enc5), .obj b25 (.row 124 .whole [(.ptr b25 0), s31]), tb0, tb1, tb2])⟩
  refine Run.opsEnd (Run.seq (Run.region ?_))
  refine Run.opG wantS_none (ex_move rfl) rfl ?_
  refine Run.opG wantS_none (ex_lenS rfl lenk9) rfl ?_
  refine Run.opG wantS_none (ex_assign rfl) rfl ?_
  refine Run.opG wantS_none (ex_assign rfl) rfl ?_
  refine Run.opsEnd ?_
  refine Run.retTo Tryd.func94 rfl (res_tmp rfl (res_tmp rfl res_nil)) rfl ?_
  refine Run.opsEnd (Run.seq (Run.seq (Run.region ?_)))
  refine Run.opG wantS_none (ex_move rfl) rfl ?_
  refine Run.opG wantS_none (ex_len' rfl hs0 lenk27) rfl ?_
  refine Run.opG wantS_none (ex_move rfl) rfl ?_
  refine Run.opsEnd (Run.block (Run.loop ?_))
  exact Run.pick [5, 10, 11, 12] (alert_line_1_ok F F a1 (a1.length : Int) (0 : Int) l31 s0 b25 s31 _ _ _ hs0 (hH36.pick [1, 0, 2, 3, 4] rfl rfl) h)

theorem mkk101 : makeK Tryd.prog 101 = none := by kernel_rfl
theorem cal101 : callable Tryd.prog 101 = true := by kernel_rfl
abbrev alert_sheet_head_post (r : (List UInt8)) : SV → Mem → Prop := fun s _ => s = (.str r)

def alert_sheet_head (F : Nat) (a0 : S_api_Alert) : Option ((List UInt8)) :=
  bnd (sCat [97, 108, 101, 114, 116, 32] a0.Event) fun z28 =>
  bnd (alert_line F z28 ([a0.Version] : List Int)) fun r33 =>
  some r33

theorem alert_sheet_head_ok (F : Nat) (a0 : S_api_Alert) (s0 : SV) (r : (List UInt8)) (M : Mem) (hs0 : Slc (rd M) 1 (FlatR enc3) s0 a0.Cells) (hfx : FixIn M fixes) (h : alert_sheet_head F a0 = some r) : CallsM Tryd.prog 87 [(.agg [(.str a0.Event), (.int .i64 a0.Version), (.int .i64 a0.Time), (.int .i64 a0.Chance.N), (.int .i64 a0.Chance.Of), (.int .i64 a0.Grid), s0, (.bool a0.Withdrawn), (.int .i64 a0.Before)])] M (fun s M' => s = (.str r) ∧ M' = M) := by
  refine CallsM.plain Tryd.func87 rfl rfl rfl (show Run _ _ _ (alert_sheet_head_post r) _ _ _ from ?_)
  rw [alert_sheet_head] at h
  replace hs0 := hs0.mono (rdLe_frozen M) (fun _ _ h => h)
  have hH : Has (ro (frozen M)) (frozen M) [tb0, tb1, tb2] := Has.ofFix hfx.frozen
  refine Run.seq (Run.region ?_)
  refine Run.opX wantS_none rfl (ExG.box rfl rfl hH) ?_
  rintro _ M26 ⟨b25, rfl, hH26⟩
  refine Run.opG wantS_none (ex_assign rfl) rfl ?_
  refine Run.opsEnd (Run.seq (Run.region ?_))
  refine Run.opG wantS_none (ex_fieldAddr rfl off119_0) rfl ?_
  refine Run.opG wantS_none (ex_load1 rfl (hH26.cells (i := 0) rfl 0 rfl) rdLe_rfl agg9) rfl ?_
  obtain ⟨z28, hz28, h⟩ := bnd_some h
  refine Run.opG wantS_none (ex_cat rfl rfl hz28) rfl ?_
  refine Run.opG wantS_none (ex_fieldAddr rfl off119_1) rfl ?_
  refine Run.opG wantS_none (ex_load1 rfl (hH26.cells (i := 0) rfl 1 rfl) rdLe_rfl agg3) rfl ?_
  refine Run.opX wantS_none rfl (ExG.built (enc := enc3) (l := ([a0.Version] : List Int)) (z := 1) rfl elt27 rfl rfl rfl enc3_len hH26) ?_
  rintro s30 M31 (hH31 : Has (ro (frozen M)) M31 [.vec 3 1 ([a0.Version] : List Int).length s30 (([a0.Version] : List Int).flatMap enc3), .obj b25 (.row 119 .whole [(.str a0.Event), (.int .i64 a0.Version), (.int .i64 a0.Time), (.int .i64 a0.Chance.N), (.int .i64 a0.Chance.Of), (.int .i64 a0.Grid), s0, (.bool a0.Withdrawn), (.int .i64 a0.Before)]), tb0, tb1, tb2])
  obtain ⟨r33, hr33, h⟩ := bnd_some h
  refine Run.callP wantS_none (ex_call rfl mkk101 cal101) rfl (alert_line_ok F z28 ([a0.Version] : List Int) s30 _ _ (hH31.slc (i := 0) rfl enc3_len) (fixH hH31 (List.mem_of_getElem? (i := 2) rfl) (List.mem_of_getElem? (i := 3) rfl) (List.mem_of_getElem? (i := 4) rfl)) hr33) ?_
  refine Run.opG wantS_none (ex_assign rfl) rfl ?_
  refine Run.opsEnd ?_
  cases h
  exact Run.ret Tryd.func87 rfl (res_tmp rfl res_nil) rfl

theorem mkk88 : makeK Tryd.prog 88 = none := by kernel_rfl
theorem cal88 : callable Tryd.prog 88 = true := by kernel_rfl
theorem off119_2 : fieldOff Tryd.prog 119 2 = some 2 := by kernel_rfl
abbrev alert_sheet_time_post (r : (List UInt8)) : SV → Mem → Prop := fun s _ => s = (.str r)

def alert_sheet_time (F : Nat) (a0 : S_api_Alert) : Option ((List UInt8)) :=
  bnd (alert_line F [116, 105, 109, 101] ([a0.Time] : List Int)) fun r31 =>
  some r31

theorem alert_sheet_time_ok (F : Nat) (a0 : S_api_Alert) (s0 : SV) (r : (List UInt8)) (M : Mem) (hs0 : Slc (rd M) 1 (FlatR enc3) s0 a0.Cells) (hfx : FixIn M fixes) (h : alert_sheet_time F a0 = some r) : CallsM Tryd.prog 88 [(.agg [(.str a0.Event), (.int .i64 a0.Version), (.int .i64 a0.Time), (.int .i64 a0.Chance.N), (.int .i64 a0.Chance.Of), (.int .i64 a0.Grid), s0, (.bool a0.Withdrawn), (.int .i64 a0.Before)])] M (fun s M' => s = (.str r) ∧ M' = M) := by
  refine CallsM.plain Tryd.func88 rfl rfl rfl (show Run _ _ _ (alert_sheet_time_post r) _ _ _ from ?_)
  rw [alert_sheet_time] at h
  replace hs0 := hs0.mono (rdLe_frozen M) (fun _ _ h => h)
  have hH : Has (ro (frozen M)) (frozen M) [tb0, tb1, tb2] := Has.ofFix hfx.frozen
  refine Run.seq (Run.region ?_)
  refine Run.opX wantS_none rfl (ExG.box rfl rfl hH) ?_
  rintro _ M26 ⟨b25, rfl, hH26⟩
  refine Run.opG wantS_none (ex_assign rfl) rfl ?_
  refine Run.opsEnd (Run.seq (Run.region ?_))
  refine Run.opG wantS_none (ex_fieldAddr rfl off119_2) rfl ?_
  refine Run.opG wantS_none (ex_load1 rfl (hH26.cells (i := 0) rfl 2 rfl) rdLe_rfl agg3) rfl ?_
  refine Run.opX wantS_none rfl (ExG.built (enc := enc3) (l := ([a0.Time] : List Int)) (z := 1) rfl elt27 rfl rfl rfl enc3_len hH26) ?_
  rintro s28 M29 (hH29 : Has (ro (frozen M)) M29 [.vec 3 1 ([a0.Time] : List Int).length s28 (([a0.Time] : List Int).flatMap enc3), .obj b25 (.row 119 .whole [(.str a0.Event), (.int .i64 a0.Version), (.int .i64 a0.Time), (.int .i64 a0.Chance.N), (.int .i64 a0.Chance.Of), (.int .i64 a0.Grid), s0, (.bool a0.Withdrawn), (.int .i64 a0.Before)]), tb0, tb1, tb2])
  obtain ⟨r31, hr31, h⟩ := bnd_some h
  refine Run.callP wantS_none (ex_call rfl mkk101 cal101) rfl (alert_line_ok F [116, 105, 109, 101] ([a0.Time] : List Int) s28 _ _ (hH29.slc (i := 0) rfl enc3_len) (fixH hH29 (List.mem_of_getElem? (i := 2) rfl) (List.mem_of_getElem? (i := 3) rfl) (List.mem_of_getElem? (i := 4) rfl)) hr31) ?_
  refine Run.opG wantS_none (ex_assign rfl) rfl ?_
  refine Run.opsEnd ?_
  cases h
  exact Run.ret Tryd.func88 rfl (res_tmp rfl res_nil) rfl

theorem mkk89 : makeK Tryd.prog 89 = none := by kernel_rfl
theorem cal89 : callable Tryd.prog 89 = true := by kernel_rfl
theorem off119_3 : fieldOff Tryd.prog 119 3 = some 3 := by kernel_rfl
abbrev alert_sheet_chance_post (r : (List UInt8)) : SV → Mem → Prop := fun s _ => s = (.str r)

def alert_sheet_chance (F : Nat) (a0 : S_api_Alert) : Option ((List UInt8)) :=
  bnd (alert_line F [99, 104, 97, 110, 99, 101] ([a0.Chance.N, a0.Chance.Of] : List Int)) fun r31 =>
  some r31

theorem alert_sheet_chance_ok (F : Nat) (a0 : S_api_Alert) (s0 : SV) (r : (List UInt8)) (M : Mem) (hs0 : Slc (rd M) 1 (FlatR enc3) s0 a0.Cells) (hfx : FixIn M fixes) (h : alert_sheet_chance F a0 = some r) : CallsM Tryd.prog 89 [(.agg [(.str a0.Event), (.int .i64 a0.Version), (.int .i64 a0.Time), (.int .i64 a0.Chance.N), (.int .i64 a0.Chance.Of), (.int .i64 a0.Grid), s0, (.bool a0.Withdrawn), (.int .i64 a0.Before)])] M (fun s M' => s = (.str r) ∧ M' = M) := by
  refine CallsM.plain Tryd.func89 rfl rfl rfl (show Run _ _ _ (alert_sheet_chance_post r) _ _ _ from ?_)
  rw [alert_sheet_chance] at h
  replace hs0 := hs0.mono (rdLe_frozen M) (fun _ _ h => h)
  have hH : Has (ro (frozen M)) (frozen M) [tb0, tb1, tb2] := Has.ofFix hfx.frozen
  refine Run.seq (Run.region ?_)
  refine Run.opX wantS_none rfl (ExG.box rfl rfl hH) ?_
  rintro _ M26 ⟨b25, rfl, hH26⟩
  refine Run.opG wantS_none (ex_assign rfl) rfl ?_
  refine Run.opsEnd (Run.seq (Run.region ?_))
  refine Run.opG wantS_none (ex_fieldAddr rfl off119_3) rfl ?_
  refine Run.opG wantS_none (ex_fieldAddr rfl off26_0) rfl ?_
  refine Run.opG wantS_none (ex_load1 rfl (hH26.cells (i := 0) rfl 3 rfl) rdLe_rfl agg3) rfl ?_
  refine Run.opG wantS_none (ex_fieldAddr rfl off119_3) rfl ?_
  refine Run.opG wantS_none (ex_fieldAddr rfl off26_1) rfl ?_
  refine Run.opG wantS_none (ex_load1 rfl (hH26.cells (i := 0) rfl 4 rfl) rdLe_rfl agg3) rfl ?_
  refine Run.opX wantS_none rfl (ExG.built (enc := enc3) (l := ([a0.Chance.N, a0.Chance.Of] : List Int)) (z := 1) rfl elt27 rfl rfl rfl enc3_len hH26) ?_
  rintro s28 M29 (hH29 : Has (ro (frozen M)) M29 [.vec 3 1 ([a0.Chance.N, a0.Chance.Of] : List Int).length s28 (([a0.Chance.N, a0.Chance.Of] : List Int).flatMap enc3), .obj b25 (.row 119 .whole [(.str a0.Event), (.int .i64 a0.Version), (.int .i64 a0.Time), (.int .i64 a0.Chance.N), (.int .i64 a0.Chance.Of), (.int .i64 a0.Grid), s0, (.bool a0.Withdrawn), (.int .i64 a0.Before)]), tb0, tb1, tb2])
  obtain ⟨r31, hr31, h⟩ := bnd_some h
  refine Run.callP wantS_none (ex_call rfl mkk101 cal101) rfl (alert_line_ok F [99, 104, 97, 110, 99, 101] ([a0.Chance.N, a0.Chance.Of] : List Int) s28 _ _ (hH29.slc (i := 0) rfl enc3_len) (fixH hH29 (List.mem_of_getElem? (i := 2) rfl) (List.mem_of_getElem? (i := 3) rfl) (List.mem_of_getElem? (i := 4) rfl)) hr31) ?_
  refine Run.opG wantS_none (ex_assign rfl) rfl ?_
  refine Run.opsEnd ?_
  cases h
  exact Run.ret Tryd.func89 rfl (res_tmp rfl res_nil) rfl

theorem mkk90 : makeK Tryd.prog 90 = none := by kernel_rfl
theorem cal90 : callable Tryd.prog 90 = true := by kernel_rfl
theorem off119_4 : fieldOff Tryd.prog 119 4 = some 5 := by kernel_rfl
abbrev alert_sheet_grid_post (r : (List UInt8)) : SV → Mem → Prop := fun s _ => s = (.str r)

def alert_sheet_grid (F : Nat) (a0 : S_api_Alert) : Option ((List UInt8)) :=
  bnd (alert_line F [103, 114, 105, 100] ([a0.Grid] : List Int)) fun r31 =>
  some r31

theorem alert_sheet_grid_ok (F : Nat) (a0 : S_api_Alert) (s0 : SV) (r : (List UInt8)) (M : Mem) (hs0 : Slc (rd M) 1 (FlatR enc3) s0 a0.Cells) (hfx : FixIn M fixes) (h : alert_sheet_grid F a0 = some r) : CallsM Tryd.prog 90 [(.agg [(.str a0.Event), (.int .i64 a0.Version), (.int .i64 a0.Time), (.int .i64 a0.Chance.N), (.int .i64 a0.Chance.Of), (.int .i64 a0.Grid), s0, (.bool a0.Withdrawn), (.int .i64 a0.Before)])] M (fun s M' => s = (.str r) ∧ M' = M) := by
  refine CallsM.plain Tryd.func90 rfl rfl rfl (show Run _ _ _ (alert_sheet_grid_post r) _ _ _ from ?_)
  rw [alert_sheet_grid] at h
  replace hs0 := hs0.mono (rdLe_frozen M) (fun _ _ h => h)
  have hH : Has (ro (frozen M)) (frozen M) [tb0, tb1, tb2] := Has.ofFix hfx.frozen
  refine Run.seq (Run.region ?_)
  refine Run.opX wantS_none rfl (ExG.box rfl rfl hH) ?_
  rintro _ M26 ⟨b25, rfl, hH26⟩
  refine Run.opG wantS_none (ex_assign rfl) rfl ?_
  refine Run.opsEnd (Run.seq (Run.region ?_))
  refine Run.opG wantS_none (ex_fieldAddr rfl off119_4) rfl ?_
  refine Run.opG wantS_none (ex_load1 rfl (hH26.cells (i := 0) rfl 5 rfl) rdLe_rfl agg3) rfl ?_
  refine Run.opX wantS_none rfl (ExG.built (enc := enc3) (l := ([a0.Grid] : List Int)) (z := 1) rfl elt27 rfl rfl rfl enc3_len hH26) ?_
  rintro s28 M29 (hH29 : Has (ro (frozen M)) M29 [.vec 3 1 ([a0.Grid] : List Int).length s28 (([a0.Grid] : List Int).flatMap enc3), .obj b25 (.row 119 .whole [(.str a0.Event), (.int .i64 a0.Version), (.int .i64 a0.Time), (.int .i64 a0.Chance.N), (.int .i64 a0.Chance.Of), (.int .i64 a0.Grid), s0, (.bool a0.Withdrawn), (.int .i64 a0.Before)]), tb0, tb1, tb2])
  obtain ⟨r31, hr31, h⟩ := bnd_some h
  refine Run.callP wantS_none (ex_call rfl mkk101 cal101) rfl (alert_line_ok F [103, 114, 105, 100] ([a0.Grid] : List Int) s28 _ _ (hH29.slc (i := 0) rfl enc3_len) (fixH hH29 (List.mem_of_getElem? (i := 2) rfl) (List.mem_of_getElem? (i := 3) rfl) (List.mem_of_getElem? (i := 4) rfl)) hr31) ?_
  refine Run.opG wantS_none (ex_assign rfl) rfl ?_
  refine Run.opsEnd ?_
  cases h
  exact Run.ret Tryd.func90 rfl (res_tmp rfl res_nil) rfl

theorem mkk91 : makeK Tryd.prog 91 = none := by kernel_rfl
theorem cal91 : callable Tryd.prog 91 = true := by kernel_rfl
theorem off119_6 : fieldOff Tryd.prog 119 6 = some 7 := by kernel_rfl
theorem off119_5 : fieldOff Tryd.prog 119 5 = some 6 := by kernel_rfl
abbrev alert_sheet_where_post (r : (List UInt8)) : SV → Mem → Prop := fun s _ => s = (.str r)

def alert_sheet_where (F : Nat) (a0 : S_api_Alert) : Option ((List UInt8)) :=
  bif a0.Withdrawn then
    bnd (alert_line F [119, 105, 116, 104, 100, 114, 97, 119, 110] []) fun r29 =>
    some r29
  else
    bnd (alert_line F [99, 101, 108, 108, 115] a0.Cells) fun r32 =>
    some r32

theorem alert_sheet_where_ok (F : Nat) (a0 : S_api_Alert) (s0 : SV) (r : (List UInt8)) (M : Mem) (hs0 : Slc (rd M) 1 (FlatR enc3) s0 a0.Cells) (hfx : FixIn M fixes) (h : alert_sheet_where F a0 = some r) : CallsM Tryd.prog 91 [(.agg [(.str a0.Event), (.int .i64 a0.Version), (.int .i64 a0.Time), (.int .i64 a0.Chance.N), (.int .i64 a0.Chance.Of), (.int .i64 a0.Grid), s0, (.bool a0.Withdrawn), (.int .i64 a0.Before)])] M (fun s M' => s = (.str r) ∧ M' = M) := by
  refine CallsM.plain Tryd.func91 rfl rfl rfl (show Run _ _ _ (alert_sheet_where_post r) _ _ _ from ?_)
  rw [alert_sheet_where] at h
  replace hs0 := hs0.mono (rdLe_frozen M) (fun _ _ h => h)
  have hH : Has (ro (frozen M)) (frozen M) [tb0, tb1, tb2] := Has.ofFix hfx.frozen
  refine Run.seq (Run.region ?_)
  refine Run.opX wantS_none rfl (ExG.box rfl rfl hH) ?_
  rintro _ M26 ⟨b25, rfl, hH26⟩
  refine Run.opG wantS_none (ex_assign rfl) rfl ?_
  refine Run.opsEnd (Run.seq (Run.seq (Run.region ?_)))
  refine Run.opG wantS_none (ex_fieldAddr rfl off119_6) rfl ?_
  refine Run.opG wantS_none (ex_load1 rfl (hH26.cells (i := 0) rfl 7 rfl) rdLe_rfl agg4) rfl ?_
  refine Run.opsEnd ?_
  rcases btf (a0.Withdrawn) with hc27 | hc27
  · have h := bif_t hc27 h
    refine Run.condT' rfl hc27 ?_
    refine Run.seq (Run.region ?_)
    obtain ⟨r29, hr29, h⟩ := bnd_some h
    refine Run.callP wantS_none (ex_call rfl mkk101 cal101) rfl (alert_line_ok F [119, 105, 116, 104, 100, 114, 97, 119, 110] [] .nils _ _ slc_nil (fixH hH26 (List.mem_of_getElem? (i := 1) rfl) (List.mem_of_getElem? (i := 2) rfl) (List.mem_of_getElem? (i := 3) rfl)) hr29) ?_
    refine Run.opG wantS_none (ex_assign rfl) rfl ?_
    refine Run.opsEnd ?_
    cases h
    exact Run.ret Tryd.func91 rfl (res_tmp rfl res_nil) rfl
  · have h := bif_f hc27 h
    refine Run.condF' rfl hc27 ?_
    refine Run.skip (Run.seq (Run.region ?_))
    refine Run.opG wantS_none (ex_fieldAddr rfl off119_5) rfl ?_
    refine Run.opG wantS_none (ex_load1 rfl (hH26.cells (i := 0) rfl 6 rfl) rdLe_rfl agg27) rfl ?_
    obtain ⟨r32, hr32, h⟩ := bnd_some h
    refine Run.callP wantS_none (ex_call rfl mkk101 cal101) rfl (alert_line_ok F [99, 101, 108, 108, 115] a0.Cells s0 _ _ (hH26.slcF hs0) (fixH hH26 (List.mem_of_getElem? (i := 1) rfl) (List.mem_of_getElem? (i := 2) rfl) (List.mem_of_getElem? (i := 3) rfl)) hr32) ?_
    refine Run.opG wantS_none (ex_assign rfl) rfl ?_
    refine Run.opsEnd ?_
    cases h
    exact Run.ret Tryd.func91 rfl (res_tmp rfl res_nil) rfl

theorem mkk92 : makeK Tryd.prog 92 = none := by kernel_rfl
theorem cal92 : callable Tryd.prog 92 = true := by kernel_rfl
theorem off119_7 : fieldOff Tryd.prog 119 7 = some 8 := by kernel_rfl
abbrev alert_sheet_before_post (r : (List UInt8)) : SV → Mem → Prop := fun s _ => s = (.str r)

def alert_sheet_before (F : Nat) (a0 : S_api_Alert) : Option ((List UInt8)) :=
  bnd (alert_line F [98, 101, 102, 111, 114, 101] ([a0.Before] : List Int)) fun r31 =>
  some r31

theorem alert_sheet_before_ok (F : Nat) (a0 : S_api_Alert) (s0 : SV) (r : (List UInt8)) (M : Mem) (hs0 : Slc (rd M) 1 (FlatR enc3) s0 a0.Cells) (hfx : FixIn M fixes) (h : alert_sheet_before F a0 = some r) : CallsM Tryd.prog 92 [(.agg [(.str a0.Event), (.int .i64 a0.Version), (.int .i64 a0.Time), (.int .i64 a0.Chance.N), (.int .i64 a0.Chance.Of), (.int .i64 a0.Grid), s0, (.bool a0.Withdrawn), (.int .i64 a0.Before)])] M (fun s M' => s = (.str r) ∧ M' = M) := by
  refine CallsM.plain Tryd.func92 rfl rfl rfl (show Run _ _ _ (alert_sheet_before_post r) _ _ _ from ?_)
  rw [alert_sheet_before] at h
  replace hs0 := hs0.mono (rdLe_frozen M) (fun _ _ h => h)
  have hH : Has (ro (frozen M)) (frozen M) [tb0, tb1, tb2] := Has.ofFix hfx.frozen
  refine Run.seq (Run.region ?_)
  refine Run.opX wantS_none rfl (ExG.box rfl rfl hH) ?_
  rintro _ M26 ⟨b25, rfl, hH26⟩
  refine Run.opG wantS_none (ex_assign rfl) rfl ?_
  refine Run.opsEnd (Run.seq (Run.region ?_))
  refine Run.opG wantS_none (ex_fieldAddr rfl off119_7) rfl ?_
  refine Run.opG wantS_none (ex_load1 rfl (hH26.cells (i := 0) rfl 8 rfl) rdLe_rfl agg3) rfl ?_
  refine Run.opX wantS_none rfl (ExG.built (enc := enc3) (l := ([a0.Before] : List Int)) (z := 1) rfl elt27 rfl rfl rfl enc3_len hH26) ?_
  rintro s28 M29 (hH29 : Has (ro (frozen M)) M29 [.vec 3 1 ([a0.Before] : List Int).length s28 (([a0.Before] : List Int).flatMap enc3), .obj b25 (.row 119 .whole [(.str a0.Event), (.int .i64 a0.Version), (.int .i64 a0.Time), (.int .i64 a0.Chance.N), (.int .i64 a0.Chance.Of), (.int .i64 a0.Grid), s0, (.bool a0.Withdrawn), (.int .i64 a0.Before)]), tb0, tb1, tb2])
  obtain ⟨r31, hr31, h⟩ := bnd_some h
  refine Run.callP wantS_none (ex_call rfl mkk101 cal101) rfl (alert_line_ok F [98, 101, 102, 111, 114, 101] ([a0.Before] : List Int) s28 _ _ (hH29.slc (i := 0) rfl enc3_len) (fixH hH29 (List.mem_of_getElem? (i := 2) rfl) (List.mem_of_getElem? (i := 3) rfl) (List.mem_of_getElem? (i := 4) rfl)) hr31) ?_
  refine Run.opG wantS_none (ex_assign rfl) rfl ?_
  refine Run.opsEnd ?_
  cases h
  exact Run.ret Tryd.func92 rfl (res_tmp rfl res_nil) rfl

theorem mkk93 : makeK Tryd.prog 93 = none := by kernel_rfl
theorem cal93 : callable Tryd.prog 93 = true := by kernel_rfl
abbrev alert_sheet_end_post (r : (List UInt8)) : SV → Mem → Prop := fun s _ => s = (.str r)

def alert_sheet_end (F : Nat) (a0 : S_api_Alert) : Option ((List UInt8)) :=
  bnd (alert_line F [101, 110, 100] []) fun r28 =>
  some r28

theorem alert_sheet_end_ok (F : Nat) (a0 : S_api_Alert) (s0 : SV) (r : (List UInt8)) (M : Mem) (hs0 : Slc (rd M) 1 (FlatR enc3) s0 a0.Cells) (hfx : FixIn M fixes) (h : alert_sheet_end F a0 = some r) : CallsM Tryd.prog 93 [(.agg [(.str a0.Event), (.int .i64 a0.Version), (.int .i64 a0.Time), (.int .i64 a0.Chance.N), (.int .i64 a0.Chance.Of), (.int .i64 a0.Grid), s0, (.bool a0.Withdrawn), (.int .i64 a0.Before)])] M (fun s M' => s = (.str r) ∧ M' = M) := by
  refine CallsM.plain Tryd.func93 rfl rfl rfl (show Run _ _ _ (alert_sheet_end_post r) _ _ _ from ?_)
  rw [alert_sheet_end] at h
  replace hs0 := hs0.mono (rdLe_frozen M) (fun _ _ h => h)
  have hH : Has (ro (frozen M)) (frozen M) [tb0, tb1, tb2] := Has.ofFix hfx.frozen
  refine Run.seq (Run.region ?_)
  refine Run.opX wantS_none rfl (ExG.box rfl rfl hH) ?_
  rintro _ M26 ⟨b25, rfl, hH26⟩
  refine Run.opG wantS_none (ex_assign rfl) rfl ?_
  refine Run.opsEnd (Run.seq (Run.region ?_))
  obtain ⟨r28, hr28, h⟩ := bnd_some h
  refine Run.callP wantS_none (ex_call rfl mkk101 cal101) rfl (alert_line_ok F [101, 110, 100] [] .nils _ _ slc_nil (fixH hH26 (List.mem_of_getElem? (i := 1) rfl) (List.mem_of_getElem? (i := 2) rfl) (List.mem_of_getElem? (i := 3) rfl)) hr28) ?_
  refine Run.opG wantS_none (ex_assign rfl) rfl ?_
  refine Run.opsEnd ?_
  cases h
  exact Run.ret Tryd.func93 rfl (res_tmp rfl res_nil) rfl

abbrev alert_textOf_post (r : (List UInt8)) : SV → Mem → Prop := fun s _ => s = (.str r)

def alert_textOf_8 (F : Nat) : Nat → (List UInt8) → Int → Int → Int → Int → Int → (List Int) → Bool → Int → (List Int) → Option ((List UInt8))
  | 0, _, _, _, _, _, _, _, _, _, _ => none
  | N + 1, v24_0_x0_0, v24_0_x0_1, v24_0_x0_2, v24_0_x0_3, v24_0_x0_4, v24_0_x0_5, v24_0_x0_6, v24_0_x0_7, v24_0_x0_8, l102 =>
    bnd (neB l102) fun u105 =>
    bnd (strOf l102) fun z106 =>
    some z106

theorem alert_textOf_8_ok (F : Nat) : ∀ (N : Nat), ∀ (v24_0_x0_0 : (List UInt8)) (v24_0_x0_1 v24_0_x0_2 v24_0_x0_3 v24_0_x0_4 v24_0_x0_5 : Int) (v24_0_x0_6 : (List Int)) (v24_0_x0_7 : Bool) (v24_0_x0_8 : Int) (l102 : (List Int)) (sv24_0_x0_6 : SV) (b36 : Pos) (s102 : SV) (Fr : Rd) (M : Mem) (r : (List UInt8)) (hv24_0_x0_6 : Slc Fr 1 (FlatR enc3) sv24_0_x0_6 v24_0_x0_6) (hH : Has Fr M [.obj b36 (.row 124 .whole [(.ptr b36 0), s102]), .vec 5 1 l102.length s102 (l102.flatMap enc5), tb0, tb1, tb2]), alert_textOf_8 F N v24_0_x0_0 v24_0_x0_1 v24_0_x0_2 v24_0_x0_3 v24_0_x0_4 v24_0_x0_5 v24_0_x0_6 v24_0_x0_7 v24_0_x0_8 l102 = some r → Run Tryd.prog ⟨⟨75, [], none⟩, []⟩ 33 (alert_textOf_post r) [(5, (.ptr b36 0)), (24, (.agg [(.fn (.func 87) [(.agg [(.str v24_0_x0_0), (.int .i64 v24_0_x0_1), (.int .i64 v24_0_x0_2), (.int .i64 v24_0_x0_3), (.int .i64 v24_0_x0_4), (.int .i64 v24_0_x0_5), sv24_0_x0_6, (.bool v24_0_x0_7), (.int .i64 v24_0_x0_8)])] []), (.fn (.func 88) [(.agg [(.str v24_0_x0_0), (.int .i64 v24_0_x0_1), (.int .i64 v24_0_x0_2), (.int .i64 v24_0_x0_3), (.int .i64 v24_0_x0_4), (.int .i64 v24_0_x0_5), sv24_0_x0_6, (.bool v24_0_x0_7), (.int .i64 v24_0_x0_8)])] []), (.fn (.func 89) [(.agg [(.str v24_0_x0_0), (.int .i64 v24_0_x0_1), (.int .i64 v24_0_x0_2), (.int .i64 v24_0_x0_3), (.int .i64 v24_0_x0_4), (.int .i64 v24_0_x0_5), sv24_0_x0_6, (.bool v24_0_x0_7), (.int .i64 v24_0_x0_8)])] []), (.fn (.func 90) [(.agg [(.str v24_0_x0_0), (.int .i64 v24_0_x0_1), (.int .i64 v24_0_x0_2), (.int .i64 v24_0_x0_3), (.int .i64 v24_0_x0_4), (.int .i64 v24_0_x0_5), sv24_0_x0_6, (.bool v24_0_x0_7), (.int .i64 v24_0_x0_8)])] []), (.fn (.func 91) [(.agg [(.str v24_0_x0_0), (.int .i64 v24_0_x0_1), (.int .i64 v24_0_x0_2), (.int .i64 v24_0_x0_3), (.int .i64 v24_0_x0_4), (.int .i64 v24_0_x0_5), sv24_0_x0_6, (.bool v24_0_x0_7), (.int .i64 v24_0_x0_8)])] []), (.fn (.func 92) [(.agg [(.str v24_0_x0_0), (.int .i64 v24_0_x0_1), (.int .i64 v24_0_x0_2), (.int .i64 v24_0_x0_3), (.int .i64 v24_0_x0_4), (.int .i64 v24_0_x0_5), sv24_0_x0_6, (.bool v24_0_x0_7), (.int .i64 v24_0_x0_8)])] []), (.fn (.func 93) [(.agg [(.str v24_0_x0_0), (.int .i64 v24_0_x0_1), (.int .i64 v24_0_x0_2), (.int .i64 v24_0_x0_3), (.int .i64 v24_0_x0_4), (.int .i64 v24_0_x0_5), sv24_0_x0_6, (.bool v24_0_x0_7), (.int .i64 v24_0_x0_8)])] [])])), (25, (.int .i64 7))] [codeC Tryd.prog 75 [1, 1, 1, 1, 0, 1, 0, 0], loopC Tryd.prog 75 [1, 1, 1, 1, 0, 1, 0, 0], .inBlock 0, codeC Tryd.prog 75 [1, 1, 1, 1, 1]] M := by
  intro N
  induction N with
  | zero =>
    intro v24_0_x0_0 v24_0_x0_1 v24_0_x0_2 v24_0_x0_3 v24_0_x0_4 v24_0_x0_5 v24_0_x0_6 v24_0_x0_7 v24_0_x0_8 l102 sv24_0_x0_6 b36 s102 Fr M r hv24_0_x0_6 hH h
    simp [alert_textOf_8] at h
  | succ N ih =>
    intro v24_0_x0_0 v24_0_x0_1 v24_0_x0_2 v24_0_x0_3 v24_0_x0_4 v24_0_x0_5 v24_0_x0_6 v24_0_x0_7 v24_0_x0_8 l102 sv24_0_x0_6 b36 s102 Fr M r hv24_0_x0_6 hH h
    rw [alert_textOf_8] at h
    refine Run.seq (Run.region ?_)
    refine Run.opG wantS_none (ex_lss rfl rfl) rfl ?_
    refine Run.opsEnd (Run.seq ?_)
    refine Run.condF' rfl rfl ?_
    refine Run.exit rfl (Run.seq (Run.region ?_))
    refine Run.enter wantS_none (ex_call rfl mkk95 cal95) Tryd.func95 rfl rfl ?_
    refine Run.seq (Run.region ?_)
    refine Run.opG wantS_none (ex_assign rfl) rfl ?_
    refine Run.opsEnd (Run.seq ?_)
    refine Run.drawG plan95_1_0 ?_
    refine DrawG.fl rfl (ev_ex wantS_none (ex_move rfl)) rfl ?_
    refine DrawG.fl rfl (ev_ex wantS_none (ex_nilP rfl)) rfl ?_
    refine DrawG.fl rfl (ev_ex wantS_none (ex_fieldAddr rfl off124_1)) rfl ?_
    refine DrawG.fl rfl (ev_ex wantS_none (ex_load1 rfl (hH.cells (i := 0) rfl 1 rfl) rdLe_rfl agg108)) rfl ?_
    obtain ⟨u105, hu105, h⟩ := bnd_some h
    obtain ⟨p105, hb105, hx105⟩ := vec_data (P := Tryd.prog) hH (i := 1) rfl (neB_some hu105)
    refine DrawG.fl rfl (ev_ex wantS_none (hx105 _ _ _ _ rfl)) rfl ?_
    refine DrawG.fl rfl (ev_ex wantS_none (ex_move rfl)) rfl ?_
    refine DrawG.fl rfl (ev_ex wantS_none (ex_nilP rfl)) rfl ?_
    refine DrawG.fl rfl (ev_ex wantS_none (ex_fieldAddr rfl off124_1)) rfl ?_
    refine DrawG.fl rfl (ev_ex wantS_none (ex_load1 rfl (hH.cells (i := 0) rfl 1 rfl) rdLe_rfl agg108)) rfl ?_
    refine DrawG.fl rfl (ev_ex wantS_none (ex_len' rfl (hH.slc (i := 1) rfl enc5_len) lenk108)) rfl ?_
    obtain ⟨z106, hz106, h⟩ := bnd_some h
    refine DrawG.opX rfl wantS_none rfl (ExG.uString (enc := enc5) (fun _ => rfl) rfl rfl hH (i := 1) rfl hb105 pte135 clo5 hz106) ?_
    rintro _ M107 ⟨rfl, (hH107 : Has Fr M107 [.obj b36 (.row 124 .whole [(.ptr b36 0), s102]), .vec 0 0 0 .nils [], tb0, tb1, tb2])⟩
    refine ⟨st_nil, ?_⟩
    refine DrawG.fl rfl (ev_ex wantS_none (ex_assign rfl)) rfl ?_
    refine DrawG.sync ?_
    refine DrawG.nil ?_
    refine Run.retTo Tryd.func95 rfl (res_tmp rfl res_nil) rfl ?_
    refine Run.opG wantS_none (ex_assign rfl) rfl ?_
    refine Run.opsEnd ?_
    cases h
    exact Run.ret Tryd.func75 rfl (res_tmp rfl res_nil) rfl

def alert_textOf_7 (F : Nat) : Nat → (List UInt8) → Int → Int → Int → Int → Int → (List Int) → Bool → Int → (List Int) → Option ((List UInt8))
  | 0, _, _, _, _, _, _, _, _, _, _ => none
  | N + 1, v24_0_x0_0, v24_0_x0_1, v24_0_x0_2, v24_0_x0_3, v24_0_x0_4, v24_0_x0_5, v24_0_x0_6, v24_0_x0_7, v24_0_x0_8, l93 =>
    bnd (alert_sheet_end F (S_api_Alert.mk v24_0_x0_0 v24_0_x0_1 v24_0_x0_2 (S_api_Chance.mk v24_0_x0_3 v24_0_x0_4) v24_0_x0_5 v24_0_x0_6 v24_0_x0_7 v24_0_x0_8)) fun r97 =>
    bnd (apd 1 l93 (bytesI r97)) fun l101 =>
    alert_textOf_8 F F v24_0_x0_0 v24_0_x0_1 v24_0_x0_2 v24_0_x0_3 v24_0_x0_4 v24_0_x0_5 v24_0_x0_6 v24_0_x0_7 v24_0_x0_8 l101

theorem alert_textOf_7_ok (F : Nat) : ∀ (N : Nat), ∀ (v24_0_x0_0 : (List UInt8)) (v24_0_x0_1 v24_0_x0_2 v24_0_x0_3 v24_0_x0_4 v24_0_x0_5 : Int) (v24_0_x0_6 : (List Int)) (v24_0_x0_7 : Bool) (v24_0_x0_8 : Int) (l93 : (List Int)) (sv24_0_x0_6 : SV) (b36 : Pos) (s93 : SV) (Fr : Rd) (M : Mem) (r : (List UInt8)) (hv24_0_x0_6 : Slc Fr 1 (FlatR enc3) sv24_0_x0_6 v24_0_x0_6) (hH : Has Fr M [.obj b36 (.row 124 .whole [(.ptr b36 0), s93]), .vec 5 1 l93.length s93 (l93.flatMap enc5), tb0, tb1, tb2]), alert_textOf_7 F N v24_0_x0_0 v24_0_x0_1 v24_0_x0_2 v24_0_x0_3 v24_0_x0_4 v24_0_x0_5 v24_0_x0_6 v24_0_x0_7 v24_0_x0_8 l93 = some r → Run Tryd.prog ⟨⟨75, [], none⟩, []⟩ 33 (alert_textOf_post r) [(5, (.ptr b36 0)), (24, (.agg [(.fn (.func 87) [(.agg [(.str v24_0_x0_0), (.int .i64 v24_0_x0_1), (.int .i64 v24_0_x0_2), (.int .i64 v24_0_x0_3), (.int .i64 v24_0_x0_4), (.int .i64 v24_0_x0_5), sv24_0_x0_6, (.bool v24_0_x0_7), (.int .i64 v24_0_x0_8)])] []), (.fn (.func 88) [(.agg [(.str v24_0_x0_0), (.int .i64 v24_0_x0_1), (.int .i64 v24_0_x0_2), (.int .i64 v24_0_x0_3), (.int .i64 v24_0_x0_4), (.int .i64 v24_0_x0_5), sv24_0_x0_6, (.bool v24_0_x0_7), (.int .i64 v24_0_x0_8)])] []), (.fn (.func 89) [(.agg [(.str v24_0_x0_0), (.int .i64 v24_0_x0_1), (.int .i64 v24_0_x0_2), (.int .i64 v24_0_x0_3), (.int .i64 v24_0_x0_4), (.int .i64 v24_0_x0_5), sv24_0_x0_6, (.bool v24_0_x0_7), (.int .i64 v24_0_x0_8)])] []), (.fn (.func 90) [(.agg [(.str v24_0_x0_0), (.int .i64 v24_0_x0_1), (.int .i64 v24_0_x0_2), (.int .i64 v24_0_x0_3), (.int .i64 v24_0_x0_4), (.int .i64 v24_0_x0_5), sv24_0_x0_6, (.bool v24_0_x0_7), (.int .i64 v24_0_x0_8)])] []), (.fn (.func 91) [(.agg [(.str v24_0_x0_0), (.int .i64 v24_0_x0_1), (.int .i64 v24_0_x0_2), (.int .i64 v24_0_x0_3), (.int .i64 v24_0_x0_4), (.int .i64 v24_0_x0_5), sv24_0_x0_6, (.bool v24_0_x0_7), (.int .i64 v24_0_x0_8)])] []), (.fn (.func 92) [(.agg [(.str v24_0_x0_0), (.int .i64 v24_0_x0_1), (.int .i64 v24_0_x0_2), (.int .i64 v24_0_x0_3), (.int .i64 v24_0_x0_4), (.int .i64 v24_0_x0_5), sv24_0_x0_6, (.bool v24_0_x0_7), (.int .i64 v24_0_x0_8)])] []), (.fn (.func 93) [(.agg [(.str v24_0_x0_0), (.int .i64 v24_0_x0_1), (.int .i64 v24_0_x0_2), (.int .i64 v24_0_x0_3), (.int .i64 v24_0_x0_4), (.int .i64 v24_0_x0_5), sv24_0_x0_6, (.bool v24_0_x0_7), (.int .i64 v24_0_x0_8)])] [])])), (25, (.int .i64 6))] [codeC Tryd.prog 75 [1, 1, 1, 1, 0, 1, 0, 0], loopC Tryd.prog 75 [1, 1, 1, 1, 0, 1, 0, 0], .inBlock 0, codeC Tryd.prog 75 [1, 1, 1, 1, 1]] M := by
  intro N
  induction N with
  | zero =>
    intro v24_0_x0_0 v24_0_x0_1 v24_0_x0_2 v24_0_x0_3 v24_0_x0_4 v24_0_x0_5 v24_0_x0_6 v24_0_x0_7 v24_0_x0_8 l93 sv24_0_x0_6 b36 s93 Fr M r hv24_0_x0_6 hH h
    simp [alert_textOf_7] at h
  | succ N ih =>
    intro v24_0_x0_0 v24_0_x0_1 v24_0_x0_2 v24_0_x0_3 v24_0_x0_4 v24_0_x0_5 v24_0_x0_6 v24_0_x0_7 v24_0_x0_8 l93 sv24_0_x0_6 b36 s93 Fr M r hv24_0_x0_6 hH h
    rw [alert_textOf_7] at h
    refine Run.seq (Run.region ?_)
    refine Run.opG wantS_none (ex_lss rfl rfl) rfl ?_
    refine Run.opsEnd (Run.seq ?_)
    refine Run.condT' rfl rfl ?_
    refine Run.skip (Run.seq (Run.block (Run.seq (Run.region ?_))))
    refine Run.opG wantS_none (ex_idxA (j := 6) rfl rfl wha121 rfl (part_one agg120 rfl)) rfl ?_
    refine Run.opG wantS_none (ex_assign rfl) rfl ?_
    refine Run.opsEnd (Run.region ?_)
    refine Run.opG wantS_none (ex_move rfl) rfl ?_
    obtain ⟨r97, hr97, h⟩ := bnd_some h
    refine Run.callP wantS_none (ex_closure rfl rfl mkk93 cal93) rfl (alert_sheet_end_ok F (S_api_Alert.mk v24_0_x0_0 v24_0_x0_1 v24_0_x0_2 (S_api_Chance.mk v24_0_x0_3 v24_0_x0_4) v24_0_x0_5 v24_0_x0_6 v24_0_x0_7 v24_0_x0_8) sv24_0_x0_6 _ _ (hH.slcF hv24_0_x0_6) (fixH hH (List.mem_of_getElem? (i := 2) rfl) (List.mem_of_getElem? (i := 3) rfl) (List.mem_of_getElem? (i := 4) rfl)) hr97) ?_
    refine Run.enter wantS_none (ex_call rfl mkk94 cal94) Tryd.func94 rfl rfl ?_
    refine Run.seq (Run.region ?_)
    refine Run.opG wantS_none (ex_assign rfl) rfl ?_
    refine Run.opG wantS_none (ex_assign rfl) rfl ?_
    refine Run.opsEnd (Run.seq (Run.region ?_))
    refine Run.opG wantS_none (ex_move rfl) rfl ?_
    refine Run.enter wantS_none (ex_call rfl mkk102 cal102) Tryd.func102 rfl rfl ?_
    refine Run.seq (Run.region ?_)
    refine Run.opG wantS_none (ex_move rfl) rfl ?_
    refine Run.opG wantS_none (ex_nilP rfl) rfl ?_
    refine Run.opG wantS_none (ex_fieldAddr rfl off124_0) rfl ?_
    refine Run.opG wantS_none (ex_load1 rfl (hH.cells (i := 0) rfl 0 rfl) rdLe_rfl agg122) rfl ?_
    refine Run.opG wantS_none (ex_ptrPN rfl rfl eqk122) rfl ?_
    refine Run.opsEnd ?_
    refine Run.condF' rfl rfl ?_
    refine Run.seq (Run.region ?_)
    refine Run.opG wantS_none (ex_move rfl) rfl ?_
    refine Run.opG wantS_none (ex_nilP rfl) rfl ?_
    refine Run.opG wantS_none (ex_fieldAddr rfl off124_0) rfl ?_
    refine Run.opG wantS_none (ex_load1 rfl (hH.cells (i := 0) rfl 0 rfl) rdLe_rfl agg122) rfl ?_
    refine Run.opG wantS_none (ex_move rfl) rfl ?_
    refine Run.opG wantS_none (ex_ptrSamen rfl rfl pte122 inf124) rfl ?_
    refine Run.opsEnd ?_
    refine Run.condF' rfl rfl ?_
    refine Run.skip ?_
    refine Run.fallTo Tryd.func102 rfl res_nil rfl ?_
    refine Run.opsEnd (Run.seq (Run.region ?_))
    refine Run.opG wantS_none (ex_move rfl) rfl ?_
    refine Run.opG wantS_none (ex_move rfl) rfl ?_
    refine Run.opG wantS_none (ex_nilP rfl) rfl ?_
    refine Run.opG wantS_none (ex_fieldAddr rfl off124_1) rfl ?_
    refine Run.opG wantS_none (ex_load1 rfl (hH.cells (i := 0) rfl 1 rfl) rdLe_rfl agg108) rfl ?_
    refine Run.opG wantS_none (ex_move rfl) rfl ?_
    obtain ⟨l101, hl101, h⟩ := bnd_some h
    refine Run.opX wantS_none rfl (ExG.append rfl rfl hH (i := 1) rfl enc5_len rfl enc5_ones appt108_9 rfl (str_lenZ rfl _) (str_first (fun _ => rfl) _) hl101) ?_
    rintro s101 M103 (hH103 : Has Fr M103 [.obj b36 (.row 124 .whole [(.ptr b36 0), s93]), .vec 5 1 l101.length s101 (l101.flatMap enc5), tb0, tb1, tb2])
    refine Run.opG wantS_none (ex_nilP rfl) rfl ?_
    refine Run.opG wantS_none (ex_fieldAddr rfl off124_1) rfl ?_
    refine Run.opX wantS_none rfl (ExG.storeC (c' := [(.ptr b36 0), s101]) rfl rfl (cells_one (vec_one hH103 (i := 1) rfl)) hH103 (i := 0) rfl sz108 rfl rfl rfl (ones_cons (vec_one hH103 (i := 1) rfl) ones_nil) rfl) ?_
    rintro _ M104 ⟨rfl, (hH104 : Has Fr M104 [.obj b36 (.row 124 .whole [(.ptr b36 0), s101]), .vec 5 1 l101.length s101 (l101.flatMap enc5), tb0, tb1, tb2])⟩
    refine Run.opsEnd (Run.seq (Run.region ?_))
    refine Run.opG wantS_none (ex_move rfl) rfl ?_
    refine Run.opG wantS_none (ex_lenS rfl lenk9) rfl ?_
    refine Run.opG wantS_none (ex_assign rfl) rfl ?_
    refine Run.opG wantS_none (ex_assign rfl) rfl ?_
    refine Run.opsEnd ?_
    refine Run.retTo Tryd.func94 rfl (res_tmp rfl (res_tmp rfl res_nil)) rfl ?_
    refine Run.opsEnd (Run.inBlock (Run.region ?_))
    refine Run.opG wantS_none (ex_add rfl rfl) rfl ?_
    refine Run.opG wantS_none (ex_move rfl) rfl ?_
    refine Run.opsEnd (Run.inLoop ?_)
    exact Run.pick [5, 24, 25] (alert_textOf_8_ok F F v24_0_x0_0 v24_0_x0_1 v24_0_x0_2 v24_0_x0_3 v24_0_x0_4 v24_0_x0_5 v24_0_x0_6 v24_0_x0_7 v24_0_x0_8 l101 sv24_0_x0_6 b36 s101 _ _ _ hv24_0_x0_6 hH104 h)

def alert_textOf_6 (F : Nat) : Nat → (List UInt8) → Int → Int → Int → Int → Int → (List Int) → Bool → Int → (List Int) → Option ((List UInt8))
  | 0, _, _, _, _, _, _, _, _, _, _ => none
  | N + 1, v24_0_x0_0, v24_0_x0_1, v24_0_x0_2, v24_0_x0_3, v24_0_x0_4, v24_0_x0_5, v24_0_x0_6, v24_0_x0_7, v24_0_x0_8, l84 =>
    bnd (alert_sheet_before F (S_api_Alert.mk v24_0_x0_0 v24_0_x0_1 v24_0_x0_2 (S_api_Chance.mk v24_0_x0_3 v24_0_x0_4) v24_0_x0_5 v24_0_x0_6 v24_0_x0_7 v24_0_x0_8)) fun r88 =>
    bnd (apd 1 l84 (bytesI r88)) fun l92 =>
    alert_textOf_7 F F v24_0_x0_0 v24_0_x0_1 v24_0_x0_2 v24_0_x0_3 v24_0_x0_4 v24_0_x0_5 v24_0_x0_6 v24_0_x0_7 v24_0_x0_8 l92

theorem alert_textOf_6_ok (F : Nat) : ∀ (N : Nat), ∀ (v24_0_x0_0 : (List UInt8)) (v24_0_x0_1 v24_0_x0_2 v24_0_x0_3 v24_0_x0_4 v24_0_x0_5 : Int) (v24_0_x0_6 : (List Int)) (v24_0_x0_7 : Bool) (v24_0_x0_8 : Int) (l84 : (List Int)) (sv24_0_x0_6 : SV) (b36 : Pos) (s84 : SV) (Fr : Rd) (M : Mem) (r : (List UInt8)) (hv24_0_x0_6 : Slc Fr 1 (FlatR enc3) sv24_0_x0_6 v24_0_x0_6) (hH : Has Fr M [.obj b36 (.row 124 .whole [(.ptr b36 0), s84]), .vec 5 1 l84.length s84 (l84.flatMap enc5), tb0, tb1, tb2]), alert_textOf_6 F N v24_0_x0_0 v24_0_x0_1 v24_0_x0_2 v24_0_x0_3 v24_0_x0_4 v24_0_x0_5 v24_0_x0_6 v24_0_x0_7 v24_0_x0_8 l84 = some r → Run Tryd.prog ⟨⟨75, [], none⟩, []⟩ 33 (alert_textOf_post r) [(5, (.ptr b36 0)), (24, (.agg [(.fn (.func 87) [(.agg [(.str v24_0_x0_0), (.int .i64 v24_0_x0_1), (.int .i64 v24_0_x0_2), (.int .i64 v24_0_x0_3), (.int .i64 v24_0_x0_4), (.int .i64 v24_0_x0_5), sv24_0_x0_6, (.bool v24_0_x0_7), (.int .i64 v24_0_x0_8)])] []), (.fn (.func 88) [(.agg [(.str v24_0_x0_0), (.int .i64 v24_0_x0_1), (.int .i64 v24_0_x0_2), (.int .i64 v24_0_x0_3), (.int .i64 v24_0_x0_4), (.int .i64 v24_0_x0_5), sv24_0_x0_6, (.bool v24_0_x0_7), (.int .i64 v24_0_x0_8)])] []), (.fn (.func 89) [(.agg [(.str v24_0_x0_0), (.int .i64 v24_0_x0_1), (.int .i64 v24_0_x0_2), (.int .i64 v24_0_x0_3), (.int .i64 v24_0_x0_4), (.int .i64 v24_0_x0_5), sv24_0_x0_6, (.bool v24_0_x0_7), (.int .i64 v24_0_x0_8)])] []), (.fn (.func 90) [(.agg [(.str v24_0_x0_0), (.int .i64 v24_0_x0_1), (.int .i64 v24_0_x0_2), (.int .i64 v24_0_x0_3), (.int .i64 v24_0_x0_4), (.int .i64 v24_0_x0_5), sv24_0_x0_6, (.bool v24_0_x0_7), (.int .i64 v24_0_x0_8)])] []), (.fn (.func 91) [(.agg [(.str v24_0_x0_0), (.int .i64 v24_0_x0_1), (.int .i64 v24_0_x0_2), (.int .i64 v24_0_x0_3), (.int .i64 v24_0_x0_4), (.int .i64 v24_0_x0_5), sv24_0_x0_6, (.bool v24_0_x0_7), (.int .i64 v24_0_x0_8)])] []), (.fn (.func 92) [(.agg [(.str v24_0_x0_0), (.int .i64 v24_0_x0_1), (.int .i64 v24_0_x0_2), (.int .i64 v24_0_x0_3), (.int .i64 v24_0_x0_4), (.int .i64 v24_0_x0_5), sv24_0_x0_6, (.bool v24_0_x0_7), (.int .i64 v24_0_x0_8)])] []), (.fn (.func 93) [(.agg [(.str v24_0_x0_0), (.int .i64 v24_0_x0_1), (.int .i64 v24_0_x0_2), (.int .i64 v24_0_x0_3), (.int .i64 v24_0_x0_4), (.int .i64 v24_0_x0_5), sv24_0_x0_6, (.bool v24_0_x0_7), (.int .i64 v24_0_x0_8)])] [])])), (25, (.int .i64 5))] [codeC Tryd.prog 75 [1, 1, 1, 1, 0, 1, 0, 0], loopC Tryd.prog 75 [1, 1, 1, 1, 0, 1, 0, 0], .inBlock 0, codeC Tryd.prog 75 [1, 1, 1, 1, 1]] M := by
  intro N
  induction N with
  | zero =>
    intro v24_0_x0_0 v24_0_x0_1 v24_0_x0_2 v24_0_x0_3 v24_0_x0_4 v24_0_x0_5 v24_0_x0_6 v24_0_x0_7 v24_0_x0_8 l84 sv24_0_x0_6 b36 s84 Fr M r hv24_0_x0_6 hH h
    simp [alert_textOf_6] at h
  | succ N ih =>
    intro v24_0_x0_0 v24_0_x0_1 v24_0_x0_2 v24_0_x0_3 v24_0_x0_4 v24_0_x0_5 v24_0_x0_6 v24_0_x0_7 v24_0_x0_8 l84 sv24_0_x0_6 b36 s84 Fr M r hv24_0_x0_6 hH h
    rw [alert_textOf_6] at h
    refine Run.seq (Run.region ?_)
    refine Run.opG wantS_none (ex_lss rfl rfl) rfl ?_
    refine Run.opsEnd (Run.seq ?_)
    refine Run.condT' rfl rfl ?_
    refine Run.skip (Run.seq (Run.block (Run.seq (Run.region ?_))))
    refine Run.opG wantS_none (ex_idxA (j := 5) rfl rfl wha121 rfl (part_one agg120 rfl)) rfl ?_
    refine Run.opG wantS_none (ex_assign rfl) rfl ?_
    refine Run.opsEnd (Run.region ?_)
    refine Run.opG wantS_none (ex_move rfl) rfl ?_
    obtain ⟨r88, hr88, h⟩ := bnd_some h
    refine Run.callP wantS_none (ex_closure rfl rfl mkk92 cal92) rfl (alert_sheet_before_ok F (S_api_Alert.mk v24_0_x0_0 v24_0_x0_1 v24_0_x0_2 (S_api_Chance.mk v24_0_x0_3 v24_0_x0_4) v24_0_x0_5 v24_0_x0_6 v24_0_x0_7 v24_0_x0_8) sv24_0_x0_6 _ _ (hH.slcF hv24_0_x0_6) (fixH hH (List.mem_of_getElem? (i := 2) rfl) (List.mem_of_getElem? (i := 3) rfl) (List.mem_of_getElem? (i := 4) rfl)) hr88) ?_
    refine Run.enter wantS_none (ex_call rfl mkk94 cal94) Tryd.func94 rfl rfl ?_
    refine Run.seq (Run.region ?_)
    refine Run.opG wantS_none (ex_assign rfl) rfl ?_
    refine Run.opG wantS_none (ex_assign rfl) rfl ?_
    refine Run.opsEnd (Run.seq (Run.region ?_))
    refine Run.opG wantS_none (ex_move rfl) rfl ?_
    refine Run.enter wantS_none (ex_call rfl mkk102 cal102) Tryd.func102 rfl rfl ?_
    refine Run.seq (Run.region ?_)
    refine Run.opG wantS_none (ex_move rfl) rfl ?_
    refine Run.opG wantS_none (ex_nilP rfl) rfl ?_
    refine Run.opG wantS_none (ex_fieldAddr rfl off124_0) rfl ?_
    refine Run.opG wantS_none (ex_load1 rfl (hH.cells (i := 0) rfl 0 rfl) rdLe_rfl agg122) rfl ?_
    refine Run.opG wantS_none (ex_ptrPN rfl rfl eqk122) rfl ?_
    refine Run.opsEnd ?_
    refine Run.condF' rfl rfl ?_
    refine Run.seq (Run.region ?_)
    refine Run.opG wantS_none (ex_move rfl) rfl ?_
    refine Run.opG wantS_none (ex_nilP rfl) rfl ?_
    refine Run.opG wantS_none (ex_fieldAddr rfl off124_0) rfl ?_
    refine Run.opG wantS_none (ex_load1 rfl (hH.cells (i := 0) rfl 0 rfl) rdLe_rfl agg122) rfl ?_
    refine Run.opG wantS_none (ex_move rfl) rfl ?_
    refine Run.opG wantS_none (ex_ptrSamen rfl rfl pte122 inf124) rfl ?_
    refine Run.opsEnd ?_
    refine Run.condF' rfl rfl ?_
    refine Run.skip ?_
    refine Run.fallTo Tryd.func102 rfl res_nil rfl ?_
    refine Run.opsEnd (Run.seq (Run.region ?_))
    refine Run.opG wantS_none (ex_move rfl) rfl ?_
    refine Run.opG wantS_none (ex_move rfl) rfl ?_
    refine Run.opG wantS_none (ex_nilP rfl) rfl ?_
    refine Run.opG wantS_none (ex_fieldAddr rfl off124_1) rfl ?_
    refine Run.opG wantS_none (ex_load1 rfl (hH.cells (i := 0) rfl 1 rfl) rdLe_rfl agg108) rfl ?_
    refine Run.opG wantS_none (ex_move rfl) rfl ?_
    obtain ⟨l92, hl92, h⟩ := bnd_some h
    refine Run.opX wantS_none rfl (ExG.append rfl rfl hH (i := 1) rfl enc5_len rfl enc5_ones appt108_9 rfl (str_lenZ rfl _) (str_first (fun _ => rfl) _) hl92) ?_
    rintro s92 M94 (hH94 : Has Fr M94 [.obj b36 (.row 124 .whole [(.ptr b36 0), s84]), .vec 5 1 l92.length s92 (l92.flatMap enc5), tb0, tb1, tb2])
    refine Run.opG wantS_none (ex_nilP rfl) rfl ?_
    refine Run.opG wantS_none (ex_fieldAddr rfl off124_1) rfl ?_
    refine Run.opX wantS_none rfl (ExG.storeC (c' := [(.ptr b36 0), s92]) rfl rfl (cells_one (vec_one hH94 (i := 1) rfl)) hH94 (i := 0) rfl sz108 rfl rfl rfl (ones_cons (vec_one hH94 (i := 1) rfl) ones_nil) rfl) ?_
    rintro _ M95 ⟨rfl, (hH95 : Has Fr M95 [.obj b36 (.row 124 .whole [(.ptr b36 0), s92]), .vec 5 1 l92.length s92 (l92.flatMap enc5), tb0, tb1, tb2])⟩
    refine Run.opsEnd (Run.seq (Run.region ?_))
    refine Run.opG wantS_none (ex_move rfl) rfl ?_
    refine Run.opG wantS_none (ex_lenS rfl lenk9) rfl ?_
    refine Run.opG wantS_none (ex_assign rfl) rfl ?_
    refine Run.opG wantS_none (ex_assign rfl) rfl ?_
    refine Run.opsEnd ?_
    refine Run.retTo Tryd.func94 rfl (res_tmp rfl (res_tmp rfl res_nil)) rfl ?_
    refine Run.opsEnd (Run.inBlock (Run.region ?_))
    refine Run.opG wantS_none (ex_add rfl rfl) rfl ?_
    refine Run.opG wantS_none (ex_move rfl) rfl ?_
    refine Run.opsEnd (Run.inLoop ?_)
    exact Run.pick [5, 24, 25] (alert_textOf_7_ok F F v24_0_x0_0 v24_0_x0_1 v24_0_x0_2 v24_0_x0_3 v24_0_x0_4 v24_0_x0_5 v24_0_x0_6 v24_0_x0_7 v24_0_x0_8 l92 sv24_0_x0_6 b36 s92 _ _ _ hv24_0_x0_6 hH95 h)

def alert_textOf_5 (F : Nat) : Nat → (List UInt8) → Int → Int → Int → Int → Int → (List Int) → Bool → Int → (List Int) → Option ((List UInt8))
  | 0, _, _, _, _, _, _, _, _, _, _ => none
  | N + 1, v24_0_x0_0, v24_0_x0_1, v24_0_x0_2, v24_0_x0_3, v24_0_x0_4, v24_0_x0_5, v24_0_x0_6, v24_0_x0_7, v24_0_x0_8, l75 =>
    bnd (alert_sheet_where F (S_api_Alert.mk v24_0_x0_0 v24_0_x0_1 v24_0_x0_2 (S_api_Chance.mk v24_0_x0_3 v24_0_x0_4) v24_0_x0_5 v24_0_x0_6 v24_0_x0_7 v24_0_x0_8)) fun r79 =>
    bnd (apd 1 l75 (bytesI r79)) fun l83 =>
    alert_textOf_6 F F v24_0_x0_0 v24_0_x0_1 v24_0_x0_2 v24_0_x0_3 v24_0_x0_4 v24_0_x0_5 v24_0_x0_6 v24_0_x0_7 v24_0_x0_8 l83

theorem alert_textOf_5_ok (F : Nat) : ∀ (N : Nat), ∀ (v24_0_x0_0 : (List UInt8)) (v24_0_x0_1 v24_0_x0_2 v24_0_x0_3 v24_0_x0_4 v24_0_x0_5 : Int) (v24_0_x0_6 : (List Int)) (v24_0_x0_7 : Bool) (v24_0_x0_8 : Int) (l75 : (List Int)) (sv24_0_x0_6 : SV) (b36 : Pos) (s75 : SV) (Fr : Rd) (M : Mem) (r : (List UInt8)) (hv24_0_x0_6 : Slc Fr 1 (FlatR enc3) sv24_0_x0_6 v24_0_x0_6) (hH : Has Fr M [.obj b36 (.row 124 .whole [(.ptr b36 0), s75]), .vec 5 1 l75.length s75 (l75.flatMap enc5), tb0, tb1, tb2]), alert_textOf_5 F N v24_0_x0_0 v24_0_x0_1 v24_0_x0_2 v24_0_x0_3 v24_0_x0_4 v24_0_x0_5 v24_0_x0_6 v24_0_x0_7 v24_0_x0_8 l75 = some r → Run Tryd.prog ⟨⟨75, [], none⟩, []⟩ 33 (alert_textOf_post r) [(5, (.ptr b36 0)), (24, (.agg [(.fn (.func 87) [(.agg [(.str v24_0_x0_0), (.int .i64 v24_0_x0_1), (.int .i64 v24_0_x0_2), (.int .i64 v24_0_x0_3), (.int .i64 v24_0_x0_4), (.int .i64 v24_0_x0_5), sv24_0_x0_6, (.bool v24_0_x0_7), (.int .i64 v24_0_x0_8)])] []), (.fn (.func 88) [(.agg [(.str v24_0_x0_0), (.int .i64 v24_0_x0_1), (.int .i64 v24_0_x0_2), (.int .i64 v24_0_x0_3), (.int .i64 v24_0_x0_4), (.int .i64 v24_0_x0_5), sv24_0_x0_6, (.bool v24_0_x0_7), (.int .i64 v24_0_x0_8)])] []), (.fn (.func 89) [(.agg [(.str v24_0_x0_0), (.int .i64 v24_0_x0_1), (.int .i64 v24_0_x0_2), (.int .i64 v24_0_x0_3), (.int .i64 v24_0_x0_4), (.int .i64 v24_0_x0_5), sv24_0_x0_6, (.bool v24_0_x0_7), (.int .i64 v24_0_x0_8)])] []), (.fn (.func 90) [(.agg [(.str v24_0_x0_0), (.int .i64 v24_0_x0_1), (.int .i64 v24_0_x0_2), (.int .i64 v24_0_x0_3), (.int .i64 v24_0_x0_4), (.int .i64 v24_0_x0_5), sv24_0_x0_6, (.bool v24_0_x0_7), (.int .i64 v24_0_x0_8)])] []), (.fn (.func 91) [(.agg [(.str v24_0_x0_0), (.int .i64 v24_0_x0_1), (.int .i64 v24_0_x0_2), (.int .i64 v24_0_x0_3), (.int .i64 v24_0_x0_4), (.int .i64 v24_0_x0_5), sv24_0_x0_6, (.bool v24_0_x0_7), (.int .i64 v24_0_x0_8)])] []), (.fn (.func 92) [(.agg [(.str v24_0_x0_0), (.int .i64 v24_0_x0_1), (.int .i64 v24_0_x0_2), (.int .i64 v24_0_x0_3), (.int .i64 v24_0_x0_4), (.int .i64 v24_0_x0_5), sv24_0_x0_6, (.bool v24_0_x0_7), (.int .i64 v24_0_x0_8)])] []), (.fn (.func 93) [(.agg [(.str v24_0_x0_0), (.int .i64 v24_0_x0_1), (.int .i64 v24_0_x0_2), (.int .i64 v24_0_x0_3), (.int .i64 v24_0_x0_4), (.int .i64 v24_0_x0_5), sv24_0_x0_6, (.bool v24_0_x0_7), (.int .i64 v24_0_x0_8)])] [])])), (25, (.int .i64 4))] [codeC Tryd.prog 75 [1, 1, 1, 1, 0, 1, 0, 0], loopC Tryd.prog 75 [1, 1, 1, 1, 0, 1, 0, 0], .inBlock 0, codeC Tryd.prog 75 [1, 1, 1, 1, 1]] M := by
  intro N
  induction N with
  | zero =>
    intro v24_0_x0_0 v24_0_x0_1 v24_0_x0_2 v24_0_x0_3 v24_0_x0_4 v24_0_x0_5 v24_0_x0_6 v24_0_x0_7 v24_0_x0_8 l75 sv24_0_x0_6 b36 s75 Fr M r hv24_0_x0_6 hH h
    simp [alert_textOf_5] at h
  | succ N ih =>
    intro v24_0_x0_0 v24_0_x0_1 v24_0_x0_2 v24_0_x0_3 v24_0_x0_4 v24_0_x0_5 v24_0_x0_6 v24_0_x0_7 v24_0_x0_8 l75 sv24_0_x0_6 b36 s75 Fr M r hv24_0_x0_6 hH h
    rw [alert_textOf_5] at h
    refine Run.seq (Run.region ?_)
    refine Run.opG wantS_none (ex_lss rfl rfl) rfl ?_
    refine Run.opsEnd (Run.seq ?_)
    refine Run.condT' rfl rfl ?_
    refine Run.skip (Run.seq (Run.block (Run.seq (Run.region ?_))))
    refine Run.opG wantS_none (ex_idxA (j := 4) rfl rfl wha121 rfl (part_one agg120 rfl)) rfl ?_
    refine Run.opG wantS_none (ex_assign rfl) rfl ?_
    refine Run.opsEnd (Run.region ?_)
    refine Run.opG wantS_none (ex_move rfl) rfl ?_
    obtain ⟨r79, hr79, h⟩ := bnd_some h
    refine Run.callP wantS_none (ex_closure rfl rfl mkk91 cal91) rfl (alert_sheet_where_ok F (S_api_Alert.mk v24_0_x0_0 v24_0_x0_1 v24_0_x0_2 (S_api_Chance.mk v24_0_x0_3 v24_0_x0_4) v24_0_x0_5 v24_0_x0_6 v24_0_x0_7 v24_0_x0_8) sv24_0_x0_6 _ _ (hH.slcF hv24_0_x0_6) (fixH hH (List.mem_of_getElem? (i := 2) rfl) (List.mem_of_getElem? (i := 3) rfl) (List.mem_of_getElem? (i := 4) rfl)) hr79) ?_
    refine Run.enter wantS_none (ex_call rfl mkk94 cal94) Tryd.func94 rfl rfl ?_
    refine Run.seq (Run.region ?_)
    refine Run.opG wantS_none (ex_assign rfl) rfl ?_
    refine Run.opG wantS_none (ex_assign rfl) rfl ?_
    refine Run.opsEnd (Run.seq (Run.region ?_))
    refine Run.opG wantS_none (ex_move rfl) rfl ?_
    refine Run.enter wantS_none (ex_call rfl mkk102 cal102) Tryd.func102 rfl rfl ?_
    refine Run.seq (Run.region ?_)
    refine Run.opG wantS_none (ex_move rfl) rfl ?_
    refine Run.opG wantS_none (ex_nilP rfl) rfl ?_
    refine Run.opG wantS_none (ex_fieldAddr rfl off124_0) rfl ?_
    refine Run.opG wantS_none (ex_load1 rfl (hH.cells (i := 0) rfl 0 rfl) rdLe_rfl agg122) rfl ?_
    refine Run.opG wantS_none (ex_ptrPN rfl rfl eqk122) rfl ?_
    refine Run.opsEnd ?_
    refine Run.condF' rfl rfl ?_
    refine Run.seq (Run.region ?_)
    refine Run.opG wantS_none (ex_move rfl) rfl ?_
    refine Run.opG wantS_none (ex_nilP rfl) rfl ?_
    refine Run.opG wantS_none (ex_fieldAddr rfl off124_0) rfl ?_
    refine Run.opG wantS_none (ex_load1 rfl (hH.cells (i := 0) rfl 0 rfl) rdLe_rfl agg122) rfl ?_
    refine Run.opG wantS_none (ex_move rfl) rfl ?_
    refine Run.opG wantS_none (ex_ptrSamen rfl rfl pte122 inf124) rfl ?_
    refine Run.opsEnd ?_
    refine Run.condF' rfl rfl ?_
    refine Run.skip ?_
    refine Run.fallTo Tryd.func102 rfl res_nil rfl ?_
    refine Run.opsEnd (Run.seq (Run.region ?_))
    refine Run.opG wantS_none (ex_move rfl) rfl ?_
    refine Run.opG wantS_none (ex_move rfl) rfl ?_
    refine Run.opG wantS_none (ex_nilP rfl) rfl ?_
    refine Run.opG wantS_none (ex_fieldAddr rfl off124_1) rfl ?_
    refine Run.opG wantS_none (ex_load1 rfl (hH.cells (i := 0) rfl 1 rfl) rdLe_rfl agg108) rfl ?_
    refine Run.opG wantS_none (ex_move rfl) rfl ?_
    obtain ⟨l83, hl83, h⟩ := bnd_some h
    refine Run.opX wantS_none rfl (ExG.append rfl rfl hH (i := 1) rfl enc5_len rfl enc5_ones appt108_9 rfl (str_lenZ rfl _) (str_first (fun _ => rfl) _) hl83) ?_
    rintro s83 M85 (hH85 : Has Fr M85 [.obj b36 (.row 124 .whole [(.ptr b36 0), s75]), .vec 5 1 l83.length s83 (l83.flatMap enc5), tb0, tb1, tb2])
    refine Run.opG wantS_none (ex_nilP rfl) rfl ?_
    refine Run.opG wantS_none (ex_fieldAddr rfl off124_1) rfl ?_
    refine Run.opX wantS_none rfl (ExG.storeC (c' := [(.ptr b36 0), s83]) rfl rfl (cells_one (vec_one hH85 (i := 1) rfl)) hH85 (i := 0) rfl sz108 rfl rfl rfl (ones_cons (vec_one hH85 (i := 1) rfl) ones_nil) rfl) ?_
    rintro _ M86 ⟨rfl, (hH86 : Has Fr M86 [.obj b36 (.row 124 .whole [(.ptr b36 0), s83]), .vec 5 1 l83.length s83 (l83.flatMap enc5), tb0, tb1, tb2])⟩
    refine Run.opsEnd (Run.seq (Run.region ?_))
    refine Run.opG wantS_none (ex_move rfl) rfl ?_
    refine Run.opG wantS_none (ex_lenS rfl lenk9) rfl ?_
    refine Run.opG wantS_none (ex_assign rfl) rfl ?_
    refine Run.opG wantS_none (ex_assign rfl) rfl ?_
    refine Run.opsEnd ?_
    refine Run.retTo Tryd.func94 rfl (res_tmp rfl (res_tmp rfl res_nil)) rfl ?_
    refine Run.opsEnd (Run.inBlock (Run.region ?_))
    refine Run.opG wantS_none (ex_add rfl rfl) rfl ?_
    refine Run.opG wantS_none (ex_move rfl) rfl ?_
    refine Run.opsEnd (Run.inLoop ?_)
    exact Run.pick [5, 24, 25] (alert_textOf_6_ok F F v24_0_x0_0 v24_0_x0_1 v24_0_x0_2 v24_0_x0_3 v24_0_x0_4 v24_0_x0_5 v24_0_x0_6 v24_0_x0_7 v24_0_x0_8 l83 sv24_0_x0_6 b36 s83 _ _ _ hv24_0_x0_6 hH86 h)

def alert_textOf_4 (F : Nat) : Nat → (List UInt8) → Int → Int → Int → Int → Int → (List Int) → Bool → Int → (List Int) → Option ((List UInt8))
  | 0, _, _, _, _, _, _, _, _, _, _ => none
  | N + 1, v24_0_x0_0, v24_0_x0_1, v24_0_x0_2, v24_0_x0_3, v24_0_x0_4, v24_0_x0_5, v24_0_x0_6, v24_0_x0_7, v24_0_x0_8, l66 =>
    bnd (alert_sheet_grid F (S_api_Alert.mk v24_0_x0_0 v24_0_x0_1 v24_0_x0_2 (S_api_Chance.mk v24_0_x0_3 v24_0_x0_4) v24_0_x0_5 v24_0_x0_6 v24_0_x0_7 v24_0_x0_8)) fun r70 =>
    bnd (apd 1 l66 (bytesI r70)) fun l74 =>
    alert_textOf_5 F F v24_0_x0_0 v24_0_x0_1 v24_0_x0_2 v24_0_x0_3 v24_0_x0_4 v24_0_x0_5 v24_0_x0_6 v24_0_x0_7 v24_0_x0_8 l74

theorem alert_textOf_4_ok (F : Nat) : ∀ (N : Nat), ∀ (v24_0_x0_0 : (List UInt8)) (v24_0_x0_1 v24_0_x0_2 v24_0_x0_3 v24_0_x0_4 v24_0_x0_5 : Int) (v24_0_x0_6 : (List Int)) (v24_0_x0_7 : Bool) (v24_0_x0_8 : Int) (l66 : (List Int)) (sv24_0_x0_6 : SV) (b36 : Pos) (s66 : SV) (Fr : Rd) (M : Mem) (r : (List UInt8)) (hv24_0_x0_6 : Slc Fr 1 (FlatR enc3) sv24_0_x0_6 v24_0_x0_6) (hH : Has Fr M [.obj b36 (.row 124 .whole [(.ptr b36 0), s66]), .vec 5 1 l66.length s66 (l66.flatMap enc5), tb0, tb1, tb2]), alert_textOf_4 F N v24_0_x0_0 v24_0_x0_1 v24_0_x0_2 v24_0_x0_3 v24_0_x0_4 v24_0_x0_5 v24_0_x0_6 v24_0_x0_7 v24_0_x0_8 l66 = some r → Run Tryd.prog ⟨⟨75, [], none⟩, []⟩ 33 (alert_textOf_post r) [(5, (.ptr b36 0)), (24, (.agg [(.fn (.func 87) [(.agg [(.str v24_0_x0_0), (.int .i64 v24_0_x0_1), (.int .i64 v24_0_x0_2), (.int .i64 v24_0_x0_3), (.int .i64 v24_0_x0_4), (.int .i64 v24_0_x0_5), sv24_0_x0_6, (.bool v24_0_x0_7), (.int .i64 v24_0_x0_8)])] []), (.fn (.func 88) [(.agg [(.str v24_0_x0_0), (.int .i64 v24_0_x0_1), (.int .i64 v24_0_x0_2), (.int .i64 v24_0_x0_3), (.int .i64 v24_0_x0_4), (.int .i64 v24_0_x0_5), sv24_0_x0_6, (.bool v24_0_x0_7), (.int .i64 v24_0_x0_8)])] []), (.fn (.func 89) [(.agg [(.str v24_0_x0_0), (.int .i64 v24_0_x0_1), (.int .i64 v24_0_x0_2), (.int .i64 v24_0_x0_3), (.int .i64 v24_0_x0_4), (.int .i64 v24_0_x0_5), sv24_0_x0_6, (.bool v24_0_x0_7), (.int .i64 v24_0_x0_8)])] []), (.fn (.func 90) [(.agg [(.str v24_0_x0_0), (.int .i64 v24_0_x0_1), (.int .i64 v24_0_x0_2), (.int .i64 v24_0_x0_3), (.int .i64 v24_0_x0_4), (.int .i64 v24_0_x0_5), sv24_0_x0_6, (.bool v24_0_x0_7), (.int .i64 v24_0_x0_8)])] []), (.fn (.func 91) [(.agg [(.str v24_0_x0_0), (.int .i64 v24_0_x0_1), (.int .i64 v24_0_x0_2), (.int .i64 v24_0_x0_3), (.int .i64 v24_0_x0_4), (.int .i64 v24_0_x0_5), sv24_0_x0_6, (.bool v24_0_x0_7), (.int .i64 v24_0_x0_8)])] []), (.fn (.func 92) [(.agg [(.str v24_0_x0_0), (.int .i64 v24_0_x0_1), (.int .i64 v24_0_x0_2), (.int .i64 v24_0_x0_3), (.int .i64 v24_0_x0_4), (.int .i64 v24_0_x0_5), sv24_0_x0_6, (.bool v24_0_x0_7), (.int .i64 v24_0_x0_8)])] []), (.fn (.func 93) [(.agg [(.str v24_0_x0_0), (.int .i64 v24_0_x0_1), (.int .i64 v24_0_x0_2), (.int .i64 v24_0_x0_3), (.int .i64 v24_0_x0_4), (.int .i64 v24_0_x0_5), sv24_0_x0_6, (.bool v24_0_x0_7), (.int .i64 v24_0_x0_8)])] [])])), (25, (.int .i64 3))] [codeC Tryd.prog 75 [1, 1, 1, 1, 0, 1, 0, 0], loopC Tryd.prog 75 [1, 1, 1, 1, 0, 1, 0, 0], .inBlock 0, codeC Tryd.prog 75 [1, 1, 1, 1, 1]] M := by
  intro N
  induction N with
  | zero =>
    intro v24_0_x0_0 v24_0_x0_1 v24_0_x0_2 v24_0_x0_3 v24_0_x0_4 v24_0_x0_5 v24_0_x0_6 v24_0_x0_7 v24_0_x0_8 l66 sv24_0_x0_6 b36 s66 Fr M r hv24_0_x0_6 hH h
    simp [alert_textOf_4] at h
  | succ N ih =>
    intro v24_0_x0_0 v24_0_x0_1 v24_0_x0_2 v24_0_x0_3 v24_0_x0_4 v24_0_x0_5 v24_0_x0_6 v24_0_x0_7 v24_0_x0_8 l66 sv24_0_x0_6 b36 s66 Fr M r hv24_0_x0_6 hH h
    rw [alert_textOf_4] at h
    refine Run.seq (Run.region ?_)
    refine Run.opG wantS_none (ex_lss rfl rfl) rfl ?_
    refine Run.opsEnd (Run.seq ?_)
    refine Run.condT' rfl rfl ?_
    refine Run.skip (Run.seq (Run.block (Run.seq (Run.region ?_))))
    refine Run.opG wantS_none (ex_idxA (j := 3) rfl rfl wha121 rfl (part_one agg120 rfl)) rfl ?_
    refine Run.opG wantS_none (ex_assign rfl) rfl ?_
    refine Run.opsEnd (Run.region ?_)
    refine Run.opG wantS_none (ex_move rfl) rfl ?_
    obtain ⟨r70, hr70, h⟩ := bnd_some h
    refine Run.callP wantS_none (ex_closure rfl rfl mkk90 cal90) rfl (alert_sheet_grid_ok F (S_api_Alert.mk v24_0_x0_0 v24_0_x0_1 v24_0_x0_2 (S_api_Chance.mk v24_0_x0_3 v24_0_x0_4) v24_0_x0_5 v24_0_x0_6 v24_0_x0_7 v24_0_x0_8) sv24_0_x0_6 _ _ (hH.slcF hv24_0_x0_6) (fixH hH (List.mem_of_getElem? (i := 2) rfl) (List.mem_of_getElem? (i := 3) rfl) (List.mem_of_getElem? (i := 4) rfl)) hr70) ?_
    refine Run.enter wantS_none (ex_call rfl mkk94 cal94) Tryd.func94 rfl rfl ?_
    refine Run.seq (Run.region ?_)
    refine Run.opG wantS_none (ex_assign rfl) rfl ?_
    refine Run.opG wantS_none (ex_assign rfl) rfl ?_
    refine Run.opsEnd (Run.seq (Run.region ?_))
    refine Run.opG wantS_none (ex_move rfl) rfl ?_
    refine Run.enter wantS_none (ex_call rfl mkk102 cal102) Tryd.func102 rfl rfl ?_
    refine Run.seq (Run.region ?_)
    refine Run.opG wantS_none (ex_move rfl) rfl ?_
    refine Run.opG wantS_none (ex_nilP rfl) rfl ?_
    refine Run.opG wantS_none (ex_fieldAddr rfl off124_0) rfl ?_
    refine Run.opG wantS_none (ex_load1 rfl (hH.cells (i := 0) rfl 0 rfl) rdLe_rfl agg122) rfl ?_
    refine Run.opG wantS_none (ex_ptrPN rfl rfl eqk122) rfl ?_
    refine Run.opsEnd ?_
    refine Run.condF' rfl rfl ?_
    refine Run.seq (Run.region ?_)
    refine Run.opG wantS_none (ex_move rfl) rfl ?_
    refine Run.opG wantS_none (ex_nilP rfl) rfl ?_
    refine Run.opG wantS_none (ex_fieldAddr rfl off124_0) rfl ?_
    refine Run.opG wantS_none (ex_load1 rfl (hH.cells (i := 0) rfl 0 rfl) rdLe_rfl agg122) rfl ?_
    refine Run.opG wantS_none (ex_move rfl) rfl ?_
    refine Run.opG wantS_none (ex_ptrSamen rfl rfl pte122 inf124) rfl ?_
    refine Run.opsEnd ?_
    refine Run.condF' rfl rfl ?_
    refine Run.skip ?_
    refine Run.fallTo Tryd.func102 rfl res_nil rfl ?_
    refine Run.opsEnd (Run.seq (Run.region ?_))
    refine Run.opG wantS_none (ex_move rfl) rfl ?_
    refine Run.opG wantS_none (ex_move rfl) rfl ?_
    refine Run.opG wantS_none (ex_nilP rfl) rfl ?_
    refine Run.opG wantS_none (ex_fieldAddr rfl off124_1) rfl ?_
    refine Run.opG wantS_none (ex_load1 rfl (hH.cells (i := 0) rfl 1 rfl) rdLe_rfl agg108) rfl ?_
    refine Run.opG wantS_none (ex_move rfl) rfl ?_
    obtain ⟨l74, hl74, h⟩ := bnd_some h
    refine Run.opX wantS_none rfl (ExG.append rfl rfl hH (i := 1) rfl enc5_len rfl enc5_ones appt108_9 rfl (str_lenZ rfl _) (str_first (fun _ => rfl) _) hl74) ?_
    rintro s74 M76 (hH76 : Has Fr M76 [.obj b36 (.row 124 .whole [(.ptr b36 0), s66]), .vec 5 1 l74.length s74 (l74.flatMap enc5), tb0, tb1, tb2])
    refine Run.opG wantS_none (ex_nilP rfl) rfl ?_
    refine Run.opG wantS_none (ex_fieldAddr rfl off124_1) rfl ?_
    refine Run.opX wantS_none rfl (ExG.storeC (c' := [(.ptr b36 0), s74]) rfl rfl (cells_one (vec_one hH76 (i := 1) rfl)) hH76 (i := 0) rfl sz108 rfl rfl rfl (ones_cons (vec_one hH76 (i := 1) rfl) ones_nil) rfl) ?_
    rintro _ M77 ⟨rfl, (hH77 : Has Fr M77 [.obj b36 (.row 124 .whole [(.ptr b36 0), s74]), .vec 5 1 l74.length s74 (l74.flatMap enc5), tb0, tb1, tb2])⟩
    refine Run.opsEnd (Run.seq (Run.region ?_))
    refine Run.opG wantS_none (ex_move rfl) rfl ?_
    refine Run.opG wantS_none (ex_lenS rfl lenk9) rfl ?_
    refine Run.opG wantS_none (ex_assign rfl) rfl ?_
    refine Run.opG wantS_none (ex_assign rfl) rfl ?_
    refine Run.opsEnd ?_
    refine Run.retTo Tryd.func94 rfl (res_tmp rfl (res_tmp rfl res_nil)) rfl ?_
    refine Run.opsEnd (Run.inBlock (Run.region ?_))
    refine Run.opG wantS_none (ex_add rfl rfl) rfl ?_
    refine Run.opG wantS_none (ex_move rfl) rfl ?_
    refine Run.opsEnd (Run.inLoop ?_)
    exact Run.pick [5, 24, 25] (alert_textOf_5_ok F F v24_0_x0_0 v24_0_x0_1 v24_0_x0_2 v24_0_x0_3 v24_0_x0_4 v24_0_x0_5 v24_0_x0_6 v24_0_x0_7 v24_0_x0_8 l74 sv24_0_x0_6 b36 s74 _ _ _ hv24_0_x0_6 hH77 h)

def alert_textOf_3 (F : Nat) : Nat → (List UInt8) → Int → Int → Int → Int → Int → (List Int) → Bool → Int → (List Int) → Option ((List UInt8))
  | 0, _, _, _, _, _, _, _, _, _, _ => none
  | N + 1, v24_0_x0_0, v24_0_x0_1, v24_0_x0_2, v24_0_x0_3, v24_0_x0_4, v24_0_x0_5, v24_0_x0_6, v24_0_x0_7, v24_0_x0_8, l57 =>
    bnd (alert_sheet_chance F (S_api_Alert.mk v24_0_x0_0 v24_0_x0_1 v24_0_x0_2 (S_api_Chance.mk v24_0_x0_3 v24_0_x0_4) v24_0_x0_5 v24_0_x0_6 v24_0_x0_7 v24_0_x0_8)) fun r61 =>
    bnd (apd 1 l57 (bytesI r61)) fun l65 =>
    alert_textOf_4 F F v24_0_x0_0 v24_0_x0_1 v24_0_x0_2 v24_0_x0_3 v24_0_x0_4 v24_0_x0_5 v24_0_x0_6 v24_0_x0_7 v24_0_x0_8 l65

theorem alert_textOf_3_ok (F : Nat) : ∀ (N : Nat), ∀ (v24_0_x0_0 : (List UInt8)) (v24_0_x0_1 v24_0_x0_2 v24_0_x0_3 v24_0_x0_4 v24_0_x0_5 : Int) (v24_0_x0_6 : (List Int)) (v24_0_x0_7 : Bool) (v24_0_x0_8 : Int) (l57 : (List Int)) (sv24_0_x0_6 : SV) (b36 : Pos) (s57 : SV) (Fr : Rd) (M : Mem) (r : (List UInt8)) (hv24_0_x0_6 : Slc Fr 1 (FlatR enc3) sv24_0_x0_6 v24_0_x0_6) (hH : Has Fr M [.obj b36 (.row 124 .whole [(.ptr b36 0), s57]), .vec 5 1 l57.length s57 (l57.flatMap enc5), tb0, tb1, tb2]), alert_textOf_3 F N v24_0_x0_0 v24_0_x0_1 v24_0_x0_2 v24_0_x0_3 v24_0_x0_4 v24_0_x0_5 v24_0_x0_6 v24_0_x0_7 v24_0_x0_8 l57 = some r → Run Tryd.prog ⟨⟨75, [], none⟩, []⟩ 33 (alert_textOf_post r) [(5, (.ptr b36 0)), (24, (.agg [(.fn (.func 87) [(.agg [(.str v24_0_x0_0), (.int .i64 v24_0_x0_1), (.int .i64 v24_0_x0_2), (.int .i64 v24_0_x0_3), (.int .i64 v24_0_x0_4), (.int .i64 v24_0_x0_5), sv24_0_x0_6, (.bool v24_0_x0_7), (.int .i64 v24_0_x0_8)])] []), (.fn (.func 88) [(.agg [(.str v24_0_x0_0), (.int .i64 v24_0_x0_1), (.int .i64 v24_0_x0_2), (.int .i64 v24_0_x0_3), (.int .i64 v24_0_x0_4), (.int .i64 v24_0_x0_5), sv24_0_x0_6, (.bool v24_0_x0_7), (.int .i64 v24_0_x0_8)])] []), (.fn (.func 89) [(.agg [(.str v24_0_x0_0), (.int .i64 v24_0_x0_1), (.int .i64 v24_0_x0_2), (.int .i64 v24_0_x0_3), (.int .i64 v24_0_x0_4), (.int .i64 v24_0_x0_5), sv24_0_x0_6, (.bool v24_0_x0_7), (.int .i64 v24_0_x0_8)])] []), (.fn (.func 90) [(.agg [(.str v24_0_x0_0), (.int .i64 v24_0_x0_1), (.int .i64 v24_0_x0_2), (.int .i64 v24_0_x0_3), (.int .i64 v24_0_x0_4), (.int .i64 v24_0_x0_5), sv24_0_x0_6, (.bool v24_0_x0_7), (.int .i64 v24_0_x0_8)])] []), (.fn (.func 91) [(.agg [(.str v24_0_x0_0), (.int .i64 v24_0_x0_1), (.int .i64 v24_0_x0_2), (.int .i64 v24_0_x0_3), (.int .i64 v24_0_x0_4), (.int .i64 v24_0_x0_5), sv24_0_x0_6, (.bool v24_0_x0_7), (.int .i64 v24_0_x0_8)])] []), (.fn (.func 92) [(.agg [(.str v24_0_x0_0), (.int .i64 v24_0_x0_1), (.int .i64 v24_0_x0_2), (.int .i64 v24_0_x0_3), (.int .i64 v24_0_x0_4), (.int .i64 v24_0_x0_5), sv24_0_x0_6, (.bool v24_0_x0_7), (.int .i64 v24_0_x0_8)])] []), (.fn (.func 93) [(.agg [(.str v24_0_x0_0), (.int .i64 v24_0_x0_1), (.int .i64 v24_0_x0_2), (.int .i64 v24_0_x0_3), (.int .i64 v24_0_x0_4), (.int .i64 v24_0_x0_5), sv24_0_x0_6, (.bool v24_0_x0_7), (.int .i64 v24_0_x0_8)])] [])])), (25, (.int .i64 2))] [codeC Tryd.prog 75 [1, 1, 1, 1, 0, 1, 0, 0], loopC Tryd.prog 75 [1, 1, 1, 1, 0, 1, 0, 0], .inBlock 0, codeC Tryd.prog 75 [1, 1, 1, 1, 1]] M := by
  intro N
  induction N with
  | zero =>
    intro v24_0_x0_0 v24_0_x0_1 v24_0_x0_2 v24_0_x0_3 v24_0_x0_4 v24_0_x0_5 v24_0_x0_6 v24_0_x0_7 v24_0_x0_8 l57 sv24_0_x0_6 b36 s57 Fr M r hv24_0_x0_6 hH h
    simp [alert_textOf_3] at h
  | succ N ih =>
    intro v24_0_x0_0 v24_0_x0_1 v24_0_x0_2 v24_0_x0_3 v24_0_x0_4 v24_0_x0_5 v24_0_x0_6 v24_0_x0_7 v24_0_x0_8 l57 sv24_0_x0_6 b36 s57 Fr M r hv24_0_x0_6 hH h
    rw [alert_textOf_3] at h
    refine Run.seq (Run.region ?_)
    refine Run.opG wantS_none (ex_lss rfl rfl) rfl ?_
    refine Run.opsEnd (Run.seq ?_)
    refine Run.condT' rfl rfl ?_
    refine Run.skip (Run.seq (Run.block (Run.seq (Run.region ?_))))
    refine Run.opG wantS_none (ex_idxA (j := 2) rfl rfl wha121 rfl (part_one agg120 rfl)) rfl ?_
    refine Run.opG wantS_none (ex_assign rfl) rfl ?_
    refine Run.opsEnd (Run.region ?_)
    refine Run.opG wantS_none (ex_move rfl) rfl ?_
    obtain ⟨r61, hr61, h⟩ := bnd_some h
    refine Run.callP wantS_none (ex_closure rfl rfl mkk89 cal89) rfl (alert_sheet_chance_ok F (S_api_Alert.mk v24_0_x0_0 v24_0_x0_1 v24_0_x0_2 (S_api_Chance.mk v24_0_x0_3 v24_0_x0_4) v24_0_x0_5 v24_0_x0_6 v24_0_x0_7 v24_0_x0_8) sv24_0_x0_6 _ _ (hH.slcF hv24_0_x0_6) (fixH hH (List.mem_of_getElem? (i := 2) rfl) (List.mem_of_getElem? (i := 3) rfl) (List.mem_of_getElem? (i := 4) rfl)) hr61) ?_
    refine Run.enter wantS_none (ex_call rfl mkk94 cal94) Tryd.func94 rfl rfl ?_
    refine Run.seq (Run.region ?_)
    refine Run.opG wantS_none (ex_assign rfl) rfl ?_
    refine Run.opG wantS_none (ex_assign rfl) rfl ?_
    refine Run.opsEnd (Run.seq (Run.region ?_))
    refine Run.opG wantS_none (ex_move rfl) rfl ?_
    refine Run.enter wantS_none (ex_call rfl mkk102 cal102) Tryd.func102 rfl rfl ?_
    refine Run.seq (Run.region ?_)
    refine Run.opG wantS_none (ex_move rfl) rfl ?_
    refine Run.opG wantS_none (ex_nilP rfl) rfl ?_
    refine Run.opG wantS_none (ex_fieldAddr rfl off124_0) rfl ?_
    refine Run.opG wantS_none (ex_load1 rfl (hH.cells (i := 0) rfl 0 rfl) rdLe_rfl agg122) rfl ?_
    refine Run.opG wantS_none (ex_ptrPN rfl rfl eqk122) rfl ?_
    refine Run.opsEnd ?_
    refine Run.condF' rfl rfl ?_
    refine Run.seq (Run.region ?_)
    refine Run.opG wantS_none (ex_move rfl) rfl ?_
    refine Run.opG wantS_none (ex_nilP rfl) rfl ?_
    refine Run.opG wantS_none (ex_fieldAddr rfl off124_0) rfl ?_
    refine Run.opG wantS_none (ex_load1 rfl (hH.cells (i := 0) rfl 0 rfl) rdLe_rfl agg122) rfl ?_
    refine Run.opG wantS_none (ex_move rfl) rfl ?_
    refine Run.opG wantS_none (ex_ptrSamen rfl rfl pte122 inf124) rfl ?_
    refine Run.opsEnd ?_
    refine Run.condF' rfl rfl ?_
    refine Run.skip ?_
    refine Run.fallTo Tryd.func102 rfl res_nil rfl ?_
    refine Run.opsEnd (Run.seq (Run.region ?_))
    refine Run.opG wantS_none (ex_move rfl) rfl ?_
    refine Run.opG wantS_none (ex_move rfl) rfl ?_
    refine Run.opG wantS_none (ex_nilP rfl) rfl ?_
    refine Run.opG wantS_none (ex_fieldAddr rfl off124_1) rfl ?_
    refine Run.opG wantS_none (ex_load1 rfl (hH.cells (i := 0) rfl 1 rfl) rdLe_rfl agg108) rfl ?_
    refine Run.opG wantS_none (ex_move rfl) rfl ?_
    obtain ⟨l65, hl65, h⟩ := bnd_some h
    refine Run.opX wantS_none rfl (ExG.append rfl rfl hH (i := 1) rfl enc5_len rfl enc5_ones appt108_9 rfl (str_lenZ rfl _) (str_first (fun _ => rfl) _) hl65) ?_
    rintro s65 M67 (hH67 : Has Fr M67 [.obj b36 (.row 124 .whole [(.ptr b36 0), s57]), .vec 5 1 l65.length s65 (l65.flatMap enc5), tb0, tb1, tb2])
    refine Run.opG wantS_none (ex_nilP rfl) rfl ?_
    refine Run.opG wantS_none (ex_fieldAddr rfl off124_1) rfl ?_
    refine Run.opX wantS_none rfl (ExG.storeC (c' := [(.ptr b36 0), s65]) rfl rfl (cells_one (vec_one hH67 (i := 1) rfl)) hH67 (i := 0) rfl sz108 rfl rfl rfl (ones_cons (vec_one hH67 (i := 1) rfl) ones_nil) rfl) ?_
    rintro _ M68 ⟨rfl, (hH68 : Has Fr M68 [.obj b36 (.row 124 .whole [(.ptr b36 0), s65]), .vec 5 1 l65.length s65 (l65.flatMap enc5), tb0, tb1, tb2])⟩
    refine Run.opsEnd (Run.seq (Run.region ?_))
    refine Run.opG wantS_none (ex_move rfl) rfl ?_
    refine Run.opG wantS_none (ex_lenS rfl lenk9) rfl ?_
    refine Run.opG wantS_none (ex_assign rfl) rfl ?_
    refine Run.opG wantS_none (ex_assign rfl) rfl ?_
    refine Run.opsEnd ?_
    refine Run.retTo Tryd.func94 rfl (res_tmp rfl (res_tmp rfl res_nil)) rfl ?_
    refine Run.opsEnd (Run.inBlock (Run.region ?_))
    refine Run.opG wantS_none (ex_add rfl rfl) rfl ?_
    refine Run.opG wantS_none (ex_move rfl) rfl ?_
    refine Run.opsEnd (Run.inLoop ?_)
    exact Run.pick [5, 24, 25] (alert_textOf_4_ok F F v24_0_x0_0 v24_0_x0_1 v24_0_x0_2 v24_0_x0_3 v24_0_x0_4 v24_0_x0_5 v24_0_x0_6 v24_0_x0_7 v24_0_x0_8 l65 sv24_0_x0_6 b36 s65 _ _ _ hv24_0_x0_6 hH68 h)

def alert_textOf_2 (F : Nat) : Nat → (List UInt8) → Int → Int → Int → Int → Int → (List Int) → Bool → Int → (List Int) → Option ((List UInt8))
  | 0, _, _, _, _, _, _, _, _, _, _ => none
  | N + 1, v24_0_x0_0, v24_0_x0_1, v24_0_x0_2, v24_0_x0_3, v24_0_x0_4, v24_0_x0_5, v24_0_x0_6, v24_0_x0_7, v24_0_x0_8, l47 =>
    bnd (alert_sheet_time F (S_api_Alert.mk v24_0_x0_0 v24_0_x0_1 v24_0_x0_2 (S_api_Chance.mk v24_0_x0_3 v24_0_x0_4) v24_0_x0_5 v24_0_x0_6 v24_0_x0_7 v24_0_x0_8)) fun r52 =>
    bnd (apd 1 l47 (bytesI r52)) fun l56 =>
    alert_textOf_3 F F v24_0_x0_0 v24_0_x0_1 v24_0_x0_2 v24_0_x0_3 v24_0_x0_4 v24_0_x0_5 v24_0_x0_6 v24_0_x0_7 v24_0_x0_8 l56

theorem alert_textOf_2_ok (F : Nat) : ∀ (N : Nat), ∀ (v24_0_x0_0 : (List UInt8)) (v24_0_x0_1 v24_0_x0_2 v24_0_x0_3 v24_0_x0_4 v24_0_x0_5 : Int) (v24_0_x0_6 : (List Int)) (v24_0_x0_7 : Bool) (v24_0_x0_8 : Int) (l47 : (List Int)) (sv24_0_x0_6 : SV) (b36 : Pos) (s47 : SV) (Fr : Rd) (M : Mem) (r : (List UInt8)) (hv24_0_x0_6 : Slc Fr 1 (FlatR enc3) sv24_0_x0_6 v24_0_x0_6) (hH : Has Fr M [.obj b36 (.row 124 .whole [(.ptr b36 0), s47]), .vec 5 1 l47.length s47 (l47.flatMap enc5), tb0, tb1, tb2]), alert_textOf_2 F N v24_0_x0_0 v24_0_x0_1 v24_0_x0_2 v24_0_x0_3 v24_0_x0_4 v24_0_x0_5 v24_0_x0_6 v24_0_x0_7 v24_0_x0_8 l47 = some r → Run Tryd.prog ⟨⟨75, [], none⟩, []⟩ 33 (alert_textOf_post r) [(5, (.ptr b36 0)), (24, (.agg [(.fn (.func 87) [(.agg [(.str v24_0_x0_0), (.int .i64 v24_0_x0_1), (.int .i64 v24_0_x0_2), (.int .i64 v24_0_x0_3), (.int .i64 v24_0_x0_4), (.int .i64 v24_0_x0_5), sv24_0_x0_6, (.bool v24_0_x0_7), (.int .i64 v24_0_x0_8)])] []), (.fn (.func 88) [(.agg [(.str v24_0_x0_0), (.int .i64 v24_0_x0_1), (.int .i64 v24_0_x0_2), (.int .i64 v24_0_x0_3), (.int .i64 v24_0_x0_4), (.int .i64 v24_0_x0_5), sv24_0_x0_6, (.bool v24_0_x0_7), (.int .i64 v24_0_x0_8)])] []), (.fn (.func 89) [(.agg [(.str v24_0_x0_0), (.int .i64 v24_0_x0_1), (.int .i64 v24_0_x0_2), (.int .i64 v24_0_x0_3), (.int .i64 v24_0_x0_4), (.int .i64 v24_0_x0_5), sv24_0_x0_6, (.bool v24_0_x0_7), (.int .i64 v24_0_x0_8)])] []), (.fn (.func 90) [(.agg [(.str v24_0_x0_0), (.int .i64 v24_0_x0_1), (.int .i64 v24_0_x0_2), (.int .i64 v24_0_x0_3), (.int .i64 v24_0_x0_4), (.int .i64 v24_0_x0_5), sv24_0_x0_6, (.bool v24_0_x0_7), (.int .i64 v24_0_x0_8)])] []), (.fn (.func 91) [(.agg [(.str v24_0_x0_0), (.int .i64 v24_0_x0_1), (.int .i64 v24_0_x0_2), (.int .i64 v24_0_x0_3), (.int .i64 v24_0_x0_4), (.int .i64 v24_0_x0_5), sv24_0_x0_6, (.bool v24_0_x0_7), (.int .i64 v24_0_x0_8)])] []), (.fn (.func 92) [(.agg [(.str v24_0_x0_0), (.int .i64 v24_0_x0_1), (.int .i64 v24_0_x0_2), (.int .i64 v24_0_x0_3), (.int .i64 v24_0_x0_4), (.int .i64 v24_0_x0_5), sv24_0_x0_6, (.bool v24_0_x0_7), (.int .i64 v24_0_x0_8)])] []), (.fn (.func 93) [(.agg [(.str v24_0_x0_0), (.int .i64 v24_0_x0_1), (.int .i64 v24_0_x0_2), (.int .i64 v24_0_x0_3), (.int .i64 v24_0_x0_4), (.int .i64 v24_0_x0_5), sv24_0_x0_6, (.bool v24_0_x0_7), (.int .i64 v24_0_x0_8)])] [])])), (25, (.int .i64 1))] [codeC Tryd.prog 75 [1, 1, 1, 1, 0, 1, 0, 0], loopC Tryd.prog 75 [1, 1, 1, 1, 0, 1, 0, 0], .inBlock 0, codeC Tryd.prog 75 [1, 1, 1, 1, 1]] M := by
  intro N
  induction N with
  | zero =>
    intro v24_0_x0_0 v24_0_x0_1 v24_0_x0_2 v24_0_x0_3 v24_0_x0_4 v24_0_x0_5 v24_0_x0_6 v24_0_x0_7 v24_0_x0_8 l47 sv24_0_x0_6 b36 s47 Fr M r hv24_0_x0_6 hH h
    simp [alert_textOf_2] at h
  | succ N ih =>
    intro v24_0_x0_0 v24_0_x0_1 v24_0_x0_2 v24_0_x0_3 v24_0_x0_4 v24_0_x0_5 v24_0_x0_6 v24_0_x0_7 v24_0_x0_8 l47 sv24_0_x0_6 b36 s47 Fr M r hv24_0_x0_6 hH h
    rw [alert_textOf_2] at h
    refine Run.seq (Run.region ?_)
    refine Run.opG wantS_none (ex_lss rfl rfl) rfl ?_
    refine Run.opsEnd (Run.seq ?_)
    refine Run.condT' rfl rfl ?_
    refine Run.skip (Run.seq (Run.block (Run.seq (Run.region ?_))))
    refine Run.opG wantS_none (ex_idxA (j := 1) rfl rfl wha121 rfl (part_one agg120 rfl)) rfl ?_
    refine Run.opG wantS_none (ex_assign rfl) rfl ?_
    refine Run.opsEnd (Run.region ?_)
    refine Run.opG wantS_none (ex_move rfl) rfl ?_
    obtain ⟨r52, hr52, h⟩ := bnd_some h
    refine Run.callP wantS_none (ex_closure rfl rfl mkk88 cal88) rfl (alert_sheet_time_ok F (S_api_Alert.mk v24_0_x0_0 v24_0_x0_1 v24_0_x0_2 (S_api_Chance.mk v24_0_x0_3 v24_0_x0_4) v24_0_x0_5 v24_0_x0_6 v24_0_x0_7 v24_0_x0_8) sv24_0_x0_6 _ _ (hH.slcF hv24_0_x0_6) (fixH hH (List.mem_of_getElem? (i := 2) rfl) (List.mem_of_getElem? (i := 3) rfl) (List.mem_of_getElem? (i := 4) rfl)) hr52) ?_
    refine Run.enter wantS_none (ex_call rfl mkk94 cal94) Tryd.func94 rfl rfl ?_
    refine Run.seq (Run.region ?_)
    refine Run.opG wantS_none (ex_assign rfl) rfl ?_
    refine Run.opG wantS_none (ex_assign rfl) rfl ?_
    refine Run.opsEnd (Run.seq (Run.region ?_))
    refine Run.opG wantS_none (ex_move rfl) rfl ?_
    refine Run.enter wantS_none (ex_call rfl mkk102 cal102) Tryd.func102 rfl rfl ?_
    refine Run.seq (Run.region ?_)
    refine Run.opG wantS_none (ex_move rfl) rfl ?_
    refine Run.opG wantS_none (ex_nilP rfl) rfl ?_
    refine Run.opG wantS_none (ex_fieldAddr rfl off124_0) rfl ?_
    refine Run.opG wantS_none (ex_load1 rfl (hH.cells (i := 0) rfl 0 rfl) rdLe_rfl agg122) rfl ?_
    refine Run.opG wantS_none (ex_ptrPN rfl rfl eqk122) rfl ?_
    refine Run.opsEnd ?_
    refine Run.condF' rfl rfl ?_
    refine Run.seq (Run.region ?_)
    refine Run.opG wantS_none (ex_move rfl) rfl ?_
    refine Run.opG wantS_none (ex_nilP rfl) rfl ?_
    refine Run.opG wantS_none (ex_fieldAddr rfl off124_0) rfl ?_
    refine Run.opG wantS_none (ex_load1 rfl (hH.cells (i := 0) rfl 0 rfl) rdLe_rfl agg122) rfl ?_
    refine Run.opG wantS_none (ex_move rfl) rfl ?_
    refine Run.opG wantS_none (ex_ptrSamen rfl rfl pte122 inf124) rfl ?_
    refine Run.opsEnd ?_
    refine Run.condF' rfl rfl ?_
    refine Run.skip ?_
    refine Run.fallTo Tryd.func102 rfl res_nil rfl ?_
    refine Run.opsEnd (Run.seq (Run.region ?_))
    refine Run.opG wantS_none (ex_move rfl) rfl ?_
    refine Run.opG wantS_none (ex_move rfl) rfl ?_
    refine Run.opG wantS_none (ex_nilP rfl) rfl ?_
    refine Run.opG wantS_none (ex_fieldAddr rfl off124_1) rfl ?_
    refine Run.opG wantS_none (ex_load1 rfl (hH.cells (i := 0) rfl 1 rfl) rdLe_rfl agg108) rfl ?_
    refine Run.opG wantS_none (ex_move rfl) rfl ?_
    obtain ⟨l56, hl56, h⟩ := bnd_some h
    refine Run.opX wantS_none rfl (ExG.append rfl rfl hH (i := 1) rfl enc5_len rfl enc5_ones appt108_9 rfl (str_lenZ rfl _) (str_first (fun _ => rfl) _) hl56) ?_
    rintro s56 M58 (hH58 : Has Fr M58 [.obj b36 (.row 124 .whole [(.ptr b36 0), s47]), .vec 5 1 l56.length s56 (l56.flatMap enc5), tb0, tb1, tb2])
    refine Run.opG wantS_none (ex_nilP rfl) rfl ?_
    refine Run.opG wantS_none (ex_fieldAddr rfl off124_1) rfl ?_
    refine Run.opX wantS_none rfl (ExG.storeC (c' := [(.ptr b36 0), s56]) rfl rfl (cells_one (vec_one hH58 (i := 1) rfl)) hH58 (i := 0) rfl sz108 rfl rfl rfl (ones_cons (vec_one hH58 (i := 1) rfl) ones_nil) rfl) ?_
    rintro _ M59 ⟨rfl, (hH59 : Has Fr M59 [.obj b36 (.row 124 .whole [(.ptr b36 0), s56]), .vec 5 1 l56.length s56 (l56.flatMap enc5), tb0, tb1, tb2])⟩
    refine Run.opsEnd (Run.seq (Run.region ?_))
    refine Run.opG wantS_none (ex_move rfl) rfl ?_
    refine Run.opG wantS_none (ex_lenS rfl lenk9) rfl ?_
    refine Run.opG wantS_none (ex_assign rfl) rfl ?_
    refine Run.opG wantS_none (ex_assign rfl) rfl ?_
    refine Run.opsEnd ?_
    refine Run.retTo Tryd.func94 rfl (res_tmp rfl (res_tmp rfl res_nil)) rfl ?_
    refine Run.opsEnd (Run.inBlock (Run.region ?_))
    refine Run.opG wantS_none (ex_add rfl rfl) rfl ?_
    refine Run.opG wantS_none (ex_move rfl) rfl ?_
    refine Run.opsEnd (Run.inLoop ?_)
    exact Run.pick [5, 24, 25] (alert_textOf_3_ok F F v24_0_x0_0 v24_0_x0_1 v24_0_x0_2 v24_0_x0_3 v24_0_x0_4 v24_0_x0_5 v24_0_x0_6 v24_0_x0_7 v24_0_x0_8 l56 sv24_0_x0_6 b36 s56 _ _ _ hv24_0_x0_6 hH59 h)

def alert_textOf_1 (F : Nat) : Nat → (List UInt8) → Int → Int → Int → Int → Int → (List Int) → Bool → Int → Option ((List UInt8))
  | 0, _, _, _, _, _, _, _, _, _ => none
  | N + 1, v24_0_x0_0, v24_0_x0_1, v24_0_x0_2, v24_0_x0_3, v24_0_x0_4, v24_0_x0_5, v24_0_x0_6, v24_0_x0_7, v24_0_x0_8 =>
    bnd (alert_sheet_head F (S_api_Alert.mk v24_0_x0_0 v24_0_x0_1 v24_0_x0_2 (S_api_Chance.mk v24_0_x0_3 v24_0_x0_4) v24_0_x0_5 v24_0_x0_6 v24_0_x0_7 v24_0_x0_8)) fun r39 =>
    bnd (apd 1 ([] : List Int) (bytesI r39)) fun l45 =>
    alert_textOf_2 F F v24_0_x0_0 v24_0_x0_1 v24_0_x0_2 v24_0_x0_3 v24_0_x0_4 v24_0_x0_5 v24_0_x0_6 v24_0_x0_7 v24_0_x0_8 l45

theorem alert_textOf_1_ok (F : Nat) : ∀ (N : Nat), ∀ (v24_0_x0_0 : (List UInt8)) (v24_0_x0_1 v24_0_x0_2 v24_0_x0_3 v24_0_x0_4 v24_0_x0_5 : Int) (v24_0_x0_6 : (List Int)) (v24_0_x0_7 : Bool) (v24_0_x0_8 : Int) (sv24_0_x0_6 : SV) (b36 : Pos) (Fr : Rd) (M : Mem) (r : (List UInt8)) (hv24_0_x0_6 : Slc Fr 1 (FlatR enc3) sv24_0_x0_6 v24_0_x0_6) (hH : Has Fr M [.obj b36 (.row 124 .whole [.nilp, .nils]), tb0, tb1, tb2]), alert_textOf_1 F N v24_0_x0_0 v24_0_x0_1 v24_0_x0_2 v24_0_x0_3 v24_0_x0_4 v24_0_x0_5 v24_0_x0_6 v24_0_x0_7 v24_0_x0_8 = some r → Run Tryd.prog ⟨⟨75, [], none⟩, []⟩ 33 (alert_textOf_post r) [(5, (.ptr b36 0)), (24, (.agg [(.fn (.func 87) [(.agg [(.str v24_0_x0_0), (.int .i64 v24_0_x0_1), (.int .i64 v24_0_x0_2), (.int .i64 v24_0_x0_3), (.int .i64 v24_0_x0_4), (.int .i64 v24_0_x0_5), sv24_0_x0_6, (.bool v24_0_x0_7), (.int .i64 v24_0_x0_8)])] []), (.fn (.func 88) [(.agg [(.str v24_0_x0_0), (.int .i64 v24_0_x0_1), (.int .i64 v24_0_x0_2), (.int .i64 v24_0_x0_3), (.int .i64 v24_0_x0_4), (.int .i64 v24_0_x0_5), sv24_0_x0_6, (.bool v24_0_x0_7), (.int .i64 v24_0_x0_8)])] []), (.fn (.func 89) [(.agg [(.str v24_0_x0_0), (.int .i64 v24_0_x0_1), (.int .i64 v24_0_x0_2), (.int .i64 v24_0_x0_3), (.int .i64 v24_0_x0_4), (.int .i64 v24_0_x0_5), sv24_0_x0_6, (.bool v24_0_x0_7), (.int .i64 v24_0_x0_8)])] []), (.fn (.func 90) [(.agg [(.str v24_0_x0_0), (.int .i64 v24_0_x0_1), (.int .i64 v24_0_x0_2), (.int .i64 v24_0_x0_3), (.int .i64 v24_0_x0_4), (.int .i64 v24_0_x0_5), sv24_0_x0_6, (.bool v24_0_x0_7), (.int .i64 v24_0_x0_8)])] []), (.fn (.func 91) [(.agg [(.str v24_0_x0_0), (.int .i64 v24_0_x0_1), (.int .i64 v24_0_x0_2), (.int .i64 v24_0_x0_3), (.int .i64 v24_0_x0_4), (.int .i64 v24_0_x0_5), sv24_0_x0_6, (.bool v24_0_x0_7), (.int .i64 v24_0_x0_8)])] []), (.fn (.func 92) [(.agg [(.str v24_0_x0_0), (.int .i64 v24_0_x0_1), (.int .i64 v24_0_x0_2), (.int .i64 v24_0_x0_3), (.int .i64 v24_0_x0_4), (.int .i64 v24_0_x0_5), sv24_0_x0_6, (.bool v24_0_x0_7), (.int .i64 v24_0_x0_8)])] []), (.fn (.func 93) [(.agg [(.str v24_0_x0_0), (.int .i64 v24_0_x0_1), (.int .i64 v24_0_x0_2), (.int .i64 v24_0_x0_3), (.int .i64 v24_0_x0_4), (.int .i64 v24_0_x0_5), sv24_0_x0_6, (.bool v24_0_x0_7), (.int .i64 v24_0_x0_8)])] [])])), (25, (.int .i64 0))] [codeC Tryd.prog 75 [1, 1, 1, 1, 0, 1, 0, 0], loopC Tryd.prog 75 [1, 1, 1, 1, 0, 1, 0, 0], .inBlock 0, codeC Tryd.prog 75 [1, 1, 1, 1, 1]] M := by
  intro N
  induction N with
  | zero =>
    intro v24_0_x0_0 v24_0_x0_1 v24_0_x0_2 v24_0_x0_3 v24_0_x0_4 v24_0_x0_5 v24_0_x0_6 v24_0_x0_7 v24_0_x0_8 sv24_0_x0_6 b36 Fr M r hv24_0_x0_6 hH h
    simp [alert_textOf_1] at h
  | succ N ih =>
    intro v24_0_x0_0 v24_0_x0_1 v24_0_x0_2 v24_0_x0_3 v24_0_x0_4 v24_0_x0_5 v24_0_x0_6 v24_0_x0_7 v24_0_x0_8 sv24_0_x0_6 b36 Fr M r hv24_0_x0_6 hH h
    rw [alert_textOf_1] at h
    refine Run.seq (Run.region ?_)
    refine Run.opG wantS_none (ex_lss rfl rfl) rfl ?_
    refine Run.opsEnd (Run.seq ?_)
    refine Run.condT' rfl rfl ?_
    refine Run.skip (Run.seq (Run.block (Run.seq (Run.region ?_))))
    refine Run.opG wantS_none (ex_idxA (j := 0) rfl rfl wha121 rfl (part_one agg120 rfl)) rfl ?_
    refine Run.opG wantS_none (ex_assign rfl) rfl ?_
    refine Run.opsEnd (Run.region ?_)
    refine Run.opG wantS_none (ex_move rfl) rfl ?_
    obtain ⟨r39, hr39, h⟩ := bnd_some h
    refine Run.callP wantS_none (ex_closure rfl rfl mkk87 cal87) rfl (alert_sheet_head_ok F (S_api_Alert.mk v24_0_x0_0 v24_0_x0_1 v24_0_x0_2 (S_api_Chance.mk v24_0_x0_3 v24_0_x0_4) v24_0_x0_5 v24_0_x0_6 v24_0_x0_7 v24_0_x0_8) sv24_0_x0_6 _ _ (hH.slcF hv24_0_x0_6) (fixH hH (List.mem_of_getElem? (i := 1) rfl) (List.mem_of_getElem? (i := 2) rfl) (List.mem_of_getElem? (i := 3) rfl)) hr39) ?_
    refine Run.enter wantS_none (ex_call rfl mkk94 cal94) Tryd.func94 rfl rfl ?_
    refine Run.seq (Run.region ?_)
    refine Run.opG wantS_none (ex_assign rfl) rfl ?_
    refine Run.opG wantS_none (ex_assign rfl) rfl ?_
    refine Run.opsEnd (Run.seq (Run.region ?_))
    refine Run.opG wantS_none (ex_move rfl) rfl ?_
    refine Run.enter wantS_none (ex_call rfl mkk102 cal102) Tryd.func102 rfl rfl ?_
    refine Run.seq (Run.region ?_)
    refine Run.opG wantS_none (ex_move rfl) rfl ?_
    refine Run.opG wantS_none (ex_nilP rfl) rfl ?_
    refine Run.opG wantS_none (ex_fieldAddr rfl off124_0) rfl ?_
    refine Run.opG wantS_none (ex_load1 rfl (hH.cells (i := 0) rfl 0 rfl) rdLe_rfl agg122) rfl ?_
    refine Run.opG wantS_none (ex_ptrNN rfl rfl eqk122) rfl ?_
    refine Run.opsEnd ?_
    refine Run.condT' rfl rfl ?_
    refine Run.region ?_
    refine Run.opG wantS_none (ex_move rfl) rfl ?_
    refine Run.opG wantS_none (ex_move rfl) rfl ?_
    refine Run.opG wantS_none (ex_toU rfl uvk122_137 rfl hH (i := 0) rfl rfl) rfl ?_
    refine Run.opG wantS_none (ex_noEsc rfl mkk106 ncal106 ext106) rfl ?_
    refine Run.opG wantS_none (ex_backU rfl uvk137_122 hH (i := 0) rfl rfl clo124) rfl ?_
    refine Run.opG wantS_none (ex_nilP rfl) rfl ?_
    refine Run.opG wantS_none (ex_fieldAddr rfl off124_0) rfl ?_
    refine Run.opX wantS_none rfl (ExG.storeC (c' := [(.ptr b36 0), .nils]) rfl rfl rfl hH (i := 0) rfl sz122 rfl rfl rfl rfl rfl) ?_
    rintro _ M41 ⟨rfl, (hH41 : Has Fr M41 [.obj b36 (.row 124 .whole [(.ptr b36 0), .nils]), tb0, tb1, tb2])⟩
    refine Run.opsEnd ?_
    refine Run.fallTo Tryd.func102 rfl res_nil rfl ?_
    refine Run.opsEnd (Run.seq (Run.region ?_))
    refine Run.opG wantS_none (ex_move rfl) rfl ?_
    refine Run.opG wantS_none (ex_move rfl) rfl ?_
    refine Run.opG wantS_none (ex_nilP rfl) rfl ?_
    refine Run.opG wantS_none (ex_fieldAddr rfl off124_1) rfl ?_
    refine Run.opG wantS_none (ex_load1 rfl (hH41.cells (i := 0) rfl 1 rfl) rdLe_rfl agg108) rfl ?_
    refine Run.opG wantS_none (ex_move rfl) rfl ?_
    obtain ⟨l45, hl45, h⟩ := bnd_some h
    have hH48 : Has Fr M41 [.vec 5 1 ([] : List Int).length .nils (([] : List Int).flatMap enc5), .obj b36 (.row 124 .whole [(.ptr b36 0), .nils]), tb0, tb1, tb2] := hH41.nils 5 1
    refine Run.opX wantS_none rfl (ExG.append rfl rfl hH48 (i := 0) rfl enc5_len rfl enc5_ones appt108_9 rfl (str_lenZ rfl _) (str_first (fun _ => rfl) _) hl45) ?_
    rintro s45 M49 (hH49 : Has Fr M49 [.vec 5 1 l45.length s45 (l45.flatMap enc5), .obj b36 (.row 124 .whole [(.ptr b36 0), .nils]), tb0, tb1, tb2])
    refine Run.opG wantS_none (ex_nilP rfl) rfl ?_
    refine Run.opG wantS_none (ex_fieldAddr rfl off124_1) rfl ?_
    refine Run.opX wantS_none rfl (ExG.storeC (c' := [(.ptr b36 0), s45]) rfl rfl (cells_one (vec_one hH49 (i := 0) rfl)) hH49 (i := 1) rfl sz108 rfl rfl rfl (ones_cons (vec_one hH49 (i := 0) rfl) ones_nil) rfl) ?_
    rintro _ M50 ⟨rfl, (hH50 : Has Fr M50 [.vec 5 1 l45.length s45 (l45.flatMap enc5), .obj b36 (.row 124 .whole [(.ptr b36 0), s45]), tb0, tb1, tb2])⟩
    refine Run.opsEnd (Run.seq (Run.region ?_))
    refine Run.opG wantS_none (ex_move rfl) rfl ?_
    refine Run.opG wantS_none (ex_lenS rfl lenk9) rfl ?_
    refine Run.opG wantS_none (ex_assign rfl) rfl ?_
    refine Run.opG wantS_none (ex_assign rfl) rfl ?_
    refine Run.opsEnd ?_
    refine Run.retTo Tryd.func94 rfl (res_tmp rfl (res_tmp rfl res_nil)) rfl ?_
    refine Run.opsEnd (Run.inBlock (Run.region ?_))
    refine Run.opG wantS_none (ex_add rfl rfl) rfl ?_
    refine Run.opG wantS_none (ex_move rfl) rfl ?_
    refine Run.opsEnd (Run.inLoop ?_)
    exact Run.pick [5, 24, 25] (alert_textOf_2_ok F F v24_0_x0_0 v24_0_x0_1 v24_0_x0_2 v24_0_x0_3 v24_0_x0_4 v24_0_x0_5 v24_0_x0_6 v24_0_x0_7 v24_0_x0_8 l45 sv24_0_x0_6 b36 s45 _ _ _ hv24_0_x0_6 (hH50.pick [1, 0, 2, 3, 4] rfl rfl) h)

def alert_textOf (F : Nat) (a0 : S_api_Alert) : Option ((List UInt8)) :=
  alert_textOf_1 F F a0.Event a0.Version a0.Time a0.Chance.N a0.Chance.Of a0.Grid a0.Cells a0.Withdrawn a0.Before

theorem alert_textOf_ok (F : Nat) (a0 : S_api_Alert) (s0 : SV) (r : (List UInt8)) (M : Mem) (hs0 : Slc (rd M) 1 (FlatR enc3) s0 a0.Cells) (hfx : FixIn M fixes) (h : alert_textOf F a0 = some r) : CallsM Tryd.prog 75 [(.agg [(.str a0.Event), (.int .i64 a0.Version), (.int .i64 a0.Time), (.int .i64 a0.Chance.N), (.int .i64 a0.Chance.Of), (.int .i64 a0.Grid), s0, (.bool a0.Withdrawn), (.int .i64 a0.Before)])] M (fun s M' => s = (.str r) ∧ M' = M) := by
  refine CallsM.plain Tryd.func75 rfl rfl rfl (show Run _ _ _ (alert_textOf_post r) _ _ _ from ?_)
  rw [alert_textOf] at h
  replace hs0 := hs0.mono (rdLe_frozen M) (fun _ _ h => h)
  have hH : Has (ro (frozen M)) (frozen M) [tb0, tb1, tb2] := Has.ofFix hfx.frozen
  refine Run.seq (Run.region ?_)
  refine Run.opX wantS_none rfl (ExG.box rfl rfl hH) ?_
  rintro _ M26 ⟨b25, rfl, hH26⟩
  refine Run.opG wantS_none (ex_assign rfl) rfl ?_
  refine Run.opsEnd (Run.seq (Run.region ?_))
  refine Run.opG wantS_none (ex_loadA rfl (hH26.cells (i := 0) rfl 0 rfl) rdLe_rfl agg29 rfl rfl rfl) rfl ?_
  refine Run.opX wantS_none rfl (ExG.new (v := fun b => .ptr b 0) (ex_alloc zer119) hH26) ?_
  rintro _ M29 ⟨b28, rfl, hH29⟩
  refine Run.opX wantS_none rfl (ExG.storeC (c' := [(.str a0.Event), (.int .i64 a0.Version), (.int .i64 a0.Time), (.int .i64 a0.Chance.N), (.int .i64 a0.Chance.Of), (.int .i64 a0.Grid), s0, (.bool a0.Withdrawn), (.int .i64 a0.Before)]) rfl rfl rfl hH29 (i := 0) rfl sz119 rfl rfl rfl (ones_cons rfl (ones_cons rfl (ones_cons rfl (ones_cons rfl (ones_cons rfl (ones_cons rfl (ones_cons (slc_one hs0) (ones_cons rfl (ones_cons rfl ones_nil))))))))) rfl) ?_
  rintro _ M30 ⟨rfl, (hH30 : Has (ro (frozen M)) M30 [.obj b28 (.row 119 .whole [(.str a0.Event), (.int .i64 a0.Version), (.int .i64 a0.Time), (.int .i64 a0.Chance.N), (.int .i64 a0.Chance.Of), (.int .i64 a0.Grid), s0, (.bool a0.Withdrawn), (.int .i64 a0.Before)]), .obj b25 (.row 29 .whole [(.str a0.Event), (.int .i64 a0.Version), (.int .i64 a0.Time), (.int .i64 a0.Chance.N), (.int .i64 a0.Chance.Of), (.int .i64 a0.Grid), s0, (.bool a0.Withdrawn), (.int .i64 a0.Before)]), tb0, tb1, tb2])⟩
  refine Run.opsEnd (Run.seq (Run.region ?_))
  refine Run.opG wantS_none (ex_loadA rfl (hH30.cells (i := 0) rfl 0 rfl) rdLe_rfl agg119 rfl rfl rfl) rfl ?_
  refine Run.opG wantS_none (ex_makeFunc rfl rfl) rfl ?_
  refine Run.opG wantS_none (ex_loadA rfl (hH30.cells (i := 0) rfl 0 rfl) rdLe_rfl agg119 rfl rfl rfl) rfl ?_
  refine Run.opG wantS_none (ex_makeFunc rfl rfl) rfl ?_
  refine Run.opG wantS_none (ex_loadA rfl (hH30.cells (i := 0) rfl 0 rfl) rdLe_rfl agg119 rfl rfl rfl) rfl ?_
  refine Run.opG wantS_none (ex_makeFunc rfl rfl) rfl ?_
  refine Run.opG wantS_none (ex_loadA rfl (hH30.cells (i := 0) rfl 0 rfl) rdLe_rfl agg119 rfl rfl rfl) rfl ?_
  refine Run.opG wantS_none (ex_makeFunc rfl rfl) rfl ?_
  refine Run.opG wantS_none (ex_loadA rfl (hH30.cells (i := 0) rfl 0 rfl) rdLe_rfl agg119 rfl rfl rfl) rfl ?_
  refine Run.opG wantS_none (ex_makeFunc rfl rfl) rfl ?_
  refine Run.opG wantS_none (ex_loadA rfl (hH30.cells (i := 0) rfl 0 rfl) rdLe_rfl agg119 rfl rfl rfl) rfl ?_
  refine Run.opG wantS_none (ex_makeFunc rfl rfl) rfl ?_
  refine Run.opG wantS_none (ex_loadA rfl (hH30.cells (i := 0) rfl 0 rfl) rdLe_rfl agg119 rfl rfl rfl) rfl ?_
  refine Run.opG wantS_none (ex_makeFunc rfl rfl) rfl ?_
  refine Run.opG wantS_none (ex_buildA (r := [(.fn (.func 87) [(.agg [(.str a0.Event), (.int .i64 a0.Version), (.int .i64 a0.Time), (.int .i64 a0.Chance.N), (.int .i64 a0.Chance.Of), (.int .i64 a0.Grid), s0, (.bool a0.Withdrawn), (.int .i64 a0.Before)])] []), (.fn (.func 88) [(.agg [(.str a0.Event), (.int .i64 a0.Version), (.int .i64 a0.Time), (.int .i64 a0.Chance.N), (.int .i64 a0.Chance.Of), (.int .i64 a0.Grid), s0, (.bool a0.Withdrawn), (.int .i64 a0.Before)])] []), (.fn (.func 89) [(.agg [(.str a0.Event), (.int .i64 a0.Version), (.int .i64 a0.Time), (.int .i64 a0.Chance.N), (.int .i64 a0.Chance.Of), (.int .i64 a0.Grid), s0, (.bool a0.Withdrawn), (.int .i64 a0.Before)])] []), (.fn (.func 90) [(.agg [(.str a0.Event), (.int .i64 a0.Version), (.int .i64 a0.Time), (.int .i64 a0.Chance.N), (.int .i64 a0.Chance.Of), (.int .i64 a0.Grid), s0, (.bool a0.Withdrawn), (.int .i64 a0.Before)])] []), (.fn (.func 91) [(.agg [(.str a0.Event), (.int .i64 a0.Version), (.int .i64 a0.Time), (.int .i64 a0.Chance.N), (.int .i64 a0.Chance.Of), (.int .i64 a0.Grid), s0, (.bool a0.Withdrawn), (.int .i64 a0.Before)])] []), (.fn (.func 92) [(.agg [(.str a0.Event), (.int .i64 a0.Version), (.int .i64 a0.Time), (.int .i64 a0.Chance.N), (.int .i64 a0.Chance.Of), (.int .i64 a0.Grid), s0, (.bool a0.Withdrawn), (.int .i64 a0.Before)])] []), (.fn (.func 93) [(.agg [(.str a0.Event), (.int .i64 a0.Version), (.int .i64 a0.Time), (.int .i64 a0.Chance.N), (.int .i64 a0.Chance.Of), (.int .i64 a0.Grid), s0, (.bool a0.Withdrawn), (.int .i64 a0.Before)])] [])]) rfl zer121 pls121 rfl) rfl ?_
  refine Run.opX wantS_none rfl (ExG.new (v := fun b => .ptr b 0) (ex_alloc zer121) hH30) ?_
  rintro _ M33 ⟨b32, rfl, hH33⟩
  refine Run.opX wantS_none rfl (ExG.storeC (c' := [(.fn (.func 87) [(.agg [(.str a0.Event), (.int .i64 a0.Version), (.int .i64 a0.Time), (.int .i64 a0.Chance.N), (.int .i64 a0.Chance.Of), (.int .i64 a0.Grid), s0, (.bool a0.Withdrawn), (.int .i64 a0.Before)])] []), (.fn (.func 88) [(.agg [(.str a0.Event), (.int .i64 a0.Version), (.int .i64 a0.Time), (.int .i64 a0.Chance.N), (.int .i64 a0.Chance.Of), (.int .i64 a0.Grid), s0, (.bool a0.Withdrawn), (.int .i64 a0.Before)])] []), (.fn (.func 89) [(.agg [(.str a0.Event), (.int .i64 a0.Version), (.int .i64 a0.Time), (.int .i64 a0.Chance.N), (.int .i64 a0.Chance.Of), (.int .i64 a0.Grid), s0, (.bool a0.Withdrawn), (.int .i64 a0.Before)])] []), (.fn (.func 90) [(.agg [(.str a0.Event), (.int .i64 a0.Version), (.int .i64 a0.Time), (.int .i64 a0.Chance.N), (.int .i64 a0.Chance.Of), (.int .i64 a0.Grid), s0, (.bool a0.Withdrawn), (.int .i64 a0.Before)])] []), (.fn (.func 91) [(.agg [(.str a0.Event), (.int .i64 a0.Version), (.int .i64 a0.Time), (.int .i64 a0.Chance.N), (.int .i64 a0.Chance.Of), (.int .i64 a0.Grid), s0, (.bool a0.Withdrawn), (.int .i64 a0.Before)])] []), (.fn (.func 92) [(.agg [(.str a0.Event), (.int .i64 a0.Version), (.int .i64 a0.Time), (.int .i64 a0.Chance.N), (.int .i64 a0.Chance.Of), (.int .i64 a0.Grid), s0, (.bool a0.Withdrawn), (.int .i64 a0.Before)])] []), (.fn (.func 93) [(.agg [(.str a0.Event), (.int .i64 a0.Version), (.int .i64 a0.Time), (.int .i64 a0.Chance.N), (.int .i64 a0.Chance.Of), (.int .i64 a0.Grid), s0, (.bool a0.Withdrawn), (.int .i64 a0.Before)])] [])]) rfl rfl rfl hH33 (i := 0) rfl sz121 rfl rfl rfl rfl rfl) ?_
  rintro _ M34 ⟨rfl, (hH34 : Has (ro (frozen M)) M34 [.obj b32 (.row 121 .whole [(.fn (.func 87) [(.agg [(.str a0.Event), (.int .i64 a0.Version), (.int .i64 a0.Time), (.int .i64 a0.Chance.N), (.int .i64 a0.Chance.Of), (.int .i64 a0.Grid), s0, (.bool a0.Withdrawn), (.int .i64 a0.Before)])] []), (.fn (.func 88) [(.agg [(.str a0.Event), (.int .i64 a0.Version), (.int .i64 a0.Time), (.int .i64 a0.Chance.N), (.int .i64 a0.Chance.Of), (.int .i64 a0.Grid), s0, (.bool a0.Withdrawn), (.int .i64 a0.Before)])] []), (.fn (.func 89) [(.agg [(.str a0.Event), (.int .i64 a0.Version), (.int .i64 a0.Time), (.int .i64 a0.Chance.N), (.int .i64 a0.Chance.Of), (.int .i64 a0.Grid), s0, (.bool a0.Withdrawn), (.int .i64 a0.Before)])] []), (.fn (.func 90) [(.agg [(.str a0.Event), (.int .i64 a0.Version), (.int .i64 a0.Time), (.int .i64 a0.Chance.N), (.int .i64 a0.Chance.Of), (.int .i64 a0.Grid), s0, (.bool a0.Withdrawn), (.int .i64 a0.Before)])] []), (.fn (.func 91) [(.agg [(.str a0.Event), (.int .i64 a0.Version), (.int .i64 a0.Time), (.int .i64 a0.Chance.N), (.int .i64 a0.Chance.Of), (.int .i64 a0.Grid), s0, (.bool a0.Withdrawn), (.int .i64 a0.Before)])] []), (.fn (.func 92) [(.agg [(.str a0.Event), (.int .i64 a0.Version), (.int .i64 a0.Time), (.int .i64 a0.Chance.N), (.int .i64 a0.Chance.Of), (.int .i64 a0.Grid), s0, (.bool a0.Withdrawn), (.int .i64 a0.Before)])] []), (.fn (.func 93) [(.agg [(.str a0.Event), (.int .i64 a0.Version), (.int .i64 a0.Time), (.int .i64 a0.Chance.N), (.int .i64 a0.Chance.Of), (.int .i64 a0.Grid), s0, (.bool a0.Withdrawn), (.int .i64 a0.Before)])] [])]), .obj b28 (.row 119 .whole [(.str a0.Event), (.int .i64 a0.Version), (.int .i64 a0.Time), (.int .i64 a0.Chance.N), (.int .i64 a0.Chance.Of), (.int .i64 a0.Grid), s0, (.bool a0.Withdrawn), (.int .i64 a0.Before)]), .obj b25 (.row 29 .whole [(.str a0.Event), (.int .i64 a0.Version), (.int .i64 a0.Time), (.int .i64 a0.Chance.N), (.int .i64 a0.Chance.Of), (.int .i64 a0.Grid), s0, (.bool a0.Withdrawn), (.int .i64 a0.Before)]), tb0, tb1, tb2])⟩
  refine Run.opsEnd (Run.seq (Run.region ?_))
  refine Run.opX wantS_none rfl (ExG.new (v := fun b => .ptr b 0) (ex_alloc zer124) hH34) ?_
  rintro _ M37 ⟨b36, rfl, hH37⟩
  refine Run.opsEnd (Run.seq (Run.seq (Run.region ?_)))
  refine Run.opG wantS_none (ex_loadA rfl (hH37.cells (i := 1) rfl 0 rfl) rdLe_rfl agg121 rfl rfl rfl) rfl ?_
  refine Run.opG wantS_none (ex_move rfl) rfl ?_
  refine Run.opsEnd (Run.block (Run.loop ?_))
  exact Run.pick [5, 24, 25] (alert_textOf_1_ok F F a0.Event a0.Version a0.Time a0.Chance.N a0.Chance.Of a0.Grid a0.Cells a0.Withdrawn a0.Before s0 b36 _ _ _ hs0 (hH37.pick [0, 4, 5, 6] rfl rfl) h)

theorem mkk75 : makeK Tryd.prog 75 = none := by kernel_rfl
theorem cal75 : callable Tryd.prog 75 = true := by kernel_rfl
theorem uvk5_3 : uvK Tryd.prog 5 3 = none := by kernel_rfl
theorem cvk5_3 : cvK Tryd.prog 5 3 = some (.int .i64) := by kernel_rfl
abbrev alert_digestOf_post (r : Int) : SV → Mem → Prop := fun s _ => s = (.int .i64 r)

def alert_digestOf_1 (F : Nat) : Nat → Int → (List Int) → Int → Int → Option (Int)
  | 0, _, _, _, _ => none
  | N + 1, v3, v8, v9, v10 =>
    bif (decide (v10 < v9)) then
      bnd (idx v8 v10) fun x37 =>
      (alert_digestOf_1 F N) (Int.tmod (w64 ((w64 ((w64 (v3 * (31 : Int))) + (w64 x37))) + (1 : Int))) (2147483647 : Int)) v8 v9 (w64 (v10 + (1 : Int)))
    else
      some v3

theorem alert_digestOf_1_ok (F : Nat) : ∀ (N : Nat), ∀ (v3 : Int) (v8 : (List Int)) (v9 v10 : Int) (sv8 : SV) (Fr : Rd) (M : Mem) (r : Int) (hv8 : Slc Fr 1 (FlatR enc5) sv8 v8) (hH : Has Fr M [tb0, tb1, tb2]), alert_digestOf_1 F N v3 v8 v9 v10 = some r → Run Tryd.prog ⟨⟨45, [], none⟩, []⟩ 23 (alert_digestOf_post r) [(3, (.int .i64 v3)), (8, sv8), (9, (.int .i64 v9)), (10, (.int .i64 v10))] [codeC Tryd.prog 45 [1, 1, 0, 1, 0, 0], loopC Tryd.prog 45 [1, 1, 0, 1, 0, 0], .inBlock 0, codeC Tryd.prog 45 [1, 1, 1]] M := by
  intro N
  induction N with
  | zero =>
    intro v3 v8 v9 v10 sv8 Fr M r hv8 hH h
    simp [alert_digestOf_1] at h
  | succ N ih =>
    intro v3 v8 v9 v10 sv8 Fr M r hv8 hH h
    rw [alert_digestOf_1] at h
    refine Run.seq (Run.region ?_)
    refine Run.opG wantS_none (ex_lss rfl rfl) rfl ?_
    refine Run.opsEnd (Run.seq ?_)
    rcases btf ((decide (v10 < v9))) with hc35 | hc35
    · have h := bif_t hc35 h
      refine Run.condT' rfl hc35 ?_
      refine Run.skip (Run.seq (Run.block (Run.seq (Run.region ?_))))
      obtain ⟨x37, hx37, h⟩ := bnd_some h
      obtain ⟨p37, o37, _, hx37, hp37, rfl⟩ := sl_elem (P := Tryd.prog) (t := 108) (kk := .i64) hv8 hx37 els108
      refine Run.opG wantS_none (ex_elX rfl rfl hx37) rfl ?_
      refine Run.opG wantS_none (ex_load1 rfl (hH.ptrF hp37) rdLe_rfl agg5) rfl ?_
      refine Run.opG wantS_none (ex_assign rfl) rfl ?_
      refine Run.opsEnd (Run.region ?_)
      refine Run.opG wantS_none (ex_move rfl) rfl ?_
      refine Run.opG wantS_none (ex_mul rfl rfl) rfl ?_
      refine Run.opG wantS_none (ex_move rfl) rfl ?_
      refine Run.opG wantS_none (ex_conv rfl uvk5_3 cvk5_3) rfl ?_
      refine Run.opG wantS_none (ex_add rfl rfl) rfl ?_
      refine Run.opG wantS_none (ex_add rfl rfl) rfl ?_
      refine Run.opG wantS_none (ex_rem rfl rfl (by decide)) rfl ?_
      refine Run.opG wantS_none (ex_assign rfl) rfl ?_
      refine Run.opsEnd (Run.inBlock (Run.region ?_))
      refine Run.opG wantS_none (ex_add rfl rfl) rfl ?_
      refine Run.opG wantS_none (ex_move rfl) rfl ?_
      refine Run.opsEnd (Run.inLoop ?_)
      exact Run.pick [3, 8, 9, 10] (ih (Int.tmod (w64 ((w64 ((w64 (v3 * (31 : Int))) + (w64 x37))) + (1 : Int))) (2147483647 : Int)) v8 v9 (w64 (v10 + (1 : Int))) sv8 _ _ _ hv8 hH h)
    · have h := bif_f hc35 h
      refine Run.condF' rfl hc35 ?_
      refine Run.exit rfl (Run.seq (Run.region ?_))
      refine Run.opG wantS_none (ex_move rfl) rfl ?_
      refine Run.opG wantS_none (ex_assign rfl) rfl ?_
      refine Run.opsEnd ?_
      cases h
      exact Run.ret Tryd.func45 rfl (res_tmp rfl res_nil) rfl

def alert_digestOf (F : Nat) (a0 : S_api_Alert) : Option (Int) :=
  bnd (alert_textOf F a0) fun r28 =>
  bnd (byt r28) fun l31 =>
  alert_digestOf_1 F F (7 : Int) l31 (l31.length : Int) (0 : Int)

theorem alert_digestOf_ok (F : Nat) (a0 : S_api_Alert) (s0 : SV) (r : Int) (M : Mem) (hs0 : Slc (rd M) 1 (FlatR enc3) s0 a0.Cells) (hfx : FixIn M fixes) (h : alert_digestOf F a0 = some r) : CallsM Tryd.prog 45 [(.agg [(.str a0.Event), (.int .i64 a0.Version), (.int .i64 a0.Time), (.int .i64 a0.Chance.N), (.int .i64 a0.Chance.Of), (.int .i64 a0.Grid), s0, (.bool a0.Withdrawn), (.int .i64 a0.Before)])] M (fun s M' => s = (.int .i64 r) ∧ M' = M) := by
  refine CallsM.plain Tryd.func45 rfl rfl rfl (show Run _ _ _ (alert_digestOf_post r) _ _ _ from ?_)
  rw [alert_digestOf] at h
  replace hs0 := hs0.mono (rdLe_frozen M) (fun _ _ h => h)
  have hH : Has (ro (frozen M)) (frozen M) [tb0, tb1, tb2] := Has.ofFix hfx.frozen
  refine Run.seq (Run.region ?_)
  refine Run.opX wantS_none rfl (ExG.box rfl rfl hH) ?_
  rintro _ M26 ⟨b25, rfl, hH26⟩
  refine Run.opG wantS_none (ex_assign rfl) rfl ?_
  refine Run.opsEnd (Run.seq (Run.region ?_))
  refine Run.opG wantS_none (ex_assign rfl) rfl ?_
  refine Run.opsEnd (Run.seq (Run.seq (Run.region ?_)))
  refine Run.opG wantS_none (ex_loadA rfl (hH26.cells (i := 0) rfl 0 rfl) rdLe_rfl agg29 rfl rfl rfl) rfl ?_
  obtain ⟨r28, hr28, h⟩ := bnd_some h
  refine Run.callP wantS_none (ex_call rfl mkk75 cal75) rfl (alert_textOf_ok F a0 s0 _ _ (hH26.slcF hs0) (fixH hH26 (List.mem_of_getElem? (i := 1) rfl) (List.mem_of_getElem? (i := 2) rfl) (List.mem_of_getElem? (i := 3) rfl)) hr28) ?_
  obtain ⟨l31, hl31, h⟩ := bnd_some h
  refine Run.opX wantS_none rfl (ExG.bytes rfl uvk9_108 cvk9_108 hl31 hH26) ?_
  rintro _ M32 ⟨b32, rfl, hH32⟩
  refine Run.freezeB (t := 8) (i := 0) (enc := enc5) (fun _ => rfl) hl31 rfl hH32 rfl ?_
  intro F33 M33 hle33 (hH33 : Has F33 M33 [.vec 0 0 0 .nils [], .obj b25 (.row 29 .whole [(.str a0.Event), (.int .i64 a0.Version), (.int .i64 a0.Time), (.int .i64 a0.Chance.N), (.int .i64 a0.Chance.Of), (.int .i64 a0.Grid), s0, (.bool a0.Withdrawn), (.int .i64 a0.Before)]), tb0, tb1, tb2]) hf33
  replace hs0 := hs0.mono hle33 (fun _ _ h => h)
  refine Run.opG wantS_none (ex_len' rfl hf33 lenk108) rfl ?_
  refine Run.opG wantS_none (ex_move rfl) rfl ?_
  refine Run.opsEnd (Run.block (Run.loop ?_))
  exact Run.pick [3, 8, 9, 10] (alert_digestOf_1_ok F F (7 : Int) l31 (l31.length : Int) (0 : Int) (.ope b32 0 l31.length 1) _ _ _ hf33 (hH33.pick [2, 3, 4] rfl rfl) h)

theorem mkk45 : makeK Tryd.prog 45 = none := by kernel_rfl
theorem cal45 : callable Tryd.prog 45 = true := by kernel_rfl
theorem off46_1 : fieldOff Tryd.prog 46 1 = some 9 := by kernel_rfl
theorem agg44 : aggSize Tryd.prog 44 = some none := by kernel_rfl
theorem lenk44 : lenK Tryd.prog 44 = some .sl := by kernel_rfl
theorem els44 : elems Tryd.prog 44 = some (.sl 2) := by kernel_rfl
theorem agg111 : aggSize Tryd.prog 111 = some (some 2) := by kernel_rfl
theorem zer111 : zerosOf Tryd.prog 111 = some [(.int .i64 0), (.int .i64 0)] := by kernel_rfl
theorem sz111 : szOf Tryd.prog 111 = some 2 := by kernel_rfl
theorem off111_0 : fieldOff Tryd.prog 111 0 = some 0 := by kernel_rfl
theorem off97_0 : fieldOff Tryd.prog 97 0 = some 0 := by kernel_rfl
theorem agg95 : aggSize Tryd.prog 95 = some none := by kernel_rfl
theorem lenk95 : lenK Tryd.prog 95 = some .sl := by kernel_rfl
theorem els95 : elems Tryd.prog 95 = some (.sl 2) := by kernel_rfl
theorem agg79 : aggSize Tryd.prog 79 = some (some 2) := by kernel_rfl
theorem off111_1 : fieldOff Tryd.prog 111 1 = some 1 := by kernel_rfl
theorem mkk74 : makeK Tryd.prog 74 = none := by kernel_rfl
theorem cal74 : callable Tryd.prog 74 = true := by kernel_rfl
abbrev alert_key_power_post (r : Int) : SV → Mem → Prop := fun s _ => s = (.int .i64 r)

def alert_key_power_2 (F : Nat) (hd1 : Int → Int → Int → S_api_Key → Option (Int)) (v1 v2 v8 : Int) (c22 : S_api_Key) : Option (Int) :=
  bnd (nz c22.Modulus) fun z31 =>
  hd1 (Int.tmod (w64 (v1 * v1)) c22.Modulus) (w64 (Int.tdiv v2 (2 : Int))) v8 c22

theorem alert_key_power_2_ok (F : Nat) (hd1 : Int → Int → Int → S_api_Key → Option (Int)) (hhd1 : ∀ (v1 v2 v8 : Int) (c22 : S_api_Key) (b22 : Pos) (Fr : Rd) (M : Mem) (r : Int) (hH : Has Fr M [.obj b22 (.row 79 .whole [(.int .i64 c22.Modulus), (.int .i64 c22.Exponent)])]), hd1 v1 v2 v8 c22 = some r → Run Tryd.prog ⟨⟨44, [], none⟩, []⟩ 30 (alert_key_power_post r) [(1, (.int .i64 v1)), (2, (.int .i64 v2)), (7, (.fn (.func 74) [] [(.ptr b22 0)])), (8, (.int .i64 v8))] [codeC Tryd.prog 44 [1, 1, 1, 0, 1, 0, 0], loopC Tryd.prog 44 [1, 1, 1, 0, 1, 0, 0], .inBlock 0, codeC Tryd.prog 44 [1, 1, 1, 1]] M) : ∀ (v1 v2 v8 : Int) (c22 : S_api_Key) (b22 : Pos) (Fr : Rd) (M : Mem) (r : Int) (hH : Has Fr M [.obj b22 (.row 79 .whole [(.int .i64 c22.Modulus), (.int .i64 c22.Exponent)])]), alert_key_power_2 F hd1 v1 v2 v8 c22 = some r → Run Tryd.prog ⟨⟨44, [], none⟩, []⟩ 30 (alert_key_power_post r) [(1, (.int .i64 v1)), (2, (.int .i64 v2)), (7, (.fn (.func 74) [] [(.ptr b22 0)])), (8, (.int .i64 v8))] [itemC Tryd.prog 44 [1, 1, 1, 0, 1, 0, 0, 1, 0, 0, 1] 0, .inBlock 1, codeC Tryd.prog 44 [1, 1, 1, 0, 1, 0, 0, 1, 1], loopC Tryd.prog 44 [1, 1, 1, 0, 1, 0, 0], .inBlock 0, codeC Tryd.prog 44 [1, 1, 1, 1]] M := by
  intro v1 v2 v8 c22 b22 Fr M r hH h
  rw [alert_key_power_2] at h
  refine Run.opG wantS_none (ex_move rfl) rfl ?_
  refine Run.opG wantS_none (ex_move rfl) rfl ?_
  refine Run.opG wantS_none (ex_move rfl) rfl ?_
  refine Run.enter wantS_none (ex_closure rfl rfl mkk74 cal74) Tryd.func74 rfl rfl ?_
  refine Run.seq (Run.region ?_)
  refine Run.opG wantS_none (ex_assign rfl) rfl ?_
  refine Run.opsEnd (Run.seq (Run.region ?_))
  refine Run.opG wantS_none (ex_move rfl) rfl ?_
  refine Run.opG wantS_none (ex_move rfl) rfl ?_
  refine Run.opG wantS_none (ex_mul rfl rfl) rfl ?_
  refine Run.opG wantS_none (ex_fieldAddr rfl off79_0) rfl ?_
  refine Run.opG wantS_none (ex_load1 rfl (hH.cells (i := 0) rfl 0 rfl) rdLe_rfl agg3) rfl ?_
  obtain ⟨z31, hz31, h⟩ := bnd_some h
  refine Run.opG wantS_none (ex_rem' rfl rfl hz31) rfl ?_
  refine Run.opG wantS_none (ex_assign rfl) rfl ?_
  refine Run.opsEnd ?_
  refine Run.retTo Tryd.func74 rfl (res_tmp rfl res_nil) rfl ?_
  refine Run.opG wantS_none (ex_assign rfl) rfl ?_
  refine Run.opsEnd (Run.inBlock (Run.region ?_))
  refine Run.opG wantS_none (ex_move rfl) rfl ?_
  refine Run.opG wantS_none (ex_quo rfl rfl (by decide)) rfl ?_
  refine Run.opG wantS_none (ex_assign rfl) rfl ?_
  refine Run.opsEnd (Run.inLoop ?_)
  exact Run.pick [1, 2, 7, 8] (hhd1 (Int.tmod (w64 (v1 * v1)) c22.Modulus) (w64 (Int.tdiv v2 (2 : Int))) v8 c22 b22 _ _ _ hH h)

def alert_key_power_1 (F : Nat) : Nat → Int → Int → Int → S_api_Key → Option (Int)
  | 0, _, _, _, _ => none
  | N + 1, v1, v2, v8, c22 =>
    bif (decide ((0 : Int) < v2)) then
      bif ((Int.tmod v2 (2 : Int)) == (1 : Int)) then
        bnd (nz c22.Modulus) fun z29 =>
        alert_key_power_2 F (alert_key_power_1 F N) v1 v2 (Int.tmod (w64 (v8 * v1)) c22.Modulus) c22
      else
        alert_key_power_2 F (alert_key_power_1 F N) v1 v2 v8 c22
    else
      some v8

theorem alert_key_power_1_ok (F : Nat) : ∀ (N : Nat), ∀ (v1 v2 v8 : Int) (c22 : S_api_Key) (b22 : Pos) (Fr : Rd) (M : Mem) (r : Int) (hH : Has Fr M [.obj b22 (.row 79 .whole [(.int .i64 c22.Modulus), (.int .i64 c22.Exponent)])]), alert_key_power_1 F N v1 v2 v8 c22 = some r → Run Tryd.prog ⟨⟨44, [], none⟩, []⟩ 30 (alert_key_power_post r) [(1, (.int .i64 v1)), (2, (.int .i64 v2)), (7, (.fn (.func 74) [] [(.ptr b22 0)])), (8, (.int .i64 v8))] [codeC Tryd.prog 44 [1, 1, 1, 0, 1, 0, 0], loopC Tryd.prog 44 [1, 1, 1, 0, 1, 0, 0], .inBlock 0, codeC Tryd.prog 44 [1, 1, 1, 1]] M := by
  intro N
  induction N with
  | zero =>
    intro v1 v2 v8 c22 b22 Fr M r hH h
    simp [alert_key_power_1] at h
  | succ N ih =>
    intro v1 v2 v8 c22 b22 Fr M r hH h
    rw [alert_key_power_1] at h
    refine Run.seq (Run.seq (Run.region ?_))
    refine Run.opG wantS_none (ex_move rfl) rfl ?_
    refine Run.opG wantS_none (ex_gtr rfl rfl) rfl ?_
    refine Run.opsEnd ?_
    rcases btf ((decide ((0 : Int) < v2))) with hc26 | hc26
    · have h := bif_t hc26 h
      refine Run.condT' rfl hc26 ?_
      refine Run.skip (Run.seq (Run.block (Run.seq (Run.seq (Run.region ?_)))))
      refine Run.opG wantS_none (ex_move rfl) rfl ?_
      refine Run.opG wantS_none (ex_rem rfl rfl (by decide)) rfl ?_
      refine Run.opG wantS_none (ex_eql rfl rfl) rfl ?_
      refine Run.opsEnd ?_
      rcases btf (((Int.tmod v2 (2 : Int)) == (1 : Int))) with hc27 | hc27
      · have h := bif_t hc27 h
        refine Run.condT' rfl hc27 ?_
        refine Run.region ?_
        refine Run.opG wantS_none (ex_move rfl) rfl ?_
        refine Run.opG wantS_none (ex_move rfl) rfl ?_
        refine Run.opG wantS_none (ex_move rfl) rfl ?_
        refine Run.enter wantS_none (ex_closure rfl rfl mkk74 cal74) Tryd.func74 rfl rfl ?_
        refine Run.seq (Run.region ?_)
        refine Run.opG wantS_none (ex_assign rfl) rfl ?_
        refine Run.opsEnd (Run.seq (Run.region ?_))
        refine Run.opG wantS_none (ex_move rfl) rfl ?_
        refine Run.opG wantS_none (ex_move rfl) rfl ?_
        refine Run.opG wantS_none (ex_mul rfl rfl) rfl ?_
        refine Run.opG wantS_none (ex_fieldAddr rfl off79_0) rfl ?_
        refine Run.opG wantS_none (ex_load1 rfl (hH.cells (i := 0) rfl 0 rfl) rdLe_rfl agg3) rfl ?_
        obtain ⟨z29, hz29, h⟩ := bnd_some h
        refine Run.opG wantS_none (ex_rem' rfl rfl hz29) rfl ?_
        refine Run.opG wantS_none (ex_assign rfl) rfl ?_
        refine Run.opsEnd ?_
        refine Run.retTo Tryd.func74 rfl (res_tmp rfl res_nil) rfl ?_
        refine Run.opG wantS_none (ex_assign rfl) rfl ?_
        refine Run.opsEnd (Run.region ?_)
        exact Run.pick [1, 2, 7, 8] (alert_key_power_2_ok F (alert_key_power_1 F N) ih v1 v2 (Int.tmod (w64 (v8 * v1)) c22.Modulus) c22 b22 _ _ _ hH h)
      · have h := bif_f hc27 h
        refine Run.condF' rfl hc27 ?_
        refine Run.skip (Run.region ?_)
        exact Run.pick [1, 2, 7, 8] (alert_key_power_2_ok F (alert_key_power_1 F N) ih v1 v2 v8 c22 b22 _ _ _ hH h)
    · have h := bif_f hc26 h
      refine Run.condF' rfl hc26 ?_
      refine Run.exit rfl (Run.seq (Run.region ?_))
      refine Run.opG wantS_none (ex_move rfl) rfl ?_
      refine Run.opG wantS_none (ex_assign rfl) rfl ?_
      refine Run.opsEnd ?_
      cases h
      exact Run.ret Tryd.func44 rfl (res_tmp rfl res_nil) rfl

def alert_key_power (F : Nat) (a0 : S_api_Key) (a1 a2 : Int) : Option (Int) :=
  bnd (nz a0.Modulus) fun z25 =>
  alert_key_power_1 F F (Int.tmod a1 a0.Modulus) a2 (1 : Int) a0

theorem alert_key_power_ok (F : Nat) (a0 : S_api_Key) (a1 a2 r : Int) (M : Mem) (h : alert_key_power F a0 a1 a2 = some r) : CallsM Tryd.prog 44 [(.agg [(.int .i64 a0.Modulus), (.int .i64 a0.Exponent)]), (.int .i64 a1), (.int .i64 a2)] M (fun s M' => s = (.int .i64 r) ∧ M' = M) := by
  refine CallsM.plain Tryd.func44 rfl rfl rfl (show Run _ _ _ (alert_key_power_post r) _ _ _ from ?_)
  rw [alert_key_power] at h
  have hH := Has.nil (frozen M)
  refine Run.seq (Run.region ?_)
  refine Run.opX wantS_none rfl (ExG.box rfl rfl hH) ?_
  rintro _ M23 ⟨b22, rfl, hH23⟩
  refine Run.opG wantS_none (ex_assign rfl) rfl ?_
  refine Run.opsEnd (Run.seq (Run.region ?_))
  refine Run.opG wantS_none (ex_makeFunc rfl rfl) rfl ?_
  refine Run.opG wantS_none (ex_assign rfl) rfl ?_
  refine Run.opsEnd (Run.seq (Run.region ?_))
  refine Run.opG wantS_none (ex_assign rfl) rfl ?_
  refine Run.opsEnd (Run.seq (Run.seq (Run.region ?_)))
  refine Run.opG wantS_none (ex_move rfl) rfl ?_
  refine Run.opG wantS_none (ex_fieldAddr rfl off79_0) rfl ?_
  refine Run.opG wantS_none (ex_load1 rfl (hH23.cells (i := 0) rfl 0 rfl) rdLe_rfl agg3) rfl ?_
  obtain ⟨z25, hz25, h⟩ := bnd_some h
  refine Run.opG wantS_none (ex_rem' rfl rfl hz25) rfl ?_
  refine Run.opG wantS_none (ex_assign rfl) rfl ?_
  refine Run.opsEnd (Run.block (Run.loop ?_))
  exact Run.pick [1, 2, 7, 8] (alert_key_power_1_ok F F (Int.tmod a1 a0.Modulus) a2 (1 : Int) a0 b22 _ _ _ hH23 h)

theorem mkk44 : makeK Tryd.prog 44 = none := by kernel_rfl
theorem cal44 : callable Tryd.prog 44 = true := by kernel_rfl
theorem plan50_1_0 : planOf Tryd.prog (opsC (atC Tryd.prog 50 [1, 0])) = some [.fl 0, .fl 1, .fl 2, .fl 3, .an 4 [], .fl 5, .fl 6, .fl 7, .fl 8, .fl 9, .fl 11, .fl 12, .fl 13, .fl 14, .an 10 [14, 13, 12, 11], .fl 15, .fl 16, .fl 17, .sync] := by kernel_rfl
abbrev alert_key_isSigned_post (r : Bool) : SV → Mem → Prop := fun s _ => s = (.bool r)

def alert_key_isSigned_1 (F : Nat) (v6 : Bool) : Option (Bool) :=
  some v6

theorem alert_key_isSigned_1_ok (F : Nat) : ∀ (v6 : Bool) (Fr : Rd) (M : Mem) (r : Bool) (hH : Has Fr M []), alert_key_isSigned_1 F v6 = some r → Run Tryd.prog ⟨⟨50, [], none⟩, []⟩ 24 (alert_key_isSigned_post r) [(6, (.bool v6))] [codeC Tryd.prog 50 [1, 1]] M := by
  intro v6 Fr M r hH h
  rw [alert_key_isSigned_1] at h
  cases h
  exact Run.ret Tryd.func50 rfl (res_tmp rfl res_nil) rfl

def alert_key_isSigned (F : Nat) (a0 : S_api_Key) (a1 a2 : Int) : Option (Bool) :=
  bnd (alert_isFrom F (0 : Int) a2 (w64 (a0.Modulus - (1 : Int)))) fun r24 =>
  bif r24 then
    bnd (nz a0.Modulus) fun z27 =>
    bnd (alert_key_power F a0 a2 a0.Exponent) fun r28 =>
    alert_key_isSigned_1 F (r28 == (Int.tmod a1 a0.Modulus))
  else
    alert_key_isSigned_1 F false

theorem alert_key_isSigned_ok (F : Nat) (a0 : S_api_Key) (a1 a2 : Int) (r : Bool) (M : Mem) (h : alert_key_isSigned F a0 a1 a2 = some r) : CallsM Tryd.prog 50 [(.agg [(.int .i64 a0.Modulus), (.int .i64 a0.Exponent)]), (.int .i64 a1), (.int .i64 a2)] M (fun s M' => s = (.bool r) ∧ M' = M) := by
  refine CallsM.plain Tryd.func50 rfl rfl rfl (show Run _ _ _ (alert_key_isSigned_post r) _ _ _ from ?_)
  rw [alert_key_isSigned] at h
  have hH := Has.nil (frozen M)
  refine Run.seq (Run.region ?_)
  refine Run.opX wantS_none rfl (ExG.box rfl rfl hH) ?_
  rintro _ M23 ⟨b22, rfl, hH23⟩
  refine Run.opG wantS_none (ex_assign rfl) rfl ?_
  refine Run.opsEnd (Run.seq ?_)
  refine Run.drawG plan50_1_0 ?_
  refine DrawG.fl rfl (ev_ex wantS_none (ex_move rfl)) rfl ?_
  refine DrawG.fl rfl (ev_ex wantS_none (ex_fieldAddr rfl off79_0)) rfl ?_
  refine DrawG.fl rfl (ev_ex wantS_none (ex_load1 rfl (hH23.cells (i := 0) rfl 0 rfl) rdLe_rfl agg3)) rfl ?_
  refine DrawG.fl rfl (ev_ex wantS_none (ex_sub rfl rfl)) rfl ?_
  obtain ⟨r24, hr24, h⟩ := bnd_some h
  refine DrawG.callP rfl wantS_none (ex_call rfl mkk36 cal36) rfl (alert_isFrom_ok F (0 : Int) a2 (w64 (a0.Modulus - (1 : Int))) _ _ hr24) st_nil ?_
  refine DrawG.fl rfl (ev_ex wantS_none (ex_move rfl)) rfl ?_
  rcases btf (r24) with hc26 | hc26
  · have h := bif_t hc26 h
    refine DrawG.fl rfl (ev_ex (wantS_yes' rfl rfl hc26) (ex_loadA rfl (hH23.cells (i := 0) rfl 0 rfl) rdLe_rfl agg79 rfl rfl rfl)) rfl ?_
    refine DrawG.fl rfl (ev_ex (wantS_yes' rfl rfl hc26) (ex_move rfl)) rfl ?_
    refine DrawG.fl rfl (ev_ex (wantS_yes' rfl rfl hc26) (ex_fieldAddr rfl off79_1)) rfl ?_
    refine DrawG.fl rfl (ev_ex (wantS_yes' rfl rfl hc26) (ex_load1 rfl (hH23.cells (i := 0) rfl 1 rfl) rdLe_rfl agg3)) rfl ?_
    refine DrawG.fl rfl (ev_ex (wantS_yes' rfl rfl hc26) (ex_move rfl)) rfl ?_
    refine DrawG.fl rfl (ev_ex (wantS_yes' rfl rfl hc26) (ex_fieldAddr rfl off79_0)) rfl ?_
    refine DrawG.fl rfl (ev_ex (wantS_yes' rfl rfl hc26) (ex_load1 rfl (hH23.cells (i := 0) rfl 0 rfl) rdLe_rfl agg3)) rfl ?_
    obtain ⟨z27, hz27, h⟩ := bnd_some h
    refine DrawG.fl rfl (ev_ex (wantS_yes' rfl rfl hc26) (ex_rem' rfl rfl hz27)) rfl ?_
    obtain ⟨r28, hr28, h⟩ := bnd_some h
    refine DrawG.callP rfl (wantS_yes' rfl rfl hc26) (ex_call rfl mkk44 cal44) rfl (alert_key_power_ok F a0 a2 a0.Exponent _ _ hr28) (st_cons rfl (ev_ex (wantS_yes' rfl rfl hc26) (ex_rem' rfl rfl hz27)) rfl rfl rfl (st_cons rfl (ev_ex (wantS_yes' rfl rfl hc26) (ex_load1 rfl (hH23.cells (i := 0) rfl 0 rfl) rdLe_rfl agg3)) rfl rfl rfl (st_cons rfl (ev_ex (wantS_yes' rfl rfl hc26) (ex_fieldAddr rfl off79_0)) rfl rfl rfl (st_cons rfl (ev_ex (wantS_yes' rfl rfl hc26) (ex_move rfl)) rfl rfl rfl st_nil)))) ?_
    refine DrawG.fl rfl (ev_ex (wantS_yes' rfl rfl hc26) (ex_eql rfl rfl)) rfl ?_
    refine DrawG.fl rfl (ev_ex wantS_none (ex_pickT' rfl hc26 rfl rfl)) rfl ?_
    refine DrawG.fl rfl (ev_ex wantS_none (ex_assign rfl)) rfl ?_
    refine DrawG.sync ?_
    refine DrawG.nil ?_
    exact Run.pick [6] (alert_key_isSigned_1_ok F (r28 == (Int.tmod a1 a0.Modulus)) _ _ _ (hH23.pick [] rfl rfl) h)
  · have h := bif_f hc26 h
    refine DrawG.fl rfl (ev_no (wantS_not' rfl rfl hc26)) rfl ?_
    refine DrawG.fl rfl (ev_no (wantS_not' rfl rfl hc26)) rfl ?_
    refine DrawG.fl rfl (ev_no (wantS_not' rfl rfl hc26)) rfl ?_
    refine DrawG.fl rfl (ev_no (wantS_not' rfl rfl hc26)) rfl ?_
    refine DrawG.fl rfl (ev_no (wantS_not' rfl rfl hc26)) rfl ?_
    refine DrawG.fl rfl (ev_no (wantS_not' rfl rfl hc26)) rfl ?_
    refine DrawG.fl rfl (ev_no (wantS_not' rfl rfl hc26)) rfl ?_
    refine DrawG.fl rfl (ev_no (wantS_not' rfl rfl hc26)) rfl ?_
    refine DrawG.no rfl (wantS_not' rfl rfl hc26) rfl (st_cons rfl (ev_no (wantS_not' rfl rfl hc26)) rfl rfl rfl (st_cons rfl (ev_no (wantS_not' rfl rfl hc26)) rfl rfl rfl (st_cons rfl (ev_no (wantS_not' rfl rfl hc26)) rfl rfl rfl (st_cons rfl (ev_no (wantS_not' rfl rfl hc26)) rfl rfl rfl st_nil)))) ?_
    refine DrawG.fl rfl (ev_no (wantS_not' rfl rfl hc26)) rfl ?_
    refine DrawG.fl rfl (ev_ex wantS_none (ex_pickF' rfl hc26 rfl rfl)) rfl ?_
    refine DrawG.fl rfl (ev_ex wantS_none (ex_assign rfl)) rfl ?_
    refine DrawG.sync ?_
    refine DrawG.nil ?_
    exact Run.pick [6] (alert_key_isSigned_1_ok F false _ _ _ (hH23.pick [] rfl rfl) h)

theorem mkk50 : makeK Tryd.prog 50 = none := by kernel_rfl
theorem cal50 : callable Tryd.prog 50 = true := by kernel_rfl
theorem plan80_1_1_0_1_0_0_1_1_0_0_1_0_0 : planOf Tryd.prog (opsC (atC Tryd.prog 80 [1, 1, 0, 1, 0, 0, 1, 1, 0, 0, 1, 0, 0])) = some [.fl 0, .fl 1, .fl 2, .fl 3, .fl 4, .fl 5, .fl 6, .fl 7, .an 8 [], .fl 9, .fl 10, .fl 11, .fl 12, .fl 13, .fl 14, .fl 15, .fl 16, .fl 17, .fl 18, .fl 19, .an 20 [], .fl 21, .fl 22, .sync] := by kernel_rfl
abbrev alert_roll_isSigned_post (r : Bool) : SV → Mem → Prop := fun s _ => s = (.bool r)

def alert_roll_isSigned_2 (F : Nat) (hd1 : Int → Int → (List S_api_Signature) → Int → Int → (List S_api_Key) → Int → Option (Bool)) (v5 : Int) (v13 : (List S_api_Signature)) (v14 v15 : Int) (v41 : Bool) (c25_0 : (List S_api_Key)) (c25_1 : Int) (c37 : S_api_Signature) : Option (Bool) :=
  bif v41 then
    some false
  else
    hd1 v5 c37.Signer v13 v14 (w64 (v15 + (1 : Int))) c25_0 c25_1

theorem alert_roll_isSigned_2_ok (F : Nat) (hd1 : Int → Int → (List S_api_Signature) → Int → Int → (List S_api_Key) → Int → Option (Bool)) (hhd1 : ∀ (v5 v6 : Int) (v13 : (List S_api_Signature)) (v14 v15 : Int) (c25_0 : (List S_api_Key)) (c25_1 : Int) (sv13 sc25_0 : SV) (b25 : Pos) (Fr : Rd) (M : Mem) (r : Bool) (hv13 : Slc Fr 2 (FlatR enc111) sv13 v13) (hc25_0 : Slc Fr 2 (FlatR enc79) sc25_0 c25_0) (hH : Has Fr M [.obj b25 (.row 97 .whole [sc25_0, (.int .i64 c25_1)]), tb0, tb1, tb2]), hd1 v5 v6 v13 v14 v15 c25_0 c25_1 = some r → Run Tryd.prog ⟨⟨80, [], none⟩, []⟩ 45 (alert_roll_isSigned_post r) [(2, (.ptr b25 0)), (5, (.int .i64 v5)), (6, (.int .i64 v6)), (13, sv13), (14, (.int .i64 v14)), (15, (.int .i64 v15))] [codeC Tryd.prog 80 [1, 1, 0, 1, 0, 0], loopC Tryd.prog 80 [1, 1, 0, 1, 0, 0], .inBlock 0, codeC Tryd.prog 80 [1, 1, 1]] M) : ∀ (v5 : Int) (v13 : (List S_api_Signature)) (v14 v15 : Int) (v41 : Bool) (c25_0 : (List S_api_Key)) (c25_1 : Int) (c37 : S_api_Signature) (sv13 sc25_0 : SV) (b25 b37 : Pos) (Fr : Rd) (M : Mem) (r : Bool) (hv13 : Slc Fr 2 (FlatR enc111) sv13 v13) (hc25_0 : Slc Fr 2 (FlatR enc79) sc25_0 c25_0) (hH : Has Fr M [.obj b25 (.row 97 .whole [sc25_0, (.int .i64 c25_1)]), .obj b37 (.row 111 .whole [(.int .i64 c37.Signer), (.int .i64 c37.Number)]), tb0, tb1, tb2]), alert_roll_isSigned_2 F hd1 v5 v13 v14 v15 v41 c25_0 c25_1 c37 = some r → Run Tryd.prog ⟨⟨80, [], none⟩, []⟩ 45 (alert_roll_isSigned_post r) [(2, (.ptr b25 0)), (5, (.int .i64 v5)), (8, (.ptr b37 0)), (13, sv13), (14, (.int .i64 v14)), (15, (.int .i64 v15)), (41, (.bool v41))] [codeC Tryd.prog 80 [1, 1, 0, 1, 0, 0, 1, 1, 0, 0, 1, 0, 1], codeC Tryd.prog 80 [1, 1, 0, 1, 0, 0, 1, 1, 0, 0, 1, 1], .inBlock 1, codeC Tryd.prog 80 [1, 1, 0, 1, 0, 0, 1, 1, 1], loopC Tryd.prog 80 [1, 1, 0, 1, 0, 0], .inBlock 0, codeC Tryd.prog 80 [1, 1, 1]] M := by
  intro v5 v13 v14 v15 v41 c25_0 c25_1 c37 sv13 sc25_0 b25 b37 Fr M r hv13 hc25_0 hH h
  rw [alert_roll_isSigned_2] at h
  rcases btf (v41) with hc43 | hc43
  · have h := bif_t hc43 h
    refine Run.condT' rfl hc43 ?_
    refine Run.seq (Run.region ?_)
    refine Run.opG wantS_none (ex_assign rfl) rfl ?_
    refine Run.opsEnd ?_
    cases h
    exact Run.ret Tryd.func80 rfl (res_tmp rfl res_nil) rfl
  · have h := bif_f hc43 h
    refine Run.condF' rfl hc43 ?_
    refine Run.skip (Run.region ?_)
    refine Run.opG wantS_none (ex_fieldAddr rfl off111_0) rfl ?_
    refine Run.opG wantS_none (ex_load1 rfl (hH.cells (i := 1) rfl 0 rfl) rdLe_rfl agg3) rfl ?_
    refine Run.opG wantS_none (ex_assign rfl) rfl ?_
    refine Run.opsEnd (Run.inBlock (Run.region ?_))
    refine Run.opG wantS_none (ex_add rfl rfl) rfl ?_
    refine Run.opG wantS_none (ex_move rfl) rfl ?_
    refine Run.opsEnd (Run.inLoop ?_)
    exact Run.pick [2, 5, 6, 13, 14, 15] (hhd1 v5 c37.Signer v13 v14 (w64 (v15 + (1 : Int))) c25_0 c25_1 sv13 sc25_0 b25 _ _ _ hv13 hc25_0 (hH.pick [0, 2, 3, 4] rfl rfl) h)

def alert_roll_isSigned_1 (F : Nat) : Nat → Int → Int → (List S_api_Signature) → Int → Int → (List S_api_Key) → Int → Option (Bool)
  | 0, _, _, _, _, _, _, _ => none
  | N + 1, v5, v6, v13, v14, v15, c25_0, c25_1 =>
    bif (decide (v15 < v14)) then
      bnd (idx v13 v15) fun x35 =>
      bnd (alert_isFrom F (w64 (v6 + (1 : Int))) x35.Signer (w64 ((c25_0.length : Int) - (1 : Int)))) fun r40 =>
      bif (!r40) then
        alert_roll_isSigned_2 F (alert_roll_isSigned_1 F N) v5 v13 v14 v15 true c25_0 c25_1 x35
      else
        bnd (idx c25_0 x35.Signer) fun x44 =>
        bnd (alert_key_isSigned F x44 v5 x35.Number) fun r45 =>
        alert_roll_isSigned_2 F (alert_roll_isSigned_1 F N) v5 v13 v14 v15 (!r45) c25_0 c25_1 x35
    else
      some true

theorem alert_roll_isSigned_1_ok (F : Nat) : ∀ (N : Nat), ∀ (v5 v6 : Int) (v13 : (List S_api_Signature)) (v14 v15 : Int) (c25_0 : (List S_api_Key)) (c25_1 : Int) (sv13 sc25_0 : SV) (b25 : Pos) (Fr : Rd) (M : Mem) (r : Bool) (hv13 : Slc Fr 2 (FlatR enc111) sv13 v13) (hc25_0 : Slc Fr 2 (FlatR enc79) sc25_0 c25_0) (hH : Has Fr M [.obj b25 (.row 97 .whole [sc25_0, (.int .i64 c25_1)]), tb0, tb1, tb2]), alert_roll_isSigned_1 F N v5 v6 v13 v14 v15 c25_0 c25_1 = some r → Run Tryd.prog ⟨⟨80, [], none⟩, []⟩ 45 (alert_roll_isSigned_post r) [(2, (.ptr b25 0)), (5, (.int .i64 v5)), (6, (.int .i64 v6)), (13, sv13), (14, (.int .i64 v14)), (15, (.int .i64 v15))] [codeC Tryd.prog 80 [1, 1, 0, 1, 0, 0], loopC Tryd.prog 80 [1, 1, 0, 1, 0, 0], .inBlock 0, codeC Tryd.prog 80 [1, 1, 1]] M := by
  intro N
  induction N with
  | zero =>
    intro v5 v6 v13 v14 v15 c25_0 c25_1 sv13 sc25_0 b25 Fr M r hv13 hc25_0 hH h
    simp [alert_roll_isSigned_1] at h
  | succ N ih =>
    intro v5 v6 v13 v14 v15 c25_0 c25_1 sv13 sc25_0 b25 Fr M r hv13 hc25_0 hH h
    rw [alert_roll_isSigned_1] at h
    refine Run.seq (Run.region ?_)
    refine Run.opG wantS_none (ex_lss rfl rfl) rfl ?_
    refine Run.opsEnd (Run.seq ?_)
    rcases btf ((decide (v15 < v14))) with hc33 | hc33
    · have h := bif_t hc33 h
      refine Run.condT' rfl hc33 ?_
      refine Run.skip (Run.seq (Run.block (Run.seq (Run.region ?_))))
      obtain ⟨x35, hx35, h⟩ := bnd_some h
      obtain ⟨p35, o35, _, hx35, hp35, rfl⟩ := sl_elem (P := Tryd.prog) (t := 44) (kk := .i64) hv13 hx35 els44
      refine Run.opG wantS_none (ex_elX rfl rfl hx35) rfl ?_
      refine Run.opG wantS_none (ex_loadA rfl (hH.ptrF hp35) rdLe_rfl agg111 rfl rfl rfl) rfl ?_
      refine Run.opX wantS_none rfl (ExG.new (v := fun b => .ptr b 0) (ex_alloc zer111) hH) ?_
      rintro _ M38 ⟨b37, rfl, hH38⟩
      refine Run.opX wantS_none rfl (ExG.storeC (c' := [(.int .i64 x35.Signer), (.int .i64 x35.Number)]) rfl rfl rfl hH38 (i := 0) rfl sz111 rfl rfl rfl rfl rfl) ?_
      rintro _ M39 ⟨rfl, (hH39 : Has Fr M39 [.obj b37 (.row 111 .whole [(.int .i64 x35.Signer), (.int .i64 x35.Number)]), .obj b25 (.row 97 .whole [sc25_0, (.int .i64 c25_1)]), tb0, tb1, tb2])⟩
      refine Run.opsEnd (Run.seq (Run.seq ?_))
      refine Run.drawG plan80_1_1_0_1_0_0_1_1_0_0_1_0_0 ?_
      refine DrawG.fl rfl (ev_ex wantS_none (ex_move rfl)) rfl ?_
      refine DrawG.fl rfl (ev_ex wantS_none (ex_add rfl rfl)) rfl ?_
      refine DrawG.fl rfl (ev_ex wantS_none (ex_fieldAddr rfl off111_0)) rfl ?_
      refine DrawG.fl rfl (ev_ex wantS_none (ex_load1 rfl (hH39.cells (i := 0) rfl 0 rfl) rdLe_rfl agg3)) rfl ?_
      refine DrawG.fl rfl (ev_ex wantS_none (ex_fieldAddr rfl off97_0)) rfl ?_
      refine DrawG.fl rfl (ev_ex wantS_none (ex_load1 rfl (hH39.cells (i := 1) rfl 0 rfl) rdLe_rfl agg95)) rfl ?_
      refine DrawG.fl rfl (ev_ex wantS_none (ex_len' rfl hc25_0 lenk95)) rfl ?_
      refine DrawG.fl rfl (ev_ex wantS_none (ex_sub rfl rfl)) rfl ?_
      obtain ⟨r40, hr40, h⟩ := bnd_some h
      refine DrawG.callP rfl wantS_none (ex_call rfl mkk36 cal36) rfl (alert_isFrom_ok F (w64 (v6 + (1 : Int))) x35.Signer (w64 ((c25_0.length : Int) - (1 : Int))) _ _ hr40) st_nil ?_
      refine DrawG.fl rfl (ev_ex wantS_none (ex_not rfl)) rfl ?_
      refine DrawG.fl rfl (ev_ex wantS_none (ex_move rfl)) rfl ?_
      rcases btf ((!r40)) with hc42 | hc42
      · have h := bif_t hc42 h
        refine DrawG.fl rfl (ev_no (wantS_not' rfl rfl hc42)) rfl ?_
        refine DrawG.fl rfl (ev_no (wantS_not' rfl rfl hc42)) rfl ?_
        refine DrawG.fl rfl (ev_no (wantS_not' rfl rfl hc42)) rfl ?_
        refine DrawG.fl rfl (ev_no (wantS_not' rfl rfl hc42)) rfl ?_
        refine DrawG.fl rfl (ev_no (wantS_not' rfl rfl hc42)) rfl ?_
        refine DrawG.fl rfl (ev_no (wantS_not' rfl rfl hc42)) rfl ?_
        refine DrawG.fl rfl (ev_no (wantS_not' rfl rfl hc42)) rfl ?_
        refine DrawG.fl rfl (ev_no (wantS_not' rfl rfl hc42)) rfl ?_
        refine DrawG.fl rfl (ev_no (wantS_not' rfl rfl hc42)) rfl ?_
        refine DrawG.no rfl (wantS_not' rfl rfl hc42) rfl st_nil ?_
        refine DrawG.fl rfl (ev_no (wantS_not' rfl rfl hc42)) rfl ?_
        refine DrawG.fl rfl (ev_ex wantS_none (ex_pickT' rfl hc42 rfl rfl)) rfl ?_
        refine DrawG.sync ?_
        refine DrawG.nil ?_
        exact Run.pick [2, 5, 8, 13, 14, 15, 41] (alert_roll_isSigned_2_ok F (alert_roll_isSigned_1 F N) ih v5 v13 v14 v15 true c25_0 c25_1 x35 sv13 sc25_0 b25 b37 _ _ _ hv13 hc25_0 (hH39.pick [1, 0, 2, 3, 4] rfl rfl) h)
      · have h := bif_f hc42 h
        refine DrawG.fl rfl (ev_ex (wantS_yes' rfl rfl hc42) (ex_fieldAddr rfl off97_0)) rfl ?_
        refine DrawG.fl rfl (ev_ex (wantS_yes' rfl rfl hc42) (ex_load1 rfl (hH39.cells (i := 1) rfl 0 rfl) rdLe_rfl agg95)) rfl ?_
        refine DrawG.fl rfl (ev_ex (wantS_yes' rfl rfl hc42) (ex_fieldAddr rfl off111_0)) rfl ?_
        refine DrawG.fl rfl (ev_ex (wantS_yes' rfl rfl hc42) (ex_load1 rfl (hH39.cells (i := 0) rfl 0 rfl) rdLe_rfl agg3)) rfl ?_
        obtain ⟨x44, hx44, h⟩ := bnd_some h
        obtain ⟨p44, o44, _, hx44, hp44, rfl⟩ := sl_elem (P := Tryd.prog) (t := 95) (kk := .i64) hc25_0 hx44 els95
        refine DrawG.fl rfl (ev_ex (wantS_yes' rfl rfl hc42) (ex_elX rfl rfl hx44)) rfl ?_
        refine DrawG.fl rfl (ev_ex (wantS_yes' rfl rfl hc42) (ex_loadA rfl (hH39.ptrF hp44) rdLe_rfl agg79 rfl rfl rfl)) rfl ?_
        refine DrawG.fl rfl (ev_ex (wantS_yes' rfl rfl hc42) (ex_move rfl)) rfl ?_
        refine DrawG.fl rfl (ev_ex (wantS_yes' rfl rfl hc42) (ex_fieldAddr rfl off111_1)) rfl ?_
        refine DrawG.fl rfl (ev_ex (wantS_yes' rfl rfl hc42) (ex_load1 rfl (hH39.cells (i := 0) rfl 1 rfl) rdLe_rfl agg3)) rfl ?_
        obtain ⟨r45, hr45, h⟩ := bnd_some h
        refine DrawG.callP rfl (wantS_yes' rfl rfl hc42) (ex_call rfl mkk50 cal50) rfl (alert_key_isSigned_ok F x44 v5 x35.Number _ _ hr45) st_nil ?_
        refine DrawG.fl rfl (ev_ex (wantS_yes' rfl rfl hc42) (ex_not rfl)) rfl ?_
        refine DrawG.fl rfl (ev_ex wantS_none (ex_pickF' rfl hc42 rfl rfl)) rfl ?_
        refine DrawG.sync ?_
        refine DrawG.nil ?_
        exact Run.pick [2, 5, 8, 13, 14, 15, 41] (alert_roll_isSigned_2_ok F (alert_roll_isSigned_1 F N) ih v5 v13 v14 v15 (!r45) c25_0 c25_1 x35 sv13 sc25_0 b25 b37 _ _ _ hv13 hc25_0 (hH39.pick [1, 0, 2, 3, 4] rfl rfl) h)
    · have h := bif_f hc33 h
      refine Run.condF' rfl hc33 ?_
      refine Run.exit rfl (Run.seq (Run.region ?_))
      refine Run.opG wantS_none (ex_assign rfl) rfl ?_
      refine Run.opsEnd ?_
      cases h
      exact Run.ret Tryd.func80 rfl (res_tmp rfl res_nil) rfl

def alert_roll_isSigned (F : Nat) (a0 : S_alert_roll) (a1 : S_api_Notice) : Option (Bool) :=
  bnd (alert_digestOf F a1.Alert) fun r31 =>
  alert_roll_isSigned_1 F F r31 ((-1) : Int) a1.Signatures (a1.Signatures.length : Int) (0 : Int) a0.keys a0.quorum

theorem alert_roll_isSigned_ok (F : Nat) (a0 : S_alert_roll) (a1 : S_api_Notice) (s0 s1 s2 : SV) (r : Bool) (M : Mem) (hs0 : Slc (rd M) 2 (FlatR enc79) s0 a0.keys) (hs1 : Slc (rd M) 1 (FlatR enc3) s1 a1.Alert.Cells) (hs2 : Slc (rd M) 2 (FlatR enc111) s2 a1.Signatures) (hfx : FixIn M fixes) (h : alert_roll_isSigned F a0 a1 = some r) : CallsM Tryd.prog 80 [(.agg [s0, (.int .i64 a0.quorum)]), (.agg [(.str a1.Alert.Event), (.int .i64 a1.Alert.Version), (.int .i64 a1.Alert.Time), (.int .i64 a1.Alert.Chance.N), (.int .i64 a1.Alert.Chance.Of), (.int .i64 a1.Alert.Grid), s1, (.bool a1.Alert.Withdrawn), (.int .i64 a1.Alert.Before), s2])] M (fun s M' => s = (.bool r) ∧ M' = M) := by
  refine CallsM.plain Tryd.func80 rfl rfl rfl (show Run _ _ _ (alert_roll_isSigned_post r) _ _ _ from ?_)
  rw [alert_roll_isSigned] at h
  replace hs0 := hs0.mono (rdLe_frozen M) (fun _ _ h => h)
  replace hs1 := hs1.mono (rdLe_frozen M) (fun _ _ h => h)
  replace hs2 := hs2.mono (rdLe_frozen M) (fun _ _ h => h)
  have hH : Has (ro (frozen M)) (frozen M) [tb0, tb1, tb2] := Has.ofFix hfx.frozen
  refine Run.seq (Run.region ?_)
  refine Run.opX wantS_none rfl (ExG.box rfl rfl hH) ?_
  rintro _ M26 ⟨b25, rfl, hH26⟩
  refine Run.opX wantS_none rfl (ExG.box rfl rfl hH26) ?_
  rintro _ M29 ⟨b28, rfl, hH29⟩
  refine Run.opG wantS_none (ex_assign rfl) rfl ?_
  refine Run.opsEnd (Run.seq (Run.region ?_))
  refine Run.opG wantS_none (ex_fieldAddr rfl off46_0) rfl ?_
  refine Run.opG wantS_none (ex_loadA rfl (hH29.cells (i := 0) rfl 0 rfl) rdLe_rfl agg29 rfl rfl rfl) rfl ?_
  obtain ⟨r31, hr31, h⟩ := bnd_some h
  refine Run.callP wantS_none (ex_call rfl mkk45 cal45) rfl (alert_digestOf_ok F a1.Alert s1 _ _ (hH29.slcF hs1) (fixH hH29 (List.mem_of_getElem? (i := 2) rfl) (List.mem_of_getElem? (i := 3) rfl) (List.mem_of_getElem? (i := 4) rfl)) hr31) ?_
  refine Run.opG wantS_none (ex_assign rfl) rfl ?_
  refine Run.opG wantS_none (ex_assign rfl) rfl ?_
  refine Run.opsEnd (Run.seq (Run.seq (Run.region ?_)))
  refine Run.opG wantS_none (ex_fieldAddr rfl off46_1) rfl ?_
  refine Run.opG wantS_none (ex_load1 rfl (hH29.cells (i := 0) rfl 9 rfl) rdLe_rfl agg44) rfl ?_
  refine Run.opG wantS_none (ex_len' rfl hs2 lenk44) rfl ?_
  refine Run.opG wantS_none (ex_move rfl) rfl ?_
  refine Run.opsEnd (Run.block (Run.loop ?_))
  exact Run.pick [2, 5, 6, 13, 14, 15] (alert_roll_isSigned_1_ok F F r31 ((-1) : Int) a1.Signatures (a1.Signatures.length : Int) (0 : Int) a0.keys a0.quorum s2 s0 b25 _ _ _ hs2 hs0 (hH29.pick [1, 2, 3, 4] rfl rfl) h)

theorem mkk80 : makeK Tryd.prog 80 = none := by kernel_rfl
theorem cal80 : callable Tryd.prog 80 = true := by kernel_rfl
theorem off97_1 : fieldOff Tryd.prog 97 1 = some 1 := by kernel_rfl
end Go.Ev.AlertChain
