/- Plain functions that say what functions of the program come to, and proofs of it, written by a program of the verifier's own. -/
import Derived.Test.YtkmmplbbefijaaaGreatDoorEvL16
import Derived.Test.YtkmmplbbefijaaaGreatDoorWorks
import Derived.KernelRfl
namespace Go.Ev.SkyRings
open Go Go.Ev Go.Proofs
set_option maxRecDepth 100000
set_option linter.unusedVariables false

noncomputable def fixes : List (Nat × List SV) := Go.Proofs.YtkmmplbbefijaaaGreatDoor.works.fixes
noncomputable def tb0 : Ent := fixE (4, intCells .u8 [0, 1, 28, 2, 29, 14, 24, 3, 30, 22, 20, 15, 25, 17, 4, 8, 31, 27, 13, 23, 21, 19, 16, 7, 26, 12, 18, 6, 11, 5, 10, 9])
noncomputable def tb1 : Ent := fixE (5, intCells .u8 [0, 1, 56, 2, 57, 49, 28, 3, 61, 58, 42, 50, 38, 29, 17, 4, 62, 47, 59, 36, 45, 43, 51, 22, 53, 39, 33, 30, 24, 18, 12, 5, 63, 55, 48, 27, 60, 41, 37, 16, 46, 35, 44, 21, 52, 32, 23, 11, 54, 26, 40, 15, 34, 20, 31, 10, 25, 14, 19, 9, 13, 8, 7, 6])
noncomputable def tb2 : Ent := fixE (3, intCells .u64 [1, 10, 100, 1000, 10000, 100000, 1000000, 10000000, 100000000, 1000000000, 10000000000, 100000000000, 1000000000000, 10000000000000, 100000000000000, 1000000000000000, 10000000000000000, 100000000000000000, 1000000000000000000, 10000000000000000000])
def works (_ : Nat) : Option Bool := some true
theorem fixH {Fr : Rd} {H : List Ent} {M : Mem} (hH : Has Fr M H) (h0 : tb0 ∈ H) (h1 : tb1 ∈ H) (h2 : tb2 ∈ H) : FixIn M fixes := by
  refine hH.fixIn fun x hx => ?_
  simp only [fixes, Go.Proofs.YtkmmplbbefijaaaGreatDoor.works.fixes, List.mem_cons, List.not_mem_nil, or_false] at hx
  rcases hx with rfl | rfl | rfl
  · exact h0
  · exact h1
  · exact h2

theorem works_ok (F : Nat) (r : Bool) {Fr : Rd} {H : List Ent} (M : Mem) (hH : Has Fr M H) (h0 : tb0 ∈ H) (h1 : tb1 ∈ H) (h2 : tb2 ∈ H) (h : works F = some r) : CallsM Tryz.prog 18 [] M fun s M' => s = .bool r ∧ M' = M := by
  cases h
  refine CallsM.closedFix (n := 300) (l := Go.Proofs.YtkmmplbbefijaaaGreatDoor.works.fixes) Go.Proofs.YtkmmplbbefijaaaGreatDoor.works.below Go.Proofs.YtkmmplbbefijaaaGreatDoor.works.plainF Go.Proofs.YtkmmplbbefijaaaGreatDoor.works.works_true (hH.fixIn fun x hx => ?_)
  simp only [Go.Proofs.YtkmmplbbefijaaaGreatDoor.works.fixes, List.mem_cons, List.not_mem_nil, or_false] at hx
  rcases hx with rfl | rfl | rfl
  · exact h0
  · exact h1
  · exact h2


structure S__3_int where
  e0 : Int
  e1 : Int
  e2 : Int

structure S_api_Site where
  Name : (List UInt8)
  Place : S__3_int
  ArmU : S__3_int
  ArmV : S__3_int

structure S_ringdownlaw09_Net where
  L : (List S_api_Site)
  N : Int
  Cell : Int

structure S__4_int where
  e0 : Int
  e1 : Int
  e2 : Int
  e3 : Int

structure S_api_Arrival where
  Site : Int
  Time : Int
  Slack : Int

def enc105 (a : S_api_Site) : List SV := [(.str a.Name), (.int .i64 a.Place.e0), (.int .i64 a.Place.e1), (.int .i64 a.Place.e2), (.int .i64 a.ArmU.e0), (.int .i64 a.ArmU.e1), (.int .i64 a.ArmU.e2), (.int .i64 a.ArmV.e0), (.int .i64 a.ArmV.e1), (.int .i64 a.ArmV.e2)]
theorem enc105_len (a : S_api_Site) : (enc105 a).length = 10 := rfl
theorem enc105_ones (a : S_api_Site) : ones (enc105 a) = true := rfl
def enc67 (a : S_api_Arrival) : List SV := [(.int .i64 a.Site), (.int .i64 a.Time), (.int .i64 a.Slack)]
theorem enc67_len (a : S_api_Arrival) : (enc67 a).length = 3 := rfl
theorem enc67_ones (a : S_api_Arrival) : ones (enc67 a) = true := rfl
theorem off33_0 : fieldOff Tryz.prog 33 0 = some 0 := by kernel_rfl
theorem agg31 : aggSize Tryz.prog 31 = some none := by kernel_rfl
theorem off33_1 : fieldOff Tryz.prog 33 1 = some 1 := by kernel_rfl
theorem agg3 : aggSize Tryz.prog 3 = some none := by kernel_rfl
theorem els34 : elems Tryz.prog 34 = some (.arr 4 1) := by kernel_rfl
def enc3 (a : Int) : List SV := [(.int .i64 a)]
theorem enc3_len (a : Int) : (enc3 a).length = 1 := rfl
theorem enc3_ones (a : Int) : ones (enc3 a) = true := rfl
theorem mkk153 : makeK Tryz.prog 153 = none := by kernel_rfl
theorem cal153 : callable Tryz.prog 153 = true := by kernel_rfl
theorem lenk31 : lenK Tryz.prog 31 = some .sl := by kernel_rfl
abbrev sky_isFrom_post (r : Bool) : SV → Mem → Prop := fun s _ => s = (.bool r)

def sky_isFrom_1 (F : Nat) (v14 : Bool) : Option (Bool) :=
  some v14

theorem sky_isFrom_1_ok (F : Nat) : ∀ (v14 : Bool) (Fr : Rd) (M : Mem) (r : Bool) (hH : Has Fr M []), sky_isFrom_1 F v14 = some r → Run Tryz.prog ⟨⟨62, [], none⟩, []⟩ 15 (sky_isFrom_post r) [(14, (.bool v14))] [itemC Tryz.prog 62 [1, 0] 8, codeC Tryz.prog 62 [1, 1]] M := by
  intro v14 Fr M r hH h
  rw [sky_isFrom_1] at h
  refine Run.opG wantS_none (ex_assign rfl) rfl ?_
  refine Run.opsEnd ?_
  cases h
  exact Run.ret Tryz.func62 rfl (res_tmp rfl res_nil) rfl

def sky_isFrom (F : Nat) (a0 a1 a2 : Int) : Option (Bool) :=
  bif (decide (a0 ≤ a1)) then
    sky_isFrom_1 F (decide (a1 ≤ a2))
  else
    sky_isFrom_1 F false

theorem sky_isFrom_ok (F : Nat) (a0 a1 a2 : Int) (r : Bool) (M : Mem) (h : sky_isFrom F a0 a1 a2 = some r) : CallsM Tryz.prog 62 [(.int .i64 a0), (.int .i64 a1), (.int .i64 a2)] M (fun s M' => s = (.bool r) ∧ M' = M) := by
  refine CallsM.plain Tryz.func62 rfl rfl rfl (show Run _ _ _ (sky_isFrom_post r) _ _ _ from ?_)
  rw [sky_isFrom] at h
  have hH := Has.nil (frozen M)
  refine Run.seq (Run.region ?_)
  refine Run.opG wantS_none (ex_assign rfl) rfl ?_
  refine Run.opsEnd (Run.seq (Run.region ?_))
  refine Run.opG wantS_none (ex_move rfl) rfl ?_
  refine Run.opG wantS_none (ex_move rfl) rfl ?_
  refine Run.opG wantS_none (ex_leq rfl rfl) rfl ?_
  refine Run.opG wantS_none (ex_move rfl) rfl ?_
  rcases btf ((decide (a0 ≤ a1))) with hc21 | hc21
  · have h := bif_t hc21 h
    refine Run.opG (wantS_yes' rfl rfl hc21) (ex_move rfl) rfl ?_
    refine Run.opG (wantS_yes' rfl rfl hc21) (ex_move rfl) rfl ?_
    refine Run.opG (wantS_yes' rfl rfl hc21) (ex_leq rfl rfl) rfl ?_
    refine Run.opG wantS_none (ex_pickT' rfl hc21 rfl rfl) rfl ?_
    exact Run.pick [14] (sky_isFrom_1_ok F (decide (a1 ≤ a2)) _ _ _ hH h)
  · have h := bif_f hc21 h
    refine Run.no (wantS_not' rfl rfl hc21) rfl ?_
    refine Run.no (wantS_not' rfl rfl hc21) rfl ?_
    refine Run.no (wantS_not' rfl rfl hc21) rfl ?_
    refine Run.opG wantS_none (ex_pickF' rfl hc21 rfl rfl) rfl ?_
    exact Run.pick [14] (sky_isFrom_1_ok F false _ _ _ hH h)

theorem mkk62 : makeK Tryz.prog 62 = none := by kernel_rfl
theorem cal62 : callable Tryz.prog 62 = true := by kernel_rfl
def kv9 (a : (List UInt8)) : SV := (.str a)
def kv4 (a : Bool) : SV := (.bool a)
theorem kk9 : keyK Tryz.prog 9 = some .str := by kernel_rfl
theorem kok200 : ∀ a, keyOK Tryz.prog 8 9 (kv9 a) = true := fun a => congrFun (show (fun a => keyOK Tryz.prog 8 9 (kv9 a)) = fun _ => true by kernel_rfl) a
theorem keq200 : ∀ a b, keyEq Tryz.prog 9 (kv9 a) (kv9 b) = some (eqB a b) := (fun a b => keyEq_string kk9)
theorem khe200 : ∀ a b, eqB a b = true → a = b := (fun a b h => eq_of_beq h)
theorem kzr200 : zeroS Tryz.prog 4 = some (kv4 false) := by kernel_rfl
theorem kmt200 : mapT Tryz.prog 200 = some (9, 4) := by kernel_rfl
theorem els31 : elems Tryz.prog 31 = some (.sl 10) := by kernel_rfl
theorem agg105 : aggSize Tryz.prog 105 = some (some 10) := by kernel_rfl
theorem zer105 : zerosOf Tryz.prog 105 = some [(.str []), (.int .i64 0), (.int .i64 0), (.int .i64 0), (.int .i64 0), (.int .i64 0), (.int .i64 0), (.int .i64 0), (.int .i64 0), (.int .i64 0)] := by kernel_rfl
theorem sz105 : szOf Tryz.prog 105 = some 10 := by kernel_rfl
theorem mkk152 : makeK Tryz.prog 152 = none := by kernel_rfl
theorem cal152 : callable Tryz.prog 152 = true := by kernel_rfl
theorem off105_0 : fieldOff Tryz.prog 105 0 = some 0 := by kernel_rfl
theorem agg9 : aggSize Tryz.prog 9 = some none := by kernel_rfl
theorem lenk9 : lenK Tryz.prog 9 = some .str := by kernel_rfl
theorem uvk9_224 : uvK Tryz.prog 9 224 = none := by kernel_rfl
theorem cvk9_224 : cvK Tryz.prog 9 224 = some (.bytes 5) := by kernel_rfl
def enc5 (a : Int) : List SV := [(.int .u8 a)]
theorem enc5_len (a : Int) : (enc5 a).length = 1 := rfl
theorem enc5_ones (a : Int) : ones (enc5 a) = true := rfl
theorem lenk224 : lenK Tryz.prog 224 = some .sl := by kernel_rfl
theorem els224 : elems Tryz.prog 224 = some (.sl 1) := by kernel_rfl
theorem agg5 : aggSize Tryz.prog 5 = some none := by kernel_rfl
abbrev num_IsName_post (r : Bool) : SV → Mem → Prop := fun s _ => s = (.bool r)

def num_IsName_7 (F : Nat) (hd2 : (List Int) → Int → Int → Option (Bool)) (v16 : (List Int)) (v17 v18 : Int) (v48 : Bool) : Option (Bool) :=
  bif v48 then
    some false
  else
    hd2 v16 v17 (w64 (v18 + (1 : Int)))

theorem num_IsName_7_ok (F : Nat) (hd2 : (List Int) → Int → Int → Option (Bool)) (hhd2 : ∀ (v16 : (List Int)) (v17 v18 : Int) (sv16 : SV) (Fr : Rd) (M : Mem) (r : Bool) (hv16 : Slc Fr 1 (FlatR enc5) sv16 v16) (hH : Has Fr M []), hd2 v16 v17 v18 = some r → Run Tryz.prog ⟨⟨161, [], none⟩, []⟩ 50 (num_IsName_post r) [(16, sv16), (17, (.int .i64 v17)), (18, (.int .i64 v18))] [codeC Tryz.prog 161 [1, 1, 0, 1, 0, 0], loopC Tryz.prog 161 [1, 1, 0, 1, 0, 0], .inBlock 0, codeC Tryz.prog 161 [1, 1, 1]] M) : ∀ (v16 : (List Int)) (v17 v18 : Int) (v48 : Bool) (sv16 : SV) (Fr : Rd) (M : Mem) (r : Bool) (hv16 : Slc Fr 1 (FlatR enc5) sv16 v16) (hH : Has Fr M []), num_IsName_7 F hd2 v16 v17 v18 v48 = some r → Run Tryz.prog ⟨⟨161, [], none⟩, []⟩ 50 (num_IsName_post r) [(16, sv16), (17, (.int .i64 v17)), (18, (.int .i64 v18)), (48, (.bool v48))] [codeC Tryz.prog 161 [1, 1, 0, 1, 0, 0, 1, 1, 0, 0, 1, 1, 1, 1], .inBlock 1, codeC Tryz.prog 161 [1, 1, 0, 1, 0, 0, 1, 1, 1], loopC Tryz.prog 161 [1, 1, 0, 1, 0, 0], .inBlock 0, codeC Tryz.prog 161 [1, 1, 1]] M := by
  intro v16 v17 v18 v48 sv16 Fr M r hv16 hH h
  rw [num_IsName_7] at h
  rcases btf (v48) with hc37 | hc37
  · have h := bif_t hc37 h
    refine Run.condT' rfl hc37 ?_
    refine Run.seq (Run.region ?_)
    refine Run.opG wantS_none (ex_assign rfl) rfl ?_
    refine Run.opsEnd ?_
    cases h
    exact Run.ret Tryz.func161 rfl (res_tmp rfl res_nil) rfl
  · have h := bif_f hc37 h
    refine Run.condF' rfl hc37 ?_
    refine Run.skip (Run.inBlock (Run.region ?_))
    refine Run.opG wantS_none (ex_add rfl rfl) rfl ?_
    refine Run.opG wantS_none (ex_move rfl) rfl ?_
    refine Run.opsEnd (Run.inLoop ?_)
    exact Run.pick [16, 17, 18] (hhd2 v16 v17 (w64 (v18 + (1 : Int))) sv16 _ _ _ hv16 hH h)

def num_IsName_6 (F : Nat) (hd2 : (List Int) → Int → Int → Option (Bool)) (v16 : (List Int)) (v17 v18 : Int) (v41 v46 : Bool) : Option (Bool) :=
  bif v41 then
    num_IsName_7 F hd2 v16 v17 v18 (!v46)
  else
    num_IsName_7 F hd2 v16 v17 v18 false

theorem num_IsName_6_ok (F : Nat) (hd2 : (List Int) → Int → Int → Option (Bool)) (hhd2 : ∀ (v16 : (List Int)) (v17 v18 : Int) (sv16 : SV) (Fr : Rd) (M : Mem) (r : Bool) (hv16 : Slc Fr 1 (FlatR enc5) sv16 v16) (hH : Has Fr M []), hd2 v16 v17 v18 = some r → Run Tryz.prog ⟨⟨161, [], none⟩, []⟩ 50 (num_IsName_post r) [(16, sv16), (17, (.int .i64 v17)), (18, (.int .i64 v18))] [codeC Tryz.prog 161 [1, 1, 0, 1, 0, 0], loopC Tryz.prog 161 [1, 1, 0, 1, 0, 0], .inBlock 0, codeC Tryz.prog 161 [1, 1, 1]] M) : ∀ (v16 : (List Int)) (v17 v18 : Int) (v41 v46 : Bool) (sv16 : SV) (Fr : Rd) (M : Mem) (r : Bool) (hv16 : Slc Fr 1 (FlatR enc5) sv16 v16) (hH : Has Fr M []), num_IsName_6 F hd2 v16 v17 v18 v41 v46 = some r → Run Tryz.prog ⟨⟨161, [], none⟩, []⟩ 50 (num_IsName_post r) [(16, sv16), (17, (.int .i64 v17)), (18, (.int .i64 v18)), (41, (.bool v41)), (46, (.bool v46))] [itemC Tryz.prog 161 [1, 1, 0, 1, 0, 0, 1, 1, 0, 0, 1, 1, 1, 0] 8, codeC Tryz.prog 161 [1, 1, 0, 1, 0, 0, 1, 1, 0, 0, 1, 1, 1, 1], .inBlock 1, codeC Tryz.prog 161 [1, 1, 0, 1, 0, 0, 1, 1, 1], loopC Tryz.prog 161 [1, 1, 0, 1, 0, 0], .inBlock 0, codeC Tryz.prog 161 [1, 1, 1]] M := by
  intro v16 v17 v18 v41 v46 sv16 Fr M r hv16 hH h
  rw [num_IsName_6] at h
  rcases btf (v41) with hc36 | hc36
  · have h := bif_t hc36 h
    refine Run.opG (wantS_yes' rfl rfl hc36) (ex_not rfl) rfl ?_
    refine Run.opG wantS_none (ex_pickT' rfl hc36 rfl rfl) rfl ?_
    refine Run.opsEnd ?_
    exact Run.pick [16, 17, 18, 48] (num_IsName_7_ok F hd2 hhd2 v16 v17 v18 (!v46) sv16 _ _ _ hv16 hH h)
  · have h := bif_f hc36 h
    refine Run.no (wantS_not' rfl rfl hc36) rfl ?_
    refine Run.opG wantS_none (ex_pickF' rfl hc36 rfl rfl) rfl ?_
    refine Run.opsEnd ?_
    exact Run.pick [16, 17, 18, 48] (num_IsName_7_ok F hd2 hhd2 v16 v17 v18 false sv16 _ _ _ hv16 hH h)

def num_IsName_8 (F : Nat) (hd2 : (List Int) → Int → Int → Option (Bool)) (v16 : (List Int)) (v17 v18 : Int) (v41 : Bool) : Option (Bool) :=
  bif v41 then
    none
  else
    num_IsName_7 F hd2 v16 v17 v18 false

theorem num_IsName_8_ok (F : Nat) (hd2 : (List Int) → Int → Int → Option (Bool)) (hhd2 : ∀ (v16 : (List Int)) (v17 v18 : Int) (sv16 : SV) (Fr : Rd) (M : Mem) (r : Bool) (hv16 : Slc Fr 1 (FlatR enc5) sv16 v16) (hH : Has Fr M []), hd2 v16 v17 v18 = some r → Run Tryz.prog ⟨⟨161, [], none⟩, []⟩ 50 (num_IsName_post r) [(16, sv16), (17, (.int .i64 v17)), (18, (.int .i64 v18))] [codeC Tryz.prog 161 [1, 1, 0, 1, 0, 0], loopC Tryz.prog 161 [1, 1, 0, 1, 0, 0], .inBlock 0, codeC Tryz.prog 161 [1, 1, 1]] M) : ∀ (v16 : (List Int)) (v17 v18 : Int) (v41 : Bool) (sv16 : SV) (Fr : Rd) (M : Mem) (r : Bool) (hv16 : Slc Fr 1 (FlatR enc5) sv16 v16) (hH : Has Fr M []), num_IsName_8 F hd2 v16 v17 v18 v41 = some r → Run Tryz.prog ⟨⟨161, [], none⟩, []⟩ 50 (num_IsName_post r) [(16, sv16), (17, (.int .i64 v17)), (18, (.int .i64 v18)), (41, (.bool v41)), (46, (.tuple []))] [itemC Tryz.prog 161 [1, 1, 0, 1, 0, 0, 1, 1, 0, 0, 1, 1, 1, 0] 8, codeC Tryz.prog 161 [1, 1, 0, 1, 0, 0, 1, 1, 0, 0, 1, 1, 1, 1], .inBlock 1, codeC Tryz.prog 161 [1, 1, 0, 1, 0, 0, 1, 1, 1], loopC Tryz.prog 161 [1, 1, 0, 1, 0, 0], .inBlock 0, codeC Tryz.prog 161 [1, 1, 1]] M := by
  intro v16 v17 v18 v41 sv16 Fr M r hv16 hH h
  rw [num_IsName_8] at h
  rcases btf (v41) with hc38 | hc38
  · have h := bif_t hc38 h
    cases h
  · have h := bif_f hc38 h
    refine Run.no (wantS_not' rfl rfl hc38) rfl ?_
    refine Run.opG wantS_none (ex_pickF' rfl hc38 rfl rfl) rfl ?_
    refine Run.opsEnd ?_
    exact Run.pick [16, 17, 18, 48] (num_IsName_7_ok F hd2 hhd2 v16 v17 v18 false sv16 _ _ _ hv16 hH h)

def num_IsName_5 (F : Nat) (hd2 : (List Int) → Int → Int → Option (Bool)) (v3 : Int) (v5 : Bool) (v16 : (List Int)) (v17 v18 : Int) (v38 : Bool) : Option (Bool) :=
  bif (!v5) then
    bif v38 then
      num_IsName_6 F hd2 v16 v17 v18 (!v5) (decide ((0 : Int) < v3))
    else
      num_IsName_6 F hd2 v16 v17 v18 (!v5) false
  else
    num_IsName_8 F hd2 v16 v17 v18 (!v5)

theorem num_IsName_5_ok (F : Nat) (hd2 : (List Int) → Int → Int → Option (Bool)) (hhd2 : ∀ (v16 : (List Int)) (v17 v18 : Int) (sv16 : SV) (Fr : Rd) (M : Mem) (r : Bool) (hv16 : Slc Fr 1 (FlatR enc5) sv16 v16) (hH : Has Fr M []), hd2 v16 v17 v18 = some r → Run Tryz.prog ⟨⟨161, [], none⟩, []⟩ 50 (num_IsName_post r) [(16, sv16), (17, (.int .i64 v17)), (18, (.int .i64 v18))] [codeC Tryz.prog 161 [1, 1, 0, 1, 0, 0], loopC Tryz.prog 161 [1, 1, 0, 1, 0, 0], .inBlock 0, codeC Tryz.prog 161 [1, 1, 1]] M) : ∀ (v3 : Int) (v5 : Bool) (v16 : (List Int)) (v17 v18 : Int) (v38 : Bool) (sv16 : SV) (Fr : Rd) (M : Mem) (r : Bool) (hv16 : Slc Fr 1 (FlatR enc5) sv16 v16) (hH : Has Fr M []), num_IsName_5 F hd2 v3 v5 v16 v17 v18 v38 = some r → Run Tryz.prog ⟨⟨161, [], none⟩, []⟩ 50 (num_IsName_post r) [(3, (.int .i64 v3)), (5, (.bool v5)), (16, sv16), (17, (.int .i64 v17)), (18, (.int .i64 v18)), (38, (.bool v38))] [itemC Tryz.prog 161 [1, 1, 0, 1, 0, 0, 1, 1, 0, 0, 1, 1, 0] 10, codeC Tryz.prog 161 [1, 1, 0, 1, 0, 0, 1, 1, 0, 0, 1, 1, 1], .inBlock 1, codeC Tryz.prog 161 [1, 1, 0, 1, 0, 0, 1, 1, 1], loopC Tryz.prog 161 [1, 1, 0, 1, 0, 0], .inBlock 0, codeC Tryz.prog 161 [1, 1, 1]] M := by
  intro v3 v5 v16 v17 v18 v38 sv16 Fr M r hv16 hH h
  rw [num_IsName_5] at h
  refine Run.opG wantS_none (ex_assign rfl) rfl ?_
  refine Run.opsEnd (Run.seq (Run.region ?_))
  refine Run.opG wantS_none (ex_move rfl) rfl ?_
  refine Run.opG wantS_none (ex_not rfl) rfl ?_
  refine Run.opG wantS_none (ex_move rfl) rfl ?_
  rcases btf ((!v5)) with hc34 | hc34
  · have h := bif_t hc34 h
    refine Run.opG (wantS_yes' rfl rfl hc34) (ex_move rfl) rfl ?_
    refine Run.opG (wantS_yes' rfl rfl hc34) (ex_move rfl) rfl ?_
    rcases btf (v38) with hc35 | hc35
    · have h := bif_t hc35 h
      refine Run.opG (wantS_yes' rfl rfl hc35) (ex_move rfl) rfl ?_
      refine Run.opG (wantS_yes' rfl rfl hc35) (ex_gtr rfl rfl) rfl ?_
      refine Run.opG (wantS_yes' rfl rfl hc34) (ex_pickT' rfl hc35 rfl rfl) rfl ?_
      exact Run.pick [16, 17, 18, 41, 46] (num_IsName_6_ok F hd2 hhd2 v16 v17 v18 (!v5) (decide ((0 : Int) < v3)) sv16 _ _ _ hv16 hH h)
    · have h := bif_f hc35 h
      refine Run.no (wantS_not' rfl rfl hc35) rfl ?_
      refine Run.no (wantS_not' rfl rfl hc35) rfl ?_
      refine Run.opG (wantS_yes' rfl rfl hc34) (ex_pickF' rfl hc35 rfl rfl) rfl ?_
      exact Run.pick [16, 17, 18, 41, 46] (num_IsName_6_ok F hd2 hhd2 v16 v17 v18 (!v5) false sv16 _ _ _ hv16 hH h)
  · have h := bif_f hc34 h
    refine Run.no (wantS_not' rfl rfl hc34) rfl ?_
    refine Run.no (wantS_not' rfl rfl hc34) rfl ?_
    refine Run.no (wantS_skip rfl rfl) rfl ?_
    refine Run.no (wantS_skip rfl rfl) rfl ?_
    refine Run.no (wantS_not' rfl rfl hc34) rfl ?_
    exact Run.pick [16, 17, 18, 41, 46] (num_IsName_8_ok F hd2 hhd2 v16 v17 v18 (!v5) sv16 _ _ _ hv16 hH h)

def num_IsName_4 (F : Nat) (hd2 : (List Int) → Int → Int → Option (Bool)) (v3 v4 : Int) (v5 : Bool) (v16 : (List Int)) (v17 v18 : Int) (v34 : Bool) : Option (Bool) :=
  bif v34 then
    num_IsName_5 F hd2 v3 v5 v16 v17 v18 true
  else
    num_IsName_5 F hd2 v3 v5 v16 v17 v18 (v4 == (95 : Int))

theorem num_IsName_4_ok (F : Nat) (hd2 : (List Int) → Int → Int → Option (Bool)) (hhd2 : ∀ (v16 : (List Int)) (v17 v18 : Int) (sv16 : SV) (Fr : Rd) (M : Mem) (r : Bool) (hv16 : Slc Fr 1 (FlatR enc5) sv16 v16) (hH : Has Fr M []), hd2 v16 v17 v18 = some r → Run Tryz.prog ⟨⟨161, [], none⟩, []⟩ 50 (num_IsName_post r) [(16, sv16), (17, (.int .i64 v17)), (18, (.int .i64 v18))] [codeC Tryz.prog 161 [1, 1, 0, 1, 0, 0], loopC Tryz.prog 161 [1, 1, 0, 1, 0, 0], .inBlock 0, codeC Tryz.prog 161 [1, 1, 1]] M) : ∀ (v3 v4 : Int) (v5 : Bool) (v16 : (List Int)) (v17 v18 : Int) (v34 : Bool) (sv16 : SV) (Fr : Rd) (M : Mem) (r : Bool) (hv16 : Slc Fr 1 (FlatR enc5) sv16 v16) (hH : Has Fr M []), num_IsName_4 F hd2 v3 v4 v5 v16 v17 v18 v34 = some r → Run Tryz.prog ⟨⟨161, [], none⟩, []⟩ 50 (num_IsName_post r) [(3, (.int .i64 v3)), (4, (.int .u8 v4)), (5, (.bool v5)), (16, sv16), (17, (.int .i64 v17)), (18, (.int .i64 v18)), (34, (.bool v34))] [itemC Tryz.prog 161 [1, 1, 0, 1, 0, 0, 1, 1, 0, 0, 1, 1, 0] 6, codeC Tryz.prog 161 [1, 1, 0, 1, 0, 0, 1, 1, 0, 0, 1, 1, 1], .inBlock 1, codeC Tryz.prog 161 [1, 1, 0, 1, 0, 0, 1, 1, 1], loopC Tryz.prog 161 [1, 1, 0, 1, 0, 0], .inBlock 0, codeC Tryz.prog 161 [1, 1, 1]] M := by
  intro v3 v4 v5 v16 v17 v18 v34 sv16 Fr M r hv16 hH h
  rw [num_IsName_4] at h
  refine Run.opG wantS_none (ex_move rfl) rfl ?_
  rcases btf (v34) with hc33 | hc33
  · have h := bif_t hc33 h
    refine Run.no (wantS_not' rfl rfl hc33) rfl ?_
    refine Run.no (wantS_not' rfl rfl hc33) rfl ?_
    refine Run.opG wantS_none (ex_pickT' rfl hc33 rfl rfl) rfl ?_
    exact Run.pick [3, 5, 16, 17, 18, 38] (num_IsName_5_ok F hd2 hhd2 v3 v5 v16 v17 v18 true sv16 _ _ _ hv16 hH h)
  · have h := bif_f hc33 h
    refine Run.opG (wantS_yes' rfl rfl hc33) (ex_move rfl) rfl ?_
    refine Run.opG (wantS_yes' rfl rfl hc33) (ex_eql rfl rfl) rfl ?_
    refine Run.opG wantS_none (ex_pickF' rfl hc33 rfl rfl) rfl ?_
    exact Run.pick [3, 5, 16, 17, 18, 38] (num_IsName_5_ok F hd2 hhd2 v3 v5 v16 v17 v18 (v4 == (95 : Int)) sv16 _ _ _ hv16 hH h)

def num_IsName_3 (F : Nat) (hd2 : (List Int) → Int → Int → Option (Bool)) (v3 v4 : Int) (v16 : (List Int)) (v17 v18 : Int) (v28 : Bool) : Option (Bool) :=
  bif (decide ((48 : Int) ≤ v4)) then
    num_IsName_4 F hd2 v3 v4 v28 v16 v17 v18 (decide (v4 ≤ (57 : Int)))
  else
    num_IsName_4 F hd2 v3 v4 v28 v16 v17 v18 false

theorem num_IsName_3_ok (F : Nat) (hd2 : (List Int) → Int → Int → Option (Bool)) (hhd2 : ∀ (v16 : (List Int)) (v17 v18 : Int) (sv16 : SV) (Fr : Rd) (M : Mem) (r : Bool) (hv16 : Slc Fr 1 (FlatR enc5) sv16 v16) (hH : Has Fr M []), hd2 v16 v17 v18 = some r → Run Tryz.prog ⟨⟨161, [], none⟩, []⟩ 50 (num_IsName_post r) [(16, sv16), (17, (.int .i64 v17)), (18, (.int .i64 v18))] [codeC Tryz.prog 161 [1, 1, 0, 1, 0, 0], loopC Tryz.prog 161 [1, 1, 0, 1, 0, 0], .inBlock 0, codeC Tryz.prog 161 [1, 1, 1]] M) : ∀ (v3 v4 : Int) (v16 : (List Int)) (v17 v18 : Int) (v28 : Bool) (sv16 : SV) (Fr : Rd) (M : Mem) (r : Bool) (hv16 : Slc Fr 1 (FlatR enc5) sv16 v16) (hH : Has Fr M []), num_IsName_3 F hd2 v3 v4 v16 v17 v18 v28 = some r → Run Tryz.prog ⟨⟨161, [], none⟩, []⟩ 50 (num_IsName_post r) [(3, (.int .i64 v3)), (4, (.int .u8 v4)), (16, sv16), (17, (.int .i64 v17)), (18, (.int .i64 v18)), (28, (.bool v28))] [itemC Tryz.prog 161 [1, 1, 0, 1, 0, 0, 1, 1, 0, 0, 1, 0] 6, codeC Tryz.prog 161 [1, 1, 0, 1, 0, 0, 1, 1, 0, 0, 1, 1], .inBlock 1, codeC Tryz.prog 161 [1, 1, 0, 1, 0, 0, 1, 1, 1], loopC Tryz.prog 161 [1, 1, 0, 1, 0, 0], .inBlock 0, codeC Tryz.prog 161 [1, 1, 1]] M := by
  intro v3 v4 v16 v17 v18 v28 sv16 Fr M r hv16 hH h
  rw [num_IsName_3] at h
  refine Run.opG wantS_none (ex_assign rfl) rfl ?_
  refine Run.opsEnd (Run.seq (Run.region ?_))
  refine Run.opG wantS_none (ex_move rfl) rfl ?_
  refine Run.opG wantS_none (ex_geq rfl rfl) rfl ?_
  refine Run.opG wantS_none (ex_move rfl) rfl ?_
  rcases btf ((decide ((48 : Int) ≤ v4))) with hc32 | hc32
  · have h := bif_t hc32 h
    refine Run.opG (wantS_yes' rfl rfl hc32) (ex_move rfl) rfl ?_
    refine Run.opG (wantS_yes' rfl rfl hc32) (ex_leq rfl rfl) rfl ?_
    refine Run.opG wantS_none (ex_pickT' rfl hc32 rfl rfl) rfl ?_
    exact Run.pick [3, 4, 5, 16, 17, 18, 34] (num_IsName_4_ok F hd2 hhd2 v3 v4 v28 v16 v17 v18 (decide (v4 ≤ (57 : Int))) sv16 _ _ _ hv16 hH h)
  · have h := bif_f hc32 h
    refine Run.no (wantS_not' rfl rfl hc32) rfl ?_
    refine Run.no (wantS_not' rfl rfl hc32) rfl ?_
    refine Run.opG wantS_none (ex_pickF' rfl hc32 rfl rfl) rfl ?_
    exact Run.pick [3, 4, 5, 16, 17, 18, 34] (num_IsName_4_ok F hd2 hhd2 v3 v4 v28 v16 v17 v18 false sv16 _ _ _ hv16 hH h)

def num_IsName_2 (F : Nat) : Nat → (List Int) → Int → Int → Option (Bool)
  | 0, _, _, _ => none
  | N + 1, v16, v17, v18 =>
    bif (decide (v18 < v17)) then
      bnd (idx v16 v18) fun x30 =>
      bif (decide ((97 : Int) ≤ x30)) then
        num_IsName_3 F (num_IsName_2 F N) v18 x30 v16 v17 v18 (decide (x30 ≤ (122 : Int)))
      else
        num_IsName_3 F (num_IsName_2 F N) v18 x30 v16 v17 v18 false
    else
      some true

theorem num_IsName_2_ok (F : Nat) : ∀ (N : Nat), ∀ (v16 : (List Int)) (v17 v18 : Int) (sv16 : SV) (Fr : Rd) (M : Mem) (r : Bool) (hv16 : Slc Fr 1 (FlatR enc5) sv16 v16) (hH : Has Fr M []), num_IsName_2 F N v16 v17 v18 = some r → Run Tryz.prog ⟨⟨161, [], none⟩, []⟩ 50 (num_IsName_post r) [(16, sv16), (17, (.int .i64 v17)), (18, (.int .i64 v18))] [codeC Tryz.prog 161 [1, 1, 0, 1, 0, 0], loopC Tryz.prog 161 [1, 1, 0, 1, 0, 0], .inBlock 0, codeC Tryz.prog 161 [1, 1, 1]] M := by
  intro N
  induction N with
  | zero =>
    intro v16 v17 v18 sv16 Fr M r hv16 hH h
    simp [num_IsName_2] at h
  | succ N ih =>
    intro v16 v17 v18 sv16 Fr M r hv16 hH h
    rw [num_IsName_2] at h
    refine Run.seq (Run.region ?_)
    refine Run.opG wantS_none (ex_lss rfl rfl) rfl ?_
    refine Run.opsEnd (Run.seq ?_)
    rcases btf ((decide (v18 < v17))) with hc28 | hc28
    · have h := bif_t hc28 h
      refine Run.condT' rfl hc28 ?_
      refine Run.skip (Run.seq (Run.block (Run.seq (Run.region ?_))))
      refine Run.opG wantS_none (ex_move rfl) rfl ?_
      obtain ⟨x30, hx30, h⟩ := bnd_some h
      obtain ⟨p30, o30, _, hx30, hp30, rfl⟩ := sl_elem (P := Tryz.prog) (t := 224) (kk := .i64) hv16 hx30 els224
      refine Run.opG wantS_none (ex_elX rfl rfl hx30) rfl ?_
      refine Run.opG wantS_none (ex_load1 rfl (hH.ptrF hp30) rdLe_rfl agg5) rfl ?_
      refine Run.opG wantS_none (ex_assign rfl) rfl ?_
      refine Run.opG wantS_none (ex_assign rfl) rfl ?_
      refine Run.opsEnd (Run.seq (Run.region ?_))
      refine Run.opG wantS_none (ex_move rfl) rfl ?_
      refine Run.opG wantS_none (ex_geq rfl rfl) rfl ?_
      refine Run.opG wantS_none (ex_move rfl) rfl ?_
      rcases btf ((decide ((97 : Int) ≤ x30))) with hc31 | hc31
      · have h := bif_t hc31 h
        refine Run.opG (wantS_yes' rfl rfl hc31) (ex_move rfl) rfl ?_
        refine Run.opG (wantS_yes' rfl rfl hc31) (ex_leq rfl rfl) rfl ?_
        refine Run.opG wantS_none (ex_pickT' rfl hc31 rfl rfl) rfl ?_
        exact Run.pick [3, 4, 16, 17, 18, 28] (num_IsName_3_ok F (num_IsName_2 F N) ih v18 x30 v16 v17 v18 (decide (x30 ≤ (122 : Int))) sv16 _ _ _ hv16 hH h)
      · have h := bif_f hc31 h
        refine Run.no (wantS_not' rfl rfl hc31) rfl ?_
        refine Run.no (wantS_not' rfl rfl hc31) rfl ?_
        refine Run.opG wantS_none (ex_pickF' rfl hc31 rfl rfl) rfl ?_
        exact Run.pick [3, 4, 16, 17, 18, 28] (num_IsName_3_ok F (num_IsName_2 F N) ih v18 x30 v16 v17 v18 false sv16 _ _ _ hv16 hH h)
    · have h := bif_f hc28 h
      refine Run.condF' rfl hc28 ?_
      refine Run.exit rfl (Run.seq (Run.region ?_))
      refine Run.opG wantS_none (ex_assign rfl) rfl ?_
      refine Run.opsEnd ?_
      cases h
      exact Run.ret Tryz.func161 rfl (res_tmp rfl res_nil) rfl

def num_IsName_1 (F : Nat) (v0 : (List UInt8)) (v14 : Bool) : Option (Bool) :=
  bif v14 then
    some false
  else
    bnd (byt v0) fun l24 =>
    num_IsName_2 F F l24 (l24.length : Int) (0 : Int)

theorem num_IsName_1_ok (F : Nat) : ∀ (v0 : (List UInt8)) (v14 : Bool) (Fr : Rd) (M : Mem) (r : Bool) (hH : Has Fr M []), num_IsName_1 F v0 v14 = some r → Run Tryz.prog ⟨⟨161, [], none⟩, []⟩ 50 (num_IsName_post r) [(0, (.str v0)), (14, (.bool v14))] [codeC Tryz.prog 161 [1, 0, 1], codeC Tryz.prog 161 [1, 1]] M := by
  intro v0 v14 Fr M r hH h
  rw [num_IsName_1] at h
  rcases btf (v14) with hc22 | hc22
  · have h := bif_t hc22 h
    refine Run.condT' rfl hc22 ?_
    refine Run.seq (Run.region ?_)
    refine Run.opG wantS_none (ex_assign rfl) rfl ?_
    refine Run.opsEnd ?_
    cases h
    exact Run.ret Tryz.func161 rfl (res_tmp rfl res_nil) rfl
  · have h := bif_f hc22 h
    refine Run.condF' rfl hc22 ?_
    refine Run.skip (Run.seq (Run.seq (Run.region ?_)))
    refine Run.opG wantS_none (ex_move rfl) rfl ?_
    obtain ⟨l24, hl24, h⟩ := bnd_some h
    refine Run.opX wantS_none rfl (ExG.bytes rfl uvk9_224 cvk9_224 hl24 hH) ?_
    rintro _ M25 ⟨b25, rfl, hH25⟩
    refine Run.freezeB (t := 16) (i := 0) (enc := enc5) (fun _ => rfl) hl24 rfl hH25 rfl ?_
    intro F26 M26 hle26 (hH26 : Has F26 M26 [.vec 0 0 0 .nils []]) hf26
    refine Run.opG wantS_none (ex_len' rfl hf26 lenk224) rfl ?_
    refine Run.opG wantS_none (ex_move rfl) rfl ?_
    refine Run.opsEnd (Run.block (Run.loop ?_))
    exact Run.pick [16, 17, 18] (num_IsName_2_ok F F l24 (l24.length : Int) (0 : Int) (.ope b25 0 l24.length 1) _ _ _ hf26 (hH26.pick [] rfl rfl) h)

def num_IsName (F : Nat) (a0 : (List UInt8)) : Option (Bool) :=
  bif ((a0.length : Int) == (0 : Int)) then
    num_IsName_1 F a0 true
  else
    num_IsName_1 F a0 (decide ((16 : Int) < (a0.length : Int)))

theorem num_IsName_ok (F : Nat) (a0 : (List UInt8)) (r : Bool) (M : Mem) (h : num_IsName F a0 = some r) : CallsM Tryz.prog 161 [(.str a0)] M (fun s M' => s = (.bool r) ∧ M' = M) := by
  refine CallsM.plain Tryz.func161 rfl rfl rfl (show Run _ _ _ (num_IsName_post r) _ _ _ from ?_)
  rw [num_IsName] at h
  have hH := Has.nil (frozen M)
  refine Run.seq (Run.region ?_)
  refine Run.opG wantS_none (ex_assign rfl) rfl ?_
  refine Run.opsEnd (Run.seq (Run.seq (Run.region ?_)))
  refine Run.opG wantS_none (ex_move rfl) rfl ?_
  refine Run.opG wantS_none (ex_lenS rfl lenk9) rfl ?_
  refine Run.opG wantS_none (ex_eql rfl rfl) rfl ?_
  refine Run.opG wantS_none (ex_move rfl) rfl ?_
  rcases btf (((a0.length : Int) == (0 : Int))) with hc21 | hc21
  · have h := bif_t hc21 h
    refine Run.no (wantS_not' rfl rfl hc21) rfl ?_
    refine Run.no (wantS_not' rfl rfl hc21) rfl ?_
    refine Run.no (wantS_not' rfl rfl hc21) rfl ?_
    refine Run.opG wantS_none (ex_pickT' rfl hc21 rfl rfl) rfl ?_
    refine Run.opsEnd ?_
    exact Run.pick [0, 14] (num_IsName_1_ok F a0 true _ _ _ hH h)
  · have h := bif_f hc21 h
    refine Run.opG (wantS_yes' rfl rfl hc21) (ex_move rfl) rfl ?_
    refine Run.opG (wantS_yes' rfl rfl hc21) (ex_lenS rfl lenk9) rfl ?_
    refine Run.opG (wantS_yes' rfl rfl hc21) (ex_gtr rfl rfl) rfl ?_
    refine Run.opG wantS_none (ex_pickF' rfl hc21 rfl rfl) rfl ?_
    refine Run.opsEnd ?_
    exact Run.pick [0, 14] (num_IsName_1_ok F a0 (decide ((16 : Int) < (a0.length : Int))) _ _ _ hH h)

theorem mkk161 : makeK Tryz.prog 161 = none := by kernel_rfl
theorem cal161 : callable Tryz.prog 161 = true := by kernel_rfl
theorem mkk154 : makeK Tryz.prog 154 = none := by kernel_rfl
theorem cal154 : callable Tryz.prog 154 = true := by kernel_rfl
theorem off105_1 : fieldOff Tryz.prog 105 1 = some 1 := by kernel_rfl
theorem agg22 : aggSize Tryz.prog 22 = some (some 3) := by kernel_rfl
theorem agg85 : aggSize Tryz.prog 85 = some (some 3) := by kernel_rfl
def enc85 (a : S__3_int) : List SV := [(.int .i64 a.e0), (.int .i64 a.e1), (.int .i64 a.e2)]
theorem enc85_len (a : S__3_int) : (enc85 a).length = 3 := rfl
theorem enc85_ones (a : S__3_int) : ones (enc85 a) = true := rfl
def get85 (a : S__3_int) (o : Nat) : Int := bif Nat.beq o 0 then a.e0 else bif Nat.beq o 1 then a.e1 else a.e2
def set85 (a : S__3_int) (o : Nat) (v : Int) : S__3_int := ⟨bif Nat.beq o 0 then v else a.e0, bif Nat.beq o 1 then v else a.e1, bif Nat.beq o 2 then v else a.e2⟩
theorem get85_cell (a : S__3_int) : ∀ o : Nat, o < 3 → (enc85 a)[o]? = some (.int .i64 (get85 a o))
  | 0, _ => rfl
  | 1, _ => rfl
  | 2, _ => rfl
  | _ + 3, h => absurd h (by omega)
theorem set85_cell (a : S__3_int) (v : Int) : ∀ o : Nat, o < 3 → (enc85 a).set o (.int .i64 v) = enc85 (set85 a o v)
  | 0, _ => rfl
  | 1, _ => rfl
  | 2, _ => rfl
  | _ + 3, h => absurd h (by omega)
theorem wha85 : whole Tryz.prog 85 = some (.arr 3 3 1) := by kernel_rfl
abbrev sky_vector_isWithin_post (r : Bool) : SV → Mem → Prop := fun s _ => s = (.bool r)

def sky_vector_isWithin_1 (F : Nat) : Nat → Int → S__3_int → Int → Option (Bool)
  | 0, _, _, _ => none
  | N + 1, v1, v7, v8 =>
    bif (decide (v8 < (3 : Int))) then
      bnd (inA v8 3) fun o26 =>
      bnd (sky_isFrom F (w64 (-v1)) (get85 v7 o26) v1) fun r28 =>
      bif (!r28) then
        some false
      else
        (sky_vector_isWithin_1 F N) v1 v7 (w64 (v8 + (1 : Int)))
    else
      some true

theorem sky_vector_isWithin_1_ok (F : Nat) : ∀ (N : Nat), ∀ (v1 : Int) (v7 : S__3_int) (v8 : Int) (Fr : Rd) (M : Mem) (r : Bool) (hH : Has Fr M []), sky_vector_isWithin_1 F N v1 v7 v8 = some r → Run Tryz.prog ⟨⟨108, [], none⟩, []⟩ 18 (sky_vector_isWithin_post r) [(1, (.int .i64 v1)), (7, (.agg [(.int .i64 v7.e0), (.int .i64 v7.e1), (.int .i64 v7.e2)])), (8, (.int .i64 v8))] [codeC Tryz.prog 108 [1, 0, 1, 0, 0], loopC Tryz.prog 108 [1, 0, 1, 0, 0], .inBlock 0, codeC Tryz.prog 108 [1, 1]] M := by
  intro N
  induction N with
  | zero =>
    intro v1 v7 v8 Fr M r hH h
    simp [sky_vector_isWithin_1] at h
  | succ N ih =>
    intro v1 v7 v8 Fr M r hH h
    rw [sky_vector_isWithin_1] at h
    refine Run.seq (Run.region ?_)
    refine Run.opG wantS_none (ex_lss rfl rfl) rfl ?_
    refine Run.opsEnd (Run.seq ?_)
    rcases btf ((decide (v8 < (3 : Int)))) with hc24 | hc24
    · have h := bif_t hc24 h
      refine Run.condT' rfl hc24 ?_
      refine Run.skip (Run.seq (Run.block (Run.seq (Run.region ?_))))
      obtain ⟨o26, ho26, h⟩ := bnd_some h
      refine Run.opG wantS_none (ex_idxA rfl rfl wha85 (inA_natIn ho26) (part_at agg3 (get85_cell v7 o26 (inA_lt ho26)))) rfl ?_
      refine Run.opG wantS_none (ex_assign rfl) rfl ?_
      refine Run.opsEnd (Run.seq (Run.region ?_))
      refine Run.opG wantS_none (ex_move rfl) rfl ?_
      refine Run.opG wantS_none (ex_neg rfl) rfl ?_
      refine Run.opG wantS_none (ex_move rfl) rfl ?_
      refine Run.opG wantS_none (ex_move rfl) rfl ?_
      obtain ⟨r28, hr28, h⟩ := bnd_some h
      refine Run.callP wantS_none (ex_call rfl mkk62 cal62) rfl (sky_isFrom_ok F (w64 (-v1)) (get85 v7 o26) v1 _ _ hr28) ?_
      refine Run.opG wantS_none (ex_not rfl) rfl ?_
      refine Run.opsEnd ?_
      rcases btf ((!r28)) with hc30 | hc30
      · have h := bif_t hc30 h
        refine Run.condT' rfl hc30 ?_
        refine Run.seq (Run.region ?_)
        refine Run.opG wantS_none (ex_assign rfl) rfl ?_
        refine Run.opsEnd ?_
        cases h
        exact Run.ret Tryz.func108 rfl (res_tmp rfl res_nil) rfl
      · have h := bif_f hc30 h
        refine Run.condF' rfl hc30 ?_
        refine Run.skip (Run.inBlock (Run.region ?_))
        refine Run.opG wantS_none (ex_add rfl rfl) rfl ?_
        refine Run.opG wantS_none (ex_move rfl) rfl ?_
        refine Run.opsEnd (Run.inLoop ?_)
        exact Run.pick [1, 7, 8] (ih v1 v7 (w64 (v8 + (1 : Int))) _ _ _ hH h)
    · have h := bif_f hc24 h
      refine Run.condF' rfl hc24 ?_
      refine Run.exit rfl (Run.seq (Run.region ?_))
      refine Run.opG wantS_none (ex_assign rfl) rfl ?_
      refine Run.opsEnd ?_
      cases h
      exact Run.ret Tryz.func108 rfl (res_tmp rfl res_nil) rfl

def sky_vector_isWithin (F : Nat) (a0 : S__3_int) (a1 : Int) : Option (Bool) :=
  sky_vector_isWithin_1 F F a1 a0 (0 : Int)

theorem sky_vector_isWithin_ok (F : Nat) (a0 : S__3_int) (a1 : Int) (r : Bool) (M : Mem) (h : sky_vector_isWithin F a0 a1 = some r) : CallsM Tryz.prog 108 [(.agg [(.int .i64 a0.e0), (.int .i64 a0.e1), (.int .i64 a0.e2)]), (.int .i64 a1)] M (fun s M' => s = (.bool r) ∧ M' = M) := by
  refine CallsM.plain Tryz.func108 rfl rfl rfl (show Run _ _ _ (sky_vector_isWithin_post r) _ _ _ from ?_)
  rw [sky_vector_isWithin] at h
  have hH := Has.nil (frozen M)
  refine Run.seq (Run.region ?_)
  refine Run.opX wantS_none rfl (ExG.box rfl rfl hH) ?_
  rintro _ M23 ⟨b22, rfl, hH23⟩
  refine Run.opG wantS_none (ex_assign rfl) rfl ?_
  refine Run.opsEnd (Run.seq (Run.seq (Run.region ?_)))
  refine Run.opG wantS_none (ex_loadA rfl (hH23.cells (i := 0) rfl 0 rfl) rdLe_rfl agg85 rfl rfl rfl) rfl ?_
  refine Run.opG wantS_none (ex_move rfl) rfl ?_
  refine Run.opsEnd (Run.block (Run.loop ?_))
  exact Run.pick [1, 7, 8] (sky_vector_isWithin_1_ok F F a1 a0 (0 : Int) _ _ _ (hH23.pick [] rfl rfl) h)

theorem mkk108 : makeK Tryz.prog 108 = none := by kernel_rfl
theorem cal108 : callable Tryz.prog 108 = true := by kernel_rfl
theorem off105_2 : fieldOff Tryz.prog 105 2 = some 4 := by kernel_rfl
theorem zer85 : zerosOf Tryz.prog 85 = some [(.int .i64 0), (.int .i64 0), (.int .i64 0)] := by kernel_rfl
theorem pls85 : placesOf Tryz.prog 85 = some (.ar 1) := by kernel_rfl
theorem agk3 : aggK Tryz.prog 3 = some .int := by kernel_rfl
theorem agk85 : aggK Tryz.prog 85 = some (.ar 3 3 1) := by kernel_rfl
theorem aeq85 : aggEq Tryz.prog 85 = false := by kernel_rfl
abbrev sky_vector_isNone_post (r : Bool) : SV → Mem → Prop := fun s _ => s = (.bool r)

def sky_vector_isNone (F : Nat) (a0 : S__3_int) : Option (Bool) :=
  some ((a0.e0 == (0 : Int)) && ((a0.e1 == (0 : Int)) && ((a0.e2 == (0 : Int)) && true)))

theorem sky_vector_isNone_ok (F : Nat) (a0 : S__3_int) (r : Bool) (M : Mem) (h : sky_vector_isNone F a0 = some r) : CallsM Tryz.prog 56 [(.agg [(.int .i64 a0.e0), (.int .i64 a0.e1), (.int .i64 a0.e2)])] M (fun s M' => s = (.bool r) ∧ M' = M) := by
  refine CallsM.plain Tryz.func56 rfl rfl rfl (show Run _ _ _ (sky_vector_isNone_post r) _ _ _ from ?_)
  rw [sky_vector_isNone] at h
  have hH := Has.nil (frozen M)
  refine Run.seq (Run.region ?_)
  refine Run.opX wantS_none rfl (ExG.box rfl rfl hH) ?_
  rintro _ M23 ⟨b22, rfl, hH23⟩
  refine Run.opG wantS_none (ex_assign rfl) rfl ?_
  refine Run.opsEnd (Run.seq (Run.region ?_))
  refine Run.opG wantS_none (ex_loadA rfl (hH23.cells (i := 0) rfl 0 rfl) rdLe_rfl agg85 rfl rfl rfl) rfl ?_
  refine Run.opG wantS_none (ex_buildA (r := [(.int .i64 0), (.int .i64 0), (.int .i64 0)]) rfl zer85 pls85 rfl) rfl ?_
  refine Run.opG wantS_none (ex_eqlA rfl rfl aeq85 (eqA_ar agk85 (eqEs_cons (part_one agg3 rfl) (part_one agg3 rfl) (eqA_int agk3) (eqEs_cons (part_one agg3 rfl) (part_one agg3 rfl) (eqA_int agk3) (eqEs_cons (part_one agg3 rfl) (part_one agg3 rfl) (eqA_int agk3) eqEs_nil))))) rfl ?_
  refine Run.opG wantS_none (ex_assign rfl) rfl ?_
  refine Run.opsEnd ?_
  cases h
  exact Run.ret Tryz.func56 rfl (res_tmp rfl res_nil) rfl

theorem mkk56 : makeK Tryz.prog 56 = none := by kernel_rfl
theorem cal56 : callable Tryz.prog 56 = true := by kernel_rfl
abbrev sky_isArm_post (r : Bool) : SV → Mem → Prop := fun s _ => s = (.bool r)

def sky_isArm_1 (F : Nat) (v9 : Bool) : Option (Bool) :=
  some v9

theorem sky_isArm_1_ok (F : Nat) : ∀ (v9 : Bool) (Fr : Rd) (M : Mem) (r : Bool) (hH : Has Fr M []), sky_isArm_1 F v9 = some r → Run Tryz.prog ⟨⟨186, [], none⟩, []⟩ 10 (sky_isArm_post r) [(9, (.bool v9))] [itemC Tryz.prog 186 [1, 0] 7, codeC Tryz.prog 186 [1, 1]] M := by
  intro v9 Fr M r hH h
  rw [sky_isArm_1] at h
  refine Run.opG wantS_none (ex_assign rfl) rfl ?_
  refine Run.opsEnd ?_
  cases h
  exact Run.ret Tryz.func186 rfl (res_tmp rfl res_nil) rfl

def sky_isArm (F : Nat) (a0 : S__3_int) : Option (Bool) :=
  bnd (sky_vector_isWithin F a0 (100 : Int)) fun r25 =>
  bif r25 then
    bnd (sky_vector_isNone F a0) fun r29 =>
    sky_isArm_1 F (!r29)
  else
    sky_isArm_1 F false

theorem sky_isArm_ok (F : Nat) (a0 : S__3_int) (r : Bool) (M : Mem) (h : sky_isArm F a0 = some r) : CallsM Tryz.prog 186 [(.agg [(.int .i64 a0.e0), (.int .i64 a0.e1), (.int .i64 a0.e2)])] M (fun s M' => s = (.bool r) ∧ M' = M) := by
  refine CallsM.plain Tryz.func186 rfl rfl rfl (show Run _ _ _ (sky_isArm_post r) _ _ _ from ?_)
  rw [sky_isArm] at h
  have hH := Has.nil (frozen M)
  refine Run.seq (Run.region ?_)
  refine Run.opX wantS_none rfl (ExG.box rfl rfl hH) ?_
  rintro _ M23 ⟨b22, rfl, hH23⟩
  refine Run.opG wantS_none (ex_assign rfl) rfl ?_
  refine Run.opsEnd (Run.seq (Run.region ?_))
  refine Run.opG wantS_none (ex_loadA rfl (hH23.cells (i := 0) rfl 0 rfl) rdLe_rfl agg85 rfl rfl rfl) rfl ?_
  obtain ⟨r25, hr25, h⟩ := bnd_some h
  refine Run.callP wantS_none (ex_call rfl mkk108 cal108) rfl (sky_vector_isWithin_ok F a0 (100 : Int) _ _ hr25) ?_
  refine Run.opG wantS_none (ex_move rfl) rfl ?_
  rcases btf (r25) with hc27 | hc27
  · have h := bif_t hc27 h
    refine Run.opG (wantS_yes' rfl rfl hc27) (ex_loadA rfl (hH23.cells (i := 0) rfl 0 rfl) rdLe_rfl agg85 rfl rfl rfl) rfl ?_
    obtain ⟨r29, hr29, h⟩ := bnd_some h
    refine Run.callP (wantS_yes' rfl rfl hc27) (ex_call rfl mkk56 cal56) rfl (sky_vector_isNone_ok F a0 _ _ hr29) ?_
    refine Run.opG (wantS_yes' rfl rfl hc27) (ex_not rfl) rfl ?_
    refine Run.opG wantS_none (ex_pickT' rfl hc27 rfl rfl) rfl ?_
    exact Run.pick [9] (sky_isArm_1_ok F (!r29) _ _ _ (hH23.pick [] rfl rfl) h)
  · have h := bif_f hc27 h
    refine Run.no (wantS_not' rfl rfl hc27) rfl ?_
    refine Run.no (wantS_not' rfl rfl hc27) rfl ?_
    refine Run.no (wantS_not' rfl rfl hc27) rfl ?_
    refine Run.opG wantS_none (ex_pickF' rfl hc27 rfl rfl) rfl ?_
    exact Run.pick [9] (sky_isArm_1_ok F false _ _ _ (hH23.pick [] rfl rfl) h)

theorem mkk186 : makeK Tryz.prog 186 = none := by kernel_rfl
theorem cal186 : callable Tryz.prog 186 = true := by kernel_rfl
theorem off105_3 : fieldOff Tryz.prog 105 3 = some 7 := by kernel_rfl
abbrev sky_isNet_post (r : Bool) : SV → Mem → Prop := fun s _ => s = (.bool r)

def sky_isNet_3 (F : Nat) (hd1 : (List S_api_Site) → Int → Int → (List ((List UInt8) × Bool)) → Option (Bool)) (v14 : (List UInt8)) (v22 : (List S_api_Site)) (v23 v24 : Int) (v44 : Bool) (l26 : (List ((List UInt8) × Bool))) : Option (Bool) :=
  bif v44 then
    some false
  else
    hd1 v22 v23 (w64 (v24 + (1 : Int))) (mput eqB l26 v14 true)

theorem sky_isNet_3_ok (F : Nat) (hd1 : (List S_api_Site) → Int → Int → (List ((List UInt8) × Bool)) → Option (Bool)) (hhd1 : ∀ (v22 : (List S_api_Site)) (v23 v24 : Int) (l26 : (List ((List UInt8) × Bool))) (sv22 : SV) (b26 : Pos) (Fr : Rd) (M : Mem) (r : Bool) (hv22 : Slc Fr 10 (FlatR enc105) sv22 v22) (hH : Has Fr M [.obj b26 (.map (mapES kv9 kv4 0 l26) l26.length)]), hd1 v22 v23 v24 l26 = some r → Run Tryz.prog ⟨⟨153, [], none⟩, [.mk ⟨104, [], none⟩ 7 (treeOf []) [itemC Tryz.prog 104 [1, 1, 0] 2, codeC Tryz.prog 104 [1, 1, 1]]]⟩ 48 (sky_isNet_post r) [(3, (.fn (.func 152) [] [])), (4, (.fn (.func 154) [] [])), (11, (.map b26)), (22, sv22), (23, (.int .i64 v23)), (24, (.int .i64 v24))] [codeC Tryz.prog 153 [1, 1, 1, 0, 1, 0, 0], loopC Tryz.prog 153 [1, 1, 1, 0, 1, 0, 0], .inBlock 0, codeC Tryz.prog 153 [1, 1, 1, 1]] M) : ∀ (v14 : (List UInt8)) (v22 : (List S_api_Site)) (v23 v24 : Int) (v44 : Bool) (l26 : (List ((List UInt8) × Bool))) (sv22 : SV) (b26 : Pos) (Fr : Rd) (M : Mem) (r : Bool) (hv22 : Slc Fr 10 (FlatR enc105) sv22 v22) (hH : Has Fr M [.obj b26 (.map (mapES kv9 kv4 0 l26) l26.length)]), sky_isNet_3 F hd1 v14 v22 v23 v24 v44 l26 = some r → Run Tryz.prog ⟨⟨153, [], none⟩, [.mk ⟨104, [], none⟩ 7 (treeOf []) [itemC Tryz.prog 104 [1, 1, 0] 2, codeC Tryz.prog 104 [1, 1, 1]]]⟩ 48 (sky_isNet_post r) [(3, (.fn (.func 152) [] [])), (4, (.fn (.func 154) [] [])), (11, (.map b26)), (14, (.str v14)), (22, sv22), (23, (.int .i64 v23)), (24, (.int .i64 v24)), (44, (.bool v44))] [codeC Tryz.prog 153 [1, 1, 1, 0, 1, 0, 0, 1, 1, 0, 0, 1, 1, 0, 1], codeC Tryz.prog 153 [1, 1, 1, 0, 1, 0, 0, 1, 1, 0, 0, 1, 1, 1], .inBlock 1, codeC Tryz.prog 153 [1, 1, 1, 0, 1, 0, 0, 1, 1, 1], loopC Tryz.prog 153 [1, 1, 1, 0, 1, 0, 0], .inBlock 0, codeC Tryz.prog 153 [1, 1, 1, 1]] M := by
  intro v14 v22 v23 v24 v44 l26 sv22 b26 Fr M r hv22 hH h
  rw [sky_isNet_3] at h
  rcases btf (v44) with hc43 | hc43
  · have h := bif_t hc43 h
    refine Run.condT' rfl hc43 ?_
    refine Run.seq (Run.region ?_)
    refine Run.opG wantS_none (ex_assign rfl) rfl ?_
    refine Run.opsEnd ?_
    refine Run.retTo Tryz.func153 rfl (res_tmp rfl res_nil) rfl ?_
    refine Run.opG wantS_none (ex_assign rfl) rfl ?_
    refine Run.opsEnd ?_
    cases h
    exact Run.ret Tryz.func104 rfl (res_tmp rfl res_nil) rfl
  · have h := bif_f hc43 h
    refine Run.condF' rfl hc43 ?_
    refine Run.skip (Run.region ?_)
    refine Run.opG wantS_none (ex_move rfl) rfl ?_
    refine Run.opG wantS_none (ex_move rfl) rfl ?_
    refine Run.opX wantS_none rfl (ExG.mapUpdate (ke := kv9) (ve := kv4) (k := v14) (v := true) rfl rfl rfl hH (i := 0) rfl kmt200 (kok200 _) keq200 khe200 rfl rfl) ?_
    rintro _ M44 ⟨rfl, (hH44 : Has Fr M44 [.obj b26 (.map (mapES kv9 kv4 0 (mput eqB l26 v14 true)) (mput eqB l26 v14 true).length)])⟩
    refine Run.opsEnd (Run.inBlock (Run.region ?_))
    refine Run.opG wantS_none (ex_add rfl rfl) rfl ?_
    refine Run.opG wantS_none (ex_move rfl) rfl ?_
    refine Run.opsEnd (Run.inLoop ?_)
    exact Run.low (.cons (fle_pick [] rfl) .nil) (Run.pick [3, 4, 11, 22, 23, 24] (hhd1 v22 v23 (w64 (v24 + (1 : Int))) (mput eqB l26 v14 true) sv22 b26 _ _ _ hv22 hH44 h))

def sky_isNet_5 (F : Nat) (hd1 : (List S_api_Site) → Int → Int → (List ((List UInt8) × Bool)) → Option (Bool)) (v15 : Bool) (v14_f1 : (List UInt8)) (v22_f1 : (List S_api_Site)) (v23_f1 v24_f1 : Int) (v39_f1 : Bool) (l26 : (List ((List UInt8) × Bool))) : Option (Bool) :=
  bif v39_f1 then
    sky_isNet_3 F hd1 v14_f1 v22_f1 v23_f1 v24_f1 true l26
  else
    sky_isNet_3 F hd1 v14_f1 v22_f1 v23_f1 v24_f1 (!v15) l26

theorem sky_isNet_5_ok (F : Nat) (hd1 : (List S_api_Site) → Int → Int → (List ((List UInt8) × Bool)) → Option (Bool)) (hhd1 : ∀ (v22 : (List S_api_Site)) (v23 v24 : Int) (l26 : (List ((List UInt8) × Bool))) (sv22 : SV) (b26 : Pos) (Fr : Rd) (M : Mem) (r : Bool) (hv22 : Slc Fr 10 (FlatR enc105) sv22 v22) (hH : Has Fr M [.obj b26 (.map (mapES kv9 kv4 0 l26) l26.length)]), hd1 v22 v23 v24 l26 = some r → Run Tryz.prog ⟨⟨153, [], none⟩, [.mk ⟨104, [], none⟩ 7 (treeOf []) [itemC Tryz.prog 104 [1, 1, 0] 2, codeC Tryz.prog 104 [1, 1, 1]]]⟩ 48 (sky_isNet_post r) [(3, (.fn (.func 152) [] [])), (4, (.fn (.func 154) [] [])), (11, (.map b26)), (22, sv22), (23, (.int .i64 v23)), (24, (.int .i64 v24))] [codeC Tryz.prog 153 [1, 1, 1, 0, 1, 0, 0], loopC Tryz.prog 153 [1, 1, 1, 0, 1, 0, 0], .inBlock 0, codeC Tryz.prog 153 [1, 1, 1, 1]] M) : ∀ (v15 : Bool) (v14_f1 : (List UInt8)) (v22_f1 : (List S_api_Site)) (v23_f1 v24_f1 : Int) (v39_f1 : Bool) (l26 : (List ((List UInt8) × Bool))) (sv22_f1 : SV) (b26 : Pos) (Fr : Rd) (M : Mem) (r : Bool) (hv22_f1 : Slc Fr 10 (FlatR enc105) sv22_f1 v22_f1) (hH : Has Fr M [.obj b26 (.map (mapES kv9 kv4 0 l26) l26.length)]), sky_isNet_5 F hd1 v15 v14_f1 v22_f1 v23_f1 v24_f1 v39_f1 l26 = some r → Run Tryz.prog ⟨⟨154, [], none⟩, [.mk ⟨153, [], none⟩ 48 (treeOf [(3, (.fn (.func 152) [] [])), (4, (.fn (.func 154) [] [])), (11, (.map b26)), (14, (.str v14_f1)), (22, sv22_f1), (23, (.int .i64 v23_f1)), (24, (.int .i64 v24_f1)), (39, (.bool v39_f1))]) [itemC Tryz.prog 153 [1, 1, 1, 0, 1, 0, 0, 1, 1, 0, 0, 1, 1, 0, 0] 11, codeC Tryz.prog 153 [1, 1, 1, 0, 1, 0, 0, 1, 1, 0, 0, 1, 1, 0, 1], codeC Tryz.prog 153 [1, 1, 1, 0, 1, 0, 0, 1, 1, 0, 0, 1, 1, 1], .inBlock 1, codeC Tryz.prog 153 [1, 1, 1, 0, 1, 0, 0, 1, 1, 1], loopC Tryz.prog 153 [1, 1, 1, 0, 1, 0, 0], .inBlock 0, codeC Tryz.prog 153 [1, 1, 1, 1]], .mk ⟨104, [], none⟩ 7 (treeOf []) [itemC Tryz.prog 104 [1, 1, 0] 2, codeC Tryz.prog 104 [1, 1, 1]]]⟩ 16 (sky_isNet_post r) [(15, (.bool v15))] [itemC Tryz.prog 154 [1, 0] 13, codeC Tryz.prog 154 [1, 1]] M := by
  intro v15 v14_f1 v22_f1 v23_f1 v24_f1 v39_f1 l26 sv22_f1 b26 Fr M r hv22_f1 hH h
  rw [sky_isNet_5] at h
  refine Run.opG wantS_none (ex_assign rfl) rfl ?_
  refine Run.opsEnd ?_
  refine Run.retTo Tryz.func154 rfl (res_tmp rfl res_nil) rfl ?_
  rcases btf (v39_f1) with hc59 | hc59
  · have h := bif_t hc59 h
    refine Run.no (wantS_not' rfl rfl hc59) rfl ?_
    refine Run.opG wantS_none (ex_pickT' rfl hc59 rfl rfl) rfl ?_
    refine Run.opsEnd ?_
    exact Run.low (.cons (fle_pick [] rfl) .nil) (Run.pick [3, 4, 11, 14, 22, 23, 24, 44] (sky_isNet_3_ok F hd1 hhd1 v14_f1 v22_f1 v23_f1 v24_f1 true l26 sv22_f1 b26 _ _ _ hv22_f1 hH h))
  · have h := bif_f hc59 h
    refine Run.opG (wantS_yes' rfl rfl hc59) (ex_not rfl) rfl ?_
    refine Run.opG wantS_none (ex_pickF' rfl hc59 rfl rfl) rfl ?_
    refine Run.opsEnd ?_
    exact Run.low (.cons (fle_pick [] rfl) .nil) (Run.pick [3, 4, 11, 14, 22, 23, 24, 44] (sky_isNet_3_ok F hd1 hhd1 v14_f1 v22_f1 v23_f1 v24_f1 (!v15) l26 sv22_f1 b26 _ _ _ hv22_f1 hH h))

def sky_isNet_4 (F : Nat) (hd1 : (List S_api_Site) → Int → Int → (List ((List UInt8) × Bool)) → Option (Bool)) (v10 : Bool) (v14_f1 : (List UInt8)) (v22_f1 : (List S_api_Site)) (v23_f1 v24_f1 : Int) (v39_f1 : Bool) (c46 : S_api_Site) (l26 : (List ((List UInt8) × Bool))) : Option (Bool) :=
  bif v10 then
    bnd (sky_isArm F c46.ArmV) fun r57 =>
    sky_isNet_5 F hd1 r57 v14_f1 v22_f1 v23_f1 v24_f1 v39_f1 l26
  else
    sky_isNet_5 F hd1 false v14_f1 v22_f1 v23_f1 v24_f1 v39_f1 l26

theorem sky_isNet_4_ok (F : Nat) (hd1 : (List S_api_Site) → Int → Int → (List ((List UInt8) × Bool)) → Option (Bool)) (hhd1 : ∀ (v22 : (List S_api_Site)) (v23 v24 : Int) (l26 : (List ((List UInt8) × Bool))) (sv22 : SV) (b26 : Pos) (Fr : Rd) (M : Mem) (r : Bool) (hv22 : Slc Fr 10 (FlatR enc105) sv22 v22) (hH : Has Fr M [.obj b26 (.map (mapES kv9 kv4 0 l26) l26.length)]), hd1 v22 v23 v24 l26 = some r → Run Tryz.prog ⟨⟨153, [], none⟩, [.mk ⟨104, [], none⟩ 7 (treeOf []) [itemC Tryz.prog 104 [1, 1, 0] 2, codeC Tryz.prog 104 [1, 1, 1]]]⟩ 48 (sky_isNet_post r) [(3, (.fn (.func 152) [] [])), (4, (.fn (.func 154) [] [])), (11, (.map b26)), (22, sv22), (23, (.int .i64 v23)), (24, (.int .i64 v24))] [codeC Tryz.prog 153 [1, 1, 1, 0, 1, 0, 0], loopC Tryz.prog 153 [1, 1, 1, 0, 1, 0, 0], .inBlock 0, codeC Tryz.prog 153 [1, 1, 1, 1]] M) : ∀ (v10 : Bool) (v14_f1 : (List UInt8)) (v22_f1 : (List S_api_Site)) (v23_f1 v24_f1 : Int) (v39_f1 : Bool) (c46 : S_api_Site) (l26 : (List ((List UInt8) × Bool))) (sv22_f1 : SV) (b46 b26 : Pos) (Fr : Rd) (M : Mem) (r : Bool) (hv22_f1 : Slc Fr 10 (FlatR enc105) sv22_f1 v22_f1) (hH : Has Fr M [.obj b46 (.row 105 .whole [(.str c46.Name), (.int .i64 c46.Place.e0), (.int .i64 c46.Place.e1), (.int .i64 c46.Place.e2), (.int .i64 c46.ArmU.e0), (.int .i64 c46.ArmU.e1), (.int .i64 c46.ArmU.e2), (.int .i64 c46.ArmV.e0), (.int .i64 c46.ArmV.e1), (.int .i64 c46.ArmV.e2)]), .obj b26 (.map (mapES kv9 kv4 0 l26) l26.length)]), sky_isNet_4 F hd1 v10 v14_f1 v22_f1 v23_f1 v24_f1 v39_f1 c46 l26 = some r → Run Tryz.prog ⟨⟨154, [], none⟩, [.mk ⟨153, [], none⟩ 48 (treeOf [(3, (.fn (.func 152) [] [])), (4, (.fn (.func 154) [] [])), (11, (.map b26)), (14, (.str v14_f1)), (22, sv22_f1), (23, (.int .i64 v23_f1)), (24, (.int .i64 v24_f1)), (39, (.bool v39_f1))]) [itemC Tryz.prog 153 [1, 1, 1, 0, 1, 0, 0, 1, 1, 0, 0, 1, 1, 0, 0] 11, codeC Tryz.prog 153 [1, 1, 1, 0, 1, 0, 0, 1, 1, 0, 0, 1, 1, 0, 1], codeC Tryz.prog 153 [1, 1, 1, 0, 1, 0, 0, 1, 1, 0, 0, 1, 1, 1], .inBlock 1, codeC Tryz.prog 153 [1, 1, 1, 0, 1, 0, 0, 1, 1, 1], loopC Tryz.prog 153 [1, 1, 1, 0, 1, 0, 0], .inBlock 0, codeC Tryz.prog 153 [1, 1, 1, 1]], .mk ⟨104, [], none⟩ 7 (treeOf []) [itemC Tryz.prog 104 [1, 1, 0] 2, codeC Tryz.prog 104 [1, 1, 1]]]⟩ 16 (sky_isNet_post r) [(1, (.ptr b46 0)), (10, (.bool v10))] [itemC Tryz.prog 154 [1, 0] 8, codeC Tryz.prog 154 [1, 1]] M := by
  intro v10 v14_f1 v22_f1 v23_f1 v24_f1 v39_f1 c46 l26 sv22_f1 b46 b26 Fr M r hv22_f1 hH h
  rw [sky_isNet_4] at h
  refine Run.opG wantS_none (ex_move rfl) rfl ?_
  rcases btf (v10) with hc55 | hc55
  · have h := bif_t hc55 h
    refine Run.opG (wantS_yes' rfl rfl hc55) (ex_fieldAddr rfl off105_3) rfl ?_
    refine Run.opG (wantS_yes' rfl rfl hc55) (ex_loadA rfl (hH.cells (i := 0) rfl 7 rfl) rdLe_rfl agg22 rfl rfl rfl) rfl ?_
    obtain ⟨r57, hr57, h⟩ := bnd_some h
    refine Run.callP (wantS_yes' rfl rfl hc55) (ex_call rfl mkk186 cal186) rfl (sky_isArm_ok F c46.ArmV _ _ hr57) ?_
    refine Run.opG wantS_none (ex_pickT' rfl hc55 rfl rfl) rfl ?_
    exact Run.low (.cons (fle_pick [3, 4, 11, 14, 22, 23, 24, 39] rfl) (.cons (fle_pick [] rfl) .nil)) (Run.pick [15] (sky_isNet_5_ok F hd1 hhd1 r57 v14_f1 v22_f1 v23_f1 v24_f1 v39_f1 l26 sv22_f1 b26 _ _ _ hv22_f1 (hH.pick [1] rfl rfl) h))
  · have h := bif_f hc55 h
    refine Run.no (wantS_not' rfl rfl hc55) rfl ?_
    refine Run.no (wantS_not' rfl rfl hc55) rfl ?_
    refine Run.no (wantS_not' rfl rfl hc55) rfl ?_
    refine Run.opG wantS_none (ex_pickF' rfl hc55 rfl rfl) rfl ?_
    exact Run.low (.cons (fle_pick [3, 4, 11, 14, 22, 23, 24, 39] rfl) (.cons (fle_pick [] rfl) .nil)) (Run.pick [15] (sky_isNet_5_ok F hd1 hhd1 false v14_f1 v22_f1 v23_f1 v24_f1 v39_f1 l26 sv22_f1 b26 _ _ _ hv22_f1 (hH.pick [1] rfl rfl) h))

def sky_isNet_2 (F : Nat) (hd1 : (List S_api_Site) → Int → Int → (List ((List UInt8) × Bool)) → Option (Bool)) (v14 : (List UInt8)) (v22 : (List S_api_Site)) (v23 v24 : Int) (v38 : Bool) (c32 : S_api_Site) (l26 : (List ((List UInt8) × Bool))) : Option (Bool) :=
  bif v38 then
    sky_isNet_3 F hd1 v14 v22 v23 v24 true l26
  else
    bnd (sky_vector_isWithin F c32.Place (65536 : Int)) fun r49 =>
    bif r49 then
      bnd (sky_isArm F c32.ArmU) fun r53 =>
      sky_isNet_4 F hd1 r53 v14 v22 v23 v24 v38 c32 l26
    else
      sky_isNet_4 F hd1 false v14 v22 v23 v24 v38 c32 l26

theorem sky_isNet_2_ok (F : Nat) (hd1 : (List S_api_Site) → Int → Int → (List ((List UInt8) × Bool)) → Option (Bool)) (hhd1 : ∀ (v22 : (List S_api_Site)) (v23 v24 : Int) (l26 : (List ((List UInt8) × Bool))) (sv22 : SV) (b26 : Pos) (Fr : Rd) (M : Mem) (r : Bool) (hv22 : Slc Fr 10 (FlatR enc105) sv22 v22) (hH : Has Fr M [.obj b26 (.map (mapES kv9 kv4 0 l26) l26.length)]), hd1 v22 v23 v24 l26 = some r → Run Tryz.prog ⟨⟨153, [], none⟩, [.mk ⟨104, [], none⟩ 7 (treeOf []) [itemC Tryz.prog 104 [1, 1, 0] 2, codeC Tryz.prog 104 [1, 1, 1]]]⟩ 48 (sky_isNet_post r) [(3, (.fn (.func 152) [] [])), (4, (.fn (.func 154) [] [])), (11, (.map b26)), (22, sv22), (23, (.int .i64 v23)), (24, (.int .i64 v24))] [codeC Tryz.prog 153 [1, 1, 1, 0, 1, 0, 0], loopC Tryz.prog 153 [1, 1, 1, 0, 1, 0, 0], .inBlock 0, codeC Tryz.prog 153 [1, 1, 1, 1]] M) : ∀ (v14 : (List UInt8)) (v22 : (List S_api_Site)) (v23 v24 : Int) (v38 : Bool) (c32 : S_api_Site) (l26 : (List ((List UInt8) × Bool))) (sv22 : SV) (b26 b32 : Pos) (Fr : Rd) (M : Mem) (r : Bool) (hv22 : Slc Fr 10 (FlatR enc105) sv22 v22) (hH : Has Fr M [.obj b26 (.map (mapES kv9 kv4 0 l26) l26.length), .obj b32 (.row 105 .whole [(.str c32.Name), (.int .i64 c32.Place.e0), (.int .i64 c32.Place.e1), (.int .i64 c32.Place.e2), (.int .i64 c32.ArmU.e0), (.int .i64 c32.ArmU.e1), (.int .i64 c32.ArmU.e2), (.int .i64 c32.ArmV.e0), (.int .i64 c32.ArmV.e1), (.int .i64 c32.ArmV.e2)])]), sky_isNet_2 F hd1 v14 v22 v23 v24 v38 c32 l26 = some r → Run Tryz.prog ⟨⟨153, [], none⟩, [.mk ⟨104, [], none⟩ 7 (treeOf []) [itemC Tryz.prog 104 [1, 1, 0] 2, codeC Tryz.prog 104 [1, 1, 1]]]⟩ 48 (sky_isNet_post r) [(3, (.fn (.func 152) [] [])), (4, (.fn (.func 154) [] [])), (11, (.map b26)), (13, (.ptr b32 0)), (14, (.str v14)), (22, sv22), (23, (.int .i64 v23)), (24, (.int .i64 v24)), (38, (.bool v38))] [itemC Tryz.prog 153 [1, 1, 1, 0, 1, 0, 0, 1, 1, 0, 0, 1, 1, 0, 0] 8, codeC Tryz.prog 153 [1, 1, 1, 0, 1, 0, 0, 1, 1, 0, 0, 1, 1, 0, 1], codeC Tryz.prog 153 [1, 1, 1, 0, 1, 0, 0, 1, 1, 0, 0, 1, 1, 1], .inBlock 1, codeC Tryz.prog 153 [1, 1, 1, 0, 1, 0, 0, 1, 1, 1], loopC Tryz.prog 153 [1, 1, 1, 0, 1, 0, 0], .inBlock 0, codeC Tryz.prog 153 [1, 1, 1, 1]] M := by
  intro v14 v22 v23 v24 v38 c32 l26 sv22 b26 b32 Fr M r hv22 hH h
  rw [sky_isNet_2] at h
  refine Run.opG wantS_none (ex_move rfl) rfl ?_
  rcases btf (v38) with hc42 | hc42
  · have h := bif_t hc42 h
    refine Run.no (wantS_not' rfl rfl hc42) rfl ?_
    refine Run.no (wantS_not' rfl rfl hc42) rfl ?_
    refine Run.no (wantS_not' rfl rfl hc42) rfl ?_
    refine Run.no (wantS_not' rfl rfl hc42) rfl ?_
    refine Run.opG wantS_none (ex_pickT' rfl hc42 rfl rfl) rfl ?_
    refine Run.opsEnd ?_
    exact Run.low (.cons (fle_pick [] rfl) .nil) (Run.pick [3, 4, 11, 14, 22, 23, 24, 44] (sky_isNet_3_ok F hd1 hhd1 v14 v22 v23 v24 true l26 sv22 b26 _ _ _ hv22 (hH.pick [0] rfl rfl) h))
  · have h := bif_f hc42 h
    refine Run.opG (wantS_yes' rfl rfl hc42) (ex_move rfl) rfl ?_
    refine Run.opG (wantS_yes' rfl rfl hc42) (ex_loadA rfl (hH.cells (i := 1) rfl 0 rfl) rdLe_rfl agg105 rfl rfl rfl) rfl ?_
    refine Run.enter (wantS_yes' rfl rfl hc42) (ex_closure rfl rfl mkk154 cal154) Tryz.func154 rfl rfl ?_
    refine Run.seq (Run.region ?_)
    refine Run.opX wantS_none rfl (ExG.box rfl rfl hH) ?_
    rintro _ M47 ⟨b46, rfl, hH47⟩
    refine Run.opG wantS_none (ex_assign rfl) rfl ?_
    refine Run.opsEnd (Run.seq (Run.region ?_))
    refine Run.opG wantS_none (ex_fieldAddr rfl off105_1) rfl ?_
    refine Run.opG wantS_none (ex_loadA rfl (hH47.cells (i := 0) rfl 1 rfl) rdLe_rfl agg22 rfl rfl rfl) rfl ?_
    obtain ⟨r49, hr49, h⟩ := bnd_some h
    refine Run.callP wantS_none (ex_call rfl mkk108 cal108) rfl (sky_vector_isWithin_ok F c32.Place (65536 : Int) _ _ hr49) ?_
    refine Run.opG wantS_none (ex_move rfl) rfl ?_
    rcases btf (r49) with hc51 | hc51
    · have h := bif_t hc51 h
      refine Run.opG (wantS_yes' rfl rfl hc51) (ex_fieldAddr rfl off105_2) rfl ?_
      refine Run.opG (wantS_yes' rfl rfl hc51) (ex_loadA rfl (hH47.cells (i := 0) rfl 4 rfl) rdLe_rfl agg22 rfl rfl rfl) rfl ?_
      obtain ⟨r53, hr53, h⟩ := bnd_some h
      refine Run.callP (wantS_yes' rfl rfl hc51) (ex_call rfl mkk186 cal186) rfl (sky_isArm_ok F c32.ArmU _ _ hr53) ?_
      refine Run.opG wantS_none (ex_pickT' rfl hc51 rfl rfl) rfl ?_
      exact Run.low (.cons (fle_pick [3, 4, 11, 14, 22, 23, 24, 39] rfl) (.cons (fle_pick [] rfl) .nil)) (Run.pick [1, 10] (sky_isNet_4_ok F hd1 hhd1 r53 v14 v22 v23 v24 v38 c32 l26 sv22 b46 b26 _ _ _ hv22 (hH47.pick [0, 1] rfl rfl) h))
    · have h := bif_f hc51 h
      refine Run.no (wantS_not' rfl rfl hc51) rfl ?_
      refine Run.no (wantS_not' rfl rfl hc51) rfl ?_
      refine Run.no (wantS_not' rfl rfl hc51) rfl ?_
      refine Run.opG wantS_none (ex_pickF' rfl hc51 rfl rfl) rfl ?_
      exact Run.low (.cons (fle_pick [3, 4, 11, 14, 22, 23, 24, 39] rfl) (.cons (fle_pick [] rfl) .nil)) (Run.pick [1, 10] (sky_isNet_4_ok F hd1 hhd1 false v14 v22 v23 v24 v38 c32 l26 sv22 b46 b26 _ _ _ hv22 (hH47.pick [0, 1] rfl rfl) h))

def sky_isNet_1 (F : Nat) : Nat → (List S_api_Site) → Int → Int → (List ((List UInt8) × Bool)) → Option (Bool)
  | 0, _, _, _, _ => none
  | N + 1, v22, v23, v24, l26 =>
    bif (decide (v24 < v23)) then
      bnd (idx v22 v24) fun x30 =>
      bnd (num_IsName F x30.Name) fun r39 =>
      bif (!r39) then
        sky_isNet_2 F (sky_isNet_1 F N) x30.Name v22 v23 v24 true x30 l26
      else
        sky_isNet_2 F (sky_isNet_1 F N) x30.Name v22 v23 v24 (mget eqB false l26 x30.Name) x30 l26
    else
      some true

theorem sky_isNet_1_ok (F : Nat) : ∀ (N : Nat), ∀ (v22 : (List S_api_Site)) (v23 v24 : Int) (l26 : (List ((List UInt8) × Bool))) (sv22 : SV) (b26 : Pos) (Fr : Rd) (M : Mem) (r : Bool) (hv22 : Slc Fr 10 (FlatR enc105) sv22 v22) (hH : Has Fr M [.obj b26 (.map (mapES kv9 kv4 0 l26) l26.length)]), sky_isNet_1 F N v22 v23 v24 l26 = some r → Run Tryz.prog ⟨⟨153, [], none⟩, [.mk ⟨104, [], none⟩ 7 (treeOf []) [itemC Tryz.prog 104 [1, 1, 0] 2, codeC Tryz.prog 104 [1, 1, 1]]]⟩ 48 (sky_isNet_post r) [(3, (.fn (.func 152) [] [])), (4, (.fn (.func 154) [] [])), (11, (.map b26)), (22, sv22), (23, (.int .i64 v23)), (24, (.int .i64 v24))] [codeC Tryz.prog 153 [1, 1, 1, 0, 1, 0, 0], loopC Tryz.prog 153 [1, 1, 1, 0, 1, 0, 0], .inBlock 0, codeC Tryz.prog 153 [1, 1, 1, 1]] M := by
  intro N
  induction N with
  | zero =>
    intro v22 v23 v24 l26 sv22 b26 Fr M r hv22 hH h
    simp [sky_isNet_1] at h
  | succ N ih =>
    intro v22 v23 v24 l26 sv22 b26 Fr M r hv22 hH h
    rw [sky_isNet_1] at h
    refine Run.seq (Run.region ?_)
    refine Run.opG wantS_none (ex_lss rfl rfl) rfl ?_
    refine Run.opsEnd (Run.seq ?_)
    rcases btf ((decide (v24 < v23))) with hc28 | hc28
    · have h := bif_t hc28 h
      refine Run.condT' rfl hc28 ?_
      refine Run.skip (Run.seq (Run.block (Run.seq (Run.region ?_))))
      obtain ⟨x30, hx30, h⟩ := bnd_some h
      obtain ⟨p30, o30, _, hx30, hp30, rfl⟩ := sl_elem (P := Tryz.prog) (t := 31) (kk := .i64) hv22 hx30 els31
      refine Run.opG wantS_none (ex_elX rfl rfl hx30) rfl ?_
      refine Run.opG wantS_none (ex_loadA rfl (hH.ptrF hp30) rdLe_rfl agg105 rfl rfl rfl) rfl ?_
      refine Run.opX wantS_none rfl (ExG.new (v := fun b => .ptr b 0) (ex_alloc zer105) hH) ?_
      rintro _ M33 ⟨b32, rfl, hH33⟩
      refine Run.opX wantS_none rfl (ExG.storeC (c' := [(.str x30.Name), (.int .i64 x30.Place.e0), (.int .i64 x30.Place.e1), (.int .i64 x30.Place.e2), (.int .i64 x30.ArmU.e0), (.int .i64 x30.ArmU.e1), (.int .i64 x30.ArmU.e2), (.int .i64 x30.ArmV.e0), (.int .i64 x30.ArmV.e1), (.int .i64 x30.ArmV.e2)]) rfl rfl rfl hH33 (i := 0) rfl sz105 rfl rfl rfl rfl rfl) ?_
      rintro _ M34 ⟨rfl, (hH34 : Has Fr M34 [.obj b32 (.row 105 .whole [(.str x30.Name), (.int .i64 x30.Place.e0), (.int .i64 x30.Place.e1), (.int .i64 x30.Place.e2), (.int .i64 x30.ArmU.e0), (.int .i64 x30.ArmU.e1), (.int .i64 x30.ArmU.e2), (.int .i64 x30.ArmV.e0), (.int .i64 x30.ArmV.e1), (.int .i64 x30.ArmV.e2)]), .obj b26 (.map (mapES kv9 kv4 0 l26) l26.length)])⟩
      refine Run.opsEnd (Run.seq (Run.region ?_))
      refine Run.opG wantS_none (ex_move rfl) rfl ?_
      refine Run.opG wantS_none (ex_loadA rfl (hH34.cells (i := 0) rfl 0 rfl) rdLe_rfl agg105 rfl rfl rfl) rfl ?_
      refine Run.enter wantS_none (ex_closure rfl rfl mkk152 cal152) Tryz.func152 rfl rfl ?_
      refine Run.seq (Run.region ?_)
      refine Run.opX wantS_none rfl (ExG.box rfl rfl hH34) ?_
      rintro _ M37 ⟨b36, rfl, hH37⟩
      refine Run.opG wantS_none (ex_assign rfl) rfl ?_
      refine Run.opsEnd (Run.seq (Run.region ?_))
      refine Run.opG wantS_none (ex_fieldAddr rfl off105_0) rfl ?_
      refine Run.opG wantS_none (ex_load1 rfl (hH37.cells (i := 0) rfl 0 rfl) rdLe_rfl agg9) rfl ?_
      refine Run.opG wantS_none (ex_assign rfl) rfl ?_
      refine Run.opsEnd ?_
      refine Run.retTo Tryz.func152 rfl (res_tmp rfl res_nil) rfl ?_
      refine Run.opG wantS_none (ex_assign rfl) rfl ?_
      refine Run.opsEnd (Run.seq (Run.seq (Run.region ?_)))
      refine Run.opG wantS_none (ex_move rfl) rfl ?_
      obtain ⟨r39, hr39, h⟩ := bnd_some h
      refine Run.callP wantS_none (ex_call rfl mkk161 cal161) rfl (num_IsName_ok F x30.Name _ _ hr39) ?_
      refine Run.opG wantS_none (ex_not rfl) rfl ?_
      refine Run.opG wantS_none (ex_move rfl) rfl ?_
      rcases btf ((!r39)) with hc41 | hc41
      · have h := bif_t hc41 h
        refine Run.no (wantS_not' rfl rfl hc41) rfl ?_
        refine Run.no (wantS_not' rfl rfl hc41) rfl ?_
        refine Run.no (wantS_not' rfl rfl hc41) rfl ?_
        refine Run.opG wantS_none (ex_pickT' rfl hc41 rfl rfl) rfl ?_
        exact Run.low (.cons (fle_pick [] rfl) .nil) (Run.pick [3, 4, 11, 13, 14, 22, 23, 24, 38] (sky_isNet_2_ok F (sky_isNet_1 F N) ih x30.Name v22 v23 v24 true x30 l26 sv22 b26 b32 _ _ _ hv22 (hH37.pick [2, 1] rfl rfl) h))
      · have h := bif_f hc41 h
        refine Run.opG (wantS_yes' rfl rfl hc41) (ex_move rfl) rfl ?_
        refine Run.opG (wantS_yes' rfl rfl hc41) (ex_move rfl) rfl ?_
        refine Run.opG (wantS_yes' rfl rfl hc41) (ex_lookup (ke := kv9) (ve := kv4) (k := x30.Name) rfl rfl hH37 (i := 2) rfl kmt200 (kok200 _) keq200 khe200 kzr200) rfl ?_
        refine Run.opG wantS_none (ex_pickF' rfl hc41 rfl rfl) rfl ?_
        exact Run.low (.cons (fle_pick [] rfl) .nil) (Run.pick [3, 4, 11, 13, 14, 22, 23, 24, 38] (sky_isNet_2_ok F (sky_isNet_1 F N) ih x30.Name v22 v23 v24 (mget eqB false l26 x30.Name) x30 l26 sv22 b26 b32 _ _ _ hv22 (hH37.pick [2, 1] rfl rfl) h))
    · have h := bif_f hc28 h
      refine Run.condF' rfl hc28 ?_
      refine Run.exit rfl (Run.seq (Run.region ?_))
      refine Run.opG wantS_none (ex_assign rfl) rfl ?_
      refine Run.opsEnd ?_
      refine Run.retTo Tryz.func153 rfl (res_tmp rfl res_nil) rfl ?_
      refine Run.opG wantS_none (ex_assign rfl) rfl ?_
      refine Run.opsEnd ?_
      cases h
      exact Run.ret Tryz.func104 rfl (res_tmp rfl res_nil) rfl

def sky_isNet (F : Nat) (a0 : (List S_api_Site)) : Option (Bool) :=
  bnd (sky_isFrom F (2 : Int) (a0.length : Int) (6 : Int)) fun r22 =>
  bif (!r22) then
    some false
  else
    sky_isNet_1 F F a0 (a0.length : Int) (0 : Int) ([] : List ((List UInt8) × Bool))

theorem sky_isNet_ok (F : Nat) (a0 : (List S_api_Site)) (s0 : SV) (r : Bool) (M : Mem) (hs0 : Slc (rd M) 10 (FlatR enc105) s0 a0) (h : sky_isNet F a0 = some r) : CallsM Tryz.prog 104 [s0] M (fun s M' => s = (.bool r) ∧ M' = M) := by
  refine CallsM.plain Tryz.func104 rfl rfl rfl (show Run _ _ _ (sky_isNet_post r) _ _ _ from ?_)
  rw [sky_isNet] at h
  replace hs0 := hs0.mono (rdLe_frozen M) (fun _ _ h => h)
  have hH := Has.nil (frozen M)
  refine Run.seq (Run.region ?_)
  refine Run.opG wantS_none (ex_assign rfl) rfl ?_
  refine Run.opsEnd (Run.seq (Run.region ?_))
  refine Run.opG wantS_none (ex_assign rfl) rfl ?_
  refine Run.opsEnd (Run.seq (Run.region ?_))
  refine Run.opG wantS_none (ex_move rfl) rfl ?_
  refine Run.opG wantS_none (ex_move rfl) rfl ?_
  refine Run.enter wantS_none (ex_call rfl mkk153 cal153) Tryz.func153 rfl rfl ?_
  refine Run.seq (Run.region ?_)
  refine Run.opG wantS_none (ex_assign rfl) rfl ?_
  refine Run.opsEnd (Run.seq (Run.seq (Run.region ?_)))
  refine Run.opG wantS_none (ex_move rfl) rfl ?_
  refine Run.opG wantS_none (ex_move rfl) rfl ?_
  refine Run.opG wantS_none (ex_len' rfl hs0 lenk31) rfl ?_
  refine Run.opG wantS_none (ex_move rfl) rfl ?_
  obtain ⟨r22, hr22, h⟩ := bnd_some h
  refine Run.callP wantS_none (ex_call rfl mkk62 cal62) rfl (sky_isFrom_ok F (2 : Int) (a0.length : Int) (6 : Int) _ _ hr22) ?_
  refine Run.opG wantS_none (ex_not rfl) rfl ?_
  refine Run.opsEnd ?_
  rcases btf ((!r22)) with hc24 | hc24
  · have h := bif_t hc24 h
    refine Run.condT' rfl hc24 ?_
    refine Run.seq (Run.region ?_)
    refine Run.opG wantS_none (ex_assign rfl) rfl ?_
    refine Run.opsEnd ?_
    refine Run.retTo Tryz.func153 rfl (res_tmp rfl res_nil) rfl ?_
    refine Run.opG wantS_none (ex_assign rfl) rfl ?_
    refine Run.opsEnd ?_
    cases h
    exact Run.ret Tryz.func104 rfl (res_tmp rfl res_nil) rfl
  · have h := bif_f hc24 h
    refine Run.condF' rfl hc24 ?_
    refine Run.skip (Run.seq (Run.region ?_))
    refine Run.opX wantS_none rfl (ExG.makeMap kv9 kv4 hH) ?_
    rintro _ M27 ⟨b26, rfl, hH27⟩
    refine Run.opG wantS_none (ex_assign rfl) rfl ?_
    refine Run.opsEnd (Run.seq (Run.seq (Run.region ?_)))
    refine Run.opG wantS_none (ex_move rfl) rfl ?_
    refine Run.opG wantS_none (ex_len' rfl hs0 lenk31) rfl ?_
    refine Run.opG wantS_none (ex_move rfl) rfl ?_
    refine Run.opsEnd (Run.block (Run.loop ?_))
    exact Run.low (.cons (fle_pick [] rfl) .nil) (Run.pick [3, 4, 11, 22, 23, 24] (sky_isNet_1_ok F F a0 (a0.length : Int) (0 : Int) ([] : List ((List UInt8) × Bool)) s0 b26 _ _ _ hs0 hH27 h))

theorem mkk104 : makeK Tryz.prog 104 = none := by kernel_rfl
theorem cal104 : callable Tryz.prog 104 = true := by kernel_rfl
abbrev sky_CheckNet_post (r : Int) : SV → Mem → Prop := fun s _ => s = (.int .i64 r)

def sky_CheckNet (F : Nat) (a0 : (List S_api_Site)) : Option (Int) :=
  bnd (sky_isNet F a0) fun r22 =>
  bif (!r22) then
    some (90 : Int)
  else
    some (0 : Int)

theorem sky_CheckNet_ok (F : Nat) (a0 : (List S_api_Site)) (s0 : SV) (r : Int) (M : Mem) (hs0 : Slc (rd M) 10 (FlatR enc105) s0 a0) (h : sky_CheckNet F a0 = some r) : CallsM Tryz.prog 47 [s0] M (fun s M' => s = (.int .i64 r) ∧ M' = M) := by
  refine CallsM.plain Tryz.func47 rfl rfl rfl (show Run _ _ _ (sky_CheckNet_post r) _ _ _ from ?_)
  rw [sky_CheckNet] at h
  replace hs0 := hs0.mono (rdLe_frozen M) (fun _ _ h => h)
  have hH := Has.nil (frozen M)
  refine Run.seq (Run.region ?_)
  refine Run.opG wantS_none (ex_assign rfl) rfl ?_
  refine Run.opsEnd (Run.seq (Run.seq (Run.region ?_)))
  refine Run.opG wantS_none (ex_move rfl) rfl ?_
  obtain ⟨r22, hr22, h⟩ := bnd_some h
  refine Run.callP wantS_none (ex_call rfl mkk104 cal104) rfl (sky_isNet_ok F a0 s0 _ _ (hH.slcF hs0) hr22) ?_
  refine Run.opG wantS_none (ex_not rfl) rfl ?_
  refine Run.opsEnd ?_
  rcases btf ((!r22)) with hc24 | hc24
  · have h := bif_t hc24 h
    refine Run.condT' rfl hc24 ?_
    refine Run.seq (Run.region ?_)
    refine Run.opG wantS_none (ex_assign rfl) rfl ?_
    refine Run.opsEnd ?_
    cases h
    exact Run.ret Tryz.func47 rfl (res_tmp rfl res_nil) rfl
  · have h := bif_f hc24 h
    refine Run.condF' rfl hc24 ?_
    refine Run.skip (Run.seq (Run.region ?_))
    refine Run.opG wantS_none (ex_assign rfl) rfl ?_
    refine Run.opsEnd ?_
    cases h
    exact Run.ret Tryz.func47 rfl (res_tmp rfl res_nil) rfl

theorem mkk47 : makeK Tryz.prog 47 = none := by kernel_rfl
theorem cal47 : callable Tryz.prog 47 = true := by kernel_rfl
abbrev sky_grid_isValid_post (r : Bool) : SV → Mem → Prop := fun s _ => s = (.bool r)

def sky_grid_isValid (F : Nat) (a0 : Int) : Option (Bool) :=
  bnd (sky_isFrom F (1 : Int) a0 (8 : Int)) fun r22 =>
  some r22

theorem sky_grid_isValid_ok (F : Nat) (a0 : Int) (r : Bool) (M : Mem) (h : sky_grid_isValid F a0 = some r) : CallsM Tryz.prog 105 [(.int .i64 a0)] M (fun s M' => s = (.bool r) ∧ M' = M) := by
  refine CallsM.plain Tryz.func105 rfl rfl rfl (show Run _ _ _ (sky_grid_isValid_post r) _ _ _ from ?_)
  rw [sky_grid_isValid] at h
  have hH := Has.nil (frozen M)
  refine Run.seq (Run.region ?_)
  refine Run.opG wantS_none (ex_assign rfl) rfl ?_
  refine Run.opsEnd (Run.seq (Run.region ?_))
  refine Run.opG wantS_none (ex_move rfl) rfl ?_
  obtain ⟨r22, hr22, h⟩ := bnd_some h
  refine Run.callP wantS_none (ex_call rfl mkk62 cal62) rfl (sky_isFrom_ok F (1 : Int) a0 (8 : Int) _ _ hr22) ?_
  refine Run.opG wantS_none (ex_assign rfl) rfl ?_
  refine Run.opsEnd ?_
  cases h
  exact Run.ret Tryz.func105 rfl (res_tmp rfl res_nil) rfl

theorem mkk105 : makeK Tryz.prog 105 = none := by kernel_rfl
theorem cal105 : callable Tryz.prog 105 = true := by kernel_rfl
abbrev sky_checkGrid_post (r : Int) : SV → Mem → Prop := fun s _ => s = (.int .i64 r)

def sky_checkGrid (F : Nat) (a0 : Int) : Option (Int) :=
  bnd (sky_grid_isValid F a0) fun r22 =>
  bif (!r22) then
    some (91 : Int)
  else
    some (0 : Int)

theorem sky_checkGrid_ok (F : Nat) (a0 r : Int) (M : Mem) (h : sky_checkGrid F a0 = some r) : CallsM Tryz.prog 48 [(.int .i64 a0)] M (fun s M' => s = (.int .i64 r) ∧ M' = M) := by
  refine CallsM.plain Tryz.func48 rfl rfl rfl (show Run _ _ _ (sky_checkGrid_post r) _ _ _ from ?_)
  rw [sky_checkGrid] at h
  have hH := Has.nil (frozen M)
  refine Run.seq (Run.region ?_)
  refine Run.opG wantS_none (ex_assign rfl) rfl ?_
  refine Run.opsEnd (Run.seq (Run.seq (Run.region ?_)))
  refine Run.opG wantS_none (ex_move rfl) rfl ?_
  obtain ⟨r22, hr22, h⟩ := bnd_some h
  refine Run.callP wantS_none (ex_call rfl mkk105 cal105) rfl (sky_grid_isValid_ok F a0 _ _ hr22) ?_
  refine Run.opG wantS_none (ex_not rfl) rfl ?_
  refine Run.opsEnd ?_
  rcases btf ((!r22)) with hc24 | hc24
  · have h := bif_t hc24 h
    refine Run.condT' rfl hc24 ?_
    refine Run.seq (Run.region ?_)
    refine Run.opG wantS_none (ex_assign rfl) rfl ?_
    refine Run.opsEnd ?_
    cases h
    exact Run.ret Tryz.func48 rfl (res_tmp rfl res_nil) rfl
  · have h := bif_f hc24 h
    refine Run.condF' rfl hc24 ?_
    refine Run.skip (Run.seq (Run.region ?_))
    refine Run.opG wantS_none (ex_assign rfl) rfl ?_
    refine Run.opsEnd ?_
    cases h
    exact Run.ret Tryz.func48 rfl (res_tmp rfl res_nil) rfl

theorem mkk48 : makeK Tryz.prog 48 = none := by kernel_rfl
theorem cal48 : callable Tryz.prog 48 = true := by kernel_rfl
abbrev sky_checkNetGrid_post (r : Int) : SV → Mem → Prop := fun s _ => s = (.int .i64 r)

def sky_checkNetGrid (F : Nat) (a0 : (List S_api_Site)) (a1 : Int) : Option (Int) :=
  bnd (sky_CheckNet F a0) fun r22 =>
  bif (!(r22 == (0 : Int))) then
    some r22
  else
    bnd (sky_checkGrid F a1) fun r26 =>
    some r26

theorem sky_checkNetGrid_ok (F : Nat) (a0 : (List S_api_Site)) (a1 : Int) (s0 : SV) (r : Int) (M : Mem) (hs0 : Slc (rd M) 10 (FlatR enc105) s0 a0) (h : sky_checkNetGrid F a0 a1 = some r) : CallsM Tryz.prog 59 [s0, (.int .i64 a1)] M (fun s M' => s = (.int .i64 r) ∧ M' = M) := by
  refine CallsM.plain Tryz.func59 rfl rfl rfl (show Run _ _ _ (sky_checkNetGrid_post r) _ _ _ from ?_)
  rw [sky_checkNetGrid] at h
  replace hs0 := hs0.mono (rdLe_frozen M) (fun _ _ h => h)
  have hH := Has.nil (frozen M)
  refine Run.seq (Run.region ?_)
  refine Run.opG wantS_none (ex_assign rfl) rfl ?_
  refine Run.opsEnd (Run.seq (Run.seq (Run.region ?_)))
  refine Run.opG wantS_none (ex_move rfl) rfl ?_
  obtain ⟨r22, hr22, h⟩ := bnd_some h
  refine Run.callP wantS_none (ex_call rfl mkk47 cal47) rfl (sky_CheckNet_ok F a0 s0 _ _ (hH.slcF hs0) hr22) ?_
  refine Run.opG wantS_none (ex_assign rfl) rfl ?_
  refine Run.opsEnd (Run.seq (Run.region ?_))
  refine Run.opG wantS_none (ex_move rfl) rfl ?_
  refine Run.opG wantS_none (ex_neq rfl rfl) rfl ?_
  refine Run.opsEnd ?_
  rcases btf ((!(r22 == (0 : Int)))) with hc24 | hc24
  · have h := bif_t hc24 h
    refine Run.condT' rfl hc24 ?_
    refine Run.seq (Run.region ?_)
    refine Run.opG wantS_none (ex_move rfl) rfl ?_
    refine Run.opG wantS_none (ex_assign rfl) rfl ?_
    refine Run.opsEnd ?_
    cases h
    exact Run.ret Tryz.func59 rfl (res_tmp rfl res_nil) rfl
  · have h := bif_f hc24 h
    refine Run.condF' rfl hc24 ?_
    refine Run.skip (Run.seq (Run.region ?_))
    refine Run.opG wantS_none (ex_move rfl) rfl ?_
    obtain ⟨r26, hr26, h⟩ := bnd_some h
    refine Run.callP wantS_none (ex_call rfl mkk48 cal48) rfl (sky_checkGrid_ok F a1 _ _ hr26) ?_
    refine Run.opG wantS_none (ex_assign rfl) rfl ?_
    refine Run.opsEnd ?_
    cases h
    exact Run.ret Tryz.func59 rfl (res_tmp rfl res_nil) rfl

theorem mkk59 : makeK Tryz.prog 59 = none := by kernel_rfl
theorem cal59 : callable Tryz.prog 59 = true := by kernel_rfl
abbrev sky_isBetween_post (r : Bool) : SV → Mem → Prop := fun s _ => s = (.bool r)

def sky_isBetween_2 (F : Nat) (v21 : Bool) : Option (Bool) :=
  some v21

theorem sky_isBetween_2_ok (F : Nat) : ∀ (v21 : Bool) (Fr : Rd) (M : Mem) (r : Bool) (hH : Has Fr M []), sky_isBetween_2 F v21 = some r → Run Tryz.prog ⟨⟨60, [], none⟩, []⟩ 22 (sky_isBetween_post r) [(21, (.bool v21))] [itemC Tryz.prog 60 [1, 0] 15, codeC Tryz.prog 60 [1, 1]] M := by
  intro v21 Fr M r hH h
  rw [sky_isBetween_2] at h
  refine Run.opG wantS_none (ex_assign rfl) rfl ?_
  refine Run.opsEnd ?_
  cases h
  exact Run.ret Tryz.func60 rfl (res_tmp rfl res_nil) rfl

def sky_isBetween_1 (F : Nat) (v0 v1 : Int) (v16 : Bool) : Option (Bool) :=
  bif v16 then
    sky_isBetween_2 F (!(v0 == v1))
  else
    sky_isBetween_2 F false

theorem sky_isBetween_1_ok (F : Nat) : ∀ (v0 v1 : Int) (v16 : Bool) (Fr : Rd) (M : Mem) (r : Bool) (hH : Has Fr M []), sky_isBetween_1 F v0 v1 v16 = some r → Run Tryz.prog ⟨⟨60, [], none⟩, []⟩ 22 (sky_isBetween_post r) [(0, (.int .i64 v0)), (1, (.int .i64 v1)), (16, (.bool v16))] [itemC Tryz.prog 60 [1, 0] 10, codeC Tryz.prog 60 [1, 1]] M := by
  intro v0 v1 v16 Fr M r hH h
  rw [sky_isBetween_1] at h
  refine Run.opG wantS_none (ex_move rfl) rfl ?_
  rcases btf (v16) with hc28 | hc28
  · have h := bif_t hc28 h
    refine Run.opG (wantS_yes' rfl rfl hc28) (ex_move rfl) rfl ?_
    refine Run.opG (wantS_yes' rfl rfl hc28) (ex_move rfl) rfl ?_
    refine Run.opG (wantS_yes' rfl rfl hc28) (ex_neq rfl rfl) rfl ?_
    refine Run.opG wantS_none (ex_pickT' rfl hc28 rfl rfl) rfl ?_
    exact Run.pick [21] (sky_isBetween_2_ok F (!(v0 == v1)) _ _ _ hH h)
  · have h := bif_f hc28 h
    refine Run.no (wantS_not' rfl rfl hc28) rfl ?_
    refine Run.no (wantS_not' rfl rfl hc28) rfl ?_
    refine Run.no (wantS_not' rfl rfl hc28) rfl ?_
    refine Run.opG wantS_none (ex_pickF' rfl hc28 rfl rfl) rfl ?_
    exact Run.pick [21] (sky_isBetween_2_ok F false _ _ _ hH h)

def sky_isBetween (F : Nat) (a0 a1 a2 : Int) : Option (Bool) :=
  bnd (sky_isFrom F (0 : Int) a0 (w64 (a2 - (1 : Int)))) fun r22 =>
  bif r22 then
    bnd (sky_isFrom F (0 : Int) a1 (w64 (a2 - (1 : Int)))) fun r26 =>
    sky_isBetween_1 F a0 a1 r26
  else
    sky_isBetween_1 F a0 a1 false

theorem sky_isBetween_ok (F : Nat) (a0 a1 a2 : Int) (r : Bool) (M : Mem) (h : sky_isBetween F a0 a1 a2 = some r) : CallsM Tryz.prog 60 [(.int .i64 a0), (.int .i64 a1), (.int .i64 a2)] M (fun s M' => s = (.bool r) ∧ M' = M) := by
  refine CallsM.plain Tryz.func60 rfl rfl rfl (show Run _ _ _ (sky_isBetween_post r) _ _ _ from ?_)
  rw [sky_isBetween] at h
  have hH := Has.nil (frozen M)
  refine Run.seq (Run.region ?_)
  refine Run.opG wantS_none (ex_assign rfl) rfl ?_
  refine Run.opsEnd (Run.seq (Run.region ?_))
  refine Run.opG wantS_none (ex_move rfl) rfl ?_
  refine Run.opG wantS_none (ex_move rfl) rfl ?_
  refine Run.opG wantS_none (ex_sub rfl rfl) rfl ?_
  obtain ⟨r22, hr22, h⟩ := bnd_some h
  refine Run.callP wantS_none (ex_call rfl mkk62 cal62) rfl (sky_isFrom_ok F (0 : Int) a0 (w64 (a2 - (1 : Int))) _ _ hr22) ?_
  refine Run.opG wantS_none (ex_move rfl) rfl ?_
  rcases btf (r22) with hc24 | hc24
  · have h := bif_t hc24 h
    refine Run.opG (wantS_yes' rfl rfl hc24) (ex_move rfl) rfl ?_
    refine Run.opG (wantS_yes' rfl rfl hc24) (ex_move rfl) rfl ?_
    refine Run.opG (wantS_yes' rfl rfl hc24) (ex_sub rfl rfl) rfl ?_
    obtain ⟨r26, hr26, h⟩ := bnd_some h
    refine Run.callP (wantS_yes' rfl rfl hc24) (ex_call rfl mkk62 cal62) rfl (sky_isFrom_ok F (0 : Int) a1 (w64 (a2 - (1 : Int))) _ _ hr26) ?_
    refine Run.opG wantS_none (ex_pickT' rfl hc24 rfl rfl) rfl ?_
    exact Run.pick [0, 1, 16] (sky_isBetween_1_ok F a0 a1 r26 _ _ _ hH h)
  · have h := bif_f hc24 h
    refine Run.no (wantS_not' rfl rfl hc24) rfl ?_
    refine Run.no (wantS_not' rfl rfl hc24) rfl ?_
    refine Run.no (wantS_not' rfl rfl hc24) rfl ?_
    refine Run.no (wantS_not' rfl rfl hc24) rfl ?_
    refine Run.opG wantS_none (ex_pickF' rfl hc24 rfl rfl) rfl ?_
    exact Run.pick [0, 1, 16] (sky_isBetween_1_ok F a0 a1 false _ _ _ hH h)

theorem mkk60 : makeK Tryz.prog 60 = none := by kernel_rfl
theorem cal60 : callable Tryz.prog 60 = true := by kernel_rfl
structure S_sky_site where
  place : S__3_int
  u : S__3_int
  v : S__3_int

def enc99 (a : S_sky_site) : List SV := [(.int .i64 a.place.e0), (.int .i64 a.place.e1), (.int .i64 a.place.e2), (.int .i64 a.u.e0), (.int .i64 a.u.e1), (.int .i64 a.u.e2), (.int .i64 a.v.e0), (.int .i64 a.v.e1), (.int .i64 a.v.e2)]
theorem enc99_len (a : S_sky_site) : (enc99 a).length = 9 := rfl
theorem enc99_ones (a : S_sky_site) : ones (enc99 a) = true := rfl
theorem zer99 : zerosOf Tryz.prog 99 = some [(.int .i64 0), (.int .i64 0), (.int .i64 0), (.int .i64 0), (.int .i64 0), (.int .i64 0), (.int .i64 0), (.int .i64 0), (.int .i64 0)] := by kernel_rfl
theorem pls99 : placesOf Tryz.prog 99 = some (.st [(0, 3), (3, 3), (6, 3)]) := by kernel_rfl
theorem elt93 : sliceElt Tryz.prog 93 = some (⟨9, 72, [(.int .i64 0), (.int .i64 0), (.int .i64 0), (.int .i64 0), (.int .i64 0), (.int .i64 0), (.int .i64 0), (.int .i64 0), (.int .i64 0)], 99⟩ : Elt) := by kernel_rfl
theorem appt93_93 : appT Tryz.prog 93 93 = some (⟨9, 72, [(.int .i64 0), (.int .i64 0), (.int .i64 0), (.int .i64 0), (.int .i64 0), (.int .i64 0), (.int .i64 0), (.int .i64 0), (.int .i64 0)], 99⟩ : Elt) := by kernel_rfl
abbrev sky_sitesOf_post (r : (List S_sky_site)) : SV → Mem → Prop := fun s Me => ∃ q1, s = q1 ∧ Has (fun _ => none) Me [.vec 99 9 r.length q1 (r.flatMap enc99)]

def sky_sitesOf_1 (F : Nat) : Nat → (List S_api_Site) → Int → Int → (List S_sky_site) → Option ((List S_sky_site))
  | 0, _, _, _, _ => none
  | N + 1, v6, v7, v8, l21 =>
    bif (decide (v8 < v7)) then
      bnd (idx v6 v8) fun x25 =>
      bnd (apd 72 l21 ([(S_sky_site.mk x25.Place x25.ArmU x25.ArmV)] : List S_sky_site)) fun l35 =>
      (sky_sitesOf_1 F N) v6 v7 (w64 (v8 + (1 : Int))) l35
    else
      some l21

theorem sky_sitesOf_1_ok (F : Nat) : ∀ (N : Nat), ∀ (v6 : (List S_api_Site)) (v7 v8 : Int) (l21 : (List S_sky_site)) (sv6 s21 : SV) (Fr : Rd) (M : Mem) (r : (List S_sky_site)) (hv6 : Slc Fr 10 (FlatR enc105) sv6 v6) (hH : Has Fr M [.vec 99 9 l21.length s21 (l21.flatMap enc99)]), sky_sitesOf_1 F N v6 v7 v8 l21 = some r → Run Tryz.prog ⟨⟨63, [], none⟩, []⟩ 24 (sky_sitesOf_post r) [(3, s21), (6, sv6), (7, (.int .i64 v7)), (8, (.int .i64 v8))] [codeC Tryz.prog 63 [1, 1, 0, 1, 0, 0], loopC Tryz.prog 63 [1, 1, 0, 1, 0, 0], .inBlock 0, codeC Tryz.prog 63 [1, 1, 1]] M := by
  intro N
  induction N with
  | zero =>
    intro v6 v7 v8 l21 sv6 s21 Fr M r hv6 hH h
    simp [sky_sitesOf_1] at h
  | succ N ih =>
    intro v6 v7 v8 l21 sv6 s21 Fr M r hv6 hH h
    rw [sky_sitesOf_1] at h
    refine Run.seq (Run.region ?_)
    refine Run.opG wantS_none (ex_lss rfl rfl) rfl ?_
    refine Run.opsEnd (Run.seq ?_)
    rcases btf ((decide (v8 < v7))) with hc23 | hc23
    · have h := bif_t hc23 h
      refine Run.condT' rfl hc23 ?_
      refine Run.skip (Run.seq (Run.block (Run.seq (Run.region ?_))))
      obtain ⟨x25, hx25, h⟩ := bnd_some h
      obtain ⟨p25, o25, _, hx25, hp25, rfl⟩ := sl_elem (P := Tryz.prog) (t := 31) (kk := .i64) hv6 hx25 els31
      refine Run.opG wantS_none (ex_elX rfl rfl hx25) rfl ?_
      refine Run.opG wantS_none (ex_loadA rfl (hH.ptrF hp25) rdLe_rfl agg105 rfl rfl rfl) rfl ?_
      refine Run.opX wantS_none rfl (ExG.new (v := fun b => .ptr b 0) (ex_alloc zer105) hH) ?_
      rintro _ M28 ⟨b27, rfl, hH28⟩
      refine Run.opX wantS_none rfl (ExG.storeC (c' := [(.str x25.Name), (.int .i64 x25.Place.e0), (.int .i64 x25.Place.e1), (.int .i64 x25.Place.e2), (.int .i64 x25.ArmU.e0), (.int .i64 x25.ArmU.e1), (.int .i64 x25.ArmU.e2), (.int .i64 x25.ArmV.e0), (.int .i64 x25.ArmV.e1), (.int .i64 x25.ArmV.e2)]) rfl rfl rfl hH28 (i := 0) rfl sz105 rfl rfl rfl rfl rfl) ?_
      rintro _ M29 ⟨rfl, (hH29 : Has Fr M29 [.obj b27 (.row 105 .whole [(.str x25.Name), (.int .i64 x25.Place.e0), (.int .i64 x25.Place.e1), (.int .i64 x25.Place.e2), (.int .i64 x25.ArmU.e0), (.int .i64 x25.ArmU.e1), (.int .i64 x25.ArmU.e2), (.int .i64 x25.ArmV.e0), (.int .i64 x25.ArmV.e1), (.int .i64 x25.ArmV.e2)]), .vec 99 9 l21.length s21 (l21.flatMap enc99)])⟩
      refine Run.opsEnd (Run.region ?_)
      refine Run.opG wantS_none (ex_move rfl) rfl ?_
      refine Run.opG wantS_none (ex_fieldAddr rfl off105_1) rfl ?_
      refine Run.opG wantS_none (ex_loadA rfl (hH29.cells (i := 0) rfl 1 rfl) rdLe_rfl agg22 rfl rfl rfl) rfl ?_
      refine Run.opG wantS_none (ex_fieldAddr rfl off105_2) rfl ?_
      refine Run.opG wantS_none (ex_loadA rfl (hH29.cells (i := 0) rfl 4 rfl) rdLe_rfl agg22 rfl rfl rfl) rfl ?_
      refine Run.opG wantS_none (ex_fieldAddr rfl off105_3) rfl ?_
      refine Run.opG wantS_none (ex_loadA rfl (hH29.cells (i := 0) rfl 7 rfl) rdLe_rfl agg22 rfl rfl rfl) rfl ?_
      refine Run.opG wantS_none (ex_build (r := [(.int .i64 x25.Place.e0), (.int .i64 x25.Place.e1), (.int .i64 x25.Place.e2), (.int .i64 x25.ArmU.e0), (.int .i64 x25.ArmU.e1), (.int .i64 x25.ArmU.e2), (.int .i64 x25.ArmV.e0), (.int .i64 x25.ArmV.e1), (.int .i64 x25.ArmV.e2)]) rfl zer99 pls99 rfl) rfl ?_
      refine Run.opX wantS_none rfl (ExG.built (enc := enc99) (l := ([(S_sky_site.mk x25.Place x25.ArmU x25.ArmV)] : List S_sky_site)) (z := 9) rfl elt93 rfl rfl rfl enc99_len hH29) ?_
      rintro s31 M32 (hH32 : Has Fr M32 [.vec 99 9 ([(S_sky_site.mk x25.Place x25.ArmU x25.ArmV)] : List S_sky_site).length s31 (([(S_sky_site.mk x25.Place x25.ArmU x25.ArmV)] : List S_sky_site).flatMap enc99), .obj b27 (.row 105 .whole [(.str x25.Name), (.int .i64 x25.Place.e0), (.int .i64 x25.Place.e1), (.int .i64 x25.Place.e2), (.int .i64 x25.ArmU.e0), (.int .i64 x25.ArmU.e1), (.int .i64 x25.ArmU.e2), (.int .i64 x25.ArmV.e0), (.int .i64 x25.ArmV.e1), (.int .i64 x25.ArmV.e2)]), .vec 99 9 l21.length s21 (l21.flatMap enc99)])
      obtain ⟨l35, hl35, h⟩ := bnd_some h
      refine Run.opX wantS_none rfl (ExG.append rfl rfl hH32 (i := 2) rfl enc99_len rfl enc99_ones appt93_93 rfl (len_slc (hH32.slc (i := 0) rfl enc99_len)) (first_slc (hH32.slc (i := 0) rfl enc99_len) (rdLe_rdRow _) enc99_len) hl35) ?_
      rintro s35 M37 (hH37 : Has Fr M37 [.vec 99 9 ([(S_sky_site.mk x25.Place x25.ArmU x25.ArmV)] : List S_sky_site).length s31 (([(S_sky_site.mk x25.Place x25.ArmU x25.ArmV)] : List S_sky_site).flatMap enc99), .obj b27 (.row 105 .whole [(.str x25.Name), (.int .i64 x25.Place.e0), (.int .i64 x25.Place.e1), (.int .i64 x25.Place.e2), (.int .i64 x25.ArmU.e0), (.int .i64 x25.ArmU.e1), (.int .i64 x25.ArmU.e2), (.int .i64 x25.ArmV.e0), (.int .i64 x25.ArmV.e1), (.int .i64 x25.ArmV.e2)]), .vec 99 9 l35.length s35 (l35.flatMap enc99)])
      refine Run.opG wantS_none (ex_assign rfl) rfl ?_
      refine Run.opsEnd (Run.inBlock (Run.region ?_))
      refine Run.opG wantS_none (ex_add rfl rfl) rfl ?_
      refine Run.opG wantS_none (ex_move rfl) rfl ?_
      refine Run.opsEnd (Run.inLoop ?_)
      exact Run.pick [3, 6, 7, 8] (ih v6 v7 (w64 (v8 + (1 : Int))) l35 sv6 s35 _ _ _ hv6 (hH37.pick [2] rfl rfl) h)
    · have h := bif_f hc23 h
      refine Run.condF' rfl hc23 ?_
      refine Run.exit rfl (Run.seq (Run.region ?_))
      refine Run.opG wantS_none (ex_move rfl) rfl ?_
      refine Run.opG wantS_none (ex_assign rfl) rfl ?_
      refine Run.opsEnd ?_
      cases h
      exact Run.ret Tryz.func63 rfl (res_tmp rfl res_nil) ⟨_, rfl, (hH.pick [0] rfl rfl).upF (none_le _)⟩

def sky_sitesOf (F : Nat) (a0 : (List S_api_Site)) : Option ((List S_sky_site)) :=
  sky_sitesOf_1 F F a0 (a0.length : Int) (0 : Int) ([] : List S_sky_site)

theorem sky_sitesOf_ok (F : Nat) (a0 : (List S_api_Site)) (s0 : SV) (r : (List S_sky_site)) (M : Mem) (hs0 : Slc (rd M) 10 (FlatR enc105) s0 a0) (h : sky_sitesOf F a0 = some r) : CallsM Tryz.prog 63 [s0] M (fun s M' => ∃ q1, s = q1 ∧ New M M' [.vec 99 9 r.length q1 (r.flatMap enc99)]) := by
  refine CallsM.fresh (Q := sky_sitesOf_post r) Tryz.func63 rfl rfl ?_ (by rintro s Me ⟨q1, rfl, hx⟩ ha hw; exact ⟨_, rfl, New.of rfl hx ha hw⟩)
  rw [sky_sitesOf] at h
  replace hs0 := hs0.mono (rdLe_frozen M) (fun _ _ h => h)
  have hH := Has.nil (frozen M)
  refine Run.seq (Run.region ?_)
  refine Run.opG wantS_none (ex_assign rfl) rfl ?_
  refine Run.opsEnd (Run.seq (Run.region ?_))
  refine Run.opG wantS_none (ex_assign rfl) rfl ?_
  refine Run.opsEnd (Run.seq (Run.seq (Run.region ?_)))
  refine Run.opG wantS_none (ex_move rfl) rfl ?_
  refine Run.opG wantS_none (ex_len' rfl hs0 lenk31) rfl ?_
  refine Run.opG wantS_none (ex_move rfl) rfl ?_
  refine Run.opsEnd (Run.block (Run.loop ?_))
  have hH22 : Has (ro (frozen M)) (frozen M) [.vec 99 9 ([] : List S_sky_site).length .nils (([] : List S_sky_site).flatMap enc99)] := hH.nils 99 9
  exact Run.pick [3, 6, 7, 8] (sky_sitesOf_1_ok F F a0 (a0.length : Int) (0 : Int) ([] : List S_sky_site) s0 .nils _ _ _ hs0 hH22 h)

theorem mkk63 : makeK Tryz.prog 63 = none := by kernel_rfl
theorem cal63 : callable Tryz.prog 63 = true := by kernel_rfl
theorem zer93 : zerosOf Tryz.prog 93 = some [.nils] := by kernel_rfl
theorem sz93 : szOf Tryz.prog 93 = some 1 := by kernel_rfl
theorem mkk67 : makeK Tryz.prog 67 = none := by kernel_rfl
theorem cal67 : callable Tryz.prog 67 = true := by kernel_rfl
theorem zer36 : zerosOf Tryz.prog 36 = some [.nils] := by kernel_rfl
theorem mkk114 : makeK Tryz.prog 114 = none := by kernel_rfl
theorem cal114 : callable Tryz.prog 114 = true := by kernel_rfl
theorem cal156 : callable Tryz.prog 156 = true := by kernel_rfl
theorem agg81 : aggSize Tryz.prog 81 = some none := by kernel_rfl
abbrev sky_grid_cells_post (r : Int) : SV → Mem → Prop := fun s _ => s = (.int .i64 r)

def sky_grid_cells (F : Nat) (a0 : Int) : Option (Int) :=
  some (w64 ((6 : Int) * (w64 (a0 * a0))))

theorem sky_grid_cells_ok (F : Nat) (a0 r : Int) (M : Mem) (h : sky_grid_cells F a0 = some r) : CallsM Tryz.prog 49 [(.int .i64 a0)] M (fun s M' => s = (.int .i64 r) ∧ M' = M) := by
  refine CallsM.plain Tryz.func49 rfl rfl rfl (show Run _ _ _ (sky_grid_cells_post r) _ _ _ from ?_)
  rw [sky_grid_cells] at h
  have hH := Has.nil (frozen M)
  refine Run.seq (Run.region ?_)
  refine Run.opG wantS_none (ex_assign rfl) rfl ?_
  refine Run.opsEnd (Run.seq (Run.region ?_))
  refine Run.opG wantS_none (ex_move rfl) rfl ?_
  refine Run.opG wantS_none (ex_move rfl) rfl ?_
  refine Run.opG wantS_none (ex_mul rfl rfl) rfl ?_
  refine Run.opG wantS_none (ex_mul rfl rfl) rfl ?_
  refine Run.opG wantS_none (ex_assign rfl) rfl ?_
  refine Run.opsEnd ?_
  cases h
  exact Run.ret Tryz.func49 rfl (res_tmp rfl res_nil) rfl

theorem mkk49 : makeK Tryz.prog 49 = none := by kernel_rfl
theorem cal49 : callable Tryz.prog 49 = true := by kernel_rfl
abbrev sky_axes_post (r : Int × Int × Int) : SV → Mem → Prop := fun s _ => s = (.tuple [(.int .i64 r.1), (.int .i64 r.2.1), (.int .i64 r.2.2)])

def sky_axes (F : Nat) (a0 : Int) : Option (Int × Int × Int) :=
  bif ((w64 (Int.tdiv a0 (2 : Int))) == (0 : Int)) then
    some ((0 : Int), (1 : Int), (2 : Int))
  else
    bif ((w64 (Int.tdiv a0 (2 : Int))) == (1 : Int)) then
      some ((1 : Int), (0 : Int), (2 : Int))
    else
      some ((2 : Int), (0 : Int), (1 : Int))

theorem sky_axes_ok (F : Nat) (a0 : Int) (r : Int × Int × Int) (M : Mem) (h : sky_axes F a0 = some r) : CallsM Tryz.prog 107 [(.int .i64 a0)] M (fun s M' => s = (.tuple [(.int .i64 r.1), (.int .i64 r.2.1), (.int .i64 r.2.2)]) ∧ M' = M) := by
  refine CallsM.plain Tryz.func107 rfl rfl rfl (show Run _ _ _ (sky_axes_post r) _ _ _ from ?_)
  rw [sky_axes] at h
  have hH := Has.nil (frozen M)
  refine Run.seq (Run.region ?_)
  refine Run.opG wantS_none (ex_assign rfl) rfl ?_
  refine Run.opG wantS_none (ex_assign rfl) rfl ?_
  refine Run.opG wantS_none (ex_assign rfl) rfl ?_
  refine Run.opsEnd (Run.seq (Run.seq (Run.region ?_)))
  refine Run.opG wantS_none (ex_move rfl) rfl ?_
  refine Run.opG wantS_none (ex_quo rfl rfl (by decide)) rfl ?_
  refine Run.opsEnd (Run.block (Run.seq (Run.region ?_)))
  refine Run.opG wantS_none (ex_eql rfl rfl) rfl ?_
  refine Run.opG wantS_none (ex_assign rfl) rfl ?_
  refine Run.opsEnd ?_
  rcases btf (((w64 (Int.tdiv a0 (2 : Int))) == (0 : Int))) with hc21 | hc21
  · have h := bif_t hc21 h
    refine Run.condT' rfl hc21 ?_
    refine Run.seq (Run.region ?_)
    refine Run.opG wantS_none (ex_assign rfl) rfl ?_
    refine Run.opG wantS_none (ex_assign rfl) rfl ?_
    refine Run.opG wantS_none (ex_assign rfl) rfl ?_
    refine Run.opsEnd ?_
    cases h
    exact Run.ret Tryz.func107 rfl (res_tmp rfl (res_tmp rfl (res_tmp rfl res_nil))) rfl
  · have h := bif_f hc21 h
    refine Run.condF' rfl hc21 ?_
    refine Run.seq (Run.region ?_)
    refine Run.opG wantS_none (ex_eql rfl rfl) rfl ?_
    refine Run.opG wantS_none (ex_assign rfl) rfl ?_
    refine Run.opsEnd ?_
    rcases btf (((w64 (Int.tdiv a0 (2 : Int))) == (1 : Int))) with hc22 | hc22
    · have h := bif_t hc22 h
      refine Run.condT' rfl hc22 ?_
      refine Run.seq (Run.region ?_)
      refine Run.opG wantS_none (ex_assign rfl) rfl ?_
      refine Run.opG wantS_none (ex_assign rfl) rfl ?_
      refine Run.opG wantS_none (ex_assign rfl) rfl ?_
      refine Run.opsEnd ?_
      cases h
      exact Run.ret Tryz.func107 rfl (res_tmp rfl (res_tmp rfl (res_tmp rfl res_nil))) rfl
    · have h := bif_f hc22 h
      refine Run.condF' rfl hc22 ?_
      refine Run.skip (Run.inBlock (Run.seq (Run.region ?_)))
      refine Run.opG wantS_none (ex_assign rfl) rfl ?_
      refine Run.opG wantS_none (ex_assign rfl) rfl ?_
      refine Run.opG wantS_none (ex_assign rfl) rfl ?_
      refine Run.opsEnd ?_
      cases h
      exact Run.ret Tryz.func107 rfl (res_tmp rfl (res_tmp rfl (res_tmp rfl res_nil))) rfl

theorem mkk107 : makeK Tryz.prog 107 = none := by kernel_rfl
theorem cal107 : callable Tryz.prog 107 = true := by kernel_rfl
theorem els85 : elems Tryz.prog 85 = some (.arr 3 1) := by kernel_rfl
theorem sz3 : szOf Tryz.prog 3 = some 1 := by kernel_rfl
theorem sz85 : szOf Tryz.prog 85 = some 3 := by kernel_rfl
theorem plan52_1_1_0 : planOf Tryz.prog (opsC (atC Tryz.prog 52 [1, 1, 0])) = some [.fl 0, .fl 1, .fl 2, .fl 3, .fl 4, .fl 5, .fl 6, .fl 7, .fl 8, .fl 9, .fl 10, .fl 11, .fl 12, .fl 13, .fl 14, .fl 15, .sync] := by kernel_rfl
abbrev sky_grid_direction_post (r : S__3_int) : SV → Mem → Prop := fun s _ => s = (.agg [(.int .i64 r.e0), (.int .i64 r.e1), (.int .i64 r.e2)])

def sky_grid_direction_1 (F : Nat) (c22 c32 : S__3_int) : Option (S__3_int) :=
  some c32

theorem sky_grid_direction_1_ok (F : Nat) : ∀ (c22 c32 : S__3_int) (b22 b32 : Pos) (Fr : Rd) (M : Mem) (r : S__3_int) (hH : Has Fr M [.obj b22 (.row 85 .whole [(.int .i64 c22.e0), (.int .i64 c22.e1), (.int .i64 c22.e2)]), .obj b32 (.row 85 .whole [(.int .i64 c32.e0), (.int .i64 c32.e1), (.int .i64 c32.e2)])]), sky_grid_direction_1 F c22 c32 = some r → Run Tryz.prog ⟨⟨52, [], none⟩, []⟩ 58 (sky_grid_direction_post r) [(4, (.ptr b22 0)), (12, (.ptr b32 0))] [itemC Tryz.prog 52 [1, 1, 1, 1, 1, 1, 1, 0] 0, codeC Tryz.prog 52 [1, 1, 1, 1, 1, 1, 1, 1]] M := by
  intro c22 c32 b22 b32 Fr M r hH h
  rw [sky_grid_direction_1] at h
  refine Run.opG wantS_none (ex_loadA rfl (hH.cells (i := 1) rfl 0 rfl) rdLe_rfl agg85 rfl rfl rfl) rfl ?_
  refine Run.opX wantS_none rfl (ExG.storeC (c' := [(.int .i64 c32.e0), (.int .i64 c32.e1), (.int .i64 c32.e2)]) rfl rfl rfl hH (i := 0) rfl sz85 rfl rfl rfl rfl rfl) ?_
  rintro _ M47 ⟨rfl, (hH47 : Has Fr M47 [.obj b22 (.row 85 .whole [(.int .i64 c32.e0), (.int .i64 c32.e1), (.int .i64 c32.e2)]), .obj b32 (.row 85 .whole [(.int .i64 c32.e0), (.int .i64 c32.e1), (.int .i64 c32.e2)])])⟩
  refine Run.opsEnd ?_
  cases h
  exact Run.ret Tryz.func52 rfl (res_cell rfl (x_load (ex_loadA rfl (hH47.cells (i := 0) rfl 0 rfl) rdLe_rfl agg85 rfl rfl rfl)) res_nil) rfl

def sky_grid_direction (F : Nat) (a0 a1 : Int) : Option (S__3_int) :=
  bnd (nz (w64 (a0 * a0))) fun z24 =>
  bnd (nz a0) fun z25 =>
  bnd (nz a0) fun z26 =>
  bnd (nz a0) fun z27 =>
  bnd (sky_axes F (w64 (Int.tdiv a1 (w64 (a0 * a0))))) fun r29 =>
  bnd (inA r29.1 3) fun o35 =>
  bnd (inA r29.2.1 3) fun o38 =>
  bnd (inA r29.2.2 3) fun o41 =>
  bif ((Int.tmod (w64 (Int.tdiv a1 (w64 (a0 * a0)))) (2 : Int)) == (1 : Int)) then
    bnd (inA r29.1 3) fun o45 =>
    sky_grid_direction_1 F (S__3_int.mk 0 0 0) (set85 (set85 (set85 (set85 (S__3_int.mk 0 0 0) o35 a0) o38 (w64 ((w64 ((w64 ((2 : Int) * (Int.tmod (w64 (Int.tdiv a1 a0)) a0))) + (1 : Int))) - a0))) o41 (w64 ((w64 ((w64 ((2 : Int) * (Int.tmod a1 a0))) + (1 : Int))) - a0))) o45 (w64 (-a0)))
  else
    sky_grid_direction_1 F (S__3_int.mk 0 0 0) (set85 (set85 (set85 (S__3_int.mk 0 0 0) o35 a0) o38 (w64 ((w64 ((w64 ((2 : Int) * (Int.tmod (w64 (Int.tdiv a1 a0)) a0))) + (1 : Int))) - a0))) o41 (w64 ((w64 ((w64 ((2 : Int) * (Int.tmod a1 a0))) + (1 : Int))) - a0)))

theorem sky_grid_direction_ok (F : Nat) (a0 a1 : Int) (r : S__3_int) (M : Mem) (h : sky_grid_direction F a0 a1 = some r) : CallsM Tryz.prog 52 [(.int .i64 a0), (.int .i64 a1)] M (fun s M' => s = (.agg [(.int .i64 r.e0), (.int .i64 r.e1), (.int .i64 r.e2)]) ∧ M' = M) := by
  refine CallsM.plain Tryz.func52 rfl rfl rfl (show Run _ _ _ (sky_grid_direction_post r) _ _ _ from ?_)
  rw [sky_grid_direction] at h
  have hH := Has.nil (frozen M)
  refine Run.seq (Run.region ?_)
  refine Run.opX wantS_none rfl (ExG.new (v := fun b => .ptr b 0) (ex_alloc zer85) hH) ?_
  rintro _ M23 ⟨b22, rfl, hH23⟩
  refine Run.opsEnd (Run.seq (Run.region ?_))
  refine Run.opG wantS_none (ex_move rfl) rfl ?_
  refine Run.opG wantS_none (ex_assign rfl) rfl ?_
  refine Run.opsEnd (Run.seq ?_)
  refine Run.drawG plan52_1_1_0 ?_
  refine DrawG.fl rfl (ev_ex wantS_none (ex_move rfl)) rfl ?_
  refine DrawG.fl rfl (ev_ex wantS_none (ex_move rfl)) rfl ?_
  refine DrawG.fl rfl (ev_ex wantS_none (ex_move rfl)) rfl ?_
  refine DrawG.fl rfl (ev_ex wantS_none (ex_mul rfl rfl)) rfl ?_
  obtain ⟨z24, hz24, h⟩ := bnd_some h
  refine DrawG.fl rfl (ev_ex wantS_none (ex_quo' rfl rfl hz24)) rfl ?_
  refine DrawG.fl rfl (ev_ex wantS_none (ex_move rfl)) rfl ?_
  refine DrawG.fl rfl (ev_ex wantS_none (ex_move rfl)) rfl ?_
  obtain ⟨z25, hz25, h⟩ := bnd_some h
  refine DrawG.fl rfl (ev_ex wantS_none (ex_quo' rfl rfl hz25)) rfl ?_
  refine DrawG.fl rfl (ev_ex wantS_none (ex_move rfl)) rfl ?_
  obtain ⟨z26, hz26, h⟩ := bnd_some h
  refine DrawG.fl rfl (ev_ex wantS_none (ex_rem' rfl rfl hz26)) rfl ?_
  refine DrawG.fl rfl (ev_ex wantS_none (ex_move rfl)) rfl ?_
  refine DrawG.fl rfl (ev_ex wantS_none (ex_move rfl)) rfl ?_
  obtain ⟨z27, hz27, h⟩ := bnd_some h
  refine DrawG.fl rfl (ev_ex wantS_none (ex_rem' rfl rfl hz27)) rfl ?_
  refine DrawG.fl rfl (ev_ex wantS_none (ex_assign rfl)) rfl ?_
  refine DrawG.fl rfl (ev_ex wantS_none (ex_assign rfl)) rfl ?_
  refine DrawG.fl rfl (ev_ex wantS_none (ex_assign rfl)) rfl ?_
  refine DrawG.sync ?_
  refine DrawG.nil ?_
  refine Run.seq (Run.region ?_)
  refine Run.opG wantS_none (ex_move rfl) rfl ?_
  obtain ⟨r29, hr29, h⟩ := bnd_some h
  refine Run.callP wantS_none (ex_call rfl mkk107 cal107) rfl (sky_axes_ok F (w64 (Int.tdiv a1 (w64 (a0 * a0)))) _ _ hr29) ?_
  refine Run.opG wantS_none (ex_move rfl) rfl ?_
  refine Run.opG wantS_none (ex_extract rfl rfl) rfl ?_
  refine Run.opG wantS_none (ex_extract rfl rfl) rfl ?_
  refine Run.opG wantS_none (ex_extract rfl rfl) rfl ?_
  refine Run.opG wantS_none (ex_assign rfl) rfl ?_
  refine Run.opG wantS_none (ex_assign rfl) rfl ?_
  refine Run.opG wantS_none (ex_assign rfl) rfl ?_
  refine Run.opsEnd (Run.seq (Run.region ?_))
  refine Run.opX wantS_none rfl (ExG.new (v := fun b => .ptr b 0) (ex_alloc zer85) hH23) ?_
  rintro _ M33 ⟨b32, rfl, hH33⟩
  refine Run.opsEnd (Run.seq (Run.region ?_))
  refine Run.opG wantS_none (ex_move rfl) rfl ?_
  refine Run.opG wantS_none (ex_move rfl) rfl ?_
  refine Run.opG wantS_none (ex_move rfl) rfl ?_
  refine Run.opG wantS_none (ex_move rfl) rfl ?_
  refine Run.opG wantS_none (ex_move rfl) rfl ?_
  refine Run.opG wantS_none (ex_mul rfl rfl) rfl ?_
  refine Run.opG wantS_none (ex_add rfl rfl) rfl ?_
  refine Run.opG wantS_none (ex_move rfl) rfl ?_
  refine Run.opG wantS_none (ex_sub rfl rfl) rfl ?_
  refine Run.opG wantS_none (ex_move rfl) rfl ?_
  refine Run.opG wantS_none (ex_mul rfl rfl) rfl ?_
  refine Run.opG wantS_none (ex_add rfl rfl) rfl ?_
  refine Run.opG wantS_none (ex_move rfl) rfl ?_
  refine Run.opG wantS_none (ex_sub rfl rfl) rfl ?_
  obtain ⟨o35, ho35, h⟩ := bnd_some h
  refine Run.opG wantS_none (ex_elX rfl rfl (arr_place (inA_natIn ho35) els85)) rfl ?_
  refine Run.opX wantS_none rfl (ExG.storeV (off := 0) (cs := enc85 (S__3_int.mk 0 0 0)) (a' := enc85 (set85 (S__3_int.mk 0 0 0) o35 a0)) (c' := [(.int .i64 (set85 (S__3_int.mk 0 0 0) o35 a0).e0), (.int .i64 (set85 (S__3_int.mk 0 0 0) o35 a0).e1), (.int .i64 (set85 (S__3_int.mk 0 0 0) o35 a0).e2)]) rfl rfl rfl hH33 (i := 0) rfl sz3 rfl (inA_lt ho35) rfl (set85_cell (S__3_int.mk 0 0 0) a0 o35 (inA_lt ho35)) rfl) ?_
  rintro _ M36 ⟨rfl, (hH36 : Has (ro (frozen M)) M36 [.obj b32 (.row 85 .whole [(.int .i64 (set85 (S__3_int.mk 0 0 0) o35 a0).e0), (.int .i64 (set85 (S__3_int.mk 0 0 0) o35 a0).e1), (.int .i64 (set85 (S__3_int.mk 0 0 0) o35 a0).e2)]), .obj b22 (.row 85 .whole [(.int .i64 0), (.int .i64 0), (.int .i64 0)])])⟩
  obtain ⟨o38, ho38, h⟩ := bnd_some h
  refine Run.opG wantS_none (ex_elX rfl rfl (arr_place (inA_natIn ho38) els85)) rfl ?_
  refine Run.opX wantS_none rfl (ExG.storeV (off := 0) (cs := enc85 (set85 (S__3_int.mk 0 0 0) o35 a0)) (a' := enc85 (set85 (set85 (S__3_int.mk 0 0 0) o35 a0) o38 (w64 ((w64 ((w64 ((2 : Int) * (Int.tmod (w64 (Int.tdiv a1 a0)) a0))) + (1 : Int))) - a0)))) (c' := [(.int .i64 (set85 (set85 (S__3_int.mk 0 0 0) o35 a0) o38 (w64 ((w64 ((w64 ((2 : Int) * (Int.tmod (w64 (Int.tdiv a1 a0)) a0))) + (1 : Int))) - a0))).e0), (.int .i64 (set85 (set85 (S__3_int.mk 0 0 0) o35 a0) o38 (w64 ((w64 ((w64 ((2 : Int) * (Int.tmod (w64 (Int.tdiv a1 a0)) a0))) + (1 : Int))) - a0))).e1), (.int .i64 (set85 (set85 (S__3_int.mk 0 0 0) o35 a0) o38 (w64 ((w64 ((w64 ((2 : Int) * (Int.tmod (w64 (Int.tdiv a1 a0)) a0))) + (1 : Int))) - a0))).e2)]) rfl rfl rfl hH36 (i := 0) rfl sz3 rfl (inA_lt ho38) rfl (set85_cell (set85 (S__3_int.mk 0 0 0) o35 a0) (w64 ((w64 ((w64 ((2 : Int) * (Int.tmod (w64 (Int.tdiv a1 a0)) a0))) + (1 : Int))) - a0)) o38 (inA_lt ho38)) rfl) ?_
  rintro _ M39 ⟨rfl, (hH39 : Has (ro (frozen M)) M39 [.obj b32 (.row 85 .whole [(.int .i64 (set85 (set85 (S__3_int.mk 0 0 0) o35 a0) o38 (w64 ((w64 ((w64 ((2 : Int) * (Int.tmod (w64 (Int.tdiv a1 a0)) a0))) + (1 : Int))) - a0))).e0), (.int .i64 (set85 (set85 (S__3_int.mk 0 0 0) o35 a0) o38 (w64 ((w64 ((w64 ((2 : Int) * (Int.tmod (w64 (Int.tdiv a1 a0)) a0))) + (1 : Int))) - a0))).e1), (.int .i64 (set85 (set85 (S__3_int.mk 0 0 0) o35 a0) o38 (w64 ((w64 ((w64 ((2 : Int) * (Int.tmod (w64 (Int.tdiv a1 a0)) a0))) + (1 : Int))) - a0))).e2)]), .obj b22 (.row 85 .whole [(.int .i64 0), (.int .i64 0), (.int .i64 0)])])⟩
  obtain ⟨o41, ho41, h⟩ := bnd_some h
  refine Run.opG wantS_none (ex_elX rfl rfl (arr_place (inA_natIn ho41) els85)) rfl ?_
  refine Run.opX wantS_none rfl (ExG.storeV (off := 0) (cs := enc85 (set85 (set85 (S__3_int.mk 0 0 0) o35 a0) o38 (w64 ((w64 ((w64 ((2 : Int) * (Int.tmod (w64 (Int.tdiv a1 a0)) a0))) + (1 : Int))) - a0)))) (a' := enc85 (set85 (set85 (set85 (S__3_int.mk 0 0 0) o35 a0) o38 (w64 ((w64 ((w64 ((2 : Int) * (Int.tmod (w64 (Int.tdiv a1 a0)) a0))) + (1 : Int))) - a0))) o41 (w64 ((w64 ((w64 ((2 : Int) * (Int.tmod a1 a0))) + (1 : Int))) - a0)))) (c' := [(.int .i64 (set85 (set85 (set85 (S__3_int.mk 0 0 0) o35 a0) o38 (w64 ((w64 ((w64 ((2 : Int) * (Int.tmod (w64 (Int.tdiv a1 a0)) a0))) + (1 : Int))) - a0))) o41 (w64 ((w64 ((w64 ((2 : Int) * (Int.tmod a1 a0))) + (1 : Int))) - a0))).e0), (.int .i64 (set85 (set85 (set85 (S__3_int.mk 0 0 0) o35 a0) o38 (w64 ((w64 ((w64 ((2 : Int) * (Int.tmod (w64 (Int.tdiv a1 a0)) a0))) + (1 : Int))) - a0))) o41 (w64 ((w64 ((w64 ((2 : Int) * (Int.tmod a1 a0))) + (1 : Int))) - a0))).e1), (.int .i64 (set85 (set85 (set85 (S__3_int.mk 0 0 0) o35 a0) o38 (w64 ((w64 ((w64 ((2 : Int) * (Int.tmod (w64 (Int.tdiv a1 a0)) a0))) + (1 : Int))) - a0))) o41 (w64 ((w64 ((w64 ((2 : Int) * (Int.tmod a1 a0))) + (1 : Int))) - a0))).e2)]) rfl rfl rfl hH39 (i := 0) rfl sz3 rfl (inA_lt ho41) rfl (set85_cell (set85 (set85 (S__3_int.mk 0 0 0) o35 a0) o38 (w64 ((w64 ((w64 ((2 : Int) * (Int.tmod (w64 (Int.tdiv a1 a0)) a0))) + (1 : Int))) - a0))) (w64 ((w64 ((w64 ((2 : Int) * (Int.tmod a1 a0))) + (1 : Int))) - a0)) o41 (inA_lt ho41)) rfl) ?_
  rintro _ M42 ⟨rfl, (hH42 : Has (ro (frozen M)) M42 [.obj b32 (.row 85 .whole [(.int .i64 (set85 (set85 (set85 (S__3_int.mk 0 0 0) o35 a0) o38 (w64 ((w64 ((w64 ((2 : Int) * (Int.tmod (w64 (Int.tdiv a1 a0)) a0))) + (1 : Int))) - a0))) o41 (w64 ((w64 ((w64 ((2 : Int) * (Int.tmod a1 a0))) + (1 : Int))) - a0))).e0), (.int .i64 (set85 (set85 (set85 (S__3_int.mk 0 0 0) o35 a0) o38 (w64 ((w64 ((w64 ((2 : Int) * (Int.tmod (w64 (Int.tdiv a1 a0)) a0))) + (1 : Int))) - a0))) o41 (w64 ((w64 ((w64 ((2 : Int) * (Int.tmod a1 a0))) + (1 : Int))) - a0))).e1), (.int .i64 (set85 (set85 (set85 (S__3_int.mk 0 0 0) o35 a0) o38 (w64 ((w64 ((w64 ((2 : Int) * (Int.tmod (w64 (Int.tdiv a1 a0)) a0))) + (1 : Int))) - a0))) o41 (w64 ((w64 ((w64 ((2 : Int) * (Int.tmod a1 a0))) + (1 : Int))) - a0))).e2)]), .obj b22 (.row 85 .whole [(.int .i64 0), (.int .i64 0), (.int .i64 0)])])⟩
  refine Run.opsEnd (Run.seq (Run.seq (Run.region ?_)))
  refine Run.opG wantS_none (ex_move rfl) rfl ?_
  refine Run.opG wantS_none (ex_rem rfl rfl (by decide)) rfl ?_
  refine Run.opG wantS_none (ex_eql rfl rfl) rfl ?_
  refine Run.opsEnd ?_
  rcases btf (((Int.tmod (w64 (Int.tdiv a1 (w64 (a0 * a0)))) (2 : Int)) == (1 : Int))) with hc43 | hc43
  · have h := bif_t hc43 h
    refine Run.condT' rfl hc43 ?_
    refine Run.region ?_
    refine Run.opG wantS_none (ex_move rfl) rfl ?_
    refine Run.opG wantS_none (ex_move rfl) rfl ?_
    refine Run.opG wantS_none (ex_neg rfl) rfl ?_
    obtain ⟨o45, ho45, h⟩ := bnd_some h
    refine Run.opG wantS_none (ex_elX rfl rfl (arr_place (inA_natIn ho45) els85)) rfl ?_
    refine Run.opX wantS_none rfl (ExG.storeV (off := 0) (cs := enc85 (set85 (set85 (set85 (S__3_int.mk 0 0 0) o35 a0) o38 (w64 ((w64 ((w64 ((2 : Int) * (Int.tmod (w64 (Int.tdiv a1 a0)) a0))) + (1 : Int))) - a0))) o41 (w64 ((w64 ((w64 ((2 : Int) * (Int.tmod a1 a0))) + (1 : Int))) - a0)))) (a' := enc85 (set85 (set85 (set85 (set85 (S__3_int.mk 0 0 0) o35 a0) o38 (w64 ((w64 ((w64 ((2 : Int) * (Int.tmod (w64 (Int.tdiv a1 a0)) a0))) + (1 : Int))) - a0))) o41 (w64 ((w64 ((w64 ((2 : Int) * (Int.tmod a1 a0))) + (1 : Int))) - a0))) o45 (w64 (-a0)))) (c' := [(.int .i64 (set85 (set85 (set85 (set85 (S__3_int.mk 0 0 0) o35 a0) o38 (w64 ((w64 ((w64 ((2 : Int) * (Int.tmod (w64 (Int.tdiv a1 a0)) a0))) + (1 : Int))) - a0))) o41 (w64 ((w64 ((w64 ((2 : Int) * (Int.tmod a1 a0))) + (1 : Int))) - a0))) o45 (w64 (-a0))).e0), (.int .i64 (set85 (set85 (set85 (set85 (S__3_int.mk 0 0 0) o35 a0) o38 (w64 ((w64 ((w64 ((2 : Int) * (Int.tmod (w64 (Int.tdiv a1 a0)) a0))) + (1 : Int))) - a0))) o41 (w64 ((w64 ((w64 ((2 : Int) * (Int.tmod a1 a0))) + (1 : Int))) - a0))) o45 (w64 (-a0))).e1), (.int .i64 (set85 (set85 (set85 (set85 (S__3_int.mk 0 0 0) o35 a0) o38 (w64 ((w64 ((w64 ((2 : Int) * (Int.tmod (w64 (Int.tdiv a1 a0)) a0))) + (1 : Int))) - a0))) o41 (w64 ((w64 ((w64 ((2 : Int) * (Int.tmod a1 a0))) + (1 : Int))) - a0))) o45 (w64 (-a0))).e2)]) rfl rfl rfl hH42 (i := 0) rfl sz3 rfl (inA_lt ho45) rfl (set85_cell (set85 (set85 (set85 (S__3_int.mk 0 0 0) o35 a0) o38 (w64 ((w64 ((w64 ((2 : Int) * (Int.tmod (w64 (Int.tdiv a1 a0)) a0))) + (1 : Int))) - a0))) o41 (w64 ((w64 ((w64 ((2 : Int) * (Int.tmod a1 a0))) + (1 : Int))) - a0))) (w64 (-a0)) o45 (inA_lt ho45)) rfl) ?_
    rintro _ M46 ⟨rfl, (hH46 : Has (ro (frozen M)) M46 [.obj b32 (.row 85 .whole [(.int .i64 (set85 (set85 (set85 (set85 (S__3_int.mk 0 0 0) o35 a0) o38 (w64 ((w64 ((w64 ((2 : Int) * (Int.tmod (w64 (Int.tdiv a1 a0)) a0))) + (1 : Int))) - a0))) o41 (w64 ((w64 ((w64 ((2 : Int) * (Int.tmod a1 a0))) + (1 : Int))) - a0))) o45 (w64 (-a0))).e0), (.int .i64 (set85 (set85 (set85 (set85 (S__3_int.mk 0 0 0) o35 a0) o38 (w64 ((w64 ((w64 ((2 : Int) * (Int.tmod (w64 (Int.tdiv a1 a0)) a0))) + (1 : Int))) - a0))) o41 (w64 ((w64 ((w64 ((2 : Int) * (Int.tmod a1 a0))) + (1 : Int))) - a0))) o45 (w64 (-a0))).e1), (.int .i64 (set85 (set85 (set85 (set85 (S__3_int.mk 0 0 0) o35 a0) o38 (w64 ((w64 ((w64 ((2 : Int) * (Int.tmod (w64 (Int.tdiv a1 a0)) a0))) + (1 : Int))) - a0))) o41 (w64 ((w64 ((w64 ((2 : Int) * (Int.tmod a1 a0))) + (1 : Int))) - a0))) o45 (w64 (-a0))).e2)]), .obj b22 (.row 85 .whole [(.int .i64 0), (.int .i64 0), (.int .i64 0)])])⟩
    refine Run.opsEnd (Run.seq (Run.region ?_))
    exact Run.pick [4, 12] (sky_grid_direction_1_ok F (S__3_int.mk 0 0 0) (set85 (set85 (set85 (set85 (S__3_int.mk 0 0 0) o35 a0) o38 (w64 ((w64 ((w64 ((2 : Int) * (Int.tmod (w64 (Int.tdiv a1 a0)) a0))) + (1 : Int))) - a0))) o41 (w64 ((w64 ((w64 ((2 : Int) * (Int.tmod a1 a0))) + (1 : Int))) - a0))) o45 (w64 (-a0))) b22 b32 _ _ _ (hH46.pick [1, 0] rfl rfl) h)
  · have h := bif_f hc43 h
    refine Run.condF' rfl hc43 ?_
    refine Run.skip (Run.seq (Run.region ?_))
    exact Run.pick [4, 12] (sky_grid_direction_1_ok F (S__3_int.mk 0 0 0) (set85 (set85 (set85 (S__3_int.mk 0 0 0) o35 a0) o38 (w64 ((w64 ((w64 ((2 : Int) * (Int.tmod (w64 (Int.tdiv a1 a0)) a0))) + (1 : Int))) - a0))) o41 (w64 ((w64 ((w64 ((2 : Int) * (Int.tmod a1 a0))) + (1 : Int))) - a0))) b22 b32 _ _ _ (hH42.pick [1, 0] rfl rfl) h)

theorem mkk52 : makeK Tryz.prog 52 = none := by kernel_rfl
theorem cal52 : callable Tryz.prog 52 = true := by kernel_rfl
theorem agg89 : aggSize Tryz.prog 89 = some none := by kernel_rfl
theorem mkk64 : makeK Tryz.prog 64 = none := by kernel_rfl
theorem cal64 : callable Tryz.prog 64 = true := by kernel_rfl
theorem agg93 : aggSize Tryz.prog 93 = some none := by kernel_rfl
theorem els93 : elems Tryz.prog 93 = some (.sl 9) := by kernel_rfl
theorem off99_0 : fieldOff Tryz.prog 99 0 = some 0 := by kernel_rfl
theorem agg97 : aggSize Tryz.prog 97 = some (some 3) := by kernel_rfl
structure S_sky_ratio where
  top : Int
  under : Int

theorem zer96 : zerosOf Tryz.prog 96 = some [(.int .i64 0), (.int .i64 0)] := by kernel_rfl
abbrev sky_vector_minus_post (r : S__3_int) : SV → Mem → Prop := fun s _ => s = (.agg [(.int .i64 r.e0), (.int .i64 r.e1), (.int .i64 r.e2)])

def sky_vector_minus (F : Nat) (a0 a1 : S__3_int) : Option (S__3_int) :=
  some (S__3_int.mk (w64 (a0.e0 - a1.e0)) (w64 (a0.e1 - a1.e1)) (w64 (a0.e2 - a1.e2)))

theorem sky_vector_minus_ok (F : Nat) (a0 a1 r : S__3_int) (M : Mem) (h : sky_vector_minus F a0 a1 = some r) : CallsM Tryz.prog 111 [(.agg [(.int .i64 a0.e0), (.int .i64 a0.e1), (.int .i64 a0.e2)]), (.agg [(.int .i64 a1.e0), (.int .i64 a1.e1), (.int .i64 a1.e2)])] M (fun s M' => s = (.agg [(.int .i64 r.e0), (.int .i64 r.e1), (.int .i64 r.e2)]) ∧ M' = M) := by
  refine CallsM.plain Tryz.func111 rfl rfl rfl (show Run _ _ _ (sky_vector_minus_post r) _ _ _ from ?_)
  rw [sky_vector_minus] at h
  have hH := Has.nil (frozen M)
  refine Run.seq (Run.region ?_)
  refine Run.opX wantS_none rfl (ExG.box rfl rfl hH) ?_
  rintro _ M23 ⟨b22, rfl, hH23⟩
  refine Run.opX wantS_none rfl (ExG.box rfl rfl hH23) ?_
  rintro _ M26 ⟨b25, rfl, hH26⟩
  refine Run.opX wantS_none rfl (ExG.new (v := fun b => .ptr b 0) (ex_alloc zer85) hH26) ?_
  rintro _ M29 ⟨b28, rfl, hH29⟩
  refine Run.opsEnd (Run.seq (Run.region ?_))
  refine Run.opG wantS_none (ex_elX rfl rfl (arr_place (j := 0) rfl els85)) rfl ?_
  refine Run.opG wantS_none (ex_load1 rfl (hH29.cells (i := 2) rfl 0 rfl) rdLe_rfl agg3) rfl ?_
  refine Run.opG wantS_none (ex_elX rfl rfl (arr_place (j := 0) rfl els85)) rfl ?_
  refine Run.opG wantS_none (ex_load1 rfl (hH29.cells (i := 1) rfl 0 rfl) rdLe_rfl agg3) rfl ?_
  refine Run.opG wantS_none (ex_sub rfl rfl) rfl ?_
  refine Run.opG wantS_none (ex_elX rfl rfl (arr_place (j := 1) rfl els85)) rfl ?_
  refine Run.opG wantS_none (ex_load1 rfl (hH29.cells (i := 2) rfl 1 rfl) rdLe_rfl agg3) rfl ?_
  refine Run.opG wantS_none (ex_elX rfl rfl (arr_place (j := 1) rfl els85)) rfl ?_
  refine Run.opG wantS_none (ex_load1 rfl (hH29.cells (i := 1) rfl 1 rfl) rdLe_rfl agg3) rfl ?_
  refine Run.opG wantS_none (ex_sub rfl rfl) rfl ?_
  refine Run.opG wantS_none (ex_elX rfl rfl (arr_place (j := 2) rfl els85)) rfl ?_
  refine Run.opG wantS_none (ex_load1 rfl (hH29.cells (i := 2) rfl 2 rfl) rdLe_rfl agg3) rfl ?_
  refine Run.opG wantS_none (ex_elX rfl rfl (arr_place (j := 2) rfl els85)) rfl ?_
  refine Run.opG wantS_none (ex_load1 rfl (hH29.cells (i := 1) rfl 2 rfl) rdLe_rfl agg3) rfl ?_
  refine Run.opG wantS_none (ex_sub rfl rfl) rfl ?_
  refine Run.opG wantS_none (ex_buildA (r := [(.int .i64 (w64 (a0.e0 - a1.e0))), (.int .i64 (w64 (a0.e1 - a1.e1))), (.int .i64 (w64 (a0.e2 - a1.e2)))]) rfl zer85 pls85 rfl) rfl ?_
  refine Run.opX wantS_none rfl (ExG.storeC (c' := [(.int .i64 (w64 (a0.e0 - a1.e0))), (.int .i64 (w64 (a0.e1 - a1.e1))), (.int .i64 (w64 (a0.e2 - a1.e2)))]) rfl rfl rfl hH29 (i := 0) rfl sz85 rfl rfl rfl rfl rfl) ?_
  rintro _ M42 ⟨rfl, (hH42 : Has (ro (frozen M)) M42 [.obj b28 (.row 85 .whole [(.int .i64 (w64 (a0.e0 - a1.e0))), (.int .i64 (w64 (a0.e1 - a1.e1))), (.int .i64 (w64 (a0.e2 - a1.e2)))]), .obj b25 (.row 85 .whole [(.int .i64 a1.e0), (.int .i64 a1.e1), (.int .i64 a1.e2)]), .obj b22 (.row 85 .whole [(.int .i64 a0.e0), (.int .i64 a0.e1), (.int .i64 a0.e2)])])⟩
  refine Run.opsEnd ?_
  cases h
  exact Run.ret Tryz.func111 rfl (res_cell rfl (x_load (ex_loadA rfl (hH42.cells (i := 0) rfl 0 rfl) rdLe_rfl agg85 rfl rfl rfl)) res_nil) rfl

theorem mkk111 : makeK Tryz.prog 111 = none := by kernel_rfl
theorem cal111 : callable Tryz.prog 111 = true := by kernel_rfl
abbrev sky_vector_dot_post (r : Int) : SV → Mem → Prop := fun s _ => s = (.int .i64 r)

def sky_vector_dot (F : Nat) (a0 a1 : S__3_int) : Option (Int) :=
  some (w64 ((w64 ((w64 (a0.e0 * a1.e0)) + (w64 (a0.e1 * a1.e1)))) + (w64 (a0.e2 * a1.e2))))

theorem sky_vector_dot_ok (F : Nat) (a0 a1 : S__3_int) (r : Int) (M : Mem) (h : sky_vector_dot F a0 a1 = some r) : CallsM Tryz.prog 139 [(.agg [(.int .i64 a0.e0), (.int .i64 a0.e1), (.int .i64 a0.e2)]), (.agg [(.int .i64 a1.e0), (.int .i64 a1.e1), (.int .i64 a1.e2)])] M (fun s M' => s = (.int .i64 r) ∧ M' = M) := by
  refine CallsM.plain Tryz.func139 rfl rfl rfl (show Run _ _ _ (sky_vector_dot_post r) _ _ _ from ?_)
  rw [sky_vector_dot] at h
  have hH := Has.nil (frozen M)
  refine Run.seq (Run.region ?_)
  refine Run.opX wantS_none rfl (ExG.box rfl rfl hH) ?_
  rintro _ M23 ⟨b22, rfl, hH23⟩
  refine Run.opX wantS_none rfl (ExG.box rfl rfl hH23) ?_
  rintro _ M26 ⟨b25, rfl, hH26⟩
  refine Run.opG wantS_none (ex_assign rfl) rfl ?_
  refine Run.opsEnd (Run.seq (Run.region ?_))
  refine Run.opG wantS_none (ex_elX rfl rfl (arr_place (j := 0) rfl els85)) rfl ?_
  refine Run.opG wantS_none (ex_load1 rfl (hH26.cells (i := 1) rfl 0 rfl) rdLe_rfl agg3) rfl ?_
  refine Run.opG wantS_none (ex_elX rfl rfl (arr_place (j := 0) rfl els85)) rfl ?_
  refine Run.opG wantS_none (ex_load1 rfl (hH26.cells (i := 0) rfl 0 rfl) rdLe_rfl agg3) rfl ?_
  refine Run.opG wantS_none (ex_mul rfl rfl) rfl ?_
  refine Run.opG wantS_none (ex_elX rfl rfl (arr_place (j := 1) rfl els85)) rfl ?_
  refine Run.opG wantS_none (ex_load1 rfl (hH26.cells (i := 1) rfl 1 rfl) rdLe_rfl agg3) rfl ?_
  refine Run.opG wantS_none (ex_elX rfl rfl (arr_place (j := 1) rfl els85)) rfl ?_
  refine Run.opG wantS_none (ex_load1 rfl (hH26.cells (i := 0) rfl 1 rfl) rdLe_rfl agg3) rfl ?_
  refine Run.opG wantS_none (ex_mul rfl rfl) rfl ?_
  refine Run.opG wantS_none (ex_add rfl rfl) rfl ?_
  refine Run.opG wantS_none (ex_elX rfl rfl (arr_place (j := 2) rfl els85)) rfl ?_
  refine Run.opG wantS_none (ex_load1 rfl (hH26.cells (i := 1) rfl 2 rfl) rdLe_rfl agg3) rfl ?_
  refine Run.opG wantS_none (ex_elX rfl rfl (arr_place (j := 2) rfl els85)) rfl ?_
  refine Run.opG wantS_none (ex_load1 rfl (hH26.cells (i := 0) rfl 2 rfl) rdLe_rfl agg3) rfl ?_
  refine Run.opG wantS_none (ex_mul rfl rfl) rfl ?_
  refine Run.opG wantS_none (ex_add rfl rfl) rfl ?_
  refine Run.opG wantS_none (ex_assign rfl) rfl ?_
  refine Run.opsEnd ?_
  cases h
  exact Run.ret Tryz.func139 rfl (res_tmp rfl res_nil) rfl

theorem mkk139 : makeK Tryz.prog 139 = none := by kernel_rfl
theorem cal139 : callable Tryz.prog 139 = true := by kernel_rfl
abbrev sky_vector_square_post (r : Int) : SV → Mem → Prop := fun s _ => s = (.int .i64 r)

def sky_vector_square (F : Nat) (a0 : S__3_int) : Option (Int) :=
  bnd (sky_vector_dot F a0 a0) fun r25 =>
  some r25

theorem sky_vector_square_ok (F : Nat) (a0 : S__3_int) (r : Int) (M : Mem) (h : sky_vector_square F a0 = some r) : CallsM Tryz.prog 140 [(.agg [(.int .i64 a0.e0), (.int .i64 a0.e1), (.int .i64 a0.e2)])] M (fun s M' => s = (.int .i64 r) ∧ M' = M) := by
  refine CallsM.plain Tryz.func140 rfl rfl rfl (show Run _ _ _ (sky_vector_square_post r) _ _ _ from ?_)
  rw [sky_vector_square] at h
  have hH := Has.nil (frozen M)
  refine Run.seq (Run.region ?_)
  refine Run.opX wantS_none rfl (ExG.box rfl rfl hH) ?_
  rintro _ M23 ⟨b22, rfl, hH23⟩
  refine Run.opG wantS_none (ex_assign rfl) rfl ?_
  refine Run.opsEnd (Run.seq (Run.region ?_))
  refine Run.opG wantS_none (ex_loadA rfl (hH23.cells (i := 0) rfl 0 rfl) rdLe_rfl agg85 rfl rfl rfl) rfl ?_
  refine Run.opG wantS_none (ex_loadA rfl (hH23.cells (i := 0) rfl 0 rfl) rdLe_rfl agg85 rfl rfl rfl) rfl ?_
  obtain ⟨r25, hr25, h⟩ := bnd_some h
  refine Run.callP wantS_none (ex_call rfl mkk139 cal139) rfl (sky_vector_dot_ok F a0 a0 _ _ hr25) ?_
  refine Run.opG wantS_none (ex_assign rfl) rfl ?_
  refine Run.opsEnd ?_
  cases h
  exact Run.ret Tryz.func140 rfl (res_tmp rfl res_nil) rfl

theorem mkk140 : makeK Tryz.prog 140 = none := by kernel_rfl
theorem cal140 : callable Tryz.prog 140 = true := by kernel_rfl
theorem pls96 : placesOf Tryz.prog 96 = some (.st [(0, 1), (1, 1)]) := by kernel_rfl
theorem sz96 : szOf Tryz.prog 96 = some 2 := by kernel_rfl
theorem agg96 : aggSize Tryz.prog 96 = some (some 2) := by kernel_rfl
theorem plan112_1_0 : planOf Tryz.prog (opsC (atC Tryz.prog 112 [1, 0])) = some [.fl 0, .fl 1, .fl 3, .an 2 [3], .an 4 [], .fl 5, .an 6 [], .sync] := by kernel_rfl
abbrev sky_vector_along_post (r : S_sky_ratio) : SV → Mem → Prop := fun s _ => s = (.agg [(.int .i64 r.top), (.int .i64 r.under)])

def sky_vector_along (F : Nat) (a0 a1 : S__3_int) : Option (S_sky_ratio) :=
  bnd (sky_vector_dot F a0 a1) fun r30 =>
  bnd (sky_vector_square F a1) fun r32 =>
  some (S_sky_ratio.mk r30 r32)

theorem sky_vector_along_ok (F : Nat) (a0 a1 : S__3_int) (r : S_sky_ratio) (M : Mem) (h : sky_vector_along F a0 a1 = some r) : CallsM Tryz.prog 112 [(.agg [(.int .i64 a0.e0), (.int .i64 a0.e1), (.int .i64 a0.e2)]), (.agg [(.int .i64 a1.e0), (.int .i64 a1.e1), (.int .i64 a1.e2)])] M (fun s M' => s = (.agg [(.int .i64 r.top), (.int .i64 r.under)]) ∧ M' = M) := by
  refine CallsM.plain Tryz.func112 rfl rfl rfl (show Run _ _ _ (sky_vector_along_post r) _ _ _ from ?_)
  rw [sky_vector_along] at h
  have hH := Has.nil (frozen M)
  refine Run.seq (Run.region ?_)
  refine Run.opX wantS_none rfl (ExG.box rfl rfl hH) ?_
  rintro _ M23 ⟨b22, rfl, hH23⟩
  refine Run.opX wantS_none rfl (ExG.box rfl rfl hH23) ?_
  rintro _ M26 ⟨b25, rfl, hH26⟩
  refine Run.opX wantS_none rfl (ExG.new (v := fun b => .ptr b 0) (ex_alloc zer96) hH26) ?_
  rintro _ M29 ⟨b28, rfl, hH29⟩
  refine Run.opsEnd (Run.seq ?_)
  refine Run.drawG plan112_1_0 ?_
  refine DrawG.fl rfl (ev_ex wantS_none (ex_loadA rfl (hH29.cells (i := 2) rfl 0 rfl) rdLe_rfl agg85 rfl rfl rfl)) rfl ?_
  refine DrawG.fl rfl (ev_ex wantS_none (ex_loadA rfl (hH29.cells (i := 1) rfl 0 rfl) rdLe_rfl agg85 rfl rfl rfl)) rfl ?_
  refine DrawG.fl rfl (ev_ex wantS_none (ex_loadA rfl (hH29.cells (i := 1) rfl 0 rfl) rdLe_rfl agg85 rfl rfl rfl)) rfl ?_
  obtain ⟨r30, hr30, h⟩ := bnd_some h
  refine DrawG.callP rfl wantS_none (ex_call rfl mkk139 cal139) rfl (sky_vector_dot_ok F a0 a1 _ _ hr30) (st_cons rfl (ev_ex wantS_none (ex_loadA rfl (hH29.cells (i := 1) rfl 0 rfl) rdLe_rfl agg85 rfl rfl rfl)) rfl rfl rfl st_nil) ?_
  obtain ⟨r32, hr32, h⟩ := bnd_some h
  refine DrawG.callP rfl wantS_none (ex_call rfl mkk140 cal140) rfl (sky_vector_square_ok F a1 _ _ hr32) st_nil ?_
  refine DrawG.fl rfl (ev_ex wantS_none (ex_build (r := [(.int .i64 r30), (.int .i64 r32)]) rfl zer96 pls96 rfl)) rfl ?_
  refine DrawG.opX rfl wantS_none rfl (ExG.storeC (c' := [(.int .i64 r30), (.int .i64 r32)]) rfl rfl rfl hH29 (i := 0) rfl sz96 rfl rfl rfl rfl rfl) ?_
  rintro _ M34 ⟨rfl, (hH34 : Has (ro (frozen M)) M34 [.obj b28 (.row 96 .whole [(.int .i64 r30), (.int .i64 r32)]), .obj b25 (.row 85 .whole [(.int .i64 a1.e0), (.int .i64 a1.e1), (.int .i64 a1.e2)]), .obj b22 (.row 85 .whole [(.int .i64 a0.e0), (.int .i64 a0.e1), (.int .i64 a0.e2)])])⟩
  refine ⟨st_nil, ?_⟩
  refine DrawG.sync ?_
  refine DrawG.nil ?_
  cases h
  exact Run.ret Tryz.func112 rfl (res_cell rfl (x_load (ex_loadA rfl (hH34.cells (i := 0) rfl 0 rfl) rdLe_rfl agg96 rfl rfl rfl)) res_nil) rfl

theorem mkk112 : makeK Tryz.prog 112 = none := by kernel_rfl
theorem cal112 : callable Tryz.prog 112 = true := by kernel_rfl
theorem plan65_1_0 : planOf Tryz.prog (opsC (atC Tryz.prog 65 [1, 0])) = some [.fl 0, .fl 1, .fl 3, .an 2 [3], .an 4 [], .an 5 [], .sync] := by kernel_rfl
abbrev sky_place_difference_post (r : S_sky_ratio) : SV → Mem → Prop := fun s _ => s = (.agg [(.int .i64 r.top), (.int .i64 r.under)])

def sky_place_difference (F : Nat) (a0 a1 a2 : S__3_int) : Option (S_sky_ratio) :=
  bnd (sky_vector_minus F a0 a1) fun r33 =>
  bnd (sky_vector_along F r33 a2) fun r35 =>
  some r35

theorem sky_place_difference_ok (F : Nat) (a0 a1 a2 : S__3_int) (r : S_sky_ratio) (M : Mem) (h : sky_place_difference F a0 a1 a2 = some r) : CallsM Tryz.prog 65 [(.agg [(.int .i64 a0.e0), (.int .i64 a0.e1), (.int .i64 a0.e2)]), (.agg [(.int .i64 a1.e0), (.int .i64 a1.e1), (.int .i64 a1.e2)]), (.agg [(.int .i64 a2.e0), (.int .i64 a2.e1), (.int .i64 a2.e2)])] M (fun s M' => s = (.agg [(.int .i64 r.top), (.int .i64 r.under)]) ∧ M' = M) := by
  refine CallsM.plain Tryz.func65 rfl rfl rfl (show Run _ _ _ (sky_place_difference_post r) _ _ _ from ?_)
  rw [sky_place_difference] at h
  have hH := Has.nil (frozen M)
  refine Run.seq (Run.region ?_)
  refine Run.opX wantS_none rfl (ExG.box rfl rfl hH) ?_
  rintro _ M23 ⟨b22, rfl, hH23⟩
  refine Run.opX wantS_none rfl (ExG.box rfl rfl hH23) ?_
  rintro _ M26 ⟨b25, rfl, hH26⟩
  refine Run.opX wantS_none rfl (ExG.box rfl rfl hH26) ?_
  rintro _ M29 ⟨b28, rfl, hH29⟩
  refine Run.opX wantS_none rfl (ExG.new (v := fun b => .ptr b 0) (ex_alloc zer96) hH29) ?_
  rintro _ M32 ⟨b31, rfl, hH32⟩
  refine Run.opsEnd (Run.seq ?_)
  refine Run.drawG plan65_1_0 ?_
  refine DrawG.fl rfl (ev_ex wantS_none (ex_loadA rfl (hH32.cells (i := 3) rfl 0 rfl) rdLe_rfl agg97 rfl rfl rfl)) rfl ?_
  refine DrawG.fl rfl (ev_ex wantS_none (ex_loadA rfl (hH32.cells (i := 2) rfl 0 rfl) rdLe_rfl agg97 rfl rfl rfl)) rfl ?_
  refine DrawG.fl rfl (ev_ex wantS_none (ex_loadA rfl (hH32.cells (i := 1) rfl 0 rfl) rdLe_rfl agg85 rfl rfl rfl)) rfl ?_
  obtain ⟨r33, hr33, h⟩ := bnd_some h
  refine DrawG.callP rfl wantS_none (ex_call rfl mkk111 cal111) rfl (sky_vector_minus_ok F a0 a1 _ _ hr33) (st_cons rfl (ev_ex wantS_none (ex_loadA rfl (hH32.cells (i := 1) rfl 0 rfl) rdLe_rfl agg85 rfl rfl rfl)) rfl rfl rfl st_nil) ?_
  obtain ⟨r35, hr35, h⟩ := bnd_some h
  refine DrawG.callP rfl wantS_none (ex_call rfl mkk112 cal112) rfl (sky_vector_along_ok F r33 a2 _ _ hr35) st_nil ?_
  refine DrawG.opX rfl wantS_none rfl (ExG.storeC (c' := [(.int .i64 r35.top), (.int .i64 r35.under)]) rfl rfl rfl hH32 (i := 0) rfl sz96 rfl rfl rfl rfl rfl) ?_
  rintro _ M37 ⟨rfl, (hH37 : Has (ro (frozen M)) M37 [.obj b31 (.row 96 .whole [(.int .i64 r35.top), (.int .i64 r35.under)]), .obj b28 (.row 85 .whole [(.int .i64 a2.e0), (.int .i64 a2.e1), (.int .i64 a2.e2)]), .obj b25 (.row 97 .whole [(.int .i64 a1.e0), (.int .i64 a1.e1), (.int .i64 a1.e2)]), .obj b22 (.row 97 .whole [(.int .i64 a0.e0), (.int .i64 a0.e1), (.int .i64 a0.e2)])])⟩
  refine ⟨st_nil, ?_⟩
  refine DrawG.sync ?_
  refine DrawG.nil ?_
  cases h
  exact Run.ret Tryz.func65 rfl (res_cell rfl (x_load (ex_loadA rfl (hH37.cells (i := 0) rfl 0 rfl) rdLe_rfl agg96 rfl rfl rfl)) res_nil) rfl

theorem mkk65 : makeK Tryz.prog 65 = none := by kernel_rfl
theorem cal65 : callable Tryz.prog 65 = true := by kernel_rfl
theorem off96_0 : fieldOff Tryz.prog 96 0 = some 0 := by kernel_rfl
theorem off96_1 : fieldOff Tryz.prog 96 1 = some 1 := by kernel_rfl
theorem mkk113 : makeK Tryz.prog 113 = none := by kernel_rfl
theorem cal113 : callable Tryz.prog 113 = true := by kernel_rfl
theorem mkk97 : makeK Tryz.prog 97 = none := by kernel_rfl
theorem cal97 : callable Tryz.prog 97 = true := by kernel_rfl
theorem mkk133 : makeK Tryz.prog 133 = none := by kernel_rfl
theorem cal133 : callable Tryz.prog 133 = true := by kernel_rfl
theorem uvk3_202 : uvK Tryz.prog 3 202 = none := by kernel_rfl
theorem cvk3_202 : cvK Tryz.prog 3 202 = some (.int .u64) := by kernel_rfl
theorem uvk202_3 : uvK Tryz.prog 202 3 = none := by kernel_rfl
theorem cvk202_3 : cvK Tryz.prog 202 3 = some (.int .i64) := by kernel_rfl
theorem mkk155 : makeK Tryz.prog 155 = none := by kernel_rfl
theorem cal155 : callable Tryz.prog 155 = true := by kernel_rfl
theorem mkk134 : makeK Tryz.prog 134 = none := by kernel_rfl
theorem cal134 : callable Tryz.prog 134 = true := by kernel_rfl
abbrev sky_ratio_down_post (r : Int) : SV → Mem → Prop := fun s _ => s = (.int .i64 r)

def sky_ratio_down_1 (F : Nat) : Nat → Int → Int → S_sky_ratio → Option (Int)
  | 0, _, _, _ => none
  | N + 1, v5, v6, c26 =>
    bif (decide (v5 < v6)) then
      bif (!(decide ((w64 (c26.top * c26.top)) ≤ (w64 ((w64 ((w64 (Int.fdiv (IntKind.wrap .u64 (w64 (v5 + v6))) (2 ^ (min 1 (IntKind.bits .u64))))) * (w64 (Int.fdiv (IntKind.wrap .u64 (w64 (v5 + v6))) (2 ^ (min 1 (IntKind.bits .u64))))))) * c26.under))))) then
        (sky_ratio_down_1 F N) (w64 ((w64 (Int.fdiv (IntKind.wrap .u64 (w64 (v5 + v6))) (2 ^ (min 1 (IntKind.bits .u64))))) + (1 : Int))) v6 c26
      else
        (sky_ratio_down_1 F N) v5 (w64 (Int.fdiv (IntKind.wrap .u64 (w64 (v5 + v6))) (2 ^ (min 1 (IntKind.bits .u64))))) c26
    else
      some (w64 (-v5))

theorem sky_ratio_down_1_ok (F : Nat) : ∀ (N : Nat), ∀ (v5 v6 : Int) (c26 : S_sky_ratio) (b26 : Pos) (Fr : Rd) (M : Mem) (r : Int) (hH : Has Fr M [.obj b26 (.row 96 .whole [(.int .i64 c26.top), (.int .i64 c26.under)])]), sky_ratio_down_1 F N v5 v6 c26 = some r → Run Tryz.prog ⟨⟨133, [], none⟩, [.mk ⟨113, [], none⟩ 18 (treeOf []) [itemC Tryz.prog 113 [1, 1, 0] 3, codeC Tryz.prog 113 [1, 1, 1]], .mk ⟨97, [], none⟩ 20 (treeOf []) [itemC Tryz.prog 97 [1, 0, 1, 0, 0] 6, codeC Tryz.prog 97 [1, 0, 1, 0, 1], codeC Tryz.prog 97 [1, 1]]]⟩ 26 (sky_ratio_down_post r) [(1, (.fn (.func 155) [] [(.ptr b26 0)])), (5, (.int .i64 v5)), (6, (.int .i64 v6))] [codeC Tryz.prog 133 [1, 1, 0, 0, 0], loopC Tryz.prog 133 [1, 1, 0, 0, 0], .inBlock 0, codeC Tryz.prog 133 [1, 1, 1]] M := by
  intro N
  induction N with
  | zero =>
    intro v5 v6 c26 b26 Fr M r hH h
    simp [sky_ratio_down_1] at h
  | succ N ih =>
    intro v5 v6 c26 b26 Fr M r hH h
    rw [sky_ratio_down_1] at h
    refine Run.seq (Run.seq (Run.region ?_))
    refine Run.opG wantS_none (ex_move rfl) rfl ?_
    refine Run.opG wantS_none (ex_move rfl) rfl ?_
    refine Run.opG wantS_none (ex_lss rfl rfl) rfl ?_
    refine Run.opsEnd ?_
    rcases btf ((decide (v5 < v6))) with hc29 | hc29
    · have h := bif_t hc29 h
      refine Run.condT' rfl hc29 ?_
      refine Run.skip (Run.block (Run.seq (Run.region ?_)))
      refine Run.opG wantS_none (ex_move rfl) rfl ?_
      refine Run.opG wantS_none (ex_move rfl) rfl ?_
      refine Run.opG wantS_none (ex_add rfl rfl) rfl ?_
      refine Run.opG wantS_none (ex_conv rfl uvk3_202 cvk3_202) rfl ?_
      refine Run.opG wantS_none (ex_shr (j := 1) rfl rfl) rfl ?_
      refine Run.opG wantS_none (ex_conv rfl uvk202_3 cvk202_3) rfl ?_
      refine Run.opG wantS_none (ex_assign rfl) rfl ?_
      refine Run.opsEnd (Run.seq (Run.region ?_))
      refine Run.opG wantS_none (ex_move rfl) rfl ?_
      refine Run.opG wantS_none (ex_move rfl) rfl ?_
      refine Run.enter wantS_none (ex_closure rfl rfl mkk155 cal155) Tryz.func155 rfl rfl ?_
      refine Run.seq (Run.region ?_)
      refine Run.opG wantS_none (ex_assign rfl) rfl ?_
      refine Run.opsEnd (Run.seq (Run.region ?_))
      refine Run.opG wantS_none (ex_move rfl) rfl ?_
      refine Run.opG wantS_none (ex_move rfl) rfl ?_
      refine Run.opG wantS_none (ex_mul rfl rfl) rfl ?_
      refine Run.opG wantS_none (ex_fieldAddr rfl off96_1) rfl ?_
      refine Run.opG wantS_none (ex_load1 rfl (hH.cells (i := 0) rfl 1 rfl) rdLe_rfl agg3) rfl ?_
      refine Run.opG wantS_none (ex_mul rfl rfl) rfl ?_
      refine Run.opG wantS_none (ex_fieldAddr rfl off96_0) rfl ?_
      refine Run.opG wantS_none (ex_load1 rfl (hH.cells (i := 0) rfl 0 rfl) rdLe_rfl agg3) rfl ?_
      refine Run.opG wantS_none (ex_fieldAddr rfl off96_0) rfl ?_
      refine Run.opG wantS_none (ex_load1 rfl (hH.cells (i := 0) rfl 0 rfl) rdLe_rfl agg3) rfl ?_
      refine Run.opG wantS_none (ex_mul rfl rfl) rfl ?_
      refine Run.opG wantS_none (ex_geq rfl rfl) rfl ?_
      refine Run.opG wantS_none (ex_assign rfl) rfl ?_
      refine Run.opsEnd ?_
      refine Run.retTo Tryz.func155 rfl (res_tmp rfl res_nil) rfl ?_
      refine Run.opG wantS_none (ex_not rfl) rfl ?_
      refine Run.opsEnd ?_
      rcases btf ((!(decide ((w64 (c26.top * c26.top)) ≤ (w64 ((w64 ((w64 (Int.fdiv (IntKind.wrap .u64 (w64 (v5 + v6))) (2 ^ (min 1 (IntKind.bits .u64))))) * (w64 (Int.fdiv (IntKind.wrap .u64 (w64 (v5 + v6))) (2 ^ (min 1 (IntKind.bits .u64))))))) * c26.under)))))) with hc30 | hc30
      · have h := bif_t hc30 h
        refine Run.condT' rfl hc30 ?_
        refine Run.region ?_
        refine Run.opG wantS_none (ex_move rfl) rfl ?_
        refine Run.opG wantS_none (ex_add rfl rfl) rfl ?_
        refine Run.opG wantS_none (ex_assign rfl) rfl ?_
        refine Run.opsEnd (Run.inBlock (Run.inLoop ?_))
        exact Run.low (.cons (fle_pick [] rfl) (.cons (fle_pick [] rfl) .nil)) (Run.pick [1, 5, 6] (ih (w64 ((w64 (Int.fdiv (IntKind.wrap .u64 (w64 (v5 + v6))) (2 ^ (min 1 (IntKind.bits .u64))))) + (1 : Int))) v6 c26 b26 _ _ _ hH h))
      · have h := bif_f hc30 h
        refine Run.condF' rfl hc30 ?_
        refine Run.region ?_
        refine Run.opG wantS_none (ex_move rfl) rfl ?_
        refine Run.opG wantS_none (ex_assign rfl) rfl ?_
        refine Run.opsEnd (Run.inBlock (Run.inLoop ?_))
        exact Run.low (.cons (fle_pick [] rfl) (.cons (fle_pick [] rfl) .nil)) (Run.pick [1, 5, 6] (ih v5 (w64 (Int.fdiv (IntKind.wrap .u64 (w64 (v5 + v6))) (2 ^ (min 1 (IntKind.bits .u64))))) c26 b26 _ _ _ hH h))
    · have h := bif_f hc29 h
      refine Run.condF' rfl hc29 ?_
      refine Run.exit rfl (Run.seq (Run.region ?_))
      refine Run.opG wantS_none (ex_move rfl) rfl ?_
      refine Run.opG wantS_none (ex_assign rfl) rfl ?_
      refine Run.opsEnd ?_
      refine Run.retTo Tryz.func133 rfl (res_tmp rfl res_nil) rfl ?_
      refine Run.opG wantS_none (ex_assign rfl) rfl ?_
      refine Run.opsEnd ?_
      refine Run.retTo Tryz.func113 rfl (res_tmp rfl res_nil) rfl ?_
      refine Run.opG wantS_none (ex_neg rfl) rfl ?_
      refine Run.opG wantS_none (ex_assign rfl) rfl ?_
      refine Run.opsEnd ?_
      cases h
      exact Run.ret Tryz.func97 rfl (res_tmp rfl res_nil) rfl

def sky_ratio_down_2 (F : Nat) : Nat → Int → Int → S_sky_ratio → Option (Int)
  | 0, _, _, _ => none
  | N + 1, v5, v6, c22 =>
    bif (decide (v5 < v6)) then
      bif (!(decide ((w64 (c22.top * c22.top)) < (w64 ((w64 ((w64 (Int.fdiv (IntKind.wrap .u64 (w64 (v5 + v6))) (2 ^ (min 1 (IntKind.bits .u64))))) * (w64 (Int.fdiv (IntKind.wrap .u64 (w64 (v5 + v6))) (2 ^ (min 1 (IntKind.bits .u64))))))) * c22.under))))) then
        (sky_ratio_down_2 F N) (w64 ((w64 (Int.fdiv (IntKind.wrap .u64 (w64 (v5 + v6))) (2 ^ (min 1 (IntKind.bits .u64))))) + (1 : Int))) v6 c22
      else
        (sky_ratio_down_2 F N) v5 (w64 (Int.fdiv (IntKind.wrap .u64 (w64 (v5 + v6))) (2 ^ (min 1 (IntKind.bits .u64))))) c22
    else
      some (w64 (v5 - (1 : Int)))

theorem sky_ratio_down_2_ok (F : Nat) : ∀ (N : Nat), ∀ (v5 v6 : Int) (c22 : S_sky_ratio) (b22 : Pos) (Fr : Rd) (M : Mem) (r : Int) (hH : Has Fr M [.obj b22 (.row 96 .whole [(.int .i64 c22.top), (.int .i64 c22.under)])]), sky_ratio_down_2 F N v5 v6 c22 = some r → Run Tryz.prog ⟨⟨133, [], none⟩, [.mk ⟨97, [], none⟩ 20 (treeOf []) [itemC Tryz.prog 97 [1, 1, 0] 4, codeC Tryz.prog 97 [1, 1, 1]]]⟩ 26 (sky_ratio_down_post r) [(1, (.fn (.func 134) [] [(.ptr b22 0)])), (5, (.int .i64 v5)), (6, (.int .i64 v6))] [codeC Tryz.prog 133 [1, 1, 0, 0, 0], loopC Tryz.prog 133 [1, 1, 0, 0, 0], .inBlock 0, codeC Tryz.prog 133 [1, 1, 1]] M := by
  intro N
  induction N with
  | zero =>
    intro v5 v6 c22 b22 Fr M r hH h
    simp [sky_ratio_down_2] at h
  | succ N ih =>
    intro v5 v6 c22 b22 Fr M r hH h
    rw [sky_ratio_down_2] at h
    refine Run.seq (Run.seq (Run.region ?_))
    refine Run.opG wantS_none (ex_move rfl) rfl ?_
    refine Run.opG wantS_none (ex_move rfl) rfl ?_
    refine Run.opG wantS_none (ex_lss rfl rfl) rfl ?_
    refine Run.opsEnd ?_
    rcases btf ((decide (v5 < v6))) with hc31 | hc31
    · have h := bif_t hc31 h
      refine Run.condT' rfl hc31 ?_
      refine Run.skip (Run.block (Run.seq (Run.region ?_)))
      refine Run.opG wantS_none (ex_move rfl) rfl ?_
      refine Run.opG wantS_none (ex_move rfl) rfl ?_
      refine Run.opG wantS_none (ex_add rfl rfl) rfl ?_
      refine Run.opG wantS_none (ex_conv rfl uvk3_202 cvk3_202) rfl ?_
      refine Run.opG wantS_none (ex_shr (j := 1) rfl rfl) rfl ?_
      refine Run.opG wantS_none (ex_conv rfl uvk202_3 cvk202_3) rfl ?_
      refine Run.opG wantS_none (ex_assign rfl) rfl ?_
      refine Run.opsEnd (Run.seq (Run.region ?_))
      refine Run.opG wantS_none (ex_move rfl) rfl ?_
      refine Run.opG wantS_none (ex_move rfl) rfl ?_
      refine Run.enter wantS_none (ex_closure rfl rfl mkk134 cal134) Tryz.func134 rfl rfl ?_
      refine Run.seq (Run.region ?_)
      refine Run.opG wantS_none (ex_assign rfl) rfl ?_
      refine Run.opsEnd (Run.seq (Run.region ?_))
      refine Run.opG wantS_none (ex_move rfl) rfl ?_
      refine Run.opG wantS_none (ex_move rfl) rfl ?_
      refine Run.opG wantS_none (ex_mul rfl rfl) rfl ?_
      refine Run.opG wantS_none (ex_fieldAddr rfl off96_1) rfl ?_
      refine Run.opG wantS_none (ex_load1 rfl (hH.cells (i := 0) rfl 1 rfl) rdLe_rfl agg3) rfl ?_
      refine Run.opG wantS_none (ex_mul rfl rfl) rfl ?_
      refine Run.opG wantS_none (ex_fieldAddr rfl off96_0) rfl ?_
      refine Run.opG wantS_none (ex_load1 rfl (hH.cells (i := 0) rfl 0 rfl) rdLe_rfl agg3) rfl ?_
      refine Run.opG wantS_none (ex_fieldAddr rfl off96_0) rfl ?_
      refine Run.opG wantS_none (ex_load1 rfl (hH.cells (i := 0) rfl 0 rfl) rdLe_rfl agg3) rfl ?_
      refine Run.opG wantS_none (ex_mul rfl rfl) rfl ?_
      refine Run.opG wantS_none (ex_gtr rfl rfl) rfl ?_
      refine Run.opG wantS_none (ex_assign rfl) rfl ?_
      refine Run.opsEnd ?_
      refine Run.retTo Tryz.func134 rfl (res_tmp rfl res_nil) rfl ?_
      refine Run.opG wantS_none (ex_not rfl) rfl ?_
      refine Run.opsEnd ?_
      rcases btf ((!(decide ((w64 (c22.top * c22.top)) < (w64 ((w64 ((w64 (Int.fdiv (IntKind.wrap .u64 (w64 (v5 + v6))) (2 ^ (min 1 (IntKind.bits .u64))))) * (w64 (Int.fdiv (IntKind.wrap .u64 (w64 (v5 + v6))) (2 ^ (min 1 (IntKind.bits .u64))))))) * c22.under)))))) with hc32 | hc32
      · have h := bif_t hc32 h
        refine Run.condT' rfl hc32 ?_
        refine Run.region ?_
        refine Run.opG wantS_none (ex_move rfl) rfl ?_
        refine Run.opG wantS_none (ex_add rfl rfl) rfl ?_
        refine Run.opG wantS_none (ex_assign rfl) rfl ?_
        refine Run.opsEnd (Run.inBlock (Run.inLoop ?_))
        exact Run.low (.cons (fle_pick [] rfl) .nil) (Run.pick [1, 5, 6] (ih (w64 ((w64 (Int.fdiv (IntKind.wrap .u64 (w64 (v5 + v6))) (2 ^ (min 1 (IntKind.bits .u64))))) + (1 : Int))) v6 c22 b22 _ _ _ hH h))
      · have h := bif_f hc32 h
        refine Run.condF' rfl hc32 ?_
        refine Run.region ?_
        refine Run.opG wantS_none (ex_move rfl) rfl ?_
        refine Run.opG wantS_none (ex_assign rfl) rfl ?_
        refine Run.opsEnd (Run.inBlock (Run.inLoop ?_))
        exact Run.low (.cons (fle_pick [] rfl) .nil) (Run.pick [1, 5, 6] (ih v5 (w64 (Int.fdiv (IntKind.wrap .u64 (w64 (v5 + v6))) (2 ^ (min 1 (IntKind.bits .u64))))) c22 b22 _ _ _ hH h))
    · have h := bif_f hc31 h
      refine Run.condF' rfl hc31 ?_
      refine Run.exit rfl (Run.seq (Run.region ?_))
      refine Run.opG wantS_none (ex_move rfl) rfl ?_
      refine Run.opG wantS_none (ex_assign rfl) rfl ?_
      refine Run.opsEnd ?_
      refine Run.retTo Tryz.func133 rfl (res_tmp rfl res_nil) rfl ?_
      refine Run.opG wantS_none (ex_sub rfl rfl) rfl ?_
      refine Run.opG wantS_none (ex_assign rfl) rfl ?_
      refine Run.opsEnd ?_
      cases h
      exact Run.ret Tryz.func97 rfl (res_tmp rfl res_nil) rfl

def sky_ratio_down (F : Nat) (a0 : S_sky_ratio) : Option (Int) :=
  bif (decide (a0.top < (0 : Int))) then
    bif (decide ((w64 (-a0.top)) < (0 : Int))) then
      none
    else
      sky_ratio_down_1 F F (0 : Int) (w64 (-a0.top)) (S_sky_ratio.mk (w64 (-a0.top)) a0.under)
  else
    sky_ratio_down_2 F F (0 : Int) (w64 (a0.top + (1 : Int))) a0

theorem sky_ratio_down_ok (F : Nat) (a0 : S_sky_ratio) (r : Int) (M : Mem) (h : sky_ratio_down F a0 = some r) : CallsM Tryz.prog 97 [(.agg [(.int .i64 a0.top), (.int .i64 a0.under)])] M (fun s M' => s = (.int .i64 r) ∧ M' = M) := by
  refine CallsM.plain Tryz.func97 rfl rfl rfl (show Run _ _ _ (sky_ratio_down_post r) _ _ _ from ?_)
  rw [sky_ratio_down] at h
  have hH := Has.nil (frozen M)
  refine Run.seq (Run.region ?_)
  refine Run.opX wantS_none rfl (ExG.box rfl rfl hH) ?_
  rintro _ M23 ⟨b22, rfl, hH23⟩
  refine Run.opG wantS_none (ex_assign rfl) rfl ?_
  refine Run.opsEnd (Run.seq (Run.seq (Run.region ?_)))
  refine Run.opG wantS_none (ex_fieldAddr rfl off96_0) rfl ?_
  refine Run.opG wantS_none (ex_load1 rfl (hH23.cells (i := 0) rfl 0 rfl) rdLe_rfl agg3) rfl ?_
  refine Run.opG wantS_none (ex_lss rfl rfl) rfl ?_
  refine Run.opsEnd ?_
  rcases btf ((decide (a0.top < (0 : Int)))) with hc24 | hc24
  · have h := bif_t hc24 h
    refine Run.condT' rfl hc24 ?_
    refine Run.seq (Run.region ?_)
    refine Run.opG wantS_none (ex_fieldAddr rfl off96_0) rfl ?_
    refine Run.opG wantS_none (ex_load1 rfl (hH23.cells (i := 0) rfl 0 rfl) rdLe_rfl agg3) rfl ?_
    refine Run.opG wantS_none (ex_neg rfl) rfl ?_
    refine Run.opG wantS_none (ex_fieldAddr rfl off96_1) rfl ?_
    refine Run.opG wantS_none (ex_load1 rfl (hH23.cells (i := 0) rfl 1 rfl) rdLe_rfl agg3) rfl ?_
    refine Run.opG wantS_none (ex_build (r := [(.int .i64 (w64 (-a0.top))), (.int .i64 a0.under)]) rfl zer96 pls96 rfl) rfl ?_
    refine Run.enter wantS_none (ex_call rfl mkk113 cal113) Tryz.func113 rfl rfl ?_
    refine Run.seq (Run.region ?_)
    refine Run.opX wantS_none rfl (ExG.box rfl rfl hH23) ?_
    rintro _ M27 ⟨b26, rfl, hH27⟩
    refine Run.opG wantS_none (ex_assign rfl) rfl ?_
    refine Run.opsEnd (Run.seq (Run.seq (Run.region ?_)))
    refine Run.opG wantS_none (ex_fieldAddr rfl off96_0) rfl ?_
    refine Run.opG wantS_none (ex_load1 rfl (hH27.cells (i := 0) rfl 0 rfl) rdLe_rfl agg3) rfl ?_
    refine Run.opG wantS_none (ex_lss rfl rfl) rfl ?_
    refine Run.opsEnd ?_
    rcases btf ((decide ((w64 (-a0.top)) < (0 : Int)))) with hc28 | hc28
    · have h := bif_t hc28 h
      refine Run.condT' rfl hc28 ?_
      refine Run.seq (Run.region ?_)
      refine Run.opG wantS_none (ex_fieldAddr rfl off96_0) rfl ?_
      refine Run.opG wantS_none (ex_load1 rfl (hH27.cells (i := 0) rfl 0 rfl) rdLe_rfl agg3) rfl ?_
      refine Run.opG wantS_none (ex_neg rfl) rfl ?_
      refine Run.opG wantS_none (ex_fieldAddr rfl off96_1) rfl ?_
      refine Run.opG wantS_none (ex_load1 rfl (hH27.cells (i := 0) rfl 1 rfl) rdLe_rfl agg3) rfl ?_
      refine Run.opG wantS_none (ex_build (r := [(.int .i64 (w64 (-(w64 (-a0.top))))), (.int .i64 a0.under)]) rfl zer96 pls96 rfl) rfl ?_
      cases h
    · have h := bif_f hc28 h
      refine Run.condF' rfl hc28 ?_
      refine Run.skip (Run.seq (Run.region ?_))
      refine Run.opG wantS_none (ex_fieldAddr rfl off96_0) rfl ?_
      refine Run.opG wantS_none (ex_load1 rfl (hH27.cells (i := 0) rfl 0 rfl) rdLe_rfl agg3) rfl ?_
      refine Run.opG wantS_none (ex_makeFunc rfl rfl) rfl ?_
      refine Run.enter wantS_none (ex_call rfl mkk133 cal133) Tryz.func133 rfl rfl ?_
      refine Run.seq (Run.region ?_)
      refine Run.opG wantS_none (ex_assign rfl) rfl ?_
      refine Run.opsEnd (Run.seq (Run.region ?_))
      refine Run.opG wantS_none (ex_move rfl) rfl ?_
      refine Run.opG wantS_none (ex_assign rfl) rfl ?_
      refine Run.opG wantS_none (ex_assign rfl) rfl ?_
      refine Run.opsEnd (Run.seq (Run.block (Run.loop ?_)))
      exact Run.low (.cons (fle_pick [] rfl) (.cons (fle_pick [] rfl) .nil)) (Run.pick [1, 5, 6] (sky_ratio_down_1_ok F F (0 : Int) (w64 (-a0.top)) (S_sky_ratio.mk (w64 (-a0.top)) a0.under) b26 _ _ _ (hH27.pick [0] rfl rfl) h))
  · have h := bif_f hc24 h
    refine Run.condF' rfl hc24 ?_
    refine Run.skip (Run.seq (Run.region ?_))
    refine Run.opG wantS_none (ex_fieldAddr rfl off96_0) rfl ?_
    refine Run.opG wantS_none (ex_load1 rfl (hH23.cells (i := 0) rfl 0 rfl) rdLe_rfl agg3) rfl ?_
    refine Run.opG wantS_none (ex_add rfl rfl) rfl ?_
    refine Run.opG wantS_none (ex_makeFunc rfl rfl) rfl ?_
    refine Run.enter wantS_none (ex_call rfl mkk133 cal133) Tryz.func133 rfl rfl ?_
    refine Run.seq (Run.region ?_)
    refine Run.opG wantS_none (ex_assign rfl) rfl ?_
    refine Run.opsEnd (Run.seq (Run.region ?_))
    refine Run.opG wantS_none (ex_move rfl) rfl ?_
    refine Run.opG wantS_none (ex_assign rfl) rfl ?_
    refine Run.opG wantS_none (ex_assign rfl) rfl ?_
    refine Run.opsEnd (Run.seq (Run.block (Run.loop ?_)))
    exact Run.low (.cons (fle_pick [] rfl) .nil) (Run.pick [1, 5, 6] (sky_ratio_down_2_ok F F (0 : Int) (w64 (a0.top + (1 : Int))) a0 b22 _ _ _ hH23 h))

abbrev sky_ratio_up_post (r : Int) : SV → Mem → Prop := fun s _ => s = (.int .i64 r)

def sky_ratio_up_1 (F : Nat) : Nat → Int → Int → S_sky_ratio → Option (Int)
  | 0, _, _, _ => none
  | N + 1, v5, v6, c22 =>
    bif (decide (v5 < v6)) then
      bif (!(decide ((w64 (c22.top * c22.top)) ≤ (w64 ((w64 ((w64 (Int.fdiv (IntKind.wrap .u64 (w64 (v5 + v6))) (2 ^ (min 1 (IntKind.bits .u64))))) * (w64 (Int.fdiv (IntKind.wrap .u64 (w64 (v5 + v6))) (2 ^ (min 1 (IntKind.bits .u64))))))) * c22.under))))) then
        (sky_ratio_up_1 F N) (w64 ((w64 (Int.fdiv (IntKind.wrap .u64 (w64 (v5 + v6))) (2 ^ (min 1 (IntKind.bits .u64))))) + (1 : Int))) v6 c22
      else
        (sky_ratio_up_1 F N) v5 (w64 (Int.fdiv (IntKind.wrap .u64 (w64 (v5 + v6))) (2 ^ (min 1 (IntKind.bits .u64))))) c22
    else
      some v5

theorem sky_ratio_up_1_ok (F : Nat) : ∀ (N : Nat), ∀ (v5 v6 : Int) (c22 : S_sky_ratio) (b22 : Pos) (Fr : Rd) (M : Mem) (r : Int) (hH : Has Fr M [.obj b22 (.row 96 .whole [(.int .i64 c22.top), (.int .i64 c22.under)])]), sky_ratio_up_1 F N v5 v6 c22 = some r → Run Tryz.prog ⟨⟨133, [], none⟩, [.mk ⟨113, [], none⟩ 18 (treeOf []) [itemC Tryz.prog 113 [1, 1, 0] 3, codeC Tryz.prog 113 [1, 1, 1]]]⟩ 26 (sky_ratio_up_post r) [(1, (.fn (.func 155) [] [(.ptr b22 0)])), (5, (.int .i64 v5)), (6, (.int .i64 v6))] [codeC Tryz.prog 133 [1, 1, 0, 0, 0], loopC Tryz.prog 133 [1, 1, 0, 0, 0], .inBlock 0, codeC Tryz.prog 133 [1, 1, 1]] M := by
  intro N
  induction N with
  | zero =>
    intro v5 v6 c22 b22 Fr M r hH h
    simp [sky_ratio_up_1] at h
  | succ N ih =>
    intro v5 v6 c22 b22 Fr M r hH h
    rw [sky_ratio_up_1] at h
    refine Run.seq (Run.seq (Run.region ?_))
    refine Run.opG wantS_none (ex_move rfl) rfl ?_
    refine Run.opG wantS_none (ex_move rfl) rfl ?_
    refine Run.opG wantS_none (ex_lss rfl rfl) rfl ?_
    refine Run.opsEnd ?_
    rcases btf ((decide (v5 < v6))) with hc28 | hc28
    · have h := bif_t hc28 h
      refine Run.condT' rfl hc28 ?_
      refine Run.skip (Run.block (Run.seq (Run.region ?_)))
      refine Run.opG wantS_none (ex_move rfl) rfl ?_
      refine Run.opG wantS_none (ex_move rfl) rfl ?_
      refine Run.opG wantS_none (ex_add rfl rfl) rfl ?_
      refine Run.opG wantS_none (ex_conv rfl uvk3_202 cvk3_202) rfl ?_
      refine Run.opG wantS_none (ex_shr (j := 1) rfl rfl) rfl ?_
      refine Run.opG wantS_none (ex_conv rfl uvk202_3 cvk202_3) rfl ?_
      refine Run.opG wantS_none (ex_assign rfl) rfl ?_
      refine Run.opsEnd (Run.seq (Run.region ?_))
      refine Run.opG wantS_none (ex_move rfl) rfl ?_
      refine Run.opG wantS_none (ex_move rfl) rfl ?_
      refine Run.enter wantS_none (ex_closure rfl rfl mkk155 cal155) Tryz.func155 rfl rfl ?_
      refine Run.seq (Run.region ?_)
      refine Run.opG wantS_none (ex_assign rfl) rfl ?_
      refine Run.opsEnd (Run.seq (Run.region ?_))
      refine Run.opG wantS_none (ex_move rfl) rfl ?_
      refine Run.opG wantS_none (ex_move rfl) rfl ?_
      refine Run.opG wantS_none (ex_mul rfl rfl) rfl ?_
      refine Run.opG wantS_none (ex_fieldAddr rfl off96_1) rfl ?_
      refine Run.opG wantS_none (ex_load1 rfl (hH.cells (i := 0) rfl 1 rfl) rdLe_rfl agg3) rfl ?_
      refine Run.opG wantS_none (ex_mul rfl rfl) rfl ?_
      refine Run.opG wantS_none (ex_fieldAddr rfl off96_0) rfl ?_
      refine Run.opG wantS_none (ex_load1 rfl (hH.cells (i := 0) rfl 0 rfl) rdLe_rfl agg3) rfl ?_
      refine Run.opG wantS_none (ex_fieldAddr rfl off96_0) rfl ?_
      refine Run.opG wantS_none (ex_load1 rfl (hH.cells (i := 0) rfl 0 rfl) rdLe_rfl agg3) rfl ?_
      refine Run.opG wantS_none (ex_mul rfl rfl) rfl ?_
      refine Run.opG wantS_none (ex_geq rfl rfl) rfl ?_
      refine Run.opG wantS_none (ex_assign rfl) rfl ?_
      refine Run.opsEnd ?_
      refine Run.retTo Tryz.func155 rfl (res_tmp rfl res_nil) rfl ?_
      refine Run.opG wantS_none (ex_not rfl) rfl ?_
      refine Run.opsEnd ?_
      rcases btf ((!(decide ((w64 (c22.top * c22.top)) ≤ (w64 ((w64 ((w64 (Int.fdiv (IntKind.wrap .u64 (w64 (v5 + v6))) (2 ^ (min 1 (IntKind.bits .u64))))) * (w64 (Int.fdiv (IntKind.wrap .u64 (w64 (v5 + v6))) (2 ^ (min 1 (IntKind.bits .u64))))))) * c22.under)))))) with hc29 | hc29
      · have h := bif_t hc29 h
        refine Run.condT' rfl hc29 ?_
        refine Run.region ?_
        refine Run.opG wantS_none (ex_move rfl) rfl ?_
        refine Run.opG wantS_none (ex_add rfl rfl) rfl ?_
        refine Run.opG wantS_none (ex_assign rfl) rfl ?_
        refine Run.opsEnd (Run.inBlock (Run.inLoop ?_))
        exact Run.low (.cons (fle_pick [] rfl) .nil) (Run.pick [1, 5, 6] (ih (w64 ((w64 (Int.fdiv (IntKind.wrap .u64 (w64 (v5 + v6))) (2 ^ (min 1 (IntKind.bits .u64))))) + (1 : Int))) v6 c22 b22 _ _ _ hH h))
      · have h := bif_f hc29 h
        refine Run.condF' rfl hc29 ?_
        refine Run.region ?_
        refine Run.opG wantS_none (ex_move rfl) rfl ?_
        refine Run.opG wantS_none (ex_assign rfl) rfl ?_
        refine Run.opsEnd (Run.inBlock (Run.inLoop ?_))
        exact Run.low (.cons (fle_pick [] rfl) .nil) (Run.pick [1, 5, 6] (ih v5 (w64 (Int.fdiv (IntKind.wrap .u64 (w64 (v5 + v6))) (2 ^ (min 1 (IntKind.bits .u64))))) c22 b22 _ _ _ hH h))
    · have h := bif_f hc28 h
      refine Run.condF' rfl hc28 ?_
      refine Run.exit rfl (Run.seq (Run.region ?_))
      refine Run.opG wantS_none (ex_move rfl) rfl ?_
      refine Run.opG wantS_none (ex_assign rfl) rfl ?_
      refine Run.opsEnd ?_
      refine Run.retTo Tryz.func133 rfl (res_tmp rfl res_nil) rfl ?_
      refine Run.opG wantS_none (ex_assign rfl) rfl ?_
      refine Run.opsEnd ?_
      cases h
      exact Run.ret Tryz.func113 rfl (res_tmp rfl res_nil) rfl

def sky_ratio_up (F : Nat) (a0 : S_sky_ratio) : Option (Int) :=
  bif (decide (a0.top < (0 : Int))) then
    bnd (sky_ratio_down F (S_sky_ratio.mk (w64 (-a0.top)) a0.under)) fun r26 =>
    some (w64 (-r26))
  else
    sky_ratio_up_1 F F (0 : Int) a0.top a0

theorem sky_ratio_up_ok (F : Nat) (a0 : S_sky_ratio) (r : Int) (M : Mem) (h : sky_ratio_up F a0 = some r) : CallsM Tryz.prog 113 [(.agg [(.int .i64 a0.top), (.int .i64 a0.under)])] M (fun s M' => s = (.int .i64 r) ∧ M' = M) := by
  refine CallsM.plain Tryz.func113 rfl rfl rfl (show Run _ _ _ (sky_ratio_up_post r) _ _ _ from ?_)
  rw [sky_ratio_up] at h
  have hH := Has.nil (frozen M)
  refine Run.seq (Run.region ?_)
  refine Run.opX wantS_none rfl (ExG.box rfl rfl hH) ?_
  rintro _ M23 ⟨b22, rfl, hH23⟩
  refine Run.opG wantS_none (ex_assign rfl) rfl ?_
  refine Run.opsEnd (Run.seq (Run.seq (Run.region ?_)))
  refine Run.opG wantS_none (ex_fieldAddr rfl off96_0) rfl ?_
  refine Run.opG wantS_none (ex_load1 rfl (hH23.cells (i := 0) rfl 0 rfl) rdLe_rfl agg3) rfl ?_
  refine Run.opG wantS_none (ex_lss rfl rfl) rfl ?_
  refine Run.opsEnd ?_
  rcases btf ((decide (a0.top < (0 : Int)))) with hc24 | hc24
  · have h := bif_t hc24 h
    refine Run.condT' rfl hc24 ?_
    refine Run.seq (Run.region ?_)
    refine Run.opG wantS_none (ex_fieldAddr rfl off96_0) rfl ?_
    refine Run.opG wantS_none (ex_load1 rfl (hH23.cells (i := 0) rfl 0 rfl) rdLe_rfl agg3) rfl ?_
    refine Run.opG wantS_none (ex_neg rfl) rfl ?_
    refine Run.opG wantS_none (ex_fieldAddr rfl off96_1) rfl ?_
    refine Run.opG wantS_none (ex_load1 rfl (hH23.cells (i := 0) rfl 1 rfl) rdLe_rfl agg3) rfl ?_
    refine Run.opG wantS_none (ex_build (r := [(.int .i64 (w64 (-a0.top))), (.int .i64 a0.under)]) rfl zer96 pls96 rfl) rfl ?_
    obtain ⟨r26, hr26, h⟩ := bnd_some h
    refine Run.callP wantS_none (ex_call rfl mkk97 cal97) rfl (sky_ratio_down_ok F (S_sky_ratio.mk (w64 (-a0.top)) a0.under) _ _ hr26) ?_
    refine Run.opG wantS_none (ex_neg rfl) rfl ?_
    refine Run.opG wantS_none (ex_assign rfl) rfl ?_
    refine Run.opsEnd ?_
    cases h
    exact Run.ret Tryz.func113 rfl (res_tmp rfl res_nil) rfl
  · have h := bif_f hc24 h
    refine Run.condF' rfl hc24 ?_
    refine Run.skip (Run.seq (Run.region ?_))
    refine Run.opG wantS_none (ex_fieldAddr rfl off96_0) rfl ?_
    refine Run.opG wantS_none (ex_load1 rfl (hH23.cells (i := 0) rfl 0 rfl) rdLe_rfl agg3) rfl ?_
    refine Run.opG wantS_none (ex_makeFunc rfl rfl) rfl ?_
    refine Run.enter wantS_none (ex_call rfl mkk133 cal133) Tryz.func133 rfl rfl ?_
    refine Run.seq (Run.region ?_)
    refine Run.opG wantS_none (ex_assign rfl) rfl ?_
    refine Run.opsEnd (Run.seq (Run.region ?_))
    refine Run.opG wantS_none (ex_move rfl) rfl ?_
    refine Run.opG wantS_none (ex_assign rfl) rfl ?_
    refine Run.opG wantS_none (ex_assign rfl) rfl ?_
    refine Run.opsEnd (Run.seq (Run.block (Run.loop ?_)))
    exact Run.low (.cons (fle_pick [] rfl) .nil) (Run.pick [1, 5, 6] (sky_ratio_up_1_ok F F (0 : Int) a0.top a0 b22 _ _ _ hH23 h))

abbrev sky_ratio_isAbout_post (r : Bool) : SV → Mem → Prop := fun s _ => s = (.bool r)

def sky_ratio_isAbout_1 (F : Nat) (v20 : Bool) : Option (Bool) :=
  some v20

theorem sky_ratio_isAbout_1_ok (F : Nat) : ∀ (v20 : Bool) (Fr : Rd) (M : Mem) (r : Bool) (hH : Has Fr M []), sky_ratio_isAbout_1 F v20 = some r → Run Tryz.prog ⟨⟨66, [], none⟩, []⟩ 21 (sky_ratio_isAbout_post r) [(20, (.bool v20))] [itemC Tryz.prog 66 [1, 0] 14, codeC Tryz.prog 66 [1, 1]] M := by
  intro v20 Fr M r hH h
  rw [sky_ratio_isAbout_1] at h
  refine Run.opG wantS_none (ex_assign rfl) rfl ?_
  refine Run.opsEnd ?_
  cases h
  exact Run.ret Tryz.func66 rfl (res_tmp rfl res_nil) rfl

def sky_ratio_isAbout (F : Nat) (a0 : S_sky_ratio) (a1 a2 : Int) : Option (Bool) :=
  bnd (sky_ratio_down F a0) fun r25 =>
  bif (decide ((w64 (a1 - a2)) ≤ r25)) then
    bnd (sky_ratio_up F a0) fun r29 =>
    sky_ratio_isAbout_1 F (decide (r29 ≤ (w64 (a1 + a2))))
  else
    sky_ratio_isAbout_1 F false

theorem sky_ratio_isAbout_ok (F : Nat) (a0 : S_sky_ratio) (a1 a2 : Int) (r : Bool) (M : Mem) (h : sky_ratio_isAbout F a0 a1 a2 = some r) : CallsM Tryz.prog 66 [(.agg [(.int .i64 a0.top), (.int .i64 a0.under)]), (.int .i64 a1), (.int .i64 a2)] M (fun s M' => s = (.bool r) ∧ M' = M) := by
  refine CallsM.plain Tryz.func66 rfl rfl rfl (show Run _ _ _ (sky_ratio_isAbout_post r) _ _ _ from ?_)
  rw [sky_ratio_isAbout] at h
  have hH := Has.nil (frozen M)
  refine Run.seq (Run.region ?_)
  refine Run.opX wantS_none rfl (ExG.box rfl rfl hH) ?_
  rintro _ M23 ⟨b22, rfl, hH23⟩
  refine Run.opG wantS_none (ex_assign rfl) rfl ?_
  refine Run.opsEnd (Run.seq (Run.region ?_))
  refine Run.opG wantS_none (ex_move rfl) rfl ?_
  refine Run.opG wantS_none (ex_move rfl) rfl ?_
  refine Run.opG wantS_none (ex_sub rfl rfl) rfl ?_
  refine Run.opG wantS_none (ex_loadA rfl (hH23.cells (i := 0) rfl 0 rfl) rdLe_rfl agg96 rfl rfl rfl) rfl ?_
  obtain ⟨r25, hr25, h⟩ := bnd_some h
  refine Run.callP wantS_none (ex_call rfl mkk97 cal97) rfl (sky_ratio_down_ok F a0 _ _ hr25) ?_
  refine Run.opG wantS_none (ex_leq rfl rfl) rfl ?_
  refine Run.opG wantS_none (ex_move rfl) rfl ?_
  rcases btf ((decide ((w64 (a1 - a2)) ≤ r25))) with hc27 | hc27
  · have h := bif_t hc27 h
    refine Run.opG (wantS_yes' rfl rfl hc27) (ex_loadA rfl (hH23.cells (i := 0) rfl 0 rfl) rdLe_rfl agg96 rfl rfl rfl) rfl ?_
    obtain ⟨r29, hr29, h⟩ := bnd_some h
    refine Run.callP (wantS_yes' rfl rfl hc27) (ex_call rfl mkk113 cal113) rfl (sky_ratio_up_ok F a0 _ _ hr29) ?_
    refine Run.opG (wantS_yes' rfl rfl hc27) (ex_move rfl) rfl ?_
    refine Run.opG (wantS_yes' rfl rfl hc27) (ex_move rfl) rfl ?_
    refine Run.opG (wantS_yes' rfl rfl hc27) (ex_add rfl rfl) rfl ?_
    refine Run.opG (wantS_yes' rfl rfl hc27) (ex_leq rfl rfl) rfl ?_
    refine Run.opG wantS_none (ex_pickT' rfl hc27 rfl rfl) rfl ?_
    exact Run.pick [20] (sky_ratio_isAbout_1_ok F (decide (r29 ≤ (w64 (a1 + a2)))) _ _ _ (hH23.pick [] rfl rfl) h)
  · have h := bif_f hc27 h
    refine Run.no (wantS_not' rfl rfl hc27) rfl ?_
    refine Run.no (wantS_not' rfl rfl hc27) rfl ?_
    refine Run.no (wantS_not' rfl rfl hc27) rfl ?_
    refine Run.no (wantS_not' rfl rfl hc27) rfl ?_
    refine Run.no (wantS_not' rfl rfl hc27) rfl ?_
    refine Run.no (wantS_not' rfl rfl hc27) rfl ?_
    refine Run.opG wantS_none (ex_pickF' rfl hc27 rfl rfl) rfl ?_
    exact Run.pick [20] (sky_ratio_isAbout_1_ok F false _ _ _ (hH23.pick [] rfl rfl) h)

theorem mkk66 : makeK Tryz.prog 66 = none := by kernel_rfl
theorem cal66 : callable Tryz.prog 66 = true := by kernel_rfl
theorem agg36 : aggSize Tryz.prog 36 = some none := by kernel_rfl
theorem elt36 : sliceElt Tryz.prog 36 = some (⟨1, 8, [(.int .i64 0)], 3⟩ : Elt) := by kernel_rfl
theorem appt36_36 : appT Tryz.prog 36 36 = some (⟨1, 8, [(.int .i64 0)], 3⟩ : Elt) := by kernel_rfl
theorem sz36 : szOf Tryz.prog 36 = some 1 := by kernel_rfl
theorem plan64_1_0 : planOf Tryz.prog (opsC (atC Tryz.prog 64 [1, 0])) = some [.fl 0, .fl 1, .fl 2, .fl 3, .fl 4, .fl 5, .fl 6, .fl 7, .fl 8, .fl 9, .fl 10, .fl 12, .fl 13, .an 11 [13, 12], .an 14 [], .fl 15, .sync] := by kernel_rfl
abbrev sky_isInstant_post (r : Bool) : SV → Mem → Prop := fun s _ => s = (.bool r)

def sky_isInstant (F : Nat) (a0 : Int) : Option (Bool) :=
  bnd (sky_isFrom F ((-1099511627776) : Int) a0 (1099511627776 : Int)) fun r22 =>
  some r22

theorem sky_isInstant_ok (F : Nat) (a0 : Int) (r : Bool) (M : Mem) (h : sky_isInstant F a0 = some r) : CallsM Tryz.prog 61 [(.int .i64 a0)] M (fun s M' => s = (.bool r) ∧ M' = M) := by
  refine CallsM.plain Tryz.func61 rfl rfl rfl (show Run _ _ _ (sky_isInstant_post r) _ _ _ from ?_)
  rw [sky_isInstant] at h
  have hH := Has.nil (frozen M)
  refine Run.seq (Run.region ?_)
  refine Run.opG wantS_none (ex_assign rfl) rfl ?_
  refine Run.opsEnd (Run.seq (Run.region ?_))
  refine Run.opG wantS_none (ex_move rfl) rfl ?_
  obtain ⟨r22, hr22, h⟩ := bnd_some h
  refine Run.callP wantS_none (ex_call rfl mkk62 cal62) rfl (sky_isFrom_ok F ((-1099511627776) : Int) a0 (1099511627776 : Int) _ _ hr22) ?_
  refine Run.opG wantS_none (ex_assign rfl) rfl ?_
  refine Run.opsEnd ?_
  cases h
  exact Run.ret Tryz.func61 rfl (res_tmp rfl res_nil) rfl

theorem mkk61 : makeK Tryz.prog 61 = none := by kernel_rfl
theorem cal61 : callable Tryz.prog 61 = true := by kernel_rfl
abbrev sky_Ring_post (r : (List Int) × Int) : SV → Mem → Prop := fun s Me => ∃ q1, s = (.tuple [q1, (.int .i64 r.2)]) ∧ Has (fun _ => none) Me [.vec 3 1 r.1.length q1 (r.1.flatMap enc3)]

def sky_Ring_3 (F : Nat) : Nat → Int → Int → Int → Int → Int → Int → Int → (List S_sky_site) → (List Int) → Option ((List Int) × Int)
  | 0, _, _, _, _, _, _, _, _, _ => none
  | N + 1, v5, v6, c22_0, c25_0, c28_0, c31_0, c63_0, l50, l70 =>
    bif (decide (v6 < v5)) then
      bnd (sky_grid_direction F c63_0 v6) fun r74 =>
      bnd (idx l50 c22_0) fun x84 =>
      bnd (idx l50 c25_0) fun x85 =>
      bnd (sky_place_difference F x84.place x85.place r74) fun r86 =>
      bnd (sky_ratio_isAbout F r86 c28_0 c31_0) fun r88 =>
      bif r88 then
        bnd (apd 8 l70 ([v6] : List Int)) fun l96 =>
        (sky_Ring_3 F N) v5 (w64 (v6 + (1 : Int))) c22_0 c25_0 c28_0 c31_0 c63_0 l50 l96
      else
        (sky_Ring_3 F N) v5 (w64 (v6 + (1 : Int))) c22_0 c25_0 c28_0 c31_0 c63_0 l50 l70
    else
      some (l70, (0 : Int))

theorem sky_Ring_3_ok (F : Nat) : ∀ (N : Nat), ∀ (v5 v6 c22_0 c25_0 c28_0 c31_0 c63_0 : Int) (l50 : (List S_sky_site)) (l70 : (List Int)) (b65 b57 b53 : Pos) (s50 : SV) (b22 b25 b28 b31 b60 : Pos) (s70 : SV) (b63 b66 : Pos) (Fr : Rd) (M : Mem) (r : (List Int) × Int) (hH : Has Fr M [.obj b65 (.loop ⟨.ready, none, 67, 20, treeOf [(3, (.ptr b57 0)), (4, .nils), (5, (.ptr b60 0)), (9, (.fn (.func 156) [] [(.ptr b63 0)]))], [10, 11], (atC Tryz.prog 67 [1, 1, 0, 1, 0, 0]), (atC Tryz.prog 67 [1, 1, 0, 1, 0, 1]), b66⟩), .obj b57 (.row 89 .whole [(.fn (.func 64) [] [(.ptr b53 0), (.ptr b22 0), (.ptr b25 0), (.ptr b28 0), (.ptr b31 0)])]), .obj b53 (.row 93 .whole [s50]), .vec 99 9 l50.length s50 (l50.flatMap enc99), .obj b22 (.row 3 .whole [(.int .i64 c22_0)]), .obj b25 (.row 3 .whole [(.int .i64 c25_0)]), .obj b28 (.row 3 .whole [(.int .i64 c28_0)]), .obj b31 (.row 3 .whole [(.int .i64 c31_0)]), .obj b60 (.row 36 .whole [s70]), .vec 3 1 l70.length s70 (l70.flatMap enc3), .obj b63 (.row 81 .whole [(.int .i64 c63_0)]), .obj b66 .defd]), sky_Ring_3 F N v5 v6 c22_0 c25_0 c28_0 c31_0 c63_0 l50 l70 = some r → Run Tryz.prog ⟨⟨156, [], none⟩, [.mk ⟨67, [b66], none⟩ 20 (treeOf [(5, (.ptr b60 0))]) [.inRange b65, .inBlock 0, codeC Tryz.prog 67 [1, 1, 1]], .mk ⟨19, [], none⟩ 47 (treeOf []) [itemC Tryz.prog 19 [1, 1, 1, 1, 0] 2, codeC Tryz.prog 19 [1, 1, 1, 1, 1]]]⟩ 17 (sky_Ring_post r) [(0, (.yield b65)), (1, (.ptr b63 0)), (5, (.int .i64 v5)), (6, (.int .i64 v6))] [codeC Tryz.prog 156 [1, 0, 0], loopC Tryz.prog 156 [1, 0, 0], .inBlock 0] M := by
  intro N
  induction N with
  | zero =>
    intro v5 v6 c22_0 c25_0 c28_0 c31_0 c63_0 l50 l70 b65 b57 b53 s50 b22 b25 b28 b31 b60 s70 b63 b66 Fr M r hH h
    simp [sky_Ring_3] at h
  | succ N ih =>
    intro v5 v6 c22_0 c25_0 c28_0 c31_0 c63_0 l50 l70 b65 b57 b53 s50 b22 b25 b28 b31 b60 s70 b63 b66 Fr M r hH h
    rw [sky_Ring_3] at h
    refine Run.seq (Run.region ?_)
    refine Run.opG wantS_none (ex_lss rfl rfl) rfl ?_
    refine Run.opsEnd (Run.seq ?_)
    rcases btf ((decide (v6 < v5))) with hc72 | hc72
    · have h := bif_t hc72 h
      refine Run.condT' rfl hc72 ?_
      refine Run.skip (Run.seq (Run.block (Run.seq (Run.region ?_))))
      refine Run.opG wantS_none (ex_move rfl) rfl ?_
      refine Run.opG wantS_none (ex_assign rfl) rfl ?_
      refine Run.opsEnd (Run.seq (Run.region ?_))
      refine Run.opG wantS_none (ex_move rfl) rfl ?_
      refine Run.opG wantS_none (ex_move rfl) rfl ?_
      refine Run.opG wantS_none (ex_load1 rfl (hH.cells (i := 10) rfl 0 rfl) rdLe_rfl agg81) rfl ?_
      refine Run.opG wantS_none (ex_move rfl) rfl ?_
      obtain ⟨r74, hr74, h⟩ := bnd_some h
      refine Run.callP wantS_none (ex_call rfl mkk52 cal52) rfl (sky_grid_direction_ok F c63_0 v6 _ _ hr74) ?_
      refine Run.round (e' := [(11, (.agg [(.int .i64 r74.e0), (.int .i64 r74.e1), (.int .i64 r74.e2)])), (10, (.int .i64 v6)), (3, (.ptr b57 0)), (4, .nils), (5, (.ptr b60 0)), (9, (.fn (.func 156) [] [(.ptr b63 0)]))]) wantS_none (ex_yield hH (i := 0) rfl rfl rfl rfl) (hH.loopOf (i := 0) rfl) rfl ?_
      refine Run.seq (Run.region ?_)
      refine Run.opG wantS_none (ex_assign rfl) rfl ?_
      refine Run.opsEnd (Run.region ?_)
      refine Run.opX wantS_none rfl (ExG.new (v := fun b => .ptr b 0) (ex_alloc zer85) hH) ?_
      rintro _ M78 ⟨b77, rfl, hH78⟩
      refine Run.opX wantS_none rfl (ExG.storeC (c' := [(.int .i64 r74.e0), (.int .i64 r74.e1), (.int .i64 r74.e2)]) rfl rfl rfl hH78 (i := 0) rfl sz85 rfl rfl rfl rfl rfl) ?_
      rintro _ M79 ⟨rfl, (hH79 : Has Fr M79 [.obj b77 (.row 85 .whole [(.int .i64 r74.e0), (.int .i64 r74.e1), (.int .i64 r74.e2)]), .obj b65 (.loop ⟨.ready, none, 67, 20, treeOf [(3, (.ptr b57 0)), (4, .nils), (5, (.ptr b60 0)), (9, (.fn (.func 156) [] [(.ptr b63 0)]))], [10, 11], (atC Tryz.prog 67 [1, 1, 0, 1, 0, 0]), (atC Tryz.prog 67 [1, 1, 0, 1, 0, 1]), b66⟩), .obj b57 (.row 89 .whole [(.fn (.func 64) [] [(.ptr b53 0), (.ptr b22 0), (.ptr b25 0), (.ptr b28 0), (.ptr b31 0)])]), .obj b53 (.row 93 .whole [s50]), .vec 99 9 l50.length s50 (l50.flatMap enc99), .obj b22 (.row 3 .whole [(.int .i64 c22_0)]), .obj b25 (.row 3 .whole [(.int .i64 c25_0)]), .obj b28 (.row 3 .whole [(.int .i64 c28_0)]), .obj b31 (.row 3 .whole [(.int .i64 c31_0)]), .obj b60 (.row 36 .whole [s70]), .vec 3 1 l70.length s70 (l70.flatMap enc3), .obj b63 (.row 81 .whole [(.int .i64 c63_0)]), .obj b66 .defd])⟩
      refine Run.opsEnd ?_
      refine Run.beginX hH79 (i := 1) rfl rfl ?_
      intro M80 (hH80 : Has Fr M80 [.obj b77 (.row 85 .whole [(.int .i64 r74.e0), (.int .i64 r74.e1), (.int .i64 r74.e2)]), .obj b65 (.loop ⟨.busy, none, 67, 20, treeOf [(3, (.ptr b57 0)), (4, .nils), (5, (.ptr b60 0)), (9, (.fn (.func 156) [] [(.ptr b63 0)]))], [10, 11], (atC Tryz.prog 67 [1, 1, 0, 1, 0, 0]), (atC Tryz.prog 67 [1, 1, 0, 1, 0, 1]), b66⟩), .obj b57 (.row 89 .whole [(.fn (.func 64) [] [(.ptr b53 0), (.ptr b22 0), (.ptr b25 0), (.ptr b28 0), (.ptr b31 0)])]), .obj b53 (.row 93 .whole [s50]), .vec 99 9 l50.length s50 (l50.flatMap enc99), .obj b22 (.row 3 .whole [(.int .i64 c22_0)]), .obj b25 (.row 3 .whole [(.int .i64 c25_0)]), .obj b28 (.row 3 .whole [(.int .i64 c28_0)]), .obj b31 (.row 3 .whole [(.int .i64 c31_0)]), .obj b60 (.row 36 .whole [s70]), .vec 3 1 l70.length s70 (l70.flatMap enc3), .obj b63 (.row 81 .whole [(.int .i64 c63_0)]), .obj b66 .defd])
      refine Run.block (Run.seq (Run.region ?_))
      refine Run.opG wantS_none (ex_load1 rfl (hH80.cells (i := 2) rfl 0 rfl) rdLe_rfl agg89) rfl ?_
      refine Run.opG wantS_none (ex_loadA rfl (hH80.cells (i := 0) rfl 0 rfl) rdLe_rfl agg85 rfl rfl rfl) rfl ?_
      refine Run.enter wantS_none (ex_closure rfl rfl mkk64 cal64) Tryz.func64 rfl rfl ?_
      refine Run.seq (Run.region ?_)
      refine Run.opX wantS_none rfl (ExG.box rfl rfl hH80) ?_
      rintro _ M83 ⟨b82, rfl, hH83⟩
      refine Run.opG wantS_none (ex_assign rfl) rfl ?_
      refine Run.opsEnd (Run.seq ?_)
      refine Run.drawG plan64_1_0 ?_
      refine DrawG.fl rfl (ev_ex wantS_none (ex_load1 rfl (hH83.cells (i := 4) rfl 0 rfl) rdLe_rfl agg93)) rfl ?_
      refine DrawG.fl rfl (ev_ex wantS_none (ex_load1 rfl (hH83.cells (i := 6) rfl 0 rfl) rdLe_rfl agg3)) rfl ?_
      obtain ⟨x84, hx84, h⟩ := bnd_some h
      obtain ⟨p84, o84, hb84, hx84, he84⟩ := vec_elem (P := Tryz.prog) (t := 93) (kk := .i64) hH83 (i := 5) rfl hx84 els93
      refine DrawG.fl rfl (ev_ex wantS_none (ex_elX rfl rfl hx84)) rfl ?_
      refine DrawG.fl rfl (ev_ex wantS_none (ex_fieldAddr rfl off99_0)) rfl ?_
      refine DrawG.fl rfl (ev_ex wantS_none (ex_loadA rfl ((hH83.at (enc := enc99) (a := x84) (i := 5) rfl hb84 he84 enc99_len).fld (o := 0) rfl) rdLe_rfl agg97 rfl rfl rfl)) rfl ?_
      refine DrawG.fl rfl (ev_ex wantS_none (ex_load1 rfl (hH83.cells (i := 4) rfl 0 rfl) rdLe_rfl agg93)) rfl ?_
      refine DrawG.fl rfl (ev_ex wantS_none (ex_load1 rfl (hH83.cells (i := 7) rfl 0 rfl) rdLe_rfl agg3)) rfl ?_
      obtain ⟨x85, hx85, h⟩ := bnd_some h
      obtain ⟨p85, o85, hb85, hx85, he85⟩ := vec_elem (P := Tryz.prog) (t := 93) (kk := .i64) hH83 (i := 5) rfl hx85 els93
      refine DrawG.fl rfl (ev_ex wantS_none (ex_elX rfl rfl hx85)) rfl ?_
      refine DrawG.fl rfl (ev_ex wantS_none (ex_fieldAddr rfl off99_0)) rfl ?_
      refine DrawG.fl rfl (ev_ex wantS_none (ex_loadA rfl ((hH83.at (enc := enc99) (a := x85) (i := 5) rfl hb85 he85 enc99_len).fld (o := 0) rfl) rdLe_rfl agg97 rfl rfl rfl)) rfl ?_
      refine DrawG.fl rfl (ev_ex wantS_none (ex_loadA rfl (hH83.cells (i := 0) rfl 0 rfl) rdLe_rfl agg85 rfl rfl rfl)) rfl ?_
      refine DrawG.fl rfl (ev_ex wantS_none (ex_load1 rfl (hH83.cells (i := 8) rfl 0 rfl) rdLe_rfl agg3)) rfl ?_
      refine DrawG.fl rfl (ev_ex wantS_none (ex_load1 rfl (hH83.cells (i := 9) rfl 0 rfl) rdLe_rfl agg3)) rfl ?_
      obtain ⟨r86, hr86, h⟩ := bnd_some h
      refine DrawG.callP rfl wantS_none (ex_call rfl mkk65 cal65) rfl (sky_place_difference_ok F x84.place x85.place r74 _ _ hr86) (st_cons rfl (ev_ex wantS_none (ex_load1 rfl (hH83.cells (i := 9) rfl 0 rfl) rdLe_rfl agg3)) rfl rfl rfl (st_cons rfl (ev_ex wantS_none (ex_load1 rfl (hH83.cells (i := 8) rfl 0 rfl) rdLe_rfl agg3)) rfl rfl rfl st_nil)) ?_
      obtain ⟨r88, hr88, h⟩ := bnd_some h
      refine DrawG.callP rfl wantS_none (ex_call rfl mkk66 cal66) rfl (sky_ratio_isAbout_ok F r86 c28_0 c31_0 _ _ hr88) st_nil ?_
      refine DrawG.fl rfl (ev_ex wantS_none (ex_assign rfl)) rfl ?_
      refine DrawG.sync ?_
      refine DrawG.nil ?_
      refine Run.retTo Tryz.func64 rfl (res_tmp rfl res_nil) rfl ?_
      refine Run.opsEnd ?_
      rcases btf (r88) with hc90 | hc90
      · have h := bif_t hc90 h
        refine Run.condT' rfl hc90 ?_
        refine Run.region ?_
        refine Run.opG wantS_none (ex_load1 rfl (hH83.cells (i := 10) rfl 0 rfl) rdLe_rfl agg36) rfl ?_
        refine Run.opG wantS_none (ex_move rfl) rfl ?_
        refine Run.opX wantS_none rfl (ExG.built (enc := enc3) (l := ([v6] : List Int)) (z := 1) rfl elt36 rfl rfl rfl enc3_len hH83) ?_
        rintro s92 M93 (hH93 : Has Fr M93 [.vec 3 1 ([v6] : List Int).length s92 (([v6] : List Int).flatMap enc3), .obj b82 (.row 85 .whole [(.int .i64 r74.e0), (.int .i64 r74.e1), (.int .i64 r74.e2)]), .obj b77 (.row 85 .whole [(.int .i64 r74.e0), (.int .i64 r74.e1), (.int .i64 r74.e2)]), .obj b65 (.loop ⟨.busy, none, 67, 20, treeOf [(3, (.ptr b57 0)), (4, .nils), (5, (.ptr b60 0)), (9, (.fn (.func 156) [] [(.ptr b63 0)]))], [10, 11], (atC Tryz.prog 67 [1, 1, 0, 1, 0, 0]), (atC Tryz.prog 67 [1, 1, 0, 1, 0, 1]), b66⟩), .obj b57 (.row 89 .whole [(.fn (.func 64) [] [(.ptr b53 0), (.ptr b22 0), (.ptr b25 0), (.ptr b28 0), (.ptr b31 0)])]), .obj b53 (.row 93 .whole [s50]), .vec 99 9 l50.length s50 (l50.flatMap enc99), .obj b22 (.row 3 .whole [(.int .i64 c22_0)]), .obj b25 (.row 3 .whole [(.int .i64 c25_0)]), .obj b28 (.row 3 .whole [(.int .i64 c28_0)]), .obj b31 (.row 3 .whole [(.int .i64 c31_0)]), .obj b60 (.row 36 .whole [s70]), .vec 3 1 l70.length s70 (l70.flatMap enc3), .obj b63 (.row 81 .whole [(.int .i64 c63_0)]), .obj b66 .defd])
        obtain ⟨l96, hl96, h⟩ := bnd_some h
        refine Run.opX wantS_none rfl (ExG.append rfl rfl hH93 (i := 12) rfl enc3_len rfl enc3_ones appt36_36 rfl (len_slc (hH93.slc (i := 0) rfl enc3_len)) (first_slc (hH93.slc (i := 0) rfl enc3_len) (rdLe_rdRow _) enc3_len) hl96) ?_
        rintro s96 M98 (hH98 : Has Fr M98 [.vec 3 1 ([v6] : List Int).length s92 (([v6] : List Int).flatMap enc3), .obj b82 (.row 85 .whole [(.int .i64 r74.e0), (.int .i64 r74.e1), (.int .i64 r74.e2)]), .obj b77 (.row 85 .whole [(.int .i64 r74.e0), (.int .i64 r74.e1), (.int .i64 r74.e2)]), .obj b65 (.loop ⟨.busy, none, 67, 20, treeOf [(3, (.ptr b57 0)), (4, .nils), (5, (.ptr b60 0)), (9, (.fn (.func 156) [] [(.ptr b63 0)]))], [10, 11], (atC Tryz.prog 67 [1, 1, 0, 1, 0, 0]), (atC Tryz.prog 67 [1, 1, 0, 1, 0, 1]), b66⟩), .obj b57 (.row 89 .whole [(.fn (.func 64) [] [(.ptr b53 0), (.ptr b22 0), (.ptr b25 0), (.ptr b28 0), (.ptr b31 0)])]), .obj b53 (.row 93 .whole [s50]), .vec 99 9 l50.length s50 (l50.flatMap enc99), .obj b22 (.row 3 .whole [(.int .i64 c22_0)]), .obj b25 (.row 3 .whole [(.int .i64 c25_0)]), .obj b28 (.row 3 .whole [(.int .i64 c28_0)]), .obj b31 (.row 3 .whole [(.int .i64 c31_0)]), .obj b60 (.row 36 .whole [s70]), .vec 3 1 l96.length s96 (l96.flatMap enc3), .obj b63 (.row 81 .whole [(.int .i64 c63_0)]), .obj b66 .defd])
        refine Run.opX wantS_none rfl (ExG.storeC (c' := [s96]) rfl rfl (cells_one (vec_one hH98 (i := 12) rfl)) hH98 (i := 11) rfl sz36 rfl rfl rfl (ones_cons (vec_one hH98 (i := 12) rfl) ones_nil) rfl) ?_
        rintro _ M99 ⟨rfl, (hH99 : Has Fr M99 [.vec 3 1 ([v6] : List Int).length s92 (([v6] : List Int).flatMap enc3), .obj b82 (.row 85 .whole [(.int .i64 r74.e0), (.int .i64 r74.e1), (.int .i64 r74.e2)]), .obj b77 (.row 85 .whole [(.int .i64 r74.e0), (.int .i64 r74.e1), (.int .i64 r74.e2)]), .obj b65 (.loop ⟨.busy, none, 67, 20, treeOf [(3, (.ptr b57 0)), (4, .nils), (5, (.ptr b60 0)), (9, (.fn (.func 156) [] [(.ptr b63 0)]))], [10, 11], (atC Tryz.prog 67 [1, 1, 0, 1, 0, 0]), (atC Tryz.prog 67 [1, 1, 0, 1, 0, 1]), b66⟩), .obj b57 (.row 89 .whole [(.fn (.func 64) [] [(.ptr b53 0), (.ptr b22 0), (.ptr b25 0), (.ptr b28 0), (.ptr b31 0)])]), .obj b53 (.row 93 .whole [s50]), .vec 99 9 l50.length s50 (l50.flatMap enc99), .obj b22 (.row 3 .whole [(.int .i64 c22_0)]), .obj b25 (.row 3 .whole [(.int .i64 c25_0)]), .obj b28 (.row 3 .whole [(.int .i64 c28_0)]), .obj b31 (.row 3 .whole [(.int .i64 c31_0)]), .obj b60 (.row 36 .whole [s96]), .vec 3 1 l96.length s96 (l96.flatMap enc3), .obj b63 (.row 81 .whole [(.int .i64 c63_0)]), .obj b66 .defd])⟩
        refine Run.opsEnd (Run.inBlock ?_)
        refine Run.roundEndX hH99 (i := 3) rfl rfl ?_
        intro M100 (hH100 : Has Fr M100 [.vec 3 1 ([v6] : List Int).length s92 (([v6] : List Int).flatMap enc3), .obj b82 (.row 85 .whole [(.int .i64 r74.e0), (.int .i64 r74.e1), (.int .i64 r74.e2)]), .obj b77 (.row 85 .whole [(.int .i64 r74.e0), (.int .i64 r74.e1), (.int .i64 r74.e2)]), .obj b65 (.loop ⟨.ready, none, 67, 20, treeOf [(3, (.ptr b57 0)), (4, .nils), (5, (.ptr b60 0)), (9, (.fn (.func 156) [] [(.ptr b63 0)]))], [10, 11], (atC Tryz.prog 67 [1, 1, 0, 1, 0, 0]), (atC Tryz.prog 67 [1, 1, 0, 1, 0, 1]), b66⟩), .obj b57 (.row 89 .whole [(.fn (.func 64) [] [(.ptr b53 0), (.ptr b22 0), (.ptr b25 0), (.ptr b28 0), (.ptr b31 0)])]), .obj b53 (.row 93 .whole [s50]), .vec 99 9 l50.length s50 (l50.flatMap enc99), .obj b22 (.row 3 .whole [(.int .i64 c22_0)]), .obj b25 (.row 3 .whole [(.int .i64 c25_0)]), .obj b28 (.row 3 .whole [(.int .i64 c28_0)]), .obj b31 (.row 3 .whole [(.int .i64 c31_0)]), .obj b60 (.row 36 .whole [s96]), .vec 3 1 l96.length s96 (l96.flatMap enc3), .obj b63 (.row 81 .whole [(.int .i64 c63_0)]), .obj b66 .defd])
        refine Run.opG wantS_none (ex_not rfl) rfl ?_
        refine Run.opsEnd ?_
        refine Run.condF' rfl (bnot_f rfl) ?_
        refine Run.skip (Run.inBlock (Run.region ?_))
        refine Run.opG wantS_none (ex_add rfl rfl) rfl ?_
        refine Run.opG wantS_none (ex_move rfl) rfl ?_
        refine Run.opsEnd (Run.inLoop ?_)
        exact Run.low (.cons (fle_pick [5] rfl) (.cons (fle_pick [] rfl) .nil)) (Run.pick [0, 1, 5, 6] (ih v5 (w64 (v6 + (1 : Int))) c22_0 c25_0 c28_0 c31_0 c63_0 l50 l96 b65 b57 b53 s50 b22 b25 b28 b31 b60 s96 b63 b66 _ _ _ (hH100.pick [3, 4, 5, 6, 7, 8, 9, 10, 11, 12, 13, 14] rfl rfl) h))
      · have h := bif_f hc90 h
        refine Run.condF' rfl hc90 ?_
        refine Run.skip (Run.inBlock ?_)
        refine Run.roundEndX hH83 (i := 2) rfl rfl ?_
        intro M101 (hH101 : Has Fr M101 [.obj b82 (.row 85 .whole [(.int .i64 r74.e0), (.int .i64 r74.e1), (.int .i64 r74.e2)]), .obj b77 (.row 85 .whole [(.int .i64 r74.e0), (.int .i64 r74.e1), (.int .i64 r74.e2)]), .obj b65 (.loop ⟨.ready, none, 67, 20, treeOf [(3, (.ptr b57 0)), (4, .nils), (5, (.ptr b60 0)), (9, (.fn (.func 156) [] [(.ptr b63 0)]))], [10, 11], (atC Tryz.prog 67 [1, 1, 0, 1, 0, 0]), (atC Tryz.prog 67 [1, 1, 0, 1, 0, 1]), b66⟩), .obj b57 (.row 89 .whole [(.fn (.func 64) [] [(.ptr b53 0), (.ptr b22 0), (.ptr b25 0), (.ptr b28 0), (.ptr b31 0)])]), .obj b53 (.row 93 .whole [s50]), .vec 99 9 l50.length s50 (l50.flatMap enc99), .obj b22 (.row 3 .whole [(.int .i64 c22_0)]), .obj b25 (.row 3 .whole [(.int .i64 c25_0)]), .obj b28 (.row 3 .whole [(.int .i64 c28_0)]), .obj b31 (.row 3 .whole [(.int .i64 c31_0)]), .obj b60 (.row 36 .whole [s70]), .vec 3 1 l70.length s70 (l70.flatMap enc3), .obj b63 (.row 81 .whole [(.int .i64 c63_0)]), .obj b66 .defd])
        refine Run.opG wantS_none (ex_not rfl) rfl ?_
        refine Run.opsEnd ?_
        refine Run.condF' rfl (bnot_f rfl) ?_
        refine Run.skip (Run.inBlock (Run.region ?_))
        refine Run.opG wantS_none (ex_add rfl rfl) rfl ?_
        refine Run.opG wantS_none (ex_move rfl) rfl ?_
        refine Run.opsEnd (Run.inLoop ?_)
        exact Run.low (.cons (fle_pick [5] rfl) (.cons (fle_pick [] rfl) .nil)) (Run.pick [0, 1, 5, 6] (ih v5 (w64 (v6 + (1 : Int))) c22_0 c25_0 c28_0 c31_0 c63_0 l50 l70 b65 b57 b53 s50 b22 b25 b28 b31 b60 s70 b63 b66 _ _ _ (hH101.pick [2, 3, 4, 5, 6, 7, 8, 9, 10, 11, 12, 13] rfl rfl) h))
    · have h := bif_f hc72 h
      refine Run.condF' rfl hc72 ?_
      refine Run.exit rfl ?_
      refine Run.fallRange Tryz.func156 rfl res_nil ?_
      refine Run.endX hH (i := 0) rfl (fun hc => by cases hc) ?_
      intro M102 (hH102 : Has Fr M102 [.obj b65 (.loop ⟨.exhausted, none, 67, 20, treeOf [(3, (.ptr b57 0)), (4, .nils), (5, (.ptr b60 0)), (9, (.fn (.func 156) [] [(.ptr b63 0)]))], [10, 11], (atC Tryz.prog 67 [1, 1, 0, 1, 0, 0]), (atC Tryz.prog 67 [1, 1, 0, 1, 0, 1]), b66⟩), .obj b57 (.row 89 .whole [(.fn (.func 64) [] [(.ptr b53 0), (.ptr b22 0), (.ptr b25 0), (.ptr b28 0), (.ptr b31 0)])]), .obj b53 (.row 93 .whole [s50]), .vec 99 9 l50.length s50 (l50.flatMap enc99), .obj b22 (.row 3 .whole [(.int .i64 c22_0)]), .obj b25 (.row 3 .whole [(.int .i64 c25_0)]), .obj b28 (.row 3 .whole [(.int .i64 c28_0)]), .obj b31 (.row 3 .whole [(.int .i64 c31_0)]), .obj b60 (.row 36 .whole [s70]), .vec 3 1 l70.length s70 (l70.flatMap enc3), .obj b63 (.row 81 .whole [(.int .i64 c63_0)]), .obj b66 .defd])
      refine Run.inBlock (Run.seq (Run.region ?_))
      refine Run.opG wantS_none (ex_load1 rfl (hH102.cells (i := 8) rfl 0 rfl) rdLe_rfl agg36) rfl ?_
      refine Run.opG wantS_none (ex_assign rfl) rfl ?_
      refine Run.opsEnd ?_
      obtain ⟨hH103x, hS103⟩ := hH102.shut (i := 11) (ds := []) rfl
      have hH103 : Has Fr (setT M102 b66 none) [.obj b65 (.loop ⟨.exhausted, none, 67, 20, treeOf [(3, (.ptr b57 0)), (4, .nils), (5, (.ptr b60 0)), (9, (.fn (.func 156) [] [(.ptr b63 0)]))], [10, 11], (atC Tryz.prog 67 [1, 1, 0, 1, 0, 0]), (atC Tryz.prog 67 [1, 1, 0, 1, 0, 1]), b66⟩), .obj b57 (.row 89 .whole [(.fn (.func 64) [] [(.ptr b53 0), (.ptr b22 0), (.ptr b25 0), (.ptr b28 0), (.ptr b31 0)])]), .obj b53 (.row 93 .whole [s50]), .vec 99 9 l50.length s50 (l50.flatMap enc99), .obj b22 (.row 3 .whole [(.int .i64 c22_0)]), .obj b25 (.row 3 .whole [(.int .i64 c25_0)]), .obj b28 (.row 3 .whole [(.int .i64 c28_0)]), .obj b31 (.row 3 .whole [(.int .i64 c31_0)]), .obj b60 (.row 36 .whole [s70]), .vec 3 1 l70.length s70 (l70.flatMap enc3), .obj b63 (.row 81 .whole [(.int .i64 c63_0)]), .vec 0 0 0 .nils []] := hH103x
      refine Run.retTo Tryz.func67 (hS103 _ rfl) (res_tmp rfl res_nil) rfl ?_
      refine Run.opG wantS_none (ex_assign rfl) rfl ?_
      refine Run.opG wantS_none (ex_assign rfl) rfl ?_
      refine Run.opsEnd ?_
      cases h
      exact Run.ret Tryz.func19 rfl (res_tmp rfl (res_tmp rfl res_nil)) ⟨_, rfl, (hH103.pick [9] rfl rfl).upF (none_le _)⟩

def sky_Ring_2 (F : Nat) (v0 : (List S_api_Site)) (v1 : Int) (v40 : Bool) (c22_0 c25_0 c28_0 c31_0 : Int) : Option ((List Int) × Int) :=
  bif v40 then
    some (([] : List Int), (92 : Int))
  else
    bnd (sky_sitesOf F v0) fun r49 =>
    bnd (sky_grid_cells F v1) fun r68 =>
    sky_Ring_3 F F r68 (0 : Int) c22_0 c25_0 c28_0 c31_0 v1 r49 ([] : List Int)

theorem sky_Ring_2_ok (F : Nat) : ∀ (v0 : (List S_api_Site)) (v1 : Int) (v40 : Bool) (c22_0 c25_0 c28_0 c31_0 : Int) (sv0 : SV) (b22 b25 b28 b31 : Pos) (Fr : Rd) (M : Mem) (r : (List Int) × Int) (hv0 : Slc Fr 10 (FlatR enc105) sv0 v0) (hH : Has Fr M [.obj b22 (.row 3 .whole [(.int .i64 c22_0)]), .obj b25 (.row 3 .whole [(.int .i64 c25_0)]), .obj b28 (.row 3 .whole [(.int .i64 c28_0)]), .obj b31 (.row 3 .whole [(.int .i64 c31_0)])]), sky_Ring_2 F v0 v1 v40 c22_0 c25_0 c28_0 c31_0 = some r → Run Tryz.prog ⟨⟨19, [], none⟩, []⟩ 47 (sky_Ring_post r) [(0, sv0), (1, (.int .i64 v1)), (8, (.ptr b22 0)), (9, (.ptr b25 0)), (10, (.ptr b28 0)), (11, (.ptr b31 0)), (40, (.bool v40))] [itemC Tryz.prog 19 [1, 0, 1, 0, 1, 1, 0] 16, codeC Tryz.prog 19 [1, 0, 1, 0, 1, 1, 1], .inBlock 0, codeC Tryz.prog 19 [1, 1]] M := by
  intro v0 v1 v40 c22_0 c25_0 c28_0 c31_0 sv0 b22 b25 b28 b31 Fr M r hv0 hH h
  rw [sky_Ring_2] at h
  refine Run.opG wantS_none (ex_assign rfl) rfl ?_
  refine Run.opsEnd ?_
  rcases btf (v40) with hc44 | hc44
  · have h := bif_t hc44 h
    refine Run.condT' rfl hc44 ?_
    refine Run.seq (Run.region ?_)
    refine Run.opG wantS_none (ex_assign rfl) rfl ?_
    refine Run.opG wantS_none (ex_assign rfl) rfl ?_
    refine Run.opsEnd ?_
    have hH46 : Has Fr M [.vec 3 1 ([] : List Int).length .nils (([] : List Int).flatMap enc3), .obj b22 (.row 3 .whole [(.int .i64 c22_0)]), .obj b25 (.row 3 .whole [(.int .i64 c25_0)]), .obj b28 (.row 3 .whole [(.int .i64 c28_0)]), .obj b31 (.row 3 .whole [(.int .i64 c31_0)])] := hH.nils 3 1
    cases h
    exact Run.ret Tryz.func19 rfl (res_tmp rfl (res_tmp rfl res_nil)) ⟨_, rfl, (hH46.pick [0] rfl rfl).upF (none_le _)⟩
  · have h := bif_f hc44 h
    refine Run.condF' rfl hc44 ?_
    refine Run.skip (Run.inBlock (Run.seq (Run.region ?_)))
    refine Run.opG wantS_none (ex_move rfl) rfl ?_
    obtain ⟨r49, hr49, h⟩ := bnd_some h
    refine Run.callX wantS_none (ex_call rfl mkk63 cal63) rfl (sky_sitesOf_ok F v0 sv0 _ _ (hH.slcF hv0) hr49) ?_
    rintro s49_0 M51 ⟨_, rfl, hN49⟩
    have hH51 : Has Fr M51 [.vec 99 9 r49.length s49_0 (r49.flatMap enc99), .obj b22 (.row 3 .whole [(.int .i64 c22_0)]), .obj b25 (.row 3 .whole [(.int .i64 c25_0)]), .obj b28 (.row 3 .whole [(.int .i64 c28_0)]), .obj b31 (.row 3 .whole [(.int .i64 c31_0)])] := hN49.1 _ _ hH
    refine Run.opX wantS_none rfl (ExG.new (v := fun b => .ptr b 0) (ex_alloc zer93) hH51) ?_
    rintro _ M54 ⟨b53, rfl, hH54⟩
    refine Run.opX wantS_none rfl (ExG.storeC (c' := [s49_0]) rfl rfl (cells_one (vec_one hH54 (i := 1) rfl)) hH54 (i := 0) rfl sz93 rfl rfl rfl (ones_cons (vec_one hH54 (i := 1) rfl) ones_nil) rfl) ?_
    rintro _ M55 ⟨rfl, (hH55 : Has Fr M55 [.obj b53 (.row 93 .whole [s49_0]), .vec 99 9 r49.length s49_0 (r49.flatMap enc99), .obj b22 (.row 3 .whole [(.int .i64 c22_0)]), .obj b25 (.row 3 .whole [(.int .i64 c25_0)]), .obj b28 (.row 3 .whole [(.int .i64 c28_0)]), .obj b31 (.row 3 .whole [(.int .i64 c31_0)])])⟩
    refine Run.opsEnd (Run.seq (Run.region ?_))
    refine Run.opG wantS_none (ex_makeFunc rfl rfl) rfl ?_
    refine Run.opG wantS_none (ex_assign rfl) rfl ?_
    refine Run.opsEnd (Run.seq (Run.region ?_))
    refine Run.opG wantS_none (ex_move rfl) rfl ?_
    refine Run.opG wantS_none (ex_move rfl) rfl ?_
    refine Run.enter wantS_none (ex_call rfl mkk67 cal67) Tryz.func67 rfl rfl ?_
    refine Run.seq (Run.region ?_)
    refine Run.opX wantS_none rfl (ExG.box rfl rfl hH55) ?_
    rintro _ M58 ⟨b57, rfl, hH58⟩
    refine Run.opG wantS_none (ex_assign rfl) rfl ?_
    refine Run.opsEnd (Run.seq (Run.region ?_))
    refine Run.opX wantS_none rfl (ExG.new (v := fun b => .ptr b 0) (ex_alloc zer36) hH58) ?_
    rintro _ M61 ⟨b60, rfl, hH61⟩
    refine Run.opsEnd (Run.seq (Run.seq (Run.region ?_)))
    refine Run.opG wantS_none (ex_move rfl) rfl ?_
    refine Run.enter wantS_none (ex_call rfl mkk114 cal114) Tryz.func114 rfl rfl ?_
    refine Run.seq (Run.region ?_)
    refine Run.opX wantS_none rfl (ExG.box rfl rfl hH61) ?_
    rintro _ M64 ⟨b63, rfl, hH64⟩
    refine Run.opG wantS_none (ex_assign rfl) rfl ?_
    refine Run.opsEnd (Run.seq (Run.region ?_))
    refine Run.opG wantS_none (ex_makeFunc rfl rfl) rfl ?_
    refine Run.opG wantS_none (ex_assign rfl) rfl ?_
    refine Run.opsEnd ?_
    refine Run.retTo Tryz.func114 rfl (res_tmp rfl res_nil) rfl ?_
    refine Run.opsEnd (Run.block ?_)
    refine Run.pick [3, 4, 5, 9] ?_
    refine Run.rangeX rfl cal156 Tryz.func156 rfl rfl hH64 ?_
    intro b66 b65 M65 (hH65 : Has Fr M65 [.obj b65 (.loop ⟨.ready, none, 67, 20, treeOf [(3, (.ptr b57 0)), (4, .nils), (5, (.ptr b60 0)), (9, (.fn (.func 156) [] [(.ptr b63 0)]))], [10, 11], (atC Tryz.prog 67 [1, 1, 0, 1, 0, 0]), (atC Tryz.prog 67 [1, 1, 0, 1, 0, 1]), b66⟩), .obj b66 .defd, .obj b63 (.row 81 .whole [(.int .i64 v1)]), .obj b60 (.row 36 .whole [.nils]), .obj b57 (.row 89 .whole [(.fn (.func 64) [] [(.ptr b53 0), (.ptr b22 0), (.ptr b25 0), (.ptr b28 0), (.ptr b31 0)])]), .obj b53 (.row 93 .whole [s49_0]), .vec 99 9 r49.length s49_0 (r49.flatMap enc99), .obj b22 (.row 3 .whole [(.int .i64 c22_0)]), .obj b25 (.row 3 .whole [(.int .i64 c25_0)]), .obj b28 (.row 3 .whole [(.int .i64 c28_0)]), .obj b31 (.row 3 .whole [(.int .i64 c31_0)])])
    refine Run.seq (Run.region ?_)
    refine Run.opG wantS_none (ex_load1 rfl (hH65.cells (i := 2) rfl 0 rfl) rdLe_rfl agg81) rfl ?_
    obtain ⟨r68, hr68, h⟩ := bnd_some h
    refine Run.callP wantS_none (ex_call rfl mkk49 cal49) rfl (sky_grid_cells_ok F v1 _ _ hr68) ?_
    refine Run.opG wantS_none (ex_move rfl) rfl ?_
    refine Run.opsEnd (Run.block (Run.loop ?_))
    have hH71 : Has Fr M65 [.vec 3 1 ([] : List Int).length .nils (([] : List Int).flatMap enc3), .obj b65 (.loop ⟨.ready, none, 67, 20, treeOf [(3, (.ptr b57 0)), (4, .nils), (5, (.ptr b60 0)), (9, (.fn (.func 156) [] [(.ptr b63 0)]))], [10, 11], (atC Tryz.prog 67 [1, 1, 0, 1, 0, 0]), (atC Tryz.prog 67 [1, 1, 0, 1, 0, 1]), b66⟩), .obj b66 .defd, .obj b63 (.row 81 .whole [(.int .i64 v1)]), .obj b60 (.row 36 .whole [.nils]), .obj b57 (.row 89 .whole [(.fn (.func 64) [] [(.ptr b53 0), (.ptr b22 0), (.ptr b25 0), (.ptr b28 0), (.ptr b31 0)])]), .obj b53 (.row 93 .whole [s49_0]), .vec 99 9 r49.length s49_0 (r49.flatMap enc99), .obj b22 (.row 3 .whole [(.int .i64 c22_0)]), .obj b25 (.row 3 .whole [(.int .i64 c25_0)]), .obj b28 (.row 3 .whole [(.int .i64 c28_0)]), .obj b31 (.row 3 .whole [(.int .i64 c31_0)])] := hH65.nils 3 1
    exact Run.low (.cons (fle_pick [5] rfl) (.cons (fle_pick [] rfl) .nil)) (Run.pick [0, 1, 5, 6] (sky_Ring_3_ok F F r68 (0 : Int) c22_0 c25_0 c28_0 c31_0 v1 r49 ([] : List Int) b65 b57 b53 s49_0 b22 b25 b28 b31 b60 .nils b63 b66 _ _ _ (hH71.pick [1, 5, 6, 7, 8, 9, 10, 11, 4, 0, 3, 2] rfl rfl) h))

def sky_Ring_1 (F : Nat) (v0 : (List S_api_Site)) (v1 : Int) (v35 : Bool) (c22_0 c25_0 c28_0 c31_0 : Int) : Option ((List Int) × Int) :=
  bif v35 then
    sky_Ring_2 F v0 v1 true c22_0 c25_0 c28_0 c31_0
  else
    bnd (sky_isFrom F (0 : Int) c31_0 (131072 : Int)) fun r106 =>
    sky_Ring_2 F v0 v1 (!r106) c22_0 c25_0 c28_0 c31_0

theorem sky_Ring_1_ok (F : Nat) : ∀ (v0 : (List S_api_Site)) (v1 : Int) (v35 : Bool) (c22_0 c25_0 c28_0 c31_0 : Int) (sv0 : SV) (b22 b25 b28 b31 : Pos) (Fr : Rd) (M : Mem) (r : (List Int) × Int) (hv0 : Slc Fr 10 (FlatR enc105) sv0 v0) (hH : Has Fr M [.obj b22 (.row 3 .whole [(.int .i64 c22_0)]), .obj b25 (.row 3 .whole [(.int .i64 c25_0)]), .obj b28 (.row 3 .whole [(.int .i64 c28_0)]), .obj b31 (.row 3 .whole [(.int .i64 c31_0)])]), sky_Ring_1 F v0 v1 v35 c22_0 c25_0 c28_0 c31_0 = some r → Run Tryz.prog ⟨⟨19, [], none⟩, []⟩ 47 (sky_Ring_post r) [(0, sv0), (1, (.int .i64 v1)), (8, (.ptr b22 0)), (9, (.ptr b25 0)), (10, (.ptr b28 0)), (11, (.ptr b31 0)), (35, (.bool v35))] [itemC Tryz.prog 19 [1, 0, 1, 0, 1, 1, 0] 11, codeC Tryz.prog 19 [1, 0, 1, 0, 1, 1, 1], .inBlock 0, codeC Tryz.prog 19 [1, 1]] M := by
  intro v0 v1 v35 c22_0 c25_0 c28_0 c31_0 sv0 b22 b25 b28 b31 Fr M r hv0 hH h
  rw [sky_Ring_1] at h
  refine Run.opG wantS_none (ex_move rfl) rfl ?_
  rcases btf (v35) with hc43 | hc43
  · have h := bif_t hc43 h
    refine Run.no (wantS_not' rfl rfl hc43) rfl ?_
    refine Run.no (wantS_not' rfl rfl hc43) rfl ?_
    refine Run.no (wantS_not' rfl rfl hc43) rfl ?_
    refine Run.opG wantS_none (ex_pickT' rfl hc43 rfl rfl) rfl ?_
    exact Run.pick [0, 1, 8, 9, 10, 11, 40] (sky_Ring_2_ok F v0 v1 true c22_0 c25_0 c28_0 c31_0 sv0 b22 b25 b28 b31 _ _ _ hv0 hH h)
  · have h := bif_f hc43 h
    refine Run.opG (wantS_yes' rfl rfl hc43) (ex_load1 rfl (hH.cells (i := 3) rfl 0 rfl) rdLe_rfl agg3) rfl ?_
    obtain ⟨r106, hr106, h⟩ := bnd_some h
    refine Run.callP (wantS_yes' rfl rfl hc43) (ex_call rfl mkk62 cal62) rfl (sky_isFrom_ok F (0 : Int) c31_0 (131072 : Int) _ _ hr106) ?_
    refine Run.opG (wantS_yes' rfl rfl hc43) (ex_not rfl) rfl ?_
    refine Run.opG wantS_none (ex_pickF' rfl hc43 rfl rfl) rfl ?_
    exact Run.pick [0, 1, 8, 9, 10, 11, 40] (sky_Ring_2_ok F v0 v1 (!r106) c22_0 c25_0 c28_0 c31_0 sv0 b22 b25 b28 b31 _ _ _ hv0 hH h)

def sky_Ring (F : Nat) (a0 : (List S_api_Site)) (a1 a2 a3 a4 a5 : Int) : Option ((List Int) × Int) :=
  bnd (sky_checkNetGrid F a0 a1) fun r34 =>
  bif (!(r34 == (0 : Int))) then
    some (([] : List Int), r34)
  else
    bnd (sky_isBetween F a2 a3 (a0.length : Int)) fun r40 =>
    bif (!r40) then
      sky_Ring_1 F a0 a1 true a2 a3 a4 a5
    else
      bnd (sky_isInstant F a4) fun r109 =>
      sky_Ring_1 F a0 a1 (!r109) a2 a3 a4 a5

theorem sky_Ring_ok (F : Nat) (a0 : (List S_api_Site)) (a1 a2 a3 a4 a5 : Int) (s0 : SV) (r : (List Int) × Int) (M : Mem) (hs0 : Slc (rd M) 10 (FlatR enc105) s0 a0) (h : sky_Ring F a0 a1 a2 a3 a4 a5 = some r) : CallsM Tryz.prog 19 [s0, (.int .i64 a1), (.int .i64 a2), (.int .i64 a3), (.int .i64 a4), (.int .i64 a5)] M (fun s M' => ∃ q1, s = (.tuple [q1, (.int .i64 r.2)]) ∧ New M M' [.vec 3 1 r.1.length q1 (r.1.flatMap enc3)]) := by
  refine CallsM.fresh (Q := sky_Ring_post r) Tryz.func19 rfl rfl ?_ (by rintro s Me ⟨q1, rfl, hx⟩ ha hw; exact ⟨_, rfl, New.of rfl hx ha hw⟩)
  rw [sky_Ring] at h
  replace hs0 := hs0.mono (rdLe_frozen M) (fun _ _ h => h)
  have hH := Has.nil (frozen M)
  refine Run.seq (Run.region ?_)
  refine Run.opX wantS_none rfl (ExG.box rfl rfl hH) ?_
  rintro _ M23 ⟨b22, rfl, hH23⟩
  refine Run.opX wantS_none rfl (ExG.box rfl rfl hH23) ?_
  rintro _ M26 ⟨b25, rfl, hH26⟩
  refine Run.opX wantS_none rfl (ExG.box rfl rfl hH26) ?_
  rintro _ M29 ⟨b28, rfl, hH29⟩
  refine Run.opX wantS_none rfl (ExG.box rfl rfl hH29) ?_
  rintro _ M32 ⟨b31, rfl, hH32⟩
  refine Run.opG wantS_none (ex_assign rfl) rfl ?_
  refine Run.opG wantS_none (ex_assign rfl) rfl ?_
  refine Run.opsEnd (Run.seq (Run.seq (Run.region ?_)))
  refine Run.opG wantS_none (ex_move rfl) rfl ?_
  refine Run.opG wantS_none (ex_move rfl) rfl ?_
  obtain ⟨r34, hr34, h⟩ := bnd_some h
  refine Run.callP wantS_none (ex_call rfl mkk59 cal59) rfl (sky_checkNetGrid_ok F a0 a1 s0 _ _ (hH32.slcF hs0) hr34) ?_
  refine Run.opG wantS_none (ex_assign rfl) rfl ?_
  refine Run.opsEnd (Run.block (Run.seq (Run.region ?_)))
  refine Run.opG wantS_none (ex_move rfl) rfl ?_
  refine Run.opG wantS_none (ex_neq rfl rfl) rfl ?_
  refine Run.opG wantS_none (ex_assign rfl) rfl ?_
  refine Run.opsEnd ?_
  rcases btf ((!(r34 == (0 : Int)))) with hc36 | hc36
  · have h := bif_t hc36 h
    refine Run.condT' rfl hc36 ?_
    refine Run.seq (Run.region ?_)
    refine Run.opG wantS_none (ex_move rfl) rfl ?_
    refine Run.opG wantS_none (ex_assign rfl) rfl ?_
    refine Run.opG wantS_none (ex_assign rfl) rfl ?_
    refine Run.opsEnd ?_
    have hH38 : Has (ro (frozen M)) M32 [.vec 3 1 ([] : List Int).length .nils (([] : List Int).flatMap enc3), .obj b31 (.row 3 .whole [(.int .i64 a5)]), .obj b28 (.row 3 .whole [(.int .i64 a4)]), .obj b25 (.row 3 .whole [(.int .i64 a3)]), .obj b22 (.row 3 .whole [(.int .i64 a2)])] := hH32.nils 3 1
    cases h
    exact Run.ret Tryz.func19 rfl (res_tmp rfl (res_tmp rfl res_nil)) ⟨_, rfl, (hH38.pick [0] rfl rfl).upF (none_le _)⟩
  · have h := bif_f hc36 h
    refine Run.condF' rfl hc36 ?_
    refine Run.seq (Run.region ?_)
    refine Run.opG wantS_none (ex_load1 rfl (hH32.cells (i := 3) rfl 0 rfl) rdLe_rfl agg3) rfl ?_
    refine Run.opG wantS_none (ex_load1 rfl (hH32.cells (i := 2) rfl 0 rfl) rdLe_rfl agg3) rfl ?_
    refine Run.opG wantS_none (ex_move rfl) rfl ?_
    refine Run.opG wantS_none (ex_len' rfl hs0 lenk31) rfl ?_
    obtain ⟨r40, hr40, h⟩ := bnd_some h
    refine Run.callP wantS_none (ex_call rfl mkk60 cal60) rfl (sky_isBetween_ok F a2 a3 (a0.length : Int) _ _ hr40) ?_
    refine Run.opG wantS_none (ex_not rfl) rfl ?_
    refine Run.opG wantS_none (ex_move rfl) rfl ?_
    rcases btf ((!r40)) with hc42 | hc42
    · have h := bif_t hc42 h
      refine Run.no (wantS_not' rfl rfl hc42) rfl ?_
      refine Run.no (wantS_not' rfl rfl hc42) rfl ?_
      refine Run.no (wantS_not' rfl rfl hc42) rfl ?_
      refine Run.opG wantS_none (ex_pickT' rfl hc42 rfl rfl) rfl ?_
      exact Run.pick [0, 1, 8, 9, 10, 11, 35] (sky_Ring_1_ok F a0 a1 true a2 a3 a4 a5 s0 b22 b25 b28 b31 _ _ _ hs0 (hH32.pick [3, 2, 1, 0] rfl rfl) h)
    · have h := bif_f hc42 h
      refine Run.opG (wantS_yes' rfl rfl hc42) (ex_load1 rfl (hH32.cells (i := 1) rfl 0 rfl) rdLe_rfl agg3) rfl ?_
      obtain ⟨r109, hr109, h⟩ := bnd_some h
      refine Run.callP (wantS_yes' rfl rfl hc42) (ex_call rfl mkk61 cal61) rfl (sky_isInstant_ok F a4 _ _ hr109) ?_
      refine Run.opG (wantS_yes' rfl rfl hc42) (ex_not rfl) rfl ?_
      refine Run.opG wantS_none (ex_pickF' rfl hc42 rfl rfl) rfl ?_
      exact Run.pick [0, 1, 8, 9, 10, 11, 35] (sky_Ring_1_ok F a0 a1 (!r109) a2 a3 a4 a5 s0 b22 b25 b28 b31 _ _ _ hs0 (hH32.pick [3, 2, 1, 0] rfl rfl) h)

theorem mkk19 : makeK Tryz.prog 19 = none := by kernel_rfl
theorem cal19 : callable Tryz.prog 19 = true := by kernel_rfl
abbrev ref00_In_post (r : Bool) : SV → Mem → Prop := fun s _ => s = (.bool r)

def ref00_In_1 (F : Nat) (v14 : Bool) : Option (Bool) :=
  some v14

theorem ref00_In_1_ok (F : Nat) : ∀ (v14 : Bool) (Fr : Rd) (M : Mem) (r : Bool) (hH : Has Fr M []), ref00_In_1 F v14 = some r → Run Tryz.prog ⟨⟨36, [], none⟩, []⟩ 15 (ref00_In_post r) [(14, (.bool v14))] [itemC Tryz.prog 36 [1, 0] 8, codeC Tryz.prog 36 [1, 1]] M := by
  intro v14 Fr M r hH h
  rw [ref00_In_1] at h
  refine Run.opG wantS_none (ex_assign rfl) rfl ?_
  refine Run.opsEnd ?_
  cases h
  exact Run.ret Tryz.func36 rfl (res_tmp rfl res_nil) rfl

def ref00_In (F : Nat) (a0 a1 a2 : Int) : Option (Bool) :=
  bif (decide (a1 ≤ a0)) then
    ref00_In_1 F (decide (a0 ≤ a2))
  else
    ref00_In_1 F false

theorem ref00_In_ok (F : Nat) (a0 a1 a2 : Int) (r : Bool) (M : Mem) (h : ref00_In F a0 a1 a2 = some r) : CallsM Tryz.prog 36 [(.int .i64 a0), (.int .i64 a1), (.int .i64 a2)] M (fun s M' => s = (.bool r) ∧ M' = M) := by
  refine CallsM.plain Tryz.func36 rfl rfl rfl (show Run _ _ _ (ref00_In_post r) _ _ _ from ?_)
  rw [ref00_In] at h
  have hH := Has.nil (frozen M)
  refine Run.seq (Run.region ?_)
  refine Run.opG wantS_none (ex_assign rfl) rfl ?_
  refine Run.opsEnd (Run.seq (Run.region ?_))
  refine Run.opG wantS_none (ex_move rfl) rfl ?_
  refine Run.opG wantS_none (ex_move rfl) rfl ?_
  refine Run.opG wantS_none (ex_leq rfl rfl) rfl ?_
  refine Run.opG wantS_none (ex_move rfl) rfl ?_
  rcases btf ((decide (a1 ≤ a0))) with hc21 | hc21
  · have h := bif_t hc21 h
    refine Run.opG (wantS_yes' rfl rfl hc21) (ex_move rfl) rfl ?_
    refine Run.opG (wantS_yes' rfl rfl hc21) (ex_move rfl) rfl ?_
    refine Run.opG (wantS_yes' rfl rfl hc21) (ex_leq rfl rfl) rfl ?_
    refine Run.opG wantS_none (ex_pickT' rfl hc21 rfl rfl) rfl ?_
    exact Run.pick [14] (ref00_In_1_ok F (decide (a0 ≤ a2)) _ _ _ hH h)
  · have h := bif_f hc21 h
    refine Run.no (wantS_not' rfl rfl hc21) rfl ?_
    refine Run.no (wantS_not' rfl rfl hc21) rfl ?_
    refine Run.no (wantS_not' rfl rfl hc21) rfl ?_
    refine Run.opG wantS_none (ex_pickF' rfl hc21 rfl rfl) rfl ?_
    exact Run.pick [14] (ref00_In_1_ok F false _ _ _ hH h)

theorem mkk36 : makeK Tryz.prog 36 = none := by kernel_rfl
theorem cal36 : callable Tryz.prog 36 = true := by kernel_rfl
theorem whs9 : whole Tryz.prog 9 = some .str := by kernel_rfl
abbrev ref01_IsName_post (r : Bool) : SV → Mem → Prop := fun s _ => s = (.bool r)

def ref01_IsName_8 (F : Nat) (hd4 : (List UInt8) → Int → Option (Bool)) (v0 : (List UInt8)) (v3 : Int) (v49 : Bool) : Option (Bool) :=
  bif v49 then
    some false
  else
    hd4 v0 (w64 (v3 + (1 : Int)))

theorem ref01_IsName_8_ok (F : Nat) (hd4 : (List UInt8) → Int → Option (Bool)) (hhd4 : ∀ (v0 : (List UInt8)) (v3 : Int) (Fr : Rd) (M : Mem) (r : Bool) (hH : Has Fr M []), hd4 v0 v3 = some r → Run Tryz.prog ⟨⟨75, [], none⟩, []⟩ 50 (ref01_IsName_post r) [(0, (.str v0)), (3, (.int .i64 v3))] [codeC Tryz.prog 75 [1, 1, 0, 1, 0, 0], loopC Tryz.prog 75 [1, 1, 0, 1, 0, 0], .inBlock 0, codeC Tryz.prog 75 [1, 1, 1]] M) : ∀ (v0 : (List UInt8)) (v3 : Int) (v49 : Bool) (Fr : Rd) (M : Mem) (r : Bool) (hH : Has Fr M []), ref01_IsName_8 F hd4 v0 v3 v49 = some r → Run Tryz.prog ⟨⟨75, [], none⟩, []⟩ 50 (ref01_IsName_post r) [(0, (.str v0)), (3, (.int .i64 v3)), (49, (.bool v49))] [codeC Tryz.prog 75 [1, 1, 0, 1, 0, 0, 1, 0, 0, 1, 1], .inBlock 1, codeC Tryz.prog 75 [1, 1, 0, 1, 0, 0, 1, 1], loopC Tryz.prog 75 [1, 1, 0, 1, 0, 0], .inBlock 0, codeC Tryz.prog 75 [1, 1, 1]] M := by
  intro v0 v3 v49 Fr M r hH h
  rw [ref01_IsName_8] at h
  rcases btf (v49) with hc32 | hc32
  · have h := bif_t hc32 h
    refine Run.condT' rfl hc32 ?_
    refine Run.seq (Run.region ?_)
    refine Run.opG wantS_none (ex_assign rfl) rfl ?_
    refine Run.opsEnd ?_
    cases h
    exact Run.ret Tryz.func75 rfl (res_tmp rfl res_nil) rfl
  · have h := bif_f hc32 h
    refine Run.condF' rfl hc32 ?_
    refine Run.skip (Run.inBlock (Run.region ?_))
    refine Run.opG wantS_none (ex_move rfl) rfl ?_
    refine Run.opG wantS_none (ex_add rfl rfl) rfl ?_
    refine Run.opG wantS_none (ex_assign rfl) rfl ?_
    refine Run.opsEnd (Run.inLoop ?_)
    exact Run.pick [0, 3] (hhd4 v0 (w64 (v3 + (1 : Int))) _ _ _ hH h)

def ref01_IsName_7 (F : Nat) (hd4 : (List UInt8) → Int → Option (Bool)) (v0 : (List UInt8)) (v3 v4 : Int) (v45 : Bool) : Option (Bool) :=
  bif v45 then
    ref01_IsName_8 F hd4 v0 v3 (!(v4 == (95 : Int)))
  else
    ref01_IsName_8 F hd4 v0 v3 false

theorem ref01_IsName_7_ok (F : Nat) (hd4 : (List UInt8) → Int → Option (Bool)) (hhd4 : ∀ (v0 : (List UInt8)) (v3 : Int) (Fr : Rd) (M : Mem) (r : Bool) (hH : Has Fr M []), hd4 v0 v3 = some r → Run Tryz.prog ⟨⟨75, [], none⟩, []⟩ 50 (ref01_IsName_post r) [(0, (.str v0)), (3, (.int .i64 v3))] [codeC Tryz.prog 75 [1, 1, 0, 1, 0, 0], loopC Tryz.prog 75 [1, 1, 0, 1, 0, 0], .inBlock 0, codeC Tryz.prog 75 [1, 1, 1]] M) : ∀ (v0 : (List UInt8)) (v3 v4 : Int) (v45 : Bool) (Fr : Rd) (M : Mem) (r : Bool) (hH : Has Fr M []), ref01_IsName_7 F hd4 v0 v3 v4 v45 = some r → Run Tryz.prog ⟨⟨75, [], none⟩, []⟩ 50 (ref01_IsName_post r) [(0, (.str v0)), (3, (.int .i64 v3)), (4, (.int .u8 v4)), (45, (.bool v45))] [itemC Tryz.prog 75 [1, 1, 0, 1, 0, 0, 1, 0, 0, 1, 0] 14, codeC Tryz.prog 75 [1, 1, 0, 1, 0, 0, 1, 0, 0, 1, 1], .inBlock 1, codeC Tryz.prog 75 [1, 1, 0, 1, 0, 0, 1, 1], loopC Tryz.prog 75 [1, 1, 0, 1, 0, 0], .inBlock 0, codeC Tryz.prog 75 [1, 1, 1]] M := by
  intro v0 v3 v4 v45 Fr M r hH h
  rw [ref01_IsName_7] at h
  refine Run.opG wantS_none (ex_move rfl) rfl ?_
  rcases btf (v45) with hc31 | hc31
  · have h := bif_t hc31 h
    refine Run.opG (wantS_yes' rfl rfl hc31) (ex_move rfl) rfl ?_
    refine Run.opG (wantS_yes' rfl rfl hc31) (ex_neq rfl rfl) rfl ?_
    refine Run.opG wantS_none (ex_pickT' rfl hc31 rfl rfl) rfl ?_
    refine Run.opsEnd ?_
    exact Run.pick [0, 3, 49] (ref01_IsName_8_ok F hd4 hhd4 v0 v3 (!(v4 == (95 : Int))) _ _ _ hH h)
  · have h := bif_f hc31 h
    refine Run.no (wantS_not' rfl rfl hc31) rfl ?_
    refine Run.no (wantS_not' rfl rfl hc31) rfl ?_
    refine Run.opG wantS_none (ex_pickF' rfl hc31 rfl rfl) rfl ?_
    refine Run.opsEnd ?_
    exact Run.pick [0, 3, 49] (ref01_IsName_8_ok F hd4 hhd4 v0 v3 false _ _ _ hH h)

def ref01_IsName_6 (F : Nat) (hd4 : (List UInt8) → Int → Option (Bool)) (v0 : (List UInt8)) (v3 v4 : Int) (v38 v44 : Bool) : Option (Bool) :=
  ref01_IsName_7 F hd4 v0 v3 v4 (bif v38 then v44 else false)

theorem ref01_IsName_6_ok (F : Nat) (hd4 : (List UInt8) → Int → Option (Bool)) (hhd4 : ∀ (v0 : (List UInt8)) (v3 : Int) (Fr : Rd) (M : Mem) (r : Bool) (hH : Has Fr M []), hd4 v0 v3 = some r → Run Tryz.prog ⟨⟨75, [], none⟩, []⟩ 50 (ref01_IsName_post r) [(0, (.str v0)), (3, (.int .i64 v3))] [codeC Tryz.prog 75 [1, 1, 0, 1, 0, 0], loopC Tryz.prog 75 [1, 1, 0, 1, 0, 0], .inBlock 0, codeC Tryz.prog 75 [1, 1, 1]] M) : ∀ (v0 : (List UInt8)) (v3 v4 : Int) (v38 v44 : Bool) (Fr : Rd) (M : Mem) (r : Bool) (hH : Has Fr M []), ref01_IsName_6 F hd4 v0 v3 v4 v38 v44 = some r → Run Tryz.prog ⟨⟨75, [], none⟩, []⟩ 50 (ref01_IsName_post r) [(0, (.str v0)), (3, (.int .i64 v3)), (4, (.int .u8 v4)), (38, (.bool v38)), (44, (.bool v44))] [itemC Tryz.prog 75 [1, 1, 0, 1, 0, 0, 1, 0, 0, 1, 0] 13, codeC Tryz.prog 75 [1, 1, 0, 1, 0, 0, 1, 0, 0, 1, 1], .inBlock 1, codeC Tryz.prog 75 [1, 1, 0, 1, 0, 0, 1, 1], loopC Tryz.prog 75 [1, 1, 0, 1, 0, 0], .inBlock 0, codeC Tryz.prog 75 [1, 1, 1]] M := by
  intro v0 v3 v4 v38 v44 Fr M r hH h
  rw [ref01_IsName_6] at h
  refine Run.opG wantS_none (ex_pickB rfl rfl rfl) rfl ?_
  exact Run.pick [0, 3, 4, 45] (ref01_IsName_7_ok F hd4 hhd4 v0 v3 v4 (bif v38 then v44 else false) _ _ _ hH h)

def ref01_IsName_9 (F : Nat) (hd4 : (List UInt8) → Int → Option (Bool)) (v0 : (List UInt8)) (v3 v4 : Int) (v38 : Bool) : Option (Bool) :=
  bif v38 then
    none
  else
    ref01_IsName_7 F hd4 v0 v3 v4 false

theorem ref01_IsName_9_ok (F : Nat) (hd4 : (List UInt8) → Int → Option (Bool)) (hhd4 : ∀ (v0 : (List UInt8)) (v3 : Int) (Fr : Rd) (M : Mem) (r : Bool) (hH : Has Fr M []), hd4 v0 v3 = some r → Run Tryz.prog ⟨⟨75, [], none⟩, []⟩ 50 (ref01_IsName_post r) [(0, (.str v0)), (3, (.int .i64 v3))] [codeC Tryz.prog 75 [1, 1, 0, 1, 0, 0], loopC Tryz.prog 75 [1, 1, 0, 1, 0, 0], .inBlock 0, codeC Tryz.prog 75 [1, 1, 1]] M) : ∀ (v0 : (List UInt8)) (v3 v4 : Int) (v38 : Bool) (Fr : Rd) (M : Mem) (r : Bool) (hH : Has Fr M []), ref01_IsName_9 F hd4 v0 v3 v4 v38 = some r → Run Tryz.prog ⟨⟨75, [], none⟩, []⟩ 50 (ref01_IsName_post r) [(0, (.str v0)), (3, (.int .i64 v3)), (4, (.int .u8 v4)), (38, (.bool v38)), (44, (.tuple []))] [itemC Tryz.prog 75 [1, 1, 0, 1, 0, 0, 1, 0, 0, 1, 0] 13, codeC Tryz.prog 75 [1, 1, 0, 1, 0, 0, 1, 0, 0, 1, 1], .inBlock 1, codeC Tryz.prog 75 [1, 1, 0, 1, 0, 0, 1, 1], loopC Tryz.prog 75 [1, 1, 0, 1, 0, 0], .inBlock 0, codeC Tryz.prog 75 [1, 1, 1]] M := by
  intro v0 v3 v4 v38 Fr M r hH h
  rw [ref01_IsName_9] at h
  rcases btf (v38) with hc33 | hc33
  · have h := bif_t hc33 h
    cases h
  · have h := bif_f hc33 h
    refine Run.opG wantS_none (ex_pickF' rfl hc33 rfl rfl) rfl ?_
    exact Run.pick [0, 3, 4, 45] (ref01_IsName_7_ok F hd4 hhd4 v0 v3 v4 false _ _ _ hH h)

def ref01_IsName_5 (F : Nat) (hd4 : (List UInt8) → Int → Option (Bool)) (v0 : (List UInt8)) (v3 v4 : Int) (v37 : Bool) : Option (Bool) :=
  bif v37 then
    bif (decide (v4 < (48 : Int))) then
      ref01_IsName_6 F hd4 v0 v3 v4 v37 true
    else
      ref01_IsName_6 F hd4 v0 v3 v4 v37 (decide ((57 : Int) < v4))
  else
    ref01_IsName_9 F hd4 v0 v3 v4 v37

theorem ref01_IsName_5_ok (F : Nat) (hd4 : (List UInt8) → Int → Option (Bool)) (hhd4 : ∀ (v0 : (List UInt8)) (v3 : Int) (Fr : Rd) (M : Mem) (r : Bool) (hH : Has Fr M []), hd4 v0 v3 = some r → Run Tryz.prog ⟨⟨75, [], none⟩, []⟩ 50 (ref01_IsName_post r) [(0, (.str v0)), (3, (.int .i64 v3))] [codeC Tryz.prog 75 [1, 1, 0, 1, 0, 0], loopC Tryz.prog 75 [1, 1, 0, 1, 0, 0], .inBlock 0, codeC Tryz.prog 75 [1, 1, 1]] M) : ∀ (v0 : (List UInt8)) (v3 v4 : Int) (v37 : Bool) (Fr : Rd) (M : Mem) (r : Bool) (hH : Has Fr M []), ref01_IsName_5 F hd4 v0 v3 v4 v37 = some r → Run Tryz.prog ⟨⟨75, [], none⟩, []⟩ 50 (ref01_IsName_post r) [(0, (.str v0)), (3, (.int .i64 v3)), (4, (.int .u8 v4)), (37, (.bool v37))] [itemC Tryz.prog 75 [1, 1, 0, 1, 0, 0, 1, 0, 0, 1, 0] 6, codeC Tryz.prog 75 [1, 1, 0, 1, 0, 0, 1, 0, 0, 1, 1], .inBlock 1, codeC Tryz.prog 75 [1, 1, 0, 1, 0, 0, 1, 1], loopC Tryz.prog 75 [1, 1, 0, 1, 0, 0], .inBlock 0, codeC Tryz.prog 75 [1, 1, 1]] M := by
  intro v0 v3 v4 v37 Fr M r hH h
  rw [ref01_IsName_5] at h
  refine Run.opG wantS_none (ex_move rfl) rfl ?_
  rcases btf (v37) with hc29 | hc29
  · have h := bif_t hc29 h
    refine Run.opG (wantS_yes' rfl rfl hc29) (ex_move rfl) rfl ?_
    refine Run.opG (wantS_yes' rfl rfl hc29) (ex_lss rfl rfl) rfl ?_
    refine Run.opG (wantS_yes' rfl rfl hc29) (ex_move rfl) rfl ?_
    rcases btf ((decide (v4 < (48 : Int)))) with hc30 | hc30
    · have h := bif_t hc30 h
      refine Run.no (wantS_not' rfl rfl hc30) rfl ?_
      refine Run.no (wantS_not' rfl rfl hc30) rfl ?_
      refine Run.opG (wantS_yes' rfl rfl hc29) (ex_pickT' rfl hc30 rfl rfl) rfl ?_
      exact Run.pick [0, 3, 4, 38, 44] (ref01_IsName_6_ok F hd4 hhd4 v0 v3 v4 v37 true _ _ _ hH h)
    · have h := bif_f hc30 h
      refine Run.opG (wantS_yes' rfl rfl hc30) (ex_move rfl) rfl ?_
      refine Run.opG (wantS_yes' rfl rfl hc30) (ex_gtr rfl rfl) rfl ?_
      refine Run.opG (wantS_yes' rfl rfl hc29) (ex_pickF' rfl hc30 rfl rfl) rfl ?_
      exact Run.pick [0, 3, 4, 38, 44] (ref01_IsName_6_ok F hd4 hhd4 v0 v3 v4 v37 (decide ((57 : Int) < v4)) _ _ _ hH h)
  · have h := bif_f hc29 h
    refine Run.no (wantS_not' rfl rfl hc29) rfl ?_
    refine Run.no (wantS_not' rfl rfl hc29) rfl ?_
    refine Run.no (wantS_not' rfl rfl hc29) rfl ?_
    refine Run.no (wantS_skip rfl rfl) rfl ?_
    refine Run.no (wantS_skip rfl rfl) rfl ?_
    refine Run.no (wantS_not' rfl rfl hc29) rfl ?_
    exact Run.pick [0, 3, 4, 38, 44] (ref01_IsName_9_ok F hd4 hhd4 v0 v3 v4 v37 _ _ _ hH h)

def ref01_IsName_4 (F : Nat) : Nat → (List UInt8) → Int → Option (Bool)
  | 0, _, _ => none
  | N + 1, v0, v3 =>
    bif (decide (v3 < (v0.length : Int))) then
      bnd (sAt v0 v3) fun z27 =>
      bif (decide (z27 < (97 : Int))) then
        ref01_IsName_5 F (ref01_IsName_4 F N) v0 v3 z27 true
      else
        ref01_IsName_5 F (ref01_IsName_4 F N) v0 v3 z27 (decide ((122 : Int) < z27))
    else
      some true

theorem ref01_IsName_4_ok (F : Nat) : ∀ (N : Nat), ∀ (v0 : (List UInt8)) (v3 : Int) (Fr : Rd) (M : Mem) (r : Bool) (hH : Has Fr M []), ref01_IsName_4 F N v0 v3 = some r → Run Tryz.prog ⟨⟨75, [], none⟩, []⟩ 50 (ref01_IsName_post r) [(0, (.str v0)), (3, (.int .i64 v3))] [codeC Tryz.prog 75 [1, 1, 0, 1, 0, 0], loopC Tryz.prog 75 [1, 1, 0, 1, 0, 0], .inBlock 0, codeC Tryz.prog 75 [1, 1, 1]] M := by
  intro N
  induction N with
  | zero =>
    intro v0 v3 Fr M r hH h
    simp [ref01_IsName_4] at h
  | succ N ih =>
    intro v0 v3 Fr M r hH h
    rw [ref01_IsName_4] at h
    refine Run.seq (Run.seq (Run.region ?_))
    refine Run.opG wantS_none (ex_move rfl) rfl ?_
    refine Run.opG wantS_none (ex_move rfl) rfl ?_
    refine Run.opG wantS_none (ex_lenS rfl lenk9) rfl ?_
    refine Run.opG wantS_none (ex_lss rfl rfl) rfl ?_
    refine Run.opsEnd ?_
    rcases btf ((decide (v3 < (v0.length : Int)))) with hc25 | hc25
    · have h := bif_t hc25 h
      refine Run.condT' rfl hc25 ?_
      refine Run.skip (Run.seq (Run.block (Run.seq (Run.region ?_))))
      refine Run.opG wantS_none (ex_move rfl) rfl ?_
      refine Run.opG wantS_none (ex_move rfl) rfl ?_
      obtain ⟨z27, hz27, h⟩ := bnd_some h
      refine Run.opG wantS_none (ex_sAt rfl rfl whs9 hz27) rfl ?_
      refine Run.opG wantS_none (ex_assign rfl) rfl ?_
      refine Run.opsEnd (Run.seq (Run.region ?_))
      refine Run.opG wantS_none (ex_move rfl) rfl ?_
      refine Run.opG wantS_none (ex_lss rfl rfl) rfl ?_
      refine Run.opG wantS_none (ex_move rfl) rfl ?_
      rcases btf ((decide (z27 < (97 : Int)))) with hc28 | hc28
      · have h := bif_t hc28 h
        refine Run.no (wantS_not' rfl rfl hc28) rfl ?_
        refine Run.no (wantS_not' rfl rfl hc28) rfl ?_
        refine Run.opG wantS_none (ex_pickT' rfl hc28 rfl rfl) rfl ?_
        exact Run.pick [0, 3, 4, 37] (ref01_IsName_5_ok F (ref01_IsName_4 F N) ih v0 v3 z27 true _ _ _ hH h)
      · have h := bif_f hc28 h
        refine Run.opG (wantS_yes' rfl rfl hc28) (ex_move rfl) rfl ?_
        refine Run.opG (wantS_yes' rfl rfl hc28) (ex_gtr rfl rfl) rfl ?_
        refine Run.opG wantS_none (ex_pickF' rfl hc28 rfl rfl) rfl ?_
        exact Run.pick [0, 3, 4, 37] (ref01_IsName_5_ok F (ref01_IsName_4 F N) ih v0 v3 z27 (decide ((122 : Int) < z27)) _ _ _ hH h)
    · have h := bif_f hc25 h
      refine Run.condF' rfl hc25 ?_
      refine Run.exit rfl (Run.seq (Run.region ?_))
      refine Run.opG wantS_none (ex_assign rfl) rfl ?_
      refine Run.opsEnd ?_
      cases h
      exact Run.ret Tryz.func75 rfl (res_tmp rfl res_nil) rfl

def ref01_IsName_3 (F : Nat) (v0 : (List UInt8)) (v22 : Bool) : Option (Bool) :=
  bif v22 then
    some false
  else
    ref01_IsName_4 F F v0 (0 : Int)

theorem ref01_IsName_3_ok (F : Nat) : ∀ (v0 : (List UInt8)) (v22 : Bool) (Fr : Rd) (M : Mem) (r : Bool) (hH : Has Fr M []), ref01_IsName_3 F v0 v22 = some r → Run Tryz.prog ⟨⟨75, [], none⟩, []⟩ 50 (ref01_IsName_post r) [(0, (.str v0)), (22, (.bool v22))] [codeC Tryz.prog 75 [1, 0, 1], codeC Tryz.prog 75 [1, 1]] M := by
  intro v0 v22 Fr M r hH h
  rw [ref01_IsName_3] at h
  rcases btf (v22) with hc24 | hc24
  · have h := bif_t hc24 h
    refine Run.condT' rfl hc24 ?_
    refine Run.seq (Run.region ?_)
    refine Run.opG wantS_none (ex_assign rfl) rfl ?_
    refine Run.opsEnd ?_
    cases h
    exact Run.ret Tryz.func75 rfl (res_tmp rfl res_nil) rfl
  · have h := bif_f hc24 h
    refine Run.condF' rfl hc24 ?_
    refine Run.skip (Run.seq (Run.seq (Run.region ?_)))
    refine Run.opG wantS_none (ex_assign rfl) rfl ?_
    refine Run.opsEnd (Run.block (Run.loop ?_))
    exact Run.pick [0, 3] (ref01_IsName_4_ok F F v0 (0 : Int) _ _ _ hH h)

def ref01_IsName_2 (F : Nat) (v0 : (List UInt8)) (v17 : Bool) : Option (Bool) :=
  bif v17 then
    ref01_IsName_3 F v0 true
  else
    bnd (sAt v0 (0 : Int)) fun z35 =>
    ref01_IsName_3 F v0 (decide ((122 : Int) < z35))

theorem ref01_IsName_2_ok (F : Nat) : ∀ (v0 : (List UInt8)) (v17 : Bool) (Fr : Rd) (M : Mem) (r : Bool) (hH : Has Fr M []), ref01_IsName_2 F v0 v17 = some r → Run Tryz.prog ⟨⟨75, [], none⟩, []⟩ 50 (ref01_IsName_post r) [(0, (.str v0)), (17, (.bool v17))] [itemC Tryz.prog 75 [1, 0, 0] 13, codeC Tryz.prog 75 [1, 0, 1], codeC Tryz.prog 75 [1, 1]] M := by
  intro v0 v17 Fr M r hH h
  rw [ref01_IsName_2] at h
  refine Run.opG wantS_none (ex_move rfl) rfl ?_
  rcases btf (v17) with hc23 | hc23
  · have h := bif_t hc23 h
    refine Run.no (wantS_not' rfl rfl hc23) rfl ?_
    refine Run.no (wantS_not' rfl rfl hc23) rfl ?_
    refine Run.no (wantS_not' rfl rfl hc23) rfl ?_
    refine Run.opG wantS_none (ex_pickT' rfl hc23 rfl rfl) rfl ?_
    refine Run.opsEnd ?_
    exact Run.pick [0, 22] (ref01_IsName_3_ok F v0 true _ _ _ hH h)
  · have h := bif_f hc23 h
    refine Run.opG (wantS_yes' rfl rfl hc23) (ex_move rfl) rfl ?_
    obtain ⟨z35, hz35, h⟩ := bnd_some h
    refine Run.opG (wantS_yes' rfl rfl hc23) (ex_sAt rfl rfl whs9 hz35) rfl ?_
    refine Run.opG (wantS_yes' rfl rfl hc23) (ex_gtr rfl rfl) rfl ?_
    refine Run.opG wantS_none (ex_pickF' rfl hc23 rfl rfl) rfl ?_
    refine Run.opsEnd ?_
    exact Run.pick [0, 22] (ref01_IsName_3_ok F v0 (decide ((122 : Int) < z35)) _ _ _ hH h)

def ref01_IsName_1 (F : Nat) (v0 : (List UInt8)) (v12 : Bool) : Option (Bool) :=
  bif v12 then
    ref01_IsName_2 F v0 true
  else
    bnd (sAt v0 (0 : Int)) fun z37 =>
    ref01_IsName_2 F v0 (decide (z37 < (97 : Int)))

theorem ref01_IsName_1_ok (F : Nat) : ∀ (v0 : (List UInt8)) (v12 : Bool) (Fr : Rd) (M : Mem) (r : Bool) (hH : Has Fr M []), ref01_IsName_1 F v0 v12 = some r → Run Tryz.prog ⟨⟨75, [], none⟩, []⟩ 50 (ref01_IsName_post r) [(0, (.str v0)), (12, (.bool v12))] [itemC Tryz.prog 75 [1, 0, 0] 8, codeC Tryz.prog 75 [1, 0, 1], codeC Tryz.prog 75 [1, 1]] M := by
  intro v0 v12 Fr M r hH h
  rw [ref01_IsName_1] at h
  refine Run.opG wantS_none (ex_move rfl) rfl ?_
  rcases btf (v12) with hc22 | hc22
  · have h := bif_t hc22 h
    refine Run.no (wantS_not' rfl rfl hc22) rfl ?_
    refine Run.no (wantS_not' rfl rfl hc22) rfl ?_
    refine Run.no (wantS_not' rfl rfl hc22) rfl ?_
    refine Run.opG wantS_none (ex_pickT' rfl hc22 rfl rfl) rfl ?_
    exact Run.pick [0, 17] (ref01_IsName_2_ok F v0 true _ _ _ hH h)
  · have h := bif_f hc22 h
    refine Run.opG (wantS_yes' rfl rfl hc22) (ex_move rfl) rfl ?_
    obtain ⟨z37, hz37, h⟩ := bnd_some h
    refine Run.opG (wantS_yes' rfl rfl hc22) (ex_sAt rfl rfl whs9 hz37) rfl ?_
    refine Run.opG (wantS_yes' rfl rfl hc22) (ex_lss rfl rfl) rfl ?_
    refine Run.opG wantS_none (ex_pickF' rfl hc22 rfl rfl) rfl ?_
    exact Run.pick [0, 17] (ref01_IsName_2_ok F v0 (decide (z37 < (97 : Int))) _ _ _ hH h)

def ref01_IsName (F : Nat) (a0 : (List UInt8)) : Option (Bool) :=
  bif (decide ((a0.length : Int) < (1 : Int))) then
    ref01_IsName_1 F a0 true
  else
    ref01_IsName_1 F a0 (decide ((16 : Int) < (a0.length : Int)))

theorem ref01_IsName_ok (F : Nat) (a0 : (List UInt8)) (r : Bool) (M : Mem) (h : ref01_IsName F a0 = some r) : CallsM Tryz.prog 75 [(.str a0)] M (fun s M' => s = (.bool r) ∧ M' = M) := by
  refine CallsM.plain Tryz.func75 rfl rfl rfl (show Run _ _ _ (ref01_IsName_post r) _ _ _ from ?_)
  rw [ref01_IsName] at h
  have hH := Has.nil (frozen M)
  refine Run.seq (Run.region ?_)
  refine Run.opG wantS_none (ex_assign rfl) rfl ?_
  refine Run.opsEnd (Run.seq (Run.seq (Run.region ?_)))
  refine Run.opG wantS_none (ex_move rfl) rfl ?_
  refine Run.opG wantS_none (ex_lenS rfl lenk9) rfl ?_
  refine Run.opG wantS_none (ex_lss rfl rfl) rfl ?_
  refine Run.opG wantS_none (ex_move rfl) rfl ?_
  rcases btf ((decide ((a0.length : Int) < (1 : Int)))) with hc21 | hc21
  · have h := bif_t hc21 h
    refine Run.no (wantS_not' rfl rfl hc21) rfl ?_
    refine Run.no (wantS_not' rfl rfl hc21) rfl ?_
    refine Run.no (wantS_not' rfl rfl hc21) rfl ?_
    refine Run.opG wantS_none (ex_pickT' rfl hc21 rfl rfl) rfl ?_
    exact Run.pick [0, 12] (ref01_IsName_1_ok F a0 true _ _ _ hH h)
  · have h := bif_f hc21 h
    refine Run.opG (wantS_yes' rfl rfl hc21) (ex_move rfl) rfl ?_
    refine Run.opG (wantS_yes' rfl rfl hc21) (ex_lenS rfl lenk9) rfl ?_
    refine Run.opG (wantS_yes' rfl rfl hc21) (ex_gtr rfl rfl) rfl ?_
    refine Run.opG wantS_none (ex_pickF' rfl hc21 rfl rfl) rfl ?_
    exact Run.pick [0, 12] (ref01_IsName_1_ok F a0 (decide ((16 : Int) < (a0.length : Int))) _ _ _ hH h)

theorem mkk75 : makeK Tryz.prog 75 = none := by kernel_rfl
theorem cal75 : callable Tryz.prog 75 = true := by kernel_rfl
theorem els22 : elems Tryz.prog 22 = some (.arr 3 1) := by kernel_rfl
abbrev ref09_vector_post (r : Bool) : SV → Mem → Prop := fun s _ => s = (.bool r)

def ref09_vector_2 (F : Nat) (v26 : Bool) : Option (Bool) :=
  some v26

theorem ref09_vector_2_ok (F : Nat) : ∀ (v26 : Bool) (Fr : Rd) (M : Mem) (r : Bool) (hH : Has Fr M []), ref09_vector_2 F v26 = some r → Run Tryz.prog ⟨⟨77, [], none⟩, []⟩ 27 (ref09_vector_post r) [(26, (.bool v26))] [itemC Tryz.prog 77 [1, 0] 22, codeC Tryz.prog 77 [1, 1]] M := by
  intro v26 Fr M r hH h
  rw [ref09_vector_2] at h
  refine Run.opG wantS_none (ex_assign rfl) rfl ?_
  refine Run.opsEnd ?_
  cases h
  exact Run.ret Tryz.func77 rfl (res_tmp rfl res_nil) rfl

def ref09_vector_1 (F : Nat) (v1 : Int) (v18 : Bool) (c22 : S__3_int) : Option (Bool) :=
  bif v18 then
    bnd (ref00_In F c22.e2 (w64 (-v1)) v1) fun r39 =>
    ref09_vector_2 F r39
  else
    ref09_vector_2 F false

theorem ref09_vector_1_ok (F : Nat) : ∀ (v1 : Int) (v18 : Bool) (c22 : S__3_int) (b22 : Pos) (Fr : Rd) (M : Mem) (r : Bool) (hH : Has Fr M [.obj b22 (.row 22 .whole [(.int .i64 c22.e0), (.int .i64 c22.e1), (.int .i64 c22.e2)])]), ref09_vector_1 F v1 v18 c22 = some r → Run Tryz.prog ⟨⟨77, [], none⟩, []⟩ 27 (ref09_vector_post r) [(1, (.int .i64 v1)), (2, (.ptr b22 0)), (18, (.bool v18))] [itemC Tryz.prog 77 [1, 0] 14, codeC Tryz.prog 77 [1, 1]] M := by
  intro v1 v18 c22 b22 Fr M r hH h
  rw [ref09_vector_1] at h
  refine Run.opG wantS_none (ex_move rfl) rfl ?_
  rcases btf (v18) with hc35 | hc35
  · have h := bif_t hc35 h
    refine Run.opG (wantS_yes' rfl rfl hc35) (ex_elX rfl rfl (arr_place (j := 2) rfl els22)) rfl ?_
    refine Run.opG (wantS_yes' rfl rfl hc35) (ex_load1 rfl (hH.cells (i := 0) rfl 2 rfl) rdLe_rfl agg3) rfl ?_
    refine Run.opG (wantS_yes' rfl rfl hc35) (ex_move rfl) rfl ?_
    refine Run.opG (wantS_yes' rfl rfl hc35) (ex_neg rfl) rfl ?_
    refine Run.opG (wantS_yes' rfl rfl hc35) (ex_move rfl) rfl ?_
    obtain ⟨r39, hr39, h⟩ := bnd_some h
    refine Run.callP (wantS_yes' rfl rfl hc35) (ex_call rfl mkk36 cal36) rfl (ref00_In_ok F c22.e2 (w64 (-v1)) v1 _ _ hr39) ?_
    refine Run.opG wantS_none (ex_pickT' rfl hc35 rfl rfl) rfl ?_
    exact Run.pick [26] (ref09_vector_2_ok F r39 _ _ _ (hH.pick [] rfl rfl) h)
  · have h := bif_f hc35 h
    refine Run.no (wantS_not' rfl rfl hc35) rfl ?_
    refine Run.no (wantS_not' rfl rfl hc35) rfl ?_
    refine Run.no (wantS_not' rfl rfl hc35) rfl ?_
    refine Run.no (wantS_not' rfl rfl hc35) rfl ?_
    refine Run.no (wantS_not' rfl rfl hc35) rfl ?_
    refine Run.no (wantS_not' rfl rfl hc35) rfl ?_
    refine Run.opG wantS_none (ex_pickF' rfl hc35 rfl rfl) rfl ?_
    exact Run.pick [26] (ref09_vector_2_ok F false _ _ _ (hH.pick [] rfl rfl) h)

def ref09_vector (F : Nat) (a0 : S__3_int) (a1 : Int) : Option (Bool) :=
  bnd (ref00_In F a0.e0 (w64 (-a1)) a1) fun r27 =>
  bif r27 then
    bnd (ref00_In F a0.e1 (w64 (-a1)) a1) fun r33 =>
    ref09_vector_1 F a1 r33 a0
  else
    ref09_vector_1 F a1 false a0

theorem ref09_vector_ok (F : Nat) (a0 : S__3_int) (a1 : Int) (r : Bool) (M : Mem) (h : ref09_vector F a0 a1 = some r) : CallsM Tryz.prog 77 [(.agg [(.int .i64 a0.e0), (.int .i64 a0.e1), (.int .i64 a0.e2)]), (.int .i64 a1)] M (fun s M' => s = (.bool r) ∧ M' = M) := by
  refine CallsM.plain Tryz.func77 rfl rfl rfl (show Run _ _ _ (ref09_vector_post r) _ _ _ from ?_)
  rw [ref09_vector] at h
  have hH := Has.nil (frozen M)
  refine Run.seq (Run.region ?_)
  refine Run.opX wantS_none rfl (ExG.box rfl rfl hH) ?_
  rintro _ M23 ⟨b22, rfl, hH23⟩
  refine Run.opG wantS_none (ex_assign rfl) rfl ?_
  refine Run.opsEnd (Run.seq (Run.region ?_))
  refine Run.opG wantS_none (ex_elX rfl rfl (arr_place (j := 0) rfl els22)) rfl ?_
  refine Run.opG wantS_none (ex_load1 rfl (hH23.cells (i := 0) rfl 0 rfl) rdLe_rfl agg3) rfl ?_
  refine Run.opG wantS_none (ex_move rfl) rfl ?_
  refine Run.opG wantS_none (ex_neg rfl) rfl ?_
  refine Run.opG wantS_none (ex_move rfl) rfl ?_
  obtain ⟨r27, hr27, h⟩ := bnd_some h
  refine Run.callP wantS_none (ex_call rfl mkk36 cal36) rfl (ref00_In_ok F a0.e0 (w64 (-a1)) a1 _ _ hr27) ?_
  refine Run.opG wantS_none (ex_move rfl) rfl ?_
  rcases btf (r27) with hc29 | hc29
  · have h := bif_t hc29 h
    refine Run.opG (wantS_yes' rfl rfl hc29) (ex_elX rfl rfl (arr_place (j := 1) rfl els22)) rfl ?_
    refine Run.opG (wantS_yes' rfl rfl hc29) (ex_load1 rfl (hH23.cells (i := 0) rfl 1 rfl) rdLe_rfl agg3) rfl ?_
    refine Run.opG (wantS_yes' rfl rfl hc29) (ex_move rfl) rfl ?_
    refine Run.opG (wantS_yes' rfl rfl hc29) (ex_neg rfl) rfl ?_
    refine Run.opG (wantS_yes' rfl rfl hc29) (ex_move rfl) rfl ?_
    obtain ⟨r33, hr33, h⟩ := bnd_some h
    refine Run.callP (wantS_yes' rfl rfl hc29) (ex_call rfl mkk36 cal36) rfl (ref00_In_ok F a0.e1 (w64 (-a1)) a1 _ _ hr33) ?_
    refine Run.opG wantS_none (ex_pickT' rfl hc29 rfl rfl) rfl ?_
    exact Run.pick [1, 2, 18] (ref09_vector_1_ok F a1 r33 a0 b22 _ _ _ hH23 h)
  · have h := bif_f hc29 h
    refine Run.no (wantS_not' rfl rfl hc29) rfl ?_
    refine Run.no (wantS_not' rfl rfl hc29) rfl ?_
    refine Run.no (wantS_not' rfl rfl hc29) rfl ?_
    refine Run.no (wantS_not' rfl rfl hc29) rfl ?_
    refine Run.no (wantS_not' rfl rfl hc29) rfl ?_
    refine Run.no (wantS_not' rfl rfl hc29) rfl ?_
    refine Run.opG wantS_none (ex_pickF' rfl hc29 rfl rfl) rfl ?_
    exact Run.pick [1, 2, 18] (ref09_vector_1_ok F a1 false a0 b22 _ _ _ hH23 h)

theorem mkk77 : makeK Tryz.prog 77 = none := by kernel_rfl
theorem cal77 : callable Tryz.prog 77 = true := by kernel_rfl
theorem zer22 : zerosOf Tryz.prog 22 = some [(.int .i64 0), (.int .i64 0), (.int .i64 0)] := by kernel_rfl
theorem pls22 : placesOf Tryz.prog 22 = some (.ar 1) := by kernel_rfl
theorem agk22 : aggK Tryz.prog 22 = some (.ar 3 3 1) := by kernel_rfl
theorem aeq22 : aggEq Tryz.prog 22 = false := by kernel_rfl
theorem plan115_1_1_0_1_0_0_1_0_0_1_1_1_0_0_1_0_0 : planOf Tryz.prog (opsC (atC Tryz.prog 115 [1, 1, 0, 1, 0, 0, 1, 0, 0, 1, 1, 1, 0, 0, 1, 0, 0])) = some [.fl 0, .fl 1, .fl 2, .fl 3, .fl 4, .fl 5, .fl 6, .fl 7, .fl 8, .fl 9, .fl 10, .an 11 [], .sync] := by kernel_rfl
end Go.Ev.SkyRings
