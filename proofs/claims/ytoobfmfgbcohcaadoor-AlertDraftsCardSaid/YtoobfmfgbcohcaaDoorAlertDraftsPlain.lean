/- Plain functions that say what functions of the program come to, and proofs of it, written by a program of the verifier's own. -/
import Derived.Test.YtoobfmfgbcohcaaDoorShelf
import Derived.Test.YtoobfmfgbcohcaaDoorEvL18
import Derived.Test.YtoobfmfgbcohcaaDoorWorks
import Derived.KernelRfl
namespace Go.Ev.AlertDrafts
open Go Go.Ev Go.Proofs
set_option maxRecDepth 100000
set_option linter.unusedVariables false

noncomputable def fixes : List (Nat × List SV) := Go.Proofs.YtoobfmfgbcohcaaDoor.works.fixes
noncomputable def tb0 : Ent := fixE (1, intCells .u8 [0, 1, 28, 2, 29, 14, 24, 3, 30, 22, 20, 15, 25, 17, 4, 8, 31, 27, 13, 23, 21, 19, 16, 7, 26, 12, 18, 6, 11, 5, 10, 9])
noncomputable def tb1 : Ent := fixE (2, intCells .u8 [0, 1, 56, 2, 57, 49, 28, 3, 61, 58, 42, 50, 38, 29, 17, 4, 62, 47, 59, 36, 45, 43, 51, 22, 53, 39, 33, 30, 24, 18, 12, 5, 63, 55, 48, 27, 60, 41, 37, 16, 46, 35, 44, 21, 52, 32, 23, 11, 54, 26, 40, 15, 34, 20, 31, 10, 25, 14, 19, 9, 13, 8, 7, 6])
noncomputable def tb2 : Ent := fixE (0, intCells .u64 [1, 10, 100, 1000, 10000, 100000, 1000000, 10000000, 100000000, 1000000000, 10000000000, 100000000000, 1000000000000, 10000000000000, 100000000000000, 1000000000000000, 10000000000000000, 100000000000000000, 1000000000000000000, 10000000000000000000])
def works (_ : Nat) : Option Bool := some true
theorem fixH {Fr : Rd} {H : List Ent} {M : Mem} (hH : Has Fr M H) (h0 : tb0 ∈ H) (h1 : tb1 ∈ H) (h2 : tb2 ∈ H) : FixIn M fixes := by
  refine hH.fixIn fun x hx => ?_
  simp only [fixes, Go.Proofs.YtoobfmfgbcohcaaDoor.works.fixes, List.mem_cons, List.not_mem_nil, or_false] at hx
  rcases hx with rfl | rfl | rfl
  · exact h0
  · exact h1
  · exact h2

theorem works_ok (F : Nat) (r : Bool) {Fr : Rd} {H : List Ent} (M : Mem) (hH : Has Fr M H) (h0 : tb0 ∈ H) (h1 : tb1 ∈ H) (h2 : tb2 ∈ H) (h : works F = some r) : CallsM Tryd.prog 14 [] M fun s M' => s = .bool r ∧ M' = M := by
  cases h
  refine CallsM.closedFix (n := 300) (l := Go.Proofs.YtoobfmfgbcohcaaDoor.works.fixes) Go.Proofs.YtoobfmfgbcohcaaDoor.works.below Go.Proofs.YtoobfmfgbcohcaaDoor.works.plainF Go.Proofs.YtoobfmfgbcohcaaDoor.works.works_true (hH.fixIn fun x hx => ?_)
  simp only [Go.Proofs.YtoobfmfgbcohcaaDoor.works.fixes, List.mem_cons, List.not_mem_nil, or_false] at hx
  rcases hx with rfl | rfl | rfl
  · exact h0
  · exact h1
  · exact h2

def itoa (_ : Nat) (n : Int) : Option (List UInt8) := bif decide (-9223372036854775808 ≤ n) && decide (n ≤ 9223372036854775807) then some (Lib.itoa n) else none
theorem below_grown (w : World) (k : Nat) (os : Array Obj) : Go.RowKit.Below w.heap.size w (Sort.grow (w.drewN k) os) :=
  ⟨rfl, rfl, rfl, by simp [Sort.grow, World.drewN], fun i hi => by simp [Sort.grow, World.drewN, Array.getElem?_append, hi]⟩
theorem itoa_ok (F : Nat) (a0 : Int) (r : List UInt8) (M : Mem) (hfx : FixIn M fixes) (h : itoa F a0 = some r) : CallsM Tryd.prog 105 [.int .i64 a0] M fun s M' => s = .str r ∧ M' = M := by
  unfold itoa at h
  cases hb : (decide (-9223372036854775808 ≤ a0) && decide (a0 ≤ 9223372036854775807)) with
  | false => rw [hb] at h; simp at h
  | true =>
    rw [hb] at h
    obtain rfl := Option.some.inj h
    rw [Bool.and_eq_true, decide_eq_true_eq, decide_eq_true_eq] at hb
    refine CallsM.known (n := 300) (l := fixes) (vs := [.int .i64 a0]) (v := .string ⟨(Lib.itoa a0).toArray⟩) (fun _ => rfl) (fun _ => rfl) Go.Proofs.YtoobfmfgbcohcaaDoor.works.below Go.Proofs.YtoobfmfgbcohcaaDoor.works.plainF (fun w m hr => ?_) hfx
    refine (Tryd.strconv_Itoa a0 hb.1 hb.2 w (tab_is hr (List.mem_of_getElem? (i := 2) rfl) rfl (by kernel_rfl))).mono ?_
    rintro e w' ⟨rfl, k, os, rfl⟩
    exact ⟨rfl, below_grown w k os⟩


structure S_api_Chance where
  N : Int
  Of : Int

structure S_api_Alert where
  Event : (List UInt8)
  Version : Int
  Time : Int
  Chance : S_api_Chance
  Grid : Int
  Cells : (List Int)
  Withdrawn : Bool
  Before : Int

structure S_api_Pair where
  A : Int
  B : Int
  Loud : Int

structure S_api_Candidate where
  Pair : S_api_Pair
  Chance : S_api_Chance

structure S_ringdownlaw10_Idea where
  Event : (List UInt8)
  Time : Int
  C : S_api_Candidate
  Limit : Int
  Grid : Int
  Cells : (List Int)

def enc3 (a : Int) : List SV := [(.int .i64 a)]
theorem enc3_len (a : Int) : (enc3 a).length = 1 := rfl
theorem enc3_ones (a : Int) : ones (enc3 a) = true := rfl
theorem off55_0 : fieldOff Tryd.prog 55 0 = some 0 := by kernel_rfl
theorem agg9 : aggSize Tryd.prog 9 = some none := by kernel_rfl
theorem off55_1 : fieldOff Tryd.prog 55 1 = some 1 := by kernel_rfl
theorem agg3 : aggSize Tryd.prog 3 = some none := by kernel_rfl
theorem off55_2 : fieldOff Tryd.prog 55 2 = some 2 := by kernel_rfl
theorem agg53 : aggSize Tryd.prog 53 = some (some 5) := by kernel_rfl
theorem off55_3 : fieldOff Tryd.prog 55 3 = some 7 := by kernel_rfl
theorem off55_4 : fieldOff Tryd.prog 55 4 = some 8 := by kernel_rfl
theorem off55_5 : fieldOff Tryd.prog 55 5 = some 9 := by kernel_rfl
theorem agg27 : aggSize Tryd.prog 27 = some none := by kernel_rfl
theorem zer29 : zerosOf Tryd.prog 29 = some [(.str []), (.int .i64 0), (.int .i64 0), (.int .i64 0), (.int .i64 0), (.int .i64 0), .nils, (.bool false), (.int .i64 0)] := by kernel_rfl
theorem off53_1 : fieldOff Tryd.prog 53 1 = some 3 := by kernel_rfl
theorem off26_0 : fieldOff Tryd.prog 26 0 = some 0 := by kernel_rfl
theorem pls29 : placesOf Tryd.prog 29 = some (.st [(0, 1), (1, 1), (2, 1), (3, 2), (5, 1), (6, 1), (7, 1), (8, 1)]) := by kernel_rfl
theorem sz29 : szOf Tryd.prog 29 = some 9 := by kernel_rfl
theorem agg29 : aggSize Tryd.prog 29 = some (some 9) := by kernel_rfl
theorem agg26 : aggSize Tryd.prog 26 = some (some 2) := by kernel_rfl
theorem off29_0 : fieldOff Tryd.prog 29 0 = some 0 := by kernel_rfl
theorem lenk9 : lenK Tryd.prog 9 = some .str := by kernel_rfl
theorem uvk9_108 : uvK Tryd.prog 9 108 = none := by kernel_rfl
theorem cvk9_108 : cvK Tryd.prog 9 108 = some (.bytes 5) := by kernel_rfl
def enc5 (a : Int) : List SV := [(.int .u8 a)]
theorem enc5_len (a : Int) : (enc5 a).length = 1 := rfl
theorem enc5_ones (a : Int) : ones (enc5 a) = true := rfl
theorem lenk108 : lenK Tryd.prog 108 = some .sl := by kernel_rfl
theorem els108 : elems Tryd.prog 108 = some (.sl 1) := by kernel_rfl
theorem agg5 : aggSize Tryd.prog 5 = some none := by kernel_rfl
abbrev num_IsName_post (r : Bool) : SV → Mem → Prop := fun s _ => s = (.bool r)

def num_IsName_7 (F : Nat) (hd2 : (List Int) → Int → Int → Option (Bool)) (v16 : (List Int)) (v17 v18 : Int) (v48 : Bool) : Option (Bool) :=
  bif v48 then
    some false
  else
    hd2 v16 v17 (w64 (v18 + (1 : Int)))

theorem num_IsName_7_ok (F : Nat) (hd2 : (List Int) → Int → Int → Option (Bool)) (hhd2 : ∀ (v16 : (List Int)) (v17 v18 : Int) (sv16 : SV) (Fr : Rd) (M : Mem) (r : Bool) (hv16 : Slc Fr 1 (FlatR enc5) sv16 v16) (hH : Has Fr M []), hd2 v16 v17 v18 = some r → Run Tryd.prog ⟨⟨70, [], none⟩, []⟩ 50 (num_IsName_post r) [(16, sv16), (17, (.int .i64 v17)), (18, (.int .i64 v18))] [codeC Tryd.prog 70 [1, 1, 0, 1, 0, 0], loopC Tryd.prog 70 [1, 1, 0, 1, 0, 0], .inBlock 0, codeC Tryd.prog 70 [1, 1, 1]] M) : ∀ (v16 : (List Int)) (v17 v18 : Int) (v48 : Bool) (sv16 : SV) (Fr : Rd) (M : Mem) (r : Bool) (hv16 : Slc Fr 1 (FlatR enc5) sv16 v16) (hH : Has Fr M []), num_IsName_7 F hd2 v16 v17 v18 v48 = some r → Run Tryd.prog ⟨⟨70, [], none⟩, []⟩ 50 (num_IsName_post r) [(16, sv16), (17, (.int .i64 v17)), (18, (.int .i64 v18)), (48, (.bool v48))] [codeC Tryd.prog 70 [1, 1, 0, 1, 0, 0, 1, 1, 0, 0, 1, 1, 1, 1], .inBlock 1, codeC Tryd.prog 70 [1, 1, 0, 1, 0, 0, 1, 1, 1], loopC Tryd.prog 70 [1, 1, 0, 1, 0, 0], .inBlock 0, codeC Tryd.prog 70 [1, 1, 1]] M := by
  intro v16 v17 v18 v48 sv16 Fr M r hv16 hH h
  rw [num_IsName_7] at h
  rcases btf (v48) with hc37 | hc37
  · have h := bif_t hc37 h
    refine Run.condT' rfl hc37 ?_
    refine Run.seq (Run.region ?_)
    refine Run.opG wantS_none (ex_assign rfl) rfl ?_
    refine Run.opsEnd ?_
    cases h
    exact Run.ret Tryd.func70 rfl (res_tmp rfl res_nil) rfl
  · have h := bif_f hc37 h
    refine Run.condF' rfl hc37 ?_
    refine Run.skip (Run.inBlock (Run.region ?_))
    refine Run.opG wantS_none (ex_add rfl rfl) rfl ?_
    refine Run.opG wantS_none (ex_move rfl) rfl ?_
    refine Run.opsEnd (Run.inLoop ?_)
    exact Run.pick [16, 17, 18] (hhd2 v16 v17 (w64 (v18 + (1 : Int))) sv16 _ _ _ hv16 hH h)

def num_IsName_6 (F : Nat) (hd2 : (List Int) → Int → Int → Option (Bool)) (v16 : (List Int)) (v17 v18 : Int) (v41 v46 : Bool) : Option (Bool) :=
  bif v41 then
    num_IsName_7 F hd2 v16 v17 v18 (!v46)
  else
    num_IsName_7 F hd2 v16 v17 v18 false

theorem num_IsName_6_ok (F : Nat) (hd2 : (List Int) → Int → Int → Option (Bool)) (hhd2 : ∀ (v16 : (List Int)) (v17 v18 : Int) (sv16 : SV) (Fr : Rd) (M : Mem) (r : Bool) (hv16 : Slc Fr 1 (FlatR enc5) sv16 v16) (hH : Has Fr M []), hd2 v16 v17 v18 = some r → Run Tryd.prog ⟨⟨70, [], none⟩, []⟩ 50 (num_IsName_post r) [(16, sv16), (17, (.int .i64 v17)), (18, (.int .i64 v18))] [codeC Tryd.prog 70 [1, 1, 0, 1, 0, 0], loopC Tryd.prog 70 [1, 1, 0, 1, 0, 0], .inBlock 0, codeC Tryd.prog 70 [1, 1, 1]] M) : ∀ (v16 : (List Int)) (v17 v18 : Int) (v41 v46 : Bool) (sv16 : SV) (Fr : Rd) (M : Mem) (r : Bool) (hv16 : Slc Fr 1 (FlatR enc5) sv16 v16) (hH : Has Fr M []), num_IsName_6 F hd2 v16 v17 v18 v41 v46 = some r → Run Tryd.prog ⟨⟨70, [], none⟩, []⟩ 50 (num_IsName_post r) [(16, sv16), (17, (.int .i64 v17)), (18, (.int .i64 v18)), (41, (.bool v41)), (46, (.bool v46))] [itemC Tryd.prog 70 [1, 1, 0, 1, 0, 0, 1, 1, 0, 0, 1, 1, 1, 0] 8, codeC Tryd.prog 70 [1, 1, 0, 1, 0, 0, 1, 1, 0, 0, 1, 1, 1, 1], .inBlock 1, codeC Tryd.prog 70 [1, 1, 0, 1, 0, 0, 1, 1, 1], loopC Tryd.prog 70 [1, 1, 0, 1, 0, 0], .inBlock 0, codeC Tryd.prog 70 [1, 1, 1]] M := by
  intro v16 v17 v18 v41 v46 sv16 Fr M r hv16 hH h
  rw [num_IsName_6] at h
  rcases btf (v41) with hc36 | hc36
  · have h := bif_t hc36 h
    refine Run.opG (wantS_yes' rfl rfl hc36) (ex_not rfl) rfl ?_
    refine Run.opG wantS_none (ex_pickT' rfl hc36 rfl rfl) rfl ?_
    refine Run.opsEnd ?_
    exact Run.pick [16, 17, 18, 48] (num_IsName_7_ok F hd2 hhd2 v16 v17 v18 (!v46) sv16 _ _ _ hv16 hH h)
  · have h := bif_f hc36 h
    refine Run.no (wantS_not' rfl rfl hc36) rfl ?_
    refine Run.opG wantS_none (ex_pickF' rfl hc36 rfl rfl) rfl ?_
    refine Run.opsEnd ?_
    exact Run.pick [16, 17, 18, 48] (num_IsName_7_ok F hd2 hhd2 v16 v17 v18 false sv16 _ _ _ hv16 hH h)

def num_IsName_8 (F : Nat) (hd2 : (List Int) → Int → Int → Option (Bool)) (v16 : (List Int)) (v17 v18 : Int) (v41 : Bool) : Option (Bool) :=
  bif v41 then
    none
  else
    num_IsName_7 F hd2 v16 v17 v18 false

theorem num_IsName_8_ok (F : Nat) (hd2 : (List Int) → Int → Int → Option (Bool)) (hhd2 : ∀ (v16 : (List Int)) (v17 v18 : Int) (sv16 : SV) (Fr : Rd) (M : Mem) (r : Bool) (hv16 : Slc Fr 1 (FlatR enc5) sv16 v16) (hH : Has Fr M []), hd2 v16 v17 v18 = some r → Run Tryd.prog ⟨⟨70, [], none⟩, []⟩ 50 (num_IsName_post r) [(16, sv16), (17, (.int .i64 v17)), (18, (.int .i64 v18))] [codeC Tryd.prog 70 [1, 1, 0, 1, 0, 0], loopC Tryd.prog 70 [1, 1, 0, 1, 0, 0], .inBlock 0, codeC Tryd.prog 70 [1, 1, 1]] M) : ∀ (v16 : (List Int)) (v17 v18 : Int) (v41 : Bool) (sv16 : SV) (Fr : Rd) (M : Mem) (r : Bool) (hv16 : Slc Fr 1 (FlatR enc5) sv16 v16) (hH : Has Fr M []), num_IsName_8 F hd2 v16 v17 v18 v41 = some r → Run Tryd.prog ⟨⟨70, [], none⟩, []⟩ 50 (num_IsName_post r) [(16, sv16), (17, (.int .i64 v17)), (18, (.int .i64 v18)), (41, (.bool v41)), (46, (.tuple []))] [itemC Tryd.prog 70 [1, 1, 0, 1, 0, 0, 1, 1, 0, 0, 1, 1, 1, 0] 8, codeC Tryd.prog 70 [1, 1, 0, 1, 0, 0, 1, 1, 0, 0, 1, 1, 1, 1], .inBlock 1, codeC Tryd.prog 70 [1, 1, 0, 1, 0, 0, 1, 1, 1], loopC Tryd.prog 70 [1, 1, 0, 1, 0, 0], .inBlock 0, codeC Tryd.prog 70 [1, 1, 1]] M := by
  intro v16 v17 v18 v41 sv16 Fr M r hv16 hH h
  rw [num_IsName_8] at h
  rcases btf (v41) with hc38 | hc38
  · have h := bif_t hc38 h
    cases h
  · have h := bif_f hc38 h
    refine Run.no (wantS_not' rfl rfl hc38) rfl ?_
    refine Run.opG wantS_none (ex_pickF' rfl hc38 rfl rfl) rfl ?_
    refine Run.opsEnd ?_
    exact Run.pick [16, 17, 18, 48] (num_IsName_7_ok F hd2 hhd2 v16 v17 v18 false sv16 _ _ _ hv16 hH h)

def num_IsName_5 (F : Nat) (hd2 : (List Int) → Int → Int → Option (Bool)) (v3 : Int) (v5 : Bool) (v16 : (List Int)) (v17 v18 : Int) (v38 : Bool) : Option (Bool) :=
  bif (!v5) then
    bif v38 then
      num_IsName_6 F hd2 v16 v17 v18 (!v5) (decide ((0 : Int) < v3))
    else
      num_IsName_6 F hd2 v16 v17 v18 (!v5) false
  else
    num_IsName_8 F hd2 v16 v17 v18 (!v5)

theorem num_IsName_5_ok (F : Nat) (hd2 : (List Int) → Int → Int → Option (Bool)) (hhd2 : ∀ (v16 : (List Int)) (v17 v18 : Int) (sv16 : SV) (Fr : Rd) (M : Mem) (r : Bool) (hv16 : Slc Fr 1 (FlatR enc5) sv16 v16) (hH : Has Fr M []), hd2 v16 v17 v18 = some r → Run Tryd.prog ⟨⟨70, [], none⟩, []⟩ 50 (num_IsName_post r) [(16, sv16), (17, (.int .i64 v17)), (18, (.int .i64 v18))] [codeC Tryd.prog 70 [1, 1, 0, 1, 0, 0], loopC Tryd.prog 70 [1, 1, 0, 1, 0, 0], .inBlock 0, codeC Tryd.prog 70 [1, 1, 1]] M) : ∀ (v3 : Int) (v5 : Bool) (v16 : (List Int)) (v17 v18 : Int) (v38 : Bool) (sv16 : SV) (Fr : Rd) (M : Mem) (r : Bool) (hv16 : Slc Fr 1 (FlatR enc5) sv16 v16) (hH : Has Fr M []), num_IsName_5 F hd2 v3 v5 v16 v17 v18 v38 = some r → Run Tryd.prog ⟨⟨70, [], none⟩, []⟩ 50 (num_IsName_post r) [(3, (.int .i64 v3)), (5, (.bool v5)), (16, sv16), (17, (.int .i64 v17)), (18, (.int .i64 v18)), (38, (.bool v38))] [itemC Tryd.prog 70 [1, 1, 0, 1, 0, 0, 1, 1, 0, 0, 1, 1, 0] 10, codeC Tryd.prog 70 [1, 1, 0, 1, 0, 0, 1, 1, 0, 0, 1, 1, 1], .inBlock 1, codeC Tryd.prog 70 [1, 1, 0, 1, 0, 0, 1, 1, 1], loopC Tryd.prog 70 [1, 1, 0, 1, 0, 0], .inBlock 0, codeC Tryd.prog 70 [1, 1, 1]] M := by
  intro v3 v5 v16 v17 v18 v38 sv16 Fr M r hv16 hH h
  rw [num_IsName_5] at h
  refine Run.opG wantS_none (ex_assign rfl) rfl ?_
  refine Run.opsEnd (Run.seq (Run.region ?_))
  refine Run.opG wantS_none (ex_move rfl) rfl ?_
  refine Run.opG wantS_none (ex_not rfl) rfl ?_
  refine Run.opG wantS_none (ex_move rfl) rfl ?_
  rcases btf ((!v5)) with hc34 | hc34
  · have h := bif_t hc34 h
    refine Run.opG (wantS_yes' rfl rfl hc34) (ex_move rfl) rfl ?_
    refine Run.opG (wantS_yes' rfl rfl hc34) (ex_move rfl) rfl ?_
    rcases btf (v38) with hc35 | hc35
    · have h := bif_t hc35 h
      refine Run.opG (wantS_yes' rfl rfl hc35) (ex_move rfl) rfl ?_
      refine Run.opG (wantS_yes' rfl rfl hc35) (ex_gtr rfl rfl) rfl ?_
      refine Run.opG (wantS_yes' rfl rfl hc34) (ex_pickT' rfl hc35 rfl rfl) rfl ?_
      exact Run.pick [16, 17, 18, 41, 46] (num_IsName_6_ok F hd2 hhd2 v16 v17 v18 (!v5) (decide ((0 : Int) < v3)) sv16 _ _ _ hv16 hH h)
    · have h := bif_f hc35 h
      refine Run.no (wantS_not' rfl rfl hc35) rfl ?_
      refine Run.no (wantS_not' rfl rfl hc35) rfl ?_
      refine Run.opG (wantS_yes' rfl rfl hc34) (ex_pickF' rfl hc35 rfl rfl) rfl ?_
      exact Run.pick [16, 17, 18, 41, 46] (num_IsName_6_ok F hd2 hhd2 v16 v17 v18 (!v5) false sv16 _ _ _ hv16 hH h)
  · have h := bif_f hc34 h
    refine Run.no (wantS_not' rfl rfl hc34) rfl ?_
    refine Run.no (wantS_not' rfl rfl hc34) rfl ?_
    refine Run.no (wantS_skip rfl rfl) rfl ?_
    refine Run.no (wantS_skip rfl rfl) rfl ?_
    refine Run.no (wantS_not' rfl rfl hc34) rfl ?_
    exact Run.pick [16, 17, 18, 41, 46] (num_IsName_8_ok F hd2 hhd2 v16 v17 v18 (!v5) sv16 _ _ _ hv16 hH h)

def num_IsName_4 (F : Nat) (hd2 : (List Int) → Int → Int → Option (Bool)) (v3 v4 : Int) (v5 : Bool) (v16 : (List Int)) (v17 v18 : Int) (v34 : Bool) : Option (Bool) :=
  bif v34 then
    num_IsName_5 F hd2 v3 v5 v16 v17 v18 true
  else
    num_IsName_5 F hd2 v3 v5 v16 v17 v18 (v4 == (95 : Int))

theorem num_IsName_4_ok (F : Nat) (hd2 : (List Int) → Int → Int → Option (Bool)) (hhd2 : ∀ (v16 : (List Int)) (v17 v18 : Int) (sv16 : SV) (Fr : Rd) (M : Mem) (r : Bool) (hv16 : Slc Fr 1 (FlatR enc5) sv16 v16) (hH : Has Fr M []), hd2 v16 v17 v18 = some r → Run Tryd.prog ⟨⟨70, [], none⟩, []⟩ 50 (num_IsName_post r) [(16, sv16), (17, (.int .i64 v17)), (18, (.int .i64 v18))] [codeC Tryd.prog 70 [1, 1, 0, 1, 0, 0], loopC Tryd.prog 70 [1, 1, 0, 1, 0, 0], .inBlock 0, codeC Tryd.prog 70 [1, 1, 1]] M) : ∀ (v3 v4 : Int) (v5 : Bool) (v16 : (List Int)) (v17 v18 : Int) (v34 : Bool) (sv16 : SV) (Fr : Rd) (M : Mem) (r : Bool) (hv16 : Slc Fr 1 (FlatR enc5) sv16 v16) (hH : Has Fr M []), num_IsName_4 F hd2 v3 v4 v5 v16 v17 v18 v34 = some r → Run Tryd.prog ⟨⟨70, [], none⟩, []⟩ 50 (num_IsName_post r) [(3, (.int .i64 v3)), (4, (.int .u8 v4)), (5, (.bool v5)), (16, sv16), (17, (.int .i64 v17)), (18, (.int .i64 v18)), (34, (.bool v34))] [itemC Tryd.prog 70 [1, 1, 0, 1, 0, 0, 1, 1, 0, 0, 1, 1, 0] 6, codeC Tryd.prog 70 [1, 1, 0, 1, 0, 0, 1, 1, 0, 0, 1, 1, 1], .inBlock 1, codeC Tryd.prog 70 [1, 1, 0, 1, 0, 0, 1, 1, 1], loopC Tryd.prog 70 [1, 1, 0, 1, 0, 0], .inBlock 0, codeC Tryd.prog 70 [1, 1, 1]] M := by
  intro v3 v4 v5 v16 v17 v18 v34 sv16 Fr M r hv16 hH h
  rw [num_IsName_4] at h
  refine Run.opG wantS_none (ex_move rfl) rfl ?_
  rcases btf (v34) with hc33 | hc33
  · have h := bif_t hc33 h
    refine Run.no (wantS_not' rfl rfl hc33) rfl ?_
    refine Run.no (wantS_not' rfl rfl hc33) rfl ?_
    refine Run.opG wantS_none (ex_pickT' rfl hc33 rfl rfl) rfl ?_
    exact Run.pick [3, 5, 16, 17, 18, 38] (num_IsName_5_ok F hd2 hhd2 v3 v5 v16 v17 v18 true sv16 _ _ _ hv16 hH h)
  · have h := bif_f hc33 h
    refine Run.opG (wantS_yes' rfl rfl hc33) (ex_move rfl) rfl ?_
    refine Run.opG (wantS_yes' rfl rfl hc33) (ex_eql rfl rfl) rfl ?_
    refine Run.opG wantS_none (ex_pickF' rfl hc33 rfl rfl) rfl ?_
    exact Run.pick [3, 5, 16, 17, 18, 38] (num_IsName_5_ok F hd2 hhd2 v3 v5 v16 v17 v18 (v4 == (95 : Int)) sv16 _ _ _ hv16 hH h)

def num_IsName_3 (F : Nat) (hd2 : (List Int) → Int → Int → Option (Bool)) (v3 v4 : Int) (v16 : (List Int)) (v17 v18 : Int) (v28 : Bool) : Option (Bool) :=
  bif (decide ((48 : Int) ≤ v4)) then
    num_IsName_4 F hd2 v3 v4 v28 v16 v17 v18 (decide (v4 ≤ (57 : Int)))
  else
    num_IsName_4 F hd2 v3 v4 v28 v16 v17 v18 false

theorem num_IsName_3_ok (F : Nat) (hd2 : (List Int) → Int → Int → Option (Bool)) (hhd2 : ∀ (v16 : (List Int)) (v17 v18 : Int) (sv16 : SV) (Fr : Rd) (M : Mem) (r : Bool) (hv16 : Slc Fr 1 (FlatR enc5) sv16 v16) (hH : Has Fr M []), hd2 v16 v17 v18 = some r → Run Tryd.prog ⟨⟨70, [], none⟩, []⟩ 50 (num_IsName_post r) [(16, sv16), (17, (.int .i64 v17)), (18, (.int .i64 v18))] [codeC Tryd.prog 70 [1, 1, 0, 1, 0, 0], loopC Tryd.prog 70 [1, 1, 0, 1, 0, 0], .inBlock 0, codeC Tryd.prog 70 [1, 1, 1]] M) : ∀ (v3 v4 : Int) (v16 : (List Int)) (v17 v18 : Int) (v28 : Bool) (sv16 : SV) (Fr : Rd) (M : Mem) (r : Bool) (hv16 : Slc Fr 1 (FlatR enc5) sv16 v16) (hH : Has Fr M []), num_IsName_3 F hd2 v3 v4 v16 v17 v18 v28 = some r → Run Tryd.prog ⟨⟨70, [], none⟩, []⟩ 50 (num_IsName_post r) [(3, (.int .i64 v3)), (4, (.int .u8 v4)), (16, sv16), (17, (.int .i64 v17)), (18, (.int .i64 v18)), (28, (.bool v28))] [itemC Tryd.prog 70 [1, 1, 0, 1, 0, 0, 1, 1, 0, 0, 1, 0] 6, codeC Tryd.prog 70 [1, 1, 0, 1, 0, 0, 1, 1, 0, 0, 1, 1], .inBlock 1, codeC Tryd.prog 70 [1, 1, 0, 1, 0, 0, 1, 1, 1], loopC Tryd.prog 70 [1, 1, 0, 1, 0, 0], .inBlock 0, codeC Tryd.prog 70 [1, 1, 1]] M := by
  intro v3 v4 v16 v17 v18 v28 sv16 Fr M r hv16 hH h
  rw [num_IsName_3] at h
  refine Run.opG wantS_none (ex_assign rfl) rfl ?_
  refine Run.opsEnd (Run.seq (Run.region ?_))
  refine Run.opG wantS_none (ex_move rfl) rfl ?_
  refine Run.opG wantS_none (ex_geq rfl rfl) rfl ?_
  refine Run.opG wantS_none (ex_move rfl) rfl ?_
  rcases btf ((decide ((48 : Int) ≤ v4))) with hc32 | hc32
  · have h := bif_t hc32 h
    refine Run.opG (wantS_yes' rfl rfl hc32) (ex_move rfl) rfl ?_
    refine Run.opG (wantS_yes' rfl rfl hc32) (ex_leq rfl rfl) rfl ?_
    refine Run.opG wantS_none (ex_pickT' rfl hc32 rfl rfl) rfl ?_
    exact Run.pick [3, 4, 5, 16, 17, 18, 34] (num_IsName_4_ok F hd2 hhd2 v3 v4 v28 v16 v17 v18 (decide (v4 ≤ (57 : Int))) sv16 _ _ _ hv16 hH h)
  · have h := bif_f hc32 h
    refine Run.no (wantS_not' rfl rfl hc32) rfl ?_
    refine Run.no (wantS_not' rfl rfl hc32) rfl ?_
    refine Run.opG wantS_none (ex_pickF' rfl hc32 rfl rfl) rfl ?_
    exact Run.pick [3, 4, 5, 16, 17, 18, 34] (num_IsName_4_ok F hd2 hhd2 v3 v4 v28 v16 v17 v18 false sv16 _ _ _ hv16 hH h)

def num_IsName_2 (F : Nat) : Nat → (List Int) → Int → Int → Option (Bool)
  | 0, _, _, _ => none
  | N + 1, v16, v17, v18 =>
    bif (decide (v18 < v17)) then
      bnd (idx v16 v18) fun x30 =>
      bif (decide ((97 : Int) ≤ x30)) then
        num_IsName_3 F (num_IsName_2 F N) v18 x30 v16 v17 v18 (decide (x30 ≤ (122 : Int)))
      else
        num_IsName_3 F (num_IsName_2 F N) v18 x30 v16 v17 v18 false
    else
      some true

theorem num_IsName_2_ok (F : Nat) : ∀ (N : Nat), ∀ (v16 : (List Int)) (v17 v18 : Int) (sv16 : SV) (Fr : Rd) (M : Mem) (r : Bool) (hv16 : Slc Fr 1 (FlatR enc5) sv16 v16) (hH : Has Fr M []), num_IsName_2 F N v16 v17 v18 = some r → Run Tryd.prog ⟨⟨70, [], none⟩, []⟩ 50 (num_IsName_post r) [(16, sv16), (17, (.int .i64 v17)), (18, (.int .i64 v18))] [codeC Tryd.prog 70 [1, 1, 0, 1, 0, 0], loopC Tryd.prog 70 [1, 1, 0, 1, 0, 0], .inBlock 0, codeC Tryd.prog 70 [1, 1, 1]] M := by
  intro N
  induction N with
  | zero =>
    intro v16 v17 v18 sv16 Fr M r hv16 hH h
    simp [num_IsName_2] at h
  | succ N ih =>
    intro v16 v17 v18 sv16 Fr M r hv16 hH h
    rw [num_IsName_2] at h
    refine Run.seq (Run.region ?_)
    refine Run.opG wantS_none (ex_lss rfl rfl) rfl ?_
    refine Run.opsEnd (Run.seq ?_)
    rcases btf ((decide (v18 < v17))) with hc28 | hc28
    · have h := bif_t hc28 h
      refine Run.condT' rfl hc28 ?_
      refine Run.skip (Run.seq (Run.block (Run.seq (Run.region ?_))))
      refine Run.opG wantS_none (ex_move rfl) rfl ?_
      obtain ⟨x30, hx30, h⟩ := bnd_some h
      obtain ⟨p30, o30, _, hx30, hp30, rfl⟩ := sl_elem (P := Tryd.prog) (t := 108) (kk := .i64) hv16 hx30 els108
      refine Run.opG wantS_none (ex_elX rfl rfl hx30) rfl ?_
      refine Run.opG wantS_none (ex_load1 rfl (hH.ptrF hp30) rdLe_rfl agg5) rfl ?_
      refine Run.opG wantS_none (ex_assign rfl) rfl ?_
      refine Run.opG wantS_none (ex_assign rfl) rfl ?_
      refine Run.opsEnd (Run.seq (Run.region ?_))
      refine Run.opG wantS_none (ex_move rfl) rfl ?_
      refine Run.opG wantS_none (ex_geq rfl rfl) rfl ?_
      refine Run.opG wantS_none (ex_move rfl) rfl ?_
      rcases btf ((decide ((97 : Int) ≤ x30))) with hc31 | hc31
      · have h := bif_t hc31 h
        refine Run.opG (wantS_yes' rfl rfl hc31) (ex_move rfl) rfl ?_
        refine Run.opG (wantS_yes' rfl rfl hc31) (ex_leq rfl rfl) rfl ?_
        refine Run.opG wantS_none (ex_pickT' rfl hc31 rfl rfl) rfl ?_
        exact Run.pick [3, 4, 16, 17, 18, 28] (num_IsName_3_ok F (num_IsName_2 F N) ih v18 x30 v16 v17 v18 (decide (x30 ≤ (122 : Int))) sv16 _ _ _ hv16 hH h)
      · have h := bif_f hc31 h
        refine Run.no (wantS_not' rfl rfl hc31) rfl ?_
        refine Run.no (wantS_not' rfl rfl hc31) rfl ?_
        refine Run.opG wantS_none (ex_pickF' rfl hc31 rfl rfl) rfl ?_
        exact Run.pick [3, 4, 16, 17, 18, 28] (num_IsName_3_ok F (num_IsName_2 F N) ih v18 x30 v16 v17 v18 false sv16 _ _ _ hv16 hH h)
    · have h := bif_f hc28 h
      refine Run.condF' rfl hc28 ?_
      refine Run.exit rfl (Run.seq (Run.region ?_))
      refine Run.opG wantS_none (ex_assign rfl) rfl ?_
      refine Run.opsEnd ?_
      cases h
      exact Run.ret Tryd.func70 rfl (res_tmp rfl res_nil) rfl

def num_IsName_1 (F : Nat) (v0 : (List UInt8)) (v14 : Bool) : Option (Bool) :=
  bif v14 then
    some false
  else
    bnd (byt v0) fun l24 =>
    num_IsName_2 F F l24 (l24.length : Int) (0 : Int)

theorem num_IsName_1_ok (F : Nat) : ∀ (v0 : (List UInt8)) (v14 : Bool) (Fr : Rd) (M : Mem) (r : Bool) (hH : Has Fr M []), num_IsName_1 F v0 v14 = some r → Run Tryd.prog ⟨⟨70, [], none⟩, []⟩ 50 (num_IsName_post r) [(0, (.str v0)), (14, (.bool v14))] [codeC Tryd.prog 70 [1, 0, 1], codeC Tryd.prog 70 [1, 1]] M := by
  intro v0 v14 Fr M r hH h
  rw [num_IsName_1] at h
  rcases btf (v14) with hc22 | hc22
  · have h := bif_t hc22 h
    refine Run.condT' rfl hc22 ?_
    refine Run.seq (Run.region ?_)
    refine Run.opG wantS_none (ex_assign rfl) rfl ?_
    refine Run.opsEnd ?_
    cases h
    exact Run.ret Tryd.func70 rfl (res_tmp rfl res_nil) rfl
  · have h := bif_f hc22 h
    refine Run.condF' rfl hc22 ?_
    refine Run.skip (Run.seq (Run.seq (Run.region ?_)))
    refine Run.opG wantS_none (ex_move rfl) rfl ?_
    obtain ⟨l24, hl24, h⟩ := bnd_some h
    refine Run.opX wantS_none rfl (ExG.bytes rfl uvk9_108 cvk9_108 hl24 hH) ?_
    rintro _ M25 ⟨b25, rfl, hH25⟩
    refine Run.freezeB (t := 16) (i := 0) (enc := enc5) (fun _ => rfl) hl24 rfl hH25 rfl ?_
    intro F26 M26 hle26 (hH26 : Has F26 M26 [.vec 0 0 0 .nils []]) hf26
    refine Run.opG wantS_none (ex_len' rfl hf26 lenk108) rfl ?_
    refine Run.opG wantS_none (ex_move rfl) rfl ?_
    refine Run.opsEnd (Run.block (Run.loop ?_))
    exact Run.pick [16, 17, 18] (num_IsName_2_ok F F l24 (l24.length : Int) (0 : Int) (.ope b25 0 l24.length 1) _ _ _ hf26 (hH26.pick [] rfl rfl) h)

def num_IsName (F : Nat) (a0 : (List UInt8)) : Option (Bool) :=
  bif ((a0.length : Int) == (0 : Int)) then
    num_IsName_1 F a0 true
  else
    num_IsName_1 F a0 (decide ((16 : Int) < (a0.length : Int)))

theorem num_IsName_ok (F : Nat) (a0 : (List UInt8)) (r : Bool) (M : Mem) (h : num_IsName F a0 = some r) : CallsM Tryd.prog 70 [(.str a0)] M (fun s M' => s = (.bool r) ∧ M' = M) := by
  refine CallsM.plain Tryd.func70 rfl rfl rfl (show Run _ _ _ (num_IsName_post r) _ _ _ from ?_)
  rw [num_IsName] at h
  have hH := Has.nil (frozen M)
  refine Run.seq (Run.region ?_)
  refine Run.opG wantS_none (ex_assign rfl) rfl ?_
  refine Run.opsEnd (Run.seq (Run.seq (Run.region ?_)))
  refine Run.opG wantS_none (ex_move rfl) rfl ?_
  refine Run.opG wantS_none (ex_lenS rfl lenk9) rfl ?_
  refine Run.opG wantS_none (ex_eql rfl rfl) rfl ?_
  refine Run.opG wantS_none (ex_move rfl) rfl ?_
  rcases btf (((a0.length : Int) == (0 : Int))) with hc21 | hc21
  · have h := bif_t hc21 h
    refine Run.no (wantS_not' rfl rfl hc21) rfl ?_
    refine Run.no (wantS_not' rfl rfl hc21) rfl ?_
    refine Run.no (wantS_not' rfl rfl hc21) rfl ?_
    refine Run.opG wantS_none (ex_pickT' rfl hc21 rfl rfl) rfl ?_
    refine Run.opsEnd ?_
    exact Run.pick [0, 14] (num_IsName_1_ok F a0 true _ _ _ hH h)
  · have h := bif_f hc21 h
    refine Run.opG (wantS_yes' rfl rfl hc21) (ex_move rfl) rfl ?_
    refine Run.opG (wantS_yes' rfl rfl hc21) (ex_lenS rfl lenk9) rfl ?_
    refine Run.opG (wantS_yes' rfl rfl hc21) (ex_gtr rfl rfl) rfl ?_
    refine Run.opG wantS_none (ex_pickF' rfl hc21 rfl rfl) rfl ?_
    refine Run.opsEnd ?_
    exact Run.pick [0, 14] (num_IsName_1_ok F a0 (decide ((16 : Int) < (a0.length : Int))) _ _ _ hH h)

theorem mkk70 : makeK Tryd.prog 70 = none := by kernel_rfl
theorem cal70 : callable Tryd.prog 70 = true := by kernel_rfl
theorem off29_1 : fieldOff Tryd.prog 29 1 = some 1 := by kernel_rfl
abbrev alert_isFrom_post (r : Bool) : SV → Mem → Prop := fun s _ => s = (.bool r)

def alert_isFrom_1 (F : Nat) (v14 : Bool) : Option (Bool) :=
  some v14

theorem alert_isFrom_1_ok (F : Nat) : ∀ (v14 : Bool) (Fr : Rd) (M : Mem) (r : Bool) (hH : Has Fr M []), alert_isFrom_1 F v14 = some r → Run Tryd.prog ⟨⟨36, [], none⟩, []⟩ 15 (alert_isFrom_post r) [(14, (.bool v14))] [itemC Tryd.prog 36 [1, 0] 8, codeC Tryd.prog 36 [1, 1]] M := by
  intro v14 Fr M r hH h
  rw [alert_isFrom_1] at h
  refine Run.opG wantS_none (ex_assign rfl) rfl ?_
  refine Run.opsEnd ?_
  cases h
  exact Run.ret Tryd.func36 rfl (res_tmp rfl res_nil) rfl

def alert_isFrom (F : Nat) (a0 a1 a2 : Int) : Option (Bool) :=
  bif (decide (a0 ≤ a1)) then
    alert_isFrom_1 F (decide (a1 ≤ a2))
  else
    alert_isFrom_1 F false

theorem alert_isFrom_ok (F : Nat) (a0 a1 a2 : Int) (r : Bool) (M : Mem) (h : alert_isFrom F a0 a1 a2 = some r) : CallsM Tryd.prog 36 [(.int .i64 a0), (.int .i64 a1), (.int .i64 a2)] M (fun s M' => s = (.bool r) ∧ M' = M) := by
  refine CallsM.plain Tryd.func36 rfl rfl rfl (show Run _ _ _ (alert_isFrom_post r) _ _ _ from ?_)
  rw [alert_isFrom] at h
  have hH := Has.nil (frozen M)
  refine Run.seq (Run.region ?_)
  refine Run.opG wantS_none (ex_assign rfl) rfl ?_
  refine Run.opsEnd (Run.seq (Run.region ?_))
  refine Run.opG wantS_none (ex_move rfl) rfl ?_
  refine Run.opG wantS_none (ex_move rfl) rfl ?_
  refine Run.opG wantS_none (ex_leq rfl rfl) rfl ?_
  refine Run.opG wantS_none (ex_move rfl) rfl ?_
  rcases btf ((decide (a0 ≤ a1))) with hc21 | hc21
  · have h := bif_t hc21 h
    refine Run.opG (wantS_yes' rfl rfl hc21) (ex_move rfl) rfl ?_
    refine Run.opG (wantS_yes' rfl rfl hc21) (ex_move rfl) rfl ?_
    refine Run.opG (wantS_yes' rfl rfl hc21) (ex_leq rfl rfl) rfl ?_
    refine Run.opG wantS_none (ex_pickT' rfl hc21 rfl rfl) rfl ?_
    exact Run.pick [14] (alert_isFrom_1_ok F (decide (a1 ≤ a2)) _ _ _ hH h)
  · have h := bif_f hc21 h
    refine Run.no (wantS_not' rfl rfl hc21) rfl ?_
    refine Run.no (wantS_not' rfl rfl hc21) rfl ?_
    refine Run.no (wantS_not' rfl rfl hc21) rfl ?_
    refine Run.opG wantS_none (ex_pickF' rfl hc21 rfl rfl) rfl ?_
    exact Run.pick [14] (alert_isFrom_1_ok F false _ _ _ hH h)

theorem mkk36 : makeK Tryd.prog 36 = none := by kernel_rfl
theorem cal36 : callable Tryd.prog 36 = true := by kernel_rfl
theorem off29_2 : fieldOff Tryd.prog 29 2 = some 2 := by kernel_rfl
theorem off29_3 : fieldOff Tryd.prog 29 3 = some 3 := by kernel_rfl
theorem off26_1 : fieldOff Tryd.prog 26 1 = some 1 := by kernel_rfl
abbrev alert_isChance_post (r : Bool) : SV → Mem → Prop := fun s _ => s = (.bool r)

def alert_isChance_1 (F : Nat) (v12 : Bool) : Option (Bool) :=
  some v12

theorem alert_isChance_1_ok (F : Nat) : ∀ (v12 : Bool) (Fr : Rd) (M : Mem) (r : Bool) (hH : Has Fr M []), alert_isChance_1 F v12 = some r → Run Tryd.prog ⟨⟨71, [], none⟩, []⟩ 13 (alert_isChance_post r) [(12, (.bool v12))] [itemC Tryd.prog 71 [1, 0] 10, codeC Tryd.prog 71 [1, 1]] M := by
  intro v12 Fr M r hH h
  rw [alert_isChance_1] at h
  refine Run.opG wantS_none (ex_assign rfl) rfl ?_
  refine Run.opsEnd ?_
  cases h
  exact Run.ret Tryd.func71 rfl (res_tmp rfl res_nil) rfl

def alert_isChance (F : Nat) (a0 : S_api_Chance) : Option (Bool) :=
  bnd (alert_isFrom F (1 : Int) a0.N a0.Of) fun r25 =>
  bif r25 then
    alert_isChance_1 F (decide (a0.Of ≤ (256 : Int)))
  else
    alert_isChance_1 F false

theorem alert_isChance_ok (F : Nat) (a0 : S_api_Chance) (r : Bool) (M : Mem) (h : alert_isChance F a0 = some r) : CallsM Tryd.prog 71 [(.agg [(.int .i64 a0.N), (.int .i64 a0.Of)])] M (fun s M' => s = (.bool r) ∧ M' = M) := by
  refine CallsM.plain Tryd.func71 rfl rfl rfl (show Run _ _ _ (alert_isChance_post r) _ _ _ from ?_)
  rw [alert_isChance] at h
  have hH := Has.nil (frozen M)
  refine Run.seq (Run.region ?_)
  refine Run.opX wantS_none rfl (ExG.box rfl rfl hH) ?_
  rintro _ M23 ⟨b22, rfl, hH23⟩
  refine Run.opG wantS_none (ex_assign rfl) rfl ?_
  refine Run.opsEnd (Run.seq (Run.region ?_))
  refine Run.opG wantS_none (ex_fieldAddr rfl off26_0) rfl ?_
  refine Run.opG wantS_none (ex_load1 rfl (hH23.cells (i := 0) rfl 0 rfl) rdLe_rfl agg3) rfl ?_
  refine Run.opG wantS_none (ex_fieldAddr rfl off26_1) rfl ?_
  refine Run.opG wantS_none (ex_load1 rfl (hH23.cells (i := 0) rfl 1 rfl) rdLe_rfl agg3) rfl ?_
  obtain ⟨r25, hr25, h⟩ := bnd_some h
  refine Run.callP wantS_none (ex_call rfl mkk36 cal36) rfl (alert_isFrom_ok F (1 : Int) a0.N a0.Of _ _ hr25) ?_
  refine Run.opG wantS_none (ex_move rfl) rfl ?_
  rcases btf (r25) with hc27 | hc27
  · have h := bif_t hc27 h
    refine Run.opG (wantS_yes' rfl rfl hc27) (ex_fieldAddr rfl off26_1) rfl ?_
    refine Run.opG (wantS_yes' rfl rfl hc27) (ex_load1 rfl (hH23.cells (i := 0) rfl 1 rfl) rdLe_rfl agg3) rfl ?_
    refine Run.opG (wantS_yes' rfl rfl hc27) (ex_leq rfl rfl) rfl ?_
    refine Run.opG wantS_none (ex_pickT' rfl hc27 rfl rfl) rfl ?_
    exact Run.pick [12] (alert_isChance_1_ok F (decide (a0.Of ≤ (256 : Int))) _ _ _ (hH23.pick [] rfl rfl) h)
  · have h := bif_f hc27 h
    refine Run.no (wantS_not' rfl rfl hc27) rfl ?_
    refine Run.no (wantS_not' rfl rfl hc27) rfl ?_
    refine Run.no (wantS_not' rfl rfl hc27) rfl ?_
    refine Run.opG wantS_none (ex_pickF' rfl hc27 rfl rfl) rfl ?_
    exact Run.pick [12] (alert_isChance_1_ok F false _ _ _ (hH23.pick [] rfl rfl) h)

theorem mkk71 : makeK Tryd.prog 71 = none := by kernel_rfl
theorem cal71 : callable Tryd.prog 71 = true := by kernel_rfl
theorem off29_4 : fieldOff Tryd.prog 29 4 = some 5 := by kernel_rfl
abbrev sky_isFrom_post (r : Bool) : SV → Mem → Prop := fun s _ => s = (.bool r)

def sky_isFrom_1 (F : Nat) (v14 : Bool) : Option (Bool) :=
  some v14

theorem sky_isFrom_1_ok (F : Nat) : ∀ (v14 : Bool) (Fr : Rd) (M : Mem) (r : Bool) (hH : Has Fr M []), sky_isFrom_1 F v14 = some r → Run Tryd.prog ⟨⟨107, [], none⟩, []⟩ 15 (sky_isFrom_post r) [(14, (.bool v14))] [itemC Tryd.prog 107 [1, 0] 8, codeC Tryd.prog 107 [1, 1]] M := by
  intro v14 Fr M r hH h
  rw [sky_isFrom_1] at h
  refine Run.opG wantS_none (ex_assign rfl) rfl ?_
  refine Run.opsEnd ?_
  cases h
  exact Run.ret Tryd.func107 rfl (res_tmp rfl res_nil) rfl

def sky_isFrom (F : Nat) (a0 a1 a2 : Int) : Option (Bool) :=
  bif (decide (a0 ≤ a1)) then
    sky_isFrom_1 F (decide (a1 ≤ a2))
  else
    sky_isFrom_1 F false

theorem sky_isFrom_ok (F : Nat) (a0 a1 a2 : Int) (r : Bool) (M : Mem) (h : sky_isFrom F a0 a1 a2 = some r) : CallsM Tryd.prog 107 [(.int .i64 a0), (.int .i64 a1), (.int .i64 a2)] M (fun s M' => s = (.bool r) ∧ M' = M) := by
  refine CallsM.plain Tryd.func107 rfl rfl rfl (show Run _ _ _ (sky_isFrom_post r) _ _ _ from ?_)
  rw [sky_isFrom] at h
  have hH := Has.nil (frozen M)
  refine Run.seq (Run.region ?_)
  refine Run.opG wantS_none (ex_assign rfl) rfl ?_
  refine Run.opsEnd (Run.seq (Run.region ?_))
  refine Run.opG wantS_none (ex_move rfl) rfl ?_
  refine Run.opG wantS_none (ex_move rfl) rfl ?_
  refine Run.opG wantS_none (ex_leq rfl rfl) rfl ?_
  refine Run.opG wantS_none (ex_move rfl) rfl ?_
  rcases btf ((decide (a0 ≤ a1))) with hc21 | hc21
  · have h := bif_t hc21 h
    refine Run.opG (wantS_yes' rfl rfl hc21) (ex_move rfl) rfl ?_
    refine Run.opG (wantS_yes' rfl rfl hc21) (ex_move rfl) rfl ?_
    refine Run.opG (wantS_yes' rfl rfl hc21) (ex_leq rfl rfl) rfl ?_
    refine Run.opG wantS_none (ex_pickT' rfl hc21 rfl rfl) rfl ?_
    exact Run.pick [14] (sky_isFrom_1_ok F (decide (a1 ≤ a2)) _ _ _ hH h)
  · have h := bif_f hc21 h
    refine Run.no (wantS_not' rfl rfl hc21) rfl ?_
    refine Run.no (wantS_not' rfl rfl hc21) rfl ?_
    refine Run.no (wantS_not' rfl rfl hc21) rfl ?_
    refine Run.opG wantS_none (ex_pickF' rfl hc21 rfl rfl) rfl ?_
    exact Run.pick [14] (sky_isFrom_1_ok F false _ _ _ hH h)

theorem mkk107 : makeK Tryd.prog 107 = none := by kernel_rfl
theorem cal107 : callable Tryd.prog 107 = true := by kernel_rfl
abbrev sky_grid_isValid_post (r : Bool) : SV → Mem → Prop := fun s _ => s = (.bool r)

def sky_grid_isValid (F : Nat) (a0 : Int) : Option (Bool) :=
  bnd (sky_isFrom F (1 : Int) a0 (8 : Int)) fun r22 =>
  some r22

theorem sky_grid_isValid_ok (F : Nat) (a0 : Int) (r : Bool) (M : Mem) (h : sky_grid_isValid F a0 = some r) : CallsM Tryd.prog 103 [(.int .i64 a0)] M (fun s M' => s = (.bool r) ∧ M' = M) := by
  refine CallsM.plain Tryd.func103 rfl rfl rfl (show Run _ _ _ (sky_grid_isValid_post r) _ _ _ from ?_)
  rw [sky_grid_isValid] at h
  have hH := Has.nil (frozen M)
  refine Run.seq (Run.region ?_)
  refine Run.opG wantS_none (ex_assign rfl) rfl ?_
  refine Run.opsEnd (Run.seq (Run.region ?_))
  refine Run.opG wantS_none (ex_move rfl) rfl ?_
  obtain ⟨r22, hr22, h⟩ := bnd_some h
  refine Run.callP wantS_none (ex_call rfl mkk107 cal107) rfl (sky_isFrom_ok F (1 : Int) a0 (8 : Int) _ _ hr22) ?_
  refine Run.opG wantS_none (ex_assign rfl) rfl ?_
  refine Run.opsEnd ?_
  cases h
  exact Run.ret Tryd.func103 rfl (res_tmp rfl res_nil) rfl

theorem mkk103 : makeK Tryd.prog 103 = none := by kernel_rfl
theorem cal103 : callable Tryd.prog 103 = true := by kernel_rfl
abbrev sky_checkGrid_post (r : Int) : SV → Mem → Prop := fun s _ => s = (.int .i64 r)

def sky_checkGrid (F : Nat) (a0 : Int) : Option (Int) :=
  bnd (sky_grid_isValid F a0) fun r22 =>
  bif (!r22) then
    some (91 : Int)
  else
    some (0 : Int)

theorem sky_checkGrid_ok (F : Nat) (a0 r : Int) (M : Mem) (h : sky_checkGrid F a0 = some r) : CallsM Tryd.prog 99 [(.int .i64 a0)] M (fun s M' => s = (.int .i64 r) ∧ M' = M) := by
  refine CallsM.plain Tryd.func99 rfl rfl rfl (show Run _ _ _ (sky_checkGrid_post r) _ _ _ from ?_)
  rw [sky_checkGrid] at h
  have hH := Has.nil (frozen M)
  refine Run.seq (Run.region ?_)
  refine Run.opG wantS_none (ex_assign rfl) rfl ?_
  refine Run.opsEnd (Run.seq (Run.seq (Run.region ?_)))
  refine Run.opG wantS_none (ex_move rfl) rfl ?_
  obtain ⟨r22, hr22, h⟩ := bnd_some h
  refine Run.callP wantS_none (ex_call rfl mkk103 cal103) rfl (sky_grid_isValid_ok F a0 _ _ hr22) ?_
  refine Run.opG wantS_none (ex_not rfl) rfl ?_
  refine Run.opsEnd ?_
  rcases btf ((!r22)) with hc24 | hc24
  · have h := bif_t hc24 h
    refine Run.condT' rfl hc24 ?_
    refine Run.seq (Run.region ?_)
    refine Run.opG wantS_none (ex_assign rfl) rfl ?_
    refine Run.opsEnd ?_
    cases h
    exact Run.ret Tryd.func99 rfl (res_tmp rfl res_nil) rfl
  · have h := bif_f hc24 h
    refine Run.condF' rfl hc24 ?_
    refine Run.skip (Run.seq (Run.region ?_))
    refine Run.opG wantS_none (ex_assign rfl) rfl ?_
    refine Run.opsEnd ?_
    cases h
    exact Run.ret Tryd.func99 rfl (res_tmp rfl res_nil) rfl

theorem mkk99 : makeK Tryd.prog 99 = none := by kernel_rfl
theorem cal99 : callable Tryd.prog 99 = true := by kernel_rfl
abbrev sky_grid_cells_post (r : Int) : SV → Mem → Prop := fun s _ => s = (.int .i64 r)

def sky_grid_cells (F : Nat) (a0 : Int) : Option (Int) :=
  some (w64 ((6 : Int) * (w64 (a0 * a0))))

theorem sky_grid_cells_ok (F : Nat) (a0 r : Int) (M : Mem) (h : sky_grid_cells F a0 = some r) : CallsM Tryd.prog 100 [(.int .i64 a0)] M (fun s M' => s = (.int .i64 r) ∧ M' = M) := by
  refine CallsM.plain Tryd.func100 rfl rfl rfl (show Run _ _ _ (sky_grid_cells_post r) _ _ _ from ?_)
  rw [sky_grid_cells] at h
  have hH := Has.nil (frozen M)
  refine Run.seq (Run.region ?_)
  refine Run.opG wantS_none (ex_assign rfl) rfl ?_
  refine Run.opsEnd (Run.seq (Run.region ?_))
  refine Run.opG wantS_none (ex_move rfl) rfl ?_
  refine Run.opG wantS_none (ex_move rfl) rfl ?_
  refine Run.opG wantS_none (ex_mul rfl rfl) rfl ?_
  refine Run.opG wantS_none (ex_mul rfl rfl) rfl ?_
  refine Run.opG wantS_none (ex_assign rfl) rfl ?_
  refine Run.opsEnd ?_
  cases h
  exact Run.ret Tryd.func100 rfl (res_tmp rfl res_nil) rfl

theorem mkk100 : makeK Tryd.prog 100 = none := by kernel_rfl
theorem cal100 : callable Tryd.prog 100 = true := by kernel_rfl
abbrev sky_Cells_post (r : Int × Int) : SV → Mem → Prop := fun s _ => s = (.tuple [(.int .i64 r.1), (.int .i64 r.2)])

def sky_Cells (F : Nat) (a0 : Int) : Option (Int × Int) :=
  bnd (sky_checkGrid F a0) fun r22 =>
  bif (!(r22 == (0 : Int))) then
    some ((0 : Int), r22)
  else
    bnd (sky_grid_cells F a0) fun r26 =>
    some (r26, (0 : Int))

theorem sky_Cells_ok (F : Nat) (a0 : Int) (r : Int × Int) (M : Mem) (h : sky_Cells F a0 = some r) : CallsM Tryd.prog 85 [(.int .i64 a0)] M (fun s M' => s = (.tuple [(.int .i64 r.1), (.int .i64 r.2)]) ∧ M' = M) := by
  refine CallsM.plain Tryd.func85 rfl rfl rfl (show Run _ _ _ (sky_Cells_post r) _ _ _ from ?_)
  rw [sky_Cells] at h
  have hH := Has.nil (frozen M)
  refine Run.seq (Run.region ?_)
  refine Run.opG wantS_none (ex_assign rfl) rfl ?_
  refine Run.opG wantS_none (ex_assign rfl) rfl ?_
  refine Run.opsEnd (Run.seq (Run.seq (Run.region ?_)))
  refine Run.opG wantS_none (ex_move rfl) rfl ?_
  obtain ⟨r22, hr22, h⟩ := bnd_some h
  refine Run.callP wantS_none (ex_call rfl mkk99 cal99) rfl (sky_checkGrid_ok F a0 _ _ hr22) ?_
  refine Run.opG wantS_none (ex_assign rfl) rfl ?_
  refine Run.opsEnd (Run.seq (Run.region ?_))
  refine Run.opG wantS_none (ex_move rfl) rfl ?_
  refine Run.opG wantS_none (ex_neq rfl rfl) rfl ?_
  refine Run.opsEnd ?_
  rcases btf ((!(r22 == (0 : Int)))) with hc24 | hc24
  · have h := bif_t hc24 h
    refine Run.condT' rfl hc24 ?_
    refine Run.seq (Run.region ?_)
    refine Run.opG wantS_none (ex_move rfl) rfl ?_
    refine Run.opG wantS_none (ex_assign rfl) rfl ?_
    refine Run.opG wantS_none (ex_assign rfl) rfl ?_
    refine Run.opsEnd ?_
    cases h
    exact Run.ret Tryd.func85 rfl (res_tmp rfl (res_tmp rfl res_nil)) rfl
  · have h := bif_f hc24 h
    refine Run.condF' rfl hc24 ?_
    refine Run.skip (Run.seq (Run.region ?_))
    refine Run.opG wantS_none (ex_move rfl) rfl ?_
    obtain ⟨r26, hr26, h⟩ := bnd_some h
    refine Run.callP wantS_none (ex_call rfl mkk100 cal100) rfl (sky_grid_cells_ok F a0 _ _ hr26) ?_
    refine Run.opG wantS_none (ex_assign rfl) rfl ?_
    refine Run.opG wantS_none (ex_assign rfl) rfl ?_
    refine Run.opsEnd ?_
    cases h
    exact Run.ret Tryd.func85 rfl (res_tmp rfl (res_tmp rfl res_nil)) rfl

theorem mkk85 : makeK Tryd.prog 85 = none := by kernel_rfl
theorem cal85 : callable Tryd.prog 85 = true := by kernel_rfl
theorem off29_5 : fieldOff Tryd.prog 29 5 = some 6 := by kernel_rfl
theorem lenk27 : lenK Tryd.prog 27 = some .sl := by kernel_rfl
theorem els27 : elems Tryd.prog 27 = some (.sl 1) := by kernel_rfl
abbrev alert_areCells_post (r : Bool) : SV → Mem → Prop := fun s _ => s = (.bool r)

def alert_areCells_1 (F : Nat) : Nat → Int → Int → (List Int) → Int → Int → Option (Bool)
  | 0, _, _, _, _, _ => none
  | N + 1, v0, v5, v8, v9, v10 =>
    bif (decide (v10 < v9)) then
      bnd (idx v8 v10) fun x23 =>
      bnd (alert_isFrom F (w64 (v5 + (1 : Int))) x23 (w64 (v0 - (1 : Int)))) fun r25 =>
      bif (!r25) then
        some false
      else
        (alert_areCells_1 F N) v0 x23 v8 v9 (w64 (v10 + (1 : Int)))
    else
      some true

theorem alert_areCells_1_ok (F : Nat) : ∀ (N : Nat), ∀ (v0 v5 : Int) (v8 : (List Int)) (v9 v10 : Int) (sv8 : SV) (Fr : Rd) (M : Mem) (r : Bool) (hv8 : Slc Fr 1 (FlatR enc3) sv8 v8) (hH : Has Fr M []), alert_areCells_1 F N v0 v5 v8 v9 v10 = some r → Run Tryd.prog ⟨⟨86, [], none⟩, []⟩ 23 (alert_areCells_post r) [(0, (.int .i64 v0)), (5, (.int .i64 v5)), (8, sv8), (9, (.int .i64 v9)), (10, (.int .i64 v10))] [codeC Tryd.prog 86 [1, 1, 0, 1, 0, 0], loopC Tryd.prog 86 [1, 1, 0, 1, 0, 0], .inBlock 0, codeC Tryd.prog 86 [1, 1, 1]] M := by
  intro N
  induction N with
  | zero =>
    intro v0 v5 v8 v9 v10 sv8 Fr M r hv8 hH h
    simp [alert_areCells_1] at h
  | succ N ih =>
    intro v0 v5 v8 v9 v10 sv8 Fr M r hv8 hH h
    rw [alert_areCells_1] at h
    refine Run.seq (Run.region ?_)
    refine Run.opG wantS_none (ex_lss rfl rfl) rfl ?_
    refine Run.opsEnd (Run.seq ?_)
    rcases btf ((decide (v10 < v9))) with hc21 | hc21
    · have h := bif_t hc21 h
      refine Run.condT' rfl hc21 ?_
      refine Run.skip (Run.seq (Run.block (Run.seq (Run.region ?_))))
      obtain ⟨x23, hx23, h⟩ := bnd_some h
      obtain ⟨p23, o23, _, hx23, hp23, rfl⟩ := sl_elem (P := Tryd.prog) (t := 27) (kk := .i64) hv8 hx23 els27
      refine Run.opG wantS_none (ex_elX rfl rfl hx23) rfl ?_
      refine Run.opG wantS_none (ex_load1 rfl (hH.ptrF hp23) rdLe_rfl agg3) rfl ?_
      refine Run.opG wantS_none (ex_assign rfl) rfl ?_
      refine Run.opsEnd (Run.seq (Run.seq (Run.region ?_)))
      refine Run.opG wantS_none (ex_move rfl) rfl ?_
      refine Run.opG wantS_none (ex_add rfl rfl) rfl ?_
      refine Run.opG wantS_none (ex_move rfl) rfl ?_
      refine Run.opG wantS_none (ex_move rfl) rfl ?_
      refine Run.opG wantS_none (ex_sub rfl rfl) rfl ?_
      obtain ⟨r25, hr25, h⟩ := bnd_some h
      refine Run.callP wantS_none (ex_call rfl mkk36 cal36) rfl (alert_isFrom_ok F (w64 (v5 + (1 : Int))) x23 (w64 (v0 - (1 : Int))) _ _ hr25) ?_
      refine Run.opG wantS_none (ex_not rfl) rfl ?_
      refine Run.opsEnd ?_
      rcases btf ((!r25)) with hc27 | hc27
      · have h := bif_t hc27 h
        refine Run.condT' rfl hc27 ?_
        refine Run.seq (Run.region ?_)
        refine Run.opG wantS_none (ex_assign rfl) rfl ?_
        refine Run.opsEnd ?_
        cases h
        exact Run.ret Tryd.func86 rfl (res_tmp rfl res_nil) rfl
      · have h := bif_f hc27 h
        refine Run.condF' rfl hc27 ?_
        refine Run.skip (Run.region ?_)
        refine Run.opG wantS_none (ex_move rfl) rfl ?_
        refine Run.opG wantS_none (ex_assign rfl) rfl ?_
        refine Run.opsEnd (Run.inBlock (Run.region ?_))
        refine Run.opG wantS_none (ex_add rfl rfl) rfl ?_
        refine Run.opG wantS_none (ex_move rfl) rfl ?_
        refine Run.opsEnd (Run.inLoop ?_)
        exact Run.pick [0, 5, 8, 9, 10] (ih v0 x23 v8 v9 (w64 (v10 + (1 : Int))) sv8 _ _ _ hv8 hH h)
    · have h := bif_f hc21 h
      refine Run.condF' rfl hc21 ?_
      refine Run.exit rfl (Run.seq (Run.region ?_))
      refine Run.opG wantS_none (ex_assign rfl) rfl ?_
      refine Run.opsEnd ?_
      cases h
      exact Run.ret Tryd.func86 rfl (res_tmp rfl res_nil) rfl

def alert_areCells (F : Nat) (a0 : Int) (a1 : (List Int)) : Option (Bool) :=
  alert_areCells_1 F F a0 ((-1) : Int) a1 (a1.length : Int) (0 : Int)

theorem alert_areCells_ok (F : Nat) (a0 : Int) (a1 : (List Int)) (s0 : SV) (r : Bool) (M : Mem) (hs0 : Slc (rd M) 1 (FlatR enc3) s0 a1) (h : alert_areCells F a0 a1 = some r) : CallsM Tryd.prog 86 [(.int .i64 a0), s0] M (fun s M' => s = (.bool r) ∧ M' = M) := by
  refine CallsM.plain Tryd.func86 rfl rfl rfl (show Run _ _ _ (alert_areCells_post r) _ _ _ from ?_)
  rw [alert_areCells] at h
  replace hs0 := hs0.mono (rdLe_frozen M) (fun _ _ h => h)
  have hH := Has.nil (frozen M)
  refine Run.seq (Run.region ?_)
  refine Run.opG wantS_none (ex_assign rfl) rfl ?_
  refine Run.opsEnd (Run.seq (Run.region ?_))
  refine Run.opG wantS_none (ex_assign rfl) rfl ?_
  refine Run.opsEnd (Run.seq (Run.seq (Run.region ?_)))
  refine Run.opG wantS_none (ex_move rfl) rfl ?_
  refine Run.opG wantS_none (ex_len' rfl hs0 lenk27) rfl ?_
  refine Run.opG wantS_none (ex_move rfl) rfl ?_
  refine Run.opsEnd (Run.block (Run.loop ?_))
  exact Run.pick [0, 5, 8, 9, 10] (alert_areCells_1_ok F F a0 ((-1) : Int) a1 (a1.length : Int) (0 : Int) s0 _ _ _ hs0 hH h)

theorem mkk86 : makeK Tryd.prog 86 = none := by kernel_rfl
theorem cal86 : callable Tryd.prog 86 = true := by kernel_rfl
theorem off29_6 : fieldOff Tryd.prog 29 6 = some 7 := by kernel_rfl
theorem agg4 : aggSize Tryd.prog 4 = some none := by kernel_rfl
theorem eqk4 : eqK Tryd.prog 4 = some .bool := by kernel_rfl
abbrev alert_isPlaced_post (r : Bool) : SV → Mem → Prop := fun s _ => s = (.bool r)

def alert_isPlaced_2 (F : Nat) (v27 : Bool) : Option (Bool) :=
  some v27

theorem alert_isPlaced_2_ok (F : Nat) : ∀ (v27 : Bool) (Fr : Rd) (M : Mem) (r : Bool) (hH : Has Fr M []), alert_isPlaced_2 F v27 = some r → Run Tryd.prog ⟨⟨72, [], none⟩, []⟩ 28 (alert_isPlaced_post r) [(27, (.bool v27))] [itemC Tryd.prog 72 [1, 1, 0] 17, codeC Tryd.prog 72 [1, 1, 1]] M := by
  intro v27 Fr M r hH h
  rw [alert_isPlaced_2] at h
  refine Run.opG wantS_none (ex_assign rfl) rfl ?_
  refine Run.opsEnd ?_
  cases h
  exact Run.ret Tryd.func72 rfl (res_tmp rfl res_nil) rfl

def alert_isPlaced_1 (F : Nat) (v18 : Bool) (c22_0 : (List UInt8)) (c22_1 c22_2 c22_3 c22_4 c22_5 : Int) (c22_6 : (List Int)) (c22_7 : Bool) (c22_8 : Int) : Option (Bool) :=
  bif v18 then
    alert_isPlaced_2 F (c22_7 == ((c22_6.length : Int) == (0 : Int)))
  else
    alert_isPlaced_2 F false

theorem alert_isPlaced_1_ok (F : Nat) : ∀ (v18 : Bool) (c22_0 : (List UInt8)) (c22_1 c22_2 c22_3 c22_4 c22_5 : Int) (c22_6 : (List Int)) (c22_7 : Bool) (c22_8 : Int) (sc22_6 : SV) (b22 : Pos) (Fr : Rd) (M : Mem) (r : Bool) (hc22_6 : Slc Fr 1 (FlatR enc3) sc22_6 c22_6) (hH : Has Fr M [.obj b22 (.row 29 .whole [(.str c22_0), (.int .i64 c22_1), (.int .i64 c22_2), (.int .i64 c22_3), (.int .i64 c22_4), (.int .i64 c22_5), sc22_6, (.bool c22_7), (.int .i64 c22_8)])]), alert_isPlaced_1 F v18 c22_0 c22_1 c22_2 c22_3 c22_4 c22_5 c22_6 c22_7 c22_8 = some r → Run Tryd.prog ⟨⟨72, [], none⟩, []⟩ 28 (alert_isPlaced_post r) [(1, (.ptr b22 0)), (18, (.bool v18))] [itemC Tryd.prog 72 [1, 1, 0] 8, codeC Tryd.prog 72 [1, 1, 1]] M := by
  intro v18 c22_0 c22_1 c22_2 c22_3 c22_4 c22_5 c22_6 c22_7 c22_8 sc22_6 b22 Fr M r hc22_6 hH h
  rw [alert_isPlaced_1] at h
  refine Run.opG wantS_none (ex_move rfl) rfl ?_
  rcases btf (v18) with hc31 | hc31
  · have h := bif_t hc31 h
    refine Run.opG (wantS_yes' rfl rfl hc31) (ex_fieldAddr rfl off29_6) rfl ?_
    refine Run.opG (wantS_yes' rfl rfl hc31) (ex_load1 rfl (hH.cells (i := 0) rfl 7 rfl) rdLe_rfl agg4) rfl ?_
    refine Run.opG (wantS_yes' rfl rfl hc31) (ex_fieldAddr rfl off29_5) rfl ?_
    refine Run.opG (wantS_yes' rfl rfl hc31) (ex_load1 rfl (hH.cells (i := 0) rfl 6 rfl) rdLe_rfl agg27) rfl ?_
    refine Run.opG (wantS_yes' rfl rfl hc31) (ex_len' rfl hc22_6 lenk27) rfl ?_
    refine Run.opG (wantS_yes' rfl rfl hc31) (ex_eql rfl rfl) rfl ?_
    refine Run.opG (wantS_yes' rfl rfl hc31) (ex_eqlB rfl rfl eqk4) rfl ?_
    refine Run.opG wantS_none (ex_pickT' rfl hc31 rfl rfl) rfl ?_
    exact Run.pick [27] (alert_isPlaced_2_ok F (c22_7 == ((c22_6.length : Int) == (0 : Int))) _ _ _ (hH.pick [] rfl rfl) h)
  · have h := bif_f hc31 h
    refine Run.no (wantS_not' rfl rfl hc31) rfl ?_
    refine Run.no (wantS_not' rfl rfl hc31) rfl ?_
    refine Run.no (wantS_not' rfl rfl hc31) rfl ?_
    refine Run.no (wantS_not' rfl rfl hc31) rfl ?_
    refine Run.no (wantS_not' rfl rfl hc31) rfl ?_
    refine Run.no (wantS_not' rfl rfl hc31) rfl ?_
    refine Run.no (wantS_not' rfl rfl hc31) rfl ?_
    refine Run.opG wantS_none (ex_pickF' rfl hc31 rfl rfl) rfl ?_
    exact Run.pick [27] (alert_isPlaced_2_ok F false _ _ _ (hH.pick [] rfl rfl) h)

def alert_isPlaced (F : Nat) (a0 : S_api_Alert) : Option (Bool) :=
  bnd (sky_Cells F a0.Grid) fun r25 =>
  bif (r25.2 == (0 : Int)) then
    bnd (alert_areCells F r25.1 a0.Cells) fun r29 =>
    alert_isPlaced_1 F r29 a0.Event a0.Version a0.Time a0.Chance.N a0.Chance.Of a0.Grid a0.Cells a0.Withdrawn a0.Before
  else
    alert_isPlaced_1 F false a0.Event a0.Version a0.Time a0.Chance.N a0.Chance.Of a0.Grid a0.Cells a0.Withdrawn a0.Before

theorem alert_isPlaced_ok (F : Nat) (a0 : S_api_Alert) (s0 : SV) (r : Bool) (M : Mem) (hs0 : Slc (rd M) 1 (FlatR enc3) s0 a0.Cells) (h : alert_isPlaced F a0 = some r) : CallsM Tryd.prog 72 [(.agg [(.str a0.Event), (.int .i64 a0.Version), (.int .i64 a0.Time), (.int .i64 a0.Chance.N), (.int .i64 a0.Chance.Of), (.int .i64 a0.Grid), s0, (.bool a0.Withdrawn), (.int .i64 a0.Before)])] M (fun s M' => s = (.bool r) ∧ M' = M) := by
  refine CallsM.plain Tryd.func72 rfl rfl rfl (show Run _ _ _ (alert_isPlaced_post r) _ _ _ from ?_)
  rw [alert_isPlaced] at h
  replace hs0 := hs0.mono (rdLe_frozen M) (fun _ _ h => h)
  have hH := Has.nil (frozen M)
  refine Run.seq (Run.region ?_)
  refine Run.opX wantS_none rfl (ExG.box rfl rfl hH) ?_
  rintro _ M23 ⟨b22, rfl, hH23⟩
  refine Run.opG wantS_none (ex_assign rfl) rfl ?_
  refine Run.opsEnd (Run.seq (Run.region ?_))
  refine Run.opG wantS_none (ex_fieldAddr rfl off29_4) rfl ?_
  refine Run.opG wantS_none (ex_load1 rfl (hH23.cells (i := 0) rfl 5 rfl) rdLe_rfl agg3) rfl ?_
  obtain ⟨r25, hr25, h⟩ := bnd_some h
  refine Run.callP wantS_none (ex_call rfl mkk85 cal85) rfl (sky_Cells_ok F a0.Grid _ _ hr25) ?_
  refine Run.opG wantS_none (ex_move rfl) rfl ?_
  refine Run.opG wantS_none (ex_extract rfl rfl) rfl ?_
  refine Run.opG wantS_none (ex_extract rfl rfl) rfl ?_
  refine Run.opG wantS_none (ex_assign rfl) rfl ?_
  refine Run.opG wantS_none (ex_assign rfl) rfl ?_
  refine Run.opsEnd (Run.seq (Run.region ?_))
  refine Run.opG wantS_none (ex_move rfl) rfl ?_
  refine Run.opG wantS_none (ex_eql rfl rfl) rfl ?_
  refine Run.opG wantS_none (ex_move rfl) rfl ?_
  rcases btf ((r25.2 == (0 : Int))) with hc27 | hc27
  · have h := bif_t hc27 h
    refine Run.opG (wantS_yes' rfl rfl hc27) (ex_move rfl) rfl ?_
    refine Run.opG (wantS_yes' rfl rfl hc27) (ex_fieldAddr rfl off29_5) rfl ?_
    refine Run.opG (wantS_yes' rfl rfl hc27) (ex_load1 rfl (hH23.cells (i := 0) rfl 6 rfl) rdLe_rfl agg27) rfl ?_
    obtain ⟨r29, hr29, h⟩ := bnd_some h
    refine Run.callP (wantS_yes' rfl rfl hc27) (ex_call rfl mkk86 cal86) rfl (alert_areCells_ok F r25.1 a0.Cells s0 _ _ (hH23.slcF hs0) hr29) ?_
    refine Run.opG wantS_none (ex_pickT' rfl hc27 rfl rfl) rfl ?_
    exact Run.pick [1, 18] (alert_isPlaced_1_ok F r29 a0.Event a0.Version a0.Time a0.Chance.N a0.Chance.Of a0.Grid a0.Cells a0.Withdrawn a0.Before s0 b22 _ _ _ hs0 hH23 h)
  · have h := bif_f hc27 h
    refine Run.no (wantS_not' rfl rfl hc27) rfl ?_
    refine Run.no (wantS_not' rfl rfl hc27) rfl ?_
    refine Run.no (wantS_not' rfl rfl hc27) rfl ?_
    refine Run.no (wantS_not' rfl rfl hc27) rfl ?_
    refine Run.opG wantS_none (ex_pickF' rfl hc27 rfl rfl) rfl ?_
    exact Run.pick [1, 18] (alert_isPlaced_1_ok F false a0.Event a0.Version a0.Time a0.Chance.N a0.Chance.Of a0.Grid a0.Cells a0.Withdrawn a0.Before s0 b22 _ _ _ hs0 hH23 h)

theorem mkk72 : makeK Tryd.prog 72 = none := by kernel_rfl
theorem cal72 : callable Tryd.prog 72 = true := by kernel_rfl
theorem off29_7 : fieldOff Tryd.prog 29 7 = some 8 := by kernel_rfl
abbrev alert_isBefore_post (r : Bool) : SV → Mem → Prop := fun s _ => s = (.bool r)

def alert_isBefore (F : Nat) (a0 : S_api_Alert) : Option (Bool) :=
  bif (a0.Version == (1 : Int)) then
    some (a0.Before == (0 : Int))
  else
    bnd (alert_isFrom F (0 : Int) a0.Before (2147483646 : Int)) fun r26 =>
    some r26

theorem alert_isBefore_ok (F : Nat) (a0 : S_api_Alert) (s0 : SV) (r : Bool) (M : Mem) (hs0 : Slc (rd M) 1 (FlatR enc3) s0 a0.Cells) (h : alert_isBefore F a0 = some r) : CallsM Tryd.prog 73 [(.agg [(.str a0.Event), (.int .i64 a0.Version), (.int .i64 a0.Time), (.int .i64 a0.Chance.N), (.int .i64 a0.Chance.Of), (.int .i64 a0.Grid), s0, (.bool a0.Withdrawn), (.int .i64 a0.Before)])] M (fun s M' => s = (.bool r) ∧ M' = M) := by
  refine CallsM.plain Tryd.func73 rfl rfl rfl (show Run _ _ _ (alert_isBefore_post r) _ _ _ from ?_)
  rw [alert_isBefore] at h
  replace hs0 := hs0.mono (rdLe_frozen M) (fun _ _ h => h)
  have hH := Has.nil (frozen M)
  refine Run.seq (Run.region ?_)
  refine Run.opX wantS_none rfl (ExG.box rfl rfl hH) ?_
  rintro _ M23 ⟨b22, rfl, hH23⟩
  refine Run.opG wantS_none (ex_assign rfl) rfl ?_
  refine Run.opsEnd (Run.seq (Run.seq (Run.region ?_)))
  refine Run.opG wantS_none (ex_fieldAddr rfl off29_1) rfl ?_
  refine Run.opG wantS_none (ex_load1 rfl (hH23.cells (i := 0) rfl 1 rfl) rdLe_rfl agg3) rfl ?_
  refine Run.opG wantS_none (ex_eql rfl rfl) rfl ?_
  refine Run.opsEnd ?_
  rcases btf ((a0.Version == (1 : Int))) with hc24 | hc24
  · have h := bif_t hc24 h
    refine Run.condT' rfl hc24 ?_
    refine Run.seq (Run.region ?_)
    refine Run.opG wantS_none (ex_fieldAddr rfl off29_7) rfl ?_
    refine Run.opG wantS_none (ex_load1 rfl (hH23.cells (i := 0) rfl 8 rfl) rdLe_rfl agg3) rfl ?_
    refine Run.opG wantS_none (ex_eql rfl rfl) rfl ?_
    refine Run.opG wantS_none (ex_assign rfl) rfl ?_
    refine Run.opsEnd ?_
    cases h
    exact Run.ret Tryd.func73 rfl (res_tmp rfl res_nil) rfl
  · have h := bif_f hc24 h
    refine Run.condF' rfl hc24 ?_
    refine Run.skip (Run.seq (Run.region ?_))
    refine Run.opG wantS_none (ex_fieldAddr rfl off29_7) rfl ?_
    refine Run.opG wantS_none (ex_load1 rfl (hH23.cells (i := 0) rfl 8 rfl) rdLe_rfl agg3) rfl ?_
    obtain ⟨r26, hr26, h⟩ := bnd_some h
    refine Run.callP wantS_none (ex_call rfl mkk36 cal36) rfl (alert_isFrom_ok F (0 : Int) a0.Before (2147483646 : Int) _ _ hr26) ?_
    refine Run.opG wantS_none (ex_assign rfl) rfl ?_
    refine Run.opsEnd ?_
    cases h
    exact Run.ret Tryd.func73 rfl (res_tmp rfl res_nil) rfl

theorem mkk73 : makeK Tryd.prog 73 = none := by kernel_rfl
theorem cal73 : callable Tryd.prog 73 = true := by kernel_rfl
abbrev alert_isAlert_post (r : Bool) : SV → Mem → Prop := fun s _ => s = (.bool r)

def alert_isAlert_5 (F : Nat) (v28 : Bool) : Option (Bool) :=
  some v28

theorem alert_isAlert_5_ok (F : Nat) : ∀ (v28 : Bool) (Fr : Rd) (M : Mem) (r : Bool) (hH : Has Fr M []), alert_isAlert_5 F v28 = some r → Run Tryd.prog ⟨⟨43, [], none⟩, []⟩ 29 (alert_isAlert_post r) [(28, (.bool v28))] [itemC Tryd.prog 43 [1, 0] 26, codeC Tryd.prog 43 [1, 1]] M := by
  intro v28 Fr M r hH h
  rw [alert_isAlert_5] at h
  refine Run.opG wantS_none (ex_assign rfl) rfl ?_
  refine Run.opsEnd ?_
  cases h
  exact Run.ret Tryd.func43 rfl (res_tmp rfl res_nil) rfl

def alert_isAlert_4 (F : Nat) (v24 : Bool) (c22_0 : (List UInt8)) (c22_1 c22_2 c22_3 c22_4 c22_5 : Int) (c22_6 : (List Int)) (c22_7 : Bool) (c22_8 : Int) : Option (Bool) :=
  bif v24 then
    bnd (alert_isBefore F (S_api_Alert.mk c22_0 c22_1 c22_2 (S_api_Chance.mk c22_3 c22_4) c22_5 c22_6 c22_7 c22_8)) fun r45 =>
    alert_isAlert_5 F r45
  else
    alert_isAlert_5 F false

theorem alert_isAlert_4_ok (F : Nat) : ∀ (v24 : Bool) (c22_0 : (List UInt8)) (c22_1 c22_2 c22_3 c22_4 c22_5 : Int) (c22_6 : (List Int)) (c22_7 : Bool) (c22_8 : Int) (sc22_6 : SV) (b22 : Pos) (Fr : Rd) (M : Mem) (r : Bool) (hc22_6 : Slc Fr 1 (FlatR enc3) sc22_6 c22_6) (hH : Has Fr M [.obj b22 (.row 29 .whole [(.str c22_0), (.int .i64 c22_1), (.int .i64 c22_2), (.int .i64 c22_3), (.int .i64 c22_4), (.int .i64 c22_5), sc22_6, (.bool c22_7), (.int .i64 c22_8)])]), alert_isAlert_4 F v24 c22_0 c22_1 c22_2 c22_3 c22_4 c22_5 c22_6 c22_7 c22_8 = some r → Run Tryd.prog ⟨⟨43, [], none⟩, []⟩ 29 (alert_isAlert_post r) [(1, (.ptr b22 0)), (24, (.bool v24))] [itemC Tryd.prog 43 [1, 0] 22, codeC Tryd.prog 43 [1, 1]] M := by
  intro v24 c22_0 c22_1 c22_2 c22_3 c22_4 c22_5 c22_6 c22_7 c22_8 sc22_6 b22 Fr M r hc22_6 hH h
  rw [alert_isAlert_4] at h
  refine Run.opG wantS_none (ex_move rfl) rfl ?_
  rcases btf (v24) with hc43 | hc43
  · have h := bif_t hc43 h
    refine Run.opG (wantS_yes' rfl rfl hc43) (ex_loadA rfl (hH.cells (i := 0) rfl 0 rfl) rdLe_rfl agg29 rfl rfl rfl) rfl ?_
    obtain ⟨r45, hr45, h⟩ := bnd_some h
    refine Run.callP (wantS_yes' rfl rfl hc43) (ex_call rfl mkk73 cal73) rfl (alert_isBefore_ok F (S_api_Alert.mk c22_0 c22_1 c22_2 (S_api_Chance.mk c22_3 c22_4) c22_5 c22_6 c22_7 c22_8) sc22_6 _ _ (hH.slcF hc22_6) hr45) ?_
    refine Run.opG wantS_none (ex_pickT' rfl hc43 rfl rfl) rfl ?_
    exact Run.pick [28] (alert_isAlert_5_ok F r45 _ _ _ (hH.pick [] rfl rfl) h)
  · have h := bif_f hc43 h
    refine Run.no (wantS_not' rfl rfl hc43) rfl ?_
    refine Run.no (wantS_not' rfl rfl hc43) rfl ?_
    refine Run.opG wantS_none (ex_pickF' rfl hc43 rfl rfl) rfl ?_
    exact Run.pick [28] (alert_isAlert_5_ok F false _ _ _ (hH.pick [] rfl rfl) h)

def alert_isAlert_3 (F : Nat) (v20 : Bool) (c22_0 : (List UInt8)) (c22_1 c22_2 c22_3 c22_4 c22_5 : Int) (c22_6 : (List Int)) (c22_7 : Bool) (c22_8 : Int) : Option (Bool) :=
  bif v20 then
    bnd (alert_isPlaced F (S_api_Alert.mk c22_0 c22_1 c22_2 (S_api_Chance.mk c22_3 c22_4) c22_5 c22_6 c22_7 c22_8)) fun r41 =>
    alert_isAlert_4 F r41 c22_0 c22_1 c22_2 c22_3 c22_4 c22_5 c22_6 c22_7 c22_8
  else
    alert_isAlert_4 F false c22_0 c22_1 c22_2 c22_3 c22_4 c22_5 c22_6 c22_7 c22_8

theorem alert_isAlert_3_ok (F : Nat) : ∀ (v20 : Bool) (c22_0 : (List UInt8)) (c22_1 c22_2 c22_3 c22_4 c22_5 : Int) (c22_6 : (List Int)) (c22_7 : Bool) (c22_8 : Int) (sc22_6 : SV) (b22 : Pos) (Fr : Rd) (M : Mem) (r : Bool) (hc22_6 : Slc Fr 1 (FlatR enc3) sc22_6 c22_6) (hH : Has Fr M [.obj b22 (.row 29 .whole [(.str c22_0), (.int .i64 c22_1), (.int .i64 c22_2), (.int .i64 c22_3), (.int .i64 c22_4), (.int .i64 c22_5), sc22_6, (.bool c22_7), (.int .i64 c22_8)])]), alert_isAlert_3 F v20 c22_0 c22_1 c22_2 c22_3 c22_4 c22_5 c22_6 c22_7 c22_8 = some r → Run Tryd.prog ⟨⟨43, [], none⟩, []⟩ 29 (alert_isAlert_post r) [(1, (.ptr b22 0)), (20, (.bool v20))] [itemC Tryd.prog 43 [1, 0] 18, codeC Tryd.prog 43 [1, 1]] M := by
  intro v20 c22_0 c22_1 c22_2 c22_3 c22_4 c22_5 c22_6 c22_7 c22_8 sc22_6 b22 Fr M r hc22_6 hH h
  rw [alert_isAlert_3] at h
  refine Run.opG wantS_none (ex_move rfl) rfl ?_
  rcases btf (v20) with hc39 | hc39
  · have h := bif_t hc39 h
    refine Run.opG (wantS_yes' rfl rfl hc39) (ex_loadA rfl (hH.cells (i := 0) rfl 0 rfl) rdLe_rfl agg29 rfl rfl rfl) rfl ?_
    obtain ⟨r41, hr41, h⟩ := bnd_some h
    refine Run.callP (wantS_yes' rfl rfl hc39) (ex_call rfl mkk72 cal72) rfl (alert_isPlaced_ok F (S_api_Alert.mk c22_0 c22_1 c22_2 (S_api_Chance.mk c22_3 c22_4) c22_5 c22_6 c22_7 c22_8) sc22_6 _ _ (hH.slcF hc22_6) hr41) ?_
    refine Run.opG wantS_none (ex_pickT' rfl hc39 rfl rfl) rfl ?_
    exact Run.pick [1, 24] (alert_isAlert_4_ok F r41 c22_0 c22_1 c22_2 c22_3 c22_4 c22_5 c22_6 c22_7 c22_8 sc22_6 b22 _ _ _ hc22_6 hH h)
  · have h := bif_f hc39 h
    refine Run.no (wantS_not' rfl rfl hc39) rfl ?_
    refine Run.no (wantS_not' rfl rfl hc39) rfl ?_
    refine Run.opG wantS_none (ex_pickF' rfl hc39 rfl rfl) rfl ?_
    exact Run.pick [1, 24] (alert_isAlert_4_ok F false c22_0 c22_1 c22_2 c22_3 c22_4 c22_5 c22_6 c22_7 c22_8 sc22_6 b22 _ _ _ hc22_6 hH h)

def alert_isAlert_2 (F : Nat) (v15 : Bool) (c22_0 : (List UInt8)) (c22_1 c22_2 c22_3 c22_4 c22_5 : Int) (c22_6 : (List Int)) (c22_7 : Bool) (c22_8 : Int) : Option (Bool) :=
  bif v15 then
    bnd (alert_isChance F (S_api_Chance.mk c22_3 c22_4)) fun r37 =>
    alert_isAlert_3 F r37 c22_0 c22_1 c22_2 c22_3 c22_4 c22_5 c22_6 c22_7 c22_8
  else
    alert_isAlert_3 F false c22_0 c22_1 c22_2 c22_3 c22_4 c22_5 c22_6 c22_7 c22_8

theorem alert_isAlert_2_ok (F : Nat) : ∀ (v15 : Bool) (c22_0 : (List UInt8)) (c22_1 c22_2 c22_3 c22_4 c22_5 : Int) (c22_6 : (List Int)) (c22_7 : Bool) (c22_8 : Int) (sc22_6 : SV) (b22 : Pos) (Fr : Rd) (M : Mem) (r : Bool) (hc22_6 : Slc Fr 1 (FlatR enc3) sc22_6 c22_6) (hH : Has Fr M [.obj b22 (.row 29 .whole [(.str c22_0), (.int .i64 c22_1), (.int .i64 c22_2), (.int .i64 c22_3), (.int .i64 c22_4), (.int .i64 c22_5), sc22_6, (.bool c22_7), (.int .i64 c22_8)])]), alert_isAlert_2 F v15 c22_0 c22_1 c22_2 c22_3 c22_4 c22_5 c22_6 c22_7 c22_8 = some r → Run Tryd.prog ⟨⟨43, [], none⟩, []⟩ 29 (alert_isAlert_post r) [(1, (.ptr b22 0)), (15, (.bool v15))] [itemC Tryd.prog 43 [1, 0] 13, codeC Tryd.prog 43 [1, 1]] M := by
  intro v15 c22_0 c22_1 c22_2 c22_3 c22_4 c22_5 c22_6 c22_7 c22_8 sc22_6 b22 Fr M r hc22_6 hH h
  rw [alert_isAlert_2] at h
  refine Run.opG wantS_none (ex_move rfl) rfl ?_
  rcases btf (v15) with hc35 | hc35
  · have h := bif_t hc35 h
    refine Run.opG (wantS_yes' rfl rfl hc35) (ex_fieldAddr rfl off29_3) rfl ?_
    refine Run.opG (wantS_yes' rfl rfl hc35) (ex_loadA rfl (hH.cells (i := 0) rfl 3 rfl) rdLe_rfl agg26 rfl rfl rfl) rfl ?_
    obtain ⟨r37, hr37, h⟩ := bnd_some h
    refine Run.callP (wantS_yes' rfl rfl hc35) (ex_call rfl mkk71 cal71) rfl (alert_isChance_ok F (S_api_Chance.mk c22_3 c22_4) _ _ hr37) ?_
    refine Run.opG wantS_none (ex_pickT' rfl hc35 rfl rfl) rfl ?_
    exact Run.pick [1, 20] (alert_isAlert_3_ok F r37 c22_0 c22_1 c22_2 c22_3 c22_4 c22_5 c22_6 c22_7 c22_8 sc22_6 b22 _ _ _ hc22_6 hH h)
  · have h := bif_f hc35 h
    refine Run.no (wantS_not' rfl rfl hc35) rfl ?_
    refine Run.no (wantS_not' rfl rfl hc35) rfl ?_
    refine Run.no (wantS_not' rfl rfl hc35) rfl ?_
    refine Run.opG wantS_none (ex_pickF' rfl hc35 rfl rfl) rfl ?_
    exact Run.pick [1, 20] (alert_isAlert_3_ok F false c22_0 c22_1 c22_2 c22_3 c22_4 c22_5 c22_6 c22_7 c22_8 sc22_6 b22 _ _ _ hc22_6 hH h)

def alert_isAlert_1 (F : Nat) (v10 : Bool) (c22_0 : (List UInt8)) (c22_1 c22_2 c22_3 c22_4 c22_5 : Int) (c22_6 : (List Int)) (c22_7 : Bool) (c22_8 : Int) : Option (Bool) :=
  bif v10 then
    bnd (alert_isFrom F (0 : Int) c22_2 (1073741824 : Int)) fun r33 =>
    alert_isAlert_2 F r33 c22_0 c22_1 c22_2 c22_3 c22_4 c22_5 c22_6 c22_7 c22_8
  else
    alert_isAlert_2 F false c22_0 c22_1 c22_2 c22_3 c22_4 c22_5 c22_6 c22_7 c22_8

theorem alert_isAlert_1_ok (F : Nat) : ∀ (v10 : Bool) (c22_0 : (List UInt8)) (c22_1 c22_2 c22_3 c22_4 c22_5 : Int) (c22_6 : (List Int)) (c22_7 : Bool) (c22_8 : Int) (sc22_6 : SV) (b22 : Pos) (Fr : Rd) (M : Mem) (r : Bool) (hc22_6 : Slc Fr 1 (FlatR enc3) sc22_6 c22_6) (hH : Has Fr M [.obj b22 (.row 29 .whole [(.str c22_0), (.int .i64 c22_1), (.int .i64 c22_2), (.int .i64 c22_3), (.int .i64 c22_4), (.int .i64 c22_5), sc22_6, (.bool c22_7), (.int .i64 c22_8)])]), alert_isAlert_1 F v10 c22_0 c22_1 c22_2 c22_3 c22_4 c22_5 c22_6 c22_7 c22_8 = some r → Run Tryd.prog ⟨⟨43, [], none⟩, []⟩ 29 (alert_isAlert_post r) [(1, (.ptr b22 0)), (10, (.bool v10))] [itemC Tryd.prog 43 [1, 0] 8, codeC Tryd.prog 43 [1, 1]] M := by
  intro v10 c22_0 c22_1 c22_2 c22_3 c22_4 c22_5 c22_6 c22_7 c22_8 sc22_6 b22 Fr M r hc22_6 hH h
  rw [alert_isAlert_1] at h
  refine Run.opG wantS_none (ex_move rfl) rfl ?_
  rcases btf (v10) with hc31 | hc31
  · have h := bif_t hc31 h
    refine Run.opG (wantS_yes' rfl rfl hc31) (ex_fieldAddr rfl off29_2) rfl ?_
    refine Run.opG (wantS_yes' rfl rfl hc31) (ex_load1 rfl (hH.cells (i := 0) rfl 2 rfl) rdLe_rfl agg3) rfl ?_
    obtain ⟨r33, hr33, h⟩ := bnd_some h
    refine Run.callP (wantS_yes' rfl rfl hc31) (ex_call rfl mkk36 cal36) rfl (alert_isFrom_ok F (0 : Int) c22_2 (1073741824 : Int) _ _ hr33) ?_
    refine Run.opG wantS_none (ex_pickT' rfl hc31 rfl rfl) rfl ?_
    exact Run.pick [1, 15] (alert_isAlert_2_ok F r33 c22_0 c22_1 c22_2 c22_3 c22_4 c22_5 c22_6 c22_7 c22_8 sc22_6 b22 _ _ _ hc22_6 hH h)
  · have h := bif_f hc31 h
    refine Run.no (wantS_not' rfl rfl hc31) rfl ?_
    refine Run.no (wantS_not' rfl rfl hc31) rfl ?_
    refine Run.no (wantS_not' rfl rfl hc31) rfl ?_
    refine Run.opG wantS_none (ex_pickF' rfl hc31 rfl rfl) rfl ?_
    exact Run.pick [1, 15] (alert_isAlert_2_ok F false c22_0 c22_1 c22_2 c22_3 c22_4 c22_5 c22_6 c22_7 c22_8 sc22_6 b22 _ _ _ hc22_6 hH h)

def alert_isAlert (F : Nat) (a0 : S_api_Alert) : Option (Bool) :=
  bnd (num_IsName F a0.Event) fun r25 =>
  bif r25 then
    bnd (alert_isFrom F (1 : Int) a0.Version (1000 : Int)) fun r29 =>
    alert_isAlert_1 F r29 a0.Event a0.Version a0.Time a0.Chance.N a0.Chance.Of a0.Grid a0.Cells a0.Withdrawn a0.Before
  else
    alert_isAlert_1 F false a0.Event a0.Version a0.Time a0.Chance.N a0.Chance.Of a0.Grid a0.Cells a0.Withdrawn a0.Before

theorem alert_isAlert_ok (F : Nat) (a0 : S_api_Alert) (s0 : SV) (r : Bool) (M : Mem) (hs0 : Slc (rd M) 1 (FlatR enc3) s0 a0.Cells) (h : alert_isAlert F a0 = some r) : CallsM Tryd.prog 43 [(.agg [(.str a0.Event), (.int .i64 a0.Version), (.int .i64 a0.Time), (.int .i64 a0.Chance.N), (.int .i64 a0.Chance.Of), (.int .i64 a0.Grid), s0, (.bool a0.Withdrawn), (.int .i64 a0.Before)])] M (fun s M' => s = (.bool r) ∧ M' = M) := by
  refine CallsM.plain Tryd.func43 rfl rfl rfl (show Run _ _ _ (alert_isAlert_post r) _ _ _ from ?_)
  rw [alert_isAlert] at h
  replace hs0 := hs0.mono (rdLe_frozen M) (fun _ _ h => h)
  have hH := Has.nil (frozen M)
  refine Run.seq (Run.region ?_)
  refine Run.opX wantS_none rfl (ExG.box rfl rfl hH) ?_
  rintro _ M23 ⟨b22, rfl, hH23⟩
  refine Run.opG wantS_none (ex_assign rfl) rfl ?_
  refine Run.opsEnd (Run.seq (Run.region ?_))
  refine Run.opG wantS_none (ex_fieldAddr rfl off29_0) rfl ?_
  refine Run.opG wantS_none (ex_load1 rfl (hH23.cells (i := 0) rfl 0 rfl) rdLe_rfl agg9) rfl ?_
  obtain ⟨r25, hr25, h⟩ := bnd_some h
  refine Run.callP wantS_none (ex_call rfl mkk70 cal70) rfl (num_IsName_ok F a0.Event _ _ hr25) ?_
  refine Run.opG wantS_none (ex_move rfl) rfl ?_
  rcases btf (r25) with hc27 | hc27
  · have h := bif_t hc27 h
    refine Run.opG (wantS_yes' rfl rfl hc27) (ex_fieldAddr rfl off29_1) rfl ?_
    refine Run.opG (wantS_yes' rfl rfl hc27) (ex_load1 rfl (hH23.cells (i := 0) rfl 1 rfl) rdLe_rfl agg3) rfl ?_
    obtain ⟨r29, hr29, h⟩ := bnd_some h
    refine Run.callP (wantS_yes' rfl rfl hc27) (ex_call rfl mkk36 cal36) rfl (alert_isFrom_ok F (1 : Int) a0.Version (1000 : Int) _ _ hr29) ?_
    refine Run.opG wantS_none (ex_pickT' rfl hc27 rfl rfl) rfl ?_
    exact Run.pick [1, 10] (alert_isAlert_1_ok F r29 a0.Event a0.Version a0.Time a0.Chance.N a0.Chance.Of a0.Grid a0.Cells a0.Withdrawn a0.Before s0 b22 _ _ _ hs0 hH23 h)
  · have h := bif_f hc27 h
    refine Run.no (wantS_not' rfl rfl hc27) rfl ?_
    refine Run.no (wantS_not' rfl rfl hc27) rfl ?_
    refine Run.no (wantS_not' rfl rfl hc27) rfl ?_
    refine Run.opG wantS_none (ex_pickF' rfl hc27 rfl rfl) rfl ?_
    exact Run.pick [1, 10] (alert_isAlert_1_ok F false a0.Event a0.Version a0.Time a0.Chance.N a0.Chance.Of a0.Grid a0.Cells a0.Withdrawn a0.Before s0 b22 _ _ _ hs0 hH23 h)

theorem mkk43 : makeK Tryd.prog 43 = none := by kernel_rfl
theorem cal43 : callable Tryd.prog 43 = true := by kernel_rfl
abbrev alert_CheckAlert_post (r : Int) : SV → Mem → Prop := fun s _ => s = (.int .i64 r)

def alert_CheckAlert (F : Nat) (a0 : S_api_Alert) : Option (Int) :=
  bnd (alert_isAlert F a0) fun r25 =>
  bif (!r25) then
    some (101 : Int)
  else
    some (0 : Int)

theorem alert_CheckAlert_ok (F : Nat) (a0 : S_api_Alert) (s0 : SV) (r : Int) (M : Mem) (hs0 : Slc (rd M) 1 (FlatR enc3) s0 a0.Cells) (h : alert_CheckAlert F a0 = some r) : CallsM Tryd.prog 69 [(.agg [(.str a0.Event), (.int .i64 a0.Version), (.int .i64 a0.Time), (.int .i64 a0.Chance.N), (.int .i64 a0.Chance.Of), (.int .i64 a0.Grid), s0, (.bool a0.Withdrawn), (.int .i64 a0.Before)])] M (fun s M' => s = (.int .i64 r) ∧ M' = M) := by
  refine CallsM.plain Tryd.func69 rfl rfl rfl (show Run _ _ _ (alert_CheckAlert_post r) _ _ _ from ?_)
  rw [alert_CheckAlert] at h
  replace hs0 := hs0.mono (rdLe_frozen M) (fun _ _ h => h)
  have hH := Has.nil (frozen M)
  refine Run.seq (Run.region ?_)
  refine Run.opX wantS_none rfl (ExG.box rfl rfl hH) ?_
  rintro _ M23 ⟨b22, rfl, hH23⟩
  refine Run.opG wantS_none (ex_assign rfl) rfl ?_
  refine Run.opsEnd (Run.seq (Run.seq (Run.region ?_)))
  refine Run.opG wantS_none (ex_loadA rfl (hH23.cells (i := 0) rfl 0 rfl) rdLe_rfl agg29 rfl rfl rfl) rfl ?_
  obtain ⟨r25, hr25, h⟩ := bnd_some h
  refine Run.callP wantS_none (ex_call rfl mkk43 cal43) rfl (alert_isAlert_ok F a0 s0 _ _ (hH23.slcF hs0) hr25) ?_
  refine Run.opG wantS_none (ex_not rfl) rfl ?_
  refine Run.opsEnd ?_
  rcases btf ((!r25)) with hc27 | hc27
  · have h := bif_t hc27 h
    refine Run.condT' rfl hc27 ?_
    refine Run.seq (Run.region ?_)
    refine Run.opG wantS_none (ex_assign rfl) rfl ?_
    refine Run.opsEnd ?_
    cases h
    exact Run.ret Tryd.func69 rfl (res_tmp rfl res_nil) rfl
  · have h := bif_f hc27 h
    refine Run.condF' rfl hc27 ?_
    refine Run.skip (Run.seq (Run.region ?_))
    refine Run.opG wantS_none (ex_assign rfl) rfl ?_
    refine Run.opsEnd ?_
    cases h
    exact Run.ret Tryd.func69 rfl (res_tmp rfl res_nil) rfl

theorem mkk69 : makeK Tryd.prog 69 = none := by kernel_rfl
theorem cal69 : callable Tryd.prog 69 = true := by kernel_rfl
theorem eqk27 : eqK Tryd.prog 27 = some .slice := by kernel_rfl
theorem elt27 : sliceElt Tryd.prog 27 = some (⟨1, 8, [(.int .i64 0)], 3⟩ : Elt) := by kernel_rfl
theorem appt27_27 : appT Tryd.prog 27 27 = some (⟨1, 8, [(.int .i64 0)], 3⟩ : Elt) := by kernel_rfl
abbrev slices_Clone_post (r : (List Int)) : SV → Mem → Prop := fun s Me => ∃ q1, s = q1 ∧ Has (fun _ => none) Me [.vec 3 1 r.length q1 (r.flatMap enc3)]

def slices_Clone (F : Nat) (a0 : (List Int)) : Option ((List Int)) :=
  bnd (apd 8 ([] : List Int) a0) fun l29 =>
  some l29

theorem slices_Clone_ok (F : Nat) (a0 : (List Int)) (s0 : SV) (r : (List Int)) (M : Mem) (hs0 : Slc (rd M) 1 (FlatR enc3) s0 a0) (h : slices_Clone F a0 = some r) : CallsM Tryd.prog 98 [s0] M (fun s M' => ∃ q1, s = q1 ∧ New M M' [.vec 3 1 r.length q1 (r.flatMap enc3)]) := by
  refine CallsM.fresh (Q := slices_Clone_post r) Tryd.func98 rfl rfl ?_ (by rintro s Me ⟨q1, rfl, hx⟩ ha hw; exact ⟨_, rfl, New.of rfl hx ha hw⟩)
  rw [slices_Clone] at h
  replace hs0 := hs0.mono (rdLe_frozen M) (fun _ _ h => h)
  have hH := Has.nil (frozen M)
  refine Run.seq (Run.region ?_)
  refine Run.opG wantS_none (ex_assign rfl) rfl ?_
  refine Run.opsEnd (Run.seq (Run.seq (Run.region ?_)))
  refine Run.opG wantS_none (ex_move rfl) rfl ?_
  rcases slc_or hs0 with ⟨rfl, rfl⟩ | hn21
  · have h : (
      some ([] : List Int)
      ) = some r := h
    refine Run.opG wantS_none (ex_nilT rfl rfl eqk27) rfl ?_
    refine Run.opsEnd ?_
    refine Run.condT' rfl rfl ?_
    refine Run.seq (Run.region ?_)
    refine Run.opG wantS_none (ex_assign rfl) rfl ?_
    refine Run.opsEnd ?_
    have hH23 : Has (ro (frozen M)) (frozen M) [.vec 3 1 ([] : List Int).length .nils (([] : List Int).flatMap enc3)] := hH.nils 3 1
    cases h
    exact Run.ret Tryd.func98 rfl (res_tmp rfl res_nil) ⟨_, rfl, (hH23.pick [0] rfl rfl).upF (none_le _)⟩
  · refine Run.opG wantS_none (ex_nilF rfl hn21 rfl eqk27) rfl ?_
    refine Run.opsEnd ?_
    refine Run.condF' rfl rfl ?_
    refine Run.skip (Run.seq (Run.region ?_))
    refine Run.opX wantS_none rfl (ExG.built (enc := enc3) (l := ([] : List Int)) (z := 1) rfl elt27 rfl rfl rfl enc3_len hH) ?_
    rintro s25 M26 (hH26 : Has (ro (frozen M)) M26 [.vec 3 1 ([] : List Int).length s25 (([] : List Int).flatMap enc3)])
    refine Run.opG wantS_none (ex_move rfl) rfl ?_
    obtain ⟨l29, hl29, h⟩ := bnd_some h
    refine Run.opX wantS_none rfl (ExG.append rfl rfl hH26 (i := 0) rfl enc3_len rfl enc3_ones appt27_27 rfl (len_slc hs0) (first_slc hs0 (rdLe_roF hH26) enc3_len) hl29) ?_
    rintro s29 M31 (hH31 : Has (ro (frozen M)) M31 [.vec 3 1 l29.length s29 (l29.flatMap enc3)])
    refine Run.opG wantS_none (ex_assign rfl) rfl ?_
    refine Run.opsEnd ?_
    cases h
    exact Run.ret Tryd.func98 rfl (res_tmp rfl res_nil) ⟨_, rfl, (hH31.pick [0] rfl rfl).upF (none_le _)⟩

theorem mkk98 : makeK Tryd.prog 98 = none := by kernel_rfl
theorem cal98 : callable Tryd.prog 98 = true := by kernel_rfl
theorem sz27 : szOf Tryd.prog 27 = some 1 := by kernel_rfl
abbrev alert_copyOfAlert_post (r : S_api_Alert) : SV → Mem → Prop := fun s Me => ∃ q1, s = (.agg [(.str r.Event), (.int .i64 r.Version), (.int .i64 r.Time), (.int .i64 r.Chance.N), (.int .i64 r.Chance.Of), (.int .i64 r.Grid), q1, (.bool r.Withdrawn), (.int .i64 r.Before)]) ∧ Has (fun _ => none) Me [.vec 3 1 r.Cells.length q1 (r.Cells.flatMap enc3)]

def alert_copyOfAlert (F : Nat) (a0 : S_api_Alert) : Option (S_api_Alert) :=
  bnd (slices_Clone F a0.Cells) fun r29 =>
  some (S_api_Alert.mk a0.Event a0.Version a0.Time a0.Chance a0.Grid r29 a0.Withdrawn a0.Before)

theorem alert_copyOfAlert_ok (F : Nat) (a0 : S_api_Alert) (s0 : SV) (r : S_api_Alert) (M : Mem) (hs0 : Slc (rd M) 1 (FlatR enc3) s0 a0.Cells) (h : alert_copyOfAlert F a0 = some r) : CallsM Tryd.prog 81 [(.agg [(.str a0.Event), (.int .i64 a0.Version), (.int .i64 a0.Time), (.int .i64 a0.Chance.N), (.int .i64 a0.Chance.Of), (.int .i64 a0.Grid), s0, (.bool a0.Withdrawn), (.int .i64 a0.Before)])] M (fun s M' => ∃ q1, s = (.agg [(.str r.Event), (.int .i64 r.Version), (.int .i64 r.Time), (.int .i64 r.Chance.N), (.int .i64 r.Chance.Of), (.int .i64 r.Grid), q1, (.bool r.Withdrawn), (.int .i64 r.Before)]) ∧ New M M' [.vec 3 1 r.Cells.length q1 (r.Cells.flatMap enc3)]) := by
  refine CallsM.fresh (Q := alert_copyOfAlert_post r) Tryd.func81 rfl rfl ?_ (by rintro s Me ⟨q1, rfl, hx⟩ ha hw; exact ⟨_, rfl, New.of rfl hx ha hw⟩)
  rw [alert_copyOfAlert] at h
  replace hs0 := hs0.mono (rdLe_frozen M) (fun _ _ h => h)
  have hH := Has.nil (frozen M)
  refine Run.seq (Run.region ?_)
  refine Run.opX wantS_none rfl (ExG.box rfl rfl hH) ?_
  rintro _ M23 ⟨b22, rfl, hH23⟩
  refine Run.opX wantS_none rfl (ExG.new (v := fun b => .ptr b 0) (ex_alloc zer29) hH23) ?_
  rintro _ M26 ⟨b25, rfl, hH26⟩
  refine Run.opsEnd (Run.seq (Run.region ?_))
  refine Run.opG wantS_none (ex_fieldAddr rfl off29_5) rfl ?_
  refine Run.opG wantS_none (ex_load1 rfl (hH26.cells (i := 1) rfl 6 rfl) rdLe_rfl agg27) rfl ?_
  obtain ⟨r29, hr29, h⟩ := bnd_some h
  refine Run.callX wantS_none (ex_call rfl mkk98 cal98) rfl (slices_Clone_ok F a0.Cells s0 _ _ (hH26.slcF hs0) hr29) ?_
  rintro s29_0 M31 ⟨_, rfl, hN29⟩
  have hH31 : Has (ro (frozen M)) M31 [.vec 3 1 r29.length s29_0 (r29.flatMap enc3), .obj b25 (.row 29 .whole [(.str []), (.int .i64 0), (.int .i64 0), (.int .i64 0), (.int .i64 0), (.int .i64 0), .nils, (.bool false), (.int .i64 0)]), .obj b22 (.row 29 .whole [(.str a0.Event), (.int .i64 a0.Version), (.int .i64 a0.Time), (.int .i64 a0.Chance.N), (.int .i64 a0.Chance.Of), (.int .i64 a0.Grid), s0, (.bool a0.Withdrawn), (.int .i64 a0.Before)])] := hN29.1 _ _ hH26
  refine Run.opG wantS_none (ex_fieldAddr rfl off29_5) rfl ?_
  refine Run.opX wantS_none rfl (ExG.storeC (c' := [(.str a0.Event), (.int .i64 a0.Version), (.int .i64 a0.Time), (.int .i64 a0.Chance.N), (.int .i64 a0.Chance.Of), (.int .i64 a0.Grid), s29_0, (.bool a0.Withdrawn), (.int .i64 a0.Before)]) rfl rfl (cells_one (vec_one hH31 (i := 0) rfl)) hH31 (i := 2) rfl sz27 rfl rfl rfl (ones_cons (vec_one hH31 (i := 0) rfl) ones_nil) rfl) ?_
  rintro _ M32 ⟨rfl, (hH32 : Has (ro (frozen M)) M32 [.vec 3 1 r29.length s29_0 (r29.flatMap enc3), .obj b25 (.row 29 .whole [(.str []), (.int .i64 0), (.int .i64 0), (.int .i64 0), (.int .i64 0), (.int .i64 0), .nils, (.bool false), (.int .i64 0)]), .obj b22 (.row 29 .whole [(.str a0.Event), (.int .i64 a0.Version), (.int .i64 a0.Time), (.int .i64 a0.Chance.N), (.int .i64 a0.Chance.Of), (.int .i64 a0.Grid), s29_0, (.bool a0.Withdrawn), (.int .i64 a0.Before)])])⟩
  refine Run.opsEnd (Run.seq (Run.region ?_))
  refine Run.opG wantS_none (ex_loadA rfl (hH32.cells (i := 2) rfl 0 rfl) rdLe_rfl agg29 rfl rfl rfl) rfl ?_
  refine Run.opX wantS_none rfl (ExG.storeC (c' := [(.str a0.Event), (.int .i64 a0.Version), (.int .i64 a0.Time), (.int .i64 a0.Chance.N), (.int .i64 a0.Chance.Of), (.int .i64 a0.Grid), s29_0, (.bool a0.Withdrawn), (.int .i64 a0.Before)]) rfl rfl rfl hH32 (i := 1) rfl sz29 rfl rfl rfl (ones_cons rfl (ones_cons rfl (ones_cons rfl (ones_cons rfl (ones_cons rfl (ones_cons rfl (ones_cons (vec_one hH32 (i := 0) rfl) (ones_cons rfl (ones_cons rfl ones_nil))))))))) rfl) ?_
  rintro _ M33 ⟨rfl, (hH33 : Has (ro (frozen M)) M33 [.vec 3 1 r29.length s29_0 (r29.flatMap enc3), .obj b25 (.row 29 .whole [(.str a0.Event), (.int .i64 a0.Version), (.int .i64 a0.Time), (.int .i64 a0.Chance.N), (.int .i64 a0.Chance.Of), (.int .i64 a0.Grid), s29_0, (.bool a0.Withdrawn), (.int .i64 a0.Before)]), .obj b22 (.row 29 .whole [(.str a0.Event), (.int .i64 a0.Version), (.int .i64 a0.Time), (.int .i64 a0.Chance.N), (.int .i64 a0.Chance.Of), (.int .i64 a0.Grid), s29_0, (.bool a0.Withdrawn), (.int .i64 a0.Before)])])⟩
  refine Run.opsEnd ?_
  cases h
  exact Run.ret Tryd.func81 rfl (res_cell rfl (x_load (ex_loadA rfl (hH33.cells (i := 1) rfl 0 rfl) rdLe_rfl agg29 rfl rfl rfl)) res_nil) ⟨_, rfl, (hH33.pick [0] rfl rfl).upF (none_le _)⟩

theorem mkk81 : makeK Tryd.prog 81 = none := by kernel_rfl
theorem cal81 : callable Tryd.prog 81 = true := by kernel_rfl
abbrev alert_checked_post (r : S_api_Alert × Int) : SV → Mem → Prop := fun s Me => ∃ q1, s = (.tuple [(.agg [(.str r.1.Event), (.int .i64 r.1.Version), (.int .i64 r.1.Time), (.int .i64 r.1.Chance.N), (.int .i64 r.1.Chance.Of), (.int .i64 r.1.Grid), q1, (.bool r.1.Withdrawn), (.int .i64 r.1.Before)]), (.int .i64 r.2)]) ∧ Has (fun _ => none) Me [.vec 3 1 r.1.Cells.length q1 (r.1.Cells.flatMap enc3)]

def alert_checked (F : Nat) (a0 : S_api_Alert) : Option (S_api_Alert × Int) :=
  bnd (alert_CheckAlert F a0) fun r28 =>
  bif (!(r28 == (0 : Int))) then
    some ((S_api_Alert.mk [] 0 0 (S_api_Chance.mk 0 0) 0 ([] : List Int) false 0), r28)
  else
    bnd (alert_copyOfAlert F a0) fun r36 =>
    some (r36, (0 : Int))

theorem alert_checked_ok (F : Nat) (a0 : S_api_Alert) (s0 : SV) (r : S_api_Alert × Int) (M : Mem) (hs0 : Slc (rd M) 1 (FlatR enc3) s0 a0.Cells) (h : alert_checked F a0 = some r) : CallsM Tryd.prog 60 [(.agg [(.str a0.Event), (.int .i64 a0.Version), (.int .i64 a0.Time), (.int .i64 a0.Chance.N), (.int .i64 a0.Chance.Of), (.int .i64 a0.Grid), s0, (.bool a0.Withdrawn), (.int .i64 a0.Before)])] M (fun s M' => ∃ q1, s = (.tuple [(.agg [(.str r.1.Event), (.int .i64 r.1.Version), (.int .i64 r.1.Time), (.int .i64 r.1.Chance.N), (.int .i64 r.1.Chance.Of), (.int .i64 r.1.Grid), q1, (.bool r.1.Withdrawn), (.int .i64 r.1.Before)]), (.int .i64 r.2)]) ∧ New M M' [.vec 3 1 r.1.Cells.length q1 (r.1.Cells.flatMap enc3)]) := by
  refine CallsM.fresh (Q := alert_checked_post r) Tryd.func60 rfl rfl ?_ (by rintro s Me ⟨q1, rfl, hx⟩ ha hw; exact ⟨_, rfl, New.of rfl hx ha hw⟩)
  rw [alert_checked] at h
  replace hs0 := hs0.mono (rdLe_frozen M) (fun _ _ h => h)
  have hH := Has.nil (frozen M)
  refine Run.seq (Run.region ?_)
  refine Run.opX wantS_none rfl (ExG.box rfl rfl hH) ?_
  rintro _ M23 ⟨b22, rfl, hH23⟩
  refine Run.opX wantS_none rfl (ExG.new (v := fun b => .ptr b 0) (ex_alloc zer29) hH23) ?_
  rintro _ M26 ⟨b25, rfl, hH26⟩
  refine Run.opG wantS_none (ex_assign rfl) rfl ?_
  refine Run.opsEnd (Run.seq (Run.seq (Run.region ?_)))
  refine Run.opG wantS_none (ex_loadA rfl (hH26.cells (i := 1) rfl 0 rfl) rdLe_rfl agg29 rfl rfl rfl) rfl ?_
  obtain ⟨r28, hr28, h⟩ := bnd_some h
  refine Run.callP wantS_none (ex_call rfl mkk69 cal69) rfl (alert_CheckAlert_ok F a0 s0 _ _ (hH26.slcF hs0) hr28) ?_
  refine Run.opG wantS_none (ex_assign rfl) rfl ?_
  refine Run.opsEnd (Run.seq (Run.region ?_))
  refine Run.opG wantS_none (ex_move rfl) rfl ?_
  refine Run.opG wantS_none (ex_neq rfl rfl) rfl ?_
  refine Run.opsEnd ?_
  rcases btf ((!(r28 == (0 : Int)))) with hc30 | hc30
  · have h := bif_t hc30 h
    refine Run.condT' rfl hc30 ?_
    refine Run.seq (Run.region ?_)
    refine Run.opG wantS_none (ex_build (r := [(.str []), (.int .i64 0), (.int .i64 0), (.int .i64 0), (.int .i64 0), (.int .i64 0), .nils, (.bool false), (.int .i64 0)]) rfl zer29 pls29 rfl) rfl ?_
    refine Run.opG wantS_none (ex_move rfl) rfl ?_
    refine Run.opX wantS_none rfl (ExG.storeC (c' := [(.str []), (.int .i64 0), (.int .i64 0), (.int .i64 0), (.int .i64 0), (.int .i64 0), .nils, (.bool false), (.int .i64 0)]) rfl rfl rfl hH26 (i := 0) rfl sz29 rfl rfl rfl rfl rfl) ?_
    rintro _ M31 ⟨rfl, (hH31 : Has (ro (frozen M)) M31 [.obj b25 (.row 29 .whole [(.str []), (.int .i64 0), (.int .i64 0), (.int .i64 0), (.int .i64 0), (.int .i64 0), .nils, (.bool false), (.int .i64 0)]), .obj b22 (.row 29 .whole [(.str a0.Event), (.int .i64 a0.Version), (.int .i64 a0.Time), (.int .i64 a0.Chance.N), (.int .i64 a0.Chance.Of), (.int .i64 a0.Grid), s0, (.bool a0.Withdrawn), (.int .i64 a0.Before)])])⟩
    refine Run.opG wantS_none (ex_assign rfl) rfl ?_
    refine Run.opsEnd ?_
    have hH33 : Has (ro (frozen M)) M31 [.vec 3 1 ([] : List Int).length .nils (([] : List Int).flatMap enc3), .obj b25 (.row 29 .whole [(.str []), (.int .i64 0), (.int .i64 0), (.int .i64 0), (.int .i64 0), (.int .i64 0), .nils, (.bool false), (.int .i64 0)]), .obj b22 (.row 29 .whole [(.str a0.Event), (.int .i64 a0.Version), (.int .i64 a0.Time), (.int .i64 a0.Chance.N), (.int .i64 a0.Chance.Of), (.int .i64 a0.Grid), s0, (.bool a0.Withdrawn), (.int .i64 a0.Before)])] := hH31.nils 3 1
    cases h
    exact Run.ret Tryd.func60 rfl (res_cell rfl (x_load (ex_loadA rfl (hH31.cells (i := 0) rfl 0 rfl) rdLe_rfl agg29 rfl rfl rfl)) (res_tmp rfl res_nil)) ⟨_, rfl, (hH33.pick [0] rfl rfl).upF (none_le _)⟩
  · have h := bif_f hc30 h
    refine Run.condF' rfl hc30 ?_
    refine Run.skip (Run.seq (Run.region ?_))
    refine Run.opG wantS_none (ex_loadA rfl (hH26.cells (i := 1) rfl 0 rfl) rdLe_rfl agg29 rfl rfl rfl) rfl ?_
    obtain ⟨r36, hr36, h⟩ := bnd_some h
    refine Run.callX wantS_none (ex_call rfl mkk81 cal81) rfl (alert_copyOfAlert_ok F a0 s0 _ _ (hH26.slcF hs0) hr36) ?_
    rintro _ M38 ⟨s36_0, rfl, hN36⟩
    have hH38 : Has (ro (frozen M)) M38 [.vec 3 1 r36.Cells.length s36_0 (r36.Cells.flatMap enc3), .obj b25 (.row 29 .whole [(.str []), (.int .i64 0), (.int .i64 0), (.int .i64 0), (.int .i64 0), (.int .i64 0), .nils, (.bool false), (.int .i64 0)]), .obj b22 (.row 29 .whole [(.str a0.Event), (.int .i64 a0.Version), (.int .i64 a0.Time), (.int .i64 a0.Chance.N), (.int .i64 a0.Chance.Of), (.int .i64 a0.Grid), s0, (.bool a0.Withdrawn), (.int .i64 a0.Before)])] := hN36.1 _ _ hH26
    refine Run.opX wantS_none rfl (ExG.storeC (c' := [(.str r36.Event), (.int .i64 r36.Version), (.int .i64 r36.Time), (.int .i64 r36.Chance.N), (.int .i64 r36.Chance.Of), (.int .i64 r36.Grid), s36_0, (.bool r36.Withdrawn), (.int .i64 r36.Before)]) rfl rfl rfl hH38 (i := 1) rfl sz29 rfl rfl rfl (ones_cons rfl (ones_cons rfl (ones_cons rfl (ones_cons rfl (ones_cons rfl (ones_cons rfl (ones_cons (vec_one hH38 (i := 0) rfl) (ones_cons rfl (ones_cons rfl ones_nil))))))))) rfl) ?_
    rintro _ M39 ⟨rfl, (hH39 : Has (ro (frozen M)) M39 [.vec 3 1 r36.Cells.length s36_0 (r36.Cells.flatMap enc3), .obj b25 (.row 29 .whole [(.str r36.Event), (.int .i64 r36.Version), (.int .i64 r36.Time), (.int .i64 r36.Chance.N), (.int .i64 r36.Chance.Of), (.int .i64 r36.Grid), s36_0, (.bool r36.Withdrawn), (.int .i64 r36.Before)]), .obj b22 (.row 29 .whole [(.str a0.Event), (.int .i64 a0.Version), (.int .i64 a0.Time), (.int .i64 a0.Chance.N), (.int .i64 a0.Chance.Of), (.int .i64 a0.Grid), s0, (.bool a0.Withdrawn), (.int .i64 a0.Before)])])⟩
    refine Run.opG wantS_none (ex_assign rfl) rfl ?_
    refine Run.opsEnd ?_
    cases h
    exact Run.ret Tryd.func60 rfl (res_cell rfl (x_load (ex_loadA rfl (hH39.cells (i := 1) rfl 0 rfl) rdLe_rfl agg29 rfl rfl rfl)) (res_tmp rfl res_nil)) ⟨_, rfl, (hH39.pick [0] rfl rfl).upF (none_le _)⟩

theorem mkk60 : makeK Tryd.prog 60 = none := by kernel_rfl
theorem cal60 : callable Tryd.prog 60 = true := by kernel_rfl
abbrev alert_Draft_post (r : S_api_Alert × Int) : SV → Mem → Prop := fun s Me => ∃ q1, s = (.tuple [(.agg [(.str r.1.Event), (.int .i64 r.1.Version), (.int .i64 r.1.Time), (.int .i64 r.1.Chance.N), (.int .i64 r.1.Chance.Of), (.int .i64 r.1.Grid), q1, (.bool r.1.Withdrawn), (.int .i64 r.1.Before)]), (.int .i64 r.2)]) ∧ Has (fun _ => none) Me [.vec 3 1 r.1.Cells.length q1 (r.1.Cells.flatMap enc3)]

def alert_Draft (F : Nat) (a0 : (List UInt8)) (a1 : Int) (a2 : S_api_Candidate) (a3 a4 : Int) (a5 : (List Int)) : Option (S_api_Alert × Int) :=
  bif (decide (a3 < a2.Chance.N)) then
    some ((S_api_Alert.mk [] 0 0 (S_api_Chance.mk 0 0) 0 ([] : List Int) false 0), (4 : Int))
  else
    bnd (alert_checked F (S_api_Alert.mk a0 1 a1 a2.Chance a4 a5 false 0)) fun r33 =>
    some (r33.1, r33.2)

theorem alert_Draft_ok (F : Nat) (a0 : (List UInt8)) (a1 : Int) (a2 : S_api_Candidate) (a3 a4 : Int) (a5 : (List Int)) (s0 : SV) (r : S_api_Alert × Int) (M : Mem) (hs0 : Slc (rd M) 1 (FlatR enc3) s0 a5) (h : alert_Draft F a0 a1 a2 a3 a4 a5 = some r) : CallsM Tryd.prog 19 [(.str a0), (.int .i64 a1), (.agg [(.int .i64 a2.Pair.A), (.int .i64 a2.Pair.B), (.int .i64 a2.Pair.Loud), (.int .i64 a2.Chance.N), (.int .i64 a2.Chance.Of)]), (.int .i64 a3), (.int .i64 a4), s0] M (fun s M' => ∃ q1, s = (.tuple [(.agg [(.str r.1.Event), (.int .i64 r.1.Version), (.int .i64 r.1.Time), (.int .i64 r.1.Chance.N), (.int .i64 r.1.Chance.Of), (.int .i64 r.1.Grid), q1, (.bool r.1.Withdrawn), (.int .i64 r.1.Before)]), (.int .i64 r.2)]) ∧ New M M' [.vec 3 1 r.1.Cells.length q1 (r.1.Cells.flatMap enc3)]) := by
  refine CallsM.fresh (Q := alert_Draft_post r) Tryd.func19 rfl rfl ?_ (by rintro s Me ⟨q1, rfl, hx⟩ ha hw; exact ⟨_, rfl, New.of rfl hx ha hw⟩)
  rw [alert_Draft] at h
  replace hs0 := hs0.mono (rdLe_frozen M) (fun _ _ h => h)
  have hH := Has.nil (frozen M)
  refine Run.seq (Run.region ?_)
  refine Run.opX wantS_none rfl (ExG.box rfl rfl hH) ?_
  rintro _ M23 ⟨b22, rfl, hH23⟩
  refine Run.opX wantS_none rfl (ExG.new (v := fun b => .ptr b 0) (ex_alloc zer29) hH23) ?_
  rintro _ M26 ⟨b25, rfl, hH26⟩
  refine Run.opG wantS_none (ex_assign rfl) rfl ?_
  refine Run.opsEnd (Run.seq (Run.seq (Run.region ?_)))
  refine Run.opG wantS_none (ex_fieldAddr rfl off53_1) rfl ?_
  refine Run.opG wantS_none (ex_fieldAddr rfl off26_0) rfl ?_
  refine Run.opG wantS_none (ex_load1 rfl (hH26.cells (i := 1) rfl 3 rfl) rdLe_rfl agg3) rfl ?_
  refine Run.opG wantS_none (ex_move rfl) rfl ?_
  refine Run.opG wantS_none (ex_gtr rfl rfl) rfl ?_
  refine Run.opsEnd ?_
  rcases btf ((decide (a3 < a2.Chance.N))) with hc27 | hc27
  · have h := bif_t hc27 h
    refine Run.condT' rfl hc27 ?_
    refine Run.seq (Run.region ?_)
    refine Run.opG wantS_none (ex_build (r := [(.str []), (.int .i64 0), (.int .i64 0), (.int .i64 0), (.int .i64 0), (.int .i64 0), .nils, (.bool false), (.int .i64 0)]) rfl zer29 pls29 rfl) rfl ?_
    refine Run.opX wantS_none rfl (ExG.storeC (c' := [(.str []), (.int .i64 0), (.int .i64 0), (.int .i64 0), (.int .i64 0), (.int .i64 0), .nils, (.bool false), (.int .i64 0)]) rfl rfl rfl hH26 (i := 0) rfl sz29 rfl rfl rfl rfl rfl) ?_
    rintro _ M28 ⟨rfl, (hH28 : Has (ro (frozen M)) M28 [.obj b25 (.row 29 .whole [(.str []), (.int .i64 0), (.int .i64 0), (.int .i64 0), (.int .i64 0), (.int .i64 0), .nils, (.bool false), (.int .i64 0)]), .obj b22 (.row 53 .whole [(.int .i64 a2.Pair.A), (.int .i64 a2.Pair.B), (.int .i64 a2.Pair.Loud), (.int .i64 a2.Chance.N), (.int .i64 a2.Chance.Of)])])⟩
    refine Run.opG wantS_none (ex_assign rfl) rfl ?_
    refine Run.opsEnd ?_
    have hH30 : Has (ro (frozen M)) M28 [.vec 3 1 ([] : List Int).length .nils (([] : List Int).flatMap enc3), .obj b25 (.row 29 .whole [(.str []), (.int .i64 0), (.int .i64 0), (.int .i64 0), (.int .i64 0), (.int .i64 0), .nils, (.bool false), (.int .i64 0)]), .obj b22 (.row 53 .whole [(.int .i64 a2.Pair.A), (.int .i64 a2.Pair.B), (.int .i64 a2.Pair.Loud), (.int .i64 a2.Chance.N), (.int .i64 a2.Chance.Of)])] := hH28.nils 3 1
    cases h
    exact Run.ret Tryd.func19 rfl (res_cell rfl (x_load (ex_loadA rfl (hH28.cells (i := 0) rfl 0 rfl) rdLe_rfl agg29 rfl rfl rfl)) (res_tmp rfl res_nil)) ⟨_, rfl, (hH30.pick [0] rfl rfl).upF (none_le _)⟩
  · have h := bif_f hc27 h
    refine Run.condF' rfl hc27 ?_
    refine Run.skip (Run.seq (Run.region ?_))
    refine Run.opG wantS_none (ex_move rfl) rfl ?_
    refine Run.opG wantS_none (ex_move rfl) rfl ?_
    refine Run.opG wantS_none (ex_fieldAddr rfl off53_1) rfl ?_
    refine Run.opG wantS_none (ex_loadA rfl (hH26.cells (i := 1) rfl 3 rfl) rdLe_rfl agg26 rfl rfl rfl) rfl ?_
    refine Run.opG wantS_none (ex_move rfl) rfl ?_
    refine Run.opG wantS_none (ex_move rfl) rfl ?_
    refine Run.opG wantS_none (ex_build (r := [(.str a0), (.int .i64 1), (.int .i64 a1), (.int .i64 a2.Chance.N), (.int .i64 a2.Chance.Of), (.int .i64 a4), s0, (.bool false), (.int .i64 0)]) rfl zer29 pls29 (by simp only [fillS, cells_one (slc_one hs0)]; rfl)) rfl ?_
    obtain ⟨r33, hr33, h⟩ := bnd_some h
    refine Run.callX wantS_none (ex_call rfl mkk60 cal60) rfl (alert_checked_ok F (S_api_Alert.mk a0 1 a1 a2.Chance a4 a5 false 0) s0 _ _ (hH26.slcF hs0) hr33) ?_
    rintro _ M35 ⟨s33_0, rfl, hN33⟩
    have hH35 : Has (ro (frozen M)) M35 [.vec 3 1 r33.1.Cells.length s33_0 (r33.1.Cells.flatMap enc3), .obj b25 (.row 29 .whole [(.str []), (.int .i64 0), (.int .i64 0), (.int .i64 0), (.int .i64 0), (.int .i64 0), .nils, (.bool false), (.int .i64 0)]), .obj b22 (.row 53 .whole [(.int .i64 a2.Pair.A), (.int .i64 a2.Pair.B), (.int .i64 a2.Pair.Loud), (.int .i64 a2.Chance.N), (.int .i64 a2.Chance.Of)])] := hN33.1 _ _ hH26
    refine Run.opG wantS_none (ex_extract rfl rfl) rfl ?_
    refine Run.opG wantS_none (ex_extract rfl rfl) rfl ?_
    refine Run.opX wantS_none rfl (ExG.storeC (c' := [(.str r33.1.Event), (.int .i64 r33.1.Version), (.int .i64 r33.1.Time), (.int .i64 r33.1.Chance.N), (.int .i64 r33.1.Chance.Of), (.int .i64 r33.1.Grid), s33_0, (.bool r33.1.Withdrawn), (.int .i64 r33.1.Before)]) rfl rfl rfl hH35 (i := 1) rfl sz29 rfl rfl rfl (ones_cons rfl (ones_cons rfl (ones_cons rfl (ones_cons rfl (ones_cons rfl (ones_cons rfl (ones_cons (vec_one hH35 (i := 0) rfl) (ones_cons rfl (ones_cons rfl ones_nil))))))))) rfl) ?_
    rintro _ M36 ⟨rfl, (hH36 : Has (ro (frozen M)) M36 [.vec 3 1 r33.1.Cells.length s33_0 (r33.1.Cells.flatMap enc3), .obj b25 (.row 29 .whole [(.str r33.1.Event), (.int .i64 r33.1.Version), (.int .i64 r33.1.Time), (.int .i64 r33.1.Chance.N), (.int .i64 r33.1.Chance.Of), (.int .i64 r33.1.Grid), s33_0, (.bool r33.1.Withdrawn), (.int .i64 r33.1.Before)]), .obj b22 (.row 53 .whole [(.int .i64 a2.Pair.A), (.int .i64 a2.Pair.B), (.int .i64 a2.Pair.Loud), (.int .i64 a2.Chance.N), (.int .i64 a2.Chance.Of)])])⟩
    refine Run.opG wantS_none (ex_assign rfl) rfl ?_
    refine Run.opsEnd ?_
    cases h
    exact Run.ret Tryd.func19 rfl (res_cell rfl (x_load (ex_loadA rfl (hH36.cells (i := 1) rfl 0 rfl) rdLe_rfl agg29 rfl rfl rfl)) (res_tmp rfl res_nil)) ⟨_, rfl, (hH36.pick [0] rfl rfl).upF (none_le _)⟩

theorem mkk19 : makeK Tryd.prog 19 = none := by kernel_rfl
theorem cal19 : callable Tryd.prog 19 = true := by kernel_rfl
theorem whs9 : whole Tryd.prog 9 = some .str := by kernel_rfl
abbrev ref01_IsName_post (r : Bool) : SV → Mem → Prop := fun s _ => s = (.bool r)

def ref01_IsName_8 (F : Nat) (hd4 : (List UInt8) → Int → Option (Bool)) (v0 : (List UInt8)) (v3 : Int) (v49 : Bool) : Option (Bool) :=
  bif v49 then
    some false
  else
    hd4 v0 (w64 (v3 + (1 : Int)))

theorem ref01_IsName_8_ok (F : Nat) (hd4 : (List UInt8) → Int → Option (Bool)) (hhd4 : ∀ (v0 : (List UInt8)) (v3 : Int) (Fr : Rd) (M : Mem) (r : Bool) (hH : Has Fr M []), hd4 v0 v3 = some r → Run Tryd.prog ⟨⟨76, [], none⟩, []⟩ 50 (ref01_IsName_post r) [(0, (.str v0)), (3, (.int .i64 v3))] [codeC Tryd.prog 76 [1, 1, 0, 1, 0, 0], loopC Tryd.prog 76 [1, 1, 0, 1, 0, 0], .inBlock 0, codeC Tryd.prog 76 [1, 1, 1]] M) : ∀ (v0 : (List UInt8)) (v3 : Int) (v49 : Bool) (Fr : Rd) (M : Mem) (r : Bool) (hH : Has Fr M []), ref01_IsName_8 F hd4 v0 v3 v49 = some r → Run Tryd.prog ⟨⟨76, [], none⟩, []⟩ 50 (ref01_IsName_post r) [(0, (.str v0)), (3, (.int .i64 v3)), (49, (.bool v49))] [codeC Tryd.prog 76 [1, 1, 0, 1, 0, 0, 1, 0, 0, 1, 1], .inBlock 1, codeC Tryd.prog 76 [1, 1, 0, 1, 0, 0, 1, 1], loopC Tryd.prog 76 [1, 1, 0, 1, 0, 0], .inBlock 0, codeC Tryd.prog 76 [1, 1, 1]] M := by
  intro v0 v3 v49 Fr M r hH h
  rw [ref01_IsName_8] at h
  rcases btf (v49) with hc32 | hc32
  · have h := bif_t hc32 h
    refine Run.condT' rfl hc32 ?_
    refine Run.seq (Run.region ?_)
    refine Run.opG wantS_none (ex_assign rfl) rfl ?_
    refine Run.opsEnd ?_
    cases h
    exact Run.ret Tryd.func76 rfl (res_tmp rfl res_nil) rfl
  · have h := bif_f hc32 h
    refine Run.condF' rfl hc32 ?_
    refine Run.skip (Run.inBlock (Run.region ?_))
    refine Run.opG wantS_none (ex_move rfl) rfl ?_
    refine Run.opG wantS_none (ex_add rfl rfl) rfl ?_
    refine Run.opG wantS_none (ex_assign rfl) rfl ?_
    refine Run.opsEnd (Run.inLoop ?_)
    exact Run.pick [0, 3] (hhd4 v0 (w64 (v3 + (1 : Int))) _ _ _ hH h)

def ref01_IsName_7 (F : Nat) (hd4 : (List UInt8) → Int → Option (Bool)) (v0 : (List UInt8)) (v3 v4 : Int) (v45 : Bool) : Option (Bool) :=
  bif v45 then
    ref01_IsName_8 F hd4 v0 v3 (!(v4 == (95 : Int)))
  else
    ref01_IsName_8 F hd4 v0 v3 false

theorem ref01_IsName_7_ok (F : Nat) (hd4 : (List UInt8) → Int → Option (Bool)) (hhd4 : ∀ (v0 : (List UInt8)) (v3 : Int) (Fr : Rd) (M : Mem) (r : Bool) (hH : Has Fr M []), hd4 v0 v3 = some r → Run Tryd.prog ⟨⟨76, [], none⟩, []⟩ 50 (ref01_IsName_post r) [(0, (.str v0)), (3, (.int .i64 v3))] [codeC Tryd.prog 76 [1, 1, 0, 1, 0, 0], loopC Tryd.prog 76 [1, 1, 0, 1, 0, 0], .inBlock 0, codeC Tryd.prog 76 [1, 1, 1]] M) : ∀ (v0 : (List UInt8)) (v3 v4 : Int) (v45 : Bool) (Fr : Rd) (M : Mem) (r : Bool) (hH : Has Fr M []), ref01_IsName_7 F hd4 v0 v3 v4 v45 = some r → Run Tryd.prog ⟨⟨76, [], none⟩, []⟩ 50 (ref01_IsName_post r) [(0, (.str v0)), (3, (.int .i64 v3)), (4, (.int .u8 v4)), (45, (.bool v45))] [itemC Tryd.prog 76 [1, 1, 0, 1, 0, 0, 1, 0, 0, 1, 0] 14, codeC Tryd.prog 76 [1, 1, 0, 1, 0, 0, 1, 0, 0, 1, 1], .inBlock 1, codeC Tryd.prog 76 [1, 1, 0, 1, 0, 0, 1, 1], loopC Tryd.prog 76 [1, 1, 0, 1, 0, 0], .inBlock 0, codeC Tryd.prog 76 [1, 1, 1]] M := by
  intro v0 v3 v4 v45 Fr M r hH h
  rw [ref01_IsName_7] at h
  refine Run.opG wantS_none (ex_move rfl) rfl ?_
  rcases btf (v45) with hc31 | hc31
  · have h := bif_t hc31 h
    refine Run.opG (wantS_yes' rfl rfl hc31) (ex_move rfl) rfl ?_
    refine Run.opG (wantS_yes' rfl rfl hc31) (ex_neq rfl rfl) rfl ?_
    refine Run.opG wantS_none (ex_pickT' rfl hc31 rfl rfl) rfl ?_
    refine Run.opsEnd ?_
    exact Run.pick [0, 3, 49] (ref01_IsName_8_ok F hd4 hhd4 v0 v3 (!(v4 == (95 : Int))) _ _ _ hH h)
  · have h := bif_f hc31 h
    refine Run.no (wantS_not' rfl rfl hc31) rfl ?_
    refine Run.no (wantS_not' rfl rfl hc31) rfl ?_
    refine Run.opG wantS_none (ex_pickF' rfl hc31 rfl rfl) rfl ?_
    refine Run.opsEnd ?_
    exact Run.pick [0, 3, 49] (ref01_IsName_8_ok F hd4 hhd4 v0 v3 false _ _ _ hH h)

def ref01_IsName_6 (F : Nat) (hd4 : (List UInt8) → Int → Option (Bool)) (v0 : (List UInt8)) (v3 v4 : Int) (v38 v44 : Bool) : Option (Bool) :=
  ref01_IsName_7 F hd4 v0 v3 v4 (bif v38 then v44 else false)

theorem ref01_IsName_6_ok (F : Nat) (hd4 : (List UInt8) → Int → Option (Bool)) (hhd4 : ∀ (v0 : (List UInt8)) (v3 : Int) (Fr : Rd) (M : Mem) (r : Bool) (hH : Has Fr M []), hd4 v0 v3 = some r → Run Tryd.prog ⟨⟨76, [], none⟩, []⟩ 50 (ref01_IsName_post r) [(0, (.str v0)), (3, (.int .i64 v3))] [codeC Tryd.prog 76 [1, 1, 0, 1, 0, 0], loopC Tryd.prog 76 [1, 1, 0, 1, 0, 0], .inBlock 0, codeC Tryd.prog 76 [1, 1, 1]] M) : ∀ (v0 : (List UInt8)) (v3 v4 : Int) (v38 v44 : Bool) (Fr : Rd) (M : Mem) (r : Bool) (hH : Has Fr M []), ref01_IsName_6 F hd4 v0 v3 v4 v38 v44 = some r → Run Tryd.prog ⟨⟨76, [], none⟩, []⟩ 50 (ref01_IsName_post r) [(0, (.str v0)), (3, (.int .i64 v3)), (4, (.int .u8 v4)), (38, (.bool v38)), (44, (.bool v44))] [itemC Tryd.prog 76 [1, 1, 0, 1, 0, 0, 1, 0, 0, 1, 0] 13, codeC Tryd.prog 76 [1, 1, 0, 1, 0, 0, 1, 0, 0, 1, 1], .inBlock 1, codeC Tryd.prog 76 [1, 1, 0, 1, 0, 0, 1, 1], loopC Tryd.prog 76 [1, 1, 0, 1, 0, 0], .inBlock 0, codeC Tryd.prog 76 [1, 1, 1]] M := by
  intro v0 v3 v4 v38 v44 Fr M r hH h
  rw [ref01_IsName_6] at h
  refine Run.opG wantS_none (ex_pickB rfl rfl rfl) rfl ?_
  exact Run.pick [0, 3, 4, 45] (ref01_IsName_7_ok F hd4 hhd4 v0 v3 v4 (bif v38 then v44 else false) _ _ _ hH h)

def ref01_IsName_9 (F : Nat) (hd4 : (List UInt8) → Int → Option (Bool)) (v0 : (List UInt8)) (v3 v4 : Int) (v38 : Bool) : Option (Bool) :=
  bif v38 then
    none
  else
    ref01_IsName_7 F hd4 v0 v3 v4 false

theorem ref01_IsName_9_ok (F : Nat) (hd4 : (List UInt8) → Int → Option (Bool)) (hhd4 : ∀ (v0 : (List UInt8)) (v3 : Int) (Fr : Rd) (M : Mem) (r : Bool) (hH : Has Fr M []), hd4 v0 v3 = some r → Run Tryd.prog ⟨⟨76, [], none⟩, []⟩ 50 (ref01_IsName_post r) [(0, (.str v0)), (3, (.int .i64 v3))] [codeC Tryd.prog 76 [1, 1, 0, 1, 0, 0], loopC Tryd.prog 76 [1, 1, 0, 1, 0, 0], .inBlock 0, codeC Tryd.prog 76 [1, 1, 1]] M) : ∀ (v0 : (List UInt8)) (v3 v4 : Int) (v38 : Bool) (Fr : Rd) (M : Mem) (r : Bool) (hH : Has Fr M []), ref01_IsName_9 F hd4 v0 v3 v4 v38 = some r → Run Tryd.prog ⟨⟨76, [], none⟩, []⟩ 50 (ref01_IsName_post r) [(0, (.str v0)), (3, (.int .i64 v3)), (4, (.int .u8 v4)), (38, (.bool v38)), (44, (.tuple []))] [itemC Tryd.prog 76 [1, 1, 0, 1, 0, 0, 1, 0, 0, 1, 0] 13, codeC Tryd.prog 76 [1, 1, 0, 1, 0, 0, 1, 0, 0, 1, 1], .inBlock 1, codeC Tryd.prog 76 [1, 1, 0, 1, 0, 0, 1, 1], loopC Tryd.prog 76 [1, 1, 0, 1, 0, 0], .inBlock 0, codeC Tryd.prog 76 [1, 1, 1]] M := by
  intro v0 v3 v4 v38 Fr M r hH h
  rw [ref01_IsName_9] at h
  rcases btf (v38) with hc33 | hc33
  · have h := bif_t hc33 h
    cases h
  · have h := bif_f hc33 h
    refine Run.opG wantS_none (ex_pickF' rfl hc33 rfl rfl) rfl ?_
    exact Run.pick [0, 3, 4, 45] (ref01_IsName_7_ok F hd4 hhd4 v0 v3 v4 false _ _ _ hH h)

def ref01_IsName_5 (F : Nat) (hd4 : (List UInt8) → Int → Option (Bool)) (v0 : (List UInt8)) (v3 v4 : Int) (v37 : Bool) : Option (Bool) :=
  bif v37 then
    bif (decide (v4 < (48 : Int))) then
      ref01_IsName_6 F hd4 v0 v3 v4 v37 true
    else
      ref01_IsName_6 F hd4 v0 v3 v4 v37 (decide ((57 : Int) < v4))
  else
    ref01_IsName_9 F hd4 v0 v3 v4 v37

theorem ref01_IsName_5_ok (F : Nat) (hd4 : (List UInt8) → Int → Option (Bool)) (hhd4 : ∀ (v0 : (List UInt8)) (v3 : Int) (Fr : Rd) (M : Mem) (r : Bool) (hH : Has Fr M []), hd4 v0 v3 = some r → Run Tryd.prog ⟨⟨76, [], none⟩, []⟩ 50 (ref01_IsName_post r) [(0, (.str v0)), (3, (.int .i64 v3))] [codeC Tryd.prog 76 [1, 1, 0, 1, 0, 0], loopC Tryd.prog 76 [1, 1, 0, 1, 0, 0], .inBlock 0, codeC Tryd.prog 76 [1, 1, 1]] M) : ∀ (v0 : (List UInt8)) (v3 v4 : Int) (v37 : Bool) (Fr : Rd) (M : Mem) (r : Bool) (hH : Has Fr M []), ref01_IsName_5 F hd4 v0 v3 v4 v37 = some r → Run Tryd.prog ⟨⟨76, [], none⟩, []⟩ 50 (ref01_IsName_post r) [(0, (.str v0)), (3, (.int .i64 v3)), (4, (.int .u8 v4)), (37, (.bool v37))] [itemC Tryd.prog 76 [1, 1, 0, 1, 0, 0, 1, 0, 0, 1, 0] 6, codeC Tryd.prog 76 [1, 1, 0, 1, 0, 0, 1, 0, 0, 1, 1], .inBlock 1, codeC Tryd.prog 76 [1, 1, 0, 1, 0, 0, 1, 1], loopC Tryd.prog 76 [1, 1, 0, 1, 0, 0], .inBlock 0, codeC Tryd.prog 76 [1, 1, 1]] M := by
  intro v0 v3 v4 v37 Fr M r hH h
  rw [ref01_IsName_5] at h
  refine Run.opG wantS_none (ex_move rfl) rfl ?_
  rcases btf (v37) with hc29 | hc29
  · have h := bif_t hc29 h
    refine Run.opG (wantS_yes' rfl rfl hc29) (ex_move rfl) rfl ?_
    refine Run.opG (wantS_yes' rfl rfl hc29) (ex_lss rfl rfl) rfl ?_
    refine Run.opG (wantS_yes' rfl rfl hc29) (ex_move rfl) rfl ?_
    rcases btf ((decide (v4 < (48 : Int)))) with hc30 | hc30
    · have h := bif_t hc30 h
      refine Run.no (wantS_not' rfl rfl hc30) rfl ?_
      refine Run.no (wantS_not' rfl rfl hc30) rfl ?_
      refine Run.opG (wantS_yes' rfl rfl hc29) (ex_pickT' rfl hc30 rfl rfl) rfl ?_
      exact Run.pick [0, 3, 4, 38, 44] (ref01_IsName_6_ok F hd4 hhd4 v0 v3 v4 v37 true _ _ _ hH h)
    · have h := bif_f hc30 h
      refine Run.opG (wantS_yes' rfl rfl hc30) (ex_move rfl) rfl ?_
      refine Run.opG (wantS_yes' rfl rfl hc30) (ex_gtr rfl rfl) rfl ?_
      refine Run.opG (wantS_yes' rfl rfl hc29) (ex_pickF' rfl hc30 rfl rfl) rfl ?_
      exact Run.pick [0, 3, 4, 38, 44] (ref01_IsName_6_ok F hd4 hhd4 v0 v3 v4 v37 (decide ((57 : Int) < v4)) _ _ _ hH h)
  · have h := bif_f hc29 h
    refine Run.no (wantS_not' rfl rfl hc29) rfl ?_
    refine Run.no (wantS_not' rfl rfl hc29) rfl ?_
    refine Run.no (wantS_not' rfl rfl hc29) rfl ?_
    refine Run.no (wantS_skip rfl rfl) rfl ?_
    refine Run.no (wantS_skip rfl rfl) rfl ?_
    refine Run.no (wantS_not' rfl rfl hc29) rfl ?_
    exact Run.pick [0, 3, 4, 38, 44] (ref01_IsName_9_ok F hd4 hhd4 v0 v3 v4 v37 _ _ _ hH h)

def ref01_IsName_4 (F : Nat) : Nat → (List UInt8) → Int → Option (Bool)
  | 0, _, _ => none
  | N + 1, v0, v3 =>
    bif (decide (v3 < (v0.length : Int))) then
      bnd (sAt v0 v3) fun z27 =>
      bif (decide (z27 < (97 : Int))) then
        ref01_IsName_5 F (ref01_IsName_4 F N) v0 v3 z27 true
      else
        ref01_IsName_5 F (ref01_IsName_4 F N) v0 v3 z27 (decide ((122 : Int) < z27))
    else
      some true

theorem ref01_IsName_4_ok (F : Nat) : ∀ (N : Nat), ∀ (v0 : (List UInt8)) (v3 : Int) (Fr : Rd) (M : Mem) (r : Bool) (hH : Has Fr M []), ref01_IsName_4 F N v0 v3 = some r → Run Tryd.prog ⟨⟨76, [], none⟩, []⟩ 50 (ref01_IsName_post r) [(0, (.str v0)), (3, (.int .i64 v3))] [codeC Tryd.prog 76 [1, 1, 0, 1, 0, 0], loopC Tryd.prog 76 [1, 1, 0, 1, 0, 0], .inBlock 0, codeC Tryd.prog 76 [1, 1, 1]] M := by
  intro N
  induction N with
  | zero =>
    intro v0 v3 Fr M r hH h
    simp [ref01_IsName_4] at h
  | succ N ih =>
    intro v0 v3 Fr M r hH h
    rw [ref01_IsName_4] at h
    refine Run.seq (Run.seq (Run.region ?_))
    refine Run.opG wantS_none (ex_move rfl) rfl ?_
    refine Run.opG wantS_none (ex_move rfl) rfl ?_
    refine Run.opG wantS_none (ex_lenS rfl lenk9) rfl ?_
    refine Run.opG wantS_none (ex_lss rfl rfl) rfl ?_
    refine Run.opsEnd ?_
    rcases btf ((decide (v3 < (v0.length : Int)))) with hc25 | hc25
    · have h := bif_t hc25 h
      refine Run.condT' rfl hc25 ?_
      refine Run.skip (Run.seq (Run.block (Run.seq (Run.region ?_))))
      refine Run.opG wantS_none (ex_move rfl) rfl ?_
      refine Run.opG wantS_none (ex_move rfl) rfl ?_
      obtain ⟨z27, hz27, h⟩ := bnd_some h
      refine Run.opG wantS_none (ex_sAt rfl rfl whs9 hz27) rfl ?_
      refine Run.opG wantS_none (ex_assign rfl) rfl ?_
      refine Run.opsEnd (Run.seq (Run.region ?_))
      refine Run.opG wantS_none (ex_move rfl) rfl ?_
      refine Run.opG wantS_none (ex_lss rfl rfl) rfl ?_
      refine Run.opG wantS_none (ex_move rfl) rfl ?_
      rcases btf ((decide (z27 < (97 : Int)))) with hc28 | hc28
      · have h := bif_t hc28 h
        refine Run.no (wantS_not' rfl rfl hc28) rfl ?_
        refine Run.no (wantS_not' rfl rfl hc28) rfl ?_
        refine Run.opG wantS_none (ex_pickT' rfl hc28 rfl rfl) rfl ?_
        exact Run.pick [0, 3, 4, 37] (ref01_IsName_5_ok F (ref01_IsName_4 F N) ih v0 v3 z27 true _ _ _ hH h)
      · have h := bif_f hc28 h
        refine Run.opG (wantS_yes' rfl rfl hc28) (ex_move rfl) rfl ?_
        refine Run.opG (wantS_yes' rfl rfl hc28) (ex_gtr rfl rfl) rfl ?_
        refine Run.opG wantS_none (ex_pickF' rfl hc28 rfl rfl) rfl ?_
        exact Run.pick [0, 3, 4, 37] (ref01_IsName_5_ok F (ref01_IsName_4 F N) ih v0 v3 z27 (decide ((122 : Int) < z27)) _ _ _ hH h)
    · have h := bif_f hc25 h
      refine Run.condF' rfl hc25 ?_
      refine Run.exit rfl (Run.seq (Run.region ?_))
      refine Run.opG wantS_none (ex_assign rfl) rfl ?_
      refine Run.opsEnd ?_
      cases h
      exact Run.ret Tryd.func76 rfl (res_tmp rfl res_nil) rfl

def ref01_IsName_3 (F : Nat) (v0 : (List UInt8)) (v22 : Bool) : Option (Bool) :=
  bif v22 then
    some false
  else
    ref01_IsName_4 F F v0 (0 : Int)

theorem ref01_IsName_3_ok (F : Nat) : ∀ (v0 : (List UInt8)) (v22 : Bool) (Fr : Rd) (M : Mem) (r : Bool) (hH : Has Fr M []), ref01_IsName_3 F v0 v22 = some r → Run Tryd.prog ⟨⟨76, [], none⟩, []⟩ 50 (ref01_IsName_post r) [(0, (.str v0)), (22, (.bool v22))] [codeC Tryd.prog 76 [1, 0, 1], codeC Tryd.prog 76 [1, 1]] M := by
  intro v0 v22 Fr M r hH h
  rw [ref01_IsName_3] at h
  rcases btf (v22) with hc24 | hc24
  · have h := bif_t hc24 h
    refine Run.condT' rfl hc24 ?_
    refine Run.seq (Run.region ?_)
    refine Run.opG wantS_none (ex_assign rfl) rfl ?_
    refine Run.opsEnd ?_
    cases h
    exact Run.ret Tryd.func76 rfl (res_tmp rfl res_nil) rfl
  · have h := bif_f hc24 h
    refine Run.condF' rfl hc24 ?_
    refine Run.skip (Run.seq (Run.seq (Run.region ?_)))
    refine Run.opG wantS_none (ex_assign rfl) rfl ?_
    refine Run.opsEnd (Run.block (Run.loop ?_))
    exact Run.pick [0, 3] (ref01_IsName_4_ok F F v0 (0 : Int) _ _ _ hH h)

def ref01_IsName_2 (F : Nat) (v0 : (List UInt8)) (v17 : Bool) : Option (Bool) :=
  bif v17 then
    ref01_IsName_3 F v0 true
  else
    bnd (sAt v0 (0 : Int)) fun z35 =>
    ref01_IsName_3 F v0 (decide ((122 : Int) < z35))

theorem ref01_IsName_2_ok (F : Nat) : ∀ (v0 : (List UInt8)) (v17 : Bool) (Fr : Rd) (M : Mem) (r : Bool) (hH : Has Fr M []), ref01_IsName_2 F v0 v17 = some r → Run Tryd.prog ⟨⟨76, [], none⟩, []⟩ 50 (ref01_IsName_post r) [(0, (.str v0)), (17, (.bool v17))] [itemC Tryd.prog 76 [1, 0, 0] 13, codeC Tryd.prog 76 [1, 0, 1], codeC Tryd.prog 76 [1, 1]] M := by
  intro v0 v17 Fr M r hH h
  rw [ref01_IsName_2] at h
  refine Run.opG wantS_none (ex_move rfl) rfl ?_
  rcases btf (v17) with hc23 | hc23
  · have h := bif_t hc23 h
    refine Run.no (wantS_not' rfl rfl hc23) rfl ?_
    refine Run.no (wantS_not' rfl rfl hc23) rfl ?_
    refine Run.no (wantS_not' rfl rfl hc23) rfl ?_
    refine Run.opG wantS_none (ex_pickT' rfl hc23 rfl rfl) rfl ?_
    refine Run.opsEnd ?_
    exact Run.pick [0, 22] (ref01_IsName_3_ok F v0 true _ _ _ hH h)
  · have h := bif_f hc23 h
    refine Run.opG (wantS_yes' rfl rfl hc23) (ex_move rfl) rfl ?_
    obtain ⟨z35, hz35, h⟩ := bnd_some h
    refine Run.opG (wantS_yes' rfl rfl hc23) (ex_sAt rfl rfl whs9 hz35) rfl ?_
    refine Run.opG (wantS_yes' rfl rfl hc23) (ex_gtr rfl rfl) rfl ?_
    refine Run.opG wantS_none (ex_pickF' rfl hc23 rfl rfl) rfl ?_
    refine Run.opsEnd ?_
    exact Run.pick [0, 22] (ref01_IsName_3_ok F v0 (decide ((122 : Int) < z35)) _ _ _ hH h)

def ref01_IsName_1 (F : Nat) (v0 : (List UInt8)) (v12 : Bool) : Option (Bool) :=
  bif v12 then
    ref01_IsName_2 F v0 true
  else
    bnd (sAt v0 (0 : Int)) fun z37 =>
    ref01_IsName_2 F v0 (decide (z37 < (97 : Int)))

theorem ref01_IsName_1_ok (F : Nat) : ∀ (v0 : (List UInt8)) (v12 : Bool) (Fr : Rd) (M : Mem) (r : Bool) (hH : Has Fr M []), ref01_IsName_1 F v0 v12 = some r → Run Tryd.prog ⟨⟨76, [], none⟩, []⟩ 50 (ref01_IsName_post r) [(0, (.str v0)), (12, (.bool v12))] [itemC Tryd.prog 76 [1, 0, 0] 8, codeC Tryd.prog 76 [1, 0, 1], codeC Tryd.prog 76 [1, 1]] M := by
  intro v0 v12 Fr M r hH h
  rw [ref01_IsName_1] at h
  refine Run.opG wantS_none (ex_move rfl) rfl ?_
  rcases btf (v12) with hc22 | hc22
  · have h := bif_t hc22 h
    refine Run.no (wantS_not' rfl rfl hc22) rfl ?_
    refine Run.no (wantS_not' rfl rfl hc22) rfl ?_
    refine Run.no (wantS_not' rfl rfl hc22) rfl ?_
    refine Run.opG wantS_none (ex_pickT' rfl hc22 rfl rfl) rfl ?_
    exact Run.pick [0, 17] (ref01_IsName_2_ok F v0 true _ _ _ hH h)
  · have h := bif_f hc22 h
    refine Run.opG (wantS_yes' rfl rfl hc22) (ex_move rfl) rfl ?_
    obtain ⟨z37, hz37, h⟩ := bnd_some h
    refine Run.opG (wantS_yes' rfl rfl hc22) (ex_sAt rfl rfl whs9 hz37) rfl ?_
    refine Run.opG (wantS_yes' rfl rfl hc22) (ex_lss rfl rfl) rfl ?_
    refine Run.opG wantS_none (ex_pickF' rfl hc22 rfl rfl) rfl ?_
    exact Run.pick [0, 17] (ref01_IsName_2_ok F v0 (decide (z37 < (97 : Int))) _ _ _ hH h)

def ref01_IsName (F : Nat) (a0 : (List UInt8)) : Option (Bool) :=
  bif (decide ((a0.length : Int) < (1 : Int))) then
    ref01_IsName_1 F a0 true
  else
    ref01_IsName_1 F a0 (decide ((16 : Int) < (a0.length : Int)))

theorem ref01_IsName_ok (F : Nat) (a0 : (List UInt8)) (r : Bool) (M : Mem) (h : ref01_IsName F a0 = some r) : CallsM Tryd.prog 76 [(.str a0)] M (fun s M' => s = (.bool r) ∧ M' = M) := by
  refine CallsM.plain Tryd.func76 rfl rfl rfl (show Run _ _ _ (ref01_IsName_post r) _ _ _ from ?_)
  rw [ref01_IsName] at h
  have hH := Has.nil (frozen M)
  refine Run.seq (Run.region ?_)
  refine Run.opG wantS_none (ex_assign rfl) rfl ?_
  refine Run.opsEnd (Run.seq (Run.seq (Run.region ?_)))
  refine Run.opG wantS_none (ex_move rfl) rfl ?_
  refine Run.opG wantS_none (ex_lenS rfl lenk9) rfl ?_
  refine Run.opG wantS_none (ex_lss rfl rfl) rfl ?_
  refine Run.opG wantS_none (ex_move rfl) rfl ?_
  rcases btf ((decide ((a0.length : Int) < (1 : Int)))) with hc21 | hc21
  · have h := bif_t hc21 h
    refine Run.no (wantS_not' rfl rfl hc21) rfl ?_
    refine Run.no (wantS_not' rfl rfl hc21) rfl ?_
    refine Run.no (wantS_not' rfl rfl hc21) rfl ?_
    refine Run.opG wantS_none (ex_pickT' rfl hc21 rfl rfl) rfl ?_
    exact Run.pick [0, 12] (ref01_IsName_1_ok F a0 true _ _ _ hH h)
  · have h := bif_f hc21 h
    refine Run.opG (wantS_yes' rfl rfl hc21) (ex_move rfl) rfl ?_
    refine Run.opG (wantS_yes' rfl rfl hc21) (ex_lenS rfl lenk9) rfl ?_
    refine Run.opG (wantS_yes' rfl rfl hc21) (ex_gtr rfl rfl) rfl ?_
    refine Run.opG wantS_none (ex_pickF' rfl hc21 rfl rfl) rfl ?_
    exact Run.pick [0, 12] (ref01_IsName_1_ok F a0 (decide ((16 : Int) < (a0.length : Int))) _ _ _ hH h)

theorem mkk76 : makeK Tryd.prog 76 = none := by kernel_rfl
theorem cal76 : callable Tryd.prog 76 = true := by kernel_rfl
abbrev ref00_In_post (r : Bool) : SV → Mem → Prop := fun s _ => s = (.bool r)

def ref00_In_1 (F : Nat) (v14 : Bool) : Option (Bool) :=
  some v14

theorem ref00_In_1_ok (F : Nat) : ∀ (v14 : Bool) (Fr : Rd) (M : Mem) (r : Bool) (hH : Has Fr M []), ref00_In_1 F v14 = some r → Run Tryd.prog ⟨⟨39, [], none⟩, []⟩ 15 (ref00_In_post r) [(14, (.bool v14))] [itemC Tryd.prog 39 [1, 0] 8, codeC Tryd.prog 39 [1, 1]] M := by
  intro v14 Fr M r hH h
  rw [ref00_In_1] at h
  refine Run.opG wantS_none (ex_assign rfl) rfl ?_
  refine Run.opsEnd ?_
  cases h
  exact Run.ret Tryd.func39 rfl (res_tmp rfl res_nil) rfl

def ref00_In (F : Nat) (a0 a1 a2 : Int) : Option (Bool) :=
  bif (decide (a1 ≤ a0)) then
    ref00_In_1 F (decide (a0 ≤ a2))
  else
    ref00_In_1 F false

theorem ref00_In_ok (F : Nat) (a0 a1 a2 : Int) (r : Bool) (M : Mem) (h : ref00_In F a0 a1 a2 = some r) : CallsM Tryd.prog 39 [(.int .i64 a0), (.int .i64 a1), (.int .i64 a2)] M (fun s M' => s = (.bool r) ∧ M' = M) := by
  refine CallsM.plain Tryd.func39 rfl rfl rfl (show Run _ _ _ (ref00_In_post r) _ _ _ from ?_)
  rw [ref00_In] at h
  have hH := Has.nil (frozen M)
  refine Run.seq (Run.region ?_)
  refine Run.opG wantS_none (ex_assign rfl) rfl ?_
  refine Run.opsEnd (Run.seq (Run.region ?_))
  refine Run.opG wantS_none (ex_move rfl) rfl ?_
  refine Run.opG wantS_none (ex_move rfl) rfl ?_
  refine Run.opG wantS_none (ex_leq rfl rfl) rfl ?_
  refine Run.opG wantS_none (ex_move rfl) rfl ?_
  rcases btf ((decide (a1 ≤ a0))) with hc21 | hc21
  · have h := bif_t hc21 h
    refine Run.opG (wantS_yes' rfl rfl hc21) (ex_move rfl) rfl ?_
    refine Run.opG (wantS_yes' rfl rfl hc21) (ex_move rfl) rfl ?_
    refine Run.opG (wantS_yes' rfl rfl hc21) (ex_leq rfl rfl) rfl ?_
    refine Run.opG wantS_none (ex_pickT' rfl hc21 rfl rfl) rfl ?_
    exact Run.pick [14] (ref00_In_1_ok F (decide (a0 ≤ a2)) _ _ _ hH h)
  · have h := bif_f hc21 h
    refine Run.no (wantS_not' rfl rfl hc21) rfl ?_
    refine Run.no (wantS_not' rfl rfl hc21) rfl ?_
    refine Run.no (wantS_not' rfl rfl hc21) rfl ?_
    refine Run.opG wantS_none (ex_pickF' rfl hc21 rfl rfl) rfl ?_
    exact Run.pick [14] (ref00_In_1_ok F false _ _ _ hH h)

theorem mkk39 : makeK Tryd.prog 39 = none := by kernel_rfl
theorem cal39 : callable Tryd.prog 39 = true := by kernel_rfl
theorem plan47_1_1_1_0_1_0_0_1_0_0 : planOf Tryd.prog (opsC (atC Tryd.prog 47 [1, 1, 1, 0, 1, 0, 0, 1, 0, 0])) = some [.fl 0, .fl 1, .fl 2, .fl 3, .fl 4, .fl 5, .fl 6, .fl 7, .fl 8, .fl 9, .fl 10, .fl 11, .an 12 [], .fl 13, .fl 14, .fl 15, .fl 16, .fl 17, .fl 18, .fl 19, .fl 20, .fl 21, .fl 22, .fl 23, .fl 24, .fl 25, .fl 26, .fl 27, .fl 28, .fl 29, .fl 30, .fl 31, .sync] := by kernel_rfl
abbrev ref10_CheckAlert_post (r : Int) : SV → Mem → Prop := fun s _ => s = (.int .i64 r)

def ref10_CheckAlert_12 (F : Nat) (hd10 : Bool → Int → (List UInt8) → Int → Int → Int → Int → Int → (List Int) → Bool → Int → Option (Int)) (v3 : Bool) (v4 : Int) (c22_0 : (List UInt8)) (c22_1 c22_2 c22_3 c22_4 c22_5 : Int) (c22_6 : (List Int)) (c22_7 : Bool) (c22_8 : Int) : Option (Int) :=
  hd10 v3 (w64 (v4 + (1 : Int))) c22_0 c22_1 c22_2 c22_3 c22_4 c22_5 c22_6 c22_7 c22_8

theorem ref10_CheckAlert_12_ok (F : Nat) (hd10 : Bool → Int → (List UInt8) → Int → Int → Int → Int → Int → (List Int) → Bool → Int → Option (Int)) (hhd10 : ∀ (v3 : Bool) (v4 : Int) (c22_0 : (List UInt8)) (c22_1 c22_2 c22_3 c22_4 c22_5 : Int) (c22_6 : (List Int)) (c22_7 : Bool) (c22_8 : Int) (sc22_6 : SV) (b22 : Pos) (Fr : Rd) (M : Mem) (r : Int) (hc22_6 : Slc Fr 1 (FlatR enc3) sc22_6 c22_6) (hH : Has Fr M [.obj b22 (.row 29 .whole [(.str c22_0), (.int .i64 c22_1), (.int .i64 c22_2), (.int .i64 c22_3), (.int .i64 c22_4), (.int .i64 c22_5), sc22_6, (.bool c22_7), (.int .i64 c22_8)])]), hd10 v3 v4 c22_0 c22_1 c22_2 c22_3 c22_4 c22_5 c22_6 c22_7 c22_8 = some r → Run Tryd.prog ⟨⟨47, [], none⟩, []⟩ 106 (ref10_CheckAlert_post r) [(1, (.ptr b22 0)), (3, (.bool v3)), (4, (.int .i64 v4))] [codeC Tryd.prog 47 [1, 1, 1, 0, 1, 0, 0], loopC Tryd.prog 47 [1, 1, 1, 0, 1, 0, 0], .inBlock 0, codeC Tryd.prog 47 [1, 1, 1, 1]] M) : ∀ (v3 : Bool) (v4 : Int) (c22_0 : (List UInt8)) (c22_1 c22_2 c22_3 c22_4 c22_5 : Int) (c22_6 : (List Int)) (c22_7 : Bool) (c22_8 : Int) (sc22_6 : SV) (b22 : Pos) (Fr : Rd) (M : Mem) (r : Int) (hc22_6 : Slc Fr 1 (FlatR enc3) sc22_6 c22_6) (hH : Has Fr M [.obj b22 (.row 29 .whole [(.str c22_0), (.int .i64 c22_1), (.int .i64 c22_2), (.int .i64 c22_3), (.int .i64 c22_4), (.int .i64 c22_5), sc22_6, (.bool c22_7), (.int .i64 c22_8)])]), ref10_CheckAlert_12 F hd10 v3 v4 c22_0 c22_1 c22_2 c22_3 c22_4 c22_5 c22_6 c22_7 c22_8 = some r → Run Tryd.prog ⟨⟨47, [], none⟩, []⟩ 106 (ref10_CheckAlert_post r) [(1, (.ptr b22 0)), (3, (.bool v3)), (4, (.int .i64 v4))] [itemC Tryd.prog 47 [1, 1, 1, 0, 1, 0, 0, 1, 1] 0, loopC Tryd.prog 47 [1, 1, 1, 0, 1, 0, 0], .inBlock 0, codeC Tryd.prog 47 [1, 1, 1, 1]] M := by
  intro v3 v4 c22_0 c22_1 c22_2 c22_3 c22_4 c22_5 c22_6 c22_7 c22_8 sc22_6 b22 Fr M r hc22_6 hH h
  rw [ref10_CheckAlert_12] at h
  refine Run.opG wantS_none (ex_move rfl) rfl ?_
  refine Run.opG wantS_none (ex_add rfl rfl) rfl ?_
  refine Run.opG wantS_none (ex_assign rfl) rfl ?_
  refine Run.opsEnd (Run.inLoop ?_)
  exact Run.pick [1, 3, 4] (hhd10 v3 (w64 (v4 + (1 : Int))) c22_0 c22_1 c22_2 c22_3 c22_4 c22_5 c22_6 c22_7 c22_8 sc22_6 b22 _ _ _ hc22_6 hH h)

def ref10_CheckAlert_11 (F : Nat) (hd10 : Bool → Int → (List UInt8) → Int → Int → Int → Int → Int → (List Int) → Bool → Int → Option (Int)) (v3 : Bool) (v4 : Int) (v70 : Bool) (c22_0 : (List UInt8)) (c22_1 c22_2 c22_3 c22_4 c22_5 : Int) (c22_6 : (List Int)) (c22_7 : Bool) (c22_8 : Int) : Option (Int) :=
  bif v70 then
    bnd (idx c22_6 v4) fun x53 =>
    bnd (ref00_In F x53 (0 : Int) (w64 ((w64 ((w64 ((6 : Int) * c22_5)) * c22_5)) - (1 : Int)))) fun r54 =>
    bif r54 then
      bif (v4 == (0 : Int)) then
        ref10_CheckAlert_12 F hd10 true v4 c22_0 c22_1 c22_2 c22_3 c22_4 c22_5 c22_6 c22_7 c22_8
      else
        bnd (idx c22_6 (w64 (v4 - (1 : Int)))) fun x58 =>
        bnd (idx c22_6 v4) fun x59 =>
        ref10_CheckAlert_12 F hd10 (decide (x58 < x59)) v4 c22_0 c22_1 c22_2 c22_3 c22_4 c22_5 c22_6 c22_7 c22_8
    else
      ref10_CheckAlert_12 F hd10 false v4 c22_0 c22_1 c22_2 c22_3 c22_4 c22_5 c22_6 c22_7 c22_8
  else
    bif (!v3) then
      some (101 : Int)
    else
      some (0 : Int)

theorem ref10_CheckAlert_11_ok (F : Nat) (hd10 : Bool → Int → (List UInt8) → Int → Int → Int → Int → Int → (List Int) → Bool → Int → Option (Int)) (hhd10 : ∀ (v3 : Bool) (v4 : Int) (c22_0 : (List UInt8)) (c22_1 c22_2 c22_3 c22_4 c22_5 : Int) (c22_6 : (List Int)) (c22_7 : Bool) (c22_8 : Int) (sc22_6 : SV) (b22 : Pos) (Fr : Rd) (M : Mem) (r : Int) (hc22_6 : Slc Fr 1 (FlatR enc3) sc22_6 c22_6) (hH : Has Fr M [.obj b22 (.row 29 .whole [(.str c22_0), (.int .i64 c22_1), (.int .i64 c22_2), (.int .i64 c22_3), (.int .i64 c22_4), (.int .i64 c22_5), sc22_6, (.bool c22_7), (.int .i64 c22_8)])]), hd10 v3 v4 c22_0 c22_1 c22_2 c22_3 c22_4 c22_5 c22_6 c22_7 c22_8 = some r → Run Tryd.prog ⟨⟨47, [], none⟩, []⟩ 106 (ref10_CheckAlert_post r) [(1, (.ptr b22 0)), (3, (.bool v3)), (4, (.int .i64 v4))] [codeC Tryd.prog 47 [1, 1, 1, 0, 1, 0, 0], loopC Tryd.prog 47 [1, 1, 1, 0, 1, 0, 0], .inBlock 0, codeC Tryd.prog 47 [1, 1, 1, 1]] M) : ∀ (v3 : Bool) (v4 : Int) (v70 : Bool) (c22_0 : (List UInt8)) (c22_1 c22_2 c22_3 c22_4 c22_5 : Int) (c22_6 : (List Int)) (c22_7 : Bool) (c22_8 : Int) (sc22_6 : SV) (b22 : Pos) (Fr : Rd) (M : Mem) (r : Int) (hc22_6 : Slc Fr 1 (FlatR enc3) sc22_6 c22_6) (hH : Has Fr M [.obj b22 (.row 29 .whole [(.str c22_0), (.int .i64 c22_1), (.int .i64 c22_2), (.int .i64 c22_3), (.int .i64 c22_4), (.int .i64 c22_5), sc22_6, (.bool c22_7), (.int .i64 c22_8)])]), ref10_CheckAlert_11 F hd10 v3 v4 v70 c22_0 c22_1 c22_2 c22_3 c22_4 c22_5 c22_6 c22_7 c22_8 = some r → Run Tryd.prog ⟨⟨47, [], none⟩, []⟩ 106 (ref10_CheckAlert_post r) [(1, (.ptr b22 0)), (3, (.bool v3)), (4, (.int .i64 v4)), (70, (.bool v70))] [codeC Tryd.prog 47 [1, 1, 1, 0, 1, 0, 0, 0, 1], codeC Tryd.prog 47 [1, 1, 1, 0, 1, 0, 0, 1], loopC Tryd.prog 47 [1, 1, 1, 0, 1, 0, 0], .inBlock 0, codeC Tryd.prog 47 [1, 1, 1, 1]] M := by
  intro v3 v4 v70 c22_0 c22_1 c22_2 c22_3 c22_4 c22_5 c22_6 c22_7 c22_8 sc22_6 b22 Fr M r hc22_6 hH h
  rw [ref10_CheckAlert_11] at h
  rcases btf (v70) with hc52 | hc52
  · have h := bif_t hc52 h
    refine Run.condT' rfl hc52 ?_
    refine Run.skip (Run.seq (Run.block ?_))
    refine Run.drawG plan47_1_1_1_0_1_0_0_1_0_0 ?_
    refine DrawG.fl rfl (ev_ex wantS_none (ex_fieldAddr rfl off29_5)) rfl ?_
    refine DrawG.fl rfl (ev_ex wantS_none (ex_load1 rfl (hH.cells (i := 0) rfl 6 rfl) rdLe_rfl agg27)) rfl ?_
    refine DrawG.fl rfl (ev_ex wantS_none (ex_move rfl)) rfl ?_
    obtain ⟨x53, hx53, h⟩ := bnd_some h
    obtain ⟨p53, o53, _, hx53, hp53, rfl⟩ := sl_elem (P := Tryd.prog) (t := 27) (kk := .i64) hc22_6 hx53 els27
    refine DrawG.fl rfl (ev_ex wantS_none (ex_elX rfl rfl hx53)) rfl ?_
    refine DrawG.fl rfl (ev_ex wantS_none (ex_load1 rfl (hH.ptrF hp53) rdLe_rfl agg3)) rfl ?_
    refine DrawG.fl rfl (ev_ex wantS_none (ex_fieldAddr rfl off29_4)) rfl ?_
    refine DrawG.fl rfl (ev_ex wantS_none (ex_load1 rfl (hH.cells (i := 0) rfl 5 rfl) rdLe_rfl agg3)) rfl ?_
    refine DrawG.fl rfl (ev_ex wantS_none (ex_mul rfl rfl)) rfl ?_
    refine DrawG.fl rfl (ev_ex wantS_none (ex_fieldAddr rfl off29_4)) rfl ?_
    refine DrawG.fl rfl (ev_ex wantS_none (ex_load1 rfl (hH.cells (i := 0) rfl 5 rfl) rdLe_rfl agg3)) rfl ?_
    refine DrawG.fl rfl (ev_ex wantS_none (ex_mul rfl rfl)) rfl ?_
    refine DrawG.fl rfl (ev_ex wantS_none (ex_sub rfl rfl)) rfl ?_
    obtain ⟨r54, hr54, h⟩ := bnd_some h
    refine DrawG.callP rfl wantS_none (ex_call rfl mkk39 cal39) rfl (ref00_In_ok F x53 (0 : Int) (w64 ((w64 ((w64 ((6 : Int) * c22_5)) * c22_5)) - (1 : Int))) _ _ hr54) st_nil ?_
    refine DrawG.fl rfl (ev_ex wantS_none (ex_move rfl)) rfl ?_
    rcases btf (r54) with hc56 | hc56
    · have h := bif_t hc56 h
      refine DrawG.fl rfl (ev_ex (wantS_yes' rfl rfl hc56) (ex_move rfl)) rfl ?_
      refine DrawG.fl rfl (ev_ex (wantS_yes' rfl rfl hc56) (ex_eql rfl rfl)) rfl ?_
      refine DrawG.fl rfl (ev_ex (wantS_yes' rfl rfl hc56) (ex_move rfl)) rfl ?_
      rcases btf ((v4 == (0 : Int))) with hc57 | hc57
      · have h := bif_t hc57 h
        refine DrawG.fl rfl (ev_no (wantS_not' rfl rfl hc57)) rfl ?_
        refine DrawG.fl rfl (ev_no (wantS_not' rfl rfl hc57)) rfl ?_
        refine DrawG.fl rfl (ev_no (wantS_not' rfl rfl hc57)) rfl ?_
        refine DrawG.fl rfl (ev_no (wantS_not' rfl rfl hc57)) rfl ?_
        refine DrawG.fl rfl (ev_no (wantS_not' rfl rfl hc57)) rfl ?_
        refine DrawG.fl rfl (ev_no (wantS_not' rfl rfl hc57)) rfl ?_
        refine DrawG.fl rfl (ev_no (wantS_not' rfl rfl hc57)) rfl ?_
        refine DrawG.fl rfl (ev_no (wantS_not' rfl rfl hc57)) rfl ?_
        refine DrawG.fl rfl (ev_no (wantS_not' rfl rfl hc57)) rfl ?_
        refine DrawG.fl rfl (ev_no (wantS_not' rfl rfl hc57)) rfl ?_
        refine DrawG.fl rfl (ev_no (wantS_not' rfl rfl hc57)) rfl ?_
        refine DrawG.fl rfl (ev_no (wantS_not' rfl rfl hc57)) rfl ?_
        refine DrawG.fl rfl (ev_ex (wantS_yes' rfl rfl hc56) (ex_pickT' rfl hc57 rfl rfl)) rfl ?_
        refine DrawG.fl rfl (ev_ex wantS_none (ex_pickT' rfl hc56 rfl rfl)) rfl ?_
        refine DrawG.fl rfl (ev_ex wantS_none (ex_assign rfl)) rfl ?_
        refine DrawG.sync ?_
        refine DrawG.nil ?_
        refine Run.inBlock (Run.region ?_)
        exact Run.pick [1, 3, 4] (ref10_CheckAlert_12_ok F hd10 hhd10 true v4 c22_0 c22_1 c22_2 c22_3 c22_4 c22_5 c22_6 c22_7 c22_8 sc22_6 b22 _ _ _ hc22_6 hH h)
      · have h := bif_f hc57 h
        refine DrawG.fl rfl (ev_ex (wantS_yes' rfl rfl hc57) (ex_fieldAddr rfl off29_5)) rfl ?_
        refine DrawG.fl rfl (ev_ex (wantS_yes' rfl rfl hc57) (ex_load1 rfl (hH.cells (i := 0) rfl 6 rfl) rdLe_rfl agg27)) rfl ?_
        refine DrawG.fl rfl (ev_ex (wantS_yes' rfl rfl hc57) (ex_move rfl)) rfl ?_
        refine DrawG.fl rfl (ev_ex (wantS_yes' rfl rfl hc57) (ex_sub rfl rfl)) rfl ?_
        obtain ⟨x58, hx58, h⟩ := bnd_some h
        obtain ⟨p58, o58, _, hx58, hp58, rfl⟩ := sl_elem (P := Tryd.prog) (t := 27) (kk := .i64) hc22_6 hx58 els27
        refine DrawG.fl rfl (ev_ex (wantS_yes' rfl rfl hc57) (ex_elX rfl rfl hx58)) rfl ?_
        refine DrawG.fl rfl (ev_ex (wantS_yes' rfl rfl hc57) (ex_load1 rfl (hH.ptrF hp58) rdLe_rfl agg3)) rfl ?_
        refine DrawG.fl rfl (ev_ex (wantS_yes' rfl rfl hc57) (ex_fieldAddr rfl off29_5)) rfl ?_
        refine DrawG.fl rfl (ev_ex (wantS_yes' rfl rfl hc57) (ex_load1 rfl (hH.cells (i := 0) rfl 6 rfl) rdLe_rfl agg27)) rfl ?_
        refine DrawG.fl rfl (ev_ex (wantS_yes' rfl rfl hc57) (ex_move rfl)) rfl ?_
        obtain ⟨x59, hx59, h⟩ := bnd_some h
        obtain ⟨p59, o59, _, hx59, hp59, rfl⟩ := sl_elem (P := Tryd.prog) (t := 27) (kk := .i64) hc22_6 hx59 els27
        refine DrawG.fl rfl (ev_ex (wantS_yes' rfl rfl hc57) (ex_elX rfl rfl hx59)) rfl ?_
        refine DrawG.fl rfl (ev_ex (wantS_yes' rfl rfl hc57) (ex_load1 rfl (hH.ptrF hp59) rdLe_rfl agg3)) rfl ?_
        refine DrawG.fl rfl (ev_ex (wantS_yes' rfl rfl hc57) (ex_lss rfl rfl)) rfl ?_
        refine DrawG.fl rfl (ev_ex (wantS_yes' rfl rfl hc56) (ex_pickF' rfl hc57 rfl rfl)) rfl ?_
        refine DrawG.fl rfl (ev_ex wantS_none (ex_pickT' rfl hc56 rfl rfl)) rfl ?_
        refine DrawG.fl rfl (ev_ex wantS_none (ex_assign rfl)) rfl ?_
        refine DrawG.sync ?_
        refine DrawG.nil ?_
        refine Run.inBlock (Run.region ?_)
        exact Run.pick [1, 3, 4] (ref10_CheckAlert_12_ok F hd10 hhd10 (decide (x58 < x59)) v4 c22_0 c22_1 c22_2 c22_3 c22_4 c22_5 c22_6 c22_7 c22_8 sc22_6 b22 _ _ _ hc22_6 hH h)
    · have h := bif_f hc56 h
      refine DrawG.fl rfl (ev_no (wantS_not' rfl rfl hc56)) rfl ?_
      refine DrawG.fl rfl (ev_no (wantS_not' rfl rfl hc56)) rfl ?_
      refine DrawG.fl rfl (ev_no (wantS_not' rfl rfl hc56)) rfl ?_
      refine DrawG.fl rfl (ev_no (wantS_skip rfl rfl)) rfl ?_
      refine DrawG.fl rfl (ev_no (wantS_skip rfl rfl)) rfl ?_
      refine DrawG.fl rfl (ev_no (wantS_skip rfl rfl)) rfl ?_
      refine DrawG.fl rfl (ev_no (wantS_skip rfl rfl)) rfl ?_
      refine DrawG.fl rfl (ev_no (wantS_skip rfl rfl)) rfl ?_
      refine DrawG.fl rfl (ev_no (wantS_skip rfl rfl)) rfl ?_
      refine DrawG.fl rfl (ev_no (wantS_skip rfl rfl)) rfl ?_
      refine DrawG.fl rfl (ev_no (wantS_skip rfl rfl)) rfl ?_
      refine DrawG.fl rfl (ev_no (wantS_skip rfl rfl)) rfl ?_
      refine DrawG.fl rfl (ev_no (wantS_skip rfl rfl)) rfl ?_
      refine DrawG.fl rfl (ev_no (wantS_skip rfl rfl)) rfl ?_
      refine DrawG.fl rfl (ev_no (wantS_skip rfl rfl)) rfl ?_
      refine DrawG.fl rfl (ev_no (wantS_not' rfl rfl hc56)) rfl ?_
      refine DrawG.fl rfl (ev_ex wantS_none (ex_pickF' rfl hc56 rfl rfl)) rfl ?_
      refine DrawG.fl rfl (ev_ex wantS_none (ex_assign rfl)) rfl ?_
      refine DrawG.sync ?_
      refine DrawG.nil ?_
      refine Run.inBlock (Run.region ?_)
      exact Run.pick [1, 3, 4] (ref10_CheckAlert_12_ok F hd10 hhd10 false v4 c22_0 c22_1 c22_2 c22_3 c22_4 c22_5 c22_6 c22_7 c22_8 sc22_6 b22 _ _ _ hc22_6 hH h)
  · have h := bif_f hc52 h
    refine Run.condF' rfl hc52 ?_
    refine Run.exit rfl (Run.seq (Run.seq (Run.region ?_)))
    refine Run.opG wantS_none (ex_move rfl) rfl ?_
    refine Run.opG wantS_none (ex_not rfl) rfl ?_
    refine Run.opsEnd ?_
    rcases btf ((!v3)) with hc60 | hc60
    · have h := bif_t hc60 h
      refine Run.condT' rfl hc60 ?_
      refine Run.seq (Run.region ?_)
      refine Run.opG wantS_none (ex_assign rfl) rfl ?_
      refine Run.opsEnd ?_
      cases h
      exact Run.ret Tryd.func47 rfl (res_tmp rfl res_nil) rfl
    · have h := bif_f hc60 h
      refine Run.condF' rfl hc60 ?_
      refine Run.skip (Run.seq (Run.region ?_))
      refine Run.opG wantS_none (ex_assign rfl) rfl ?_
      refine Run.opsEnd ?_
      cases h
      exact Run.ret Tryd.func47 rfl (res_tmp rfl res_nil) rfl

def ref10_CheckAlert_10 (F : Nat) : Nat → Bool → Int → (List UInt8) → Int → Int → Int → Int → Int → (List Int) → Bool → Int → Option (Int)
  | 0, _, _, _, _, _, _, _, _, _, _, _ => none
  | N + 1, v3, v4, c22_0, c22_1, c22_2, c22_3, c22_4, c22_5, c22_6, c22_7, c22_8 =>
    bif (decide (v4 < (c22_6.length : Int))) then
      ref10_CheckAlert_11 F (ref10_CheckAlert_10 F N) v3 v4 v3 c22_0 c22_1 c22_2 c22_3 c22_4 c22_5 c22_6 c22_7 c22_8
    else
      ref10_CheckAlert_11 F (ref10_CheckAlert_10 F N) v3 v4 false c22_0 c22_1 c22_2 c22_3 c22_4 c22_5 c22_6 c22_7 c22_8

theorem ref10_CheckAlert_10_ok (F : Nat) : ∀ (N : Nat), ∀ (v3 : Bool) (v4 : Int) (c22_0 : (List UInt8)) (c22_1 c22_2 c22_3 c22_4 c22_5 : Int) (c22_6 : (List Int)) (c22_7 : Bool) (c22_8 : Int) (sc22_6 : SV) (b22 : Pos) (Fr : Rd) (M : Mem) (r : Int) (hc22_6 : Slc Fr 1 (FlatR enc3) sc22_6 c22_6) (hH : Has Fr M [.obj b22 (.row 29 .whole [(.str c22_0), (.int .i64 c22_1), (.int .i64 c22_2), (.int .i64 c22_3), (.int .i64 c22_4), (.int .i64 c22_5), sc22_6, (.bool c22_7), (.int .i64 c22_8)])]), ref10_CheckAlert_10 F N v3 v4 c22_0 c22_1 c22_2 c22_3 c22_4 c22_5 c22_6 c22_7 c22_8 = some r → Run Tryd.prog ⟨⟨47, [], none⟩, []⟩ 106 (ref10_CheckAlert_post r) [(1, (.ptr b22 0)), (3, (.bool v3)), (4, (.int .i64 v4))] [codeC Tryd.prog 47 [1, 1, 1, 0, 1, 0, 0], loopC Tryd.prog 47 [1, 1, 1, 0, 1, 0, 0], .inBlock 0, codeC Tryd.prog 47 [1, 1, 1, 1]] M := by
  intro N
  induction N with
  | zero =>
    intro v3 v4 c22_0 c22_1 c22_2 c22_3 c22_4 c22_5 c22_6 c22_7 c22_8 sc22_6 b22 Fr M r hc22_6 hH h
    simp [ref10_CheckAlert_10] at h
  | succ N ih =>
    intro v3 v4 c22_0 c22_1 c22_2 c22_3 c22_4 c22_5 c22_6 c22_7 c22_8 sc22_6 b22 Fr M r hc22_6 hH h
    rw [ref10_CheckAlert_10] at h
    refine Run.seq (Run.seq (Run.region ?_))
    refine Run.opG wantS_none (ex_move rfl) rfl ?_
    refine Run.opG wantS_none (ex_fieldAddr rfl off29_5) rfl ?_
    refine Run.opG wantS_none (ex_load1 rfl (hH.cells (i := 0) rfl 6 rfl) rdLe_rfl agg27) rfl ?_
    refine Run.opG wantS_none (ex_len' rfl hc22_6 lenk27) rfl ?_
    refine Run.opG wantS_none (ex_lss rfl rfl) rfl ?_
    refine Run.opG wantS_none (ex_move rfl) rfl ?_
    rcases btf ((decide (v4 < (c22_6.length : Int)))) with hc51 | hc51
    · have h := bif_t hc51 h
      refine Run.opG (wantS_yes' rfl rfl hc51) (ex_move rfl) rfl ?_
      refine Run.opG wantS_none (ex_pickT' rfl hc51 rfl rfl) rfl ?_
      refine Run.opsEnd ?_
      exact Run.pick [1, 3, 4, 70] (ref10_CheckAlert_11_ok F (ref10_CheckAlert_10 F N) ih v3 v4 v3 c22_0 c22_1 c22_2 c22_3 c22_4 c22_5 c22_6 c22_7 c22_8 sc22_6 b22 _ _ _ hc22_6 hH h)
    · have h := bif_f hc51 h
      refine Run.no (wantS_not' rfl rfl hc51) rfl ?_
      refine Run.opG wantS_none (ex_pickF' rfl hc51 rfl rfl) rfl ?_
      refine Run.opsEnd ?_
      exact Run.pick [1, 3, 4, 70] (ref10_CheckAlert_11_ok F (ref10_CheckAlert_10 F N) ih v3 v4 false c22_0 c22_1 c22_2 c22_3 c22_4 c22_5 c22_6 c22_7 c22_8 sc22_6 b22 _ _ _ hc22_6 hH h)

def ref10_CheckAlert_9 (F : Nat) (v62 : Bool) (c22_0 : (List UInt8)) (c22_1 c22_2 c22_3 c22_4 c22_5 : Int) (c22_6 : (List Int)) (c22_7 : Bool) (c22_8 : Int) : Option (Int) :=
  ref10_CheckAlert_10 F F v62 (0 : Int) c22_0 c22_1 c22_2 c22_3 c22_4 c22_5 c22_6 c22_7 c22_8

theorem ref10_CheckAlert_9_ok (F : Nat) : ∀ (v62 : Bool) (c22_0 : (List UInt8)) (c22_1 c22_2 c22_3 c22_4 c22_5 : Int) (c22_6 : (List Int)) (c22_7 : Bool) (c22_8 : Int) (sc22_6 : SV) (b22 : Pos) (Fr : Rd) (M : Mem) (r : Int) (hc22_6 : Slc Fr 1 (FlatR enc3) sc22_6 c22_6) (hH : Has Fr M [.obj b22 (.row 29 .whole [(.str c22_0), (.int .i64 c22_1), (.int .i64 c22_2), (.int .i64 c22_3), (.int .i64 c22_4), (.int .i64 c22_5), sc22_6, (.bool c22_7), (.int .i64 c22_8)])]), ref10_CheckAlert_9 F v62 c22_0 c22_1 c22_2 c22_3 c22_4 c22_5 c22_6 c22_7 c22_8 = some r → Run Tryd.prog ⟨⟨47, [], none⟩, []⟩ 106 (ref10_CheckAlert_post r) [(1, (.ptr b22 0)), (62, (.bool v62))] [itemC Tryd.prog 47 [1, 1, 0] 25, codeC Tryd.prog 47 [1, 1, 1]] M := by
  intro v62 c22_0 c22_1 c22_2 c22_3 c22_4 c22_5 c22_6 c22_7 c22_8 sc22_6 b22 Fr M r hc22_6 hH h
  rw [ref10_CheckAlert_9] at h
  refine Run.opG wantS_none (ex_assign rfl) rfl ?_
  refine Run.opsEnd (Run.seq (Run.seq (Run.region ?_)))
  refine Run.opG wantS_none (ex_assign rfl) rfl ?_
  refine Run.opsEnd (Run.block (Run.loop ?_))
  exact Run.pick [1, 3, 4] (ref10_CheckAlert_10_ok F F v62 (0 : Int) c22_0 c22_1 c22_2 c22_3 c22_4 c22_5 c22_6 c22_7 c22_8 sc22_6 b22 _ _ _ hc22_6 hH h)

def ref10_CheckAlert_8 (F : Nat) (v53 : Bool) (c22_0 : (List UInt8)) (c22_1 c22_2 c22_3 c22_4 c22_5 : Int) (c22_6 : (List Int)) (c22_7 : Bool) (c22_8 : Int) : Option (Int) :=
  bif v53 then
    ref10_CheckAlert_9 F (((c22_6.length : Int) == (0 : Int)) == c22_7) c22_0 c22_1 c22_2 c22_3 c22_4 c22_5 c22_6 c22_7 c22_8
  else
    ref10_CheckAlert_9 F false c22_0 c22_1 c22_2 c22_3 c22_4 c22_5 c22_6 c22_7 c22_8

theorem ref10_CheckAlert_8_ok (F : Nat) : ∀ (v53 : Bool) (c22_0 : (List UInt8)) (c22_1 c22_2 c22_3 c22_4 c22_5 : Int) (c22_6 : (List Int)) (c22_7 : Bool) (c22_8 : Int) (sc22_6 : SV) (b22 : Pos) (Fr : Rd) (M : Mem) (r : Int) (hc22_6 : Slc Fr 1 (FlatR enc3) sc22_6 c22_6) (hH : Has Fr M [.obj b22 (.row 29 .whole [(.str c22_0), (.int .i64 c22_1), (.int .i64 c22_2), (.int .i64 c22_3), (.int .i64 c22_4), (.int .i64 c22_5), sc22_6, (.bool c22_7), (.int .i64 c22_8)])]), ref10_CheckAlert_8 F v53 c22_0 c22_1 c22_2 c22_3 c22_4 c22_5 c22_6 c22_7 c22_8 = some r → Run Tryd.prog ⟨⟨47, [], none⟩, []⟩ 106 (ref10_CheckAlert_post r) [(1, (.ptr b22 0)), (53, (.bool v53))] [itemC Tryd.prog 47 [1, 1, 0] 16, codeC Tryd.prog 47 [1, 1, 1]] M := by
  intro v53 c22_0 c22_1 c22_2 c22_3 c22_4 c22_5 c22_6 c22_7 c22_8 sc22_6 b22 Fr M r hc22_6 hH h
  rw [ref10_CheckAlert_8] at h
  refine Run.opG wantS_none (ex_move rfl) rfl ?_
  rcases btf (v53) with hc50 | hc50
  · have h := bif_t hc50 h
    refine Run.opG (wantS_yes' rfl rfl hc50) (ex_fieldAddr rfl off29_5) rfl ?_
    refine Run.opG (wantS_yes' rfl rfl hc50) (ex_load1 rfl (hH.cells (i := 0) rfl 6 rfl) rdLe_rfl agg27) rfl ?_
    refine Run.opG (wantS_yes' rfl rfl hc50) (ex_len' rfl hc22_6 lenk27) rfl ?_
    refine Run.opG (wantS_yes' rfl rfl hc50) (ex_eql rfl rfl) rfl ?_
    refine Run.opG (wantS_yes' rfl rfl hc50) (ex_fieldAddr rfl off29_6) rfl ?_
    refine Run.opG (wantS_yes' rfl rfl hc50) (ex_load1 rfl (hH.cells (i := 0) rfl 7 rfl) rdLe_rfl agg4) rfl ?_
    refine Run.opG (wantS_yes' rfl rfl hc50) (ex_eqlB rfl rfl eqk4) rfl ?_
    refine Run.opG wantS_none (ex_pickT' rfl hc50 rfl rfl) rfl ?_
    exact Run.pick [1, 62] (ref10_CheckAlert_9_ok F (((c22_6.length : Int) == (0 : Int)) == c22_7) c22_0 c22_1 c22_2 c22_3 c22_4 c22_5 c22_6 c22_7 c22_8 sc22_6 b22 _ _ _ hc22_6 hH h)
  · have h := bif_f hc50 h
    refine Run.no (wantS_not' rfl rfl hc50) rfl ?_
    refine Run.no (wantS_not' rfl rfl hc50) rfl ?_
    refine Run.no (wantS_not' rfl rfl hc50) rfl ?_
    refine Run.no (wantS_not' rfl rfl hc50) rfl ?_
    refine Run.no (wantS_not' rfl rfl hc50) rfl ?_
    refine Run.no (wantS_not' rfl rfl hc50) rfl ?_
    refine Run.no (wantS_not' rfl rfl hc50) rfl ?_
    refine Run.opG wantS_none (ex_pickF' rfl hc50 rfl rfl) rfl ?_
    exact Run.pick [1, 62] (ref10_CheckAlert_9_ok F false c22_0 c22_1 c22_2 c22_3 c22_4 c22_5 c22_6 c22_7 c22_8 sc22_6 b22 _ _ _ hc22_6 hH h)

def ref10_CheckAlert_7 (F : Nat) (v44 v52 : Bool) (c22_0 : (List UInt8)) (c22_1 c22_2 c22_3 c22_4 c22_5 : Int) (c22_6 : (List Int)) (c22_7 : Bool) (c22_8 : Int) : Option (Int) :=
  ref10_CheckAlert_8 F (bif v44 then v52 else false) c22_0 c22_1 c22_2 c22_3 c22_4 c22_5 c22_6 c22_7 c22_8

theorem ref10_CheckAlert_7_ok (F : Nat) : ∀ (v44 v52 : Bool) (c22_0 : (List UInt8)) (c22_1 c22_2 c22_3 c22_4 c22_5 : Int) (c22_6 : (List Int)) (c22_7 : Bool) (c22_8 : Int) (sc22_6 : SV) (b22 : Pos) (Fr : Rd) (M : Mem) (r : Int) (hc22_6 : Slc Fr 1 (FlatR enc3) sc22_6 c22_6) (hH : Has Fr M [.obj b22 (.row 29 .whole [(.str c22_0), (.int .i64 c22_1), (.int .i64 c22_2), (.int .i64 c22_3), (.int .i64 c22_4), (.int .i64 c22_5), sc22_6, (.bool c22_7), (.int .i64 c22_8)])]), ref10_CheckAlert_7 F v44 v52 c22_0 c22_1 c22_2 c22_3 c22_4 c22_5 c22_6 c22_7 c22_8 = some r → Run Tryd.prog ⟨⟨47, [], none⟩, []⟩ 106 (ref10_CheckAlert_post r) [(1, (.ptr b22 0)), (44, (.bool v44)), (52, (.bool v52))] [itemC Tryd.prog 47 [1, 1, 0] 15, codeC Tryd.prog 47 [1, 1, 1]] M := by
  intro v44 v52 c22_0 c22_1 c22_2 c22_3 c22_4 c22_5 c22_6 c22_7 c22_8 sc22_6 b22 Fr M r hc22_6 hH h
  rw [ref10_CheckAlert_7] at h
  refine Run.opG wantS_none (ex_pickB rfl rfl rfl) rfl ?_
  exact Run.pick [1, 53] (ref10_CheckAlert_8_ok F (bif v44 then v52 else false) c22_0 c22_1 c22_2 c22_3 c22_4 c22_5 c22_6 c22_7 c22_8 sc22_6 b22 _ _ _ hc22_6 hH h)

def ref10_CheckAlert_13 (F : Nat) (v44 : Bool) (c22_0 : (List UInt8)) (c22_1 c22_2 c22_3 c22_4 c22_5 : Int) (c22_6 : (List Int)) (c22_7 : Bool) (c22_8 : Int) : Option (Int) :=
  bif v44 then
    none
  else
    ref10_CheckAlert_8 F false c22_0 c22_1 c22_2 c22_3 c22_4 c22_5 c22_6 c22_7 c22_8

theorem ref10_CheckAlert_13_ok (F : Nat) : ∀ (v44 : Bool) (c22_0 : (List UInt8)) (c22_1 c22_2 c22_3 c22_4 c22_5 : Int) (c22_6 : (List Int)) (c22_7 : Bool) (c22_8 : Int) (sc22_6 : SV) (b22 : Pos) (Fr : Rd) (M : Mem) (r : Int) (hc22_6 : Slc Fr 1 (FlatR enc3) sc22_6 c22_6) (hH : Has Fr M [.obj b22 (.row 29 .whole [(.str c22_0), (.int .i64 c22_1), (.int .i64 c22_2), (.int .i64 c22_3), (.int .i64 c22_4), (.int .i64 c22_5), sc22_6, (.bool c22_7), (.int .i64 c22_8)])]), ref10_CheckAlert_13 F v44 c22_0 c22_1 c22_2 c22_3 c22_4 c22_5 c22_6 c22_7 c22_8 = some r → Run Tryd.prog ⟨⟨47, [], none⟩, []⟩ 106 (ref10_CheckAlert_post r) [(1, (.ptr b22 0)), (44, (.bool v44)), (52, (.tuple []))] [itemC Tryd.prog 47 [1, 1, 0] 15, codeC Tryd.prog 47 [1, 1, 1]] M := by
  intro v44 c22_0 c22_1 c22_2 c22_3 c22_4 c22_5 c22_6 c22_7 c22_8 sc22_6 b22 Fr M r hc22_6 hH h
  rw [ref10_CheckAlert_13] at h
  rcases btf (v44) with hc61 | hc61
  · have h := bif_t hc61 h
    cases h
  · have h := bif_f hc61 h
    refine Run.opG wantS_none (ex_pickF' rfl hc61 rfl rfl) rfl ?_
    exact Run.pick [1, 53] (ref10_CheckAlert_8_ok F false c22_0 c22_1 c22_2 c22_3 c22_4 c22_5 c22_6 c22_7 c22_8 sc22_6 b22 _ _ _ hc22_6 hH h)

def ref10_CheckAlert_6 (F : Nat) (v43 : Bool) (c22_0 : (List UInt8)) (c22_1 c22_2 c22_3 c22_4 c22_5 : Int) (c22_6 : (List Int)) (c22_7 : Bool) (c22_8 : Int) : Option (Int) :=
  bif v43 then
    bif (decide ((1 : Int) < c22_1)) then
      ref10_CheckAlert_7 F v43 true c22_0 c22_1 c22_2 c22_3 c22_4 c22_5 c22_6 c22_7 c22_8
    else
      ref10_CheckAlert_7 F v43 (c22_8 == (0 : Int)) c22_0 c22_1 c22_2 c22_3 c22_4 c22_5 c22_6 c22_7 c22_8
  else
    ref10_CheckAlert_13 F v43 c22_0 c22_1 c22_2 c22_3 c22_4 c22_5 c22_6 c22_7 c22_8

theorem ref10_CheckAlert_6_ok (F : Nat) : ∀ (v43 : Bool) (c22_0 : (List UInt8)) (c22_1 c22_2 c22_3 c22_4 c22_5 : Int) (c22_6 : (List Int)) (c22_7 : Bool) (c22_8 : Int) (sc22_6 : SV) (b22 : Pos) (Fr : Rd) (M : Mem) (r : Int) (hc22_6 : Slc Fr 1 (FlatR enc3) sc22_6 c22_6) (hH : Has Fr M [.obj b22 (.row 29 .whole [(.str c22_0), (.int .i64 c22_1), (.int .i64 c22_2), (.int .i64 c22_3), (.int .i64 c22_4), (.int .i64 c22_5), sc22_6, (.bool c22_7), (.int .i64 c22_8)])]), ref10_CheckAlert_6 F v43 c22_0 c22_1 c22_2 c22_3 c22_4 c22_5 c22_6 c22_7 c22_8 = some r → Run Tryd.prog ⟨⟨47, [], none⟩, []⟩ 106 (ref10_CheckAlert_post r) [(1, (.ptr b22 0)), (43, (.bool v43))] [itemC Tryd.prog 47 [1, 1, 0] 6, codeC Tryd.prog 47 [1, 1, 1]] M := by
  intro v43 c22_0 c22_1 c22_2 c22_3 c22_4 c22_5 c22_6 c22_7 c22_8 sc22_6 b22 Fr M r hc22_6 hH h
  rw [ref10_CheckAlert_6] at h
  refine Run.opG wantS_none (ex_move rfl) rfl ?_
  rcases btf (v43) with hc48 | hc48
  · have h := bif_t hc48 h
    refine Run.opG (wantS_yes' rfl rfl hc48) (ex_fieldAddr rfl off29_1) rfl ?_
    refine Run.opG (wantS_yes' rfl rfl hc48) (ex_load1 rfl (hH.cells (i := 0) rfl 1 rfl) rdLe_rfl agg3) rfl ?_
    refine Run.opG (wantS_yes' rfl rfl hc48) (ex_gtr rfl rfl) rfl ?_
    refine Run.opG (wantS_yes' rfl rfl hc48) (ex_move rfl) rfl ?_
    rcases btf ((decide ((1 : Int) < c22_1))) with hc49 | hc49
    · have h := bif_t hc49 h
      refine Run.no (wantS_not' rfl rfl hc49) rfl ?_
      refine Run.no (wantS_not' rfl rfl hc49) rfl ?_
      refine Run.no (wantS_not' rfl rfl hc49) rfl ?_
      refine Run.opG (wantS_yes' rfl rfl hc48) (ex_pickT' rfl hc49 rfl rfl) rfl ?_
      exact Run.pick [1, 44, 52] (ref10_CheckAlert_7_ok F v43 true c22_0 c22_1 c22_2 c22_3 c22_4 c22_5 c22_6 c22_7 c22_8 sc22_6 b22 _ _ _ hc22_6 hH h)
    · have h := bif_f hc49 h
      refine Run.opG (wantS_yes' rfl rfl hc49) (ex_fieldAddr rfl off29_7) rfl ?_
      refine Run.opG (wantS_yes' rfl rfl hc49) (ex_load1 rfl (hH.cells (i := 0) rfl 8 rfl) rdLe_rfl agg3) rfl ?_
      refine Run.opG (wantS_yes' rfl rfl hc49) (ex_eql rfl rfl) rfl ?_
      refine Run.opG (wantS_yes' rfl rfl hc48) (ex_pickF' rfl hc49 rfl rfl) rfl ?_
      exact Run.pick [1, 44, 52] (ref10_CheckAlert_7_ok F v43 (c22_8 == (0 : Int)) c22_0 c22_1 c22_2 c22_3 c22_4 c22_5 c22_6 c22_7 c22_8 sc22_6 b22 _ _ _ hc22_6 hH h)
  · have h := bif_f hc48 h
    refine Run.no (wantS_not' rfl rfl hc48) rfl ?_
    refine Run.no (wantS_not' rfl rfl hc48) rfl ?_
    refine Run.no (wantS_not' rfl rfl hc48) rfl ?_
    refine Run.no (wantS_not' rfl rfl hc48) rfl ?_
    refine Run.no (wantS_skip rfl rfl) rfl ?_
    refine Run.no (wantS_skip rfl rfl) rfl ?_
    refine Run.no (wantS_skip rfl rfl) rfl ?_
    refine Run.no (wantS_not' rfl rfl hc48) rfl ?_
    exact Run.pick [1, 44, 52] (ref10_CheckAlert_13_ok F v43 c22_0 c22_1 c22_2 c22_3 c22_4 c22_5 c22_6 c22_7 c22_8 sc22_6 b22 _ _ _ hc22_6 hH h)

def ref10_CheckAlert_5 (F : Nat) (v37 : Bool) (c22_0 : (List UInt8)) (c22_1 c22_2 c22_3 c22_4 c22_5 : Int) (c22_6 : (List Int)) (c22_7 : Bool) (c22_8 : Int) : Option (Int) :=
  bif v37 then
    bnd (ref00_In F c22_8 (0 : Int) (2147483646 : Int)) fun r46 =>
    ref10_CheckAlert_6 F r46 c22_0 c22_1 c22_2 c22_3 c22_4 c22_5 c22_6 c22_7 c22_8
  else
    ref10_CheckAlert_6 F false c22_0 c22_1 c22_2 c22_3 c22_4 c22_5 c22_6 c22_7 c22_8

theorem ref10_CheckAlert_5_ok (F : Nat) : ∀ (v37 : Bool) (c22_0 : (List UInt8)) (c22_1 c22_2 c22_3 c22_4 c22_5 : Int) (c22_6 : (List Int)) (c22_7 : Bool) (c22_8 : Int) (sc22_6 : SV) (b22 : Pos) (Fr : Rd) (M : Mem) (r : Int) (hc22_6 : Slc Fr 1 (FlatR enc3) sc22_6 c22_6) (hH : Has Fr M [.obj b22 (.row 29 .whole [(.str c22_0), (.int .i64 c22_1), (.int .i64 c22_2), (.int .i64 c22_3), (.int .i64 c22_4), (.int .i64 c22_5), sc22_6, (.bool c22_7), (.int .i64 c22_8)])]), ref10_CheckAlert_5 F v37 c22_0 c22_1 c22_2 c22_3 c22_4 c22_5 c22_6 c22_7 c22_8 = some r → Run Tryd.prog ⟨⟨47, [], none⟩, []⟩ 106 (ref10_CheckAlert_post r) [(1, (.ptr b22 0)), (37, (.bool v37))] [itemC Tryd.prog 47 [1, 0] 33, codeC Tryd.prog 47 [1, 1]] M := by
  intro v37 c22_0 c22_1 c22_2 c22_3 c22_4 c22_5 c22_6 c22_7 c22_8 sc22_6 b22 Fr M r hc22_6 hH h
  rw [ref10_CheckAlert_5] at h
  refine Run.opG wantS_none (ex_assign rfl) rfl ?_
  refine Run.opsEnd (Run.seq (Run.region ?_))
  refine Run.opG wantS_none (ex_move rfl) rfl ?_
  refine Run.opG wantS_none (ex_move rfl) rfl ?_
  rcases btf (v37) with hc44 | hc44
  · have h := bif_t hc44 h
    refine Run.opG (wantS_yes' rfl rfl hc44) (ex_fieldAddr rfl off29_7) rfl ?_
    refine Run.opG (wantS_yes' rfl rfl hc44) (ex_load1 rfl (hH.cells (i := 0) rfl 8 rfl) rdLe_rfl agg3) rfl ?_
    obtain ⟨r46, hr46, h⟩ := bnd_some h
    refine Run.callP (wantS_yes' rfl rfl hc44) (ex_call rfl mkk39 cal39) rfl (ref00_In_ok F c22_8 (0 : Int) (2147483646 : Int) _ _ hr46) ?_
    refine Run.opG wantS_none (ex_pickT' rfl hc44 rfl rfl) rfl ?_
    exact Run.pick [1, 43] (ref10_CheckAlert_6_ok F r46 c22_0 c22_1 c22_2 c22_3 c22_4 c22_5 c22_6 c22_7 c22_8 sc22_6 b22 _ _ _ hc22_6 hH h)
  · have h := bif_f hc44 h
    refine Run.no (wantS_not' rfl rfl hc44) rfl ?_
    refine Run.no (wantS_not' rfl rfl hc44) rfl ?_
    refine Run.no (wantS_not' rfl rfl hc44) rfl ?_
    refine Run.opG wantS_none (ex_pickF' rfl hc44 rfl rfl) rfl ?_
    exact Run.pick [1, 43] (ref10_CheckAlert_6_ok F false c22_0 c22_1 c22_2 c22_3 c22_4 c22_5 c22_6 c22_7 c22_8 sc22_6 b22 _ _ _ hc22_6 hH h)

def ref10_CheckAlert_4 (F : Nat) (v32 : Bool) (c22_0 : (List UInt8)) (c22_1 c22_2 c22_3 c22_4 c22_5 : Int) (c22_6 : (List Int)) (c22_7 : Bool) (c22_8 : Int) : Option (Int) :=
  bif v32 then
    bnd (ref00_In F c22_5 (1 : Int) (8 : Int)) fun r42 =>
    ref10_CheckAlert_5 F r42 c22_0 c22_1 c22_2 c22_3 c22_4 c22_5 c22_6 c22_7 c22_8
  else
    ref10_CheckAlert_5 F false c22_0 c22_1 c22_2 c22_3 c22_4 c22_5 c22_6 c22_7 c22_8

theorem ref10_CheckAlert_4_ok (F : Nat) : ∀ (v32 : Bool) (c22_0 : (List UInt8)) (c22_1 c22_2 c22_3 c22_4 c22_5 : Int) (c22_6 : (List Int)) (c22_7 : Bool) (c22_8 : Int) (sc22_6 : SV) (b22 : Pos) (Fr : Rd) (M : Mem) (r : Int) (hc22_6 : Slc Fr 1 (FlatR enc3) sc22_6 c22_6) (hH : Has Fr M [.obj b22 (.row 29 .whole [(.str c22_0), (.int .i64 c22_1), (.int .i64 c22_2), (.int .i64 c22_3), (.int .i64 c22_4), (.int .i64 c22_5), sc22_6, (.bool c22_7), (.int .i64 c22_8)])]), ref10_CheckAlert_4 F v32 c22_0 c22_1 c22_2 c22_3 c22_4 c22_5 c22_6 c22_7 c22_8 = some r → Run Tryd.prog ⟨⟨47, [], none⟩, []⟩ 106 (ref10_CheckAlert_post r) [(1, (.ptr b22 0)), (32, (.bool v32))] [itemC Tryd.prog 47 [1, 0] 28, codeC Tryd.prog 47 [1, 1]] M := by
  intro v32 c22_0 c22_1 c22_2 c22_3 c22_4 c22_5 c22_6 c22_7 c22_8 sc22_6 b22 Fr M r hc22_6 hH h
  rw [ref10_CheckAlert_4] at h
  refine Run.opG wantS_none (ex_move rfl) rfl ?_
  rcases btf (v32) with hc40 | hc40
  · have h := bif_t hc40 h
    refine Run.opG (wantS_yes' rfl rfl hc40) (ex_fieldAddr rfl off29_4) rfl ?_
    refine Run.opG (wantS_yes' rfl rfl hc40) (ex_load1 rfl (hH.cells (i := 0) rfl 5 rfl) rdLe_rfl agg3) rfl ?_
    obtain ⟨r42, hr42, h⟩ := bnd_some h
    refine Run.callP (wantS_yes' rfl rfl hc40) (ex_call rfl mkk39 cal39) rfl (ref00_In_ok F c22_5 (1 : Int) (8 : Int) _ _ hr42) ?_
    refine Run.opG wantS_none (ex_pickT' rfl hc40 rfl rfl) rfl ?_
    exact Run.pick [1, 37] (ref10_CheckAlert_5_ok F r42 c22_0 c22_1 c22_2 c22_3 c22_4 c22_5 c22_6 c22_7 c22_8 sc22_6 b22 _ _ _ hc22_6 hH h)
  · have h := bif_f hc40 h
    refine Run.no (wantS_not' rfl rfl hc40) rfl ?_
    refine Run.no (wantS_not' rfl rfl hc40) rfl ?_
    refine Run.no (wantS_not' rfl rfl hc40) rfl ?_
    refine Run.opG wantS_none (ex_pickF' rfl hc40 rfl rfl) rfl ?_
    exact Run.pick [1, 37] (ref10_CheckAlert_5_ok F false c22_0 c22_1 c22_2 c22_3 c22_4 c22_5 c22_6 c22_7 c22_8 sc22_6 b22 _ _ _ hc22_6 hH h)

def ref10_CheckAlert_3 (F : Nat) (v26 : Bool) (c22_0 : (List UInt8)) (c22_1 c22_2 c22_3 c22_4 c22_5 : Int) (c22_6 : (List Int)) (c22_7 : Bool) (c22_8 : Int) : Option (Int) :=
  bif v26 then
    ref10_CheckAlert_4 F (decide (c22_4 ≤ (256 : Int))) c22_0 c22_1 c22_2 c22_3 c22_4 c22_5 c22_6 c22_7 c22_8
  else
    ref10_CheckAlert_4 F false c22_0 c22_1 c22_2 c22_3 c22_4 c22_5 c22_6 c22_7 c22_8

theorem ref10_CheckAlert_3_ok (F : Nat) : ∀ (v26 : Bool) (c22_0 : (List UInt8)) (c22_1 c22_2 c22_3 c22_4 c22_5 : Int) (c22_6 : (List Int)) (c22_7 : Bool) (c22_8 : Int) (sc22_6 : SV) (b22 : Pos) (Fr : Rd) (M : Mem) (r : Int) (hc22_6 : Slc Fr 1 (FlatR enc3) sc22_6 c22_6) (hH : Has Fr M [.obj b22 (.row 29 .whole [(.str c22_0), (.int .i64 c22_1), (.int .i64 c22_2), (.int .i64 c22_3), (.int .i64 c22_4), (.int .i64 c22_5), sc22_6, (.bool c22_7), (.int .i64 c22_8)])]), ref10_CheckAlert_3 F v26 c22_0 c22_1 c22_2 c22_3 c22_4 c22_5 c22_6 c22_7 c22_8 = some r → Run Tryd.prog ⟨⟨47, [], none⟩, []⟩ 106 (ref10_CheckAlert_post r) [(1, (.ptr b22 0)), (26, (.bool v26))] [itemC Tryd.prog 47 [1, 0] 22, codeC Tryd.prog 47 [1, 1]] M := by
  intro v26 c22_0 c22_1 c22_2 c22_3 c22_4 c22_5 c22_6 c22_7 c22_8 sc22_6 b22 Fr M r hc22_6 hH h
  rw [ref10_CheckAlert_3] at h
  refine Run.opG wantS_none (ex_move rfl) rfl ?_
  rcases btf (v26) with hc39 | hc39
  · have h := bif_t hc39 h
    refine Run.opG (wantS_yes' rfl rfl hc39) (ex_fieldAddr rfl off29_3) rfl ?_
    refine Run.opG (wantS_yes' rfl rfl hc39) (ex_fieldAddr rfl off26_1) rfl ?_
    refine Run.opG (wantS_yes' rfl rfl hc39) (ex_load1 rfl (hH.cells (i := 0) rfl 4 rfl) rdLe_rfl agg3) rfl ?_
    refine Run.opG (wantS_yes' rfl rfl hc39) (ex_leq rfl rfl) rfl ?_
    refine Run.opG wantS_none (ex_pickT' rfl hc39 rfl rfl) rfl ?_
    exact Run.pick [1, 32] (ref10_CheckAlert_4_ok F (decide (c22_4 ≤ (256 : Int))) c22_0 c22_1 c22_2 c22_3 c22_4 c22_5 c22_6 c22_7 c22_8 sc22_6 b22 _ _ _ hc22_6 hH h)
  · have h := bif_f hc39 h
    refine Run.no (wantS_not' rfl rfl hc39) rfl ?_
    refine Run.no (wantS_not' rfl rfl hc39) rfl ?_
    refine Run.no (wantS_not' rfl rfl hc39) rfl ?_
    refine Run.no (wantS_not' rfl rfl hc39) rfl ?_
    refine Run.opG wantS_none (ex_pickF' rfl hc39 rfl rfl) rfl ?_
    exact Run.pick [1, 32] (ref10_CheckAlert_4_ok F false c22_0 c22_1 c22_2 c22_3 c22_4 c22_5 c22_6 c22_7 c22_8 sc22_6 b22 _ _ _ hc22_6 hH h)

def ref10_CheckAlert_2 (F : Nat) (v17 : Bool) (c22_0 : (List UInt8)) (c22_1 c22_2 c22_3 c22_4 c22_5 : Int) (c22_6 : (List Int)) (c22_7 : Bool) (c22_8 : Int) : Option (Int) :=
  bif v17 then
    bnd (ref00_In F c22_3 (1 : Int) c22_4) fun r37 =>
    ref10_CheckAlert_3 F r37 c22_0 c22_1 c22_2 c22_3 c22_4 c22_5 c22_6 c22_7 c22_8
  else
    ref10_CheckAlert_3 F false c22_0 c22_1 c22_2 c22_3 c22_4 c22_5 c22_6 c22_7 c22_8

theorem ref10_CheckAlert_2_ok (F : Nat) : ∀ (v17 : Bool) (c22_0 : (List UInt8)) (c22_1 c22_2 c22_3 c22_4 c22_5 : Int) (c22_6 : (List Int)) (c22_7 : Bool) (c22_8 : Int) (sc22_6 : SV) (b22 : Pos) (Fr : Rd) (M : Mem) (r : Int) (hc22_6 : Slc Fr 1 (FlatR enc3) sc22_6 c22_6) (hH : Has Fr M [.obj b22 (.row 29 .whole [(.str c22_0), (.int .i64 c22_1), (.int .i64 c22_2), (.int .i64 c22_3), (.int .i64 c22_4), (.int .i64 c22_5), sc22_6, (.bool c22_7), (.int .i64 c22_8)])]), ref10_CheckAlert_2 F v17 c22_0 c22_1 c22_2 c22_3 c22_4 c22_5 c22_6 c22_7 c22_8 = some r → Run Tryd.prog ⟨⟨47, [], none⟩, []⟩ 106 (ref10_CheckAlert_post r) [(1, (.ptr b22 0)), (17, (.bool v17))] [itemC Tryd.prog 47 [1, 0] 13, codeC Tryd.prog 47 [1, 1]] M := by
  intro v17 c22_0 c22_1 c22_2 c22_3 c22_4 c22_5 c22_6 c22_7 c22_8 sc22_6 b22 Fr M r hc22_6 hH h
  rw [ref10_CheckAlert_2] at h
  refine Run.opG wantS_none (ex_move rfl) rfl ?_
  rcases btf (v17) with hc35 | hc35
  · have h := bif_t hc35 h
    refine Run.opG (wantS_yes' rfl rfl hc35) (ex_fieldAddr rfl off29_3) rfl ?_
    refine Run.opG (wantS_yes' rfl rfl hc35) (ex_fieldAddr rfl off26_0) rfl ?_
    refine Run.opG (wantS_yes' rfl rfl hc35) (ex_load1 rfl (hH.cells (i := 0) rfl 3 rfl) rdLe_rfl agg3) rfl ?_
    refine Run.opG (wantS_yes' rfl rfl hc35) (ex_fieldAddr rfl off29_3) rfl ?_
    refine Run.opG (wantS_yes' rfl rfl hc35) (ex_fieldAddr rfl off26_1) rfl ?_
    refine Run.opG (wantS_yes' rfl rfl hc35) (ex_load1 rfl (hH.cells (i := 0) rfl 4 rfl) rdLe_rfl agg3) rfl ?_
    obtain ⟨r37, hr37, h⟩ := bnd_some h
    refine Run.callP (wantS_yes' rfl rfl hc35) (ex_call rfl mkk39 cal39) rfl (ref00_In_ok F c22_3 (1 : Int) c22_4 _ _ hr37) ?_
    refine Run.opG wantS_none (ex_pickT' rfl hc35 rfl rfl) rfl ?_
    exact Run.pick [1, 26] (ref10_CheckAlert_3_ok F r37 c22_0 c22_1 c22_2 c22_3 c22_4 c22_5 c22_6 c22_7 c22_8 sc22_6 b22 _ _ _ hc22_6 hH h)
  · have h := bif_f hc35 h
    refine Run.no (wantS_not' rfl rfl hc35) rfl ?_
    refine Run.no (wantS_not' rfl rfl hc35) rfl ?_
    refine Run.no (wantS_not' rfl rfl hc35) rfl ?_
    refine Run.no (wantS_not' rfl rfl hc35) rfl ?_
    refine Run.no (wantS_not' rfl rfl hc35) rfl ?_
    refine Run.no (wantS_not' rfl rfl hc35) rfl ?_
    refine Run.no (wantS_not' rfl rfl hc35) rfl ?_
    refine Run.opG wantS_none (ex_pickF' rfl hc35 rfl rfl) rfl ?_
    exact Run.pick [1, 26] (ref10_CheckAlert_3_ok F false c22_0 c22_1 c22_2 c22_3 c22_4 c22_5 c22_6 c22_7 c22_8 sc22_6 b22 _ _ _ hc22_6 hH h)

def ref10_CheckAlert_1 (F : Nat) (v12 : Bool) (c22_0 : (List UInt8)) (c22_1 c22_2 c22_3 c22_4 c22_5 : Int) (c22_6 : (List Int)) (c22_7 : Bool) (c22_8 : Int) : Option (Int) :=
  bif v12 then
    bnd (ref00_In F c22_2 (0 : Int) (1073741824 : Int)) fun r33 =>
    ref10_CheckAlert_2 F r33 c22_0 c22_1 c22_2 c22_3 c22_4 c22_5 c22_6 c22_7 c22_8
  else
    ref10_CheckAlert_2 F false c22_0 c22_1 c22_2 c22_3 c22_4 c22_5 c22_6 c22_7 c22_8

theorem ref10_CheckAlert_1_ok (F : Nat) : ∀ (v12 : Bool) (c22_0 : (List UInt8)) (c22_1 c22_2 c22_3 c22_4 c22_5 : Int) (c22_6 : (List Int)) (c22_7 : Bool) (c22_8 : Int) (sc22_6 : SV) (b22 : Pos) (Fr : Rd) (M : Mem) (r : Int) (hc22_6 : Slc Fr 1 (FlatR enc3) sc22_6 c22_6) (hH : Has Fr M [.obj b22 (.row 29 .whole [(.str c22_0), (.int .i64 c22_1), (.int .i64 c22_2), (.int .i64 c22_3), (.int .i64 c22_4), (.int .i64 c22_5), sc22_6, (.bool c22_7), (.int .i64 c22_8)])]), ref10_CheckAlert_1 F v12 c22_0 c22_1 c22_2 c22_3 c22_4 c22_5 c22_6 c22_7 c22_8 = some r → Run Tryd.prog ⟨⟨47, [], none⟩, []⟩ 106 (ref10_CheckAlert_post r) [(1, (.ptr b22 0)), (12, (.bool v12))] [itemC Tryd.prog 47 [1, 0] 8, codeC Tryd.prog 47 [1, 1]] M := by
  intro v12 c22_0 c22_1 c22_2 c22_3 c22_4 c22_5 c22_6 c22_7 c22_8 sc22_6 b22 Fr M r hc22_6 hH h
  rw [ref10_CheckAlert_1] at h
  refine Run.opG wantS_none (ex_move rfl) rfl ?_
  rcases btf (v12) with hc31 | hc31
  · have h := bif_t hc31 h
    refine Run.opG (wantS_yes' rfl rfl hc31) (ex_fieldAddr rfl off29_2) rfl ?_
    refine Run.opG (wantS_yes' rfl rfl hc31) (ex_load1 rfl (hH.cells (i := 0) rfl 2 rfl) rdLe_rfl agg3) rfl ?_
    obtain ⟨r33, hr33, h⟩ := bnd_some h
    refine Run.callP (wantS_yes' rfl rfl hc31) (ex_call rfl mkk39 cal39) rfl (ref00_In_ok F c22_2 (0 : Int) (1073741824 : Int) _ _ hr33) ?_
    refine Run.opG wantS_none (ex_pickT' rfl hc31 rfl rfl) rfl ?_
    exact Run.pick [1, 17] (ref10_CheckAlert_2_ok F r33 c22_0 c22_1 c22_2 c22_3 c22_4 c22_5 c22_6 c22_7 c22_8 sc22_6 b22 _ _ _ hc22_6 hH h)
  · have h := bif_f hc31 h
    refine Run.no (wantS_not' rfl rfl hc31) rfl ?_
    refine Run.no (wantS_not' rfl rfl hc31) rfl ?_
    refine Run.no (wantS_not' rfl rfl hc31) rfl ?_
    refine Run.opG wantS_none (ex_pickF' rfl hc31 rfl rfl) rfl ?_
    exact Run.pick [1, 17] (ref10_CheckAlert_2_ok F false c22_0 c22_1 c22_2 c22_3 c22_4 c22_5 c22_6 c22_7 c22_8 sc22_6 b22 _ _ _ hc22_6 hH h)

def ref10_CheckAlert (F : Nat) (a0 : S_api_Alert) : Option (Int) :=
  bnd (ref01_IsName F a0.Event) fun r25 =>
  bif r25 then
    bnd (ref00_In F a0.Version (1 : Int) (1000 : Int)) fun r29 =>
    ref10_CheckAlert_1 F r29 a0.Event a0.Version a0.Time a0.Chance.N a0.Chance.Of a0.Grid a0.Cells a0.Withdrawn a0.Before
  else
    ref10_CheckAlert_1 F false a0.Event a0.Version a0.Time a0.Chance.N a0.Chance.Of a0.Grid a0.Cells a0.Withdrawn a0.Before

theorem ref10_CheckAlert_ok (F : Nat) (a0 : S_api_Alert) (s0 : SV) (r : Int) (M : Mem) (hs0 : Slc (rd M) 1 (FlatR enc3) s0 a0.Cells) (h : ref10_CheckAlert F a0 = some r) : CallsM Tryd.prog 47 [(.agg [(.str a0.Event), (.int .i64 a0.Version), (.int .i64 a0.Time), (.int .i64 a0.Chance.N), (.int .i64 a0.Chance.Of), (.int .i64 a0.Grid), s0, (.bool a0.Withdrawn), (.int .i64 a0.Before)])] M (fun s M' => s = (.int .i64 r) ∧ M' = M) := by
  refine CallsM.plain Tryd.func47 rfl rfl rfl (show Run _ _ _ (ref10_CheckAlert_post r) _ _ _ from ?_)
  rw [ref10_CheckAlert] at h
  replace hs0 := hs0.mono (rdLe_frozen M) (fun _ _ h => h)
  have hH := Has.nil (frozen M)
  refine Run.seq (Run.region ?_)
  refine Run.opX wantS_none rfl (ExG.box rfl rfl hH) ?_
  rintro _ M23 ⟨b22, rfl, hH23⟩
  refine Run.opG wantS_none (ex_assign rfl) rfl ?_
  refine Run.opsEnd (Run.seq (Run.region ?_))
  refine Run.opG wantS_none (ex_fieldAddr rfl off29_0) rfl ?_
  refine Run.opG wantS_none (ex_load1 rfl (hH23.cells (i := 0) rfl 0 rfl) rdLe_rfl agg9) rfl ?_
  obtain ⟨r25, hr25, h⟩ := bnd_some h
  refine Run.callP wantS_none (ex_call rfl mkk76 cal76) rfl (ref01_IsName_ok F a0.Event _ _ hr25) ?_
  refine Run.opG wantS_none (ex_move rfl) rfl ?_
  rcases btf (r25) with hc27 | hc27
  · have h := bif_t hc27 h
    refine Run.opG (wantS_yes' rfl rfl hc27) (ex_fieldAddr rfl off29_1) rfl ?_
    refine Run.opG (wantS_yes' rfl rfl hc27) (ex_load1 rfl (hH23.cells (i := 0) rfl 1 rfl) rdLe_rfl agg3) rfl ?_
    obtain ⟨r29, hr29, h⟩ := bnd_some h
    refine Run.callP (wantS_yes' rfl rfl hc27) (ex_call rfl mkk39 cal39) rfl (ref00_In_ok F a0.Version (1 : Int) (1000 : Int) _ _ hr29) ?_
    refine Run.opG wantS_none (ex_pickT' rfl hc27 rfl rfl) rfl ?_
    exact Run.pick [1, 12] (ref10_CheckAlert_1_ok F r29 a0.Event a0.Version a0.Time a0.Chance.N a0.Chance.Of a0.Grid a0.Cells a0.Withdrawn a0.Before s0 b22 _ _ _ hs0 hH23 h)
  · have h := bif_f hc27 h
    refine Run.no (wantS_not' rfl rfl hc27) rfl ?_
    refine Run.no (wantS_not' rfl rfl hc27) rfl ?_
    refine Run.no (wantS_not' rfl rfl hc27) rfl ?_
    refine Run.opG wantS_none (ex_pickF' rfl hc27 rfl rfl) rfl ?_
    exact Run.pick [1, 12] (ref10_CheckAlert_1_ok F false a0.Event a0.Version a0.Time a0.Chance.N a0.Chance.Of a0.Grid a0.Cells a0.Withdrawn a0.Before s0 b22 _ _ _ hs0 hH23 h)

theorem mkk47 : makeK Tryd.prog 47 = none := by kernel_rfl
theorem cal47 : callable Tryd.prog 47 = true := by kernel_rfl
abbrev ref00_OwnInts_post (r : (List Int)) : SV → Mem → Prop := fun s Me => ∃ q1, s = q1 ∧ Has (fun _ => none) Me [.vec 3 1 r.length q1 (r.flatMap enc3)]

def ref00_OwnInts (F : Nat) (a0 : (List Int)) : Option ((List Int)) :=
  bnd (apd 8 ([] : List Int) a0) fun l24 =>
  some l24

theorem ref00_OwnInts_ok (F : Nat) (a0 : (List Int)) (s0 : SV) (r : (List Int)) (M : Mem) (hs0 : Slc (rd M) 1 (FlatR enc3) s0 a0) (h : ref00_OwnInts F a0 = some r) : CallsM Tryd.prog 24 [s0] M (fun s M' => ∃ q1, s = q1 ∧ New M M' [.vec 3 1 r.length q1 (r.flatMap enc3)]) := by
  refine CallsM.fresh (Q := ref00_OwnInts_post r) Tryd.func24 rfl rfl ?_ (by rintro s Me ⟨q1, rfl, hx⟩ ha hw; exact ⟨_, rfl, New.of rfl hx ha hw⟩)
  rw [ref00_OwnInts] at h
  replace hs0 := hs0.mono (rdLe_frozen M) (fun _ _ h => h)
  have hH := Has.nil (frozen M)
  refine Run.seq (Run.region ?_)
  refine Run.opG wantS_none (ex_assign rfl) rfl ?_
  refine Run.opsEnd (Run.seq (Run.region ?_))
  refine Run.opG wantS_none (ex_assign rfl) rfl ?_
  refine Run.opsEnd (Run.seq (Run.region ?_))
  refine Run.opG wantS_none (ex_move rfl) rfl ?_
  refine Run.opG wantS_none (ex_move rfl) rfl ?_
  obtain ⟨l24, hl24, h⟩ := bnd_some h
  have hH27 : Has (ro (frozen M)) (frozen M) [.vec 3 1 ([] : List Int).length .nils (([] : List Int).flatMap enc3)] := hH.nils 3 1
  refine Run.opX wantS_none rfl (ExG.append rfl rfl hH27 (i := 0) rfl enc3_len rfl enc3_ones appt27_27 rfl (len_slc hs0) (first_slc hs0 (rdLe_roF hH27) enc3_len) hl24) ?_
  rintro s24 M28 (hH28 : Has (ro (frozen M)) M28 [.vec 3 1 l24.length s24 (l24.flatMap enc3)])
  refine Run.opG wantS_none (ex_assign rfl) rfl ?_
  refine Run.opsEnd ?_
  cases h
  exact Run.ret Tryd.func24 rfl (res_tmp rfl res_nil) ⟨_, rfl, (hH28.pick [0] rfl rfl).upF (none_le _)⟩

theorem mkk24 : makeK Tryd.prog 24 = none := by kernel_rfl
theorem cal24 : callable Tryd.prog 24 = true := by kernel_rfl
abbrev ref10_valid_post (r : S_api_Alert × Int) : SV → Mem → Prop := fun s Me => ∃ q1, s = (.tuple [(.agg [(.str r.1.Event), (.int .i64 r.1.Version), (.int .i64 r.1.Time), (.int .i64 r.1.Chance.N), (.int .i64 r.1.Chance.Of), (.int .i64 r.1.Grid), q1, (.bool r.1.Withdrawn), (.int .i64 r.1.Before)]), (.int .i64 r.2)]) ∧ Has (fun _ => none) Me [.vec 3 1 r.1.Cells.length q1 (r.1.Cells.flatMap enc3)]

def ref10_valid (F : Nat) (a0 : S_api_Alert) : Option (S_api_Alert × Int) :=
  bnd (ref10_CheckAlert F a0) fun r28 =>
  bif (!(r28 == (0 : Int))) then
    some ((S_api_Alert.mk [] 0 0 (S_api_Chance.mk 0 0) 0 ([] : List Int) false 0), r28)
  else
    bnd (ref00_OwnInts F a0.Cells) fun r36 =>
    some ((S_api_Alert.mk a0.Event a0.Version a0.Time a0.Chance a0.Grid r36 a0.Withdrawn a0.Before), (0 : Int))

theorem ref10_valid_ok (F : Nat) (a0 : S_api_Alert) (s0 : SV) (r : S_api_Alert × Int) (M : Mem) (hs0 : Slc (rd M) 1 (FlatR enc3) s0 a0.Cells) (h : ref10_valid F a0 = some r) : CallsM Tryd.prog 61 [(.agg [(.str a0.Event), (.int .i64 a0.Version), (.int .i64 a0.Time), (.int .i64 a0.Chance.N), (.int .i64 a0.Chance.Of), (.int .i64 a0.Grid), s0, (.bool a0.Withdrawn), (.int .i64 a0.Before)])] M (fun s M' => ∃ q1, s = (.tuple [(.agg [(.str r.1.Event), (.int .i64 r.1.Version), (.int .i64 r.1.Time), (.int .i64 r.1.Chance.N), (.int .i64 r.1.Chance.Of), (.int .i64 r.1.Grid), q1, (.bool r.1.Withdrawn), (.int .i64 r.1.Before)]), (.int .i64 r.2)]) ∧ New M M' [.vec 3 1 r.1.Cells.length q1 (r.1.Cells.flatMap enc3)]) := by
  refine CallsM.fresh (Q := ref10_valid_post r) Tryd.func61 rfl rfl ?_ (by rintro s Me ⟨q1, rfl, hx⟩ ha hw; exact ⟨_, rfl, New.of rfl hx ha hw⟩)
  rw [ref10_valid] at h
  replace hs0 := hs0.mono (rdLe_frozen M) (fun _ _ h => h)
  have hH := Has.nil (frozen M)
  refine Run.seq (Run.region ?_)
  refine Run.opX wantS_none rfl (ExG.box rfl rfl hH) ?_
  rintro _ M23 ⟨b22, rfl, hH23⟩
  refine Run.opX wantS_none rfl (ExG.new (v := fun b => .ptr b 0) (ex_alloc zer29) hH23) ?_
  rintro _ M26 ⟨b25, rfl, hH26⟩
  refine Run.opG wantS_none (ex_assign rfl) rfl ?_
  refine Run.opsEnd (Run.seq (Run.seq (Run.region ?_)))
  refine Run.opG wantS_none (ex_loadA rfl (hH26.cells (i := 1) rfl 0 rfl) rdLe_rfl agg29 rfl rfl rfl) rfl ?_
  obtain ⟨r28, hr28, h⟩ := bnd_some h
  refine Run.callP wantS_none (ex_call rfl mkk47 cal47) rfl (ref10_CheckAlert_ok F a0 s0 _ _ (hH26.slcF hs0) hr28) ?_
  refine Run.opG wantS_none (ex_assign rfl) rfl ?_
  refine Run.opsEnd (Run.seq (Run.region ?_))
  refine Run.opG wantS_none (ex_move rfl) rfl ?_
  refine Run.opG wantS_none (ex_neq rfl rfl) rfl ?_
  refine Run.opsEnd ?_
  rcases btf ((!(r28 == (0 : Int)))) with hc30 | hc30
  · have h := bif_t hc30 h
    refine Run.condT' rfl hc30 ?_
    refine Run.seq (Run.region ?_)
    refine Run.opG wantS_none (ex_build (r := [(.str []), (.int .i64 0), (.int .i64 0), (.int .i64 0), (.int .i64 0), (.int .i64 0), .nils, (.bool false), (.int .i64 0)]) rfl zer29 pls29 rfl) rfl ?_
    refine Run.opG wantS_none (ex_move rfl) rfl ?_
    refine Run.opX wantS_none rfl (ExG.storeC (c' := [(.str []), (.int .i64 0), (.int .i64 0), (.int .i64 0), (.int .i64 0), (.int .i64 0), .nils, (.bool false), (.int .i64 0)]) rfl rfl rfl hH26 (i := 0) rfl sz29 rfl rfl rfl rfl rfl) ?_
    rintro _ M31 ⟨rfl, (hH31 : Has (ro (frozen M)) M31 [.obj b25 (.row 29 .whole [(.str []), (.int .i64 0), (.int .i64 0), (.int .i64 0), (.int .i64 0), (.int .i64 0), .nils, (.bool false), (.int .i64 0)]), .obj b22 (.row 29 .whole [(.str a0.Event), (.int .i64 a0.Version), (.int .i64 a0.Time), (.int .i64 a0.Chance.N), (.int .i64 a0.Chance.Of), (.int .i64 a0.Grid), s0, (.bool a0.Withdrawn), (.int .i64 a0.Before)])])⟩
    refine Run.opG wantS_none (ex_assign rfl) rfl ?_
    refine Run.opsEnd ?_
    have hH33 : Has (ro (frozen M)) M31 [.vec 3 1 ([] : List Int).length .nils (([] : List Int).flatMap enc3), .obj b25 (.row 29 .whole [(.str []), (.int .i64 0), (.int .i64 0), (.int .i64 0), (.int .i64 0), (.int .i64 0), .nils, (.bool false), (.int .i64 0)]), .obj b22 (.row 29 .whole [(.str a0.Event), (.int .i64 a0.Version), (.int .i64 a0.Time), (.int .i64 a0.Chance.N), (.int .i64 a0.Chance.Of), (.int .i64 a0.Grid), s0, (.bool a0.Withdrawn), (.int .i64 a0.Before)])] := hH31.nils 3 1
    cases h
    exact Run.ret Tryd.func61 rfl (res_cell rfl (x_load (ex_loadA rfl (hH31.cells (i := 0) rfl 0 rfl) rdLe_rfl agg29 rfl rfl rfl)) (res_tmp rfl res_nil)) ⟨_, rfl, (hH33.pick [0] rfl rfl).upF (none_le _)⟩
  · have h := bif_f hc30 h
    refine Run.condF' rfl hc30 ?_
    refine Run.skip (Run.seq (Run.region ?_))
    refine Run.opG wantS_none (ex_fieldAddr rfl off29_5) rfl ?_
    refine Run.opG wantS_none (ex_load1 rfl (hH26.cells (i := 1) rfl 6 rfl) rdLe_rfl agg27) rfl ?_
    obtain ⟨r36, hr36, h⟩ := bnd_some h
    refine Run.callX wantS_none (ex_call rfl mkk24 cal24) rfl (ref00_OwnInts_ok F a0.Cells s0 _ _ (hH26.slcF hs0) hr36) ?_
    rintro s36_0 M38 ⟨_, rfl, hN36⟩
    have hH38 : Has (ro (frozen M)) M38 [.vec 3 1 r36.length s36_0 (r36.flatMap enc3), .obj b25 (.row 29 .whole [(.str []), (.int .i64 0), (.int .i64 0), (.int .i64 0), (.int .i64 0), (.int .i64 0), .nils, (.bool false), (.int .i64 0)]), .obj b22 (.row 29 .whole [(.str a0.Event), (.int .i64 a0.Version), (.int .i64 a0.Time), (.int .i64 a0.Chance.N), (.int .i64 a0.Chance.Of), (.int .i64 a0.Grid), s0, (.bool a0.Withdrawn), (.int .i64 a0.Before)])] := hN36.1 _ _ hH26
    refine Run.opG wantS_none (ex_fieldAddr rfl off29_5) rfl ?_
    refine Run.opX wantS_none rfl (ExG.storeC (c' := [(.str a0.Event), (.int .i64 a0.Version), (.int .i64 a0.Time), (.int .i64 a0.Chance.N), (.int .i64 a0.Chance.Of), (.int .i64 a0.Grid), s36_0, (.bool a0.Withdrawn), (.int .i64 a0.Before)]) rfl rfl (cells_one (vec_one hH38 (i := 0) rfl)) hH38 (i := 2) rfl sz27 rfl rfl rfl (ones_cons (vec_one hH38 (i := 0) rfl) ones_nil) rfl) ?_
    rintro _ M39 ⟨rfl, (hH39 : Has (ro (frozen M)) M39 [.vec 3 1 r36.length s36_0 (r36.flatMap enc3), .obj b25 (.row 29 .whole [(.str []), (.int .i64 0), (.int .i64 0), (.int .i64 0), (.int .i64 0), (.int .i64 0), .nils, (.bool false), (.int .i64 0)]), .obj b22 (.row 29 .whole [(.str a0.Event), (.int .i64 a0.Version), (.int .i64 a0.Time), (.int .i64 a0.Chance.N), (.int .i64 a0.Chance.Of), (.int .i64 a0.Grid), s36_0, (.bool a0.Withdrawn), (.int .i64 a0.Before)])])⟩
    refine Run.opsEnd (Run.seq (Run.region ?_))
    refine Run.opG wantS_none (ex_loadA rfl (hH39.cells (i := 2) rfl 0 rfl) rdLe_rfl agg29 rfl rfl rfl) rfl ?_
    refine Run.opX wantS_none rfl (ExG.storeC (c' := [(.str a0.Event), (.int .i64 a0.Version), (.int .i64 a0.Time), (.int .i64 a0.Chance.N), (.int .i64 a0.Chance.Of), (.int .i64 a0.Grid), s36_0, (.bool a0.Withdrawn), (.int .i64 a0.Before)]) rfl rfl rfl hH39 (i := 1) rfl sz29 rfl rfl rfl (ones_cons rfl (ones_cons rfl (ones_cons rfl (ones_cons rfl (ones_cons rfl (ones_cons rfl (ones_cons (vec_one hH39 (i := 0) rfl) (ones_cons rfl (ones_cons rfl ones_nil))))))))) rfl) ?_
    rintro _ M40 ⟨rfl, (hH40 : Has (ro (frozen M)) M40 [.vec 3 1 r36.length s36_0 (r36.flatMap enc3), .obj b25 (.row 29 .whole [(.str a0.Event), (.int .i64 a0.Version), (.int .i64 a0.Time), (.int .i64 a0.Chance.N), (.int .i64 a0.Chance.Of), (.int .i64 a0.Grid), s36_0, (.bool a0.Withdrawn), (.int .i64 a0.Before)]), .obj b22 (.row 29 .whole [(.str a0.Event), (.int .i64 a0.Version), (.int .i64 a0.Time), (.int .i64 a0.Chance.N), (.int .i64 a0.Chance.Of), (.int .i64 a0.Grid), s36_0, (.bool a0.Withdrawn), (.int .i64 a0.Before)])])⟩
    refine Run.opG wantS_none (ex_assign rfl) rfl ?_
    refine Run.opsEnd ?_
    cases h
    exact Run.ret Tryd.func61 rfl (res_cell rfl (x_load (ex_loadA rfl (hH40.cells (i := 1) rfl 0 rfl) rdLe_rfl agg29 rfl rfl rfl)) (res_tmp rfl res_nil)) ⟨_, rfl, (hH40.pick [0] rfl rfl).upF (none_le _)⟩

theorem mkk61 : makeK Tryd.prog 61 = none := by kernel_rfl
theorem cal61 : callable Tryd.prog 61 = true := by kernel_rfl
abbrev ref10_Draft_post (r : S_api_Alert × Int) : SV → Mem → Prop := fun s Me => ∃ q1, s = (.tuple [(.agg [(.str r.1.Event), (.int .i64 r.1.Version), (.int .i64 r.1.Time), (.int .i64 r.1.Chance.N), (.int .i64 r.1.Chance.Of), (.int .i64 r.1.Grid), q1, (.bool r.1.Withdrawn), (.int .i64 r.1.Before)]), (.int .i64 r.2)]) ∧ Has (fun _ => none) Me [.vec 3 1 r.1.Cells.length q1 (r.1.Cells.flatMap enc3)]

def ref10_Draft (F : Nat) (a0 : (List UInt8)) (a1 : Int) (a2 : S_api_Candidate) (a3 a4 : Int) (a5 : (List Int)) : Option (S_api_Alert × Int) :=
  bif (decide (a3 < a2.Chance.N)) then
    some ((S_api_Alert.mk [] 0 0 (S_api_Chance.mk 0 0) 0 ([] : List Int) false 0), (4 : Int))
  else
    bnd (ref10_valid F (S_api_Alert.mk a0 1 a1 a2.Chance a4 a5 false 0)) fun r33 =>
    some (r33.1, r33.2)

theorem ref10_Draft_ok (F : Nat) (a0 : (List UInt8)) (a1 : Int) (a2 : S_api_Candidate) (a3 a4 : Int) (a5 : (List Int)) (s0 : SV) (r : S_api_Alert × Int) (M : Mem) (hs0 : Slc (rd M) 1 (FlatR enc3) s0 a5) (h : ref10_Draft F a0 a1 a2 a3 a4 a5 = some r) : CallsM Tryd.prog 20 [(.str a0), (.int .i64 a1), (.agg [(.int .i64 a2.Pair.A), (.int .i64 a2.Pair.B), (.int .i64 a2.Pair.Loud), (.int .i64 a2.Chance.N), (.int .i64 a2.Chance.Of)]), (.int .i64 a3), (.int .i64 a4), s0] M (fun s M' => ∃ q1, s = (.tuple [(.agg [(.str r.1.Event), (.int .i64 r.1.Version), (.int .i64 r.1.Time), (.int .i64 r.1.Chance.N), (.int .i64 r.1.Chance.Of), (.int .i64 r.1.Grid), q1, (.bool r.1.Withdrawn), (.int .i64 r.1.Before)]), (.int .i64 r.2)]) ∧ New M M' [.vec 3 1 r.1.Cells.length q1 (r.1.Cells.flatMap enc3)]) := by
  refine CallsM.fresh (Q := ref10_Draft_post r) Tryd.func20 rfl rfl ?_ (by rintro s Me ⟨q1, rfl, hx⟩ ha hw; exact ⟨_, rfl, New.of rfl hx ha hw⟩)
  rw [ref10_Draft] at h
  replace hs0 := hs0.mono (rdLe_frozen M) (fun _ _ h => h)
  have hH := Has.nil (frozen M)
  refine Run.seq (Run.region ?_)
  refine Run.opX wantS_none rfl (ExG.box rfl rfl hH) ?_
  rintro _ M23 ⟨b22, rfl, hH23⟩
  refine Run.opX wantS_none rfl (ExG.new (v := fun b => .ptr b 0) (ex_alloc zer29) hH23) ?_
  rintro _ M26 ⟨b25, rfl, hH26⟩
  refine Run.opG wantS_none (ex_assign rfl) rfl ?_
  refine Run.opsEnd (Run.seq (Run.seq (Run.region ?_)))
  refine Run.opG wantS_none (ex_fieldAddr rfl off53_1) rfl ?_
  refine Run.opG wantS_none (ex_fieldAddr rfl off26_0) rfl ?_
  refine Run.opG wantS_none (ex_load1 rfl (hH26.cells (i := 1) rfl 3 rfl) rdLe_rfl agg3) rfl ?_
  refine Run.opG wantS_none (ex_move rfl) rfl ?_
  refine Run.opG wantS_none (ex_gtr rfl rfl) rfl ?_
  refine Run.opsEnd ?_
  rcases btf ((decide (a3 < a2.Chance.N))) with hc27 | hc27
  · have h := bif_t hc27 h
    refine Run.condT' rfl hc27 ?_
    refine Run.seq (Run.region ?_)
    refine Run.opG wantS_none (ex_build (r := [(.str []), (.int .i64 0), (.int .i64 0), (.int .i64 0), (.int .i64 0), (.int .i64 0), .nils, (.bool false), (.int .i64 0)]) rfl zer29 pls29 rfl) rfl ?_
    refine Run.opX wantS_none rfl (ExG.storeC (c' := [(.str []), (.int .i64 0), (.int .i64 0), (.int .i64 0), (.int .i64 0), (.int .i64 0), .nils, (.bool false), (.int .i64 0)]) rfl rfl rfl hH26 (i := 0) rfl sz29 rfl rfl rfl rfl rfl) ?_
    rintro _ M28 ⟨rfl, (hH28 : Has (ro (frozen M)) M28 [.obj b25 (.row 29 .whole [(.str []), (.int .i64 0), (.int .i64 0), (.int .i64 0), (.int .i64 0), (.int .i64 0), .nils, (.bool false), (.int .i64 0)]), .obj b22 (.row 53 .whole [(.int .i64 a2.Pair.A), (.int .i64 a2.Pair.B), (.int .i64 a2.Pair.Loud), (.int .i64 a2.Chance.N), (.int .i64 a2.Chance.Of)])])⟩
    refine Run.opG wantS_none (ex_assign rfl) rfl ?_
    refine Run.opsEnd ?_
    have hH30 : Has (ro (frozen M)) M28 [.vec 3 1 ([] : List Int).length .nils (([] : List Int).flatMap enc3), .obj b25 (.row 29 .whole [(.str []), (.int .i64 0), (.int .i64 0), (.int .i64 0), (.int .i64 0), (.int .i64 0), .nils, (.bool false), (.int .i64 0)]), .obj b22 (.row 53 .whole [(.int .i64 a2.Pair.A), (.int .i64 a2.Pair.B), (.int .i64 a2.Pair.Loud), (.int .i64 a2.Chance.N), (.int .i64 a2.Chance.Of)])] := hH28.nils 3 1
    cases h
    exact Run.ret Tryd.func20 rfl (res_cell rfl (x_load (ex_loadA rfl (hH28.cells (i := 0) rfl 0 rfl) rdLe_rfl agg29 rfl rfl rfl)) (res_tmp rfl res_nil)) ⟨_, rfl, (hH30.pick [0] rfl rfl).upF (none_le _)⟩
  · have h := bif_f hc27 h
    refine Run.condF' rfl hc27 ?_
    refine Run.skip (Run.seq (Run.region ?_))
    refine Run.opG wantS_none (ex_move rfl) rfl ?_
    refine Run.opG wantS_none (ex_move rfl) rfl ?_
    refine Run.opG wantS_none (ex_fieldAddr rfl off53_1) rfl ?_
    refine Run.opG wantS_none (ex_loadA rfl (hH26.cells (i := 1) rfl 3 rfl) rdLe_rfl agg26 rfl rfl rfl) rfl ?_
    refine Run.opG wantS_none (ex_move rfl) rfl ?_
    refine Run.opG wantS_none (ex_move rfl) rfl ?_
    refine Run.opG wantS_none (ex_build (r := [(.str a0), (.int .i64 1), (.int .i64 a1), (.int .i64 a2.Chance.N), (.int .i64 a2.Chance.Of), (.int .i64 a4), s0, (.bool false), (.int .i64 0)]) rfl zer29 pls29 (by simp only [fillS, cells_one (slc_one hs0)]; rfl)) rfl ?_
    obtain ⟨r33, hr33, h⟩ := bnd_some h
    refine Run.callX wantS_none (ex_call rfl mkk61 cal61) rfl (ref10_valid_ok F (S_api_Alert.mk a0 1 a1 a2.Chance a4 a5 false 0) s0 _ _ (hH26.slcF hs0) hr33) ?_
    rintro _ M35 ⟨s33_0, rfl, hN33⟩
    have hH35 : Has (ro (frozen M)) M35 [.vec 3 1 r33.1.Cells.length s33_0 (r33.1.Cells.flatMap enc3), .obj b25 (.row 29 .whole [(.str []), (.int .i64 0), (.int .i64 0), (.int .i64 0), (.int .i64 0), (.int .i64 0), .nils, (.bool false), (.int .i64 0)]), .obj b22 (.row 53 .whole [(.int .i64 a2.Pair.A), (.int .i64 a2.Pair.B), (.int .i64 a2.Pair.Loud), (.int .i64 a2.Chance.N), (.int .i64 a2.Chance.Of)])] := hN33.1 _ _ hH26
    refine Run.opG wantS_none (ex_extract rfl rfl) rfl ?_
    refine Run.opG wantS_none (ex_extract rfl rfl) rfl ?_
    refine Run.opX wantS_none rfl (ExG.storeC (c' := [(.str r33.1.Event), (.int .i64 r33.1.Version), (.int .i64 r33.1.Time), (.int .i64 r33.1.Chance.N), (.int .i64 r33.1.Chance.Of), (.int .i64 r33.1.Grid), s33_0, (.bool r33.1.Withdrawn), (.int .i64 r33.1.Before)]) rfl rfl rfl hH35 (i := 1) rfl sz29 rfl rfl rfl (ones_cons rfl (ones_cons rfl (ones_cons rfl (ones_cons rfl (ones_cons rfl (ones_cons rfl (ones_cons (vec_one hH35 (i := 0) rfl) (ones_cons rfl (ones_cons rfl ones_nil))))))))) rfl) ?_
    rintro _ M36 ⟨rfl, (hH36 : Has (ro (frozen M)) M36 [.vec 3 1 r33.1.Cells.length s33_0 (r33.1.Cells.flatMap enc3), .obj b25 (.row 29 .whole [(.str r33.1.Event), (.int .i64 r33.1.Version), (.int .i64 r33.1.Time), (.int .i64 r33.1.Chance.N), (.int .i64 r33.1.Chance.Of), (.int .i64 r33.1.Grid), s33_0, (.bool r33.1.Withdrawn), (.int .i64 r33.1.Before)]), .obj b22 (.row 53 .whole [(.int .i64 a2.Pair.A), (.int .i64 a2.Pair.B), (.int .i64 a2.Pair.Loud), (.int .i64 a2.Chance.N), (.int .i64 a2.Chance.Of)])])⟩
    refine Run.opG wantS_none (ex_assign rfl) rfl ?_
    refine Run.opsEnd ?_
    cases h
    exact Run.ret Tryd.func20 rfl (res_cell rfl (x_load (ex_loadA rfl (hH36.cells (i := 1) rfl 0 rfl) rdLe_rfl agg29 rfl rfl rfl)) (res_tmp rfl res_nil)) ⟨_, rfl, (hH36.pick [0] rfl rfl).upF (none_le _)⟩

theorem mkk20 : makeK Tryd.prog 20 = none := by kernel_rfl
theorem cal20 : callable Tryd.prog 20 = true := by kernel_rfl
theorem agk3 : aggK Tryd.prog 3 = some .int := by kernel_rfl
theorem agk26 : aggK Tryd.prog 26 = some (.st [⟨ "N", 3, 0, false, "", "", 0⟩, ⟨ "Of", 3, 1, false, "", "", 8⟩]) := by kernel_rfl
theorem aeq26 : aggEq Tryd.prog 26 = false := by kernel_rfl
theorem plan27_1_1_0_1_0_0_1_0_0_0 : planOf Tryd.prog (opsC (atC Tryd.prog 27 [1, 1, 0, 1, 0, 0, 1, 0, 0, 0])) = some [.fl 0, .fl 1, .fl 2, .fl 3, .fl 4, .fl 5, .fl 6, .fl 7, .fl 8, .sync] := by kernel_rfl
abbrev ref00_SameInts_post (r : Bool) : SV → Mem → Prop := fun s _ => s = (.bool r)

def ref00_SameInts_1 (F : Nat) : Nat → (List Int) → (List Int) → Int → Option (Bool)
  | 0, _, _, _ => none
  | N + 1, v0, v1, v5 =>
    bif (decide (v5 < (v0.length : Int))) then
      bnd (idx v0 v5) fun x23 =>
      bnd (idx v1 v5) fun x24 =>
      bif (!(x23 == x24)) then
        some false
      else
        (ref00_SameInts_1 F N) v0 v1 (w64 (v5 + (1 : Int)))
    else
      some true

theorem ref00_SameInts_1_ok (F : Nat) : ∀ (N : Nat), ∀ (v0 v1 : (List Int)) (v5 : Int) (sv0 sv1 : SV) (Fr : Rd) (M : Mem) (r : Bool) (hv0 : Slc Fr 1 (FlatR enc3) sv0 v0) (hv1 : Slc Fr 1 (FlatR enc3) sv1 v1) (hH : Has Fr M []), ref00_SameInts_1 F N v0 v1 v5 = some r → Run Tryd.prog ⟨⟨27, [], none⟩, []⟩ 26 (ref00_SameInts_post r) [(0, sv0), (1, sv1), (5, (.int .i64 v5))] [codeC Tryd.prog 27 [1, 1, 0, 1, 0, 0], loopC Tryd.prog 27 [1, 1, 0, 1, 0, 0], .inBlock 0, codeC Tryd.prog 27 [1, 1, 1]] M := by
  intro N
  induction N with
  | zero =>
    intro v0 v1 v5 sv0 sv1 Fr M r hv0 hv1 hH h
    simp [ref00_SameInts_1] at h
  | succ N ih =>
    intro v0 v1 v5 sv0 sv1 Fr M r hv0 hv1 hH h
    rw [ref00_SameInts_1] at h
    refine Run.seq (Run.seq (Run.region ?_))
    refine Run.opG wantS_none (ex_move rfl) rfl ?_
    refine Run.opG wantS_none (ex_move rfl) rfl ?_
    refine Run.opG wantS_none (ex_len' rfl hv0 lenk27) rfl ?_
    refine Run.opG wantS_none (ex_lss rfl rfl) rfl ?_
    refine Run.opsEnd ?_
    rcases btf ((decide (v5 < (v0.length : Int)))) with hc22 | hc22
    · have h := bif_t hc22 h
      refine Run.condT' rfl hc22 ?_
      refine Run.skip (Run.seq (Run.block (Run.seq ?_)))
      refine Run.drawG plan27_1_1_0_1_0_0_1_0_0_0 ?_
      refine DrawG.fl rfl (ev_ex wantS_none (ex_move rfl)) rfl ?_
      refine DrawG.fl rfl (ev_ex wantS_none (ex_move rfl)) rfl ?_
      obtain ⟨x23, hx23, h⟩ := bnd_some h
      obtain ⟨p23, o23, _, hx23, hp23, rfl⟩ := sl_elem (P := Tryd.prog) (t := 27) (kk := .i64) hv0 hx23 els27
      refine DrawG.fl rfl (ev_ex wantS_none (ex_elX rfl rfl hx23)) rfl ?_
      refine DrawG.fl rfl (ev_ex wantS_none (ex_load1 rfl (hH.ptrF hp23) rdLe_rfl agg3)) rfl ?_
      refine DrawG.fl rfl (ev_ex wantS_none (ex_move rfl)) rfl ?_
      refine DrawG.fl rfl (ev_ex wantS_none (ex_move rfl)) rfl ?_
      obtain ⟨x24, hx24, h⟩ := bnd_some h
      obtain ⟨p24, o24, _, hx24, hp24, rfl⟩ := sl_elem (P := Tryd.prog) (t := 27) (kk := .i64) hv1 hx24 els27
      refine DrawG.fl rfl (ev_ex wantS_none (ex_elX rfl rfl hx24)) rfl ?_
      refine DrawG.fl rfl (ev_ex wantS_none (ex_load1 rfl (hH.ptrF hp24) rdLe_rfl agg3)) rfl ?_
      refine DrawG.fl rfl (ev_ex wantS_none (ex_neq rfl rfl)) rfl ?_
      refine DrawG.sync ?_
      refine DrawG.nil ?_
      rcases btf ((!(x23 == x24))) with hc25 | hc25
      · have h := bif_t hc25 h
        refine Run.condT' rfl hc25 ?_
        refine Run.seq (Run.region ?_)
        refine Run.opG wantS_none (ex_assign rfl) rfl ?_
        refine Run.opsEnd ?_
        cases h
        exact Run.ret Tryd.func27 rfl (res_tmp rfl res_nil) rfl
      · have h := bif_f hc25 h
        refine Run.condF' rfl hc25 ?_
        refine Run.skip (Run.inBlock (Run.region ?_))
        refine Run.opG wantS_none (ex_move rfl) rfl ?_
        refine Run.opG wantS_none (ex_add rfl rfl) rfl ?_
        refine Run.opG wantS_none (ex_assign rfl) rfl ?_
        refine Run.opsEnd (Run.inLoop ?_)
        exact Run.pick [0, 1, 5] (ih v0 v1 (w64 (v5 + (1 : Int))) sv0 sv1 _ _ _ hv0 hv1 hH h)
    · have h := bif_f hc22 h
      refine Run.condF' rfl hc22 ?_
      refine Run.exit rfl (Run.seq (Run.region ?_))
      refine Run.opG wantS_none (ex_assign rfl) rfl ?_
      refine Run.opsEnd ?_
      cases h
      exact Run.ret Tryd.func27 rfl (res_tmp rfl res_nil) rfl

def ref00_SameInts (F : Nat) (a0 a1 : (List Int)) : Option (Bool) :=
  bif (!((a0.length : Int) == (a1.length : Int))) then
    some false
  else
    ref00_SameInts_1 F F a0 a1 (0 : Int)

theorem ref00_SameInts_ok (F : Nat) (a0 a1 : (List Int)) (s0 s1 : SV) (r : Bool) (M : Mem) (hs0 : Slc (rd M) 1 (FlatR enc3) s0 a0) (hs1 : Slc (rd M) 1 (FlatR enc3) s1 a1) (h : ref00_SameInts F a0 a1 = some r) : CallsM Tryd.prog 27 [s0, s1] M (fun s M' => s = (.bool r) ∧ M' = M) := by
  refine CallsM.plain Tryd.func27 rfl rfl rfl (show Run _ _ _ (ref00_SameInts_post r) _ _ _ from ?_)
  rw [ref00_SameInts] at h
  replace hs0 := hs0.mono (rdLe_frozen M) (fun _ _ h => h)
  replace hs1 := hs1.mono (rdLe_frozen M) (fun _ _ h => h)
  have hH := Has.nil (frozen M)
  refine Run.seq (Run.region ?_)
  refine Run.opG wantS_none (ex_assign rfl) rfl ?_
  refine Run.opsEnd (Run.seq (Run.seq (Run.region ?_)))
  refine Run.opG wantS_none (ex_move rfl) rfl ?_
  refine Run.opG wantS_none (ex_len' rfl hs0 lenk27) rfl ?_
  refine Run.opG wantS_none (ex_move rfl) rfl ?_
  refine Run.opG wantS_none (ex_len' rfl hs1 lenk27) rfl ?_
  refine Run.opG wantS_none (ex_neq rfl rfl) rfl ?_
  refine Run.opsEnd ?_
  rcases btf ((!((a0.length : Int) == (a1.length : Int)))) with hc21 | hc21
  · have h := bif_t hc21 h
    refine Run.condT' rfl hc21 ?_
    refine Run.seq (Run.region ?_)
    refine Run.opG wantS_none (ex_assign rfl) rfl ?_
    refine Run.opsEnd ?_
    cases h
    exact Run.ret Tryd.func27 rfl (res_tmp rfl res_nil) rfl
  · have h := bif_f hc21 h
    refine Run.condF' rfl hc21 ?_
    refine Run.skip (Run.seq (Run.seq (Run.region ?_)))
    refine Run.opG wantS_none (ex_assign rfl) rfl ?_
    refine Run.opsEnd (Run.block (Run.loop ?_))
    exact Run.pick [0, 1, 5] (ref00_SameInts_1_ok F F a0 a1 (0 : Int) s0 s1 _ _ _ hs0 hs1 hH h)

theorem mkk27 : makeK Tryd.prog 27 = none := by kernel_rfl
theorem cal27 : callable Tryd.prog 27 = true := by kernel_rfl
abbrev ref10_Same_post (r : Bool) : SV → Mem → Prop := fun s _ => s = (.bool r)

def ref10_Same_7 (F : Nat) (v58 : Bool) : Option (Bool) :=
  some v58

theorem ref10_Same_7_ok (F : Nat) : ∀ (v58 : Bool) (Fr : Rd) (M : Mem) (r : Bool) (hH : Has Fr M []), ref10_Same_7 F v58 = some r → Run Tryd.prog ⟨⟨62, [], none⟩, []⟩ 59 (ref10_Same_post r) [(58, (.bool v58))] [itemC Tryd.prog 62 [1, 0] 54, codeC Tryd.prog 62 [1, 1]] M := by
  intro v58 Fr M r hH h
  rw [ref10_Same_7] at h
  refine Run.opG wantS_none (ex_assign rfl) rfl ?_
  refine Run.opsEnd ?_
  cases h
  exact Run.ret Tryd.func62 rfl (res_tmp rfl res_nil) rfl

def ref10_Same_6 (F : Nat) (v51 : Bool) (c22_0 : (List UInt8)) (c22_1 c22_2 c22_3 c22_4 c22_5 : Int) (c22_6 : (List Int)) (c22_7 : Bool) (c22_8 : Int) (c25_0 : (List UInt8)) (c25_1 c25_2 c25_3 c25_4 c25_5 : Int) (c25_6 : (List Int)) (c25_7 : Bool) (c25_8 : Int) : Option (Bool) :=
  bif v51 then
    ref10_Same_7 F (c22_8 == c25_8)
  else
    ref10_Same_7 F false

theorem ref10_Same_6_ok (F : Nat) : ∀ (v51 : Bool) (c22_0 : (List UInt8)) (c22_1 c22_2 c22_3 c22_4 c22_5 : Int) (c22_6 : (List Int)) (c22_7 : Bool) (c22_8 : Int) (c25_0 : (List UInt8)) (c25_1 c25_2 c25_3 c25_4 c25_5 : Int) (c25_6 : (List Int)) (c25_7 : Bool) (c25_8 : Int) (sc22_6 sc25_6 : SV) (b22 b25 : Pos) (Fr : Rd) (M : Mem) (r : Bool) (hc22_6 : Slc Fr 1 (FlatR enc3) sc22_6 c22_6) (hc25_6 : Slc Fr 1 (FlatR enc3) sc25_6 c25_6) (hH : Has Fr M [.obj b22 (.row 29 .whole [(.str c22_0), (.int .i64 c22_1), (.int .i64 c22_2), (.int .i64 c22_3), (.int .i64 c22_4), (.int .i64 c22_5), sc22_6, (.bool c22_7), (.int .i64 c22_8)]), .obj b25 (.row 29 .whole [(.str c25_0), (.int .i64 c25_1), (.int .i64 c25_2), (.int .i64 c25_3), (.int .i64 c25_4), (.int .i64 c25_5), sc25_6, (.bool c25_7), (.int .i64 c25_8)])]), ref10_Same_6 F v51 c22_0 c22_1 c22_2 c22_3 c22_4 c22_5 c22_6 c22_7 c22_8 c25_0 c25_1 c25_2 c25_3 c25_4 c25_5 c25_6 c25_7 c25_8 = some r → Run Tryd.prog ⟨⟨62, [], none⟩, []⟩ 59 (ref10_Same_post r) [(2, (.ptr b22 0)), (3, (.ptr b25 0)), (51, (.bool v51))] [itemC Tryd.prog 62 [1, 0] 47, codeC Tryd.prog 62 [1, 1]] M := by
  intro v51 c22_0 c22_1 c22_2 c22_3 c22_4 c22_5 c22_6 c22_7 c22_8 c25_0 c25_1 c25_2 c25_3 c25_4 c25_5 c25_6 c25_7 c25_8 sc22_6 sc25_6 b22 b25 Fr M r hc22_6 hc25_6 hH h
  rw [ref10_Same_6] at h
  refine Run.opG wantS_none (ex_move rfl) rfl ?_
  rcases btf (v51) with hc36 | hc36
  · have h := bif_t hc36 h
    refine Run.opG (wantS_yes' rfl rfl hc36) (ex_fieldAddr rfl off29_7) rfl ?_
    refine Run.opG (wantS_yes' rfl rfl hc36) (ex_load1 rfl (hH.cells (i := 0) rfl 8 rfl) rdLe_rfl agg3) rfl ?_
    refine Run.opG (wantS_yes' rfl rfl hc36) (ex_fieldAddr rfl off29_7) rfl ?_
    refine Run.opG (wantS_yes' rfl rfl hc36) (ex_load1 rfl (hH.cells (i := 1) rfl 8 rfl) rdLe_rfl agg3) rfl ?_
    refine Run.opG (wantS_yes' rfl rfl hc36) (ex_eql rfl rfl) rfl ?_
    refine Run.opG wantS_none (ex_pickT' rfl hc36 rfl rfl) rfl ?_
    exact Run.pick [58] (ref10_Same_7_ok F (c22_8 == c25_8) _ _ _ (hH.pick [] rfl rfl) h)
  · have h := bif_f hc36 h
    refine Run.no (wantS_not' rfl rfl hc36) rfl ?_
    refine Run.no (wantS_not' rfl rfl hc36) rfl ?_
    refine Run.no (wantS_not' rfl rfl hc36) rfl ?_
    refine Run.no (wantS_not' rfl rfl hc36) rfl ?_
    refine Run.no (wantS_not' rfl rfl hc36) rfl ?_
    refine Run.opG wantS_none (ex_pickF' rfl hc36 rfl rfl) rfl ?_
    exact Run.pick [58] (ref10_Same_7_ok F false _ _ _ (hH.pick [] rfl rfl) h)

def ref10_Same_5 (F : Nat) (v44 : Bool) (c22_0 : (List UInt8)) (c22_1 c22_2 c22_3 c22_4 c22_5 : Int) (c22_6 : (List Int)) (c22_7 : Bool) (c22_8 : Int) (c25_0 : (List UInt8)) (c25_1 c25_2 c25_3 c25_4 c25_5 : Int) (c25_6 : (List Int)) (c25_7 : Bool) (c25_8 : Int) : Option (Bool) :=
  bif v44 then
    ref10_Same_6 F (c22_7 == c25_7) c22_0 c22_1 c22_2 c22_3 c22_4 c22_5 c22_6 c22_7 c22_8 c25_0 c25_1 c25_2 c25_3 c25_4 c25_5 c25_6 c25_7 c25_8
  else
    ref10_Same_6 F false c22_0 c22_1 c22_2 c22_3 c22_4 c22_5 c22_6 c22_7 c22_8 c25_0 c25_1 c25_2 c25_3 c25_4 c25_5 c25_6 c25_7 c25_8

theorem ref10_Same_5_ok (F : Nat) : ∀ (v44 : Bool) (c22_0 : (List UInt8)) (c22_1 c22_2 c22_3 c22_4 c22_5 : Int) (c22_6 : (List Int)) (c22_7 : Bool) (c22_8 : Int) (c25_0 : (List UInt8)) (c25_1 c25_2 c25_3 c25_4 c25_5 : Int) (c25_6 : (List Int)) (c25_7 : Bool) (c25_8 : Int) (sc22_6 sc25_6 : SV) (b22 b25 : Pos) (Fr : Rd) (M : Mem) (r : Bool) (hc22_6 : Slc Fr 1 (FlatR enc3) sc22_6 c22_6) (hc25_6 : Slc Fr 1 (FlatR enc3) sc25_6 c25_6) (hH : Has Fr M [.obj b22 (.row 29 .whole [(.str c22_0), (.int .i64 c22_1), (.int .i64 c22_2), (.int .i64 c22_3), (.int .i64 c22_4), (.int .i64 c22_5), sc22_6, (.bool c22_7), (.int .i64 c22_8)]), .obj b25 (.row 29 .whole [(.str c25_0), (.int .i64 c25_1), (.int .i64 c25_2), (.int .i64 c25_3), (.int .i64 c25_4), (.int .i64 c25_5), sc25_6, (.bool c25_7), (.int .i64 c25_8)])]), ref10_Same_5 F v44 c22_0 c22_1 c22_2 c22_3 c22_4 c22_5 c22_6 c22_7 c22_8 c25_0 c25_1 c25_2 c25_3 c25_4 c25_5 c25_6 c25_7 c25_8 = some r → Run Tryd.prog ⟨⟨62, [], none⟩, []⟩ 59 (ref10_Same_post r) [(2, (.ptr b22 0)), (3, (.ptr b25 0)), (44, (.bool v44))] [itemC Tryd.prog 62 [1, 0] 40, codeC Tryd.prog 62 [1, 1]] M := by
  intro v44 c22_0 c22_1 c22_2 c22_3 c22_4 c22_5 c22_6 c22_7 c22_8 c25_0 c25_1 c25_2 c25_3 c25_4 c25_5 c25_6 c25_7 c25_8 sc22_6 sc25_6 b22 b25 Fr M r hc22_6 hc25_6 hH h
  rw [ref10_Same_5] at h
  refine Run.opG wantS_none (ex_move rfl) rfl ?_
  rcases btf (v44) with hc35 | hc35
  · have h := bif_t hc35 h
    refine Run.opG (wantS_yes' rfl rfl hc35) (ex_fieldAddr rfl off29_6) rfl ?_
    refine Run.opG (wantS_yes' rfl rfl hc35) (ex_load1 rfl (hH.cells (i := 0) rfl 7 rfl) rdLe_rfl agg4) rfl ?_
    refine Run.opG (wantS_yes' rfl rfl hc35) (ex_fieldAddr rfl off29_6) rfl ?_
    refine Run.opG (wantS_yes' rfl rfl hc35) (ex_load1 rfl (hH.cells (i := 1) rfl 7 rfl) rdLe_rfl agg4) rfl ?_
    refine Run.opG (wantS_yes' rfl rfl hc35) (ex_eqlB rfl rfl eqk4) rfl ?_
    refine Run.opG wantS_none (ex_pickT' rfl hc35 rfl rfl) rfl ?_
    exact Run.pick [2, 3, 51] (ref10_Same_6_ok F (c22_7 == c25_7) c22_0 c22_1 c22_2 c22_3 c22_4 c22_5 c22_6 c22_7 c22_8 c25_0 c25_1 c25_2 c25_3 c25_4 c25_5 c25_6 c25_7 c25_8 sc22_6 sc25_6 b22 b25 _ _ _ hc22_6 hc25_6 hH h)
  · have h := bif_f hc35 h
    refine Run.no (wantS_not' rfl rfl hc35) rfl ?_
    refine Run.no (wantS_not' rfl rfl hc35) rfl ?_
    refine Run.no (wantS_not' rfl rfl hc35) rfl ?_
    refine Run.no (wantS_not' rfl rfl hc35) rfl ?_
    refine Run.no (wantS_not' rfl rfl hc35) rfl ?_
    refine Run.opG wantS_none (ex_pickF' rfl hc35 rfl rfl) rfl ?_
    exact Run.pick [2, 3, 51] (ref10_Same_6_ok F false c22_0 c22_1 c22_2 c22_3 c22_4 c22_5 c22_6 c22_7 c22_8 c25_0 c25_1 c25_2 c25_3 c25_4 c25_5 c25_6 c25_7 c25_8 sc22_6 sc25_6 b22 b25 _ _ _ hc22_6 hc25_6 hH h)

def ref10_Same_4 (F : Nat) (v37 : Bool) (c22_0 : (List UInt8)) (c22_1 c22_2 c22_3 c22_4 c22_5 : Int) (c22_6 : (List Int)) (c22_7 : Bool) (c22_8 : Int) (c25_0 : (List UInt8)) (c25_1 c25_2 c25_3 c25_4 c25_5 : Int) (c25_6 : (List Int)) (c25_7 : Bool) (c25_8 : Int) : Option (Bool) :=
  bif v37 then
    bnd (ref00_SameInts F c22_6 c25_6) fun r33 =>
    ref10_Same_5 F r33 c22_0 c22_1 c22_2 c22_3 c22_4 c22_5 c22_6 c22_7 c22_8 c25_0 c25_1 c25_2 c25_3 c25_4 c25_5 c25_6 c25_7 c25_8
  else
    ref10_Same_5 F false c22_0 c22_1 c22_2 c22_3 c22_4 c22_5 c22_6 c22_7 c22_8 c25_0 c25_1 c25_2 c25_3 c25_4 c25_5 c25_6 c25_7 c25_8

theorem ref10_Same_4_ok (F : Nat) : ∀ (v37 : Bool) (c22_0 : (List UInt8)) (c22_1 c22_2 c22_3 c22_4 c22_5 : Int) (c22_6 : (List Int)) (c22_7 : Bool) (c22_8 : Int) (c25_0 : (List UInt8)) (c25_1 c25_2 c25_3 c25_4 c25_5 : Int) (c25_6 : (List Int)) (c25_7 : Bool) (c25_8 : Int) (sc22_6 sc25_6 : SV) (b22 b25 : Pos) (Fr : Rd) (M : Mem) (r : Bool) (hc22_6 : Slc Fr 1 (FlatR enc3) sc22_6 c22_6) (hc25_6 : Slc Fr 1 (FlatR enc3) sc25_6 c25_6) (hH : Has Fr M [.obj b22 (.row 29 .whole [(.str c22_0), (.int .i64 c22_1), (.int .i64 c22_2), (.int .i64 c22_3), (.int .i64 c22_4), (.int .i64 c22_5), sc22_6, (.bool c22_7), (.int .i64 c22_8)]), .obj b25 (.row 29 .whole [(.str c25_0), (.int .i64 c25_1), (.int .i64 c25_2), (.int .i64 c25_3), (.int .i64 c25_4), (.int .i64 c25_5), sc25_6, (.bool c25_7), (.int .i64 c25_8)])]), ref10_Same_4 F v37 c22_0 c22_1 c22_2 c22_3 c22_4 c22_5 c22_6 c22_7 c22_8 c25_0 c25_1 c25_2 c25_3 c25_4 c25_5 c25_6 c25_7 c25_8 = some r → Run Tryd.prog ⟨⟨62, [], none⟩, []⟩ 59 (ref10_Same_post r) [(2, (.ptr b22 0)), (3, (.ptr b25 0)), (37, (.bool v37))] [itemC Tryd.prog 62 [1, 0] 33, codeC Tryd.prog 62 [1, 1]] M := by
  intro v37 c22_0 c22_1 c22_2 c22_3 c22_4 c22_5 c22_6 c22_7 c22_8 c25_0 c25_1 c25_2 c25_3 c25_4 c25_5 c25_6 c25_7 c25_8 sc22_6 sc25_6 b22 b25 Fr M r hc22_6 hc25_6 hH h
  rw [ref10_Same_4] at h
  refine Run.opG wantS_none (ex_move rfl) rfl ?_
  rcases btf (v37) with hc31 | hc31
  · have h := bif_t hc31 h
    refine Run.opG (wantS_yes' rfl rfl hc31) (ex_fieldAddr rfl off29_5) rfl ?_
    refine Run.opG (wantS_yes' rfl rfl hc31) (ex_load1 rfl (hH.cells (i := 0) rfl 6 rfl) rdLe_rfl agg27) rfl ?_
    refine Run.opG (wantS_yes' rfl rfl hc31) (ex_fieldAddr rfl off29_5) rfl ?_
    refine Run.opG (wantS_yes' rfl rfl hc31) (ex_load1 rfl (hH.cells (i := 1) rfl 6 rfl) rdLe_rfl agg27) rfl ?_
    obtain ⟨r33, hr33, h⟩ := bnd_some h
    refine Run.callP (wantS_yes' rfl rfl hc31) (ex_call rfl mkk27 cal27) rfl (ref00_SameInts_ok F c22_6 c25_6 sc22_6 sc25_6 _ _ (hH.slcF hc22_6) (hH.slcF hc25_6) hr33) ?_
    refine Run.opG wantS_none (ex_pickT' rfl hc31 rfl rfl) rfl ?_
    exact Run.pick [2, 3, 44] (ref10_Same_5_ok F r33 c22_0 c22_1 c22_2 c22_3 c22_4 c22_5 c22_6 c22_7 c22_8 c25_0 c25_1 c25_2 c25_3 c25_4 c25_5 c25_6 c25_7 c25_8 sc22_6 sc25_6 b22 b25 _ _ _ hc22_6 hc25_6 hH h)
  · have h := bif_f hc31 h
    refine Run.no (wantS_not' rfl rfl hc31) rfl ?_
    refine Run.no (wantS_not' rfl rfl hc31) rfl ?_
    refine Run.no (wantS_not' rfl rfl hc31) rfl ?_
    refine Run.no (wantS_not' rfl rfl hc31) rfl ?_
    refine Run.no (wantS_not' rfl rfl hc31) rfl ?_
    refine Run.opG wantS_none (ex_pickF' rfl hc31 rfl rfl) rfl ?_
    exact Run.pick [2, 3, 44] (ref10_Same_5_ok F false c22_0 c22_1 c22_2 c22_3 c22_4 c22_5 c22_6 c22_7 c22_8 c25_0 c25_1 c25_2 c25_3 c25_4 c25_5 c25_6 c25_7 c25_8 sc22_6 sc25_6 b22 b25 _ _ _ hc22_6 hc25_6 hH h)

def ref10_Same_3 (F : Nat) (v30 : Bool) (c22_0 : (List UInt8)) (c22_1 c22_2 c22_3 c22_4 c22_5 : Int) (c22_6 : (List Int)) (c22_7 : Bool) (c22_8 : Int) (c25_0 : (List UInt8)) (c25_1 c25_2 c25_3 c25_4 c25_5 : Int) (c25_6 : (List Int)) (c25_7 : Bool) (c25_8 : Int) : Option (Bool) :=
  bif v30 then
    ref10_Same_4 F (c22_5 == c25_5) c22_0 c22_1 c22_2 c22_3 c22_4 c22_5 c22_6 c22_7 c22_8 c25_0 c25_1 c25_2 c25_3 c25_4 c25_5 c25_6 c25_7 c25_8
  else
    ref10_Same_4 F false c22_0 c22_1 c22_2 c22_3 c22_4 c22_5 c22_6 c22_7 c22_8 c25_0 c25_1 c25_2 c25_3 c25_4 c25_5 c25_6 c25_7 c25_8

theorem ref10_Same_3_ok (F : Nat) : ∀ (v30 : Bool) (c22_0 : (List UInt8)) (c22_1 c22_2 c22_3 c22_4 c22_5 : Int) (c22_6 : (List Int)) (c22_7 : Bool) (c22_8 : Int) (c25_0 : (List UInt8)) (c25_1 c25_2 c25_3 c25_4 c25_5 : Int) (c25_6 : (List Int)) (c25_7 : Bool) (c25_8 : Int) (sc22_6 sc25_6 : SV) (b22 b25 : Pos) (Fr : Rd) (M : Mem) (r : Bool) (hc22_6 : Slc Fr 1 (FlatR enc3) sc22_6 c22_6) (hc25_6 : Slc Fr 1 (FlatR enc3) sc25_6 c25_6) (hH : Has Fr M [.obj b22 (.row 29 .whole [(.str c22_0), (.int .i64 c22_1), (.int .i64 c22_2), (.int .i64 c22_3), (.int .i64 c22_4), (.int .i64 c22_5), sc22_6, (.bool c22_7), (.int .i64 c22_8)]), .obj b25 (.row 29 .whole [(.str c25_0), (.int .i64 c25_1), (.int .i64 c25_2), (.int .i64 c25_3), (.int .i64 c25_4), (.int .i64 c25_5), sc25_6, (.bool c25_7), (.int .i64 c25_8)])]), ref10_Same_3 F v30 c22_0 c22_1 c22_2 c22_3 c22_4 c22_5 c22_6 c22_7 c22_8 c25_0 c25_1 c25_2 c25_3 c25_4 c25_5 c25_6 c25_7 c25_8 = some r → Run Tryd.prog ⟨⟨62, [], none⟩, []⟩ 59 (ref10_Same_post r) [(2, (.ptr b22 0)), (3, (.ptr b25 0)), (30, (.bool v30))] [itemC Tryd.prog 62 [1, 0] 26, codeC Tryd.prog 62 [1, 1]] M := by
  intro v30 c22_0 c22_1 c22_2 c22_3 c22_4 c22_5 c22_6 c22_7 c22_8 c25_0 c25_1 c25_2 c25_3 c25_4 c25_5 c25_6 c25_7 c25_8 sc22_6 sc25_6 b22 b25 Fr M r hc22_6 hc25_6 hH h
  rw [ref10_Same_3] at h
  refine Run.opG wantS_none (ex_move rfl) rfl ?_
  rcases btf (v30) with hc30 | hc30
  · have h := bif_t hc30 h
    refine Run.opG (wantS_yes' rfl rfl hc30) (ex_fieldAddr rfl off29_4) rfl ?_
    refine Run.opG (wantS_yes' rfl rfl hc30) (ex_load1 rfl (hH.cells (i := 0) rfl 5 rfl) rdLe_rfl agg3) rfl ?_
    refine Run.opG (wantS_yes' rfl rfl hc30) (ex_fieldAddr rfl off29_4) rfl ?_
    refine Run.opG (wantS_yes' rfl rfl hc30) (ex_load1 rfl (hH.cells (i := 1) rfl 5 rfl) rdLe_rfl agg3) rfl ?_
    refine Run.opG (wantS_yes' rfl rfl hc30) (ex_eql rfl rfl) rfl ?_
    refine Run.opG wantS_none (ex_pickT' rfl hc30 rfl rfl) rfl ?_
    exact Run.pick [2, 3, 37] (ref10_Same_4_ok F (c22_5 == c25_5) c22_0 c22_1 c22_2 c22_3 c22_4 c22_5 c22_6 c22_7 c22_8 c25_0 c25_1 c25_2 c25_3 c25_4 c25_5 c25_6 c25_7 c25_8 sc22_6 sc25_6 b22 b25 _ _ _ hc22_6 hc25_6 hH h)
  · have h := bif_f hc30 h
    refine Run.no (wantS_not' rfl rfl hc30) rfl ?_
    refine Run.no (wantS_not' rfl rfl hc30) rfl ?_
    refine Run.no (wantS_not' rfl rfl hc30) rfl ?_
    refine Run.no (wantS_not' rfl rfl hc30) rfl ?_
    refine Run.no (wantS_not' rfl rfl hc30) rfl ?_
    refine Run.opG wantS_none (ex_pickF' rfl hc30 rfl rfl) rfl ?_
    exact Run.pick [2, 3, 37] (ref10_Same_4_ok F false c22_0 c22_1 c22_2 c22_3 c22_4 c22_5 c22_6 c22_7 c22_8 c25_0 c25_1 c25_2 c25_3 c25_4 c25_5 c25_6 c25_7 c25_8 sc22_6 sc25_6 b22 b25 _ _ _ hc22_6 hc25_6 hH h)

def ref10_Same_2 (F : Nat) (v23 : Bool) (c22_0 : (List UInt8)) (c22_1 c22_2 c22_3 c22_4 c22_5 : Int) (c22_6 : (List Int)) (c22_7 : Bool) (c22_8 : Int) (c25_0 : (List UInt8)) (c25_1 c25_2 c25_3 c25_4 c25_5 : Int) (c25_6 : (List Int)) (c25_7 : Bool) (c25_8 : Int) : Option (Bool) :=
  bif v23 then
    ref10_Same_3 F ((c22_3 == c25_3) && ((c22_4 == c25_4) && true)) c22_0 c22_1 c22_2 c22_3 c22_4 c22_5 c22_6 c22_7 c22_8 c25_0 c25_1 c25_2 c25_3 c25_4 c25_5 c25_6 c25_7 c25_8
  else
    ref10_Same_3 F false c22_0 c22_1 c22_2 c22_3 c22_4 c22_5 c22_6 c22_7 c22_8 c25_0 c25_1 c25_2 c25_3 c25_4 c25_5 c25_6 c25_7 c25_8

theorem ref10_Same_2_ok (F : Nat) : ∀ (v23 : Bool) (c22_0 : (List UInt8)) (c22_1 c22_2 c22_3 c22_4 c22_5 : Int) (c22_6 : (List Int)) (c22_7 : Bool) (c22_8 : Int) (c25_0 : (List UInt8)) (c25_1 c25_2 c25_3 c25_4 c25_5 : Int) (c25_6 : (List Int)) (c25_7 : Bool) (c25_8 : Int) (sc22_6 sc25_6 : SV) (b22 b25 : Pos) (Fr : Rd) (M : Mem) (r : Bool) (hc22_6 : Slc Fr 1 (FlatR enc3) sc22_6 c22_6) (hc25_6 : Slc Fr 1 (FlatR enc3) sc25_6 c25_6) (hH : Has Fr M [.obj b22 (.row 29 .whole [(.str c22_0), (.int .i64 c22_1), (.int .i64 c22_2), (.int .i64 c22_3), (.int .i64 c22_4), (.int .i64 c22_5), sc22_6, (.bool c22_7), (.int .i64 c22_8)]), .obj b25 (.row 29 .whole [(.str c25_0), (.int .i64 c25_1), (.int .i64 c25_2), (.int .i64 c25_3), (.int .i64 c25_4), (.int .i64 c25_5), sc25_6, (.bool c25_7), (.int .i64 c25_8)])]), ref10_Same_2 F v23 c22_0 c22_1 c22_2 c22_3 c22_4 c22_5 c22_6 c22_7 c22_8 c25_0 c25_1 c25_2 c25_3 c25_4 c25_5 c25_6 c25_7 c25_8 = some r → Run Tryd.prog ⟨⟨62, [], none⟩, []⟩ 59 (ref10_Same_post r) [(2, (.ptr b22 0)), (3, (.ptr b25 0)), (23, (.bool v23))] [itemC Tryd.prog 62 [1, 0] 19, codeC Tryd.prog 62 [1, 1]] M := by
  intro v23 c22_0 c22_1 c22_2 c22_3 c22_4 c22_5 c22_6 c22_7 c22_8 c25_0 c25_1 c25_2 c25_3 c25_4 c25_5 c25_6 c25_7 c25_8 sc22_6 sc25_6 b22 b25 Fr M r hc22_6 hc25_6 hH h
  rw [ref10_Same_2] at h
  refine Run.opG wantS_none (ex_move rfl) rfl ?_
  rcases btf (v23) with hc29 | hc29
  · have h := bif_t hc29 h
    refine Run.opG (wantS_yes' rfl rfl hc29) (ex_fieldAddr rfl off29_3) rfl ?_
    refine Run.opG (wantS_yes' rfl rfl hc29) (ex_loadA rfl (hH.cells (i := 0) rfl 3 rfl) rdLe_rfl agg26 rfl rfl rfl) rfl ?_
    refine Run.opG (wantS_yes' rfl rfl hc29) (ex_fieldAddr rfl off29_3) rfl ?_
    refine Run.opG (wantS_yes' rfl rfl hc29) (ex_loadA rfl (hH.cells (i := 1) rfl 3 rfl) rdLe_rfl agg26 rfl rfl rfl) rfl ?_
    refine Run.opG (wantS_yes' rfl rfl hc29) (ex_eqlA rfl rfl aeq26 (eqA_st agk26 (eqFs_cons (by decide) (part_one agg3 rfl) (part_one agg3 rfl) (eqA_int agk3) (eqFs_cons (by decide) (part_one agg3 rfl) (part_one agg3 rfl) (eqA_int agk3) eqFs_nil)))) rfl ?_
    refine Run.opG wantS_none (ex_pickT' rfl hc29 rfl rfl) rfl ?_
    exact Run.pick [2, 3, 30] (ref10_Same_3_ok F ((c22_3 == c25_3) && ((c22_4 == c25_4) && true)) c22_0 c22_1 c22_2 c22_3 c22_4 c22_5 c22_6 c22_7 c22_8 c25_0 c25_1 c25_2 c25_3 c25_4 c25_5 c25_6 c25_7 c25_8 sc22_6 sc25_6 b22 b25 _ _ _ hc22_6 hc25_6 hH h)
  · have h := bif_f hc29 h
    refine Run.no (wantS_not' rfl rfl hc29) rfl ?_
    refine Run.no (wantS_not' rfl rfl hc29) rfl ?_
    refine Run.no (wantS_not' rfl rfl hc29) rfl ?_
    refine Run.no (wantS_not' rfl rfl hc29) rfl ?_
    refine Run.no (wantS_not' rfl rfl hc29) rfl ?_
    refine Run.opG wantS_none (ex_pickF' rfl hc29 rfl rfl) rfl ?_
    exact Run.pick [2, 3, 30] (ref10_Same_3_ok F false c22_0 c22_1 c22_2 c22_3 c22_4 c22_5 c22_6 c22_7 c22_8 c25_0 c25_1 c25_2 c25_3 c25_4 c25_5 c25_6 c25_7 c25_8 sc22_6 sc25_6 b22 b25 _ _ _ hc22_6 hc25_6 hH h)

def ref10_Same_1 (F : Nat) (v16 : Bool) (c22_0 : (List UInt8)) (c22_1 c22_2 c22_3 c22_4 c22_5 : Int) (c22_6 : (List Int)) (c22_7 : Bool) (c22_8 : Int) (c25_0 : (List UInt8)) (c25_1 c25_2 c25_3 c25_4 c25_5 : Int) (c25_6 : (List Int)) (c25_7 : Bool) (c25_8 : Int) : Option (Bool) :=
  bif v16 then
    ref10_Same_2 F (c22_2 == c25_2) c22_0 c22_1 c22_2 c22_3 c22_4 c22_5 c22_6 c22_7 c22_8 c25_0 c25_1 c25_2 c25_3 c25_4 c25_5 c25_6 c25_7 c25_8
  else
    ref10_Same_2 F false c22_0 c22_1 c22_2 c22_3 c22_4 c22_5 c22_6 c22_7 c22_8 c25_0 c25_1 c25_2 c25_3 c25_4 c25_5 c25_6 c25_7 c25_8

theorem ref10_Same_1_ok (F : Nat) : ∀ (v16 : Bool) (c22_0 : (List UInt8)) (c22_1 c22_2 c22_3 c22_4 c22_5 : Int) (c22_6 : (List Int)) (c22_7 : Bool) (c22_8 : Int) (c25_0 : (List UInt8)) (c25_1 c25_2 c25_3 c25_4 c25_5 : Int) (c25_6 : (List Int)) (c25_7 : Bool) (c25_8 : Int) (sc22_6 sc25_6 : SV) (b22 b25 : Pos) (Fr : Rd) (M : Mem) (r : Bool) (hc22_6 : Slc Fr 1 (FlatR enc3) sc22_6 c22_6) (hc25_6 : Slc Fr 1 (FlatR enc3) sc25_6 c25_6) (hH : Has Fr M [.obj b22 (.row 29 .whole [(.str c22_0), (.int .i64 c22_1), (.int .i64 c22_2), (.int .i64 c22_3), (.int .i64 c22_4), (.int .i64 c22_5), sc22_6, (.bool c22_7), (.int .i64 c22_8)]), .obj b25 (.row 29 .whole [(.str c25_0), (.int .i64 c25_1), (.int .i64 c25_2), (.int .i64 c25_3), (.int .i64 c25_4), (.int .i64 c25_5), sc25_6, (.bool c25_7), (.int .i64 c25_8)])]), ref10_Same_1 F v16 c22_0 c22_1 c22_2 c22_3 c22_4 c22_5 c22_6 c22_7 c22_8 c25_0 c25_1 c25_2 c25_3 c25_4 c25_5 c25_6 c25_7 c25_8 = some r → Run Tryd.prog ⟨⟨62, [], none⟩, []⟩ 59 (ref10_Same_post r) [(2, (.ptr b22 0)), (3, (.ptr b25 0)), (16, (.bool v16))] [itemC Tryd.prog 62 [1, 0] 12, codeC Tryd.prog 62 [1, 1]] M := by
  intro v16 c22_0 c22_1 c22_2 c22_3 c22_4 c22_5 c22_6 c22_7 c22_8 c25_0 c25_1 c25_2 c25_3 c25_4 c25_5 c25_6 c25_7 c25_8 sc22_6 sc25_6 b22 b25 Fr M r hc22_6 hc25_6 hH h
  rw [ref10_Same_1] at h
  refine Run.opG wantS_none (ex_move rfl) rfl ?_
  rcases btf (v16) with hc28 | hc28
  · have h := bif_t hc28 h
    refine Run.opG (wantS_yes' rfl rfl hc28) (ex_fieldAddr rfl off29_2) rfl ?_
    refine Run.opG (wantS_yes' rfl rfl hc28) (ex_load1 rfl (hH.cells (i := 0) rfl 2 rfl) rdLe_rfl agg3) rfl ?_
    refine Run.opG (wantS_yes' rfl rfl hc28) (ex_fieldAddr rfl off29_2) rfl ?_
    refine Run.opG (wantS_yes' rfl rfl hc28) (ex_load1 rfl (hH.cells (i := 1) rfl 2 rfl) rdLe_rfl agg3) rfl ?_
    refine Run.opG (wantS_yes' rfl rfl hc28) (ex_eql rfl rfl) rfl ?_
    refine Run.opG wantS_none (ex_pickT' rfl hc28 rfl rfl) rfl ?_
    exact Run.pick [2, 3, 23] (ref10_Same_2_ok F (c22_2 == c25_2) c22_0 c22_1 c22_2 c22_3 c22_4 c22_5 c22_6 c22_7 c22_8 c25_0 c25_1 c25_2 c25_3 c25_4 c25_5 c25_6 c25_7 c25_8 sc22_6 sc25_6 b22 b25 _ _ _ hc22_6 hc25_6 hH h)
  · have h := bif_f hc28 h
    refine Run.no (wantS_not' rfl rfl hc28) rfl ?_
    refine Run.no (wantS_not' rfl rfl hc28) rfl ?_
    refine Run.no (wantS_not' rfl rfl hc28) rfl ?_
    refine Run.no (wantS_not' rfl rfl hc28) rfl ?_
    refine Run.no (wantS_not' rfl rfl hc28) rfl ?_
    refine Run.opG wantS_none (ex_pickF' rfl hc28 rfl rfl) rfl ?_
    exact Run.pick [2, 3, 23] (ref10_Same_2_ok F false c22_0 c22_1 c22_2 c22_3 c22_4 c22_5 c22_6 c22_7 c22_8 c25_0 c25_1 c25_2 c25_3 c25_4 c25_5 c25_6 c25_7 c25_8 sc22_6 sc25_6 b22 b25 _ _ _ hc22_6 hc25_6 hH h)

def ref10_Same (F : Nat) (a0 a1 : S_api_Alert) : Option (Bool) :=
  bif (a0.Event == a1.Event) then
    ref10_Same_1 F (a0.Version == a1.Version) a0.Event a0.Version a0.Time a0.Chance.N a0.Chance.Of a0.Grid a0.Cells a0.Withdrawn a0.Before a1.Event a1.Version a1.Time a1.Chance.N a1.Chance.Of a1.Grid a1.Cells a1.Withdrawn a1.Before
  else
    ref10_Same_1 F false a0.Event a0.Version a0.Time a0.Chance.N a0.Chance.Of a0.Grid a0.Cells a0.Withdrawn a0.Before a1.Event a1.Version a1.Time a1.Chance.N a1.Chance.Of a1.Grid a1.Cells a1.Withdrawn a1.Before

theorem ref10_Same_ok (F : Nat) (a0 a1 : S_api_Alert) (s0 s1 : SV) (r : Bool) (M : Mem) (hs0 : Slc (rd M) 1 (FlatR enc3) s0 a0.Cells) (hs1 : Slc (rd M) 1 (FlatR enc3) s1 a1.Cells) (h : ref10_Same F a0 a1 = some r) : CallsM Tryd.prog 62 [(.agg [(.str a0.Event), (.int .i64 a0.Version), (.int .i64 a0.Time), (.int .i64 a0.Chance.N), (.int .i64 a0.Chance.Of), (.int .i64 a0.Grid), s0, (.bool a0.Withdrawn), (.int .i64 a0.Before)]), (.agg [(.str a1.Event), (.int .i64 a1.Version), (.int .i64 a1.Time), (.int .i64 a1.Chance.N), (.int .i64 a1.Chance.Of), (.int .i64 a1.Grid), s1, (.bool a1.Withdrawn), (.int .i64 a1.Before)])] M (fun s M' => s = (.bool r) ∧ M' = M) := by
  refine CallsM.plain Tryd.func62 rfl rfl rfl (show Run _ _ _ (ref10_Same_post r) _ _ _ from ?_)
  rw [ref10_Same] at h
  replace hs0 := hs0.mono (rdLe_frozen M) (fun _ _ h => h)
  replace hs1 := hs1.mono (rdLe_frozen M) (fun _ _ h => h)
  have hH := Has.nil (frozen M)
  refine Run.seq (Run.region ?_)
  refine Run.opX wantS_none rfl (ExG.box rfl rfl hH) ?_
  rintro _ M23 ⟨b22, rfl, hH23⟩
  refine Run.opX wantS_none rfl (ExG.box rfl rfl hH23) ?_
  rintro _ M26 ⟨b25, rfl, hH26⟩
  refine Run.opG wantS_none (ex_assign rfl) rfl ?_
  refine Run.opsEnd (Run.seq (Run.region ?_))
  refine Run.opG wantS_none (ex_fieldAddr rfl off29_0) rfl ?_
  refine Run.opG wantS_none (ex_load1 rfl (hH26.cells (i := 1) rfl 0 rfl) rdLe_rfl agg9) rfl ?_
  refine Run.opG wantS_none (ex_fieldAddr rfl off29_0) rfl ?_
  refine Run.opG wantS_none (ex_load1 rfl (hH26.cells (i := 0) rfl 0 rfl) rdLe_rfl agg9) rfl ?_
  refine Run.opG wantS_none (ex_eqlS rfl rfl) rfl ?_
  refine Run.opG wantS_none (ex_move rfl) rfl ?_
  rcases btf ((a0.Event == a1.Event)) with hc27 | hc27
  · have h := bif_t hc27 h
    refine Run.opG (wantS_yes' rfl rfl hc27) (ex_fieldAddr rfl off29_1) rfl ?_
    refine Run.opG (wantS_yes' rfl rfl hc27) (ex_load1 rfl (hH26.cells (i := 1) rfl 1 rfl) rdLe_rfl agg3) rfl ?_
    refine Run.opG (wantS_yes' rfl rfl hc27) (ex_fieldAddr rfl off29_1) rfl ?_
    refine Run.opG (wantS_yes' rfl rfl hc27) (ex_load1 rfl (hH26.cells (i := 0) rfl 1 rfl) rdLe_rfl agg3) rfl ?_
    refine Run.opG (wantS_yes' rfl rfl hc27) (ex_eql rfl rfl) rfl ?_
    refine Run.opG wantS_none (ex_pickT' rfl hc27 rfl rfl) rfl ?_
    exact Run.pick [2, 3, 16] (ref10_Same_1_ok F (a0.Version == a1.Version) a0.Event a0.Version a0.Time a0.Chance.N a0.Chance.Of a0.Grid a0.Cells a0.Withdrawn a0.Before a1.Event a1.Version a1.Time a1.Chance.N a1.Chance.Of a1.Grid a1.Cells a1.Withdrawn a1.Before s0 s1 b22 b25 _ _ _ hs0 hs1 (hH26.pick [1, 0] rfl rfl) h)
  · have h := bif_f hc27 h
    refine Run.no (wantS_not' rfl rfl hc27) rfl ?_
    refine Run.no (wantS_not' rfl rfl hc27) rfl ?_
    refine Run.no (wantS_not' rfl rfl hc27) rfl ?_
    refine Run.no (wantS_not' rfl rfl hc27) rfl ?_
    refine Run.no (wantS_not' rfl rfl hc27) rfl ?_
    refine Run.opG wantS_none (ex_pickF' rfl hc27 rfl rfl) rfl ?_
    exact Run.pick [2, 3, 16] (ref10_Same_1_ok F false a0.Event a0.Version a0.Time a0.Chance.N a0.Chance.Of a0.Grid a0.Cells a0.Withdrawn a0.Before a1.Event a1.Version a1.Time a1.Chance.N a1.Chance.Of a1.Grid a1.Cells a1.Withdrawn a1.Before s0 s1 b22 b25 _ _ _ hs0 hs1 (hH26.pick [1, 0] rfl rfl) h)

theorem mkk62 : makeK Tryd.prog 62 = none := by kernel_rfl
theorem cal62 : callable Tryd.prog 62 = true := by kernel_rfl
abbrev law10_same_post (r : Bool) : SV → Mem → Prop := fun s _ => s = (.bool r)

def law10_same (F : Nat) (a0 a1 : S_api_Alert) : Option (Bool) :=
  bnd (ref10_Same F a0 a1) fun r28 =>
  some r28

theorem law10_same_ok (F : Nat) (a0 a1 : S_api_Alert) (s0 s1 : SV) (r : Bool) (M : Mem) (hs0 : Slc (rd M) 1 (FlatR enc3) s0 a0.Cells) (hs1 : Slc (rd M) 1 (FlatR enc3) s1 a1.Cells) (h : law10_same F a0 a1 = some r) : CallsM Tryd.prog 21 [(.agg [(.str a0.Event), (.int .i64 a0.Version), (.int .i64 a0.Time), (.int .i64 a0.Chance.N), (.int .i64 a0.Chance.Of), (.int .i64 a0.Grid), s0, (.bool a0.Withdrawn), (.int .i64 a0.Before)]), (.agg [(.str a1.Event), (.int .i64 a1.Version), (.int .i64 a1.Time), (.int .i64 a1.Chance.N), (.int .i64 a1.Chance.Of), (.int .i64 a1.Grid), s1, (.bool a1.Withdrawn), (.int .i64 a1.Before)])] M (fun s M' => s = (.bool r) ∧ M' = M) := by
  refine CallsM.plain Tryd.func21 rfl rfl rfl (show Run _ _ _ (law10_same_post r) _ _ _ from ?_)
  rw [law10_same] at h
  replace hs0 := hs0.mono (rdLe_frozen M) (fun _ _ h => h)
  replace hs1 := hs1.mono (rdLe_frozen M) (fun _ _ h => h)
  have hH := Has.nil (frozen M)
  refine Run.seq (Run.region ?_)
  refine Run.opX wantS_none rfl (ExG.box rfl rfl hH) ?_
  rintro _ M23 ⟨b22, rfl, hH23⟩
  refine Run.opX wantS_none rfl (ExG.box rfl rfl hH23) ?_
  rintro _ M26 ⟨b25, rfl, hH26⟩
  refine Run.opG wantS_none (ex_assign rfl) rfl ?_
  refine Run.opsEnd (Run.seq (Run.region ?_))
  refine Run.opG wantS_none (ex_loadA rfl (hH26.cells (i := 1) rfl 0 rfl) rdLe_rfl agg29 rfl rfl rfl) rfl ?_
  refine Run.opG wantS_none (ex_loadA rfl (hH26.cells (i := 0) rfl 0 rfl) rdLe_rfl agg29 rfl rfl rfl) rfl ?_
  obtain ⟨r28, hr28, h⟩ := bnd_some h
  refine Run.callP wantS_none (ex_call rfl mkk62 cal62) rfl (ref10_Same_ok F a0 a1 s0 s1 _ _ (hH26.slcF hs0) (hH26.slcF hs1) hr28) ?_
  refine Run.opG wantS_none (ex_assign rfl) rfl ?_
  refine Run.opsEnd ?_
  cases h
  exact Run.ret Tryd.func21 rfl (res_tmp rfl res_nil) rfl

theorem mkk21 : makeK Tryd.prog 21 = none := by kernel_rfl
theorem cal21 : callable Tryd.prog 21 = true := by kernel_rfl
theorem zer119 : zerosOf Tryd.prog 119 = some [(.str []), (.int .i64 0), (.int .i64 0), (.int .i64 0), (.int .i64 0), (.int .i64 0), .nils, (.bool false), (.int .i64 0)] := by kernel_rfl
theorem sz119 : szOf Tryd.prog 119 = some 9 := by kernel_rfl
theorem agg119 : aggSize Tryd.prog 119 = some (some 9) := by kernel_rfl
theorem zer121 : zerosOf Tryd.prog 121 = some [.nilf, .nilf, .nilf, .nilf, .nilf, .nilf, .nilf] := by kernel_rfl
theorem pls121 : placesOf Tryd.prog 121 = some (.ar 1) := by kernel_rfl
theorem sz121 : szOf Tryd.prog 121 = some 7 := by kernel_rfl
theorem zer124 : zerosOf Tryd.prog 124 = some [.nilp, .nils] := by kernel_rfl
theorem agg121 : aggSize Tryd.prog 121 = some (some 7) := by kernel_rfl
theorem wha121 : whole Tryd.prog 121 = some (.arr 7 120 1) := by kernel_rfl
theorem agg120 : aggSize Tryd.prog 120 = some none := by kernel_rfl
theorem mkk87 : makeK Tryd.prog 87 = none := by kernel_rfl
theorem cal87 : callable Tryd.prog 87 = true := by kernel_rfl
theorem off119_0 : fieldOff Tryd.prog 119 0 = some 0 := by kernel_rfl
theorem off119_1 : fieldOff Tryd.prog 119 1 = some 1 := by kernel_rfl
theorem mkk94 : makeK Tryd.prog 94 = none := by kernel_rfl
theorem cal94 : callable Tryd.prog 94 = true := by kernel_rfl
theorem mkk102 : makeK Tryd.prog 102 = none := by kernel_rfl
theorem cal102 : callable Tryd.prog 102 = true := by kernel_rfl
theorem off124_0 : fieldOff Tryd.prog 124 0 = some 0 := by kernel_rfl
theorem agg122 : aggSize Tryd.prog 122 = some none := by kernel_rfl
theorem eqk122 : eqK Tryd.prog 122 = some .ptr := by kernel_rfl
theorem uvk122_137 : uvK Tryd.prog 122 137 = some (.to 2) := by kernel_rfl
theorem mkk106 : makeK Tryd.prog 106 = none := by kernel_rfl
theorem ncal106 : callable Tryd.prog 106 = false := by kernel_rfl
theorem ext106 : extK Tryd.prog 106 = some .noEsc := by kernel_rfl
theorem uvk137_122 : uvK Tryd.prog 137 122 = some (.back 124) := by kernel_rfl
theorem clo124 : Tryd.prog.cellsOf 124 = 2 := by kernel_rfl
theorem sz122 : szOf Tryd.prog 122 = some 1 := by kernel_rfl
theorem off124_1 : fieldOff Tryd.prog 124 1 = some 1 := by kernel_rfl
theorem agg108 : aggSize Tryd.prog 108 = some none := by kernel_rfl
theorem appt108_9 : appT Tryd.prog 108 9 = some (⟨1, 1, [(.int .u8 0)], 5⟩ : Elt) := by kernel_rfl
theorem sz108 : szOf Tryd.prog 108 = some 1 := by kernel_rfl
theorem mkk104 : makeK Tryd.prog 104 = none := by kernel_rfl
theorem cal104 : callable Tryd.prog 104 = true := by kernel_rfl
theorem pte122 : ptrElt Tryd.prog 122 = some 124 := by kernel_rfl
theorem inf124 : (Tryd.prog.info? 124).isSome = true := by kernel_rfl
theorem elt108 : sliceElt Tryd.prog 108 = some (⟨1, 1, [(.int .u8 0)], 5⟩ : Elt) := by kernel_rfl
theorem appt108_108 : appT Tryd.prog 108 108 = some (⟨1, 1, [(.int .u8 0)], 5⟩ : Elt) := by kernel_rfl
theorem mkk105 : makeK Tryd.prog 105 = none := by kernel_rfl
theorem cal105 : callable Tryd.prog 105 = true := by kernel_rfl
theorem mkk95 : makeK Tryd.prog 95 = none := by kernel_rfl
theorem cal95 : callable Tryd.prog 95 = true := by kernel_rfl
theorem pte135 : ptrElt Tryd.prog 135 = some 5 := by kernel_rfl
theorem clo5 : Tryd.prog.cellsOf 5 = 1 := by kernel_rfl
theorem plan95_1_0 : planOf Tryd.prog (opsC (atC Tryd.prog 95 [1, 0])) = some [.fl 0, .fl 1, .fl 2, .fl 3, .fl 4, .fl 5, .fl 6, .fl 7, .fl 8, .fl 9, .an 10 [], .fl 11, .sync] := by kernel_rfl
abbrev alert_line_post (r : (List UInt8)) : SV → Mem → Prop := fun s _ => s = (.str r)

def alert_line_1 (F : Nat) : Nat → (List Int) → Int → Int → (List Int) → Option ((List UInt8))
  | 0, _, _, _, _ => none
  | N + 1, v10, v11, v12, l33 =>
    bif (decide (v12 < v11)) then
      bnd (idx v10 v12) fun x39 =>
      bnd (apd 1 l33 ([32] : List Int)) fun l45 =>
      bnd (itoa F x39) fun r50 =>
      bnd (apd 1 l45 (bytesI r50)) fun l54 =>
      (alert_line_1 F N) v10 v11 (w64 (v12 + (1 : Int))) l54
    else
      bnd (apd 1 l33 ([10] : List Int)) fun l63 =>
      bnd (neB l63) fun u67 =>
      bnd (strOf l63) fun z68 =>
      some z68

theorem alert_line_1_ok (F : Nat) : ∀ (N : Nat), ∀ (v10 : (List Int)) (v11 v12 : Int) (l33 : (List Int)) (sv10 : SV) (b25 : Pos) (s33 : SV) (Fr : Rd) (M : Mem) (r : (List UInt8)) (hv10 : Slc Fr 1 (FlatR enc3) sv10 v10) (hH : Has Fr M [.obj b25 (.row 124 .whole [(.ptr b25 0), s33]), .vec 5 1 l33.length s33 (l33.flatMap enc5), tb0, tb1, tb2]), alert_line_1 F N v10 v11 v12 l33 = some r → Run Tryd.prog ⟨⟨101, [], none⟩, []⟩ 23 (alert_line_post r) [(5, (.ptr b25 0)), (10, sv10), (11, (.int .i64 v11)), (12, (.int .i64 v12))] [codeC Tryd.prog 101 [1, 1, 1, 0, 1, 0, 0], loopC Tryd.prog 101 [1, 1, 1, 0, 1, 0, 0], .inBlock 0, codeC Tryd.prog 101 [1, 1, 1, 1]] M := by
  intro N
  induction N with
  | zero =>
    intro v10 v11 v12 l33 sv10 b25 s33 Fr M r hv10 hH h
    simp [alert_line_1] at h
  | succ N ih =>
    intro v10 v11 v12 l33 sv10 b25 s33 Fr M r hv10 hH h
    rw [alert_line_1] at h
    refine Run.seq (Run.region ?_)
    refine Run.opG wantS_none (ex_lss rfl rfl) rfl ?_
    refine Run.opsEnd (Run.seq ?_)
    rcases btf ((decide (v12 < v11))) with hc37 | hc37
    · have h := bif_t hc37 h
      refine Run.condT' rfl hc37 ?_
      refine Run.skip (Run.seq (Run.block (Run.seq (Run.region ?_))))
      obtain ⟨x39, hx39, h⟩ := bnd_some h
      obtain ⟨p39, o39, _, hx39, hp39, rfl⟩ := sl_elem (P := Tryd.prog) (t := 27) (kk := .i64) hv10 hx39 els27
      refine Run.opG wantS_none (ex_elX rfl rfl hx39) rfl ?_
      refine Run.opG wantS_none (ex_load1 rfl (hH.ptrF hp39) rdLe_rfl agg3) rfl ?_
      refine Run.opG wantS_none (ex_assign rfl) rfl ?_
      refine Run.opsEnd (Run.seq (Run.region ?_))
      refine Run.enter wantS_none (ex_call rfl mkk104 cal104) Tryd.func104 rfl rfl ?_
      refine Run.seq (Run.region ?_)
      refine Run.opG wantS_none (ex_assign rfl) rfl ?_
      refine Run.opsEnd (Run.seq (Run.region ?_))
      refine Run.opG wantS_none (ex_move rfl) rfl ?_
      refine Run.enter wantS_none (ex_call rfl mkk102 cal102) Tryd.func102 rfl rfl ?_
      refine Run.seq (Run.region ?_)
      refine Run.opG wantS_none (ex_move rfl) rfl ?_
      refine Run.opG wantS_none (ex_nilP rfl) rfl ?_
      refine Run.opG wantS_none (ex_fieldAddr rfl off124_0) rfl ?_
      refine Run.opG wantS_none (ex_load1 rfl (hH.cells (i := 0) rfl 0 rfl) rdLe_rfl agg122) rfl ?_
      refine Run.opG wantS_none (ex_ptrPN rfl rfl eqk122) rfl ?_
      refine Run.opsEnd ?_
      refine Run.condF' rfl rfl ?_
      refine Run.seq (Run.region ?_)
      refine Run.opG wantS_none (ex_move rfl) rfl ?_
      refine Run.opG wantS_none (ex_nilP rfl) rfl ?_
      refine Run.opG wantS_none (ex_fieldAddr rfl off124_0) rfl ?_
      refine Run.opG wantS_none (ex_load1 rfl (hH.cells (i := 0) rfl 0 rfl) rdLe_rfl agg122) rfl ?_
      refine Run.opG wantS_none (ex_move rfl) rfl ?_
      refine Run.opG wantS_none (ex_ptrSamen rfl rfl pte122 inf124) rfl ?_
      refine Run.opsEnd ?_
      refine Run.condF' rfl rfl ?_
      refine Run.skip ?_
      refine Run.fallTo Tryd.func102 rfl res_nil rfl ?_
      refine Run.opsEnd (Run.seq (Run.region ?_))
      refine Run.opG wantS_none (ex_move rfl) rfl ?_
      refine Run.opG wantS_none (ex_move rfl) rfl ?_
      refine Run.opG wantS_none (ex_nilP rfl) rfl ?_
      refine Run.opG wantS_none (ex_fieldAddr rfl off124_1) rfl ?_
      refine Run.opG wantS_none (ex_load1 rfl (hH.cells (i := 0) rfl 1 rfl) rdLe_rfl agg108) rfl ?_
      refine Run.opG wantS_none (ex_move rfl) rfl ?_
      refine Run.opX wantS_none rfl (ExG.built (enc := enc5) (l := ([32] : List Int)) (z := 1) rfl elt108 rfl rfl rfl enc5_len hH) ?_
      rintro s41 M42 (hH42 : Has Fr M42 [.vec 5 1 ([32] : List Int).length s41 (([32] : List Int).flatMap enc5), .obj b25 (.row 124 .whole [(.ptr b25 0), s33]), .vec 5 1 l33.length s33 (l33.flatMap enc5), tb0, tb1, tb2])
      obtain ⟨l45, hl45, h⟩ := bnd_some h
      refine Run.opX wantS_none rfl (ExG.append rfl rfl hH42 (i := 2) rfl enc5_len rfl enc5_ones appt108_108 rfl (len_slc (hH42.slc (i := 0) rfl enc5_len)) (first_slc (hH42.slc (i := 0) rfl enc5_len) (rdLe_rdRow _) enc5_len) hl45) ?_
      rintro s45 M47 (hH47 : Has Fr M47 [.vec 5 1 ([32] : List Int).length s41 (([32] : List Int).flatMap enc5), .obj b25 (.row 124 .whole [(.ptr b25 0), s33]), .vec 5 1 l45.length s45 (l45.flatMap enc5), tb0, tb1, tb2])
      refine Run.opG wantS_none (ex_nilP rfl) rfl ?_
      refine Run.opG wantS_none (ex_fieldAddr rfl off124_1) rfl ?_
      refine Run.opX wantS_none rfl (ExG.storeC (c' := [(.ptr b25 0), s45]) rfl rfl (cells_one (vec_one hH47 (i := 2) rfl)) hH47 (i := 1) rfl sz108 rfl rfl rfl (ones_cons (vec_one hH47 (i := 2) rfl) ones_nil) rfl) ?_
      rintro _ M48 ⟨rfl, (hH48 : Has Fr M48 [.vec 5 1 ([32] : List Int).length s41 (([32] : List Int).flatMap enc5), .obj b25 (.row 124 .whole [(.ptr b25 0), s45]), .vec 5 1 l45.length s45 (l45.flatMap enc5), tb0, tb1, tb2])⟩
      refine Run.opsEnd (Run.seq (Run.region ?_))
      refine Run.opG wantS_none (ex_assign rfl) rfl ?_
      refine Run.opsEnd ?_
      refine Run.retTo Tryd.func104 rfl (res_tmp rfl res_nil) rfl ?_
      refine Run.opsEnd (Run.region ?_)
      refine Run.opG wantS_none (ex_move rfl) rfl ?_
      obtain ⟨r50, hr50, h⟩ := bnd_some h
      refine Run.callP wantS_none (ex_call rfl mkk105 cal105) rfl (itoa_ok F x39 _ _ (fixH hH48 (List.mem_of_getElem? (i := 3) rfl) (List.mem_of_getElem? (i := 4) rfl) (List.mem_of_getElem? (i := 5) rfl)) hr50) ?_
      refine Run.enter wantS_none (ex_call rfl mkk94 cal94) Tryd.func94 rfl rfl ?_
      refine Run.seq (Run.region ?_)
      refine Run.opG wantS_none (ex_assign rfl) rfl ?_
      refine Run.opG wantS_none (ex_assign rfl) rfl ?_
      refine Run.opsEnd (Run.seq (Run.region ?_))
      refine Run.opG wantS_none (ex_move rfl) rfl ?_
      refine Run.enter wantS_none (ex_call rfl mkk102 cal102) Tryd.func102 rfl rfl ?_
      refine Run.seq (Run.region ?_)
      refine Run.opG wantS_none (ex_move rfl) rfl ?_
      refine Run.opG wantS_none (ex_nilP rfl) rfl ?_
      refine Run.opG wantS_none (ex_fieldAddr rfl off124_0) rfl ?_
      refine Run.opG wantS_none (ex_load1 rfl (hH48.cells (i := 1) rfl 0 rfl) rdLe_rfl agg122) rfl ?_
      refine Run.opG wantS_none (ex_ptrPN rfl rfl eqk122) rfl ?_
      refine Run.opsEnd ?_
      refine Run.condF' rfl rfl ?_
      refine Run.seq (Run.region ?_)
      refine Run.opG wantS_none (ex_move rfl) rfl ?_
      refine Run.opG wantS_none (ex_nilP rfl) rfl ?_
      refine Run.opG wantS_none (ex_fieldAddr rfl off124_0) rfl ?_
      refine Run.opG wantS_none (ex_load1 rfl (hH48.cells (i := 1) rfl 0 rfl) rdLe_rfl agg122) rfl ?_
      refine Run.opG wantS_none (ex_move rfl) rfl ?_
      refine Run.opG wantS_none (ex_ptrSamen rfl rfl pte122 inf124) rfl ?_
      refine Run.opsEnd ?_
      refine Run.condF' rfl rfl ?_
      refine Run.skip ?_
      refine Run.fallTo Tryd.func102 rfl res_nil rfl ?_
      refine Run.opsEnd (Run.seq (Run.region ?_))
      refine Run.opG wantS_none (ex_move rfl) rfl ?_
      refine Run.opG wantS_none (ex_move rfl) rfl ?_
      refine Run.opG wantS_none (ex_nilP rfl) rfl ?_
      refine Run.opG wantS_none (ex_fieldAddr rfl off124_1) rfl ?_
      refine Run.opG wantS_none (ex_load1 rfl (hH48.cells (i := 1) rfl 1 rfl) rdLe_rfl agg108) rfl ?_
      refine Run.opG wantS_none (ex_move rfl) rfl ?_
      obtain ⟨l54, hl54, h⟩ := bnd_some h
      refine Run.opX wantS_none rfl (ExG.append rfl rfl hH48 (i := 2) rfl enc5_len rfl enc5_ones appt108_9 rfl (str_lenZ rfl _) (str_first (fun _ => rfl) _) hl54) ?_
      rintro s54 M56 (hH56 : Has Fr M56 [.vec 5 1 ([32] : List Int).length s41 (([32] : List Int).flatMap enc5), .obj b25 (.row 124 .whole [(.ptr b25 0), s45]), .vec 5 1 l54.length s54 (l54.flatMap enc5), tb0, tb1, tb2])
      refine Run.opG wantS_none (ex_nilP rfl) rfl ?_
      refine Run.opG wantS_none (ex_fieldAddr rfl off124_1) rfl ?_
      refine Run.opX wantS_none rfl (ExG.storeC (c' := [(.ptr b25 0), s54]) rfl rfl (cells_one (vec_one hH56 (i := 2) rfl)) hH56 (i := 1) rfl sz108 rfl rfl rfl (ones_cons (vec_one hH56 (i := 2) rfl) ones_nil) rfl) ?_
      rintro _ M57 ⟨rfl, (hH57 : Has Fr M57 [.vec 5 1 ([32] : List Int).length s41 (([32] : List Int).flatMap enc5), .obj b25 (.row 124 .whole [(.ptr b25 0), s54]), .vec 5 1 l54.length s54 (l54.flatMap enc5), tb0, tb1, tb2])⟩
      refine Run.opsEnd (Run.seq (Run.region ?_))
      refine Run.opG wantS_none (ex_move rfl) rfl ?_
      refine Run.opG wantS_none (ex_lenS rfl lenk9) rfl ?_
      refine Run.opG wantS_none (ex_assign rfl) rfl ?_
      refine Run.opG wantS_none (ex_assign rfl) rfl ?_
      refine Run.opsEnd ?_
      refine Run.retTo Tryd.func94 rfl (res_tmp rfl (res_tmp rfl res_nil)) rfl ?_
      refine Run.opsEnd (Run.inBlock (Run.region ?_))
      refine Run.opG wantS_none (ex_add rfl rfl) rfl ?_
      refine Run.opG wantS_none (ex_move rfl) rfl ?_
      refine Run.opsEnd (Run.inLoop ?_)
      exact Run.pick [5, 10, 11, 12] (ih v10 v11 (w64 (v12 + (1 : Int))) l54 sv10 b25 s54 _ _ _ hv10 (hH57.pick [1, 2, 3, 4, 5] rfl rfl) h)
    · have h := bif_f hc37 h
      refine Run.condF' rfl hc37 ?_
      refine Run.exit rfl (Run.seq (Run.region ?_))
      refine Run.enter wantS_none (ex_call rfl mkk104 cal104) Tryd.func104 rfl rfl ?_
      refine Run.seq (Run.region ?_)
      refine Run.opG wantS_none (ex_assign rfl) rfl ?_
      refine Run.opsEnd (Run.seq (Run.region ?_))
      refine Run.opG wantS_none (ex_move rfl) rfl ?_
      refine Run.enter wantS_none (ex_call rfl mkk102 cal102) Tryd.func102 rfl rfl ?_
      refine Run.seq (Run.region ?_)
      refine Run.opG wantS_none (ex_move rfl) rfl ?_
      refine Run.opG wantS_none (ex_nilP rfl) rfl ?_
      refine Run.opG wantS_none (ex_fieldAddr rfl off124_0) rfl ?_
      refine Run.opG wantS_none (ex_load1 rfl (hH.cells (i := 0) rfl 0 rfl) rdLe_rfl agg122) rfl ?_
      refine Run.opG wantS_none (ex_ptrPN rfl rfl eqk122) rfl ?_
      refine Run.opsEnd ?_
      refine Run.condF' rfl rfl ?_
      refine Run.seq (Run.region ?_)
      refine Run.opG wantS_none (ex_move rfl) rfl ?_
      refine Run.opG wantS_none (ex_nilP rfl) rfl ?_
      refine Run.opG wantS_none (ex_fieldAddr rfl off124_0) rfl ?_
      refine Run.opG wantS_none (ex_load1 rfl (hH.cells (i := 0) rfl 0 rfl) rdLe_rfl agg122) rfl ?_
      refine Run.opG wantS_none (ex_move rfl) rfl ?_
      refine Run.opG wantS_none (ex_ptrSamen rfl rfl pte122 inf124) rfl ?_
      refine Run.opsEnd ?_
      refine Run.condF' rfl rfl ?_
      refine Run.skip ?_
      refine Run.fallTo Tryd.func102 rfl res_nil rfl ?_
      refine Run.opsEnd (Run.seq (Run.region ?_))
      refine Run.opG wantS_none (ex_move rfl) rfl ?_
      refine Run.opG wantS_none (ex_move rfl) rfl ?_
      refine Run.opG wantS_none (ex_nilP rfl) rfl ?_
      refine Run.opG wantS_none (ex_fieldAddr rfl off124_1) rfl ?_
      refine Run.opG wantS_none (ex_load1 rfl (hH.cells (i := 0) rfl 1 rfl) rdLe_rfl agg108) rfl ?_
      refine Run.opG wantS_none (ex_move rfl) rfl ?_
      refine Run.opX wantS_none rfl (ExG.built (enc := enc5) (l := ([10] : List Int)) (z := 1) rfl elt108 rfl rfl rfl enc5_len hH) ?_
      rintro s59 M60 (hH60 : Has Fr M60 [.vec 5 1 ([10] : List Int).length s59 (([10] : List Int).flatMap enc5), .obj b25 (.row 124 .whole [(.ptr b25 0), s33]), .vec 5 1 l33.length s33 (l33.flatMap enc5), tb0, tb1, tb2])
      obtain ⟨l63, hl63, h⟩ := bnd_some h
      refine Run.opX wantS_none rfl (ExG.append rfl rfl hH60 (i := 2) rfl enc5_len rfl enc5_ones appt108_108 rfl (len_slc (hH60.slc (i := 0) rfl enc5_len)) (first_slc (hH60.slc (i := 0) rfl enc5_len) (rdLe_rdRow _) enc5_len) hl63) ?_
      rintro s63 M65 (hH65 : Has Fr M65 [.vec 5 1 ([10] : List Int).length s59 (([10] : List Int).flatMap enc5), .obj b25 (.row 124 .whole [(.ptr b25 0), s33]), .vec 5 1 l63.length s63 (l63.flatMap enc5), tb0, tb1, tb2])
      refine Run.opG wantS_none (ex_nilP rfl) rfl ?_
      refine Run.opG wantS_none (ex_fieldAddr rfl off124_1) rfl ?_
      refine Run.opX wantS_none rfl (ExG.storeC (c' := [(.ptr b25 0), s63]) rfl rfl (cells_one (vec_one hH65 (i := 2) rfl)) hH65 (i := 1) rfl sz108 rfl rfl rfl (ones_cons (vec_one hH65 (i := 2) rfl) ones_nil) rfl) ?_
      rintro _ M66 ⟨rfl, (hH66 : Has Fr M66 [.vec 5 1 ([10] : List Int).length s59 (([10] : List Int).flatMap enc5), .obj b25 (.row 124 .whole [(.ptr b25 0), s63]), .vec 5 1 l63.length s63 (l63.flatMap enc5), tb0, tb1, tb2])⟩
      refine Run.opsEnd (Run.seq (Run.region ?_))
      refine Run.opG wantS_none (ex_assign rfl) rfl ?_
      refine Run.opsEnd ?_
      refine Run.retTo Tryd.func104 rfl (res_tmp rfl res_nil) rfl ?_
      refine Run.opsEnd (Run.seq (Run.region ?_))
      refine Run.enter wantS_none (ex_call rfl mkk95 cal95) Tryd.func95 rfl rfl ?_
      refine Run.seq (Run.region ?_)
      refine Run.opG wantS_none (ex_assign rfl) rfl ?_
      refine Run.opsEnd (Run.seq ?_)
      refine Run.drawG plan95_1_0 ?_
      refine DrawG.fl rfl (ev_ex wantS_none (ex_move rfl)) rfl ?_
      refine DrawG.fl rfl (ev_ex wantS_none (ex_nilP rfl)) rfl ?_
      refine DrawG.fl rfl (ev_ex wantS_none (ex_fieldAddr rfl off124_1)) rfl ?_
      refine DrawG.fl rfl (ev_ex wantS_none (ex_load1 rfl (hH66.cells (i := 1) rfl 1 rfl) rdLe_rfl agg108)) rfl ?_
      obtain ⟨u67, hu67, h⟩ := bnd_some h
      obtain ⟨p67, hb67, hx67⟩ := vec_data (P := Tryd.prog) hH66 (i := 2) rfl (neB_some hu67)
      refine DrawG.fl rfl (ev_ex wantS_none (hx67 _ _ _ _ rfl)) rfl ?_
      refine DrawG.fl rfl (ev_ex wantS_none (ex_move rfl)) rfl ?_
      refine DrawG.fl rfl (ev_ex wantS_none (ex_nilP rfl)) rfl ?_
      refine DrawG.fl rfl (ev_ex wantS_none (ex_fieldAddr rfl off124_1)) rfl ?_
      refine DrawG.fl rfl (ev_ex wantS_none (ex_load1 rfl (hH66.cells (i := 1) rfl 1 rfl) rdLe_rfl agg108)) rfl ?_
      refine DrawG.fl rfl (ev_ex wantS_none (ex_len' rfl (hH66.slc (i := 2) rfl enc5_len) lenk108)) rfl ?_
      obtain ⟨z68, hz68, h⟩ := bnd_some h
      refine DrawG.opX rfl wantS_none rfl (ExG.uString (enc := enc5) (fun _ => rfl) rfl rfl hH66 (i := 2) rfl hb67 pte135 clo5 hz68) ?_
      rintro _ M69 ⟨rfl, (hH69 : Has Fr M69 [.vec 5 1 ([10] : List Int).length s59 (([10] : List Int).flatMap enc5), .obj b25 (.row 124 .whole [(.ptr b25 0), s63]), .vec 0 0 0 .nils [], tb0, tb1, tb2])⟩
      refine ⟨st_nil, ?_⟩
      refine DrawG.fl rfl (ev_ex wantS_none (ex_assign rfl)) rfl ?_
      refine DrawG.sync ?_
      refine DrawG.nil ?_
      refine Run.retTo Tryd.func95 rfl (res_tmp rfl res_nil) rfl ?_
      refine Run.opG wantS_none (ex_assign rfl) rfl ?_
      refine Run.opsEnd ?_
      cases h
      exact Run.ret Tryd.func101 rfl (res_tmp rfl res_nil) rfl

def alert_line (F : Nat) (a0 : (List UInt8)) (a1 : (List Int)) : Option ((List UInt8)) :=
  bnd (apd 1 ([] : List Int) (bytesI a0)) fun l31 =>
  alert_line_1 F F a1 (a1.length : Int) (0 : Int) l31

theorem alert_line_ok (F : Nat) (a0 : (List UInt8)) (a1 : (List Int)) (s0 : SV) (r : (List UInt8)) (M : Mem) (hs0 : Slc (rd M) 1 (FlatR enc3) s0 a1) (hfx : FixIn M fixes) (h : alert_line F a0 a1 = some r) : CallsM Tryd.prog 101 [(.str a0), s0] M (fun s M' => s = (.str r) ∧ M' = M) := by
  refine CallsM.plain Tryd.func101 rfl rfl rfl (show Run _ _ _ (alert_line_post r) _ _ _ from ?_)
  rw [alert_line] at h
  replace hs0 := hs0.mono (rdLe_frozen M) (fun _ _ h => h)
  have hH : Has (ro (frozen M)) (frozen M) [tb0, tb1, tb2] := Has.ofFix hfx.frozen
  refine Run.seq (Run.region ?_)
  refine Run.opG wantS_none (ex_assign rfl) rfl ?_
  refine Run.opsEnd (Run.seq (Run.region ?_))
  refine Run.opX wantS_none rfl (ExG.new (v := fun b => .ptr b 0) (ex_alloc zer124) hH) ?_
  rintro _ M26 ⟨b25, rfl, hH26⟩
  refine Run.opsEnd (Run.seq (Run.region ?_))
  refine Run.opG wantS_none (ex_move rfl) rfl ?_
  refine Run.enter wantS_none (ex_call rfl mkk94 cal94) Tryd.func94 rfl rfl ?_
  refine Run.seq (Run.region ?_)
  refine Run.opG wantS_none (ex_assign rfl) rfl ?_
  refine Run.opG wantS_none (ex_assign rfl) rfl ?_
  refine Run.opsEnd (Run.seq (Run.region ?_))
  refine Run.opG wantS_none (ex_move rfl) rfl ?_
  refine Run.enter wantS_none (ex_call rfl mkk102 cal102) Tryd.func102 rfl rfl ?_
  refine Run.seq (Run.region ?_)
  refine Run.opG wantS_none (ex_move rfl) rfl ?_
  refine Run.opG wantS_none (ex_nilP rfl) rfl ?_
  refine Run.opG wantS_none (ex_fieldAddr rfl off124_0) rfl ?_
  refine Run.opG wantS_none (ex_load1 rfl (hH26.cells (i := 0) rfl 0 rfl) rdLe_rfl agg122) rfl ?_
  refine Run.opG wantS_none (ex_ptrNN rfl rfl eqk122) rfl ?_
  refine Run.opsEnd ?_
  refine Run.condT' rfl rfl ?_
  refine Run.region ?_
  refine Run.opG wantS_none (ex_move rfl) rfl ?_
  refine Run.opG wantS_none (ex_move rfl) rfl ?_
  refine Run.opG wantS_none (ex_toU rfl uvk122_137 rfl hH26 (i := 0) rfl rfl) rfl ?_
  refine Run.opG wantS_none (ex_noEsc rfl mkk106 ncal106 ext106) rfl ?_
  refine Run.opG wantS_none (ex_backU rfl uvk137_122 hH26 (i := 0) rfl rfl clo124) rfl ?_
  refine Run.opG wantS_none (ex_nilP rfl) rfl ?_
  refine Run.opG wantS_none (ex_fieldAddr rfl off124_0) rfl ?_
  refine Run.opX wantS_none rfl (ExG.storeC (c' := [(.ptr b25 0), .nils]) rfl rfl rfl hH26 (i := 0) rfl sz122 rfl rfl rfl rfl rfl) ?_
  rintro _ M27 ⟨rfl, (hH27 : Has (ro (frozen M)) M27 [.obj b25 (.row 124 .whole [(.ptr b25 0), .nils]), tb0, tb1, tb2])⟩
  refine Run.opsEnd ?_
  refine Run.fallTo Tryd.func102 rfl res_nil rfl ?_
  refine Run.opsEnd (Run.seq (Run.region ?_))
  refine Run.opG wantS_none (ex_move rfl) rfl ?_
  refine Run.opG wantS_none (ex_move rfl) rfl ?_
  refine Run.opG wantS_none (ex_nilP rfl) rfl ?_
  refine Run.opG wantS_none (ex_fieldAddr rfl off124_1) rfl ?_
  refine Run.opG wantS_none (ex_load1 rfl (hH27.cells (i := 0) rfl 1 rfl) rdLe_rfl agg108) rfl ?_
  refine Run.opG wantS_none (ex_move rfl) rfl ?_
  obtain ⟨l31, hl31, h⟩ := bnd_some h
  have hH34 : Has (ro (frozen M)) M27 [.vec 5 1 ([] : List Int).length .nils (([] : List Int).flatMap enc5), .obj b25 (.row 124 .whole [(.ptr b25 0), .nils]), tb0, tb1, tb2] := hH27.nils 5 1
  refine Run.opX wantS_none rfl (ExG.append rfl rfl hH34 (i := 0) rfl enc5_len rfl enc5_ones appt108_9 rfl (str_lenZ rfl _) (str_first (fun _ => rfl) _) hl31) ?_
  rintro s31 M35 (hH35 : Has (ro (frozen M)) M35 [.vec 5 1 l31.length s31 (l31.flatMap enc5), .obj b25 (.row 124 .whole [(.ptr b25 0), .nils]), tb0, tb1, tb2])
  refine Run.opG wantS_none (ex_nilP rfl) rfl ?_
  refine Run.opG wantS_none (ex_fieldAddr rfl off124_1) rfl ?_
  refine Run.opX wantS_none rfl (ExG.storeC (c' := [(.ptr b25 0), s31]) rfl rfl (cells_one (vec_one hH35 (i := 0) rfl)) hH35 (i := 1) rfl sz108 rfl rfl rfl (ones_cons (vec_one hH35 (i := 0) rfl) ones_nil) rfl) ?_
  rintro _ M36 ⟨rfl, (hH36 : Has (ro (frozen M)) M36 [.vec 5 1 l31.length s31 (l31.flatMap enc5), .obj b25 (.row 124 .whole [(.ptr b25 0), s31]), tb0, tb1, tb2])⟩
  refine Run.opsEnd (Run.seq (Run.region ?_))
  refine Run.opG wantS_none (ex_move rfl) rfl ?_
  refine Run.opG wantS_none (ex_lenS rfl lenk9) rfl ?_
  refine Run.opG wantS_none (ex_assign rfl) rfl ?_
  refine Run.opG wantS_none (ex_assign rfl) rfl ?_
  refine Run.opsEnd ?_
  refine Run.retTo Tryd.func94 rfl (res_tmp rfl (res_tmp rfl res_nil)) rfl ?_
  refine Run.opsEnd (Run.seq (Run.seq (Run.region ?_)))
  refine Run.opG wantS_none (ex_move rfl) rfl ?_
  refine Run.opG wantS_none (ex_len' rfl hs0 lenk27) rfl ?_
  refine Run.opG wantS_none (ex_move rfl) rfl ?_
  refine Run.opsEnd (Run.block (Run.loop ?_))
  exact Run.pick [5, 10, 11, 12] (alert_line_1_ok F F a1 (a1.length : Int) (0 : Int) l31 s0 b25 s31 _ _ _ hs0 (hH36.pick [1, 0, 2, 3, 4] rfl rfl) h)

theorem mkk101 : makeK Tryd.prog 101 = none := by kernel_rfl
theorem cal101 : callable Tryd.prog 101 = true := by kernel_rfl
abbrev alert_sheet_head_post (r : (List UInt8)) : SV → Mem → Prop := fun s _ => s = (.str r)

def alert_sheet_head (F : Nat) (a0 : S_api_Alert) : Option ((List UInt8)) :=
  bnd (sCat [97, 108, 101, 114, 116, 32] a0.Event) fun z28 =>
  bnd (alert_line F z28 ([a0.Version] : List Int)) fun r33 =>
  some r33

theorem alert_sheet_head_ok (F : Nat) (a0 : S_api_Alert) (s0 : SV) (r : (List UInt8)) (M : Mem) (hs0 : Slc (rd M) 1 (FlatR enc3) s0 a0.Cells) (hfx : FixIn M fixes) (h : alert_sheet_head F a0 = some r) : CallsM Tryd.prog 87 [(.agg [(.str a0.Event), (.int .i64 a0.Version), (.int .i64 a0.Time), (.int .i64 a0.Chance.N), (.int .i64 a0.Chance.Of), (.int .i64 a0.Grid), s0, (.bool a0.Withdrawn), (.int .i64 a0.Before)])] M (fun s M' => s = (.str r) ∧ M' = M) := by
  refine CallsM.plain Tryd.func87 rfl rfl rfl (show Run _ _ _ (alert_sheet_head_post r) _ _ _ from ?_)
  rw [alert_sheet_head] at h
  replace hs0 := hs0.mono (rdLe_frozen M) (fun _ _ h => h)
  have hH : Has (ro (frozen M)) (frozen M) [tb0, tb1, tb2] := Has.ofFix hfx.frozen
  refine Run.seq (Run.region ?_)
  refine Run.opX wantS_none rfl (ExG.box rfl rfl hH) ?_
  rintro _ M26 ⟨b25, rfl, hH26⟩
  refine Run.opG wantS_none (ex_assign rfl) rfl ?_
  refine Run.opsEnd (Run.seq (Run.region ?_))
  refine Run.opG wantS_none (ex_fieldAddr rfl off119_0) rfl ?_
  refine Run.opG wantS_none (ex_load1 rfl (hH26.cells (i := 0) rfl 0 rfl) rdLe_rfl agg9) rfl ?_
  obtain ⟨z28, hz28, h⟩ := bnd_some h
  refine Run.opG wantS_none (ex_cat rfl rfl hz28) rfl ?_
  refine Run.opG wantS_none (ex_fieldAddr rfl off119_1) rfl ?_
  refine Run.opG wantS_none (ex_load1 rfl (hH26.cells (i := 0) rfl 1 rfl) rdLe_rfl agg3) rfl ?_
  refine Run.opX wantS_none rfl (ExG.built (enc := enc3) (l := ([a0.Version] : List Int)) (z := 1) rfl elt27 rfl rfl rfl enc3_len hH26) ?_
  rintro s30 M31 (hH31 : Has (ro (frozen M)) M31 [.vec 3 1 ([a0.Version] : List Int).length s30 (([a0.Version] : List Int).flatMap enc3), .obj b25 (.row 119 .whole [(.str a0.Event), (.int .i64 a0.Version), (.int .i64 a0.Time), (.int .i64 a0.Chance.N), (.int .i64 a0.Chance.Of), (.int .i64 a0.Grid), s0, (.bool a0.Withdrawn), (.int .i64 a0.Before)]), tb0, tb1, tb2])
  obtain ⟨r33, hr33, h⟩ := bnd_some h
  refine Run.callP wantS_none (ex_call rfl mkk101 cal101) rfl (alert_line_ok F z28 ([a0.Version] : List Int) s30 _ _ (hH31.slc (i := 0) rfl enc3_len) (fixH hH31 (List.mem_of_getElem? (i := 2) rfl) (List.mem_of_getElem? (i := 3) rfl) (List.mem_of_getElem? (i := 4) rfl)) hr33) ?_
  refine Run.opG wantS_none (ex_assign rfl) rfl ?_
  refine Run.opsEnd ?_
  cases h
  exact Run.ret Tryd.func87 rfl (res_tmp rfl res_nil) rfl

theorem mkk88 : makeK Tryd.prog 88 = none := by kernel_rfl
theorem cal88 : callable Tryd.prog 88 = true := by kernel_rfl
theorem off119_2 : fieldOff Tryd.prog 119 2 = some 2 := by kernel_rfl
end Go.Ev.AlertDrafts
