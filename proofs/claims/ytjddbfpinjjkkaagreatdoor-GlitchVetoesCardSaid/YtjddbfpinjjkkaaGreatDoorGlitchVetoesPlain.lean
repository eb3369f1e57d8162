/- Plain functions that say what functions of the program come to, and proofs of it, written by a program of the verifier's own. -/
import Derived.Test.YtjddbfpinjjkkaaGreatDoorSort
import Derived.Test.YtjddbfpinjjkkaaGreatDoorEvL21
import Derived.Test.YtjddbfpinjjkkaaGreatDoorWorks
import Derived.KernelRfl
namespace Go.Ev.GlitchVetoes
open Go Go.Ev Go.Proofs
set_option maxRecDepth 100000
set_option linter.unusedVariables false

noncomputable def fixes : List (Nat × List SV) := Go.Proofs.YtjddbfpinjjkkaaGreatDoor.works.fixes
noncomputable def tb0 : Ent := fixE (5, intCells .u8 [0, 1, 28, 2, 29, 14, 24, 3, 30, 22, 20, 15, 25, 17, 4, 8, 31, 27, 13, 23, 21, 19, 16, 7, 26, 12, 18, 6, 11, 5, 10, 9])
noncomputable def tb1 : Ent := fixE (2, intCells .u8 [0, 1, 56, 2, 57, 49, 28, 3, 61, 58, 42, 50, 38, 29, 17, 4, 62, 47, 59, 36, 45, 43, 51, 22, 53, 39, 33, 30, 24, 18, 12, 5, 63, 55, 48, 27, 60, 41, 37, 16, 46, 35, 44, 21, 52, 32, 23, 11, 54, 26, 40, 15, 34, 20, 31, 10, 25, 14, 19, 9, 13, 8, 7, 6])
noncomputable def tb2 : Ent := fixE (4, intCells .u64 [1, 10, 100, 1000, 10000, 100000, 1000000, 10000000, 100000000, 1000000000, 10000000000, 100000000000, 1000000000000, 10000000000000, 100000000000000, 1000000000000000, 10000000000000000, 100000000000000000, 1000000000000000000, 10000000000000000000])
def works (_ : Nat) : Option Bool := some true
theorem fixH {Fr : Rd} {H : List Ent} {M : Mem} (hH : Has Fr M H) (h0 : tb0 ∈ H) (h1 : tb1 ∈ H) (h2 : tb2 ∈ H) : FixIn M fixes := by
 refine hH.fixIn fun x hx => ?_
 simp only [fixes, Go.Proofs.YtjddbfpinjjkkaaGreatDoor.works.fixes, List.mem_cons, List.not_mem_nil, or_false] at hx
 rcases hx with rfl | rfl | rfl
 ·exact h0
 ·exact h1
 ·exact h2

theorem works_ok (F : Nat) (r : Bool) {Fr : Rd} {H : List Ent} (M : Mem) (hH : Has Fr M H) (h0 : tb0 ∈ H) (h1 : tb1 ∈ H) (h2 : tb2 ∈ H) (h : works F = some r) : CallsM Tryz.prog 11 [] M fun s M' => s = .bool r ∧ M' = M := by
 cases h
 refine CallsM.closedFix (n := 600) (l := Go.Proofs.YtjddbfpinjjkkaaGreatDoor.works.fixes) Go.Proofs.YtjddbfpinjjkkaaGreatDoor.works.below Go.Proofs.YtjddbfpinjjkkaaGreatDoor.works.plainF Go.Proofs.YtjddbfpinjjkkaaGreatDoor.works.works_true (hH.fixIn fun x hx => ?_)
 simp only [Go.Proofs.YtjddbfpinjjkkaaGreatDoor.works.fixes, List.mem_cons, List.not_mem_nil, or_false] at hx
 rcases hx with rfl | rfl | rfl
 ·exact h0
 ·exact h1
 ·exact h2


structure S_api_Segment where
 From : Int
 To : Int

instance : Inhabited S_api_Segment := ⟨(S_api_Segment.mk (0 : Int) (0 : Int))⟩

structure S_api_Veto where
 Name : (List UInt8)
 Segments : (List S_api_Segment)

structure S_ringdownlaw06_Watch where
 Times : (List Int)
 Span : Int

def enc37 (a : S_api_Segment) : List SV := [(.int .i64 a.From), (.int .i64 a.To)]
theorem enc37_len (a : S_api_Segment) : (enc37 a).length = 2 := rfl
theorem enc37_ones (a : S_api_Segment) : ones (enc37 a) = true := rfl
def rep35 (f : Rd) (cs : List SV) (a : S_api_Veto) : Prop := ∃ q1, cs = [(.str a.Name), q1] ∧ Slc f 2 (FlatR enc37) q1 a.Segments
theorem rep35_mo {f g : Rd} (h : RdLe f g) {cs : List SV} {a : S_api_Veto} : rep35 f cs a → rep35 g cs a := by
 rintro ⟨q1, rfl, h0⟩
 exact ⟨q1, rfl, h0.mono h (fun _ _ h => h)⟩
theorem rep35_len {f : Rd} {cs : List SV} {a : S_api_Veto} : rep35 f cs a → cs.length = 2 := by
 rintro ⟨_, rfl, h0⟩
 rfl
theorem rep35_ones {f : Rd} {cs : List SV} {a : S_api_Veto} : rep35 f cs a → ones cs = true := by
 rintro ⟨_, rfl, h0⟩
 exact (ones_cons rfl (ones_cons (slc_one h0) ones_nil))
def enc3 (a : Int) : List SV := [(.int .i64 a)]
theorem enc3_len (a : Int) : (enc3 a).length = 1 := rfl
theorem enc3_ones (a : Int) : ones (enc3 a) = true := rfl
theorem lenk22 : lenK Tryz.prog 22 = some .sl := by kernel_rfl
def kv9 (a : (List UInt8)) : SV := (.str a)
def kv4 (a : Bool) : SV := (.bool a)
theorem kk9 : keyK Tryz.prog 9 = some .str := by kernel_rfl
theorem kok109 : ∀ a, keyOK Tryz.prog 8 9 (kv9 a) = true := fun a => congrFun (show (fun a => keyOK Tryz.prog 8 9 (kv9 a)) = fun _ => true by kernel_rfl) a
theorem keq109 : ∀ a b, keyEq Tryz.prog 9 (kv9 a) (kv9 b) = some (eqB a b) := (fun a b => keyEq_string kk9)
theorem khe109 : ∀ a b, eqB a b = true → a = b := (fun a b h => eq_of_beq h)
theorem kzr109 : zeroS Tryz.prog 4 = some (kv4 false) := by kernel_rfl
theorem kmt109 : mapT Tryz.prog 109 = some (9, 4) := by kernel_rfl
theorem els22 : elems Tryz.prog 22 = some (.sl 2) := by kernel_rfl
theorem agg35 : aggSize Tryz.prog 35 = some (some 2) := by kernel_rfl
theorem zer35 : zerosOf Tryz.prog 35 = some [(.str []), .nils] := by kernel_rfl
theorem sz35 : szOf Tryz.prog 35 = some 2 := by kernel_rfl
theorem off35_0 : fieldOff Tryz.prog 35 0 = some 0 := by kernel_rfl
theorem agg9 : aggSize Tryz.prog 9 = some none := by kernel_rfl
theorem lenk9 : lenK Tryz.prog 9 = some .str := by kernel_rfl
theorem uvk9_146 : uvK Tryz.prog 9 146 = none := by kernel_rfl
theorem cvk9_146 : cvK Tryz.prog 9 146 = some (.bytes 5) := by kernel_rfl
def enc5 (a : Int) : List SV := [(.int .u8 a)]
theorem enc5_len (a : Int) : (enc5 a).length = 1 := rfl
theorem enc5_ones (a : Int) : ones (enc5 a) = true := rfl
theorem lenk146 : lenK Tryz.prog 146 = some .sl := by kernel_rfl
theorem els146 : elems Tryz.prog 146 = some (.sl 1) := by kernel_rfl
theorem agg5 : aggSize Tryz.prog 5 = some none := by kernel_rfl
abbrev num_IsName_post (r : Bool) : SV → Mem → Prop := fun s _ => s = (.bool r)

def num_IsName_7 (F : Nat) (hd2 : (List Int) → Int → Int → Option (Bool)) (v16 : (List Int)) (v17 v18 : Int) (v48 : Bool) : Option (Bool) :=
 bif v48 then
  some false
 else
  hd2 v16 v17 (w64 (v18 + (1 : Int)))

theorem num_IsName_7_ok (F : Nat) (hd2 : (List Int) → Int → Int → Option (Bool)) (hhd2 : ∀ (v16 : (List Int)) (v17 v18 : Int) (sv16 : SV) (Fr : Rd) (M : Mem) (r : Bool) (hv16 : Slc Fr 1 (FlatR enc5) sv16 v16) (hH : Has Fr M []), hd2 v16 v17 v18 = some r → Run Tryz.prog ⟨⟨73, [], none⟩, []⟩ 50 (num_IsName_post r) [(16, sv16), (17, (.int .i64 v17)), (18, (.int .i64 v18))] [codeC Tryz.prog 73 [1, 1, 0, 1, 0, 0], loopC Tryz.prog 73 [1, 1, 0, 1, 0, 0], .inBlock 0, codeC Tryz.prog 73 [1, 1, 1]] M) : ∀ (v16 : (List Int)) (v17 v18 : Int) (v48 : Bool) (sv16 : SV) (Fr : Rd) (M : Mem) (r : Bool) (hv16 : Slc Fr 1 (FlatR enc5) sv16 v16) (hH : Has Fr M []), num_IsName_7 F hd2 v16 v17 v18 v48 = some r → Run Tryz.prog ⟨⟨73, [], none⟩, []⟩ 50 (num_IsName_post r) [(16, sv16), (17, (.int .i64 v17)), (18, (.int .i64 v18)), (48, (.bool v48))] [codeC Tryz.prog 73 [1, 1, 0, 1, 0, 0, 1, 1, 0, 0, 1, 1, 1, 1], .inBlock 1, codeC Tryz.prog 73 [1, 1, 0, 1, 0, 0, 1, 1, 1], loopC Tryz.prog 73 [1, 1, 0, 1, 0, 0], .inBlock 0, codeC Tryz.prog 73 [1, 1, 1]] M := by
 intro v16 v17 v18 v48 sv16 Fr M r hv16 hH h
 rw [num_IsName_7] at h
 rcases btf (v48) with hc37 | hc37
 ·have h := bif_t hc37 h
  refine Run.condT' rfl hc37 ?_
  refine Run.seq (Run.region ?_)
  refine Run.opG wantS_none (ex_assign rfl) rfl <| Run.opsEnd ?_
  cases h
  exact Run.ret Tryz.func73 rfl (res_tmp rfl res_nil) rfl
 ·have h := bif_f hc37 h
  refine Run.condF' rfl hc37 ?_
  refine Run.skip (Run.inBlock (Run.region ?_))
  refine Run.opG wantS_none (ex_add rfl rfl) rfl <| Run.opG wantS_none (ex_move rfl) rfl ?_
  refine Run.opsEnd (Run.inLoop ?_)
  exact Run.pick [16, 17, 18] (hhd2 v16 v17 (w64 (v18 + (1 : Int))) sv16 _ _ _ hv16 hH h)

def num_IsName_6 (F : Nat) (hd2 : (List Int) → Int → Int → Option (Bool)) (v16 : (List Int)) (v17 v18 : Int) (v41 v46 : Bool) : Option (Bool) :=
 bif v41 then
  num_IsName_7 F hd2 v16 v17 v18 (!v46)
 else
  num_IsName_7 F hd2 v16 v17 v18 false

theorem num_IsName_6_ok (F : Nat) (hd2 : (List Int) → Int → Int → Option (Bool)) (hhd2 : ∀ (v16 : (List Int)) (v17 v18 : Int) (sv16 : SV) (Fr : Rd) (M : Mem) (r : Bool) (hv16 : Slc Fr 1 (FlatR enc5) sv16 v16) (hH : Has Fr M []), hd2 v16 v17 v18 = some r → Run Tryz.prog ⟨⟨73, [], none⟩, []⟩ 50 (num_IsName_post r) [(16, sv16), (17, (.int .i64 v17)), (18, (.int .i64 v18))] [codeC Tryz.prog 73 [1, 1, 0, 1, 0, 0], loopC Tryz.prog 73 [1, 1, 0, 1, 0, 0], .inBlock 0, codeC Tryz.prog 73 [1, 1, 1]] M) : ∀ (v16 : (List Int)) (v17 v18 : Int) (v41 v46 : Bool) (sv16 : SV) (Fr : Rd) (M : Mem) (r : Bool) (hv16 : Slc Fr 1 (FlatR enc5) sv16 v16) (hH : Has Fr M []), num_IsName_6 F hd2 v16 v17 v18 v41 v46 = some r → Run Tryz.prog ⟨⟨73, [], none⟩, []⟩ 50 (num_IsName_post r) [(16, sv16), (17, (.int .i64 v17)), (18, (.int .i64 v18)), (41, (.bool v41)), (46, (.bool v46))] [itemC Tryz.prog 73 [1, 1, 0, 1, 0, 0, 1, 1, 0, 0, 1, 1, 1, 0] 8, codeC Tryz.prog 73 [1, 1, 0, 1, 0, 0, 1, 1, 0, 0, 1, 1, 1, 1], .inBlock 1, codeC Tryz.prog 73 [1, 1, 0, 1, 0, 0, 1, 1, 1], loopC Tryz.prog 73 [1, 1, 0, 1, 0, 0], .inBlock 0, codeC Tryz.prog 73 [1, 1, 1]] M := by
 intro v16 v17 v18 v41 v46 sv16 Fr M r hv16 hH h
 rw [num_IsName_6] at h
 rcases btf (v41) with hc36 | hc36
 ·have h := bif_t hc36 h
  refine Run.opG (wantS_yes' rfl rfl hc36) (ex_not rfl) rfl <| Run.opG wantS_none (ex_pickT' rfl hc36 rfl rfl) rfl <| Run.opsEnd ?_
  exact Run.pick [16, 17, 18, 48] (num_IsName_7_ok F hd2 hhd2 v16 v17 v18 (!v46) sv16 _ _ _ hv16 hH h)
 ·have h := bif_f hc36 h
  refine Run.no (wantS_not' rfl rfl hc36) rfl <| Run.opG wantS_none (ex_pickF' rfl hc36 rfl rfl) rfl <| Run.opsEnd ?_
  exact Run.pick [16, 17, 18, 48] (num_IsName_7_ok F hd2 hhd2 v16 v17 v18 false sv16 _ _ _ hv16 hH h)

def num_IsName_8 (F : Nat) (hd2 : (List Int) → Int → Int → Option (Bool)) (v16 : (List Int)) (v17 v18 : Int) (v41 : Bool) : Option (Bool) :=
 bif v41 then
  none
 else
  num_IsName_7 F hd2 v16 v17 v18 false

theorem num_IsName_8_ok (F : Nat) (hd2 : (List Int) → Int → Int → Option (Bool)) (hhd2 : ∀ (v16 : (List Int)) (v17 v18 : Int) (sv16 : SV) (Fr : Rd) (M : Mem) (r : Bool) (hv16 : Slc Fr 1 (FlatR enc5) sv16 v16) (hH : Has Fr M []), hd2 v16 v17 v18 = some r → Run Tryz.prog ⟨⟨73, [], none⟩, []⟩ 50 (num_IsName_post r) [(16, sv16), (17, (.int .i64 v17)), (18, (.int .i64 v18))] [codeC Tryz.prog 73 [1, 1, 0, 1, 0, 0], loopC Tryz.prog 73 [1, 1, 0, 1, 0, 0], .inBlock 0, codeC Tryz.prog 73 [1, 1, 1]] M) : ∀ (v16 : (List Int)) (v17 v18 : Int) (v41 : Bool) (sv16 : SV) (Fr : Rd) (M : Mem) (r : Bool) (hv16 : Slc Fr 1 (FlatR enc5) sv16 v16) (hH : Has Fr M []), num_IsName_8 F hd2 v16 v17 v18 v41 = some r → Run Tryz.prog ⟨⟨73, [], none⟩, []⟩ 50 (num_IsName_post r) [(16, sv16), (17, (.int .i64 v17)), (18, (.int .i64 v18)), (41, (.bool v41)), (46, (.tuple []))] [itemC Tryz.prog 73 [1, 1, 0, 1, 0, 0, 1, 1, 0, 0, 1, 1, 1, 0] 8, codeC Tryz.prog 73 [1, 1, 0, 1, 0, 0, 1, 1, 0, 0, 1, 1, 1, 1], .inBlock 1, codeC Tryz.prog 73 [1, 1, 0, 1, 0, 0, 1, 1, 1], loopC Tryz.prog 73 [1, 1, 0, 1, 0, 0], .inBlock 0, codeC Tryz.prog 73 [1, 1, 1]] M := by
 intro v16 v17 v18 v41 sv16 Fr M r hv16 hH h
 rw [num_IsName_8] at h
 rcases btf (v41) with hc38 | hc38
 ·have h := bif_t hc38 h
  cases h
 ·have h := bif_f hc38 h
  refine Run.no (wantS_not' rfl rfl hc38) rfl <| Run.opG wantS_none (ex_pickF' rfl hc38 rfl rfl) rfl <| Run.opsEnd ?_
  exact Run.pick [16, 17, 18, 48] (num_IsName_7_ok F hd2 hhd2 v16 v17 v18 false sv16 _ _ _ hv16 hH h)

def num_IsName_5 (F : Nat) (hd2 : (List Int) → Int → Int → Option (Bool)) (v3 : Int) (v5 : Bool) (v16 : (List Int)) (v17 v18 : Int) (v38 : Bool) : Option (Bool) :=
 bif (!v5) then
  bif v38 then
   num_IsName_6 F hd2 v16 v17 v18 (!v5) (decide ((0 : Int) < v3))
  else
   num_IsName_6 F hd2 v16 v17 v18 (!v5) false
 else
  num_IsName_8 F hd2 v16 v17 v18 (!v5)

theorem num_IsName_5_ok (F : Nat) (hd2 : (List Int) → Int → Int → Option (Bool)) (hhd2 : ∀ (v16 : (List Int)) (v17 v18 : Int) (sv16 : SV) (Fr : Rd) (M : Mem) (r : Bool) (hv16 : Slc Fr 1 (FlatR enc5) sv16 v16) (hH : Has Fr M []), hd2 v16 v17 v18 = some r → Run Tryz.prog ⟨⟨73, [], none⟩, []⟩ 50 (num_IsName_post r) [(16, sv16), (17, (.int .i64 v17)), (18, (.int .i64 v18))] [codeC Tryz.prog 73 [1, 1, 0, 1, 0, 0], loopC Tryz.prog 73 [1, 1, 0, 1, 0, 0], .inBlock 0, codeC Tryz.prog 73 [1, 1, 1]] M) : ∀ (v3 : Int) (v5 : Bool) (v16 : (List Int)) (v17 v18 : Int) (v38 : Bool) (sv16 : SV) (Fr : Rd) (M : Mem) (r : Bool) (hv16 : Slc Fr 1 (FlatR enc5) sv16 v16) (hH : Has Fr M []), num_IsName_5 F hd2 v3 v5 v16 v17 v18 v38 = some r → Run Tryz.prog ⟨⟨73, [], none⟩, []⟩ 50 (num_IsName_post r) [(3, (.int .i64 v3)), (5, (.bool v5)), (16, sv16), (17, (.int .i64 v17)), (18, (.int .i64 v18)), (38, (.bool v38))] [itemC Tryz.prog 73 [1, 1, 0, 1, 0, 0, 1, 1, 0, 0, 1, 1, 0] 10, codeC Tryz.prog 73 [1, 1, 0, 1, 0, 0, 1, 1, 0, 0, 1, 1, 1], .inBlock 1, codeC Tryz.prog 73 [1, 1, 0, 1, 0, 0, 1, 1, 1], loopC Tryz.prog 73 [1, 1, 0, 1, 0, 0], .inBlock 0, codeC Tryz.prog 73 [1, 1, 1]] M := by
 intro v3 v5 v16 v17 v18 v38 sv16 Fr M r hv16 hH h
 rw [num_IsName_5] at h
 refine Run.opG wantS_none (ex_assign rfl) rfl ?_
 refine Run.opsEnd (Run.seq (Run.region ?_))
 refine Run.opG wantS_none (ex_move rfl) rfl <| Run.opG wantS_none (ex_not rfl) rfl <| Run.opG wantS_none (ex_move rfl) rfl ?_
 rcases btf ((!v5)) with hc34 | hc34
 ·have h := bif_t hc34 h
  refine Run.opG (wantS_yes' rfl rfl hc34) (ex_move rfl) rfl <| Run.opG (wantS_yes' rfl rfl hc34) (ex_move rfl) rfl ?_
  rcases btf (v38) with hc35 | hc35
  ·have h := bif_t hc35 h
   refine Run.opG (wantS_yes' rfl rfl hc35) (ex_move rfl) rfl <| Run.opG (wantS_yes' rfl rfl hc35) (ex_gtr rfl rfl) rfl <| Run.opG (wantS_yes' rfl rfl hc34) (ex_pickT' rfl hc35 rfl rfl) rfl ?_
   exact Run.pick [16, 17, 18, 41, 46] (num_IsName_6_ok F hd2 hhd2 v16 v17 v18 (!v5) (decide ((0 : Int) < v3)) sv16 _ _ _ hv16 hH h)
  ·have h := bif_f hc35 h
   refine Run.no (wantS_not' rfl rfl hc35) rfl <| Run.no (wantS_not' rfl rfl hc35) rfl <| Run.opG (wantS_yes' rfl rfl hc34) (ex_pickF' rfl hc35 rfl rfl) rfl ?_
   exact Run.pick [16, 17, 18, 41, 46] (num_IsName_6_ok F hd2 hhd2 v16 v17 v18 (!v5) false sv16 _ _ _ hv16 hH h)
 ·have h := bif_f hc34 h
  refine Run.no (wantS_not' rfl rfl hc34) rfl <| Run.no (wantS_not' rfl rfl hc34) rfl <| Run.no (wantS_skip rfl rfl) rfl <| Run.no (wantS_skip rfl rfl) rfl <| Run.no (wantS_not' rfl rfl hc34) rfl ?_
  exact Run.pick [16, 17, 18, 41, 46] (num_IsName_8_ok F hd2 hhd2 v16 v17 v18 (!v5) sv16 _ _ _ hv16 hH h)

def num_IsName_4 (F : Nat) (hd2 : (List Int) → Int → Int → Option (Bool)) (v3 v4 : Int) (v5 : Bool) (v16 : (List Int)) (v17 v18 : Int) (v34 : Bool) : Option (Bool) :=
 bif v34 then
  num_IsName_5 F hd2 v3 v5 v16 v17 v18 true
 else
  num_IsName_5 F hd2 v3 v5 v16 v17 v18 (v4 == (95 : Int))

theorem num_IsName_4_ok (F : Nat) (hd2 : (List Int) → Int → Int → Option (Bool)) (hhd2 : ∀ (v16 : (List Int)) (v17 v18 : Int) (sv16 : SV) (Fr : Rd) (M : Mem) (r : Bool) (hv16 : Slc Fr 1 (FlatR enc5) sv16 v16) (hH : Has Fr M []), hd2 v16 v17 v18 = some r → Run Tryz.prog ⟨⟨73, [], none⟩, []⟩ 50 (num_IsName_post r) [(16, sv16), (17, (.int .i64 v17)), (18, (.int .i64 v18))] [codeC Tryz.prog 73 [1, 1, 0, 1, 0, 0], loopC Tryz.prog 73 [1, 1, 0, 1, 0, 0], .inBlock 0, codeC Tryz.prog 73 [1, 1, 1]] M) : ∀ (v3 v4 : Int) (v5 : Bool) (v16 : (List Int)) (v17 v18 : Int) (v34 : Bool) (sv16 : SV) (Fr : Rd) (M : Mem) (r : Bool) (hv16 : Slc Fr 1 (FlatR enc5) sv16 v16) (hH : Has Fr M []), num_IsName_4 F hd2 v3 v4 v5 v16 v17 v18 v34 = some r → Run Tryz.prog ⟨⟨73, [], none⟩, []⟩ 50 (num_IsName_post r) [(3, (.int .i64 v3)), (4, (.int .u8 v4)), (5, (.bool v5)), (16, sv16), (17, (.int .i64 v17)), (18, (.int .i64 v18)), (34, (.bool v34))] [itemC Tryz.prog 73 [1, 1, 0, 1, 0, 0, 1, 1, 0, 0, 1, 1, 0] 6, codeC Tryz.prog 73 [1, 1, 0, 1, 0, 0, 1, 1, 0, 0, 1, 1, 1], .inBlock 1, codeC Tryz.prog 73 [1, 1, 0, 1, 0, 0, 1, 1, 1], loopC Tryz.prog 73 [1, 1, 0, 1, 0, 0], .inBlock 0, codeC Tryz.prog 73 [1, 1, 1]] M := by
 intro v3 v4 v5 v16 v17 v18 v34 sv16 Fr M r hv16 hH h
 rw [num_IsName_4] at h
 refine Run.opG wantS_none (ex_move rfl) rfl ?_
 rcases btf (v34) with hc33 | hc33
 ·have h := bif_t hc33 h
  refine Run.no (wantS_not' rfl rfl hc33) rfl <| Run.no (wantS_not' rfl rfl hc33) rfl <| Run.opG wantS_none (ex_pickT' rfl hc33 rfl rfl) rfl ?_
  exact Run.pick [3, 5, 16, 17, 18, 38] (num_IsName_5_ok F hd2 hhd2 v3 v5 v16 v17 v18 true sv16 _ _ _ hv16 hH h)
 ·have h := bif_f hc33 h
  refine Run.opG (wantS_yes' rfl rfl hc33) (ex_move rfl) rfl <| Run.opG (wantS_yes' rfl rfl hc33) (ex_eql rfl rfl) rfl <| Run.opG wantS_none (ex_pickF' rfl hc33 rfl rfl) rfl ?_
  exact Run.pick [3, 5, 16, 17, 18, 38] (num_IsName_5_ok F hd2 hhd2 v3 v5 v16 v17 v18 (v4 == (95 : Int)) sv16 _ _ _ hv16 hH h)

def num_IsName_3 (F : Nat) (hd2 : (List Int) → Int → Int → Option (Bool)) (v3 v4 : Int) (v16 : (List Int)) (v17 v18 : Int) (v28 : Bool) : Option (Bool) :=
 bif (decide ((48 : Int) ≤ v4)) then
  num_IsName_4 F hd2 v3 v4 v28 v16 v17 v18 (decide (v4 ≤ (57 : Int)))
 else
  num_IsName_4 F hd2 v3 v4 v28 v16 v17 v18 false

theorem num_IsName_3_ok (F : Nat) (hd2 : (List Int) → Int → Int → Option (Bool)) (hhd2 : ∀ (v16 : (List Int)) (v17 v18 : Int) (sv16 : SV) (Fr : Rd) (M : Mem) (r : Bool) (hv16 : Slc Fr 1 (FlatR enc5) sv16 v16) (hH : Has Fr M []), hd2 v16 v17 v18 = some r → Run Tryz.prog ⟨⟨73, [], none⟩, []⟩ 50 (num_IsName_post r) [(16, sv16), (17, (.int .i64 v17)), (18, (.int .i64 v18))] [codeC Tryz.prog 73 [1, 1, 0, 1, 0, 0], loopC Tryz.prog 73 [1, 1, 0, 1, 0, 0], .inBlock 0, codeC Tryz.prog 73 [1, 1, 1]] M) : ∀ (v3 v4 : Int) (v16 : (List Int)) (v17 v18 : Int) (v28 : Bool) (sv16 : SV) (Fr : Rd) (M : Mem) (r : Bool) (hv16 : Slc Fr 1 (FlatR enc5) sv16 v16) (hH : Has Fr M []), num_IsName_3 F hd2 v3 v4 v16 v17 v18 v28 = some r → Run Tryz.prog ⟨⟨73, [], none⟩, []⟩ 50 (num_IsName_post r) [(3, (.int .i64 v3)), (4, (.int .u8 v4)), (16, sv16), (17, (.int .i64 v17)), (18, (.int .i64 v18)), (28, (.bool v28))] [itemC Tryz.prog 73 [1, 1, 0, 1, 0, 0, 1, 1, 0, 0, 1, 0] 6, codeC Tryz.prog 73 [1, 1, 0, 1, 0, 0, 1, 1, 0, 0, 1, 1], .inBlock 1, codeC Tryz.prog 73 [1, 1, 0, 1, 0, 0, 1, 1, 1], loopC Tryz.prog 73 [1, 1, 0, 1, 0, 0], .inBlock 0, codeC Tryz.prog 73 [1, 1, 1]] M := by
 intro v3 v4 v16 v17 v18 v28 sv16 Fr M r hv16 hH h
 rw [num_IsName_3] at h
 refine Run.opG wantS_none (ex_assign rfl) rfl ?_
 refine Run.opsEnd (Run.seq (Run.region ?_))
 refine Run.opG wantS_none (ex_move rfl) rfl <| Run.opG wantS_none (ex_geq rfl rfl) rfl <| Run.opG wantS_none (ex_move rfl) rfl ?_
 rcases btf ((decide ((48 : Int) ≤ v4))) with hc32 | hc32
 ·have h := bif_t hc32 h
  refine Run.opG (wantS_yes' rfl rfl hc32) (ex_move rfl) rfl <| Run.opG (wantS_yes' rfl rfl hc32) (ex_leq rfl rfl) rfl <| Run.opG wantS_none (ex_pickT' rfl hc32 rfl rfl) rfl ?_
  exact Run.pick [3, 4, 5, 16, 17, 18, 34] (num_IsName_4_ok F hd2 hhd2 v3 v4 v28 v16 v17 v18 (decide (v4 ≤ (57 : Int))) sv16 _ _ _ hv16 hH h)
 ·have h := bif_f hc32 h
  refine Run.no (wantS_not' rfl rfl hc32) rfl <| Run.no (wantS_not' rfl rfl hc32) rfl <| Run.opG wantS_none (ex_pickF' rfl hc32 rfl rfl) rfl ?_
  exact Run.pick [3, 4, 5, 16, 17, 18, 34] (num_IsName_4_ok F hd2 hhd2 v3 v4 v28 v16 v17 v18 false sv16 _ _ _ hv16 hH h)

def num_IsName_2 (F : Nat) : Nat → (List Int) → Int → Int → Option (Bool)
 | 0, _, _, _ => none
 | N + 1, v16, v17, v18 =>
  bif (decide (v18 < v17)) then
   bnd (idx v16 v18) fun x30 =>
   bif (decide ((97 : Int) ≤ x30)) then
    num_IsName_3 F (num_IsName_2 F N) v18 x30 v16 v17 v18 (decide (x30 ≤ (122 : Int)))
   else
    num_IsName_3 F (num_IsName_2 F N) v18 x30 v16 v17 v18 false
  else
   some true

theorem num_IsName_2_ok (F : Nat) : ∀ (N : Nat), ∀ (v16 : (List Int)) (v17 v18 : Int) (sv16 : SV) (Fr : Rd) (M : Mem) (r : Bool) (hv16 : Slc Fr 1 (FlatR enc5) sv16 v16) (hH : Has Fr M []), num_IsName_2 F N v16 v17 v18 = some r → Run Tryz.prog ⟨⟨73, [], none⟩, []⟩ 50 (num_IsName_post r) [(16, sv16), (17, (.int .i64 v17)), (18, (.int .i64 v18))] [codeC Tryz.prog 73 [1, 1, 0, 1, 0, 0], loopC Tryz.prog 73 [1, 1, 0, 1, 0, 0], .inBlock 0, codeC Tryz.prog 73 [1, 1, 1]] M := by
 intro N
 induction N with
 | zero =>
  intro v16 v17 v18 sv16 Fr M r hv16 hH h
  simp [num_IsName_2] at h
 | succ N ih =>
  intro v16 v17 v18 sv16 Fr M r hv16 hH h
  rw [num_IsName_2] at h
  refine Run.seq (Run.region ?_)
  refine Run.opG wantS_none (ex_lss rfl rfl) rfl ?_
  refine Run.opsEnd (Run.seq ?_)
  rcases btf ((decide (v18 < v17))) with hc28 | hc28
  ·have h := bif_t hc28 h
   refine Run.condT' rfl hc28 ?_
   refine Run.skip (Run.seq (Run.block (Run.seq (Run.region ?_))))
   refine Run.opG wantS_none (ex_move rfl) rfl ?_
   obtain ⟨x30, hx30, h⟩ := bnd_some h
   obtain ⟨p30, o30, _, hx30, hp30, rfl⟩ := sl_elem (P := Tryz.prog) (t := 146) (kk := .i64) hv16 hx30 els146
   refine Run.opG wantS_none (ex_elX rfl rfl hx30) rfl <| Run.opG wantS_none (ex_load1 rfl (hH.ptrF hp30) rdLe_rfl agg5) rfl <| Run.opG wantS_none (ex_assign rfl) rfl <| Run.opG wantS_none (ex_assign rfl) rfl ?_
   refine Run.opsEnd (Run.seq (Run.region ?_))
   refine Run.opG wantS_none (ex_move rfl) rfl <| Run.opG wantS_none (ex_geq rfl rfl) rfl <| Run.opG wantS_none (ex_move rfl) rfl ?_
   rcases btf ((decide ((97 : Int) ≤ x30))) with hc31 | hc31
   ·have h := bif_t hc31 h
    refine Run.opG (wantS_yes' rfl rfl hc31) (ex_move rfl) rfl <| Run.opG (wantS_yes' rfl rfl hc31) (ex_leq rfl rfl) rfl <| Run.opG wantS_none (ex_pickT' rfl hc31 rfl rfl) rfl ?_
    exact Run.pick [3, 4, 16, 17, 18, 28] (num_IsName_3_ok F (num_IsName_2 F N) ih v18 x30 v16 v17 v18 (decide (x30 ≤ (122 : Int))) sv16 _ _ _ hv16 hH h)
   ·have h := bif_f hc31 h
    refine Run.no (wantS_not' rfl rfl hc31) rfl <| Run.no (wantS_not' rfl rfl hc31) rfl <| Run.opG wantS_none (ex_pickF' rfl hc31 rfl rfl) rfl ?_
    exact Run.pick [3, 4, 16, 17, 18, 28] (num_IsName_3_ok F (num_IsName_2 F N) ih v18 x30 v16 v17 v18 false sv16 _ _ _ hv16 hH h)
  ·have h := bif_f hc28 h
   refine Run.condF' rfl hc28 ?_
   refine Run.exit rfl (Run.seq (Run.region ?_))
   refine Run.opG wantS_none (ex_assign rfl) rfl <| Run.opsEnd ?_
   cases h
   exact Run.ret Tryz.func73 rfl (res_tmp rfl res_nil) rfl

def num_IsName_1 (F : Nat) (v0 : (List UInt8)) (v14 : Bool) : Option (Bool) :=
 bif v14 then
  some false
 else
  bnd (byt v0) fun l24 =>
  num_IsName_2 F F l24 (l24.length : Int) (0 : Int)

theorem num_IsName_1_ok (F : Nat) : ∀ (v0 : (List UInt8)) (v14 : Bool) (Fr : Rd) (M : Mem) (r : Bool) (hH : Has Fr M []), num_IsName_1 F v0 v14 = some r → Run Tryz.prog ⟨⟨73, [], none⟩, []⟩ 50 (num_IsName_post r) [(0, (.str v0)), (14, (.bool v14))] [codeC Tryz.prog 73 [1, 0, 1], codeC Tryz.prog 73 [1, 1]] M := by
 intro v0 v14 Fr M r hH h
 rw [num_IsName_1] at h
 rcases btf (v14) with hc22 | hc22
 ·have h := bif_t hc22 h
  refine Run.condT' rfl hc22 ?_
  refine Run.seq (Run.region ?_)
  refine Run.opG wantS_none (ex_assign rfl) rfl <| Run.opsEnd ?_
  cases h
  exact Run.ret Tryz.func73 rfl (res_tmp rfl res_nil) rfl
 ·have h := bif_f hc22 h
  refine Run.condF' rfl hc22 ?_
  refine Run.skip (Run.seq (Run.seq (Run.region ?_)))
  refine Run.opG wantS_none (ex_move rfl) rfl ?_
  obtain ⟨l24, hl24, h⟩ := bnd_some h
  refine Run.opX wantS_none rfl (ExG.bytes rfl uvk9_146 cvk9_146 hl24 hH) ?_
  rintro _ M25 ⟨b25, rfl, hH25⟩
  refine Run.freezeB (t := 16) (i := 0) (enc := enc5) (fun _ => rfl) hl24 rfl hH25 rfl ?_
  intro F26 M26 hle26 (hH26 : Has F26 M26 [.vec 0 0 0 .nils []]) hf26
  refine Run.opG wantS_none (ex_len' rfl hf26 lenk146) rfl <| Run.opG wantS_none (ex_move rfl) rfl ?_
  refine Run.opsEnd (Run.block (Run.loop ?_))
  exact Run.pick [16, 17, 18] (num_IsName_2_ok F F l24 (l24.length : Int) (0 : Int) (.ope b25 0 l24.length 1) _ _ _ hf26 (hH26.pick [] rfl rfl) h)

def num_IsName (F : Nat) (a0 : (List UInt8)) : Option (Bool) :=
 bif ((a0.length : Int) == (0 : Int)) then
  num_IsName_1 F a0 true
 else
  num_IsName_1 F a0 (decide ((16 : Int) < (a0.length : Int)))

theorem num_IsName_ok (F : Nat) (a0 : (List UInt8)) (r : Bool) (M : Mem) (h : num_IsName F a0 = some r) : CallsM Tryz.prog 73 [(.str a0)] M (fun s M' => s = (.bool r) ∧ M' = M) := by
 refine CallsM.plain Tryz.func73 rfl rfl rfl (show Run _ _ _ (num_IsName_post r) _ _ _ from ?_)
 rw [num_IsName] at h
 have hH := Has.nil (frozen M)
 refine Run.seq (Run.region ?_)
 refine Run.opG wantS_none (ex_assign rfl) rfl ?_
 refine Run.opsEnd (Run.seq (Run.seq (Run.region ?_)))
 refine Run.opG wantS_none (ex_move rfl) rfl <| Run.opG wantS_none (ex_lenS rfl lenk9) rfl <| Run.opG wantS_none (ex_eql rfl rfl) rfl <| Run.opG wantS_none (ex_move rfl) rfl ?_
 rcases btf (((a0.length : Int) == (0 : Int))) with hc21 | hc21
 ·have h := bif_t hc21 h
  refine Run.no (wantS_not' rfl rfl hc21) rfl <| Run.no (wantS_not' rfl rfl hc21) rfl <| Run.no (wantS_not' rfl rfl hc21) rfl <| Run.opG wantS_none (ex_pickT' rfl hc21 rfl rfl) rfl <| Run.opsEnd ?_
  exact Run.pick [0, 14] (num_IsName_1_ok F a0 true _ _ _ hH h)
 ·have h := bif_f hc21 h
  refine Run.opG (wantS_yes' rfl rfl hc21) (ex_move rfl) rfl <| Run.opG (wantS_yes' rfl rfl hc21) (ex_lenS rfl lenk9) rfl <| Run.opG (wantS_yes' rfl rfl hc21) (ex_gtr rfl rfl) rfl <| Run.opG wantS_none (ex_pickF' rfl hc21 rfl rfl) rfl <| Run.opsEnd ?_
  exact Run.pick [0, 14] (num_IsName_1_ok F a0 (decide ((16 : Int) < (a0.length : Int))) _ _ _ hH h)

theorem mkk73 : makeK Tryz.prog 73 = none := by kernel_rfl
theorem cal73 : callable Tryz.prog 73 = true := by kernel_rfl
theorem off35_1 : fieldOff Tryz.prog 35 1 = some 1 := by kernel_rfl
theorem agg31 : aggSize Tryz.prog 31 = some none := by kernel_rfl
theorem lenk31 : lenK Tryz.prog 31 = some .sl := by kernel_rfl
theorem mkk119 : makeK Tryz.prog 119 = none := by kernel_rfl
theorem cal119 : callable Tryz.prog 119 = true := by kernel_rfl
theorem mkk147 : makeK Tryz.prog 147 = none := by kernel_rfl
theorem cal147 : callable Tryz.prog 147 = true := by kernel_rfl
theorem els31 : elems Tryz.prog 31 = some (.sl 2) := by kernel_rfl
theorem agg37 : aggSize Tryz.prog 37 = some (some 2) := by kernel_rfl
theorem mkk118 : makeK Tryz.prog 118 = none := by kernel_rfl
theorem cal118 : callable Tryz.prog 118 = true := by kernel_rfl
theorem off37_0 : fieldOff Tryz.prog 37 0 = some 0 := by kernel_rfl
theorem agg3 : aggSize Tryz.prog 3 = some none := by kernel_rfl
theorem off37_1 : fieldOff Tryz.prog 37 1 = some 1 := by kernel_rfl
abbrev glitch_areSegments_f1_post (r : Bool) : SV → Mem → Prop := fun s _ => s = (.bool r)

def glitch_areSegments_f1_2 (F : Nat) (v17 : Bool) : Option (Bool) :=
 some (!v17)

theorem glitch_areSegments_f1_2_ok (F : Nat) : ∀ (v17 : Bool) (Fr : Rd) (M : Mem) (r : Bool) (hH : Has Fr M []), glitch_areSegments_f1_2 F v17 = some r → Run Tryz.prog ⟨⟨118, [], none⟩, []⟩ 19 (glitch_areSegments_f1_post r) [(17, (.bool v17))] [itemC Tryz.prog 118 [1, 0] 15, codeC Tryz.prog 118 [1, 1]] M := by
 intro v17 Fr M r hH h
 rw [glitch_areSegments_f1_2] at h
 refine Run.opG wantS_none (ex_not rfl) rfl <| Run.opG wantS_none (ex_assign rfl) rfl <| Run.opsEnd ?_
 cases h
 exact Run.ret Tryz.func118 rfl (res_tmp rfl res_nil) rfl

def glitch_areSegments_f1_1 (F : Nat) (v12 : Bool) (c22 : S_api_Segment) : Option (Bool) :=
 bif v12 then
  glitch_areSegments_f1_2 F (decide (c22.To ≤ (1073741824 : Int)))
 else
  glitch_areSegments_f1_2 F false

theorem glitch_areSegments_f1_1_ok (F : Nat) : ∀ (v12 : Bool) (c22 : S_api_Segment) (b22 : Pos) (Fr : Rd) (M : Mem) (r : Bool) (hH : Has Fr M [.obj b22 (.row 37 .whole [(.int .i64 c22.From), (.int .i64 c22.To)])]), glitch_areSegments_f1_1 F v12 c22 = some r → Run Tryz.prog ⟨⟨118, [], none⟩, []⟩ 19 (glitch_areSegments_f1_post r) [(1, (.ptr b22 0)), (12, (.bool v12))] [itemC Tryz.prog 118 [1, 0] 10, codeC Tryz.prog 118 [1, 1]] M := by
 intro v12 c22 b22 Fr M r hH h
 rw [glitch_areSegments_f1_1] at h
 refine Run.opG wantS_none (ex_move rfl) rfl ?_
 rcases btf (v12) with hc25 | hc25
 ·have h := bif_t hc25 h
  refine Run.opG (wantS_yes' rfl rfl hc25) (ex_fieldAddr rfl off37_1) rfl <| Run.opG (wantS_yes' rfl rfl hc25) (ex_load1 rfl (hH.cells (i := 0) rfl 1 rfl) rdLe_rfl agg3) rfl <| Run.opG (wantS_yes' rfl rfl hc25) (ex_leq rfl rfl) rfl <| Run.opG wantS_none (ex_pickT' rfl hc25 rfl rfl) rfl ?_
  exact Run.pick [17] (glitch_areSegments_f1_2_ok F (decide (c22.To ≤ (1073741824 : Int))) _ _ _ (hH.pick [] rfl rfl) h)
 ·have h := bif_f hc25 h
  refine Run.no (wantS_not' rfl rfl hc25) rfl <| Run.no (wantS_not' rfl rfl hc25) rfl <| Run.no (wantS_not' rfl rfl hc25) rfl <| Run.opG wantS_none (ex_pickF' rfl hc25 rfl rfl) rfl ?_
  exact Run.pick [17] (glitch_areSegments_f1_2_ok F false _ _ _ (hH.pick [] rfl rfl) h)

def glitch_areSegments_f1 (F : Nat) (a0 : S_api_Segment) : Option (Bool) :=
 bif (decide ((0 : Int) ≤ a0.From)) then
  glitch_areSegments_f1_1 F (decide (a0.From < a0.To)) a0
 else
  glitch_areSegments_f1_1 F false a0

theorem glitch_areSegments_f1_ok (F : Nat) (a0 : S_api_Segment) (r : Bool) (M : Mem) (h : glitch_areSegments_f1 F a0 = some r) : CallsM Tryz.prog 118 [(.agg [(.int .i64 a0.From), (.int .i64 a0.To)])] M (fun s M' => s = (.bool r) ∧ M' = M) := by
 refine CallsM.plain Tryz.func118 rfl rfl rfl (show Run _ _ _ (glitch_areSegments_f1_post r) _ _ _ from ?_)
 rw [glitch_areSegments_f1] at h
 have hH := Has.nil (frozen M)
 refine Run.seq (Run.region ?_)
 refine Run.opX wantS_none rfl (ExG.box rfl rfl hH) ?_
 rintro _ M23 ⟨b22, rfl, hH23⟩
 refine Run.opG wantS_none (ex_assign rfl) rfl ?_
 refine Run.opsEnd (Run.seq (Run.region ?_))
 refine Run.opG wantS_none (ex_fieldAddr rfl off37_0) rfl <| Run.opG wantS_none (ex_load1 rfl (hH23.cells (i := 0) rfl 0 rfl) rdLe_rfl agg3) rfl <| Run.opG wantS_none (ex_leq rfl rfl) rfl <| Run.opG wantS_none (ex_move rfl) rfl ?_
 rcases btf ((decide ((0 : Int) ≤ a0.From))) with hc24 | hc24
 ·have h := bif_t hc24 h
  refine Run.opG (wantS_yes' rfl rfl hc24) (ex_fieldAddr rfl off37_0) rfl <| Run.opG (wantS_yes' rfl rfl hc24) (ex_load1 rfl (hH23.cells (i := 0) rfl 0 rfl) rdLe_rfl agg3) rfl <| Run.opG (wantS_yes' rfl rfl hc24) (ex_fieldAddr rfl off37_1) rfl <| Run.opG (wantS_yes' rfl rfl hc24) (ex_load1 rfl (hH23.cells (i := 0) rfl 1 rfl) rdLe_rfl agg3) rfl <| Run.opG (wantS_yes' rfl rfl hc24) (ex_lss rfl rfl) rfl <| Run.opG wantS_none (ex_pickT' rfl hc24 rfl rfl) rfl ?_
  exact Run.pick [1, 12] (glitch_areSegments_f1_1_ok F (decide (a0.From < a0.To)) a0 b22 _ _ _ hH23 h)
 ·have h := bif_f hc24 h
  refine Run.no (wantS_not' rfl rfl hc24) rfl <| Run.no (wantS_not' rfl rfl hc24) rfl <| Run.no (wantS_not' rfl rfl hc24) rfl <| Run.no (wantS_not' rfl rfl hc24) rfl <| Run.no (wantS_not' rfl rfl hc24) rfl <| Run.opG wantS_none (ex_pickF' rfl hc24 rfl rfl) rfl ?_
  exact Run.pick [1, 12] (glitch_areSegments_f1_1_ok F false a0 b22 _ _ _ hH23 h)

abbrev glitch_areSegments_post (r : Bool) : SV → Mem → Prop := fun s _ => s = (.bool r)

def glitch_areSegments_2 (F : Nat) (v12 : Bool) : Option (Bool) :=
 some v12

theorem glitch_areSegments_2_ok (F : Nat) : ∀ (v12 : Bool) (Fr : Rd) (M : Mem) (r : Bool) (hH : Has Fr M []), glitch_areSegments_2 F v12 = some r → Run Tryz.prog ⟨⟨74, [], none⟩, []⟩ 13 (glitch_areSegments_post r) [(12, (.bool v12))] [itemC Tryz.prog 74 [1, 1, 0] 9, codeC Tryz.prog 74 [1, 1, 1]] M := by
 intro v12 Fr M r hH h
 rw [glitch_areSegments_2] at h
 refine Run.opG wantS_none (ex_assign rfl) rfl <| Run.opsEnd ?_
 cases h
 exact Run.ret Tryz.func74 rfl (res_tmp rfl res_nil) rfl

def glitch_areSegments_1 (F : Nat) : Nat → (List S_api_Segment) → Int → Int → Bool → Option (Bool)
 | 0, _, _, _, _ => none
 | N + 1, v0, v7, v8, v7_f2 =>
  bif (decide (v8 < v7)) then
   bnd (idx v0 v8) fun x24 =>
   bnd (glitch_areSegments_f1 F x24) fun r26 =>
   bif r26 then
    bif v7_f2 then
     glitch_areSegments_2 F (!(decide ((0 : Int) ≤ v8)))
    else
     glitch_areSegments_2 F false
   else
    (glitch_areSegments_1 F N) v0 v7 (w64 (v8 + (1 : Int))) v7_f2
  else
   bif v7_f2 then
    glitch_areSegments_2 F (!(decide ((0 : Int) ≤ ((-1) : Int))))
   else
    glitch_areSegments_2 F false

theorem glitch_areSegments_1_ok (F : Nat) : ∀ (N : Nat), ∀ (v0 : (List S_api_Segment)) (v7 v8 : Int) (v7_f2 : Bool) (sv0 : SV) (Fr : Rd) (M : Mem) (r : Bool) (hv0 : Slc Fr 2 (FlatR enc37) sv0 v0) (hH : Has Fr M []), glitch_areSegments_1 F N v0 v7 v8 v7_f2 = some r → Run Tryz.prog ⟨⟨147, [], none⟩, [.mk ⟨119, [], none⟩ 9 (treeOf []) [itemC Tryz.prog 119 [1, 0] 2, codeC Tryz.prog 119 [1, 1]], .mk ⟨74, [], none⟩ 13 (treeOf [(7, (.bool v7_f2))]) [itemC Tryz.prog 74 [1, 1, 0] 6, codeC Tryz.prog 74 [1, 1, 1]]]⟩ 19 (glitch_areSegments_post r) [(0, sv0), (1, (.fn (.func 118) [] [])), (7, (.int .i64 v7)), (8, (.int .i64 v8))] [codeC Tryz.prog 147 [1, 0, 1, 0, 0], loopC Tryz.prog 147 [1, 0, 1, 0, 0], .inBlock 0, codeC Tryz.prog 147 [1, 1]] M := by
 intro N
 induction N with
 | zero =>
  intro v0 v7 v8 v7_f2 sv0 Fr M r hv0 hH h
  simp [glitch_areSegments_1] at h
 | succ N ih =>
  intro v0 v7 v8 v7_f2 sv0 Fr M r hv0 hH h
  rw [glitch_areSegments_1] at h
  refine Run.seq (Run.region ?_)
  refine Run.opG wantS_none (ex_lss rfl rfl) rfl ?_
  refine Run.opsEnd (Run.seq ?_)
  rcases btf ((decide (v8 < v7))) with hc22 | hc22
  ·have h := bif_t hc22 h
   refine Run.condT' rfl hc22 ?_
   refine Run.skip (Run.seq (Run.block (Run.seq (Run.region ?_))))
   refine Run.opG wantS_none (ex_move rfl) rfl <| Run.opG wantS_none (ex_assign rfl) rfl ?_
   refine Run.opsEnd (Run.seq (Run.region ?_))
   refine Run.opG wantS_none (ex_move rfl) rfl <| Run.opG wantS_none (ex_move rfl) rfl <| Run.opG wantS_none (ex_move rfl) rfl ?_
   obtain ⟨x24, hx24, h⟩ := bnd_some h
   obtain ⟨p24, o24, _, hx24, hp24, rfl⟩ := sl_elem (P := Tryz.prog) (t := 31) (kk := .i64) hv0 hx24 els31
   refine Run.opG wantS_none (ex_elX rfl rfl hx24) rfl <| Run.opG wantS_none (ex_loadA rfl (hH.ptrF hp24) rdLe_rfl agg37 rfl rfl rfl) rfl ?_
   obtain ⟨r26, hr26, h⟩ := bnd_some h
   refine Run.callP wantS_none (ex_closure rfl rfl mkk118 cal118) rfl (glitch_areSegments_f1_ok F x24 _ _ hr26) <| Run.opsEnd ?_
   rcases btf (r26) with hc28 | hc28
   ·have h := bif_t hc28 h
    refine Run.condT' rfl hc28 ?_
    refine Run.seq (Run.region ?_)
    refine Run.opG wantS_none (ex_move rfl) rfl <| Run.opG wantS_none (ex_assign rfl) rfl <| Run.opsEnd <| Run.retTo Tryz.func147 rfl (res_tmp rfl res_nil) rfl <| Run.opG wantS_none (ex_geq rfl rfl) rfl <| Run.opG wantS_none (ex_assign rfl) rfl <| Run.opsEnd <| Run.retTo Tryz.func119 rfl (res_tmp rfl res_nil) rfl ?_
    rcases btf (v7_f2) with hc29 | hc29
    ·have h := bif_t hc29 h
     refine Run.opG (wantS_yes' rfl rfl hc29) (ex_not rfl) rfl <| Run.opG wantS_none (ex_pickT' rfl hc29 rfl rfl) rfl ?_
     exact Run.pick [12] (glitch_areSegments_2_ok F (!(decide ((0 : Int) ≤ v8))) _ _ _ hH h)
    ·have h := bif_f hc29 h
     refine Run.no (wantS_not' rfl rfl hc29) rfl <| Run.opG wantS_none (ex_pickF' rfl hc29 rfl rfl) rfl ?_
     exact Run.pick [12] (glitch_areSegments_2_ok F false _ _ _ hH h)
   ·have h := bif_f hc28 h
    refine Run.condF' rfl hc28 ?_
    refine Run.skip (Run.inBlock (Run.region ?_))
    refine Run.opG wantS_none (ex_add rfl rfl) rfl <| Run.opG wantS_none (ex_move rfl) rfl ?_
    refine Run.opsEnd (Run.inLoop ?_)
    exact Run.low (.cons (fle_pick [] rfl) (.cons (fle_pick [7] rfl) .nil)) (Run.pick [0, 1, 7, 8] (ih v0 v7 (w64 (v8 + (1 : Int))) v7_f2 sv0 _ _ _ hv0 hH h))
  ·have h := bif_f hc22 h
   refine Run.condF' rfl hc22 ?_
   refine Run.exit rfl (Run.seq (Run.region ?_))
   refine Run.opG wantS_none (ex_assign rfl) rfl <| Run.opsEnd <| Run.retTo Tryz.func147 rfl (res_tmp rfl res_nil) rfl <| Run.opG wantS_none (ex_geq rfl rfl) rfl <| Run.opG wantS_none (ex_assign rfl) rfl <| Run.opsEnd <| Run.retTo Tryz.func119 rfl (res_tmp rfl res_nil) rfl ?_
   rcases btf (v7_f2) with hc30 | hc30
   ·have h := bif_t hc30 h
    refine Run.opG (wantS_yes' rfl rfl hc30) (ex_not rfl) rfl <| Run.opG wantS_none (ex_pickT' rfl hc30 rfl rfl) rfl ?_
    exact Run.pick [12] (glitch_areSegments_2_ok F (!(decide ((0 : Int) ≤ ((-1) : Int)))) _ _ _ hH h)
   ·have h := bif_f hc30 h
    refine Run.no (wantS_not' rfl rfl hc30) rfl <| Run.opG wantS_none (ex_pickF' rfl hc30 rfl rfl) rfl ?_
    exact Run.pick [12] (glitch_areSegments_2_ok F false _ _ _ hH h)

def glitch_areSegments (F : Nat) (a0 : (List S_api_Segment)) : Option (Bool) :=
 bif (decide ((a0.length : Int) ≤ (32 : Int))) then
  glitch_areSegments_1 F F a0 (a0.length : Int) (0 : Int) (decide ((a0.length : Int) ≤ (32 : Int)))
 else
  glitch_areSegments_2 F false

theorem glitch_areSegments_ok (F : Nat) (a0 : (List S_api_Segment)) (s0 : SV) (r : Bool) (M : Mem) (hs0 : Slc (rd M) 2 (FlatR enc37) s0 a0) (h : glitch_areSegments F a0 = some r) : CallsM Tryz.prog 74 [s0] M (fun s M' => s = (.bool r) ∧ M' = M) := by
 refine CallsM.plain Tryz.func74 rfl rfl rfl (show Run _ _ _ (glitch_areSegments_post r) _ _ _ from ?_)
 rw [glitch_areSegments] at h
 replace hs0 := hs0.mono (rdLe_frozen M) (fun _ _ h => h)
 have hH := Has.nil (frozen M)
 refine Run.seq (Run.region ?_)
 refine Run.opG wantS_none (ex_assign rfl) rfl ?_
 refine Run.opsEnd (Run.seq (Run.region ?_))
 refine Run.opG wantS_none (ex_assign rfl) rfl ?_
 refine Run.opsEnd (Run.seq (Run.region ?_))
 refine Run.opG wantS_none (ex_move rfl) rfl <| Run.opG wantS_none (ex_len' rfl hs0 lenk31) rfl <| Run.opG wantS_none (ex_leq rfl rfl) rfl <| Run.opG wantS_none (ex_move rfl) rfl ?_
 rcases btf ((decide ((a0.length : Int) ≤ (32 : Int)))) with hc21 | hc21
 ·have h := bif_t hc21 h
  refine Run.opG (wantS_yes' rfl rfl hc21) (ex_move rfl) rfl <| Run.opG (wantS_yes' rfl rfl hc21) (ex_move rfl) rfl <| Run.enter (wantS_yes' rfl rfl hc21) (ex_call rfl mkk119 cal119) Tryz.func119 rfl rfl ?_
  refine Run.seq (Run.region ?_)
  refine Run.opG wantS_none (ex_assign rfl) rfl ?_
  refine Run.opsEnd (Run.seq (Run.region ?_))
  refine Run.opG wantS_none (ex_move rfl) rfl <| Run.opG wantS_none (ex_move rfl) rfl <| Run.enter wantS_none (ex_call rfl mkk147 cal147) Tryz.func147 rfl rfl ?_
  refine Run.seq (Run.region ?_)
  refine Run.opG wantS_none (ex_assign rfl) rfl ?_
  refine Run.opsEnd (Run.seq (Run.seq (Run.region ?_)))
  refine Run.opG wantS_none (ex_move rfl) rfl <| Run.opG wantS_none (ex_len' rfl hs0 lenk31) rfl <| Run.opG wantS_none (ex_move rfl) rfl ?_
  refine Run.opsEnd (Run.block (Run.loop ?_))
  exact Run.low (.cons (fle_pick [] rfl) (.cons (fle_pick [7] rfl) .nil)) (Run.pick [0, 1, 7, 8] (glitch_areSegments_1_ok F F a0 (a0.length : Int) (0 : Int) (decide ((a0.length : Int) ≤ (32 : Int))) s0 _ _ _ hs0 hH h))
 ·have h := bif_f hc21 h
  refine Run.no (wantS_not' rfl rfl hc21) rfl <| Run.no (wantS_not' rfl rfl hc21) rfl <| Run.no (wantS_not' rfl rfl hc21) rfl <| Run.no (wantS_not' rfl rfl hc21) rfl <| Run.opG wantS_none (ex_pickF' rfl hc21 rfl rfl) rfl ?_
  exact Run.pick [12] (glitch_areSegments_2_ok F false _ _ _ hH h)

theorem mkk74 : makeK Tryz.prog 74 = none := by kernel_rfl
theorem cal74 : callable Tryz.prog 74 = true := by kernel_rfl
abbrev glitch_areVetoes_post (r : Bool) : SV → Mem → Prop := fun s _ => s = (.bool r)

def glitch_areVetoes_3 (F : Nat) (hd1 : (List S_api_Veto) → Int → Int → (List ((List UInt8) × Bool)) → Option (Bool)) (v10 : (List S_api_Veto)) (v11 v12 : Int) (v31 : Bool) (c29_0 : (List UInt8)) (c29_1 : (List S_api_Segment)) (l23 : (List ((List UInt8) × Bool))) : Option (Bool) :=
 bif v31 then
  some false
 else
  hd1 v10 v11 (w64 (v12 + (1 : Int))) (mput eqB l23 c29_0 true)

theorem glitch_areVetoes_3_ok (F : Nat) (hd1 : (List S_api_Veto) → Int → Int → (List ((List UInt8) × Bool)) → Option (Bool)) (hhd1 : ∀ (v10 : (List S_api_Veto)) (v11 v12 : Int) (l23 : (List ((List UInt8) × Bool))) (sv10 : SV) (b23 : Pos) (Fr : Rd) (M : Mem) (r : Bool) (hv10 : Slc Fr 2 (rep35 Fr) sv10 v10) (hH : Has Fr M [.obj b23 (.map (mapES kv9 kv4 0 l23) l23.length)]), hd1 v10 v11 v12 l23 = some r → Run Tryz.prog ⟨⟨38, [], none⟩, []⟩ 36 (glitch_areVetoes_post r) [(3, (.map b23)), (10, sv10), (11, (.int .i64 v11)), (12, (.int .i64 v12))] [codeC Tryz.prog 38 [1, 1, 1, 0, 1, 0, 0], loopC Tryz.prog 38 [1, 1, 1, 0, 1, 0, 0], .inBlock 0, codeC Tryz.prog 38 [1, 1, 1, 1]] M) : ∀ (v10 : (List S_api_Veto)) (v11 v12 : Int) (v31 : Bool) (c29_0 : (List UInt8)) (c29_1 : (List S_api_Segment)) (l23 : (List ((List UInt8) × Bool))) (sv10 sc29_1 : SV) (b23 b29 : Pos) (Fr : Rd) (M : Mem) (r : Bool) (hv10 : Slc Fr 2 (rep35 Fr) sv10 v10) (hc29_1 : Slc Fr 2 (FlatR enc37) sc29_1 c29_1) (hH : Has Fr M [.obj b23 (.map (mapES kv9 kv4 0 l23) l23.length), .obj b29 (.row 35 .whole [(.str c29_0), sc29_1])]), glitch_areVetoes_3 F hd1 v10 v11 v12 v31 c29_0 c29_1 l23 = some r → Run Tryz.prog ⟨⟨38, [], none⟩, []⟩ 36 (glitch_areVetoes_post r) [(3, (.map b23)), (5, (.ptr b29 0)), (10, sv10), (11, (.int .i64 v11)), (12, (.int .i64 v12)), (31, (.bool v31))] [codeC Tryz.prog 38 [1, 1, 1, 0, 1, 0, 0, 1, 1, 0, 0, 1, 0, 1], codeC Tryz.prog 38 [1, 1, 1, 0, 1, 0, 0, 1, 1, 0, 0, 1, 1], .inBlock 1, codeC Tryz.prog 38 [1, 1, 1, 0, 1, 0, 0, 1, 1, 1], loopC Tryz.prog 38 [1, 1, 1, 0, 1, 0, 0], .inBlock 0, codeC Tryz.prog 38 [1, 1, 1, 1]] M := by
 intro v10 v11 v12 v31 c29_0 c29_1 l23 sv10 sc29_1 b23 b29 Fr M r hv10 hc29_1 hH h
 rw [glitch_areVetoes_3] at h
 rcases btf (v31) with hc37 | hc37
 ·have h := bif_t hc37 h
  refine Run.condT' rfl hc37 ?_
  refine Run.seq (Run.region ?_)
  refine Run.opG wantS_none (ex_assign rfl) rfl <| Run.opsEnd ?_
  cases h
  exact Run.ret Tryz.func38 rfl (res_tmp rfl res_nil) rfl
 ·have h := bif_f hc37 h
  refine Run.condF' rfl hc37 ?_
  refine Run.skip (Run.region ?_)
  refine Run.opG wantS_none (ex_move rfl) rfl <| Run.opG wantS_none (ex_fieldAddr rfl off35_0) rfl <| Run.opG wantS_none (ex_load1 rfl (hH.cells (i := 1) rfl 0 rfl) rdLe_rfl agg9) rfl <| Run.opX wantS_none rfl (ExG.mapUpdate (ke := kv9) (ve := kv4) (k := c29_0) (v := true) rfl rfl rfl hH (i := 0) rfl kmt109 (kok109 _) keq109 khe109 rfl rfl) ?_
  rintro _ M38 ⟨rfl, (hH38 : Has Fr M38 [.obj b23 (.map (mapES kv9 kv4 0 (mput eqB l23 c29_0 true)) (mput eqB l23 c29_0 true).length), .obj b29 (.row 35 .whole [(.str c29_0), sc29_1])])⟩
  refine Run.opsEnd (Run.inBlock (Run.region ?_))
  refine Run.opG wantS_none (ex_add rfl rfl) rfl <| Run.opG wantS_none (ex_move rfl) rfl ?_
  refine Run.opsEnd (Run.inLoop ?_)
  exact Run.pick [3, 10, 11, 12] (hhd1 v10 v11 (w64 (v12 + (1 : Int))) (mput eqB l23 c29_0 true) sv10 b23 _ _ _ hv10 (hH38.pick [0] rfl rfl) h)

def glitch_areVetoes_2 (F : Nat) (hd1 : (List S_api_Veto) → Int → Int → (List ((List UInt8) × Bool)) → Option (Bool)) (v10 : (List S_api_Veto)) (v11 v12 : Int) (v25 : Bool) (c29_0 : (List UInt8)) (c29_1 : (List S_api_Segment)) (l23 : (List ((List UInt8) × Bool))) : Option (Bool) :=
 bif v25 then
  glitch_areVetoes_3 F hd1 v10 v11 v12 true c29_0 c29_1 l23
 else
  bnd (glitch_areSegments F c29_1) fun r40 =>
  glitch_areVetoes_3 F hd1 v10 v11 v12 (!r40) c29_0 c29_1 l23

theorem glitch_areVetoes_2_ok (F : Nat) (hd1 : (List S_api_Veto) → Int → Int → (List ((List UInt8) × Bool)) → Option (Bool)) (hhd1 : ∀ (v10 : (List S_api_Veto)) (v11 v12 : Int) (l23 : (List ((List UInt8) × Bool))) (sv10 : SV) (b23 : Pos) (Fr : Rd) (M : Mem) (r : Bool) (hv10 : Slc Fr 2 (rep35 Fr) sv10 v10) (hH : Has Fr M [.obj b23 (.map (mapES kv9 kv4 0 l23) l23.length)]), hd1 v10 v11 v12 l23 = some r → Run Tryz.prog ⟨⟨38, [], none⟩, []⟩ 36 (glitch_areVetoes_post r) [(3, (.map b23)), (10, sv10), (11, (.int .i64 v11)), (12, (.int .i64 v12))] [codeC Tryz.prog 38 [1, 1, 1, 0, 1, 0, 0], loopC Tryz.prog 38 [1, 1, 1, 0, 1, 0, 0], .inBlock 0, codeC Tryz.prog 38 [1, 1, 1, 1]] M) : ∀ (v10 : (List S_api_Veto)) (v11 v12 : Int) (v25 : Bool) (c29_0 : (List UInt8)) (c29_1 : (List S_api_Segment)) (l23 : (List ((List UInt8) × Bool))) (sv10 sc29_1 : SV) (b23 b29 : Pos) (Fr : Rd) (M : Mem) (r : Bool) (hv10 : Slc Fr 2 (rep35 Fr) sv10 v10) (hc29_1 : Slc Fr 2 (FlatR enc37) sc29_1 c29_1) (hH : Has Fr M [.obj b23 (.map (mapES kv9 kv4 0 l23) l23.length), .obj b29 (.row 35 .whole [(.str c29_0), sc29_1])]), glitch_areVetoes_2 F hd1 v10 v11 v12 v25 c29_0 c29_1 l23 = some r → Run Tryz.prog ⟨⟨38, [], none⟩, []⟩ 36 (glitch_areVetoes_post r) [(3, (.map b23)), (5, (.ptr b29 0)), (10, sv10), (11, (.int .i64 v11)), (12, (.int .i64 v12)), (25, (.bool v25))] [itemC Tryz.prog 38 [1, 1, 1, 0, 1, 0, 0, 1, 1, 0, 0, 1, 0, 0] 10, codeC Tryz.prog 38 [1, 1, 1, 0, 1, 0, 0, 1, 1, 0, 0, 1, 0, 1], codeC Tryz.prog 38 [1, 1, 1, 0, 1, 0, 0, 1, 1, 0, 0, 1, 1], .inBlock 1, codeC Tryz.prog 38 [1, 1, 1, 0, 1, 0, 0, 1, 1, 1], loopC Tryz.prog 38 [1, 1, 1, 0, 1, 0, 0], .inBlock 0, codeC Tryz.prog 38 [1, 1, 1, 1]] M := by
 intro v10 v11 v12 v25 c29_0 c29_1 l23 sv10 sc29_1 b23 b29 Fr M r hv10 hc29_1 hH h
 rw [glitch_areVetoes_2] at h
 refine Run.opG wantS_none (ex_move rfl) rfl ?_
 rcases btf (v25) with hc36 | hc36
 ·have h := bif_t hc36 h
  refine Run.no (wantS_not' rfl rfl hc36) rfl <| Run.no (wantS_not' rfl rfl hc36) rfl <| Run.no (wantS_not' rfl rfl hc36) rfl <| Run.no (wantS_not' rfl rfl hc36) rfl <| Run.opG wantS_none (ex_pickT' rfl hc36 rfl rfl) rfl <| Run.opsEnd ?_
  exact Run.pick [3, 5, 10, 11, 12, 31] (glitch_areVetoes_3_ok F hd1 hhd1 v10 v11 v12 true c29_0 c29_1 l23 sv10 sc29_1 b23 b29 _ _ _ hv10 hc29_1 hH h)
 ·have h := bif_f hc36 h
  refine Run.opG (wantS_yes' rfl rfl hc36) (ex_fieldAddr rfl off35_1) rfl <| Run.opG (wantS_yes' rfl rfl hc36) (ex_load1 rfl (hH.cells (i := 1) rfl 1 rfl) rdLe_rfl agg31) rfl ?_
  obtain ⟨r40, hr40, h⟩ := bnd_some h
  refine Run.callP (wantS_yes' rfl rfl hc36) (ex_call rfl mkk74 cal74) rfl (glitch_areSegments_ok F c29_1 sc29_1 _ _ (hH.slcF hc29_1) hr40) <| Run.opG (wantS_yes' rfl rfl hc36) (ex_not rfl) rfl <| Run.opG wantS_none (ex_pickF' rfl hc36 rfl rfl) rfl <| Run.opsEnd ?_
  exact Run.pick [3, 5, 10, 11, 12, 31] (glitch_areVetoes_3_ok F hd1 hhd1 v10 v11 v12 (!r40) c29_0 c29_1 l23 sv10 sc29_1 b23 b29 _ _ _ hv10 hc29_1 hH h)

def glitch_areVetoes_1 (F : Nat) : Nat → (List S_api_Veto) → Int → Int → (List ((List UInt8) × Bool)) → Option (Bool)
 | 0, _, _, _, _ => none
 | N + 1, v10, v11, v12, l23 =>
  bif (decide (v12 < v11)) then
   bnd (idx v10 v12) fun x27 =>
   bnd (num_IsName F x27.Name) fun r33 =>
   bif (!r33) then
    glitch_areVetoes_2 F (glitch_areVetoes_1 F N) v10 v11 v12 true x27.Name x27.Segments l23
   else
    glitch_areVetoes_2 F (glitch_areVetoes_1 F N) v10 v11 v12 (mget eqB false l23 x27.Name) x27.Name x27.Segments l23
  else
   some true

theorem glitch_areVetoes_1_ok (F : Nat) : ∀ (N : Nat), ∀ (v10 : (List S_api_Veto)) (v11 v12 : Int) (l23 : (List ((List UInt8) × Bool))) (sv10 : SV) (b23 : Pos) (Fr : Rd) (M : Mem) (r : Bool) (hv10 : Slc Fr 2 (rep35 Fr) sv10 v10) (hH : Has Fr M [.obj b23 (.map (mapES kv9 kv4 0 l23) l23.length)]), glitch_areVetoes_1 F N v10 v11 v12 l23 = some r → Run Tryz.prog ⟨⟨38, [], none⟩, []⟩ 36 (glitch_areVetoes_post r) [(3, (.map b23)), (10, sv10), (11, (.int .i64 v11)), (12, (.int .i64 v12))] [codeC Tryz.prog 38 [1, 1, 1, 0, 1, 0, 0], loopC Tryz.prog 38 [1, 1, 1, 0, 1, 0, 0], .inBlock 0, codeC Tryz.prog 38 [1, 1, 1, 1]] M := by
 intro N
 induction N with
 | zero =>
  intro v10 v11 v12 l23 sv10 b23 Fr M r hv10 hH h
  simp [glitch_areVetoes_1] at h
 | succ N ih =>
  intro v10 v11 v12 l23 sv10 b23 Fr M r hv10 hH h
  rw [glitch_areVetoes_1] at h
  refine Run.seq (Run.region ?_)
  refine Run.opG wantS_none (ex_lss rfl rfl) rfl ?_
  refine Run.opsEnd (Run.seq ?_)
  rcases btf ((decide (v12 < v11))) with hc25 | hc25
  ·have h := bif_t hc25 h
   refine Run.condT' rfl hc25 ?_
   refine Run.skip (Run.seq (Run.block (Run.seq (Run.region ?_))))
   obtain ⟨x27, hx27, h⟩ := bnd_some h
   obtain ⟨p27, o27, _, hx27, hp27, ⟨q27_0, rfl, hq27_0⟩⟩ := sl_elem (P := Tryz.prog) (t := 22) (kk := .i64) hv10 hx27 els22
   refine Run.opG wantS_none (ex_elX rfl rfl hx27) rfl <| Run.opG wantS_none (ex_loadA rfl (hH.ptrF hp27) rdLe_rfl agg35 rfl rfl rfl) rfl <| Run.opX wantS_none rfl (ExG.new (v := fun b => .ptr b 0) (ex_alloc zer35) hH) ?_
   rintro _ M30 ⟨b29, rfl, hH30⟩
   refine Run.opX wantS_none rfl (ExG.storeC (c' := [(.str x27.Name), q27_0]) rfl rfl rfl hH30 (i := 0) rfl sz35 rfl rfl rfl (ones_cons rfl (ones_cons (slc_one hq27_0) ones_nil)) rfl) ?_
   rintro _ M31 ⟨rfl, (hH31 : Has Fr M31 [.obj b29 (.row 35 .whole [(.str x27.Name), q27_0]), .obj b23 (.map (mapES kv9 kv4 0 l23) l23.length)])⟩
   refine Run.opsEnd (Run.seq (Run.seq (Run.region ?_)))
   refine Run.opG wantS_none (ex_fieldAddr rfl off35_0) rfl <| Run.opG wantS_none (ex_load1 rfl (hH31.cells (i := 0) rfl 0 rfl) rdLe_rfl agg9) rfl ?_
   obtain ⟨r33, hr33, h⟩ := bnd_some h
   refine Run.callP wantS_none (ex_call rfl mkk73 cal73) rfl (num_IsName_ok F x27.Name _ _ hr33) <| Run.opG wantS_none (ex_not rfl) rfl <| Run.opG wantS_none (ex_move rfl) rfl ?_
   rcases btf ((!r33)) with hc35 | hc35
   ·have h := bif_t hc35 h
    refine Run.no (wantS_not' rfl rfl hc35) rfl <| Run.no (wantS_not' rfl rfl hc35) rfl <| Run.no (wantS_not' rfl rfl hc35) rfl <| Run.no (wantS_not' rfl rfl hc35) rfl <| Run.opG wantS_none (ex_pickT' rfl hc35 rfl rfl) rfl ?_
    exact Run.pick [3, 5, 10, 11, 12, 25] (glitch_areVetoes_2_ok F (glitch_areVetoes_1 F N) ih v10 v11 v12 true x27.Name x27.Segments l23 sv10 q27_0 b23 b29 _ _ _ hv10 hq27_0 (hH31.pick [1, 0] rfl rfl) h)
   ·have h := bif_f hc35 h
    refine Run.opG (wantS_yes' rfl rfl hc35) (ex_move rfl) rfl <| Run.opG (wantS_yes' rfl rfl hc35) (ex_fieldAddr rfl off35_0) rfl <| Run.opG (wantS_yes' rfl rfl hc35) (ex_load1 rfl (hH31.cells (i := 0) rfl 0 rfl) rdLe_rfl agg9) rfl <| Run.opG (wantS_yes' rfl rfl hc35) (ex_lookup (ke := kv9) (ve := kv4) (k := x27.Name) rfl rfl hH31 (i := 1) rfl kmt109 (kok109 _) keq109 khe109 kzr109) rfl <| Run.opG wantS_none (ex_pickF' rfl hc35 rfl rfl) rfl ?_
    exact Run.pick [3, 5, 10, 11, 12, 25] (glitch_areVetoes_2_ok F (glitch_areVetoes_1 F N) ih v10 v11 v12 (mget eqB false l23 x27.Name) x27.Name x27.Segments l23 sv10 q27_0 b23 b29 _ _ _ hv10 hq27_0 (hH31.pick [1, 0] rfl rfl) h)
  ·have h := bif_f hc25 h
   refine Run.condF' rfl hc25 ?_
   refine Run.exit rfl (Run.seq (Run.region ?_))
   refine Run.opG wantS_none (ex_assign rfl) rfl <| Run.opsEnd ?_
   cases h
   exact Run.ret Tryz.func38 rfl (res_tmp rfl res_nil) rfl

def glitch_areVetoes (F : Nat) (a0 : (List S_api_Veto)) : Option (Bool) :=
 bif (decide ((12 : Int) < (a0.length : Int))) then
  some false
 else
  glitch_areVetoes_1 F F a0 (a0.length : Int) (0 : Int) ([] : List ((List UInt8) × Bool))

theorem glitch_areVetoes_ok (F : Nat) (a0 : (List S_api_Veto)) (s0 : SV) (r : Bool) (M : Mem) (hs0 : Slc (rd M) 2 (rep35 (rd M)) s0 a0) (h : glitch_areVetoes F a0 = some r) : CallsM Tryz.prog 38 [s0] M (fun s M' => s = (.bool r) ∧ M' = M) := by
 refine CallsM.plain Tryz.func38 rfl rfl rfl (show Run _ _ _ (glitch_areVetoes_post r) _ _ _ from ?_)
 rw [glitch_areVetoes] at h
 replace hs0 := hs0.mono (rdLe_frozen M) (fun _ _ => rep35_mo (rdLe_frozen M))
 have hH := Has.nil (frozen M)
 refine Run.seq (Run.region ?_)
 refine Run.opG wantS_none (ex_assign rfl) rfl ?_
 refine Run.opsEnd (Run.seq (Run.seq (Run.region ?_)))
 refine Run.opG wantS_none (ex_move rfl) rfl <| Run.opG wantS_none (ex_len' rfl hs0 lenk22) rfl <| Run.opG wantS_none (ex_gtr rfl rfl) rfl <| Run.opsEnd ?_
 rcases btf ((decide ((12 : Int) < (a0.length : Int)))) with hc21 | hc21
 ·have h := bif_t hc21 h
  refine Run.condT' rfl hc21 ?_
  refine Run.seq (Run.region ?_)
  refine Run.opG wantS_none (ex_assign rfl) rfl <| Run.opsEnd ?_
  cases h
  exact Run.ret Tryz.func38 rfl (res_tmp rfl res_nil) rfl
 ·have h := bif_f hc21 h
  refine Run.condF' rfl hc21 ?_
  refine Run.skip (Run.seq (Run.region ?_))
  refine Run.opX wantS_none rfl (ExG.makeMap kv9 kv4 hH) ?_
  rintro _ M24 ⟨b23, rfl, hH24⟩
  refine Run.opG wantS_none (ex_assign rfl) rfl ?_
  refine Run.opsEnd (Run.seq (Run.seq (Run.region ?_)))
  refine Run.opG wantS_none (ex_move rfl) rfl <| Run.opG wantS_none (ex_len' rfl hs0 lenk22) rfl <| Run.opG wantS_none (ex_move rfl) rfl ?_
  refine Run.opsEnd (Run.block (Run.loop ?_))
  exact Run.pick [3, 10, 11, 12] (glitch_areVetoes_1_ok F F a0 (a0.length : Int) (0 : Int) ([] : List ((List UInt8) × Bool)) s0 b23 _ _ _ hs0 hH24 h)

theorem mkk38 : makeK Tryz.prog 38 = none := by kernel_rfl
theorem cal38 : callable Tryz.prog 38 = true := by kernel_rfl
abbrev glitch_CheckVetoes_post (r : Int) : SV → Mem → Prop := fun s _ => s = (.int .i64 r)

def glitch_CheckVetoes (F : Nat) (a0 : (List S_api_Veto)) : Option (Int) :=
 bnd (glitch_areVetoes F a0) fun r22 =>
 bif (!r22) then
  some (63 : Int)
 else
  some (0 : Int)

theorem glitch_CheckVetoes_ok (F : Nat) (a0 : (List S_api_Veto)) (s0 : SV) (r : Int) (M : Mem) (hs0 : Slc (rd M) 2 (rep35 (rd M)) s0 a0) (h : glitch_CheckVetoes F a0 = some r) : CallsM Tryz.prog 14 [s0] M (fun s M' => s = (.int .i64 r) ∧ M' = M) := by
 refine CallsM.plain Tryz.func14 rfl rfl rfl (show Run _ _ _ (glitch_CheckVetoes_post r) _ _ _ from ?_)
 rw [glitch_CheckVetoes] at h
 replace hs0 := hs0.mono (rdLe_frozen M) (fun _ _ => rep35_mo (rdLe_frozen M))
 have hH := Has.nil (frozen M)
 refine Run.seq (Run.region ?_)
 refine Run.opG wantS_none (ex_assign rfl) rfl ?_
 refine Run.opsEnd (Run.seq (Run.seq (Run.region ?_)))
 refine Run.opG wantS_none (ex_move rfl) rfl ?_
 obtain ⟨r22, hr22, h⟩ := bnd_some h
 refine Run.callP wantS_none (ex_call rfl mkk38 cal38) rfl (glitch_areVetoes_ok F a0 s0 _ _ ((hs0).mono hH.le (fun _ _ => rep35_mo hH.le)) hr22) <| Run.opG wantS_none (ex_not rfl) rfl <| Run.opsEnd ?_
 rcases btf ((!r22)) with hc24 | hc24
 ·have h := bif_t hc24 h
  refine Run.condT' rfl hc24 ?_
  refine Run.seq (Run.region ?_)
  refine Run.opG wantS_none (ex_assign rfl) rfl <| Run.opsEnd ?_
  cases h
  exact Run.ret Tryz.func14 rfl (res_tmp rfl res_nil) rfl
 ·have h := bif_f hc24 h
  refine Run.condF' rfl hc24 ?_
  refine Run.skip (Run.seq (Run.region ?_))
  refine Run.opG wantS_none (ex_assign rfl) rfl <| Run.opsEnd ?_
  cases h
  exact Run.ret Tryz.func14 rfl (res_tmp rfl res_nil) rfl

theorem mkk14 : makeK Tryz.prog 14 = none := by kernel_rfl
theorem cal14 : callable Tryz.prog 14 = true := by kernel_rfl
theorem whs9 : whole Tryz.prog 9 = some .str := by kernel_rfl
abbrev ref01_IsName_post (r : Bool) : SV → Mem → Prop := fun s _ => s = (.bool r)

def ref01_IsName_8 (F : Nat) (hd4 : (List UInt8) → Int → Option (Bool)) (v0 : (List UInt8)) (v3 : Int) (v49 : Bool) : Option (Bool) :=
 bif v49 then
  some false
 else
  hd4 v0 (w64 (v3 + (1 : Int)))

theorem ref01_IsName_8_ok (F : Nat) (hd4 : (List UInt8) → Int → Option (Bool)) (hhd4 : ∀ (v0 : (List UInt8)) (v3 : Int) (Fr : Rd) (M : Mem) (r : Bool) (hH : Has Fr M []), hd4 v0 v3 = some r → Run Tryz.prog ⟨⟨86, [], none⟩, []⟩ 50 (ref01_IsName_post r) [(0, (.str v0)), (3, (.int .i64 v3))] [codeC Tryz.prog 86 [1, 1, 0, 1, 0, 0], loopC Tryz.prog 86 [1, 1, 0, 1, 0, 0], .inBlock 0, codeC Tryz.prog 86 [1, 1, 1]] M) : ∀ (v0 : (List UInt8)) (v3 : Int) (v49 : Bool) (Fr : Rd) (M : Mem) (r : Bool) (hH : Has Fr M []), ref01_IsName_8 F hd4 v0 v3 v49 = some r → Run Tryz.prog ⟨⟨86, [], none⟩, []⟩ 50 (ref01_IsName_post r) [(0, (.str v0)), (3, (.int .i64 v3)), (49, (.bool v49))] [codeC Tryz.prog 86 [1, 1, 0, 1, 0, 0, 1, 0, 0, 1, 1], .inBlock 1, codeC Tryz.prog 86 [1, 1, 0, 1, 0, 0, 1, 1], loopC Tryz.prog 86 [1, 1, 0, 1, 0, 0], .inBlock 0, codeC Tryz.prog 86 [1, 1, 1]] M := by
 intro v0 v3 v49 Fr M r hH h
 rw [ref01_IsName_8] at h
 rcases btf (v49) with hc32 | hc32
 ·have h := bif_t hc32 h
  refine Run.condT' rfl hc32 ?_
  refine Run.seq (Run.region ?_)
  refine Run.opG wantS_none (ex_assign rfl) rfl <| Run.opsEnd ?_
  cases h
  exact Run.ret Tryz.func86 rfl (res_tmp rfl res_nil) rfl
 ·have h := bif_f hc32 h
  refine Run.condF' rfl hc32 ?_
  refine Run.skip (Run.inBlock (Run.region ?_))
  refine Run.opG wantS_none (ex_move rfl) rfl <| Run.opG wantS_none (ex_add rfl rfl) rfl <| Run.opG wantS_none (ex_assign rfl) rfl ?_
  refine Run.opsEnd (Run.inLoop ?_)
  exact Run.pick [0, 3] (hhd4 v0 (w64 (v3 + (1 : Int))) _ _ _ hH h)

def ref01_IsName_7 (F : Nat) (hd4 : (List UInt8) → Int → Option (Bool)) (v0 : (List UInt8)) (v3 v4 : Int) (v45 : Bool) : Option (Bool) :=
 bif v45 then
  ref01_IsName_8 F hd4 v0 v3 (!(v4 == (95 : Int)))
 else
  ref01_IsName_8 F hd4 v0 v3 false

theorem ref01_IsName_7_ok (F : Nat) (hd4 : (List UInt8) → Int → Option (Bool)) (hhd4 : ∀ (v0 : (List UInt8)) (v3 : Int) (Fr : Rd) (M : Mem) (r : Bool) (hH : Has Fr M []), hd4 v0 v3 = some r → Run Tryz.prog ⟨⟨86, [], none⟩, []⟩ 50 (ref01_IsName_post r) [(0, (.str v0)), (3, (.int .i64 v3))] [codeC Tryz.prog 86 [1, 1, 0, 1, 0, 0], loopC Tryz.prog 86 [1, 1, 0, 1, 0, 0], .inBlock 0, codeC Tryz.prog 86 [1, 1, 1]] M) : ∀ (v0 : (List UInt8)) (v3 v4 : Int) (v45 : Bool) (Fr : Rd) (M : Mem) (r : Bool) (hH : Has Fr M []), ref01_IsName_7 F hd4 v0 v3 v4 v45 = some r → Run Tryz.prog ⟨⟨86, [], none⟩, []⟩ 50 (ref01_IsName_post r) [(0, (.str v0)), (3, (.int .i64 v3)), (4, (.int .u8 v4)), (45, (.bool v45))] [itemC Tryz.prog 86 [1, 1, 0, 1, 0, 0, 1, 0, 0, 1, 0] 14, codeC Tryz.prog 86 [1, 1, 0, 1, 0, 0, 1, 0, 0, 1, 1], .inBlock 1, codeC Tryz.prog 86 [1, 1, 0, 1, 0, 0, 1, 1], loopC Tryz.prog 86 [1, 1, 0, 1, 0, 0], .inBlock 0, codeC Tryz.prog 86 [1, 1, 1]] M := by
 intro v0 v3 v4 v45 Fr M r hH h
 rw [ref01_IsName_7] at h
 refine Run.opG wantS_none (ex_move rfl) rfl ?_
 rcases btf (v45) with hc31 | hc31
 ·have h := bif_t hc31 h
  refine Run.opG (wantS_yes' rfl rfl hc31) (ex_move rfl) rfl <| Run.opG (wantS_yes' rfl rfl hc31) (ex_neq rfl rfl) rfl <| Run.opG wantS_none (ex_pickT' rfl hc31 rfl rfl) rfl <| Run.opsEnd ?_
  exact Run.pick [0, 3, 49] (ref01_IsName_8_ok F hd4 hhd4 v0 v3 (!(v4 == (95 : Int))) _ _ _ hH h)
 ·have h := bif_f hc31 h
  refine Run.no (wantS_not' rfl rfl hc31) rfl <| Run.no (wantS_not' rfl rfl hc31) rfl <| Run.opG wantS_none (ex_pickF' rfl hc31 rfl rfl) rfl <| Run.opsEnd ?_
  exact Run.pick [0, 3, 49] (ref01_IsName_8_ok F hd4 hhd4 v0 v3 false _ _ _ hH h)

def ref01_IsName_6 (F : Nat) (hd4 : (List UInt8) → Int → Option (Bool)) (v0 : (List UInt8)) (v3 v4 : Int) (v38 v44 : Bool) : Option (Bool) :=
 ref01_IsName_7 F hd4 v0 v3 v4 (bif v38 then v44 else false)

theorem ref01_IsName_6_ok (F : Nat) (hd4 : (List UInt8) → Int → Option (Bool)) (hhd4 : ∀ (v0 : (List UInt8)) (v3 : Int) (Fr : Rd) (M : Mem) (r : Bool) (hH : Has Fr M []), hd4 v0 v3 = some r → Run Tryz.prog ⟨⟨86, [], none⟩, []⟩ 50 (ref01_IsName_post r) [(0, (.str v0)), (3, (.int .i64 v3))] [codeC Tryz.prog 86 [1, 1, 0, 1, 0, 0], loopC Tryz.prog 86 [1, 1, 0, 1, 0, 0], .inBlock 0, codeC Tryz.prog 86 [1, 1, 1]] M) : ∀ (v0 : (List UInt8)) (v3 v4 : Int) (v38 v44 : Bool) (Fr : Rd) (M : Mem) (r : Bool) (hH : Has Fr M []), ref01_IsName_6 F hd4 v0 v3 v4 v38 v44 = some r → Run Tryz.prog ⟨⟨86, [], none⟩, []⟩ 50 (ref01_IsName_post r) [(0, (.str v0)), (3, (.int .i64 v3)), (4, (.int .u8 v4)), (38, (.bool v38)), (44, (.bool v44))] [itemC Tryz.prog 86 [1, 1, 0, 1, 0, 0, 1, 0, 0, 1, 0] 13, codeC Tryz.prog 86 [1, 1, 0, 1, 0, 0, 1, 0, 0, 1, 1], .inBlock 1, codeC Tryz.prog 86 [1, 1, 0, 1, 0, 0, 1, 1], loopC Tryz.prog 86 [1, 1, 0, 1, 0, 0], .inBlock 0, codeC Tryz.prog 86 [1, 1, 1]] M := by
 intro v0 v3 v4 v38 v44 Fr M r hH h
 rw [ref01_IsName_6] at h
 refine Run.opG wantS_none (ex_pickB rfl rfl rfl) rfl ?_
 exact Run.pick [0, 3, 4, 45] (ref01_IsName_7_ok F hd4 hhd4 v0 v3 v4 (bif v38 then v44 else false) _ _ _ hH h)

def ref01_IsName_9 (F : Nat) (hd4 : (List UInt8) → Int → Option (Bool)) (v0 : (List UInt8)) (v3 v4 : Int) (v38 : Bool) : Option (Bool) :=
 bif v38 then
  none
 else
  ref01_IsName_7 F hd4 v0 v3 v4 false

theorem ref01_IsName_9_ok (F : Nat) (hd4 : (List UInt8) → Int → Option (Bool)) (hhd4 : ∀ (v0 : (List UInt8)) (v3 : Int) (Fr : Rd) (M : Mem) (r : Bool) (hH : Has Fr M []), hd4 v0 v3 = some r → Run Tryz.prog ⟨⟨86, [], none⟩, []⟩ 50 (ref01_IsName_post r) [(0, (.str v0)), (3, (.int .i64 v3))] [codeC Tryz.prog 86 [1, 1, 0, 1, 0, 0], loopC Tryz.prog 86 [1, 1, 0, 1, 0, 0], .inBlock 0, codeC Tryz.prog 86 [1, 1, 1]] M) : ∀ (v0 : (List UInt8)) (v3 v4 : Int) (v38 : Bool) (Fr : Rd) (M : Mem) (r : Bool) (hH : Has Fr M []), ref01_IsName_9 F hd4 v0 v3 v4 v38 = some r → Run Tryz.prog ⟨⟨86, [], none⟩, []⟩ 50 (ref01_IsName_post r) [(0, (.str v0)), (3, (.int .i64 v3)), (4, (.int .u8 v4)), (38, (.bool v38)), (44, (.tuple []))] [itemC Tryz.prog 86 [1, 1, 0, 1, 0, 0, 1, 0, 0, 1, 0] 13, codeC Tryz.prog 86 [1, 1, 0, 1, 0, 0, 1, 0, 0, 1, 1], .inBlock 1, codeC Tryz.prog 86 [1, 1, 0, 1, 0, 0, 1, 1], loopC Tryz.prog 86 [1, 1, 0, 1, 0, 0], .inBlock 0, codeC Tryz.prog 86 [1, 1, 1]] M := by
 intro v0 v3 v4 v38 Fr M r hH h
 rw [ref01_IsName_9] at h
 rcases btf (v38) with hc33 | hc33
 ·have h := bif_t hc33 h
  cases h
 ·have h := bif_f hc33 h
  refine Run.opG wantS_none (ex_pickF' rfl hc33 rfl rfl) rfl ?_
  exact Run.pick [0, 3, 4, 45] (ref01_IsName_7_ok F hd4 hhd4 v0 v3 v4 false _ _ _ hH h)

def ref01_IsName_5 (F : Nat) (hd4 : (List UInt8) → Int → Option (Bool)) (v0 : (List UInt8)) (v3 v4 : Int) (v37 : Bool) : Option (Bool) :=
 bif v37 then
  bif (decide (v4 < (48 : Int))) then
   ref01_IsName_6 F hd4 v0 v3 v4 v37 true
  else
   ref01_IsName_6 F hd4 v0 v3 v4 v37 (decide ((57 : Int) < v4))
 else
  ref01_IsName_9 F hd4 v0 v3 v4 v37

theorem ref01_IsName_5_ok (F : Nat) (hd4 : (List UInt8) → Int → Option (Bool)) (hhd4 : ∀ (v0 : (List UInt8)) (v3 : Int) (Fr : Rd) (M : Mem) (r : Bool) (hH : Has Fr M []), hd4 v0 v3 = some r → Run Tryz.prog ⟨⟨86, [], none⟩, []⟩ 50 (ref01_IsName_post r) [(0, (.str v0)), (3, (.int .i64 v3))] [codeC Tryz.prog 86 [1, 1, 0, 1, 0, 0], loopC Tryz.prog 86 [1, 1, 0, 1, 0, 0], .inBlock 0, codeC Tryz.prog 86 [1, 1, 1]] M) : ∀ (v0 : (List UInt8)) (v3 v4 : Int) (v37 : Bool) (Fr : Rd) (M : Mem) (r : Bool) (hH : Has Fr M []), ref01_IsName_5 F hd4 v0 v3 v4 v37 = some r → Run Tryz.prog ⟨⟨86, [], none⟩, []⟩ 50 (ref01_IsName_post r) [(0, (.str v0)), (3, (.int .i64 v3)), (4, (.int .u8 v4)), (37, (.bool v37))] [itemC Tryz.prog 86 [1, 1, 0, 1, 0, 0, 1, 0, 0, 1, 0] 6, codeC Tryz.prog 86 [1, 1, 0, 1, 0, 0, 1, 0, 0, 1, 1], .inBlock 1, codeC Tryz.prog 86 [1, 1, 0, 1, 0, 0, 1, 1], loopC Tryz.prog 86 [1, 1, 0, 1, 0, 0], .inBlock 0, codeC Tryz.prog 86 [1, 1, 1]] M := by
 intro v0 v3 v4 v37 Fr M r hH h
 rw [ref01_IsName_5] at h
 refine Run.opG wantS_none (ex_move rfl) rfl ?_
 rcases btf (v37) with hc29 | hc29
 ·have h := bif_t hc29 h
  refine Run.opG (wantS_yes' rfl rfl hc29) (ex_move rfl) rfl <| Run.opG (wantS_yes' rfl rfl hc29) (ex_lss rfl rfl) rfl <| Run.opG (wantS_yes' rfl rfl hc29) (ex_move rfl) rfl ?_
  rcases btf ((decide (v4 < (48 : Int)))) with hc30 | hc30
  ·have h := bif_t hc30 h
   refine Run.no (wantS_not' rfl rfl hc30) rfl <| Run.no (wantS_not' rfl rfl hc30) rfl <| Run.opG (wantS_yes' rfl rfl hc29) (ex_pickT' rfl hc30 rfl rfl) rfl ?_
   exact Run.pick [0, 3, 4, 38, 44] (ref01_IsName_6_ok F hd4 hhd4 v0 v3 v4 v37 true _ _ _ hH h)
  ·have h := bif_f hc30 h
   refine Run.opG (wantS_yes' rfl rfl hc30) (ex_move rfl) rfl <| Run.opG (wantS_yes' rfl rfl hc30) (ex_gtr rfl rfl) rfl <| Run.opG (wantS_yes' rfl rfl hc29) (ex_pickF' rfl hc30 rfl rfl) rfl ?_
   exact Run.pick [0, 3, 4, 38, 44] (ref01_IsName_6_ok F hd4 hhd4 v0 v3 v4 v37 (decide ((57 : Int) < v4)) _ _ _ hH h)
 ·have h := bif_f hc29 h
  refine Run.no (wantS_not' rfl rfl hc29) rfl <| Run.no (wantS_not' rfl rfl hc29) rfl <| Run.no (wantS_not' rfl rfl hc29) rfl <| Run.no (wantS_skip rfl rfl) rfl <| Run.no (wantS_skip rfl rfl) rfl <| Run.no (wantS_not' rfl rfl hc29) rfl ?_
  exact Run.pick [0, 3, 4, 38, 44] (ref01_IsName_9_ok F hd4 hhd4 v0 v3 v4 v37 _ _ _ hH h)

def ref01_IsName_4 (F : Nat) : Nat → (List UInt8) → Int → Option (Bool)
 | 0, _, _ => none
 | N + 1, v0, v3 =>
  bif (decide (v3 < (v0.length : Int))) then
   bnd (sAt v0 v3) fun z27 =>
   bif (decide (z27 < (97 : Int))) then
    ref01_IsName_5 F (ref01_IsName_4 F N) v0 v3 z27 true
   else
    ref01_IsName_5 F (ref01_IsName_4 F N) v0 v3 z27 (decide ((122 : Int) < z27))
  else
   some true

theorem ref01_IsName_4_ok (F : Nat) : ∀ (N : Nat), ∀ (v0 : (List UInt8)) (v3 : Int) (Fr : Rd) (M : Mem) (r : Bool) (hH : Has Fr M []), ref01_IsName_4 F N v0 v3 = some r → Run Tryz.prog ⟨⟨86, [], none⟩, []⟩ 50 (ref01_IsName_post r) [(0, (.str v0)), (3, (.int .i64 v3))] [codeC Tryz.prog 86 [1, 1, 0, 1, 0, 0], loopC Tryz.prog 86 [1, 1, 0, 1, 0, 0], .inBlock 0, codeC Tryz.prog 86 [1, 1, 1]] M := by
 intro N
 induction N with
 | zero =>
  intro v0 v3 Fr M r hH h
  simp [ref01_IsName_4] at h
 | succ N ih =>
  intro v0 v3 Fr M r hH h
  rw [ref01_IsName_4] at h
  refine Run.seq (Run.seq (Run.region ?_))
  refine Run.opG wantS_none (ex_move rfl) rfl <| Run.opG wantS_none (ex_move rfl) rfl <| Run.opG wantS_none (ex_lenS rfl lenk9) rfl <| Run.opG wantS_none (ex_lss rfl rfl) rfl <| Run.opsEnd ?_
  rcases btf ((decide (v3 < (v0.length : Int)))) with hc25 | hc25
  ·have h := bif_t hc25 h
   refine Run.condT' rfl hc25 ?_
   refine Run.skip (Run.seq (Run.block (Run.seq (Run.region ?_))))
   refine Run.opG wantS_none (ex_move rfl) rfl <| Run.opG wantS_none (ex_move rfl) rfl ?_
   obtain ⟨z27, hz27, h⟩ := bnd_some h
   refine Run.opG wantS_none (ex_sAt rfl rfl whs9 hz27) rfl <| Run.opG wantS_none (ex_assign rfl) rfl ?_
   refine Run.opsEnd (Run.seq (Run.region ?_))
   refine Run.opG wantS_none (ex_move rfl) rfl <| Run.opG wantS_none (ex_lss rfl rfl) rfl <| Run.opG wantS_none (ex_move rfl) rfl ?_
   rcases btf ((decide (z27 < (97 : Int)))) with hc28 | hc28
   ·have h := bif_t hc28 h
    refine Run.no (wantS_not' rfl rfl hc28) rfl <| Run.no (wantS_not' rfl rfl hc28) rfl <| Run.opG wantS_none (ex_pickT' rfl hc28 rfl rfl) rfl ?_
    exact Run.pick [0, 3, 4, 37] (ref01_IsName_5_ok F (ref01_IsName_4 F N) ih v0 v3 z27 true _ _ _ hH h)
   ·have h := bif_f hc28 h
    refine Run.opG (wantS_yes' rfl rfl hc28) (ex_move rfl) rfl <| Run.opG (wantS_yes' rfl rfl hc28) (ex_gtr rfl rfl) rfl <| Run.opG wantS_none (ex_pickF' rfl hc28 rfl rfl) rfl ?_
    exact Run.pick [0, 3, 4, 37] (ref01_IsName_5_ok F (ref01_IsName_4 F N) ih v0 v3 z27 (decide ((122 : Int) < z27)) _ _ _ hH h)
  ·have h := bif_f hc25 h
   refine Run.condF' rfl hc25 ?_
   refine Run.exit rfl (Run.seq (Run.region ?_))
   refine Run.opG wantS_none (ex_assign rfl) rfl <| Run.opsEnd ?_
   cases h
   exact Run.ret Tryz.func86 rfl (res_tmp rfl res_nil) rfl

def ref01_IsName_3 (F : Nat) (v0 : (List UInt8)) (v22 : Bool) : Option (Bool) :=
 bif v22 then
  some false
 else
  ref01_IsName_4 F F v0 (0 : Int)

theorem ref01_IsName_3_ok (F : Nat) : ∀ (v0 : (List UInt8)) (v22 : Bool) (Fr : Rd) (M : Mem) (r : Bool) (hH : Has Fr M []), ref01_IsName_3 F v0 v22 = some r → Run Tryz.prog ⟨⟨86, [], none⟩, []⟩ 50 (ref01_IsName_post r) [(0, (.str v0)), (22, (.bool v22))] [codeC Tryz.prog 86 [1, 0, 1], codeC Tryz.prog 86 [1, 1]] M := by
 intro v0 v22 Fr M r hH h
 rw [ref01_IsName_3] at h
 rcases btf (v22) with hc24 | hc24
 ·have h := bif_t hc24 h
  refine Run.condT' rfl hc24 ?_
  refine Run.seq (Run.region ?_)
  refine Run.opG wantS_none (ex_assign rfl) rfl <| Run.opsEnd ?_
  cases h
  exact Run.ret Tryz.func86 rfl (res_tmp rfl res_nil) rfl
 ·have h := bif_f hc24 h
  refine Run.condF' rfl hc24 ?_
  refine Run.skip (Run.seq (Run.seq (Run.region ?_)))
  refine Run.opG wantS_none (ex_assign rfl) rfl ?_
  refine Run.opsEnd (Run.block (Run.loop ?_))
  exact Run.pick [0, 3] (ref01_IsName_4_ok F F v0 (0 : Int) _ _ _ hH h)

def ref01_IsName_2 (F : Nat) (v0 : (List UInt8)) (v17 : Bool) : Option (Bool) :=
 bif v17 then
  ref01_IsName_3 F v0 true
 else
  bnd (sAt v0 (0 : Int)) fun z35 =>
  ref01_IsName_3 F v0 (decide ((122 : Int) < z35))

theorem ref01_IsName_2_ok (F : Nat) : ∀ (v0 : (List UInt8)) (v17 : Bool) (Fr : Rd) (M : Mem) (r : Bool) (hH : Has Fr M []), ref01_IsName_2 F v0 v17 = some r → Run Tryz.prog ⟨⟨86, [], none⟩, []⟩ 50 (ref01_IsName_post r) [(0, (.str v0)), (17, (.bool v17))] [itemC Tryz.prog 86 [1, 0, 0] 13, codeC Tryz.prog 86 [1, 0, 1], codeC Tryz.prog 86 [1, 1]] M := by
 intro v0 v17 Fr M r hH h
 rw [ref01_IsName_2] at h
 refine Run.opG wantS_none (ex_move rfl) rfl ?_
 rcases btf (v17) with hc23 | hc23
 ·have h := bif_t hc23 h
  refine Run.no (wantS_not' rfl rfl hc23) rfl <| Run.no (wantS_not' rfl rfl hc23) rfl <| Run.no (wantS_not' rfl rfl hc23) rfl <| Run.opG wantS_none (ex_pickT' rfl hc23 rfl rfl) rfl <| Run.opsEnd ?_
  exact Run.pick [0, 22] (ref01_IsName_3_ok F v0 true _ _ _ hH h)
 ·have h := bif_f hc23 h
  refine Run.opG (wantS_yes' rfl rfl hc23) (ex_move rfl) rfl ?_
  obtain ⟨z35, hz35, h⟩ := bnd_some h
  refine Run.opG (wantS_yes' rfl rfl hc23) (ex_sAt rfl rfl whs9 hz35) rfl <| Run.opG (wantS_yes' rfl rfl hc23) (ex_gtr rfl rfl) rfl <| Run.opG wantS_none (ex_pickF' rfl hc23 rfl rfl) rfl <| Run.opsEnd ?_
  exact Run.pick [0, 22] (ref01_IsName_3_ok F v0 (decide ((122 : Int) < z35)) _ _ _ hH h)

def ref01_IsName_1 (F : Nat) (v0 : (List UInt8)) (v12 : Bool) : Option (Bool) :=
 bif v12 then
  ref01_IsName_2 F v0 true
 else
  bnd (sAt v0 (0 : Int)) fun z37 =>
  ref01_IsName_2 F v0 (decide (z37 < (97 : Int)))

theorem ref01_IsName_1_ok (F : Nat) : ∀ (v0 : (List UInt8)) (v12 : Bool) (Fr : Rd) (M : Mem) (r : Bool) (hH : Has Fr M []), ref01_IsName_1 F v0 v12 = some r → Run Tryz.prog ⟨⟨86, [], none⟩, []⟩ 50 (ref01_IsName_post r) [(0, (.str v0)), (12, (.bool v12))] [itemC Tryz.prog 86 [1, 0, 0] 8, codeC Tryz.prog 86 [1, 0, 1], codeC Tryz.prog 86 [1, 1]] M := by
 intro v0 v12 Fr M r hH h
 rw [ref01_IsName_1] at h
 refine Run.opG wantS_none (ex_move rfl) rfl ?_
 rcases btf (v12) with hc22 | hc22
 ·have h := bif_t hc22 h
  refine Run.no (wantS_not' rfl rfl hc22) rfl <| Run.no (wantS_not' rfl rfl hc22) rfl <| Run.no (wantS_not' rfl rfl hc22) rfl <| Run.opG wantS_none (ex_pickT' rfl hc22 rfl rfl) rfl ?_
  exact Run.pick [0, 17] (ref01_IsName_2_ok F v0 true _ _ _ hH h)
 ·have h := bif_f hc22 h
  refine Run.opG (wantS_yes' rfl rfl hc22) (ex_move rfl) rfl ?_
  obtain ⟨z37, hz37, h⟩ := bnd_some h
  refine Run.opG (wantS_yes' rfl rfl hc22) (ex_sAt rfl rfl whs9 hz37) rfl <| Run.opG (wantS_yes' rfl rfl hc22) (ex_lss rfl rfl) rfl <| Run.opG wantS_none (ex_pickF' rfl hc22 rfl rfl) rfl ?_
  exact Run.pick [0, 17] (ref01_IsName_2_ok F v0 (decide (z37 < (97 : Int))) _ _ _ hH h)

def ref01_IsName (F : Nat) (a0 : (List UInt8)) : Option (Bool) :=
 bif (decide ((a0.length : Int) < (1 : Int))) then
  ref01_IsName_1 F a0 true
 else
  ref01_IsName_1 F a0 (decide ((16 : Int) < (a0.length : Int)))

theorem ref01_IsName_ok (F : Nat) (a0 : (List UInt8)) (r : Bool) (M : Mem) (h : ref01_IsName F a0 = some r) : CallsM Tryz.prog 86 [(.str a0)] M (fun s M' => s = (.bool r) ∧ M' = M) := by
 refine CallsM.plain Tryz.func86 rfl rfl rfl (show Run _ _ _ (ref01_IsName_post r) _ _ _ from ?_)
 rw [ref01_IsName] at h
 have hH := Has.nil (frozen M)
 refine Run.seq (Run.region ?_)
 refine Run.opG wantS_none (ex_assign rfl) rfl ?_
 refine Run.opsEnd (Run.seq (Run.seq (Run.region ?_)))
 refine Run.opG wantS_none (ex_move rfl) rfl <| Run.opG wantS_none (ex_lenS rfl lenk9) rfl <| Run.opG wantS_none (ex_lss rfl rfl) rfl <| Run.opG wantS_none (ex_move rfl) rfl ?_
 rcases btf ((decide ((a0.length : Int) < (1 : Int)))) with hc21 | hc21
 ·have h := bif_t hc21 h
  refine Run.no (wantS_not' rfl rfl hc21) rfl <| Run.no (wantS_not' rfl rfl hc21) rfl <| Run.no (wantS_not' rfl rfl hc21) rfl <| Run.opG wantS_none (ex_pickT' rfl hc21 rfl rfl) rfl ?_
  exact Run.pick [0, 12] (ref01_IsName_1_ok F a0 true _ _ _ hH h)
 ·have h := bif_f hc21 h
  refine Run.opG (wantS_yes' rfl rfl hc21) (ex_move rfl) rfl <| Run.opG (wantS_yes' rfl rfl hc21) (ex_lenS rfl lenk9) rfl <| Run.opG (wantS_yes' rfl rfl hc21) (ex_gtr rfl rfl) rfl <| Run.opG wantS_none (ex_pickF' rfl hc21 rfl rfl) rfl ?_
  exact Run.pick [0, 12] (ref01_IsName_1_ok F a0 (decide ((16 : Int) < (a0.length : Int))) _ _ _ hH h)

theorem mkk86 : makeK Tryz.prog 86 = none := by kernel_rfl
theorem cal86 : callable Tryz.prog 86 = true := by kernel_rfl
theorem zer37 : zerosOf Tryz.prog 37 = some [(.int .i64 0), (.int .i64 0)] := by kernel_rfl
theorem sz37 : szOf Tryz.prog 37 = some 2 := by kernel_rfl
abbrev ref06_veto_post (r : Bool) : SV → Mem → Prop := fun s _ => s = (.bool r)

def ref06_veto_4 (F : Nat) (hd2 : Int → (List UInt8) → (List S_api_Segment) → Option (Bool)) (v3 : Int) (v41 : Bool) (c22_0 : (List UInt8)) (c22_1 : (List S_api_Segment)) : Option (Bool) :=
 bif v41 then
  some false
 else
  hd2 (w64 (v3 + (1 : Int))) c22_0 c22_1

theorem ref06_veto_4_ok (F : Nat) (hd2 : Int → (List UInt8) → (List S_api_Segment) → Option (Bool)) (hhd2 : ∀ (v3 : Int) (c22_0 : (List UInt8)) (c22_1 : (List S_api_Segment)) (sc22_1 : SV) (b22 : Pos) (Fr : Rd) (M : Mem) (r : Bool) (hc22_1 : Slc Fr 2 (FlatR enc37) sc22_1 c22_1) (hH : Has Fr M [.obj b22 (.row 35 .whole [(.str c22_0), sc22_1])]), hd2 v3 c22_0 c22_1 = some r → Run Tryz.prog ⟨⟨42, [], none⟩, []⟩ 42 (ref06_veto_post r) [(1, (.ptr b22 0)), (3, (.int .i64 v3))] [codeC Tryz.prog 42 [1, 1, 0, 1, 0, 0], loopC Tryz.prog 42 [1, 1, 0, 1, 0, 0], .inBlock 0, codeC Tryz.prog 42 [1, 1, 1]] M) : ∀ (v3 : Int) (v41 : Bool) (c22_0 : (List UInt8)) (c22_1 : (List S_api_Segment)) (sc22_1 : SV) (b22 : Pos) (Fr : Rd) (M : Mem) (r : Bool) (hc22_1 : Slc Fr 2 (FlatR enc37) sc22_1 c22_1) (hH : Has Fr M [.obj b22 (.row 35 .whole [(.str c22_0), sc22_1])]), ref06_veto_4 F hd2 v3 v41 c22_0 c22_1 = some r → Run Tryz.prog ⟨⟨42, [], none⟩, []⟩ 42 (ref06_veto_post r) [(1, (.ptr b22 0)), (3, (.int .i64 v3)), (41, (.bool v41))] [codeC Tryz.prog 42 [1, 1, 0, 1, 0, 0, 1, 0, 0, 1, 1], .inBlock 1, codeC Tryz.prog 42 [1, 1, 0, 1, 0, 0, 1, 1], loopC Tryz.prog 42 [1, 1, 0, 1, 0, 0], .inBlock 0, codeC Tryz.prog 42 [1, 1, 1]] M := by
 intro v3 v41 c22_0 c22_1 sc22_1 b22 Fr M r hc22_1 hH h
 rw [ref06_veto_4] at h
 rcases btf (v41) with hc38 | hc38
 ·have h := bif_t hc38 h
  refine Run.condT' rfl hc38 ?_
  refine Run.seq (Run.region ?_)
  refine Run.opG wantS_none (ex_assign rfl) rfl <| Run.opsEnd ?_
  cases h
  exact Run.ret Tryz.func42 rfl (res_tmp rfl res_nil) rfl
 ·have h := bif_f hc38 h
  refine Run.condF' rfl hc38 ?_
  refine Run.skip (Run.inBlock (Run.region ?_))
  refine Run.opG wantS_none (ex_move rfl) rfl <| Run.opG wantS_none (ex_add rfl rfl) rfl <| Run.opG wantS_none (ex_assign rfl) rfl ?_
  refine Run.opsEnd (Run.inLoop ?_)
  exact Run.pick [1, 3] (hhd2 (w64 (v3 + (1 : Int))) c22_0 c22_1 sc22_1 b22 _ _ _ hc22_1 hH h)

def ref06_veto_3 (F : Nat) (hd2 : Int → (List UInt8) → (List S_api_Segment) → Option (Bool)) (v3 : Int) (v36 : Bool) (c22_0 : (List UInt8)) (c22_1 : (List S_api_Segment)) (c33 : S_api_Segment) : Option (Bool) :=
 bif v36 then
  ref06_veto_4 F hd2 v3 true c22_0 c22_1
 else
  ref06_veto_4 F hd2 v3 (decide ((1073741824 : Int) < c33.To)) c22_0 c22_1

theorem ref06_veto_3_ok (F : Nat) (hd2 : Int → (List UInt8) → (List S_api_Segment) → Option (Bool)) (hhd2 : ∀ (v3 : Int) (c22_0 : (List UInt8)) (c22_1 : (List S_api_Segment)) (sc22_1 : SV) (b22 : Pos) (Fr : Rd) (M : Mem) (r : Bool) (hc22_1 : Slc Fr 2 (FlatR enc37) sc22_1 c22_1) (hH : Has Fr M [.obj b22 (.row 35 .whole [(.str c22_0), sc22_1])]), hd2 v3 c22_0 c22_1 = some r → Run Tryz.prog ⟨⟨42, [], none⟩, []⟩ 42 (ref06_veto_post r) [(1, (.ptr b22 0)), (3, (.int .i64 v3))] [codeC Tryz.prog 42 [1, 1, 0, 1, 0, 0], loopC Tryz.prog 42 [1, 1, 0, 1, 0, 0], .inBlock 0, codeC Tryz.prog 42 [1, 1, 1]] M) : ∀ (v3 : Int) (v36 : Bool) (c22_0 : (List UInt8)) (c22_1 : (List S_api_Segment)) (c33 : S_api_Segment) (sc22_1 : SV) (b22 b33 : Pos) (Fr : Rd) (M : Mem) (r : Bool) (hc22_1 : Slc Fr 2 (FlatR enc37) sc22_1 c22_1) (hH : Has Fr M [.obj b22 (.row 35 .whole [(.str c22_0), sc22_1]), .obj b33 (.row 37 .whole [(.int .i64 c33.From), (.int .i64 c33.To)])]), ref06_veto_3 F hd2 v3 v36 c22_0 c22_1 c33 = some r → Run Tryz.prog ⟨⟨42, [], none⟩, []⟩ 42 (ref06_veto_post r) [(1, (.ptr b22 0)), (3, (.int .i64 v3)), (4, (.ptr b33 0)), (36, (.bool v36))] [itemC Tryz.prog 42 [1, 1, 0, 1, 0, 0, 1, 0, 0, 1, 0] 10, codeC Tryz.prog 42 [1, 1, 0, 1, 0, 0, 1, 0, 0, 1, 1], .inBlock 1, codeC Tryz.prog 42 [1, 1, 0, 1, 0, 0, 1, 1], loopC Tryz.prog 42 [1, 1, 0, 1, 0, 0], .inBlock 0, codeC Tryz.prog 42 [1, 1, 1]] M := by
 intro v3 v36 c22_0 c22_1 c33 sc22_1 b22 b33 Fr M r hc22_1 hH h
 rw [ref06_veto_3] at h
 refine Run.opG wantS_none (ex_move rfl) rfl ?_
 rcases btf (v36) with hc37 | hc37
 ·have h := bif_t hc37 h
  refine Run.no (wantS_not' rfl rfl hc37) rfl <| Run.no (wantS_not' rfl rfl hc37) rfl <| Run.no (wantS_not' rfl rfl hc37) rfl <| Run.opG wantS_none (ex_pickT' rfl hc37 rfl rfl) rfl <| Run.opsEnd ?_
  exact Run.pick [1, 3, 41] (ref06_veto_4_ok F hd2 hhd2 v3 true c22_0 c22_1 sc22_1 b22 _ _ _ hc22_1 (hH.pick [0] rfl rfl) h)
 ·have h := bif_f hc37 h
  refine Run.opG (wantS_yes' rfl rfl hc37) (ex_fieldAddr rfl off37_1) rfl <| Run.opG (wantS_yes' rfl rfl hc37) (ex_load1 rfl (hH.cells (i := 1) rfl 1 rfl) rdLe_rfl agg3) rfl <| Run.opG (wantS_yes' rfl rfl hc37) (ex_gtr rfl rfl) rfl <| Run.opG wantS_none (ex_pickF' rfl hc37 rfl rfl) rfl <| Run.opsEnd ?_
  exact Run.pick [1, 3, 41] (ref06_veto_4_ok F hd2 hhd2 v3 (decide ((1073741824 : Int) < c33.To)) c22_0 c22_1 sc22_1 b22 _ _ _ hc22_1 (hH.pick [0] rfl rfl) h)

def ref06_veto_2 (F : Nat) : Nat → Int → (List UInt8) → (List S_api_Segment) → Option (Bool)
 | 0, _, _, _ => none
 | N + 1, v3, c22_0, c22_1 =>
  bif (decide (v3 < (c22_1.length : Int))) then
   bnd (idx c22_1 v3) fun x31 =>
   bif (decide (x31.From < (0 : Int))) then
    ref06_veto_3 F (ref06_veto_2 F N) v3 true c22_0 c22_1 x31
   else
    ref06_veto_3 F (ref06_veto_2 F N) v3 (decide (x31.To ≤ x31.From)) c22_0 c22_1 x31
  else
   some true

theorem ref06_veto_2_ok (F : Nat) : ∀ (N : Nat), ∀ (v3 : Int) (c22_0 : (List UInt8)) (c22_1 : (List S_api_Segment)) (sc22_1 : SV) (b22 : Pos) (Fr : Rd) (M : Mem) (r : Bool) (hc22_1 : Slc Fr 2 (FlatR enc37) sc22_1 c22_1) (hH : Has Fr M [.obj b22 (.row 35 .whole [(.str c22_0), sc22_1])]), ref06_veto_2 F N v3 c22_0 c22_1 = some r → Run Tryz.prog ⟨⟨42, [], none⟩, []⟩ 42 (ref06_veto_post r) [(1, (.ptr b22 0)), (3, (.int .i64 v3))] [codeC Tryz.prog 42 [1, 1, 0, 1, 0, 0], loopC Tryz.prog 42 [1, 1, 0, 1, 0, 0], .inBlock 0, codeC Tryz.prog 42 [1, 1, 1]] M := by
 intro N
 induction N with
 | zero =>
  intro v3 c22_0 c22_1 sc22_1 b22 Fr M r hc22_1 hH h
  simp [ref06_veto_2] at h
 | succ N ih =>
  intro v3 c22_0 c22_1 sc22_1 b22 Fr M r hc22_1 hH h
  rw [ref06_veto_2] at h
  refine Run.seq (Run.seq (Run.region ?_))
  refine Run.opG wantS_none (ex_move rfl) rfl <| Run.opG wantS_none (ex_fieldAddr rfl off35_1) rfl <| Run.opG wantS_none (ex_load1 rfl (hH.cells (i := 0) rfl 1 rfl) rdLe_rfl agg31) rfl <| Run.opG wantS_none (ex_len' rfl hc22_1 lenk31) rfl <| Run.opG wantS_none (ex_lss rfl rfl) rfl <| Run.opsEnd ?_
  rcases btf ((decide (v3 < (c22_1.length : Int)))) with hc29 | hc29
  ·have h := bif_t hc29 h
   refine Run.condT' rfl hc29 ?_
   refine Run.skip (Run.seq (Run.block (Run.seq (Run.region ?_))))
   refine Run.opG wantS_none (ex_fieldAddr rfl off35_1) rfl <| Run.opG wantS_none (ex_load1 rfl (hH.cells (i := 0) rfl 1 rfl) rdLe_rfl agg31) rfl <| Run.opG wantS_none (ex_move rfl) rfl ?_
   obtain ⟨x31, hx31, h⟩ := bnd_some h
   obtain ⟨p31, o31, _, hx31, hp31, rfl⟩ := sl_elem (P := Tryz.prog) (t := 31) (kk := .i64) hc22_1 hx31 els31
   refine Run.opG wantS_none (ex_elX rfl rfl hx31) rfl <| Run.opG wantS_none (ex_loadA rfl (hH.ptrF hp31) rdLe_rfl agg37 rfl rfl rfl) rfl <| Run.opX wantS_none rfl (ExG.new (v := fun b => .ptr b 0) (ex_alloc zer37) hH) ?_
   rintro _ M34 ⟨b33, rfl, hH34⟩
   refine Run.opX wantS_none rfl (ExG.storeC (c' := [(.int .i64 x31.From), (.int .i64 x31.To)]) rfl rfl rfl hH34 (i := 0) rfl sz37 rfl rfl rfl rfl rfl) ?_
   rintro _ M35 ⟨rfl, (hH35 : Has Fr M35 [.obj b33 (.row 37 .whole [(.int .i64 x31.From), (.int .i64 x31.To)]), .obj b22 (.row 35 .whole [(.str c22_0), sc22_1])])⟩
   refine Run.opsEnd (Run.seq (Run.region ?_))
   refine Run.opG wantS_none (ex_fieldAddr rfl off37_0) rfl <| Run.opG wantS_none (ex_load1 rfl (hH35.cells (i := 0) rfl 0 rfl) rdLe_rfl agg3) rfl <| Run.opG wantS_none (ex_lss rfl rfl) rfl <| Run.opG wantS_none (ex_move rfl) rfl ?_
   rcases btf ((decide (x31.From < (0 : Int)))) with hc36 | hc36
   ·have h := bif_t hc36 h
    refine Run.no (wantS_not' rfl rfl hc36) rfl <| Run.no (wantS_not' rfl rfl hc36) rfl <| Run.no (wantS_not' rfl rfl hc36) rfl <| Run.no (wantS_not' rfl rfl hc36) rfl <| Run.no (wantS_not' rfl rfl hc36) rfl <| Run.opG wantS_none (ex_pickT' rfl hc36 rfl rfl) rfl ?_
    exact Run.pick [1, 3, 4, 36] (ref06_veto_3_ok F (ref06_veto_2 F N) ih v3 true c22_0 c22_1 x31 sc22_1 b22 b33 _ _ _ hc22_1 (hH35.pick [1, 0] rfl rfl) h)
   ·have h := bif_f hc36 h
    refine Run.opG (wantS_yes' rfl rfl hc36) (ex_fieldAddr rfl off37_0) rfl <| Run.opG (wantS_yes' rfl rfl hc36) (ex_load1 rfl (hH35.cells (i := 0) rfl 0 rfl) rdLe_rfl agg3) rfl <| Run.opG (wantS_yes' rfl rfl hc36) (ex_fieldAddr rfl off37_1) rfl <| Run.opG (wantS_yes' rfl rfl hc36) (ex_load1 rfl (hH35.cells (i := 0) rfl 1 rfl) rdLe_rfl agg3) rfl <| Run.opG (wantS_yes' rfl rfl hc36) (ex_geq rfl rfl) rfl <| Run.opG wantS_none (ex_pickF' rfl hc36 rfl rfl) rfl ?_
    exact Run.pick [1, 3, 4, 36] (ref06_veto_3_ok F (ref06_veto_2 F N) ih v3 (decide (x31.To ≤ x31.From)) c22_0 c22_1 x31 sc22_1 b22 b33 _ _ _ hc22_1 (hH35.pick [1, 0] rfl rfl) h)
  ·have h := bif_f hc29 h
   refine Run.condF' rfl hc29 ?_
   refine Run.exit rfl (Run.seq (Run.region ?_))
   refine Run.opG wantS_none (ex_assign rfl) rfl <| Run.opsEnd ?_
   cases h
   exact Run.ret Tryz.func42 rfl (res_tmp rfl res_nil) rfl

def ref06_veto_1 (F : Nat) (v14 : Bool) (c22_0 : (List UInt8)) (c22_1 : (List S_api_Segment)) : Option (Bool) :=
 bif v14 then
  some false
 else
  ref06_veto_2 F F (0 : Int) c22_0 c22_1

theorem ref06_veto_1_ok (F : Nat) : ∀ (v14 : Bool) (c22_0 : (List UInt8)) (c22_1 : (List S_api_Segment)) (sc22_1 : SV) (b22 : Pos) (Fr : Rd) (M : Mem) (r : Bool) (hc22_1 : Slc Fr 2 (FlatR enc37) sc22_1 c22_1) (hH : Has Fr M [.obj b22 (.row 35 .whole [(.str c22_0), sc22_1])]), ref06_veto_1 F v14 c22_0 c22_1 = some r → Run Tryz.prog ⟨⟨42, [], none⟩, []⟩ 42 (ref06_veto_post r) [(1, (.ptr b22 0)), (14, (.bool v14))] [codeC Tryz.prog 42 [1, 0, 1], codeC Tryz.prog 42 [1, 1]] M := by
 intro v14 c22_0 c22_1 sc22_1 b22 Fr M r hc22_1 hH h
 rw [ref06_veto_1] at h
 rcases btf (v14) with hc28 | hc28
 ·have h := bif_t hc28 h
  refine Run.condT' rfl hc28 ?_
  refine Run.seq (Run.region ?_)
  refine Run.opG wantS_none (ex_assign rfl) rfl <| Run.opsEnd ?_
  cases h
  exact Run.ret Tryz.func42 rfl (res_tmp rfl res_nil) rfl
 ·have h := bif_f hc28 h
  refine Run.condF' rfl hc28 ?_
  refine Run.skip (Run.seq (Run.seq (Run.region ?_)))
  refine Run.opG wantS_none (ex_assign rfl) rfl ?_
  refine Run.opsEnd (Run.block (Run.loop ?_))
  exact Run.pick [1, 3] (ref06_veto_2_ok F F (0 : Int) c22_0 c22_1 sc22_1 b22 _ _ _ hc22_1 hH h)

def ref06_veto (F : Nat) (a0 : S_api_Veto) : Option (Bool) :=
 bnd (ref01_IsName F a0.Name) fun r25 =>
 bif (!r25) then
  ref06_veto_1 F true a0.Name a0.Segments
 else
  ref06_veto_1 F (decide ((32 : Int) < (a0.Segments.length : Int))) a0.Name a0.Segments

theorem ref06_veto_ok (F : Nat) (a0 : S_api_Veto) (s0 : SV) (r : Bool) (M : Mem) (hs0 : Slc (rd M) 2 (FlatR enc37) s0 a0.Segments) (h : ref06_veto F a0 = some r) : CallsM Tryz.prog 42 [(.agg [(.str a0.Name), s0])] M (fun s M' => s = (.bool r) ∧ M' = M) := by
 refine CallsM.plain Tryz.func42 rfl rfl rfl (show Run _ _ _ (ref06_veto_post r) _ _ _ from ?_)
 rw [ref06_veto] at h
 replace hs0 := hs0.mono (rdLe_frozen M) (fun _ _ h => h)
 have hH := Has.nil (frozen M)
 refine Run.seq (Run.region ?_)
 refine Run.opX wantS_none rfl (ExG.box rfl rfl hH) ?_
 rintro _ M23 ⟨b22, rfl, hH23⟩
 refine Run.opG wantS_none (ex_assign rfl) rfl ?_
 refine Run.opsEnd (Run.seq (Run.seq (Run.region ?_)))
 refine Run.opG wantS_none (ex_fieldAddr rfl off35_0) rfl <| Run.opG wantS_none (ex_load1 rfl (hH23.cells (i := 0) rfl 0 rfl) rdLe_rfl agg9) rfl ?_
 obtain ⟨r25, hr25, h⟩ := bnd_some h
 refine Run.callP wantS_none (ex_call rfl mkk86 cal86) rfl (ref01_IsName_ok F a0.Name _ _ hr25) <| Run.opG wantS_none (ex_not rfl) rfl <| Run.opG wantS_none (ex_move rfl) rfl ?_
 rcases btf ((!r25)) with hc27 | hc27
 ·have h := bif_t hc27 h
  refine Run.no (wantS_not' rfl rfl hc27) rfl <| Run.no (wantS_not' rfl rfl hc27) rfl <| Run.no (wantS_not' rfl rfl hc27) rfl <| Run.no (wantS_not' rfl rfl hc27) rfl <| Run.opG wantS_none (ex_pickT' rfl hc27 rfl rfl) rfl <| Run.opsEnd ?_
  exact Run.pick [1, 14] (ref06_veto_1_ok F true a0.Name a0.Segments s0 b22 _ _ _ hs0 hH23 h)
 ·have h := bif_f hc27 h
  refine Run.opG (wantS_yes' rfl rfl hc27) (ex_fieldAddr rfl off35_1) rfl <| Run.opG (wantS_yes' rfl rfl hc27) (ex_load1 rfl (hH23.cells (i := 0) rfl 1 rfl) rdLe_rfl agg31) rfl <| Run.opG (wantS_yes' rfl rfl hc27) (ex_len' rfl hs0 lenk31) rfl <| Run.opG (wantS_yes' rfl rfl hc27) (ex_gtr rfl rfl) rfl <| Run.opG wantS_none (ex_pickF' rfl hc27 rfl rfl) rfl <| Run.opsEnd ?_
  exact Run.pick [1, 14] (ref06_veto_1_ok F (decide ((32 : Int) < (a0.Segments.length : Int))) a0.Name a0.Segments s0 b22 _ _ _ hs0 hH23 h)

theorem mkk42 : makeK Tryz.prog 42 = none := by kernel_rfl
theorem cal42 : callable Tryz.prog 42 = true := by kernel_rfl
theorem plan15_1_1_0_1_0_0_1_0_0_1_1_0_0_1_0_0_0 : planOf Tryz.prog (opsC (atC Tryz.prog 15 [1, 1, 0, 1, 0, 0, 1, 0, 0, 1, 1, 0, 0, 1, 0, 0, 0])) = some [.fl 0, .fl 1, .fl 2, .fl 3, .fl 4, .fl 5, .fl 6, .fl 7, .fl 8, .fl 9, .fl 10, .sync] := by kernel_rfl
abbrev ref06_CheckVetoes_post (r : Int) : SV → Mem → Prop := fun s _ => s = (.int .i64 r)

def ref06_CheckVetoes_2 (F : Nat) (hd1 : (List S_api_Veto) → Int → Option (Int)) : Nat → (List S_api_Veto) → Int → Int → Option (Int)
 | 0, _, _, _ => none
 | N + 1, v0, v3, v4 =>
  bif (decide (v4 < v3)) then
   bnd (idx v0 v4) fun x30 =>
   bnd (idx v0 v3) fun x32 =>
   bif (x30.Name == x32.Name) then
    some (63 : Int)
   else
    (ref06_CheckVetoes_2 F hd1 N) v0 v3 (w64 (v4 + (1 : Int)))
  else
   hd1 v0 (w64 (v3 + (1 : Int)))

theorem ref06_CheckVetoes_2_ok (F : Nat) (hd1 : (List S_api_Veto) → Int → Option (Int)) (hhd1 : ∀ (v0 : (List S_api_Veto)) (v3 : Int) (sv0 : SV) (Fr : Rd) (M : Mem) (r : Int) (hv0 : Slc Fr 2 (rep35 Fr) sv0 v0) (hH : Has Fr M []), hd1 v0 v3 = some r → Run Tryz.prog ⟨⟨15, [], none⟩, []⟩ 36 (ref06_CheckVetoes_post r) [(0, sv0), (3, (.int .i64 v3))] [codeC Tryz.prog 15 [1, 1, 0, 1, 0, 0], loopC Tryz.prog 15 [1, 1, 0, 1, 0, 0], .inBlock 0, codeC Tryz.prog 15 [1, 1, 1]] M) : ∀ (N : Nat), ∀ (v0 : (List S_api_Veto)) (v3 v4 : Int) (sv0 : SV) (Fr : Rd) (M : Mem) (r : Int) (hv0 : Slc Fr 2 (rep35 Fr) sv0 v0) (hH : Has Fr M []), ref06_CheckVetoes_2 F hd1 N v0 v3 v4 = some r → Run Tryz.prog ⟨⟨15, [], none⟩, []⟩ 36 (ref06_CheckVetoes_post r) [(0, sv0), (3, (.int .i64 v3)), (4, (.int .i64 v4))] [codeC Tryz.prog 15 [1, 1, 0, 1, 0, 0, 1, 0, 0, 1, 1, 0, 0], loopC Tryz.prog 15 [1, 1, 0, 1, 0, 0, 1, 0, 0, 1, 1, 0, 0], .inBlock 2, .inBlock 1, codeC Tryz.prog 15 [1, 1, 0, 1, 0, 0, 1, 1], loopC Tryz.prog 15 [1, 1, 0, 1, 0, 0], .inBlock 0, codeC Tryz.prog 15 [1, 1, 1]] M := by
 intro N
 induction N with
 | zero =>
  intro v0 v3 v4 sv0 Fr M r hv0 hH h
  simp [ref06_CheckVetoes_2] at h
 | succ N ih =>
  intro v0 v3 v4 sv0 Fr M r hv0 hH h
  rw [ref06_CheckVetoes_2] at h
  refine Run.seq (Run.seq (Run.region ?_))
  refine Run.opG wantS_none (ex_move rfl) rfl <| Run.opG wantS_none (ex_move rfl) rfl <| Run.opG wantS_none (ex_lss rfl rfl) rfl <| Run.opsEnd ?_
  rcases btf ((decide (v4 < v3))) with hc29 | hc29
  ·have h := bif_t hc29 h
   refine Run.condT' rfl hc29 ?_
   refine Run.skip (Run.seq (Run.block (Run.seq ?_)))
   refine Run.drawG plan15_1_1_0_1_0_0_1_0_0_1_1_0_0_1_0_0_0 <| DrawG.fl rfl (ev_ex wantS_none (ex_move rfl)) rfl <| DrawG.fl rfl (ev_ex wantS_none (ex_move rfl)) rfl ?_
   obtain ⟨x30, hx30, h⟩ := bnd_some h
   obtain ⟨p30, o30, _, hx30, hp30, ⟨q30_0, rfl, hq30_0⟩⟩ := sl_elem (P := Tryz.prog) (t := 22) (kk := .i64) hv0 hx30 els22
   refine DrawG.fl rfl (ev_ex wantS_none (ex_elX rfl rfl hx30)) rfl ?_
   have hp31 := (hp30.fld (o := 0) rfl)
   refine DrawG.fl rfl (ev_ex wantS_none (ex_fieldAddr rfl off35_0)) rfl <| DrawG.fl rfl (ev_ex wantS_none (ex_load1 rfl (hH.ptrF hp31) rdLe_rfl agg9)) rfl <| DrawG.fl rfl (ev_ex wantS_none (ex_move rfl)) rfl <| DrawG.fl rfl (ev_ex wantS_none (ex_move rfl)) rfl ?_
   obtain ⟨x32, hx32, h⟩ := bnd_some h
   obtain ⟨p32, o32, _, hx32, hp32, ⟨q32_0, rfl, hq32_0⟩⟩ := sl_elem (P := Tryz.prog) (t := 22) (kk := .i64) hv0 hx32 els22
   refine DrawG.fl rfl (ev_ex wantS_none (ex_elX rfl rfl hx32)) rfl ?_
   have hp33 := (hp32.fld (o := 0) rfl)
   refine DrawG.fl rfl (ev_ex wantS_none (ex_fieldAddr rfl off35_0)) rfl <| DrawG.fl rfl (ev_ex wantS_none (ex_load1 rfl (hH.ptrF hp33) rdLe_rfl agg9)) rfl <| DrawG.fl rfl (ev_ex wantS_none (ex_eqlS rfl rfl)) rfl <| DrawG.sync <| DrawG.nil ?_
   rcases btf ((x30.Name == x32.Name)) with hc34 | hc34
   ·have h := bif_t hc34 h
    refine Run.condT' rfl hc34 ?_
    refine Run.seq (Run.region ?_)
    refine Run.opG wantS_none (ex_assign rfl) rfl <| Run.opsEnd ?_
    cases h
    exact Run.ret Tryz.func15 rfl (res_tmp rfl res_nil) rfl
   ·have h := bif_f hc34 h
    refine Run.condF' rfl hc34 ?_
    refine Run.skip (Run.inBlock (Run.region ?_))
    refine Run.opG wantS_none (ex_move rfl) rfl <| Run.opG wantS_none (ex_add rfl rfl) rfl <| Run.opG wantS_none (ex_assign rfl) rfl ?_
    refine Run.opsEnd (Run.inLoop ?_)
    exact Run.pick [0, 3, 4] (ih v0 v3 (w64 (v4 + (1 : Int))) sv0 _ _ _ hv0 hH h)
  ·have h := bif_f hc29 h
   refine Run.condF' rfl hc29 ?_
   refine Run.exit rfl (Run.inBlock (Run.region ?_))
   refine Run.opG wantS_none (ex_move rfl) rfl <| Run.opG wantS_none (ex_add rfl rfl) rfl <| Run.opG wantS_none (ex_assign rfl) rfl ?_
   refine Run.opsEnd (Run.inLoop ?_)
   exact Run.pick [0, 3] (hhd1 v0 (w64 (v3 + (1 : Int))) sv0 _ _ _ hv0 hH h)

def ref06_CheckVetoes_1 (F : Nat) : Nat → (List S_api_Veto) → Int → Option (Int)
 | 0, _, _ => none
 | N + 1, v0, v3 =>
  bif (decide (v3 < (v0.length : Int))) then
   bnd (idx v0 v3) fun x24 =>
   bnd (ref06_veto F x24) fun r26 =>
   bif (!r26) then
    some (63 : Int)
   else
    ref06_CheckVetoes_2 F (ref06_CheckVetoes_1 F N) F v0 v3 (0 : Int)
  else
   some (0 : Int)

theorem ref06_CheckVetoes_1_ok (F : Nat) : ∀ (N : Nat), ∀ (v0 : (List S_api_Veto)) (v3 : Int) (sv0 : SV) (Fr : Rd) (M : Mem) (r : Int) (hv0 : Slc Fr 2 (rep35 Fr) sv0 v0) (hH : Has Fr M []), ref06_CheckVetoes_1 F N v0 v3 = some r → Run Tryz.prog ⟨⟨15, [], none⟩, []⟩ 36 (ref06_CheckVetoes_post r) [(0, sv0), (3, (.int .i64 v3))] [codeC Tryz.prog 15 [1, 1, 0, 1, 0, 0], loopC Tryz.prog 15 [1, 1, 0, 1, 0, 0], .inBlock 0, codeC Tryz.prog 15 [1, 1, 1]] M := by
 intro N
 induction N with
 | zero =>
  intro v0 v3 sv0 Fr M r hv0 hH h
  simp [ref06_CheckVetoes_1] at h
 | succ N ih =>
  intro v0 v3 sv0 Fr M r hv0 hH h
  rw [ref06_CheckVetoes_1] at h
  refine Run.seq (Run.seq (Run.region ?_))
  refine Run.opG wantS_none (ex_move rfl) rfl <| Run.opG wantS_none (ex_move rfl) rfl <| Run.opG wantS_none (ex_len' rfl hv0 lenk22) rfl <| Run.opG wantS_none (ex_lss rfl rfl) rfl <| Run.opsEnd ?_
  rcases btf ((decide (v3 < (v0.length : Int)))) with hc22 | hc22
  ·have h := bif_t hc22 h
   refine Run.condT' rfl hc22 ?_
   refine Run.skip (Run.seq (Run.block (Run.seq (Run.seq (Run.region ?_)))))
   refine Run.opG wantS_none (ex_move rfl) rfl <| Run.opG wantS_none (ex_move rfl) rfl ?_
   obtain ⟨x24, hx24, h⟩ := bnd_some h
   obtain ⟨p24, o24, _, hx24, hp24, ⟨q24_0, rfl, hq24_0⟩⟩ := sl_elem (P := Tryz.prog) (t := 22) (kk := .i64) hv0 hx24 els22
   refine Run.opG wantS_none (ex_elX rfl rfl hx24) rfl <| Run.opG wantS_none (ex_loadA rfl (hH.ptrF hp24) rdLe_rfl agg35 rfl rfl rfl) rfl ?_
   obtain ⟨r26, hr26, h⟩ := bnd_some h
   refine Run.callP wantS_none (ex_call rfl mkk42 cal42) rfl (ref06_veto_ok F x24 q24_0 _ _ (hH.slcF hq24_0) hr26) <| Run.opG wantS_none (ex_not rfl) rfl <| Run.opsEnd ?_
   rcases btf ((!r26)) with hc28 | hc28
   ·have h := bif_t hc28 h
    refine Run.condT' rfl hc28 ?_
    refine Run.seq (Run.region ?_)
    refine Run.opG wantS_none (ex_assign rfl) rfl <| Run.opsEnd ?_
    cases h
    exact Run.ret Tryz.func15 rfl (res_tmp rfl res_nil) rfl
   ·have h := bif_f hc28 h
    refine Run.condF' rfl hc28 ?_
    refine Run.skip (Run.seq (Run.region ?_))
    refine Run.opG wantS_none (ex_assign rfl) rfl ?_
    refine Run.opsEnd (Run.block (Run.loop ?_))
    exact Run.pick [0, 3, 4] (ref06_CheckVetoes_2_ok F (ref06_CheckVetoes_1 F N) ih F v0 v3 (0 : Int) sv0 _ _ _ hv0 hH h)
  ·have h := bif_f hc22 h
   refine Run.condF' rfl hc22 ?_
   refine Run.exit rfl (Run.seq (Run.region ?_))
   refine Run.opG wantS_none (ex_assign rfl) rfl <| Run.opsEnd ?_
   cases h
   exact Run.ret Tryz.func15 rfl (res_tmp rfl res_nil) rfl

def ref06_CheckVetoes (F : Nat) (a0 : (List S_api_Veto)) : Option (Int) :=
 bif (decide ((12 : Int) < (a0.length : Int))) then
  some (63 : Int)
 else
  ref06_CheckVetoes_1 F F a0 (0 : Int)

theorem ref06_CheckVetoes_ok (F : Nat) (a0 : (List S_api_Veto)) (s0 : SV) (r : Int) (M : Mem) (hs0 : Slc (rd M) 2 (rep35 (rd M)) s0 a0) (h : ref06_CheckVetoes F a0 = some r) : CallsM Tryz.prog 15 [s0] M (fun s M' => s = (.int .i64 r) ∧ M' = M) := by
 refine CallsM.plain Tryz.func15 rfl rfl rfl (show Run _ _ _ (ref06_CheckVetoes_post r) _ _ _ from ?_)
 rw [ref06_CheckVetoes] at h
 replace hs0 := hs0.mono (rdLe_frozen M) (fun _ _ => rep35_mo (rdLe_frozen M))
 have hH := Has.nil (frozen M)
 refine Run.seq (Run.region ?_)
 refine Run.opG wantS_none (ex_assign rfl) rfl ?_
 refine Run.opsEnd (Run.seq (Run.seq (Run.region ?_)))
 refine Run.opG wantS_none (ex_move rfl) rfl <| Run.opG wantS_none (ex_len' rfl hs0 lenk22) rfl <| Run.opG wantS_none (ex_gtr rfl rfl) rfl <| Run.opsEnd ?_
 rcases btf ((decide ((12 : Int) < (a0.length : Int)))) with hc21 | hc21
 ·have h := bif_t hc21 h
  refine Run.condT' rfl hc21 ?_
  refine Run.seq (Run.region ?_)
  refine Run.opG wantS_none (ex_assign rfl) rfl <| Run.opsEnd ?_
  cases h
  exact Run.ret Tryz.func15 rfl (res_tmp rfl res_nil) rfl
 ·have h := bif_f hc21 h
  refine Run.condF' rfl hc21 ?_
  refine Run.skip (Run.seq (Run.seq (Run.region ?_)))
  refine Run.opG wantS_none (ex_assign rfl) rfl ?_
  refine Run.opsEnd (Run.block (Run.loop ?_))
  exact Run.pick [0, 3] (ref06_CheckVetoes_1_ok F F a0 (0 : Int) s0 _ _ _ hs0 hH h)

theorem mkk15 : makeK Tryz.prog 15 = none := by kernel_rfl
theorem cal15 : callable Tryz.prog 15 = true := by kernel_rfl
theorem off40_1 : fieldOff Tryz.prog 40 1 = some 1 := by kernel_rfl
theorem elt22 : sliceElt Tryz.prog 22 = some (⟨2, 40, [(.str []), .nils], 35⟩ : Elt) := by kernel_rfl
abbrev glitch_isFrom_post (r : Bool) : SV → Mem → Prop := fun s _ => s = (.bool r)

def glitch_isFrom_1 (F : Nat) (v14 : Bool) : Option (Bool) :=
 some v14

theorem glitch_isFrom_1_ok (F : Nat) : ∀ (v14 : Bool) (Fr : Rd) (M : Mem) (r : Bool) (hH : Has Fr M []), glitch_isFrom_1 F v14 = some r → Run Tryz.prog ⟨⟨75, [], none⟩, []⟩ 15 (glitch_isFrom_post r) [(14, (.bool v14))] [itemC Tryz.prog 75 [1, 0] 8, codeC Tryz.prog 75 [1, 1]] M := by
 intro v14 Fr M r hH h
 rw [glitch_isFrom_1] at h
 refine Run.opG wantS_none (ex_assign rfl) rfl <| Run.opsEnd ?_
 cases h
 exact Run.ret Tryz.func75 rfl (res_tmp rfl res_nil) rfl

def glitch_isFrom (F : Nat) (a0 a1 a2 : Int) : Option (Bool) :=
 bif (decide (a0 ≤ a1)) then
  glitch_isFrom_1 F (decide (a1 ≤ a2))
 else
  glitch_isFrom_1 F false

theorem glitch_isFrom_ok (F : Nat) (a0 a1 a2 : Int) (r : Bool) (M : Mem) (h : glitch_isFrom F a0 a1 a2 = some r) : CallsM Tryz.prog 75 [(.int .i64 a0), (.int .i64 a1), (.int .i64 a2)] M (fun s M' => s = (.bool r) ∧ M' = M) := by
 refine CallsM.plain Tryz.func75 rfl rfl rfl (show Run _ _ _ (glitch_isFrom_post r) _ _ _ from ?_)
 rw [glitch_isFrom] at h
 have hH := Has.nil (frozen M)
 refine Run.seq (Run.region ?_)
 refine Run.opG wantS_none (ex_assign rfl) rfl ?_
 refine Run.opsEnd (Run.seq (Run.region ?_))
 refine Run.opG wantS_none (ex_move rfl) rfl <| Run.opG wantS_none (ex_move rfl) rfl <| Run.opG wantS_none (ex_leq rfl rfl) rfl <| Run.opG wantS_none (ex_move rfl) rfl ?_
 rcases btf ((decide (a0 ≤ a1))) with hc21 | hc21
 ·have h := bif_t hc21 h
  refine Run.opG (wantS_yes' rfl rfl hc21) (ex_move rfl) rfl <| Run.opG (wantS_yes' rfl rfl hc21) (ex_move rfl) rfl <| Run.opG (wantS_yes' rfl rfl hc21) (ex_leq rfl rfl) rfl <| Run.opG wantS_none (ex_pickT' rfl hc21 rfl rfl) rfl ?_
  exact Run.pick [14] (glitch_isFrom_1_ok F (decide (a1 ≤ a2)) _ _ _ hH h)
 ·have h := bif_f hc21 h
  refine Run.no (wantS_not' rfl rfl hc21) rfl <| Run.no (wantS_not' rfl rfl hc21) rfl <| Run.no (wantS_not' rfl rfl hc21) rfl <| Run.opG wantS_none (ex_pickF' rfl hc21 rfl rfl) rfl ?_
  exact Run.pick [14] (glitch_isFrom_1_ok F false _ _ _ hH h)

theorem mkk75 : makeK Tryz.prog 75 = none := by kernel_rfl
theorem cal75 : callable Tryz.prog 75 = true := by kernel_rfl
abbrev glitch_isSpan_post (r : Bool) : SV → Mem → Prop := fun s _ => s = (.bool r)

def glitch_isSpan (F : Nat) (a0 : Int) : Option (Bool) :=
 bnd (glitch_isFrom F (1 : Int) a0 (1073741824 : Int)) fun r22 =>
 some r22

theorem glitch_isSpan_ok (F : Nat) (a0 : Int) (r : Bool) (M : Mem) (h : glitch_isSpan F a0 = some r) : CallsM Tryz.prog 64 [(.int .i64 a0)] M (fun s M' => s = (.bool r) ∧ M' = M) := by
 refine CallsM.plain Tryz.func64 rfl rfl rfl (show Run _ _ _ (glitch_isSpan_post r) _ _ _ from ?_)
 rw [glitch_isSpan] at h
 have hH := Has.nil (frozen M)
 refine Run.seq (Run.region ?_)
 refine Run.opG wantS_none (ex_assign rfl) rfl ?_
 refine Run.opsEnd (Run.seq (Run.region ?_))
 refine Run.opG wantS_none (ex_move rfl) rfl ?_
 obtain ⟨r22, hr22, h⟩ := bnd_some h
 refine Run.callP wantS_none (ex_call rfl mkk75 cal75) rfl (glitch_isFrom_ok F (1 : Int) a0 (1073741824 : Int) _ _ hr22) <| Run.opG wantS_none (ex_assign rfl) rfl <| Run.opsEnd ?_
 cases h
 exact Run.ret Tryz.func64 rfl (res_tmp rfl res_nil) rfl

theorem mkk64 : makeK Tryz.prog 64 = none := by kernel_rfl
theorem cal64 : callable Tryz.prog 64 = true := by kernel_rfl
abbrev glitch_checkSpan_post (r : Int) : SV → Mem → Prop := fun s _ => s = (.int .i64 r)

def glitch_checkSpan (F : Nat) (a0 : (List S_api_Veto)) (a1 : Int) : Option (Int) :=
 bnd (glitch_areVetoes F a0) fun r22 =>
 bif (!r22) then
  some (63 : Int)
 else
  bnd (glitch_isSpan F a1) fun r26 =>
  bif (!r26) then
   some (8 : Int)
  else
   some (0 : Int)

theorem glitch_checkSpan_ok (F : Nat) (a0 : (List S_api_Veto)) (a1 : Int) (s0 : SV) (r : Int) (M : Mem) (hs0 : Slc (rd M) 2 (rep35 (rd M)) s0 a0) (h : glitch_checkSpan F a0 a1 = some r) : CallsM Tryz.prog 30 [s0, (.int .i64 a1)] M (fun s M' => s = (.int .i64 r) ∧ M' = M) := by
 refine CallsM.plain Tryz.func30 rfl rfl rfl (show Run _ _ _ (glitch_checkSpan_post r) _ _ _ from ?_)
 rw [glitch_checkSpan] at h
 replace hs0 := hs0.mono (rdLe_frozen M) (fun _ _ => rep35_mo (rdLe_frozen M))
 have hH := Has.nil (frozen M)
 refine Run.seq (Run.region ?_)
 refine Run.opG wantS_none (ex_assign rfl) rfl ?_
 refine Run.opsEnd (Run.seq (Run.block (Run.seq (Run.region ?_))))
 refine Run.opG wantS_none (ex_move rfl) rfl ?_
 obtain ⟨r22, hr22, h⟩ := bnd_some h
 refine Run.callP wantS_none (ex_call rfl mkk38 cal38) rfl (glitch_areVetoes_ok F a0 s0 _ _ ((hs0).mono hH.le (fun _ _ => rep35_mo hH.le)) hr22) <| Run.opG wantS_none (ex_not rfl) rfl <| Run.opG wantS_none (ex_assign rfl) rfl <| Run.opsEnd ?_
 rcases btf ((!r22)) with hc24 | hc24
 ·have h := bif_t hc24 h
  refine Run.condT' rfl hc24 ?_
  refine Run.seq (Run.region ?_)
  refine Run.opG wantS_none (ex_assign rfl) rfl <| Run.opsEnd ?_
  cases h
  exact Run.ret Tryz.func30 rfl (res_tmp rfl res_nil) rfl
 ·have h := bif_f hc24 h
  refine Run.condF' rfl hc24 ?_
  refine Run.seq (Run.region ?_)
  refine Run.opG wantS_none (ex_move rfl) rfl ?_
  obtain ⟨r26, hr26, h⟩ := bnd_some h
  refine Run.callP wantS_none (ex_call rfl mkk64 cal64) rfl (glitch_isSpan_ok F a1 _ _ hr26) <| Run.opG wantS_none (ex_not rfl) rfl <| Run.opG wantS_none (ex_assign rfl) rfl <| Run.opsEnd ?_
  rcases btf ((!r26)) with hc28 | hc28
  ·have h := bif_t hc28 h
   refine Run.condT' rfl hc28 ?_
   refine Run.seq (Run.region ?_)
   refine Run.opG wantS_none (ex_assign rfl) rfl <| Run.opsEnd ?_
   cases h
   exact Run.ret Tryz.func30 rfl (res_tmp rfl res_nil) rfl
  ·have h := bif_f hc28 h
   refine Run.condF' rfl hc28 ?_
   refine Run.skip (Run.inBlock (Run.seq (Run.region ?_)))
   refine Run.opG wantS_none (ex_assign rfl) rfl <| Run.opsEnd ?_
   cases h
   exact Run.ret Tryz.func30 rfl (res_tmp rfl res_nil) rfl

theorem mkk30 : makeK Tryz.prog 30 = none := by kernel_rfl
theorem cal30 : callable Tryz.prog 30 = true := by kernel_rfl
theorem mkk81 : makeK Tryz.prog 81 = none := by kernel_rfl
theorem cal81 : callable Tryz.prog 81 = true := by kernel_rfl
theorem mkk82 : makeK Tryz.prog 82 = none := by kernel_rfl
theorem cal82 : callable Tryz.prog 82 = true := by kernel_rfl
theorem sz3 : szOf Tryz.prog 3 = some 1 := by kernel_rfl
theorem elt31 : sliceElt Tryz.prog 31 = some (⟨2, 16, [(.int .i64 0), (.int .i64 0)], 37⟩ : Elt) := by kernel_rfl
theorem appt31_31 : appT Tryz.prog 31 31 = some (⟨2, 16, [(.int .i64 0), (.int .i64 0)], 37⟩ : Elt) := by kernel_rfl
theorem plan82_1_1_0 : planOf Tryz.prog (opsC (atC Tryz.prog 82 [1, 1, 0])) = some [.fl 0, .fl 1, .fl 2, .fl 3, .fl 4, .fl 5, .an 6 [5, 4, 3, 2, 1], .fl 7, .sync] := by kernel_rfl
theorem mkk83 : makeK Tryz.prog 83 = none := by kernel_rfl
theorem cal83 : callable Tryz.prog 83 = true := by kernel_rfl
theorem plan41_1_1_1_1_0_1_0_0_1_1_0_0_1_1_1_0 : planOf Tryz.prog (opsC (atC Tryz.prog 41 [1, 1, 1, 1, 0, 1, 0, 0, 1, 1, 0, 0, 1, 1, 1, 0])) = some [.fl 0, .fl 1, .fl 2, .fl 3, .fl 4, .fl 5, .fl 6, .fl 7, .fl 8, .fl 9, .fl 10, .fl 11, .an 12 [], .sync] := by kernel_rfl
theorem plan41_1_1_1_1_0_1_0_0_1_1_0_0_1_1_0 : planOf Tryz.prog (opsC (atC Tryz.prog 41 [1, 1, 1, 1, 0, 1, 0, 0, 1, 1, 0, 0, 1, 1, 0])) = some [.fl 0, .fl 1, .fl 2, .fl 3, .fl 4, .fl 5, .fl 6, .fl 7, .fl 8, .fl 9, .fl 10, .fl 11, .sync] := by kernel_rfl
abbrev glitch_held_post (r : (List S_api_Segment)) : SV → Mem → Prop := fun s Me => ∃ q1, s = q1 ∧ Has (fun _ => none) Me [.vec 37 2 r.length q1 (r.flatMap enc37)]

def glitch_held_2 (F : Nat) (hd1 : (List S_api_Segment) → Int → Int → Int → (List S_api_Segment) → Option ((List S_api_Segment))) (v10 : (List S_api_Segment)) (v11 v12 c22_0 : Int) (l52 : (List S_api_Segment)) : Option ((List S_api_Segment)) :=
 hd1 v10 v11 (w64 (v12 + (1 : Int))) c22_0 l52

theorem glitch_held_2_ok (F : Nat) (hd1 : (List S_api_Segment) → Int → Int → Int → (List S_api_Segment) → Option ((List S_api_Segment))) (hhd1 : ∀ (v10 : (List S_api_Segment)) (v11 v12 c22_0 : Int) (l24 : (List S_api_Segment)) (sv10 : SV) (b22 : Pos) (s24 : SV) (Fr : Rd) (M : Mem) (r : (List S_api_Segment)) (hv10 : Slc Fr 2 (FlatR enc37) sv10 v10) (hH : Has Fr M [.obj b22 (.row 3 .whole [(.int .i64 c22_0)]), .vec 37 2 l24.length s24 (l24.flatMap enc37)]), hd1 v10 v11 v12 c22_0 l24 = some r → Run Tryz.prog ⟨⟨81, [], none⟩, [.mk ⟨41, [], none⟩ 54 (treeOf []) [itemC Tryz.prog 41 [1, 0] 2, codeC Tryz.prog 41 [1, 1]]]⟩ 29 (glitch_held_post r) [(1, (.fn (.func 82) [] [(.ptr b22 0)])), (5, s24), (10, sv10), (11, (.int .i64 v11)), (12, (.int .i64 v12))] [codeC Tryz.prog 81 [1, 1, 0, 1, 0, 0], loopC Tryz.prog 81 [1, 1, 0, 1, 0, 0], .inBlock 0, codeC Tryz.prog 81 [1, 1, 1]] M) : ∀ (v10 : (List S_api_Segment)) (v11 v12 c22_0 : Int) (l52 : (List S_api_Segment)) (sv10 : SV) (b22 : Pos) (s52 : SV) (Fr : Rd) (M : Mem) (r : (List S_api_Segment)) (hv10 : Slc Fr 2 (FlatR enc37) sv10 v10) (hH : Has Fr M [.obj b22 (.row 3 .whole [(.int .i64 c22_0)]), .vec 37 2 l52.length s52 (l52.flatMap enc37)]), glitch_held_2 F hd1 v10 v11 v12 c22_0 l52 = some r → Run Tryz.prog ⟨⟨81, [], none⟩, [.mk ⟨41, [], none⟩ 54 (treeOf []) [itemC Tryz.prog 41 [1, 0] 2, codeC Tryz.prog 41 [1, 1]]]⟩ 29 (glitch_held_post r) [(1, (.fn (.func 82) [] [(.ptr b22 0)])), (5, s52), (10, sv10), (11, (.int .i64 v11)), (12, (.int .i64 v12))] [itemC Tryz.prog 81 [1, 1, 0, 1, 0, 0, 1, 1, 1] 0, loopC Tryz.prog 81 [1, 1, 0, 1, 0, 0], .inBlock 0, codeC Tryz.prog 81 [1, 1, 1]] M := by
 intro v10 v11 v12 c22_0 l52 sv10 b22 s52 Fr M r hv10 hH h
 rw [glitch_held_2] at h
 refine Run.opG wantS_none (ex_add rfl rfl) rfl <| Run.opG wantS_none (ex_move rfl) rfl ?_
 refine Run.opsEnd (Run.inLoop ?_)
 exact Run.low (.cons (fle_pick [] rfl) .nil) (Run.pick [1, 5, 10, 11, 12] (hhd1 v10 v11 (w64 (v12 + (1 : Int))) c22_0 l52 sv10 b22 s52 _ _ _ hv10 hH h))

def glitch_held_5 (F : Nat) (hd3 : Int → Int → (List S_api_Segment) → (List S_api_Segment) → Option ((List S_api_Segment))) (v16 v17 : Int) (l57 l24 : (List S_api_Segment)) : Option ((List S_api_Segment)) :=
 hd3 v16 (w64 (v17 + (1 : Int))) l57 l24

theorem glitch_held_5_ok (F : Nat) (hd3 : Int → Int → (List S_api_Segment) → (List S_api_Segment) → Option ((List S_api_Segment))) (hhd3 : ∀ (v16 v17 : Int) (l57 l24 : (List S_api_Segment)) (s57 s24 : SV) (Fr : Rd) (M : Mem) (r : (List S_api_Segment)) (hH : Has Fr M [.vec 37 2 l57.length s57 (l57.flatMap enc37), .vec 37 2 l24.length s24 (l24.flatMap enc37)]), hd3 v16 v17 l57 l24 = some r → Run Tryz.prog ⟨⟨41, [], none⟩, []⟩ 54 (glitch_held_post r) [(6, s57), (15, s24), (16, (.int .i64 v16)), (17, (.int .i64 v17))] [codeC Tryz.prog 41 [1, 1, 1, 1, 0, 1, 0, 0], loopC Tryz.prog 41 [1, 1, 1, 1, 0, 1, 0, 0], .inBlock 0, codeC Tryz.prog 41 [1, 1, 1, 1, 1]] M) : ∀ (v16 v17 : Int) (l57 l24 : (List S_api_Segment)) (s57 s24 : SV) (Fr : Rd) (M : Mem) (r : (List S_api_Segment)) (hH : Has Fr M [.vec 37 2 l57.length s57 (l57.flatMap enc37), .vec 37 2 l24.length s24 (l24.flatMap enc37)]), glitch_held_5 F hd3 v16 v17 l57 l24 = some r → Run Tryz.prog ⟨⟨41, [], none⟩, []⟩ 54 (glitch_held_post r) [(6, s57), (15, s24), (16, (.int .i64 v16)), (17, (.int .i64 v17))] [itemC Tryz.prog 41 [1, 1, 1, 1, 0, 1, 0, 0, 1, 1, 1] 0, loopC Tryz.prog 41 [1, 1, 1, 1, 0, 1, 0, 0], .inBlock 0, codeC Tryz.prog 41 [1, 1, 1, 1, 1]] M := by
 intro v16 v17 l57 l24 s57 s24 Fr M r hH h
 rw [glitch_held_5] at h
 refine Run.opG wantS_none (ex_add rfl rfl) rfl <| Run.opG wantS_none (ex_move rfl) rfl ?_
 refine Run.opsEnd (Run.inLoop ?_)
 exact Run.pick [6, 15, 16, 17] (hhd3 v16 (w64 (v17 + (1 : Int))) l57 l24 s57 s24 _ _ _ hH h)

def glitch_held_4 (F : Nat) (hd3 : Int → Int → (List S_api_Segment) → (List S_api_Segment) → Option ((List S_api_Segment))) (v9 v16 v17 : Int) (v35 : Bool) (c63 : S_api_Segment) (l57 l24 : (List S_api_Segment)) : Option ((List S_api_Segment)) :=
 bif v35 then
  bnd (idx l57 v9) fun x69 =>
  bnd (inn l57 v9) fun o70 =>
  bnd (l57[o70]?) fun x71 =>
  bnd (upd l57 o70 (S_api_Segment.mk x71.From (max x69.To c63.To))) fun l71 =>
  glitch_held_5 F hd3 v16 v17 l71 l24
 else
  bnd (apd 16 l57 ([c63] : List S_api_Segment)) fun l78 =>
  glitch_held_5 F hd3 v16 v17 l78 l24

theorem glitch_held_4_ok (F : Nat) (hd3 : Int → Int → (List S_api_Segment) → (List S_api_Segment) → Option ((List S_api_Segment))) (hhd3 : ∀ (v16 v17 : Int) (l57 l24 : (List S_api_Segment)) (s57 s24 : SV) (Fr : Rd) (M : Mem) (r : (List S_api_Segment)) (hH : Has Fr M [.vec 37 2 l57.length s57 (l57.flatMap enc37), .vec 37 2 l24.length s24 (l24.flatMap enc37)]), hd3 v16 v17 l57 l24 = some r → Run Tryz.prog ⟨⟨41, [], none⟩, []⟩ 54 (glitch_held_post r) [(6, s57), (15, s24), (16, (.int .i64 v16)), (17, (.int .i64 v17))] [codeC Tryz.prog 41 [1, 1, 1, 1, 0, 1, 0, 0], loopC Tryz.prog 41 [1, 1, 1, 1, 0, 1, 0, 0], .inBlock 0, codeC Tryz.prog 41 [1, 1, 1, 1, 1]] M) : ∀ (v9 v16 v17 : Int) (v35 : Bool) (c63 : S_api_Segment) (l57 l24 : (List S_api_Segment)) (s57 : SV) (b63 : Pos) (s24 : SV) (Fr : Rd) (M : Mem) (r : (List S_api_Segment)) (hH : Has Fr M [.vec 37 2 l57.length s57 (l57.flatMap enc37), .obj b63 (.row 37 .whole [(.int .i64 c63.From), (.int .i64 c63.To)]), .vec 37 2 l24.length s24 (l24.flatMap enc37)]), glitch_held_4 F hd3 v9 v16 v17 v35 c63 l57 l24 = some r → Run Tryz.prog ⟨⟨41, [], none⟩, []⟩ 54 (glitch_held_post r) [(6, s57), (8, (.ptr b63 0)), (9, (.int .i64 v9)), (15, s24), (16, (.int .i64 v16)), (17, (.int .i64 v17)), (35, (.bool v35))] [codeC Tryz.prog 41 [1, 1, 1, 1, 0, 1, 0, 0, 1, 1, 0, 0, 1, 1, 1], .inBlock 1, codeC Tryz.prog 41 [1, 1, 1, 1, 0, 1, 0, 0, 1, 1, 1], loopC Tryz.prog 41 [1, 1, 1, 1, 0, 1, 0, 0], .inBlock 0, codeC Tryz.prog 41 [1, 1, 1, 1, 1]] M := by
 intro v9 v16 v17 v35 c63 l57 l24 s57 b63 s24 Fr M r hH h
 rw [glitch_held_4] at h
 rcases btf (v35) with hc68 | hc68
 ·have h := bif_t hc68 h
  refine Run.condT' rfl hc68 <| Run.drawG plan41_1_1_1_1_0_1_0_0_1_1_0_0_1_1_1_0 <| DrawG.fl rfl (ev_ex wantS_none (ex_move rfl)) rfl <| DrawG.fl rfl (ev_ex wantS_none (ex_move rfl)) rfl <| DrawG.fl rfl (ev_ex wantS_none (ex_move rfl)) rfl <| DrawG.fl rfl (ev_ex wantS_none (ex_move rfl)) rfl ?_
  obtain ⟨x69, hx69, h⟩ := bnd_some h
  obtain ⟨p69, o69, hb69, hx69, he69⟩ := vec_elem (P := Tryz.prog) (t := 31) (kk := .i64) hH (i := 0) rfl hx69 els31
  refine DrawG.fl rfl (ev_ex wantS_none (ex_elX rfl rfl hx69)) rfl <| DrawG.fl rfl (ev_ex wantS_none (ex_fieldAddr rfl off37_1)) rfl <| DrawG.fl rfl (ev_ex wantS_none (ex_load1 rfl ((hH.at (enc := enc37) (a := x69) (i := 0) rfl hb69 he69 enc37_len).fld (o := 1) rfl) rdLe_rfl agg3)) rfl <| DrawG.fl rfl (ev_ex wantS_none (ex_fieldAddr rfl off37_1)) rfl <| DrawG.fl rfl (ev_ex wantS_none (ex_load1 rfl (hH.cells (i := 1) rfl 1 rfl) rdLe_rfl agg3)) rfl <| DrawG.fl rfl (ev_ex wantS_none (ex_max rfl rfl)) rfl ?_
  obtain ⟨o70, ho70, h⟩ := bnd_some h
  obtain ⟨p70, hb70, hx70⟩ := vec_place (P := Tryz.prog) (t := 31) (kk := .i64) hH (i := 0) rfl ho70 els31
  refine DrawG.fl rfl (ev_ex wantS_none (ex_elX rfl rfl hx70)) rfl <| DrawG.fl rfl (ev_ex wantS_none (ex_fieldAddr rfl off37_1)) rfl ?_
  obtain ⟨x71, hx71, h⟩ := bnd_some h
  obtain ⟨l71, hl71, h⟩ := bnd_some h
  refine DrawG.opX rfl wantS_none rfl (ExG.storeFld (o := 1) rfl rfl hH (i := 0) rfl hb70 hx71 hl71 sz3 rfl rfl rfl rfl enc37_len) ?_
  rintro _ M72 ⟨rfl, (hH72 : Has Fr M72 [.vec 37 2 l71.length s57 (l71.flatMap enc37), .obj b63 (.row 37 .whole [(.int .i64 c63.From), (.int .i64 c63.To)]), .vec 37 2 l24.length s24 (l24.flatMap enc37)])⟩
  refine ⟨st_nil, ?_⟩
  refine DrawG.sync <| DrawG.nil ?_
  refine Run.inBlock (Run.region ?_)
  exact Run.pick [6, 15, 16, 17] (glitch_held_5_ok F hd3 hhd3 v16 v17 l71 l24 s57 s24 _ _ _ (hH72.pick [0, 2] rfl rfl) h)
 ·have h := bif_f hc68 h
  refine Run.condF' rfl hc68 <| Run.region <| Run.opG wantS_none (ex_move rfl) rfl <| Run.opG wantS_none (ex_loadA rfl (hH.cells (i := 1) rfl 0 rfl) rdLe_rfl agg37 rfl rfl rfl) rfl <| Run.opX wantS_none rfl (ExG.built (enc := enc37) (l := ([c63] : List S_api_Segment)) (z := 2) rfl elt31 rfl rfl rfl enc37_len hH) ?_
  rintro s74 M75 (hH75 : Has Fr M75 [.vec 37 2 ([c63] : List S_api_Segment).length s74 (([c63] : List S_api_Segment).flatMap enc37), .vec 37 2 l57.length s57 (l57.flatMap enc37), .obj b63 (.row 37 .whole [(.int .i64 c63.From), (.int .i64 c63.To)]), .vec 37 2 l24.length s24 (l24.flatMap enc37)])
  obtain ⟨l78, hl78, h⟩ := bnd_some h
  refine Run.opX wantS_none rfl (ExG.append rfl rfl hH75 (i := 1) rfl enc37_len rfl enc37_ones appt31_31 rfl (len_slc (hH75.slc (i := 0) rfl enc37_len)) (first_slc (hH75.slc (i := 0) rfl enc37_len) (rdLe_rdRow _) enc37_len) hl78) ?_
  rintro s78 M80 (hH80 : Has Fr M80 [.vec 37 2 ([c63] : List S_api_Segment).length s74 (([c63] : List S_api_Segment).flatMap enc37), .vec 37 2 l78.length s78 (l78.flatMap enc37), .obj b63 (.row 37 .whole [(.int .i64 c63.From), (.int .i64 c63.To)]), .vec 37 2 l24.length s24 (l24.flatMap enc37)])
  refine Run.opG wantS_none (ex_assign rfl) rfl ?_
  refine Run.opsEnd (Run.inBlock (Run.region ?_))
  exact Run.pick [6, 15, 16, 17] (glitch_held_5_ok F hd3 hhd3 v16 v17 l78 l24 s78 s24 _ _ _ (hH80.pick [1, 3] rfl rfl) h)

def glitch_held_3 (F : Nat) : Nat → Int → Int → (List S_api_Segment) → (List S_api_Segment) → Option ((List S_api_Segment))
 | 0, _, _, _, _ => none
 | N + 1, v16, v17, l57, l24 =>
  bif (decide (v17 < v16)) then
   bnd (idx l24 v17) fun x61 =>
   bif (decide ((0 : Int) ≤ (w64 ((l57.length : Int) - (1 : Int))))) then
    bnd (idx l57 (w64 ((l57.length : Int) - (1 : Int)))) fun x67 =>
    glitch_held_4 F (glitch_held_3 F N) (w64 ((l57.length : Int) - (1 : Int))) v16 v17 (decide (x61.From ≤ x67.To)) x61 l57 l24
   else
    glitch_held_4 F (glitch_held_3 F N) (w64 ((l57.length : Int) - (1 : Int))) v16 v17 false x61 l57 l24
  else
   some l57

theorem glitch_held_3_ok (F : Nat) : ∀ (N : Nat), ∀ (v16 v17 : Int) (l57 l24 : (List S_api_Segment)) (s57 s24 : SV) (Fr : Rd) (M : Mem) (r : (List S_api_Segment)) (hH : Has Fr M [.vec 37 2 l57.length s57 (l57.flatMap enc37), .vec 37 2 l24.length s24 (l24.flatMap enc37)]), glitch_held_3 F N v16 v17 l57 l24 = some r → Run Tryz.prog ⟨⟨41, [], none⟩, []⟩ 54 (glitch_held_post r) [(6, s57), (15, s24), (16, (.int .i64 v16)), (17, (.int .i64 v17))] [codeC Tryz.prog 41 [1, 1, 1, 1, 0, 1, 0, 0], loopC Tryz.prog 41 [1, 1, 1, 1, 0, 1, 0, 0], .inBlock 0, codeC Tryz.prog 41 [1, 1, 1, 1, 1]] M := by
 intro N
 induction N with
 | zero =>
  intro v16 v17 l57 l24 s57 s24 Fr M r hH h
  simp [glitch_held_3] at h
 | succ N ih =>
  intro v16 v17 l57 l24 s57 s24 Fr M r hH h
  rw [glitch_held_3] at h
  refine Run.seq (Run.region ?_)
  refine Run.opG wantS_none (ex_lss rfl rfl) rfl ?_
  refine Run.opsEnd (Run.seq ?_)
  rcases btf ((decide (v17 < v16))) with hc59 | hc59
  ·have h := bif_t hc59 h
   refine Run.condT' rfl hc59 ?_
   refine Run.skip (Run.seq (Run.block (Run.seq (Run.region ?_))))
   obtain ⟨x61, hx61, h⟩ := bnd_some h
   obtain ⟨p61, o61, hb61, hx61, he61⟩ := vec_elem (P := Tryz.prog) (t := 31) (kk := .i64) hH (i := 1) rfl hx61 els31
   refine Run.opG wantS_none (ex_elX rfl rfl hx61) rfl <| Run.opG wantS_none (ex_loadA rfl (hH.at (enc := enc37) (a := x61) (i := 1) rfl hb61 he61 enc37_len) rdLe_rfl agg37 rfl rfl rfl) rfl <| Run.opX wantS_none rfl (ExG.new (v := fun b => .ptr b 0) (ex_alloc zer37) hH) ?_
   rintro _ M64 ⟨b63, rfl, hH64⟩
   refine Run.opX wantS_none rfl (ExG.storeC (c' := [(.int .i64 x61.From), (.int .i64 x61.To)]) rfl rfl rfl hH64 (i := 0) rfl sz37 rfl rfl rfl rfl rfl) ?_
   rintro _ M65 ⟨rfl, (hH65 : Has Fr M65 [.obj b63 (.row 37 .whole [(.int .i64 x61.From), (.int .i64 x61.To)]), .vec 37 2 l57.length s57 (l57.flatMap enc37), .vec 37 2 l24.length s24 (l24.flatMap enc37)])⟩
   refine Run.opsEnd (Run.seq (Run.region ?_))
   refine Run.opG wantS_none (ex_move rfl) rfl <| Run.opG wantS_none (ex_len' rfl (hH65.slc (i := 1) rfl enc37_len) lenk31) rfl <| Run.opG wantS_none (ex_sub rfl rfl) rfl <| Run.opG wantS_none (ex_assign rfl) rfl ?_
   refine Run.opsEnd (Run.seq ?_)
   refine Run.drawG plan41_1_1_1_1_0_1_0_0_1_1_0_0_1_1_0 <| DrawG.fl rfl (ev_ex wantS_none (ex_move rfl)) rfl <| DrawG.fl rfl (ev_ex wantS_none (ex_geq rfl rfl)) rfl <| DrawG.fl rfl (ev_ex wantS_none (ex_move rfl)) rfl ?_
   rcases btf ((decide ((0 : Int) ≤ (w64 ((l57.length : Int) - (1 : Int)))))) with hc66 | hc66
   ·have h := bif_t hc66 h
    refine DrawG.fl rfl (ev_ex (wantS_yes' rfl rfl hc66) (ex_fieldAddr rfl off37_0)) rfl <| DrawG.fl rfl (ev_ex (wantS_yes' rfl rfl hc66) (ex_load1 rfl (hH65.cells (i := 0) rfl 0 rfl) rdLe_rfl agg3)) rfl <| DrawG.fl rfl (ev_ex (wantS_yes' rfl rfl hc66) (ex_move rfl)) rfl <| DrawG.fl rfl (ev_ex (wantS_yes' rfl rfl hc66) (ex_move rfl)) rfl ?_
    obtain ⟨x67, hx67, h⟩ := bnd_some h
    obtain ⟨p67, o67, hb67, hx67, he67⟩ := vec_elem (P := Tryz.prog) (t := 31) (kk := .i64) hH65 (i := 1) rfl hx67 els31
    refine DrawG.fl rfl (ev_ex (wantS_yes' rfl rfl hc66) (ex_elX rfl rfl hx67)) rfl <| DrawG.fl rfl (ev_ex (wantS_yes' rfl rfl hc66) (ex_fieldAddr rfl off37_1)) rfl <| DrawG.fl rfl (ev_ex (wantS_yes' rfl rfl hc66) (ex_load1 rfl ((hH65.at (enc := enc37) (a := x67) (i := 1) rfl hb67 he67 enc37_len).fld (o := 1) rfl) rdLe_rfl agg3)) rfl <| DrawG.fl rfl (ev_ex (wantS_yes' rfl rfl hc66) (ex_leq rfl rfl)) rfl <| DrawG.fl rfl (ev_ex wantS_none (ex_pickT' rfl hc66 rfl rfl)) rfl <| DrawG.sync <| DrawG.nil ?_
    exact Run.pick [6, 8, 9, 15, 16, 17, 35] (glitch_held_4_ok F (glitch_held_3 F N) ih (w64 ((l57.length : Int) - (1 : Int))) v16 v17 (decide (x61.From ≤ x67.To)) x61 l57 l24 s57 b63 s24 _ _ _ (hH65.pick [1, 0, 2] rfl rfl) h)
   ·have h := bif_f hc66 h
    refine DrawG.fl rfl (ev_no (wantS_not' rfl rfl hc66)) rfl <| DrawG.fl rfl (ev_no (wantS_not' rfl rfl hc66)) rfl <| DrawG.fl rfl (ev_no (wantS_not' rfl rfl hc66)) rfl <| DrawG.fl rfl (ev_no (wantS_not' rfl rfl hc66)) rfl <| DrawG.fl rfl (ev_no (wantS_not' rfl rfl hc66)) rfl <| DrawG.fl rfl (ev_no (wantS_not' rfl rfl hc66)) rfl <| DrawG.fl rfl (ev_no (wantS_not' rfl rfl hc66)) rfl <| DrawG.fl rfl (ev_no (wantS_not' rfl rfl hc66)) rfl <| DrawG.fl rfl (ev_ex wantS_none (ex_pickF' rfl hc66 rfl rfl)) rfl <| DrawG.sync <| DrawG.nil ?_
    exact Run.pick [6, 8, 9, 15, 16, 17, 35] (glitch_held_4_ok F (glitch_held_3 F N) ih (w64 ((l57.length : Int) - (1 : Int))) v16 v17 false x61 l57 l24 s57 b63 s24 _ _ _ (hH65.pick [1, 0, 2] rfl rfl) h)
  ·have h := bif_f hc59 h
   refine Run.condF' rfl hc59 ?_
   refine Run.exit rfl (Run.seq (Run.region ?_))
   refine Run.opG wantS_none (ex_move rfl) rfl <| Run.opG wantS_none (ex_assign rfl) rfl <| Run.opsEnd ?_
   cases h
   exact Run.ret Tryz.func41 rfl (res_tmp rfl res_nil) ⟨_, rfl, (hH.pick [0] rfl rfl).upF (none_le _)⟩

def glitch_held_1 (F : Nat) : Nat → (List S_api_Segment) → Int → Int → Int → (List S_api_Segment) → Option ((List S_api_Segment))
 | 0, _, _, _, _, _ => none
 | N + 1, v10, v11, v12, c22_0, l24 =>
  bif (decide (v12 < v11)) then
   bnd (idx v10 v12) fun x28 =>
   bif (decide (x28.From < (min x28.To c22_0))) then
    bnd (apd 16 l24 ([(S_api_Segment.mk x28.From (min x28.To c22_0))] : List S_api_Segment)) fun l51 =>
    glitch_held_2 F (glitch_held_1 F N) v10 v11 v12 c22_0 l51
   else
    glitch_held_2 F (glitch_held_1 F N) v10 v11 v12 c22_0 l24
  else
   bnd (sortP (fun a => a.From) l24) fun l55 =>
   glitch_held_3 F F (l55.length : Int) (0 : Int) ([] : List S_api_Segment) l55

theorem glitch_held_1_ok (F : Nat) : ∀ (N : Nat), ∀ (v10 : (List S_api_Segment)) (v11 v12 c22_0 : Int) (l24 : (List S_api_Segment)) (sv10 : SV) (b22 : Pos) (s24 : SV) (Fr : Rd) (M : Mem) (r : (List S_api_Segment)) (hv10 : Slc Fr 2 (FlatR enc37) sv10 v10) (hH : Has Fr M [.obj b22 (.row 3 .whole [(.int .i64 c22_0)]), .vec 37 2 l24.length s24 (l24.flatMap enc37)]), glitch_held_1 F N v10 v11 v12 c22_0 l24 = some r → Run Tryz.prog ⟨⟨81, [], none⟩, [.mk ⟨41, [], none⟩ 54 (treeOf []) [itemC Tryz.prog 41 [1, 0] 2, codeC Tryz.prog 41 [1, 1]]]⟩ 29 (glitch_held_post r) [(1, (.fn (.func 82) [] [(.ptr b22 0)])), (5, s24), (10, sv10), (11, (.int .i64 v11)), (12, (.int .i64 v12))] [codeC Tryz.prog 81 [1, 1, 0, 1, 0, 0], loopC Tryz.prog 81 [1, 1, 0, 1, 0, 0], .inBlock 0, codeC Tryz.prog 81 [1, 1, 1]] M := by
 intro N
 induction N with
 | zero =>
  intro v10 v11 v12 c22_0 l24 sv10 b22 s24 Fr M r hv10 hH h
  simp [glitch_held_1] at h
 | succ N ih =>
  intro v10 v11 v12 c22_0 l24 sv10 b22 s24 Fr M r hv10 hH h
  rw [glitch_held_1] at h
  refine Run.seq (Run.region ?_)
  refine Run.opG wantS_none (ex_lss rfl rfl) rfl ?_
  refine Run.opsEnd (Run.seq ?_)
  rcases btf ((decide (v12 < v11))) with hc26 | hc26
  ·have h := bif_t hc26 h
   refine Run.condT' rfl hc26 ?_
   refine Run.skip (Run.seq (Run.block (Run.seq (Run.region ?_))))
   obtain ⟨x28, hx28, h⟩ := bnd_some h
   obtain ⟨p28, o28, _, hx28, hp28, rfl⟩ := sl_elem (P := Tryz.prog) (t := 31) (kk := .i64) hv10 hx28 els31
   refine Run.opG wantS_none (ex_elX rfl rfl hx28) rfl <| Run.opG wantS_none (ex_loadA rfl (hH.ptrF hp28) rdLe_rfl agg37 rfl rfl rfl) rfl <| Run.opX wantS_none rfl (ExG.new (v := fun b => .ptr b 0) (ex_alloc zer37) hH) ?_
   rintro _ M31 ⟨b30, rfl, hH31⟩
   refine Run.opX wantS_none rfl (ExG.storeC (c' := [(.int .i64 x28.From), (.int .i64 x28.To)]) rfl rfl rfl hH31 (i := 0) rfl sz37 rfl rfl rfl rfl rfl) ?_
   rintro _ M32 ⟨rfl, (hH32 : Has Fr M32 [.obj b30 (.row 37 .whole [(.int .i64 x28.From), (.int .i64 x28.To)]), .obj b22 (.row 3 .whole [(.int .i64 c22_0)]), .vec 37 2 l24.length s24 (l24.flatMap enc37)])⟩
   refine Run.opsEnd (Run.seq (Run.region ?_))
   refine Run.opG wantS_none (ex_move rfl) rfl <| Run.opG wantS_none (ex_loadA rfl (hH32.cells (i := 0) rfl 0 rfl) rdLe_rfl agg37 rfl rfl rfl) rfl <| Run.enter wantS_none (ex_closure rfl rfl mkk82 cal82) Tryz.func82 rfl rfl ?_
   refine Run.seq (Run.region ?_)
   refine Run.opX wantS_none rfl (ExG.box rfl rfl hH32) ?_
   rintro _ M35 ⟨b34, rfl, hH35⟩
   refine Run.opX wantS_none rfl (ExG.new (v := fun b => .ptr b 0) (ex_alloc zer37) hH35) ?_
   rintro _ M38 ⟨b37, rfl, hH38⟩
   refine Run.opG wantS_none (ex_assign rfl) rfl ?_
   refine Run.opsEnd (Run.seq (Run.region ?_))
   refine Run.opG wantS_none (ex_fieldAddr rfl off37_1) rfl <| Run.opG wantS_none (ex_load1 rfl (hH38.cells (i := 1) rfl 1 rfl) rdLe_rfl agg3) rfl <| Run.opG wantS_none (ex_load1 rfl (hH38.cells (i := 3) rfl 0 rfl) rdLe_rfl agg3) rfl <| Run.opG wantS_none (ex_min rfl rfl) rfl <| Run.opG wantS_none (ex_fieldAddr rfl off37_1) rfl <| Run.opX wantS_none rfl (ExG.storeC (c' := [(.int .i64 x28.From), (.int .i64 (min x28.To c22_0))]) rfl rfl rfl hH38 (i := 1) rfl sz3 rfl rfl rfl rfl rfl) ?_
   rintro _ M39 ⟨rfl, (hH39 : Has Fr M39 [.obj b37 (.row 37 .whole [(.int .i64 0), (.int .i64 0)]), .obj b34 (.row 37 .whole [(.int .i64 x28.From), (.int .i64 (min x28.To c22_0))]), .obj b30 (.row 37 .whole [(.int .i64 x28.From), (.int .i64 x28.To)]), .obj b22 (.row 3 .whole [(.int .i64 c22_0)]), .vec 37 2 l24.length s24 (l24.flatMap enc37)])⟩
   refine Run.opsEnd (Run.seq ?_)
   refine Run.drawG plan82_1_1_0 <| DrawG.fl rfl (ev_ex wantS_none (ex_loadA rfl (hH39.cells (i := 1) rfl 0 rfl) rdLe_rfl agg37 rfl rfl rfl)) rfl <| DrawG.fl rfl (ev_ex wantS_none (ex_fieldAddr rfl off37_0)) rfl <| DrawG.fl rfl (ev_ex wantS_none (ex_load1 rfl (hH39.cells (i := 1) rfl 0 rfl) rdLe_rfl agg3)) rfl <| DrawG.fl rfl (ev_ex wantS_none (ex_fieldAddr rfl off37_1)) rfl <| DrawG.fl rfl (ev_ex wantS_none (ex_load1 rfl (hH39.cells (i := 1) rfl 1 rfl) rdLe_rfl agg3)) rfl <| DrawG.fl rfl (ev_ex wantS_none (ex_lss rfl rfl)) rfl <| DrawG.opX rfl wantS_none rfl (ExG.storeC (c' := [(.int .i64 x28.From), (.int .i64 (min x28.To c22_0))]) rfl rfl rfl hH39 (i := 0) rfl sz37 rfl rfl rfl rfl rfl) ?_
   rintro _ M40 ⟨rfl, (hH40 : Has Fr M40 [.obj b37 (.row 37 .whole [(.int .i64 x28.From), (.int .i64 (min x28.To c22_0))]), .obj b34 (.row 37 .whole [(.int .i64 x28.From), (.int .i64 (min x28.To c22_0))]), .obj b30 (.row 37 .whole [(.int .i64 x28.From), (.int .i64 x28.To)]), .obj b22 (.row 3 .whole [(.int .i64 c22_0)]), .vec 37 2 l24.length s24 (l24.flatMap enc37)])⟩
   refine ⟨(st_cons rfl (ev_ex wantS_none (ex_lss rfl rfl)) rfl rfl rfl (st_cons rfl (ev_ex wantS_none (ex_load1 rfl (hH40.cells (i := 1) rfl 1 rfl) rdLe_rfl agg3)) rfl rfl rfl (st_cons rfl (ev_ex wantS_none (ex_fieldAddr rfl off37_1)) rfl rfl rfl (st_cons rfl (ev_ex wantS_none (ex_load1 rfl (hH40.cells (i := 1) rfl 0 rfl) rdLe_rfl agg3)) rfl rfl rfl (st_cons rfl (ev_ex wantS_none (ex_fieldAddr rfl off37_0)) rfl rfl rfl st_nil))))), ?_⟩
   refine DrawG.fl rfl (ev_ex wantS_none (ex_assign rfl)) rfl <| DrawG.sync <| DrawG.nil <| Run.retTo Tryz.func82 rfl (res_cell rfl (x_load (ex_loadA rfl (hH40.cells (i := 0) rfl 0 rfl) rdLe_rfl agg37 rfl rfl rfl)) (res_tmp rfl res_nil)) rfl <| Run.opG wantS_none (ex_move rfl) rfl <| Run.opG wantS_none (ex_extract rfl rfl) rfl <| Run.opG wantS_none (ex_extract rfl rfl) rfl <| Run.opX wantS_none rfl (ExG.new (v := fun b => .ptr b 0) (ex_alloc zer37) hH40) ?_
   rintro _ M43 ⟨b42, rfl, hH43⟩
   refine Run.opX wantS_none rfl (ExG.storeC (c' := [(.int .i64 x28.From), (.int .i64 (min x28.To c22_0))]) rfl rfl rfl hH43 (i := 0) rfl sz37 rfl rfl rfl rfl rfl) ?_
   rintro _ M44 ⟨rfl, (hH44 : Has Fr M44 [.obj b42 (.row 37 .whole [(.int .i64 x28.From), (.int .i64 (min x28.To c22_0))]), .obj b37 (.row 37 .whole [(.int .i64 x28.From), (.int .i64 (min x28.To c22_0))]), .obj b34 (.row 37 .whole [(.int .i64 x28.From), (.int .i64 (min x28.To c22_0))]), .obj b30 (.row 37 .whole [(.int .i64 x28.From), (.int .i64 x28.To)]), .obj b22 (.row 3 .whole [(.int .i64 c22_0)]), .vec 37 2 l24.length s24 (l24.flatMap enc37)])⟩
   refine Run.opG wantS_none (ex_assign rfl) rfl ?_
   refine Run.opsEnd (Run.seq (Run.region ?_))
   refine Run.opG wantS_none (ex_move rfl) rfl <| Run.opsEnd ?_
   rcases btf ((decide (x28.From < (min x28.To c22_0)))) with hc45 | hc45
   ·have h := bif_t hc45 h
    refine Run.condT' rfl hc45 <| Run.region <| Run.opG wantS_none (ex_move rfl) rfl <| Run.opG wantS_none (ex_loadA rfl (hH44.cells (i := 0) rfl 0 rfl) rdLe_rfl agg37 rfl rfl rfl) rfl <| Run.opX wantS_none rfl (ExG.built (enc := enc37) (l := ([(S_api_Segment.mk x28.From (min x28.To c22_0))] : List S_api_Segment)) (z := 2) rfl elt31 rfl rfl rfl enc37_len hH44) ?_
    rintro s47 M48 (hH48 : Has Fr M48 [.vec 37 2 ([(S_api_Segment.mk x28.From (min x28.To c22_0))] : List S_api_Segment).length s47 (([(S_api_Segment.mk x28.From (min x28.To c22_0))] : List S_api_Segment).flatMap enc37), .obj b42 (.row 37 .whole [(.int .i64 x28.From), (.int .i64 (min x28.To c22_0))]), .obj b37 (.row 37 .whole [(.int .i64 x28.From), (.int .i64 (min x28.To c22_0))]), .obj b34 (.row 37 .whole [(.int .i64 x28.From), (.int .i64 (min x28.To c22_0))]), .obj b30 (.row 37 .whole [(.int .i64 x28.From), (.int .i64 x28.To)]), .obj b22 (.row 3 .whole [(.int .i64 c22_0)]), .vec 37 2 l24.length s24 (l24.flatMap enc37)])
    obtain ⟨l51, hl51, h⟩ := bnd_some h
    refine Run.opX wantS_none rfl (ExG.append rfl rfl hH48 (i := 6) rfl enc37_len rfl enc37_ones appt31_31 rfl (len_slc (hH48.slc (i := 0) rfl enc37_len)) (first_slc (hH48.slc (i := 0) rfl enc37_len) (rdLe_rdRow _) enc37_len) hl51) ?_
    rintro s51 M53 (hH53 : Has Fr M53 [.vec 37 2 ([(S_api_Segment.mk x28.From (min x28.To c22_0))] : List S_api_Segment).length s47 (([(S_api_Segment.mk x28.From (min x28.To c22_0))] : List S_api_Segment).flatMap enc37), .obj b42 (.row 37 .whole [(.int .i64 x28.From), (.int .i64 (min x28.To c22_0))]), .obj b37 (.row 37 .whole [(.int .i64 x28.From), (.int .i64 (min x28.To c22_0))]), .obj b34 (.row 37 .whole [(.int .i64 x28.From), (.int .i64 (min x28.To c22_0))]), .obj b30 (.row 37 .whole [(.int .i64 x28.From), (.int .i64 x28.To)]), .obj b22 (.row 3 .whole [(.int .i64 c22_0)]), .vec 37 2 l51.length s51 (l51.flatMap enc37)])
    refine Run.opG wantS_none (ex_assign rfl) rfl ?_
    refine Run.opsEnd (Run.inBlock (Run.region ?_))
    exact Run.low (.cons (fle_pick [] rfl) .nil) (Run.pick [1, 5, 10, 11, 12] (glitch_held_2_ok F (glitch_held_1 F N) ih v10 v11 v12 c22_0 l51 sv10 b22 s51 _ _ _ hv10 (hH53.pick [5, 6] rfl rfl) h))
   ·have h := bif_f hc45 h
    refine Run.condF' rfl hc45 ?_
    refine Run.skip (Run.inBlock (Run.region ?_))
    exact Run.low (.cons (fle_pick [] rfl) .nil) (Run.pick [1, 5, 10, 11, 12] (glitch_held_2_ok F (glitch_held_1 F N) ih v10 v11 v12 c22_0 l24 sv10 b22 s24 _ _ _ hv10 (hH44.pick [4, 5] rfl rfl) h))
  ·have h := bif_f hc26 h
   refine Run.condF' rfl hc26 ?_
   refine Run.exit rfl (Run.seq (Run.region ?_))
   refine Run.opG wantS_none (ex_move rfl) rfl <| Run.opG wantS_none (ex_assign rfl) rfl <| Run.opsEnd <| Run.retTo Tryz.func81 rfl (res_tmp rfl res_nil) rfl <| Run.opG wantS_none (ex_assign rfl) rfl ?_
   refine Run.opsEnd (Run.seq (Run.region ?_))
   refine Run.opG wantS_none (ex_move rfl) rfl ?_
   obtain ⟨l55, hl55, h⟩ := bnd_some h
   refine Run.callX wantS_none (ex_call rfl mkk83 cal83) rfl ((sort83 enc37 (fun a => a.From) (fun a => a.To) (fun _ => rfl)).callsP hH (i := 1) rfl hl55) ?_
   rintro _ M56 ⟨rfl, (hH56 : Has Fr M56 [.obj b22 (.row 3 .whole [(.int .i64 c22_0)]), .vec 37 2 l55.length s24 (l55.flatMap enc37)])⟩
   refine Run.opsEnd (Run.seq (Run.region ?_))
   refine Run.opG wantS_none (ex_assign rfl) rfl ?_
   refine Run.opsEnd (Run.seq (Run.seq (Run.region ?_)))
   refine Run.opG wantS_none (ex_move rfl) rfl <| Run.opG wantS_none (ex_len' rfl (hH56.slc (i := 1) rfl enc37_len) lenk31) rfl <| Run.opG wantS_none (ex_move rfl) rfl ?_
   refine Run.opsEnd (Run.block (Run.loop ?_))
   have hH58 : Has Fr M56 [.vec 37 2 ([] : List S_api_Segment).length .nils (([] : List S_api_Segment).flatMap enc37), .obj b22 (.row 3 .whole [(.int .i64 c22_0)]), .vec 37 2 l55.length s24 (l55.flatMap enc37)] := hH56.nils 37 2
   exact Run.pick [6, 15, 16, 17] (glitch_held_3_ok F F (l55.length : Int) (0 : Int) ([] : List S_api_Segment) l55 .nils s24 _ _ _ (hH58.pick [0, 2] rfl rfl) h)

def glitch_held (F : Nat) (a0 : (List S_api_Segment)) (a1 : Int) : Option ((List S_api_Segment)) :=
 glitch_held_1 F F a0 (a0.length : Int) (0 : Int) a1 ([] : List S_api_Segment)

theorem glitch_held_ok (F : Nat) (a0 : (List S_api_Segment)) (a1 : Int) (s0 : SV) (r : (List S_api_Segment)) (M : Mem) (hs0 : Slc (rd M) 2 (FlatR enc37) s0 a0) (h : glitch_held F a0 a1 = some r) : CallsM Tryz.prog 41 [s0, (.int .i64 a1)] M (fun s M' => ∃ q1, s = q1 ∧ New M M' [.vec 37 2 r.length q1 (r.flatMap enc37)]) := by
 refine CallsM.fresh (Q := glitch_held_post r) Tryz.func41 rfl rfl ?_ (by rintro s Me ⟨q1, rfl, hx⟩ ha hw; exact ⟨_, rfl, New.of rfl hx ha hw⟩)
 rw [glitch_held] at h
 replace hs0 := hs0.mono (rdLe_frozen M) (fun _ _ h => h)
 have hH := Has.nil (frozen M)
 refine Run.seq (Run.region ?_)
 refine Run.opX wantS_none rfl (ExG.box rfl rfl hH) ?_
 rintro _ M23 ⟨b22, rfl, hH23⟩
 refine Run.opG wantS_none (ex_assign rfl) rfl ?_
 refine Run.opsEnd (Run.seq (Run.region ?_))
 refine Run.opG wantS_none (ex_move rfl) rfl <| Run.opG wantS_none (ex_makeFunc rfl rfl) rfl <| Run.enter wantS_none (ex_call rfl mkk81 cal81) Tryz.func81 rfl rfl ?_
 refine Run.seq (Run.region ?_)
 refine Run.opG wantS_none (ex_assign rfl) rfl ?_
 refine Run.opsEnd (Run.seq (Run.region ?_))
 refine Run.opG wantS_none (ex_assign rfl) rfl ?_
 refine Run.opsEnd (Run.seq (Run.seq (Run.region ?_)))
 refine Run.opG wantS_none (ex_move rfl) rfl <| Run.opG wantS_none (ex_len' rfl hs0 lenk31) rfl <| Run.opG wantS_none (ex_move rfl) rfl ?_
 refine Run.opsEnd (Run.block (Run.loop ?_))
 have hH25 : Has (ro (frozen M)) M23 [.vec 37 2 ([] : List S_api_Segment).length .nils (([] : List S_api_Segment).flatMap enc37), .obj b22 (.row 3 .whole [(.int .i64 a1)])] := hH23.nils 37 2
 exact Run.low (.cons (fle_pick [] rfl) .nil) (Run.pick [1, 5, 10, 11, 12] (glitch_held_1_ok F F a0 (a0.length : Int) (0 : Int) a1 ([] : List S_api_Segment) s0 b22 .nils _ _ _ hs0 (hH25.pick [1, 0] rfl rfl) h))

theorem mkk41 : makeK Tryz.prog 41 = none := by kernel_rfl
theorem cal41 : callable Tryz.prog 41 = true := by kernel_rfl
abbrev glitch_Held_post (r : (List S_api_Segment) × Int) : SV → Mem → Prop := fun s Me => ∃ q1, s = (.tuple [q1, (.int .i64 r.2)]) ∧ Has (fun _ => none) Me [.vec 37 2 r.1.length q1 (r.1.flatMap enc37)]

def glitch_Held (F : Nat) (a0 : S_api_Veto) (a1 : Int) : Option ((List S_api_Segment) × Int) :=
 bnd (glitch_checkSpan F ([a0] : List S_api_Veto) a1) fun r28 =>
 bif (!(r28 == (0 : Int))) then
  some (([] : List S_api_Segment), r28)
 else
  bnd (glitch_held F a0.Segments a1) fun r35 =>
  some (r35, (0 : Int))

theorem glitch_Held_ok (F : Nat) (a0 : S_api_Veto) (a1 : Int) (s0 : SV) (r : (List S_api_Segment) × Int) (M : Mem) (hs0 : Slc (rd M) 2 (FlatR enc37) s0 a0.Segments) (h : glitch_Held F a0 a1 = some r) : CallsM Tryz.prog 13 [(.agg [(.str a0.Name), s0]), (.int .i64 a1)] M (fun s M' => ∃ q1, s = (.tuple [q1, (.int .i64 r.2)]) ∧ New M M' [.vec 37 2 r.1.length q1 (r.1.flatMap enc37)]) := by
 refine CallsM.fresh (Q := glitch_Held_post r) Tryz.func13 rfl rfl ?_ (by rintro s Me ⟨q1, rfl, hx⟩ ha hw; exact ⟨_, rfl, New.of rfl hx ha hw⟩)
 rw [glitch_Held] at h
 replace hs0 := hs0.mono (rdLe_frozen M) (fun _ _ h => h)
 have hH := Has.nil (frozen M)
 refine Run.seq (Run.region ?_)
 refine Run.opX wantS_none rfl (ExG.box rfl rfl hH) ?_
 rintro _ M23 ⟨b22, rfl, hH23⟩
 refine Run.opG wantS_none (ex_assign rfl) rfl <| Run.opG wantS_none (ex_assign rfl) rfl ?_
 refine Run.opsEnd (Run.seq (Run.seq (Run.region ?_)))
 refine Run.opG wantS_none (ex_loadA rfl (hH23.cells (i := 0) rfl 0 rfl) rdLe_rfl agg35 rfl rfl rfl) rfl ?_
 have hr25 : Rows (rep35 (ro (frozen M))) 2 [(.str a0.Name), s0] ([a0] : List S_api_Veto) := (Rows.cons (cs := [(.str a0.Name), s0]) rfl ⟨s0, rfl, hs0⟩ Rows.nil)
 refine Run.opX wantS_none rfl (ExG.builtR (z := 2) (c := [(.str a0.Name), s0]) rfl elt22 rfl rfl rfl hH23) ?_
 rintro s25 M26 (hH26 : Has (ro (frozen M)) M26 [.vec 35 2 ([a0] : List S_api_Veto).length s25 [(.str a0.Name), s0], .obj b22 (.row 35 .whole [(.str a0.Name), s0])])
 refine Run.opG wantS_none (ex_move rfl) rfl ?_
 obtain ⟨r28, hr28, h⟩ := bnd_some h
 refine Run.callP wantS_none (ex_call rfl mkk30 cal30) rfl (glitch_checkSpan_ok F ([a0] : List S_api_Veto) a1 s25 _ _ (((hH26.slcR (i := 0) rfl hr25)).mono (fun _ _ h => h) (fun _ _ => rep35_mo hH26.le)) hr28) <| Run.opG wantS_none (ex_assign rfl) rfl ?_
 refine Run.opsEnd (Run.seq (Run.region ?_))
 refine Run.opG wantS_none (ex_move rfl) rfl <| Run.opG wantS_none (ex_neq rfl rfl) rfl <| Run.opsEnd ?_
 rcases btf ((!(r28 == (0 : Int)))) with hc30 | hc30
 ·have h := bif_t hc30 h
  refine Run.condT' rfl hc30 ?_
  refine Run.seq (Run.region ?_)
  refine Run.opG wantS_none (ex_move rfl) rfl <| Run.opG wantS_none (ex_assign rfl) rfl <| Run.opG wantS_none (ex_assign rfl) rfl <| Run.opsEnd ?_
  have hH32 : Has (ro (frozen M)) M26 [.vec 37 2 ([] : List S_api_Segment).length .nils (([] : List S_api_Segment).flatMap enc37), .vec 35 2 ([a0] : List S_api_Veto).length s25 [(.str a0.Name), s0], .obj b22 (.row 35 .whole [(.str a0.Name), s0])] := hH26.nils 37 2
  cases h
  exact Run.ret Tryz.func13 rfl (res_tmp rfl (res_tmp rfl res_nil)) ⟨_, rfl, (hH32.pick [0] rfl rfl).upF (none_le _)⟩
 ·have h := bif_f hc30 h
  refine Run.condF' rfl hc30 ?_
  refine Run.skip (Run.seq (Run.region ?_))
  refine Run.opG wantS_none (ex_fieldAddr rfl off35_1) rfl <| Run.opG wantS_none (ex_load1 rfl (hH26.cells (i := 1) rfl 1 rfl) rdLe_rfl agg31) rfl <| Run.opG wantS_none (ex_move rfl) rfl ?_
  obtain ⟨r35, hr35, h⟩ := bnd_some h
  refine Run.callX wantS_none (ex_call rfl mkk41 cal41) rfl (glitch_held_ok F a0.Segments a1 s0 _ _ (hH26.slcF hs0) hr35) ?_
  rintro s35_0 M37 ⟨_, rfl, hN35⟩
  have hH37 : Has (ro (frozen M)) M37 [.vec 37 2 r35.length s35_0 (r35.flatMap enc37), .vec 35 2 ([a0] : List S_api_Veto).length s25 [(.str a0.Name), s0], .obj b22 (.row 35 .whole [(.str a0.Name), s0])] := hN35.1 _ _ hH26
  refine Run.opG wantS_none (ex_assign rfl) rfl <| Run.opG wantS_none (ex_assign rfl) rfl <| Run.opsEnd ?_
  cases h
  exact Run.ret Tryz.func13 rfl (res_tmp rfl (res_tmp rfl res_nil)) ⟨_, rfl, (hH37.pick [0] rfl rfl).upF (none_le _)⟩

theorem mkk13 : makeK Tryz.prog 13 = none := by kernel_rfl
theorem cal13 : callable Tryz.prog 13 = true := by kernel_rfl
abbrev ref00_In_post (r : Bool) : SV → Mem → Prop := fun s _ => s = (.bool r)

def ref00_In_1 (F : Nat) (v14 : Bool) : Option (Bool) :=
 some v14

theorem ref00_In_1_ok (F : Nat) : ∀ (v14 : Bool) (Fr : Rd) (M : Mem) (r : Bool) (hH : Has Fr M []), ref00_In_1 F v14 = some r → Run Tryz.prog ⟨⟨21, [], none⟩, []⟩ 15 (ref00_In_post r) [(14, (.bool v14))] [itemC Tryz.prog 21 [1, 0] 8, codeC Tryz.prog 21 [1, 1]] M := by
 intro v14 Fr M r hH h
 rw [ref00_In_1] at h
 refine Run.opG wantS_none (ex_assign rfl) rfl <| Run.opsEnd ?_
 cases h
 exact Run.ret Tryz.func21 rfl (res_tmp rfl res_nil) rfl

def ref00_In (F : Nat) (a0 a1 a2 : Int) : Option (Bool) :=
 bif (decide (a1 ≤ a0)) then
  ref00_In_1 F (decide (a0 ≤ a2))
 else
  ref00_In_1 F false

theorem ref00_In_ok (F : Nat) (a0 a1 a2 : Int) (r : Bool) (M : Mem) (h : ref00_In F a0 a1 a2 = some r) : CallsM Tryz.prog 21 [(.int .i64 a0), (.int .i64 a1), (.int .i64 a2)] M (fun s M' => s = (.bool r) ∧ M' = M) := by
 refine CallsM.plain Tryz.func21 rfl rfl rfl (show Run _ _ _ (ref00_In_post r) _ _ _ from ?_)
 rw [ref00_In] at h
 have hH := Has.nil (frozen M)
 refine Run.seq (Run.region ?_)
 refine Run.opG wantS_none (ex_assign rfl) rfl ?_
 refine Run.opsEnd (Run.seq (Run.region ?_))
 refine Run.opG wantS_none (ex_move rfl) rfl <| Run.opG wantS_none (ex_move rfl) rfl <| Run.opG wantS_none (ex_leq rfl rfl) rfl <| Run.opG wantS_none (ex_move rfl) rfl ?_
 rcases btf ((decide (a1 ≤ a0))) with hc21 | hc21
 ·have h := bif_t hc21 h
  refine Run.opG (wantS_yes' rfl rfl hc21) (ex_move rfl) rfl <| Run.opG (wantS_yes' rfl rfl hc21) (ex_move rfl) rfl <| Run.opG (wantS_yes' rfl rfl hc21) (ex_leq rfl rfl) rfl <| Run.opG wantS_none (ex_pickT' rfl hc21 rfl rfl) rfl ?_
  exact Run.pick [14] (ref00_In_1_ok F (decide (a0 ≤ a2)) _ _ _ hH h)
 ·have h := bif_f hc21 h
  refine Run.no (wantS_not' rfl rfl hc21) rfl <| Run.no (wantS_not' rfl rfl hc21) rfl <| Run.no (wantS_not' rfl rfl hc21) rfl <| Run.opG wantS_none (ex_pickF' rfl hc21 rfl rfl) rfl ?_
  exact Run.pick [14] (ref00_In_1_ok F false _ _ _ hH h)

theorem mkk21 : makeK Tryz.prog 21 = none := by kernel_rfl
theorem cal21 : callable Tryz.prog 21 = true := by kernel_rfl
abbrev ref06_spanned_post (r : Int) : SV → Mem → Prop := fun s _ => s = (.int .i64 r)

def ref06_spanned (F : Nat) (a0 : (List S_api_Veto)) (a1 : Int) : Option (Int) :=
 bnd (ref06_CheckVetoes F a0) fun r22 =>
 bif (!(r22 == (0 : Int))) then
  some r22
 else
  bnd (ref00_In F a1 (1 : Int) (1073741824 : Int)) fun r26 =>
  bif (!r26) then
   some (8 : Int)
  else
   some (0 : Int)

theorem ref06_spanned_ok (F : Nat) (a0 : (List S_api_Veto)) (a1 : Int) (s0 : SV) (r : Int) (M : Mem) (hs0 : Slc (rd M) 2 (rep35 (rd M)) s0 a0) (h : ref06_spanned F a0 a1 = some r) : CallsM Tryz.prog 43 [s0, (.int .i64 a1)] M (fun s M' => s = (.int .i64 r) ∧ M' = M) := by
 refine CallsM.plain Tryz.func43 rfl rfl rfl (show Run _ _ _ (ref06_spanned_post r) _ _ _ from ?_)
 rw [ref06_spanned] at h
 replace hs0 := hs0.mono (rdLe_frozen M) (fun _ _ => rep35_mo (rdLe_frozen M))
 have hH := Has.nil (frozen M)
 refine Run.seq (Run.region ?_)
 refine Run.opG wantS_none (ex_assign rfl) rfl ?_
 refine Run.opsEnd (Run.seq (Run.seq (Run.region ?_)))
 refine Run.opG wantS_none (ex_move rfl) rfl ?_
 obtain ⟨r22, hr22, h⟩ := bnd_some h
 refine Run.callP wantS_none (ex_call rfl mkk15 cal15) rfl (ref06_CheckVetoes_ok F a0 s0 _ _ ((hs0).mono hH.le (fun _ _ => rep35_mo hH.le)) hr22) <| Run.opG wantS_none (ex_assign rfl) rfl ?_
 refine Run.opsEnd (Run.seq (Run.region ?_))
 refine Run.opG wantS_none (ex_move rfl) rfl <| Run.opG wantS_none (ex_neq rfl rfl) rfl <| Run.opsEnd ?_
 rcases btf ((!(r22 == (0 : Int)))) with hc24 | hc24
 ·have h := bif_t hc24 h
  refine Run.condT' rfl hc24 ?_
  refine Run.seq (Run.region ?_)
  refine Run.opG wantS_none (ex_move rfl) rfl <| Run.opG wantS_none (ex_assign rfl) rfl <| Run.opsEnd ?_
  cases h
  exact Run.ret Tryz.func43 rfl (res_tmp rfl res_nil) rfl
 ·have h := bif_f hc24 h
  refine Run.condF' rfl hc24 ?_
  refine Run.skip (Run.seq (Run.seq (Run.region ?_)))
  refine Run.opG wantS_none (ex_move rfl) rfl ?_
  obtain ⟨r26, hr26, h⟩ := bnd_some h
  refine Run.callP wantS_none (ex_call rfl mkk21 cal21) rfl (ref00_In_ok F a1 (1 : Int) (1073741824 : Int) _ _ hr26) <| Run.opG wantS_none (ex_not rfl) rfl <| Run.opsEnd ?_
  rcases btf ((!r26)) with hc28 | hc28
  ·have h := bif_t hc28 h
   refine Run.condT' rfl hc28 ?_
   refine Run.seq (Run.region ?_)
   refine Run.opG wantS_none (ex_assign rfl) rfl <| Run.opsEnd ?_
   cases h
   exact Run.ret Tryz.func43 rfl (res_tmp rfl res_nil) rfl
  ·have h := bif_f hc28 h
   refine Run.condF' rfl hc28 ?_
   refine Run.skip (Run.seq (Run.region ?_))
   refine Run.opG wantS_none (ex_assign rfl) rfl <| Run.opsEnd ?_
   cases h
   exact Run.ret Tryz.func43 rfl (res_tmp rfl res_nil) rfl

theorem mkk43 : makeK Tryz.prog 43 = none := by kernel_rfl
theorem cal43 : callable Tryz.prog 43 = true := by kernel_rfl
theorem pls37 : placesOf Tryz.prog 37 = some (.st [(0, 1), (1, 1)]) := by kernel_rfl
theorem plan87_1_1_1_0_1_0_0_1_0_0_0_1_1_1_1 : planOf Tryz.prog (opsC (atC Tryz.prog 87 [1, 1, 1, 0, 1, 0, 0, 1, 0, 0, 0, 1, 1, 1, 1])) = some [.fl 0, .fl 1, .fl 2, .fl 3, .fl 4, .fl 5, .fl 6, .fl 7, .fl 8, .fl 9, .fl 10, .fl 11, .fl 12, .fl 13, .fl 14, .fl 15, .fl 16, .an 17 [], .sync] := by kernel_rfl
theorem plan87_1_1_1_0_1_0_0_1_0_0_0_1_1_0 : planOf Tryz.prog (opsC (atC Tryz.prog 87 [1, 1, 1, 0, 1, 0, 0, 1, 0, 0, 0, 1, 1, 0])) = some [.fl 0, .fl 1, .fl 2, .fl 3, .fl 4, .fl 5, .fl 6, .fl 7, .fl 8, .sync] := by kernel_rfl
theorem plan87_1_1_1_0_1_0_0_1_0_0_0_0 : planOf Tryz.prog (opsC (atC Tryz.prog 87 [1, 1, 1, 0, 1, 0, 0, 1, 0, 0, 0, 0])) = some [.fl 0, .fl 1, .fl 2, .fl 3, .fl 4, .fl 5, .fl 6, .fl 7, .fl 8, .sync] := by kernel_rfl
abbrev ref06_add_post (r : (List S_api_Segment)) : SV → Mem → Prop := fun s Me => ∃ q1, s = q1 ∧ Has (fun _ => none) Me [.vec 37 2 r.length q1 (r.flatMap enc37)]

def ref06_add_2 (F : Nat) (hd1 : (List S_api_Segment) → Bool → Int → S_api_Segment → (List S_api_Segment) → Option ((List S_api_Segment))) (v0 : (List S_api_Segment)) (v6 : Bool) (v7 : Int) (c22 : S_api_Segment) (l38 : (List S_api_Segment)) : Option ((List S_api_Segment)) :=
 hd1 v0 v6 (w64 (v7 + (1 : Int))) c22 l38

theorem ref06_add_2_ok (F : Nat) (hd1 : (List S_api_Segment) → Bool → Int → S_api_Segment → (List S_api_Segment) → Option ((List S_api_Segment))) (hhd1 : ∀ (v0 : (List S_api_Segment)) (v6 : Bool) (v7 : Int) (c22 : S_api_Segment) (l24 : (List S_api_Segment)) (sv0 : SV) (b22 : Pos) (s24 : SV) (Fr : Rd) (M : Mem) (r : (List S_api_Segment)) (hv0 : Slc Fr 2 (FlatR enc37) sv0 v0) (hH : Has Fr M [.obj b22 (.row 37 .whole [(.int .i64 c22.From), (.int .i64 c22.To)]), .vec 37 2 l24.length s24 (l24.flatMap enc37)]), hd1 v0 v6 v7 c22 l24 = some r → Run Tryz.prog ⟨⟨87, [], none⟩, []⟩ 76 (ref06_add_post r) [(0, sv0), (3, (.ptr b22 0)), (5, s24), (6, (.bool v6)), (7, (.int .i64 v7))] [codeC Tryz.prog 87 [1, 1, 1, 0, 1, 0, 0], loopC Tryz.prog 87 [1, 1, 1, 0, 1, 0, 0], .inBlock 0, codeC Tryz.prog 87 [1, 1, 1, 1]] M) : ∀ (v0 : (List S_api_Segment)) (v6 : Bool) (v7 : Int) (c22 : S_api_Segment) (l38 : (List S_api_Segment)) (sv0 : SV) (b22 : Pos) (s38 : SV) (Fr : Rd) (M : Mem) (r : (List S_api_Segment)) (hv0 : Slc Fr 2 (FlatR enc37) sv0 v0) (hH : Has Fr M [.obj b22 (.row 37 .whole [(.int .i64 c22.From), (.int .i64 c22.To)]), .vec 37 2 l38.length s38 (l38.flatMap enc37)]), ref06_add_2 F hd1 v0 v6 v7 c22 l38 = some r → Run Tryz.prog ⟨⟨87, [], none⟩, []⟩ 76 (ref06_add_post r) [(0, sv0), (3, (.ptr b22 0)), (5, s38), (6, (.bool v6)), (7, (.int .i64 v7))] [itemC Tryz.prog 87 [1, 1, 1, 0, 1, 0, 0, 1, 1] 0, loopC Tryz.prog 87 [1, 1, 1, 0, 1, 0, 0], .inBlock 0, codeC Tryz.prog 87 [1, 1, 1, 1]] M := by
 intro v0 v6 v7 c22 l38 sv0 b22 s38 Fr M r hv0 hH h
 rw [ref06_add_2] at h
 refine Run.opG wantS_none (ex_move rfl) rfl <| Run.opG wantS_none (ex_add rfl rfl) rfl <| Run.opG wantS_none (ex_assign rfl) rfl ?_
 refine Run.opsEnd (Run.inLoop ?_)
 exact Run.pick [0, 3, 5, 6, 7] (hhd1 v0 v6 (w64 (v7 + (1 : Int))) c22 l38 sv0 b22 s38 _ _ _ hv0 hH h)

def ref06_add_3 (F : Nat) (hd1 : (List S_api_Segment) → Bool → Int → S_api_Segment → (List S_api_Segment) → Option ((List S_api_Segment))) (v0 : (List S_api_Segment)) (v6 : Bool) (v7 : Int) (c22 : S_api_Segment) (l50 : (List S_api_Segment)) : Option ((List S_api_Segment)) :=
 bnd (idx v0 v7) fun x53 =>
 bnd (apd 16 l50 ([x53] : List S_api_Segment)) fun l59 =>
 ref06_add_2 F hd1 v0 v6 v7 c22 l59

theorem ref06_add_3_ok (F : Nat) (hd1 : (List S_api_Segment) → Bool → Int → S_api_Segment → (List S_api_Segment) → Option ((List S_api_Segment))) (hhd1 : ∀ (v0 : (List S_api_Segment)) (v6 : Bool) (v7 : Int) (c22 : S_api_Segment) (l24 : (List S_api_Segment)) (sv0 : SV) (b22 : Pos) (s24 : SV) (Fr : Rd) (M : Mem) (r : (List S_api_Segment)) (hv0 : Slc Fr 2 (FlatR enc37) sv0 v0) (hH : Has Fr M [.obj b22 (.row 37 .whole [(.int .i64 c22.From), (.int .i64 c22.To)]), .vec 37 2 l24.length s24 (l24.flatMap enc37)]), hd1 v0 v6 v7 c22 l24 = some r → Run Tryz.prog ⟨⟨87, [], none⟩, []⟩ 76 (ref06_add_post r) [(0, sv0), (3, (.ptr b22 0)), (5, s24), (6, (.bool v6)), (7, (.int .i64 v7))] [codeC Tryz.prog 87 [1, 1, 1, 0, 1, 0, 0], loopC Tryz.prog 87 [1, 1, 1, 0, 1, 0, 0], .inBlock 0, codeC Tryz.prog 87 [1, 1, 1, 1]] M) : ∀ (v0 : (List S_api_Segment)) (v6 : Bool) (v7 : Int) (c22 : S_api_Segment) (l50 : (List S_api_Segment)) (sv0 : SV) (b22 : Pos) (s50 : SV) (Fr : Rd) (M : Mem) (r : (List S_api_Segment)) (hv0 : Slc Fr 2 (FlatR enc37) sv0 v0) (hH : Has Fr M [.obj b22 (.row 37 .whole [(.int .i64 c22.From), (.int .i64 c22.To)]), .vec 37 2 l50.length s50 (l50.flatMap enc37)]), ref06_add_3 F hd1 v0 v6 v7 c22 l50 = some r → Run Tryz.prog ⟨⟨87, [], none⟩, []⟩ 76 (ref06_add_post r) [(0, sv0), (3, (.ptr b22 0)), (5, s50), (6, (.bool v6)), (7, (.int .i64 v7))] [itemC Tryz.prog 87 [1, 1, 1, 0, 1, 0, 0, 1, 0, 0, 0, 1, 1, 1, 0, 1] 0, .inBlock 2, .inBlock 1, codeC Tryz.prog 87 [1, 1, 1, 0, 1, 0, 0, 1, 1], loopC Tryz.prog 87 [1, 1, 1, 0, 1, 0, 0], .inBlock 0, codeC Tryz.prog 87 [1, 1, 1, 1]] M := by
 intro v0 v6 v7 c22 l50 sv0 b22 s50 Fr M r hv0 hH h
 rw [ref06_add_3] at h
 refine Run.opG wantS_none (ex_move rfl) rfl <| Run.opG wantS_none (ex_move rfl) rfl <| Run.opG wantS_none (ex_move rfl) rfl ?_
 obtain ⟨x53, hx53, h⟩ := bnd_some h
 obtain ⟨p53, o53, _, hx53, hp53, rfl⟩ := sl_elem (P := Tryz.prog) (t := 31) (kk := .i64) hv0 hx53 els31
 refine Run.opG wantS_none (ex_elX rfl rfl hx53) rfl <| Run.opG wantS_none (ex_loadA rfl (hH.ptrF hp53) rdLe_rfl agg37 rfl rfl rfl) rfl <| Run.opX wantS_none rfl (ExG.built (enc := enc37) (l := ([x53] : List S_api_Segment)) (z := 2) rfl elt31 rfl rfl rfl enc37_len hH) ?_
 rintro s55 M56 (hH56 : Has Fr M56 [.vec 37 2 ([x53] : List S_api_Segment).length s55 (([x53] : List S_api_Segment).flatMap enc37), .obj b22 (.row 37 .whole [(.int .i64 c22.From), (.int .i64 c22.To)]), .vec 37 2 l50.length s50 (l50.flatMap enc37)])
 obtain ⟨l59, hl59, h⟩ := bnd_some h
 refine Run.opX wantS_none rfl (ExG.append rfl rfl hH56 (i := 2) rfl enc37_len rfl enc37_ones appt31_31 rfl (len_slc (hH56.slc (i := 0) rfl enc37_len)) (first_slc (hH56.slc (i := 0) rfl enc37_len) (rdLe_rdRow _) enc37_len) hl59) ?_
 rintro s59 M61 (hH61 : Has Fr M61 [.vec 37 2 ([x53] : List S_api_Segment).length s55 (([x53] : List S_api_Segment).flatMap enc37), .obj b22 (.row 37 .whole [(.int .i64 c22.From), (.int .i64 c22.To)]), .vec 37 2 l59.length s59 (l59.flatMap enc37)])
 refine Run.opG wantS_none (ex_assign rfl) rfl ?_
 refine Run.opsEnd (Run.inBlock (Run.inBlock (Run.region ?_)))
 exact Run.pick [0, 3, 5, 6, 7] (ref06_add_2_ok F hd1 hhd1 v0 v6 v7 c22 l59 sv0 b22 s59 _ _ _ hv0 (hH61.pick [1, 2] rfl rfl) h)

def ref06_add_4 (F : Nat) (l74 : (List S_api_Segment)) : Option ((List S_api_Segment)) :=
 some l74

theorem ref06_add_4_ok (F : Nat) : ∀ (l74 : (List S_api_Segment)) (s74 : SV) (Fr : Rd) (M : Mem) (r : (List S_api_Segment)) (hH : Has Fr M [.vec 37 2 l74.length s74 (l74.flatMap enc37)]), ref06_add_4 F l74 = some r → Run Tryz.prog ⟨⟨87, [], none⟩, []⟩ 76 (ref06_add_post r) [(5, s74)] [itemC Tryz.prog 87 [1, 1, 1, 1, 1, 0] 0, codeC Tryz.prog 87 [1, 1, 1, 1, 1, 1]] M := by
 intro l74 s74 Fr M r hH h
 rw [ref06_add_4] at h
 refine Run.opG wantS_none (ex_move rfl) rfl <| Run.opG wantS_none (ex_assign rfl) rfl <| Run.opsEnd ?_
 cases h
 exact Run.ret Tryz.func87 rfl (res_tmp rfl res_nil) ⟨_, rfl, (hH.pick [0] rfl rfl).upF (none_le _)⟩

def ref06_add_1 (F : Nat) : Nat → (List S_api_Segment) → Bool → Int → S_api_Segment → (List S_api_Segment) → Option ((List S_api_Segment))
 | 0, _, _, _, _, _ => none
 | N + 1, v0, v6, v7, c22, l24 =>
  bif (decide (v7 < (v0.length : Int))) then
   bnd (idx v0 v7) fun x27 =>
   bif (decide (x27.To < c22.From)) then
    bnd (idx v0 v7) fun x31 =>
    bnd (apd 16 l24 ([x31] : List S_api_Segment)) fun l37 =>
    ref06_add_2 F (ref06_add_1 F N) v0 v6 v7 c22 l37
   else
    bnd (idx v0 v7) fun x40 =>
    bif (decide (c22.To < x40.From)) then
     bif (!v6) then
      bnd (apd 16 l24 ([c22] : List S_api_Segment)) fun l49 =>
      ref06_add_3 F (ref06_add_1 F N) v0 true v7 c22 l49
     else
      ref06_add_3 F (ref06_add_1 F N) v0 v6 v7 c22 l24
    else
     bnd (idx v0 v7) fun x62 =>
     bnd (idx v0 v7) fun x64 =>
     ref06_add_2 F (ref06_add_1 F N) v0 v6 v7 (S_api_Segment.mk (min c22.From x62.From) (max c22.To x64.To)) l24
  else
   bif (!v6) then
    bnd (apd 16 l24 ([c22] : List S_api_Segment)) fun l73 =>
    ref06_add_4 F l73
   else
    ref06_add_4 F l24

theorem ref06_add_1_ok (F : Nat) : ∀ (N : Nat), ∀ (v0 : (List S_api_Segment)) (v6 : Bool) (v7 : Int) (c22 : S_api_Segment) (l24 : (List S_api_Segment)) (sv0 : SV) (b22 : Pos) (s24 : SV) (Fr : Rd) (M : Mem) (r : (List S_api_Segment)) (hv0 : Slc Fr 2 (FlatR enc37) sv0 v0) (hH : Has Fr M [.obj b22 (.row 37 .whole [(.int .i64 c22.From), (.int .i64 c22.To)]), .vec 37 2 l24.length s24 (l24.flatMap enc37)]), ref06_add_1 F N v0 v6 v7 c22 l24 = some r → Run Tryz.prog ⟨⟨87, [], none⟩, []⟩ 76 (ref06_add_post r) [(0, sv0), (3, (.ptr b22 0)), (5, s24), (6, (.bool v6)), (7, (.int .i64 v7))] [codeC Tryz.prog 87 [1, 1, 1, 0, 1, 0, 0], loopC Tryz.prog 87 [1, 1, 1, 0, 1, 0, 0], .inBlock 0, codeC Tryz.prog 87 [1, 1, 1, 1]] M := by
 intro N
 induction N with
 | zero =>
  intro v0 v6 v7 c22 l24 sv0 b22 s24 Fr M r hv0 hH h
  simp [ref06_add_1] at h
 | succ N ih =>
  intro v0 v6 v7 c22 l24 sv0 b22 s24 Fr M r hv0 hH h
  rw [ref06_add_1] at h
  refine Run.seq (Run.seq (Run.region ?_))
  refine Run.opG wantS_none (ex_move rfl) rfl <| Run.opG wantS_none (ex_move rfl) rfl <| Run.opG wantS_none (ex_len' rfl hv0 lenk31) rfl <| Run.opG wantS_none (ex_lss rfl rfl) rfl <| Run.opsEnd ?_
  rcases btf ((decide (v7 < (v0.length : Int)))) with hc26 | hc26
  ·have h := bif_t hc26 h
   refine Run.condT' rfl hc26 ?_
   refine Run.skip (Run.seq (Run.block (Run.block (Run.seq ?_))))
   refine Run.drawG plan87_1_1_1_0_1_0_0_1_0_0_0_0 <| DrawG.fl rfl (ev_ex wantS_none (ex_move rfl)) rfl <| DrawG.fl rfl (ev_ex wantS_none (ex_move rfl)) rfl ?_
   obtain ⟨x27, hx27, h⟩ := bnd_some h
   obtain ⟨p27, o27, _, hx27, hp27, rfl⟩ := sl_elem (P := Tryz.prog) (t := 31) (kk := .i64) hv0 hx27 els31
   refine DrawG.fl rfl (ev_ex wantS_none (ex_elX rfl rfl hx27)) rfl ?_
   have hp28 := (hp27.fld (o := 1) rfl)
   refine DrawG.fl rfl (ev_ex wantS_none (ex_fieldAddr rfl off37_1)) rfl <| DrawG.fl rfl (ev_ex wantS_none (ex_load1 rfl (hH.ptrF hp28) rdLe_rfl agg3)) rfl <| DrawG.fl rfl (ev_ex wantS_none (ex_fieldAddr rfl off37_0)) rfl <| DrawG.fl rfl (ev_ex wantS_none (ex_load1 rfl (hH.cells (i := 0) rfl 0 rfl) rdLe_rfl agg3)) rfl <| DrawG.fl rfl (ev_ex wantS_none (ex_lss rfl rfl)) rfl <| DrawG.fl rfl (ev_ex wantS_none (ex_assign rfl)) rfl <| DrawG.sync <| DrawG.nil ?_
   rcases btf ((decide (x27.To < c22.From))) with hc29 | hc29
   ·have h := bif_t hc29 h
    refine Run.condT' rfl hc29 <| Run.region <| Run.opG wantS_none (ex_move rfl) rfl <| Run.opG wantS_none (ex_move rfl) rfl <| Run.opG wantS_none (ex_move rfl) rfl ?_
    obtain ⟨x31, hx31, h⟩ := bnd_some h
    obtain ⟨p31, o31, _, hx31, hp31, rfl⟩ := sl_elem (P := Tryz.prog) (t := 31) (kk := .i64) hv0 hx31 els31
    refine Run.opG wantS_none (ex_elX rfl rfl hx31) rfl <| Run.opG wantS_none (ex_loadA rfl (hH.ptrF hp31) rdLe_rfl agg37 rfl rfl rfl) rfl <| Run.opX wantS_none rfl (ExG.built (enc := enc37) (l := ([x31] : List S_api_Segment)) (z := 2) rfl elt31 rfl rfl rfl enc37_len hH) ?_
    rintro s33 M34 (hH34 : Has Fr M34 [.vec 37 2 ([x31] : List S_api_Segment).length s33 (([x31] : List S_api_Segment).flatMap enc37), .obj b22 (.row 37 .whole [(.int .i64 c22.From), (.int .i64 c22.To)]), .vec 37 2 l24.length s24 (l24.flatMap enc37)])
    obtain ⟨l37, hl37, h⟩ := bnd_some h
    refine Run.opX wantS_none rfl (ExG.append rfl rfl hH34 (i := 2) rfl enc37_len rfl enc37_ones appt31_31 rfl (len_slc (hH34.slc (i := 0) rfl enc37_len)) (first_slc (hH34.slc (i := 0) rfl enc37_len) (rdLe_rdRow _) enc37_len) hl37) ?_
    rintro s37 M39 (hH39 : Has Fr M39 [.vec 37 2 ([x31] : List S_api_Segment).length s33 (([x31] : List S_api_Segment).flatMap enc37), .obj b22 (.row 37 .whole [(.int .i64 c22.From), (.int .i64 c22.To)]), .vec 37 2 l37.length s37 (l37.flatMap enc37)])
    refine Run.opG wantS_none (ex_assign rfl) rfl ?_
    refine Run.opsEnd (Run.inBlock (Run.inBlock (Run.region ?_)))
    exact Run.pick [0, 3, 5, 6, 7] (ref06_add_2_ok F (ref06_add_1 F N) ih v0 v6 v7 c22 l37 sv0 b22 s37 _ _ _ hv0 (hH39.pick [1, 2] rfl rfl) h)
   ·have h := bif_f hc29 h
    refine Run.condF' rfl hc29 <| Run.seq <| Run.drawG plan87_1_1_1_0_1_0_0_1_0_0_0_1_1_0 <| DrawG.fl rfl (ev_ex wantS_none (ex_move rfl)) rfl <| DrawG.fl rfl (ev_ex wantS_none (ex_move rfl)) rfl ?_
    obtain ⟨x40, hx40, h⟩ := bnd_some h
    obtain ⟨p40, o40, _, hx40, hp40, rfl⟩ := sl_elem (P := Tryz.prog) (t := 31) (kk := .i64) hv0 hx40 els31
    refine DrawG.fl rfl (ev_ex wantS_none (ex_elX rfl rfl hx40)) rfl ?_
    have hp41 := (hp40.fld (o := 0) rfl)
    refine DrawG.fl rfl (ev_ex wantS_none (ex_fieldAddr rfl off37_0)) rfl <| DrawG.fl rfl (ev_ex wantS_none (ex_load1 rfl (hH.ptrF hp41) rdLe_rfl agg3)) rfl <| DrawG.fl rfl (ev_ex wantS_none (ex_fieldAddr rfl off37_1)) rfl <| DrawG.fl rfl (ev_ex wantS_none (ex_load1 rfl (hH.cells (i := 0) rfl 1 rfl) rdLe_rfl agg3)) rfl <| DrawG.fl rfl (ev_ex wantS_none (ex_gtr rfl rfl)) rfl <| DrawG.fl rfl (ev_ex wantS_none (ex_assign rfl)) rfl <| DrawG.sync <| DrawG.nil ?_
    rcases btf ((decide (c22.To < x40.From))) with hc42 | hc42
    ·have h := bif_t hc42 h
     refine Run.condT' rfl hc42 ?_
     refine Run.seq (Run.seq (Run.region ?_))
     refine Run.opG wantS_none (ex_move rfl) rfl <| Run.opG wantS_none (ex_not rfl) rfl <| Run.opsEnd ?_
     rcases btf ((!v6)) with hc43 | hc43
     ·have h := bif_t hc43 h
      refine Run.condT' rfl hc43 ?_
      refine Run.seq (Run.region ?_)
      refine Run.opG wantS_none (ex_move rfl) rfl <| Run.opG wantS_none (ex_loadA rfl (hH.cells (i := 0) rfl 0 rfl) rdLe_rfl agg37 rfl rfl rfl) rfl <| Run.opX wantS_none rfl (ExG.built (enc := enc37) (l := ([c22] : List S_api_Segment)) (z := 2) rfl elt31 rfl rfl rfl enc37_len hH) ?_
      rintro s45 M46 (hH46 : Has Fr M46 [.vec 37 2 ([c22] : List S_api_Segment).length s45 (([c22] : List S_api_Segment).flatMap enc37), .obj b22 (.row 37 .whole [(.int .i64 c22.From), (.int .i64 c22.To)]), .vec 37 2 l24.length s24 (l24.flatMap enc37)])
      obtain ⟨l49, hl49, h⟩ := bnd_some h
      refine Run.opX wantS_none rfl (ExG.append rfl rfl hH46 (i := 2) rfl enc37_len rfl enc37_ones appt31_31 rfl (len_slc (hH46.slc (i := 0) rfl enc37_len)) (first_slc (hH46.slc (i := 0) rfl enc37_len) (rdLe_rdRow _) enc37_len) hl49) ?_
      rintro s49 M51 (hH51 : Has Fr M51 [.vec 37 2 ([c22] : List S_api_Segment).length s45 (([c22] : List S_api_Segment).flatMap enc37), .obj b22 (.row 37 .whole [(.int .i64 c22.From), (.int .i64 c22.To)]), .vec 37 2 l49.length s49 (l49.flatMap enc37)])
      refine Run.opG wantS_none (ex_assign rfl) rfl ?_
      refine Run.opsEnd (Run.region ?_)
      refine Run.opG wantS_none (ex_assign rfl) rfl ?_
      refine Run.opsEnd (Run.region ?_)
      exact Run.pick [0, 3, 5, 6, 7] (ref06_add_3_ok F (ref06_add_1 F N) ih v0 true v7 c22 l49 sv0 b22 s49 _ _ _ hv0 (hH51.pick [1, 2] rfl rfl) h)
     ·have h := bif_f hc43 h
      refine Run.condF' rfl hc43 ?_
      refine Run.skip (Run.region ?_)
      exact Run.pick [0, 3, 5, 6, 7] (ref06_add_3_ok F (ref06_add_1 F N) ih v0 v6 v7 c22 l24 sv0 b22 s24 _ _ _ hv0 hH h)
    ·have h := bif_f hc42 h
     refine Run.condF' rfl hc42 <| Run.drawG plan87_1_1_1_0_1_0_0_1_0_0_0_1_1_1_1 <| DrawG.fl rfl (ev_ex wantS_none (ex_fieldAddr rfl off37_0)) rfl <| DrawG.fl rfl (ev_ex wantS_none (ex_load1 rfl (hH.cells (i := 0) rfl 0 rfl) rdLe_rfl agg3)) rfl <| DrawG.fl rfl (ev_ex wantS_none (ex_move rfl)) rfl <| DrawG.fl rfl (ev_ex wantS_none (ex_move rfl)) rfl ?_
     obtain ⟨x62, hx62, h⟩ := bnd_some h
     obtain ⟨p62, o62, _, hx62, hp62, rfl⟩ := sl_elem (P := Tryz.prog) (t := 31) (kk := .i64) hv0 hx62 els31
     refine DrawG.fl rfl (ev_ex wantS_none (ex_elX rfl rfl hx62)) rfl ?_
     have hp63 := (hp62.fld (o := 0) rfl)
     refine DrawG.fl rfl (ev_ex wantS_none (ex_fieldAddr rfl off37_0)) rfl <| DrawG.fl rfl (ev_ex wantS_none (ex_load1 rfl (hH.ptrF hp63) rdLe_rfl agg3)) rfl <| DrawG.fl rfl (ev_ex wantS_none (ex_min rfl rfl)) rfl <| DrawG.fl rfl (ev_ex wantS_none (ex_fieldAddr rfl off37_1)) rfl <| DrawG.fl rfl (ev_ex wantS_none (ex_load1 rfl (hH.cells (i := 0) rfl 1 rfl) rdLe_rfl agg3)) rfl <| DrawG.fl rfl (ev_ex wantS_none (ex_move rfl)) rfl <| DrawG.fl rfl (ev_ex wantS_none (ex_move rfl)) rfl ?_
     obtain ⟨x64, hx64, h⟩ := bnd_some h
     obtain ⟨p64, o64, _, hx64, hp64, rfl⟩ := sl_elem (P := Tryz.prog) (t := 31) (kk := .i64) hv0 hx64 els31
     refine DrawG.fl rfl (ev_ex wantS_none (ex_elX rfl rfl hx64)) rfl ?_
     have hp65 := (hp64.fld (o := 1) rfl)
     refine DrawG.fl rfl (ev_ex wantS_none (ex_fieldAddr rfl off37_1)) rfl <| DrawG.fl rfl (ev_ex wantS_none (ex_load1 rfl (hH.ptrF hp65) rdLe_rfl agg3)) rfl <| DrawG.fl rfl (ev_ex wantS_none (ex_max rfl rfl)) rfl <| DrawG.fl rfl (ev_ex wantS_none (ex_build (r := [(.int .i64 (min c22.From x62.From)), (.int .i64 (max c22.To x64.To))]) rfl zer37 pls37 rfl)) rfl <| DrawG.opX rfl wantS_none rfl (ExG.storeC (c' := [(.int .i64 (min c22.From x62.From)), (.int .i64 (max c22.To x64.To))]) rfl rfl rfl hH (i := 0) rfl sz37 rfl rfl rfl rfl rfl) ?_
     rintro _ M66 ⟨rfl, (hH66 : Has Fr M66 [.obj b22 (.row 37 .whole [(.int .i64 (min c22.From x62.From)), (.int .i64 (max c22.To x64.To))]), .vec 37 2 l24.length s24 (l24.flatMap enc37)])⟩
     refine ⟨st_nil, ?_⟩
     refine DrawG.sync <| DrawG.nil ?_
     refine Run.inBlock (Run.inBlock (Run.region ?_))
     exact Run.pick [0, 3, 5, 6, 7] (ref06_add_2_ok F (ref06_add_1 F N) ih v0 v6 v7 (S_api_Segment.mk (min c22.From x62.From) (max c22.To x64.To)) l24 sv0 b22 s24 _ _ _ hv0 hH66 h)
  ·have h := bif_f hc26 h
   refine Run.condF' rfl hc26 ?_
   refine Run.exit rfl (Run.seq (Run.seq (Run.region ?_)))
   refine Run.opG wantS_none (ex_move rfl) rfl <| Run.opG wantS_none (ex_not rfl) rfl <| Run.opsEnd ?_
   rcases btf ((!v6)) with hc67 | hc67
   ·have h := bif_t hc67 h
    refine Run.condT' rfl hc67 <| Run.region <| Run.opG wantS_none (ex_move rfl) rfl <| Run.opG wantS_none (ex_loadA rfl (hH.cells (i := 0) rfl 0 rfl) rdLe_rfl agg37 rfl rfl rfl) rfl <| Run.opX wantS_none rfl (ExG.built (enc := enc37) (l := ([c22] : List S_api_Segment)) (z := 2) rfl elt31 rfl rfl rfl enc37_len hH) ?_
    rintro s69 M70 (hH70 : Has Fr M70 [.vec 37 2 ([c22] : List S_api_Segment).length s69 (([c22] : List S_api_Segment).flatMap enc37), .obj b22 (.row 37 .whole [(.int .i64 c22.From), (.int .i64 c22.To)]), .vec 37 2 l24.length s24 (l24.flatMap enc37)])
    obtain ⟨l73, hl73, h⟩ := bnd_some h
    refine Run.opX wantS_none rfl (ExG.append rfl rfl hH70 (i := 2) rfl enc37_len rfl enc37_ones appt31_31 rfl (len_slc (hH70.slc (i := 0) rfl enc37_len)) (first_slc (hH70.slc (i := 0) rfl enc37_len) (rdLe_rdRow _) enc37_len) hl73) ?_
    rintro s73 M75 (hH75 : Has Fr M75 [.vec 37 2 ([c22] : List S_api_Segment).length s69 (([c22] : List S_api_Segment).flatMap enc37), .obj b22 (.row 37 .whole [(.int .i64 c22.From), (.int .i64 c22.To)]), .vec 37 2 l73.length s73 (l73.flatMap enc37)])
    refine Run.opG wantS_none (ex_assign rfl) rfl ?_
    refine Run.opsEnd (Run.seq (Run.region ?_))
    exact Run.pick [5] (ref06_add_4_ok F l73 s73 _ _ _ (hH75.pick [2] rfl rfl) h)
   ·have h := bif_f hc67 h
    refine Run.condF' rfl hc67 ?_
    refine Run.skip (Run.seq (Run.region ?_))
    exact Run.pick [5] (ref06_add_4_ok F l24 s24 _ _ _ (hH.pick [1] rfl rfl) h)

def ref06_add (F : Nat) (a0 : (List S_api_Segment)) (a1 : S_api_Segment) : Option ((List S_api_Segment)) :=
 ref06_add_1 F F a0 false (0 : Int) a1 ([] : List S_api_Segment)

theorem ref06_add_ok (F : Nat) (a0 : (List S_api_Segment)) (a1 : S_api_Segment) (s0 : SV) (r : (List S_api_Segment)) (M : Mem) (hs0 : Slc (rd M) 2 (FlatR enc37) s0 a0) (h : ref06_add F a0 a1 = some r) : CallsM Tryz.prog 87 [s0, (.agg [(.int .i64 a1.From), (.int .i64 a1.To)])] M (fun s M' => ∃ q1, s = q1 ∧ New M M' [.vec 37 2 r.length q1 (r.flatMap enc37)]) := by
 refine CallsM.fresh (Q := ref06_add_post r) Tryz.func87 rfl rfl ?_ (by rintro s Me ⟨q1, rfl, hx⟩ ha hw; exact ⟨_, rfl, New.of rfl hx ha hw⟩)
 rw [ref06_add] at h
 replace hs0 := hs0.mono (rdLe_frozen M) (fun _ _ h => h)
 have hH := Has.nil (frozen M)
 refine Run.seq (Run.region ?_)
 refine Run.opX wantS_none rfl (ExG.box rfl rfl hH) ?_
 rintro _ M23 ⟨b22, rfl, hH23⟩
 refine Run.opG wantS_none (ex_assign rfl) rfl ?_
 refine Run.opsEnd (Run.seq (Run.region ?_))
 refine Run.opG wantS_none (ex_assign rfl) rfl ?_
 refine Run.opsEnd (Run.seq (Run.region ?_))
 refine Run.opG wantS_none (ex_assign rfl) rfl ?_
 refine Run.opsEnd (Run.seq (Run.seq (Run.region ?_)))
 refine Run.opG wantS_none (ex_assign rfl) rfl ?_
 refine Run.opsEnd (Run.block (Run.loop ?_))
 have hH25 : Has (ro (frozen M)) M23 [.vec 37 2 ([] : List S_api_Segment).length .nils (([] : List S_api_Segment).flatMap enc37), .obj b22 (.row 37 .whole [(.int .i64 a1.From), (.int .i64 a1.To)])] := hH23.nils 37 2
 exact Run.pick [0, 3, 5, 6, 7] (ref06_add_1_ok F F a0 false (0 : Int) a1 ([] : List S_api_Segment) s0 b22 .nils _ _ _ hs0 (hH25.pick [1, 0] rfl rfl) h)

theorem mkk87 : makeK Tryz.prog 87 = none := by kernel_rfl
theorem cal87 : callable Tryz.prog 87 = true := by kernel_rfl
theorem mkk44 : makeK Tryz.prog 44 = none := by kernel_rfl
theorem cal44 : callable Tryz.prog 44 = true := by kernel_rfl
end Go.Ev.GlitchVetoes
