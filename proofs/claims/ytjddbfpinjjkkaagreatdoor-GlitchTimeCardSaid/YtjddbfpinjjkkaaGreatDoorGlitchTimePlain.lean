/- Plain functions that say what functions of the program come to, and proofs of it, written by a program of the verifier's own. -/
import Derived.Test.YtjddbfpinjjkkaaGreatDoorSort
import Derived.Test.YtjddbfpinjjkkaaGreatDoorEvL21
import Derived.Test.YtjddbfpinjjkkaaGreatDoorWorks
import Derived.KernelRfl
namespace Go.Ev.GlitchTime
open Go Go.Ev Go.Proofs
set_option maxRecDepth 100000
set_option linter.unusedVariables false

noncomputable def fixes : List (Nat × List SV) := Go.Proofs.YtjddbfpinjjkkaaGreatDoor.works.fixes
noncomputable def tb0 : Ent := fixE (5, intCells .u8 [0, 1, 28, 2, 29, 14, 24, 3, 30, 22, 20, 15, 25, 17, 4, 8, 31, 27, 13, 23, 21, 19, 16, 7, 26, 12, 18, 6, 11, 5, 10, 9])
noncomputable def tb1 : Ent := fixE (2, intCells .u8 [0, 1, 56, 2, 57, 49, 28, 3, 61, 58, 42, 50, 38, 29, 17, 4, 62, 47, 59, 36, 45, 43, 51, 22, 53, 39, 33, 30, 24, 18, 12, 5, 63, 55, 48, 27, 60, 41, 37, 16, 46, 35, 44, 21, 52, 32, 23, 11, 54, 26, 40, 15, 34, 20, 31, 10, 25, 14, 19, 9, 13, 8, 7, 6])
noncomputable def tb2 : Ent := fixE (4, intCells .u64 [1, 10, 100, 1000, 10000, 100000, 1000000, 10000000, 100000000, 1000000000, 10000000000, 100000000000, 1000000000000, 10000000000000, 100000000000000, 1000000000000000, 10000000000000000, 100000000000000000, 1000000000000000000, 10000000000000000000])
def works (_ : Nat) : Option Bool := some true
theorem fixH {Fr : Rd} {H : List Ent} {M : Mem} (hH : Has Fr M H) (h0 : tb0 ∈ H) (h1 : tb1 ∈ H) (h2 : tb2 ∈ H) : FixIn M fixes := by
  refine hH.fixIn fun x hx => ?_
  simp only [fixes, Go.Proofs.YtjddbfpinjjkkaaGreatDoor.works.fixes, List.mem_cons, List.not_mem_nil, or_false] at hx
  rcases hx with rfl | rfl | rfl
  · exact h0
  · exact h1
  · exact h2

theorem works_ok (F : Nat) (r : Bool) {Fr : Rd} {H : List Ent} (M : Mem) (hH : Has Fr M H) (h0 : tb0 ∈ H) (h1 : tb1 ∈ H) (h2 : tb2 ∈ H) (h : works F = some r) : CallsM Tryz.prog 11 [] M fun s M' => s = .bool r ∧ M' = M := by
  cases h
  refine CallsM.closedFix (n := 600) (l := Go.Proofs.YtjddbfpinjjkkaaGreatDoor.works.fixes) Go.Proofs.YtjddbfpinjjkkaaGreatDoor.works.below Go.Proofs.YtjddbfpinjjkkaaGreatDoor.works.plainF Go.Proofs.YtjddbfpinjjkkaaGreatDoor.works.works_true (hH.fixIn fun x hx => ?_)
  simp only [Go.Proofs.YtjddbfpinjjkkaaGreatDoor.works.fixes, List.mem_cons, List.not_mem_nil, or_false] at hx
  rcases hx with rfl | rfl | rfl
  · exact h0
  · exact h1
  · exact h2


structure S_api_Segment where
  From : Int
  To : Int

instance : Inhabited S_api_Segment := ⟨(S_api_Segment.mk (0 : Int) (0 : Int))⟩

structure S_api_Veto where
  Name : (List UInt8)
  Segments : (List S_api_Segment)

def enc37 (a : S_api_Segment) : List SV := [(.int .i64 a.From), (.int .i64 a.To)]
theorem enc37_len (a : S_api_Segment) : (enc37 a).length = 2 := rfl
theorem enc37_ones (a : S_api_Segment) : ones (enc37 a) = true := rfl
def rep35 (f : Rd) (cs : List SV) (a : S_api_Veto) : Prop := ∃ q1, cs = [(.str a.Name), q1] ∧ Slc f 2 (FlatR enc37) q1 a.Segments
theorem rep35_mo {f g : Rd} (h : RdLe f g) {cs : List SV} {a : S_api_Veto} : rep35 f cs a → rep35 g cs a := by
  rintro ⟨q1, rfl, h0⟩
  exact ⟨q1, rfl, h0.mono h (fun _ _ h => h)⟩
theorem rep35_len {f : Rd} {cs : List SV} {a : S_api_Veto} : rep35 f cs a → cs.length = 2 := by
  rintro ⟨_, rfl, h0⟩
  rfl
theorem rep35_ones {f : Rd} {cs : List SV} {a : S_api_Veto} : rep35 f cs a → ones cs = true := by
  rintro ⟨_, rfl, h0⟩
  exact (ones_cons rfl (ones_cons (slc_one h0) ones_nil))
abbrev ref00_Mod_post (r : Int) : SV → Mem → Prop := fun s _ => s = (.int .i64 r)

def ref00_Mod_1 (F : Nat) (v0 : Int) : Option (Int) :=
  some v0

theorem ref00_Mod_1_ok (F : Nat) : ∀ (v0 : Int) (Fr : Rd) (M : Mem) (r : Int) (hH : Has Fr M []), ref00_Mod_1 F v0 = some r → Run Tryz.prog ⟨⟨9, [], none⟩, []⟩ 16 (ref00_Mod_post r) [(0, (.int .i64 v0))] [itemC Tryz.prog 9 [1, 1, 1, 1, 0] 0, codeC Tryz.prog 9 [1, 1, 1, 1, 1]] M := by
  intro v0 Fr M r hH h
  rw [ref00_Mod_1] at h
  refine Run.opG wantS_none (ex_move rfl) rfl ?_
  refine Run.opG wantS_none (ex_assign rfl) rfl ?_
  refine Run.opsEnd ?_
  cases h
  exact Run.ret Tryz.func9 rfl (res_tmp rfl res_nil) rfl

def ref00_Mod (F : Nat) (a0 : Int) (a1 : Int) : Option (Int) :=
  bif (decide (a1 < (1 : Int))) then
    some (0 : Int)
  else
    bnd (nz a1) fun z23 =>
    bif (decide ((Int.tmod a0 a1) < (0 : Int))) then
      ref00_Mod_1 F (w64 ((Int.tmod a0 a1) + a1))
    else
      ref00_Mod_1 F (Int.tmod a0 a1)

theorem ref00_Mod_ok (F : Nat) (a0 : Int) (a1 : Int) (r : Int) (M : Mem) (h : ref00_Mod F a0 a1 = some r) : CallsM Tryz.prog 9 [(.int .i64 a0), (.int .i64 a1)] M (fun s M' => s = (.int .i64 r) ∧ M' = M) := by
  refine CallsM.plain Tryz.func9 rfl rfl rfl (show Run _ _ _ (ref00_Mod_post r) _ _ _ from ?_)
  rw [ref00_Mod] at h
  have hH := Has.nil (frozen M)
  refine Run.seq (Run.region ?_)
  refine Run.opG wantS_none (ex_assign rfl) rfl ?_
  refine Run.opsEnd (Run.seq (Run.seq (Run.region ?_)))
  refine Run.opG wantS_none (ex_move rfl) rfl ?_
  refine Run.opG wantS_none (ex_lss rfl rfl) rfl ?_
  refine Run.opsEnd ?_
  rcases btf ((decide (a1 < (1 : Int)))) with hc21 | hc21
  · have h := bif_t hc21 h
    refine Run.condT' rfl hc21 ?_
    refine Run.seq (Run.region ?_)
    refine Run.opG wantS_none (ex_assign rfl) rfl ?_
    refine Run.opsEnd ?_
    cases h
    exact Run.ret Tryz.func9 rfl (res_tmp rfl res_nil) rfl
  · have h := bif_f hc21 h
    refine Run.condF' rfl hc21 ?_
    refine Run.skip (Run.seq (Run.region ?_))
    refine Run.opG wantS_none (ex_move rfl) rfl ?_
    refine Run.opG wantS_none (ex_move rfl) rfl ?_
    obtain ⟨z23, hz23, h⟩ := bnd_some h
    refine Run.opG wantS_none (ex_rem' rfl rfl hz23) rfl ?_
    refine Run.opG wantS_none (ex_assign rfl) rfl ?_
    refine Run.opsEnd (Run.seq (Run.seq (Run.region ?_)))
    refine Run.opG wantS_none (ex_move rfl) rfl ?_
    refine Run.opG wantS_none (ex_lss rfl rfl) rfl ?_
    refine Run.opsEnd ?_
    rcases btf ((decide ((Int.tmod a0 a1) < (0 : Int)))) with hc24 | hc24
    · have h := bif_t hc24 h
      refine Run.condT' rfl hc24 ?_
      refine Run.region ?_
      refine Run.opG wantS_none (ex_move rfl) rfl ?_
      refine Run.opG wantS_none (ex_move rfl) rfl ?_
      refine Run.opG wantS_none (ex_add rfl rfl) rfl ?_
      refine Run.opG wantS_none (ex_assign rfl) rfl ?_
      refine Run.opsEnd (Run.seq (Run.region ?_))
      exact Run.pick [0] (ref00_Mod_1_ok F (w64 ((Int.tmod a0 a1) + a1)) _ _ _ hH h)
    · have h := bif_f hc24 h
      refine Run.condF' rfl hc24 ?_
      refine Run.skip (Run.seq (Run.region ?_))
      exact Run.pick [0] (ref00_Mod_1_ok F (Int.tmod a0 a1) _ _ _ hH h)

theorem mkk9 : makeK Tryz.prog 9 = none := by kernel_rfl
theorem cal9 : callable Tryz.prog 9 = true := by kernel_rfl
theorem lenk22 : lenK Tryz.prog 22 = some .sl := by kernel_rfl
def kv9 (a : (List UInt8)) : SV := (.str a)
def kv4 (a : Bool) : SV := (.bool a)
theorem kk9 : keyK Tryz.prog 9 = some .str := by kernel_rfl
theorem kok109 : ∀ a, keyOK Tryz.prog 8 9 (kv9 a) = true := fun a => congrFun (show (fun a => keyOK Tryz.prog 8 9 (kv9 a)) = fun _ => true by kernel_rfl) a
theorem keq109 : ∀ a b, keyEq Tryz.prog 9 (kv9 a) (kv9 b) = some (eqB a b) := (fun a b => keyEq_string kk9)
theorem khe109 : ∀ a b, eqB a b = true → a = b := (fun a b h => eq_of_beq h)
theorem kzr109 : zeroS Tryz.prog 4 = some (kv4 false) := by kernel_rfl
theorem kmt109 : mapT Tryz.prog 109 = some (9, 4) := by kernel_rfl
theorem els22 : elems Tryz.prog 22 = some (.sl 2) := by kernel_rfl
theorem agg35 : aggSize Tryz.prog 35 = some (some 2) := by kernel_rfl
theorem zer35 : zerosOf Tryz.prog 35 = some [(.str []), .nils] := by kernel_rfl
theorem sz35 : szOf Tryz.prog 35 = some 2 := by kernel_rfl
theorem off35_0 : fieldOff Tryz.prog 35 0 = some 0 := by kernel_rfl
theorem agg9 : aggSize Tryz.prog 9 = some none := by kernel_rfl
theorem lenk9 : lenK Tryz.prog 9 = some .str := by kernel_rfl
theorem uvk9_146 : uvK Tryz.prog 9 146 = none := by kernel_rfl
theorem cvk9_146 : cvK Tryz.prog 9 146 = some (.bytes 5) := by kernel_rfl
def enc5 (a : Int) : List SV := [(.int .u8 a)]
theorem enc5_len (a : Int) : (enc5 a).length = 1 := rfl
theorem enc5_ones (a : Int) : ones (enc5 a) = true := rfl
theorem lenk146 : lenK Tryz.prog 146 = some .sl := by kernel_rfl
theorem els146 : elems Tryz.prog 146 = some (.sl 1) := by kernel_rfl
theorem agg5 : aggSize Tryz.prog 5 = some none := by kernel_rfl
abbrev num_IsName_post (r : Bool) : SV → Mem → Prop := fun s _ => s = (.bool r)

def num_IsName_7 (F : Nat) (hd2 : (List Int) → Int → Int → Option (Bool)) (v16 : (List Int)) (v17 : Int) (v18 : Int) (v48 : Bool) : Option (Bool) :=
  bif v48 then
    some false
  else
    hd2 v16 v17 (w64 (v18 + (1 : Int)))

theorem num_IsName_7_ok (F : Nat) (hd2 : (List Int) → Int → Int → Option (Bool)) (hhd2 : ∀ (v16 : (List Int)) (v17 : Int) (v18 : Int) (sv16 : SV) (Fr : Rd) (M : Mem) (r : Bool) (hv16 : Slc Fr 1 (FlatR enc5) sv16 v16) (hH : Has Fr M []), hd2 v16 v17 v18 = some r → Run Tryz.prog ⟨⟨73, [], none⟩, []⟩ 50 (num_IsName_post r) [(16, sv16), (17, (.int .i64 v17)), (18, (.int .i64 v18))] [codeC Tryz.prog 73 [1, 1, 0, 1, 0, 0], loopC Tryz.prog 73 [1, 1, 0, 1, 0, 0], .inBlock 0, codeC Tryz.prog 73 [1, 1, 1]] M) : ∀ (v16 : (List Int)) (v17 : Int) (v18 : Int) (v48 : Bool) (sv16 : SV) (Fr : Rd) (M : Mem) (r : Bool) (hv16 : Slc Fr 1 (FlatR enc5) sv16 v16) (hH : Has Fr M []), num_IsName_7 F hd2 v16 v17 v18 v48 = some r → Run Tryz.prog ⟨⟨73, [], none⟩, []⟩ 50 (num_IsName_post r) [(16, sv16), (17, (.int .i64 v17)), (18, (.int .i64 v18)), (48, (.bool v48))] [codeC Tryz.prog 73 [1, 1, 0, 1, 0, 0, 1, 1, 0, 0, 1, 1, 1, 1], .inBlock 1, codeC Tryz.prog 73 [1, 1, 0, 1, 0, 0, 1, 1, 1], loopC Tryz.prog 73 [1, 1, 0, 1, 0, 0], .inBlock 0, codeC Tryz.prog 73 [1, 1, 1]] M := by
  intro v16 v17 v18 v48 sv16 Fr M r hv16 hH h
  rw [num_IsName_7] at h
  rcases btf (v48) with hc37 | hc37
  · have h := bif_t hc37 h
    refine Run.condT' rfl hc37 ?_
    refine Run.seq (Run.region ?_)
    refine Run.opG wantS_none (ex_assign rfl) rfl ?_
    refine Run.opsEnd ?_
    cases h
    exact Run.ret Tryz.func73 rfl (res_tmp rfl res_nil) rfl
  · have h := bif_f hc37 h
    refine Run.condF' rfl hc37 ?_
    refine Run.skip (Run.inBlock (Run.region ?_))
    refine Run.opG wantS_none (ex_add rfl rfl) rfl ?_
    refine Run.opG wantS_none (ex_move rfl) rfl ?_
    refine Run.opsEnd (Run.inLoop ?_)
    exact Run.pick [16, 17, 18] (hhd2 v16 v17 (w64 (v18 + (1 : Int))) sv16 _ _ _ hv16 hH h)

def num_IsName_6 (F : Nat) (hd2 : (List Int) → Int → Int → Option (Bool)) (v16 : (List Int)) (v17 : Int) (v18 : Int) (v41 : Bool) (v46 : Bool) : Option (Bool) :=
  bif v41 then
    num_IsName_7 F hd2 v16 v17 v18 (!v46)
  else
    num_IsName_7 F hd2 v16 v17 v18 false

theorem num_IsName_6_ok (F : Nat) (hd2 : (List Int) → Int → Int → Option (Bool)) (hhd2 : ∀ (v16 : (List Int)) (v17 : Int) (v18 : Int) (sv16 : SV) (Fr : Rd) (M : Mem) (r : Bool) (hv16 : Slc Fr 1 (FlatR enc5) sv16 v16) (hH : Has Fr M []), hd2 v16 v17 v18 = some r → Run Tryz.prog ⟨⟨73, [], none⟩, []⟩ 50 (num_IsName_post r) [(16, sv16), (17, (.int .i64 v17)), (18, (.int .i64 v18))] [codeC Tryz.prog 73 [1, 1, 0, 1, 0, 0], loopC Tryz.prog 73 [1, 1, 0, 1, 0, 0], .inBlock 0, codeC Tryz.prog 73 [1, 1, 1]] M) : ∀ (v16 : (List Int)) (v17 : Int) (v18 : Int) (v41 : Bool) (v46 : Bool) (sv16 : SV) (Fr : Rd) (M : Mem) (r : Bool) (hv16 : Slc Fr 1 (FlatR enc5) sv16 v16) (hH : Has Fr M []), num_IsName_6 F hd2 v16 v17 v18 v41 v46 = some r → Run Tryz.prog ⟨⟨73, [], none⟩, []⟩ 50 (num_IsName_post r) [(16, sv16), (17, (.int .i64 v17)), (18, (.int .i64 v18)), (41, (.bool v41)), (46, (.bool v46))] [itemC Tryz.prog 73 [1, 1, 0, 1, 0, 0, 1, 1, 0, 0, 1, 1, 1, 0] 8, codeC Tryz.prog 73 [1, 1, 0, 1, 0, 0, 1, 1, 0, 0, 1, 1, 1, 1], .inBlock 1, codeC Tryz.prog 73 [1, 1, 0, 1, 0, 0, 1, 1, 1], loopC Tryz.prog 73 [1, 1, 0, 1, 0, 0], .inBlock 0, codeC Tryz.prog 73 [1, 1, 1]] M := by
  intro v16 v17 v18 v41 v46 sv16 Fr M r hv16 hH h
  rw [num_IsName_6] at h
  rcases btf (v41) with hc36 | hc36
  · have h := bif_t hc36 h
    refine Run.opG (wantS_yes' rfl rfl hc36) (ex_not rfl) rfl ?_
    refine Run.opG wantS_none (ex_pickT' rfl hc36 rfl rfl) rfl ?_
    refine Run.opsEnd ?_
    exact Run.pick [16, 17, 18, 48] (num_IsName_7_ok F hd2 hhd2 v16 v17 v18 (!v46) sv16 _ _ _ hv16 hH h)
  · have h := bif_f hc36 h
    refine Run.no (wantS_not' rfl rfl hc36) rfl ?_
    refine Run.opG wantS_none (ex_pickF' rfl hc36 rfl rfl) rfl ?_
    refine Run.opsEnd ?_
    exact Run.pick [16, 17, 18, 48] (num_IsName_7_ok F hd2 hhd2 v16 v17 v18 false sv16 _ _ _ hv16 hH h)

def num_IsName_8 (F : Nat) (hd2 : (List Int) → Int → Int → Option (Bool)) (v16 : (List Int)) (v17 : Int) (v18 : Int) (v41 : Bool) : Option (Bool) :=
  bif v41 then
    none
  else
    num_IsName_7 F hd2 v16 v17 v18 false

theorem num_IsName_8_ok (F : Nat) (hd2 : (List Int) → Int → Int → Option (Bool)) (hhd2 : ∀ (v16 : (List Int)) (v17 : Int) (v18 : Int) (sv16 : SV) (Fr : Rd) (M : Mem) (r : Bool) (hv16 : Slc Fr 1 (FlatR enc5) sv16 v16) (hH : Has Fr M []), hd2 v16 v17 v18 = some r → Run Tryz.prog ⟨⟨73, [], none⟩, []⟩ 50 (num_IsName_post r) [(16, sv16), (17, (.int .i64 v17)), (18, (.int .i64 v18))] [codeC Tryz.prog 73 [1, 1, 0, 1, 0, 0], loopC Tryz.prog 73 [1, 1, 0, 1, 0, 0], .inBlock 0, codeC Tryz.prog 73 [1, 1, 1]] M) : ∀ (v16 : (List Int)) (v17 : Int) (v18 : Int) (v41 : Bool) (sv16 : SV) (Fr : Rd) (M : Mem) (r : Bool) (hv16 : Slc Fr 1 (FlatR enc5) sv16 v16) (hH : Has Fr M []), num_IsName_8 F hd2 v16 v17 v18 v41 = some r → Run Tryz.prog ⟨⟨73, [], none⟩, []⟩ 50 (num_IsName_post r) [(16, sv16), (17, (.int .i64 v17)), (18, (.int .i64 v18)), (41, (.bool v41)), (46, (.tuple []))] [itemC Tryz.prog 73 [1, 1, 0, 1, 0, 0, 1, 1, 0, 0, 1, 1, 1, 0] 8, codeC Tryz.prog 73 [1, 1, 0, 1, 0, 0, 1, 1, 0, 0, 1, 1, 1, 1], .inBlock 1, codeC Tryz.prog 73 [1, 1, 0, 1, 0, 0, 1, 1, 1], loopC Tryz.prog 73 [1, 1, 0, 1, 0, 0], .inBlock 0, codeC Tryz.prog 73 [1, 1, 1]] M := by
  intro v16 v17 v18 v41 sv16 Fr M r hv16 hH h
  rw [num_IsName_8] at h
  rcases btf (v41) with hc38 | hc38
  · have h := bif_t hc38 h
    cases h
  · have h := bif_f hc38 h
    refine Run.no (wantS_not' rfl rfl hc38) rfl ?_
    refine Run.opG wantS_none (ex_pickF' rfl hc38 rfl rfl) rfl ?_
    refine Run.opsEnd ?_
    exact Run.pick [16, 17, 18, 48] (num_IsName_7_ok F hd2 hhd2 v16 v17 v18 false sv16 _ _ _ hv16 hH h)

def num_IsName_5 (F : Nat) (hd2 : (List Int) → Int → Int → Option (Bool)) (v3 : Int) (v5 : Bool) (v16 : (List Int)) (v17 : Int) (v18 : Int) (v38 : Bool) : Option (Bool) :=
  bif (!v5) then
    bif v38 then
      num_IsName_6 F hd2 v16 v17 v18 (!v5) (decide ((0 : Int) < v3))
    else
      num_IsName_6 F hd2 v16 v17 v18 (!v5) false
  else
    num_IsName_8 F hd2 v16 v17 v18 (!v5)

theorem num_IsName_5_ok (F : Nat) (hd2 : (List Int) → Int → Int → Option (Bool)) (hhd2 : ∀ (v16 : (List Int)) (v17 : Int) (v18 : Int) (sv16 : SV) (Fr : Rd) (M : Mem) (r : Bool) (hv16 : Slc Fr 1 (FlatR enc5) sv16 v16) (hH : Has Fr M []), hd2 v16 v17 v18 = some r → Run Tryz.prog ⟨⟨73, [], none⟩, []⟩ 50 (num_IsName_post r) [(16, sv16), (17, (.int .i64 v17)), (18, (.int .i64 v18))] [codeC Tryz.prog 73 [1, 1, 0, 1, 0, 0], loopC Tryz.prog 73 [1, 1, 0, 1, 0, 0], .inBlock 0, codeC Tryz.prog 73 [1, 1, 1]] M) : ∀ (v3 : Int) (v5 : Bool) (v16 : (List Int)) (v17 : Int) (v18 : Int) (v38 : Bool) (sv16 : SV) (Fr : Rd) (M : Mem) (r : Bool) (hv16 : Slc Fr 1 (FlatR enc5) sv16 v16) (hH : Has Fr M []), num_IsName_5 F hd2 v3 v5 v16 v17 v18 v38 = some r → Run Tryz.prog ⟨⟨73, [], none⟩, []⟩ 50 (num_IsName_post r) [(3, (.int .i64 v3)), (5, (.bool v5)), (16, sv16), (17, (.int .i64 v17)), (18, (.int .i64 v18)), (38, (.bool v38))] [itemC Tryz.prog 73 [1, 1, 0, 1, 0, 0, 1, 1, 0, 0, 1, 1, 0] 10, codeC Tryz.prog 73 [1, 1, 0, 1, 0, 0, 1, 1, 0, 0, 1, 1, 1], .inBlock 1, codeC Tryz.prog 73 [1, 1, 0, 1, 0, 0, 1, 1, 1], loopC Tryz.prog 73 [1, 1, 0, 1, 0, 0], .inBlock 0, codeC Tryz.prog 73 [1, 1, 1]] M := by
  intro v3 v5 v16 v17 v18 v38 sv16 Fr M r hv16 hH h
  rw [num_IsName_5] at h
  refine Run.opG wantS_none (ex_assign rfl) rfl ?_
  refine Run.opsEnd (Run.seq (Run.region ?_))
  refine Run.opG wantS_none (ex_move rfl) rfl ?_
  refine Run.opG wantS_none (ex_not rfl) rfl ?_
  refine Run.opG wantS_none (ex_move rfl) rfl ?_
  rcases btf ((!v5)) with hc34 | hc34
  · have h := bif_t hc34 h
    refine Run.opG (wantS_yes' rfl rfl hc34) (ex_move rfl) rfl ?_
    refine Run.opG (wantS_yes' rfl rfl hc34) (ex_move rfl) rfl ?_
    rcases btf (v38) with hc35 | hc35
    · have h := bif_t hc35 h
      refine Run.opG (wantS_yes' rfl rfl hc35) (ex_move rfl) rfl ?_
      refine Run.opG (wantS_yes' rfl rfl hc35) (ex_gtr rfl rfl) rfl ?_
      refine Run.opG (wantS_yes' rfl rfl hc34) (ex_pickT' rfl hc35 rfl rfl) rfl ?_
      exact Run.pick [16, 17, 18, 41, 46] (num_IsName_6_ok F hd2 hhd2 v16 v17 v18 (!v5) (decide ((0 : Int) < v3)) sv16 _ _ _ hv16 hH h)
    · have h := bif_f hc35 h
      refine Run.no (wantS_not' rfl rfl hc35) rfl ?_
      refine Run.no (wantS_not' rfl rfl hc35) rfl ?_
      refine Run.opG (wantS_yes' rfl rfl hc34) (ex_pickF' rfl hc35 rfl rfl) rfl ?_
      exact Run.pick [16, 17, 18, 41, 46] (num_IsName_6_ok F hd2 hhd2 v16 v17 v18 (!v5) false sv16 _ _ _ hv16 hH h)
  · have h := bif_f hc34 h
    refine Run.no (wantS_not' rfl rfl hc34) rfl ?_
    refine Run.no (wantS_not' rfl rfl hc34) rfl ?_
    refine Run.no (wantS_skip rfl rfl) rfl ?_
    refine Run.no (wantS_skip rfl rfl) rfl ?_
    refine Run.no (wantS_not' rfl rfl hc34) rfl ?_
    exact Run.pick [16, 17, 18, 41, 46] (num_IsName_8_ok F hd2 hhd2 v16 v17 v18 (!v5) sv16 _ _ _ hv16 hH h)

def num_IsName_4 (F : Nat) (hd2 : (List Int) → Int → Int → Option (Bool)) (v3 : Int) (v4 : Int) (v5 : Bool) (v16 : (List Int)) (v17 : Int) (v18 : Int) (v34 : Bool) : Option (Bool) :=
  bif v34 then
    num_IsName_5 F hd2 v3 v5 v16 v17 v18 true
  else
    num_IsName_5 F hd2 v3 v5 v16 v17 v18 (v4 == (95 : Int))

theorem num_IsName_4_ok (F : Nat) (hd2 : (List Int) → Int → Int → Option (Bool)) (hhd2 : ∀ (v16 : (List Int)) (v17 : Int) (v18 : Int) (sv16 : SV) (Fr : Rd) (M : Mem) (r : Bool) (hv16 : Slc Fr 1 (FlatR enc5) sv16 v16) (hH : Has Fr M []), hd2 v16 v17 v18 = some r → Run Tryz.prog ⟨⟨73, [], none⟩, []⟩ 50 (num_IsName_post r) [(16, sv16), (17, (.int .i64 v17)), (18, (.int .i64 v18))] [codeC Tryz.prog 73 [1, 1, 0, 1, 0, 0], loopC Tryz.prog 73 [1, 1, 0, 1, 0, 0], .inBlock 0, codeC Tryz.prog 73 [1, 1, 1]] M) : ∀ (v3 : Int) (v4 : Int) (v5 : Bool) (v16 : (List Int)) (v17 : Int) (v18 : Int) (v34 : Bool) (sv16 : SV) (Fr : Rd) (M : Mem) (r : Bool) (hv16 : Slc Fr 1 (FlatR enc5) sv16 v16) (hH : Has Fr M []), num_IsName_4 F hd2 v3 v4 v5 v16 v17 v18 v34 = some r → Run Tryz.prog ⟨⟨73, [], none⟩, []⟩ 50 (num_IsName_post r) [(3, (.int .i64 v3)), (4, (.int .u8 v4)), (5, (.bool v5)), (16, sv16), (17, (.int .i64 v17)), (18, (.int .i64 v18)), (34, (.bool v34))] [itemC Tryz.prog 73 [1, 1, 0, 1, 0, 0, 1, 1, 0, 0, 1, 1, 0] 6, codeC Tryz.prog 73 [1, 1, 0, 1, 0, 0, 1, 1, 0, 0, 1, 1, 1], .inBlock 1, codeC Tryz.prog 73 [1, 1, 0, 1, 0, 0, 1, 1, 1], loopC Tryz.prog 73 [1, 1, 0, 1, 0, 0], .inBlock 0, codeC Tryz.prog 73 [1, 1, 1]] M := by
  intro v3 v4 v5 v16 v17 v18 v34 sv16 Fr M r hv16 hH h
  rw [num_IsName_4] at h
  refine Run.opG wantS_none (ex_move rfl) rfl ?_
  rcases btf (v34) with hc33 | hc33
  · have h := bif_t hc33 h
    refine Run.no (wantS_not' rfl rfl hc33) rfl ?_
    refine Run.no (wantS_not' rfl rfl hc33) rfl ?_
    refine Run.opG wantS_none (ex_pickT' rfl hc33 rfl rfl) rfl ?_
    exact Run.pick [3, 5, 16, 17, 18, 38] (num_IsName_5_ok F hd2 hhd2 v3 v5 v16 v17 v18 true sv16 _ _ _ hv16 hH h)
  · have h := bif_f hc33 h
    refine Run.opG (wantS_yes' rfl rfl hc33) (ex_move rfl) rfl ?_
    refine Run.opG (wantS_yes' rfl rfl hc33) (ex_eql rfl rfl) rfl ?_
    refine Run.opG wantS_none (ex_pickF' rfl hc33 rfl rfl) rfl ?_
    exact Run.pick [3, 5, 16, 17, 18, 38] (num_IsName_5_ok F hd2 hhd2 v3 v5 v16 v17 v18 (v4 == (95 : Int)) sv16 _ _ _ hv16 hH h)

def num_IsName_3 (F : Nat) (hd2 : (List Int) → Int → Int → Option (Bool)) (v3 : Int) (v4 : Int) (v16 : (List Int)) (v17 : Int) (v18 : Int) (v28 : Bool) : Option (Bool) :=
  bif (decide ((48 : Int) ≤ v4)) then
    num_IsName_4 F hd2 v3 v4 v28 v16 v17 v18 (decide (v4 ≤ (57 : Int)))
  else
    num_IsName_4 F hd2 v3 v4 v28 v16 v17 v18 false

theorem num_IsName_3_ok (F : Nat) (hd2 : (List Int) → Int → Int → Option (Bool)) (hhd2 : ∀ (v16 : (List Int)) (v17 : Int) (v18 : Int) (sv16 : SV) (Fr : Rd) (M : Mem) (r : Bool) (hv16 : Slc Fr 1 (FlatR enc5) sv16 v16) (hH : Has Fr M []), hd2 v16 v17 v18 = some r → Run Tryz.prog ⟨⟨73, [], none⟩, []⟩ 50 (num_IsName_post r) [(16, sv16), (17, (.int .i64 v17)), (18, (.int .i64 v18))] [codeC Tryz.prog 73 [1, 1, 0, 1, 0, 0], loopC Tryz.prog 73 [1, 1, 0, 1, 0, 0], .inBlock 0, codeC Tryz.prog 73 [1, 1, 1]] M) : ∀ (v3 : Int) (v4 : Int) (v16 : (List Int)) (v17 : Int) (v18 : Int) (v28 : Bool) (sv16 : SV) (Fr : Rd) (M : Mem) (r : Bool) (hv16 : Slc Fr 1 (FlatR enc5) sv16 v16) (hH : Has Fr M []), num_IsName_3 F hd2 v3 v4 v16 v17 v18 v28 = some r → Run Tryz.prog ⟨⟨73, [], none⟩, []⟩ 50 (num_IsName_post r) [(3, (.int .i64 v3)), (4, (.int .u8 v4)), (16, sv16), (17, (.int .i64 v17)), (18, (.int .i64 v18)), (28, (.bool v28))] [itemC Tryz.prog 73 [1, 1, 0, 1, 0, 0, 1, 1, 0, 0, 1, 0] 6, codeC Tryz.prog 73 [1, 1, 0, 1, 0, 0, 1, 1, 0, 0, 1, 1], .inBlock 1, codeC Tryz.prog 73 [1, 1, 0, 1, 0, 0, 1, 1, 1], loopC Tryz.prog 73 [1, 1, 0, 1, 0, 0], .inBlock 0, codeC Tryz.prog 73 [1, 1, 1]] M := by
  intro v3 v4 v16 v17 v18 v28 sv16 Fr M r hv16 hH h
  rw [num_IsName_3] at h
  refine Run.opG wantS_none (ex_assign rfl) rfl ?_
  refine Run.opsEnd (Run.seq (Run.region ?_))
  refine Run.opG wantS_none (ex_move rfl) rfl ?_
  refine Run.opG wantS_none (ex_geq rfl rfl) rfl ?_
  refine Run.opG wantS_none (ex_move rfl) rfl ?_
  rcases btf ((decide ((48 : Int) ≤ v4))) with hc32 | hc32
  · have h := bif_t hc32 h
    refine Run.opG (wantS_yes' rfl rfl hc32) (ex_move rfl) rfl ?_
    refine Run.opG (wantS_yes' rfl rfl hc32) (ex_leq rfl rfl) rfl ?_
    refine Run.opG wantS_none (ex_pickT' rfl hc32 rfl rfl) rfl ?_
    exact Run.pick [3, 4, 5, 16, 17, 18, 34] (num_IsName_4_ok F hd2 hhd2 v3 v4 v28 v16 v17 v18 (decide (v4 ≤ (57 : Int))) sv16 _ _ _ hv16 hH h)
  · have h := bif_f hc32 h
    refine Run.no (wantS_not' rfl rfl hc32) rfl ?_
    refine Run.no (wantS_not' rfl rfl hc32) rfl ?_
    refine Run.opG wantS_none (ex_pickF' rfl hc32 rfl rfl) rfl ?_
    exact Run.pick [3, 4, 5, 16, 17, 18, 34] (num_IsName_4_ok F hd2 hhd2 v3 v4 v28 v16 v17 v18 false sv16 _ _ _ hv16 hH h)

def num_IsName_2 (F : Nat) : Nat → (List Int) → Int → Int → Option (Bool)
  | 0, _, _, _ => none
  | N + 1, v16, v17, v18 =>
    bif (decide (v18 < v17)) then
      bnd (idx v16 v18) fun x30 =>
      bif (decide ((97 : Int) ≤ x30)) then
        num_IsName_3 F (num_IsName_2 F N) v18 x30 v16 v17 v18 (decide (x30 ≤ (122 : Int)))
      else
        num_IsName_3 F (num_IsName_2 F N) v18 x30 v16 v17 v18 false
    else
      some true

theorem num_IsName_2_ok (F : Nat) : ∀ (N : Nat), ∀ (v16 : (List Int)) (v17 : Int) (v18 : Int) (sv16 : SV) (Fr : Rd) (M : Mem) (r : Bool) (hv16 : Slc Fr 1 (FlatR enc5) sv16 v16) (hH : Has Fr M []), num_IsName_2 F N v16 v17 v18 = some r → Run Tryz.prog ⟨⟨73, [], none⟩, []⟩ 50 (num_IsName_post r) [(16, sv16), (17, (.int .i64 v17)), (18, (.int .i64 v18))] [codeC Tryz.prog 73 [1, 1, 0, 1, 0, 0], loopC Tryz.prog 73 [1, 1, 0, 1, 0, 0], .inBlock 0, codeC Tryz.prog 73 [1, 1, 1]] M := by
  intro N
  induction N with
  | zero =>
    intro v16 v17 v18 sv16 Fr M r hv16 hH h
    simp [num_IsName_2] at h
  | succ N ih =>
    intro v16 v17 v18 sv16 Fr M r hv16 hH h
    rw [num_IsName_2] at h
    refine Run.seq (Run.region ?_)
    refine Run.opG wantS_none (ex_lss rfl rfl) rfl ?_
    refine Run.opsEnd (Run.seq ?_)
    rcases btf ((decide (v18 < v17))) with hc28 | hc28
    · have h := bif_t hc28 h
      refine Run.condT' rfl hc28 ?_
      refine Run.skip (Run.seq (Run.block (Run.seq (Run.region ?_))))
      refine Run.opG wantS_none (ex_move rfl) rfl ?_
      obtain ⟨x30, hx30, h⟩ := bnd_some h
      obtain ⟨p30, o30, _, hx30, hp30, rfl⟩ := sl_elem (P := Tryz.prog) (t := 146) (kk := .i64) hv16 hx30 els146
      refine Run.opG wantS_none (ex_elX rfl rfl hx30) rfl ?_
      refine Run.opG wantS_none (ex_load1 rfl (hH.ptrF hp30) rdLe_rfl agg5) rfl ?_
      refine Run.opG wantS_none (ex_assign rfl) rfl ?_
      refine Run.opG wantS_none (ex_assign rfl) rfl ?_
      refine Run.opsEnd (Run.seq (Run.region ?_))
      refine Run.opG wantS_none (ex_move rfl) rfl ?_
      refine Run.opG wantS_none (ex_geq rfl rfl) rfl ?_
      refine Run.opG wantS_none (ex_move rfl) rfl ?_
      rcases btf ((decide ((97 : Int) ≤ x30))) with hc31 | hc31
      · have h := bif_t hc31 h
        refine Run.opG (wantS_yes' rfl rfl hc31) (ex_move rfl) rfl ?_
        refine Run.opG (wantS_yes' rfl rfl hc31) (ex_leq rfl rfl) rfl ?_
        refine Run.opG wantS_none (ex_pickT' rfl hc31 rfl rfl) rfl ?_
        exact Run.pick [3, 4, 16, 17, 18, 28] (num_IsName_3_ok F (num_IsName_2 F N) ih v18 x30 v16 v17 v18 (decide (x30 ≤ (122 : Int))) sv16 _ _ _ hv16 hH h)
      · have h := bif_f hc31 h
        refine Run.no (wantS_not' rfl rfl hc31) rfl ?_
        refine Run.no (wantS_not' rfl rfl hc31) rfl ?_
        refine Run.opG wantS_none (ex_pickF' rfl hc31 rfl rfl) rfl ?_
        exact Run.pick [3, 4, 16, 17, 18, 28] (num_IsName_3_ok F (num_IsName_2 F N) ih v18 x30 v16 v17 v18 false sv16 _ _ _ hv16 hH h)
    · have h := bif_f hc28 h
      refine Run.condF' rfl hc28 ?_
      refine Run.exit rfl (Run.seq (Run.region ?_))
      refine Run.opG wantS_none (ex_assign rfl) rfl ?_
      refine Run.opsEnd ?_
      cases h
      exact Run.ret Tryz.func73 rfl (res_tmp rfl res_nil) rfl

def num_IsName_1 (F : Nat) (v0 : (List UInt8)) (v14 : Bool) : Option (Bool) :=
  bif v14 then
    some false
  else
    bnd (byt v0) fun l24 =>
    num_IsName_2 F F l24 (l24.length : Int) (0 : Int)

theorem num_IsName_1_ok (F : Nat) : ∀ (v0 : (List UInt8)) (v14 : Bool) (Fr : Rd) (M : Mem) (r : Bool) (hH : Has Fr M []), num_IsName_1 F v0 v14 = some r → Run Tryz.prog ⟨⟨73, [], none⟩, []⟩ 50 (num_IsName_post r) [(0, (.str v0)), (14, (.bool v14))] [codeC Tryz.prog 73 [1, 0, 1], codeC Tryz.prog 73 [1, 1]] M := by
  intro v0 v14 Fr M r hH h
  rw [num_IsName_1] at h
  rcases btf (v14) with hc22 | hc22
  · have h := bif_t hc22 h
    refine Run.condT' rfl hc22 ?_
    refine Run.seq (Run.region ?_)
    refine Run.opG wantS_none (ex_assign rfl) rfl ?_
    refine Run.opsEnd ?_
    cases h
    exact Run.ret Tryz.func73 rfl (res_tmp rfl res_nil) rfl
  · have h := bif_f hc22 h
    refine Run.condF' rfl hc22 ?_
    refine Run.skip (Run.seq (Run.seq (Run.region ?_)))
    refine Run.opG wantS_none (ex_move rfl) rfl ?_
    obtain ⟨l24, hl24, h⟩ := bnd_some h
    refine Run.opX wantS_none rfl (ExG.bytes rfl uvk9_146 cvk9_146 hl24 hH) ?_
    rintro _ M25 ⟨b25, rfl, (hH25 : Has Fr M25 [.obj b25 (.row 5 .mark (bytesS v0))])⟩
    refine Run.freezeB (t := 16) (i := 0) (enc := enc5) (fun _ => rfl) hl24 rfl hH25 rfl ?_
    intro F26 M26 hle26 (hH26 : Has F26 M26 [.vec 0 0 0 .nils []]) hf26
    refine Run.opG wantS_none (ex_len' rfl hf26 lenk146) rfl ?_
    refine Run.opG wantS_none (ex_move rfl) rfl ?_
    refine Run.opsEnd (Run.block (Run.loop ?_))
    exact Run.pick [16, 17, 18] (num_IsName_2_ok F F l24 (l24.length : Int) (0 : Int) (.ope b25 0 l24.length 1) _ _ _ hf26 (hH26.pick [] rfl rfl) h)

def num_IsName (F : Nat) (a0 : (List UInt8)) : Option (Bool) :=
  bif ((a0.length : Int) == (0 : Int)) then
    num_IsName_1 F a0 true
  else
    num_IsName_1 F a0 (decide ((16 : Int) < (a0.length : Int)))

theorem num_IsName_ok (F : Nat) (a0 : (List UInt8)) (r : Bool) (M : Mem) (h : num_IsName F a0 = some r) : CallsM Tryz.prog 73 [(.str a0)] M (fun s M' => s = (.bool r) ∧ M' = M) := by
  refine CallsM.plain Tryz.func73 rfl rfl rfl (show Run _ _ _ (num_IsName_post r) _ _ _ from ?_)
  rw [num_IsName] at h
  have hH := Has.nil (frozen M)
  refine Run.seq (Run.region ?_)
  refine Run.opG wantS_none (ex_assign rfl) rfl ?_
  refine Run.opsEnd (Run.seq (Run.seq (Run.region ?_)))
  refine Run.opG wantS_none (ex_move rfl) rfl ?_
  refine Run.opG wantS_none (ex_lenS rfl lenk9) rfl ?_
  refine Run.opG wantS_none (ex_eql rfl rfl) rfl ?_
  refine Run.opG wantS_none (ex_move rfl) rfl ?_
  rcases btf (((a0.length : Int) == (0 : Int))) with hc21 | hc21
  · have h := bif_t hc21 h
    refine Run.no (wantS_not' rfl rfl hc21) rfl ?_
    refine Run.no (wantS_not' rfl rfl hc21) rfl ?_
    refine Run.no (wantS_not' rfl rfl hc21) rfl ?_
    refine Run.opG wantS_none (ex_pickT' rfl hc21 rfl rfl) rfl ?_
    refine Run.opsEnd ?_
    exact Run.pick [0, 14] (num_IsName_1_ok F a0 true _ _ _ hH h)
  · have h := bif_f hc21 h
    refine Run.opG (wantS_yes' rfl rfl hc21) (ex_move rfl) rfl ?_
    refine Run.opG (wantS_yes' rfl rfl hc21) (ex_lenS rfl lenk9) rfl ?_
    refine Run.opG (wantS_yes' rfl rfl hc21) (ex_gtr rfl rfl) rfl ?_
    refine Run.opG wantS_none (ex_pickF' rfl hc21 rfl rfl) rfl ?_
    refine Run.opsEnd ?_
    exact Run.pick [0, 14] (num_IsName_1_ok F a0 (decide ((16 : Int) < (a0.length : Int))) _ _ _ hH h)

theorem mkk73 : makeK Tryz.prog 73 = none := by kernel_rfl
theorem cal73 : callable Tryz.prog 73 = true := by kernel_rfl
theorem off35_1 : fieldOff Tryz.prog 35 1 = some 1 := by kernel_rfl
theorem agg31 : aggSize Tryz.prog 31 = some none := by kernel_rfl
theorem lenk31 : lenK Tryz.prog 31 = some .sl := by kernel_rfl
theorem mkk119 : makeK Tryz.prog 119 = none := by kernel_rfl
theorem cal119 : callable Tryz.prog 119 = true := by kernel_rfl
theorem mkk147 : makeK Tryz.prog 147 = none := by kernel_rfl
theorem cal147 : callable Tryz.prog 147 = true := by kernel_rfl
theorem els31 : elems Tryz.prog 31 = some (.sl 2) := by kernel_rfl
theorem agg37 : aggSize Tryz.prog 37 = some (some 2) := by kernel_rfl
theorem mkk118 : makeK Tryz.prog 118 = none := by kernel_rfl
theorem cal118 : callable Tryz.prog 118 = true := by kernel_rfl
theorem off37_0 : fieldOff Tryz.prog 37 0 = some 0 := by kernel_rfl
theorem agg3 : aggSize Tryz.prog 3 = some none := by kernel_rfl
theorem off37_1 : fieldOff Tryz.prog 37 1 = some 1 := by kernel_rfl
abbrev glitch_areSegments_f1_post (r : Bool) : SV → Mem → Prop := fun s _ => s = (.bool r)

def glitch_areSegments_f1_2 (F : Nat) (v17 : Bool) : Option (Bool) :=
  some (!v17)

theorem glitch_areSegments_f1_2_ok (F : Nat) : ∀ (v17 : Bool) (Fr : Rd) (M : Mem) (r : Bool) (hH : Has Fr M []), glitch_areSegments_f1_2 F v17 = some r → Run Tryz.prog ⟨⟨118, [], none⟩, []⟩ 19 (glitch_areSegments_f1_post r) [(17, (.bool v17))] [itemC Tryz.prog 118 [1, 0] 15, codeC Tryz.prog 118 [1, 1]] M := by
  intro v17 Fr M r hH h
  rw [glitch_areSegments_f1_2] at h
  refine Run.opG wantS_none (ex_not rfl) rfl ?_
  refine Run.opG wantS_none (ex_assign rfl) rfl ?_
  refine Run.opsEnd ?_
  cases h
  exact Run.ret Tryz.func118 rfl (res_tmp rfl res_nil) rfl

def glitch_areSegments_f1_1 (F : Nat) (v12 : Bool) (c22 : S_api_Segment) : Option (Bool) :=
  bif v12 then
    glitch_areSegments_f1_2 F (decide (c22.To ≤ (1073741824 : Int)))
  else
    glitch_areSegments_f1_2 F false

theorem glitch_areSegments_f1_1_ok (F : Nat) : ∀ (v12 : Bool) (c22 : S_api_Segment) (b22 : Pos) (Fr : Rd) (M : Mem) (r : Bool) (hH : Has Fr M [.obj b22 (.row 37 .whole [(.int .i64 c22.From), (.int .i64 c22.To)])]), glitch_areSegments_f1_1 F v12 c22 = some r → Run Tryz.prog ⟨⟨118, [], none⟩, []⟩ 19 (glitch_areSegments_f1_post r) [(1, (.ptr b22 0)), (12, (.bool v12))] [itemC Tryz.prog 118 [1, 0] 10, codeC Tryz.prog 118 [1, 1]] M := by
  intro v12 c22 b22 Fr M r hH h
  rw [glitch_areSegments_f1_1] at h
  refine Run.opG wantS_none (ex_move rfl) rfl ?_
  rcases btf (v12) with hc25 | hc25
  · have h := bif_t hc25 h
    refine Run.opG (wantS_yes' rfl rfl hc25) (ex_fieldAddr rfl off37_1) rfl ?_
    refine Run.opG (wantS_yes' rfl rfl hc25) (ex_load1 rfl (hH.cells (i := 0) rfl 1 rfl) rdLe_rfl agg3) rfl ?_
    refine Run.opG (wantS_yes' rfl rfl hc25) (ex_leq rfl rfl) rfl ?_
    refine Run.opG wantS_none (ex_pickT' rfl hc25 rfl rfl) rfl ?_
    exact Run.pick [17] (glitch_areSegments_f1_2_ok F (decide (c22.To ≤ (1073741824 : Int))) _ _ _ (hH.pick [] rfl rfl) h)
  · have h := bif_f hc25 h
    refine Run.no (wantS_not' rfl rfl hc25) rfl ?_
    refine Run.no (wantS_not' rfl rfl hc25) rfl ?_
    refine Run.no (wantS_not' rfl rfl hc25) rfl ?_
    refine Run.opG wantS_none (ex_pickF' rfl hc25 rfl rfl) rfl ?_
    exact Run.pick [17] (glitch_areSegments_f1_2_ok F false _ _ _ (hH.pick [] rfl rfl) h)

def glitch_areSegments_f1 (F : Nat) (a0 : S_api_Segment) : Option (Bool) :=
  bif (decide ((0 : Int) ≤ a0.From)) then
    glitch_areSegments_f1_1 F (decide (a0.From < a0.To)) a0
  else
    glitch_areSegments_f1_1 F false a0

theorem glitch_areSegments_f1_ok (F : Nat) (a0 : S_api_Segment) (r : Bool) (M : Mem) (h : glitch_areSegments_f1 F a0 = some r) : CallsM Tryz.prog 118 [(.agg [(.int .i64 a0.From), (.int .i64 a0.To)])] M (fun s M' => s = (.bool r) ∧ M' = M) := by
  refine CallsM.plain Tryz.func118 rfl rfl rfl (show Run _ _ _ (glitch_areSegments_f1_post r) _ _ _ from ?_)
  rw [glitch_areSegments_f1] at h
  have hH := Has.nil (frozen M)
  refine Run.seq (Run.region ?_)
  refine Run.opX wantS_none rfl (ExG.box rfl rfl hH) ?_
  rintro _ M23 ⟨b22, rfl, (hH23 : Has (ro (frozen M)) M23 [.obj b22 (.row 37 .whole [(.int .i64 a0.From), (.int .i64 a0.To)])])⟩
  refine Run.opG wantS_none (ex_assign rfl) rfl ?_
  refine Run.opsEnd (Run.seq (Run.region ?_))
  refine Run.opG wantS_none (ex_fieldAddr rfl off37_0) rfl ?_
  refine Run.opG wantS_none (ex_load1 rfl (hH23.cells (i := 0) rfl 0 rfl) rdLe_rfl agg3) rfl ?_
  refine Run.opG wantS_none (ex_leq rfl rfl) rfl ?_
  refine Run.opG wantS_none (ex_move rfl) rfl ?_
  rcases btf ((decide ((0 : Int) ≤ a0.From))) with hc24 | hc24
  · have h := bif_t hc24 h
    refine Run.opG (wantS_yes' rfl rfl hc24) (ex_fieldAddr rfl off37_0) rfl ?_
    refine Run.opG (wantS_yes' rfl rfl hc24) (ex_load1 rfl (hH23.cells (i := 0) rfl 0 rfl) rdLe_rfl agg3) rfl ?_
    refine Run.opG (wantS_yes' rfl rfl hc24) (ex_fieldAddr rfl off37_1) rfl ?_
    refine Run.opG (wantS_yes' rfl rfl hc24) (ex_load1 rfl (hH23.cells (i := 0) rfl 1 rfl) rdLe_rfl agg3) rfl ?_
    refine Run.opG (wantS_yes' rfl rfl hc24) (ex_lss rfl rfl) rfl ?_
    refine Run.opG wantS_none (ex_pickT' rfl hc24 rfl rfl) rfl ?_
    exact Run.pick [1, 12] (glitch_areSegments_f1_1_ok F (decide (a0.From < a0.To)) a0 b22 _ _ _ hH23 h)
  · have h := bif_f hc24 h
    refine Run.no (wantS_not' rfl rfl hc24) rfl ?_
    refine Run.no (wantS_not' rfl rfl hc24) rfl ?_
    refine Run.no (wantS_not' rfl rfl hc24) rfl ?_
    refine Run.no (wantS_not' rfl rfl hc24) rfl ?_
    refine Run.no (wantS_not' rfl rfl hc24) rfl ?_
    refine Run.opG wantS_none (ex_pickF' rfl hc24 rfl rfl) rfl ?_
    exact Run.pick [1, 12] (glitch_areSegments_f1_1_ok F false a0 b22 _ _ _ hH23 h)

abbrev glitch_areSegments_post (r : Bool) : SV → Mem → Prop := fun s _ => s = (.bool r)

def glitch_areSegments_2 (F : Nat) (v12 : Bool) : Option (Bool) :=
  some v12

theorem glitch_areSegments_2_ok (F : Nat) : ∀ (v12 : Bool) (Fr : Rd) (M : Mem) (r : Bool) (hH : Has Fr M []), glitch_areSegments_2 F v12 = some r → Run Tryz.prog ⟨⟨74, [], none⟩, []⟩ 13 (glitch_areSegments_post r) [(12, (.bool v12))] [itemC Tryz.prog 74 [1, 1, 0] 9, codeC Tryz.prog 74 [1, 1, 1]] M := by
  intro v12 Fr M r hH h
  rw [glitch_areSegments_2] at h
  refine Run.opG wantS_none (ex_assign rfl) rfl ?_
  refine Run.opsEnd ?_
  cases h
  exact Run.ret Tryz.func74 rfl (res_tmp rfl res_nil) rfl

def glitch_areSegments_1 (F : Nat) : Nat → (List S_api_Segment) → Int → Int → Bool → Option (Bool)
  | 0, _, _, _, _ => none
  | N + 1, v0, v7, v8, v7_f2 =>
    bif (decide (v8 < v7)) then
      bnd (idx v0 v8) fun x24 =>
      bnd (glitch_areSegments_f1 F x24) fun r26 =>
      bif r26 then
        bif v7_f2 then
          glitch_areSegments_2 F (!(decide ((0 : Int) ≤ v8)))
        else
          glitch_areSegments_2 F false
      else
        (glitch_areSegments_1 F N) v0 v7 (w64 (v8 + (1 : Int))) v7_f2
    else
      bif v7_f2 then
        glitch_areSegments_2 F (!(decide ((0 : Int) ≤ ((-1) : Int))))
      else
        glitch_areSegments_2 F false

theorem glitch_areSegments_1_ok (F : Nat) : ∀ (N : Nat), ∀ (v0 : (List S_api_Segment)) (v7 : Int) (v8 : Int) (v7_f2 : Bool) (sv0 : SV) (Fr : Rd) (M : Mem) (r : Bool) (hv0 : Slc Fr 2 (FlatR enc37) sv0 v0) (hH : Has Fr M []), glitch_areSegments_1 F N v0 v7 v8 v7_f2 = some r → Run Tryz.prog ⟨⟨147, [], none⟩, [.mk ⟨119, [], none⟩ 9 (treeOf []) [itemC Tryz.prog 119 [1, 0] 2, codeC Tryz.prog 119 [1, 1]], .mk ⟨74, [], none⟩ 13 (treeOf [(7, (.bool v7_f2))]) [itemC Tryz.prog 74 [1, 1, 0] 6, codeC Tryz.prog 74 [1, 1, 1]]]⟩ 19 (glitch_areSegments_post r) [(0, sv0), (1, (.fn (.func 118) [] [])), (7, (.int .i64 v7)), (8, (.int .i64 v8))] [codeC Tryz.prog 147 [1, 0, 1, 0, 0], loopC Tryz.prog 147 [1, 0, 1, 0, 0], .inBlock 0, codeC Tryz.prog 147 [1, 1]] M := by
  intro N
  induction N with
  | zero =>
    intro v0 v7 v8 v7_f2 sv0 Fr M r hv0 hH h
    simp [glitch_areSegments_1] at h
  | succ N ih =>
    intro v0 v7 v8 v7_f2 sv0 Fr M r hv0 hH h
    rw [glitch_areSegments_1] at h
    refine Run.seq (Run.region ?_)
    refine Run.opG wantS_none (ex_lss rfl rfl) rfl ?_
    refine Run.opsEnd (Run.seq ?_)
    rcases btf ((decide (v8 < v7))) with hc22 | hc22
    · have h := bif_t hc22 h
      refine Run.condT' rfl hc22 ?_
      refine Run.skip (Run.seq (Run.block (Run.seq (Run.region ?_))))
      refine Run.opG wantS_none (ex_move rfl) rfl ?_
      refine Run.opG wantS_none (ex_assign rfl) rfl ?_
      refine Run.opsEnd (Run.seq (Run.region ?_))
      refine Run.opG wantS_none (ex_move rfl) rfl ?_
      refine Run.opG wantS_none (ex_move rfl) rfl ?_
      refine Run.opG wantS_none (ex_move rfl) rfl ?_
      obtain ⟨x24, hx24, h⟩ := bnd_some h
      obtain ⟨p24, o24, _, hx24, hp24, rfl⟩ := sl_elem (P := Tryz.prog) (t := 31) (kk := .i64) hv0 hx24 els31
      refine Run.opG wantS_none (ex_elX rfl rfl hx24) rfl ?_
      refine Run.opG wantS_none (ex_loadA rfl (hH.ptrF hp24) rdLe_rfl agg37 rfl rfl rfl) rfl ?_
      obtain ⟨r26, hr26, h⟩ := bnd_some h
      refine Run.callP wantS_none (ex_closure rfl rfl mkk118 cal118) rfl (glitch_areSegments_f1_ok F x24 _ _ hr26) ?_
      refine Run.opsEnd ?_
      rcases btf (r26) with hc28 | hc28
      · have h := bif_t hc28 h
        refine Run.condT' rfl hc28 ?_
        refine Run.seq (Run.region ?_)
        refine Run.opG wantS_none (ex_move rfl) rfl ?_
        refine Run.opG wantS_none (ex_assign rfl) rfl ?_
        refine Run.opsEnd ?_
        refine Run.retTo Tryz.func147 rfl (res_tmp rfl res_nil) rfl ?_
        refine Run.opG wantS_none (ex_geq rfl rfl) rfl ?_
        refine Run.opG wantS_none (ex_assign rfl) rfl ?_
        refine Run.opsEnd ?_
        refine Run.retTo Tryz.func119 rfl (res_tmp rfl res_nil) rfl ?_
        rcases btf (v7_f2) with hc29 | hc29
        · have h := bif_t hc29 h
          refine Run.opG (wantS_yes' rfl rfl hc29) (ex_not rfl) rfl ?_
          refine Run.opG wantS_none (ex_pickT' rfl hc29 rfl rfl) rfl ?_
          exact Run.pick [12] (glitch_areSegments_2_ok F (!(decide ((0 : Int) ≤ v8))) _ _ _ hH h)
        · have h := bif_f hc29 h
          refine Run.no (wantS_not' rfl rfl hc29) rfl ?_
          refine Run.opG wantS_none (ex_pickF' rfl hc29 rfl rfl) rfl ?_
          exact Run.pick [12] (glitch_areSegments_2_ok F false _ _ _ hH h)
      · have h := bif_f hc28 h
        refine Run.condF' rfl hc28 ?_
        refine Run.skip (Run.inBlock (Run.region ?_))
        refine Run.opG wantS_none (ex_add rfl rfl) rfl ?_
        refine Run.opG wantS_none (ex_move rfl) rfl ?_
        refine Run.opsEnd (Run.inLoop ?_)
        exact Run.low (.cons (fle_pick [] rfl) (.cons (fle_pick [7] rfl) .nil)) (Run.pick [0, 1, 7, 8] (ih v0 v7 (w64 (v8 + (1 : Int))) v7_f2 sv0 _ _ _ hv0 hH h))
    · have h := bif_f hc22 h
      refine Run.condF' rfl hc22 ?_
      refine Run.exit rfl (Run.seq (Run.region ?_))
      refine Run.opG wantS_none (ex_assign rfl) rfl ?_
      refine Run.opsEnd ?_
      refine Run.retTo Tryz.func147 rfl (res_tmp rfl res_nil) rfl ?_
      refine Run.opG wantS_none (ex_geq rfl rfl) rfl ?_
      refine Run.opG wantS_none (ex_assign rfl) rfl ?_
      refine Run.opsEnd ?_
      refine Run.retTo Tryz.func119 rfl (res_tmp rfl res_nil) rfl ?_
      rcases btf (v7_f2) with hc30 | hc30
      · have h := bif_t hc30 h
        refine Run.opG (wantS_yes' rfl rfl hc30) (ex_not rfl) rfl ?_
        refine Run.opG wantS_none (ex_pickT' rfl hc30 rfl rfl) rfl ?_
        exact Run.pick [12] (glitch_areSegments_2_ok F (!(decide ((0 : Int) ≤ ((-1) : Int)))) _ _ _ hH h)
      · have h := bif_f hc30 h
        refine Run.no (wantS_not' rfl rfl hc30) rfl ?_
        refine Run.opG wantS_none (ex_pickF' rfl hc30 rfl rfl) rfl ?_
        exact Run.pick [12] (glitch_areSegments_2_ok F false _ _ _ hH h)

def glitch_areSegments (F : Nat) (a0 : (List S_api_Segment)) : Option (Bool) :=
  bif (decide ((a0.length : Int) ≤ (32 : Int))) then
    glitch_areSegments_1 F F a0 (a0.length : Int) (0 : Int) (decide ((a0.length : Int) ≤ (32 : Int)))
  else
    glitch_areSegments_2 F false

theorem glitch_areSegments_ok (F : Nat) (a0 : (List S_api_Segment)) (s0 : SV) (r : Bool) (M : Mem) (hs0 : Slc (rd M) 2 (FlatR enc37) s0 a0) (h : glitch_areSegments F a0 = some r) : CallsM Tryz.prog 74 [s0] M (fun s M' => s = (.bool r) ∧ M' = M) := by
  refine CallsM.plain Tryz.func74 rfl rfl rfl (show Run _ _ _ (glitch_areSegments_post r) _ _ _ from ?_)
  rw [glitch_areSegments] at h
  replace hs0 := hs0.mono (rdLe_frozen M) (fun _ _ h => h)
  have hH := Has.nil (frozen M)
  refine Run.seq (Run.region ?_)
  refine Run.opG wantS_none (ex_assign rfl) rfl ?_
  refine Run.opsEnd (Run.seq (Run.region ?_))
  refine Run.opG wantS_none (ex_assign rfl) rfl ?_
  refine Run.opsEnd (Run.seq (Run.region ?_))
  refine Run.opG wantS_none (ex_move rfl) rfl ?_
  refine Run.opG wantS_none (ex_len' rfl hs0 lenk31) rfl ?_
  refine Run.opG wantS_none (ex_leq rfl rfl) rfl ?_
  refine Run.opG wantS_none (ex_move rfl) rfl ?_
  rcases btf ((decide ((a0.length : Int) ≤ (32 : Int)))) with hc21 | hc21
  · have h := bif_t hc21 h
    refine Run.opG (wantS_yes' rfl rfl hc21) (ex_move rfl) rfl ?_
    refine Run.opG (wantS_yes' rfl rfl hc21) (ex_move rfl) rfl ?_
    refine Run.enter (wantS_yes' rfl rfl hc21) (ex_call rfl mkk119 cal119) Tryz.func119 rfl rfl ?_
    refine Run.seq (Run.region ?_)
    refine Run.opG wantS_none (ex_assign rfl) rfl ?_
    refine Run.opsEnd (Run.seq (Run.region ?_))
    refine Run.opG wantS_none (ex_move rfl) rfl ?_
    refine Run.opG wantS_none (ex_move rfl) rfl ?_
    refine Run.enter wantS_none (ex_call rfl mkk147 cal147) Tryz.func147 rfl rfl ?_
    refine Run.seq (Run.region ?_)
    refine Run.opG wantS_none (ex_assign rfl) rfl ?_
    refine Run.opsEnd (Run.seq (Run.seq (Run.region ?_)))
    refine Run.opG wantS_none (ex_move rfl) rfl ?_
    refine Run.opG wantS_none (ex_len' rfl hs0 lenk31) rfl ?_
    refine Run.opG wantS_none (ex_move rfl) rfl ?_
    refine Run.opsEnd (Run.block (Run.loop ?_))
    exact Run.low (.cons (fle_pick [] rfl) (.cons (fle_pick [7] rfl) .nil)) (Run.pick [0, 1, 7, 8] (glitch_areSegments_1_ok F F a0 (a0.length : Int) (0 : Int) (decide ((a0.length : Int) ≤ (32 : Int))) s0 _ _ _ hs0 hH h))
  · have h := bif_f hc21 h
    refine Run.no (wantS_not' rfl rfl hc21) rfl ?_
    refine Run.no (wantS_not' rfl rfl hc21) rfl ?_
    refine Run.no (wantS_not' rfl rfl hc21) rfl ?_
    refine Run.no (wantS_not' rfl rfl hc21) rfl ?_
    refine Run.opG wantS_none (ex_pickF' rfl hc21 rfl rfl) rfl ?_
    exact Run.pick [12] (glitch_areSegments_2_ok F false _ _ _ hH h)

theorem mkk74 : makeK Tryz.prog 74 = none := by kernel_rfl
theorem cal74 : callable Tryz.prog 74 = true := by kernel_rfl
abbrev glitch_areVetoes_post (r : Bool) : SV → Mem → Prop := fun s _ => s = (.bool r)

def glitch_areVetoes_3 (F : Nat) (hd1 : (List S_api_Veto) → Int → Int → (List ((List UInt8) × Bool)) → Option (Bool)) (v10 : (List S_api_Veto)) (v11 : Int) (v12 : Int) (v31 : Bool) (c29_0 : (List UInt8)) (c29_1 : (List S_api_Segment)) (l23 : (List ((List UInt8) × Bool))) : Option (Bool) :=
  bif v31 then
    some false
  else
    hd1 v10 v11 (w64 (v12 + (1 : Int))) (mput eqB l23 c29_0 true)

theorem glitch_areVetoes_3_ok (F : Nat) (hd1 : (List S_api_Veto) → Int → Int → (List ((List UInt8) × Bool)) → Option (Bool)) (hhd1 : ∀ (v10 : (List S_api_Veto)) (v11 : Int) (v12 : Int) (l23 : (List ((List UInt8) × Bool))) (sv10 : SV) (b23 : Pos) (Fr : Rd) (M : Mem) (r : Bool) (hv10 : Slc Fr 2 (rep35 Fr) sv10 v10) (hH : Has Fr M [.obj b23 (.map (mapES kv9 kv4 0 l23) l23.length)]), hd1 v10 v11 v12 l23 = some r → Run Tryz.prog ⟨⟨38, [], none⟩, []⟩ 36 (glitch_areVetoes_post r) [(3, (.map b23)), (10, sv10), (11, (.int .i64 v11)), (12, (.int .i64 v12))] [codeC Tryz.prog 38 [1, 1, 1, 0, 1, 0, 0], loopC Tryz.prog 38 [1, 1, 1, 0, 1, 0, 0], .inBlock 0, codeC Tryz.prog 38 [1, 1, 1, 1]] M) : ∀ (v10 : (List S_api_Veto)) (v11 : Int) (v12 : Int) (v31 : Bool) (c29_0 : (List UInt8)) (c29_1 : (List S_api_Segment)) (l23 : (List ((List UInt8) × Bool))) (sv10 : SV) (sc29_1 : SV) (b23 : Pos) (b29 : Pos) (Fr : Rd) (M : Mem) (r : Bool) (hv10 : Slc Fr 2 (rep35 Fr) sv10 v10) (hc29_1 : Slc Fr 2 (FlatR enc37) sc29_1 c29_1) (hH : Has Fr M [.obj b23 (.map (mapES kv9 kv4 0 l23) l23.length), .obj b29 (.row 35 .whole [(.str c29_0), sc29_1])]), glitch_areVetoes_3 F hd1 v10 v11 v12 v31 c29_0 c29_1 l23 = some r → Run Tryz.prog ⟨⟨38, [], none⟩, []⟩ 36 (glitch_areVetoes_post r) [(3, (.map b23)), (5, (.ptr b29 0)), (10, sv10), (11, (.int .i64 v11)), (12, (.int .i64 v12)), (31, (.bool v31))] [codeC Tryz.prog 38 [1, 1, 1, 0, 1, 0, 0, 1, 1, 0, 0, 1, 0, 1], codeC Tryz.prog 38 [1, 1, 1, 0, 1, 0, 0, 1, 1, 0, 0, 1, 1], .inBlock 1, codeC Tryz.prog 38 [1, 1, 1, 0, 1, 0, 0, 1, 1, 1], loopC Tryz.prog 38 [1, 1, 1, 0, 1, 0, 0], .inBlock 0, codeC Tryz.prog 38 [1, 1, 1, 1]] M := by
  intro v10 v11 v12 v31 c29_0 c29_1 l23 sv10 sc29_1 b23 b29 Fr M r hv10 hc29_1 hH h
  rw [glitch_areVetoes_3] at h
  rcases btf (v31) with hc37 | hc37
  · have h := bif_t hc37 h
    refine Run.condT' rfl hc37 ?_
    refine Run.seq (Run.region ?_)
    refine Run.opG wantS_none (ex_assign rfl) rfl ?_
    refine Run.opsEnd ?_
    cases h
    exact Run.ret Tryz.func38 rfl (res_tmp rfl res_nil) rfl
  · have h := bif_f hc37 h
    refine Run.condF' rfl hc37 ?_
    refine Run.skip (Run.region ?_)
    refine Run.opG wantS_none (ex_move rfl) rfl ?_
    refine Run.opG wantS_none (ex_fieldAddr rfl off35_0) rfl ?_
    refine Run.opG wantS_none (ex_load1 rfl (hH.cells (i := 1) rfl 0 rfl) rdLe_rfl agg9) rfl ?_
    refine Run.opX wantS_none rfl (ExG.mapUpdate (ke := kv9) (ve := kv4) (k := c29_0) (v := true) rfl rfl rfl hH (i := 0) rfl kmt109 (kok109 _) keq109 khe109 rfl rfl) ?_
    rintro _ M38 ⟨rfl, (hH38 : Has Fr M38 [.obj b23 (.map (mapES kv9 kv4 0 (mput eqB l23 c29_0 true)) (mput eqB l23 c29_0 true).length), .obj b29 (.row 35 .whole [(.str c29_0), sc29_1])])⟩
    refine Run.opsEnd (Run.inBlock (Run.region ?_))
    refine Run.opG wantS_none (ex_add rfl rfl) rfl ?_
    refine Run.opG wantS_none (ex_move rfl) rfl ?_
    refine Run.opsEnd (Run.inLoop ?_)
    exact Run.pick [3, 10, 11, 12] (hhd1 v10 v11 (w64 (v12 + (1 : Int))) (mput eqB l23 c29_0 true) sv10 b23 _ _ _ hv10 (hH38.pick [0] rfl rfl) h)

def glitch_areVetoes_2 (F : Nat) (hd1 : (List S_api_Veto) → Int → Int → (List ((List UInt8) × Bool)) → Option (Bool)) (v10 : (List S_api_Veto)) (v11 : Int) (v12 : Int) (v25 : Bool) (c29_0 : (List UInt8)) (c29_1 : (List S_api_Segment)) (l23 : (List ((List UInt8) × Bool))) : Option (Bool) :=
  bif v25 then
    glitch_areVetoes_3 F hd1 v10 v11 v12 true c29_0 c29_1 l23
  else
    bnd (glitch_areSegments F c29_1) fun r40 =>
    glitch_areVetoes_3 F hd1 v10 v11 v12 (!r40) c29_0 c29_1 l23

theorem glitch_areVetoes_2_ok (F : Nat) (hd1 : (List S_api_Veto) → Int → Int → (List ((List UInt8) × Bool)) → Option (Bool)) (hhd1 : ∀ (v10 : (List S_api_Veto)) (v11 : Int) (v12 : Int) (l23 : (List ((List UInt8) × Bool))) (sv10 : SV) (b23 : Pos) (Fr : Rd) (M : Mem) (r : Bool) (hv10 : Slc Fr 2 (rep35 Fr) sv10 v10) (hH : Has Fr M [.obj b23 (.map (mapES kv9 kv4 0 l23) l23.length)]), hd1 v10 v11 v12 l23 = some r → Run Tryz.prog ⟨⟨38, [], none⟩, []⟩ 36 (glitch_areVetoes_post r) [(3, (.map b23)), (10, sv10), (11, (.int .i64 v11)), (12, (.int .i64 v12))] [codeC Tryz.prog 38 [1, 1, 1, 0, 1, 0, 0], loopC Tryz.prog 38 [1, 1, 1, 0, 1, 0, 0], .inBlock 0, codeC Tryz.prog 38 [1, 1, 1, 1]] M) : ∀ (v10 : (List S_api_Veto)) (v11 : Int) (v12 : Int) (v25 : Bool) (c29_0 : (List UInt8)) (c29_1 : (List S_api_Segment)) (l23 : (List ((List UInt8) × Bool))) (sv10 : SV) (sc29_1 : SV) (b23 : Pos) (b29 : Pos) (Fr : Rd) (M : Mem) (r : Bool) (hv10 : Slc Fr 2 (rep35 Fr) sv10 v10) (hc29_1 : Slc Fr 2 (FlatR enc37) sc29_1 c29_1) (hH : Has Fr M [.obj b23 (.map (mapES kv9 kv4 0 l23) l23.length), .obj b29 (.row 35 .whole [(.str c29_0), sc29_1])]), glitch_areVetoes_2 F hd1 v10 v11 v12 v25 c29_0 c29_1 l23 = some r → Run Tryz.prog ⟨⟨38, [], none⟩, []⟩ 36 (glitch_areVetoes_post r) [(3, (.map b23)), (5, (.ptr b29 0)), (10, sv10), (11, (.int .i64 v11)), (12, (.int .i64 v12)), (25, (.bool v25))] [itemC Tryz.prog 38 [1, 1, 1, 0, 1, 0, 0, 1, 1, 0, 0, 1, 0, 0] 10, codeC Tryz.prog 38 [1, 1, 1, 0, 1, 0, 0, 1, 1, 0, 0, 1, 0, 1], codeC Tryz.prog 38 [1, 1, 1, 0, 1, 0, 0, 1, 1, 0, 0, 1, 1], .inBlock 1, codeC Tryz.prog 38 [1, 1, 1, 0, 1, 0, 0, 1, 1, 1], loopC Tryz.prog 38 [1, 1, 1, 0, 1, 0, 0], .inBlock 0, codeC Tryz.prog 38 [1, 1, 1, 1]] M := by
  intro v10 v11 v12 v25 c29_0 c29_1 l23 sv10 sc29_1 b23 b29 Fr M r hv10 hc29_1 hH h
  rw [glitch_areVetoes_2] at h
  refine Run.opG wantS_none (ex_move rfl) rfl ?_
  rcases btf (v25) with hc36 | hc36
  · have h := bif_t hc36 h
    refine Run.no (wantS_not' rfl rfl hc36) rfl ?_
    refine Run.no (wantS_not' rfl rfl hc36) rfl ?_
    refine Run.no (wantS_not' rfl rfl hc36) rfl ?_
    refine Run.no (wantS_not' rfl rfl hc36) rfl ?_
    refine Run.opG wantS_none (ex_pickT' rfl hc36 rfl rfl) rfl ?_
    refine Run.opsEnd ?_
    exact Run.pick [3, 5, 10, 11, 12, 31] (glitch_areVetoes_3_ok F hd1 hhd1 v10 v11 v12 true c29_0 c29_1 l23 sv10 sc29_1 b23 b29 _ _ _ hv10 hc29_1 hH h)
  · have h := bif_f hc36 h
    refine Run.opG (wantS_yes' rfl rfl hc36) (ex_fieldAddr rfl off35_1) rfl ?_
    refine Run.opG (wantS_yes' rfl rfl hc36) (ex_load1 rfl (hH.cells (i := 1) rfl 1 rfl) rdLe_rfl agg31) rfl ?_
    obtain ⟨r40, hr40, h⟩ := bnd_some h
    refine Run.callP (wantS_yes' rfl rfl hc36) (ex_call rfl mkk74 cal74) rfl (glitch_areSegments_ok F c29_1 sc29_1 _ _ (hH.slcF hc29_1) hr40) ?_
    refine Run.opG (wantS_yes' rfl rfl hc36) (ex_not rfl) rfl ?_
    refine Run.opG wantS_none (ex_pickF' rfl hc36 rfl rfl) rfl ?_
    refine Run.opsEnd ?_
    exact Run.pick [3, 5, 10, 11, 12, 31] (glitch_areVetoes_3_ok F hd1 hhd1 v10 v11 v12 (!r40) c29_0 c29_1 l23 sv10 sc29_1 b23 b29 _ _ _ hv10 hc29_1 hH h)

def glitch_areVetoes_1 (F : Nat) : Nat → (List S_api_Veto) → Int → Int → (List ((List UInt8) × Bool)) → Option (Bool)
  | 0, _, _, _, _ => none
  | N + 1, v10, v11, v12, l23 =>
    bif (decide (v12 < v11)) then
      bnd (idx v10 v12) fun x27 =>
      bnd (num_IsName F x27.Name) fun r33 =>
      bif (!r33) then
        glitch_areVetoes_2 F (glitch_areVetoes_1 F N) v10 v11 v12 true x27.Name x27.Segments l23
      else
        glitch_areVetoes_2 F (glitch_areVetoes_1 F N) v10 v11 v12 (mget eqB false l23 x27.Name) x27.Name x27.Segments l23
    else
      some true

theorem glitch_areVetoes_1_ok (F : Nat) : ∀ (N : Nat), ∀ (v10 : (List S_api_Veto)) (v11 : Int) (v12 : Int) (l23 : (List ((List UInt8) × Bool))) (sv10 : SV) (b23 : Pos) (Fr : Rd) (M : Mem) (r : Bool) (hv10 : Slc Fr 2 (rep35 Fr) sv10 v10) (hH : Has Fr M [.obj b23 (.map (mapES kv9 kv4 0 l23) l23.length)]), glitch_areVetoes_1 F N v10 v11 v12 l23 = some r → Run Tryz.prog ⟨⟨38, [], none⟩, []⟩ 36 (glitch_areVetoes_post r) [(3, (.map b23)), (10, sv10), (11, (.int .i64 v11)), (12, (.int .i64 v12))] [codeC Tryz.prog 38 [1, 1, 1, 0, 1, 0, 0], loopC Tryz.prog 38 [1, 1, 1, 0, 1, 0, 0], .inBlock 0, codeC Tryz.prog 38 [1, 1, 1, 1]] M := by
  intro N
  induction N with
  | zero =>
    intro v10 v11 v12 l23 sv10 b23 Fr M r hv10 hH h
    simp [glitch_areVetoes_1] at h
  | succ N ih =>
    intro v10 v11 v12 l23 sv10 b23 Fr M r hv10 hH h
    rw [glitch_areVetoes_1] at h
    refine Run.seq (Run.region ?_)
    refine Run.opG wantS_none (ex_lss rfl rfl) rfl ?_
    refine Run.opsEnd (Run.seq ?_)
    rcases btf ((decide (v12 < v11))) with hc25 | hc25
    · have h := bif_t hc25 h
      refine Run.condT' rfl hc25 ?_
      refine Run.skip (Run.seq (Run.block (Run.seq (Run.region ?_))))
      obtain ⟨x27, hx27, h⟩ := bnd_some h
      obtain ⟨p27, o27, _, hx27, hp27, ⟨q27_0, rfl, hq27_0⟩⟩ := sl_elem (P := Tryz.prog) (t := 22) (kk := .i64) hv10 hx27 els22
      refine Run.opG wantS_none (ex_elX rfl rfl hx27) rfl ?_
      refine Run.opG wantS_none (ex_loadA rfl (hH.ptrF hp27) rdLe_rfl agg35 rfl rfl rfl) rfl ?_
      refine Run.opX wantS_none rfl (ExG.new (v := fun b => .ptr b 0) (ex_alloc zer35) hH) ?_
      rintro _ M30 ⟨b29, rfl, (hH30 : Has Fr M30 [.obj b29 (.row 35 .whole [(.str []), .nils]), .obj b23 (.map (mapES kv9 kv4 0 l23) l23.length)])⟩
      refine Run.opX wantS_none rfl (ExG.storeC (c' := [(.str x27.Name), q27_0]) rfl rfl rfl hH30 (i := 0) rfl sz35 rfl rfl rfl (ones_cons rfl (ones_cons (slc_one hq27_0) ones_nil)) rfl) ?_
      rintro _ M31 ⟨rfl, (hH31 : Has Fr M31 [.obj b29 (.row 35 .whole [(.str x27.Name), q27_0]), .obj b23 (.map (mapES kv9 kv4 0 l23) l23.length)])⟩
      refine Run.opsEnd (Run.seq (Run.seq (Run.region ?_)))
      refine Run.opG wantS_none (ex_fieldAddr rfl off35_0) rfl ?_
      refine Run.opG wantS_none (ex_load1 rfl (hH31.cells (i := 0) rfl 0 rfl) rdLe_rfl agg9) rfl ?_
      obtain ⟨r33, hr33, h⟩ := bnd_some h
      refine Run.callP wantS_none (ex_call rfl mkk73 cal73) rfl (num_IsName_ok F x27.Name _ _ hr33) ?_
      refine Run.opG wantS_none (ex_not rfl) rfl ?_
      refine Run.opG wantS_none (ex_move rfl) rfl ?_
      rcases btf ((!r33)) with hc35 | hc35
      · have h := bif_t hc35 h
        refine Run.no (wantS_not' rfl rfl hc35) rfl ?_
        refine Run.no (wantS_not' rfl rfl hc35) rfl ?_
        refine Run.no (wantS_not' rfl rfl hc35) rfl ?_
        refine Run.no (wantS_not' rfl rfl hc35) rfl ?_
        refine Run.opG wantS_none (ex_pickT' rfl hc35 rfl rfl) rfl ?_
        exact Run.pick [3, 5, 10, 11, 12, 25] (glitch_areVetoes_2_ok F (glitch_areVetoes_1 F N) ih v10 v11 v12 true x27.Name x27.Segments l23 sv10 q27_0 b23 b29 _ _ _ hv10 hq27_0 (hH31.pick [1, 0] rfl rfl) h)
      · have h := bif_f hc35 h
        refine Run.opG (wantS_yes' rfl rfl hc35) (ex_move rfl) rfl ?_
        refine Run.opG (wantS_yes' rfl rfl hc35) (ex_fieldAddr rfl off35_0) rfl ?_
        refine Run.opG (wantS_yes' rfl rfl hc35) (ex_load1 rfl (hH31.cells (i := 0) rfl 0 rfl) rdLe_rfl agg9) rfl ?_
        refine Run.opG (wantS_yes' rfl rfl hc35) (ex_lookup (ke := kv9) (ve := kv4) (k := x27.Name) rfl rfl hH31 (i := 1) rfl kmt109 (kok109 _) keq109 khe109 kzr109) rfl ?_
        refine Run.opG wantS_none (ex_pickF' rfl hc35 rfl rfl) rfl ?_
        exact Run.pick [3, 5, 10, 11, 12, 25] (glitch_areVetoes_2_ok F (glitch_areVetoes_1 F N) ih v10 v11 v12 (mget eqB false l23 x27.Name) x27.Name x27.Segments l23 sv10 q27_0 b23 b29 _ _ _ hv10 hq27_0 (hH31.pick [1, 0] rfl rfl) h)
    · have h := bif_f hc25 h
      refine Run.condF' rfl hc25 ?_
      refine Run.exit rfl (Run.seq (Run.region ?_))
      refine Run.opG wantS_none (ex_assign rfl) rfl ?_
      refine Run.opsEnd ?_
      cases h
      exact Run.ret Tryz.func38 rfl (res_tmp rfl res_nil) rfl

def glitch_areVetoes (F : Nat) (a0 : (List S_api_Veto)) : Option (Bool) :=
  bif (decide ((12 : Int) < (a0.length : Int))) then
    some false
  else
    glitch_areVetoes_1 F F a0 (a0.length : Int) (0 : Int) ([] : List ((List UInt8) × Bool))

theorem glitch_areVetoes_ok (F : Nat) (a0 : (List S_api_Veto)) (s0 : SV) (r : Bool) (M : Mem) (hs0 : Slc (rd M) 2 (rep35 (rd M)) s0 a0) (h : glitch_areVetoes F a0 = some r) : CallsM Tryz.prog 38 [s0] M (fun s M' => s = (.bool r) ∧ M' = M) := by
  refine CallsM.plain Tryz.func38 rfl rfl rfl (show Run _ _ _ (glitch_areVetoes_post r) _ _ _ from ?_)
  rw [glitch_areVetoes] at h
  replace hs0 := hs0.mono (rdLe_frozen M) (fun _ _ => rep35_mo (rdLe_frozen M))
  have hH := Has.nil (frozen M)
  refine Run.seq (Run.region ?_)
  refine Run.opG wantS_none (ex_assign rfl) rfl ?_
  refine Run.opsEnd (Run.seq (Run.seq (Run.region ?_)))
  refine Run.opG wantS_none (ex_move rfl) rfl ?_
  refine Run.opG wantS_none (ex_len' rfl hs0 lenk22) rfl ?_
  refine Run.opG wantS_none (ex_gtr rfl rfl) rfl ?_
  refine Run.opsEnd ?_
  rcases btf ((decide ((12 : Int) < (a0.length : Int)))) with hc21 | hc21
  · have h := bif_t hc21 h
    refine Run.condT' rfl hc21 ?_
    refine Run.seq (Run.region ?_)
    refine Run.opG wantS_none (ex_assign rfl) rfl ?_
    refine Run.opsEnd ?_
    cases h
    exact Run.ret Tryz.func38 rfl (res_tmp rfl res_nil) rfl
  · have h := bif_f hc21 h
    refine Run.condF' rfl hc21 ?_
    refine Run.skip (Run.seq (Run.region ?_))
    refine Run.opX wantS_none rfl (ExG.makeMap kv9 kv4 hH) ?_
    rintro _ M24 ⟨b23, rfl, (hH24 : Has (ro (frozen M)) M24 [.obj b23 (.map (mapES kv9 kv4 0 ([] : List ((List UInt8) × Bool))) ([] : List ((List UInt8) × Bool)).length)])⟩
    refine Run.opG wantS_none (ex_assign rfl) rfl ?_
    refine Run.opsEnd (Run.seq (Run.seq (Run.region ?_)))
    refine Run.opG wantS_none (ex_move rfl) rfl ?_
    refine Run.opG wantS_none (ex_len' rfl hs0 lenk22) rfl ?_
    refine Run.opG wantS_none (ex_move rfl) rfl ?_
    refine Run.opsEnd (Run.block (Run.loop ?_))
    exact Run.pick [3, 10, 11, 12] (glitch_areVetoes_1_ok F F a0 (a0.length : Int) (0 : Int) ([] : List ((List UInt8) × Bool)) s0 b23 _ _ _ hs0 hH24 h)

theorem mkk38 : makeK Tryz.prog 38 = none := by kernel_rfl
theorem cal38 : callable Tryz.prog 38 = true := by kernel_rfl
abbrev glitch_isFrom_post (r : Bool) : SV → Mem → Prop := fun s _ => s = (.bool r)

def glitch_isFrom_1 (F : Nat) (v14 : Bool) : Option (Bool) :=
  some v14

theorem glitch_isFrom_1_ok (F : Nat) : ∀ (v14 : Bool) (Fr : Rd) (M : Mem) (r : Bool) (hH : Has Fr M []), glitch_isFrom_1 F v14 = some r → Run Tryz.prog ⟨⟨75, [], none⟩, []⟩ 15 (glitch_isFrom_post r) [(14, (.bool v14))] [itemC Tryz.prog 75 [1, 0] 8, codeC Tryz.prog 75 [1, 1]] M := by
  intro v14 Fr M r hH h
  rw [glitch_isFrom_1] at h
  refine Run.opG wantS_none (ex_assign rfl) rfl ?_
  refine Run.opsEnd ?_
  cases h
  exact Run.ret Tryz.func75 rfl (res_tmp rfl res_nil) rfl

def glitch_isFrom (F : Nat) (a0 : Int) (a1 : Int) (a2 : Int) : Option (Bool) :=
  bif (decide (a0 ≤ a1)) then
    glitch_isFrom_1 F (decide (a1 ≤ a2))
  else
    glitch_isFrom_1 F false

theorem glitch_isFrom_ok (F : Nat) (a0 : Int) (a1 : Int) (a2 : Int) (r : Bool) (M : Mem) (h : glitch_isFrom F a0 a1 a2 = some r) : CallsM Tryz.prog 75 [(.int .i64 a0), (.int .i64 a1), (.int .i64 a2)] M (fun s M' => s = (.bool r) ∧ M' = M) := by
  refine CallsM.plain Tryz.func75 rfl rfl rfl (show Run _ _ _ (glitch_isFrom_post r) _ _ _ from ?_)
  rw [glitch_isFrom] at h
  have hH := Has.nil (frozen M)
  refine Run.seq (Run.region ?_)
  refine Run.opG wantS_none (ex_assign rfl) rfl ?_
  refine Run.opsEnd (Run.seq (Run.region ?_))
  refine Run.opG wantS_none (ex_move rfl) rfl ?_
  refine Run.opG wantS_none (ex_move rfl) rfl ?_
  refine Run.opG wantS_none (ex_leq rfl rfl) rfl ?_
  refine Run.opG wantS_none (ex_move rfl) rfl ?_
  rcases btf ((decide (a0 ≤ a1))) with hc21 | hc21
  · have h := bif_t hc21 h
    refine Run.opG (wantS_yes' rfl rfl hc21) (ex_move rfl) rfl ?_
    refine Run.opG (wantS_yes' rfl rfl hc21) (ex_move rfl) rfl ?_
    refine Run.opG (wantS_yes' rfl rfl hc21) (ex_leq rfl rfl) rfl ?_
    refine Run.opG wantS_none (ex_pickT' rfl hc21 rfl rfl) rfl ?_
    exact Run.pick [14] (glitch_isFrom_1_ok F (decide (a1 ≤ a2)) _ _ _ hH h)
  · have h := bif_f hc21 h
    refine Run.no (wantS_not' rfl rfl hc21) rfl ?_
    refine Run.no (wantS_not' rfl rfl hc21) rfl ?_
    refine Run.no (wantS_not' rfl rfl hc21) rfl ?_
    refine Run.opG wantS_none (ex_pickF' rfl hc21 rfl rfl) rfl ?_
    exact Run.pick [14] (glitch_isFrom_1_ok F false _ _ _ hH h)

theorem mkk75 : makeK Tryz.prog 75 = none := by kernel_rfl
theorem cal75 : callable Tryz.prog 75 = true := by kernel_rfl
abbrev glitch_isSpan_post (r : Bool) : SV → Mem → Prop := fun s _ => s = (.bool r)

def glitch_isSpan (F : Nat) (a0 : Int) : Option (Bool) :=
  bnd (glitch_isFrom F (1 : Int) a0 (1073741824 : Int)) fun r22 =>
  some r22

theorem glitch_isSpan_ok (F : Nat) (a0 : Int) (r : Bool) (M : Mem) (h : glitch_isSpan F a0 = some r) : CallsM Tryz.prog 64 [(.int .i64 a0)] M (fun s M' => s = (.bool r) ∧ M' = M) := by
  refine CallsM.plain Tryz.func64 rfl rfl rfl (show Run _ _ _ (glitch_isSpan_post r) _ _ _ from ?_)
  rw [glitch_isSpan] at h
  have hH := Has.nil (frozen M)
  refine Run.seq (Run.region ?_)
  refine Run.opG wantS_none (ex_assign rfl) rfl ?_
  refine Run.opsEnd (Run.seq (Run.region ?_))
  refine Run.opG wantS_none (ex_move rfl) rfl ?_
  obtain ⟨r22, hr22, h⟩ := bnd_some h
  refine Run.callP wantS_none (ex_call rfl mkk75 cal75) rfl (glitch_isFrom_ok F (1 : Int) a0 (1073741824 : Int) _ _ hr22) ?_
  refine Run.opG wantS_none (ex_assign rfl) rfl ?_
  refine Run.opsEnd ?_
  cases h
  exact Run.ret Tryz.func64 rfl (res_tmp rfl res_nil) rfl

theorem mkk64 : makeK Tryz.prog 64 = none := by kernel_rfl
theorem cal64 : callable Tryz.prog 64 = true := by kernel_rfl
abbrev glitch_checkSpan_post (r : Int) : SV → Mem → Prop := fun s _ => s = (.int .i64 r)

def glitch_checkSpan (F : Nat) (a0 : (List S_api_Veto)) (a1 : Int) : Option (Int) :=
  bnd (glitch_areVetoes F a0) fun r22 =>
  bif (!r22) then
    some (63 : Int)
  else
    bnd (glitch_isSpan F a1) fun r26 =>
    bif (!r26) then
      some (8 : Int)
    else
      some (0 : Int)

theorem glitch_checkSpan_ok (F : Nat) (a0 : (List S_api_Veto)) (a1 : Int) (s0 : SV) (r : Int) (M : Mem) (hs0 : Slc (rd M) 2 (rep35 (rd M)) s0 a0) (h : glitch_checkSpan F a0 a1 = some r) : CallsM Tryz.prog 30 [s0, (.int .i64 a1)] M (fun s M' => s = (.int .i64 r) ∧ M' = M) := by
  refine CallsM.plain Tryz.func30 rfl rfl rfl (show Run _ _ _ (glitch_checkSpan_post r) _ _ _ from ?_)
  rw [glitch_checkSpan] at h
  replace hs0 := hs0.mono (rdLe_frozen M) (fun _ _ => rep35_mo (rdLe_frozen M))
  have hH := Has.nil (frozen M)
  refine Run.seq (Run.region ?_)
  refine Run.opG wantS_none (ex_assign rfl) rfl ?_
  refine Run.opsEnd (Run.seq (Run.block (Run.seq (Run.region ?_))))
  refine Run.opG wantS_none (ex_move rfl) rfl ?_
  obtain ⟨r22, hr22, h⟩ := bnd_some h
  refine Run.callP wantS_none (ex_call rfl mkk38 cal38) rfl (glitch_areVetoes_ok F a0 s0 _ _ ((hs0).mono hH.le (fun _ _ => rep35_mo hH.le)) hr22) ?_
  refine Run.opG wantS_none (ex_not rfl) rfl ?_
  refine Run.opG wantS_none (ex_assign rfl) rfl ?_
  refine Run.opsEnd ?_
  rcases btf ((!r22)) with hc24 | hc24
  · have h := bif_t hc24 h
    refine Run.condT' rfl hc24 ?_
    refine Run.seq (Run.region ?_)
    refine Run.opG wantS_none (ex_assign rfl) rfl ?_
    refine Run.opsEnd ?_
    cases h
    exact Run.ret Tryz.func30 rfl (res_tmp rfl res_nil) rfl
  · have h := bif_f hc24 h
    refine Run.condF' rfl hc24 ?_
    refine Run.seq (Run.region ?_)
    refine Run.opG wantS_none (ex_move rfl) rfl ?_
    obtain ⟨r26, hr26, h⟩ := bnd_some h
    refine Run.callP wantS_none (ex_call rfl mkk64 cal64) rfl (glitch_isSpan_ok F a1 _ _ hr26) ?_
    refine Run.opG wantS_none (ex_not rfl) rfl ?_
    refine Run.opG wantS_none (ex_assign rfl) rfl ?_
    refine Run.opsEnd ?_
    rcases btf ((!r26)) with hc28 | hc28
    · have h := bif_t hc28 h
      refine Run.condT' rfl hc28 ?_
      refine Run.seq (Run.region ?_)
      refine Run.opG wantS_none (ex_assign rfl) rfl ?_
      refine Run.opsEnd ?_
      cases h
      exact Run.ret Tryz.func30 rfl (res_tmp rfl res_nil) rfl
    · have h := bif_f hc28 h
      refine Run.condF' rfl hc28 ?_
      refine Run.skip (Run.inBlock (Run.seq (Run.region ?_)))
      refine Run.opG wantS_none (ex_assign rfl) rfl ?_
      refine Run.opsEnd ?_
      cases h
      exact Run.ret Tryz.func30 rfl (res_tmp rfl res_nil) rfl

theorem mkk30 : makeK Tryz.prog 30 = none := by kernel_rfl
theorem cal30 : callable Tryz.prog 30 = true := by kernel_rfl
theorem appt31_31 : appT Tryz.prog 31 31 = some (⟨2, 16, [(.int .i64 0), (.int .i64 0)], 37⟩ : Elt) := by kernel_rfl
theorem mkk81 : makeK Tryz.prog 81 = none := by kernel_rfl
theorem cal81 : callable Tryz.prog 81 = true := by kernel_rfl
theorem zer37 : zerosOf Tryz.prog 37 = some [(.int .i64 0), (.int .i64 0)] := by kernel_rfl
theorem sz37 : szOf Tryz.prog 37 = some 2 := by kernel_rfl
theorem mkk82 : makeK Tryz.prog 82 = none := by kernel_rfl
theorem cal82 : callable Tryz.prog 82 = true := by kernel_rfl
theorem sz3 : szOf Tryz.prog 3 = some 1 := by kernel_rfl
theorem elt31 : sliceElt Tryz.prog 31 = some (⟨2, 16, [(.int .i64 0), (.int .i64 0)], 37⟩ : Elt) := by kernel_rfl
theorem plan82_1_1_0 : planOf Tryz.prog (opsC (atC Tryz.prog 82 [1, 1, 0])) = some [.fl 0, .fl 1, .fl 2, .fl 3, .fl 4, .fl 5, .an 6 [5, 4, 3, 2, 1], .fl 7, .sync] := by kernel_rfl
theorem mkk83 : makeK Tryz.prog 83 = none := by kernel_rfl
theorem cal83 : callable Tryz.prog 83 = true := by kernel_rfl
theorem plan41_1_1_1_1_0_1_0_0_1_1_0_0_1_1_1_0 : planOf Tryz.prog (opsC (atC Tryz.prog 41 [1, 1, 1, 1, 0, 1, 0, 0, 1, 1, 0, 0, 1, 1, 1, 0])) = some [.fl 0, .fl 1, .fl 2, .fl 3, .fl 4, .fl 5, .fl 6, .fl 7, .fl 8, .fl 9, .fl 10, .fl 11, .an 12 [], .sync] := by kernel_rfl
theorem plan41_1_1_1_1_0_1_0_0_1_1_0_0_1_1_0 : planOf Tryz.prog (opsC (atC Tryz.prog 41 [1, 1, 1, 1, 0, 1, 0, 0, 1, 1, 0, 0, 1, 1, 0])) = some [.fl 0, .fl 1, .fl 2, .fl 3, .fl 4, .fl 5, .fl 6, .fl 7, .fl 8, .fl 9, .fl 10, .fl 11, .sync] := by kernel_rfl
abbrev glitch_held_post (r : (List S_api_Segment)) : SV → Mem → Prop := fun s Me => ∃ q1, s = q1 ∧ Has (fun _ => none) Me [.vec 37 2 r.length q1 (r.flatMap enc37)]

def glitch_held_2 (F : Nat) (hd1 : (List S_api_Segment) → Int → Int → Int → (List S_api_Segment) → Option ((List S_api_Segment))) (v10 : (List S_api_Segment)) (v11 : Int) (v12 : Int) (c22_0 : Int) (l52 : (List S_api_Segment)) : Option ((List S_api_Segment)) :=
  hd1 v10 v11 (w64 (v12 + (1 : Int))) c22_0 l52

theorem glitch_held_2_ok (F : Nat) (hd1 : (List S_api_Segment) → Int → Int → Int → (List S_api_Segment) → Option ((List S_api_Segment))) (hhd1 : ∀ (v10 : (List S_api_Segment)) (v11 : Int) (v12 : Int) (c22_0 : Int) (l24 : (List S_api_Segment)) (sv10 : SV) (b22 : Pos) (s24 : SV) (Fr : Rd) (M : Mem) (r : (List S_api_Segment)) (hv10 : Slc Fr 2 (FlatR enc37) sv10 v10) (hH : Has Fr M [.obj b22 (.row 3 .whole [(.int .i64 c22_0)]), .vec 37 2 l24.length s24 (l24.flatMap enc37)]), hd1 v10 v11 v12 c22_0 l24 = some r → Run Tryz.prog ⟨⟨81, [], none⟩, [.mk ⟨41, [], none⟩ 54 (treeOf []) [itemC Tryz.prog 41 [1, 0] 2, codeC Tryz.prog 41 [1, 1]]]⟩ 29 (glitch_held_post r) [(1, (.fn (.func 82) [] [(.ptr b22 0)])), (5, s24), (10, sv10), (11, (.int .i64 v11)), (12, (.int .i64 v12))] [codeC Tryz.prog 81 [1, 1, 0, 1, 0, 0], loopC Tryz.prog 81 [1, 1, 0, 1, 0, 0], .inBlock 0, codeC Tryz.prog 81 [1, 1, 1]] M) : ∀ (v10 : (List S_api_Segment)) (v11 : Int) (v12 : Int) (c22_0 : Int) (l52 : (List S_api_Segment)) (sv10 : SV) (b22 : Pos) (s52 : SV) (Fr : Rd) (M : Mem) (r : (List S_api_Segment)) (hv10 : Slc Fr 2 (FlatR enc37) sv10 v10) (hH : Has Fr M [.obj b22 (.row 3 .whole [(.int .i64 c22_0)]), .vec 37 2 l52.length s52 (l52.flatMap enc37)]), glitch_held_2 F hd1 v10 v11 v12 c22_0 l52 = some r → Run Tryz.prog ⟨⟨81, [], none⟩, [.mk ⟨41, [], none⟩ 54 (treeOf []) [itemC Tryz.prog 41 [1, 0] 2, codeC Tryz.prog 41 [1, 1]]]⟩ 29 (glitch_held_post r) [(1, (.fn (.func 82) [] [(.ptr b22 0)])), (5, s52), (10, sv10), (11, (.int .i64 v11)), (12, (.int .i64 v12))] [itemC Tryz.prog 81 [1, 1, 0, 1, 0, 0, 1, 1, 1] 0, loopC Tryz.prog 81 [1, 1, 0, 1, 0, 0], .inBlock 0, codeC Tryz.prog 81 [1, 1, 1]] M := by
  intro v10 v11 v12 c22_0 l52 sv10 b22 s52 Fr M r hv10 hH h
  rw [glitch_held_2] at h
  refine Run.opG wantS_none (ex_add rfl rfl) rfl ?_
  refine Run.opG wantS_none (ex_move rfl) rfl ?_
  refine Run.opsEnd (Run.inLoop ?_)
  exact Run.low (.cons (fle_pick [] rfl) .nil) (Run.pick [1, 5, 10, 11, 12] (hhd1 v10 v11 (w64 (v12 + (1 : Int))) c22_0 l52 sv10 b22 s52 _ _ _ hv10 hH h))

def glitch_held_5 (F : Nat) (hd3 : Int → Int → (List S_api_Segment) → (List S_api_Segment) → Option ((List S_api_Segment))) (v16 : Int) (v17 : Int) (l57 : (List S_api_Segment)) (l24 : (List S_api_Segment)) : Option ((List S_api_Segment)) :=
  hd3 v16 (w64 (v17 + (1 : Int))) l57 l24

theorem glitch_held_5_ok (F : Nat) (hd3 : Int → Int → (List S_api_Segment) → (List S_api_Segment) → Option ((List S_api_Segment))) (hhd3 : ∀ (v16 : Int) (v17 : Int) (l57 : (List S_api_Segment)) (l24 : (List S_api_Segment)) (s57 : SV) (s24 : SV) (Fr : Rd) (M : Mem) (r : (List S_api_Segment)) (hH : Has Fr M [.vec 37 2 l57.length s57 (l57.flatMap enc37), .vec 37 2 l24.length s24 (l24.flatMap enc37)]), hd3 v16 v17 l57 l24 = some r → Run Tryz.prog ⟨⟨41, [], none⟩, []⟩ 54 (glitch_held_post r) [(6, s57), (15, s24), (16, (.int .i64 v16)), (17, (.int .i64 v17))] [codeC Tryz.prog 41 [1, 1, 1, 1, 0, 1, 0, 0], loopC Tryz.prog 41 [1, 1, 1, 1, 0, 1, 0, 0], .inBlock 0, codeC Tryz.prog 41 [1, 1, 1, 1, 1]] M) : ∀ (v16 : Int) (v17 : Int) (l57 : (List S_api_Segment)) (l24 : (List S_api_Segment)) (s57 : SV) (s24 : SV) (Fr : Rd) (M : Mem) (r : (List S_api_Segment)) (hH : Has Fr M [.vec 37 2 l57.length s57 (l57.flatMap enc37), .vec 37 2 l24.length s24 (l24.flatMap enc37)]), glitch_held_5 F hd3 v16 v17 l57 l24 = some r → Run Tryz.prog ⟨⟨41, [], none⟩, []⟩ 54 (glitch_held_post r) [(6, s57), (15, s24), (16, (.int .i64 v16)), (17, (.int .i64 v17))] [itemC Tryz.prog 41 [1, 1, 1, 1, 0, 1, 0, 0, 1, 1, 1] 0, loopC Tryz.prog 41 [1, 1, 1, 1, 0, 1, 0, 0], .inBlock 0, codeC Tryz.prog 41 [1, 1, 1, 1, 1]] M := by
  intro v16 v17 l57 l24 s57 s24 Fr M r hH h
  rw [glitch_held_5] at h
  refine Run.opG wantS_none (ex_add rfl rfl) rfl ?_
  refine Run.opG wantS_none (ex_move rfl) rfl ?_
  refine Run.opsEnd (Run.inLoop ?_)
  exact Run.pick [6, 15, 16, 17] (hhd3 v16 (w64 (v17 + (1 : Int))) l57 l24 s57 s24 _ _ _ hH h)

def glitch_held_4 (F : Nat) (hd3 : Int → Int → (List S_api_Segment) → (List S_api_Segment) → Option ((List S_api_Segment))) (v9 : Int) (v16 : Int) (v17 : Int) (v35 : Bool) (c63 : S_api_Segment) (l57 : (List S_api_Segment)) (l24 : (List S_api_Segment)) : Option ((List S_api_Segment)) :=
  bif v35 then
    bnd (idx l57 v9) fun x69 =>
    bnd (inn l57 v9) fun o70 =>
    bnd (l57[o70]?) fun x71 =>
    bnd (upd l57 o70 (S_api_Segment.mk x71.From (max x69.To c63.To))) fun l71 =>
    glitch_held_5 F hd3 v16 v17 l71 l24
  else
    bnd (apd 16 l57 ([c63] : List S_api_Segment)) fun l78 =>
    glitch_held_5 F hd3 v16 v17 l78 l24

theorem glitch_held_4_ok (F : Nat) (hd3 : Int → Int → (List S_api_Segment) → (List S_api_Segment) → Option ((List S_api_Segment))) (hhd3 : ∀ (v16 : Int) (v17 : Int) (l57 : (List S_api_Segment)) (l24 : (List S_api_Segment)) (s57 : SV) (s24 : SV) (Fr : Rd) (M : Mem) (r : (List S_api_Segment)) (hH : Has Fr M [.vec 37 2 l57.length s57 (l57.flatMap enc37), .vec 37 2 l24.length s24 (l24.flatMap enc37)]), hd3 v16 v17 l57 l24 = some r → Run Tryz.prog ⟨⟨41, [], none⟩, []⟩ 54 (glitch_held_post r) [(6, s57), (15, s24), (16, (.int .i64 v16)), (17, (.int .i64 v17))] [codeC Tryz.prog 41 [1, 1, 1, 1, 0, 1, 0, 0], loopC Tryz.prog 41 [1, 1, 1, 1, 0, 1, 0, 0], .inBlock 0, codeC Tryz.prog 41 [1, 1, 1, 1, 1]] M) : ∀ (v9 : Int) (v16 : Int) (v17 : Int) (v35 : Bool) (c63 : S_api_Segment) (l57 : (List S_api_Segment)) (l24 : (List S_api_Segment)) (s57 : SV) (b63 : Pos) (s24 : SV) (Fr : Rd) (M : Mem) (r : (List S_api_Segment)) (hH : Has Fr M [.vec 37 2 l57.length s57 (l57.flatMap enc37), .obj b63 (.row 37 .whole [(.int .i64 c63.From), (.int .i64 c63.To)]), .vec 37 2 l24.length s24 (l24.flatMap enc37)]), glitch_held_4 F hd3 v9 v16 v17 v35 c63 l57 l24 = some r → Run Tryz.prog ⟨⟨41, [], none⟩, []⟩ 54 (glitch_held_post r) [(6, s57), (8, (.ptr b63 0)), (9, (.int .i64 v9)), (15, s24), (16, (.int .i64 v16)), (17, (.int .i64 v17)), (35, (.bool v35))] [codeC Tryz.prog 41 [1, 1, 1, 1, 0, 1, 0, 0, 1, 1, 0, 0, 1, 1, 1], .inBlock 1, codeC Tryz.prog 41 [1, 1, 1, 1, 0, 1, 0, 0, 1, 1, 1], loopC Tryz.prog 41 [1, 1, 1, 1, 0, 1, 0, 0], .inBlock 0, codeC Tryz.prog 41 [1, 1, 1, 1, 1]] M := by
  intro v9 v16 v17 v35 c63 l57 l24 s57 b63 s24 Fr M r hH h
  rw [glitch_held_4] at h
  rcases btf (v35) with hc68 | hc68
  · have h := bif_t hc68 h
    refine Run.condT' rfl hc68 ?_
    refine Run.drawG plan41_1_1_1_1_0_1_0_0_1_1_0_0_1_1_1_0 ?_
    refine DrawG.fl rfl (ev_ex wantS_none (ex_move rfl)) rfl ?_
    refine DrawG.fl rfl (ev_ex wantS_none (ex_move rfl)) rfl ?_
    refine DrawG.fl rfl (ev_ex wantS_none (ex_move rfl)) rfl ?_
    refine DrawG.fl rfl (ev_ex wantS_none (ex_move rfl)) rfl ?_
    obtain ⟨x69, hx69, h⟩ := bnd_some h
    obtain ⟨p69, o69, hb69, hx69, he69⟩ := vec_elem (P := Tryz.prog) (t := 31) (kk := .i64) hH (i := 0) rfl hx69 els31
    refine DrawG.fl rfl (ev_ex wantS_none (ex_elX rfl rfl hx69)) rfl ?_
    refine DrawG.fl rfl (ev_ex wantS_none (ex_fieldAddr rfl off37_1)) rfl ?_
    refine DrawG.fl rfl (ev_ex wantS_none (ex_load1 rfl ((hH.at (enc := enc37) (a := x69) (i := 0) rfl hb69 he69 enc37_len).fld (o := 1) rfl) rdLe_rfl agg3)) rfl ?_
    refine DrawG.fl rfl (ev_ex wantS_none (ex_fieldAddr rfl off37_1)) rfl ?_
    refine DrawG.fl rfl (ev_ex wantS_none (ex_load1 rfl (hH.cells (i := 1) rfl 1 rfl) rdLe_rfl agg3)) rfl ?_
    refine DrawG.fl rfl (ev_ex wantS_none (ex_max rfl rfl)) rfl ?_
    obtain ⟨o70, ho70, h⟩ := bnd_some h
    obtain ⟨p70, hb70, hx70⟩ := vec_place (P := Tryz.prog) (t := 31) (kk := .i64) hH (i := 0) rfl ho70 els31
    refine DrawG.fl rfl (ev_ex wantS_none (ex_elX rfl rfl hx70)) rfl ?_
    refine DrawG.fl rfl (ev_ex wantS_none (ex_fieldAddr rfl off37_1)) rfl ?_
    obtain ⟨x71, hx71, h⟩ := bnd_some h
    obtain ⟨l71, hl71, h⟩ := bnd_some h
    refine DrawG.opX rfl wantS_none rfl (ExG.storeFld (o := 1) rfl rfl hH (i := 0) rfl hb70 hx71 hl71 sz3 rfl rfl rfl rfl enc37_len) ?_
    rintro _ M72 ⟨rfl, (hH72 : Has Fr M72 [.vec 37 2 l71.length s57 (l71.flatMap enc37), .obj b63 (.row 37 .whole [(.int .i64 c63.From), (.int .i64 c63.To)]), .vec 37 2 l24.length s24 (l24.flatMap enc37)])⟩
    refine ⟨st_nil, ?_⟩
    refine DrawG.sync ?_
    refine DrawG.nil ?_
    refine Run.inBlock (Run.region ?_)
    exact Run.pick [6, 15, 16, 17] (glitch_held_5_ok F hd3 hhd3 v16 v17 l71 l24 s57 s24 _ _ _ (hH72.pick [0, 2] rfl rfl) h)
  · have h := bif_f hc68 h
    refine Run.condF' rfl hc68 ?_
    refine Run.region ?_
    refine Run.opG wantS_none (ex_move rfl) rfl ?_
    refine Run.opG wantS_none (ex_loadA rfl (hH.cells (i := 1) rfl 0 rfl) rdLe_rfl agg37 rfl rfl rfl) rfl ?_
    refine Run.opX wantS_none rfl (ExG.built (enc := enc37) (l := ([c63] : List S_api_Segment)) (z := 2) rfl elt31 rfl rfl rfl enc37_len hH) ?_
    rintro s74 M75 (hH75 : Has Fr M75 [.vec 37 2 ([c63] : List S_api_Segment).length s74 (([c63] : List S_api_Segment).flatMap enc37), .vec 37 2 l57.length s57 (l57.flatMap enc37), .obj b63 (.row 37 .whole [(.int .i64 c63.From), (.int .i64 c63.To)]), .vec 37 2 l24.length s24 (l24.flatMap enc37)])
    obtain ⟨l78, hl78, h⟩ := bnd_some h
    refine Run.opX wantS_none rfl (ExG.append rfl rfl hH75 (i := 1) rfl enc37_len rfl enc37_ones appt31_31 rfl (len_slc (hH75.slc (i := 0) rfl enc37_len)) (first_slc (hH75.slc (i := 0) rfl enc37_len) (rdLe_rdRow _) enc37_len) hl78) ?_
    rintro s78 M80 (hH80 : Has Fr M80 [.vec 37 2 ([c63] : List S_api_Segment).length s74 (([c63] : List S_api_Segment).flatMap enc37), .vec 37 2 l78.length s78 (l78.flatMap enc37), .obj b63 (.row 37 .whole [(.int .i64 c63.From), (.int .i64 c63.To)]), .vec 37 2 l24.length s24 (l24.flatMap enc37)])
    refine Run.opG wantS_none (ex_assign rfl) rfl ?_
    refine Run.opsEnd (Run.inBlock (Run.region ?_))
    exact Run.pick [6, 15, 16, 17] (glitch_held_5_ok F hd3 hhd3 v16 v17 l78 l24 s78 s24 _ _ _ (hH80.pick [1, 3] rfl rfl) h)

def glitch_held_3 (F : Nat) : Nat → Int → Int → (List S_api_Segment) → (List S_api_Segment) → Option ((List S_api_Segment))
  | 0, _, _, _, _ => none
  | N + 1, v16, v17, l57, l24 =>
    bif (decide (v17 < v16)) then
      bnd (idx l24 v17) fun x61 =>
      bif (decide ((0 : Int) ≤ (w64 ((l57.length : Int) - (1 : Int))))) then
        bnd (idx l57 (w64 ((l57.length : Int) - (1 : Int)))) fun x67 =>
        glitch_held_4 F (glitch_held_3 F N) (w64 ((l57.length : Int) - (1 : Int))) v16 v17 (decide (x61.From ≤ x67.To)) x61 l57 l24
      else
        glitch_held_4 F (glitch_held_3 F N) (w64 ((l57.length : Int) - (1 : Int))) v16 v17 false x61 l57 l24
    else
      some l57

theorem glitch_held_3_ok (F : Nat) : ∀ (N : Nat), ∀ (v16 : Int) (v17 : Int) (l57 : (List S_api_Segment)) (l24 : (List S_api_Segment)) (s57 : SV) (s24 : SV) (Fr : Rd) (M : Mem) (r : (List S_api_Segment)) (hH : Has Fr M [.vec 37 2 l57.length s57 (l57.flatMap enc37), .vec 37 2 l24.length s24 (l24.flatMap enc37)]), glitch_held_3 F N v16 v17 l57 l24 = some r → Run Tryz.prog ⟨⟨41, [], none⟩, []⟩ 54 (glitch_held_post r) [(6, s57), (15, s24), (16, (.int .i64 v16)), (17, (.int .i64 v17))] [codeC Tryz.prog 41 [1, 1, 1, 1, 0, 1, 0, 0], loopC Tryz.prog 41 [1, 1, 1, 1, 0, 1, 0, 0], .inBlock 0, codeC Tryz.prog 41 [1, 1, 1, 1, 1]] M := by
  intro N
  induction N with
  | zero =>
    intro v16 v17 l57 l24 s57 s24 Fr M r hH h
    simp [glitch_held_3] at h
  | succ N ih =>
    intro v16 v17 l57 l24 s57 s24 Fr M r hH h
    rw [glitch_held_3] at h
    refine Run.seq (Run.region ?_)
    refine Run.opG wantS_none (ex_lss rfl rfl) rfl ?_
    refine Run.opsEnd (Run.seq ?_)
    rcases btf ((decide (v17 < v16))) with hc59 | hc59
    · have h := bif_t hc59 h
      refine Run.condT' rfl hc59 ?_
      refine Run.skip (Run.seq (Run.block (Run.seq (Run.region ?_))))
      obtain ⟨x61, hx61, h⟩ := bnd_some h
      obtain ⟨p61, o61, hb61, hx61, he61⟩ := vec_elem (P := Tryz.prog) (t := 31) (kk := .i64) hH (i := 1) rfl hx61 els31
      refine Run.opG wantS_none (ex_elX rfl rfl hx61) rfl ?_
      refine Run.opG wantS_none (ex_loadA rfl (hH.at (enc := enc37) (a := x61) (i := 1) rfl hb61 he61 enc37_len) rdLe_rfl agg37 rfl rfl rfl) rfl ?_
      refine Run.opX wantS_none rfl (ExG.new (v := fun b => .ptr b 0) (ex_alloc zer37) hH) ?_
      rintro _ M64 ⟨b63, rfl, (hH64 : Has Fr M64 [.obj b63 (.row 37 .whole [(.int .i64 0), (.int .i64 0)]), .vec 37 2 l57.length s57 (l57.flatMap enc37), .vec 37 2 l24.length s24 (l24.flatMap enc37)])⟩
      refine Run.opX wantS_none rfl (ExG.storeC (c' := [(.int .i64 x61.From), (.int .i64 x61.To)]) rfl rfl rfl hH64 (i := 0) rfl sz37 rfl rfl rfl rfl rfl) ?_
      rintro _ M65 ⟨rfl, (hH65 : Has Fr M65 [.obj b63 (.row 37 .whole [(.int .i64 x61.From), (.int .i64 x61.To)]), .vec 37 2 l57.length s57 (l57.flatMap enc37), .vec 37 2 l24.length s24 (l24.flatMap enc37)])⟩
      refine Run.opsEnd (Run.seq (Run.region ?_))
      refine Run.opG wantS_none (ex_move rfl) rfl ?_
      refine Run.opG wantS_none (ex_len' rfl (hH65.slc (i := 1) rfl enc37_len) lenk31) rfl ?_
      refine Run.opG wantS_none (ex_sub rfl rfl) rfl ?_
      refine Run.opG wantS_none (ex_assign rfl) rfl ?_
      refine Run.opsEnd (Run.seq ?_)
      refine Run.drawG plan41_1_1_1_1_0_1_0_0_1_1_0_0_1_1_0 ?_
      refine DrawG.fl rfl (ev_ex wantS_none (ex_move rfl)) rfl ?_
      refine DrawG.fl rfl (ev_ex wantS_none (ex_geq rfl rfl)) rfl ?_
      refine DrawG.fl rfl (ev_ex wantS_none (ex_move rfl)) rfl ?_
      rcases btf ((decide ((0 : Int) ≤ (w64 ((l57.length : Int) - (1 : Int)))))) with hc66 | hc66
      · have h := bif_t hc66 h
        refine DrawG.fl rfl (ev_ex (wantS_yes' rfl rfl hc66) (ex_fieldAddr rfl off37_0)) rfl ?_
        refine DrawG.fl rfl (ev_ex (wantS_yes' rfl rfl hc66) (ex_load1 rfl (hH65.cells (i := 0) rfl 0 rfl) rdLe_rfl agg3)) rfl ?_
        refine DrawG.fl rfl (ev_ex (wantS_yes' rfl rfl hc66) (ex_move rfl)) rfl ?_
        refine DrawG.fl rfl (ev_ex (wantS_yes' rfl rfl hc66) (ex_move rfl)) rfl ?_
        obtain ⟨x67, hx67, h⟩ := bnd_some h
        obtain ⟨p67, o67, hb67, hx67, he67⟩ := vec_elem (P := Tryz.prog) (t := 31) (kk := .i64) hH65 (i := 1) rfl hx67 els31
        refine DrawG.fl rfl (ev_ex (wantS_yes' rfl rfl hc66) (ex_elX rfl rfl hx67)) rfl ?_
        refine DrawG.fl rfl (ev_ex (wantS_yes' rfl rfl hc66) (ex_fieldAddr rfl off37_1)) rfl ?_
        refine DrawG.fl rfl (ev_ex (wantS_yes' rfl rfl hc66) (ex_load1 rfl ((hH65.at (enc := enc37) (a := x67) (i := 1) rfl hb67 he67 enc37_len).fld (o := 1) rfl) rdLe_rfl agg3)) rfl ?_
        refine DrawG.fl rfl (ev_ex (wantS_yes' rfl rfl hc66) (ex_leq rfl rfl)) rfl ?_
        refine DrawG.fl rfl (ev_ex wantS_none (ex_pickT' rfl hc66 rfl rfl)) rfl ?_
        refine DrawG.sync ?_
        refine DrawG.nil ?_
        exact Run.pick [6, 8, 9, 15, 16, 17, 35] (glitch_held_4_ok F (glitch_held_3 F N) ih (w64 ((l57.length : Int) - (1 : Int))) v16 v17 (decide (x61.From ≤ x67.To)) x61 l57 l24 s57 b63 s24 _ _ _ (hH65.pick [1, 0, 2] rfl rfl) h)
      · have h := bif_f hc66 h
        refine DrawG.fl rfl (ev_no (wantS_not' rfl rfl hc66)) rfl ?_
        refine DrawG.fl rfl (ev_no (wantS_not' rfl rfl hc66)) rfl ?_
        refine DrawG.fl rfl (ev_no (wantS_not' rfl rfl hc66)) rfl ?_
        refine DrawG.fl rfl (ev_no (wantS_not' rfl rfl hc66)) rfl ?_
        refine DrawG.fl rfl (ev_no (wantS_not' rfl rfl hc66)) rfl ?_
        refine DrawG.fl rfl (ev_no (wantS_not' rfl rfl hc66)) rfl ?_
        refine DrawG.fl rfl (ev_no (wantS_not' rfl rfl hc66)) rfl ?_
        refine DrawG.fl rfl (ev_no (wantS_not' rfl rfl hc66)) rfl ?_
        refine DrawG.fl rfl (ev_ex wantS_none (ex_pickF' rfl hc66 rfl rfl)) rfl ?_
        refine DrawG.sync ?_
        refine DrawG.nil ?_
        exact Run.pick [6, 8, 9, 15, 16, 17, 35] (glitch_held_4_ok F (glitch_held_3 F N) ih (w64 ((l57.length : Int) - (1 : Int))) v16 v17 false x61 l57 l24 s57 b63 s24 _ _ _ (hH65.pick [1, 0, 2] rfl rfl) h)
    · have h := bif_f hc59 h
      refine Run.condF' rfl hc59 ?_
      refine Run.exit rfl (Run.seq (Run.region ?_))
      refine Run.opG wantS_none (ex_move rfl) rfl ?_
      refine Run.opG wantS_none (ex_assign rfl) rfl ?_
      refine Run.opsEnd ?_
      cases h
      exact Run.ret Tryz.func41 rfl (res_tmp rfl res_nil) ⟨_, rfl, (hH.pick [0] rfl rfl).upF (none_le _)⟩

def glitch_held_1 (F : Nat) : Nat → (List S_api_Segment) → Int → Int → Int → (List S_api_Segment) → Option ((List S_api_Segment))
  | 0, _, _, _, _, _ => none
  | N + 1, v10, v11, v12, c22_0, l24 =>
    bif (decide (v12 < v11)) then
      bnd (idx v10 v12) fun x28 =>
      bif (decide (x28.From < (min x28.To c22_0))) then
        bnd (apd 16 l24 ([(S_api_Segment.mk x28.From (min x28.To c22_0))] : List S_api_Segment)) fun l51 =>
        glitch_held_2 F (glitch_held_1 F N) v10 v11 v12 c22_0 l51
      else
        glitch_held_2 F (glitch_held_1 F N) v10 v11 v12 c22_0 l24
    else
      bnd (sortP (fun a => a.From) l24) fun l55 =>
      glitch_held_3 F F (l55.length : Int) (0 : Int) ([] : List S_api_Segment) l55

theorem glitch_held_1_ok (F : Nat) : ∀ (N : Nat), ∀ (v10 : (List S_api_Segment)) (v11 : Int) (v12 : Int) (c22_0 : Int) (l24 : (List S_api_Segment)) (sv10 : SV) (b22 : Pos) (s24 : SV) (Fr : Rd) (M : Mem) (r : (List S_api_Segment)) (hv10 : Slc Fr 2 (FlatR enc37) sv10 v10) (hH : Has Fr M [.obj b22 (.row 3 .whole [(.int .i64 c22_0)]), .vec 37 2 l24.length s24 (l24.flatMap enc37)]), glitch_held_1 F N v10 v11 v12 c22_0 l24 = some r → Run Tryz.prog ⟨⟨81, [], none⟩, [.mk ⟨41, [], none⟩ 54 (treeOf []) [itemC Tryz.prog 41 [1, 0] 2, codeC Tryz.prog 41 [1, 1]]]⟩ 29 (glitch_held_post r) [(1, (.fn (.func 82) [] [(.ptr b22 0)])), (5, s24), (10, sv10), (11, (.int .i64 v11)), (12, (.int .i64 v12))] [codeC Tryz.prog 81 [1, 1, 0, 1, 0, 0], loopC Tryz.prog 81 [1, 1, 0, 1, 0, 0], .inBlock 0, codeC Tryz.prog 81 [1, 1, 1]] M := by
  intro N
  induction N with
  | zero =>
    intro v10 v11 v12 c22_0 l24 sv10 b22 s24 Fr M r hv10 hH h
    simp [glitch_held_1] at h
  | succ N ih =>
    intro v10 v11 v12 c22_0 l24 sv10 b22 s24 Fr M r hv10 hH h
    rw [glitch_held_1] at h
    refine Run.seq (Run.region ?_)
    refine Run.opG wantS_none (ex_lss rfl rfl) rfl ?_
    refine Run.opsEnd (Run.seq ?_)
    rcases btf ((decide (v12 < v11))) with hc26 | hc26
    · have h := bif_t hc26 h
      refine Run.condT' rfl hc26 ?_
      refine Run.skip (Run.seq (Run.block (Run.seq (Run.region ?_))))
      obtain ⟨x28, hx28, h⟩ := bnd_some h
      obtain ⟨p28, o28, _, hx28, hp28, rfl⟩ := sl_elem (P := Tryz.prog) (t := 31) (kk := .i64) hv10 hx28 els31
      refine Run.opG wantS_none (ex_elX rfl rfl hx28) rfl ?_
      refine Run.opG wantS_none (ex_loadA rfl (hH.ptrF hp28) rdLe_rfl agg37 rfl rfl rfl) rfl ?_
      refine Run.opX wantS_none rfl (ExG.new (v := fun b => .ptr b 0) (ex_alloc zer37) hH) ?_
      rintro _ M31 ⟨b30, rfl, (hH31 : Has Fr M31 [.obj b30 (.row 37 .whole [(.int .i64 0), (.int .i64 0)]), .obj b22 (.row 3 .whole [(.int .i64 c22_0)]), .vec 37 2 l24.length s24 (l24.flatMap enc37)])⟩
      refine Run.opX wantS_none rfl (ExG.storeC (c' := [(.int .i64 x28.From), (.int .i64 x28.To)]) rfl rfl rfl hH31 (i := 0) rfl sz37 rfl rfl rfl rfl rfl) ?_
      rintro _ M32 ⟨rfl, (hH32 : Has Fr M32 [.obj b30 (.row 37 .whole [(.int .i64 x28.From), (.int .i64 x28.To)]), .obj b22 (.row 3 .whole [(.int .i64 c22_0)]), .vec 37 2 l24.length s24 (l24.flatMap enc37)])⟩
      refine Run.opsEnd (Run.seq (Run.region ?_))
      refine Run.opG wantS_none (ex_move rfl) rfl ?_
      refine Run.opG wantS_none (ex_loadA rfl (hH32.cells (i := 0) rfl 0 rfl) rdLe_rfl agg37 rfl rfl rfl) rfl ?_
      refine Run.enter wantS_none (ex_closure rfl rfl mkk82 cal82) Tryz.func82 rfl rfl ?_
      refine Run.seq (Run.region ?_)
      refine Run.opX wantS_none rfl (ExG.box rfl rfl hH32) ?_
      rintro _ M35 ⟨b34, rfl, (hH35 : Has Fr M35 [.obj b34 (.row 37 .whole [(.int .i64 x28.From), (.int .i64 x28.To)]), .obj b30 (.row 37 .whole [(.int .i64 x28.From), (.int .i64 x28.To)]), .obj b22 (.row 3 .whole [(.int .i64 c22_0)]), .vec 37 2 l24.length s24 (l24.flatMap enc37)])⟩
      refine Run.opX wantS_none rfl (ExG.new (v := fun b => .ptr b 0) (ex_alloc zer37) hH35) ?_
      rintro _ M38 ⟨b37, rfl, (hH38 : Has Fr M38 [.obj b37 (.row 37 .whole [(.int .i64 0), (.int .i64 0)]), .obj b34 (.row 37 .whole [(.int .i64 x28.From), (.int .i64 x28.To)]), .obj b30 (.row 37 .whole [(.int .i64 x28.From), (.int .i64 x28.To)]), .obj b22 (.row 3 .whole [(.int .i64 c22_0)]), .vec 37 2 l24.length s24 (l24.flatMap enc37)])⟩
      refine Run.opG wantS_none (ex_assign rfl) rfl ?_
      refine Run.opsEnd (Run.seq (Run.region ?_))
      refine Run.opG wantS_none (ex_fieldAddr rfl off37_1) rfl ?_
      refine Run.opG wantS_none (ex_load1 rfl (hH38.cells (i := 1) rfl 1 rfl) rdLe_rfl agg3) rfl ?_
      refine Run.opG wantS_none (ex_load1 rfl (hH38.cells (i := 3) rfl 0 rfl) rdLe_rfl agg3) rfl ?_
      refine Run.opG wantS_none (ex_min rfl rfl) rfl ?_
      refine Run.opG wantS_none (ex_fieldAddr rfl off37_1) rfl ?_
      refine Run.opX wantS_none rfl (ExG.storeC (c' := [(.int .i64 x28.From), (.int .i64 (min x28.To c22_0))]) rfl rfl rfl hH38 (i := 1) rfl sz3 rfl rfl rfl rfl rfl) ?_
      rintro _ M39 ⟨rfl, (hH39 : Has Fr M39 [.obj b37 (.row 37 .whole [(.int .i64 0), (.int .i64 0)]), .obj b34 (.row 37 .whole [(.int .i64 x28.From), (.int .i64 (min x28.To c22_0))]), .obj b30 (.row 37 .whole [(.int .i64 x28.From), (.int .i64 x28.To)]), .obj b22 (.row 3 .whole [(.int .i64 c22_0)]), .vec 37 2 l24.length s24 (l24.flatMap enc37)])⟩
      refine Run.opsEnd (Run.seq ?_)
      refine Run.drawG plan82_1_1_0 ?_
      refine DrawG.fl rfl (ev_ex wantS_none (ex_loadA rfl (hH39.cells (i := 1) rfl 0 rfl) rdLe_rfl agg37 rfl rfl rfl)) rfl ?_
      refine DrawG.fl rfl (ev_ex wantS_none (ex_fieldAddr rfl off37_0)) rfl ?_
      refine DrawG.fl rfl (ev_ex wantS_none (ex_load1 rfl (hH39.cells (i := 1) rfl 0 rfl) rdLe_rfl agg3)) rfl ?_
      refine DrawG.fl rfl (ev_ex wantS_none (ex_fieldAddr rfl off37_1)) rfl ?_
      refine DrawG.fl rfl (ev_ex wantS_none (ex_load1 rfl (hH39.cells (i := 1) rfl 1 rfl) rdLe_rfl agg3)) rfl ?_
      refine DrawG.fl rfl (ev_ex wantS_none (ex_lss rfl rfl)) rfl ?_
      refine DrawG.opX rfl wantS_none rfl (ExG.storeC (c' := [(.int .i64 x28.From), (.int .i64 (min x28.To c22_0))]) rfl rfl rfl hH39 (i := 0) rfl sz37 rfl rfl rfl rfl rfl) ?_
      rintro _ M40 ⟨rfl, (hH40 : Has Fr M40 [.obj b37 (.row 37 .whole [(.int .i64 x28.From), (.int .i64 (min x28.To c22_0))]), .obj b34 (.row 37 .whole [(.int .i64 x28.From), (.int .i64 (min x28.To c22_0))]), .obj b30 (.row 37 .whole [(.int .i64 x28.From), (.int .i64 x28.To)]), .obj b22 (.row 3 .whole [(.int .i64 c22_0)]), .vec 37 2 l24.length s24 (l24.flatMap enc37)])⟩
      refine ⟨(st_cons rfl (ev_ex wantS_none (ex_lss rfl rfl)) rfl rfl rfl (st_cons rfl (ev_ex wantS_none (ex_load1 rfl (hH40.cells (i := 1) rfl 1 rfl) rdLe_rfl agg3)) rfl rfl rfl (st_cons rfl (ev_ex wantS_none (ex_fieldAddr rfl off37_1)) rfl rfl rfl (st_cons rfl (ev_ex wantS_none (ex_load1 rfl (hH40.cells (i := 1) rfl 0 rfl) rdLe_rfl agg3)) rfl rfl rfl (st_cons rfl (ev_ex wantS_none (ex_fieldAddr rfl off37_0)) rfl rfl rfl st_nil))))), ?_⟩
      refine DrawG.fl rfl (ev_ex wantS_none (ex_assign rfl)) rfl ?_
      refine DrawG.sync ?_
      refine DrawG.nil ?_
      refine Run.retTo Tryz.func82 rfl (res_cell rfl (x_load (ex_loadA rfl (hH40.cells (i := 0) rfl 0 rfl) rdLe_rfl agg37 rfl rfl rfl)) (res_tmp rfl res_nil)) rfl ?_
      refine Run.opG wantS_none (ex_move rfl) rfl ?_
      refine Run.opG wantS_none (ex_extract rfl rfl) rfl ?_
      refine Run.opG wantS_none (ex_extract rfl rfl) rfl ?_
      refine Run.opX wantS_none rfl (ExG.new (v := fun b => .ptr b 0) (ex_alloc zer37) hH40) ?_
      rintro _ M43 ⟨b42, rfl, (hH43 : Has Fr M43 [.obj b42 (.row 37 .whole [(.int .i64 0), (.int .i64 0)]), .obj b37 (.row 37 .whole [(.int .i64 x28.From), (.int .i64 (min x28.To c22_0))]), .obj b34 (.row 37 .whole [(.int .i64 x28.From), (.int .i64 (min x28.To c22_0))]), .obj b30 (.row 37 .whole [(.int .i64 x28.From), (.int .i64 x28.To)]), .obj b22 (.row 3 .whole [(.int .i64 c22_0)]), .vec 37 2 l24.length s24 (l24.flatMap enc37)])⟩
      refine Run.opX wantS_none rfl (ExG.storeC (c' := [(.int .i64 x28.From), (.int .i64 (min x28.To c22_0))]) rfl rfl rfl hH43 (i := 0) rfl sz37 rfl rfl rfl rfl rfl) ?_
      rintro _ M44 ⟨rfl, (hH44 : Has Fr M44 [.obj b42 (.row 37 .whole [(.int .i64 x28.From), (.int .i64 (min x28.To c22_0))]), .obj b37 (.row 37 .whole [(.int .i64 x28.From), (.int .i64 (min x28.To c22_0))]), .obj b34 (.row 37 .whole [(.int .i64 x28.From), (.int .i64 (min x28.To c22_0))]), .obj b30 (.row 37 .whole [(.int .i64 x28.From), (.int .i64 x28.To)]), .obj b22 (.row 3 .whole [(.int .i64 c22_0)]), .vec 37 2 l24.length s24 (l24.flatMap enc37)])⟩
      refine Run.opG wantS_none (ex_assign rfl) rfl ?_
      refine Run.opsEnd (Run.seq (Run.region ?_))
      refine Run.opG wantS_none (ex_move rfl) rfl ?_
      refine Run.opsEnd ?_
      rcases btf ((decide (x28.From < (min x28.To c22_0)))) with hc45 | hc45
      · have h := bif_t hc45 h
        refine Run.condT' rfl hc45 ?_
        refine Run.region ?_
        refine Run.opG wantS_none (ex_move rfl) rfl ?_
        refine Run.opG wantS_none (ex_loadA rfl (hH44.cells (i := 0) rfl 0 rfl) rdLe_rfl agg37 rfl rfl rfl) rfl ?_
        refine Run.opX wantS_none rfl (ExG.built (enc := enc37) (l := ([(S_api_Segment.mk x28.From (min x28.To c22_0))] : List S_api_Segment)) (z := 2) rfl elt31 rfl rfl rfl enc37_len hH44) ?_
        rintro s47 M48 (hH48 : Has Fr M48 [.vec 37 2 ([(S_api_Segment.mk x28.From (min x28.To c22_0))] : List S_api_Segment).length s47 (([(S_api_Segment.mk x28.From (min x28.To c22_0))] : List S_api_Segment).flatMap enc37), .obj b42 (.row 37 .whole [(.int .i64 x28.From), (.int .i64 (min x28.To c22_0))]), .obj b37 (.row 37 .whole [(.int .i64 x28.From), (.int .i64 (min x28.To c22_0))]), .obj b34 (.row 37 .whole [(.int .i64 x28.From), (.int .i64 (min x28.To c22_0))]), .obj b30 (.row 37 .whole [(.int .i64 x28.From), (.int .i64 x28.To)]), .obj b22 (.row 3 .whole [(.int .i64 c22_0)]), .vec 37 2 l24.length s24 (l24.flatMap enc37)])
        obtain ⟨l51, hl51, h⟩ := bnd_some h
        refine Run.opX wantS_none rfl (ExG.append rfl rfl hH48 (i := 6) rfl enc37_len rfl enc37_ones appt31_31 rfl (len_slc (hH48.slc (i := 0) rfl enc37_len)) (first_slc (hH48.slc (i := 0) rfl enc37_len) (rdLe_rdRow _) enc37_len) hl51) ?_
        rintro s51 M53 (hH53 : Has Fr M53 [.vec 37 2 ([(S_api_Segment.mk x28.From (min x28.To c22_0))] : List S_api_Segment).length s47 (([(S_api_Segment.mk x28.From (min x28.To c22_0))] : List S_api_Segment).flatMap enc37), .obj b42 (.row 37 .whole [(.int .i64 x28.From), (.int .i64 (min x28.To c22_0))]), .obj b37 (.row 37 .whole [(.int .i64 x28.From), (.int .i64 (min x28.To c22_0))]), .obj b34 (.row 37 .whole [(.int .i64 x28.From), (.int .i64 (min x28.To c22_0))]), .obj b30 (.row 37 .whole [(.int .i64 x28.From), (.int .i64 x28.To)]), .obj b22 (.row 3 .whole [(.int .i64 c22_0)]), .vec 37 2 l51.length s51 (l51.flatMap enc37)])
        refine Run.opG wantS_none (ex_assign rfl) rfl ?_
        refine Run.opsEnd (Run.inBlock (Run.region ?_))
        exact Run.low (.cons (fle_pick [] rfl) .nil) (Run.pick [1, 5, 10, 11, 12] (glitch_held_2_ok F (glitch_held_1 F N) ih v10 v11 v12 c22_0 l51 sv10 b22 s51 _ _ _ hv10 (hH53.pick [5, 6] rfl rfl) h))
      · have h := bif_f hc45 h
        refine Run.condF' rfl hc45 ?_
        refine Run.skip (Run.inBlock (Run.region ?_))
        exact Run.low (.cons (fle_pick [] rfl) .nil) (Run.pick [1, 5, 10, 11, 12] (glitch_held_2_ok F (glitch_held_1 F N) ih v10 v11 v12 c22_0 l24 sv10 b22 s24 _ _ _ hv10 (hH44.pick [4, 5] rfl rfl) h))
    · have h := bif_f hc26 h
      refine Run.condF' rfl hc26 ?_
      refine Run.exit rfl (Run.seq (Run.region ?_))
      refine Run.opG wantS_none (ex_move rfl) rfl ?_
      refine Run.opG wantS_none (ex_assign rfl) rfl ?_
      refine Run.opsEnd ?_
      refine Run.retTo Tryz.func81 rfl (res_tmp rfl res_nil) rfl ?_
      refine Run.opG wantS_none (ex_assign rfl) rfl ?_
      refine Run.opsEnd (Run.seq (Run.region ?_))
      refine Run.opG wantS_none (ex_move rfl) rfl ?_
      obtain ⟨l55, hl55, h⟩ := bnd_some h
      refine Run.callX wantS_none (ex_call rfl mkk83 cal83) rfl ((sort83 enc37 (fun a => a.From) (fun a => a.To) (fun _ => rfl)).callsP hH (i := 1) rfl hl55) ?_
      rintro _ M56 ⟨rfl, (hH56 : Has Fr M56 [.obj b22 (.row 3 .whole [(.int .i64 c22_0)]), .vec 37 2 l55.length s24 (l55.flatMap enc37)])⟩
      refine Run.opsEnd (Run.seq (Run.region ?_))
      refine Run.opG wantS_none (ex_assign rfl) rfl ?_
      refine Run.opsEnd (Run.seq (Run.seq (Run.region ?_)))
      refine Run.opG wantS_none (ex_move rfl) rfl ?_
      refine Run.opG wantS_none (ex_len' rfl (hH56.slc (i := 1) rfl enc37_len) lenk31) rfl ?_
      refine Run.opG wantS_none (ex_move rfl) rfl ?_
      refine Run.opsEnd (Run.block (Run.loop ?_))
      have hH58 : Has Fr M56 [.vec 37 2 ([] : List S_api_Segment).length .nils (([] : List S_api_Segment).flatMap enc37), .obj b22 (.row 3 .whole [(.int .i64 c22_0)]), .vec 37 2 l55.length s24 (l55.flatMap enc37)] := hH56.nils 37 2
      exact Run.pick [6, 15, 16, 17] (glitch_held_3_ok F F (l55.length : Int) (0 : Int) ([] : List S_api_Segment) l55 .nils s24 _ _ _ (hH58.pick [0, 2] rfl rfl) h)

def glitch_held (F : Nat) (a0 : (List S_api_Segment)) (a1 : Int) : Option ((List S_api_Segment)) :=
  glitch_held_1 F F a0 (a0.length : Int) (0 : Int) a1 ([] : List S_api_Segment)

theorem glitch_held_ok (F : Nat) (a0 : (List S_api_Segment)) (a1 : Int) (s0 : SV) (r : (List S_api_Segment)) (M : Mem) (hs0 : Slc (rd M) 2 (FlatR enc37) s0 a0) (h : glitch_held F a0 a1 = some r) : CallsM Tryz.prog 41 [s0, (.int .i64 a1)] M (fun s M' => ∃ q1, s = q1 ∧ New M M' [.vec 37 2 r.length q1 (r.flatMap enc37)]) := by
  refine CallsM.fresh (Q := glitch_held_post r) Tryz.func41 rfl rfl ?_ (by rintro s Me ⟨q1, rfl, hx⟩ ha hw; exact ⟨_, rfl, New.of rfl hx ha hw⟩)
  rw [glitch_held] at h
  replace hs0 := hs0.mono (rdLe_frozen M) (fun _ _ h => h)
  have hH := Has.nil (frozen M)
  refine Run.seq (Run.region ?_)
  refine Run.opX wantS_none rfl (ExG.box rfl rfl hH) ?_
  rintro _ M23 ⟨b22, rfl, (hH23 : Has (ro (frozen M)) M23 [.obj b22 (.row 3 .whole [(.int .i64 a1)])])⟩
  refine Run.opG wantS_none (ex_assign rfl) rfl ?_
  refine Run.opsEnd (Run.seq (Run.region ?_))
  refine Run.opG wantS_none (ex_move rfl) rfl ?_
  refine Run.opG wantS_none (ex_makeFunc rfl rfl) rfl ?_
  refine Run.enter wantS_none (ex_call rfl mkk81 cal81) Tryz.func81 rfl rfl ?_
  refine Run.seq (Run.region ?_)
  refine Run.opG wantS_none (ex_assign rfl) rfl ?_
  refine Run.opsEnd (Run.seq (Run.region ?_))
  refine Run.opG wantS_none (ex_assign rfl) rfl ?_
  refine Run.opsEnd (Run.seq (Run.seq (Run.region ?_)))
  refine Run.opG wantS_none (ex_move rfl) rfl ?_
  refine Run.opG wantS_none (ex_len' rfl hs0 lenk31) rfl ?_
  refine Run.opG wantS_none (ex_move rfl) rfl ?_
  refine Run.opsEnd (Run.block (Run.loop ?_))
  have hH25 : Has (ro (frozen M)) M23 [.vec 37 2 ([] : List S_api_Segment).length .nils (([] : List S_api_Segment).flatMap enc37), .obj b22 (.row 3 .whole [(.int .i64 a1)])] := hH23.nils 37 2
  exact Run.low (.cons (fle_pick [] rfl) .nil) (Run.pick [1, 5, 10, 11, 12] (glitch_held_1_ok F F a0 (a0.length : Int) (0 : Int) a1 ([] : List S_api_Segment) s0 b22 .nils _ _ _ hs0 (hH25.pick [1, 0] rfl rfl) h))

theorem mkk41 : makeK Tryz.prog 41 = none := by kernel_rfl
theorem cal41 : callable Tryz.prog 41 = true := by kernel_rfl
abbrev glitch_dead_post (r : Int) : SV → Mem → Prop := fun s _ => s = (.int .i64 r)

def glitch_dead_2 (F : Nat) : Nat → Int → Int → Int → (List S_api_Segment) → Option (Int)
  | 0, _, _, _, _ => none
  | N + 1, v8, v25, v26, l38 =>
    bif (decide (v26 < v25)) then
      bnd (idx l38 v26) fun x42 =>
      (glitch_dead_2 F N) (w64 (v8 + (w64 (x42.To - x42.From)))) v25 (w64 (v26 + (1 : Int))) l38
    else
      some v8

theorem glitch_dead_2_ok (F : Nat) : ∀ (N : Nat), ∀ (v8 : Int) (v25 : Int) (v26 : Int) (l38 : (List S_api_Segment)) (s38 : SV) (Fr : Rd) (M : Mem) (r : Int) (hH : Has Fr M [.vec 37 2 l38.length s38 (l38.flatMap enc37)]), glitch_dead_2 F N v8 v25 v26 l38 = some r → Run Tryz.prog ⟨⟨31, [], none⟩, []⟩ 39 (glitch_dead_post r) [(8, (.int .i64 v8)), (24, s38), (25, (.int .i64 v25)), (26, (.int .i64 v26))] [codeC Tryz.prog 31 [1, 1, 1, 1, 0, 1, 0, 0], loopC Tryz.prog 31 [1, 1, 1, 1, 0, 1, 0, 0], .inBlock 2, codeC Tryz.prog 31 [1, 1, 1, 1, 1]] M := by
  intro N
  induction N with
  | zero =>
    intro v8 v25 v26 l38 s38 Fr M r hH h
    simp [glitch_dead_2] at h
  | succ N ih =>
    intro v8 v25 v26 l38 s38 Fr M r hH h
    rw [glitch_dead_2] at h
    refine Run.seq (Run.region ?_)
    refine Run.opG wantS_none (ex_lss rfl rfl) rfl ?_
    refine Run.opsEnd (Run.seq ?_)
    rcases btf ((decide (v26 < v25))) with hc40 | hc40
    · have h := bif_t hc40 h
      refine Run.condT' rfl hc40 ?_
      refine Run.skip (Run.seq (Run.block (Run.seq (Run.region ?_))))
      obtain ⟨x42, hx42, h⟩ := bnd_some h
      obtain ⟨p42, o42, hb42, hx42, he42⟩ := vec_elem (P := Tryz.prog) (t := 31) (kk := .i64) hH (i := 0) rfl hx42 els31
      refine Run.opG wantS_none (ex_elX rfl rfl hx42) rfl ?_
      refine Run.opG wantS_none (ex_loadA rfl (hH.at (enc := enc37) (a := x42) (i := 0) rfl hb42 he42 enc37_len) rdLe_rfl agg37 rfl rfl rfl) rfl ?_
      refine Run.opX wantS_none rfl (ExG.new (v := fun b => .ptr b 0) (ex_alloc zer37) hH) ?_
      rintro _ M45 ⟨b44, rfl, (hH45 : Has Fr M45 [.obj b44 (.row 37 .whole [(.int .i64 0), (.int .i64 0)]), .vec 37 2 l38.length s38 (l38.flatMap enc37)])⟩
      refine Run.opX wantS_none rfl (ExG.storeC (c' := [(.int .i64 x42.From), (.int .i64 x42.To)]) rfl rfl rfl hH45 (i := 0) rfl sz37 rfl rfl rfl rfl rfl) ?_
      rintro _ M46 ⟨rfl, (hH46 : Has Fr M46 [.obj b44 (.row 37 .whole [(.int .i64 x42.From), (.int .i64 x42.To)]), .vec 37 2 l38.length s38 (l38.flatMap enc37)])⟩
      refine Run.opsEnd (Run.region ?_)
      refine Run.opG wantS_none (ex_move rfl) rfl ?_
      refine Run.opG wantS_none (ex_fieldAddr rfl off37_1) rfl ?_
      refine Run.opG wantS_none (ex_load1 rfl (hH46.cells (i := 0) rfl 1 rfl) rdLe_rfl agg3) rfl ?_
      refine Run.opG wantS_none (ex_fieldAddr rfl off37_0) rfl ?_
      refine Run.opG wantS_none (ex_load1 rfl (hH46.cells (i := 0) rfl 0 rfl) rdLe_rfl agg3) rfl ?_
      refine Run.opG wantS_none (ex_sub rfl rfl) rfl ?_
      refine Run.opG wantS_none (ex_add rfl rfl) rfl ?_
      refine Run.opG wantS_none (ex_assign rfl) rfl ?_
      refine Run.opsEnd (Run.inBlock (Run.region ?_))
      refine Run.opG wantS_none (ex_add rfl rfl) rfl ?_
      refine Run.opG wantS_none (ex_move rfl) rfl ?_
      refine Run.opsEnd (Run.inLoop ?_)
      exact Run.pick [8, 24, 25, 26] (ih (w64 (v8 + (w64 (x42.To - x42.From)))) v25 (w64 (v26 + (1 : Int))) l38 s38 _ _ _ (hH46.pick [1] rfl rfl) h)
    · have h := bif_f hc40 h
      refine Run.condF' rfl hc40 ?_
      refine Run.exit rfl (Run.seq (Run.region ?_))
      refine Run.opG wantS_none (ex_move rfl) rfl ?_
      refine Run.opG wantS_none (ex_assign rfl) rfl ?_
      refine Run.opsEnd ?_
      cases h
      exact Run.ret Tryz.func31 rfl (res_tmp rfl res_nil) rfl

def glitch_dead_1 (F : Nat) : Nat → Int → (List S_api_Veto) → Int → Int → (List S_api_Segment) → Option (Int)
  | 0, _, _, _, _, _ => none
  | N + 1, v1, v11, v12, v13, l21 =>
    bif (decide (v13 < v12)) then
      bnd (idx v11 v13) fun x25 =>
      bnd (apd 16 l21 x25.Segments) fun l32 =>
      (glitch_dead_1 F N) v1 v11 v12 (w64 (v13 + (1 : Int))) l32
    else
      bnd (glitch_held F l21 v1) fun r37 =>
      glitch_dead_2 F F (0 : Int) (r37.length : Int) (0 : Int) r37

theorem glitch_dead_1_ok (F : Nat) : ∀ (N : Nat), ∀ (v1 : Int) (v11 : (List S_api_Veto)) (v12 : Int) (v13 : Int) (l21 : (List S_api_Segment)) (sv11 : SV) (s21 : SV) (Fr : Rd) (M : Mem) (r : Int) (hv11 : Slc Fr 2 (rep35 Fr) sv11 v11) (hH : Has Fr M [.vec 37 2 l21.length s21 (l21.flatMap enc37)]), glitch_dead_1 F N v1 v11 v12 v13 l21 = some r → Run Tryz.prog ⟨⟨31, [], none⟩, []⟩ 39 (glitch_dead_post r) [(1, (.int .i64 v1)), (5, s21), (11, sv11), (12, (.int .i64 v12)), (13, (.int .i64 v13))] [codeC Tryz.prog 31 [1, 1, 0, 1, 0, 0], loopC Tryz.prog 31 [1, 1, 0, 1, 0, 0], .inBlock 0, codeC Tryz.prog 31 [1, 1, 1]] M := by
  intro N
  induction N with
  | zero =>
    intro v1 v11 v12 v13 l21 sv11 s21 Fr M r hv11 hH h
    simp [glitch_dead_1] at h
  | succ N ih =>
    intro v1 v11 v12 v13 l21 sv11 s21 Fr M r hv11 hH h
    rw [glitch_dead_1] at h
    refine Run.seq (Run.region ?_)
    refine Run.opG wantS_none (ex_lss rfl rfl) rfl ?_
    refine Run.opsEnd (Run.seq ?_)
    rcases btf ((decide (v13 < v12))) with hc23 | hc23
    · have h := bif_t hc23 h
      refine Run.condT' rfl hc23 ?_
      refine Run.skip (Run.seq (Run.block (Run.seq (Run.region ?_))))
      obtain ⟨x25, hx25, h⟩ := bnd_some h
      obtain ⟨p25, o25, _, hx25, hp25, ⟨q25_0, rfl, hq25_0⟩⟩ := sl_elem (P := Tryz.prog) (t := 22) (kk := .i64) hv11 hx25 els22
      refine Run.opG wantS_none (ex_elX rfl rfl hx25) rfl ?_
      refine Run.opG wantS_none (ex_loadA rfl (hH.ptrF hp25) rdLe_rfl agg35 rfl rfl rfl) rfl ?_
      refine Run.opX wantS_none rfl (ExG.new (v := fun b => .ptr b 0) (ex_alloc zer35) hH) ?_
      rintro _ M28 ⟨b27, rfl, (hH28 : Has Fr M28 [.obj b27 (.row 35 .whole [(.str []), .nils]), .vec 37 2 l21.length s21 (l21.flatMap enc37)])⟩
      refine Run.opX wantS_none rfl (ExG.storeC (c' := [(.str x25.Name), q25_0]) rfl rfl rfl hH28 (i := 0) rfl sz35 rfl rfl rfl (ones_cons rfl (ones_cons (slc_one hq25_0) ones_nil)) rfl) ?_
      rintro _ M29 ⟨rfl, (hH29 : Has Fr M29 [.obj b27 (.row 35 .whole [(.str x25.Name), q25_0]), .vec 37 2 l21.length s21 (l21.flatMap enc37)])⟩
      refine Run.opsEnd (Run.region ?_)
      refine Run.opG wantS_none (ex_move rfl) rfl ?_
      refine Run.opG wantS_none (ex_fieldAddr rfl off35_1) rfl ?_
      refine Run.opG wantS_none (ex_load1 rfl (hH29.cells (i := 0) rfl 1 rfl) rdLe_rfl agg31) rfl ?_
      obtain ⟨l32, hl32, h⟩ := bnd_some h
      refine Run.opX wantS_none rfl (ExG.append rfl rfl hH29 (i := 1) rfl enc37_len rfl enc37_ones appt31_31 rfl (len_slc hq25_0) (first_slc hq25_0 (rdLe_roF hH29) enc37_len) hl32) ?_
      rintro s32 M34 (hH34 : Has Fr M34 [.obj b27 (.row 35 .whole [(.str x25.Name), q25_0]), .vec 37 2 l32.length s32 (l32.flatMap enc37)])
      refine Run.opG wantS_none (ex_assign rfl) rfl ?_
      refine Run.opsEnd (Run.inBlock (Run.region ?_))
      refine Run.opG wantS_none (ex_add rfl rfl) rfl ?_
      refine Run.opG wantS_none (ex_move rfl) rfl ?_
      refine Run.opsEnd (Run.inLoop ?_)
      exact Run.pick [1, 5, 11, 12, 13] (ih v1 v11 v12 (w64 (v13 + (1 : Int))) l32 sv11 s32 _ _ _ hv11 (hH34.pick [1] rfl rfl) h)
    · have h := bif_f hc23 h
      refine Run.condF' rfl hc23 ?_
      refine Run.exit rfl (Run.seq (Run.region ?_))
      refine Run.opG wantS_none (ex_assign rfl) rfl ?_
      refine Run.opsEnd (Run.seq (Run.seq (Run.region ?_)))
      refine Run.opG wantS_none (ex_move rfl) rfl ?_
      refine Run.opG wantS_none (ex_move rfl) rfl ?_
      obtain ⟨r37, hr37, h⟩ := bnd_some h
      refine Run.callX wantS_none (ex_call rfl mkk41 cal41) rfl (glitch_held_ok F l21 v1 s21 _ _ (hH.slc (i := 0) rfl enc37_len) hr37) ?_
      rintro s37_0 M39 ⟨_, rfl, hN37⟩
      have hH39 : Has Fr M39 [.vec 37 2 r37.length s37_0 (r37.flatMap enc37), .vec 37 2 l21.length s21 (l21.flatMap enc37)] := hN37.1 _ _ hH
      refine Run.opG wantS_none (ex_len' rfl (hH39.slc (i := 0) rfl enc37_len) lenk31) rfl ?_
      refine Run.opG wantS_none (ex_move rfl) rfl ?_
      refine Run.opsEnd (Run.block (Run.loop ?_))
      exact Run.pick [8, 24, 25, 26] (glitch_dead_2_ok F F (0 : Int) (r37.length : Int) (0 : Int) r37 s37_0 _ _ _ (hH39.pick [0] rfl rfl) h)

def glitch_dead (F : Nat) (a0 : (List S_api_Veto)) (a1 : Int) : Option (Int) :=
  glitch_dead_1 F F a1 a0 (a0.length : Int) (0 : Int) ([] : List S_api_Segment)

theorem glitch_dead_ok (F : Nat) (a0 : (List S_api_Veto)) (a1 : Int) (s0 : SV) (r : Int) (M : Mem) (hs0 : Slc (rd M) 2 (rep35 (rd M)) s0 a0) (h : glitch_dead F a0 a1 = some r) : CallsM Tryz.prog 31 [s0, (.int .i64 a1)] M (fun s M' => s = (.int .i64 r) ∧ M' = M) := by
  refine CallsM.plain Tryz.func31 rfl rfl rfl (show Run _ _ _ (glitch_dead_post r) _ _ _ from ?_)
  rw [glitch_dead] at h
  replace hs0 := hs0.mono (rdLe_frozen M) (fun _ _ => rep35_mo (rdLe_frozen M))
  have hH := Has.nil (frozen M)
  refine Run.seq (Run.region ?_)
  refine Run.opG wantS_none (ex_assign rfl) rfl ?_
  refine Run.opsEnd (Run.seq (Run.region ?_))
  refine Run.opG wantS_none (ex_assign rfl) rfl ?_
  refine Run.opsEnd (Run.seq (Run.seq (Run.region ?_)))
  refine Run.opG wantS_none (ex_move rfl) rfl ?_
  refine Run.opG wantS_none (ex_len' rfl hs0 lenk22) rfl ?_
  refine Run.opG wantS_none (ex_move rfl) rfl ?_
  refine Run.opsEnd (Run.block (Run.loop ?_))
  have hH22 : Has (ro (frozen M)) (frozen M) [.vec 37 2 ([] : List S_api_Segment).length .nils (([] : List S_api_Segment).flatMap enc37)] := hH.nils 37 2
  exact Run.pick [1, 5, 11, 12, 13] (glitch_dead_1_ok F F a1 a0 (a0.length : Int) (0 : Int) ([] : List S_api_Segment) s0 .nils _ _ _ hs0 hH22 h)

theorem mkk31 : makeK Tryz.prog 31 = none := by kernel_rfl
theorem cal31 : callable Tryz.prog 31 = true := by kernel_rfl
abbrev glitch_Dead_post (r : Int × Int) : SV → Mem → Prop := fun s _ => s = (.tuple [(.int .i64 r.1), (.int .i64 r.2)])

def glitch_Dead (F : Nat) (a0 : (List S_api_Veto)) (a1 : Int) : Option (Int × Int) :=
  bnd (glitch_checkSpan F a0 a1) fun r22 =>
  bif (!(r22 == (0 : Int))) then
    some ((0 : Int), r22)
  else
    bnd (glitch_dead F a0 a1) fun r26 =>
    some (r26, (0 : Int))

theorem glitch_Dead_ok (F : Nat) (a0 : (List S_api_Veto)) (a1 : Int) (s0 : SV) (r : Int × Int) (M : Mem) (hs0 : Slc (rd M) 2 (rep35 (rd M)) s0 a0) (h : glitch_Dead F a0 a1 = some r) : CallsM Tryz.prog 10 [s0, (.int .i64 a1)] M (fun s M' => s = (.tuple [(.int .i64 r.1), (.int .i64 r.2)]) ∧ M' = M) := by
  refine CallsM.plain Tryz.func10 rfl rfl rfl (show Run _ _ _ (glitch_Dead_post r) _ _ _ from ?_)
  rw [glitch_Dead] at h
  replace hs0 := hs0.mono (rdLe_frozen M) (fun _ _ => rep35_mo (rdLe_frozen M))
  have hH := Has.nil (frozen M)
  refine Run.seq (Run.region ?_)
  refine Run.opG wantS_none (ex_assign rfl) rfl ?_
  refine Run.opG wantS_none (ex_assign rfl) rfl ?_
  refine Run.opsEnd (Run.seq (Run.seq (Run.region ?_)))
  refine Run.opG wantS_none (ex_move rfl) rfl ?_
  refine Run.opG wantS_none (ex_move rfl) rfl ?_
  obtain ⟨r22, hr22, h⟩ := bnd_some h
  refine Run.callP wantS_none (ex_call rfl mkk30 cal30) rfl (glitch_checkSpan_ok F a0 a1 s0 _ _ ((hs0).mono hH.le (fun _ _ => rep35_mo hH.le)) hr22) ?_
  refine Run.opG wantS_none (ex_assign rfl) rfl ?_
  refine Run.opsEnd (Run.seq (Run.region ?_))
  refine Run.opG wantS_none (ex_move rfl) rfl ?_
  refine Run.opG wantS_none (ex_neq rfl rfl) rfl ?_
  refine Run.opsEnd ?_
  rcases btf ((!(r22 == (0 : Int)))) with hc24 | hc24
  · have h := bif_t hc24 h
    refine Run.condT' rfl hc24 ?_
    refine Run.seq (Run.region ?_)
    refine Run.opG wantS_none (ex_move rfl) rfl ?_
    refine Run.opG wantS_none (ex_assign rfl) rfl ?_
    refine Run.opG wantS_none (ex_assign rfl) rfl ?_
    refine Run.opsEnd ?_
    cases h
    exact Run.ret Tryz.func10 rfl (res_tmp rfl (res_tmp rfl res_nil)) rfl
  · have h := bif_f hc24 h
    refine Run.condF' rfl hc24 ?_
    refine Run.skip (Run.seq (Run.region ?_))
    refine Run.opG wantS_none (ex_move rfl) rfl ?_
    refine Run.opG wantS_none (ex_move rfl) rfl ?_
    obtain ⟨r26, hr26, h⟩ := bnd_some h
    refine Run.callP wantS_none (ex_call rfl mkk31 cal31) rfl (glitch_dead_ok F a0 a1 s0 _ _ ((hs0).mono hH.le (fun _ _ => rep35_mo hH.le)) hr26) ?_
    refine Run.opG wantS_none (ex_assign rfl) rfl ?_
    refine Run.opG wantS_none (ex_assign rfl) rfl ?_
    refine Run.opsEnd ?_
    cases h
    exact Run.ret Tryz.func10 rfl (res_tmp rfl (res_tmp rfl res_nil)) rfl

theorem mkk10 : makeK Tryz.prog 10 = none := by kernel_rfl
theorem cal10 : callable Tryz.prog 10 = true := by kernel_rfl
theorem mkk11 : makeK Tryz.prog 11 = none := by kernel_rfl
theorem cal11 : callable Tryz.prog 11 = true := by kernel_rfl
def enc3 (a : Int) : List SV := [(.int .i64 a)]
theorem enc3_len (a : Int) : (enc3 a).length = 1 := rfl
theorem enc3_ones (a : Int) : ones (enc3 a) = true := rfl
theorem elt28 : sliceElt Tryz.prog 28 = some (⟨1, 8, [(.int .i64 0)], 3⟩ : Elt) := by kernel_rfl
theorem appt28_28 : appT Tryz.prog 28 28 = some (⟨1, 8, [(.int .i64 0)], 3⟩ : Elt) := by kernel_rfl
theorem lenk28 : lenK Tryz.prog 28 = some .sl := by kernel_rfl
theorem els28 : elems Tryz.prog 28 = some (.sl 1) := by kernel_rfl
abbrev glitch_areTimes_post (r : Bool) : SV → Mem → Prop := fun s _ => s = (.bool r)

def glitch_areTimes_1 (F : Nat) : Nat → Int → (List Int) → Int → Int → Option (Bool)
  | 0, _, _, _, _ => none
  | N + 1, v3, v9, v10, v11 =>
    bif (decide (v11 < v10)) then
      bnd (idx v9 v11) fun x24 =>
      bnd (glitch_isFrom F (w64 (v3 + (1 : Int))) x24 (1073741824 : Int)) fun r26 =>
      bif (!r26) then
        some false
      else
        (glitch_areTimes_1 F N) x24 v9 v10 (w64 (v11 + (1 : Int)))
    else
      some true

theorem glitch_areTimes_1_ok (F : Nat) : ∀ (N : Nat), ∀ (v3 : Int) (v9 : (List Int)) (v10 : Int) (v11 : Int) (sv9 : SV) (Fr : Rd) (M : Mem) (r : Bool) (hv9 : Slc Fr 1 (FlatR enc3) sv9 v9) (hH : Has Fr M []), glitch_areTimes_1 F N v3 v9 v10 v11 = some r → Run Tryz.prog ⟨⟨39, [], none⟩, []⟩ 22 (glitch_areTimes_post r) [(3, (.int .i64 v3)), (9, sv9), (10, (.int .i64 v10)), (11, (.int .i64 v11))] [codeC Tryz.prog 39 [1, 1, 1, 0, 1, 0, 0], loopC Tryz.prog 39 [1, 1, 1, 0, 1, 0, 0], .inBlock 0, codeC Tryz.prog 39 [1, 1, 1, 1]] M := by
  intro N
  induction N with
  | zero =>
    intro v3 v9 v10 v11 sv9 Fr M r hv9 hH h
    simp [glitch_areTimes_1] at h
  | succ N ih =>
    intro v3 v9 v10 v11 sv9 Fr M r hv9 hH h
    rw [glitch_areTimes_1] at h
    refine Run.seq (Run.region ?_)
    refine Run.opG wantS_none (ex_lss rfl rfl) rfl ?_
    refine Run.opsEnd (Run.seq ?_)
    rcases btf ((decide (v11 < v10))) with hc22 | hc22
    · have h := bif_t hc22 h
      refine Run.condT' rfl hc22 ?_
      refine Run.skip (Run.seq (Run.block (Run.seq (Run.region ?_))))
      obtain ⟨x24, hx24, h⟩ := bnd_some h
      obtain ⟨p24, o24, _, hx24, hp24, rfl⟩ := sl_elem (P := Tryz.prog) (t := 28) (kk := .i64) hv9 hx24 els28
      refine Run.opG wantS_none (ex_elX rfl rfl hx24) rfl ?_
      refine Run.opG wantS_none (ex_load1 rfl (hH.ptrF hp24) rdLe_rfl agg3) rfl ?_
      refine Run.opG wantS_none (ex_assign rfl) rfl ?_
      refine Run.opsEnd (Run.seq (Run.seq (Run.region ?_)))
      refine Run.opG wantS_none (ex_move rfl) rfl ?_
      refine Run.opG wantS_none (ex_add rfl rfl) rfl ?_
      refine Run.opG wantS_none (ex_move rfl) rfl ?_
      obtain ⟨r26, hr26, h⟩ := bnd_some h
      refine Run.callP wantS_none (ex_call rfl mkk75 cal75) rfl (glitch_isFrom_ok F (w64 (v3 + (1 : Int))) x24 (1073741824 : Int) _ _ hr26) ?_
      refine Run.opG wantS_none (ex_not rfl) rfl ?_
      refine Run.opsEnd ?_
      rcases btf ((!r26)) with hc28 | hc28
      · have h := bif_t hc28 h
        refine Run.condT' rfl hc28 ?_
        refine Run.seq (Run.region ?_)
        refine Run.opG wantS_none (ex_assign rfl) rfl ?_
        refine Run.opsEnd ?_
        cases h
        exact Run.ret Tryz.func39 rfl (res_tmp rfl res_nil) rfl
      · have h := bif_f hc28 h
        refine Run.condF' rfl hc28 ?_
        refine Run.skip (Run.region ?_)
        refine Run.opG wantS_none (ex_move rfl) rfl ?_
        refine Run.opG wantS_none (ex_assign rfl) rfl ?_
        refine Run.opsEnd (Run.inBlock (Run.region ?_))
        refine Run.opG wantS_none (ex_add rfl rfl) rfl ?_
        refine Run.opG wantS_none (ex_move rfl) rfl ?_
        refine Run.opsEnd (Run.inLoop ?_)
        exact Run.pick [3, 9, 10, 11] (ih x24 v9 v10 (w64 (v11 + (1 : Int))) sv9 _ _ _ hv9 hH h)
    · have h := bif_f hc22 h
      refine Run.condF' rfl hc22 ?_
      refine Run.exit rfl (Run.seq (Run.region ?_))
      refine Run.opG wantS_none (ex_assign rfl) rfl ?_
      refine Run.opsEnd ?_
      cases h
      exact Run.ret Tryz.func39 rfl (res_tmp rfl res_nil) rfl

def glitch_areTimes (F : Nat) (a0 : (List Int)) : Option (Bool) :=
  bif (decide ((256 : Int) < (a0.length : Int))) then
    some false
  else
    glitch_areTimes_1 F F ((-1) : Int) a0 (a0.length : Int) (0 : Int)

theorem glitch_areTimes_ok (F : Nat) (a0 : (List Int)) (s0 : SV) (r : Bool) (M : Mem) (hs0 : Slc (rd M) 1 (FlatR enc3) s0 a0) (h : glitch_areTimes F a0 = some r) : CallsM Tryz.prog 39 [s0] M (fun s M' => s = (.bool r) ∧ M' = M) := by
  refine CallsM.plain Tryz.func39 rfl rfl rfl (show Run _ _ _ (glitch_areTimes_post r) _ _ _ from ?_)
  rw [glitch_areTimes] at h
  replace hs0 := hs0.mono (rdLe_frozen M) (fun _ _ h => h)
  have hH := Has.nil (frozen M)
  refine Run.seq (Run.region ?_)
  refine Run.opG wantS_none (ex_assign rfl) rfl ?_
  refine Run.opsEnd (Run.seq (Run.seq (Run.region ?_)))
  refine Run.opG wantS_none (ex_move rfl) rfl ?_
  refine Run.opG wantS_none (ex_len' rfl hs0 lenk28) rfl ?_
  refine Run.opG wantS_none (ex_gtr rfl rfl) rfl ?_
  refine Run.opsEnd ?_
  rcases btf ((decide ((256 : Int) < (a0.length : Int)))) with hc21 | hc21
  · have h := bif_t hc21 h
    refine Run.condT' rfl hc21 ?_
    refine Run.seq (Run.region ?_)
    refine Run.opG wantS_none (ex_assign rfl) rfl ?_
    refine Run.opsEnd ?_
    cases h
    exact Run.ret Tryz.func39 rfl (res_tmp rfl res_nil) rfl
  · have h := bif_f hc21 h
    refine Run.condF' rfl hc21 ?_
    refine Run.skip (Run.seq (Run.region ?_))
    refine Run.opG wantS_none (ex_assign rfl) rfl ?_
    refine Run.opsEnd (Run.seq (Run.seq (Run.region ?_)))
    refine Run.opG wantS_none (ex_move rfl) rfl ?_
    refine Run.opG wantS_none (ex_len' rfl hs0 lenk28) rfl ?_
    refine Run.opG wantS_none (ex_move rfl) rfl ?_
    refine Run.opsEnd (Run.block (Run.loop ?_))
    exact Run.pick [3, 9, 10, 11] (glitch_areTimes_1_ok F F ((-1) : Int) a0 (a0.length : Int) (0 : Int) s0 _ _ _ hs0 hH h)

theorem mkk39 : makeK Tryz.prog 39 = none := by kernel_rfl
theorem cal39 : callable Tryz.prog 39 = true := by kernel_rfl
theorem mkk76 : makeK Tryz.prog 76 = none := by kernel_rfl
theorem cal76 : callable Tryz.prog 76 = true := by kernel_rfl
theorem mkk77 : makeK Tryz.prog 77 = none := by kernel_rfl
theorem cal77 : callable Tryz.prog 77 = true := by kernel_rfl
theorem agg22 : aggSize Tryz.prog 22 = some none := by kernel_rfl
theorem mkk80 : makeK Tryz.prog 80 = none := by kernel_rfl
theorem cal80 : callable Tryz.prog 80 = true := by kernel_rfl
theorem mkk121 : makeK Tryz.prog 121 = none := by kernel_rfl
theorem cal121 : callable Tryz.prog 121 = true := by kernel_rfl
theorem mkk78 : makeK Tryz.prog 78 = none := by kernel_rfl
theorem cal78 : callable Tryz.prog 78 = true := by kernel_rfl
theorem mkk120 : makeK Tryz.prog 120 = none := by kernel_rfl
theorem cal120 : callable Tryz.prog 120 = true := by kernel_rfl
abbrev glitch_holdsAt_post (r : Bool) : SV → Mem → Prop := fun s _ => s = (.bool r)

def glitch_holdsAt_2 (F : Nat) (hd1 : (List S_api_Segment) → Int → Int → Int → Option (Bool)) (v13 : Bool) (v0_f1 : (List S_api_Segment)) (v5_f1 : Int) (v7_f1 : Int) (v8_f1 : Int) (c25_0 : Int) : Option (Bool) :=
  bif v13 then
    some (decide ((0 : Int) ≤ v5_f1))
  else
    hd1 v0_f1 v7_f1 (w64 (v8_f1 + (1 : Int))) c25_0

theorem glitch_holdsAt_2_ok (F : Nat) (hd1 : (List S_api_Segment) → Int → Int → Int → Option (Bool)) (hhd1 : ∀ (v0 : (List S_api_Segment)) (v7 : Int) (v8 : Int) (c25_0 : Int) (sv0 : SV) (b25 : Pos) (Fr : Rd) (M : Mem) (r : Bool) (hv0 : Slc Fr 2 (FlatR enc37) sv0 v0) (hH : Has Fr M [.obj b25 (.row 3 .whole [(.int .i64 c25_0)])]), hd1 v0 v7 v8 c25_0 = some r → Run Tryz.prog ⟨⟨147, [], none⟩, [.mk ⟨119, [], none⟩ 9 (treeOf []) [itemC Tryz.prog 119 [1, 0] 2, codeC Tryz.prog 119 [1, 1]], .mk ⟨79, [], none⟩ 9 (treeOf []) [itemC Tryz.prog 79 [1, 0] 3, codeC Tryz.prog 79 [1, 1]]]⟩ 19 (glitch_holdsAt_post r) [(0, sv0), (1, (.fn (.func 120) [] [(.ptr b25 0)])), (7, (.int .i64 v7)), (8, (.int .i64 v8))] [codeC Tryz.prog 147 [1, 0, 1, 0, 0], loopC Tryz.prog 147 [1, 0, 1, 0, 0], .inBlock 0, codeC Tryz.prog 147 [1, 1]] M) : ∀ (v13 : Bool) (v0_f1 : (List S_api_Segment)) (v5_f1 : Int) (v7_f1 : Int) (v8_f1 : Int) (c25_0 : Int) (sv0_f1 : SV) (b25 : Pos) (Fr : Rd) (M : Mem) (r : Bool) (hv0_f1 : Slc Fr 2 (FlatR enc37) sv0_f1 v0_f1) (hH : Has Fr M [.obj b25 (.row 3 .whole [(.int .i64 c25_0)])]), glitch_holdsAt_2 F hd1 v13 v0_f1 v5_f1 v7_f1 v8_f1 c25_0 = some r → Run Tryz.prog ⟨⟨120, [], none⟩, [.mk ⟨147, [], none⟩ 19 (treeOf [(0, sv0_f1), (1, (.fn (.func 120) [] [(.ptr b25 0)])), (5, (.int .i64 v5_f1)), (7, (.int .i64 v7_f1)), (8, (.int .i64 v8_f1))]) [itemC Tryz.prog 147 [1, 0, 1, 0, 0, 1, 1, 0, 0, 1, 0] 5, codeC Tryz.prog 147 [1, 0, 1, 0, 0, 1, 1, 0, 0, 1, 1], .inBlock 1, codeC Tryz.prog 147 [1, 0, 1, 0, 0, 1, 1, 1], loopC Tryz.prog 147 [1, 0, 1, 0, 0], .inBlock 0, codeC Tryz.prog 147 [1, 1]], .mk ⟨119, [], none⟩ 9 (treeOf []) [itemC Tryz.prog 119 [1, 0] 2, codeC Tryz.prog 119 [1, 1]], .mk ⟨79, [], none⟩ 9 (treeOf []) [itemC Tryz.prog 79 [1, 0] 3, codeC Tryz.prog 79 [1, 1]]]⟩ 14 (glitch_holdsAt_post r) [(13, (.bool v13))] [itemC Tryz.prog 120 [1, 0] 10, codeC Tryz.prog 120 [1, 1]] M := by
  intro v13 v0_f1 v5_f1 v7_f1 v8_f1 c25_0 sv0_f1 b25 Fr M r hv0_f1 hH h
  rw [glitch_holdsAt_2] at h
  refine Run.opG wantS_none (ex_assign rfl) rfl ?_
  refine Run.opsEnd ?_
  refine Run.retTo Tryz.func120 rfl (res_tmp rfl res_nil) rfl ?_
  refine Run.opsEnd ?_
  rcases btf (v13) with hc34 | hc34
  · have h := bif_t hc34 h
    refine Run.condT' rfl hc34 ?_
    refine Run.seq (Run.region ?_)
    refine Run.opG wantS_none (ex_move rfl) rfl ?_
    refine Run.opG wantS_none (ex_assign rfl) rfl ?_
    refine Run.opsEnd ?_
    refine Run.retTo Tryz.func147 rfl (res_tmp rfl res_nil) rfl ?_
    refine Run.opG wantS_none (ex_geq rfl rfl) rfl ?_
    refine Run.opG wantS_none (ex_assign rfl) rfl ?_
    refine Run.opsEnd ?_
    refine Run.retTo Tryz.func119 rfl (res_tmp rfl res_nil) rfl ?_
    refine Run.opG wantS_none (ex_assign rfl) rfl ?_
    refine Run.opsEnd ?_
    cases h
    exact Run.ret Tryz.func79 rfl (res_tmp rfl res_nil) rfl
  · have h := bif_f hc34 h
    refine Run.condF' rfl hc34 ?_
    refine Run.skip (Run.inBlock (Run.region ?_))
    refine Run.opG wantS_none (ex_add rfl rfl) rfl ?_
    refine Run.opG wantS_none (ex_move rfl) rfl ?_
    refine Run.opsEnd (Run.inLoop ?_)
    exact Run.low (.cons (fle_pick [] rfl) (.cons (fle_pick [] rfl) .nil)) (Run.pick [0, 1, 7, 8] (hhd1 v0_f1 v7_f1 (w64 (v8_f1 + (1 : Int))) c25_0 sv0_f1 b25 _ _ _ hv0_f1 hH h))

def glitch_holdsAt_1 (F : Nat) : Nat → (List S_api_Segment) → Int → Int → Int → Option (Bool)
  | 0, _, _, _, _ => none
  | N + 1, v0, v7, v8, c25_0 =>
    bif (decide (v8 < v7)) then
      bnd (idx v0 v8) fun x29 =>
      bif (decide (x29.From ≤ c25_0)) then
        glitch_holdsAt_2 F (glitch_holdsAt_1 F N) (decide (c25_0 < x29.To)) v0 v8 v7 v8 c25_0
      else
        glitch_holdsAt_2 F (glitch_holdsAt_1 F N) false v0 v8 v7 v8 c25_0
    else
      some (decide ((0 : Int) ≤ ((-1) : Int)))

theorem glitch_holdsAt_1_ok (F : Nat) : ∀ (N : Nat), ∀ (v0 : (List S_api_Segment)) (v7 : Int) (v8 : Int) (c25_0 : Int) (sv0 : SV) (b25 : Pos) (Fr : Rd) (M : Mem) (r : Bool) (hv0 : Slc Fr 2 (FlatR enc37) sv0 v0) (hH : Has Fr M [.obj b25 (.row 3 .whole [(.int .i64 c25_0)])]), glitch_holdsAt_1 F N v0 v7 v8 c25_0 = some r → Run Tryz.prog ⟨⟨147, [], none⟩, [.mk ⟨119, [], none⟩ 9 (treeOf []) [itemC Tryz.prog 119 [1, 0] 2, codeC Tryz.prog 119 [1, 1]], .mk ⟨79, [], none⟩ 9 (treeOf []) [itemC Tryz.prog 79 [1, 0] 3, codeC Tryz.prog 79 [1, 1]]]⟩ 19 (glitch_holdsAt_post r) [(0, sv0), (1, (.fn (.func 120) [] [(.ptr b25 0)])), (7, (.int .i64 v7)), (8, (.int .i64 v8))] [codeC Tryz.prog 147 [1, 0, 1, 0, 0], loopC Tryz.prog 147 [1, 0, 1, 0, 0], .inBlock 0, codeC Tryz.prog 147 [1, 1]] M := by
  intro N
  induction N with
  | zero =>
    intro v0 v7 v8 c25_0 sv0 b25 Fr M r hv0 hH h
    simp [glitch_holdsAt_1] at h
  | succ N ih =>
    intro v0 v7 v8 c25_0 sv0 b25 Fr M r hv0 hH h
    rw [glitch_holdsAt_1] at h
    refine Run.seq (Run.region ?_)
    refine Run.opG wantS_none (ex_lss rfl rfl) rfl ?_
    refine Run.opsEnd (Run.seq ?_)
    rcases btf ((decide (v8 < v7))) with hc27 | hc27
    · have h := bif_t hc27 h
      refine Run.condT' rfl hc27 ?_
      refine Run.skip (Run.seq (Run.block (Run.seq (Run.region ?_))))
      refine Run.opG wantS_none (ex_move rfl) rfl ?_
      refine Run.opG wantS_none (ex_assign rfl) rfl ?_
      refine Run.opsEnd (Run.seq (Run.region ?_))
      refine Run.opG wantS_none (ex_move rfl) rfl ?_
      refine Run.opG wantS_none (ex_move rfl) rfl ?_
      refine Run.opG wantS_none (ex_move rfl) rfl ?_
      obtain ⟨x29, hx29, h⟩ := bnd_some h
      obtain ⟨p29, o29, _, hx29, hp29, rfl⟩ := sl_elem (P := Tryz.prog) (t := 31) (kk := .i64) hv0 hx29 els31
      refine Run.opG wantS_none (ex_elX rfl rfl hx29) rfl ?_
      refine Run.opG wantS_none (ex_loadA rfl (hH.ptrF hp29) rdLe_rfl agg37 rfl rfl rfl) rfl ?_
      refine Run.enter wantS_none (ex_closure rfl rfl mkk120 cal120) Tryz.func120 rfl rfl ?_
      refine Run.seq (Run.region ?_)
      refine Run.opX wantS_none rfl (ExG.box rfl rfl hH) ?_
      rintro _ M32 ⟨b31, rfl, (hH32 : Has Fr M32 [.obj b31 (.row 37 .whole [(.int .i64 x29.From), (.int .i64 x29.To)]), .obj b25 (.row 3 .whole [(.int .i64 c25_0)])])⟩
      refine Run.opG wantS_none (ex_assign rfl) rfl ?_
      refine Run.opsEnd (Run.seq (Run.region ?_))
      refine Run.opG wantS_none (ex_fieldAddr rfl off37_0) rfl ?_
      refine Run.opG wantS_none (ex_load1 rfl (hH32.cells (i := 0) rfl 0 rfl) rdLe_rfl agg3) rfl ?_
      refine Run.opG wantS_none (ex_load1 rfl (hH32.cells (i := 1) rfl 0 rfl) rdLe_rfl agg3) rfl ?_
      refine Run.opG wantS_none (ex_leq rfl rfl) rfl ?_
      refine Run.opG wantS_none (ex_move rfl) rfl ?_
      rcases btf ((decide (x29.From ≤ c25_0))) with hc33 | hc33
      · have h := bif_t hc33 h
        refine Run.opG (wantS_yes' rfl rfl hc33) (ex_load1 rfl (hH32.cells (i := 1) rfl 0 rfl) rdLe_rfl agg3) rfl ?_
        refine Run.opG (wantS_yes' rfl rfl hc33) (ex_fieldAddr rfl off37_1) rfl ?_
        refine Run.opG (wantS_yes' rfl rfl hc33) (ex_load1 rfl (hH32.cells (i := 0) rfl 1 rfl) rdLe_rfl agg3) rfl ?_
        refine Run.opG (wantS_yes' rfl rfl hc33) (ex_lss rfl rfl) rfl ?_
        refine Run.opG wantS_none (ex_pickT' rfl hc33 rfl rfl) rfl ?_
        exact Run.low (.cons (fle_pick [0, 1, 5, 7, 8] rfl) (.cons (fle_pick [] rfl) (.cons (fle_pick [] rfl) .nil))) (Run.pick [13] (glitch_holdsAt_2_ok F (glitch_holdsAt_1 F N) ih (decide (c25_0 < x29.To)) v0 v8 v7 v8 c25_0 sv0 b25 _ _ _ hv0 (hH32.pick [1] rfl rfl) h))
      · have h := bif_f hc33 h
        refine Run.no (wantS_not' rfl rfl hc33) rfl ?_
        refine Run.no (wantS_not' rfl rfl hc33) rfl ?_
        refine Run.no (wantS_not' rfl rfl hc33) rfl ?_
        refine Run.no (wantS_not' rfl rfl hc33) rfl ?_
        refine Run.opG wantS_none (ex_pickF' rfl hc33 rfl rfl) rfl ?_
        exact Run.low (.cons (fle_pick [0, 1, 5, 7, 8] rfl) (.cons (fle_pick [] rfl) (.cons (fle_pick [] rfl) .nil))) (Run.pick [13] (glitch_holdsAt_2_ok F (glitch_holdsAt_1 F N) ih false v0 v8 v7 v8 c25_0 sv0 b25 _ _ _ hv0 (hH32.pick [1] rfl rfl) h))
    · have h := bif_f hc27 h
      refine Run.condF' rfl hc27 ?_
      refine Run.exit rfl (Run.seq (Run.region ?_))
      refine Run.opG wantS_none (ex_assign rfl) rfl ?_
      refine Run.opsEnd ?_
      refine Run.retTo Tryz.func147 rfl (res_tmp rfl res_nil) rfl ?_
      refine Run.opG wantS_none (ex_geq rfl rfl) rfl ?_
      refine Run.opG wantS_none (ex_assign rfl) rfl ?_
      refine Run.opsEnd ?_
      refine Run.retTo Tryz.func119 rfl (res_tmp rfl res_nil) rfl ?_
      refine Run.opG wantS_none (ex_assign rfl) rfl ?_
      refine Run.opsEnd ?_
      cases h
      exact Run.ret Tryz.func79 rfl (res_tmp rfl res_nil) rfl

def glitch_holdsAt (F : Nat) (a0 : S_api_Veto) (a1 : Int) : Option (Bool) :=
  glitch_holdsAt_1 F F a0.Segments (a0.Segments.length : Int) (0 : Int) a1

theorem glitch_holdsAt_ok (F : Nat) (a0 : S_api_Veto) (a1 : Int) (s0 : SV) (r : Bool) (M : Mem) (hs0 : Slc (rd M) 2 (FlatR enc37) s0 a0.Segments) (h : glitch_holdsAt F a0 a1 = some r) : CallsM Tryz.prog 79 [(.agg [(.str a0.Name), s0]), (.int .i64 a1)] M (fun s M' => s = (.bool r) ∧ M' = M) := by
  refine CallsM.plain Tryz.func79 rfl rfl rfl (show Run _ _ _ (glitch_holdsAt_post r) _ _ _ from ?_)
  rw [glitch_holdsAt] at h
  replace hs0 := hs0.mono (rdLe_frozen M) (fun _ _ h => h)
  have hH := Has.nil (frozen M)
  refine Run.seq (Run.region ?_)
  refine Run.opX wantS_none rfl (ExG.box rfl rfl hH) ?_
  rintro _ M23 ⟨b22, rfl, (hH23 : Has (ro (frozen M)) M23 [.obj b22 (.row 35 .whole [(.str a0.Name), s0])])⟩
  refine Run.opX wantS_none rfl (ExG.box rfl rfl hH23) ?_
  rintro _ M26 ⟨b25, rfl, (hH26 : Has (ro (frozen M)) M26 [.obj b25 (.row 3 .whole [(.int .i64 a1)]), .obj b22 (.row 35 .whole [(.str a0.Name), s0])])⟩
  refine Run.opG wantS_none (ex_assign rfl) rfl ?_
  refine Run.opsEnd (Run.seq (Run.region ?_))
  refine Run.opG wantS_none (ex_fieldAddr rfl off35_1) rfl ?_
  refine Run.opG wantS_none (ex_load1 rfl (hH26.cells (i := 1) rfl 1 rfl) rdLe_rfl agg31) rfl ?_
  refine Run.opG wantS_none (ex_makeFunc rfl rfl) rfl ?_
  refine Run.enter wantS_none (ex_call rfl mkk119 cal119) Tryz.func119 rfl rfl ?_
  refine Run.seq (Run.region ?_)
  refine Run.opG wantS_none (ex_assign rfl) rfl ?_
  refine Run.opsEnd (Run.seq (Run.region ?_))
  refine Run.opG wantS_none (ex_move rfl) rfl ?_
  refine Run.opG wantS_none (ex_move rfl) rfl ?_
  refine Run.enter wantS_none (ex_call rfl mkk147 cal147) Tryz.func147 rfl rfl ?_
  refine Run.seq (Run.region ?_)
  refine Run.opG wantS_none (ex_assign rfl) rfl ?_
  refine Run.opsEnd (Run.seq (Run.seq (Run.region ?_)))
  refine Run.opG wantS_none (ex_move rfl) rfl ?_
  refine Run.opG wantS_none (ex_len' rfl hs0 lenk31) rfl ?_
  refine Run.opG wantS_none (ex_move rfl) rfl ?_
  refine Run.opsEnd (Run.block (Run.loop ?_))
  exact Run.low (.cons (fle_pick [] rfl) (.cons (fle_pick [] rfl) .nil)) (Run.pick [0, 1, 7, 8] (glitch_holdsAt_1_ok F F a0.Segments (a0.Segments.length : Int) (0 : Int) a1 s0 b25 _ _ _ hs0 (hH26.pick [0] rfl rfl) h))

theorem mkk79 : makeK Tryz.prog 79 = none := by kernel_rfl
theorem cal79 : callable Tryz.prog 79 = true := by kernel_rfl
abbrev slices_ContainsFunc_80_h1_post (e_v0 : (List S_api_Veto)) (e_c28_0 : Int) (se_v0 : SV) (e_b28 : Pos) (Fr0 : Rd) (Hr : List Ent) (r : Bool) : SV → Mem → Prop := fun s Me => s = (.bool r) ∧ Has Fr0 Me (([.obj e_b28 (.row 3 .whole [(.int .i64 e_c28_0)])] : List Ent) ++ Hr)

def slices_ContainsFunc_80_h1_1 (F : Nat) (e_v0 : (List S_api_Veto)) (e_c28_0 : Int) : Nat → (List S_api_Veto) → Int → Int → Option (Bool)
  | 0, _, _, _ => none
  | N + 1, v0, v7, v8 =>
    bif (decide (v8 < v7)) then
      bnd (idx v0 v8) fun x31 =>
      bnd (glitch_holdsAt F x31 e_c28_0) fun r36 =>
      bif r36 then
        some (decide ((0 : Int) ≤ v8))
      else
        (slices_ContainsFunc_80_h1_1 F e_v0 e_c28_0 N) v0 v7 (w64 (v8 + (1 : Int)))
    else
      some (decide ((0 : Int) ≤ ((-1) : Int)))

theorem slices_ContainsFunc_80_h1_1_ok (F : Nat) (e_v0 : (List S_api_Veto)) (e_c28_0 : Int) (se_v0 : SV) (e_b28 : Pos) (Fr0 : Rd) (Hr : List Ent) : ∀ (N : Nat), ∀ (v0 : (List S_api_Veto)) (v7 : Int) (v8 : Int) (sv0 : SV) (M : Mem) (r : Bool) (hv0 : Slc Fr0 2 (rep35 Fr0) sv0 v0) (hH : Has Fr0 M (([.obj e_b28 (.row 3 .whole [(.int .i64 e_c28_0)])] : List Ent) ++ Hr)), slices_ContainsFunc_80_h1_1 F e_v0 e_c28_0 N v0 v7 v8 = some r → Run Tryz.prog ⟨⟨121, [], none⟩, [.mk ⟨80, [], none⟩ 9 (treeOf []) [itemC Tryz.prog 80 [1, 0] 2, codeC Tryz.prog 80 [1, 1]]]⟩ 19 (slices_ContainsFunc_80_h1_post e_v0 e_c28_0 se_v0 e_b28 Fr0 Hr r) [(0, sv0), (1, (.fn (.func 78) [] [(.ptr e_b28 0)])), (7, (.int .i64 v7)), (8, (.int .i64 v8))] [codeC Tryz.prog 121 [1, 0, 1, 0, 0], loopC Tryz.prog 121 [1, 0, 1, 0, 0], .inBlock 0, codeC Tryz.prog 121 [1, 1]] M := by
  intro N
  induction N with
  | zero =>
    intro v0 v7 v8 sv0 M r hv0 hH h
    simp [slices_ContainsFunc_80_h1_1] at h
  | succ N ih =>
    intro v0 v7 v8 sv0 M r hv0 hH h
    rw [slices_ContainsFunc_80_h1_1] at h
    refine Run.seq (Run.region ?_)
    refine Run.opG wantS_none (ex_lss rfl rfl) rfl ?_
    refine Run.opsEnd (Run.seq ?_)
    rcases btf ((decide (v8 < v7))) with hc29 | hc29
    · have h := bif_t hc29 h
      refine Run.condT' rfl hc29 ?_
      refine Run.skip (Run.seq (Run.block (Run.seq (Run.region ?_))))
      refine Run.opG wantS_none (ex_move rfl) rfl ?_
      refine Run.opG wantS_none (ex_assign rfl) rfl ?_
      refine Run.opsEnd (Run.seq (Run.region ?_))
      refine Run.opG wantS_none (ex_move rfl) rfl ?_
      refine Run.opG wantS_none (ex_move rfl) rfl ?_
      refine Run.opG wantS_none (ex_move rfl) rfl ?_
      obtain ⟨x31, hx31, h⟩ := bnd_some h
      obtain ⟨p31, o31, _, hx31, hp31, ⟨q31_0, rfl, hq31_0⟩⟩ := sl_elem (P := Tryz.prog) (t := 22) (kk := .i64) hv0 hx31 els22
      refine Run.opG wantS_none (ex_elX rfl rfl hx31) rfl ?_
      refine Run.opG wantS_none (ex_loadA rfl (hH.ptrF hp31) rdLe_rfl agg35 rfl rfl rfl) rfl ?_
      refine Run.enter wantS_none (ex_closure rfl rfl mkk78 cal78) Tryz.func78 rfl rfl ?_
      refine Run.seq (Run.region ?_)
      refine Run.opX wantS_none rfl (ExG.box rfl rfl hH) ?_
      rintro _ M34 ⟨b33, rfl, (hH34 : Has Fr0 M34 (([.obj b33 (.row 35 .whole [(.str x31.Name), q31_0]), .obj e_b28 (.row 3 .whole [(.int .i64 e_c28_0)])] : List Ent) ++ Hr))⟩
      refine Run.opG wantS_none (ex_assign rfl) rfl ?_
      refine Run.opsEnd (Run.seq (Run.region ?_))
      refine Run.opG wantS_none (ex_loadA rfl (hH34.cells (i := 0) rfl 0 rfl) rdLe_rfl agg35 rfl rfl rfl) rfl ?_
      refine Run.opG wantS_none (ex_load1 rfl (hH34.cells (i := 1) rfl 0 rfl) rdLe_rfl agg3) rfl ?_
      obtain ⟨r36, hr36, h⟩ := bnd_some h
      refine Run.callP wantS_none (ex_call rfl mkk79 cal79) rfl (glitch_holdsAt_ok F x31 e_c28_0 q31_0 _ _ (hH34.slcF hq31_0) hr36) ?_
      refine Run.opG wantS_none (ex_assign rfl) rfl ?_
      refine Run.opsEnd ?_
      refine Run.retTo Tryz.func78 rfl (res_tmp rfl res_nil) rfl ?_
      refine Run.opsEnd ?_
      rcases btf (r36) with hc38 | hc38
      · have h := bif_t hc38 h
        refine Run.condT' rfl hc38 ?_
        refine Run.seq (Run.region ?_)
        refine Run.opG wantS_none (ex_move rfl) rfl ?_
        refine Run.opG wantS_none (ex_assign rfl) rfl ?_
        refine Run.opsEnd ?_
        refine Run.retTo Tryz.func121 rfl (res_tmp rfl res_nil) rfl ?_
        refine Run.opG wantS_none (ex_geq rfl rfl) rfl ?_
        refine Run.opG wantS_none (ex_assign rfl) rfl ?_
        refine Run.opsEnd ?_
        cases h
        exact Run.ret Tryz.func80 rfl (res_tmp rfl res_nil) ⟨rfl, (hH34.pickT [1] rfl rfl).upF (fun b c hb => hH34.base b c hb)⟩
      · have h := bif_f hc38 h
        refine Run.condF' rfl hc38 ?_
        refine Run.skip (Run.inBlock (Run.region ?_))
        refine Run.opG wantS_none (ex_add rfl rfl) rfl ?_
        refine Run.opG wantS_none (ex_move rfl) rfl ?_
        refine Run.opsEnd (Run.inLoop ?_)
        exact Run.low (.cons (fle_pick [] rfl) .nil) (Run.pick [0, 1, 7, 8] (ih v0 v7 (w64 (v8 + (1 : Int))) sv0 _ _ hv0 (hH34.pickT [1] rfl rfl) h))
    · have h := bif_f hc29 h
      refine Run.condF' rfl hc29 ?_
      refine Run.exit rfl (Run.seq (Run.region ?_))
      refine Run.opG wantS_none (ex_assign rfl) rfl ?_
      refine Run.opsEnd ?_
      refine Run.retTo Tryz.func121 rfl (res_tmp rfl res_nil) rfl ?_
      refine Run.opG wantS_none (ex_geq rfl rfl) rfl ?_
      refine Run.opG wantS_none (ex_assign rfl) rfl ?_
      refine Run.opsEnd ?_
      cases h
      exact Run.ret Tryz.func80 rfl (res_tmp rfl res_nil) ⟨rfl, (hH.pickT [0] rfl rfl).upF (fun b c hb => hH.base b c hb)⟩

def slices_ContainsFunc_80_h1 (F : Nat) (e_v0 : (List S_api_Veto)) (e_c28_0 : Int) : Option (Bool) :=
  slices_ContainsFunc_80_h1_1 F e_v0 e_c28_0 F e_v0 (e_v0.length : Int) (0 : Int)

theorem slices_ContainsFunc_80_h1_ok (F : Nat) : ∀ (e_v0 : (List S_api_Veto)) (e_c28_0 : Int) (se_v0 : SV) (e_b28 : Pos) (Fr0 : Rd) (Hr : List Ent) (M : Mem) (r : Bool) (he_v0 : Slc Fr0 2 (rep35 Fr0) se_v0 e_v0) (hH : Has Fr0 M (([.obj e_b28 (.row 3 .whole [(.int .i64 e_c28_0)])] : List Ent) ++ Hr)) (h : slices_ContainsFunc_80_h1 F e_v0 e_c28_0 = some r), CallsM Tryz.prog 80 [se_v0, (.fn (.func 78) [] [(.ptr e_b28 0)])] M (slices_ContainsFunc_80_h1_post e_v0 e_c28_0 se_v0 e_b28 Fr0 Hr r) := by
  intro e_v0 e_c28_0 se_v0 e_b28 Fr0 Hr M r he_v0 hH h
  refine CallsM.run Tryz.func80 rfl rfl (show Run _ _ _ (slices_ContainsFunc_80_h1_post e_v0 e_c28_0 se_v0 e_b28 Fr0 Hr r) _ _ _ from ?_)
  rw [slices_ContainsFunc_80_h1] at h
  refine Run.seq (Run.region ?_)
  refine Run.opG wantS_none (ex_assign rfl) rfl ?_
  refine Run.opsEnd (Run.seq (Run.region ?_))
  refine Run.opG wantS_none (ex_move rfl) rfl ?_
  refine Run.opG wantS_none (ex_move rfl) rfl ?_
  refine Run.enter wantS_none (ex_call rfl mkk121 cal121) Tryz.func121 rfl rfl ?_
  refine Run.seq (Run.region ?_)
  refine Run.opG wantS_none (ex_assign rfl) rfl ?_
  refine Run.opsEnd (Run.seq (Run.seq (Run.region ?_)))
  refine Run.opG wantS_none (ex_move rfl) rfl ?_
  refine Run.opG wantS_none (ex_len' rfl he_v0 lenk22) rfl ?_
  refine Run.opG wantS_none (ex_move rfl) rfl ?_
  refine Run.opsEnd (Run.block (Run.loop ?_))
  exact Run.low (.cons (fle_pick [] rfl) .nil) (Run.pick [0, 1, 7, 8] (slices_ContainsFunc_80_h1_1_ok F e_v0 e_c28_0 se_v0 e_b28 Fr0 Hr F e_v0 (e_v0.length : Int) (0 : Int) se_v0 _ _ he_v0 hH h))

theorem plan77_1_1_0 : planOf Tryz.prog (opsC (atC Tryz.prog 77 [1, 1, 0])) = some [.fl 0, .fl 1, .fl 2, .an 3 [0], .fl 4, .fl 5, .fl 6, .sync] := by kernel_rfl
abbrev glitch_passed_post (r : (List Int)) : SV → Mem → Prop := fun s Me => ∃ q1, s = q1 ∧ Has (fun _ => none) Me [.vec 3 1 r.length q1 (r.flatMap enc3)]

def glitch_passed_2 (F : Nat) (hd1 : (List Int) → Int → Int → (List S_api_Veto) → (List Int) → Option ((List Int))) (v10 : (List Int)) (v11 : Int) (v12 : Int) (c22_0 : (List S_api_Veto)) (l41 : (List Int)) : Option ((List Int)) :=
  hd1 v10 v11 (w64 (v12 + (1 : Int))) c22_0 l41

theorem glitch_passed_2_ok (F : Nat) (hd1 : (List Int) → Int → Int → (List S_api_Veto) → (List Int) → Option ((List Int))) (hhd1 : ∀ (v10 : (List Int)) (v11 : Int) (v12 : Int) (c22_0 : (List S_api_Veto)) (l24 : (List Int)) (sv10 : SV) (sc22_0 : SV) (b22 : Pos) (s24 : SV) (Fr : Rd) (M : Mem) (r : (List Int)) (hv10 : Slc Fr 1 (FlatR enc3) sv10 v10) (hc22_0 : Slc Fr 2 (rep35 Fr) sc22_0 c22_0) (hH : Has Fr M [.obj b22 (.row 22 .whole [sc22_0]), .vec 3 1 l24.length s24 (l24.flatMap enc3)]), hd1 v10 v11 v12 c22_0 l24 = some r → Run Tryz.prog ⟨⟨76, [], none⟩, [.mk ⟨40, [], none⟩ 8 (treeOf []) [itemC Tryz.prog 40 [1, 0] 2, codeC Tryz.prog 40 [1, 1]]]⟩ 29 (glitch_passed_post r) [(1, (.fn (.func 77) [] [(.ptr b22 0)])), (5, s24), (10, sv10), (11, (.int .i64 v11)), (12, (.int .i64 v12))] [codeC Tryz.prog 76 [1, 1, 0, 1, 0, 0], loopC Tryz.prog 76 [1, 1, 0, 1, 0, 0], .inBlock 0, codeC Tryz.prog 76 [1, 1, 1]] M) : ∀ (v10 : (List Int)) (v11 : Int) (v12 : Int) (c22_0 : (List S_api_Veto)) (l41 : (List Int)) (sv10 : SV) (sc22_0 : SV) (b22 : Pos) (s41 : SV) (Fr : Rd) (M : Mem) (r : (List Int)) (hv10 : Slc Fr 1 (FlatR enc3) sv10 v10) (hc22_0 : Slc Fr 2 (rep35 Fr) sc22_0 c22_0) (hH : Has Fr M [.obj b22 (.row 22 .whole [sc22_0]), .vec 3 1 l41.length s41 (l41.flatMap enc3)]), glitch_passed_2 F hd1 v10 v11 v12 c22_0 l41 = some r → Run Tryz.prog ⟨⟨76, [], none⟩, [.mk ⟨40, [], none⟩ 8 (treeOf []) [itemC Tryz.prog 40 [1, 0] 2, codeC Tryz.prog 40 [1, 1]]]⟩ 29 (glitch_passed_post r) [(1, (.fn (.func 77) [] [(.ptr b22 0)])), (5, s41), (10, sv10), (11, (.int .i64 v11)), (12, (.int .i64 v12))] [itemC Tryz.prog 76 [1, 1, 0, 1, 0, 0, 1, 1, 1] 0, loopC Tryz.prog 76 [1, 1, 0, 1, 0, 0], .inBlock 0, codeC Tryz.prog 76 [1, 1, 1]] M := by
  intro v10 v11 v12 c22_0 l41 sv10 sc22_0 b22 s41 Fr M r hv10 hc22_0 hH h
  rw [glitch_passed_2] at h
  refine Run.opG wantS_none (ex_add rfl rfl) rfl ?_
  refine Run.opG wantS_none (ex_move rfl) rfl ?_
  refine Run.opsEnd (Run.inLoop ?_)
  exact Run.low (.cons (fle_pick [] rfl) .nil) (Run.pick [1, 5, 10, 11, 12] (hhd1 v10 v11 (w64 (v12 + (1 : Int))) c22_0 l41 sv10 sc22_0 b22 s41 _ _ _ hv10 hc22_0 hH h))

def glitch_passed_1 (F : Nat) : Nat → (List Int) → Int → Int → (List S_api_Veto) → (List Int) → Option ((List Int))
  | 0, _, _, _, _, _ => none
  | N + 1, v10, v11, v12, c22_0, l24 =>
    bif (decide (v12 < v11)) then
      bnd (idx v10 v12) fun x28 =>
      bnd (slices_ContainsFunc_80_h1 F c22_0 x28) fun r32 =>
      bif (!r32) then
        bnd (apd 8 l24 ([x28] : List Int)) fun l40 =>
        glitch_passed_2 F (glitch_passed_1 F N) v10 v11 v12 c22_0 l40
      else
        glitch_passed_2 F (glitch_passed_1 F N) v10 v11 v12 c22_0 l24
    else
      some l24

theorem glitch_passed_1_ok (F : Nat) : ∀ (N : Nat), ∀ (v10 : (List Int)) (v11 : Int) (v12 : Int) (c22_0 : (List S_api_Veto)) (l24 : (List Int)) (sv10 : SV) (sc22_0 : SV) (b22 : Pos) (s24 : SV) (Fr : Rd) (M : Mem) (r : (List Int)) (hv10 : Slc Fr 1 (FlatR enc3) sv10 v10) (hc22_0 : Slc Fr 2 (rep35 Fr) sc22_0 c22_0) (hH : Has Fr M [.obj b22 (.row 22 .whole [sc22_0]), .vec 3 1 l24.length s24 (l24.flatMap enc3)]), glitch_passed_1 F N v10 v11 v12 c22_0 l24 = some r → Run Tryz.prog ⟨⟨76, [], none⟩, [.mk ⟨40, [], none⟩ 8 (treeOf []) [itemC Tryz.prog 40 [1, 0] 2, codeC Tryz.prog 40 [1, 1]]]⟩ 29 (glitch_passed_post r) [(1, (.fn (.func 77) [] [(.ptr b22 0)])), (5, s24), (10, sv10), (11, (.int .i64 v11)), (12, (.int .i64 v12))] [codeC Tryz.prog 76 [1, 1, 0, 1, 0, 0], loopC Tryz.prog 76 [1, 1, 0, 1, 0, 0], .inBlock 0, codeC Tryz.prog 76 [1, 1, 1]] M := by
  intro N
  induction N with
  | zero =>
    intro v10 v11 v12 c22_0 l24 sv10 sc22_0 b22 s24 Fr M r hv10 hc22_0 hH h
    simp [glitch_passed_1] at h
  | succ N ih =>
    intro v10 v11 v12 c22_0 l24 sv10 sc22_0 b22 s24 Fr M r hv10 hc22_0 hH h
    rw [glitch_passed_1] at h
    refine Run.seq (Run.region ?_)
    refine Run.opG wantS_none (ex_lss rfl rfl) rfl ?_
    refine Run.opsEnd (Run.seq ?_)
    rcases btf ((decide (v12 < v11))) with hc26 | hc26
    · have h := bif_t hc26 h
      refine Run.condT' rfl hc26 ?_
      refine Run.skip (Run.seq (Run.block (Run.seq (Run.region ?_))))
      obtain ⟨x28, hx28, h⟩ := bnd_some h
      obtain ⟨p28, o28, _, hx28, hp28, rfl⟩ := sl_elem (P := Tryz.prog) (t := 28) (kk := .i64) hv10 hx28 els28
      refine Run.opG wantS_none (ex_elX rfl rfl hx28) rfl ?_
      refine Run.opG wantS_none (ex_load1 rfl (hH.ptrF hp28) rdLe_rfl agg3) rfl ?_
      refine Run.opG wantS_none (ex_assign rfl) rfl ?_
      refine Run.opsEnd (Run.seq (Run.region ?_))
      refine Run.opG wantS_none (ex_move rfl) rfl ?_
      refine Run.opG wantS_none (ex_move rfl) rfl ?_
      refine Run.enter wantS_none (ex_closure rfl rfl mkk77 cal77) Tryz.func77 rfl rfl ?_
      refine Run.seq (Run.region ?_)
      refine Run.opX wantS_none rfl (ExG.box rfl rfl hH) ?_
      rintro _ M31 ⟨b30, rfl, (hH31 : Has Fr M31 [.obj b30 (.row 3 .whole [(.int .i64 x28)]), .obj b22 (.row 22 .whole [sc22_0]), .vec 3 1 l24.length s24 (l24.flatMap enc3)])⟩
      refine Run.opG wantS_none (ex_assign rfl) rfl ?_
      refine Run.opG wantS_none (ex_assign rfl) rfl ?_
      refine Run.opsEnd (Run.seq (Run.region ?_))
      refine Run.opG wantS_none (ex_makeFunc rfl rfl) rfl ?_
      refine Run.opG wantS_none (ex_assign rfl) rfl ?_
      refine Run.opsEnd (Run.seq ?_)
      refine Run.drawG plan77_1_1_0 ?_
      refine DrawG.fl rfl (ev_ex wantS_none (ex_load1 rfl (hH31.cells (i := 0) rfl 0 rfl) rdLe_rfl agg3)) rfl ?_
      refine DrawG.fl rfl (ev_ex wantS_none (ex_load1 rfl (hH31.cells (i := 1) rfl 0 rfl) rdLe_rfl agg22)) rfl ?_
      refine DrawG.fl rfl (ev_ex wantS_none (ex_move rfl)) rfl ?_
      obtain ⟨r32, hr32, h⟩ := bnd_some h
      refine DrawG.call rfl wantS_none (ex_call rfl mkk80 cal80) rfl (slices_ContainsFunc_80_h1_ok F c22_0 x28 sc22_0 b30 Fr [.obj b22 (.row 22 .whole [sc22_0]), .vec 3 1 l24.length s24 (l24.flatMap enc3)] _ _ hc22_0 hH31 hr32) ?_
      rintro _ M33 ⟨rfl, (hH33 : Has Fr M33 [.obj b30 (.row 3 .whole [(.int .i64 x28)]), .obj b22 (.row 22 .whole [sc22_0]), .vec 3 1 l24.length s24 (l24.flatMap enc3)])⟩
      refine ⟨(st_cons rfl (ev_ex wantS_none (ex_load1 rfl (hH33.cells (i := 0) rfl 0 rfl) rdLe_rfl agg3)) rfl rfl rfl st_nil), ?_⟩
      refine DrawG.fl rfl (ev_ex wantS_none (ex_not rfl)) rfl ?_
      refine DrawG.fl rfl (ev_ex wantS_none (ex_assign rfl)) rfl ?_
      refine DrawG.fl rfl (ev_ex wantS_none (ex_assign rfl)) rfl ?_
      refine DrawG.sync ?_
      refine DrawG.nil ?_
      refine Run.retTo Tryz.func77 rfl (res_tmp rfl (res_tmp rfl res_nil)) rfl ?_
      refine Run.opG wantS_none (ex_move rfl) rfl ?_
      refine Run.opG wantS_none (ex_extract rfl rfl) rfl ?_
      refine Run.opG wantS_none (ex_extract rfl rfl) rfl ?_
      refine Run.opG wantS_none (ex_assign rfl) rfl ?_
      refine Run.opG wantS_none (ex_assign rfl) rfl ?_
      refine Run.opsEnd (Run.seq (Run.region ?_))
      refine Run.opG wantS_none (ex_move rfl) rfl ?_
      refine Run.opsEnd ?_
      rcases btf ((!r32)) with hc34 | hc34
      · have h := bif_t hc34 h
        refine Run.condT' rfl hc34 ?_
        refine Run.region ?_
        refine Run.opG wantS_none (ex_move rfl) rfl ?_
        refine Run.opG wantS_none (ex_move rfl) rfl ?_
        refine Run.opX wantS_none rfl (ExG.built (enc := enc3) (l := ([x28] : List Int)) (z := 1) rfl elt28 rfl rfl rfl enc3_len hH33) ?_
        rintro s36 M37 (hH37 : Has Fr M37 [.vec 3 1 ([x28] : List Int).length s36 (([x28] : List Int).flatMap enc3), .obj b30 (.row 3 .whole [(.int .i64 x28)]), .obj b22 (.row 22 .whole [sc22_0]), .vec 3 1 l24.length s24 (l24.flatMap enc3)])
        obtain ⟨l40, hl40, h⟩ := bnd_some h
        refine Run.opX wantS_none rfl (ExG.append rfl rfl hH37 (i := 3) rfl enc3_len rfl enc3_ones appt28_28 rfl (len_slc (hH37.slc (i := 0) rfl enc3_len)) (first_slc (hH37.slc (i := 0) rfl enc3_len) (rdLe_rdRow _) enc3_len) hl40) ?_
        rintro s40 M42 (hH42 : Has Fr M42 [.vec 3 1 ([x28] : List Int).length s36 (([x28] : List Int).flatMap enc3), .obj b30 (.row 3 .whole [(.int .i64 x28)]), .obj b22 (.row 22 .whole [sc22_0]), .vec 3 1 l40.length s40 (l40.flatMap enc3)])
        refine Run.opG wantS_none (ex_assign rfl) rfl ?_
        refine Run.opsEnd (Run.inBlock (Run.region ?_))
        exact Run.low (.cons (fle_pick [] rfl) .nil) (Run.pick [1, 5, 10, 11, 12] (glitch_passed_2_ok F (glitch_passed_1 F N) ih v10 v11 v12 c22_0 l40 sv10 sc22_0 b22 s40 _ _ _ hv10 hc22_0 (hH42.pick [2, 3] rfl rfl) h))
      · have h := bif_f hc34 h
        refine Run.condF' rfl hc34 ?_
        refine Run.skip (Run.inBlock (Run.region ?_))
        exact Run.low (.cons (fle_pick [] rfl) .nil) (Run.pick [1, 5, 10, 11, 12] (glitch_passed_2_ok F (glitch_passed_1 F N) ih v10 v11 v12 c22_0 l24 sv10 sc22_0 b22 s24 _ _ _ hv10 hc22_0 (hH33.pick [1, 2] rfl rfl) h))
    · have h := bif_f hc26 h
      refine Run.condF' rfl hc26 ?_
      refine Run.exit rfl (Run.seq (Run.region ?_))
      refine Run.opG wantS_none (ex_move rfl) rfl ?_
      refine Run.opG wantS_none (ex_assign rfl) rfl ?_
      refine Run.opsEnd ?_
      refine Run.retTo Tryz.func76 rfl (res_tmp rfl res_nil) rfl ?_
      refine Run.opG wantS_none (ex_assign rfl) rfl ?_
      refine Run.opsEnd ?_
      cases h
      exact Run.ret Tryz.func40 rfl (res_tmp rfl res_nil) ⟨_, rfl, (hH.pick [1] rfl rfl).upF (none_le _)⟩

def glitch_passed (F : Nat) (a0 : (List S_api_Veto)) (a1 : (List Int)) : Option ((List Int)) :=
  glitch_passed_1 F F a1 (a1.length : Int) (0 : Int) a0 ([] : List Int)

theorem glitch_passed_ok (F : Nat) (a0 : (List S_api_Veto)) (a1 : (List Int)) (s0 s1 : SV) (r : (List Int)) (M : Mem) (hs0 : Slc (rd M) 2 (rep35 (rd M)) s0 a0) (hs1 : Slc (rd M) 1 (FlatR enc3) s1 a1) (h : glitch_passed F a0 a1 = some r) : CallsM Tryz.prog 40 [s0, s1] M (fun s M' => ∃ q1, s = q1 ∧ New M M' [.vec 3 1 r.length q1 (r.flatMap enc3)]) := by
  refine CallsM.fresh (Q := glitch_passed_post r) Tryz.func40 rfl rfl ?_ (by rintro s Me ⟨q1, rfl, hx⟩ ha hw; exact ⟨_, rfl, New.of rfl hx ha hw⟩)
  rw [glitch_passed] at h
  replace hs0 := hs0.mono (rdLe_frozen M) (fun _ _ => rep35_mo (rdLe_frozen M))
  replace hs1 := hs1.mono (rdLe_frozen M) (fun _ _ h => h)
  have hH := Has.nil (frozen M)
  refine Run.seq (Run.region ?_)
  refine Run.opX wantS_none rfl (ExG.box rfl (cells_one (slc_one hs0)) hH) ?_
  rintro _ M23 ⟨b22, rfl, (hH23 : Has (ro (frozen M)) M23 [.obj b22 (.row 22 .whole [s0])])⟩
  refine Run.opG wantS_none (ex_assign rfl) rfl ?_
  refine Run.opsEnd (Run.seq (Run.region ?_))
  refine Run.opG wantS_none (ex_move rfl) rfl ?_
  refine Run.opG wantS_none (ex_makeFunc rfl rfl) rfl ?_
  refine Run.enter wantS_none (ex_call rfl mkk76 cal76) Tryz.func76 rfl rfl ?_
  refine Run.seq (Run.region ?_)
  refine Run.opG wantS_none (ex_assign rfl) rfl ?_
  refine Run.opsEnd (Run.seq (Run.region ?_))
  refine Run.opG wantS_none (ex_assign rfl) rfl ?_
  refine Run.opsEnd (Run.seq (Run.seq (Run.region ?_)))
  refine Run.opG wantS_none (ex_move rfl) rfl ?_
  refine Run.opG wantS_none (ex_len' rfl hs1 lenk28) rfl ?_
  refine Run.opG wantS_none (ex_move rfl) rfl ?_
  refine Run.opsEnd (Run.block (Run.loop ?_))
  have hH25 : Has (ro (frozen M)) M23 [.vec 3 1 ([] : List Int).length .nils (([] : List Int).flatMap enc3), .obj b22 (.row 22 .whole [s0])] := hH23.nils 3 1
  exact Run.low (.cons (fle_pick [] rfl) .nil) (Run.pick [1, 5, 10, 11, 12] (glitch_passed_1_ok F F a1 (a1.length : Int) (0 : Int) a0 ([] : List Int) s1 s0 b22 .nils _ _ _ hs1 hs0 (hH25.pick [1, 0] rfl rfl) h))

theorem mkk40 : makeK Tryz.prog 40 = none := by kernel_rfl
theorem cal40 : callable Tryz.prog 40 = true := by kernel_rfl
abbrev glitch_Passed_post (r : (List Int) × Int) : SV → Mem → Prop := fun s Me => ∃ q1, s = (.tuple [q1, (.int .i64 r.2)]) ∧ Has (fun _ => none) Me [.vec 3 1 r.1.length q1 (r.1.flatMap enc3)]

def glitch_Passed (F : Nat) (a0 : (List S_api_Veto)) (a1 : (List Int)) : Option ((List Int) × Int) :=
  bnd (glitch_areVetoes F a0) fun r22 =>
  bif (!r22) then
    some (([] : List Int), (63 : Int))
  else
    bnd (glitch_areTimes F a1) fun r28 =>
    bif (!r28) then
      some (([] : List Int), (64 : Int))
    else
      bnd (glitch_passed F a0 a1) fun r35 =>
      some (r35, (0 : Int))

theorem glitch_Passed_ok (F : Nat) (a0 : (List S_api_Veto)) (a1 : (List Int)) (s0 s1 : SV) (r : (List Int) × Int) (M : Mem) (hs0 : Slc (rd M) 2 (rep35 (rd M)) s0 a0) (hs1 : Slc (rd M) 1 (FlatR enc3) s1 a1) (h : glitch_Passed F a0 a1 = some r) : CallsM Tryz.prog 12 [s0, s1] M (fun s M' => ∃ q1, s = (.tuple [q1, (.int .i64 r.2)]) ∧ New M M' [.vec 3 1 r.1.length q1 (r.1.flatMap enc3)]) := by
  refine CallsM.fresh (Q := glitch_Passed_post r) Tryz.func12 rfl rfl ?_ (by rintro s Me ⟨q1, rfl, hx⟩ ha hw; exact ⟨_, rfl, New.of rfl hx ha hw⟩)
  rw [glitch_Passed] at h
  replace hs0 := hs0.mono (rdLe_frozen M) (fun _ _ => rep35_mo (rdLe_frozen M))
  replace hs1 := hs1.mono (rdLe_frozen M) (fun _ _ h => h)
  have hH := Has.nil (frozen M)
  refine Run.seq (Run.region ?_)
  refine Run.opG wantS_none (ex_assign rfl) rfl ?_
  refine Run.opG wantS_none (ex_assign rfl) rfl ?_
  refine Run.opsEnd (Run.seq (Run.block (Run.seq (Run.region ?_))))
  refine Run.opG wantS_none (ex_move rfl) rfl ?_
  obtain ⟨r22, hr22, h⟩ := bnd_some h
  refine Run.callP wantS_none (ex_call rfl mkk38 cal38) rfl (glitch_areVetoes_ok F a0 s0 _ _ ((hs0).mono hH.le (fun _ _ => rep35_mo hH.le)) hr22) ?_
  refine Run.opG wantS_none (ex_not rfl) rfl ?_
  refine Run.opG wantS_none (ex_assign rfl) rfl ?_
  refine Run.opsEnd ?_
  rcases btf ((!r22)) with hc24 | hc24
  · have h := bif_t hc24 h
    refine Run.condT' rfl hc24 ?_
    refine Run.seq (Run.region ?_)
    refine Run.opG wantS_none (ex_assign rfl) rfl ?_
    refine Run.opG wantS_none (ex_assign rfl) rfl ?_
    refine Run.opsEnd ?_
    have hH26 : Has (ro (frozen M)) (frozen M) [.vec 3 1 ([] : List Int).length .nils (([] : List Int).flatMap enc3)] := hH.nils 3 1
    cases h
    exact Run.ret Tryz.func12 rfl (res_tmp rfl (res_tmp rfl res_nil)) ⟨_, rfl, (hH26.pick [0] rfl rfl).upF (none_le _)⟩
  · have h := bif_f hc24 h
    refine Run.condF' rfl hc24 ?_
    refine Run.seq (Run.region ?_)
    refine Run.opG wantS_none (ex_move rfl) rfl ?_
    obtain ⟨r28, hr28, h⟩ := bnd_some h
    refine Run.callP wantS_none (ex_call rfl mkk39 cal39) rfl (glitch_areTimes_ok F a1 s1 _ _ (hH.slcF hs1) hr28) ?_
    refine Run.opG wantS_none (ex_not rfl) rfl ?_
    refine Run.opG wantS_none (ex_assign rfl) rfl ?_
    refine Run.opsEnd ?_
    rcases btf ((!r28)) with hc30 | hc30
    · have h := bif_t hc30 h
      refine Run.condT' rfl hc30 ?_
      refine Run.seq (Run.region ?_)
      refine Run.opG wantS_none (ex_assign rfl) rfl ?_
      refine Run.opG wantS_none (ex_assign rfl) rfl ?_
      refine Run.opsEnd ?_
      have hH32 : Has (ro (frozen M)) (frozen M) [.vec 3 1 ([] : List Int).length .nils (([] : List Int).flatMap enc3)] := hH.nils 3 1
      cases h
      exact Run.ret Tryz.func12 rfl (res_tmp rfl (res_tmp rfl res_nil)) ⟨_, rfl, (hH32.pick [0] rfl rfl).upF (none_le _)⟩
    · have h := bif_f hc30 h
      refine Run.condF' rfl hc30 ?_
      refine Run.skip (Run.inBlock (Run.seq (Run.region ?_)))
      refine Run.opG wantS_none (ex_move rfl) rfl ?_
      refine Run.opG wantS_none (ex_move rfl) rfl ?_
      obtain ⟨r35, hr35, h⟩ := bnd_some h
      refine Run.callX wantS_none (ex_call rfl mkk40 cal40) rfl (glitch_passed_ok F a0 a1 s0 s1 _ _ ((hs0).mono hH.le (fun _ _ => rep35_mo hH.le)) (hH.slcF hs1) hr35) ?_
      rintro s35_0 M37 ⟨_, rfl, hN35⟩
      have hH37 : Has (ro (frozen M)) M37 [.vec 3 1 r35.length s35_0 (r35.flatMap enc3)] := hN35.1 _ _ hH
      refine Run.opG wantS_none (ex_assign rfl) rfl ?_
      refine Run.opG wantS_none (ex_assign rfl) rfl ?_
      refine Run.opsEnd ?_
      cases h
      exact Run.ret Tryz.func12 rfl (res_tmp rfl (res_tmp rfl res_nil)) ⟨_, rfl, (hH37.pick [0] rfl rfl).upF (none_le _)⟩

theorem mkk12 : makeK Tryz.prog 12 = none := by kernel_rfl
theorem cal12 : callable Tryz.prog 12 = true := by kernel_rfl
theorem elt22 : sliceElt Tryz.prog 22 = some (⟨2, 40, [(.str []), .nils], 35⟩ : Elt) := by kernel_rfl
abbrev glitch_Held_post (r : (List S_api_Segment) × Int) : SV → Mem → Prop := fun s Me => ∃ q1, s = (.tuple [q1, (.int .i64 r.2)]) ∧ Has (fun _ => none) Me [.vec 37 2 r.1.length q1 (r.1.flatMap enc37)]

def glitch_Held (F : Nat) (a0 : S_api_Veto) (a1 : Int) : Option ((List S_api_Segment) × Int) :=
  bnd (glitch_checkSpan F ([a0] : List S_api_Veto) a1) fun r28 =>
  bif (!(r28 == (0 : Int))) then
    some (([] : List S_api_Segment), r28)
  else
    bnd (glitch_held F a0.Segments a1) fun r35 =>
    some (r35, (0 : Int))

theorem glitch_Held_ok (F : Nat) (a0 : S_api_Veto) (a1 : Int) (s0 : SV) (r : (List S_api_Segment) × Int) (M : Mem) (hs0 : Slc (rd M) 2 (FlatR enc37) s0 a0.Segments) (h : glitch_Held F a0 a1 = some r) : CallsM Tryz.prog 13 [(.agg [(.str a0.Name), s0]), (.int .i64 a1)] M (fun s M' => ∃ q1, s = (.tuple [q1, (.int .i64 r.2)]) ∧ New M M' [.vec 37 2 r.1.length q1 (r.1.flatMap enc37)]) := by
  refine CallsM.fresh (Q := glitch_Held_post r) Tryz.func13 rfl rfl ?_ (by rintro s Me ⟨q1, rfl, hx⟩ ha hw; exact ⟨_, rfl, New.of rfl hx ha hw⟩)
  rw [glitch_Held] at h
  replace hs0 := hs0.mono (rdLe_frozen M) (fun _ _ h => h)
  have hH := Has.nil (frozen M)
  refine Run.seq (Run.region ?_)
  refine Run.opX wantS_none rfl (ExG.box rfl rfl hH) ?_
  rintro _ M23 ⟨b22, rfl, (hH23 : Has (ro (frozen M)) M23 [.obj b22 (.row 35 .whole [(.str a0.Name), s0])])⟩
  refine Run.opG wantS_none (ex_assign rfl) rfl ?_
  refine Run.opG wantS_none (ex_assign rfl) rfl ?_
  refine Run.opsEnd (Run.seq (Run.seq (Run.region ?_)))
  refine Run.opG wantS_none (ex_loadA rfl (hH23.cells (i := 0) rfl 0 rfl) rdLe_rfl agg35 rfl rfl rfl) rfl ?_
  have hr25 : Rows (rep35 (ro (frozen M))) 2 [(.str a0.Name), s0] ([a0] : List S_api_Veto) := (Rows.cons (cs := [(.str a0.Name), s0]) rfl ⟨s0, rfl, hs0⟩ Rows.nil)
  refine Run.opX wantS_none rfl (ExG.builtR (z := 2) (c := [(.str a0.Name), s0]) rfl elt22 rfl rfl rfl hH23) ?_
  rintro s25 M26 (hH26 : Has (ro (frozen M)) M26 [.vec 35 2 ([a0] : List S_api_Veto).length s25 [(.str a0.Name), s0], .obj b22 (.row 35 .whole [(.str a0.Name), s0])])
  refine Run.opG wantS_none (ex_move rfl) rfl ?_
  obtain ⟨r28, hr28, h⟩ := bnd_some h
  refine Run.callP wantS_none (ex_call rfl mkk30 cal30) rfl (glitch_checkSpan_ok F ([a0] : List S_api_Veto) a1 s25 _ _ (((hH26.slcR (i := 0) rfl hr25)).mono (fun _ _ h => h) (fun _ _ => rep35_mo hH26.le)) hr28) ?_
  refine Run.opG wantS_none (ex_assign rfl) rfl ?_
  refine Run.opsEnd (Run.seq (Run.region ?_))
  refine Run.opG wantS_none (ex_move rfl) rfl ?_
  refine Run.opG wantS_none (ex_neq rfl rfl) rfl ?_
  refine Run.opsEnd ?_
  rcases btf ((!(r28 == (0 : Int)))) with hc30 | hc30
  · have h := bif_t hc30 h
    refine Run.condT' rfl hc30 ?_
    refine Run.seq (Run.region ?_)
    refine Run.opG wantS_none (ex_move rfl) rfl ?_
    refine Run.opG wantS_none (ex_assign rfl) rfl ?_
    refine Run.opG wantS_none (ex_assign rfl) rfl ?_
    refine Run.opsEnd ?_
    have hH32 : Has (ro (frozen M)) M26 [.vec 37 2 ([] : List S_api_Segment).length .nils (([] : List S_api_Segment).flatMap enc37), .vec 35 2 ([a0] : List S_api_Veto).length s25 [(.str a0.Name), s0], .obj b22 (.row 35 .whole [(.str a0.Name), s0])] := hH26.nils 37 2
    cases h
    exact Run.ret Tryz.func13 rfl (res_tmp rfl (res_tmp rfl res_nil)) ⟨_, rfl, (hH32.pick [0] rfl rfl).upF (none_le _)⟩
  · have h := bif_f hc30 h
    refine Run.condF' rfl hc30 ?_
    refine Run.skip (Run.seq (Run.region ?_))
    refine Run.opG wantS_none (ex_fieldAddr rfl off35_1) rfl ?_
    refine Run.opG wantS_none (ex_load1 rfl (hH26.cells (i := 1) rfl 1 rfl) rdLe_rfl agg31) rfl ?_
    refine Run.opG wantS_none (ex_move rfl) rfl ?_
    obtain ⟨r35, hr35, h⟩ := bnd_some h
    refine Run.callX wantS_none (ex_call rfl mkk41 cal41) rfl (glitch_held_ok F a0.Segments a1 s0 _ _ (hH26.slcF hs0) hr35) ?_
    rintro s35_0 M37 ⟨_, rfl, hN35⟩
    have hH37 : Has (ro (frozen M)) M37 [.vec 37 2 r35.length s35_0 (r35.flatMap enc37), .vec 35 2 ([a0] : List S_api_Veto).length s25 [(.str a0.Name), s0], .obj b22 (.row 35 .whole [(.str a0.Name), s0])] := hN35.1 _ _ hH26
    refine Run.opG wantS_none (ex_assign rfl) rfl ?_
    refine Run.opG wantS_none (ex_assign rfl) rfl ?_
    refine Run.opsEnd ?_
    cases h
    exact Run.ret Tryz.func13 rfl (res_tmp rfl (res_tmp rfl res_nil)) ⟨_, rfl, (hH37.pick [0] rfl rfl).upF (none_le _)⟩

theorem mkk13 : makeK Tryz.prog 13 = none := by kernel_rfl
theorem cal13 : callable Tryz.prog 13 = true := by kernel_rfl
theorem slk22 : slK Tryz.prog 22 = some (.sl 2) := by kernel_rfl
theorem plan3_1_1_1_1_1_1_1_1_0_1_0_0_1_0_0_1_1_1_1_0_1_0_0_1_0_0_1 : planOf Tryz.prog (opsC (atC Tryz.prog 3 [1, 1, 1, 1, 1, 1, 1, 1, 0, 1, 0, 0, 1, 0, 0, 1, 1, 1, 1, 0, 1, 0, 0, 1, 0, 0, 1])) = some [.fl 0, .fl 1, .fl 2, .fl 3, .fl 4, .fl 5, .fl 6, .fl 7, .fl 8, .fl 9, .fl 10, .fl 11, .fl 12, .an 13 [], .sync] := by kernel_rfl
theorem plan3_1_1_1_1_1_1_1_1_0_1_0_0_1_0_0_1_1_1_1_0_1_0_0_1_0_0_0_0 : planOf Tryz.prog (opsC (atC Tryz.prog 3 [1, 1, 1, 1, 1, 1, 1, 1, 0, 1, 0, 0, 1, 0, 0, 1, 1, 1, 1, 0, 1, 0, 0, 1, 0, 0, 0, 0])) = some [.fl 0, .fl 1, .fl 2, .fl 3, .fl 4, .fl 5, .fl 6, .fl 7, .fl 8, .fl 9, .fl 10, .fl 11, .fl 12, .fl 13, .fl 14, .fl 15, .fl 16, .fl 17, .fl 18, .fl 19, .fl 20, .fl 21, .fl 22, .fl 23, .fl 24, .fl 25, .fl 26, .fl 27, .fl 28, .fl 29, .fl 30, .fl 31, .fl 32, .fl 33, .fl 34, .fl 35, .fl 36, .fl 37, .sync] := by kernel_rfl
abbrev law06_GlitchTime_post (r : Bool) : SV → Mem → Prop := fun s _ => s = (.bool r)

def law06_GlitchTime_1 (F : Nat) (v32 : Bool) : Option (Bool) :=
  some v32

theorem law06_GlitchTime_1_ok (F : Nat) : ∀ (v32 : Bool) (Fr : Rd) (M : Mem) (r : Bool) (hH : Has Fr M [tb0, tb1, tb2]), law06_GlitchTime_1 F v32 = some r → Run Tryz.prog ⟨⟨3, [], none⟩, []⟩ 153 (law06_GlitchTime_post r) [(32, (.bool v32))] [itemC Tryz.prog 3 [1, 1, 1, 0, 1, 0, 0] 5, codeC Tryz.prog 3 [1, 1, 1, 0, 1, 0, 1], codeC Tryz.prog 3 [1, 1, 1, 1]] M := by
  intro v32 Fr M r hH h
  rw [law06_GlitchTime_1] at h
  refine Run.opG wantS_none (ex_assign rfl) rfl ?_
  refine Run.opsEnd ?_
  cases h
  exact Run.ret Tryz.func3 rfl (res_tmp rfl res_nil) rfl

def law06_GlitchTime_6 (F : Nat) (hd5 : (List S_api_Veto) → Int → Int → Int → Int → Int → (List Int) → (List S_api_Segment) → (List Int) → Option (Bool)) (v0 : (List S_api_Veto)) (v1 : Int) (v10 : Int) (v14 : Int) (v15 : Int) (v16 : Int) (v128 : Bool) (l35 : (List Int)) (l59 : (List S_api_Segment)) (l67 : (List Int)) : Option (Bool) :=
  bif v128 then
    some false
  else
    bnd (idx l59 v16) fun x74 =>
    bnd (idx l59 v16) fun x75 =>
    hd5 v0 v1 v10 v14 (w64 (v15 + (w64 (x74.To - x75.From)))) (w64 (v16 + (1 : Int))) l35 l59 l67

theorem law06_GlitchTime_6_ok (F : Nat) (hd5 : (List S_api_Veto) → Int → Int → Int → Int → Int → (List Int) → (List S_api_Segment) → (List Int) → Option (Bool)) (hhd5 : ∀ (v0 : (List S_api_Veto)) (v1 : Int) (v10 : Int) (v14 : Int) (v15 : Int) (v16 : Int) (l35 : (List Int)) (l59 : (List S_api_Segment)) (l67 : (List Int)) (sv0 : SV) (s35 : SV) (s59 : SV) (s67 : SV) (Fr : Rd) (M : Mem) (r : Bool) (hv0 : Slc Fr 2 (rep35 Fr) sv0 v0) (hH : Has Fr M [.vec 3 1 l35.length s35 (l35.flatMap enc3), .vec 37 2 l59.length s59 (l59.flatMap enc37), .vec 3 1 l67.length s67 (l67.flatMap enc3), tb0, tb1, tb2]), hd5 v0 v1 v10 v14 v15 v16 l35 l59 l67 = some r → Run Tryz.prog ⟨⟨3, [], none⟩, []⟩ 153 (law06_GlitchTime_post r) [(0, sv0), (1, (.int .i64 v1)), (7, s35), (10, (.int .i64 v10)), (11, s59), (13, s67), (14, (.int .i64 v14)), (15, (.int .i64 v15)), (16, (.int .i64 v16))] [codeC Tryz.prog 3 [1, 1, 1, 1, 1, 1, 1, 1, 0, 1, 0, 0, 1, 0, 0, 1, 1, 1, 1, 0, 1, 0, 0], loopC Tryz.prog 3 [1, 1, 1, 1, 1, 1, 1, 1, 0, 1, 0, 0, 1, 0, 0, 1, 1, 1, 1, 0, 1, 0, 0], .inBlock 4, codeC Tryz.prog 3 [1, 1, 1, 1, 1, 1, 1, 1, 0, 1, 0, 0, 1, 0, 0, 1, 1, 1, 1, 1], .inBlock 3, codeC Tryz.prog 3 [1, 1, 1, 1, 1, 1, 1, 1, 0, 1, 0, 0, 1, 1], loopC Tryz.prog 3 [1, 1, 1, 1, 1, 1, 1, 1, 0, 1, 0, 0], .inBlock 2, codeC Tryz.prog 3 [1, 1, 1, 1, 1, 1, 1, 1, 1]] M) : ∀ (v0 : (List S_api_Veto)) (v1 : Int) (v10 : Int) (v14 : Int) (v15 : Int) (v16 : Int) (v128 : Bool) (l35 : (List Int)) (l59 : (List S_api_Segment)) (l67 : (List Int)) (sv0 : SV) (s35 : SV) (s59 : SV) (s67 : SV) (Fr : Rd) (M : Mem) (r : Bool) (hv0 : Slc Fr 2 (rep35 Fr) sv0 v0) (hH : Has Fr M [.vec 3 1 l35.length s35 (l35.flatMap enc3), .vec 37 2 l59.length s59 (l59.flatMap enc37), .vec 3 1 l67.length s67 (l67.flatMap enc3), tb0, tb1, tb2]), law06_GlitchTime_6 F hd5 v0 v1 v10 v14 v15 v16 v128 l35 l59 l67 = some r → Run Tryz.prog ⟨⟨3, [], none⟩, []⟩ 153 (law06_GlitchTime_post r) [(0, sv0), (1, (.int .i64 v1)), (7, s35), (10, (.int .i64 v10)), (11, s59), (13, s67), (14, (.int .i64 v14)), (15, (.int .i64 v15)), (16, (.int .i64 v16)), (128, (.bool v128))] [codeC Tryz.prog 3 [1, 1, 1, 1, 1, 1, 1, 1, 0, 1, 0, 0, 1, 0, 0, 1, 1, 1, 1, 0, 1, 0, 0, 1, 0, 0, 0, 1], codeC Tryz.prog 3 [1, 1, 1, 1, 1, 1, 1, 1, 0, 1, 0, 0, 1, 0, 0, 1, 1, 1, 1, 0, 1, 0, 0, 1, 0, 0, 1], .inBlock 5, codeC Tryz.prog 3 [1, 1, 1, 1, 1, 1, 1, 1, 0, 1, 0, 0, 1, 0, 0, 1, 1, 1, 1, 0, 1, 0, 0, 1, 1], loopC Tryz.prog 3 [1, 1, 1, 1, 1, 1, 1, 1, 0, 1, 0, 0, 1, 0, 0, 1, 1, 1, 1, 0, 1, 0, 0], .inBlock 4, codeC Tryz.prog 3 [1, 1, 1, 1, 1, 1, 1, 1, 0, 1, 0, 0, 1, 0, 0, 1, 1, 1, 1, 1], .inBlock 3, codeC Tryz.prog 3 [1, 1, 1, 1, 1, 1, 1, 1, 0, 1, 0, 0, 1, 1], loopC Tryz.prog 3 [1, 1, 1, 1, 1, 1, 1, 1, 0, 1, 0, 0], .inBlock 2, codeC Tryz.prog 3 [1, 1, 1, 1, 1, 1, 1, 1, 1]] M := by
  intro v0 v1 v10 v14 v15 v16 v128 l35 l59 l67 sv0 s35 s59 s67 Fr M r hv0 hH h
  rw [law06_GlitchTime_6] at h
  rcases btf (v128) with hc73 | hc73
  · have h := bif_t hc73 h
    refine Run.condT' rfl hc73 ?_
    refine Run.seq (Run.region ?_)
    refine Run.opG wantS_none (ex_assign rfl) rfl ?_
    refine Run.opsEnd ?_
    cases h
    exact Run.ret Tryz.func3 rfl (res_tmp rfl res_nil) rfl
  · have h := bif_f hc73 h
    refine Run.condF' rfl hc73 ?_
    refine Run.skip ?_
    refine Run.drawG plan3_1_1_1_1_1_1_1_1_0_1_0_0_1_0_0_1_1_1_1_0_1_0_0_1_0_0_1 ?_
    refine DrawG.fl rfl (ev_ex wantS_none (ex_move rfl)) rfl ?_
    refine DrawG.fl rfl (ev_ex wantS_none (ex_move rfl)) rfl ?_
    refine DrawG.fl rfl (ev_ex wantS_none (ex_move rfl)) rfl ?_
    obtain ⟨x74, hx74, h⟩ := bnd_some h
    obtain ⟨p74, o74, hb74, hx74, he74⟩ := vec_elem (P := Tryz.prog) (t := 31) (kk := .i64) hH (i := 1) rfl hx74 els31
    refine DrawG.fl rfl (ev_ex wantS_none (ex_elX rfl rfl hx74)) rfl ?_
    refine DrawG.fl rfl (ev_ex wantS_none (ex_fieldAddr rfl off37_1)) rfl ?_
    refine DrawG.fl rfl (ev_ex wantS_none (ex_load1 rfl ((hH.at (enc := enc37) (a := x74) (i := 1) rfl hb74 he74 enc37_len).fld (o := 1) rfl) rdLe_rfl agg3)) rfl ?_
    refine DrawG.fl rfl (ev_ex wantS_none (ex_move rfl)) rfl ?_
    refine DrawG.fl rfl (ev_ex wantS_none (ex_move rfl)) rfl ?_
    obtain ⟨x75, hx75, h⟩ := bnd_some h
    obtain ⟨p75, o75, hb75, hx75, he75⟩ := vec_elem (P := Tryz.prog) (t := 31) (kk := .i64) hH (i := 1) rfl hx75 els31
    refine DrawG.fl rfl (ev_ex wantS_none (ex_elX rfl rfl hx75)) rfl ?_
    refine DrawG.fl rfl (ev_ex wantS_none (ex_fieldAddr rfl off37_0)) rfl ?_
    refine DrawG.fl rfl (ev_ex wantS_none (ex_load1 rfl ((hH.at (enc := enc37) (a := x75) (i := 1) rfl hb75 he75 enc37_len).fld (o := 0) rfl) rdLe_rfl agg3)) rfl ?_
    refine DrawG.fl rfl (ev_ex wantS_none (ex_sub rfl rfl)) rfl ?_
    refine DrawG.fl rfl (ev_ex wantS_none (ex_add rfl rfl)) rfl ?_
    refine DrawG.val rfl wantS_none (ex_assign rfl) rfl st_nil ?_
    refine DrawG.sync ?_
    refine DrawG.nil ?_
    refine Run.inBlock (Run.region ?_)
    refine Run.opG wantS_none (ex_move rfl) rfl ?_
    refine Run.opG wantS_none (ex_add rfl rfl) rfl ?_
    refine Run.opG wantS_none (ex_assign rfl) rfl ?_
    refine Run.opsEnd (Run.inLoop ?_)
    exact Run.pick [0, 1, 7, 10, 11, 13, 14, 15, 16] (hhd5 v0 v1 v10 v14 (w64 (v15 + (w64 (x74.To - x75.From)))) (w64 (v16 + (1 : Int))) l35 l59 l67 sv0 s35 s59 s67 _ _ _ hv0 hH h)

def law06_GlitchTime_7 (F : Nat) (hd4 : (List S_api_Veto) → Int → Int → (List Int) → Option (Bool)) (v0 : (List S_api_Veto)) (v1 : Int) (v10 : Int) (v151 : Bool) (l35 : (List Int)) : Option (Bool) :=
  bif v151 then
    some false
  else
    hd4 v0 v1 (w64 (v10 + (1 : Int))) l35

theorem law06_GlitchTime_7_ok (F : Nat) (hd4 : (List S_api_Veto) → Int → Int → (List Int) → Option (Bool)) (hhd4 : ∀ (v0 : (List S_api_Veto)) (v1 : Int) (v10 : Int) (l35 : (List Int)) (sv0 : SV) (s35 : SV) (Fr : Rd) (M : Mem) (r : Bool) (hv0 : Slc Fr 2 (rep35 Fr) sv0 v0) (hH : Has Fr M [.vec 3 1 l35.length s35 (l35.flatMap enc3), tb0, tb1, tb2]), hd4 v0 v1 v10 l35 = some r → Run Tryz.prog ⟨⟨3, [], none⟩, []⟩ 153 (law06_GlitchTime_post r) [(0, sv0), (1, (.int .i64 v1)), (7, s35), (10, (.int .i64 v10))] [codeC Tryz.prog 3 [1, 1, 1, 1, 1, 1, 1, 1, 0, 1, 0, 0], loopC Tryz.prog 3 [1, 1, 1, 1, 1, 1, 1, 1, 0, 1, 0, 0], .inBlock 2, codeC Tryz.prog 3 [1, 1, 1, 1, 1, 1, 1, 1, 1]] M) : ∀ (v0 : (List S_api_Veto)) (v1 : Int) (v10 : Int) (v151 : Bool) (l35 : (List Int)) (sv0 : SV) (s35 : SV) (Fr : Rd) (M : Mem) (r : Bool) (hv0 : Slc Fr 2 (rep35 Fr) sv0 v0) (hH : Has Fr M [.vec 3 1 l35.length s35 (l35.flatMap enc3), tb0, tb1, tb2]), law06_GlitchTime_7 F hd4 v0 v1 v10 v151 l35 = some r → Run Tryz.prog ⟨⟨3, [], none⟩, []⟩ 153 (law06_GlitchTime_post r) [(0, sv0), (1, (.int .i64 v1)), (7, s35), (10, (.int .i64 v10)), (151, (.bool v151))] [codeC Tryz.prog 3 [1, 1, 1, 1, 1, 1, 1, 1, 0, 1, 0, 0, 1, 0, 0, 1, 1, 1, 1, 1, 1], .inBlock 3, codeC Tryz.prog 3 [1, 1, 1, 1, 1, 1, 1, 1, 0, 1, 0, 0, 1, 1], loopC Tryz.prog 3 [1, 1, 1, 1, 1, 1, 1, 1, 0, 1, 0, 0], .inBlock 2, codeC Tryz.prog 3 [1, 1, 1, 1, 1, 1, 1, 1, 1]] M := by
  intro v0 v1 v10 v151 l35 sv0 s35 Fr M r hv0 hH h
  rw [law06_GlitchTime_7] at h
  rcases btf (v151) with hc82 | hc82
  · have h := bif_t hc82 h
    refine Run.condT' rfl hc82 ?_
    refine Run.seq (Run.region ?_)
    refine Run.opG wantS_none (ex_assign rfl) rfl ?_
    refine Run.opsEnd ?_
    cases h
    exact Run.ret Tryz.func3 rfl (res_tmp rfl res_nil) rfl
  · have h := bif_f hc82 h
    refine Run.condF' rfl hc82 ?_
    refine Run.skip (Run.inBlock (Run.region ?_))
    refine Run.opG wantS_none (ex_move rfl) rfl ?_
    refine Run.opG wantS_none (ex_add rfl rfl) rfl ?_
    refine Run.opG wantS_none (ex_assign rfl) rfl ?_
    refine Run.opsEnd (Run.inLoop ?_)
    exact Run.pick [0, 1, 7, 10] (hhd4 v0 v1 (w64 (v10 + (1 : Int))) l35 sv0 s35 _ _ _ hv0 hH h)

def law06_GlitchTime_5 (F : Nat) (hd4 : (List S_api_Veto) → Int → Int → (List Int) → Option (Bool)) : Nat → (List S_api_Veto) → Int → Int → Int → Int → Int → (List Int) → (List S_api_Segment) → (List Int) → Option (Bool)
  | 0, _, _, _, _, _, _, _, _, _ => none
  | N + 1, v0, v1, v10, v14, v15, v16, l35, l59, l67 =>
    bif (decide (v16 < (l59.length : Int))) then
      bnd (idx l59 v16) fun x70 =>
      bnd (idx l59 v16) fun x71 =>
      bif (decide (x71.To ≤ x70.From)) then
        law06_GlitchTime_6 F (law06_GlitchTime_5 F hd4 N) v0 v1 v10 v14 v15 v16 true l35 l59 l67
      else
        bnd (idx l59 v16) fun x76 =>
        bif (decide (v1 < x76.To)) then
          law06_GlitchTime_6 F (law06_GlitchTime_5 F hd4 N) v0 v1 v10 v14 v15 v16 true l35 l59 l67
        else
          bif (decide ((0 : Int) < v16)) then
            bnd (idx l59 (w64 (v16 - (1 : Int)))) fun x79 =>
            bnd (idx l59 v16) fun x80 =>
            law06_GlitchTime_6 F (law06_GlitchTime_5 F hd4 N) v0 v1 v10 v14 v15 v16 (decide (x80.From ≤ x79.To)) l35 l59 l67
          else
            law06_GlitchTime_6 F (law06_GlitchTime_5 F hd4 N) v0 v1 v10 v14 v15 v16 false l35 l59 l67
    else
      bif (!(v14 == (0 : Int))) then
        law06_GlitchTime_7 F hd4 v0 v1 v10 true l35
      else
        law06_GlitchTime_7 F hd4 v0 v1 v10 (!(v15 == (w64 (v1 - (l67.length : Int))))) l35

theorem law06_GlitchTime_5_ok (F : Nat) (hd4 : (List S_api_Veto) → Int → Int → (List Int) → Option (Bool)) (hhd4 : ∀ (v0 : (List S_api_Veto)) (v1 : Int) (v10 : Int) (l35 : (List Int)) (sv0 : SV) (s35 : SV) (Fr : Rd) (M : Mem) (r : Bool) (hv0 : Slc Fr 2 (rep35 Fr) sv0 v0) (hH : Has Fr M [.vec 3 1 l35.length s35 (l35.flatMap enc3), tb0, tb1, tb2]), hd4 v0 v1 v10 l35 = some r → Run Tryz.prog ⟨⟨3, [], none⟩, []⟩ 153 (law06_GlitchTime_post r) [(0, sv0), (1, (.int .i64 v1)), (7, s35), (10, (.int .i64 v10))] [codeC Tryz.prog 3 [1, 1, 1, 1, 1, 1, 1, 1, 0, 1, 0, 0], loopC Tryz.prog 3 [1, 1, 1, 1, 1, 1, 1, 1, 0, 1, 0, 0], .inBlock 2, codeC Tryz.prog 3 [1, 1, 1, 1, 1, 1, 1, 1, 1]] M) : ∀ (N : Nat), ∀ (v0 : (List S_api_Veto)) (v1 : Int) (v10 : Int) (v14 : Int) (v15 : Int) (v16 : Int) (l35 : (List Int)) (l59 : (List S_api_Segment)) (l67 : (List Int)) (sv0 : SV) (s35 : SV) (s59 : SV) (s67 : SV) (Fr : Rd) (M : Mem) (r : Bool) (hv0 : Slc Fr 2 (rep35 Fr) sv0 v0) (hH : Has Fr M [.vec 3 1 l35.length s35 (l35.flatMap enc3), .vec 37 2 l59.length s59 (l59.flatMap enc37), .vec 3 1 l67.length s67 (l67.flatMap enc3), tb0, tb1, tb2]), law06_GlitchTime_5 F hd4 N v0 v1 v10 v14 v15 v16 l35 l59 l67 = some r → Run Tryz.prog ⟨⟨3, [], none⟩, []⟩ 153 (law06_GlitchTime_post r) [(0, sv0), (1, (.int .i64 v1)), (7, s35), (10, (.int .i64 v10)), (11, s59), (13, s67), (14, (.int .i64 v14)), (15, (.int .i64 v15)), (16, (.int .i64 v16))] [codeC Tryz.prog 3 [1, 1, 1, 1, 1, 1, 1, 1, 0, 1, 0, 0, 1, 0, 0, 1, 1, 1, 1, 0, 1, 0, 0], loopC Tryz.prog 3 [1, 1, 1, 1, 1, 1, 1, 1, 0, 1, 0, 0, 1, 0, 0, 1, 1, 1, 1, 0, 1, 0, 0], .inBlock 4, codeC Tryz.prog 3 [1, 1, 1, 1, 1, 1, 1, 1, 0, 1, 0, 0, 1, 0, 0, 1, 1, 1, 1, 1], .inBlock 3, codeC Tryz.prog 3 [1, 1, 1, 1, 1, 1, 1, 1, 0, 1, 0, 0, 1, 1], loopC Tryz.prog 3 [1, 1, 1, 1, 1, 1, 1, 1, 0, 1, 0, 0], .inBlock 2, codeC Tryz.prog 3 [1, 1, 1, 1, 1, 1, 1, 1, 1]] M := by
  intro N
  induction N with
  | zero =>
    intro v0 v1 v10 v14 v15 v16 l35 l59 l67 sv0 s35 s59 s67 Fr M r hv0 hH h
    simp [law06_GlitchTime_5] at h
  | succ N ih =>
    intro v0 v1 v10 v14 v15 v16 l35 l59 l67 sv0 s35 s59 s67 Fr M r hv0 hH h
    rw [law06_GlitchTime_5] at h
    refine Run.seq (Run.seq (Run.region ?_))
    refine Run.opG wantS_none (ex_move rfl) rfl ?_
    refine Run.opG wantS_none (ex_move rfl) rfl ?_
    refine Run.opG wantS_none (ex_len' rfl (hH.slc (i := 1) rfl enc37_len) lenk31) rfl ?_
    refine Run.opG wantS_none (ex_lss rfl rfl) rfl ?_
    refine Run.opsEnd ?_
    rcases btf ((decide (v16 < (l59.length : Int)))) with hc69 | hc69
    · have h := bif_t hc69 h
      refine Run.condT' rfl hc69 ?_
      refine Run.skip (Run.seq (Run.block (Run.seq (Run.seq ?_))))
      refine Run.drawG plan3_1_1_1_1_1_1_1_1_0_1_0_0_1_0_0_1_1_1_1_0_1_0_0_1_0_0_0_0 ?_
      refine DrawG.fl rfl (ev_ex wantS_none (ex_move rfl)) rfl ?_
      refine DrawG.fl rfl (ev_ex wantS_none (ex_move rfl)) rfl ?_
      obtain ⟨x70, hx70, h⟩ := bnd_some h
      obtain ⟨p70, o70, hb70, hx70, he70⟩ := vec_elem (P := Tryz.prog) (t := 31) (kk := .i64) hH (i := 1) rfl hx70 els31
      refine DrawG.fl rfl (ev_ex wantS_none (ex_elX rfl rfl hx70)) rfl ?_
      refine DrawG.fl rfl (ev_ex wantS_none (ex_fieldAddr rfl off37_0)) rfl ?_
      refine DrawG.fl rfl (ev_ex wantS_none (ex_load1 rfl ((hH.at (enc := enc37) (a := x70) (i := 1) rfl hb70 he70 enc37_len).fld (o := 0) rfl) rdLe_rfl agg3)) rfl ?_
      refine DrawG.fl rfl (ev_ex wantS_none (ex_move rfl)) rfl ?_
      refine DrawG.fl rfl (ev_ex wantS_none (ex_move rfl)) rfl ?_
      obtain ⟨x71, hx71, h⟩ := bnd_some h
      obtain ⟨p71, o71, hb71, hx71, he71⟩ := vec_elem (P := Tryz.prog) (t := 31) (kk := .i64) hH (i := 1) rfl hx71 els31
      refine DrawG.fl rfl (ev_ex wantS_none (ex_elX rfl rfl hx71)) rfl ?_
      refine DrawG.fl rfl (ev_ex wantS_none (ex_fieldAddr rfl off37_1)) rfl ?_
      refine DrawG.fl rfl (ev_ex wantS_none (ex_load1 rfl ((hH.at (enc := enc37) (a := x71) (i := 1) rfl hb71 he71 enc37_len).fld (o := 1) rfl) rdLe_rfl agg3)) rfl ?_
      refine DrawG.fl rfl (ev_ex wantS_none (ex_geq rfl rfl)) rfl ?_
      refine DrawG.fl rfl (ev_ex wantS_none (ex_move rfl)) rfl ?_
      rcases btf ((decide (x71.To ≤ x70.From))) with hc72 | hc72
      · have h := bif_t hc72 h
        refine DrawG.fl rfl (ev_no (wantS_not' rfl rfl hc72)) rfl ?_
        refine DrawG.fl rfl (ev_no (wantS_not' rfl rfl hc72)) rfl ?_
        refine DrawG.fl rfl (ev_no (wantS_not' rfl rfl hc72)) rfl ?_
        refine DrawG.fl rfl (ev_no (wantS_not' rfl rfl hc72)) rfl ?_
        refine DrawG.fl rfl (ev_no (wantS_not' rfl rfl hc72)) rfl ?_
        refine DrawG.fl rfl (ev_no (wantS_not' rfl rfl hc72)) rfl ?_
        refine DrawG.fl rfl (ev_no (wantS_not' rfl rfl hc72)) rfl ?_
        refine DrawG.fl rfl (ev_ex wantS_none (ex_pickT' rfl hc72 rfl rfl)) rfl ?_
        refine DrawG.fl rfl (ev_ex wantS_none (ex_move rfl)) rfl ?_
        refine DrawG.fl rfl (ev_no (wantS_not' rfl rfl rfl)) rfl ?_
        refine DrawG.fl rfl (ev_no (wantS_not' rfl rfl rfl)) rfl ?_
        refine DrawG.fl rfl (ev_no (wantS_not' rfl rfl rfl)) rfl ?_
        refine DrawG.fl rfl (ev_no (wantS_skip rfl rfl)) rfl ?_
        refine DrawG.fl rfl (ev_no (wantS_skip rfl rfl)) rfl ?_
        refine DrawG.fl rfl (ev_no (wantS_skip rfl rfl)) rfl ?_
        refine DrawG.fl rfl (ev_no (wantS_skip rfl rfl)) rfl ?_
        refine DrawG.fl rfl (ev_no (wantS_skip rfl rfl)) rfl ?_
        refine DrawG.fl rfl (ev_no (wantS_skip rfl rfl)) rfl ?_
        refine DrawG.fl rfl (ev_no (wantS_skip rfl rfl)) rfl ?_
        refine DrawG.fl rfl (ev_no (wantS_skip rfl rfl)) rfl ?_
        refine DrawG.fl rfl (ev_no (wantS_skip rfl rfl)) rfl ?_
        refine DrawG.fl rfl (ev_no (wantS_skip rfl rfl)) rfl ?_
        refine DrawG.fl rfl (ev_no (wantS_skip rfl rfl)) rfl ?_
        refine DrawG.fl rfl (ev_no (wantS_skip rfl rfl)) rfl ?_
        refine DrawG.fl rfl (ev_no (wantS_not' rfl rfl rfl)) rfl ?_
        refine DrawG.fl rfl (ev_ex wantS_none (ex_pickT' rfl rfl rfl rfl)) rfl ?_
        refine DrawG.sync ?_
        refine DrawG.nil ?_
        exact Run.pick [0, 1, 7, 10, 11, 13, 14, 15, 16, 128] (law06_GlitchTime_6_ok F (law06_GlitchTime_5 F hd4 N) ih v0 v1 v10 v14 v15 v16 true l35 l59 l67 sv0 s35 s59 s67 _ _ _ hv0 hH h)
      · have h := bif_f hc72 h
        refine DrawG.fl rfl (ev_ex (wantS_yes' rfl rfl hc72) (ex_move rfl)) rfl ?_
        refine DrawG.fl rfl (ev_ex (wantS_yes' rfl rfl hc72) (ex_move rfl)) rfl ?_
        obtain ⟨x76, hx76, h⟩ := bnd_some h
        obtain ⟨p76, o76, hb76, hx76, he76⟩ := vec_elem (P := Tryz.prog) (t := 31) (kk := .i64) hH (i := 1) rfl hx76 els31
        refine DrawG.fl rfl (ev_ex (wantS_yes' rfl rfl hc72) (ex_elX rfl rfl hx76)) rfl ?_
        refine DrawG.fl rfl (ev_ex (wantS_yes' rfl rfl hc72) (ex_fieldAddr rfl off37_1)) rfl ?_
        refine DrawG.fl rfl (ev_ex (wantS_yes' rfl rfl hc72) (ex_load1 rfl ((hH.at (enc := enc37) (a := x76) (i := 1) rfl hb76 he76 enc37_len).fld (o := 1) rfl) rdLe_rfl agg3)) rfl ?_
        refine DrawG.fl rfl (ev_ex (wantS_yes' rfl rfl hc72) (ex_move rfl)) rfl ?_
        refine DrawG.fl rfl (ev_ex (wantS_yes' rfl rfl hc72) (ex_gtr rfl rfl)) rfl ?_
        refine DrawG.fl rfl (ev_ex wantS_none (ex_pickF' rfl hc72 rfl rfl)) rfl ?_
        refine DrawG.fl rfl (ev_ex wantS_none (ex_move rfl)) rfl ?_
        rcases btf ((decide (v1 < x76.To))) with hc77 | hc77
        · have h := bif_t hc77 h
          refine DrawG.fl rfl (ev_no (wantS_not' rfl rfl hc77)) rfl ?_
          refine DrawG.fl rfl (ev_no (wantS_not' rfl rfl hc77)) rfl ?_
          refine DrawG.fl rfl (ev_no (wantS_not' rfl rfl hc77)) rfl ?_
          refine DrawG.fl rfl (ev_no (wantS_skip rfl rfl)) rfl ?_
          refine DrawG.fl rfl (ev_no (wantS_skip rfl rfl)) rfl ?_
          refine DrawG.fl rfl (ev_no (wantS_skip rfl rfl)) rfl ?_
          refine DrawG.fl rfl (ev_no (wantS_skip rfl rfl)) rfl ?_
          refine DrawG.fl rfl (ev_no (wantS_skip rfl rfl)) rfl ?_
          refine DrawG.fl rfl (ev_no (wantS_skip rfl rfl)) rfl ?_
          refine DrawG.fl rfl (ev_no (wantS_skip rfl rfl)) rfl ?_
          refine DrawG.fl rfl (ev_no (wantS_skip rfl rfl)) rfl ?_
          refine DrawG.fl rfl (ev_no (wantS_skip rfl rfl)) rfl ?_
          refine DrawG.fl rfl (ev_no (wantS_skip rfl rfl)) rfl ?_
          refine DrawG.fl rfl (ev_no (wantS_skip rfl rfl)) rfl ?_
          refine DrawG.fl rfl (ev_no (wantS_skip rfl rfl)) rfl ?_
          refine DrawG.fl rfl (ev_no (wantS_not' rfl rfl hc77)) rfl ?_
          refine DrawG.fl rfl (ev_ex wantS_none (ex_pickT' rfl hc77 rfl rfl)) rfl ?_
          refine DrawG.sync ?_
          refine DrawG.nil ?_
          exact Run.pick [0, 1, 7, 10, 11, 13, 14, 15, 16, 128] (law06_GlitchTime_6_ok F (law06_GlitchTime_5 F hd4 N) ih v0 v1 v10 v14 v15 v16 true l35 l59 l67 sv0 s35 s59 s67 _ _ _ hv0 hH h)
        · have h := bif_f hc77 h
          refine DrawG.fl rfl (ev_ex (wantS_yes' rfl rfl hc77) (ex_move rfl)) rfl ?_
          refine DrawG.fl rfl (ev_ex (wantS_yes' rfl rfl hc77) (ex_gtr rfl rfl)) rfl ?_
          refine DrawG.fl rfl (ev_ex (wantS_yes' rfl rfl hc77) (ex_move rfl)) rfl ?_
          rcases btf ((decide ((0 : Int) < v16))) with hc78 | hc78
          · have h := bif_t hc78 h
            refine DrawG.fl rfl (ev_ex (wantS_yes' rfl rfl hc78) (ex_move rfl)) rfl ?_
            refine DrawG.fl rfl (ev_ex (wantS_yes' rfl rfl hc78) (ex_move rfl)) rfl ?_
            refine DrawG.fl rfl (ev_ex (wantS_yes' rfl rfl hc78) (ex_sub rfl rfl)) rfl ?_
            obtain ⟨x79, hx79, h⟩ := bnd_some h
            obtain ⟨p79, o79, hb79, hx79, he79⟩ := vec_elem (P := Tryz.prog) (t := 31) (kk := .i64) hH (i := 1) rfl hx79 els31
            refine DrawG.fl rfl (ev_ex (wantS_yes' rfl rfl hc78) (ex_elX rfl rfl hx79)) rfl ?_
            refine DrawG.fl rfl (ev_ex (wantS_yes' rfl rfl hc78) (ex_fieldAddr rfl off37_1)) rfl ?_
            refine DrawG.fl rfl (ev_ex (wantS_yes' rfl rfl hc78) (ex_load1 rfl ((hH.at (enc := enc37) (a := x79) (i := 1) rfl hb79 he79 enc37_len).fld (o := 1) rfl) rdLe_rfl agg3)) rfl ?_
            refine DrawG.fl rfl (ev_ex (wantS_yes' rfl rfl hc78) (ex_move rfl)) rfl ?_
            refine DrawG.fl rfl (ev_ex (wantS_yes' rfl rfl hc78) (ex_move rfl)) rfl ?_
            obtain ⟨x80, hx80, h⟩ := bnd_some h
            obtain ⟨p80, o80, hb80, hx80, he80⟩ := vec_elem (P := Tryz.prog) (t := 31) (kk := .i64) hH (i := 1) rfl hx80 els31
            refine DrawG.fl rfl (ev_ex (wantS_yes' rfl rfl hc78) (ex_elX rfl rfl hx80)) rfl ?_
            refine DrawG.fl rfl (ev_ex (wantS_yes' rfl rfl hc78) (ex_fieldAddr rfl off37_0)) rfl ?_
            refine DrawG.fl rfl (ev_ex (wantS_yes' rfl rfl hc78) (ex_load1 rfl ((hH.at (enc := enc37) (a := x80) (i := 1) rfl hb80 he80 enc37_len).fld (o := 0) rfl) rdLe_rfl agg3)) rfl ?_
            refine DrawG.fl rfl (ev_ex (wantS_yes' rfl rfl hc78) (ex_geq rfl rfl)) rfl ?_
            refine DrawG.fl rfl (ev_ex (wantS_yes' rfl rfl hc77) (ex_pickT' rfl hc78 rfl rfl)) rfl ?_
            refine DrawG.fl rfl (ev_ex wantS_none (ex_pickF' rfl hc77 rfl rfl)) rfl ?_
            refine DrawG.sync ?_
            refine DrawG.nil ?_
            exact Run.pick [0, 1, 7, 10, 11, 13, 14, 15, 16, 128] (law06_GlitchTime_6_ok F (law06_GlitchTime_5 F hd4 N) ih v0 v1 v10 v14 v15 v16 (decide (x80.From ≤ x79.To)) l35 l59 l67 sv0 s35 s59 s67 _ _ _ hv0 hH h)
          · have h := bif_f hc78 h
            refine DrawG.fl rfl (ev_no (wantS_not' rfl rfl hc78)) rfl ?_
            refine DrawG.fl rfl (ev_no (wantS_not' rfl rfl hc78)) rfl ?_
            refine DrawG.fl rfl (ev_no (wantS_not' rfl rfl hc78)) rfl ?_
            refine DrawG.fl rfl (ev_no (wantS_not' rfl rfl hc78)) rfl ?_
            refine DrawG.fl rfl (ev_no (wantS_not' rfl rfl hc78)) rfl ?_
            refine DrawG.fl rfl (ev_no (wantS_not' rfl rfl hc78)) rfl ?_
            refine DrawG.fl rfl (ev_no (wantS_not' rfl rfl hc78)) rfl ?_
            refine DrawG.fl rfl (ev_no (wantS_not' rfl rfl hc78)) rfl ?_
            refine DrawG.fl rfl (ev_no (wantS_not' rfl rfl hc78)) rfl ?_
            refine DrawG.fl rfl (ev_no (wantS_not' rfl rfl hc78)) rfl ?_
            refine DrawG.fl rfl (ev_no (wantS_not' rfl rfl hc78)) rfl ?_
            refine DrawG.fl rfl (ev_no (wantS_not' rfl rfl hc78)) rfl ?_
            refine DrawG.fl rfl (ev_ex (wantS_yes' rfl rfl hc77) (ex_pickF' rfl hc78 rfl rfl)) rfl ?_
            refine DrawG.fl rfl (ev_ex wantS_none (ex_pickF' rfl hc77 rfl rfl)) rfl ?_
            refine DrawG.sync ?_
            refine DrawG.nil ?_
            exact Run.pick [0, 1, 7, 10, 11, 13, 14, 15, 16, 128] (law06_GlitchTime_6_ok F (law06_GlitchTime_5 F hd4 N) ih v0 v1 v10 v14 v15 v16 false l35 l59 l67 sv0 s35 s59 s67 _ _ _ hv0 hH h)
    · have h := bif_f hc69 h
      refine Run.condF' rfl hc69 ?_
      refine Run.exit rfl (Run.seq (Run.region ?_))
      refine Run.opG wantS_none (ex_move rfl) rfl ?_
      refine Run.opG wantS_none (ex_neq rfl rfl) rfl ?_
      refine Run.opG wantS_none (ex_move rfl) rfl ?_
      rcases btf ((!(v14 == (0 : Int)))) with hc81 | hc81
      · have h := bif_t hc81 h
        refine Run.no (wantS_not' rfl rfl hc81) rfl ?_
        refine Run.no (wantS_not' rfl rfl hc81) rfl ?_
        refine Run.no (wantS_not' rfl rfl hc81) rfl ?_
        refine Run.no (wantS_not' rfl rfl hc81) rfl ?_
        refine Run.no (wantS_not' rfl rfl hc81) rfl ?_
        refine Run.no (wantS_not' rfl rfl hc81) rfl ?_
        refine Run.opG wantS_none (ex_pickT' rfl hc81 rfl rfl) rfl ?_
        refine Run.opsEnd ?_
        exact Run.pick [0, 1, 7, 10, 151] (law06_GlitchTime_7_ok F hd4 hhd4 v0 v1 v10 true l35 sv0 s35 _ _ _ hv0 (hH.pick [0, 3, 4, 5] rfl rfl) h)
      · have h := bif_f hc81 h
        refine Run.opG (wantS_yes' rfl rfl hc81) (ex_move rfl) rfl ?_
        refine Run.opG (wantS_yes' rfl rfl hc81) (ex_move rfl) rfl ?_
        refine Run.opG (wantS_yes' rfl rfl hc81) (ex_move rfl) rfl ?_
        refine Run.opG (wantS_yes' rfl rfl hc81) (ex_len' rfl (hH.slc (i := 2) rfl enc3_len) lenk28) rfl ?_
        refine Run.opG (wantS_yes' rfl rfl hc81) (ex_sub rfl rfl) rfl ?_
        refine Run.opG (wantS_yes' rfl rfl hc81) (ex_neq rfl rfl) rfl ?_
        refine Run.opG wantS_none (ex_pickF' rfl hc81 rfl rfl) rfl ?_
        refine Run.opsEnd ?_
        exact Run.pick [0, 1, 7, 10, 151] (law06_GlitchTime_7_ok F hd4 hhd4 v0 v1 v10 (!(v15 == (w64 (v1 - (l67.length : Int))))) l35 sv0 s35 _ _ _ hv0 (hH.pick [0, 3, 4, 5] rfl rfl) h)

def law06_GlitchTime_4 (F : Nat) : Nat → (List S_api_Veto) → Int → Int → (List Int) → Option (Bool)
  | 0, _, _, _, _ => none
  | N + 1, v0, v1, v10, l35 =>
    bif (decide (v10 < (v0.length : Int))) then
      bnd (idx v0 v10) fun x55 =>
      bnd (glitch_Held F x55 v1) fun r58 =>
      bif (!(r58.2 == (0 : Int))) then
        some false
      else
        bnd (sub v0 v10 (w64 (v10 + (1 : Int)))) fun l63 =>
        bnd (glitch_Passed F l63 l35) fun r66 =>
        law06_GlitchTime_5 F (law06_GlitchTime_4 F N) F v0 v1 v10 r66.2 (0 : Int) (0 : Int) l35 r58.1 r66.1
    else
      bnd (works F) fun r84 =>
      some r84

theorem law06_GlitchTime_4_ok (F : Nat) : ∀ (N : Nat), ∀ (v0 : (List S_api_Veto)) (v1 : Int) (v10 : Int) (l35 : (List Int)) (sv0 : SV) (s35 : SV) (Fr : Rd) (M : Mem) (r : Bool) (hv0 : Slc Fr 2 (rep35 Fr) sv0 v0) (hH : Has Fr M [.vec 3 1 l35.length s35 (l35.flatMap enc3), tb0, tb1, tb2]), law06_GlitchTime_4 F N v0 v1 v10 l35 = some r → Run Tryz.prog ⟨⟨3, [], none⟩, []⟩ 153 (law06_GlitchTime_post r) [(0, sv0), (1, (.int .i64 v1)), (7, s35), (10, (.int .i64 v10))] [codeC Tryz.prog 3 [1, 1, 1, 1, 1, 1, 1, 1, 0, 1, 0, 0], loopC Tryz.prog 3 [1, 1, 1, 1, 1, 1, 1, 1, 0, 1, 0, 0], .inBlock 2, codeC Tryz.prog 3 [1, 1, 1, 1, 1, 1, 1, 1, 1]] M := by
  intro N
  induction N with
  | zero =>
    intro v0 v1 v10 l35 sv0 s35 Fr M r hv0 hH h
    simp [law06_GlitchTime_4] at h
  | succ N ih =>
    intro v0 v1 v10 l35 sv0 s35 Fr M r hv0 hH h
    rw [law06_GlitchTime_4] at h
    refine Run.seq (Run.seq (Run.region ?_))
    refine Run.opG wantS_none (ex_move rfl) rfl ?_
    refine Run.opG wantS_none (ex_move rfl) rfl ?_
    refine Run.opG wantS_none (ex_len' rfl hv0 lenk22) rfl ?_
    refine Run.opG wantS_none (ex_lss rfl rfl) rfl ?_
    refine Run.opsEnd ?_
    rcases btf ((decide (v10 < (v0.length : Int)))) with hc53 | hc53
    · have h := bif_t hc53 h
      refine Run.condT' rfl hc53 ?_
      refine Run.skip (Run.seq (Run.block (Run.seq (Run.region ?_))))
      refine Run.opG wantS_none (ex_move rfl) rfl ?_
      refine Run.opG wantS_none (ex_move rfl) rfl ?_
      obtain ⟨x55, hx55, h⟩ := bnd_some h
      obtain ⟨p55, o55, _, hx55, hp55, ⟨q55_0, rfl, hq55_0⟩⟩ := sl_elem (P := Tryz.prog) (t := 22) (kk := .i64) hv0 hx55 els22
      refine Run.opG wantS_none (ex_elX rfl rfl hx55) rfl ?_
      refine Run.opG wantS_none (ex_loadA rfl (hH.ptrF hp55) rdLe_rfl agg35 rfl rfl rfl) rfl ?_
      refine Run.opG wantS_none (ex_move rfl) rfl ?_
      obtain ⟨r58, hr58, h⟩ := bnd_some h
      refine Run.callX wantS_none (ex_call rfl mkk13 cal13) rfl (glitch_Held_ok F x55 v1 q55_0 _ _ (hH.slcF hq55_0) hr58) ?_
      rintro _ M60 ⟨s58_0, rfl, hN58⟩
      have hH60 : Has Fr M60 [.vec 37 2 r58.1.length s58_0 (r58.1.flatMap enc37), .vec 3 1 l35.length s35 (l35.flatMap enc3), tb0, tb1, tb2] := hN58.1 _ _ hH
      refine Run.opG wantS_none (ex_move rfl) rfl ?_
      refine Run.opG wantS_none (ex_extract rfl rfl) rfl ?_
      refine Run.opG wantS_none (ex_extract rfl rfl) rfl ?_
      refine Run.opG wantS_none (ex_assign rfl) rfl ?_
      refine Run.opG wantS_none (ex_assign rfl) rfl ?_
      refine Run.opsEnd (Run.seq (Run.seq (Run.region ?_)))
      refine Run.opG wantS_none (ex_move rfl) rfl ?_
      refine Run.opG wantS_none (ex_neq rfl rfl) rfl ?_
      refine Run.opsEnd ?_
      rcases btf ((!(r58.2 == (0 : Int)))) with hc61 | hc61
      · have h := bif_t hc61 h
        refine Run.condT' rfl hc61 ?_
        refine Run.seq (Run.region ?_)
        refine Run.opG wantS_none (ex_assign rfl) rfl ?_
        refine Run.opsEnd ?_
        cases h
        exact Run.ret Tryz.func3 rfl (res_tmp rfl res_nil) rfl
      · have h := bif_f hc61 h
        refine Run.condF' rfl hc61 ?_
        refine Run.skip (Run.seq (Run.region ?_))
        refine Run.opG wantS_none (ex_move rfl) rfl ?_
        refine Run.opG wantS_none (ex_move rfl) rfl ?_
        refine Run.opG wantS_none (ex_move rfl) rfl ?_
        refine Run.opG wantS_none (ex_add rfl rfl) rfl ?_
        obtain ⟨l63, hl63, h⟩ := bnd_some h
        obtain ⟨s63, hx63, hs63⟩ := sl_subB (P := Tryz.prog) (t := 22) (k0 := .i64) (k1 := .i64) hv0 hl63 slk22
        refine Run.opG wantS_none (ex_slX rfl (argO_some rfl) (argO_some rfl) hx63) rfl ?_
        refine Run.opG wantS_none (ex_move rfl) rfl ?_
        obtain ⟨r66, hr66, h⟩ := bnd_some h
        refine Run.callX wantS_none (ex_call rfl mkk12 cal12) rfl (glitch_Passed_ok F l63 l35 s63 s35 _ _ ((hs63).mono hH60.le (fun _ _ => rep35_mo hH60.le)) (hH60.slc (i := 1) rfl enc3_len) hr66) ?_
        rintro _ M68 ⟨s66_0, rfl, hN66⟩
        have hH68 : Has Fr M68 [.vec 3 1 r66.1.length s66_0 (r66.1.flatMap enc3), .vec 37 2 r58.1.length s58_0 (r58.1.flatMap enc37), .vec 3 1 l35.length s35 (l35.flatMap enc3), tb0, tb1, tb2] := hN66.1 _ _ hH60
        refine Run.opG wantS_none (ex_move rfl) rfl ?_
        refine Run.opG wantS_none (ex_extract rfl rfl) rfl ?_
        refine Run.opG wantS_none (ex_extract rfl rfl) rfl ?_
        refine Run.opG wantS_none (ex_assign rfl) rfl ?_
        refine Run.opG wantS_none (ex_assign rfl) rfl ?_
        refine Run.opsEnd (Run.seq (Run.region ?_))
        refine Run.opG wantS_none (ex_assign rfl) rfl ?_
        refine Run.opsEnd (Run.seq (Run.seq (Run.region ?_)))
        refine Run.opG wantS_none (ex_assign rfl) rfl ?_
        refine Run.opsEnd (Run.block (Run.loop ?_))
        exact Run.pick [0, 1, 7, 10, 11, 13, 14, 15, 16] (law06_GlitchTime_5_ok F (law06_GlitchTime_4 F N) ih F v0 v1 v10 r66.2 (0 : Int) (0 : Int) l35 r58.1 r66.1 sv0 s35 s58_0 s66_0 _ _ _ hv0 (hH68.pick [2, 1, 0, 3, 4, 5] rfl rfl) h)
    · have h := bif_f hc53 h
      refine Run.condF' rfl hc53 ?_
      refine Run.exit rfl (Run.seq (Run.region ?_))
      obtain ⟨r84, hr84, h⟩ := bnd_some h
      refine Run.callP wantS_none (ex_call rfl mkk11 cal11) rfl (works_ok F r84 _ hH (List.mem_of_getElem? (i := 1) rfl) (List.mem_of_getElem? (i := 2) rfl) (List.mem_of_getElem? (i := 3) rfl) hr84) ?_
      refine Run.opG wantS_none (ex_assign rfl) rfl ?_
      refine Run.opsEnd ?_
      cases h
      exact Run.ret Tryz.func3 rfl (res_tmp rfl res_nil) rfl

def law06_GlitchTime_3 (F : Nat) (v0 : (List S_api_Veto)) (v1 : Int) (v57 : Bool) (l35 : (List Int)) : Option (Bool) :=
  bif v57 then
    some false
  else
    law06_GlitchTime_4 F F v0 v1 (0 : Int) l35

theorem law06_GlitchTime_3_ok (F : Nat) : ∀ (v0 : (List S_api_Veto)) (v1 : Int) (v57 : Bool) (l35 : (List Int)) (sv0 : SV) (s35 : SV) (Fr : Rd) (M : Mem) (r : Bool) (hv0 : Slc Fr 2 (rep35 Fr) sv0 v0) (hH : Has Fr M [.vec 3 1 l35.length s35 (l35.flatMap enc3), tb0, tb1, tb2]), law06_GlitchTime_3 F v0 v1 v57 l35 = some r → Run Tryz.prog ⟨⟨3, [], none⟩, []⟩ 153 (law06_GlitchTime_post r) [(0, sv0), (1, (.int .i64 v1)), (7, s35), (57, (.bool v57))] [codeC Tryz.prog 3 [1, 1, 1, 1, 1, 1, 1, 0, 1], codeC Tryz.prog 3 [1, 1, 1, 1, 1, 1, 1, 1]] M := by
  intro v0 v1 v57 l35 sv0 s35 Fr M r hv0 hH h
  rw [law06_GlitchTime_3] at h
  rcases btf (v57) with hc52 | hc52
  · have h := bif_t hc52 h
    refine Run.condT' rfl hc52 ?_
    refine Run.seq (Run.region ?_)
    refine Run.opG wantS_none (ex_assign rfl) rfl ?_
    refine Run.opsEnd ?_
    cases h
    exact Run.ret Tryz.func3 rfl (res_tmp rfl res_nil) rfl
  · have h := bif_f hc52 h
    refine Run.condF' rfl hc52 ?_
    refine Run.skip (Run.seq (Run.seq (Run.region ?_)))
    refine Run.opG wantS_none (ex_assign rfl) rfl ?_
    refine Run.opsEnd (Run.block (Run.loop ?_))
    exact Run.pick [0, 1, 7, 10] (law06_GlitchTime_4_ok F F v0 v1 (0 : Int) l35 sv0 s35 _ _ _ hv0 hH h)

def law06_GlitchTime_2 (F : Nat) : Nat → (List S_api_Veto) → Int → Int → Int → (List Int) → Option (Bool)
  | 0, _, _, _, _, _ => none
  | N + 1, v0, v1, v5, v8, l35 =>
    bif (decide (v8 < v1)) then
      bnd (apd 8 l35 ([v8] : List Int)) fun l43 =>
      (law06_GlitchTime_2 F N) v0 v1 v5 (w64 (v8 + (1 : Int))) l43
    else
      bnd (glitch_Passed F v0 l35) fun r48 =>
      bif (!(r48.2 == (0 : Int))) then
        law06_GlitchTime_3 F v0 v1 true l35
      else
        law06_GlitchTime_3 F v0 v1 (!(v5 == (w64 (v1 - (r48.1.length : Int))))) l35

theorem law06_GlitchTime_2_ok (F : Nat) : ∀ (N : Nat), ∀ (v0 : (List S_api_Veto)) (v1 : Int) (v5 : Int) (v8 : Int) (l35 : (List Int)) (sv0 : SV) (s35 : SV) (Fr : Rd) (M : Mem) (r : Bool) (hv0 : Slc Fr 2 (rep35 Fr) sv0 v0) (hH : Has Fr M [.vec 3 1 l35.length s35 (l35.flatMap enc3), tb0, tb1, tb2]), law06_GlitchTime_2 F N v0 v1 v5 v8 l35 = some r → Run Tryz.prog ⟨⟨3, [], none⟩, []⟩ 153 (law06_GlitchTime_post r) [(0, sv0), (1, (.int .i64 v1)), (5, (.int .i64 v5)), (7, s35), (8, (.int .i64 v8))] [codeC Tryz.prog 3 [1, 1, 1, 1, 1, 0, 1, 0, 0], loopC Tryz.prog 3 [1, 1, 1, 1, 1, 0, 1, 0, 0], .inBlock 0, codeC Tryz.prog 3 [1, 1, 1, 1, 1, 1]] M := by
  intro N
  induction N with
  | zero =>
    intro v0 v1 v5 v8 l35 sv0 s35 Fr M r hv0 hH h
    simp [law06_GlitchTime_2] at h
  | succ N ih =>
    intro v0 v1 v5 v8 l35 sv0 s35 Fr M r hv0 hH h
    rw [law06_GlitchTime_2] at h
    refine Run.seq (Run.seq (Run.region ?_))
    refine Run.opG wantS_none (ex_move rfl) rfl ?_
    refine Run.opG wantS_none (ex_move rfl) rfl ?_
    refine Run.opG wantS_none (ex_lss rfl rfl) rfl ?_
    refine Run.opsEnd ?_
    rcases btf ((decide (v8 < v1))) with hc37 | hc37
    · have h := bif_t hc37 h
      refine Run.condT' rfl hc37 ?_
      refine Run.skip (Run.seq (Run.block (Run.region ?_)))
      refine Run.opG wantS_none (ex_move rfl) rfl ?_
      refine Run.opG wantS_none (ex_move rfl) rfl ?_
      refine Run.opX wantS_none rfl (ExG.built (enc := enc3) (l := ([v8] : List Int)) (z := 1) rfl elt28 rfl rfl rfl enc3_len hH) ?_
      rintro s39 M40 (hH40 : Has Fr M40 [.vec 3 1 ([v8] : List Int).length s39 (([v8] : List Int).flatMap enc3), .vec 3 1 l35.length s35 (l35.flatMap enc3), tb0, tb1, tb2])
      obtain ⟨l43, hl43, h⟩ := bnd_some h
      refine Run.opX wantS_none rfl (ExG.append rfl rfl hH40 (i := 1) rfl enc3_len rfl enc3_ones appt28_28 rfl (len_slc (hH40.slc (i := 0) rfl enc3_len)) (first_slc (hH40.slc (i := 0) rfl enc3_len) (rdLe_rdRow _) enc3_len) hl43) ?_
      rintro s43 M45 (hH45 : Has Fr M45 [.vec 3 1 ([v8] : List Int).length s39 (([v8] : List Int).flatMap enc3), .vec 3 1 l43.length s43 (l43.flatMap enc3), tb0, tb1, tb2])
      refine Run.opG wantS_none (ex_assign rfl) rfl ?_
      refine Run.opsEnd (Run.inBlock (Run.region ?_))
      refine Run.opG wantS_none (ex_move rfl) rfl ?_
      refine Run.opG wantS_none (ex_add rfl rfl) rfl ?_
      refine Run.opG wantS_none (ex_assign rfl) rfl ?_
      refine Run.opsEnd (Run.inLoop ?_)
      exact Run.pick [0, 1, 5, 7, 8] (ih v0 v1 v5 (w64 (v8 + (1 : Int))) l43 sv0 s43 _ _ _ hv0 (hH45.pick [1, 2, 3, 4] rfl rfl) h)
    · have h := bif_f hc37 h
      refine Run.condF' rfl hc37 ?_
      refine Run.exit rfl (Run.seq (Run.region ?_))
      refine Run.opG wantS_none (ex_move rfl) rfl ?_
      refine Run.opG wantS_none (ex_move rfl) rfl ?_
      obtain ⟨r48, hr48, h⟩ := bnd_some h
      refine Run.callX wantS_none (ex_call rfl mkk12 cal12) rfl (glitch_Passed_ok F v0 l35 sv0 s35 _ _ ((hv0).mono hH.le (fun _ _ => rep35_mo hH.le)) (hH.slc (i := 0) rfl enc3_len) hr48) ?_
      rintro _ M50 ⟨s48_0, rfl, hN48⟩
      have hH50 : Has Fr M50 [.vec 3 1 r48.1.length s48_0 (r48.1.flatMap enc3), .vec 3 1 l35.length s35 (l35.flatMap enc3), tb0, tb1, tb2] := hN48.1 _ _ hH
      refine Run.opG wantS_none (ex_move rfl) rfl ?_
      refine Run.opG wantS_none (ex_extract rfl rfl) rfl ?_
      refine Run.opG wantS_none (ex_extract rfl rfl) rfl ?_
      refine Run.opG wantS_none (ex_assign rfl) rfl ?_
      refine Run.opG wantS_none (ex_assign rfl) rfl ?_
      refine Run.opsEnd (Run.seq (Run.seq (Run.region ?_)))
      refine Run.opG wantS_none (ex_move rfl) rfl ?_
      refine Run.opG wantS_none (ex_neq rfl rfl) rfl ?_
      refine Run.opG wantS_none (ex_move rfl) rfl ?_
      rcases btf ((!(r48.2 == (0 : Int)))) with hc51 | hc51
      · have h := bif_t hc51 h
        refine Run.no (wantS_not' rfl rfl hc51) rfl ?_
        refine Run.no (wantS_not' rfl rfl hc51) rfl ?_
        refine Run.no (wantS_not' rfl rfl hc51) rfl ?_
        refine Run.no (wantS_not' rfl rfl hc51) rfl ?_
        refine Run.no (wantS_not' rfl rfl hc51) rfl ?_
        refine Run.no (wantS_not' rfl rfl hc51) rfl ?_
        refine Run.opG wantS_none (ex_pickT' rfl hc51 rfl rfl) rfl ?_
        refine Run.opsEnd ?_
        exact Run.pick [0, 1, 7, 57] (law06_GlitchTime_3_ok F v0 v1 true l35 sv0 s35 _ _ _ hv0 (hH50.pick [1, 2, 3, 4] rfl rfl) h)
      · have h := bif_f hc51 h
        refine Run.opG (wantS_yes' rfl rfl hc51) (ex_move rfl) rfl ?_
        refine Run.opG (wantS_yes' rfl rfl hc51) (ex_move rfl) rfl ?_
        refine Run.opG (wantS_yes' rfl rfl hc51) (ex_move rfl) rfl ?_
        refine Run.opG (wantS_yes' rfl rfl hc51) (ex_len' rfl (hH50.slc (i := 0) rfl enc3_len) lenk28) rfl ?_
        refine Run.opG (wantS_yes' rfl rfl hc51) (ex_sub rfl rfl) rfl ?_
        refine Run.opG (wantS_yes' rfl rfl hc51) (ex_neq rfl rfl) rfl ?_
        refine Run.opG wantS_none (ex_pickF' rfl hc51 rfl rfl) rfl ?_
        refine Run.opsEnd ?_
        exact Run.pick [0, 1, 7, 57] (law06_GlitchTime_3_ok F v0 v1 (!(v5 == (w64 (v1 - (r48.1.length : Int))))) l35 sv0 s35 _ _ _ hv0 (hH50.pick [1, 2, 3, 4] rfl rfl) h)

def law06_GlitchTime (F : Nat) (a0 : (List S_api_Veto)) (a1 : Int) : Option (Bool) :=
  bnd (ref00_Mod F a1 (200 : Int)) fun r25 =>
  bnd (glitch_Dead F a0 (w64 ((1 : Int) + r25))) fun r28 =>
  bif (!(r28.2 == (0 : Int))) then
    bif (r28.1 == (0 : Int)) then
      bnd (works F) fun r33 =>
      law06_GlitchTime_1 F r33
    else
      law06_GlitchTime_1 F false
  else
    law06_GlitchTime_2 F F a0 (w64 ((1 : Int) + r25)) r28.1 (0 : Int) ([] : List Int)

theorem law06_GlitchTime_run (F : Nat) (a0 : (List S_api_Veto)) (a1 : Int) (s0 : SV) (r : Bool) (M : Mem) (hs0 : Slc (rd M) 2 (rep35 (rd M)) s0 a0) (hfx : FixIn M fixes) (h : law06_GlitchTime F a0 a1 = some r) : Run Tryz.prog (fx0 3) 153 (law06_GlitchTime_post r) [(0, s0), (1, (.int .i64 a1))] [codeC Tryz.prog 3 []] (frozen M) := by
  rw [law06_GlitchTime] at h
  replace hs0 := hs0.mono (rdLe_frozen M) (fun _ _ => rep35_mo (rdLe_frozen M))
  have hH : Has (ro (frozen M)) (frozen M) [tb0, tb1, tb2] := Has.ofFix hfx.frozen
  refine Run.seq (Run.region ?_)
  refine Run.opG wantS_none (ex_assign rfl) rfl ?_
  refine Run.opsEnd (Run.seq (Run.region ?_))
  refine Run.opG wantS_none (ex_move rfl) rfl ?_
  obtain ⟨r25, hr25, h⟩ := bnd_some h
  refine Run.callP wantS_none (ex_call rfl mkk9 cal9) rfl (ref00_Mod_ok F a1 (200 : Int) _ _ hr25) ?_
  refine Run.opG wantS_none (ex_add rfl rfl) rfl ?_
  refine Run.opG wantS_none (ex_assign rfl) rfl ?_
  refine Run.opsEnd (Run.seq (Run.region ?_))
  refine Run.opG wantS_none (ex_move rfl) rfl ?_
  refine Run.opG wantS_none (ex_move rfl) rfl ?_
  obtain ⟨r28, hr28, h⟩ := bnd_some h
  refine Run.callP wantS_none (ex_call rfl mkk10 cal10) rfl (glitch_Dead_ok F a0 (w64 ((1 : Int) + r25)) s0 _ _ ((hs0).mono hH.le (fun _ _ => rep35_mo hH.le)) hr28) ?_
  refine Run.opG wantS_none (ex_move rfl) rfl ?_
  refine Run.opG wantS_none (ex_extract rfl rfl) rfl ?_
  refine Run.opG wantS_none (ex_extract rfl rfl) rfl ?_
  refine Run.opG wantS_none (ex_assign rfl) rfl ?_
  refine Run.opG wantS_none (ex_assign rfl) rfl ?_
  refine Run.opsEnd (Run.seq (Run.seq (Run.region ?_)))
  refine Run.opG wantS_none (ex_move rfl) rfl ?_
  refine Run.opG wantS_none (ex_neq rfl rfl) rfl ?_
  refine Run.opsEnd ?_
  rcases btf ((!(r28.2 == (0 : Int)))) with hc30 | hc30
  · have h := bif_t hc30 h
    refine Run.condT' rfl hc30 ?_
    refine Run.seq (Run.region ?_)
    refine Run.opG wantS_none (ex_move rfl) rfl ?_
    refine Run.opG wantS_none (ex_eql rfl rfl) rfl ?_
    refine Run.opG wantS_none (ex_move rfl) rfl ?_
    rcases btf ((r28.1 == (0 : Int))) with hc31 | hc31
    · have h := bif_t hc31 h
      obtain ⟨r33, hr33, h⟩ := bnd_some h
      refine Run.callP (wantS_yes' rfl rfl hc31) (ex_call rfl mkk11 cal11) rfl (works_ok F r33 _ hH (List.mem_of_getElem? (i := 0) rfl) (List.mem_of_getElem? (i := 1) rfl) (List.mem_of_getElem? (i := 2) rfl) hr33) ?_
      refine Run.opG wantS_none (ex_pickT' rfl hc31 rfl rfl) rfl ?_
      exact Run.pick [32] (law06_GlitchTime_1_ok F r33 _ _ _ hH h)
    · have h := bif_f hc31 h
      refine Run.no (wantS_not' rfl rfl hc31) rfl ?_
      refine Run.opG wantS_none (ex_pickF' rfl hc31 rfl rfl) rfl ?_
      exact Run.pick [32] (law06_GlitchTime_1_ok F false _ _ _ hH h)
  · have h := bif_f hc30 h
    refine Run.condF' rfl hc30 ?_
    refine Run.skip (Run.seq (Run.region ?_))
    refine Run.opG wantS_none (ex_assign rfl) rfl ?_
    refine Run.opsEnd (Run.seq (Run.seq (Run.region ?_)))
    refine Run.opG wantS_none (ex_assign rfl) rfl ?_
    refine Run.opsEnd (Run.block (Run.loop ?_))
    have hH36 : Has (ro (frozen M)) (frozen M) [.vec 3 1 ([] : List Int).length .nils (([] : List Int).flatMap enc3), tb0, tb1, tb2] := hH.nils 3 1
    exact Run.pick [0, 1, 5, 7, 8] (law06_GlitchTime_2_ok F F a0 (w64 ((1 : Int) + r25)) r28.1 (0 : Int) ([] : List Int) s0 .nils _ _ _ hs0 hH36 h)

end Go.Ev.GlitchTime
