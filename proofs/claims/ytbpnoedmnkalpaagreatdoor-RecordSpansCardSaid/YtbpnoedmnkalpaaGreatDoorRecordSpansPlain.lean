/- Plain functions that say what functions of the program come to, and proofs of it, written by a program of the verifier's own. -/
import Derived.Test.YtbpnoedmnkalpaaGreatDoorEvL16
import Derived.Test.YtbpnoedmnkalpaaGreatDoorWorks
import Derived.KernelRfl
namespace Go.Ev.RecordSpans
open Go Go.Ev Go.Proofs
set_option maxRecDepth 100000
set_option linter.unusedVariables false

noncomputable def fixes : List (Nat × List SV) := Go.Proofs.YtbpnoedmnkalpaaGreatDoor.works.fixes
noncomputable def tb0 : Ent := fixE (6, intCells .u8 [0, 1, 28, 2, 29, 14, 24, 3, 30, 22, 20, 15, 25, 17, 4, 8, 31, 27, 13, 23, 21, 19, 16, 7, 26, 12, 18, 6, 11, 5, 10, 9])
noncomputable def tb1 : Ent := fixE (7, intCells .u8 [0, 1, 56, 2, 57, 49, 28, 3, 61, 58, 42, 50, 38, 29, 17, 4, 62, 47, 59, 36, 45, 43, 51, 22, 53, 39, 33, 30, 24, 18, 12, 5, 63, 55, 48, 27, 60, 41, 37, 16, 46, 35, 44, 21, 52, 32, 23, 11, 54, 26, 40, 15, 34, 20, 31, 10, 25, 14, 19, 9, 13, 8, 7, 6])
noncomputable def tb2 : Ent := fixE (5, intCells .u64 [1, 10, 100, 1000, 10000, 100000, 1000000, 10000000, 100000000, 1000000000, 10000000000, 100000000000, 1000000000000, 10000000000000, 100000000000000, 1000000000000000, 10000000000000000, 100000000000000000, 1000000000000000000, 10000000000000000000])
def works (_ : Nat) : Option Bool := some true
theorem fixH {Fr : Rd} {H : List Ent} {M : Mem} (hH : Has Fr M H) (h0 : tb0 ∈ H) (h1 : tb1 ∈ H) (h2 : tb2 ∈ H) : FixIn M fixes := by
  refine hH.fixIn fun x hx => ?_
  simp only [fixes, Go.Proofs.YtbpnoedmnkalpaaGreatDoor.works.fixes, List.mem_cons, List.not_mem_nil, or_false] at hx
  rcases hx with rfl | rfl | rfl
  · exact h0
  · exact h1
  · exact h2

theorem works_ok (F : Nat) (r : Bool) {Fr : Rd} {H : List Ent} (M : Mem) (hH : Has Fr M H) (h0 : tb0 ∈ H) (h1 : tb1 ∈ H) (h2 : tb2 ∈ H) (h : works F = some r) : CallsM Tryz.prog 29 [] M fun s M' => s = .bool r ∧ M' = M := by
  cases h
  refine CallsM.closedFix (n := 300) (l := Go.Proofs.YtbpnoedmnkalpaaGreatDoor.works.fixes) Go.Proofs.YtbpnoedmnkalpaaGreatDoor.works.below Go.Proofs.YtbpnoedmnkalpaaGreatDoor.works.plainF Go.Proofs.YtbpnoedmnkalpaaGreatDoor.works.works_true (hH.fixIn fun x hx => ?_)
  simp only [Go.Proofs.YtbpnoedmnkalpaaGreatDoor.works.fixes, List.mem_cons, List.not_mem_nil, or_false] at hx
  rcases hx with rfl | rfl | rfl
  · exact h0
  · exact h1
  · exact h2


structure S_api_Channel where
  Name : (List UInt8)
  Rate : Int
  Bits : Int

structure S_api_Frame where
  Start : Int
  Samples : (List (List Int))

structure S_ringdownlaw05_Tape where
  B : (List S_api_Channel)
  L : (List S_api_Frame)

structure S__2_int where
  e0 : Int
  e1 : Int

def enc86 (a : S_api_Channel) : List SV := [(.str a.Name), (.int .i64 a.Rate), (.int .i64 a.Bits)]
theorem enc86_len (a : S_api_Channel) : (enc86 a).length = 3 := rfl
theorem enc86_ones (a : S_api_Channel) : ones (enc86 a) = true := rfl
def enc3 (a : Int) : List SV := [(.int .i64 a)]
theorem enc3_len (a : Int) : (enc3 a).length = 1 := rfl
theorem enc3_ones (a : Int) : ones (enc3 a) = true := rfl
def rep26 (f : Rd) (cs : List SV) (a : (List Int)) : Prop := ∃ q1, cs = [q1] ∧ Slc f 1 (FlatR enc3) q1 a
theorem rep26_mo {f g : Rd} (h : RdLe f g) {cs : List SV} {a : (List Int)} : rep26 f cs a → rep26 g cs a := by
  rintro ⟨q1, rfl, h0⟩
  exact ⟨q1, rfl, h0.mono h (fun _ _ h => h)⟩
theorem rep26_len {f : Rd} {cs : List SV} {a : (List Int)} : rep26 f cs a → cs.length = 1 := by
  rintro ⟨_, rfl, h0⟩
  rfl
theorem rep26_ones {f : Rd} {cs : List SV} {a : (List Int)} : rep26 f cs a → ones cs = true := by
  rintro ⟨_, rfl, h0⟩
  exact (ones_cons (slc_one h0) ones_nil)
def rep84 (f : Rd) (cs : List SV) (a : S_api_Frame) : Prop := ∃ q1, cs = [(.int .i64 a.Start), q1] ∧ Slc f 1 (rep26 f) q1 a.Samples
theorem rep84_mo {f g : Rd} (h : RdLe f g) {cs : List SV} {a : S_api_Frame} : rep84 f cs a → rep84 g cs a := by
  rintro ⟨q1, rfl, h0⟩
  exact ⟨q1, rfl, h0.mono h (fun _ _ => rep26_mo h)⟩
theorem rep84_len {f : Rd} {cs : List SV} {a : S_api_Frame} : rep84 f cs a → cs.length = 2 := by
  rintro ⟨_, rfl, h0⟩
  rfl
theorem rep84_ones {f : Rd} {cs : List SV} {a : S_api_Frame} : rep84 f cs a → ones cs = true := by
  rintro ⟨_, rfl, h0⟩
  exact (ones_cons rfl (ones_cons (slc_one h0) ones_nil))
theorem off70_0 : fieldOff Tryz.prog 70 0 = some 0 := by kernel_rfl
theorem agg67 : aggSize Tryz.prog 67 = some none := by kernel_rfl
theorem off70_1 : fieldOff Tryz.prog 70 1 = some 1 := by kernel_rfl
theorem agg68 : aggSize Tryz.prog 68 = some none := by kernel_rfl
theorem els50 : elems Tryz.prog 50 = some (.arr 2 1) := by kernel_rfl
theorem agg3 : aggSize Tryz.prog 3 = some none := by kernel_rfl
structure S_api_Span where
  From : Int
  To : Int

def enc81 (a : S_api_Span) : List SV := [(.int .i64 a.From), (.int .i64 a.To)]
theorem enc81_len (a : S_api_Span) : (enc81 a).length = 2 := rfl
theorem enc81_ones (a : S_api_Span) : ones (enc81 a) = true := rfl
theorem lenk67 : lenK Tryz.prog 67 = some .sl := by kernel_rfl
abbrev record_isFrom_post (r : Bool) : SV → Mem → Prop := fun s _ => s = (.bool r)

def record_isFrom_1 (F : Nat) (v14 : Bool) : Option (Bool) :=
  some v14

theorem record_isFrom_1_ok (F : Nat) : ∀ (v14 : Bool) (Fr : Rd) (M : Mem) (r : Bool) (hH : Has Fr M []), record_isFrom_1 F v14 = some r → Run Tryz.prog ⟨⟨91, [], none⟩, []⟩ 15 (record_isFrom_post r) [(14, (.bool v14))] [itemC Tryz.prog 91 [1, 0] 8, codeC Tryz.prog 91 [1, 1]] M := by
  intro v14 Fr M r hH h
  rw [record_isFrom_1] at h
  refine Run.opG wantS_none (ex_assign rfl) rfl ?_
  refine Run.opsEnd ?_
  cases h
  exact Run.ret Tryz.func91 rfl (res_tmp rfl res_nil) rfl

def record_isFrom (F : Nat) (a0 a1 a2 : Int) : Option (Bool) :=
  bif (decide (a0 ≤ a1)) then
    record_isFrom_1 F (decide (a1 ≤ a2))
  else
    record_isFrom_1 F false

theorem record_isFrom_ok (F : Nat) (a0 a1 a2 : Int) (r : Bool) (M : Mem) (h : record_isFrom F a0 a1 a2 = some r) : CallsM Tryz.prog 91 [(.int .i64 a0), (.int .i64 a1), (.int .i64 a2)] M (fun s M' => s = (.bool r) ∧ M' = M) := by
  refine CallsM.plain Tryz.func91 rfl rfl rfl (show Run _ _ _ (record_isFrom_post r) _ _ _ from ?_)
  rw [record_isFrom] at h
  have hH := Has.nil (frozen M)
  refine Run.seq (Run.region ?_)
  refine Run.opG wantS_none (ex_assign rfl) rfl ?_
  refine Run.opsEnd (Run.seq (Run.region ?_))
  refine Run.opG wantS_none (ex_move rfl) rfl ?_
  refine Run.opG wantS_none (ex_move rfl) rfl ?_
  refine Run.opG wantS_none (ex_leq rfl rfl) rfl ?_
  refine Run.opG wantS_none (ex_move rfl) rfl ?_
  rcases btf ((decide (a0 ≤ a1))) with hc21 | hc21
  · have h := bif_t hc21 h
    refine Run.opG (wantS_yes' rfl rfl hc21) (ex_move rfl) rfl ?_
    refine Run.opG (wantS_yes' rfl rfl hc21) (ex_move rfl) rfl ?_
    refine Run.opG (wantS_yes' rfl rfl hc21) (ex_leq rfl rfl) rfl ?_
    refine Run.opG wantS_none (ex_pickT' rfl hc21 rfl rfl) rfl ?_
    exact Run.pick [14] (record_isFrom_1_ok F (decide (a1 ≤ a2)) _ _ _ hH h)
  · have h := bif_f hc21 h
    refine Run.no (wantS_not' rfl rfl hc21) rfl ?_
    refine Run.no (wantS_not' rfl rfl hc21) rfl ?_
    refine Run.no (wantS_not' rfl rfl hc21) rfl ?_
    refine Run.opG wantS_none (ex_pickF' rfl hc21 rfl rfl) rfl ?_
    exact Run.pick [14] (record_isFrom_1_ok F false _ _ _ hH h)

theorem mkk91 : makeK Tryz.prog 91 = none := by kernel_rfl
theorem cal91 : callable Tryz.prog 91 = true := by kernel_rfl
def kv9 (a : (List UInt8)) : SV := (.str a)
def kv4 (a : Bool) : SV := (.bool a)
theorem kk9 : keyK Tryz.prog 9 = some .str := by kernel_rfl
theorem kok193 : ∀ a, keyOK Tryz.prog 8 9 (kv9 a) = true := fun a => congrFun (show (fun a => keyOK Tryz.prog 8 9 (kv9 a)) = fun _ => true by kernel_rfl) a
theorem keq193 : ∀ a b, keyEq Tryz.prog 9 (kv9 a) (kv9 b) = some (eqB a b) := (fun a b => keyEq_string kk9)
theorem khe193 : ∀ a b, eqB a b = true → a = b := (fun a b h => eq_of_beq h)
theorem kzr193 : zeroS Tryz.prog 4 = some (kv4 false) := by kernel_rfl
theorem kmt193 : mapT Tryz.prog 193 = some (9, 4) := by kernel_rfl
theorem els67 : elems Tryz.prog 67 = some (.sl 3) := by kernel_rfl
theorem agg86 : aggSize Tryz.prog 86 = some (some 3) := by kernel_rfl
theorem zer86 : zerosOf Tryz.prog 86 = some [(.str []), (.int .i64 0), (.int .i64 0)] := by kernel_rfl
theorem sz86 : szOf Tryz.prog 86 = some 3 := by kernel_rfl
theorem off86_0 : fieldOff Tryz.prog 86 0 = some 0 := by kernel_rfl
theorem agg9 : aggSize Tryz.prog 9 = some none := by kernel_rfl
theorem lenk9 : lenK Tryz.prog 9 = some .str := by kernel_rfl
theorem uvk9_132 : uvK Tryz.prog 9 132 = none := by kernel_rfl
theorem cvk9_132 : cvK Tryz.prog 9 132 = some (.bytes 5) := by kernel_rfl
def enc5 (a : Int) : List SV := [(.int .u8 a)]
theorem enc5_len (a : Int) : (enc5 a).length = 1 := rfl
theorem enc5_ones (a : Int) : ones (enc5 a) = true := rfl
theorem lenk132 : lenK Tryz.prog 132 = some .sl := by kernel_rfl
theorem els132 : elems Tryz.prog 132 = some (.sl 1) := by kernel_rfl
theorem agg5 : aggSize Tryz.prog 5 = some none := by kernel_rfl
abbrev num_IsName_post (r : Bool) : SV → Mem → Prop := fun s _ => s = (.bool r)

def num_IsName_7 (F : Nat) (hd2 : (List Int) → Int → Int → Option (Bool)) (v16 : (List Int)) (v17 v18 : Int) (v48 : Bool) : Option (Bool) :=
  bif v48 then
    some false
  else
    hd2 v16 v17 (w64 (v18 + (1 : Int)))

theorem num_IsName_7_ok (F : Nat) (hd2 : (List Int) → Int → Int → Option (Bool)) (hhd2 : ∀ (v16 : (List Int)) (v17 v18 : Int) (sv16 : SV) (Fr : Rd) (M : Mem) (r : Bool) (hv16 : Slc Fr 1 (FlatR enc5) sv16 v16) (hH : Has Fr M []), hd2 v16 v17 v18 = some r → Run Tryz.prog ⟨⟨101, [], none⟩, []⟩ 50 (num_IsName_post r) [(16, sv16), (17, (.int .i64 v17)), (18, (.int .i64 v18))] [codeC Tryz.prog 101 [1, 1, 0, 1, 0, 0], loopC Tryz.prog 101 [1, 1, 0, 1, 0, 0], .inBlock 0, codeC Tryz.prog 101 [1, 1, 1]] M) : ∀ (v16 : (List Int)) (v17 v18 : Int) (v48 : Bool) (sv16 : SV) (Fr : Rd) (M : Mem) (r : Bool) (hv16 : Slc Fr 1 (FlatR enc5) sv16 v16) (hH : Has Fr M []), num_IsName_7 F hd2 v16 v17 v18 v48 = some r → Run Tryz.prog ⟨⟨101, [], none⟩, []⟩ 50 (num_IsName_post r) [(16, sv16), (17, (.int .i64 v17)), (18, (.int .i64 v18)), (48, (.bool v48))] [codeC Tryz.prog 101 [1, 1, 0, 1, 0, 0, 1, 1, 0, 0, 1, 1, 1, 1], .inBlock 1, codeC Tryz.prog 101 [1, 1, 0, 1, 0, 0, 1, 1, 1], loopC Tryz.prog 101 [1, 1, 0, 1, 0, 0], .inBlock 0, codeC Tryz.prog 101 [1, 1, 1]] M := by
  intro v16 v17 v18 v48 sv16 Fr M r hv16 hH h
  rw [num_IsName_7] at h
  rcases btf (v48) with hc37 | hc37
  · have h := bif_t hc37 h
    refine Run.condT' rfl hc37 ?_
    refine Run.seq (Run.region ?_)
    refine Run.opG wantS_none (ex_assign rfl) rfl ?_
    refine Run.opsEnd ?_
    cases h
    exact Run.ret Tryz.func101 rfl (res_tmp rfl res_nil) rfl
  · have h := bif_f hc37 h
    refine Run.condF' rfl hc37 ?_
    refine Run.skip (Run.inBlock (Run.region ?_))
    refine Run.opG wantS_none (ex_add rfl rfl) rfl ?_
    refine Run.opG wantS_none (ex_move rfl) rfl ?_
    refine Run.opsEnd (Run.inLoop ?_)
    exact Run.pick [16, 17, 18] (hhd2 v16 v17 (w64 (v18 + (1 : Int))) sv16 _ _ _ hv16 hH h)

def num_IsName_6 (F : Nat) (hd2 : (List Int) → Int → Int → Option (Bool)) (v16 : (List Int)) (v17 v18 : Int) (v41 v46 : Bool) : Option (Bool) :=
  bif v41 then
    num_IsName_7 F hd2 v16 v17 v18 (!v46)
  else
    num_IsName_7 F hd2 v16 v17 v18 false

theorem num_IsName_6_ok (F : Nat) (hd2 : (List Int) → Int → Int → Option (Bool)) (hhd2 : ∀ (v16 : (List Int)) (v17 v18 : Int) (sv16 : SV) (Fr : Rd) (M : Mem) (r : Bool) (hv16 : Slc Fr 1 (FlatR enc5) sv16 v16) (hH : Has Fr M []), hd2 v16 v17 v18 = some r → Run Tryz.prog ⟨⟨101, [], none⟩, []⟩ 50 (num_IsName_post r) [(16, sv16), (17, (.int .i64 v17)), (18, (.int .i64 v18))] [codeC Tryz.prog 101 [1, 1, 0, 1, 0, 0], loopC Tryz.prog 101 [1, 1, 0, 1, 0, 0], .inBlock 0, codeC Tryz.prog 101 [1, 1, 1]] M) : ∀ (v16 : (List Int)) (v17 v18 : Int) (v41 v46 : Bool) (sv16 : SV) (Fr : Rd) (M : Mem) (r : Bool) (hv16 : Slc Fr 1 (FlatR enc5) sv16 v16) (hH : Has Fr M []), num_IsName_6 F hd2 v16 v17 v18 v41 v46 = some r → Run Tryz.prog ⟨⟨101, [], none⟩, []⟩ 50 (num_IsName_post r) [(16, sv16), (17, (.int .i64 v17)), (18, (.int .i64 v18)), (41, (.bool v41)), (46, (.bool v46))] [itemC Tryz.prog 101 [1, 1, 0, 1, 0, 0, 1, 1, 0, 0, 1, 1, 1, 0] 8, codeC Tryz.prog 101 [1, 1, 0, 1, 0, 0, 1, 1, 0, 0, 1, 1, 1, 1], .inBlock 1, codeC Tryz.prog 101 [1, 1, 0, 1, 0, 0, 1, 1, 1], loopC Tryz.prog 101 [1, 1, 0, 1, 0, 0], .inBlock 0, codeC Tryz.prog 101 [1, 1, 1]] M := by
  intro v16 v17 v18 v41 v46 sv16 Fr M r hv16 hH h
  rw [num_IsName_6] at h
  rcases btf (v41) with hc36 | hc36
  · have h := bif_t hc36 h
    refine Run.opG (wantS_yes' rfl rfl hc36) (ex_not rfl) rfl ?_
    refine Run.opG wantS_none (ex_pickT' rfl hc36 rfl rfl) rfl ?_
    refine Run.opsEnd ?_
    exact Run.pick [16, 17, 18, 48] (num_IsName_7_ok F hd2 hhd2 v16 v17 v18 (!v46) sv16 _ _ _ hv16 hH h)
  · have h := bif_f hc36 h
    refine Run.no (wantS_not' rfl rfl hc36) rfl ?_
    refine Run.opG wantS_none (ex_pickF' rfl hc36 rfl rfl) rfl ?_
    refine Run.opsEnd ?_
    exact Run.pick [16, 17, 18, 48] (num_IsName_7_ok F hd2 hhd2 v16 v17 v18 false sv16 _ _ _ hv16 hH h)

def num_IsName_8 (F : Nat) (hd2 : (List Int) → Int → Int → Option (Bool)) (v16 : (List Int)) (v17 v18 : Int) (v41 : Bool) : Option (Bool) :=
  bif v41 then
    none
  else
    num_IsName_7 F hd2 v16 v17 v18 false

theorem num_IsName_8_ok (F : Nat) (hd2 : (List Int) → Int → Int → Option (Bool)) (hhd2 : ∀ (v16 : (List Int)) (v17 v18 : Int) (sv16 : SV) (Fr : Rd) (M : Mem) (r : Bool) (hv16 : Slc Fr 1 (FlatR enc5) sv16 v16) (hH : Has Fr M []), hd2 v16 v17 v18 = some r → Run Tryz.prog ⟨⟨101, [], none⟩, []⟩ 50 (num_IsName_post r) [(16, sv16), (17, (.int .i64 v17)), (18, (.int .i64 v18))] [codeC Tryz.prog 101 [1, 1, 0, 1, 0, 0], loopC Tryz.prog 101 [1, 1, 0, 1, 0, 0], .inBlock 0, codeC Tryz.prog 101 [1, 1, 1]] M) : ∀ (v16 : (List Int)) (v17 v18 : Int) (v41 : Bool) (sv16 : SV) (Fr : Rd) (M : Mem) (r : Bool) (hv16 : Slc Fr 1 (FlatR enc5) sv16 v16) (hH : Has Fr M []), num_IsName_8 F hd2 v16 v17 v18 v41 = some r → Run Tryz.prog ⟨⟨101, [], none⟩, []⟩ 50 (num_IsName_post r) [(16, sv16), (17, (.int .i64 v17)), (18, (.int .i64 v18)), (41, (.bool v41)), (46, (.tuple []))] [itemC Tryz.prog 101 [1, 1, 0, 1, 0, 0, 1, 1, 0, 0, 1, 1, 1, 0] 8, codeC Tryz.prog 101 [1, 1, 0, 1, 0, 0, 1, 1, 0, 0, 1, 1, 1, 1], .inBlock 1, codeC Tryz.prog 101 [1, 1, 0, 1, 0, 0, 1, 1, 1], loopC Tryz.prog 101 [1, 1, 0, 1, 0, 0], .inBlock 0, codeC Tryz.prog 101 [1, 1, 1]] M := by
  intro v16 v17 v18 v41 sv16 Fr M r hv16 hH h
  rw [num_IsName_8] at h
  rcases btf (v41) with hc38 | hc38
  · have h := bif_t hc38 h
    cases h
  · have h := bif_f hc38 h
    refine Run.no (wantS_not' rfl rfl hc38) rfl ?_
    refine Run.opG wantS_none (ex_pickF' rfl hc38 rfl rfl) rfl ?_
    refine Run.opsEnd ?_
    exact Run.pick [16, 17, 18, 48] (num_IsName_7_ok F hd2 hhd2 v16 v17 v18 false sv16 _ _ _ hv16 hH h)

def num_IsName_5 (F : Nat) (hd2 : (List Int) → Int → Int → Option (Bool)) (v3 : Int) (v5 : Bool) (v16 : (List Int)) (v17 v18 : Int) (v38 : Bool) : Option (Bool) :=
  bif (!v5) then
    bif v38 then
      num_IsName_6 F hd2 v16 v17 v18 (!v5) (decide ((0 : Int) < v3))
    else
      num_IsName_6 F hd2 v16 v17 v18 (!v5) false
  else
    num_IsName_8 F hd2 v16 v17 v18 (!v5)

theorem num_IsName_5_ok (F : Nat) (hd2 : (List Int) → Int → Int → Option (Bool)) (hhd2 : ∀ (v16 : (List Int)) (v17 v18 : Int) (sv16 : SV) (Fr : Rd) (M : Mem) (r : Bool) (hv16 : Slc Fr 1 (FlatR enc5) sv16 v16) (hH : Has Fr M []), hd2 v16 v17 v18 = some r → Run Tryz.prog ⟨⟨101, [], none⟩, []⟩ 50 (num_IsName_post r) [(16, sv16), (17, (.int .i64 v17)), (18, (.int .i64 v18))] [codeC Tryz.prog 101 [1, 1, 0, 1, 0, 0], loopC Tryz.prog 101 [1, 1, 0, 1, 0, 0], .inBlock 0, codeC Tryz.prog 101 [1, 1, 1]] M) : ∀ (v3 : Int) (v5 : Bool) (v16 : (List Int)) (v17 v18 : Int) (v38 : Bool) (sv16 : SV) (Fr : Rd) (M : Mem) (r : Bool) (hv16 : Slc Fr 1 (FlatR enc5) sv16 v16) (hH : Has Fr M []), num_IsName_5 F hd2 v3 v5 v16 v17 v18 v38 = some r → Run Tryz.prog ⟨⟨101, [], none⟩, []⟩ 50 (num_IsName_post r) [(3, (.int .i64 v3)), (5, (.bool v5)), (16, sv16), (17, (.int .i64 v17)), (18, (.int .i64 v18)), (38, (.bool v38))] [itemC Tryz.prog 101 [1, 1, 0, 1, 0, 0, 1, 1, 0, 0, 1, 1, 0] 10, codeC Tryz.prog 101 [1, 1, 0, 1, 0, 0, 1, 1, 0, 0, 1, 1, 1], .inBlock 1, codeC Tryz.prog 101 [1, 1, 0, 1, 0, 0, 1, 1, 1], loopC Tryz.prog 101 [1, 1, 0, 1, 0, 0], .inBlock 0, codeC Tryz.prog 101 [1, 1, 1]] M := by
  intro v3 v5 v16 v17 v18 v38 sv16 Fr M r hv16 hH h
  rw [num_IsName_5] at h
  refine Run.opG wantS_none (ex_assign rfl) rfl ?_
  refine Run.opsEnd (Run.seq (Run.region ?_))
  refine Run.opG wantS_none (ex_move rfl) rfl ?_
  refine Run.opG wantS_none (ex_not rfl) rfl ?_
  refine Run.opG wantS_none (ex_move rfl) rfl ?_
  rcases btf ((!v5)) with hc34 | hc34
  · have h := bif_t hc34 h
    refine Run.opG (wantS_yes' rfl rfl hc34) (ex_move rfl) rfl ?_
    refine Run.opG (wantS_yes' rfl rfl hc34) (ex_move rfl) rfl ?_
    rcases btf (v38) with hc35 | hc35
    · have h := bif_t hc35 h
      refine Run.opG (wantS_yes' rfl rfl hc35) (ex_move rfl) rfl ?_
      refine Run.opG (wantS_yes' rfl rfl hc35) (ex_gtr rfl rfl) rfl ?_
      refine Run.opG (wantS_yes' rfl rfl hc34) (ex_pickT' rfl hc35 rfl rfl) rfl ?_
      exact Run.pick [16, 17, 18, 41, 46] (num_IsName_6_ok F hd2 hhd2 v16 v17 v18 (!v5) (decide ((0 : Int) < v3)) sv16 _ _ _ hv16 hH h)
    · have h := bif_f hc35 h
      refine Run.no (wantS_not' rfl rfl hc35) rfl ?_
      refine Run.no (wantS_not' rfl rfl hc35) rfl ?_
      refine Run.opG (wantS_yes' rfl rfl hc34) (ex_pickF' rfl hc35 rfl rfl) rfl ?_
      exact Run.pick [16, 17, 18, 41, 46] (num_IsName_6_ok F hd2 hhd2 v16 v17 v18 (!v5) false sv16 _ _ _ hv16 hH h)
  · have h := bif_f hc34 h
    refine Run.no (wantS_not' rfl rfl hc34) rfl ?_
    refine Run.no (wantS_not' rfl rfl hc34) rfl ?_
    refine Run.no (wantS_skip rfl rfl) rfl ?_
    refine Run.no (wantS_skip rfl rfl) rfl ?_
    refine Run.no (wantS_not' rfl rfl hc34) rfl ?_
    exact Run.pick [16, 17, 18, 41, 46] (num_IsName_8_ok F hd2 hhd2 v16 v17 v18 (!v5) sv16 _ _ _ hv16 hH h)

def num_IsName_4 (F : Nat) (hd2 : (List Int) → Int → Int → Option (Bool)) (v3 v4 : Int) (v5 : Bool) (v16 : (List Int)) (v17 v18 : Int) (v34 : Bool) : Option (Bool) :=
  bif v34 then
    num_IsName_5 F hd2 v3 v5 v16 v17 v18 true
  else
    num_IsName_5 F hd2 v3 v5 v16 v17 v18 (v4 == (95 : Int))

theorem num_IsName_4_ok (F : Nat) (hd2 : (List Int) → Int → Int → Option (Bool)) (hhd2 : ∀ (v16 : (List Int)) (v17 v18 : Int) (sv16 : SV) (Fr : Rd) (M : Mem) (r : Bool) (hv16 : Slc Fr 1 (FlatR enc5) sv16 v16) (hH : Has Fr M []), hd2 v16 v17 v18 = some r → Run Tryz.prog ⟨⟨101, [], none⟩, []⟩ 50 (num_IsName_post r) [(16, sv16), (17, (.int .i64 v17)), (18, (.int .i64 v18))] [codeC Tryz.prog 101 [1, 1, 0, 1, 0, 0], loopC Tryz.prog 101 [1, 1, 0, 1, 0, 0], .inBlock 0, codeC Tryz.prog 101 [1, 1, 1]] M) : ∀ (v3 v4 : Int) (v5 : Bool) (v16 : (List Int)) (v17 v18 : Int) (v34 : Bool) (sv16 : SV) (Fr : Rd) (M : Mem) (r : Bool) (hv16 : Slc Fr 1 (FlatR enc5) sv16 v16) (hH : Has Fr M []), num_IsName_4 F hd2 v3 v4 v5 v16 v17 v18 v34 = some r → Run Tryz.prog ⟨⟨101, [], none⟩, []⟩ 50 (num_IsName_post r) [(3, (.int .i64 v3)), (4, (.int .u8 v4)), (5, (.bool v5)), (16, sv16), (17, (.int .i64 v17)), (18, (.int .i64 v18)), (34, (.bool v34))] [itemC Tryz.prog 101 [1, 1, 0, 1, 0, 0, 1, 1, 0, 0, 1, 1, 0] 6, codeC Tryz.prog 101 [1, 1, 0, 1, 0, 0, 1, 1, 0, 0, 1, 1, 1], .inBlock 1, codeC Tryz.prog 101 [1, 1, 0, 1, 0, 0, 1, 1, 1], loopC Tryz.prog 101 [1, 1, 0, 1, 0, 0], .inBlock 0, codeC Tryz.prog 101 [1, 1, 1]] M := by
  intro v3 v4 v5 v16 v17 v18 v34 sv16 Fr M r hv16 hH h
  rw [num_IsName_4] at h
  refine Run.opG wantS_none (ex_move rfl) rfl ?_
  rcases btf (v34) with hc33 | hc33
  · have h := bif_t hc33 h
    refine Run.no (wantS_not' rfl rfl hc33) rfl ?_
    refine Run.no (wantS_not' rfl rfl hc33) rfl ?_
    refine Run.opG wantS_none (ex_pickT' rfl hc33 rfl rfl) rfl ?_
    exact Run.pick [3, 5, 16, 17, 18, 38] (num_IsName_5_ok F hd2 hhd2 v3 v5 v16 v17 v18 true sv16 _ _ _ hv16 hH h)
  · have h := bif_f hc33 h
    refine Run.opG (wantS_yes' rfl rfl hc33) (ex_move rfl) rfl ?_
    refine Run.opG (wantS_yes' rfl rfl hc33) (ex_eql rfl rfl) rfl ?_
    refine Run.opG wantS_none (ex_pickF' rfl hc33 rfl rfl) rfl ?_
    exact Run.pick [3, 5, 16, 17, 18, 38] (num_IsName_5_ok F hd2 hhd2 v3 v5 v16 v17 v18 (v4 == (95 : Int)) sv16 _ _ _ hv16 hH h)

def num_IsName_3 (F : Nat) (hd2 : (List Int) → Int → Int → Option (Bool)) (v3 v4 : Int) (v16 : (List Int)) (v17 v18 : Int) (v28 : Bool) : Option (Bool) :=
  bif (decide ((48 : Int) ≤ v4)) then
    num_IsName_4 F hd2 v3 v4 v28 v16 v17 v18 (decide (v4 ≤ (57 : Int)))
  else
    num_IsName_4 F hd2 v3 v4 v28 v16 v17 v18 false

theorem num_IsName_3_ok (F : Nat) (hd2 : (List Int) → Int → Int → Option (Bool)) (hhd2 : ∀ (v16 : (List Int)) (v17 v18 : Int) (sv16 : SV) (Fr : Rd) (M : Mem) (r : Bool) (hv16 : Slc Fr 1 (FlatR enc5) sv16 v16) (hH : Has Fr M []), hd2 v16 v17 v18 = some r → Run Tryz.prog ⟨⟨101, [], none⟩, []⟩ 50 (num_IsName_post r) [(16, sv16), (17, (.int .i64 v17)), (18, (.int .i64 v18))] [codeC Tryz.prog 101 [1, 1, 0, 1, 0, 0], loopC Tryz.prog 101 [1, 1, 0, 1, 0, 0], .inBlock 0, codeC Tryz.prog 101 [1, 1, 1]] M) : ∀ (v3 v4 : Int) (v16 : (List Int)) (v17 v18 : Int) (v28 : Bool) (sv16 : SV) (Fr : Rd) (M : Mem) (r : Bool) (hv16 : Slc Fr 1 (FlatR enc5) sv16 v16) (hH : Has Fr M []), num_IsName_3 F hd2 v3 v4 v16 v17 v18 v28 = some r → Run Tryz.prog ⟨⟨101, [], none⟩, []⟩ 50 (num_IsName_post r) [(3, (.int .i64 v3)), (4, (.int .u8 v4)), (16, sv16), (17, (.int .i64 v17)), (18, (.int .i64 v18)), (28, (.bool v28))] [itemC Tryz.prog 101 [1, 1, 0, 1, 0, 0, 1, 1, 0, 0, 1, 0] 6, codeC Tryz.prog 101 [1, 1, 0, 1, 0, 0, 1, 1, 0, 0, 1, 1], .inBlock 1, codeC Tryz.prog 101 [1, 1, 0, 1, 0, 0, 1, 1, 1], loopC Tryz.prog 101 [1, 1, 0, 1, 0, 0], .inBlock 0, codeC Tryz.prog 101 [1, 1, 1]] M := by
  intro v3 v4 v16 v17 v18 v28 sv16 Fr M r hv16 hH h
  rw [num_IsName_3] at h
  refine Run.opG wantS_none (ex_assign rfl) rfl ?_
  refine Run.opsEnd (Run.seq (Run.region ?_))
  refine Run.opG wantS_none (ex_move rfl) rfl ?_
  refine Run.opG wantS_none (ex_geq rfl rfl) rfl ?_
  refine Run.opG wantS_none (ex_move rfl) rfl ?_
  rcases btf ((decide ((48 : Int) ≤ v4))) with hc32 | hc32
  · have h := bif_t hc32 h
    refine Run.opG (wantS_yes' rfl rfl hc32) (ex_move rfl) rfl ?_
    refine Run.opG (wantS_yes' rfl rfl hc32) (ex_leq rfl rfl) rfl ?_
    refine Run.opG wantS_none (ex_pickT' rfl hc32 rfl rfl) rfl ?_
    exact Run.pick [3, 4, 5, 16, 17, 18, 34] (num_IsName_4_ok F hd2 hhd2 v3 v4 v28 v16 v17 v18 (decide (v4 ≤ (57 : Int))) sv16 _ _ _ hv16 hH h)
  · have h := bif_f hc32 h
    refine Run.no (wantS_not' rfl rfl hc32) rfl ?_
    refine Run.no (wantS_not' rfl rfl hc32) rfl ?_
    refine Run.opG wantS_none (ex_pickF' rfl hc32 rfl rfl) rfl ?_
    exact Run.pick [3, 4, 5, 16, 17, 18, 34] (num_IsName_4_ok F hd2 hhd2 v3 v4 v28 v16 v17 v18 false sv16 _ _ _ hv16 hH h)

def num_IsName_2 (F : Nat) : Nat → (List Int) → Int → Int → Option (Bool)
  | 0, _, _, _ => none
  | N + 1, v16, v17, v18 =>
    bif (decide (v18 < v17)) then
      bnd (idx v16 v18) fun x30 =>
      bif (decide ((97 : Int) ≤ x30)) then
        num_IsName_3 F (num_IsName_2 F N) v18 x30 v16 v17 v18 (decide (x30 ≤ (122 : Int)))
      else
        num_IsName_3 F (num_IsName_2 F N) v18 x30 v16 v17 v18 false
    else
      some true

theorem num_IsName_2_ok (F : Nat) : ∀ (N : Nat), ∀ (v16 : (List Int)) (v17 v18 : Int) (sv16 : SV) (Fr : Rd) (M : Mem) (r : Bool) (hv16 : Slc Fr 1 (FlatR enc5) sv16 v16) (hH : Has Fr M []), num_IsName_2 F N v16 v17 v18 = some r → Run Tryz.prog ⟨⟨101, [], none⟩, []⟩ 50 (num_IsName_post r) [(16, sv16), (17, (.int .i64 v17)), (18, (.int .i64 v18))] [codeC Tryz.prog 101 [1, 1, 0, 1, 0, 0], loopC Tryz.prog 101 [1, 1, 0, 1, 0, 0], .inBlock 0, codeC Tryz.prog 101 [1, 1, 1]] M := by
  intro N
  induction N with
  | zero =>
    intro v16 v17 v18 sv16 Fr M r hv16 hH h
    simp [num_IsName_2] at h
  | succ N ih =>
    intro v16 v17 v18 sv16 Fr M r hv16 hH h
    rw [num_IsName_2] at h
    refine Run.seq (Run.region ?_)
    refine Run.opG wantS_none (ex_lss rfl rfl) rfl ?_
    refine Run.opsEnd (Run.seq ?_)
    rcases btf ((decide (v18 < v17))) with hc28 | hc28
    · have h := bif_t hc28 h
      refine Run.condT' rfl hc28 ?_
      refine Run.skip (Run.seq (Run.block (Run.seq (Run.region ?_))))
      refine Run.opG wantS_none (ex_move rfl) rfl ?_
      obtain ⟨x30, hx30, h⟩ := bnd_some h
      obtain ⟨p30, o30, _, hx30, hp30, rfl⟩ := sl_elem (P := Tryz.prog) (t := 132) (kk := .i64) hv16 hx30 els132
      refine Run.opG wantS_none (ex_elX rfl rfl hx30) rfl ?_
      refine Run.opG wantS_none (ex_load1 rfl (hH.ptrF hp30) rdLe_rfl agg5) rfl ?_
      refine Run.opG wantS_none (ex_assign rfl) rfl ?_
      refine Run.opG wantS_none (ex_assign rfl) rfl ?_
      refine Run.opsEnd (Run.seq (Run.region ?_))
      refine Run.opG wantS_none (ex_move rfl) rfl ?_
      refine Run.opG wantS_none (ex_geq rfl rfl) rfl ?_
      refine Run.opG wantS_none (ex_move rfl) rfl ?_
      rcases btf ((decide ((97 : Int) ≤ x30))) with hc31 | hc31
      · have h := bif_t hc31 h
        refine Run.opG (wantS_yes' rfl rfl hc31) (ex_move rfl) rfl ?_
        refine Run.opG (wantS_yes' rfl rfl hc31) (ex_leq rfl rfl) rfl ?_
        refine Run.opG wantS_none (ex_pickT' rfl hc31 rfl rfl) rfl ?_
        exact Run.pick [3, 4, 16, 17, 18, 28] (num_IsName_3_ok F (num_IsName_2 F N) ih v18 x30 v16 v17 v18 (decide (x30 ≤ (122 : Int))) sv16 _ _ _ hv16 hH h)
      · have h := bif_f hc31 h
        refine Run.no (wantS_not' rfl rfl hc31) rfl ?_
        refine Run.no (wantS_not' rfl rfl hc31) rfl ?_
        refine Run.opG wantS_none (ex_pickF' rfl hc31 rfl rfl) rfl ?_
        exact Run.pick [3, 4, 16, 17, 18, 28] (num_IsName_3_ok F (num_IsName_2 F N) ih v18 x30 v16 v17 v18 false sv16 _ _ _ hv16 hH h)
    · have h := bif_f hc28 h
      refine Run.condF' rfl hc28 ?_
      refine Run.exit rfl (Run.seq (Run.region ?_))
      refine Run.opG wantS_none (ex_assign rfl) rfl ?_
      refine Run.opsEnd ?_
      cases h
      exact Run.ret Tryz.func101 rfl (res_tmp rfl res_nil) rfl

def num_IsName_1 (F : Nat) (v0 : (List UInt8)) (v14 : Bool) : Option (Bool) :=
  bif v14 then
    some false
  else
    bnd (byt v0) fun l24 =>
    num_IsName_2 F F l24 (l24.length : Int) (0 : Int)

theorem num_IsName_1_ok (F : Nat) : ∀ (v0 : (List UInt8)) (v14 : Bool) (Fr : Rd) (M : Mem) (r : Bool) (hH : Has Fr M []), num_IsName_1 F v0 v14 = some r → Run Tryz.prog ⟨⟨101, [], none⟩, []⟩ 50 (num_IsName_post r) [(0, (.str v0)), (14, (.bool v14))] [codeC Tryz.prog 101 [1, 0, 1], codeC Tryz.prog 101 [1, 1]] M := by
  intro v0 v14 Fr M r hH h
  rw [num_IsName_1] at h
  rcases btf (v14) with hc22 | hc22
  · have h := bif_t hc22 h
    refine Run.condT' rfl hc22 ?_
    refine Run.seq (Run.region ?_)
    refine Run.opG wantS_none (ex_assign rfl) rfl ?_
    refine Run.opsEnd ?_
    cases h
    exact Run.ret Tryz.func101 rfl (res_tmp rfl res_nil) rfl
  · have h := bif_f hc22 h
    refine Run.condF' rfl hc22 ?_
    refine Run.skip (Run.seq (Run.seq (Run.region ?_)))
    refine Run.opG wantS_none (ex_move rfl) rfl ?_
    obtain ⟨l24, hl24, h⟩ := bnd_some h
    refine Run.opX wantS_none rfl (ExG.bytes rfl uvk9_132 cvk9_132 hl24 hH) ?_
    rintro _ M25 ⟨b25, rfl, hH25⟩
    refine Run.freezeB (t := 16) (i := 0) (enc := enc5) (fun _ => rfl) hl24 rfl hH25 rfl ?_
    intro F26 M26 hle26 (hH26 : Has F26 M26 [.vec 0 0 0 .nils []]) hf26
    refine Run.opG wantS_none (ex_len' rfl hf26 lenk132) rfl ?_
    refine Run.opG wantS_none (ex_move rfl) rfl ?_
    refine Run.opsEnd (Run.block (Run.loop ?_))
    exact Run.pick [16, 17, 18] (num_IsName_2_ok F F l24 (l24.length : Int) (0 : Int) (.ope b25 0 l24.length 1) _ _ _ hf26 (hH26.pick [] rfl rfl) h)

def num_IsName (F : Nat) (a0 : (List UInt8)) : Option (Bool) :=
  bif ((a0.length : Int) == (0 : Int)) then
    num_IsName_1 F a0 true
  else
    num_IsName_1 F a0 (decide ((16 : Int) < (a0.length : Int)))

theorem num_IsName_ok (F : Nat) (a0 : (List UInt8)) (r : Bool) (M : Mem) (h : num_IsName F a0 = some r) : CallsM Tryz.prog 101 [(.str a0)] M (fun s M' => s = (.bool r) ∧ M' = M) := by
  refine CallsM.plain Tryz.func101 rfl rfl rfl (show Run _ _ _ (num_IsName_post r) _ _ _ from ?_)
  rw [num_IsName] at h
  have hH := Has.nil (frozen M)
  refine Run.seq (Run.region ?_)
  refine Run.opG wantS_none (ex_assign rfl) rfl ?_
  refine Run.opsEnd (Run.seq (Run.seq (Run.region ?_)))
  refine Run.opG wantS_none (ex_move rfl) rfl ?_
  refine Run.opG wantS_none (ex_lenS rfl lenk9) rfl ?_
  refine Run.opG wantS_none (ex_eql rfl rfl) rfl ?_
  refine Run.opG wantS_none (ex_move rfl) rfl ?_
  rcases btf (((a0.length : Int) == (0 : Int))) with hc21 | hc21
  · have h := bif_t hc21 h
    refine Run.no (wantS_not' rfl rfl hc21) rfl ?_
    refine Run.no (wantS_not' rfl rfl hc21) rfl ?_
    refine Run.no (wantS_not' rfl rfl hc21) rfl ?_
    refine Run.opG wantS_none (ex_pickT' rfl hc21 rfl rfl) rfl ?_
    refine Run.opsEnd ?_
    exact Run.pick [0, 14] (num_IsName_1_ok F a0 true _ _ _ hH h)
  · have h := bif_f hc21 h
    refine Run.opG (wantS_yes' rfl rfl hc21) (ex_move rfl) rfl ?_
    refine Run.opG (wantS_yes' rfl rfl hc21) (ex_lenS rfl lenk9) rfl ?_
    refine Run.opG (wantS_yes' rfl rfl hc21) (ex_gtr rfl rfl) rfl ?_
    refine Run.opG wantS_none (ex_pickF' rfl hc21 rfl rfl) rfl ?_
    refine Run.opsEnd ?_
    exact Run.pick [0, 14] (num_IsName_1_ok F a0 (decide ((16 : Int) < (a0.length : Int))) _ _ _ hH h)

theorem mkk101 : makeK Tryz.prog 101 = none := by kernel_rfl
theorem cal101 : callable Tryz.prog 101 = true := by kernel_rfl
theorem off86_2 : fieldOff Tryz.prog 86 2 = some 2 := by kernel_rfl
theorem off86_1 : fieldOff Tryz.prog 86 1 = some 1 := by kernel_rfl
abbrev record_isRate_post (r : Bool) : SV → Mem → Prop := fun s _ => s = (.bool r)

def record_isRate_1 (F : Nat) (v11 : Bool) : Option (Bool) :=
  some v11

theorem record_isRate_1_ok (F : Nat) : ∀ (v11 : Bool) (Fr : Rd) (M : Mem) (r : Bool) (hH : Has Fr M []), record_isRate_1 F v11 = some r → Run Tryz.prog ⟨⟨140, [], none⟩, []⟩ 12 (record_isRate_post r) [(11, (.bool v11))] [itemC Tryz.prog 140 [1, 0] 9, codeC Tryz.prog 140 [1, 1]] M := by
  intro v11 Fr M r hH h
  rw [record_isRate_1] at h
  refine Run.opG wantS_none (ex_assign rfl) rfl ?_
  refine Run.opsEnd ?_
  cases h
  exact Run.ret Tryz.func140 rfl (res_tmp rfl res_nil) rfl

def record_isRate (F : Nat) (a0 : Int) : Option (Bool) :=
  bnd (record_isFrom F (1 : Int) a0 (64 : Int)) fun r22 =>
  bif r22 then
    bnd (bitZ Nat.land .i64 a0 (w64 (a0 - (1 : Int)))) fun z26 =>
    record_isRate_1 F (z26 == (0 : Int))
  else
    record_isRate_1 F false

theorem record_isRate_ok (F : Nat) (a0 : Int) (r : Bool) (M : Mem) (h : record_isRate F a0 = some r) : CallsM Tryz.prog 140 [(.int .i64 a0)] M (fun s M' => s = (.bool r) ∧ M' = M) := by
  refine CallsM.plain Tryz.func140 rfl rfl rfl (show Run _ _ _ (record_isRate_post r) _ _ _ from ?_)
  rw [record_isRate] at h
  have hH := Has.nil (frozen M)
  refine Run.seq (Run.region ?_)
  refine Run.opG wantS_none (ex_assign rfl) rfl ?_
  refine Run.opsEnd (Run.seq (Run.region ?_))
  refine Run.opG wantS_none (ex_move rfl) rfl ?_
  obtain ⟨r22, hr22, h⟩ := bnd_some h
  refine Run.callP wantS_none (ex_call rfl mkk91 cal91) rfl (record_isFrom_ok F (1 : Int) a0 (64 : Int) _ _ hr22) ?_
  refine Run.opG wantS_none (ex_move rfl) rfl ?_
  rcases btf (r22) with hc24 | hc24
  · have h := bif_t hc24 h
    refine Run.opG (wantS_yes' rfl rfl hc24) (ex_move rfl) rfl ?_
    refine Run.opG (wantS_yes' rfl rfl hc24) (ex_move rfl) rfl ?_
    refine Run.opG (wantS_yes' rfl rfl hc24) (ex_sub rfl rfl) rfl ?_
    obtain ⟨z26, hz26, h⟩ := bnd_some h
    refine Run.opG (wantS_yes' rfl rfl hc24) (ex_and rfl rfl hz26) rfl ?_
    refine Run.opG (wantS_yes' rfl rfl hc24) (ex_eql rfl rfl) rfl ?_
    refine Run.opG wantS_none (ex_pickT' rfl hc24 rfl rfl) rfl ?_
    exact Run.pick [11] (record_isRate_1_ok F (z26 == (0 : Int)) _ _ _ hH h)
  · have h := bif_f hc24 h
    refine Run.no (wantS_not' rfl rfl hc24) rfl ?_
    refine Run.no (wantS_not' rfl rfl hc24) rfl ?_
    refine Run.no (wantS_not' rfl rfl hc24) rfl ?_
    refine Run.no (wantS_not' rfl rfl hc24) rfl ?_
    refine Run.no (wantS_not' rfl rfl hc24) rfl ?_
    refine Run.opG wantS_none (ex_pickF' rfl hc24 rfl rfl) rfl ?_
    exact Run.pick [11] (record_isRate_1_ok F false _ _ _ hH h)

theorem mkk140 : makeK Tryz.prog 140 = none := by kernel_rfl
theorem cal140 : callable Tryz.prog 140 = true := by kernel_rfl
abbrev record_isBook_post (r : Bool) : SV → Mem → Prop := fun s _ => s = (.bool r)

def record_isBook_4 (F : Nat) (hd1 : (List S_api_Channel) → Int → Int → (List ((List UInt8) × Bool)) → Option (Bool)) (v11 : (List S_api_Channel)) (v12 v13 : Int) (v38 : Bool) (c32 : S_api_Channel) (l26 : (List ((List UInt8) × Bool))) : Option (Bool) :=
  bif v38 then
    some false
  else
    hd1 v11 v12 (w64 (v13 + (1 : Int))) (mput eqB l26 c32.Name true)

theorem record_isBook_4_ok (F : Nat) (hd1 : (List S_api_Channel) → Int → Int → (List ((List UInt8) × Bool)) → Option (Bool)) (hhd1 : ∀ (v11 : (List S_api_Channel)) (v12 v13 : Int) (l26 : (List ((List UInt8) × Bool))) (sv11 : SV) (b26 : Pos) (Fr : Rd) (M : Mem) (r : Bool) (hv11 : Slc Fr 3 (FlatR enc86) sv11 v11) (hH : Has Fr M [.obj b26 (.map (mapES kv9 kv4 0 l26) l26.length)]), hd1 v11 v12 v13 l26 = some r → Run Tryz.prog ⟨⟨113, [], none⟩, []⟩ 43 (record_isBook_post r) [(3, (.map b26)), (11, sv11), (12, (.int .i64 v12)), (13, (.int .i64 v13))] [codeC Tryz.prog 113 [1, 1, 1, 0, 1, 0, 0], loopC Tryz.prog 113 [1, 1, 1, 0, 1, 0, 0], .inBlock 0, codeC Tryz.prog 113 [1, 1, 1, 1]] M) : ∀ (v11 : (List S_api_Channel)) (v12 v13 : Int) (v38 : Bool) (c32 : S_api_Channel) (l26 : (List ((List UInt8) × Bool))) (sv11 : SV) (b26 b32 : Pos) (Fr : Rd) (M : Mem) (r : Bool) (hv11 : Slc Fr 3 (FlatR enc86) sv11 v11) (hH : Has Fr M [.obj b26 (.map (mapES kv9 kv4 0 l26) l26.length), .obj b32 (.row 86 .whole [(.str c32.Name), (.int .i64 c32.Rate), (.int .i64 c32.Bits)])]), record_isBook_4 F hd1 v11 v12 v13 v38 c32 l26 = some r → Run Tryz.prog ⟨⟨113, [], none⟩, []⟩ 43 (record_isBook_post r) [(3, (.map b26)), (5, (.ptr b32 0)), (11, sv11), (12, (.int .i64 v12)), (13, (.int .i64 v13)), (38, (.bool v38))] [codeC Tryz.prog 113 [1, 1, 1, 0, 1, 0, 0, 1, 1, 0, 0, 1, 0, 1], codeC Tryz.prog 113 [1, 1, 1, 0, 1, 0, 0, 1, 1, 0, 0, 1, 1], .inBlock 1, codeC Tryz.prog 113 [1, 1, 1, 0, 1, 0, 0, 1, 1, 1], loopC Tryz.prog 113 [1, 1, 1, 0, 1, 0, 0], .inBlock 0, codeC Tryz.prog 113 [1, 1, 1, 1]] M := by
  intro v11 v12 v13 v38 c32 l26 sv11 b26 b32 Fr M r hv11 hH h
  rw [record_isBook_4] at h
  rcases btf (v38) with hc41 | hc41
  · have h := bif_t hc41 h
    refine Run.condT' rfl hc41 ?_
    refine Run.seq (Run.region ?_)
    refine Run.opG wantS_none (ex_assign rfl) rfl ?_
    refine Run.opsEnd ?_
    cases h
    exact Run.ret Tryz.func113 rfl (res_tmp rfl res_nil) rfl
  · have h := bif_f hc41 h
    refine Run.condF' rfl hc41 ?_
    refine Run.skip (Run.region ?_)
    refine Run.opG wantS_none (ex_move rfl) rfl ?_
    refine Run.opG wantS_none (ex_fieldAddr rfl off86_0) rfl ?_
    refine Run.opG wantS_none (ex_load1 rfl (hH.cells (i := 1) rfl 0 rfl) rdLe_rfl agg9) rfl ?_
    refine Run.opX wantS_none rfl (ExG.mapUpdate (ke := kv9) (ve := kv4) (k := c32.Name) (v := true) rfl rfl rfl hH (i := 0) rfl kmt193 (kok193 _) keq193 khe193 rfl rfl) ?_
    rintro _ M42 ⟨rfl, (hH42 : Has Fr M42 [.obj b26 (.map (mapES kv9 kv4 0 (mput eqB l26 c32.Name true)) (mput eqB l26 c32.Name true).length), .obj b32 (.row 86 .whole [(.str c32.Name), (.int .i64 c32.Rate), (.int .i64 c32.Bits)])])⟩
    refine Run.opsEnd (Run.inBlock (Run.region ?_))
    refine Run.opG wantS_none (ex_add rfl rfl) rfl ?_
    refine Run.opG wantS_none (ex_move rfl) rfl ?_
    refine Run.opsEnd (Run.inLoop ?_)
    exact Run.pick [3, 11, 12, 13] (hhd1 v11 v12 (w64 (v13 + (1 : Int))) (mput eqB l26 c32.Name true) sv11 b26 _ _ _ hv11 (hH42.pick [0] rfl rfl) h)

def record_isBook_3 (F : Nat) (hd1 : (List S_api_Channel) → Int → Int → (List ((List UInt8) × Bool)) → Option (Bool)) (v11 : (List S_api_Channel)) (v12 v13 : Int) (v32 : Bool) (c32 : S_api_Channel) (l26 : (List ((List UInt8) × Bool))) : Option (Bool) :=
  bif v32 then
    record_isBook_4 F hd1 v11 v12 v13 true c32 l26
  else
    bnd (record_isFrom F (2 : Int) c32.Bits (24 : Int)) fun r44 =>
    record_isBook_4 F hd1 v11 v12 v13 (!r44) c32 l26

theorem record_isBook_3_ok (F : Nat) (hd1 : (List S_api_Channel) → Int → Int → (List ((List UInt8) × Bool)) → Option (Bool)) (hhd1 : ∀ (v11 : (List S_api_Channel)) (v12 v13 : Int) (l26 : (List ((List UInt8) × Bool))) (sv11 : SV) (b26 : Pos) (Fr : Rd) (M : Mem) (r : Bool) (hv11 : Slc Fr 3 (FlatR enc86) sv11 v11) (hH : Has Fr M [.obj b26 (.map (mapES kv9 kv4 0 l26) l26.length)]), hd1 v11 v12 v13 l26 = some r → Run Tryz.prog ⟨⟨113, [], none⟩, []⟩ 43 (record_isBook_post r) [(3, (.map b26)), (11, sv11), (12, (.int .i64 v12)), (13, (.int .i64 v13))] [codeC Tryz.prog 113 [1, 1, 1, 0, 1, 0, 0], loopC Tryz.prog 113 [1, 1, 1, 0, 1, 0, 0], .inBlock 0, codeC Tryz.prog 113 [1, 1, 1, 1]] M) : ∀ (v11 : (List S_api_Channel)) (v12 v13 : Int) (v32 : Bool) (c32 : S_api_Channel) (l26 : (List ((List UInt8) × Bool))) (sv11 : SV) (b26 b32 : Pos) (Fr : Rd) (M : Mem) (r : Bool) (hv11 : Slc Fr 3 (FlatR enc86) sv11 v11) (hH : Has Fr M [.obj b26 (.map (mapES kv9 kv4 0 l26) l26.length), .obj b32 (.row 86 .whole [(.str c32.Name), (.int .i64 c32.Rate), (.int .i64 c32.Bits)])]), record_isBook_3 F hd1 v11 v12 v13 v32 c32 l26 = some r → Run Tryz.prog ⟨⟨113, [], none⟩, []⟩ 43 (record_isBook_post r) [(3, (.map b26)), (5, (.ptr b32 0)), (11, sv11), (12, (.int .i64 v12)), (13, (.int .i64 v13)), (32, (.bool v32))] [itemC Tryz.prog 113 [1, 1, 1, 0, 1, 0, 0, 1, 1, 0, 0, 1, 0, 0] 16, codeC Tryz.prog 113 [1, 1, 1, 0, 1, 0, 0, 1, 1, 0, 0, 1, 0, 1], codeC Tryz.prog 113 [1, 1, 1, 0, 1, 0, 0, 1, 1, 0, 0, 1, 1], .inBlock 1, codeC Tryz.prog 113 [1, 1, 1, 0, 1, 0, 0, 1, 1, 1], loopC Tryz.prog 113 [1, 1, 1, 0, 1, 0, 0], .inBlock 0, codeC Tryz.prog 113 [1, 1, 1, 1]] M := by
  intro v11 v12 v13 v32 c32 l26 sv11 b26 b32 Fr M r hv11 hH h
  rw [record_isBook_3] at h
  refine Run.opG wantS_none (ex_move rfl) rfl ?_
  rcases btf (v32) with hc40 | hc40
  · have h := bif_t hc40 h
    refine Run.no (wantS_not' rfl rfl hc40) rfl ?_
    refine Run.no (wantS_not' rfl rfl hc40) rfl ?_
    refine Run.no (wantS_not' rfl rfl hc40) rfl ?_
    refine Run.no (wantS_not' rfl rfl hc40) rfl ?_
    refine Run.opG wantS_none (ex_pickT' rfl hc40 rfl rfl) rfl ?_
    refine Run.opsEnd ?_
    exact Run.pick [3, 5, 11, 12, 13, 38] (record_isBook_4_ok F hd1 hhd1 v11 v12 v13 true c32 l26 sv11 b26 b32 _ _ _ hv11 hH h)
  · have h := bif_f hc40 h
    refine Run.opG (wantS_yes' rfl rfl hc40) (ex_fieldAddr rfl off86_2) rfl ?_
    refine Run.opG (wantS_yes' rfl rfl hc40) (ex_load1 rfl (hH.cells (i := 1) rfl 2 rfl) rdLe_rfl agg3) rfl ?_
    obtain ⟨r44, hr44, h⟩ := bnd_some h
    refine Run.callP (wantS_yes' rfl rfl hc40) (ex_call rfl mkk91 cal91) rfl (record_isFrom_ok F (2 : Int) c32.Bits (24 : Int) _ _ hr44) ?_
    refine Run.opG (wantS_yes' rfl rfl hc40) (ex_not rfl) rfl ?_
    refine Run.opG wantS_none (ex_pickF' rfl hc40 rfl rfl) rfl ?_
    refine Run.opsEnd ?_
    exact Run.pick [3, 5, 11, 12, 13, 38] (record_isBook_4_ok F hd1 hhd1 v11 v12 v13 (!r44) c32 l26 sv11 b26 b32 _ _ _ hv11 hH h)

def record_isBook_2 (F : Nat) (hd1 : (List S_api_Channel) → Int → Int → (List ((List UInt8) × Bool)) → Option (Bool)) (v11 : (List S_api_Channel)) (v12 v13 : Int) (v26 : Bool) (c32 : S_api_Channel) (l26 : (List ((List UInt8) × Bool))) : Option (Bool) :=
  bif v26 then
    record_isBook_3 F hd1 v11 v12 v13 true c32 l26
  else
    bnd (record_isRate F c32.Rate) fun r47 =>
    record_isBook_3 F hd1 v11 v12 v13 (!r47) c32 l26

theorem record_isBook_2_ok (F : Nat) (hd1 : (List S_api_Channel) → Int → Int → (List ((List UInt8) × Bool)) → Option (Bool)) (hhd1 : ∀ (v11 : (List S_api_Channel)) (v12 v13 : Int) (l26 : (List ((List UInt8) × Bool))) (sv11 : SV) (b26 : Pos) (Fr : Rd) (M : Mem) (r : Bool) (hv11 : Slc Fr 3 (FlatR enc86) sv11 v11) (hH : Has Fr M [.obj b26 (.map (mapES kv9 kv4 0 l26) l26.length)]), hd1 v11 v12 v13 l26 = some r → Run Tryz.prog ⟨⟨113, [], none⟩, []⟩ 43 (record_isBook_post r) [(3, (.map b26)), (11, sv11), (12, (.int .i64 v12)), (13, (.int .i64 v13))] [codeC Tryz.prog 113 [1, 1, 1, 0, 1, 0, 0], loopC Tryz.prog 113 [1, 1, 1, 0, 1, 0, 0], .inBlock 0, codeC Tryz.prog 113 [1, 1, 1, 1]] M) : ∀ (v11 : (List S_api_Channel)) (v12 v13 : Int) (v26 : Bool) (c32 : S_api_Channel) (l26 : (List ((List UInt8) × Bool))) (sv11 : SV) (b26 b32 : Pos) (Fr : Rd) (M : Mem) (r : Bool) (hv11 : Slc Fr 3 (FlatR enc86) sv11 v11) (hH : Has Fr M [.obj b26 (.map (mapES kv9 kv4 0 l26) l26.length), .obj b32 (.row 86 .whole [(.str c32.Name), (.int .i64 c32.Rate), (.int .i64 c32.Bits)])]), record_isBook_2 F hd1 v11 v12 v13 v26 c32 l26 = some r → Run Tryz.prog ⟨⟨113, [], none⟩, []⟩ 43 (record_isBook_post r) [(3, (.map b26)), (5, (.ptr b32 0)), (11, sv11), (12, (.int .i64 v12)), (13, (.int .i64 v13)), (26, (.bool v26))] [itemC Tryz.prog 113 [1, 1, 1, 0, 1, 0, 0, 1, 1, 0, 0, 1, 0, 0] 10, codeC Tryz.prog 113 [1, 1, 1, 0, 1, 0, 0, 1, 1, 0, 0, 1, 0, 1], codeC Tryz.prog 113 [1, 1, 1, 0, 1, 0, 0, 1, 1, 0, 0, 1, 1], .inBlock 1, codeC Tryz.prog 113 [1, 1, 1, 0, 1, 0, 0, 1, 1, 1], loopC Tryz.prog 113 [1, 1, 1, 0, 1, 0, 0], .inBlock 0, codeC Tryz.prog 113 [1, 1, 1, 1]] M := by
  intro v11 v12 v13 v26 c32 l26 sv11 b26 b32 Fr M r hv11 hH h
  rw [record_isBook_2] at h
  refine Run.opG wantS_none (ex_move rfl) rfl ?_
  rcases btf (v26) with hc39 | hc39
  · have h := bif_t hc39 h
    refine Run.no (wantS_not' rfl rfl hc39) rfl ?_
    refine Run.no (wantS_not' rfl rfl hc39) rfl ?_
    refine Run.no (wantS_not' rfl rfl hc39) rfl ?_
    refine Run.no (wantS_not' rfl rfl hc39) rfl ?_
    refine Run.opG wantS_none (ex_pickT' rfl hc39 rfl rfl) rfl ?_
    exact Run.pick [3, 5, 11, 12, 13, 32] (record_isBook_3_ok F hd1 hhd1 v11 v12 v13 true c32 l26 sv11 b26 b32 _ _ _ hv11 hH h)
  · have h := bif_f hc39 h
    refine Run.opG (wantS_yes' rfl rfl hc39) (ex_fieldAddr rfl off86_1) rfl ?_
    refine Run.opG (wantS_yes' rfl rfl hc39) (ex_load1 rfl (hH.cells (i := 1) rfl 1 rfl) rdLe_rfl agg3) rfl ?_
    obtain ⟨r47, hr47, h⟩ := bnd_some h
    refine Run.callP (wantS_yes' rfl rfl hc39) (ex_call rfl mkk140 cal140) rfl (record_isRate_ok F c32.Rate _ _ hr47) ?_
    refine Run.opG (wantS_yes' rfl rfl hc39) (ex_not rfl) rfl ?_
    refine Run.opG wantS_none (ex_pickF' rfl hc39 rfl rfl) rfl ?_
    exact Run.pick [3, 5, 11, 12, 13, 32] (record_isBook_3_ok F hd1 hhd1 v11 v12 v13 (!r47) c32 l26 sv11 b26 b32 _ _ _ hv11 hH h)

def record_isBook_1 (F : Nat) : Nat → (List S_api_Channel) → Int → Int → (List ((List UInt8) × Bool)) → Option (Bool)
  | 0, _, _, _, _ => none
  | N + 1, v11, v12, v13, l26 =>
    bif (decide (v13 < v12)) then
      bnd (idx v11 v13) fun x30 =>
      bnd (num_IsName F x30.Name) fun r36 =>
      bif (!r36) then
        record_isBook_2 F (record_isBook_1 F N) v11 v12 v13 true x30 l26
      else
        record_isBook_2 F (record_isBook_1 F N) v11 v12 v13 (mget eqB false l26 x30.Name) x30 l26
    else
      some true

theorem record_isBook_1_ok (F : Nat) : ∀ (N : Nat), ∀ (v11 : (List S_api_Channel)) (v12 v13 : Int) (l26 : (List ((List UInt8) × Bool))) (sv11 : SV) (b26 : Pos) (Fr : Rd) (M : Mem) (r : Bool) (hv11 : Slc Fr 3 (FlatR enc86) sv11 v11) (hH : Has Fr M [.obj b26 (.map (mapES kv9 kv4 0 l26) l26.length)]), record_isBook_1 F N v11 v12 v13 l26 = some r → Run Tryz.prog ⟨⟨113, [], none⟩, []⟩ 43 (record_isBook_post r) [(3, (.map b26)), (11, sv11), (12, (.int .i64 v12)), (13, (.int .i64 v13))] [codeC Tryz.prog 113 [1, 1, 1, 0, 1, 0, 0], loopC Tryz.prog 113 [1, 1, 1, 0, 1, 0, 0], .inBlock 0, codeC Tryz.prog 113 [1, 1, 1, 1]] M := by
  intro N
  induction N with
  | zero =>
    intro v11 v12 v13 l26 sv11 b26 Fr M r hv11 hH h
    simp [record_isBook_1] at h
  | succ N ih =>
    intro v11 v12 v13 l26 sv11 b26 Fr M r hv11 hH h
    rw [record_isBook_1] at h
    refine Run.seq (Run.region ?_)
    refine Run.opG wantS_none (ex_lss rfl rfl) rfl ?_
    refine Run.opsEnd (Run.seq ?_)
    rcases btf ((decide (v13 < v12))) with hc28 | hc28
    · have h := bif_t hc28 h
      refine Run.condT' rfl hc28 ?_
      refine Run.skip (Run.seq (Run.block (Run.seq (Run.region ?_))))
      obtain ⟨x30, hx30, h⟩ := bnd_some h
      obtain ⟨p30, o30, _, hx30, hp30, rfl⟩ := sl_elem (P := Tryz.prog) (t := 67) (kk := .i64) hv11 hx30 els67
      refine Run.opG wantS_none (ex_elX rfl rfl hx30) rfl ?_
      refine Run.opG wantS_none (ex_loadA rfl (hH.ptrF hp30) rdLe_rfl agg86 rfl rfl rfl) rfl ?_
      refine Run.opX wantS_none rfl (ExG.new (v := fun b => .ptr b 0) (ex_alloc zer86) hH) ?_
      rintro _ M33 ⟨b32, rfl, hH33⟩
      refine Run.opX wantS_none rfl (ExG.storeC (c' := [(.str x30.Name), (.int .i64 x30.Rate), (.int .i64 x30.Bits)]) rfl rfl rfl hH33 (i := 0) rfl sz86 rfl rfl rfl rfl rfl) ?_
      rintro _ M34 ⟨rfl, (hH34 : Has Fr M34 [.obj b32 (.row 86 .whole [(.str x30.Name), (.int .i64 x30.Rate), (.int .i64 x30.Bits)]), .obj b26 (.map (mapES kv9 kv4 0 l26) l26.length)])⟩
      refine Run.opsEnd (Run.seq (Run.seq (Run.region ?_)))
      refine Run.opG wantS_none (ex_fieldAddr rfl off86_0) rfl ?_
      refine Run.opG wantS_none (ex_load1 rfl (hH34.cells (i := 0) rfl 0 rfl) rdLe_rfl agg9) rfl ?_
      obtain ⟨r36, hr36, h⟩ := bnd_some h
      refine Run.callP wantS_none (ex_call rfl mkk101 cal101) rfl (num_IsName_ok F x30.Name _ _ hr36) ?_
      refine Run.opG wantS_none (ex_not rfl) rfl ?_
      refine Run.opG wantS_none (ex_move rfl) rfl ?_
      rcases btf ((!r36)) with hc38 | hc38
      · have h := bif_t hc38 h
        refine Run.no (wantS_not' rfl rfl hc38) rfl ?_
        refine Run.no (wantS_not' rfl rfl hc38) rfl ?_
        refine Run.no (wantS_not' rfl rfl hc38) rfl ?_
        refine Run.no (wantS_not' rfl rfl hc38) rfl ?_
        refine Run.opG wantS_none (ex_pickT' rfl hc38 rfl rfl) rfl ?_
        exact Run.pick [3, 5, 11, 12, 13, 26] (record_isBook_2_ok F (record_isBook_1 F N) ih v11 v12 v13 true x30 l26 sv11 b26 b32 _ _ _ hv11 (hH34.pick [1, 0] rfl rfl) h)
      · have h := bif_f hc38 h
        refine Run.opG (wantS_yes' rfl rfl hc38) (ex_move rfl) rfl ?_
        refine Run.opG (wantS_yes' rfl rfl hc38) (ex_fieldAddr rfl off86_0) rfl ?_
        refine Run.opG (wantS_yes' rfl rfl hc38) (ex_load1 rfl (hH34.cells (i := 0) rfl 0 rfl) rdLe_rfl agg9) rfl ?_
        refine Run.opG (wantS_yes' rfl rfl hc38) (ex_lookup (ke := kv9) (ve := kv4) (k := x30.Name) rfl rfl hH34 (i := 1) rfl kmt193 (kok193 _) keq193 khe193 kzr193) rfl ?_
        refine Run.opG wantS_none (ex_pickF' rfl hc38 rfl rfl) rfl ?_
        exact Run.pick [3, 5, 11, 12, 13, 26] (record_isBook_2_ok F (record_isBook_1 F N) ih v11 v12 v13 (mget eqB false l26 x30.Name) x30 l26 sv11 b26 b32 _ _ _ hv11 (hH34.pick [1, 0] rfl rfl) h)
    · have h := bif_f hc28 h
      refine Run.condF' rfl hc28 ?_
      refine Run.exit rfl (Run.seq (Run.region ?_))
      refine Run.opG wantS_none (ex_assign rfl) rfl ?_
      refine Run.opsEnd ?_
      cases h
      exact Run.ret Tryz.func113 rfl (res_tmp rfl res_nil) rfl

def record_isBook (F : Nat) (a0 : (List S_api_Channel)) : Option (Bool) :=
  bnd (record_isFrom F (1 : Int) (a0.length : Int) (16 : Int)) fun r22 =>
  bif (!r22) then
    some false
  else
    record_isBook_1 F F a0 (a0.length : Int) (0 : Int) ([] : List ((List UInt8) × Bool))

theorem record_isBook_ok (F : Nat) (a0 : (List S_api_Channel)) (s0 : SV) (r : Bool) (M : Mem) (hs0 : Slc (rd M) 3 (FlatR enc86) s0 a0) (h : record_isBook F a0 = some r) : CallsM Tryz.prog 113 [s0] M (fun s M' => s = (.bool r) ∧ M' = M) := by
  refine CallsM.plain Tryz.func113 rfl rfl rfl (show Run _ _ _ (record_isBook_post r) _ _ _ from ?_)
  rw [record_isBook] at h
  replace hs0 := hs0.mono (rdLe_frozen M) (fun _ _ h => h)
  have hH := Has.nil (frozen M)
  refine Run.seq (Run.region ?_)
  refine Run.opG wantS_none (ex_assign rfl) rfl ?_
  refine Run.opsEnd (Run.seq (Run.seq (Run.region ?_)))
  refine Run.opG wantS_none (ex_move rfl) rfl ?_
  refine Run.opG wantS_none (ex_len' rfl hs0 lenk67) rfl ?_
  obtain ⟨r22, hr22, h⟩ := bnd_some h
  refine Run.callP wantS_none (ex_call rfl mkk91 cal91) rfl (record_isFrom_ok F (1 : Int) (a0.length : Int) (16 : Int) _ _ hr22) ?_
  refine Run.opG wantS_none (ex_not rfl) rfl ?_
  refine Run.opsEnd ?_
  rcases btf ((!r22)) with hc24 | hc24
  · have h := bif_t hc24 h
    refine Run.condT' rfl hc24 ?_
    refine Run.seq (Run.region ?_)
    refine Run.opG wantS_none (ex_assign rfl) rfl ?_
    refine Run.opsEnd ?_
    cases h
    exact Run.ret Tryz.func113 rfl (res_tmp rfl res_nil) rfl
  · have h := bif_f hc24 h
    refine Run.condF' rfl hc24 ?_
    refine Run.skip (Run.seq (Run.region ?_))
    refine Run.opX wantS_none rfl (ExG.makeMap kv9 kv4 hH) ?_
    rintro _ M27 ⟨b26, rfl, hH27⟩
    refine Run.opG wantS_none (ex_assign rfl) rfl ?_
    refine Run.opsEnd (Run.seq (Run.seq (Run.region ?_)))
    refine Run.opG wantS_none (ex_move rfl) rfl ?_
    refine Run.opG wantS_none (ex_len' rfl hs0 lenk67) rfl ?_
    refine Run.opG wantS_none (ex_move rfl) rfl ?_
    refine Run.opsEnd (Run.block (Run.loop ?_))
    exact Run.pick [3, 11, 12, 13] (record_isBook_1_ok F F a0 (a0.length : Int) (0 : Int) ([] : List ((List UInt8) × Bool)) s0 b26 _ _ _ hs0 hH27 h)

theorem mkk113 : makeK Tryz.prog 113 = none := by kernel_rfl
theorem cal113 : callable Tryz.prog 113 = true := by kernel_rfl
theorem lenk68 : lenK Tryz.prog 68 = some .sl := by kernel_rfl
theorem mkk114 : makeK Tryz.prog 114 = none := by kernel_rfl
theorem cal114 : callable Tryz.prog 114 = true := by kernel_rfl
theorem mkk141 : makeK Tryz.prog 141 = none := by kernel_rfl
theorem cal141 : callable Tryz.prog 141 = true := by kernel_rfl
theorem els68 : elems Tryz.prog 68 = some (.sl 2) := by kernel_rfl
theorem agg84 : aggSize Tryz.prog 84 = some (some 2) := by kernel_rfl
theorem mkk111 : makeK Tryz.prog 111 = none := by kernel_rfl
theorem cal111 : callable Tryz.prog 111 = true := by kernel_rfl
theorem off84_0 : fieldOff Tryz.prog 84 0 = some 0 := by kernel_rfl
theorem off84_1 : fieldOff Tryz.prog 84 1 = some 1 := by kernel_rfl
theorem agg82 : aggSize Tryz.prog 82 = some none := by kernel_rfl
theorem els82 : elems Tryz.prog 82 = some (.sl 1) := by kernel_rfl
theorem agg26 : aggSize Tryz.prog 26 = some none := by kernel_rfl
theorem lenk26 : lenK Tryz.prog 26 = some .sl := by kernel_rfl
theorem els26 : elems Tryz.prog 26 = some (.sl 1) := by kernel_rfl
theorem plan112_1_0_1_1_1_0_1_0_0_1_1_0_0_1_0_0 : planOf Tryz.prog (opsC (atC Tryz.prog 112 [1, 0, 1, 1, 1, 0, 1, 0, 0, 1, 1, 0, 0, 1, 0, 0])) = some [.fl 0, .fl 1, .fl 2, .fl 3, .fl 4, .fl 5, .fl 6, .fl 7, .fl 8, .sync] := by kernel_rfl
theorem lenk82 : lenK Tryz.prog 82 = some .sl := by kernel_rfl
abbrev record_isFrame_post (r : Bool) : SV → Mem → Prop := fun s _ => s = (.bool r)

def record_isFrame_3 (F : Nat) (v0 : (List S_api_Channel)) (v5 : Int) : Option (Bool) :=
  some (v5 == (v0.length : Int))

theorem record_isFrame_3_ok (F : Nat) : ∀ (v0 : (List S_api_Channel)) (v5 : Int) (sv0 : SV) (Fr : Rd) (M : Mem) (r : Bool) (hv0 : Slc Fr 3 (FlatR enc86) sv0 v0) (hH : Has Fr M []), record_isFrame_3 F v0 v5 = some r → Run Tryz.prog ⟨⟨112, [], none⟩, []⟩ 68 (record_isFrame_post r) [(0, sv0), (5, (.int .i64 v5))] [itemC Tryz.prog 112 [1, 0, 1, 1, 1, 1, 0] 0, codeC Tryz.prog 112 [1, 0, 1, 1, 1, 1, 1], scopeC Tryz.prog 112 [1, 0]] M := by
  intro v0 v5 sv0 Fr M r hv0 hH h
  rw [record_isFrame_3] at h
  refine Run.opG wantS_none (ex_move rfl) rfl ?_
  refine Run.opG wantS_none (ex_move rfl) rfl ?_
  refine Run.opG wantS_none (ex_len' rfl hv0 lenk67) rfl ?_
  refine Run.opG wantS_none (ex_eql rfl rfl) rfl ?_
  refine Run.opG wantS_none (ex_assign rfl) rfl ?_
  refine Run.opsEnd ?_
  cases h
  exact Run.ret Tryz.func112 rfl (res_tmp rfl res_nil) rfl

def record_isFrame_4 (F : Nat) (hd2 : (List S_api_Channel) → Int → (List S_api_Channel) → Int → Int → Int → (List (List Int)) → Option (Bool)) : Nat → (List S_api_Channel) → Int → Int → (List S_api_Channel) → Int → Int → (List Int) → Int → Int → Int → (List (List Int)) → Option (Bool)
  | 0, _, _, _, _, _, _, _, _, _, _, _ => none
  | N + 1, v0, v5, v8, v23, v24, v25, v47, v48, v49, c22_0, c22_1 =>
    bif (decide (v49 < v48)) then
      bnd (idx v47 v49) fun x44 =>
      bnd (record_isFrom F (w64 (-v8)) x44 (w64 (v8 - (1 : Int)))) fun r46 =>
      bif (!r46) then
        record_isFrame_3 F v0 v5
      else
        (record_isFrame_4 F hd2 N) v0 v5 v8 v23 v24 v25 v47 v48 (w64 (v49 + (1 : Int))) c22_0 c22_1
    else
      hd2 v0 (w64 (v5 + (1 : Int))) v23 v24 (w64 (v25 + (1 : Int))) c22_0 c22_1

theorem record_isFrame_4_ok (F : Nat) (hd2 : (List S_api_Channel) → Int → (List S_api_Channel) → Int → Int → Int → (List (List Int)) → Option (Bool)) (hhd2 : ∀ (v0 : (List S_api_Channel)) (v5 : Int) (v23 : (List S_api_Channel)) (v24 v25 c22_0 : Int) (c22_1 : (List (List Int))) (sv0 sv23 sc22_1 : SV) (b22 : Pos) (Fr : Rd) (M : Mem) (r : Bool) (hv0 : Slc Fr 3 (FlatR enc86) sv0 v0) (hv23 : Slc Fr 3 (FlatR enc86) sv23 v23) (hc22_1 : Slc Fr 1 (rep26 Fr) sc22_1 c22_1) (hH : Has Fr M [.obj b22 (.row 84 .whole [(.int .i64 c22_0), sc22_1])]), hd2 v0 v5 v23 v24 v25 c22_0 c22_1 = some r → Run Tryz.prog ⟨⟨112, [], none⟩, []⟩ 68 (record_isFrame_post r) [(0, sv0), (3, (.ptr b22 0)), (5, (.int .i64 v5)), (23, sv23), (24, (.int .i64 v24)), (25, (.int .i64 v25))] [codeC Tryz.prog 112 [1, 0, 1, 1, 1, 0, 1, 0, 0], loopC Tryz.prog 112 [1, 0, 1, 1, 1, 0, 1, 0, 0], .inBlock 0, codeC Tryz.prog 112 [1, 0, 1, 1, 1, 1], scopeC Tryz.prog 112 [1, 0]] M) : ∀ (N : Nat), ∀ (v0 : (List S_api_Channel)) (v5 v8 : Int) (v23 : (List S_api_Channel)) (v24 v25 : Int) (v47 : (List Int)) (v48 v49 c22_0 : Int) (c22_1 : (List (List Int))) (sv0 sv23 sv47 sc22_1 : SV) (b22 : Pos) (Fr : Rd) (M : Mem) (r : Bool) (hv0 : Slc Fr 3 (FlatR enc86) sv0 v0) (hv23 : Slc Fr 3 (FlatR enc86) sv23 v23) (hv47 : Slc Fr 1 (FlatR enc3) sv47 v47) (hc22_1 : Slc Fr 1 (rep26 Fr) sc22_1 c22_1) (hH : Has Fr M [.obj b22 (.row 84 .whole [(.int .i64 c22_0), sc22_1])]), record_isFrame_4 F hd2 N v0 v5 v8 v23 v24 v25 v47 v48 v49 c22_0 c22_1 = some r → Run Tryz.prog ⟨⟨112, [], none⟩, []⟩ 68 (record_isFrame_post r) [(0, sv0), (3, (.ptr b22 0)), (5, (.int .i64 v5)), (8, (.int .i64 v8)), (23, sv23), (24, (.int .i64 v24)), (25, (.int .i64 v25)), (47, sv47), (48, (.int .i64 v48)), (49, (.int .i64 v49))] [codeC Tryz.prog 112 [1, 0, 1, 1, 1, 0, 1, 0, 0, 1, 1, 0, 0, 1, 1, 1, 0, 1, 0, 0], loopC Tryz.prog 112 [1, 0, 1, 1, 1, 0, 1, 0, 0, 1, 1, 0, 0, 1, 1, 1, 0, 1, 0, 0], .inBlock 2, codeC Tryz.prog 112 [1, 0, 1, 1, 1, 0, 1, 0, 0, 1, 1, 0, 0, 1, 1, 1, 1], .inBlock 1, codeC Tryz.prog 112 [1, 0, 1, 1, 1, 0, 1, 0, 0, 1, 1, 1], loopC Tryz.prog 112 [1, 0, 1, 1, 1, 0, 1, 0, 0], .inBlock 0, codeC Tryz.prog 112 [1, 0, 1, 1, 1, 1], scopeC Tryz.prog 112 [1, 0]] M := by
  intro N
  induction N with
  | zero =>
    intro v0 v5 v8 v23 v24 v25 v47 v48 v49 c22_0 c22_1 sv0 sv23 sv47 sc22_1 b22 Fr M r hv0 hv23 hv47 hc22_1 hH h
    simp [record_isFrame_4] at h
  | succ N ih =>
    intro v0 v5 v8 v23 v24 v25 v47 v48 v49 c22_0 c22_1 sv0 sv23 sv47 sc22_1 b22 Fr M r hv0 hv23 hv47 hc22_1 hH h
    rw [record_isFrame_4] at h
    refine Run.seq (Run.region ?_)
    refine Run.opG wantS_none (ex_lss rfl rfl) rfl ?_
    refine Run.opsEnd (Run.seq ?_)
    rcases btf ((decide (v49 < v48))) with hc42 | hc42
    · have h := bif_t hc42 h
      refine Run.condT' rfl hc42 ?_
      refine Run.skip (Run.seq (Run.block (Run.seq (Run.region ?_))))
      obtain ⟨x44, hx44, h⟩ := bnd_some h
      obtain ⟨p44, o44, _, hx44, hp44, rfl⟩ := sl_elem (P := Tryz.prog) (t := 26) (kk := .i64) hv47 hx44 els26
      refine Run.opG wantS_none (ex_elX rfl rfl hx44) rfl ?_
      refine Run.opG wantS_none (ex_load1 rfl (hH.ptrF hp44) rdLe_rfl agg3) rfl ?_
      refine Run.opG wantS_none (ex_assign rfl) rfl ?_
      refine Run.opsEnd (Run.seq (Run.region ?_))
      refine Run.opG wantS_none (ex_move rfl) rfl ?_
      refine Run.opG wantS_none (ex_neg rfl) rfl ?_
      refine Run.opG wantS_none (ex_move rfl) rfl ?_
      refine Run.opG wantS_none (ex_move rfl) rfl ?_
      refine Run.opG wantS_none (ex_sub rfl rfl) rfl ?_
      obtain ⟨r46, hr46, h⟩ := bnd_some h
      refine Run.callP wantS_none (ex_call rfl mkk91 cal91) rfl (record_isFrom_ok F (w64 (-v8)) x44 (w64 (v8 - (1 : Int))) _ _ hr46) ?_
      refine Run.opG wantS_none (ex_not rfl) rfl ?_
      refine Run.opsEnd ?_
      rcases btf ((!r46)) with hc48 | hc48
      · have h := bif_t hc48 h
        refine Run.condT' rfl hc48 ?_
        refine Run.exit rfl (Run.seq (Run.region ?_))
        exact Run.pick [0, 5] (record_isFrame_3_ok F v0 v5 sv0 _ _ _ hv0 (hH.pick [] rfl rfl) h)
      · have h := bif_f hc48 h
        refine Run.condF' rfl hc48 ?_
        refine Run.skip (Run.inBlock (Run.region ?_))
        refine Run.opG wantS_none (ex_add rfl rfl) rfl ?_
        refine Run.opG wantS_none (ex_move rfl) rfl ?_
        refine Run.opsEnd (Run.inLoop ?_)
        exact Run.pick [0, 3, 5, 8, 23, 24, 25, 47, 48, 49] (ih v0 v5 v8 v23 v24 v25 v47 v48 (w64 (v49 + (1 : Int))) c22_0 c22_1 sv0 sv23 sv47 sc22_1 b22 _ _ _ hv0 hv23 hv47 hc22_1 hH h)
    · have h := bif_f hc42 h
      refine Run.condF' rfl hc42 ?_
      refine Run.exit rfl (Run.region ?_)
      refine Run.opG wantS_none (ex_move rfl) rfl ?_
      refine Run.opG wantS_none (ex_add rfl rfl) rfl ?_
      refine Run.opG wantS_none (ex_assign rfl) rfl ?_
      refine Run.opsEnd (Run.inBlock (Run.region ?_))
      refine Run.opG wantS_none (ex_add rfl rfl) rfl ?_
      refine Run.opG wantS_none (ex_move rfl) rfl ?_
      refine Run.opsEnd (Run.inLoop ?_)
      exact Run.pick [0, 3, 5, 23, 24, 25] (hhd2 v0 (w64 (v5 + (1 : Int))) v23 v24 (w64 (v25 + (1 : Int))) c22_0 c22_1 sv0 sv23 sc22_1 b22 _ _ _ hv0 hv23 hc22_1 hH h)

def record_isFrame_2 (F : Nat) : Nat → (List S_api_Channel) → Int → (List S_api_Channel) → Int → Int → Int → (List (List Int)) → Option (Bool)
  | 0, _, _, _, _, _, _, _ => none
  | N + 1, v0, v5, v23, v24, v25, c22_0, c22_1 =>
    bif (decide (v25 < v24)) then
      bnd (idx v23 v25) fun x31 =>
      bnd (idx c22_1 v25) fun x36 =>
      bif (!((x36.length : Int) == x31.Rate)) then
        record_isFrame_3 F v0 v5
      else
        bnd (shn (w64 (x31.Bits - (1 : Int)))) fun j39 =>
        bnd (idx c22_1 v25) fun x41 =>
        record_isFrame_4 F (record_isFrame_2 F N) F v0 v5 (w64 ((1 : Int) * 2 ^ (min j39 (IntKind.bits .i64)))) v23 v24 v25 x41 (x41.length : Int) (0 : Int) c22_0 c22_1
    else
      record_isFrame_3 F v0 v5

theorem record_isFrame_2_ok (F : Nat) : ∀ (N : Nat), ∀ (v0 : (List S_api_Channel)) (v5 : Int) (v23 : (List S_api_Channel)) (v24 v25 c22_0 : Int) (c22_1 : (List (List Int))) (sv0 sv23 sc22_1 : SV) (b22 : Pos) (Fr : Rd) (M : Mem) (r : Bool) (hv0 : Slc Fr 3 (FlatR enc86) sv0 v0) (hv23 : Slc Fr 3 (FlatR enc86) sv23 v23) (hc22_1 : Slc Fr 1 (rep26 Fr) sc22_1 c22_1) (hH : Has Fr M [.obj b22 (.row 84 .whole [(.int .i64 c22_0), sc22_1])]), record_isFrame_2 F N v0 v5 v23 v24 v25 c22_0 c22_1 = some r → Run Tryz.prog ⟨⟨112, [], none⟩, []⟩ 68 (record_isFrame_post r) [(0, sv0), (3, (.ptr b22 0)), (5, (.int .i64 v5)), (23, sv23), (24, (.int .i64 v24)), (25, (.int .i64 v25))] [codeC Tryz.prog 112 [1, 0, 1, 1, 1, 0, 1, 0, 0], loopC Tryz.prog 112 [1, 0, 1, 1, 1, 0, 1, 0, 0], .inBlock 0, codeC Tryz.prog 112 [1, 0, 1, 1, 1, 1], scopeC Tryz.prog 112 [1, 0]] M := by
  intro N
  induction N with
  | zero =>
    intro v0 v5 v23 v24 v25 c22_0 c22_1 sv0 sv23 sc22_1 b22 Fr M r hv0 hv23 hc22_1 hH h
    simp [record_isFrame_2] at h
  | succ N ih =>
    intro v0 v5 v23 v24 v25 c22_0 c22_1 sv0 sv23 sc22_1 b22 Fr M r hv0 hv23 hc22_1 hH h
    rw [record_isFrame_2] at h
    refine Run.seq (Run.region ?_)
    refine Run.opG wantS_none (ex_lss rfl rfl) rfl ?_
    refine Run.opsEnd (Run.seq ?_)
    rcases btf ((decide (v25 < v24))) with hc29 | hc29
    · have h := bif_t hc29 h
      refine Run.condT' rfl hc29 ?_
      refine Run.skip (Run.seq (Run.block (Run.seq (Run.region ?_))))
      refine Run.opG wantS_none (ex_move rfl) rfl ?_
      obtain ⟨x31, hx31, h⟩ := bnd_some h
      obtain ⟨p31, o31, _, hx31, hp31, rfl⟩ := sl_elem (P := Tryz.prog) (t := 67) (kk := .i64) hv23 hx31 els67
      refine Run.opG wantS_none (ex_elX rfl rfl hx31) rfl ?_
      refine Run.opG wantS_none (ex_loadA rfl (hH.ptrF hp31) rdLe_rfl agg86 rfl rfl rfl) rfl ?_
      refine Run.opX wantS_none rfl (ExG.new (v := fun b => .ptr b 0) (ex_alloc zer86) hH) ?_
      rintro _ M34 ⟨b33, rfl, hH34⟩
      refine Run.opG wantS_none (ex_assign rfl) rfl ?_
      refine Run.opX wantS_none rfl (ExG.storeC (c' := [(.str x31.Name), (.int .i64 x31.Rate), (.int .i64 x31.Bits)]) rfl rfl rfl hH34 (i := 0) rfl sz86 rfl rfl rfl rfl rfl) ?_
      rintro _ M35 ⟨rfl, (hH35 : Has Fr M35 [.obj b33 (.row 86 .whole [(.str x31.Name), (.int .i64 x31.Rate), (.int .i64 x31.Bits)]), .obj b22 (.row 84 .whole [(.int .i64 c22_0), sc22_1])])⟩
      refine Run.opsEnd (Run.seq (Run.seq ?_))
      refine Run.drawG plan112_1_0_1_1_1_0_1_0_0_1_1_0_0_1_0_0 ?_
      refine DrawG.fl rfl (ev_ex wantS_none (ex_fieldAddr rfl off84_1)) rfl ?_
      refine DrawG.fl rfl (ev_ex wantS_none (ex_load1 rfl (hH35.cells (i := 1) rfl 1 rfl) rdLe_rfl agg82)) rfl ?_
      refine DrawG.fl rfl (ev_ex wantS_none (ex_move rfl)) rfl ?_
      obtain ⟨x36, hx36, h⟩ := bnd_some h
      obtain ⟨p36, o36, _, hx36, hp36, ⟨q36_0, rfl, hq36_0⟩⟩ := sl_elem (P := Tryz.prog) (t := 82) (kk := .i64) hc22_1 hx36 els82
      refine DrawG.fl rfl (ev_ex wantS_none (ex_elX rfl rfl hx36)) rfl ?_
      refine DrawG.fl rfl (ev_ex wantS_none (ex_load1 rfl (hH35.ptrF hp36) rdLe_rfl agg26)) rfl ?_
      refine DrawG.fl rfl (ev_ex wantS_none (ex_len' rfl hq36_0 lenk26)) rfl ?_
      refine DrawG.fl rfl (ev_ex wantS_none (ex_fieldAddr rfl off86_1)) rfl ?_
      refine DrawG.fl rfl (ev_ex wantS_none (ex_load1 rfl (hH35.cells (i := 0) rfl 1 rfl) rdLe_rfl agg3)) rfl ?_
      refine DrawG.fl rfl (ev_ex wantS_none (ex_neq rfl rfl)) rfl ?_
      refine DrawG.sync ?_
      refine DrawG.nil ?_
      rcases btf ((!((x36.length : Int) == x31.Rate))) with hc37 | hc37
      · have h := bif_t hc37 h
        refine Run.condT' rfl hc37 ?_
        refine Run.exit rfl (Run.seq (Run.region ?_))
        exact Run.pick [0, 5] (record_isFrame_3_ok F v0 v5 sv0 _ _ _ hv0 (hH35.pick [] rfl rfl) h)
      · have h := bif_f hc37 h
        refine Run.condF' rfl hc37 ?_
        refine Run.skip (Run.seq (Run.region ?_))
        refine Run.opG wantS_none (ex_fieldAddr rfl off86_2) rfl ?_
        refine Run.opG wantS_none (ex_load1 rfl (hH35.cells (i := 0) rfl 2 rfl) rdLe_rfl agg3) rfl ?_
        refine Run.opG wantS_none (ex_sub rfl rfl) rfl ?_
        obtain ⟨j39, hj39, h⟩ := bnd_some h
        refine Run.opG wantS_none (ex_shl' rfl rfl hj39) rfl ?_
        refine Run.opG wantS_none (ex_assign rfl) rfl ?_
        refine Run.opsEnd (Run.seq (Run.seq (Run.region ?_)))
        refine Run.opG wantS_none (ex_fieldAddr rfl off84_1) rfl ?_
        refine Run.opG wantS_none (ex_load1 rfl (hH35.cells (i := 1) rfl 1 rfl) rdLe_rfl agg82) rfl ?_
        refine Run.opG wantS_none (ex_move rfl) rfl ?_
        obtain ⟨x41, hx41, h⟩ := bnd_some h
        obtain ⟨p41, o41, _, hx41, hp41, ⟨q41_0, rfl, hq41_0⟩⟩ := sl_elem (P := Tryz.prog) (t := 82) (kk := .i64) hc22_1 hx41 els82
        refine Run.opG wantS_none (ex_elX rfl rfl hx41) rfl ?_
        refine Run.opG wantS_none (ex_load1 rfl (hH35.ptrF hp41) rdLe_rfl agg26) rfl ?_
        refine Run.opG wantS_none (ex_len' rfl hq41_0 lenk26) rfl ?_
        refine Run.opG wantS_none (ex_move rfl) rfl ?_
        refine Run.opsEnd (Run.block (Run.loop ?_))
        exact Run.pick [0, 3, 5, 8, 23, 24, 25, 47, 48, 49] (record_isFrame_4_ok F (record_isFrame_2 F N) ih F v0 v5 (w64 ((1 : Int) * 2 ^ (min j39 (IntKind.bits .i64)))) v23 v24 v25 x41 (x41.length : Int) (0 : Int) c22_0 c22_1 sv0 sv23 q41_0 sc22_1 b22 _ _ _ hv0 hv23 hq41_0 hc22_1 (hH35.pick [1] rfl rfl) h)
    · have h := bif_f hc29 h
      refine Run.condF' rfl hc29 ?_
      refine Run.exit rfl (Run.seq (Run.region ?_))
      exact Run.pick [0, 5] (record_isFrame_3_ok F v0 v5 sv0 _ _ _ hv0 (hH.pick [] rfl rfl) h)

def record_isFrame_1 (F : Nat) (v0 : (List S_api_Channel)) (v22 : Bool) (c22_0 : Int) (c22_1 : (List (List Int))) : Option (Bool) :=
  bif v22 then
    some false
  else
    record_isFrame_2 F F v0 (0 : Int) v0 (v0.length : Int) (0 : Int) c22_0 c22_1

theorem record_isFrame_1_ok (F : Nat) : ∀ (v0 : (List S_api_Channel)) (v22 : Bool) (c22_0 : Int) (c22_1 : (List (List Int))) (sv0 sc22_1 : SV) (b22 : Pos) (Fr : Rd) (M : Mem) (r : Bool) (hv0 : Slc Fr 3 (FlatR enc86) sv0 v0) (hc22_1 : Slc Fr 1 (rep26 Fr) sc22_1 c22_1) (hH : Has Fr M [.obj b22 (.row 84 .whole [(.int .i64 c22_0), sc22_1])]), record_isFrame_1 F v0 v22 c22_0 c22_1 = some r → Run Tryz.prog ⟨⟨112, [], none⟩, []⟩ 68 (record_isFrame_post r) [(0, sv0), (3, (.ptr b22 0)), (22, (.bool v22))] [codeC Tryz.prog 112 [1, 0, 0, 1], codeC Tryz.prog 112 [1, 0, 1], scopeC Tryz.prog 112 [1, 0]] M := by
  intro v0 v22 c22_0 c22_1 sv0 sc22_1 b22 Fr M r hv0 hc22_1 hH h
  rw [record_isFrame_1] at h
  rcases btf (v22) with hc28 | hc28
  · have h := bif_t hc28 h
    refine Run.condT' rfl hc28 ?_
    refine Run.seq (Run.region ?_)
    refine Run.opG wantS_none (ex_assign rfl) rfl ?_
    refine Run.opsEnd ?_
    cases h
    exact Run.ret Tryz.func112 rfl (res_tmp rfl res_nil) rfl
  · have h := bif_f hc28 h
    refine Run.condF' rfl hc28 ?_
    refine Run.skip (Run.seq (Run.region ?_))
    refine Run.opG wantS_none (ex_assign rfl) rfl ?_
    refine Run.opsEnd (Run.seq (Run.label (Run.seq (Run.seq (Run.region ?_)))))
    refine Run.opG wantS_none (ex_move rfl) rfl ?_
    refine Run.opG wantS_none (ex_len' rfl hv0 lenk67) rfl ?_
    refine Run.opG wantS_none (ex_move rfl) rfl ?_
    refine Run.opsEnd (Run.block (Run.loop ?_))
    exact Run.pick [0, 3, 5, 23, 24, 25] (record_isFrame_2_ok F F v0 (0 : Int) v0 (v0.length : Int) (0 : Int) c22_0 c22_1 sv0 sv0 sc22_1 b22 _ _ _ hv0 hv0 hc22_1 hH h)

def record_isFrame (F : Nat) (a0 : (List S_api_Channel)) (a1 : S_api_Frame) : Option (Bool) :=
  bnd (record_isFrom F (0 : Int) a1.Start (1073741824 : Int)) fun r25 =>
  bif (!r25) then
    record_isFrame_1 F a0 true a1.Start a1.Samples
  else
    record_isFrame_1 F a0 (!((a1.Samples.length : Int) == (a0.length : Int))) a1.Start a1.Samples

theorem record_isFrame_ok (F : Nat) (a0 : (List S_api_Channel)) (a1 : S_api_Frame) (s0 s1 : SV) (r : Bool) (M : Mem) (hs0 : Slc (rd M) 3 (FlatR enc86) s0 a0) (hs1 : Slc (rd M) 1 (rep26 (rd M)) s1 a1.Samples) (h : record_isFrame F a0 a1 = some r) : CallsM Tryz.prog 112 [s0, (.agg [(.int .i64 a1.Start), s1])] M (fun s M' => s = (.bool r) ∧ M' = M) := by
  refine CallsM.plain Tryz.func112 rfl rfl rfl (show Run _ _ _ (record_isFrame_post r) _ _ _ from ?_)
  rw [record_isFrame] at h
  replace hs0 := hs0.mono (rdLe_frozen M) (fun _ _ h => h)
  replace hs1 := hs1.mono (rdLe_frozen M) (fun _ _ => rep26_mo (rdLe_frozen M))
  have hH := Has.nil (frozen M)
  refine Run.seq (Run.region ?_)
  refine Run.opX wantS_none rfl (ExG.box rfl rfl hH) ?_
  rintro _ M23 ⟨b22, rfl, hH23⟩
  refine Run.opG wantS_none (ex_assign rfl) rfl ?_
  refine Run.opsEnd (Run.scope (Run.seq (Run.seq (Run.region ?_))))
  refine Run.opG wantS_none (ex_fieldAddr rfl off84_0) rfl ?_
  refine Run.opG wantS_none (ex_load1 rfl (hH23.cells (i := 0) rfl 0 rfl) rdLe_rfl agg3) rfl ?_
  obtain ⟨r25, hr25, h⟩ := bnd_some h
  refine Run.callP wantS_none (ex_call rfl mkk91 cal91) rfl (record_isFrom_ok F (0 : Int) a1.Start (1073741824 : Int) _ _ hr25) ?_
  refine Run.opG wantS_none (ex_not rfl) rfl ?_
  refine Run.opG wantS_none (ex_move rfl) rfl ?_
  rcases btf ((!r25)) with hc27 | hc27
  · have h := bif_t hc27 h
    refine Run.no (wantS_not' rfl rfl hc27) rfl ?_
    refine Run.no (wantS_not' rfl rfl hc27) rfl ?_
    refine Run.no (wantS_not' rfl rfl hc27) rfl ?_
    refine Run.no (wantS_not' rfl rfl hc27) rfl ?_
    refine Run.no (wantS_not' rfl rfl hc27) rfl ?_
    refine Run.no (wantS_not' rfl rfl hc27) rfl ?_
    refine Run.opG wantS_none (ex_pickT' rfl hc27 rfl rfl) rfl ?_
    refine Run.opsEnd ?_
    exact Run.pick [0, 3, 22] (record_isFrame_1_ok F a0 true a1.Start a1.Samples s0 s1 b22 _ _ _ hs0 hs1 hH23 h)
  · have h := bif_f hc27 h
    refine Run.opG (wantS_yes' rfl rfl hc27) (ex_fieldAddr rfl off84_1) rfl ?_
    refine Run.opG (wantS_yes' rfl rfl hc27) (ex_load1 rfl (hH23.cells (i := 0) rfl 1 rfl) rdLe_rfl agg82) rfl ?_
    refine Run.opG (wantS_yes' rfl rfl hc27) (ex_len' rfl hs1 lenk82) rfl ?_
    refine Run.opG (wantS_yes' rfl rfl hc27) (ex_move rfl) rfl ?_
    refine Run.opG (wantS_yes' rfl rfl hc27) (ex_len' rfl hs0 lenk67) rfl ?_
    refine Run.opG (wantS_yes' rfl rfl hc27) (ex_neq rfl rfl) rfl ?_
    refine Run.opG wantS_none (ex_pickF' rfl hc27 rfl rfl) rfl ?_
    refine Run.opsEnd ?_
    exact Run.pick [0, 3, 22] (record_isFrame_1_ok F a0 (!((a1.Samples.length : Int) == (a0.length : Int))) a1.Start a1.Samples s0 s1 b22 _ _ _ hs0 hs1 hH23 h)

theorem mkk112 : makeK Tryz.prog 112 = none := by kernel_rfl
theorem cal112 : callable Tryz.prog 112 = true := by kernel_rfl
theorem plan115_1_0_1_0_0_1_0_0_0 : planOf Tryz.prog (opsC (atC Tryz.prog 115 [1, 0, 1, 0, 0, 1, 0, 0, 0])) = some [.fl 0, .fl 1, .fl 2, .fl 3, .fl 4, .fl 5, .fl 6, .fl 7, .fl 8, .fl 9, .fl 10, .fl 11, .sync] := by kernel_rfl
abbrev record_areInOrder_post (r : Bool) : SV → Mem → Prop := fun s _ => s = (.bool r)

def record_areInOrder_1 (F : Nat) : Nat → (List S_api_Frame) → Int → Option (Bool)
  | 0, _, _ => none
  | N + 1, v0, v3 =>
    bif (decide (v3 < (v0.length : Int))) then
      bnd (idx v0 (w64 (v3 - (1 : Int)))) fun x22 =>
      bnd (idx v0 v3) fun x24 =>
      bif (decide (x24.Start ≤ x22.Start)) then
        some false
      else
        (record_areInOrder_1 F N) v0 (w64 (v3 + (1 : Int)))
    else
      some true

theorem record_areInOrder_1_ok (F : Nat) : ∀ (N : Nat), ∀ (v0 : (List S_api_Frame)) (v3 : Int) (sv0 : SV) (Fr : Rd) (M : Mem) (r : Bool) (hv0 : Slc Fr 2 (rep84 Fr) sv0 v0) (hH : Has Fr M []), record_areInOrder_1 F N v0 v3 = some r → Run Tryz.prog ⟨⟨115, [], none⟩, []⟩ 22 (record_areInOrder_post r) [(0, sv0), (3, (.int .i64 v3))] [codeC Tryz.prog 115 [1, 0, 1, 0, 0], loopC Tryz.prog 115 [1, 0, 1, 0, 0], .inBlock 0, codeC Tryz.prog 115 [1, 1]] M := by
  intro N
  induction N with
  | zero =>
    intro v0 v3 sv0 Fr M r hv0 hH h
    simp [record_areInOrder_1] at h
  | succ N ih =>
    intro v0 v3 sv0 Fr M r hv0 hH h
    rw [record_areInOrder_1] at h
    refine Run.seq (Run.seq (Run.region ?_))
    refine Run.opG wantS_none (ex_move rfl) rfl ?_
    refine Run.opG wantS_none (ex_move rfl) rfl ?_
    refine Run.opG wantS_none (ex_len' rfl hv0 lenk68) rfl ?_
    refine Run.opG wantS_none (ex_lss rfl rfl) rfl ?_
    refine Run.opsEnd ?_
    rcases btf ((decide (v3 < (v0.length : Int)))) with hc21 | hc21
    · have h := bif_t hc21 h
      refine Run.condT' rfl hc21 ?_
      refine Run.skip (Run.seq (Run.block (Run.seq ?_)))
      refine Run.drawG plan115_1_0_1_0_0_1_0_0_0 ?_
      refine DrawG.fl rfl (ev_ex wantS_none (ex_move rfl)) rfl ?_
      refine DrawG.fl rfl (ev_ex wantS_none (ex_move rfl)) rfl ?_
      refine DrawG.fl rfl (ev_ex wantS_none (ex_sub rfl rfl)) rfl ?_
      obtain ⟨x22, hx22, h⟩ := bnd_some h
      obtain ⟨p22, o22, _, hx22, hp22, ⟨q22_0, rfl, hq22_0⟩⟩ := sl_elem (P := Tryz.prog) (t := 68) (kk := .i64) hv0 hx22 els68
      refine DrawG.fl rfl (ev_ex wantS_none (ex_elX rfl rfl hx22)) rfl ?_
      have hp23 := (hp22.fld (o := 0) rfl)
      refine DrawG.fl rfl (ev_ex wantS_none (ex_fieldAddr rfl off84_0)) rfl ?_
      refine DrawG.fl rfl (ev_ex wantS_none (ex_load1 rfl (hH.ptrF hp23) rdLe_rfl agg3)) rfl ?_
      refine DrawG.fl rfl (ev_ex wantS_none (ex_move rfl)) rfl ?_
      refine DrawG.fl rfl (ev_ex wantS_none (ex_move rfl)) rfl ?_
      obtain ⟨x24, hx24, h⟩ := bnd_some h
      obtain ⟨p24, o24, _, hx24, hp24, ⟨q24_0, rfl, hq24_0⟩⟩ := sl_elem (P := Tryz.prog) (t := 68) (kk := .i64) hv0 hx24 els68
      refine DrawG.fl rfl (ev_ex wantS_none (ex_elX rfl rfl hx24)) rfl ?_
      have hp25 := (hp24.fld (o := 0) rfl)
      refine DrawG.fl rfl (ev_ex wantS_none (ex_fieldAddr rfl off84_0)) rfl ?_
      refine DrawG.fl rfl (ev_ex wantS_none (ex_load1 rfl (hH.ptrF hp25) rdLe_rfl agg3)) rfl ?_
      refine DrawG.fl rfl (ev_ex wantS_none (ex_geq rfl rfl)) rfl ?_
      refine DrawG.sync ?_
      refine DrawG.nil ?_
      rcases btf ((decide (x24.Start ≤ x22.Start))) with hc26 | hc26
      · have h := bif_t hc26 h
        refine Run.condT' rfl hc26 ?_
        refine Run.seq (Run.region ?_)
        refine Run.opG wantS_none (ex_assign rfl) rfl ?_
        refine Run.opsEnd ?_
        cases h
        exact Run.ret Tryz.func115 rfl (res_tmp rfl res_nil) rfl
      · have h := bif_f hc26 h
        refine Run.condF' rfl hc26 ?_
        refine Run.skip (Run.inBlock (Run.region ?_))
        refine Run.opG wantS_none (ex_move rfl) rfl ?_
        refine Run.opG wantS_none (ex_add rfl rfl) rfl ?_
        refine Run.opG wantS_none (ex_assign rfl) rfl ?_
        refine Run.opsEnd (Run.inLoop ?_)
        exact Run.pick [0, 3] (ih v0 (w64 (v3 + (1 : Int))) sv0 _ _ _ hv0 hH h)
    · have h := bif_f hc21 h
      refine Run.condF' rfl hc21 ?_
      refine Run.exit rfl (Run.seq (Run.region ?_))
      refine Run.opG wantS_none (ex_assign rfl) rfl ?_
      refine Run.opsEnd ?_
      cases h
      exact Run.ret Tryz.func115 rfl (res_tmp rfl res_nil) rfl

def record_areInOrder (F : Nat) (a0 : (List S_api_Frame)) : Option (Bool) :=
  record_areInOrder_1 F F a0 (1 : Int)

theorem record_areInOrder_ok (F : Nat) (a0 : (List S_api_Frame)) (s0 : SV) (r : Bool) (M : Mem) (hs0 : Slc (rd M) 2 (rep84 (rd M)) s0 a0) (h : record_areInOrder F a0 = some r) : CallsM Tryz.prog 115 [s0] M (fun s M' => s = (.bool r) ∧ M' = M) := by
  refine CallsM.plain Tryz.func115 rfl rfl rfl (show Run _ _ _ (record_areInOrder_post r) _ _ _ from ?_)
  rw [record_areInOrder] at h
  replace hs0 := hs0.mono (rdLe_frozen M) (fun _ _ => rep84_mo (rdLe_frozen M))
  have hH := Has.nil (frozen M)
  refine Run.seq (Run.region ?_)
  refine Run.opG wantS_none (ex_assign rfl) rfl ?_
  refine Run.opsEnd (Run.seq (Run.seq (Run.region ?_)))
  refine Run.opG wantS_none (ex_assign rfl) rfl ?_
  refine Run.opsEnd (Run.block (Run.loop ?_))
  exact Run.pick [0, 3] (record_areInOrder_1_ok F F a0 (1 : Int) s0 _ _ _ hs0 hH h)

theorem mkk115 : makeK Tryz.prog 115 = none := by kernel_rfl
theorem cal115 : callable Tryz.prog 115 = true := by kernel_rfl
abbrev record_CheckRecord_post (r : Int) : SV → Mem → Prop := fun s _ => s = (.int .i64 r)

def record_CheckRecord_1 (F : Nat) : Nat → (List S_api_Frame) → Int → Int → (List S_api_Frame) → (List S_api_Channel) → Option (Int)
  | 0, _, _, _, _, _ => none
  | N + 1, v0, v7, v8, v1_f2, c22_0 =>
    bif (decide (v8 < v7)) then
      bnd (idx v0 v8) fun x31 =>
      bnd (record_isFrame F c22_0 x31) fun r36 =>
      bif (!r36) then
        bif (decide ((0 : Int) ≤ v8)) then
          some (51 : Int)
        else
          bnd (record_areInOrder F v1_f2) fun r41 =>
          bif (!r41) then
            some (52 : Int)
          else
            some (0 : Int)
      else
        (record_CheckRecord_1 F N) v0 v7 (w64 (v8 + (1 : Int))) v1_f2 c22_0
    else
      bif (decide ((0 : Int) ≤ ((-1) : Int))) then
        some (51 : Int)
      else
        bnd (record_areInOrder F v1_f2) fun r46 =>
        bif (!r46) then
          some (52 : Int)
        else
          some (0 : Int)

theorem record_CheckRecord_1_ok (F : Nat) : ∀ (N : Nat), ∀ (v0 : (List S_api_Frame)) (v7 v8 : Int) (v1_f2 : (List S_api_Frame)) (c22_0 : (List S_api_Channel)) (sv0 sv1_f2 sc22_0 : SV) (b22 : Pos) (Fr : Rd) (M : Mem) (r : Int) (hv0 : Slc Fr 2 (rep84 Fr) sv0 v0) (hv1_f2 : Slc Fr 2 (rep84 Fr) sv1_f2 v1_f2) (hc22_0 : Slc Fr 3 (FlatR enc86) sc22_0 c22_0) (hH : Has Fr M [.obj b22 (.row 67 .whole [sc22_0])]), record_CheckRecord_1 F N v0 v7 v8 v1_f2 c22_0 = some r → Run Tryz.prog ⟨⟨141, [], none⟩, [.mk ⟨114, [], none⟩ 9 (treeOf []) [itemC Tryz.prog 114 [1, 0] 2, codeC Tryz.prog 114 [1, 1]], .mk ⟨83, [], none⟩ 23 (treeOf [(1, sv1_f2)]) [itemC Tryz.prog 83 [1, 1, 0, 0, 1, 1, 1, 1, 0] 2, codeC Tryz.prog 83 [1, 1, 0, 0, 1, 1, 1, 1, 1], .inBlock 0, codeC Tryz.prog 83 [1, 1, 1]]]⟩ 19 (record_CheckRecord_post r) [(0, sv0), (1, (.fn (.func 111) [] [(.ptr b22 0)])), (7, (.int .i64 v7)), (8, (.int .i64 v8))] [codeC Tryz.prog 141 [1, 0, 1, 0, 0], loopC Tryz.prog 141 [1, 0, 1, 0, 0], .inBlock 0, codeC Tryz.prog 141 [1, 1]] M := by
  intro N
  induction N with
  | zero =>
    intro v0 v7 v8 v1_f2 c22_0 sv0 sv1_f2 sc22_0 b22 Fr M r hv0 hv1_f2 hc22_0 hH h
    simp [record_CheckRecord_1] at h
  | succ N ih =>
    intro v0 v7 v8 v1_f2 c22_0 sv0 sv1_f2 sc22_0 b22 Fr M r hv0 hv1_f2 hc22_0 hH h
    rw [record_CheckRecord_1] at h
    refine Run.seq (Run.region ?_)
    refine Run.opG wantS_none (ex_lss rfl rfl) rfl ?_
    refine Run.opsEnd (Run.seq ?_)
    rcases btf ((decide (v8 < v7))) with hc29 | hc29
    · have h := bif_t hc29 h
      refine Run.condT' rfl hc29 ?_
      refine Run.skip (Run.seq (Run.block (Run.seq (Run.region ?_))))
      refine Run.opG wantS_none (ex_move rfl) rfl ?_
      refine Run.opG wantS_none (ex_assign rfl) rfl ?_
      refine Run.opsEnd (Run.seq (Run.region ?_))
      refine Run.opG wantS_none (ex_move rfl) rfl ?_
      refine Run.opG wantS_none (ex_move rfl) rfl ?_
      refine Run.opG wantS_none (ex_move rfl) rfl ?_
      obtain ⟨x31, hx31, h⟩ := bnd_some h
      obtain ⟨p31, o31, _, hx31, hp31, ⟨q31_0, rfl, hq31_0⟩⟩ := sl_elem (P := Tryz.prog) (t := 68) (kk := .i64) hv0 hx31 els68
      refine Run.opG wantS_none (ex_elX rfl rfl hx31) rfl ?_
      refine Run.opG wantS_none (ex_loadA rfl (hH.ptrF hp31) rdLe_rfl agg84 rfl rfl rfl) rfl ?_
      refine Run.enter wantS_none (ex_closure rfl rfl mkk111 cal111) Tryz.func111 rfl rfl ?_
      refine Run.seq (Run.region ?_)
      refine Run.opX wantS_none rfl (ExG.box rfl rfl hH) ?_
      rintro _ M34 ⟨b33, rfl, hH34⟩
      refine Run.opG wantS_none (ex_assign rfl) rfl ?_
      refine Run.opsEnd (Run.seq (Run.region ?_))
      refine Run.opG wantS_none (ex_load1 rfl (hH34.cells (i := 1) rfl 0 rfl) rdLe_rfl agg67) rfl ?_
      refine Run.opG wantS_none (ex_loadA rfl (hH34.cells (i := 0) rfl 0 rfl) rdLe_rfl agg84 rfl rfl rfl) rfl ?_
      obtain ⟨r36, hr36, h⟩ := bnd_some h
      refine Run.callP wantS_none (ex_call rfl mkk112 cal112) rfl (record_isFrame_ok F c22_0 x31 sc22_0 q31_0 _ _ (hH34.slcF hc22_0) ((hq31_0).mono hH34.le (fun _ _ => rep26_mo hH34.le)) hr36) ?_
      refine Run.opG wantS_none (ex_not rfl) rfl ?_
      refine Run.opG wantS_none (ex_assign rfl) rfl ?_
      refine Run.opsEnd ?_
      refine Run.retTo Tryz.func111 rfl (res_tmp rfl res_nil) rfl ?_
      refine Run.opsEnd ?_
      rcases btf ((!r36)) with hc38 | hc38
      · have h := bif_t hc38 h
        refine Run.condT' rfl hc38 ?_
        refine Run.seq (Run.region ?_)
        refine Run.opG wantS_none (ex_move rfl) rfl ?_
        refine Run.opG wantS_none (ex_assign rfl) rfl ?_
        refine Run.opsEnd ?_
        refine Run.retTo Tryz.func141 rfl (res_tmp rfl res_nil) rfl ?_
        refine Run.opG wantS_none (ex_geq rfl rfl) rfl ?_
        refine Run.opG wantS_none (ex_assign rfl) rfl ?_
        refine Run.opsEnd ?_
        refine Run.retTo Tryz.func114 rfl (res_tmp rfl res_nil) rfl ?_
        refine Run.opG wantS_none (ex_assign rfl) rfl ?_
        refine Run.opsEnd ?_
        rcases btf ((decide ((0 : Int) ≤ v8))) with hc39 | hc39
        · have h := bif_t hc39 h
          refine Run.condT' rfl hc39 ?_
          refine Run.seq (Run.region ?_)
          refine Run.opG wantS_none (ex_assign rfl) rfl ?_
          refine Run.opsEnd ?_
          cases h
          exact Run.ret Tryz.func83 rfl (res_tmp rfl res_nil) rfl
        · have h := bif_f hc39 h
          refine Run.condF' rfl hc39 ?_
          refine Run.seq (Run.region ?_)
          refine Run.opG wantS_none (ex_move rfl) rfl ?_
          obtain ⟨r41, hr41, h⟩ := bnd_some h
          refine Run.callP wantS_none (ex_call rfl mkk115 cal115) rfl (record_areInOrder_ok F v1_f2 sv1_f2 _ _ ((hv1_f2).mono hH34.le (fun _ _ => rep84_mo hH34.le)) hr41) ?_
          refine Run.opG wantS_none (ex_not rfl) rfl ?_
          refine Run.opG wantS_none (ex_assign rfl) rfl ?_
          refine Run.opsEnd ?_
          rcases btf ((!r41)) with hc43 | hc43
          · have h := bif_t hc43 h
            refine Run.condT' rfl hc43 ?_
            refine Run.seq (Run.region ?_)
            refine Run.opG wantS_none (ex_assign rfl) rfl ?_
            refine Run.opsEnd ?_
            cases h
            exact Run.ret Tryz.func83 rfl (res_tmp rfl res_nil) rfl
          · have h := bif_f hc43 h
            refine Run.condF' rfl hc43 ?_
            refine Run.skip (Run.inBlock (Run.seq (Run.region ?_)))
            refine Run.opG wantS_none (ex_assign rfl) rfl ?_
            refine Run.opsEnd ?_
            cases h
            exact Run.ret Tryz.func83 rfl (res_tmp rfl res_nil) rfl
      · have h := bif_f hc38 h
        refine Run.condF' rfl hc38 ?_
        refine Run.skip (Run.inBlock (Run.region ?_))
        refine Run.opG wantS_none (ex_add rfl rfl) rfl ?_
        refine Run.opG wantS_none (ex_move rfl) rfl ?_
        refine Run.opsEnd (Run.inLoop ?_)
        exact Run.low (.cons (fle_pick [] rfl) (.cons (fle_pick [1] rfl) .nil)) (Run.pick [0, 1, 7, 8] (ih v0 v7 (w64 (v8 + (1 : Int))) v1_f2 c22_0 sv0 sv1_f2 sc22_0 b22 _ _ _ hv0 hv1_f2 hc22_0 (hH34.pick [1] rfl rfl) h))
    · have h := bif_f hc29 h
      refine Run.condF' rfl hc29 ?_
      refine Run.exit rfl (Run.seq (Run.region ?_))
      refine Run.opG wantS_none (ex_assign rfl) rfl ?_
      refine Run.opsEnd ?_
      refine Run.retTo Tryz.func141 rfl (res_tmp rfl res_nil) rfl ?_
      refine Run.opG wantS_none (ex_geq rfl rfl) rfl ?_
      refine Run.opG wantS_none (ex_assign rfl) rfl ?_
      refine Run.opsEnd ?_
      refine Run.retTo Tryz.func114 rfl (res_tmp rfl res_nil) rfl ?_
      refine Run.opG wantS_none (ex_assign rfl) rfl ?_
      refine Run.opsEnd ?_
      rcases btf ((decide ((0 : Int) ≤ ((-1) : Int)))) with hc44 | hc44
      · have h := bif_t hc44 h
        refine Run.condT' rfl hc44 ?_
        refine Run.seq (Run.region ?_)
        refine Run.opG wantS_none (ex_assign rfl) rfl ?_
        refine Run.opsEnd ?_
        cases h
        exact Run.ret Tryz.func83 rfl (res_tmp rfl res_nil) rfl
      · have h := bif_f hc44 h
        refine Run.condF' rfl hc44 ?_
        refine Run.seq (Run.region ?_)
        refine Run.opG wantS_none (ex_move rfl) rfl ?_
        obtain ⟨r46, hr46, h⟩ := bnd_some h
        refine Run.callP wantS_none (ex_call rfl mkk115 cal115) rfl (record_areInOrder_ok F v1_f2 sv1_f2 _ _ ((hv1_f2).mono hH.le (fun _ _ => rep84_mo hH.le)) hr46) ?_
        refine Run.opG wantS_none (ex_not rfl) rfl ?_
        refine Run.opG wantS_none (ex_assign rfl) rfl ?_
        refine Run.opsEnd ?_
        rcases btf ((!r46)) with hc48 | hc48
        · have h := bif_t hc48 h
          refine Run.condT' rfl hc48 ?_
          refine Run.seq (Run.region ?_)
          refine Run.opG wantS_none (ex_assign rfl) rfl ?_
          refine Run.opsEnd ?_
          cases h
          exact Run.ret Tryz.func83 rfl (res_tmp rfl res_nil) rfl
        · have h := bif_f hc48 h
          refine Run.condF' rfl hc48 ?_
          refine Run.skip (Run.inBlock (Run.seq (Run.region ?_)))
          refine Run.opG wantS_none (ex_assign rfl) rfl ?_
          refine Run.opsEnd ?_
          cases h
          exact Run.ret Tryz.func83 rfl (res_tmp rfl res_nil) rfl

def record_CheckRecord (F : Nat) (a0 : (List S_api_Channel)) (a1 : (List S_api_Frame)) : Option (Int) :=
  bnd (record_isBook F a0) fun r25 =>
  bif (!r25) then
    some (50 : Int)
  else
    bif (decide ((64 : Int) < (a1.length : Int))) then
      some (3 : Int)
    else
      record_CheckRecord_1 F F a1 (a1.length : Int) (0 : Int) a1 a0

theorem record_CheckRecord_ok (F : Nat) (a0 : (List S_api_Channel)) (a1 : (List S_api_Frame)) (s0 s1 : SV) (r : Int) (M : Mem) (hs0 : Slc (rd M) 3 (FlatR enc86) s0 a0) (hs1 : Slc (rd M) 2 (rep84 (rd M)) s1 a1) (h : record_CheckRecord F a0 a1 = some r) : CallsM Tryz.prog 83 [s0, s1] M (fun s M' => s = (.int .i64 r) ∧ M' = M) := by
  refine CallsM.plain Tryz.func83 rfl rfl rfl (show Run _ _ _ (record_CheckRecord_post r) _ _ _ from ?_)
  rw [record_CheckRecord] at h
  replace hs0 := hs0.mono (rdLe_frozen M) (fun _ _ h => h)
  replace hs1 := hs1.mono (rdLe_frozen M) (fun _ _ => rep84_mo (rdLe_frozen M))
  have hH := Has.nil (frozen M)
  refine Run.seq (Run.region ?_)
  refine Run.opX wantS_none rfl (ExG.box rfl (cells_one (slc_one hs0)) hH) ?_
  rintro _ M23 ⟨b22, rfl, hH23⟩
  refine Run.opG wantS_none (ex_assign rfl) rfl ?_
  refine Run.opsEnd (Run.seq (Run.region ?_))
  refine Run.opG wantS_none (ex_makeFunc rfl rfl) rfl ?_
  refine Run.opG wantS_none (ex_assign rfl) rfl ?_
  refine Run.opsEnd (Run.seq (Run.block (Run.seq (Run.region ?_))))
  refine Run.opG wantS_none (ex_load1 rfl (hH23.cells (i := 0) rfl 0 rfl) rdLe_rfl agg67) rfl ?_
  obtain ⟨r25, hr25, h⟩ := bnd_some h
  refine Run.callP wantS_none (ex_call rfl mkk113 cal113) rfl (record_isBook_ok F a0 s0 _ _ (hH23.slcF hs0) hr25) ?_
  refine Run.opG wantS_none (ex_not rfl) rfl ?_
  refine Run.opG wantS_none (ex_assign rfl) rfl ?_
  refine Run.opsEnd ?_
  rcases btf ((!r25)) with hc27 | hc27
  · have h := bif_t hc27 h
    refine Run.condT' rfl hc27 ?_
    refine Run.seq (Run.region ?_)
    refine Run.opG wantS_none (ex_assign rfl) rfl ?_
    refine Run.opsEnd ?_
    cases h
    exact Run.ret Tryz.func83 rfl (res_tmp rfl res_nil) rfl
  · have h := bif_f hc27 h
    refine Run.condF' rfl hc27 ?_
    refine Run.seq (Run.region ?_)
    refine Run.opG wantS_none (ex_move rfl) rfl ?_
    refine Run.opG wantS_none (ex_len' rfl hs1 lenk68) rfl ?_
    refine Run.opG wantS_none (ex_gtr rfl rfl) rfl ?_
    refine Run.opG wantS_none (ex_assign rfl) rfl ?_
    refine Run.opsEnd ?_
    rcases btf ((decide ((64 : Int) < (a1.length : Int)))) with hc28 | hc28
    · have h := bif_t hc28 h
      refine Run.condT' rfl hc28 ?_
      refine Run.seq (Run.region ?_)
      refine Run.opG wantS_none (ex_assign rfl) rfl ?_
      refine Run.opsEnd ?_
      cases h
      exact Run.ret Tryz.func83 rfl (res_tmp rfl res_nil) rfl
    · have h := bif_f hc28 h
      refine Run.condF' rfl hc28 ?_
      refine Run.seq (Run.region ?_)
      refine Run.opG wantS_none (ex_move rfl) rfl ?_
      refine Run.opG wantS_none (ex_move rfl) rfl ?_
      refine Run.enter wantS_none (ex_call rfl mkk114 cal114) Tryz.func114 rfl rfl ?_
      refine Run.seq (Run.region ?_)
      refine Run.opG wantS_none (ex_assign rfl) rfl ?_
      refine Run.opsEnd (Run.seq (Run.region ?_))
      refine Run.opG wantS_none (ex_move rfl) rfl ?_
      refine Run.opG wantS_none (ex_move rfl) rfl ?_
      refine Run.enter wantS_none (ex_call rfl mkk141 cal141) Tryz.func141 rfl rfl ?_
      refine Run.seq (Run.region ?_)
      refine Run.opG wantS_none (ex_assign rfl) rfl ?_
      refine Run.opsEnd (Run.seq (Run.seq (Run.region ?_)))
      refine Run.opG wantS_none (ex_move rfl) rfl ?_
      refine Run.opG wantS_none (ex_len' rfl hs1 lenk68) rfl ?_
      refine Run.opG wantS_none (ex_move rfl) rfl ?_
      refine Run.opsEnd (Run.block (Run.loop ?_))
      exact Run.low (.cons (fle_pick [] rfl) (.cons (fle_pick [1] rfl) .nil)) (Run.pick [0, 1, 7, 8] (record_CheckRecord_1_ok F F a1 (a1.length : Int) (0 : Int) a1 a0 s1 s1 s0 b22 _ _ _ hs1 hs1 hs0 hH23 h))

theorem mkk83 : makeK Tryz.prog 83 = none := by kernel_rfl
theorem cal83 : callable Tryz.prog 83 = true := by kernel_rfl
abbrev record_checkSeconds_post (r : Int) : SV → Mem → Prop := fun s _ => s = (.int .i64 r)

def record_checkSeconds_2 (F : Nat) (v28 : Bool) : Option (Int) :=
  bif (!v28) then
    some (8 : Int)
  else
    some (0 : Int)

theorem record_checkSeconds_2_ok (F : Nat) : ∀ (v28 : Bool) (Fr : Rd) (M : Mem) (r : Int) (hH : Has Fr M []), record_checkSeconds_2 F v28 = some r → Run Tryz.prog ⟨⟨54, [], none⟩, []⟩ 30 (record_checkSeconds_post r) [(28, (.bool v28))] [itemC Tryz.prog 54 [1, 0, 1, 0, 1, 1, 0] 11, codeC Tryz.prog 54 [1, 0, 1, 0, 1, 1, 1], .inBlock 0, codeC Tryz.prog 54 [1, 1]] M := by
  intro v28 Fr M r hH h
  rw [record_checkSeconds_2] at h
  refine Run.opG wantS_none (ex_not rfl) rfl ?_
  refine Run.opG wantS_none (ex_assign rfl) rfl ?_
  refine Run.opsEnd ?_
  rcases btf ((!v28)) with hc27 | hc27
  · have h := bif_t hc27 h
    refine Run.condT' rfl hc27 ?_
    refine Run.seq (Run.region ?_)
    refine Run.opG wantS_none (ex_assign rfl) rfl ?_
    refine Run.opsEnd ?_
    cases h
    exact Run.ret Tryz.func54 rfl (res_tmp rfl res_nil) rfl
  · have h := bif_f hc27 h
    refine Run.condF' rfl hc27 ?_
    refine Run.skip (Run.inBlock (Run.seq (Run.region ?_)))
    refine Run.opG wantS_none (ex_assign rfl) rfl ?_
    refine Run.opsEnd ?_
    cases h
    exact Run.ret Tryz.func54 rfl (res_tmp rfl res_nil) rfl

def record_checkSeconds_1 (F : Nat) (v3 : Int) (v24 : Bool) : Option (Int) :=
  bif v24 then
    record_checkSeconds_2 F (decide (v3 ≤ (1073741824 : Int)))
  else
    record_checkSeconds_2 F false

theorem record_checkSeconds_1_ok (F : Nat) : ∀ (v3 : Int) (v24 : Bool) (Fr : Rd) (M : Mem) (r : Int) (hH : Has Fr M []), record_checkSeconds_1 F v3 v24 = some r → Run Tryz.prog ⟨⟨54, [], none⟩, []⟩ 30 (record_checkSeconds_post r) [(3, (.int .i64 v3)), (24, (.bool v24))] [itemC Tryz.prog 54 [1, 0, 1, 0, 1, 1, 0] 7, codeC Tryz.prog 54 [1, 0, 1, 0, 1, 1, 1], .inBlock 0, codeC Tryz.prog 54 [1, 1]] M := by
  intro v3 v24 Fr M r hH h
  rw [record_checkSeconds_1] at h
  refine Run.opG wantS_none (ex_move rfl) rfl ?_
  rcases btf (v24) with hc26 | hc26
  · have h := bif_t hc26 h
    refine Run.opG (wantS_yes' rfl rfl hc26) (ex_move rfl) rfl ?_
    refine Run.opG (wantS_yes' rfl rfl hc26) (ex_leq rfl rfl) rfl ?_
    refine Run.opG wantS_none (ex_pickT' rfl hc26 rfl rfl) rfl ?_
    exact Run.pick [28] (record_checkSeconds_2_ok F (decide (v3 ≤ (1073741824 : Int))) _ _ _ hH h)
  · have h := bif_f hc26 h
    refine Run.no (wantS_not' rfl rfl hc26) rfl ?_
    refine Run.no (wantS_not' rfl rfl hc26) rfl ?_
    refine Run.opG wantS_none (ex_pickF' rfl hc26 rfl rfl) rfl ?_
    exact Run.pick [28] (record_checkSeconds_2_ok F false _ _ _ hH h)

def record_checkSeconds (F : Nat) (a0 : (List S_api_Channel)) (a1 : (List S_api_Frame)) (a2 a3 : Int) : Option (Int) :=
  bnd (record_CheckRecord F a0 a1) fun r22 =>
  bif (!(r22 == (0 : Int))) then
    some r22
  else
    bif (decide ((0 : Int) ≤ a2)) then
      record_checkSeconds_1 F a3 (decide (a2 ≤ a3))
    else
      record_checkSeconds_1 F a3 false

theorem record_checkSeconds_ok (F : Nat) (a0 : (List S_api_Channel)) (a1 : (List S_api_Frame)) (a2 a3 : Int) (s0 s1 : SV) (r : Int) (M : Mem) (hs0 : Slc (rd M) 3 (FlatR enc86) s0 a0) (hs1 : Slc (rd M) 2 (rep84 (rd M)) s1 a1) (h : record_checkSeconds F a0 a1 a2 a3 = some r) : CallsM Tryz.prog 54 [s0, s1, (.int .i64 a2), (.int .i64 a3)] M (fun s M' => s = (.int .i64 r) ∧ M' = M) := by
  refine CallsM.plain Tryz.func54 rfl rfl rfl (show Run _ _ _ (record_checkSeconds_post r) _ _ _ from ?_)
  rw [record_checkSeconds] at h
  replace hs0 := hs0.mono (rdLe_frozen M) (fun _ _ h => h)
  replace hs1 := hs1.mono (rdLe_frozen M) (fun _ _ => rep84_mo (rdLe_frozen M))
  have hH := Has.nil (frozen M)
  refine Run.seq (Run.region ?_)
  refine Run.opG wantS_none (ex_assign rfl) rfl ?_
  refine Run.opsEnd (Run.seq (Run.seq (Run.region ?_)))
  refine Run.opG wantS_none (ex_move rfl) rfl ?_
  refine Run.opG wantS_none (ex_move rfl) rfl ?_
  obtain ⟨r22, hr22, h⟩ := bnd_some h
  refine Run.callP wantS_none (ex_call rfl mkk83 cal83) rfl (record_CheckRecord_ok F a0 a1 s0 s1 _ _ (hH.slcF hs0) ((hs1).mono hH.le (fun _ _ => rep84_mo hH.le)) hr22) ?_
  refine Run.opG wantS_none (ex_assign rfl) rfl ?_
  refine Run.opsEnd (Run.block (Run.seq (Run.region ?_)))
  refine Run.opG wantS_none (ex_move rfl) rfl ?_
  refine Run.opG wantS_none (ex_neq rfl rfl) rfl ?_
  refine Run.opG wantS_none (ex_assign rfl) rfl ?_
  refine Run.opsEnd ?_
  rcases btf ((!(r22 == (0 : Int)))) with hc24 | hc24
  · have h := bif_t hc24 h
    refine Run.condT' rfl hc24 ?_
    refine Run.seq (Run.region ?_)
    refine Run.opG wantS_none (ex_move rfl) rfl ?_
    refine Run.opG wantS_none (ex_assign rfl) rfl ?_
    refine Run.opsEnd ?_
    cases h
    exact Run.ret Tryz.func54 rfl (res_tmp rfl res_nil) rfl
  · have h := bif_f hc24 h
    refine Run.condF' rfl hc24 ?_
    refine Run.seq (Run.region ?_)
    refine Run.opG wantS_none (ex_move rfl) rfl ?_
    refine Run.opG wantS_none (ex_leq rfl rfl) rfl ?_
    refine Run.opG wantS_none (ex_move rfl) rfl ?_
    rcases btf ((decide ((0 : Int) ≤ a2))) with hc25 | hc25
    · have h := bif_t hc25 h
      refine Run.opG (wantS_yes' rfl rfl hc25) (ex_move rfl) rfl ?_
      refine Run.opG (wantS_yes' rfl rfl hc25) (ex_move rfl) rfl ?_
      refine Run.opG (wantS_yes' rfl rfl hc25) (ex_leq rfl rfl) rfl ?_
      refine Run.opG wantS_none (ex_pickT' rfl hc25 rfl rfl) rfl ?_
      exact Run.pick [3, 24] (record_checkSeconds_1_ok F a3 (decide (a2 ≤ a3)) _ _ _ hH h)
    · have h := bif_f hc25 h
      refine Run.no (wantS_not' rfl rfl hc25) rfl ?_
      refine Run.no (wantS_not' rfl rfl hc25) rfl ?_
      refine Run.no (wantS_not' rfl rfl hc25) rfl ?_
      refine Run.opG wantS_none (ex_pickF' rfl hc25 rfl rfl) rfl ?_
      exact Run.pick [3, 24] (record_checkSeconds_1_ok F a3 false _ _ _ hH h)

theorem mkk54 : makeK Tryz.prog 54 = none := by kernel_rfl
theorem cal54 : callable Tryz.prog 54 = true := by kernel_rfl
theorem zer71 : zerosOf Tryz.prog 71 = some [.nils] := by kernel_rfl
theorem mkk84 : makeK Tryz.prog 84 = none := by kernel_rfl
theorem cal84 : callable Tryz.prog 84 = true := by kernel_rfl
theorem zer84 : zerosOf Tryz.prog 84 = some [(.int .i64 0), .nils] := by kernel_rfl
theorem sz84 : szOf Tryz.prog 84 = some 2 := by kernel_rfl
theorem zer81 : zerosOf Tryz.prog 81 = some [(.int .i64 0), (.int .i64 0)] := by kernel_rfl
theorem pls81 : placesOf Tryz.prog 81 = some (.st [(0, 1), (1, 1)]) := by kernel_rfl
theorem mkk116 : makeK Tryz.prog 116 = none := by kernel_rfl
theorem cal116 : callable Tryz.prog 116 = true := by kernel_rfl
theorem agg176 : aggSize Tryz.prog 176 = some none := by kernel_rfl
theorem agg71 : aggSize Tryz.prog 71 = some none := by kernel_rfl
theorem lenk71 : lenK Tryz.prog 71 = some .sl := by kernel_rfl
theorem off81_0 : fieldOff Tryz.prog 81 0 = some 0 := by kernel_rfl
theorem off81_1 : fieldOff Tryz.prog 81 1 = some 1 := by kernel_rfl
theorem agg81 : aggSize Tryz.prog 81 = some (some 2) := by kernel_rfl
theorem elt71 : sliceElt Tryz.prog 71 = some (⟨2, 16, [(.int .i64 0), (.int .i64 0)], 81⟩ : Elt) := by kernel_rfl
theorem appt71_71 : appT Tryz.prog 71 71 = some (⟨2, 16, [(.int .i64 0), (.int .i64 0)], 81⟩ : Elt) := by kernel_rfl
theorem sz71 : szOf Tryz.prog 71 = some 1 := by kernel_rfl
theorem els71 : elems Tryz.prog 71 = some (.sl 2) := by kernel_rfl
theorem sz3 : szOf Tryz.prog 3 = some 1 := by kernel_rfl
theorem plan116_1_1_0_1_1_1_0 : planOf Tryz.prog (opsC (atC Tryz.prog 116 [1, 1, 0, 1, 1, 1, 0])) = some [.fl 0, .fl 1, .fl 2, .fl 3, .fl 4, .fl 5, .fl 6, .fl 7, .an 8 [], .sync] := by kernel_rfl
theorem plan116_1_1_0_1_1_1_1 : planOf Tryz.prog (opsC (atC Tryz.prog 116 [1, 1, 0, 1, 1, 1, 1])) = some [.fl 0, .fl 1, .fl 2, .fl 3, .fl 4, .an 5 [3, 2, 1, 0], .an 6 [0], .fl 7, .an 8 [], .sync] := by kernel_rfl
theorem plan116_1_1_0_1_1_0 : planOf Tryz.prog (opsC (atC Tryz.prog 116 [1, 1, 0, 1, 1, 0])) = some [.fl 0, .fl 1, .fl 2, .fl 3, .fl 4, .fl 5, .fl 6, .fl 7, .fl 8, .fl 9, .fl 10, .fl 11, .fl 12, .fl 13, .fl 14, .sync] := by kernel_rfl
abbrev record_gaps_post (r : (List S_api_Span)) : SV → Mem → Prop := fun s Me => ∃ q1, s = q1 ∧ Has (fun _ => none) Me [.vec 81 2 r.length q1 (r.flatMap enc81)]

def record_gaps_3 (F : Nat) (hd1 : Int → Int → (List S_api_Frame) → Int → Int → (List S_api_Span) → Option ((List S_api_Span))) (v1 v2 : Int) (v12 : (List S_api_Frame)) (v13 v14 : Int) (l27 : (List S_api_Span)) : Option ((List S_api_Span)) :=
  hd1 v1 v2 v12 v13 (w64 (v14 + (1 : Int))) l27

theorem record_gaps_3_ok (F : Nat) (hd1 : Int → Int → (List S_api_Frame) → Int → Int → (List S_api_Span) → Option ((List S_api_Span))) (hhd1 : ∀ (v1 v2 : Int) (v12 : (List S_api_Frame)) (v13 v14 : Int) (l27 : (List S_api_Span)) (sv12 : SV) (b22 : Pos) (s27 : SV) (b25 : Pos) (Fr : Rd) (M : Mem) (r : (List S_api_Span)) (hv12 : Slc Fr 2 (rep84 Fr) sv12 v12) (hH : Has Fr M [.obj b22 (.row 71 .whole [s27]), .vec 81 2 l27.length s27 (l27.flatMap enc81), .obj b25 (.row 176 .whole [(.ptr b22 0)])]), hd1 v1 v2 v12 v13 v14 l27 = some r → Run Tryz.prog ⟨⟨55, [], none⟩, []⟩ 44 (record_gaps_post r) [(1, (.int .i64 v1)), (2, (.int .i64 v2)), (7, (.ptr b22 0)), (8, (.fn (.func 116) [] [(.ptr b25 0)])), (12, sv12), (13, (.int .i64 v13)), (14, (.int .i64 v14))] [codeC Tryz.prog 55 [1, 1, 1, 0, 1, 0, 0], loopC Tryz.prog 55 [1, 1, 1, 0, 1, 0, 0], .inBlock 0, codeC Tryz.prog 55 [1, 1, 1, 1]] M) : ∀ (v1 v2 : Int) (v12 : (List S_api_Frame)) (v13 v14 : Int) (l27 : (List S_api_Span)) (sv12 : SV) (b22 : Pos) (s27 : SV) (b25 : Pos) (Fr : Rd) (M : Mem) (r : (List S_api_Span)) (hv12 : Slc Fr 2 (rep84 Fr) sv12 v12) (hH : Has Fr M [.obj b22 (.row 71 .whole [s27]), .vec 81 2 l27.length s27 (l27.flatMap enc81), .obj b25 (.row 176 .whole [(.ptr b22 0)])]), record_gaps_3 F hd1 v1 v2 v12 v13 v14 l27 = some r → Run Tryz.prog ⟨⟨55, [], none⟩, []⟩ 44 (record_gaps_post r) [(1, (.int .i64 v1)), (2, (.int .i64 v2)), (7, (.ptr b22 0)), (8, (.fn (.func 116) [] [(.ptr b25 0)])), (12, sv12), (13, (.int .i64 v13)), (14, (.int .i64 v14))] [itemC Tryz.prog 55 [1, 1, 1, 0, 1, 0, 0, 1, 1, 1] 0, loopC Tryz.prog 55 [1, 1, 1, 0, 1, 0, 0], .inBlock 0, codeC Tryz.prog 55 [1, 1, 1, 1]] M := by
  intro v1 v2 v12 v13 v14 l27 sv12 b22 s27 b25 Fr M r hv12 hH h
  rw [record_gaps_3] at h
  refine Run.opG wantS_none (ex_add rfl rfl) rfl ?_
  refine Run.opG wantS_none (ex_move rfl) rfl ?_
  refine Run.opsEnd (Run.inLoop ?_)
  exact Run.pick [1, 2, 7, 8, 12, 13, 14] (hhd1 v1 v2 v12 v13 (w64 (v14 + (1 : Int))) l27 sv12 b22 s27 b25 _ _ _ hv12 hH h)

def record_gaps_4 (F : Nat) (hd1 : Int → Int → (List S_api_Frame) → Int → Int → (List S_api_Span) → Option ((List S_api_Span))) (v3 : Int) (v23 : Bool) (v2_f1 : Int) (v12_f1 : (List S_api_Frame)) (v13_f1 v14_f1 : Int) (c39 : S_api_Span) (c33_0 : Int) (c33_1 : (List (List Int))) (l27 : (List S_api_Span)) : Option ((List S_api_Span)) :=
  bif v23 then
    bnd (inn l27 v3) fun o45 =>
    bnd (l27[o45]?) fun x46 =>
    bnd (upd l27 o45 (S_api_Span.mk x46.From c39.To)) fun l46 =>
    record_gaps_3 F hd1 (w64 (c33_0 + (1 : Int))) v2_f1 v12_f1 v13_f1 v14_f1 l46
  else
    bnd (apd 16 l27 ([c39] : List S_api_Span)) fun l50 =>
    record_gaps_3 F hd1 (w64 (c33_0 + (1 : Int))) v2_f1 v12_f1 v13_f1 v14_f1 l50

theorem record_gaps_4_ok (F : Nat) (hd1 : Int → Int → (List S_api_Frame) → Int → Int → (List S_api_Span) → Option ((List S_api_Span))) (hhd1 : ∀ (v1 v2 : Int) (v12 : (List S_api_Frame)) (v13 v14 : Int) (l27 : (List S_api_Span)) (sv12 : SV) (b22 : Pos) (s27 : SV) (b25 : Pos) (Fr : Rd) (M : Mem) (r : (List S_api_Span)) (hv12 : Slc Fr 2 (rep84 Fr) sv12 v12) (hH : Has Fr M [.obj b22 (.row 71 .whole [s27]), .vec 81 2 l27.length s27 (l27.flatMap enc81), .obj b25 (.row 176 .whole [(.ptr b22 0)])]), hd1 v1 v2 v12 v13 v14 l27 = some r → Run Tryz.prog ⟨⟨55, [], none⟩, []⟩ 44 (record_gaps_post r) [(1, (.int .i64 v1)), (2, (.int .i64 v2)), (7, (.ptr b22 0)), (8, (.fn (.func 116) [] [(.ptr b25 0)])), (12, sv12), (13, (.int .i64 v13)), (14, (.int .i64 v14))] [codeC Tryz.prog 55 [1, 1, 1, 0, 1, 0, 0], loopC Tryz.prog 55 [1, 1, 1, 0, 1, 0, 0], .inBlock 0, codeC Tryz.prog 55 [1, 1, 1, 1]] M) : ∀ (v3 : Int) (v23 : Bool) (v2_f1 : Int) (v12_f1 : (List S_api_Frame)) (v13_f1 v14_f1 : Int) (c39 : S_api_Span) (c33_0 : Int) (c33_1 : (List (List Int))) (l27 : (List S_api_Span)) (sv12_f1 sc33_1 : SV) (b25 b22 : Pos) (s27 : SV) (b39 b33 : Pos) (Fr : Rd) (M : Mem) (r : (List S_api_Span)) (hv12_f1 : Slc Fr 2 (rep84 Fr) sv12_f1 v12_f1) (hc33_1 : Slc Fr 1 (rep26 Fr) sc33_1 c33_1) (hH : Has Fr M [.obj b25 (.row 176 .whole [(.ptr b22 0)]), .obj b22 (.row 71 .whole [s27]), .vec 81 2 l27.length s27 (l27.flatMap enc81), .obj b39 (.row 81 .whole [(.int .i64 c39.From), (.int .i64 c39.To)]), .obj b33 (.row 84 .whole [(.int .i64 c33_0), sc33_1])]), record_gaps_4 F hd1 v3 v23 v2_f1 v12_f1 v13_f1 v14_f1 c39 c33_0 c33_1 l27 = some r → Run Tryz.prog ⟨⟨116, [], none⟩, [.mk ⟨55, [], none⟩ 44 (treeOf [(2, (.int .i64 v2_f1)), (7, (.ptr b22 0)), (8, (.fn (.func 116) [] [(.ptr b25 0)])), (10, (.ptr b33 0)), (12, sv12_f1), (13, (.int .i64 v13_f1)), (14, (.int .i64 v14_f1))]) [itemC Tryz.prog 55 [1, 1, 1, 0, 1, 0, 0, 1, 1, 0, 0, 1, 1, 0, 0] 5, codeC Tryz.prog 55 [1, 1, 1, 0, 1, 0, 0, 1, 1, 0, 0, 1, 1, 0, 1], .inBlock 1, codeC Tryz.prog 55 [1, 1, 1, 0, 1, 0, 0, 1, 1, 1], loopC Tryz.prog 55 [1, 1, 1, 0, 1, 0, 0], .inBlock 0, codeC Tryz.prog 55 [1, 1, 1, 1]]]⟩ 46 (record_gaps_post r) [(1, (.ptr b25 0)), (2, (.ptr b39 0)), (3, (.int .i64 v3)), (23, (.bool v23))] [codeC Tryz.prog 116 [1, 1, 0, 1, 1, 1], .inBlock 0] M := by
  intro v3 v23 v2_f1 v12_f1 v13_f1 v14_f1 c39 c33_0 c33_1 l27 sv12_f1 sc33_1 b25 b22 s27 b39 b33 Fr M r hv12_f1 hc33_1 hH h
  rw [record_gaps_4] at h
  rcases btf (v23) with hc44 | hc44
  · have h := bif_t hc44 h
    refine Run.condT' rfl hc44 ?_
    refine Run.drawG plan116_1_1_0_1_1_1_0 ?_
    refine DrawG.fl rfl (ev_ex wantS_none (ex_load1 rfl (hH.cells (i := 0) rfl 0 rfl) rdLe_rfl agg176)) rfl ?_
    refine DrawG.fl rfl (ev_ex wantS_none (ex_nilP rfl)) rfl ?_
    refine DrawG.fl rfl (ev_ex wantS_none (ex_load1 rfl (hH.cells (i := 1) rfl 0 rfl) rdLe_rfl agg71)) rfl ?_
    refine DrawG.fl rfl (ev_ex wantS_none (ex_move rfl)) rfl ?_
    refine DrawG.fl rfl (ev_ex wantS_none (ex_fieldAddr rfl off81_1)) rfl ?_
    refine DrawG.fl rfl (ev_ex wantS_none (ex_load1 rfl (hH.cells (i := 3) rfl 1 rfl) rdLe_rfl agg3)) rfl ?_
    obtain ⟨o45, ho45, h⟩ := bnd_some h
    obtain ⟨p45, hb45, hx45⟩ := vec_place (P := Tryz.prog) (t := 71) (kk := .i64) hH (i := 2) rfl ho45 els71
    refine DrawG.fl rfl (ev_ex wantS_none (ex_elX rfl rfl hx45)) rfl ?_
    refine DrawG.fl rfl (ev_ex wantS_none (ex_fieldAddr rfl off81_1)) rfl ?_
    obtain ⟨x46, hx46, h⟩ := bnd_some h
    obtain ⟨l46, hl46, h⟩ := bnd_some h
    refine DrawG.opX rfl wantS_none rfl (ExG.storeFld (o := 1) rfl rfl hH (i := 2) rfl hb45 hx46 hl46 sz3 rfl rfl rfl rfl enc81_len) ?_
    rintro _ M47 ⟨rfl, (hH47 : Has Fr M47 [.obj b25 (.row 176 .whole [(.ptr b22 0)]), .obj b22 (.row 71 .whole [s27]), .vec 81 2 l46.length s27 (l46.flatMap enc81), .obj b39 (.row 81 .whole [(.int .i64 c39.From), (.int .i64 c39.To)]), .obj b33 (.row 84 .whole [(.int .i64 c33_0), sc33_1])])⟩
    refine ⟨st_nil, ?_⟩
    refine DrawG.sync ?_
    refine DrawG.nil ?_
    refine Run.inBlock ?_
    refine Run.fallTo Tryz.func116 rfl res_nil rfl ?_
    refine Run.opsEnd (Run.region ?_)
    refine Run.opG wantS_none (ex_fieldAddr rfl off84_0) rfl ?_
    refine Run.opG wantS_none (ex_load1 rfl (hH47.cells (i := 4) rfl 0 rfl) rdLe_rfl agg3) rfl ?_
    refine Run.opG wantS_none (ex_add rfl rfl) rfl ?_
    refine Run.opG wantS_none (ex_assign rfl) rfl ?_
    refine Run.opsEnd (Run.inBlock (Run.region ?_))
    exact Run.pick [1, 2, 7, 8, 12, 13, 14] (record_gaps_3_ok F hd1 hhd1 (w64 (c33_0 + (1 : Int))) v2_f1 v12_f1 v13_f1 v14_f1 l46 sv12_f1 b22 s27 b25 _ _ _ hv12_f1 (hH47.pick [1, 2, 0] rfl rfl) h)
  · have h := bif_f hc44 h
    refine Run.condF' rfl hc44 ?_
    refine Run.drawG plan116_1_1_0_1_1_1_1 ?_
    refine DrawG.fl rfl (ev_ex wantS_none (ex_load1 rfl (hH.cells (i := 0) rfl 0 rfl) rdLe_rfl agg176)) rfl ?_
    refine DrawG.fl rfl (ev_ex wantS_none (ex_load1 rfl (hH.cells (i := 0) rfl 0 rfl) rdLe_rfl agg176)) rfl ?_
    refine DrawG.fl rfl (ev_ex wantS_none (ex_nilP rfl)) rfl ?_
    refine DrawG.fl rfl (ev_ex wantS_none (ex_load1 rfl (hH.cells (i := 1) rfl 0 rfl) rdLe_rfl agg71)) rfl ?_
    refine DrawG.fl rfl (ev_ex wantS_none (ex_loadA rfl (hH.cells (i := 3) rfl 0 rfl) rdLe_rfl agg81 rfl rfl rfl)) rfl ?_
    refine DrawG.opX rfl wantS_none rfl (ExG.built (enc := enc81) (l := ([c39] : List S_api_Span)) (z := 2) rfl elt71 rfl rfl rfl enc81_len hH) ?_
    rintro s48 M49 (hH49 : Has Fr M49 [.vec 81 2 ([c39] : List S_api_Span).length s48 (([c39] : List S_api_Span).flatMap enc81), .obj b25 (.row 176 .whole [(.ptr b22 0)]), .obj b22 (.row 71 .whole [s27]), .vec 81 2 l27.length s27 (l27.flatMap enc81), .obj b39 (.row 81 .whole [(.int .i64 c39.From), (.int .i64 c39.To)]), .obj b33 (.row 84 .whole [(.int .i64 c33_0), sc33_1])])
    refine ⟨(st_cons rfl (ev_ex wantS_none (ex_load1 rfl (hH49.cells (i := 2) rfl 0 rfl) rdLe_rfl agg71)) rfl rfl (blk_self hH49 (i := 3) rfl) (st_cons rfl (ev_ex wantS_none (ex_nilP rfl)) rfl rfl rfl (st_cons rfl (ev_ex wantS_none (ex_load1 rfl (hH49.cells (i := 1) rfl 0 rfl) rdLe_rfl agg176)) rfl rfl rfl (st_cons rfl (ev_ex wantS_none (ex_load1 rfl (hH49.cells (i := 1) rfl 0 rfl) rdLe_rfl agg176)) rfl rfl rfl st_nil)))), ?_⟩
    obtain ⟨l50, hl50, h⟩ := bnd_some h
    refine DrawG.opX rfl wantS_none rfl (ExG.append rfl rfl hH49 (i := 3) rfl enc81_len rfl enc81_ones appt71_71 rfl (len_slc (hH49.slc (i := 0) rfl enc81_len)) (first_slc (hH49.slc (i := 0) rfl enc81_len) (rdLe_rdRow _) enc81_len) hl50) ?_
    rintro s50 M52 (hH52 : Has Fr M52 [.vec 81 2 ([c39] : List S_api_Span).length s48 (([c39] : List S_api_Span).flatMap enc81), .obj b25 (.row 176 .whole [(.ptr b22 0)]), .obj b22 (.row 71 .whole [s27]), .vec 81 2 l50.length s50 (l50.flatMap enc81), .obj b39 (.row 81 .whole [(.int .i64 c39.From), (.int .i64 c39.To)]), .obj b33 (.row 84 .whole [(.int .i64 c33_0), sc33_1])])
    refine ⟨(st_cons rfl (ev_ex wantS_none (ex_load1 rfl (hH52.cells (i := 1) rfl 0 rfl) rdLe_rfl agg176)) rfl rfl rfl st_nil), ?_⟩
    refine DrawG.fl rfl (ev_ex wantS_none (ex_nilP rfl)) rfl ?_
    refine DrawG.opX rfl wantS_none rfl (ExG.storeC (c' := [s50]) rfl rfl (cells_one (vec_one hH52 (i := 3) rfl)) hH52 (i := 2) rfl sz71 rfl rfl rfl (ones_cons (vec_one hH52 (i := 3) rfl) ones_nil) rfl) ?_
    rintro _ M53 ⟨rfl, (hH53 : Has Fr M53 [.vec 81 2 ([c39] : List S_api_Span).length s48 (([c39] : List S_api_Span).flatMap enc81), .obj b25 (.row 176 .whole [(.ptr b22 0)]), .obj b22 (.row 71 .whole [s50]), .vec 81 2 l50.length s50 (l50.flatMap enc81), .obj b39 (.row 81 .whole [(.int .i64 c39.From), (.int .i64 c39.To)]), .obj b33 (.row 84 .whole [(.int .i64 c33_0), sc33_1])])⟩
    refine ⟨st_nil, ?_⟩
    refine DrawG.sync ?_
    refine DrawG.nil ?_
    refine Run.inBlock ?_
    refine Run.fallTo Tryz.func116 rfl res_nil rfl ?_
    refine Run.opsEnd (Run.region ?_)
    refine Run.opG wantS_none (ex_fieldAddr rfl off84_0) rfl ?_
    refine Run.opG wantS_none (ex_load1 rfl (hH53.cells (i := 5) rfl 0 rfl) rdLe_rfl agg3) rfl ?_
    refine Run.opG wantS_none (ex_add rfl rfl) rfl ?_
    refine Run.opG wantS_none (ex_assign rfl) rfl ?_
    refine Run.opsEnd (Run.inBlock (Run.region ?_))
    exact Run.pick [1, 2, 7, 8, 12, 13, 14] (record_gaps_3_ok F hd1 hhd1 (w64 (c33_0 + (1 : Int))) v2_f1 v12_f1 v13_f1 v14_f1 l50 sv12_f1 b22 s50 b25 _ _ _ hv12_f1 (hH53.pick [2, 3, 1] rfl rfl) h)

def record_gaps_2 (F : Nat) (hd1 : Int → Int → (List S_api_Frame) → Int → Int → (List S_api_Span) → Option ((List S_api_Span))) (v1 v2 : Int) (v12 : (List S_api_Frame)) (v13 v14 : Int) (v27 : Bool) (c33_0 : Int) (c33_1 : (List (List Int))) (l27 : (List S_api_Span)) : Option ((List S_api_Span)) :=
  bif v27 then
    bif (v1 == c33_0) then
      record_gaps_3 F hd1 (w64 (c33_0 + (1 : Int))) v2 v12 v13 v14 l27
    else
      bif (decide ((0 : Int) ≤ (w64 ((l27.length : Int) - (1 : Int))))) then
        bnd (idx l27 (w64 ((l27.length : Int) - (1 : Int)))) fun x43 =>
        record_gaps_4 F hd1 (w64 ((l27.length : Int) - (1 : Int))) (x43.To == v1) v2 v12 v13 v14 (S_api_Span.mk v1 c33_0) c33_0 c33_1 l27
      else
        record_gaps_4 F hd1 (w64 ((l27.length : Int) - (1 : Int))) false v2 v12 v13 v14 (S_api_Span.mk v1 c33_0) c33_0 c33_1 l27
  else
    record_gaps_3 F hd1 v1 v2 v12 v13 v14 l27

theorem record_gaps_2_ok (F : Nat) (hd1 : Int → Int → (List S_api_Frame) → Int → Int → (List S_api_Span) → Option ((List S_api_Span))) (hhd1 : ∀ (v1 v2 : Int) (v12 : (List S_api_Frame)) (v13 v14 : Int) (l27 : (List S_api_Span)) (sv12 : SV) (b22 : Pos) (s27 : SV) (b25 : Pos) (Fr : Rd) (M : Mem) (r : (List S_api_Span)) (hv12 : Slc Fr 2 (rep84 Fr) sv12 v12) (hH : Has Fr M [.obj b22 (.row 71 .whole [s27]), .vec 81 2 l27.length s27 (l27.flatMap enc81), .obj b25 (.row 176 .whole [(.ptr b22 0)])]), hd1 v1 v2 v12 v13 v14 l27 = some r → Run Tryz.prog ⟨⟨55, [], none⟩, []⟩ 44 (record_gaps_post r) [(1, (.int .i64 v1)), (2, (.int .i64 v2)), (7, (.ptr b22 0)), (8, (.fn (.func 116) [] [(.ptr b25 0)])), (12, sv12), (13, (.int .i64 v13)), (14, (.int .i64 v14))] [codeC Tryz.prog 55 [1, 1, 1, 0, 1, 0, 0], loopC Tryz.prog 55 [1, 1, 1, 0, 1, 0, 0], .inBlock 0, codeC Tryz.prog 55 [1, 1, 1, 1]] M) : ∀ (v1 v2 : Int) (v12 : (List S_api_Frame)) (v13 v14 : Int) (v27 : Bool) (c33_0 : Int) (c33_1 : (List (List Int))) (l27 : (List S_api_Span)) (sv12 sc33_1 : SV) (b22 : Pos) (s27 : SV) (b25 b33 : Pos) (Fr : Rd) (M : Mem) (r : (List S_api_Span)) (hv12 : Slc Fr 2 (rep84 Fr) sv12 v12) (hc33_1 : Slc Fr 1 (rep26 Fr) sc33_1 c33_1) (hH : Has Fr M [.obj b22 (.row 71 .whole [s27]), .vec 81 2 l27.length s27 (l27.flatMap enc81), .obj b25 (.row 176 .whole [(.ptr b22 0)]), .obj b33 (.row 84 .whole [(.int .i64 c33_0), sc33_1])]), record_gaps_2 F hd1 v1 v2 v12 v13 v14 v27 c33_0 c33_1 l27 = some r → Run Tryz.prog ⟨⟨55, [], none⟩, []⟩ 44 (record_gaps_post r) [(1, (.int .i64 v1)), (2, (.int .i64 v2)), (7, (.ptr b22 0)), (8, (.fn (.func 116) [] [(.ptr b25 0)])), (10, (.ptr b33 0)), (12, sv12), (13, (.int .i64 v13)), (14, (.int .i64 v14)), (27, (.bool v27))] [codeC Tryz.prog 55 [1, 1, 1, 0, 1, 0, 0, 1, 1, 0, 0, 1, 1], .inBlock 1, codeC Tryz.prog 55 [1, 1, 1, 0, 1, 0, 0, 1, 1, 1], loopC Tryz.prog 55 [1, 1, 1, 0, 1, 0, 0], .inBlock 0, codeC Tryz.prog 55 [1, 1, 1, 1]] M := by
  intro v1 v2 v12 v13 v14 v27 c33_0 c33_1 l27 sv12 sc33_1 b22 s27 b25 b33 Fr M r hv12 hc33_1 hH h
  rw [record_gaps_2] at h
  rcases btf (v27) with hc37 | hc37
  · have h := bif_t hc37 h
    refine Run.condT' rfl hc37 ?_
    refine Run.seq (Run.region ?_)
    refine Run.opG wantS_none (ex_move rfl) rfl ?_
    refine Run.opG wantS_none (ex_move rfl) rfl ?_
    refine Run.opG wantS_none (ex_fieldAddr rfl off84_0) rfl ?_
    refine Run.opG wantS_none (ex_load1 rfl (hH.cells (i := 3) rfl 0 rfl) rdLe_rfl agg3) rfl ?_
    refine Run.opG wantS_none (ex_build (r := [(.int .i64 v1), (.int .i64 c33_0)]) rfl zer81 pls81 rfl) rfl ?_
    refine Run.enter wantS_none (ex_closure rfl rfl mkk116 cal116) Tryz.func116 rfl rfl ?_
    refine Run.seq (Run.region ?_)
    refine Run.opX wantS_none rfl (ExG.box rfl rfl hH) ?_
    rintro _ M40 ⟨b39, rfl, hH40⟩
    refine Run.opsEnd (Run.seq (Run.region ?_))
    refine Run.opG wantS_none (ex_load1 rfl (hH40.cells (i := 3) rfl 0 rfl) rdLe_rfl agg176) rfl ?_
    refine Run.opG wantS_none (ex_nilP rfl) rfl ?_
    refine Run.opG wantS_none (ex_load1 rfl (hH40.cells (i := 1) rfl 0 rfl) rdLe_rfl agg71) rfl ?_
    refine Run.opG wantS_none (ex_len' rfl (hH40.slc (i := 2) rfl enc81_len) lenk71) rfl ?_
    refine Run.opG wantS_none (ex_sub rfl rfl) rfl ?_
    refine Run.opG wantS_none (ex_assign rfl) rfl ?_
    refine Run.opsEnd (Run.block (Run.seq (Run.region ?_)))
    refine Run.opG wantS_none (ex_fieldAddr rfl off81_0) rfl ?_
    refine Run.opG wantS_none (ex_load1 rfl (hH40.cells (i := 0) rfl 0 rfl) rdLe_rfl agg3) rfl ?_
    refine Run.opG wantS_none (ex_fieldAddr rfl off81_1) rfl ?_
    refine Run.opG wantS_none (ex_load1 rfl (hH40.cells (i := 0) rfl 1 rfl) rdLe_rfl agg3) rfl ?_
    refine Run.opG wantS_none (ex_eql rfl rfl) rfl ?_
    refine Run.opG wantS_none (ex_assign rfl) rfl ?_
    refine Run.opsEnd ?_
    rcases btf ((v1 == c33_0)) with hc41 | hc41
    · have h := bif_t hc41 h
      refine Run.condT' rfl hc41 ?_
      refine Run.skip (Run.inBlock ?_)
      refine Run.fallTo Tryz.func116 rfl res_nil rfl ?_
      refine Run.opsEnd (Run.region ?_)
      refine Run.opG wantS_none (ex_fieldAddr rfl off84_0) rfl ?_
      refine Run.opG wantS_none (ex_load1 rfl (hH40.cells (i := 4) rfl 0 rfl) rdLe_rfl agg3) rfl ?_
      refine Run.opG wantS_none (ex_add rfl rfl) rfl ?_
      refine Run.opG wantS_none (ex_assign rfl) rfl ?_
      refine Run.opsEnd (Run.inBlock (Run.region ?_))
      exact Run.pick [1, 2, 7, 8, 12, 13, 14] (record_gaps_3_ok F hd1 hhd1 (w64 (c33_0 + (1 : Int))) v2 v12 v13 v14 l27 sv12 b22 s27 b25 _ _ _ hv12 (hH40.pick [1, 2, 3] rfl rfl) h)
    · have h := bif_f hc41 h
      refine Run.condF' rfl hc41 ?_
      refine Run.seq ?_
      refine Run.drawG plan116_1_1_0_1_1_0 ?_
      refine DrawG.fl rfl (ev_ex wantS_none (ex_move rfl)) rfl ?_
      refine DrawG.fl rfl (ev_ex wantS_none (ex_geq rfl rfl)) rfl ?_
      refine DrawG.fl rfl (ev_ex wantS_none (ex_move rfl)) rfl ?_
      rcases btf ((decide ((0 : Int) ≤ (w64 ((l27.length : Int) - (1 : Int)))))) with hc42 | hc42
      · have h := bif_t hc42 h
        refine DrawG.fl rfl (ev_ex (wantS_yes' rfl rfl hc42) (ex_load1 rfl (hH40.cells (i := 3) rfl 0 rfl) rdLe_rfl agg176)) rfl ?_
        refine DrawG.fl rfl (ev_ex (wantS_yes' rfl rfl hc42) (ex_nilP rfl)) rfl ?_
        refine DrawG.fl rfl (ev_ex (wantS_yes' rfl rfl hc42) (ex_load1 rfl (hH40.cells (i := 1) rfl 0 rfl) rdLe_rfl agg71)) rfl ?_
        refine DrawG.fl rfl (ev_ex (wantS_yes' rfl rfl hc42) (ex_move rfl)) rfl ?_
        obtain ⟨x43, hx43, h⟩ := bnd_some h
        obtain ⟨p43, o43, hb43, hx43, he43⟩ := vec_elem (P := Tryz.prog) (t := 71) (kk := .i64) hH40 (i := 2) rfl hx43 els71
        refine DrawG.fl rfl (ev_ex (wantS_yes' rfl rfl hc42) (ex_elX rfl rfl hx43)) rfl ?_
        refine DrawG.fl rfl (ev_ex (wantS_yes' rfl rfl hc42) (ex_fieldAddr rfl off81_1)) rfl ?_
        refine DrawG.fl rfl (ev_ex (wantS_yes' rfl rfl hc42) (ex_load1 rfl ((hH40.at (enc := enc81) (a := x43) (i := 2) rfl hb43 he43 enc81_len).fld (o := 1) rfl) rdLe_rfl agg3)) rfl ?_
        refine DrawG.fl rfl (ev_ex (wantS_yes' rfl rfl hc42) (ex_fieldAddr rfl off81_0)) rfl ?_
        refine DrawG.fl rfl (ev_ex (wantS_yes' rfl rfl hc42) (ex_load1 rfl (hH40.cells (i := 0) rfl 0 rfl) rdLe_rfl agg3)) rfl ?_
        refine DrawG.fl rfl (ev_ex (wantS_yes' rfl rfl hc42) (ex_eql rfl rfl)) rfl ?_
        refine DrawG.fl rfl (ev_ex wantS_none (ex_pickT' rfl hc42 rfl rfl)) rfl ?_
        refine DrawG.fl rfl (ev_ex wantS_none (ex_assign rfl)) rfl ?_
        refine DrawG.sync ?_
        refine DrawG.nil ?_
        exact Run.low (.cons (fle_pick [2, 7, 8, 10, 12, 13, 14] rfl) .nil) (Run.pick [1, 2, 3, 23] (record_gaps_4_ok F hd1 hhd1 (w64 ((l27.length : Int) - (1 : Int))) (x43.To == v1) v2 v12 v13 v14 (S_api_Span.mk v1 c33_0) c33_0 c33_1 l27 sv12 sc33_1 b25 b22 s27 b39 b33 _ _ _ hv12 hc33_1 (hH40.pick [3, 1, 2, 0, 4] rfl rfl) h))
      · have h := bif_f hc42 h
        refine DrawG.fl rfl (ev_no (wantS_not' rfl rfl hc42)) rfl ?_
        refine DrawG.fl rfl (ev_no (wantS_not' rfl rfl hc42)) rfl ?_
        refine DrawG.fl rfl (ev_no (wantS_not' rfl rfl hc42)) rfl ?_
        refine DrawG.fl rfl (ev_no (wantS_not' rfl rfl hc42)) rfl ?_
        refine DrawG.fl rfl (ev_no (wantS_not' rfl rfl hc42)) rfl ?_
        refine DrawG.fl rfl (ev_no (wantS_not' rfl rfl hc42)) rfl ?_
        refine DrawG.fl rfl (ev_no (wantS_not' rfl rfl hc42)) rfl ?_
        refine DrawG.fl rfl (ev_no (wantS_not' rfl rfl hc42)) rfl ?_
        refine DrawG.fl rfl (ev_no (wantS_not' rfl rfl hc42)) rfl ?_
        refine DrawG.fl rfl (ev_no (wantS_not' rfl rfl hc42)) rfl ?_
        refine DrawG.fl rfl (ev_ex wantS_none (ex_pickF' rfl hc42 rfl rfl)) rfl ?_
        refine DrawG.fl rfl (ev_ex wantS_none (ex_assign rfl)) rfl ?_
        refine DrawG.sync ?_
        refine DrawG.nil ?_
        exact Run.low (.cons (fle_pick [2, 7, 8, 10, 12, 13, 14] rfl) .nil) (Run.pick [1, 2, 3, 23] (record_gaps_4_ok F hd1 hhd1 (w64 ((l27.length : Int) - (1 : Int))) false v2 v12 v13 v14 (S_api_Span.mk v1 c33_0) c33_0 c33_1 l27 sv12 sc33_1 b25 b22 s27 b39 b33 _ _ _ hv12 hc33_1 (hH40.pick [3, 1, 2, 0, 4] rfl rfl) h))
  · have h := bif_f hc37 h
    refine Run.condF' rfl hc37 ?_
    refine Run.skip (Run.inBlock (Run.region ?_))
    exact Run.pick [1, 2, 7, 8, 12, 13, 14] (record_gaps_3_ok F hd1 hhd1 v1 v2 v12 v13 v14 l27 sv12 b22 s27 b25 _ _ _ hv12 (hH.pick [0, 1, 2] rfl rfl) h)

def record_gaps_5 (F : Nat) (v3 : Int) (v23 : Bool) (c55 : S_api_Span) (l27 : (List S_api_Span)) : Option ((List S_api_Span)) :=
  bif v23 then
    bnd (inn l27 v3) fun o61 =>
    bnd (l27[o61]?) fun x62 =>
    bnd (upd l27 o61 (S_api_Span.mk x62.From c55.To)) fun l62 =>
    some l62
  else
    bnd (apd 16 l27 ([c55] : List S_api_Span)) fun l66 =>
    some l66

theorem record_gaps_5_ok (F : Nat) : ∀ (v3 : Int) (v23 : Bool) (c55 : S_api_Span) (l27 : (List S_api_Span)) (b25 b22 : Pos) (s27 : SV) (b55 : Pos) (Fr : Rd) (M : Mem) (r : (List S_api_Span)) (hH : Has Fr M [.obj b25 (.row 176 .whole [(.ptr b22 0)]), .obj b22 (.row 71 .whole [s27]), .vec 81 2 l27.length s27 (l27.flatMap enc81), .obj b55 (.row 81 .whole [(.int .i64 c55.From), (.int .i64 c55.To)])]), record_gaps_5 F v3 v23 c55 l27 = some r → Run Tryz.prog ⟨⟨116, [], none⟩, [.mk ⟨55, [], none⟩ 44 (treeOf [(7, (.ptr b22 0))]) [itemC Tryz.prog 55 [1, 1, 1, 1, 0] 4, codeC Tryz.prog 55 [1, 1, 1, 1, 1]]]⟩ 46 (record_gaps_post r) [(1, (.ptr b25 0)), (2, (.ptr b55 0)), (3, (.int .i64 v3)), (23, (.bool v23))] [codeC Tryz.prog 116 [1, 1, 0, 1, 1, 1], .inBlock 0] M := by
  intro v3 v23 c55 l27 b25 b22 s27 b55 Fr M r hH h
  rw [record_gaps_5] at h
  rcases btf (v23) with hc60 | hc60
  · have h := bif_t hc60 h
    refine Run.condT' rfl hc60 ?_
    refine Run.drawG plan116_1_1_0_1_1_1_0 ?_
    refine DrawG.fl rfl (ev_ex wantS_none (ex_load1 rfl (hH.cells (i := 0) rfl 0 rfl) rdLe_rfl agg176)) rfl ?_
    refine DrawG.fl rfl (ev_ex wantS_none (ex_nilP rfl)) rfl ?_
    refine DrawG.fl rfl (ev_ex wantS_none (ex_load1 rfl (hH.cells (i := 1) rfl 0 rfl) rdLe_rfl agg71)) rfl ?_
    refine DrawG.fl rfl (ev_ex wantS_none (ex_move rfl)) rfl ?_
    refine DrawG.fl rfl (ev_ex wantS_none (ex_fieldAddr rfl off81_1)) rfl ?_
    refine DrawG.fl rfl (ev_ex wantS_none (ex_load1 rfl (hH.cells (i := 3) rfl 1 rfl) rdLe_rfl agg3)) rfl ?_
    obtain ⟨o61, ho61, h⟩ := bnd_some h
    obtain ⟨p61, hb61, hx61⟩ := vec_place (P := Tryz.prog) (t := 71) (kk := .i64) hH (i := 2) rfl ho61 els71
    refine DrawG.fl rfl (ev_ex wantS_none (ex_elX rfl rfl hx61)) rfl ?_
    refine DrawG.fl rfl (ev_ex wantS_none (ex_fieldAddr rfl off81_1)) rfl ?_
    obtain ⟨x62, hx62, h⟩ := bnd_some h
    obtain ⟨l62, hl62, h⟩ := bnd_some h
    refine DrawG.opX rfl wantS_none rfl (ExG.storeFld (o := 1) rfl rfl hH (i := 2) rfl hb61 hx62 hl62 sz3 rfl rfl rfl rfl enc81_len) ?_
    rintro _ M63 ⟨rfl, (hH63 : Has Fr M63 [.obj b25 (.row 176 .whole [(.ptr b22 0)]), .obj b22 (.row 71 .whole [s27]), .vec 81 2 l62.length s27 (l62.flatMap enc81), .obj b55 (.row 81 .whole [(.int .i64 c55.From), (.int .i64 c55.To)])])⟩
    refine ⟨st_nil, ?_⟩
    refine DrawG.sync ?_
    refine DrawG.nil ?_
    refine Run.inBlock ?_
    refine Run.fallTo Tryz.func116 rfl res_nil rfl ?_
    refine Run.opsEnd (Run.seq (Run.region ?_))
    refine Run.opG wantS_none (ex_load1 rfl (hH63.cells (i := 1) rfl 0 rfl) rdLe_rfl agg71) rfl ?_
    refine Run.opG wantS_none (ex_assign rfl) rfl ?_
    refine Run.opsEnd ?_
    cases h
    exact Run.ret Tryz.func55 rfl (res_tmp rfl res_nil) ⟨_, rfl, (hH63.pick [2] rfl rfl).upF (none_le _)⟩
  · have h := bif_f hc60 h
    refine Run.condF' rfl hc60 ?_
    refine Run.drawG plan116_1_1_0_1_1_1_1 ?_
    refine DrawG.fl rfl (ev_ex wantS_none (ex_load1 rfl (hH.cells (i := 0) rfl 0 rfl) rdLe_rfl agg176)) rfl ?_
    refine DrawG.fl rfl (ev_ex wantS_none (ex_load1 rfl (hH.cells (i := 0) rfl 0 rfl) rdLe_rfl agg176)) rfl ?_
    refine DrawG.fl rfl (ev_ex wantS_none (ex_nilP rfl)) rfl ?_
    refine DrawG.fl rfl (ev_ex wantS_none (ex_load1 rfl (hH.cells (i := 1) rfl 0 rfl) rdLe_rfl agg71)) rfl ?_
    refine DrawG.fl rfl (ev_ex wantS_none (ex_loadA rfl (hH.cells (i := 3) rfl 0 rfl) rdLe_rfl agg81 rfl rfl rfl)) rfl ?_
    refine DrawG.opX rfl wantS_none rfl (ExG.built (enc := enc81) (l := ([c55] : List S_api_Span)) (z := 2) rfl elt71 rfl rfl rfl enc81_len hH) ?_
    rintro s64 M65 (hH65 : Has Fr M65 [.vec 81 2 ([c55] : List S_api_Span).length s64 (([c55] : List S_api_Span).flatMap enc81), .obj b25 (.row 176 .whole [(.ptr b22 0)]), .obj b22 (.row 71 .whole [s27]), .vec 81 2 l27.length s27 (l27.flatMap enc81), .obj b55 (.row 81 .whole [(.int .i64 c55.From), (.int .i64 c55.To)])])
    refine ⟨(st_cons rfl (ev_ex wantS_none (ex_load1 rfl (hH65.cells (i := 2) rfl 0 rfl) rdLe_rfl agg71)) rfl rfl (blk_self hH65 (i := 3) rfl) (st_cons rfl (ev_ex wantS_none (ex_nilP rfl)) rfl rfl rfl (st_cons rfl (ev_ex wantS_none (ex_load1 rfl (hH65.cells (i := 1) rfl 0 rfl) rdLe_rfl agg176)) rfl rfl rfl (st_cons rfl (ev_ex wantS_none (ex_load1 rfl (hH65.cells (i := 1) rfl 0 rfl) rdLe_rfl agg176)) rfl rfl rfl st_nil)))), ?_⟩
    obtain ⟨l66, hl66, h⟩ := bnd_some h
    refine DrawG.opX rfl wantS_none rfl (ExG.append rfl rfl hH65 (i := 3) rfl enc81_len rfl enc81_ones appt71_71 rfl (len_slc (hH65.slc (i := 0) rfl enc81_len)) (first_slc (hH65.slc (i := 0) rfl enc81_len) (rdLe_rdRow _) enc81_len) hl66) ?_
    rintro s66 M68 (hH68 : Has Fr M68 [.vec 81 2 ([c55] : List S_api_Span).length s64 (([c55] : List S_api_Span).flatMap enc81), .obj b25 (.row 176 .whole [(.ptr b22 0)]), .obj b22 (.row 71 .whole [s27]), .vec 81 2 l66.length s66 (l66.flatMap enc81), .obj b55 (.row 81 .whole [(.int .i64 c55.From), (.int .i64 c55.To)])])
    refine ⟨(st_cons rfl (ev_ex wantS_none (ex_load1 rfl (hH68.cells (i := 1) rfl 0 rfl) rdLe_rfl agg176)) rfl rfl rfl st_nil), ?_⟩
    refine DrawG.fl rfl (ev_ex wantS_none (ex_nilP rfl)) rfl ?_
    refine DrawG.opX rfl wantS_none rfl (ExG.storeC (c' := [s66]) rfl rfl (cells_one (vec_one hH68 (i := 3) rfl)) hH68 (i := 2) rfl sz71 rfl rfl rfl (ones_cons (vec_one hH68 (i := 3) rfl) ones_nil) rfl) ?_
    rintro _ M69 ⟨rfl, (hH69 : Has Fr M69 [.vec 81 2 ([c55] : List S_api_Span).length s64 (([c55] : List S_api_Span).flatMap enc81), .obj b25 (.row 176 .whole [(.ptr b22 0)]), .obj b22 (.row 71 .whole [s66]), .vec 81 2 l66.length s66 (l66.flatMap enc81), .obj b55 (.row 81 .whole [(.int .i64 c55.From), (.int .i64 c55.To)])])⟩
    refine ⟨st_nil, ?_⟩
    refine DrawG.sync ?_
    refine DrawG.nil ?_
    refine Run.inBlock ?_
    refine Run.fallTo Tryz.func116 rfl res_nil rfl ?_
    refine Run.opsEnd (Run.seq (Run.region ?_))
    refine Run.opG wantS_none (ex_load1 rfl (hH69.cells (i := 2) rfl 0 rfl) rdLe_rfl agg71) rfl ?_
    refine Run.opG wantS_none (ex_assign rfl) rfl ?_
    refine Run.opsEnd ?_
    cases h
    exact Run.ret Tryz.func55 rfl (res_tmp rfl res_nil) ⟨_, rfl, (hH69.pick [3] rfl rfl).upF (none_le _)⟩

def record_gaps_1 (F : Nat) : Nat → Int → Int → (List S_api_Frame) → Int → Int → (List S_api_Span) → Option ((List S_api_Span))
  | 0, _, _, _, _, _, _ => none
  | N + 1, v1, v2, v12, v13, v14, l27 =>
    bif (decide (v14 < v13)) then
      bnd (idx v12 v14) fun x31 =>
      bif (decide (v1 ≤ x31.Start)) then
        record_gaps_2 F (record_gaps_1 F N) v1 v2 v12 v13 v14 (decide (x31.Start < v2)) x31.Start x31.Samples l27
      else
        record_gaps_2 F (record_gaps_1 F N) v1 v2 v12 v13 v14 false x31.Start x31.Samples l27
    else
      bif (v1 == v2) then
        some l27
      else
        bif (decide ((0 : Int) ≤ (w64 ((l27.length : Int) - (1 : Int))))) then
          bnd (idx l27 (w64 ((l27.length : Int) - (1 : Int)))) fun x59 =>
          record_gaps_5 F (w64 ((l27.length : Int) - (1 : Int))) (x59.To == v1) (S_api_Span.mk v1 v2) l27
        else
          record_gaps_5 F (w64 ((l27.length : Int) - (1 : Int))) false (S_api_Span.mk v1 v2) l27

theorem record_gaps_1_ok (F : Nat) : ∀ (N : Nat), ∀ (v1 v2 : Int) (v12 : (List S_api_Frame)) (v13 v14 : Int) (l27 : (List S_api_Span)) (sv12 : SV) (b22 : Pos) (s27 : SV) (b25 : Pos) (Fr : Rd) (M : Mem) (r : (List S_api_Span)) (hv12 : Slc Fr 2 (rep84 Fr) sv12 v12) (hH : Has Fr M [.obj b22 (.row 71 .whole [s27]), .vec 81 2 l27.length s27 (l27.flatMap enc81), .obj b25 (.row 176 .whole [(.ptr b22 0)])]), record_gaps_1 F N v1 v2 v12 v13 v14 l27 = some r → Run Tryz.prog ⟨⟨55, [], none⟩, []⟩ 44 (record_gaps_post r) [(1, (.int .i64 v1)), (2, (.int .i64 v2)), (7, (.ptr b22 0)), (8, (.fn (.func 116) [] [(.ptr b25 0)])), (12, sv12), (13, (.int .i64 v13)), (14, (.int .i64 v14))] [codeC Tryz.prog 55 [1, 1, 1, 0, 1, 0, 0], loopC Tryz.prog 55 [1, 1, 1, 0, 1, 0, 0], .inBlock 0, codeC Tryz.prog 55 [1, 1, 1, 1]] M := by
  intro N
  induction N with
  | zero =>
    intro v1 v2 v12 v13 v14 l27 sv12 b22 s27 b25 Fr M r hv12 hH h
    simp [record_gaps_1] at h
  | succ N ih =>
    intro v1 v2 v12 v13 v14 l27 sv12 b22 s27 b25 Fr M r hv12 hH h
    rw [record_gaps_1] at h
    refine Run.seq (Run.region ?_)
    refine Run.opG wantS_none (ex_lss rfl rfl) rfl ?_
    refine Run.opsEnd (Run.seq ?_)
    rcases btf ((decide (v14 < v13))) with hc29 | hc29
    · have h := bif_t hc29 h
      refine Run.condT' rfl hc29 ?_
      refine Run.skip (Run.seq (Run.block (Run.seq (Run.region ?_))))
      obtain ⟨x31, hx31, h⟩ := bnd_some h
      obtain ⟨p31, o31, _, hx31, hp31, ⟨q31_0, rfl, hq31_0⟩⟩ := sl_elem (P := Tryz.prog) (t := 68) (kk := .i64) hv12 hx31 els68
      refine Run.opG wantS_none (ex_elX rfl rfl hx31) rfl ?_
      refine Run.opG wantS_none (ex_loadA rfl (hH.ptrF hp31) rdLe_rfl agg84 rfl rfl rfl) rfl ?_
      refine Run.opX wantS_none rfl (ExG.new (v := fun b => .ptr b 0) (ex_alloc zer84) hH) ?_
      rintro _ M34 ⟨b33, rfl, hH34⟩
      refine Run.opX wantS_none rfl (ExG.storeC (c' := [(.int .i64 x31.Start), q31_0]) rfl rfl rfl hH34 (i := 0) rfl sz84 rfl rfl rfl (ones_cons rfl (ones_cons (slc_one hq31_0) ones_nil)) rfl) ?_
      rintro _ M35 ⟨rfl, (hH35 : Has Fr M35 [.obj b33 (.row 84 .whole [(.int .i64 x31.Start), q31_0]), .obj b22 (.row 71 .whole [s27]), .vec 81 2 l27.length s27 (l27.flatMap enc81), .obj b25 (.row 176 .whole [(.ptr b22 0)])])⟩
      refine Run.opsEnd (Run.seq (Run.region ?_))
      refine Run.opG wantS_none (ex_move rfl) rfl ?_
      refine Run.opG wantS_none (ex_fieldAddr rfl off84_0) rfl ?_
      refine Run.opG wantS_none (ex_load1 rfl (hH35.cells (i := 0) rfl 0 rfl) rdLe_rfl agg3) rfl ?_
      refine Run.opG wantS_none (ex_leq rfl rfl) rfl ?_
      refine Run.opG wantS_none (ex_move rfl) rfl ?_
      rcases btf ((decide (v1 ≤ x31.Start))) with hc36 | hc36
      · have h := bif_t hc36 h
        refine Run.opG (wantS_yes' rfl rfl hc36) (ex_fieldAddr rfl off84_0) rfl ?_
        refine Run.opG (wantS_yes' rfl rfl hc36) (ex_load1 rfl (hH35.cells (i := 0) rfl 0 rfl) rdLe_rfl agg3) rfl ?_
        refine Run.opG (wantS_yes' rfl rfl hc36) (ex_move rfl) rfl ?_
        refine Run.opG (wantS_yes' rfl rfl hc36) (ex_lss rfl rfl) rfl ?_
        refine Run.opG wantS_none (ex_pickT' rfl hc36 rfl rfl) rfl ?_
        refine Run.opsEnd ?_
        exact Run.pick [1, 2, 7, 8, 10, 12, 13, 14, 27] (record_gaps_2_ok F (record_gaps_1 F N) ih v1 v2 v12 v13 v14 (decide (x31.Start < v2)) x31.Start x31.Samples l27 sv12 q31_0 b22 s27 b25 b33 _ _ _ hv12 hq31_0 (hH35.pick [1, 2, 3, 0] rfl rfl) h)
      · have h := bif_f hc36 h
        refine Run.no (wantS_not' rfl rfl hc36) rfl ?_
        refine Run.no (wantS_not' rfl rfl hc36) rfl ?_
        refine Run.no (wantS_not' rfl rfl hc36) rfl ?_
        refine Run.no (wantS_not' rfl rfl hc36) rfl ?_
        refine Run.opG wantS_none (ex_pickF' rfl hc36 rfl rfl) rfl ?_
        refine Run.opsEnd ?_
        exact Run.pick [1, 2, 7, 8, 10, 12, 13, 14, 27] (record_gaps_2_ok F (record_gaps_1 F N) ih v1 v2 v12 v13 v14 false x31.Start x31.Samples l27 sv12 q31_0 b22 s27 b25 b33 _ _ _ hv12 hq31_0 (hH35.pick [1, 2, 3, 0] rfl rfl) h)
    · have h := bif_f hc29 h
      refine Run.condF' rfl hc29 ?_
      refine Run.exit rfl (Run.seq (Run.region ?_))
      refine Run.opG wantS_none (ex_move rfl) rfl ?_
      refine Run.opG wantS_none (ex_move rfl) rfl ?_
      refine Run.opG wantS_none (ex_move rfl) rfl ?_
      refine Run.opG wantS_none (ex_build (r := [(.int .i64 v1), (.int .i64 v2)]) rfl zer81 pls81 rfl) rfl ?_
      refine Run.enter wantS_none (ex_closure rfl rfl mkk116 cal116) Tryz.func116 rfl rfl ?_
      refine Run.seq (Run.region ?_)
      refine Run.opX wantS_none rfl (ExG.box rfl rfl hH) ?_
      rintro _ M56 ⟨b55, rfl, hH56⟩
      refine Run.opsEnd (Run.seq (Run.region ?_))
      refine Run.opG wantS_none (ex_load1 rfl (hH56.cells (i := 3) rfl 0 rfl) rdLe_rfl agg176) rfl ?_
      refine Run.opG wantS_none (ex_nilP rfl) rfl ?_
      refine Run.opG wantS_none (ex_load1 rfl (hH56.cells (i := 1) rfl 0 rfl) rdLe_rfl agg71) rfl ?_
      refine Run.opG wantS_none (ex_len' rfl (hH56.slc (i := 2) rfl enc81_len) lenk71) rfl ?_
      refine Run.opG wantS_none (ex_sub rfl rfl) rfl ?_
      refine Run.opG wantS_none (ex_assign rfl) rfl ?_
      refine Run.opsEnd (Run.block (Run.seq (Run.region ?_)))
      refine Run.opG wantS_none (ex_fieldAddr rfl off81_0) rfl ?_
      refine Run.opG wantS_none (ex_load1 rfl (hH56.cells (i := 0) rfl 0 rfl) rdLe_rfl agg3) rfl ?_
      refine Run.opG wantS_none (ex_fieldAddr rfl off81_1) rfl ?_
      refine Run.opG wantS_none (ex_load1 rfl (hH56.cells (i := 0) rfl 1 rfl) rdLe_rfl agg3) rfl ?_
      refine Run.opG wantS_none (ex_eql rfl rfl) rfl ?_
      refine Run.opG wantS_none (ex_assign rfl) rfl ?_
      refine Run.opsEnd ?_
      rcases btf ((v1 == v2)) with hc57 | hc57
      · have h := bif_t hc57 h
        refine Run.condT' rfl hc57 ?_
        refine Run.skip (Run.inBlock ?_)
        refine Run.fallTo Tryz.func116 rfl res_nil rfl ?_
        refine Run.opsEnd (Run.seq (Run.region ?_))
        refine Run.opG wantS_none (ex_load1 rfl (hH56.cells (i := 1) rfl 0 rfl) rdLe_rfl agg71) rfl ?_
        refine Run.opG wantS_none (ex_assign rfl) rfl ?_
        refine Run.opsEnd ?_
        cases h
        exact Run.ret Tryz.func55 rfl (res_tmp rfl res_nil) ⟨_, rfl, (hH56.pick [2] rfl rfl).upF (none_le _)⟩
      · have h := bif_f hc57 h
        refine Run.condF' rfl hc57 ?_
        refine Run.seq ?_
        refine Run.drawG plan116_1_1_0_1_1_0 ?_
        refine DrawG.fl rfl (ev_ex wantS_none (ex_move rfl)) rfl ?_
        refine DrawG.fl rfl (ev_ex wantS_none (ex_geq rfl rfl)) rfl ?_
        refine DrawG.fl rfl (ev_ex wantS_none (ex_move rfl)) rfl ?_
        rcases btf ((decide ((0 : Int) ≤ (w64 ((l27.length : Int) - (1 : Int)))))) with hc58 | hc58
        · have h := bif_t hc58 h
          refine DrawG.fl rfl (ev_ex (wantS_yes' rfl rfl hc58) (ex_load1 rfl (hH56.cells (i := 3) rfl 0 rfl) rdLe_rfl agg176)) rfl ?_
          refine DrawG.fl rfl (ev_ex (wantS_yes' rfl rfl hc58) (ex_nilP rfl)) rfl ?_
          refine DrawG.fl rfl (ev_ex (wantS_yes' rfl rfl hc58) (ex_load1 rfl (hH56.cells (i := 1) rfl 0 rfl) rdLe_rfl agg71)) rfl ?_
          refine DrawG.fl rfl (ev_ex (wantS_yes' rfl rfl hc58) (ex_move rfl)) rfl ?_
          obtain ⟨x59, hx59, h⟩ := bnd_some h
          obtain ⟨p59, o59, hb59, hx59, he59⟩ := vec_elem (P := Tryz.prog) (t := 71) (kk := .i64) hH56 (i := 2) rfl hx59 els71
          refine DrawG.fl rfl (ev_ex (wantS_yes' rfl rfl hc58) (ex_elX rfl rfl hx59)) rfl ?_
          refine DrawG.fl rfl (ev_ex (wantS_yes' rfl rfl hc58) (ex_fieldAddr rfl off81_1)) rfl ?_
          refine DrawG.fl rfl (ev_ex (wantS_yes' rfl rfl hc58) (ex_load1 rfl ((hH56.at (enc := enc81) (a := x59) (i := 2) rfl hb59 he59 enc81_len).fld (o := 1) rfl) rdLe_rfl agg3)) rfl ?_
          refine DrawG.fl rfl (ev_ex (wantS_yes' rfl rfl hc58) (ex_fieldAddr rfl off81_0)) rfl ?_
          refine DrawG.fl rfl (ev_ex (wantS_yes' rfl rfl hc58) (ex_load1 rfl (hH56.cells (i := 0) rfl 0 rfl) rdLe_rfl agg3)) rfl ?_
          refine DrawG.fl rfl (ev_ex (wantS_yes' rfl rfl hc58) (ex_eql rfl rfl)) rfl ?_
          refine DrawG.fl rfl (ev_ex wantS_none (ex_pickT' rfl hc58 rfl rfl)) rfl ?_
          refine DrawG.fl rfl (ev_ex wantS_none (ex_assign rfl)) rfl ?_
          refine DrawG.sync ?_
          refine DrawG.nil ?_
          exact Run.low (.cons (fle_pick [7] rfl) .nil) (Run.pick [1, 2, 3, 23] (record_gaps_5_ok F (w64 ((l27.length : Int) - (1 : Int))) (x59.To == v1) (S_api_Span.mk v1 v2) l27 b25 b22 s27 b55 _ _ _ (hH56.pick [3, 1, 2, 0] rfl rfl) h))
        · have h := bif_f hc58 h
          refine DrawG.fl rfl (ev_no (wantS_not' rfl rfl hc58)) rfl ?_
          refine DrawG.fl rfl (ev_no (wantS_not' rfl rfl hc58)) rfl ?_
          refine DrawG.fl rfl (ev_no (wantS_not' rfl rfl hc58)) rfl ?_
          refine DrawG.fl rfl (ev_no (wantS_not' rfl rfl hc58)) rfl ?_
          refine DrawG.fl rfl (ev_no (wantS_not' rfl rfl hc58)) rfl ?_
          refine DrawG.fl rfl (ev_no (wantS_not' rfl rfl hc58)) rfl ?_
          refine DrawG.fl rfl (ev_no (wantS_not' rfl rfl hc58)) rfl ?_
          refine DrawG.fl rfl (ev_no (wantS_not' rfl rfl hc58)) rfl ?_
          refine DrawG.fl rfl (ev_no (wantS_not' rfl rfl hc58)) rfl ?_
          refine DrawG.fl rfl (ev_no (wantS_not' rfl rfl hc58)) rfl ?_
          refine DrawG.fl rfl (ev_ex wantS_none (ex_pickF' rfl hc58 rfl rfl)) rfl ?_
          refine DrawG.fl rfl (ev_ex wantS_none (ex_assign rfl)) rfl ?_
          refine DrawG.sync ?_
          refine DrawG.nil ?_
          exact Run.low (.cons (fle_pick [7] rfl) .nil) (Run.pick [1, 2, 3, 23] (record_gaps_5_ok F (w64 ((l27.length : Int) - (1 : Int))) false (S_api_Span.mk v1 v2) l27 b25 b22 s27 b55 _ _ _ (hH56.pick [3, 1, 2, 0] rfl rfl) h))

def record_gaps (F : Nat) (a0 : (List S_api_Frame)) (a1 a2 : Int) : Option ((List S_api_Span)) :=
  record_gaps_1 F F a1 a2 a0 (a0.length : Int) (0 : Int) ([] : List S_api_Span)

theorem record_gaps_ok (F : Nat) (a0 : (List S_api_Frame)) (a1 a2 : Int) (s0 : SV) (r : (List S_api_Span)) (M : Mem) (hs0 : Slc (rd M) 2 (rep84 (rd M)) s0 a0) (h : record_gaps F a0 a1 a2 = some r) : CallsM Tryz.prog 55 [s0, (.int .i64 a1), (.int .i64 a2)] M (fun s M' => ∃ q1, s = q1 ∧ New M M' [.vec 81 2 r.length q1 (r.flatMap enc81)]) := by
  refine CallsM.fresh (Q := record_gaps_post r) Tryz.func55 rfl rfl ?_ (by rintro s Me ⟨q1, rfl, hx⟩ ha hw; exact ⟨_, rfl, New.of rfl hx ha hw⟩)
  rw [record_gaps] at h
  replace hs0 := hs0.mono (rdLe_frozen M) (fun _ _ => rep84_mo (rdLe_frozen M))
  have hH := Has.nil (frozen M)
  refine Run.seq (Run.region ?_)
  refine Run.opG wantS_none (ex_assign rfl) rfl ?_
  refine Run.opsEnd (Run.seq (Run.region ?_))
  refine Run.opX wantS_none rfl (ExG.new (v := fun b => .ptr b 0) (ex_alloc zer71) hH) ?_
  rintro _ M23 ⟨b22, rfl, hH23⟩
  refine Run.opsEnd (Run.seq (Run.region ?_))
  refine Run.enter wantS_none (ex_call rfl mkk84 cal84) Tryz.func84 rfl rfl ?_
  refine Run.seq (Run.region ?_)
  refine Run.opX wantS_none rfl (ExG.box rfl rfl hH23) ?_
  rintro _ M26 ⟨b25, rfl, hH26⟩
  refine Run.opG wantS_none (ex_assign rfl) rfl ?_
  refine Run.opsEnd (Run.seq (Run.region ?_))
  refine Run.opG wantS_none (ex_makeFunc rfl rfl) rfl ?_
  refine Run.opG wantS_none (ex_assign rfl) rfl ?_
  refine Run.opsEnd ?_
  refine Run.retTo Tryz.func84 rfl (res_tmp rfl res_nil) rfl ?_
  refine Run.opG wantS_none (ex_assign rfl) rfl ?_
  refine Run.opsEnd (Run.seq (Run.seq (Run.region ?_)))
  refine Run.opG wantS_none (ex_move rfl) rfl ?_
  refine Run.opG wantS_none (ex_len' rfl hs0 lenk68) rfl ?_
  refine Run.opG wantS_none (ex_move rfl) rfl ?_
  refine Run.opsEnd (Run.block (Run.loop ?_))
  have hH28 : Has (ro (frozen M)) M26 [.vec 81 2 ([] : List S_api_Span).length .nils (([] : List S_api_Span).flatMap enc81), .obj b25 (.row 176 .whole [(.ptr b22 0)]), .obj b22 (.row 71 .whole [.nils])] := hH26.nils 81 2
  exact Run.pick [1, 2, 7, 8, 12, 13, 14] (record_gaps_1_ok F F a1 a2 a0 (a0.length : Int) (0 : Int) ([] : List S_api_Span) s0 b22 .nils b25 _ _ _ hs0 (hH28.pick [2, 0, 1] rfl rfl) h)

theorem mkk55 : makeK Tryz.prog 55 = none := by kernel_rfl
theorem cal55 : callable Tryz.prog 55 = true := by kernel_rfl
abbrev record_Gaps_post (r : (List S_api_Span) × Int) : SV → Mem → Prop := fun s Me => ∃ q1, s = (.tuple [q1, (.int .i64 r.2)]) ∧ Has (fun _ => none) Me [.vec 81 2 r.1.length q1 (r.1.flatMap enc81)]

def record_Gaps (F : Nat) (a0 : (List S_api_Channel)) (a1 : (List S_api_Frame)) (a2 a3 : Int) : Option ((List S_api_Span) × Int) :=
  bnd (record_checkSeconds F a0 a1 a2 a3) fun r22 =>
  bif (!(r22 == (0 : Int))) then
    some (([] : List S_api_Span), r22)
  else
    bnd (record_gaps F a1 a2 a3) fun r29 =>
    some (r29, (0 : Int))

theorem record_Gaps_ok (F : Nat) (a0 : (List S_api_Channel)) (a1 : (List S_api_Frame)) (a2 a3 : Int) (s0 s1 : SV) (r : (List S_api_Span) × Int) (M : Mem) (hs0 : Slc (rd M) 3 (FlatR enc86) s0 a0) (hs1 : Slc (rd M) 2 (rep84 (rd M)) s1 a1) (h : record_Gaps F a0 a1 a2 a3 = some r) : CallsM Tryz.prog 23 [s0, s1, (.int .i64 a2), (.int .i64 a3)] M (fun s M' => ∃ q1, s = (.tuple [q1, (.int .i64 r.2)]) ∧ New M M' [.vec 81 2 r.1.length q1 (r.1.flatMap enc81)]) := by
  refine CallsM.fresh (Q := record_Gaps_post r) Tryz.func23 rfl rfl ?_ (by rintro s Me ⟨q1, rfl, hx⟩ ha hw; exact ⟨_, rfl, New.of rfl hx ha hw⟩)
  rw [record_Gaps] at h
  replace hs0 := hs0.mono (rdLe_frozen M) (fun _ _ h => h)
  replace hs1 := hs1.mono (rdLe_frozen M) (fun _ _ => rep84_mo (rdLe_frozen M))
  have hH := Has.nil (frozen M)
  refine Run.seq (Run.region ?_)
  refine Run.opG wantS_none (ex_assign rfl) rfl ?_
  refine Run.opG wantS_none (ex_assign rfl) rfl ?_
  refine Run.opsEnd (Run.seq (Run.seq (Run.region ?_)))
  refine Run.opG wantS_none (ex_move rfl) rfl ?_
  refine Run.opG wantS_none (ex_move rfl) rfl ?_
  refine Run.opG wantS_none (ex_move rfl) rfl ?_
  refine Run.opG wantS_none (ex_move rfl) rfl ?_
  obtain ⟨r22, hr22, h⟩ := bnd_some h
  refine Run.callP wantS_none (ex_call rfl mkk54 cal54) rfl (record_checkSeconds_ok F a0 a1 a2 a3 s0 s1 _ _ (hH.slcF hs0) ((hs1).mono hH.le (fun _ _ => rep84_mo hH.le)) hr22) ?_
  refine Run.opG wantS_none (ex_assign rfl) rfl ?_
  refine Run.opsEnd (Run.seq (Run.region ?_))
  refine Run.opG wantS_none (ex_move rfl) rfl ?_
  refine Run.opG wantS_none (ex_neq rfl rfl) rfl ?_
  refine Run.opsEnd ?_
  rcases btf ((!(r22 == (0 : Int)))) with hc24 | hc24
  · have h := bif_t hc24 h
    refine Run.condT' rfl hc24 ?_
    refine Run.seq (Run.region ?_)
    refine Run.opG wantS_none (ex_move rfl) rfl ?_
    refine Run.opG wantS_none (ex_assign rfl) rfl ?_
    refine Run.opG wantS_none (ex_assign rfl) rfl ?_
    refine Run.opsEnd ?_
    have hH26 : Has (ro (frozen M)) (frozen M) [.vec 81 2 ([] : List S_api_Span).length .nils (([] : List S_api_Span).flatMap enc81)] := hH.nils 81 2
    cases h
    exact Run.ret Tryz.func23 rfl (res_tmp rfl (res_tmp rfl res_nil)) ⟨_, rfl, (hH26.pick [0] rfl rfl).upF (none_le _)⟩
  · have h := bif_f hc24 h
    refine Run.condF' rfl hc24 ?_
    refine Run.skip (Run.seq (Run.region ?_))
    refine Run.opG wantS_none (ex_move rfl) rfl ?_
    refine Run.opG wantS_none (ex_move rfl) rfl ?_
    refine Run.opG wantS_none (ex_move rfl) rfl ?_
    obtain ⟨r29, hr29, h⟩ := bnd_some h
    refine Run.callX wantS_none (ex_call rfl mkk55 cal55) rfl (record_gaps_ok F a1 a2 a3 s1 _ _ ((hs1).mono hH.le (fun _ _ => rep84_mo hH.le)) hr29) ?_
    rintro s29_0 M31 ⟨_, rfl, hN29⟩
    have hH31 : Has (ro (frozen M)) M31 [.vec 81 2 r29.length s29_0 (r29.flatMap enc81)] := hN29.1 _ _ hH
    refine Run.opG wantS_none (ex_assign rfl) rfl ?_
    refine Run.opG wantS_none (ex_assign rfl) rfl ?_
    refine Run.opsEnd ?_
    cases h
    exact Run.ret Tryz.func23 rfl (res_tmp rfl (res_tmp rfl res_nil)) ⟨_, rfl, (hH31.pick [0] rfl rfl).upF (none_le _)⟩

theorem mkk23 : makeK Tryz.prog 23 = none := by kernel_rfl
theorem cal23 : callable Tryz.prog 23 = true := by kernel_rfl
abbrev ref00_In_post (r : Bool) : SV → Mem → Prop := fun s _ => s = (.bool r)

def ref00_In_1 (F : Nat) (v14 : Bool) : Option (Bool) :=
  some v14

theorem ref00_In_1_ok (F : Nat) : ∀ (v14 : Bool) (Fr : Rd) (M : Mem) (r : Bool) (hH : Has Fr M []), ref00_In_1 F v14 = some r → Run Tryz.prog ⟨⟨22, [], none⟩, []⟩ 15 (ref00_In_post r) [(14, (.bool v14))] [itemC Tryz.prog 22 [1, 0] 8, codeC Tryz.prog 22 [1, 1]] M := by
  intro v14 Fr M r hH h
  rw [ref00_In_1] at h
  refine Run.opG wantS_none (ex_assign rfl) rfl ?_
  refine Run.opsEnd ?_
  cases h
  exact Run.ret Tryz.func22 rfl (res_tmp rfl res_nil) rfl

def ref00_In (F : Nat) (a0 a1 a2 : Int) : Option (Bool) :=
  bif (decide (a1 ≤ a0)) then
    ref00_In_1 F (decide (a0 ≤ a2))
  else
    ref00_In_1 F false

theorem ref00_In_ok (F : Nat) (a0 a1 a2 : Int) (r : Bool) (M : Mem) (h : ref00_In F a0 a1 a2 = some r) : CallsM Tryz.prog 22 [(.int .i64 a0), (.int .i64 a1), (.int .i64 a2)] M (fun s M' => s = (.bool r) ∧ M' = M) := by
  refine CallsM.plain Tryz.func22 rfl rfl rfl (show Run _ _ _ (ref00_In_post r) _ _ _ from ?_)
  rw [ref00_In] at h
  have hH := Has.nil (frozen M)
  refine Run.seq (Run.region ?_)
  refine Run.opG wantS_none (ex_assign rfl) rfl ?_
  refine Run.opsEnd (Run.seq (Run.region ?_))
  refine Run.opG wantS_none (ex_move rfl) rfl ?_
  refine Run.opG wantS_none (ex_move rfl) rfl ?_
  refine Run.opG wantS_none (ex_leq rfl rfl) rfl ?_
  refine Run.opG wantS_none (ex_move rfl) rfl ?_
  rcases btf ((decide (a1 ≤ a0))) with hc21 | hc21
  · have h := bif_t hc21 h
    refine Run.opG (wantS_yes' rfl rfl hc21) (ex_move rfl) rfl ?_
    refine Run.opG (wantS_yes' rfl rfl hc21) (ex_move rfl) rfl ?_
    refine Run.opG (wantS_yes' rfl rfl hc21) (ex_leq rfl rfl) rfl ?_
    refine Run.opG wantS_none (ex_pickT' rfl hc21 rfl rfl) rfl ?_
    exact Run.pick [14] (ref00_In_1_ok F (decide (a0 ≤ a2)) _ _ _ hH h)
  · have h := bif_f hc21 h
    refine Run.no (wantS_not' rfl rfl hc21) rfl ?_
    refine Run.no (wantS_not' rfl rfl hc21) rfl ?_
    refine Run.no (wantS_not' rfl rfl hc21) rfl ?_
    refine Run.opG wantS_none (ex_pickF' rfl hc21 rfl rfl) rfl ?_
    exact Run.pick [14] (ref00_In_1_ok F false _ _ _ hH h)

theorem mkk22 : makeK Tryz.prog 22 = none := by kernel_rfl
theorem cal22 : callable Tryz.prog 22 = true := by kernel_rfl
theorem whs9 : whole Tryz.prog 9 = some .str := by kernel_rfl
abbrev ref01_IsName_post (r : Bool) : SV → Mem → Prop := fun s _ => s = (.bool r)

def ref01_IsName_8 (F : Nat) (hd4 : (List UInt8) → Int → Option (Bool)) (v0 : (List UInt8)) (v3 : Int) (v49 : Bool) : Option (Bool) :=
  bif v49 then
    some false
  else
    hd4 v0 (w64 (v3 + (1 : Int)))

theorem ref01_IsName_8_ok (F : Nat) (hd4 : (List UInt8) → Int → Option (Bool)) (hhd4 : ∀ (v0 : (List UInt8)) (v3 : Int) (Fr : Rd) (M : Mem) (r : Bool) (hH : Has Fr M []), hd4 v0 v3 = some r → Run Tryz.prog ⟨⟨142, [], none⟩, []⟩ 50 (ref01_IsName_post r) [(0, (.str v0)), (3, (.int .i64 v3))] [codeC Tryz.prog 142 [1, 1, 0, 1, 0, 0], loopC Tryz.prog 142 [1, 1, 0, 1, 0, 0], .inBlock 0, codeC Tryz.prog 142 [1, 1, 1]] M) : ∀ (v0 : (List UInt8)) (v3 : Int) (v49 : Bool) (Fr : Rd) (M : Mem) (r : Bool) (hH : Has Fr M []), ref01_IsName_8 F hd4 v0 v3 v49 = some r → Run Tryz.prog ⟨⟨142, [], none⟩, []⟩ 50 (ref01_IsName_post r) [(0, (.str v0)), (3, (.int .i64 v3)), (49, (.bool v49))] [codeC Tryz.prog 142 [1, 1, 0, 1, 0, 0, 1, 0, 0, 1, 1], .inBlock 1, codeC Tryz.prog 142 [1, 1, 0, 1, 0, 0, 1, 1], loopC Tryz.prog 142 [1, 1, 0, 1, 0, 0], .inBlock 0, codeC Tryz.prog 142 [1, 1, 1]] M := by
  intro v0 v3 v49 Fr M r hH h
  rw [ref01_IsName_8] at h
  rcases btf (v49) with hc32 | hc32
  · have h := bif_t hc32 h
    refine Run.condT' rfl hc32 ?_
    refine Run.seq (Run.region ?_)
    refine Run.opG wantS_none (ex_assign rfl) rfl ?_
    refine Run.opsEnd ?_
    cases h
    exact Run.ret Tryz.func142 rfl (res_tmp rfl res_nil) rfl
  · have h := bif_f hc32 h
    refine Run.condF' rfl hc32 ?_
    refine Run.skip (Run.inBlock (Run.region ?_))
    refine Run.opG wantS_none (ex_move rfl) rfl ?_
    refine Run.opG wantS_none (ex_add rfl rfl) rfl ?_
    refine Run.opG wantS_none (ex_assign rfl) rfl ?_
    refine Run.opsEnd (Run.inLoop ?_)
    exact Run.pick [0, 3] (hhd4 v0 (w64 (v3 + (1 : Int))) _ _ _ hH h)

def ref01_IsName_7 (F : Nat) (hd4 : (List UInt8) → Int → Option (Bool)) (v0 : (List UInt8)) (v3 v4 : Int) (v45 : Bool) : Option (Bool) :=
  bif v45 then
    ref01_IsName_8 F hd4 v0 v3 (!(v4 == (95 : Int)))
  else
    ref01_IsName_8 F hd4 v0 v3 false

theorem ref01_IsName_7_ok (F : Nat) (hd4 : (List UInt8) → Int → Option (Bool)) (hhd4 : ∀ (v0 : (List UInt8)) (v3 : Int) (Fr : Rd) (M : Mem) (r : Bool) (hH : Has Fr M []), hd4 v0 v3 = some r → Run Tryz.prog ⟨⟨142, [], none⟩, []⟩ 50 (ref01_IsName_post r) [(0, (.str v0)), (3, (.int .i64 v3))] [codeC Tryz.prog 142 [1, 1, 0, 1, 0, 0], loopC Tryz.prog 142 [1, 1, 0, 1, 0, 0], .inBlock 0, codeC Tryz.prog 142 [1, 1, 1]] M) : ∀ (v0 : (List UInt8)) (v3 v4 : Int) (v45 : Bool) (Fr : Rd) (M : Mem) (r : Bool) (hH : Has Fr M []), ref01_IsName_7 F hd4 v0 v3 v4 v45 = some r → Run Tryz.prog ⟨⟨142, [], none⟩, []⟩ 50 (ref01_IsName_post r) [(0, (.str v0)), (3, (.int .i64 v3)), (4, (.int .u8 v4)), (45, (.bool v45))] [itemC Tryz.prog 142 [1, 1, 0, 1, 0, 0, 1, 0, 0, 1, 0] 14, codeC Tryz.prog 142 [1, 1, 0, 1, 0, 0, 1, 0, 0, 1, 1], .inBlock 1, codeC Tryz.prog 142 [1, 1, 0, 1, 0, 0, 1, 1], loopC Tryz.prog 142 [1, 1, 0, 1, 0, 0], .inBlock 0, codeC Tryz.prog 142 [1, 1, 1]] M := by
  intro v0 v3 v4 v45 Fr M r hH h
  rw [ref01_IsName_7] at h
  refine Run.opG wantS_none (ex_move rfl) rfl ?_
  rcases btf (v45) with hc31 | hc31
  · have h := bif_t hc31 h
    refine Run.opG (wantS_yes' rfl rfl hc31) (ex_move rfl) rfl ?_
    refine Run.opG (wantS_yes' rfl rfl hc31) (ex_neq rfl rfl) rfl ?_
    refine Run.opG wantS_none (ex_pickT' rfl hc31 rfl rfl) rfl ?_
    refine Run.opsEnd ?_
    exact Run.pick [0, 3, 49] (ref01_IsName_8_ok F hd4 hhd4 v0 v3 (!(v4 == (95 : Int))) _ _ _ hH h)
  · have h := bif_f hc31 h
    refine Run.no (wantS_not' rfl rfl hc31) rfl ?_
    refine Run.no (wantS_not' rfl rfl hc31) rfl ?_
    refine Run.opG wantS_none (ex_pickF' rfl hc31 rfl rfl) rfl ?_
    refine Run.opsEnd ?_
    exact Run.pick [0, 3, 49] (ref01_IsName_8_ok F hd4 hhd4 v0 v3 false _ _ _ hH h)

def ref01_IsName_6 (F : Nat) (hd4 : (List UInt8) → Int → Option (Bool)) (v0 : (List UInt8)) (v3 v4 : Int) (v38 v44 : Bool) : Option (Bool) :=
  ref01_IsName_7 F hd4 v0 v3 v4 (bif v38 then v44 else false)

theorem ref01_IsName_6_ok (F : Nat) (hd4 : (List UInt8) → Int → Option (Bool)) (hhd4 : ∀ (v0 : (List UInt8)) (v3 : Int) (Fr : Rd) (M : Mem) (r : Bool) (hH : Has Fr M []), hd4 v0 v3 = some r → Run Tryz.prog ⟨⟨142, [], none⟩, []⟩ 50 (ref01_IsName_post r) [(0, (.str v0)), (3, (.int .i64 v3))] [codeC Tryz.prog 142 [1, 1, 0, 1, 0, 0], loopC Tryz.prog 142 [1, 1, 0, 1, 0, 0], .inBlock 0, codeC Tryz.prog 142 [1, 1, 1]] M) : ∀ (v0 : (List UInt8)) (v3 v4 : Int) (v38 v44 : Bool) (Fr : Rd) (M : Mem) (r : Bool) (hH : Has Fr M []), ref01_IsName_6 F hd4 v0 v3 v4 v38 v44 = some r → Run Tryz.prog ⟨⟨142, [], none⟩, []⟩ 50 (ref01_IsName_post r) [(0, (.str v0)), (3, (.int .i64 v3)), (4, (.int .u8 v4)), (38, (.bool v38)), (44, (.bool v44))] [itemC Tryz.prog 142 [1, 1, 0, 1, 0, 0, 1, 0, 0, 1, 0] 13, codeC Tryz.prog 142 [1, 1, 0, 1, 0, 0, 1, 0, 0, 1, 1], .inBlock 1, codeC Tryz.prog 142 [1, 1, 0, 1, 0, 0, 1, 1], loopC Tryz.prog 142 [1, 1, 0, 1, 0, 0], .inBlock 0, codeC Tryz.prog 142 [1, 1, 1]] M := by
  intro v0 v3 v4 v38 v44 Fr M r hH h
  rw [ref01_IsName_6] at h
  refine Run.opG wantS_none (ex_pickB rfl rfl rfl) rfl ?_
  exact Run.pick [0, 3, 4, 45] (ref01_IsName_7_ok F hd4 hhd4 v0 v3 v4 (bif v38 then v44 else false) _ _ _ hH h)

def ref01_IsName_9 (F : Nat) (hd4 : (List UInt8) → Int → Option (Bool)) (v0 : (List UInt8)) (v3 v4 : Int) (v38 : Bool) : Option (Bool) :=
  bif v38 then
    none
  else
    ref01_IsName_7 F hd4 v0 v3 v4 false

theorem ref01_IsName_9_ok (F : Nat) (hd4 : (List UInt8) → Int → Option (Bool)) (hhd4 : ∀ (v0 : (List UInt8)) (v3 : Int) (Fr : Rd) (M : Mem) (r : Bool) (hH : Has Fr M []), hd4 v0 v3 = some r → Run Tryz.prog ⟨⟨142, [], none⟩, []⟩ 50 (ref01_IsName_post r) [(0, (.str v0)), (3, (.int .i64 v3))] [codeC Tryz.prog 142 [1, 1, 0, 1, 0, 0], loopC Tryz.prog 142 [1, 1, 0, 1, 0, 0], .inBlock 0, codeC Tryz.prog 142 [1, 1, 1]] M) : ∀ (v0 : (List UInt8)) (v3 v4 : Int) (v38 : Bool) (Fr : Rd) (M : Mem) (r : Bool) (hH : Has Fr M []), ref01_IsName_9 F hd4 v0 v3 v4 v38 = some r → Run Tryz.prog ⟨⟨142, [], none⟩, []⟩ 50 (ref01_IsName_post r) [(0, (.str v0)), (3, (.int .i64 v3)), (4, (.int .u8 v4)), (38, (.bool v38)), (44, (.tuple []))] [itemC Tryz.prog 142 [1, 1, 0, 1, 0, 0, 1, 0, 0, 1, 0] 13, codeC Tryz.prog 142 [1, 1, 0, 1, 0, 0, 1, 0, 0, 1, 1], .inBlock 1, codeC Tryz.prog 142 [1, 1, 0, 1, 0, 0, 1, 1], loopC Tryz.prog 142 [1, 1, 0, 1, 0, 0], .inBlock 0, codeC Tryz.prog 142 [1, 1, 1]] M := by
  intro v0 v3 v4 v38 Fr M r hH h
  rw [ref01_IsName_9] at h
  rcases btf (v38) with hc33 | hc33
  · have h := bif_t hc33 h
    cases h
  · have h := bif_f hc33 h
    refine Run.opG wantS_none (ex_pickF' rfl hc33 rfl rfl) rfl ?_
    exact Run.pick [0, 3, 4, 45] (ref01_IsName_7_ok F hd4 hhd4 v0 v3 v4 false _ _ _ hH h)

def ref01_IsName_5 (F : Nat) (hd4 : (List UInt8) → Int → Option (Bool)) (v0 : (List UInt8)) (v3 v4 : Int) (v37 : Bool) : Option (Bool) :=
  bif v37 then
    bif (decide (v4 < (48 : Int))) then
      ref01_IsName_6 F hd4 v0 v3 v4 v37 true
    else
      ref01_IsName_6 F hd4 v0 v3 v4 v37 (decide ((57 : Int) < v4))
  else
    ref01_IsName_9 F hd4 v0 v3 v4 v37

theorem ref01_IsName_5_ok (F : Nat) (hd4 : (List UInt8) → Int → Option (Bool)) (hhd4 : ∀ (v0 : (List UInt8)) (v3 : Int) (Fr : Rd) (M : Mem) (r : Bool) (hH : Has Fr M []), hd4 v0 v3 = some r → Run Tryz.prog ⟨⟨142, [], none⟩, []⟩ 50 (ref01_IsName_post r) [(0, (.str v0)), (3, (.int .i64 v3))] [codeC Tryz.prog 142 [1, 1, 0, 1, 0, 0], loopC Tryz.prog 142 [1, 1, 0, 1, 0, 0], .inBlock 0, codeC Tryz.prog 142 [1, 1, 1]] M) : ∀ (v0 : (List UInt8)) (v3 v4 : Int) (v37 : Bool) (Fr : Rd) (M : Mem) (r : Bool) (hH : Has Fr M []), ref01_IsName_5 F hd4 v0 v3 v4 v37 = some r → Run Tryz.prog ⟨⟨142, [], none⟩, []⟩ 50 (ref01_IsName_post r) [(0, (.str v0)), (3, (.int .i64 v3)), (4, (.int .u8 v4)), (37, (.bool v37))] [itemC Tryz.prog 142 [1, 1, 0, 1, 0, 0, 1, 0, 0, 1, 0] 6, codeC Tryz.prog 142 [1, 1, 0, 1, 0, 0, 1, 0, 0, 1, 1], .inBlock 1, codeC Tryz.prog 142 [1, 1, 0, 1, 0, 0, 1, 1], loopC Tryz.prog 142 [1, 1, 0, 1, 0, 0], .inBlock 0, codeC Tryz.prog 142 [1, 1, 1]] M := by
  intro v0 v3 v4 v37 Fr M r hH h
  rw [ref01_IsName_5] at h
  refine Run.opG wantS_none (ex_move rfl) rfl ?_
  rcases btf (v37) with hc29 | hc29
  · have h := bif_t hc29 h
    refine Run.opG (wantS_yes' rfl rfl hc29) (ex_move rfl) rfl ?_
    refine Run.opG (wantS_yes' rfl rfl hc29) (ex_lss rfl rfl) rfl ?_
    refine Run.opG (wantS_yes' rfl rfl hc29) (ex_move rfl) rfl ?_
    rcases btf ((decide (v4 < (48 : Int)))) with hc30 | hc30
    · have h := bif_t hc30 h
      refine Run.no (wantS_not' rfl rfl hc30) rfl ?_
      refine Run.no (wantS_not' rfl rfl hc30) rfl ?_
      refine Run.opG (wantS_yes' rfl rfl hc29) (ex_pickT' rfl hc30 rfl rfl) rfl ?_
      exact Run.pick [0, 3, 4, 38, 44] (ref01_IsName_6_ok F hd4 hhd4 v0 v3 v4 v37 true _ _ _ hH h)
    · have h := bif_f hc30 h
      refine Run.opG (wantS_yes' rfl rfl hc30) (ex_move rfl) rfl ?_
      refine Run.opG (wantS_yes' rfl rfl hc30) (ex_gtr rfl rfl) rfl ?_
      refine Run.opG (wantS_yes' rfl rfl hc29) (ex_pickF' rfl hc30 rfl rfl) rfl ?_
      exact Run.pick [0, 3, 4, 38, 44] (ref01_IsName_6_ok F hd4 hhd4 v0 v3 v4 v37 (decide ((57 : Int) < v4)) _ _ _ hH h)
  · have h := bif_f hc29 h
    refine Run.no (wantS_not' rfl rfl hc29) rfl ?_
    refine Run.no (wantS_not' rfl rfl hc29) rfl ?_
    refine Run.no (wantS_not' rfl rfl hc29) rfl ?_
    refine Run.no (wantS_skip rfl rfl) rfl ?_
    refine Run.no (wantS_skip rfl rfl) rfl ?_
    refine Run.no (wantS_not' rfl rfl hc29) rfl ?_
    exact Run.pick [0, 3, 4, 38, 44] (ref01_IsName_9_ok F hd4 hhd4 v0 v3 v4 v37 _ _ _ hH h)

def ref01_IsName_4 (F : Nat) : Nat → (List UInt8) → Int → Option (Bool)
  | 0, _, _ => none
  | N + 1, v0, v3 =>
    bif (decide (v3 < (v0.length : Int))) then
      bnd (sAt v0 v3) fun z27 =>
      bif (decide (z27 < (97 : Int))) then
        ref01_IsName_5 F (ref01_IsName_4 F N) v0 v3 z27 true
      else
        ref01_IsName_5 F (ref01_IsName_4 F N) v0 v3 z27 (decide ((122 : Int) < z27))
    else
      some true

theorem ref01_IsName_4_ok (F : Nat) : ∀ (N : Nat), ∀ (v0 : (List UInt8)) (v3 : Int) (Fr : Rd) (M : Mem) (r : Bool) (hH : Has Fr M []), ref01_IsName_4 F N v0 v3 = some r → Run Tryz.prog ⟨⟨142, [], none⟩, []⟩ 50 (ref01_IsName_post r) [(0, (.str v0)), (3, (.int .i64 v3))] [codeC Tryz.prog 142 [1, 1, 0, 1, 0, 0], loopC Tryz.prog 142 [1, 1, 0, 1, 0, 0], .inBlock 0, codeC Tryz.prog 142 [1, 1, 1]] M := by
  intro N
  induction N with
  | zero =>
    intro v0 v3 Fr M r hH h
    simp [ref01_IsName_4] at h
  | succ N ih =>
    intro v0 v3 Fr M r hH h
    rw [ref01_IsName_4] at h
    refine Run.seq (Run.seq (Run.region ?_))
    refine Run.opG wantS_none (ex_move rfl) rfl ?_
    refine Run.opG wantS_none (ex_move rfl) rfl ?_
    refine Run.opG wantS_none (ex_lenS rfl lenk9) rfl ?_
    refine Run.opG wantS_none (ex_lss rfl rfl) rfl ?_
    refine Run.opsEnd ?_
    rcases btf ((decide (v3 < (v0.length : Int)))) with hc25 | hc25
    · have h := bif_t hc25 h
      refine Run.condT' rfl hc25 ?_
      refine Run.skip (Run.seq (Run.block (Run.seq (Run.region ?_))))
      refine Run.opG wantS_none (ex_move rfl) rfl ?_
      refine Run.opG wantS_none (ex_move rfl) rfl ?_
      obtain ⟨z27, hz27, h⟩ := bnd_some h
      refine Run.opG wantS_none (ex_sAt rfl rfl whs9 hz27) rfl ?_
      refine Run.opG wantS_none (ex_assign rfl) rfl ?_
      refine Run.opsEnd (Run.seq (Run.region ?_))
      refine Run.opG wantS_none (ex_move rfl) rfl ?_
      refine Run.opG wantS_none (ex_lss rfl rfl) rfl ?_
      refine Run.opG wantS_none (ex_move rfl) rfl ?_
      rcases btf ((decide (z27 < (97 : Int)))) with hc28 | hc28
      · have h := bif_t hc28 h
        refine Run.no (wantS_not' rfl rfl hc28) rfl ?_
        refine Run.no (wantS_not' rfl rfl hc28) rfl ?_
        refine Run.opG wantS_none (ex_pickT' rfl hc28 rfl rfl) rfl ?_
        exact Run.pick [0, 3, 4, 37] (ref01_IsName_5_ok F (ref01_IsName_4 F N) ih v0 v3 z27 true _ _ _ hH h)
      · have h := bif_f hc28 h
        refine Run.opG (wantS_yes' rfl rfl hc28) (ex_move rfl) rfl ?_
        refine Run.opG (wantS_yes' rfl rfl hc28) (ex_gtr rfl rfl) rfl ?_
        refine Run.opG wantS_none (ex_pickF' rfl hc28 rfl rfl) rfl ?_
        exact Run.pick [0, 3, 4, 37] (ref01_IsName_5_ok F (ref01_IsName_4 F N) ih v0 v3 z27 (decide ((122 : Int) < z27)) _ _ _ hH h)
    · have h := bif_f hc25 h
      refine Run.condF' rfl hc25 ?_
      refine Run.exit rfl (Run.seq (Run.region ?_))
      refine Run.opG wantS_none (ex_assign rfl) rfl ?_
      refine Run.opsEnd ?_
      cases h
      exact Run.ret Tryz.func142 rfl (res_tmp rfl res_nil) rfl

def ref01_IsName_3 (F : Nat) (v0 : (List UInt8)) (v22 : Bool) : Option (Bool) :=
  bif v22 then
    some false
  else
    ref01_IsName_4 F F v0 (0 : Int)

theorem ref01_IsName_3_ok (F : Nat) : ∀ (v0 : (List UInt8)) (v22 : Bool) (Fr : Rd) (M : Mem) (r : Bool) (hH : Has Fr M []), ref01_IsName_3 F v0 v22 = some r → Run Tryz.prog ⟨⟨142, [], none⟩, []⟩ 50 (ref01_IsName_post r) [(0, (.str v0)), (22, (.bool v22))] [codeC Tryz.prog 142 [1, 0, 1], codeC Tryz.prog 142 [1, 1]] M := by
  intro v0 v22 Fr M r hH h
  rw [ref01_IsName_3] at h
  rcases btf (v22) with hc24 | hc24
  · have h := bif_t hc24 h
    refine Run.condT' rfl hc24 ?_
    refine Run.seq (Run.region ?_)
    refine Run.opG wantS_none (ex_assign rfl) rfl ?_
    refine Run.opsEnd ?_
    cases h
    exact Run.ret Tryz.func142 rfl (res_tmp rfl res_nil) rfl
  · have h := bif_f hc24 h
    refine Run.condF' rfl hc24 ?_
    refine Run.skip (Run.seq (Run.seq (Run.region ?_)))
    refine Run.opG wantS_none (ex_assign rfl) rfl ?_
    refine Run.opsEnd (Run.block (Run.loop ?_))
    exact Run.pick [0, 3] (ref01_IsName_4_ok F F v0 (0 : Int) _ _ _ hH h)

def ref01_IsName_2 (F : Nat) (v0 : (List UInt8)) (v17 : Bool) : Option (Bool) :=
  bif v17 then
    ref01_IsName_3 F v0 true
  else
    bnd (sAt v0 (0 : Int)) fun z35 =>
    ref01_IsName_3 F v0 (decide ((122 : Int) < z35))

theorem ref01_IsName_2_ok (F : Nat) : ∀ (v0 : (List UInt8)) (v17 : Bool) (Fr : Rd) (M : Mem) (r : Bool) (hH : Has Fr M []), ref01_IsName_2 F v0 v17 = some r → Run Tryz.prog ⟨⟨142, [], none⟩, []⟩ 50 (ref01_IsName_post r) [(0, (.str v0)), (17, (.bool v17))] [itemC Tryz.prog 142 [1, 0, 0] 13, codeC Tryz.prog 142 [1, 0, 1], codeC Tryz.prog 142 [1, 1]] M := by
  intro v0 v17 Fr M r hH h
  rw [ref01_IsName_2] at h
  refine Run.opG wantS_none (ex_move rfl) rfl ?_
  rcases btf (v17) with hc23 | hc23
  · have h := bif_t hc23 h
    refine Run.no (wantS_not' rfl rfl hc23) rfl ?_
    refine Run.no (wantS_not' rfl rfl hc23) rfl ?_
    refine Run.no (wantS_not' rfl rfl hc23) rfl ?_
    refine Run.opG wantS_none (ex_pickT' rfl hc23 rfl rfl) rfl ?_
    refine Run.opsEnd ?_
    exact Run.pick [0, 22] (ref01_IsName_3_ok F v0 true _ _ _ hH h)
  · have h := bif_f hc23 h
    refine Run.opG (wantS_yes' rfl rfl hc23) (ex_move rfl) rfl ?_
    obtain ⟨z35, hz35, h⟩ := bnd_some h
    refine Run.opG (wantS_yes' rfl rfl hc23) (ex_sAt rfl rfl whs9 hz35) rfl ?_
    refine Run.opG (wantS_yes' rfl rfl hc23) (ex_gtr rfl rfl) rfl ?_
    refine Run.opG wantS_none (ex_pickF' rfl hc23 rfl rfl) rfl ?_
    refine Run.opsEnd ?_
    exact Run.pick [0, 22] (ref01_IsName_3_ok F v0 (decide ((122 : Int) < z35)) _ _ _ hH h)

def ref01_IsName_1 (F : Nat) (v0 : (List UInt8)) (v12 : Bool) : Option (Bool) :=
  bif v12 then
    ref01_IsName_2 F v0 true
  else
    bnd (sAt v0 (0 : Int)) fun z37 =>
    ref01_IsName_2 F v0 (decide (z37 < (97 : Int)))

theorem ref01_IsName_1_ok (F : Nat) : ∀ (v0 : (List UInt8)) (v12 : Bool) (Fr : Rd) (M : Mem) (r : Bool) (hH : Has Fr M []), ref01_IsName_1 F v0 v12 = some r → Run Tryz.prog ⟨⟨142, [], none⟩, []⟩ 50 (ref01_IsName_post r) [(0, (.str v0)), (12, (.bool v12))] [itemC Tryz.prog 142 [1, 0, 0] 8, codeC Tryz.prog 142 [1, 0, 1], codeC Tryz.prog 142 [1, 1]] M := by
  intro v0 v12 Fr M r hH h
  rw [ref01_IsName_1] at h
  refine Run.opG wantS_none (ex_move rfl) rfl ?_
  rcases btf (v12) with hc22 | hc22
  · have h := bif_t hc22 h
    refine Run.no (wantS_not' rfl rfl hc22) rfl ?_
    refine Run.no (wantS_not' rfl rfl hc22) rfl ?_
    refine Run.no (wantS_not' rfl rfl hc22) rfl ?_
    refine Run.opG wantS_none (ex_pickT' rfl hc22 rfl rfl) rfl ?_
    exact Run.pick [0, 17] (ref01_IsName_2_ok F v0 true _ _ _ hH h)
  · have h := bif_f hc22 h
    refine Run.opG (wantS_yes' rfl rfl hc22) (ex_move rfl) rfl ?_
    obtain ⟨z37, hz37, h⟩ := bnd_some h
    refine Run.opG (wantS_yes' rfl rfl hc22) (ex_sAt rfl rfl whs9 hz37) rfl ?_
    refine Run.opG (wantS_yes' rfl rfl hc22) (ex_lss rfl rfl) rfl ?_
    refine Run.opG wantS_none (ex_pickF' rfl hc22 rfl rfl) rfl ?_
    exact Run.pick [0, 17] (ref01_IsName_2_ok F v0 (decide (z37 < (97 : Int))) _ _ _ hH h)

def ref01_IsName (F : Nat) (a0 : (List UInt8)) : Option (Bool) :=
  bif (decide ((a0.length : Int) < (1 : Int))) then
    ref01_IsName_1 F a0 true
  else
    ref01_IsName_1 F a0 (decide ((16 : Int) < (a0.length : Int)))

theorem ref01_IsName_ok (F : Nat) (a0 : (List UInt8)) (r : Bool) (M : Mem) (h : ref01_IsName F a0 = some r) : CallsM Tryz.prog 142 [(.str a0)] M (fun s M' => s = (.bool r) ∧ M' = M) := by
  refine CallsM.plain Tryz.func142 rfl rfl rfl (show Run _ _ _ (ref01_IsName_post r) _ _ _ from ?_)
  rw [ref01_IsName] at h
  have hH := Has.nil (frozen M)
  refine Run.seq (Run.region ?_)
  refine Run.opG wantS_none (ex_assign rfl) rfl ?_
  refine Run.opsEnd (Run.seq (Run.seq (Run.region ?_)))
  refine Run.opG wantS_none (ex_move rfl) rfl ?_
  refine Run.opG wantS_none (ex_lenS rfl lenk9) rfl ?_
  refine Run.opG wantS_none (ex_lss rfl rfl) rfl ?_
  refine Run.opG wantS_none (ex_move rfl) rfl ?_
  rcases btf ((decide ((a0.length : Int) < (1 : Int)))) with hc21 | hc21
  · have h := bif_t hc21 h
    refine Run.no (wantS_not' rfl rfl hc21) rfl ?_
    refine Run.no (wantS_not' rfl rfl hc21) rfl ?_
    refine Run.no (wantS_not' rfl rfl hc21) rfl ?_
    refine Run.opG wantS_none (ex_pickT' rfl hc21 rfl rfl) rfl ?_
    exact Run.pick [0, 12] (ref01_IsName_1_ok F a0 true _ _ _ hH h)
  · have h := bif_f hc21 h
    refine Run.opG (wantS_yes' rfl rfl hc21) (ex_move rfl) rfl ?_
    refine Run.opG (wantS_yes' rfl rfl hc21) (ex_lenS rfl lenk9) rfl ?_
    refine Run.opG (wantS_yes' rfl rfl hc21) (ex_gtr rfl rfl) rfl ?_
    refine Run.opG wantS_none (ex_pickF' rfl hc21 rfl rfl) rfl ?_
    exact Run.pick [0, 12] (ref01_IsName_1_ok F a0 (decide ((16 : Int) < (a0.length : Int))) _ _ _ hH h)

theorem mkk142 : makeK Tryz.prog 142 = none := by kernel_rfl
theorem cal142 : callable Tryz.prog 142 = true := by kernel_rfl
theorem elt26 : sliceElt Tryz.prog 26 = some (⟨1, 8, [(.int .i64 0)], 3⟩ : Elt) := by kernel_rfl
end Go.Ev.RecordSpans
