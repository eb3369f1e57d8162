/- Plain functions that say what functions of the program come to, and proofs of it, written by a program of the verifier's own. -/
import Derived.Test.YtmdeiglnjimlnaaEvL11
import Derived.Test.YtmdeiglnjimlnaaEvL16
import Derived.Test.YtmdeiglnjimlnaaWorks
import Derived.KernelRfl
namespace Go.Ev.SearchVetoed
open Go Go.Ev Go.Proofs
set_option maxRecDepth 100000
set_option linter.unusedVariables false

/-- The listed tables. -/
noncomputable def fixes : List (Nat × List SV) := Go.Proofs.Ytmdeiglnjimlnaa.works.fixes
/-- works() comes to true. -/
def works (_ : Nat) : Option Bool := some true
theorem fixH {Fr : Rd} {H : List Ent} {M : Mem} (hH : Has Fr M H) : FixIn M fixes := fun x hx => absurd hx List.not_mem_nil

theorem works_ok (F : Nat) (r : Bool) {Fr : Rd} {H : List Ent} (M : Mem) (hH : Has Fr M H) (h : works F = some r) : CallsM Try.prog 6 [] M fun s M' => s = .bool r ∧ M' = M := by
  cases h
  exact CallsM.closedFix (n := 300) (l := Go.Proofs.Ytmdeiglnjimlnaa.works.fixes) Go.Proofs.Ytmdeiglnjimlnaa.works.below Go.Proofs.Ytmdeiglnjimlnaa.works.plainF Go.Proofs.Ytmdeiglnjimlnaa.works.works_true (fun x hx => absurd hx List.not_mem_nil)


structure S_api_Trigger where
  Time : Int
  Loud : Int
  Template : Int

structure S_ringdownlaw08_Clock where
  Live : Int
  Window : Int
  Step : Int
  Limit : Int

structure S_api_Segment where
  From : Int
  To : Int

structure S_api_Veto where
  Name : (List UInt8)
  Segments : (List S_api_Segment)

def enc43 (a : S_api_Trigger) : List SV := [(.int .i64 a.Time), (.int .i64 a.Loud), (.int .i64 a.Template)]
theorem enc43_len (a : S_api_Trigger) : (enc43 a).length = 3 := rfl
theorem enc43_ones (a : S_api_Trigger) : ones (enc43 a) = true := rfl
def enc151 (a : S_api_Segment) : List SV := [(.int .i64 a.From), (.int .i64 a.To)]
theorem enc151_len (a : S_api_Segment) : (enc151 a).length = 2 := rfl
theorem enc151_ones (a : S_api_Segment) : ones (enc151 a) = true := rfl
def rep120 (f : Rd) (cs : List SV) (a : S_api_Veto) : Prop := ∃ q1, cs = [(.str a.Name), q1] ∧ Slc f 2 (FlatR enc151) q1 a.Segments
theorem rep120_mo {f g : Rd} (h : RdLe f g) {cs : List SV} {a : S_api_Veto} : rep120 f cs a → rep120 g cs a := by
  rintro ⟨q1, rfl, h0⟩
  exact ⟨q1, rfl, h0.mono h (fun _ _ h => h)⟩
theorem rep120_len {f : Rd} {cs : List SV} {a : S_api_Veto} : rep120 f cs a → cs.length = 2 := by
  rintro ⟨_, rfl, h0⟩
  rfl
theorem rep120_ones {f : Rd} {cs : List SV} {a : S_api_Veto} : rep120 f cs a → ones cs = true := by
  rintro ⟨_, rfl, h0⟩
  exact (ones_cons rfl (ones_cons (slc_one h0) ones_nil))
theorem lenk38 : lenK Try.prog 38 = some .sl := by kernel_rfl
theorem els38 : elems Try.prog 38 = some (.sl 3) := by kernel_rfl
theorem off43_0 : fieldOff Try.prog 43 0 = some 0 := by kernel_rfl
theorem agg3 : aggSize Try.prog 3 = some none := by kernel_rfl
def enc3 (a : Int) : List SV := [(.int .i64 a)]
theorem enc3_len (a : Int) : (enc3 a).length = 1 := rfl
theorem enc3_ones (a : Int) : ones (enc3 a) = true := rfl
theorem elt22 : sliceElt Try.prog 22 = some (⟨1, 8, [(.int .i64 0)], 3⟩ : Elt) := by kernel_rfl
theorem appt22_22 : appT Try.prog 22 22 = some (⟨1, 8, [(.int .i64 0)], 3⟩ : Elt) := by kernel_rfl
theorem lenk41 : lenK Try.prog 41 = some .sl := by kernel_rfl
def kv9 (a : (List UInt8)) : SV := (.str a)
def kv4 (a : Bool) : SV := (.bool a)
theorem kk9 : keyK Try.prog 9 = some .str := by kernel_rfl
theorem kok117 : ∀ a, keyOK Try.prog 8 9 (kv9 a) = true := fun a => congrFun (show (fun a => keyOK Try.prog 8 9 (kv9 a)) = fun _ => true by kernel_rfl) a
theorem keq117 : ∀ a b, keyEq Try.prog 9 (kv9 a) (kv9 b) = some (eqB a b) := (fun a b => keyEq_string kk9)
theorem khe117 : ∀ a b, eqB a b = true → a = b := (fun a b h => eq_of_beq h)
theorem kzr117 : zeroS Try.prog 4 = some (kv4 false) := by kernel_rfl
theorem kmt117 : mapT Try.prog 117 = some (9, 4) := by kernel_rfl
theorem els41 : elems Try.prog 41 = some (.sl 2) := by kernel_rfl
theorem agg120 : aggSize Try.prog 120 = some (some 2) := by kernel_rfl
theorem zer120 : zerosOf Try.prog 120 = some [(.str []), .nils] := by kernel_rfl
theorem sz120 : szOf Try.prog 120 = some 2 := by kernel_rfl
theorem off120_0 : fieldOff Try.prog 120 0 = some 0 := by kernel_rfl
theorem agg9 : aggSize Try.prog 9 = some none := by kernel_rfl
theorem lenk9 : lenK Try.prog 9 = some .str := by kernel_rfl
theorem uvk9_149 : uvK Try.prog 9 149 = none := by kernel_rfl
theorem cvk9_149 : cvK Try.prog 9 149 = some (.bytes 5) := by kernel_rfl
def enc5 (a : Int) : List SV := [(.int .u8 a)]
theorem enc5_len (a : Int) : (enc5 a).length = 1 := rfl
theorem enc5_ones (a : Int) : ones (enc5 a) = true := rfl
theorem lenk149 : lenK Try.prog 149 = some .sl := by kernel_rfl
theorem els149 : elems Try.prog 149 = some (.sl 1) := by kernel_rfl
theorem agg5 : aggSize Try.prog 5 = some none := by kernel_rfl
abbrev num_IsName_post (r : Bool) : SV → Mem → Prop := fun s _ => s = (.bool r)

def num_IsName_7 (F : Nat) (hd2 : (List Int) → Int → Int → Option (Bool)) (v16 : (List Int)) (v17 v18 : Int) (v48 : Bool) : Option (Bool) :=
  bif v48 then
    some false
  else
    hd2 v16 v17 (w64 (v18 + (1 : Int)))

theorem num_IsName_7_ok (F : Nat) (hd2 : (List Int) → Int → Int → Option (Bool)) (hhd2 : ∀ (v16 : (List Int)) (v17 v18 : Int) (sv16 : SV) (Fr : Rd) (M : Mem) (r : Bool) (hv16 : Slc Fr 1 (FlatR enc5) sv16 v16) (hH : Has Fr M []), hd2 v16 v17 v18 = some r → Run Try.prog ⟨⟨60, [], none⟩, []⟩ 50 (num_IsName_post r) [(16, sv16), (17, (.int .i64 v17)), (18, (.int .i64 v18))] [codeC Try.prog 60 [1, 1, 0, 1, 0, 0], loopC Try.prog 60 [1, 1, 0, 1, 0, 0], .inBlock 0, codeC Try.prog 60 [1, 1, 1]] M) : ∀ (v16 : (List Int)) (v17 v18 : Int) (v48 : Bool) (sv16 : SV) (Fr : Rd) (M : Mem) (r : Bool) (hv16 : Slc Fr 1 (FlatR enc5) sv16 v16) (hH : Has Fr M []), num_IsName_7 F hd2 v16 v17 v18 v48 = some r → Run Try.prog ⟨⟨60, [], none⟩, []⟩ 50 (num_IsName_post r) [(16, sv16), (17, (.int .i64 v17)), (18, (.int .i64 v18)), (48, (.bool v48))] [codeC Try.prog 60 [1, 1, 0, 1, 0, 0, 1, 1, 0, 0, 1, 1, 1, 1], .inBlock 1, codeC Try.prog 60 [1, 1, 0, 1, 0, 0, 1, 1, 1], loopC Try.prog 60 [1, 1, 0, 1, 0, 0], .inBlock 0, codeC Try.prog 60 [1, 1, 1]] M := by
  intro v16 v17 v18 v48 sv16 Fr M r hv16 hH h
  rw [num_IsName_7] at h
  rcases btf (v48) with hc37 | hc37
  · have h := bif_t hc37 h
    refine Run.condT' rfl hc37 ?_
    refine Run.seq (Run.region ?_)
    refine Run.opG wantS_none (ex_assign rfl) rfl ?_
    refine Run.opsEnd ?_
    cases h
    exact Run.ret Try.func60 rfl (res_tmp rfl res_nil) rfl
  · have h := bif_f hc37 h
    refine Run.condF' rfl hc37 ?_
    refine Run.skip (Run.inBlock (Run.region ?_))
    refine Run.opG wantS_none (ex_add rfl rfl) rfl ?_
    refine Run.opG wantS_none (ex_move rfl) rfl ?_
    refine Run.opsEnd (Run.inLoop ?_)
    exact Run.pick [16, 17, 18] (hhd2 v16 v17 (w64 (v18 + (1 : Int))) sv16 _ _ _ hv16 hH h)

def num_IsName_6 (F : Nat) (hd2 : (List Int) → Int → Int → Option (Bool)) (v16 : (List Int)) (v17 v18 : Int) (v41 v46 : Bool) : Option (Bool) :=
  bif v41 then
    num_IsName_7 F hd2 v16 v17 v18 (!v46)
  else
    num_IsName_7 F hd2 v16 v17 v18 false

theorem num_IsName_6_ok (F : Nat) (hd2 : (List Int) → Int → Int → Option (Bool)) (hhd2 : ∀ (v16 : (List Int)) (v17 v18 : Int) (sv16 : SV) (Fr : Rd) (M : Mem) (r : Bool) (hv16 : Slc Fr 1 (FlatR enc5) sv16 v16) (hH : Has Fr M []), hd2 v16 v17 v18 = some r → Run Try.prog ⟨⟨60, [], none⟩, []⟩ 50 (num_IsName_post r) [(16, sv16), (17, (.int .i64 v17)), (18, (.int .i64 v18))] [codeC Try.prog 60 [1, 1, 0, 1, 0, 0], loopC Try.prog 60 [1, 1, 0, 1, 0, 0], .inBlock 0, codeC Try.prog 60 [1, 1, 1]] M) : ∀ (v16 : (List Int)) (v17 v18 : Int) (v41 v46 : Bool) (sv16 : SV) (Fr : Rd) (M : Mem) (r : Bool) (hv16 : Slc Fr 1 (FlatR enc5) sv16 v16) (hH : Has Fr M []), num_IsName_6 F hd2 v16 v17 v18 v41 v46 = some r → Run Try.prog ⟨⟨60, [], none⟩, []⟩ 50 (num_IsName_post r) [(16, sv16), (17, (.int .i64 v17)), (18, (.int .i64 v18)), (41, (.bool v41)), (46, (.bool v46))] [itemC Try.prog 60 [1, 1, 0, 1, 0, 0, 1, 1, 0, 0, 1, 1, 1, 0] 8, codeC Try.prog 60 [1, 1, 0, 1, 0, 0, 1, 1, 0, 0, 1, 1, 1, 1], .inBlock 1, codeC Try.prog 60 [1, 1, 0, 1, 0, 0, 1, 1, 1], loopC Try.prog 60 [1, 1, 0, 1, 0, 0], .inBlock 0, codeC Try.prog 60 [1, 1, 1]] M := by
  intro v16 v17 v18 v41 v46 sv16 Fr M r hv16 hH h
  rw [num_IsName_6] at h
  rcases btf (v41) with hc36 | hc36
  · have h := bif_t hc36 h
    refine Run.opG (wantS_yes' rfl rfl hc36) (ex_not rfl) rfl ?_
    refine Run.opG wantS_none (ex_pickT' rfl hc36 rfl rfl) rfl ?_
    refine Run.opsEnd ?_
    exact Run.pick [16, 17, 18, 48] (num_IsName_7_ok F hd2 hhd2 v16 v17 v18 (!v46) sv16 _ _ _ hv16 hH h)
  · have h := bif_f hc36 h
    refine Run.no (wantS_not' rfl rfl hc36) rfl ?_
    refine Run.opG wantS_none (ex_pickF' rfl hc36 rfl rfl) rfl ?_
    refine Run.opsEnd ?_
    exact Run.pick [16, 17, 18, 48] (num_IsName_7_ok F hd2 hhd2 v16 v17 v18 false sv16 _ _ _ hv16 hH h)

def num_IsName_8 (F : Nat) (hd2 : (List Int) → Int → Int → Option (Bool)) (v16 : (List Int)) (v17 v18 : Int) (v41 : Bool) : Option (Bool) :=
  bif v41 then
    none
  else
    num_IsName_7 F hd2 v16 v17 v18 false

theorem num_IsName_8_ok (F : Nat) (hd2 : (List Int) → Int → Int → Option (Bool)) (hhd2 : ∀ (v16 : (List Int)) (v17 v18 : Int) (sv16 : SV) (Fr : Rd) (M : Mem) (r : Bool) (hv16 : Slc Fr 1 (FlatR enc5) sv16 v16) (hH : Has Fr M []), hd2 v16 v17 v18 = some r → Run Try.prog ⟨⟨60, [], none⟩, []⟩ 50 (num_IsName_post r) [(16, sv16), (17, (.int .i64 v17)), (18, (.int .i64 v18))] [codeC Try.prog 60 [1, 1, 0, 1, 0, 0], loopC Try.prog 60 [1, 1, 0, 1, 0, 0], .inBlock 0, codeC Try.prog 60 [1, 1, 1]] M) : ∀ (v16 : (List Int)) (v17 v18 : Int) (v41 : Bool) (sv16 : SV) (Fr : Rd) (M : Mem) (r : Bool) (hv16 : Slc Fr 1 (FlatR enc5) sv16 v16) (hH : Has Fr M []), num_IsName_8 F hd2 v16 v17 v18 v41 = some r → Run Try.prog ⟨⟨60, [], none⟩, []⟩ 50 (num_IsName_post r) [(16, sv16), (17, (.int .i64 v17)), (18, (.int .i64 v18)), (41, (.bool v41)), (46, (.tuple []))] [itemC Try.prog 60 [1, 1, 0, 1, 0, 0, 1, 1, 0, 0, 1, 1, 1, 0] 8, codeC Try.prog 60 [1, 1, 0, 1, 0, 0, 1, 1, 0, 0, 1, 1, 1, 1], .inBlock 1, codeC Try.prog 60 [1, 1, 0, 1, 0, 0, 1, 1, 1], loopC Try.prog 60 [1, 1, 0, 1, 0, 0], .inBlock 0, codeC Try.prog 60 [1, 1, 1]] M := by
  intro v16 v17 v18 v41 sv16 Fr M r hv16 hH h
  rw [num_IsName_8] at h
  rcases btf (v41) with hc38 | hc38
  · have h := bif_t hc38 h
    cases h
  · have h := bif_f hc38 h
    refine Run.no (wantS_not' rfl rfl hc38) rfl ?_
    refine Run.opG wantS_none (ex_pickF' rfl hc38 rfl rfl) rfl ?_
    refine Run.opsEnd ?_
    exact Run.pick [16, 17, 18, 48] (num_IsName_7_ok F hd2 hhd2 v16 v17 v18 false sv16 _ _ _ hv16 hH h)

def num_IsName_5 (F : Nat) (hd2 : (List Int) → Int → Int → Option (Bool)) (v3 : Int) (v5 : Bool) (v16 : (List Int)) (v17 v18 : Int) (v38 : Bool) : Option (Bool) :=
  bif (!v5) then
    bif v38 then
      num_IsName_6 F hd2 v16 v17 v18 (!v5) (decide ((0 : Int) < v3))
    else
      num_IsName_6 F hd2 v16 v17 v18 (!v5) false
  else
    num_IsName_8 F hd2 v16 v17 v18 (!v5)

theorem num_IsName_5_ok (F : Nat) (hd2 : (List Int) → Int → Int → Option (Bool)) (hhd2 : ∀ (v16 : (List Int)) (v17 v18 : Int) (sv16 : SV) (Fr : Rd) (M : Mem) (r : Bool) (hv16 : Slc Fr 1 (FlatR enc5) sv16 v16) (hH : Has Fr M []), hd2 v16 v17 v18 = some r → Run Try.prog ⟨⟨60, [], none⟩, []⟩ 50 (num_IsName_post r) [(16, sv16), (17, (.int .i64 v17)), (18, (.int .i64 v18))] [codeC Try.prog 60 [1, 1, 0, 1, 0, 0], loopC Try.prog 60 [1, 1, 0, 1, 0, 0], .inBlock 0, codeC Try.prog 60 [1, 1, 1]] M) : ∀ (v3 : Int) (v5 : Bool) (v16 : (List Int)) (v17 v18 : Int) (v38 : Bool) (sv16 : SV) (Fr : Rd) (M : Mem) (r : Bool) (hv16 : Slc Fr 1 (FlatR enc5) sv16 v16) (hH : Has Fr M []), num_IsName_5 F hd2 v3 v5 v16 v17 v18 v38 = some r → Run Try.prog ⟨⟨60, [], none⟩, []⟩ 50 (num_IsName_post r) [(3, (.int .i64 v3)), (5, (.bool v5)), (16, sv16), (17, (.int .i64 v17)), (18, (.int .i64 v18)), (38, (.bool v38))] [itemC Try.prog 60 [1, 1, 0, 1, 0, 0, 1, 1, 0, 0, 1, 1, 0] 10, codeC Try.prog 60 [1, 1, 0, 1, 0, 0, 1, 1, 0, 0, 1, 1, 1], .inBlock 1, codeC Try.prog 60 [1, 1, 0, 1, 0, 0, 1, 1, 1], loopC Try.prog 60 [1, 1, 0, 1, 0, 0], .inBlock 0, codeC Try.prog 60 [1, 1, 1]] M := by
  intro v3 v5 v16 v17 v18 v38 sv16 Fr M r hv16 hH h
  rw [num_IsName_5] at h
  refine Run.opG wantS_none (ex_assign rfl) rfl ?_
  refine Run.opsEnd (Run.seq (Run.region ?_))
  refine Run.opG wantS_none (ex_move rfl) rfl ?_
  refine Run.opG wantS_none (ex_not rfl) rfl ?_
  refine Run.opG wantS_none (ex_move rfl) rfl ?_
  rcases btf ((!v5)) with hc34 | hc34
  · have h := bif_t hc34 h
    refine Run.opG (wantS_yes' rfl rfl hc34) (ex_move rfl) rfl ?_
    refine Run.opG (wantS_yes' rfl rfl hc34) (ex_move rfl) rfl ?_
    rcases btf (v38) with hc35 | hc35
    · have h := bif_t hc35 h
      refine Run.opG (wantS_yes' rfl rfl hc35) (ex_move rfl) rfl ?_
      refine Run.opG (wantS_yes' rfl rfl hc35) (ex_gtr rfl rfl) rfl ?_
      refine Run.opG (wantS_yes' rfl rfl hc34) (ex_pickT' rfl hc35 rfl rfl) rfl ?_
      exact Run.pick [16, 17, 18, 41, 46] (num_IsName_6_ok F hd2 hhd2 v16 v17 v18 (!v5) (decide ((0 : Int) < v3)) sv16 _ _ _ hv16 hH h)
    · have h := bif_f hc35 h
      refine Run.no (wantS_not' rfl rfl hc35) rfl ?_
      refine Run.no (wantS_not' rfl rfl hc35) rfl ?_
      refine Run.opG (wantS_yes' rfl rfl hc34) (ex_pickF' rfl hc35 rfl rfl) rfl ?_
      exact Run.pick [16, 17, 18, 41, 46] (num_IsName_6_ok F hd2 hhd2 v16 v17 v18 (!v5) false sv16 _ _ _ hv16 hH h)
  · have h := bif_f hc34 h
    refine Run.no (wantS_not' rfl rfl hc34) rfl ?_
    refine Run.no (wantS_not' rfl rfl hc34) rfl ?_
    refine Run.no (wantS_skip rfl rfl) rfl ?_
    refine Run.no (wantS_skip rfl rfl) rfl ?_
    refine Run.no (wantS_not' rfl rfl hc34) rfl ?_
    exact Run.pick [16, 17, 18, 41, 46] (num_IsName_8_ok F hd2 hhd2 v16 v17 v18 (!v5) sv16 _ _ _ hv16 hH h)

def num_IsName_4 (F : Nat) (hd2 : (List Int) → Int → Int → Option (Bool)) (v3 v4 : Int) (v5 : Bool) (v16 : (List Int)) (v17 v18 : Int) (v34 : Bool) : Option (Bool) :=
  bif v34 then
    num_IsName_5 F hd2 v3 v5 v16 v17 v18 true
  else
    num_IsName_5 F hd2 v3 v5 v16 v17 v18 (v4 == (95 : Int))

theorem num_IsName_4_ok (F : Nat) (hd2 : (List Int) → Int → Int → Option (Bool)) (hhd2 : ∀ (v16 : (List Int)) (v17 v18 : Int) (sv16 : SV) (Fr : Rd) (M : Mem) (r : Bool) (hv16 : Slc Fr 1 (FlatR enc5) sv16 v16) (hH : Has Fr M []), hd2 v16 v17 v18 = some r → Run Try.prog ⟨⟨60, [], none⟩, []⟩ 50 (num_IsName_post r) [(16, sv16), (17, (.int .i64 v17)), (18, (.int .i64 v18))] [codeC Try.prog 60 [1, 1, 0, 1, 0, 0], loopC Try.prog 60 [1, 1, 0, 1, 0, 0], .inBlock 0, codeC Try.prog 60 [1, 1, 1]] M) : ∀ (v3 v4 : Int) (v5 : Bool) (v16 : (List Int)) (v17 v18 : Int) (v34 : Bool) (sv16 : SV) (Fr : Rd) (M : Mem) (r : Bool) (hv16 : Slc Fr 1 (FlatR enc5) sv16 v16) (hH : Has Fr M []), num_IsName_4 F hd2 v3 v4 v5 v16 v17 v18 v34 = some r → Run Try.prog ⟨⟨60, [], none⟩, []⟩ 50 (num_IsName_post r) [(3, (.int .i64 v3)), (4, (.int .u8 v4)), (5, (.bool v5)), (16, sv16), (17, (.int .i64 v17)), (18, (.int .i64 v18)), (34, (.bool v34))] [itemC Try.prog 60 [1, 1, 0, 1, 0, 0, 1, 1, 0, 0, 1, 1, 0] 6, codeC Try.prog 60 [1, 1, 0, 1, 0, 0, 1, 1, 0, 0, 1, 1, 1], .inBlock 1, codeC Try.prog 60 [1, 1, 0, 1, 0, 0, 1, 1, 1], loopC Try.prog 60 [1, 1, 0, 1, 0, 0], .inBlock 0, codeC Try.prog 60 [1, 1, 1]] M := by
  intro v3 v4 v5 v16 v17 v18 v34 sv16 Fr M r hv16 hH h
  rw [num_IsName_4] at h
  refine Run.opG wantS_none (ex_move rfl) rfl ?_
  rcases btf (v34) with hc33 | hc33
  · have h := bif_t hc33 h
    refine Run.no (wantS_not' rfl rfl hc33) rfl ?_
    refine Run.no (wantS_not' rfl rfl hc33) rfl ?_
    refine Run.opG wantS_none (ex_pickT' rfl hc33 rfl rfl) rfl ?_
    exact Run.pick [3, 5, 16, 17, 18, 38] (num_IsName_5_ok F hd2 hhd2 v3 v5 v16 v17 v18 true sv16 _ _ _ hv16 hH h)
  · have h := bif_f hc33 h
    refine Run.opG (wantS_yes' rfl rfl hc33) (ex_move rfl) rfl ?_
    refine Run.opG (wantS_yes' rfl rfl hc33) (ex_eql rfl rfl) rfl ?_
    refine Run.opG wantS_none (ex_pickF' rfl hc33 rfl rfl) rfl ?_
    exact Run.pick [3, 5, 16, 17, 18, 38] (num_IsName_5_ok F hd2 hhd2 v3 v5 v16 v17 v18 (v4 == (95 : Int)) sv16 _ _ _ hv16 hH h)

def num_IsName_3 (F : Nat) (hd2 : (List Int) → Int → Int → Option (Bool)) (v3 v4 : Int) (v16 : (List Int)) (v17 v18 : Int) (v28 : Bool) : Option (Bool) :=
  bif (decide ((48 : Int) ≤ v4)) then
    num_IsName_4 F hd2 v3 v4 v28 v16 v17 v18 (decide (v4 ≤ (57 : Int)))
  else
    num_IsName_4 F hd2 v3 v4 v28 v16 v17 v18 false

theorem num_IsName_3_ok (F : Nat) (hd2 : (List Int) → Int → Int → Option (Bool)) (hhd2 : ∀ (v16 : (List Int)) (v17 v18 : Int) (sv16 : SV) (Fr : Rd) (M : Mem) (r : Bool) (hv16 : Slc Fr 1 (FlatR enc5) sv16 v16) (hH : Has Fr M []), hd2 v16 v17 v18 = some r → Run Try.prog ⟨⟨60, [], none⟩, []⟩ 50 (num_IsName_post r) [(16, sv16), (17, (.int .i64 v17)), (18, (.int .i64 v18))] [codeC Try.prog 60 [1, 1, 0, 1, 0, 0], loopC Try.prog 60 [1, 1, 0, 1, 0, 0], .inBlock 0, codeC Try.prog 60 [1, 1, 1]] M) : ∀ (v3 v4 : Int) (v16 : (List Int)) (v17 v18 : Int) (v28 : Bool) (sv16 : SV) (Fr : Rd) (M : Mem) (r : Bool) (hv16 : Slc Fr 1 (FlatR enc5) sv16 v16) (hH : Has Fr M []), num_IsName_3 F hd2 v3 v4 v16 v17 v18 v28 = some r → Run Try.prog ⟨⟨60, [], none⟩, []⟩ 50 (num_IsName_post r) [(3, (.int .i64 v3)), (4, (.int .u8 v4)), (16, sv16), (17, (.int .i64 v17)), (18, (.int .i64 v18)), (28, (.bool v28))] [itemC Try.prog 60 [1, 1, 0, 1, 0, 0, 1, 1, 0, 0, 1, 0] 6, codeC Try.prog 60 [1, 1, 0, 1, 0, 0, 1, 1, 0, 0, 1, 1], .inBlock 1, codeC Try.prog 60 [1, 1, 0, 1, 0, 0, 1, 1, 1], loopC Try.prog 60 [1, 1, 0, 1, 0, 0], .inBlock 0, codeC Try.prog 60 [1, 1, 1]] M := by
  intro v3 v4 v16 v17 v18 v28 sv16 Fr M r hv16 hH h
  rw [num_IsName_3] at h
  refine Run.opG wantS_none (ex_assign rfl) rfl ?_
  refine Run.opsEnd (Run.seq (Run.region ?_))
  refine Run.opG wantS_none (ex_move rfl) rfl ?_
  refine Run.opG wantS_none (ex_geq rfl rfl) rfl ?_
  refine Run.opG wantS_none (ex_move rfl) rfl ?_
  rcases btf ((decide ((48 : Int) ≤ v4))) with hc32 | hc32
  · have h := bif_t hc32 h
    refine Run.opG (wantS_yes' rfl rfl hc32) (ex_move rfl) rfl ?_
    refine Run.opG (wantS_yes' rfl rfl hc32) (ex_leq rfl rfl) rfl ?_
    refine Run.opG wantS_none (ex_pickT' rfl hc32 rfl rfl) rfl ?_
    exact Run.pick [3, 4, 5, 16, 17, 18, 34] (num_IsName_4_ok F hd2 hhd2 v3 v4 v28 v16 v17 v18 (decide (v4 ≤ (57 : Int))) sv16 _ _ _ hv16 hH h)
  · have h := bif_f hc32 h
    refine Run.no (wantS_not' rfl rfl hc32) rfl ?_
    refine Run.no (wantS_not' rfl rfl hc32) rfl ?_
    refine Run.opG wantS_none (ex_pickF' rfl hc32 rfl rfl) rfl ?_
    exact Run.pick [3, 4, 5, 16, 17, 18, 34] (num_IsName_4_ok F hd2 hhd2 v3 v4 v28 v16 v17 v18 false sv16 _ _ _ hv16 hH h)

def num_IsName_2 (F : Nat) : Nat → (List Int) → Int → Int → Option (Bool)
  | 0, _, _, _ => none
  | N + 1, v16, v17, v18 =>
    bif (decide (v18 < v17)) then
      bnd (idx v16 v18) fun x30 =>
      bif (decide ((97 : Int) ≤ x30)) then
        num_IsName_3 F (num_IsName_2 F N) v18 x30 v16 v17 v18 (decide (x30 ≤ (122 : Int)))
      else
        num_IsName_3 F (num_IsName_2 F N) v18 x30 v16 v17 v18 false
    else
      some true

theorem num_IsName_2_ok (F : Nat) : ∀ (N : Nat), ∀ (v16 : (List Int)) (v17 v18 : Int) (sv16 : SV) (Fr : Rd) (M : Mem) (r : Bool) (hv16 : Slc Fr 1 (FlatR enc5) sv16 v16) (hH : Has Fr M []), num_IsName_2 F N v16 v17 v18 = some r → Run Try.prog ⟨⟨60, [], none⟩, []⟩ 50 (num_IsName_post r) [(16, sv16), (17, (.int .i64 v17)), (18, (.int .i64 v18))] [codeC Try.prog 60 [1, 1, 0, 1, 0, 0], loopC Try.prog 60 [1, 1, 0, 1, 0, 0], .inBlock 0, codeC Try.prog 60 [1, 1, 1]] M := by
  intro N
  induction N with
  | zero =>
    intro v16 v17 v18 sv16 Fr M r hv16 hH h
    simp [num_IsName_2] at h
  | succ N ih =>
    intro v16 v17 v18 sv16 Fr M r hv16 hH h
    rw [num_IsName_2] at h
    refine Run.seq (Run.region ?_)
    refine Run.opG wantS_none (ex_lss rfl rfl) rfl ?_
    refine Run.opsEnd (Run.seq ?_)
    rcases btf ((decide (v18 < v17))) with hc28 | hc28
    · have h := bif_t hc28 h
      refine Run.condT' rfl hc28 ?_
      refine Run.skip (Run.seq (Run.block (Run.seq (Run.region ?_))))
      refine Run.opG wantS_none (ex_move rfl) rfl ?_
      obtain ⟨x30, hx30, h⟩ := bnd_some h
      obtain ⟨p30, o30, _, hx30, hp30, rfl⟩ := sl_elem (P := Try.prog) (t := 149) (kk := .i64) hv16 hx30 els149
      refine Run.opG wantS_none (ex_elX rfl rfl hx30) rfl ?_
      refine Run.opG wantS_none (ex_load1 rfl (hH.ptrF hp30) rdLe_rfl agg5) rfl ?_
      refine Run.opG wantS_none (ex_assign rfl) rfl ?_
      refine Run.opG wantS_none (ex_assign rfl) rfl ?_
      refine Run.opsEnd (Run.seq (Run.region ?_))
      refine Run.opG wantS_none (ex_move rfl) rfl ?_
      refine Run.opG wantS_none (ex_geq rfl rfl) rfl ?_
      refine Run.opG wantS_none (ex_move rfl) rfl ?_
      rcases btf ((decide ((97 : Int) ≤ x30))) with hc31 | hc31
      · have h := bif_t hc31 h
        refine Run.opG (wantS_yes' rfl rfl hc31) (ex_move rfl) rfl ?_
        refine Run.opG (wantS_yes' rfl rfl hc31) (ex_leq rfl rfl) rfl ?_
        refine Run.opG wantS_none (ex_pickT' rfl hc31 rfl rfl) rfl ?_
        exact Run.pick [3, 4, 16, 17, 18, 28] (num_IsName_3_ok F (num_IsName_2 F N) ih v18 x30 v16 v17 v18 (decide (x30 ≤ (122 : Int))) sv16 _ _ _ hv16 hH h)
      · have h := bif_f hc31 h
        refine Run.no (wantS_not' rfl rfl hc31) rfl ?_
        refine Run.no (wantS_not' rfl rfl hc31) rfl ?_
        refine Run.opG wantS_none (ex_pickF' rfl hc31 rfl rfl) rfl ?_
        exact Run.pick [3, 4, 16, 17, 18, 28] (num_IsName_3_ok F (num_IsName_2 F N) ih v18 x30 v16 v17 v18 false sv16 _ _ _ hv16 hH h)
    · have h := bif_f hc28 h
      refine Run.condF' rfl hc28 ?_
      refine Run.exit rfl (Run.seq (Run.region ?_))
      refine Run.opG wantS_none (ex_assign rfl) rfl ?_
      refine Run.opsEnd ?_
      cases h
      exact Run.ret Try.func60 rfl (res_tmp rfl res_nil) rfl

def num_IsName_1 (F : Nat) (v0 : (List UInt8)) (v14 : Bool) : Option (Bool) :=
  bif v14 then
    some false
  else
    bnd (byt v0) fun l24 =>
    num_IsName_2 F F l24 (l24.length : Int) (0 : Int)

theorem num_IsName_1_ok (F : Nat) : ∀ (v0 : (List UInt8)) (v14 : Bool) (Fr : Rd) (M : Mem) (r : Bool) (hH : Has Fr M []), num_IsName_1 F v0 v14 = some r → Run Try.prog ⟨⟨60, [], none⟩, []⟩ 50 (num_IsName_post r) [(0, (.str v0)), (14, (.bool v14))] [codeC Try.prog 60 [1, 0, 1], codeC Try.prog 60 [1, 1]] M := by
  intro v0 v14 Fr M r hH h
  rw [num_IsName_1] at h
  rcases btf (v14) with hc22 | hc22
  · have h := bif_t hc22 h
    refine Run.condT' rfl hc22 ?_
    refine Run.seq (Run.region ?_)
    refine Run.opG wantS_none (ex_assign rfl) rfl ?_
    refine Run.opsEnd ?_
    cases h
    exact Run.ret Try.func60 rfl (res_tmp rfl res_nil) rfl
  · have h := bif_f hc22 h
    refine Run.condF' rfl hc22 ?_
    refine Run.skip (Run.seq (Run.seq (Run.region ?_)))
    refine Run.opG wantS_none (ex_move rfl) rfl ?_
    obtain ⟨l24, hl24, h⟩ := bnd_some h
    refine Run.opX wantS_none rfl (ExG.bytes rfl uvk9_149 cvk9_149 hl24 hH) ?_
    rintro _ M25 ⟨b25, rfl, hH25⟩
    refine Run.freezeB (t := 16) (i := 0) (enc := enc5) (fun _ => rfl) hl24 rfl hH25 rfl ?_
    intro F26 M26 hle26 (hH26 : Has F26 M26 [.vec 0 0 0 .nils []]) hf26
    refine Run.opG wantS_none (ex_len' rfl hf26 lenk149) rfl ?_
    refine Run.opG wantS_none (ex_move rfl) rfl ?_
    refine Run.opsEnd (Run.block (Run.loop ?_))
    exact Run.pick [16, 17, 18] (num_IsName_2_ok F F l24 (l24.length : Int) (0 : Int) (.ope b25 0 l24.length 1) _ _ _ hf26 (hH26.pick [] rfl rfl) h)

def num_IsName (F : Nat) (a0 : (List UInt8)) : Option (Bool) :=
  bif ((a0.length : Int) == (0 : Int)) then
    num_IsName_1 F a0 true
  else
    num_IsName_1 F a0 (decide ((16 : Int) < (a0.length : Int)))

theorem num_IsName_ok (F : Nat) (a0 : (List UInt8)) (r : Bool) (M : Mem) (h : num_IsName F a0 = some r) : CallsM Try.prog 60 [(.str a0)] M (fun s M' => s = (.bool r) ∧ M' = M) := by
  refine CallsM.plain Try.func60 rfl rfl rfl (show Run _ _ _ (num_IsName_post r) _ _ _ from ?_)
  rw [num_IsName] at h
  have hH := Has.nil (frozen M)
  refine Run.seq (Run.region ?_)
  refine Run.opG wantS_none (ex_assign rfl) rfl ?_
  refine Run.opsEnd (Run.seq (Run.seq (Run.region ?_)))
  refine Run.opG wantS_none (ex_move rfl) rfl ?_
  refine Run.opG wantS_none (ex_lenS rfl lenk9) rfl ?_
  refine Run.opG wantS_none (ex_eql rfl rfl) rfl ?_
  refine Run.opG wantS_none (ex_move rfl) rfl ?_
  rcases btf (((a0.length : Int) == (0 : Int))) with hc21 | hc21
  · have h := bif_t hc21 h
    refine Run.no (wantS_not' rfl rfl hc21) rfl ?_
    refine Run.no (wantS_not' rfl rfl hc21) rfl ?_
    refine Run.no (wantS_not' rfl rfl hc21) rfl ?_
    refine Run.opG wantS_none (ex_pickT' rfl hc21 rfl rfl) rfl ?_
    refine Run.opsEnd ?_
    exact Run.pick [0, 14] (num_IsName_1_ok F a0 true _ _ _ hH h)
  · have h := bif_f hc21 h
    refine Run.opG (wantS_yes' rfl rfl hc21) (ex_move rfl) rfl ?_
    refine Run.opG (wantS_yes' rfl rfl hc21) (ex_lenS rfl lenk9) rfl ?_
    refine Run.opG (wantS_yes' rfl rfl hc21) (ex_gtr rfl rfl) rfl ?_
    refine Run.opG wantS_none (ex_pickF' rfl hc21 rfl rfl) rfl ?_
    refine Run.opsEnd ?_
    exact Run.pick [0, 14] (num_IsName_1_ok F a0 (decide ((16 : Int) < (a0.length : Int))) _ _ _ hH h)

theorem mkk60 : makeK Try.prog 60 = none := by kernel_rfl
theorem cal60 : callable Try.prog 60 = true := by kernel_rfl
theorem off120_1 : fieldOff Try.prog 120 1 = some 1 := by kernel_rfl
theorem agg118 : aggSize Try.prog 118 = some none := by kernel_rfl
theorem lenk118 : lenK Try.prog 118 = some .sl := by kernel_rfl
theorem mkk94 : makeK Try.prog 94 = none := by kernel_rfl
theorem cal94 : callable Try.prog 94 = true := by kernel_rfl
theorem mkk105 : makeK Try.prog 105 = none := by kernel_rfl
theorem cal105 : callable Try.prog 105 = true := by kernel_rfl
theorem els118 : elems Try.prog 118 = some (.sl 2) := by kernel_rfl
theorem agg151 : aggSize Try.prog 151 = some (some 2) := by kernel_rfl
theorem mkk93 : makeK Try.prog 93 = none := by kernel_rfl
theorem cal93 : callable Try.prog 93 = true := by kernel_rfl
theorem off151_0 : fieldOff Try.prog 151 0 = some 0 := by kernel_rfl
theorem off151_1 : fieldOff Try.prog 151 1 = some 1 := by kernel_rfl
abbrev glitch_areSegments_post (r : Bool) : SV → Mem → Prop := fun s _ => s = (.bool r)

def glitch_areSegments_4 (F : Nat) (v12 : Bool) : Option (Bool) :=
  some v12

theorem glitch_areSegments_4_ok (F : Nat) : ∀ (v12 : Bool) (Fr : Rd) (M : Mem) (r : Bool) (hH : Has Fr M []), glitch_areSegments_4 F v12 = some r → Run Try.prog ⟨⟨61, [], none⟩, []⟩ 13 (glitch_areSegments_post r) [(12, (.bool v12))] [itemC Try.prog 61 [1, 1, 0] 9, codeC Try.prog 61 [1, 1, 1]] M := by
  intro v12 Fr M r hH h
  rw [glitch_areSegments_4] at h
  refine Run.opG wantS_none (ex_assign rfl) rfl ?_
  refine Run.opsEnd ?_
  cases h
  exact Run.ret Try.func61 rfl (res_tmp rfl res_nil) rfl

def glitch_areSegments_3 (F : Nat) (hd1 : (List S_api_Segment) → Int → Int → Bool → Option (Bool)) (v17 : Bool) (v0_f1 : (List S_api_Segment)) (v5_f1 v7_f1 v8_f1 : Int) (v7_f3 : Bool) : Option (Bool) :=
  bif (!v17) then
    bif v7_f3 then
      glitch_areSegments_4 F (!(decide ((0 : Int) ≤ v5_f1)))
    else
      glitch_areSegments_4 F false
  else
    hd1 v0_f1 v7_f1 (w64 (v8_f1 + (1 : Int))) v7_f3

theorem glitch_areSegments_3_ok (F : Nat) (hd1 : (List S_api_Segment) → Int → Int → Bool → Option (Bool)) (hhd1 : ∀ (v0 : (List S_api_Segment)) (v7 v8 : Int) (v7_f2 : Bool) (sv0 : SV) (Fr : Rd) (M : Mem) (r : Bool) (hv0 : Slc Fr 2 (FlatR enc151) sv0 v0) (hH : Has Fr M []), hd1 v0 v7 v8 v7_f2 = some r → Run Try.prog ⟨⟨105, [], none⟩, [.mk ⟨94, [], none⟩ 9 (treeOf []) [itemC Try.prog 94 [1, 0] 2, codeC Try.prog 94 [1, 1]], .mk ⟨61, [], none⟩ 13 (treeOf [(7, (.bool v7_f2))]) [itemC Try.prog 61 [1, 1, 0] 6, codeC Try.prog 61 [1, 1, 1]]]⟩ 19 (glitch_areSegments_post r) [(0, sv0), (1, (.fn (.func 93) [] [])), (7, (.int .i64 v7)), (8, (.int .i64 v8))] [codeC Try.prog 105 [1, 0, 1, 0, 0], loopC Try.prog 105 [1, 0, 1, 0, 0], .inBlock 0, codeC Try.prog 105 [1, 1]] M) : ∀ (v17 : Bool) (v0_f1 : (List S_api_Segment)) (v5_f1 v7_f1 v8_f1 : Int) (v7_f3 : Bool) (sv0_f1 : SV) (Fr : Rd) (M : Mem) (r : Bool) (hv0_f1 : Slc Fr 2 (FlatR enc151) sv0_f1 v0_f1) (hH : Has Fr M []), glitch_areSegments_3 F hd1 v17 v0_f1 v5_f1 v7_f1 v8_f1 v7_f3 = some r → Run Try.prog ⟨⟨93, [], none⟩, [.mk ⟨105, [], none⟩ 19 (treeOf [(0, sv0_f1), (1, (.fn (.func 93) [] [])), (5, (.int .i64 v5_f1)), (7, (.int .i64 v7_f1)), (8, (.int .i64 v8_f1))]) [itemC Try.prog 105 [1, 0, 1, 0, 0, 1, 1, 0, 0, 1, 0] 5, codeC Try.prog 105 [1, 0, 1, 0, 0, 1, 1, 0, 0, 1, 1], .inBlock 1, codeC Try.prog 105 [1, 0, 1, 0, 0, 1, 1, 1], loopC Try.prog 105 [1, 0, 1, 0, 0], .inBlock 0, codeC Try.prog 105 [1, 1]], .mk ⟨94, [], none⟩ 9 (treeOf []) [itemC Try.prog 94 [1, 0] 2, codeC Try.prog 94 [1, 1]], .mk ⟨61, [], none⟩ 13 (treeOf [(7, (.bool v7_f3))]) [itemC Try.prog 61 [1, 1, 0] 6, codeC Try.prog 61 [1, 1, 1]]]⟩ 19 (glitch_areSegments_post r) [(17, (.bool v17))] [itemC Try.prog 93 [1, 0] 15, codeC Try.prog 93 [1, 1]] M := by
  intro v17 v0_f1 v5_f1 v7_f1 v8_f1 v7_f3 sv0_f1 Fr M r hv0_f1 hH h
  rw [glitch_areSegments_3] at h
  refine Run.opG wantS_none (ex_not rfl) rfl ?_
  refine Run.opG wantS_none (ex_assign rfl) rfl ?_
  refine Run.opsEnd ?_
  refine Run.retTo Try.func93 rfl (res_tmp rfl res_nil) rfl ?_
  refine Run.opsEnd ?_
  rcases btf ((!v17)) with hc30 | hc30
  · have h := bif_t hc30 h
    refine Run.condT' rfl hc30 ?_
    refine Run.seq (Run.region ?_)
    refine Run.opG wantS_none (ex_move rfl) rfl ?_
    refine Run.opG wantS_none (ex_assign rfl) rfl ?_
    refine Run.opsEnd ?_
    refine Run.retTo Try.func105 rfl (res_tmp rfl res_nil) rfl ?_
    refine Run.opG wantS_none (ex_geq rfl rfl) rfl ?_
    refine Run.opG wantS_none (ex_assign rfl) rfl ?_
    refine Run.opsEnd ?_
    refine Run.retTo Try.func94 rfl (res_tmp rfl res_nil) rfl ?_
    rcases btf (v7_f3) with hc31 | hc31
    · have h := bif_t hc31 h
      refine Run.opG (wantS_yes' rfl rfl hc31) (ex_not rfl) rfl ?_
      refine Run.opG wantS_none (ex_pickT' rfl hc31 rfl rfl) rfl ?_
      exact Run.pick [12] (glitch_areSegments_4_ok F (!(decide ((0 : Int) ≤ v5_f1))) _ _ _ hH h)
    · have h := bif_f hc31 h
      refine Run.no (wantS_not' rfl rfl hc31) rfl ?_
      refine Run.opG wantS_none (ex_pickF' rfl hc31 rfl rfl) rfl ?_
      exact Run.pick [12] (glitch_areSegments_4_ok F false _ _ _ hH h)
  · have h := bif_f hc30 h
    refine Run.condF' rfl hc30 ?_
    refine Run.skip (Run.inBlock (Run.region ?_))
    refine Run.opG wantS_none (ex_add rfl rfl) rfl ?_
    refine Run.opG wantS_none (ex_move rfl) rfl ?_
    refine Run.opsEnd (Run.inLoop ?_)
    exact Run.low (.cons (fle_pick [] rfl) (.cons (fle_pick [7] rfl) .nil)) (Run.pick [0, 1, 7, 8] (hhd1 v0_f1 v7_f1 (w64 (v8_f1 + (1 : Int))) v7_f3 sv0_f1 _ _ _ hv0_f1 hH h))

def glitch_areSegments_2 (F : Nat) (hd1 : (List S_api_Segment) → Int → Int → Bool → Option (Bool)) (v12 : Bool) (v0_f1 : (List S_api_Segment)) (v5_f1 v7_f1 v8_f1 : Int) (v7_f3 : Bool) (c26 : S_api_Segment) : Option (Bool) :=
  bif v12 then
    glitch_areSegments_3 F hd1 (decide (c26.To ≤ (1073741824 : Int))) v0_f1 v5_f1 v7_f1 v8_f1 v7_f3
  else
    glitch_areSegments_3 F hd1 false v0_f1 v5_f1 v7_f1 v8_f1 v7_f3

theorem glitch_areSegments_2_ok (F : Nat) (hd1 : (List S_api_Segment) → Int → Int → Bool → Option (Bool)) (hhd1 : ∀ (v0 : (List S_api_Segment)) (v7 v8 : Int) (v7_f2 : Bool) (sv0 : SV) (Fr : Rd) (M : Mem) (r : Bool) (hv0 : Slc Fr 2 (FlatR enc151) sv0 v0) (hH : Has Fr M []), hd1 v0 v7 v8 v7_f2 = some r → Run Try.prog ⟨⟨105, [], none⟩, [.mk ⟨94, [], none⟩ 9 (treeOf []) [itemC Try.prog 94 [1, 0] 2, codeC Try.prog 94 [1, 1]], .mk ⟨61, [], none⟩ 13 (treeOf [(7, (.bool v7_f2))]) [itemC Try.prog 61 [1, 1, 0] 6, codeC Try.prog 61 [1, 1, 1]]]⟩ 19 (glitch_areSegments_post r) [(0, sv0), (1, (.fn (.func 93) [] [])), (7, (.int .i64 v7)), (8, (.int .i64 v8))] [codeC Try.prog 105 [1, 0, 1, 0, 0], loopC Try.prog 105 [1, 0, 1, 0, 0], .inBlock 0, codeC Try.prog 105 [1, 1]] M) : ∀ (v12 : Bool) (v0_f1 : (List S_api_Segment)) (v5_f1 v7_f1 v8_f1 : Int) (v7_f3 : Bool) (c26 : S_api_Segment) (sv0_f1 : SV) (b26 : Pos) (Fr : Rd) (M : Mem) (r : Bool) (hv0_f1 : Slc Fr 2 (FlatR enc151) sv0_f1 v0_f1) (hH : Has Fr M [.obj b26 (.row 151 .whole [(.int .i64 c26.From), (.int .i64 c26.To)])]), glitch_areSegments_2 F hd1 v12 v0_f1 v5_f1 v7_f1 v8_f1 v7_f3 c26 = some r → Run Try.prog ⟨⟨93, [], none⟩, [.mk ⟨105, [], none⟩ 19 (treeOf [(0, sv0_f1), (1, (.fn (.func 93) [] [])), (5, (.int .i64 v5_f1)), (7, (.int .i64 v7_f1)), (8, (.int .i64 v8_f1))]) [itemC Try.prog 105 [1, 0, 1, 0, 0, 1, 1, 0, 0, 1, 0] 5, codeC Try.prog 105 [1, 0, 1, 0, 0, 1, 1, 0, 0, 1, 1], .inBlock 1, codeC Try.prog 105 [1, 0, 1, 0, 0, 1, 1, 1], loopC Try.prog 105 [1, 0, 1, 0, 0], .inBlock 0, codeC Try.prog 105 [1, 1]], .mk ⟨94, [], none⟩ 9 (treeOf []) [itemC Try.prog 94 [1, 0] 2, codeC Try.prog 94 [1, 1]], .mk ⟨61, [], none⟩ 13 (treeOf [(7, (.bool v7_f3))]) [itemC Try.prog 61 [1, 1, 0] 6, codeC Try.prog 61 [1, 1, 1]]]⟩ 19 (glitch_areSegments_post r) [(1, (.ptr b26 0)), (12, (.bool v12))] [itemC Try.prog 93 [1, 0] 10, codeC Try.prog 93 [1, 1]] M := by
  intro v12 v0_f1 v5_f1 v7_f1 v8_f1 v7_f3 c26 sv0_f1 b26 Fr M r hv0_f1 hH h
  rw [glitch_areSegments_2] at h
  refine Run.opG wantS_none (ex_move rfl) rfl ?_
  rcases btf (v12) with hc29 | hc29
  · have h := bif_t hc29 h
    refine Run.opG (wantS_yes' rfl rfl hc29) (ex_fieldAddr rfl off151_1) rfl ?_
    refine Run.opG (wantS_yes' rfl rfl hc29) (ex_load1 rfl (hH.cells (i := 0) rfl 1 rfl) rdLe_rfl agg3) rfl ?_
    refine Run.opG (wantS_yes' rfl rfl hc29) (ex_leq rfl rfl) rfl ?_
    refine Run.opG wantS_none (ex_pickT' rfl hc29 rfl rfl) rfl ?_
    exact Run.low (.cons (fle_pick [0, 1, 5, 7, 8] rfl) (.cons (fle_pick [] rfl) (.cons (fle_pick [7] rfl) .nil))) (Run.pick [17] (glitch_areSegments_3_ok F hd1 hhd1 (decide (c26.To ≤ (1073741824 : Int))) v0_f1 v5_f1 v7_f1 v8_f1 v7_f3 sv0_f1 _ _ _ hv0_f1 (hH.pick [] rfl rfl) h))
  · have h := bif_f hc29 h
    refine Run.no (wantS_not' rfl rfl hc29) rfl ?_
    refine Run.no (wantS_not' rfl rfl hc29) rfl ?_
    refine Run.no (wantS_not' rfl rfl hc29) rfl ?_
    refine Run.opG wantS_none (ex_pickF' rfl hc29 rfl rfl) rfl ?_
    exact Run.low (.cons (fle_pick [0, 1, 5, 7, 8] rfl) (.cons (fle_pick [] rfl) (.cons (fle_pick [7] rfl) .nil))) (Run.pick [17] (glitch_areSegments_3_ok F hd1 hhd1 false v0_f1 v5_f1 v7_f1 v8_f1 v7_f3 sv0_f1 _ _ _ hv0_f1 (hH.pick [] rfl rfl) h))

def glitch_areSegments_1 (F : Nat) : Nat → (List S_api_Segment) → Int → Int → Bool → Option (Bool)
  | 0, _, _, _, _ => none
  | N + 1, v0, v7, v8, v7_f2 =>
    bif (decide (v8 < v7)) then
      bnd (idx v0 v8) fun x24 =>
      bif (decide ((0 : Int) ≤ x24.From)) then
        glitch_areSegments_2 F (glitch_areSegments_1 F N) (decide (x24.From < x24.To)) v0 v8 v7 v8 v7_f2 x24
      else
        glitch_areSegments_2 F (glitch_areSegments_1 F N) false v0 v8 v7 v8 v7_f2 x24
    else
      bif v7_f2 then
        glitch_areSegments_4 F (!(decide ((0 : Int) ≤ ((-1) : Int))))
      else
        glitch_areSegments_4 F false

theorem glitch_areSegments_1_ok (F : Nat) : ∀ (N : Nat), ∀ (v0 : (List S_api_Segment)) (v7 v8 : Int) (v7_f2 : Bool) (sv0 : SV) (Fr : Rd) (M : Mem) (r : Bool) (hv0 : Slc Fr 2 (FlatR enc151) sv0 v0) (hH : Has Fr M []), glitch_areSegments_1 F N v0 v7 v8 v7_f2 = some r → Run Try.prog ⟨⟨105, [], none⟩, [.mk ⟨94, [], none⟩ 9 (treeOf []) [itemC Try.prog 94 [1, 0] 2, codeC Try.prog 94 [1, 1]], .mk ⟨61, [], none⟩ 13 (treeOf [(7, (.bool v7_f2))]) [itemC Try.prog 61 [1, 1, 0] 6, codeC Try.prog 61 [1, 1, 1]]]⟩ 19 (glitch_areSegments_post r) [(0, sv0), (1, (.fn (.func 93) [] [])), (7, (.int .i64 v7)), (8, (.int .i64 v8))] [codeC Try.prog 105 [1, 0, 1, 0, 0], loopC Try.prog 105 [1, 0, 1, 0, 0], .inBlock 0, codeC Try.prog 105 [1, 1]] M := by
  intro N
  induction N with
  | zero =>
    intro v0 v7 v8 v7_f2 sv0 Fr M r hv0 hH h
    simp [glitch_areSegments_1] at h
  | succ N ih =>
    intro v0 v7 v8 v7_f2 sv0 Fr M r hv0 hH h
    rw [glitch_areSegments_1] at h
    refine Run.seq (Run.region ?_)
    refine Run.opG wantS_none (ex_lss rfl rfl) rfl ?_
    refine Run.opsEnd (Run.seq ?_)
    rcases btf ((decide (v8 < v7))) with hc22 | hc22
    · have h := bif_t hc22 h
      refine Run.condT' rfl hc22 ?_
      refine Run.skip (Run.seq (Run.block (Run.seq (Run.region ?_))))
      refine Run.opG wantS_none (ex_move rfl) rfl ?_
      refine Run.opG wantS_none (ex_assign rfl) rfl ?_
      refine Run.opsEnd (Run.seq (Run.region ?_))
      refine Run.opG wantS_none (ex_move rfl) rfl ?_
      refine Run.opG wantS_none (ex_move rfl) rfl ?_
      refine Run.opG wantS_none (ex_move rfl) rfl ?_
      obtain ⟨x24, hx24, h⟩ := bnd_some h
      obtain ⟨p24, o24, _, hx24, hp24, rfl⟩ := sl_elem (P := Try.prog) (t := 118) (kk := .i64) hv0 hx24 els118
      refine Run.opG wantS_none (ex_elX rfl rfl hx24) rfl ?_
      refine Run.opG wantS_none (ex_loadA rfl (hH.ptrF hp24) rdLe_rfl agg151 rfl rfl rfl) rfl ?_
      refine Run.enter wantS_none (ex_closure rfl rfl mkk93 cal93) Try.func93 rfl rfl ?_
      refine Run.seq (Run.region ?_)
      refine Run.opX wantS_none rfl (ExG.box rfl rfl hH) ?_
      rintro _ M27 ⟨b26, rfl, hH27⟩
      refine Run.opG wantS_none (ex_assign rfl) rfl ?_
      refine Run.opsEnd (Run.seq (Run.region ?_))
      refine Run.opG wantS_none (ex_fieldAddr rfl off151_0) rfl ?_
      refine Run.opG wantS_none (ex_load1 rfl (hH27.cells (i := 0) rfl 0 rfl) rdLe_rfl agg3) rfl ?_
      refine Run.opG wantS_none (ex_leq rfl rfl) rfl ?_
      refine Run.opG wantS_none (ex_move rfl) rfl ?_
      rcases btf ((decide ((0 : Int) ≤ x24.From))) with hc28 | hc28
      · have h := bif_t hc28 h
        refine Run.opG (wantS_yes' rfl rfl hc28) (ex_fieldAddr rfl off151_0) rfl ?_
        refine Run.opG (wantS_yes' rfl rfl hc28) (ex_load1 rfl (hH27.cells (i := 0) rfl 0 rfl) rdLe_rfl agg3) rfl ?_
        refine Run.opG (wantS_yes' rfl rfl hc28) (ex_fieldAddr rfl off151_1) rfl ?_
        refine Run.opG (wantS_yes' rfl rfl hc28) (ex_load1 rfl (hH27.cells (i := 0) rfl 1 rfl) rdLe_rfl agg3) rfl ?_
        refine Run.opG (wantS_yes' rfl rfl hc28) (ex_lss rfl rfl) rfl ?_
        refine Run.opG wantS_none (ex_pickT' rfl hc28 rfl rfl) rfl ?_
        exact Run.low (.cons (fle_pick [0, 1, 5, 7, 8] rfl) (.cons (fle_pick [] rfl) (.cons (fle_pick [7] rfl) .nil))) (Run.pick [1, 12] (glitch_areSegments_2_ok F (glitch_areSegments_1 F N) ih (decide (x24.From < x24.To)) v0 v8 v7 v8 v7_f2 x24 sv0 b26 _ _ _ hv0 hH27 h))
      · have h := bif_f hc28 h
        refine Run.no (wantS_not' rfl rfl hc28) rfl ?_
        refine Run.no (wantS_not' rfl rfl hc28) rfl ?_
        refine Run.no (wantS_not' rfl rfl hc28) rfl ?_
        refine Run.no (wantS_not' rfl rfl hc28) rfl ?_
        refine Run.no (wantS_not' rfl rfl hc28) rfl ?_
        refine Run.opG wantS_none (ex_pickF' rfl hc28 rfl rfl) rfl ?_
        exact Run.low (.cons (fle_pick [0, 1, 5, 7, 8] rfl) (.cons (fle_pick [] rfl) (.cons (fle_pick [7] rfl) .nil))) (Run.pick [1, 12] (glitch_areSegments_2_ok F (glitch_areSegments_1 F N) ih false v0 v8 v7 v8 v7_f2 x24 sv0 b26 _ _ _ hv0 hH27 h))
    · have h := bif_f hc22 h
      refine Run.condF' rfl hc22 ?_
      refine Run.exit rfl (Run.seq (Run.region ?_))
      refine Run.opG wantS_none (ex_assign rfl) rfl ?_
      refine Run.opsEnd ?_
      refine Run.retTo Try.func105 rfl (res_tmp rfl res_nil) rfl ?_
      refine Run.opG wantS_none (ex_geq rfl rfl) rfl ?_
      refine Run.opG wantS_none (ex_assign rfl) rfl ?_
      refine Run.opsEnd ?_
      refine Run.retTo Try.func94 rfl (res_tmp rfl res_nil) rfl ?_
      rcases btf (v7_f2) with hc32 | hc32
      · have h := bif_t hc32 h
        refine Run.opG (wantS_yes' rfl rfl hc32) (ex_not rfl) rfl ?_
        refine Run.opG wantS_none (ex_pickT' rfl hc32 rfl rfl) rfl ?_
        exact Run.pick [12] (glitch_areSegments_4_ok F (!(decide ((0 : Int) ≤ ((-1) : Int)))) _ _ _ hH h)
      · have h := bif_f hc32 h
        refine Run.no (wantS_not' rfl rfl hc32) rfl ?_
        refine Run.opG wantS_none (ex_pickF' rfl hc32 rfl rfl) rfl ?_
        exact Run.pick [12] (glitch_areSegments_4_ok F false _ _ _ hH h)

def glitch_areSegments (F : Nat) (a0 : (List S_api_Segment)) : Option (Bool) :=
  bif (decide ((a0.length : Int) ≤ (32 : Int))) then
    glitch_areSegments_1 F F a0 (a0.length : Int) (0 : Int) (decide ((a0.length : Int) ≤ (32 : Int)))
  else
    glitch_areSegments_4 F false

theorem glitch_areSegments_ok (F : Nat) (a0 : (List S_api_Segment)) (s0 : SV) (r : Bool) (M : Mem) (hs0 : Slc (rd M) 2 (FlatR enc151) s0 a0) (h : glitch_areSegments F a0 = some r) : CallsM Try.prog 61 [s0] M (fun s M' => s = (.bool r) ∧ M' = M) := by
  refine CallsM.plain Try.func61 rfl rfl rfl (show Run _ _ _ (glitch_areSegments_post r) _ _ _ from ?_)
  rw [glitch_areSegments] at h
  replace hs0 := hs0.mono (rdLe_frozen M) (fun _ _ h => h)
  have hH := Has.nil (frozen M)
  refine Run.seq (Run.region ?_)
  refine Run.opG wantS_none (ex_assign rfl) rfl ?_
  refine Run.opsEnd (Run.seq (Run.region ?_))
  refine Run.opG wantS_none (ex_assign rfl) rfl ?_
  refine Run.opsEnd (Run.seq (Run.region ?_))
  refine Run.opG wantS_none (ex_move rfl) rfl ?_
  refine Run.opG wantS_none (ex_len' rfl hs0 lenk118) rfl ?_
  refine Run.opG wantS_none (ex_leq rfl rfl) rfl ?_
  refine Run.opG wantS_none (ex_move rfl) rfl ?_
  rcases btf ((decide ((a0.length : Int) ≤ (32 : Int)))) with hc21 | hc21
  · have h := bif_t hc21 h
    refine Run.opG (wantS_yes' rfl rfl hc21) (ex_move rfl) rfl ?_
    refine Run.opG (wantS_yes' rfl rfl hc21) (ex_move rfl) rfl ?_
    refine Run.enter (wantS_yes' rfl rfl hc21) (ex_call rfl mkk94 cal94) Try.func94 rfl rfl ?_
    refine Run.seq (Run.region ?_)
    refine Run.opG wantS_none (ex_assign rfl) rfl ?_
    refine Run.opsEnd (Run.seq (Run.region ?_))
    refine Run.opG wantS_none (ex_move rfl) rfl ?_
    refine Run.opG wantS_none (ex_move rfl) rfl ?_
    refine Run.enter wantS_none (ex_call rfl mkk105 cal105) Try.func105 rfl rfl ?_
    refine Run.seq (Run.region ?_)
    refine Run.opG wantS_none (ex_assign rfl) rfl ?_
    refine Run.opsEnd (Run.seq (Run.seq (Run.region ?_)))
    refine Run.opG wantS_none (ex_move rfl) rfl ?_
    refine Run.opG wantS_none (ex_len' rfl hs0 lenk118) rfl ?_
    refine Run.opG wantS_none (ex_move rfl) rfl ?_
    refine Run.opsEnd (Run.block (Run.loop ?_))
    exact Run.low (.cons (fle_pick [] rfl) (.cons (fle_pick [7] rfl) .nil)) (Run.pick [0, 1, 7, 8] (glitch_areSegments_1_ok F F a0 (a0.length : Int) (0 : Int) (decide ((a0.length : Int) ≤ (32 : Int))) s0 _ _ _ hs0 hH h))
  · have h := bif_f hc21 h
    refine Run.no (wantS_not' rfl rfl hc21) rfl ?_
    refine Run.no (wantS_not' rfl rfl hc21) rfl ?_
    refine Run.no (wantS_not' rfl rfl hc21) rfl ?_
    refine Run.no (wantS_not' rfl rfl hc21) rfl ?_
    refine Run.opG wantS_none (ex_pickF' rfl hc21 rfl rfl) rfl ?_
    exact Run.pick [12] (glitch_areSegments_4_ok F false _ _ _ hH h)

theorem mkk61 : makeK Try.prog 61 = none := by kernel_rfl
theorem cal61 : callable Try.prog 61 = true := by kernel_rfl
abbrev glitch_areVetoes_post (r : Bool) : SV → Mem → Prop := fun s _ => s = (.bool r)

def glitch_areVetoes_3 (F : Nat) (hd1 : (List S_api_Veto) → Int → Int → (List ((List UInt8) × Bool)) → Option (Bool)) (v10 : (List S_api_Veto)) (v11 v12 : Int) (v31 : Bool) (c29_0 : (List UInt8)) (c29_1 : (List S_api_Segment)) (l23 : (List ((List UInt8) × Bool))) : Option (Bool) :=
  bif v31 then
    some false
  else
    hd1 v10 v11 (w64 (v12 + (1 : Int))) (mput eqB l23 c29_0 true)

theorem glitch_areVetoes_3_ok (F : Nat) (hd1 : (List S_api_Veto) → Int → Int → (List ((List UInt8) × Bool)) → Option (Bool)) (hhd1 : ∀ (v10 : (List S_api_Veto)) (v11 v12 : Int) (l23 : (List ((List UInt8) × Bool))) (sv10 : SV) (b23 : Pos) (Fr : Rd) (M : Mem) (r : Bool) (hv10 : Slc Fr 2 (rep120 Fr) sv10 v10) (hH : Has Fr M [.obj b23 (.map (mapES kv9 kv4 0 l23) l23.length)]), hd1 v10 v11 v12 l23 = some r → Run Try.prog ⟨⟨32, [], none⟩, []⟩ 36 (glitch_areVetoes_post r) [(3, (.map b23)), (10, sv10), (11, (.int .i64 v11)), (12, (.int .i64 v12))] [codeC Try.prog 32 [1, 1, 1, 0, 1, 0, 0], loopC Try.prog 32 [1, 1, 1, 0, 1, 0, 0], .inBlock 0, codeC Try.prog 32 [1, 1, 1, 1]] M) : ∀ (v10 : (List S_api_Veto)) (v11 v12 : Int) (v31 : Bool) (c29_0 : (List UInt8)) (c29_1 : (List S_api_Segment)) (l23 : (List ((List UInt8) × Bool))) (sv10 sc29_1 : SV) (b23 b29 : Pos) (Fr : Rd) (M : Mem) (r : Bool) (hv10 : Slc Fr 2 (rep120 Fr) sv10 v10) (hc29_1 : Slc Fr 2 (FlatR enc151) sc29_1 c29_1) (hH : Has Fr M [.obj b23 (.map (mapES kv9 kv4 0 l23) l23.length), .obj b29 (.row 120 .whole [(.str c29_0), sc29_1])]), glitch_areVetoes_3 F hd1 v10 v11 v12 v31 c29_0 c29_1 l23 = some r → Run Try.prog ⟨⟨32, [], none⟩, []⟩ 36 (glitch_areVetoes_post r) [(3, (.map b23)), (5, (.ptr b29 0)), (10, sv10), (11, (.int .i64 v11)), (12, (.int .i64 v12)), (31, (.bool v31))] [codeC Try.prog 32 [1, 1, 1, 0, 1, 0, 0, 1, 1, 0, 0, 1, 0, 1], codeC Try.prog 32 [1, 1, 1, 0, 1, 0, 0, 1, 1, 0, 0, 1, 1], .inBlock 1, codeC Try.prog 32 [1, 1, 1, 0, 1, 0, 0, 1, 1, 1], loopC Try.prog 32 [1, 1, 1, 0, 1, 0, 0], .inBlock 0, codeC Try.prog 32 [1, 1, 1, 1]] M := by
  intro v10 v11 v12 v31 c29_0 c29_1 l23 sv10 sc29_1 b23 b29 Fr M r hv10 hc29_1 hH h
  rw [glitch_areVetoes_3] at h
  rcases btf (v31) with hc37 | hc37
  · have h := bif_t hc37 h
    refine Run.condT' rfl hc37 ?_
    refine Run.seq (Run.region ?_)
    refine Run.opG wantS_none (ex_assign rfl) rfl ?_
    refine Run.opsEnd ?_
    cases h
    exact Run.ret Try.func32 rfl (res_tmp rfl res_nil) rfl
  · have h := bif_f hc37 h
    refine Run.condF' rfl hc37 ?_
    refine Run.skip (Run.region ?_)
    refine Run.opG wantS_none (ex_move rfl) rfl ?_
    refine Run.opG wantS_none (ex_fieldAddr rfl off120_0) rfl ?_
    refine Run.opG wantS_none (ex_load1 rfl (hH.cells (i := 1) rfl 0 rfl) rdLe_rfl agg9) rfl ?_
    refine Run.opX wantS_none rfl (ExG.mapUpdate (ke := kv9) (ve := kv4) (k := c29_0) (v := true) rfl rfl rfl hH (i := 0) rfl kmt117 (kok117 _) keq117 khe117 rfl rfl) ?_
    rintro _ M38 ⟨rfl, (hH38 : Has Fr M38 [.obj b23 (.map (mapES kv9 kv4 0 (mput eqB l23 c29_0 true)) (mput eqB l23 c29_0 true).length), .obj b29 (.row 120 .whole [(.str c29_0), sc29_1])])⟩
    refine Run.opsEnd (Run.inBlock (Run.region ?_))
    refine Run.opG wantS_none (ex_add rfl rfl) rfl ?_
    refine Run.opG wantS_none (ex_move rfl) rfl ?_
    refine Run.opsEnd (Run.inLoop ?_)
    exact Run.pick [3, 10, 11, 12] (hhd1 v10 v11 (w64 (v12 + (1 : Int))) (mput eqB l23 c29_0 true) sv10 b23 _ _ _ hv10 (hH38.pick [0] rfl rfl) h)

def glitch_areVetoes_2 (F : Nat) (hd1 : (List S_api_Veto) → Int → Int → (List ((List UInt8) × Bool)) → Option (Bool)) (v10 : (List S_api_Veto)) (v11 v12 : Int) (v25 : Bool) (c29_0 : (List UInt8)) (c29_1 : (List S_api_Segment)) (l23 : (List ((List UInt8) × Bool))) : Option (Bool) :=
  bif v25 then
    glitch_areVetoes_3 F hd1 v10 v11 v12 true c29_0 c29_1 l23
  else
    bnd (glitch_areSegments F c29_1) fun r40 =>
    glitch_areVetoes_3 F hd1 v10 v11 v12 (!r40) c29_0 c29_1 l23

theorem glitch_areVetoes_2_ok (F : Nat) (hd1 : (List S_api_Veto) → Int → Int → (List ((List UInt8) × Bool)) → Option (Bool)) (hhd1 : ∀ (v10 : (List S_api_Veto)) (v11 v12 : Int) (l23 : (List ((List UInt8) × Bool))) (sv10 : SV) (b23 : Pos) (Fr : Rd) (M : Mem) (r : Bool) (hv10 : Slc Fr 2 (rep120 Fr) sv10 v10) (hH : Has Fr M [.obj b23 (.map (mapES kv9 kv4 0 l23) l23.length)]), hd1 v10 v11 v12 l23 = some r → Run Try.prog ⟨⟨32, [], none⟩, []⟩ 36 (glitch_areVetoes_post r) [(3, (.map b23)), (10, sv10), (11, (.int .i64 v11)), (12, (.int .i64 v12))] [codeC Try.prog 32 [1, 1, 1, 0, 1, 0, 0], loopC Try.prog 32 [1, 1, 1, 0, 1, 0, 0], .inBlock 0, codeC Try.prog 32 [1, 1, 1, 1]] M) : ∀ (v10 : (List S_api_Veto)) (v11 v12 : Int) (v25 : Bool) (c29_0 : (List UInt8)) (c29_1 : (List S_api_Segment)) (l23 : (List ((List UInt8) × Bool))) (sv10 sc29_1 : SV) (b23 b29 : Pos) (Fr : Rd) (M : Mem) (r : Bool) (hv10 : Slc Fr 2 (rep120 Fr) sv10 v10) (hc29_1 : Slc Fr 2 (FlatR enc151) sc29_1 c29_1) (hH : Has Fr M [.obj b23 (.map (mapES kv9 kv4 0 l23) l23.length), .obj b29 (.row 120 .whole [(.str c29_0), sc29_1])]), glitch_areVetoes_2 F hd1 v10 v11 v12 v25 c29_0 c29_1 l23 = some r → Run Try.prog ⟨⟨32, [], none⟩, []⟩ 36 (glitch_areVetoes_post r) [(3, (.map b23)), (5, (.ptr b29 0)), (10, sv10), (11, (.int .i64 v11)), (12, (.int .i64 v12)), (25, (.bool v25))] [itemC Try.prog 32 [1, 1, 1, 0, 1, 0, 0, 1, 1, 0, 0, 1, 0, 0] 10, codeC Try.prog 32 [1, 1, 1, 0, 1, 0, 0, 1, 1, 0, 0, 1, 0, 1], codeC Try.prog 32 [1, 1, 1, 0, 1, 0, 0, 1, 1, 0, 0, 1, 1], .inBlock 1, codeC Try.prog 32 [1, 1, 1, 0, 1, 0, 0, 1, 1, 1], loopC Try.prog 32 [1, 1, 1, 0, 1, 0, 0], .inBlock 0, codeC Try.prog 32 [1, 1, 1, 1]] M := by
  intro v10 v11 v12 v25 c29_0 c29_1 l23 sv10 sc29_1 b23 b29 Fr M r hv10 hc29_1 hH h
  rw [glitch_areVetoes_2] at h
  refine Run.opG wantS_none (ex_move rfl) rfl ?_
  rcases btf (v25) with hc36 | hc36
  · have h := bif_t hc36 h
    refine Run.no (wantS_not' rfl rfl hc36) rfl ?_
    refine Run.no (wantS_not' rfl rfl hc36) rfl ?_
    refine Run.no (wantS_not' rfl rfl hc36) rfl ?_
    refine Run.no (wantS_not' rfl rfl hc36) rfl ?_
    refine Run.opG wantS_none (ex_pickT' rfl hc36 rfl rfl) rfl ?_
    refine Run.opsEnd ?_
    exact Run.pick [3, 5, 10, 11, 12, 31] (glitch_areVetoes_3_ok F hd1 hhd1 v10 v11 v12 true c29_0 c29_1 l23 sv10 sc29_1 b23 b29 _ _ _ hv10 hc29_1 hH h)
  · have h := bif_f hc36 h
    refine Run.opG (wantS_yes' rfl rfl hc36) (ex_fieldAddr rfl off120_1) rfl ?_
    refine Run.opG (wantS_yes' rfl rfl hc36) (ex_load1 rfl (hH.cells (i := 1) rfl 1 rfl) rdLe_rfl agg118) rfl ?_
    obtain ⟨r40, hr40, h⟩ := bnd_some h
    refine Run.callP (wantS_yes' rfl rfl hc36) (ex_call rfl mkk61 cal61) rfl (glitch_areSegments_ok F c29_1 sc29_1 _ _ (hH.slcF hc29_1) hr40) ?_
    refine Run.opG (wantS_yes' rfl rfl hc36) (ex_not rfl) rfl ?_
    refine Run.opG wantS_none (ex_pickF' rfl hc36 rfl rfl) rfl ?_
    refine Run.opsEnd ?_
    exact Run.pick [3, 5, 10, 11, 12, 31] (glitch_areVetoes_3_ok F hd1 hhd1 v10 v11 v12 (!r40) c29_0 c29_1 l23 sv10 sc29_1 b23 b29 _ _ _ hv10 hc29_1 hH h)

def glitch_areVetoes_1 (F : Nat) : Nat → (List S_api_Veto) → Int → Int → (List ((List UInt8) × Bool)) → Option (Bool)
  | 0, _, _, _, _ => none
  | N + 1, v10, v11, v12, l23 =>
    bif (decide (v12 < v11)) then
      bnd (idx v10 v12) fun x27 =>
      bnd (num_IsName F x27.Name) fun r33 =>
      bif (!r33) then
        glitch_areVetoes_2 F (glitch_areVetoes_1 F N) v10 v11 v12 true x27.Name x27.Segments l23
      else
        glitch_areVetoes_2 F (glitch_areVetoes_1 F N) v10 v11 v12 (mget eqB false l23 x27.Name) x27.Name x27.Segments l23
    else
      some true

theorem glitch_areVetoes_1_ok (F : Nat) : ∀ (N : Nat), ∀ (v10 : (List S_api_Veto)) (v11 v12 : Int) (l23 : (List ((List UInt8) × Bool))) (sv10 : SV) (b23 : Pos) (Fr : Rd) (M : Mem) (r : Bool) (hv10 : Slc Fr 2 (rep120 Fr) sv10 v10) (hH : Has Fr M [.obj b23 (.map (mapES kv9 kv4 0 l23) l23.length)]), glitch_areVetoes_1 F N v10 v11 v12 l23 = some r → Run Try.prog ⟨⟨32, [], none⟩, []⟩ 36 (glitch_areVetoes_post r) [(3, (.map b23)), (10, sv10), (11, (.int .i64 v11)), (12, (.int .i64 v12))] [codeC Try.prog 32 [1, 1, 1, 0, 1, 0, 0], loopC Try.prog 32 [1, 1, 1, 0, 1, 0, 0], .inBlock 0, codeC Try.prog 32 [1, 1, 1, 1]] M := by
  intro N
  induction N with
  | zero =>
    intro v10 v11 v12 l23 sv10 b23 Fr M r hv10 hH h
    simp [glitch_areVetoes_1] at h
  | succ N ih =>
    intro v10 v11 v12 l23 sv10 b23 Fr M r hv10 hH h
    rw [glitch_areVetoes_1] at h
    refine Run.seq (Run.region ?_)
    refine Run.opG wantS_none (ex_lss rfl rfl) rfl ?_
    refine Run.opsEnd (Run.seq ?_)
    rcases btf ((decide (v12 < v11))) with hc25 | hc25
    · have h := bif_t hc25 h
      refine Run.condT' rfl hc25 ?_
      refine Run.skip (Run.seq (Run.block (Run.seq (Run.region ?_))))
      obtain ⟨x27, hx27, h⟩ := bnd_some h
      obtain ⟨p27, o27, _, hx27, hp27, ⟨q27_0, rfl, hq27_0⟩⟩ := sl_elem (P := Try.prog) (t := 41) (kk := .i64) hv10 hx27 els41
      refine Run.opG wantS_none (ex_elX rfl rfl hx27) rfl ?_
      refine Run.opG wantS_none (ex_loadA rfl (hH.ptrF hp27) rdLe_rfl agg120 rfl rfl rfl) rfl ?_
      refine Run.opX wantS_none rfl (ExG.new (v := fun b => .ptr b 0) (ex_alloc zer120) hH) ?_
      rintro _ M30 ⟨b29, rfl, hH30⟩
      refine Run.opX wantS_none rfl (ExG.storeC (c' := [(.str x27.Name), q27_0]) rfl rfl rfl hH30 (i := 0) rfl sz120 rfl rfl rfl (ones_cons rfl (ones_cons (slc_one hq27_0) ones_nil)) rfl) ?_
      rintro _ M31 ⟨rfl, (hH31 : Has Fr M31 [.obj b29 (.row 120 .whole [(.str x27.Name), q27_0]), .obj b23 (.map (mapES kv9 kv4 0 l23) l23.length)])⟩
      refine Run.opsEnd (Run.seq (Run.seq (Run.region ?_)))
      refine Run.opG wantS_none (ex_fieldAddr rfl off120_0) rfl ?_
      refine Run.opG wantS_none (ex_load1 rfl (hH31.cells (i := 0) rfl 0 rfl) rdLe_rfl agg9) rfl ?_
      obtain ⟨r33, hr33, h⟩ := bnd_some h
      refine Run.callP wantS_none (ex_call rfl mkk60 cal60) rfl (num_IsName_ok F x27.Name _ _ hr33) ?_
      refine Run.opG wantS_none (ex_not rfl) rfl ?_
      refine Run.opG wantS_none (ex_move rfl) rfl ?_
      rcases btf ((!r33)) with hc35 | hc35
      · have h := bif_t hc35 h
        refine Run.no (wantS_not' rfl rfl hc35) rfl ?_
        refine Run.no (wantS_not' rfl rfl hc35) rfl ?_
        refine Run.no (wantS_not' rfl rfl hc35) rfl ?_
        refine Run.no (wantS_not' rfl rfl hc35) rfl ?_
        refine Run.opG wantS_none (ex_pickT' rfl hc35 rfl rfl) rfl ?_
        exact Run.pick [3, 5, 10, 11, 12, 25] (glitch_areVetoes_2_ok F (glitch_areVetoes_1 F N) ih v10 v11 v12 true x27.Name x27.Segments l23 sv10 q27_0 b23 b29 _ _ _ hv10 hq27_0 (hH31.pick [1, 0] rfl rfl) h)
      · have h := bif_f hc35 h
        refine Run.opG (wantS_yes' rfl rfl hc35) (ex_move rfl) rfl ?_
        refine Run.opG (wantS_yes' rfl rfl hc35) (ex_fieldAddr rfl off120_0) rfl ?_
        refine Run.opG (wantS_yes' rfl rfl hc35) (ex_load1 rfl (hH31.cells (i := 0) rfl 0 rfl) rdLe_rfl agg9) rfl ?_
        refine Run.opG (wantS_yes' rfl rfl hc35) (ex_lookup (ke := kv9) (ve := kv4) (k := x27.Name) rfl rfl hH31 (i := 1) rfl kmt117 (kok117 _) keq117 khe117 kzr117) rfl ?_
        refine Run.opG wantS_none (ex_pickF' rfl hc35 rfl rfl) rfl ?_
        exact Run.pick [3, 5, 10, 11, 12, 25] (glitch_areVetoes_2_ok F (glitch_areVetoes_1 F N) ih v10 v11 v12 (mget eqB false l23 x27.Name) x27.Name x27.Segments l23 sv10 q27_0 b23 b29 _ _ _ hv10 hq27_0 (hH31.pick [1, 0] rfl rfl) h)
    · have h := bif_f hc25 h
      refine Run.condF' rfl hc25 ?_
      refine Run.exit rfl (Run.seq (Run.region ?_))
      refine Run.opG wantS_none (ex_assign rfl) rfl ?_
      refine Run.opsEnd ?_
      cases h
      exact Run.ret Try.func32 rfl (res_tmp rfl res_nil) rfl

def glitch_areVetoes (F : Nat) (a0 : (List S_api_Veto)) : Option (Bool) :=
  bif (decide ((12 : Int) < (a0.length : Int))) then
    some false
  else
    glitch_areVetoes_1 F F a0 (a0.length : Int) (0 : Int) ([] : List ((List UInt8) × Bool))

theorem glitch_areVetoes_ok (F : Nat) (a0 : (List S_api_Veto)) (s0 : SV) (r : Bool) (M : Mem) (hs0 : Slc (rd M) 2 (rep120 (rd M)) s0 a0) (h : glitch_areVetoes F a0 = some r) : CallsM Try.prog 32 [s0] M (fun s M' => s = (.bool r) ∧ M' = M) := by
  refine CallsM.plain Try.func32 rfl rfl rfl (show Run _ _ _ (glitch_areVetoes_post r) _ _ _ from ?_)
  rw [glitch_areVetoes] at h
  replace hs0 := hs0.mono (rdLe_frozen M) (fun _ _ => rep120_mo (rdLe_frozen M))
  have hH := Has.nil (frozen M)
  refine Run.seq (Run.region ?_)
  refine Run.opG wantS_none (ex_assign rfl) rfl ?_
  refine Run.opsEnd (Run.seq (Run.seq (Run.region ?_)))
  refine Run.opG wantS_none (ex_move rfl) rfl ?_
  refine Run.opG wantS_none (ex_len' rfl hs0 lenk41) rfl ?_
  refine Run.opG wantS_none (ex_gtr rfl rfl) rfl ?_
  refine Run.opsEnd ?_
  rcases btf ((decide ((12 : Int) < (a0.length : Int)))) with hc21 | hc21
  · have h := bif_t hc21 h
    refine Run.condT' rfl hc21 ?_
    refine Run.seq (Run.region ?_)
    refine Run.opG wantS_none (ex_assign rfl) rfl ?_
    refine Run.opsEnd ?_
    cases h
    exact Run.ret Try.func32 rfl (res_tmp rfl res_nil) rfl
  · have h := bif_f hc21 h
    refine Run.condF' rfl hc21 ?_
    refine Run.skip (Run.seq (Run.region ?_))
    refine Run.opX wantS_none rfl (ExG.makeMap kv9 kv4 hH) ?_
    rintro _ M24 ⟨b23, rfl, hH24⟩
    refine Run.opG wantS_none (ex_assign rfl) rfl ?_
    refine Run.opsEnd (Run.seq (Run.seq (Run.region ?_)))
    refine Run.opG wantS_none (ex_move rfl) rfl ?_
    refine Run.opG wantS_none (ex_len' rfl hs0 lenk41) rfl ?_
    refine Run.opG wantS_none (ex_move rfl) rfl ?_
    refine Run.opsEnd (Run.block (Run.loop ?_))
    exact Run.pick [3, 10, 11, 12] (glitch_areVetoes_1_ok F F a0 (a0.length : Int) (0 : Int) ([] : List ((List UInt8) × Bool)) s0 b23 _ _ _ hs0 hH24 h)

theorem mkk32 : makeK Try.prog 32 = none := by kernel_rfl
theorem cal32 : callable Try.prog 32 = true := by kernel_rfl
theorem lenk22 : lenK Try.prog 22 = some .sl := by kernel_rfl
theorem els22 : elems Try.prog 22 = some (.sl 1) := by kernel_rfl
abbrev glitch_isFrom_post (r : Bool) : SV → Mem → Prop := fun s _ => s = (.bool r)

def glitch_isFrom_1 (F : Nat) (v14 : Bool) : Option (Bool) :=
  some v14

theorem glitch_isFrom_1_ok (F : Nat) : ∀ (v14 : Bool) (Fr : Rd) (M : Mem) (r : Bool) (hH : Has Fr M []), glitch_isFrom_1 F v14 = some r → Run Try.prog ⟨⟨62, [], none⟩, []⟩ 15 (glitch_isFrom_post r) [(14, (.bool v14))] [itemC Try.prog 62 [1, 0] 8, codeC Try.prog 62 [1, 1]] M := by
  intro v14 Fr M r hH h
  rw [glitch_isFrom_1] at h
  refine Run.opG wantS_none (ex_assign rfl) rfl ?_
  refine Run.opsEnd ?_
  cases h
  exact Run.ret Try.func62 rfl (res_tmp rfl res_nil) rfl

def glitch_isFrom (F : Nat) (a0 a1 a2 : Int) : Option (Bool) :=
  bif (decide (a0 ≤ a1)) then
    glitch_isFrom_1 F (decide (a1 ≤ a2))
  else
    glitch_isFrom_1 F false

theorem glitch_isFrom_ok (F : Nat) (a0 a1 a2 : Int) (r : Bool) (M : Mem) (h : glitch_isFrom F a0 a1 a2 = some r) : CallsM Try.prog 62 [(.int .i64 a0), (.int .i64 a1), (.int .i64 a2)] M (fun s M' => s = (.bool r) ∧ M' = M) := by
  refine CallsM.plain Try.func62 rfl rfl rfl (show Run _ _ _ (glitch_isFrom_post r) _ _ _ from ?_)
  rw [glitch_isFrom] at h
  have hH := Has.nil (frozen M)
  refine Run.seq (Run.region ?_)
  refine Run.opG wantS_none (ex_assign rfl) rfl ?_
  refine Run.opsEnd (Run.seq (Run.region ?_))
  refine Run.opG wantS_none (ex_move rfl) rfl ?_
  refine Run.opG wantS_none (ex_move rfl) rfl ?_
  refine Run.opG wantS_none (ex_leq rfl rfl) rfl ?_
  refine Run.opG wantS_none (ex_move rfl) rfl ?_
  rcases btf ((decide (a0 ≤ a1))) with hc21 | hc21
  · have h := bif_t hc21 h
    refine Run.opG (wantS_yes' rfl rfl hc21) (ex_move rfl) rfl ?_
    refine Run.opG (wantS_yes' rfl rfl hc21) (ex_move rfl) rfl ?_
    refine Run.opG (wantS_yes' rfl rfl hc21) (ex_leq rfl rfl) rfl ?_
    refine Run.opG wantS_none (ex_pickT' rfl hc21 rfl rfl) rfl ?_
    exact Run.pick [14] (glitch_isFrom_1_ok F (decide (a1 ≤ a2)) _ _ _ hH h)
  · have h := bif_f hc21 h
    refine Run.no (wantS_not' rfl rfl hc21) rfl ?_
    refine Run.no (wantS_not' rfl rfl hc21) rfl ?_
    refine Run.no (wantS_not' rfl rfl hc21) rfl ?_
    refine Run.opG wantS_none (ex_pickF' rfl hc21 rfl rfl) rfl ?_
    exact Run.pick [14] (glitch_isFrom_1_ok F false _ _ _ hH h)

theorem mkk62 : makeK Try.prog 62 = none := by kernel_rfl
theorem cal62 : callable Try.prog 62 = true := by kernel_rfl
abbrev glitch_areTimes_post (r : Bool) : SV → Mem → Prop := fun s _ => s = (.bool r)

def glitch_areTimes_1 (F : Nat) : Nat → Int → (List Int) → Int → Int → Option (Bool)
  | 0, _, _, _, _ => none
  | N + 1, v3, v9, v10, v11 =>
    bif (decide (v11 < v10)) then
      bnd (idx v9 v11) fun x24 =>
      bnd (glitch_isFrom F (w64 (v3 + (1 : Int))) x24 (1073741824 : Int)) fun r26 =>
      bif (!r26) then
        some false
      else
        (glitch_areTimes_1 F N) x24 v9 v10 (w64 (v11 + (1 : Int)))
    else
      some true

theorem glitch_areTimes_1_ok (F : Nat) : ∀ (N : Nat), ∀ (v3 : Int) (v9 : (List Int)) (v10 v11 : Int) (sv9 : SV) (Fr : Rd) (M : Mem) (r : Bool) (hv9 : Slc Fr 1 (FlatR enc3) sv9 v9) (hH : Has Fr M []), glitch_areTimes_1 F N v3 v9 v10 v11 = some r → Run Try.prog ⟨⟨33, [], none⟩, []⟩ 22 (glitch_areTimes_post r) [(3, (.int .i64 v3)), (9, sv9), (10, (.int .i64 v10)), (11, (.int .i64 v11))] [codeC Try.prog 33 [1, 1, 1, 0, 1, 0, 0], loopC Try.prog 33 [1, 1, 1, 0, 1, 0, 0], .inBlock 0, codeC Try.prog 33 [1, 1, 1, 1]] M := by
  intro N
  induction N with
  | zero =>
    intro v3 v9 v10 v11 sv9 Fr M r hv9 hH h
    simp [glitch_areTimes_1] at h
  | succ N ih =>
    intro v3 v9 v10 v11 sv9 Fr M r hv9 hH h
    rw [glitch_areTimes_1] at h
    refine Run.seq (Run.region ?_)
    refine Run.opG wantS_none (ex_lss rfl rfl) rfl ?_
    refine Run.opsEnd (Run.seq ?_)
    rcases btf ((decide (v11 < v10))) with hc22 | hc22
    · have h := bif_t hc22 h
      refine Run.condT' rfl hc22 ?_
      refine Run.skip (Run.seq (Run.block (Run.seq (Run.region ?_))))
      obtain ⟨x24, hx24, h⟩ := bnd_some h
      obtain ⟨p24, o24, _, hx24, hp24, rfl⟩ := sl_elem (P := Try.prog) (t := 22) (kk := .i64) hv9 hx24 els22
      refine Run.opG wantS_none (ex_elX rfl rfl hx24) rfl ?_
      refine Run.opG wantS_none (ex_load1 rfl (hH.ptrF hp24) rdLe_rfl agg3) rfl ?_
      refine Run.opG wantS_none (ex_assign rfl) rfl ?_
      refine Run.opsEnd (Run.seq (Run.seq (Run.region ?_)))
      refine Run.opG wantS_none (ex_move rfl) rfl ?_
      refine Run.opG wantS_none (ex_add rfl rfl) rfl ?_
      refine Run.opG wantS_none (ex_move rfl) rfl ?_
      obtain ⟨r26, hr26, h⟩ := bnd_some h
      refine Run.callP wantS_none (ex_call rfl mkk62 cal62) rfl (glitch_isFrom_ok F (w64 (v3 + (1 : Int))) x24 (1073741824 : Int) _ _ hr26) ?_
      refine Run.opG wantS_none (ex_not rfl) rfl ?_
      refine Run.opsEnd ?_
      rcases btf ((!r26)) with hc28 | hc28
      · have h := bif_t hc28 h
        refine Run.condT' rfl hc28 ?_
        refine Run.seq (Run.region ?_)
        refine Run.opG wantS_none (ex_assign rfl) rfl ?_
        refine Run.opsEnd ?_
        cases h
        exact Run.ret Try.func33 rfl (res_tmp rfl res_nil) rfl
      · have h := bif_f hc28 h
        refine Run.condF' rfl hc28 ?_
        refine Run.skip (Run.region ?_)
        refine Run.opG wantS_none (ex_move rfl) rfl ?_
        refine Run.opG wantS_none (ex_assign rfl) rfl ?_
        refine Run.opsEnd (Run.inBlock (Run.region ?_))
        refine Run.opG wantS_none (ex_add rfl rfl) rfl ?_
        refine Run.opG wantS_none (ex_move rfl) rfl ?_
        refine Run.opsEnd (Run.inLoop ?_)
        exact Run.pick [3, 9, 10, 11] (ih x24 v9 v10 (w64 (v11 + (1 : Int))) sv9 _ _ _ hv9 hH h)
    · have h := bif_f hc22 h
      refine Run.condF' rfl hc22 ?_
      refine Run.exit rfl (Run.seq (Run.region ?_))
      refine Run.opG wantS_none (ex_assign rfl) rfl ?_
      refine Run.opsEnd ?_
      cases h
      exact Run.ret Try.func33 rfl (res_tmp rfl res_nil) rfl

def glitch_areTimes (F : Nat) (a0 : (List Int)) : Option (Bool) :=
  bif (decide ((256 : Int) < (a0.length : Int))) then
    some false
  else
    glitch_areTimes_1 F F ((-1) : Int) a0 (a0.length : Int) (0 : Int)

theorem glitch_areTimes_ok (F : Nat) (a0 : (List Int)) (s0 : SV) (r : Bool) (M : Mem) (hs0 : Slc (rd M) 1 (FlatR enc3) s0 a0) (h : glitch_areTimes F a0 = some r) : CallsM Try.prog 33 [s0] M (fun s M' => s = (.bool r) ∧ M' = M) := by
  refine CallsM.plain Try.func33 rfl rfl rfl (show Run _ _ _ (glitch_areTimes_post r) _ _ _ from ?_)
  rw [glitch_areTimes] at h
  replace hs0 := hs0.mono (rdLe_frozen M) (fun _ _ h => h)
  have hH := Has.nil (frozen M)
  refine Run.seq (Run.region ?_)
  refine Run.opG wantS_none (ex_assign rfl) rfl ?_
  refine Run.opsEnd (Run.seq (Run.seq (Run.region ?_)))
  refine Run.opG wantS_none (ex_move rfl) rfl ?_
  refine Run.opG wantS_none (ex_len' rfl hs0 lenk22) rfl ?_
  refine Run.opG wantS_none (ex_gtr rfl rfl) rfl ?_
  refine Run.opsEnd ?_
  rcases btf ((decide ((256 : Int) < (a0.length : Int)))) with hc21 | hc21
  · have h := bif_t hc21 h
    refine Run.condT' rfl hc21 ?_
    refine Run.seq (Run.region ?_)
    refine Run.opG wantS_none (ex_assign rfl) rfl ?_
    refine Run.opsEnd ?_
    cases h
    exact Run.ret Try.func33 rfl (res_tmp rfl res_nil) rfl
  · have h := bif_f hc21 h
    refine Run.condF' rfl hc21 ?_
    refine Run.skip (Run.seq (Run.region ?_))
    refine Run.opG wantS_none (ex_assign rfl) rfl ?_
    refine Run.opsEnd (Run.seq (Run.seq (Run.region ?_)))
    refine Run.opG wantS_none (ex_move rfl) rfl ?_
    refine Run.opG wantS_none (ex_len' rfl hs0 lenk22) rfl ?_
    refine Run.opG wantS_none (ex_move rfl) rfl ?_
    refine Run.opsEnd (Run.block (Run.loop ?_))
    exact Run.pick [3, 9, 10, 11] (glitch_areTimes_1_ok F F ((-1) : Int) a0 (a0.length : Int) (0 : Int) s0 _ _ _ hs0 hH h)

theorem mkk33 : makeK Try.prog 33 = none := by kernel_rfl
theorem cal33 : callable Try.prog 33 = true := by kernel_rfl
theorem mkk63 : makeK Try.prog 63 = none := by kernel_rfl
theorem cal63 : callable Try.prog 63 = true := by kernel_rfl
theorem mkk64 : makeK Try.prog 64 = none := by kernel_rfl
theorem cal64 : callable Try.prog 64 = true := by kernel_rfl
theorem agg41 : aggSize Try.prog 41 = some none := by kernel_rfl
theorem mkk67 : makeK Try.prog 67 = none := by kernel_rfl
theorem cal67 : callable Try.prog 67 = true := by kernel_rfl
theorem mkk96 : makeK Try.prog 96 = none := by kernel_rfl
theorem cal96 : callable Try.prog 96 = true := by kernel_rfl
theorem mkk65 : makeK Try.prog 65 = none := by kernel_rfl
theorem cal65 : callable Try.prog 65 = true := by kernel_rfl
theorem mkk95 : makeK Try.prog 95 = none := by kernel_rfl
theorem cal95 : callable Try.prog 95 = true := by kernel_rfl
abbrev glitch_holdsAt_post (r : Bool) : SV → Mem → Prop := fun s _ => s = (.bool r)

def glitch_holdsAt_2 (F : Nat) (hd1 : (List S_api_Segment) → Int → Int → Int → Option (Bool)) (v13 : Bool) (v0_f1 : (List S_api_Segment)) (v5_f1 v7_f1 v8_f1 c25_0 : Int) : Option (Bool) :=
  bif v13 then
    some (decide ((0 : Int) ≤ v5_f1))
  else
    hd1 v0_f1 v7_f1 (w64 (v8_f1 + (1 : Int))) c25_0

theorem glitch_holdsAt_2_ok (F : Nat) (hd1 : (List S_api_Segment) → Int → Int → Int → Option (Bool)) (hhd1 : ∀ (v0 : (List S_api_Segment)) (v7 v8 c25_0 : Int) (sv0 : SV) (b25 : Pos) (Fr : Rd) (M : Mem) (r : Bool) (hv0 : Slc Fr 2 (FlatR enc151) sv0 v0) (hH : Has Fr M [.obj b25 (.row 3 .whole [(.int .i64 c25_0)])]), hd1 v0 v7 v8 c25_0 = some r → Run Try.prog ⟨⟨105, [], none⟩, [.mk ⟨94, [], none⟩ 9 (treeOf []) [itemC Try.prog 94 [1, 0] 2, codeC Try.prog 94 [1, 1]], .mk ⟨66, [], none⟩ 9 (treeOf []) [itemC Try.prog 66 [1, 0] 3, codeC Try.prog 66 [1, 1]]]⟩ 19 (glitch_holdsAt_post r) [(0, sv0), (1, (.fn (.func 95) [] [(.ptr b25 0)])), (7, (.int .i64 v7)), (8, (.int .i64 v8))] [codeC Try.prog 105 [1, 0, 1, 0, 0], loopC Try.prog 105 [1, 0, 1, 0, 0], .inBlock 0, codeC Try.prog 105 [1, 1]] M) : ∀ (v13 : Bool) (v0_f1 : (List S_api_Segment)) (v5_f1 v7_f1 v8_f1 c25_0 : Int) (sv0_f1 : SV) (b25 : Pos) (Fr : Rd) (M : Mem) (r : Bool) (hv0_f1 : Slc Fr 2 (FlatR enc151) sv0_f1 v0_f1) (hH : Has Fr M [.obj b25 (.row 3 .whole [(.int .i64 c25_0)])]), glitch_holdsAt_2 F hd1 v13 v0_f1 v5_f1 v7_f1 v8_f1 c25_0 = some r → Run Try.prog ⟨⟨95, [], none⟩, [.mk ⟨105, [], none⟩ 19 (treeOf [(0, sv0_f1), (1, (.fn (.func 95) [] [(.ptr b25 0)])), (5, (.int .i64 v5_f1)), (7, (.int .i64 v7_f1)), (8, (.int .i64 v8_f1))]) [itemC Try.prog 105 [1, 0, 1, 0, 0, 1, 1, 0, 0, 1, 0] 5, codeC Try.prog 105 [1, 0, 1, 0, 0, 1, 1, 0, 0, 1, 1], .inBlock 1, codeC Try.prog 105 [1, 0, 1, 0, 0, 1, 1, 1], loopC Try.prog 105 [1, 0, 1, 0, 0], .inBlock 0, codeC Try.prog 105 [1, 1]], .mk ⟨94, [], none⟩ 9 (treeOf []) [itemC Try.prog 94 [1, 0] 2, codeC Try.prog 94 [1, 1]], .mk ⟨66, [], none⟩ 9 (treeOf []) [itemC Try.prog 66 [1, 0] 3, codeC Try.prog 66 [1, 1]]]⟩ 14 (glitch_holdsAt_post r) [(13, (.bool v13))] [itemC Try.prog 95 [1, 0] 10, codeC Try.prog 95 [1, 1]] M := by
  intro v13 v0_f1 v5_f1 v7_f1 v8_f1 c25_0 sv0_f1 b25 Fr M r hv0_f1 hH h
  rw [glitch_holdsAt_2] at h
  refine Run.opG wantS_none (ex_assign rfl) rfl ?_
  refine Run.opsEnd ?_
  refine Run.retTo Try.func95 rfl (res_tmp rfl res_nil) rfl ?_
  refine Run.opsEnd ?_
  rcases btf (v13) with hc34 | hc34
  · have h := bif_t hc34 h
    refine Run.condT' rfl hc34 ?_
    refine Run.seq (Run.region ?_)
    refine Run.opG wantS_none (ex_move rfl) rfl ?_
    refine Run.opG wantS_none (ex_assign rfl) rfl ?_
    refine Run.opsEnd ?_
    refine Run.retTo Try.func105 rfl (res_tmp rfl res_nil) rfl ?_
    refine Run.opG wantS_none (ex_geq rfl rfl) rfl ?_
    refine Run.opG wantS_none (ex_assign rfl) rfl ?_
    refine Run.opsEnd ?_
    refine Run.retTo Try.func94 rfl (res_tmp rfl res_nil) rfl ?_
    refine Run.opG wantS_none (ex_assign rfl) rfl ?_
    refine Run.opsEnd ?_
    cases h
    exact Run.ret Try.func66 rfl (res_tmp rfl res_nil) rfl
  · have h := bif_f hc34 h
    refine Run.condF' rfl hc34 ?_
    refine Run.skip (Run.inBlock (Run.region ?_))
    refine Run.opG wantS_none (ex_add rfl rfl) rfl ?_
    refine Run.opG wantS_none (ex_move rfl) rfl ?_
    refine Run.opsEnd (Run.inLoop ?_)
    exact Run.low (.cons (fle_pick [] rfl) (.cons (fle_pick [] rfl) .nil)) (Run.pick [0, 1, 7, 8] (hhd1 v0_f1 v7_f1 (w64 (v8_f1 + (1 : Int))) c25_0 sv0_f1 b25 _ _ _ hv0_f1 hH h))

def glitch_holdsAt_1 (F : Nat) : Nat → (List S_api_Segment) → Int → Int → Int → Option (Bool)
  | 0, _, _, _, _ => none
  | N + 1, v0, v7, v8, c25_0 =>
    bif (decide (v8 < v7)) then
      bnd (idx v0 v8) fun x29 =>
      bif (decide (x29.From ≤ c25_0)) then
        glitch_holdsAt_2 F (glitch_holdsAt_1 F N) (decide (c25_0 < x29.To)) v0 v8 v7 v8 c25_0
      else
        glitch_holdsAt_2 F (glitch_holdsAt_1 F N) false v0 v8 v7 v8 c25_0
    else
      some (decide ((0 : Int) ≤ ((-1) : Int)))

theorem glitch_holdsAt_1_ok (F : Nat) : ∀ (N : Nat), ∀ (v0 : (List S_api_Segment)) (v7 v8 c25_0 : Int) (sv0 : SV) (b25 : Pos) (Fr : Rd) (M : Mem) (r : Bool) (hv0 : Slc Fr 2 (FlatR enc151) sv0 v0) (hH : Has Fr M [.obj b25 (.row 3 .whole [(.int .i64 c25_0)])]), glitch_holdsAt_1 F N v0 v7 v8 c25_0 = some r → Run Try.prog ⟨⟨105, [], none⟩, [.mk ⟨94, [], none⟩ 9 (treeOf []) [itemC Try.prog 94 [1, 0] 2, codeC Try.prog 94 [1, 1]], .mk ⟨66, [], none⟩ 9 (treeOf []) [itemC Try.prog 66 [1, 0] 3, codeC Try.prog 66 [1, 1]]]⟩ 19 (glitch_holdsAt_post r) [(0, sv0), (1, (.fn (.func 95) [] [(.ptr b25 0)])), (7, (.int .i64 v7)), (8, (.int .i64 v8))] [codeC Try.prog 105 [1, 0, 1, 0, 0], loopC Try.prog 105 [1, 0, 1, 0, 0], .inBlock 0, codeC Try.prog 105 [1, 1]] M := by
  intro N
  induction N with
  | zero =>
    intro v0 v7 v8 c25_0 sv0 b25 Fr M r hv0 hH h
    simp [glitch_holdsAt_1] at h
  | succ N ih =>
    intro v0 v7 v8 c25_0 sv0 b25 Fr M r hv0 hH h
    rw [glitch_holdsAt_1] at h
    refine Run.seq (Run.region ?_)
    refine Run.opG wantS_none (ex_lss rfl rfl) rfl ?_
    refine Run.opsEnd (Run.seq ?_)
    rcases btf ((decide (v8 < v7))) with hc27 | hc27
    · have h := bif_t hc27 h
      refine Run.condT' rfl hc27 ?_
      refine Run.skip (Run.seq (Run.block (Run.seq (Run.region ?_))))
      refine Run.opG wantS_none (ex_move rfl) rfl ?_
      refine Run.opG wantS_none (ex_assign rfl) rfl ?_
      refine Run.opsEnd (Run.seq (Run.region ?_))
      refine Run.opG wantS_none (ex_move rfl) rfl ?_
      refine Run.opG wantS_none (ex_move rfl) rfl ?_
      refine Run.opG wantS_none (ex_move rfl) rfl ?_
      obtain ⟨x29, hx29, h⟩ := bnd_some h
      obtain ⟨p29, o29, _, hx29, hp29, rfl⟩ := sl_elem (P := Try.prog) (t := 118) (kk := .i64) hv0 hx29 els118
      refine Run.opG wantS_none (ex_elX rfl rfl hx29) rfl ?_
      refine Run.opG wantS_none (ex_loadA rfl (hH.ptrF hp29) rdLe_rfl agg151 rfl rfl rfl) rfl ?_
      refine Run.enter wantS_none (ex_closure rfl rfl mkk95 cal95) Try.func95 rfl rfl ?_
      refine Run.seq (Run.region ?_)
      refine Run.opX wantS_none rfl (ExG.box rfl rfl hH) ?_
      rintro _ M32 ⟨b31, rfl, hH32⟩
      refine Run.opG wantS_none (ex_assign rfl) rfl ?_
      refine Run.opsEnd (Run.seq (Run.region ?_))
      refine Run.opG wantS_none (ex_fieldAddr rfl off151_0) rfl ?_
      refine Run.opG wantS_none (ex_load1 rfl (hH32.cells (i := 0) rfl 0 rfl) rdLe_rfl agg3) rfl ?_
      refine Run.opG wantS_none (ex_load1 rfl (hH32.cells (i := 1) rfl 0 rfl) rdLe_rfl agg3) rfl ?_
      refine Run.opG wantS_none (ex_leq rfl rfl) rfl ?_
      refine Run.opG wantS_none (ex_move rfl) rfl ?_
      rcases btf ((decide (x29.From ≤ c25_0))) with hc33 | hc33
      · have h := bif_t hc33 h
        refine Run.opG (wantS_yes' rfl rfl hc33) (ex_load1 rfl (hH32.cells (i := 1) rfl 0 rfl) rdLe_rfl agg3) rfl ?_
        refine Run.opG (wantS_yes' rfl rfl hc33) (ex_fieldAddr rfl off151_1) rfl ?_
        refine Run.opG (wantS_yes' rfl rfl hc33) (ex_load1 rfl (hH32.cells (i := 0) rfl 1 rfl) rdLe_rfl agg3) rfl ?_
        refine Run.opG (wantS_yes' rfl rfl hc33) (ex_lss rfl rfl) rfl ?_
        refine Run.opG wantS_none (ex_pickT' rfl hc33 rfl rfl) rfl ?_
        exact Run.low (.cons (fle_pick [0, 1, 5, 7, 8] rfl) (.cons (fle_pick [] rfl) (.cons (fle_pick [] rfl) .nil))) (Run.pick [13] (glitch_holdsAt_2_ok F (glitch_holdsAt_1 F N) ih (decide (c25_0 < x29.To)) v0 v8 v7 v8 c25_0 sv0 b25 _ _ _ hv0 (hH32.pick [1] rfl rfl) h))
      · have h := bif_f hc33 h
        refine Run.no (wantS_not' rfl rfl hc33) rfl ?_
        refine Run.no (wantS_not' rfl rfl hc33) rfl ?_
        refine Run.no (wantS_not' rfl rfl hc33) rfl ?_
        refine Run.no (wantS_not' rfl rfl hc33) rfl ?_
        refine Run.opG wantS_none (ex_pickF' rfl hc33 rfl rfl) rfl ?_
        exact Run.low (.cons (fle_pick [0, 1, 5, 7, 8] rfl) (.cons (fle_pick [] rfl) (.cons (fle_pick [] rfl) .nil))) (Run.pick [13] (glitch_holdsAt_2_ok F (glitch_holdsAt_1 F N) ih false v0 v8 v7 v8 c25_0 sv0 b25 _ _ _ hv0 (hH32.pick [1] rfl rfl) h))
    · have h := bif_f hc27 h
      refine Run.condF' rfl hc27 ?_
      refine Run.exit rfl (Run.seq (Run.region ?_))
      refine Run.opG wantS_none (ex_assign rfl) rfl ?_
      refine Run.opsEnd ?_
      refine Run.retTo Try.func105 rfl (res_tmp rfl res_nil) rfl ?_
      refine Run.opG wantS_none (ex_geq rfl rfl) rfl ?_
      refine Run.opG wantS_none (ex_assign rfl) rfl ?_
      refine Run.opsEnd ?_
      refine Run.retTo Try.func94 rfl (res_tmp rfl res_nil) rfl ?_
      refine Run.opG wantS_none (ex_assign rfl) rfl ?_
      refine Run.opsEnd ?_
      cases h
      exact Run.ret Try.func66 rfl (res_tmp rfl res_nil) rfl

def glitch_holdsAt (F : Nat) (a0 : S_api_Veto) (a1 : Int) : Option (Bool) :=
  glitch_holdsAt_1 F F a0.Segments (a0.Segments.length : Int) (0 : Int) a1

theorem glitch_holdsAt_ok (F : Nat) (a0 : S_api_Veto) (a1 : Int) (s0 : SV) (r : Bool) (M : Mem) (hs0 : Slc (rd M) 2 (FlatR enc151) s0 a0.Segments) (h : glitch_holdsAt F a0 a1 = some r) : CallsM Try.prog 66 [(.agg [(.str a0.Name), s0]), (.int .i64 a1)] M (fun s M' => s = (.bool r) ∧ M' = M) := by
  refine CallsM.plain Try.func66 rfl rfl rfl (show Run _ _ _ (glitch_holdsAt_post r) _ _ _ from ?_)
  rw [glitch_holdsAt] at h
  replace hs0 := hs0.mono (rdLe_frozen M) (fun _ _ h => h)
  have hH := Has.nil (frozen M)
  refine Run.seq (Run.region ?_)
  refine Run.opX wantS_none rfl (ExG.box rfl rfl hH) ?_
  rintro _ M23 ⟨b22, rfl, hH23⟩
  refine Run.opX wantS_none rfl (ExG.box rfl rfl hH23) ?_
  rintro _ M26 ⟨b25, rfl, hH26⟩
  refine Run.opG wantS_none (ex_assign rfl) rfl ?_
  refine Run.opsEnd (Run.seq (Run.region ?_))
  refine Run.opG wantS_none (ex_fieldAddr rfl off120_1) rfl ?_
  refine Run.opG wantS_none (ex_load1 rfl (hH26.cells (i := 1) rfl 1 rfl) rdLe_rfl agg118) rfl ?_
  refine Run.opG wantS_none (ex_makeFunc rfl rfl) rfl ?_
  refine Run.enter wantS_none (ex_call rfl mkk94 cal94) Try.func94 rfl rfl ?_
  refine Run.seq (Run.region ?_)
  refine Run.opG wantS_none (ex_assign rfl) rfl ?_
  refine Run.opsEnd (Run.seq (Run.region ?_))
  refine Run.opG wantS_none (ex_move rfl) rfl ?_
  refine Run.opG wantS_none (ex_move rfl) rfl ?_
  refine Run.enter wantS_none (ex_call rfl mkk105 cal105) Try.func105 rfl rfl ?_
  refine Run.seq (Run.region ?_)
  refine Run.opG wantS_none (ex_assign rfl) rfl ?_
  refine Run.opsEnd (Run.seq (Run.seq (Run.region ?_)))
  refine Run.opG wantS_none (ex_move rfl) rfl ?_
  refine Run.opG wantS_none (ex_len' rfl hs0 lenk118) rfl ?_
  refine Run.opG wantS_none (ex_move rfl) rfl ?_
  refine Run.opsEnd (Run.block (Run.loop ?_))
  exact Run.low (.cons (fle_pick [] rfl) (.cons (fle_pick [] rfl) .nil)) (Run.pick [0, 1, 7, 8] (glitch_holdsAt_1_ok F F a0.Segments (a0.Segments.length : Int) (0 : Int) a1 s0 b25 _ _ _ hs0 (hH26.pick [0] rfl rfl) h))

theorem mkk66 : makeK Try.prog 66 = none := by kernel_rfl
theorem cal66 : callable Try.prog 66 = true := by kernel_rfl
abbrev slices_ContainsFunc_67_h1_post (e_v0 : (List S_api_Veto)) (e_c28_0 : Int) (se_v0 : SV) (e_b28 : Pos) (Fr0 : Rd) (Hr : List Ent) (r : Bool) : SV → Mem → Prop := fun s Me => s = (.bool r) ∧ Has Fr0 Me (([.obj e_b28 (.row 3 .whole [(.int .i64 e_c28_0)])] : List Ent) ++ Hr)

def slices_ContainsFunc_67_h1_1 (F : Nat) (e_v0 : (List S_api_Veto)) (e_c28_0 : Int) : Nat → (List S_api_Veto) → Int → Int → Option (Bool)
  | 0, _, _, _ => none
  | N + 1, v0, v7, v8 =>
    bif (decide (v8 < v7)) then
      bnd (idx v0 v8) fun x31 =>
      bnd (glitch_holdsAt F x31 e_c28_0) fun r36 =>
      bif r36 then
        some (decide ((0 : Int) ≤ v8))
      else
        (slices_ContainsFunc_67_h1_1 F e_v0 e_c28_0 N) v0 v7 (w64 (v8 + (1 : Int)))
    else
      some (decide ((0 : Int) ≤ ((-1) : Int)))

theorem slices_ContainsFunc_67_h1_1_ok (F : Nat) (e_v0 : (List S_api_Veto)) (e_c28_0 : Int) (se_v0 : SV) (e_b28 : Pos) (Fr0 : Rd) (Hr : List Ent) : ∀ (N : Nat), ∀ (v0 : (List S_api_Veto)) (v7 v8 : Int) (sv0 : SV) (M : Mem) (r : Bool) (hv0 : Slc Fr0 2 (rep120 Fr0) sv0 v0) (hH : Has Fr0 M (([.obj e_b28 (.row 3 .whole [(.int .i64 e_c28_0)])] : List Ent) ++ Hr)), slices_ContainsFunc_67_h1_1 F e_v0 e_c28_0 N v0 v7 v8 = some r → Run Try.prog ⟨⟨96, [], none⟩, [.mk ⟨67, [], none⟩ 9 (treeOf []) [itemC Try.prog 67 [1, 0] 2, codeC Try.prog 67 [1, 1]]]⟩ 19 (slices_ContainsFunc_67_h1_post e_v0 e_c28_0 se_v0 e_b28 Fr0 Hr r) [(0, sv0), (1, (.fn (.func 65) [] [(.ptr e_b28 0)])), (7, (.int .i64 v7)), (8, (.int .i64 v8))] [codeC Try.prog 96 [1, 0, 1, 0, 0], loopC Try.prog 96 [1, 0, 1, 0, 0], .inBlock 0, codeC Try.prog 96 [1, 1]] M := by
  intro N
  induction N with
  | zero =>
    intro v0 v7 v8 sv0 M r hv0 hH h
    simp [slices_ContainsFunc_67_h1_1] at h
  | succ N ih =>
    intro v0 v7 v8 sv0 M r hv0 hH h
    rw [slices_ContainsFunc_67_h1_1] at h
    refine Run.seq (Run.region ?_)
    refine Run.opG wantS_none (ex_lss rfl rfl) rfl ?_
    refine Run.opsEnd (Run.seq ?_)
    rcases btf ((decide (v8 < v7))) with hc29 | hc29
    · have h := bif_t hc29 h
      refine Run.condT' rfl hc29 ?_
      refine Run.skip (Run.seq (Run.block (Run.seq (Run.region ?_))))
      refine Run.opG wantS_none (ex_move rfl) rfl ?_
      refine Run.opG wantS_none (ex_assign rfl) rfl ?_
      refine Run.opsEnd (Run.seq (Run.region ?_))
      refine Run.opG wantS_none (ex_move rfl) rfl ?_
      refine Run.opG wantS_none (ex_move rfl) rfl ?_
      refine Run.opG wantS_none (ex_move rfl) rfl ?_
      obtain ⟨x31, hx31, h⟩ := bnd_some h
      obtain ⟨p31, o31, _, hx31, hp31, ⟨q31_0, rfl, hq31_0⟩⟩ := sl_elem (P := Try.prog) (t := 41) (kk := .i64) hv0 hx31 els41
      refine Run.opG wantS_none (ex_elX rfl rfl hx31) rfl ?_
      refine Run.opG wantS_none (ex_loadA rfl (hH.ptrF hp31) rdLe_rfl agg120 rfl rfl rfl) rfl ?_
      refine Run.enter wantS_none (ex_closure rfl rfl mkk65 cal65) Try.func65 rfl rfl ?_
      refine Run.seq (Run.region ?_)
      refine Run.opX wantS_none rfl (ExG.box rfl rfl hH) ?_
      rintro _ M34 ⟨b33, rfl, (hH34 : Has Fr0 M34 (([.obj b33 (.row 120 .whole [(.str x31.Name), q31_0]), .obj e_b28 (.row 3 .whole [(.int .i64 e_c28_0)])] : List Ent) ++ Hr))⟩
      refine Run.opG wantS_none (ex_assign rfl) rfl ?_
      refine Run.opsEnd (Run.seq (Run.region ?_))
      refine Run.opG wantS_none (ex_loadA rfl (hH34.cells (i := 0) rfl 0 rfl) rdLe_rfl agg120 rfl rfl rfl) rfl ?_
      refine Run.opG wantS_none (ex_load1 rfl (hH34.cells (i := 1) rfl 0 rfl) rdLe_rfl agg3) rfl ?_
      obtain ⟨r36, hr36, h⟩ := bnd_some h
      refine Run.callP wantS_none (ex_call rfl mkk66 cal66) rfl (glitch_holdsAt_ok F x31 e_c28_0 q31_0 _ _ (hH34.slcF hq31_0) hr36) ?_
      refine Run.opG wantS_none (ex_assign rfl) rfl ?_
      refine Run.opsEnd ?_
      refine Run.retTo Try.func65 rfl (res_tmp rfl res_nil) rfl ?_
      refine Run.opsEnd ?_
      rcases btf (r36) with hc38 | hc38
      · have h := bif_t hc38 h
        refine Run.condT' rfl hc38 ?_
        refine Run.seq (Run.region ?_)
        refine Run.opG wantS_none (ex_move rfl) rfl ?_
        refine Run.opG wantS_none (ex_assign rfl) rfl ?_
        refine Run.opsEnd ?_
        refine Run.retTo Try.func96 rfl (res_tmp rfl res_nil) rfl ?_
        refine Run.opG wantS_none (ex_geq rfl rfl) rfl ?_
        refine Run.opG wantS_none (ex_assign rfl) rfl ?_
        refine Run.opsEnd ?_
        cases h
        exact Run.ret Try.func67 rfl (res_tmp rfl res_nil) ⟨rfl, (hH34.pickT [1] rfl rfl).upF (fun b c hb => hH34.base b c hb)⟩
      · have h := bif_f hc38 h
        refine Run.condF' rfl hc38 ?_
        refine Run.skip (Run.inBlock (Run.region ?_))
        refine Run.opG wantS_none (ex_add rfl rfl) rfl ?_
        refine Run.opG wantS_none (ex_move rfl) rfl ?_
        refine Run.opsEnd (Run.inLoop ?_)
        exact Run.low (.cons (fle_pick [] rfl) .nil) (Run.pick [0, 1, 7, 8] (ih v0 v7 (w64 (v8 + (1 : Int))) sv0 _ _ hv0 (hH34.pickT [1] rfl rfl) h))
    · have h := bif_f hc29 h
      refine Run.condF' rfl hc29 ?_
      refine Run.exit rfl (Run.seq (Run.region ?_))
      refine Run.opG wantS_none (ex_assign rfl) rfl ?_
      refine Run.opsEnd ?_
      refine Run.retTo Try.func96 rfl (res_tmp rfl res_nil) rfl ?_
      refine Run.opG wantS_none (ex_geq rfl rfl) rfl ?_
      refine Run.opG wantS_none (ex_assign rfl) rfl ?_
      refine Run.opsEnd ?_
      cases h
      exact Run.ret Try.func67 rfl (res_tmp rfl res_nil) ⟨rfl, (hH.pickT [0] rfl rfl).upF (fun b c hb => hH.base b c hb)⟩

def slices_ContainsFunc_67_h1 (F : Nat) (e_v0 : (List S_api_Veto)) (e_c28_0 : Int) : Option (Bool) :=
  slices_ContainsFunc_67_h1_1 F e_v0 e_c28_0 F e_v0 (e_v0.length : Int) (0 : Int)

theorem slices_ContainsFunc_67_h1_ok (F : Nat) : ∀ (e_v0 : (List S_api_Veto)) (e_c28_0 : Int) (se_v0 : SV) (e_b28 : Pos) (Fr0 : Rd) (Hr : List Ent) (M : Mem) (r : Bool) (he_v0 : Slc Fr0 2 (rep120 Fr0) se_v0 e_v0) (hH : Has Fr0 M (([.obj e_b28 (.row 3 .whole [(.int .i64 e_c28_0)])] : List Ent) ++ Hr)) (h : slices_ContainsFunc_67_h1 F e_v0 e_c28_0 = some r), CallsM Try.prog 67 [se_v0, (.fn (.func 65) [] [(.ptr e_b28 0)])] M (slices_ContainsFunc_67_h1_post e_v0 e_c28_0 se_v0 e_b28 Fr0 Hr r) := by
  intro e_v0 e_c28_0 se_v0 e_b28 Fr0 Hr M r he_v0 hH h
  refine CallsM.run Try.func67 rfl rfl (show Run _ _ _ (slices_ContainsFunc_67_h1_post e_v0 e_c28_0 se_v0 e_b28 Fr0 Hr r) _ _ _ from ?_)
  rw [slices_ContainsFunc_67_h1] at h
  refine Run.seq (Run.region ?_)
  refine Run.opG wantS_none (ex_assign rfl) rfl ?_
  refine Run.opsEnd (Run.seq (Run.region ?_))
  refine Run.opG wantS_none (ex_move rfl) rfl ?_
  refine Run.opG wantS_none (ex_move rfl) rfl ?_
  refine Run.enter wantS_none (ex_call rfl mkk96 cal96) Try.func96 rfl rfl ?_
  refine Run.seq (Run.region ?_)
  refine Run.opG wantS_none (ex_assign rfl) rfl ?_
  refine Run.opsEnd (Run.seq (Run.seq (Run.region ?_)))
  refine Run.opG wantS_none (ex_move rfl) rfl ?_
  refine Run.opG wantS_none (ex_len' rfl he_v0 lenk41) rfl ?_
  refine Run.opG wantS_none (ex_move rfl) rfl ?_
  refine Run.opsEnd (Run.block (Run.loop ?_))
  exact Run.low (.cons (fle_pick [] rfl) .nil) (Run.pick [0, 1, 7, 8] (slices_ContainsFunc_67_h1_1_ok F e_v0 e_c28_0 se_v0 e_b28 Fr0 Hr F e_v0 (e_v0.length : Int) (0 : Int) se_v0 _ _ he_v0 hH h))

theorem plan64_1_1_0 : planOf Try.prog (opsC (atC Try.prog 64 [1, 1, 0])) = some [.fl 0, .fl 1, .fl 2, .an 3 [0], .fl 4, .fl 5, .fl 6, .sync] := by kernel_rfl
abbrev glitch_passed_post (r : (List Int)) : SV → Mem → Prop := fun s Me => ∃ q1, s = q1 ∧ Has (fun _ => none) Me [.vec 3 1 r.length q1 (r.flatMap enc3)]

def glitch_passed_2 (F : Nat) (hd1 : (List Int) → Int → Int → (List S_api_Veto) → (List Int) → Option ((List Int))) (v10 : (List Int)) (v11 v12 : Int) (c22_0 : (List S_api_Veto)) (l41 : (List Int)) : Option ((List Int)) :=
  hd1 v10 v11 (w64 (v12 + (1 : Int))) c22_0 l41

theorem glitch_passed_2_ok (F : Nat) (hd1 : (List Int) → Int → Int → (List S_api_Veto) → (List Int) → Option ((List Int))) (hhd1 : ∀ (v10 : (List Int)) (v11 v12 : Int) (c22_0 : (List S_api_Veto)) (l24 : (List Int)) (sv10 sc22_0 : SV) (b22 : Pos) (s24 : SV) (Fr : Rd) (M : Mem) (r : (List Int)) (hv10 : Slc Fr 1 (FlatR enc3) sv10 v10) (hc22_0 : Slc Fr 2 (rep120 Fr) sc22_0 c22_0) (hH : Has Fr M [.obj b22 (.row 41 .whole [sc22_0]), .vec 3 1 l24.length s24 (l24.flatMap enc3)]), hd1 v10 v11 v12 c22_0 l24 = some r → Run Try.prog ⟨⟨63, [], none⟩, [.mk ⟨34, [], none⟩ 8 (treeOf []) [itemC Try.prog 34 [1, 0] 2, codeC Try.prog 34 [1, 1]]]⟩ 29 (glitch_passed_post r) [(1, (.fn (.func 64) [] [(.ptr b22 0)])), (5, s24), (10, sv10), (11, (.int .i64 v11)), (12, (.int .i64 v12))] [codeC Try.prog 63 [1, 1, 0, 1, 0, 0], loopC Try.prog 63 [1, 1, 0, 1, 0, 0], .inBlock 0, codeC Try.prog 63 [1, 1, 1]] M) : ∀ (v10 : (List Int)) (v11 v12 : Int) (c22_0 : (List S_api_Veto)) (l41 : (List Int)) (sv10 sc22_0 : SV) (b22 : Pos) (s41 : SV) (Fr : Rd) (M : Mem) (r : (List Int)) (hv10 : Slc Fr 1 (FlatR enc3) sv10 v10) (hc22_0 : Slc Fr 2 (rep120 Fr) sc22_0 c22_0) (hH : Has Fr M [.obj b22 (.row 41 .whole [sc22_0]), .vec 3 1 l41.length s41 (l41.flatMap enc3)]), glitch_passed_2 F hd1 v10 v11 v12 c22_0 l41 = some r → Run Try.prog ⟨⟨63, [], none⟩, [.mk ⟨34, [], none⟩ 8 (treeOf []) [itemC Try.prog 34 [1, 0] 2, codeC Try.prog 34 [1, 1]]]⟩ 29 (glitch_passed_post r) [(1, (.fn (.func 64) [] [(.ptr b22 0)])), (5, s41), (10, sv10), (11, (.int .i64 v11)), (12, (.int .i64 v12))] [itemC Try.prog 63 [1, 1, 0, 1, 0, 0, 1, 1, 1] 0, loopC Try.prog 63 [1, 1, 0, 1, 0, 0], .inBlock 0, codeC Try.prog 63 [1, 1, 1]] M := by
  intro v10 v11 v12 c22_0 l41 sv10 sc22_0 b22 s41 Fr M r hv10 hc22_0 hH h
  rw [glitch_passed_2] at h
  refine Run.opG wantS_none (ex_add rfl rfl) rfl ?_
  refine Run.opG wantS_none (ex_move rfl) rfl ?_
  refine Run.opsEnd (Run.inLoop ?_)
  exact Run.low (.cons (fle_pick [] rfl) .nil) (Run.pick [1, 5, 10, 11, 12] (hhd1 v10 v11 (w64 (v12 + (1 : Int))) c22_0 l41 sv10 sc22_0 b22 s41 _ _ _ hv10 hc22_0 hH h))

def glitch_passed_1 (F : Nat) : Nat → (List Int) → Int → Int → (List S_api_Veto) → (List Int) → Option ((List Int))
  | 0, _, _, _, _, _ => none
  | N + 1, v10, v11, v12, c22_0, l24 =>
    bif (decide (v12 < v11)) then
      bnd (idx v10 v12) fun x28 =>
      bnd (slices_ContainsFunc_67_h1 F c22_0 x28) fun r32 =>
      bif (!r32) then
        bnd (apd 8 l24 ([x28] : List Int)) fun l40 =>
        glitch_passed_2 F (glitch_passed_1 F N) v10 v11 v12 c22_0 l40
      else
        glitch_passed_2 F (glitch_passed_1 F N) v10 v11 v12 c22_0 l24
    else
      some l24

theorem glitch_passed_1_ok (F : Nat) : ∀ (N : Nat), ∀ (v10 : (List Int)) (v11 v12 : Int) (c22_0 : (List S_api_Veto)) (l24 : (List Int)) (sv10 sc22_0 : SV) (b22 : Pos) (s24 : SV) (Fr : Rd) (M : Mem) (r : (List Int)) (hv10 : Slc Fr 1 (FlatR enc3) sv10 v10) (hc22_0 : Slc Fr 2 (rep120 Fr) sc22_0 c22_0) (hH : Has Fr M [.obj b22 (.row 41 .whole [sc22_0]), .vec 3 1 l24.length s24 (l24.flatMap enc3)]), glitch_passed_1 F N v10 v11 v12 c22_0 l24 = some r → Run Try.prog ⟨⟨63, [], none⟩, [.mk ⟨34, [], none⟩ 8 (treeOf []) [itemC Try.prog 34 [1, 0] 2, codeC Try.prog 34 [1, 1]]]⟩ 29 (glitch_passed_post r) [(1, (.fn (.func 64) [] [(.ptr b22 0)])), (5, s24), (10, sv10), (11, (.int .i64 v11)), (12, (.int .i64 v12))] [codeC Try.prog 63 [1, 1, 0, 1, 0, 0], loopC Try.prog 63 [1, 1, 0, 1, 0, 0], .inBlock 0, codeC Try.prog 63 [1, 1, 1]] M := by
  intro N
  induction N with
  | zero =>
    intro v10 v11 v12 c22_0 l24 sv10 sc22_0 b22 s24 Fr M r hv10 hc22_0 hH h
    simp [glitch_passed_1] at h
  | succ N ih =>
    intro v10 v11 v12 c22_0 l24 sv10 sc22_0 b22 s24 Fr M r hv10 hc22_0 hH h
    rw [glitch_passed_1] at h
    refine Run.seq (Run.region ?_)
    refine Run.opG wantS_none (ex_lss rfl rfl) rfl ?_
    refine Run.opsEnd (Run.seq ?_)
    rcases btf ((decide (v12 < v11))) with hc26 | hc26
    · have h := bif_t hc26 h
      refine Run.condT' rfl hc26 ?_
      refine Run.skip (Run.seq (Run.block (Run.seq (Run.region ?_))))
      obtain ⟨x28, hx28, h⟩ := bnd_some h
      obtain ⟨p28, o28, _, hx28, hp28, rfl⟩ := sl_elem (P := Try.prog) (t := 22) (kk := .i64) hv10 hx28 els22
      refine Run.opG wantS_none (ex_elX rfl rfl hx28) rfl ?_
      refine Run.opG wantS_none (ex_load1 rfl (hH.ptrF hp28) rdLe_rfl agg3) rfl ?_
      refine Run.opG wantS_none (ex_assign rfl) rfl ?_
      refine Run.opsEnd (Run.seq (Run.region ?_))
      refine Run.opG wantS_none (ex_move rfl) rfl ?_
      refine Run.opG wantS_none (ex_move rfl) rfl ?_
      refine Run.enter wantS_none (ex_closure rfl rfl mkk64 cal64) Try.func64 rfl rfl ?_
      refine Run.seq (Run.region ?_)
      refine Run.opX wantS_none rfl (ExG.box rfl rfl hH) ?_
      rintro _ M31 ⟨b30, rfl, hH31⟩
      refine Run.opG wantS_none (ex_assign rfl) rfl ?_
      refine Run.opG wantS_none (ex_assign rfl) rfl ?_
      refine Run.opsEnd (Run.seq (Run.region ?_))
      refine Run.opG wantS_none (ex_makeFunc rfl rfl) rfl ?_
      refine Run.opG wantS_none (ex_assign rfl) rfl ?_
      refine Run.opsEnd (Run.seq ?_)
      refine Run.drawG plan64_1_1_0 ?_
      refine DrawG.fl rfl (ev_ex wantS_none (ex_load1 rfl (hH31.cells (i := 0) rfl 0 rfl) rdLe_rfl agg3)) rfl ?_
      refine DrawG.fl rfl (ev_ex wantS_none (ex_load1 rfl (hH31.cells (i := 1) rfl 0 rfl) rdLe_rfl agg41)) rfl ?_
      refine DrawG.fl rfl (ev_ex wantS_none (ex_move rfl)) rfl ?_
      obtain ⟨r32, hr32, h⟩ := bnd_some h
      refine DrawG.call rfl wantS_none (ex_call rfl mkk67 cal67) rfl (slices_ContainsFunc_67_h1_ok F c22_0 x28 sc22_0 b30 Fr [.obj b22 (.row 41 .whole [sc22_0]), .vec 3 1 l24.length s24 (l24.flatMap enc3)] _ _ hc22_0 hH31 hr32) ?_
      rintro _ M33 ⟨rfl, (hH33 : Has Fr M33 [.obj b30 (.row 3 .whole [(.int .i64 x28)]), .obj b22 (.row 41 .whole [sc22_0]), .vec 3 1 l24.length s24 (l24.flatMap enc3)])⟩
      refine ⟨(st_cons rfl (ev_ex wantS_none (ex_load1 rfl (hH33.cells (i := 0) rfl 0 rfl) rdLe_rfl agg3)) rfl rfl rfl st_nil), ?_⟩
      refine DrawG.fl rfl (ev_ex wantS_none (ex_not rfl)) rfl ?_
      refine DrawG.fl rfl (ev_ex wantS_none (ex_assign rfl)) rfl ?_
      refine DrawG.fl rfl (ev_ex wantS_none (ex_assign rfl)) rfl ?_
      refine DrawG.sync ?_
      refine DrawG.nil ?_
      refine Run.retTo Try.func64 rfl (res_tmp rfl (res_tmp rfl res_nil)) rfl ?_
      refine Run.opG wantS_none (ex_move rfl) rfl ?_
      refine Run.opG wantS_none (ex_extract rfl rfl) rfl ?_
      refine Run.opG wantS_none (ex_extract rfl rfl) rfl ?_
      refine Run.opG wantS_none (ex_assign rfl) rfl ?_
      refine Run.opG wantS_none (ex_assign rfl) rfl ?_
      refine Run.opsEnd (Run.seq (Run.region ?_))
      refine Run.opG wantS_none (ex_move rfl) rfl ?_
      refine Run.opsEnd ?_
      rcases btf ((!r32)) with hc34 | hc34
      · have h := bif_t hc34 h
        refine Run.condT' rfl hc34 ?_
        refine Run.region ?_
        refine Run.opG wantS_none (ex_move rfl) rfl ?_
        refine Run.opG wantS_none (ex_move rfl) rfl ?_
        refine Run.opX wantS_none rfl (ExG.built (enc := enc3) (l := ([x28] : List Int)) (z := 1) rfl elt22 rfl rfl rfl enc3_len hH33) ?_
        rintro s36 M37 (hH37 : Has Fr M37 [.vec 3 1 ([x28] : List Int).length s36 (([x28] : List Int).flatMap enc3), .obj b30 (.row 3 .whole [(.int .i64 x28)]), .obj b22 (.row 41 .whole [sc22_0]), .vec 3 1 l24.length s24 (l24.flatMap enc3)])
        obtain ⟨l40, hl40, h⟩ := bnd_some h
        refine Run.opX wantS_none rfl (ExG.append rfl rfl hH37 (i := 3) rfl enc3_len rfl enc3_ones appt22_22 rfl (len_slc (hH37.slc (i := 0) rfl enc3_len)) (first_slc (hH37.slc (i := 0) rfl enc3_len) (rdLe_rdRow _) enc3_len) hl40) ?_
        rintro s40 M42 (hH42 : Has Fr M42 [.vec 3 1 ([x28] : List Int).length s36 (([x28] : List Int).flatMap enc3), .obj b30 (.row 3 .whole [(.int .i64 x28)]), .obj b22 (.row 41 .whole [sc22_0]), .vec 3 1 l40.length s40 (l40.flatMap enc3)])
        refine Run.opG wantS_none (ex_assign rfl) rfl ?_
        refine Run.opsEnd (Run.inBlock (Run.region ?_))
        exact Run.low (.cons (fle_pick [] rfl) .nil) (Run.pick [1, 5, 10, 11, 12] (glitch_passed_2_ok F (glitch_passed_1 F N) ih v10 v11 v12 c22_0 l40 sv10 sc22_0 b22 s40 _ _ _ hv10 hc22_0 (hH42.pick [2, 3] rfl rfl) h))
      · have h := bif_f hc34 h
        refine Run.condF' rfl hc34 ?_
        refine Run.skip (Run.inBlock (Run.region ?_))
        exact Run.low (.cons (fle_pick [] rfl) .nil) (Run.pick [1, 5, 10, 11, 12] (glitch_passed_2_ok F (glitch_passed_1 F N) ih v10 v11 v12 c22_0 l24 sv10 sc22_0 b22 s24 _ _ _ hv10 hc22_0 (hH33.pick [1, 2] rfl rfl) h))
    · have h := bif_f hc26 h
      refine Run.condF' rfl hc26 ?_
      refine Run.exit rfl (Run.seq (Run.region ?_))
      refine Run.opG wantS_none (ex_move rfl) rfl ?_
      refine Run.opG wantS_none (ex_assign rfl) rfl ?_
      refine Run.opsEnd ?_
      refine Run.retTo Try.func63 rfl (res_tmp rfl res_nil) rfl ?_
      refine Run.opG wantS_none (ex_assign rfl) rfl ?_
      refine Run.opsEnd ?_
      cases h
      exact Run.ret Try.func34 rfl (res_tmp rfl res_nil) ⟨_, rfl, (hH.pick [1] rfl rfl).upF (none_le _)⟩

def glitch_passed (F : Nat) (a0 : (List S_api_Veto)) (a1 : (List Int)) : Option ((List Int)) :=
  glitch_passed_1 F F a1 (a1.length : Int) (0 : Int) a0 ([] : List Int)

theorem glitch_passed_ok (F : Nat) (a0 : (List S_api_Veto)) (a1 : (List Int)) (s0 s1 : SV) (r : (List Int)) (M : Mem) (hs0 : Slc (rd M) 2 (rep120 (rd M)) s0 a0) (hs1 : Slc (rd M) 1 (FlatR enc3) s1 a1) (h : glitch_passed F a0 a1 = some r) : CallsM Try.prog 34 [s0, s1] M (fun s M' => ∃ q1, s = q1 ∧ New M M' [.vec 3 1 r.length q1 (r.flatMap enc3)]) := by
  refine CallsM.fresh (Q := glitch_passed_post r) Try.func34 rfl rfl ?_ (by rintro s Me ⟨q1, rfl, hx⟩ ha hw; exact ⟨_, rfl, New.of rfl hx ha hw⟩)
  rw [glitch_passed] at h
  replace hs0 := hs0.mono (rdLe_frozen M) (fun _ _ => rep120_mo (rdLe_frozen M))
  replace hs1 := hs1.mono (rdLe_frozen M) (fun _ _ h => h)
  have hH := Has.nil (frozen M)
  refine Run.seq (Run.region ?_)
  refine Run.opX wantS_none rfl (ExG.box rfl (cells_one (slc_one hs0)) hH) ?_
  rintro _ M23 ⟨b22, rfl, hH23⟩
  refine Run.opG wantS_none (ex_assign rfl) rfl ?_
  refine Run.opsEnd (Run.seq (Run.region ?_))
  refine Run.opG wantS_none (ex_move rfl) rfl ?_
  refine Run.opG wantS_none (ex_makeFunc rfl rfl) rfl ?_
  refine Run.enter wantS_none (ex_call rfl mkk63 cal63) Try.func63 rfl rfl ?_
  refine Run.seq (Run.region ?_)
  refine Run.opG wantS_none (ex_assign rfl) rfl ?_
  refine Run.opsEnd (Run.seq (Run.region ?_))
  refine Run.opG wantS_none (ex_assign rfl) rfl ?_
  refine Run.opsEnd (Run.seq (Run.seq (Run.region ?_)))
  refine Run.opG wantS_none (ex_move rfl) rfl ?_
  refine Run.opG wantS_none (ex_len' rfl hs1 lenk22) rfl ?_
  refine Run.opG wantS_none (ex_move rfl) rfl ?_
  refine Run.opsEnd (Run.block (Run.loop ?_))
  have hH25 : Has (ro (frozen M)) M23 [.vec 3 1 ([] : List Int).length .nils (([] : List Int).flatMap enc3), .obj b22 (.row 41 .whole [s0])] := hH23.nils 3 1
  exact Run.low (.cons (fle_pick [] rfl) .nil) (Run.pick [1, 5, 10, 11, 12] (glitch_passed_1_ok F F a1 (a1.length : Int) (0 : Int) a0 ([] : List Int) s1 s0 b22 .nils _ _ _ hs1 hs0 (hH25.pick [1, 0] rfl rfl) h))

theorem mkk34 : makeK Try.prog 34 = none := by kernel_rfl
theorem cal34 : callable Try.prog 34 = true := by kernel_rfl
abbrev glitch_Passed_post (r : (List Int) × Int) : SV → Mem → Prop := fun s Me => ∃ q1, s = (.tuple [q1, (.int .i64 r.2)]) ∧ Has (fun _ => none) Me [.vec 3 1 r.1.length q1 (r.1.flatMap enc3)]

def glitch_Passed (F : Nat) (a0 : (List S_api_Veto)) (a1 : (List Int)) : Option ((List Int) × Int) :=
  bnd (glitch_areVetoes F a0) fun r22 =>
  bif (!r22) then
    some (([] : List Int), (63 : Int))
  else
    bnd (glitch_areTimes F a1) fun r28 =>
    bif (!r28) then
      some (([] : List Int), (64 : Int))
    else
      bnd (glitch_passed F a0 a1) fun r35 =>
      some (r35, (0 : Int))

theorem glitch_Passed_ok (F : Nat) (a0 : (List S_api_Veto)) (a1 : (List Int)) (s0 s1 : SV) (r : (List Int) × Int) (M : Mem) (hs0 : Slc (rd M) 2 (rep120 (rd M)) s0 a0) (hs1 : Slc (rd M) 1 (FlatR enc3) s1 a1) (h : glitch_Passed F a0 a1 = some r) : CallsM Try.prog 10 [s0, s1] M (fun s M' => ∃ q1, s = (.tuple [q1, (.int .i64 r.2)]) ∧ New M M' [.vec 3 1 r.1.length q1 (r.1.flatMap enc3)]) := by
  refine CallsM.fresh (Q := glitch_Passed_post r) Try.func10 rfl rfl ?_ (by rintro s Me ⟨q1, rfl, hx⟩ ha hw; exact ⟨_, rfl, New.of rfl hx ha hw⟩)
  rw [glitch_Passed] at h
  replace hs0 := hs0.mono (rdLe_frozen M) (fun _ _ => rep120_mo (rdLe_frozen M))
  replace hs1 := hs1.mono (rdLe_frozen M) (fun _ _ h => h)
  have hH := Has.nil (frozen M)
  refine Run.seq (Run.region ?_)
  refine Run.opG wantS_none (ex_assign rfl) rfl ?_
  refine Run.opG wantS_none (ex_assign rfl) rfl ?_
  refine Run.opsEnd (Run.seq (Run.block (Run.seq (Run.region ?_))))
  refine Run.opG wantS_none (ex_move rfl) rfl ?_
  obtain ⟨r22, hr22, h⟩ := bnd_some h
  refine Run.callP wantS_none (ex_call rfl mkk32 cal32) rfl (glitch_areVetoes_ok F a0 s0 _ _ ((hs0).mono hH.le (fun _ _ => rep120_mo hH.le)) hr22) ?_
  refine Run.opG wantS_none (ex_not rfl) rfl ?_
  refine Run.opG wantS_none (ex_assign rfl) rfl ?_
  refine Run.opsEnd ?_
  rcases btf ((!r22)) with hc24 | hc24
  · have h := bif_t hc24 h
    refine Run.condT' rfl hc24 ?_
    refine Run.seq (Run.region ?_)
    refine Run.opG wantS_none (ex_assign rfl) rfl ?_
    refine Run.opG wantS_none (ex_assign rfl) rfl ?_
    refine Run.opsEnd ?_
    have hH26 : Has (ro (frozen M)) (frozen M) [.vec 3 1 ([] : List Int).length .nils (([] : List Int).flatMap enc3)] := hH.nils 3 1
    cases h
    exact Run.ret Try.func10 rfl (res_tmp rfl (res_tmp rfl res_nil)) ⟨_, rfl, (hH26.pick [0] rfl rfl).upF (none_le _)⟩
  · have h := bif_f hc24 h
    refine Run.condF' rfl hc24 ?_
    refine Run.seq (Run.region ?_)
    refine Run.opG wantS_none (ex_move rfl) rfl ?_
    obtain ⟨r28, hr28, h⟩ := bnd_some h
    refine Run.callP wantS_none (ex_call rfl mkk33 cal33) rfl (glitch_areTimes_ok F a1 s1 _ _ (hH.slcF hs1) hr28) ?_
    refine Run.opG wantS_none (ex_not rfl) rfl ?_
    refine Run.opG wantS_none (ex_assign rfl) rfl ?_
    refine Run.opsEnd ?_
    rcases btf ((!r28)) with hc30 | hc30
    · have h := bif_t hc30 h
      refine Run.condT' rfl hc30 ?_
      refine Run.seq (Run.region ?_)
      refine Run.opG wantS_none (ex_assign rfl) rfl ?_
      refine Run.opG wantS_none (ex_assign rfl) rfl ?_
      refine Run.opsEnd ?_
      have hH32 : Has (ro (frozen M)) (frozen M) [.vec 3 1 ([] : List Int).length .nils (([] : List Int).flatMap enc3)] := hH.nils 3 1
      cases h
      exact Run.ret Try.func10 rfl (res_tmp rfl (res_tmp rfl res_nil)) ⟨_, rfl, (hH32.pick [0] rfl rfl).upF (none_le _)⟩
    · have h := bif_f hc30 h
      refine Run.condF' rfl hc30 ?_
      refine Run.skip (Run.inBlock (Run.seq (Run.region ?_)))
      refine Run.opG wantS_none (ex_move rfl) rfl ?_
      refine Run.opG wantS_none (ex_move rfl) rfl ?_
      obtain ⟨r35, hr35, h⟩ := bnd_some h
      refine Run.callX wantS_none (ex_call rfl mkk34 cal34) rfl (glitch_passed_ok F a0 a1 s0 s1 _ _ ((hs0).mono hH.le (fun _ _ => rep120_mo hH.le)) (hH.slcF hs1) hr35) ?_
      rintro s35_0 M37 ⟨_, rfl, hN35⟩
      have hH37 : Has (ro (frozen M)) M37 [.vec 3 1 r35.length s35_0 (r35.flatMap enc3)] := hN35.1 _ _ hH
      refine Run.opG wantS_none (ex_assign rfl) rfl ?_
      refine Run.opG wantS_none (ex_assign rfl) rfl ?_
      refine Run.opsEnd ?_
      cases h
      exact Run.ret Try.func10 rfl (res_tmp rfl (res_tmp rfl res_nil)) ⟨_, rfl, (hH37.pick [0] rfl rfl).upF (none_le _)⟩

theorem mkk10 : makeK Try.prog 10 = none := by kernel_rfl
theorem cal10 : callable Try.prog 10 = true := by kernel_rfl
theorem mkk6 : makeK Try.prog 6 = none := by kernel_rfl
theorem cal6 : callable Try.prog 6 = true := by kernel_rfl
abbrev ref00_Find_post (r : Int) : SV → Mem → Prop := fun s _ => s = (.int .i64 r)

def ref00_Find_1 (F : Nat) : Nat → (List Int) → Int → Int → Option (Int)
  | 0, _, _, _ => none
  | N + 1, v0, v1, v5 =>
    bif (decide (v5 < (v0.length : Int))) then
      bnd (idx v0 v5) fun x23 =>
      bif (x23 == v1) then
        some v5
      else
        (ref00_Find_1 F N) v0 v1 (w64 (v5 + (1 : Int)))
    else
      some ((-1) : Int)

theorem ref00_Find_1_ok (F : Nat) : ∀ (N : Nat), ∀ (v0 : (List Int)) (v1 v5 : Int) (sv0 : SV) (Fr : Rd) (M : Mem) (r : Int) (hv0 : Slc Fr 1 (FlatR enc3) sv0 v0) (hH : Has Fr M []), ref00_Find_1 F N v0 v1 v5 = some r → Run Try.prog ⟨⟨11, [], none⟩, []⟩ 19 (ref00_Find_post r) [(0, sv0), (1, (.int .i64 v1)), (5, (.int .i64 v5))] [codeC Try.prog 11 [1, 0, 1, 0, 0], loopC Try.prog 11 [1, 0, 1, 0, 0], .inBlock 0, codeC Try.prog 11 [1, 1]] M := by
  intro N
  induction N with
  | zero =>
    intro v0 v1 v5 sv0 Fr M r hv0 hH h
    simp [ref00_Find_1] at h
  | succ N ih =>
    intro v0 v1 v5 sv0 Fr M r hv0 hH h
    rw [ref00_Find_1] at h
    refine Run.seq (Run.seq (Run.region ?_))
    refine Run.opG wantS_none (ex_move rfl) rfl ?_
    refine Run.opG wantS_none (ex_move rfl) rfl ?_
    refine Run.opG wantS_none (ex_len' rfl hv0 lenk22) rfl ?_
    refine Run.opG wantS_none (ex_lss rfl rfl) rfl ?_
    refine Run.opsEnd ?_
    rcases btf ((decide (v5 < (v0.length : Int)))) with hc21 | hc21
    · have h := bif_t hc21 h
      refine Run.condT' rfl hc21 ?_
      refine Run.skip (Run.seq (Run.block (Run.seq (Run.region ?_))))
      refine Run.opG wantS_none (ex_move rfl) rfl ?_
      refine Run.opG wantS_none (ex_move rfl) rfl ?_
      obtain ⟨x23, hx23, h⟩ := bnd_some h
      obtain ⟨p23, o23, _, hx23, hp23, rfl⟩ := sl_elem (P := Try.prog) (t := 22) (kk := .i64) hv0 hx23 els22
      refine Run.opG wantS_none (ex_elX rfl rfl hx23) rfl ?_
      refine Run.opG wantS_none (ex_load1 rfl (hH.ptrF hp23) rdLe_rfl agg3) rfl ?_
      refine Run.opG wantS_none (ex_move rfl) rfl ?_
      refine Run.opG wantS_none (ex_eql rfl rfl) rfl ?_
      refine Run.opsEnd ?_
      rcases btf ((x23 == v1)) with hc24 | hc24
      · have h := bif_t hc24 h
        refine Run.condT' rfl hc24 ?_
        refine Run.seq (Run.region ?_)
        refine Run.opG wantS_none (ex_move rfl) rfl ?_
        refine Run.opG wantS_none (ex_assign rfl) rfl ?_
        refine Run.opsEnd ?_
        cases h
        exact Run.ret Try.func11 rfl (res_tmp rfl res_nil) rfl
      · have h := bif_f hc24 h
        refine Run.condF' rfl hc24 ?_
        refine Run.skip (Run.inBlock (Run.region ?_))
        refine Run.opG wantS_none (ex_move rfl) rfl ?_
        refine Run.opG wantS_none (ex_add rfl rfl) rfl ?_
        refine Run.opG wantS_none (ex_assign rfl) rfl ?_
        refine Run.opsEnd (Run.inLoop ?_)
        exact Run.pick [0, 1, 5] (ih v0 v1 (w64 (v5 + (1 : Int))) sv0 _ _ _ hv0 hH h)
    · have h := bif_f hc21 h
      refine Run.condF' rfl hc21 ?_
      refine Run.exit rfl (Run.seq (Run.region ?_))
      refine Run.opG wantS_none (ex_assign rfl) rfl ?_
      refine Run.opsEnd ?_
      cases h
      exact Run.ret Try.func11 rfl (res_tmp rfl res_nil) rfl

def ref00_Find (F : Nat) (a0 : (List Int)) (a1 : Int) : Option (Int) :=
  ref00_Find_1 F F a0 a1 (0 : Int)

theorem ref00_Find_ok (F : Nat) (a0 : (List Int)) (a1 : Int) (s0 : SV) (r : Int) (M : Mem) (hs0 : Slc (rd M) 1 (FlatR enc3) s0 a0) (h : ref00_Find F a0 a1 = some r) : CallsM Try.prog 11 [s0, (.int .i64 a1)] M (fun s M' => s = (.int .i64 r) ∧ M' = M) := by
  refine CallsM.plain Try.func11 rfl rfl rfl (show Run _ _ _ (ref00_Find_post r) _ _ _ from ?_)
  rw [ref00_Find] at h
  replace hs0 := hs0.mono (rdLe_frozen M) (fun _ _ h => h)
  have hH := Has.nil (frozen M)
  refine Run.seq (Run.region ?_)
  refine Run.opG wantS_none (ex_assign rfl) rfl ?_
  refine Run.opsEnd (Run.seq (Run.seq (Run.region ?_)))
  refine Run.opG wantS_none (ex_assign rfl) rfl ?_
  refine Run.opsEnd (Run.block (Run.loop ?_))
  exact Run.pick [0, 1, 5] (ref00_Find_1_ok F F a0 a1 (0 : Int) s0 _ _ _ hs0 hH h)

theorem mkk11 : makeK Try.prog 11 = none := by kernel_rfl
theorem cal11 : callable Try.prog 11 = true := by kernel_rfl
theorem agg43 : aggSize Try.prog 43 = some (some 3) := by kernel_rfl
theorem elt38 : sliceElt Try.prog 38 = some (⟨3, 24, [(.int .i64 0), (.int .i64 0), (.int .i64 0)], 43⟩ : Elt) := by kernel_rfl
theorem appt38_38 : appT Try.prog 38 38 = some (⟨3, 24, [(.int .i64 0), (.int .i64 0), (.int .i64 0)], 43⟩ : Elt) := by kernel_rfl
theorem off40_0 : fieldOff Try.prog 40 0 = some 0 := by kernel_rfl
theorem off40_1 : fieldOff Try.prog 40 1 = some 1 := by kernel_rfl
theorem zer86 : zerosOf Try.prog 86 = some [(.int .i64 0), (.int .i64 0), (.int .i64 0)] := by kernel_rfl
theorem pls86 : placesOf Try.prog 86 = some (.st [(0, 1), (1, 1), (2, 1)]) := by kernel_rfl
theorem sz86 : szOf Try.prog 86 = some 3 := by kernel_rfl
theorem agg86 : aggSize Try.prog 86 = some (some 3) := by kernel_rfl
def rep38 (f : Rd) (cs : List SV) (a : (List S_api_Trigger)) : Prop := ∃ q1, cs = [q1] ∧ Slc f 3 (FlatR enc43) q1 a
theorem rep38_mo {f g : Rd} (h : RdLe f g) {cs : List SV} {a : (List S_api_Trigger)} : rep38 f cs a → rep38 g cs a := by
  rintro ⟨q1, rfl, h0⟩
  exact ⟨q1, rfl, h0.mono h (fun _ _ h => h)⟩
theorem rep38_len {f : Rd} {cs : List SV} {a : (List S_api_Trigger)} : rep38 f cs a → cs.length = 1 := by
  rintro ⟨_, rfl, h0⟩
  rfl
theorem rep38_ones {f : Rd} {cs : List SV} {a : (List S_api_Trigger)} : rep38 f cs a → ones cs = true := by
  rintro ⟨_, rfl, h0⟩
  exact (ones_cons (slc_one h0) ones_nil)
theorem elt128 : sliceElt Try.prog 128 = some (⟨1, 24, [.nils], 38⟩ : Elt) := by kernel_rfl
structure S_search_clock where
  live : Int
  window : Int
  step : Int

theorem lenk128 : lenK Try.prog 128 = some .sl := by kernel_rfl
theorem els128 : elems Try.prog 128 = some (.sl 1) := by kernel_rfl
theorem agg38 : aggSize Try.prog 38 = some none := by kernel_rfl
theorem zer43 : zerosOf Try.prog 43 = some [(.int .i64 0), (.int .i64 0), (.int .i64 0)] := by kernel_rfl
theorem sz43 : szOf Try.prog 43 = some 3 := by kernel_rfl
abbrev search_isFrom_post (r : Bool) : SV → Mem → Prop := fun s _ => s = (.bool r)

def search_isFrom_1 (F : Nat) (v14 : Bool) : Option (Bool) :=
  some v14

theorem search_isFrom_1_ok (F : Nat) : ∀ (v14 : Bool) (Fr : Rd) (M : Mem) (r : Bool) (hH : Has Fr M []), search_isFrom_1 F v14 = some r → Run Try.prog ⟨⟨30, [], none⟩, []⟩ 15 (search_isFrom_post r) [(14, (.bool v14))] [itemC Try.prog 30 [1, 0] 8, codeC Try.prog 30 [1, 1]] M := by
  intro v14 Fr M r hH h
  rw [search_isFrom_1] at h
  refine Run.opG wantS_none (ex_assign rfl) rfl ?_
  refine Run.opsEnd ?_
  cases h
  exact Run.ret Try.func30 rfl (res_tmp rfl res_nil) rfl

def search_isFrom (F : Nat) (a0 a1 a2 : Int) : Option (Bool) :=
  bif (decide (a0 ≤ a1)) then
    search_isFrom_1 F (decide (a1 ≤ a2))
  else
    search_isFrom_1 F false

theorem search_isFrom_ok (F : Nat) (a0 a1 a2 : Int) (r : Bool) (M : Mem) (h : search_isFrom F a0 a1 a2 = some r) : CallsM Try.prog 30 [(.int .i64 a0), (.int .i64 a1), (.int .i64 a2)] M (fun s M' => s = (.bool r) ∧ M' = M) := by
  refine CallsM.plain Try.func30 rfl rfl rfl (show Run _ _ _ (search_isFrom_post r) _ _ _ from ?_)
  rw [search_isFrom] at h
  have hH := Has.nil (frozen M)
  refine Run.seq (Run.region ?_)
  refine Run.opG wantS_none (ex_assign rfl) rfl ?_
  refine Run.opsEnd (Run.seq (Run.region ?_))
  refine Run.opG wantS_none (ex_move rfl) rfl ?_
  refine Run.opG wantS_none (ex_move rfl) rfl ?_
  refine Run.opG wantS_none (ex_leq rfl rfl) rfl ?_
  refine Run.opG wantS_none (ex_move rfl) rfl ?_
  rcases btf ((decide (a0 ≤ a1))) with hc21 | hc21
  · have h := bif_t hc21 h
    refine Run.opG (wantS_yes' rfl rfl hc21) (ex_move rfl) rfl ?_
    refine Run.opG (wantS_yes' rfl rfl hc21) (ex_move rfl) rfl ?_
    refine Run.opG (wantS_yes' rfl rfl hc21) (ex_leq rfl rfl) rfl ?_
    refine Run.opG wantS_none (ex_pickT' rfl hc21 rfl rfl) rfl ?_
    exact Run.pick [14] (search_isFrom_1_ok F (decide (a1 ≤ a2)) _ _ _ hH h)
  · have h := bif_f hc21 h
    refine Run.no (wantS_not' rfl rfl hc21) rfl ?_
    refine Run.no (wantS_not' rfl rfl hc21) rfl ?_
    refine Run.no (wantS_not' rfl rfl hc21) rfl ?_
    refine Run.opG wantS_none (ex_pickF' rfl hc21 rfl rfl) rfl ?_
    exact Run.pick [14] (search_isFrom_1_ok F false _ _ _ hH h)

theorem mkk30 : makeK Try.prog 30 = none := by kernel_rfl
theorem cal30 : callable Try.prog 30 = true := by kernel_rfl
theorem off43_2 : fieldOff Try.prog 43 2 = some 2 := by kernel_rfl
theorem off43_1 : fieldOff Try.prog 43 1 = some 1 := by kernel_rfl
abbrev search_areTriggers_post (r : Bool) : SV → Mem → Prop := fun s _ => s = (.bool r)

def search_areTriggers_3 (F : Nat) (hd1 : Int → (List S_api_Trigger) → Int → Int → Option (Bool)) (v9 : (List S_api_Trigger)) (v10 v11 : Int) (v32 : Bool) (c26 : S_api_Trigger) : Option (Bool) :=
  bif v32 then
    some false
  else
    hd1 c26.Time v9 v10 (w64 (v11 + (1 : Int)))

theorem search_areTriggers_3_ok (F : Nat) (hd1 : Int → (List S_api_Trigger) → Int → Int → Option (Bool)) (hhd1 : ∀ (v3 : Int) (v9 : (List S_api_Trigger)) (v10 v11 : Int) (sv9 : SV) (Fr : Rd) (M : Mem) (r : Bool) (hv9 : Slc Fr 3 (FlatR enc43) sv9 v9) (hH : Has Fr M []), hd1 v3 v9 v10 v11 = some r → Run Try.prog ⟨⟨97, [], none⟩, []⟩ 36 (search_areTriggers_post r) [(3, (.int .i64 v3)), (9, sv9), (10, (.int .i64 v10)), (11, (.int .i64 v11))] [codeC Try.prog 97 [1, 1, 1, 0, 1, 0, 0], loopC Try.prog 97 [1, 1, 1, 0, 1, 0, 0], .inBlock 0, codeC Try.prog 97 [1, 1, 1, 1]] M) : ∀ (v9 : (List S_api_Trigger)) (v10 v11 : Int) (v32 : Bool) (c26 : S_api_Trigger) (sv9 : SV) (b26 : Pos) (Fr : Rd) (M : Mem) (r : Bool) (hv9 : Slc Fr 3 (FlatR enc43) sv9 v9) (hH : Has Fr M [.obj b26 (.row 43 .whole [(.int .i64 c26.Time), (.int .i64 c26.Loud), (.int .i64 c26.Template)])]), search_areTriggers_3 F hd1 v9 v10 v11 v32 c26 = some r → Run Try.prog ⟨⟨97, [], none⟩, []⟩ 36 (search_areTriggers_post r) [(5, (.ptr b26 0)), (9, sv9), (10, (.int .i64 v10)), (11, (.int .i64 v11)), (32, (.bool v32))] [codeC Try.prog 97 [1, 1, 1, 0, 1, 0, 0, 1, 1, 0, 0, 1, 0, 1], codeC Try.prog 97 [1, 1, 1, 0, 1, 0, 0, 1, 1, 0, 0, 1, 1], .inBlock 1, codeC Try.prog 97 [1, 1, 1, 0, 1, 0, 0, 1, 1, 1], loopC Try.prog 97 [1, 1, 1, 0, 1, 0, 0], .inBlock 0, codeC Try.prog 97 [1, 1, 1, 1]] M := by
  intro v9 v10 v11 v32 c26 sv9 b26 Fr M r hv9 hH h
  rw [search_areTriggers_3] at h
  rcases btf (v32) with hc34 | hc34
  · have h := bif_t hc34 h
    refine Run.condT' rfl hc34 ?_
    refine Run.seq (Run.region ?_)
    refine Run.opG wantS_none (ex_assign rfl) rfl ?_
    refine Run.opsEnd ?_
    cases h
    exact Run.ret Try.func97 rfl (res_tmp rfl res_nil) rfl
  · have h := bif_f hc34 h
    refine Run.condF' rfl hc34 ?_
    refine Run.skip (Run.region ?_)
    refine Run.opG wantS_none (ex_fieldAddr rfl off43_0) rfl ?_
    refine Run.opG wantS_none (ex_load1 rfl (hH.cells (i := 0) rfl 0 rfl) rdLe_rfl agg3) rfl ?_
    refine Run.opG wantS_none (ex_assign rfl) rfl ?_
    refine Run.opsEnd (Run.inBlock (Run.region ?_))
    refine Run.opG wantS_none (ex_add rfl rfl) rfl ?_
    refine Run.opG wantS_none (ex_move rfl) rfl ?_
    refine Run.opsEnd (Run.inLoop ?_)
    exact Run.pick [3, 9, 10, 11] (hhd1 c26.Time v9 v10 (w64 (v11 + (1 : Int))) sv9 _ _ _ hv9 (hH.pick [] rfl rfl) h)

def search_areTriggers_2 (F : Nat) (hd1 : Int → (List S_api_Trigger) → Int → Int → Option (Bool)) (v9 : (List S_api_Trigger)) (v10 v11 : Int) (v26 : Bool) (c26 : S_api_Trigger) : Option (Bool) :=
  bif v26 then
    search_areTriggers_3 F hd1 v9 v10 v11 true c26
  else
    bnd (search_isFrom F (0 : Int) c26.Template (255 : Int)) fun r36 =>
    search_areTriggers_3 F hd1 v9 v10 v11 (!r36) c26

theorem search_areTriggers_2_ok (F : Nat) (hd1 : Int → (List S_api_Trigger) → Int → Int → Option (Bool)) (hhd1 : ∀ (v3 : Int) (v9 : (List S_api_Trigger)) (v10 v11 : Int) (sv9 : SV) (Fr : Rd) (M : Mem) (r : Bool) (hv9 : Slc Fr 3 (FlatR enc43) sv9 v9) (hH : Has Fr M []), hd1 v3 v9 v10 v11 = some r → Run Try.prog ⟨⟨97, [], none⟩, []⟩ 36 (search_areTriggers_post r) [(3, (.int .i64 v3)), (9, sv9), (10, (.int .i64 v10)), (11, (.int .i64 v11))] [codeC Try.prog 97 [1, 1, 1, 0, 1, 0, 0], loopC Try.prog 97 [1, 1, 1, 0, 1, 0, 0], .inBlock 0, codeC Try.prog 97 [1, 1, 1, 1]] M) : ∀ (v9 : (List S_api_Trigger)) (v10 v11 : Int) (v26 : Bool) (c26 : S_api_Trigger) (sv9 : SV) (b26 : Pos) (Fr : Rd) (M : Mem) (r : Bool) (hv9 : Slc Fr 3 (FlatR enc43) sv9 v9) (hH : Has Fr M [.obj b26 (.row 43 .whole [(.int .i64 c26.Time), (.int .i64 c26.Loud), (.int .i64 c26.Template)])]), search_areTriggers_2 F hd1 v9 v10 v11 v26 c26 = some r → Run Try.prog ⟨⟨97, [], none⟩, []⟩ 36 (search_areTriggers_post r) [(5, (.ptr b26 0)), (9, sv9), (10, (.int .i64 v10)), (11, (.int .i64 v11)), (26, (.bool v26))] [itemC Try.prog 97 [1, 1, 1, 0, 1, 0, 0, 1, 1, 0, 0, 1, 0, 0] 12, codeC Try.prog 97 [1, 1, 1, 0, 1, 0, 0, 1, 1, 0, 0, 1, 0, 1], codeC Try.prog 97 [1, 1, 1, 0, 1, 0, 0, 1, 1, 0, 0, 1, 1], .inBlock 1, codeC Try.prog 97 [1, 1, 1, 0, 1, 0, 0, 1, 1, 1], loopC Try.prog 97 [1, 1, 1, 0, 1, 0, 0], .inBlock 0, codeC Try.prog 97 [1, 1, 1, 1]] M := by
  intro v9 v10 v11 v26 c26 sv9 b26 Fr M r hv9 hH h
  rw [search_areTriggers_2] at h
  refine Run.opG wantS_none (ex_move rfl) rfl ?_
  rcases btf (v26) with hc33 | hc33
  · have h := bif_t hc33 h
    refine Run.no (wantS_not' rfl rfl hc33) rfl ?_
    refine Run.no (wantS_not' rfl rfl hc33) rfl ?_
    refine Run.no (wantS_not' rfl rfl hc33) rfl ?_
    refine Run.no (wantS_not' rfl rfl hc33) rfl ?_
    refine Run.opG wantS_none (ex_pickT' rfl hc33 rfl rfl) rfl ?_
    refine Run.opsEnd ?_
    exact Run.pick [5, 9, 10, 11, 32] (search_areTriggers_3_ok F hd1 hhd1 v9 v10 v11 true c26 sv9 b26 _ _ _ hv9 hH h)
  · have h := bif_f hc33 h
    refine Run.opG (wantS_yes' rfl rfl hc33) (ex_fieldAddr rfl off43_2) rfl ?_
    refine Run.opG (wantS_yes' rfl rfl hc33) (ex_load1 rfl (hH.cells (i := 0) rfl 2 rfl) rdLe_rfl agg3) rfl ?_
    obtain ⟨r36, hr36, h⟩ := bnd_some h
    refine Run.callP (wantS_yes' rfl rfl hc33) (ex_call rfl mkk30 cal30) rfl (search_isFrom_ok F (0 : Int) c26.Template (255 : Int) _ _ hr36) ?_
    refine Run.opG (wantS_yes' rfl rfl hc33) (ex_not rfl) rfl ?_
    refine Run.opG wantS_none (ex_pickF' rfl hc33 rfl rfl) rfl ?_
    refine Run.opsEnd ?_
    exact Run.pick [5, 9, 10, 11, 32] (search_areTriggers_3_ok F hd1 hhd1 v9 v10 v11 (!r36) c26 sv9 b26 _ _ _ hv9 hH h)

def search_areTriggers_1 (F : Nat) : Nat → Int → (List S_api_Trigger) → Int → Int → Option (Bool)
  | 0, _, _, _, _ => none
  | N + 1, v3, v9, v10, v11 =>
    bif (decide (v11 < v10)) then
      bnd (idx v9 v11) fun x24 =>
      bnd (search_isFrom F (w64 (v3 + (1 : Int))) x24.Time (1073741823 : Int)) fun r30 =>
      bif (!r30) then
        search_areTriggers_2 F (search_areTriggers_1 F N) v9 v10 v11 true x24
      else
        bnd (search_isFrom F (0 : Int) x24.Loud (1073741824 : Int)) fun r39 =>
        search_areTriggers_2 F (search_areTriggers_1 F N) v9 v10 v11 (!r39) x24
    else
      some true

theorem search_areTriggers_1_ok (F : Nat) : ∀ (N : Nat), ∀ (v3 : Int) (v9 : (List S_api_Trigger)) (v10 v11 : Int) (sv9 : SV) (Fr : Rd) (M : Mem) (r : Bool) (hv9 : Slc Fr 3 (FlatR enc43) sv9 v9) (hH : Has Fr M []), search_areTriggers_1 F N v3 v9 v10 v11 = some r → Run Try.prog ⟨⟨97, [], none⟩, []⟩ 36 (search_areTriggers_post r) [(3, (.int .i64 v3)), (9, sv9), (10, (.int .i64 v10)), (11, (.int .i64 v11))] [codeC Try.prog 97 [1, 1, 1, 0, 1, 0, 0], loopC Try.prog 97 [1, 1, 1, 0, 1, 0, 0], .inBlock 0, codeC Try.prog 97 [1, 1, 1, 1]] M := by
  intro N
  induction N with
  | zero =>
    intro v3 v9 v10 v11 sv9 Fr M r hv9 hH h
    simp [search_areTriggers_1] at h
  | succ N ih =>
    intro v3 v9 v10 v11 sv9 Fr M r hv9 hH h
    rw [search_areTriggers_1] at h
    refine Run.seq (Run.region ?_)
    refine Run.opG wantS_none (ex_lss rfl rfl) rfl ?_
    refine Run.opsEnd (Run.seq ?_)
    rcases btf ((decide (v11 < v10))) with hc22 | hc22
    · have h := bif_t hc22 h
      refine Run.condT' rfl hc22 ?_
      refine Run.skip (Run.seq (Run.block (Run.seq (Run.region ?_))))
      obtain ⟨x24, hx24, h⟩ := bnd_some h
      obtain ⟨p24, o24, _, hx24, hp24, rfl⟩ := sl_elem (P := Try.prog) (t := 38) (kk := .i64) hv9 hx24 els38
      refine Run.opG wantS_none (ex_elX rfl rfl hx24) rfl ?_
      refine Run.opG wantS_none (ex_loadA rfl (hH.ptrF hp24) rdLe_rfl agg43 rfl rfl rfl) rfl ?_
      refine Run.opX wantS_none rfl (ExG.new (v := fun b => .ptr b 0) (ex_alloc zer43) hH) ?_
      rintro _ M27 ⟨b26, rfl, hH27⟩
      refine Run.opX wantS_none rfl (ExG.storeC (c' := [(.int .i64 x24.Time), (.int .i64 x24.Loud), (.int .i64 x24.Template)]) rfl rfl rfl hH27 (i := 0) rfl sz43 rfl rfl rfl rfl rfl) ?_
      rintro _ M28 ⟨rfl, (hH28 : Has Fr M28 [.obj b26 (.row 43 .whole [(.int .i64 x24.Time), (.int .i64 x24.Loud), (.int .i64 x24.Template)])])⟩
      refine Run.opsEnd (Run.seq (Run.seq (Run.region ?_)))
      refine Run.opG wantS_none (ex_move rfl) rfl ?_
      refine Run.opG wantS_none (ex_add rfl rfl) rfl ?_
      refine Run.opG wantS_none (ex_fieldAddr rfl off43_0) rfl ?_
      refine Run.opG wantS_none (ex_load1 rfl (hH28.cells (i := 0) rfl 0 rfl) rdLe_rfl agg3) rfl ?_
      obtain ⟨r30, hr30, h⟩ := bnd_some h
      refine Run.callP wantS_none (ex_call rfl mkk30 cal30) rfl (search_isFrom_ok F (w64 (v3 + (1 : Int))) x24.Time (1073741823 : Int) _ _ hr30) ?_
      refine Run.opG wantS_none (ex_not rfl) rfl ?_
      refine Run.opG wantS_none (ex_move rfl) rfl ?_
      rcases btf ((!r30)) with hc32 | hc32
      · have h := bif_t hc32 h
        refine Run.no (wantS_not' rfl rfl hc32) rfl ?_
        refine Run.no (wantS_not' rfl rfl hc32) rfl ?_
        refine Run.no (wantS_not' rfl rfl hc32) rfl ?_
        refine Run.no (wantS_not' rfl rfl hc32) rfl ?_
        refine Run.opG wantS_none (ex_pickT' rfl hc32 rfl rfl) rfl ?_
        exact Run.pick [5, 9, 10, 11, 26] (search_areTriggers_2_ok F (search_areTriggers_1 F N) ih v9 v10 v11 true x24 sv9 b26 _ _ _ hv9 hH28 h)
      · have h := bif_f hc32 h
        refine Run.opG (wantS_yes' rfl rfl hc32) (ex_fieldAddr rfl off43_1) rfl ?_
        refine Run.opG (wantS_yes' rfl rfl hc32) (ex_load1 rfl (hH28.cells (i := 0) rfl 1 rfl) rdLe_rfl agg3) rfl ?_
        obtain ⟨r39, hr39, h⟩ := bnd_some h
        refine Run.callP (wantS_yes' rfl rfl hc32) (ex_call rfl mkk30 cal30) rfl (search_isFrom_ok F (0 : Int) x24.Loud (1073741824 : Int) _ _ hr39) ?_
        refine Run.opG (wantS_yes' rfl rfl hc32) (ex_not rfl) rfl ?_
        refine Run.opG wantS_none (ex_pickF' rfl hc32 rfl rfl) rfl ?_
        exact Run.pick [5, 9, 10, 11, 26] (search_areTriggers_2_ok F (search_areTriggers_1 F N) ih v9 v10 v11 (!r39) x24 sv9 b26 _ _ _ hv9 hH28 h)
    · have h := bif_f hc22 h
      refine Run.condF' rfl hc22 ?_
      refine Run.exit rfl (Run.seq (Run.region ?_))
      refine Run.opG wantS_none (ex_assign rfl) rfl ?_
      refine Run.opsEnd ?_
      cases h
      exact Run.ret Try.func97 rfl (res_tmp rfl res_nil) rfl

def search_areTriggers (F : Nat) (a0 : (List S_api_Trigger)) : Option (Bool) :=
  bif (decide ((256 : Int) < (a0.length : Int))) then
    some false
  else
    search_areTriggers_1 F F ((-1) : Int) a0 (a0.length : Int) (0 : Int)

theorem search_areTriggers_ok (F : Nat) (a0 : (List S_api_Trigger)) (s0 : SV) (r : Bool) (M : Mem) (hs0 : Slc (rd M) 3 (FlatR enc43) s0 a0) (h : search_areTriggers F a0 = some r) : CallsM Try.prog 97 [s0] M (fun s M' => s = (.bool r) ∧ M' = M) := by
  refine CallsM.plain Try.func97 rfl rfl rfl (show Run _ _ _ (search_areTriggers_post r) _ _ _ from ?_)
  rw [search_areTriggers] at h
  replace hs0 := hs0.mono (rdLe_frozen M) (fun _ _ h => h)
  have hH := Has.nil (frozen M)
  refine Run.seq (Run.region ?_)
  refine Run.opG wantS_none (ex_assign rfl) rfl ?_
  refine Run.opsEnd (Run.seq (Run.seq (Run.region ?_)))
  refine Run.opG wantS_none (ex_move rfl) rfl ?_
  refine Run.opG wantS_none (ex_len' rfl hs0 lenk38) rfl ?_
  refine Run.opG wantS_none (ex_gtr rfl rfl) rfl ?_
  refine Run.opsEnd ?_
  rcases btf ((decide ((256 : Int) < (a0.length : Int)))) with hc21 | hc21
  · have h := bif_t hc21 h
    refine Run.condT' rfl hc21 ?_
    refine Run.seq (Run.region ?_)
    refine Run.opG wantS_none (ex_assign rfl) rfl ?_
    refine Run.opsEnd ?_
    cases h
    exact Run.ret Try.func97 rfl (res_tmp rfl res_nil) rfl
  · have h := bif_f hc21 h
    refine Run.condF' rfl hc21 ?_
    refine Run.skip (Run.seq (Run.region ?_))
    refine Run.opG wantS_none (ex_assign rfl) rfl ?_
    refine Run.opsEnd (Run.seq (Run.seq (Run.region ?_)))
    refine Run.opG wantS_none (ex_move rfl) rfl ?_
    refine Run.opG wantS_none (ex_len' rfl hs0 lenk38) rfl ?_
    refine Run.opG wantS_none (ex_move rfl) rfl ?_
    refine Run.opsEnd (Run.block (Run.loop ?_))
    exact Run.pick [3, 9, 10, 11] (search_areTriggers_1_ok F F ((-1) : Int) a0 (a0.length : Int) (0 : Int) s0 _ _ _ hs0 hH h)

theorem mkk97 : makeK Try.prog 97 = none := by kernel_rfl
theorem cal97 : callable Try.prog 97 = true := by kernel_rfl
abbrev search_checkTriggers_post (r : Int) : SV → Mem → Prop := fun s _ => s = (.int .i64 r)

def search_checkTriggers_1 (F : Nat) : Nat → (List (List S_api_Trigger)) → Int → Int → Option (Int)
  | 0, _, _, _ => none
  | N + 1, v5, v6, v7 =>
    bif (decide (v7 < v6)) then
      bnd (idx v5 v7) fun x23 =>
      bnd (search_areTriggers F x23) fun r25 =>
      bif (!r25) then
        some (80 : Int)
      else
        (search_checkTriggers_1 F N) v5 v6 (w64 (v7 + (1 : Int)))
    else
      some (0 : Int)

theorem search_checkTriggers_1_ok (F : Nat) : ∀ (N : Nat), ∀ (v5 : (List (List S_api_Trigger))) (v6 v7 : Int) (sv5 : SV) (Fr : Rd) (M : Mem) (r : Int) (hv5 : Slc Fr 1 (rep38 Fr) sv5 v5) (hH : Has Fr M []), search_checkTriggers_1 F N v5 v6 v7 = some r → Run Try.prog ⟨⟨68, [], none⟩, []⟩ 15 (search_checkTriggers_post r) [(5, sv5), (6, (.int .i64 v6)), (7, (.int .i64 v7))] [codeC Try.prog 68 [1, 0, 1, 0, 0], loopC Try.prog 68 [1, 0, 1, 0, 0], .inBlock 0, codeC Try.prog 68 [1, 1]] M := by
  intro N
  induction N with
  | zero =>
    intro v5 v6 v7 sv5 Fr M r hv5 hH h
    simp [search_checkTriggers_1] at h
  | succ N ih =>
    intro v5 v6 v7 sv5 Fr M r hv5 hH h
    rw [search_checkTriggers_1] at h
    refine Run.seq (Run.region ?_)
    refine Run.opG wantS_none (ex_lss rfl rfl) rfl ?_
    refine Run.opsEnd (Run.seq ?_)
    rcases btf ((decide (v7 < v6))) with hc21 | hc21
    · have h := bif_t hc21 h
      refine Run.condT' rfl hc21 ?_
      refine Run.skip (Run.seq (Run.block (Run.seq (Run.region ?_))))
      obtain ⟨x23, hx23, h⟩ := bnd_some h
      obtain ⟨p23, o23, _, hx23, hp23, ⟨q23_0, rfl, hq23_0⟩⟩ := sl_elem (P := Try.prog) (t := 128) (kk := .i64) hv5 hx23 els128
      refine Run.opG wantS_none (ex_elX rfl rfl hx23) rfl ?_
      refine Run.opG wantS_none (ex_load1 rfl (hH.ptrF hp23) rdLe_rfl agg38) rfl ?_
      refine Run.opG wantS_none (ex_assign rfl) rfl ?_
      refine Run.opsEnd (Run.seq (Run.region ?_))
      refine Run.opG wantS_none (ex_move rfl) rfl ?_
      obtain ⟨r25, hr25, h⟩ := bnd_some h
      refine Run.callP wantS_none (ex_call rfl mkk97 cal97) rfl (search_areTriggers_ok F x23 q23_0 _ _ (hH.slcF hq23_0) hr25) ?_
      refine Run.opG wantS_none (ex_not rfl) rfl ?_
      refine Run.opsEnd ?_
      rcases btf ((!r25)) with hc27 | hc27
      · have h := bif_t hc27 h
        refine Run.condT' rfl hc27 ?_
        refine Run.seq (Run.region ?_)
        refine Run.opG wantS_none (ex_assign rfl) rfl ?_
        refine Run.opsEnd ?_
        cases h
        exact Run.ret Try.func68 rfl (res_tmp rfl res_nil) rfl
      · have h := bif_f hc27 h
        refine Run.condF' rfl hc27 ?_
        refine Run.skip (Run.inBlock (Run.region ?_))
        refine Run.opG wantS_none (ex_add rfl rfl) rfl ?_
        refine Run.opG wantS_none (ex_move rfl) rfl ?_
        refine Run.opsEnd (Run.inLoop ?_)
        exact Run.pick [5, 6, 7] (ih v5 v6 (w64 (v7 + (1 : Int))) sv5 _ _ _ hv5 hH h)
    · have h := bif_f hc21 h
      refine Run.condF' rfl hc21 ?_
      refine Run.exit rfl (Run.seq (Run.region ?_))
      refine Run.opG wantS_none (ex_assign rfl) rfl ?_
      refine Run.opsEnd ?_
      cases h
      exact Run.ret Try.func68 rfl (res_tmp rfl res_nil) rfl

def search_checkTriggers (F : Nat) (a0 : (List (List S_api_Trigger))) : Option (Int) :=
  search_checkTriggers_1 F F a0 (a0.length : Int) (0 : Int)

theorem search_checkTriggers_ok (F : Nat) (a0 : (List (List S_api_Trigger))) (s0 : SV) (r : Int) (M : Mem) (hs0 : Slc (rd M) 1 (rep38 (rd M)) s0 a0) (h : search_checkTriggers F a0 = some r) : CallsM Try.prog 68 [s0] M (fun s M' => s = (.int .i64 r) ∧ M' = M) := by
  refine CallsM.plain Try.func68 rfl rfl rfl (show Run _ _ _ (search_checkTriggers_post r) _ _ _ from ?_)
  rw [search_checkTriggers] at h
  replace hs0 := hs0.mono (rdLe_frozen M) (fun _ _ => rep38_mo (rdLe_frozen M))
  have hH := Has.nil (frozen M)
  refine Run.seq (Run.region ?_)
  refine Run.opG wantS_none (ex_assign rfl) rfl ?_
  refine Run.opsEnd (Run.seq (Run.seq (Run.region ?_)))
  refine Run.opG wantS_none (ex_move rfl) rfl ?_
  refine Run.opG wantS_none (ex_len' rfl hs0 lenk128) rfl ?_
  refine Run.opG wantS_none (ex_move rfl) rfl ?_
  refine Run.opsEnd (Run.block (Run.loop ?_))
  exact Run.pick [5, 6, 7] (search_checkTriggers_1_ok F F a0 (a0.length : Int) (0 : Int) s0 _ _ _ hs0 hH h)

theorem mkk68 : makeK Try.prog 68 = none := by kernel_rfl
theorem cal68 : callable Try.prog 68 = true := by kernel_rfl
theorem off86_0 : fieldOff Try.prog 86 0 = some 0 := by kernel_rfl
theorem off86_2 : fieldOff Try.prog 86 2 = some 2 := by kernel_rfl
abbrev search_clock_slides_post (r : Int) : SV → Mem → Prop := fun s _ => s = (.int .i64 r)

def search_clock_slides (F : Nat) (a0 : S_search_clock) : Option (Int) :=
  bnd (nz a0.step) fun z25 =>
  some (w64 (Int.tdiv a0.live a0.step))

theorem search_clock_slides_ok (F : Nat) (a0 : S_search_clock) (r : Int) (M : Mem) (h : search_clock_slides F a0 = some r) : CallsM Try.prog 47 [(.agg [(.int .i64 a0.live), (.int .i64 a0.window), (.int .i64 a0.step)])] M (fun s M' => s = (.int .i64 r) ∧ M' = M) := by
  refine CallsM.plain Try.func47 rfl rfl rfl (show Run _ _ _ (search_clock_slides_post r) _ _ _ from ?_)
  rw [search_clock_slides] at h
  have hH := Has.nil (frozen M)
  refine Run.seq (Run.region ?_)
  refine Run.opX wantS_none rfl (ExG.box rfl rfl hH) ?_
  rintro _ M23 ⟨b22, rfl, hH23⟩
  refine Run.opG wantS_none (ex_assign rfl) rfl ?_
  refine Run.opsEnd (Run.seq (Run.region ?_))
  refine Run.opG wantS_none (ex_fieldAddr rfl off86_0) rfl ?_
  refine Run.opG wantS_none (ex_load1 rfl (hH23.cells (i := 0) rfl 0 rfl) rdLe_rfl agg3) rfl ?_
  refine Run.opG wantS_none (ex_fieldAddr rfl off86_2) rfl ?_
  refine Run.opG wantS_none (ex_load1 rfl (hH23.cells (i := 0) rfl 2 rfl) rdLe_rfl agg3) rfl ?_
  obtain ⟨z25, hz25, h⟩ := bnd_some h
  refine Run.opG wantS_none (ex_quo' rfl rfl hz25) rfl ?_
  refine Run.opG wantS_none (ex_assign rfl) rfl ?_
  refine Run.opsEnd ?_
  cases h
  exact Run.ret Try.func47 rfl (res_tmp rfl res_nil) rfl

theorem mkk47 : makeK Try.prog 47 = none := by kernel_rfl
theorem cal47 : callable Try.prog 47 = true := by kernel_rfl
theorem off86_1 : fieldOff Try.prog 86 1 = some 1 := by kernel_rfl
abbrev search_clock_isValid_post (r : Bool) : SV → Mem → Prop := fun s _ => s = (.bool r)

def search_clock_isValid_3 (F : Nat) (v34 : Bool) : Option (Bool) :=
  some v34

theorem search_clock_isValid_3_ok (F : Nat) : ∀ (v34 : Bool) (Fr : Rd) (M : Mem) (r : Bool) (hH : Has Fr M []), search_clock_isValid_3 F v34 = some r → Run Try.prog ⟨⟨71, [], none⟩, []⟩ 35 (search_clock_isValid_post r) [(34, (.bool v34))] [itemC Try.prog 71 [1, 1, 0] 11, codeC Try.prog 71 [1, 1, 1]] M := by
  intro v34 Fr M r hH h
  rw [search_clock_isValid_3] at h
  refine Run.opG wantS_none (ex_assign rfl) rfl ?_
  refine Run.opsEnd ?_
  cases h
  exact Run.ret Try.func71 rfl (res_tmp rfl res_nil) rfl

def search_clock_isValid_2 (F : Nat) (v23 : Bool) (c22 : S_search_clock) : Option (Bool) :=
  bif v23 then
    some false
  else
    bnd (nz c22.step) fun z31 =>
    bif ((Int.tmod c22.live c22.step) == (0 : Int)) then
      bnd (search_clock_slides F c22) fun r34 =>
      search_clock_isValid_3 F (decide (r34 ≤ (256 : Int)))
    else
      search_clock_isValid_3 F false

theorem search_clock_isValid_2_ok (F : Nat) : ∀ (v23 : Bool) (c22 : S_search_clock) (b22 : Pos) (Fr : Rd) (M : Mem) (r : Bool) (hH : Has Fr M [.obj b22 (.row 86 .whole [(.int .i64 c22.live), (.int .i64 c22.window), (.int .i64 c22.step)])]), search_clock_isValid_2 F v23 c22 = some r → Run Try.prog ⟨⟨71, [], none⟩, []⟩ 35 (search_clock_isValid_post r) [(1, (.ptr b22 0)), (23, (.bool v23))] [codeC Try.prog 71 [1, 0, 1], codeC Try.prog 71 [1, 1]] M := by
  intro v23 c22 b22 Fr M r hH h
  rw [search_clock_isValid_2] at h
  rcases btf (v23) with hc29 | hc29
  · have h := bif_t hc29 h
    refine Run.condT' rfl hc29 ?_
    refine Run.seq (Run.region ?_)
    refine Run.opG wantS_none (ex_assign rfl) rfl ?_
    refine Run.opsEnd ?_
    cases h
    exact Run.ret Try.func71 rfl (res_tmp rfl res_nil) rfl
  · have h := bif_f hc29 h
    refine Run.condF' rfl hc29 ?_
    refine Run.skip (Run.seq (Run.region ?_))
    refine Run.opG wantS_none (ex_fieldAddr rfl off86_0) rfl ?_
    refine Run.opG wantS_none (ex_load1 rfl (hH.cells (i := 0) rfl 0 rfl) rdLe_rfl agg3) rfl ?_
    refine Run.opG wantS_none (ex_fieldAddr rfl off86_2) rfl ?_
    refine Run.opG wantS_none (ex_load1 rfl (hH.cells (i := 0) rfl 2 rfl) rdLe_rfl agg3) rfl ?_
    obtain ⟨z31, hz31, h⟩ := bnd_some h
    refine Run.opG wantS_none (ex_rem' rfl rfl hz31) rfl ?_
    refine Run.opG wantS_none (ex_eql rfl rfl) rfl ?_
    refine Run.opG wantS_none (ex_move rfl) rfl ?_
    rcases btf (((Int.tmod c22.live c22.step) == (0 : Int))) with hc32 | hc32
    · have h := bif_t hc32 h
      refine Run.opG (wantS_yes' rfl rfl hc32) (ex_loadA rfl (hH.cells (i := 0) rfl 0 rfl) rdLe_rfl agg86 rfl rfl rfl) rfl ?_
      obtain ⟨r34, hr34, h⟩ := bnd_some h
      refine Run.callP (wantS_yes' rfl rfl hc32) (ex_call rfl mkk47 cal47) rfl (search_clock_slides_ok F c22 _ _ hr34) ?_
      refine Run.opG (wantS_yes' rfl rfl hc32) (ex_leq rfl rfl) rfl ?_
      refine Run.opG wantS_none (ex_pickT' rfl hc32 rfl rfl) rfl ?_
      exact Run.pick [34] (search_clock_isValid_3_ok F (decide (r34 ≤ (256 : Int))) _ _ _ (hH.pick [] rfl rfl) h)
    · have h := bif_f hc32 h
      refine Run.no (wantS_not' rfl rfl hc32) rfl ?_
      refine Run.no (wantS_not' rfl rfl hc32) rfl ?_
      refine Run.no (wantS_not' rfl rfl hc32) rfl ?_
      refine Run.opG wantS_none (ex_pickF' rfl hc32 rfl rfl) rfl ?_
      exact Run.pick [34] (search_clock_isValid_3_ok F false _ _ _ (hH.pick [] rfl rfl) h)

def search_clock_isValid_1 (F : Nat) (v15 : Bool) (c22 : S_search_clock) : Option (Bool) :=
  bif v15 then
    search_clock_isValid_2 F true c22
  else
    bnd (search_isFrom F (1 : Int) c22.step c22.live) fun r37 =>
    search_clock_isValid_2 F (!r37) c22

theorem search_clock_isValid_1_ok (F : Nat) : ∀ (v15 : Bool) (c22 : S_search_clock) (b22 : Pos) (Fr : Rd) (M : Mem) (r : Bool) (hH : Has Fr M [.obj b22 (.row 86 .whole [(.int .i64 c22.live), (.int .i64 c22.window), (.int .i64 c22.step)])]), search_clock_isValid_1 F v15 c22 = some r → Run Try.prog ⟨⟨71, [], none⟩, []⟩ 35 (search_clock_isValid_post r) [(1, (.ptr b22 0)), (15, (.bool v15))] [itemC Try.prog 71 [1, 0, 0] 13, codeC Try.prog 71 [1, 0, 1], codeC Try.prog 71 [1, 1]] M := by
  intro v15 c22 b22 Fr M r hH h
  rw [search_clock_isValid_1] at h
  refine Run.opG wantS_none (ex_move rfl) rfl ?_
  rcases btf (v15) with hc28 | hc28
  · have h := bif_t hc28 h
    refine Run.no (wantS_not' rfl rfl hc28) rfl ?_
    refine Run.no (wantS_not' rfl rfl hc28) rfl ?_
    refine Run.no (wantS_not' rfl rfl hc28) rfl ?_
    refine Run.no (wantS_not' rfl rfl hc28) rfl ?_
    refine Run.no (wantS_not' rfl rfl hc28) rfl ?_
    refine Run.no (wantS_not' rfl rfl hc28) rfl ?_
    refine Run.opG wantS_none (ex_pickT' rfl hc28 rfl rfl) rfl ?_
    refine Run.opsEnd ?_
    exact Run.pick [1, 23] (search_clock_isValid_2_ok F true c22 b22 _ _ _ hH h)
  · have h := bif_f hc28 h
    refine Run.opG (wantS_yes' rfl rfl hc28) (ex_fieldAddr rfl off86_2) rfl ?_
    refine Run.opG (wantS_yes' rfl rfl hc28) (ex_load1 rfl (hH.cells (i := 0) rfl 2 rfl) rdLe_rfl agg3) rfl ?_
    refine Run.opG (wantS_yes' rfl rfl hc28) (ex_fieldAddr rfl off86_0) rfl ?_
    refine Run.opG (wantS_yes' rfl rfl hc28) (ex_load1 rfl (hH.cells (i := 0) rfl 0 rfl) rdLe_rfl agg3) rfl ?_
    obtain ⟨r37, hr37, h⟩ := bnd_some h
    refine Run.callP (wantS_yes' rfl rfl hc28) (ex_call rfl mkk30 cal30) rfl (search_isFrom_ok F (1 : Int) c22.step c22.live _ _ hr37) ?_
    refine Run.opG (wantS_yes' rfl rfl hc28) (ex_not rfl) rfl ?_
    refine Run.opG wantS_none (ex_pickF' rfl hc28 rfl rfl) rfl ?_
    refine Run.opsEnd ?_
    exact Run.pick [1, 23] (search_clock_isValid_2_ok F (!r37) c22 b22 _ _ _ hH h)

def search_clock_isValid (F : Nat) (a0 : S_search_clock) : Option (Bool) :=
  bnd (search_isFrom F (1 : Int) a0.live (1073741824 : Int)) fun r25 =>
  bif (!r25) then
    search_clock_isValid_1 F true a0
  else
    bnd (search_isFrom F (0 : Int) a0.window (w64 (a0.live - (1 : Int)))) fun r40 =>
    search_clock_isValid_1 F (!r40) a0

theorem search_clock_isValid_ok (F : Nat) (a0 : S_search_clock) (r : Bool) (M : Mem) (h : search_clock_isValid F a0 = some r) : CallsM Try.prog 71 [(.agg [(.int .i64 a0.live), (.int .i64 a0.window), (.int .i64 a0.step)])] M (fun s M' => s = (.bool r) ∧ M' = M) := by
  refine CallsM.plain Try.func71 rfl rfl rfl (show Run _ _ _ (search_clock_isValid_post r) _ _ _ from ?_)
  rw [search_clock_isValid] at h
  have hH := Has.nil (frozen M)
  refine Run.seq (Run.region ?_)
  refine Run.opX wantS_none rfl (ExG.box rfl rfl hH) ?_
  rintro _ M23 ⟨b22, rfl, hH23⟩
  refine Run.opG wantS_none (ex_assign rfl) rfl ?_
  refine Run.opsEnd (Run.seq (Run.seq (Run.region ?_)))
  refine Run.opG wantS_none (ex_fieldAddr rfl off86_0) rfl ?_
  refine Run.opG wantS_none (ex_load1 rfl (hH23.cells (i := 0) rfl 0 rfl) rdLe_rfl agg3) rfl ?_
  obtain ⟨r25, hr25, h⟩ := bnd_some h
  refine Run.callP wantS_none (ex_call rfl mkk30 cal30) rfl (search_isFrom_ok F (1 : Int) a0.live (1073741824 : Int) _ _ hr25) ?_
  refine Run.opG wantS_none (ex_not rfl) rfl ?_
  refine Run.opG wantS_none (ex_move rfl) rfl ?_
  rcases btf ((!r25)) with hc27 | hc27
  · have h := bif_t hc27 h
    refine Run.no (wantS_not' rfl rfl hc27) rfl ?_
    refine Run.no (wantS_not' rfl rfl hc27) rfl ?_
    refine Run.no (wantS_not' rfl rfl hc27) rfl ?_
    refine Run.no (wantS_not' rfl rfl hc27) rfl ?_
    refine Run.no (wantS_not' rfl rfl hc27) rfl ?_
    refine Run.no (wantS_not' rfl rfl hc27) rfl ?_
    refine Run.no (wantS_not' rfl rfl hc27) rfl ?_
    refine Run.opG wantS_none (ex_pickT' rfl hc27 rfl rfl) rfl ?_
    exact Run.pick [1, 15] (search_clock_isValid_1_ok F true a0 b22 _ _ _ hH23 h)
  · have h := bif_f hc27 h
    refine Run.opG (wantS_yes' rfl rfl hc27) (ex_fieldAddr rfl off86_1) rfl ?_
    refine Run.opG (wantS_yes' rfl rfl hc27) (ex_load1 rfl (hH23.cells (i := 0) rfl 1 rfl) rdLe_rfl agg3) rfl ?_
    refine Run.opG (wantS_yes' rfl rfl hc27) (ex_fieldAddr rfl off86_0) rfl ?_
    refine Run.opG (wantS_yes' rfl rfl hc27) (ex_load1 rfl (hH23.cells (i := 0) rfl 0 rfl) rdLe_rfl agg3) rfl ?_
    refine Run.opG (wantS_yes' rfl rfl hc27) (ex_sub rfl rfl) rfl ?_
    obtain ⟨r40, hr40, h⟩ := bnd_some h
    refine Run.callP (wantS_yes' rfl rfl hc27) (ex_call rfl mkk30 cal30) rfl (search_isFrom_ok F (0 : Int) a0.window (w64 (a0.live - (1 : Int))) _ _ hr40) ?_
    refine Run.opG (wantS_yes' rfl rfl hc27) (ex_not rfl) rfl ?_
    refine Run.opG wantS_none (ex_pickF' rfl hc27 rfl rfl) rfl ?_
    exact Run.pick [1, 15] (search_clock_isValid_1_ok F (!r40) a0 b22 _ _ _ hH23 h)

theorem mkk71 : makeK Try.prog 71 = none := by kernel_rfl
theorem cal71 : callable Try.prog 71 = true := by kernel_rfl
theorem mkk72 : makeK Try.prog 72 = none := by kernel_rfl
theorem cal72 : callable Try.prog 72 = true := by kernel_rfl
theorem mkk100 : makeK Try.prog 100 = none := by kernel_rfl
theorem cal100 : callable Try.prog 100 = true := by kernel_rfl
theorem mkk69 : makeK Try.prog 69 = none := by kernel_rfl
theorem cal69 : callable Try.prog 69 = true := by kernel_rfl
theorem mkk99 : makeK Try.prog 99 = none := by kernel_rfl
theorem cal99 : callable Try.prog 99 = true := by kernel_rfl
theorem mkk79 : makeK Try.prog 79 = none := by kernel_rfl
theorem cal79 : callable Try.prog 79 = true := by kernel_rfl
theorem mkk98 : makeK Try.prog 98 = none := by kernel_rfl
theorem cal98 : callable Try.prog 98 = true := by kernel_rfl
abbrev search_clock_fits_post (r : Bool) : SV → Mem → Prop := fun s _ => s = (.bool r)

def search_clock_fits_1 (F : Nat) : Nat → (List S_api_Trigger) → Int → Int → S_search_clock → Option (Bool)
  | 0, _, _, _, _ => none
  | N + 1, v0, v7, v8, c22 =>
    bif (decide (v8 < v7)) then
      bnd (idx v0 v8) fun x26 =>
      bif (decide (c22.live ≤ x26.Time)) then
        some (!(decide ((0 : Int) ≤ v8)))
      else
        (search_clock_fits_1 F N) v0 v7 (w64 (v8 + (1 : Int))) c22
    else
      some (!(decide ((0 : Int) ≤ ((-1) : Int))))

theorem search_clock_fits_1_ok (F : Nat) : ∀ (N : Nat), ∀ (v0 : (List S_api_Trigger)) (v7 v8 : Int) (c22 : S_search_clock) (sv0 : SV) (b22 : Pos) (Fr : Rd) (M : Mem) (r : Bool) (hv0 : Slc Fr 3 (FlatR enc43) sv0 v0) (hH : Has Fr M [.obj b22 (.row 86 .whole [(.int .i64 c22.live), (.int .i64 c22.window), (.int .i64 c22.step)])]), search_clock_fits_1 F N v0 v7 v8 c22 = some r → Run Try.prog ⟨⟨79, [], none⟩, [.mk ⟨99, [], none⟩ 9 (treeOf []) [itemC Try.prog 99 [1, 0] 2, codeC Try.prog 99 [1, 1]], .mk ⟨70, [], none⟩ 11 (treeOf []) [itemC Try.prog 70 [1, 1, 0] 2, codeC Try.prog 70 [1, 1, 1]]]⟩ 19 (search_clock_fits_post r) [(0, sv0), (1, (.fn (.func 98) [] [(.ptr b22 0)])), (7, (.int .i64 v7)), (8, (.int .i64 v8))] [codeC Try.prog 79 [1, 0, 1, 0, 0], loopC Try.prog 79 [1, 0, 1, 0, 0], .inBlock 0, codeC Try.prog 79 [1, 1]] M := by
  intro N
  induction N with
  | zero =>
    intro v0 v7 v8 c22 sv0 b22 Fr M r hv0 hH h
    simp [search_clock_fits_1] at h
  | succ N ih =>
    intro v0 v7 v8 c22 sv0 b22 Fr M r hv0 hH h
    rw [search_clock_fits_1] at h
    refine Run.seq (Run.region ?_)
    refine Run.opG wantS_none (ex_lss rfl rfl) rfl ?_
    refine Run.opsEnd (Run.seq ?_)
    rcases btf ((decide (v8 < v7))) with hc24 | hc24
    · have h := bif_t hc24 h
      refine Run.condT' rfl hc24 ?_
      refine Run.skip (Run.seq (Run.block (Run.seq (Run.region ?_))))
      refine Run.opG wantS_none (ex_move rfl) rfl ?_
      refine Run.opG wantS_none (ex_assign rfl) rfl ?_
      refine Run.opsEnd (Run.seq (Run.region ?_))
      refine Run.opG wantS_none (ex_move rfl) rfl ?_
      refine Run.opG wantS_none (ex_move rfl) rfl ?_
      refine Run.opG wantS_none (ex_move rfl) rfl ?_
      obtain ⟨x26, hx26, h⟩ := bnd_some h
      obtain ⟨p26, o26, _, hx26, hp26, rfl⟩ := sl_elem (P := Try.prog) (t := 38) (kk := .i64) hv0 hx26 els38
      refine Run.opG wantS_none (ex_elX rfl rfl hx26) rfl ?_
      refine Run.opG wantS_none (ex_loadA rfl (hH.ptrF hp26) rdLe_rfl agg43 rfl rfl rfl) rfl ?_
      refine Run.enter wantS_none (ex_closure rfl rfl mkk98 cal98) Try.func98 rfl rfl ?_
      refine Run.seq (Run.region ?_)
      refine Run.opX wantS_none rfl (ExG.box rfl rfl hH) ?_
      rintro _ M29 ⟨b28, rfl, hH29⟩
      refine Run.opG wantS_none (ex_assign rfl) rfl ?_
      refine Run.opsEnd (Run.seq (Run.region ?_))
      refine Run.opG wantS_none (ex_fieldAddr rfl off43_0) rfl ?_
      refine Run.opG wantS_none (ex_load1 rfl (hH29.cells (i := 0) rfl 0 rfl) rdLe_rfl agg3) rfl ?_
      refine Run.opG wantS_none (ex_fieldAddr rfl off86_0) rfl ?_
      refine Run.opG wantS_none (ex_load1 rfl (hH29.cells (i := 1) rfl 0 rfl) rdLe_rfl agg3) rfl ?_
      refine Run.opG wantS_none (ex_geq rfl rfl) rfl ?_
      refine Run.opG wantS_none (ex_assign rfl) rfl ?_
      refine Run.opsEnd ?_
      refine Run.retTo Try.func98 rfl (res_tmp rfl res_nil) rfl ?_
      refine Run.opsEnd ?_
      rcases btf ((decide (c22.live ≤ x26.Time))) with hc30 | hc30
      · have h := bif_t hc30 h
        refine Run.condT' rfl hc30 ?_
        refine Run.seq (Run.region ?_)
        refine Run.opG wantS_none (ex_move rfl) rfl ?_
        refine Run.opG wantS_none (ex_assign rfl) rfl ?_
        refine Run.opsEnd ?_
        refine Run.retTo Try.func79 rfl (res_tmp rfl res_nil) rfl ?_
        refine Run.opG wantS_none (ex_geq rfl rfl) rfl ?_
        refine Run.opG wantS_none (ex_assign rfl) rfl ?_
        refine Run.opsEnd ?_
        refine Run.retTo Try.func99 rfl (res_tmp rfl res_nil) rfl ?_
        refine Run.opG wantS_none (ex_not rfl) rfl ?_
        refine Run.opG wantS_none (ex_assign rfl) rfl ?_
        refine Run.opsEnd ?_
        cases h
        exact Run.ret Try.func70 rfl (res_tmp rfl res_nil) rfl
      · have h := bif_f hc30 h
        refine Run.condF' rfl hc30 ?_
        refine Run.skip (Run.inBlock (Run.region ?_))
        refine Run.opG wantS_none (ex_add rfl rfl) rfl ?_
        refine Run.opG wantS_none (ex_move rfl) rfl ?_
        refine Run.opsEnd (Run.inLoop ?_)
        exact Run.low (.cons (fle_pick [] rfl) (.cons (fle_pick [] rfl) .nil)) (Run.pick [0, 1, 7, 8] (ih v0 v7 (w64 (v8 + (1 : Int))) c22 sv0 b22 _ _ _ hv0 (hH29.pick [1] rfl rfl) h))
    · have h := bif_f hc24 h
      refine Run.condF' rfl hc24 ?_
      refine Run.exit rfl (Run.seq (Run.region ?_))
      refine Run.opG wantS_none (ex_assign rfl) rfl ?_
      refine Run.opsEnd ?_
      refine Run.retTo Try.func79 rfl (res_tmp rfl res_nil) rfl ?_
      refine Run.opG wantS_none (ex_geq rfl rfl) rfl ?_
      refine Run.opG wantS_none (ex_assign rfl) rfl ?_
      refine Run.opsEnd ?_
      refine Run.retTo Try.func99 rfl (res_tmp rfl res_nil) rfl ?_
      refine Run.opG wantS_none (ex_not rfl) rfl ?_
      refine Run.opG wantS_none (ex_assign rfl) rfl ?_
      refine Run.opsEnd ?_
      cases h
      exact Run.ret Try.func70 rfl (res_tmp rfl res_nil) rfl

def search_clock_fits (F : Nat) (a0 : S_search_clock) (a1 : (List S_api_Trigger)) : Option (Bool) :=
  search_clock_fits_1 F F a1 (a1.length : Int) (0 : Int) a0

theorem search_clock_fits_ok (F : Nat) (a0 : S_search_clock) (a1 : (List S_api_Trigger)) (s0 : SV) (r : Bool) (M : Mem) (hs0 : Slc (rd M) 3 (FlatR enc43) s0 a1) (h : search_clock_fits F a0 a1 = some r) : CallsM Try.prog 70 [(.agg [(.int .i64 a0.live), (.int .i64 a0.window), (.int .i64 a0.step)]), s0] M (fun s M' => s = (.bool r) ∧ M' = M) := by
  refine CallsM.plain Try.func70 rfl rfl rfl (show Run _ _ _ (search_clock_fits_post r) _ _ _ from ?_)
  rw [search_clock_fits] at h
  replace hs0 := hs0.mono (rdLe_frozen M) (fun _ _ h => h)
  have hH := Has.nil (frozen M)
  refine Run.seq (Run.region ?_)
  refine Run.opX wantS_none rfl (ExG.box rfl rfl hH) ?_
  rintro _ M23 ⟨b22, rfl, hH23⟩
  refine Run.opG wantS_none (ex_assign rfl) rfl ?_
  refine Run.opsEnd (Run.seq (Run.region ?_))
  refine Run.opG wantS_none (ex_makeFunc rfl rfl) rfl ?_
  refine Run.opG wantS_none (ex_assign rfl) rfl ?_
  refine Run.opsEnd (Run.seq (Run.region ?_))
  refine Run.opG wantS_none (ex_move rfl) rfl ?_
  refine Run.opG wantS_none (ex_move rfl) rfl ?_
  refine Run.enter wantS_none (ex_call rfl mkk99 cal99) Try.func99 rfl rfl ?_
  refine Run.seq (Run.region ?_)
  refine Run.opG wantS_none (ex_assign rfl) rfl ?_
  refine Run.opsEnd (Run.seq (Run.region ?_))
  refine Run.opG wantS_none (ex_move rfl) rfl ?_
  refine Run.opG wantS_none (ex_move rfl) rfl ?_
  refine Run.enter wantS_none (ex_call rfl mkk79 cal79) Try.func79 rfl rfl ?_
  refine Run.seq (Run.region ?_)
  refine Run.opG wantS_none (ex_assign rfl) rfl ?_
  refine Run.opsEnd (Run.seq (Run.seq (Run.region ?_)))
  refine Run.opG wantS_none (ex_move rfl) rfl ?_
  refine Run.opG wantS_none (ex_len' rfl hs0 lenk38) rfl ?_
  refine Run.opG wantS_none (ex_move rfl) rfl ?_
  refine Run.opsEnd (Run.block (Run.loop ?_))
  exact Run.low (.cons (fle_pick [] rfl) (.cons (fle_pick [] rfl) .nil)) (Run.pick [0, 1, 7, 8] (search_clock_fits_1_ok F F a1 (a1.length : Int) (0 : Int) a0 s0 b22 _ _ _ hs0 hH23 h))

theorem mkk70 : makeK Try.prog 70 = none := by kernel_rfl
theorem cal70 : callable Try.prog 70 = true := by kernel_rfl
end Go.Ev.SearchVetoed
