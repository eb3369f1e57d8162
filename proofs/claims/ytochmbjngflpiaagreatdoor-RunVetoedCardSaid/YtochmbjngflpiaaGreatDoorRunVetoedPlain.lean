/- Plain functions that say what functions of the program come to, and proofs of it, written by a program of the verifier's own. -/
import Derived.Test.YtochmbjngflpiaaGreatDoorSort
import Derived.Test.YtochmbjngflpiaaGreatDoorEvL21
import Derived.Test.YtochmbjngflpiaaGreatDoorWorks
import Derived.KernelRfl
namespace Go.Ev.RunVetoed
open Go Go.Ev Go.Proofs
set_option maxRecDepth 100000
set_option linter.unusedVariables false

noncomputable def fixes : List (Nat × List SV) := Go.Proofs.YtochmbjngflpiaaGreatDoor.works.fixes
noncomputable def tb0 : Ent := fixE (5, intCells .u8 [0, 1, 28, 2, 29, 14, 24, 3, 30, 22, 20, 15, 25, 17, 4, 8, 31, 27, 13, 23, 21, 19, 16, 7, 26, 12, 18, 6, 11, 5, 10, 9])
noncomputable def tb1 : Ent := fixE (6, intCells .u8 [0, 1, 56, 2, 57, 49, 28, 3, 61, 58, 42, 50, 38, 29, 17, 4, 62, 47, 59, 36, 45, 43, 51, 22, 53, 39, 33, 30, 24, 18, 12, 5, 63, 55, 48, 27, 60, 41, 37, 16, 46, 35, 44, 21, 52, 32, 23, 11, 54, 26, 40, 15, 34, 20, 31, 10, 25, 14, 19, 9, 13, 8, 7, 6])
noncomputable def tb2 : Ent := fixE (3, intCells .u64 [1, 10, 100, 1000, 10000, 100000, 1000000, 10000000, 100000000, 1000000000, 10000000000, 100000000000, 1000000000000, 10000000000000, 100000000000000, 1000000000000000, 10000000000000000, 100000000000000000, 1000000000000000000, 10000000000000000000])
noncomputable def tb3 : Ent := fixE (0, intCells .i64 [0, 12, 25, 37, 49, 60, 71, 81, 90, 98, 106, 112, 117, 122, 125, 126, 127])
def works (_ : Nat) : Option Bool := some true
theorem fixH {Fr : Rd} {H : List Ent} {M : Mem} (hH : Has Fr M H) (h0 : tb0 ∈ H) (h1 : tb1 ∈ H) (h2 : tb2 ∈ H) (h3 : tb3 ∈ H) : FixIn M fixes := by
 refine hH.fixIn fun x hx => ?_
 simp only [fixes, Go.Proofs.YtochmbjngflpiaaGreatDoor.works.fixes, List.mem_cons, List.not_mem_nil, or_false] at hx
 rcases hx with rfl | rfl | rfl | rfl
 ·exact h0
 ·exact h1
 ·exact h2
 ·exact h3

theorem works_ok (F : Nat) (r : Bool) {Fr : Rd} {H : List Ent} (M : Mem) (hH : Has Fr M H) (h0 : tb0 ∈ H) (h1 : tb1 ∈ H) (h2 : tb2 ∈ H) (h3 : tb3 ∈ H) (h : works F = some r) : CallsM Tryz.prog 9 [] M fun s M' => s = .bool r ∧ M' = M := by
 cases h
 refine CallsM.closedFix (n := 600) (l := Go.Proofs.YtochmbjngflpiaaGreatDoor.works.fixes) Go.Proofs.YtochmbjngflpiaaGreatDoor.works.below Go.Proofs.YtochmbjngflpiaaGreatDoor.works.plainF Go.Proofs.YtochmbjngflpiaaGreatDoor.works.works_true (hH.fixIn fun x hx => ?_)
 simp only [Go.Proofs.YtochmbjngflpiaaGreatDoor.works.fixes, List.mem_cons, List.not_mem_nil, or_false] at hx
 rcases hx with rfl | rfl | rfl | rfl
 ·exact h0
 ·exact h1
 ·exact h2
 ·exact h3


structure S_api_Duty where
 Who : (List UInt8)
 From : Int
 To : Int

structure S_api_Segment where
 From : Int
 To : Int

instance : Inhabited S_api_Segment := ⟨(S_api_Segment.mk (0 : Int) (0 : Int))⟩

structure S_api_Veto where
 Name : (List UInt8)
 Segments : (List S_api_Segment)

structure S__2_api_Veto where
 e0 : (List S_api_Veto)
 e1 : (List S_api_Veto)

structure S__2_int where
 e0 : (List Int)
 e1 : (List Int)

structure S_api_Plan where
 Duties : (List S_api_Duty)
 Work : (List S_api_Segment)
 Vetoes : S__2_api_Veto
 Data : S__2_int

def enc43 (a : S_api_Duty) : List SV := [(.str a.Who), (.int .i64 a.From), (.int .i64 a.To)]
theorem enc43_len (a : S_api_Duty) : (enc43 a).length = 3 := rfl
theorem enc43_ones (a : S_api_Duty) : ones (enc43 a) = true := rfl
def enc106 (a : S_api_Segment) : List SV := [(.int .i64 a.From), (.int .i64 a.To)]
theorem enc106_len (a : S_api_Segment) : (enc106 a).length = 2 := rfl
theorem enc106_ones (a : S_api_Segment) : ones (enc106 a) = true := rfl
def rep127 (f : Rd) (cs : List SV) (a : S_api_Veto) : Prop := ∃ q1, cs = [(.str a.Name), q1] ∧ Slc f 2 (FlatR enc106) q1 a.Segments
theorem rep127_mo {f g : Rd} (h : RdLe f g) {cs : List SV} {a : S_api_Veto} : rep127 f cs a → rep127 g cs a := by
 rintro ⟨q1, rfl, h0⟩
 exact ⟨q1, rfl, h0.mono h (fun _ _ h => h)⟩
theorem rep127_len {f : Rd} {cs : List SV} {a : S_api_Veto} : rep127 f cs a → cs.length = 2 := by
 rintro ⟨_, rfl, h0⟩
 rfl
theorem rep127_ones {f : Rd} {cs : List SV} {a : S_api_Veto} : rep127 f cs a → ones cs = true := by
 rintro ⟨_, rfl, h0⟩
 exact (ones_cons rfl (ones_cons (slc_one h0) ones_nil))
def enc3 (a : Int) : List SV := [(.int .i64 a)]
theorem enc3_len (a : Int) : (enc3 a).length = 1 := rfl
theorem enc3_ones (a : Int) : ones (enc3 a) = true := rfl
abbrev ref00_Mod_post (r : Int) : SV → Mem → Prop := fun s _ => s = (.int .i64 r)

def ref00_Mod_1 (F : Nat) (v0 : Int) : Option (Int) :=
 some v0

theorem ref00_Mod_1_ok (F : Nat) : ∀ (v0 : Int) (Fr : Rd) (M : Mem) (r : Int) (hH : Has Fr M []), ref00_Mod_1 F v0 = some r → Run Tryz.prog ⟨⟨14, [], none⟩, []⟩ 16 (ref00_Mod_post r) [(0, (.int .i64 v0))] [itemC Tryz.prog 14 [1, 1, 1, 1, 0] 0, codeC Tryz.prog 14 [1, 1, 1, 1, 1]] M := by
 intro v0 Fr M r hH h
 rw [ref00_Mod_1] at h
 refine Run.opG wantS_none (ex_move rfl) rfl ?_
 refine Run.opG wantS_none (ex_assign rfl) rfl ?_
 refine Run.opsEnd ?_
 cases h
 exact Run.ret Tryz.func14 rfl (res_tmp rfl res_nil) rfl

def ref00_Mod (F : Nat) (a0 a1 : Int) : Option (Int) :=
 bif (decide (a1 < (1 : Int))) then
  some (0 : Int)
 else
  bnd (nz a1) fun z23 =>
  bif (decide ((Int.tmod a0 a1) < (0 : Int))) then
   ref00_Mod_1 F (w64 ((Int.tmod a0 a1) + a1))
  else
   ref00_Mod_1 F (Int.tmod a0 a1)

theorem ref00_Mod_ok (F : Nat) (a0 a1 r : Int) (M : Mem) (h : ref00_Mod F a0 a1 = some r) : CallsM Tryz.prog 14 [(.int .i64 a0), (.int .i64 a1)] M (fun s M' => s = (.int .i64 r) ∧ M' = M) := by
 refine CallsM.plain Tryz.func14 rfl rfl rfl (show Run _ _ _ (ref00_Mod_post r) _ _ _ from ?_)
 rw [ref00_Mod] at h
 have hH := Has.nil (frozen M)
 refine Run.seq (Run.region ?_)
 refine Run.opG wantS_none (ex_assign rfl) rfl ?_
 refine Run.opsEnd (Run.seq (Run.seq (Run.region ?_)))
 refine Run.opG wantS_none (ex_move rfl) rfl ?_
 refine Run.opG wantS_none (ex_lss rfl rfl) rfl ?_
 refine Run.opsEnd ?_
 rcases btf ((decide (a1 < (1 : Int)))) with hc21 | hc21
 ·have h := bif_t hc21 h
  refine Run.condT' rfl hc21 ?_
  refine Run.seq (Run.region ?_)
  refine Run.opG wantS_none (ex_assign rfl) rfl ?_
  refine Run.opsEnd ?_
  cases h
  exact Run.ret Tryz.func14 rfl (res_tmp rfl res_nil) rfl
 ·have h := bif_f hc21 h
  refine Run.condF' rfl hc21 ?_
  refine Run.skip (Run.seq (Run.region ?_))
  refine Run.opG wantS_none (ex_move rfl) rfl ?_
  refine Run.opG wantS_none (ex_move rfl) rfl ?_
  obtain ⟨z23, hz23, h⟩ := bnd_some h
  refine Run.opG wantS_none (ex_rem' rfl rfl hz23) rfl ?_
  refine Run.opG wantS_none (ex_assign rfl) rfl ?_
  refine Run.opsEnd (Run.seq (Run.seq (Run.region ?_)))
  refine Run.opG wantS_none (ex_move rfl) rfl ?_
  refine Run.opG wantS_none (ex_lss rfl rfl) rfl ?_
  refine Run.opsEnd ?_
  rcases btf ((decide ((Int.tmod a0 a1) < (0 : Int)))) with hc24 | hc24
  ·have h := bif_t hc24 h
   refine Run.condT' rfl hc24 ?_
   refine Run.region ?_
   refine Run.opG wantS_none (ex_move rfl) rfl ?_
   refine Run.opG wantS_none (ex_move rfl) rfl ?_
   refine Run.opG wantS_none (ex_add rfl rfl) rfl ?_
   refine Run.opG wantS_none (ex_assign rfl) rfl ?_
   refine Run.opsEnd (Run.seq (Run.region ?_))
   exact Run.pick [0] (ref00_Mod_1_ok F (w64 ((Int.tmod a0 a1) + a1)) _ _ _ hH h)
  ·have h := bif_f hc24 h
   refine Run.condF' rfl hc24 ?_
   refine Run.skip (Run.seq (Run.region ?_))
   exact Run.pick [0] (ref00_Mod_1_ok F (Int.tmod a0 a1) _ _ _ hH h)

theorem mkk14 : makeK Tryz.prog 14 = none := by kernel_rfl
theorem cal14 : callable Tryz.prog 14 = true := by kernel_rfl
theorem off38_1 : fieldOff Tryz.prog 38 1 = some 1 := by kernel_rfl
theorem sz33 : szOf Tryz.prog 33 = some 1 := by kernel_rfl
theorem agg38 : aggSize Tryz.prog 38 = some (some 6) := by kernel_rfl
def enc4 (a : Bool) : List SV := [(.bool a)]
theorem enc4_len (a : Bool) : (enc4 a).length = 1 := rfl
theorem enc4_ones (a : Bool) : ones (enc4 a) = true := rfl
theorem mkk35 : makeK Tryz.prog 35 = none := by kernel_rfl
theorem cal35 : callable Tryz.prog 35 = true := by kernel_rfl
theorem zer85 : zerosOf Tryz.prog 85 = some [.nils, .nils, .nils, .nils, .nils, .nils] := by kernel_rfl
theorem off38_0 : fieldOff Tryz.prog 38 0 = some 0 := by kernel_rfl
theorem agg32 : aggSize Tryz.prog 32 = some none := by kernel_rfl
theorem agg33 : aggSize Tryz.prog 33 = some none := by kernel_rfl
theorem off38_2 : fieldOff Tryz.prog 38 2 = some 2 := by kernel_rfl
theorem agg35 : aggSize Tryz.prog 35 = some (some 2) := by kernel_rfl
theorem off38_3 : fieldOff Tryz.prog 38 3 = some 4 := by kernel_rfl
theorem agg36 : aggSize Tryz.prog 36 = some (some 2) := by kernel_rfl
theorem pls85 : placesOf Tryz.prog 85 = some (.st [(0, 1), (1, 1), (2, 2), (4, 2)]) := by kernel_rfl
theorem sz85 : szOf Tryz.prog 85 = some 6 := by kernel_rfl
theorem agg85 : aggSize Tryz.prog 85 = some (some 6) := by kernel_rfl
structure S_run_plan where
 duties : (List S_api_Duty)
 work : (List S_api_Segment)
 vetoes : S__2_api_Veto
 data : S__2_int

theorem off85_3 : fieldOff Tryz.prog 85 3 = some 4 := by kernel_rfl
theorem els36 : elems Tryz.prog 36 = some (.arr 2 1) := by kernel_rfl
theorem agg24 : aggSize Tryz.prog 24 = some none := by kernel_rfl
theorem lenk24 : lenK Tryz.prog 24 = some .sl := by kernel_rfl
abbrev run_isFrom_post (r : Bool) : SV → Mem → Prop := fun s _ => s = (.bool r)

def run_isFrom_1 (F : Nat) (v14 : Bool) : Option (Bool) :=
 some v14

theorem run_isFrom_1_ok (F : Nat) : ∀ (v14 : Bool) (Fr : Rd) (M : Mem) (r : Bool) (hH : Has Fr M []), run_isFrom_1 F v14 = some r → Run Tryz.prog ⟨⟨27, [], none⟩, []⟩ 15 (run_isFrom_post r) [(14, (.bool v14))] [itemC Tryz.prog 27 [1, 0] 8, codeC Tryz.prog 27 [1, 1]] M := by
 intro v14 Fr M r hH h
 rw [run_isFrom_1] at h
 refine Run.opG wantS_none (ex_assign rfl) rfl ?_
 refine Run.opsEnd ?_
 cases h
 exact Run.ret Tryz.func27 rfl (res_tmp rfl res_nil) rfl

def run_isFrom (F : Nat) (a0 a1 a2 : Int) : Option (Bool) :=
 bif (decide (a0 ≤ a1)) then
  run_isFrom_1 F (decide (a1 ≤ a2))
 else
  run_isFrom_1 F false

theorem run_isFrom_ok (F : Nat) (a0 a1 a2 : Int) (r : Bool) (M : Mem) (h : run_isFrom F a0 a1 a2 = some r) : CallsM Tryz.prog 27 [(.int .i64 a0), (.int .i64 a1), (.int .i64 a2)] M (fun s M' => s = (.bool r) ∧ M' = M) := by
 refine CallsM.plain Tryz.func27 rfl rfl rfl (show Run _ _ _ (run_isFrom_post r) _ _ _ from ?_)
 rw [run_isFrom] at h
 have hH := Has.nil (frozen M)
 refine Run.seq (Run.region ?_)
 refine Run.opG wantS_none (ex_assign rfl) rfl ?_
 refine Run.opsEnd (Run.seq (Run.region ?_))
 refine Run.opG wantS_none (ex_move rfl) rfl ?_
 refine Run.opG wantS_none (ex_move rfl) rfl ?_
 refine Run.opG wantS_none (ex_leq rfl rfl) rfl ?_
 refine Run.opG wantS_none (ex_move rfl) rfl ?_
 rcases btf ((decide (a0 ≤ a1))) with hc21 | hc21
 ·have h := bif_t hc21 h
  refine Run.opG (wantS_yes' rfl rfl hc21) (ex_move rfl) rfl ?_
  refine Run.opG (wantS_yes' rfl rfl hc21) (ex_move rfl) rfl ?_
  refine Run.opG (wantS_yes' rfl rfl hc21) (ex_leq rfl rfl) rfl ?_
  refine Run.opG wantS_none (ex_pickT' rfl hc21 rfl rfl) rfl ?_
  exact Run.pick [14] (run_isFrom_1_ok F (decide (a1 ≤ a2)) _ _ _ hH h)
 ·have h := bif_f hc21 h
  refine Run.no (wantS_not' rfl rfl hc21) rfl ?_
  refine Run.no (wantS_not' rfl rfl hc21) rfl ?_
  refine Run.no (wantS_not' rfl rfl hc21) rfl ?_
  refine Run.opG wantS_none (ex_pickF' rfl hc21 rfl rfl) rfl ?_
  exact Run.pick [14] (run_isFrom_1_ok F false _ _ _ hH h)

theorem mkk27 : makeK Tryz.prog 27 = none := by kernel_rfl
theorem cal27 : callable Tryz.prog 27 = true := by kernel_rfl
theorem mkk131 : makeK Tryz.prog 131 = none := by kernel_rfl
theorem cal131 : callable Tryz.prog 131 = true := by kernel_rfl
theorem mkk173 : makeK Tryz.prog 173 = none := by kernel_rfl
theorem cal173 : callable Tryz.prog 173 = true := by kernel_rfl
theorem els24 : elems Tryz.prog 24 = some (.sl 1) := by kernel_rfl
theorem agg3 : aggSize Tryz.prog 3 = some none := by kernel_rfl
theorem mkk130 : makeK Tryz.prog 130 = none := by kernel_rfl
theorem cal130 : callable Tryz.prog 130 = true := by kernel_rfl
abbrev run_areValues_f1_post (r : Bool) : SV → Mem → Prop := fun s _ => s = (.bool r)

def run_areValues_f1 (F : Nat) (a0 : Int) : Option (Bool) :=
 bnd (run_isFrom F ((-4096) : Int) a0 (4096 : Int)) fun r22 =>
 some (!r22)

theorem run_areValues_f1_ok (F : Nat) (a0 : Int) (r : Bool) (M : Mem) (h : run_areValues_f1 F a0 = some r) : CallsM Tryz.prog 130 [(.int .i64 a0)] M (fun s M' => s = (.bool r) ∧ M' = M) := by
 refine CallsM.plain Tryz.func130 rfl rfl rfl (show Run _ _ _ (run_areValues_f1_post r) _ _ _ from ?_)
 rw [run_areValues_f1] at h
 have hH := Has.nil (frozen M)
 refine Run.seq (Run.region ?_)
 refine Run.opG wantS_none (ex_assign rfl) rfl ?_
 refine Run.opsEnd (Run.seq (Run.region ?_))
 refine Run.opG wantS_none (ex_move rfl) rfl ?_
 obtain ⟨r22, hr22, h⟩ := bnd_some h
 refine Run.callP wantS_none (ex_call rfl mkk27 cal27) rfl (run_isFrom_ok F ((-4096) : Int) a0 (4096 : Int) _ _ hr22) ?_
 refine Run.opG wantS_none (ex_not rfl) rfl ?_
 refine Run.opG wantS_none (ex_assign rfl) rfl ?_
 refine Run.opsEnd ?_
 cases h
 exact Run.ret Tryz.func130 rfl (res_tmp rfl res_nil) rfl

abbrev run_areValues_post (r : Bool) : SV → Mem → Prop := fun s _ => s = (.bool r)

def run_areValues_1 (F : Nat) : Nat → (List Int) → Int → Int → Option (Bool)
 | 0, _, _, _ => none
 | N + 1, v0, v7, v8 =>
  bif (decide (v8 < v7)) then
   bnd (idx v0 v8) fun x23 =>
   bnd (run_areValues_f1 F x23) fun r25 =>
   bif r25 then
    some (!(decide ((0 : Int) ≤ v8)))
   else
    (run_areValues_1 F N) v0 v7 (w64 (v8 + (1 : Int)))
  else
   some (!(decide ((0 : Int) ≤ ((-1) : Int))))

theorem run_areValues_1_ok (F : Nat) : ∀ (N : Nat), ∀ (v0 : (List Int)) (v7 v8 : Int) (sv0 : SV) (Fr : Rd) (M : Mem) (r : Bool) (hv0 : Slc Fr 1 (FlatR enc3) sv0 v0) (hH : Has Fr M []), run_areValues_1 F N v0 v7 v8 = some r → Run Tryz.prog ⟨⟨173, [], none⟩, [.mk ⟨131, [], none⟩ 9 (treeOf []) [itemC Tryz.prog 131 [1, 0] 2, codeC Tryz.prog 131 [1, 1]], .mk ⟨93, [], none⟩ 8 (treeOf []) [itemC Tryz.prog 93 [1, 1, 0] 2, codeC Tryz.prog 93 [1, 1, 1]]]⟩ 19 (run_areValues_post r) [(0, sv0), (1, (.fn (.func 130) [] [])), (7, (.int .i64 v7)), (8, (.int .i64 v8))] [codeC Tryz.prog 173 [1, 0, 1, 0, 0], loopC Tryz.prog 173 [1, 0, 1, 0, 0], .inBlock 0, codeC Tryz.prog 173 [1, 1]] M := by
 intro N
 induction N with
 | zero =>
  intro v0 v7 v8 sv0 Fr M r hv0 hH h
  simp [run_areValues_1] at h
 | succ N ih =>
  intro v0 v7 v8 sv0 Fr M r hv0 hH h
  rw [run_areValues_1] at h
  refine Run.seq (Run.region ?_)
  refine Run.opG wantS_none (ex_lss rfl rfl) rfl ?_
  refine Run.opsEnd (Run.seq ?_)
  rcases btf ((decide (v8 < v7))) with hc21 | hc21
  ·have h := bif_t hc21 h
   refine Run.condT' rfl hc21 ?_
   refine Run.skip (Run.seq (Run.block (Run.seq (Run.region ?_))))
   refine Run.opG wantS_none (ex_move rfl) rfl ?_
   refine Run.opG wantS_none (ex_assign rfl) rfl ?_
   refine Run.opsEnd (Run.seq (Run.region ?_))
   refine Run.opG wantS_none (ex_move rfl) rfl ?_
   refine Run.opG wantS_none (ex_move rfl) rfl ?_
   refine Run.opG wantS_none (ex_move rfl) rfl ?_
   obtain ⟨x23, hx23, h⟩ := bnd_some h
   obtain ⟨p23, o23, _, hx23, hp23, rfl⟩ := sl_elem (P := Tryz.prog) (t := 24) (kk := .i64) hv0 hx23 els24
   refine Run.opG wantS_none (ex_elX rfl rfl hx23) rfl ?_
   refine Run.opG wantS_none (ex_load1 rfl (hH.ptrF hp23) rdLe_rfl agg3) rfl ?_
   obtain ⟨r25, hr25, h⟩ := bnd_some h
   refine Run.callP wantS_none (ex_closure rfl rfl mkk130 cal130) rfl (run_areValues_f1_ok F x23 _ _ hr25) ?_
   refine Run.opsEnd ?_
   rcases btf (r25) with hc27 | hc27
   ·have h := bif_t hc27 h
    refine Run.condT' rfl hc27 ?_
    refine Run.seq (Run.region ?_)
    refine Run.opG wantS_none (ex_move rfl) rfl ?_
    refine Run.opG wantS_none (ex_assign rfl) rfl ?_
    refine Run.opsEnd ?_
    refine Run.retTo Tryz.func173 rfl (res_tmp rfl res_nil) rfl ?_
    refine Run.opG wantS_none (ex_geq rfl rfl) rfl ?_
    refine Run.opG wantS_none (ex_assign rfl) rfl ?_
    refine Run.opsEnd ?_
    refine Run.retTo Tryz.func131 rfl (res_tmp rfl res_nil) rfl ?_
    refine Run.opG wantS_none (ex_not rfl) rfl ?_
    refine Run.opG wantS_none (ex_assign rfl) rfl ?_
    refine Run.opsEnd ?_
    cases h
    exact Run.ret Tryz.func93 rfl (res_tmp rfl res_nil) rfl
   ·have h := bif_f hc27 h
    refine Run.condF' rfl hc27 ?_
    refine Run.skip (Run.inBlock (Run.region ?_))
    refine Run.opG wantS_none (ex_add rfl rfl) rfl ?_
    refine Run.opG wantS_none (ex_move rfl) rfl ?_
    refine Run.opsEnd (Run.inLoop ?_)
    exact Run.low (.cons (fle_pick [] rfl) (.cons (fle_pick [] rfl) .nil)) (Run.pick [0, 1, 7, 8] (ih v0 v7 (w64 (v8 + (1 : Int))) sv0 _ _ _ hv0 hH h))
  ·have h := bif_f hc21 h
   refine Run.condF' rfl hc21 ?_
   refine Run.exit rfl (Run.seq (Run.region ?_))
   refine Run.opG wantS_none (ex_assign rfl) rfl ?_
   refine Run.opsEnd ?_
   refine Run.retTo Tryz.func173 rfl (res_tmp rfl res_nil) rfl ?_
   refine Run.opG wantS_none (ex_geq rfl rfl) rfl ?_
   refine Run.opG wantS_none (ex_assign rfl) rfl ?_
   refine Run.opsEnd ?_
   refine Run.retTo Tryz.func131 rfl (res_tmp rfl res_nil) rfl ?_
   refine Run.opG wantS_none (ex_not rfl) rfl ?_
   refine Run.opG wantS_none (ex_assign rfl) rfl ?_
   refine Run.opsEnd ?_
   cases h
   exact Run.ret Tryz.func93 rfl (res_tmp rfl res_nil) rfl

def run_areValues (F : Nat) (a0 : (List Int)) : Option (Bool) :=
 run_areValues_1 F F a0 (a0.length : Int) (0 : Int)

theorem run_areValues_ok (F : Nat) (a0 : (List Int)) (s0 : SV) (r : Bool) (M : Mem) (hs0 : Slc (rd M) 1 (FlatR enc3) s0 a0) (h : run_areValues F a0 = some r) : CallsM Tryz.prog 93 [s0] M (fun s M' => s = (.bool r) ∧ M' = M) := by
 refine CallsM.plain Tryz.func93 rfl rfl rfl (show Run _ _ _ (run_areValues_post r) _ _ _ from ?_)
 rw [run_areValues] at h
 replace hs0 := hs0.mono (rdLe_frozen M) (fun _ _ h => h)
 have hH := Has.nil (frozen M)
 refine Run.seq (Run.region ?_)
 refine Run.opG wantS_none (ex_assign rfl) rfl ?_
 refine Run.opsEnd (Run.seq (Run.region ?_))
 refine Run.opG wantS_none (ex_assign rfl) rfl ?_
 refine Run.opsEnd (Run.seq (Run.region ?_))
 refine Run.opG wantS_none (ex_move rfl) rfl ?_
 refine Run.opG wantS_none (ex_move rfl) rfl ?_
 refine Run.enter wantS_none (ex_call rfl mkk131 cal131) Tryz.func131 rfl rfl ?_
 refine Run.seq (Run.region ?_)
 refine Run.opG wantS_none (ex_assign rfl) rfl ?_
 refine Run.opsEnd (Run.seq (Run.region ?_))
 refine Run.opG wantS_none (ex_move rfl) rfl ?_
 refine Run.opG wantS_none (ex_move rfl) rfl ?_
 refine Run.enter wantS_none (ex_call rfl mkk173 cal173) Tryz.func173 rfl rfl ?_
 refine Run.seq (Run.region ?_)
 refine Run.opG wantS_none (ex_assign rfl) rfl ?_
 refine Run.opsEnd (Run.seq (Run.seq (Run.region ?_)))
 refine Run.opG wantS_none (ex_move rfl) rfl ?_
 refine Run.opG wantS_none (ex_len' rfl hs0 lenk24) rfl ?_
 refine Run.opG wantS_none (ex_move rfl) rfl ?_
 refine Run.opsEnd (Run.block (Run.loop ?_))
 exact Run.low (.cons (fle_pick [] rfl) (.cons (fle_pick [] rfl) .nil)) (Run.pick [0, 1, 7, 8] (run_areValues_1_ok F F a0 (a0.length : Int) (0 : Int) s0 _ _ _ hs0 hH h))

theorem mkk93 : makeK Tryz.prog 93 = none := by kernel_rfl
theorem cal93 : callable Tryz.prog 93 = true := by kernel_rfl
abbrev run_areSamples_post (r : Bool) : SV → Mem → Prop := fun s _ => s = (.bool r)

def run_areSamples_3 (F : Nat) (v25 : Bool) : Option (Bool) :=
 some v25

theorem run_areSamples_3_ok (F : Nat) : ∀ (v25 : Bool) (Fr : Rd) (M : Mem) (r : Bool) (hH : Has Fr M []), run_areSamples_3 F v25 = some r → Run Tryz.prog ⟨⟨60, [], none⟩, []⟩ 26 (run_areSamples_post r) [(25, (.bool v25))] [itemC Tryz.prog 60 [1, 1, 0] 19, codeC Tryz.prog 60 [1, 1, 1]] M := by
 intro v25 Fr M r hH h
 rw [run_areSamples_3] at h
 refine Run.opG wantS_none (ex_assign rfl) rfl ?_
 refine Run.opsEnd ?_
 cases h
 exact Run.ret Tryz.func60 rfl (res_tmp rfl res_nil) rfl

def run_areSamples_2 (F : Nat) (v20 : Bool) (c22_0 c22_1 : (List Int)) : Option (Bool) :=
 bif v20 then
  bnd (run_areValues F c22_1) fun r42 =>
  run_areSamples_3 F r42
 else
  run_areSamples_3 F false

theorem run_areSamples_2_ok (F : Nat) : ∀ (v20 : Bool) (c22_0 c22_1 : (List Int)) (sc22_0 sc22_1 : SV) (b22 : Pos) (Fr : Rd) (M : Mem) (r : Bool) (hc22_0 : Slc Fr 1 (FlatR enc3) sc22_0 c22_0) (hc22_1 : Slc Fr 1 (FlatR enc3) sc22_1 c22_1) (hH : Has Fr M [.obj b22 (.row 36 .whole [sc22_0, sc22_1])]), run_areSamples_2 F v20 c22_0 c22_1 = some r → Run Tryz.prog ⟨⟨60, [], none⟩, []⟩ 26 (run_areSamples_post r) [(1, (.ptr b22 0)), (20, (.bool v20))] [itemC Tryz.prog 60 [1, 1, 0] 14, codeC Tryz.prog 60 [1, 1, 1]] M := by
 intro v20 c22_0 c22_1 sc22_0 sc22_1 b22 Fr M r hc22_0 hc22_1 hH h
 rw [run_areSamples_2] at h
 refine Run.opG wantS_none (ex_move rfl) rfl ?_
 rcases btf (v20) with hc38 | hc38
 ·have h := bif_t hc38 h
  refine Run.opG (wantS_yes' rfl rfl hc38) (ex_elX rfl rfl (arr_place (j := 1) rfl els36)) rfl ?_
  refine Run.opG (wantS_yes' rfl rfl hc38) (ex_load1 rfl (hH.cells (i := 0) rfl 1 rfl) rdLe_rfl agg24) rfl ?_
  obtain ⟨r42, hr42, h⟩ := bnd_some h
  refine Run.callP (wantS_yes' rfl rfl hc38) (ex_call rfl mkk93 cal93) rfl (run_areValues_ok F c22_1 sc22_1 _ _ (hH.slcF hc22_1) hr42) ?_
  refine Run.opG wantS_none (ex_pickT' rfl hc38 rfl rfl) rfl ?_
  exact Run.pick [25] (run_areSamples_3_ok F r42 _ _ _ (hH.pick [] rfl rfl) h)
 ·have h := bif_f hc38 h
  refine Run.no (wantS_not' rfl rfl hc38) rfl ?_
  refine Run.no (wantS_not' rfl rfl hc38) rfl ?_
  refine Run.no (wantS_not' rfl rfl hc38) rfl ?_
  refine Run.opG wantS_none (ex_pickF' rfl hc38 rfl rfl) rfl ?_
  exact Run.pick [25] (run_areSamples_3_ok F false _ _ _ (hH.pick [] rfl rfl) h)

def run_areSamples_1 (F : Nat) (v15 : Bool) (c22_0 c22_1 : (List Int)) : Option (Bool) :=
 bif v15 then
  bnd (run_areValues F c22_0) fun r36 =>
  run_areSamples_2 F r36 c22_0 c22_1
 else
  run_areSamples_2 F false c22_0 c22_1

theorem run_areSamples_1_ok (F : Nat) : ∀ (v15 : Bool) (c22_0 c22_1 : (List Int)) (sc22_0 sc22_1 : SV) (b22 : Pos) (Fr : Rd) (M : Mem) (r : Bool) (hc22_0 : Slc Fr 1 (FlatR enc3) sc22_0 c22_0) (hc22_1 : Slc Fr 1 (FlatR enc3) sc22_1 c22_1) (hH : Has Fr M [.obj b22 (.row 36 .whole [sc22_0, sc22_1])]), run_areSamples_1 F v15 c22_0 c22_1 = some r → Run Tryz.prog ⟨⟨60, [], none⟩, []⟩ 26 (run_areSamples_post r) [(1, (.ptr b22 0)), (15, (.bool v15))] [itemC Tryz.prog 60 [1, 1, 0] 9, codeC Tryz.prog 60 [1, 1, 1]] M := by
 intro v15 c22_0 c22_1 sc22_0 sc22_1 b22 Fr M r hc22_0 hc22_1 hH h
 rw [run_areSamples_1] at h
 refine Run.opG wantS_none (ex_move rfl) rfl ?_
 rcases btf (v15) with hc32 | hc32
 ·have h := bif_t hc32 h
  refine Run.opG (wantS_yes' rfl rfl hc32) (ex_elX rfl rfl (arr_place (j := 0) rfl els36)) rfl ?_
  refine Run.opG (wantS_yes' rfl rfl hc32) (ex_load1 rfl (hH.cells (i := 0) rfl 0 rfl) rdLe_rfl agg24) rfl ?_
  obtain ⟨r36, hr36, h⟩ := bnd_some h
  refine Run.callP (wantS_yes' rfl rfl hc32) (ex_call rfl mkk93 cal93) rfl (run_areValues_ok F c22_0 sc22_0 _ _ (hH.slcF hc22_0) hr36) ?_
  refine Run.opG wantS_none (ex_pickT' rfl hc32 rfl rfl) rfl ?_
  exact Run.pick [1, 20] (run_areSamples_2_ok F r36 c22_0 c22_1 sc22_0 sc22_1 b22 _ _ _ hc22_0 hc22_1 hH h)
 ·have h := bif_f hc32 h
  refine Run.no (wantS_not' rfl rfl hc32) rfl ?_
  refine Run.no (wantS_not' rfl rfl hc32) rfl ?_
  refine Run.no (wantS_not' rfl rfl hc32) rfl ?_
  refine Run.opG wantS_none (ex_pickF' rfl hc32 rfl rfl) rfl ?_
  exact Run.pick [1, 20] (run_areSamples_2_ok F false c22_0 c22_1 sc22_0 sc22_1 b22 _ _ _ hc22_0 hc22_1 hH h)

def run_areSamples (F : Nat) (a0 : S__2_int) : Option (Bool) :=
 bnd (run_isFrom F (1 : Int) (a0.e0.length : Int) (512 : Int)) fun r27 =>
 bif r27 then
  run_areSamples_1 F ((a0.e1.length : Int) == (a0.e0.length : Int)) a0.e0 a0.e1
 else
  run_areSamples_1 F false a0.e0 a0.e1

theorem run_areSamples_ok (F : Nat) (a0 : S__2_int) (s0 s1 : SV) (r : Bool) (M : Mem) (hs0 : Slc (rd M) 1 (FlatR enc3) s0 a0.e0) (hs1 : Slc (rd M) 1 (FlatR enc3) s1 a0.e1) (h : run_areSamples F a0 = some r) : CallsM Tryz.prog 60 [(.agg [s0, s1])] M (fun s M' => s = (.bool r) ∧ M' = M) := by
 refine CallsM.plain Tryz.func60 rfl rfl rfl (show Run _ _ _ (run_areSamples_post r) _ _ _ from ?_)
 rw [run_areSamples] at h
 replace hs0 := hs0.mono (rdLe_frozen M) (fun _ _ h => h)
 replace hs1 := hs1.mono (rdLe_frozen M) (fun _ _ h => h)
 have hH := Has.nil (frozen M)
 refine Run.seq (Run.region ?_)
 refine Run.opX wantS_none rfl (ExG.box rfl rfl hH) ?_
 rintro _ M23 ⟨b22, rfl, hH23⟩
 refine Run.opG wantS_none (ex_assign rfl) rfl ?_
 refine Run.opsEnd (Run.seq (Run.region ?_))
 refine Run.opG wantS_none (ex_elX rfl rfl (arr_place (j := 0) rfl els36)) rfl ?_
 refine Run.opG wantS_none (ex_load1 rfl (hH23.cells (i := 0) rfl 0 rfl) rdLe_rfl agg24) rfl ?_
 refine Run.opG wantS_none (ex_len' rfl hs0 lenk24) rfl ?_
 refine Run.opG wantS_none (ex_assign rfl) rfl ?_
 refine Run.opsEnd (Run.seq (Run.region ?_))
 refine Run.opG wantS_none (ex_move rfl) rfl ?_
 obtain ⟨r27, hr27, h⟩ := bnd_some h
 refine Run.callP wantS_none (ex_call rfl mkk27 cal27) rfl (run_isFrom_ok F (1 : Int) (a0.e0.length : Int) (512 : Int) _ _ hr27) ?_
 refine Run.opG wantS_none (ex_move rfl) rfl ?_
 rcases btf (r27) with hc29 | hc29
 ·have h := bif_t hc29 h
  refine Run.opG (wantS_yes' rfl rfl hc29) (ex_elX rfl rfl (arr_place (j := 1) rfl els36)) rfl ?_
  refine Run.opG (wantS_yes' rfl rfl hc29) (ex_load1 rfl (hH23.cells (i := 0) rfl 1 rfl) rdLe_rfl agg24) rfl ?_
  refine Run.opG (wantS_yes' rfl rfl hc29) (ex_len' rfl hs1 lenk24) rfl ?_
  refine Run.opG (wantS_yes' rfl rfl hc29) (ex_move rfl) rfl ?_
  refine Run.opG (wantS_yes' rfl rfl hc29) (ex_eql rfl rfl) rfl ?_
  refine Run.opG wantS_none (ex_pickT' rfl hc29 rfl rfl) rfl ?_
  exact Run.pick [1, 15] (run_areSamples_1_ok F ((a0.e1.length : Int) == (a0.e0.length : Int)) a0.e0 a0.e1 s0 s1 b22 _ _ _ hs0 hs1 hH23 h)
 ·have h := bif_f hc29 h
  refine Run.no (wantS_not' rfl rfl hc29) rfl ?_
  refine Run.no (wantS_not' rfl rfl hc29) rfl ?_
  refine Run.no (wantS_not' rfl rfl hc29) rfl ?_
  refine Run.no (wantS_not' rfl rfl hc29) rfl ?_
  refine Run.no (wantS_not' rfl rfl hc29) rfl ?_
  refine Run.opG wantS_none (ex_pickF' rfl hc29 rfl rfl) rfl ?_
  exact Run.pick [1, 15] (run_areSamples_1_ok F false a0.e0 a0.e1 s0 s1 b22 _ _ _ hs0 hs1 hH23 h)

theorem mkk60 : makeK Tryz.prog 60 = none := by kernel_rfl
theorem cal60 : callable Tryz.prog 60 = true := by kernel_rfl
theorem off85_0 : fieldOff Tryz.prog 85 0 = some 0 := by kernel_rfl
abbrev run_plan_span_post (r : Int) : SV → Mem → Prop := fun s _ => s = (.int .i64 r)

def run_plan_span (F : Nat) (a0 : S_run_plan) : Option (Int) :=
 some (a0.data.e0.length : Int)

theorem run_plan_span_ok (F : Nat) (a0 : S_run_plan) (s0 s1 s2 s3 s4 s5 : SV) (r : Int) (M : Mem) (hs0 : Slc (rd M) 3 (FlatR enc43) s0 a0.duties) (hs1 : Slc (rd M) 2 (FlatR enc106) s1 a0.work) (hs2 : Slc (rd M) 2 (rep127 (rd M)) s2 a0.vetoes.e0) (hs3 : Slc (rd M) 2 (rep127 (rd M)) s3 a0.vetoes.e1) (hs4 : Slc (rd M) 1 (FlatR enc3) s4 a0.data.e0) (hs5 : Slc (rd M) 1 (FlatR enc3) s5 a0.data.e1) (h : run_plan_span F a0 = some r) : CallsM Tryz.prog 37 [(.agg [s0, s1, s2, s3, s4, s5])] M (fun s M' => s = (.int .i64 r) ∧ M' = M) := by
 refine CallsM.plain Tryz.func37 rfl rfl rfl (show Run _ _ _ (run_plan_span_post r) _ _ _ from ?_)
 rw [run_plan_span] at h
 replace hs0 := hs0.mono (rdLe_frozen M) (fun _ _ h => h)
 replace hs1 := hs1.mono (rdLe_frozen M) (fun _ _ h => h)
 replace hs2 := hs2.mono (rdLe_frozen M) (fun _ _ => rep127_mo (rdLe_frozen M))
 replace hs3 := hs3.mono (rdLe_frozen M) (fun _ _ => rep127_mo (rdLe_frozen M))
 replace hs4 := hs4.mono (rdLe_frozen M) (fun _ _ h => h)
 replace hs5 := hs5.mono (rdLe_frozen M) (fun _ _ h => h)
 have hH := Has.nil (frozen M)
 refine Run.seq (Run.region ?_)
 refine Run.opX wantS_none rfl (ExG.box rfl rfl hH) ?_
 rintro _ M23 ⟨b22, rfl, hH23⟩
 refine Run.opG wantS_none (ex_assign rfl) rfl ?_
 refine Run.opsEnd (Run.seq (Run.region ?_))
 refine Run.opG wantS_none (ex_fieldAddr rfl off85_3) rfl ?_
 refine Run.opG wantS_none (ex_elX rfl rfl (arr_place (j := 0) rfl els36)) rfl ?_
 refine Run.opG wantS_none (ex_load1 rfl (hH23.cells (i := 0) rfl 4 rfl) rdLe_rfl agg24) rfl ?_
 refine Run.opG wantS_none (ex_len' rfl hs4 lenk24) rfl ?_
 refine Run.opG wantS_none (ex_assign rfl) rfl ?_
 refine Run.opsEnd ?_
 cases h
 exact Run.ret Tryz.func37 rfl (res_tmp rfl res_nil) rfl

theorem mkk37 : makeK Tryz.prog 37 = none := by kernel_rfl
theorem cal37 : callable Tryz.prog 37 = true := by kernel_rfl
theorem lenk32 : lenK Tryz.prog 32 = some .sl := by kernel_rfl
theorem zer43 : zerosOf Tryz.prog 43 = some [(.str []), (.int .i64 0), (.int .i64 0)] := by kernel_rfl
theorem els32 : elems Tryz.prog 32 = some (.sl 3) := by kernel_rfl
theorem agg43 : aggSize Tryz.prog 43 = some (some 3) := by kernel_rfl
theorem sz43 : szOf Tryz.prog 43 = some 3 := by kernel_rfl
theorem off43_0 : fieldOff Tryz.prog 43 0 = some 0 := by kernel_rfl
theorem agg9 : aggSize Tryz.prog 9 = some none := by kernel_rfl
theorem lenk9 : lenK Tryz.prog 9 = some .str := by kernel_rfl
theorem uvk9_160 : uvK Tryz.prog 9 160 = none := by kernel_rfl
theorem cvk9_160 : cvK Tryz.prog 9 160 = some (.bytes 5) := by kernel_rfl
def enc5 (a : Int) : List SV := [(.int .u8 a)]
theorem enc5_len (a : Int) : (enc5 a).length = 1 := rfl
theorem enc5_ones (a : Int) : ones (enc5 a) = true := rfl
theorem lenk160 : lenK Tryz.prog 160 = some .sl := by kernel_rfl
theorem els160 : elems Tryz.prog 160 = some (.sl 1) := by kernel_rfl
theorem agg5 : aggSize Tryz.prog 5 = some none := by kernel_rfl
abbrev num_IsName_post (r : Bool) : SV → Mem → Prop := fun s _ => s = (.bool r)

def num_IsName_7 (F : Nat) (hd2 : (List Int) → Int → Int → Option (Bool)) (v16 : (List Int)) (v17 v18 : Int) (v48 : Bool) : Option (Bool) :=
 bif v48 then
  some false
 else
  hd2 v16 v17 (w64 (v18 + (1 : Int)))

theorem num_IsName_7_ok (F : Nat) (hd2 : (List Int) → Int → Int → Option (Bool)) (hhd2 : ∀ (v16 : (List Int)) (v17 v18 : Int) (sv16 : SV) (Fr : Rd) (M : Mem) (r : Bool) (hv16 : Slc Fr 1 (FlatR enc5) sv16 v16) (hH : Has Fr M []), hd2 v16 v17 v18 = some r → Run Tryz.prog ⟨⟨70, [], none⟩, []⟩ 50 (num_IsName_post r) [(16, sv16), (17, (.int .i64 v17)), (18, (.int .i64 v18))] [codeC Tryz.prog 70 [1, 1, 0, 1, 0, 0], loopC Tryz.prog 70 [1, 1, 0, 1, 0, 0], .inBlock 0, codeC Tryz.prog 70 [1, 1, 1]] M) : ∀ (v16 : (List Int)) (v17 v18 : Int) (v48 : Bool) (sv16 : SV) (Fr : Rd) (M : Mem) (r : Bool) (hv16 : Slc Fr 1 (FlatR enc5) sv16 v16) (hH : Has Fr M []), num_IsName_7 F hd2 v16 v17 v18 v48 = some r → Run Tryz.prog ⟨⟨70, [], none⟩, []⟩ 50 (num_IsName_post r) [(16, sv16), (17, (.int .i64 v17)), (18, (.int .i64 v18)), (48, (.bool v48))] [codeC Tryz.prog 70 [1, 1, 0, 1, 0, 0, 1, 1, 0, 0, 1, 1, 1, 1], .inBlock 1, codeC Tryz.prog 70 [1, 1, 0, 1, 0, 0, 1, 1, 1], loopC Tryz.prog 70 [1, 1, 0, 1, 0, 0], .inBlock 0, codeC Tryz.prog 70 [1, 1, 1]] M := by
 intro v16 v17 v18 v48 sv16 Fr M r hv16 hH h
 rw [num_IsName_7] at h
 rcases btf (v48) with hc37 | hc37
 ·have h := bif_t hc37 h
  refine Run.condT' rfl hc37 ?_
  refine Run.seq (Run.region ?_)
  refine Run.opG wantS_none (ex_assign rfl) rfl ?_
  refine Run.opsEnd ?_
  cases h
  exact Run.ret Tryz.func70 rfl (res_tmp rfl res_nil) rfl
 ·have h := bif_f hc37 h
  refine Run.condF' rfl hc37 ?_
  refine Run.skip (Run.inBlock (Run.region ?_))
  refine Run.opG wantS_none (ex_add rfl rfl) rfl ?_
  refine Run.opG wantS_none (ex_move rfl) rfl ?_
  refine Run.opsEnd (Run.inLoop ?_)
  exact Run.pick [16, 17, 18] (hhd2 v16 v17 (w64 (v18 + (1 : Int))) sv16 _ _ _ hv16 hH h)

def num_IsName_6 (F : Nat) (hd2 : (List Int) → Int → Int → Option (Bool)) (v16 : (List Int)) (v17 v18 : Int) (v41 v46 : Bool) : Option (Bool) :=
 bif v41 then
  num_IsName_7 F hd2 v16 v17 v18 (!v46)
 else
  num_IsName_7 F hd2 v16 v17 v18 false

theorem num_IsName_6_ok (F : Nat) (hd2 : (List Int) → Int → Int → Option (Bool)) (hhd2 : ∀ (v16 : (List Int)) (v17 v18 : Int) (sv16 : SV) (Fr : Rd) (M : Mem) (r : Bool) (hv16 : Slc Fr 1 (FlatR enc5) sv16 v16) (hH : Has Fr M []), hd2 v16 v17 v18 = some r → Run Tryz.prog ⟨⟨70, [], none⟩, []⟩ 50 (num_IsName_post r) [(16, sv16), (17, (.int .i64 v17)), (18, (.int .i64 v18))] [codeC Tryz.prog 70 [1, 1, 0, 1, 0, 0], loopC Tryz.prog 70 [1, 1, 0, 1, 0, 0], .inBlock 0, codeC Tryz.prog 70 [1, 1, 1]] M) : ∀ (v16 : (List Int)) (v17 v18 : Int) (v41 v46 : Bool) (sv16 : SV) (Fr : Rd) (M : Mem) (r : Bool) (hv16 : Slc Fr 1 (FlatR enc5) sv16 v16) (hH : Has Fr M []), num_IsName_6 F hd2 v16 v17 v18 v41 v46 = some r → Run Tryz.prog ⟨⟨70, [], none⟩, []⟩ 50 (num_IsName_post r) [(16, sv16), (17, (.int .i64 v17)), (18, (.int .i64 v18)), (41, (.bool v41)), (46, (.bool v46))] [itemC Tryz.prog 70 [1, 1, 0, 1, 0, 0, 1, 1, 0, 0, 1, 1, 1, 0] 8, codeC Tryz.prog 70 [1, 1, 0, 1, 0, 0, 1, 1, 0, 0, 1, 1, 1, 1], .inBlock 1, codeC Tryz.prog 70 [1, 1, 0, 1, 0, 0, 1, 1, 1], loopC Tryz.prog 70 [1, 1, 0, 1, 0, 0], .inBlock 0, codeC Tryz.prog 70 [1, 1, 1]] M := by
 intro v16 v17 v18 v41 v46 sv16 Fr M r hv16 hH h
 rw [num_IsName_6] at h
 rcases btf (v41) with hc36 | hc36
 ·have h := bif_t hc36 h
  refine Run.opG (wantS_yes' rfl rfl hc36) (ex_not rfl) rfl ?_
  refine Run.opG wantS_none (ex_pickT' rfl hc36 rfl rfl) rfl ?_
  refine Run.opsEnd ?_
  exact Run.pick [16, 17, 18, 48] (num_IsName_7_ok F hd2 hhd2 v16 v17 v18 (!v46) sv16 _ _ _ hv16 hH h)
 ·have h := bif_f hc36 h
  refine Run.no (wantS_not' rfl rfl hc36) rfl ?_
  refine Run.opG wantS_none (ex_pickF' rfl hc36 rfl rfl) rfl ?_
  refine Run.opsEnd ?_
  exact Run.pick [16, 17, 18, 48] (num_IsName_7_ok F hd2 hhd2 v16 v17 v18 false sv16 _ _ _ hv16 hH h)

def num_IsName_8 (F : Nat) (hd2 : (List Int) → Int → Int → Option (Bool)) (v16 : (List Int)) (v17 v18 : Int) (v41 : Bool) : Option (Bool) :=
 bif v41 then
  none
 else
  num_IsName_7 F hd2 v16 v17 v18 false

theorem num_IsName_8_ok (F : Nat) (hd2 : (List Int) → Int → Int → Option (Bool)) (hhd2 : ∀ (v16 : (List Int)) (v17 v18 : Int) (sv16 : SV) (Fr : Rd) (M : Mem) (r : Bool) (hv16 : Slc Fr 1 (FlatR enc5) sv16 v16) (hH : Has Fr M []), hd2 v16 v17 v18 = some r → Run Tryz.prog ⟨⟨70, [], none⟩, []⟩ 50 (num_IsName_post r) [(16, sv16), (17, (.int .i64 v17)), (18, (.int .i64 v18))] [codeC Tryz.prog 70 [1, 1, 0, 1, 0, 0], loopC Tryz.prog 70 [1, 1, 0, 1, 0, 0], .inBlock 0, codeC Tryz.prog 70 [1, 1, 1]] M) : ∀ (v16 : (List Int)) (v17 v18 : Int) (v41 : Bool) (sv16 : SV) (Fr : Rd) (M : Mem) (r : Bool) (hv16 : Slc Fr 1 (FlatR enc5) sv16 v16) (hH : Has Fr M []), num_IsName_8 F hd2 v16 v17 v18 v41 = some r → Run Tryz.prog ⟨⟨70, [], none⟩, []⟩ 50 (num_IsName_post r) [(16, sv16), (17, (.int .i64 v17)), (18, (.int .i64 v18)), (41, (.bool v41)), (46, (.tuple []))] [itemC Tryz.prog 70 [1, 1, 0, 1, 0, 0, 1, 1, 0, 0, 1, 1, 1, 0] 8, codeC Tryz.prog 70 [1, 1, 0, 1, 0, 0, 1, 1, 0, 0, 1, 1, 1, 1], .inBlock 1, codeC Tryz.prog 70 [1, 1, 0, 1, 0, 0, 1, 1, 1], loopC Tryz.prog 70 [1, 1, 0, 1, 0, 0], .inBlock 0, codeC Tryz.prog 70 [1, 1, 1]] M := by
 intro v16 v17 v18 v41 sv16 Fr M r hv16 hH h
 rw [num_IsName_8] at h
 rcases btf (v41) with hc38 | hc38
 ·have h := bif_t hc38 h
  cases h
 ·have h := bif_f hc38 h
  refine Run.no (wantS_not' rfl rfl hc38) rfl ?_
  refine Run.opG wantS_none (ex_pickF' rfl hc38 rfl rfl) rfl ?_
  refine Run.opsEnd ?_
  exact Run.pick [16, 17, 18, 48] (num_IsName_7_ok F hd2 hhd2 v16 v17 v18 false sv16 _ _ _ hv16 hH h)

def num_IsName_5 (F : Nat) (hd2 : (List Int) → Int → Int → Option (Bool)) (v3 : Int) (v5 : Bool) (v16 : (List Int)) (v17 v18 : Int) (v38 : Bool) : Option (Bool) :=
 bif (!v5) then
  bif v38 then
   num_IsName_6 F hd2 v16 v17 v18 (!v5) (decide ((0 : Int) < v3))
  else
   num_IsName_6 F hd2 v16 v17 v18 (!v5) false
 else
  num_IsName_8 F hd2 v16 v17 v18 (!v5)

theorem num_IsName_5_ok (F : Nat) (hd2 : (List Int) → Int → Int → Option (Bool)) (hhd2 : ∀ (v16 : (List Int)) (v17 v18 : Int) (sv16 : SV) (Fr : Rd) (M : Mem) (r : Bool) (hv16 : Slc Fr 1 (FlatR enc5) sv16 v16) (hH : Has Fr M []), hd2 v16 v17 v18 = some r → Run Tryz.prog ⟨⟨70, [], none⟩, []⟩ 50 (num_IsName_post r) [(16, sv16), (17, (.int .i64 v17)), (18, (.int .i64 v18))] [codeC Tryz.prog 70 [1, 1, 0, 1, 0, 0], loopC Tryz.prog 70 [1, 1, 0, 1, 0, 0], .inBlock 0, codeC Tryz.prog 70 [1, 1, 1]] M) : ∀ (v3 : Int) (v5 : Bool) (v16 : (List Int)) (v17 v18 : Int) (v38 : Bool) (sv16 : SV) (Fr : Rd) (M : Mem) (r : Bool) (hv16 : Slc Fr 1 (FlatR enc5) sv16 v16) (hH : Has Fr M []), num_IsName_5 F hd2 v3 v5 v16 v17 v18 v38 = some r → Run Tryz.prog ⟨⟨70, [], none⟩, []⟩ 50 (num_IsName_post r) [(3, (.int .i64 v3)), (5, (.bool v5)), (16, sv16), (17, (.int .i64 v17)), (18, (.int .i64 v18)), (38, (.bool v38))] [itemC Tryz.prog 70 [1, 1, 0, 1, 0, 0, 1, 1, 0, 0, 1, 1, 0] 10, codeC Tryz.prog 70 [1, 1, 0, 1, 0, 0, 1, 1, 0, 0, 1, 1, 1], .inBlock 1, codeC Tryz.prog 70 [1, 1, 0, 1, 0, 0, 1, 1, 1], loopC Tryz.prog 70 [1, 1, 0, 1, 0, 0], .inBlock 0, codeC Tryz.prog 70 [1, 1, 1]] M := by
 intro v3 v5 v16 v17 v18 v38 sv16 Fr M r hv16 hH h
 rw [num_IsName_5] at h
 refine Run.opG wantS_none (ex_assign rfl) rfl ?_
 refine Run.opsEnd (Run.seq (Run.region ?_))
 refine Run.opG wantS_none (ex_move rfl) rfl ?_
 refine Run.opG wantS_none (ex_not rfl) rfl ?_
 refine Run.opG wantS_none (ex_move rfl) rfl ?_
 rcases btf ((!v5)) with hc34 | hc34
 ·have h := bif_t hc34 h
  refine Run.opG (wantS_yes' rfl rfl hc34) (ex_move rfl) rfl ?_
  refine Run.opG (wantS_yes' rfl rfl hc34) (ex_move rfl) rfl ?_
  rcases btf (v38) with hc35 | hc35
  ·have h := bif_t hc35 h
   refine Run.opG (wantS_yes' rfl rfl hc35) (ex_move rfl) rfl ?_
   refine Run.opG (wantS_yes' rfl rfl hc35) (ex_gtr rfl rfl) rfl ?_
   refine Run.opG (wantS_yes' rfl rfl hc34) (ex_pickT' rfl hc35 rfl rfl) rfl ?_
   exact Run.pick [16, 17, 18, 41, 46] (num_IsName_6_ok F hd2 hhd2 v16 v17 v18 (!v5) (decide ((0 : Int) < v3)) sv16 _ _ _ hv16 hH h)
  ·have h := bif_f hc35 h
   refine Run.no (wantS_not' rfl rfl hc35) rfl ?_
   refine Run.no (wantS_not' rfl rfl hc35) rfl ?_
   refine Run.opG (wantS_yes' rfl rfl hc34) (ex_pickF' rfl hc35 rfl rfl) rfl ?_
   exact Run.pick [16, 17, 18, 41, 46] (num_IsName_6_ok F hd2 hhd2 v16 v17 v18 (!v5) false sv16 _ _ _ hv16 hH h)
 ·have h := bif_f hc34 h
  refine Run.no (wantS_not' rfl rfl hc34) rfl ?_
  refine Run.no (wantS_not' rfl rfl hc34) rfl ?_
  refine Run.no (wantS_skip rfl rfl) rfl ?_
  refine Run.no (wantS_skip rfl rfl) rfl ?_
  refine Run.no (wantS_not' rfl rfl hc34) rfl ?_
  exact Run.pick [16, 17, 18, 41, 46] (num_IsName_8_ok F hd2 hhd2 v16 v17 v18 (!v5) sv16 _ _ _ hv16 hH h)

def num_IsName_4 (F : Nat) (hd2 : (List Int) → Int → Int → Option (Bool)) (v3 v4 : Int) (v5 : Bool) (v16 : (List Int)) (v17 v18 : Int) (v34 : Bool) : Option (Bool) :=
 bif v34 then
  num_IsName_5 F hd2 v3 v5 v16 v17 v18 true
 else
  num_IsName_5 F hd2 v3 v5 v16 v17 v18 (v4 == (95 : Int))

theorem num_IsName_4_ok (F : Nat) (hd2 : (List Int) → Int → Int → Option (Bool)) (hhd2 : ∀ (v16 : (List Int)) (v17 v18 : Int) (sv16 : SV) (Fr : Rd) (M : Mem) (r : Bool) (hv16 : Slc Fr 1 (FlatR enc5) sv16 v16) (hH : Has Fr M []), hd2 v16 v17 v18 = some r → Run Tryz.prog ⟨⟨70, [], none⟩, []⟩ 50 (num_IsName_post r) [(16, sv16), (17, (.int .i64 v17)), (18, (.int .i64 v18))] [codeC Tryz.prog 70 [1, 1, 0, 1, 0, 0], loopC Tryz.prog 70 [1, 1, 0, 1, 0, 0], .inBlock 0, codeC Tryz.prog 70 [1, 1, 1]] M) : ∀ (v3 v4 : Int) (v5 : Bool) (v16 : (List Int)) (v17 v18 : Int) (v34 : Bool) (sv16 : SV) (Fr : Rd) (M : Mem) (r : Bool) (hv16 : Slc Fr 1 (FlatR enc5) sv16 v16) (hH : Has Fr M []), num_IsName_4 F hd2 v3 v4 v5 v16 v17 v18 v34 = some r → Run Tryz.prog ⟨⟨70, [], none⟩, []⟩ 50 (num_IsName_post r) [(3, (.int .i64 v3)), (4, (.int .u8 v4)), (5, (.bool v5)), (16, sv16), (17, (.int .i64 v17)), (18, (.int .i64 v18)), (34, (.bool v34))] [itemC Tryz.prog 70 [1, 1, 0, 1, 0, 0, 1, 1, 0, 0, 1, 1, 0] 6, codeC Tryz.prog 70 [1, 1, 0, 1, 0, 0, 1, 1, 0, 0, 1, 1, 1], .inBlock 1, codeC Tryz.prog 70 [1, 1, 0, 1, 0, 0, 1, 1, 1], loopC Tryz.prog 70 [1, 1, 0, 1, 0, 0], .inBlock 0, codeC Tryz.prog 70 [1, 1, 1]] M := by
 intro v3 v4 v5 v16 v17 v18 v34 sv16 Fr M r hv16 hH h
 rw [num_IsName_4] at h
 refine Run.opG wantS_none (ex_move rfl) rfl ?_
 rcases btf (v34) with hc33 | hc33
 ·have h := bif_t hc33 h
  refine Run.no (wantS_not' rfl rfl hc33) rfl ?_
  refine Run.no (wantS_not' rfl rfl hc33) rfl ?_
  refine Run.opG wantS_none (ex_pickT' rfl hc33 rfl rfl) rfl ?_
  exact Run.pick [3, 5, 16, 17, 18, 38] (num_IsName_5_ok F hd2 hhd2 v3 v5 v16 v17 v18 true sv16 _ _ _ hv16 hH h)
 ·have h := bif_f hc33 h
  refine Run.opG (wantS_yes' rfl rfl hc33) (ex_move rfl) rfl ?_
  refine Run.opG (wantS_yes' rfl rfl hc33) (ex_eql rfl rfl) rfl ?_
  refine Run.opG wantS_none (ex_pickF' rfl hc33 rfl rfl) rfl ?_
  exact Run.pick [3, 5, 16, 17, 18, 38] (num_IsName_5_ok F hd2 hhd2 v3 v5 v16 v17 v18 (v4 == (95 : Int)) sv16 _ _ _ hv16 hH h)

def num_IsName_3 (F : Nat) (hd2 : (List Int) → Int → Int → Option (Bool)) (v3 v4 : Int) (v16 : (List Int)) (v17 v18 : Int) (v28 : Bool) : Option (Bool) :=
 bif (decide ((48 : Int) ≤ v4)) then
  num_IsName_4 F hd2 v3 v4 v28 v16 v17 v18 (decide (v4 ≤ (57 : Int)))
 else
  num_IsName_4 F hd2 v3 v4 v28 v16 v17 v18 false

theorem num_IsName_3_ok (F : Nat) (hd2 : (List Int) → Int → Int → Option (Bool)) (hhd2 : ∀ (v16 : (List Int)) (v17 v18 : Int) (sv16 : SV) (Fr : Rd) (M : Mem) (r : Bool) (hv16 : Slc Fr 1 (FlatR enc5) sv16 v16) (hH : Has Fr M []), hd2 v16 v17 v18 = some r → Run Tryz.prog ⟨⟨70, [], none⟩, []⟩ 50 (num_IsName_post r) [(16, sv16), (17, (.int .i64 v17)), (18, (.int .i64 v18))] [codeC Tryz.prog 70 [1, 1, 0, 1, 0, 0], loopC Tryz.prog 70 [1, 1, 0, 1, 0, 0], .inBlock 0, codeC Tryz.prog 70 [1, 1, 1]] M) : ∀ (v3 v4 : Int) (v16 : (List Int)) (v17 v18 : Int) (v28 : Bool) (sv16 : SV) (Fr : Rd) (M : Mem) (r : Bool) (hv16 : Slc Fr 1 (FlatR enc5) sv16 v16) (hH : Has Fr M []), num_IsName_3 F hd2 v3 v4 v16 v17 v18 v28 = some r → Run Tryz.prog ⟨⟨70, [], none⟩, []⟩ 50 (num_IsName_post r) [(3, (.int .i64 v3)), (4, (.int .u8 v4)), (16, sv16), (17, (.int .i64 v17)), (18, (.int .i64 v18)), (28, (.bool v28))] [itemC Tryz.prog 70 [1, 1, 0, 1, 0, 0, 1, 1, 0, 0, 1, 0] 6, codeC Tryz.prog 70 [1, 1, 0, 1, 0, 0, 1, 1, 0, 0, 1, 1], .inBlock 1, codeC Tryz.prog 70 [1, 1, 0, 1, 0, 0, 1, 1, 1], loopC Tryz.prog 70 [1, 1, 0, 1, 0, 0], .inBlock 0, codeC Tryz.prog 70 [1, 1, 1]] M := by
 intro v3 v4 v16 v17 v18 v28 sv16 Fr M r hv16 hH h
 rw [num_IsName_3] at h
 refine Run.opG wantS_none (ex_assign rfl) rfl ?_
 refine Run.opsEnd (Run.seq (Run.region ?_))
 refine Run.opG wantS_none (ex_move rfl) rfl ?_
 refine Run.opG wantS_none (ex_geq rfl rfl) rfl ?_
 refine Run.opG wantS_none (ex_move rfl) rfl ?_
 rcases btf ((decide ((48 : Int) ≤ v4))) with hc32 | hc32
 ·have h := bif_t hc32 h
  refine Run.opG (wantS_yes' rfl rfl hc32) (ex_move rfl) rfl ?_
  refine Run.opG (wantS_yes' rfl rfl hc32) (ex_leq rfl rfl) rfl ?_
  refine Run.opG wantS_none (ex_pickT' rfl hc32 rfl rfl) rfl ?_
  exact Run.pick [3, 4, 5, 16, 17, 18, 34] (num_IsName_4_ok F hd2 hhd2 v3 v4 v28 v16 v17 v18 (decide (v4 ≤ (57 : Int))) sv16 _ _ _ hv16 hH h)
 ·have h := bif_f hc32 h
  refine Run.no (wantS_not' rfl rfl hc32) rfl ?_
  refine Run.no (wantS_not' rfl rfl hc32) rfl ?_
  refine Run.opG wantS_none (ex_pickF' rfl hc32 rfl rfl) rfl ?_
  exact Run.pick [3, 4, 5, 16, 17, 18, 34] (num_IsName_4_ok F hd2 hhd2 v3 v4 v28 v16 v17 v18 false sv16 _ _ _ hv16 hH h)

def num_IsName_2 (F : Nat) : Nat → (List Int) → Int → Int → Option (Bool)
 | 0, _, _, _ => none
 | N + 1, v16, v17, v18 =>
  bif (decide (v18 < v17)) then
   bnd (idx v16 v18) fun x30 =>
   bif (decide ((97 : Int) ≤ x30)) then
    num_IsName_3 F (num_IsName_2 F N) v18 x30 v16 v17 v18 (decide (x30 ≤ (122 : Int)))
   else
    num_IsName_3 F (num_IsName_2 F N) v18 x30 v16 v17 v18 false
  else
   some true

theorem num_IsName_2_ok (F : Nat) : ∀ (N : Nat), ∀ (v16 : (List Int)) (v17 v18 : Int) (sv16 : SV) (Fr : Rd) (M : Mem) (r : Bool) (hv16 : Slc Fr 1 (FlatR enc5) sv16 v16) (hH : Has Fr M []), num_IsName_2 F N v16 v17 v18 = some r → Run Tryz.prog ⟨⟨70, [], none⟩, []⟩ 50 (num_IsName_post r) [(16, sv16), (17, (.int .i64 v17)), (18, (.int .i64 v18))] [codeC Tryz.prog 70 [1, 1, 0, 1, 0, 0], loopC Tryz.prog 70 [1, 1, 0, 1, 0, 0], .inBlock 0, codeC Tryz.prog 70 [1, 1, 1]] M := by
 intro N
 induction N with
 | zero =>
  intro v16 v17 v18 sv16 Fr M r hv16 hH h
  simp [num_IsName_2] at h
 | succ N ih =>
  intro v16 v17 v18 sv16 Fr M r hv16 hH h
  rw [num_IsName_2] at h
  refine Run.seq (Run.region ?_)
  refine Run.opG wantS_none (ex_lss rfl rfl) rfl ?_
  refine Run.opsEnd (Run.seq ?_)
  rcases btf ((decide (v18 < v17))) with hc28 | hc28
  ·have h := bif_t hc28 h
   refine Run.condT' rfl hc28 ?_
   refine Run.skip (Run.seq (Run.block (Run.seq (Run.region ?_))))
   refine Run.opG wantS_none (ex_move rfl) rfl ?_
   obtain ⟨x30, hx30, h⟩ := bnd_some h
   obtain ⟨p30, o30, _, hx30, hp30, rfl⟩ := sl_elem (P := Tryz.prog) (t := 160) (kk := .i64) hv16 hx30 els160
   refine Run.opG wantS_none (ex_elX rfl rfl hx30) rfl ?_
   refine Run.opG wantS_none (ex_load1 rfl (hH.ptrF hp30) rdLe_rfl agg5) rfl ?_
   refine Run.opG wantS_none (ex_assign rfl) rfl ?_
   refine Run.opG wantS_none (ex_assign rfl) rfl ?_
   refine Run.opsEnd (Run.seq (Run.region ?_))
   refine Run.opG wantS_none (ex_move rfl) rfl ?_
   refine Run.opG wantS_none (ex_geq rfl rfl) rfl ?_
   refine Run.opG wantS_none (ex_move rfl) rfl ?_
   rcases btf ((decide ((97 : Int) ≤ x30))) with hc31 | hc31
   ·have h := bif_t hc31 h
    refine Run.opG (wantS_yes' rfl rfl hc31) (ex_move rfl) rfl ?_
    refine Run.opG (wantS_yes' rfl rfl hc31) (ex_leq rfl rfl) rfl ?_
    refine Run.opG wantS_none (ex_pickT' rfl hc31 rfl rfl) rfl ?_
    exact Run.pick [3, 4, 16, 17, 18, 28] (num_IsName_3_ok F (num_IsName_2 F N) ih v18 x30 v16 v17 v18 (decide (x30 ≤ (122 : Int))) sv16 _ _ _ hv16 hH h)
   ·have h := bif_f hc31 h
    refine Run.no (wantS_not' rfl rfl hc31) rfl ?_
    refine Run.no (wantS_not' rfl rfl hc31) rfl ?_
    refine Run.opG wantS_none (ex_pickF' rfl hc31 rfl rfl) rfl ?_
    exact Run.pick [3, 4, 16, 17, 18, 28] (num_IsName_3_ok F (num_IsName_2 F N) ih v18 x30 v16 v17 v18 false sv16 _ _ _ hv16 hH h)
  ·have h := bif_f hc28 h
   refine Run.condF' rfl hc28 ?_
   refine Run.exit rfl (Run.seq (Run.region ?_))
   refine Run.opG wantS_none (ex_assign rfl) rfl ?_
   refine Run.opsEnd ?_
   cases h
   exact Run.ret Tryz.func70 rfl (res_tmp rfl res_nil) rfl

def num_IsName_1 (F : Nat) (v0 : (List UInt8)) (v14 : Bool) : Option (Bool) :=
 bif v14 then
  some false
 else
  bnd (byt v0) fun l24 =>
  num_IsName_2 F F l24 (l24.length : Int) (0 : Int)

theorem num_IsName_1_ok (F : Nat) : ∀ (v0 : (List UInt8)) (v14 : Bool) (Fr : Rd) (M : Mem) (r : Bool) (hH : Has Fr M []), num_IsName_1 F v0 v14 = some r → Run Tryz.prog ⟨⟨70, [], none⟩, []⟩ 50 (num_IsName_post r) [(0, (.str v0)), (14, (.bool v14))] [codeC Tryz.prog 70 [1, 0, 1], codeC Tryz.prog 70 [1, 1]] M := by
 intro v0 v14 Fr M r hH h
 rw [num_IsName_1] at h
 rcases btf (v14) with hc22 | hc22
 ·have h := bif_t hc22 h
  refine Run.condT' rfl hc22 ?_
  refine Run.seq (Run.region ?_)
  refine Run.opG wantS_none (ex_assign rfl) rfl ?_
  refine Run.opsEnd ?_
  cases h
  exact Run.ret Tryz.func70 rfl (res_tmp rfl res_nil) rfl
 ·have h := bif_f hc22 h
  refine Run.condF' rfl hc22 ?_
  refine Run.skip (Run.seq (Run.seq (Run.region ?_)))
  refine Run.opG wantS_none (ex_move rfl) rfl ?_
  obtain ⟨l24, hl24, h⟩ := bnd_some h
  refine Run.opX wantS_none rfl (ExG.bytes rfl uvk9_160 cvk9_160 hl24 hH) ?_
  rintro _ M25 ⟨b25, rfl, hH25⟩
  refine Run.freezeB (t := 16) (i := 0) (enc := enc5) (fun _ => rfl) hl24 rfl hH25 rfl ?_
  intro F26 M26 hle26 (hH26 : Has F26 M26 [.vec 0 0 0 .nils []]) hf26
  refine Run.opG wantS_none (ex_len' rfl hf26 lenk160) rfl ?_
  refine Run.opG wantS_none (ex_move rfl) rfl ?_
  refine Run.opsEnd (Run.block (Run.loop ?_))
  exact Run.pick [16, 17, 18] (num_IsName_2_ok F F l24 (l24.length : Int) (0 : Int) (.ope b25 0 l24.length 1) _ _ _ hf26 (hH26.pick [] rfl rfl) h)

def num_IsName (F : Nat) (a0 : (List UInt8)) : Option (Bool) :=
 bif ((a0.length : Int) == (0 : Int)) then
  num_IsName_1 F a0 true
 else
  num_IsName_1 F a0 (decide ((16 : Int) < (a0.length : Int)))

theorem num_IsName_ok (F : Nat) (a0 : (List UInt8)) (r : Bool) (M : Mem) (h : num_IsName F a0 = some r) : CallsM Tryz.prog 70 [(.str a0)] M (fun s M' => s = (.bool r) ∧ M' = M) := by
 refine CallsM.plain Tryz.func70 rfl rfl rfl (show Run _ _ _ (num_IsName_post r) _ _ _ from ?_)
 rw [num_IsName] at h
 have hH := Has.nil (frozen M)
 refine Run.seq (Run.region ?_)
 refine Run.opG wantS_none (ex_assign rfl) rfl ?_
 refine Run.opsEnd (Run.seq (Run.seq (Run.region ?_)))
 refine Run.opG wantS_none (ex_move rfl) rfl ?_
 refine Run.opG wantS_none (ex_lenS rfl lenk9) rfl ?_
 refine Run.opG wantS_none (ex_eql rfl rfl) rfl ?_
 refine Run.opG wantS_none (ex_move rfl) rfl ?_
 rcases btf (((a0.length : Int) == (0 : Int))) with hc21 | hc21
 ·have h := bif_t hc21 h
  refine Run.no (wantS_not' rfl rfl hc21) rfl ?_
  refine Run.no (wantS_not' rfl rfl hc21) rfl ?_
  refine Run.no (wantS_not' rfl rfl hc21) rfl ?_
  refine Run.opG wantS_none (ex_pickT' rfl hc21 rfl rfl) rfl ?_
  refine Run.opsEnd ?_
  exact Run.pick [0, 14] (num_IsName_1_ok F a0 true _ _ _ hH h)
 ·have h := bif_f hc21 h
  refine Run.opG (wantS_yes' rfl rfl hc21) (ex_move rfl) rfl ?_
  refine Run.opG (wantS_yes' rfl rfl hc21) (ex_lenS rfl lenk9) rfl ?_
  refine Run.opG (wantS_yes' rfl rfl hc21) (ex_gtr rfl rfl) rfl ?_
  refine Run.opG wantS_none (ex_pickF' rfl hc21 rfl rfl) rfl ?_
  refine Run.opsEnd ?_
  exact Run.pick [0, 14] (num_IsName_1_ok F a0 (decide ((16 : Int) < (a0.length : Int))) _ _ _ hH h)

theorem mkk70 : makeK Tryz.prog 70 = none := by kernel_rfl
theorem cal70 : callable Tryz.prog 70 = true := by kernel_rfl
theorem off43_1 : fieldOff Tryz.prog 43 1 = some 1 := by kernel_rfl
theorem off43_2 : fieldOff Tryz.prog 43 2 = some 2 := by kernel_rfl
abbrev run_areDuties_post (r : Bool) : SV → Mem → Prop := fun s _ => s = (.bool r)

def run_areDuties_4 (F : Nat) (hd1 : Int → (List S_api_Duty) → Int → Int → S_api_Duty → Option (Bool)) (v1 : Int) (v11 : (List S_api_Duty)) (v12 v13 : Int) (v46 : Bool) (c23 c29 : S_api_Duty) : Option (Bool) :=
 bif v46 then
  some false
 else
  hd1 v1 v11 v12 (w64 (v13 + (1 : Int))) c29

theorem run_areDuties_4_ok (F : Nat) (hd1 : Int → (List S_api_Duty) → Int → Int → S_api_Duty → Option (Bool)) (hhd1 : ∀ (v1 : Int) (v11 : (List S_api_Duty)) (v12 v13 : Int) (c23 : S_api_Duty) (sv11 : SV) (b23 : Pos) (Fr : Rd) (M : Mem) (r : Bool) (hv11 : Slc Fr 3 (FlatR enc43) sv11 v11) (hH : Has Fr M [.obj b23 (.row 43 .whole [(.str c23.Who), (.int .i64 c23.From), (.int .i64 c23.To)])]), hd1 v1 v11 v12 v13 c23 = some r → Run Tryz.prog ⟨⟨61, [], none⟩, []⟩ 53 (run_areDuties_post r) [(1, (.int .i64 v1)), (5, (.ptr b23 0)), (11, sv11), (12, (.int .i64 v12)), (13, (.int .i64 v13))] [codeC Tryz.prog 61 [1, 1, 1, 0, 1, 0, 0], loopC Tryz.prog 61 [1, 1, 1, 0, 1, 0, 0], .inBlock 0, codeC Tryz.prog 61 [1, 1, 1, 1]] M) : ∀ (v1 : Int) (v11 : (List S_api_Duty)) (v12 v13 : Int) (v46 : Bool) (c23 c29 : S_api_Duty) (sv11 : SV) (b23 b29 : Pos) (Fr : Rd) (M : Mem) (r : Bool) (hv11 : Slc Fr 3 (FlatR enc43) sv11 v11) (hH : Has Fr M [.obj b23 (.row 43 .whole [(.str c23.Who), (.int .i64 c23.From), (.int .i64 c23.To)]), .obj b29 (.row 43 .whole [(.str c29.Who), (.int .i64 c29.From), (.int .i64 c29.To)])]), run_areDuties_4 F hd1 v1 v11 v12 v13 v46 c23 c29 = some r → Run Tryz.prog ⟨⟨61, [], none⟩, []⟩ 53 (run_areDuties_post r) [(1, (.int .i64 v1)), (5, (.ptr b23 0)), (7, (.ptr b29 0)), (11, sv11), (12, (.int .i64 v12)), (13, (.int .i64 v13)), (46, (.bool v46))] [codeC Tryz.prog 61 [1, 1, 1, 0, 1, 0, 0, 1, 1, 0, 0, 1, 0, 1], codeC Tryz.prog 61 [1, 1, 1, 0, 1, 0, 0, 1, 1, 0, 0, 1, 1], .inBlock 1, codeC Tryz.prog 61 [1, 1, 1, 0, 1, 0, 0, 1, 1, 1], loopC Tryz.prog 61 [1, 1, 1, 0, 1, 0, 0], .inBlock 0, codeC Tryz.prog 61 [1, 1, 1, 1]] M := by
 intro v1 v11 v12 v13 v46 c23 c29 sv11 b23 b29 Fr M r hv11 hH h
 rw [run_areDuties_4] at h
 rcases btf (v46) with hc38 | hc38
 ·have h := bif_t hc38 h
  refine Run.condT' rfl hc38 ?_
  refine Run.seq (Run.region ?_)
  refine Run.opG wantS_none (ex_assign rfl) rfl ?_
  refine Run.opsEnd ?_
  cases h
  exact Run.ret Tryz.func61 rfl (res_tmp rfl res_nil) rfl
 ·have h := bif_f hc38 h
  refine Run.condF' rfl hc38 ?_
  refine Run.skip (Run.region ?_)
  refine Run.opG wantS_none (ex_loadA rfl (hH.cells (i := 1) rfl 0 rfl) rdLe_rfl agg43 rfl rfl rfl) rfl ?_
  refine Run.opX wantS_none rfl (ExG.storeC (c' := [(.str c29.Who), (.int .i64 c29.From), (.int .i64 c29.To)]) rfl rfl rfl hH (i := 0) rfl sz43 rfl rfl rfl rfl rfl) ?_
  rintro _ M39 ⟨rfl, (hH39 : Has Fr M39 [.obj b23 (.row 43 .whole [(.str c29.Who), (.int .i64 c29.From), (.int .i64 c29.To)]), .obj b29 (.row 43 .whole [(.str c29.Who), (.int .i64 c29.From), (.int .i64 c29.To)])])⟩
  refine Run.opsEnd (Run.inBlock (Run.region ?_))
  refine Run.opG wantS_none (ex_add rfl rfl) rfl ?_
  refine Run.opG wantS_none (ex_move rfl) rfl ?_
  refine Run.opsEnd (Run.inLoop ?_)
  exact Run.pick [1, 5, 11, 12, 13] (hhd1 v1 v11 v12 (w64 (v13 + (1 : Int))) c29 sv11 b23 _ _ _ hv11 (hH39.pick [0] rfl rfl) h)

def run_areDuties_3 (F : Nat) (hd1 : Int → (List S_api_Duty) → Int → Int → S_api_Duty → Option (Bool)) (v1 : Int) (v11 : (List S_api_Duty)) (v12 v13 : Int) (v34 : Bool) (c23 c29 : S_api_Duty) : Option (Bool) :=
 bif v34 then
  run_areDuties_4 F hd1 v1 v11 v12 v13 true c23 c29
 else
  bnd (run_isFrom F (w64 (c29.From + (1 : Int))) c29.To (w64 (c29.From + (128 : Int)))) fun r41 =>
  run_areDuties_4 F hd1 v1 v11 v12 v13 (!r41) c23 c29

theorem run_areDuties_3_ok (F : Nat) (hd1 : Int → (List S_api_Duty) → Int → Int → S_api_Duty → Option (Bool)) (hhd1 : ∀ (v1 : Int) (v11 : (List S_api_Duty)) (v12 v13 : Int) (c23 : S_api_Duty) (sv11 : SV) (b23 : Pos) (Fr : Rd) (M : Mem) (r : Bool) (hv11 : Slc Fr 3 (FlatR enc43) sv11 v11) (hH : Has Fr M [.obj b23 (.row 43 .whole [(.str c23.Who), (.int .i64 c23.From), (.int .i64 c23.To)])]), hd1 v1 v11 v12 v13 c23 = some r → Run Tryz.prog ⟨⟨61, [], none⟩, []⟩ 53 (run_areDuties_post r) [(1, (.int .i64 v1)), (5, (.ptr b23 0)), (11, sv11), (12, (.int .i64 v12)), (13, (.int .i64 v13))] [codeC Tryz.prog 61 [1, 1, 1, 0, 1, 0, 0], loopC Tryz.prog 61 [1, 1, 1, 0, 1, 0, 0], .inBlock 0, codeC Tryz.prog 61 [1, 1, 1, 1]] M) : ∀ (v1 : Int) (v11 : (List S_api_Duty)) (v12 v13 : Int) (v34 : Bool) (c23 c29 : S_api_Duty) (sv11 : SV) (b23 b29 : Pos) (Fr : Rd) (M : Mem) (r : Bool) (hv11 : Slc Fr 3 (FlatR enc43) sv11 v11) (hH : Has Fr M [.obj b23 (.row 43 .whole [(.str c23.Who), (.int .i64 c23.From), (.int .i64 c23.To)]), .obj b29 (.row 43 .whole [(.str c29.Who), (.int .i64 c29.From), (.int .i64 c29.To)])]), run_areDuties_3 F hd1 v1 v11 v12 v13 v34 c23 c29 = some r → Run Tryz.prog ⟨⟨61, [], none⟩, []⟩ 53 (run_areDuties_post r) [(1, (.int .i64 v1)), (5, (.ptr b23 0)), (7, (.ptr b29 0)), (11, sv11), (12, (.int .i64 v12)), (13, (.int .i64 v13)), (34, (.bool v34))] [itemC Tryz.prog 61 [1, 1, 1, 0, 1, 0, 0, 1, 1, 0, 0, 1, 0, 0] 18, codeC Tryz.prog 61 [1, 1, 1, 0, 1, 0, 0, 1, 1, 0, 0, 1, 0, 1], codeC Tryz.prog 61 [1, 1, 1, 0, 1, 0, 0, 1, 1, 0, 0, 1, 1], .inBlock 1, codeC Tryz.prog 61 [1, 1, 1, 0, 1, 0, 0, 1, 1, 1], loopC Tryz.prog 61 [1, 1, 1, 0, 1, 0, 0], .inBlock 0, codeC Tryz.prog 61 [1, 1, 1, 1]] M := by
 intro v1 v11 v12 v13 v34 c23 c29 sv11 b23 b29 Fr M r hv11 hH h
 rw [run_areDuties_3] at h
 refine Run.opG wantS_none (ex_move rfl) rfl ?_
 rcases btf (v34) with hc37 | hc37
 ·have h := bif_t hc37 h
  refine Run.no (wantS_not' rfl rfl hc37) rfl ?_
  refine Run.no (wantS_not' rfl rfl hc37) rfl ?_
  refine Run.no (wantS_not' rfl rfl hc37) rfl ?_
  refine Run.no (wantS_not' rfl rfl hc37) rfl ?_
  refine Run.no (wantS_not' rfl rfl hc37) rfl ?_
  refine Run.no (wantS_not' rfl rfl hc37) rfl ?_
  refine Run.no (wantS_not' rfl rfl hc37) rfl ?_
  refine Run.no (wantS_not' rfl rfl hc37) rfl ?_
  refine Run.no (wantS_not' rfl rfl hc37) rfl ?_
  refine Run.no (wantS_not' rfl rfl hc37) rfl ?_
  refine Run.opG wantS_none (ex_pickT' rfl hc37 rfl rfl) rfl ?_
  refine Run.opsEnd ?_
  exact Run.pick [1, 5, 7, 11, 12, 13, 46] (run_areDuties_4_ok F hd1 hhd1 v1 v11 v12 v13 true c23 c29 sv11 b23 b29 _ _ _ hv11 hH h)
 ·have h := bif_f hc37 h
  refine Run.opG (wantS_yes' rfl rfl hc37) (ex_fieldAddr rfl off43_1) rfl ?_
  refine Run.opG (wantS_yes' rfl rfl hc37) (ex_load1 rfl (hH.cells (i := 1) rfl 1 rfl) rdLe_rfl agg3) rfl ?_
  refine Run.opG (wantS_yes' rfl rfl hc37) (ex_add rfl rfl) rfl ?_
  refine Run.opG (wantS_yes' rfl rfl hc37) (ex_fieldAddr rfl off43_2) rfl ?_
  refine Run.opG (wantS_yes' rfl rfl hc37) (ex_load1 rfl (hH.cells (i := 1) rfl 2 rfl) rdLe_rfl agg3) rfl ?_
  refine Run.opG (wantS_yes' rfl rfl hc37) (ex_fieldAddr rfl off43_1) rfl ?_
  refine Run.opG (wantS_yes' rfl rfl hc37) (ex_load1 rfl (hH.cells (i := 1) rfl 1 rfl) rdLe_rfl agg3) rfl ?_
  refine Run.opG (wantS_yes' rfl rfl hc37) (ex_add rfl rfl) rfl ?_
  obtain ⟨r41, hr41, h⟩ := bnd_some h
  refine Run.callP (wantS_yes' rfl rfl hc37) (ex_call rfl mkk27 cal27) rfl (run_isFrom_ok F (w64 (c29.From + (1 : Int))) c29.To (w64 (c29.From + (128 : Int))) _ _ hr41) ?_
  refine Run.opG (wantS_yes' rfl rfl hc37) (ex_not rfl) rfl ?_
  refine Run.opG wantS_none (ex_pickF' rfl hc37 rfl rfl) rfl ?_
  refine Run.opsEnd ?_
  exact Run.pick [1, 5, 7, 11, 12, 13, 46] (run_areDuties_4_ok F hd1 hhd1 v1 v11 v12 v13 (!r41) c23 c29 sv11 b23 b29 _ _ _ hv11 hH h)

def run_areDuties_2 (F : Nat) (hd1 : Int → (List S_api_Duty) → Int → Int → S_api_Duty → Option (Bool)) (v1 : Int) (v11 : (List S_api_Duty)) (v12 v13 : Int) (v27 : Bool) (c23 c29 : S_api_Duty) : Option (Bool) :=
 bif v27 then
  run_areDuties_3 F hd1 v1 v11 v12 v13 true c23 c29
 else
  run_areDuties_3 F hd1 v1 v11 v12 v13 (!(c29.From == c23.To)) c23 c29

theorem run_areDuties_2_ok (F : Nat) (hd1 : Int → (List S_api_Duty) → Int → Int → S_api_Duty → Option (Bool)) (hhd1 : ∀ (v1 : Int) (v11 : (List S_api_Duty)) (v12 v13 : Int) (c23 : S_api_Duty) (sv11 : SV) (b23 : Pos) (Fr : Rd) (M : Mem) (r : Bool) (hv11 : Slc Fr 3 (FlatR enc43) sv11 v11) (hH : Has Fr M [.obj b23 (.row 43 .whole [(.str c23.Who), (.int .i64 c23.From), (.int .i64 c23.To)])]), hd1 v1 v11 v12 v13 c23 = some r → Run Tryz.prog ⟨⟨61, [], none⟩, []⟩ 53 (run_areDuties_post r) [(1, (.int .i64 v1)), (5, (.ptr b23 0)), (11, sv11), (12, (.int .i64 v12)), (13, (.int .i64 v13))] [codeC Tryz.prog 61 [1, 1, 1, 0, 1, 0, 0], loopC Tryz.prog 61 [1, 1, 1, 0, 1, 0, 0], .inBlock 0, codeC Tryz.prog 61 [1, 1, 1, 1]] M) : ∀ (v1 : Int) (v11 : (List S_api_Duty)) (v12 v13 : Int) (v27 : Bool) (c23 c29 : S_api_Duty) (sv11 : SV) (b23 b29 : Pos) (Fr : Rd) (M : Mem) (r : Bool) (hv11 : Slc Fr 3 (FlatR enc43) sv11 v11) (hH : Has Fr M [.obj b23 (.row 43 .whole [(.str c23.Who), (.int .i64 c23.From), (.int .i64 c23.To)]), .obj b29 (.row 43 .whole [(.str c29.Who), (.int .i64 c29.From), (.int .i64 c29.To)])]), run_areDuties_2 F hd1 v1 v11 v12 v13 v27 c23 c29 = some r → Run Tryz.prog ⟨⟨61, [], none⟩, []⟩ 53 (run_areDuties_post r) [(1, (.int .i64 v1)), (5, (.ptr b23 0)), (7, (.ptr b29 0)), (11, sv11), (12, (.int .i64 v12)), (13, (.int .i64 v13)), (27, (.bool v27))] [itemC Tryz.prog 61 [1, 1, 1, 0, 1, 0, 0, 1, 1, 0, 0, 1, 0, 0] 11, codeC Tryz.prog 61 [1, 1, 1, 0, 1, 0, 0, 1, 1, 0, 0, 1, 0, 1], codeC Tryz.prog 61 [1, 1, 1, 0, 1, 0, 0, 1, 1, 0, 0, 1, 1], .inBlock 1, codeC Tryz.prog 61 [1, 1, 1, 0, 1, 0, 0, 1, 1, 1], loopC Tryz.prog 61 [1, 1, 1, 0, 1, 0, 0], .inBlock 0, codeC Tryz.prog 61 [1, 1, 1, 1]] M := by
 intro v1 v11 v12 v13 v27 c23 c29 sv11 b23 b29 Fr M r hv11 hH h
 rw [run_areDuties_2] at h
 refine Run.opG wantS_none (ex_move rfl) rfl ?_
 rcases btf (v27) with hc36 | hc36
 ·have h := bif_t hc36 h
  refine Run.no (wantS_not' rfl rfl hc36) rfl ?_
  refine Run.no (wantS_not' rfl rfl hc36) rfl ?_
  refine Run.no (wantS_not' rfl rfl hc36) rfl ?_
  refine Run.no (wantS_not' rfl rfl hc36) rfl ?_
  refine Run.no (wantS_not' rfl rfl hc36) rfl ?_
  refine Run.opG wantS_none (ex_pickT' rfl hc36 rfl rfl) rfl ?_
  exact Run.pick [1, 5, 7, 11, 12, 13, 34] (run_areDuties_3_ok F hd1 hhd1 v1 v11 v12 v13 true c23 c29 sv11 b23 b29 _ _ _ hv11 hH h)
 ·have h := bif_f hc36 h
  refine Run.opG (wantS_yes' rfl rfl hc36) (ex_fieldAddr rfl off43_1) rfl ?_
  refine Run.opG (wantS_yes' rfl rfl hc36) (ex_load1 rfl (hH.cells (i := 1) rfl 1 rfl) rdLe_rfl agg3) rfl ?_
  refine Run.opG (wantS_yes' rfl rfl hc36) (ex_fieldAddr rfl off43_2) rfl ?_
  refine Run.opG (wantS_yes' rfl rfl hc36) (ex_load1 rfl (hH.cells (i := 0) rfl 2 rfl) rdLe_rfl agg3) rfl ?_
  refine Run.opG (wantS_yes' rfl rfl hc36) (ex_neq rfl rfl) rfl ?_
  refine Run.opG wantS_none (ex_pickF' rfl hc36 rfl rfl) rfl ?_
  exact Run.pick [1, 5, 7, 11, 12, 13, 34] (run_areDuties_3_ok F hd1 hhd1 v1 v11 v12 v13 (!(c29.From == c23.To)) c23 c29 sv11 b23 b29 _ _ _ hv11 hH h)

def run_areDuties_1 (F : Nat) : Nat → Int → (List S_api_Duty) → Int → Int → S_api_Duty → Option (Bool)
 | 0, _, _, _, _, _ => none
 | N + 1, v1, v11, v12, v13, c23 =>
  bif (decide (v13 < v12)) then
   bnd (idx v11 v13) fun x27 =>
   bnd (num_IsName F x27.Who) fun r33 =>
   bif (!r33) then
    run_areDuties_2 F (run_areDuties_1 F N) v1 v11 v12 v13 true c23 x27
   else
    run_areDuties_2 F (run_areDuties_1 F N) v1 v11 v12 v13 (x27.Who == c23.Who) c23 x27
  else
   some (c23.To == v1)

theorem run_areDuties_1_ok (F : Nat) : ∀ (N : Nat), ∀ (v1 : Int) (v11 : (List S_api_Duty)) (v12 v13 : Int) (c23 : S_api_Duty) (sv11 : SV) (b23 : Pos) (Fr : Rd) (M : Mem) (r : Bool) (hv11 : Slc Fr 3 (FlatR enc43) sv11 v11) (hH : Has Fr M [.obj b23 (.row 43 .whole [(.str c23.Who), (.int .i64 c23.From), (.int .i64 c23.To)])]), run_areDuties_1 F N v1 v11 v12 v13 c23 = some r → Run Tryz.prog ⟨⟨61, [], none⟩, []⟩ 53 (run_areDuties_post r) [(1, (.int .i64 v1)), (5, (.ptr b23 0)), (11, sv11), (12, (.int .i64 v12)), (13, (.int .i64 v13))] [codeC Tryz.prog 61 [1, 1, 1, 0, 1, 0, 0], loopC Tryz.prog 61 [1, 1, 1, 0, 1, 0, 0], .inBlock 0, codeC Tryz.prog 61 [1, 1, 1, 1]] M := by
 intro N
 induction N with
 | zero =>
  intro v1 v11 v12 v13 c23 sv11 b23 Fr M r hv11 hH h
  simp [run_areDuties_1] at h
 | succ N ih =>
  intro v1 v11 v12 v13 c23 sv11 b23 Fr M r hv11 hH h
  rw [run_areDuties_1] at h
  refine Run.seq (Run.region ?_)
  refine Run.opG wantS_none (ex_lss rfl rfl) rfl ?_
  refine Run.opsEnd (Run.seq ?_)
  rcases btf ((decide (v13 < v12))) with hc25 | hc25
  ·have h := bif_t hc25 h
   refine Run.condT' rfl hc25 ?_
   refine Run.skip (Run.seq (Run.block (Run.seq (Run.region ?_))))
   obtain ⟨x27, hx27, h⟩ := bnd_some h
   obtain ⟨p27, o27, _, hx27, hp27, rfl⟩ := sl_elem (P := Tryz.prog) (t := 32) (kk := .i64) hv11 hx27 els32
   refine Run.opG wantS_none (ex_elX rfl rfl hx27) rfl ?_
   refine Run.opG wantS_none (ex_loadA rfl (hH.ptrF hp27) rdLe_rfl agg43 rfl rfl rfl) rfl ?_
   refine Run.opX wantS_none rfl (ExG.new (v := fun b => .ptr b 0) (ex_alloc zer43) hH) ?_
   rintro _ M30 ⟨b29, rfl, hH30⟩
   refine Run.opX wantS_none rfl (ExG.storeC (c' := [(.str x27.Who), (.int .i64 x27.From), (.int .i64 x27.To)]) rfl rfl rfl hH30 (i := 0) rfl sz43 rfl rfl rfl rfl rfl) ?_
   rintro _ M31 ⟨rfl, (hH31 : Has Fr M31 [.obj b29 (.row 43 .whole [(.str x27.Who), (.int .i64 x27.From), (.int .i64 x27.To)]), .obj b23 (.row 43 .whole [(.str c23.Who), (.int .i64 c23.From), (.int .i64 c23.To)])])⟩
   refine Run.opsEnd (Run.seq (Run.seq (Run.region ?_)))
   refine Run.opG wantS_none (ex_fieldAddr rfl off43_0) rfl ?_
   refine Run.opG wantS_none (ex_load1 rfl (hH31.cells (i := 0) rfl 0 rfl) rdLe_rfl agg9) rfl ?_
   obtain ⟨r33, hr33, h⟩ := bnd_some h
   refine Run.callP wantS_none (ex_call rfl mkk70 cal70) rfl (num_IsName_ok F x27.Who _ _ hr33) ?_
   refine Run.opG wantS_none (ex_not rfl) rfl ?_
   refine Run.opG wantS_none (ex_move rfl) rfl ?_
   rcases btf ((!r33)) with hc35 | hc35
   ·have h := bif_t hc35 h
    refine Run.no (wantS_not' rfl rfl hc35) rfl ?_
    refine Run.no (wantS_not' rfl rfl hc35) rfl ?_
    refine Run.no (wantS_not' rfl rfl hc35) rfl ?_
    refine Run.no (wantS_not' rfl rfl hc35) rfl ?_
    refine Run.no (wantS_not' rfl rfl hc35) rfl ?_
    refine Run.opG wantS_none (ex_pickT' rfl hc35 rfl rfl) rfl ?_
    exact Run.pick [1, 5, 7, 11, 12, 13, 27] (run_areDuties_2_ok F (run_areDuties_1 F N) ih v1 v11 v12 v13 true c23 x27 sv11 b23 b29 _ _ _ hv11 (hH31.pick [1, 0] rfl rfl) h)
   ·have h := bif_f hc35 h
    refine Run.opG (wantS_yes' rfl rfl hc35) (ex_fieldAddr rfl off43_0) rfl ?_
    refine Run.opG (wantS_yes' rfl rfl hc35) (ex_load1 rfl (hH31.cells (i := 0) rfl 0 rfl) rdLe_rfl agg9) rfl ?_
    refine Run.opG (wantS_yes' rfl rfl hc35) (ex_fieldAddr rfl off43_0) rfl ?_
    refine Run.opG (wantS_yes' rfl rfl hc35) (ex_load1 rfl (hH31.cells (i := 1) rfl 0 rfl) rdLe_rfl agg9) rfl ?_
    refine Run.opG (wantS_yes' rfl rfl hc35) (ex_eqlS rfl rfl) rfl ?_
    refine Run.opG wantS_none (ex_pickF' rfl hc35 rfl rfl) rfl ?_
    exact Run.pick [1, 5, 7, 11, 12, 13, 27] (run_areDuties_2_ok F (run_areDuties_1 F N) ih v1 v11 v12 v13 (x27.Who == c23.Who) c23 x27 sv11 b23 b29 _ _ _ hv11 (hH31.pick [1, 0] rfl rfl) h)
  ·have h := bif_f hc25 h
   refine Run.condF' rfl hc25 ?_
   refine Run.exit rfl (Run.seq (Run.region ?_))
   refine Run.opG wantS_none (ex_fieldAddr rfl off43_2) rfl ?_
   refine Run.opG wantS_none (ex_load1 rfl (hH.cells (i := 0) rfl 2 rfl) rdLe_rfl agg3) rfl ?_
   refine Run.opG wantS_none (ex_move rfl) rfl ?_
   refine Run.opG wantS_none (ex_eql rfl rfl) rfl ?_
   refine Run.opG wantS_none (ex_assign rfl) rfl ?_
   refine Run.opsEnd ?_
   cases h
   exact Run.ret Tryz.func61 rfl (res_tmp rfl res_nil) rfl

def run_areDuties (F : Nat) (a0 : (List S_api_Duty)) (a1 : Int) : Option (Bool) :=
 bif (decide ((64 : Int) < (a0.length : Int))) then
  some false
 else
  run_areDuties_1 F F a1 a0 (a0.length : Int) (0 : Int) (S_api_Duty.mk [] 0 0)

theorem run_areDuties_ok (F : Nat) (a0 : (List S_api_Duty)) (a1 : Int) (s0 : SV) (r : Bool) (M : Mem) (hs0 : Slc (rd M) 3 (FlatR enc43) s0 a0) (h : run_areDuties F a0 a1 = some r) : CallsM Tryz.prog 61 [s0, (.int .i64 a1)] M (fun s M' => s = (.bool r) ∧ M' = M) := by
 refine CallsM.plain Tryz.func61 rfl rfl rfl (show Run _ _ _ (run_areDuties_post r) _ _ _ from ?_)
 rw [run_areDuties] at h
 replace hs0 := hs0.mono (rdLe_frozen M) (fun _ _ h => h)
 have hH := Has.nil (frozen M)
 refine Run.seq (Run.region ?_)
 refine Run.opG wantS_none (ex_assign rfl) rfl ?_
 refine Run.opsEnd (Run.seq (Run.seq (Run.region ?_)))
 refine Run.opG wantS_none (ex_move rfl) rfl ?_
 refine Run.opG wantS_none (ex_len' rfl hs0 lenk32) rfl ?_
 refine Run.opG wantS_none (ex_gtr rfl rfl) rfl ?_
 refine Run.opsEnd ?_
 rcases btf ((decide ((64 : Int) < (a0.length : Int)))) with hc21 | hc21
 ·have h := bif_t hc21 h
  refine Run.condT' rfl hc21 ?_
  refine Run.seq (Run.region ?_)
  refine Run.opG wantS_none (ex_assign rfl) rfl ?_
  refine Run.opsEnd ?_
  cases h
  exact Run.ret Tryz.func61 rfl (res_tmp rfl res_nil) rfl
 ·have h := bif_f hc21 h
  refine Run.condF' rfl hc21 ?_
  refine Run.skip (Run.seq (Run.region ?_))
  refine Run.opX wantS_none rfl (ExG.new (v := fun b => .ptr b 0) (ex_alloc zer43) hH) ?_
  rintro _ M24 ⟨b23, rfl, hH24⟩
  refine Run.opsEnd (Run.seq (Run.seq (Run.region ?_)))
  refine Run.opG wantS_none (ex_move rfl) rfl ?_
  refine Run.opG wantS_none (ex_len' rfl hs0 lenk32) rfl ?_
  refine Run.opG wantS_none (ex_move rfl) rfl ?_
  refine Run.opsEnd (Run.block (Run.loop ?_))
  exact Run.pick [1, 5, 11, 12, 13] (run_areDuties_1_ok F F a1 a0 (a0.length : Int) (0 : Int) (S_api_Duty.mk [] 0 0) s0 b23 _ _ _ hs0 hH24 h)

theorem mkk61 : makeK Tryz.prog 61 = none := by kernel_rfl
theorem cal61 : callable Tryz.prog 61 = true := by kernel_rfl
theorem off85_1 : fieldOff Tryz.prog 85 1 = some 1 := by kernel_rfl
theorem lenk33 : lenK Tryz.prog 33 = some .sl := by kernel_rfl
theorem els33 : elems Tryz.prog 33 = some (.sl 2) := by kernel_rfl
theorem agg106 : aggSize Tryz.prog 106 = some (some 2) := by kernel_rfl
theorem zer106 : zerosOf Tryz.prog 106 = some [(.int .i64 0), (.int .i64 0)] := by kernel_rfl
theorem sz106 : szOf Tryz.prog 106 = some 2 := by kernel_rfl
theorem off106_0 : fieldOff Tryz.prog 106 0 = some 0 := by kernel_rfl
theorem off106_1 : fieldOff Tryz.prog 106 1 = some 1 := by kernel_rfl
theorem mkk95 : makeK Tryz.prog 95 = none := by kernel_rfl
theorem cal95 : callable Tryz.prog 95 = true := by kernel_rfl
theorem mkk65 : makeK Tryz.prog 65 = none := by kernel_rfl
theorem cal65 : callable Tryz.prog 65 = true := by kernel_rfl
theorem mkk94 : makeK Tryz.prog 94 = none := by kernel_rfl
theorem cal94 : callable Tryz.prog 94 = true := by kernel_rfl
abbrev run_isWork_post (r : Bool) : SV → Mem → Prop := fun s _ => s = (.bool r)

def run_isWork_3 (F : Nat) (hd1 : (List S_api_Duty) → Int → (List S_api_Segment) → Int → Int → Option (Bool)) (v1 : (List S_api_Duty)) (v12 : (List S_api_Segment)) (v13 v14 : Int) (v35 : Bool) (c26 : S_api_Segment) : Option (Bool) :=
 bif v35 then
  some false
 else
  hd1 v1 c26.To v12 v13 (w64 (v14 + (1 : Int)))

theorem run_isWork_3_ok (F : Nat) (hd1 : (List S_api_Duty) → Int → (List S_api_Segment) → Int → Int → Option (Bool)) (hhd1 : ∀ (v1 : (List S_api_Duty)) (v5 : Int) (v12 : (List S_api_Segment)) (v13 v14 : Int) (sv1 sv12 : SV) (Fr : Rd) (M : Mem) (r : Bool) (hv1 : Slc Fr 3 (FlatR enc43) sv1 v1) (hv12 : Slc Fr 2 (FlatR enc106) sv12 v12) (hH : Has Fr M []), hd1 v1 v5 v12 v13 v14 = some r → Run Tryz.prog ⟨⟨62, [], none⟩, []⟩ 39 (run_isWork_post r) [(1, sv1), (5, (.int .i64 v5)), (12, sv12), (13, (.int .i64 v13)), (14, (.int .i64 v14))] [codeC Tryz.prog 62 [1, 1, 1, 0, 1, 0, 0], loopC Tryz.prog 62 [1, 1, 1, 0, 1, 0, 0], .inBlock 0, codeC Tryz.prog 62 [1, 1, 1, 1]] M) : ∀ (v1 : (List S_api_Duty)) (v12 : (List S_api_Segment)) (v13 v14 : Int) (v35 : Bool) (c26 : S_api_Segment) (sv1 sv12 : SV) (b26 : Pos) (Fr : Rd) (M : Mem) (r : Bool) (hv1 : Slc Fr 3 (FlatR enc43) sv1 v1) (hv12 : Slc Fr 2 (FlatR enc106) sv12 v12) (hH : Has Fr M [.obj b26 (.row 106 .whole [(.int .i64 c26.From), (.int .i64 c26.To)])]), run_isWork_3 F hd1 v1 v12 v13 v14 v35 c26 = some r → Run Tryz.prog ⟨⟨62, [], none⟩, []⟩ 39 (run_isWork_post r) [(1, sv1), (7, (.ptr b26 0)), (12, sv12), (13, (.int .i64 v13)), (14, (.int .i64 v14)), (35, (.bool v35))] [codeC Tryz.prog 62 [1, 1, 1, 0, 1, 0, 0, 1, 1, 0, 0, 1, 1, 0, 1], codeC Tryz.prog 62 [1, 1, 1, 0, 1, 0, 0, 1, 1, 0, 0, 1, 1, 1], .inBlock 1, codeC Tryz.prog 62 [1, 1, 1, 0, 1, 0, 0, 1, 1, 1], loopC Tryz.prog 62 [1, 1, 1, 0, 1, 0, 0], .inBlock 0, codeC Tryz.prog 62 [1, 1, 1, 1]] M := by
 intro v1 v12 v13 v14 v35 c26 sv1 sv12 b26 Fr M r hv1 hv12 hH h
 rw [run_isWork_3] at h
 rcases btf (v35) with hc31 | hc31
 ·have h := bif_t hc31 h
  refine Run.condT' rfl hc31 ?_
  refine Run.seq (Run.region ?_)
  refine Run.opG wantS_none (ex_assign rfl) rfl ?_
  refine Run.opsEnd ?_
  cases h
  exact Run.ret Tryz.func62 rfl (res_tmp rfl res_nil) rfl
 ·have h := bif_f hc31 h
  refine Run.condF' rfl hc31 ?_
  refine Run.skip (Run.region ?_)
  refine Run.opG wantS_none (ex_fieldAddr rfl off106_1) rfl ?_
  refine Run.opG wantS_none (ex_load1 rfl (hH.cells (i := 0) rfl 1 rfl) rdLe_rfl agg3) rfl ?_
  refine Run.opG wantS_none (ex_assign rfl) rfl ?_
  refine Run.opsEnd (Run.inBlock (Run.region ?_))
  refine Run.opG wantS_none (ex_add rfl rfl) rfl ?_
  refine Run.opG wantS_none (ex_move rfl) rfl ?_
  refine Run.opsEnd (Run.inLoop ?_)
  exact Run.pick [1, 5, 12, 13, 14] (hhd1 v1 c26.To v12 v13 (w64 (v14 + (1 : Int))) sv1 sv12 _ _ _ hv1 hv12 (hH.pick [] rfl rfl) h)

def run_isWork_5 (F : Nat) (hd1 : (List S_api_Duty) → Int → (List S_api_Segment) → Int → Int → Option (Bool)) (hd4 : (List S_api_Duty) → Int → Int → (List S_api_Duty) → (List S_api_Segment) → Int → Int → Bool → S_api_Segment → Option (Bool)) (v15 : Bool) (v0_f1 : (List S_api_Duty)) (v5_f1 v7_f1 v8_f1 : Int) (v1_f3 : (List S_api_Duty)) (v12_f3 : (List S_api_Segment)) (v13_f3 v14_f3 : Int) (v30_f3 : Bool) (c26 : S_api_Segment) : Option (Bool) :=
 bif v15 then
  bif v30_f3 then
   run_isWork_3 F hd1 v1_f3 v12_f3 v13_f3 v14_f3 true c26
  else
   run_isWork_3 F hd1 v1_f3 v12_f3 v13_f3 v14_f3 (!(decide ((0 : Int) ≤ v5_f1))) c26
 else
  hd4 v0_f1 v7_f1 (w64 (v8_f1 + (1 : Int))) v1_f3 v12_f3 v13_f3 v14_f3 v30_f3 c26

theorem run_isWork_5_ok (F : Nat) (hd1 : (List S_api_Duty) → Int → (List S_api_Segment) → Int → Int → Option (Bool)) (hhd1 : ∀ (v1 : (List S_api_Duty)) (v5 : Int) (v12 : (List S_api_Segment)) (v13 v14 : Int) (sv1 sv12 : SV) (Fr : Rd) (M : Mem) (r : Bool) (hv1 : Slc Fr 3 (FlatR enc43) sv1 v1) (hv12 : Slc Fr 2 (FlatR enc106) sv12 v12) (hH : Has Fr M []), hd1 v1 v5 v12 v13 v14 = some r → Run Tryz.prog ⟨⟨62, [], none⟩, []⟩ 39 (run_isWork_post r) [(1, sv1), (5, (.int .i64 v5)), (12, sv12), (13, (.int .i64 v13)), (14, (.int .i64 v14))] [codeC Tryz.prog 62 [1, 1, 1, 0, 1, 0, 0], loopC Tryz.prog 62 [1, 1, 1, 0, 1, 0, 0], .inBlock 0, codeC Tryz.prog 62 [1, 1, 1, 1]] M) (hd4 : (List S_api_Duty) → Int → Int → (List S_api_Duty) → (List S_api_Segment) → Int → Int → Bool → S_api_Segment → Option (Bool)) (hhd4 : ∀ (v0 : (List S_api_Duty)) (v7 v8 : Int) (v1_f2 : (List S_api_Duty)) (v12_f2 : (List S_api_Segment)) (v13_f2 v14_f2 : Int) (v30_f2 : Bool) (c26 : S_api_Segment) (sv0 sv1_f2 sv12_f2 : SV) (b26 : Pos) (Fr : Rd) (M : Mem) (r : Bool) (hv0 : Slc Fr 3 (FlatR enc43) sv0 v0) (hv1_f2 : Slc Fr 3 (FlatR enc43) sv1_f2 v1_f2) (hv12_f2 : Slc Fr 2 (FlatR enc106) sv12_f2 v12_f2) (hH : Has Fr M [.obj b26 (.row 106 .whole [(.int .i64 c26.From), (.int .i64 c26.To)])]), hd4 v0 v7 v8 v1_f2 v12_f2 v13_f2 v14_f2 v30_f2 c26 = some r → Run Tryz.prog ⟨⟨65, [], none⟩, [.mk ⟨95, [], none⟩ 9 (treeOf []) [itemC Tryz.prog 95 [1, 0] 2, codeC Tryz.prog 95 [1, 1]], .mk ⟨62, [], none⟩ 39 (treeOf [(1, sv1_f2), (7, (.ptr b26 0)), (12, sv12_f2), (13, (.int .i64 v13_f2)), (14, (.int .i64 v14_f2)), (30, (.bool v30_f2))]) [itemC Tryz.prog 62 [1, 1, 1, 0, 1, 0, 0, 1, 1, 0, 0, 1, 1, 0, 0] 14, codeC Tryz.prog 62 [1, 1, 1, 0, 1, 0, 0, 1, 1, 0, 0, 1, 1, 0, 1], codeC Tryz.prog 62 [1, 1, 1, 0, 1, 0, 0, 1, 1, 0, 0, 1, 1, 1], .inBlock 1, codeC Tryz.prog 62 [1, 1, 1, 0, 1, 0, 0, 1, 1, 1], loopC Tryz.prog 62 [1, 1, 1, 0, 1, 0, 0], .inBlock 0, codeC Tryz.prog 62 [1, 1, 1, 1]]]⟩ 19 (run_isWork_post r) [(0, sv0), (1, (.fn (.func 94) [] [(.ptr b26 0)])), (7, (.int .i64 v7)), (8, (.int .i64 v8))] [codeC Tryz.prog 65 [1, 0, 1, 0, 0], loopC Tryz.prog 65 [1, 0, 1, 0, 0], .inBlock 0, codeC Tryz.prog 65 [1, 1]] M) : ∀ (v15 : Bool) (v0_f1 : (List S_api_Duty)) (v5_f1 v7_f1 v8_f1 : Int) (v1_f3 : (List S_api_Duty)) (v12_f3 : (List S_api_Segment)) (v13_f3 v14_f3 : Int) (v30_f3 : Bool) (c26 : S_api_Segment) (sv0_f1 sv1_f3 sv12_f3 : SV) (b26 : Pos) (Fr : Rd) (M : Mem) (r : Bool) (hv0_f1 : Slc Fr 3 (FlatR enc43) sv0_f1 v0_f1) (hv1_f3 : Slc Fr 3 (FlatR enc43) sv1_f3 v1_f3) (hv12_f3 : Slc Fr 2 (FlatR enc106) sv12_f3 v12_f3) (hH : Has Fr M [.obj b26 (.row 106 .whole [(.int .i64 c26.From), (.int .i64 c26.To)])]), run_isWork_5 F hd1 hd4 v15 v0_f1 v5_f1 v7_f1 v8_f1 v1_f3 v12_f3 v13_f3 v14_f3 v30_f3 c26 = some r → Run Tryz.prog ⟨⟨94, [], none⟩, [.mk ⟨65, [], none⟩ 19 (treeOf [(0, sv0_f1), (1, (.fn (.func 94) [] [(.ptr b26 0)])), (5, (.int .i64 v5_f1)), (7, (.int .i64 v7_f1)), (8, (.int .i64 v8_f1))]) [itemC Tryz.prog 65 [1, 0, 1, 0, 0, 1, 1, 0, 0, 1, 0] 5, codeC Tryz.prog 65 [1, 0, 1, 0, 0, 1, 1, 0, 0, 1, 1], .inBlock 1, codeC Tryz.prog 65 [1, 0, 1, 0, 0, 1, 1, 1], loopC Tryz.prog 65 [1, 0, 1, 0, 0], .inBlock 0, codeC Tryz.prog 65 [1, 1]], .mk ⟨95, [], none⟩ 9 (treeOf []) [itemC Tryz.prog 95 [1, 0] 2, codeC Tryz.prog 95 [1, 1]], .mk ⟨62, [], none⟩ 39 (treeOf [(1, sv1_f3), (7, (.ptr b26 0)), (12, sv12_f3), (13, (.int .i64 v13_f3)), (14, (.int .i64 v14_f3)), (30, (.bool v30_f3))]) [itemC Tryz.prog 62 [1, 1, 1, 0, 1, 0, 0, 1, 1, 0, 0, 1, 1, 0, 0] 14, codeC Tryz.prog 62 [1, 1, 1, 0, 1, 0, 0, 1, 1, 0, 0, 1, 1, 0, 1], codeC Tryz.prog 62 [1, 1, 1, 0, 1, 0, 0, 1, 1, 0, 0, 1, 1, 1], .inBlock 1, codeC Tryz.prog 62 [1, 1, 1, 0, 1, 0, 0, 1, 1, 1], loopC Tryz.prog 62 [1, 1, 1, 0, 1, 0, 0], .inBlock 0, codeC Tryz.prog 62 [1, 1, 1, 1]]]⟩ 16 (run_isWork_post r) [(15, (.bool v15))] [itemC Tryz.prog 94 [1, 0] 12, codeC Tryz.prog 94 [1, 1]] M := by
 intro v15 v0_f1 v5_f1 v7_f1 v8_f1 v1_f3 v12_f3 v13_f3 v14_f3 v30_f3 c26 sv0_f1 sv1_f3 sv12_f3 b26 Fr M r hv0_f1 hv1_f3 hv12_f3 hH h
 rw [run_isWork_5] at h
 refine Run.opG wantS_none (ex_assign rfl) rfl ?_
 refine Run.opsEnd ?_
 refine Run.retTo Tryz.func94 rfl (res_tmp rfl res_nil) rfl ?_
 refine Run.opsEnd ?_
 rcases btf (v15) with hc39 | hc39
 ·have h := bif_t hc39 h
  refine Run.condT' rfl hc39 ?_
  refine Run.seq (Run.region ?_)
  refine Run.opG wantS_none (ex_move rfl) rfl ?_
  refine Run.opG wantS_none (ex_assign rfl) rfl ?_
  refine Run.opsEnd ?_
  refine Run.retTo Tryz.func65 rfl (res_tmp rfl res_nil) rfl ?_
  refine Run.opG wantS_none (ex_geq rfl rfl) rfl ?_
  refine Run.opG wantS_none (ex_assign rfl) rfl ?_
  refine Run.opsEnd ?_
  refine Run.retTo Tryz.func95 rfl (res_tmp rfl res_nil) rfl ?_
  rcases btf (v30_f3) with hc40 | hc40
  ·have h := bif_t hc40 h
   refine Run.no (wantS_not' rfl rfl hc40) rfl ?_
   refine Run.opG wantS_none (ex_pickT' rfl hc40 rfl rfl) rfl ?_
   refine Run.opsEnd ?_
   exact Run.pick [1, 7, 12, 13, 14, 35] (run_isWork_3_ok F hd1 hhd1 v1_f3 v12_f3 v13_f3 v14_f3 true c26 sv1_f3 sv12_f3 b26 _ _ _ hv1_f3 hv12_f3 hH h)
  ·have h := bif_f hc40 h
   refine Run.opG (wantS_yes' rfl rfl hc40) (ex_not rfl) rfl ?_
   refine Run.opG wantS_none (ex_pickF' rfl hc40 rfl rfl) rfl ?_
   refine Run.opsEnd ?_
   exact Run.pick [1, 7, 12, 13, 14, 35] (run_isWork_3_ok F hd1 hhd1 v1_f3 v12_f3 v13_f3 v14_f3 (!(decide ((0 : Int) ≤ v5_f1))) c26 sv1_f3 sv12_f3 b26 _ _ _ hv1_f3 hv12_f3 hH h)
 ·have h := bif_f hc39 h
  refine Run.condF' rfl hc39 ?_
  refine Run.skip (Run.inBlock (Run.region ?_))
  refine Run.opG wantS_none (ex_add rfl rfl) rfl ?_
  refine Run.opG wantS_none (ex_move rfl) rfl ?_
  refine Run.opsEnd (Run.inLoop ?_)
  exact Run.low (.cons (fle_pick [] rfl) (.cons (fle_pick [1, 7, 12, 13, 14, 30] rfl) .nil)) (Run.pick [0, 1, 7, 8] (hhd4 v0_f1 v7_f1 (w64 (v8_f1 + (1 : Int))) v1_f3 v12_f3 v13_f3 v14_f3 v30_f3 c26 sv0_f1 sv1_f3 sv12_f3 b26 _ _ _ hv0_f1 hv1_f3 hv12_f3 hH h))

def run_isWork_4 (F : Nat) (hd1 : (List S_api_Duty) → Int → (List S_api_Segment) → Int → Int → Option (Bool)) : Nat → (List S_api_Duty) → Int → Int → (List S_api_Duty) → (List S_api_Segment) → Int → Int → Bool → S_api_Segment → Option (Bool)
 | 0, _, _, _, _, _, _, _, _, _ => none
 | N + 1, v0, v7, v8, v1_f2, v12_f2, v13_f2, v14_f2, v30_f2, c26 =>
  bif (decide (v8 < v7)) then
   bnd (idx v0 v8) fun x34 =>
   bif (decide (x34.From ≤ c26.From)) then
    run_isWork_5 F hd1 (run_isWork_4 F hd1 N) (decide (c26.To ≤ x34.To)) v0 v8 v7 v8 v1_f2 v12_f2 v13_f2 v14_f2 v30_f2 c26
   else
    run_isWork_5 F hd1 (run_isWork_4 F hd1 N) false v0 v8 v7 v8 v1_f2 v12_f2 v13_f2 v14_f2 v30_f2 c26
  else
   bif v30_f2 then
    run_isWork_3 F hd1 v1_f2 v12_f2 v13_f2 v14_f2 true c26
   else
    run_isWork_3 F hd1 v1_f2 v12_f2 v13_f2 v14_f2 (!(decide ((0 : Int) ≤ ((-1) : Int)))) c26

theorem run_isWork_4_ok (F : Nat) (hd1 : (List S_api_Duty) → Int → (List S_api_Segment) → Int → Int → Option (Bool)) (hhd1 : ∀ (v1 : (List S_api_Duty)) (v5 : Int) (v12 : (List S_api_Segment)) (v13 v14 : Int) (sv1 sv12 : SV) (Fr : Rd) (M : Mem) (r : Bool) (hv1 : Slc Fr 3 (FlatR enc43) sv1 v1) (hv12 : Slc Fr 2 (FlatR enc106) sv12 v12) (hH : Has Fr M []), hd1 v1 v5 v12 v13 v14 = some r → Run Tryz.prog ⟨⟨62, [], none⟩, []⟩ 39 (run_isWork_post r) [(1, sv1), (5, (.int .i64 v5)), (12, sv12), (13, (.int .i64 v13)), (14, (.int .i64 v14))] [codeC Tryz.prog 62 [1, 1, 1, 0, 1, 0, 0], loopC Tryz.prog 62 [1, 1, 1, 0, 1, 0, 0], .inBlock 0, codeC Tryz.prog 62 [1, 1, 1, 1]] M) : ∀ (N : Nat), ∀ (v0 : (List S_api_Duty)) (v7 v8 : Int) (v1_f2 : (List S_api_Duty)) (v12_f2 : (List S_api_Segment)) (v13_f2 v14_f2 : Int) (v30_f2 : Bool) (c26 : S_api_Segment) (sv0 sv1_f2 sv12_f2 : SV) (b26 : Pos) (Fr : Rd) (M : Mem) (r : Bool) (hv0 : Slc Fr 3 (FlatR enc43) sv0 v0) (hv1_f2 : Slc Fr 3 (FlatR enc43) sv1_f2 v1_f2) (hv12_f2 : Slc Fr 2 (FlatR enc106) sv12_f2 v12_f2) (hH : Has Fr M [.obj b26 (.row 106 .whole [(.int .i64 c26.From), (.int .i64 c26.To)])]), run_isWork_4 F hd1 N v0 v7 v8 v1_f2 v12_f2 v13_f2 v14_f2 v30_f2 c26 = some r → Run Tryz.prog ⟨⟨65, [], none⟩, [.mk ⟨95, [], none⟩ 9 (treeOf []) [itemC Tryz.prog 95 [1, 0] 2, codeC Tryz.prog 95 [1, 1]], .mk ⟨62, [], none⟩ 39 (treeOf [(1, sv1_f2), (7, (.ptr b26 0)), (12, sv12_f2), (13, (.int .i64 v13_f2)), (14, (.int .i64 v14_f2)), (30, (.bool v30_f2))]) [itemC Tryz.prog 62 [1, 1, 1, 0, 1, 0, 0, 1, 1, 0, 0, 1, 1, 0, 0] 14, codeC Tryz.prog 62 [1, 1, 1, 0, 1, 0, 0, 1, 1, 0, 0, 1, 1, 0, 1], codeC Tryz.prog 62 [1, 1, 1, 0, 1, 0, 0, 1, 1, 0, 0, 1, 1, 1], .inBlock 1, codeC Tryz.prog 62 [1, 1, 1, 0, 1, 0, 0, 1, 1, 1], loopC Tryz.prog 62 [1, 1, 1, 0, 1, 0, 0], .inBlock 0, codeC Tryz.prog 62 [1, 1, 1, 1]]]⟩ 19 (run_isWork_post r) [(0, sv0), (1, (.fn (.func 94) [] [(.ptr b26 0)])), (7, (.int .i64 v7)), (8, (.int .i64 v8))] [codeC Tryz.prog 65 [1, 0, 1, 0, 0], loopC Tryz.prog 65 [1, 0, 1, 0, 0], .inBlock 0, codeC Tryz.prog 65 [1, 1]] M := by
 intro N
 induction N with
 | zero =>
  intro v0 v7 v8 v1_f2 v12_f2 v13_f2 v14_f2 v30_f2 c26 sv0 sv1_f2 sv12_f2 b26 Fr M r hv0 hv1_f2 hv12_f2 hH h
  simp [run_isWork_4] at h
 | succ N ih =>
  intro v0 v7 v8 v1_f2 v12_f2 v13_f2 v14_f2 v30_f2 c26 sv0 sv1_f2 sv12_f2 b26 Fr M r hv0 hv1_f2 hv12_f2 hH h
  rw [run_isWork_4] at h
  refine Run.seq (Run.region ?_)
  refine Run.opG wantS_none (ex_lss rfl rfl) rfl ?_
  refine Run.opsEnd (Run.seq ?_)
  rcases btf ((decide (v8 < v7))) with hc32 | hc32
  ·have h := bif_t hc32 h
   refine Run.condT' rfl hc32 ?_
   refine Run.skip (Run.seq (Run.block (Run.seq (Run.region ?_))))
   refine Run.opG wantS_none (ex_move rfl) rfl ?_
   refine Run.opG wantS_none (ex_assign rfl) rfl ?_
   refine Run.opsEnd (Run.seq (Run.region ?_))
   refine Run.opG wantS_none (ex_move rfl) rfl ?_
   refine Run.opG wantS_none (ex_move rfl) rfl ?_
   refine Run.opG wantS_none (ex_move rfl) rfl ?_
   obtain ⟨x34, hx34, h⟩ := bnd_some h
   obtain ⟨p34, o34, _, hx34, hp34, rfl⟩ := sl_elem (P := Tryz.prog) (t := 32) (kk := .i64) hv0 hx34 els32
   refine Run.opG wantS_none (ex_elX rfl rfl hx34) rfl ?_
   refine Run.opG wantS_none (ex_loadA rfl (hH.ptrF hp34) rdLe_rfl agg43 rfl rfl rfl) rfl ?_
   refine Run.enter wantS_none (ex_closure rfl rfl mkk94 cal94) Tryz.func94 rfl rfl ?_
   refine Run.seq (Run.region ?_)
   refine Run.opX wantS_none rfl (ExG.box rfl rfl hH) ?_
   rintro _ M37 ⟨b36, rfl, hH37⟩
   refine Run.opG wantS_none (ex_assign rfl) rfl ?_
   refine Run.opsEnd (Run.seq (Run.region ?_))
   refine Run.opG wantS_none (ex_fieldAddr rfl off43_1) rfl ?_
   refine Run.opG wantS_none (ex_load1 rfl (hH37.cells (i := 0) rfl 1 rfl) rdLe_rfl agg3) rfl ?_
   refine Run.opG wantS_none (ex_fieldAddr rfl off106_0) rfl ?_
   refine Run.opG wantS_none (ex_load1 rfl (hH37.cells (i := 1) rfl 0 rfl) rdLe_rfl agg3) rfl ?_
   refine Run.opG wantS_none (ex_leq rfl rfl) rfl ?_
   refine Run.opG wantS_none (ex_move rfl) rfl ?_
   rcases btf ((decide (x34.From ≤ c26.From))) with hc38 | hc38
   ·have h := bif_t hc38 h
    refine Run.opG (wantS_yes' rfl rfl hc38) (ex_fieldAddr rfl off106_1) rfl ?_
    refine Run.opG (wantS_yes' rfl rfl hc38) (ex_load1 rfl (hH37.cells (i := 1) rfl 1 rfl) rdLe_rfl agg3) rfl ?_
    refine Run.opG (wantS_yes' rfl rfl hc38) (ex_fieldAddr rfl off43_2) rfl ?_
    refine Run.opG (wantS_yes' rfl rfl hc38) (ex_load1 rfl (hH37.cells (i := 0) rfl 2 rfl) rdLe_rfl agg3) rfl ?_
    refine Run.opG (wantS_yes' rfl rfl hc38) (ex_leq rfl rfl) rfl ?_
    refine Run.opG wantS_none (ex_pickT' rfl hc38 rfl rfl) rfl ?_
    exact Run.low (.cons (fle_pick [0, 1, 5, 7, 8] rfl) (.cons (fle_pick [] rfl) (.cons (fle_pick [1, 7, 12, 13, 14, 30] rfl) .nil))) (Run.pick [15] (run_isWork_5_ok F hd1 hhd1 (run_isWork_4 F hd1 N) ih (decide (c26.To ≤ x34.To)) v0 v8 v7 v8 v1_f2 v12_f2 v13_f2 v14_f2 v30_f2 c26 sv0 sv1_f2 sv12_f2 b26 _ _ _ hv0 hv1_f2 hv12_f2 (hH37.pick [1] rfl rfl) h))
   ·have h := bif_f hc38 h
    refine Run.no (wantS_not' rfl rfl hc38) rfl ?_
    refine Run.no (wantS_not' rfl rfl hc38) rfl ?_
    refine Run.no (wantS_not' rfl rfl hc38) rfl ?_
    refine Run.no (wantS_not' rfl rfl hc38) rfl ?_
    refine Run.no (wantS_not' rfl rfl hc38) rfl ?_
    refine Run.opG wantS_none (ex_pickF' rfl hc38 rfl rfl) rfl ?_
    exact Run.low (.cons (fle_pick [0, 1, 5, 7, 8] rfl) (.cons (fle_pick [] rfl) (.cons (fle_pick [1, 7, 12, 13, 14, 30] rfl) .nil))) (Run.pick [15] (run_isWork_5_ok F hd1 hhd1 (run_isWork_4 F hd1 N) ih false v0 v8 v7 v8 v1_f2 v12_f2 v13_f2 v14_f2 v30_f2 c26 sv0 sv1_f2 sv12_f2 b26 _ _ _ hv0 hv1_f2 hv12_f2 (hH37.pick [1] rfl rfl) h))
  ·have h := bif_f hc32 h
   refine Run.condF' rfl hc32 ?_
   refine Run.exit rfl (Run.seq (Run.region ?_))
   refine Run.opG wantS_none (ex_assign rfl) rfl ?_
   refine Run.opsEnd ?_
   refine Run.retTo Tryz.func65 rfl (res_tmp rfl res_nil) rfl ?_
   refine Run.opG wantS_none (ex_geq rfl rfl) rfl ?_
   refine Run.opG wantS_none (ex_assign rfl) rfl ?_
   refine Run.opsEnd ?_
   refine Run.retTo Tryz.func95 rfl (res_tmp rfl res_nil) rfl ?_
   rcases btf (v30_f2) with hc41 | hc41
   ·have h := bif_t hc41 h
    refine Run.no (wantS_not' rfl rfl hc41) rfl ?_
    refine Run.opG wantS_none (ex_pickT' rfl hc41 rfl rfl) rfl ?_
    refine Run.opsEnd ?_
    exact Run.pick [1, 7, 12, 13, 14, 35] (run_isWork_3_ok F hd1 hhd1 v1_f2 v12_f2 v13_f2 v14_f2 true c26 sv1_f2 sv12_f2 b26 _ _ _ hv1_f2 hv12_f2 hH h)
   ·have h := bif_f hc41 h
    refine Run.opG (wantS_yes' rfl rfl hc41) (ex_not rfl) rfl ?_
    refine Run.opG wantS_none (ex_pickF' rfl hc41 rfl rfl) rfl ?_
    refine Run.opsEnd ?_
    exact Run.pick [1, 7, 12, 13, 14, 35] (run_isWork_3_ok F hd1 hhd1 v1_f2 v12_f2 v13_f2 v14_f2 (!(decide ((0 : Int) ≤ ((-1) : Int)))) c26 sv1_f2 sv12_f2 b26 _ _ _ hv1_f2 hv12_f2 hH h)

def run_isWork_2 (F : Nat) (hd1 : (List S_api_Duty) → Int → (List S_api_Segment) → Int → Int → Option (Bool)) (v1 : (List S_api_Duty)) (v12 : (List S_api_Segment)) (v13 v14 : Int) (v29 : Bool) (c26 : S_api_Segment) : Option (Bool) :=
 bif v29 then
  run_isWork_3 F hd1 v1 v12 v13 v14 true c26
 else
  run_isWork_4 F hd1 F v1 (v1.length : Int) (0 : Int) v1 v12 v13 v14 v29 c26

theorem run_isWork_2_ok (F : Nat) (hd1 : (List S_api_Duty) → Int → (List S_api_Segment) → Int → Int → Option (Bool)) (hhd1 : ∀ (v1 : (List S_api_Duty)) (v5 : Int) (v12 : (List S_api_Segment)) (v13 v14 : Int) (sv1 sv12 : SV) (Fr : Rd) (M : Mem) (r : Bool) (hv1 : Slc Fr 3 (FlatR enc43) sv1 v1) (hv12 : Slc Fr 2 (FlatR enc106) sv12 v12) (hH : Has Fr M []), hd1 v1 v5 v12 v13 v14 = some r → Run Tryz.prog ⟨⟨62, [], none⟩, []⟩ 39 (run_isWork_post r) [(1, sv1), (5, (.int .i64 v5)), (12, sv12), (13, (.int .i64 v13)), (14, (.int .i64 v14))] [codeC Tryz.prog 62 [1, 1, 1, 0, 1, 0, 0], loopC Tryz.prog 62 [1, 1, 1, 0, 1, 0, 0], .inBlock 0, codeC Tryz.prog 62 [1, 1, 1, 1]] M) : ∀ (v1 : (List S_api_Duty)) (v12 : (List S_api_Segment)) (v13 v14 : Int) (v29 : Bool) (c26 : S_api_Segment) (sv1 sv12 : SV) (b26 : Pos) (Fr : Rd) (M : Mem) (r : Bool) (hv1 : Slc Fr 3 (FlatR enc43) sv1 v1) (hv12 : Slc Fr 2 (FlatR enc106) sv12 v12) (hH : Has Fr M [.obj b26 (.row 106 .whole [(.int .i64 c26.From), (.int .i64 c26.To)])]), run_isWork_2 F hd1 v1 v12 v13 v14 v29 c26 = some r → Run Tryz.prog ⟨⟨62, [], none⟩, []⟩ 39 (run_isWork_post r) [(1, sv1), (7, (.ptr b26 0)), (8, (.fn (.func 94) [] [(.ptr b26 0)])), (12, sv12), (13, (.int .i64 v13)), (14, (.int .i64 v14)), (29, (.bool v29))] [itemC Tryz.prog 62 [1, 1, 1, 0, 1, 0, 0, 1, 1, 0, 0, 1, 1, 0, 0] 11, codeC Tryz.prog 62 [1, 1, 1, 0, 1, 0, 0, 1, 1, 0, 0, 1, 1, 0, 1], codeC Tryz.prog 62 [1, 1, 1, 0, 1, 0, 0, 1, 1, 0, 0, 1, 1, 1], .inBlock 1, codeC Tryz.prog 62 [1, 1, 1, 0, 1, 0, 0, 1, 1, 1], loopC Tryz.prog 62 [1, 1, 1, 0, 1, 0, 0], .inBlock 0, codeC Tryz.prog 62 [1, 1, 1, 1]] M := by
 intro v1 v12 v13 v14 v29 c26 sv1 sv12 b26 Fr M r hv1 hv12 hH h
 rw [run_isWork_2] at h
 refine Run.opG wantS_none (ex_move rfl) rfl ?_
 rcases btf (v29) with hc30 | hc30
 ·have h := bif_t hc30 h
  refine Run.no (wantS_not' rfl rfl hc30) rfl ?_
  refine Run.no (wantS_not' rfl rfl hc30) rfl ?_
  refine Run.no (wantS_not' rfl rfl hc30) rfl ?_
  refine Run.no (wantS_not' rfl rfl hc30) rfl ?_
  refine Run.opG wantS_none (ex_pickT' rfl hc30 rfl rfl) rfl ?_
  refine Run.opsEnd ?_
  exact Run.pick [1, 7, 12, 13, 14, 35] (run_isWork_3_ok F hd1 hhd1 v1 v12 v13 v14 true c26 sv1 sv12 b26 _ _ _ hv1 hv12 hH h)
 ·have h := bif_f hc30 h
  refine Run.opG (wantS_yes' rfl rfl hc30) (ex_move rfl) rfl ?_
  refine Run.opG (wantS_yes' rfl rfl hc30) (ex_move rfl) rfl ?_
  refine Run.enter (wantS_yes' rfl rfl hc30) (ex_call rfl mkk95 cal95) Tryz.func95 rfl rfl ?_
  refine Run.seq (Run.region ?_)
  refine Run.opG wantS_none (ex_assign rfl) rfl ?_
  refine Run.opsEnd (Run.seq (Run.region ?_))
  refine Run.opG wantS_none (ex_move rfl) rfl ?_
  refine Run.opG wantS_none (ex_move rfl) rfl ?_
  refine Run.enter wantS_none (ex_call rfl mkk65 cal65) Tryz.func65 rfl rfl ?_
  refine Run.seq (Run.region ?_)
  refine Run.opG wantS_none (ex_assign rfl) rfl ?_
  refine Run.opsEnd (Run.seq (Run.seq (Run.region ?_)))
  refine Run.opG wantS_none (ex_move rfl) rfl ?_
  refine Run.opG wantS_none (ex_len' rfl hv1 lenk32) rfl ?_
  refine Run.opG wantS_none (ex_move rfl) rfl ?_
  refine Run.opsEnd (Run.block (Run.loop ?_))
  exact Run.low (.cons (fle_pick [] rfl) (.cons (fle_pick [1, 7, 12, 13, 14, 30] rfl) .nil)) (Run.pick [0, 1, 7, 8] (run_isWork_4_ok F hd1 hhd1 F v1 (v1.length : Int) (0 : Int) v1 v12 v13 v14 v29 c26 sv1 sv1 sv12 b26 _ _ _ hv1 hv1 hv12 hH h))

def run_isWork_1 (F : Nat) : Nat → (List S_api_Duty) → Int → (List S_api_Segment) → Int → Int → Option (Bool)
 | 0, _, _, _, _, _ => none
 | N + 1, v1, v5, v12, v13, v14 =>
  bif (decide (v14 < v13)) then
   bnd (idx v12 v14) fun x24 =>
   bif (decide (x24.From < v5)) then
    run_isWork_2 F (run_isWork_1 F N) v1 v12 v13 v14 true x24
   else
    run_isWork_2 F (run_isWork_1 F N) v1 v12 v13 v14 (decide (x24.To ≤ x24.From)) x24
  else
   some true

theorem run_isWork_1_ok (F : Nat) : ∀ (N : Nat), ∀ (v1 : (List S_api_Duty)) (v5 : Int) (v12 : (List S_api_Segment)) (v13 v14 : Int) (sv1 sv12 : SV) (Fr : Rd) (M : Mem) (r : Bool) (hv1 : Slc Fr 3 (FlatR enc43) sv1 v1) (hv12 : Slc Fr 2 (FlatR enc106) sv12 v12) (hH : Has Fr M []), run_isWork_1 F N v1 v5 v12 v13 v14 = some r → Run Tryz.prog ⟨⟨62, [], none⟩, []⟩ 39 (run_isWork_post r) [(1, sv1), (5, (.int .i64 v5)), (12, sv12), (13, (.int .i64 v13)), (14, (.int .i64 v14))] [codeC Tryz.prog 62 [1, 1, 1, 0, 1, 0, 0], loopC Tryz.prog 62 [1, 1, 1, 0, 1, 0, 0], .inBlock 0, codeC Tryz.prog 62 [1, 1, 1, 1]] M := by
 intro N
 induction N with
 | zero =>
  intro v1 v5 v12 v13 v14 sv1 sv12 Fr M r hv1 hv12 hH h
  simp [run_isWork_1] at h
 | succ N ih =>
  intro v1 v5 v12 v13 v14 sv1 sv12 Fr M r hv1 hv12 hH h
  rw [run_isWork_1] at h
  refine Run.seq (Run.region ?_)
  refine Run.opG wantS_none (ex_lss rfl rfl) rfl ?_
  refine Run.opsEnd (Run.seq ?_)
  rcases btf ((decide (v14 < v13))) with hc22 | hc22
  ·have h := bif_t hc22 h
   refine Run.condT' rfl hc22 ?_
   refine Run.skip (Run.seq (Run.block (Run.seq (Run.region ?_))))
   obtain ⟨x24, hx24, h⟩ := bnd_some h
   obtain ⟨p24, o24, _, hx24, hp24, rfl⟩ := sl_elem (P := Tryz.prog) (t := 33) (kk := .i64) hv12 hx24 els33
   refine Run.opG wantS_none (ex_elX rfl rfl hx24) rfl ?_
   refine Run.opG wantS_none (ex_loadA rfl (hH.ptrF hp24) rdLe_rfl agg106 rfl rfl rfl) rfl ?_
   refine Run.opX wantS_none rfl (ExG.new (v := fun b => .ptr b 0) (ex_alloc zer106) hH) ?_
   rintro _ M27 ⟨b26, rfl, hH27⟩
   refine Run.opX wantS_none rfl (ExG.storeC (c' := [(.int .i64 x24.From), (.int .i64 x24.To)]) rfl rfl rfl hH27 (i := 0) rfl sz106 rfl rfl rfl rfl rfl) ?_
   rintro _ M28 ⟨rfl, (hH28 : Has Fr M28 [.obj b26 (.row 106 .whole [(.int .i64 x24.From), (.int .i64 x24.To)])])⟩
   refine Run.opsEnd (Run.seq (Run.region ?_))
   refine Run.opG wantS_none (ex_makeFunc rfl rfl) rfl ?_
   refine Run.opG wantS_none (ex_assign rfl) rfl ?_
   refine Run.opsEnd (Run.seq (Run.seq (Run.region ?_)))
   refine Run.opG wantS_none (ex_fieldAddr rfl off106_0) rfl ?_
   refine Run.opG wantS_none (ex_load1 rfl (hH28.cells (i := 0) rfl 0 rfl) rdLe_rfl agg3) rfl ?_
   refine Run.opG wantS_none (ex_move rfl) rfl ?_
   refine Run.opG wantS_none (ex_lss rfl rfl) rfl ?_
   refine Run.opG wantS_none (ex_move rfl) rfl ?_
   rcases btf ((decide (x24.From < v5))) with hc29 | hc29
   ·have h := bif_t hc29 h
    refine Run.no (wantS_not' rfl rfl hc29) rfl ?_
    refine Run.no (wantS_not' rfl rfl hc29) rfl ?_
    refine Run.no (wantS_not' rfl rfl hc29) rfl ?_
    refine Run.no (wantS_not' rfl rfl hc29) rfl ?_
    refine Run.no (wantS_not' rfl rfl hc29) rfl ?_
    refine Run.opG wantS_none (ex_pickT' rfl hc29 rfl rfl) rfl ?_
    exact Run.pick [1, 7, 8, 12, 13, 14, 29] (run_isWork_2_ok F (run_isWork_1 F N) ih v1 v12 v13 v14 true x24 sv1 sv12 b26 _ _ _ hv1 hv12 hH28 h)
   ·have h := bif_f hc29 h
    refine Run.opG (wantS_yes' rfl rfl hc29) (ex_fieldAddr rfl off106_0) rfl ?_
    refine Run.opG (wantS_yes' rfl rfl hc29) (ex_load1 rfl (hH28.cells (i := 0) rfl 0 rfl) rdLe_rfl agg3) rfl ?_
    refine Run.opG (wantS_yes' rfl rfl hc29) (ex_fieldAddr rfl off106_1) rfl ?_
    refine Run.opG (wantS_yes' rfl rfl hc29) (ex_load1 rfl (hH28.cells (i := 0) rfl 1 rfl) rdLe_rfl agg3) rfl ?_
    refine Run.opG (wantS_yes' rfl rfl hc29) (ex_geq rfl rfl) rfl ?_
    refine Run.opG wantS_none (ex_pickF' rfl hc29 rfl rfl) rfl ?_
    exact Run.pick [1, 7, 8, 12, 13, 14, 29] (run_isWork_2_ok F (run_isWork_1 F N) ih v1 v12 v13 v14 (decide (x24.To ≤ x24.From)) x24 sv1 sv12 b26 _ _ _ hv1 hv12 hH28 h)
  ·have h := bif_f hc22 h
   refine Run.condF' rfl hc22 ?_
   refine Run.exit rfl (Run.seq (Run.region ?_))
   refine Run.opG wantS_none (ex_assign rfl) rfl ?_
   refine Run.opsEnd ?_
   cases h
   exact Run.ret Tryz.func62 rfl (res_tmp rfl res_nil) rfl

def run_isWork (F : Nat) (a0 : (List S_api_Segment)) (a1 : (List S_api_Duty)) : Option (Bool) :=
 bif (decide ((16 : Int) < (a0.length : Int))) then
  some false
 else
  run_isWork_1 F F a1 (0 : Int) a0 (a0.length : Int) (0 : Int)

theorem run_isWork_ok (F : Nat) (a0 : (List S_api_Segment)) (a1 : (List S_api_Duty)) (s0 s1 : SV) (r : Bool) (M : Mem) (hs0 : Slc (rd M) 2 (FlatR enc106) s0 a0) (hs1 : Slc (rd M) 3 (FlatR enc43) s1 a1) (h : run_isWork F a0 a1 = some r) : CallsM Tryz.prog 62 [s0, s1] M (fun s M' => s = (.bool r) ∧ M' = M) := by
 refine CallsM.plain Tryz.func62 rfl rfl rfl (show Run _ _ _ (run_isWork_post r) _ _ _ from ?_)
 rw [run_isWork] at h
 replace hs0 := hs0.mono (rdLe_frozen M) (fun _ _ h => h)
 replace hs1 := hs1.mono (rdLe_frozen M) (fun _ _ h => h)
 have hH := Has.nil (frozen M)
 refine Run.seq (Run.region ?_)
 refine Run.opG wantS_none (ex_assign rfl) rfl ?_
 refine Run.opsEnd (Run.seq (Run.seq (Run.region ?_)))
 refine Run.opG wantS_none (ex_move rfl) rfl ?_
 refine Run.opG wantS_none (ex_len' rfl hs0 lenk33) rfl ?_
 refine Run.opG wantS_none (ex_gtr rfl rfl) rfl ?_
 refine Run.opsEnd ?_
 rcases btf ((decide ((16 : Int) < (a0.length : Int)))) with hc21 | hc21
 ·have h := bif_t hc21 h
  refine Run.condT' rfl hc21 ?_
  refine Run.seq (Run.region ?_)
  refine Run.opG wantS_none (ex_assign rfl) rfl ?_
  refine Run.opsEnd ?_
  cases h
  exact Run.ret Tryz.func62 rfl (res_tmp rfl res_nil) rfl
 ·have h := bif_f hc21 h
  refine Run.condF' rfl hc21 ?_
  refine Run.skip (Run.seq (Run.region ?_))
  refine Run.opG wantS_none (ex_assign rfl) rfl ?_
  refine Run.opsEnd (Run.seq (Run.seq (Run.region ?_)))
  refine Run.opG wantS_none (ex_move rfl) rfl ?_
  refine Run.opG wantS_none (ex_len' rfl hs0 lenk33) rfl ?_
  refine Run.opG wantS_none (ex_move rfl) rfl ?_
  refine Run.opsEnd (Run.block (Run.loop ?_))
  exact Run.pick [1, 5, 12, 13, 14] (run_isWork_1_ok F F a1 (0 : Int) a0 (a0.length : Int) (0 : Int) s1 s0 _ _ _ hs1 hs0 hH h)

theorem mkk62 : makeK Tryz.prog 62 = none := by kernel_rfl
theorem cal62 : callable Tryz.prog 62 = true := by kernel_rfl
theorem off85_2 : fieldOff Tryz.prog 85 2 = some 2 := by kernel_rfl
theorem wha35 : whole Tryz.prog 35 = some (.arr 2 34 1) := by kernel_rfl
theorem agg34 : aggSize Tryz.prog 34 = some none := by kernel_rfl
theorem lenk34 : lenK Tryz.prog 34 = some .sl := by kernel_rfl
def kv9 (a : (List UInt8)) : SV := (.str a)
def kv4 (a : Bool) : SV := (.bool a)
theorem kk9 : keyK Tryz.prog 9 = some .str := by kernel_rfl
theorem kok131 : ∀ a, keyOK Tryz.prog 8 9 (kv9 a) = true := fun a => congrFun (show (fun a => keyOK Tryz.prog 8 9 (kv9 a)) = fun _ => true by kernel_rfl) a
theorem keq131 : ∀ a b, keyEq Tryz.prog 9 (kv9 a) (kv9 b) = some (eqB a b) := (fun a b => keyEq_string kk9)
theorem khe131 : ∀ a b, eqB a b = true → a = b := (fun a b h => eq_of_beq h)
theorem kzr131 : zeroS Tryz.prog 4 = some (kv4 false) := by kernel_rfl
theorem kmt131 : mapT Tryz.prog 131 = some (9, 4) := by kernel_rfl
theorem els34 : elems Tryz.prog 34 = some (.sl 2) := by kernel_rfl
theorem agg127 : aggSize Tryz.prog 127 = some (some 2) := by kernel_rfl
theorem zer127 : zerosOf Tryz.prog 127 = some [(.str []), .nils] := by kernel_rfl
theorem sz127 : szOf Tryz.prog 127 = some 2 := by kernel_rfl
theorem off127_0 : fieldOff Tryz.prog 127 0 = some 0 := by kernel_rfl
theorem off127_1 : fieldOff Tryz.prog 127 1 = some 1 := by kernel_rfl
theorem mkk98 : makeK Tryz.prog 98 = none := by kernel_rfl
theorem cal98 : callable Tryz.prog 98 = true := by kernel_rfl
theorem mkk134 : makeK Tryz.prog 134 = none := by kernel_rfl
theorem cal134 : callable Tryz.prog 134 = true := by kernel_rfl
theorem mkk97 : makeK Tryz.prog 97 = none := by kernel_rfl
theorem cal97 : callable Tryz.prog 97 = true := by kernel_rfl
abbrev glitch_areSegments_f1_post (r : Bool) : SV → Mem → Prop := fun s _ => s = (.bool r)

def glitch_areSegments_f1_2 (F : Nat) (v17 : Bool) : Option (Bool) :=
 some (!v17)

theorem glitch_areSegments_f1_2_ok (F : Nat) : ∀ (v17 : Bool) (Fr : Rd) (M : Mem) (r : Bool) (hH : Has Fr M []), glitch_areSegments_f1_2 F v17 = some r → Run Tryz.prog ⟨⟨97, [], none⟩, []⟩ 19 (glitch_areSegments_f1_post r) [(17, (.bool v17))] [itemC Tryz.prog 97 [1, 0] 15, codeC Tryz.prog 97 [1, 1]] M := by
 intro v17 Fr M r hH h
 rw [glitch_areSegments_f1_2] at h
 refine Run.opG wantS_none (ex_not rfl) rfl ?_
 refine Run.opG wantS_none (ex_assign rfl) rfl ?_
 refine Run.opsEnd ?_
 cases h
 exact Run.ret Tryz.func97 rfl (res_tmp rfl res_nil) rfl

def glitch_areSegments_f1_1 (F : Nat) (v12 : Bool) (c22 : S_api_Segment) : Option (Bool) :=
 bif v12 then
  glitch_areSegments_f1_2 F (decide (c22.To ≤ (1073741824 : Int)))
 else
  glitch_areSegments_f1_2 F false

theorem glitch_areSegments_f1_1_ok (F : Nat) : ∀ (v12 : Bool) (c22 : S_api_Segment) (b22 : Pos) (Fr : Rd) (M : Mem) (r : Bool) (hH : Has Fr M [.obj b22 (.row 106 .whole [(.int .i64 c22.From), (.int .i64 c22.To)])]), glitch_areSegments_f1_1 F v12 c22 = some r → Run Tryz.prog ⟨⟨97, [], none⟩, []⟩ 19 (glitch_areSegments_f1_post r) [(1, (.ptr b22 0)), (12, (.bool v12))] [itemC Tryz.prog 97 [1, 0] 10, codeC Tryz.prog 97 [1, 1]] M := by
 intro v12 c22 b22 Fr M r hH h
 rw [glitch_areSegments_f1_1] at h
 refine Run.opG wantS_none (ex_move rfl) rfl ?_
 rcases btf (v12) with hc25 | hc25
 ·have h := bif_t hc25 h
  refine Run.opG (wantS_yes' rfl rfl hc25) (ex_fieldAddr rfl off106_1) rfl ?_
  refine Run.opG (wantS_yes' rfl rfl hc25) (ex_load1 rfl (hH.cells (i := 0) rfl 1 rfl) rdLe_rfl agg3) rfl ?_
  refine Run.opG (wantS_yes' rfl rfl hc25) (ex_leq rfl rfl) rfl ?_
  refine Run.opG wantS_none (ex_pickT' rfl hc25 rfl rfl) rfl ?_
  exact Run.pick [17] (glitch_areSegments_f1_2_ok F (decide (c22.To ≤ (1073741824 : Int))) _ _ _ (hH.pick [] rfl rfl) h)
 ·have h := bif_f hc25 h
  refine Run.no (wantS_not' rfl rfl hc25) rfl ?_
  refine Run.no (wantS_not' rfl rfl hc25) rfl ?_
  refine Run.no (wantS_not' rfl rfl hc25) rfl ?_
  refine Run.opG wantS_none (ex_pickF' rfl hc25 rfl rfl) rfl ?_
  exact Run.pick [17] (glitch_areSegments_f1_2_ok F false _ _ _ (hH.pick [] rfl rfl) h)

def glitch_areSegments_f1 (F : Nat) (a0 : S_api_Segment) : Option (Bool) :=
 bif (decide ((0 : Int) ≤ a0.From)) then
  glitch_areSegments_f1_1 F (decide (a0.From < a0.To)) a0
 else
  glitch_areSegments_f1_1 F false a0

theorem glitch_areSegments_f1_ok (F : Nat) (a0 : S_api_Segment) (r : Bool) (M : Mem) (h : glitch_areSegments_f1 F a0 = some r) : CallsM Tryz.prog 97 [(.agg [(.int .i64 a0.From), (.int .i64 a0.To)])] M (fun s M' => s = (.bool r) ∧ M' = M) := by
 refine CallsM.plain Tryz.func97 rfl rfl rfl (show Run _ _ _ (glitch_areSegments_f1_post r) _ _ _ from ?_)
 rw [glitch_areSegments_f1] at h
 have hH := Has.nil (frozen M)
 refine Run.seq (Run.region ?_)
 refine Run.opX wantS_none rfl (ExG.box rfl rfl hH) ?_
 rintro _ M23 ⟨b22, rfl, hH23⟩
 refine Run.opG wantS_none (ex_assign rfl) rfl ?_
 refine Run.opsEnd (Run.seq (Run.region ?_))
 refine Run.opG wantS_none (ex_fieldAddr rfl off106_0) rfl ?_
 refine Run.opG wantS_none (ex_load1 rfl (hH23.cells (i := 0) rfl 0 rfl) rdLe_rfl agg3) rfl ?_
 refine Run.opG wantS_none (ex_leq rfl rfl) rfl ?_
 refine Run.opG wantS_none (ex_move rfl) rfl ?_
 rcases btf ((decide ((0 : Int) ≤ a0.From))) with hc24 | hc24
 ·have h := bif_t hc24 h
  refine Run.opG (wantS_yes' rfl rfl hc24) (ex_fieldAddr rfl off106_0) rfl ?_
  refine Run.opG (wantS_yes' rfl rfl hc24) (ex_load1 rfl (hH23.cells (i := 0) rfl 0 rfl) rdLe_rfl agg3) rfl ?_
  refine Run.opG (wantS_yes' rfl rfl hc24) (ex_fieldAddr rfl off106_1) rfl ?_
  refine Run.opG (wantS_yes' rfl rfl hc24) (ex_load1 rfl (hH23.cells (i := 0) rfl 1 rfl) rdLe_rfl agg3) rfl ?_
  refine Run.opG (wantS_yes' rfl rfl hc24) (ex_lss rfl rfl) rfl ?_
  refine Run.opG wantS_none (ex_pickT' rfl hc24 rfl rfl) rfl ?_
  exact Run.pick [1, 12] (glitch_areSegments_f1_1_ok F (decide (a0.From < a0.To)) a0 b22 _ _ _ hH23 h)
 ·have h := bif_f hc24 h
  refine Run.no (wantS_not' rfl rfl hc24) rfl ?_
  refine Run.no (wantS_not' rfl rfl hc24) rfl ?_
  refine Run.no (wantS_not' rfl rfl hc24) rfl ?_
  refine Run.no (wantS_not' rfl rfl hc24) rfl ?_
  refine Run.no (wantS_not' rfl rfl hc24) rfl ?_
  refine Run.opG wantS_none (ex_pickF' rfl hc24 rfl rfl) rfl ?_
  exact Run.pick [1, 12] (glitch_areSegments_f1_1_ok F false a0 b22 _ _ _ hH23 h)

abbrev glitch_areSegments_post (r : Bool) : SV → Mem → Prop := fun s _ => s = (.bool r)

def glitch_areSegments_2 (F : Nat) (v12 : Bool) : Option (Bool) :=
 some v12

theorem glitch_areSegments_2_ok (F : Nat) : ∀ (v12 : Bool) (Fr : Rd) (M : Mem) (r : Bool) (hH : Has Fr M []), glitch_areSegments_2 F v12 = some r → Run Tryz.prog ⟨⟨71, [], none⟩, []⟩ 13 (glitch_areSegments_post r) [(12, (.bool v12))] [itemC Tryz.prog 71 [1, 1, 0] 9, codeC Tryz.prog 71 [1, 1, 1]] M := by
 intro v12 Fr M r hH h
 rw [glitch_areSegments_2] at h
 refine Run.opG wantS_none (ex_assign rfl) rfl ?_
 refine Run.opsEnd ?_
 cases h
 exact Run.ret Tryz.func71 rfl (res_tmp rfl res_nil) rfl

def glitch_areSegments_1 (F : Nat) : Nat → (List S_api_Segment) → Int → Int → Bool → Option (Bool)
 | 0, _, _, _, _ => none
 | N + 1, v0, v7, v8, v7_f2 =>
  bif (decide (v8 < v7)) then
   bnd (idx v0 v8) fun x24 =>
   bnd (glitch_areSegments_f1 F x24) fun r26 =>
   bif r26 then
    bif v7_f2 then
     glitch_areSegments_2 F (!(decide ((0 : Int) ≤ v8)))
    else
     glitch_areSegments_2 F false
   else
    (glitch_areSegments_1 F N) v0 v7 (w64 (v8 + (1 : Int))) v7_f2
  else
   bif v7_f2 then
    glitch_areSegments_2 F (!(decide ((0 : Int) ≤ ((-1) : Int))))
   else
    glitch_areSegments_2 F false

theorem glitch_areSegments_1_ok (F : Nat) : ∀ (N : Nat), ∀ (v0 : (List S_api_Segment)) (v7 v8 : Int) (v7_f2 : Bool) (sv0 : SV) (Fr : Rd) (M : Mem) (r : Bool) (hv0 : Slc Fr 2 (FlatR enc106) sv0 v0) (hH : Has Fr M []), glitch_areSegments_1 F N v0 v7 v8 v7_f2 = some r → Run Tryz.prog ⟨⟨134, [], none⟩, [.mk ⟨98, [], none⟩ 9 (treeOf []) [itemC Tryz.prog 98 [1, 0] 2, codeC Tryz.prog 98 [1, 1]], .mk ⟨71, [], none⟩ 13 (treeOf [(7, (.bool v7_f2))]) [itemC Tryz.prog 71 [1, 1, 0] 6, codeC Tryz.prog 71 [1, 1, 1]]]⟩ 19 (glitch_areSegments_post r) [(0, sv0), (1, (.fn (.func 97) [] [])), (7, (.int .i64 v7)), (8, (.int .i64 v8))] [codeC Tryz.prog 134 [1, 0, 1, 0, 0], loopC Tryz.prog 134 [1, 0, 1, 0, 0], .inBlock 0, codeC Tryz.prog 134 [1, 1]] M := by
 intro N
 induction N with
 | zero =>
  intro v0 v7 v8 v7_f2 sv0 Fr M r hv0 hH h
  simp [glitch_areSegments_1] at h
 | succ N ih =>
  intro v0 v7 v8 v7_f2 sv0 Fr M r hv0 hH h
  rw [glitch_areSegments_1] at h
  refine Run.seq (Run.region ?_)
  refine Run.opG wantS_none (ex_lss rfl rfl) rfl ?_
  refine Run.opsEnd (Run.seq ?_)
  rcases btf ((decide (v8 < v7))) with hc22 | hc22
  ·have h := bif_t hc22 h
   refine Run.condT' rfl hc22 ?_
   refine Run.skip (Run.seq (Run.block (Run.seq (Run.region ?_))))
   refine Run.opG wantS_none (ex_move rfl) rfl ?_
   refine Run.opG wantS_none (ex_assign rfl) rfl ?_
   refine Run.opsEnd (Run.seq (Run.region ?_))
   refine Run.opG wantS_none (ex_move rfl) rfl ?_
   refine Run.opG wantS_none (ex_move rfl) rfl ?_
   refine Run.opG wantS_none (ex_move rfl) rfl ?_
   obtain ⟨x24, hx24, h⟩ := bnd_some h
   obtain ⟨p24, o24, _, hx24, hp24, rfl⟩ := sl_elem (P := Tryz.prog) (t := 33) (kk := .i64) hv0 hx24 els33
   refine Run.opG wantS_none (ex_elX rfl rfl hx24) rfl ?_
   refine Run.opG wantS_none (ex_loadA rfl (hH.ptrF hp24) rdLe_rfl agg106 rfl rfl rfl) rfl ?_
   obtain ⟨r26, hr26, h⟩ := bnd_some h
   refine Run.callP wantS_none (ex_closure rfl rfl mkk97 cal97) rfl (glitch_areSegments_f1_ok F x24 _ _ hr26) ?_
   refine Run.opsEnd ?_
   rcases btf (r26) with hc28 | hc28
   ·have h := bif_t hc28 h
    refine Run.condT' rfl hc28 ?_
    refine Run.seq (Run.region ?_)
    refine Run.opG wantS_none (ex_move rfl) rfl ?_
    refine Run.opG wantS_none (ex_assign rfl) rfl ?_
    refine Run.opsEnd ?_
    refine Run.retTo Tryz.func134 rfl (res_tmp rfl res_nil) rfl ?_
    refine Run.opG wantS_none (ex_geq rfl rfl) rfl ?_
    refine Run.opG wantS_none (ex_assign rfl) rfl ?_
    refine Run.opsEnd ?_
    refine Run.retTo Tryz.func98 rfl (res_tmp rfl res_nil) rfl ?_
    rcases btf (v7_f2) with hc29 | hc29
    ·have h := bif_t hc29 h
     refine Run.opG (wantS_yes' rfl rfl hc29) (ex_not rfl) rfl ?_
     refine Run.opG wantS_none (ex_pickT' rfl hc29 rfl rfl) rfl ?_
     exact Run.pick [12] (glitch_areSegments_2_ok F (!(decide ((0 : Int) ≤ v8))) _ _ _ hH h)
    ·have h := bif_f hc29 h
     refine Run.no (wantS_not' rfl rfl hc29) rfl ?_
     refine Run.opG wantS_none (ex_pickF' rfl hc29 rfl rfl) rfl ?_
     exact Run.pick [12] (glitch_areSegments_2_ok F false _ _ _ hH h)
   ·have h := bif_f hc28 h
    refine Run.condF' rfl hc28 ?_
    refine Run.skip (Run.inBlock (Run.region ?_))
    refine Run.opG wantS_none (ex_add rfl rfl) rfl ?_
    refine Run.opG wantS_none (ex_move rfl) rfl ?_
    refine Run.opsEnd (Run.inLoop ?_)
    exact Run.low (.cons (fle_pick [] rfl) (.cons (fle_pick [7] rfl) .nil)) (Run.pick [0, 1, 7, 8] (ih v0 v7 (w64 (v8 + (1 : Int))) v7_f2 sv0 _ _ _ hv0 hH h))
  ·have h := bif_f hc22 h
   refine Run.condF' rfl hc22 ?_
   refine Run.exit rfl (Run.seq (Run.region ?_))
   refine Run.opG wantS_none (ex_assign rfl) rfl ?_
   refine Run.opsEnd ?_
   refine Run.retTo Tryz.func134 rfl (res_tmp rfl res_nil) rfl ?_
   refine Run.opG wantS_none (ex_geq rfl rfl) rfl ?_
   refine Run.opG wantS_none (ex_assign rfl) rfl ?_
   refine Run.opsEnd ?_
   refine Run.retTo Tryz.func98 rfl (res_tmp rfl res_nil) rfl ?_
   rcases btf (v7_f2) with hc30 | hc30
   ·have h := bif_t hc30 h
    refine Run.opG (wantS_yes' rfl rfl hc30) (ex_not rfl) rfl ?_
    refine Run.opG wantS_none (ex_pickT' rfl hc30 rfl rfl) rfl ?_
    exact Run.pick [12] (glitch_areSegments_2_ok F (!(decide ((0 : Int) ≤ ((-1) : Int)))) _ _ _ hH h)
   ·have h := bif_f hc30 h
    refine Run.no (wantS_not' rfl rfl hc30) rfl ?_
    refine Run.opG wantS_none (ex_pickF' rfl hc30 rfl rfl) rfl ?_
    exact Run.pick [12] (glitch_areSegments_2_ok F false _ _ _ hH h)

def glitch_areSegments (F : Nat) (a0 : (List S_api_Segment)) : Option (Bool) :=
 bif (decide ((a0.length : Int) ≤ (32 : Int))) then
  glitch_areSegments_1 F F a0 (a0.length : Int) (0 : Int) (decide ((a0.length : Int) ≤ (32 : Int)))
 else
  glitch_areSegments_2 F false

theorem glitch_areSegments_ok (F : Nat) (a0 : (List S_api_Segment)) (s0 : SV) (r : Bool) (M : Mem) (hs0 : Slc (rd M) 2 (FlatR enc106) s0 a0) (h : glitch_areSegments F a0 = some r) : CallsM Tryz.prog 71 [s0] M (fun s M' => s = (.bool r) ∧ M' = M) := by
 refine CallsM.plain Tryz.func71 rfl rfl rfl (show Run _ _ _ (glitch_areSegments_post r) _ _ _ from ?_)
 rw [glitch_areSegments] at h
 replace hs0 := hs0.mono (rdLe_frozen M) (fun _ _ h => h)
 have hH := Has.nil (frozen M)
 refine Run.seq (Run.region ?_)
 refine Run.opG wantS_none (ex_assign rfl) rfl ?_
 refine Run.opsEnd (Run.seq (Run.region ?_))
 refine Run.opG wantS_none (ex_assign rfl) rfl ?_
 refine Run.opsEnd (Run.seq (Run.region ?_))
 refine Run.opG wantS_none (ex_move rfl) rfl ?_
 refine Run.opG wantS_none (ex_len' rfl hs0 lenk33) rfl ?_
 refine Run.opG wantS_none (ex_leq rfl rfl) rfl ?_
 refine Run.opG wantS_none (ex_move rfl) rfl ?_
 rcases btf ((decide ((a0.length : Int) ≤ (32 : Int)))) with hc21 | hc21
 ·have h := bif_t hc21 h
  refine Run.opG (wantS_yes' rfl rfl hc21) (ex_move rfl) rfl ?_
  refine Run.opG (wantS_yes' rfl rfl hc21) (ex_move rfl) rfl ?_
  refine Run.enter (wantS_yes' rfl rfl hc21) (ex_call rfl mkk98 cal98) Tryz.func98 rfl rfl ?_
  refine Run.seq (Run.region ?_)
  refine Run.opG wantS_none (ex_assign rfl) rfl ?_
  refine Run.opsEnd (Run.seq (Run.region ?_))
  refine Run.opG wantS_none (ex_move rfl) rfl ?_
  refine Run.opG wantS_none (ex_move rfl) rfl ?_
  refine Run.enter wantS_none (ex_call rfl mkk134 cal134) Tryz.func134 rfl rfl ?_
  refine Run.seq (Run.region ?_)
  refine Run.opG wantS_none (ex_assign rfl) rfl ?_
  refine Run.opsEnd (Run.seq (Run.seq (Run.region ?_)))
  refine Run.opG wantS_none (ex_move rfl) rfl ?_
  refine Run.opG wantS_none (ex_len' rfl hs0 lenk33) rfl ?_
  refine Run.opG wantS_none (ex_move rfl) rfl ?_
  refine Run.opsEnd (Run.block (Run.loop ?_))
  exact Run.low (.cons (fle_pick [] rfl) (.cons (fle_pick [7] rfl) .nil)) (Run.pick [0, 1, 7, 8] (glitch_areSegments_1_ok F F a0 (a0.length : Int) (0 : Int) (decide ((a0.length : Int) ≤ (32 : Int))) s0 _ _ _ hs0 hH h))
 ·have h := bif_f hc21 h
  refine Run.no (wantS_not' rfl rfl hc21) rfl ?_
  refine Run.no (wantS_not' rfl rfl hc21) rfl ?_
  refine Run.no (wantS_not' rfl rfl hc21) rfl ?_
  refine Run.no (wantS_not' rfl rfl hc21) rfl ?_
  refine Run.opG wantS_none (ex_pickF' rfl hc21 rfl rfl) rfl ?_
  exact Run.pick [12] (glitch_areSegments_2_ok F false _ _ _ hH h)

theorem mkk71 : makeK Tryz.prog 71 = none := by kernel_rfl
theorem cal71 : callable Tryz.prog 71 = true := by kernel_rfl
abbrev glitch_areVetoes_post (r : Bool) : SV → Mem → Prop := fun s _ => s = (.bool r)

def glitch_areVetoes_3 (F : Nat) (hd1 : (List S_api_Veto) → Int → Int → (List ((List UInt8) × Bool)) → Option (Bool)) (v10 : (List S_api_Veto)) (v11 v12 : Int) (v31 : Bool) (c29_0 : (List UInt8)) (c29_1 : (List S_api_Segment)) (l23 : (List ((List UInt8) × Bool))) : Option (Bool) :=
 bif v31 then
  some false
 else
  hd1 v10 v11 (w64 (v12 + (1 : Int))) (mput eqB l23 c29_0 true)

theorem glitch_areVetoes_3_ok (F : Nat) (hd1 : (List S_api_Veto) → Int → Int → (List ((List UInt8) × Bool)) → Option (Bool)) (hhd1 : ∀ (v10 : (List S_api_Veto)) (v11 v12 : Int) (l23 : (List ((List UInt8) × Bool))) (sv10 : SV) (b23 : Pos) (Fr : Rd) (M : Mem) (r : Bool) (hv10 : Slc Fr 2 (rep127 Fr) sv10 v10) (hH : Has Fr M [.obj b23 (.map (mapES kv9 kv4 0 l23) l23.length)]), hd1 v10 v11 v12 l23 = some r → Run Tryz.prog ⟨⟨43, [], none⟩, []⟩ 36 (glitch_areVetoes_post r) [(3, (.map b23)), (10, sv10), (11, (.int .i64 v11)), (12, (.int .i64 v12))] [codeC Tryz.prog 43 [1, 1, 1, 0, 1, 0, 0], loopC Tryz.prog 43 [1, 1, 1, 0, 1, 0, 0], .inBlock 0, codeC Tryz.prog 43 [1, 1, 1, 1]] M) : ∀ (v10 : (List S_api_Veto)) (v11 v12 : Int) (v31 : Bool) (c29_0 : (List UInt8)) (c29_1 : (List S_api_Segment)) (l23 : (List ((List UInt8) × Bool))) (sv10 sc29_1 : SV) (b23 b29 : Pos) (Fr : Rd) (M : Mem) (r : Bool) (hv10 : Slc Fr 2 (rep127 Fr) sv10 v10) (hc29_1 : Slc Fr 2 (FlatR enc106) sc29_1 c29_1) (hH : Has Fr M [.obj b23 (.map (mapES kv9 kv4 0 l23) l23.length), .obj b29 (.row 127 .whole [(.str c29_0), sc29_1])]), glitch_areVetoes_3 F hd1 v10 v11 v12 v31 c29_0 c29_1 l23 = some r → Run Tryz.prog ⟨⟨43, [], none⟩, []⟩ 36 (glitch_areVetoes_post r) [(3, (.map b23)), (5, (.ptr b29 0)), (10, sv10), (11, (.int .i64 v11)), (12, (.int .i64 v12)), (31, (.bool v31))] [codeC Tryz.prog 43 [1, 1, 1, 0, 1, 0, 0, 1, 1, 0, 0, 1, 0, 1], codeC Tryz.prog 43 [1, 1, 1, 0, 1, 0, 0, 1, 1, 0, 0, 1, 1], .inBlock 1, codeC Tryz.prog 43 [1, 1, 1, 0, 1, 0, 0, 1, 1, 1], loopC Tryz.prog 43 [1, 1, 1, 0, 1, 0, 0], .inBlock 0, codeC Tryz.prog 43 [1, 1, 1, 1]] M := by
 intro v10 v11 v12 v31 c29_0 c29_1 l23 sv10 sc29_1 b23 b29 Fr M r hv10 hc29_1 hH h
 rw [glitch_areVetoes_3] at h
 rcases btf (v31) with hc37 | hc37
 ·have h := bif_t hc37 h
  refine Run.condT' rfl hc37 ?_
  refine Run.seq (Run.region ?_)
  refine Run.opG wantS_none (ex_assign rfl) rfl ?_
  refine Run.opsEnd ?_
  cases h
  exact Run.ret Tryz.func43 rfl (res_tmp rfl res_nil) rfl
 ·have h := bif_f hc37 h
  refine Run.condF' rfl hc37 ?_
  refine Run.skip (Run.region ?_)
  refine Run.opG wantS_none (ex_move rfl) rfl ?_
  refine Run.opG wantS_none (ex_fieldAddr rfl off127_0) rfl ?_
  refine Run.opG wantS_none (ex_load1 rfl (hH.cells (i := 1) rfl 0 rfl) rdLe_rfl agg9) rfl ?_
  refine Run.opX wantS_none rfl (ExG.mapUpdate (ke := kv9) (ve := kv4) (k := c29_0) (v := true) rfl rfl rfl hH (i := 0) rfl kmt131 (kok131 _) keq131 khe131 rfl rfl) ?_
  rintro _ M38 ⟨rfl, (hH38 : Has Fr M38 [.obj b23 (.map (mapES kv9 kv4 0 (mput eqB l23 c29_0 true)) (mput eqB l23 c29_0 true).length), .obj b29 (.row 127 .whole [(.str c29_0), sc29_1])])⟩
  refine Run.opsEnd (Run.inBlock (Run.region ?_))
  refine Run.opG wantS_none (ex_add rfl rfl) rfl ?_
  refine Run.opG wantS_none (ex_move rfl) rfl ?_
  refine Run.opsEnd (Run.inLoop ?_)
  exact Run.pick [3, 10, 11, 12] (hhd1 v10 v11 (w64 (v12 + (1 : Int))) (mput eqB l23 c29_0 true) sv10 b23 _ _ _ hv10 (hH38.pick [0] rfl rfl) h)

def glitch_areVetoes_2 (F : Nat) (hd1 : (List S_api_Veto) → Int → Int → (List ((List UInt8) × Bool)) → Option (Bool)) (v10 : (List S_api_Veto)) (v11 v12 : Int) (v25 : Bool) (c29_0 : (List UInt8)) (c29_1 : (List S_api_Segment)) (l23 : (List ((List UInt8) × Bool))) : Option (Bool) :=
 bif v25 then
  glitch_areVetoes_3 F hd1 v10 v11 v12 true c29_0 c29_1 l23
 else
  bnd (glitch_areSegments F c29_1) fun r40 =>
  glitch_areVetoes_3 F hd1 v10 v11 v12 (!r40) c29_0 c29_1 l23

theorem glitch_areVetoes_2_ok (F : Nat) (hd1 : (List S_api_Veto) → Int → Int → (List ((List UInt8) × Bool)) → Option (Bool)) (hhd1 : ∀ (v10 : (List S_api_Veto)) (v11 v12 : Int) (l23 : (List ((List UInt8) × Bool))) (sv10 : SV) (b23 : Pos) (Fr : Rd) (M : Mem) (r : Bool) (hv10 : Slc Fr 2 (rep127 Fr) sv10 v10) (hH : Has Fr M [.obj b23 (.map (mapES kv9 kv4 0 l23) l23.length)]), hd1 v10 v11 v12 l23 = some r → Run Tryz.prog ⟨⟨43, [], none⟩, []⟩ 36 (glitch_areVetoes_post r) [(3, (.map b23)), (10, sv10), (11, (.int .i64 v11)), (12, (.int .i64 v12))] [codeC Tryz.prog 43 [1, 1, 1, 0, 1, 0, 0], loopC Tryz.prog 43 [1, 1, 1, 0, 1, 0, 0], .inBlock 0, codeC Tryz.prog 43 [1, 1, 1, 1]] M) : ∀ (v10 : (List S_api_Veto)) (v11 v12 : Int) (v25 : Bool) (c29_0 : (List UInt8)) (c29_1 : (List S_api_Segment)) (l23 : (List ((List UInt8) × Bool))) (sv10 sc29_1 : SV) (b23 b29 : Pos) (Fr : Rd) (M : Mem) (r : Bool) (hv10 : Slc Fr 2 (rep127 Fr) sv10 v10) (hc29_1 : Slc Fr 2 (FlatR enc106) sc29_1 c29_1) (hH : Has Fr M [.obj b23 (.map (mapES kv9 kv4 0 l23) l23.length), .obj b29 (.row 127 .whole [(.str c29_0), sc29_1])]), glitch_areVetoes_2 F hd1 v10 v11 v12 v25 c29_0 c29_1 l23 = some r → Run Tryz.prog ⟨⟨43, [], none⟩, []⟩ 36 (glitch_areVetoes_post r) [(3, (.map b23)), (5, (.ptr b29 0)), (10, sv10), (11, (.int .i64 v11)), (12, (.int .i64 v12)), (25, (.bool v25))] [itemC Tryz.prog 43 [1, 1, 1, 0, 1, 0, 0, 1, 1, 0, 0, 1, 0, 0] 10, codeC Tryz.prog 43 [1, 1, 1, 0, 1, 0, 0, 1, 1, 0, 0, 1, 0, 1], codeC Tryz.prog 43 [1, 1, 1, 0, 1, 0, 0, 1, 1, 0, 0, 1, 1], .inBlock 1, codeC Tryz.prog 43 [1, 1, 1, 0, 1, 0, 0, 1, 1, 1], loopC Tryz.prog 43 [1, 1, 1, 0, 1, 0, 0], .inBlock 0, codeC Tryz.prog 43 [1, 1, 1, 1]] M := by
 intro v10 v11 v12 v25 c29_0 c29_1 l23 sv10 sc29_1 b23 b29 Fr M r hv10 hc29_1 hH h
 rw [glitch_areVetoes_2] at h
 refine Run.opG wantS_none (ex_move rfl) rfl ?_
 rcases btf (v25) with hc36 | hc36
 ·have h := bif_t hc36 h
  refine Run.no (wantS_not' rfl rfl hc36) rfl ?_
  refine Run.no (wantS_not' rfl rfl hc36) rfl ?_
  refine Run.no (wantS_not' rfl rfl hc36) rfl ?_
  refine Run.no (wantS_not' rfl rfl hc36) rfl ?_
  refine Run.opG wantS_none (ex_pickT' rfl hc36 rfl rfl) rfl ?_
  refine Run.opsEnd ?_
  exact Run.pick [3, 5, 10, 11, 12, 31] (glitch_areVetoes_3_ok F hd1 hhd1 v10 v11 v12 true c29_0 c29_1 l23 sv10 sc29_1 b23 b29 _ _ _ hv10 hc29_1 hH h)
 ·have h := bif_f hc36 h
  refine Run.opG (wantS_yes' rfl rfl hc36) (ex_fieldAddr rfl off127_1) rfl ?_
  refine Run.opG (wantS_yes' rfl rfl hc36) (ex_load1 rfl (hH.cells (i := 1) rfl 1 rfl) rdLe_rfl agg33) rfl ?_
  obtain ⟨r40, hr40, h⟩ := bnd_some h
  refine Run.callP (wantS_yes' rfl rfl hc36) (ex_call rfl mkk71 cal71) rfl (glitch_areSegments_ok F c29_1 sc29_1 _ _ (hH.slcF hc29_1) hr40) ?_
  refine Run.opG (wantS_yes' rfl rfl hc36) (ex_not rfl) rfl ?_
  refine Run.opG wantS_none (ex_pickF' rfl hc36 rfl rfl) rfl ?_
  refine Run.opsEnd ?_
  exact Run.pick [3, 5, 10, 11, 12, 31] (glitch_areVetoes_3_ok F hd1 hhd1 v10 v11 v12 (!r40) c29_0 c29_1 l23 sv10 sc29_1 b23 b29 _ _ _ hv10 hc29_1 hH h)

def glitch_areVetoes_1 (F : Nat) : Nat → (List S_api_Veto) → Int → Int → (List ((List UInt8) × Bool)) → Option (Bool)
 | 0, _, _, _, _ => none
 | N + 1, v10, v11, v12, l23 =>
  bif (decide (v12 < v11)) then
   bnd (idx v10 v12) fun x27 =>
   bnd (num_IsName F x27.Name) fun r33 =>
   bif (!r33) then
    glitch_areVetoes_2 F (glitch_areVetoes_1 F N) v10 v11 v12 true x27.Name x27.Segments l23
   else
    glitch_areVetoes_2 F (glitch_areVetoes_1 F N) v10 v11 v12 (mget eqB false l23 x27.Name) x27.Name x27.Segments l23
  else
   some true

theorem glitch_areVetoes_1_ok (F : Nat) : ∀ (N : Nat), ∀ (v10 : (List S_api_Veto)) (v11 v12 : Int) (l23 : (List ((List UInt8) × Bool))) (sv10 : SV) (b23 : Pos) (Fr : Rd) (M : Mem) (r : Bool) (hv10 : Slc Fr 2 (rep127 Fr) sv10 v10) (hH : Has Fr M [.obj b23 (.map (mapES kv9 kv4 0 l23) l23.length)]), glitch_areVetoes_1 F N v10 v11 v12 l23 = some r → Run Tryz.prog ⟨⟨43, [], none⟩, []⟩ 36 (glitch_areVetoes_post r) [(3, (.map b23)), (10, sv10), (11, (.int .i64 v11)), (12, (.int .i64 v12))] [codeC Tryz.prog 43 [1, 1, 1, 0, 1, 0, 0], loopC Tryz.prog 43 [1, 1, 1, 0, 1, 0, 0], .inBlock 0, codeC Tryz.prog 43 [1, 1, 1, 1]] M := by
 intro N
 induction N with
 | zero =>
  intro v10 v11 v12 l23 sv10 b23 Fr M r hv10 hH h
  simp [glitch_areVetoes_1] at h
 | succ N ih =>
  intro v10 v11 v12 l23 sv10 b23 Fr M r hv10 hH h
  rw [glitch_areVetoes_1] at h
  refine Run.seq (Run.region ?_)
  refine Run.opG wantS_none (ex_lss rfl rfl) rfl ?_
  refine Run.opsEnd (Run.seq ?_)
  rcases btf ((decide (v12 < v11))) with hc25 | hc25
  ·have h := bif_t hc25 h
   refine Run.condT' rfl hc25 ?_
   refine Run.skip (Run.seq (Run.block (Run.seq (Run.region ?_))))
   obtain ⟨x27, hx27, h⟩ := bnd_some h
   obtain ⟨p27, o27, _, hx27, hp27, ⟨q27_0, rfl, hq27_0⟩⟩ := sl_elem (P := Tryz.prog) (t := 34) (kk := .i64) hv10 hx27 els34
   refine Run.opG wantS_none (ex_elX rfl rfl hx27) rfl ?_
   refine Run.opG wantS_none (ex_loadA rfl (hH.ptrF hp27) rdLe_rfl agg127 rfl rfl rfl) rfl ?_
   refine Run.opX wantS_none rfl (ExG.new (v := fun b => .ptr b 0) (ex_alloc zer127) hH) ?_
   rintro _ M30 ⟨b29, rfl, hH30⟩
   refine Run.opX wantS_none rfl (ExG.storeC (c' := [(.str x27.Name), q27_0]) rfl rfl rfl hH30 (i := 0) rfl sz127 rfl rfl rfl (ones_cons rfl (ones_cons (slc_one hq27_0) ones_nil)) rfl) ?_
   rintro _ M31 ⟨rfl, (hH31 : Has Fr M31 [.obj b29 (.row 127 .whole [(.str x27.Name), q27_0]), .obj b23 (.map (mapES kv9 kv4 0 l23) l23.length)])⟩
   refine Run.opsEnd (Run.seq (Run.seq (Run.region ?_)))
   refine Run.opG wantS_none (ex_fieldAddr rfl off127_0) rfl ?_
   refine Run.opG wantS_none (ex_load1 rfl (hH31.cells (i := 0) rfl 0 rfl) rdLe_rfl agg9) rfl ?_
   obtain ⟨r33, hr33, h⟩ := bnd_some h
   refine Run.callP wantS_none (ex_call rfl mkk70 cal70) rfl (num_IsName_ok F x27.Name _ _ hr33) ?_
   refine Run.opG wantS_none (ex_not rfl) rfl ?_
   refine Run.opG wantS_none (ex_move rfl) rfl ?_
   rcases btf ((!r33)) with hc35 | hc35
   ·have h := bif_t hc35 h
    refine Run.no (wantS_not' rfl rfl hc35) rfl ?_
    refine Run.no (wantS_not' rfl rfl hc35) rfl ?_
    refine Run.no (wantS_not' rfl rfl hc35) rfl ?_
    refine Run.no (wantS_not' rfl rfl hc35) rfl ?_
    refine Run.opG wantS_none (ex_pickT' rfl hc35 rfl rfl) rfl ?_
    exact Run.pick [3, 5, 10, 11, 12, 25] (glitch_areVetoes_2_ok F (glitch_areVetoes_1 F N) ih v10 v11 v12 true x27.Name x27.Segments l23 sv10 q27_0 b23 b29 _ _ _ hv10 hq27_0 (hH31.pick [1, 0] rfl rfl) h)
   ·have h := bif_f hc35 h
    refine Run.opG (wantS_yes' rfl rfl hc35) (ex_move rfl) rfl ?_
    refine Run.opG (wantS_yes' rfl rfl hc35) (ex_fieldAddr rfl off127_0) rfl ?_
    refine Run.opG (wantS_yes' rfl rfl hc35) (ex_load1 rfl (hH31.cells (i := 0) rfl 0 rfl) rdLe_rfl agg9) rfl ?_
    refine Run.opG (wantS_yes' rfl rfl hc35) (ex_lookup (ke := kv9) (ve := kv4) (k := x27.Name) rfl rfl hH31 (i := 1) rfl kmt131 (kok131 _) keq131 khe131 kzr131) rfl ?_
    refine Run.opG wantS_none (ex_pickF' rfl hc35 rfl rfl) rfl ?_
    exact Run.pick [3, 5, 10, 11, 12, 25] (glitch_areVetoes_2_ok F (glitch_areVetoes_1 F N) ih v10 v11 v12 (mget eqB false l23 x27.Name) x27.Name x27.Segments l23 sv10 q27_0 b23 b29 _ _ _ hv10 hq27_0 (hH31.pick [1, 0] rfl rfl) h)
  ·have h := bif_f hc25 h
   refine Run.condF' rfl hc25 ?_
   refine Run.exit rfl (Run.seq (Run.region ?_))
   refine Run.opG wantS_none (ex_assign rfl) rfl ?_
   refine Run.opsEnd ?_
   cases h
   exact Run.ret Tryz.func43 rfl (res_tmp rfl res_nil) rfl

def glitch_areVetoes (F : Nat) (a0 : (List S_api_Veto)) : Option (Bool) :=
 bif (decide ((12 : Int) < (a0.length : Int))) then
  some false
 else
  glitch_areVetoes_1 F F a0 (a0.length : Int) (0 : Int) ([] : List ((List UInt8) × Bool))

theorem glitch_areVetoes_ok (F : Nat) (a0 : (List S_api_Veto)) (s0 : SV) (r : Bool) (M : Mem) (hs0 : Slc (rd M) 2 (rep127 (rd M)) s0 a0) (h : glitch_areVetoes F a0 = some r) : CallsM Tryz.prog 43 [s0] M (fun s M' => s = (.bool r) ∧ M' = M) := by
 refine CallsM.plain Tryz.func43 rfl rfl rfl (show Run _ _ _ (glitch_areVetoes_post r) _ _ _ from ?_)
 rw [glitch_areVetoes] at h
 replace hs0 := hs0.mono (rdLe_frozen M) (fun _ _ => rep127_mo (rdLe_frozen M))
 have hH := Has.nil (frozen M)
 refine Run.seq (Run.region ?_)
 refine Run.opG wantS_none (ex_assign rfl) rfl ?_
 refine Run.opsEnd (Run.seq (Run.seq (Run.region ?_)))
 refine Run.opG wantS_none (ex_move rfl) rfl ?_
 refine Run.opG wantS_none (ex_len' rfl hs0 lenk34) rfl ?_
 refine Run.opG wantS_none (ex_gtr rfl rfl) rfl ?_
 refine Run.opsEnd ?_
 rcases btf ((decide ((12 : Int) < (a0.length : Int)))) with hc21 | hc21
 ·have h := bif_t hc21 h
  refine Run.condT' rfl hc21 ?_
  refine Run.seq (Run.region ?_)
  refine Run.opG wantS_none (ex_assign rfl) rfl ?_
  refine Run.opsEnd ?_
  cases h
  exact Run.ret Tryz.func43 rfl (res_tmp rfl res_nil) rfl
 ·have h := bif_f hc21 h
  refine Run.condF' rfl hc21 ?_
  refine Run.skip (Run.seq (Run.region ?_))
  refine Run.opX wantS_none rfl (ExG.makeMap kv9 kv4 hH) ?_
  rintro _ M24 ⟨b23, rfl, hH24⟩
  refine Run.opG wantS_none (ex_assign rfl) rfl ?_
  refine Run.opsEnd (Run.seq (Run.seq (Run.region ?_)))
  refine Run.opG wantS_none (ex_move rfl) rfl ?_
  refine Run.opG wantS_none (ex_len' rfl hs0 lenk34) rfl ?_
  refine Run.opG wantS_none (ex_move rfl) rfl ?_
  refine Run.opsEnd (Run.block (Run.loop ?_))
  exact Run.pick [3, 10, 11, 12] (glitch_areVetoes_1_ok F F a0 (a0.length : Int) (0 : Int) ([] : List ((List UInt8) × Bool)) s0 b23 _ _ _ hs0 hH24 h)

theorem mkk43 : makeK Tryz.prog 43 = none := by kernel_rfl
theorem cal43 : callable Tryz.prog 43 = true := by kernel_rfl
abbrev glitch_CheckVetoes_post (r : Int) : SV → Mem → Prop := fun s _ => s = (.int .i64 r)

def glitch_CheckVetoes (F : Nat) (a0 : (List S_api_Veto)) : Option (Int) :=
 bnd (glitch_areVetoes F a0) fun r22 =>
 bif (!r22) then
  some (63 : Int)
 else
  some (0 : Int)

theorem glitch_CheckVetoes_ok (F : Nat) (a0 : (List S_api_Veto)) (s0 : SV) (r : Int) (M : Mem) (hs0 : Slc (rd M) 2 (rep127 (rd M)) s0 a0) (h : glitch_CheckVetoes F a0 = some r) : CallsM Tryz.prog 63 [s0] M (fun s M' => s = (.int .i64 r) ∧ M' = M) := by
 refine CallsM.plain Tryz.func63 rfl rfl rfl (show Run _ _ _ (glitch_CheckVetoes_post r) _ _ _ from ?_)
 rw [glitch_CheckVetoes] at h
 replace hs0 := hs0.mono (rdLe_frozen M) (fun _ _ => rep127_mo (rdLe_frozen M))
 have hH := Has.nil (frozen M)
 refine Run.seq (Run.region ?_)
 refine Run.opG wantS_none (ex_assign rfl) rfl ?_
 refine Run.opsEnd (Run.seq (Run.seq (Run.region ?_)))
 refine Run.opG wantS_none (ex_move rfl) rfl ?_
 obtain ⟨r22, hr22, h⟩ := bnd_some h
 refine Run.callP wantS_none (ex_call rfl mkk43 cal43) rfl (glitch_areVetoes_ok F a0 s0 _ _ ((hs0).mono hH.le (fun _ _ => rep127_mo hH.le)) hr22) ?_
 refine Run.opG wantS_none (ex_not rfl) rfl ?_
 refine Run.opsEnd ?_
 rcases btf ((!r22)) with hc24 | hc24
 ·have h := bif_t hc24 h
  refine Run.condT' rfl hc24 ?_
  refine Run.seq (Run.region ?_)
  refine Run.opG wantS_none (ex_assign rfl) rfl ?_
  refine Run.opsEnd ?_
  cases h
  exact Run.ret Tryz.func63 rfl (res_tmp rfl res_nil) rfl
 ·have h := bif_f hc24 h
  refine Run.condF' rfl hc24 ?_
  refine Run.skip (Run.seq (Run.region ?_))
  refine Run.opG wantS_none (ex_assign rfl) rfl ?_
  refine Run.opsEnd ?_
  cases h
  exact Run.ret Tryz.func63 rfl (res_tmp rfl res_nil) rfl

theorem mkk63 : makeK Tryz.prog 63 = none := by kernel_rfl
theorem cal63 : callable Tryz.prog 63 = true := by kernel_rfl
theorem plan36_1_0_0_1_1_0 : planOf Tryz.prog (opsC (atC Tryz.prog 36 [1, 0, 0, 1, 1, 0])) = some [.fl 0, .fl 1, .fl 2, .an 3 [1, 0], .an 4 [], .fl 5, .fl 6, .sync] := by kernel_rfl
abbrev run_plan_check_post (r : Int) : SV → Mem → Prop := fun s _ => s = (.int .i64 r)

def run_plan_check_2 (F : Nat) (hd1 : (List S_api_Veto) → (List S_api_Veto) → Int → Option (Int)) (v26_0 v26_1 : (List S_api_Veto)) (v27 : Int) (v29 : (List S_api_Veto)) : Option (Int) :=
 bnd (glitch_CheckVetoes F v29) fun r40 =>
 bif (!(r40 == (0 : Int))) then
  some r40
 else
  hd1 v26_0 v26_1 (w64 (v27 + (1 : Int)))

theorem run_plan_check_2_ok (F : Nat) (hd1 : (List S_api_Veto) → (List S_api_Veto) → Int → Option (Int)) (hhd1 : ∀ (v26_0 v26_1 : (List S_api_Veto)) (v27 : Int) (sv26_0 sv26_1 : SV) (Fr : Rd) (M : Mem) (r : Int) (hv26_0 : Slc Fr 2 (rep127 Fr) sv26_0 v26_0) (hv26_1 : Slc Fr 2 (rep127 Fr) sv26_1 v26_1) (hH : Has Fr M []), hd1 v26_0 v26_1 v27 = some r → Run Tryz.prog ⟨⟨36, [], none⟩, []⟩ 36 (run_plan_check_post r) [(26, (.agg [sv26_0, sv26_1])), (27, (.int .i64 v27))] [codeC Tryz.prog 36 [1, 1, 0, 1, 0, 0], loopC Tryz.prog 36 [1, 1, 0, 1, 0, 0], .inBlock 1, codeC Tryz.prog 36 [1, 1, 1]] M) : ∀ (v26_0 v26_1 : (List S_api_Veto)) (v27 : Int) (v29 : (List S_api_Veto)) (sv26_0 sv26_1 sv29 : SV) (Fr : Rd) (M : Mem) (r : Int) (hv26_0 : Slc Fr 2 (rep127 Fr) sv26_0 v26_0) (hv26_1 : Slc Fr 2 (rep127 Fr) sv26_1 v26_1) (hv29 : Slc Fr 2 (rep127 Fr) sv29 v29) (hH : Has Fr M []), run_plan_check_2 F hd1 v26_0 v26_1 v27 v29 = some r → Run Tryz.prog ⟨⟨36, [], none⟩, []⟩ 36 (run_plan_check_post r) [(26, (.agg [sv26_0, sv26_1])), (27, (.int .i64 v27)), (29, sv29)] [itemC Tryz.prog 36 [1, 1, 0, 1, 0, 0, 1, 1, 0, 0, 0] 1, codeC Tryz.prog 36 [1, 1, 0, 1, 0, 0, 1, 1, 0, 0, 1], .inBlock 2, codeC Tryz.prog 36 [1, 1, 0, 1, 0, 0, 1, 1, 1], loopC Tryz.prog 36 [1, 1, 0, 1, 0, 0], .inBlock 1, codeC Tryz.prog 36 [1, 1, 1]] M := by
 intro v26_0 v26_1 v27 v29 sv26_0 sv26_1 sv29 Fr M r hv26_0 hv26_1 hv29 hH h
 rw [run_plan_check_2] at h
 refine Run.opG wantS_none (ex_assign rfl) rfl ?_
 refine Run.opsEnd (Run.seq (Run.region ?_))
 refine Run.opG wantS_none (ex_move rfl) rfl ?_
 obtain ⟨r40, hr40, h⟩ := bnd_some h
 refine Run.callP wantS_none (ex_call rfl mkk63 cal63) rfl (glitch_CheckVetoes_ok F v29 sv29 _ _ ((hv29).mono hH.le (fun _ _ => rep127_mo hH.le)) hr40) ?_
 refine Run.opG wantS_none (ex_assign rfl) rfl ?_
 refine Run.opsEnd (Run.seq (Run.region ?_))
 refine Run.opG wantS_none (ex_move rfl) rfl ?_
 refine Run.opG wantS_none (ex_neq rfl rfl) rfl ?_
 refine Run.opsEnd ?_
 rcases btf ((!(r40 == (0 : Int)))) with hc42 | hc42
 ·have h := bif_t hc42 h
  refine Run.condT' rfl hc42 ?_
  refine Run.seq (Run.region ?_)
  refine Run.opG wantS_none (ex_move rfl) rfl ?_
  refine Run.opG wantS_none (ex_assign rfl) rfl ?_
  refine Run.opsEnd ?_
  cases h
  exact Run.ret Tryz.func36 rfl (res_tmp rfl res_nil) rfl
 ·have h := bif_f hc42 h
  refine Run.condF' rfl hc42 ?_
  refine Run.skip (Run.inBlock (Run.region ?_))
  refine Run.opG wantS_none (ex_add rfl rfl) rfl ?_
  refine Run.opG wantS_none (ex_move rfl) rfl ?_
  refine Run.opsEnd (Run.inLoop ?_)
  exact Run.pick [26, 27] (hhd1 v26_0 v26_1 (w64 (v27 + (1 : Int))) sv26_0 sv26_1 _ _ _ hv26_0 hv26_1 hH h)

def run_plan_check_1 (F : Nat) : Nat → (List S_api_Veto) → (List S_api_Veto) → Int → Option (Int)
 | 0, _, _, _ => none
 | N + 1, v26_0, v26_1, v27 =>
  bif (decide (v27 < (2 : Int))) then
   bif (v27 == (0 : Int)) then
    run_plan_check_2 F (run_plan_check_1 F N) v26_0 v26_1 v27 v26_0
   else
    bif (v27 == (1 : Int)) then
     run_plan_check_2 F (run_plan_check_1 F N) v26_0 v26_1 v27 v26_1
    else
     none
  else
   some (0 : Int)

theorem run_plan_check_1_ok (F : Nat) : ∀ (N : Nat), ∀ (v26_0 v26_1 : (List S_api_Veto)) (v27 : Int) (sv26_0 sv26_1 : SV) (Fr : Rd) (M : Mem) (r : Int) (hv26_0 : Slc Fr 2 (rep127 Fr) sv26_0 v26_0) (hv26_1 : Slc Fr 2 (rep127 Fr) sv26_1 v26_1) (hH : Has Fr M []), run_plan_check_1 F N v26_0 v26_1 v27 = some r → Run Tryz.prog ⟨⟨36, [], none⟩, []⟩ 36 (run_plan_check_post r) [(26, (.agg [sv26_0, sv26_1])), (27, (.int .i64 v27))] [codeC Tryz.prog 36 [1, 1, 0, 1, 0, 0], loopC Tryz.prog 36 [1, 1, 0, 1, 0, 0], .inBlock 1, codeC Tryz.prog 36 [1, 1, 1]] M := by
 intro N
 induction N with
 | zero =>
  intro v26_0 v26_1 v27 sv26_0 sv26_1 Fr M r hv26_0 hv26_1 hH h
  simp [run_plan_check_1] at h
 | succ N ih =>
  intro v26_0 v26_1 v27 sv26_0 sv26_1 Fr M r hv26_0 hv26_1 hH h
  rw [run_plan_check_1] at h
  refine Run.seq (Run.region ?_)
  refine Run.opG wantS_none (ex_lss rfl rfl) rfl ?_
  refine Run.opsEnd (Run.seq ?_)
  rcases btf ((decide (v27 < (2 : Int)))) with hc37 | hc37
  ·have h := bif_t hc37 h
   refine Run.condT' rfl hc37 ?_
   refine Run.skip (Run.seq (Run.block (Run.seq (Run.region ?_))))
   rcases btf ((v27 == (0 : Int))) with hc38 | hc38
   ·have h := bif_t hc38 h
    refine Run.opG wantS_none (ex_idxA (j := 0) rfl rfl wha35 (natIn_beq hc38 rfl rfl) (part_one agg34 rfl)) rfl ?_
    exact Run.pick [26, 27, 29] (run_plan_check_2_ok F (run_plan_check_1 F N) ih v26_0 v26_1 v27 v26_0 sv26_0 sv26_1 sv26_0 _ _ _ hv26_0 hv26_1 hv26_0 hH h)
   ·have h := bif_f hc38 h
    rcases btf ((v27 == (1 : Int))) with hc43 | hc43
    ·have h := bif_t hc43 h
     refine Run.opG wantS_none (ex_idxA (j := 1) rfl rfl wha35 (natIn_beq hc43 rfl rfl) (part_one agg34 rfl)) rfl ?_
     exact Run.pick [26, 27, 29] (run_plan_check_2_ok F (run_plan_check_1 F N) ih v26_0 v26_1 v27 v26_1 sv26_0 sv26_1 sv26_1 _ _ _ hv26_0 hv26_1 hv26_1 hH h)
    ·have h := bif_f hc43 h
     cases h
  ·have h := bif_f hc37 h
   refine Run.condF' rfl hc37 ?_
   refine Run.exit rfl (Run.seq (Run.region ?_))
   refine Run.opG wantS_none (ex_assign rfl) rfl ?_
   refine Run.opsEnd ?_
   cases h
   exact Run.ret Tryz.func36 rfl (res_tmp rfl res_nil) rfl

def run_plan_check (F : Nat) (a0 : S_run_plan) : Option (Int) :=
 bnd (run_areSamples F a0.data) fun r25 =>
 bif (!r25) then
  some (110 : Int)
 else
  bnd (run_plan_span F a0) fun r28 =>
  bnd (run_areDuties F a0.duties r28) fun r30 =>
  bif (!r30) then
   some (111 : Int)
  else
   bnd (run_isWork F a0.work a0.duties) fun r34 =>
   bif (!r34) then
    some (112 : Int)
   else
    run_plan_check_1 F F a0.vetoes.e0 a0.vetoes.e1 (0 : Int)

theorem run_plan_check_ok (F : Nat) (a0 : S_run_plan) (s0 s1 s2 s3 s4 s5 : SV) (r : Int) (M : Mem) (hs0 : Slc (rd M) 3 (FlatR enc43) s0 a0.duties) (hs1 : Slc (rd M) 2 (FlatR enc106) s1 a0.work) (hs2 : Slc (rd M) 2 (rep127 (rd M)) s2 a0.vetoes.e0) (hs3 : Slc (rd M) 2 (rep127 (rd M)) s3 a0.vetoes.e1) (hs4 : Slc (rd M) 1 (FlatR enc3) s4 a0.data.e0) (hs5 : Slc (rd M) 1 (FlatR enc3) s5 a0.data.e1) (h : run_plan_check F a0 = some r) : CallsM Tryz.prog 36 [(.agg [s0, s1, s2, s3, s4, s5])] M (fun s M' => s = (.int .i64 r) ∧ M' = M) := by
 refine CallsM.plain Tryz.func36 rfl rfl rfl (show Run _ _ _ (run_plan_check_post r) _ _ _ from ?_)
 rw [run_plan_check] at h
 replace hs0 := hs0.mono (rdLe_frozen M) (fun _ _ h => h)
 replace hs1 := hs1.mono (rdLe_frozen M) (fun _ _ h => h)
 replace hs2 := hs2.mono (rdLe_frozen M) (fun _ _ => rep127_mo (rdLe_frozen M))
 replace hs3 := hs3.mono (rdLe_frozen M) (fun _ _ => rep127_mo (rdLe_frozen M))
 replace hs4 := hs4.mono (rdLe_frozen M) (fun _ _ h => h)
 replace hs5 := hs5.mono (rdLe_frozen M) (fun _ _ h => h)
 have hH := Has.nil (frozen M)
 refine Run.seq (Run.region ?_)
 refine Run.opX wantS_none rfl (ExG.box rfl rfl hH) ?_
 rintro _ M23 ⟨b22, rfl, hH23⟩
 refine Run.opG wantS_none (ex_assign rfl) rfl ?_
 refine Run.opsEnd (Run.seq (Run.block (Run.seq (Run.region ?_))))
 refine Run.opG wantS_none (ex_fieldAddr rfl off85_3) rfl ?_
 refine Run.opG wantS_none (ex_loadA rfl (hH23.cells (i := 0) rfl 4 rfl) rdLe_rfl agg36 rfl rfl rfl) rfl ?_
 obtain ⟨r25, hr25, h⟩ := bnd_some h
 refine Run.callP wantS_none (ex_call rfl mkk60 cal60) rfl (run_areSamples_ok F a0.data s4 s5 _ _ (hH23.slcF hs4) (hH23.slcF hs5) hr25) ?_
 refine Run.opG wantS_none (ex_not rfl) rfl ?_
 refine Run.opG wantS_none (ex_assign rfl) rfl ?_
 refine Run.opsEnd ?_
 rcases btf ((!r25)) with hc27 | hc27
 ·have h := bif_t hc27 h
  refine Run.condT' rfl hc27 ?_
  refine Run.seq (Run.region ?_)
  refine Run.opG wantS_none (ex_assign rfl) rfl ?_
  refine Run.opsEnd ?_
  cases h
  exact Run.ret Tryz.func36 rfl (res_tmp rfl res_nil) rfl
 ·have h := bif_f hc27 h
  refine Run.condF' rfl hc27 ?_
  refine Run.seq ?_
  refine Run.drawG plan36_1_0_0_1_1_0 ?_
  refine DrawG.fl rfl (ev_ex wantS_none (ex_fieldAddr rfl off85_0)) rfl ?_
  refine DrawG.fl rfl (ev_ex wantS_none (ex_load1 rfl (hH23.cells (i := 0) rfl 0 rfl) rdLe_rfl agg32)) rfl ?_
  refine DrawG.fl rfl (ev_ex wantS_none (ex_loadA rfl (hH23.cells (i := 0) rfl 0 rfl) rdLe_rfl agg85 rfl rfl rfl)) rfl ?_
  obtain ⟨r28, hr28, h⟩ := bnd_some h
  refine DrawG.callP rfl wantS_none (ex_call rfl mkk37 cal37) rfl (run_plan_span_ok F a0 s0 s1 s2 s3 s4 s5 _ _ (hH23.slcF hs0) (hH23.slcF hs1) ((hs2).mono hH23.le (fun _ _ => rep127_mo hH23.le)) ((hs3).mono hH23.le (fun _ _ => rep127_mo hH23.le)) (hH23.slcF hs4) (hH23.slcF hs5) hr28) (st_cons rfl (ev_ex wantS_none (ex_load1 rfl (hH23.cells (i := 0) rfl 0 rfl) rdLe_rfl agg32)) rfl rfl (slc_self hs0) (st_cons rfl (ev_ex wantS_none (ex_fieldAddr rfl off85_0)) rfl rfl rfl st_nil)) ?_
  obtain ⟨r30, hr30, h⟩ := bnd_some h
  refine DrawG.callP rfl wantS_none (ex_call rfl mkk61 cal61) rfl (run_areDuties_ok F a0.duties r28 s0 _ _ (hH23.slcF hs0) hr30) st_nil ?_
  refine DrawG.fl rfl (ev_ex wantS_none (ex_not rfl)) rfl ?_
  refine DrawG.fl rfl (ev_ex wantS_none (ex_assign rfl)) rfl ?_
  refine DrawG.sync ?_
  refine DrawG.nil ?_
  rcases btf ((!r30)) with hc32 | hc32
  ·have h := bif_t hc32 h
   refine Run.condT' rfl hc32 ?_
   refine Run.seq (Run.region ?_)
   refine Run.opG wantS_none (ex_assign rfl) rfl ?_
   refine Run.opsEnd ?_
   cases h
   exact Run.ret Tryz.func36 rfl (res_tmp rfl res_nil) rfl
  ·have h := bif_f hc32 h
   refine Run.condF' rfl hc32 ?_
   refine Run.seq (Run.region ?_)
   refine Run.opG wantS_none (ex_fieldAddr rfl off85_1) rfl ?_
   refine Run.opG wantS_none (ex_load1 rfl (hH23.cells (i := 0) rfl 1 rfl) rdLe_rfl agg33) rfl ?_
   refine Run.opG wantS_none (ex_fieldAddr rfl off85_0) rfl ?_
   refine Run.opG wantS_none (ex_load1 rfl (hH23.cells (i := 0) rfl 0 rfl) rdLe_rfl agg32) rfl ?_
   obtain ⟨r34, hr34, h⟩ := bnd_some h
   refine Run.callP wantS_none (ex_call rfl mkk62 cal62) rfl (run_isWork_ok F a0.work a0.duties s1 s0 _ _ (hH23.slcF hs1) (hH23.slcF hs0) hr34) ?_
   refine Run.opG wantS_none (ex_not rfl) rfl ?_
   refine Run.opG wantS_none (ex_assign rfl) rfl ?_
   refine Run.opsEnd ?_
   rcases btf ((!r34)) with hc36 | hc36
   ·have h := bif_t hc36 h
    refine Run.condT' rfl hc36 ?_
    refine Run.seq (Run.region ?_)
    refine Run.opG wantS_none (ex_assign rfl) rfl ?_
    refine Run.opsEnd ?_
    cases h
    exact Run.ret Tryz.func36 rfl (res_tmp rfl res_nil) rfl
   ·have h := bif_f hc36 h
    refine Run.condF' rfl hc36 ?_
    refine Run.skip (Run.inBlock (Run.seq (Run.seq (Run.region ?_))))
    refine Run.opG wantS_none (ex_fieldAddr rfl off85_2) rfl ?_
    refine Run.opG wantS_none (ex_loadA rfl (hH23.cells (i := 0) rfl 2 rfl) rdLe_rfl agg35 rfl rfl rfl) rfl ?_
    refine Run.opG wantS_none (ex_move rfl) rfl ?_
    refine Run.opsEnd (Run.block (Run.loop ?_))
    exact Run.pick [26, 27] (run_plan_check_1_ok F F a0.vetoes.e0 a0.vetoes.e1 (0 : Int) s2 s3 _ _ _ hs2 hs3 (hH23.pick [] rfl rfl) h)

theorem mkk36 : makeK Tryz.prog 36 = none := by kernel_rfl
theorem cal36 : callable Tryz.prog 36 = true := by kernel_rfl
abbrev run_Check_post (r : Int) : SV → Mem → Prop := fun s _ => s = (.int .i64 r)

def run_Check (F : Nat) (a0 : S_api_Plan) : Option (Int) :=
 bnd (run_plan_check F (S_run_plan.mk a0.Duties a0.Work a0.Vetoes a0.Data)) fun r32 =>
 some r32

theorem run_Check_ok (F : Nat) (a0 : S_api_Plan) (s0 s1 s2 s3 s4 s5 : SV) (r : Int) (M : Mem) (hs0 : Slc (rd M) 3 (FlatR enc43) s0 a0.Duties) (hs1 : Slc (rd M) 2 (FlatR enc106) s1 a0.Work) (hs2 : Slc (rd M) 2 (rep127 (rd M)) s2 a0.Vetoes.e0) (hs3 : Slc (rd M) 2 (rep127 (rd M)) s3 a0.Vetoes.e1) (hs4 : Slc (rd M) 1 (FlatR enc3) s4 a0.Data.e0) (hs5 : Slc (rd M) 1 (FlatR enc3) s5 a0.Data.e1) (h : run_Check F a0 = some r) : CallsM Tryz.prog 12 [(.agg [s0, s1, s2, s3, s4, s5])] M (fun s M' => s = (.int .i64 r) ∧ M' = M) := by
 refine CallsM.plain Tryz.func12 rfl rfl rfl (show Run _ _ _ (run_Check_post r) _ _ _ from ?_)
 rw [run_Check] at h
 replace hs0 := hs0.mono (rdLe_frozen M) (fun _ _ h => h)
 replace hs1 := hs1.mono (rdLe_frozen M) (fun _ _ h => h)
 replace hs2 := hs2.mono (rdLe_frozen M) (fun _ _ => rep127_mo (rdLe_frozen M))
 replace hs3 := hs3.mono (rdLe_frozen M) (fun _ _ => rep127_mo (rdLe_frozen M))
 replace hs4 := hs4.mono (rdLe_frozen M) (fun _ _ h => h)
 replace hs5 := hs5.mono (rdLe_frozen M) (fun _ _ h => h)
 have hH := Has.nil (frozen M)
 refine Run.seq (Run.region ?_)
 refine Run.opX wantS_none rfl (ExG.box rfl rfl hH) ?_
 rintro _ M23 ⟨b22, rfl, hH23⟩
 refine Run.opG wantS_none (ex_assign rfl) rfl ?_
 refine Run.opsEnd (Run.seq (Run.region ?_))
 refine Run.opG wantS_none (ex_loadA rfl (hH23.cells (i := 0) rfl 0 rfl) rdLe_rfl agg38 rfl rfl rfl) rfl ?_
 refine Run.enter wantS_none (ex_call rfl mkk35 cal35) Tryz.func35 rfl rfl ?_
 refine Run.seq (Run.region ?_)
 refine Run.opX wantS_none rfl (ExG.box rfl rfl hH23) ?_
 rintro _ M26 ⟨b25, rfl, hH26⟩
 refine Run.opX wantS_none rfl (ExG.new (v := fun b => .ptr b 0) (ex_alloc zer85) hH26) ?_
 rintro _ M29 ⟨b28, rfl, hH29⟩
 refine Run.opsEnd (Run.seq (Run.region ?_))
 refine Run.opG wantS_none (ex_fieldAddr rfl off38_0) rfl ?_
 refine Run.opG wantS_none (ex_load1 rfl (hH29.cells (i := 1) rfl 0 rfl) rdLe_rfl agg32) rfl ?_
 refine Run.opG wantS_none (ex_fieldAddr rfl off38_1) rfl ?_
 refine Run.opG wantS_none (ex_load1 rfl (hH29.cells (i := 1) rfl 1 rfl) rdLe_rfl agg33) rfl ?_
 refine Run.opG wantS_none (ex_fieldAddr rfl off38_2) rfl ?_
 refine Run.opG wantS_none (ex_loadA rfl (hH29.cells (i := 1) rfl 2 rfl) rdLe_rfl agg35 rfl rfl rfl) rfl ?_
 refine Run.opG wantS_none (ex_fieldAddr rfl off38_3) rfl ?_
 refine Run.opG wantS_none (ex_loadA rfl (hH29.cells (i := 1) rfl 4 rfl) rdLe_rfl agg36 rfl rfl rfl) rfl ?_
 refine Run.opG wantS_none (ex_build (r := [s0, s1, s2, s3, s4, s5]) rfl zer85 pls85 (by simp only [fillS, cells_one (slc_one hs0), cells_one (slc_one hs1)]; rfl)) rfl ?_
 refine Run.opX wantS_none rfl (ExG.storeC (c' := [s0, s1, s2, s3, s4, s5]) rfl rfl rfl hH29 (i := 0) rfl sz85 rfl rfl rfl (ones_cons (slc_one hs0) (ones_cons (slc_one hs1) (ones_cons (slc_one hs2) (ones_cons (slc_one hs3) (ones_cons (slc_one hs4) (ones_cons (slc_one hs5) ones_nil)))))) rfl) ?_
 rintro _ M30 ⟨rfl, (hH30 : Has (ro (frozen M)) M30 [.obj b28 (.row 85 .whole [s0, s1, s2, s3, s4, s5]), .obj b25 (.row 38 .whole [s0, s1, s2, s3, s4, s5]), .obj b22 (.row 38 .whole [s0, s1, s2, s3, s4, s5])])⟩
 refine Run.opsEnd ?_
 refine Run.retTo Tryz.func35 rfl (res_cell rfl (x_load (ex_loadA rfl (hH30.cells (i := 0) rfl 0 rfl) rdLe_rfl agg85 rfl rfl rfl)) res_nil) rfl ?_
 obtain ⟨r32, hr32, h⟩ := bnd_some h
 refine Run.callP wantS_none (ex_call rfl mkk36 cal36) rfl (run_plan_check_ok F (S_run_plan.mk a0.Duties a0.Work a0.Vetoes a0.Data) s0 s1 s2 s3 s4 s5 _ _ (hH30.slcF hs0) (hH30.slcF hs1) ((hs2).mono hH30.le (fun _ _ => rep127_mo hH30.le)) ((hs3).mono hH30.le (fun _ _ => rep127_mo hH30.le)) (hH30.slcF hs4) (hH30.slcF hs5) hr32) ?_
 refine Run.opG wantS_none (ex_assign rfl) rfl ?_
 refine Run.opsEnd ?_
 cases h
 exact Run.ret Tryz.func12 rfl (res_tmp rfl res_nil) rfl

theorem mkk12 : makeK Tryz.prog 12 = none := by kernel_rfl
theorem cal12 : callable Tryz.prog 12 = true := by kernel_rfl
abbrev run_isDetector_post (r : Bool) : SV → Mem → Prop := fun s _ => s = (.bool r)

def run_isDetector (F : Nat) (a0 : Int) : Option (Bool) :=
 bnd (run_isFrom F (0 : Int) a0 (1 : Int)) fun r22 =>
 some r22

theorem run_isDetector_ok (F : Nat) (a0 : Int) (r : Bool) (M : Mem) (h : run_isDetector F a0 = some r) : CallsM Tryz.prog 54 [(.int .i64 a0)] M (fun s M' => s = (.bool r) ∧ M' = M) := by
 refine CallsM.plain Tryz.func54 rfl rfl rfl (show Run _ _ _ (run_isDetector_post r) _ _ _ from ?_)
 rw [run_isDetector] at h
 have hH := Has.nil (frozen M)
 refine Run.seq (Run.region ?_)
 refine Run.opG wantS_none (ex_assign rfl) rfl ?_
 refine Run.opsEnd (Run.seq (Run.region ?_))
 refine Run.opG wantS_none (ex_move rfl) rfl ?_
 obtain ⟨r22, hr22, h⟩ := bnd_some h
 refine Run.callP wantS_none (ex_call rfl mkk27 cal27) rfl (run_isFrom_ok F (0 : Int) a0 (1 : Int) _ _ hr22) ?_
 refine Run.opG wantS_none (ex_assign rfl) rfl ?_
 refine Run.opsEnd ?_
 cases h
 exact Run.ret Tryz.func54 rfl (res_tmp rfl res_nil) rfl

theorem mkk54 : makeK Tryz.prog 54 = none := by kernel_rfl
theorem cal54 : callable Tryz.prog 54 = true := by kernel_rfl
abbrev run_checkDetector_post (r : Int) : SV → Mem → Prop := fun s _ => s = (.int .i64 r)

def run_checkDetector (F : Nat) (a0 : S_api_Plan) (a1 : Int) : Option (Int) :=
 bnd (run_Check F a0) fun r25 =>
 bif (!(r25 == (0 : Int))) then
  some r25
 else
  bnd (run_isDetector F a1) fun r29 =>
  bif (!r29) then
   some (8 : Int)
  else
   some (0 : Int)

theorem run_checkDetector_ok (F : Nat) (a0 : S_api_Plan) (a1 : Int) (s0 s1 s2 s3 s4 s5 : SV) (r : Int) (M : Mem) (hs0 : Slc (rd M) 3 (FlatR enc43) s0 a0.Duties) (hs1 : Slc (rd M) 2 (FlatR enc106) s1 a0.Work) (hs2 : Slc (rd M) 2 (rep127 (rd M)) s2 a0.Vetoes.e0) (hs3 : Slc (rd M) 2 (rep127 (rd M)) s3 a0.Vetoes.e1) (hs4 : Slc (rd M) 1 (FlatR enc3) s4 a0.Data.e0) (hs5 : Slc (rd M) 1 (FlatR enc3) s5 a0.Data.e1) (h : run_checkDetector F a0 a1 = some r) : CallsM Tryz.prog 39 [(.agg [s0, s1, s2, s3, s4, s5]), (.int .i64 a1)] M (fun s M' => s = (.int .i64 r) ∧ M' = M) := by
 refine CallsM.plain Tryz.func39 rfl rfl rfl (show Run _ _ _ (run_checkDetector_post r) _ _ _ from ?_)
 rw [run_checkDetector] at h
 replace hs0 := hs0.mono (rdLe_frozen M) (fun _ _ h => h)
 replace hs1 := hs1.mono (rdLe_frozen M) (fun _ _ h => h)
 replace hs2 := hs2.mono (rdLe_frozen M) (fun _ _ => rep127_mo (rdLe_frozen M))
 replace hs3 := hs3.mono (rdLe_frozen M) (fun _ _ => rep127_mo (rdLe_frozen M))
 replace hs4 := hs4.mono (rdLe_frozen M) (fun _ _ h => h)
 replace hs5 := hs5.mono (rdLe_frozen M) (fun _ _ h => h)
 have hH := Has.nil (frozen M)
 refine Run.seq (Run.region ?_)
 refine Run.opX wantS_none rfl (ExG.box rfl rfl hH) ?_
 rintro _ M23 ⟨b22, rfl, hH23⟩
 refine Run.opG wantS_none (ex_assign rfl) rfl ?_
 refine Run.opsEnd (Run.seq (Run.seq (Run.region ?_)))
 refine Run.opG wantS_none (ex_loadA rfl (hH23.cells (i := 0) rfl 0 rfl) rdLe_rfl agg38 rfl rfl rfl) rfl ?_
 obtain ⟨r25, hr25, h⟩ := bnd_some h
 refine Run.callP wantS_none (ex_call rfl mkk12 cal12) rfl (run_Check_ok F a0 s0 s1 s2 s3 s4 s5 _ _ (hH23.slcF hs0) (hH23.slcF hs1) ((hs2).mono hH23.le (fun _ _ => rep127_mo hH23.le)) ((hs3).mono hH23.le (fun _ _ => rep127_mo hH23.le)) (hH23.slcF hs4) (hH23.slcF hs5) hr25) ?_
 refine Run.opG wantS_none (ex_assign rfl) rfl ?_
 refine Run.opsEnd (Run.block (Run.seq (Run.region ?_)))
 refine Run.opG wantS_none (ex_move rfl) rfl ?_
 refine Run.opG wantS_none (ex_neq rfl rfl) rfl ?_
 refine Run.opG wantS_none (ex_assign rfl) rfl ?_
 refine Run.opsEnd ?_
 rcases btf ((!(r25 == (0 : Int)))) with hc27 | hc27
 ·have h := bif_t hc27 h
  refine Run.condT' rfl hc27 ?_
  refine Run.seq (Run.region ?_)
  refine Run.opG wantS_none (ex_move rfl) rfl ?_
  refine Run.opG wantS_none (ex_assign rfl) rfl ?_
  refine Run.opsEnd ?_
  cases h
  exact Run.ret Tryz.func39 rfl (res_tmp rfl res_nil) rfl
 ·have h := bif_f hc27 h
  refine Run.condF' rfl hc27 ?_
  refine Run.seq (Run.region ?_)
  refine Run.opG wantS_none (ex_move rfl) rfl ?_
  obtain ⟨r29, hr29, h⟩ := bnd_some h
  refine Run.callP wantS_none (ex_call rfl mkk54 cal54) rfl (run_isDetector_ok F a1 _ _ hr29) ?_
  refine Run.opG wantS_none (ex_not rfl) rfl ?_
  refine Run.opG wantS_none (ex_assign rfl) rfl ?_
  refine Run.opsEnd ?_
  rcases btf ((!r29)) with hc31 | hc31
  ·have h := bif_t hc31 h
   refine Run.condT' rfl hc31 ?_
   refine Run.seq (Run.region ?_)
   refine Run.opG wantS_none (ex_assign rfl) rfl ?_
   refine Run.opsEnd ?_
   cases h
   exact Run.ret Tryz.func39 rfl (res_tmp rfl res_nil) rfl
  ·have h := bif_f hc31 h
   refine Run.condF' rfl hc31 ?_
   refine Run.skip (Run.inBlock (Run.seq (Run.region ?_)))
   refine Run.opG wantS_none (ex_assign rfl) rfl ?_
   refine Run.opsEnd ?_
   cases h
   exact Run.ret Tryz.func39 rfl (res_tmp rfl res_nil) rfl

theorem mkk39 : makeK Tryz.prog 39 = none := by kernel_rfl
theorem cal39 : callable Tryz.prog 39 = true := by kernel_rfl
theorem elt48 : sliceElt Tryz.prog 48 = some (⟨1, 1, [(.bool false)], 4⟩ : Elt) := by kernel_rfl
theorem lenk48 : lenK Tryz.prog 48 = some .sl := by kernel_rfl
theorem uvk3_157 : uvK Tryz.prog 3 157 = none := by kernel_rfl
theorem cvk3_157 : cvK Tryz.prog 3 157 = some (.int .u64) := by kernel_rfl
abbrev bits_Mul64_post (r : Int × Int) : SV → Mem → Prop := fun s _ => s = (.tuple [(.int .u64 r.1), (.int .u64 r.2)])

def bits_Mul64 (F : Nat) (a0 a1 : Int) : Option (Int × Int) :=
 bnd (bitZ Nat.land .u64 a0 (4294967295 : Int)) fun z22 =>
 bnd (bitZ Nat.land .u64 a1 (4294967295 : Int)) fun z24 =>
 bnd (bitZ Nat.land .u64 (IntKind.wrap .u64 ((IntKind.wrap .u64 ((Int.fdiv a0 (2 ^ (min 32 (IntKind.bits .u64)))) * z24)) + (Int.fdiv (IntKind.wrap .u64 (z22 * z24)) (2 ^ (min 32 (IntKind.bits .u64)))))) (4294967295 : Int)) fun z26 =>
 some ((IntKind.wrap .u64 ((IntKind.wrap .u64 ((IntKind.wrap .u64 ((Int.fdiv a0 (2 ^ (min 32 (IntKind.bits .u64)))) * (Int.fdiv a1 (2 ^ (min 32 (IntKind.bits .u64)))))) + (Int.fdiv (IntKind.wrap .u64 ((IntKind.wrap .u64 ((Int.fdiv a0 (2 ^ (min 32 (IntKind.bits .u64)))) * z24)) + (Int.fdiv (IntKind.wrap .u64 (z22 * z24)) (2 ^ (min 32 (IntKind.bits .u64)))))) (2 ^ (min 32 (IntKind.bits .u64)))))) + (Int.fdiv (IntKind.wrap .u64 (z26 + (IntKind.wrap .u64 (z22 * (Int.fdiv a1 (2 ^ (min 32 (IntKind.bits .u64)))))))) (2 ^ (min 32 (IntKind.bits .u64)))))), (IntKind.wrap .u64 (a0 * a1)))

theorem bits_Mul64_ok (F : Nat) (a0 a1 : Int) (r : Int × Int) (M : Mem) (h : bits_Mul64 F a0 a1 = some r) : CallsM Tryz.prog 133 [(.int .u64 a0), (.int .u64 a1)] M (fun s M' => s = (.tuple [(.int .u64 r.1), (.int .u64 r.2)]) ∧ M' = M) := by
 refine CallsM.plain Tryz.func133 rfl rfl rfl (show Run _ _ _ (bits_Mul64_post r) _ _ _ from ?_)
 rw [bits_Mul64] at h
 have hH := Has.nil (frozen M)
 refine Run.seq (Run.region ?_)
 refine Run.opG wantS_none (ex_assign rfl) rfl ?_
 refine Run.opG wantS_none (ex_assign rfl) rfl ?_
 refine Run.opsEnd (Run.seq (Run.region ?_))
 refine Run.opG wantS_none (ex_move rfl) rfl ?_
 obtain ⟨z22, hz22, h⟩ := bnd_some h
 refine Run.opG wantS_none (ex_and rfl rfl hz22) rfl ?_
 refine Run.opG wantS_none (ex_assign rfl) rfl ?_
 refine Run.opsEnd (Run.seq (Run.region ?_))
 refine Run.opG wantS_none (ex_move rfl) rfl ?_
 refine Run.opG wantS_none (ex_shr (j := 32) rfl rfl) rfl ?_
 refine Run.opG wantS_none (ex_assign rfl) rfl ?_
 refine Run.opsEnd (Run.seq (Run.region ?_))
 refine Run.opG wantS_none (ex_move rfl) rfl ?_
 obtain ⟨z24, hz24, h⟩ := bnd_some h
 refine Run.opG wantS_none (ex_and rfl rfl hz24) rfl ?_
 refine Run.opG wantS_none (ex_assign rfl) rfl ?_
 refine Run.opsEnd (Run.seq (Run.region ?_))
 refine Run.opG wantS_none (ex_move rfl) rfl ?_
 refine Run.opG wantS_none (ex_shr (j := 32) rfl rfl) rfl ?_
 refine Run.opG wantS_none (ex_assign rfl) rfl ?_
 refine Run.opsEnd (Run.seq (Run.region ?_))
 refine Run.opG wantS_none (ex_move rfl) rfl ?_
 refine Run.opG wantS_none (ex_move rfl) rfl ?_
 refine Run.opG wantS_none (ex_mul rfl rfl) rfl ?_
 refine Run.opG wantS_none (ex_assign rfl) rfl ?_
 refine Run.opsEnd (Run.seq (Run.region ?_))
 refine Run.opG wantS_none (ex_move rfl) rfl ?_
 refine Run.opG wantS_none (ex_move rfl) rfl ?_
 refine Run.opG wantS_none (ex_mul rfl rfl) rfl ?_
 refine Run.opG wantS_none (ex_move rfl) rfl ?_
 refine Run.opG wantS_none (ex_shr (j := 32) rfl rfl) rfl ?_
 refine Run.opG wantS_none (ex_add rfl rfl) rfl ?_
 refine Run.opG wantS_none (ex_assign rfl) rfl ?_
 refine Run.opsEnd (Run.seq (Run.region ?_))
 refine Run.opG wantS_none (ex_move rfl) rfl ?_
 obtain ⟨z26, hz26, h⟩ := bnd_some h
 refine Run.opG wantS_none (ex_and rfl rfl hz26) rfl ?_
 refine Run.opG wantS_none (ex_assign rfl) rfl ?_
 refine Run.opsEnd (Run.seq (Run.region ?_))
 refine Run.opG wantS_none (ex_move rfl) rfl ?_
 refine Run.opG wantS_none (ex_shr (j := 32) rfl rfl) rfl ?_
 refine Run.opG wantS_none (ex_assign rfl) rfl ?_
 refine Run.opsEnd (Run.seq (Run.region ?_))
 refine Run.opG wantS_none (ex_move rfl) rfl ?_
 refine Run.opG wantS_none (ex_move rfl) rfl ?_
 refine Run.opG wantS_none (ex_move rfl) rfl ?_
 refine Run.opG wantS_none (ex_mul rfl rfl) rfl ?_
 refine Run.opG wantS_none (ex_add rfl rfl) rfl ?_
 refine Run.opG wantS_none (ex_assign rfl) rfl ?_
 refine Run.opsEnd (Run.seq (Run.region ?_))
 refine Run.opG wantS_none (ex_move rfl) rfl ?_
 refine Run.opG wantS_none (ex_move rfl) rfl ?_
 refine Run.opG wantS_none (ex_mul rfl rfl) rfl ?_
 refine Run.opG wantS_none (ex_move rfl) rfl ?_
 refine Run.opG wantS_none (ex_add rfl rfl) rfl ?_
 refine Run.opG wantS_none (ex_move rfl) rfl ?_
 refine Run.opG wantS_none (ex_shr (j := 32) rfl rfl) rfl ?_
 refine Run.opG wantS_none (ex_add rfl rfl) rfl ?_
 refine Run.opG wantS_none (ex_assign rfl) rfl ?_
 refine Run.opsEnd (Run.seq (Run.region ?_))
 refine Run.opG wantS_none (ex_move rfl) rfl ?_
 refine Run.opG wantS_none (ex_move rfl) rfl ?_
 refine Run.opG wantS_none (ex_mul rfl rfl) rfl ?_
 refine Run.opG wantS_none (ex_assign rfl) rfl ?_
 refine Run.opsEnd ?_
 cases h
 exact Run.ret Tryz.func133 rfl (res_tmp rfl (res_tmp rfl res_nil)) rfl

theorem mkk133 : makeK Tryz.prog 133 = none := by kernel_rfl
theorem cal133 : callable Tryz.prog 133 = true := by kernel_rfl
abbrev bits_Mul_post (r : Int × Int) : SV → Mem → Prop := fun s _ => s = (.tuple [(.int .u64 r.1), (.int .u64 r.2)])

def bits_Mul (F : Nat) (a0 a1 : Int) : Option (Int × Int) :=
 bnd (bits_Mul64 F a0 a1) fun r22 =>
 some (r22.1, r22.2)

theorem bits_Mul_ok (F : Nat) (a0 a1 : Int) (r : Int × Int) (M : Mem) (h : bits_Mul F a0 a1 = some r) : CallsM Tryz.prog 96 [(.int .u64 a0), (.int .u64 a1)] M (fun s M' => s = (.tuple [(.int .u64 r.1), (.int .u64 r.2)]) ∧ M' = M) := by
 refine CallsM.plain Tryz.func96 rfl rfl rfl (show Run _ _ _ (bits_Mul_post r) _ _ _ from ?_)
 rw [bits_Mul] at h
 have hH := Has.nil (frozen M)
 refine Run.seq (Run.region ?_)
 refine Run.opG wantS_none (ex_assign rfl) rfl ?_
 refine Run.opG wantS_none (ex_assign rfl) rfl ?_
 refine Run.opsEnd (Run.seq ?_)
 refine Run.condF' rfl rfl ?_
 refine Run.skip (Run.seq (Run.region ?_))
 refine Run.opG wantS_none (ex_move rfl) rfl ?_
 refine Run.opG wantS_none (ex_move rfl) rfl ?_
 obtain ⟨r22, hr22, h⟩ := bnd_some h
 refine Run.callP wantS_none (ex_call rfl mkk133 cal133) rfl (bits_Mul64_ok F a0 a1 _ _ hr22) ?_
 refine Run.opG wantS_none (ex_move rfl) rfl ?_
 refine Run.opG wantS_none (ex_extract rfl rfl) rfl ?_
 refine Run.opG wantS_none (ex_extract rfl rfl) rfl ?_
 refine Run.opG wantS_none (ex_assign rfl) rfl ?_
 refine Run.opG wantS_none (ex_assign rfl) rfl ?_
 refine Run.opsEnd (Run.seq (Run.region ?_))
 refine Run.opG wantS_none (ex_move rfl) rfl ?_
 refine Run.opG wantS_none (ex_move rfl) rfl ?_
 refine Run.opG wantS_none (ex_assign rfl) rfl ?_
 refine Run.opG wantS_none (ex_assign rfl) rfl ?_
 refine Run.opsEnd ?_
 cases h
 exact Run.ret Tryz.func96 rfl (res_tmp rfl (res_tmp rfl res_nil)) rfl

theorem mkk96 : makeK Tryz.prog 96 = none := by kernel_rfl
theorem cal96 : callable Tryz.prog 96 = true := by kernel_rfl
theorem uvk157_3 : uvK Tryz.prog 157 3 = none := by kernel_rfl
theorem cvk157_3 : cvK Tryz.prog 157 3 = some (.int .i64) := by kernel_rfl
theorem slk48 : slK Tryz.prog 48 = some (.sl 1) := by kernel_rfl
theorem plan66_1_1_1_1_1_1_0_0_0_1_0 : planOf Tryz.prog (opsC (atC Tryz.prog 66 [1, 1, 1, 1, 1, 1, 0, 0, 0, 1, 0])) = some [.fl 0, .fl 1, .fl 2, .fl 3, .fl 4, .fl 5, .fl 6, .an 7 [0], .fl 8, .an 9 [], .sync] := by kernel_rfl
abbrev slices_Repeat_post (r : (List Bool)) : SV → Mem → Prop := fun s Me => ∃ q1, s = q1 ∧ Has (fun _ => none) Me [.vec 4 1 r.length q1 (r.flatMap enc4)]

def slices_Repeat_4 (F : Nat) : Nat → Int → (List Bool) → Option ((List Bool))
 | 0, _, _ => none
 | N + 1, v8, l28 =>
  bif (decide (v8 < (l28.length : Int))) then
   bnd (subP l28.length v8 ((l28.length : Nat) : Int)) fun l34 =>
   bnd (subP l28.length 0 v8) fun l35 =>
   bnd (parL l28 (0 + l35.1) l35.2) fun l37 =>
   bnd (cpyP l28 (0 + l34.1) l34.2 l37) fun l36 =>
   (slices_Repeat_4 F N) (w64 (v8 + ((min l37.length l34.2 : Nat) : Int))) l36
  else
   some l28

theorem slices_Repeat_4_ok (F : Nat) : ∀ (N : Nat), ∀ (v8 : Int) (l28 : (List Bool)) (s28 : SV) (Fr : Rd) (M : Mem) (r : (List Bool)) (hH : Has Fr M [.vec 4 1 l28.length s28 (l28.flatMap enc4)]), slices_Repeat_4 F N v8 l28 = some r → Run Tryz.prog ⟨⟨66, [], none⟩, []⟩ 48 (slices_Repeat_post r) [(7, s28), (8, (.int .i64 v8))] [codeC Tryz.prog 66 [1, 1, 1, 1, 1, 1, 0, 0, 0], loopC Tryz.prog 66 [1, 1, 1, 1, 1, 1, 0, 0, 0], .inBlock 0, codeC Tryz.prog 66 [1, 1, 1, 1, 1, 1, 1]] M := by
 intro N
 induction N with
 | zero =>
  intro v8 l28 s28 Fr M r hH h
  simp [slices_Repeat_4] at h
 | succ N ih =>
  intro v8 l28 s28 Fr M r hH h
  rw [slices_Repeat_4] at h
  refine Run.seq (Run.seq (Run.region ?_))
  refine Run.opG wantS_none (ex_move rfl) rfl ?_
  refine Run.opG wantS_none (ex_move rfl) rfl ?_
  refine Run.opG wantS_none (ex_len' rfl (hH.slc (i := 0) rfl enc4_len) lenk48) rfl ?_
  refine Run.opG wantS_none (ex_lss rfl rfl) rfl ?_
  refine Run.opsEnd ?_
  rcases btf ((decide (v8 < (l28.length : Int)))) with hc33 | hc33
  ·have h := bif_t hc33 h
   refine Run.condT' rfl hc33 ?_
   refine Run.skip (Run.block ?_)
   refine Run.drawG plan66_1_1_1_1_1_1_0_0_0_1_0 ?_
   refine DrawG.fl rfl (ev_ex wantS_none (ex_move rfl)) rfl ?_
   refine DrawG.fl rfl (ev_ex wantS_none (ex_move rfl)) rfl ?_
   refine DrawG.fl rfl (ev_ex wantS_none (ex_move rfl)) rfl ?_
   obtain ⟨l34, hl34, h⟩ := bnd_some h
   have hq34 := part_all hH (i := 0) rfl
   obtain ⟨s34, hx34, hp34⟩ := part_cutL (P := Tryz.prog) (t := 48) (k0 := .i64) hq34 hl34 slk48
   refine DrawG.fl rfl (ev_ex wantS_none (ex_slX rfl (argO_some rfl) (argO_none) hx34)) rfl ?_
   refine DrawG.fl rfl (ev_ex wantS_none (ex_move rfl)) rfl ?_
   refine DrawG.fl rfl (ev_ex wantS_none (ex_move rfl)) rfl ?_
   obtain ⟨l35, hl35, h⟩ := bnd_some h
   have hq35 := part_all hH (i := 0) rfl
   obtain ⟨s35, hx35, hp35⟩ := part_cutH (P := Tryz.prog) (t := 48) (k0 := .i64) hq35 hl35 slk48
   refine DrawG.fl rfl (ev_ex wantS_none (ex_slX rfl (argO_none) (argO_some rfl) hx35)) rfl ?_
   obtain ⟨l37, hl37, h⟩ := bnd_some h
   obtain ⟨l36, hl36, h⟩ := bnd_some h
   have hs37 := part_slc hH (i := 0) rfl enc4_len hp35 hl37
   refine DrawG.opX rfl wantS_none rfl (ExG.copyP rfl rfl hH (i := 0) rfl hp34 hl36 elt48 rfl enc4_len enc4_ones hs37 (rdLe_rdRow _)) ?_
   rintro _ M38 ⟨rfl, (hH38 : Has Fr M38 [.vec 4 1 l36.length s28 (l36.flatMap enc4)])⟩
   refine ⟨(st_cons rfl (ev_ex wantS_none (ex_move rfl)) rfl rfl rfl st_nil), ?_⟩
   refine DrawG.fl rfl (ev_ex wantS_none (ex_add rfl rfl)) rfl ?_
   refine DrawG.val rfl wantS_none (ex_assign rfl) rfl st_nil ?_
   refine DrawG.sync ?_
   refine DrawG.nil ?_
   refine Run.inBlock (Run.inLoop ?_)
   exact Run.pick [7, 8] (ih (w64 (v8 + ((min l37.length l34.2 : Nat) : Int))) l36 s28 _ _ _ hH38 h)
  ·have h := bif_f hc33 h
   refine Run.condF' rfl hc33 ?_
   refine Run.exit rfl (Run.seq (Run.region ?_))
   refine Run.opG wantS_none (ex_move rfl) rfl ?_
   refine Run.opG wantS_none (ex_assign rfl) rfl ?_
   refine Run.opsEnd ?_
   cases h
   exact Run.ret Tryz.func66 rfl (res_tmp rfl res_nil) ⟨_, rfl, (hH.pick [0] rfl rfl).upF (none_le _)⟩

def slices_Repeat_3 (F : Nat) (v0 : (List Bool)) (v6 : Int) : Option ((List Bool)) :=
 bnd (mk (w64 v6) 1 false) fun l28 =>
 bnd (cpyA l28 v0) fun l31 =>
 slices_Repeat_4 F F ((min v0.length l28.length : Nat) : Int) l31

theorem slices_Repeat_3_ok (F : Nat) : ∀ (v0 : (List Bool)) (v6 : Int) (sv0 : SV) (Fr : Rd) (M : Mem) (r : (List Bool)) (hv0 : Slc Fr 1 (FlatR enc4) sv0 v0) (hH : Has Fr M []), slices_Repeat_3 F v0 v6 = some r → Run Tryz.prog ⟨⟨66, [], none⟩, []⟩ 48 (slices_Repeat_post r) [(0, sv0), (6, (.int .u64 v6))] [itemC Tryz.prog 66 [1, 1, 1, 1, 0] 0, codeC Tryz.prog 66 [1, 1, 1, 1, 1]] M := by
 intro v0 v6 sv0 Fr M r hv0 hH h
 rw [slices_Repeat_3] at h
 refine Run.opG wantS_none (ex_move rfl) rfl ?_
 refine Run.opG wantS_none (ex_conv rfl uvk157_3 cvk157_3) rfl ?_
 obtain ⟨l28, hl28, h⟩ := bnd_some h
 refine Run.opX wantS_none rfl (ExG.make (enc := enc4) (z := 1) rfl rfl hl28 elt48 rfl rfl enc4_len hH) ?_
 rintro s28 M29 (hH29 : Has Fr M29 [.vec 4 1 l28.length s28 (l28.flatMap enc4)])
 refine Run.opG wantS_none (ex_assign rfl) rfl ?_
 refine Run.opsEnd (Run.seq (Run.region ?_))
 refine Run.opG wantS_none (ex_move rfl) rfl ?_
 refine Run.opG wantS_none (ex_move rfl) rfl ?_
 obtain ⟨l31, hl31, h⟩ := bnd_some h
 refine Run.opX wantS_none rfl (ExG.copyA rfl rfl hH29 (i := 0) rfl hl31 elt48 rfl enc4_len enc4_ones hv0 (rdLe_roF hH29)) ?_
 rintro _ M32 ⟨rfl, (hH32 : Has Fr M32 [.vec 4 1 l31.length s28 (l31.flatMap enc4)])⟩
 refine Run.opG wantS_none (ex_assign rfl) rfl ?_
 refine Run.opsEnd (Run.seq (Run.block (Run.loop ?_)))
 exact Run.pick [7, 8] (slices_Repeat_4_ok F F ((min v0.length l28.length : Nat) : Int) l31 s28 _ _ _ hH32 h)

def slices_Repeat_2 (F : Nat) (v0 : (List Bool)) (v6 : Int) (v26 : Bool) : Option ((List Bool)) :=
 bif v26 then
  none
 else
  slices_Repeat_3 F v0 v6

theorem slices_Repeat_2_ok (F : Nat) : ∀ (v0 : (List Bool)) (v6 : Int) (v26 : Bool) (sv0 : SV) (Fr : Rd) (M : Mem) (r : (List Bool)) (hv0 : Slc Fr 1 (FlatR enc4) sv0 v0) (hH : Has Fr M []), slices_Repeat_2 F v0 v6 v26 = some r → Run Tryz.prog ⟨⟨66, [], none⟩, []⟩ 48 (slices_Repeat_post r) [(0, sv0), (6, (.int .u64 v6)), (26, (.bool v26))] [codeC Tryz.prog 66 [1, 1, 1, 0, 1], codeC Tryz.prog 66 [1, 1, 1, 1]] M := by
 intro v0 v6 v26 sv0 Fr M r hv0 hH h
 rw [slices_Repeat_2] at h
 rcases btf (v26) with hc26 | hc26
 ·have h := bif_t hc26 h
  refine Run.condT' rfl hc26 ?_
  refine Run.region ?_
  cases h
 ·have h := bif_f hc26 h
  refine Run.condF' rfl hc26 ?_
  refine Run.skip (Run.seq (Run.region ?_))
  exact Run.pick [0, 6] (slices_Repeat_3_ok F v0 v6 sv0 _ _ _ hv0 hH h)

def slices_Repeat_1 (F : Nat) (v0 : (List Bool)) (v1 : Int) : Option ((List Bool)) :=
 bnd (bits_Mul F (IntKind.wrap .u64 (v0.length : Int)) (IntKind.wrap .u64 v1)) fun r23 =>
 bif (decide ((0 : Int) < r23.1)) then
  slices_Repeat_2 F v0 r23.2 true
 else
  slices_Repeat_2 F v0 r23.2 (decide ((9223372036854775807 : Int) < r23.2))

theorem slices_Repeat_1_ok (F : Nat) : ∀ (v0 : (List Bool)) (v1 : Int) (sv0 : SV) (Fr : Rd) (M : Mem) (r : (List Bool)) (hv0 : Slc Fr 1 (FlatR enc4) sv0 v0) (hH : Has Fr M []), slices_Repeat_1 F v0 v1 = some r → Run Tryz.prog ⟨⟨66, [], none⟩, []⟩ 48 (slices_Repeat_post r) [(0, sv0), (1, (.int .i64 v1))] [itemC Tryz.prog 66 [1, 1, 0] 0, codeC Tryz.prog 66 [1, 1, 1]] M := by
 intro v0 v1 sv0 Fr M r hv0 hH h
 rw [slices_Repeat_1] at h
 refine Run.opG wantS_none (ex_move rfl) rfl ?_
 refine Run.opG wantS_none (ex_len' rfl hv0 lenk48) rfl ?_
 refine Run.opG wantS_none (ex_conv rfl uvk3_157 cvk3_157) rfl ?_
 refine Run.opG wantS_none (ex_move rfl) rfl ?_
 refine Run.opG wantS_none (ex_conv rfl uvk3_157 cvk3_157) rfl ?_
 obtain ⟨r23, hr23, h⟩ := bnd_some h
 refine Run.callP wantS_none (ex_call rfl mkk96 cal96) rfl (bits_Mul_ok F (IntKind.wrap .u64 (v0.length : Int)) (IntKind.wrap .u64 v1) _ _ hr23) ?_
 refine Run.opG wantS_none (ex_move rfl) rfl ?_
 refine Run.opG wantS_none (ex_extract rfl rfl) rfl ?_
 refine Run.opG wantS_none (ex_extract rfl rfl) rfl ?_
 refine Run.opG wantS_none (ex_assign rfl) rfl ?_
 refine Run.opG wantS_none (ex_assign rfl) rfl ?_
 refine Run.opsEnd (Run.seq (Run.seq (Run.region ?_)))
 refine Run.opG wantS_none (ex_move rfl) rfl ?_
 refine Run.opG wantS_none (ex_gtr rfl rfl) rfl ?_
 refine Run.opG wantS_none (ex_move rfl) rfl ?_
 rcases btf ((decide ((0 : Int) < r23.1))) with hc25 | hc25
 ·have h := bif_t hc25 h
  refine Run.no (wantS_not' rfl rfl hc25) rfl ?_
  refine Run.no (wantS_not' rfl rfl hc25) rfl ?_
  refine Run.opG wantS_none (ex_pickT' rfl hc25 rfl rfl) rfl ?_
  refine Run.opsEnd ?_
  exact Run.pick [0, 6, 26] (slices_Repeat_2_ok F v0 r23.2 true sv0 _ _ _ hv0 hH h)
 ·have h := bif_f hc25 h
  refine Run.opG (wantS_yes' rfl rfl hc25) (ex_move rfl) rfl ?_
  refine Run.opG (wantS_yes' rfl rfl hc25) (ex_gtr rfl rfl) rfl ?_
  refine Run.opG wantS_none (ex_pickF' rfl hc25 rfl rfl) rfl ?_
  refine Run.opsEnd ?_
  exact Run.pick [0, 6, 26] (slices_Repeat_2_ok F v0 r23.2 (decide ((9223372036854775807 : Int) < r23.2)) sv0 _ _ _ hv0 hH h)

def slices_Repeat (F : Nat) (a0 : (List Bool)) (a1 : Int) : Option ((List Bool)) :=
 bif (decide (a1 < (0 : Int))) then
  none
 else
  slices_Repeat_1 F a0 a1

theorem slices_Repeat_ok (F : Nat) (a0 : (List Bool)) (a1 : Int) (s0 : SV) (r : (List Bool)) (M : Mem) (hs0 : Slc (rd M) 1 (FlatR enc4) s0 a0) (h : slices_Repeat F a0 a1 = some r) : CallsM Tryz.prog 66 [s0, (.int .i64 a1)] M (fun s M' => ∃ q1, s = q1 ∧ New M M' [.vec 4 1 r.length q1 (r.flatMap enc4)]) := by
 refine CallsM.fresh (Q := slices_Repeat_post r) Tryz.func66 rfl rfl ?_ (by rintro s Me ⟨q1, rfl, hx⟩ ha hw; exact ⟨_, rfl, New.of rfl hx ha hw⟩)
 rw [slices_Repeat] at h
 replace hs0 := hs0.mono (rdLe_frozen M) (fun _ _ h => h)
 have hH := Has.nil (frozen M)
 refine Run.seq (Run.region ?_)
 refine Run.opG wantS_none (ex_assign rfl) rfl ?_
 refine Run.opsEnd (Run.seq (Run.seq (Run.region ?_)))
 refine Run.opG wantS_none (ex_move rfl) rfl ?_
 refine Run.opG wantS_none (ex_lss rfl rfl) rfl ?_
 refine Run.opsEnd ?_
 rcases btf ((decide (a1 < (0 : Int)))) with hc21 | hc21
 ·have h := bif_t hc21 h
  refine Run.condT' rfl hc21 ?_
  refine Run.region ?_
  cases h
 ·have h := bif_f hc21 h
  refine Run.condF' rfl hc21 ?_
  refine Run.skip (Run.seq (Run.region ?_))
  exact Run.pick [0, 1] (slices_Repeat_1_ok F a0 a1 s0 _ _ _ hs0 hH h)

theorem mkk66 : makeK Tryz.prog 66 = none := by kernel_rfl
theorem cal66 : callable Tryz.prog 66 = true := by kernel_rfl
theorem zer48 : zerosOf Tryz.prog 48 = some [.nils] := by kernel_rfl
theorem sz48 : szOf Tryz.prog 48 = some 1 := by kernel_rfl
theorem mkk67 : makeK Tryz.prog 67 = none := by kernel_rfl
theorem cal67 : callable Tryz.prog 67 = true := by kernel_rfl
theorem agg48 : aggSize Tryz.prog 48 = some none := by kernel_rfl
theorem els35 : elems Tryz.prog 35 = some (.arr 2 1) := by kernel_rfl
theorem elt34 : sliceElt Tryz.prog 34 = some (⟨2, 40, [(.str []), .nils], 127⟩ : Elt) := by kernel_rfl
abbrev glitch_isFrom_post (r : Bool) : SV → Mem → Prop := fun s _ => s = (.bool r)

def glitch_isFrom_1 (F : Nat) (v14 : Bool) : Option (Bool) :=
 some v14

theorem glitch_isFrom_1_ok (F : Nat) : ∀ (v14 : Bool) (Fr : Rd) (M : Mem) (r : Bool) (hH : Has Fr M []), glitch_isFrom_1 F v14 = some r → Run Tryz.prog ⟨⟨72, [], none⟩, []⟩ 15 (glitch_isFrom_post r) [(14, (.bool v14))] [itemC Tryz.prog 72 [1, 0] 8, codeC Tryz.prog 72 [1, 1]] M := by
 intro v14 Fr M r hH h
 rw [glitch_isFrom_1] at h
 refine Run.opG wantS_none (ex_assign rfl) rfl ?_
 refine Run.opsEnd ?_
 cases h
 exact Run.ret Tryz.func72 rfl (res_tmp rfl res_nil) rfl

def glitch_isFrom (F : Nat) (a0 a1 a2 : Int) : Option (Bool) :=
 bif (decide (a0 ≤ a1)) then
  glitch_isFrom_1 F (decide (a1 ≤ a2))
 else
  glitch_isFrom_1 F false

theorem glitch_isFrom_ok (F : Nat) (a0 a1 a2 : Int) (r : Bool) (M : Mem) (h : glitch_isFrom F a0 a1 a2 = some r) : CallsM Tryz.prog 72 [(.int .i64 a0), (.int .i64 a1), (.int .i64 a2)] M (fun s M' => s = (.bool r) ∧ M' = M) := by
 refine CallsM.plain Tryz.func72 rfl rfl rfl (show Run _ _ _ (glitch_isFrom_post r) _ _ _ from ?_)
 rw [glitch_isFrom] at h
 have hH := Has.nil (frozen M)
 refine Run.seq (Run.region ?_)
 refine Run.opG wantS_none (ex_assign rfl) rfl ?_
 refine Run.opsEnd (Run.seq (Run.region ?_))
 refine Run.opG wantS_none (ex_move rfl) rfl ?_
 refine Run.opG wantS_none (ex_move rfl) rfl ?_
 refine Run.opG wantS_none (ex_leq rfl rfl) rfl ?_
 refine Run.opG wantS_none (ex_move rfl) rfl ?_
 rcases btf ((decide (a0 ≤ a1))) with hc21 | hc21
 ·have h := bif_t hc21 h
  refine Run.opG (wantS_yes' rfl rfl hc21) (ex_move rfl) rfl ?_
  refine Run.opG (wantS_yes' rfl rfl hc21) (ex_move rfl) rfl ?_
  refine Run.opG (wantS_yes' rfl rfl hc21) (ex_leq rfl rfl) rfl ?_
  refine Run.opG wantS_none (ex_pickT' rfl hc21 rfl rfl) rfl ?_
  exact Run.pick [14] (glitch_isFrom_1_ok F (decide (a1 ≤ a2)) _ _ _ hH h)
 ·have h := bif_f hc21 h
  refine Run.no (wantS_not' rfl rfl hc21) rfl ?_
  refine Run.no (wantS_not' rfl rfl hc21) rfl ?_
  refine Run.no (wantS_not' rfl rfl hc21) rfl ?_
  refine Run.opG wantS_none (ex_pickF' rfl hc21 rfl rfl) rfl ?_
  exact Run.pick [14] (glitch_isFrom_1_ok F false _ _ _ hH h)

theorem mkk72 : makeK Tryz.prog 72 = none := by kernel_rfl
theorem cal72 : callable Tryz.prog 72 = true := by kernel_rfl
abbrev glitch_isSpan_post (r : Bool) : SV → Mem → Prop := fun s _ => s = (.bool r)

def glitch_isSpan (F : Nat) (a0 : Int) : Option (Bool) :=
 bnd (glitch_isFrom F (1 : Int) a0 (1073741824 : Int)) fun r22 =>
 some r22

theorem glitch_isSpan_ok (F : Nat) (a0 : Int) (r : Bool) (M : Mem) (h : glitch_isSpan F a0 = some r) : CallsM Tryz.prog 78 [(.int .i64 a0)] M (fun s M' => s = (.bool r) ∧ M' = M) := by
 refine CallsM.plain Tryz.func78 rfl rfl rfl (show Run _ _ _ (glitch_isSpan_post r) _ _ _ from ?_)
 rw [glitch_isSpan] at h
 have hH := Has.nil (frozen M)
 refine Run.seq (Run.region ?_)
 refine Run.opG wantS_none (ex_assign rfl) rfl ?_
 refine Run.opsEnd (Run.seq (Run.region ?_))
 refine Run.opG wantS_none (ex_move rfl) rfl ?_
 obtain ⟨r22, hr22, h⟩ := bnd_some h
 refine Run.callP wantS_none (ex_call rfl mkk72 cal72) rfl (glitch_isFrom_ok F (1 : Int) a0 (1073741824 : Int) _ _ hr22) ?_
 refine Run.opG wantS_none (ex_assign rfl) rfl ?_
 refine Run.opsEnd ?_
 cases h
 exact Run.ret Tryz.func78 rfl (res_tmp rfl res_nil) rfl

theorem mkk78 : makeK Tryz.prog 78 = none := by kernel_rfl
theorem cal78 : callable Tryz.prog 78 = true := by kernel_rfl
abbrev glitch_checkSpan_post (r : Int) : SV → Mem → Prop := fun s _ => s = (.int .i64 r)

def glitch_checkSpan (F : Nat) (a0 : (List S_api_Veto)) (a1 : Int) : Option (Int) :=
 bnd (glitch_areVetoes F a0) fun r22 =>
 bif (!r22) then
  some (63 : Int)
 else
  bnd (glitch_isSpan F a1) fun r26 =>
  bif (!r26) then
   some (8 : Int)
  else
   some (0 : Int)

theorem glitch_checkSpan_ok (F : Nat) (a0 : (List S_api_Veto)) (a1 : Int) (s0 : SV) (r : Int) (M : Mem) (hs0 : Slc (rd M) 2 (rep127 (rd M)) s0 a0) (h : glitch_checkSpan F a0 a1 = some r) : CallsM Tryz.prog 46 [s0, (.int .i64 a1)] M (fun s M' => s = (.int .i64 r) ∧ M' = M) := by
 refine CallsM.plain Tryz.func46 rfl rfl rfl (show Run _ _ _ (glitch_checkSpan_post r) _ _ _ from ?_)
 rw [glitch_checkSpan] at h
 replace hs0 := hs0.mono (rdLe_frozen M) (fun _ _ => rep127_mo (rdLe_frozen M))
 have hH := Has.nil (frozen M)
 refine Run.seq (Run.region ?_)
 refine Run.opG wantS_none (ex_assign rfl) rfl ?_
 refine Run.opsEnd (Run.seq (Run.block (Run.seq (Run.region ?_))))
 refine Run.opG wantS_none (ex_move rfl) rfl ?_
 obtain ⟨r22, hr22, h⟩ := bnd_some h
 refine Run.callP wantS_none (ex_call rfl mkk43 cal43) rfl (glitch_areVetoes_ok F a0 s0 _ _ ((hs0).mono hH.le (fun _ _ => rep127_mo hH.le)) hr22) ?_
 refine Run.opG wantS_none (ex_not rfl) rfl ?_
 refine Run.opG wantS_none (ex_assign rfl) rfl ?_
 refine Run.opsEnd ?_
 rcases btf ((!r22)) with hc24 | hc24
 ·have h := bif_t hc24 h
  refine Run.condT' rfl hc24 ?_
  refine Run.seq (Run.region ?_)
  refine Run.opG wantS_none (ex_assign rfl) rfl ?_
  refine Run.opsEnd ?_
  cases h
  exact Run.ret Tryz.func46 rfl (res_tmp rfl res_nil) rfl
 ·have h := bif_f hc24 h
  refine Run.condF' rfl hc24 ?_
  refine Run.seq (Run.region ?_)
  refine Run.opG wantS_none (ex_move rfl) rfl ?_
  obtain ⟨r26, hr26, h⟩ := bnd_some h
  refine Run.callP wantS_none (ex_call rfl mkk78 cal78) rfl (glitch_isSpan_ok F a1 _ _ hr26) ?_
  refine Run.opG wantS_none (ex_not rfl) rfl ?_
  refine Run.opG wantS_none (ex_assign rfl) rfl ?_
  refine Run.opsEnd ?_
  rcases btf ((!r26)) with hc28 | hc28
  ·have h := bif_t hc28 h
   refine Run.condT' rfl hc28 ?_
   refine Run.seq (Run.region ?_)
   refine Run.opG wantS_none (ex_assign rfl) rfl ?_
   refine Run.opsEnd ?_
   cases h
   exact Run.ret Tryz.func46 rfl (res_tmp rfl res_nil) rfl
  ·have h := bif_f hc28 h
   refine Run.condF' rfl hc28 ?_
   refine Run.skip (Run.inBlock (Run.seq (Run.region ?_)))
   refine Run.opG wantS_none (ex_assign rfl) rfl ?_
   refine Run.opsEnd ?_
   cases h
   exact Run.ret Tryz.func46 rfl (res_tmp rfl res_nil) rfl

theorem mkk46 : makeK Tryz.prog 46 = none := by kernel_rfl
theorem cal46 : callable Tryz.prog 46 = true := by kernel_rfl
theorem mkk101 : makeK Tryz.prog 101 = none := by kernel_rfl
theorem cal101 : callable Tryz.prog 101 = true := by kernel_rfl
theorem mkk102 : makeK Tryz.prog 102 = none := by kernel_rfl
theorem cal102 : callable Tryz.prog 102 = true := by kernel_rfl
theorem sz3 : szOf Tryz.prog 3 = some 1 := by kernel_rfl
theorem elt33 : sliceElt Tryz.prog 33 = some (⟨2, 16, [(.int .i64 0), (.int .i64 0)], 106⟩ : Elt) := by kernel_rfl
theorem appt33_33 : appT Tryz.prog 33 33 = some (⟨2, 16, [(.int .i64 0), (.int .i64 0)], 106⟩ : Elt) := by kernel_rfl
theorem plan102_1_1_0 : planOf Tryz.prog (opsC (atC Tryz.prog 102 [1, 1, 0])) = some [.fl 0, .fl 1, .fl 2, .fl 3, .fl 4, .fl 5, .an 6 [5, 4, 3, 2, 1], .fl 7, .sync] := by kernel_rfl
theorem mkk103 : makeK Tryz.prog 103 = none := by kernel_rfl
theorem cal103 : callable Tryz.prog 103 = true := by kernel_rfl
theorem plan79_1_1_1_1_0_1_0_0_1_1_0_0_1_1_1_0 : planOf Tryz.prog (opsC (atC Tryz.prog 79 [1, 1, 1, 1, 0, 1, 0, 0, 1, 1, 0, 0, 1, 1, 1, 0])) = some [.fl 0, .fl 1, .fl 2, .fl 3, .fl 4, .fl 5, .fl 6, .fl 7, .fl 8, .fl 9, .fl 10, .fl 11, .an 12 [], .sync] := by kernel_rfl
theorem plan79_1_1_1_1_0_1_0_0_1_1_0_0_1_1_0 : planOf Tryz.prog (opsC (atC Tryz.prog 79 [1, 1, 1, 1, 0, 1, 0, 0, 1, 1, 0, 0, 1, 1, 0])) = some [.fl 0, .fl 1, .fl 2, .fl 3, .fl 4, .fl 5, .fl 6, .fl 7, .fl 8, .fl 9, .fl 10, .fl 11, .sync] := by kernel_rfl
end Go.Ev.RunVetoed
