/- Plain functions that say what functions of the program come to, and proofs of it, written by a program of the verifier's own. -/
import Derived.Test.YtjddbfpinjjkkaaGreatDoorSort
import Derived.Test.YtjddbfpinjjkkaaGreatDoorGlitchVetoesPlain
namespace Go.Ev.GlitchVetoes
open Go Go.Ev Go.Proofs
set_option maxRecDepth 100000
set_option linter.unusedVariables false

abbrev ref06_Held_post (r : (List S_api_Segment) × Int) : SV → Mem → Prop := fun s Me => ∃ q1, s = (.tuple [q1, (.int .i64 r.2)]) ∧ Has (fun _ => none) Me [.vec 37 2 r.1.length q1 (r.1.flatMap enc37)]

def ref06_Held_2 (F : Nat) (hd1 : Int → Int → (List UInt8) → (List S_api_Segment) → (List S_api_Segment) → Option ((List S_api_Segment) × Int)) (v2 v7 : Int) (c34_0 : (List UInt8)) (c34_1 l49 : (List S_api_Segment)) : Option ((List S_api_Segment) × Int) :=
 hd1 v2 (w64 (v7 + (1 : Int))) c34_0 c34_1 l49

theorem ref06_Held_2_ok (F : Nat) (hd1 : Int → Int → (List UInt8) → (List S_api_Segment) → (List S_api_Segment) → Option ((List S_api_Segment) × Int)) (hhd1 : ∀ (v2 v7 : Int) (c34_0 : (List UInt8)) (c34_1 l36 : (List S_api_Segment)) (sc34_1 s36 : SV) (b34 : Pos) (Fr : Rd) (M : Mem) (r : (List S_api_Segment) × Int) (hc34_1 : Slc Fr 2 (FlatR enc37) sc34_1 c34_1) (hH : Has Fr M [.vec 37 2 l36.length s36 (l36.flatMap enc37), .obj b34 (.row 35 .whole [(.str c34_0), sc34_1])]), hd1 v2 v7 c34_0 c34_1 l36 = some r → Run Tryz.prog ⟨⟨44, [], none⟩, [.mk ⟨16, [], none⟩ 17 (treeOf []) [itemC Tryz.prog 16 [1, 1, 0] 2, codeC Tryz.prog 16 [1, 1, 1]]]⟩ 35 (ref06_Held_post r) [(0, s36), (2, (.int .i64 v2)), (4, (.ptr b34 0)), (7, (.int .i64 v7))] [codeC Tryz.prog 44 [1, 0, 1, 0, 0], loopC Tryz.prog 44 [1, 0, 1, 0, 0], .inBlock 0, codeC Tryz.prog 44 [1, 1]] M) : ∀ (v2 v7 : Int) (c34_0 : (List UInt8)) (c34_1 l49 : (List S_api_Segment)) (sc34_1 s49 : SV) (b34 : Pos) (Fr : Rd) (M : Mem) (r : (List S_api_Segment) × Int) (hc34_1 : Slc Fr 2 (FlatR enc37) sc34_1 c34_1) (hH : Has Fr M [.vec 37 2 l49.length s49 (l49.flatMap enc37), .obj b34 (.row 35 .whole [(.str c34_0), sc34_1])]), ref06_Held_2 F hd1 v2 v7 c34_0 c34_1 l49 = some r → Run Tryz.prog ⟨⟨44, [], none⟩, [.mk ⟨16, [], none⟩ 17 (treeOf []) [itemC Tryz.prog 16 [1, 1, 0] 2, codeC Tryz.prog 16 [1, 1, 1]]]⟩ 35 (ref06_Held_post r) [(0, s49), (2, (.int .i64 v2)), (4, (.ptr b34 0)), (7, (.int .i64 v7))] [itemC Tryz.prog 44 [1, 0, 1, 0, 0, 1, 1] 0, loopC Tryz.prog 44 [1, 0, 1, 0, 0], .inBlock 0, codeC Tryz.prog 44 [1, 1]] M := by
 intro v2 v7 c34_0 c34_1 l49 sc34_1 s49 b34 Fr M r hc34_1 hH h
 rw [ref06_Held_2] at h
 refine Run.opG wantS_none (ex_move rfl) rfl <| Run.opG wantS_none (ex_add rfl rfl) rfl <| Run.opG wantS_none (ex_assign rfl) rfl ?_
 refine Run.opsEnd (Run.inLoop ?_)
 exact Run.low (.cons (fle_pick [] rfl) .nil) (Run.pick [0, 2, 4, 7] (hhd1 v2 (w64 (v7 + (1 : Int))) c34_0 c34_1 l49 sc34_1 s49 b34 _ _ _ hc34_1 hH h))

def ref06_Held_1 (F : Nat) : Nat → Int → Int → (List UInt8) → (List S_api_Segment) → (List S_api_Segment) → Option ((List S_api_Segment) × Int)
 | 0, _, _, _, _, _ => none
 | N + 1, v2, v7, c34_0, c34_1, l36 =>
  bif (decide (v7 < (c34_1.length : Int))) then
   bnd (idx c34_1 v7) fun x40 =>
   bif (decide (x40.From < v2)) then
    bnd (ref06_add F l36 (S_api_Segment.mk x40.From (min x40.To v2))) fun r48 =>
    ref06_Held_2 F (ref06_Held_1 F N) v2 v7 c34_0 c34_1 r48
   else
    ref06_Held_2 F (ref06_Held_1 F N) v2 v7 c34_0 c34_1 l36
  else
   some (l36, (0 : Int))

theorem ref06_Held_1_ok (F : Nat) : ∀ (N : Nat), ∀ (v2 v7 : Int) (c34_0 : (List UInt8)) (c34_1 l36 : (List S_api_Segment)) (sc34_1 s36 : SV) (b34 : Pos) (Fr : Rd) (M : Mem) (r : (List S_api_Segment) × Int) (hc34_1 : Slc Fr 2 (FlatR enc37) sc34_1 c34_1) (hH : Has Fr M [.vec 37 2 l36.length s36 (l36.flatMap enc37), .obj b34 (.row 35 .whole [(.str c34_0), sc34_1])]), ref06_Held_1 F N v2 v7 c34_0 c34_1 l36 = some r → Run Tryz.prog ⟨⟨44, [], none⟩, [.mk ⟨16, [], none⟩ 17 (treeOf []) [itemC Tryz.prog 16 [1, 1, 0] 2, codeC Tryz.prog 16 [1, 1, 1]]]⟩ 35 (ref06_Held_post r) [(0, s36), (2, (.int .i64 v2)), (4, (.ptr b34 0)), (7, (.int .i64 v7))] [codeC Tryz.prog 44 [1, 0, 1, 0, 0], loopC Tryz.prog 44 [1, 0, 1, 0, 0], .inBlock 0, codeC Tryz.prog 44 [1, 1]] M := by
 intro N
 induction N with
 | zero =>
  intro v2 v7 c34_0 c34_1 l36 sc34_1 s36 b34 Fr M r hc34_1 hH h
  simp [ref06_Held_1] at h
 | succ N ih =>
  intro v2 v7 c34_0 c34_1 l36 sc34_1 s36 b34 Fr M r hc34_1 hH h
  rw [ref06_Held_1] at h
  refine Run.seq (Run.seq (Run.region ?_))
  refine Run.opG wantS_none (ex_move rfl) rfl <| Run.opG wantS_none (ex_fieldAddr rfl off35_1) rfl <| Run.opG wantS_none (ex_load1 rfl (hH.cells (i := 1) rfl 1 rfl) rdLe_rfl agg31) rfl <| Run.opG wantS_none (ex_len' rfl hc34_1 lenk31) rfl <| Run.opG wantS_none (ex_lss rfl rfl) rfl <| Run.opsEnd ?_
  rcases btf ((decide (v7 < (c34_1.length : Int)))) with hc38 | hc38
  ·have h := bif_t hc38 h
   refine Run.condT' rfl hc38 ?_
   refine Run.skip (Run.seq (Run.block (Run.seq (Run.region ?_))))
   refine Run.opG wantS_none (ex_fieldAddr rfl off35_1) rfl <| Run.opG wantS_none (ex_load1 rfl (hH.cells (i := 1) rfl 1 rfl) rdLe_rfl agg31) rfl <| Run.opG wantS_none (ex_move rfl) rfl ?_
   obtain ⟨x40, hx40, h⟩ := bnd_some h
   obtain ⟨p40, o40, _, hx40, hp40, rfl⟩ := sl_elem (P := Tryz.prog) (t := 31) (kk := .i64) hc34_1 hx40 els31
   refine Run.opG wantS_none (ex_elX rfl rfl hx40) rfl <| Run.opG wantS_none (ex_loadA rfl (hH.ptrF hp40) rdLe_rfl agg37 rfl rfl rfl) rfl <| Run.opX wantS_none rfl (ExG.new (v := fun b => .ptr b 0) (ex_alloc zer37) hH) ?_
   rintro _ M43 ⟨b42, rfl, hH43⟩
   refine Run.opX wantS_none rfl (ExG.storeC (c' := [(.int .i64 x40.From), (.int .i64 x40.To)]) rfl rfl rfl hH43 (i := 0) rfl sz37 rfl rfl rfl rfl rfl) ?_
   rintro _ M44 ⟨rfl, (hH44 : Has Fr M44 [.obj b42 (.row 37 .whole [(.int .i64 x40.From), (.int .i64 x40.To)]), .vec 37 2 l36.length s36 (l36.flatMap enc37), .obj b34 (.row 35 .whole [(.str c34_0), sc34_1])])⟩
   refine Run.opsEnd (Run.seq (Run.region ?_))
   refine Run.opG wantS_none (ex_fieldAddr rfl off37_0) rfl <| Run.opG wantS_none (ex_load1 rfl (hH44.cells (i := 0) rfl 0 rfl) rdLe_rfl agg3) rfl <| Run.opG wantS_none (ex_move rfl) rfl <| Run.opG wantS_none (ex_lss rfl rfl) rfl <| Run.opsEnd ?_
   rcases btf ((decide (x40.From < v2))) with hc45 | hc45
   ·have h := bif_t hc45 h
    refine Run.condT' rfl hc45 <| Run.region <| Run.opG wantS_none (ex_move rfl) rfl <| Run.opG wantS_none (ex_fieldAddr rfl off37_0) rfl <| Run.opG wantS_none (ex_load1 rfl (hH44.cells (i := 0) rfl 0 rfl) rdLe_rfl agg3) rfl <| Run.opG wantS_none (ex_fieldAddr rfl off37_1) rfl <| Run.opG wantS_none (ex_load1 rfl (hH44.cells (i := 0) rfl 1 rfl) rdLe_rfl agg3) rfl <| Run.opG wantS_none (ex_move rfl) rfl <| Run.opG wantS_none (ex_min rfl rfl) rfl <| Run.opG wantS_none (ex_build (r := [(.int .i64 x40.From), (.int .i64 (min x40.To v2))]) rfl zer37 pls37 rfl) rfl ?_
    obtain ⟨r48, hr48, h⟩ := bnd_some h
    refine Run.callX wantS_none (ex_call rfl mkk87 cal87) rfl (ref06_add_ok F l36 (S_api_Segment.mk x40.From (min x40.To v2)) s36 _ _ (hH44.slc (i := 1) rfl enc37_len) hr48) ?_
    rintro s48_0 M50 ⟨_, rfl, hN48⟩
    have hH50 : Has Fr M50 [.vec 37 2 r48.length s48_0 (r48.flatMap enc37), .obj b42 (.row 37 .whole [(.int .i64 x40.From), (.int .i64 x40.To)]), .vec 37 2 l36.length s36 (l36.flatMap enc37), .obj b34 (.row 35 .whole [(.str c34_0), sc34_1])] := hN48.1 _ _ hH44
    refine Run.opG wantS_none (ex_assign rfl) rfl ?_
    refine Run.opsEnd (Run.inBlock (Run.region ?_))
    exact Run.low (.cons (fle_pick [] rfl) .nil) (Run.pick [0, 2, 4, 7] (ref06_Held_2_ok F (ref06_Held_1 F N) ih v2 v7 c34_0 c34_1 r48 sc34_1 s48_0 b34 _ _ _ hc34_1 (hH50.pick [0, 3] rfl rfl) h))
   ·have h := bif_f hc45 h
    refine Run.condF' rfl hc45 ?_
    refine Run.skip (Run.inBlock (Run.region ?_))
    exact Run.low (.cons (fle_pick [] rfl) .nil) (Run.pick [0, 2, 4, 7] (ref06_Held_2_ok F (ref06_Held_1 F N) ih v2 v7 c34_0 c34_1 l36 sc34_1 s36 b34 _ _ _ hc34_1 (hH44.pick [1, 2] rfl rfl) h))
  ·have h := bif_f hc38 h
   refine Run.condF' rfl hc38 ?_
   refine Run.exit rfl (Run.seq (Run.region ?_))
   refine Run.opG wantS_none (ex_move rfl) rfl <| Run.opG wantS_none (ex_assign rfl) rfl <| Run.opsEnd <| Run.retTo Tryz.func44 rfl (res_tmp rfl res_nil) rfl <| Run.opG wantS_none (ex_assign rfl) rfl <| Run.opG wantS_none (ex_assign rfl) rfl <| Run.opsEnd ?_
   cases h
   exact Run.ret Tryz.func16 rfl (res_tmp rfl (res_tmp rfl res_nil)) ⟨_, rfl, (hH.pick [0] rfl rfl).upF (none_le _)⟩

def ref06_Held (F : Nat) (a0 : S_api_Veto) (a1 : Int) : Option ((List S_api_Segment) × Int) :=
 bnd (ref06_spanned F ([a0] : List S_api_Veto) a1) fun r28 =>
 bif (!(r28 == (0 : Int))) then
  some (([] : List S_api_Segment), r28)
 else
  ref06_Held_1 F F a1 (0 : Int) a0.Name a0.Segments ([] : List S_api_Segment)

theorem ref06_Held_ok (F : Nat) (a0 : S_api_Veto) (a1 : Int) (s0 : SV) (r : (List S_api_Segment) × Int) (M : Mem) (hs0 : Slc (rd M) 2 (FlatR enc37) s0 a0.Segments) (h : ref06_Held F a0 a1 = some r) : CallsM Tryz.prog 16 [(.agg [(.str a0.Name), s0]), (.int .i64 a1)] M (fun s M' => ∃ q1, s = (.tuple [q1, (.int .i64 r.2)]) ∧ New M M' [.vec 37 2 r.1.length q1 (r.1.flatMap enc37)]) := by
 refine CallsM.fresh (Q := ref06_Held_post r) Tryz.func16 rfl rfl ?_ (by rintro s Me ⟨q1, rfl, hx⟩ ha hw; exact ⟨_, rfl, New.of rfl hx ha hw⟩)
 rw [ref06_Held] at h
 replace hs0 := hs0.mono (rdLe_frozen M) (fun _ _ h => h)
 have hH := Has.nil (frozen M)
 refine Run.seq (Run.region ?_)
 refine Run.opX wantS_none rfl (ExG.box rfl rfl hH) ?_
 rintro _ M23 ⟨b22, rfl, hH23⟩
 refine Run.opG wantS_none (ex_assign rfl) rfl <| Run.opG wantS_none (ex_assign rfl) rfl ?_
 refine Run.opsEnd (Run.seq (Run.seq (Run.region ?_)))
 refine Run.opG wantS_none (ex_loadA rfl (hH23.cells (i := 0) rfl 0 rfl) rdLe_rfl agg35 rfl rfl rfl) rfl ?_
 have hr25 : Rows (rep35 (ro (frozen M))) 2 [(.str a0.Name), s0] ([a0] : List S_api_Veto) := (Rows.cons (cs := [(.str a0.Name), s0]) rfl ⟨s0, rfl, hs0⟩ Rows.nil)
 refine Run.opX wantS_none rfl (ExG.builtR (z := 2) (c := [(.str a0.Name), s0]) rfl elt22 rfl rfl rfl hH23) ?_
 rintro s25 M26 (hH26 : Has (ro (frozen M)) M26 [.vec 35 2 ([a0] : List S_api_Veto).length s25 [(.str a0.Name), s0], .obj b22 (.row 35 .whole [(.str a0.Name), s0])])
 refine Run.opG wantS_none (ex_move rfl) rfl ?_
 obtain ⟨r28, hr28, h⟩ := bnd_some h
 refine Run.callP wantS_none (ex_call rfl mkk43 cal43) rfl (ref06_spanned_ok F ([a0] : List S_api_Veto) a1 s25 _ _ (((hH26.slcR (i := 0) rfl hr25)).mono (fun _ _ h => h) (fun _ _ => rep35_mo hH26.le)) hr28) <| Run.opG wantS_none (ex_assign rfl) rfl ?_
 refine Run.opsEnd (Run.seq (Run.region ?_))
 refine Run.opG wantS_none (ex_move rfl) rfl <| Run.opG wantS_none (ex_neq rfl rfl) rfl <| Run.opsEnd ?_
 rcases btf ((!(r28 == (0 : Int)))) with hc30 | hc30
 ·have h := bif_t hc30 h
  refine Run.condT' rfl hc30 ?_
  refine Run.seq (Run.region ?_)
  refine Run.opG wantS_none (ex_move rfl) rfl <| Run.opG wantS_none (ex_assign rfl) rfl <| Run.opG wantS_none (ex_assign rfl) rfl <| Run.opsEnd ?_
  have hH32 : Has (ro (frozen M)) M26 [.vec 37 2 ([] : List S_api_Segment).length .nils (([] : List S_api_Segment).flatMap enc37), .vec 35 2 ([a0] : List S_api_Veto).length s25 [(.str a0.Name), s0], .obj b22 (.row 35 .whole [(.str a0.Name), s0])] := hH26.nils 37 2
  cases h
  exact Run.ret Tryz.func16 rfl (res_tmp rfl (res_tmp rfl res_nil)) ⟨_, rfl, (hH32.pick [0] rfl rfl).upF (none_le _)⟩
 ·have h := bif_f hc30 h
  refine Run.condF' rfl hc30 ?_
  refine Run.skip (Run.seq (Run.region ?_))
  refine Run.opG wantS_none (ex_loadA rfl (hH26.cells (i := 1) rfl 0 rfl) rdLe_rfl agg35 rfl rfl rfl) rfl <| Run.opG wantS_none (ex_move rfl) rfl <| Run.enter wantS_none (ex_call rfl mkk44 cal44) Tryz.func44 rfl rfl ?_
  refine Run.seq (Run.region ?_)
  refine Run.opX wantS_none rfl (ExG.box rfl rfl hH26) ?_
  rintro _ M35 ⟨b34, rfl, hH35⟩
  refine Run.opG wantS_none (ex_assign rfl) rfl ?_
  refine Run.opsEnd (Run.seq (Run.seq (Run.region ?_)))
  refine Run.opG wantS_none (ex_assign rfl) rfl ?_
  refine Run.opsEnd (Run.block (Run.loop ?_))
  have hH37 : Has (ro (frozen M)) M35 [.vec 37 2 ([] : List S_api_Segment).length .nils (([] : List S_api_Segment).flatMap enc37), .obj b34 (.row 35 .whole [(.str a0.Name), s0]), .vec 35 2 ([a0] : List S_api_Veto).length s25 [(.str a0.Name), s0], .obj b22 (.row 35 .whole [(.str a0.Name), s0])] := hH35.nils 37 2
  exact Run.low (.cons (fle_pick [] rfl) .nil) (Run.pick [0, 2, 4, 7] (ref06_Held_1_ok F F a1 (0 : Int) a0.Name a0.Segments ([] : List S_api_Segment) s0 .nils b34 _ _ _ hs0 (hH37.pick [0, 1] rfl rfl) h))

theorem mkk16 : makeK Tryz.prog 16 = none := by kernel_rfl
theorem cal16 : callable Tryz.prog 16 = true := by kernel_rfl
theorem agk3 : aggK Tryz.prog 3 = some .int := by kernel_rfl
theorem agk37 : aggK Tryz.prog 37 = some (.st [⟨ "From", 3, 0, false, "", "", 0⟩, ⟨ "To", 3, 1, false, "", "", 8⟩]) := by kernel_rfl
theorem aeq37 : aggEq Tryz.prog 37 = false := by kernel_rfl
theorem plan4_1_1_0_1_0_0_1_0_0_1_1_1_1_0_0_1_0_0_0 : planOf Tryz.prog (opsC (atC Tryz.prog 4 [1, 1, 0, 1, 0, 0, 1, 0, 0, 1, 1, 1, 1, 0, 0, 1, 0, 0, 0])) = some [.fl 0, .fl 1, .fl 2, .fl 3, .fl 4, .fl 5, .fl 6, .fl 7, .fl 8, .sync] := by kernel_rfl
theorem plan4_1_1_0_1_0_0_1_0_0_1_0 : planOf Tryz.prog (opsC (atC Tryz.prog 4 [1, 1, 0, 1, 0, 0, 1, 0, 0, 1, 0])) = some [.fl 0, .fl 1, .fl 2, .fl 3, .fl 4, .fl 5, .an 6 [], .fl 7, .fl 8, .fl 9, .fl 10, .fl 11, .sync] := by kernel_rfl
theorem plan4_1_1_0_1_0_0_1_0_0_0 : planOf Tryz.prog (opsC (atC Tryz.prog 4 [1, 1, 0, 1, 0, 0, 1, 0, 0, 0])) = some [.fl 0, .fl 1, .fl 2, .fl 3, .fl 4, .fl 5, .an 6 [], .fl 7, .fl 8, .fl 9, .fl 10, .fl 11, .sync] := by kernel_rfl
abbrev glitch_dead_post (r : Int) : SV → Mem → Prop := fun s _ => s = (.int .i64 r)

def glitch_dead_2 (F : Nat) : Nat → Int → Int → Int → (List S_api_Segment) → Option (Int)
 | 0, _, _, _, _ => none
 | N + 1, v8, v25, v26, l38 =>
  bif (decide (v26 < v25)) then
   bnd (idx l38 v26) fun x42 =>
   (glitch_dead_2 F N) (w64 (v8 + (w64 (x42.To - x42.From)))) v25 (w64 (v26 + (1 : Int))) l38
  else
   some v8

theorem glitch_dead_2_ok (F : Nat) : ∀ (N : Nat), ∀ (v8 v25 v26 : Int) (l38 : (List S_api_Segment)) (s38 : SV) (Fr : Rd) (M : Mem) (r : Int) (hH : Has Fr M [.vec 37 2 l38.length s38 (l38.flatMap enc37)]), glitch_dead_2 F N v8 v25 v26 l38 = some r → Run Tryz.prog ⟨⟨31, [], none⟩, []⟩ 39 (glitch_dead_post r) [(8, (.int .i64 v8)), (24, s38), (25, (.int .i64 v25)), (26, (.int .i64 v26))] [codeC Tryz.prog 31 [1, 1, 1, 1, 0, 1, 0, 0], loopC Tryz.prog 31 [1, 1, 1, 1, 0, 1, 0, 0], .inBlock 2, codeC Tryz.prog 31 [1, 1, 1, 1, 1]] M := by
 intro N
 induction N with
 | zero =>
  intro v8 v25 v26 l38 s38 Fr M r hH h
  simp [glitch_dead_2] at h
 | succ N ih =>
  intro v8 v25 v26 l38 s38 Fr M r hH h
  rw [glitch_dead_2] at h
  refine Run.seq (Run.region ?_)
  refine Run.opG wantS_none (ex_lss rfl rfl) rfl ?_
  refine Run.opsEnd (Run.seq ?_)
  rcases btf ((decide (v26 < v25))) with hc40 | hc40
  ·have h := bif_t hc40 h
   refine Run.condT' rfl hc40 ?_
   refine Run.skip (Run.seq (Run.block (Run.seq (Run.region ?_))))
   obtain ⟨x42, hx42, h⟩ := bnd_some h
   obtain ⟨p42, o42, hb42, hx42, he42⟩ := vec_elem (P := Tryz.prog) (t := 31) (kk := .i64) hH (i := 0) rfl hx42 els31
   refine Run.opG wantS_none (ex_elX rfl rfl hx42) rfl <| Run.opG wantS_none (ex_loadA rfl (hH.at (enc := enc37) (a := x42) (i := 0) rfl hb42 he42 enc37_len) rdLe_rfl agg37 rfl rfl rfl) rfl <| Run.opX wantS_none rfl (ExG.new (v := fun b => .ptr b 0) (ex_alloc zer37) hH) ?_
   rintro _ M45 ⟨b44, rfl, hH45⟩
   refine Run.opX wantS_none rfl (ExG.storeC (c' := [(.int .i64 x42.From), (.int .i64 x42.To)]) rfl rfl rfl hH45 (i := 0) rfl sz37 rfl rfl rfl rfl rfl) ?_
   rintro _ M46 ⟨rfl, (hH46 : Has Fr M46 [.obj b44 (.row 37 .whole [(.int .i64 x42.From), (.int .i64 x42.To)]), .vec 37 2 l38.length s38 (l38.flatMap enc37)])⟩
   refine Run.opsEnd (Run.region ?_)
   refine Run.opG wantS_none (ex_move rfl) rfl <| Run.opG wantS_none (ex_fieldAddr rfl off37_1) rfl <| Run.opG wantS_none (ex_load1 rfl (hH46.cells (i := 0) rfl 1 rfl) rdLe_rfl agg3) rfl <| Run.opG wantS_none (ex_fieldAddr rfl off37_0) rfl <| Run.opG wantS_none (ex_load1 rfl (hH46.cells (i := 0) rfl 0 rfl) rdLe_rfl agg3) rfl <| Run.opG wantS_none (ex_sub rfl rfl) rfl <| Run.opG wantS_none (ex_add rfl rfl) rfl <| Run.opG wantS_none (ex_assign rfl) rfl ?_
   refine Run.opsEnd (Run.inBlock (Run.region ?_))
   refine Run.opG wantS_none (ex_add rfl rfl) rfl <| Run.opG wantS_none (ex_move rfl) rfl ?_
   refine Run.opsEnd (Run.inLoop ?_)
   exact Run.pick [8, 24, 25, 26] (ih (w64 (v8 + (w64 (x42.To - x42.From)))) v25 (w64 (v26 + (1 : Int))) l38 s38 _ _ _ (hH46.pick [1] rfl rfl) h)
  ·have h := bif_f hc40 h
   refine Run.condF' rfl hc40 ?_
   refine Run.exit rfl (Run.seq (Run.region ?_))
   refine Run.opG wantS_none (ex_move rfl) rfl <| Run.opG wantS_none (ex_assign rfl) rfl <| Run.opsEnd ?_
   cases h
   exact Run.ret Tryz.func31 rfl (res_tmp rfl res_nil) rfl

def glitch_dead_1 (F : Nat) : Nat → Int → (List S_api_Veto) → Int → Int → (List S_api_Segment) → Option (Int)
 | 0, _, _, _, _, _ => none
 | N + 1, v1, v11, v12, v13, l21 =>
  bif (decide (v13 < v12)) then
   bnd (idx v11 v13) fun x25 =>
   bnd (apd 16 l21 x25.Segments) fun l32 =>
   (glitch_dead_1 F N) v1 v11 v12 (w64 (v13 + (1 : Int))) l32
  else
   bnd (glitch_held F l21 v1) fun r37 =>
   glitch_dead_2 F F (0 : Int) (r37.length : Int) (0 : Int) r37

theorem glitch_dead_1_ok (F : Nat) : ∀ (N : Nat), ∀ (v1 : Int) (v11 : (List S_api_Veto)) (v12 v13 : Int) (l21 : (List S_api_Segment)) (sv11 s21 : SV) (Fr : Rd) (M : Mem) (r : Int) (hv11 : Slc Fr 2 (rep35 Fr) sv11 v11) (hH : Has Fr M [.vec 37 2 l21.length s21 (l21.flatMap enc37)]), glitch_dead_1 F N v1 v11 v12 v13 l21 = some r → Run Tryz.prog ⟨⟨31, [], none⟩, []⟩ 39 (glitch_dead_post r) [(1, (.int .i64 v1)), (5, s21), (11, sv11), (12, (.int .i64 v12)), (13, (.int .i64 v13))] [codeC Tryz.prog 31 [1, 1, 0, 1, 0, 0], loopC Tryz.prog 31 [1, 1, 0, 1, 0, 0], .inBlock 0, codeC Tryz.prog 31 [1, 1, 1]] M := by
 intro N
 induction N with
 | zero =>
  intro v1 v11 v12 v13 l21 sv11 s21 Fr M r hv11 hH h
  simp [glitch_dead_1] at h
 | succ N ih =>
  intro v1 v11 v12 v13 l21 sv11 s21 Fr M r hv11 hH h
  rw [glitch_dead_1] at h
  refine Run.seq (Run.region ?_)
  refine Run.opG wantS_none (ex_lss rfl rfl) rfl ?_
  refine Run.opsEnd (Run.seq ?_)
  rcases btf ((decide (v13 < v12))) with hc23 | hc23
  ·have h := bif_t hc23 h
   refine Run.condT' rfl hc23 ?_
   refine Run.skip (Run.seq (Run.block (Run.seq (Run.region ?_))))
   obtain ⟨x25, hx25, h⟩ := bnd_some h
   obtain ⟨p25, o25, _, hx25, hp25, ⟨q25_0, rfl, hq25_0⟩⟩ := sl_elem (P := Tryz.prog) (t := 22) (kk := .i64) hv11 hx25 els22
   refine Run.opG wantS_none (ex_elX rfl rfl hx25) rfl <| Run.opG wantS_none (ex_loadA rfl (hH.ptrF hp25) rdLe_rfl agg35 rfl rfl rfl) rfl <| Run.opX wantS_none rfl (ExG.new (v := fun b => .ptr b 0) (ex_alloc zer35) hH) ?_
   rintro _ M28 ⟨b27, rfl, hH28⟩
   refine Run.opX wantS_none rfl (ExG.storeC (c' := [(.str x25.Name), q25_0]) rfl rfl rfl hH28 (i := 0) rfl sz35 rfl rfl rfl (ones_cons rfl (ones_cons (slc_one hq25_0) ones_nil)) rfl) ?_
   rintro _ M29 ⟨rfl, (hH29 : Has Fr M29 [.obj b27 (.row 35 .whole [(.str x25.Name), q25_0]), .vec 37 2 l21.length s21 (l21.flatMap enc37)])⟩
   refine Run.opsEnd (Run.region ?_)
   refine Run.opG wantS_none (ex_move rfl) rfl <| Run.opG wantS_none (ex_fieldAddr rfl off35_1) rfl <| Run.opG wantS_none (ex_load1 rfl (hH29.cells (i := 0) rfl 1 rfl) rdLe_rfl agg31) rfl ?_
   obtain ⟨l32, hl32, h⟩ := bnd_some h
   refine Run.opX wantS_none rfl (ExG.append rfl rfl hH29 (i := 1) rfl enc37_len rfl enc37_ones appt31_31 rfl (len_slc hq25_0) (first_slc hq25_0 (rdLe_roF hH29) enc37_len) hl32) ?_
   rintro s32 M34 (hH34 : Has Fr M34 [.obj b27 (.row 35 .whole [(.str x25.Name), q25_0]), .vec 37 2 l32.length s32 (l32.flatMap enc37)])
   refine Run.opG wantS_none (ex_assign rfl) rfl ?_
   refine Run.opsEnd (Run.inBlock (Run.region ?_))
   refine Run.opG wantS_none (ex_add rfl rfl) rfl <| Run.opG wantS_none (ex_move rfl) rfl ?_
   refine Run.opsEnd (Run.inLoop ?_)
   exact Run.pick [1, 5, 11, 12, 13] (ih v1 v11 v12 (w64 (v13 + (1 : Int))) l32 sv11 s32 _ _ _ hv11 (hH34.pick [1] rfl rfl) h)
  ·have h := bif_f hc23 h
   refine Run.condF' rfl hc23 ?_
   refine Run.exit rfl (Run.seq (Run.region ?_))
   refine Run.opG wantS_none (ex_assign rfl) rfl ?_
   refine Run.opsEnd (Run.seq (Run.seq (Run.region ?_)))
   refine Run.opG wantS_none (ex_move rfl) rfl <| Run.opG wantS_none (ex_move rfl) rfl ?_
   obtain ⟨r37, hr37, h⟩ := bnd_some h
   refine Run.callX wantS_none (ex_call rfl mkk41 cal41) rfl (glitch_held_ok F l21 v1 s21 _ _ (hH.slc (i := 0) rfl enc37_len) hr37) ?_
   rintro s37_0 M39 ⟨_, rfl, hN37⟩
   have hH39 : Has Fr M39 [.vec 37 2 r37.length s37_0 (r37.flatMap enc37), .vec 37 2 l21.length s21 (l21.flatMap enc37)] := hN37.1 _ _ hH
   refine Run.opG wantS_none (ex_len' rfl (hH39.slc (i := 0) rfl enc37_len) lenk31) rfl <| Run.opG wantS_none (ex_move rfl) rfl ?_
   refine Run.opsEnd (Run.block (Run.loop ?_))
   exact Run.pick [8, 24, 25, 26] (glitch_dead_2_ok F F (0 : Int) (r37.length : Int) (0 : Int) r37 s37_0 _ _ _ (hH39.pick [0] rfl rfl) h)

def glitch_dead (F : Nat) (a0 : (List S_api_Veto)) (a1 : Int) : Option (Int) :=
 glitch_dead_1 F F a1 a0 (a0.length : Int) (0 : Int) ([] : List S_api_Segment)

theorem glitch_dead_ok (F : Nat) (a0 : (List S_api_Veto)) (a1 : Int) (s0 : SV) (r : Int) (M : Mem) (hs0 : Slc (rd M) 2 (rep35 (rd M)) s0 a0) (h : glitch_dead F a0 a1 = some r) : CallsM Tryz.prog 31 [s0, (.int .i64 a1)] M (fun s M' => s = (.int .i64 r) ∧ M' = M) := by
 refine CallsM.plain Tryz.func31 rfl rfl rfl (show Run _ _ _ (glitch_dead_post r) _ _ _ from ?_)
 rw [glitch_dead] at h
 replace hs0 := hs0.mono (rdLe_frozen M) (fun _ _ => rep35_mo (rdLe_frozen M))
 have hH := Has.nil (frozen M)
 refine Run.seq (Run.region ?_)
 refine Run.opG wantS_none (ex_assign rfl) rfl ?_
 refine Run.opsEnd (Run.seq (Run.region ?_))
 refine Run.opG wantS_none (ex_assign rfl) rfl ?_
 refine Run.opsEnd (Run.seq (Run.seq (Run.region ?_)))
 refine Run.opG wantS_none (ex_move rfl) rfl <| Run.opG wantS_none (ex_len' rfl hs0 lenk22) rfl <| Run.opG wantS_none (ex_move rfl) rfl ?_
 refine Run.opsEnd (Run.block (Run.loop ?_))
 have hH22 : Has (ro (frozen M)) (frozen M) [.vec 37 2 ([] : List S_api_Segment).length .nils (([] : List S_api_Segment).flatMap enc37)] := hH.nils 37 2
 exact Run.pick [1, 5, 11, 12, 13] (glitch_dead_1_ok F F a1 a0 (a0.length : Int) (0 : Int) ([] : List S_api_Segment) s0 .nils _ _ _ hs0 hH22 h)

theorem mkk31 : makeK Tryz.prog 31 = none := by kernel_rfl
theorem cal31 : callable Tryz.prog 31 = true := by kernel_rfl
abbrev glitch_Dead_post (r : Int × Int) : SV → Mem → Prop := fun s _ => s = (.tuple [(.int .i64 r.1), (.int .i64 r.2)])

def glitch_Dead (F : Nat) (a0 : (List S_api_Veto)) (a1 : Int) : Option (Int × Int) :=
 bnd (glitch_checkSpan F a0 a1) fun r22 =>
 bif (!(r22 == (0 : Int))) then
  some ((0 : Int), r22)
 else
  bnd (glitch_dead F a0 a1) fun r26 =>
  some (r26, (0 : Int))

theorem glitch_Dead_ok (F : Nat) (a0 : (List S_api_Veto)) (a1 : Int) (s0 : SV) (r : Int × Int) (M : Mem) (hs0 : Slc (rd M) 2 (rep35 (rd M)) s0 a0) (h : glitch_Dead F a0 a1 = some r) : CallsM Tryz.prog 10 [s0, (.int .i64 a1)] M (fun s M' => s = (.tuple [(.int .i64 r.1), (.int .i64 r.2)]) ∧ M' = M) := by
 refine CallsM.plain Tryz.func10 rfl rfl rfl (show Run _ _ _ (glitch_Dead_post r) _ _ _ from ?_)
 rw [glitch_Dead] at h
 replace hs0 := hs0.mono (rdLe_frozen M) (fun _ _ => rep35_mo (rdLe_frozen M))
 have hH := Has.nil (frozen M)
 refine Run.seq (Run.region ?_)
 refine Run.opG wantS_none (ex_assign rfl) rfl <| Run.opG wantS_none (ex_assign rfl) rfl ?_
 refine Run.opsEnd (Run.seq (Run.seq (Run.region ?_)))
 refine Run.opG wantS_none (ex_move rfl) rfl <| Run.opG wantS_none (ex_move rfl) rfl ?_
 obtain ⟨r22, hr22, h⟩ := bnd_some h
 refine Run.callP wantS_none (ex_call rfl mkk30 cal30) rfl (glitch_checkSpan_ok F a0 a1 s0 _ _ ((hs0).mono hH.le (fun _ _ => rep35_mo hH.le)) hr22) <| Run.opG wantS_none (ex_assign rfl) rfl ?_
 refine Run.opsEnd (Run.seq (Run.region ?_))
 refine Run.opG wantS_none (ex_move rfl) rfl <| Run.opG wantS_none (ex_neq rfl rfl) rfl <| Run.opsEnd ?_
 rcases btf ((!(r22 == (0 : Int)))) with hc24 | hc24
 ·have h := bif_t hc24 h
  refine Run.condT' rfl hc24 ?_
  refine Run.seq (Run.region ?_)
  refine Run.opG wantS_none (ex_move rfl) rfl <| Run.opG wantS_none (ex_assign rfl) rfl <| Run.opG wantS_none (ex_assign rfl) rfl <| Run.opsEnd ?_
  cases h
  exact Run.ret Tryz.func10 rfl (res_tmp rfl (res_tmp rfl res_nil)) rfl
 ·have h := bif_f hc24 h
  refine Run.condF' rfl hc24 ?_
  refine Run.skip (Run.seq (Run.region ?_))
  refine Run.opG wantS_none (ex_move rfl) rfl <| Run.opG wantS_none (ex_move rfl) rfl ?_
  obtain ⟨r26, hr26, h⟩ := bnd_some h
  refine Run.callP wantS_none (ex_call rfl mkk31 cal31) rfl (glitch_dead_ok F a0 a1 s0 _ _ ((hs0).mono hH.le (fun _ _ => rep35_mo hH.le)) hr26) <| Run.opG wantS_none (ex_assign rfl) rfl <| Run.opG wantS_none (ex_assign rfl) rfl <| Run.opsEnd ?_
  cases h
  exact Run.ret Tryz.func10 rfl (res_tmp rfl (res_tmp rfl res_nil)) rfl

theorem mkk10 : makeK Tryz.prog 10 = none := by kernel_rfl
theorem cal10 : callable Tryz.prog 10 = true := by kernel_rfl
theorem plan45_1_1_0_1_0_0_1_0_0 : planOf Tryz.prog (opsC (atC Tryz.prog 45 [1, 1, 0, 1, 0, 0, 1, 0, 0])) = some [.fl 0, .fl 1, .fl 2, .fl 3, .fl 4, .fl 5, .fl 6, .fl 7, .fl 8, .fl 9, .fl 10, .fl 11, .fl 12, .an 13 [], .sync] := by kernel_rfl
abbrev ref06_length_post (r : Int) : SV → Mem → Prop := fun s _ => s = (.int .i64 r)

def ref06_length_1 (F : Nat) : Nat → (List S_api_Segment) → Int → Int → Option (Int)
 | 0, _, _, _ => none
 | N + 1, v0, v3, v4 =>
  bif (decide (v4 < (v0.length : Int))) then
   bnd (idx v0 v4) fun x22 =>
   bnd (idx v0 v4) fun x24 =>
   (ref06_length_1 F N) v0 (w64 (v3 + (w64 (x22.To - x24.From)))) (w64 (v4 + (1 : Int)))
  else
   some v3

theorem ref06_length_1_ok (F : Nat) : ∀ (N : Nat), ∀ (v0 : (List S_api_Segment)) (v3 v4 : Int) (sv0 : SV) (Fr : Rd) (M : Mem) (r : Int) (hv0 : Slc Fr 2 (FlatR enc37) sv0 v0) (hH : Has Fr M []), ref06_length_1 F N v0 v3 v4 = some r → Run Tryz.prog ⟨⟨45, [], none⟩, []⟩ 25 (ref06_length_post r) [(0, sv0), (3, (.int .i64 v3)), (4, (.int .i64 v4))] [codeC Tryz.prog 45 [1, 1, 0, 1, 0, 0], loopC Tryz.prog 45 [1, 1, 0, 1, 0, 0], .inBlock 0, codeC Tryz.prog 45 [1, 1, 1]] M := by
 intro N
 induction N with
 | zero =>
  intro v0 v3 v4 sv0 Fr M r hv0 hH h
  simp [ref06_length_1] at h
 | succ N ih =>
  intro v0 v3 v4 sv0 Fr M r hv0 hH h
  rw [ref06_length_1] at h
  refine Run.seq (Run.seq (Run.region ?_))
  refine Run.opG wantS_none (ex_move rfl) rfl <| Run.opG wantS_none (ex_move rfl) rfl <| Run.opG wantS_none (ex_len' rfl hv0 lenk31) rfl <| Run.opG wantS_none (ex_lss rfl rfl) rfl <| Run.opsEnd ?_
  rcases btf ((decide (v4 < (v0.length : Int)))) with hc21 | hc21
  ·have h := bif_t hc21 h
   refine Run.condT' rfl hc21 ?_
   refine Run.skip (Run.seq (Run.block ?_))
   refine Run.drawG plan45_1_1_0_1_0_0_1_0_0 <| DrawG.fl rfl (ev_ex wantS_none (ex_move rfl)) rfl <| DrawG.fl rfl (ev_ex wantS_none (ex_move rfl)) rfl <| DrawG.fl rfl (ev_ex wantS_none (ex_move rfl)) rfl ?_
   obtain ⟨x22, hx22, h⟩ := bnd_some h
   obtain ⟨p22, o22, _, hx22, hp22, rfl⟩ := sl_elem (P := Tryz.prog) (t := 31) (kk := .i64) hv0 hx22 els31
   refine DrawG.fl rfl (ev_ex wantS_none (ex_elX rfl rfl hx22)) rfl ?_
   have hp23 := (hp22.fld (o := 1) rfl)
   refine DrawG.fl rfl (ev_ex wantS_none (ex_fieldAddr rfl off37_1)) rfl <| DrawG.fl rfl (ev_ex wantS_none (ex_load1 rfl (hH.ptrF hp23) rdLe_rfl agg3)) rfl <| DrawG.fl rfl (ev_ex wantS_none (ex_move rfl)) rfl <| DrawG.fl rfl (ev_ex wantS_none (ex_move rfl)) rfl ?_
   obtain ⟨x24, hx24, h⟩ := bnd_some h
   obtain ⟨p24, o24, _, hx24, hp24, rfl⟩ := sl_elem (P := Tryz.prog) (t := 31) (kk := .i64) hv0 hx24 els31
   refine DrawG.fl rfl (ev_ex wantS_none (ex_elX rfl rfl hx24)) rfl ?_
   have hp25 := (hp24.fld (o := 0) rfl)
   refine DrawG.fl rfl (ev_ex wantS_none (ex_fieldAddr rfl off37_0)) rfl <| DrawG.fl rfl (ev_ex wantS_none (ex_load1 rfl (hH.ptrF hp25) rdLe_rfl agg3)) rfl <| DrawG.fl rfl (ev_ex wantS_none (ex_sub rfl rfl)) rfl <| DrawG.fl rfl (ev_ex wantS_none (ex_add rfl rfl)) rfl <| DrawG.val rfl wantS_none (ex_assign rfl) rfl st_nil <| DrawG.sync <| DrawG.nil ?_
   refine Run.inBlock (Run.region ?_)
   refine Run.opG wantS_none (ex_move rfl) rfl <| Run.opG wantS_none (ex_add rfl rfl) rfl <| Run.opG wantS_none (ex_assign rfl) rfl ?_
   refine Run.opsEnd (Run.inLoop ?_)
   exact Run.pick [0, 3, 4] (ih v0 (w64 (v3 + (w64 (x22.To - x24.From)))) (w64 (v4 + (1 : Int))) sv0 _ _ _ hv0 hH h)
  ·have h := bif_f hc21 h
   refine Run.condF' rfl hc21 ?_
   refine Run.exit rfl (Run.seq (Run.region ?_))
   refine Run.opG wantS_none (ex_move rfl) rfl <| Run.opG wantS_none (ex_assign rfl) rfl <| Run.opsEnd ?_
   cases h
   exact Run.ret Tryz.func45 rfl (res_tmp rfl res_nil) rfl

def ref06_length (F : Nat) (a0 : (List S_api_Segment)) : Option (Int) :=
 ref06_length_1 F F a0 (0 : Int) (0 : Int)

theorem ref06_length_ok (F : Nat) (a0 : (List S_api_Segment)) (s0 : SV) (r : Int) (M : Mem) (hs0 : Slc (rd M) 2 (FlatR enc37) s0 a0) (h : ref06_length F a0 = some r) : CallsM Tryz.prog 45 [s0] M (fun s M' => s = (.int .i64 r) ∧ M' = M) := by
 refine CallsM.plain Tryz.func45 rfl rfl rfl (show Run _ _ _ (ref06_length_post r) _ _ _ from ?_)
 rw [ref06_length] at h
 replace hs0 := hs0.mono (rdLe_frozen M) (fun _ _ h => h)
 have hH := Has.nil (frozen M)
 refine Run.seq (Run.region ?_)
 refine Run.opG wantS_none (ex_assign rfl) rfl ?_
 refine Run.opsEnd (Run.seq (Run.region ?_))
 refine Run.opG wantS_none (ex_assign rfl) rfl ?_
 refine Run.opsEnd (Run.seq (Run.seq (Run.region ?_)))
 refine Run.opG wantS_none (ex_assign rfl) rfl ?_
 refine Run.opsEnd (Run.block (Run.loop ?_))
 exact Run.pick [0, 3, 4] (ref06_length_1_ok F F a0 (0 : Int) (0 : Int) s0 _ _ _ hs0 hH h)

theorem mkk45 : makeK Tryz.prog 45 = none := by kernel_rfl
theorem cal45 : callable Tryz.prog 45 = true := by kernel_rfl
abbrev ref06_Dead_post (r : Int × Int) : SV → Mem → Prop := fun s _ => s = (.tuple [(.int .i64 r.1), (.int .i64 r.2)])

def ref06_Dead_3 (F : Nat) (hd2 : Int → Int → (List S_api_Veto) → Int → Int → (List UInt8) → (List S_api_Segment) → (List S_api_Segment) → Option (Int × Int)) (v2 v7 : Int) (v0_f1 : (List S_api_Veto)) (v1_f1 v8_f1 : Int) (c31_0 : (List UInt8)) (c31_1 l44 : (List S_api_Segment)) : Option (Int × Int) :=
 hd2 v2 (w64 (v7 + (1 : Int))) v0_f1 v1_f1 v8_f1 c31_0 c31_1 l44

theorem ref06_Dead_3_ok (F : Nat) (hd2 : Int → Int → (List S_api_Veto) → Int → Int → (List UInt8) → (List S_api_Segment) → (List S_api_Segment) → Option (Int × Int)) (hhd2 : ∀ (v2 v7 : Int) (v0_f1 : (List S_api_Veto)) (v1_f1 v8_f1 : Int) (c31_0 : (List UInt8)) (c31_1 l25 : (List S_api_Segment)) (sv0_f1 sc31_1 s25 : SV) (b31 : Pos) (Fr : Rd) (M : Mem) (r : Int × Int) (hv0_f1 : Slc Fr 2 (rep35 Fr) sv0_f1 v0_f1) (hc31_1 : Slc Fr 2 (FlatR enc37) sc31_1 c31_1) (hH : Has Fr M [.vec 37 2 l25.length s25 (l25.flatMap enc37), .obj b31 (.row 35 .whole [(.str c31_0), sc31_1])]), hd2 v2 v7 v0_f1 v1_f1 v8_f1 c31_0 c31_1 l25 = some r → Run Tryz.prog ⟨⟨44, [], none⟩, [.mk ⟨17, [], none⟩ 30 (treeOf [(0, sv0_f1), (1, (.int .i64 v1_f1)), (8, (.int .i64 v8_f1))]) [itemC Tryz.prog 17 [1, 1, 1, 0, 1, 0, 0, 1, 0, 0] 6, .inBlock 1, codeC Tryz.prog 17 [1, 1, 1, 0, 1, 0, 0, 1, 1], loopC Tryz.prog 17 [1, 1, 1, 0, 1, 0, 0], .inBlock 0, codeC Tryz.prog 17 [1, 1, 1, 1]]]⟩ 35 (ref06_Dead_post r) [(0, s25), (2, (.int .i64 v2)), (4, (.ptr b31 0)), (7, (.int .i64 v7))] [codeC Tryz.prog 44 [1, 0, 1, 0, 0], loopC Tryz.prog 44 [1, 0, 1, 0, 0], .inBlock 0, codeC Tryz.prog 44 [1, 1]] M) : ∀ (v2 v7 : Int) (v0_f1 : (List S_api_Veto)) (v1_f1 v8_f1 : Int) (c31_0 : (List UInt8)) (c31_1 l44 : (List S_api_Segment)) (sv0_f1 sc31_1 s44 : SV) (b31 : Pos) (Fr : Rd) (M : Mem) (r : Int × Int) (hv0_f1 : Slc Fr 2 (rep35 Fr) sv0_f1 v0_f1) (hc31_1 : Slc Fr 2 (FlatR enc37) sc31_1 c31_1) (hH : Has Fr M [.vec 37 2 l44.length s44 (l44.flatMap enc37), .obj b31 (.row 35 .whole [(.str c31_0), sc31_1])]), ref06_Dead_3 F hd2 v2 v7 v0_f1 v1_f1 v8_f1 c31_0 c31_1 l44 = some r → Run Tryz.prog ⟨⟨44, [], none⟩, [.mk ⟨17, [], none⟩ 30 (treeOf [(0, sv0_f1), (1, (.int .i64 v1_f1)), (8, (.int .i64 v8_f1))]) [itemC Tryz.prog 17 [1, 1, 1, 0, 1, 0, 0, 1, 0, 0] 6, .inBlock 1, codeC Tryz.prog 17 [1, 1, 1, 0, 1, 0, 0, 1, 1], loopC Tryz.prog 17 [1, 1, 1, 0, 1, 0, 0], .inBlock 0, codeC Tryz.prog 17 [1, 1, 1, 1]]]⟩ 35 (ref06_Dead_post r) [(0, s44), (2, (.int .i64 v2)), (4, (.ptr b31 0)), (7, (.int .i64 v7))] [itemC Tryz.prog 44 [1, 0, 1, 0, 0, 1, 1] 0, loopC Tryz.prog 44 [1, 0, 1, 0, 0], .inBlock 0, codeC Tryz.prog 44 [1, 1]] M := by
 intro v2 v7 v0_f1 v1_f1 v8_f1 c31_0 c31_1 l44 sv0_f1 sc31_1 s44 b31 Fr M r hv0_f1 hc31_1 hH h
 rw [ref06_Dead_3] at h
 refine Run.opG wantS_none (ex_move rfl) rfl <| Run.opG wantS_none (ex_add rfl rfl) rfl <| Run.opG wantS_none (ex_assign rfl) rfl ?_
 refine Run.opsEnd (Run.inLoop ?_)
 exact Run.low (.cons (fle_pick [0, 1, 8] rfl) .nil) (Run.pick [0, 2, 4, 7] (hhd2 v2 (w64 (v7 + (1 : Int))) v0_f1 v1_f1 v8_f1 c31_0 c31_1 l44 sv0_f1 sc31_1 s44 b31 _ _ _ hv0_f1 hc31_1 hH h))

def ref06_Dead_2 (F : Nat) (hd1 : (List S_api_Veto) → Int → Int → (List S_api_Segment) → Option (Int × Int)) : Nat → Int → Int → (List S_api_Veto) → Int → Int → (List UInt8) → (List S_api_Segment) → (List S_api_Segment) → Option (Int × Int)
 | 0, _, _, _, _, _, _, _, _ => none
 | N + 1, v2, v7, v0_f1, v1_f1, v8_f1, c31_0, c31_1, l25 =>
  bif (decide (v7 < (c31_1.length : Int))) then
   bnd (idx c31_1 v7) fun x35 =>
   bif (decide (x35.From < v2)) then
    bnd (ref06_add F l25 (S_api_Segment.mk x35.From (min x35.To v2))) fun r43 =>
    ref06_Dead_3 F (ref06_Dead_2 F hd1 N) v2 v7 v0_f1 v1_f1 v8_f1 c31_0 c31_1 r43
   else
    ref06_Dead_3 F (ref06_Dead_2 F hd1 N) v2 v7 v0_f1 v1_f1 v8_f1 c31_0 c31_1 l25
  else
   hd1 v0_f1 v1_f1 (w64 (v8_f1 + (1 : Int))) l25

theorem ref06_Dead_2_ok (F : Nat) (hd1 : (List S_api_Veto) → Int → Int → (List S_api_Segment) → Option (Int × Int)) (hhd1 : ∀ (v0 : (List S_api_Veto)) (v1 v8 : Int) (l25 : (List S_api_Segment)) (sv0 s25 : SV) (Fr : Rd) (M : Mem) (r : Int × Int) (hv0 : Slc Fr 2 (rep35 Fr) sv0 v0) (hH : Has Fr M [.vec 37 2 l25.length s25 (l25.flatMap enc37)]), hd1 v0 v1 v8 l25 = some r → Run Tryz.prog ⟨⟨17, [], none⟩, []⟩ 30 (ref06_Dead_post r) [(0, sv0), (1, (.int .i64 v1)), (7, s25), (8, (.int .i64 v8))] [codeC Tryz.prog 17 [1, 1, 1, 0, 1, 0, 0], loopC Tryz.prog 17 [1, 1, 1, 0, 1, 0, 0], .inBlock 0, codeC Tryz.prog 17 [1, 1, 1, 1]] M) : ∀ (N : Nat), ∀ (v2 v7 : Int) (v0_f1 : (List S_api_Veto)) (v1_f1 v8_f1 : Int) (c31_0 : (List UInt8)) (c31_1 l25 : (List S_api_Segment)) (sv0_f1 sc31_1 s25 : SV) (b31 : Pos) (Fr : Rd) (M : Mem) (r : Int × Int) (hv0_f1 : Slc Fr 2 (rep35 Fr) sv0_f1 v0_f1) (hc31_1 : Slc Fr 2 (FlatR enc37) sc31_1 c31_1) (hH : Has Fr M [.vec 37 2 l25.length s25 (l25.flatMap enc37), .obj b31 (.row 35 .whole [(.str c31_0), sc31_1])]), ref06_Dead_2 F hd1 N v2 v7 v0_f1 v1_f1 v8_f1 c31_0 c31_1 l25 = some r → Run Tryz.prog ⟨⟨44, [], none⟩, [.mk ⟨17, [], none⟩ 30 (treeOf [(0, sv0_f1), (1, (.int .i64 v1_f1)), (8, (.int .i64 v8_f1))]) [itemC Tryz.prog 17 [1, 1, 1, 0, 1, 0, 0, 1, 0, 0] 6, .inBlock 1, codeC Tryz.prog 17 [1, 1, 1, 0, 1, 0, 0, 1, 1], loopC Tryz.prog 17 [1, 1, 1, 0, 1, 0, 0], .inBlock 0, codeC Tryz.prog 17 [1, 1, 1, 1]]]⟩ 35 (ref06_Dead_post r) [(0, s25), (2, (.int .i64 v2)), (4, (.ptr b31 0)), (7, (.int .i64 v7))] [codeC Tryz.prog 44 [1, 0, 1, 0, 0], loopC Tryz.prog 44 [1, 0, 1, 0, 0], .inBlock 0, codeC Tryz.prog 44 [1, 1]] M := by
 intro N
 induction N with
 | zero =>
  intro v2 v7 v0_f1 v1_f1 v8_f1 c31_0 c31_1 l25 sv0_f1 sc31_1 s25 b31 Fr M r hv0_f1 hc31_1 hH h
  simp [ref06_Dead_2] at h
 | succ N ih =>
  intro v2 v7 v0_f1 v1_f1 v8_f1 c31_0 c31_1 l25 sv0_f1 sc31_1 s25 b31 Fr M r hv0_f1 hc31_1 hH h
  rw [ref06_Dead_2] at h
  refine Run.seq (Run.seq (Run.region ?_))
  refine Run.opG wantS_none (ex_move rfl) rfl <| Run.opG wantS_none (ex_fieldAddr rfl off35_1) rfl <| Run.opG wantS_none (ex_load1 rfl (hH.cells (i := 1) rfl 1 rfl) rdLe_rfl agg31) rfl <| Run.opG wantS_none (ex_len' rfl hc31_1 lenk31) rfl <| Run.opG wantS_none (ex_lss rfl rfl) rfl <| Run.opsEnd ?_
  rcases btf ((decide (v7 < (c31_1.length : Int)))) with hc33 | hc33
  ·have h := bif_t hc33 h
   refine Run.condT' rfl hc33 ?_
   refine Run.skip (Run.seq (Run.block (Run.seq (Run.region ?_))))
   refine Run.opG wantS_none (ex_fieldAddr rfl off35_1) rfl <| Run.opG wantS_none (ex_load1 rfl (hH.cells (i := 1) rfl 1 rfl) rdLe_rfl agg31) rfl <| Run.opG wantS_none (ex_move rfl) rfl ?_
   obtain ⟨x35, hx35, h⟩ := bnd_some h
   obtain ⟨p35, o35, _, hx35, hp35, rfl⟩ := sl_elem (P := Tryz.prog) (t := 31) (kk := .i64) hc31_1 hx35 els31
   refine Run.opG wantS_none (ex_elX rfl rfl hx35) rfl <| Run.opG wantS_none (ex_loadA rfl (hH.ptrF hp35) rdLe_rfl agg37 rfl rfl rfl) rfl <| Run.opX wantS_none rfl (ExG.new (v := fun b => .ptr b 0) (ex_alloc zer37) hH) ?_
   rintro _ M38 ⟨b37, rfl, hH38⟩
   refine Run.opX wantS_none rfl (ExG.storeC (c' := [(.int .i64 x35.From), (.int .i64 x35.To)]) rfl rfl rfl hH38 (i := 0) rfl sz37 rfl rfl rfl rfl rfl) ?_
   rintro _ M39 ⟨rfl, (hH39 : Has Fr M39 [.obj b37 (.row 37 .whole [(.int .i64 x35.From), (.int .i64 x35.To)]), .vec 37 2 l25.length s25 (l25.flatMap enc37), .obj b31 (.row 35 .whole [(.str c31_0), sc31_1])])⟩
   refine Run.opsEnd (Run.seq (Run.region ?_))
   refine Run.opG wantS_none (ex_fieldAddr rfl off37_0) rfl <| Run.opG wantS_none (ex_load1 rfl (hH39.cells (i := 0) rfl 0 rfl) rdLe_rfl agg3) rfl <| Run.opG wantS_none (ex_move rfl) rfl <| Run.opG wantS_none (ex_lss rfl rfl) rfl <| Run.opsEnd ?_
   rcases btf ((decide (x35.From < v2))) with hc40 | hc40
   ·have h := bif_t hc40 h
    refine Run.condT' rfl hc40 <| Run.region <| Run.opG wantS_none (ex_move rfl) rfl <| Run.opG wantS_none (ex_fieldAddr rfl off37_0) rfl <| Run.opG wantS_none (ex_load1 rfl (hH39.cells (i := 0) rfl 0 rfl) rdLe_rfl agg3) rfl <| Run.opG wantS_none (ex_fieldAddr rfl off37_1) rfl <| Run.opG wantS_none (ex_load1 rfl (hH39.cells (i := 0) rfl 1 rfl) rdLe_rfl agg3) rfl <| Run.opG wantS_none (ex_move rfl) rfl <| Run.opG wantS_none (ex_min rfl rfl) rfl <| Run.opG wantS_none (ex_build (r := [(.int .i64 x35.From), (.int .i64 (min x35.To v2))]) rfl zer37 pls37 rfl) rfl ?_
    obtain ⟨r43, hr43, h⟩ := bnd_some h
    refine Run.callX wantS_none (ex_call rfl mkk87 cal87) rfl (ref06_add_ok F l25 (S_api_Segment.mk x35.From (min x35.To v2)) s25 _ _ (hH39.slc (i := 1) rfl enc37_len) hr43) ?_
    rintro s43_0 M45 ⟨_, rfl, hN43⟩
    have hH45 : Has Fr M45 [.vec 37 2 r43.length s43_0 (r43.flatMap enc37), .obj b37 (.row 37 .whole [(.int .i64 x35.From), (.int .i64 x35.To)]), .vec 37 2 l25.length s25 (l25.flatMap enc37), .obj b31 (.row 35 .whole [(.str c31_0), sc31_1])] := hN43.1 _ _ hH39
    refine Run.opG wantS_none (ex_assign rfl) rfl ?_
    refine Run.opsEnd (Run.inBlock (Run.region ?_))
    exact Run.low (.cons (fle_pick [0, 1, 8] rfl) .nil) (Run.pick [0, 2, 4, 7] (ref06_Dead_3_ok F (ref06_Dead_2 F hd1 N) ih v2 v7 v0_f1 v1_f1 v8_f1 c31_0 c31_1 r43 sv0_f1 sc31_1 s43_0 b31 _ _ _ hv0_f1 hc31_1 (hH45.pick [0, 3] rfl rfl) h))
   ·have h := bif_f hc40 h
    refine Run.condF' rfl hc40 ?_
    refine Run.skip (Run.inBlock (Run.region ?_))
    exact Run.low (.cons (fle_pick [0, 1, 8] rfl) .nil) (Run.pick [0, 2, 4, 7] (ref06_Dead_3_ok F (ref06_Dead_2 F hd1 N) ih v2 v7 v0_f1 v1_f1 v8_f1 c31_0 c31_1 l25 sv0_f1 sc31_1 s25 b31 _ _ _ hv0_f1 hc31_1 (hH39.pick [1, 2] rfl rfl) h))
  ·have h := bif_f hc33 h
   refine Run.condF' rfl hc33 ?_
   refine Run.exit rfl (Run.seq (Run.region ?_))
   refine Run.opG wantS_none (ex_move rfl) rfl <| Run.opG wantS_none (ex_assign rfl) rfl <| Run.opsEnd <| Run.retTo Tryz.func44 rfl (res_tmp rfl res_nil) rfl <| Run.opG wantS_none (ex_assign rfl) rfl ?_
   refine Run.opsEnd (Run.inBlock (Run.region ?_))
   refine Run.opG wantS_none (ex_move rfl) rfl <| Run.opG wantS_none (ex_add rfl rfl) rfl <| Run.opG wantS_none (ex_assign rfl) rfl ?_
   refine Run.opsEnd (Run.inLoop ?_)
   exact Run.pick [0, 1, 7, 8] (hhd1 v0_f1 v1_f1 (w64 (v8_f1 + (1 : Int))) l25 sv0_f1 s25 _ _ _ hv0_f1 (hH.pick [0] rfl rfl) h)

def ref06_Dead_1 (F : Nat) : Nat → (List S_api_Veto) → Int → Int → (List S_api_Segment) → Option (Int × Int)
 | 0, _, _, _, _ => none
 | N + 1, v0, v1, v8, l25 =>
  bif (decide (v8 < (v0.length : Int))) then
   bnd (idx v0 v8) fun x29 =>
   ref06_Dead_2 F (ref06_Dead_1 F N) F v1 (0 : Int) v0 v1 v8 x29.Name x29.Segments l25
  else
   bnd (ref06_length F l25) fun r47 =>
   some (r47, (0 : Int))

theorem ref06_Dead_1_ok (F : Nat) : ∀ (N : Nat), ∀ (v0 : (List S_api_Veto)) (v1 v8 : Int) (l25 : (List S_api_Segment)) (sv0 s25 : SV) (Fr : Rd) (M : Mem) (r : Int × Int) (hv0 : Slc Fr 2 (rep35 Fr) sv0 v0) (hH : Has Fr M [.vec 37 2 l25.length s25 (l25.flatMap enc37)]), ref06_Dead_1 F N v0 v1 v8 l25 = some r → Run Tryz.prog ⟨⟨17, [], none⟩, []⟩ 30 (ref06_Dead_post r) [(0, sv0), (1, (.int .i64 v1)), (7, s25), (8, (.int .i64 v8))] [codeC Tryz.prog 17 [1, 1, 1, 0, 1, 0, 0], loopC Tryz.prog 17 [1, 1, 1, 0, 1, 0, 0], .inBlock 0, codeC Tryz.prog 17 [1, 1, 1, 1]] M := by
 intro N
 induction N with
 | zero =>
  intro v0 v1 v8 l25 sv0 s25 Fr M r hv0 hH h
  simp [ref06_Dead_1] at h
 | succ N ih =>
  intro v0 v1 v8 l25 sv0 s25 Fr M r hv0 hH h
  rw [ref06_Dead_1] at h
  refine Run.seq (Run.seq (Run.region ?_))
  refine Run.opG wantS_none (ex_move rfl) rfl <| Run.opG wantS_none (ex_move rfl) rfl <| Run.opG wantS_none (ex_len' rfl hv0 lenk22) rfl <| Run.opG wantS_none (ex_lss rfl rfl) rfl <| Run.opsEnd ?_
  rcases btf ((decide (v8 < (v0.length : Int)))) with hc27 | hc27
  ·have h := bif_t hc27 h
   refine Run.condT' rfl hc27 ?_
   refine Run.skip (Run.seq (Run.block (Run.region ?_)))
   refine Run.opG wantS_none (ex_move rfl) rfl <| Run.opG wantS_none (ex_move rfl) rfl <| Run.opG wantS_none (ex_move rfl) rfl ?_
   obtain ⟨x29, hx29, h⟩ := bnd_some h
   obtain ⟨p29, o29, _, hx29, hp29, ⟨q29_0, rfl, hq29_0⟩⟩ := sl_elem (P := Tryz.prog) (t := 22) (kk := .i64) hv0 hx29 els22
   refine Run.opG wantS_none (ex_elX rfl rfl hx29) rfl <| Run.opG wantS_none (ex_loadA rfl (hH.ptrF hp29) rdLe_rfl agg35 rfl rfl rfl) rfl <| Run.opG wantS_none (ex_move rfl) rfl <| Run.enter wantS_none (ex_call rfl mkk44 cal44) Tryz.func44 rfl rfl ?_
   refine Run.seq (Run.region ?_)
   refine Run.opX wantS_none rfl (ExG.box rfl rfl hH) ?_
   rintro _ M32 ⟨b31, rfl, hH32⟩
   refine Run.opG wantS_none (ex_assign rfl) rfl ?_
   refine Run.opsEnd (Run.seq (Run.seq (Run.region ?_)))
   refine Run.opG wantS_none (ex_assign rfl) rfl ?_
   refine Run.opsEnd (Run.block (Run.loop ?_))
   exact Run.low (.cons (fle_pick [0, 1, 8] rfl) .nil) (Run.pick [0, 2, 4, 7] (ref06_Dead_2_ok F (ref06_Dead_1 F N) ih F v1 (0 : Int) v0 v1 v8 x29.Name x29.Segments l25 sv0 q29_0 s25 b31 _ _ _ hv0 hq29_0 (hH32.pick [1, 0] rfl rfl) h))
  ·have h := bif_f hc27 h
   refine Run.condF' rfl hc27 ?_
   refine Run.exit rfl (Run.seq (Run.region ?_))
   refine Run.opG wantS_none (ex_move rfl) rfl ?_
   obtain ⟨r47, hr47, h⟩ := bnd_some h
   refine Run.callP wantS_none (ex_call rfl mkk45 cal45) rfl (ref06_length_ok F l25 s25 _ _ (hH.slc (i := 0) rfl enc37_len) hr47) <| Run.opG wantS_none (ex_assign rfl) rfl <| Run.opG wantS_none (ex_assign rfl) rfl <| Run.opsEnd ?_
   cases h
   exact Run.ret Tryz.func17 rfl (res_tmp rfl (res_tmp rfl res_nil)) rfl

def ref06_Dead (F : Nat) (a0 : (List S_api_Veto)) (a1 : Int) : Option (Int × Int) :=
 bnd (ref06_spanned F a0 a1) fun r22 =>
 bif (!(r22 == (0 : Int))) then
  some ((0 : Int), r22)
 else
  ref06_Dead_1 F F a0 a1 (0 : Int) ([] : List S_api_Segment)

theorem ref06_Dead_ok (F : Nat) (a0 : (List S_api_Veto)) (a1 : Int) (s0 : SV) (r : Int × Int) (M : Mem) (hs0 : Slc (rd M) 2 (rep35 (rd M)) s0 a0) (h : ref06_Dead F a0 a1 = some r) : CallsM Tryz.prog 17 [s0, (.int .i64 a1)] M (fun s M' => s = (.tuple [(.int .i64 r.1), (.int .i64 r.2)]) ∧ M' = M) := by
 refine CallsM.plain Tryz.func17 rfl rfl rfl (show Run _ _ _ (ref06_Dead_post r) _ _ _ from ?_)
 rw [ref06_Dead] at h
 replace hs0 := hs0.mono (rdLe_frozen M) (fun _ _ => rep35_mo (rdLe_frozen M))
 have hH := Has.nil (frozen M)
 refine Run.seq (Run.region ?_)
 refine Run.opG wantS_none (ex_assign rfl) rfl <| Run.opG wantS_none (ex_assign rfl) rfl ?_
 refine Run.opsEnd (Run.seq (Run.seq (Run.region ?_)))
 refine Run.opG wantS_none (ex_move rfl) rfl <| Run.opG wantS_none (ex_move rfl) rfl ?_
 obtain ⟨r22, hr22, h⟩ := bnd_some h
 refine Run.callP wantS_none (ex_call rfl mkk43 cal43) rfl (ref06_spanned_ok F a0 a1 s0 _ _ ((hs0).mono hH.le (fun _ _ => rep35_mo hH.le)) hr22) <| Run.opG wantS_none (ex_assign rfl) rfl ?_
 refine Run.opsEnd (Run.seq (Run.region ?_))
 refine Run.opG wantS_none (ex_move rfl) rfl <| Run.opG wantS_none (ex_neq rfl rfl) rfl <| Run.opsEnd ?_
 rcases btf ((!(r22 == (0 : Int)))) with hc24 | hc24
 ·have h := bif_t hc24 h
  refine Run.condT' rfl hc24 ?_
  refine Run.seq (Run.region ?_)
  refine Run.opG wantS_none (ex_move rfl) rfl <| Run.opG wantS_none (ex_assign rfl) rfl <| Run.opG wantS_none (ex_assign rfl) rfl <| Run.opsEnd ?_
  cases h
  exact Run.ret Tryz.func17 rfl (res_tmp rfl (res_tmp rfl res_nil)) rfl
 ·have h := bif_f hc24 h
  refine Run.condF' rfl hc24 ?_
  refine Run.skip (Run.seq (Run.region ?_))
  refine Run.opG wantS_none (ex_assign rfl) rfl ?_
  refine Run.opsEnd (Run.seq (Run.seq (Run.region ?_)))
  refine Run.opG wantS_none (ex_assign rfl) rfl ?_
  refine Run.opsEnd (Run.block (Run.loop ?_))
  have hH26 : Has (ro (frozen M)) (frozen M) [.vec 37 2 ([] : List S_api_Segment).length .nils (([] : List S_api_Segment).flatMap enc37)] := hH.nils 37 2
  exact Run.pick [0, 1, 7, 8] (ref06_Dead_1_ok F F a0 a1 (0 : Int) ([] : List S_api_Segment) s0 .nils _ _ _ hs0 hH26 h)

theorem mkk17 : makeK Tryz.prog 17 = none := by kernel_rfl
theorem cal17 : callable Tryz.prog 17 = true := by kernel_rfl
theorem off40_0 : fieldOff Tryz.prog 40 0 = some 0 := by kernel_rfl
theorem agg28 : aggSize Tryz.prog 28 = some none := by kernel_rfl
theorem lenk28 : lenK Tryz.prog 28 = some .sl := by kernel_rfl
theorem els28 : elems Tryz.prog 28 = some (.sl 1) := by kernel_rfl
abbrev glitch_areTimes_post (r : Bool) : SV → Mem → Prop := fun s _ => s = (.bool r)

def glitch_areTimes_1 (F : Nat) : Nat → Int → (List Int) → Int → Int → Option (Bool)
 | 0, _, _, _, _ => none
 | N + 1, v3, v9, v10, v11 =>
  bif (decide (v11 < v10)) then
   bnd (idx v9 v11) fun x24 =>
   bnd (glitch_isFrom F (w64 (v3 + (1 : Int))) x24 (1073741824 : Int)) fun r26 =>
   bif (!r26) then
    some false
   else
    (glitch_areTimes_1 F N) x24 v9 v10 (w64 (v11 + (1 : Int)))
  else
   some true

theorem glitch_areTimes_1_ok (F : Nat) : ∀ (N : Nat), ∀ (v3 : Int) (v9 : (List Int)) (v10 v11 : Int) (sv9 : SV) (Fr : Rd) (M : Mem) (r : Bool) (hv9 : Slc Fr 1 (FlatR enc3) sv9 v9) (hH : Has Fr M []), glitch_areTimes_1 F N v3 v9 v10 v11 = some r → Run Tryz.prog ⟨⟨39, [], none⟩, []⟩ 22 (glitch_areTimes_post r) [(3, (.int .i64 v3)), (9, sv9), (10, (.int .i64 v10)), (11, (.int .i64 v11))] [codeC Tryz.prog 39 [1, 1, 1, 0, 1, 0, 0], loopC Tryz.prog 39 [1, 1, 1, 0, 1, 0, 0], .inBlock 0, codeC Tryz.prog 39 [1, 1, 1, 1]] M := by
 intro N
 induction N with
 | zero =>
  intro v3 v9 v10 v11 sv9 Fr M r hv9 hH h
  simp [glitch_areTimes_1] at h
 | succ N ih =>
  intro v3 v9 v10 v11 sv9 Fr M r hv9 hH h
  rw [glitch_areTimes_1] at h
  refine Run.seq (Run.region ?_)
  refine Run.opG wantS_none (ex_lss rfl rfl) rfl ?_
  refine Run.opsEnd (Run.seq ?_)
  rcases btf ((decide (v11 < v10))) with hc22 | hc22
  ·have h := bif_t hc22 h
   refine Run.condT' rfl hc22 ?_
   refine Run.skip (Run.seq (Run.block (Run.seq (Run.region ?_))))
   obtain ⟨x24, hx24, h⟩ := bnd_some h
   obtain ⟨p24, o24, _, hx24, hp24, rfl⟩ := sl_elem (P := Tryz.prog) (t := 28) (kk := .i64) hv9 hx24 els28
   refine Run.opG wantS_none (ex_elX rfl rfl hx24) rfl <| Run.opG wantS_none (ex_load1 rfl (hH.ptrF hp24) rdLe_rfl agg3) rfl <| Run.opG wantS_none (ex_assign rfl) rfl ?_
   refine Run.opsEnd (Run.seq (Run.seq (Run.region ?_)))
   refine Run.opG wantS_none (ex_move rfl) rfl <| Run.opG wantS_none (ex_add rfl rfl) rfl <| Run.opG wantS_none (ex_move rfl) rfl ?_
   obtain ⟨r26, hr26, h⟩ := bnd_some h
   refine Run.callP wantS_none (ex_call rfl mkk75 cal75) rfl (glitch_isFrom_ok F (w64 (v3 + (1 : Int))) x24 (1073741824 : Int) _ _ hr26) <| Run.opG wantS_none (ex_not rfl) rfl <| Run.opsEnd ?_
   rcases btf ((!r26)) with hc28 | hc28
   ·have h := bif_t hc28 h
    refine Run.condT' rfl hc28 ?_
    refine Run.seq (Run.region ?_)
    refine Run.opG wantS_none (ex_assign rfl) rfl <| Run.opsEnd ?_
    cases h
    exact Run.ret Tryz.func39 rfl (res_tmp rfl res_nil) rfl
   ·have h := bif_f hc28 h
    refine Run.condF' rfl hc28 ?_
    refine Run.skip (Run.region ?_)
    refine Run.opG wantS_none (ex_move rfl) rfl <| Run.opG wantS_none (ex_assign rfl) rfl ?_
    refine Run.opsEnd (Run.inBlock (Run.region ?_))
    refine Run.opG wantS_none (ex_add rfl rfl) rfl <| Run.opG wantS_none (ex_move rfl) rfl ?_
    refine Run.opsEnd (Run.inLoop ?_)
    exact Run.pick [3, 9, 10, 11] (ih x24 v9 v10 (w64 (v11 + (1 : Int))) sv9 _ _ _ hv9 hH h)
  ·have h := bif_f hc22 h
   refine Run.condF' rfl hc22 ?_
   refine Run.exit rfl (Run.seq (Run.region ?_))
   refine Run.opG wantS_none (ex_assign rfl) rfl <| Run.opsEnd ?_
   cases h
   exact Run.ret Tryz.func39 rfl (res_tmp rfl res_nil) rfl

def glitch_areTimes (F : Nat) (a0 : (List Int)) : Option (Bool) :=
 bif (decide ((256 : Int) < (a0.length : Int))) then
  some false
 else
  glitch_areTimes_1 F F ((-1) : Int) a0 (a0.length : Int) (0 : Int)

theorem glitch_areTimes_ok (F : Nat) (a0 : (List Int)) (s0 : SV) (r : Bool) (M : Mem) (hs0 : Slc (rd M) 1 (FlatR enc3) s0 a0) (h : glitch_areTimes F a0 = some r) : CallsM Tryz.prog 39 [s0] M (fun s M' => s = (.bool r) ∧ M' = M) := by
 refine CallsM.plain Tryz.func39 rfl rfl rfl (show Run _ _ _ (glitch_areTimes_post r) _ _ _ from ?_)
 rw [glitch_areTimes] at h
 replace hs0 := hs0.mono (rdLe_frozen M) (fun _ _ h => h)
 have hH := Has.nil (frozen M)
 refine Run.seq (Run.region ?_)
 refine Run.opG wantS_none (ex_assign rfl) rfl ?_
 refine Run.opsEnd (Run.seq (Run.seq (Run.region ?_)))
 refine Run.opG wantS_none (ex_move rfl) rfl <| Run.opG wantS_none (ex_len' rfl hs0 lenk28) rfl <| Run.opG wantS_none (ex_gtr rfl rfl) rfl <| Run.opsEnd ?_
 rcases btf ((decide ((256 : Int) < (a0.length : Int)))) with hc21 | hc21
 ·have h := bif_t hc21 h
  refine Run.condT' rfl hc21 ?_
  refine Run.seq (Run.region ?_)
  refine Run.opG wantS_none (ex_assign rfl) rfl <| Run.opsEnd ?_
  cases h
  exact Run.ret Tryz.func39 rfl (res_tmp rfl res_nil) rfl
 ·have h := bif_f hc21 h
  refine Run.condF' rfl hc21 ?_
  refine Run.skip (Run.seq (Run.region ?_))
  refine Run.opG wantS_none (ex_assign rfl) rfl ?_
  refine Run.opsEnd (Run.seq (Run.seq (Run.region ?_)))
  refine Run.opG wantS_none (ex_move rfl) rfl <| Run.opG wantS_none (ex_len' rfl hs0 lenk28) rfl <| Run.opG wantS_none (ex_move rfl) rfl ?_
  refine Run.opsEnd (Run.block (Run.loop ?_))
  exact Run.pick [3, 9, 10, 11] (glitch_areTimes_1_ok F F ((-1) : Int) a0 (a0.length : Int) (0 : Int) s0 _ _ _ hs0 hH h)

theorem mkk39 : makeK Tryz.prog 39 = none := by kernel_rfl
theorem cal39 : callable Tryz.prog 39 = true := by kernel_rfl
theorem mkk76 : makeK Tryz.prog 76 = none := by kernel_rfl
theorem cal76 : callable Tryz.prog 76 = true := by kernel_rfl
theorem mkk77 : makeK Tryz.prog 77 = none := by kernel_rfl
theorem cal77 : callable Tryz.prog 77 = true := by kernel_rfl
theorem agg22 : aggSize Tryz.prog 22 = some none := by kernel_rfl
theorem mkk80 : makeK Tryz.prog 80 = none := by kernel_rfl
theorem cal80 : callable Tryz.prog 80 = true := by kernel_rfl
theorem mkk121 : makeK Tryz.prog 121 = none := by kernel_rfl
theorem cal121 : callable Tryz.prog 121 = true := by kernel_rfl
theorem mkk78 : makeK Tryz.prog 78 = none := by kernel_rfl
theorem cal78 : callable Tryz.prog 78 = true := by kernel_rfl
theorem mkk120 : makeK Tryz.prog 120 = none := by kernel_rfl
theorem cal120 : callable Tryz.prog 120 = true := by kernel_rfl
abbrev glitch_holdsAt_post (r : Bool) : SV → Mem → Prop := fun s _ => s = (.bool r)

def glitch_holdsAt_2 (F : Nat) (hd1 : (List S_api_Segment) → Int → Int → Int → Option (Bool)) (v13 : Bool) (v0_f1 : (List S_api_Segment)) (v5_f1 v7_f1 v8_f1 c25_0 : Int) : Option (Bool) :=
 bif v13 then
  some (decide ((0 : Int) ≤ v5_f1))
 else
  hd1 v0_f1 v7_f1 (w64 (v8_f1 + (1 : Int))) c25_0

theorem glitch_holdsAt_2_ok (F : Nat) (hd1 : (List S_api_Segment) → Int → Int → Int → Option (Bool)) (hhd1 : ∀ (v0 : (List S_api_Segment)) (v7 v8 c25_0 : Int) (sv0 : SV) (b25 : Pos) (Fr : Rd) (M : Mem) (r : Bool) (hv0 : Slc Fr 2 (FlatR enc37) sv0 v0) (hH : Has Fr M [.obj b25 (.row 3 .whole [(.int .i64 c25_0)])]), hd1 v0 v7 v8 c25_0 = some r → Run Tryz.prog ⟨⟨147, [], none⟩, [.mk ⟨119, [], none⟩ 9 (treeOf []) [itemC Tryz.prog 119 [1, 0] 2, codeC Tryz.prog 119 [1, 1]], .mk ⟨79, [], none⟩ 9 (treeOf []) [itemC Tryz.prog 79 [1, 0] 3, codeC Tryz.prog 79 [1, 1]]]⟩ 19 (glitch_holdsAt_post r) [(0, sv0), (1, (.fn (.func 120) [] [(.ptr b25 0)])), (7, (.int .i64 v7)), (8, (.int .i64 v8))] [codeC Tryz.prog 147 [1, 0, 1, 0, 0], loopC Tryz.prog 147 [1, 0, 1, 0, 0], .inBlock 0, codeC Tryz.prog 147 [1, 1]] M) : ∀ (v13 : Bool) (v0_f1 : (List S_api_Segment)) (v5_f1 v7_f1 v8_f1 c25_0 : Int) (sv0_f1 : SV) (b25 : Pos) (Fr : Rd) (M : Mem) (r : Bool) (hv0_f1 : Slc Fr 2 (FlatR enc37) sv0_f1 v0_f1) (hH : Has Fr M [.obj b25 (.row 3 .whole [(.int .i64 c25_0)])]), glitch_holdsAt_2 F hd1 v13 v0_f1 v5_f1 v7_f1 v8_f1 c25_0 = some r → Run Tryz.prog ⟨⟨120, [], none⟩, [.mk ⟨147, [], none⟩ 19 (treeOf [(0, sv0_f1), (1, (.fn (.func 120) [] [(.ptr b25 0)])), (5, (.int .i64 v5_f1)), (7, (.int .i64 v7_f1)), (8, (.int .i64 v8_f1))]) [itemC Tryz.prog 147 [1, 0, 1, 0, 0, 1, 1, 0, 0, 1, 0] 5, codeC Tryz.prog 147 [1, 0, 1, 0, 0, 1, 1, 0, 0, 1, 1], .inBlock 1, codeC Tryz.prog 147 [1, 0, 1, 0, 0, 1, 1, 1], loopC Tryz.prog 147 [1, 0, 1, 0, 0], .inBlock 0, codeC Tryz.prog 147 [1, 1]], .mk ⟨119, [], none⟩ 9 (treeOf []) [itemC Tryz.prog 119 [1, 0] 2, codeC Tryz.prog 119 [1, 1]], .mk ⟨79, [], none⟩ 9 (treeOf []) [itemC Tryz.prog 79 [1, 0] 3, codeC Tryz.prog 79 [1, 1]]]⟩ 14 (glitch_holdsAt_post r) [(13, (.bool v13))] [itemC Tryz.prog 120 [1, 0] 10, codeC Tryz.prog 120 [1, 1]] M := by
 intro v13 v0_f1 v5_f1 v7_f1 v8_f1 c25_0 sv0_f1 b25 Fr M r hv0_f1 hH h
 rw [glitch_holdsAt_2] at h
 refine Run.opG wantS_none (ex_assign rfl) rfl <| Run.opsEnd <| Run.retTo Tryz.func120 rfl (res_tmp rfl res_nil) rfl <| Run.opsEnd ?_
 rcases btf (v13) with hc34 | hc34
 ·have h := bif_t hc34 h
  refine Run.condT' rfl hc34 ?_
  refine Run.seq (Run.region ?_)
  refine Run.opG wantS_none (ex_move rfl) rfl <| Run.opG wantS_none (ex_assign rfl) rfl <| Run.opsEnd <| Run.retTo Tryz.func147 rfl (res_tmp rfl res_nil) rfl <| Run.opG wantS_none (ex_geq rfl rfl) rfl <| Run.opG wantS_none (ex_assign rfl) rfl <| Run.opsEnd <| Run.retTo Tryz.func119 rfl (res_tmp rfl res_nil) rfl <| Run.opG wantS_none (ex_assign rfl) rfl <| Run.opsEnd ?_
  cases h
  exact Run.ret Tryz.func79 rfl (res_tmp rfl res_nil) rfl
 ·have h := bif_f hc34 h
  refine Run.condF' rfl hc34 ?_
  refine Run.skip (Run.inBlock (Run.region ?_))
  refine Run.opG wantS_none (ex_add rfl rfl) rfl <| Run.opG wantS_none (ex_move rfl) rfl ?_
  refine Run.opsEnd (Run.inLoop ?_)
  exact Run.low (.cons (fle_pick [] rfl) (.cons (fle_pick [] rfl) .nil)) (Run.pick [0, 1, 7, 8] (hhd1 v0_f1 v7_f1 (w64 (v8_f1 + (1 : Int))) c25_0 sv0_f1 b25 _ _ _ hv0_f1 hH h))

def glitch_holdsAt_1 (F : Nat) : Nat → (List S_api_Segment) → Int → Int → Int → Option (Bool)
 | 0, _, _, _, _ => none
 | N + 1, v0, v7, v8, c25_0 =>
  bif (decide (v8 < v7)) then
   bnd (idx v0 v8) fun x29 =>
   bif (decide (x29.From ≤ c25_0)) then
    glitch_holdsAt_2 F (glitch_holdsAt_1 F N) (decide (c25_0 < x29.To)) v0 v8 v7 v8 c25_0
   else
    glitch_holdsAt_2 F (glitch_holdsAt_1 F N) false v0 v8 v7 v8 c25_0
  else
   some (decide ((0 : Int) ≤ ((-1) : Int)))

theorem glitch_holdsAt_1_ok (F : Nat) : ∀ (N : Nat), ∀ (v0 : (List S_api_Segment)) (v7 v8 c25_0 : Int) (sv0 : SV) (b25 : Pos) (Fr : Rd) (M : Mem) (r : Bool) (hv0 : Slc Fr 2 (FlatR enc37) sv0 v0) (hH : Has Fr M [.obj b25 (.row 3 .whole [(.int .i64 c25_0)])]), glitch_holdsAt_1 F N v0 v7 v8 c25_0 = some r → Run Tryz.prog ⟨⟨147, [], none⟩, [.mk ⟨119, [], none⟩ 9 (treeOf []) [itemC Tryz.prog 119 [1, 0] 2, codeC Tryz.prog 119 [1, 1]], .mk ⟨79, [], none⟩ 9 (treeOf []) [itemC Tryz.prog 79 [1, 0] 3, codeC Tryz.prog 79 [1, 1]]]⟩ 19 (glitch_holdsAt_post r) [(0, sv0), (1, (.fn (.func 120) [] [(.ptr b25 0)])), (7, (.int .i64 v7)), (8, (.int .i64 v8))] [codeC Tryz.prog 147 [1, 0, 1, 0, 0], loopC Tryz.prog 147 [1, 0, 1, 0, 0], .inBlock 0, codeC Tryz.prog 147 [1, 1]] M := by
 intro N
 induction N with
 | zero =>
  intro v0 v7 v8 c25_0 sv0 b25 Fr M r hv0 hH h
  simp [glitch_holdsAt_1] at h
 | succ N ih =>
  intro v0 v7 v8 c25_0 sv0 b25 Fr M r hv0 hH h
  rw [glitch_holdsAt_1] at h
  refine Run.seq (Run.region ?_)
  refine Run.opG wantS_none (ex_lss rfl rfl) rfl ?_
  refine Run.opsEnd (Run.seq ?_)
  rcases btf ((decide (v8 < v7))) with hc27 | hc27
  ·have h := bif_t hc27 h
   refine Run.condT' rfl hc27 ?_
   refine Run.skip (Run.seq (Run.block (Run.seq (Run.region ?_))))
   refine Run.opG wantS_none (ex_move rfl) rfl <| Run.opG wantS_none (ex_assign rfl) rfl ?_
   refine Run.opsEnd (Run.seq (Run.region ?_))
   refine Run.opG wantS_none (ex_move rfl) rfl <| Run.opG wantS_none (ex_move rfl) rfl <| Run.opG wantS_none (ex_move rfl) rfl ?_
   obtain ⟨x29, hx29, h⟩ := bnd_some h
   obtain ⟨p29, o29, _, hx29, hp29, rfl⟩ := sl_elem (P := Tryz.prog) (t := 31) (kk := .i64) hv0 hx29 els31
   refine Run.opG wantS_none (ex_elX rfl rfl hx29) rfl <| Run.opG wantS_none (ex_loadA rfl (hH.ptrF hp29) rdLe_rfl agg37 rfl rfl rfl) rfl <| Run.enter wantS_none (ex_closure rfl rfl mkk120 cal120) Tryz.func120 rfl rfl ?_
   refine Run.seq (Run.region ?_)
   refine Run.opX wantS_none rfl (ExG.box rfl rfl hH) ?_
   rintro _ M32 ⟨b31, rfl, hH32⟩
   refine Run.opG wantS_none (ex_assign rfl) rfl ?_
   refine Run.opsEnd (Run.seq (Run.region ?_))
   refine Run.opG wantS_none (ex_fieldAddr rfl off37_0) rfl <| Run.opG wantS_none (ex_load1 rfl (hH32.cells (i := 0) rfl 0 rfl) rdLe_rfl agg3) rfl <| Run.opG wantS_none (ex_load1 rfl (hH32.cells (i := 1) rfl 0 rfl) rdLe_rfl agg3) rfl <| Run.opG wantS_none (ex_leq rfl rfl) rfl <| Run.opG wantS_none (ex_move rfl) rfl ?_
   rcases btf ((decide (x29.From ≤ c25_0))) with hc33 | hc33
   ·have h := bif_t hc33 h
    refine Run.opG (wantS_yes' rfl rfl hc33) (ex_load1 rfl (hH32.cells (i := 1) rfl 0 rfl) rdLe_rfl agg3) rfl <| Run.opG (wantS_yes' rfl rfl hc33) (ex_fieldAddr rfl off37_1) rfl <| Run.opG (wantS_yes' rfl rfl hc33) (ex_load1 rfl (hH32.cells (i := 0) rfl 1 rfl) rdLe_rfl agg3) rfl <| Run.opG (wantS_yes' rfl rfl hc33) (ex_lss rfl rfl) rfl <| Run.opG wantS_none (ex_pickT' rfl hc33 rfl rfl) rfl ?_
    exact Run.low (.cons (fle_pick [0, 1, 5, 7, 8] rfl) (.cons (fle_pick [] rfl) (.cons (fle_pick [] rfl) .nil))) (Run.pick [13] (glitch_holdsAt_2_ok F (glitch_holdsAt_1 F N) ih (decide (c25_0 < x29.To)) v0 v8 v7 v8 c25_0 sv0 b25 _ _ _ hv0 (hH32.pick [1] rfl rfl) h))
   ·have h := bif_f hc33 h
    refine Run.no (wantS_not' rfl rfl hc33) rfl <| Run.no (wantS_not' rfl rfl hc33) rfl <| Run.no (wantS_not' rfl rfl hc33) rfl <| Run.no (wantS_not' rfl rfl hc33) rfl <| Run.opG wantS_none (ex_pickF' rfl hc33 rfl rfl) rfl ?_
    exact Run.low (.cons (fle_pick [0, 1, 5, 7, 8] rfl) (.cons (fle_pick [] rfl) (.cons (fle_pick [] rfl) .nil))) (Run.pick [13] (glitch_holdsAt_2_ok F (glitch_holdsAt_1 F N) ih false v0 v8 v7 v8 c25_0 sv0 b25 _ _ _ hv0 (hH32.pick [1] rfl rfl) h))
  ·have h := bif_f hc27 h
   refine Run.condF' rfl hc27 ?_
   refine Run.exit rfl (Run.seq (Run.region ?_))
   refine Run.opG wantS_none (ex_assign rfl) rfl <| Run.opsEnd <| Run.retTo Tryz.func147 rfl (res_tmp rfl res_nil) rfl <| Run.opG wantS_none (ex_geq rfl rfl) rfl <| Run.opG wantS_none (ex_assign rfl) rfl <| Run.opsEnd <| Run.retTo Tryz.func119 rfl (res_tmp rfl res_nil) rfl <| Run.opG wantS_none (ex_assign rfl) rfl <| Run.opsEnd ?_
   cases h
   exact Run.ret Tryz.func79 rfl (res_tmp rfl res_nil) rfl

def glitch_holdsAt (F : Nat) (a0 : S_api_Veto) (a1 : Int) : Option (Bool) :=
 glitch_holdsAt_1 F F a0.Segments (a0.Segments.length : Int) (0 : Int) a1

theorem glitch_holdsAt_ok (F : Nat) (a0 : S_api_Veto) (a1 : Int) (s0 : SV) (r : Bool) (M : Mem) (hs0 : Slc (rd M) 2 (FlatR enc37) s0 a0.Segments) (h : glitch_holdsAt F a0 a1 = some r) : CallsM Tryz.prog 79 [(.agg [(.str a0.Name), s0]), (.int .i64 a1)] M (fun s M' => s = (.bool r) ∧ M' = M) := by
 refine CallsM.plain Tryz.func79 rfl rfl rfl (show Run _ _ _ (glitch_holdsAt_post r) _ _ _ from ?_)
 rw [glitch_holdsAt] at h
 replace hs0 := hs0.mono (rdLe_frozen M) (fun _ _ h => h)
 have hH := Has.nil (frozen M)
 refine Run.seq (Run.region ?_)
 refine Run.opX wantS_none rfl (ExG.box rfl rfl hH) ?_
 rintro _ M23 ⟨b22, rfl, hH23⟩
 refine Run.opX wantS_none rfl (ExG.box rfl rfl hH23) ?_
 rintro _ M26 ⟨b25, rfl, hH26⟩
 refine Run.opG wantS_none (ex_assign rfl) rfl ?_
 refine Run.opsEnd (Run.seq (Run.region ?_))
 refine Run.opG wantS_none (ex_fieldAddr rfl off35_1) rfl <| Run.opG wantS_none (ex_load1 rfl (hH26.cells (i := 1) rfl 1 rfl) rdLe_rfl agg31) rfl <| Run.opG wantS_none (ex_makeFunc rfl rfl) rfl <| Run.enter wantS_none (ex_call rfl mkk119 cal119) Tryz.func119 rfl rfl ?_
 refine Run.seq (Run.region ?_)
 refine Run.opG wantS_none (ex_assign rfl) rfl ?_
 refine Run.opsEnd (Run.seq (Run.region ?_))
 refine Run.opG wantS_none (ex_move rfl) rfl <| Run.opG wantS_none (ex_move rfl) rfl <| Run.enter wantS_none (ex_call rfl mkk147 cal147) Tryz.func147 rfl rfl ?_
 refine Run.seq (Run.region ?_)
 refine Run.opG wantS_none (ex_assign rfl) rfl ?_
 refine Run.opsEnd (Run.seq (Run.seq (Run.region ?_)))
 refine Run.opG wantS_none (ex_move rfl) rfl <| Run.opG wantS_none (ex_len' rfl hs0 lenk31) rfl <| Run.opG wantS_none (ex_move rfl) rfl ?_
 refine Run.opsEnd (Run.block (Run.loop ?_))
 exact Run.low (.cons (fle_pick [] rfl) (.cons (fle_pick [] rfl) .nil)) (Run.pick [0, 1, 7, 8] (glitch_holdsAt_1_ok F F a0.Segments (a0.Segments.length : Int) (0 : Int) a1 s0 b25 _ _ _ hs0 (hH26.pick [0] rfl rfl) h))

theorem mkk79 : makeK Tryz.prog 79 = none := by kernel_rfl
theorem cal79 : callable Tryz.prog 79 = true := by kernel_rfl
abbrev slices_ContainsFunc_80_h1_post (e_v0 : (List S_api_Veto)) (e_c28_0 : Int) (se_v0 : SV) (e_b28 : Pos) (Fr0 : Rd) (Hr : List Ent) (r : Bool) : SV → Mem → Prop := fun s Me => s = (.bool r) ∧ Has Fr0 Me (([.obj e_b28 (.row 3 .whole [(.int .i64 e_c28_0)])] : List Ent) ++ Hr)

def slices_ContainsFunc_80_h1_1 (F : Nat) (e_v0 : (List S_api_Veto)) (e_c28_0 : Int) : Nat → (List S_api_Veto) → Int → Int → Option (Bool)
 | 0, _, _, _ => none
 | N + 1, v0, v7, v8 =>
  bif (decide (v8 < v7)) then
   bnd (idx v0 v8) fun x31 =>
   bnd (glitch_holdsAt F x31 e_c28_0) fun r36 =>
   bif r36 then
    some (decide ((0 : Int) ≤ v8))
   else
    (slices_ContainsFunc_80_h1_1 F e_v0 e_c28_0 N) v0 v7 (w64 (v8 + (1 : Int)))
  else
   some (decide ((0 : Int) ≤ ((-1) : Int)))

theorem slices_ContainsFunc_80_h1_1_ok (F : Nat) (e_v0 : (List S_api_Veto)) (e_c28_0 : Int) (se_v0 : SV) (e_b28 : Pos) (Fr0 : Rd) (Hr : List Ent) : ∀ (N : Nat), ∀ (v0 : (List S_api_Veto)) (v7 v8 : Int) (sv0 : SV) (M : Mem) (r : Bool) (hv0 : Slc Fr0 2 (rep35 Fr0) sv0 v0) (hH : Has Fr0 M (([.obj e_b28 (.row 3 .whole [(.int .i64 e_c28_0)])] : List Ent) ++ Hr)), slices_ContainsFunc_80_h1_1 F e_v0 e_c28_0 N v0 v7 v8 = some r → Run Tryz.prog ⟨⟨121, [], none⟩, [.mk ⟨80, [], none⟩ 9 (treeOf []) [itemC Tryz.prog 80 [1, 0] 2, codeC Tryz.prog 80 [1, 1]]]⟩ 19 (slices_ContainsFunc_80_h1_post e_v0 e_c28_0 se_v0 e_b28 Fr0 Hr r) [(0, sv0), (1, (.fn (.func 78) [] [(.ptr e_b28 0)])), (7, (.int .i64 v7)), (8, (.int .i64 v8))] [codeC Tryz.prog 121 [1, 0, 1, 0, 0], loopC Tryz.prog 121 [1, 0, 1, 0, 0], .inBlock 0, codeC Tryz.prog 121 [1, 1]] M := by
 intro N
 induction N with
 | zero =>
  intro v0 v7 v8 sv0 M r hv0 hH h
  simp [slices_ContainsFunc_80_h1_1] at h
 | succ N ih =>
  intro v0 v7 v8 sv0 M r hv0 hH h
  rw [slices_ContainsFunc_80_h1_1] at h
  refine Run.seq (Run.region ?_)
  refine Run.opG wantS_none (ex_lss rfl rfl) rfl ?_
  refine Run.opsEnd (Run.seq ?_)
  rcases btf ((decide (v8 < v7))) with hc29 | hc29
  ·have h := bif_t hc29 h
   refine Run.condT' rfl hc29 ?_
   refine Run.skip (Run.seq (Run.block (Run.seq (Run.region ?_))))
   refine Run.opG wantS_none (ex_move rfl) rfl <| Run.opG wantS_none (ex_assign rfl) rfl ?_
   refine Run.opsEnd (Run.seq (Run.region ?_))
   refine Run.opG wantS_none (ex_move rfl) rfl <| Run.opG wantS_none (ex_move rfl) rfl <| Run.opG wantS_none (ex_move rfl) rfl ?_
   obtain ⟨x31, hx31, h⟩ := bnd_some h
   obtain ⟨p31, o31, _, hx31, hp31, ⟨q31_0, rfl, hq31_0⟩⟩ := sl_elem (P := Tryz.prog) (t := 22) (kk := .i64) hv0 hx31 els22
   refine Run.opG wantS_none (ex_elX rfl rfl hx31) rfl <| Run.opG wantS_none (ex_loadA rfl (hH.ptrF hp31) rdLe_rfl agg35 rfl rfl rfl) rfl <| Run.enter wantS_none (ex_closure rfl rfl mkk78 cal78) Tryz.func78 rfl rfl ?_
   refine Run.seq (Run.region ?_)
   refine Run.opX wantS_none rfl (ExG.box rfl rfl hH) ?_
   rintro _ M34 ⟨b33, rfl, (hH34 : Has Fr0 M34 (([.obj b33 (.row 35 .whole [(.str x31.Name), q31_0]), .obj e_b28 (.row 3 .whole [(.int .i64 e_c28_0)])] : List Ent) ++ Hr))⟩
   refine Run.opG wantS_none (ex_assign rfl) rfl ?_
   refine Run.opsEnd (Run.seq (Run.region ?_))
   refine Run.opG wantS_none (ex_loadA rfl (hH34.cells (i := 0) rfl 0 rfl) rdLe_rfl agg35 rfl rfl rfl) rfl <| Run.opG wantS_none (ex_load1 rfl (hH34.cells (i := 1) rfl 0 rfl) rdLe_rfl agg3) rfl ?_
   obtain ⟨r36, hr36, h⟩ := bnd_some h
   refine Run.callP wantS_none (ex_call rfl mkk79 cal79) rfl (glitch_holdsAt_ok F x31 e_c28_0 q31_0 _ _ (hH34.slcF hq31_0) hr36) <| Run.opG wantS_none (ex_assign rfl) rfl <| Run.opsEnd <| Run.retTo Tryz.func78 rfl (res_tmp rfl res_nil) rfl <| Run.opsEnd ?_
   rcases btf (r36) with hc38 | hc38
   ·have h := bif_t hc38 h
    refine Run.condT' rfl hc38 ?_
    refine Run.seq (Run.region ?_)
    refine Run.opG wantS_none (ex_move rfl) rfl <| Run.opG wantS_none (ex_assign rfl) rfl <| Run.opsEnd <| Run.retTo Tryz.func121 rfl (res_tmp rfl res_nil) rfl <| Run.opG wantS_none (ex_geq rfl rfl) rfl <| Run.opG wantS_none (ex_assign rfl) rfl <| Run.opsEnd ?_
    cases h
    exact Run.ret Tryz.func80 rfl (res_tmp rfl res_nil) ⟨rfl, (hH34.pickT [1] rfl rfl).upF (fun b c hb => hH34.base b c hb)⟩
   ·have h := bif_f hc38 h
    refine Run.condF' rfl hc38 ?_
    refine Run.skip (Run.inBlock (Run.region ?_))
    refine Run.opG wantS_none (ex_add rfl rfl) rfl <| Run.opG wantS_none (ex_move rfl) rfl ?_
    refine Run.opsEnd (Run.inLoop ?_)
    exact Run.low (.cons (fle_pick [] rfl) .nil) (Run.pick [0, 1, 7, 8] (ih v0 v7 (w64 (v8 + (1 : Int))) sv0 _ _ hv0 (hH34.pickT [1] rfl rfl) h))
  ·have h := bif_f hc29 h
   refine Run.condF' rfl hc29 ?_
   refine Run.exit rfl (Run.seq (Run.region ?_))
   refine Run.opG wantS_none (ex_assign rfl) rfl <| Run.opsEnd <| Run.retTo Tryz.func121 rfl (res_tmp rfl res_nil) rfl <| Run.opG wantS_none (ex_geq rfl rfl) rfl <| Run.opG wantS_none (ex_assign rfl) rfl <| Run.opsEnd ?_
   cases h
   exact Run.ret Tryz.func80 rfl (res_tmp rfl res_nil) ⟨rfl, (hH.pickT [0] rfl rfl).upF (fun b c hb => hH.base b c hb)⟩

def slices_ContainsFunc_80_h1 (F : Nat) (e_v0 : (List S_api_Veto)) (e_c28_0 : Int) : Option (Bool) :=
 slices_ContainsFunc_80_h1_1 F e_v0 e_c28_0 F e_v0 (e_v0.length : Int) (0 : Int)

theorem slices_ContainsFunc_80_h1_ok (F : Nat) : ∀ (e_v0 : (List S_api_Veto)) (e_c28_0 : Int) (se_v0 : SV) (e_b28 : Pos) (Fr0 : Rd) (Hr : List Ent) (M : Mem) (r : Bool) (he_v0 : Slc Fr0 2 (rep35 Fr0) se_v0 e_v0) (hH : Has Fr0 M (([.obj e_b28 (.row 3 .whole [(.int .i64 e_c28_0)])] : List Ent) ++ Hr)) (h : slices_ContainsFunc_80_h1 F e_v0 e_c28_0 = some r), CallsM Tryz.prog 80 [se_v0, (.fn (.func 78) [] [(.ptr e_b28 0)])] M (slices_ContainsFunc_80_h1_post e_v0 e_c28_0 se_v0 e_b28 Fr0 Hr r) := by
 intro e_v0 e_c28_0 se_v0 e_b28 Fr0 Hr M r he_v0 hH h
 refine CallsM.run Tryz.func80 rfl rfl (show Run _ _ _ (slices_ContainsFunc_80_h1_post e_v0 e_c28_0 se_v0 e_b28 Fr0 Hr r) _ _ _ from ?_)
 rw [slices_ContainsFunc_80_h1] at h
 refine Run.seq (Run.region ?_)
 refine Run.opG wantS_none (ex_assign rfl) rfl ?_
 refine Run.opsEnd (Run.seq (Run.region ?_))
 refine Run.opG wantS_none (ex_move rfl) rfl <| Run.opG wantS_none (ex_move rfl) rfl <| Run.enter wantS_none (ex_call rfl mkk121 cal121) Tryz.func121 rfl rfl ?_
 refine Run.seq (Run.region ?_)
 refine Run.opG wantS_none (ex_assign rfl) rfl ?_
 refine Run.opsEnd (Run.seq (Run.seq (Run.region ?_)))
 refine Run.opG wantS_none (ex_move rfl) rfl <| Run.opG wantS_none (ex_len' rfl he_v0 lenk22) rfl <| Run.opG wantS_none (ex_move rfl) rfl ?_
 refine Run.opsEnd (Run.block (Run.loop ?_))
 exact Run.low (.cons (fle_pick [] rfl) .nil) (Run.pick [0, 1, 7, 8] (slices_ContainsFunc_80_h1_1_ok F e_v0 e_c28_0 se_v0 e_b28 Fr0 Hr F e_v0 (e_v0.length : Int) (0 : Int) se_v0 _ _ he_v0 hH h))

theorem elt28 : sliceElt Tryz.prog 28 = some (⟨1, 8, [(.int .i64 0)], 3⟩ : Elt) := by kernel_rfl
theorem appt28_28 : appT Tryz.prog 28 28 = some (⟨1, 8, [(.int .i64 0)], 3⟩ : Elt) := by kernel_rfl
theorem plan77_1_1_0 : planOf Tryz.prog (opsC (atC Tryz.prog 77 [1, 1, 0])) = some [.fl 0, .fl 1, .fl 2, .an 3 [0], .fl 4, .fl 5, .fl 6, .sync] := by kernel_rfl
abbrev glitch_passed_post (r : (List Int)) : SV → Mem → Prop := fun s Me => ∃ q1, s = q1 ∧ Has (fun _ => none) Me [.vec 3 1 r.length q1 (r.flatMap enc3)]

def glitch_passed_2 (F : Nat) (hd1 : (List Int) → Int → Int → (List S_api_Veto) → (List Int) → Option ((List Int))) (v10 : (List Int)) (v11 v12 : Int) (c22_0 : (List S_api_Veto)) (l41 : (List Int)) : Option ((List Int)) :=
 hd1 v10 v11 (w64 (v12 + (1 : Int))) c22_0 l41

theorem glitch_passed_2_ok (F : Nat) (hd1 : (List Int) → Int → Int → (List S_api_Veto) → (List Int) → Option ((List Int))) (hhd1 : ∀ (v10 : (List Int)) (v11 v12 : Int) (c22_0 : (List S_api_Veto)) (l24 : (List Int)) (sv10 sc22_0 : SV) (b22 : Pos) (s24 : SV) (Fr : Rd) (M : Mem) (r : (List Int)) (hv10 : Slc Fr 1 (FlatR enc3) sv10 v10) (hc22_0 : Slc Fr 2 (rep35 Fr) sc22_0 c22_0) (hH : Has Fr M [.obj b22 (.row 22 .whole [sc22_0]), .vec 3 1 l24.length s24 (l24.flatMap enc3)]), hd1 v10 v11 v12 c22_0 l24 = some r → Run Tryz.prog ⟨⟨76, [], none⟩, [.mk ⟨40, [], none⟩ 8 (treeOf []) [itemC Tryz.prog 40 [1, 0] 2, codeC Tryz.prog 40 [1, 1]]]⟩ 29 (glitch_passed_post r) [(1, (.fn (.func 77) [] [(.ptr b22 0)])), (5, s24), (10, sv10), (11, (.int .i64 v11)), (12, (.int .i64 v12))] [codeC Tryz.prog 76 [1, 1, 0, 1, 0, 0], loopC Tryz.prog 76 [1, 1, 0, 1, 0, 0], .inBlock 0, codeC Tryz.prog 76 [1, 1, 1]] M) : ∀ (v10 : (List Int)) (v11 v12 : Int) (c22_0 : (List S_api_Veto)) (l41 : (List Int)) (sv10 sc22_0 : SV) (b22 : Pos) (s41 : SV) (Fr : Rd) (M : Mem) (r : (List Int)) (hv10 : Slc Fr 1 (FlatR enc3) sv10 v10) (hc22_0 : Slc Fr 2 (rep35 Fr) sc22_0 c22_0) (hH : Has Fr M [.obj b22 (.row 22 .whole [sc22_0]), .vec 3 1 l41.length s41 (l41.flatMap enc3)]), glitch_passed_2 F hd1 v10 v11 v12 c22_0 l41 = some r → Run Tryz.prog ⟨⟨76, [], none⟩, [.mk ⟨40, [], none⟩ 8 (treeOf []) [itemC Tryz.prog 40 [1, 0] 2, codeC Tryz.prog 40 [1, 1]]]⟩ 29 (glitch_passed_post r) [(1, (.fn (.func 77) [] [(.ptr b22 0)])), (5, s41), (10, sv10), (11, (.int .i64 v11)), (12, (.int .i64 v12))] [itemC Tryz.prog 76 [1, 1, 0, 1, 0, 0, 1, 1, 1] 0, loopC Tryz.prog 76 [1, 1, 0, 1, 0, 0], .inBlock 0, codeC Tryz.prog 76 [1, 1, 1]] M := by
 intro v10 v11 v12 c22_0 l41 sv10 sc22_0 b22 s41 Fr M r hv10 hc22_0 hH h
 rw [glitch_passed_2] at h
 refine Run.opG wantS_none (ex_add rfl rfl) rfl <| Run.opG wantS_none (ex_move rfl) rfl ?_
 refine Run.opsEnd (Run.inLoop ?_)
 exact Run.low (.cons (fle_pick [] rfl) .nil) (Run.pick [1, 5, 10, 11, 12] (hhd1 v10 v11 (w64 (v12 + (1 : Int))) c22_0 l41 sv10 sc22_0 b22 s41 _ _ _ hv10 hc22_0 hH h))

def glitch_passed_1 (F : Nat) : Nat → (List Int) → Int → Int → (List S_api_Veto) → (List Int) → Option ((List Int))
 | 0, _, _, _, _, _ => none
 | N + 1, v10, v11, v12, c22_0, l24 =>
  bif (decide (v12 < v11)) then
   bnd (idx v10 v12) fun x28 =>
   bnd (slices_ContainsFunc_80_h1 F c22_0 x28) fun r32 =>
   bif (!r32) then
    bnd (apd 8 l24 ([x28] : List Int)) fun l40 =>
    glitch_passed_2 F (glitch_passed_1 F N) v10 v11 v12 c22_0 l40
   else
    glitch_passed_2 F (glitch_passed_1 F N) v10 v11 v12 c22_0 l24
  else
   some l24

theorem glitch_passed_1_ok (F : Nat) : ∀ (N : Nat), ∀ (v10 : (List Int)) (v11 v12 : Int) (c22_0 : (List S_api_Veto)) (l24 : (List Int)) (sv10 sc22_0 : SV) (b22 : Pos) (s24 : SV) (Fr : Rd) (M : Mem) (r : (List Int)) (hv10 : Slc Fr 1 (FlatR enc3) sv10 v10) (hc22_0 : Slc Fr 2 (rep35 Fr) sc22_0 c22_0) (hH : Has Fr M [.obj b22 (.row 22 .whole [sc22_0]), .vec 3 1 l24.length s24 (l24.flatMap enc3)]), glitch_passed_1 F N v10 v11 v12 c22_0 l24 = some r → Run Tryz.prog ⟨⟨76, [], none⟩, [.mk ⟨40, [], none⟩ 8 (treeOf []) [itemC Tryz.prog 40 [1, 0] 2, codeC Tryz.prog 40 [1, 1]]]⟩ 29 (glitch_passed_post r) [(1, (.fn (.func 77) [] [(.ptr b22 0)])), (5, s24), (10, sv10), (11, (.int .i64 v11)), (12, (.int .i64 v12))] [codeC Tryz.prog 76 [1, 1, 0, 1, 0, 0], loopC Tryz.prog 76 [1, 1, 0, 1, 0, 0], .inBlock 0, codeC Tryz.prog 76 [1, 1, 1]] M := by
 intro N
 induction N with
 | zero =>
  intro v10 v11 v12 c22_0 l24 sv10 sc22_0 b22 s24 Fr M r hv10 hc22_0 hH h
  simp [glitch_passed_1] at h
 | succ N ih =>
  intro v10 v11 v12 c22_0 l24 sv10 sc22_0 b22 s24 Fr M r hv10 hc22_0 hH h
  rw [glitch_passed_1] at h
  refine Run.seq (Run.region ?_)
  refine Run.opG wantS_none (ex_lss rfl rfl) rfl ?_
  refine Run.opsEnd (Run.seq ?_)
  rcases btf ((decide (v12 < v11))) with hc26 | hc26
  ·have h := bif_t hc26 h
   refine Run.condT' rfl hc26 ?_
   refine Run.skip (Run.seq (Run.block (Run.seq (Run.region ?_))))
   obtain ⟨x28, hx28, h⟩ := bnd_some h
   obtain ⟨p28, o28, _, hx28, hp28, rfl⟩ := sl_elem (P := Tryz.prog) (t := 28) (kk := .i64) hv10 hx28 els28
   refine Run.opG wantS_none (ex_elX rfl rfl hx28) rfl <| Run.opG wantS_none (ex_load1 rfl (hH.ptrF hp28) rdLe_rfl agg3) rfl <| Run.opG wantS_none (ex_assign rfl) rfl ?_
   refine Run.opsEnd (Run.seq (Run.region ?_))
   refine Run.opG wantS_none (ex_move rfl) rfl <| Run.opG wantS_none (ex_move rfl) rfl <| Run.enter wantS_none (ex_closure rfl rfl mkk77 cal77) Tryz.func77 rfl rfl ?_
   refine Run.seq (Run.region ?_)
   refine Run.opX wantS_none rfl (ExG.box rfl rfl hH) ?_
   rintro _ M31 ⟨b30, rfl, hH31⟩
   refine Run.opG wantS_none (ex_assign rfl) rfl <| Run.opG wantS_none (ex_assign rfl) rfl ?_
   refine Run.opsEnd (Run.seq (Run.region ?_))
   refine Run.opG wantS_none (ex_makeFunc rfl rfl) rfl <| Run.opG wantS_none (ex_assign rfl) rfl ?_
   refine Run.opsEnd (Run.seq ?_)
   refine Run.drawG plan77_1_1_0 <| DrawG.fl rfl (ev_ex wantS_none (ex_load1 rfl (hH31.cells (i := 0) rfl 0 rfl) rdLe_rfl agg3)) rfl <| DrawG.fl rfl (ev_ex wantS_none (ex_load1 rfl (hH31.cells (i := 1) rfl 0 rfl) rdLe_rfl agg22)) rfl <| DrawG.fl rfl (ev_ex wantS_none (ex_move rfl)) rfl ?_
   obtain ⟨r32, hr32, h⟩ := bnd_some h
   refine DrawG.call rfl wantS_none (ex_call rfl mkk80 cal80) rfl (slices_ContainsFunc_80_h1_ok F c22_0 x28 sc22_0 b30 Fr [.obj b22 (.row 22 .whole [sc22_0]), .vec 3 1 l24.length s24 (l24.flatMap enc3)] _ _ hc22_0 hH31 hr32) ?_
   rintro _ M33 ⟨rfl, (hH33 : Has Fr M33 [.obj b30 (.row 3 .whole [(.int .i64 x28)]), .obj b22 (.row 22 .whole [sc22_0]), .vec 3 1 l24.length s24 (l24.flatMap enc3)])⟩
   refine ⟨(st_cons rfl (ev_ex wantS_none (ex_load1 rfl (hH33.cells (i := 0) rfl 0 rfl) rdLe_rfl agg3)) rfl rfl rfl st_nil), ?_⟩
   refine DrawG.fl rfl (ev_ex wantS_none (ex_not rfl)) rfl <| DrawG.fl rfl (ev_ex wantS_none (ex_assign rfl)) rfl <| DrawG.fl rfl (ev_ex wantS_none (ex_assign rfl)) rfl <| DrawG.sync <| DrawG.nil <| Run.retTo Tryz.func77 rfl (res_tmp rfl (res_tmp rfl res_nil)) rfl <| Run.opG wantS_none (ex_move rfl) rfl <| Run.opG wantS_none (ex_extract rfl rfl) rfl <| Run.opG wantS_none (ex_extract rfl rfl) rfl <| Run.opG wantS_none (ex_assign rfl) rfl <| Run.opG wantS_none (ex_assign rfl) rfl ?_
   refine Run.opsEnd (Run.seq (Run.region ?_))
   refine Run.opG wantS_none (ex_move rfl) rfl <| Run.opsEnd ?_
   rcases btf ((!r32)) with hc34 | hc34
   ·have h := bif_t hc34 h
    refine Run.condT' rfl hc34 <| Run.region <| Run.opG wantS_none (ex_move rfl) rfl <| Run.opG wantS_none (ex_move rfl) rfl <| Run.opX wantS_none rfl (ExG.built (enc := enc3) (l := ([x28] : List Int)) (z := 1) rfl elt28 rfl rfl rfl enc3_len hH33) ?_
    rintro s36 M37 (hH37 : Has Fr M37 [.vec 3 1 ([x28] : List Int).length s36 (([x28] : List Int).flatMap enc3), .obj b30 (.row 3 .whole [(.int .i64 x28)]), .obj b22 (.row 22 .whole [sc22_0]), .vec 3 1 l24.length s24 (l24.flatMap enc3)])
    obtain ⟨l40, hl40, h⟩ := bnd_some h
    refine Run.opX wantS_none rfl (ExG.append rfl rfl hH37 (i := 3) rfl enc3_len rfl enc3_ones appt28_28 rfl (len_slc (hH37.slc (i := 0) rfl enc3_len)) (first_slc (hH37.slc (i := 0) rfl enc3_len) (rdLe_rdRow _) enc3_len) hl40) ?_
    rintro s40 M42 (hH42 : Has Fr M42 [.vec 3 1 ([x28] : List Int).length s36 (([x28] : List Int).flatMap enc3), .obj b30 (.row 3 .whole [(.int .i64 x28)]), .obj b22 (.row 22 .whole [sc22_0]), .vec 3 1 l40.length s40 (l40.flatMap enc3)])
    refine Run.opG wantS_none (ex_assign rfl) rfl ?_
    refine Run.opsEnd (Run.inBlock (Run.region ?_))
    exact Run.low (.cons (fle_pick [] rfl) .nil) (Run.pick [1, 5, 10, 11, 12] (glitch_passed_2_ok F (glitch_passed_1 F N) ih v10 v11 v12 c22_0 l40 sv10 sc22_0 b22 s40 _ _ _ hv10 hc22_0 (hH42.pick [2, 3] rfl rfl) h))
   ·have h := bif_f hc34 h
    refine Run.condF' rfl hc34 ?_
    refine Run.skip (Run.inBlock (Run.region ?_))
    exact Run.low (.cons (fle_pick [] rfl) .nil) (Run.pick [1, 5, 10, 11, 12] (glitch_passed_2_ok F (glitch_passed_1 F N) ih v10 v11 v12 c22_0 l24 sv10 sc22_0 b22 s24 _ _ _ hv10 hc22_0 (hH33.pick [1, 2] rfl rfl) h))
  ·have h := bif_f hc26 h
   refine Run.condF' rfl hc26 ?_
   refine Run.exit rfl (Run.seq (Run.region ?_))
   refine Run.opG wantS_none (ex_move rfl) rfl <| Run.opG wantS_none (ex_assign rfl) rfl <| Run.opsEnd <| Run.retTo Tryz.func76 rfl (res_tmp rfl res_nil) rfl <| Run.opG wantS_none (ex_assign rfl) rfl <| Run.opsEnd ?_
   cases h
   exact Run.ret Tryz.func40 rfl (res_tmp rfl res_nil) ⟨_, rfl, (hH.pick [1] rfl rfl).upF (none_le _)⟩

def glitch_passed (F : Nat) (a0 : (List S_api_Veto)) (a1 : (List Int)) : Option ((List Int)) :=
 glitch_passed_1 F F a1 (a1.length : Int) (0 : Int) a0 ([] : List Int)

theorem glitch_passed_ok (F : Nat) (a0 : (List S_api_Veto)) (a1 : (List Int)) (s0 s1 : SV) (r : (List Int)) (M : Mem) (hs0 : Slc (rd M) 2 (rep35 (rd M)) s0 a0) (hs1 : Slc (rd M) 1 (FlatR enc3) s1 a1) (h : glitch_passed F a0 a1 = some r) : CallsM Tryz.prog 40 [s0, s1] M (fun s M' => ∃ q1, s = q1 ∧ New M M' [.vec 3 1 r.length q1 (r.flatMap enc3)]) := by
 refine CallsM.fresh (Q := glitch_passed_post r) Tryz.func40 rfl rfl ?_ (by rintro s Me ⟨q1, rfl, hx⟩ ha hw; exact ⟨_, rfl, New.of rfl hx ha hw⟩)
 rw [glitch_passed] at h
 replace hs0 := hs0.mono (rdLe_frozen M) (fun _ _ => rep35_mo (rdLe_frozen M))
 replace hs1 := hs1.mono (rdLe_frozen M) (fun _ _ h => h)
 have hH := Has.nil (frozen M)
 refine Run.seq (Run.region ?_)
 refine Run.opX wantS_none rfl (ExG.box rfl (cells_one (slc_one hs0)) hH) ?_
 rintro _ M23 ⟨b22, rfl, hH23⟩
 refine Run.opG wantS_none (ex_assign rfl) rfl ?_
 refine Run.opsEnd (Run.seq (Run.region ?_))
 refine Run.opG wantS_none (ex_move rfl) rfl <| Run.opG wantS_none (ex_makeFunc rfl rfl) rfl <| Run.enter wantS_none (ex_call rfl mkk76 cal76) Tryz.func76 rfl rfl ?_
 refine Run.seq (Run.region ?_)
 refine Run.opG wantS_none (ex_assign rfl) rfl ?_
 refine Run.opsEnd (Run.seq (Run.region ?_))
 refine Run.opG wantS_none (ex_assign rfl) rfl ?_
 refine Run.opsEnd (Run.seq (Run.seq (Run.region ?_)))
 refine Run.opG wantS_none (ex_move rfl) rfl <| Run.opG wantS_none (ex_len' rfl hs1 lenk28) rfl <| Run.opG wantS_none (ex_move rfl) rfl ?_
 refine Run.opsEnd (Run.block (Run.loop ?_))
 have hH25 : Has (ro (frozen M)) M23 [.vec 3 1 ([] : List Int).length .nils (([] : List Int).flatMap enc3), .obj b22 (.row 22 .whole [s0])] := hH23.nils 3 1
 exact Run.low (.cons (fle_pick [] rfl) .nil) (Run.pick [1, 5, 10, 11, 12] (glitch_passed_1_ok F F a1 (a1.length : Int) (0 : Int) a0 ([] : List Int) s1 s0 b22 .nils _ _ _ hs1 hs0 (hH25.pick [1, 0] rfl rfl) h))

theorem mkk40 : makeK Tryz.prog 40 = none := by kernel_rfl
theorem cal40 : callable Tryz.prog 40 = true := by kernel_rfl
abbrev glitch_Passed_post (r : (List Int) × Int) : SV → Mem → Prop := fun s Me => ∃ q1, s = (.tuple [q1, (.int .i64 r.2)]) ∧ Has (fun _ => none) Me [.vec 3 1 r.1.length q1 (r.1.flatMap enc3)]

def glitch_Passed (F : Nat) (a0 : (List S_api_Veto)) (a1 : (List Int)) : Option ((List Int) × Int) :=
 bnd (glitch_areVetoes F a0) fun r22 =>
 bif (!r22) then
  some (([] : List Int), (63 : Int))
 else
  bnd (glitch_areTimes F a1) fun r28 =>
  bif (!r28) then
   some (([] : List Int), (64 : Int))
  else
   bnd (glitch_passed F a0 a1) fun r35 =>
   some (r35, (0 : Int))

theorem glitch_Passed_ok (F : Nat) (a0 : (List S_api_Veto)) (a1 : (List Int)) (s0 s1 : SV) (r : (List Int) × Int) (M : Mem) (hs0 : Slc (rd M) 2 (rep35 (rd M)) s0 a0) (hs1 : Slc (rd M) 1 (FlatR enc3) s1 a1) (h : glitch_Passed F a0 a1 = some r) : CallsM Tryz.prog 12 [s0, s1] M (fun s M' => ∃ q1, s = (.tuple [q1, (.int .i64 r.2)]) ∧ New M M' [.vec 3 1 r.1.length q1 (r.1.flatMap enc3)]) := by
 refine CallsM.fresh (Q := glitch_Passed_post r) Tryz.func12 rfl rfl ?_ (by rintro s Me ⟨q1, rfl, hx⟩ ha hw; exact ⟨_, rfl, New.of rfl hx ha hw⟩)
 rw [glitch_Passed] at h
 replace hs0 := hs0.mono (rdLe_frozen M) (fun _ _ => rep35_mo (rdLe_frozen M))
 replace hs1 := hs1.mono (rdLe_frozen M) (fun _ _ h => h)
 have hH := Has.nil (frozen M)
 refine Run.seq (Run.region ?_)
 refine Run.opG wantS_none (ex_assign rfl) rfl <| Run.opG wantS_none (ex_assign rfl) rfl ?_
 refine Run.opsEnd (Run.seq (Run.block (Run.seq (Run.region ?_))))
 refine Run.opG wantS_none (ex_move rfl) rfl ?_
 obtain ⟨r22, hr22, h⟩ := bnd_some h
 refine Run.callP wantS_none (ex_call rfl mkk38 cal38) rfl (glitch_areVetoes_ok F a0 s0 _ _ ((hs0).mono hH.le (fun _ _ => rep35_mo hH.le)) hr22) <| Run.opG wantS_none (ex_not rfl) rfl <| Run.opG wantS_none (ex_assign rfl) rfl <| Run.opsEnd ?_
 rcases btf ((!r22)) with hc24 | hc24
 ·have h := bif_t hc24 h
  refine Run.condT' rfl hc24 ?_
  refine Run.seq (Run.region ?_)
  refine Run.opG wantS_none (ex_assign rfl) rfl <| Run.opG wantS_none (ex_assign rfl) rfl <| Run.opsEnd ?_
  have hH26 : Has (ro (frozen M)) (frozen M) [.vec 3 1 ([] : List Int).length .nils (([] : List Int).flatMap enc3)] := hH.nils 3 1
  cases h
  exact Run.ret Tryz.func12 rfl (res_tmp rfl (res_tmp rfl res_nil)) ⟨_, rfl, (hH26.pick [0] rfl rfl).upF (none_le _)⟩
 ·have h := bif_f hc24 h
  refine Run.condF' rfl hc24 ?_
  refine Run.seq (Run.region ?_)
  refine Run.opG wantS_none (ex_move rfl) rfl ?_
  obtain ⟨r28, hr28, h⟩ := bnd_some h
  refine Run.callP wantS_none (ex_call rfl mkk39 cal39) rfl (glitch_areTimes_ok F a1 s1 _ _ (hH.slcF hs1) hr28) <| Run.opG wantS_none (ex_not rfl) rfl <| Run.opG wantS_none (ex_assign rfl) rfl <| Run.opsEnd ?_
  rcases btf ((!r28)) with hc30 | hc30
  ·have h := bif_t hc30 h
   refine Run.condT' rfl hc30 ?_
   refine Run.seq (Run.region ?_)
   refine Run.opG wantS_none (ex_assign rfl) rfl <| Run.opG wantS_none (ex_assign rfl) rfl <| Run.opsEnd ?_
   have hH32 : Has (ro (frozen M)) (frozen M) [.vec 3 1 ([] : List Int).length .nils (([] : List Int).flatMap enc3)] := hH.nils 3 1
   cases h
   exact Run.ret Tryz.func12 rfl (res_tmp rfl (res_tmp rfl res_nil)) ⟨_, rfl, (hH32.pick [0] rfl rfl).upF (none_le _)⟩
  ·have h := bif_f hc30 h
   refine Run.condF' rfl hc30 ?_
   refine Run.skip (Run.inBlock (Run.seq (Run.region ?_)))
   refine Run.opG wantS_none (ex_move rfl) rfl <| Run.opG wantS_none (ex_move rfl) rfl ?_
   obtain ⟨r35, hr35, h⟩ := bnd_some h
   refine Run.callX wantS_none (ex_call rfl mkk40 cal40) rfl (glitch_passed_ok F a0 a1 s0 s1 _ _ ((hs0).mono hH.le (fun _ _ => rep35_mo hH.le)) (hH.slcF hs1) hr35) ?_
   rintro s35_0 M37 ⟨_, rfl, hN35⟩
   have hH37 : Has (ro (frozen M)) M37 [.vec 3 1 r35.length s35_0 (r35.flatMap enc3)] := hN35.1 _ _ hH
   refine Run.opG wantS_none (ex_assign rfl) rfl <| Run.opG wantS_none (ex_assign rfl) rfl <| Run.opsEnd ?_
   cases h
   exact Run.ret Tryz.func12 rfl (res_tmp rfl (res_tmp rfl res_nil)) ⟨_, rfl, (hH37.pick [0] rfl rfl).upF (none_le _)⟩

theorem mkk12 : makeK Tryz.prog 12 = none := by kernel_rfl
theorem cal12 : callable Tryz.prog 12 = true := by kernel_rfl
theorem plan46_1_0_1_0_0_1_0_0_0 : planOf Tryz.prog (opsC (atC Tryz.prog 46 [1, 0, 1, 0, 0, 1, 0, 0, 0])) = some [.fl 0, .fl 1, .fl 2, .fl 3, .an 4 [], .fl 5, .fl 6, .fl 7, .fl 8, .fl 9, .fl 10, .fl 11, .fl 12, .fl 13, .fl 14, .fl 15, .fl 16, .fl 17, .fl 18, .fl 19, .fl 20, .fl 21, .sync] := by kernel_rfl
abbrev ref06_times_post (r : Bool) : SV → Mem → Prop := fun s _ => s = (.bool r)

def ref06_times_2 (F : Nat) (hd1 : (List Int) → Int → Option (Bool)) (v0 : (List Int)) (v3 : Int) (v31 : Bool) : Option (Bool) :=
 bif v31 then
  some false
 else
  hd1 v0 (w64 (v3 + (1 : Int)))

theorem ref06_times_2_ok (F : Nat) (hd1 : (List Int) → Int → Option (Bool)) (hhd1 : ∀ (v0 : (List Int)) (v3 : Int) (sv0 : SV) (Fr : Rd) (M : Mem) (r : Bool) (hv0 : Slc Fr 1 (FlatR enc3) sv0 v0) (hH : Has Fr M []), hd1 v0 v3 = some r → Run Tryz.prog ⟨⟨46, [], none⟩, []⟩ 35 (ref06_times_post r) [(0, sv0), (3, (.int .i64 v3))] [codeC Tryz.prog 46 [1, 0, 1, 0, 0], loopC Tryz.prog 46 [1, 0, 1, 0, 0], .inBlock 0, codeC Tryz.prog 46 [1, 1]] M) : ∀ (v0 : (List Int)) (v3 : Int) (v31 : Bool) (sv0 : SV) (Fr : Rd) (M : Mem) (r : Bool) (hv0 : Slc Fr 1 (FlatR enc3) sv0 v0) (hH : Has Fr M []), ref06_times_2 F hd1 v0 v3 v31 = some r → Run Tryz.prog ⟨⟨46, [], none⟩, []⟩ 35 (ref06_times_post r) [(0, sv0), (3, (.int .i64 v3)), (31, (.bool v31))] [codeC Tryz.prog 46 [1, 0, 1, 0, 0, 1, 0, 0, 1], .inBlock 1, codeC Tryz.prog 46 [1, 0, 1, 0, 0, 1, 1], loopC Tryz.prog 46 [1, 0, 1, 0, 0], .inBlock 0, codeC Tryz.prog 46 [1, 1]] M := by
 intro v0 v3 v31 sv0 Fr M r hv0 hH h
 rw [ref06_times_2] at h
 rcases btf (v31) with hc26 | hc26
 ·have h := bif_t hc26 h
  refine Run.condT' rfl hc26 ?_
  refine Run.seq (Run.region ?_)
  refine Run.opG wantS_none (ex_assign rfl) rfl <| Run.opsEnd ?_
  cases h
  exact Run.ret Tryz.func46 rfl (res_tmp rfl res_nil) rfl
 ·have h := bif_f hc26 h
  refine Run.condF' rfl hc26 ?_
  refine Run.skip (Run.inBlock (Run.region ?_))
  refine Run.opG wantS_none (ex_move rfl) rfl <| Run.opG wantS_none (ex_add rfl rfl) rfl <| Run.opG wantS_none (ex_assign rfl) rfl ?_
  refine Run.opsEnd (Run.inLoop ?_)
  exact Run.pick [0, 3] (hhd1 v0 (w64 (v3 + (1 : Int))) sv0 _ _ _ hv0 hH h)

def ref06_times_1 (F : Nat) : Nat → (List Int) → Int → Option (Bool)
 | 0, _, _ => none
 | N + 1, v0, v3 =>
  bif (decide (v3 < (v0.length : Int))) then
   bnd (idx v0 v3) fun x22 =>
   bnd (ref00_In F x22 (0 : Int) (1073741824 : Int)) fun r23 =>
   bif (!r23) then
    ref06_times_2 F (ref06_times_1 F N) v0 v3 true
   else
    bif (decide ((0 : Int) < v3)) then
     bnd (idx v0 (w64 (v3 - (1 : Int)))) fun x28 =>
     bnd (idx v0 v3) fun x29 =>
     ref06_times_2 F (ref06_times_1 F N) v0 v3 (decide (x29 ≤ x28))
    else
     ref06_times_2 F (ref06_times_1 F N) v0 v3 false
  else
   some (decide ((v0.length : Int) ≤ (256 : Int)))

theorem ref06_times_1_ok (F : Nat) : ∀ (N : Nat), ∀ (v0 : (List Int)) (v3 : Int) (sv0 : SV) (Fr : Rd) (M : Mem) (r : Bool) (hv0 : Slc Fr 1 (FlatR enc3) sv0 v0) (hH : Has Fr M []), ref06_times_1 F N v0 v3 = some r → Run Tryz.prog ⟨⟨46, [], none⟩, []⟩ 35 (ref06_times_post r) [(0, sv0), (3, (.int .i64 v3))] [codeC Tryz.prog 46 [1, 0, 1, 0, 0], loopC Tryz.prog 46 [1, 0, 1, 0, 0], .inBlock 0, codeC Tryz.prog 46 [1, 1]] M := by
 intro N
 induction N with
 | zero =>
  intro v0 v3 sv0 Fr M r hv0 hH h
  simp [ref06_times_1] at h
 | succ N ih =>
  intro v0 v3 sv0 Fr M r hv0 hH h
  rw [ref06_times_1] at h
  refine Run.seq (Run.seq (Run.region ?_))
  refine Run.opG wantS_none (ex_move rfl) rfl <| Run.opG wantS_none (ex_move rfl) rfl <| Run.opG wantS_none (ex_len' rfl hv0 lenk28) rfl <| Run.opG wantS_none (ex_lss rfl rfl) rfl <| Run.opsEnd ?_
  rcases btf ((decide (v3 < (v0.length : Int)))) with hc21 | hc21
  ·have h := bif_t hc21 h
   refine Run.condT' rfl hc21 ?_
   refine Run.skip (Run.seq (Run.block (Run.seq ?_)))
   refine Run.drawG plan46_1_0_1_0_0_1_0_0_0 <| DrawG.fl rfl (ev_ex wantS_none (ex_move rfl)) rfl <| DrawG.fl rfl (ev_ex wantS_none (ex_move rfl)) rfl ?_
   obtain ⟨x22, hx22, h⟩ := bnd_some h
   obtain ⟨p22, o22, _, hx22, hp22, rfl⟩ := sl_elem (P := Tryz.prog) (t := 28) (kk := .i64) hv0 hx22 els28
   refine DrawG.fl rfl (ev_ex wantS_none (ex_elX rfl rfl hx22)) rfl <| DrawG.fl rfl (ev_ex wantS_none (ex_load1 rfl (hH.ptrF hp22) rdLe_rfl agg3)) rfl ?_
   obtain ⟨r23, hr23, h⟩ := bnd_some h
   refine DrawG.callP rfl wantS_none (ex_call rfl mkk21 cal21) rfl (ref00_In_ok F x22 (0 : Int) (1073741824 : Int) _ _ hr23) st_nil <| DrawG.fl rfl (ev_ex wantS_none (ex_not rfl)) rfl <| DrawG.fl rfl (ev_ex wantS_none (ex_move rfl)) rfl ?_
   rcases btf ((!r23)) with hc25 | hc25
   ·have h := bif_t hc25 h
    refine DrawG.fl rfl (ev_no (wantS_not' rfl rfl hc25)) rfl <| DrawG.fl rfl (ev_no (wantS_not' rfl rfl hc25)) rfl <| DrawG.fl rfl (ev_no (wantS_not' rfl rfl hc25)) rfl <| DrawG.fl rfl (ev_no (wantS_skip rfl rfl)) rfl <| DrawG.fl rfl (ev_no (wantS_skip rfl rfl)) rfl <| DrawG.fl rfl (ev_no (wantS_skip rfl rfl)) rfl <| DrawG.fl rfl (ev_no (wantS_skip rfl rfl)) rfl <| DrawG.fl rfl (ev_no (wantS_skip rfl rfl)) rfl <| DrawG.fl rfl (ev_no (wantS_skip rfl rfl)) rfl <| DrawG.fl rfl (ev_no (wantS_skip rfl rfl)) rfl <| DrawG.fl rfl (ev_no (wantS_skip rfl rfl)) rfl <| DrawG.fl rfl (ev_no (wantS_skip rfl rfl)) rfl <| DrawG.fl rfl (ev_no (wantS_skip rfl rfl)) rfl <| DrawG.fl rfl (ev_no (wantS_not' rfl rfl hc25)) rfl <| DrawG.fl rfl (ev_ex wantS_none (ex_pickT' rfl hc25 rfl rfl)) rfl <| DrawG.sync <| DrawG.nil ?_
    exact Run.pick [0, 3, 31] (ref06_times_2_ok F (ref06_times_1 F N) ih v0 v3 true sv0 _ _ _ hv0 hH h)
   ·have h := bif_f hc25 h
    refine DrawG.fl rfl (ev_ex (wantS_yes' rfl rfl hc25) (ex_move rfl)) rfl <| DrawG.fl rfl (ev_ex (wantS_yes' rfl rfl hc25) (ex_gtr rfl rfl)) rfl <| DrawG.fl rfl (ev_ex (wantS_yes' rfl rfl hc25) (ex_move rfl)) rfl ?_
    rcases btf ((decide ((0 : Int) < v3))) with hc27 | hc27
    ·have h := bif_t hc27 h
     refine DrawG.fl rfl (ev_ex (wantS_yes' rfl rfl hc27) (ex_move rfl)) rfl <| DrawG.fl rfl (ev_ex (wantS_yes' rfl rfl hc27) (ex_move rfl)) rfl <| DrawG.fl rfl (ev_ex (wantS_yes' rfl rfl hc27) (ex_sub rfl rfl)) rfl ?_
     obtain ⟨x28, hx28, h⟩ := bnd_some h
     obtain ⟨p28, o28, _, hx28, hp28, rfl⟩ := sl_elem (P := Tryz.prog) (t := 28) (kk := .i64) hv0 hx28 els28
     refine DrawG.fl rfl (ev_ex (wantS_yes' rfl rfl hc27) (ex_elX rfl rfl hx28)) rfl <| DrawG.fl rfl (ev_ex (wantS_yes' rfl rfl hc27) (ex_load1 rfl (hH.ptrF hp28) rdLe_rfl agg3)) rfl <| DrawG.fl rfl (ev_ex (wantS_yes' rfl rfl hc27) (ex_move rfl)) rfl <| DrawG.fl rfl (ev_ex (wantS_yes' rfl rfl hc27) (ex_move rfl)) rfl ?_
     obtain ⟨x29, hx29, h⟩ := bnd_some h
     obtain ⟨p29, o29, _, hx29, hp29, rfl⟩ := sl_elem (P := Tryz.prog) (t := 28) (kk := .i64) hv0 hx29 els28
     refine DrawG.fl rfl (ev_ex (wantS_yes' rfl rfl hc27) (ex_elX rfl rfl hx29)) rfl <| DrawG.fl rfl (ev_ex (wantS_yes' rfl rfl hc27) (ex_load1 rfl (hH.ptrF hp29) rdLe_rfl agg3)) rfl <| DrawG.fl rfl (ev_ex (wantS_yes' rfl rfl hc27) (ex_geq rfl rfl)) rfl <| DrawG.fl rfl (ev_ex (wantS_yes' rfl rfl hc25) (ex_pickT' rfl hc27 rfl rfl)) rfl <| DrawG.fl rfl (ev_ex wantS_none (ex_pickF' rfl hc25 rfl rfl)) rfl <| DrawG.sync <| DrawG.nil ?_
     exact Run.pick [0, 3, 31] (ref06_times_2_ok F (ref06_times_1 F N) ih v0 v3 (decide (x29 ≤ x28)) sv0 _ _ _ hv0 hH h)
    ·have h := bif_f hc27 h
     refine DrawG.fl rfl (ev_no (wantS_not' rfl rfl hc27)) rfl <| DrawG.fl rfl (ev_no (wantS_not' rfl rfl hc27)) rfl <| DrawG.fl rfl (ev_no (wantS_not' rfl rfl hc27)) rfl <| DrawG.fl rfl (ev_no (wantS_not' rfl rfl hc27)) rfl <| DrawG.fl rfl (ev_no (wantS_not' rfl rfl hc27)) rfl <| DrawG.fl rfl (ev_no (wantS_not' rfl rfl hc27)) rfl <| DrawG.fl rfl (ev_no (wantS_not' rfl rfl hc27)) rfl <| DrawG.fl rfl (ev_no (wantS_not' rfl rfl hc27)) rfl <| DrawG.fl rfl (ev_no (wantS_not' rfl rfl hc27)) rfl <| DrawG.fl rfl (ev_no (wantS_not' rfl rfl hc27)) rfl <| DrawG.fl rfl (ev_ex (wantS_yes' rfl rfl hc25) (ex_pickF' rfl hc27 rfl rfl)) rfl <| DrawG.fl rfl (ev_ex wantS_none (ex_pickF' rfl hc25 rfl rfl)) rfl <| DrawG.sync <| DrawG.nil ?_
     exact Run.pick [0, 3, 31] (ref06_times_2_ok F (ref06_times_1 F N) ih v0 v3 false sv0 _ _ _ hv0 hH h)
  ·have h := bif_f hc21 h
   refine Run.condF' rfl hc21 ?_
   refine Run.exit rfl (Run.seq (Run.region ?_))
   refine Run.opG wantS_none (ex_move rfl) rfl <| Run.opG wantS_none (ex_len' rfl hv0 lenk28) rfl <| Run.opG wantS_none (ex_leq rfl rfl) rfl <| Run.opG wantS_none (ex_assign rfl) rfl <| Run.opsEnd ?_
   cases h
   exact Run.ret Tryz.func46 rfl (res_tmp rfl res_nil) rfl

def ref06_times (F : Nat) (a0 : (List Int)) : Option (Bool) :=
 ref06_times_1 F F a0 (0 : Int)

theorem ref06_times_ok (F : Nat) (a0 : (List Int)) (s0 : SV) (r : Bool) (M : Mem) (hs0 : Slc (rd M) 1 (FlatR enc3) s0 a0) (h : ref06_times F a0 = some r) : CallsM Tryz.prog 46 [s0] M (fun s M' => s = (.bool r) ∧ M' = M) := by
 refine CallsM.plain Tryz.func46 rfl rfl rfl (show Run _ _ _ (ref06_times_post r) _ _ _ from ?_)
 rw [ref06_times] at h
 replace hs0 := hs0.mono (rdLe_frozen M) (fun _ _ h => h)
 have hH := Has.nil (frozen M)
 refine Run.seq (Run.region ?_)
 refine Run.opG wantS_none (ex_assign rfl) rfl ?_
 refine Run.opsEnd (Run.seq (Run.seq (Run.region ?_)))
 refine Run.opG wantS_none (ex_assign rfl) rfl ?_
 refine Run.opsEnd (Run.block (Run.loop ?_))
 exact Run.pick [0, 3] (ref06_times_1_ok F F a0 (0 : Int) s0 _ _ _ hs0 hH h)

theorem mkk46 : makeK Tryz.prog 46 = none := by kernel_rfl
theorem cal46 : callable Tryz.prog 46 = true := by kernel_rfl
abbrev ref00_OwnInts_post (r : (List Int)) : SV → Mem → Prop := fun s Me => ∃ q1, s = q1 ∧ Has (fun _ => none) Me [.vec 3 1 r.length q1 (r.flatMap enc3)]

def ref00_OwnInts (F : Nat) (a0 : (List Int)) : Option ((List Int)) :=
 bnd (apd 8 ([] : List Int) a0) fun l24 =>
 some l24

theorem ref00_OwnInts_ok (F : Nat) (a0 : (List Int)) (s0 : SV) (r : (List Int)) (M : Mem) (hs0 : Slc (rd M) 1 (FlatR enc3) s0 a0) (h : ref00_OwnInts F a0 = some r) : CallsM Tryz.prog 47 [s0] M (fun s M' => ∃ q1, s = q1 ∧ New M M' [.vec 3 1 r.length q1 (r.flatMap enc3)]) := by
 refine CallsM.fresh (Q := ref00_OwnInts_post r) Tryz.func47 rfl rfl ?_ (by rintro s Me ⟨q1, rfl, hx⟩ ha hw; exact ⟨_, rfl, New.of rfl hx ha hw⟩)
 rw [ref00_OwnInts] at h
 replace hs0 := hs0.mono (rdLe_frozen M) (fun _ _ h => h)
 have hH := Has.nil (frozen M)
 refine Run.seq (Run.region ?_)
 refine Run.opG wantS_none (ex_assign rfl) rfl ?_
 refine Run.opsEnd (Run.seq (Run.region ?_))
 refine Run.opG wantS_none (ex_assign rfl) rfl ?_
 refine Run.opsEnd (Run.seq (Run.region ?_))
 refine Run.opG wantS_none (ex_move rfl) rfl <| Run.opG wantS_none (ex_move rfl) rfl ?_
 obtain ⟨l24, hl24, h⟩ := bnd_some h
 have hH27 : Has (ro (frozen M)) (frozen M) [.vec 3 1 ([] : List Int).length .nils (([] : List Int).flatMap enc3)] := hH.nils 3 1
 refine Run.opX wantS_none rfl (ExG.append rfl rfl hH27 (i := 0) rfl enc3_len rfl enc3_ones appt28_28 rfl (len_slc hs0) (first_slc hs0 (rdLe_roF hH27) enc3_len) hl24) ?_
 rintro s24 M28 (hH28 : Has (ro (frozen M)) M28 [.vec 3 1 l24.length s24 (l24.flatMap enc3)])
 refine Run.opG wantS_none (ex_assign rfl) rfl <| Run.opsEnd ?_
 cases h
 exact Run.ret Tryz.func47 rfl (res_tmp rfl res_nil) ⟨_, rfl, (hH28.pick [0] rfl rfl).upF (none_le _)⟩

theorem mkk47 : makeK Tryz.prog 47 = none := by kernel_rfl
theorem cal47 : callable Tryz.prog 47 = true := by kernel_rfl
abbrev ref06_holds_post (r : Bool) : SV → Mem → Prop := fun s _ => s = (.bool r)

def ref06_holds_2 (F : Nat) (hd1 : Int → Int → (List UInt8) → (List S_api_Segment) → Option (Bool)) (v1 v5 : Int) (v30 : Bool) (c22_0 : (List UInt8)) (c22_1 : (List S_api_Segment)) : Option (Bool) :=
 bif v30 then
  some true
 else
  hd1 v1 (w64 (v5 + (1 : Int))) c22_0 c22_1

theorem ref06_holds_2_ok (F : Nat) (hd1 : Int → Int → (List UInt8) → (List S_api_Segment) → Option (Bool)) (hhd1 : ∀ (v1 v5 : Int) (c22_0 : (List UInt8)) (c22_1 : (List S_api_Segment)) (sc22_1 : SV) (b22 : Pos) (Fr : Rd) (M : Mem) (r : Bool) (hc22_1 : Slc Fr 2 (FlatR enc37) sc22_1 c22_1) (hH : Has Fr M [.obj b22 (.row 35 .whole [(.str c22_0), sc22_1])]), hd1 v1 v5 c22_0 c22_1 = some r → Run Tryz.prog ⟨⟨88, [], none⟩, []⟩ 31 (ref06_holds_post r) [(1, (.int .i64 v1)), (2, (.ptr b22 0)), (5, (.int .i64 v5))] [codeC Tryz.prog 88 [1, 0, 1, 0, 0], loopC Tryz.prog 88 [1, 0, 1, 0, 0], .inBlock 0, codeC Tryz.prog 88 [1, 1]] M) : ∀ (v1 v5 : Int) (v30 : Bool) (c22_0 : (List UInt8)) (c22_1 : (List S_api_Segment)) (sc22_1 : SV) (b22 : Pos) (Fr : Rd) (M : Mem) (r : Bool) (hc22_1 : Slc Fr 2 (FlatR enc37) sc22_1 c22_1) (hH : Has Fr M [.obj b22 (.row 35 .whole [(.str c22_0), sc22_1])]), ref06_holds_2 F hd1 v1 v5 v30 c22_0 c22_1 = some r → Run Tryz.prog ⟨⟨88, [], none⟩, []⟩ 31 (ref06_holds_post r) [(1, (.int .i64 v1)), (2, (.ptr b22 0)), (5, (.int .i64 v5)), (30, (.bool v30))] [codeC Tryz.prog 88 [1, 0, 1, 0, 0, 1, 0, 0, 1], .inBlock 1, codeC Tryz.prog 88 [1, 0, 1, 0, 0, 1, 1], loopC Tryz.prog 88 [1, 0, 1, 0, 0], .inBlock 0, codeC Tryz.prog 88 [1, 1]] M := by
 intro v1 v5 v30 c22_0 c22_1 sc22_1 b22 Fr M r hc22_1 hH h
 rw [ref06_holds_2] at h
 rcases btf (v30) with hc34 | hc34
 ·have h := bif_t hc34 h
  refine Run.condT' rfl hc34 ?_
  refine Run.seq (Run.region ?_)
  refine Run.opG wantS_none (ex_assign rfl) rfl <| Run.opsEnd ?_
  cases h
  exact Run.ret Tryz.func88 rfl (res_tmp rfl res_nil) rfl
 ·have h := bif_f hc34 h
  refine Run.condF' rfl hc34 ?_
  refine Run.skip (Run.inBlock (Run.region ?_))
  refine Run.opG wantS_none (ex_move rfl) rfl <| Run.opG wantS_none (ex_add rfl rfl) rfl <| Run.opG wantS_none (ex_assign rfl) rfl ?_
  refine Run.opsEnd (Run.inLoop ?_)
  exact Run.pick [1, 2, 5] (hhd1 v1 (w64 (v5 + (1 : Int))) c22_0 c22_1 sc22_1 b22 _ _ _ hc22_1 hH h)

def ref06_holds_1 (F : Nat) : Nat → Int → Int → (List UInt8) → (List S_api_Segment) → Option (Bool)
 | 0, _, _, _, _ => none
 | N + 1, v1, v5, c22_0, c22_1 =>
  bif (decide (v5 < (c22_1.length : Int))) then
   bnd (idx c22_1 v5) fun x26 =>
   bif (decide (x26.From ≤ v1)) then
    bnd (idx c22_1 v5) fun x31 =>
    ref06_holds_2 F (ref06_holds_1 F N) v1 v5 (decide (v1 < x31.To)) c22_0 c22_1
   else
    ref06_holds_2 F (ref06_holds_1 F N) v1 v5 false c22_0 c22_1
  else
   some false

theorem ref06_holds_1_ok (F : Nat) : ∀ (N : Nat), ∀ (v1 v5 : Int) (c22_0 : (List UInt8)) (c22_1 : (List S_api_Segment)) (sc22_1 : SV) (b22 : Pos) (Fr : Rd) (M : Mem) (r : Bool) (hc22_1 : Slc Fr 2 (FlatR enc37) sc22_1 c22_1) (hH : Has Fr M [.obj b22 (.row 35 .whole [(.str c22_0), sc22_1])]), ref06_holds_1 F N v1 v5 c22_0 c22_1 = some r → Run Tryz.prog ⟨⟨88, [], none⟩, []⟩ 31 (ref06_holds_post r) [(1, (.int .i64 v1)), (2, (.ptr b22 0)), (5, (.int .i64 v5))] [codeC Tryz.prog 88 [1, 0, 1, 0, 0], loopC Tryz.prog 88 [1, 0, 1, 0, 0], .inBlock 0, codeC Tryz.prog 88 [1, 1]] M := by
 intro N
 induction N with
 | zero =>
  intro v1 v5 c22_0 c22_1 sc22_1 b22 Fr M r hc22_1 hH h
  simp [ref06_holds_1] at h
 | succ N ih =>
  intro v1 v5 c22_0 c22_1 sc22_1 b22 Fr M r hc22_1 hH h
  rw [ref06_holds_1] at h
  refine Run.seq (Run.seq (Run.region ?_))
  refine Run.opG wantS_none (ex_move rfl) rfl <| Run.opG wantS_none (ex_fieldAddr rfl off35_1) rfl <| Run.opG wantS_none (ex_load1 rfl (hH.cells (i := 0) rfl 1 rfl) rdLe_rfl agg31) rfl <| Run.opG wantS_none (ex_len' rfl hc22_1 lenk31) rfl <| Run.opG wantS_none (ex_lss rfl rfl) rfl <| Run.opsEnd ?_
  rcases btf ((decide (v5 < (c22_1.length : Int)))) with hc24 | hc24
  ·have h := bif_t hc24 h
   refine Run.condT' rfl hc24 ?_
   refine Run.skip (Run.seq (Run.block (Run.seq (Run.region ?_))))
   refine Run.opG wantS_none (ex_fieldAddr rfl off35_1) rfl <| Run.opG wantS_none (ex_load1 rfl (hH.cells (i := 0) rfl 1 rfl) rdLe_rfl agg31) rfl <| Run.opG wantS_none (ex_move rfl) rfl ?_
   obtain ⟨x26, hx26, h⟩ := bnd_some h
   obtain ⟨p26, o26, _, hx26, hp26, rfl⟩ := sl_elem (P := Tryz.prog) (t := 31) (kk := .i64) hc22_1 hx26 els31
   refine Run.opG wantS_none (ex_elX rfl rfl hx26) rfl ?_
   have hp28 := (hp26.fld (o := 0) rfl)
   refine Run.opG wantS_none (ex_fieldAddr rfl off37_0) rfl <| Run.opG wantS_none (ex_load1 rfl (hH.ptrF hp28) rdLe_rfl agg3) rfl <| Run.opG wantS_none (ex_move rfl) rfl <| Run.opG wantS_none (ex_leq rfl rfl) rfl <| Run.opG wantS_none (ex_move rfl) rfl ?_
   rcases btf ((decide (x26.From ≤ v1))) with hc29 | hc29
   ·have h := bif_t hc29 h
    refine Run.opG (wantS_yes' rfl rfl hc29) (ex_move rfl) rfl <| Run.opG (wantS_yes' rfl rfl hc29) (ex_fieldAddr rfl off35_1) rfl <| Run.opG (wantS_yes' rfl rfl hc29) (ex_load1 rfl (hH.cells (i := 0) rfl 1 rfl) rdLe_rfl agg31) rfl <| Run.opG (wantS_yes' rfl rfl hc29) (ex_move rfl) rfl ?_
    obtain ⟨x31, hx31, h⟩ := bnd_some h
    obtain ⟨p31, o31, _, hx31, hp31, rfl⟩ := sl_elem (P := Tryz.prog) (t := 31) (kk := .i64) hc22_1 hx31 els31
    refine Run.opG (wantS_yes' rfl rfl hc29) (ex_elX rfl rfl hx31) rfl ?_
    have hp33 := (hp31.fld (o := 1) rfl)
    refine Run.opG (wantS_yes' rfl rfl hc29) (ex_fieldAddr rfl off37_1) rfl <| Run.opG (wantS_yes' rfl rfl hc29) (ex_load1 rfl (hH.ptrF hp33) rdLe_rfl agg3) rfl <| Run.opG (wantS_yes' rfl rfl hc29) (ex_lss rfl rfl) rfl <| Run.opG wantS_none (ex_pickT' rfl hc29 rfl rfl) rfl <| Run.opsEnd ?_
    exact Run.pick [1, 2, 5, 30] (ref06_holds_2_ok F (ref06_holds_1 F N) ih v1 v5 (decide (v1 < x31.To)) c22_0 c22_1 sc22_1 b22 _ _ _ hc22_1 hH h)
   ·have h := bif_f hc29 h
    refine Run.no (wantS_not' rfl rfl hc29) rfl <| Run.no (wantS_not' rfl rfl hc29) rfl <| Run.no (wantS_not' rfl rfl hc29) rfl <| Run.no (wantS_not' rfl rfl hc29) rfl <| Run.no (wantS_not' rfl rfl hc29) rfl <| Run.no (wantS_not' rfl rfl hc29) rfl <| Run.no (wantS_not' rfl rfl hc29) rfl <| Run.no (wantS_not' rfl rfl hc29) rfl <| Run.opG wantS_none (ex_pickF' rfl hc29 rfl rfl) rfl <| Run.opsEnd ?_
    exact Run.pick [1, 2, 5, 30] (ref06_holds_2_ok F (ref06_holds_1 F N) ih v1 v5 false c22_0 c22_1 sc22_1 b22 _ _ _ hc22_1 hH h)
  ·have h := bif_f hc24 h
   refine Run.condF' rfl hc24 ?_
   refine Run.exit rfl (Run.seq (Run.region ?_))
   refine Run.opG wantS_none (ex_assign rfl) rfl <| Run.opsEnd ?_
   cases h
   exact Run.ret Tryz.func88 rfl (res_tmp rfl res_nil) rfl

def ref06_holds (F : Nat) (a0 : S_api_Veto) (a1 : Int) : Option (Bool) :=
 ref06_holds_1 F F a1 (0 : Int) a0.Name a0.Segments

theorem ref06_holds_ok (F : Nat) (a0 : S_api_Veto) (a1 : Int) (s0 : SV) (r : Bool) (M : Mem) (hs0 : Slc (rd M) 2 (FlatR enc37) s0 a0.Segments) (h : ref06_holds F a0 a1 = some r) : CallsM Tryz.prog 88 [(.agg [(.str a0.Name), s0]), (.int .i64 a1)] M (fun s M' => s = (.bool r) ∧ M' = M) := by
 refine CallsM.plain Tryz.func88 rfl rfl rfl (show Run _ _ _ (ref06_holds_post r) _ _ _ from ?_)
 rw [ref06_holds] at h
 replace hs0 := hs0.mono (rdLe_frozen M) (fun _ _ h => h)
 have hH := Has.nil (frozen M)
 refine Run.seq (Run.region ?_)
 refine Run.opX wantS_none rfl (ExG.box rfl rfl hH) ?_
 rintro _ M23 ⟨b22, rfl, hH23⟩
 refine Run.opG wantS_none (ex_assign rfl) rfl ?_
 refine Run.opsEnd (Run.seq (Run.seq (Run.region ?_)))
 refine Run.opG wantS_none (ex_assign rfl) rfl ?_
 refine Run.opsEnd (Run.block (Run.loop ?_))
 exact Run.pick [1, 2, 5] (ref06_holds_1_ok F F a1 (0 : Int) a0.Name a0.Segments s0 b22 _ _ _ hs0 hH23 h)

theorem mkk88 : makeK Tryz.prog 88 = none := by kernel_rfl
theorem cal88 : callable Tryz.prog 88 = true := by kernel_rfl
theorem plan48_1_1_0_1_0_0_1_0_0_0 : planOf Tryz.prog (opsC (atC Tryz.prog 48 [1, 1, 0, 1, 0, 0, 1, 0, 0, 0])) = some [.fl 0, .fl 1, .fl 2, .fl 3, .fl 4, .an 5 [], .fl 6, .sync] := by kernel_rfl
abbrev ref06_passed_post (r : (List Int)) : SV → Mem → Prop := fun s Me => ∃ q1, s = q1 ∧ Has (fun _ => none) Me [.vec 3 1 r.length q1 (r.flatMap enc3)]

def ref06_passed_2 (F : Nat) (hd1 : (List Int) → Int → (List UInt8) → (List S_api_Segment) → (List Int) → Option ((List Int))) (v1 : (List Int)) (v6 : Int) (c22_0 : (List UInt8)) (c22_1 : (List S_api_Segment)) (l39 : (List Int)) : Option ((List Int)) :=
 hd1 v1 (w64 (v6 + (1 : Int))) c22_0 c22_1 l39

theorem ref06_passed_2_ok (F : Nat) (hd1 : (List Int) → Int → (List UInt8) → (List S_api_Segment) → (List Int) → Option ((List Int))) (hhd1 : ∀ (v1 : (List Int)) (v6 : Int) (c22_0 : (List UInt8)) (c22_1 : (List S_api_Segment)) (l24 : (List Int)) (sv1 sc22_1 : SV) (b22 : Pos) (s24 : SV) (Fr : Rd) (M : Mem) (r : (List Int)) (hv1 : Slc Fr 1 (FlatR enc3) sv1 v1) (hc22_1 : Slc Fr 2 (FlatR enc37) sc22_1 c22_1) (hH : Has Fr M [.obj b22 (.row 35 .whole [(.str c22_0), sc22_1]), .vec 3 1 l24.length s24 (l24.flatMap enc3)]), hd1 v1 v6 c22_0 c22_1 l24 = some r → Run Tryz.prog ⟨⟨48, [], none⟩, []⟩ 28 (ref06_passed_post r) [(1, sv1), (2, (.ptr b22 0)), (5, s24), (6, (.int .i64 v6))] [codeC Tryz.prog 48 [1, 1, 0, 1, 0, 0], loopC Tryz.prog 48 [1, 1, 0, 1, 0, 0], .inBlock 0, codeC Tryz.prog 48 [1, 1, 1]] M) : ∀ (v1 : (List Int)) (v6 : Int) (c22_0 : (List UInt8)) (c22_1 : (List S_api_Segment)) (l39 : (List Int)) (sv1 sc22_1 : SV) (b22 : Pos) (s39 : SV) (Fr : Rd) (M : Mem) (r : (List Int)) (hv1 : Slc Fr 1 (FlatR enc3) sv1 v1) (hc22_1 : Slc Fr 2 (FlatR enc37) sc22_1 c22_1) (hH : Has Fr M [.obj b22 (.row 35 .whole [(.str c22_0), sc22_1]), .vec 3 1 l39.length s39 (l39.flatMap enc3)]), ref06_passed_2 F hd1 v1 v6 c22_0 c22_1 l39 = some r → Run Tryz.prog ⟨⟨48, [], none⟩, []⟩ 28 (ref06_passed_post r) [(1, sv1), (2, (.ptr b22 0)), (5, s39), (6, (.int .i64 v6))] [itemC Tryz.prog 48 [1, 1, 0, 1, 0, 0, 1, 1] 0, loopC Tryz.prog 48 [1, 1, 0, 1, 0, 0], .inBlock 0, codeC Tryz.prog 48 [1, 1, 1]] M := by
 intro v1 v6 c22_0 c22_1 l39 sv1 sc22_1 b22 s39 Fr M r hv1 hc22_1 hH h
 rw [ref06_passed_2] at h
 refine Run.opG wantS_none (ex_move rfl) rfl <| Run.opG wantS_none (ex_add rfl rfl) rfl <| Run.opG wantS_none (ex_assign rfl) rfl ?_
 refine Run.opsEnd (Run.inLoop ?_)
 exact Run.pick [1, 2, 5, 6] (hhd1 v1 (w64 (v6 + (1 : Int))) c22_0 c22_1 l39 sv1 sc22_1 b22 s39 _ _ _ hv1 hc22_1 hH h)

def ref06_passed_1 (F : Nat) : Nat → (List Int) → Int → (List UInt8) → (List S_api_Segment) → (List Int) → Option ((List Int))
 | 0, _, _, _, _, _ => none
 | N + 1, v1, v6, c22_0, c22_1, l24 =>
  bif (decide (v6 < (v1.length : Int))) then
   bnd (idx v1 v6) fun x27 =>
   bnd (ref06_holds F (S_api_Veto.mk c22_0 c22_1) x27) fun r28 =>
   bif (!r28) then
    bnd (idx v1 v6) fun x32 =>
    bnd (apd 8 l24 ([x32] : List Int)) fun l38 =>
    ref06_passed_2 F (ref06_passed_1 F N) v1 v6 c22_0 c22_1 l38
   else
    ref06_passed_2 F (ref06_passed_1 F N) v1 v6 c22_0 c22_1 l24
  else
   some l24

theorem ref06_passed_1_ok (F : Nat) : ∀ (N : Nat), ∀ (v1 : (List Int)) (v6 : Int) (c22_0 : (List UInt8)) (c22_1 : (List S_api_Segment)) (l24 : (List Int)) (sv1 sc22_1 : SV) (b22 : Pos) (s24 : SV) (Fr : Rd) (M : Mem) (r : (List Int)) (hv1 : Slc Fr 1 (FlatR enc3) sv1 v1) (hc22_1 : Slc Fr 2 (FlatR enc37) sc22_1 c22_1) (hH : Has Fr M [.obj b22 (.row 35 .whole [(.str c22_0), sc22_1]), .vec 3 1 l24.length s24 (l24.flatMap enc3)]), ref06_passed_1 F N v1 v6 c22_0 c22_1 l24 = some r → Run Tryz.prog ⟨⟨48, [], none⟩, []⟩ 28 (ref06_passed_post r) [(1, sv1), (2, (.ptr b22 0)), (5, s24), (6, (.int .i64 v6))] [codeC Tryz.prog 48 [1, 1, 0, 1, 0, 0], loopC Tryz.prog 48 [1, 1, 0, 1, 0, 0], .inBlock 0, codeC Tryz.prog 48 [1, 1, 1]] M := by
 intro N
 induction N with
 | zero =>
  intro v1 v6 c22_0 c22_1 l24 sv1 sc22_1 b22 s24 Fr M r hv1 hc22_1 hH h
  simp [ref06_passed_1] at h
 | succ N ih =>
  intro v1 v6 c22_0 c22_1 l24 sv1 sc22_1 b22 s24 Fr M r hv1 hc22_1 hH h
  rw [ref06_passed_1] at h
  refine Run.seq (Run.seq (Run.region ?_))
  refine Run.opG wantS_none (ex_move rfl) rfl <| Run.opG wantS_none (ex_move rfl) rfl <| Run.opG wantS_none (ex_len' rfl hv1 lenk28) rfl <| Run.opG wantS_none (ex_lss rfl rfl) rfl <| Run.opsEnd ?_
  rcases btf ((decide (v6 < (v1.length : Int)))) with hc26 | hc26
  ·have h := bif_t hc26 h
   refine Run.condT' rfl hc26 ?_
   refine Run.skip (Run.seq (Run.block (Run.seq ?_)))
   refine Run.drawG plan48_1_1_0_1_0_0_1_0_0_0 <| DrawG.fl rfl (ev_ex wantS_none (ex_loadA rfl (hH.cells (i := 0) rfl 0 rfl) rdLe_rfl agg35 rfl rfl rfl)) rfl <| DrawG.fl rfl (ev_ex wantS_none (ex_move rfl)) rfl <| DrawG.fl rfl (ev_ex wantS_none (ex_move rfl)) rfl ?_
   obtain ⟨x27, hx27, h⟩ := bnd_some h
   obtain ⟨p27, o27, _, hx27, hp27, rfl⟩ := sl_elem (P := Tryz.prog) (t := 28) (kk := .i64) hv1 hx27 els28
   refine DrawG.fl rfl (ev_ex wantS_none (ex_elX rfl rfl hx27)) rfl <| DrawG.fl rfl (ev_ex wantS_none (ex_load1 rfl (hH.ptrF hp27) rdLe_rfl agg3)) rfl ?_
   obtain ⟨r28, hr28, h⟩ := bnd_some h
   refine DrawG.callP rfl wantS_none (ex_call rfl mkk88 cal88) rfl (ref06_holds_ok F (S_api_Veto.mk c22_0 c22_1) x27 sc22_1 _ _ (hH.slcF hc22_1) hr28) st_nil <| DrawG.fl rfl (ev_ex wantS_none (ex_not rfl)) rfl <| DrawG.sync <| DrawG.nil ?_
   rcases btf ((!r28)) with hc30 | hc30
   ·have h := bif_t hc30 h
    refine Run.condT' rfl hc30 <| Run.region <| Run.opG wantS_none (ex_move rfl) rfl <| Run.opG wantS_none (ex_move rfl) rfl <| Run.opG wantS_none (ex_move rfl) rfl ?_
    obtain ⟨x32, hx32, h⟩ := bnd_some h
    obtain ⟨p32, o32, _, hx32, hp32, rfl⟩ := sl_elem (P := Tryz.prog) (t := 28) (kk := .i64) hv1 hx32 els28
    refine Run.opG wantS_none (ex_elX rfl rfl hx32) rfl <| Run.opG wantS_none (ex_load1 rfl (hH.ptrF hp32) rdLe_rfl agg3) rfl <| Run.opX wantS_none rfl (ExG.built (enc := enc3) (l := ([x32] : List Int)) (z := 1) rfl elt28 rfl rfl rfl enc3_len hH) ?_
    rintro s34 M35 (hH35 : Has Fr M35 [.vec 3 1 ([x32] : List Int).length s34 (([x32] : List Int).flatMap enc3), .obj b22 (.row 35 .whole [(.str c22_0), sc22_1]), .vec 3 1 l24.length s24 (l24.flatMap enc3)])
    obtain ⟨l38, hl38, h⟩ := bnd_some h
    refine Run.opX wantS_none rfl (ExG.append rfl rfl hH35 (i := 2) rfl enc3_len rfl enc3_ones appt28_28 rfl (len_slc (hH35.slc (i := 0) rfl enc3_len)) (first_slc (hH35.slc (i := 0) rfl enc3_len) (rdLe_rdRow _) enc3_len) hl38) ?_
    rintro s38 M40 (hH40 : Has Fr M40 [.vec 3 1 ([x32] : List Int).length s34 (([x32] : List Int).flatMap enc3), .obj b22 (.row 35 .whole [(.str c22_0), sc22_1]), .vec 3 1 l38.length s38 (l38.flatMap enc3)])
    refine Run.opG wantS_none (ex_assign rfl) rfl ?_
    refine Run.opsEnd (Run.inBlock (Run.region ?_))
    exact Run.pick [1, 2, 5, 6] (ref06_passed_2_ok F (ref06_passed_1 F N) ih v1 v6 c22_0 c22_1 l38 sv1 sc22_1 b22 s38 _ _ _ hv1 hc22_1 (hH40.pick [1, 2] rfl rfl) h)
   ·have h := bif_f hc30 h
    refine Run.condF' rfl hc30 ?_
    refine Run.skip (Run.inBlock (Run.region ?_))
    exact Run.pick [1, 2, 5, 6] (ref06_passed_2_ok F (ref06_passed_1 F N) ih v1 v6 c22_0 c22_1 l24 sv1 sc22_1 b22 s24 _ _ _ hv1 hc22_1 hH h)
  ·have h := bif_f hc26 h
   refine Run.condF' rfl hc26 ?_
   refine Run.exit rfl (Run.seq (Run.region ?_))
   refine Run.opG wantS_none (ex_move rfl) rfl <| Run.opG wantS_none (ex_assign rfl) rfl <| Run.opsEnd ?_
   cases h
   exact Run.ret Tryz.func48 rfl (res_tmp rfl res_nil) ⟨_, rfl, (hH.pick [1] rfl rfl).upF (none_le _)⟩

def ref06_passed (F : Nat) (a0 : S_api_Veto) (a1 : (List Int)) : Option ((List Int)) :=
 ref06_passed_1 F F a1 (0 : Int) a0.Name a0.Segments ([] : List Int)

theorem ref06_passed_ok (F : Nat) (a0 : S_api_Veto) (a1 : (List Int)) (s0 s1 : SV) (r : (List Int)) (M : Mem) (hs0 : Slc (rd M) 2 (FlatR enc37) s0 a0.Segments) (hs1 : Slc (rd M) 1 (FlatR enc3) s1 a1) (h : ref06_passed F a0 a1 = some r) : CallsM Tryz.prog 48 [(.agg [(.str a0.Name), s0]), s1] M (fun s M' => ∃ q1, s = q1 ∧ New M M' [.vec 3 1 r.length q1 (r.flatMap enc3)]) := by
 refine CallsM.fresh (Q := ref06_passed_post r) Tryz.func48 rfl rfl ?_ (by rintro s Me ⟨q1, rfl, hx⟩ ha hw; exact ⟨_, rfl, New.of rfl hx ha hw⟩)
 rw [ref06_passed] at h
 replace hs0 := hs0.mono (rdLe_frozen M) (fun _ _ h => h)
 replace hs1 := hs1.mono (rdLe_frozen M) (fun _ _ h => h)
 have hH := Has.nil (frozen M)
 refine Run.seq (Run.region ?_)
 refine Run.opX wantS_none rfl (ExG.box rfl rfl hH) ?_
 rintro _ M23 ⟨b22, rfl, hH23⟩
 refine Run.opG wantS_none (ex_assign rfl) rfl ?_
 refine Run.opsEnd (Run.seq (Run.region ?_))
 refine Run.opG wantS_none (ex_assign rfl) rfl ?_
 refine Run.opsEnd (Run.seq (Run.seq (Run.region ?_)))
 refine Run.opG wantS_none (ex_assign rfl) rfl ?_
 refine Run.opsEnd (Run.block (Run.loop ?_))
 have hH25 : Has (ro (frozen M)) M23 [.vec 3 1 ([] : List Int).length .nils (([] : List Int).flatMap enc3), .obj b22 (.row 35 .whole [(.str a0.Name), s0])] := hH23.nils 3 1
 exact Run.pick [1, 2, 5, 6] (ref06_passed_1_ok F F a1 (0 : Int) a0.Name a0.Segments ([] : List Int) s1 s0 b22 .nils _ _ _ hs1 hs0 (hH25.pick [1, 0] rfl rfl) h)

theorem mkk48 : makeK Tryz.prog 48 = none := by kernel_rfl
theorem cal48 : callable Tryz.prog 48 = true := by kernel_rfl
abbrev ref06_Passed_post (r : (List Int) × Int) : SV → Mem → Prop := fun s Me => ∃ q1, s = (.tuple [q1, (.int .i64 r.2)]) ∧ Has (fun _ => none) Me [.vec 3 1 r.1.length q1 (r.1.flatMap enc3)]

def ref06_Passed_1 (F : Nat) : Nat → (List S_api_Veto) → Int → (List Int) → Option ((List Int) × Int)
 | 0, _, _, _ => none
 | N + 1, v0, v8, l36 =>
  bif (decide (v8 < (v0.length : Int))) then
   bnd (idx v0 v8) fun x40 =>
   bnd (ref06_passed F x40 l36) fun r43 =>
   (ref06_Passed_1 F N) v0 (w64 (v8 + (1 : Int))) r43
  else
   some (l36, (0 : Int))

theorem ref06_Passed_1_ok (F : Nat) : ∀ (N : Nat), ∀ (v0 : (List S_api_Veto)) (v8 : Int) (l36 : (List Int)) (sv0 s36 : SV) (Fr : Rd) (M : Mem) (r : (List Int) × Int) (hv0 : Slc Fr 2 (rep35 Fr) sv0 v0) (hH : Has Fr M [.vec 3 1 l36.length s36 (l36.flatMap enc3)]), ref06_Passed_1 F N v0 v8 l36 = some r → Run Tryz.prog ⟨⟨18, [], none⟩, []⟩ 32 (ref06_Passed_post r) [(0, sv0), (7, s36), (8, (.int .i64 v8))] [codeC Tryz.prog 18 [1, 1, 1, 1, 0, 1, 0, 0], loopC Tryz.prog 18 [1, 1, 1, 1, 0, 1, 0, 0], .inBlock 0, codeC Tryz.prog 18 [1, 1, 1, 1, 1]] M := by
 intro N
 induction N with
 | zero =>
  intro v0 v8 l36 sv0 s36 Fr M r hv0 hH h
  simp [ref06_Passed_1] at h
 | succ N ih =>
  intro v0 v8 l36 sv0 s36 Fr M r hv0 hH h
  rw [ref06_Passed_1] at h
  refine Run.seq (Run.seq (Run.region ?_))
  refine Run.opG wantS_none (ex_move rfl) rfl <| Run.opG wantS_none (ex_move rfl) rfl <| Run.opG wantS_none (ex_len' rfl hv0 lenk22) rfl <| Run.opG wantS_none (ex_lss rfl rfl) rfl <| Run.opsEnd ?_
  rcases btf ((decide (v8 < (v0.length : Int)))) with hc38 | hc38
  ·have h := bif_t hc38 h
   refine Run.condT' rfl hc38 ?_
   refine Run.skip (Run.seq (Run.block (Run.region ?_)))
   refine Run.opG wantS_none (ex_move rfl) rfl <| Run.opG wantS_none (ex_move rfl) rfl ?_
   obtain ⟨x40, hx40, h⟩ := bnd_some h
   obtain ⟨p40, o40, _, hx40, hp40, ⟨q40_0, rfl, hq40_0⟩⟩ := sl_elem (P := Tryz.prog) (t := 22) (kk := .i64) hv0 hx40 els22
   refine Run.opG wantS_none (ex_elX rfl rfl hx40) rfl <| Run.opG wantS_none (ex_loadA rfl (hH.ptrF hp40) rdLe_rfl agg35 rfl rfl rfl) rfl <| Run.opG wantS_none (ex_move rfl) rfl ?_
   obtain ⟨r43, hr43, h⟩ := bnd_some h
   refine Run.callX wantS_none (ex_call rfl mkk48 cal48) rfl (ref06_passed_ok F x40 l36 q40_0 s36 _ _ (hH.slcF hq40_0) (hH.slc (i := 0) rfl enc3_len) hr43) ?_
   rintro s43_0 M45 ⟨_, rfl, hN43⟩
   have hH45 : Has Fr M45 [.vec 3 1 r43.length s43_0 (r43.flatMap enc3), .vec 3 1 l36.length s36 (l36.flatMap enc3)] := hN43.1 _ _ hH
   refine Run.opG wantS_none (ex_assign rfl) rfl ?_
   refine Run.opsEnd (Run.inBlock (Run.region ?_))
   refine Run.opG wantS_none (ex_move rfl) rfl <| Run.opG wantS_none (ex_add rfl rfl) rfl <| Run.opG wantS_none (ex_assign rfl) rfl ?_
   refine Run.opsEnd (Run.inLoop ?_)
   exact Run.pick [0, 7, 8] (ih v0 (w64 (v8 + (1 : Int))) r43 sv0 s43_0 _ _ _ hv0 (hH45.pick [0] rfl rfl) h)
  ·have h := bif_f hc38 h
   refine Run.condF' rfl hc38 ?_
   refine Run.exit rfl (Run.seq (Run.region ?_))
   refine Run.opG wantS_none (ex_move rfl) rfl <| Run.opG wantS_none (ex_assign rfl) rfl <| Run.opG wantS_none (ex_assign rfl) rfl <| Run.opsEnd ?_
   cases h
   exact Run.ret Tryz.func18 rfl (res_tmp rfl (res_tmp rfl res_nil)) ⟨_, rfl, (hH.pick [0] rfl rfl).upF (none_le _)⟩

def ref06_Passed (F : Nat) (a0 : (List S_api_Veto)) (a1 : (List Int)) : Option ((List Int) × Int) :=
 bnd (ref06_CheckVetoes F a0) fun r22 =>
 bif (!(r22 == (0 : Int))) then
  some (([] : List Int), r22)
 else
  bnd (ref06_times F a1) fun r28 =>
  bif (!r28) then
   some (([] : List Int), (64 : Int))
  else
   bnd (ref00_OwnInts F a1) fun r35 =>
   ref06_Passed_1 F F a0 (0 : Int) r35

theorem ref06_Passed_ok (F : Nat) (a0 : (List S_api_Veto)) (a1 : (List Int)) (s0 s1 : SV) (r : (List Int) × Int) (M : Mem) (hs0 : Slc (rd M) 2 (rep35 (rd M)) s0 a0) (hs1 : Slc (rd M) 1 (FlatR enc3) s1 a1) (h : ref06_Passed F a0 a1 = some r) : CallsM Tryz.prog 18 [s0, s1] M (fun s M' => ∃ q1, s = (.tuple [q1, (.int .i64 r.2)]) ∧ New M M' [.vec 3 1 r.1.length q1 (r.1.flatMap enc3)]) := by
 refine CallsM.fresh (Q := ref06_Passed_post r) Tryz.func18 rfl rfl ?_ (by rintro s Me ⟨q1, rfl, hx⟩ ha hw; exact ⟨_, rfl, New.of rfl hx ha hw⟩)
 rw [ref06_Passed] at h
 replace hs0 := hs0.mono (rdLe_frozen M) (fun _ _ => rep35_mo (rdLe_frozen M))
 replace hs1 := hs1.mono (rdLe_frozen M) (fun _ _ h => h)
 have hH := Has.nil (frozen M)
 refine Run.seq (Run.region ?_)
 refine Run.opG wantS_none (ex_assign rfl) rfl <| Run.opG wantS_none (ex_assign rfl) rfl ?_
 refine Run.opsEnd (Run.seq (Run.seq (Run.region ?_)))
 refine Run.opG wantS_none (ex_move rfl) rfl ?_
 obtain ⟨r22, hr22, h⟩ := bnd_some h
 refine Run.callP wantS_none (ex_call rfl mkk15 cal15) rfl (ref06_CheckVetoes_ok F a0 s0 _ _ ((hs0).mono hH.le (fun _ _ => rep35_mo hH.le)) hr22) <| Run.opG wantS_none (ex_assign rfl) rfl ?_
 refine Run.opsEnd (Run.seq (Run.region ?_))
 refine Run.opG wantS_none (ex_move rfl) rfl <| Run.opG wantS_none (ex_neq rfl rfl) rfl <| Run.opsEnd ?_
 rcases btf ((!(r22 == (0 : Int)))) with hc24 | hc24
 ·have h := bif_t hc24 h
  refine Run.condT' rfl hc24 ?_
  refine Run.seq (Run.region ?_)
  refine Run.opG wantS_none (ex_move rfl) rfl <| Run.opG wantS_none (ex_assign rfl) rfl <| Run.opG wantS_none (ex_assign rfl) rfl <| Run.opsEnd ?_
  have hH26 : Has (ro (frozen M)) (frozen M) [.vec 3 1 ([] : List Int).length .nils (([] : List Int).flatMap enc3)] := hH.nils 3 1
  cases h
  exact Run.ret Tryz.func18 rfl (res_tmp rfl (res_tmp rfl res_nil)) ⟨_, rfl, (hH26.pick [0] rfl rfl).upF (none_le _)⟩
 ·have h := bif_f hc24 h
  refine Run.condF' rfl hc24 ?_
  refine Run.skip (Run.seq (Run.seq (Run.region ?_)))
  refine Run.opG wantS_none (ex_move rfl) rfl ?_
  obtain ⟨r28, hr28, h⟩ := bnd_some h
  refine Run.callP wantS_none (ex_call rfl mkk46 cal46) rfl (ref06_times_ok F a1 s1 _ _ (hH.slcF hs1) hr28) <| Run.opG wantS_none (ex_not rfl) rfl <| Run.opsEnd ?_
  rcases btf ((!r28)) with hc30 | hc30
  ·have h := bif_t hc30 h
   refine Run.condT' rfl hc30 ?_
   refine Run.seq (Run.region ?_)
   refine Run.opG wantS_none (ex_assign rfl) rfl <| Run.opG wantS_none (ex_assign rfl) rfl <| Run.opsEnd ?_
   have hH32 : Has (ro (frozen M)) (frozen M) [.vec 3 1 ([] : List Int).length .nils (([] : List Int).flatMap enc3)] := hH.nils 3 1
   cases h
   exact Run.ret Tryz.func18 rfl (res_tmp rfl (res_tmp rfl res_nil)) ⟨_, rfl, (hH32.pick [0] rfl rfl).upF (none_le _)⟩
  ·have h := bif_f hc30 h
   refine Run.condF' rfl hc30 ?_
   refine Run.skip (Run.seq (Run.region ?_))
   refine Run.opG wantS_none (ex_move rfl) rfl ?_
   obtain ⟨r35, hr35, h⟩ := bnd_some h
   refine Run.callX wantS_none (ex_call rfl mkk47 cal47) rfl (ref00_OwnInts_ok F a1 s1 _ _ (hH.slcF hs1) hr35) ?_
   rintro s35_0 M37 ⟨_, rfl, hN35⟩
   have hH37 : Has (ro (frozen M)) M37 [.vec 3 1 r35.length s35_0 (r35.flatMap enc3)] := hN35.1 _ _ hH
   refine Run.opG wantS_none (ex_assign rfl) rfl ?_
   refine Run.opsEnd (Run.seq (Run.seq (Run.region ?_)))
   refine Run.opG wantS_none (ex_assign rfl) rfl ?_
   refine Run.opsEnd (Run.block (Run.loop ?_))
   exact Run.pick [0, 7, 8] (ref06_Passed_1_ok F F a0 (0 : Int) r35 s0 s35_0 _ _ _ hs0 hH37 h)

theorem mkk18 : makeK Tryz.prog 18 = none := by kernel_rfl
theorem cal18 : callable Tryz.prog 18 = true := by kernel_rfl
theorem plan19_1_1_0_1_0_0_1_0_0_0 : planOf Tryz.prog (opsC (atC Tryz.prog 19 [1, 1, 0, 1, 0, 0, 1, 0, 0, 0])) = some [.fl 0, .fl 1, .fl 2, .fl 3, .fl 4, .fl 5, .fl 6, .fl 7, .fl 8, .sync] := by kernel_rfl
abbrev ref00_SameInts_post (r : Bool) : SV → Mem → Prop := fun s _ => s = (.bool r)

def ref00_SameInts_1 (F : Nat) : Nat → (List Int) → (List Int) → Int → Option (Bool)
 | 0, _, _, _ => none
 | N + 1, v0, v1, v5 =>
  bif (decide (v5 < (v0.length : Int))) then
   bnd (idx v0 v5) fun x23 =>
   bnd (idx v1 v5) fun x24 =>
   bif (!(x23 == x24)) then
    some false
   else
    (ref00_SameInts_1 F N) v0 v1 (w64 (v5 + (1 : Int)))
  else
   some true

theorem ref00_SameInts_1_ok (F : Nat) : ∀ (N : Nat), ∀ (v0 v1 : (List Int)) (v5 : Int) (sv0 sv1 : SV) (Fr : Rd) (M : Mem) (r : Bool) (hv0 : Slc Fr 1 (FlatR enc3) sv0 v0) (hv1 : Slc Fr 1 (FlatR enc3) sv1 v1) (hH : Has Fr M []), ref00_SameInts_1 F N v0 v1 v5 = some r → Run Tryz.prog ⟨⟨19, [], none⟩, []⟩ 26 (ref00_SameInts_post r) [(0, sv0), (1, sv1), (5, (.int .i64 v5))] [codeC Tryz.prog 19 [1, 1, 0, 1, 0, 0], loopC Tryz.prog 19 [1, 1, 0, 1, 0, 0], .inBlock 0, codeC Tryz.prog 19 [1, 1, 1]] M := by
 intro N
 induction N with
 | zero =>
  intro v0 v1 v5 sv0 sv1 Fr M r hv0 hv1 hH h
  simp [ref00_SameInts_1] at h
 | succ N ih =>
  intro v0 v1 v5 sv0 sv1 Fr M r hv0 hv1 hH h
  rw [ref00_SameInts_1] at h
  refine Run.seq (Run.seq (Run.region ?_))
  refine Run.opG wantS_none (ex_move rfl) rfl <| Run.opG wantS_none (ex_move rfl) rfl <| Run.opG wantS_none (ex_len' rfl hv0 lenk28) rfl <| Run.opG wantS_none (ex_lss rfl rfl) rfl <| Run.opsEnd ?_
  rcases btf ((decide (v5 < (v0.length : Int)))) with hc22 | hc22
  ·have h := bif_t hc22 h
   refine Run.condT' rfl hc22 ?_
   refine Run.skip (Run.seq (Run.block (Run.seq ?_)))
   refine Run.drawG plan19_1_1_0_1_0_0_1_0_0_0 <| DrawG.fl rfl (ev_ex wantS_none (ex_move rfl)) rfl <| DrawG.fl rfl (ev_ex wantS_none (ex_move rfl)) rfl ?_
   obtain ⟨x23, hx23, h⟩ := bnd_some h
   obtain ⟨p23, o23, _, hx23, hp23, rfl⟩ := sl_elem (P := Tryz.prog) (t := 28) (kk := .i64) hv0 hx23 els28
   refine DrawG.fl rfl (ev_ex wantS_none (ex_elX rfl rfl hx23)) rfl <| DrawG.fl rfl (ev_ex wantS_none (ex_load1 rfl (hH.ptrF hp23) rdLe_rfl agg3)) rfl <| DrawG.fl rfl (ev_ex wantS_none (ex_move rfl)) rfl <| DrawG.fl rfl (ev_ex wantS_none (ex_move rfl)) rfl ?_
   obtain ⟨x24, hx24, h⟩ := bnd_some h
   obtain ⟨p24, o24, _, hx24, hp24, rfl⟩ := sl_elem (P := Tryz.prog) (t := 28) (kk := .i64) hv1 hx24 els28
   refine DrawG.fl rfl (ev_ex wantS_none (ex_elX rfl rfl hx24)) rfl <| DrawG.fl rfl (ev_ex wantS_none (ex_load1 rfl (hH.ptrF hp24) rdLe_rfl agg3)) rfl <| DrawG.fl rfl (ev_ex wantS_none (ex_neq rfl rfl)) rfl <| DrawG.sync <| DrawG.nil ?_
   rcases btf ((!(x23 == x24))) with hc25 | hc25
   ·have h := bif_t hc25 h
    refine Run.condT' rfl hc25 ?_
    refine Run.seq (Run.region ?_)
    refine Run.opG wantS_none (ex_assign rfl) rfl <| Run.opsEnd ?_
    cases h
    exact Run.ret Tryz.func19 rfl (res_tmp rfl res_nil) rfl
   ·have h := bif_f hc25 h
    refine Run.condF' rfl hc25 ?_
    refine Run.skip (Run.inBlock (Run.region ?_))
    refine Run.opG wantS_none (ex_move rfl) rfl <| Run.opG wantS_none (ex_add rfl rfl) rfl <| Run.opG wantS_none (ex_assign rfl) rfl ?_
    refine Run.opsEnd (Run.inLoop ?_)
    exact Run.pick [0, 1, 5] (ih v0 v1 (w64 (v5 + (1 : Int))) sv0 sv1 _ _ _ hv0 hv1 hH h)
  ·have h := bif_f hc22 h
   refine Run.condF' rfl hc22 ?_
   refine Run.exit rfl (Run.seq (Run.region ?_))
   refine Run.opG wantS_none (ex_assign rfl) rfl <| Run.opsEnd ?_
   cases h
   exact Run.ret Tryz.func19 rfl (res_tmp rfl res_nil) rfl

def ref00_SameInts (F : Nat) (a0 a1 : (List Int)) : Option (Bool) :=
 bif (!((a0.length : Int) == (a1.length : Int))) then
  some false
 else
  ref00_SameInts_1 F F a0 a1 (0 : Int)

theorem ref00_SameInts_ok (F : Nat) (a0 a1 : (List Int)) (s0 s1 : SV) (r : Bool) (M : Mem) (hs0 : Slc (rd M) 1 (FlatR enc3) s0 a0) (hs1 : Slc (rd M) 1 (FlatR enc3) s1 a1) (h : ref00_SameInts F a0 a1 = some r) : CallsM Tryz.prog 19 [s0, s1] M (fun s M' => s = (.bool r) ∧ M' = M) := by
 refine CallsM.plain Tryz.func19 rfl rfl rfl (show Run _ _ _ (ref00_SameInts_post r) _ _ _ from ?_)
 rw [ref00_SameInts] at h
 replace hs0 := hs0.mono (rdLe_frozen M) (fun _ _ h => h)
 replace hs1 := hs1.mono (rdLe_frozen M) (fun _ _ h => h)
 have hH := Has.nil (frozen M)
 refine Run.seq (Run.region ?_)
 refine Run.opG wantS_none (ex_assign rfl) rfl ?_
 refine Run.opsEnd (Run.seq (Run.seq (Run.region ?_)))
 refine Run.opG wantS_none (ex_move rfl) rfl <| Run.opG wantS_none (ex_len' rfl hs0 lenk28) rfl <| Run.opG wantS_none (ex_move rfl) rfl <| Run.opG wantS_none (ex_len' rfl hs1 lenk28) rfl <| Run.opG wantS_none (ex_neq rfl rfl) rfl <| Run.opsEnd ?_
 rcases btf ((!((a0.length : Int) == (a1.length : Int)))) with hc21 | hc21
 ·have h := bif_t hc21 h
  refine Run.condT' rfl hc21 ?_
  refine Run.seq (Run.region ?_)
  refine Run.opG wantS_none (ex_assign rfl) rfl <| Run.opsEnd ?_
  cases h
  exact Run.ret Tryz.func19 rfl (res_tmp rfl res_nil) rfl
 ·have h := bif_f hc21 h
  refine Run.condF' rfl hc21 ?_
  refine Run.skip (Run.seq (Run.seq (Run.region ?_)))
  refine Run.opG wantS_none (ex_assign rfl) rfl ?_
  refine Run.opsEnd (Run.block (Run.loop ?_))
  exact Run.pick [0, 1, 5] (ref00_SameInts_1_ok F F a0 a1 (0 : Int) s0 s1 _ _ _ hs0 hs1 hH h)

theorem mkk19 : makeK Tryz.prog 19 = none := by kernel_rfl
theorem cal19 : callable Tryz.prog 19 = true := by kernel_rfl
theorem mkk11 : makeK Tryz.prog 11 = none := by kernel_rfl
theorem cal11 : callable Tryz.prog 11 = true := by kernel_rfl
abbrev law06_GlitchVetoes_post (r : Bool) : SV → Mem → Prop := fun s _ => s = (.bool r)

def law06_GlitchVetoes_4 (F : Nat) (hd1 : (List S_api_Veto) → Int → (List Int) → Int → Option (Bool)) : Nat → (List S_api_Veto) → Int → Int → (List Int) → Int → (List S_api_Segment) → (List S_api_Segment) → Option (Bool)
 | 0, _, _, _, _, _, _, _ => none
 | N + 1, v0, v5, v10, c25_0, c25_1, l38, l42 =>
  bif (decide (v10 < (l38.length : Int))) then
   bnd (idx l38 v10) fun x47 =>
   bnd (idx l42 v10) fun x48 =>
   bif (!((x47.From == x48.From) && ((x47.To == x48.To) && true))) then
    some false
   else
    (law06_GlitchVetoes_4 F hd1 N) v0 v5 (w64 (v10 + (1 : Int))) c25_0 c25_1 l38 l42
  else
   hd1 v0 (w64 (v5 + (1 : Int))) c25_0 c25_1

theorem law06_GlitchVetoes_4_ok (F : Nat) (hd1 : (List S_api_Veto) → Int → (List Int) → Int → Option (Bool)) (hhd1 : ∀ (v0 : (List S_api_Veto)) (v5 : Int) (c25_0 : (List Int)) (c25_1 : Int) (sv0 sc25_0 : SV) (b25 : Pos) (Fr : Rd) (M : Mem) (r : Bool) (hv0 : Slc Fr 2 (rep35 Fr) sv0 v0) (hc25_0 : Slc Fr 1 (FlatR enc3) sc25_0 c25_0) (hH : Has Fr M [.obj b25 (.row 40 .whole [sc25_0, (.int .i64 c25_1)]), tb0, tb1, tb2]), hd1 v0 v5 c25_0 c25_1 = some r → Run Tryz.prog ⟨⟨4, [], none⟩, []⟩ 124 (law06_GlitchVetoes_post r) [(0, sv0), (3, (.ptr b25 0)), (5, (.int .i64 v5))] [codeC Tryz.prog 4 [1, 1, 0, 1, 0, 0], loopC Tryz.prog 4 [1, 1, 0, 1, 0, 0], .inBlock 0, codeC Tryz.prog 4 [1, 1, 1]] M) : ∀ (N : Nat), ∀ (v0 : (List S_api_Veto)) (v5 v10 : Int) (c25_0 : (List Int)) (c25_1 : Int) (l38 l42 : (List S_api_Segment)) (sv0 sc25_0 : SV) (b25 : Pos) (s38 s42 : SV) (Fr : Rd) (M : Mem) (r : Bool) (hv0 : Slc Fr 2 (rep35 Fr) sv0 v0) (hc25_0 : Slc Fr 1 (FlatR enc3) sc25_0 c25_0) (hH : Has Fr M [.obj b25 (.row 40 .whole [sc25_0, (.int .i64 c25_1)]), .vec 37 2 l38.length s38 (l38.flatMap enc37), .vec 37 2 l42.length s42 (l42.flatMap enc37), tb0, tb1, tb2]), law06_GlitchVetoes_4 F hd1 N v0 v5 v10 c25_0 c25_1 l38 l42 = some r → Run Tryz.prog ⟨⟨4, [], none⟩, []⟩ 124 (law06_GlitchVetoes_post r) [(0, sv0), (3, (.ptr b25 0)), (5, (.int .i64 v5)), (6, s38), (8, s42), (10, (.int .i64 v10))] [codeC Tryz.prog 4 [1, 1, 0, 1, 0, 0, 1, 0, 0, 1, 1, 1, 1, 0, 0], loopC Tryz.prog 4 [1, 1, 0, 1, 0, 0, 1, 0, 0, 1, 1, 1, 1, 0, 0], .inBlock 2, .inBlock 1, codeC Tryz.prog 4 [1, 1, 0, 1, 0, 0, 1, 1], loopC Tryz.prog 4 [1, 1, 0, 1, 0, 0], .inBlock 0, codeC Tryz.prog 4 [1, 1, 1]] M := by
 intro N
 induction N with
 | zero =>
  intro v0 v5 v10 c25_0 c25_1 l38 l42 sv0 sc25_0 b25 s38 s42 Fr M r hv0 hc25_0 hH h
  simp [law06_GlitchVetoes_4] at h
 | succ N ih =>
  intro v0 v5 v10 c25_0 c25_1 l38 l42 sv0 sc25_0 b25 s38 s42 Fr M r hv0 hc25_0 hH h
  rw [law06_GlitchVetoes_4] at h
  refine Run.seq (Run.seq (Run.region ?_))
  refine Run.opG wantS_none (ex_move rfl) rfl <| Run.opG wantS_none (ex_move rfl) rfl <| Run.opG wantS_none (ex_len' rfl (hH.slc (i := 1) rfl enc37_len) lenk31) rfl <| Run.opG wantS_none (ex_lss rfl rfl) rfl <| Run.opsEnd ?_
  rcases btf ((decide (v10 < (l38.length : Int)))) with hc46 | hc46
  ·have h := bif_t hc46 h
   refine Run.condT' rfl hc46 ?_
   refine Run.skip (Run.seq (Run.block (Run.seq ?_)))
   refine Run.drawG plan4_1_1_0_1_0_0_1_0_0_1_1_1_1_0_0_1_0_0_0 <| DrawG.fl rfl (ev_ex wantS_none (ex_move rfl)) rfl <| DrawG.fl rfl (ev_ex wantS_none (ex_move rfl)) rfl ?_
   obtain ⟨x47, hx47, h⟩ := bnd_some h
   obtain ⟨p47, o47, hb47, hx47, he47⟩ := vec_elem (P := Tryz.prog) (t := 31) (kk := .i64) hH (i := 1) rfl hx47 els31
   refine DrawG.fl rfl (ev_ex wantS_none (ex_elX rfl rfl hx47)) rfl <| DrawG.fl rfl (ev_ex wantS_none (ex_loadA rfl (hH.at (enc := enc37) (a := x47) (i := 1) rfl hb47 he47 enc37_len) rdLe_rfl agg37 rfl rfl rfl)) rfl <| DrawG.fl rfl (ev_ex wantS_none (ex_move rfl)) rfl <| DrawG.fl rfl (ev_ex wantS_none (ex_move rfl)) rfl ?_
   obtain ⟨x48, hx48, h⟩ := bnd_some h
   obtain ⟨p48, o48, hb48, hx48, he48⟩ := vec_elem (P := Tryz.prog) (t := 31) (kk := .i64) hH (i := 2) rfl hx48 els31
   refine DrawG.fl rfl (ev_ex wantS_none (ex_elX rfl rfl hx48)) rfl <| DrawG.fl rfl (ev_ex wantS_none (ex_loadA rfl (hH.at (enc := enc37) (a := x48) (i := 2) rfl hb48 he48 enc37_len) rdLe_rfl agg37 rfl rfl rfl)) rfl <| DrawG.fl rfl (ev_ex wantS_none (ex_neqA rfl rfl aeq37 (eqA_st agk37 (eqFs_cons (by decide) (part_one agg3 rfl) (part_one agg3 rfl) (eqA_int agk3) (eqFs_cons (by decide) (part_one agg3 rfl) (part_one agg3 rfl) (eqA_int agk3) eqFs_nil))))) rfl <| DrawG.sync <| DrawG.nil ?_
   rcases btf ((!((x47.From == x48.From) && ((x47.To == x48.To) && true)))) with hc49 | hc49
   ·have h := bif_t hc49 h
    refine Run.condT' rfl hc49 ?_
    refine Run.seq (Run.region ?_)
    refine Run.opG wantS_none (ex_assign rfl) rfl <| Run.opsEnd ?_
    cases h
    exact Run.ret Tryz.func4 rfl (res_tmp rfl res_nil) rfl
   ·have h := bif_f hc49 h
    refine Run.condF' rfl hc49 ?_
    refine Run.skip (Run.inBlock (Run.region ?_))
    refine Run.opG wantS_none (ex_move rfl) rfl <| Run.opG wantS_none (ex_add rfl rfl) rfl <| Run.opG wantS_none (ex_assign rfl) rfl ?_
    refine Run.opsEnd (Run.inLoop ?_)
    exact Run.pick [0, 3, 5, 6, 8, 10] (ih v0 v5 (w64 (v10 + (1 : Int))) c25_0 c25_1 l38 l42 sv0 sc25_0 b25 s38 s42 _ _ _ hv0 hc25_0 hH h)
  ·have h := bif_f hc46 h
   refine Run.condF' rfl hc46 ?_
   refine Run.exit rfl (Run.inBlock (Run.region ?_))
   refine Run.opG wantS_none (ex_move rfl) rfl <| Run.opG wantS_none (ex_add rfl rfl) rfl <| Run.opG wantS_none (ex_assign rfl) rfl ?_
   refine Run.opsEnd (Run.inLoop ?_)
   exact Run.pick [0, 3, 5] (hhd1 v0 (w64 (v5 + (1 : Int))) c25_0 c25_1 sv0 sc25_0 b25 _ _ _ hv0 hc25_0 (hH.pick [0, 3, 4, 5] rfl rfl) h)

def law06_GlitchVetoes_3 (F : Nat) (hd1 : (List S_api_Veto) → Int → (List Int) → Int → Option (Bool)) (v0 : (List S_api_Veto)) (v5 : Int) (v61 : Bool) (c25_0 : (List Int)) (c25_1 : Int) (l38 l42 : (List S_api_Segment)) : Option (Bool) :=
 bif v61 then
  some false
 else
  law06_GlitchVetoes_4 F hd1 F v0 v5 (0 : Int) c25_0 c25_1 l38 l42

theorem law06_GlitchVetoes_3_ok (F : Nat) (hd1 : (List S_api_Veto) → Int → (List Int) → Int → Option (Bool)) (hhd1 : ∀ (v0 : (List S_api_Veto)) (v5 : Int) (c25_0 : (List Int)) (c25_1 : Int) (sv0 sc25_0 : SV) (b25 : Pos) (Fr : Rd) (M : Mem) (r : Bool) (hv0 : Slc Fr 2 (rep35 Fr) sv0 v0) (hc25_0 : Slc Fr 1 (FlatR enc3) sc25_0 c25_0) (hH : Has Fr M [.obj b25 (.row 40 .whole [sc25_0, (.int .i64 c25_1)]), tb0, tb1, tb2]), hd1 v0 v5 c25_0 c25_1 = some r → Run Tryz.prog ⟨⟨4, [], none⟩, []⟩ 124 (law06_GlitchVetoes_post r) [(0, sv0), (3, (.ptr b25 0)), (5, (.int .i64 v5))] [codeC Tryz.prog 4 [1, 1, 0, 1, 0, 0], loopC Tryz.prog 4 [1, 1, 0, 1, 0, 0], .inBlock 0, codeC Tryz.prog 4 [1, 1, 1]] M) : ∀ (v0 : (List S_api_Veto)) (v5 : Int) (v61 : Bool) (c25_0 : (List Int)) (c25_1 : Int) (l38 l42 : (List S_api_Segment)) (sv0 sc25_0 : SV) (b25 : Pos) (s38 s42 : SV) (Fr : Rd) (M : Mem) (r : Bool) (hv0 : Slc Fr 2 (rep35 Fr) sv0 v0) (hc25_0 : Slc Fr 1 (FlatR enc3) sc25_0 c25_0) (hH : Has Fr M [.obj b25 (.row 40 .whole [sc25_0, (.int .i64 c25_1)]), .vec 37 2 l38.length s38 (l38.flatMap enc37), .vec 37 2 l42.length s42 (l42.flatMap enc37), tb0, tb1, tb2]), law06_GlitchVetoes_3 F hd1 v0 v5 v61 c25_0 c25_1 l38 l42 = some r → Run Tryz.prog ⟨⟨4, [], none⟩, []⟩ 124 (law06_GlitchVetoes_post r) [(0, sv0), (3, (.ptr b25 0)), (5, (.int .i64 v5)), (6, s38), (8, s42), (61, (.bool v61))] [codeC Tryz.prog 4 [1, 1, 0, 1, 0, 0, 1, 0, 0, 1, 1, 0, 1], codeC Tryz.prog 4 [1, 1, 0, 1, 0, 0, 1, 0, 0, 1, 1, 1], .inBlock 1, codeC Tryz.prog 4 [1, 1, 0, 1, 0, 0, 1, 1], loopC Tryz.prog 4 [1, 1, 0, 1, 0, 0], .inBlock 0, codeC Tryz.prog 4 [1, 1, 1]] M := by
 intro v0 v5 v61 c25_0 c25_1 l38 l42 sv0 sc25_0 b25 s38 s42 Fr M r hv0 hc25_0 hH h
 rw [law06_GlitchVetoes_3] at h
 rcases btf (v61) with hc45 | hc45
 ·have h := bif_t hc45 h
  refine Run.condT' rfl hc45 ?_
  refine Run.seq (Run.region ?_)
  refine Run.opG wantS_none (ex_assign rfl) rfl <| Run.opsEnd ?_
  cases h
  exact Run.ret Tryz.func4 rfl (res_tmp rfl res_nil) rfl
 ·have h := bif_f hc45 h
  refine Run.condF' rfl hc45 ?_
  refine Run.skip (Run.seq (Run.region ?_))
  refine Run.opG wantS_none (ex_assign rfl) rfl ?_
  refine Run.opsEnd (Run.block (Run.loop ?_))
  exact Run.pick [0, 3, 5, 6, 8, 10] (law06_GlitchVetoes_4_ok F hd1 hhd1 F v0 v5 (0 : Int) c25_0 c25_1 l38 l42 sv0 sc25_0 b25 s38 s42 _ _ _ hv0 hc25_0 hH h)

def law06_GlitchVetoes_7 (F : Nat) (v123 : Bool) : Option (Bool) :=
 some v123

theorem law06_GlitchVetoes_7_ok (F : Nat) : ∀ (v123 : Bool) (Fr : Rd) (M : Mem) (r : Bool) (hH : Has Fr M [tb0, tb1, tb2]), law06_GlitchVetoes_7 F v123 = some r → Run Tryz.prog ⟨⟨4, [], none⟩, []⟩ 124 (law06_GlitchVetoes_post r) [(123, (.bool v123))] [itemC Tryz.prog 4 [1, 1, 1, 1, 1, 1, 1, 1, 0] 11, codeC Tryz.prog 4 [1, 1, 1, 1, 1, 1, 1, 1, 1]] M := by
 intro v123 Fr M r hH h
 rw [law06_GlitchVetoes_7] at h
 refine Run.opG wantS_none (ex_assign rfl) rfl <| Run.opsEnd ?_
 cases h
 exact Run.ret Tryz.func4 rfl (res_tmp rfl res_nil) rfl

def law06_GlitchVetoes_6 (F : Nat) (v120 : Bool) : Option (Bool) :=
 bif v120 then
  bnd (works F) fun r74 =>
  law06_GlitchVetoes_7 F r74
 else
  law06_GlitchVetoes_7 F false

theorem law06_GlitchVetoes_6_ok (F : Nat) : ∀ (v120 : Bool) (Fr : Rd) (M : Mem) (r : Bool) (hH : Has Fr M [tb0, tb1, tb2]), law06_GlitchVetoes_6 F v120 = some r → Run Tryz.prog ⟨⟨4, [], none⟩, []⟩ 124 (law06_GlitchVetoes_post r) [(120, (.bool v120))] [itemC Tryz.prog 4 [1, 1, 1, 1, 1, 1, 1, 1, 0] 8, codeC Tryz.prog 4 [1, 1, 1, 1, 1, 1, 1, 1, 1]] M := by
 intro v120 Fr M r hH h
 rw [law06_GlitchVetoes_6] at h
 refine Run.opG wantS_none (ex_move rfl) rfl ?_
 rcases btf (v120) with hc72 | hc72
 ·have h := bif_t hc72 h
  obtain ⟨r74, hr74, h⟩ := bnd_some h
  refine Run.callP (wantS_yes' rfl rfl hc72) (ex_call rfl mkk11 cal11) rfl (works_ok F r74 _ hH (List.mem_of_getElem? (i := 0) rfl) (List.mem_of_getElem? (i := 1) rfl) (List.mem_of_getElem? (i := 2) rfl) hr74) <| Run.opG wantS_none (ex_pickT' rfl hc72 rfl rfl) rfl ?_
  exact Run.pick [123] (law06_GlitchVetoes_7_ok F r74 _ _ _ hH h)
 ·have h := bif_f hc72 h
  refine Run.no (wantS_not' rfl rfl hc72) rfl <| Run.opG wantS_none (ex_pickF' rfl hc72 rfl rfl) rfl ?_
  exact Run.pick [123] (law06_GlitchVetoes_7_ok F false _ _ _ hH h)

def law06_GlitchVetoes_5 (F : Nat) (v0 : (List S_api_Veto)) (v98 : Bool) (c25_0 : (List Int)) (c25_1 : Int) : Option (Bool) :=
 bif v98 then
  some false
 else
  bnd (glitch_Passed F v0 c25_0) fun r60 =>
  bnd (ref06_Passed F v0 c25_0) fun r65 =>
  bnd (ref00_SameInts F r60.1 r65.1) fun r69 =>
  bif r69 then
   law06_GlitchVetoes_6 F (r60.2 == r65.2)
  else
   law06_GlitchVetoes_6 F false

theorem law06_GlitchVetoes_5_ok (F : Nat) : ∀ (v0 : (List S_api_Veto)) (v98 : Bool) (c25_0 : (List Int)) (c25_1 : Int) (sv0 sc25_0 : SV) (b25 : Pos) (Fr : Rd) (M : Mem) (r : Bool) (hv0 : Slc Fr 2 (rep35 Fr) sv0 v0) (hc25_0 : Slc Fr 1 (FlatR enc3) sc25_0 c25_0) (hH : Has Fr M [.obj b25 (.row 40 .whole [sc25_0, (.int .i64 c25_1)]), tb0, tb1, tb2]), law06_GlitchVetoes_5 F v0 v98 c25_0 c25_1 = some r → Run Tryz.prog ⟨⟨4, [], none⟩, []⟩ 124 (law06_GlitchVetoes_post r) [(0, sv0), (3, (.ptr b25 0)), (98, (.bool v98))] [codeC Tryz.prog 4 [1, 1, 1, 1, 1, 0, 1], codeC Tryz.prog 4 [1, 1, 1, 1, 1, 1]] M := by
 intro v0 v98 c25_0 c25_1 sv0 sc25_0 b25 Fr M r hv0 hc25_0 hH h
 rw [law06_GlitchVetoes_5] at h
 rcases btf (v98) with hc57 | hc57
 ·have h := bif_t hc57 h
  refine Run.condT' rfl hc57 ?_
  refine Run.seq (Run.region ?_)
  refine Run.opG wantS_none (ex_assign rfl) rfl <| Run.opsEnd ?_
  cases h
  exact Run.ret Tryz.func4 rfl (res_tmp rfl res_nil) rfl
 ·have h := bif_f hc57 h
  refine Run.condF' rfl hc57 ?_
  refine Run.skip (Run.seq (Run.region ?_))
  refine Run.opG wantS_none (ex_move rfl) rfl <| Run.opG wantS_none (ex_fieldAddr rfl off40_0) rfl <| Run.opG wantS_none (ex_load1 rfl (hH.cells (i := 0) rfl 0 rfl) rdLe_rfl agg28) rfl ?_
  obtain ⟨r60, hr60, h⟩ := bnd_some h
  refine Run.callX wantS_none (ex_call rfl mkk12 cal12) rfl (glitch_Passed_ok F v0 c25_0 sv0 sc25_0 _ _ ((hv0).mono hH.le (fun _ _ => rep35_mo hH.le)) (hH.slcF hc25_0) hr60) ?_
  rintro _ M62 ⟨s60_0, rfl, hN60⟩
  have hH62 : Has Fr M62 [.vec 3 1 r60.1.length s60_0 (r60.1.flatMap enc3), .obj b25 (.row 40 .whole [sc25_0, (.int .i64 c25_1)]), tb0, tb1, tb2] := hN60.1 _ _ hH
  refine Run.opG wantS_none (ex_move rfl) rfl <| Run.opG wantS_none (ex_extract rfl rfl) rfl <| Run.opG wantS_none (ex_extract rfl rfl) rfl <| Run.opG wantS_none (ex_assign rfl) rfl <| Run.opG wantS_none (ex_assign rfl) rfl ?_
  refine Run.opsEnd (Run.seq (Run.region ?_))
  refine Run.opG wantS_none (ex_move rfl) rfl <| Run.opG wantS_none (ex_fieldAddr rfl off40_0) rfl <| Run.opG wantS_none (ex_load1 rfl (hH62.cells (i := 1) rfl 0 rfl) rdLe_rfl agg28) rfl ?_
  obtain ⟨r65, hr65, h⟩ := bnd_some h
  refine Run.callX wantS_none (ex_call rfl mkk18 cal18) rfl (ref06_Passed_ok F v0 c25_0 sv0 sc25_0 _ _ ((hv0).mono hH62.le (fun _ _ => rep35_mo hH62.le)) (hH62.slcF hc25_0) hr65) ?_
  rintro _ M67 ⟨s65_0, rfl, hN65⟩
  have hH67 : Has Fr M67 [.vec 3 1 r65.1.length s65_0 (r65.1.flatMap enc3), .vec 3 1 r60.1.length s60_0 (r60.1.flatMap enc3), .obj b25 (.row 40 .whole [sc25_0, (.int .i64 c25_1)]), tb0, tb1, tb2] := hN65.1 _ _ hH62
  refine Run.opG wantS_none (ex_move rfl) rfl <| Run.opG wantS_none (ex_extract rfl rfl) rfl <| Run.opG wantS_none (ex_extract rfl rfl) rfl <| Run.opG wantS_none (ex_assign rfl) rfl <| Run.opG wantS_none (ex_assign rfl) rfl ?_
  refine Run.opsEnd (Run.seq (Run.region ?_))
  refine Run.opG wantS_none (ex_move rfl) rfl <| Run.opG wantS_none (ex_move rfl) rfl ?_
  obtain ⟨r69, hr69, h⟩ := bnd_some h
  refine Run.callP wantS_none (ex_call rfl mkk19 cal19) rfl (ref00_SameInts_ok F r60.1 r65.1 s60_0 s65_0 _ _ (hH67.slc (i := 1) rfl enc3_len) (hH67.slc (i := 0) rfl enc3_len) hr69) <| Run.opG wantS_none (ex_move rfl) rfl ?_
  rcases btf (r69) with hc71 | hc71
  ·have h := bif_t hc71 h
   refine Run.opG (wantS_yes' rfl rfl hc71) (ex_move rfl) rfl <| Run.opG (wantS_yes' rfl rfl hc71) (ex_move rfl) rfl <| Run.opG (wantS_yes' rfl rfl hc71) (ex_eql rfl rfl) rfl <| Run.opG wantS_none (ex_pickT' rfl hc71 rfl rfl) rfl ?_
   exact Run.pick [120] (law06_GlitchVetoes_6_ok F (r60.2 == r65.2) _ _ _ (hH67.pick [3, 4, 5] rfl rfl) h)
  ·have h := bif_f hc71 h
   refine Run.no (wantS_not' rfl rfl hc71) rfl <| Run.no (wantS_not' rfl rfl hc71) rfl <| Run.no (wantS_not' rfl rfl hc71) rfl <| Run.opG wantS_none (ex_pickF' rfl hc71 rfl rfl) rfl ?_
   exact Run.pick [120] (law06_GlitchVetoes_6_ok F false _ _ _ (hH67.pick [3, 4, 5] rfl rfl) h)

def law06_GlitchVetoes_2 (F : Nat) (hd1 : (List S_api_Veto) → Int → (List Int) → Int → Option (Bool)) (v0 : (List S_api_Veto)) (v5 : Int) (v29 : Bool) (c25_0 : (List Int)) (c25_1 : Int) : Option (Bool) :=
 bif v29 then
  bnd (idx v0 v5) fun x36 =>
  bnd (glitch_Held F x36 c25_1) fun r37 =>
  bnd (idx v0 v5) fun x40 =>
  bnd (ref06_Held F x40 c25_1) fun r41 =>
  bif (!((r37.1.length : Int) == (r41.1.length : Int))) then
   law06_GlitchVetoes_3 F hd1 v0 v5 true c25_0 c25_1 r37.1 r41.1
  else
   law06_GlitchVetoes_3 F hd1 v0 v5 (!(r37.2 == r41.2)) c25_0 c25_1 r37.1 r41.1
 else
  bnd (glitch_Dead F v0 c25_1) fun r51 =>
  bnd (ref06_Dead F v0 c25_1) fun r54 =>
  bif (!(r51.1 == r54.1)) then
   law06_GlitchVetoes_5 F v0 true c25_0 c25_1
  else
   law06_GlitchVetoes_5 F v0 (!(r51.2 == r54.2)) c25_0 c25_1

theorem law06_GlitchVetoes_2_ok (F : Nat) (hd1 : (List S_api_Veto) → Int → (List Int) → Int → Option (Bool)) (hhd1 : ∀ (v0 : (List S_api_Veto)) (v5 : Int) (c25_0 : (List Int)) (c25_1 : Int) (sv0 sc25_0 : SV) (b25 : Pos) (Fr : Rd) (M : Mem) (r : Bool) (hv0 : Slc Fr 2 (rep35 Fr) sv0 v0) (hc25_0 : Slc Fr 1 (FlatR enc3) sc25_0 c25_0) (hH : Has Fr M [.obj b25 (.row 40 .whole [sc25_0, (.int .i64 c25_1)]), tb0, tb1, tb2]), hd1 v0 v5 c25_0 c25_1 = some r → Run Tryz.prog ⟨⟨4, [], none⟩, []⟩ 124 (law06_GlitchVetoes_post r) [(0, sv0), (3, (.ptr b25 0)), (5, (.int .i64 v5))] [codeC Tryz.prog 4 [1, 1, 0, 1, 0, 0], loopC Tryz.prog 4 [1, 1, 0, 1, 0, 0], .inBlock 0, codeC Tryz.prog 4 [1, 1, 1]] M) : ∀ (v0 : (List S_api_Veto)) (v5 : Int) (v29 : Bool) (c25_0 : (List Int)) (c25_1 : Int) (sv0 sc25_0 : SV) (b25 : Pos) (Fr : Rd) (M : Mem) (r : Bool) (hv0 : Slc Fr 2 (rep35 Fr) sv0 v0) (hc25_0 : Slc Fr 1 (FlatR enc3) sc25_0 c25_0) (hH : Has Fr M [.obj b25 (.row 40 .whole [sc25_0, (.int .i64 c25_1)]), tb0, tb1, tb2]), law06_GlitchVetoes_2 F hd1 v0 v5 v29 c25_0 c25_1 = some r → Run Tryz.prog ⟨⟨4, [], none⟩, []⟩ 124 (law06_GlitchVetoes_post r) [(0, sv0), (3, (.ptr b25 0)), (5, (.int .i64 v5)), (29, (.bool v29))] [codeC Tryz.prog 4 [1, 1, 0, 1, 0, 0, 0, 1], codeC Tryz.prog 4 [1, 1, 0, 1, 0, 0, 1], loopC Tryz.prog 4 [1, 1, 0, 1, 0, 0], .inBlock 0, codeC Tryz.prog 4 [1, 1, 1]] M := by
 intro v0 v5 v29 c25_0 c25_1 sv0 sc25_0 b25 Fr M r hv0 hc25_0 hH h
 rw [law06_GlitchVetoes_2] at h
 rcases btf (v29) with hc35 | hc35
 ·have h := bif_t hc35 h
  refine Run.condT' rfl hc35 ?_
  refine Run.skip (Run.seq (Run.block (Run.seq ?_)))
  refine Run.drawG plan4_1_1_0_1_0_0_1_0_0_0 <| DrawG.fl rfl (ev_ex wantS_none (ex_move rfl)) rfl <| DrawG.fl rfl (ev_ex wantS_none (ex_move rfl)) rfl ?_
  obtain ⟨x36, hx36, h⟩ := bnd_some h
  obtain ⟨p36, o36, _, hx36, hp36, ⟨q36_0, rfl, hq36_0⟩⟩ := sl_elem (P := Tryz.prog) (t := 22) (kk := .i64) hv0 hx36 els22
  refine DrawG.fl rfl (ev_ex wantS_none (ex_elX rfl rfl hx36)) rfl <| DrawG.fl rfl (ev_ex wantS_none (ex_loadA rfl (hH.ptrF hp36) rdLe_rfl agg35 rfl rfl rfl)) rfl <| DrawG.fl rfl (ev_ex wantS_none (ex_fieldAddr rfl off40_1)) rfl <| DrawG.fl rfl (ev_ex wantS_none (ex_load1 rfl (hH.cells (i := 0) rfl 1 rfl) rdLe_rfl agg3)) rfl ?_
  obtain ⟨r37, hr37, h⟩ := bnd_some h
  refine DrawG.call rfl wantS_none (ex_call rfl mkk13 cal13) rfl (glitch_Held_ok F x36 c25_1 q36_0 _ _ (hH.slcF hq36_0) hr37) ?_
  rintro _ M39 ⟨s37_0, rfl, hN37⟩
  have hH39 : Has Fr M39 [.vec 37 2 r37.1.length s37_0 (r37.1.flatMap enc37), .obj b25 (.row 40 .whole [sc25_0, (.int .i64 c25_1)]), tb0, tb1, tb2] := hN37.1 _ _ hH
  refine ⟨st_nil, ?_⟩
  refine DrawG.fl rfl (ev_ex wantS_none (ex_move rfl)) rfl <| DrawG.fl rfl (ev_ex wantS_none (ex_extract rfl rfl)) rfl <| DrawG.fl rfl (ev_ex wantS_none (ex_extract rfl rfl)) rfl <| DrawG.fl rfl (ev_ex wantS_none (ex_assign rfl)) rfl <| DrawG.fl rfl (ev_ex wantS_none (ex_assign rfl)) rfl <| DrawG.sync <| DrawG.nil <| Run.seq <| Run.drawG plan4_1_1_0_1_0_0_1_0_0_1_0 <| DrawG.fl rfl (ev_ex wantS_none (ex_move rfl)) rfl <| DrawG.fl rfl (ev_ex wantS_none (ex_move rfl)) rfl ?_
  obtain ⟨x40, hx40, h⟩ := bnd_some h
  obtain ⟨p40, o40, _, hx40, hp40, ⟨q40_0, rfl, hq40_0⟩⟩ := sl_elem (P := Tryz.prog) (t := 22) (kk := .i64) hv0 hx40 els22
  refine DrawG.fl rfl (ev_ex wantS_none (ex_elX rfl rfl hx40)) rfl <| DrawG.fl rfl (ev_ex wantS_none (ex_loadA rfl (hH39.ptrF hp40) rdLe_rfl agg35 rfl rfl rfl)) rfl <| DrawG.fl rfl (ev_ex wantS_none (ex_fieldAddr rfl off40_1)) rfl <| DrawG.fl rfl (ev_ex wantS_none (ex_load1 rfl (hH39.cells (i := 1) rfl 1 rfl) rdLe_rfl agg3)) rfl ?_
  obtain ⟨r41, hr41, h⟩ := bnd_some h
  refine DrawG.call rfl wantS_none (ex_call rfl mkk16 cal16) rfl (ref06_Held_ok F x40 c25_1 q40_0 _ _ (hH39.slcF hq40_0) hr41) ?_
  rintro _ M43 ⟨s41_0, rfl, hN41⟩
  have hH43 : Has Fr M43 [.vec 37 2 r41.1.length s41_0 (r41.1.flatMap enc37), .vec 37 2 r37.1.length s37_0 (r37.1.flatMap enc37), .obj b25 (.row 40 .whole [sc25_0, (.int .i64 c25_1)]), tb0, tb1, tb2] := hN41.1 _ _ hH39
  refine ⟨st_nil, ?_⟩
  refine DrawG.fl rfl (ev_ex wantS_none (ex_move rfl)) rfl <| DrawG.fl rfl (ev_ex wantS_none (ex_extract rfl rfl)) rfl <| DrawG.fl rfl (ev_ex wantS_none (ex_extract rfl rfl)) rfl <| DrawG.fl rfl (ev_ex wantS_none (ex_assign rfl)) rfl <| DrawG.fl rfl (ev_ex wantS_none (ex_assign rfl)) rfl <| DrawG.sync <| DrawG.nil ?_
  refine Run.seq (Run.seq (Run.region ?_))
  refine Run.opG wantS_none (ex_move rfl) rfl <| Run.opG wantS_none (ex_len' rfl (hH43.slc (i := 1) rfl enc37_len) lenk31) rfl <| Run.opG wantS_none (ex_move rfl) rfl <| Run.opG wantS_none (ex_len' rfl (hH43.slc (i := 0) rfl enc37_len) lenk31) rfl <| Run.opG wantS_none (ex_neq rfl rfl) rfl <| Run.opG wantS_none (ex_move rfl) rfl ?_
  rcases btf ((!((r37.1.length : Int) == (r41.1.length : Int)))) with hc44 | hc44
  ·have h := bif_t hc44 h
   refine Run.no (wantS_not' rfl rfl hc44) rfl <| Run.no (wantS_not' rfl rfl hc44) rfl <| Run.no (wantS_not' rfl rfl hc44) rfl <| Run.opG wantS_none (ex_pickT' rfl hc44 rfl rfl) rfl <| Run.opsEnd ?_
   exact Run.pick [0, 3, 5, 6, 8, 61] (law06_GlitchVetoes_3_ok F hd1 hhd1 v0 v5 true c25_0 c25_1 r37.1 r41.1 sv0 sc25_0 b25 s37_0 s41_0 _ _ _ hv0 hc25_0 (hH43.pick [2, 1, 0, 3, 4, 5] rfl rfl) h)
  ·have h := bif_f hc44 h
   refine Run.opG (wantS_yes' rfl rfl hc44) (ex_move rfl) rfl <| Run.opG (wantS_yes' rfl rfl hc44) (ex_move rfl) rfl <| Run.opG (wantS_yes' rfl rfl hc44) (ex_neq rfl rfl) rfl <| Run.opG wantS_none (ex_pickF' rfl hc44 rfl rfl) rfl <| Run.opsEnd ?_
   exact Run.pick [0, 3, 5, 6, 8, 61] (law06_GlitchVetoes_3_ok F hd1 hhd1 v0 v5 (!(r37.2 == r41.2)) c25_0 c25_1 r37.1 r41.1 sv0 sc25_0 b25 s37_0 s41_0 _ _ _ hv0 hc25_0 (hH43.pick [2, 1, 0, 3, 4, 5] rfl rfl) h)
 ·have h := bif_f hc35 h
  refine Run.condF' rfl hc35 ?_
  refine Run.exit rfl (Run.seq (Run.region ?_))
  refine Run.opG wantS_none (ex_move rfl) rfl <| Run.opG wantS_none (ex_fieldAddr rfl off40_1) rfl <| Run.opG wantS_none (ex_load1 rfl (hH.cells (i := 0) rfl 1 rfl) rdLe_rfl agg3) rfl ?_
  obtain ⟨r51, hr51, h⟩ := bnd_some h
  refine Run.callP wantS_none (ex_call rfl mkk10 cal10) rfl (glitch_Dead_ok F v0 c25_1 sv0 _ _ ((hv0).mono hH.le (fun _ _ => rep35_mo hH.le)) hr51) <| Run.opG wantS_none (ex_move rfl) rfl <| Run.opG wantS_none (ex_extract rfl rfl) rfl <| Run.opG wantS_none (ex_extract rfl rfl) rfl <| Run.opG wantS_none (ex_assign rfl) rfl <| Run.opG wantS_none (ex_assign rfl) rfl ?_
  refine Run.opsEnd (Run.seq (Run.region ?_))
  refine Run.opG wantS_none (ex_move rfl) rfl <| Run.opG wantS_none (ex_fieldAddr rfl off40_1) rfl <| Run.opG wantS_none (ex_load1 rfl (hH.cells (i := 0) rfl 1 rfl) rdLe_rfl agg3) rfl ?_
  obtain ⟨r54, hr54, h⟩ := bnd_some h
  refine Run.callP wantS_none (ex_call rfl mkk17 cal17) rfl (ref06_Dead_ok F v0 c25_1 sv0 _ _ ((hv0).mono hH.le (fun _ _ => rep35_mo hH.le)) hr54) <| Run.opG wantS_none (ex_move rfl) rfl <| Run.opG wantS_none (ex_extract rfl rfl) rfl <| Run.opG wantS_none (ex_extract rfl rfl) rfl <| Run.opG wantS_none (ex_assign rfl) rfl <| Run.opG wantS_none (ex_assign rfl) rfl ?_
  refine Run.opsEnd (Run.seq (Run.seq (Run.region ?_)))
  refine Run.opG wantS_none (ex_move rfl) rfl <| Run.opG wantS_none (ex_move rfl) rfl <| Run.opG wantS_none (ex_neq rfl rfl) rfl <| Run.opG wantS_none (ex_move rfl) rfl ?_
  rcases btf ((!(r51.1 == r54.1))) with hc56 | hc56
  ·have h := bif_t hc56 h
   refine Run.no (wantS_not' rfl rfl hc56) rfl <| Run.no (wantS_not' rfl rfl hc56) rfl <| Run.no (wantS_not' rfl rfl hc56) rfl <| Run.opG wantS_none (ex_pickT' rfl hc56 rfl rfl) rfl <| Run.opsEnd ?_
   exact Run.pick [0, 3, 98] (law06_GlitchVetoes_5_ok F v0 true c25_0 c25_1 sv0 sc25_0 b25 _ _ _ hv0 hc25_0 hH h)
  ·have h := bif_f hc56 h
   refine Run.opG (wantS_yes' rfl rfl hc56) (ex_move rfl) rfl <| Run.opG (wantS_yes' rfl rfl hc56) (ex_move rfl) rfl <| Run.opG (wantS_yes' rfl rfl hc56) (ex_neq rfl rfl) rfl <| Run.opG wantS_none (ex_pickF' rfl hc56 rfl rfl) rfl <| Run.opsEnd ?_
   exact Run.pick [0, 3, 98] (law06_GlitchVetoes_5_ok F v0 (!(r51.2 == r54.2)) c25_0 c25_1 sv0 sc25_0 b25 _ _ _ hv0 hc25_0 hH h)

def law06_GlitchVetoes_1 (F : Nat) : Nat → (List S_api_Veto) → Int → (List Int) → Int → Option (Bool)
 | 0, _, _, _, _ => none
 | N + 1, v0, v5, c25_0, c25_1 =>
  bif (decide (v5 < (v0.length : Int))) then
   law06_GlitchVetoes_2 F (law06_GlitchVetoes_1 F N) v0 v5 (decide (v5 < (12 : Int))) c25_0 c25_1
  else
   law06_GlitchVetoes_2 F (law06_GlitchVetoes_1 F N) v0 v5 false c25_0 c25_1

theorem law06_GlitchVetoes_1_ok (F : Nat) : ∀ (N : Nat), ∀ (v0 : (List S_api_Veto)) (v5 : Int) (c25_0 : (List Int)) (c25_1 : Int) (sv0 sc25_0 : SV) (b25 : Pos) (Fr : Rd) (M : Mem) (r : Bool) (hv0 : Slc Fr 2 (rep35 Fr) sv0 v0) (hc25_0 : Slc Fr 1 (FlatR enc3) sc25_0 c25_0) (hH : Has Fr M [.obj b25 (.row 40 .whole [sc25_0, (.int .i64 c25_1)]), tb0, tb1, tb2]), law06_GlitchVetoes_1 F N v0 v5 c25_0 c25_1 = some r → Run Tryz.prog ⟨⟨4, [], none⟩, []⟩ 124 (law06_GlitchVetoes_post r) [(0, sv0), (3, (.ptr b25 0)), (5, (.int .i64 v5))] [codeC Tryz.prog 4 [1, 1, 0, 1, 0, 0], loopC Tryz.prog 4 [1, 1, 0, 1, 0, 0], .inBlock 0, codeC Tryz.prog 4 [1, 1, 1]] M := by
 intro N
 induction N with
 | zero =>
  intro v0 v5 c25_0 c25_1 sv0 sc25_0 b25 Fr M r hv0 hc25_0 hH h
  simp [law06_GlitchVetoes_1] at h
 | succ N ih =>
  intro v0 v5 c25_0 c25_1 sv0 sc25_0 b25 Fr M r hv0 hc25_0 hH h
  rw [law06_GlitchVetoes_1] at h
  refine Run.seq (Run.seq (Run.region ?_))
  refine Run.opG wantS_none (ex_move rfl) rfl <| Run.opG wantS_none (ex_move rfl) rfl <| Run.opG wantS_none (ex_len' rfl hv0 lenk22) rfl <| Run.opG wantS_none (ex_lss rfl rfl) rfl <| Run.opG wantS_none (ex_move rfl) rfl ?_
  rcases btf ((decide (v5 < (v0.length : Int)))) with hc34 | hc34
  ·have h := bif_t hc34 h
   refine Run.opG (wantS_yes' rfl rfl hc34) (ex_move rfl) rfl <| Run.opG (wantS_yes' rfl rfl hc34) (ex_lss rfl rfl) rfl <| Run.opG wantS_none (ex_pickT' rfl hc34 rfl rfl) rfl <| Run.opsEnd ?_
   exact Run.pick [0, 3, 5, 29] (law06_GlitchVetoes_2_ok F (law06_GlitchVetoes_1 F N) ih v0 v5 (decide (v5 < (12 : Int))) c25_0 c25_1 sv0 sc25_0 b25 _ _ _ hv0 hc25_0 hH h)
  ·have h := bif_f hc34 h
   refine Run.no (wantS_not' rfl rfl hc34) rfl <| Run.no (wantS_not' rfl rfl hc34) rfl <| Run.opG wantS_none (ex_pickF' rfl hc34 rfl rfl) rfl <| Run.opsEnd ?_
   exact Run.pick [0, 3, 5, 29] (law06_GlitchVetoes_2_ok F (law06_GlitchVetoes_1 F N) ih v0 v5 false c25_0 c25_1 sv0 sc25_0 b25 _ _ _ hv0 hc25_0 hH h)

def law06_GlitchVetoes (F : Nat) (a0 : (List S_api_Veto)) (a1 : S_ringdownlaw06_Watch) : Option (Bool) :=
 bnd (glitch_CheckVetoes F a0) fun r28 =>
 bnd (ref06_CheckVetoes F a0) fun r31 =>
 bif (!(r28 == r31)) then
  some false
 else
  law06_GlitchVetoes_1 F F a0 (0 : Int) a1.Times a1.Span

theorem law06_GlitchVetoes_run (F : Nat) (a0 : (List S_api_Veto)) (a1 : S_ringdownlaw06_Watch) (s0 s1 : SV) (r : Bool) (M : Mem) (hs0 : Slc (rd M) 2 (rep35 (rd M)) s0 a0) (hs1 : Slc (rd M) 1 (FlatR enc3) s1 a1.Times) (hfx : FixIn M fixes) (h : law06_GlitchVetoes F a0 a1 = some r) : Run Tryz.prog (fx0 4) 124 (law06_GlitchVetoes_post r) [(0, s0), (1, (.agg [s1, (.int .i64 a1.Span)]))] [codeC Tryz.prog 4 []] (frozen M) := by
 rw [law06_GlitchVetoes] at h
 replace hs0 := hs0.mono (rdLe_frozen M) (fun _ _ => rep35_mo (rdLe_frozen M))
 replace hs1 := hs1.mono (rdLe_frozen M) (fun _ _ h => h)
 have hH : Has (ro (frozen M)) (frozen M) [tb0, tb1, tb2] := Has.ofFix hfx.frozen
 refine Run.seq (Run.region ?_)
 refine Run.opX wantS_none rfl (ExG.box rfl rfl hH) ?_
 rintro _ M26 ⟨b25, rfl, hH26⟩
 refine Run.opG wantS_none (ex_assign rfl) rfl ?_
 refine Run.opsEnd (Run.seq (Run.seq (Run.region ?_)))
 refine Run.opG wantS_none (ex_move rfl) rfl ?_
 obtain ⟨r28, hr28, h⟩ := bnd_some h
 refine Run.callP wantS_none (ex_call rfl mkk14 cal14) rfl (glitch_CheckVetoes_ok F a0 s0 _ _ ((hs0).mono hH26.le (fun _ _ => rep35_mo hH26.le)) hr28) <| Run.opG wantS_none (ex_move rfl) rfl ?_
 obtain ⟨r31, hr31, h⟩ := bnd_some h
 refine Run.callP wantS_none (ex_call rfl mkk15 cal15) rfl (ref06_CheckVetoes_ok F a0 s0 _ _ ((hs0).mono hH26.le (fun _ _ => rep35_mo hH26.le)) hr31) <| Run.opG wantS_none (ex_neq rfl rfl) rfl <| Run.opsEnd ?_
 rcases btf ((!(r28 == r31))) with hc33 | hc33
 ·have h := bif_t hc33 h
  refine Run.condT' rfl hc33 ?_
  refine Run.seq (Run.region ?_)
  refine Run.opG wantS_none (ex_assign rfl) rfl <| Run.opsEnd ?_
  cases h
  exact Run.ret Tryz.func4 rfl (res_tmp rfl res_nil) rfl
 ·have h := bif_f hc33 h
  refine Run.condF' rfl hc33 ?_
  refine Run.skip (Run.seq (Run.seq (Run.region ?_)))
  refine Run.opG wantS_none (ex_assign rfl) rfl ?_
  refine Run.opsEnd (Run.block (Run.loop ?_))
  exact Run.pick [0, 3, 5] (law06_GlitchVetoes_1_ok F F a0 (0 : Int) a1.Times a1.Span s0 s1 b25 _ _ _ hs0 hs1 hH26 h)

end Go.Ev.GlitchVetoes
