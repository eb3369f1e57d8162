/- Plain functions that say what functions of the program come to, and proofs of it, written by a program of the verifier's own. -/
import Derived.Test.YtcifnjdjnoadfaaSearchSlidesPlain
namespace Go.Ev.SearchSlides
open Go Go.Ev Go.Proofs
set_option maxRecDepth 100000
set_option linter.unusedVariables false

abbrev search_clock_distance_post (r : Int) : SV → Mem → Prop := fun s _ => s = (.int .i64 r)

def search_clock_distance (F : Nat) (a0 : S_search_clock) (a1 : Int) (a2 : Int) : Option (Int) :=
  some (min (max (w64 (a1 - a2)) (w64 (a2 - a1))) (w64 (a0.live - (max (w64 (a1 - a2)) (w64 (a2 - a1))))))

theorem search_clock_distance_ok (F : Nat) (a0 : S_search_clock) (a1 : Int) (a2 : Int) (r : Int) (M : Mem) (h : search_clock_distance F a0 a1 a2 = some r) : CallsM Try.prog 106 [(.agg [(.int .i64 a0.live), (.int .i64 a0.window), (.int .i64 a0.step)]), (.int .i64 a1), (.int .i64 a2)] M (fun s M' => s = (.int .i64 r) ∧ M' = M) := by
  refine CallsM.plain Try.func106 rfl rfl rfl (show Run _ _ _ (search_clock_distance_post r) _ _ _ from ?_)
  rw [search_clock_distance] at h
  have hH := Has.nil (frozen M)
  refine Run.seq (Run.region ?_)
  refine Run.opX wantS_none rfl (ExG.box rfl rfl hH) ?_
  rintro _ M23 ⟨b22, rfl, (hH23 : Has (ro (frozen M)) M23 [.obj b22 (.row 87 .whole [(.int .i64 a0.live), (.int .i64 a0.window), (.int .i64 a0.step)])])⟩
  refine Run.opG wantS_none (ex_assign rfl) rfl ?_
  refine Run.opsEnd (Run.seq (Run.region ?_))
  refine Run.opG wantS_none (ex_move rfl) rfl ?_
  refine Run.opG wantS_none (ex_move rfl) rfl ?_
  refine Run.opG wantS_none (ex_sub rfl rfl) rfl ?_
  refine Run.opG wantS_none (ex_move rfl) rfl ?_
  refine Run.opG wantS_none (ex_move rfl) rfl ?_
  refine Run.opG wantS_none (ex_sub rfl rfl) rfl ?_
  refine Run.opG wantS_none (ex_max rfl rfl) rfl ?_
  refine Run.opG wantS_none (ex_assign rfl) rfl ?_
  refine Run.opsEnd (Run.seq (Run.region ?_))
  refine Run.opG wantS_none (ex_move rfl) rfl ?_
  refine Run.opG wantS_none (ex_fieldAddr rfl off87_0) rfl ?_
  refine Run.opG wantS_none (ex_load1 rfl (hH23.cells (i := 0) rfl 0 rfl) rdLe_rfl agg3) rfl ?_
  refine Run.opG wantS_none (ex_move rfl) rfl ?_
  refine Run.opG wantS_none (ex_sub rfl rfl) rfl ?_
  refine Run.opG wantS_none (ex_min rfl rfl) rfl ?_
  refine Run.opG wantS_none (ex_assign rfl) rfl ?_
  refine Run.opsEnd ?_
  cases h
  exact Run.ret Try.func106 rfl (res_tmp rfl res_nil) rfl

theorem mkk106 : makeK Try.prog 106 = none := by kernel_rfl
theorem cal106 : callable Try.prog 106 = true := by kernel_rfl
theorem zer71 : zerosOf Try.prog 71 = some [(.int .i64 0), (.int .i64 0), (.int .i64 0)] := by kernel_rfl
theorem pls71 : placesOf Try.prog 71 = some (.st [(0, 1), (1, 1), (2, 1)]) := by kernel_rfl
theorem sz71 : szOf Try.prog 71 = some 3 := by kernel_rfl
theorem off71_2 : fieldOff Try.prog 71 2 = some 2 := by kernel_rfl
theorem plan105_1_0_0_1_1_0_0_1_1_0_0_1_1_0_0_1_0 : planOf Try.prog (opsC (atC Try.prog 105 [1, 0, 0, 1, 1, 0, 0, 1, 1, 0, 0, 1, 1, 0, 0, 1, 0])) = some [.fl 0, .fl 1, .fl 2, .fl 3, .fl 4, .fl 5, .fl 6, .fl 7, .fl 8, .fl 9, .fl 10, .fl 12, .fl 13, .an 11 [13, 12], .fl 14, .fl 15, .fl 16, .sync] := by kernel_rfl
abbrev search_clock_loudest_post (r : Int) : SV → Mem → Prop := fun s _ => s = (.int .i64 r)

def search_clock_loudest_4 (F : Nat) (hd2 : Int → (List S_api_Trigger) → Int → Int → (List S_api_Trigger) → Int → Int → Int → Int → (List S_api_Trigger) → (List S_api_Trigger) → S_search_clock → S_api_Trigger → Option (Int)) (v5 : Int) (v10 : (List S_api_Trigger)) (v11 : Int) (v12 : Int) (v17 : (List S_api_Trigger)) (v18 : Int) (v19 : Int) (v53 : Bool) (v6_g37 : Int) (c25_0 : Int) (c32_0 : (List S_api_Trigger)) (c35_0 : (List S_api_Trigger)) (c29 : S_search_clock) (c43 : S_api_Trigger) : Option (Int) :=
  bif v53 then
    some c25_0
  else
    hd2 v5 v10 v11 v12 v17 v18 (w64 (v19 + (1 : Int))) v6_g37 c25_0 c32_0 c35_0 c29 c43

theorem search_clock_loudest_4_ok (F : Nat) (hd2 : Int → (List S_api_Trigger) → Int → Int → (List S_api_Trigger) → Int → Int → Int → Int → (List S_api_Trigger) → (List S_api_Trigger) → S_search_clock → S_api_Trigger → Option (Int)) (hhd2 : ∀ (v5 : Int) (v10 : (List S_api_Trigger)) (v11 : Int) (v12 : Int) (v17 : (List S_api_Trigger)) (v18 : Int) (v19 : Int) (v6_g37 : Int) (c25_0 : Int) (c32_0 : (List S_api_Trigger)) (c35_0 : (List S_api_Trigger)) (c29 : S_search_clock) (c43 : S_api_Trigger) (sv10 : SV) (sv17 : SV) (sc32_0 : SV) (sc35_0 : SV) (b37 : Pos) (b25 : Pos) (b32 : Pos) (b35 : Pos) (b29 : Pos) (b38 : Pos) (b43 : Pos) (Fr : Rd) (M : Mem) (r : Int) (hv10 : Slc Fr 3 (FlatR enc76) sv10 v10) (hv17 : Slc Fr 3 (FlatR enc76) sv17 v17) (hc32_0 : Slc Fr 3 (FlatR enc76) sc32_0 c32_0) (hc35_0 : Slc Fr 3 (FlatR enc76) sc35_0 c35_0) (hH : Has Fr M [.obj b37 (.loop ⟨.ready, none, 60, 19, treeOf [(6, (.int .i64 v6_g37)), (7, (.ptr b25 0)), (12, (.fn (.func 105) [] [(.ptr b32 0), (.ptr b35 0), (.ptr b29 0)]))], [13], (atC Try.prog 60 [1, 1, 0, 1, 0, 0]), (atC Try.prog 60 [1, 1, 0, 1, 0, 1]), b38⟩), .obj b25 (.row 3 .whole [(.int .i64 c25_0)]), .obj b32 (.row 22 .whole [sc32_0]), .obj b35 (.row 22 .whole [sc35_0]), .obj b29 (.row 87 .whole [(.int .i64 c29.live), (.int .i64 c29.window), (.int .i64 c29.step)]), .obj b38 .defd, .obj b43 (.row 76 .whole [(.int .i64 c43.Time), (.int .i64 c43.Loud), (.int .i64 c43.Template)])]), hd2 v5 v10 v11 v12 v17 v18 v19 v6_g37 c25_0 c32_0 c35_0 c29 c43 = some r → Run Try.prog ⟨⟨105, [], none⟩, [.mk ⟨60, [b38], none⟩ 19 (treeOf [(7, (.ptr b25 0))]) [.inRange b37, .inBlock 0, codeC Try.prog 60 [1, 1, 1]]]⟩ 56 (search_clock_loudest_post r) [(0, (.yield b37)), (2, (.ptr b35 0)), (3, (.ptr b29 0)), (5, (.int .i64 v5)), (6, (.ptr b43 0)), (10, sv10), (11, (.int .i64 v11)), (12, (.int .i64 v12)), (17, sv17), (18, (.int .i64 v18)), (19, (.int .i64 v19))] [codeC Try.prog 105 [1, 0, 0, 1, 1, 0, 0, 1, 1, 0, 0], loopC Try.prog 105 [1, 0, 0, 1, 1, 0, 0, 1, 1, 0, 0], .inBlock 2, .inBlock 1, codeC Try.prog 105 [1, 0, 0, 1, 1, 1], loopC Try.prog 105 [1, 0, 0], .inBlock 0] M) : ∀ (v5 : Int) (v10 : (List S_api_Trigger)) (v11 : Int) (v12 : Int) (v17 : (List S_api_Trigger)) (v18 : Int) (v19 : Int) (v53 : Bool) (v6_g37 : Int) (c25_0 : Int) (c32_0 : (List S_api_Trigger)) (c35_0 : (List S_api_Trigger)) (c29 : S_search_clock) (c43 : S_api_Trigger) (sv10 : SV) (sv17 : SV) (sc32_0 : SV) (sc35_0 : SV) (b37 : Pos) (b25 : Pos) (b32 : Pos) (b35 : Pos) (b29 : Pos) (b38 : Pos) (b43 : Pos) (Fr : Rd) (M : Mem) (r : Int) (hv10 : Slc Fr 3 (FlatR enc76) sv10 v10) (hv17 : Slc Fr 3 (FlatR enc76) sv17 v17) (hc32_0 : Slc Fr 3 (FlatR enc76) sc32_0 c32_0) (hc35_0 : Slc Fr 3 (FlatR enc76) sc35_0 c35_0) (hH : Has Fr M [.obj b37 (.loop ⟨.ready, none, 60, 19, treeOf [(6, (.int .i64 v6_g37)), (7, (.ptr b25 0)), (12, (.fn (.func 105) [] [(.ptr b32 0), (.ptr b35 0), (.ptr b29 0)]))], [13], (atC Try.prog 60 [1, 1, 0, 1, 0, 0]), (atC Try.prog 60 [1, 1, 0, 1, 0, 1]), b38⟩), .obj b25 (.row 3 .whole [(.int .i64 c25_0)]), .obj b32 (.row 22 .whole [sc32_0]), .obj b35 (.row 22 .whole [sc35_0]), .obj b29 (.row 87 .whole [(.int .i64 c29.live), (.int .i64 c29.window), (.int .i64 c29.step)]), .obj b38 .defd, .obj b43 (.row 76 .whole [(.int .i64 c43.Time), (.int .i64 c43.Loud), (.int .i64 c43.Template)])]), search_clock_loudest_4 F hd2 v5 v10 v11 v12 v17 v18 v19 v53 v6_g37 c25_0 c32_0 c35_0 c29 c43 = some r → Run Try.prog ⟨⟨105, [], none⟩, [.mk ⟨60, [b38], none⟩ 19 (treeOf [(7, (.ptr b25 0))]) [.inRange b37, .inBlock 0, codeC Try.prog 60 [1, 1, 1]]]⟩ 56 (search_clock_loudest_post r) [(0, (.yield b37)), (2, (.ptr b35 0)), (3, (.ptr b29 0)), (5, (.int .i64 v5)), (6, (.ptr b43 0)), (10, sv10), (11, (.int .i64 v11)), (12, (.int .i64 v12)), (17, sv17), (18, (.int .i64 v18)), (19, (.int .i64 v19)), (53, (.bool v53))] [codeC Try.prog 105 [1, 0, 0, 1, 1, 0, 0, 1, 1, 0, 0, 1, 1, 0, 0, 1, 1, 1], .inBlock 3, codeC Try.prog 105 [1, 0, 0, 1, 1, 0, 0, 1, 1, 0, 0, 1, 1, 1], loopC Try.prog 105 [1, 0, 0, 1, 1, 0, 0, 1, 1, 0, 0], .inBlock 2, .inBlock 1, codeC Try.prog 105 [1, 0, 0, 1, 1, 1], loopC Try.prog 105 [1, 0, 0], .inBlock 0] M := by
  intro v5 v10 v11 v12 v17 v18 v19 v53 v6_g37 c25_0 c32_0 c35_0 c29 c43 sv10 sv17 sc32_0 sc35_0 b37 b25 b32 b35 b29 b38 b43 Fr M r hv10 hv17 hc32_0 hc35_0 hH h
  rw [search_clock_loudest_4] at h
  rcases btf (v53) with hc64 | hc64
  · have h := bif_t hc64 h
    refine Run.condT' rfl hc64 ?_
    refine Run.retRange Try.func105 rfl res_nil ?_
    refine Run.endX hH (i := 0) rfl (fun hc => by cases hc) ?_
    intro M65 (hH65 : Has Fr M65 [.obj b37 (.loop ⟨.exhausted, none, 60, 19, treeOf [(6, (.int .i64 v6_g37)), (7, (.ptr b25 0)), (12, (.fn (.func 105) [] [(.ptr b32 0), (.ptr b35 0), (.ptr b29 0)]))], [13], (atC Try.prog 60 [1, 1, 0, 1, 0, 0]), (atC Try.prog 60 [1, 1, 0, 1, 0, 1]), b38⟩), .obj b25 (.row 3 .whole [(.int .i64 c25_0)]), .obj b32 (.row 22 .whole [sc32_0]), .obj b35 (.row 22 .whole [sc35_0]), .obj b29 (.row 87 .whole [(.int .i64 c29.live), (.int .i64 c29.window), (.int .i64 c29.step)]), .obj b38 .defd, .obj b43 (.row 76 .whole [(.int .i64 c43.Time), (.int .i64 c43.Loud), (.int .i64 c43.Template)])])
    refine Run.inBlock (Run.seq (Run.region ?_))
    refine Run.opG wantS_none (ex_load1 rfl (hH65.cells (i := 1) rfl 0 rfl) rdLe_rfl agg3) rfl ?_
    refine Run.opG wantS_none (ex_assign rfl) rfl ?_
    refine Run.opsEnd ?_
    obtain ⟨hH66x, hS66⟩ := hH65.shut (i := 5) (ds := []) rfl
    have hH66 : Has Fr (setT M65 b38 none) [.obj b37 (.loop ⟨.exhausted, none, 60, 19, treeOf [(6, (.int .i64 v6_g37)), (7, (.ptr b25 0)), (12, (.fn (.func 105) [] [(.ptr b32 0), (.ptr b35 0), (.ptr b29 0)]))], [13], (atC Try.prog 60 [1, 1, 0, 1, 0, 0]), (atC Try.prog 60 [1, 1, 0, 1, 0, 1]), b38⟩), .obj b25 (.row 3 .whole [(.int .i64 c25_0)]), .obj b32 (.row 22 .whole [sc32_0]), .obj b35 (.row 22 .whole [sc35_0]), .obj b29 (.row 87 .whole [(.int .i64 c29.live), (.int .i64 c29.window), (.int .i64 c29.step)]), .vec 0 0 0 .nils [], .obj b43 (.row 76 .whole [(.int .i64 c43.Time), (.int .i64 c43.Loud), (.int .i64 c43.Template)])] := hH66x
    cases h
    exact Run.ret Try.func60 (hS66 _ rfl) (res_tmp rfl res_nil) rfl
  · have h := bif_f hc64 h
    refine Run.condF' rfl hc64 ?_
    refine Run.skip (Run.inBlock (Run.region ?_))
    refine Run.opG wantS_none (ex_add rfl rfl) rfl ?_
    refine Run.opG wantS_none (ex_move rfl) rfl ?_
    refine Run.opsEnd (Run.inLoop ?_)
    exact Run.low (.cons (fle_pick [7] rfl) .nil) (Run.pick [0, 2, 3, 5, 6, 10, 11, 12, 17, 18, 19] (hhd2 v5 v10 v11 v12 v17 v18 (w64 (v19 + (1 : Int))) v6_g37 c25_0 c32_0 c35_0 c29 c43 sv10 sv17 sc32_0 sc35_0 b37 b25 b32 b35 b29 b38 b43 _ _ _ hv10 hv17 hc32_0 hc35_0 hH h))

def search_clock_loudest_3 (F : Nat) (hd2 : Int → (List S_api_Trigger) → Int → Int → (List S_api_Trigger) → Int → Int → Int → Int → (List S_api_Trigger) → (List S_api_Trigger) → S_search_clock → S_api_Trigger → Option (Int)) (v5 : Int) (v7 : Int) (v9 : Bool) (v10 : (List S_api_Trigger)) (v11 : Int) (v12 : Int) (v17 : (List S_api_Trigger)) (v18 : Int) (v19 : Int) (v6_g37 : Int) (c25_0 : Int) (c32_0 : (List S_api_Trigger)) (c35_0 : (List S_api_Trigger)) (c29 : S_search_clock) (c43 : S_api_Trigger) (c50 : S_api_Trigger) : Option (Int) :=
  bif v9 then
    search_clock_loudest_4 F hd2 v5 v10 v11 v12 v17 v18 v19 (!true) v6_g37 (max c25_0 (w64 (c43.Loud + c50.Loud))) c32_0 c35_0 c29 c43
  else
    search_clock_loudest_4 F hd2 v5 v10 v11 v12 v17 v18 v19 false v6_g37 c25_0 c32_0 c35_0 c29 c43

theorem search_clock_loudest_3_ok (F : Nat) (hd2 : Int → (List S_api_Trigger) → Int → Int → (List S_api_Trigger) → Int → Int → Int → Int → (List S_api_Trigger) → (List S_api_Trigger) → S_search_clock → S_api_Trigger → Option (Int)) (hhd2 : ∀ (v5 : Int) (v10 : (List S_api_Trigger)) (v11 : Int) (v12 : Int) (v17 : (List S_api_Trigger)) (v18 : Int) (v19 : Int) (v6_g37 : Int) (c25_0 : Int) (c32_0 : (List S_api_Trigger)) (c35_0 : (List S_api_Trigger)) (c29 : S_search_clock) (c43 : S_api_Trigger) (sv10 : SV) (sv17 : SV) (sc32_0 : SV) (sc35_0 : SV) (b37 : Pos) (b25 : Pos) (b32 : Pos) (b35 : Pos) (b29 : Pos) (b38 : Pos) (b43 : Pos) (Fr : Rd) (M : Mem) (r : Int) (hv10 : Slc Fr 3 (FlatR enc76) sv10 v10) (hv17 : Slc Fr 3 (FlatR enc76) sv17 v17) (hc32_0 : Slc Fr 3 (FlatR enc76) sc32_0 c32_0) (hc35_0 : Slc Fr 3 (FlatR enc76) sc35_0 c35_0) (hH : Has Fr M [.obj b37 (.loop ⟨.ready, none, 60, 19, treeOf [(6, (.int .i64 v6_g37)), (7, (.ptr b25 0)), (12, (.fn (.func 105) [] [(.ptr b32 0), (.ptr b35 0), (.ptr b29 0)]))], [13], (atC Try.prog 60 [1, 1, 0, 1, 0, 0]), (atC Try.prog 60 [1, 1, 0, 1, 0, 1]), b38⟩), .obj b25 (.row 3 .whole [(.int .i64 c25_0)]), .obj b32 (.row 22 .whole [sc32_0]), .obj b35 (.row 22 .whole [sc35_0]), .obj b29 (.row 87 .whole [(.int .i64 c29.live), (.int .i64 c29.window), (.int .i64 c29.step)]), .obj b38 .defd, .obj b43 (.row 76 .whole [(.int .i64 c43.Time), (.int .i64 c43.Loud), (.int .i64 c43.Template)])]), hd2 v5 v10 v11 v12 v17 v18 v19 v6_g37 c25_0 c32_0 c35_0 c29 c43 = some r → Run Try.prog ⟨⟨105, [], none⟩, [.mk ⟨60, [b38], none⟩ 19 (treeOf [(7, (.ptr b25 0))]) [.inRange b37, .inBlock 0, codeC Try.prog 60 [1, 1, 1]]]⟩ 56 (search_clock_loudest_post r) [(0, (.yield b37)), (2, (.ptr b35 0)), (3, (.ptr b29 0)), (5, (.int .i64 v5)), (6, (.ptr b43 0)), (10, sv10), (11, (.int .i64 v11)), (12, (.int .i64 v12)), (17, sv17), (18, (.int .i64 v18)), (19, (.int .i64 v19))] [codeC Try.prog 105 [1, 0, 0, 1, 1, 0, 0, 1, 1, 0, 0], loopC Try.prog 105 [1, 0, 0, 1, 1, 0, 0, 1, 1, 0, 0], .inBlock 2, .inBlock 1, codeC Try.prog 105 [1, 0, 0, 1, 1, 1], loopC Try.prog 105 [1, 0, 0], .inBlock 0] M) : ∀ (v5 : Int) (v7 : Int) (v9 : Bool) (v10 : (List S_api_Trigger)) (v11 : Int) (v12 : Int) (v17 : (List S_api_Trigger)) (v18 : Int) (v19 : Int) (v6_g37 : Int) (c25_0 : Int) (c32_0 : (List S_api_Trigger)) (c35_0 : (List S_api_Trigger)) (c29 : S_search_clock) (c43 : S_api_Trigger) (c50 : S_api_Trigger) (sv10 : SV) (sv17 : SV) (sc32_0 : SV) (sc35_0 : SV) (b37 : Pos) (b25 : Pos) (b32 : Pos) (b35 : Pos) (b29 : Pos) (b38 : Pos) (b43 : Pos) (b50 : Pos) (Fr : Rd) (M : Mem) (r : Int) (hv10 : Slc Fr 3 (FlatR enc76) sv10 v10) (hv17 : Slc Fr 3 (FlatR enc76) sv17 v17) (hc32_0 : Slc Fr 3 (FlatR enc76) sc32_0 c32_0) (hc35_0 : Slc Fr 3 (FlatR enc76) sc35_0 c35_0) (hH : Has Fr M [.obj b37 (.loop ⟨.ready, none, 60, 19, treeOf [(6, (.int .i64 v6_g37)), (7, (.ptr b25 0)), (12, (.fn (.func 105) [] [(.ptr b32 0), (.ptr b35 0), (.ptr b29 0)]))], [13], (atC Try.prog 60 [1, 1, 0, 1, 0, 0]), (atC Try.prog 60 [1, 1, 0, 1, 0, 1]), b38⟩), .obj b25 (.row 3 .whole [(.int .i64 c25_0)]), .obj b32 (.row 22 .whole [sc32_0]), .obj b35 (.row 22 .whole [sc35_0]), .obj b29 (.row 87 .whole [(.int .i64 c29.live), (.int .i64 c29.window), (.int .i64 c29.step)]), .obj b38 .defd, .obj b43 (.row 76 .whole [(.int .i64 c43.Time), (.int .i64 c43.Loud), (.int .i64 c43.Template)]), .obj b50 (.row 76 .whole [(.int .i64 c50.Time), (.int .i64 c50.Loud), (.int .i64 c50.Template)])]), search_clock_loudest_3 F hd2 v5 v7 v9 v10 v11 v12 v17 v18 v19 v6_g37 c25_0 c32_0 c35_0 c29 c43 c50 = some r → Run Try.prog ⟨⟨105, [], none⟩, [.mk ⟨60, [b38], none⟩ 19 (treeOf [(7, (.ptr b25 0))]) [.inRange b37, .inBlock 0, codeC Try.prog 60 [1, 1, 1]]]⟩ 56 (search_clock_loudest_post r) [(0, (.yield b37)), (2, (.ptr b35 0)), (3, (.ptr b29 0)), (5, (.int .i64 v5)), (6, (.ptr b43 0)), (7, (.int .i64 v7)), (8, (.ptr b50 0)), (9, (.bool v9)), (10, sv10), (11, (.int .i64 v11)), (12, (.int .i64 v12)), (17, sv17), (18, (.int .i64 v18)), (19, (.int .i64 v19))] [itemC Try.prog 105 [1, 0, 0, 1, 1, 0, 0, 1, 1, 0, 0, 1, 1, 0, 0, 1, 1, 0] 0, codeC Try.prog 105 [1, 0, 0, 1, 1, 0, 0, 1, 1, 0, 0, 1, 1, 0, 0, 1, 1, 1], .inBlock 3, codeC Try.prog 105 [1, 0, 0, 1, 1, 0, 0, 1, 1, 0, 0, 1, 1, 1], loopC Try.prog 105 [1, 0, 0, 1, 1, 0, 0, 1, 1, 0, 0], .inBlock 2, .inBlock 1, codeC Try.prog 105 [1, 0, 0, 1, 1, 1], loopC Try.prog 105 [1, 0, 0], .inBlock 0] M := by
  intro v5 v7 v9 v10 v11 v12 v17 v18 v19 v6_g37 c25_0 c32_0 c35_0 c29 c43 c50 sv10 sv17 sc32_0 sc35_0 b37 b25 b32 b35 b29 b38 b43 b50 Fr M r hv10 hv17 hc32_0 hc35_0 hH h
  rw [search_clock_loudest_3] at h
  refine Run.opG wantS_none (ex_move rfl) rfl ?_
  refine Run.opG wantS_none (ex_move rfl) rfl ?_
  rcases btf (v9) with hc56 | hc56
  · have h := bif_t hc56 h
    refine Run.opG (wantS_yes' rfl rfl hc56) (ex_move rfl) rfl ?_
    refine Run.opG (wantS_yes' rfl rfl hc56) (ex_move rfl) rfl ?_
    refine Run.opG (wantS_yes' rfl rfl hc56) (ex_move rfl) rfl ?_
    refine Run.opG (wantS_yes' rfl rfl hc56) (ex_fieldAddr rfl off76_1) rfl ?_
    refine Run.opG (wantS_yes' rfl rfl hc56) (ex_load1 rfl (hH.cells (i := 6) rfl 1 rfl) rdLe_rfl agg3) rfl ?_
    refine Run.opG (wantS_yes' rfl rfl hc56) (ex_fieldAddr rfl off76_1) rfl ?_
    refine Run.opG (wantS_yes' rfl rfl hc56) (ex_load1 rfl (hH.cells (i := 7) rfl 1 rfl) rdLe_rfl agg3) rfl ?_
    refine Run.opG (wantS_yes' rfl rfl hc56) (ex_add rfl rfl) rfl ?_
    refine Run.opG (wantS_yes' rfl rfl hc56) (ex_build (r := [(.int .i64 v5), (.int .i64 v7), (.int .i64 (w64 (c43.Loud + c50.Loud)))]) rfl zer71 pls71 rfl) rfl ?_
    refine Run.round (e' := [(13, (.agg [(.int .i64 v5), (.int .i64 v7), (.int .i64 (w64 (c43.Loud + c50.Loud)))])), (6, (.int .i64 v6_g37)), (7, (.ptr b25 0)), (12, (.fn (.func 105) [] [(.ptr b32 0), (.ptr b35 0), (.ptr b29 0)]))]) (wantS_yes' rfl rfl hc56) (ex_yield hH (i := 0) rfl rfl rfl rfl) (hH.loopOf (i := 0) rfl) rfl ?_
    refine Run.region ?_
    refine Run.opX wantS_none rfl (ExG.new (v := fun b => .ptr b 0) (ex_alloc zer71) hH) ?_
    rintro _ M59 ⟨b58, rfl, (hH59 : Has Fr M59 [.obj b58 (.row 71 .whole [(.int .i64 0), (.int .i64 0), (.int .i64 0)]), .obj b37 (.loop ⟨.ready, none, 60, 19, treeOf [(6, (.int .i64 v6_g37)), (7, (.ptr b25 0)), (12, (.fn (.func 105) [] [(.ptr b32 0), (.ptr b35 0), (.ptr b29 0)]))], [13], (atC Try.prog 60 [1, 1, 0, 1, 0, 0]), (atC Try.prog 60 [1, 1, 0, 1, 0, 1]), b38⟩), .obj b25 (.row 3 .whole [(.int .i64 c25_0)]), .obj b32 (.row 22 .whole [sc32_0]), .obj b35 (.row 22 .whole [sc35_0]), .obj b29 (.row 87 .whole [(.int .i64 c29.live), (.int .i64 c29.window), (.int .i64 c29.step)]), .obj b38 .defd, .obj b43 (.row 76 .whole [(.int .i64 c43.Time), (.int .i64 c43.Loud), (.int .i64 c43.Template)]), .obj b50 (.row 76 .whole [(.int .i64 c50.Time), (.int .i64 c50.Loud), (.int .i64 c50.Template)])])⟩
    refine Run.opX wantS_none rfl (ExG.storeC (c' := [(.int .i64 v5), (.int .i64 v7), (.int .i64 (w64 (c43.Loud + c50.Loud)))]) rfl rfl rfl hH59 (i := 0) rfl sz71 rfl rfl rfl rfl rfl) ?_
    rintro _ M60 ⟨rfl, (hH60 : Has Fr M60 [.obj b58 (.row 71 .whole [(.int .i64 v5), (.int .i64 v7), (.int .i64 (w64 (c43.Loud + c50.Loud)))]), .obj b37 (.loop ⟨.ready, none, 60, 19, treeOf [(6, (.int .i64 v6_g37)), (7, (.ptr b25 0)), (12, (.fn (.func 105) [] [(.ptr b32 0), (.ptr b35 0), (.ptr b29 0)]))], [13], (atC Try.prog 60 [1, 1, 0, 1, 0, 0]), (atC Try.prog 60 [1, 1, 0, 1, 0, 1]), b38⟩), .obj b25 (.row 3 .whole [(.int .i64 c25_0)]), .obj b32 (.row 22 .whole [sc32_0]), .obj b35 (.row 22 .whole [sc35_0]), .obj b29 (.row 87 .whole [(.int .i64 c29.live), (.int .i64 c29.window), (.int .i64 c29.step)]), .obj b38 .defd, .obj b43 (.row 76 .whole [(.int .i64 c43.Time), (.int .i64 c43.Loud), (.int .i64 c43.Template)]), .obj b50 (.row 76 .whole [(.int .i64 c50.Time), (.int .i64 c50.Loud), (.int .i64 c50.Template)])])⟩
    refine Run.opsEnd ?_
    refine Run.beginX hH60 (i := 1) rfl rfl ?_
    intro M61 (hH61 : Has Fr M61 [.obj b58 (.row 71 .whole [(.int .i64 v5), (.int .i64 v7), (.int .i64 (w64 (c43.Loud + c50.Loud)))]), .obj b37 (.loop ⟨.busy, none, 60, 19, treeOf [(6, (.int .i64 v6_g37)), (7, (.ptr b25 0)), (12, (.fn (.func 105) [] [(.ptr b32 0), (.ptr b35 0), (.ptr b29 0)]))], [13], (atC Try.prog 60 [1, 1, 0, 1, 0, 0]), (atC Try.prog 60 [1, 1, 0, 1, 0, 1]), b38⟩), .obj b25 (.row 3 .whole [(.int .i64 c25_0)]), .obj b32 (.row 22 .whole [sc32_0]), .obj b35 (.row 22 .whole [sc35_0]), .obj b29 (.row 87 .whole [(.int .i64 c29.live), (.int .i64 c29.window), (.int .i64 c29.step)]), .obj b38 .defd, .obj b43 (.row 76 .whole [(.int .i64 c43.Time), (.int .i64 c43.Loud), (.int .i64 c43.Template)]), .obj b50 (.row 76 .whole [(.int .i64 c50.Time), (.int .i64 c50.Loud), (.int .i64 c50.Template)])])
    refine Run.block (Run.region ?_)
    refine Run.opG wantS_none (ex_load1 rfl (hH61.cells (i := 2) rfl 0 rfl) rdLe_rfl agg3) rfl ?_
    refine Run.opG wantS_none (ex_fieldAddr rfl off71_2) rfl ?_
    refine Run.opG wantS_none (ex_load1 rfl (hH61.cells (i := 0) rfl 2 rfl) rdLe_rfl agg3) rfl ?_
    refine Run.opG wantS_none (ex_max rfl rfl) rfl ?_
    refine Run.opX wantS_none rfl (ExG.storeC (c' := [(.int .i64 (max c25_0 (w64 (c43.Loud + c50.Loud))))]) rfl rfl rfl hH61 (i := 2) rfl sz3 rfl rfl rfl rfl rfl) ?_
    rintro _ M62 ⟨rfl, (hH62 : Has Fr M62 [.obj b58 (.row 71 .whole [(.int .i64 v5), (.int .i64 v7), (.int .i64 (w64 (c43.Loud + c50.Loud)))]), .obj b37 (.loop ⟨.busy, none, 60, 19, treeOf [(6, (.int .i64 v6_g37)), (7, (.ptr b25 0)), (12, (.fn (.func 105) [] [(.ptr b32 0), (.ptr b35 0), (.ptr b29 0)]))], [13], (atC Try.prog 60 [1, 1, 0, 1, 0, 0]), (atC Try.prog 60 [1, 1, 0, 1, 0, 1]), b38⟩), .obj b25 (.row 3 .whole [(.int .i64 (max c25_0 (w64 (c43.Loud + c50.Loud))))]), .obj b32 (.row 22 .whole [sc32_0]), .obj b35 (.row 22 .whole [sc35_0]), .obj b29 (.row 87 .whole [(.int .i64 c29.live), (.int .i64 c29.window), (.int .i64 c29.step)]), .obj b38 .defd, .obj b43 (.row 76 .whole [(.int .i64 c43.Time), (.int .i64 c43.Loud), (.int .i64 c43.Template)]), .obj b50 (.row 76 .whole [(.int .i64 c50.Time), (.int .i64 c50.Loud), (.int .i64 c50.Template)])])⟩
    refine Run.opsEnd (Run.inBlock ?_)
    refine Run.roundEndX hH62 (i := 1) rfl rfl ?_
    intro M63 (hH63 : Has Fr M63 [.obj b58 (.row 71 .whole [(.int .i64 v5), (.int .i64 v7), (.int .i64 (w64 (c43.Loud + c50.Loud)))]), .obj b37 (.loop ⟨.ready, none, 60, 19, treeOf [(6, (.int .i64 v6_g37)), (7, (.ptr b25 0)), (12, (.fn (.func 105) [] [(.ptr b32 0), (.ptr b35 0), (.ptr b29 0)]))], [13], (atC Try.prog 60 [1, 1, 0, 1, 0, 0]), (atC Try.prog 60 [1, 1, 0, 1, 0, 1]), b38⟩), .obj b25 (.row 3 .whole [(.int .i64 (max c25_0 (w64 (c43.Loud + c50.Loud))))]), .obj b32 (.row 22 .whole [sc32_0]), .obj b35 (.row 22 .whole [sc35_0]), .obj b29 (.row 87 .whole [(.int .i64 c29.live), (.int .i64 c29.window), (.int .i64 c29.step)]), .obj b38 .defd, .obj b43 (.row 76 .whole [(.int .i64 c43.Time), (.int .i64 c43.Loud), (.int .i64 c43.Template)]), .obj b50 (.row 76 .whole [(.int .i64 c50.Time), (.int .i64 c50.Loud), (.int .i64 c50.Template)])])
    refine Run.opG (wantS_yes' rfl rfl hc56) (ex_not rfl) rfl ?_
    refine Run.opG wantS_none (ex_pickT' rfl hc56 rfl rfl) rfl ?_
    refine Run.opsEnd ?_
    exact Run.low (.cons (fle_pick [7] rfl) .nil) (Run.pick [0, 2, 3, 5, 6, 10, 11, 12, 17, 18, 19, 53] (search_clock_loudest_4_ok F hd2 hhd2 v5 v10 v11 v12 v17 v18 v19 (!true) v6_g37 (max c25_0 (w64 (c43.Loud + c50.Loud))) c32_0 c35_0 c29 c43 sv10 sv17 sc32_0 sc35_0 b37 b25 b32 b35 b29 b38 b43 _ _ _ hv10 hv17 hc32_0 hc35_0 (hH63.pick [1, 2, 3, 4, 5, 6, 7] rfl rfl) h))
  · have h := bif_f hc56 h
    refine Run.no (wantS_not' rfl rfl hc56) rfl ?_
    refine Run.no (wantS_not' rfl rfl hc56) rfl ?_
    refine Run.no (wantS_not' rfl rfl hc56) rfl ?_
    refine Run.no (wantS_not' rfl rfl hc56) rfl ?_
    refine Run.no (wantS_not' rfl rfl hc56) rfl ?_
    refine Run.no (wantS_not' rfl rfl hc56) rfl ?_
    refine Run.no (wantS_not' rfl rfl hc56) rfl ?_
    refine Run.no (wantS_not' rfl rfl hc56) rfl ?_
    refine Run.no (wantS_not' rfl rfl hc56) rfl ?_
    refine Run.no (wantS_not' rfl rfl hc56) rfl ?_
    refine Run.no (wantS_not' rfl rfl hc56) rfl ?_
    refine Run.opG wantS_none (ex_pickF' rfl hc56 rfl rfl) rfl ?_
    refine Run.opsEnd ?_
    exact Run.low (.cons (fle_pick [7] rfl) .nil) (Run.pick [0, 2, 3, 5, 6, 10, 11, 12, 17, 18, 19, 53] (search_clock_loudest_4_ok F hd2 hhd2 v5 v10 v11 v12 v17 v18 v19 false v6_g37 c25_0 c32_0 c35_0 c29 c43 sv10 sv17 sc32_0 sc35_0 b37 b25 b32 b35 b29 b38 b43 _ _ _ hv10 hv17 hc32_0 hc35_0 (hH.pick [0, 1, 2, 3, 4, 5, 6] rfl rfl) h))

def search_clock_loudest_2 (F : Nat) (hd1 : (List S_api_Trigger) → Int → Int → Int → Int → (List S_api_Trigger) → (List S_api_Trigger) → S_search_clock → Option (Int)) : Nat → Int → (List S_api_Trigger) → Int → Int → (List S_api_Trigger) → Int → Int → Int → Int → (List S_api_Trigger) → (List S_api_Trigger) → S_search_clock → S_api_Trigger → Option (Int)
  | 0, _, _, _, _, _, _, _, _, _, _, _, _, _ => none
  | N + 1, v5, v10, v11, v12, v17, v18, v19, v6_g37, c25_0, c32_0, c35_0, c29, c43 =>
    bif (decide (v19 < v18)) then
      bnd (idx v17 v19) fun x48 =>
      bif (c43.Template == x48.Template) then
        bnd (search_clock_distance F c29 c43.Time x48.Time) fun r54 =>
        search_clock_loudest_3 F (search_clock_loudest_2 F hd1 N) v5 v19 (decide (r54 ≤ c29.window)) v10 v11 v12 v17 v18 v19 v6_g37 c25_0 c32_0 c35_0 c29 c43 x48
      else
        search_clock_loudest_3 F (search_clock_loudest_2 F hd1 N) v5 v19 false v10 v11 v12 v17 v18 v19 v6_g37 c25_0 c32_0 c35_0 c29 c43 x48
    else
      hd1 v10 v11 (w64 (v12 + (1 : Int))) v6_g37 c25_0 c32_0 c35_0 c29

theorem search_clock_loudest_2_ok (F : Nat) (hd1 : (List S_api_Trigger) → Int → Int → Int → Int → (List S_api_Trigger) → (List S_api_Trigger) → S_search_clock → Option (Int)) (hhd1 : ∀ (v10 : (List S_api_Trigger)) (v11 : Int) (v12 : Int) (v6_g37 : Int) (c25_0 : Int) (c32_0 : (List S_api_Trigger)) (c35_0 : (List S_api_Trigger)) (c29 : S_search_clock) (sv10 : SV) (sc32_0 : SV) (sc35_0 : SV) (b37 : Pos) (b25 : Pos) (b32 : Pos) (b35 : Pos) (b29 : Pos) (b38 : Pos) (Fr : Rd) (M : Mem) (r : Int) (hv10 : Slc Fr 3 (FlatR enc76) sv10 v10) (hc32_0 : Slc Fr 3 (FlatR enc76) sc32_0 c32_0) (hc35_0 : Slc Fr 3 (FlatR enc76) sc35_0 c35_0) (hH : Has Fr M [.obj b37 (.loop ⟨.ready, none, 60, 19, treeOf [(6, (.int .i64 v6_g37)), (7, (.ptr b25 0)), (12, (.fn (.func 105) [] [(.ptr b32 0), (.ptr b35 0), (.ptr b29 0)]))], [13], (atC Try.prog 60 [1, 1, 0, 1, 0, 0]), (atC Try.prog 60 [1, 1, 0, 1, 0, 1]), b38⟩), .obj b25 (.row 3 .whole [(.int .i64 c25_0)]), .obj b32 (.row 22 .whole [sc32_0]), .obj b35 (.row 22 .whole [sc35_0]), .obj b29 (.row 87 .whole [(.int .i64 c29.live), (.int .i64 c29.window), (.int .i64 c29.step)]), .obj b38 .defd]), hd1 v10 v11 v12 v6_g37 c25_0 c32_0 c35_0 c29 = some r → Run Try.prog ⟨⟨105, [], none⟩, [.mk ⟨60, [b38], none⟩ 19 (treeOf [(7, (.ptr b25 0))]) [.inRange b37, .inBlock 0, codeC Try.prog 60 [1, 1, 1]]]⟩ 56 (search_clock_loudest_post r) [(0, (.yield b37)), (2, (.ptr b35 0)), (3, (.ptr b29 0)), (10, sv10), (11, (.int .i64 v11)), (12, (.int .i64 v12))] [codeC Try.prog 105 [1, 0, 0], loopC Try.prog 105 [1, 0, 0], .inBlock 0] M) : ∀ (N : Nat), ∀ (v5 : Int) (v10 : (List S_api_Trigger)) (v11 : Int) (v12 : Int) (v17 : (List S_api_Trigger)) (v18 : Int) (v19 : Int) (v6_g37 : Int) (c25_0 : Int) (c32_0 : (List S_api_Trigger)) (c35_0 : (List S_api_Trigger)) (c29 : S_search_clock) (c43 : S_api_Trigger) (sv10 : SV) (sv17 : SV) (sc32_0 : SV) (sc35_0 : SV) (b37 : Pos) (b25 : Pos) (b32 : Pos) (b35 : Pos) (b29 : Pos) (b38 : Pos) (b43 : Pos) (Fr : Rd) (M : Mem) (r : Int) (hv10 : Slc Fr 3 (FlatR enc76) sv10 v10) (hv17 : Slc Fr 3 (FlatR enc76) sv17 v17) (hc32_0 : Slc Fr 3 (FlatR enc76) sc32_0 c32_0) (hc35_0 : Slc Fr 3 (FlatR enc76) sc35_0 c35_0) (hH : Has Fr M [.obj b37 (.loop ⟨.ready, none, 60, 19, treeOf [(6, (.int .i64 v6_g37)), (7, (.ptr b25 0)), (12, (.fn (.func 105) [] [(.ptr b32 0), (.ptr b35 0), (.ptr b29 0)]))], [13], (atC Try.prog 60 [1, 1, 0, 1, 0, 0]), (atC Try.prog 60 [1, 1, 0, 1, 0, 1]), b38⟩), .obj b25 (.row 3 .whole [(.int .i64 c25_0)]), .obj b32 (.row 22 .whole [sc32_0]), .obj b35 (.row 22 .whole [sc35_0]), .obj b29 (.row 87 .whole [(.int .i64 c29.live), (.int .i64 c29.window), (.int .i64 c29.step)]), .obj b38 .defd, .obj b43 (.row 76 .whole [(.int .i64 c43.Time), (.int .i64 c43.Loud), (.int .i64 c43.Template)])]), search_clock_loudest_2 F hd1 N v5 v10 v11 v12 v17 v18 v19 v6_g37 c25_0 c32_0 c35_0 c29 c43 = some r → Run Try.prog ⟨⟨105, [], none⟩, [.mk ⟨60, [b38], none⟩ 19 (treeOf [(7, (.ptr b25 0))]) [.inRange b37, .inBlock 0, codeC Try.prog 60 [1, 1, 1]]]⟩ 56 (search_clock_loudest_post r) [(0, (.yield b37)), (2, (.ptr b35 0)), (3, (.ptr b29 0)), (5, (.int .i64 v5)), (6, (.ptr b43 0)), (10, sv10), (11, (.int .i64 v11)), (12, (.int .i64 v12)), (17, sv17), (18, (.int .i64 v18)), (19, (.int .i64 v19))] [codeC Try.prog 105 [1, 0, 0, 1, 1, 0, 0, 1, 1, 0, 0], loopC Try.prog 105 [1, 0, 0, 1, 1, 0, 0, 1, 1, 0, 0], .inBlock 2, .inBlock 1, codeC Try.prog 105 [1, 0, 0, 1, 1, 1], loopC Try.prog 105 [1, 0, 0], .inBlock 0] M := by
  intro N
  induction N with
  | zero =>
    intro v5 v10 v11 v12 v17 v18 v19 v6_g37 c25_0 c32_0 c35_0 c29 c43 sv10 sv17 sc32_0 sc35_0 b37 b25 b32 b35 b29 b38 b43 Fr M r hv10 hv17 hc32_0 hc35_0 hH h
    simp [search_clock_loudest_2] at h
  | succ N ih =>
    intro v5 v10 v11 v12 v17 v18 v19 v6_g37 c25_0 c32_0 c35_0 c29 c43 sv10 sv17 sc32_0 sc35_0 b37 b25 b32 b35 b29 b38 b43 Fr M r hv10 hv17 hc32_0 hc35_0 hH h
    rw [search_clock_loudest_2] at h
    refine Run.seq (Run.region ?_)
    refine Run.opG wantS_none (ex_lss rfl rfl) rfl ?_
    refine Run.opsEnd (Run.seq ?_)
    rcases btf ((decide (v19 < v18))) with hc46 | hc46
    · have h := bif_t hc46 h
      refine Run.condT' rfl hc46 ?_
      refine Run.skip (Run.seq (Run.block (Run.seq (Run.region ?_))))
      refine Run.opG wantS_none (ex_move rfl) rfl ?_
      obtain ⟨x48, hx48, h⟩ := bnd_some h
      obtain ⟨p48, o48, _, hx48, hp48, rfl⟩ := sl_elem (P := Try.prog) (t := 22) (kk := .i64) hv17 hx48 els22
      refine Run.opG wantS_none (ex_elX rfl rfl hx48) rfl ?_
      refine Run.opG wantS_none (ex_loadA rfl (hH.ptrF hp48) rdLe_rfl agg76 rfl rfl rfl) rfl ?_
      refine Run.opX wantS_none rfl (ExG.new (v := fun b => .ptr b 0) (ex_alloc zer76) hH) ?_
      rintro _ M51 ⟨b50, rfl, (hH51 : Has Fr M51 [.obj b50 (.row 76 .whole [(.int .i64 0), (.int .i64 0), (.int .i64 0)]), .obj b37 (.loop ⟨.ready, none, 60, 19, treeOf [(6, (.int .i64 v6_g37)), (7, (.ptr b25 0)), (12, (.fn (.func 105) [] [(.ptr b32 0), (.ptr b35 0), (.ptr b29 0)]))], [13], (atC Try.prog 60 [1, 1, 0, 1, 0, 0]), (atC Try.prog 60 [1, 1, 0, 1, 0, 1]), b38⟩), .obj b25 (.row 3 .whole [(.int .i64 c25_0)]), .obj b32 (.row 22 .whole [sc32_0]), .obj b35 (.row 22 .whole [sc35_0]), .obj b29 (.row 87 .whole [(.int .i64 c29.live), (.int .i64 c29.window), (.int .i64 c29.step)]), .obj b38 .defd, .obj b43 (.row 76 .whole [(.int .i64 c43.Time), (.int .i64 c43.Loud), (.int .i64 c43.Template)])])⟩
      refine Run.opG wantS_none (ex_assign rfl) rfl ?_
      refine Run.opX wantS_none rfl (ExG.storeC (c' := [(.int .i64 x48.Time), (.int .i64 x48.Loud), (.int .i64 x48.Template)]) rfl rfl rfl hH51 (i := 0) rfl sz76 rfl rfl rfl rfl rfl) ?_
      rintro _ M52 ⟨rfl, (hH52 : Has Fr M52 [.obj b50 (.row 76 .whole [(.int .i64 x48.Time), (.int .i64 x48.Loud), (.int .i64 x48.Template)]), .obj b37 (.loop ⟨.ready, none, 60, 19, treeOf [(6, (.int .i64 v6_g37)), (7, (.ptr b25 0)), (12, (.fn (.func 105) [] [(.ptr b32 0), (.ptr b35 0), (.ptr b29 0)]))], [13], (atC Try.prog 60 [1, 1, 0, 1, 0, 0]), (atC Try.prog 60 [1, 1, 0, 1, 0, 1]), b38⟩), .obj b25 (.row 3 .whole [(.int .i64 c25_0)]), .obj b32 (.row 22 .whole [sc32_0]), .obj b35 (.row 22 .whole [sc35_0]), .obj b29 (.row 87 .whole [(.int .i64 c29.live), (.int .i64 c29.window), (.int .i64 c29.step)]), .obj b38 .defd, .obj b43 (.row 76 .whole [(.int .i64 c43.Time), (.int .i64 c43.Loud), (.int .i64 c43.Template)])])⟩
      refine Run.opsEnd (Run.seq ?_)
      refine Run.drawG plan105_1_0_0_1_1_0_0_1_1_0_0_1_1_0_0_1_0 ?_
      refine DrawG.fl rfl (ev_ex wantS_none (ex_fieldAddr rfl off76_2)) rfl ?_
      refine DrawG.fl rfl (ev_ex wantS_none (ex_load1 rfl (hH52.cells (i := 7) rfl 2 rfl) rdLe_rfl agg3)) rfl ?_
      refine DrawG.fl rfl (ev_ex wantS_none (ex_fieldAddr rfl off76_2)) rfl ?_
      refine DrawG.fl rfl (ev_ex wantS_none (ex_load1 rfl (hH52.cells (i := 0) rfl 2 rfl) rdLe_rfl agg3)) rfl ?_
      refine DrawG.fl rfl (ev_ex wantS_none (ex_eql rfl rfl)) rfl ?_
      refine DrawG.fl rfl (ev_ex wantS_none (ex_move rfl)) rfl ?_
      rcases btf ((c43.Template == x48.Template)) with hc53 | hc53
      · have h := bif_t hc53 h
        refine DrawG.fl rfl (ev_ex (wantS_yes' rfl rfl hc53) (ex_loadA rfl (hH52.cells (i := 5) rfl 0 rfl) rdLe_rfl agg87 rfl rfl rfl)) rfl ?_
        refine DrawG.fl rfl (ev_ex (wantS_yes' rfl rfl hc53) (ex_fieldAddr rfl off76_0)) rfl ?_
        refine DrawG.fl rfl (ev_ex (wantS_yes' rfl rfl hc53) (ex_load1 rfl (hH52.cells (i := 7) rfl 0 rfl) rdLe_rfl agg3)) rfl ?_
        refine DrawG.fl rfl (ev_ex (wantS_yes' rfl rfl hc53) (ex_fieldAddr rfl off76_0)) rfl ?_
        refine DrawG.fl rfl (ev_ex (wantS_yes' rfl rfl hc53) (ex_load1 rfl (hH52.cells (i := 0) rfl 0 rfl) rdLe_rfl agg3)) rfl ?_
        refine DrawG.fl rfl (ev_ex (wantS_yes' rfl rfl hc53) (ex_fieldAddr rfl off87_1)) rfl ?_
        refine DrawG.fl rfl (ev_ex (wantS_yes' rfl rfl hc53) (ex_load1 rfl (hH52.cells (i := 5) rfl 1 rfl) rdLe_rfl agg3)) rfl ?_
        obtain ⟨r54, hr54, h⟩ := bnd_some h
        refine DrawG.callP rfl (wantS_yes' rfl rfl hc53) (ex_call rfl mkk106 cal106) rfl (search_clock_distance_ok F c29 c43.Time x48.Time _ _ hr54) (st_cons rfl (ev_ex (wantS_yes' rfl rfl hc53) (ex_load1 rfl (hH52.cells (i := 5) rfl 1 rfl) rdLe_rfl agg3)) rfl rfl rfl (st_cons rfl (ev_ex (wantS_yes' rfl rfl hc53) (ex_fieldAddr rfl off87_1)) rfl rfl rfl st_nil)) ?_
        refine DrawG.fl rfl (ev_ex (wantS_yes' rfl rfl hc53) (ex_leq rfl rfl)) rfl ?_
        refine DrawG.fl rfl (ev_ex wantS_none (ex_pickT' rfl hc53 rfl rfl)) rfl ?_
        refine DrawG.fl rfl (ev_ex wantS_none (ex_assign rfl)) rfl ?_
        refine DrawG.sync ?_
        refine DrawG.nil ?_
        refine Run.seq (Run.region ?_)
        exact Run.low (.cons (fle_pick [7] rfl) .nil) (Run.pick [0, 2, 3, 5, 6, 7, 8, 9, 10, 11, 12, 17, 18, 19] (search_clock_loudest_3_ok F (search_clock_loudest_2 F hd1 N) ih v5 v19 (decide (r54 ≤ c29.window)) v10 v11 v12 v17 v18 v19 v6_g37 c25_0 c32_0 c35_0 c29 c43 x48 sv10 sv17 sc32_0 sc35_0 b37 b25 b32 b35 b29 b38 b43 b50 _ _ _ hv10 hv17 hc32_0 hc35_0 (hH52.pick [1, 2, 3, 4, 5, 6, 7, 0] rfl rfl) h))
      · have h := bif_f hc53 h
        refine DrawG.fl rfl (ev_no (wantS_not' rfl rfl hc53)) rfl ?_
        refine DrawG.fl rfl (ev_no (wantS_not' rfl rfl hc53)) rfl ?_
        refine DrawG.fl rfl (ev_no (wantS_not' rfl rfl hc53)) rfl ?_
        refine DrawG.fl rfl (ev_no (wantS_not' rfl rfl hc53)) rfl ?_
        refine DrawG.fl rfl (ev_no (wantS_not' rfl rfl hc53)) rfl ?_
        refine DrawG.fl rfl (ev_no (wantS_not' rfl rfl hc53)) rfl ?_
        refine DrawG.fl rfl (ev_no (wantS_not' rfl rfl hc53)) rfl ?_
        refine DrawG.no rfl (wantS_not' rfl rfl hc53) rfl (st_cons rfl (ev_no (wantS_not' rfl rfl hc53)) rfl rfl rfl (st_cons rfl (ev_no (wantS_not' rfl rfl hc53)) rfl rfl rfl st_nil)) ?_
        refine DrawG.fl rfl (ev_no (wantS_not' rfl rfl hc53)) rfl ?_
        refine DrawG.fl rfl (ev_ex wantS_none (ex_pickF' rfl hc53 rfl rfl)) rfl ?_
        refine DrawG.fl rfl (ev_ex wantS_none (ex_assign rfl)) rfl ?_
        refine DrawG.sync ?_
        refine DrawG.nil ?_
        refine Run.seq (Run.region ?_)
        exact Run.low (.cons (fle_pick [7] rfl) .nil) (Run.pick [0, 2, 3, 5, 6, 7, 8, 9, 10, 11, 12, 17, 18, 19] (search_clock_loudest_3_ok F (search_clock_loudest_2 F hd1 N) ih v5 v19 false v10 v11 v12 v17 v18 v19 v6_g37 c25_0 c32_0 c35_0 c29 c43 x48 sv10 sv17 sc32_0 sc35_0 b37 b25 b32 b35 b29 b38 b43 b50 _ _ _ hv10 hv17 hc32_0 hc35_0 (hH52.pick [1, 2, 3, 4, 5, 6, 7, 0] rfl rfl) h))
    · have h := bif_f hc46 h
      refine Run.condF' rfl hc46 ?_
      refine Run.exit rfl (Run.inBlock (Run.region ?_))
      refine Run.opG wantS_none (ex_add rfl rfl) rfl ?_
      refine Run.opG wantS_none (ex_move rfl) rfl ?_
      refine Run.opsEnd (Run.inLoop ?_)
      exact Run.low (.cons (fle_pick [7] rfl) .nil) (Run.pick [0, 2, 3, 10, 11, 12] (hhd1 v10 v11 (w64 (v12 + (1 : Int))) v6_g37 c25_0 c32_0 c35_0 c29 sv10 sc32_0 sc35_0 b37 b25 b32 b35 b29 b38 _ _ _ hv10 hc32_0 hc35_0 (hH.pick [0, 1, 2, 3, 4, 5] rfl rfl) h))

def search_clock_loudest_1 (F : Nat) : Nat → (List S_api_Trigger) → Int → Int → Int → Int → (List S_api_Trigger) → (List S_api_Trigger) → S_search_clock → Option (Int)
  | 0, _, _, _, _, _, _, _, _ => none
  | N + 1, v10, v11, v12, v6_g37, c25_0, c32_0, c35_0, c29 =>
    bif (decide (v12 < v11)) then
      bnd (idx v10 v12) fun x41 =>
      search_clock_loudest_2 F (search_clock_loudest_1 F N) F v12 v10 v11 v12 c35_0 (c35_0.length : Int) (0 : Int) v6_g37 c25_0 c32_0 c35_0 c29 x41
    else
      some c25_0

theorem search_clock_loudest_1_ok (F : Nat) : ∀ (N : Nat), ∀ (v10 : (List S_api_Trigger)) (v11 : Int) (v12 : Int) (v6_g37 : Int) (c25_0 : Int) (c32_0 : (List S_api_Trigger)) (c35_0 : (List S_api_Trigger)) (c29 : S_search_clock) (sv10 : SV) (sc32_0 : SV) (sc35_0 : SV) (b37 : Pos) (b25 : Pos) (b32 : Pos) (b35 : Pos) (b29 : Pos) (b38 : Pos) (Fr : Rd) (M : Mem) (r : Int) (hv10 : Slc Fr 3 (FlatR enc76) sv10 v10) (hc32_0 : Slc Fr 3 (FlatR enc76) sc32_0 c32_0) (hc35_0 : Slc Fr 3 (FlatR enc76) sc35_0 c35_0) (hH : Has Fr M [.obj b37 (.loop ⟨.ready, none, 60, 19, treeOf [(6, (.int .i64 v6_g37)), (7, (.ptr b25 0)), (12, (.fn (.func 105) [] [(.ptr b32 0), (.ptr b35 0), (.ptr b29 0)]))], [13], (atC Try.prog 60 [1, 1, 0, 1, 0, 0]), (atC Try.prog 60 [1, 1, 0, 1, 0, 1]), b38⟩), .obj b25 (.row 3 .whole [(.int .i64 c25_0)]), .obj b32 (.row 22 .whole [sc32_0]), .obj b35 (.row 22 .whole [sc35_0]), .obj b29 (.row 87 .whole [(.int .i64 c29.live), (.int .i64 c29.window), (.int .i64 c29.step)]), .obj b38 .defd]), search_clock_loudest_1 F N v10 v11 v12 v6_g37 c25_0 c32_0 c35_0 c29 = some r → Run Try.prog ⟨⟨105, [], none⟩, [.mk ⟨60, [b38], none⟩ 19 (treeOf [(7, (.ptr b25 0))]) [.inRange b37, .inBlock 0, codeC Try.prog 60 [1, 1, 1]]]⟩ 56 (search_clock_loudest_post r) [(0, (.yield b37)), (2, (.ptr b35 0)), (3, (.ptr b29 0)), (10, sv10), (11, (.int .i64 v11)), (12, (.int .i64 v12))] [codeC Try.prog 105 [1, 0, 0], loopC Try.prog 105 [1, 0, 0], .inBlock 0] M := by
  intro N
  induction N with
  | zero =>
    intro v10 v11 v12 v6_g37 c25_0 c32_0 c35_0 c29 sv10 sc32_0 sc35_0 b37 b25 b32 b35 b29 b38 Fr M r hv10 hc32_0 hc35_0 hH h
    simp [search_clock_loudest_1] at h
  | succ N ih =>
    intro v10 v11 v12 v6_g37 c25_0 c32_0 c35_0 c29 sv10 sc32_0 sc35_0 b37 b25 b32 b35 b29 b38 Fr M r hv10 hc32_0 hc35_0 hH h
    rw [search_clock_loudest_1] at h
    refine Run.seq (Run.region ?_)
    refine Run.opG wantS_none (ex_lss rfl rfl) rfl ?_
    refine Run.opsEnd (Run.seq ?_)
    rcases btf ((decide (v12 < v11))) with hc39 | hc39
    · have h := bif_t hc39 h
      refine Run.condT' rfl hc39 ?_
      refine Run.skip (Run.seq (Run.block (Run.seq (Run.region ?_))))
      refine Run.opG wantS_none (ex_move rfl) rfl ?_
      obtain ⟨x41, hx41, h⟩ := bnd_some h
      obtain ⟨p41, o41, _, hx41, hp41, rfl⟩ := sl_elem (P := Try.prog) (t := 22) (kk := .i64) hv10 hx41 els22
      refine Run.opG wantS_none (ex_elX rfl rfl hx41) rfl ?_
      refine Run.opG wantS_none (ex_loadA rfl (hH.ptrF hp41) rdLe_rfl agg76 rfl rfl rfl) rfl ?_
      refine Run.opX wantS_none rfl (ExG.new (v := fun b => .ptr b 0) (ex_alloc zer76) hH) ?_
      rintro _ M44 ⟨b43, rfl, (hH44 : Has Fr M44 [.obj b43 (.row 76 .whole [(.int .i64 0), (.int .i64 0), (.int .i64 0)]), .obj b37 (.loop ⟨.ready, none, 60, 19, treeOf [(6, (.int .i64 v6_g37)), (7, (.ptr b25 0)), (12, (.fn (.func 105) [] [(.ptr b32 0), (.ptr b35 0), (.ptr b29 0)]))], [13], (atC Try.prog 60 [1, 1, 0, 1, 0, 0]), (atC Try.prog 60 [1, 1, 0, 1, 0, 1]), b38⟩), .obj b25 (.row 3 .whole [(.int .i64 c25_0)]), .obj b32 (.row 22 .whole [sc32_0]), .obj b35 (.row 22 .whole [sc35_0]), .obj b29 (.row 87 .whole [(.int .i64 c29.live), (.int .i64 c29.window), (.int .i64 c29.step)]), .obj b38 .defd])⟩
      refine Run.opG wantS_none (ex_assign rfl) rfl ?_
      refine Run.opX wantS_none rfl (ExG.storeC (c' := [(.int .i64 x41.Time), (.int .i64 x41.Loud), (.int .i64 x41.Template)]) rfl rfl rfl hH44 (i := 0) rfl sz76 rfl rfl rfl rfl rfl) ?_
      rintro _ M45 ⟨rfl, (hH45 : Has Fr M45 [.obj b43 (.row 76 .whole [(.int .i64 x41.Time), (.int .i64 x41.Loud), (.int .i64 x41.Template)]), .obj b37 (.loop ⟨.ready, none, 60, 19, treeOf [(6, (.int .i64 v6_g37)), (7, (.ptr b25 0)), (12, (.fn (.func 105) [] [(.ptr b32 0), (.ptr b35 0), (.ptr b29 0)]))], [13], (atC Try.prog 60 [1, 1, 0, 1, 0, 0]), (atC Try.prog 60 [1, 1, 0, 1, 0, 1]), b38⟩), .obj b25 (.row 3 .whole [(.int .i64 c25_0)]), .obj b32 (.row 22 .whole [sc32_0]), .obj b35 (.row 22 .whole [sc35_0]), .obj b29 (.row 87 .whole [(.int .i64 c29.live), (.int .i64 c29.window), (.int .i64 c29.step)]), .obj b38 .defd])⟩
      refine Run.opsEnd (Run.seq (Run.region ?_))
      refine Run.opG wantS_none (ex_load1 rfl (hH45.cells (i := 4) rfl 0 rfl) rdLe_rfl agg22) rfl ?_
      refine Run.opG wantS_none (ex_len' rfl hc35_0 lenk22) rfl ?_
      refine Run.opG wantS_none (ex_move rfl) rfl ?_
      refine Run.opsEnd (Run.block (Run.loop ?_))
      exact Run.low (.cons (fle_pick [7] rfl) .nil) (Run.pick [0, 2, 3, 5, 6, 10, 11, 12, 17, 18, 19] (search_clock_loudest_2_ok F (search_clock_loudest_1 F N) ih F v12 v10 v11 v12 c35_0 (c35_0.length : Int) (0 : Int) v6_g37 c25_0 c32_0 c35_0 c29 x41 sv10 sc35_0 sc32_0 sc35_0 b37 b25 b32 b35 b29 b38 b43 _ _ _ hv10 hc35_0 hc32_0 hc35_0 (hH45.pick [1, 2, 3, 4, 5, 6, 0] rfl rfl) h))
    · have h := bif_f hc39 h
      refine Run.condF' rfl hc39 ?_
      refine Run.exit rfl ?_
      refine Run.fallRange Try.func105 rfl res_nil ?_
      refine Run.endX hH (i := 0) rfl (fun hc => by cases hc) ?_
      intro M68 (hH68 : Has Fr M68 [.obj b37 (.loop ⟨.exhausted, none, 60, 19, treeOf [(6, (.int .i64 v6_g37)), (7, (.ptr b25 0)), (12, (.fn (.func 105) [] [(.ptr b32 0), (.ptr b35 0), (.ptr b29 0)]))], [13], (atC Try.prog 60 [1, 1, 0, 1, 0, 0]), (atC Try.prog 60 [1, 1, 0, 1, 0, 1]), b38⟩), .obj b25 (.row 3 .whole [(.int .i64 c25_0)]), .obj b32 (.row 22 .whole [sc32_0]), .obj b35 (.row 22 .whole [sc35_0]), .obj b29 (.row 87 .whole [(.int .i64 c29.live), (.int .i64 c29.window), (.int .i64 c29.step)]), .obj b38 .defd])
      refine Run.inBlock (Run.seq (Run.region ?_))
      refine Run.opG wantS_none (ex_load1 rfl (hH68.cells (i := 1) rfl 0 rfl) rdLe_rfl agg3) rfl ?_
      refine Run.opG wantS_none (ex_assign rfl) rfl ?_
      refine Run.opsEnd ?_
      obtain ⟨hH69x, hS69⟩ := hH68.shut (i := 5) (ds := []) rfl
      have hH69 : Has Fr (setT M68 b38 none) [.obj b37 (.loop ⟨.exhausted, none, 60, 19, treeOf [(6, (.int .i64 v6_g37)), (7, (.ptr b25 0)), (12, (.fn (.func 105) [] [(.ptr b32 0), (.ptr b35 0), (.ptr b29 0)]))], [13], (atC Try.prog 60 [1, 1, 0, 1, 0, 0]), (atC Try.prog 60 [1, 1, 0, 1, 0, 1]), b38⟩), .obj b25 (.row 3 .whole [(.int .i64 c25_0)]), .obj b32 (.row 22 .whole [sc32_0]), .obj b35 (.row 22 .whole [sc35_0]), .obj b29 (.row 87 .whole [(.int .i64 c29.live), (.int .i64 c29.window), (.int .i64 c29.step)]), .vec 0 0 0 .nils []] := hH69x
      cases h
      exact Run.ret Try.func60 (hS69 _ rfl) (res_tmp rfl res_nil) rfl

def search_clock_loudest (F : Nat) (a0 : S_search_clock) (a1 : (List S_api_Trigger)) (a2 : (List S_api_Trigger)) : Option (Int) :=
  search_clock_loudest_1 F F a1 (a1.length : Int) (0 : Int) (0 : Int) ((-1) : Int) a1 a2 a0

theorem search_clock_loudest_ok (F : Nat) (a0 : S_search_clock) (a1 : (List S_api_Trigger)) (a2 : (List S_api_Trigger)) (s0 s1 : SV) (r : Int) (M : Mem) (hs0 : Slc (rd M) 3 (FlatR enc76) s0 a1) (hs1 : Slc (rd M) 3 (FlatR enc76) s1 a2) (h : search_clock_loudest F a0 a1 a2 = some r) : CallsM Try.prog 60 [(.agg [(.int .i64 a0.live), (.int .i64 a0.window), (.int .i64 a0.step)]), s0, s1] M (fun s M' => s = (.int .i64 r) ∧ M' = M) := by
  refine CallsM.plain Try.func60 rfl rfl rfl (show Run _ _ _ (search_clock_loudest_post r) _ _ _ from ?_)
  rw [search_clock_loudest] at h
  replace hs0 := hs0.mono (rdLe_frozen M) (fun _ _ h => h)
  replace hs1 := hs1.mono (rdLe_frozen M) (fun _ _ h => h)
  have hH := Has.nil (frozen M)
  refine Run.seq (Run.region ?_)
  refine Run.opX wantS_none rfl (ExG.box rfl rfl hH) ?_
  rintro _ M23 ⟨b22, rfl, (hH23 : Has (ro (frozen M)) M23 [.obj b22 (.row 87 .whole [(.int .i64 a0.live), (.int .i64 a0.window), (.int .i64 a0.step)])])⟩
  refine Run.opG wantS_none (ex_assign rfl) rfl ?_
  refine Run.opsEnd (Run.seq (Run.region ?_))
  refine Run.opX wantS_none rfl (ExG.new (v := fun b => .ptr b 0) (ex_alloc zer3) hH23) ?_
  rintro _ M26 ⟨b25, rfl, (hH26 : Has (ro (frozen M)) M26 [.obj b25 (.row 3 .whole [(.int .i64 0)]), .obj b22 (.row 87 .whole [(.int .i64 a0.live), (.int .i64 a0.window), (.int .i64 a0.step)])])⟩
  refine Run.opX wantS_none rfl (ExG.storeC (c' := [(.int .i64 (-1))]) rfl rfl rfl hH26 (i := 0) rfl sz3 rfl rfl rfl rfl rfl) ?_
  rintro _ M27 ⟨rfl, (hH27 : Has (ro (frozen M)) M27 [.obj b25 (.row 3 .whole [(.int .i64 (-1))]), .obj b22 (.row 87 .whole [(.int .i64 a0.live), (.int .i64 a0.window), (.int .i64 a0.step)])])⟩
  refine Run.opsEnd (Run.seq (Run.seq (Run.region ?_)))
  refine Run.opG wantS_none (ex_loadA rfl (hH27.cells (i := 1) rfl 0 rfl) rdLe_rfl agg87 rfl rfl rfl) rfl ?_
  refine Run.opG wantS_none (ex_move rfl) rfl ?_
  refine Run.opG wantS_none (ex_move rfl) rfl ?_
  refine Run.enter wantS_none (ex_call rfl mkk57 cal57) Try.func57 rfl rfl ?_
  refine Run.seq (Run.region ?_)
  refine Run.opX wantS_none rfl (ExG.box rfl rfl hH27) ?_
  rintro _ M30 ⟨b29, rfl, (hH30 : Has (ro (frozen M)) M30 [.obj b29 (.row 87 .whole [(.int .i64 a0.live), (.int .i64 a0.window), (.int .i64 a0.step)]), .obj b25 (.row 3 .whole [(.int .i64 (-1))]), .obj b22 (.row 87 .whole [(.int .i64 a0.live), (.int .i64 a0.window), (.int .i64 a0.step)])])⟩
  refine Run.opX wantS_none rfl (ExG.box rfl (cells_one (slc_one hs0)) hH30) ?_
  rintro _ M33 ⟨b32, rfl, (hH33 : Has (ro (frozen M)) M33 [.obj b32 (.row 22 .whole [s0]), .obj b29 (.row 87 .whole [(.int .i64 a0.live), (.int .i64 a0.window), (.int .i64 a0.step)]), .obj b25 (.row 3 .whole [(.int .i64 (-1))]), .obj b22 (.row 87 .whole [(.int .i64 a0.live), (.int .i64 a0.window), (.int .i64 a0.step)])])⟩
  refine Run.opX wantS_none rfl (ExG.box rfl (cells_one (slc_one hs1)) hH33) ?_
  rintro _ M36 ⟨b35, rfl, (hH36 : Has (ro (frozen M)) M36 [.obj b35 (.row 22 .whole [s1]), .obj b32 (.row 22 .whole [s0]), .obj b29 (.row 87 .whole [(.int .i64 a0.live), (.int .i64 a0.window), (.int .i64 a0.step)]), .obj b25 (.row 3 .whole [(.int .i64 (-1))]), .obj b22 (.row 87 .whole [(.int .i64 a0.live), (.int .i64 a0.window), (.int .i64 a0.step)])])⟩
  refine Run.opG wantS_none (ex_assign rfl) rfl ?_
  refine Run.opsEnd (Run.seq (Run.region ?_))
  refine Run.opG wantS_none (ex_makeFunc rfl rfl) rfl ?_
  refine Run.opG wantS_none (ex_assign rfl) rfl ?_
  refine Run.opsEnd ?_
  refine Run.retTo Try.func57 rfl (res_tmp rfl res_nil) rfl ?_
  refine Run.opsEnd (Run.block ?_)
  refine Run.pick [6, 7, 12] ?_
  refine Run.rangeX rfl cal105 Try.func105 rfl rfl hH36 ?_
  intro b38 b37 M37 (hH37 : Has (ro (frozen M)) M37 [.obj b37 (.loop ⟨.ready, none, 60, 19, treeOf [(6, (.int .i64 0)), (7, (.ptr b25 0)), (12, (.fn (.func 105) [] [(.ptr b32 0), (.ptr b35 0), (.ptr b29 0)]))], [13], (atC Try.prog 60 [1, 1, 0, 1, 0, 0]), (atC Try.prog 60 [1, 1, 0, 1, 0, 1]), b38⟩), .obj b38 .defd, .obj b35 (.row 22 .whole [s1]), .obj b32 (.row 22 .whole [s0]), .obj b29 (.row 87 .whole [(.int .i64 a0.live), (.int .i64 a0.window), (.int .i64 a0.step)]), .obj b25 (.row 3 .whole [(.int .i64 (-1))]), .obj b22 (.row 87 .whole [(.int .i64 a0.live), (.int .i64 a0.window), (.int .i64 a0.step)])])
  refine Run.seq (Run.region ?_)
  refine Run.opG wantS_none (ex_load1 rfl (hH37.cells (i := 3) rfl 0 rfl) rdLe_rfl agg22) rfl ?_
  refine Run.opG wantS_none (ex_len' rfl hs0 lenk22) rfl ?_
  refine Run.opG wantS_none (ex_move rfl) rfl ?_
  refine Run.opsEnd (Run.block (Run.loop ?_))
  exact Run.low (.cons (fle_pick [7] rfl) .nil) (Run.pick [0, 2, 3, 10, 11, 12] (search_clock_loudest_1_ok F F a1 (a1.length : Int) (0 : Int) (0 : Int) ((-1) : Int) a1 a2 a0 s0 s0 s1 b37 b25 b32 b35 b29 b38 _ _ _ hs0 hs0 hs1 (hH37.pick [0, 5, 3, 2, 4, 1] rfl rfl) h))

theorem mkk60 : makeK Try.prog 60 = none := by kernel_rfl
theorem cal60 : callable Try.prog 60 = true := by kernel_rfl
theorem elt38 : sliceElt Try.prog 38 = some (⟨1, 8, [(.int .i64 0)], 3⟩ : Elt) := by kernel_rfl
theorem appt38_38 : appT Try.prog 38 38 = some (⟨1, 8, [(.int .i64 0)], 3⟩ : Elt) := by kernel_rfl
theorem plan65_1_1_0_1_0_0_1_1_0_0_1 : planOf Try.prog (opsC (atC Try.prog 65 [1, 1, 0, 1, 0, 0, 1, 1, 0, 0, 1])) = some [.fl 0, .fl 1, .fl 2, .fl 3, .fl 4, .fl 5, .fl 6, .fl 7, .fl 8, .an 9 [2, 1, 0], .an 10 [0], .an 11 [0], .an 12 [], .an 13 [], .sync] := by kernel_rfl
abbrev search_clock_statistics_post (r : (List Int)) : SV → Mem → Prop := fun s Me => ∃ q1, s = q1 ∧ Has (fun _ => none) Me [.vec 3 1 r.length q1 (r.flatMap enc3)]

def search_clock_statistics_1 (F : Nat) : Nat → (List S_api_Trigger) → (List S_api_Trigger) → Int → Int → S_search_clock → (List Int) → Option ((List Int))
  | 0, _, _, _, _, _, _ => none
  | N + 1, v1, v2, v10, v11, c22, l27 =>
    bif (decide (v11 < v10)) then
      bnd (search_clock_slide F c22 v2 (w64 (v11 * c22.step))) fun r30 =>
      bnd (search_clock_loudest F c22 v1 r30) fun r33 =>
      bnd (apd 8 l27 ([r33] : List Int)) fun l37 =>
      (search_clock_statistics_1 F N) v1 v2 v10 (w64 (v11 + (1 : Int))) c22 l37
    else
      some l27

theorem search_clock_statistics_1_ok (F : Nat) : ∀ (N : Nat), ∀ (v1 : (List S_api_Trigger)) (v2 : (List S_api_Trigger)) (v10 : Int) (v11 : Int) (c22 : S_search_clock) (l27 : (List Int)) (sv1 : SV) (sv2 : SV) (b22 : Pos) (s27 : SV) (Fr : Rd) (M : Mem) (r : (List Int)) (hv1 : Slc Fr 3 (FlatR enc76) sv1 v1) (hv2 : Slc Fr 3 (FlatR enc76) sv2 v2) (hH : Has Fr M [.obj b22 (.row 87 .whole [(.int .i64 c22.live), (.int .i64 c22.window), (.int .i64 c22.step)]), .vec 3 1 l27.length s27 (l27.flatMap enc3)]), search_clock_statistics_1 F N v1 v2 v10 v11 c22 l27 = some r → Run Try.prog ⟨⟨65, [], none⟩, []⟩ 29 (search_clock_statistics_post r) [(1, sv1), (2, sv2), (3, (.ptr b22 0)), (7, s27), (10, (.int .i64 v10)), (11, (.int .i64 v11))] [codeC Try.prog 65 [1, 1, 0, 1, 0, 0], loopC Try.prog 65 [1, 1, 0, 1, 0, 0], .inBlock 0, codeC Try.prog 65 [1, 1, 1]] M := by
  intro N
  induction N with
  | zero =>
    intro v1 v2 v10 v11 c22 l27 sv1 sv2 b22 s27 Fr M r hv1 hv2 hH h
    simp [search_clock_statistics_1] at h
  | succ N ih =>
    intro v1 v2 v10 v11 c22 l27 sv1 sv2 b22 s27 Fr M r hv1 hv2 hH h
    rw [search_clock_statistics_1] at h
    refine Run.seq (Run.region ?_)
    refine Run.opG wantS_none (ex_lss rfl rfl) rfl ?_
    refine Run.opsEnd (Run.seq ?_)
    rcases btf ((decide (v11 < v10))) with hc29 | hc29
    · have h := bif_t hc29 h
      refine Run.condT' rfl hc29 ?_
      refine Run.skip (Run.seq (Run.block (Run.seq (Run.region ?_))))
      refine Run.opG wantS_none (ex_move rfl) rfl ?_
      refine Run.opG wantS_none (ex_assign rfl) rfl ?_
      refine Run.opsEnd ?_
      refine Run.drawG plan65_1_1_0_1_0_0_1_1_0_0_1 ?_
      refine DrawG.fl rfl (ev_ex wantS_none (ex_move rfl)) rfl ?_
      refine DrawG.fl rfl (ev_ex wantS_none (ex_loadA rfl (hH.cells (i := 0) rfl 0 rfl) rdLe_rfl agg87 rfl rfl rfl)) rfl ?_
      refine DrawG.fl rfl (ev_ex wantS_none (ex_move rfl)) rfl ?_
      refine DrawG.fl rfl (ev_ex wantS_none (ex_loadA rfl (hH.cells (i := 0) rfl 0 rfl) rdLe_rfl agg87 rfl rfl rfl)) rfl ?_
      refine DrawG.fl rfl (ev_ex wantS_none (ex_move rfl)) rfl ?_
      refine DrawG.fl rfl (ev_ex wantS_none (ex_move rfl)) rfl ?_
      refine DrawG.fl rfl (ev_ex wantS_none (ex_fieldAddr rfl off87_2)) rfl ?_
      refine DrawG.fl rfl (ev_ex wantS_none (ex_load1 rfl (hH.cells (i := 0) rfl 2 rfl) rdLe_rfl agg3)) rfl ?_
      refine DrawG.fl rfl (ev_ex wantS_none (ex_mul rfl rfl)) rfl ?_
      obtain ⟨r30, hr30, h⟩ := bnd_some h
      refine DrawG.call rfl wantS_none (ex_call rfl mkk63 cal63) rfl (search_clock_slide_ok F c22 v2 (w64 (v11 * c22.step)) sv2 _ _ (hH.slcF hv2) hr30) ?_
      rintro s30_0 M32 ⟨_, rfl, hN30⟩
      have hH32 : Has Fr M32 [.vec 76 3 r30.length s30_0 (r30.flatMap enc76), .obj b22 (.row 87 .whole [(.int .i64 c22.live), (.int .i64 c22.window), (.int .i64 c22.step)]), .vec 3 1 l27.length s27 (l27.flatMap enc3)] := hN30.1 _ _ hH
      refine ⟨(st_cons rfl (ev_ex wantS_none (ex_move rfl)) rfl rfl (slc_self hv1) (st_cons rfl (ev_ex wantS_none (ex_loadA rfl (hH32.cells (i := 1) rfl 0 rfl) rdLe_rfl agg87 rfl rfl rfl)) rfl rfl rfl (st_cons rfl (ev_ex wantS_none (ex_move rfl)) rfl rfl (blk_self hH32 (i := 2) rfl) st_nil))), ?_⟩
      obtain ⟨r33, hr33, h⟩ := bnd_some h
      refine DrawG.callP rfl wantS_none (ex_call rfl mkk60 cal60) rfl (search_clock_loudest_ok F c22 v1 r30 sv1 s30_0 _ _ (hH32.slcF hv1) (hH32.slc (i := 0) rfl enc76_len) hr33) (st_cons rfl (ev_ex wantS_none (ex_move rfl)) rfl rfl (blk_self hH32 (i := 2) rfl) st_nil) ?_
      refine DrawG.opX rfl wantS_none rfl (ExG.built (enc := enc3) (l := ([r33] : List Int)) (z := 1) rfl elt38 rfl rfl rfl enc3_len hH32) ?_
      rintro s35 M36 (hH36 : Has Fr M36 [.vec 3 1 ([r33] : List Int).length s35 (([r33] : List Int).flatMap enc3), .vec 76 3 r30.length s30_0 (r30.flatMap enc76), .obj b22 (.row 87 .whole [(.int .i64 c22.live), (.int .i64 c22.window), (.int .i64 c22.step)]), .vec 3 1 l27.length s27 (l27.flatMap enc3)])
      refine ⟨(st_cons rfl (ev_ex wantS_none (ex_move rfl)) rfl rfl (blk_self hH36 (i := 3) rfl) st_nil), ?_⟩
      obtain ⟨l37, hl37, h⟩ := bnd_some h
      refine DrawG.opX rfl wantS_none rfl (ExG.append rfl rfl hH36 (i := 3) rfl enc3_len rfl enc3_ones appt38_38 rfl (len_slc (hH36.slc (i := 0) rfl enc3_len)) (first_slc (hH36.slc (i := 0) rfl enc3_len) (rdLe_rdRow _) enc3_len) hl37) ?_
      rintro s37 M39 (hH39 : Has Fr M39 [.vec 3 1 ([r33] : List Int).length s35 (([r33] : List Int).flatMap enc3), .vec 76 3 r30.length s30_0 (r30.flatMap enc76), .obj b22 (.row 87 .whole [(.int .i64 c22.live), (.int .i64 c22.window), (.int .i64 c22.step)]), .vec 3 1 l37.length s37 (l37.flatMap enc3)])
      refine ⟨st_nil, ?_⟩
      refine DrawG.val rfl wantS_none (ex_assign rfl) rfl st_nil ?_
      refine DrawG.sync ?_
      refine DrawG.nil ?_
      refine Run.inBlock (Run.region ?_)
      refine Run.opG wantS_none (ex_add rfl rfl) rfl ?_
      refine Run.opG wantS_none (ex_move rfl) rfl ?_
      refine Run.opsEnd (Run.inLoop ?_)
      exact Run.pick [1, 2, 3, 7, 10, 11] (ih v1 v2 v10 (w64 (v11 + (1 : Int))) c22 l37 sv1 sv2 b22 s37 _ _ _ hv1 hv2 (hH39.pick [2, 3] rfl rfl) h)
    · have h := bif_f hc29 h
      refine Run.condF' rfl hc29 ?_
      refine Run.exit rfl (Run.seq (Run.region ?_))
      refine Run.opG wantS_none (ex_move rfl) rfl ?_
      refine Run.opG wantS_none (ex_assign rfl) rfl ?_
      refine Run.opsEnd ?_
      cases h
      exact Run.ret Try.func65 rfl (res_tmp rfl res_nil) ⟨_, rfl, (hH.pick [1] rfl rfl).upF (none_le _)⟩

def search_clock_statistics (F : Nat) (a0 : S_search_clock) (a1 : (List S_api_Trigger)) (a2 : (List S_api_Trigger)) : Option ((List Int)) :=
  bnd (search_clock_slides F a0) fun r25 =>
  search_clock_statistics_1 F F a1 a2 r25 (0 : Int) a0 ([] : List Int)

theorem search_clock_statistics_ok (F : Nat) (a0 : S_search_clock) (a1 : (List S_api_Trigger)) (a2 : (List S_api_Trigger)) (s0 s1 : SV) (r : (List Int)) (M : Mem) (hs0 : Slc (rd M) 3 (FlatR enc76) s0 a1) (hs1 : Slc (rd M) 3 (FlatR enc76) s1 a2) (h : search_clock_statistics F a0 a1 a2 = some r) : CallsM Try.prog 65 [(.agg [(.int .i64 a0.live), (.int .i64 a0.window), (.int .i64 a0.step)]), s0, s1] M (fun s M' => ∃ q1, s = q1 ∧ New M M' [.vec 3 1 r.length q1 (r.flatMap enc3)]) := by
  refine CallsM.fresh (Q := search_clock_statistics_post r) Try.func65 rfl rfl ?_ (by rintro s Me ⟨q1, rfl, hx⟩ ha hw; exact ⟨_, rfl, New.of rfl hx ha hw⟩)
  rw [search_clock_statistics] at h
  replace hs0 := hs0.mono (rdLe_frozen M) (fun _ _ h => h)
  replace hs1 := hs1.mono (rdLe_frozen M) (fun _ _ h => h)
  have hH := Has.nil (frozen M)
  refine Run.seq (Run.region ?_)
  refine Run.opX wantS_none rfl (ExG.box rfl rfl hH) ?_
  rintro _ M23 ⟨b22, rfl, (hH23 : Has (ro (frozen M)) M23 [.obj b22 (.row 87 .whole [(.int .i64 a0.live), (.int .i64 a0.window), (.int .i64 a0.step)])])⟩
  refine Run.opG wantS_none (ex_assign rfl) rfl ?_
  refine Run.opsEnd (Run.seq (Run.region ?_))
  refine Run.opG wantS_none (ex_assign rfl) rfl ?_
  refine Run.opsEnd (Run.seq (Run.seq (Run.region ?_)))
  refine Run.opG wantS_none (ex_loadA rfl (hH23.cells (i := 0) rfl 0 rfl) rdLe_rfl agg87 rfl rfl rfl) rfl ?_
  obtain ⟨r25, hr25, h⟩ := bnd_some h
  refine Run.callP wantS_none (ex_call rfl mkk94 cal94) rfl (search_clock_slides_ok F a0 _ _ hr25) ?_
  refine Run.opG wantS_none (ex_move rfl) rfl ?_
  refine Run.opsEnd (Run.block (Run.loop ?_))
  have hH28 : Has (ro (frozen M)) M23 [.vec 3 1 ([] : List Int).length .nils (([] : List Int).flatMap enc3), .obj b22 (.row 87 .whole [(.int .i64 a0.live), (.int .i64 a0.window), (.int .i64 a0.step)])] := hH23.nils 3 1
  exact Run.pick [1, 2, 3, 7, 10, 11] (search_clock_statistics_1_ok F F a1 a2 r25 (0 : Int) a0 ([] : List Int) s0 s1 b22 .nils _ _ _ hs0 hs1 (hH28.pick [1, 0] rfl rfl) h)

theorem mkk65 : makeK Try.prog 65 = none := by kernel_rfl
theorem cal65 : callable Try.prog 65 = true := by kernel_rfl
abbrev search_Statistics_post (r : (List Int) × Int) : SV → Mem → Prop := fun s Me => ∃ q1, s = (.tuple [q1, (.int .i64 r.2)]) ∧ Has (fun _ => none) Me [.vec 3 1 r.1.length q1 (r.1.flatMap enc3)]

def search_Statistics (F : Nat) (a0 : (List S_api_Trigger)) (a1 : (List S_api_Trigger)) (a2 : Int) (a3 : Int) (a4 : Int) : Option ((List Int) × Int) :=
  bnd (search_clock_check F (S_search_clock.mk a2 a3 a4) ([a0, a1] : List (List S_api_Trigger))) fun r29 =>
  bif (!(r29 == (0 : Int))) then
    some (([] : List Int), r29)
  else
    bnd (search_clock_statistics F (S_search_clock.mk a2 a3 a4) a0 a1) fun r36 =>
    some (r36, (0 : Int))

theorem search_Statistics_ok (F : Nat) (a0 : (List S_api_Trigger)) (a1 : (List S_api_Trigger)) (a2 : Int) (a3 : Int) (a4 : Int) (s0 s1 : SV) (r : (List Int) × Int) (M : Mem) (hs0 : Slc (rd M) 3 (FlatR enc76) s0 a0) (hs1 : Slc (rd M) 3 (FlatR enc76) s1 a1) (h : search_Statistics F a0 a1 a2 a3 a4 = some r) : CallsM Try.prog 26 [s0, s1, (.int .i64 a2), (.int .i64 a3), (.int .i64 a4)] M (fun s M' => ∃ q1, s = (.tuple [q1, (.int .i64 r.2)]) ∧ New M M' [.vec 3 1 r.1.length q1 (r.1.flatMap enc3)]) := by
  refine CallsM.fresh (Q := search_Statistics_post r) Try.func26 rfl rfl ?_ (by rintro s Me ⟨q1, rfl, hx⟩ ha hw; exact ⟨_, rfl, New.of rfl hx ha hw⟩)
  rw [search_Statistics] at h
  replace hs0 := hs0.mono (rdLe_frozen M) (fun _ _ h => h)
  replace hs1 := hs1.mono (rdLe_frozen M) (fun _ _ h => h)
  have hH := Has.nil (frozen M)
  refine Run.seq (Run.region ?_)
  refine Run.opG wantS_none (ex_assign rfl) rfl ?_
  refine Run.opG wantS_none (ex_assign rfl) rfl ?_
  refine Run.opsEnd (Run.seq (Run.region ?_))
  refine Run.opG wantS_none (ex_move rfl) rfl ?_
  refine Run.opG wantS_none (ex_move rfl) rfl ?_
  refine Run.opG wantS_none (ex_move rfl) rfl ?_
  refine Run.opG wantS_none (ex_build (r := [(.int .i64 a2), (.int .i64 a3), (.int .i64 a4)]) rfl zer87 pls87 rfl) rfl ?_
  refine Run.opX wantS_none rfl (ExG.new (v := fun b => .ptr b 0) (ex_alloc zer87) hH) ?_
  rintro _ M23 ⟨b22, rfl, (hH23 : Has (ro (frozen M)) M23 [.obj b22 (.row 87 .whole [(.int .i64 0), (.int .i64 0), (.int .i64 0)])])⟩
  refine Run.opX wantS_none rfl (ExG.storeC (c' := [(.int .i64 a2), (.int .i64 a3), (.int .i64 a4)]) rfl rfl rfl hH23 (i := 0) rfl sz87 rfl rfl rfl rfl rfl) ?_
  rintro _ M24 ⟨rfl, (hH24 : Has (ro (frozen M)) M24 [.obj b22 (.row 87 .whole [(.int .i64 a2), (.int .i64 a3), (.int .i64 a4)])])⟩
  refine Run.opsEnd (Run.seq (Run.seq (Run.region ?_)))
  refine Run.opG wantS_none (ex_loadA rfl (hH24.cells (i := 0) rfl 0 rfl) rdLe_rfl agg87 rfl rfl rfl) rfl ?_
  refine Run.opG wantS_none (ex_move rfl) rfl ?_
  refine Run.opG wantS_none (ex_move rfl) rfl ?_
  have hr26 : Rows (rep22 (ro (frozen M))) 1 [s0, s1] ([a0, a1] : List (List S_api_Trigger)) := (Rows.cons (cs := [s0]) rfl ⟨s0, rfl, hs0⟩ (Rows.cons (cs := [s1]) rfl ⟨s1, rfl, hs1⟩ Rows.nil))
  refine Run.opX wantS_none rfl (ExG.builtR (z := 1) (c := [s0, s1]) rfl elt132 rfl (by simp only [fillS, cells_one (slc_one hs0), cells_one (slc_one hs1)]; rfl) rfl hH24) ?_
  rintro s26 M27 (hH27 : Has (ro (frozen M)) M27 [.vec 22 1 ([a0, a1] : List (List S_api_Trigger)).length s26 [s0, s1], .obj b22 (.row 87 .whole [(.int .i64 a2), (.int .i64 a3), (.int .i64 a4)])])
  obtain ⟨r29, hr29, h⟩ := bnd_some h
  refine Run.callP wantS_none (ex_call rfl mkk55 cal55) rfl (search_clock_check_ok F (S_search_clock.mk a2 a3 a4) ([a0, a1] : List (List S_api_Trigger)) s26 _ _ (((hH27.slcR (i := 0) rfl hr26)).mono (fun _ _ h => h) (fun _ _ => rep22_mo hH27.le)) hr29) ?_
  refine Run.opG wantS_none (ex_assign rfl) rfl ?_
  refine Run.opsEnd (Run.seq (Run.region ?_))
  refine Run.opG wantS_none (ex_move rfl) rfl ?_
  refine Run.opG wantS_none (ex_neq rfl rfl) rfl ?_
  refine Run.opsEnd ?_
  rcases btf ((!(r29 == (0 : Int)))) with hc31 | hc31
  · have h := bif_t hc31 h
    refine Run.condT' rfl hc31 ?_
    refine Run.seq (Run.region ?_)
    refine Run.opG wantS_none (ex_move rfl) rfl ?_
    refine Run.opG wantS_none (ex_assign rfl) rfl ?_
    refine Run.opG wantS_none (ex_assign rfl) rfl ?_
    refine Run.opsEnd ?_
    have hH33 : Has (ro (frozen M)) M27 [.vec 3 1 ([] : List Int).length .nils (([] : List Int).flatMap enc3), .vec 22 1 ([a0, a1] : List (List S_api_Trigger)).length s26 [s0, s1], .obj b22 (.row 87 .whole [(.int .i64 a2), (.int .i64 a3), (.int .i64 a4)])] := hH27.nils 3 1
    cases h
    exact Run.ret Try.func26 rfl (res_tmp rfl (res_tmp rfl res_nil)) ⟨_, rfl, (hH33.pick [0] rfl rfl).upF (none_le _)⟩
  · have h := bif_f hc31 h
    refine Run.condF' rfl hc31 ?_
    refine Run.skip (Run.seq (Run.region ?_))
    refine Run.opG wantS_none (ex_loadA rfl (hH27.cells (i := 1) rfl 0 rfl) rdLe_rfl agg87 rfl rfl rfl) rfl ?_
    refine Run.opG wantS_none (ex_move rfl) rfl ?_
    refine Run.opG wantS_none (ex_move rfl) rfl ?_
    obtain ⟨r36, hr36, h⟩ := bnd_some h
    refine Run.callX wantS_none (ex_call rfl mkk65 cal65) rfl (search_clock_statistics_ok F (S_search_clock.mk a2 a3 a4) a0 a1 s0 s1 _ _ (hH27.slcF hs0) (hH27.slcF hs1) hr36) ?_
    rintro s36_0 M38 ⟨_, rfl, hN36⟩
    have hH38 : Has (ro (frozen M)) M38 [.vec 3 1 r36.length s36_0 (r36.flatMap enc3), .vec 22 1 ([a0, a1] : List (List S_api_Trigger)).length s26 [s0, s1], .obj b22 (.row 87 .whole [(.int .i64 a2), (.int .i64 a3), (.int .i64 a4)])] := hN36.1 _ _ hH27
    refine Run.opG wantS_none (ex_assign rfl) rfl ?_
    refine Run.opG wantS_none (ex_assign rfl) rfl ?_
    refine Run.opsEnd ?_
    cases h
    exact Run.ret Try.func26 rfl (res_tmp rfl (res_tmp rfl res_nil)) ⟨_, rfl, (hH38.pick [0] rfl rfl).upF (none_le _)⟩

theorem mkk26 : makeK Try.prog 26 = none := by kernel_rfl
theorem cal26 : callable Try.prog 26 = true := by kernel_rfl
theorem sz93 : szOf Try.prog 93 = some 3 := by kernel_rfl
structure S_api_Pair where
  A : Int
  B : Int
  Loud : Int

def enc71 (a : S_api_Pair) : List SV := [(.int .i64 a.A), (.int .i64 a.B), (.int .i64 a.Loud)]
theorem enc71_len (a : S_api_Pair) : (enc71 a).length = 3 := rfl
theorem enc71_ones (a : S_api_Pair) : ones (enc71 a) = true := rfl
abbrev ref00_Abs_post (r : Int) : SV → Mem → Prop := fun s _ => s = (.int .i64 r)

def ref00_Abs (F : Nat) (a0 : Int) : Option (Int) :=
  bif (decide (a0 < (0 : Int))) then
    some (w64 (-a0))
  else
    some a0

theorem ref00_Abs_ok (F : Nat) (a0 : Int) (r : Int) (M : Mem) (h : ref00_Abs F a0 = some r) : CallsM Try.prog 93 [(.int .i64 a0)] M (fun s M' => s = (.int .i64 r) ∧ M' = M) := by
  refine CallsM.plain Try.func93 rfl rfl rfl (show Run _ _ _ (ref00_Abs_post r) _ _ _ from ?_)
  rw [ref00_Abs] at h
  have hH := Has.nil (frozen M)
  refine Run.seq (Run.region ?_)
  refine Run.opG wantS_none (ex_assign rfl) rfl ?_
  refine Run.opsEnd (Run.seq (Run.seq (Run.region ?_)))
  refine Run.opG wantS_none (ex_move rfl) rfl ?_
  refine Run.opG wantS_none (ex_lss rfl rfl) rfl ?_
  refine Run.opsEnd ?_
  rcases btf ((decide (a0 < (0 : Int)))) with hc21 | hc21
  · have h := bif_t hc21 h
    refine Run.condT' rfl hc21 ?_
    refine Run.seq (Run.region ?_)
    refine Run.opG wantS_none (ex_move rfl) rfl ?_
    refine Run.opG wantS_none (ex_neg rfl) rfl ?_
    refine Run.opG wantS_none (ex_assign rfl) rfl ?_
    refine Run.opsEnd ?_
    cases h
    exact Run.ret Try.func93 rfl (res_tmp rfl res_nil) rfl
  · have h := bif_f hc21 h
    refine Run.condF' rfl hc21 ?_
    refine Run.skip (Run.seq (Run.region ?_))
    refine Run.opG wantS_none (ex_move rfl) rfl ?_
    refine Run.opG wantS_none (ex_assign rfl) rfl ?_
    refine Run.opsEnd ?_
    cases h
    exact Run.ret Try.func93 rfl (res_tmp rfl res_nil) rfl

theorem mkk93 : makeK Try.prog 93 = none := by kernel_rfl
theorem cal93 : callable Try.prog 93 = true := by kernel_rfl
abbrev ref08_distance_post (r : Int) : SV → Mem → Prop := fun s _ => s = (.int .i64 r)

def ref08_distance (F : Nat) (a0 : Int) (a1 : Int) (a2 : Int) : Option (Int) :=
  bnd (ref00_Abs F (w64 (a0 - a1))) fun r22 =>
  some (min r22 (w64 (a2 - r22)))

theorem ref08_distance_ok (F : Nat) (a0 : Int) (a1 : Int) (a2 : Int) (r : Int) (M : Mem) (h : ref08_distance F a0 a1 a2 = some r) : CallsM Try.prog 109 [(.int .i64 a0), (.int .i64 a1), (.int .i64 a2)] M (fun s M' => s = (.int .i64 r) ∧ M' = M) := by
  refine CallsM.plain Try.func109 rfl rfl rfl (show Run _ _ _ (ref08_distance_post r) _ _ _ from ?_)
  rw [ref08_distance] at h
  have hH := Has.nil (frozen M)
  refine Run.seq (Run.region ?_)
  refine Run.opG wantS_none (ex_assign rfl) rfl ?_
  refine Run.opsEnd (Run.seq (Run.region ?_))
  refine Run.opG wantS_none (ex_move rfl) rfl ?_
  refine Run.opG wantS_none (ex_move rfl) rfl ?_
  refine Run.opG wantS_none (ex_sub rfl rfl) rfl ?_
  obtain ⟨r22, hr22, h⟩ := bnd_some h
  refine Run.callP wantS_none (ex_call rfl mkk93 cal93) rfl (ref00_Abs_ok F (w64 (a0 - a1)) _ _ hr22) ?_
  refine Run.opG wantS_none (ex_assign rfl) rfl ?_
  refine Run.opsEnd (Run.seq (Run.region ?_))
  refine Run.opG wantS_none (ex_move rfl) rfl ?_
  refine Run.opG wantS_none (ex_move rfl) rfl ?_
  refine Run.opG wantS_none (ex_move rfl) rfl ?_
  refine Run.opG wantS_none (ex_sub rfl rfl) rfl ?_
  refine Run.opG wantS_none (ex_min rfl rfl) rfl ?_
  refine Run.opG wantS_none (ex_assign rfl) rfl ?_
  refine Run.opsEnd ?_
  cases h
  exact Run.ret Try.func109 rfl (res_tmp rfl res_nil) rfl

theorem mkk109 : makeK Try.prog 109 = none := by kernel_rfl
theorem cal109 : callable Try.prog 109 = true := by kernel_rfl
theorem elt27 : sliceElt Try.prog 27 = some (⟨3, 24, [(.int .i64 0), (.int .i64 0), (.int .i64 0)], 71⟩ : Elt) := by kernel_rfl
theorem appt27_27 : appT Try.prog 27 27 = some (⟨3, 24, [(.int .i64 0), (.int .i64 0), (.int .i64 0)], 71⟩ : Elt) := by kernel_rfl
theorem plan59_1_1_0_1_0_0_1_0_0_1_0_0_1_0_0_1_0 : planOf Try.prog (opsC (atC Try.prog 59 [1, 1, 0, 1, 0, 0, 1, 0, 0, 1, 0, 0, 1, 0, 0, 1, 0])) = some [.fl 0, .fl 1, .fl 2, .fl 3, .fl 4, .fl 5, .fl 6, .fl 7, .fl 8, .fl 9, .fl 10, .fl 11, .fl 12, .fl 13, .fl 14, .an 15 [0], .an 16 [], .an 17 [], .sync] := by kernel_rfl
theorem plan59_1_1_0_1_0_0_1_0_0_1_0_0_1_0_0_0 : planOf Try.prog (opsC (atC Try.prog 59 [1, 1, 0, 1, 0, 0, 1, 0, 0, 1, 0, 0, 1, 0, 0, 0])) = some [.fl 0, .fl 1, .fl 2, .fl 3, .fl 4, .fl 5, .fl 6, .fl 7, .fl 8, .fl 9, .fl 10, .fl 11, .fl 12, .fl 13, .fl 14, .fl 15, .fl 16, .fl 17, .fl 18, .fl 19, .fl 20, .fl 21, .fl 22, .fl 23, .fl 25, .fl 26, .an 24 [26, 25], .fl 27, .fl 28, .sync] := by kernel_rfl
abbrev ref08_coincide_post (r : (List S_api_Pair)) : SV → Mem → Prop := fun s Me => ∃ q1, s = q1 ∧ Has (fun _ => none) Me [.vec 71 3 r.length q1 (r.flatMap enc71)]

def ref08_coincide_4 (F : Nat) (hd2 : (List S_api_Trigger) → (List S_api_Trigger) → Int → Int → S_ringdownref08_Clock → (List S_api_Pair) → Option ((List S_api_Pair))) (v0 : (List S_api_Trigger)) (v1 : (List S_api_Trigger)) (v8 : Int) (v9 : Int) (c22 : S_ringdownref08_Clock) (l47 : (List S_api_Pair)) : Option ((List S_api_Pair)) :=
  hd2 v0 v1 v8 (w64 (v9 + (1 : Int))) c22 l47

theorem ref08_coincide_4_ok (F : Nat) (hd2 : (List S_api_Trigger) → (List S_api_Trigger) → Int → Int → S_ringdownref08_Clock → (List S_api_Pair) → Option ((List S_api_Pair))) (hhd2 : ∀ (v0 : (List S_api_Trigger)) (v1 : (List S_api_Trigger)) (v8 : Int) (v9 : Int) (c22 : S_ringdownref08_Clock) (l24 : (List S_api_Pair)) (sv0 : SV) (sv1 : SV) (b22 : Pos) (s24 : SV) (Fr : Rd) (M : Mem) (r : (List S_api_Pair)) (hv0 : Slc Fr 3 (FlatR enc76) sv0 v0) (hv1 : Slc Fr 3 (FlatR enc76) sv1 v1) (hH : Has Fr M [.obj b22 (.row 93 .whole [(.int .i64 c22.Live), (.int .i64 c22.Window), (.int .i64 c22.Step)]), .vec 71 3 l24.length s24 (l24.flatMap enc71)]), hd2 v0 v1 v8 v9 c22 l24 = some r → Run Try.prog ⟨⟨59, [], none⟩, []⟩ 69 (ref08_coincide_post r) [(0, sv0), (1, sv1), (5, (.ptr b22 0)), (7, s24), (8, (.int .i64 v8)), (9, (.int .i64 v9))] [codeC Try.prog 59 [1, 1, 0, 1, 0, 0, 1, 0, 0, 1, 0, 0], loopC Try.prog 59 [1, 1, 0, 1, 0, 0, 1, 0, 0, 1, 0, 0], .inBlock 2, .inBlock 1, codeC Try.prog 59 [1, 1, 0, 1, 0, 0, 1, 1], loopC Try.prog 59 [1, 1, 0, 1, 0, 0], .inBlock 0, codeC Try.prog 59 [1, 1, 1]] M) : ∀ (v0 : (List S_api_Trigger)) (v1 : (List S_api_Trigger)) (v8 : Int) (v9 : Int) (c22 : S_ringdownref08_Clock) (l47 : (List S_api_Pair)) (sv0 : SV) (sv1 : SV) (b22 : Pos) (s47 : SV) (Fr : Rd) (M : Mem) (r : (List S_api_Pair)) (hv0 : Slc Fr 3 (FlatR enc76) sv0 v0) (hv1 : Slc Fr 3 (FlatR enc76) sv1 v1) (hH : Has Fr M [.obj b22 (.row 93 .whole [(.int .i64 c22.Live), (.int .i64 c22.Window), (.int .i64 c22.Step)]), .vec 71 3 l47.length s47 (l47.flatMap enc71)]), ref08_coincide_4 F hd2 v0 v1 v8 v9 c22 l47 = some r → Run Try.prog ⟨⟨59, [], none⟩, []⟩ 69 (ref08_coincide_post r) [(0, sv0), (1, sv1), (5, (.ptr b22 0)), (7, s47), (8, (.int .i64 v8)), (9, (.int .i64 v9))] [itemC Try.prog 59 [1, 1, 0, 1, 0, 0, 1, 0, 0, 1, 0, 0, 1, 1] 0, loopC Try.prog 59 [1, 1, 0, 1, 0, 0, 1, 0, 0, 1, 0, 0], .inBlock 2, .inBlock 1, codeC Try.prog 59 [1, 1, 0, 1, 0, 0, 1, 1], loopC Try.prog 59 [1, 1, 0, 1, 0, 0], .inBlock 0, codeC Try.prog 59 [1, 1, 1]] M := by
  intro v0 v1 v8 v9 c22 l47 sv0 sv1 b22 s47 Fr M r hv0 hv1 hH h
  rw [ref08_coincide_4] at h
  refine Run.opG wantS_none (ex_move rfl) rfl ?_
  refine Run.opG wantS_none (ex_add rfl rfl) rfl ?_
  refine Run.opG wantS_none (ex_assign rfl) rfl ?_
  refine Run.opsEnd (Run.inLoop ?_)
  exact Run.pick [0, 1, 5, 7, 8, 9] (hhd2 v0 v1 v8 (w64 (v9 + (1 : Int))) c22 l47 sv0 sv1 b22 s47 _ _ _ hv0 hv1 hH h)

def ref08_coincide_3 (F : Nat) (hd2 : (List S_api_Trigger) → (List S_api_Trigger) → Int → Int → S_ringdownref08_Clock → (List S_api_Pair) → Option ((List S_api_Pair))) (v0 : (List S_api_Trigger)) (v1 : (List S_api_Trigger)) (v8 : Int) (v9 : Int) (v50 : Bool) (c22 : S_ringdownref08_Clock) (l24 : (List S_api_Pair)) : Option ((List S_api_Pair)) :=
  bif v50 then
    bnd (idx v0 v8) fun x40 =>
    bnd (idx v1 v9) fun x42 =>
    bnd (apd 24 l24 ([(S_api_Pair.mk v8 v9 (w64 (x40.Loud + x42.Loud)))] : List S_api_Pair)) fun l46 =>
    ref08_coincide_4 F hd2 v0 v1 v8 v9 c22 l46
  else
    ref08_coincide_4 F hd2 v0 v1 v8 v9 c22 l24

theorem ref08_coincide_3_ok (F : Nat) (hd2 : (List S_api_Trigger) → (List S_api_Trigger) → Int → Int → S_ringdownref08_Clock → (List S_api_Pair) → Option ((List S_api_Pair))) (hhd2 : ∀ (v0 : (List S_api_Trigger)) (v1 : (List S_api_Trigger)) (v8 : Int) (v9 : Int) (c22 : S_ringdownref08_Clock) (l24 : (List S_api_Pair)) (sv0 : SV) (sv1 : SV) (b22 : Pos) (s24 : SV) (Fr : Rd) (M : Mem) (r : (List S_api_Pair)) (hv0 : Slc Fr 3 (FlatR enc76) sv0 v0) (hv1 : Slc Fr 3 (FlatR enc76) sv1 v1) (hH : Has Fr M [.obj b22 (.row 93 .whole [(.int .i64 c22.Live), (.int .i64 c22.Window), (.int .i64 c22.Step)]), .vec 71 3 l24.length s24 (l24.flatMap enc71)]), hd2 v0 v1 v8 v9 c22 l24 = some r → Run Try.prog ⟨⟨59, [], none⟩, []⟩ 69 (ref08_coincide_post r) [(0, sv0), (1, sv1), (5, (.ptr b22 0)), (7, s24), (8, (.int .i64 v8)), (9, (.int .i64 v9))] [codeC Try.prog 59 [1, 1, 0, 1, 0, 0, 1, 0, 0, 1, 0, 0], loopC Try.prog 59 [1, 1, 0, 1, 0, 0, 1, 0, 0, 1, 0, 0], .inBlock 2, .inBlock 1, codeC Try.prog 59 [1, 1, 0, 1, 0, 0, 1, 1], loopC Try.prog 59 [1, 1, 0, 1, 0, 0], .inBlock 0, codeC Try.prog 59 [1, 1, 1]] M) : ∀ (v0 : (List S_api_Trigger)) (v1 : (List S_api_Trigger)) (v8 : Int) (v9 : Int) (v50 : Bool) (c22 : S_ringdownref08_Clock) (l24 : (List S_api_Pair)) (sv0 : SV) (sv1 : SV) (b22 : Pos) (s24 : SV) (Fr : Rd) (M : Mem) (r : (List S_api_Pair)) (hv0 : Slc Fr 3 (FlatR enc76) sv0 v0) (hv1 : Slc Fr 3 (FlatR enc76) sv1 v1) (hH : Has Fr M [.obj b22 (.row 93 .whole [(.int .i64 c22.Live), (.int .i64 c22.Window), (.int .i64 c22.Step)]), .vec 71 3 l24.length s24 (l24.flatMap enc71)]), ref08_coincide_3 F hd2 v0 v1 v8 v9 v50 c22 l24 = some r → Run Try.prog ⟨⟨59, [], none⟩, []⟩ 69 (ref08_coincide_post r) [(0, sv0), (1, sv1), (5, (.ptr b22 0)), (7, s24), (8, (.int .i64 v8)), (9, (.int .i64 v9)), (50, (.bool v50))] [codeC Try.prog 59 [1, 1, 0, 1, 0, 0, 1, 0, 0, 1, 0, 0, 1, 0, 0, 1], .inBlock 3, codeC Try.prog 59 [1, 1, 0, 1, 0, 0, 1, 0, 0, 1, 0, 0, 1, 1], loopC Try.prog 59 [1, 1, 0, 1, 0, 0, 1, 0, 0, 1, 0, 0], .inBlock 2, .inBlock 1, codeC Try.prog 59 [1, 1, 0, 1, 0, 0, 1, 1], loopC Try.prog 59 [1, 1, 0, 1, 0, 0], .inBlock 0, codeC Try.prog 59 [1, 1, 1]] M := by
  intro v0 v1 v8 v9 v50 c22 l24 sv0 sv1 b22 s24 Fr M r hv0 hv1 hH h
  rw [ref08_coincide_3] at h
  rcases btf (v50) with hc39 | hc39
  · have h := bif_t hc39 h
    refine Run.condT' rfl hc39 ?_
    refine Run.drawG plan59_1_1_0_1_0_0_1_0_0_1_0_0_1_0_0_1_0 ?_
    refine DrawG.fl rfl (ev_ex wantS_none (ex_move rfl)) rfl ?_
    refine DrawG.fl rfl (ev_ex wantS_none (ex_move rfl)) rfl ?_
    refine DrawG.fl rfl (ev_ex wantS_none (ex_move rfl)) rfl ?_
    refine DrawG.fl rfl (ev_ex wantS_none (ex_move rfl)) rfl ?_
    refine DrawG.fl rfl (ev_ex wantS_none (ex_move rfl)) rfl ?_
    obtain ⟨x40, hx40, h⟩ := bnd_some h
    obtain ⟨p40, o40, _, hx40, hp40, rfl⟩ := sl_elem (P := Try.prog) (t := 22) (kk := .i64) hv0 hx40 els22
    refine DrawG.fl rfl (ev_ex wantS_none (ex_elX rfl rfl hx40)) rfl ?_
    have hp41 := (hp40.fld (o := 1) rfl)
    refine DrawG.fl rfl (ev_ex wantS_none (ex_fieldAddr rfl off76_1)) rfl ?_
    refine DrawG.fl rfl (ev_ex wantS_none (ex_load1 rfl (hH.ptrF hp41) rdLe_rfl agg3)) rfl ?_
    refine DrawG.fl rfl (ev_ex wantS_none (ex_move rfl)) rfl ?_
    refine DrawG.fl rfl (ev_ex wantS_none (ex_move rfl)) rfl ?_
    obtain ⟨x42, hx42, h⟩ := bnd_some h
    obtain ⟨p42, o42, _, hx42, hp42, rfl⟩ := sl_elem (P := Try.prog) (t := 22) (kk := .i64) hv1 hx42 els22
    refine DrawG.fl rfl (ev_ex wantS_none (ex_elX rfl rfl hx42)) rfl ?_
    have hp43 := (hp42.fld (o := 1) rfl)
    refine DrawG.fl rfl (ev_ex wantS_none (ex_fieldAddr rfl off76_1)) rfl ?_
    refine DrawG.fl rfl (ev_ex wantS_none (ex_load1 rfl (hH.ptrF hp43) rdLe_rfl agg3)) rfl ?_
    refine DrawG.fl rfl (ev_ex wantS_none (ex_add rfl rfl)) rfl ?_
    refine DrawG.fl rfl (ev_ex wantS_none (ex_build (r := [(.int .i64 v8), (.int .i64 v9), (.int .i64 (w64 (x40.Loud + x42.Loud)))]) rfl zer71 pls71 rfl)) rfl ?_
    refine DrawG.opX rfl wantS_none rfl (ExG.built (enc := enc71) (l := ([(S_api_Pair.mk v8 v9 (w64 (x40.Loud + x42.Loud)))] : List S_api_Pair)) (z := 3) rfl elt27 rfl rfl rfl enc71_len hH) ?_
    rintro s44 M45 (hH45 : Has Fr M45 [.vec 71 3 ([(S_api_Pair.mk v8 v9 (w64 (x40.Loud + x42.Loud)))] : List S_api_Pair).length s44 (([(S_api_Pair.mk v8 v9 (w64 (x40.Loud + x42.Loud)))] : List S_api_Pair).flatMap enc71), .obj b22 (.row 93 .whole [(.int .i64 c22.Live), (.int .i64 c22.Window), (.int .i64 c22.Step)]), .vec 71 3 l24.length s24 (l24.flatMap enc71)])
    refine ⟨(st_cons rfl (ev_ex wantS_none (ex_move rfl)) rfl rfl (blk_self hH45 (i := 2) rfl) st_nil), ?_⟩
    obtain ⟨l46, hl46, h⟩ := bnd_some h
    refine DrawG.opX rfl wantS_none rfl (ExG.append rfl rfl hH45 (i := 2) rfl enc71_len rfl enc71_ones appt27_27 rfl (len_slc (hH45.slc (i := 0) rfl enc71_len)) (first_slc (hH45.slc (i := 0) rfl enc71_len) (rdLe_rdRow _) enc71_len) hl46) ?_
    rintro s46 M48 (hH48 : Has Fr M48 [.vec 71 3 ([(S_api_Pair.mk v8 v9 (w64 (x40.Loud + x42.Loud)))] : List S_api_Pair).length s44 (([(S_api_Pair.mk v8 v9 (w64 (x40.Loud + x42.Loud)))] : List S_api_Pair).flatMap enc71), .obj b22 (.row 93 .whole [(.int .i64 c22.Live), (.int .i64 c22.Window), (.int .i64 c22.Step)]), .vec 71 3 l46.length s46 (l46.flatMap enc71)])
    refine ⟨st_nil, ?_⟩
    refine DrawG.val rfl wantS_none (ex_assign rfl) rfl st_nil ?_
    refine DrawG.sync ?_
    refine DrawG.nil ?_
    refine Run.inBlock (Run.region ?_)
    exact Run.pick [0, 1, 5, 7, 8, 9] (ref08_coincide_4_ok F hd2 hhd2 v0 v1 v8 v9 c22 l46 sv0 sv1 b22 s46 _ _ _ hv0 hv1 (hH48.pick [1, 2] rfl rfl) h)
  · have h := bif_f hc39 h
    refine Run.condF' rfl hc39 ?_
    refine Run.skip (Run.inBlock (Run.region ?_))
    exact Run.pick [0, 1, 5, 7, 8, 9] (ref08_coincide_4_ok F hd2 hhd2 v0 v1 v8 v9 c22 l24 sv0 sv1 b22 s24 _ _ _ hv0 hv1 hH h)

def ref08_coincide_2 (F : Nat) (hd1 : (List S_api_Trigger) → (List S_api_Trigger) → Int → S_ringdownref08_Clock → (List S_api_Pair) → Option ((List S_api_Pair))) : Nat → (List S_api_Trigger) → (List S_api_Trigger) → Int → Int → S_ringdownref08_Clock → (List S_api_Pair) → Option ((List S_api_Pair))
  | 0, _, _, _, _, _, _ => none
  | N + 1, v0, v1, v8, v9, c22, l24 =>
    bif (decide (v9 < (v1.length : Int))) then
      bnd (idx v0 v8) fun x28 =>
      bnd (idx v1 v9) fun x30 =>
      bif (x28.Template == x30.Template) then
        bnd (idx v0 v8) fun x33 =>
        bnd (idx v1 v9) fun x35 =>
        bnd (ref08_distance F x33.Time x35.Time c22.Live) fun r37 =>
        ref08_coincide_3 F (ref08_coincide_2 F hd1 N) v0 v1 v8 v9 (decide (r37 ≤ c22.Window)) c22 l24
      else
        ref08_coincide_3 F (ref08_coincide_2 F hd1 N) v0 v1 v8 v9 false c22 l24
    else
      hd1 v0 v1 (w64 (v8 + (1 : Int))) c22 l24

theorem ref08_coincide_2_ok (F : Nat) (hd1 : (List S_api_Trigger) → (List S_api_Trigger) → Int → S_ringdownref08_Clock → (List S_api_Pair) → Option ((List S_api_Pair))) (hhd1 : ∀ (v0 : (List S_api_Trigger)) (v1 : (List S_api_Trigger)) (v8 : Int) (c22 : S_ringdownref08_Clock) (l24 : (List S_api_Pair)) (sv0 : SV) (sv1 : SV) (b22 : Pos) (s24 : SV) (Fr : Rd) (M : Mem) (r : (List S_api_Pair)) (hv0 : Slc Fr 3 (FlatR enc76) sv0 v0) (hv1 : Slc Fr 3 (FlatR enc76) sv1 v1) (hH : Has Fr M [.obj b22 (.row 93 .whole [(.int .i64 c22.Live), (.int .i64 c22.Window), (.int .i64 c22.Step)]), .vec 71 3 l24.length s24 (l24.flatMap enc71)]), hd1 v0 v1 v8 c22 l24 = some r → Run Try.prog ⟨⟨59, [], none⟩, []⟩ 69 (ref08_coincide_post r) [(0, sv0), (1, sv1), (5, (.ptr b22 0)), (7, s24), (8, (.int .i64 v8))] [codeC Try.prog 59 [1, 1, 0, 1, 0, 0], loopC Try.prog 59 [1, 1, 0, 1, 0, 0], .inBlock 0, codeC Try.prog 59 [1, 1, 1]] M) : ∀ (N : Nat), ∀ (v0 : (List S_api_Trigger)) (v1 : (List S_api_Trigger)) (v8 : Int) (v9 : Int) (c22 : S_ringdownref08_Clock) (l24 : (List S_api_Pair)) (sv0 : SV) (sv1 : SV) (b22 : Pos) (s24 : SV) (Fr : Rd) (M : Mem) (r : (List S_api_Pair)) (hv0 : Slc Fr 3 (FlatR enc76) sv0 v0) (hv1 : Slc Fr 3 (FlatR enc76) sv1 v1) (hH : Has Fr M [.obj b22 (.row 93 .whole [(.int .i64 c22.Live), (.int .i64 c22.Window), (.int .i64 c22.Step)]), .vec 71 3 l24.length s24 (l24.flatMap enc71)]), ref08_coincide_2 F hd1 N v0 v1 v8 v9 c22 l24 = some r → Run Try.prog ⟨⟨59, [], none⟩, []⟩ 69 (ref08_coincide_post r) [(0, sv0), (1, sv1), (5, (.ptr b22 0)), (7, s24), (8, (.int .i64 v8)), (9, (.int .i64 v9))] [codeC Try.prog 59 [1, 1, 0, 1, 0, 0, 1, 0, 0, 1, 0, 0], loopC Try.prog 59 [1, 1, 0, 1, 0, 0, 1, 0, 0, 1, 0, 0], .inBlock 2, .inBlock 1, codeC Try.prog 59 [1, 1, 0, 1, 0, 0, 1, 1], loopC Try.prog 59 [1, 1, 0, 1, 0, 0], .inBlock 0, codeC Try.prog 59 [1, 1, 1]] M := by
  intro N
  induction N with
  | zero =>
    intro v0 v1 v8 v9 c22 l24 sv0 sv1 b22 s24 Fr M r hv0 hv1 hH h
    simp [ref08_coincide_2] at h
  | succ N ih =>
    intro v0 v1 v8 v9 c22 l24 sv0 sv1 b22 s24 Fr M r hv0 hv1 hH h
    rw [ref08_coincide_2] at h
    refine Run.seq (Run.seq (Run.region ?_))
    refine Run.opG wantS_none (ex_move rfl) rfl ?_
    refine Run.opG wantS_none (ex_move rfl) rfl ?_
    refine Run.opG wantS_none (ex_len' rfl hv1 lenk22) rfl ?_
    refine Run.opG wantS_none (ex_lss rfl rfl) rfl ?_
    refine Run.opsEnd ?_
    rcases btf ((decide (v9 < (v1.length : Int)))) with hc27 | hc27
    · have h := bif_t hc27 h
      refine Run.condT' rfl hc27 ?_
      refine Run.skip (Run.seq (Run.block (Run.seq ?_)))
      refine Run.drawG plan59_1_1_0_1_0_0_1_0_0_1_0_0_1_0_0_0 ?_
      refine DrawG.fl rfl (ev_ex wantS_none (ex_move rfl)) rfl ?_
      refine DrawG.fl rfl (ev_ex wantS_none (ex_move rfl)) rfl ?_
      obtain ⟨x28, hx28, h⟩ := bnd_some h
      obtain ⟨p28, o28, _, hx28, hp28, rfl⟩ := sl_elem (P := Try.prog) (t := 22) (kk := .i64) hv0 hx28 els22
      refine DrawG.fl rfl (ev_ex wantS_none (ex_elX rfl rfl hx28)) rfl ?_
      have hp29 := (hp28.fld (o := 2) rfl)
      refine DrawG.fl rfl (ev_ex wantS_none (ex_fieldAddr rfl off76_2)) rfl ?_
      refine DrawG.fl rfl (ev_ex wantS_none (ex_load1 rfl (hH.ptrF hp29) rdLe_rfl agg3)) rfl ?_
      refine DrawG.fl rfl (ev_ex wantS_none (ex_move rfl)) rfl ?_
      refine DrawG.fl rfl (ev_ex wantS_none (ex_move rfl)) rfl ?_
      obtain ⟨x30, hx30, h⟩ := bnd_some h
      obtain ⟨p30, o30, _, hx30, hp30, rfl⟩ := sl_elem (P := Try.prog) (t := 22) (kk := .i64) hv1 hx30 els22
      refine DrawG.fl rfl (ev_ex wantS_none (ex_elX rfl rfl hx30)) rfl ?_
      have hp31 := (hp30.fld (o := 2) rfl)
      refine DrawG.fl rfl (ev_ex wantS_none (ex_fieldAddr rfl off76_2)) rfl ?_
      refine DrawG.fl rfl (ev_ex wantS_none (ex_load1 rfl (hH.ptrF hp31) rdLe_rfl agg3)) rfl ?_
      refine DrawG.fl rfl (ev_ex wantS_none (ex_eql rfl rfl)) rfl ?_
      refine DrawG.fl rfl (ev_ex wantS_none (ex_move rfl)) rfl ?_
      rcases btf ((x28.Template == x30.Template)) with hc32 | hc32
      · have h := bif_t hc32 h
        refine DrawG.fl rfl (ev_ex (wantS_yes' rfl rfl hc32) (ex_move rfl)) rfl ?_
        refine DrawG.fl rfl (ev_ex (wantS_yes' rfl rfl hc32) (ex_move rfl)) rfl ?_
        obtain ⟨x33, hx33, h⟩ := bnd_some h
        obtain ⟨p33, o33, _, hx33, hp33, rfl⟩ := sl_elem (P := Try.prog) (t := 22) (kk := .i64) hv0 hx33 els22
        refine DrawG.fl rfl (ev_ex (wantS_yes' rfl rfl hc32) (ex_elX rfl rfl hx33)) rfl ?_
        have hp34 := (hp33.fld (o := 0) rfl)
        refine DrawG.fl rfl (ev_ex (wantS_yes' rfl rfl hc32) (ex_fieldAddr rfl off76_0)) rfl ?_
        refine DrawG.fl rfl (ev_ex (wantS_yes' rfl rfl hc32) (ex_load1 rfl (hH.ptrF hp34) rdLe_rfl agg3)) rfl ?_
        refine DrawG.fl rfl (ev_ex (wantS_yes' rfl rfl hc32) (ex_move rfl)) rfl ?_
        refine DrawG.fl rfl (ev_ex (wantS_yes' rfl rfl hc32) (ex_move rfl)) rfl ?_
        obtain ⟨x35, hx35, h⟩ := bnd_some h
        obtain ⟨p35, o35, _, hx35, hp35, rfl⟩ := sl_elem (P := Try.prog) (t := 22) (kk := .i64) hv1 hx35 els22
        refine DrawG.fl rfl (ev_ex (wantS_yes' rfl rfl hc32) (ex_elX rfl rfl hx35)) rfl ?_
        have hp36 := (hp35.fld (o := 0) rfl)
        refine DrawG.fl rfl (ev_ex (wantS_yes' rfl rfl hc32) (ex_fieldAddr rfl off76_0)) rfl ?_
        refine DrawG.fl rfl (ev_ex (wantS_yes' rfl rfl hc32) (ex_load1 rfl (hH.ptrF hp36) rdLe_rfl agg3)) rfl ?_
        refine DrawG.fl rfl (ev_ex (wantS_yes' rfl rfl hc32) (ex_fieldAddr rfl off93_0)) rfl ?_
        refine DrawG.fl rfl (ev_ex (wantS_yes' rfl rfl hc32) (ex_load1 rfl (hH.cells (i := 0) rfl 0 rfl) rdLe_rfl agg3)) rfl ?_
        refine DrawG.fl rfl (ev_ex (wantS_yes' rfl rfl hc32) (ex_fieldAddr rfl off93_1)) rfl ?_
        refine DrawG.fl rfl (ev_ex (wantS_yes' rfl rfl hc32) (ex_load1 rfl (hH.cells (i := 0) rfl 1 rfl) rdLe_rfl agg3)) rfl ?_
        obtain ⟨r37, hr37, h⟩ := bnd_some h
        refine DrawG.callP rfl (wantS_yes' rfl rfl hc32) (ex_call rfl mkk109 cal109) rfl (ref08_distance_ok F x33.Time x35.Time c22.Live _ _ hr37) (st_cons rfl (ev_ex (wantS_yes' rfl rfl hc32) (ex_load1 rfl (hH.cells (i := 0) rfl 1 rfl) rdLe_rfl agg3)) rfl rfl rfl (st_cons rfl (ev_ex (wantS_yes' rfl rfl hc32) (ex_fieldAddr rfl off93_1)) rfl rfl rfl st_nil)) ?_
        refine DrawG.fl rfl (ev_ex (wantS_yes' rfl rfl hc32) (ex_leq rfl rfl)) rfl ?_
        refine DrawG.fl rfl (ev_ex wantS_none (ex_pickT' rfl hc32 rfl rfl)) rfl ?_
        refine DrawG.sync ?_
        refine DrawG.nil ?_
        exact Run.pick [0, 1, 5, 7, 8, 9, 50] (ref08_coincide_3_ok F (ref08_coincide_2 F hd1 N) ih v0 v1 v8 v9 (decide (r37 ≤ c22.Window)) c22 l24 sv0 sv1 b22 s24 _ _ _ hv0 hv1 hH h)
      · have h := bif_f hc32 h
        refine DrawG.fl rfl (ev_no (wantS_not' rfl rfl hc32)) rfl ?_
        refine DrawG.fl rfl (ev_no (wantS_not' rfl rfl hc32)) rfl ?_
        refine DrawG.fl rfl (ev_no (wantS_not' rfl rfl hc32)) rfl ?_
        refine DrawG.fl rfl (ev_no (wantS_not' rfl rfl hc32)) rfl ?_
        refine DrawG.fl rfl (ev_no (wantS_not' rfl rfl hc32)) rfl ?_
        refine DrawG.fl rfl (ev_no (wantS_not' rfl rfl hc32)) rfl ?_
        refine DrawG.fl rfl (ev_no (wantS_not' rfl rfl hc32)) rfl ?_
        refine DrawG.fl rfl (ev_no (wantS_not' rfl rfl hc32)) rfl ?_
        refine DrawG.fl rfl (ev_no (wantS_not' rfl rfl hc32)) rfl ?_
        refine DrawG.fl rfl (ev_no (wantS_not' rfl rfl hc32)) rfl ?_
        refine DrawG.fl rfl (ev_no (wantS_not' rfl rfl hc32)) rfl ?_
        refine DrawG.fl rfl (ev_no (wantS_not' rfl rfl hc32)) rfl ?_
        refine DrawG.fl rfl (ev_no (wantS_not' rfl rfl hc32)) rfl ?_
        refine DrawG.fl rfl (ev_no (wantS_not' rfl rfl hc32)) rfl ?_
        refine DrawG.no rfl (wantS_not' rfl rfl hc32) rfl (st_cons rfl (ev_no (wantS_not' rfl rfl hc32)) rfl rfl rfl (st_cons rfl (ev_no (wantS_not' rfl rfl hc32)) rfl rfl rfl st_nil)) ?_
        refine DrawG.fl rfl (ev_no (wantS_not' rfl rfl hc32)) rfl ?_
        refine DrawG.fl rfl (ev_ex wantS_none (ex_pickF' rfl hc32 rfl rfl)) rfl ?_
        refine DrawG.sync ?_
        refine DrawG.nil ?_
        exact Run.pick [0, 1, 5, 7, 8, 9, 50] (ref08_coincide_3_ok F (ref08_coincide_2 F hd1 N) ih v0 v1 v8 v9 false c22 l24 sv0 sv1 b22 s24 _ _ _ hv0 hv1 hH h)
    · have h := bif_f hc27 h
      refine Run.condF' rfl hc27 ?_
      refine Run.exit rfl (Run.inBlock (Run.region ?_))
      refine Run.opG wantS_none (ex_move rfl) rfl ?_
      refine Run.opG wantS_none (ex_add rfl rfl) rfl ?_
      refine Run.opG wantS_none (ex_assign rfl) rfl ?_
      refine Run.opsEnd (Run.inLoop ?_)
      exact Run.pick [0, 1, 5, 7, 8] (hhd1 v0 v1 (w64 (v8 + (1 : Int))) c22 l24 sv0 sv1 b22 s24 _ _ _ hv0 hv1 hH h)

def ref08_coincide_1 (F : Nat) : Nat → (List S_api_Trigger) → (List S_api_Trigger) → Int → S_ringdownref08_Clock → (List S_api_Pair) → Option ((List S_api_Pair))
  | 0, _, _, _, _, _ => none
  | N + 1, v0, v1, v8, c22, l24 =>
    bif (decide (v8 < (v0.length : Int))) then
      ref08_coincide_2 F (ref08_coincide_1 F N) F v0 v1 v8 (0 : Int) c22 l24
    else
      some l24

theorem ref08_coincide_1_ok (F : Nat) : ∀ (N : Nat), ∀ (v0 : (List S_api_Trigger)) (v1 : (List S_api_Trigger)) (v8 : Int) (c22 : S_ringdownref08_Clock) (l24 : (List S_api_Pair)) (sv0 : SV) (sv1 : SV) (b22 : Pos) (s24 : SV) (Fr : Rd) (M : Mem) (r : (List S_api_Pair)) (hv0 : Slc Fr 3 (FlatR enc76) sv0 v0) (hv1 : Slc Fr 3 (FlatR enc76) sv1 v1) (hH : Has Fr M [.obj b22 (.row 93 .whole [(.int .i64 c22.Live), (.int .i64 c22.Window), (.int .i64 c22.Step)]), .vec 71 3 l24.length s24 (l24.flatMap enc71)]), ref08_coincide_1 F N v0 v1 v8 c22 l24 = some r → Run Try.prog ⟨⟨59, [], none⟩, []⟩ 69 (ref08_coincide_post r) [(0, sv0), (1, sv1), (5, (.ptr b22 0)), (7, s24), (8, (.int .i64 v8))] [codeC Try.prog 59 [1, 1, 0, 1, 0, 0], loopC Try.prog 59 [1, 1, 0, 1, 0, 0], .inBlock 0, codeC Try.prog 59 [1, 1, 1]] M := by
  intro N
  induction N with
  | zero =>
    intro v0 v1 v8 c22 l24 sv0 sv1 b22 s24 Fr M r hv0 hv1 hH h
    simp [ref08_coincide_1] at h
  | succ N ih =>
    intro v0 v1 v8 c22 l24 sv0 sv1 b22 s24 Fr M r hv0 hv1 hH h
    rw [ref08_coincide_1] at h
    refine Run.seq (Run.seq (Run.region ?_))
    refine Run.opG wantS_none (ex_move rfl) rfl ?_
    refine Run.opG wantS_none (ex_move rfl) rfl ?_
    refine Run.opG wantS_none (ex_len' rfl hv0 lenk22) rfl ?_
    refine Run.opG wantS_none (ex_lss rfl rfl) rfl ?_
    refine Run.opsEnd ?_
    rcases btf ((decide (v8 < (v0.length : Int)))) with hc26 | hc26
    · have h := bif_t hc26 h
      refine Run.condT' rfl hc26 ?_
      refine Run.skip (Run.seq (Run.block (Run.seq (Run.region ?_))))
      refine Run.opG wantS_none (ex_assign rfl) rfl ?_
      refine Run.opsEnd (Run.block (Run.loop ?_))
      exact Run.pick [0, 1, 5, 7, 8, 9] (ref08_coincide_2_ok F (ref08_coincide_1 F N) ih F v0 v1 v8 (0 : Int) c22 l24 sv0 sv1 b22 s24 _ _ _ hv0 hv1 hH h)
    · have h := bif_f hc26 h
      refine Run.condF' rfl hc26 ?_
      refine Run.exit rfl (Run.seq (Run.region ?_))
      refine Run.opG wantS_none (ex_move rfl) rfl ?_
      refine Run.opG wantS_none (ex_assign rfl) rfl ?_
      refine Run.opsEnd ?_
      cases h
      exact Run.ret Try.func59 rfl (res_tmp rfl res_nil) ⟨_, rfl, (hH.pick [1] rfl rfl).upF (none_le _)⟩

def ref08_coincide (F : Nat) (a0 : (List S_api_Trigger)) (a1 : (List S_api_Trigger)) (a2 : S_ringdownref08_Clock) : Option ((List S_api_Pair)) :=
  ref08_coincide_1 F F a0 a1 (0 : Int) a2 ([] : List S_api_Pair)

theorem ref08_coincide_ok (F : Nat) (a0 : (List S_api_Trigger)) (a1 : (List S_api_Trigger)) (a2 : S_ringdownref08_Clock) (s0 s1 : SV) (r : (List S_api_Pair)) (M : Mem) (hs0 : Slc (rd M) 3 (FlatR enc76) s0 a0) (hs1 : Slc (rd M) 3 (FlatR enc76) s1 a1) (h : ref08_coincide F a0 a1 a2 = some r) : CallsM Try.prog 59 [s0, s1, (.agg [(.int .i64 a2.Live), (.int .i64 a2.Window), (.int .i64 a2.Step)])] M (fun s M' => ∃ q1, s = q1 ∧ New M M' [.vec 71 3 r.length q1 (r.flatMap enc71)]) := by
  refine CallsM.fresh (Q := ref08_coincide_post r) Try.func59 rfl rfl ?_ (by rintro s Me ⟨q1, rfl, hx⟩ ha hw; exact ⟨_, rfl, New.of rfl hx ha hw⟩)
  rw [ref08_coincide] at h
  replace hs0 := hs0.mono (rdLe_frozen M) (fun _ _ h => h)
  replace hs1 := hs1.mono (rdLe_frozen M) (fun _ _ h => h)
  have hH := Has.nil (frozen M)
  refine Run.seq (Run.region ?_)
  refine Run.opX wantS_none rfl (ExG.box rfl rfl hH) ?_
  rintro _ M23 ⟨b22, rfl, (hH23 : Has (ro (frozen M)) M23 [.obj b22 (.row 93 .whole [(.int .i64 a2.Live), (.int .i64 a2.Window), (.int .i64 a2.Step)])])⟩
  refine Run.opG wantS_none (ex_assign rfl) rfl ?_
  refine Run.opsEnd (Run.seq (Run.region ?_))
  refine Run.opG wantS_none (ex_assign rfl) rfl ?_
  refine Run.opsEnd (Run.seq (Run.seq (Run.region ?_)))
  refine Run.opG wantS_none (ex_assign rfl) rfl ?_
  refine Run.opsEnd (Run.block (Run.loop ?_))
  have hH25 : Has (ro (frozen M)) M23 [.vec 71 3 ([] : List S_api_Pair).length .nils (([] : List S_api_Pair).flatMap enc71), .obj b22 (.row 93 .whole [(.int .i64 a2.Live), (.int .i64 a2.Window), (.int .i64 a2.Step)])] := hH23.nils 71 3
  exact Run.pick [0, 1, 5, 7, 8] (ref08_coincide_1_ok F F a0 a1 (0 : Int) a2 ([] : List S_api_Pair) s0 s1 b22 .nils _ _ _ hs0 hs1 (hH25.pick [1, 0] rfl rfl) h)

theorem mkk59 : makeK Try.prog 59 = none := by kernel_rfl
theorem cal59 : callable Try.prog 59 = true := by kernel_rfl
theorem lenk27 : lenK Try.prog 27 = some .sl := by kernel_rfl
theorem els27 : elems Try.prog 27 = some (.sl 3) := by kernel_rfl
abbrev ref08_loudest_post (r : Int) : SV → Mem → Prop := fun s _ => s = (.int .i64 r)

def ref08_loudest_1 (F : Nat) : Nat → (List S_api_Pair) → Int → Int → Option (Int)
  | 0, _, _, _ => none
  | N + 1, v0, v3, v4 =>
    bif (decide (v4 < (v0.length : Int))) then
      bnd (idx v0 v4) fun x23 =>
      (ref08_loudest_1 F N) v0 (max v3 x23.Loud) (w64 (v4 + (1 : Int)))
    else
      some v3

theorem ref08_loudest_1_ok (F : Nat) : ∀ (N : Nat), ∀ (v0 : (List S_api_Pair)) (v3 : Int) (v4 : Int) (sv0 : SV) (Fr : Rd) (M : Mem) (r : Int) (hv0 : Slc Fr 3 (FlatR enc71) sv0 v0) (hH : Has Fr M []), ref08_loudest_1 F N v0 v3 v4 = some r → Run Try.prog ⟨⟨61, [], none⟩, []⟩ 19 (ref08_loudest_post r) [(0, sv0), (3, (.int .i64 v3)), (4, (.int .i64 v4))] [codeC Try.prog 61 [1, 1, 0, 1, 0, 0], loopC Try.prog 61 [1, 1, 0, 1, 0, 0], .inBlock 0, codeC Try.prog 61 [1, 1, 1]] M := by
  intro N
  induction N with
  | zero =>
    intro v0 v3 v4 sv0 Fr M r hv0 hH h
    simp [ref08_loudest_1] at h
  | succ N ih =>
    intro v0 v3 v4 sv0 Fr M r hv0 hH h
    rw [ref08_loudest_1] at h
    refine Run.seq (Run.seq (Run.region ?_))
    refine Run.opG wantS_none (ex_move rfl) rfl ?_
    refine Run.opG wantS_none (ex_move rfl) rfl ?_
    refine Run.opG wantS_none (ex_len' rfl hv0 lenk27) rfl ?_
    refine Run.opG wantS_none (ex_lss rfl rfl) rfl ?_
    refine Run.opsEnd ?_
    rcases btf ((decide (v4 < (v0.length : Int)))) with hc21 | hc21
    · have h := bif_t hc21 h
      refine Run.condT' rfl hc21 ?_
      refine Run.skip (Run.seq (Run.block (Run.region ?_)))
      refine Run.opG wantS_none (ex_move rfl) rfl ?_
      refine Run.opG wantS_none (ex_move rfl) rfl ?_
      refine Run.opG wantS_none (ex_move rfl) rfl ?_
      obtain ⟨x23, hx23, h⟩ := bnd_some h
      obtain ⟨p23, o23, _, hx23, hp23, rfl⟩ := sl_elem (P := Try.prog) (t := 27) (kk := .i64) hv0 hx23 els27
      refine Run.opG wantS_none (ex_elX rfl rfl hx23) rfl ?_
      have hp25 := (hp23.fld (o := 2) rfl)
      refine Run.opG wantS_none (ex_fieldAddr rfl off71_2) rfl ?_
      refine Run.opG wantS_none (ex_load1 rfl (hH.ptrF hp25) rdLe_rfl agg3) rfl ?_
      refine Run.opG wantS_none (ex_max rfl rfl) rfl ?_
      refine Run.opG wantS_none (ex_assign rfl) rfl ?_
      refine Run.opsEnd (Run.inBlock (Run.region ?_))
      refine Run.opG wantS_none (ex_move rfl) rfl ?_
      refine Run.opG wantS_none (ex_add rfl rfl) rfl ?_
      refine Run.opG wantS_none (ex_assign rfl) rfl ?_
      refine Run.opsEnd (Run.inLoop ?_)
      exact Run.pick [0, 3, 4] (ih v0 (max v3 x23.Loud) (w64 (v4 + (1 : Int))) sv0 _ _ _ hv0 hH h)
    · have h := bif_f hc21 h
      refine Run.condF' rfl hc21 ?_
      refine Run.exit rfl (Run.seq (Run.region ?_))
      refine Run.opG wantS_none (ex_move rfl) rfl ?_
      refine Run.opG wantS_none (ex_assign rfl) rfl ?_
      refine Run.opsEnd ?_
      cases h
      exact Run.ret Try.func61 rfl (res_tmp rfl res_nil) rfl

def ref08_loudest (F : Nat) (a0 : (List S_api_Pair)) : Option (Int) :=
  ref08_loudest_1 F F a0 ((-1) : Int) (0 : Int)

theorem ref08_loudest_ok (F : Nat) (a0 : (List S_api_Pair)) (s0 : SV) (r : Int) (M : Mem) (hs0 : Slc (rd M) 3 (FlatR enc71) s0 a0) (h : ref08_loudest F a0 = some r) : CallsM Try.prog 61 [s0] M (fun s M' => s = (.int .i64 r) ∧ M' = M) := by
  refine CallsM.plain Try.func61 rfl rfl rfl (show Run _ _ _ (ref08_loudest_post r) _ _ _ from ?_)
  rw [ref08_loudest] at h
  replace hs0 := hs0.mono (rdLe_frozen M) (fun _ _ h => h)
  have hH := Has.nil (frozen M)
  refine Run.seq (Run.region ?_)
  refine Run.opG wantS_none (ex_assign rfl) rfl ?_
  refine Run.opsEnd (Run.seq (Run.region ?_))
  refine Run.opG wantS_none (ex_assign rfl) rfl ?_
  refine Run.opsEnd (Run.seq (Run.seq (Run.region ?_)))
  refine Run.opG wantS_none (ex_assign rfl) rfl ?_
  refine Run.opsEnd (Run.block (Run.loop ?_))
  exact Run.pick [0, 3, 4] (ref08_loudest_1_ok F F a0 ((-1) : Int) (0 : Int) s0 _ _ _ hs0 hH h)

theorem mkk61 : makeK Try.prog 61 = none := by kernel_rfl
theorem cal61 : callable Try.prog 61 = true := by kernel_rfl
theorem plan66_1_1_0_1_0_0_1_0_0 : planOf Try.prog (opsC (atC Try.prog 66 [1, 1, 0, 1, 0, 0, 1, 0, 0])) = some [.fl 0, .fl 1, .fl 2, .fl 3, .fl 4, .fl 5, .fl 6, .fl 7, .fl 8, .fl 10, .an 9 [10, 1, 0], .an 11 [0], .an 12 [0], .an 13 [0], .an 14 [], .an 15 [], .sync] := by kernel_rfl
abbrev ref08_statistics_post (r : (List Int)) : SV → Mem → Prop := fun s Me => ∃ q1, s = q1 ∧ Has (fun _ => none) Me [.vec 3 1 r.length q1 (r.flatMap enc3)]

def ref08_statistics_1 (F : Nat) : Nat → (List S_api_Trigger) → (List S_api_Trigger) → Int → S_ringdownref08_Clock → (List Int) → Option ((List Int))
  | 0, _, _, _, _, _ => none
  | N + 1, v0, v1, v8, c22, l24 =>
    bnd (nz c22.Step) fun z27 =>
    bif (decide (v8 < (w64 (Int.tdiv c22.Live c22.Step)))) then
      bnd (ref08_slid F v1 c22.Live (w64 (v8 * c22.Step))) fun r29 =>
      bnd (ref08_coincide F v0 r29 c22) fun r32 =>
      bnd (ref08_loudest F r32) fun r35 =>
      bnd (apd 8 l24 ([r35] : List Int)) fun l39 =>
      (ref08_statistics_1 F N) v0 v1 (w64 (v8 + (1 : Int))) c22 l39
    else
      some l24

theorem ref08_statistics_1_ok (F : Nat) : ∀ (N : Nat), ∀ (v0 : (List S_api_Trigger)) (v1 : (List S_api_Trigger)) (v8 : Int) (c22 : S_ringdownref08_Clock) (l24 : (List Int)) (sv0 : SV) (sv1 : SV) (b22 : Pos) (s24 : SV) (Fr : Rd) (M : Mem) (r : (List Int)) (hv0 : Slc Fr 3 (FlatR enc76) sv0 v0) (hv1 : Slc Fr 3 (FlatR enc76) sv1 v1) (hH : Has Fr M [.obj b22 (.row 93 .whole [(.int .i64 c22.Live), (.int .i64 c22.Window), (.int .i64 c22.Step)]), .vec 3 1 l24.length s24 (l24.flatMap enc3)]), ref08_statistics_1 F N v0 v1 v8 c22 l24 = some r → Run Try.prog ⟨⟨66, [], none⟩, []⟩ 34 (ref08_statistics_post r) [(0, sv0), (1, sv1), (5, (.ptr b22 0)), (7, s24), (8, (.int .i64 v8))] [codeC Try.prog 66 [1, 1, 0, 1, 0, 0], loopC Try.prog 66 [1, 1, 0, 1, 0, 0], .inBlock 0, codeC Try.prog 66 [1, 1, 1]] M := by
  intro N
  induction N with
  | zero =>
    intro v0 v1 v8 c22 l24 sv0 sv1 b22 s24 Fr M r hv0 hv1 hH h
    simp [ref08_statistics_1] at h
  | succ N ih =>
    intro v0 v1 v8 c22 l24 sv0 sv1 b22 s24 Fr M r hv0 hv1 hH h
    rw [ref08_statistics_1] at h
    refine Run.seq (Run.seq (Run.region ?_))
    refine Run.opG wantS_none (ex_move rfl) rfl ?_
    refine Run.opG wantS_none (ex_fieldAddr rfl off93_0) rfl ?_
    refine Run.opG wantS_none (ex_load1 rfl (hH.cells (i := 0) rfl 0 rfl) rdLe_rfl agg3) rfl ?_
    refine Run.opG wantS_none (ex_fieldAddr rfl off93_2) rfl ?_
    refine Run.opG wantS_none (ex_load1 rfl (hH.cells (i := 0) rfl 2 rfl) rdLe_rfl agg3) rfl ?_
    obtain ⟨z27, hz27, h⟩ := bnd_some h
    refine Run.opG wantS_none (ex_quo' rfl rfl hz27) rfl ?_
    refine Run.opG wantS_none (ex_lss rfl rfl) rfl ?_
    refine Run.opsEnd ?_
    rcases btf ((decide (v8 < (w64 (Int.tdiv c22.Live c22.Step))))) with hc28 | hc28
    · have h := bif_t hc28 h
      refine Run.condT' rfl hc28 ?_
      refine Run.skip (Run.seq (Run.block ?_))
      refine Run.drawG plan66_1_1_0_1_0_0_1_0_0 ?_
      refine DrawG.fl rfl (ev_ex wantS_none (ex_move rfl)) rfl ?_
      refine DrawG.fl rfl (ev_ex wantS_none (ex_move rfl)) rfl ?_
      refine DrawG.fl rfl (ev_ex wantS_none (ex_move rfl)) rfl ?_
      refine DrawG.fl rfl (ev_ex wantS_none (ex_fieldAddr rfl off93_0)) rfl ?_
      refine DrawG.fl rfl (ev_ex wantS_none (ex_load1 rfl (hH.cells (i := 0) rfl 0 rfl) rdLe_rfl agg3)) rfl ?_
      refine DrawG.fl rfl (ev_ex wantS_none (ex_move rfl)) rfl ?_
      refine DrawG.fl rfl (ev_ex wantS_none (ex_fieldAddr rfl off93_2)) rfl ?_
      refine DrawG.fl rfl (ev_ex wantS_none (ex_load1 rfl (hH.cells (i := 0) rfl 2 rfl) rdLe_rfl agg3)) rfl ?_
      refine DrawG.fl rfl (ev_ex wantS_none (ex_mul rfl rfl)) rfl ?_
      refine DrawG.fl rfl (ev_ex wantS_none (ex_loadA rfl (hH.cells (i := 0) rfl 0 rfl) rdLe_rfl agg93 rfl rfl rfl)) rfl ?_
      obtain ⟨r29, hr29, h⟩ := bnd_some h
      refine DrawG.call rfl wantS_none (ex_call rfl mkk64 cal64) rfl (ref08_slid_ok F v1 c22.Live (w64 (v8 * c22.Step)) sv1 _ _ (hH.slcF hv1) hr29) ?_
      rintro s29_0 M31 ⟨_, rfl, hN29⟩
      have hH31 : Has Fr M31 [.vec 76 3 r29.length s29_0 (r29.flatMap enc76), .obj b22 (.row 93 .whole [(.int .i64 c22.Live), (.int .i64 c22.Window), (.int .i64 c22.Step)]), .vec 3 1 l24.length s24 (l24.flatMap enc3)] := hN29.1 _ _ hH
      refine ⟨(st_cons rfl (ev_ex wantS_none (ex_loadA rfl (hH31.cells (i := 1) rfl 0 rfl) rdLe_rfl agg93 rfl rfl rfl)) rfl rfl rfl (st_cons rfl (ev_ex wantS_none (ex_move rfl)) rfl rfl (slc_self hv0) (st_cons rfl (ev_ex wantS_none (ex_move rfl)) rfl rfl (blk_self hH31 (i := 2) rfl) st_nil))), ?_⟩
      obtain ⟨r32, hr32, h⟩ := bnd_some h
      refine DrawG.call rfl wantS_none (ex_call rfl mkk59 cal59) rfl (ref08_coincide_ok F v0 r29 c22 sv0 s29_0 _ _ (hH31.slcF hv0) (hH31.slc (i := 0) rfl enc76_len) hr32) ?_
      rintro s32_0 M34 ⟨_, rfl, hN32⟩
      have hH34 : Has Fr M34 [.vec 71 3 r32.length s32_0 (r32.flatMap enc71), .vec 76 3 r29.length s29_0 (r29.flatMap enc76), .obj b22 (.row 93 .whole [(.int .i64 c22.Live), (.int .i64 c22.Window), (.int .i64 c22.Step)]), .vec 3 1 l24.length s24 (l24.flatMap enc3)] := hN32.1 _ _ hH31
      refine ⟨(st_cons rfl (ev_ex wantS_none (ex_move rfl)) rfl rfl (blk_self hH34 (i := 3) rfl) st_nil), ?_⟩
      obtain ⟨r35, hr35, h⟩ := bnd_some h
      refine DrawG.callP rfl wantS_none (ex_call rfl mkk61 cal61) rfl (ref08_loudest_ok F r32 s32_0 _ _ (hH34.slc (i := 0) rfl enc71_len) hr35) (st_cons rfl (ev_ex wantS_none (ex_move rfl)) rfl rfl (blk_self hH34 (i := 3) rfl) st_nil) ?_
      refine DrawG.opX rfl wantS_none rfl (ExG.built (enc := enc3) (l := ([r35] : List Int)) (z := 1) rfl elt38 rfl rfl rfl enc3_len hH34) ?_
      rintro s37 M38 (hH38 : Has Fr M38 [.vec 3 1 ([r35] : List Int).length s37 (([r35] : List Int).flatMap enc3), .vec 71 3 r32.length s32_0 (r32.flatMap enc71), .vec 76 3 r29.length s29_0 (r29.flatMap enc76), .obj b22 (.row 93 .whole [(.int .i64 c22.Live), (.int .i64 c22.Window), (.int .i64 c22.Step)]), .vec 3 1 l24.length s24 (l24.flatMap enc3)])
      refine ⟨(st_cons rfl (ev_ex wantS_none (ex_move rfl)) rfl rfl (blk_self hH38 (i := 4) rfl) st_nil), ?_⟩
      obtain ⟨l39, hl39, h⟩ := bnd_some h
      refine DrawG.opX rfl wantS_none rfl (ExG.append rfl rfl hH38 (i := 4) rfl enc3_len rfl enc3_ones appt38_38 rfl (len_slc (hH38.slc (i := 0) rfl enc3_len)) (first_slc (hH38.slc (i := 0) rfl enc3_len) (rdLe_rdRow _) enc3_len) hl39) ?_
      rintro s39 M41 (hH41 : Has Fr M41 [.vec 3 1 ([r35] : List Int).length s37 (([r35] : List Int).flatMap enc3), .vec 71 3 r32.length s32_0 (r32.flatMap enc71), .vec 76 3 r29.length s29_0 (r29.flatMap enc76), .obj b22 (.row 93 .whole [(.int .i64 c22.Live), (.int .i64 c22.Window), (.int .i64 c22.Step)]), .vec 3 1 l39.length s39 (l39.flatMap enc3)])
      refine ⟨st_nil, ?_⟩
      refine DrawG.val rfl wantS_none (ex_assign rfl) rfl st_nil ?_
      refine DrawG.sync ?_
      refine DrawG.nil ?_
      refine Run.inBlock (Run.region ?_)
      refine Run.opG wantS_none (ex_move rfl) rfl ?_
      refine Run.opG wantS_none (ex_add rfl rfl) rfl ?_
      refine Run.opG wantS_none (ex_assign rfl) rfl ?_
      refine Run.opsEnd (Run.inLoop ?_)
      exact Run.pick [0, 1, 5, 7, 8] (ih v0 v1 (w64 (v8 + (1 : Int))) c22 l39 sv0 sv1 b22 s39 _ _ _ hv0 hv1 (hH41.pick [3, 4] rfl rfl) h)
    · have h := bif_f hc28 h
      refine Run.condF' rfl hc28 ?_
      refine Run.exit rfl (Run.seq (Run.region ?_))
      refine Run.opG wantS_none (ex_move rfl) rfl ?_
      refine Run.opG wantS_none (ex_assign rfl) rfl ?_
      refine Run.opsEnd ?_
      cases h
      exact Run.ret Try.func66 rfl (res_tmp rfl res_nil) ⟨_, rfl, (hH.pick [1] rfl rfl).upF (none_le _)⟩

def ref08_statistics (F : Nat) (a0 : (List S_api_Trigger)) (a1 : (List S_api_Trigger)) (a2 : S_ringdownref08_Clock) : Option ((List Int)) :=
  ref08_statistics_1 F F a0 a1 (0 : Int) a2 ([] : List Int)

theorem ref08_statistics_ok (F : Nat) (a0 : (List S_api_Trigger)) (a1 : (List S_api_Trigger)) (a2 : S_ringdownref08_Clock) (s0 s1 : SV) (r : (List Int)) (M : Mem) (hs0 : Slc (rd M) 3 (FlatR enc76) s0 a0) (hs1 : Slc (rd M) 3 (FlatR enc76) s1 a1) (h : ref08_statistics F a0 a1 a2 = some r) : CallsM Try.prog 66 [s0, s1, (.agg [(.int .i64 a2.Live), (.int .i64 a2.Window), (.int .i64 a2.Step)])] M (fun s M' => ∃ q1, s = q1 ∧ New M M' [.vec 3 1 r.length q1 (r.flatMap enc3)]) := by
  refine CallsM.fresh (Q := ref08_statistics_post r) Try.func66 rfl rfl ?_ (by rintro s Me ⟨q1, rfl, hx⟩ ha hw; exact ⟨_, rfl, New.of rfl hx ha hw⟩)
  rw [ref08_statistics] at h
  replace hs0 := hs0.mono (rdLe_frozen M) (fun _ _ h => h)
  replace hs1 := hs1.mono (rdLe_frozen M) (fun _ _ h => h)
  have hH := Has.nil (frozen M)
  refine Run.seq (Run.region ?_)
  refine Run.opX wantS_none rfl (ExG.box rfl rfl hH) ?_
  rintro _ M23 ⟨b22, rfl, (hH23 : Has (ro (frozen M)) M23 [.obj b22 (.row 93 .whole [(.int .i64 a2.Live), (.int .i64 a2.Window), (.int .i64 a2.Step)])])⟩
  refine Run.opG wantS_none (ex_assign rfl) rfl ?_
  refine Run.opsEnd (Run.seq (Run.region ?_))
  refine Run.opG wantS_none (ex_assign rfl) rfl ?_
  refine Run.opsEnd (Run.seq (Run.seq (Run.region ?_)))
  refine Run.opG wantS_none (ex_assign rfl) rfl ?_
  refine Run.opsEnd (Run.block (Run.loop ?_))
  have hH25 : Has (ro (frozen M)) M23 [.vec 3 1 ([] : List Int).length .nils (([] : List Int).flatMap enc3), .obj b22 (.row 93 .whole [(.int .i64 a2.Live), (.int .i64 a2.Window), (.int .i64 a2.Step)])] := hH23.nils 3 1
  exact Run.pick [0, 1, 5, 7, 8] (ref08_statistics_1_ok F F a0 a1 (0 : Int) a2 ([] : List Int) s0 s1 b22 .nils _ _ _ hs0 hs1 (hH25.pick [1, 0] rfl rfl) h)

theorem mkk66 : makeK Try.prog 66 = none := by kernel_rfl
theorem cal66 : callable Try.prog 66 = true := by kernel_rfl
abbrev ref08_Statistics_post (r : (List Int) × Int) : SV → Mem → Prop := fun s Me => ∃ q1, s = (.tuple [q1, (.int .i64 r.2)]) ∧ Has (fun _ => none) Me [.vec 3 1 r.1.length q1 (r.1.flatMap enc3)]

def ref08_Statistics (F : Nat) (a0 : (List S_api_Trigger)) (a1 : (List S_api_Trigger)) (a2 : Int) (a3 : Int) (a4 : Int) : Option ((List Int) × Int) :=
  bnd (ref08_ready F a0 a1 (S_ringdownref08_Clock.mk a2 a3 a4)) fun r26 =>
  bif (!(r26 == (0 : Int))) then
    some (([] : List Int), r26)
  else
    bnd (ref08_statistics F a0 a1 (S_ringdownref08_Clock.mk a2 a3 a4)) fun r33 =>
    some (r33, (0 : Int))

theorem ref08_Statistics_ok (F : Nat) (a0 : (List S_api_Trigger)) (a1 : (List S_api_Trigger)) (a2 : Int) (a3 : Int) (a4 : Int) (s0 s1 : SV) (r : (List Int) × Int) (M : Mem) (hs0 : Slc (rd M) 3 (FlatR enc76) s0 a0) (hs1 : Slc (rd M) 3 (FlatR enc76) s1 a1) (h : ref08_Statistics F a0 a1 a2 a3 a4 = some r) : CallsM Try.prog 27 [s0, s1, (.int .i64 a2), (.int .i64 a3), (.int .i64 a4)] M (fun s M' => ∃ q1, s = (.tuple [q1, (.int .i64 r.2)]) ∧ New M M' [.vec 3 1 r.1.length q1 (r.1.flatMap enc3)]) := by
  refine CallsM.fresh (Q := ref08_Statistics_post r) Try.func27 rfl rfl ?_ (by rintro s Me ⟨q1, rfl, hx⟩ ha hw; exact ⟨_, rfl, New.of rfl hx ha hw⟩)
  rw [ref08_Statistics] at h
  replace hs0 := hs0.mono (rdLe_frozen M) (fun _ _ h => h)
  replace hs1 := hs1.mono (rdLe_frozen M) (fun _ _ h => h)
  have hH := Has.nil (frozen M)
  refine Run.seq (Run.region ?_)
  refine Run.opG wantS_none (ex_assign rfl) rfl ?_
  refine Run.opG wantS_none (ex_assign rfl) rfl ?_
  refine Run.opsEnd (Run.seq (Run.region ?_))
  refine Run.opG wantS_none (ex_move rfl) rfl ?_
  refine Run.opG wantS_none (ex_move rfl) rfl ?_
  refine Run.opG wantS_none (ex_move rfl) rfl ?_
  refine Run.opG wantS_none (ex_build (r := [(.int .i64 a2), (.int .i64 a3), (.int .i64 a4)]) rfl zer93 pls93 rfl) rfl ?_
  refine Run.opX wantS_none rfl (ExG.new (v := fun b => .ptr b 0) (ex_alloc zer93) hH) ?_
  rintro _ M23 ⟨b22, rfl, (hH23 : Has (ro (frozen M)) M23 [.obj b22 (.row 93 .whole [(.int .i64 0), (.int .i64 0), (.int .i64 0)])])⟩
  refine Run.opX wantS_none rfl (ExG.storeC (c' := [(.int .i64 a2), (.int .i64 a3), (.int .i64 a4)]) rfl rfl rfl hH23 (i := 0) rfl sz93 rfl rfl rfl rfl rfl) ?_
  rintro _ M24 ⟨rfl, (hH24 : Has (ro (frozen M)) M24 [.obj b22 (.row 93 .whole [(.int .i64 a2), (.int .i64 a3), (.int .i64 a4)])])⟩
  refine Run.opsEnd (Run.seq (Run.seq (Run.region ?_)))
  refine Run.opG wantS_none (ex_move rfl) rfl ?_
  refine Run.opG wantS_none (ex_move rfl) rfl ?_
  refine Run.opG wantS_none (ex_loadA rfl (hH24.cells (i := 0) rfl 0 rfl) rdLe_rfl agg93 rfl rfl rfl) rfl ?_
  obtain ⟨r26, hr26, h⟩ := bnd_some h
  refine Run.callP wantS_none (ex_call rfl mkk58 cal58) rfl (ref08_ready_ok F a0 a1 (S_ringdownref08_Clock.mk a2 a3 a4) s0 s1 _ _ (hH24.slcF hs0) (hH24.slcF hs1) hr26) ?_
  refine Run.opG wantS_none (ex_assign rfl) rfl ?_
  refine Run.opsEnd (Run.seq (Run.region ?_))
  refine Run.opG wantS_none (ex_move rfl) rfl ?_
  refine Run.opG wantS_none (ex_neq rfl rfl) rfl ?_
  refine Run.opsEnd ?_
  rcases btf ((!(r26 == (0 : Int)))) with hc28 | hc28
  · have h := bif_t hc28 h
    refine Run.condT' rfl hc28 ?_
    refine Run.seq (Run.region ?_)
    refine Run.opG wantS_none (ex_move rfl) rfl ?_
    refine Run.opG wantS_none (ex_assign rfl) rfl ?_
    refine Run.opG wantS_none (ex_assign rfl) rfl ?_
    refine Run.opsEnd ?_
    have hH30 : Has (ro (frozen M)) M24 [.vec 3 1 ([] : List Int).length .nils (([] : List Int).flatMap enc3), .obj b22 (.row 93 .whole [(.int .i64 a2), (.int .i64 a3), (.int .i64 a4)])] := hH24.nils 3 1
    cases h
    exact Run.ret Try.func27 rfl (res_tmp rfl (res_tmp rfl res_nil)) ⟨_, rfl, (hH30.pick [0] rfl rfl).upF (none_le _)⟩
  · have h := bif_f hc28 h
    refine Run.condF' rfl hc28 ?_
    refine Run.skip (Run.seq (Run.region ?_))
    refine Run.opG wantS_none (ex_move rfl) rfl ?_
    refine Run.opG wantS_none (ex_move rfl) rfl ?_
    refine Run.opG wantS_none (ex_loadA rfl (hH24.cells (i := 0) rfl 0 rfl) rdLe_rfl agg93 rfl rfl rfl) rfl ?_
    obtain ⟨r33, hr33, h⟩ := bnd_some h
    refine Run.callX wantS_none (ex_call rfl mkk66 cal66) rfl (ref08_statistics_ok F a0 a1 (S_ringdownref08_Clock.mk a2 a3 a4) s0 s1 _ _ (hH24.slcF hs0) (hH24.slcF hs1) hr33) ?_
    rintro s33_0 M35 ⟨_, rfl, hN33⟩
    have hH35 : Has (ro (frozen M)) M35 [.vec 3 1 r33.length s33_0 (r33.flatMap enc3), .obj b22 (.row 93 .whole [(.int .i64 a2), (.int .i64 a3), (.int .i64 a4)])] := hN33.1 _ _ hH24
    refine Run.opG wantS_none (ex_assign rfl) rfl ?_
    refine Run.opG wantS_none (ex_assign rfl) rfl ?_
    refine Run.opsEnd ?_
    cases h
    exact Run.ret Try.func27 rfl (res_tmp rfl (res_tmp rfl res_nil)) ⟨_, rfl, (hH35.pick [0] rfl rfl).upF (none_le _)⟩

theorem mkk27 : makeK Try.prog 27 = none := by kernel_rfl
theorem cal27 : callable Try.prog 27 = true := by kernel_rfl
theorem lenk38 : lenK Try.prog 38 = some .sl := by kernel_rfl
theorem els38 : elems Try.prog 38 = some (.sl 1) := by kernel_rfl
theorem plan28_1_1_0_1_0_0_1_0_0_0 : planOf Try.prog (opsC (atC Try.prog 28 [1, 1, 0, 1, 0, 0, 1, 0, 0, 0])) = some [.fl 0, .fl 1, .fl 2, .fl 3, .fl 4, .fl 5, .fl 6, .fl 7, .fl 8, .sync] := by kernel_rfl
abbrev ref00_SameInts_post (r : Bool) : SV → Mem → Prop := fun s _ => s = (.bool r)

def ref00_SameInts_1 (F : Nat) : Nat → (List Int) → (List Int) → Int → Option (Bool)
  | 0, _, _, _ => none
  | N + 1, v0, v1, v5 =>
    bif (decide (v5 < (v0.length : Int))) then
      bnd (idx v0 v5) fun x23 =>
      bnd (idx v1 v5) fun x24 =>
      bif (!(x23 == x24)) then
        some false
      else
        (ref00_SameInts_1 F N) v0 v1 (w64 (v5 + (1 : Int)))
    else
      some true

theorem ref00_SameInts_1_ok (F : Nat) : ∀ (N : Nat), ∀ (v0 : (List Int)) (v1 : (List Int)) (v5 : Int) (sv0 : SV) (sv1 : SV) (Fr : Rd) (M : Mem) (r : Bool) (hv0 : Slc Fr 1 (FlatR enc3) sv0 v0) (hv1 : Slc Fr 1 (FlatR enc3) sv1 v1) (hH : Has Fr M []), ref00_SameInts_1 F N v0 v1 v5 = some r → Run Try.prog ⟨⟨28, [], none⟩, []⟩ 26 (ref00_SameInts_post r) [(0, sv0), (1, sv1), (5, (.int .i64 v5))] [codeC Try.prog 28 [1, 1, 0, 1, 0, 0], loopC Try.prog 28 [1, 1, 0, 1, 0, 0], .inBlock 0, codeC Try.prog 28 [1, 1, 1]] M := by
  intro N
  induction N with
  | zero =>
    intro v0 v1 v5 sv0 sv1 Fr M r hv0 hv1 hH h
    simp [ref00_SameInts_1] at h
  | succ N ih =>
    intro v0 v1 v5 sv0 sv1 Fr M r hv0 hv1 hH h
    rw [ref00_SameInts_1] at h
    refine Run.seq (Run.seq (Run.region ?_))
    refine Run.opG wantS_none (ex_move rfl) rfl ?_
    refine Run.opG wantS_none (ex_move rfl) rfl ?_
    refine Run.opG wantS_none (ex_len' rfl hv0 lenk38) rfl ?_
    refine Run.opG wantS_none (ex_lss rfl rfl) rfl ?_
    refine Run.opsEnd ?_
    rcases btf ((decide (v5 < (v0.length : Int)))) with hc22 | hc22
    · have h := bif_t hc22 h
      refine Run.condT' rfl hc22 ?_
      refine Run.skip (Run.seq (Run.block (Run.seq ?_)))
      refine Run.drawG plan28_1_1_0_1_0_0_1_0_0_0 ?_
      refine DrawG.fl rfl (ev_ex wantS_none (ex_move rfl)) rfl ?_
      refine DrawG.fl rfl (ev_ex wantS_none (ex_move rfl)) rfl ?_
      obtain ⟨x23, hx23, h⟩ := bnd_some h
      obtain ⟨p23, o23, _, hx23, hp23, rfl⟩ := sl_elem (P := Try.prog) (t := 38) (kk := .i64) hv0 hx23 els38
      refine DrawG.fl rfl (ev_ex wantS_none (ex_elX rfl rfl hx23)) rfl ?_
      refine DrawG.fl rfl (ev_ex wantS_none (ex_load1 rfl (hH.ptrF hp23) rdLe_rfl agg3)) rfl ?_
      refine DrawG.fl rfl (ev_ex wantS_none (ex_move rfl)) rfl ?_
      refine DrawG.fl rfl (ev_ex wantS_none (ex_move rfl)) rfl ?_
      obtain ⟨x24, hx24, h⟩ := bnd_some h
      obtain ⟨p24, o24, _, hx24, hp24, rfl⟩ := sl_elem (P := Try.prog) (t := 38) (kk := .i64) hv1 hx24 els38
      refine DrawG.fl rfl (ev_ex wantS_none (ex_elX rfl rfl hx24)) rfl ?_
      refine DrawG.fl rfl (ev_ex wantS_none (ex_load1 rfl (hH.ptrF hp24) rdLe_rfl agg3)) rfl ?_
      refine DrawG.fl rfl (ev_ex wantS_none (ex_neq rfl rfl)) rfl ?_
      refine DrawG.sync ?_
      refine DrawG.nil ?_
      rcases btf ((!(x23 == x24))) with hc25 | hc25
      · have h := bif_t hc25 h
        refine Run.condT' rfl hc25 ?_
        refine Run.seq (Run.region ?_)
        refine Run.opG wantS_none (ex_assign rfl) rfl ?_
        refine Run.opsEnd ?_
        cases h
        exact Run.ret Try.func28 rfl (res_tmp rfl res_nil) rfl
      · have h := bif_f hc25 h
        refine Run.condF' rfl hc25 ?_
        refine Run.skip (Run.inBlock (Run.region ?_))
        refine Run.opG wantS_none (ex_move rfl) rfl ?_
        refine Run.opG wantS_none (ex_add rfl rfl) rfl ?_
        refine Run.opG wantS_none (ex_assign rfl) rfl ?_
        refine Run.opsEnd (Run.inLoop ?_)
        exact Run.pick [0, 1, 5] (ih v0 v1 (w64 (v5 + (1 : Int))) sv0 sv1 _ _ _ hv0 hv1 hH h)
    · have h := bif_f hc22 h
      refine Run.condF' rfl hc22 ?_
      refine Run.exit rfl (Run.seq (Run.region ?_))
      refine Run.opG wantS_none (ex_assign rfl) rfl ?_
      refine Run.opsEnd ?_
      cases h
      exact Run.ret Try.func28 rfl (res_tmp rfl res_nil) rfl

def ref00_SameInts (F : Nat) (a0 : (List Int)) (a1 : (List Int)) : Option (Bool) :=
  bif (!((a0.length : Int) == (a1.length : Int))) then
    some false
  else
    ref00_SameInts_1 F F a0 a1 (0 : Int)

theorem ref00_SameInts_ok (F : Nat) (a0 : (List Int)) (a1 : (List Int)) (s0 s1 : SV) (r : Bool) (M : Mem) (hs0 : Slc (rd M) 1 (FlatR enc3) s0 a0) (hs1 : Slc (rd M) 1 (FlatR enc3) s1 a1) (h : ref00_SameInts F a0 a1 = some r) : CallsM Try.prog 28 [s0, s1] M (fun s M' => s = (.bool r) ∧ M' = M) := by
  refine CallsM.plain Try.func28 rfl rfl rfl (show Run _ _ _ (ref00_SameInts_post r) _ _ _ from ?_)
  rw [ref00_SameInts] at h
  replace hs0 := hs0.mono (rdLe_frozen M) (fun _ _ h => h)
  replace hs1 := hs1.mono (rdLe_frozen M) (fun _ _ h => h)
  have hH := Has.nil (frozen M)
  refine Run.seq (Run.region ?_)
  refine Run.opG wantS_none (ex_assign rfl) rfl ?_
  refine Run.opsEnd (Run.seq (Run.seq (Run.region ?_)))
  refine Run.opG wantS_none (ex_move rfl) rfl ?_
  refine Run.opG wantS_none (ex_len' rfl hs0 lenk38) rfl ?_
  refine Run.opG wantS_none (ex_move rfl) rfl ?_
  refine Run.opG wantS_none (ex_len' rfl hs1 lenk38) rfl ?_
  refine Run.opG wantS_none (ex_neq rfl rfl) rfl ?_
  refine Run.opsEnd ?_
  rcases btf ((!((a0.length : Int) == (a1.length : Int)))) with hc21 | hc21
  · have h := bif_t hc21 h
    refine Run.condT' rfl hc21 ?_
    refine Run.seq (Run.region ?_)
    refine Run.opG wantS_none (ex_assign rfl) rfl ?_
    refine Run.opsEnd ?_
    cases h
    exact Run.ret Try.func28 rfl (res_tmp rfl res_nil) rfl
  · have h := bif_f hc21 h
    refine Run.condF' rfl hc21 ?_
    refine Run.skip (Run.seq (Run.seq (Run.region ?_)))
    refine Run.opG wantS_none (ex_assign rfl) rfl ?_
    refine Run.opsEnd (Run.block (Run.loop ?_))
    exact Run.pick [0, 1, 5] (ref00_SameInts_1_ok F F a0 a1 (0 : Int) s0 s1 _ _ _ hs0 hs1 hH h)

theorem mkk28 : makeK Try.prog 28 = none := by kernel_rfl
theorem cal28 : callable Try.prog 28 = true := by kernel_rfl
theorem mkk22 : makeK Try.prog 22 = none := by kernel_rfl
theorem cal22 : callable Try.prog 22 = true := by kernel_rfl
abbrev law08_SearchSlides_post (r : Bool) : SV → Mem → Prop := fun s _ => s = (.bool r)

def law08_SearchSlides_3 (F : Nat) (v74 : Bool) : Option (Bool) :=
  some v74

theorem law08_SearchSlides_3_ok (F : Nat) : ∀ (v74 : Bool) (Fr : Rd) (M : Mem) (r : Bool) (hH : Has Fr M []), law08_SearchSlides_3 F v74 = some r → Run Try.prog ⟨⟨4, [], none⟩, []⟩ 75 (law08_SearchSlides_post r) [(74, (.bool v74))] [itemC Try.prog 4 [1, 1, 1, 1, 1, 1, 0] 11, codeC Try.prog 4 [1, 1, 1, 1, 1, 1, 1]] M := by
  intro v74 Fr M r hH h
  rw [law08_SearchSlides_3] at h
  refine Run.opG wantS_none (ex_assign rfl) rfl ?_
  refine Run.opsEnd ?_
  cases h
  exact Run.ret Try.func4 rfl (res_tmp rfl res_nil) rfl

def law08_SearchSlides_2 (F : Nat) (v71 : Bool) : Option (Bool) :=
  bif v71 then
    bnd (works F) fun r55 =>
    law08_SearchSlides_3 F r55
  else
    law08_SearchSlides_3 F false

theorem law08_SearchSlides_2_ok (F : Nat) : ∀ (v71 : Bool) (Fr : Rd) (M : Mem) (r : Bool) (hH : Has Fr M []), law08_SearchSlides_2 F v71 = some r → Run Try.prog ⟨⟨4, [], none⟩, []⟩ 75 (law08_SearchSlides_post r) [(71, (.bool v71))] [itemC Try.prog 4 [1, 1, 1, 1, 1, 1, 0] 8, codeC Try.prog 4 [1, 1, 1, 1, 1, 1, 1]] M := by
  intro v71 Fr M r hH h
  rw [law08_SearchSlides_2] at h
  refine Run.opG wantS_none (ex_move rfl) rfl ?_
  rcases btf (v71) with hc53 | hc53
  · have h := bif_t hc53 h
    obtain ⟨r55, hr55, h⟩ := bnd_some h
    refine Run.callP (wantS_yes' rfl rfl hc53) (ex_call rfl mkk22 cal22) rfl (works_ok F r55 _ hH  hr55) ?_
    refine Run.opG wantS_none (ex_pickT' rfl hc53 rfl rfl) rfl ?_
    exact Run.pick [74] (law08_SearchSlides_3_ok F r55 _ _ _ hH h)
  · have h := bif_f hc53 h
    refine Run.no (wantS_not' rfl rfl hc53) rfl ?_
    refine Run.opG wantS_none (ex_pickF' rfl hc53 rfl rfl) rfl ?_
    exact Run.pick [74] (law08_SearchSlides_3_ok F false _ _ _ hH h)

def law08_SearchSlides_1 (F : Nat) (v0 : (List S_api_Trigger)) (v1 : (List S_api_Trigger)) (v39 : Bool) (c22 : S_ringdownlaw08_Clock) : Option (Bool) :=
  bif v39 then
    some false
  else
    bnd (search_Statistics F v0 v1 c22.Live c22.Window c22.Step) fun r41 =>
    bnd (ref08_Statistics F v0 v1 c22.Live c22.Window c22.Step) fun r46 =>
    bnd (ref00_SameInts F r41.1 r46.1) fun r50 =>
    bif r50 then
      law08_SearchSlides_2 F (r41.2 == r46.2)
    else
      law08_SearchSlides_2 F false

theorem law08_SearchSlides_1_ok (F : Nat) : ∀ (v0 : (List S_api_Trigger)) (v1 : (List S_api_Trigger)) (v39 : Bool) (c22 : S_ringdownlaw08_Clock) (sv0 : SV) (sv1 : SV) (b22 : Pos) (Fr : Rd) (M : Mem) (r : Bool) (hv0 : Slc Fr 3 (FlatR enc76) sv0 v0) (hv1 : Slc Fr 3 (FlatR enc76) sv1 v1) (hH : Has Fr M [.obj b22 (.row 24 .whole [(.int .i64 c22.Live), (.int .i64 c22.Window), (.int .i64 c22.Step), (.int .i64 c22.Limit)])]), law08_SearchSlides_1 F v0 v1 v39 c22 = some r → Run Try.prog ⟨⟨4, [], none⟩, []⟩ 75 (law08_SearchSlides_post r) [(0, sv0), (1, sv1), (5, (.ptr b22 0)), (39, (.bool v39))] [codeC Try.prog 4 [1, 1, 1, 0, 1], codeC Try.prog 4 [1, 1, 1, 1]] M := by
  intro v0 v1 v39 c22 sv0 sv1 b22 Fr M r hv0 hv1 hH h
  rw [law08_SearchSlides_1] at h
  rcases btf (v39) with hc38 | hc38
  · have h := bif_t hc38 h
    refine Run.condT' rfl hc38 ?_
    refine Run.seq (Run.region ?_)
    refine Run.opG wantS_none (ex_assign rfl) rfl ?_
    refine Run.opsEnd ?_
    cases h
    exact Run.ret Try.func4 rfl (res_tmp rfl res_nil) rfl
  · have h := bif_f hc38 h
    refine Run.condF' rfl hc38 ?_
    refine Run.skip (Run.seq (Run.region ?_))
    refine Run.opG wantS_none (ex_move rfl) rfl ?_
    refine Run.opG wantS_none (ex_move rfl) rfl ?_
    refine Run.opG wantS_none (ex_fieldAddr rfl off24_0) rfl ?_
    refine Run.opG wantS_none (ex_load1 rfl (hH.cells (i := 0) rfl 0 rfl) rdLe_rfl agg3) rfl ?_
    refine Run.opG wantS_none (ex_fieldAddr rfl off24_1) rfl ?_
    refine Run.opG wantS_none (ex_load1 rfl (hH.cells (i := 0) rfl 1 rfl) rdLe_rfl agg3) rfl ?_
    refine Run.opG wantS_none (ex_fieldAddr rfl off24_2) rfl ?_
    refine Run.opG wantS_none (ex_load1 rfl (hH.cells (i := 0) rfl 2 rfl) rdLe_rfl agg3) rfl ?_
    obtain ⟨r41, hr41, h⟩ := bnd_some h
    refine Run.callX wantS_none (ex_call rfl mkk26 cal26) rfl (search_Statistics_ok F v0 v1 c22.Live c22.Window c22.Step sv0 sv1 _ _ (hH.slcF hv0) (hH.slcF hv1) hr41) ?_
    rintro _ M43 ⟨s41_0, rfl, hN41⟩
    have hH43 : Has Fr M43 [.vec 3 1 r41.1.length s41_0 (r41.1.flatMap enc3), .obj b22 (.row 24 .whole [(.int .i64 c22.Live), (.int .i64 c22.Window), (.int .i64 c22.Step), (.int .i64 c22.Limit)])] := hN41.1 _ _ hH
    refine Run.opG wantS_none (ex_move rfl) rfl ?_
    refine Run.opG wantS_none (ex_extract rfl rfl) rfl ?_
    refine Run.opG wantS_none (ex_extract rfl rfl) rfl ?_
    refine Run.opG wantS_none (ex_assign rfl) rfl ?_
    refine Run.opG wantS_none (ex_assign rfl) rfl ?_
    refine Run.opsEnd (Run.seq (Run.region ?_))
    refine Run.opG wantS_none (ex_move rfl) rfl ?_
    refine Run.opG wantS_none (ex_move rfl) rfl ?_
    refine Run.opG wantS_none (ex_fieldAddr rfl off24_0) rfl ?_
    refine Run.opG wantS_none (ex_load1 rfl (hH43.cells (i := 1) rfl 0 rfl) rdLe_rfl agg3) rfl ?_
    refine Run.opG wantS_none (ex_fieldAddr rfl off24_1) rfl ?_
    refine Run.opG wantS_none (ex_load1 rfl (hH43.cells (i := 1) rfl 1 rfl) rdLe_rfl agg3) rfl ?_
    refine Run.opG wantS_none (ex_fieldAddr rfl off24_2) rfl ?_
    refine Run.opG wantS_none (ex_load1 rfl (hH43.cells (i := 1) rfl 2 rfl) rdLe_rfl agg3) rfl ?_
    obtain ⟨r46, hr46, h⟩ := bnd_some h
    refine Run.callX wantS_none (ex_call rfl mkk27 cal27) rfl (ref08_Statistics_ok F v0 v1 c22.Live c22.Window c22.Step sv0 sv1 _ _ (hH43.slcF hv0) (hH43.slcF hv1) hr46) ?_
    rintro _ M48 ⟨s46_0, rfl, hN46⟩
    have hH48 : Has Fr M48 [.vec 3 1 r46.1.length s46_0 (r46.1.flatMap enc3), .vec 3 1 r41.1.length s41_0 (r41.1.flatMap enc3), .obj b22 (.row 24 .whole [(.int .i64 c22.Live), (.int .i64 c22.Window), (.int .i64 c22.Step), (.int .i64 c22.Limit)])] := hN46.1 _ _ hH43
    refine Run.opG wantS_none (ex_move rfl) rfl ?_
    refine Run.opG wantS_none (ex_extract rfl rfl) rfl ?_
    refine Run.opG wantS_none (ex_extract rfl rfl) rfl ?_
    refine Run.opG wantS_none (ex_assign rfl) rfl ?_
    refine Run.opG wantS_none (ex_assign rfl) rfl ?_
    refine Run.opsEnd (Run.seq (Run.region ?_))
    refine Run.opG wantS_none (ex_move rfl) rfl ?_
    refine Run.opG wantS_none (ex_move rfl) rfl ?_
    obtain ⟨r50, hr50, h⟩ := bnd_some h
    refine Run.callP wantS_none (ex_call rfl mkk28 cal28) rfl (ref00_SameInts_ok F r41.1 r46.1 s41_0 s46_0 _ _ (hH48.slc (i := 1) rfl enc3_len) (hH48.slc (i := 0) rfl enc3_len) hr50) ?_
    refine Run.opG wantS_none (ex_move rfl) rfl ?_
    rcases btf (r50) with hc52 | hc52
    · have h := bif_t hc52 h
      refine Run.opG (wantS_yes' rfl rfl hc52) (ex_move rfl) rfl ?_
      refine Run.opG (wantS_yes' rfl rfl hc52) (ex_move rfl) rfl ?_
      refine Run.opG (wantS_yes' rfl rfl hc52) (ex_eql rfl rfl) rfl ?_
      refine Run.opG wantS_none (ex_pickT' rfl hc52 rfl rfl) rfl ?_
      exact Run.pick [71] (law08_SearchSlides_2_ok F (r41.2 == r46.2) _ _ _ (hH48.pick [] rfl rfl) h)
    · have h := bif_f hc52 h
      refine Run.no (wantS_not' rfl rfl hc52) rfl ?_
      refine Run.no (wantS_not' rfl rfl hc52) rfl ?_
      refine Run.no (wantS_not' rfl rfl hc52) rfl ?_
      refine Run.opG wantS_none (ex_pickF' rfl hc52 rfl rfl) rfl ?_
      exact Run.pick [71] (law08_SearchSlides_2_ok F false _ _ _ (hH48.pick [] rfl rfl) h)

def law08_SearchSlides (F : Nat) (a0 : (List S_api_Trigger)) (a1 : (List S_api_Trigger)) (a2 : S_ringdownlaw08_Clock) : Option (Bool) :=
  bnd (search_Slide F a1 a2.Live a2.Limit) fun r26 =>
  bnd (ref08_Slide F a1 a2.Live a2.Limit) fun r31 =>
  bnd (law08_triggers F r26.1 r31.1) fun r35 =>
  bif (!r35) then
    law08_SearchSlides_1 F a0 a1 true a2
  else
    law08_SearchSlides_1 F a0 a1 (!(r26.2 == r31.2)) a2

theorem law08_SearchSlides_run (F : Nat) (a0 : (List S_api_Trigger)) (a1 : (List S_api_Trigger)) (a2 : S_ringdownlaw08_Clock) (s0 s1 : SV) (r : Bool) (M : Mem) (hs0 : Slc (rd M) 3 (FlatR enc76) s0 a0) (hs1 : Slc (rd M) 3 (FlatR enc76) s1 a1) (hfx : FixIn M fixes) (h : law08_SearchSlides F a0 a1 a2 = some r) : Run Try.prog (fx0 4) 75 (law08_SearchSlides_post r) [(0, s0), (1, s1), (2, (.agg [(.int .i64 a2.Live), (.int .i64 a2.Window), (.int .i64 a2.Step), (.int .i64 a2.Limit)]))] [codeC Try.prog 4 []] (frozen M) := by
  rw [law08_SearchSlides] at h
  replace hs0 := hs0.mono (rdLe_frozen M) (fun _ _ h => h)
  replace hs1 := hs1.mono (rdLe_frozen M) (fun _ _ h => h)
  have hH : Has (ro (frozen M)) (frozen M) [] := Has.ofFix hfx.frozen
  refine Run.seq (Run.region ?_)
  refine Run.opX wantS_none rfl (ExG.box rfl rfl hH) ?_
  rintro _ M23 ⟨b22, rfl, (hH23 : Has (ro (frozen M)) M23 [.obj b22 (.row 24 .whole [(.int .i64 a2.Live), (.int .i64 a2.Window), (.int .i64 a2.Step), (.int .i64 a2.Limit)])])⟩
  refine Run.opG wantS_none (ex_assign rfl) rfl ?_
  refine Run.opsEnd (Run.seq (Run.region ?_))
  refine Run.opG wantS_none (ex_move rfl) rfl ?_
  refine Run.opG wantS_none (ex_fieldAddr rfl off24_0) rfl ?_
  refine Run.opG wantS_none (ex_load1 rfl (hH23.cells (i := 0) rfl 0 rfl) rdLe_rfl agg3) rfl ?_
  refine Run.opG wantS_none (ex_fieldAddr rfl off24_3) rfl ?_
  refine Run.opG wantS_none (ex_load1 rfl (hH23.cells (i := 0) rfl 3 rfl) rdLe_rfl agg3) rfl ?_
  obtain ⟨r26, hr26, h⟩ := bnd_some h
  refine Run.callX wantS_none (ex_call rfl mkk23 cal23) rfl (search_Slide_ok F a1 a2.Live a2.Limit s1 _ _ (hH23.slcF hs1) hr26) ?_
  rintro _ M28 ⟨s26_0, rfl, hN26⟩
  have hH28 : Has (ro (frozen M)) M28 [.vec 76 3 r26.1.length s26_0 (r26.1.flatMap enc76), .obj b22 (.row 24 .whole [(.int .i64 a2.Live), (.int .i64 a2.Window), (.int .i64 a2.Step), (.int .i64 a2.Limit)])] := hN26.1 _ _ hH23
  refine Run.opG wantS_none (ex_move rfl) rfl ?_
  refine Run.opG wantS_none (ex_extract rfl rfl) rfl ?_
  refine Run.opG wantS_none (ex_extract rfl rfl) rfl ?_
  refine Run.opG wantS_none (ex_assign rfl) rfl ?_
  refine Run.opG wantS_none (ex_assign rfl) rfl ?_
  refine Run.opsEnd (Run.seq (Run.region ?_))
  refine Run.opG wantS_none (ex_move rfl) rfl ?_
  refine Run.opG wantS_none (ex_fieldAddr rfl off24_0) rfl ?_
  refine Run.opG wantS_none (ex_load1 rfl (hH28.cells (i := 1) rfl 0 rfl) rdLe_rfl agg3) rfl ?_
  refine Run.opG wantS_none (ex_fieldAddr rfl off24_3) rfl ?_
  refine Run.opG wantS_none (ex_load1 rfl (hH28.cells (i := 1) rfl 3 rfl) rdLe_rfl agg3) rfl ?_
  obtain ⟨r31, hr31, h⟩ := bnd_some h
  refine Run.callX wantS_none (ex_call rfl mkk24 cal24) rfl (ref08_Slide_ok F a1 a2.Live a2.Limit s1 _ _ (hH28.slcF hs1) hr31) ?_
  rintro _ M33 ⟨s31_0, rfl, hN31⟩
  have hH33 : Has (ro (frozen M)) M33 [.vec 76 3 r31.1.length s31_0 (r31.1.flatMap enc76), .vec 76 3 r26.1.length s26_0 (r26.1.flatMap enc76), .obj b22 (.row 24 .whole [(.int .i64 a2.Live), (.int .i64 a2.Window), (.int .i64 a2.Step), (.int .i64 a2.Limit)])] := hN31.1 _ _ hH28
  refine Run.opG wantS_none (ex_move rfl) rfl ?_
  refine Run.opG wantS_none (ex_extract rfl rfl) rfl ?_
  refine Run.opG wantS_none (ex_extract rfl rfl) rfl ?_
  refine Run.opG wantS_none (ex_assign rfl) rfl ?_
  refine Run.opG wantS_none (ex_assign rfl) rfl ?_
  refine Run.opsEnd (Run.seq (Run.seq (Run.region ?_)))
  refine Run.opG wantS_none (ex_move rfl) rfl ?_
  refine Run.opG wantS_none (ex_move rfl) rfl ?_
  obtain ⟨r35, hr35, h⟩ := bnd_some h
  refine Run.callP wantS_none (ex_call rfl mkk25 cal25) rfl (law08_triggers_ok F r26.1 r31.1 s26_0 s31_0 _ _ (hH33.slc (i := 1) rfl enc76_len) (hH33.slc (i := 0) rfl enc76_len) hr35) ?_
  refine Run.opG wantS_none (ex_not rfl) rfl ?_
  refine Run.opG wantS_none (ex_move rfl) rfl ?_
  rcases btf ((!r35)) with hc37 | hc37
  · have h := bif_t hc37 h
    refine Run.no (wantS_not' rfl rfl hc37) rfl ?_
    refine Run.no (wantS_not' rfl rfl hc37) rfl ?_
    refine Run.no (wantS_not' rfl rfl hc37) rfl ?_
    refine Run.opG wantS_none (ex_pickT' rfl hc37 rfl rfl) rfl ?_
    refine Run.opsEnd ?_
    exact Run.pick [0, 1, 5, 39] (law08_SearchSlides_1_ok F a0 a1 true a2 s0 s1 b22 _ _ _ hs0 hs1 (hH33.pick [2] rfl rfl) h)
  · have h := bif_f hc37 h
    refine Run.opG (wantS_yes' rfl rfl hc37) (ex_move rfl) rfl ?_
    refine Run.opG (wantS_yes' rfl rfl hc37) (ex_move rfl) rfl ?_
    refine Run.opG (wantS_yes' rfl rfl hc37) (ex_neq rfl rfl) rfl ?_
    refine Run.opG wantS_none (ex_pickF' rfl hc37 rfl rfl) rfl ?_
    refine Run.opsEnd ?_
    exact Run.pick [0, 1, 5, 39] (law08_SearchSlides_1_ok F a0 a1 (!(r26.2 == r31.2)) a2 s0 s1 b22 _ _ _ hs0 hs1 (hH33.pick [2] rfl rfl) h)

end Go.Ev.SearchSlides
