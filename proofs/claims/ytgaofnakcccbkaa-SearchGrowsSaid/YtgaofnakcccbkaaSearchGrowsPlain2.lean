/- Plain functions that say what functions of the program come to, and proofs of it, written by a program of the verifier's own. -/
import Derived.Test.YtgaofnakcccbkaaSearchGrowsPlain
namespace Go.Ev.SearchGrows
open Go Go.Ev Go.Proofs
set_option maxRecDepth 100000
set_option linter.unusedVariables false

abbrev search_Candidates_post (r : (List S_api_Candidate) × Int) : SV → Mem → Prop := fun s Me => ∃ q1, s = (.tuple [q1, (.int .i64 r.2)]) ∧ Has (fun _ => none) Me [.vec 44 5 r.1.length q1 (r.1.flatMap enc44)]

def search_Candidates_5 (F : Nat) (hd2 : Int → (List S_api_Trigger) → Int → Int → (List S_api_Trigger) → Int → Int → Int → S_search_clock → (List S_api_Trigger) → (List S_api_Trigger) → (List S_api_Trigger) → (List S_api_Trigger) → S_search_clock → S_api_Trigger → (List Int) → (List S_api_Candidate) → Option ((List S_api_Candidate) × Int)) (v5 : Int) (v10 : (List S_api_Trigger)) (v11 v12 : Int) (v17 : (List S_api_Trigger)) (v18 v19 c22_0 : Int) (c45 : S_search_clock) (c48_0 c51_0 c85_0 c88_0 : (List S_api_Trigger)) (c82 : S_search_clock) (c98 : S_api_Trigger) (l56 : (List Int)) (l139 : (List S_api_Candidate)) : Option ((List S_api_Candidate) × Int) :=
  hd2 v5 v10 v11 v12 v17 v18 (w64 (v19 + (1 : Int))) c22_0 c45 c48_0 c51_0 c85_0 c88_0 c82 c98 l56 l139

theorem search_Candidates_5_ok (F : Nat) (hd2 : Int → (List S_api_Trigger) → Int → Int → (List S_api_Trigger) → Int → Int → Int → S_search_clock → (List S_api_Trigger) → (List S_api_Trigger) → (List S_api_Trigger) → (List S_api_Trigger) → S_search_clock → S_api_Trigger → (List Int) → (List S_api_Candidate) → Option ((List S_api_Candidate) × Int)) (hhd2 : ∀ (v5 : Int) (v10 : (List S_api_Trigger)) (v11 v12 : Int) (v17 : (List S_api_Trigger)) (v18 v19 c22_0 : Int) (c45 : S_search_clock) (c48_0 c51_0 c85_0 c88_0 : (List S_api_Trigger)) (c82 : S_search_clock) (c98 : S_api_Trigger) (l56 : (List Int)) (l92 : (List S_api_Candidate)) (sv10 sv17 sc48_0 sc51_0 sc85_0 sc88_0 : SV) (b90 b59 : Pos) (s56 : SV) (b79 b76 b66 b22 b74 b71 b69 : Pos) (s92 : SV) (b63 b45 b48 b51 b72 b77 b85 b88 b82 b91 b98 : Pos) (Fr : Rd) (M : Mem) (r : (List S_api_Candidate) × Int) (hv10 : Slc Fr 3 (FlatR enc73) sv10 v10) (hv17 : Slc Fr 3 (FlatR enc73) sv17 v17) (hc48_0 : Slc Fr 3 (FlatR enc73) sc48_0 c48_0) (hc51_0 : Slc Fr 3 (FlatR enc73) sc51_0 c51_0) (hc85_0 : Slc Fr 3 (FlatR enc73) sc85_0 c85_0) (hc88_0 : Slc Fr 3 (FlatR enc73) sc88_0 c88_0) (hH : Has Fr M [.obj b90 (.loop ⟨.ready, none, 73, 21, treeOf [(4, (.ptr b59 0)), (5, (.ptr b79 0)), (10, (.fn (.func 84) [] [(.ptr b85 0), (.ptr b88 0), (.ptr b82 0)]))], [11], (atC Try.prog 73 [1, 1, 0, 0]), (atC Try.prog 73 [1, 1, 0, 1]), b91⟩), .obj b59 (.row 22 .whole [s56]), .vec 3 1 l56.length s56 (l56.flatMap enc3), .obj b79 (.row 83 .whole [(.yield b76)]), .obj b76 (.loop ⟨.ready, none, 72, 16, treeOf [(2, (.ptr b66 0)), (3, (.ptr b74 0)), (5, (.fn (.func 73) [] [(.ptr b45 0), (.ptr b48 0), (.ptr b51 0), (.ptr b59 0)]))], [6], (atC Try.prog 72 [1, 1, 0, 0]), (atC Try.prog 72 [1, 1, 0, 1]), b77⟩), .obj b66 (.row 83 .whole [(.fn (.func 40) [] [(.ptr b22 0)])]), .obj b22 (.row 3 .whole [(.int .i64 c22_0)]), .obj b74 (.row 83 .whole [(.yield b71)]), .obj b71 (.loop ⟨.ready, none, 71, 13, treeOf [(2, (.ptr b69 0)), (4, .nils), (6, (.fn (.func 72) [] [(.ptr b63 0), (.ptr b66 0)]))], [7], (atC Try.prog 71 [1, 0, 1, 0, 0]), (atC Try.prog 71 [1, 0, 1, 0, 1]), b72⟩), .obj b69 (.row 36 .whole [s92]), .vec 44 5 l92.length s92 (l92.flatMap enc44), .obj b63 (.row 86 .whole [(.fn (.func 73) [] [(.ptr b45 0), (.ptr b48 0), (.ptr b51 0), (.ptr b59 0)])]), .obj b45 (.row 80 .whole [(.int .i64 c45.live), (.int .i64 c45.window), (.int .i64 c45.step)]), .obj b48 (.row 33 .whole [sc48_0]), .obj b51 (.row 33 .whole [sc51_0]), .obj b72 .defd, .obj b77 .defd, .obj b85 (.row 33 .whole [sc85_0]), .obj b88 (.row 33 .whole [sc88_0]), .obj b82 (.row 80 .whole [(.int .i64 c82.live), (.int .i64 c82.window), (.int .i64 c82.step)]), .obj b91 .defd, .obj b98 (.row 73 .whole [(.int .i64 c98.Time), (.int .i64 c98.Loud), (.int .i64 c98.Template)])]), hd2 v5 v10 v11 v12 v17 v18 v19 c22_0 c45 c48_0 c51_0 c85_0 c88_0 c82 c98 l56 l92 = some r → Run Try.prog ⟨⟨84, [], none⟩, [.mk ⟨73, [b91], none⟩ 21 (treeOf []) [.inRange b90, .inBlock 0], .mk ⟨72, [b77], none⟩ 16 (treeOf []) [.inRange b76, .inBlock 0], .mk ⟨71, [b72], none⟩ 13 (treeOf [(2, (.ptr b69 0))]) [.inRange b71, .inBlock 0, codeC Try.prog 71 [1, 1]], .mk ⟨41, [], none⟩ 5 (treeOf []) [itemC Try.prog 41 [1, 0] 1, codeC Try.prog 41 [1, 1]], .mk ⟨14, [], none⟩ 44 (treeOf []) [itemC Try.prog 14 [1, 1, 1, 1, 0] 6, codeC Try.prog 14 [1, 1, 1, 1, 1]]]⟩ 56 (search_Candidates_post r) [(0, (.yield b90)), (2, (.ptr b88 0)), (3, (.ptr b82 0)), (5, (.int .i64 v5)), (6, (.ptr b98 0)), (10, sv10), (11, (.int .i64 v11)), (12, (.int .i64 v12)), (17, sv17), (18, (.int .i64 v18)), (19, (.int .i64 v19))] [codeC Try.prog 84 [1, 0, 0, 1, 1, 0, 0, 1, 1, 0, 0], loopC Try.prog 84 [1, 0, 0, 1, 1, 0, 0, 1, 1, 0, 0], .inBlock 2, .inBlock 1, codeC Try.prog 84 [1, 0, 0, 1, 1, 1], loopC Try.prog 84 [1, 0, 0], .inBlock 0] M) : ∀ (v5 : Int) (v10 : (List S_api_Trigger)) (v11 v12 : Int) (v17 : (List S_api_Trigger)) (v18 v19 c22_0 : Int) (c45 : S_search_clock) (c48_0 c51_0 c85_0 c88_0 : (List S_api_Trigger)) (c82 : S_search_clock) (c98 : S_api_Trigger) (l56 : (List Int)) (l139 : (List S_api_Candidate)) (sv10 sv17 sc48_0 sc51_0 sc85_0 sc88_0 : SV) (b90 b59 : Pos) (s56 : SV) (b79 b76 b66 b22 b74 b71 b69 : Pos) (s139 : SV) (b63 b45 b48 b51 b72 b77 b85 b88 b82 b91 b98 : Pos) (Fr : Rd) (M : Mem) (r : (List S_api_Candidate) × Int) (hv10 : Slc Fr 3 (FlatR enc73) sv10 v10) (hv17 : Slc Fr 3 (FlatR enc73) sv17 v17) (hc48_0 : Slc Fr 3 (FlatR enc73) sc48_0 c48_0) (hc51_0 : Slc Fr 3 (FlatR enc73) sc51_0 c51_0) (hc85_0 : Slc Fr 3 (FlatR enc73) sc85_0 c85_0) (hc88_0 : Slc Fr 3 (FlatR enc73) sc88_0 c88_0) (hH : Has Fr M [.obj b90 (.loop ⟨.ready, none, 73, 21, treeOf [(4, (.ptr b59 0)), (5, (.ptr b79 0)), (10, (.fn (.func 84) [] [(.ptr b85 0), (.ptr b88 0), (.ptr b82 0)]))], [11], (atC Try.prog 73 [1, 1, 0, 0]), (atC Try.prog 73 [1, 1, 0, 1]), b91⟩), .obj b59 (.row 22 .whole [s56]), .vec 3 1 l56.length s56 (l56.flatMap enc3), .obj b79 (.row 83 .whole [(.yield b76)]), .obj b76 (.loop ⟨.ready, none, 72, 16, treeOf [(2, (.ptr b66 0)), (3, (.ptr b74 0)), (5, (.fn (.func 73) [] [(.ptr b45 0), (.ptr b48 0), (.ptr b51 0), (.ptr b59 0)]))], [6], (atC Try.prog 72 [1, 1, 0, 0]), (atC Try.prog 72 [1, 1, 0, 1]), b77⟩), .obj b66 (.row 83 .whole [(.fn (.func 40) [] [(.ptr b22 0)])]), .obj b22 (.row 3 .whole [(.int .i64 c22_0)]), .obj b74 (.row 83 .whole [(.yield b71)]), .obj b71 (.loop ⟨.ready, none, 71, 13, treeOf [(2, (.ptr b69 0)), (4, .nils), (6, (.fn (.func 72) [] [(.ptr b63 0), (.ptr b66 0)]))], [7], (atC Try.prog 71 [1, 0, 1, 0, 0]), (atC Try.prog 71 [1, 0, 1, 0, 1]), b72⟩), .obj b69 (.row 36 .whole [s139]), .vec 44 5 l139.length s139 (l139.flatMap enc44), .obj b63 (.row 86 .whole [(.fn (.func 73) [] [(.ptr b45 0), (.ptr b48 0), (.ptr b51 0), (.ptr b59 0)])]), .obj b45 (.row 80 .whole [(.int .i64 c45.live), (.int .i64 c45.window), (.int .i64 c45.step)]), .obj b48 (.row 33 .whole [sc48_0]), .obj b51 (.row 33 .whole [sc51_0]), .obj b72 .defd, .obj b77 .defd, .obj b85 (.row 33 .whole [sc85_0]), .obj b88 (.row 33 .whole [sc88_0]), .obj b82 (.row 80 .whole [(.int .i64 c82.live), (.int .i64 c82.window), (.int .i64 c82.step)]), .obj b91 .defd, .obj b98 (.row 73 .whole [(.int .i64 c98.Time), (.int .i64 c98.Loud), (.int .i64 c98.Template)])]), search_Candidates_5 F hd2 v5 v10 v11 v12 v17 v18 v19 c22_0 c45 c48_0 c51_0 c85_0 c88_0 c82 c98 l56 l139 = some r → Run Try.prog ⟨⟨84, [], none⟩, [.mk ⟨73, [b91], none⟩ 21 (treeOf []) [.inRange b90, .inBlock 0], .mk ⟨72, [b77], none⟩ 16 (treeOf []) [.inRange b76, .inBlock 0], .mk ⟨71, [b72], none⟩ 13 (treeOf [(2, (.ptr b69 0))]) [.inRange b71, .inBlock 0, codeC Try.prog 71 [1, 1]], .mk ⟨41, [], none⟩ 5 (treeOf []) [itemC Try.prog 41 [1, 0] 1, codeC Try.prog 41 [1, 1]], .mk ⟨14, [], none⟩ 44 (treeOf []) [itemC Try.prog 14 [1, 1, 1, 1, 0] 6, codeC Try.prog 14 [1, 1, 1, 1, 1]]]⟩ 56 (search_Candidates_post r) [(0, (.yield b90)), (2, (.ptr b88 0)), (3, (.ptr b82 0)), (5, (.int .i64 v5)), (6, (.ptr b98 0)), (10, sv10), (11, (.int .i64 v11)), (12, (.int .i64 v12)), (17, sv17), (18, (.int .i64 v18)), (19, (.int .i64 v19)), (53, (.bool false))] [codeC Try.prog 84 [1, 0, 0, 1, 1, 0, 0, 1, 1, 0, 0, 1, 1, 0, 0, 1, 1, 1], .inBlock 3, codeC Try.prog 84 [1, 0, 0, 1, 1, 0, 0, 1, 1, 0, 0, 1, 1, 1], loopC Try.prog 84 [1, 0, 0, 1, 1, 0, 0, 1, 1, 0, 0], .inBlock 2, .inBlock 1, codeC Try.prog 84 [1, 0, 0, 1, 1, 1], loopC Try.prog 84 [1, 0, 0], .inBlock 0] M := by
  intro v5 v10 v11 v12 v17 v18 v19 c22_0 c45 c48_0 c51_0 c85_0 c88_0 c82 c98 l56 l139 sv10 sv17 sc48_0 sc51_0 sc85_0 sc88_0 b90 b59 s56 b79 b76 b66 b22 b74 b71 b69 s139 b63 b45 b48 b51 b72 b77 b85 b88 b82 b91 b98 Fr M r hv10 hv17 hc48_0 hc51_0 hc85_0 hc88_0 hH h
  rw [search_Candidates_5] at h
  refine Run.condF' rfl rfl ?_
  refine Run.skip (Run.inBlock (Run.region ?_))
  refine Run.opG wantS_none (ex_add rfl rfl) rfl ?_
  refine Run.opG wantS_none (ex_move rfl) rfl ?_
  refine Run.opsEnd (Run.inLoop ?_)
  exact Run.low (.cons (fle_pick [] rfl) (.cons (fle_pick [] rfl) (.cons (fle_pick [2] rfl) (.cons (fle_pick [] rfl) (.cons (fle_pick [] rfl) .nil))))) (Run.pick [0, 2, 3, 5, 6, 10, 11, 12, 17, 18, 19] (hhd2 v5 v10 v11 v12 v17 v18 (w64 (v19 + (1 : Int))) c22_0 c45 c48_0 c51_0 c85_0 c88_0 c82 c98 l56 l139 sv10 sv17 sc48_0 sc51_0 sc85_0 sc88_0 b90 b59 s56 b79 b76 b66 b22 b74 b71 b69 s139 b63 b45 b48 b51 b72 b77 b85 b88 b82 b91 b98 _ _ _ hv10 hv17 hc48_0 hc51_0 hc85_0 hc88_0 hH h))

def search_Candidates_4 (F : Nat) (hd2 : Int → (List S_api_Trigger) → Int → Int → (List S_api_Trigger) → Int → Int → Int → S_search_clock → (List S_api_Trigger) → (List S_api_Trigger) → (List S_api_Trigger) → (List S_api_Trigger) → S_search_clock → S_api_Trigger → (List Int) → (List S_api_Candidate) → Option ((List S_api_Candidate) × Int)) (v5_f2 : Int) (v10_f2 : (List S_api_Trigger)) (v11_f2 v12_f2 : Int) (v17_f2 : (List S_api_Trigger)) (v18_f2 v19_f2 : Int) (v41_f2 : Bool) (c22_0 : Int) (c45 : S_search_clock) (c48_0 c51_0 c85_0 c88_0 : (List S_api_Trigger)) (c82 : S_search_clock) (c98 : S_api_Trigger) (l139 : (List S_api_Candidate)) (l56 : (List Int)) : Option ((List S_api_Candidate) × Int) :=
  bif v41_f2 then
    search_Candidates_5 F hd2 v5_f2 v10_f2 v11_f2 v12_f2 v17_f2 v18_f2 v19_f2 c22_0 c45 c48_0 c51_0 c85_0 c88_0 c82 c98 l56 l139
  else
    search_Candidates_5 F hd2 v5_f2 v10_f2 v11_f2 v12_f2 v17_f2 v18_f2 v19_f2 c22_0 c45 c48_0 c51_0 c85_0 c88_0 c82 c98 l56 l139

theorem search_Candidates_4_ok (F : Nat) (hd2 : Int → (List S_api_Trigger) → Int → Int → (List S_api_Trigger) → Int → Int → Int → S_search_clock → (List S_api_Trigger) → (List S_api_Trigger) → (List S_api_Trigger) → (List S_api_Trigger) → S_search_clock → S_api_Trigger → (List Int) → (List S_api_Candidate) → Option ((List S_api_Candidate) × Int)) (hhd2 : ∀ (v5 : Int) (v10 : (List S_api_Trigger)) (v11 v12 : Int) (v17 : (List S_api_Trigger)) (v18 v19 c22_0 : Int) (c45 : S_search_clock) (c48_0 c51_0 c85_0 c88_0 : (List S_api_Trigger)) (c82 : S_search_clock) (c98 : S_api_Trigger) (l56 : (List Int)) (l92 : (List S_api_Candidate)) (sv10 sv17 sc48_0 sc51_0 sc85_0 sc88_0 : SV) (b90 b59 : Pos) (s56 : SV) (b79 b76 b66 b22 b74 b71 b69 : Pos) (s92 : SV) (b63 b45 b48 b51 b72 b77 b85 b88 b82 b91 b98 : Pos) (Fr : Rd) (M : Mem) (r : (List S_api_Candidate) × Int) (hv10 : Slc Fr 3 (FlatR enc73) sv10 v10) (hv17 : Slc Fr 3 (FlatR enc73) sv17 v17) (hc48_0 : Slc Fr 3 (FlatR enc73) sc48_0 c48_0) (hc51_0 : Slc Fr 3 (FlatR enc73) sc51_0 c51_0) (hc85_0 : Slc Fr 3 (FlatR enc73) sc85_0 c85_0) (hc88_0 : Slc Fr 3 (FlatR enc73) sc88_0 c88_0) (hH : Has Fr M [.obj b90 (.loop ⟨.ready, none, 73, 21, treeOf [(4, (.ptr b59 0)), (5, (.ptr b79 0)), (10, (.fn (.func 84) [] [(.ptr b85 0), (.ptr b88 0), (.ptr b82 0)]))], [11], (atC Try.prog 73 [1, 1, 0, 0]), (atC Try.prog 73 [1, 1, 0, 1]), b91⟩), .obj b59 (.row 22 .whole [s56]), .vec 3 1 l56.length s56 (l56.flatMap enc3), .obj b79 (.row 83 .whole [(.yield b76)]), .obj b76 (.loop ⟨.ready, none, 72, 16, treeOf [(2, (.ptr b66 0)), (3, (.ptr b74 0)), (5, (.fn (.func 73) [] [(.ptr b45 0), (.ptr b48 0), (.ptr b51 0), (.ptr b59 0)]))], [6], (atC Try.prog 72 [1, 1, 0, 0]), (atC Try.prog 72 [1, 1, 0, 1]), b77⟩), .obj b66 (.row 83 .whole [(.fn (.func 40) [] [(.ptr b22 0)])]), .obj b22 (.row 3 .whole [(.int .i64 c22_0)]), .obj b74 (.row 83 .whole [(.yield b71)]), .obj b71 (.loop ⟨.ready, none, 71, 13, treeOf [(2, (.ptr b69 0)), (4, .nils), (6, (.fn (.func 72) [] [(.ptr b63 0), (.ptr b66 0)]))], [7], (atC Try.prog 71 [1, 0, 1, 0, 0]), (atC Try.prog 71 [1, 0, 1, 0, 1]), b72⟩), .obj b69 (.row 36 .whole [s92]), .vec 44 5 l92.length s92 (l92.flatMap enc44), .obj b63 (.row 86 .whole [(.fn (.func 73) [] [(.ptr b45 0), (.ptr b48 0), (.ptr b51 0), (.ptr b59 0)])]), .obj b45 (.row 80 .whole [(.int .i64 c45.live), (.int .i64 c45.window), (.int .i64 c45.step)]), .obj b48 (.row 33 .whole [sc48_0]), .obj b51 (.row 33 .whole [sc51_0]), .obj b72 .defd, .obj b77 .defd, .obj b85 (.row 33 .whole [sc85_0]), .obj b88 (.row 33 .whole [sc88_0]), .obj b82 (.row 80 .whole [(.int .i64 c82.live), (.int .i64 c82.window), (.int .i64 c82.step)]), .obj b91 .defd, .obj b98 (.row 73 .whole [(.int .i64 c98.Time), (.int .i64 c98.Loud), (.int .i64 c98.Template)])]), hd2 v5 v10 v11 v12 v17 v18 v19 c22_0 c45 c48_0 c51_0 c85_0 c88_0 c82 c98 l56 l92 = some r → Run Try.prog ⟨⟨84, [], none⟩, [.mk ⟨73, [b91], none⟩ 21 (treeOf []) [.inRange b90, .inBlock 0], .mk ⟨72, [b77], none⟩ 16 (treeOf []) [.inRange b76, .inBlock 0], .mk ⟨71, [b72], none⟩ 13 (treeOf [(2, (.ptr b69 0))]) [.inRange b71, .inBlock 0, codeC Try.prog 71 [1, 1]], .mk ⟨41, [], none⟩ 5 (treeOf []) [itemC Try.prog 41 [1, 0] 1, codeC Try.prog 41 [1, 1]], .mk ⟨14, [], none⟩ 44 (treeOf []) [itemC Try.prog 14 [1, 1, 1, 1, 0] 6, codeC Try.prog 14 [1, 1, 1, 1, 1]]]⟩ 56 (search_Candidates_post r) [(0, (.yield b90)), (2, (.ptr b88 0)), (3, (.ptr b82 0)), (5, (.int .i64 v5)), (6, (.ptr b98 0)), (10, sv10), (11, (.int .i64 v11)), (12, (.int .i64 v12)), (17, sv17), (18, (.int .i64 v18)), (19, (.int .i64 v19))] [codeC Try.prog 84 [1, 0, 0, 1, 1, 0, 0, 1, 1, 0, 0], loopC Try.prog 84 [1, 0, 0, 1, 1, 0, 0, 1, 1, 0, 0], .inBlock 2, .inBlock 1, codeC Try.prog 84 [1, 0, 0, 1, 1, 1], loopC Try.prog 84 [1, 0, 0], .inBlock 0] M) : ∀ (v5_f2 : Int) (v10_f2 : (List S_api_Trigger)) (v11_f2 v12_f2 : Int) (v17_f2 : (List S_api_Trigger)) (v18_f2 v19_f2 : Int) (v41_f2 : Bool) (c22_0 : Int) (c45 : S_search_clock) (c48_0 c51_0 c85_0 c88_0 : (List S_api_Trigger)) (c82 : S_search_clock) (c98 : S_api_Trigger) (l139 : (List S_api_Candidate)) (l56 : (List Int)) (sv10_f2 sv17_f2 sc48_0 sc51_0 sc85_0 sc88_0 : SV) (b76 b66 b22 b74 b71 b69 : Pos) (s139 : SV) (b63 b45 b48 b51 b59 : Pos) (s56 : SV) (b72 b77 b90 b79 b85 b88 b82 b91 b98 : Pos) (Fr : Rd) (M : Mem) (r : (List S_api_Candidate) × Int) (hv10_f2 : Slc Fr 3 (FlatR enc73) sv10_f2 v10_f2) (hv17_f2 : Slc Fr 3 (FlatR enc73) sv17_f2 v17_f2) (hc48_0 : Slc Fr 3 (FlatR enc73) sc48_0 c48_0) (hc51_0 : Slc Fr 3 (FlatR enc73) sc51_0 c51_0) (hc85_0 : Slc Fr 3 (FlatR enc73) sc85_0 c85_0) (hc88_0 : Slc Fr 3 (FlatR enc73) sc88_0 c88_0) (hH : Has Fr M [.obj b76 (.loop ⟨.busy, none, 72, 16, treeOf [(2, (.ptr b66 0)), (3, (.ptr b74 0)), (5, (.fn (.func 73) [] [(.ptr b45 0), (.ptr b48 0), (.ptr b51 0), (.ptr b59 0)]))], [6], (atC Try.prog 72 [1, 1, 0, 0]), (atC Try.prog 72 [1, 1, 0, 1]), b77⟩), .obj b66 (.row 83 .whole [(.fn (.func 40) [] [(.ptr b22 0)])]), .obj b22 (.row 3 .whole [(.int .i64 c22_0)]), .obj b74 (.row 83 .whole [(.yield b71)]), .obj b71 (.loop ⟨.ready, none, 71, 13, treeOf [(2, (.ptr b69 0)), (4, .nils), (6, (.fn (.func 72) [] [(.ptr b63 0), (.ptr b66 0)]))], [7], (atC Try.prog 71 [1, 0, 1, 0, 0]), (atC Try.prog 71 [1, 0, 1, 0, 1]), b72⟩), .obj b69 (.row 36 .whole [s139]), .vec 44 5 l139.length s139 (l139.flatMap enc44), .obj b63 (.row 86 .whole [(.fn (.func 73) [] [(.ptr b45 0), (.ptr b48 0), (.ptr b51 0), (.ptr b59 0)])]), .obj b45 (.row 80 .whole [(.int .i64 c45.live), (.int .i64 c45.window), (.int .i64 c45.step)]), .obj b48 (.row 33 .whole [sc48_0]), .obj b51 (.row 33 .whole [sc51_0]), .obj b59 (.row 22 .whole [s56]), .vec 3 1 l56.length s56 (l56.flatMap enc3), .obj b72 .defd, .obj b77 .defd, .obj b90 (.loop ⟨.busy, none, 73, 21, treeOf [(4, (.ptr b59 0)), (5, (.ptr b79 0)), (10, (.fn (.func 84) [] [(.ptr b85 0), (.ptr b88 0), (.ptr b82 0)]))], [11], (atC Try.prog 73 [1, 1, 0, 0]), (atC Try.prog 73 [1, 1, 0, 1]), b91⟩), .obj b79 (.row 83 .whole [(.yield b76)]), .obj b85 (.row 33 .whole [sc85_0]), .obj b88 (.row 33 .whole [sc88_0]), .obj b82 (.row 80 .whole [(.int .i64 c82.live), (.int .i64 c82.window), (.int .i64 c82.step)]), .obj b91 .defd, .obj b98 (.row 73 .whole [(.int .i64 c98.Time), (.int .i64 c98.Loud), (.int .i64 c98.Template)])]), search_Candidates_4 F hd2 v5_f2 v10_f2 v11_f2 v12_f2 v17_f2 v18_f2 v19_f2 v41_f2 c22_0 c45 c48_0 c51_0 c85_0 c88_0 c82 c98 l139 l56 = some r → Run Try.prog ⟨⟨72, [], some b76⟩, [.mk ⟨73, [], some b90⟩ 21 (treeOf []) [itemC Try.prog 73 [1, 1, 0, 1, 0, 0] 7, codeC Try.prog 73 [1, 1, 0, 1, 0, 1], .inBlock 1], .mk ⟨84, [], none⟩ 56 (treeOf [(0, (.yield b90)), (2, (.ptr b88 0)), (3, (.ptr b82 0)), (5, (.int .i64 v5_f2)), (6, (.ptr b98 0)), (10, sv10_f2), (11, (.int .i64 v11_f2)), (12, (.int .i64 v12_f2)), (17, sv17_f2), (18, (.int .i64 v18_f2)), (19, (.int .i64 v19_f2)), (41, (.bool v41_f2))]) [itemC Try.prog 84 [1, 0, 0, 1, 1, 0, 0, 1, 1, 0, 0, 1, 1, 0, 0, 1, 1, 0] 11, codeC Try.prog 84 [1, 0, 0, 1, 1, 0, 0, 1, 1, 0, 0, 1, 1, 0, 0, 1, 1, 1], .inBlock 3, codeC Try.prog 84 [1, 0, 0, 1, 1, 0, 0, 1, 1, 0, 0, 1, 1, 1], loopC Try.prog 84 [1, 0, 0, 1, 1, 0, 0, 1, 1, 0, 0], .inBlock 2, .inBlock 1, codeC Try.prog 84 [1, 0, 0, 1, 1, 1], loopC Try.prog 84 [1, 0, 0], .inBlock 0], .mk ⟨73, [b91], none⟩ 21 (treeOf []) [.inRange b90, .inBlock 0], .mk ⟨72, [b77], none⟩ 16 (treeOf []) [.inRange b76, .inBlock 0], .mk ⟨71, [b72], none⟩ 13 (treeOf [(2, (.ptr b69 0))]) [.inRange b71, .inBlock 0, codeC Try.prog 71 [1, 1]], .mk ⟨41, [], none⟩ 5 (treeOf []) [itemC Try.prog 41 [1, 0] 1, codeC Try.prog 41 [1, 1]], .mk ⟨14, [], none⟩ 44 (treeOf []) [itemC Try.prog 14 [1, 1, 1, 1, 0] 6, codeC Try.prog 14 [1, 1, 1, 1, 1]]]⟩ 16 (search_Candidates_post r) [(15, (.bool false))] [codeC Try.prog 72 [1, 1, 0, 1, 0, 1], .inBlock 1] M := by
  intro v5_f2 v10_f2 v11_f2 v12_f2 v17_f2 v18_f2 v19_f2 v41_f2 c22_0 c45 c48_0 c51_0 c85_0 c88_0 c82 c98 l139 l56 sv10_f2 sv17_f2 sc48_0 sc51_0 sc85_0 sc88_0 b76 b66 b22 b74 b71 b69 s139 b63 b45 b48 b51 b59 s56 b72 b77 b90 b79 b85 b88 b82 b91 b98 Fr M r hv10_f2 hv17_f2 hc48_0 hc51_0 hc85_0 hc88_0 hH h
  rw [search_Candidates_4] at h
  refine Run.condF' rfl rfl ?_
  refine Run.skip (Run.inBlock ?_)
  refine Run.roundEndX hH (i := 0) rfl rfl ?_
  intro M143 (hH143 : Has Fr M143 [.obj b76 (.loop ⟨.ready, none, 72, 16, treeOf [(2, (.ptr b66 0)), (3, (.ptr b74 0)), (5, (.fn (.func 73) [] [(.ptr b45 0), (.ptr b48 0), (.ptr b51 0), (.ptr b59 0)]))], [6], (atC Try.prog 72 [1, 1, 0, 0]), (atC Try.prog 72 [1, 1, 0, 1]), b77⟩), .obj b66 (.row 83 .whole [(.fn (.func 40) [] [(.ptr b22 0)])]), .obj b22 (.row 3 .whole [(.int .i64 c22_0)]), .obj b74 (.row 83 .whole [(.yield b71)]), .obj b71 (.loop ⟨.ready, none, 71, 13, treeOf [(2, (.ptr b69 0)), (4, .nils), (6, (.fn (.func 72) [] [(.ptr b63 0), (.ptr b66 0)]))], [7], (atC Try.prog 71 [1, 0, 1, 0, 0]), (atC Try.prog 71 [1, 0, 1, 0, 1]), b72⟩), .obj b69 (.row 36 .whole [s139]), .vec 44 5 l139.length s139 (l139.flatMap enc44), .obj b63 (.row 86 .whole [(.fn (.func 73) [] [(.ptr b45 0), (.ptr b48 0), (.ptr b51 0), (.ptr b59 0)])]), .obj b45 (.row 80 .whole [(.int .i64 c45.live), (.int .i64 c45.window), (.int .i64 c45.step)]), .obj b48 (.row 33 .whole [sc48_0]), .obj b51 (.row 33 .whole [sc51_0]), .obj b59 (.row 22 .whole [s56]), .vec 3 1 l56.length s56 (l56.flatMap enc3), .obj b72 .defd, .obj b77 .defd, .obj b90 (.loop ⟨.busy, none, 73, 21, treeOf [(4, (.ptr b59 0)), (5, (.ptr b79 0)), (10, (.fn (.func 84) [] [(.ptr b85 0), (.ptr b88 0), (.ptr b82 0)]))], [11], (atC Try.prog 73 [1, 1, 0, 0]), (atC Try.prog 73 [1, 1, 0, 1]), b91⟩), .obj b79 (.row 83 .whole [(.yield b76)]), .obj b85 (.row 33 .whole [sc85_0]), .obj b88 (.row 33 .whole [sc88_0]), .obj b82 (.row 80 .whole [(.int .i64 c82.live), (.int .i64 c82.window), (.int .i64 c82.step)]), .obj b91 .defd, .obj b98 (.row 73 .whole [(.int .i64 c98.Time), (.int .i64 c98.Loud), (.int .i64 c98.Template)])])
  refine Run.opG wantS_none (ex_not rfl) rfl ?_
  refine Run.opsEnd ?_
  refine Run.condF' rfl rfl ?_
  refine Run.skip (Run.inBlock ?_)
  refine Run.roundEndX hH143 (i := 15) rfl rfl ?_
  intro M144 (hH144 : Has Fr M144 [.obj b76 (.loop ⟨.ready, none, 72, 16, treeOf [(2, (.ptr b66 0)), (3, (.ptr b74 0)), (5, (.fn (.func 73) [] [(.ptr b45 0), (.ptr b48 0), (.ptr b51 0), (.ptr b59 0)]))], [6], (atC Try.prog 72 [1, 1, 0, 0]), (atC Try.prog 72 [1, 1, 0, 1]), b77⟩), .obj b66 (.row 83 .whole [(.fn (.func 40) [] [(.ptr b22 0)])]), .obj b22 (.row 3 .whole [(.int .i64 c22_0)]), .obj b74 (.row 83 .whole [(.yield b71)]), .obj b71 (.loop ⟨.ready, none, 71, 13, treeOf [(2, (.ptr b69 0)), (4, .nils), (6, (.fn (.func 72) [] [(.ptr b63 0), (.ptr b66 0)]))], [7], (atC Try.prog 71 [1, 0, 1, 0, 0]), (atC Try.prog 71 [1, 0, 1, 0, 1]), b72⟩), .obj b69 (.row 36 .whole [s139]), .vec 44 5 l139.length s139 (l139.flatMap enc44), .obj b63 (.row 86 .whole [(.fn (.func 73) [] [(.ptr b45 0), (.ptr b48 0), (.ptr b51 0), (.ptr b59 0)])]), .obj b45 (.row 80 .whole [(.int .i64 c45.live), (.int .i64 c45.window), (.int .i64 c45.step)]), .obj b48 (.row 33 .whole [sc48_0]), .obj b51 (.row 33 .whole [sc51_0]), .obj b59 (.row 22 .whole [s56]), .vec 3 1 l56.length s56 (l56.flatMap enc3), .obj b72 .defd, .obj b77 .defd, .obj b90 (.loop ⟨.ready, none, 73, 21, treeOf [(4, (.ptr b59 0)), (5, (.ptr b79 0)), (10, (.fn (.func 84) [] [(.ptr b85 0), (.ptr b88 0), (.ptr b82 0)]))], [11], (atC Try.prog 73 [1, 1, 0, 0]), (atC Try.prog 73 [1, 1, 0, 1]), b91⟩), .obj b79 (.row 83 .whole [(.yield b76)]), .obj b85 (.row 33 .whole [sc85_0]), .obj b88 (.row 33 .whole [sc88_0]), .obj b82 (.row 80 .whole [(.int .i64 c82.live), (.int .i64 c82.window), (.int .i64 c82.step)]), .obj b91 .defd, .obj b98 (.row 73 .whole [(.int .i64 c98.Time), (.int .i64 c98.Loud), (.int .i64 c98.Template)])])
  rcases btf (v41_f2) with hc145 | hc145
  · have h := bif_t hc145 h
    refine Run.opG (wantS_yes' rfl rfl hc145) (ex_not rfl) rfl ?_
    refine Run.opG wantS_none (ex_pickT' rfl hc145 rfl rfl) rfl ?_
    refine Run.opsEnd ?_
    exact Run.low (.cons (fle_pick [] rfl) (.cons (fle_pick [] rfl) (.cons (fle_pick [2] rfl) (.cons (fle_pick [] rfl) (.cons (fle_pick [] rfl) .nil))))) (Run.pick [0, 2, 3, 5, 6, 10, 11, 12, 17, 18, 19, 53] (search_Candidates_5_ok F hd2 hhd2 v5_f2 v10_f2 v11_f2 v12_f2 v17_f2 v18_f2 v19_f2 c22_0 c45 c48_0 c51_0 c85_0 c88_0 c82 c98 l56 l139 sv10_f2 sv17_f2 sc48_0 sc51_0 sc85_0 sc88_0 b90 b59 s56 b79 b76 b66 b22 b74 b71 b69 s139 b63 b45 b48 b51 b72 b77 b85 b88 b82 b91 b98 _ _ _ hv10_f2 hv17_f2 hc48_0 hc51_0 hc85_0 hc88_0 (hH144.pick [15, 11, 12, 16, 0, 1, 2, 3, 4, 5, 6, 7, 8, 9, 10, 13, 14, 17, 18, 19, 20, 21] rfl rfl) h))
  · have h := bif_f hc145 h
    refine Run.no (wantS_not' rfl rfl hc145) rfl ?_
    refine Run.opG wantS_none (ex_pickF' rfl hc145 rfl rfl) rfl ?_
    refine Run.opsEnd ?_
    exact Run.low (.cons (fle_pick [] rfl) (.cons (fle_pick [] rfl) (.cons (fle_pick [2] rfl) (.cons (fle_pick [] rfl) (.cons (fle_pick [] rfl) .nil))))) (Run.pick [0, 2, 3, 5, 6, 10, 11, 12, 17, 18, 19, 53] (search_Candidates_5_ok F hd2 hhd2 v5_f2 v10_f2 v11_f2 v12_f2 v17_f2 v18_f2 v19_f2 c22_0 c45 c48_0 c51_0 c85_0 c88_0 c82 c98 l56 l139 sv10_f2 sv17_f2 sc48_0 sc51_0 sc85_0 sc88_0 b90 b59 s56 b79 b76 b66 b22 b74 b71 b69 s139 b63 b45 b48 b51 b72 b77 b85 b88 b82 b91 b98 _ _ _ hv10_f2 hv17_f2 hc48_0 hc51_0 hc85_0 hc88_0 (hH144.pick [15, 11, 12, 16, 0, 1, 2, 3, 4, 5, 6, 7, 8, 9, 10, 13, 14, 17, 18, 19, 20, 21] rfl rfl) h))

def search_Candidates_3 (F : Nat) (hd2 : Int → (List S_api_Trigger) → Int → Int → (List S_api_Trigger) → Int → Int → Int → S_search_clock → (List S_api_Trigger) → (List S_api_Trigger) → (List S_api_Trigger) → (List S_api_Trigger) → S_search_clock → S_api_Trigger → (List Int) → (List S_api_Candidate) → Option ((List S_api_Candidate) × Int)) (v5 v7 : Int) (v9 : Bool) (v10 : (List S_api_Trigger)) (v11 v12 : Int) (v17 : (List S_api_Trigger)) (v18 v19 c22_0 : Int) (c45 : S_search_clock) (c48_0 c51_0 c85_0 c88_0 : (List S_api_Trigger)) (c82 : S_search_clock) (c98 c105 : S_api_Trigger) (l56 : (List Int)) (l92 : (List S_api_Candidate)) : Option ((List S_api_Candidate) × Int) :=
  bif v9 then
    bnd (search_chance F l56 (w64 (c98.Loud + c105.Loud))) fun r117 =>
    bif (decide (r117.N ≤ c22_0)) then
      bnd (apd 40 l92 ([(S_api_Candidate.mk (S_api_Pair.mk v5 v7 (w64 (c98.Loud + c105.Loud))) r117)] : List S_api_Candidate)) fun l138 =>
      search_Candidates_4 F hd2 v5 v10 v11 v12 v17 v18 v19 v9 c22_0 c45 c48_0 c51_0 c85_0 c88_0 c82 c98 l138 l56
    else
      search_Candidates_4 F hd2 v5 v10 v11 v12 v17 v18 v19 v9 c22_0 c45 c48_0 c51_0 c85_0 c88_0 c82 c98 l92 l56
  else
    search_Candidates_5 F hd2 v5 v10 v11 v12 v17 v18 v19 c22_0 c45 c48_0 c51_0 c85_0 c88_0 c82 c98 l56 l92

theorem search_Candidates_3_ok (F : Nat) (hd2 : Int → (List S_api_Trigger) → Int → Int → (List S_api_Trigger) → Int → Int → Int → S_search_clock → (List S_api_Trigger) → (List S_api_Trigger) → (List S_api_Trigger) → (List S_api_Trigger) → S_search_clock → S_api_Trigger → (List Int) → (List S_api_Candidate) → Option ((List S_api_Candidate) × Int)) (hhd2 : ∀ (v5 : Int) (v10 : (List S_api_Trigger)) (v11 v12 : Int) (v17 : (List S_api_Trigger)) (v18 v19 c22_0 : Int) (c45 : S_search_clock) (c48_0 c51_0 c85_0 c88_0 : (List S_api_Trigger)) (c82 : S_search_clock) (c98 : S_api_Trigger) (l56 : (List Int)) (l92 : (List S_api_Candidate)) (sv10 sv17 sc48_0 sc51_0 sc85_0 sc88_0 : SV) (b90 b59 : Pos) (s56 : SV) (b79 b76 b66 b22 b74 b71 b69 : Pos) (s92 : SV) (b63 b45 b48 b51 b72 b77 b85 b88 b82 b91 b98 : Pos) (Fr : Rd) (M : Mem) (r : (List S_api_Candidate) × Int) (hv10 : Slc Fr 3 (FlatR enc73) sv10 v10) (hv17 : Slc Fr 3 (FlatR enc73) sv17 v17) (hc48_0 : Slc Fr 3 (FlatR enc73) sc48_0 c48_0) (hc51_0 : Slc Fr 3 (FlatR enc73) sc51_0 c51_0) (hc85_0 : Slc Fr 3 (FlatR enc73) sc85_0 c85_0) (hc88_0 : Slc Fr 3 (FlatR enc73) sc88_0 c88_0) (hH : Has Fr M [.obj b90 (.loop ⟨.ready, none, 73, 21, treeOf [(4, (.ptr b59 0)), (5, (.ptr b79 0)), (10, (.fn (.func 84) [] [(.ptr b85 0), (.ptr b88 0), (.ptr b82 0)]))], [11], (atC Try.prog 73 [1, 1, 0, 0]), (atC Try.prog 73 [1, 1, 0, 1]), b91⟩), .obj b59 (.row 22 .whole [s56]), .vec 3 1 l56.length s56 (l56.flatMap enc3), .obj b79 (.row 83 .whole [(.yield b76)]), .obj b76 (.loop ⟨.ready, none, 72, 16, treeOf [(2, (.ptr b66 0)), (3, (.ptr b74 0)), (5, (.fn (.func 73) [] [(.ptr b45 0), (.ptr b48 0), (.ptr b51 0), (.ptr b59 0)]))], [6], (atC Try.prog 72 [1, 1, 0, 0]), (atC Try.prog 72 [1, 1, 0, 1]), b77⟩), .obj b66 (.row 83 .whole [(.fn (.func 40) [] [(.ptr b22 0)])]), .obj b22 (.row 3 .whole [(.int .i64 c22_0)]), .obj b74 (.row 83 .whole [(.yield b71)]), .obj b71 (.loop ⟨.ready, none, 71, 13, treeOf [(2, (.ptr b69 0)), (4, .nils), (6, (.fn (.func 72) [] [(.ptr b63 0), (.ptr b66 0)]))], [7], (atC Try.prog 71 [1, 0, 1, 0, 0]), (atC Try.prog 71 [1, 0, 1, 0, 1]), b72⟩), .obj b69 (.row 36 .whole [s92]), .vec 44 5 l92.length s92 (l92.flatMap enc44), .obj b63 (.row 86 .whole [(.fn (.func 73) [] [(.ptr b45 0), (.ptr b48 0), (.ptr b51 0), (.ptr b59 0)])]), .obj b45 (.row 80 .whole [(.int .i64 c45.live), (.int .i64 c45.window), (.int .i64 c45.step)]), .obj b48 (.row 33 .whole [sc48_0]), .obj b51 (.row 33 .whole [sc51_0]), .obj b72 .defd, .obj b77 .defd, .obj b85 (.row 33 .whole [sc85_0]), .obj b88 (.row 33 .whole [sc88_0]), .obj b82 (.row 80 .whole [(.int .i64 c82.live), (.int .i64 c82.window), (.int .i64 c82.step)]), .obj b91 .defd, .obj b98 (.row 73 .whole [(.int .i64 c98.Time), (.int .i64 c98.Loud), (.int .i64 c98.Template)])]), hd2 v5 v10 v11 v12 v17 v18 v19 c22_0 c45 c48_0 c51_0 c85_0 c88_0 c82 c98 l56 l92 = some r → Run Try.prog ⟨⟨84, [], none⟩, [.mk ⟨73, [b91], none⟩ 21 (treeOf []) [.inRange b90, .inBlock 0], .mk ⟨72, [b77], none⟩ 16 (treeOf []) [.inRange b76, .inBlock 0], .mk ⟨71, [b72], none⟩ 13 (treeOf [(2, (.ptr b69 0))]) [.inRange b71, .inBlock 0, codeC Try.prog 71 [1, 1]], .mk ⟨41, [], none⟩ 5 (treeOf []) [itemC Try.prog 41 [1, 0] 1, codeC Try.prog 41 [1, 1]], .mk ⟨14, [], none⟩ 44 (treeOf []) [itemC Try.prog 14 [1, 1, 1, 1, 0] 6, codeC Try.prog 14 [1, 1, 1, 1, 1]]]⟩ 56 (search_Candidates_post r) [(0, (.yield b90)), (2, (.ptr b88 0)), (3, (.ptr b82 0)), (5, (.int .i64 v5)), (6, (.ptr b98 0)), (10, sv10), (11, (.int .i64 v11)), (12, (.int .i64 v12)), (17, sv17), (18, (.int .i64 v18)), (19, (.int .i64 v19))] [codeC Try.prog 84 [1, 0, 0, 1, 1, 0, 0, 1, 1, 0, 0], loopC Try.prog 84 [1, 0, 0, 1, 1, 0, 0, 1, 1, 0, 0], .inBlock 2, .inBlock 1, codeC Try.prog 84 [1, 0, 0, 1, 1, 1], loopC Try.prog 84 [1, 0, 0], .inBlock 0] M) : ∀ (v5 v7 : Int) (v9 : Bool) (v10 : (List S_api_Trigger)) (v11 v12 : Int) (v17 : (List S_api_Trigger)) (v18 v19 c22_0 : Int) (c45 : S_search_clock) (c48_0 c51_0 c85_0 c88_0 : (List S_api_Trigger)) (c82 : S_search_clock) (c98 c105 : S_api_Trigger) (l56 : (List Int)) (l92 : (List S_api_Candidate)) (sv10 sv17 sc48_0 sc51_0 sc85_0 sc88_0 : SV) (b90 b59 : Pos) (s56 : SV) (b79 b76 b66 b22 b74 b71 b69 : Pos) (s92 : SV) (b63 b45 b48 b51 b72 b77 b85 b88 b82 b91 b98 b105 : Pos) (Fr : Rd) (M : Mem) (r : (List S_api_Candidate) × Int) (hv10 : Slc Fr 3 (FlatR enc73) sv10 v10) (hv17 : Slc Fr 3 (FlatR enc73) sv17 v17) (hc48_0 : Slc Fr 3 (FlatR enc73) sc48_0 c48_0) (hc51_0 : Slc Fr 3 (FlatR enc73) sc51_0 c51_0) (hc85_0 : Slc Fr 3 (FlatR enc73) sc85_0 c85_0) (hc88_0 : Slc Fr 3 (FlatR enc73) sc88_0 c88_0) (hH : Has Fr M [.obj b90 (.loop ⟨.ready, none, 73, 21, treeOf [(4, (.ptr b59 0)), (5, (.ptr b79 0)), (10, (.fn (.func 84) [] [(.ptr b85 0), (.ptr b88 0), (.ptr b82 0)]))], [11], (atC Try.prog 73 [1, 1, 0, 0]), (atC Try.prog 73 [1, 1, 0, 1]), b91⟩), .obj b59 (.row 22 .whole [s56]), .vec 3 1 l56.length s56 (l56.flatMap enc3), .obj b79 (.row 83 .whole [(.yield b76)]), .obj b76 (.loop ⟨.ready, none, 72, 16, treeOf [(2, (.ptr b66 0)), (3, (.ptr b74 0)), (5, (.fn (.func 73) [] [(.ptr b45 0), (.ptr b48 0), (.ptr b51 0), (.ptr b59 0)]))], [6], (atC Try.prog 72 [1, 1, 0, 0]), (atC Try.prog 72 [1, 1, 0, 1]), b77⟩), .obj b66 (.row 83 .whole [(.fn (.func 40) [] [(.ptr b22 0)])]), .obj b22 (.row 3 .whole [(.int .i64 c22_0)]), .obj b74 (.row 83 .whole [(.yield b71)]), .obj b71 (.loop ⟨.ready, none, 71, 13, treeOf [(2, (.ptr b69 0)), (4, .nils), (6, (.fn (.func 72) [] [(.ptr b63 0), (.ptr b66 0)]))], [7], (atC Try.prog 71 [1, 0, 1, 0, 0]), (atC Try.prog 71 [1, 0, 1, 0, 1]), b72⟩), .obj b69 (.row 36 .whole [s92]), .vec 44 5 l92.length s92 (l92.flatMap enc44), .obj b63 (.row 86 .whole [(.fn (.func 73) [] [(.ptr b45 0), (.ptr b48 0), (.ptr b51 0), (.ptr b59 0)])]), .obj b45 (.row 80 .whole [(.int .i64 c45.live), (.int .i64 c45.window), (.int .i64 c45.step)]), .obj b48 (.row 33 .whole [sc48_0]), .obj b51 (.row 33 .whole [sc51_0]), .obj b72 .defd, .obj b77 .defd, .obj b85 (.row 33 .whole [sc85_0]), .obj b88 (.row 33 .whole [sc88_0]), .obj b82 (.row 80 .whole [(.int .i64 c82.live), (.int .i64 c82.window), (.int .i64 c82.step)]), .obj b91 .defd, .obj b98 (.row 73 .whole [(.int .i64 c98.Time), (.int .i64 c98.Loud), (.int .i64 c98.Template)]), .obj b105 (.row 73 .whole [(.int .i64 c105.Time), (.int .i64 c105.Loud), (.int .i64 c105.Template)])]), search_Candidates_3 F hd2 v5 v7 v9 v10 v11 v12 v17 v18 v19 c22_0 c45 c48_0 c51_0 c85_0 c88_0 c82 c98 c105 l56 l92 = some r → Run Try.prog ⟨⟨84, [], none⟩, [.mk ⟨73, [b91], none⟩ 21 (treeOf []) [.inRange b90, .inBlock 0], .mk ⟨72, [b77], none⟩ 16 (treeOf []) [.inRange b76, .inBlock 0], .mk ⟨71, [b72], none⟩ 13 (treeOf [(2, (.ptr b69 0))]) [.inRange b71, .inBlock 0, codeC Try.prog 71 [1, 1]], .mk ⟨41, [], none⟩ 5 (treeOf []) [itemC Try.prog 41 [1, 0] 1, codeC Try.prog 41 [1, 1]], .mk ⟨14, [], none⟩ 44 (treeOf []) [itemC Try.prog 14 [1, 1, 1, 1, 0] 6, codeC Try.prog 14 [1, 1, 1, 1, 1]]]⟩ 56 (search_Candidates_post r) [(0, (.yield b90)), (2, (.ptr b88 0)), (3, (.ptr b82 0)), (5, (.int .i64 v5)), (6, (.ptr b98 0)), (7, (.int .i64 v7)), (8, (.ptr b105 0)), (9, (.bool v9)), (10, sv10), (11, (.int .i64 v11)), (12, (.int .i64 v12)), (17, sv17), (18, (.int .i64 v18)), (19, (.int .i64 v19))] [itemC Try.prog 84 [1, 0, 0, 1, 1, 0, 0, 1, 1, 0, 0, 1, 1, 0, 0, 1, 1, 0] 0, codeC Try.prog 84 [1, 0, 0, 1, 1, 0, 0, 1, 1, 0, 0, 1, 1, 0, 0, 1, 1, 1], .inBlock 3, codeC Try.prog 84 [1, 0, 0, 1, 1, 0, 0, 1, 1, 0, 0, 1, 1, 1], loopC Try.prog 84 [1, 0, 0, 1, 1, 0, 0, 1, 1, 0, 0], .inBlock 2, .inBlock 1, codeC Try.prog 84 [1, 0, 0, 1, 1, 1], loopC Try.prog 84 [1, 0, 0], .inBlock 0] M := by
  intro v5 v7 v9 v10 v11 v12 v17 v18 v19 c22_0 c45 c48_0 c51_0 c85_0 c88_0 c82 c98 c105 l56 l92 sv10 sv17 sc48_0 sc51_0 sc85_0 sc88_0 b90 b59 s56 b79 b76 b66 b22 b74 b71 b69 s92 b63 b45 b48 b51 b72 b77 b85 b88 b82 b91 b98 b105 Fr M r hv10 hv17 hc48_0 hc51_0 hc85_0 hc88_0 hH h
  rw [search_Candidates_3] at h
  refine Run.opG wantS_none (ex_move rfl) rfl ?_
  refine Run.opG wantS_none (ex_move rfl) rfl ?_
  rcases btf (v9) with hc111 | hc111
  · have h := bif_t hc111 h
    refine Run.opG (wantS_yes' rfl rfl hc111) (ex_move rfl) rfl ?_
    refine Run.opG (wantS_yes' rfl rfl hc111) (ex_move rfl) rfl ?_
    refine Run.opG (wantS_yes' rfl rfl hc111) (ex_move rfl) rfl ?_
    refine Run.opG (wantS_yes' rfl rfl hc111) (ex_fieldAddr rfl off73_1) rfl ?_
    refine Run.opG (wantS_yes' rfl rfl hc111) (ex_load1 rfl (hH.cells (i := 21) rfl 1 rfl) rdLe_rfl agg3) rfl ?_
    refine Run.opG (wantS_yes' rfl rfl hc111) (ex_fieldAddr rfl off73_1) rfl ?_
    refine Run.opG (wantS_yes' rfl rfl hc111) (ex_load1 rfl (hH.cells (i := 22) rfl 1 rfl) rdLe_rfl agg3) rfl ?_
    refine Run.opG (wantS_yes' rfl rfl hc111) (ex_add rfl rfl) rfl ?_
    refine Run.opG (wantS_yes' rfl rfl hc111) (ex_build (r := [(.int .i64 v5), (.int .i64 v7), (.int .i64 (w64 (c98.Loud + c105.Loud)))]) rfl zer40 pls40 rfl) rfl ?_
    refine Run.round (e' := [(11, (.agg [(.int .i64 v5), (.int .i64 v7), (.int .i64 (w64 (c98.Loud + c105.Loud)))])), (4, (.ptr b59 0)), (5, (.ptr b79 0)), (10, (.fn (.func 84) [] [(.ptr b85 0), (.ptr b88 0), (.ptr b82 0)]))]) (wantS_yes' rfl rfl hc111) (ex_yield hH (i := 0) rfl rfl rfl rfl) (hH.loopOf (i := 0) rfl) rfl ?_
    refine Run.region ?_
    refine Run.opX wantS_none rfl (ExG.new (v := fun b => .ptr b 0) (ex_alloc zer40) hH) ?_
    rintro _ M114 ⟨b113, rfl, hH114⟩
    refine Run.opX wantS_none rfl (ExG.storeC (c' := [(.int .i64 v5), (.int .i64 v7), (.int .i64 (w64 (c98.Loud + c105.Loud)))]) rfl rfl rfl hH114 (i := 0) rfl sz40 rfl rfl rfl rfl rfl) ?_
    rintro _ M115 ⟨rfl, (hH115 : Has Fr M115 [.obj b113 (.row 40 .whole [(.int .i64 v5), (.int .i64 v7), (.int .i64 (w64 (c98.Loud + c105.Loud)))]), .obj b90 (.loop ⟨.ready, none, 73, 21, treeOf [(4, (.ptr b59 0)), (5, (.ptr b79 0)), (10, (.fn (.func 84) [] [(.ptr b85 0), (.ptr b88 0), (.ptr b82 0)]))], [11], (atC Try.prog 73 [1, 1, 0, 0]), (atC Try.prog 73 [1, 1, 0, 1]), b91⟩), .obj b59 (.row 22 .whole [s56]), .vec 3 1 l56.length s56 (l56.flatMap enc3), .obj b79 (.row 83 .whole [(.yield b76)]), .obj b76 (.loop ⟨.ready, none, 72, 16, treeOf [(2, (.ptr b66 0)), (3, (.ptr b74 0)), (5, (.fn (.func 73) [] [(.ptr b45 0), (.ptr b48 0), (.ptr b51 0), (.ptr b59 0)]))], [6], (atC Try.prog 72 [1, 1, 0, 0]), (atC Try.prog 72 [1, 1, 0, 1]), b77⟩), .obj b66 (.row 83 .whole [(.fn (.func 40) [] [(.ptr b22 0)])]), .obj b22 (.row 3 .whole [(.int .i64 c22_0)]), .obj b74 (.row 83 .whole [(.yield b71)]), .obj b71 (.loop ⟨.ready, none, 71, 13, treeOf [(2, (.ptr b69 0)), (4, .nils), (6, (.fn (.func 72) [] [(.ptr b63 0), (.ptr b66 0)]))], [7], (atC Try.prog 71 [1, 0, 1, 0, 0]), (atC Try.prog 71 [1, 0, 1, 0, 1]), b72⟩), .obj b69 (.row 36 .whole [s92]), .vec 44 5 l92.length s92 (l92.flatMap enc44), .obj b63 (.row 86 .whole [(.fn (.func 73) [] [(.ptr b45 0), (.ptr b48 0), (.ptr b51 0), (.ptr b59 0)])]), .obj b45 (.row 80 .whole [(.int .i64 c45.live), (.int .i64 c45.window), (.int .i64 c45.step)]), .obj b48 (.row 33 .whole [sc48_0]), .obj b51 (.row 33 .whole [sc51_0]), .obj b72 .defd, .obj b77 .defd, .obj b85 (.row 33 .whole [sc85_0]), .obj b88 (.row 33 .whole [sc88_0]), .obj b82 (.row 80 .whole [(.int .i64 c82.live), (.int .i64 c82.window), (.int .i64 c82.step)]), .obj b91 .defd, .obj b98 (.row 73 .whole [(.int .i64 c98.Time), (.int .i64 c98.Loud), (.int .i64 c98.Template)]), .obj b105 (.row 73 .whole [(.int .i64 c105.Time), (.int .i64 c105.Loud), (.int .i64 c105.Template)])])⟩
    refine Run.opsEnd ?_
    refine Run.beginX hH115 (i := 1) rfl rfl ?_
    intro M116 (hH116 : Has Fr M116 [.obj b113 (.row 40 .whole [(.int .i64 v5), (.int .i64 v7), (.int .i64 (w64 (c98.Loud + c105.Loud)))]), .obj b90 (.loop ⟨.busy, none, 73, 21, treeOf [(4, (.ptr b59 0)), (5, (.ptr b79 0)), (10, (.fn (.func 84) [] [(.ptr b85 0), (.ptr b88 0), (.ptr b82 0)]))], [11], (atC Try.prog 73 [1, 1, 0, 0]), (atC Try.prog 73 [1, 1, 0, 1]), b91⟩), .obj b59 (.row 22 .whole [s56]), .vec 3 1 l56.length s56 (l56.flatMap enc3), .obj b79 (.row 83 .whole [(.yield b76)]), .obj b76 (.loop ⟨.ready, none, 72, 16, treeOf [(2, (.ptr b66 0)), (3, (.ptr b74 0)), (5, (.fn (.func 73) [] [(.ptr b45 0), (.ptr b48 0), (.ptr b51 0), (.ptr b59 0)]))], [6], (atC Try.prog 72 [1, 1, 0, 0]), (atC Try.prog 72 [1, 1, 0, 1]), b77⟩), .obj b66 (.row 83 .whole [(.fn (.func 40) [] [(.ptr b22 0)])]), .obj b22 (.row 3 .whole [(.int .i64 c22_0)]), .obj b74 (.row 83 .whole [(.yield b71)]), .obj b71 (.loop ⟨.ready, none, 71, 13, treeOf [(2, (.ptr b69 0)), (4, .nils), (6, (.fn (.func 72) [] [(.ptr b63 0), (.ptr b66 0)]))], [7], (atC Try.prog 71 [1, 0, 1, 0, 0]), (atC Try.prog 71 [1, 0, 1, 0, 1]), b72⟩), .obj b69 (.row 36 .whole [s92]), .vec 44 5 l92.length s92 (l92.flatMap enc44), .obj b63 (.row 86 .whole [(.fn (.func 73) [] [(.ptr b45 0), (.ptr b48 0), (.ptr b51 0), (.ptr b59 0)])]), .obj b45 (.row 80 .whole [(.int .i64 c45.live), (.int .i64 c45.window), (.int .i64 c45.step)]), .obj b48 (.row 33 .whole [sc48_0]), .obj b51 (.row 33 .whole [sc51_0]), .obj b72 .defd, .obj b77 .defd, .obj b85 (.row 33 .whole [sc85_0]), .obj b88 (.row 33 .whole [sc88_0]), .obj b82 (.row 80 .whole [(.int .i64 c82.live), (.int .i64 c82.window), (.int .i64 c82.step)]), .obj b91 .defd, .obj b98 (.row 73 .whole [(.int .i64 c98.Time), (.int .i64 c98.Loud), (.int .i64 c98.Template)]), .obj b105 (.row 73 .whole [(.int .i64 c105.Time), (.int .i64 c105.Loud), (.int .i64 c105.Template)])])
    refine Run.block (Run.seq ?_)
    refine Run.headG seqp73_1_1_0_1_0_0 rfl rfl ?_
    refine PureG.val wantS_none (ex_load1 rfl (hH116.cells (i := 4) rfl 0 rfl) rdLe_rfl agg83) rfl ?_
    refine PureG.val wantS_none (ex_loadA rfl (hH116.cells (i := 0) rfl 0 rfl) rdLe_rfl agg40 rfl rfl rfl) rfl ?_
    refine PureG.val wantS_none (ex_load1 rfl (hH116.cells (i := 2) rfl 0 rfl) rdLe_rfl agg22) rfl ?_
    refine PureG.val wantS_none (ex_fieldAddr rfl off40_2) rfl ?_
    refine PureG.val wantS_none (ex_load1 rfl (hH116.cells (i := 0) rfl 2 rfl) rdLe_rfl agg3) rfl ?_
    obtain ⟨r117, hr117, h⟩ := bnd_some h
    refine PureG.callP wantS_none (ex_call rfl mkk60 cal60) rfl (search_chance_ok F l56 (w64 (c98.Loud + c105.Loud)) s56 _ _ (hH116.slc (i := 3) rfl enc3_len) hr117) ?_
    refine PureG.val wantS_none (ex_build (r := [(.int .i64 v5), (.int .i64 v7), (.int .i64 (w64 (c98.Loud + c105.Loud))), (.int .i64 r117.N), (.int .i64 r117.Of)]) rfl zer44 pls44 rfl) rfl ?_
    refine PureG.nil ?_
    refine SeqG.nil ?_
    refine Run.round (e' := [(6, (.agg [(.int .i64 v5), (.int .i64 v7), (.int .i64 (w64 (c98.Loud + c105.Loud))), (.int .i64 r117.N), (.int .i64 r117.Of)])), (2, (.ptr b66 0)), (3, (.ptr b74 0)), (5, (.fn (.func 73) [] [(.ptr b45 0), (.ptr b48 0), (.ptr b51 0), (.ptr b59 0)]))]) wantS_none (ex_yield hH116 (i := 5) rfl rfl rfl rfl) (hH116.loopOf (i := 5) rfl) rfl ?_
    refine Run.region ?_
    refine Run.opX wantS_none rfl (ExG.new (v := fun b => .ptr b 0) (ex_alloc zer44) hH116) ?_
    rintro _ M121 ⟨b120, rfl, hH121⟩
    refine Run.opX wantS_none rfl (ExG.storeC (c' := [(.int .i64 v5), (.int .i64 v7), (.int .i64 (w64 (c98.Loud + c105.Loud))), (.int .i64 r117.N), (.int .i64 r117.Of)]) rfl rfl rfl hH121 (i := 0) rfl sz44 rfl rfl rfl rfl rfl) ?_
    rintro _ M122 ⟨rfl, (hH122 : Has Fr M122 [.obj b120 (.row 44 .whole [(.int .i64 v5), (.int .i64 v7), (.int .i64 (w64 (c98.Loud + c105.Loud))), (.int .i64 r117.N), (.int .i64 r117.Of)]), .obj b113 (.row 40 .whole [(.int .i64 v5), (.int .i64 v7), (.int .i64 (w64 (c98.Loud + c105.Loud)))]), .obj b90 (.loop ⟨.busy, none, 73, 21, treeOf [(4, (.ptr b59 0)), (5, (.ptr b79 0)), (10, (.fn (.func 84) [] [(.ptr b85 0), (.ptr b88 0), (.ptr b82 0)]))], [11], (atC Try.prog 73 [1, 1, 0, 0]), (atC Try.prog 73 [1, 1, 0, 1]), b91⟩), .obj b59 (.row 22 .whole [s56]), .vec 3 1 l56.length s56 (l56.flatMap enc3), .obj b79 (.row 83 .whole [(.yield b76)]), .obj b76 (.loop ⟨.ready, none, 72, 16, treeOf [(2, (.ptr b66 0)), (3, (.ptr b74 0)), (5, (.fn (.func 73) [] [(.ptr b45 0), (.ptr b48 0), (.ptr b51 0), (.ptr b59 0)]))], [6], (atC Try.prog 72 [1, 1, 0, 0]), (atC Try.prog 72 [1, 1, 0, 1]), b77⟩), .obj b66 (.row 83 .whole [(.fn (.func 40) [] [(.ptr b22 0)])]), .obj b22 (.row 3 .whole [(.int .i64 c22_0)]), .obj b74 (.row 83 .whole [(.yield b71)]), .obj b71 (.loop ⟨.ready, none, 71, 13, treeOf [(2, (.ptr b69 0)), (4, .nils), (6, (.fn (.func 72) [] [(.ptr b63 0), (.ptr b66 0)]))], [7], (atC Try.prog 71 [1, 0, 1, 0, 0]), (atC Try.prog 71 [1, 0, 1, 0, 1]), b72⟩), .obj b69 (.row 36 .whole [s92]), .vec 44 5 l92.length s92 (l92.flatMap enc44), .obj b63 (.row 86 .whole [(.fn (.func 73) [] [(.ptr b45 0), (.ptr b48 0), (.ptr b51 0), (.ptr b59 0)])]), .obj b45 (.row 80 .whole [(.int .i64 c45.live), (.int .i64 c45.window), (.int .i64 c45.step)]), .obj b48 (.row 33 .whole [sc48_0]), .obj b51 (.row 33 .whole [sc51_0]), .obj b72 .defd, .obj b77 .defd, .obj b85 (.row 33 .whole [sc85_0]), .obj b88 (.row 33 .whole [sc88_0]), .obj b82 (.row 80 .whole [(.int .i64 c82.live), (.int .i64 c82.window), (.int .i64 c82.step)]), .obj b91 .defd, .obj b98 (.row 73 .whole [(.int .i64 c98.Time), (.int .i64 c98.Loud), (.int .i64 c98.Template)]), .obj b105 (.row 73 .whole [(.int .i64 c105.Time), (.int .i64 c105.Loud), (.int .i64 c105.Template)])])⟩
    refine Run.opsEnd ?_
    refine Run.beginX hH122 (i := 6) rfl rfl ?_
    intro M123 (hH123 : Has Fr M123 [.obj b120 (.row 44 .whole [(.int .i64 v5), (.int .i64 v7), (.int .i64 (w64 (c98.Loud + c105.Loud))), (.int .i64 r117.N), (.int .i64 r117.Of)]), .obj b113 (.row 40 .whole [(.int .i64 v5), (.int .i64 v7), (.int .i64 (w64 (c98.Loud + c105.Loud)))]), .obj b90 (.loop ⟨.busy, none, 73, 21, treeOf [(4, (.ptr b59 0)), (5, (.ptr b79 0)), (10, (.fn (.func 84) [] [(.ptr b85 0), (.ptr b88 0), (.ptr b82 0)]))], [11], (atC Try.prog 73 [1, 1, 0, 0]), (atC Try.prog 73 [1, 1, 0, 1]), b91⟩), .obj b59 (.row 22 .whole [s56]), .vec 3 1 l56.length s56 (l56.flatMap enc3), .obj b79 (.row 83 .whole [(.yield b76)]), .obj b76 (.loop ⟨.busy, none, 72, 16, treeOf [(2, (.ptr b66 0)), (3, (.ptr b74 0)), (5, (.fn (.func 73) [] [(.ptr b45 0), (.ptr b48 0), (.ptr b51 0), (.ptr b59 0)]))], [6], (atC Try.prog 72 [1, 1, 0, 0]), (atC Try.prog 72 [1, 1, 0, 1]), b77⟩), .obj b66 (.row 83 .whole [(.fn (.func 40) [] [(.ptr b22 0)])]), .obj b22 (.row 3 .whole [(.int .i64 c22_0)]), .obj b74 (.row 83 .whole [(.yield b71)]), .obj b71 (.loop ⟨.ready, none, 71, 13, treeOf [(2, (.ptr b69 0)), (4, .nils), (6, (.fn (.func 72) [] [(.ptr b63 0), (.ptr b66 0)]))], [7], (atC Try.prog 71 [1, 0, 1, 0, 0]), (atC Try.prog 71 [1, 0, 1, 0, 1]), b72⟩), .obj b69 (.row 36 .whole [s92]), .vec 44 5 l92.length s92 (l92.flatMap enc44), .obj b63 (.row 86 .whole [(.fn (.func 73) [] [(.ptr b45 0), (.ptr b48 0), (.ptr b51 0), (.ptr b59 0)])]), .obj b45 (.row 80 .whole [(.int .i64 c45.live), (.int .i64 c45.window), (.int .i64 c45.step)]), .obj b48 (.row 33 .whole [sc48_0]), .obj b51 (.row 33 .whole [sc51_0]), .obj b72 .defd, .obj b77 .defd, .obj b85 (.row 33 .whole [sc85_0]), .obj b88 (.row 33 .whole [sc88_0]), .obj b82 (.row 80 .whole [(.int .i64 c82.live), (.int .i64 c82.window), (.int .i64 c82.step)]), .obj b91 .defd, .obj b98 (.row 73 .whole [(.int .i64 c98.Time), (.int .i64 c98.Loud), (.int .i64 c98.Template)]), .obj b105 (.row 73 .whole [(.int .i64 c105.Time), (.int .i64 c105.Loud), (.int .i64 c105.Template)])])
    refine Run.block (Run.seq (Run.region ?_))
    refine Run.opG wantS_none (ex_load1 rfl (hH123.cells (i := 7) rfl 0 rfl) rdLe_rfl agg83) rfl ?_
    refine Run.opG wantS_none (ex_loadA rfl (hH123.cells (i := 0) rfl 0 rfl) rdLe_rfl agg44 rfl rfl rfl) rfl ?_
    refine Run.enter wantS_none (ex_closure rfl rfl mkk40 cal40) Try.func40 rfl rfl ?_
    refine Run.seq (Run.region ?_)
    refine Run.opX wantS_none rfl (ExG.box rfl rfl hH123) ?_
    rintro _ M126 ⟨b125, rfl, hH126⟩
    refine Run.opG wantS_none (ex_assign rfl) rfl ?_
    refine Run.opsEnd (Run.seq (Run.region ?_))
    refine Run.opG wantS_none (ex_fieldAddr rfl off44_1) rfl ?_
    refine Run.opG wantS_none (ex_fieldAddr rfl off42_0) rfl ?_
    refine Run.opG wantS_none (ex_load1 rfl (hH126.cells (i := 0) rfl 3 rfl) rdLe_rfl agg3) rfl ?_
    refine Run.opG wantS_none (ex_load1 rfl (hH126.cells (i := 9) rfl 0 rfl) rdLe_rfl agg3) rfl ?_
    refine Run.opG wantS_none (ex_leq rfl rfl) rfl ?_
    refine Run.opG wantS_none (ex_assign rfl) rfl ?_
    refine Run.opsEnd ?_
    refine Run.retTo Try.func40 rfl (res_tmp rfl res_nil) rfl ?_
    refine Run.opG wantS_none (ex_move rfl) rfl ?_
    rcases btf ((decide (r117.N ≤ c22_0))) with hc127 | hc127
    · have h := bif_t hc127 h
      refine Run.opG (wantS_yes' rfl rfl hc127) (ex_load1 rfl (hH126.cells (i := 10) rfl 0 rfl) rdLe_rfl agg83) rfl ?_
      refine Run.opG (wantS_yes' rfl rfl hc127) (ex_loadA rfl (hH126.cells (i := 1) rfl 0 rfl) rdLe_rfl agg44 rfl rfl rfl) rfl ?_
      refine Run.round (e' := [(7, (.agg [(.int .i64 v5), (.int .i64 v7), (.int .i64 (w64 (c98.Loud + c105.Loud))), (.int .i64 r117.N), (.int .i64 r117.Of)])), (2, (.ptr b69 0)), (4, .nils), (6, (.fn (.func 72) [] [(.ptr b63 0), (.ptr b66 0)]))]) (wantS_yes' rfl rfl hc127) (ex_yield hH126 (i := 11) rfl rfl rfl rfl) (hH126.loopOf (i := 11) rfl) rfl ?_
      refine Run.region ?_
      refine Run.opX wantS_none rfl (ExG.new (v := fun b => .ptr b 0) (ex_alloc zer44) hH126) ?_
      rintro _ M130 ⟨b129, rfl, hH130⟩
      refine Run.opX wantS_none rfl (ExG.storeC (c' := [(.int .i64 v5), (.int .i64 v7), (.int .i64 (w64 (c98.Loud + c105.Loud))), (.int .i64 r117.N), (.int .i64 r117.Of)]) rfl rfl rfl hH130 (i := 0) rfl sz44 rfl rfl rfl rfl rfl) ?_
      rintro _ M131 ⟨rfl, (hH131 : Has Fr M131 [.obj b129 (.row 44 .whole [(.int .i64 v5), (.int .i64 v7), (.int .i64 (w64 (c98.Loud + c105.Loud))), (.int .i64 r117.N), (.int .i64 r117.Of)]), .obj b125 (.row 44 .whole [(.int .i64 v5), (.int .i64 v7), (.int .i64 (w64 (c98.Loud + c105.Loud))), (.int .i64 r117.N), (.int .i64 r117.Of)]), .obj b120 (.row 44 .whole [(.int .i64 v5), (.int .i64 v7), (.int .i64 (w64 (c98.Loud + c105.Loud))), (.int .i64 r117.N), (.int .i64 r117.Of)]), .obj b113 (.row 40 .whole [(.int .i64 v5), (.int .i64 v7), (.int .i64 (w64 (c98.Loud + c105.Loud)))]), .obj b90 (.loop ⟨.busy, none, 73, 21, treeOf [(4, (.ptr b59 0)), (5, (.ptr b79 0)), (10, (.fn (.func 84) [] [(.ptr b85 0), (.ptr b88 0), (.ptr b82 0)]))], [11], (atC Try.prog 73 [1, 1, 0, 0]), (atC Try.prog 73 [1, 1, 0, 1]), b91⟩), .obj b59 (.row 22 .whole [s56]), .vec 3 1 l56.length s56 (l56.flatMap enc3), .obj b79 (.row 83 .whole [(.yield b76)]), .obj b76 (.loop ⟨.busy, none, 72, 16, treeOf [(2, (.ptr b66 0)), (3, (.ptr b74 0)), (5, (.fn (.func 73) [] [(.ptr b45 0), (.ptr b48 0), (.ptr b51 0), (.ptr b59 0)]))], [6], (atC Try.prog 72 [1, 1, 0, 0]), (atC Try.prog 72 [1, 1, 0, 1]), b77⟩), .obj b66 (.row 83 .whole [(.fn (.func 40) [] [(.ptr b22 0)])]), .obj b22 (.row 3 .whole [(.int .i64 c22_0)]), .obj b74 (.row 83 .whole [(.yield b71)]), .obj b71 (.loop ⟨.ready, none, 71, 13, treeOf [(2, (.ptr b69 0)), (4, .nils), (6, (.fn (.func 72) [] [(.ptr b63 0), (.ptr b66 0)]))], [7], (atC Try.prog 71 [1, 0, 1, 0, 0]), (atC Try.prog 71 [1, 0, 1, 0, 1]), b72⟩), .obj b69 (.row 36 .whole [s92]), .vec 44 5 l92.length s92 (l92.flatMap enc44), .obj b63 (.row 86 .whole [(.fn (.func 73) [] [(.ptr b45 0), (.ptr b48 0), (.ptr b51 0), (.ptr b59 0)])]), .obj b45 (.row 80 .whole [(.int .i64 c45.live), (.int .i64 c45.window), (.int .i64 c45.step)]), .obj b48 (.row 33 .whole [sc48_0]), .obj b51 (.row 33 .whole [sc51_0]), .obj b72 .defd, .obj b77 .defd, .obj b85 (.row 33 .whole [sc85_0]), .obj b88 (.row 33 .whole [sc88_0]), .obj b82 (.row 80 .whole [(.int .i64 c82.live), (.int .i64 c82.window), (.int .i64 c82.step)]), .obj b91 .defd, .obj b98 (.row 73 .whole [(.int .i64 c98.Time), (.int .i64 c98.Loud), (.int .i64 c98.Template)]), .obj b105 (.row 73 .whole [(.int .i64 c105.Time), (.int .i64 c105.Loud), (.int .i64 c105.Template)])])⟩
      refine Run.opsEnd ?_
      refine Run.beginX hH131 (i := 12) rfl rfl ?_
      intro M132 (hH132 : Has Fr M132 [.obj b129 (.row 44 .whole [(.int .i64 v5), (.int .i64 v7), (.int .i64 (w64 (c98.Loud + c105.Loud))), (.int .i64 r117.N), (.int .i64 r117.Of)]), .obj b125 (.row 44 .whole [(.int .i64 v5), (.int .i64 v7), (.int .i64 (w64 (c98.Loud + c105.Loud))), (.int .i64 r117.N), (.int .i64 r117.Of)]), .obj b120 (.row 44 .whole [(.int .i64 v5), (.int .i64 v7), (.int .i64 (w64 (c98.Loud + c105.Loud))), (.int .i64 r117.N), (.int .i64 r117.Of)]), .obj b113 (.row 40 .whole [(.int .i64 v5), (.int .i64 v7), (.int .i64 (w64 (c98.Loud + c105.Loud)))]), .obj b90 (.loop ⟨.busy, none, 73, 21, treeOf [(4, (.ptr b59 0)), (5, (.ptr b79 0)), (10, (.fn (.func 84) [] [(.ptr b85 0), (.ptr b88 0), (.ptr b82 0)]))], [11], (atC Try.prog 73 [1, 1, 0, 0]), (atC Try.prog 73 [1, 1, 0, 1]), b91⟩), .obj b59 (.row 22 .whole [s56]), .vec 3 1 l56.length s56 (l56.flatMap enc3), .obj b79 (.row 83 .whole [(.yield b76)]), .obj b76 (.loop ⟨.busy, none, 72, 16, treeOf [(2, (.ptr b66 0)), (3, (.ptr b74 0)), (5, (.fn (.func 73) [] [(.ptr b45 0), (.ptr b48 0), (.ptr b51 0), (.ptr b59 0)]))], [6], (atC Try.prog 72 [1, 1, 0, 0]), (atC Try.prog 72 [1, 1, 0, 1]), b77⟩), .obj b66 (.row 83 .whole [(.fn (.func 40) [] [(.ptr b22 0)])]), .obj b22 (.row 3 .whole [(.int .i64 c22_0)]), .obj b74 (.row 83 .whole [(.yield b71)]), .obj b71 (.loop ⟨.busy, none, 71, 13, treeOf [(2, (.ptr b69 0)), (4, .nils), (6, (.fn (.func 72) [] [(.ptr b63 0), (.ptr b66 0)]))], [7], (atC Try.prog 71 [1, 0, 1, 0, 0]), (atC Try.prog 71 [1, 0, 1, 0, 1]), b72⟩), .obj b69 (.row 36 .whole [s92]), .vec 44 5 l92.length s92 (l92.flatMap enc44), .obj b63 (.row 86 .whole [(.fn (.func 73) [] [(.ptr b45 0), (.ptr b48 0), (.ptr b51 0), (.ptr b59 0)])]), .obj b45 (.row 80 .whole [(.int .i64 c45.live), (.int .i64 c45.window), (.int .i64 c45.step)]), .obj b48 (.row 33 .whole [sc48_0]), .obj b51 (.row 33 .whole [sc51_0]), .obj b72 .defd, .obj b77 .defd, .obj b85 (.row 33 .whole [sc85_0]), .obj b88 (.row 33 .whole [sc88_0]), .obj b82 (.row 80 .whole [(.int .i64 c82.live), (.int .i64 c82.window), (.int .i64 c82.step)]), .obj b91 .defd, .obj b98 (.row 73 .whole [(.int .i64 c98.Time), (.int .i64 c98.Loud), (.int .i64 c98.Template)]), .obj b105 (.row 73 .whole [(.int .i64 c105.Time), (.int .i64 c105.Loud), (.int .i64 c105.Template)])])
      refine Run.block (Run.region ?_)
      refine Run.opG wantS_none (ex_load1 rfl (hH132.cells (i := 13) rfl 0 rfl) rdLe_rfl agg36) rfl ?_
      refine Run.opG wantS_none (ex_loadA rfl (hH132.cells (i := 0) rfl 0 rfl) rdLe_rfl agg44 rfl rfl rfl) rfl ?_
      refine Run.opX wantS_none rfl (ExG.built (enc := enc44) (l := ([(S_api_Candidate.mk (S_api_Pair.mk v5 v7 (w64 (c98.Loud + c105.Loud))) r117)] : List S_api_Candidate)) (z := 5) rfl elt36 rfl rfl rfl enc44_len hH132) ?_
      rintro s134 M135 (hH135 : Has Fr M135 [.vec 44 5 ([(S_api_Candidate.mk (S_api_Pair.mk v5 v7 (w64 (c98.Loud + c105.Loud))) r117)] : List S_api_Candidate).length s134 (([(S_api_Candidate.mk (S_api_Pair.mk v5 v7 (w64 (c98.Loud + c105.Loud))) r117)] : List S_api_Candidate).flatMap enc44), .obj b129 (.row 44 .whole [(.int .i64 v5), (.int .i64 v7), (.int .i64 (w64 (c98.Loud + c105.Loud))), (.int .i64 r117.N), (.int .i64 r117.Of)]), .obj b125 (.row 44 .whole [(.int .i64 v5), (.int .i64 v7), (.int .i64 (w64 (c98.Loud + c105.Loud))), (.int .i64 r117.N), (.int .i64 r117.Of)]), .obj b120 (.row 44 .whole [(.int .i64 v5), (.int .i64 v7), (.int .i64 (w64 (c98.Loud + c105.Loud))), (.int .i64 r117.N), (.int .i64 r117.Of)]), .obj b113 (.row 40 .whole [(.int .i64 v5), (.int .i64 v7), (.int .i64 (w64 (c98.Loud + c105.Loud)))]), .obj b90 (.loop ⟨.busy, none, 73, 21, treeOf [(4, (.ptr b59 0)), (5, (.ptr b79 0)), (10, (.fn (.func 84) [] [(.ptr b85 0), (.ptr b88 0), (.ptr b82 0)]))], [11], (atC Try.prog 73 [1, 1, 0, 0]), (atC Try.prog 73 [1, 1, 0, 1]), b91⟩), .obj b59 (.row 22 .whole [s56]), .vec 3 1 l56.length s56 (l56.flatMap enc3), .obj b79 (.row 83 .whole [(.yield b76)]), .obj b76 (.loop ⟨.busy, none, 72, 16, treeOf [(2, (.ptr b66 0)), (3, (.ptr b74 0)), (5, (.fn (.func 73) [] [(.ptr b45 0), (.ptr b48 0), (.ptr b51 0), (.ptr b59 0)]))], [6], (atC Try.prog 72 [1, 1, 0, 0]), (atC Try.prog 72 [1, 1, 0, 1]), b77⟩), .obj b66 (.row 83 .whole [(.fn (.func 40) [] [(.ptr b22 0)])]), .obj b22 (.row 3 .whole [(.int .i64 c22_0)]), .obj b74 (.row 83 .whole [(.yield b71)]), .obj b71 (.loop ⟨.busy, none, 71, 13, treeOf [(2, (.ptr b69 0)), (4, .nils), (6, (.fn (.func 72) [] [(.ptr b63 0), (.ptr b66 0)]))], [7], (atC Try.prog 71 [1, 0, 1, 0, 0]), (atC Try.prog 71 [1, 0, 1, 0, 1]), b72⟩), .obj b69 (.row 36 .whole [s92]), .vec 44 5 l92.length s92 (l92.flatMap enc44), .obj b63 (.row 86 .whole [(.fn (.func 73) [] [(.ptr b45 0), (.ptr b48 0), (.ptr b51 0), (.ptr b59 0)])]), .obj b45 (.row 80 .whole [(.int .i64 c45.live), (.int .i64 c45.window), (.int .i64 c45.step)]), .obj b48 (.row 33 .whole [sc48_0]), .obj b51 (.row 33 .whole [sc51_0]), .obj b72 .defd, .obj b77 .defd, .obj b85 (.row 33 .whole [sc85_0]), .obj b88 (.row 33 .whole [sc88_0]), .obj b82 (.row 80 .whole [(.int .i64 c82.live), (.int .i64 c82.window), (.int .i64 c82.step)]), .obj b91 .defd, .obj b98 (.row 73 .whole [(.int .i64 c98.Time), (.int .i64 c98.Loud), (.int .i64 c98.Template)]), .obj b105 (.row 73 .whole [(.int .i64 c105.Time), (.int .i64 c105.Loud), (.int .i64 c105.Template)])])
      obtain ⟨l138, hl138, h⟩ := bnd_some h
      refine Run.opX wantS_none rfl (ExG.append rfl rfl hH135 (i := 15) rfl enc44_len rfl enc44_ones appt36_36 rfl (len_slc (hH135.slc (i := 0) rfl enc44_len)) (first_slc (hH135.slc (i := 0) rfl enc44_len) (rdLe_rdRow _) enc44_len) hl138) ?_
      rintro s138 M140 (hH140 : Has Fr M140 [.vec 44 5 ([(S_api_Candidate.mk (S_api_Pair.mk v5 v7 (w64 (c98.Loud + c105.Loud))) r117)] : List S_api_Candidate).length s134 (([(S_api_Candidate.mk (S_api_Pair.mk v5 v7 (w64 (c98.Loud + c105.Loud))) r117)] : List S_api_Candidate).flatMap enc44), .obj b129 (.row 44 .whole [(.int .i64 v5), (.int .i64 v7), (.int .i64 (w64 (c98.Loud + c105.Loud))), (.int .i64 r117.N), (.int .i64 r117.Of)]), .obj b125 (.row 44 .whole [(.int .i64 v5), (.int .i64 v7), (.int .i64 (w64 (c98.Loud + c105.Loud))), (.int .i64 r117.N), (.int .i64 r117.Of)]), .obj b120 (.row 44 .whole [(.int .i64 v5), (.int .i64 v7), (.int .i64 (w64 (c98.Loud + c105.Loud))), (.int .i64 r117.N), (.int .i64 r117.Of)]), .obj b113 (.row 40 .whole [(.int .i64 v5), (.int .i64 v7), (.int .i64 (w64 (c98.Loud + c105.Loud)))]), .obj b90 (.loop ⟨.busy, none, 73, 21, treeOf [(4, (.ptr b59 0)), (5, (.ptr b79 0)), (10, (.fn (.func 84) [] [(.ptr b85 0), (.ptr b88 0), (.ptr b82 0)]))], [11], (atC Try.prog 73 [1, 1, 0, 0]), (atC Try.prog 73 [1, 1, 0, 1]), b91⟩), .obj b59 (.row 22 .whole [s56]), .vec 3 1 l56.length s56 (l56.flatMap enc3), .obj b79 (.row 83 .whole [(.yield b76)]), .obj b76 (.loop ⟨.busy, none, 72, 16, treeOf [(2, (.ptr b66 0)), (3, (.ptr b74 0)), (5, (.fn (.func 73) [] [(.ptr b45 0), (.ptr b48 0), (.ptr b51 0), (.ptr b59 0)]))], [6], (atC Try.prog 72 [1, 1, 0, 0]), (atC Try.prog 72 [1, 1, 0, 1]), b77⟩), .obj b66 (.row 83 .whole [(.fn (.func 40) [] [(.ptr b22 0)])]), .obj b22 (.row 3 .whole [(.int .i64 c22_0)]), .obj b74 (.row 83 .whole [(.yield b71)]), .obj b71 (.loop ⟨.busy, none, 71, 13, treeOf [(2, (.ptr b69 0)), (4, .nils), (6, (.fn (.func 72) [] [(.ptr b63 0), (.ptr b66 0)]))], [7], (atC Try.prog 71 [1, 0, 1, 0, 0]), (atC Try.prog 71 [1, 0, 1, 0, 1]), b72⟩), .obj b69 (.row 36 .whole [s92]), .vec 44 5 l138.length s138 (l138.flatMap enc44), .obj b63 (.row 86 .whole [(.fn (.func 73) [] [(.ptr b45 0), (.ptr b48 0), (.ptr b51 0), (.ptr b59 0)])]), .obj b45 (.row 80 .whole [(.int .i64 c45.live), (.int .i64 c45.window), (.int .i64 c45.step)]), .obj b48 (.row 33 .whole [sc48_0]), .obj b51 (.row 33 .whole [sc51_0]), .obj b72 .defd, .obj b77 .defd, .obj b85 (.row 33 .whole [sc85_0]), .obj b88 (.row 33 .whole [sc88_0]), .obj b82 (.row 80 .whole [(.int .i64 c82.live), (.int .i64 c82.window), (.int .i64 c82.step)]), .obj b91 .defd, .obj b98 (.row 73 .whole [(.int .i64 c98.Time), (.int .i64 c98.Loud), (.int .i64 c98.Template)]), .obj b105 (.row 73 .whole [(.int .i64 c105.Time), (.int .i64 c105.Loud), (.int .i64 c105.Template)])])
      refine Run.opX wantS_none rfl (ExG.storeC (c' := [s138]) rfl rfl (cells_one (vec_one hH140 (i := 15) rfl)) hH140 (i := 14) rfl sz36 rfl rfl rfl (ones_cons (vec_one hH140 (i := 15) rfl) ones_nil) rfl) ?_
      rintro _ M141 ⟨rfl, (hH141 : Has Fr M141 [.vec 44 5 ([(S_api_Candidate.mk (S_api_Pair.mk v5 v7 (w64 (c98.Loud + c105.Loud))) r117)] : List S_api_Candidate).length s134 (([(S_api_Candidate.mk (S_api_Pair.mk v5 v7 (w64 (c98.Loud + c105.Loud))) r117)] : List S_api_Candidate).flatMap enc44), .obj b129 (.row 44 .whole [(.int .i64 v5), (.int .i64 v7), (.int .i64 (w64 (c98.Loud + c105.Loud))), (.int .i64 r117.N), (.int .i64 r117.Of)]), .obj b125 (.row 44 .whole [(.int .i64 v5), (.int .i64 v7), (.int .i64 (w64 (c98.Loud + c105.Loud))), (.int .i64 r117.N), (.int .i64 r117.Of)]), .obj b120 (.row 44 .whole [(.int .i64 v5), (.int .i64 v7), (.int .i64 (w64 (c98.Loud + c105.Loud))), (.int .i64 r117.N), (.int .i64 r117.Of)]), .obj b113 (.row 40 .whole [(.int .i64 v5), (.int .i64 v7), (.int .i64 (w64 (c98.Loud + c105.Loud)))]), .obj b90 (.loop ⟨.busy, none, 73, 21, treeOf [(4, (.ptr b59 0)), (5, (.ptr b79 0)), (10, (.fn (.func 84) [] [(.ptr b85 0), (.ptr b88 0), (.ptr b82 0)]))], [11], (atC Try.prog 73 [1, 1, 0, 0]), (atC Try.prog 73 [1, 1, 0, 1]), b91⟩), .obj b59 (.row 22 .whole [s56]), .vec 3 1 l56.length s56 (l56.flatMap enc3), .obj b79 (.row 83 .whole [(.yield b76)]), .obj b76 (.loop ⟨.busy, none, 72, 16, treeOf [(2, (.ptr b66 0)), (3, (.ptr b74 0)), (5, (.fn (.func 73) [] [(.ptr b45 0), (.ptr b48 0), (.ptr b51 0), (.ptr b59 0)]))], [6], (atC Try.prog 72 [1, 1, 0, 0]), (atC Try.prog 72 [1, 1, 0, 1]), b77⟩), .obj b66 (.row 83 .whole [(.fn (.func 40) [] [(.ptr b22 0)])]), .obj b22 (.row 3 .whole [(.int .i64 c22_0)]), .obj b74 (.row 83 .whole [(.yield b71)]), .obj b71 (.loop ⟨.busy, none, 71, 13, treeOf [(2, (.ptr b69 0)), (4, .nils), (6, (.fn (.func 72) [] [(.ptr b63 0), (.ptr b66 0)]))], [7], (atC Try.prog 71 [1, 0, 1, 0, 0]), (atC Try.prog 71 [1, 0, 1, 0, 1]), b72⟩), .obj b69 (.row 36 .whole [s138]), .vec 44 5 l138.length s138 (l138.flatMap enc44), .obj b63 (.row 86 .whole [(.fn (.func 73) [] [(.ptr b45 0), (.ptr b48 0), (.ptr b51 0), (.ptr b59 0)])]), .obj b45 (.row 80 .whole [(.int .i64 c45.live), (.int .i64 c45.window), (.int .i64 c45.step)]), .obj b48 (.row 33 .whole [sc48_0]), .obj b51 (.row 33 .whole [sc51_0]), .obj b72 .defd, .obj b77 .defd, .obj b85 (.row 33 .whole [sc85_0]), .obj b88 (.row 33 .whole [sc88_0]), .obj b82 (.row 80 .whole [(.int .i64 c82.live), (.int .i64 c82.window), (.int .i64 c82.step)]), .obj b91 .defd, .obj b98 (.row 73 .whole [(.int .i64 c98.Time), (.int .i64 c98.Loud), (.int .i64 c98.Template)]), .obj b105 (.row 73 .whole [(.int .i64 c105.Time), (.int .i64 c105.Loud), (.int .i64 c105.Template)])])⟩
      refine Run.opsEnd (Run.inBlock ?_)
      refine Run.roundEndX hH141 (i := 13) rfl rfl ?_
      intro M142 (hH142 : Has Fr M142 [.vec 44 5 ([(S_api_Candidate.mk (S_api_Pair.mk v5 v7 (w64 (c98.Loud + c105.Loud))) r117)] : List S_api_Candidate).length s134 (([(S_api_Candidate.mk (S_api_Pair.mk v5 v7 (w64 (c98.Loud + c105.Loud))) r117)] : List S_api_Candidate).flatMap enc44), .obj b129 (.row 44 .whole [(.int .i64 v5), (.int .i64 v7), (.int .i64 (w64 (c98.Loud + c105.Loud))), (.int .i64 r117.N), (.int .i64 r117.Of)]), .obj b125 (.row 44 .whole [(.int .i64 v5), (.int .i64 v7), (.int .i64 (w64 (c98.Loud + c105.Loud))), (.int .i64 r117.N), (.int .i64 r117.Of)]), .obj b120 (.row 44 .whole [(.int .i64 v5), (.int .i64 v7), (.int .i64 (w64 (c98.Loud + c105.Loud))), (.int .i64 r117.N), (.int .i64 r117.Of)]), .obj b113 (.row 40 .whole [(.int .i64 v5), (.int .i64 v7), (.int .i64 (w64 (c98.Loud + c105.Loud)))]), .obj b90 (.loop ⟨.busy, none, 73, 21, treeOf [(4, (.ptr b59 0)), (5, (.ptr b79 0)), (10, (.fn (.func 84) [] [(.ptr b85 0), (.ptr b88 0), (.ptr b82 0)]))], [11], (atC Try.prog 73 [1, 1, 0, 0]), (atC Try.prog 73 [1, 1, 0, 1]), b91⟩), .obj b59 (.row 22 .whole [s56]), .vec 3 1 l56.length s56 (l56.flatMap enc3), .obj b79 (.row 83 .whole [(.yield b76)]), .obj b76 (.loop ⟨.busy, none, 72, 16, treeOf [(2, (.ptr b66 0)), (3, (.ptr b74 0)), (5, (.fn (.func 73) [] [(.ptr b45 0), (.ptr b48 0), (.ptr b51 0), (.ptr b59 0)]))], [6], (atC Try.prog 72 [1, 1, 0, 0]), (atC Try.prog 72 [1, 1, 0, 1]), b77⟩), .obj b66 (.row 83 .whole [(.fn (.func 40) [] [(.ptr b22 0)])]), .obj b22 (.row 3 .whole [(.int .i64 c22_0)]), .obj b74 (.row 83 .whole [(.yield b71)]), .obj b71 (.loop ⟨.ready, none, 71, 13, treeOf [(2, (.ptr b69 0)), (4, .nils), (6, (.fn (.func 72) [] [(.ptr b63 0), (.ptr b66 0)]))], [7], (atC Try.prog 71 [1, 0, 1, 0, 0]), (atC Try.prog 71 [1, 0, 1, 0, 1]), b72⟩), .obj b69 (.row 36 .whole [s138]), .vec 44 5 l138.length s138 (l138.flatMap enc44), .obj b63 (.row 86 .whole [(.fn (.func 73) [] [(.ptr b45 0), (.ptr b48 0), (.ptr b51 0), (.ptr b59 0)])]), .obj b45 (.row 80 .whole [(.int .i64 c45.live), (.int .i64 c45.window), (.int .i64 c45.step)]), .obj b48 (.row 33 .whole [sc48_0]), .obj b51 (.row 33 .whole [sc51_0]), .obj b72 .defd, .obj b77 .defd, .obj b85 (.row 33 .whole [sc85_0]), .obj b88 (.row 33 .whole [sc88_0]), .obj b82 (.row 80 .whole [(.int .i64 c82.live), (.int .i64 c82.window), (.int .i64 c82.step)]), .obj b91 .defd, .obj b98 (.row 73 .whole [(.int .i64 c98.Time), (.int .i64 c98.Loud), (.int .i64 c98.Template)]), .obj b105 (.row 73 .whole [(.int .i64 c105.Time), (.int .i64 c105.Loud), (.int .i64 c105.Template)])])
      refine Run.opG (wantS_yes' rfl rfl hc127) (ex_not rfl) rfl ?_
      refine Run.opG wantS_none (ex_pickT' rfl hc127 rfl rfl) rfl ?_
      refine Run.opsEnd ?_
      exact Run.low (.cons (fle_pick [] rfl) (.cons (fle_pick [0, 2, 3, 5, 6, 10, 11, 12, 17, 18, 19, 41] rfl) (.cons (fle_pick [] rfl) (.cons (fle_pick [] rfl) (.cons (fle_pick [2] rfl) (.cons (fle_pick [] rfl) (.cons (fle_pick [] rfl) .nil))))))) (Run.pick [15] (search_Candidates_4_ok F hd2 hhd2 v5 v10 v11 v12 v17 v18 v19 v9 c22_0 c45 c48_0 c51_0 c85_0 c88_0 c82 c98 l138 l56 sv10 sv17 sc48_0 sc51_0 sc85_0 sc88_0 b76 b66 b22 b74 b71 b69 s138 b63 b45 b48 b51 b59 s56 b72 b77 b90 b79 b85 b88 b82 b91 b98 _ _ _ hv10 hv17 hc48_0 hc51_0 hc85_0 hc88_0 (hH142.pick [9, 10, 11, 12, 13, 14, 15, 16, 17, 18, 19, 6, 7, 20, 21, 5, 8, 22, 23, 24, 25, 26] rfl rfl) h))
    · have h := bif_f hc127 h
      refine Run.no (wantS_not' rfl rfl hc127) rfl ?_
      refine Run.no (wantS_not' rfl rfl hc127) rfl ?_
      refine Run.no (wantS_not' rfl rfl hc127) rfl ?_
      refine Run.no (wantS_not' rfl rfl hc127) rfl ?_
      refine Run.opG wantS_none (ex_pickF' rfl hc127 rfl rfl) rfl ?_
      refine Run.opsEnd ?_
      exact Run.low (.cons (fle_pick [] rfl) (.cons (fle_pick [0, 2, 3, 5, 6, 10, 11, 12, 17, 18, 19, 41] rfl) (.cons (fle_pick [] rfl) (.cons (fle_pick [] rfl) (.cons (fle_pick [2] rfl) (.cons (fle_pick [] rfl) (.cons (fle_pick [] rfl) .nil))))))) (Run.pick [15] (search_Candidates_4_ok F hd2 hhd2 v5 v10 v11 v12 v17 v18 v19 v9 c22_0 c45 c48_0 c51_0 c85_0 c88_0 c82 c98 l92 l56 sv10 sv17 sc48_0 sc51_0 sc85_0 sc88_0 b76 b66 b22 b74 b71 b69 s92 b63 b45 b48 b51 b59 s56 b72 b77 b90 b79 b85 b88 b82 b91 b98 _ _ _ hv10 hv17 hc48_0 hc51_0 hc85_0 hc88_0 (hH126.pick [7, 8, 9, 10, 11, 12, 13, 14, 15, 16, 17, 4, 5, 18, 19, 3, 6, 20, 21, 22, 23, 24] rfl rfl) h))
  · have h := bif_f hc111 h
    refine Run.no (wantS_not' rfl rfl hc111) rfl ?_
    refine Run.no (wantS_not' rfl rfl hc111) rfl ?_
    refine Run.no (wantS_not' rfl rfl hc111) rfl ?_
    refine Run.no (wantS_not' rfl rfl hc111) rfl ?_
    refine Run.no (wantS_not' rfl rfl hc111) rfl ?_
    refine Run.no (wantS_not' rfl rfl hc111) rfl ?_
    refine Run.no (wantS_not' rfl rfl hc111) rfl ?_
    refine Run.no (wantS_not' rfl rfl hc111) rfl ?_
    refine Run.no (wantS_not' rfl rfl hc111) rfl ?_
    refine Run.no (wantS_not' rfl rfl hc111) rfl ?_
    refine Run.no (wantS_not' rfl rfl hc111) rfl ?_
    refine Run.opG wantS_none (ex_pickF' rfl hc111 rfl rfl) rfl ?_
    refine Run.opsEnd ?_
    exact Run.low (.cons (fle_pick [] rfl) (.cons (fle_pick [] rfl) (.cons (fle_pick [2] rfl) (.cons (fle_pick [] rfl) (.cons (fle_pick [] rfl) .nil))))) (Run.pick [0, 2, 3, 5, 6, 10, 11, 12, 17, 18, 19, 53] (search_Candidates_5_ok F hd2 hhd2 v5 v10 v11 v12 v17 v18 v19 c22_0 c45 c48_0 c51_0 c85_0 c88_0 c82 c98 l56 l92 sv10 sv17 sc48_0 sc51_0 sc85_0 sc88_0 b90 b59 s56 b79 b76 b66 b22 b74 b71 b69 s92 b63 b45 b48 b51 b72 b77 b85 b88 b82 b91 b98 _ _ _ hv10 hv17 hc48_0 hc51_0 hc85_0 hc88_0 (hH.pick [0, 1, 2, 3, 4, 5, 6, 7, 8, 9, 10, 11, 12, 13, 14, 15, 16, 17, 18, 19, 20, 21] rfl rfl) h))

def search_Candidates_2 (F : Nat) (hd1 : (List S_api_Trigger) → Int → Int → Int → S_search_clock → (List S_api_Trigger) → (List S_api_Trigger) → (List S_api_Trigger) → (List S_api_Trigger) → S_search_clock → (List Int) → (List S_api_Candidate) → Option ((List S_api_Candidate) × Int)) : Nat → Int → (List S_api_Trigger) → Int → Int → (List S_api_Trigger) → Int → Int → Int → S_search_clock → (List S_api_Trigger) → (List S_api_Trigger) → (List S_api_Trigger) → (List S_api_Trigger) → S_search_clock → S_api_Trigger → (List Int) → (List S_api_Candidate) → Option ((List S_api_Candidate) × Int)
  | 0, _, _, _, _, _, _, _, _, _, _, _, _, _, _, _, _, _ => none
  | N + 1, v5, v10, v11, v12, v17, v18, v19, c22_0, c45, c48_0, c51_0, c85_0, c88_0, c82, c98, l56, l92 =>
    bif (decide (v19 < v18)) then
      bnd (idx v17 v19) fun x103 =>
      bif (c98.Template == x103.Template) then
        bnd (search_clock_distance F c82 c98.Time x103.Time) fun r109 =>
        search_Candidates_3 F (search_Candidates_2 F hd1 N) v5 v19 (decide (r109 ≤ c82.window)) v10 v11 v12 v17 v18 v19 c22_0 c45 c48_0 c51_0 c85_0 c88_0 c82 c98 x103 l56 l92
      else
        search_Candidates_3 F (search_Candidates_2 F hd1 N) v5 v19 false v10 v11 v12 v17 v18 v19 c22_0 c45 c48_0 c51_0 c85_0 c88_0 c82 c98 x103 l56 l92
    else
      hd1 v10 v11 (w64 (v12 + (1 : Int))) c22_0 c45 c48_0 c51_0 c85_0 c88_0 c82 l56 l92

theorem search_Candidates_2_ok (F : Nat) (hd1 : (List S_api_Trigger) → Int → Int → Int → S_search_clock → (List S_api_Trigger) → (List S_api_Trigger) → (List S_api_Trigger) → (List S_api_Trigger) → S_search_clock → (List Int) → (List S_api_Candidate) → Option ((List S_api_Candidate) × Int)) (hhd1 : ∀ (v10 : (List S_api_Trigger)) (v11 v12 c22_0 : Int) (c45 : S_search_clock) (c48_0 c51_0 c85_0 c88_0 : (List S_api_Trigger)) (c82 : S_search_clock) (l56 : (List Int)) (l92 : (List S_api_Candidate)) (sv10 sc48_0 sc51_0 sc85_0 sc88_0 : SV) (b90 b59 : Pos) (s56 : SV) (b79 b76 b66 b22 b74 b71 b69 : Pos) (s92 : SV) (b63 b45 b48 b51 b72 b77 b85 b88 b82 b91 : Pos) (Fr : Rd) (M : Mem) (r : (List S_api_Candidate) × Int) (hv10 : Slc Fr 3 (FlatR enc73) sv10 v10) (hc48_0 : Slc Fr 3 (FlatR enc73) sc48_0 c48_0) (hc51_0 : Slc Fr 3 (FlatR enc73) sc51_0 c51_0) (hc85_0 : Slc Fr 3 (FlatR enc73) sc85_0 c85_0) (hc88_0 : Slc Fr 3 (FlatR enc73) sc88_0 c88_0) (hH : Has Fr M [.obj b90 (.loop ⟨.ready, none, 73, 21, treeOf [(4, (.ptr b59 0)), (5, (.ptr b79 0)), (10, (.fn (.func 84) [] [(.ptr b85 0), (.ptr b88 0), (.ptr b82 0)]))], [11], (atC Try.prog 73 [1, 1, 0, 0]), (atC Try.prog 73 [1, 1, 0, 1]), b91⟩), .obj b59 (.row 22 .whole [s56]), .vec 3 1 l56.length s56 (l56.flatMap enc3), .obj b79 (.row 83 .whole [(.yield b76)]), .obj b76 (.loop ⟨.ready, none, 72, 16, treeOf [(2, (.ptr b66 0)), (3, (.ptr b74 0)), (5, (.fn (.func 73) [] [(.ptr b45 0), (.ptr b48 0), (.ptr b51 0), (.ptr b59 0)]))], [6], (atC Try.prog 72 [1, 1, 0, 0]), (atC Try.prog 72 [1, 1, 0, 1]), b77⟩), .obj b66 (.row 83 .whole [(.fn (.func 40) [] [(.ptr b22 0)])]), .obj b22 (.row 3 .whole [(.int .i64 c22_0)]), .obj b74 (.row 83 .whole [(.yield b71)]), .obj b71 (.loop ⟨.ready, none, 71, 13, treeOf [(2, (.ptr b69 0)), (4, .nils), (6, (.fn (.func 72) [] [(.ptr b63 0), (.ptr b66 0)]))], [7], (atC Try.prog 71 [1, 0, 1, 0, 0]), (atC Try.prog 71 [1, 0, 1, 0, 1]), b72⟩), .obj b69 (.row 36 .whole [s92]), .vec 44 5 l92.length s92 (l92.flatMap enc44), .obj b63 (.row 86 .whole [(.fn (.func 73) [] [(.ptr b45 0), (.ptr b48 0), (.ptr b51 0), (.ptr b59 0)])]), .obj b45 (.row 80 .whole [(.int .i64 c45.live), (.int .i64 c45.window), (.int .i64 c45.step)]), .obj b48 (.row 33 .whole [sc48_0]), .obj b51 (.row 33 .whole [sc51_0]), .obj b72 .defd, .obj b77 .defd, .obj b85 (.row 33 .whole [sc85_0]), .obj b88 (.row 33 .whole [sc88_0]), .obj b82 (.row 80 .whole [(.int .i64 c82.live), (.int .i64 c82.window), (.int .i64 c82.step)]), .obj b91 .defd]), hd1 v10 v11 v12 c22_0 c45 c48_0 c51_0 c85_0 c88_0 c82 l56 l92 = some r → Run Try.prog ⟨⟨84, [], none⟩, [.mk ⟨73, [b91], none⟩ 21 (treeOf []) [.inRange b90, .inBlock 0], .mk ⟨72, [b77], none⟩ 16 (treeOf []) [.inRange b76, .inBlock 0], .mk ⟨71, [b72], none⟩ 13 (treeOf [(2, (.ptr b69 0))]) [.inRange b71, .inBlock 0, codeC Try.prog 71 [1, 1]], .mk ⟨41, [], none⟩ 5 (treeOf []) [itemC Try.prog 41 [1, 0] 1, codeC Try.prog 41 [1, 1]], .mk ⟨14, [], none⟩ 44 (treeOf []) [itemC Try.prog 14 [1, 1, 1, 1, 0] 6, codeC Try.prog 14 [1, 1, 1, 1, 1]]]⟩ 56 (search_Candidates_post r) [(0, (.yield b90)), (2, (.ptr b88 0)), (3, (.ptr b82 0)), (10, sv10), (11, (.int .i64 v11)), (12, (.int .i64 v12))] [codeC Try.prog 84 [1, 0, 0], loopC Try.prog 84 [1, 0, 0], .inBlock 0] M) : ∀ (N : Nat), ∀ (v5 : Int) (v10 : (List S_api_Trigger)) (v11 v12 : Int) (v17 : (List S_api_Trigger)) (v18 v19 c22_0 : Int) (c45 : S_search_clock) (c48_0 c51_0 c85_0 c88_0 : (List S_api_Trigger)) (c82 : S_search_clock) (c98 : S_api_Trigger) (l56 : (List Int)) (l92 : (List S_api_Candidate)) (sv10 sv17 sc48_0 sc51_0 sc85_0 sc88_0 : SV) (b90 b59 : Pos) (s56 : SV) (b79 b76 b66 b22 b74 b71 b69 : Pos) (s92 : SV) (b63 b45 b48 b51 b72 b77 b85 b88 b82 b91 b98 : Pos) (Fr : Rd) (M : Mem) (r : (List S_api_Candidate) × Int) (hv10 : Slc Fr 3 (FlatR enc73) sv10 v10) (hv17 : Slc Fr 3 (FlatR enc73) sv17 v17) (hc48_0 : Slc Fr 3 (FlatR enc73) sc48_0 c48_0) (hc51_0 : Slc Fr 3 (FlatR enc73) sc51_0 c51_0) (hc85_0 : Slc Fr 3 (FlatR enc73) sc85_0 c85_0) (hc88_0 : Slc Fr 3 (FlatR enc73) sc88_0 c88_0) (hH : Has Fr M [.obj b90 (.loop ⟨.ready, none, 73, 21, treeOf [(4, (.ptr b59 0)), (5, (.ptr b79 0)), (10, (.fn (.func 84) [] [(.ptr b85 0), (.ptr b88 0), (.ptr b82 0)]))], [11], (atC Try.prog 73 [1, 1, 0, 0]), (atC Try.prog 73 [1, 1, 0, 1]), b91⟩), .obj b59 (.row 22 .whole [s56]), .vec 3 1 l56.length s56 (l56.flatMap enc3), .obj b79 (.row 83 .whole [(.yield b76)]), .obj b76 (.loop ⟨.ready, none, 72, 16, treeOf [(2, (.ptr b66 0)), (3, (.ptr b74 0)), (5, (.fn (.func 73) [] [(.ptr b45 0), (.ptr b48 0), (.ptr b51 0), (.ptr b59 0)]))], [6], (atC Try.prog 72 [1, 1, 0, 0]), (atC Try.prog 72 [1, 1, 0, 1]), b77⟩), .obj b66 (.row 83 .whole [(.fn (.func 40) [] [(.ptr b22 0)])]), .obj b22 (.row 3 .whole [(.int .i64 c22_0)]), .obj b74 (.row 83 .whole [(.yield b71)]), .obj b71 (.loop ⟨.ready, none, 71, 13, treeOf [(2, (.ptr b69 0)), (4, .nils), (6, (.fn (.func 72) [] [(.ptr b63 0), (.ptr b66 0)]))], [7], (atC Try.prog 71 [1, 0, 1, 0, 0]), (atC Try.prog 71 [1, 0, 1, 0, 1]), b72⟩), .obj b69 (.row 36 .whole [s92]), .vec 44 5 l92.length s92 (l92.flatMap enc44), .obj b63 (.row 86 .whole [(.fn (.func 73) [] [(.ptr b45 0), (.ptr b48 0), (.ptr b51 0), (.ptr b59 0)])]), .obj b45 (.row 80 .whole [(.int .i64 c45.live), (.int .i64 c45.window), (.int .i64 c45.step)]), .obj b48 (.row 33 .whole [sc48_0]), .obj b51 (.row 33 .whole [sc51_0]), .obj b72 .defd, .obj b77 .defd, .obj b85 (.row 33 .whole [sc85_0]), .obj b88 (.row 33 .whole [sc88_0]), .obj b82 (.row 80 .whole [(.int .i64 c82.live), (.int .i64 c82.window), (.int .i64 c82.step)]), .obj b91 .defd, .obj b98 (.row 73 .whole [(.int .i64 c98.Time), (.int .i64 c98.Loud), (.int .i64 c98.Template)])]), search_Candidates_2 F hd1 N v5 v10 v11 v12 v17 v18 v19 c22_0 c45 c48_0 c51_0 c85_0 c88_0 c82 c98 l56 l92 = some r → Run Try.prog ⟨⟨84, [], none⟩, [.mk ⟨73, [b91], none⟩ 21 (treeOf []) [.inRange b90, .inBlock 0], .mk ⟨72, [b77], none⟩ 16 (treeOf []) [.inRange b76, .inBlock 0], .mk ⟨71, [b72], none⟩ 13 (treeOf [(2, (.ptr b69 0))]) [.inRange b71, .inBlock 0, codeC Try.prog 71 [1, 1]], .mk ⟨41, [], none⟩ 5 (treeOf []) [itemC Try.prog 41 [1, 0] 1, codeC Try.prog 41 [1, 1]], .mk ⟨14, [], none⟩ 44 (treeOf []) [itemC Try.prog 14 [1, 1, 1, 1, 0] 6, codeC Try.prog 14 [1, 1, 1, 1, 1]]]⟩ 56 (search_Candidates_post r) [(0, (.yield b90)), (2, (.ptr b88 0)), (3, (.ptr b82 0)), (5, (.int .i64 v5)), (6, (.ptr b98 0)), (10, sv10), (11, (.int .i64 v11)), (12, (.int .i64 v12)), (17, sv17), (18, (.int .i64 v18)), (19, (.int .i64 v19))] [codeC Try.prog 84 [1, 0, 0, 1, 1, 0, 0, 1, 1, 0, 0], loopC Try.prog 84 [1, 0, 0, 1, 1, 0, 0, 1, 1, 0, 0], .inBlock 2, .inBlock 1, codeC Try.prog 84 [1, 0, 0, 1, 1, 1], loopC Try.prog 84 [1, 0, 0], .inBlock 0] M := by
  intro N
  induction N with
  | zero =>
    intro v5 v10 v11 v12 v17 v18 v19 c22_0 c45 c48_0 c51_0 c85_0 c88_0 c82 c98 l56 l92 sv10 sv17 sc48_0 sc51_0 sc85_0 sc88_0 b90 b59 s56 b79 b76 b66 b22 b74 b71 b69 s92 b63 b45 b48 b51 b72 b77 b85 b88 b82 b91 b98 Fr M r hv10 hv17 hc48_0 hc51_0 hc85_0 hc88_0 hH h
    simp [search_Candidates_2] at h
  | succ N ih =>
    intro v5 v10 v11 v12 v17 v18 v19 c22_0 c45 c48_0 c51_0 c85_0 c88_0 c82 c98 l56 l92 sv10 sv17 sc48_0 sc51_0 sc85_0 sc88_0 b90 b59 s56 b79 b76 b66 b22 b74 b71 b69 s92 b63 b45 b48 b51 b72 b77 b85 b88 b82 b91 b98 Fr M r hv10 hv17 hc48_0 hc51_0 hc85_0 hc88_0 hH h
    rw [search_Candidates_2] at h
    refine Run.seq (Run.region ?_)
    refine Run.opG wantS_none (ex_lss rfl rfl) rfl ?_
    refine Run.opsEnd (Run.seq ?_)
    rcases btf ((decide (v19 < v18))) with hc101 | hc101
    · have h := bif_t hc101 h
      refine Run.condT' rfl hc101 ?_
      refine Run.skip (Run.seq (Run.block (Run.seq (Run.region ?_))))
      refine Run.opG wantS_none (ex_move rfl) rfl ?_
      obtain ⟨x103, hx103, h⟩ := bnd_some h
      obtain ⟨p103, o103, _, hx103, hp103, rfl⟩ := sl_elem (P := Try.prog) (t := 33) (kk := .i64) hv17 hx103 els33
      refine Run.opG wantS_none (ex_elX rfl rfl hx103) rfl ?_
      refine Run.opG wantS_none (ex_loadA rfl (hH.ptrF hp103) rdLe_rfl agg73 rfl rfl rfl) rfl ?_
      refine Run.opX wantS_none rfl (ExG.new (v := fun b => .ptr b 0) (ex_alloc zer73) hH) ?_
      rintro _ M106 ⟨b105, rfl, hH106⟩
      refine Run.opG wantS_none (ex_assign rfl) rfl ?_
      refine Run.opX wantS_none rfl (ExG.storeC (c' := [(.int .i64 x103.Time), (.int .i64 x103.Loud), (.int .i64 x103.Template)]) rfl rfl rfl hH106 (i := 0) rfl sz73 rfl rfl rfl rfl rfl) ?_
      rintro _ M107 ⟨rfl, (hH107 : Has Fr M107 [.obj b105 (.row 73 .whole [(.int .i64 x103.Time), (.int .i64 x103.Loud), (.int .i64 x103.Template)]), .obj b90 (.loop ⟨.ready, none, 73, 21, treeOf [(4, (.ptr b59 0)), (5, (.ptr b79 0)), (10, (.fn (.func 84) [] [(.ptr b85 0), (.ptr b88 0), (.ptr b82 0)]))], [11], (atC Try.prog 73 [1, 1, 0, 0]), (atC Try.prog 73 [1, 1, 0, 1]), b91⟩), .obj b59 (.row 22 .whole [s56]), .vec 3 1 l56.length s56 (l56.flatMap enc3), .obj b79 (.row 83 .whole [(.yield b76)]), .obj b76 (.loop ⟨.ready, none, 72, 16, treeOf [(2, (.ptr b66 0)), (3, (.ptr b74 0)), (5, (.fn (.func 73) [] [(.ptr b45 0), (.ptr b48 0), (.ptr b51 0), (.ptr b59 0)]))], [6], (atC Try.prog 72 [1, 1, 0, 0]), (atC Try.prog 72 [1, 1, 0, 1]), b77⟩), .obj b66 (.row 83 .whole [(.fn (.func 40) [] [(.ptr b22 0)])]), .obj b22 (.row 3 .whole [(.int .i64 c22_0)]), .obj b74 (.row 83 .whole [(.yield b71)]), .obj b71 (.loop ⟨.ready, none, 71, 13, treeOf [(2, (.ptr b69 0)), (4, .nils), (6, (.fn (.func 72) [] [(.ptr b63 0), (.ptr b66 0)]))], [7], (atC Try.prog 71 [1, 0, 1, 0, 0]), (atC Try.prog 71 [1, 0, 1, 0, 1]), b72⟩), .obj b69 (.row 36 .whole [s92]), .vec 44 5 l92.length s92 (l92.flatMap enc44), .obj b63 (.row 86 .whole [(.fn (.func 73) [] [(.ptr b45 0), (.ptr b48 0), (.ptr b51 0), (.ptr b59 0)])]), .obj b45 (.row 80 .whole [(.int .i64 c45.live), (.int .i64 c45.window), (.int .i64 c45.step)]), .obj b48 (.row 33 .whole [sc48_0]), .obj b51 (.row 33 .whole [sc51_0]), .obj b72 .defd, .obj b77 .defd, .obj b85 (.row 33 .whole [sc85_0]), .obj b88 (.row 33 .whole [sc88_0]), .obj b82 (.row 80 .whole [(.int .i64 c82.live), (.int .i64 c82.window), (.int .i64 c82.step)]), .obj b91 .defd, .obj b98 (.row 73 .whole [(.int .i64 c98.Time), (.int .i64 c98.Loud), (.int .i64 c98.Template)])])⟩
      refine Run.opsEnd (Run.seq ?_)
      refine Run.drawG plan84_1_0_0_1_1_0_0_1_1_0_0_1_1_0_0_1_0 ?_
      refine DrawG.fl rfl (ev_ex wantS_none (ex_fieldAddr rfl off73_2)) rfl ?_
      refine DrawG.fl rfl (ev_ex wantS_none (ex_load1 rfl (hH107.cells (i := 22) rfl 2 rfl) rdLe_rfl agg3)) rfl ?_
      refine DrawG.fl rfl (ev_ex wantS_none (ex_fieldAddr rfl off73_2)) rfl ?_
      refine DrawG.fl rfl (ev_ex wantS_none (ex_load1 rfl (hH107.cells (i := 0) rfl 2 rfl) rdLe_rfl agg3)) rfl ?_
      refine DrawG.fl rfl (ev_ex wantS_none (ex_eql rfl rfl)) rfl ?_
      refine DrawG.fl rfl (ev_ex wantS_none (ex_move rfl)) rfl ?_
      rcases btf ((c98.Template == x103.Template)) with hc108 | hc108
      · have h := bif_t hc108 h
        refine DrawG.fl rfl (ev_ex (wantS_yes' rfl rfl hc108) (ex_loadA rfl (hH107.cells (i := 20) rfl 0 rfl) rdLe_rfl agg80 rfl rfl rfl)) rfl ?_
        refine DrawG.fl rfl (ev_ex (wantS_yes' rfl rfl hc108) (ex_fieldAddr rfl off73_0)) rfl ?_
        refine DrawG.fl rfl (ev_ex (wantS_yes' rfl rfl hc108) (ex_load1 rfl (hH107.cells (i := 22) rfl 0 rfl) rdLe_rfl agg3)) rfl ?_
        refine DrawG.fl rfl (ev_ex (wantS_yes' rfl rfl hc108) (ex_fieldAddr rfl off73_0)) rfl ?_
        refine DrawG.fl rfl (ev_ex (wantS_yes' rfl rfl hc108) (ex_load1 rfl (hH107.cells (i := 0) rfl 0 rfl) rdLe_rfl agg3)) rfl ?_
        refine DrawG.fl rfl (ev_ex (wantS_yes' rfl rfl hc108) (ex_fieldAddr rfl off80_1)) rfl ?_
        refine DrawG.fl rfl (ev_ex (wantS_yes' rfl rfl hc108) (ex_load1 rfl (hH107.cells (i := 20) rfl 1 rfl) rdLe_rfl agg3)) rfl ?_
        obtain ⟨r109, hr109, h⟩ := bnd_some h
        refine DrawG.callP rfl (wantS_yes' rfl rfl hc108) (ex_call rfl mkk85 cal85) rfl (search_clock_distance_ok F c82 c98.Time x103.Time _ _ hr109) (st_cons rfl (ev_ex (wantS_yes' rfl rfl hc108) (ex_load1 rfl (hH107.cells (i := 20) rfl 1 rfl) rdLe_rfl agg3)) rfl rfl rfl (st_cons rfl (ev_ex (wantS_yes' rfl rfl hc108) (ex_fieldAddr rfl off80_1)) rfl rfl rfl st_nil)) ?_
        refine DrawG.fl rfl (ev_ex (wantS_yes' rfl rfl hc108) (ex_leq rfl rfl)) rfl ?_
        refine DrawG.fl rfl (ev_ex wantS_none (ex_pickT' rfl hc108 rfl rfl)) rfl ?_
        refine DrawG.fl rfl (ev_ex wantS_none (ex_assign rfl)) rfl ?_
        refine DrawG.sync ?_
        refine DrawG.nil ?_
        refine Run.seq (Run.region ?_)
        exact Run.low (.cons (fle_pick [] rfl) (.cons (fle_pick [] rfl) (.cons (fle_pick [2] rfl) (.cons (fle_pick [] rfl) (.cons (fle_pick [] rfl) .nil))))) (Run.pick [0, 2, 3, 5, 6, 7, 8, 9, 10, 11, 12, 17, 18, 19] (search_Candidates_3_ok F (search_Candidates_2 F hd1 N) ih v5 v19 (decide (r109 ≤ c82.window)) v10 v11 v12 v17 v18 v19 c22_0 c45 c48_0 c51_0 c85_0 c88_0 c82 c98 x103 l56 l92 sv10 sv17 sc48_0 sc51_0 sc85_0 sc88_0 b90 b59 s56 b79 b76 b66 b22 b74 b71 b69 s92 b63 b45 b48 b51 b72 b77 b85 b88 b82 b91 b98 b105 _ _ _ hv10 hv17 hc48_0 hc51_0 hc85_0 hc88_0 (hH107.pick [1, 2, 3, 4, 5, 6, 7, 8, 9, 10, 11, 12, 13, 14, 15, 16, 17, 18, 19, 20, 21, 22, 0] rfl rfl) h))
      · have h := bif_f hc108 h
        refine DrawG.fl rfl (ev_no (wantS_not' rfl rfl hc108)) rfl ?_
        refine DrawG.fl rfl (ev_no (wantS_not' rfl rfl hc108)) rfl ?_
        refine DrawG.fl rfl (ev_no (wantS_not' rfl rfl hc108)) rfl ?_
        refine DrawG.fl rfl (ev_no (wantS_not' rfl rfl hc108)) rfl ?_
        refine DrawG.fl rfl (ev_no (wantS_not' rfl rfl hc108)) rfl ?_
        refine DrawG.fl rfl (ev_no (wantS_not' rfl rfl hc108)) rfl ?_
        refine DrawG.fl rfl (ev_no (wantS_not' rfl rfl hc108)) rfl ?_
        refine DrawG.no rfl (wantS_not' rfl rfl hc108) rfl (st_cons rfl (ev_no (wantS_not' rfl rfl hc108)) rfl rfl rfl (st_cons rfl (ev_no (wantS_not' rfl rfl hc108)) rfl rfl rfl st_nil)) ?_
        refine DrawG.fl rfl (ev_no (wantS_not' rfl rfl hc108)) rfl ?_
        refine DrawG.fl rfl (ev_ex wantS_none (ex_pickF' rfl hc108 rfl rfl)) rfl ?_
        refine DrawG.fl rfl (ev_ex wantS_none (ex_assign rfl)) rfl ?_
        refine DrawG.sync ?_
        refine DrawG.nil ?_
        refine Run.seq (Run.region ?_)
        exact Run.low (.cons (fle_pick [] rfl) (.cons (fle_pick [] rfl) (.cons (fle_pick [2] rfl) (.cons (fle_pick [] rfl) (.cons (fle_pick [] rfl) .nil))))) (Run.pick [0, 2, 3, 5, 6, 7, 8, 9, 10, 11, 12, 17, 18, 19] (search_Candidates_3_ok F (search_Candidates_2 F hd1 N) ih v5 v19 false v10 v11 v12 v17 v18 v19 c22_0 c45 c48_0 c51_0 c85_0 c88_0 c82 c98 x103 l56 l92 sv10 sv17 sc48_0 sc51_0 sc85_0 sc88_0 b90 b59 s56 b79 b76 b66 b22 b74 b71 b69 s92 b63 b45 b48 b51 b72 b77 b85 b88 b82 b91 b98 b105 _ _ _ hv10 hv17 hc48_0 hc51_0 hc85_0 hc88_0 (hH107.pick [1, 2, 3, 4, 5, 6, 7, 8, 9, 10, 11, 12, 13, 14, 15, 16, 17, 18, 19, 20, 21, 22, 0] rfl rfl) h))
    · have h := bif_f hc101 h
      refine Run.condF' rfl hc101 ?_
      refine Run.exit rfl (Run.inBlock (Run.region ?_))
      refine Run.opG wantS_none (ex_add rfl rfl) rfl ?_
      refine Run.opG wantS_none (ex_move rfl) rfl ?_
      refine Run.opsEnd (Run.inLoop ?_)
      exact Run.low (.cons (fle_pick [] rfl) (.cons (fle_pick [] rfl) (.cons (fle_pick [2] rfl) (.cons (fle_pick [] rfl) (.cons (fle_pick [] rfl) .nil))))) (Run.pick [0, 2, 3, 10, 11, 12] (hhd1 v10 v11 (w64 (v12 + (1 : Int))) c22_0 c45 c48_0 c51_0 c85_0 c88_0 c82 l56 l92 sv10 sc48_0 sc51_0 sc85_0 sc88_0 b90 b59 s56 b79 b76 b66 b22 b74 b71 b69 s92 b63 b45 b48 b51 b72 b77 b85 b88 b82 b91 _ _ _ hv10 hc48_0 hc51_0 hc85_0 hc88_0 (hH.pick [0, 1, 2, 3, 4, 5, 6, 7, 8, 9, 10, 11, 12, 13, 14, 15, 16, 17, 18, 19, 20] rfl rfl) h))

def search_Candidates_1 (F : Nat) : Nat → (List S_api_Trigger) → Int → Int → Int → S_search_clock → (List S_api_Trigger) → (List S_api_Trigger) → (List S_api_Trigger) → (List S_api_Trigger) → S_search_clock → (List Int) → (List S_api_Candidate) → Option ((List S_api_Candidate) × Int)
  | 0, _, _, _, _, _, _, _, _, _, _, _, _ => none
  | N + 1, v10, v11, v12, c22_0, c45, c48_0, c51_0, c85_0, c88_0, c82, l56, l92 =>
    bif (decide (v12 < v11)) then
      bnd (idx v10 v12) fun x96 =>
      search_Candidates_2 F (search_Candidates_1 F N) F v12 v10 v11 v12 c88_0 (c88_0.length : Int) (0 : Int) c22_0 c45 c48_0 c51_0 c85_0 c88_0 c82 x96 l56 l92
    else
      some (l92, (0 : Int))

theorem search_Candidates_1_ok (F : Nat) : ∀ (N : Nat), ∀ (v10 : (List S_api_Trigger)) (v11 v12 c22_0 : Int) (c45 : S_search_clock) (c48_0 c51_0 c85_0 c88_0 : (List S_api_Trigger)) (c82 : S_search_clock) (l56 : (List Int)) (l92 : (List S_api_Candidate)) (sv10 sc48_0 sc51_0 sc85_0 sc88_0 : SV) (b90 b59 : Pos) (s56 : SV) (b79 b76 b66 b22 b74 b71 b69 : Pos) (s92 : SV) (b63 b45 b48 b51 b72 b77 b85 b88 b82 b91 : Pos) (Fr : Rd) (M : Mem) (r : (List S_api_Candidate) × Int) (hv10 : Slc Fr 3 (FlatR enc73) sv10 v10) (hc48_0 : Slc Fr 3 (FlatR enc73) sc48_0 c48_0) (hc51_0 : Slc Fr 3 (FlatR enc73) sc51_0 c51_0) (hc85_0 : Slc Fr 3 (FlatR enc73) sc85_0 c85_0) (hc88_0 : Slc Fr 3 (FlatR enc73) sc88_0 c88_0) (hH : Has Fr M [.obj b90 (.loop ⟨.ready, none, 73, 21, treeOf [(4, (.ptr b59 0)), (5, (.ptr b79 0)), (10, (.fn (.func 84) [] [(.ptr b85 0), (.ptr b88 0), (.ptr b82 0)]))], [11], (atC Try.prog 73 [1, 1, 0, 0]), (atC Try.prog 73 [1, 1, 0, 1]), b91⟩), .obj b59 (.row 22 .whole [s56]), .vec 3 1 l56.length s56 (l56.flatMap enc3), .obj b79 (.row 83 .whole [(.yield b76)]), .obj b76 (.loop ⟨.ready, none, 72, 16, treeOf [(2, (.ptr b66 0)), (3, (.ptr b74 0)), (5, (.fn (.func 73) [] [(.ptr b45 0), (.ptr b48 0), (.ptr b51 0), (.ptr b59 0)]))], [6], (atC Try.prog 72 [1, 1, 0, 0]), (atC Try.prog 72 [1, 1, 0, 1]), b77⟩), .obj b66 (.row 83 .whole [(.fn (.func 40) [] [(.ptr b22 0)])]), .obj b22 (.row 3 .whole [(.int .i64 c22_0)]), .obj b74 (.row 83 .whole [(.yield b71)]), .obj b71 (.loop ⟨.ready, none, 71, 13, treeOf [(2, (.ptr b69 0)), (4, .nils), (6, (.fn (.func 72) [] [(.ptr b63 0), (.ptr b66 0)]))], [7], (atC Try.prog 71 [1, 0, 1, 0, 0]), (atC Try.prog 71 [1, 0, 1, 0, 1]), b72⟩), .obj b69 (.row 36 .whole [s92]), .vec 44 5 l92.length s92 (l92.flatMap enc44), .obj b63 (.row 86 .whole [(.fn (.func 73) [] [(.ptr b45 0), (.ptr b48 0), (.ptr b51 0), (.ptr b59 0)])]), .obj b45 (.row 80 .whole [(.int .i64 c45.live), (.int .i64 c45.window), (.int .i64 c45.step)]), .obj b48 (.row 33 .whole [sc48_0]), .obj b51 (.row 33 .whole [sc51_0]), .obj b72 .defd, .obj b77 .defd, .obj b85 (.row 33 .whole [sc85_0]), .obj b88 (.row 33 .whole [sc88_0]), .obj b82 (.row 80 .whole [(.int .i64 c82.live), (.int .i64 c82.window), (.int .i64 c82.step)]), .obj b91 .defd]), search_Candidates_1 F N v10 v11 v12 c22_0 c45 c48_0 c51_0 c85_0 c88_0 c82 l56 l92 = some r → Run Try.prog ⟨⟨84, [], none⟩, [.mk ⟨73, [b91], none⟩ 21 (treeOf []) [.inRange b90, .inBlock 0], .mk ⟨72, [b77], none⟩ 16 (treeOf []) [.inRange b76, .inBlock 0], .mk ⟨71, [b72], none⟩ 13 (treeOf [(2, (.ptr b69 0))]) [.inRange b71, .inBlock 0, codeC Try.prog 71 [1, 1]], .mk ⟨41, [], none⟩ 5 (treeOf []) [itemC Try.prog 41 [1, 0] 1, codeC Try.prog 41 [1, 1]], .mk ⟨14, [], none⟩ 44 (treeOf []) [itemC Try.prog 14 [1, 1, 1, 1, 0] 6, codeC Try.prog 14 [1, 1, 1, 1, 1]]]⟩ 56 (search_Candidates_post r) [(0, (.yield b90)), (2, (.ptr b88 0)), (3, (.ptr b82 0)), (10, sv10), (11, (.int .i64 v11)), (12, (.int .i64 v12))] [codeC Try.prog 84 [1, 0, 0], loopC Try.prog 84 [1, 0, 0], .inBlock 0] M := by
  intro N
  induction N with
  | zero =>
    intro v10 v11 v12 c22_0 c45 c48_0 c51_0 c85_0 c88_0 c82 l56 l92 sv10 sc48_0 sc51_0 sc85_0 sc88_0 b90 b59 s56 b79 b76 b66 b22 b74 b71 b69 s92 b63 b45 b48 b51 b72 b77 b85 b88 b82 b91 Fr M r hv10 hc48_0 hc51_0 hc85_0 hc88_0 hH h
    simp [search_Candidates_1] at h
  | succ N ih =>
    intro v10 v11 v12 c22_0 c45 c48_0 c51_0 c85_0 c88_0 c82 l56 l92 sv10 sc48_0 sc51_0 sc85_0 sc88_0 b90 b59 s56 b79 b76 b66 b22 b74 b71 b69 s92 b63 b45 b48 b51 b72 b77 b85 b88 b82 b91 Fr M r hv10 hc48_0 hc51_0 hc85_0 hc88_0 hH h
    rw [search_Candidates_1] at h
    refine Run.seq (Run.region ?_)
    refine Run.opG wantS_none (ex_lss rfl rfl) rfl ?_
    refine Run.opsEnd (Run.seq ?_)
    rcases btf ((decide (v12 < v11))) with hc94 | hc94
    · have h := bif_t hc94 h
      refine Run.condT' rfl hc94 ?_
      refine Run.skip (Run.seq (Run.block (Run.seq (Run.region ?_))))
      refine Run.opG wantS_none (ex_move rfl) rfl ?_
      obtain ⟨x96, hx96, h⟩ := bnd_some h
      obtain ⟨p96, o96, _, hx96, hp96, rfl⟩ := sl_elem (P := Try.prog) (t := 33) (kk := .i64) hv10 hx96 els33
      refine Run.opG wantS_none (ex_elX rfl rfl hx96) rfl ?_
      refine Run.opG wantS_none (ex_loadA rfl (hH.ptrF hp96) rdLe_rfl agg73 rfl rfl rfl) rfl ?_
      refine Run.opX wantS_none rfl (ExG.new (v := fun b => .ptr b 0) (ex_alloc zer73) hH) ?_
      rintro _ M99 ⟨b98, rfl, hH99⟩
      refine Run.opG wantS_none (ex_assign rfl) rfl ?_
      refine Run.opX wantS_none rfl (ExG.storeC (c' := [(.int .i64 x96.Time), (.int .i64 x96.Loud), (.int .i64 x96.Template)]) rfl rfl rfl hH99 (i := 0) rfl sz73 rfl rfl rfl rfl rfl) ?_
      rintro _ M100 ⟨rfl, (hH100 : Has Fr M100 [.obj b98 (.row 73 .whole [(.int .i64 x96.Time), (.int .i64 x96.Loud), (.int .i64 x96.Template)]), .obj b90 (.loop ⟨.ready, none, 73, 21, treeOf [(4, (.ptr b59 0)), (5, (.ptr b79 0)), (10, (.fn (.func 84) [] [(.ptr b85 0), (.ptr b88 0), (.ptr b82 0)]))], [11], (atC Try.prog 73 [1, 1, 0, 0]), (atC Try.prog 73 [1, 1, 0, 1]), b91⟩), .obj b59 (.row 22 .whole [s56]), .vec 3 1 l56.length s56 (l56.flatMap enc3), .obj b79 (.row 83 .whole [(.yield b76)]), .obj b76 (.loop ⟨.ready, none, 72, 16, treeOf [(2, (.ptr b66 0)), (3, (.ptr b74 0)), (5, (.fn (.func 73) [] [(.ptr b45 0), (.ptr b48 0), (.ptr b51 0), (.ptr b59 0)]))], [6], (atC Try.prog 72 [1, 1, 0, 0]), (atC Try.prog 72 [1, 1, 0, 1]), b77⟩), .obj b66 (.row 83 .whole [(.fn (.func 40) [] [(.ptr b22 0)])]), .obj b22 (.row 3 .whole [(.int .i64 c22_0)]), .obj b74 (.row 83 .whole [(.yield b71)]), .obj b71 (.loop ⟨.ready, none, 71, 13, treeOf [(2, (.ptr b69 0)), (4, .nils), (6, (.fn (.func 72) [] [(.ptr b63 0), (.ptr b66 0)]))], [7], (atC Try.prog 71 [1, 0, 1, 0, 0]), (atC Try.prog 71 [1, 0, 1, 0, 1]), b72⟩), .obj b69 (.row 36 .whole [s92]), .vec 44 5 l92.length s92 (l92.flatMap enc44), .obj b63 (.row 86 .whole [(.fn (.func 73) [] [(.ptr b45 0), (.ptr b48 0), (.ptr b51 0), (.ptr b59 0)])]), .obj b45 (.row 80 .whole [(.int .i64 c45.live), (.int .i64 c45.window), (.int .i64 c45.step)]), .obj b48 (.row 33 .whole [sc48_0]), .obj b51 (.row 33 .whole [sc51_0]), .obj b72 .defd, .obj b77 .defd, .obj b85 (.row 33 .whole [sc85_0]), .obj b88 (.row 33 .whole [sc88_0]), .obj b82 (.row 80 .whole [(.int .i64 c82.live), (.int .i64 c82.window), (.int .i64 c82.step)]), .obj b91 .defd])⟩
      refine Run.opsEnd (Run.seq (Run.region ?_))
      refine Run.opG wantS_none (ex_load1 rfl (hH100.cells (i := 19) rfl 0 rfl) rdLe_rfl agg33) rfl ?_
      refine Run.opG wantS_none (ex_len' rfl hc88_0 lenk33) rfl ?_
      refine Run.opG wantS_none (ex_move rfl) rfl ?_
      refine Run.opsEnd (Run.block (Run.loop ?_))
      exact Run.low (.cons (fle_pick [] rfl) (.cons (fle_pick [] rfl) (.cons (fle_pick [2] rfl) (.cons (fle_pick [] rfl) (.cons (fle_pick [] rfl) .nil))))) (Run.pick [0, 2, 3, 5, 6, 10, 11, 12, 17, 18, 19] (search_Candidates_2_ok F (search_Candidates_1 F N) ih F v12 v10 v11 v12 c88_0 (c88_0.length : Int) (0 : Int) c22_0 c45 c48_0 c51_0 c85_0 c88_0 c82 x96 l56 l92 sv10 sc88_0 sc48_0 sc51_0 sc85_0 sc88_0 b90 b59 s56 b79 b76 b66 b22 b74 b71 b69 s92 b63 b45 b48 b51 b72 b77 b85 b88 b82 b91 b98 _ _ _ hv10 hc88_0 hc48_0 hc51_0 hc85_0 hc88_0 (hH100.pick [1, 2, 3, 4, 5, 6, 7, 8, 9, 10, 11, 12, 13, 14, 15, 16, 17, 18, 19, 20, 21, 0] rfl rfl) h))
    · have h := bif_f hc94 h
      refine Run.condF' rfl hc94 ?_
      refine Run.exit rfl ?_
      refine Run.fallRange Try.func84 rfl res_nil ?_
      refine Run.endX hH (i := 0) rfl (fun hc => by cases hc) ?_
      intro M146 (hH146 : Has Fr M146 [.obj b90 (.loop ⟨.exhausted, none, 73, 21, treeOf [(4, (.ptr b59 0)), (5, (.ptr b79 0)), (10, (.fn (.func 84) [] [(.ptr b85 0), (.ptr b88 0), (.ptr b82 0)]))], [11], (atC Try.prog 73 [1, 1, 0, 0]), (atC Try.prog 73 [1, 1, 0, 1]), b91⟩), .obj b59 (.row 22 .whole [s56]), .vec 3 1 l56.length s56 (l56.flatMap enc3), .obj b79 (.row 83 .whole [(.yield b76)]), .obj b76 (.loop ⟨.ready, none, 72, 16, treeOf [(2, (.ptr b66 0)), (3, (.ptr b74 0)), (5, (.fn (.func 73) [] [(.ptr b45 0), (.ptr b48 0), (.ptr b51 0), (.ptr b59 0)]))], [6], (atC Try.prog 72 [1, 1, 0, 0]), (atC Try.prog 72 [1, 1, 0, 1]), b77⟩), .obj b66 (.row 83 .whole [(.fn (.func 40) [] [(.ptr b22 0)])]), .obj b22 (.row 3 .whole [(.int .i64 c22_0)]), .obj b74 (.row 83 .whole [(.yield b71)]), .obj b71 (.loop ⟨.ready, none, 71, 13, treeOf [(2, (.ptr b69 0)), (4, .nils), (6, (.fn (.func 72) [] [(.ptr b63 0), (.ptr b66 0)]))], [7], (atC Try.prog 71 [1, 0, 1, 0, 0]), (atC Try.prog 71 [1, 0, 1, 0, 1]), b72⟩), .obj b69 (.row 36 .whole [s92]), .vec 44 5 l92.length s92 (l92.flatMap enc44), .obj b63 (.row 86 .whole [(.fn (.func 73) [] [(.ptr b45 0), (.ptr b48 0), (.ptr b51 0), (.ptr b59 0)])]), .obj b45 (.row 80 .whole [(.int .i64 c45.live), (.int .i64 c45.window), (.int .i64 c45.step)]), .obj b48 (.row 33 .whole [sc48_0]), .obj b51 (.row 33 .whole [sc51_0]), .obj b72 .defd, .obj b77 .defd, .obj b85 (.row 33 .whole [sc85_0]), .obj b88 (.row 33 .whole [sc88_0]), .obj b82 (.row 80 .whole [(.int .i64 c82.live), (.int .i64 c82.window), (.int .i64 c82.step)]), .obj b91 .defd])
      refine Run.inBlock ?_
      obtain ⟨hH147x, hS147⟩ := hH146.shut (i := 20) (ds := []) rfl
      have hH147 : Has Fr (setT M146 b91 none) [.obj b90 (.loop ⟨.exhausted, none, 73, 21, treeOf [(4, (.ptr b59 0)), (5, (.ptr b79 0)), (10, (.fn (.func 84) [] [(.ptr b85 0), (.ptr b88 0), (.ptr b82 0)]))], [11], (atC Try.prog 73 [1, 1, 0, 0]), (atC Try.prog 73 [1, 1, 0, 1]), b91⟩), .obj b59 (.row 22 .whole [s56]), .vec 3 1 l56.length s56 (l56.flatMap enc3), .obj b79 (.row 83 .whole [(.yield b76)]), .obj b76 (.loop ⟨.ready, none, 72, 16, treeOf [(2, (.ptr b66 0)), (3, (.ptr b74 0)), (5, (.fn (.func 73) [] [(.ptr b45 0), (.ptr b48 0), (.ptr b51 0), (.ptr b59 0)]))], [6], (atC Try.prog 72 [1, 1, 0, 0]), (atC Try.prog 72 [1, 1, 0, 1]), b77⟩), .obj b66 (.row 83 .whole [(.fn (.func 40) [] [(.ptr b22 0)])]), .obj b22 (.row 3 .whole [(.int .i64 c22_0)]), .obj b74 (.row 83 .whole [(.yield b71)]), .obj b71 (.loop ⟨.ready, none, 71, 13, treeOf [(2, (.ptr b69 0)), (4, .nils), (6, (.fn (.func 72) [] [(.ptr b63 0), (.ptr b66 0)]))], [7], (atC Try.prog 71 [1, 0, 1, 0, 0]), (atC Try.prog 71 [1, 0, 1, 0, 1]), b72⟩), .obj b69 (.row 36 .whole [s92]), .vec 44 5 l92.length s92 (l92.flatMap enc44), .obj b63 (.row 86 .whole [(.fn (.func 73) [] [(.ptr b45 0), (.ptr b48 0), (.ptr b51 0), (.ptr b59 0)])]), .obj b45 (.row 80 .whole [(.int .i64 c45.live), (.int .i64 c45.window), (.int .i64 c45.step)]), .obj b48 (.row 33 .whole [sc48_0]), .obj b51 (.row 33 .whole [sc51_0]), .obj b72 .defd, .obj b77 .defd, .obj b85 (.row 33 .whole [sc85_0]), .obj b88 (.row 33 .whole [sc88_0]), .obj b82 (.row 80 .whole [(.int .i64 c82.live), (.int .i64 c82.window), (.int .i64 c82.step)]), .vec 0 0 0 .nils []] := hH147x
      refine Run.fallRange Try.func73 (hS147 _ rfl) res_nil ?_
      refine Run.endX hH147 (i := 4) rfl (fun hc => by cases hc) ?_
      intro M149 (hH149 : Has Fr M149 [.obj b90 (.loop ⟨.exhausted, none, 73, 21, treeOf [(4, (.ptr b59 0)), (5, (.ptr b79 0)), (10, (.fn (.func 84) [] [(.ptr b85 0), (.ptr b88 0), (.ptr b82 0)]))], [11], (atC Try.prog 73 [1, 1, 0, 0]), (atC Try.prog 73 [1, 1, 0, 1]), b91⟩), .obj b59 (.row 22 .whole [s56]), .vec 3 1 l56.length s56 (l56.flatMap enc3), .obj b79 (.row 83 .whole [(.yield b76)]), .obj b76 (.loop ⟨.exhausted, none, 72, 16, treeOf [(2, (.ptr b66 0)), (3, (.ptr b74 0)), (5, (.fn (.func 73) [] [(.ptr b45 0), (.ptr b48 0), (.ptr b51 0), (.ptr b59 0)]))], [6], (atC Try.prog 72 [1, 1, 0, 0]), (atC Try.prog 72 [1, 1, 0, 1]), b77⟩), .obj b66 (.row 83 .whole [(.fn (.func 40) [] [(.ptr b22 0)])]), .obj b22 (.row 3 .whole [(.int .i64 c22_0)]), .obj b74 (.row 83 .whole [(.yield b71)]), .obj b71 (.loop ⟨.ready, none, 71, 13, treeOf [(2, (.ptr b69 0)), (4, .nils), (6, (.fn (.func 72) [] [(.ptr b63 0), (.ptr b66 0)]))], [7], (atC Try.prog 71 [1, 0, 1, 0, 0]), (atC Try.prog 71 [1, 0, 1, 0, 1]), b72⟩), .obj b69 (.row 36 .whole [s92]), .vec 44 5 l92.length s92 (l92.flatMap enc44), .obj b63 (.row 86 .whole [(.fn (.func 73) [] [(.ptr b45 0), (.ptr b48 0), (.ptr b51 0), (.ptr b59 0)])]), .obj b45 (.row 80 .whole [(.int .i64 c45.live), (.int .i64 c45.window), (.int .i64 c45.step)]), .obj b48 (.row 33 .whole [sc48_0]), .obj b51 (.row 33 .whole [sc51_0]), .obj b72 .defd, .obj b77 .defd, .obj b85 (.row 33 .whole [sc85_0]), .obj b88 (.row 33 .whole [sc88_0]), .obj b82 (.row 80 .whole [(.int .i64 c82.live), (.int .i64 c82.window), (.int .i64 c82.step)]), .vec 0 0 0 .nils []])
      refine Run.inBlock ?_
      obtain ⟨hH150x, hS150⟩ := hH149.shut (i := 16) (ds := []) rfl
      have hH150 : Has Fr (setT M149 b77 none) [.obj b90 (.loop ⟨.exhausted, none, 73, 21, treeOf [(4, (.ptr b59 0)), (5, (.ptr b79 0)), (10, (.fn (.func 84) [] [(.ptr b85 0), (.ptr b88 0), (.ptr b82 0)]))], [11], (atC Try.prog 73 [1, 1, 0, 0]), (atC Try.prog 73 [1, 1, 0, 1]), b91⟩), .obj b59 (.row 22 .whole [s56]), .vec 3 1 l56.length s56 (l56.flatMap enc3), .obj b79 (.row 83 .whole [(.yield b76)]), .obj b76 (.loop ⟨.exhausted, none, 72, 16, treeOf [(2, (.ptr b66 0)), (3, (.ptr b74 0)), (5, (.fn (.func 73) [] [(.ptr b45 0), (.ptr b48 0), (.ptr b51 0), (.ptr b59 0)]))], [6], (atC Try.prog 72 [1, 1, 0, 0]), (atC Try.prog 72 [1, 1, 0, 1]), b77⟩), .obj b66 (.row 83 .whole [(.fn (.func 40) [] [(.ptr b22 0)])]), .obj b22 (.row 3 .whole [(.int .i64 c22_0)]), .obj b74 (.row 83 .whole [(.yield b71)]), .obj b71 (.loop ⟨.ready, none, 71, 13, treeOf [(2, (.ptr b69 0)), (4, .nils), (6, (.fn (.func 72) [] [(.ptr b63 0), (.ptr b66 0)]))], [7], (atC Try.prog 71 [1, 0, 1, 0, 0]), (atC Try.prog 71 [1, 0, 1, 0, 1]), b72⟩), .obj b69 (.row 36 .whole [s92]), .vec 44 5 l92.length s92 (l92.flatMap enc44), .obj b63 (.row 86 .whole [(.fn (.func 73) [] [(.ptr b45 0), (.ptr b48 0), (.ptr b51 0), (.ptr b59 0)])]), .obj b45 (.row 80 .whole [(.int .i64 c45.live), (.int .i64 c45.window), (.int .i64 c45.step)]), .obj b48 (.row 33 .whole [sc48_0]), .obj b51 (.row 33 .whole [sc51_0]), .obj b72 .defd, .vec 0 0 0 .nils [], .obj b85 (.row 33 .whole [sc85_0]), .obj b88 (.row 33 .whole [sc88_0]), .obj b82 (.row 80 .whole [(.int .i64 c82.live), (.int .i64 c82.window), (.int .i64 c82.step)]), .vec 0 0 0 .nils []] := hH150x
      refine Run.fallRange Try.func72 (hS150 _ rfl) res_nil ?_
      refine Run.endX hH150 (i := 8) rfl (fun hc => by cases hc) ?_
      intro M152 (hH152 : Has Fr M152 [.obj b90 (.loop ⟨.exhausted, none, 73, 21, treeOf [(4, (.ptr b59 0)), (5, (.ptr b79 0)), (10, (.fn (.func 84) [] [(.ptr b85 0), (.ptr b88 0), (.ptr b82 0)]))], [11], (atC Try.prog 73 [1, 1, 0, 0]), (atC Try.prog 73 [1, 1, 0, 1]), b91⟩), .obj b59 (.row 22 .whole [s56]), .vec 3 1 l56.length s56 (l56.flatMap enc3), .obj b79 (.row 83 .whole [(.yield b76)]), .obj b76 (.loop ⟨.exhausted, none, 72, 16, treeOf [(2, (.ptr b66 0)), (3, (.ptr b74 0)), (5, (.fn (.func 73) [] [(.ptr b45 0), (.ptr b48 0), (.ptr b51 0), (.ptr b59 0)]))], [6], (atC Try.prog 72 [1, 1, 0, 0]), (atC Try.prog 72 [1, 1, 0, 1]), b77⟩), .obj b66 (.row 83 .whole [(.fn (.func 40) [] [(.ptr b22 0)])]), .obj b22 (.row 3 .whole [(.int .i64 c22_0)]), .obj b74 (.row 83 .whole [(.yield b71)]), .obj b71 (.loop ⟨.exhausted, none, 71, 13, treeOf [(2, (.ptr b69 0)), (4, .nils), (6, (.fn (.func 72) [] [(.ptr b63 0), (.ptr b66 0)]))], [7], (atC Try.prog 71 [1, 0, 1, 0, 0]), (atC Try.prog 71 [1, 0, 1, 0, 1]), b72⟩), .obj b69 (.row 36 .whole [s92]), .vec 44 5 l92.length s92 (l92.flatMap enc44), .obj b63 (.row 86 .whole [(.fn (.func 73) [] [(.ptr b45 0), (.ptr b48 0), (.ptr b51 0), (.ptr b59 0)])]), .obj b45 (.row 80 .whole [(.int .i64 c45.live), (.int .i64 c45.window), (.int .i64 c45.step)]), .obj b48 (.row 33 .whole [sc48_0]), .obj b51 (.row 33 .whole [sc51_0]), .obj b72 .defd, .vec 0 0 0 .nils [], .obj b85 (.row 33 .whole [sc85_0]), .obj b88 (.row 33 .whole [sc88_0]), .obj b82 (.row 80 .whole [(.int .i64 c82.live), (.int .i64 c82.window), (.int .i64 c82.step)]), .vec 0 0 0 .nils []])
      refine Run.inBlock (Run.seq (Run.region ?_))
      refine Run.opG wantS_none (ex_load1 rfl (hH152.cells (i := 9) rfl 0 rfl) rdLe_rfl agg36) rfl ?_
      refine Run.opG wantS_none (ex_assign rfl) rfl ?_
      refine Run.opsEnd ?_
      obtain ⟨hH153x, hS153⟩ := hH152.shut (i := 15) (ds := []) rfl
      have hH153 : Has Fr (setT M152 b72 none) [.obj b90 (.loop ⟨.exhausted, none, 73, 21, treeOf [(4, (.ptr b59 0)), (5, (.ptr b79 0)), (10, (.fn (.func 84) [] [(.ptr b85 0), (.ptr b88 0), (.ptr b82 0)]))], [11], (atC Try.prog 73 [1, 1, 0, 0]), (atC Try.prog 73 [1, 1, 0, 1]), b91⟩), .obj b59 (.row 22 .whole [s56]), .vec 3 1 l56.length s56 (l56.flatMap enc3), .obj b79 (.row 83 .whole [(.yield b76)]), .obj b76 (.loop ⟨.exhausted, none, 72, 16, treeOf [(2, (.ptr b66 0)), (3, (.ptr b74 0)), (5, (.fn (.func 73) [] [(.ptr b45 0), (.ptr b48 0), (.ptr b51 0), (.ptr b59 0)]))], [6], (atC Try.prog 72 [1, 1, 0, 0]), (atC Try.prog 72 [1, 1, 0, 1]), b77⟩), .obj b66 (.row 83 .whole [(.fn (.func 40) [] [(.ptr b22 0)])]), .obj b22 (.row 3 .whole [(.int .i64 c22_0)]), .obj b74 (.row 83 .whole [(.yield b71)]), .obj b71 (.loop ⟨.exhausted, none, 71, 13, treeOf [(2, (.ptr b69 0)), (4, .nils), (6, (.fn (.func 72) [] [(.ptr b63 0), (.ptr b66 0)]))], [7], (atC Try.prog 71 [1, 0, 1, 0, 0]), (atC Try.prog 71 [1, 0, 1, 0, 1]), b72⟩), .obj b69 (.row 36 .whole [s92]), .vec 44 5 l92.length s92 (l92.flatMap enc44), .obj b63 (.row 86 .whole [(.fn (.func 73) [] [(.ptr b45 0), (.ptr b48 0), (.ptr b51 0), (.ptr b59 0)])]), .obj b45 (.row 80 .whole [(.int .i64 c45.live), (.int .i64 c45.window), (.int .i64 c45.step)]), .obj b48 (.row 33 .whole [sc48_0]), .obj b51 (.row 33 .whole [sc51_0]), .vec 0 0 0 .nils [], .vec 0 0 0 .nils [], .obj b85 (.row 33 .whole [sc85_0]), .obj b88 (.row 33 .whole [sc88_0]), .obj b82 (.row 80 .whole [(.int .i64 c82.live), (.int .i64 c82.window), (.int .i64 c82.step)]), .vec 0 0 0 .nils []] := hH153x
      refine Run.retTo Try.func71 (hS153 _ rfl) (res_tmp rfl res_nil) rfl ?_
      refine Run.opG wantS_none (ex_assign rfl) rfl ?_
      refine Run.opsEnd ?_
      refine Run.retTo Try.func41 rfl (res_tmp rfl res_nil) rfl ?_
      refine Run.opG wantS_none (ex_assign rfl) rfl ?_
      refine Run.opG wantS_none (ex_assign rfl) rfl ?_
      refine Run.opsEnd ?_
      cases h
      exact Run.ret Try.func14 rfl (res_tmp rfl (res_tmp rfl res_nil)) ⟨_, rfl, (hH153.pick [10] rfl rfl).upF (none_le _)⟩

def search_Candidates (F : Nat) (a0 a1 : (List S_api_Trigger)) (a2 a3 a4 a5 : Int) : Option ((List S_api_Candidate) × Int) :=
  bnd (search_clock_check F (S_search_clock.mk a2 a3 a4) ([a0, a1] : List (List S_api_Trigger))) fun r32 =>
  bif (!(r32 == (0 : Int))) then
    some (([] : List S_api_Candidate), r32)
  else
    bnd (search_clock_slides F (S_search_clock.mk a2 a3 a4)) fun r37 =>
    bnd (search_isFrom F (0 : Int) a5 r37) fun r39 =>
    bif (!r39) then
      some (([] : List S_api_Candidate), (8 : Int))
    else
      bnd (search_clock_statistics F (S_search_clock.mk a2 a3 a4) a0 a1) fun r55 =>
      search_Candidates_1 F F a0 (a0.length : Int) (0 : Int) a5 (S_search_clock.mk a2 a3 a4) a0 a1 a0 a1 (S_search_clock.mk a2 a3 a4) r55 ([] : List S_api_Candidate)

theorem search_Candidates_ok (F : Nat) (a0 a1 : (List S_api_Trigger)) (a2 a3 a4 a5 : Int) (s0 s1 : SV) (r : (List S_api_Candidate) × Int) (M : Mem) (hs0 : Slc (rd M) 3 (FlatR enc73) s0 a0) (hs1 : Slc (rd M) 3 (FlatR enc73) s1 a1) (h : search_Candidates F a0 a1 a2 a3 a4 a5 = some r) : CallsM Try.prog 14 [s0, s1, (.int .i64 a2), (.int .i64 a3), (.int .i64 a4), (.int .i64 a5)] M (fun s M' => ∃ q1, s = (.tuple [q1, (.int .i64 r.2)]) ∧ New M M' [.vec 44 5 r.1.length q1 (r.1.flatMap enc44)]) := by
  refine CallsM.fresh (Q := search_Candidates_post r) Try.func14 rfl rfl ?_ (by rintro s Me ⟨q1, rfl, hx⟩ ha hw; exact ⟨_, rfl, New.of rfl hx ha hw⟩)
  rw [search_Candidates] at h
  replace hs0 := hs0.mono (rdLe_frozen M) (fun _ _ h => h)
  replace hs1 := hs1.mono (rdLe_frozen M) (fun _ _ h => h)
  have hH := Has.nil (frozen M)
  refine Run.seq (Run.region ?_)
  refine Run.opX wantS_none rfl (ExG.box rfl rfl hH) ?_
  rintro _ M23 ⟨b22, rfl, hH23⟩
  refine Run.opG wantS_none (ex_assign rfl) rfl ?_
  refine Run.opG wantS_none (ex_assign rfl) rfl ?_
  refine Run.opsEnd (Run.seq (Run.region ?_))
  refine Run.opG wantS_none (ex_move rfl) rfl ?_
  refine Run.opG wantS_none (ex_move rfl) rfl ?_
  refine Run.opG wantS_none (ex_move rfl) rfl ?_
  refine Run.opG wantS_none (ex_build (r := [(.int .i64 a2), (.int .i64 a3), (.int .i64 a4)]) rfl zer80 pls80 rfl) rfl ?_
  refine Run.opX wantS_none rfl (ExG.new (v := fun b => .ptr b 0) (ex_alloc zer80) hH23) ?_
  rintro _ M26 ⟨b25, rfl, hH26⟩
  refine Run.opX wantS_none rfl (ExG.storeC (c' := [(.int .i64 a2), (.int .i64 a3), (.int .i64 a4)]) rfl rfl rfl hH26 (i := 0) rfl sz80 rfl rfl rfl rfl rfl) ?_
  rintro _ M27 ⟨rfl, (hH27 : Has (ro (frozen M)) M27 [.obj b25 (.row 80 .whole [(.int .i64 a2), (.int .i64 a3), (.int .i64 a4)]), .obj b22 (.row 3 .whole [(.int .i64 a5)])])⟩
  refine Run.opsEnd (Run.seq (Run.seq (Run.region ?_)))
  refine Run.opG wantS_none (ex_loadA rfl (hH27.cells (i := 0) rfl 0 rfl) rdLe_rfl agg80 rfl rfl rfl) rfl ?_
  refine Run.opG wantS_none (ex_move rfl) rfl ?_
  refine Run.opG wantS_none (ex_move rfl) rfl ?_
  have hr29 : Rows (rep33 (ro (frozen M))) 1 [s0, s1] ([a0, a1] : List (List S_api_Trigger)) := (Rows.cons (cs := [s0]) rfl ⟨s0, rfl, hs0⟩ (Rows.cons (cs := [s1]) rfl ⟨s1, rfl, hs1⟩ Rows.nil))
  refine Run.opX wantS_none rfl (ExG.builtR (z := 1) (c := [s0, s1]) rfl elt116 rfl (by simp only [fillS, cells_one (slc_one hs0), cells_one (slc_one hs1)]; rfl) rfl hH27) ?_
  rintro s29 M30 (hH30 : Has (ro (frozen M)) M30 [.vec 33 1 ([a0, a1] : List (List S_api_Trigger)).length s29 [s0, s1], .obj b25 (.row 80 .whole [(.int .i64 a2), (.int .i64 a3), (.int .i64 a4)]), .obj b22 (.row 3 .whole [(.int .i64 a5)])])
  obtain ⟨r32, hr32, h⟩ := bnd_some h
  refine Run.callP wantS_none (ex_call rfl mkk38 cal38) rfl (search_clock_check_ok F (S_search_clock.mk a2 a3 a4) ([a0, a1] : List (List S_api_Trigger)) s29 _ _ (((hH30.slcR (i := 0) rfl hr29)).mono (fun _ _ h => h) (fun _ _ => rep33_mo hH30.le)) hr32) ?_
  refine Run.opG wantS_none (ex_assign rfl) rfl ?_
  refine Run.opsEnd (Run.block (Run.seq (Run.region ?_)))
  refine Run.opG wantS_none (ex_move rfl) rfl ?_
  refine Run.opG wantS_none (ex_neq rfl rfl) rfl ?_
  refine Run.opG wantS_none (ex_assign rfl) rfl ?_
  refine Run.opsEnd ?_
  rcases btf ((!(r32 == (0 : Int)))) with hc34 | hc34
  · have h := bif_t hc34 h
    refine Run.condT' rfl hc34 ?_
    refine Run.seq (Run.region ?_)
    refine Run.opG wantS_none (ex_move rfl) rfl ?_
    refine Run.opG wantS_none (ex_assign rfl) rfl ?_
    refine Run.opG wantS_none (ex_assign rfl) rfl ?_
    refine Run.opsEnd ?_
    have hH36 : Has (ro (frozen M)) M30 [.vec 44 5 ([] : List S_api_Candidate).length .nils (([] : List S_api_Candidate).flatMap enc44), .vec 33 1 ([a0, a1] : List (List S_api_Trigger)).length s29 [s0, s1], .obj b25 (.row 80 .whole [(.int .i64 a2), (.int .i64 a3), (.int .i64 a4)]), .obj b22 (.row 3 .whole [(.int .i64 a5)])] := hH30.nils 44 5
    cases h
    exact Run.ret Try.func14 rfl (res_tmp rfl (res_tmp rfl res_nil)) ⟨_, rfl, (hH36.pick [0] rfl rfl).upF (none_le _)⟩
  · have h := bif_f hc34 h
    refine Run.condF' rfl hc34 ?_
    refine Run.seq ?_
    refine Run.drawG plan14_1_1_0_1_0_1_1_0 ?_
    refine DrawG.fl rfl (ev_ex wantS_none (ex_load1 rfl (hH30.cells (i := 2) rfl 0 rfl) rdLe_rfl agg3)) rfl ?_
    refine DrawG.fl rfl (ev_ex wantS_none (ex_loadA rfl (hH30.cells (i := 1) rfl 0 rfl) rdLe_rfl agg80 rfl rfl rfl)) rfl ?_
    obtain ⟨r37, hr37, h⟩ := bnd_some h
    refine DrawG.callP rfl wantS_none (ex_call rfl mkk39 cal39) rfl (search_clock_slides_ok F (S_search_clock.mk a2 a3 a4) _ _ hr37) (st_cons rfl (ev_ex wantS_none (ex_load1 rfl (hH30.cells (i := 2) rfl 0 rfl) rdLe_rfl agg3)) rfl rfl rfl st_nil) ?_
    obtain ⟨r39, hr39, h⟩ := bnd_some h
    refine DrawG.callP rfl wantS_none (ex_call rfl mkk36 cal36) rfl (search_isFrom_ok F (0 : Int) a5 r37 _ _ hr39) st_nil ?_
    refine DrawG.fl rfl (ev_ex wantS_none (ex_not rfl)) rfl ?_
    refine DrawG.fl rfl (ev_ex wantS_none (ex_assign rfl)) rfl ?_
    refine DrawG.sync ?_
    refine DrawG.nil ?_
    rcases btf ((!r39)) with hc41 | hc41
    · have h := bif_t hc41 h
      refine Run.condT' rfl hc41 ?_
      refine Run.seq (Run.region ?_)
      refine Run.opG wantS_none (ex_assign rfl) rfl ?_
      refine Run.opG wantS_none (ex_assign rfl) rfl ?_
      refine Run.opsEnd ?_
      have hH43 : Has (ro (frozen M)) M30 [.vec 44 5 ([] : List S_api_Candidate).length .nils (([] : List S_api_Candidate).flatMap enc44), .vec 33 1 ([a0, a1] : List (List S_api_Trigger)).length s29 [s0, s1], .obj b25 (.row 80 .whole [(.int .i64 a2), (.int .i64 a3), (.int .i64 a4)]), .obj b22 (.row 3 .whole [(.int .i64 a5)])] := hH30.nils 44 5
      cases h
      exact Run.ret Try.func14 rfl (res_tmp rfl (res_tmp rfl res_nil)) ⟨_, rfl, (hH43.pick [0] rfl rfl).upF (none_le _)⟩
    · have h := bif_f hc41 h
      refine Run.condF' rfl hc41 ?_
      refine Run.skip (Run.inBlock (Run.seq (Run.region ?_)))
      refine Run.opG wantS_none (ex_makeFunc rfl rfl) rfl ?_
      refine Run.opG wantS_none (ex_assign rfl) rfl ?_
      refine Run.opsEnd (Run.seq (Run.region ?_))
      refine Run.opG wantS_none (ex_loadA rfl (hH30.cells (i := 1) rfl 0 rfl) rdLe_rfl agg80 rfl rfl rfl) rfl ?_
      refine Run.opG wantS_none (ex_move rfl) rfl ?_
      refine Run.opG wantS_none (ex_move rfl) rfl ?_
      refine Run.enter wantS_none (ex_call rfl mkk43 cal43) Try.func43 rfl rfl ?_
      refine Run.seq (Run.region ?_)
      refine Run.opX wantS_none rfl (ExG.box rfl rfl hH30) ?_
      rintro _ M46 ⟨b45, rfl, hH46⟩
      refine Run.opX wantS_none rfl (ExG.box rfl (cells_one (slc_one hs0)) hH46) ?_
      rintro _ M49 ⟨b48, rfl, hH49⟩
      refine Run.opX wantS_none rfl (ExG.box rfl (cells_one (slc_one hs1)) hH49) ?_
      rintro _ M52 ⟨b51, rfl, hH52⟩
      refine Run.opG wantS_none (ex_assign rfl) rfl ?_
      refine Run.opsEnd (Run.seq (Run.region ?_))
      refine Run.opG wantS_none (ex_loadA rfl (hH52.cells (i := 2) rfl 0 rfl) rdLe_rfl agg80 rfl rfl rfl) rfl ?_
      refine Run.opG wantS_none (ex_load1 rfl (hH52.cells (i := 1) rfl 0 rfl) rdLe_rfl agg33) rfl ?_
      refine Run.opG wantS_none (ex_load1 rfl (hH52.cells (i := 0) rfl 0 rfl) rdLe_rfl agg33) rfl ?_
      obtain ⟨r55, hr55, h⟩ := bnd_some h
      refine Run.callX wantS_none (ex_call rfl mkk48 cal48) rfl (search_clock_statistics_ok F (S_search_clock.mk a2 a3 a4) a0 a1 s0 s1 _ _ (hH52.slcF hs0) (hH52.slcF hs1) hr55) ?_
      rintro s55_0 M57 ⟨_, rfl, hN55⟩
      have hH57 : Has (ro (frozen M)) M57 [.vec 3 1 r55.length s55_0 (r55.flatMap enc3), .obj b51 (.row 33 .whole [s1]), .obj b48 (.row 33 .whole [s0]), .obj b45 (.row 80 .whole [(.int .i64 a2), (.int .i64 a3), (.int .i64 a4)]), .vec 33 1 ([a0, a1] : List (List S_api_Trigger)).length s29 [s0, s1], .obj b25 (.row 80 .whole [(.int .i64 a2), (.int .i64 a3), (.int .i64 a4)]), .obj b22 (.row 3 .whole [(.int .i64 a5)])] := hN55.1 _ _ hH52
      refine Run.opX wantS_none rfl (ExG.new (v := fun b => .ptr b 0) (ex_alloc zer22) hH57) ?_
      rintro _ M60 ⟨b59, rfl, hH60⟩
      refine Run.opX wantS_none rfl (ExG.storeC (c' := [s55_0]) rfl rfl (cells_one (vec_one hH60 (i := 1) rfl)) hH60 (i := 0) rfl sz22 rfl rfl rfl (ones_cons (vec_one hH60 (i := 1) rfl) ones_nil) rfl) ?_
      rintro _ M61 ⟨rfl, (hH61 : Has (ro (frozen M)) M61 [.obj b59 (.row 22 .whole [s55_0]), .vec 3 1 r55.length s55_0 (r55.flatMap enc3), .obj b51 (.row 33 .whole [s1]), .obj b48 (.row 33 .whole [s0]), .obj b45 (.row 80 .whole [(.int .i64 a2), (.int .i64 a3), (.int .i64 a4)]), .vec 33 1 ([a0, a1] : List (List S_api_Trigger)).length s29 [s0, s1], .obj b25 (.row 80 .whole [(.int .i64 a2), (.int .i64 a3), (.int .i64 a4)]), .obj b22 (.row 3 .whole [(.int .i64 a5)])])⟩
      refine Run.opsEnd (Run.seq (Run.region ?_))
      refine Run.opG wantS_none (ex_makeFunc rfl rfl) rfl ?_
      refine Run.opG wantS_none (ex_assign rfl) rfl ?_
      refine Run.opsEnd ?_
      refine Run.retTo Try.func43 rfl (res_tmp rfl res_nil) rfl ?_
      refine Run.opG wantS_none (ex_move rfl) rfl ?_
      refine Run.enter wantS_none (ex_call rfl mkk42 cal42) Try.func42 rfl rfl ?_
      refine Run.seq (Run.region ?_)
      refine Run.opX wantS_none rfl (ExG.box rfl rfl hH61) ?_
      rintro _ M64 ⟨b63, rfl, hH64⟩
      refine Run.opX wantS_none rfl (ExG.box rfl rfl hH64) ?_
      rintro _ M67 ⟨b66, rfl, hH67⟩
      refine Run.opG wantS_none (ex_assign rfl) rfl ?_
      refine Run.opsEnd (Run.seq (Run.region ?_))
      refine Run.opG wantS_none (ex_makeFunc rfl rfl) rfl ?_
      refine Run.opG wantS_none (ex_assign rfl) rfl ?_
      refine Run.opsEnd ?_
      refine Run.retTo Try.func42 rfl (res_tmp rfl res_nil) rfl ?_
      refine Run.enter wantS_none (ex_call rfl mkk41 cal41) Try.func41 rfl rfl ?_
      refine Run.seq (Run.region ?_)
      refine Run.opG wantS_none (ex_assign rfl) rfl ?_
      refine Run.opsEnd (Run.seq (Run.region ?_))
      refine Run.opG wantS_none (ex_move rfl) rfl ?_
      refine Run.enter wantS_none (ex_call rfl mkk71 cal71) Try.func71 rfl rfl ?_
      refine Run.seq (Run.region ?_)
      refine Run.opX wantS_none rfl (ExG.box rfl rfl hH67) ?_
      rintro _ M70 ⟨b69, rfl, hH70⟩
      refine Run.opG wantS_none (ex_assign rfl) rfl ?_
      refine Run.opsEnd (Run.seq (Run.seq (Run.region ?_)))
      refine Run.opG wantS_none (ex_move rfl) rfl ?_
      refine Run.opsEnd (Run.block ?_)
      refine Run.pick [2, 4, 6] ?_
      refine Run.rangeX rfl cal72 Try.func72 rfl rfl hH70 ?_
      intro b72 b71 M71 (hH71 : Has (ro (frozen M)) M71 [.obj b71 (.loop ⟨.ready, none, 71, 13, treeOf [(2, (.ptr b69 0)), (4, .nils), (6, (.fn (.func 72) [] [(.ptr b63 0), (.ptr b66 0)]))], [7], (atC Try.prog 71 [1, 0, 1, 0, 0]), (atC Try.prog 71 [1, 0, 1, 0, 1]), b72⟩), .obj b72 .defd, .obj b69 (.row 36 .whole [.nils]), .obj b66 (.row 83 .whole [(.fn (.func 40) [] [(.ptr b22 0)])]), .obj b63 (.row 86 .whole [(.fn (.func 73) [] [(.ptr b45 0), (.ptr b48 0), (.ptr b51 0), (.ptr b59 0)])]), .obj b59 (.row 22 .whole [s55_0]), .vec 3 1 r55.length s55_0 (r55.flatMap enc3), .obj b51 (.row 33 .whole [s1]), .obj b48 (.row 33 .whole [s0]), .obj b45 (.row 80 .whole [(.int .i64 a2), (.int .i64 a3), (.int .i64 a4)]), .vec 33 1 ([a0, a1] : List (List S_api_Trigger)).length s29 [s0, s1], .obj b25 (.row 80 .whole [(.int .i64 a2), (.int .i64 a3), (.int .i64 a4)]), .obj b22 (.row 3 .whole [(.int .i64 a5)])])
      refine Run.seq (Run.region ?_)
      refine Run.opX wantS_none rfl (ExG.box rfl rfl hH71) ?_
      rintro _ M75 ⟨b74, rfl, hH75⟩
      refine Run.opsEnd (Run.seq (Run.region ?_))
      refine Run.opG wantS_none (ex_load1 rfl (hH75.cells (i := 5) rfl 0 rfl) rdLe_rfl agg86) rfl ?_
      refine Run.opsEnd (Run.block ?_)
      refine Run.pick [2, 3, 5] ?_
      refine Run.rangeX rfl cal73 Try.func73 rfl rfl hH75 ?_
      intro b77 b76 M76 (hH76 : Has (ro (frozen M)) M76 [.obj b76 (.loop ⟨.ready, none, 72, 16, treeOf [(2, (.ptr b66 0)), (3, (.ptr b74 0)), (5, (.fn (.func 73) [] [(.ptr b45 0), (.ptr b48 0), (.ptr b51 0), (.ptr b59 0)]))], [6], (atC Try.prog 72 [1, 1, 0, 0]), (atC Try.prog 72 [1, 1, 0, 1]), b77⟩), .obj b77 .defd, .obj b74 (.row 83 .whole [(.yield b71)]), .obj b71 (.loop ⟨.ready, none, 71, 13, treeOf [(2, (.ptr b69 0)), (4, .nils), (6, (.fn (.func 72) [] [(.ptr b63 0), (.ptr b66 0)]))], [7], (atC Try.prog 71 [1, 0, 1, 0, 0]), (atC Try.prog 71 [1, 0, 1, 0, 1]), b72⟩), .obj b72 .defd, .obj b69 (.row 36 .whole [.nils]), .obj b66 (.row 83 .whole [(.fn (.func 40) [] [(.ptr b22 0)])]), .obj b63 (.row 86 .whole [(.fn (.func 73) [] [(.ptr b45 0), (.ptr b48 0), (.ptr b51 0), (.ptr b59 0)])]), .obj b59 (.row 22 .whole [s55_0]), .vec 3 1 r55.length s55_0 (r55.flatMap enc3), .obj b51 (.row 33 .whole [s1]), .obj b48 (.row 33 .whole [s0]), .obj b45 (.row 80 .whole [(.int .i64 a2), (.int .i64 a3), (.int .i64 a4)]), .vec 33 1 ([a0, a1] : List (List S_api_Trigger)).length s29 [s0, s1], .obj b25 (.row 80 .whole [(.int .i64 a2), (.int .i64 a3), (.int .i64 a4)]), .obj b22 (.row 3 .whole [(.int .i64 a5)])])
      refine Run.seq (Run.region ?_)
      refine Run.opX wantS_none rfl (ExG.box rfl rfl hH76) ?_
      rintro _ M80 ⟨b79, rfl, hH80⟩
      refine Run.opsEnd (Run.seq (Run.region ?_))
      refine Run.opG wantS_none (ex_loadA rfl (hH80.cells (i := 13) rfl 0 rfl) rdLe_rfl agg80 rfl rfl rfl) rfl ?_
      refine Run.opG wantS_none (ex_load1 rfl (hH80.cells (i := 12) rfl 0 rfl) rdLe_rfl agg33) rfl ?_
      refine Run.opG wantS_none (ex_load1 rfl (hH80.cells (i := 11) rfl 0 rfl) rdLe_rfl agg33) rfl ?_
      refine Run.enter wantS_none (ex_call rfl mkk51 cal51) Try.func51 rfl rfl ?_
      refine Run.seq (Run.region ?_)
      refine Run.opX wantS_none rfl (ExG.box rfl rfl hH80) ?_
      rintro _ M83 ⟨b82, rfl, hH83⟩
      refine Run.opX wantS_none rfl (ExG.box rfl (cells_one (slc_one hs0)) hH83) ?_
      rintro _ M86 ⟨b85, rfl, hH86⟩
      refine Run.opX wantS_none rfl (ExG.box rfl (cells_one (slc_one hs1)) hH86) ?_
      rintro _ M89 ⟨b88, rfl, hH89⟩
      refine Run.opG wantS_none (ex_assign rfl) rfl ?_
      refine Run.opsEnd (Run.seq (Run.region ?_))
      refine Run.opG wantS_none (ex_makeFunc rfl rfl) rfl ?_
      refine Run.opG wantS_none (ex_assign rfl) rfl ?_
      refine Run.opsEnd ?_
      refine Run.retTo Try.func51 rfl (res_tmp rfl res_nil) rfl ?_
      refine Run.opsEnd (Run.block ?_)
      refine Run.pick [4, 5, 10] ?_
      refine Run.rangeX rfl cal84 Try.func84 rfl rfl hH89 ?_
      intro b91 b90 M90 (hH90 : Has (ro (frozen M)) M90 [.obj b90 (.loop ⟨.ready, none, 73, 21, treeOf [(4, (.ptr b59 0)), (5, (.ptr b79 0)), (10, (.fn (.func 84) [] [(.ptr b85 0), (.ptr b88 0), (.ptr b82 0)]))], [11], (atC Try.prog 73 [1, 1, 0, 0]), (atC Try.prog 73 [1, 1, 0, 1]), b91⟩), .obj b91 .defd, .obj b88 (.row 33 .whole [s1]), .obj b85 (.row 33 .whole [s0]), .obj b82 (.row 80 .whole [(.int .i64 a2), (.int .i64 a3), (.int .i64 a4)]), .obj b79 (.row 83 .whole [(.yield b76)]), .obj b76 (.loop ⟨.ready, none, 72, 16, treeOf [(2, (.ptr b66 0)), (3, (.ptr b74 0)), (5, (.fn (.func 73) [] [(.ptr b45 0), (.ptr b48 0), (.ptr b51 0), (.ptr b59 0)]))], [6], (atC Try.prog 72 [1, 1, 0, 0]), (atC Try.prog 72 [1, 1, 0, 1]), b77⟩), .obj b77 .defd, .obj b74 (.row 83 .whole [(.yield b71)]), .obj b71 (.loop ⟨.ready, none, 71, 13, treeOf [(2, (.ptr b69 0)), (4, .nils), (6, (.fn (.func 72) [] [(.ptr b63 0), (.ptr b66 0)]))], [7], (atC Try.prog 71 [1, 0, 1, 0, 0]), (atC Try.prog 71 [1, 0, 1, 0, 1]), b72⟩), .obj b72 .defd, .obj b69 (.row 36 .whole [.nils]), .obj b66 (.row 83 .whole [(.fn (.func 40) [] [(.ptr b22 0)])]), .obj b63 (.row 86 .whole [(.fn (.func 73) [] [(.ptr b45 0), (.ptr b48 0), (.ptr b51 0), (.ptr b59 0)])]), .obj b59 (.row 22 .whole [s55_0]), .vec 3 1 r55.length s55_0 (r55.flatMap enc3), .obj b51 (.row 33 .whole [s1]), .obj b48 (.row 33 .whole [s0]), .obj b45 (.row 80 .whole [(.int .i64 a2), (.int .i64 a3), (.int .i64 a4)]), .vec 33 1 ([a0, a1] : List (List S_api_Trigger)).length s29 [s0, s1], .obj b25 (.row 80 .whole [(.int .i64 a2), (.int .i64 a3), (.int .i64 a4)]), .obj b22 (.row 3 .whole [(.int .i64 a5)])])
      refine Run.seq (Run.region ?_)
      refine Run.opG wantS_none (ex_load1 rfl (hH90.cells (i := 3) rfl 0 rfl) rdLe_rfl agg33) rfl ?_
      refine Run.opG wantS_none (ex_len' rfl hs0 lenk33) rfl ?_
      refine Run.opG wantS_none (ex_move rfl) rfl ?_
      refine Run.opsEnd (Run.block (Run.loop ?_))
      have hH93 : Has (ro (frozen M)) M90 [.vec 44 5 ([] : List S_api_Candidate).length .nils (([] : List S_api_Candidate).flatMap enc44), .obj b90 (.loop ⟨.ready, none, 73, 21, treeOf [(4, (.ptr b59 0)), (5, (.ptr b79 0)), (10, (.fn (.func 84) [] [(.ptr b85 0), (.ptr b88 0), (.ptr b82 0)]))], [11], (atC Try.prog 73 [1, 1, 0, 0]), (atC Try.prog 73 [1, 1, 0, 1]), b91⟩), .obj b91 .defd, .obj b88 (.row 33 .whole [s1]), .obj b85 (.row 33 .whole [s0]), .obj b82 (.row 80 .whole [(.int .i64 a2), (.int .i64 a3), (.int .i64 a4)]), .obj b79 (.row 83 .whole [(.yield b76)]), .obj b76 (.loop ⟨.ready, none, 72, 16, treeOf [(2, (.ptr b66 0)), (3, (.ptr b74 0)), (5, (.fn (.func 73) [] [(.ptr b45 0), (.ptr b48 0), (.ptr b51 0), (.ptr b59 0)]))], [6], (atC Try.prog 72 [1, 1, 0, 0]), (atC Try.prog 72 [1, 1, 0, 1]), b77⟩), .obj b77 .defd, .obj b74 (.row 83 .whole [(.yield b71)]), .obj b71 (.loop ⟨.ready, none, 71, 13, treeOf [(2, (.ptr b69 0)), (4, .nils), (6, (.fn (.func 72) [] [(.ptr b63 0), (.ptr b66 0)]))], [7], (atC Try.prog 71 [1, 0, 1, 0, 0]), (atC Try.prog 71 [1, 0, 1, 0, 1]), b72⟩), .obj b72 .defd, .obj b69 (.row 36 .whole [.nils]), .obj b66 (.row 83 .whole [(.fn (.func 40) [] [(.ptr b22 0)])]), .obj b63 (.row 86 .whole [(.fn (.func 73) [] [(.ptr b45 0), (.ptr b48 0), (.ptr b51 0), (.ptr b59 0)])]), .obj b59 (.row 22 .whole [s55_0]), .vec 3 1 r55.length s55_0 (r55.flatMap enc3), .obj b51 (.row 33 .whole [s1]), .obj b48 (.row 33 .whole [s0]), .obj b45 (.row 80 .whole [(.int .i64 a2), (.int .i64 a3), (.int .i64 a4)]), .vec 33 1 ([a0, a1] : List (List S_api_Trigger)).length s29 [s0, s1], .obj b25 (.row 80 .whole [(.int .i64 a2), (.int .i64 a3), (.int .i64 a4)]), .obj b22 (.row 3 .whole [(.int .i64 a5)])] := hH90.nils 44 5
      exact Run.low (.cons (fle_pick [] rfl) (.cons (fle_pick [] rfl) (.cons (fle_pick [2] rfl) (.cons (fle_pick [] rfl) (.cons (fle_pick [] rfl) .nil))))) (Run.pick [0, 2, 3, 10, 11, 12] (search_Candidates_1_ok F F a0 (a0.length : Int) (0 : Int) a5 (S_search_clock.mk a2 a3 a4) a0 a1 a0 a1 (S_search_clock.mk a2 a3 a4) r55 ([] : List S_api_Candidate) s0 s0 s1 s0 s1 b90 b59 s55_0 b79 b76 b66 b22 b74 b71 b69 .nils b63 b45 b48 b51 b72 b77 b85 b88 b82 b91 _ _ _ hs0 hs0 hs1 hs0 hs1 (hH93.pick [1, 15, 16, 6, 7, 13, 22, 9, 10, 12, 0, 14, 19, 18, 17, 11, 8, 4, 3, 5, 2] rfl rfl) h))

theorem mkk14 : makeK Try.prog 14 = none := by kernel_rfl
theorem cal14 : callable Try.prog 14 = true := by kernel_rfl
theorem lenk36 : lenK Try.prog 36 = some .sl := by kernel_rfl
theorem mkk12 : makeK Try.prog 12 = none := by kernel_rfl
theorem cal12 : callable Try.prog 12 = true := by kernel_rfl
def enc40 (a : S_api_Pair) : List SV := [(.int .i64 a.A), (.int .i64 a.B), (.int .i64 a.Loud)]
theorem enc40_len (a : S_api_Pair) : (enc40 a).length = 3 := rfl
theorem enc40_ones (a : S_api_Pair) : ones (enc40 a) = true := rfl
theorem mkk50 : makeK Try.prog 50 = none := by kernel_rfl
theorem cal50 : callable Try.prog 50 = true := by kernel_rfl
theorem mkk83 : makeK Try.prog 83 = none := by kernel_rfl
theorem cal83 : callable Try.prog 83 = true := by kernel_rfl
theorem agg52 : aggSize Try.prog 52 = some none := by kernel_rfl
theorem elt52 : sliceElt Try.prog 52 = some (⟨3, 24, [(.int .i64 0), (.int .i64 0), (.int .i64 0)], 40⟩ : Elt) := by kernel_rfl
theorem appt52_52 : appT Try.prog 52 52 = some (⟨3, 24, [(.int .i64 0), (.int .i64 0), (.int .i64 0)], 40⟩ : Elt) := by kernel_rfl
theorem sz52 : szOf Try.prog 52 = some 1 := by kernel_rfl
abbrev search_Coincide_post (r : (List S_api_Pair) × Int) : SV → Mem → Prop := fun s Me => ∃ q1, s = (.tuple [q1, (.int .i64 r.2)]) ∧ Has (fun _ => none) Me [.vec 40 3 r.1.length q1 (r.1.flatMap enc40)]

def search_Coincide_4 (F : Nat) (hd2 : Int → (List S_api_Trigger) → Int → Int → (List S_api_Trigger) → Int → Int → (List S_api_Trigger) → (List S_api_Trigger) → S_search_clock → S_api_Trigger → (List S_api_Pair) → Option ((List S_api_Pair) × Int)) (v5 : Int) (v10 : (List S_api_Trigger)) (v11 v12 : Int) (v17 : (List S_api_Trigger)) (v18 v19 : Int) (v53 : Bool) (c38_0 c41_0 : (List S_api_Trigger)) (c35 : S_search_clock) (c54 : S_api_Trigger) (l79 : (List S_api_Pair)) : Option ((List S_api_Pair) × Int) :=
  bif v53 then
    some (l79, (0 : Int))
  else
    hd2 v5 v10 v11 v12 v17 v18 (w64 (v19 + (1 : Int))) c38_0 c41_0 c35 c54 l79

theorem search_Coincide_4_ok (F : Nat) (hd2 : Int → (List S_api_Trigger) → Int → Int → (List S_api_Trigger) → Int → Int → (List S_api_Trigger) → (List S_api_Trigger) → S_search_clock → S_api_Trigger → (List S_api_Pair) → Option ((List S_api_Pair) × Int)) (hhd2 : ∀ (v5 : Int) (v10 : (List S_api_Trigger)) (v11 v12 : Int) (v17 : (List S_api_Trigger)) (v18 v19 : Int) (c38_0 c41_0 : (List S_api_Trigger)) (c35 : S_search_clock) (c54 : S_api_Trigger) (l48 : (List S_api_Pair)) (sv10 sv17 sc38_0 sc41_0 : SV) (b46 b44 : Pos) (s48 : SV) (b38 b41 b35 b47 b54 : Pos) (Fr : Rd) (M : Mem) (r : (List S_api_Pair) × Int) (hv10 : Slc Fr 3 (FlatR enc73) sv10 v10) (hv17 : Slc Fr 3 (FlatR enc73) sv17 v17) (hc38_0 : Slc Fr 3 (FlatR enc73) sc38_0 c38_0) (hc41_0 : Slc Fr 3 (FlatR enc73) sc41_0 c41_0) (hH : Has Fr M [.obj b46 (.loop ⟨.ready, none, 83, 13, treeOf [(2, (.ptr b44 0)), (4, .nils), (6, (.fn (.func 84) [] [(.ptr b38 0), (.ptr b41 0), (.ptr b35 0)]))], [7], (atC Try.prog 83 [1, 0, 1, 0, 0]), (atC Try.prog 83 [1, 0, 1, 0, 1]), b47⟩), .obj b44 (.row 52 .whole [s48]), .vec 40 3 l48.length s48 (l48.flatMap enc40), .obj b38 (.row 33 .whole [sc38_0]), .obj b41 (.row 33 .whole [sc41_0]), .obj b35 (.row 80 .whole [(.int .i64 c35.live), (.int .i64 c35.window), (.int .i64 c35.step)]), .obj b47 .defd, .obj b54 (.row 73 .whole [(.int .i64 c54.Time), (.int .i64 c54.Loud), (.int .i64 c54.Template)])]), hd2 v5 v10 v11 v12 v17 v18 v19 c38_0 c41_0 c35 c54 l48 = some r → Run Try.prog ⟨⟨84, [], none⟩, [.mk ⟨83, [b47], none⟩ 13 (treeOf [(2, (.ptr b44 0))]) [.inRange b46, .inBlock 0, codeC Try.prog 83 [1, 1]], .mk ⟨50, [], none⟩ 5 (treeOf []) [itemC Try.prog 50 [1, 0] 1, codeC Try.prog 50 [1, 1]], .mk ⟨20, [], none⟩ 29 (treeOf []) [itemC Try.prog 20 [1, 1, 1, 0] 4, codeC Try.prog 20 [1, 1, 1, 1]]]⟩ 56 (search_Coincide_post r) [(0, (.yield b46)), (2, (.ptr b41 0)), (3, (.ptr b35 0)), (5, (.int .i64 v5)), (6, (.ptr b54 0)), (10, sv10), (11, (.int .i64 v11)), (12, (.int .i64 v12)), (17, sv17), (18, (.int .i64 v18)), (19, (.int .i64 v19))] [codeC Try.prog 84 [1, 0, 0, 1, 1, 0, 0, 1, 1, 0, 0], loopC Try.prog 84 [1, 0, 0, 1, 1, 0, 0, 1, 1, 0, 0], .inBlock 2, .inBlock 1, codeC Try.prog 84 [1, 0, 0, 1, 1, 1], loopC Try.prog 84 [1, 0, 0], .inBlock 0] M) : ∀ (v5 : Int) (v10 : (List S_api_Trigger)) (v11 v12 : Int) (v17 : (List S_api_Trigger)) (v18 v19 : Int) (v53 : Bool) (c38_0 c41_0 : (List S_api_Trigger)) (c35 : S_search_clock) (c54 : S_api_Trigger) (l79 : (List S_api_Pair)) (sv10 sv17 sc38_0 sc41_0 : SV) (b46 b44 : Pos) (s79 : SV) (b38 b41 b35 b47 b54 : Pos) (Fr : Rd) (M : Mem) (r : (List S_api_Pair) × Int) (hv10 : Slc Fr 3 (FlatR enc73) sv10 v10) (hv17 : Slc Fr 3 (FlatR enc73) sv17 v17) (hc38_0 : Slc Fr 3 (FlatR enc73) sc38_0 c38_0) (hc41_0 : Slc Fr 3 (FlatR enc73) sc41_0 c41_0) (hH : Has Fr M [.obj b46 (.loop ⟨.ready, none, 83, 13, treeOf [(2, (.ptr b44 0)), (4, .nils), (6, (.fn (.func 84) [] [(.ptr b38 0), (.ptr b41 0), (.ptr b35 0)]))], [7], (atC Try.prog 83 [1, 0, 1, 0, 0]), (atC Try.prog 83 [1, 0, 1, 0, 1]), b47⟩), .obj b44 (.row 52 .whole [s79]), .vec 40 3 l79.length s79 (l79.flatMap enc40), .obj b38 (.row 33 .whole [sc38_0]), .obj b41 (.row 33 .whole [sc41_0]), .obj b35 (.row 80 .whole [(.int .i64 c35.live), (.int .i64 c35.window), (.int .i64 c35.step)]), .obj b47 .defd, .obj b54 (.row 73 .whole [(.int .i64 c54.Time), (.int .i64 c54.Loud), (.int .i64 c54.Template)])]), search_Coincide_4 F hd2 v5 v10 v11 v12 v17 v18 v19 v53 c38_0 c41_0 c35 c54 l79 = some r → Run Try.prog ⟨⟨84, [], none⟩, [.mk ⟨83, [b47], none⟩ 13 (treeOf [(2, (.ptr b44 0))]) [.inRange b46, .inBlock 0, codeC Try.prog 83 [1, 1]], .mk ⟨50, [], none⟩ 5 (treeOf []) [itemC Try.prog 50 [1, 0] 1, codeC Try.prog 50 [1, 1]], .mk ⟨20, [], none⟩ 29 (treeOf []) [itemC Try.prog 20 [1, 1, 1, 0] 4, codeC Try.prog 20 [1, 1, 1, 1]]]⟩ 56 (search_Coincide_post r) [(0, (.yield b46)), (2, (.ptr b41 0)), (3, (.ptr b35 0)), (5, (.int .i64 v5)), (6, (.ptr b54 0)), (10, sv10), (11, (.int .i64 v11)), (12, (.int .i64 v12)), (17, sv17), (18, (.int .i64 v18)), (19, (.int .i64 v19)), (53, (.bool v53))] [codeC Try.prog 84 [1, 0, 0, 1, 1, 0, 0, 1, 1, 0, 0, 1, 1, 0, 0, 1, 1, 1], .inBlock 3, codeC Try.prog 84 [1, 0, 0, 1, 1, 0, 0, 1, 1, 0, 0, 1, 1, 1], loopC Try.prog 84 [1, 0, 0, 1, 1, 0, 0, 1, 1, 0, 0], .inBlock 2, .inBlock 1, codeC Try.prog 84 [1, 0, 0, 1, 1, 1], loopC Try.prog 84 [1, 0, 0], .inBlock 0] M := by
  intro v5 v10 v11 v12 v17 v18 v19 v53 c38_0 c41_0 c35 c54 l79 sv10 sv17 sc38_0 sc41_0 b46 b44 s79 b38 b41 b35 b47 b54 Fr M r hv10 hv17 hc38_0 hc41_0 hH h
  rw [search_Coincide_4] at h
  rcases btf (v53) with hc83 | hc83
  · have h := bif_t hc83 h
    refine Run.condT' rfl hc83 ?_
    refine Run.retRange Try.func84 rfl res_nil ?_
    refine Run.endX hH (i := 0) rfl (fun hc => by cases hc) ?_
    intro M84 (hH84 : Has Fr M84 [.obj b46 (.loop ⟨.exhausted, none, 83, 13, treeOf [(2, (.ptr b44 0)), (4, .nils), (6, (.fn (.func 84) [] [(.ptr b38 0), (.ptr b41 0), (.ptr b35 0)]))], [7], (atC Try.prog 83 [1, 0, 1, 0, 0]), (atC Try.prog 83 [1, 0, 1, 0, 1]), b47⟩), .obj b44 (.row 52 .whole [s79]), .vec 40 3 l79.length s79 (l79.flatMap enc40), .obj b38 (.row 33 .whole [sc38_0]), .obj b41 (.row 33 .whole [sc41_0]), .obj b35 (.row 80 .whole [(.int .i64 c35.live), (.int .i64 c35.window), (.int .i64 c35.step)]), .obj b47 .defd, .obj b54 (.row 73 .whole [(.int .i64 c54.Time), (.int .i64 c54.Loud), (.int .i64 c54.Template)])])
    refine Run.inBlock (Run.seq (Run.region ?_))
    refine Run.opG wantS_none (ex_load1 rfl (hH84.cells (i := 1) rfl 0 rfl) rdLe_rfl agg52) rfl ?_
    refine Run.opG wantS_none (ex_assign rfl) rfl ?_
    refine Run.opsEnd ?_
    obtain ⟨hH85x, hS85⟩ := hH84.shut (i := 6) (ds := []) rfl
    have hH85 : Has Fr (setT M84 b47 none) [.obj b46 (.loop ⟨.exhausted, none, 83, 13, treeOf [(2, (.ptr b44 0)), (4, .nils), (6, (.fn (.func 84) [] [(.ptr b38 0), (.ptr b41 0), (.ptr b35 0)]))], [7], (atC Try.prog 83 [1, 0, 1, 0, 0]), (atC Try.prog 83 [1, 0, 1, 0, 1]), b47⟩), .obj b44 (.row 52 .whole [s79]), .vec 40 3 l79.length s79 (l79.flatMap enc40), .obj b38 (.row 33 .whole [sc38_0]), .obj b41 (.row 33 .whole [sc41_0]), .obj b35 (.row 80 .whole [(.int .i64 c35.live), (.int .i64 c35.window), (.int .i64 c35.step)]), .vec 0 0 0 .nils [], .obj b54 (.row 73 .whole [(.int .i64 c54.Time), (.int .i64 c54.Loud), (.int .i64 c54.Template)])] := hH85x
    refine Run.retTo Try.func83 (hS85 _ rfl) (res_tmp rfl res_nil) rfl ?_
    refine Run.opG wantS_none (ex_assign rfl) rfl ?_
    refine Run.opsEnd ?_
    refine Run.retTo Try.func50 rfl (res_tmp rfl res_nil) rfl ?_
    refine Run.opG wantS_none (ex_assign rfl) rfl ?_
    refine Run.opG wantS_none (ex_assign rfl) rfl ?_
    refine Run.opsEnd ?_
    cases h
    exact Run.ret Try.func20 rfl (res_tmp rfl (res_tmp rfl res_nil)) ⟨_, rfl, (hH85.pick [2] rfl rfl).upF (none_le _)⟩
  · have h := bif_f hc83 h
    refine Run.condF' rfl hc83 ?_
    refine Run.skip (Run.inBlock (Run.region ?_))
    refine Run.opG wantS_none (ex_add rfl rfl) rfl ?_
    refine Run.opG wantS_none (ex_move rfl) rfl ?_
    refine Run.opsEnd (Run.inLoop ?_)
    exact Run.low (.cons (fle_pick [2] rfl) (.cons (fle_pick [] rfl) (.cons (fle_pick [] rfl) .nil))) (Run.pick [0, 2, 3, 5, 6, 10, 11, 12, 17, 18, 19] (hhd2 v5 v10 v11 v12 v17 v18 (w64 (v19 + (1 : Int))) c38_0 c41_0 c35 c54 l79 sv10 sv17 sc38_0 sc41_0 b46 b44 s79 b38 b41 b35 b47 b54 _ _ _ hv10 hv17 hc38_0 hc41_0 hH h))

def search_Coincide_3 (F : Nat) (hd2 : Int → (List S_api_Trigger) → Int → Int → (List S_api_Trigger) → Int → Int → (List S_api_Trigger) → (List S_api_Trigger) → S_search_clock → S_api_Trigger → (List S_api_Pair) → Option ((List S_api_Pair) × Int)) (v5 v7 : Int) (v9 : Bool) (v10 : (List S_api_Trigger)) (v11 v12 : Int) (v17 : (List S_api_Trigger)) (v18 v19 : Int) (c38_0 c41_0 : (List S_api_Trigger)) (c35 : S_search_clock) (c54 c61 : S_api_Trigger) (l48 : (List S_api_Pair)) : Option ((List S_api_Pair) × Int) :=
  bif v9 then
    bnd (apd 24 l48 ([(S_api_Pair.mk v5 v7 (w64 (c54.Loud + c61.Loud)))] : List S_api_Pair)) fun l78 =>
    search_Coincide_4 F hd2 v5 v10 v11 v12 v17 v18 v19 (!true) c38_0 c41_0 c35 c54 l78
  else
    search_Coincide_4 F hd2 v5 v10 v11 v12 v17 v18 v19 false c38_0 c41_0 c35 c54 l48

theorem search_Coincide_3_ok (F : Nat) (hd2 : Int → (List S_api_Trigger) → Int → Int → (List S_api_Trigger) → Int → Int → (List S_api_Trigger) → (List S_api_Trigger) → S_search_clock → S_api_Trigger → (List S_api_Pair) → Option ((List S_api_Pair) × Int)) (hhd2 : ∀ (v5 : Int) (v10 : (List S_api_Trigger)) (v11 v12 : Int) (v17 : (List S_api_Trigger)) (v18 v19 : Int) (c38_0 c41_0 : (List S_api_Trigger)) (c35 : S_search_clock) (c54 : S_api_Trigger) (l48 : (List S_api_Pair)) (sv10 sv17 sc38_0 sc41_0 : SV) (b46 b44 : Pos) (s48 : SV) (b38 b41 b35 b47 b54 : Pos) (Fr : Rd) (M : Mem) (r : (List S_api_Pair) × Int) (hv10 : Slc Fr 3 (FlatR enc73) sv10 v10) (hv17 : Slc Fr 3 (FlatR enc73) sv17 v17) (hc38_0 : Slc Fr 3 (FlatR enc73) sc38_0 c38_0) (hc41_0 : Slc Fr 3 (FlatR enc73) sc41_0 c41_0) (hH : Has Fr M [.obj b46 (.loop ⟨.ready, none, 83, 13, treeOf [(2, (.ptr b44 0)), (4, .nils), (6, (.fn (.func 84) [] [(.ptr b38 0), (.ptr b41 0), (.ptr b35 0)]))], [7], (atC Try.prog 83 [1, 0, 1, 0, 0]), (atC Try.prog 83 [1, 0, 1, 0, 1]), b47⟩), .obj b44 (.row 52 .whole [s48]), .vec 40 3 l48.length s48 (l48.flatMap enc40), .obj b38 (.row 33 .whole [sc38_0]), .obj b41 (.row 33 .whole [sc41_0]), .obj b35 (.row 80 .whole [(.int .i64 c35.live), (.int .i64 c35.window), (.int .i64 c35.step)]), .obj b47 .defd, .obj b54 (.row 73 .whole [(.int .i64 c54.Time), (.int .i64 c54.Loud), (.int .i64 c54.Template)])]), hd2 v5 v10 v11 v12 v17 v18 v19 c38_0 c41_0 c35 c54 l48 = some r → Run Try.prog ⟨⟨84, [], none⟩, [.mk ⟨83, [b47], none⟩ 13 (treeOf [(2, (.ptr b44 0))]) [.inRange b46, .inBlock 0, codeC Try.prog 83 [1, 1]], .mk ⟨50, [], none⟩ 5 (treeOf []) [itemC Try.prog 50 [1, 0] 1, codeC Try.prog 50 [1, 1]], .mk ⟨20, [], none⟩ 29 (treeOf []) [itemC Try.prog 20 [1, 1, 1, 0] 4, codeC Try.prog 20 [1, 1, 1, 1]]]⟩ 56 (search_Coincide_post r) [(0, (.yield b46)), (2, (.ptr b41 0)), (3, (.ptr b35 0)), (5, (.int .i64 v5)), (6, (.ptr b54 0)), (10, sv10), (11, (.int .i64 v11)), (12, (.int .i64 v12)), (17, sv17), (18, (.int .i64 v18)), (19, (.int .i64 v19))] [codeC Try.prog 84 [1, 0, 0, 1, 1, 0, 0, 1, 1, 0, 0], loopC Try.prog 84 [1, 0, 0, 1, 1, 0, 0, 1, 1, 0, 0], .inBlock 2, .inBlock 1, codeC Try.prog 84 [1, 0, 0, 1, 1, 1], loopC Try.prog 84 [1, 0, 0], .inBlock 0] M) : ∀ (v5 v7 : Int) (v9 : Bool) (v10 : (List S_api_Trigger)) (v11 v12 : Int) (v17 : (List S_api_Trigger)) (v18 v19 : Int) (c38_0 c41_0 : (List S_api_Trigger)) (c35 : S_search_clock) (c54 c61 : S_api_Trigger) (l48 : (List S_api_Pair)) (sv10 sv17 sc38_0 sc41_0 : SV) (b46 b44 : Pos) (s48 : SV) (b38 b41 b35 b47 b54 b61 : Pos) (Fr : Rd) (M : Mem) (r : (List S_api_Pair) × Int) (hv10 : Slc Fr 3 (FlatR enc73) sv10 v10) (hv17 : Slc Fr 3 (FlatR enc73) sv17 v17) (hc38_0 : Slc Fr 3 (FlatR enc73) sc38_0 c38_0) (hc41_0 : Slc Fr 3 (FlatR enc73) sc41_0 c41_0) (hH : Has Fr M [.obj b46 (.loop ⟨.ready, none, 83, 13, treeOf [(2, (.ptr b44 0)), (4, .nils), (6, (.fn (.func 84) [] [(.ptr b38 0), (.ptr b41 0), (.ptr b35 0)]))], [7], (atC Try.prog 83 [1, 0, 1, 0, 0]), (atC Try.prog 83 [1, 0, 1, 0, 1]), b47⟩), .obj b44 (.row 52 .whole [s48]), .vec 40 3 l48.length s48 (l48.flatMap enc40), .obj b38 (.row 33 .whole [sc38_0]), .obj b41 (.row 33 .whole [sc41_0]), .obj b35 (.row 80 .whole [(.int .i64 c35.live), (.int .i64 c35.window), (.int .i64 c35.step)]), .obj b47 .defd, .obj b54 (.row 73 .whole [(.int .i64 c54.Time), (.int .i64 c54.Loud), (.int .i64 c54.Template)]), .obj b61 (.row 73 .whole [(.int .i64 c61.Time), (.int .i64 c61.Loud), (.int .i64 c61.Template)])]), search_Coincide_3 F hd2 v5 v7 v9 v10 v11 v12 v17 v18 v19 c38_0 c41_0 c35 c54 c61 l48 = some r → Run Try.prog ⟨⟨84, [], none⟩, [.mk ⟨83, [b47], none⟩ 13 (treeOf [(2, (.ptr b44 0))]) [.inRange b46, .inBlock 0, codeC Try.prog 83 [1, 1]], .mk ⟨50, [], none⟩ 5 (treeOf []) [itemC Try.prog 50 [1, 0] 1, codeC Try.prog 50 [1, 1]], .mk ⟨20, [], none⟩ 29 (treeOf []) [itemC Try.prog 20 [1, 1, 1, 0] 4, codeC Try.prog 20 [1, 1, 1, 1]]]⟩ 56 (search_Coincide_post r) [(0, (.yield b46)), (2, (.ptr b41 0)), (3, (.ptr b35 0)), (5, (.int .i64 v5)), (6, (.ptr b54 0)), (7, (.int .i64 v7)), (8, (.ptr b61 0)), (9, (.bool v9)), (10, sv10), (11, (.int .i64 v11)), (12, (.int .i64 v12)), (17, sv17), (18, (.int .i64 v18)), (19, (.int .i64 v19))] [itemC Try.prog 84 [1, 0, 0, 1, 1, 0, 0, 1, 1, 0, 0, 1, 1, 0, 0, 1, 1, 0] 0, codeC Try.prog 84 [1, 0, 0, 1, 1, 0, 0, 1, 1, 0, 0, 1, 1, 0, 0, 1, 1, 1], .inBlock 3, codeC Try.prog 84 [1, 0, 0, 1, 1, 0, 0, 1, 1, 0, 0, 1, 1, 1], loopC Try.prog 84 [1, 0, 0, 1, 1, 0, 0, 1, 1, 0, 0], .inBlock 2, .inBlock 1, codeC Try.prog 84 [1, 0, 0, 1, 1, 1], loopC Try.prog 84 [1, 0, 0], .inBlock 0] M := by
  intro v5 v7 v9 v10 v11 v12 v17 v18 v19 c38_0 c41_0 c35 c54 c61 l48 sv10 sv17 sc38_0 sc41_0 b46 b44 s48 b38 b41 b35 b47 b54 b61 Fr M r hv10 hv17 hc38_0 hc41_0 hH h
  rw [search_Coincide_3] at h
  refine Run.opG wantS_none (ex_move rfl) rfl ?_
  refine Run.opG wantS_none (ex_move rfl) rfl ?_
  rcases btf (v9) with hc67 | hc67
  · have h := bif_t hc67 h
    refine Run.opG (wantS_yes' rfl rfl hc67) (ex_move rfl) rfl ?_
    refine Run.opG (wantS_yes' rfl rfl hc67) (ex_move rfl) rfl ?_
    refine Run.opG (wantS_yes' rfl rfl hc67) (ex_move rfl) rfl ?_
    refine Run.opG (wantS_yes' rfl rfl hc67) (ex_fieldAddr rfl off73_1) rfl ?_
    refine Run.opG (wantS_yes' rfl rfl hc67) (ex_load1 rfl (hH.cells (i := 7) rfl 1 rfl) rdLe_rfl agg3) rfl ?_
    refine Run.opG (wantS_yes' rfl rfl hc67) (ex_fieldAddr rfl off73_1) rfl ?_
    refine Run.opG (wantS_yes' rfl rfl hc67) (ex_load1 rfl (hH.cells (i := 8) rfl 1 rfl) rdLe_rfl agg3) rfl ?_
    refine Run.opG (wantS_yes' rfl rfl hc67) (ex_add rfl rfl) rfl ?_
    refine Run.opG (wantS_yes' rfl rfl hc67) (ex_build (r := [(.int .i64 v5), (.int .i64 v7), (.int .i64 (w64 (c54.Loud + c61.Loud)))]) rfl zer40 pls40 rfl) rfl ?_
    refine Run.round (e' := [(7, (.agg [(.int .i64 v5), (.int .i64 v7), (.int .i64 (w64 (c54.Loud + c61.Loud)))])), (2, (.ptr b44 0)), (4, .nils), (6, (.fn (.func 84) [] [(.ptr b38 0), (.ptr b41 0), (.ptr b35 0)]))]) (wantS_yes' rfl rfl hc67) (ex_yield hH (i := 0) rfl rfl rfl rfl) (hH.loopOf (i := 0) rfl) rfl ?_
    refine Run.region ?_
    refine Run.opX wantS_none rfl (ExG.new (v := fun b => .ptr b 0) (ex_alloc zer40) hH) ?_
    rintro _ M70 ⟨b69, rfl, hH70⟩
    refine Run.opX wantS_none rfl (ExG.storeC (c' := [(.int .i64 v5), (.int .i64 v7), (.int .i64 (w64 (c54.Loud + c61.Loud)))]) rfl rfl rfl hH70 (i := 0) rfl sz40 rfl rfl rfl rfl rfl) ?_
    rintro _ M71 ⟨rfl, (hH71 : Has Fr M71 [.obj b69 (.row 40 .whole [(.int .i64 v5), (.int .i64 v7), (.int .i64 (w64 (c54.Loud + c61.Loud)))]), .obj b46 (.loop ⟨.ready, none, 83, 13, treeOf [(2, (.ptr b44 0)), (4, .nils), (6, (.fn (.func 84) [] [(.ptr b38 0), (.ptr b41 0), (.ptr b35 0)]))], [7], (atC Try.prog 83 [1, 0, 1, 0, 0]), (atC Try.prog 83 [1, 0, 1, 0, 1]), b47⟩), .obj b44 (.row 52 .whole [s48]), .vec 40 3 l48.length s48 (l48.flatMap enc40), .obj b38 (.row 33 .whole [sc38_0]), .obj b41 (.row 33 .whole [sc41_0]), .obj b35 (.row 80 .whole [(.int .i64 c35.live), (.int .i64 c35.window), (.int .i64 c35.step)]), .obj b47 .defd, .obj b54 (.row 73 .whole [(.int .i64 c54.Time), (.int .i64 c54.Loud), (.int .i64 c54.Template)]), .obj b61 (.row 73 .whole [(.int .i64 c61.Time), (.int .i64 c61.Loud), (.int .i64 c61.Template)])])⟩
    refine Run.opsEnd ?_
    refine Run.beginX hH71 (i := 1) rfl rfl ?_
    intro M72 (hH72 : Has Fr M72 [.obj b69 (.row 40 .whole [(.int .i64 v5), (.int .i64 v7), (.int .i64 (w64 (c54.Loud + c61.Loud)))]), .obj b46 (.loop ⟨.busy, none, 83, 13, treeOf [(2, (.ptr b44 0)), (4, .nils), (6, (.fn (.func 84) [] [(.ptr b38 0), (.ptr b41 0), (.ptr b35 0)]))], [7], (atC Try.prog 83 [1, 0, 1, 0, 0]), (atC Try.prog 83 [1, 0, 1, 0, 1]), b47⟩), .obj b44 (.row 52 .whole [s48]), .vec 40 3 l48.length s48 (l48.flatMap enc40), .obj b38 (.row 33 .whole [sc38_0]), .obj b41 (.row 33 .whole [sc41_0]), .obj b35 (.row 80 .whole [(.int .i64 c35.live), (.int .i64 c35.window), (.int .i64 c35.step)]), .obj b47 .defd, .obj b54 (.row 73 .whole [(.int .i64 c54.Time), (.int .i64 c54.Loud), (.int .i64 c54.Template)]), .obj b61 (.row 73 .whole [(.int .i64 c61.Time), (.int .i64 c61.Loud), (.int .i64 c61.Template)])])
    refine Run.block (Run.region ?_)
    refine Run.opG wantS_none (ex_load1 rfl (hH72.cells (i := 2) rfl 0 rfl) rdLe_rfl agg52) rfl ?_
    refine Run.opG wantS_none (ex_loadA rfl (hH72.cells (i := 0) rfl 0 rfl) rdLe_rfl agg40 rfl rfl rfl) rfl ?_
    refine Run.opX wantS_none rfl (ExG.built (enc := enc40) (l := ([(S_api_Pair.mk v5 v7 (w64 (c54.Loud + c61.Loud)))] : List S_api_Pair)) (z := 3) rfl elt52 rfl rfl rfl enc40_len hH72) ?_
    rintro s74 M75 (hH75 : Has Fr M75 [.vec 40 3 ([(S_api_Pair.mk v5 v7 (w64 (c54.Loud + c61.Loud)))] : List S_api_Pair).length s74 (([(S_api_Pair.mk v5 v7 (w64 (c54.Loud + c61.Loud)))] : List S_api_Pair).flatMap enc40), .obj b69 (.row 40 .whole [(.int .i64 v5), (.int .i64 v7), (.int .i64 (w64 (c54.Loud + c61.Loud)))]), .obj b46 (.loop ⟨.busy, none, 83, 13, treeOf [(2, (.ptr b44 0)), (4, .nils), (6, (.fn (.func 84) [] [(.ptr b38 0), (.ptr b41 0), (.ptr b35 0)]))], [7], (atC Try.prog 83 [1, 0, 1, 0, 0]), (atC Try.prog 83 [1, 0, 1, 0, 1]), b47⟩), .obj b44 (.row 52 .whole [s48]), .vec 40 3 l48.length s48 (l48.flatMap enc40), .obj b38 (.row 33 .whole [sc38_0]), .obj b41 (.row 33 .whole [sc41_0]), .obj b35 (.row 80 .whole [(.int .i64 c35.live), (.int .i64 c35.window), (.int .i64 c35.step)]), .obj b47 .defd, .obj b54 (.row 73 .whole [(.int .i64 c54.Time), (.int .i64 c54.Loud), (.int .i64 c54.Template)]), .obj b61 (.row 73 .whole [(.int .i64 c61.Time), (.int .i64 c61.Loud), (.int .i64 c61.Template)])])
    obtain ⟨l78, hl78, h⟩ := bnd_some h
    refine Run.opX wantS_none rfl (ExG.append rfl rfl hH75 (i := 4) rfl enc40_len rfl enc40_ones appt52_52 rfl (len_slc (hH75.slc (i := 0) rfl enc40_len)) (first_slc (hH75.slc (i := 0) rfl enc40_len) (rdLe_rdRow _) enc40_len) hl78) ?_
    rintro s78 M80 (hH80 : Has Fr M80 [.vec 40 3 ([(S_api_Pair.mk v5 v7 (w64 (c54.Loud + c61.Loud)))] : List S_api_Pair).length s74 (([(S_api_Pair.mk v5 v7 (w64 (c54.Loud + c61.Loud)))] : List S_api_Pair).flatMap enc40), .obj b69 (.row 40 .whole [(.int .i64 v5), (.int .i64 v7), (.int .i64 (w64 (c54.Loud + c61.Loud)))]), .obj b46 (.loop ⟨.busy, none, 83, 13, treeOf [(2, (.ptr b44 0)), (4, .nils), (6, (.fn (.func 84) [] [(.ptr b38 0), (.ptr b41 0), (.ptr b35 0)]))], [7], (atC Try.prog 83 [1, 0, 1, 0, 0]), (atC Try.prog 83 [1, 0, 1, 0, 1]), b47⟩), .obj b44 (.row 52 .whole [s48]), .vec 40 3 l78.length s78 (l78.flatMap enc40), .obj b38 (.row 33 .whole [sc38_0]), .obj b41 (.row 33 .whole [sc41_0]), .obj b35 (.row 80 .whole [(.int .i64 c35.live), (.int .i64 c35.window), (.int .i64 c35.step)]), .obj b47 .defd, .obj b54 (.row 73 .whole [(.int .i64 c54.Time), (.int .i64 c54.Loud), (.int .i64 c54.Template)]), .obj b61 (.row 73 .whole [(.int .i64 c61.Time), (.int .i64 c61.Loud), (.int .i64 c61.Template)])])
    refine Run.opX wantS_none rfl (ExG.storeC (c' := [s78]) rfl rfl (cells_one (vec_one hH80 (i := 4) rfl)) hH80 (i := 3) rfl sz52 rfl rfl rfl (ones_cons (vec_one hH80 (i := 4) rfl) ones_nil) rfl) ?_
    rintro _ M81 ⟨rfl, (hH81 : Has Fr M81 [.vec 40 3 ([(S_api_Pair.mk v5 v7 (w64 (c54.Loud + c61.Loud)))] : List S_api_Pair).length s74 (([(S_api_Pair.mk v5 v7 (w64 (c54.Loud + c61.Loud)))] : List S_api_Pair).flatMap enc40), .obj b69 (.row 40 .whole [(.int .i64 v5), (.int .i64 v7), (.int .i64 (w64 (c54.Loud + c61.Loud)))]), .obj b46 (.loop ⟨.busy, none, 83, 13, treeOf [(2, (.ptr b44 0)), (4, .nils), (6, (.fn (.func 84) [] [(.ptr b38 0), (.ptr b41 0), (.ptr b35 0)]))], [7], (atC Try.prog 83 [1, 0, 1, 0, 0]), (atC Try.prog 83 [1, 0, 1, 0, 1]), b47⟩), .obj b44 (.row 52 .whole [s78]), .vec 40 3 l78.length s78 (l78.flatMap enc40), .obj b38 (.row 33 .whole [sc38_0]), .obj b41 (.row 33 .whole [sc41_0]), .obj b35 (.row 80 .whole [(.int .i64 c35.live), (.int .i64 c35.window), (.int .i64 c35.step)]), .obj b47 .defd, .obj b54 (.row 73 .whole [(.int .i64 c54.Time), (.int .i64 c54.Loud), (.int .i64 c54.Template)]), .obj b61 (.row 73 .whole [(.int .i64 c61.Time), (.int .i64 c61.Loud), (.int .i64 c61.Template)])])⟩
    refine Run.opsEnd (Run.inBlock ?_)
    refine Run.roundEndX hH81 (i := 2) rfl rfl ?_
    intro M82 (hH82 : Has Fr M82 [.vec 40 3 ([(S_api_Pair.mk v5 v7 (w64 (c54.Loud + c61.Loud)))] : List S_api_Pair).length s74 (([(S_api_Pair.mk v5 v7 (w64 (c54.Loud + c61.Loud)))] : List S_api_Pair).flatMap enc40), .obj b69 (.row 40 .whole [(.int .i64 v5), (.int .i64 v7), (.int .i64 (w64 (c54.Loud + c61.Loud)))]), .obj b46 (.loop ⟨.ready, none, 83, 13, treeOf [(2, (.ptr b44 0)), (4, .nils), (6, (.fn (.func 84) [] [(.ptr b38 0), (.ptr b41 0), (.ptr b35 0)]))], [7], (atC Try.prog 83 [1, 0, 1, 0, 0]), (atC Try.prog 83 [1, 0, 1, 0, 1]), b47⟩), .obj b44 (.row 52 .whole [s78]), .vec 40 3 l78.length s78 (l78.flatMap enc40), .obj b38 (.row 33 .whole [sc38_0]), .obj b41 (.row 33 .whole [sc41_0]), .obj b35 (.row 80 .whole [(.int .i64 c35.live), (.int .i64 c35.window), (.int .i64 c35.step)]), .obj b47 .defd, .obj b54 (.row 73 .whole [(.int .i64 c54.Time), (.int .i64 c54.Loud), (.int .i64 c54.Template)]), .obj b61 (.row 73 .whole [(.int .i64 c61.Time), (.int .i64 c61.Loud), (.int .i64 c61.Template)])])
    refine Run.opG (wantS_yes' rfl rfl hc67) (ex_not rfl) rfl ?_
    refine Run.opG wantS_none (ex_pickT' rfl hc67 rfl rfl) rfl ?_
    refine Run.opsEnd ?_
    exact Run.low (.cons (fle_pick [2] rfl) (.cons (fle_pick [] rfl) (.cons (fle_pick [] rfl) .nil))) (Run.pick [0, 2, 3, 5, 6, 10, 11, 12, 17, 18, 19, 53] (search_Coincide_4_ok F hd2 hhd2 v5 v10 v11 v12 v17 v18 v19 (!true) c38_0 c41_0 c35 c54 l78 sv10 sv17 sc38_0 sc41_0 b46 b44 s78 b38 b41 b35 b47 b54 _ _ _ hv10 hv17 hc38_0 hc41_0 (hH82.pick [2, 3, 4, 5, 6, 7, 8, 9] rfl rfl) h))
  · have h := bif_f hc67 h
    refine Run.no (wantS_not' rfl rfl hc67) rfl ?_
    refine Run.no (wantS_not' rfl rfl hc67) rfl ?_
    refine Run.no (wantS_not' rfl rfl hc67) rfl ?_
    refine Run.no (wantS_not' rfl rfl hc67) rfl ?_
    refine Run.no (wantS_not' rfl rfl hc67) rfl ?_
    refine Run.no (wantS_not' rfl rfl hc67) rfl ?_
    refine Run.no (wantS_not' rfl rfl hc67) rfl ?_
    refine Run.no (wantS_not' rfl rfl hc67) rfl ?_
    refine Run.no (wantS_not' rfl rfl hc67) rfl ?_
    refine Run.no (wantS_not' rfl rfl hc67) rfl ?_
    refine Run.no (wantS_not' rfl rfl hc67) rfl ?_
    refine Run.opG wantS_none (ex_pickF' rfl hc67 rfl rfl) rfl ?_
    refine Run.opsEnd ?_
    exact Run.low (.cons (fle_pick [2] rfl) (.cons (fle_pick [] rfl) (.cons (fle_pick [] rfl) .nil))) (Run.pick [0, 2, 3, 5, 6, 10, 11, 12, 17, 18, 19, 53] (search_Coincide_4_ok F hd2 hhd2 v5 v10 v11 v12 v17 v18 v19 false c38_0 c41_0 c35 c54 l48 sv10 sv17 sc38_0 sc41_0 b46 b44 s48 b38 b41 b35 b47 b54 _ _ _ hv10 hv17 hc38_0 hc41_0 (hH.pick [0, 1, 2, 3, 4, 5, 6, 7] rfl rfl) h))

def search_Coincide_2 (F : Nat) (hd1 : (List S_api_Trigger) → Int → Int → (List S_api_Trigger) → (List S_api_Trigger) → S_search_clock → (List S_api_Pair) → Option ((List S_api_Pair) × Int)) : Nat → Int → (List S_api_Trigger) → Int → Int → (List S_api_Trigger) → Int → Int → (List S_api_Trigger) → (List S_api_Trigger) → S_search_clock → S_api_Trigger → (List S_api_Pair) → Option ((List S_api_Pair) × Int)
  | 0, _, _, _, _, _, _, _, _, _, _, _, _ => none
  | N + 1, v5, v10, v11, v12, v17, v18, v19, c38_0, c41_0, c35, c54, l48 =>
    bif (decide (v19 < v18)) then
      bnd (idx v17 v19) fun x59 =>
      bif (c54.Template == x59.Template) then
        bnd (search_clock_distance F c35 c54.Time x59.Time) fun r65 =>
        search_Coincide_3 F (search_Coincide_2 F hd1 N) v5 v19 (decide (r65 ≤ c35.window)) v10 v11 v12 v17 v18 v19 c38_0 c41_0 c35 c54 x59 l48
      else
        search_Coincide_3 F (search_Coincide_2 F hd1 N) v5 v19 false v10 v11 v12 v17 v18 v19 c38_0 c41_0 c35 c54 x59 l48
    else
      hd1 v10 v11 (w64 (v12 + (1 : Int))) c38_0 c41_0 c35 l48

theorem search_Coincide_2_ok (F : Nat) (hd1 : (List S_api_Trigger) → Int → Int → (List S_api_Trigger) → (List S_api_Trigger) → S_search_clock → (List S_api_Pair) → Option ((List S_api_Pair) × Int)) (hhd1 : ∀ (v10 : (List S_api_Trigger)) (v11 v12 : Int) (c38_0 c41_0 : (List S_api_Trigger)) (c35 : S_search_clock) (l48 : (List S_api_Pair)) (sv10 sc38_0 sc41_0 : SV) (b46 b44 : Pos) (s48 : SV) (b38 b41 b35 b47 : Pos) (Fr : Rd) (M : Mem) (r : (List S_api_Pair) × Int) (hv10 : Slc Fr 3 (FlatR enc73) sv10 v10) (hc38_0 : Slc Fr 3 (FlatR enc73) sc38_0 c38_0) (hc41_0 : Slc Fr 3 (FlatR enc73) sc41_0 c41_0) (hH : Has Fr M [.obj b46 (.loop ⟨.ready, none, 83, 13, treeOf [(2, (.ptr b44 0)), (4, .nils), (6, (.fn (.func 84) [] [(.ptr b38 0), (.ptr b41 0), (.ptr b35 0)]))], [7], (atC Try.prog 83 [1, 0, 1, 0, 0]), (atC Try.prog 83 [1, 0, 1, 0, 1]), b47⟩), .obj b44 (.row 52 .whole [s48]), .vec 40 3 l48.length s48 (l48.flatMap enc40), .obj b38 (.row 33 .whole [sc38_0]), .obj b41 (.row 33 .whole [sc41_0]), .obj b35 (.row 80 .whole [(.int .i64 c35.live), (.int .i64 c35.window), (.int .i64 c35.step)]), .obj b47 .defd]), hd1 v10 v11 v12 c38_0 c41_0 c35 l48 = some r → Run Try.prog ⟨⟨84, [], none⟩, [.mk ⟨83, [b47], none⟩ 13 (treeOf [(2, (.ptr b44 0))]) [.inRange b46, .inBlock 0, codeC Try.prog 83 [1, 1]], .mk ⟨50, [], none⟩ 5 (treeOf []) [itemC Try.prog 50 [1, 0] 1, codeC Try.prog 50 [1, 1]], .mk ⟨20, [], none⟩ 29 (treeOf []) [itemC Try.prog 20 [1, 1, 1, 0] 4, codeC Try.prog 20 [1, 1, 1, 1]]]⟩ 56 (search_Coincide_post r) [(0, (.yield b46)), (2, (.ptr b41 0)), (3, (.ptr b35 0)), (10, sv10), (11, (.int .i64 v11)), (12, (.int .i64 v12))] [codeC Try.prog 84 [1, 0, 0], loopC Try.prog 84 [1, 0, 0], .inBlock 0] M) : ∀ (N : Nat), ∀ (v5 : Int) (v10 : (List S_api_Trigger)) (v11 v12 : Int) (v17 : (List S_api_Trigger)) (v18 v19 : Int) (c38_0 c41_0 : (List S_api_Trigger)) (c35 : S_search_clock) (c54 : S_api_Trigger) (l48 : (List S_api_Pair)) (sv10 sv17 sc38_0 sc41_0 : SV) (b46 b44 : Pos) (s48 : SV) (b38 b41 b35 b47 b54 : Pos) (Fr : Rd) (M : Mem) (r : (List S_api_Pair) × Int) (hv10 : Slc Fr 3 (FlatR enc73) sv10 v10) (hv17 : Slc Fr 3 (FlatR enc73) sv17 v17) (hc38_0 : Slc Fr 3 (FlatR enc73) sc38_0 c38_0) (hc41_0 : Slc Fr 3 (FlatR enc73) sc41_0 c41_0) (hH : Has Fr M [.obj b46 (.loop ⟨.ready, none, 83, 13, treeOf [(2, (.ptr b44 0)), (4, .nils), (6, (.fn (.func 84) [] [(.ptr b38 0), (.ptr b41 0), (.ptr b35 0)]))], [7], (atC Try.prog 83 [1, 0, 1, 0, 0]), (atC Try.prog 83 [1, 0, 1, 0, 1]), b47⟩), .obj b44 (.row 52 .whole [s48]), .vec 40 3 l48.length s48 (l48.flatMap enc40), .obj b38 (.row 33 .whole [sc38_0]), .obj b41 (.row 33 .whole [sc41_0]), .obj b35 (.row 80 .whole [(.int .i64 c35.live), (.int .i64 c35.window), (.int .i64 c35.step)]), .obj b47 .defd, .obj b54 (.row 73 .whole [(.int .i64 c54.Time), (.int .i64 c54.Loud), (.int .i64 c54.Template)])]), search_Coincide_2 F hd1 N v5 v10 v11 v12 v17 v18 v19 c38_0 c41_0 c35 c54 l48 = some r → Run Try.prog ⟨⟨84, [], none⟩, [.mk ⟨83, [b47], none⟩ 13 (treeOf [(2, (.ptr b44 0))]) [.inRange b46, .inBlock 0, codeC Try.prog 83 [1, 1]], .mk ⟨50, [], none⟩ 5 (treeOf []) [itemC Try.prog 50 [1, 0] 1, codeC Try.prog 50 [1, 1]], .mk ⟨20, [], none⟩ 29 (treeOf []) [itemC Try.prog 20 [1, 1, 1, 0] 4, codeC Try.prog 20 [1, 1, 1, 1]]]⟩ 56 (search_Coincide_post r) [(0, (.yield b46)), (2, (.ptr b41 0)), (3, (.ptr b35 0)), (5, (.int .i64 v5)), (6, (.ptr b54 0)), (10, sv10), (11, (.int .i64 v11)), (12, (.int .i64 v12)), (17, sv17), (18, (.int .i64 v18)), (19, (.int .i64 v19))] [codeC Try.prog 84 [1, 0, 0, 1, 1, 0, 0, 1, 1, 0, 0], loopC Try.prog 84 [1, 0, 0, 1, 1, 0, 0, 1, 1, 0, 0], .inBlock 2, .inBlock 1, codeC Try.prog 84 [1, 0, 0, 1, 1, 1], loopC Try.prog 84 [1, 0, 0], .inBlock 0] M := by
  intro N
  induction N with
  | zero =>
    intro v5 v10 v11 v12 v17 v18 v19 c38_0 c41_0 c35 c54 l48 sv10 sv17 sc38_0 sc41_0 b46 b44 s48 b38 b41 b35 b47 b54 Fr M r hv10 hv17 hc38_0 hc41_0 hH h
    simp [search_Coincide_2] at h
  | succ N ih =>
    intro v5 v10 v11 v12 v17 v18 v19 c38_0 c41_0 c35 c54 l48 sv10 sv17 sc38_0 sc41_0 b46 b44 s48 b38 b41 b35 b47 b54 Fr M r hv10 hv17 hc38_0 hc41_0 hH h
    rw [search_Coincide_2] at h
    refine Run.seq (Run.region ?_)
    refine Run.opG wantS_none (ex_lss rfl rfl) rfl ?_
    refine Run.opsEnd (Run.seq ?_)
    rcases btf ((decide (v19 < v18))) with hc57 | hc57
    · have h := bif_t hc57 h
      refine Run.condT' rfl hc57 ?_
      refine Run.skip (Run.seq (Run.block (Run.seq (Run.region ?_))))
      refine Run.opG wantS_none (ex_move rfl) rfl ?_
      obtain ⟨x59, hx59, h⟩ := bnd_some h
      obtain ⟨p59, o59, _, hx59, hp59, rfl⟩ := sl_elem (P := Try.prog) (t := 33) (kk := .i64) hv17 hx59 els33
      refine Run.opG wantS_none (ex_elX rfl rfl hx59) rfl ?_
      refine Run.opG wantS_none (ex_loadA rfl (hH.ptrF hp59) rdLe_rfl agg73 rfl rfl rfl) rfl ?_
      refine Run.opX wantS_none rfl (ExG.new (v := fun b => .ptr b 0) (ex_alloc zer73) hH) ?_
      rintro _ M62 ⟨b61, rfl, hH62⟩
      refine Run.opG wantS_none (ex_assign rfl) rfl ?_
      refine Run.opX wantS_none rfl (ExG.storeC (c' := [(.int .i64 x59.Time), (.int .i64 x59.Loud), (.int .i64 x59.Template)]) rfl rfl rfl hH62 (i := 0) rfl sz73 rfl rfl rfl rfl rfl) ?_
      rintro _ M63 ⟨rfl, (hH63 : Has Fr M63 [.obj b61 (.row 73 .whole [(.int .i64 x59.Time), (.int .i64 x59.Loud), (.int .i64 x59.Template)]), .obj b46 (.loop ⟨.ready, none, 83, 13, treeOf [(2, (.ptr b44 0)), (4, .nils), (6, (.fn (.func 84) [] [(.ptr b38 0), (.ptr b41 0), (.ptr b35 0)]))], [7], (atC Try.prog 83 [1, 0, 1, 0, 0]), (atC Try.prog 83 [1, 0, 1, 0, 1]), b47⟩), .obj b44 (.row 52 .whole [s48]), .vec 40 3 l48.length s48 (l48.flatMap enc40), .obj b38 (.row 33 .whole [sc38_0]), .obj b41 (.row 33 .whole [sc41_0]), .obj b35 (.row 80 .whole [(.int .i64 c35.live), (.int .i64 c35.window), (.int .i64 c35.step)]), .obj b47 .defd, .obj b54 (.row 73 .whole [(.int .i64 c54.Time), (.int .i64 c54.Loud), (.int .i64 c54.Template)])])⟩
      refine Run.opsEnd (Run.seq ?_)
      refine Run.drawG plan84_1_0_0_1_1_0_0_1_1_0_0_1_1_0_0_1_0 ?_
      refine DrawG.fl rfl (ev_ex wantS_none (ex_fieldAddr rfl off73_2)) rfl ?_
      refine DrawG.fl rfl (ev_ex wantS_none (ex_load1 rfl (hH63.cells (i := 8) rfl 2 rfl) rdLe_rfl agg3)) rfl ?_
      refine DrawG.fl rfl (ev_ex wantS_none (ex_fieldAddr rfl off73_2)) rfl ?_
      refine DrawG.fl rfl (ev_ex wantS_none (ex_load1 rfl (hH63.cells (i := 0) rfl 2 rfl) rdLe_rfl agg3)) rfl ?_
      refine DrawG.fl rfl (ev_ex wantS_none (ex_eql rfl rfl)) rfl ?_
      refine DrawG.fl rfl (ev_ex wantS_none (ex_move rfl)) rfl ?_
      rcases btf ((c54.Template == x59.Template)) with hc64 | hc64
      · have h := bif_t hc64 h
        refine DrawG.fl rfl (ev_ex (wantS_yes' rfl rfl hc64) (ex_loadA rfl (hH63.cells (i := 6) rfl 0 rfl) rdLe_rfl agg80 rfl rfl rfl)) rfl ?_
        refine DrawG.fl rfl (ev_ex (wantS_yes' rfl rfl hc64) (ex_fieldAddr rfl off73_0)) rfl ?_
        refine DrawG.fl rfl (ev_ex (wantS_yes' rfl rfl hc64) (ex_load1 rfl (hH63.cells (i := 8) rfl 0 rfl) rdLe_rfl agg3)) rfl ?_
        refine DrawG.fl rfl (ev_ex (wantS_yes' rfl rfl hc64) (ex_fieldAddr rfl off73_0)) rfl ?_
        refine DrawG.fl rfl (ev_ex (wantS_yes' rfl rfl hc64) (ex_load1 rfl (hH63.cells (i := 0) rfl 0 rfl) rdLe_rfl agg3)) rfl ?_
        refine DrawG.fl rfl (ev_ex (wantS_yes' rfl rfl hc64) (ex_fieldAddr rfl off80_1)) rfl ?_
        refine DrawG.fl rfl (ev_ex (wantS_yes' rfl rfl hc64) (ex_load1 rfl (hH63.cells (i := 6) rfl 1 rfl) rdLe_rfl agg3)) rfl ?_
        obtain ⟨r65, hr65, h⟩ := bnd_some h
        refine DrawG.callP rfl (wantS_yes' rfl rfl hc64) (ex_call rfl mkk85 cal85) rfl (search_clock_distance_ok F c35 c54.Time x59.Time _ _ hr65) (st_cons rfl (ev_ex (wantS_yes' rfl rfl hc64) (ex_load1 rfl (hH63.cells (i := 6) rfl 1 rfl) rdLe_rfl agg3)) rfl rfl rfl (st_cons rfl (ev_ex (wantS_yes' rfl rfl hc64) (ex_fieldAddr rfl off80_1)) rfl rfl rfl st_nil)) ?_
        refine DrawG.fl rfl (ev_ex (wantS_yes' rfl rfl hc64) (ex_leq rfl rfl)) rfl ?_
        refine DrawG.fl rfl (ev_ex wantS_none (ex_pickT' rfl hc64 rfl rfl)) rfl ?_
        refine DrawG.fl rfl (ev_ex wantS_none (ex_assign rfl)) rfl ?_
        refine DrawG.sync ?_
        refine DrawG.nil ?_
        refine Run.seq (Run.region ?_)
        exact Run.low (.cons (fle_pick [2] rfl) (.cons (fle_pick [] rfl) (.cons (fle_pick [] rfl) .nil))) (Run.pick [0, 2, 3, 5, 6, 7, 8, 9, 10, 11, 12, 17, 18, 19] (search_Coincide_3_ok F (search_Coincide_2 F hd1 N) ih v5 v19 (decide (r65 ≤ c35.window)) v10 v11 v12 v17 v18 v19 c38_0 c41_0 c35 c54 x59 l48 sv10 sv17 sc38_0 sc41_0 b46 b44 s48 b38 b41 b35 b47 b54 b61 _ _ _ hv10 hv17 hc38_0 hc41_0 (hH63.pick [1, 2, 3, 4, 5, 6, 7, 8, 0] rfl rfl) h))
      · have h := bif_f hc64 h
        refine DrawG.fl rfl (ev_no (wantS_not' rfl rfl hc64)) rfl ?_
        refine DrawG.fl rfl (ev_no (wantS_not' rfl rfl hc64)) rfl ?_
        refine DrawG.fl rfl (ev_no (wantS_not' rfl rfl hc64)) rfl ?_
        refine DrawG.fl rfl (ev_no (wantS_not' rfl rfl hc64)) rfl ?_
        refine DrawG.fl rfl (ev_no (wantS_not' rfl rfl hc64)) rfl ?_
        refine DrawG.fl rfl (ev_no (wantS_not' rfl rfl hc64)) rfl ?_
        refine DrawG.fl rfl (ev_no (wantS_not' rfl rfl hc64)) rfl ?_
        refine DrawG.no rfl (wantS_not' rfl rfl hc64) rfl (st_cons rfl (ev_no (wantS_not' rfl rfl hc64)) rfl rfl rfl (st_cons rfl (ev_no (wantS_not' rfl rfl hc64)) rfl rfl rfl st_nil)) ?_
        refine DrawG.fl rfl (ev_no (wantS_not' rfl rfl hc64)) rfl ?_
        refine DrawG.fl rfl (ev_ex wantS_none (ex_pickF' rfl hc64 rfl rfl)) rfl ?_
        refine DrawG.fl rfl (ev_ex wantS_none (ex_assign rfl)) rfl ?_
        refine DrawG.sync ?_
        refine DrawG.nil ?_
        refine Run.seq (Run.region ?_)
        exact Run.low (.cons (fle_pick [2] rfl) (.cons (fle_pick [] rfl) (.cons (fle_pick [] rfl) .nil))) (Run.pick [0, 2, 3, 5, 6, 7, 8, 9, 10, 11, 12, 17, 18, 19] (search_Coincide_3_ok F (search_Coincide_2 F hd1 N) ih v5 v19 false v10 v11 v12 v17 v18 v19 c38_0 c41_0 c35 c54 x59 l48 sv10 sv17 sc38_0 sc41_0 b46 b44 s48 b38 b41 b35 b47 b54 b61 _ _ _ hv10 hv17 hc38_0 hc41_0 (hH63.pick [1, 2, 3, 4, 5, 6, 7, 8, 0] rfl rfl) h))
    · have h := bif_f hc57 h
      refine Run.condF' rfl hc57 ?_
      refine Run.exit rfl (Run.inBlock (Run.region ?_))
      refine Run.opG wantS_none (ex_add rfl rfl) rfl ?_
      refine Run.opG wantS_none (ex_move rfl) rfl ?_
      refine Run.opsEnd (Run.inLoop ?_)
      exact Run.low (.cons (fle_pick [2] rfl) (.cons (fle_pick [] rfl) (.cons (fle_pick [] rfl) .nil))) (Run.pick [0, 2, 3, 10, 11, 12] (hhd1 v10 v11 (w64 (v12 + (1 : Int))) c38_0 c41_0 c35 l48 sv10 sc38_0 sc41_0 b46 b44 s48 b38 b41 b35 b47 _ _ _ hv10 hc38_0 hc41_0 (hH.pick [0, 1, 2, 3, 4, 5, 6] rfl rfl) h))

def search_Coincide_1 (F : Nat) : Nat → (List S_api_Trigger) → Int → Int → (List S_api_Trigger) → (List S_api_Trigger) → S_search_clock → (List S_api_Pair) → Option ((List S_api_Pair) × Int)
  | 0, _, _, _, _, _, _, _ => none
  | N + 1, v10, v11, v12, c38_0, c41_0, c35, l48 =>
    bif (decide (v12 < v11)) then
      bnd (idx v10 v12) fun x52 =>
      search_Coincide_2 F (search_Coincide_1 F N) F v12 v10 v11 v12 c41_0 (c41_0.length : Int) (0 : Int) c38_0 c41_0 c35 x52 l48
    else
      some (l48, (0 : Int))

theorem search_Coincide_1_ok (F : Nat) : ∀ (N : Nat), ∀ (v10 : (List S_api_Trigger)) (v11 v12 : Int) (c38_0 c41_0 : (List S_api_Trigger)) (c35 : S_search_clock) (l48 : (List S_api_Pair)) (sv10 sc38_0 sc41_0 : SV) (b46 b44 : Pos) (s48 : SV) (b38 b41 b35 b47 : Pos) (Fr : Rd) (M : Mem) (r : (List S_api_Pair) × Int) (hv10 : Slc Fr 3 (FlatR enc73) sv10 v10) (hc38_0 : Slc Fr 3 (FlatR enc73) sc38_0 c38_0) (hc41_0 : Slc Fr 3 (FlatR enc73) sc41_0 c41_0) (hH : Has Fr M [.obj b46 (.loop ⟨.ready, none, 83, 13, treeOf [(2, (.ptr b44 0)), (4, .nils), (6, (.fn (.func 84) [] [(.ptr b38 0), (.ptr b41 0), (.ptr b35 0)]))], [7], (atC Try.prog 83 [1, 0, 1, 0, 0]), (atC Try.prog 83 [1, 0, 1, 0, 1]), b47⟩), .obj b44 (.row 52 .whole [s48]), .vec 40 3 l48.length s48 (l48.flatMap enc40), .obj b38 (.row 33 .whole [sc38_0]), .obj b41 (.row 33 .whole [sc41_0]), .obj b35 (.row 80 .whole [(.int .i64 c35.live), (.int .i64 c35.window), (.int .i64 c35.step)]), .obj b47 .defd]), search_Coincide_1 F N v10 v11 v12 c38_0 c41_0 c35 l48 = some r → Run Try.prog ⟨⟨84, [], none⟩, [.mk ⟨83, [b47], none⟩ 13 (treeOf [(2, (.ptr b44 0))]) [.inRange b46, .inBlock 0, codeC Try.prog 83 [1, 1]], .mk ⟨50, [], none⟩ 5 (treeOf []) [itemC Try.prog 50 [1, 0] 1, codeC Try.prog 50 [1, 1]], .mk ⟨20, [], none⟩ 29 (treeOf []) [itemC Try.prog 20 [1, 1, 1, 0] 4, codeC Try.prog 20 [1, 1, 1, 1]]]⟩ 56 (search_Coincide_post r) [(0, (.yield b46)), (2, (.ptr b41 0)), (3, (.ptr b35 0)), (10, sv10), (11, (.int .i64 v11)), (12, (.int .i64 v12))] [codeC Try.prog 84 [1, 0, 0], loopC Try.prog 84 [1, 0, 0], .inBlock 0] M := by
  intro N
  induction N with
  | zero =>
    intro v10 v11 v12 c38_0 c41_0 c35 l48 sv10 sc38_0 sc41_0 b46 b44 s48 b38 b41 b35 b47 Fr M r hv10 hc38_0 hc41_0 hH h
    simp [search_Coincide_1] at h
  | succ N ih =>
    intro v10 v11 v12 c38_0 c41_0 c35 l48 sv10 sc38_0 sc41_0 b46 b44 s48 b38 b41 b35 b47 Fr M r hv10 hc38_0 hc41_0 hH h
    rw [search_Coincide_1] at h
    refine Run.seq (Run.region ?_)
    refine Run.opG wantS_none (ex_lss rfl rfl) rfl ?_
    refine Run.opsEnd (Run.seq ?_)
    rcases btf ((decide (v12 < v11))) with hc50 | hc50
    · have h := bif_t hc50 h
      refine Run.condT' rfl hc50 ?_
      refine Run.skip (Run.seq (Run.block (Run.seq (Run.region ?_))))
      refine Run.opG wantS_none (ex_move rfl) rfl ?_
      obtain ⟨x52, hx52, h⟩ := bnd_some h
      obtain ⟨p52, o52, _, hx52, hp52, rfl⟩ := sl_elem (P := Try.prog) (t := 33) (kk := .i64) hv10 hx52 els33
      refine Run.opG wantS_none (ex_elX rfl rfl hx52) rfl ?_
      refine Run.opG wantS_none (ex_loadA rfl (hH.ptrF hp52) rdLe_rfl agg73 rfl rfl rfl) rfl ?_
      refine Run.opX wantS_none rfl (ExG.new (v := fun b => .ptr b 0) (ex_alloc zer73) hH) ?_
      rintro _ M55 ⟨b54, rfl, hH55⟩
      refine Run.opG wantS_none (ex_assign rfl) rfl ?_
      refine Run.opX wantS_none rfl (ExG.storeC (c' := [(.int .i64 x52.Time), (.int .i64 x52.Loud), (.int .i64 x52.Template)]) rfl rfl rfl hH55 (i := 0) rfl sz73 rfl rfl rfl rfl rfl) ?_
      rintro _ M56 ⟨rfl, (hH56 : Has Fr M56 [.obj b54 (.row 73 .whole [(.int .i64 x52.Time), (.int .i64 x52.Loud), (.int .i64 x52.Template)]), .obj b46 (.loop ⟨.ready, none, 83, 13, treeOf [(2, (.ptr b44 0)), (4, .nils), (6, (.fn (.func 84) [] [(.ptr b38 0), (.ptr b41 0), (.ptr b35 0)]))], [7], (atC Try.prog 83 [1, 0, 1, 0, 0]), (atC Try.prog 83 [1, 0, 1, 0, 1]), b47⟩), .obj b44 (.row 52 .whole [s48]), .vec 40 3 l48.length s48 (l48.flatMap enc40), .obj b38 (.row 33 .whole [sc38_0]), .obj b41 (.row 33 .whole [sc41_0]), .obj b35 (.row 80 .whole [(.int .i64 c35.live), (.int .i64 c35.window), (.int .i64 c35.step)]), .obj b47 .defd])⟩
      refine Run.opsEnd (Run.seq (Run.region ?_))
      refine Run.opG wantS_none (ex_load1 rfl (hH56.cells (i := 5) rfl 0 rfl) rdLe_rfl agg33) rfl ?_
      refine Run.opG wantS_none (ex_len' rfl hc41_0 lenk33) rfl ?_
      refine Run.opG wantS_none (ex_move rfl) rfl ?_
      refine Run.opsEnd (Run.block (Run.loop ?_))
      exact Run.low (.cons (fle_pick [2] rfl) (.cons (fle_pick [] rfl) (.cons (fle_pick [] rfl) .nil))) (Run.pick [0, 2, 3, 5, 6, 10, 11, 12, 17, 18, 19] (search_Coincide_2_ok F (search_Coincide_1 F N) ih F v12 v10 v11 v12 c41_0 (c41_0.length : Int) (0 : Int) c38_0 c41_0 c35 x52 l48 sv10 sc41_0 sc38_0 sc41_0 b46 b44 s48 b38 b41 b35 b47 b54 _ _ _ hv10 hc41_0 hc38_0 hc41_0 (hH56.pick [1, 2, 3, 4, 5, 6, 7, 0] rfl rfl) h))
    · have h := bif_f hc50 h
      refine Run.condF' rfl hc50 ?_
      refine Run.exit rfl ?_
      refine Run.fallRange Try.func84 rfl res_nil ?_
      refine Run.endX hH (i := 0) rfl (fun hc => by cases hc) ?_
      intro M87 (hH87 : Has Fr M87 [.obj b46 (.loop ⟨.exhausted, none, 83, 13, treeOf [(2, (.ptr b44 0)), (4, .nils), (6, (.fn (.func 84) [] [(.ptr b38 0), (.ptr b41 0), (.ptr b35 0)]))], [7], (atC Try.prog 83 [1, 0, 1, 0, 0]), (atC Try.prog 83 [1, 0, 1, 0, 1]), b47⟩), .obj b44 (.row 52 .whole [s48]), .vec 40 3 l48.length s48 (l48.flatMap enc40), .obj b38 (.row 33 .whole [sc38_0]), .obj b41 (.row 33 .whole [sc41_0]), .obj b35 (.row 80 .whole [(.int .i64 c35.live), (.int .i64 c35.window), (.int .i64 c35.step)]), .obj b47 .defd])
      refine Run.inBlock (Run.seq (Run.region ?_))
      refine Run.opG wantS_none (ex_load1 rfl (hH87.cells (i := 1) rfl 0 rfl) rdLe_rfl agg52) rfl ?_
      refine Run.opG wantS_none (ex_assign rfl) rfl ?_
      refine Run.opsEnd ?_
      obtain ⟨hH88x, hS88⟩ := hH87.shut (i := 6) (ds := []) rfl
      have hH88 : Has Fr (setT M87 b47 none) [.obj b46 (.loop ⟨.exhausted, none, 83, 13, treeOf [(2, (.ptr b44 0)), (4, .nils), (6, (.fn (.func 84) [] [(.ptr b38 0), (.ptr b41 0), (.ptr b35 0)]))], [7], (atC Try.prog 83 [1, 0, 1, 0, 0]), (atC Try.prog 83 [1, 0, 1, 0, 1]), b47⟩), .obj b44 (.row 52 .whole [s48]), .vec 40 3 l48.length s48 (l48.flatMap enc40), .obj b38 (.row 33 .whole [sc38_0]), .obj b41 (.row 33 .whole [sc41_0]), .obj b35 (.row 80 .whole [(.int .i64 c35.live), (.int .i64 c35.window), (.int .i64 c35.step)]), .vec 0 0 0 .nils []] := hH88x
      refine Run.retTo Try.func83 (hS88 _ rfl) (res_tmp rfl res_nil) rfl ?_
      refine Run.opG wantS_none (ex_assign rfl) rfl ?_
      refine Run.opsEnd ?_
      refine Run.retTo Try.func50 rfl (res_tmp rfl res_nil) rfl ?_
      refine Run.opG wantS_none (ex_assign rfl) rfl ?_
      refine Run.opG wantS_none (ex_assign rfl) rfl ?_
      refine Run.opsEnd ?_
      cases h
      exact Run.ret Try.func20 rfl (res_tmp rfl (res_tmp rfl res_nil)) ⟨_, rfl, (hH88.pick [2] rfl rfl).upF (none_le _)⟩

def search_Coincide (F : Nat) (a0 a1 : (List S_api_Trigger)) (a2 a3 : Int) : Option ((List S_api_Pair) × Int) :=
  bnd (search_clock_check F (S_search_clock.mk a2 a3 a2) ([a0, a1] : List (List S_api_Trigger))) fun r29 =>
  bif (!(r29 == (0 : Int))) then
    some (([] : List S_api_Pair), r29)
  else
    search_Coincide_1 F F a0 (a0.length : Int) (0 : Int) a0 a1 (S_search_clock.mk a2 a3 a2) ([] : List S_api_Pair)

theorem search_Coincide_ok (F : Nat) (a0 a1 : (List S_api_Trigger)) (a2 a3 : Int) (s0 s1 : SV) (r : (List S_api_Pair) × Int) (M : Mem) (hs0 : Slc (rd M) 3 (FlatR enc73) s0 a0) (hs1 : Slc (rd M) 3 (FlatR enc73) s1 a1) (h : search_Coincide F a0 a1 a2 a3 = some r) : CallsM Try.prog 20 [s0, s1, (.int .i64 a2), (.int .i64 a3)] M (fun s M' => ∃ q1, s = (.tuple [q1, (.int .i64 r.2)]) ∧ New M M' [.vec 40 3 r.1.length q1 (r.1.flatMap enc40)]) := by
  refine CallsM.fresh (Q := search_Coincide_post r) Try.func20 rfl rfl ?_ (by rintro s Me ⟨q1, rfl, hx⟩ ha hw; exact ⟨_, rfl, New.of rfl hx ha hw⟩)
  rw [search_Coincide] at h
  replace hs0 := hs0.mono (rdLe_frozen M) (fun _ _ h => h)
  replace hs1 := hs1.mono (rdLe_frozen M) (fun _ _ h => h)
  have hH := Has.nil (frozen M)
  refine Run.seq (Run.region ?_)
  refine Run.opG wantS_none (ex_assign rfl) rfl ?_
  refine Run.opG wantS_none (ex_assign rfl) rfl ?_
  refine Run.opsEnd (Run.seq (Run.region ?_))
  refine Run.opG wantS_none (ex_move rfl) rfl ?_
  refine Run.opG wantS_none (ex_move rfl) rfl ?_
  refine Run.opG wantS_none (ex_move rfl) rfl ?_
  refine Run.opG wantS_none (ex_build (r := [(.int .i64 a2), (.int .i64 a3), (.int .i64 a2)]) rfl zer80 pls80 rfl) rfl ?_
  refine Run.opX wantS_none rfl (ExG.new (v := fun b => .ptr b 0) (ex_alloc zer80) hH) ?_
  rintro _ M23 ⟨b22, rfl, hH23⟩
  refine Run.opX wantS_none rfl (ExG.storeC (c' := [(.int .i64 a2), (.int .i64 a3), (.int .i64 a2)]) rfl rfl rfl hH23 (i := 0) rfl sz80 rfl rfl rfl rfl rfl) ?_
  rintro _ M24 ⟨rfl, (hH24 : Has (ro (frozen M)) M24 [.obj b22 (.row 80 .whole [(.int .i64 a2), (.int .i64 a3), (.int .i64 a2)])])⟩
  refine Run.opsEnd (Run.seq (Run.seq (Run.region ?_)))
  refine Run.opG wantS_none (ex_loadA rfl (hH24.cells (i := 0) rfl 0 rfl) rdLe_rfl agg80 rfl rfl rfl) rfl ?_
  refine Run.opG wantS_none (ex_move rfl) rfl ?_
  refine Run.opG wantS_none (ex_move rfl) rfl ?_
  have hr26 : Rows (rep33 (ro (frozen M))) 1 [s0, s1] ([a0, a1] : List (List S_api_Trigger)) := (Rows.cons (cs := [s0]) rfl ⟨s0, rfl, hs0⟩ (Rows.cons (cs := [s1]) rfl ⟨s1, rfl, hs1⟩ Rows.nil))
  refine Run.opX wantS_none rfl (ExG.builtR (z := 1) (c := [s0, s1]) rfl elt116 rfl (by simp only [fillS, cells_one (slc_one hs0), cells_one (slc_one hs1)]; rfl) rfl hH24) ?_
  rintro s26 M27 (hH27 : Has (ro (frozen M)) M27 [.vec 33 1 ([a0, a1] : List (List S_api_Trigger)).length s26 [s0, s1], .obj b22 (.row 80 .whole [(.int .i64 a2), (.int .i64 a3), (.int .i64 a2)])])
  obtain ⟨r29, hr29, h⟩ := bnd_some h
  refine Run.callP wantS_none (ex_call rfl mkk38 cal38) rfl (search_clock_check_ok F (S_search_clock.mk a2 a3 a2) ([a0, a1] : List (List S_api_Trigger)) s26 _ _ (((hH27.slcR (i := 0) rfl hr26)).mono (fun _ _ h => h) (fun _ _ => rep33_mo hH27.le)) hr29) ?_
  refine Run.opG wantS_none (ex_assign rfl) rfl ?_
  refine Run.opsEnd (Run.seq (Run.region ?_))
  refine Run.opG wantS_none (ex_move rfl) rfl ?_
  refine Run.opG wantS_none (ex_neq rfl rfl) rfl ?_
  refine Run.opsEnd ?_
  rcases btf ((!(r29 == (0 : Int)))) with hc31 | hc31
  · have h := bif_t hc31 h
    refine Run.condT' rfl hc31 ?_
    refine Run.seq (Run.region ?_)
    refine Run.opG wantS_none (ex_move rfl) rfl ?_
    refine Run.opG wantS_none (ex_assign rfl) rfl ?_
    refine Run.opG wantS_none (ex_assign rfl) rfl ?_
    refine Run.opsEnd ?_
    have hH33 : Has (ro (frozen M)) M27 [.vec 40 3 ([] : List S_api_Pair).length .nils (([] : List S_api_Pair).flatMap enc40), .vec 33 1 ([a0, a1] : List (List S_api_Trigger)).length s26 [s0, s1], .obj b22 (.row 80 .whole [(.int .i64 a2), (.int .i64 a3), (.int .i64 a2)])] := hH27.nils 40 3
    cases h
    exact Run.ret Try.func20 rfl (res_tmp rfl (res_tmp rfl res_nil)) ⟨_, rfl, (hH33.pick [0] rfl rfl).upF (none_le _)⟩
  · have h := bif_f hc31 h
    refine Run.condF' rfl hc31 ?_
    refine Run.skip (Run.seq (Run.region ?_))
    refine Run.opG wantS_none (ex_loadA rfl (hH27.cells (i := 1) rfl 0 rfl) rdLe_rfl agg80 rfl rfl rfl) rfl ?_
    refine Run.opG wantS_none (ex_move rfl) rfl ?_
    refine Run.opG wantS_none (ex_move rfl) rfl ?_
    refine Run.enter wantS_none (ex_call rfl mkk51 cal51) Try.func51 rfl rfl ?_
    refine Run.seq (Run.region ?_)
    refine Run.opX wantS_none rfl (ExG.box rfl rfl hH27) ?_
    rintro _ M36 ⟨b35, rfl, hH36⟩
    refine Run.opX wantS_none rfl (ExG.box rfl (cells_one (slc_one hs0)) hH36) ?_
    rintro _ M39 ⟨b38, rfl, hH39⟩
    refine Run.opX wantS_none rfl (ExG.box rfl (cells_one (slc_one hs1)) hH39) ?_
    rintro _ M42 ⟨b41, rfl, hH42⟩
    refine Run.opG wantS_none (ex_assign rfl) rfl ?_
    refine Run.opsEnd (Run.seq (Run.region ?_))
    refine Run.opG wantS_none (ex_makeFunc rfl rfl) rfl ?_
    refine Run.opG wantS_none (ex_assign rfl) rfl ?_
    refine Run.opsEnd ?_
    refine Run.retTo Try.func51 rfl (res_tmp rfl res_nil) rfl ?_
    refine Run.enter wantS_none (ex_call rfl mkk50 cal50) Try.func50 rfl rfl ?_
    refine Run.seq (Run.region ?_)
    refine Run.opG wantS_none (ex_assign rfl) rfl ?_
    refine Run.opsEnd (Run.seq (Run.region ?_))
    refine Run.opG wantS_none (ex_move rfl) rfl ?_
    refine Run.enter wantS_none (ex_call rfl mkk83 cal83) Try.func83 rfl rfl ?_
    refine Run.seq (Run.region ?_)
    refine Run.opX wantS_none rfl (ExG.box rfl rfl hH42) ?_
    rintro _ M45 ⟨b44, rfl, hH45⟩
    refine Run.opG wantS_none (ex_assign rfl) rfl ?_
    refine Run.opsEnd (Run.seq (Run.seq (Run.region ?_)))
    refine Run.opG wantS_none (ex_move rfl) rfl ?_
    refine Run.opsEnd (Run.block ?_)
    refine Run.pick [2, 4, 6] ?_
    refine Run.rangeX rfl cal84 Try.func84 rfl rfl hH45 ?_
    intro b47 b46 M46 (hH46 : Has (ro (frozen M)) M46 [.obj b46 (.loop ⟨.ready, none, 83, 13, treeOf [(2, (.ptr b44 0)), (4, .nils), (6, (.fn (.func 84) [] [(.ptr b38 0), (.ptr b41 0), (.ptr b35 0)]))], [7], (atC Try.prog 83 [1, 0, 1, 0, 0]), (atC Try.prog 83 [1, 0, 1, 0, 1]), b47⟩), .obj b47 .defd, .obj b44 (.row 52 .whole [.nils]), .obj b41 (.row 33 .whole [s1]), .obj b38 (.row 33 .whole [s0]), .obj b35 (.row 80 .whole [(.int .i64 a2), (.int .i64 a3), (.int .i64 a2)]), .vec 33 1 ([a0, a1] : List (List S_api_Trigger)).length s26 [s0, s1], .obj b22 (.row 80 .whole [(.int .i64 a2), (.int .i64 a3), (.int .i64 a2)])])
    refine Run.seq (Run.region ?_)
    refine Run.opG wantS_none (ex_load1 rfl (hH46.cells (i := 4) rfl 0 rfl) rdLe_rfl agg33) rfl ?_
    refine Run.opG wantS_none (ex_len' rfl hs0 lenk33) rfl ?_
    refine Run.opG wantS_none (ex_move rfl) rfl ?_
    refine Run.opsEnd (Run.block (Run.loop ?_))
    have hH49 : Has (ro (frozen M)) M46 [.vec 40 3 ([] : List S_api_Pair).length .nils (([] : List S_api_Pair).flatMap enc40), .obj b46 (.loop ⟨.ready, none, 83, 13, treeOf [(2, (.ptr b44 0)), (4, .nils), (6, (.fn (.func 84) [] [(.ptr b38 0), (.ptr b41 0), (.ptr b35 0)]))], [7], (atC Try.prog 83 [1, 0, 1, 0, 0]), (atC Try.prog 83 [1, 0, 1, 0, 1]), b47⟩), .obj b47 .defd, .obj b44 (.row 52 .whole [.nils]), .obj b41 (.row 33 .whole [s1]), .obj b38 (.row 33 .whole [s0]), .obj b35 (.row 80 .whole [(.int .i64 a2), (.int .i64 a3), (.int .i64 a2)]), .vec 33 1 ([a0, a1] : List (List S_api_Trigger)).length s26 [s0, s1], .obj b22 (.row 80 .whole [(.int .i64 a2), (.int .i64 a3), (.int .i64 a2)])] := hH46.nils 40 3
    exact Run.low (.cons (fle_pick [2] rfl) (.cons (fle_pick [] rfl) (.cons (fle_pick [] rfl) .nil))) (Run.pick [0, 2, 3, 10, 11, 12] (search_Coincide_1_ok F F a0 (a0.length : Int) (0 : Int) a0 a1 (S_search_clock.mk a2 a3 a2) ([] : List S_api_Pair) s0 s0 s1 b46 b44 .nils b38 b41 b35 b47 _ _ _ hs0 hs0 hs1 (hH49.pick [1, 3, 0, 5, 4, 6, 2] rfl rfl) h))

theorem mkk20 : makeK Try.prog 20 = none := by kernel_rfl
theorem cal20 : callable Try.prog 20 = true := by kernel_rfl
theorem els36 : elems Try.prog 36 = some (.sl 5) := by kernel_rfl
theorem off44_0 : fieldOff Try.prog 44 0 = some 0 := by kernel_rfl
theorem els52 : elems Try.prog 52 = some (.sl 3) := by kernel_rfl
theorem agk3 : aggK Try.prog 3 = some .int := by kernel_rfl
theorem agk40 : aggK Try.prog 40 = some (.st [⟨ "A", 3, 0, false, "", "", 0⟩, ⟨ "B", 3, 1, false, "", "", 8⟩, ⟨ "Loud", 3, 2, false, "", "", 16⟩]) := by kernel_rfl
theorem aeq40 : aggEq Try.prog 40 = false := by kernel_rfl
theorem agk42 : aggK Try.prog 42 = some (.st [⟨ "N", 3, 0, false, "", "", 0⟩, ⟨ "Of", 3, 1, false, "", "", 8⟩]) := by kernel_rfl
theorem agk44 : aggK Try.prog 44 = some (.st [⟨ "Pair", 40, 0, false, "", "", 0⟩, ⟨ "Chance", 42, 3, false, "", "", 24⟩]) := by kernel_rfl
theorem aeq44 : aggEq Try.prog 44 = false := by kernel_rfl
theorem plan7_1_1_1_1_1_1_1_1_0_1_0_0_1_0_0_1_0 : planOf Try.prog (opsC (atC Try.prog 7 [1, 1, 1, 1, 1, 1, 1, 1, 0, 1, 0, 0, 1, 0, 0, 1, 0])) = some [.fl 0, .fl 1, .fl 2, .fl 3, .fl 4, .fl 5, .fl 6, .fl 7, .fl 8, .fl 9, .fl 10, .fl 11, .fl 12, .fl 13, .fl 14, .sync] := by kernel_rfl
theorem plan7_1_1_1_1_1_1_1_1_0_1_0_0_1_0_0_0_0 : planOf Try.prog (opsC (atC Try.prog 7 [1, 1, 1, 1, 1, 1, 1, 1, 0, 1, 0, 0, 1, 0, 0, 0, 0])) = some [.fl 0, .fl 1, .fl 2, .fl 3, .fl 4, .fl 5, .fl 6, .fl 7, .fl 8, .fl 9, .sync] := by kernel_rfl
theorem lenk52 : lenK Try.prog 52 = some .sl := by kernel_rfl
theorem plan7_1_1_1_1_1_1_1_1_1_0_1_0_0_1_0_0_0 : planOf Try.prog (opsC (atC Try.prog 7 [1, 1, 1, 1, 1, 1, 1, 1, 1, 0, 1, 0, 0, 1, 0, 0, 0])) = some [.fl 0, .fl 1, .fl 2, .fl 3, .fl 4, .fl 5, .fl 6, .fl 7, .fl 8, .sync] := by kernel_rfl
theorem plan7_1_1_1_0 : planOf Try.prog (opsC (atC Try.prog 7 [1, 1, 1, 0])) = some [.fl 0, .fl 1, .fl 2, .fl 3, .fl 4, .fl 5, .fl 6, .fl 7, .fl 8, .fl 9, .fl 10, .fl 11, .fl 12, .an 13 [], .fl 14, .fl 15, .fl 16, .fl 17, .fl 18, .sync] := by kernel_rfl
abbrev law08_SearchGrows_post (r : Bool) : SV → Mem → Prop := fun s _ => s = (.bool r)

def law08_SearchGrows_1 (F : Nat) (v39 : Bool) : Option (Bool) :=
  some v39

theorem law08_SearchGrows_1_ok (F : Nat) : ∀ (v39 : Bool) (Fr : Rd) (M : Mem) (r : Bool) (hH : Has Fr M []), law08_SearchGrows_1 F v39 = some r → Run Try.prog ⟨⟨7, [], none⟩, []⟩ 171 (law08_SearchGrows_post r) [(39, (.bool v39))] [itemC Try.prog 7 [1, 1, 0, 1, 0, 0] 6, codeC Try.prog 7 [1, 1, 0, 1, 0, 1], codeC Try.prog 7 [1, 1, 1]] M := by
  intro v39 Fr M r hH h
  rw [law08_SearchGrows_1] at h
  refine Run.opG wantS_none (ex_assign rfl) rfl ?_
  refine Run.opsEnd ?_
  cases h
  exact Run.ret Try.func7 rfl (res_tmp rfl res_nil) rfl

def law08_SearchGrows_8 (F : Nat) (hd6 : Int → Int → Int → (List S_api_Candidate) → (List S_api_Candidate) → (List S_api_Pair) → (List S_api_Pair) → Option (Bool)) (v14 v15 v16 : Int) (l27 l36 : (List S_api_Candidate)) (l41 l46 : (List S_api_Pair)) : Option (Bool) :=
  hd6 v14 v15 (w64 (v16 + (1 : Int))) l27 l36 l41 l46

theorem law08_SearchGrows_8_ok (F : Nat) (hd6 : Int → Int → Int → (List S_api_Candidate) → (List S_api_Candidate) → (List S_api_Pair) → (List S_api_Pair) → Option (Bool)) (hhd6 : ∀ (v14 v15 v16 : Int) (l27 l36 : (List S_api_Candidate)) (l41 l46 : (List S_api_Pair)) (s27 s36 s41 s46 : SV) (Fr : Rd) (M : Mem) (r : Bool) (hH : Has Fr M [.vec 44 5 l27.length s27 (l27.flatMap enc44), .vec 44 5 l36.length s36 (l36.flatMap enc44), .vec 40 3 l41.length s41 (l41.flatMap enc40), .vec 40 3 l46.length s46 (l46.flatMap enc40)]), hd6 v14 v15 v16 l27 l36 l41 l46 = some r → Run Try.prog ⟨⟨7, [], none⟩, []⟩ 171 (law08_SearchGrows_post r) [(7, s27), (9, s36), (10, s41), (12, s46), (14, (.int .i64 v14)), (15, (.int .i64 v15)), (16, (.int .i64 v16))] [codeC Try.prog 7 [1, 1, 1, 1, 1, 1, 1, 1, 0, 1, 0, 0], loopC Try.prog 7 [1, 1, 1, 1, 1, 1, 1, 1, 0, 1, 0, 0], .inBlock 0, codeC Try.prog 7 [1, 1, 1, 1, 1, 1, 1, 1, 1]] M) : ∀ (v14 v15 v16 : Int) (l27 l36 : (List S_api_Candidate)) (l41 l46 : (List S_api_Pair)) (s27 s36 s41 s46 : SV) (Fr : Rd) (M : Mem) (r : Bool) (hH : Has Fr M [.vec 44 5 l27.length s27 (l27.flatMap enc44), .vec 44 5 l36.length s36 (l36.flatMap enc44), .vec 40 3 l41.length s41 (l41.flatMap enc40), .vec 40 3 l46.length s46 (l46.flatMap enc40)]), law08_SearchGrows_8 F hd6 v14 v15 v16 l27 l36 l41 l46 = some r → Run Try.prog ⟨⟨7, [], none⟩, []⟩ 171 (law08_SearchGrows_post r) [(7, s27), (9, s36), (10, s41), (12, s46), (14, (.int .i64 v14)), (15, (.int .i64 v15)), (16, (.int .i64 v16))] [itemC Try.prog 7 [1, 1, 1, 1, 1, 1, 1, 1, 0, 1, 0, 0, 1, 1] 0, loopC Try.prog 7 [1, 1, 1, 1, 1, 1, 1, 1, 0, 1, 0, 0], .inBlock 0, codeC Try.prog 7 [1, 1, 1, 1, 1, 1, 1, 1, 1]] M := by
  intro v14 v15 v16 l27 l36 l41 l46 s27 s36 s41 s46 Fr M r hH h
  rw [law08_SearchGrows_8] at h
  refine Run.opG wantS_none (ex_move rfl) rfl ?_
  refine Run.opG wantS_none (ex_add rfl rfl) rfl ?_
  refine Run.opG wantS_none (ex_assign rfl) rfl ?_
  refine Run.opsEnd (Run.inLoop ?_)
  exact Run.pick [7, 9, 10, 12, 14, 15, 16] (hhd6 v14 v15 (w64 (v16 + (1 : Int))) l27 l36 l41 l46 s27 s36 s41 s46 _ _ _ hH h)

def law08_SearchGrows_7 (F : Nat) (hd6 : Int → Int → Int → (List S_api_Candidate) → (List S_api_Candidate) → (List S_api_Pair) → (List S_api_Pair) → Option (Bool)) (v14 v15 v16 : Int) (v132 : Bool) (l27 l36 : (List S_api_Candidate)) (l41 l46 : (List S_api_Pair)) : Option (Bool) :=
  bif v132 then
    law08_SearchGrows_8 F hd6 (w64 (v14 + (1 : Int))) v15 v16 l27 l36 l41 l46
  else
    law08_SearchGrows_8 F hd6 v14 v15 v16 l27 l36 l41 l46

theorem law08_SearchGrows_7_ok (F : Nat) (hd6 : Int → Int → Int → (List S_api_Candidate) → (List S_api_Candidate) → (List S_api_Pair) → (List S_api_Pair) → Option (Bool)) (hhd6 : ∀ (v14 v15 v16 : Int) (l27 l36 : (List S_api_Candidate)) (l41 l46 : (List S_api_Pair)) (s27 s36 s41 s46 : SV) (Fr : Rd) (M : Mem) (r : Bool) (hH : Has Fr M [.vec 44 5 l27.length s27 (l27.flatMap enc44), .vec 44 5 l36.length s36 (l36.flatMap enc44), .vec 40 3 l41.length s41 (l41.flatMap enc40), .vec 40 3 l46.length s46 (l46.flatMap enc40)]), hd6 v14 v15 v16 l27 l36 l41 l46 = some r → Run Try.prog ⟨⟨7, [], none⟩, []⟩ 171 (law08_SearchGrows_post r) [(7, s27), (9, s36), (10, s41), (12, s46), (14, (.int .i64 v14)), (15, (.int .i64 v15)), (16, (.int .i64 v16))] [codeC Try.prog 7 [1, 1, 1, 1, 1, 1, 1, 1, 0, 1, 0, 0], loopC Try.prog 7 [1, 1, 1, 1, 1, 1, 1, 1, 0, 1, 0, 0], .inBlock 0, codeC Try.prog 7 [1, 1, 1, 1, 1, 1, 1, 1, 1]] M) : ∀ (v14 v15 v16 : Int) (v132 : Bool) (l27 l36 : (List S_api_Candidate)) (l41 l46 : (List S_api_Pair)) (s27 s36 s41 s46 : SV) (Fr : Rd) (M : Mem) (r : Bool) (hH : Has Fr M [.vec 44 5 l27.length s27 (l27.flatMap enc44), .vec 44 5 l36.length s36 (l36.flatMap enc44), .vec 40 3 l41.length s41 (l41.flatMap enc40), .vec 40 3 l46.length s46 (l46.flatMap enc40)]), law08_SearchGrows_7 F hd6 v14 v15 v16 v132 l27 l36 l41 l46 = some r → Run Try.prog ⟨⟨7, [], none⟩, []⟩ 171 (law08_SearchGrows_post r) [(7, s27), (9, s36), (10, s41), (12, s46), (14, (.int .i64 v14)), (15, (.int .i64 v15)), (16, (.int .i64 v16)), (132, (.bool v132))] [codeC Try.prog 7 [1, 1, 1, 1, 1, 1, 1, 1, 0, 1, 0, 0, 1, 0, 0, 1, 1], .inBlock 1, codeC Try.prog 7 [1, 1, 1, 1, 1, 1, 1, 1, 0, 1, 0, 0, 1, 1], loopC Try.prog 7 [1, 1, 1, 1, 1, 1, 1, 1, 0, 1, 0, 0], .inBlock 0, codeC Try.prog 7 [1, 1, 1, 1, 1, 1, 1, 1, 1]] M := by
  intro v14 v15 v16 v132 l27 l36 l41 l46 s27 s36 s41 s46 Fr M r hH h
  rw [law08_SearchGrows_7] at h
  rcases btf (v132) with hc60 | hc60
  · have h := bif_t hc60 h
    refine Run.condT' rfl hc60 ?_
    refine Run.region ?_
    refine Run.opG wantS_none (ex_move rfl) rfl ?_
    refine Run.opG wantS_none (ex_add rfl rfl) rfl ?_
    refine Run.opG wantS_none (ex_assign rfl) rfl ?_
    refine Run.opsEnd (Run.inBlock (Run.region ?_))
    exact Run.pick [7, 9, 10, 12, 14, 15, 16] (law08_SearchGrows_8_ok F hd6 hhd6 (w64 (v14 + (1 : Int))) v15 v16 l27 l36 l41 l46 s27 s36 s41 s46 _ _ _ hH h)
  · have h := bif_f hc60 h
    refine Run.condF' rfl hc60 ?_
    refine Run.skip (Run.inBlock (Run.region ?_))
    exact Run.pick [7, 9, 10, 12, 14, 15, 16] (law08_SearchGrows_8_ok F hd6 hhd6 v14 v15 v16 l27 l36 l41 l46 s27 s36 s41 s46 _ _ _ hH h)

def law08_SearchGrows_11 (F : Nat) (hd9 : Int → Int → Int → (List S_api_Candidate) → (List S_api_Pair) → (List S_api_Pair) → Option (Bool)) (v14 v15 v17 : Int) (l27 : (List S_api_Candidate)) (l41 l46 : (List S_api_Pair)) : Option (Bool) :=
  hd9 v14 v15 (w64 (v17 + (1 : Int))) l27 l41 l46

theorem law08_SearchGrows_11_ok (F : Nat) (hd9 : Int → Int → Int → (List S_api_Candidate) → (List S_api_Pair) → (List S_api_Pair) → Option (Bool)) (hhd9 : ∀ (v14 v15 v17 : Int) (l27 : (List S_api_Candidate)) (l41 l46 : (List S_api_Pair)) (s27 s41 s46 : SV) (Fr : Rd) (M : Mem) (r : Bool) (hH : Has Fr M [.vec 44 5 l27.length s27 (l27.flatMap enc44), .vec 40 3 l41.length s41 (l41.flatMap enc40), .vec 40 3 l46.length s46 (l46.flatMap enc40)]), hd9 v14 v15 v17 l27 l41 l46 = some r → Run Try.prog ⟨⟨7, [], none⟩, []⟩ 171 (law08_SearchGrows_post r) [(7, s27), (10, s41), (12, s46), (14, (.int .i64 v14)), (15, (.int .i64 v15)), (17, (.int .i64 v17))] [codeC Try.prog 7 [1, 1, 1, 1, 1, 1, 1, 1, 1, 0, 1, 0, 0], loopC Try.prog 7 [1, 1, 1, 1, 1, 1, 1, 1, 1, 0, 1, 0, 0], .inBlock 2, codeC Try.prog 7 [1, 1, 1, 1, 1, 1, 1, 1, 1, 1]] M) : ∀ (v14 v15 v17 : Int) (l27 : (List S_api_Candidate)) (l41 l46 : (List S_api_Pair)) (s27 s41 s46 : SV) (Fr : Rd) (M : Mem) (r : Bool) (hH : Has Fr M [.vec 44 5 l27.length s27 (l27.flatMap enc44), .vec 40 3 l41.length s41 (l41.flatMap enc40), .vec 40 3 l46.length s46 (l46.flatMap enc40)]), law08_SearchGrows_11 F hd9 v14 v15 v17 l27 l41 l46 = some r → Run Try.prog ⟨⟨7, [], none⟩, []⟩ 171 (law08_SearchGrows_post r) [(7, s27), (10, s41), (12, s46), (14, (.int .i64 v14)), (15, (.int .i64 v15)), (17, (.int .i64 v17))] [itemC Try.prog 7 [1, 1, 1, 1, 1, 1, 1, 1, 1, 0, 1, 0, 0, 1, 1] 0, loopC Try.prog 7 [1, 1, 1, 1, 1, 1, 1, 1, 1, 0, 1, 0, 0], .inBlock 2, codeC Try.prog 7 [1, 1, 1, 1, 1, 1, 1, 1, 1, 1]] M := by
  intro v14 v15 v17 l27 l41 l46 s27 s41 s46 Fr M r hH h
  rw [law08_SearchGrows_11] at h
  refine Run.opG wantS_none (ex_move rfl) rfl ?_
  refine Run.opG wantS_none (ex_add rfl rfl) rfl ?_
  refine Run.opG wantS_none (ex_assign rfl) rfl ?_
  refine Run.opsEnd (Run.inLoop ?_)
  exact Run.pick [7, 10, 12, 14, 15, 17] (hhd9 v14 v15 (w64 (v17 + (1 : Int))) l27 l41 l46 s27 s41 s46 _ _ _ hH h)

def law08_SearchGrows_13 (F : Nat) (v170 : Bool) : Option (Bool) :=
  some v170

theorem law08_SearchGrows_13_ok (F : Nat) : ∀ (v170 : Bool) (Fr : Rd) (M : Mem) (r : Bool) (hH : Has Fr M []), law08_SearchGrows_13 F v170 = some r → Run Try.prog ⟨⟨7, [], none⟩, []⟩ 171 (law08_SearchGrows_post r) [(170, (.bool v170))] [itemC Try.prog 7 [1, 1, 1, 1, 1, 1, 1, 1, 1, 1, 0] 13, codeC Try.prog 7 [1, 1, 1, 1, 1, 1, 1, 1, 1, 1, 1]] M := by
  intro v170 Fr M r hH h
  rw [law08_SearchGrows_13] at h
  refine Run.opG wantS_none (ex_assign rfl) rfl ?_
  refine Run.opsEnd ?_
  cases h
  exact Run.ret Try.func7 rfl (res_tmp rfl res_nil) rfl

def law08_SearchGrows_12 (F : Nat) (v167 : Bool) : Option (Bool) :=
  bif v167 then
    bnd (works F) fun r69 =>
    law08_SearchGrows_13 F r69
  else
    law08_SearchGrows_13 F false

theorem law08_SearchGrows_12_ok (F : Nat) : ∀ (v167 : Bool) (Fr : Rd) (M : Mem) (r : Bool) (hH : Has Fr M []), law08_SearchGrows_12 F v167 = some r → Run Try.prog ⟨⟨7, [], none⟩, []⟩ 171 (law08_SearchGrows_post r) [(167, (.bool v167))] [itemC Try.prog 7 [1, 1, 1, 1, 1, 1, 1, 1, 1, 1, 0] 10, codeC Try.prog 7 [1, 1, 1, 1, 1, 1, 1, 1, 1, 1, 1]] M := by
  intro v167 Fr M r hH h
  rw [law08_SearchGrows_12] at h
  refine Run.opG wantS_none (ex_move rfl) rfl ?_
  rcases btf (v167) with hc67 | hc67
  · have h := bif_t hc67 h
    obtain ⟨r69, hr69, h⟩ := bnd_some h
    refine Run.callP (wantS_yes' rfl rfl hc67) (ex_call rfl mkk12 cal12) rfl (works_ok F r69 _ hH  hr69) ?_
    refine Run.opG wantS_none (ex_pickT' rfl hc67 rfl rfl) rfl ?_
    exact Run.pick [170] (law08_SearchGrows_13_ok F r69 _ _ _ hH h)
  · have h := bif_f hc67 h
    refine Run.no (wantS_not' rfl rfl hc67) rfl ?_
    refine Run.opG wantS_none (ex_pickF' rfl hc67 rfl rfl) rfl ?_
    exact Run.pick [170] (law08_SearchGrows_13_ok F false _ _ _ hH h)

def law08_SearchGrows_10 (F : Nat) (hd9 : Int → Int → Int → (List S_api_Candidate) → (List S_api_Pair) → (List S_api_Pair) → Option (Bool)) (v14 v15 v17 : Int) (v144 : Bool) (l27 : (List S_api_Candidate)) (l41 l46 : (List S_api_Pair)) : Option (Bool) :=
  bif v144 then
    bnd (idx l46 v17) fun x63 =>
    bnd (idx l41 v15) fun x64 =>
    bif ((x63.A == x64.A) && ((x63.B == x64.B) && ((x63.Loud == x64.Loud) && true))) then
      law08_SearchGrows_11 F hd9 v14 (w64 (v15 + (1 : Int))) v17 l27 l41 l46
    else
      law08_SearchGrows_11 F hd9 v14 v15 v17 l27 l41 l46
  else
    bif (v14 == (l27.length : Int)) then
      law08_SearchGrows_12 F (v15 == (l41.length : Int))
    else
      law08_SearchGrows_12 F false

theorem law08_SearchGrows_10_ok (F : Nat) (hd9 : Int → Int → Int → (List S_api_Candidate) → (List S_api_Pair) → (List S_api_Pair) → Option (Bool)) (hhd9 : ∀ (v14 v15 v17 : Int) (l27 : (List S_api_Candidate)) (l41 l46 : (List S_api_Pair)) (s27 s41 s46 : SV) (Fr : Rd) (M : Mem) (r : Bool) (hH : Has Fr M [.vec 44 5 l27.length s27 (l27.flatMap enc44), .vec 40 3 l41.length s41 (l41.flatMap enc40), .vec 40 3 l46.length s46 (l46.flatMap enc40)]), hd9 v14 v15 v17 l27 l41 l46 = some r → Run Try.prog ⟨⟨7, [], none⟩, []⟩ 171 (law08_SearchGrows_post r) [(7, s27), (10, s41), (12, s46), (14, (.int .i64 v14)), (15, (.int .i64 v15)), (17, (.int .i64 v17))] [codeC Try.prog 7 [1, 1, 1, 1, 1, 1, 1, 1, 1, 0, 1, 0, 0], loopC Try.prog 7 [1, 1, 1, 1, 1, 1, 1, 1, 1, 0, 1, 0, 0], .inBlock 2, codeC Try.prog 7 [1, 1, 1, 1, 1, 1, 1, 1, 1, 1]] M) : ∀ (v14 v15 v17 : Int) (v144 : Bool) (l27 : (List S_api_Candidate)) (l41 l46 : (List S_api_Pair)) (s27 s41 s46 : SV) (Fr : Rd) (M : Mem) (r : Bool) (hH : Has Fr M [.vec 44 5 l27.length s27 (l27.flatMap enc44), .vec 40 3 l41.length s41 (l41.flatMap enc40), .vec 40 3 l46.length s46 (l46.flatMap enc40)]), law08_SearchGrows_10 F hd9 v14 v15 v17 v144 l27 l41 l46 = some r → Run Try.prog ⟨⟨7, [], none⟩, []⟩ 171 (law08_SearchGrows_post r) [(7, s27), (10, s41), (12, s46), (14, (.int .i64 v14)), (15, (.int .i64 v15)), (17, (.int .i64 v17)), (144, (.bool v144))] [codeC Try.prog 7 [1, 1, 1, 1, 1, 1, 1, 1, 1, 0, 1, 0, 0, 0, 1], codeC Try.prog 7 [1, 1, 1, 1, 1, 1, 1, 1, 1, 0, 1, 0, 0, 1], loopC Try.prog 7 [1, 1, 1, 1, 1, 1, 1, 1, 1, 0, 1, 0, 0], .inBlock 2, codeC Try.prog 7 [1, 1, 1, 1, 1, 1, 1, 1, 1, 1]] M := by
  intro v14 v15 v17 v144 l27 l41 l46 s27 s41 s46 Fr M r hH h
  rw [law08_SearchGrows_10] at h
  rcases btf (v144) with hc62 | hc62
  · have h := bif_t hc62 h
    refine Run.condT' rfl hc62 ?_
    refine Run.skip (Run.seq (Run.block (Run.seq ?_)))
    refine Run.drawG plan7_1_1_1_1_1_1_1_1_1_0_1_0_0_1_0_0_0 ?_
    refine DrawG.fl rfl (ev_ex wantS_none (ex_move rfl)) rfl ?_
    refine DrawG.fl rfl (ev_ex wantS_none (ex_move rfl)) rfl ?_
    obtain ⟨x63, hx63, h⟩ := bnd_some h
    obtain ⟨p63, o63, hb63, hx63, he63⟩ := vec_elem (P := Try.prog) (t := 52) (kk := .i64) hH (i := 2) rfl hx63 els52
    refine DrawG.fl rfl (ev_ex wantS_none (ex_elX rfl rfl hx63)) rfl ?_
    refine DrawG.fl rfl (ev_ex wantS_none (ex_loadA rfl (hH.at (enc := enc40) (a := x63) (i := 2) rfl hb63 he63 enc40_len) rdLe_rfl agg40 rfl rfl rfl)) rfl ?_
    refine DrawG.fl rfl (ev_ex wantS_none (ex_move rfl)) rfl ?_
    refine DrawG.fl rfl (ev_ex wantS_none (ex_move rfl)) rfl ?_
    obtain ⟨x64, hx64, h⟩ := bnd_some h
    obtain ⟨p64, o64, hb64, hx64, he64⟩ := vec_elem (P := Try.prog) (t := 52) (kk := .i64) hH (i := 1) rfl hx64 els52
    refine DrawG.fl rfl (ev_ex wantS_none (ex_elX rfl rfl hx64)) rfl ?_
    refine DrawG.fl rfl (ev_ex wantS_none (ex_loadA rfl (hH.at (enc := enc40) (a := x64) (i := 1) rfl hb64 he64 enc40_len) rdLe_rfl agg40 rfl rfl rfl)) rfl ?_
    refine DrawG.fl rfl (ev_ex wantS_none (ex_eqlA rfl rfl aeq40 (eqA_st agk40 (eqFs_cons (by decide) (part_one agg3 rfl) (part_one agg3 rfl) (eqA_int agk3) (eqFs_cons (by decide) (part_one agg3 rfl) (part_one agg3 rfl) (eqA_int agk3) (eqFs_cons (by decide) (part_one agg3 rfl) (part_one agg3 rfl) (eqA_int agk3) eqFs_nil)))))) rfl ?_
    refine DrawG.sync ?_
    refine DrawG.nil ?_
    rcases btf (((x63.A == x64.A) && ((x63.B == x64.B) && ((x63.Loud == x64.Loud) && true)))) with hc65 | hc65
    · have h := bif_t hc65 h
      refine Run.condT' rfl hc65 ?_
      refine Run.region ?_
      refine Run.opG wantS_none (ex_move rfl) rfl ?_
      refine Run.opG wantS_none (ex_add rfl rfl) rfl ?_
      refine Run.opG wantS_none (ex_assign rfl) rfl ?_
      refine Run.opsEnd (Run.inBlock (Run.region ?_))
      exact Run.pick [7, 10, 12, 14, 15, 17] (law08_SearchGrows_11_ok F hd9 hhd9 v14 (w64 (v15 + (1 : Int))) v17 l27 l41 l46 s27 s41 s46 _ _ _ hH h)
    · have h := bif_f hc65 h
      refine Run.condF' rfl hc65 ?_
      refine Run.skip (Run.inBlock (Run.region ?_))
      exact Run.pick [7, 10, 12, 14, 15, 17] (law08_SearchGrows_11_ok F hd9 hhd9 v14 v15 v17 l27 l41 l46 s27 s41 s46 _ _ _ hH h)
  · have h := bif_f hc62 h
    refine Run.condF' rfl hc62 ?_
    refine Run.exit rfl (Run.seq (Run.region ?_))
    refine Run.opG wantS_none (ex_move rfl) rfl ?_
    refine Run.opG wantS_none (ex_move rfl) rfl ?_
    refine Run.opG wantS_none (ex_len' rfl (hH.slc (i := 0) rfl enc44_len) lenk36) rfl ?_
    refine Run.opG wantS_none (ex_eql rfl rfl) rfl ?_
    refine Run.opG wantS_none (ex_move rfl) rfl ?_
    rcases btf ((v14 == (l27.length : Int))) with hc66 | hc66
    · have h := bif_t hc66 h
      refine Run.opG (wantS_yes' rfl rfl hc66) (ex_move rfl) rfl ?_
      refine Run.opG (wantS_yes' rfl rfl hc66) (ex_move rfl) rfl ?_
      refine Run.opG (wantS_yes' rfl rfl hc66) (ex_len' rfl (hH.slc (i := 1) rfl enc40_len) lenk52) rfl ?_
      refine Run.opG (wantS_yes' rfl rfl hc66) (ex_eql rfl rfl) rfl ?_
      refine Run.opG wantS_none (ex_pickT' rfl hc66 rfl rfl) rfl ?_
      exact Run.pick [167] (law08_SearchGrows_12_ok F (v15 == (l41.length : Int)) _ _ _ (hH.pick [] rfl rfl) h)
    · have h := bif_f hc66 h
      refine Run.no (wantS_not' rfl rfl hc66) rfl ?_
      refine Run.no (wantS_not' rfl rfl hc66) rfl ?_
      refine Run.no (wantS_not' rfl rfl hc66) rfl ?_
      refine Run.no (wantS_not' rfl rfl hc66) rfl ?_
      refine Run.opG wantS_none (ex_pickF' rfl hc66 rfl rfl) rfl ?_
      exact Run.pick [167] (law08_SearchGrows_12_ok F false _ _ _ (hH.pick [] rfl rfl) h)

def law08_SearchGrows_9 (F : Nat) : Nat → Int → Int → Int → (List S_api_Candidate) → (List S_api_Pair) → (List S_api_Pair) → Option (Bool)
  | 0, _, _, _, _, _, _ => none
  | N + 1, v14, v15, v17, l27, l41, l46 =>
    bif (decide (v17 < (l46.length : Int))) then
      law08_SearchGrows_10 F (law08_SearchGrows_9 F N) v14 v15 v17 (decide (v15 < (l41.length : Int))) l27 l41 l46
    else
      law08_SearchGrows_10 F (law08_SearchGrows_9 F N) v14 v15 v17 false l27 l41 l46

theorem law08_SearchGrows_9_ok (F : Nat) : ∀ (N : Nat), ∀ (v14 v15 v17 : Int) (l27 : (List S_api_Candidate)) (l41 l46 : (List S_api_Pair)) (s27 s41 s46 : SV) (Fr : Rd) (M : Mem) (r : Bool) (hH : Has Fr M [.vec 44 5 l27.length s27 (l27.flatMap enc44), .vec 40 3 l41.length s41 (l41.flatMap enc40), .vec 40 3 l46.length s46 (l46.flatMap enc40)]), law08_SearchGrows_9 F N v14 v15 v17 l27 l41 l46 = some r → Run Try.prog ⟨⟨7, [], none⟩, []⟩ 171 (law08_SearchGrows_post r) [(7, s27), (10, s41), (12, s46), (14, (.int .i64 v14)), (15, (.int .i64 v15)), (17, (.int .i64 v17))] [codeC Try.prog 7 [1, 1, 1, 1, 1, 1, 1, 1, 1, 0, 1, 0, 0], loopC Try.prog 7 [1, 1, 1, 1, 1, 1, 1, 1, 1, 0, 1, 0, 0], .inBlock 2, codeC Try.prog 7 [1, 1, 1, 1, 1, 1, 1, 1, 1, 1]] M := by
  intro N
  induction N with
  | zero =>
    intro v14 v15 v17 l27 l41 l46 s27 s41 s46 Fr M r hH h
    simp [law08_SearchGrows_9] at h
  | succ N ih =>
    intro v14 v15 v17 l27 l41 l46 s27 s41 s46 Fr M r hH h
    rw [law08_SearchGrows_9] at h
    refine Run.seq (Run.seq (Run.region ?_))
    refine Run.opG wantS_none (ex_move rfl) rfl ?_
    refine Run.opG wantS_none (ex_move rfl) rfl ?_
    refine Run.opG wantS_none (ex_len' rfl (hH.slc (i := 2) rfl enc40_len) lenk52) rfl ?_
    refine Run.opG wantS_none (ex_lss rfl rfl) rfl ?_
    refine Run.opG wantS_none (ex_move rfl) rfl ?_
    rcases btf ((decide (v17 < (l46.length : Int)))) with hc61 | hc61
    · have h := bif_t hc61 h
      refine Run.opG (wantS_yes' rfl rfl hc61) (ex_move rfl) rfl ?_
      refine Run.opG (wantS_yes' rfl rfl hc61) (ex_move rfl) rfl ?_
      refine Run.opG (wantS_yes' rfl rfl hc61) (ex_len' rfl (hH.slc (i := 1) rfl enc40_len) lenk52) rfl ?_
      refine Run.opG (wantS_yes' rfl rfl hc61) (ex_lss rfl rfl) rfl ?_
      refine Run.opG wantS_none (ex_pickT' rfl hc61 rfl rfl) rfl ?_
      refine Run.opsEnd ?_
      exact Run.pick [7, 10, 12, 14, 15, 17, 144] (law08_SearchGrows_10_ok F (law08_SearchGrows_9 F N) ih v14 v15 v17 (decide (v15 < (l41.length : Int))) l27 l41 l46 s27 s41 s46 _ _ _ hH h)
    · have h := bif_f hc61 h
      refine Run.no (wantS_not' rfl rfl hc61) rfl ?_
      refine Run.no (wantS_not' rfl rfl hc61) rfl ?_
      refine Run.no (wantS_not' rfl rfl hc61) rfl ?_
      refine Run.no (wantS_not' rfl rfl hc61) rfl ?_
      refine Run.opG wantS_none (ex_pickF' rfl hc61 rfl rfl) rfl ?_
      refine Run.opsEnd ?_
      exact Run.pick [7, 10, 12, 14, 15, 17, 144] (law08_SearchGrows_10_ok F (law08_SearchGrows_9 F N) ih v14 v15 v17 false l27 l41 l46 s27 s41 s46 _ _ _ hH h)

def law08_SearchGrows_6 (F : Nat) : Nat → Int → Int → Int → (List S_api_Candidate) → (List S_api_Candidate) → (List S_api_Pair) → (List S_api_Pair) → Option (Bool)
  | 0, _, _, _, _, _, _, _ => none
  | N + 1, v14, v15, v16, l27, l36, l41, l46 =>
    bif (decide (v16 < (l36.length : Int))) then
      bnd (idx l36 v16) fun x54 =>
      bnd (idx l41 v16) fun x55 =>
      bif (!((x54.Pair.A == x55.A) && ((x54.Pair.B == x55.B) && ((x54.Pair.Loud == x55.Loud) && true)))) then
        some false
      else
        bif (decide (v14 < (l27.length : Int))) then
          bnd (idx l27 v14) fun x58 =>
          bnd (idx l36 v16) fun x59 =>
          law08_SearchGrows_7 F (law08_SearchGrows_6 F N) v14 v15 v16 (((x58.Pair.A == x59.Pair.A) && ((x58.Pair.B == x59.Pair.B) && ((x58.Pair.Loud == x59.Pair.Loud) && true))) && (((x58.Chance.N == x59.Chance.N) && ((x58.Chance.Of == x59.Chance.Of) && true)) && true)) l27 l36 l41 l46
        else
          law08_SearchGrows_7 F (law08_SearchGrows_6 F N) v14 v15 v16 false l27 l36 l41 l46
    else
      law08_SearchGrows_9 F F v14 v15 (0 : Int) l27 l41 l46

theorem law08_SearchGrows_6_ok (F : Nat) : ∀ (N : Nat), ∀ (v14 v15 v16 : Int) (l27 l36 : (List S_api_Candidate)) (l41 l46 : (List S_api_Pair)) (s27 s36 s41 s46 : SV) (Fr : Rd) (M : Mem) (r : Bool) (hH : Has Fr M [.vec 44 5 l27.length s27 (l27.flatMap enc44), .vec 44 5 l36.length s36 (l36.flatMap enc44), .vec 40 3 l41.length s41 (l41.flatMap enc40), .vec 40 3 l46.length s46 (l46.flatMap enc40)]), law08_SearchGrows_6 F N v14 v15 v16 l27 l36 l41 l46 = some r → Run Try.prog ⟨⟨7, [], none⟩, []⟩ 171 (law08_SearchGrows_post r) [(7, s27), (9, s36), (10, s41), (12, s46), (14, (.int .i64 v14)), (15, (.int .i64 v15)), (16, (.int .i64 v16))] [codeC Try.prog 7 [1, 1, 1, 1, 1, 1, 1, 1, 0, 1, 0, 0], loopC Try.prog 7 [1, 1, 1, 1, 1, 1, 1, 1, 0, 1, 0, 0], .inBlock 0, codeC Try.prog 7 [1, 1, 1, 1, 1, 1, 1, 1, 1]] M := by
  intro N
  induction N with
  | zero =>
    intro v14 v15 v16 l27 l36 l41 l46 s27 s36 s41 s46 Fr M r hH h
    simp [law08_SearchGrows_6] at h
  | succ N ih =>
    intro v14 v15 v16 l27 l36 l41 l46 s27 s36 s41 s46 Fr M r hH h
    rw [law08_SearchGrows_6] at h
    refine Run.seq (Run.seq (Run.region ?_))
    refine Run.opG wantS_none (ex_move rfl) rfl ?_
    refine Run.opG wantS_none (ex_move rfl) rfl ?_
    refine Run.opG wantS_none (ex_len' rfl (hH.slc (i := 1) rfl enc44_len) lenk36) rfl ?_
    refine Run.opG wantS_none (ex_lss rfl rfl) rfl ?_
    refine Run.opsEnd ?_
    rcases btf ((decide (v16 < (l36.length : Int)))) with hc53 | hc53
    · have h := bif_t hc53 h
      refine Run.condT' rfl hc53 ?_
      refine Run.skip (Run.seq (Run.block (Run.seq (Run.seq ?_))))
      refine Run.drawG plan7_1_1_1_1_1_1_1_1_0_1_0_0_1_0_0_0_0 ?_
      refine DrawG.fl rfl (ev_ex wantS_none (ex_move rfl)) rfl ?_
      refine DrawG.fl rfl (ev_ex wantS_none (ex_move rfl)) rfl ?_
      obtain ⟨x54, hx54, h⟩ := bnd_some h
      obtain ⟨p54, o54, hb54, hx54, he54⟩ := vec_elem (P := Try.prog) (t := 36) (kk := .i64) hH (i := 1) rfl hx54 els36
      refine DrawG.fl rfl (ev_ex wantS_none (ex_elX rfl rfl hx54)) rfl ?_
      refine DrawG.fl rfl (ev_ex wantS_none (ex_fieldAddr rfl off44_0)) rfl ?_
      refine DrawG.fl rfl (ev_ex wantS_none (ex_loadA rfl ((hH.at (enc := enc44) (a := x54) (i := 1) rfl hb54 he54 enc44_len).fld (o := 0) rfl) rdLe_rfl agg40 rfl rfl rfl)) rfl ?_
      refine DrawG.fl rfl (ev_ex wantS_none (ex_move rfl)) rfl ?_
      refine DrawG.fl rfl (ev_ex wantS_none (ex_move rfl)) rfl ?_
      obtain ⟨x55, hx55, h⟩ := bnd_some h
      obtain ⟨p55, o55, hb55, hx55, he55⟩ := vec_elem (P := Try.prog) (t := 52) (kk := .i64) hH (i := 2) rfl hx55 els52
      refine DrawG.fl rfl (ev_ex wantS_none (ex_elX rfl rfl hx55)) rfl ?_
      refine DrawG.fl rfl (ev_ex wantS_none (ex_loadA rfl (hH.at (enc := enc40) (a := x55) (i := 2) rfl hb55 he55 enc40_len) rdLe_rfl agg40 rfl rfl rfl)) rfl ?_
      refine DrawG.fl rfl (ev_ex wantS_none (ex_neqA rfl rfl aeq40 (eqA_st agk40 (eqFs_cons (by decide) (part_one agg3 rfl) (part_one agg3 rfl) (eqA_int agk3) (eqFs_cons (by decide) (part_one agg3 rfl) (part_one agg3 rfl) (eqA_int agk3) (eqFs_cons (by decide) (part_one agg3 rfl) (part_one agg3 rfl) (eqA_int agk3) eqFs_nil)))))) rfl ?_
      refine DrawG.sync ?_
      refine DrawG.nil ?_
      rcases btf ((!((x54.Pair.A == x55.A) && ((x54.Pair.B == x55.B) && ((x54.Pair.Loud == x55.Loud) && true))))) with hc56 | hc56
      · have h := bif_t hc56 h
        refine Run.condT' rfl hc56 ?_
        refine Run.seq (Run.region ?_)
        refine Run.opG wantS_none (ex_assign rfl) rfl ?_
        refine Run.opsEnd ?_
        cases h
        exact Run.ret Try.func7 rfl (res_tmp rfl res_nil) rfl
      · have h := bif_f hc56 h
        refine Run.condF' rfl hc56 ?_
        refine Run.skip (Run.seq ?_)
        refine Run.drawG plan7_1_1_1_1_1_1_1_1_0_1_0_0_1_0_0_1_0 ?_
        refine DrawG.fl rfl (ev_ex wantS_none (ex_move rfl)) rfl ?_
        refine DrawG.fl rfl (ev_ex wantS_none (ex_move rfl)) rfl ?_
        refine DrawG.fl rfl (ev_ex wantS_none (ex_len' rfl (hH.slc (i := 0) rfl enc44_len) lenk36)) rfl ?_
        refine DrawG.fl rfl (ev_ex wantS_none (ex_lss rfl rfl)) rfl ?_
        refine DrawG.fl rfl (ev_ex wantS_none (ex_move rfl)) rfl ?_
        rcases btf ((decide (v14 < (l27.length : Int)))) with hc57 | hc57
        · have h := bif_t hc57 h
          refine DrawG.fl rfl (ev_ex (wantS_yes' rfl rfl hc57) (ex_move rfl)) rfl ?_
          refine DrawG.fl rfl (ev_ex (wantS_yes' rfl rfl hc57) (ex_move rfl)) rfl ?_
          obtain ⟨x58, hx58, h⟩ := bnd_some h
          obtain ⟨p58, o58, hb58, hx58, he58⟩ := vec_elem (P := Try.prog) (t := 36) (kk := .i64) hH (i := 0) rfl hx58 els36
          refine DrawG.fl rfl (ev_ex (wantS_yes' rfl rfl hc57) (ex_elX rfl rfl hx58)) rfl ?_
          refine DrawG.fl rfl (ev_ex (wantS_yes' rfl rfl hc57) (ex_loadA rfl (hH.at (enc := enc44) (a := x58) (i := 0) rfl hb58 he58 enc44_len) rdLe_rfl agg44 rfl rfl rfl)) rfl ?_
          refine DrawG.fl rfl (ev_ex (wantS_yes' rfl rfl hc57) (ex_move rfl)) rfl ?_
          refine DrawG.fl rfl (ev_ex (wantS_yes' rfl rfl hc57) (ex_move rfl)) rfl ?_
          obtain ⟨x59, hx59, h⟩ := bnd_some h
          obtain ⟨p59, o59, hb59, hx59, he59⟩ := vec_elem (P := Try.prog) (t := 36) (kk := .i64) hH (i := 1) rfl hx59 els36
          refine DrawG.fl rfl (ev_ex (wantS_yes' rfl rfl hc57) (ex_elX rfl rfl hx59)) rfl ?_
          refine DrawG.fl rfl (ev_ex (wantS_yes' rfl rfl hc57) (ex_loadA rfl (hH.at (enc := enc44) (a := x59) (i := 1) rfl hb59 he59 enc44_len) rdLe_rfl agg44 rfl rfl rfl)) rfl ?_
          refine DrawG.fl rfl (ev_ex (wantS_yes' rfl rfl hc57) (ex_eqlA rfl rfl aeq44 (eqA_st agk44 (eqFs_cons (by decide) (part_agg agg40 rfl) (part_agg agg40 rfl) (eqA_st agk40 (eqFs_cons (by decide) (part_one agg3 rfl) (part_one agg3 rfl) (eqA_int agk3) (eqFs_cons (by decide) (part_one agg3 rfl) (part_one agg3 rfl) (eqA_int agk3) (eqFs_cons (by decide) (part_one agg3 rfl) (part_one agg3 rfl) (eqA_int agk3) eqFs_nil)))) (eqFs_cons (by decide) (part_agg agg42 rfl) (part_agg agg42 rfl) (eqA_st agk42 (eqFs_cons (by decide) (part_one agg3 rfl) (part_one agg3 rfl) (eqA_int agk3) (eqFs_cons (by decide) (part_one agg3 rfl) (part_one agg3 rfl) (eqA_int agk3) eqFs_nil))) eqFs_nil))))) rfl ?_
          refine DrawG.fl rfl (ev_ex wantS_none (ex_pickT' rfl hc57 rfl rfl)) rfl ?_
          refine DrawG.sync ?_
          refine DrawG.nil ?_
          exact Run.pick [7, 9, 10, 12, 14, 15, 16, 132] (law08_SearchGrows_7_ok F (law08_SearchGrows_6 F N) ih v14 v15 v16 (((x58.Pair.A == x59.Pair.A) && ((x58.Pair.B == x59.Pair.B) && ((x58.Pair.Loud == x59.Pair.Loud) && true))) && (((x58.Chance.N == x59.Chance.N) && ((x58.Chance.Of == x59.Chance.Of) && true)) && true)) l27 l36 l41 l46 s27 s36 s41 s46 _ _ _ hH h)
        · have h := bif_f hc57 h
          refine DrawG.fl rfl (ev_no (wantS_not' rfl rfl hc57)) rfl ?_
          refine DrawG.fl rfl (ev_no (wantS_not' rfl rfl hc57)) rfl ?_
          refine DrawG.fl rfl (ev_no (wantS_not' rfl rfl hc57)) rfl ?_
          refine DrawG.fl rfl (ev_no (wantS_not' rfl rfl hc57)) rfl ?_
          refine DrawG.fl rfl (ev_no (wantS_not' rfl rfl hc57)) rfl ?_
          refine DrawG.fl rfl (ev_no (wantS_not' rfl rfl hc57)) rfl ?_
          refine DrawG.fl rfl (ev_no (wantS_not' rfl rfl hc57)) rfl ?_
          refine DrawG.fl rfl (ev_no (wantS_not' rfl rfl hc57)) rfl ?_
          refine DrawG.fl rfl (ev_no (wantS_not' rfl rfl hc57)) rfl ?_
          refine DrawG.fl rfl (ev_ex wantS_none (ex_pickF' rfl hc57 rfl rfl)) rfl ?_
          refine DrawG.sync ?_
          refine DrawG.nil ?_
          exact Run.pick [7, 9, 10, 12, 14, 15, 16, 132] (law08_SearchGrows_7_ok F (law08_SearchGrows_6 F N) ih v14 v15 v16 false l27 l36 l41 l46 s27 s36 s41 s46 _ _ _ hH h)
    · have h := bif_f hc53 h
      refine Run.condF' rfl hc53 ?_
      refine Run.exit rfl (Run.seq (Run.seq (Run.region ?_)))
      refine Run.opG wantS_none (ex_assign rfl) rfl ?_
      refine Run.opsEnd (Run.block (Run.loop ?_))
      exact Run.pick [7, 10, 12, 14, 15, 17] (law08_SearchGrows_9_ok F F v14 v15 (0 : Int) l27 l41 l46 s27 s41 s46 _ _ _ (hH.pick [0, 2, 3] rfl rfl) h)

def law08_SearchGrows_5 (F : Nat) (v101 : Bool) (l27 l36 : (List S_api_Candidate)) (l41 l46 : (List S_api_Pair)) : Option (Bool) :=
  bif v101 then
    some false
  else
    law08_SearchGrows_6 F F (0 : Int) (0 : Int) (0 : Int) l27 l36 l41 l46

theorem law08_SearchGrows_5_ok (F : Nat) : ∀ (v101 : Bool) (l27 l36 : (List S_api_Candidate)) (l41 l46 : (List S_api_Pair)) (s27 s36 s41 s46 : SV) (Fr : Rd) (M : Mem) (r : Bool) (hH : Has Fr M [.vec 44 5 l27.length s27 (l27.flatMap enc44), .vec 44 5 l36.length s36 (l36.flatMap enc44), .vec 40 3 l41.length s41 (l41.flatMap enc40), .vec 40 3 l46.length s46 (l46.flatMap enc40)]), law08_SearchGrows_5 F v101 l27 l36 l41 l46 = some r → Run Try.prog ⟨⟨7, [], none⟩, []⟩ 171 (law08_SearchGrows_post r) [(7, s27), (9, s36), (10, s41), (12, s46), (101, (.bool v101))] [codeC Try.prog 7 [1, 1, 1, 1, 1, 1, 0, 1], codeC Try.prog 7 [1, 1, 1, 1, 1, 1, 1]] M := by
  intro v101 l27 l36 l41 l46 s27 s36 s41 s46 Fr M r hH h
  rw [law08_SearchGrows_5] at h
  rcases btf (v101) with hc52 | hc52
  · have h := bif_t hc52 h
    refine Run.condT' rfl hc52 ?_
    refine Run.seq (Run.region ?_)
    refine Run.opG wantS_none (ex_assign rfl) rfl ?_
    refine Run.opsEnd ?_
    cases h
    exact Run.ret Try.func7 rfl (res_tmp rfl res_nil) rfl
  · have h := bif_f hc52 h
    refine Run.condF' rfl hc52 ?_
    refine Run.skip (Run.seq (Run.region ?_))
    refine Run.opG wantS_none (ex_assign rfl) rfl ?_
    refine Run.opG wantS_none (ex_assign rfl) rfl ?_
    refine Run.opsEnd (Run.seq (Run.seq (Run.region ?_)))
    refine Run.opG wantS_none (ex_assign rfl) rfl ?_
    refine Run.opsEnd (Run.block (Run.loop ?_))
    exact Run.pick [7, 9, 10, 12, 14, 15, 16] (law08_SearchGrows_6_ok F F (0 : Int) (0 : Int) (0 : Int) l27 l36 l41 l46 s27 s36 s41 s46 _ _ _ hH h)

def law08_SearchGrows_4 (F : Nat) (v94 : Bool) (l27 l36 : (List S_api_Candidate)) (l41 l46 : (List S_api_Pair)) : Option (Bool) :=
  bif v94 then
    law08_SearchGrows_5 F true l27 l36 l41 l46
  else
    law08_SearchGrows_5 F (decide ((l46.length : Int) < (l41.length : Int))) l27 l36 l41 l46

theorem law08_SearchGrows_4_ok (F : Nat) : ∀ (v94 : Bool) (l27 l36 : (List S_api_Candidate)) (l41 l46 : (List S_api_Pair)) (s27 s36 s41 s46 : SV) (Fr : Rd) (M : Mem) (r : Bool) (hH : Has Fr M [.vec 44 5 l27.length s27 (l27.flatMap enc44), .vec 44 5 l36.length s36 (l36.flatMap enc44), .vec 40 3 l41.length s41 (l41.flatMap enc40), .vec 40 3 l46.length s46 (l46.flatMap enc40)]), law08_SearchGrows_4 F v94 l27 l36 l41 l46 = some r → Run Try.prog ⟨⟨7, [], none⟩, []⟩ 171 (law08_SearchGrows_post r) [(7, s27), (9, s36), (10, s41), (12, s46), (94, (.bool v94))] [itemC Try.prog 7 [1, 1, 1, 1, 1, 1, 0, 0] 17, codeC Try.prog 7 [1, 1, 1, 1, 1, 1, 0, 1], codeC Try.prog 7 [1, 1, 1, 1, 1, 1, 1]] M := by
  intro v94 l27 l36 l41 l46 s27 s36 s41 s46 Fr M r hH h
  rw [law08_SearchGrows_4] at h
  refine Run.opG wantS_none (ex_move rfl) rfl ?_
  rcases btf (v94) with hc51 | hc51
  · have h := bif_t hc51 h
    refine Run.no (wantS_not' rfl rfl hc51) rfl ?_
    refine Run.no (wantS_not' rfl rfl hc51) rfl ?_
    refine Run.no (wantS_not' rfl rfl hc51) rfl ?_
    refine Run.no (wantS_not' rfl rfl hc51) rfl ?_
    refine Run.no (wantS_not' rfl rfl hc51) rfl ?_
    refine Run.opG wantS_none (ex_pickT' rfl hc51 rfl rfl) rfl ?_
    refine Run.opsEnd ?_
    exact Run.pick [7, 9, 10, 12, 101] (law08_SearchGrows_5_ok F true l27 l36 l41 l46 s27 s36 s41 s46 _ _ _ hH h)
  · have h := bif_f hc51 h
    refine Run.opG (wantS_yes' rfl rfl hc51) (ex_move rfl) rfl ?_
    refine Run.opG (wantS_yes' rfl rfl hc51) (ex_len' rfl (hH.slc (i := 3) rfl enc40_len) lenk52) rfl ?_
    refine Run.opG (wantS_yes' rfl rfl hc51) (ex_move rfl) rfl ?_
    refine Run.opG (wantS_yes' rfl rfl hc51) (ex_len' rfl (hH.slc (i := 2) rfl enc40_len) lenk52) rfl ?_
    refine Run.opG (wantS_yes' rfl rfl hc51) (ex_lss rfl rfl) rfl ?_
    refine Run.opG wantS_none (ex_pickF' rfl hc51 rfl rfl) rfl ?_
    refine Run.opsEnd ?_
    exact Run.pick [7, 9, 10, 12, 101] (law08_SearchGrows_5_ok F (decide ((l46.length : Int) < (l41.length : Int))) l27 l36 l41 l46 s27 s36 s41 s46 _ _ _ hH h)

def law08_SearchGrows_3 (F : Nat) (v87 : Bool) (l27 l36 : (List S_api_Candidate)) (l41 l46 : (List S_api_Pair)) : Option (Bool) :=
  bif v87 then
    law08_SearchGrows_4 F true l27 l36 l41 l46
  else
    law08_SearchGrows_4 F (!((l36.length : Int) == (l41.length : Int))) l27 l36 l41 l46

theorem law08_SearchGrows_3_ok (F : Nat) : ∀ (v87 : Bool) (l27 l36 : (List S_api_Candidate)) (l41 l46 : (List S_api_Pair)) (s27 s36 s41 s46 : SV) (Fr : Rd) (M : Mem) (r : Bool) (hH : Has Fr M [.vec 44 5 l27.length s27 (l27.flatMap enc44), .vec 44 5 l36.length s36 (l36.flatMap enc44), .vec 40 3 l41.length s41 (l41.flatMap enc40), .vec 40 3 l46.length s46 (l46.flatMap enc40)]), law08_SearchGrows_3 F v87 l27 l36 l41 l46 = some r → Run Try.prog ⟨⟨7, [], none⟩, []⟩ 171 (law08_SearchGrows_post r) [(7, s27), (9, s36), (10, s41), (12, s46), (87, (.bool v87))] [itemC Try.prog 7 [1, 1, 1, 1, 1, 1, 0, 0] 10, codeC Try.prog 7 [1, 1, 1, 1, 1, 1, 0, 1], codeC Try.prog 7 [1, 1, 1, 1, 1, 1, 1]] M := by
  intro v87 l27 l36 l41 l46 s27 s36 s41 s46 Fr M r hH h
  rw [law08_SearchGrows_3] at h
  refine Run.opG wantS_none (ex_move rfl) rfl ?_
  rcases btf (v87) with hc50 | hc50
  · have h := bif_t hc50 h
    refine Run.no (wantS_not' rfl rfl hc50) rfl ?_
    refine Run.no (wantS_not' rfl rfl hc50) rfl ?_
    refine Run.no (wantS_not' rfl rfl hc50) rfl ?_
    refine Run.no (wantS_not' rfl rfl hc50) rfl ?_
    refine Run.no (wantS_not' rfl rfl hc50) rfl ?_
    refine Run.opG wantS_none (ex_pickT' rfl hc50 rfl rfl) rfl ?_
    exact Run.pick [7, 9, 10, 12, 94] (law08_SearchGrows_4_ok F true l27 l36 l41 l46 s27 s36 s41 s46 _ _ _ hH h)
  · have h := bif_f hc50 h
    refine Run.opG (wantS_yes' rfl rfl hc50) (ex_move rfl) rfl ?_
    refine Run.opG (wantS_yes' rfl rfl hc50) (ex_len' rfl (hH.slc (i := 1) rfl enc44_len) lenk36) rfl ?_
    refine Run.opG (wantS_yes' rfl rfl hc50) (ex_move rfl) rfl ?_
    refine Run.opG (wantS_yes' rfl rfl hc50) (ex_len' rfl (hH.slc (i := 2) rfl enc40_len) lenk52) rfl ?_
    refine Run.opG (wantS_yes' rfl rfl hc50) (ex_neq rfl rfl) rfl ?_
    refine Run.opG wantS_none (ex_pickF' rfl hc50 rfl rfl) rfl ?_
    exact Run.pick [7, 9, 10, 12, 94] (law08_SearchGrows_4_ok F (!((l36.length : Int) == (l41.length : Int))) l27 l36 l41 l46 s27 s36 s41 s46 _ _ _ hH h)

def law08_SearchGrows_2 (F : Nat) (v13 : Int) (v83 : Bool) (l27 l36 : (List S_api_Candidate)) (l41 l46 : (List S_api_Pair)) : Option (Bool) :=
  bif v83 then
    law08_SearchGrows_3 F true l27 l36 l41 l46
  else
    law08_SearchGrows_3 F (!(v13 == (0 : Int))) l27 l36 l41 l46

theorem law08_SearchGrows_2_ok (F : Nat) : ∀ (v13 : Int) (v83 : Bool) (l27 l36 : (List S_api_Candidate)) (l41 l46 : (List S_api_Pair)) (s27 s36 s41 s46 : SV) (Fr : Rd) (M : Mem) (r : Bool) (hH : Has Fr M [.vec 44 5 l27.length s27 (l27.flatMap enc44), .vec 44 5 l36.length s36 (l36.flatMap enc44), .vec 40 3 l41.length s41 (l41.flatMap enc40), .vec 40 3 l46.length s46 (l46.flatMap enc40)]), law08_SearchGrows_2 F v13 v83 l27 l36 l41 l46 = some r → Run Try.prog ⟨⟨7, [], none⟩, []⟩ 171 (law08_SearchGrows_post r) [(7, s27), (9, s36), (10, s41), (12, s46), (13, (.int .i64 v13)), (83, (.bool v83))] [itemC Try.prog 7 [1, 1, 1, 1, 1, 1, 0, 0] 6, codeC Try.prog 7 [1, 1, 1, 1, 1, 1, 0, 1], codeC Try.prog 7 [1, 1, 1, 1, 1, 1, 1]] M := by
  intro v13 v83 l27 l36 l41 l46 s27 s36 s41 s46 Fr M r hH h
  rw [law08_SearchGrows_2] at h
  refine Run.opG wantS_none (ex_move rfl) rfl ?_
  rcases btf (v83) with hc49 | hc49
  · have h := bif_t hc49 h
    refine Run.no (wantS_not' rfl rfl hc49) rfl ?_
    refine Run.no (wantS_not' rfl rfl hc49) rfl ?_
    refine Run.opG wantS_none (ex_pickT' rfl hc49 rfl rfl) rfl ?_
    exact Run.pick [7, 9, 10, 12, 87] (law08_SearchGrows_3_ok F true l27 l36 l41 l46 s27 s36 s41 s46 _ _ _ hH h)
  · have h := bif_f hc49 h
    refine Run.opG (wantS_yes' rfl rfl hc49) (ex_move rfl) rfl ?_
    refine Run.opG (wantS_yes' rfl rfl hc49) (ex_neq rfl rfl) rfl ?_
    refine Run.opG wantS_none (ex_pickF' rfl hc49 rfl rfl) rfl ?_
    exact Run.pick [7, 9, 10, 12, 87] (law08_SearchGrows_3_ok F (!(v13 == (0 : Int))) l27 l36 l41 l46 s27 s36 s41 s46 _ _ _ hH h)

def law08_SearchGrows (F : Nat) (a0 a1 : (List S_api_Trigger)) (a2 : S_ringdownlaw08_Clock) : Option (Bool) :=
  bnd (search_Candidates F a0 a1 a2.Live a2.Window a2.Step a2.Limit) fun r26 =>
  bif (!(r26.2 == (0 : Int))) then
    bif ((r26.1.length : Int) == (0 : Int)) then
      bnd (works F) fun r32 =>
      law08_SearchGrows_1 F r32
    else
      law08_SearchGrows_1 F false
  else
    bnd (nz a2.Step) fun z34 =>
    bnd (search_Candidates F a0 a1 a2.Live a2.Window a2.Step (w64 (Int.tdiv a2.Live a2.Step))) fun r35 =>
    bnd (search_Coincide F a0 a1 a2.Live a2.Window) fun r40 =>
    bnd (search_Coincide F a0 a1 a2.Live (w64 (a2.Live - (1 : Int)))) fun r45 =>
    bif (!(r35.2 == (0 : Int))) then
      law08_SearchGrows_2 F r45.2 true r26.1 r35.1 r40.1 r45.1
    else
      law08_SearchGrows_2 F r45.2 (!(r40.2 == (0 : Int))) r26.1 r35.1 r40.1 r45.1

theorem law08_SearchGrows_run (F : Nat) (a0 a1 : (List S_api_Trigger)) (a2 : S_ringdownlaw08_Clock) (s0 s1 : SV) (r : Bool) (M : Mem) (hs0 : Slc (rd M) 3 (FlatR enc73) s0 a0) (hs1 : Slc (rd M) 3 (FlatR enc73) s1 a1) (hfx : FixIn M fixes) (h : law08_SearchGrows F a0 a1 a2 = some r) : Run Try.prog (fx0 7) 171 (law08_SearchGrows_post r) [(0, s0), (1, s1), (2, (.agg [(.int .i64 a2.Live), (.int .i64 a2.Window), (.int .i64 a2.Step), (.int .i64 a2.Limit)]))] [codeC Try.prog 7 []] (frozen M) := by
  rw [law08_SearchGrows] at h
  replace hs0 := hs0.mono (rdLe_frozen M) (fun _ _ h => h)
  replace hs1 := hs1.mono (rdLe_frozen M) (fun _ _ h => h)
  have hH : Has (ro (frozen M)) (frozen M) [] := Has.ofFix hfx.frozen
  refine Run.seq (Run.region ?_)
  refine Run.opX wantS_none rfl (ExG.box rfl rfl hH) ?_
  rintro _ M23 ⟨b22, rfl, hH23⟩
  refine Run.opG wantS_none (ex_assign rfl) rfl ?_
  refine Run.opsEnd (Run.seq (Run.region ?_))
  refine Run.opG wantS_none (ex_move rfl) rfl ?_
  refine Run.opG wantS_none (ex_move rfl) rfl ?_
  refine Run.opG wantS_none (ex_fieldAddr rfl off35_0) rfl ?_
  refine Run.opG wantS_none (ex_load1 rfl (hH23.cells (i := 0) rfl 0 rfl) rdLe_rfl agg3) rfl ?_
  refine Run.opG wantS_none (ex_fieldAddr rfl off35_1) rfl ?_
  refine Run.opG wantS_none (ex_load1 rfl (hH23.cells (i := 0) rfl 1 rfl) rdLe_rfl agg3) rfl ?_
  refine Run.opG wantS_none (ex_fieldAddr rfl off35_2) rfl ?_
  refine Run.opG wantS_none (ex_load1 rfl (hH23.cells (i := 0) rfl 2 rfl) rdLe_rfl agg3) rfl ?_
  refine Run.opG wantS_none (ex_fieldAddr rfl off35_3) rfl ?_
  refine Run.opG wantS_none (ex_load1 rfl (hH23.cells (i := 0) rfl 3 rfl) rdLe_rfl agg3) rfl ?_
  obtain ⟨r26, hr26, h⟩ := bnd_some h
  refine Run.callX wantS_none (ex_call rfl mkk14 cal14) rfl (search_Candidates_ok F a0 a1 a2.Live a2.Window a2.Step a2.Limit s0 s1 _ _ (hH23.slcF hs0) (hH23.slcF hs1) hr26) ?_
  rintro _ M28 ⟨s26_0, rfl, hN26⟩
  have hH28 : Has (ro (frozen M)) M28 [.vec 44 5 r26.1.length s26_0 (r26.1.flatMap enc44), .obj b22 (.row 35 .whole [(.int .i64 a2.Live), (.int .i64 a2.Window), (.int .i64 a2.Step), (.int .i64 a2.Limit)])] := hN26.1 _ _ hH23
  refine Run.opG wantS_none (ex_move rfl) rfl ?_
  refine Run.opG wantS_none (ex_extract rfl rfl) rfl ?_
  refine Run.opG wantS_none (ex_extract rfl rfl) rfl ?_
  refine Run.opG wantS_none (ex_assign rfl) rfl ?_
  refine Run.opG wantS_none (ex_assign rfl) rfl ?_
  refine Run.opsEnd (Run.seq (Run.seq (Run.region ?_)))
  refine Run.opG wantS_none (ex_move rfl) rfl ?_
  refine Run.opG wantS_none (ex_neq rfl rfl) rfl ?_
  refine Run.opsEnd ?_
  rcases btf ((!(r26.2 == (0 : Int)))) with hc29 | hc29
  · have h := bif_t hc29 h
    refine Run.condT' rfl hc29 ?_
    refine Run.seq (Run.region ?_)
    refine Run.opG wantS_none (ex_move rfl) rfl ?_
    refine Run.opG wantS_none (ex_len' rfl (hH28.slc (i := 0) rfl enc44_len) lenk36) rfl ?_
    refine Run.opG wantS_none (ex_eql rfl rfl) rfl ?_
    refine Run.opG wantS_none (ex_move rfl) rfl ?_
    rcases btf (((r26.1.length : Int) == (0 : Int))) with hc30 | hc30
    · have h := bif_t hc30 h
      obtain ⟨r32, hr32, h⟩ := bnd_some h
      refine Run.callP (wantS_yes' rfl rfl hc30) (ex_call rfl mkk12 cal12) rfl (works_ok F r32 _ hH28  hr32) ?_
      refine Run.opG wantS_none (ex_pickT' rfl hc30 rfl rfl) rfl ?_
      exact Run.pick [39] (law08_SearchGrows_1_ok F r32 _ _ _ (hH28.pick [] rfl rfl) h)
    · have h := bif_f hc30 h
      refine Run.no (wantS_not' rfl rfl hc30) rfl ?_
      refine Run.opG wantS_none (ex_pickF' rfl hc30 rfl rfl) rfl ?_
      exact Run.pick [39] (law08_SearchGrows_1_ok F false _ _ _ (hH28.pick [] rfl rfl) h)
  · have h := bif_f hc29 h
    refine Run.condF' rfl hc29 ?_
    refine Run.skip (Run.seq ?_)
    refine Run.drawG plan7_1_1_1_0 ?_
    refine DrawG.fl rfl (ev_ex wantS_none (ex_move rfl)) rfl ?_
    refine DrawG.fl rfl (ev_ex wantS_none (ex_move rfl)) rfl ?_
    refine DrawG.fl rfl (ev_ex wantS_none (ex_fieldAddr rfl off35_0)) rfl ?_
    refine DrawG.fl rfl (ev_ex wantS_none (ex_load1 rfl (hH28.cells (i := 1) rfl 0 rfl) rdLe_rfl agg3)) rfl ?_
    refine DrawG.fl rfl (ev_ex wantS_none (ex_fieldAddr rfl off35_1)) rfl ?_
    refine DrawG.fl rfl (ev_ex wantS_none (ex_load1 rfl (hH28.cells (i := 1) rfl 1 rfl) rdLe_rfl agg3)) rfl ?_
    refine DrawG.fl rfl (ev_ex wantS_none (ex_fieldAddr rfl off35_2)) rfl ?_
    refine DrawG.fl rfl (ev_ex wantS_none (ex_load1 rfl (hH28.cells (i := 1) rfl 2 rfl) rdLe_rfl agg3)) rfl ?_
    refine DrawG.fl rfl (ev_ex wantS_none (ex_fieldAddr rfl off35_0)) rfl ?_
    refine DrawG.fl rfl (ev_ex wantS_none (ex_load1 rfl (hH28.cells (i := 1) rfl 0 rfl) rdLe_rfl agg3)) rfl ?_
    refine DrawG.fl rfl (ev_ex wantS_none (ex_fieldAddr rfl off35_2)) rfl ?_
    refine DrawG.fl rfl (ev_ex wantS_none (ex_load1 rfl (hH28.cells (i := 1) rfl 2 rfl) rdLe_rfl agg3)) rfl ?_
    obtain ⟨z34, hz34, h⟩ := bnd_some h
    refine DrawG.fl rfl (ev_ex wantS_none (ex_quo' rfl rfl hz34)) rfl ?_
    obtain ⟨r35, hr35, h⟩ := bnd_some h
    refine DrawG.call rfl wantS_none (ex_call rfl mkk14 cal14) rfl (search_Candidates_ok F a0 a1 a2.Live a2.Window a2.Step (w64 (Int.tdiv a2.Live a2.Step)) s0 s1 _ _ (hH28.slcF hs0) (hH28.slcF hs1) hr35) ?_
    rintro _ M37 ⟨s35_0, rfl, hN35⟩
    have hH37 : Has (ro (frozen M)) M37 [.vec 44 5 r35.1.length s35_0 (r35.1.flatMap enc44), .vec 44 5 r26.1.length s26_0 (r26.1.flatMap enc44), .obj b22 (.row 35 .whole [(.int .i64 a2.Live), (.int .i64 a2.Window), (.int .i64 a2.Step), (.int .i64 a2.Limit)])] := hN35.1 _ _ hH28
    refine ⟨st_nil, ?_⟩
    refine DrawG.fl rfl (ev_ex wantS_none (ex_move rfl)) rfl ?_
    refine DrawG.fl rfl (ev_ex wantS_none (ex_extract rfl rfl)) rfl ?_
    refine DrawG.fl rfl (ev_ex wantS_none (ex_extract rfl rfl)) rfl ?_
    refine DrawG.fl rfl (ev_ex wantS_none (ex_assign rfl)) rfl ?_
    refine DrawG.fl rfl (ev_ex wantS_none (ex_assign rfl)) rfl ?_
    refine DrawG.sync ?_
    refine DrawG.nil ?_
    refine Run.seq (Run.region ?_)
    refine Run.opG wantS_none (ex_move rfl) rfl ?_
    refine Run.opG wantS_none (ex_move rfl) rfl ?_
    refine Run.opG wantS_none (ex_fieldAddr rfl off35_0) rfl ?_
    refine Run.opG wantS_none (ex_load1 rfl (hH37.cells (i := 2) rfl 0 rfl) rdLe_rfl agg3) rfl ?_
    refine Run.opG wantS_none (ex_fieldAddr rfl off35_1) rfl ?_
    refine Run.opG wantS_none (ex_load1 rfl (hH37.cells (i := 2) rfl 1 rfl) rdLe_rfl agg3) rfl ?_
    obtain ⟨r40, hr40, h⟩ := bnd_some h
    refine Run.callX wantS_none (ex_call rfl mkk20 cal20) rfl (search_Coincide_ok F a0 a1 a2.Live a2.Window s0 s1 _ _ (hH37.slcF hs0) (hH37.slcF hs1) hr40) ?_
    rintro _ M42 ⟨s40_0, rfl, hN40⟩
    have hH42 : Has (ro (frozen M)) M42 [.vec 40 3 r40.1.length s40_0 (r40.1.flatMap enc40), .vec 44 5 r35.1.length s35_0 (r35.1.flatMap enc44), .vec 44 5 r26.1.length s26_0 (r26.1.flatMap enc44), .obj b22 (.row 35 .whole [(.int .i64 a2.Live), (.int .i64 a2.Window), (.int .i64 a2.Step), (.int .i64 a2.Limit)])] := hN40.1 _ _ hH37
    refine Run.opG wantS_none (ex_move rfl) rfl ?_
    refine Run.opG wantS_none (ex_extract rfl rfl) rfl ?_
    refine Run.opG wantS_none (ex_extract rfl rfl) rfl ?_
    refine Run.opG wantS_none (ex_assign rfl) rfl ?_
    refine Run.opG wantS_none (ex_assign rfl) rfl ?_
    refine Run.opsEnd (Run.seq (Run.region ?_))
    refine Run.opG wantS_none (ex_move rfl) rfl ?_
    refine Run.opG wantS_none (ex_move rfl) rfl ?_
    refine Run.opG wantS_none (ex_fieldAddr rfl off35_0) rfl ?_
    refine Run.opG wantS_none (ex_load1 rfl (hH42.cells (i := 3) rfl 0 rfl) rdLe_rfl agg3) rfl ?_
    refine Run.opG wantS_none (ex_fieldAddr rfl off35_0) rfl ?_
    refine Run.opG wantS_none (ex_load1 rfl (hH42.cells (i := 3) rfl 0 rfl) rdLe_rfl agg3) rfl ?_
    refine Run.opG wantS_none (ex_sub rfl rfl) rfl ?_
    obtain ⟨r45, hr45, h⟩ := bnd_some h
    refine Run.callX wantS_none (ex_call rfl mkk20 cal20) rfl (search_Coincide_ok F a0 a1 a2.Live (w64 (a2.Live - (1 : Int))) s0 s1 _ _ (hH42.slcF hs0) (hH42.slcF hs1) hr45) ?_
    rintro _ M47 ⟨s45_0, rfl, hN45⟩
    have hH47 : Has (ro (frozen M)) M47 [.vec 40 3 r45.1.length s45_0 (r45.1.flatMap enc40), .vec 40 3 r40.1.length s40_0 (r40.1.flatMap enc40), .vec 44 5 r35.1.length s35_0 (r35.1.flatMap enc44), .vec 44 5 r26.1.length s26_0 (r26.1.flatMap enc44), .obj b22 (.row 35 .whole [(.int .i64 a2.Live), (.int .i64 a2.Window), (.int .i64 a2.Step), (.int .i64 a2.Limit)])] := hN45.1 _ _ hH42
    refine Run.opG wantS_none (ex_move rfl) rfl ?_
    refine Run.opG wantS_none (ex_extract rfl rfl) rfl ?_
    refine Run.opG wantS_none (ex_extract rfl rfl) rfl ?_
    refine Run.opG wantS_none (ex_assign rfl) rfl ?_
    refine Run.opG wantS_none (ex_assign rfl) rfl ?_
    refine Run.opsEnd (Run.seq (Run.seq (Run.region ?_)))
    refine Run.opG wantS_none (ex_move rfl) rfl ?_
    refine Run.opG wantS_none (ex_neq rfl rfl) rfl ?_
    refine Run.opG wantS_none (ex_move rfl) rfl ?_
    rcases btf ((!(r35.2 == (0 : Int)))) with hc48 | hc48
    · have h := bif_t hc48 h
      refine Run.no (wantS_not' rfl rfl hc48) rfl ?_
      refine Run.no (wantS_not' rfl rfl hc48) rfl ?_
      refine Run.opG wantS_none (ex_pickT' rfl hc48 rfl rfl) rfl ?_
      exact Run.pick [7, 9, 10, 12, 13, 83] (law08_SearchGrows_2_ok F r45.2 true r26.1 r35.1 r40.1 r45.1 s26_0 s35_0 s40_0 s45_0 _ _ _ (hH47.pick [3, 2, 1, 0] rfl rfl) h)
    · have h := bif_f hc48 h
      refine Run.opG (wantS_yes' rfl rfl hc48) (ex_move rfl) rfl ?_
      refine Run.opG (wantS_yes' rfl rfl hc48) (ex_neq rfl rfl) rfl ?_
      refine Run.opG wantS_none (ex_pickF' rfl hc48 rfl rfl) rfl ?_
      exact Run.pick [7, 9, 10, 12, 13, 83] (law08_SearchGrows_2_ok F r45.2 (!(r40.2 == (0 : Int))) r26.1 r35.1 r40.1 r45.1 s26_0 s35_0 s40_0 s45_0 _ _ _ (hH47.pick [3, 2, 1, 0] rfl rfl) h)

end Go.Ev.SearchGrows
