/- Plain functions that say what functions of the program come to, and proofs of it, written by a program of the verifier's own. -/
import Derived.Test.YtgaofnakcccbkaaSearchCandidatesPlain
namespace Go.Ev.SearchCandidates
open Go Go.Ev Go.Proofs
set_option maxRecDepth 100000
set_option linter.unusedVariables false

abbrev search_Candidates_post (r : (List S_api_Candidate) × Int) : SV → Mem → Prop := fun s Me => ∃ q1, s = (.tuple [q1, (.int .i64 r.2)]) ∧ Has (fun _ => none) Me [.vec 44 5 r.1.length q1 (r.1.flatMap enc44)]

def search_Candidates_5 (F : Nat) (hd2 : Int → (List S_api_Trigger) → Int → Int → (List S_api_Trigger) → Int → Int → Int → S_search_clock → (List S_api_Trigger) → (List S_api_Trigger) → (List S_api_Trigger) → (List S_api_Trigger) → S_search_clock → S_api_Trigger → (List Int) → (List S_api_Candidate) → Option ((List S_api_Candidate) × Int)) (v5 : Int) (v10 : (List S_api_Trigger)) (v11 v12 : Int) (v17 : (List S_api_Trigger)) (v18 v19 c22_0 : Int) (c45 : S_search_clock) (c48_0 c51_0 c85_0 c88_0 : (List S_api_Trigger)) (c82 : S_search_clock) (c98 : S_api_Trigger) (l56 : (List Int)) (l139 : (List S_api_Candidate)) : Option ((List S_api_Candidate) × Int) :=
  hd2 v5 v10 v11 v12 v17 v18 (w64 (v19 + (1 : Int))) c22_0 c45 c48_0 c51_0 c85_0 c88_0 c82 c98 l56 l139

theorem search_Candidates_5_ok (F : Nat) (hd2 : Int → (List S_api_Trigger) → Int → Int → (List S_api_Trigger) → Int → Int → Int → S_search_clock → (List S_api_Trigger) → (List S_api_Trigger) → (List S_api_Trigger) → (List S_api_Trigger) → S_search_clock → S_api_Trigger → (List Int) → (List S_api_Candidate) → Option ((List S_api_Candidate) × Int)) (hhd2 : ∀ (v5 : Int) (v10 : (List S_api_Trigger)) (v11 v12 : Int) (v17 : (List S_api_Trigger)) (v18 v19 c22_0 : Int) (c45 : S_search_clock) (c48_0 c51_0 c85_0 c88_0 : (List S_api_Trigger)) (c82 : S_search_clock) (c98 : S_api_Trigger) (l56 : (List Int)) (l92 : (List S_api_Candidate)) (sv10 sv17 sc48_0 sc51_0 sc85_0 sc88_0 : SV) (b90 b59 : Pos) (s56 : SV) (b79 b76 b66 b22 b74 b71 b69 : Pos) (s92 : SV) (b63 b45 b48 b51 b72 b77 b85 b88 b82 b91 b98 : Pos) (Fr : Rd) (M : Mem) (r : (List S_api_Candidate) × Int) (hv10 : Slc Fr 3 (FlatR enc73) sv10 v10) (hv17 : Slc Fr 3 (FlatR enc73) sv17 v17) (hc48_0 : Slc Fr 3 (FlatR enc73) sc48_0 c48_0) (hc51_0 : Slc Fr 3 (FlatR enc73) sc51_0 c51_0) (hc85_0 : Slc Fr 3 (FlatR enc73) sc85_0 c85_0) (hc88_0 : Slc Fr 3 (FlatR enc73) sc88_0 c88_0) (hH : Has Fr M [.obj b90 (.loop ⟨.ready, none, 73, 21, treeOf [(4, (.ptr b59 0)), (5, (.ptr b79 0)), (10, (.fn (.func 84) [] [(.ptr b85 0), (.ptr b88 0), (.ptr b82 0)]))], [11], (atC Try.prog 73 [1, 1, 0, 0]), (atC Try.prog 73 [1, 1, 0, 1]), b91⟩), .obj b59 (.row 22 .whole [s56]), .vec 3 1 l56.length s56 (l56.flatMap enc3), .obj b79 (.row 83 .whole [(.yield b76)]), .obj b76 (.loop ⟨.ready, none, 72, 16, treeOf [(2, (.ptr b66 0)), (3, (.ptr b74 0)), (5, (.fn (.func 73) [] [(.ptr b45 0), (.ptr b48 0), (.ptr b51 0), (.ptr b59 0)]))], [6], (atC Try.prog 72 [1, 1, 0, 0]), (atC Try.prog 72 [1, 1, 0, 1]), b77⟩), .obj b66 (.row 83 .whole [(.fn (.func 40) [] [(.ptr b22 0)])]), .obj b22 (.row 3 .whole [(.int .i64 c22_0)]), .obj b74 (.row 83 .whole [(.yield b71)]), .obj b71 (.loop ⟨.ready, none, 71, 13, treeOf [(2, (.ptr b69 0)), (4, .nils), (6, (.fn (.func 72) [] [(.ptr b63 0), (.ptr b66 0)]))], [7], (atC Try.prog 71 [1, 0, 1, 0, 0]), (atC Try.prog 71 [1, 0, 1, 0, 1]), b72⟩), .obj b69 (.row 36 .whole [s92]), .vec 44 5 l92.length s92 (l92.flatMap enc44), .obj b63 (.row 86 .whole [(.fn (.func 73) [] [(.ptr b45 0), (.ptr b48 0), (.ptr b51 0), (.ptr b59 0)])]), .obj b45 (.row 80 .whole [(.int .i64 c45.live), (.int .i64 c45.window), (.int .i64 c45.step)]), .obj b48 (.row 33 .whole [sc48_0]), .obj b51 (.row 33 .whole [sc51_0]), .obj b72 .defd, .obj b77 .defd, .obj b85 (.row 33 .whole [sc85_0]), .obj b88 (.row 33 .whole [sc88_0]), .obj b82 (.row 80 .whole [(.int .i64 c82.live), (.int .i64 c82.window), (.int .i64 c82.step)]), .obj b91 .defd, .obj b98 (.row 73 .whole [(.int .i64 c98.Time), (.int .i64 c98.Loud), (.int .i64 c98.Template)])]), hd2 v5 v10 v11 v12 v17 v18 v19 c22_0 c45 c48_0 c51_0 c85_0 c88_0 c82 c98 l56 l92 = some r → Run Try.prog ⟨⟨84, [], none⟩, [.mk ⟨73, [b91], none⟩ 21 (treeOf []) [.inRange b90, .inBlock 0], .mk ⟨72, [b77], none⟩ 16 (treeOf []) [.inRange b76, .inBlock 0], .mk ⟨71, [b72], none⟩ 13 (treeOf [(2, (.ptr b69 0))]) [.inRange b71, .inBlock 0, codeC Try.prog 71 [1, 1]], .mk ⟨41, [], none⟩ 5 (treeOf []) [itemC Try.prog 41 [1, 0] 1, codeC Try.prog 41 [1, 1]], .mk ⟨14, [], none⟩ 44 (treeOf []) [itemC Try.prog 14 [1, 1, 1, 1, 0] 6, codeC Try.prog 14 [1, 1, 1, 1, 1]]]⟩ 56 (search_Candidates_post r) [(0, (.yield b90)), (2, (.ptr b88 0)), (3, (.ptr b82 0)), (5, (.int .i64 v5)), (6, (.ptr b98 0)), (10, sv10), (11, (.int .i64 v11)), (12, (.int .i64 v12)), (17, sv17), (18, (.int .i64 v18)), (19, (.int .i64 v19))] [codeC Try.prog 84 [1, 0, 0, 1, 1, 0, 0, 1, 1, 0, 0], loopC Try.prog 84 [1, 0, 0, 1, 1, 0, 0, 1, 1, 0, 0], .inBlock 2, .inBlock 1, codeC Try.prog 84 [1, 0, 0, 1, 1, 1], loopC Try.prog 84 [1, 0, 0], .inBlock 0] M) : ∀ (v5 : Int) (v10 : (List S_api_Trigger)) (v11 v12 : Int) (v17 : (List S_api_Trigger)) (v18 v19 c22_0 : Int) (c45 : S_search_clock) (c48_0 c51_0 c85_0 c88_0 : (List S_api_Trigger)) (c82 : S_search_clock) (c98 : S_api_Trigger) (l56 : (List Int)) (l139 : (List S_api_Candidate)) (sv10 sv17 sc48_0 sc51_0 sc85_0 sc88_0 : SV) (b90 b59 : Pos) (s56 : SV) (b79 b76 b66 b22 b74 b71 b69 : Pos) (s139 : SV) (b63 b45 b48 b51 b72 b77 b85 b88 b82 b91 b98 : Pos) (Fr : Rd) (M : Mem) (r : (List S_api_Candidate) × Int) (hv10 : Slc Fr 3 (FlatR enc73) sv10 v10) (hv17 : Slc Fr 3 (FlatR enc73) sv17 v17) (hc48_0 : Slc Fr 3 (FlatR enc73) sc48_0 c48_0) (hc51_0 : Slc Fr 3 (FlatR enc73) sc51_0 c51_0) (hc85_0 : Slc Fr 3 (FlatR enc73) sc85_0 c85_0) (hc88_0 : Slc Fr 3 (FlatR enc73) sc88_0 c88_0) (hH : Has Fr M [.obj b90 (.loop ⟨.ready, none, 73, 21, treeOf [(4, (.ptr b59 0)), (5, (.ptr b79 0)), (10, (.fn (.func 84) [] [(.ptr b85 0), (.ptr b88 0), (.ptr b82 0)]))], [11], (atC Try.prog 73 [1, 1, 0, 0]), (atC Try.prog 73 [1, 1, 0, 1]), b91⟩), .obj b59 (.row 22 .whole [s56]), .vec 3 1 l56.length s56 (l56.flatMap enc3), .obj b79 (.row 83 .whole [(.yield b76)]), .obj b76 (.loop ⟨.ready, none, 72, 16, treeOf [(2, (.ptr b66 0)), (3, (.ptr b74 0)), (5, (.fn (.func 73) [] [(.ptr b45 0), (.ptr b48 0), (.ptr b51 0), (.ptr b59 0)]))], [6], (atC Try.prog 72 [1, 1, 0, 0]), (atC Try.prog 72 [1, 1, 0, 1]), b77⟩), .obj b66 (.row 83 .whole [(.fn (.func 40) [] [(.ptr b22 0)])]), .obj b22 (.row 3 .whole [(.int .i64 c22_0)]), .obj b74 (.row 83 .whole [(.yield b71)]), .obj b71 (.loop ⟨.ready, none, 71, 13, treeOf [(2, (.ptr b69 0)), (4, .nils), (6, (.fn (.func 72) [] [(.ptr b63 0), (.ptr b66 0)]))], [7], (atC Try.prog 71 [1, 0, 1, 0, 0]), (atC Try.prog 71 [1, 0, 1, 0, 1]), b72⟩), .obj b69 (.row 36 .whole [s139]), .vec 44 5 l139.length s139 (l139.flatMap enc44), .obj b63 (.row 86 .whole [(.fn (.func 73) [] [(.ptr b45 0), (.ptr b48 0), (.ptr b51 0), (.ptr b59 0)])]), .obj b45 (.row 80 .whole [(.int .i64 c45.live), (.int .i64 c45.window), (.int .i64 c45.step)]), .obj b48 (.row 33 .whole [sc48_0]), .obj b51 (.row 33 .whole [sc51_0]), .obj b72 .defd, .obj b77 .defd, .obj b85 (.row 33 .whole [sc85_0]), .obj b88 (.row 33 .whole [sc88_0]), .obj b82 (.row 80 .whole [(.int .i64 c82.live), (.int .i64 c82.window), (.int .i64 c82.step)]), .obj b91 .defd, .obj b98 (.row 73 .whole [(.int .i64 c98.Time), (.int .i64 c98.Loud), (.int .i64 c98.Template)])]), search_Candidates_5 F hd2 v5 v10 v11 v12 v17 v18 v19 c22_0 c45 c48_0 c51_0 c85_0 c88_0 c82 c98 l56 l139 = some r → Run Try.prog ⟨⟨84, [], none⟩, [.mk ⟨73, [b91], none⟩ 21 (treeOf []) [.inRange b90, .inBlock 0], .mk ⟨72, [b77], none⟩ 16 (treeOf []) [.inRange b76, .inBlock 0], .mk ⟨71, [b72], none⟩ 13 (treeOf [(2, (.ptr b69 0))]) [.inRange b71, .inBlock 0, codeC Try.prog 71 [1, 1]], .mk ⟨41, [], none⟩ 5 (treeOf []) [itemC Try.prog 41 [1, 0] 1, codeC Try.prog 41 [1, 1]], .mk ⟨14, [], none⟩ 44 (treeOf []) [itemC Try.prog 14 [1, 1, 1, 1, 0] 6, codeC Try.prog 14 [1, 1, 1, 1, 1]]]⟩ 56 (search_Candidates_post r) [(0, (.yield b90)), (2, (.ptr b88 0)), (3, (.ptr b82 0)), (5, (.int .i64 v5)), (6, (.ptr b98 0)), (10, sv10), (11, (.int .i64 v11)), (12, (.int .i64 v12)), (17, sv17), (18, (.int .i64 v18)), (19, (.int .i64 v19)), (53, (.bool false))] [codeC Try.prog 84 [1, 0, 0, 1, 1, 0, 0, 1, 1, 0, 0, 1, 1, 0, 0, 1, 1, 1], .inBlock 3, codeC Try.prog 84 [1, 0, 0, 1, 1, 0, 0, 1, 1, 0, 0, 1, 1, 1], loopC Try.prog 84 [1, 0, 0, 1, 1, 0, 0, 1, 1, 0, 0], .inBlock 2, .inBlock 1, codeC Try.prog 84 [1, 0, 0, 1, 1, 1], loopC Try.prog 84 [1, 0, 0], .inBlock 0] M := by
  intro v5 v10 v11 v12 v17 v18 v19 c22_0 c45 c48_0 c51_0 c85_0 c88_0 c82 c98 l56 l139 sv10 sv17 sc48_0 sc51_0 sc85_0 sc88_0 b90 b59 s56 b79 b76 b66 b22 b74 b71 b69 s139 b63 b45 b48 b51 b72 b77 b85 b88 b82 b91 b98 Fr M r hv10 hv17 hc48_0 hc51_0 hc85_0 hc88_0 hH h
  rw [search_Candidates_5] at h
  refine Run.condF' rfl rfl ?_
  refine Run.skip (Run.inBlock (Run.region ?_))
  refine Run.opG wantS_none (ex_add rfl rfl) rfl ?_
  refine Run.opG wantS_none (ex_move rfl) rfl ?_
  refine Run.opsEnd (Run.inLoop ?_)
  exact Run.low (.cons (fle_pick [] rfl) (.cons (fle_pick [] rfl) (.cons (fle_pick [2] rfl) (.cons (fle_pick [] rfl) (.cons (fle_pick [] rfl) .nil))))) (Run.pick [0, 2, 3, 5, 6, 10, 11, 12, 17, 18, 19] (hhd2 v5 v10 v11 v12 v17 v18 (w64 (v19 + (1 : Int))) c22_0 c45 c48_0 c51_0 c85_0 c88_0 c82 c98 l56 l139 sv10 sv17 sc48_0 sc51_0 sc85_0 sc88_0 b90 b59 s56 b79 b76 b66 b22 b74 b71 b69 s139 b63 b45 b48 b51 b72 b77 b85 b88 b82 b91 b98 _ _ _ hv10 hv17 hc48_0 hc51_0 hc85_0 hc88_0 hH h))

def search_Candidates_4 (F : Nat) (hd2 : Int → (List S_api_Trigger) → Int → Int → (List S_api_Trigger) → Int → Int → Int → S_search_clock → (List S_api_Trigger) → (List S_api_Trigger) → (List S_api_Trigger) → (List S_api_Trigger) → S_search_clock → S_api_Trigger → (List Int) → (List S_api_Candidate) → Option ((List S_api_Candidate) × Int)) (v5_f2 : Int) (v10_f2 : (List S_api_Trigger)) (v11_f2 v12_f2 : Int) (v17_f2 : (List S_api_Trigger)) (v18_f2 v19_f2 : Int) (v41_f2 : Bool) (c22_0 : Int) (c45 : S_search_clock) (c48_0 c51_0 c85_0 c88_0 : (List S_api_Trigger)) (c82 : S_search_clock) (c98 : S_api_Trigger) (l139 : (List S_api_Candidate)) (l56 : (List Int)) : Option ((List S_api_Candidate) × Int) :=
  bif v41_f2 then
    search_Candidates_5 F hd2 v5_f2 v10_f2 v11_f2 v12_f2 v17_f2 v18_f2 v19_f2 c22_0 c45 c48_0 c51_0 c85_0 c88_0 c82 c98 l56 l139
  else
    search_Candidates_5 F hd2 v5_f2 v10_f2 v11_f2 v12_f2 v17_f2 v18_f2 v19_f2 c22_0 c45 c48_0 c51_0 c85_0 c88_0 c82 c98 l56 l139

theorem search_Candidates_4_ok (F : Nat) (hd2 : Int → (List S_api_Trigger) → Int → Int → (List S_api_Trigger) → Int → Int → Int → S_search_clock → (List S_api_Trigger) → (List S_api_Trigger) → (List S_api_Trigger) → (List S_api_Trigger) → S_search_clock → S_api_Trigger → (List Int) → (List S_api_Candidate) → Option ((List S_api_Candidate) × Int)) (hhd2 : ∀ (v5 : Int) (v10 : (List S_api_Trigger)) (v11 v12 : Int) (v17 : (List S_api_Trigger)) (v18 v19 c22_0 : Int) (c45 : S_search_clock) (c48_0 c51_0 c85_0 c88_0 : (List S_api_Trigger)) (c82 : S_search_clock) (c98 : S_api_Trigger) (l56 : (List Int)) (l92 : (List S_api_Candidate)) (sv10 sv17 sc48_0 sc51_0 sc85_0 sc88_0 : SV) (b90 b59 : Pos) (s56 : SV) (b79 b76 b66 b22 b74 b71 b69 : Pos) (s92 : SV) (b63 b45 b48 b51 b72 b77 b85 b88 b82 b91 b98 : Pos) (Fr : Rd) (M : Mem) (r : (List S_api_Candidate) × Int) (hv10 : Slc Fr 3 (FlatR enc73) sv10 v10) (hv17 : Slc Fr 3 (FlatR enc73) sv17 v17) (hc48_0 : Slc Fr 3 (FlatR enc73) sc48_0 c48_0) (hc51_0 : Slc Fr 3 (FlatR enc73) sc51_0 c51_0) (hc85_0 : Slc Fr 3 (FlatR enc73) sc85_0 c85_0) (hc88_0 : Slc Fr 3 (FlatR enc73) sc88_0 c88_0) (hH : Has Fr M [.obj b90 (.loop ⟨.ready, none, 73, 21, treeOf [(4, (.ptr b59 0)), (5, (.ptr b79 0)), (10, (.fn (.func 84) [] [(.ptr b85 0), (.ptr b88 0), (.ptr b82 0)]))], [11], (atC Try.prog 73 [1, 1, 0, 0]), (atC Try.prog 73 [1, 1, 0, 1]), b91⟩), .obj b59 (.row 22 .whole [s56]), .vec 3 1 l56.length s56 (l56.flatMap enc3), .obj b79 (.row 83 .whole [(.yield b76)]), .obj b76 (.loop ⟨.ready, none, 72, 16, treeOf [(2, (.ptr b66 0)), (3, (.ptr b74 0)), (5, (.fn (.func 73) [] [(.ptr b45 0), (.ptr b48 0), (.ptr b51 0), (.ptr b59 0)]))], [6], (atC Try.prog 72 [1, 1, 0, 0]), (atC Try.prog 72 [1, 1, 0, 1]), b77⟩), .obj b66 (.row 83 .whole [(.fn (.func 40) [] [(.ptr b22 0)])]), .obj b22 (.row 3 .whole [(.int .i64 c22_0)]), .obj b74 (.row 83 .whole [(.yield b71)]), .obj b71 (.loop ⟨.ready, none, 71, 13, treeOf [(2, (.ptr b69 0)), (4, .nils), (6, (.fn (.func 72) [] [(.ptr b63 0), (.ptr b66 0)]))], [7], (atC Try.prog 71 [1, 0, 1, 0, 0]), (atC Try.prog 71 [1, 0, 1, 0, 1]), b72⟩), .obj b69 (.row 36 .whole [s92]), .vec 44 5 l92.length s92 (l92.flatMap enc44), .obj b63 (.row 86 .whole [(.fn (.func 73) [] [(.ptr b45 0), (.ptr b48 0), (.ptr b51 0), (.ptr b59 0)])]), .obj b45 (.row 80 .whole [(.int .i64 c45.live), (.int .i64 c45.window), (.int .i64 c45.step)]), .obj b48 (.row 33 .whole [sc48_0]), .obj b51 (.row 33 .whole [sc51_0]), .obj b72 .defd, .obj b77 .defd, .obj b85 (.row 33 .whole [sc85_0]), .obj b88 (.row 33 .whole [sc88_0]), .obj b82 (.row 80 .whole [(.int .i64 c82.live), (.int .i64 c82.window), (.int .i64 c82.step)]), .obj b91 .defd, .obj b98 (.row 73 .whole [(.int .i64 c98.Time), (.int .i64 c98.Loud), (.int .i64 c98.Template)])]), hd2 v5 v10 v11 v12 v17 v18 v19 c22_0 c45 c48_0 c51_0 c85_0 c88_0 c82 c98 l56 l92 = some r → Run Try.prog ⟨⟨84, [], none⟩, [.mk ⟨73, [b91], none⟩ 21 (treeOf []) [.inRange b90, .inBlock 0], .mk ⟨72, [b77], none⟩ 16 (treeOf []) [.inRange b76, .inBlock 0], .mk ⟨71, [b72], none⟩ 13 (treeOf [(2, (.ptr b69 0))]) [.inRange b71, .inBlock 0, codeC Try.prog 71 [1, 1]], .mk ⟨41, [], none⟩ 5 (treeOf []) [itemC Try.prog 41 [1, 0] 1, codeC Try.prog 41 [1, 1]], .mk ⟨14, [], none⟩ 44 (treeOf []) [itemC Try.prog 14 [1, 1, 1, 1, 0] 6, codeC Try.prog 14 [1, 1, 1, 1, 1]]]⟩ 56 (search_Candidates_post r) [(0, (.yield b90)), (2, (.ptr b88 0)), (3, (.ptr b82 0)), (5, (.int .i64 v5)), (6, (.ptr b98 0)), (10, sv10), (11, (.int .i64 v11)), (12, (.int .i64 v12)), (17, sv17), (18, (.int .i64 v18)), (19, (.int .i64 v19))] [codeC Try.prog 84 [1, 0, 0, 1, 1, 0, 0, 1, 1, 0, 0], loopC Try.prog 84 [1, 0, 0, 1, 1, 0, 0, 1, 1, 0, 0], .inBlock 2, .inBlock 1, codeC Try.prog 84 [1, 0, 0, 1, 1, 1], loopC Try.prog 84 [1, 0, 0], .inBlock 0] M) : ∀ (v5_f2 : Int) (v10_f2 : (List S_api_Trigger)) (v11_f2 v12_f2 : Int) (v17_f2 : (List S_api_Trigger)) (v18_f2 v19_f2 : Int) (v41_f2 : Bool) (c22_0 : Int) (c45 : S_search_clock) (c48_0 c51_0 c85_0 c88_0 : (List S_api_Trigger)) (c82 : S_search_clock) (c98 : S_api_Trigger) (l139 : (List S_api_Candidate)) (l56 : (List Int)) (sv10_f2 sv17_f2 sc48_0 sc51_0 sc85_0 sc88_0 : SV) (b76 b66 b22 b74 b71 b69 : Pos) (s139 : SV) (b63 b45 b48 b51 b59 : Pos) (s56 : SV) (b72 b77 b90 b79 b85 b88 b82 b91 b98 : Pos) (Fr : Rd) (M : Mem) (r : (List S_api_Candidate) × Int) (hv10_f2 : Slc Fr 3 (FlatR enc73) sv10_f2 v10_f2) (hv17_f2 : Slc Fr 3 (FlatR enc73) sv17_f2 v17_f2) (hc48_0 : Slc Fr 3 (FlatR enc73) sc48_0 c48_0) (hc51_0 : Slc Fr 3 (FlatR enc73) sc51_0 c51_0) (hc85_0 : Slc Fr 3 (FlatR enc73) sc85_0 c85_0) (hc88_0 : Slc Fr 3 (FlatR enc73) sc88_0 c88_0) (hH : Has Fr M [.obj b76 (.loop ⟨.busy, none, 72, 16, treeOf [(2, (.ptr b66 0)), (3, (.ptr b74 0)), (5, (.fn (.func 73) [] [(.ptr b45 0), (.ptr b48 0), (.ptr b51 0), (.ptr b59 0)]))], [6], (atC Try.prog 72 [1, 1, 0, 0]), (atC Try.prog 72 [1, 1, 0, 1]), b77⟩), .obj b66 (.row 83 .whole [(.fn (.func 40) [] [(.ptr b22 0)])]), .obj b22 (.row 3 .whole [(.int .i64 c22_0)]), .obj b74 (.row 83 .whole [(.yield b71)]), .obj b71 (.loop ⟨.ready, none, 71, 13, treeOf [(2, (.ptr b69 0)), (4, .nils), (6, (.fn (.func 72) [] [(.ptr b63 0), (.ptr b66 0)]))], [7], (atC Try.prog 71 [1, 0, 1, 0, 0]), (atC Try.prog 71 [1, 0, 1, 0, 1]), b72⟩), .obj b69 (.row 36 .whole [s139]), .vec 44 5 l139.length s139 (l139.flatMap enc44), .obj b63 (.row 86 .whole [(.fn (.func 73) [] [(.ptr b45 0), (.ptr b48 0), (.ptr b51 0), (.ptr b59 0)])]), .obj b45 (.row 80 .whole [(.int .i64 c45.live), (.int .i64 c45.window), (.int .i64 c45.step)]), .obj b48 (.row 33 .whole [sc48_0]), .obj b51 (.row 33 .whole [sc51_0]), .obj b59 (.row 22 .whole [s56]), .vec 3 1 l56.length s56 (l56.flatMap enc3), .obj b72 .defd, .obj b77 .defd, .obj b90 (.loop ⟨.busy, none, 73, 21, treeOf [(4, (.ptr b59 0)), (5, (.ptr b79 0)), (10, (.fn (.func 84) [] [(.ptr b85 0), (.ptr b88 0), (.ptr b82 0)]))], [11], (atC Try.prog 73 [1, 1, 0, 0]), (atC Try.prog 73 [1, 1, 0, 1]), b91⟩), .obj b79 (.row 83 .whole [(.yield b76)]), .obj b85 (.row 33 .whole [sc85_0]), .obj b88 (.row 33 .whole [sc88_0]), .obj b82 (.row 80 .whole [(.int .i64 c82.live), (.int .i64 c82.window), (.int .i64 c82.step)]), .obj b91 .defd, .obj b98 (.row 73 .whole [(.int .i64 c98.Time), (.int .i64 c98.Loud), (.int .i64 c98.Template)])]), search_Candidates_4 F hd2 v5_f2 v10_f2 v11_f2 v12_f2 v17_f2 v18_f2 v19_f2 v41_f2 c22_0 c45 c48_0 c51_0 c85_0 c88_0 c82 c98 l139 l56 = some r → Run Try.prog ⟨⟨72, [], some b76⟩, [.mk ⟨73, [], some b90⟩ 21 (treeOf []) [itemC Try.prog 73 [1, 1, 0, 1, 0, 0] 7, codeC Try.prog 73 [1, 1, 0, 1, 0, 1], .inBlock 1], .mk ⟨84, [], none⟩ 56 (treeOf [(0, (.yield b90)), (2, (.ptr b88 0)), (3, (.ptr b82 0)), (5, (.int .i64 v5_f2)), (6, (.ptr b98 0)), (10, sv10_f2), (11, (.int .i64 v11_f2)), (12, (.int .i64 v12_f2)), (17, sv17_f2), (18, (.int .i64 v18_f2)), (19, (.int .i64 v19_f2)), (41, (.bool v41_f2))]) [itemC Try.prog 84 [1, 0, 0, 1, 1, 0, 0, 1, 1, 0, 0, 1, 1, 0, 0, 1, 1, 0] 11, codeC Try.prog 84 [1, 0, 0, 1, 1, 0, 0, 1, 1, 0, 0, 1, 1, 0, 0, 1, 1, 1], .inBlock 3, codeC Try.prog 84 [1, 0, 0, 1, 1, 0, 0, 1, 1, 0, 0, 1, 1, 1], loopC Try.prog 84 [1, 0, 0, 1, 1, 0, 0, 1, 1, 0, 0], .inBlock 2, .inBlock 1, codeC Try.prog 84 [1, 0, 0, 1, 1, 1], loopC Try.prog 84 [1, 0, 0], .inBlock 0], .mk ⟨73, [b91], none⟩ 21 (treeOf []) [.inRange b90, .inBlock 0], .mk ⟨72, [b77], none⟩ 16 (treeOf []) [.inRange b76, .inBlock 0], .mk ⟨71, [b72], none⟩ 13 (treeOf [(2, (.ptr b69 0))]) [.inRange b71, .inBlock 0, codeC Try.prog 71 [1, 1]], .mk ⟨41, [], none⟩ 5 (treeOf []) [itemC Try.prog 41 [1, 0] 1, codeC Try.prog 41 [1, 1]], .mk ⟨14, [], none⟩ 44 (treeOf []) [itemC Try.prog 14 [1, 1, 1, 1, 0] 6, codeC Try.prog 14 [1, 1, 1, 1, 1]]]⟩ 16 (search_Candidates_post r) [(15, (.bool false))] [codeC Try.prog 72 [1, 1, 0, 1, 0, 1], .inBlock 1] M := by
  intro v5_f2 v10_f2 v11_f2 v12_f2 v17_f2 v18_f2 v19_f2 v41_f2 c22_0 c45 c48_0 c51_0 c85_0 c88_0 c82 c98 l139 l56 sv10_f2 sv17_f2 sc48_0 sc51_0 sc85_0 sc88_0 b76 b66 b22 b74 b71 b69 s139 b63 b45 b48 b51 b59 s56 b72 b77 b90 b79 b85 b88 b82 b91 b98 Fr M r hv10_f2 hv17_f2 hc48_0 hc51_0 hc85_0 hc88_0 hH h
  rw [search_Candidates_4] at h
  refine Run.condF' rfl rfl ?_
  refine Run.skip (Run.inBlock ?_)
  refine Run.roundEndX hH (i := 0) rfl rfl ?_
  intro M143 (hH143 : Has Fr M143 [.obj b76 (.loop ⟨.ready, none, 72, 16, treeOf [(2, (.ptr b66 0)), (3, (.ptr b74 0)), (5, (.fn (.func 73) [] [(.ptr b45 0), (.ptr b48 0), (.ptr b51 0), (.ptr b59 0)]))], [6], (atC Try.prog 72 [1, 1, 0, 0]), (atC Try.prog 72 [1, 1, 0, 1]), b77⟩), .obj b66 (.row 83 .whole [(.fn (.func 40) [] [(.ptr b22 0)])]), .obj b22 (.row 3 .whole [(.int .i64 c22_0)]), .obj b74 (.row 83 .whole [(.yield b71)]), .obj b71 (.loop ⟨.ready, none, 71, 13, treeOf [(2, (.ptr b69 0)), (4, .nils), (6, (.fn (.func 72) [] [(.ptr b63 0), (.ptr b66 0)]))], [7], (atC Try.prog 71 [1, 0, 1, 0, 0]), (atC Try.prog 71 [1, 0, 1, 0, 1]), b72⟩), .obj b69 (.row 36 .whole [s139]), .vec 44 5 l139.length s139 (l139.flatMap enc44), .obj b63 (.row 86 .whole [(.fn (.func 73) [] [(.ptr b45 0), (.ptr b48 0), (.ptr b51 0), (.ptr b59 0)])]), .obj b45 (.row 80 .whole [(.int .i64 c45.live), (.int .i64 c45.window), (.int .i64 c45.step)]), .obj b48 (.row 33 .whole [sc48_0]), .obj b51 (.row 33 .whole [sc51_0]), .obj b59 (.row 22 .whole [s56]), .vec 3 1 l56.length s56 (l56.flatMap enc3), .obj b72 .defd, .obj b77 .defd, .obj b90 (.loop ⟨.busy, none, 73, 21, treeOf [(4, (.ptr b59 0)), (5, (.ptr b79 0)), (10, (.fn (.func 84) [] [(.ptr b85 0), (.ptr b88 0), (.ptr b82 0)]))], [11], (atC Try.prog 73 [1, 1, 0, 0]), (atC Try.prog 73 [1, 1, 0, 1]), b91⟩), .obj b79 (.row 83 .whole [(.yield b76)]), .obj b85 (.row 33 .whole [sc85_0]), .obj b88 (.row 33 .whole [sc88_0]), .obj b82 (.row 80 .whole [(.int .i64 c82.live), (.int .i64 c82.window), (.int .i64 c82.step)]), .obj b91 .defd, .obj b98 (.row 73 .whole [(.int .i64 c98.Time), (.int .i64 c98.Loud), (.int .i64 c98.Template)])])
  refine Run.opG wantS_none (ex_not rfl) rfl ?_
  refine Run.opsEnd ?_
  refine Run.condF' rfl rfl ?_
  refine Run.skip (Run.inBlock ?_)
  refine Run.roundEndX hH143 (i := 15) rfl rfl ?_
  intro M144 (hH144 : Has Fr M144 [.obj b76 (.loop ⟨.ready, none, 72, 16, treeOf [(2, (.ptr b66 0)), (3, (.ptr b74 0)), (5, (.fn (.func 73) [] [(.ptr b45 0), (.ptr b48 0), (.ptr b51 0), (.ptr b59 0)]))], [6], (atC Try.prog 72 [1, 1, 0, 0]), (atC Try.prog 72 [1, 1, 0, 1]), b77⟩), .obj b66 (.row 83 .whole [(.fn (.func 40) [] [(.ptr b22 0)])]), .obj b22 (.row 3 .whole [(.int .i64 c22_0)]), .obj b74 (.row 83 .whole [(.yield b71)]), .obj b71 (.loop ⟨.ready, none, 71, 13, treeOf [(2, (.ptr b69 0)), (4, .nils), (6, (.fn (.func 72) [] [(.ptr b63 0), (.ptr b66 0)]))], [7], (atC Try.prog 71 [1, 0, 1, 0, 0]), (atC Try.prog 71 [1, 0, 1, 0, 1]), b72⟩), .obj b69 (.row 36 .whole [s139]), .vec 44 5 l139.length s139 (l139.flatMap enc44), .obj b63 (.row 86 .whole [(.fn (.func 73) [] [(.ptr b45 0), (.ptr b48 0), (.ptr b51 0), (.ptr b59 0)])]), .obj b45 (.row 80 .whole [(.int .i64 c45.live), (.int .i64 c45.window), (.int .i64 c45.step)]), .obj b48 (.row 33 .whole [sc48_0]), .obj b51 (.row 33 .whole [sc51_0]), .obj b59 (.row 22 .whole [s56]), .vec 3 1 l56.length s56 (l56.flatMap enc3), .obj b72 .defd, .obj b77 .defd, .obj b90 (.loop ⟨.ready, none, 73, 21, treeOf [(4, (.ptr b59 0)), (5, (.ptr b79 0)), (10, (.fn (.func 84) [] [(.ptr b85 0), (.ptr b88 0), (.ptr b82 0)]))], [11], (atC Try.prog 73 [1, 1, 0, 0]), (atC Try.prog 73 [1, 1, 0, 1]), b91⟩), .obj b79 (.row 83 .whole [(.yield b76)]), .obj b85 (.row 33 .whole [sc85_0]), .obj b88 (.row 33 .whole [sc88_0]), .obj b82 (.row 80 .whole [(.int .i64 c82.live), (.int .i64 c82.window), (.int .i64 c82.step)]), .obj b91 .defd, .obj b98 (.row 73 .whole [(.int .i64 c98.Time), (.int .i64 c98.Loud), (.int .i64 c98.Template)])])
  rcases btf (v41_f2) with hc145 | hc145
  · have h := bif_t hc145 h
    refine Run.opG (wantS_yes' rfl rfl hc145) (ex_not rfl) rfl ?_
    refine Run.opG wantS_none (ex_pickT' rfl hc145 rfl rfl) rfl ?_
    refine Run.opsEnd ?_
    exact Run.low (.cons (fle_pick [] rfl) (.cons (fle_pick [] rfl) (.cons (fle_pick [2] rfl) (.cons (fle_pick [] rfl) (.cons (fle_pick [] rfl) .nil))))) (Run.pick [0, 2, 3, 5, 6, 10, 11, 12, 17, 18, 19, 53] (search_Candidates_5_ok F hd2 hhd2 v5_f2 v10_f2 v11_f2 v12_f2 v17_f2 v18_f2 v19_f2 c22_0 c45 c48_0 c51_0 c85_0 c88_0 c82 c98 l56 l139 sv10_f2 sv17_f2 sc48_0 sc51_0 sc85_0 sc88_0 b90 b59 s56 b79 b76 b66 b22 b74 b71 b69 s139 b63 b45 b48 b51 b72 b77 b85 b88 b82 b91 b98 _ _ _ hv10_f2 hv17_f2 hc48_0 hc51_0 hc85_0 hc88_0 (hH144.pick [15, 11, 12, 16, 0, 1, 2, 3, 4, 5, 6, 7, 8, 9, 10, 13, 14, 17, 18, 19, 20, 21] rfl rfl) h))
  · have h := bif_f hc145 h
    refine Run.no (wantS_not' rfl rfl hc145) rfl ?_
    refine Run.opG wantS_none (ex_pickF' rfl hc145 rfl rfl) rfl ?_
    refine Run.opsEnd ?_
    exact Run.low (.cons (fle_pick [] rfl) (.cons (fle_pick [] rfl) (.cons (fle_pick [2] rfl) (.cons (fle_pick [] rfl) (.cons (fle_pick [] rfl) .nil))))) (Run.pick [0, 2, 3, 5, 6, 10, 11, 12, 17, 18, 19, 53] (search_Candidates_5_ok F hd2 hhd2 v5_f2 v10_f2 v11_f2 v12_f2 v17_f2 v18_f2 v19_f2 c22_0 c45 c48_0 c51_0 c85_0 c88_0 c82 c98 l56 l139 sv10_f2 sv17_f2 sc48_0 sc51_0 sc85_0 sc88_0 b90 b59 s56 b79 b76 b66 b22 b74 b71 b69 s139 b63 b45 b48 b51 b72 b77 b85 b88 b82 b91 b98 _ _ _ hv10_f2 hv17_f2 hc48_0 hc51_0 hc85_0 hc88_0 (hH144.pick [15, 11, 12, 16, 0, 1, 2, 3, 4, 5, 6, 7, 8, 9, 10, 13, 14, 17, 18, 19, 20, 21] rfl rfl) h))

def search_Candidates_3 (F : Nat) (hd2 : Int → (List S_api_Trigger) → Int → Int → (List S_api_Trigger) → Int → Int → Int → S_search_clock → (List S_api_Trigger) → (List S_api_Trigger) → (List S_api_Trigger) → (List S_api_Trigger) → S_search_clock → S_api_Trigger → (List Int) → (List S_api_Candidate) → Option ((List S_api_Candidate) × Int)) (v5 v7 : Int) (v9 : Bool) (v10 : (List S_api_Trigger)) (v11 v12 : Int) (v17 : (List S_api_Trigger)) (v18 v19 c22_0 : Int) (c45 : S_search_clock) (c48_0 c51_0 c85_0 c88_0 : (List S_api_Trigger)) (c82 : S_search_clock) (c98 c105 : S_api_Trigger) (l56 : (List Int)) (l92 : (List S_api_Candidate)) : Option ((List S_api_Candidate) × Int) :=
  bif v9 then
    bnd (search_chance F l56 (w64 (c98.Loud + c105.Loud))) fun r117 =>
    bif (decide (r117.N ≤ c22_0)) then
      bnd (apd 40 l92 ([(S_api_Candidate.mk (S_api_Pair.mk v5 v7 (w64 (c98.Loud + c105.Loud))) r117)] : List S_api_Candidate)) fun l138 =>
      search_Candidates_4 F hd2 v5 v10 v11 v12 v17 v18 v19 v9 c22_0 c45 c48_0 c51_0 c85_0 c88_0 c82 c98 l138 l56
    else
      search_Candidates_4 F hd2 v5 v10 v11 v12 v17 v18 v19 v9 c22_0 c45 c48_0 c51_0 c85_0 c88_0 c82 c98 l92 l56
  else
    search_Candidates_5 F hd2 v5 v10 v11 v12 v17 v18 v19 c22_0 c45 c48_0 c51_0 c85_0 c88_0 c82 c98 l56 l92

theorem search_Candidates_3_ok (F : Nat) (hd2 : Int → (List S_api_Trigger) → Int → Int → (List S_api_Trigger) → Int → Int → Int → S_search_clock → (List S_api_Trigger) → (List S_api_Trigger) → (List S_api_Trigger) → (List S_api_Trigger) → S_search_clock → S_api_Trigger → (List Int) → (List S_api_Candidate) → Option ((List S_api_Candidate) × Int)) (hhd2 : ∀ (v5 : Int) (v10 : (List S_api_Trigger)) (v11 v12 : Int) (v17 : (List S_api_Trigger)) (v18 v19 c22_0 : Int) (c45 : S_search_clock) (c48_0 c51_0 c85_0 c88_0 : (List S_api_Trigger)) (c82 : S_search_clock) (c98 : S_api_Trigger) (l56 : (List Int)) (l92 : (List S_api_Candidate)) (sv10 sv17 sc48_0 sc51_0 sc85_0 sc88_0 : SV) (b90 b59 : Pos) (s56 : SV) (b79 b76 b66 b22 b74 b71 b69 : Pos) (s92 : SV) (b63 b45 b48 b51 b72 b77 b85 b88 b82 b91 b98 : Pos) (Fr : Rd) (M : Mem) (r : (List S_api_Candidate) × Int) (hv10 : Slc Fr 3 (FlatR enc73) sv10 v10) (hv17 : Slc Fr 3 (FlatR enc73) sv17 v17) (hc48_0 : Slc Fr 3 (FlatR enc73) sc48_0 c48_0) (hc51_0 : Slc Fr 3 (FlatR enc73) sc51_0 c51_0) (hc85_0 : Slc Fr 3 (FlatR enc73) sc85_0 c85_0) (hc88_0 : Slc Fr 3 (FlatR enc73) sc88_0 c88_0) (hH : Has Fr M [.obj b90 (.loop ⟨.ready, none, 73, 21, treeOf [(4, (.ptr b59 0)), (5, (.ptr b79 0)), (10, (.fn (.func 84) [] [(.ptr b85 0), (.ptr b88 0), (.ptr b82 0)]))], [11], (atC Try.prog 73 [1, 1, 0, 0]), (atC Try.prog 73 [1, 1, 0, 1]), b91⟩), .obj b59 (.row 22 .whole [s56]), .vec 3 1 l56.length s56 (l56.flatMap enc3), .obj b79 (.row 83 .whole [(.yield b76)]), .obj b76 (.loop ⟨.ready, none, 72, 16, treeOf [(2, (.ptr b66 0)), (3, (.ptr b74 0)), (5, (.fn (.func 73) [] [(.ptr b45 0), (.ptr b48 0), (.ptr b51 0), (.ptr b59 0)]))], [6], (atC Try.prog 72 [1, 1, 0, 0]), (atC Try.prog 72 [1, 1, 0, 1]), b77⟩), .obj b66 (.row 83 .whole [(.fn (.func 40) [] [(.ptr b22 0)])]), .obj b22 (.row 3 .whole [(.int .i64 c22_0)]), .obj b74 (.row 83 .whole [(.yield b71)]), .obj b71 (.loop ⟨.ready, none, 71, 13, treeOf [(2, (.ptr b69 0)), (4, .nils), (6, (.fn (.func 72) [] [(.ptr b63 0), (.ptr b66 0)]))], [7], (atC Try.prog 71 [1, 0, 1, 0, 0]), (atC Try.prog 71 [1, 0, 1, 0, 1]), b72⟩), .obj b69 (.row 36 .whole [s92]), .vec 44 5 l92.length s92 (l92.flatMap enc44), .obj b63 (.row 86 .whole [(.fn (.func 73) [] [(.ptr b45 0), (.ptr b48 0), (.ptr b51 0), (.ptr b59 0)])]), .obj b45 (.row 80 .whole [(.int .i64 c45.live), (.int .i64 c45.window), (.int .i64 c45.step)]), .obj b48 (.row 33 .whole [sc48_0]), .obj b51 (.row 33 .whole [sc51_0]), .obj b72 .defd, .obj b77 .defd, .obj b85 (.row 33 .whole [sc85_0]), .obj b88 (.row 33 .whole [sc88_0]), .obj b82 (.row 80 .whole [(.int .i64 c82.live), (.int .i64 c82.window), (.int .i64 c82.step)]), .obj b91 .defd, .obj b98 (.row 73 .whole [(.int .i64 c98.Time), (.int .i64 c98.Loud), (.int .i64 c98.Template)])]), hd2 v5 v10 v11 v12 v17 v18 v19 c22_0 c45 c48_0 c51_0 c85_0 c88_0 c82 c98 l56 l92 = some r → Run Try.prog ⟨⟨84, [], none⟩, [.mk ⟨73, [b91], none⟩ 21 (treeOf []) [.inRange b90, .inBlock 0], .mk ⟨72, [b77], none⟩ 16 (treeOf []) [.inRange b76, .inBlock 0], .mk ⟨71, [b72], none⟩ 13 (treeOf [(2, (.ptr b69 0))]) [.inRange b71, .inBlock 0, codeC Try.prog 71 [1, 1]], .mk ⟨41, [], none⟩ 5 (treeOf []) [itemC Try.prog 41 [1, 0] 1, codeC Try.prog 41 [1, 1]], .mk ⟨14, [], none⟩ 44 (treeOf []) [itemC Try.prog 14 [1, 1, 1, 1, 0] 6, codeC Try.prog 14 [1, 1, 1, 1, 1]]]⟩ 56 (search_Candidates_post r) [(0, (.yield b90)), (2, (.ptr b88 0)), (3, (.ptr b82 0)), (5, (.int .i64 v5)), (6, (.ptr b98 0)), (10, sv10), (11, (.int .i64 v11)), (12, (.int .i64 v12)), (17, sv17), (18, (.int .i64 v18)), (19, (.int .i64 v19))] [codeC Try.prog 84 [1, 0, 0, 1, 1, 0, 0, 1, 1, 0, 0], loopC Try.prog 84 [1, 0, 0, 1, 1, 0, 0, 1, 1, 0, 0], .inBlock 2, .inBlock 1, codeC Try.prog 84 [1, 0, 0, 1, 1, 1], loopC Try.prog 84 [1, 0, 0], .inBlock 0] M) : ∀ (v5 v7 : Int) (v9 : Bool) (v10 : (List S_api_Trigger)) (v11 v12 : Int) (v17 : (List S_api_Trigger)) (v18 v19 c22_0 : Int) (c45 : S_search_clock) (c48_0 c51_0 c85_0 c88_0 : (List S_api_Trigger)) (c82 : S_search_clock) (c98 c105 : S_api_Trigger) (l56 : (List Int)) (l92 : (List S_api_Candidate)) (sv10 sv17 sc48_0 sc51_0 sc85_0 sc88_0 : SV) (b90 b59 : Pos) (s56 : SV) (b79 b76 b66 b22 b74 b71 b69 : Pos) (s92 : SV) (b63 b45 b48 b51 b72 b77 b85 b88 b82 b91 b98 b105 : Pos) (Fr : Rd) (M : Mem) (r : (List S_api_Candidate) × Int) (hv10 : Slc Fr 3 (FlatR enc73) sv10 v10) (hv17 : Slc Fr 3 (FlatR enc73) sv17 v17) (hc48_0 : Slc Fr 3 (FlatR enc73) sc48_0 c48_0) (hc51_0 : Slc Fr 3 (FlatR enc73) sc51_0 c51_0) (hc85_0 : Slc Fr 3 (FlatR enc73) sc85_0 c85_0) (hc88_0 : Slc Fr 3 (FlatR enc73) sc88_0 c88_0) (hH : Has Fr M [.obj b90 (.loop ⟨.ready, none, 73, 21, treeOf [(4, (.ptr b59 0)), (5, (.ptr b79 0)), (10, (.fn (.func 84) [] [(.ptr b85 0), (.ptr b88 0), (.ptr b82 0)]))], [11], (atC Try.prog 73 [1, 1, 0, 0]), (atC Try.prog 73 [1, 1, 0, 1]), b91⟩), .obj b59 (.row 22 .whole [s56]), .vec 3 1 l56.length s56 (l56.flatMap enc3), .obj b79 (.row 83 .whole [(.yield b76)]), .obj b76 (.loop ⟨.ready, none, 72, 16, treeOf [(2, (.ptr b66 0)), (3, (.ptr b74 0)), (5, (.fn (.func 73) [] [(.ptr b45 0), (.ptr b48 0), (.ptr b51 0), (.ptr b59 0)]))], [6], (atC Try.prog 72 [1, 1, 0, 0]), (atC Try.prog 72 [1, 1, 0, 1]), b77⟩), .obj b66 (.row 83 .whole [(.fn (.func 40) [] [(.ptr b22 0)])]), .obj b22 (.row 3 .whole [(.int .i64 c22_0)]), .obj b74 (.row 83 .whole [(.yield b71)]), .obj b71 (.loop ⟨.ready, none, 71, 13, treeOf [(2, (.ptr b69 0)), (4, .nils), (6, (.fn (.func 72) [] [(.ptr b63 0), (.ptr b66 0)]))], [7], (atC Try.prog 71 [1, 0, 1, 0, 0]), (atC Try.prog 71 [1, 0, 1, 0, 1]), b72⟩), .obj b69 (.row 36 .whole [s92]), .vec 44 5 l92.length s92 (l92.flatMap enc44), .obj b63 (.row 86 .whole [(.fn (.func 73) [] [(.ptr b45 0), (.ptr b48 0), (.ptr b51 0), (.ptr b59 0)])]), .obj b45 (.row 80 .whole [(.int .i64 c45.live), (.int .i64 c45.window), (.int .i64 c45.step)]), .obj b48 (.row 33 .whole [sc48_0]), .obj b51 (.row 33 .whole [sc51_0]), .obj b72 .defd, .obj b77 .defd, .obj b85 (.row 33 .whole [sc85_0]), .obj b88 (.row 33 .whole [sc88_0]), .obj b82 (.row 80 .whole [(.int .i64 c82.live), (.int .i64 c82.window), (.int .i64 c82.step)]), .obj b91 .defd, .obj b98 (.row 73 .whole [(.int .i64 c98.Time), (.int .i64 c98.Loud), (.int .i64 c98.Template)]), .obj b105 (.row 73 .whole [(.int .i64 c105.Time), (.int .i64 c105.Loud), (.int .i64 c105.Template)])]), search_Candidates_3 F hd2 v5 v7 v9 v10 v11 v12 v17 v18 v19 c22_0 c45 c48_0 c51_0 c85_0 c88_0 c82 c98 c105 l56 l92 = some r → Run Try.prog ⟨⟨84, [], none⟩, [.mk ⟨73, [b91], none⟩ 21 (treeOf []) [.inRange b90, .inBlock 0], .mk ⟨72, [b77], none⟩ 16 (treeOf []) [.inRange b76, .inBlock 0], .mk ⟨71, [b72], none⟩ 13 (treeOf [(2, (.ptr b69 0))]) [.inRange b71, .inBlock 0, codeC Try.prog 71 [1, 1]], .mk ⟨41, [], none⟩ 5 (treeOf []) [itemC Try.prog 41 [1, 0] 1, codeC Try.prog 41 [1, 1]], .mk ⟨14, [], none⟩ 44 (treeOf []) [itemC Try.prog 14 [1, 1, 1, 1, 0] 6, codeC Try.prog 14 [1, 1, 1, 1, 1]]]⟩ 56 (search_Candidates_post r) [(0, (.yield b90)), (2, (.ptr b88 0)), (3, (.ptr b82 0)), (5, (.int .i64 v5)), (6, (.ptr b98 0)), (7, (.int .i64 v7)), (8, (.ptr b105 0)), (9, (.bool v9)), (10, sv10), (11, (.int .i64 v11)), (12, (.int .i64 v12)), (17, sv17), (18, (.int .i64 v18)), (19, (.int .i64 v19))] [itemC Try.prog 84 [1, 0, 0, 1, 1, 0, 0, 1, 1, 0, 0, 1, 1, 0, 0, 1, 1, 0] 0, codeC Try.prog 84 [1, 0, 0, 1, 1, 0, 0, 1, 1, 0, 0, 1, 1, 0, 0, 1, 1, 1], .inBlock 3, codeC Try.prog 84 [1, 0, 0, 1, 1, 0, 0, 1, 1, 0, 0, 1, 1, 1], loopC Try.prog 84 [1, 0, 0, 1, 1, 0, 0, 1, 1, 0, 0], .inBlock 2, .inBlock 1, codeC Try.prog 84 [1, 0, 0, 1, 1, 1], loopC Try.prog 84 [1, 0, 0], .inBlock 0] M := by
  intro v5 v7 v9 v10 v11 v12 v17 v18 v19 c22_0 c45 c48_0 c51_0 c85_0 c88_0 c82 c98 c105 l56 l92 sv10 sv17 sc48_0 sc51_0 sc85_0 sc88_0 b90 b59 s56 b79 b76 b66 b22 b74 b71 b69 s92 b63 b45 b48 b51 b72 b77 b85 b88 b82 b91 b98 b105 Fr M r hv10 hv17 hc48_0 hc51_0 hc85_0 hc88_0 hH h
  rw [search_Candidates_3] at h
  refine Run.opG wantS_none (ex_move rfl) rfl ?_
  refine Run.opG wantS_none (ex_move rfl) rfl ?_
  rcases btf (v9) with hc111 | hc111
  · have h := bif_t hc111 h
    refine Run.opG (wantS_yes' rfl rfl hc111) (ex_move rfl) rfl ?_
    refine Run.opG (wantS_yes' rfl rfl hc111) (ex_move rfl) rfl ?_
    refine Run.opG (wantS_yes' rfl rfl hc111) (ex_move rfl) rfl ?_
    refine Run.opG (wantS_yes' rfl rfl hc111) (ex_fieldAddr rfl off73_1) rfl ?_
    refine Run.opG (wantS_yes' rfl rfl hc111) (ex_load1 rfl (hH.cells (i := 21) rfl 1 rfl) rdLe_rfl agg3) rfl ?_
    refine Run.opG (wantS_yes' rfl rfl hc111) (ex_fieldAddr rfl off73_1) rfl ?_
    refine Run.opG (wantS_yes' rfl rfl hc111) (ex_load1 rfl (hH.cells (i := 22) rfl 1 rfl) rdLe_rfl agg3) rfl ?_
    refine Run.opG (wantS_yes' rfl rfl hc111) (ex_add rfl rfl) rfl ?_
    refine Run.opG (wantS_yes' rfl rfl hc111) (ex_build (r := [(.int .i64 v5), (.int .i64 v7), (.int .i64 (w64 (c98.Loud + c105.Loud)))]) rfl zer40 pls40 rfl) rfl ?_
    refine Run.round (e' := [(11, (.agg [(.int .i64 v5), (.int .i64 v7), (.int .i64 (w64 (c98.Loud + c105.Loud)))])), (4, (.ptr b59 0)), (5, (.ptr b79 0)), (10, (.fn (.func 84) [] [(.ptr b85 0), (.ptr b88 0), (.ptr b82 0)]))]) (wantS_yes' rfl rfl hc111) (ex_yield hH (i := 0) rfl rfl rfl rfl) (hH.loopOf (i := 0) rfl) rfl ?_
    refine Run.region ?_
    refine Run.opX wantS_none rfl (ExG.new (v := fun b => .ptr b 0) (ex_alloc zer40) hH) ?_
    rintro _ M114 ⟨b113, rfl, hH114⟩
    refine Run.opX wantS_none rfl (ExG.storeC (c' := [(.int .i64 v5), (.int .i64 v7), (.int .i64 (w64 (c98.Loud + c105.Loud)))]) rfl rfl rfl hH114 (i := 0) rfl sz40 rfl rfl rfl rfl rfl) ?_
    rintro _ M115 ⟨rfl, (hH115 : Has Fr M115 [.obj b113 (.row 40 .whole [(.int .i64 v5), (.int .i64 v7), (.int .i64 (w64 (c98.Loud + c105.Loud)))]), .obj b90 (.loop ⟨.ready, none, 73, 21, treeOf [(4, (.ptr b59 0)), (5, (.ptr b79 0)), (10, (.fn (.func 84) [] [(.ptr b85 0), (.ptr b88 0), (.ptr b82 0)]))], [11], (atC Try.prog 73 [1, 1, 0, 0]), (atC Try.prog 73 [1, 1, 0, 1]), b91⟩), .obj b59 (.row 22 .whole [s56]), .vec 3 1 l56.length s56 (l56.flatMap enc3), .obj b79 (.row 83 .whole [(.yield b76)]), .obj b76 (.loop ⟨.ready, none, 72, 16, treeOf [(2, (.ptr b66 0)), (3, (.ptr b74 0)), (5, (.fn (.func 73) [] [(.ptr b45 0), (.ptr b48 0), (.ptr b51 0), (.ptr b59 0)]))], [6], (atC Try.prog 72 [1, 1, 0, 0]), (atC Try.prog 72 [1, 1, 0, 1]), b77⟩), .obj b66 (.row 83 .whole [(.fn (.func 40) [] [(.ptr b22 0)])]), .obj b22 (.row 3 .whole [(.int .i64 c22_0)]), .obj b74 (.row 83 .whole [(.yield b71)]), .obj b71 (.loop ⟨.ready, none, 71, 13, treeOf [(2, (.ptr b69 0)), (4, .nils), (6, (.fn (.func 72) [] [(.ptr b63 0), (.ptr b66 0)]))], [7], (atC Try.prog 71 [1, 0, 1, 0, 0]), (atC Try.prog 71 [1, 0, 1, 0, 1]), b72⟩), .obj b69 (.row 36 .whole [s92]), .vec 44 5 l92.length s92 (l92.flatMap enc44), .obj b63 (.row 86 .whole [(.fn (.func 73) [] [(.ptr b45 0), (.ptr b48 0), (.ptr b51 0), (.ptr b59 0)])]), .obj b45 (.row 80 .whole [(.int .i64 c45.live), (.int .i64 c45.window), (.int .i64 c45.step)]), .obj b48 (.row 33 .whole [sc48_0]), .obj b51 (.row 33 .whole [sc51_0]), .obj b72 .defd, .obj b77 .defd, .obj b85 (.row 33 .whole [sc85_0]), .obj b88 (.row 33 .whole [sc88_0]), .obj b82 (.row 80 .whole [(.int .i64 c82.live), (.int .i64 c82.window), (.int .i64 c82.step)]), .obj b91 .defd, .obj b98 (.row 73 .whole [(.int .i64 c98.Time), (.int .i64 c98.Loud), (.int .i64 c98.Template)]), .obj b105 (.row 73 .whole [(.int .i64 c105.Time), (.int .i64 c105.Loud), (.int .i64 c105.Template)])])⟩
    refine Run.opsEnd ?_
    refine Run.beginX hH115 (i := 1) rfl rfl ?_
    intro M116 (hH116 : Has Fr M116 [.obj b113 (.row 40 .whole [(.int .i64 v5), (.int .i64 v7), (.int .i64 (w64 (c98.Loud + c105.Loud)))]), .obj b90 (.loop ⟨.busy, none, 73, 21, treeOf [(4, (.ptr b59 0)), (5, (.ptr b79 0)), (10, (.fn (.func 84) [] [(.ptr b85 0), (.ptr b88 0), (.ptr b82 0)]))], [11], (atC Try.prog 73 [1, 1, 0, 0]), (atC Try.prog 73 [1, 1, 0, 1]), b91⟩), .obj b59 (.row 22 .whole [s56]), .vec 3 1 l56.length s56 (l56.flatMap enc3), .obj b79 (.row 83 .whole [(.yield b76)]), .obj b76 (.loop ⟨.ready, none, 72, 16, treeOf [(2, (.ptr b66 0)), (3, (.ptr b74 0)), (5, (.fn (.func 73) [] [(.ptr b45 0), (.ptr b48 0), (.ptr b51 0), (.ptr b59 0)]))], [6], (atC Try.prog 72 [1, 1, 0, 0]), (atC Try.prog 72 [1, 1, 0, 1]), b77⟩), .obj b66 (.row 83 .whole [(.fn (.func 40) [] [(.ptr b22 0)])]), .obj b22 (.row 3 .whole [(.int .i64 c22_0)]), .obj b74 (.row 83 .whole [(.yield b71)]), .obj b71 (.loop ⟨.ready, none, 71, 13, treeOf [(2, (.ptr b69 0)), (4, .nils), (6, (.fn (.func 72) [] [(.ptr b63 0), (.ptr b66 0)]))], [7], (atC Try.prog 71 [1, 0, 1, 0, 0]), (atC Try.prog 71 [1, 0, 1, 0, 1]), b72⟩), .obj b69 (.row 36 .whole [s92]), .vec 44 5 l92.length s92 (l92.flatMap enc44), .obj b63 (.row 86 .whole [(.fn (.func 73) [] [(.ptr b45 0), (.ptr b48 0), (.ptr b51 0), (.ptr b59 0)])]), .obj b45 (.row 80 .whole [(.int .i64 c45.live), (.int .i64 c45.window), (.int .i64 c45.step)]), .obj b48 (.row 33 .whole [sc48_0]), .obj b51 (.row 33 .whole [sc51_0]), .obj b72 .defd, .obj b77 .defd, .obj b85 (.row 33 .whole [sc85_0]), .obj b88 (.row 33 .whole [sc88_0]), .obj b82 (.row 80 .whole [(.int .i64 c82.live), (.int .i64 c82.window), (.int .i64 c82.step)]), .obj b91 .defd, .obj b98 (.row 73 .whole [(.int .i64 c98.Time), (.int .i64 c98.Loud), (.int .i64 c98.Template)]), .obj b105 (.row 73 .whole [(.int .i64 c105.Time), (.int .i64 c105.Loud), (.int .i64 c105.Template)])])
    refine Run.block (Run.seq ?_)
    refine Run.headG seqp73_1_1_0_1_0_0 rfl rfl ?_
    refine PureG.val wantS_none (ex_load1 rfl (hH116.cells (i := 4) rfl 0 rfl) rdLe_rfl agg83) rfl ?_
    refine PureG.val wantS_none (ex_loadA rfl (hH116.cells (i := 0) rfl 0 rfl) rdLe_rfl agg40 rfl rfl rfl) rfl ?_
    refine PureG.val wantS_none (ex_load1 rfl (hH116.cells (i := 2) rfl 0 rfl) rdLe_rfl agg22) rfl ?_
    refine PureG.val wantS_none (ex_fieldAddr rfl off40_2) rfl ?_
    refine PureG.val wantS_none (ex_load1 rfl (hH116.cells (i := 0) rfl 2 rfl) rdLe_rfl agg3) rfl ?_
    obtain ⟨r117, hr117, h⟩ := bnd_some h
    refine PureG.callP wantS_none (ex_call rfl mkk60 cal60) rfl (search_chance_ok F l56 (w64 (c98.Loud + c105.Loud)) s56 _ _ (hH116.slc (i := 3) rfl enc3_len) hr117) ?_
    refine PureG.val wantS_none (ex_build (r := [(.int .i64 v5), (.int .i64 v7), (.int .i64 (w64 (c98.Loud + c105.Loud))), (.int .i64 r117.N), (.int .i64 r117.Of)]) rfl zer44 pls44 rfl) rfl ?_
    refine PureG.nil ?_
    refine SeqG.nil ?_
    refine Run.round (e' := [(6, (.agg [(.int .i64 v5), (.int .i64 v7), (.int .i64 (w64 (c98.Loud + c105.Loud))), (.int .i64 r117.N), (.int .i64 r117.Of)])), (2, (.ptr b66 0)), (3, (.ptr b74 0)), (5, (.fn (.func 73) [] [(.ptr b45 0), (.ptr b48 0), (.ptr b51 0), (.ptr b59 0)]))]) wantS_none (ex_yield hH116 (i := 5) rfl rfl rfl rfl) (hH116.loopOf (i := 5) rfl) rfl ?_
    refine Run.region ?_
    refine Run.opX wantS_none rfl (ExG.new (v := fun b => .ptr b 0) (ex_alloc zer44) hH116) ?_
    rintro _ M121 ⟨b120, rfl, hH121⟩
    refine Run.opX wantS_none rfl (ExG.storeC (c' := [(.int .i64 v5), (.int .i64 v7), (.int .i64 (w64 (c98.Loud + c105.Loud))), (.int .i64 r117.N), (.int .i64 r117.Of)]) rfl rfl rfl hH121 (i := 0) rfl sz44 rfl rfl rfl rfl rfl) ?_
    rintro _ M122 ⟨rfl, (hH122 : Has Fr M122 [.obj b120 (.row 44 .whole [(.int .i64 v5), (.int .i64 v7), (.int .i64 (w64 (c98.Loud + c105.Loud))), (.int .i64 r117.N), (.int .i64 r117.Of)]), .obj b113 (.row 40 .whole [(.int .i64 v5), (.int .i64 v7), (.int .i64 (w64 (c98.Loud + c105.Loud)))]), .obj b90 (.loop ⟨.busy, none, 73, 21, treeOf [(4, (.ptr b59 0)), (5, (.ptr b79 0)), (10, (.fn (.func 84) [] [(.ptr b85 0), (.ptr b88 0), (.ptr b82 0)]))], [11], (atC Try.prog 73 [1, 1, 0, 0]), (atC Try.prog 73 [1, 1, 0, 1]), b91⟩), .obj b59 (.row 22 .whole [s56]), .vec 3 1 l56.length s56 (l56.flatMap enc3), .obj b79 (.row 83 .whole [(.yield b76)]), .obj b76 (.loop ⟨.ready, none, 72, 16, treeOf [(2, (.ptr b66 0)), (3, (.ptr b74 0)), (5, (.fn (.func 73) [] [(.ptr b45 0), (.ptr b48 0), (.ptr b51 0), (.ptr b59 0)]))], [6], (atC Try.prog 72 [1, 1, 0, 0]), (atC Try.prog 72 [1, 1, 0, 1]), b77⟩), .obj b66 (.row 83 .whole [(.fn (.func 40) [] [(.ptr b22 0)])]), .obj b22 (.row 3 .whole [(.int .i64 c22_0)]), .obj b74 (.row 83 .whole [(.yield b71)]), .obj b71 (.loop ⟨.ready, none, 71, 13, treeOf [(2, (.ptr b69 0)), (4, .nils), (6, (.fn (.func 72) [] [(.ptr b63 0), (.ptr b66 0)]))], [7], (atC Try.prog 71 [1, 0, 1, 0, 0]), (atC Try.prog 71 [1, 0, 1, 0, 1]), b72⟩), .obj b69 (.row 36 .whole [s92]), .vec 44 5 l92.length s92 (l92.flatMap enc44), .obj b63 (.row 86 .whole [(.fn (.func 73) [] [(.ptr b45 0), (.ptr b48 0), (.ptr b51 0), (.ptr b59 0)])]), .obj b45 (.row 80 .whole [(.int .i64 c45.live), (.int .i64 c45.window), (.int .i64 c45.step)]), .obj b48 (.row 33 .whole [sc48_0]), .obj b51 (.row 33 .whole [sc51_0]), .obj b72 .defd, .obj b77 .defd, .obj b85 (.row 33 .whole [sc85_0]), .obj b88 (.row 33 .whole [sc88_0]), .obj b82 (.row 80 .whole [(.int .i64 c82.live), (.int .i64 c82.window), (.int .i64 c82.step)]), .obj b91 .defd, .obj b98 (.row 73 .whole [(.int .i64 c98.Time), (.int .i64 c98.Loud), (.int .i64 c98.Template)]), .obj b105 (.row 73 .whole [(.int .i64 c105.Time), (.int .i64 c105.Loud), (.int .i64 c105.Template)])])⟩
    refine Run.opsEnd ?_
    refine Run.beginX hH122 (i := 6) rfl rfl ?_
    intro M123 (hH123 : Has Fr M123 [.obj b120 (.row 44 .whole [(.int .i64 v5), (.int .i64 v7), (.int .i64 (w64 (c98.Loud + c105.Loud))), (.int .i64 r117.N), (.int .i64 r117.Of)]), .obj b113 (.row 40 .whole [(.int .i64 v5), (.int .i64 v7), (.int .i64 (w64 (c98.Loud + c105.Loud)))]), .obj b90 (.loop ⟨.busy, none, 73, 21, treeOf [(4, (.ptr b59 0)), (5, (.ptr b79 0)), (10, (.fn (.func 84) [] [(.ptr b85 0), (.ptr b88 0), (.ptr b82 0)]))], [11], (atC Try.prog 73 [1, 1, 0, 0]), (atC Try.prog 73 [1, 1, 0, 1]), b91⟩), .obj b59 (.row 22 .whole [s56]), .vec 3 1 l56.length s56 (l56.flatMap enc3), .obj b79 (.row 83 .whole [(.yield b76)]), .obj b76 (.loop ⟨.busy, none, 72, 16, treeOf [(2, (.ptr b66 0)), (3, (.ptr b74 0)), (5, (.fn (.func 73) [] [(.ptr b45 0), (.ptr b48 0), (.ptr b51 0), (.ptr b59 0)]))], [6], (atC Try.prog 72 [1, 1, 0, 0]), (atC Try.prog 72 [1, 1, 0, 1]), b77⟩), .obj b66 (.row 83 .whole [(.fn (.func 40) [] [(.ptr b22 0)])]), .obj b22 (.row 3 .whole [(.int .i64 c22_0)]), .obj b74 (.row 83 .whole [(.yield b71)]), .obj b71 (.loop ⟨.ready, none, 71, 13, treeOf [(2, (.ptr b69 0)), (4, .nils), (6, (.fn (.func 72) [] [(.ptr b63 0), (.ptr b66 0)]))], [7], (atC Try.prog 71 [1, 0, 1, 0, 0]), (atC Try.prog 71 [1, 0, 1, 0, 1]), b72⟩), .obj b69 (.row 36 .whole [s92]), .vec 44 5 l92.length s92 (l92.flatMap enc44), .obj b63 (.row 86 .whole [(.fn (.func 73) [] [(.ptr b45 0), (.ptr b48 0), (.ptr b51 0), (.ptr b59 0)])]), .obj b45 (.row 80 .whole [(.int .i64 c45.live), (.int .i64 c45.window), (.int .i64 c45.step)]), .obj b48 (.row 33 .whole [sc48_0]), .obj b51 (.row 33 .whole [sc51_0]), .obj b72 .defd, .obj b77 .defd, .obj b85 (.row 33 .whole [sc85_0]), .obj b88 (.row 33 .whole [sc88_0]), .obj b82 (.row 80 .whole [(.int .i64 c82.live), (.int .i64 c82.window), (.int .i64 c82.step)]), .obj b91 .defd, .obj b98 (.row 73 .whole [(.int .i64 c98.Time), (.int .i64 c98.Loud), (.int .i64 c98.Template)]), .obj b105 (.row 73 .whole [(.int .i64 c105.Time), (.int .i64 c105.Loud), (.int .i64 c105.Template)])])
    refine Run.block (Run.seq (Run.region ?_))
    refine Run.opG wantS_none (ex_load1 rfl (hH123.cells (i := 7) rfl 0 rfl) rdLe_rfl agg83) rfl ?_
    refine Run.opG wantS_none (ex_loadA rfl (hH123.cells (i := 0) rfl 0 rfl) rdLe_rfl agg44 rfl rfl rfl) rfl ?_
    refine Run.enter wantS_none (ex_closure rfl rfl mkk40 cal40) Try.func40 rfl rfl ?_
    refine Run.seq (Run.region ?_)
    refine Run.opX wantS_none rfl (ExG.box rfl rfl hH123) ?_
    rintro _ M126 ⟨b125, rfl, hH126⟩
    refine Run.opG wantS_none (ex_assign rfl) rfl ?_
    refine Run.opsEnd (Run.seq (Run.region ?_))
    refine Run.opG wantS_none (ex_fieldAddr rfl off44_1) rfl ?_
    refine Run.opG wantS_none (ex_fieldAddr rfl off42_0) rfl ?_
    refine Run.opG wantS_none (ex_load1 rfl (hH126.cells (i := 0) rfl 3 rfl) rdLe_rfl agg3) rfl ?_
    refine Run.opG wantS_none (ex_load1 rfl (hH126.cells (i := 9) rfl 0 rfl) rdLe_rfl agg3) rfl ?_
    refine Run.opG wantS_none (ex_leq rfl rfl) rfl ?_
    refine Run.opG wantS_none (ex_assign rfl) rfl ?_
    refine Run.opsEnd ?_
    refine Run.retTo Try.func40 rfl (res_tmp rfl res_nil) rfl ?_
    refine Run.opG wantS_none (ex_move rfl) rfl ?_
    rcases btf ((decide (r117.N ≤ c22_0))) with hc127 | hc127
    · have h := bif_t hc127 h
      refine Run.opG (wantS_yes' rfl rfl hc127) (ex_load1 rfl (hH126.cells (i := 10) rfl 0 rfl) rdLe_rfl agg83) rfl ?_
      refine Run.opG (wantS_yes' rfl rfl hc127) (ex_loadA rfl (hH126.cells (i := 1) rfl 0 rfl) rdLe_rfl agg44 rfl rfl rfl) rfl ?_
      refine Run.round (e' := [(7, (.agg [(.int .i64 v5), (.int .i64 v7), (.int .i64 (w64 (c98.Loud + c105.Loud))), (.int .i64 r117.N), (.int .i64 r117.Of)])), (2, (.ptr b69 0)), (4, .nils), (6, (.fn (.func 72) [] [(.ptr b63 0), (.ptr b66 0)]))]) (wantS_yes' rfl rfl hc127) (ex_yield hH126 (i := 11) rfl rfl rfl rfl) (hH126.loopOf (i := 11) rfl) rfl ?_
      refine Run.region ?_
      refine Run.opX wantS_none rfl (ExG.new (v := fun b => .ptr b 0) (ex_alloc zer44) hH126) ?_
      rintro _ M130 ⟨b129, rfl, hH130⟩
      refine Run.opX wantS_none rfl (ExG.storeC (c' := [(.int .i64 v5), (.int .i64 v7), (.int .i64 (w64 (c98.Loud + c105.Loud))), (.int .i64 r117.N), (.int .i64 r117.Of)]) rfl rfl rfl hH130 (i := 0) rfl sz44 rfl rfl rfl rfl rfl) ?_
      rintro _ M131 ⟨rfl, (hH131 : Has Fr M131 [.obj b129 (.row 44 .whole [(.int .i64 v5), (.int .i64 v7), (.int .i64 (w64 (c98.Loud + c105.Loud))), (.int .i64 r117.N), (.int .i64 r117.Of)]), .obj b125 (.row 44 .whole [(.int .i64 v5), (.int .i64 v7), (.int .i64 (w64 (c98.Loud + c105.Loud))), (.int .i64 r117.N), (.int .i64 r117.Of)]), .obj b120 (.row 44 .whole [(.int .i64 v5), (.int .i64 v7), (.int .i64 (w64 (c98.Loud + c105.Loud))), (.int .i64 r117.N), (.int .i64 r117.Of)]), .obj b113 (.row 40 .whole [(.int .i64 v5), (.int .i64 v7), (.int .i64 (w64 (c98.Loud + c105.Loud)))]), .obj b90 (.loop ⟨.busy, none, 73, 21, treeOf [(4, (.ptr b59 0)), (5, (.ptr b79 0)), (10, (.fn (.func 84) [] [(.ptr b85 0), (.ptr b88 0), (.ptr b82 0)]))], [11], (atC Try.prog 73 [1, 1, 0, 0]), (atC Try.prog 73 [1, 1, 0, 1]), b91⟩), .obj b59 (.row 22 .whole [s56]), .vec 3 1 l56.length s56 (l56.flatMap enc3), .obj b79 (.row 83 .whole [(.yield b76)]), .obj b76 (.loop ⟨.busy, none, 72, 16, treeOf [(2, (.ptr b66 0)), (3, (.ptr b74 0)), (5, (.fn (.func 73) [] [(.ptr b45 0), (.ptr b48 0), (.ptr b51 0), (.ptr b59 0)]))], [6], (atC Try.prog 72 [1, 1, 0, 0]), (atC Try.prog 72 [1, 1, 0, 1]), b77⟩), .obj b66 (.row 83 .whole [(.fn (.func 40) [] [(.ptr b22 0)])]), .obj b22 (.row 3 .whole [(.int .i64 c22_0)]), .obj b74 (.row 83 .whole [(.yield b71)]), .obj b71 (.loop ⟨.ready, none, 71, 13, treeOf [(2, (.ptr b69 0)), (4, .nils), (6, (.fn (.func 72) [] [(.ptr b63 0), (.ptr b66 0)]))], [7], (atC Try.prog 71 [1, 0, 1, 0, 0]), (atC Try.prog 71 [1, 0, 1, 0, 1]), b72⟩), .obj b69 (.row 36 .whole [s92]), .vec 44 5 l92.length s92 (l92.flatMap enc44), .obj b63 (.row 86 .whole [(.fn (.func 73) [] [(.ptr b45 0), (.ptr b48 0), (.ptr b51 0), (.ptr b59 0)])]), .obj b45 (.row 80 .whole [(.int .i64 c45.live), (.int .i64 c45.window), (.int .i64 c45.step)]), .obj b48 (.row 33 .whole [sc48_0]), .obj b51 (.row 33 .whole [sc51_0]), .obj b72 .defd, .obj b77 .defd, .obj b85 (.row 33 .whole [sc85_0]), .obj b88 (.row 33 .whole [sc88_0]), .obj b82 (.row 80 .whole [(.int .i64 c82.live), (.int .i64 c82.window), (.int .i64 c82.step)]), .obj b91 .defd, .obj b98 (.row 73 .whole [(.int .i64 c98.Time), (.int .i64 c98.Loud), (.int .i64 c98.Template)]), .obj b105 (.row 73 .whole [(.int .i64 c105.Time), (.int .i64 c105.Loud), (.int .i64 c105.Template)])])⟩
      refine Run.opsEnd ?_
      refine Run.beginX hH131 (i := 12) rfl rfl ?_
      intro M132 (hH132 : Has Fr M132 [.obj b129 (.row 44 .whole [(.int .i64 v5), (.int .i64 v7), (.int .i64 (w64 (c98.Loud + c105.Loud))), (.int .i64 r117.N), (.int .i64 r117.Of)]), .obj b125 (.row 44 .whole [(.int .i64 v5), (.int .i64 v7), (.int .i64 (w64 (c98.Loud + c105.Loud))), (.int .i64 r117.N), (.int .i64 r117.Of)]), .obj b120 (.row 44 .whole [(.int .i64 v5), (.int .i64 v7), (.int .i64 (w64 (c98.Loud + c105.Loud))), (.int .i64 r117.N), (.int .i64 r117.Of)]), .obj b113 (.row 40 .whole [(.int .i64 v5), (.int .i64 v7), (.int .i64 (w64 (c98.Loud + c105.Loud)))]), .obj b90 (.loop ⟨.busy, none, 73, 21, treeOf [(4, (.ptr b59 0)), (5, (.ptr b79 0)), (10, (.fn (.func 84) [] [(.ptr b85 0), (.ptr b88 0), (.ptr b82 0)]))], [11], (atC Try.prog 73 [1, 1, 0, 0]), (atC Try.prog 73 [1, 1, 0, 1]), b91⟩), .obj b59 (.row 22 .whole [s56]), .vec 3 1 l56.length s56 (l56.flatMap enc3), .obj b79 (.row 83 .whole [(.yield b76)]), .obj b76 (.loop ⟨.busy, none, 72, 16, treeOf [(2, (.ptr b66 0)), (3, (.ptr b74 0)), (5, (.fn (.func 73) [] [(.ptr b45 0), (.ptr b48 0), (.ptr b51 0), (.ptr b59 0)]))], [6], (atC Try.prog 72 [1, 1, 0, 0]), (atC Try.prog 72 [1, 1, 0, 1]), b77⟩), .obj b66 (.row 83 .whole [(.fn (.func 40) [] [(.ptr b22 0)])]), .obj b22 (.row 3 .whole [(.int .i64 c22_0)]), .obj b74 (.row 83 .whole [(.yield b71)]), .obj b71 (.loop ⟨.busy, none, 71, 13, treeOf [(2, (.ptr b69 0)), (4, .nils), (6, (.fn (.func 72) [] [(.ptr b63 0), (.ptr b66 0)]))], [7], (atC Try.prog 71 [1, 0, 1, 0, 0]), (atC Try.prog 71 [1, 0, 1, 0, 1]), b72⟩), .obj b69 (.row 36 .whole [s92]), .vec 44 5 l92.length s92 (l92.flatMap enc44), .obj b63 (.row 86 .whole [(.fn (.func 73) [] [(.ptr b45 0), (.ptr b48 0), (.ptr b51 0), (.ptr b59 0)])]), .obj b45 (.row 80 .whole [(.int .i64 c45.live), (.int .i64 c45.window), (.int .i64 c45.step)]), .obj b48 (.row 33 .whole [sc48_0]), .obj b51 (.row 33 .whole [sc51_0]), .obj b72 .defd, .obj b77 .defd, .obj b85 (.row 33 .whole [sc85_0]), .obj b88 (.row 33 .whole [sc88_0]), .obj b82 (.row 80 .whole [(.int .i64 c82.live), (.int .i64 c82.window), (.int .i64 c82.step)]), .obj b91 .defd, .obj b98 (.row 73 .whole [(.int .i64 c98.Time), (.int .i64 c98.Loud), (.int .i64 c98.Template)]), .obj b105 (.row 73 .whole [(.int .i64 c105.Time), (.int .i64 c105.Loud), (.int .i64 c105.Template)])])
      refine Run.block (Run.region ?_)
      refine Run.opG wantS_none (ex_load1 rfl (hH132.cells (i := 13) rfl 0 rfl) rdLe_rfl agg36) rfl ?_
      refine Run.opG wantS_none (ex_loadA rfl (hH132.cells (i := 0) rfl 0 rfl) rdLe_rfl agg44 rfl rfl rfl) rfl ?_
      refine Run.opX wantS_none rfl (ExG.built (enc := enc44) (l := ([(S_api_Candidate.mk (S_api_Pair.mk v5 v7 (w64 (c98.Loud + c105.Loud))) r117)] : List S_api_Candidate)) (z := 5) rfl elt36 rfl rfl rfl enc44_len hH132) ?_
      rintro s134 M135 (hH135 : Has Fr M135 [.vec 44 5 ([(S_api_Candidate.mk (S_api_Pair.mk v5 v7 (w64 (c98.Loud + c105.Loud))) r117)] : List S_api_Candidate).length s134 (([(S_api_Candidate.mk (S_api_Pair.mk v5 v7 (w64 (c98.Loud + c105.Loud))) r117)] : List S_api_Candidate).flatMap enc44), .obj b129 (.row 44 .whole [(.int .i64 v5), (.int .i64 v7), (.int .i64 (w64 (c98.Loud + c105.Loud))), (.int .i64 r117.N), (.int .i64 r117.Of)]), .obj b125 (.row 44 .whole [(.int .i64 v5), (.int .i64 v7), (.int .i64 (w64 (c98.Loud + c105.Loud))), (.int .i64 r117.N), (.int .i64 r117.Of)]), .obj b120 (.row 44 .whole [(.int .i64 v5), (.int .i64 v7), (.int .i64 (w64 (c98.Loud + c105.Loud))), (.int .i64 r117.N), (.int .i64 r117.Of)]), .obj b113 (.row 40 .whole [(.int .i64 v5), (.int .i64 v7), (.int .i64 (w64 (c98.Loud + c105.Loud)))]), .obj b90 (.loop ⟨.busy, none, 73, 21, treeOf [(4, (.ptr b59 0)), (5, (.ptr b79 0)), (10, (.fn (.func 84) [] [(.ptr b85 0), (.ptr b88 0), (.ptr b82 0)]))], [11], (atC Try.prog 73 [1, 1, 0, 0]), (atC Try.prog 73 [1, 1, 0, 1]), b91⟩), .obj b59 (.row 22 .whole [s56]), .vec 3 1 l56.length s56 (l56.flatMap enc3), .obj b79 (.row 83 .whole [(.yield b76)]), .obj b76 (.loop ⟨.busy, none, 72, 16, treeOf [(2, (.ptr b66 0)), (3, (.ptr b74 0)), (5, (.fn (.func 73) [] [(.ptr b45 0), (.ptr b48 0), (.ptr b51 0), (.ptr b59 0)]))], [6], (atC Try.prog 72 [1, 1, 0, 0]), (atC Try.prog 72 [1, 1, 0, 1]), b77⟩), .obj b66 (.row 83 .whole [(.fn (.func 40) [] [(.ptr b22 0)])]), .obj b22 (.row 3 .whole [(.int .i64 c22_0)]), .obj b74 (.row 83 .whole [(.yield b71)]), .obj b71 (.loop ⟨.busy, none, 71, 13, treeOf [(2, (.ptr b69 0)), (4, .nils), (6, (.fn (.func 72) [] [(.ptr b63 0), (.ptr b66 0)]))], [7], (atC Try.prog 71 [1, 0, 1, 0, 0]), (atC Try.prog 71 [1, 0, 1, 0, 1]), b72⟩), .obj b69 (.row 36 .whole [s92]), .vec 44 5 l92.length s92 (l92.flatMap enc44), .obj b63 (.row 86 .whole [(.fn (.func 73) [] [(.ptr b45 0), (.ptr b48 0), (.ptr b51 0), (.ptr b59 0)])]), .obj b45 (.row 80 .whole [(.int .i64 c45.live), (.int .i64 c45.window), (.int .i64 c45.step)]), .obj b48 (.row 33 .whole [sc48_0]), .obj b51 (.row 33 .whole [sc51_0]), .obj b72 .defd, .obj b77 .defd, .obj b85 (.row 33 .whole [sc85_0]), .obj b88 (.row 33 .whole [sc88_0]), .obj b82 (.row 80 .whole [(.int .i64 c82.live), (.int .i64 c82.window), (.int .i64 c82.step)]), .obj b91 .defd, .obj b98 (.row 73 .whole [(.int .i64 c98.Time), (.int .i64 c98.Loud), (.int .i64 c98.Template)]), .obj b105 (.row 73 .whole [(.int .i64 c105.Time), (.int .i64 c105.Loud), (.int .i64 c105.Template)])])
      obtain ⟨l138, hl138, h⟩ := bnd_some h
      refine Run.opX wantS_none rfl (ExG.append rfl rfl hH135 (i := 15) rfl enc44_len rfl enc44_ones appt36_36 rfl (len_slc (hH135.slc (i := 0) rfl enc44_len)) (first_slc (hH135.slc (i := 0) rfl enc44_len) (rdLe_rdRow _) enc44_len) hl138) ?_
      rintro s138 M140 (hH140 : Has Fr M140 [.vec 44 5 ([(S_api_Candidate.mk (S_api_Pair.mk v5 v7 (w64 (c98.Loud + c105.Loud))) r117)] : List S_api_Candidate).length s134 (([(S_api_Candidate.mk (S_api_Pair.mk v5 v7 (w64 (c98.Loud + c105.Loud))) r117)] : List S_api_Candidate).flatMap enc44), .obj b129 (.row 44 .whole [(.int .i64 v5), (.int .i64 v7), (.int .i64 (w64 (c98.Loud + c105.Loud))), (.int .i64 r117.N), (.int .i64 r117.Of)]), .obj b125 (.row 44 .whole [(.int .i64 v5), (.int .i64 v7), (.int .i64 (w64 (c98.Loud + c105.Loud))), (.int .i64 r117.N), (.int .i64 r117.Of)]), .obj b120 (.row 44 .whole [(.int .i64 v5), (.int .i64 v7), (.int .i64 (w64 (c98.Loud + c105.Loud))), (.int .i64 r117.N), (.int .i64 r117.Of)]), .obj b113 (.row 40 .whole [(.int .i64 v5), (.int .i64 v7), (.int .i64 (w64 (c98.Loud + c105.Loud)))]), .obj b90 (.loop ⟨.busy, none, 73, 21, treeOf [(4, (.ptr b59 0)), (5, (.ptr b79 0)), (10, (.fn (.func 84) [] [(.ptr b85 0), (.ptr b88 0), (.ptr b82 0)]))], [11], (atC Try.prog 73 [1, 1, 0, 0]), (atC Try.prog 73 [1, 1, 0, 1]), b91⟩), .obj b59 (.row 22 .whole [s56]), .vec 3 1 l56.length s56 (l56.flatMap enc3), .obj b79 (.row 83 .whole [(.yield b76)]), .obj b76 (.loop ⟨.busy, none, 72, 16, treeOf [(2, (.ptr b66 0)), (3, (.ptr b74 0)), (5, (.fn (.func 73) [] [(.ptr b45 0), (.ptr b48 0), (.ptr b51 0), (.ptr b59 0)]))], [6], (atC Try.prog 72 [1, 1, 0, 0]), (atC Try.prog 72 [1, 1, 0, 1]), b77⟩), .obj b66 (.row 83 .whole [(.fn (.func 40) [] [(.ptr b22 0)])]), .obj b22 (.row 3 .whole [(.int .i64 c22_0)]), .obj b74 (.row 83 .whole [(.yield b71)]), .obj b71 (.loop ⟨.busy, none, 71, 13, treeOf [(2, (.ptr b69 0)), (4, .nils), (6, (.fn (.func 72) [] [(.ptr b63 0), (.ptr b66 0)]))], [7], (atC Try.prog 71 [1, 0, 1, 0, 0]), (atC Try.prog 71 [1, 0, 1, 0, 1]), b72⟩), .obj b69 (.row 36 .whole [s92]), .vec 44 5 l138.length s138 (l138.flatMap enc44), .obj b63 (.row 86 .whole [(.fn (.func 73) [] [(.ptr b45 0), (.ptr b48 0), (.ptr b51 0), (.ptr b59 0)])]), .obj b45 (.row 80 .whole [(.int .i64 c45.live), (.int .i64 c45.window), (.int .i64 c45.step)]), .obj b48 (.row 33 .whole [sc48_0]), .obj b51 (.row 33 .whole [sc51_0]), .obj b72 .defd, .obj b77 .defd, .obj b85 (.row 33 .whole [sc85_0]), .obj b88 (.row 33 .whole [sc88_0]), .obj b82 (.row 80 .whole [(.int .i64 c82.live), (.int .i64 c82.window), (.int .i64 c82.step)]), .obj b91 .defd, .obj b98 (.row 73 .whole [(.int .i64 c98.Time), (.int .i64 c98.Loud), (.int .i64 c98.Template)]), .obj b105 (.row 73 .whole [(.int .i64 c105.Time), (.int .i64 c105.Loud), (.int .i64 c105.Template)])])
      refine Run.opX wantS_none rfl (ExG.storeC (c' := [s138]) rfl rfl (cells_one (vec_one hH140 (i := 15) rfl)) hH140 (i := 14) rfl sz36 rfl rfl rfl (ones_cons (vec_one hH140 (i := 15) rfl) ones_nil) rfl) ?_
      rintro _ M141 ⟨rfl, (hH141 : Has Fr M141 [.vec 44 5 ([(S_api_Candidate.mk (S_api_Pair.mk v5 v7 (w64 (c98.Loud + c105.Loud))) r117)] : List S_api_Candidate).length s134 (([(S_api_Candidate.mk (S_api_Pair.mk v5 v7 (w64 (c98.Loud + c105.Loud))) r117)] : List S_api_Candidate).flatMap enc44), .obj b129 (.row 44 .whole [(.int .i64 v5), (.int .i64 v7), (.int .i64 (w64 (c98.Loud + c105.Loud))), (.int .i64 r117.N), (.int .i64 r117.Of)]), .obj b125 (.row 44 .whole [(.int .i64 v5), (.int .i64 v7), (.int .i64 (w64 (c98.Loud + c105.Loud))), (.int .i64 r117.N), (.int .i64 r117.Of)]), .obj b120 (.row 44 .whole [(.int .i64 v5), (.int .i64 v7), (.int .i64 (w64 (c98.Loud + c105.Loud))), (.int .i64 r117.N), (.int .i64 r117.Of)]), .obj b113 (.row 40 .whole [(.int .i64 v5), (.int .i64 v7), (.int .i64 (w64 (c98.Loud + c105.Loud)))]), .obj b90 (.loop ⟨.busy, none, 73, 21, treeOf [(4, (.ptr b59 0)), (5, (.ptr b79 0)), (10, (.fn (.func 84) [] [(.ptr b85 0), (.ptr b88 0), (.ptr b82 0)]))], [11], (atC Try.prog 73 [1, 1, 0, 0]), (atC Try.prog 73 [1, 1, 0, 1]), b91⟩), .obj b59 (.row 22 .whole [s56]), .vec 3 1 l56.length s56 (l56.flatMap enc3), .obj b79 (.row 83 .whole [(.yield b76)]), .obj b76 (.loop ⟨.busy, none, 72, 16, treeOf [(2, (.ptr b66 0)), (3, (.ptr b74 0)), (5, (.fn (.func 73) [] [(.ptr b45 0), (.ptr b48 0), (.ptr b51 0), (.ptr b59 0)]))], [6], (atC Try.prog 72 [1, 1, 0, 0]), (atC Try.prog 72 [1, 1, 0, 1]), b77⟩), .obj b66 (.row 83 .whole [(.fn (.func 40) [] [(.ptr b22 0)])]), .obj b22 (.row 3 .whole [(.int .i64 c22_0)]), .obj b74 (.row 83 .whole [(.yield b71)]), .obj b71 (.loop ⟨.busy, none, 71, 13, treeOf [(2, (.ptr b69 0)), (4, .nils), (6, (.fn (.func 72) [] [(.ptr b63 0), (.ptr b66 0)]))], [7], (atC Try.prog 71 [1, 0, 1, 0, 0]), (atC Try.prog 71 [1, 0, 1, 0, 1]), b72⟩), .obj b69 (.row 36 .whole [s138]), .vec 44 5 l138.length s138 (l138.flatMap enc44), .obj b63 (.row 86 .whole [(.fn (.func 73) [] [(.ptr b45 0), (.ptr b48 0), (.ptr b51 0), (.ptr b59 0)])]), .obj b45 (.row 80 .whole [(.int .i64 c45.live), (.int .i64 c45.window), (.int .i64 c45.step)]), .obj b48 (.row 33 .whole [sc48_0]), .obj b51 (.row 33 .whole [sc51_0]), .obj b72 .defd, .obj b77 .defd, .obj b85 (.row 33 .whole [sc85_0]), .obj b88 (.row 33 .whole [sc88_0]), .obj b82 (.row 80 .whole [(.int .i64 c82.live), (.int .i64 c82.window), (.int .i64 c82.step)]), .obj b91 .defd, .obj b98 (.row 73 .whole [(.int .i64 c98.Time), (.int .i64 c98.Loud), (.int .i64 c98.Template)]), .obj b105 (.row 73 .whole [(.int .i64 c105.Time), (.int .i64 c105.Loud), (.int .i64 c105.Template)])])⟩
      refine Run.opsEnd (Run.inBlock ?_)
      refine Run.roundEndX hH141 (i := 13) rfl rfl ?_
      intro M142 (hH142 : Has Fr M142 [.vec 44 5 ([(S_api_Candidate.mk (S_api_Pair.mk v5 v7 (w64 (c98.Loud + c105.Loud))) r117)] : List S_api_Candidate).length s134 (([(S_api_Candidate.mk (S_api_Pair.mk v5 v7 (w64 (c98.Loud + c105.Loud))) r117)] : List S_api_Candidate).flatMap enc44), .obj b129 (.row 44 .whole [(.int .i64 v5), (.int .i64 v7), (.int .i64 (w64 (c98.Loud + c105.Loud))), (.int .i64 r117.N), (.int .i64 r117.Of)]), .obj b125 (.row 44 .whole [(.int .i64 v5), (.int .i64 v7), (.int .i64 (w64 (c98.Loud + c105.Loud))), (.int .i64 r117.N), (.int .i64 r117.Of)]), .obj b120 (.row 44 .whole [(.int .i64 v5), (.int .i64 v7), (.int .i64 (w64 (c98.Loud + c105.Loud))), (.int .i64 r117.N), (.int .i64 r117.Of)]), .obj b113 (.row 40 .whole [(.int .i64 v5), (.int .i64 v7), (.int .i64 (w64 (c98.Loud + c105.Loud)))]), .obj b90 (.loop ⟨.busy, none, 73, 21, treeOf [(4, (.ptr b59 0)), (5, (.ptr b79 0)), (10, (.fn (.func 84) [] [(.ptr b85 0), (.ptr b88 0), (.ptr b82 0)]))], [11], (atC Try.prog 73 [1, 1, 0, 0]), (atC Try.prog 73 [1, 1, 0, 1]), b91⟩), .obj b59 (.row 22 .whole [s56]), .vec 3 1 l56.length s56 (l56.flatMap enc3), .obj b79 (.row 83 .whole [(.yield b76)]), .obj b76 (.loop ⟨.busy, none, 72, 16, treeOf [(2, (.ptr b66 0)), (3, (.ptr b74 0)), (5, (.fn (.func 73) [] [(.ptr b45 0), (.ptr b48 0), (.ptr b51 0), (.ptr b59 0)]))], [6], (atC Try.prog 72 [1, 1, 0, 0]), (atC Try.prog 72 [1, 1, 0, 1]), b77⟩), .obj b66 (.row 83 .whole [(.fn (.func 40) [] [(.ptr b22 0)])]), .obj b22 (.row 3 .whole [(.int .i64 c22_0)]), .obj b74 (.row 83 .whole [(.yield b71)]), .obj b71 (.loop ⟨.ready, none, 71, 13, treeOf [(2, (.ptr b69 0)), (4, .nils), (6, (.fn (.func 72) [] [(.ptr b63 0), (.ptr b66 0)]))], [7], (atC Try.prog 71 [1, 0, 1, 0, 0]), (atC Try.prog 71 [1, 0, 1, 0, 1]), b72⟩), .obj b69 (.row 36 .whole [s138]), .vec 44 5 l138.length s138 (l138.flatMap enc44), .obj b63 (.row 86 .whole [(.fn (.func 73) [] [(.ptr b45 0), (.ptr b48 0), (.ptr b51 0), (.ptr b59 0)])]), .obj b45 (.row 80 .whole [(.int .i64 c45.live), (.int .i64 c45.window), (.int .i64 c45.step)]), .obj b48 (.row 33 .whole [sc48_0]), .obj b51 (.row 33 .whole [sc51_0]), .obj b72 .defd, .obj b77 .defd, .obj b85 (.row 33 .whole [sc85_0]), .obj b88 (.row 33 .whole [sc88_0]), .obj b82 (.row 80 .whole [(.int .i64 c82.live), (.int .i64 c82.window), (.int .i64 c82.step)]), .obj b91 .defd, .obj b98 (.row 73 .whole [(.int .i64 c98.Time), (.int .i64 c98.Loud), (.int .i64 c98.Template)]), .obj b105 (.row 73 .whole [(.int .i64 c105.Time), (.int .i64 c105.Loud), (.int .i64 c105.Template)])])
      refine Run.opG (wantS_yes' rfl rfl hc127) (ex_not rfl) rfl ?_
      refine Run.opG wantS_none (ex_pickT' rfl hc127 rfl rfl) rfl ?_
      refine Run.opsEnd ?_
      exact Run.low (.cons (fle_pick [] rfl) (.cons (fle_pick [0, 2, 3, 5, 6, 10, 11, 12, 17, 18, 19, 41] rfl) (.cons (fle_pick [] rfl) (.cons (fle_pick [] rfl) (.cons (fle_pick [2] rfl) (.cons (fle_pick [] rfl) (.cons (fle_pick [] rfl) .nil))))))) (Run.pick [15] (search_Candidates_4_ok F hd2 hhd2 v5 v10 v11 v12 v17 v18 v19 v9 c22_0 c45 c48_0 c51_0 c85_0 c88_0 c82 c98 l138 l56 sv10 sv17 sc48_0 sc51_0 sc85_0 sc88_0 b76 b66 b22 b74 b71 b69 s138 b63 b45 b48 b51 b59 s56 b72 b77 b90 b79 b85 b88 b82 b91 b98 _ _ _ hv10 hv17 hc48_0 hc51_0 hc85_0 hc88_0 (hH142.pick [9, 10, 11, 12, 13, 14, 15, 16, 17, 18, 19, 6, 7, 20, 21, 5, 8, 22, 23, 24, 25, 26] rfl rfl) h))
    · have h := bif_f hc127 h
      refine Run.no (wantS_not' rfl rfl hc127) rfl ?_
      refine Run.no (wantS_not' rfl rfl hc127) rfl ?_
      refine Run.no (wantS_not' rfl rfl hc127) rfl ?_
      refine Run.no (wantS_not' rfl rfl hc127) rfl ?_
      refine Run.opG wantS_none (ex_pickF' rfl hc127 rfl rfl) rfl ?_
      refine Run.opsEnd ?_
      exact Run.low (.cons (fle_pick [] rfl) (.cons (fle_pick [0, 2, 3, 5, 6, 10, 11, 12, 17, 18, 19, 41] rfl) (.cons (fle_pick [] rfl) (.cons (fle_pick [] rfl) (.cons (fle_pick [2] rfl) (.cons (fle_pick [] rfl) (.cons (fle_pick [] rfl) .nil))))))) (Run.pick [15] (search_Candidates_4_ok F hd2 hhd2 v5 v10 v11 v12 v17 v18 v19 v9 c22_0 c45 c48_0 c51_0 c85_0 c88_0 c82 c98 l92 l56 sv10 sv17 sc48_0 sc51_0 sc85_0 sc88_0 b76 b66 b22 b74 b71 b69 s92 b63 b45 b48 b51 b59 s56 b72 b77 b90 b79 b85 b88 b82 b91 b98 _ _ _ hv10 hv17 hc48_0 hc51_0 hc85_0 hc88_0 (hH126.pick [7, 8, 9, 10, 11, 12, 13, 14, 15, 16, 17, 4, 5, 18, 19, 3, 6, 20, 21, 22, 23, 24] rfl rfl) h))
  · have h := bif_f hc111 h
    refine Run.no (wantS_not' rfl rfl hc111) rfl ?_
    refine Run.no (wantS_not' rfl rfl hc111) rfl ?_
    refine Run.no (wantS_not' rfl rfl hc111) rfl ?_
    refine Run.no (wantS_not' rfl rfl hc111) rfl ?_
    refine Run.no (wantS_not' rfl rfl hc111) rfl ?_
    refine Run.no (wantS_not' rfl rfl hc111) rfl ?_
    refine Run.no (wantS_not' rfl rfl hc111) rfl ?_
    refine Run.no (wantS_not' rfl rfl hc111) rfl ?_
    refine Run.no (wantS_not' rfl rfl hc111) rfl ?_
    refine Run.no (wantS_not' rfl rfl hc111) rfl ?_
    refine Run.no (wantS_not' rfl rfl hc111) rfl ?_
    refine Run.opG wantS_none (ex_pickF' rfl hc111 rfl rfl) rfl ?_
    refine Run.opsEnd ?_
    exact Run.low (.cons (fle_pick [] rfl) (.cons (fle_pick [] rfl) (.cons (fle_pick [2] rfl) (.cons (fle_pick [] rfl) (.cons (fle_pick [] rfl) .nil))))) (Run.pick [0, 2, 3, 5, 6, 10, 11, 12, 17, 18, 19, 53] (search_Candidates_5_ok F hd2 hhd2 v5 v10 v11 v12 v17 v18 v19 c22_0 c45 c48_0 c51_0 c85_0 c88_0 c82 c98 l56 l92 sv10 sv17 sc48_0 sc51_0 sc85_0 sc88_0 b90 b59 s56 b79 b76 b66 b22 b74 b71 b69 s92 b63 b45 b48 b51 b72 b77 b85 b88 b82 b91 b98 _ _ _ hv10 hv17 hc48_0 hc51_0 hc85_0 hc88_0 (hH.pick [0, 1, 2, 3, 4, 5, 6, 7, 8, 9, 10, 11, 12, 13, 14, 15, 16, 17, 18, 19, 20, 21] rfl rfl) h))

def search_Candidates_2 (F : Nat) (hd1 : (List S_api_Trigger) → Int → Int → Int → S_search_clock → (List S_api_Trigger) → (List S_api_Trigger) → (List S_api_Trigger) → (List S_api_Trigger) → S_search_clock → (List Int) → (List S_api_Candidate) → Option ((List S_api_Candidate) × Int)) : Nat → Int → (List S_api_Trigger) → Int → Int → (List S_api_Trigger) → Int → Int → Int → S_search_clock → (List S_api_Trigger) → (List S_api_Trigger) → (List S_api_Trigger) → (List S_api_Trigger) → S_search_clock → S_api_Trigger → (List Int) → (List S_api_Candidate) → Option ((List S_api_Candidate) × Int)
  | 0, _, _, _, _, _, _, _, _, _, _, _, _, _, _, _, _, _ => none
  | N + 1, v5, v10, v11, v12, v17, v18, v19, c22_0, c45, c48_0, c51_0, c85_0, c88_0, c82, c98, l56, l92 =>
    bif (decide (v19 < v18)) then
      bnd (idx v17 v19) fun x103 =>
      bif (c98.Template == x103.Template) then
        bnd (search_clock_distance F c82 c98.Time x103.Time) fun r109 =>
        search_Candidates_3 F (search_Candidates_2 F hd1 N) v5 v19 (decide (r109 ≤ c82.window)) v10 v11 v12 v17 v18 v19 c22_0 c45 c48_0 c51_0 c85_0 c88_0 c82 c98 x103 l56 l92
      else
        search_Candidates_3 F (search_Candidates_2 F hd1 N) v5 v19 false v10 v11 v12 v17 v18 v19 c22_0 c45 c48_0 c51_0 c85_0 c88_0 c82 c98 x103 l56 l92
    else
      hd1 v10 v11 (w64 (v12 + (1 : Int))) c22_0 c45 c48_0 c51_0 c85_0 c88_0 c82 l56 l92

theorem search_Candidates_2_ok (F : Nat) (hd1 : (List S_api_Trigger) → Int → Int → Int → S_search_clock → (List S_api_Trigger) → (List S_api_Trigger) → (List S_api_Trigger) → (List S_api_Trigger) → S_search_clock → (List Int) → (List S_api_Candidate) → Option ((List S_api_Candidate) × Int)) (hhd1 : ∀ (v10 : (List S_api_Trigger)) (v11 v12 c22_0 : Int) (c45 : S_search_clock) (c48_0 c51_0 c85_0 c88_0 : (List S_api_Trigger)) (c82 : S_search_clock) (l56 : (List Int)) (l92 : (List S_api_Candidate)) (sv10 sc48_0 sc51_0 sc85_0 sc88_0 : SV) (b90 b59 : Pos) (s56 : SV) (b79 b76 b66 b22 b74 b71 b69 : Pos) (s92 : SV) (b63 b45 b48 b51 b72 b77 b85 b88 b82 b91 : Pos) (Fr : Rd) (M : Mem) (r : (List S_api_Candidate) × Int) (hv10 : Slc Fr 3 (FlatR enc73) sv10 v10) (hc48_0 : Slc Fr 3 (FlatR enc73) sc48_0 c48_0) (hc51_0 : Slc Fr 3 (FlatR enc73) sc51_0 c51_0) (hc85_0 : Slc Fr 3 (FlatR enc73) sc85_0 c85_0) (hc88_0 : Slc Fr 3 (FlatR enc73) sc88_0 c88_0) (hH : Has Fr M [.obj b90 (.loop ⟨.ready, none, 73, 21, treeOf [(4, (.ptr b59 0)), (5, (.ptr b79 0)), (10, (.fn (.func 84) [] [(.ptr b85 0), (.ptr b88 0), (.ptr b82 0)]))], [11], (atC Try.prog 73 [1, 1, 0, 0]), (atC Try.prog 73 [1, 1, 0, 1]), b91⟩), .obj b59 (.row 22 .whole [s56]), .vec 3 1 l56.length s56 (l56.flatMap enc3), .obj b79 (.row 83 .whole [(.yield b76)]), .obj b76 (.loop ⟨.ready, none, 72, 16, treeOf [(2, (.ptr b66 0)), (3, (.ptr b74 0)), (5, (.fn (.func 73) [] [(.ptr b45 0), (.ptr b48 0), (.ptr b51 0), (.ptr b59 0)]))], [6], (atC Try.prog 72 [1, 1, 0, 0]), (atC Try.prog 72 [1, 1, 0, 1]), b77⟩), .obj b66 (.row 83 .whole [(.fn (.func 40) [] [(.ptr b22 0)])]), .obj b22 (.row 3 .whole [(.int .i64 c22_0)]), .obj b74 (.row 83 .whole [(.yield b71)]), .obj b71 (.loop ⟨.ready, none, 71, 13, treeOf [(2, (.ptr b69 0)), (4, .nils), (6, (.fn (.func 72) [] [(.ptr b63 0), (.ptr b66 0)]))], [7], (atC Try.prog 71 [1, 0, 1, 0, 0]), (atC Try.prog 71 [1, 0, 1, 0, 1]), b72⟩), .obj b69 (.row 36 .whole [s92]), .vec 44 5 l92.length s92 (l92.flatMap enc44), .obj b63 (.row 86 .whole [(.fn (.func 73) [] [(.ptr b45 0), (.ptr b48 0), (.ptr b51 0), (.ptr b59 0)])]), .obj b45 (.row 80 .whole [(.int .i64 c45.live), (.int .i64 c45.window), (.int .i64 c45.step)]), .obj b48 (.row 33 .whole [sc48_0]), .obj b51 (.row 33 .whole [sc51_0]), .obj b72 .defd, .obj b77 .defd, .obj b85 (.row 33 .whole [sc85_0]), .obj b88 (.row 33 .whole [sc88_0]), .obj b82 (.row 80 .whole [(.int .i64 c82.live), (.int .i64 c82.window), (.int .i64 c82.step)]), .obj b91 .defd]), hd1 v10 v11 v12 c22_0 c45 c48_0 c51_0 c85_0 c88_0 c82 l56 l92 = some r → Run Try.prog ⟨⟨84, [], none⟩, [.mk ⟨73, [b91], none⟩ 21 (treeOf []) [.inRange b90, .inBlock 0], .mk ⟨72, [b77], none⟩ 16 (treeOf []) [.inRange b76, .inBlock 0], .mk ⟨71, [b72], none⟩ 13 (treeOf [(2, (.ptr b69 0))]) [.inRange b71, .inBlock 0, codeC Try.prog 71 [1, 1]], .mk ⟨41, [], none⟩ 5 (treeOf []) [itemC Try.prog 41 [1, 0] 1, codeC Try.prog 41 [1, 1]], .mk ⟨14, [], none⟩ 44 (treeOf []) [itemC Try.prog 14 [1, 1, 1, 1, 0] 6, codeC Try.prog 14 [1, 1, 1, 1, 1]]]⟩ 56 (search_Candidates_post r) [(0, (.yield b90)), (2, (.ptr b88 0)), (3, (.ptr b82 0)), (10, sv10), (11, (.int .i64 v11)), (12, (.int .i64 v12))] [codeC Try.prog 84 [1, 0, 0], loopC Try.prog 84 [1, 0, 0], .inBlock 0] M) : ∀ (N : Nat), ∀ (v5 : Int) (v10 : (List S_api_Trigger)) (v11 v12 : Int) (v17 : (List S_api_Trigger)) (v18 v19 c22_0 : Int) (c45 : S_search_clock) (c48_0 c51_0 c85_0 c88_0 : (List S_api_Trigger)) (c82 : S_search_clock) (c98 : S_api_Trigger) (l56 : (List Int)) (l92 : (List S_api_Candidate)) (sv10 sv17 sc48_0 sc51_0 sc85_0 sc88_0 : SV) (b90 b59 : Pos) (s56 : SV) (b79 b76 b66 b22 b74 b71 b69 : Pos) (s92 : SV) (b63 b45 b48 b51 b72 b77 b85 b88 b82 b91 b98 : Pos) (Fr : Rd) (M : Mem) (r : (List S_api_Candidate) × Int) (hv10 : Slc Fr 3 (FlatR enc73) sv10 v10) (hv17 : Slc Fr 3 (FlatR enc73) sv17 v17) (hc48_0 : Slc Fr 3 (FlatR enc73) sc48_0 c48_0) (hc51_0 : Slc Fr 3 (FlatR enc73) sc51_0 c51_0) (hc85_0 : Slc Fr 3 (FlatR enc73) sc85_0 c85_0) (hc88_0 : Slc Fr 3 (FlatR enc73) sc88_0 c88_0) (hH : Has Fr M [.obj b90 (.loop ⟨.ready, none, 73, 21, treeOf [(4, (.ptr b59 0)), (5, (.ptr b79 0)), (10, (.fn (.func 84) [] [(.ptr b85 0), (.ptr b88 0), (.ptr b82 0)]))], [11], (atC Try.prog 73 [1, 1, 0, 0]), (atC Try.prog 73 [1, 1, 0, 1]), b91⟩), .obj b59 (.row 22 .whole [s56]), .vec 3 1 l56.length s56 (l56.flatMap enc3), .obj b79 (.row 83 .whole [(.yield b76)]), .obj b76 (.loop ⟨.ready, none, 72, 16, treeOf [(2, (.ptr b66 0)), (3, (.ptr b74 0)), (5, (.fn (.func 73) [] [(.ptr b45 0), (.ptr b48 0), (.ptr b51 0), (.ptr b59 0)]))], [6], (atC Try.prog 72 [1, 1, 0, 0]), (atC Try.prog 72 [1, 1, 0, 1]), b77⟩), .obj b66 (.row 83 .whole [(.fn (.func 40) [] [(.ptr b22 0)])]), .obj b22 (.row 3 .whole [(.int .i64 c22_0)]), .obj b74 (.row 83 .whole [(.yield b71)]), .obj b71 (.loop ⟨.ready, none, 71, 13, treeOf [(2, (.ptr b69 0)), (4, .nils), (6, (.fn (.func 72) [] [(.ptr b63 0), (.ptr b66 0)]))], [7], (atC Try.prog 71 [1, 0, 1, 0, 0]), (atC Try.prog 71 [1, 0, 1, 0, 1]), b72⟩), .obj b69 (.row 36 .whole [s92]), .vec 44 5 l92.length s92 (l92.flatMap enc44), .obj b63 (.row 86 .whole [(.fn (.func 73) [] [(.ptr b45 0), (.ptr b48 0), (.ptr b51 0), (.ptr b59 0)])]), .obj b45 (.row 80 .whole [(.int .i64 c45.live), (.int .i64 c45.window), (.int .i64 c45.step)]), .obj b48 (.row 33 .whole [sc48_0]), .obj b51 (.row 33 .whole [sc51_0]), .obj b72 .defd, .obj b77 .defd, .obj b85 (.row 33 .whole [sc85_0]), .obj b88 (.row 33 .whole [sc88_0]), .obj b82 (.row 80 .whole [(.int .i64 c82.live), (.int .i64 c82.window), (.int .i64 c82.step)]), .obj b91 .defd, .obj b98 (.row 73 .whole [(.int .i64 c98.Time), (.int .i64 c98.Loud), (.int .i64 c98.Template)])]), search_Candidates_2 F hd1 N v5 v10 v11 v12 v17 v18 v19 c22_0 c45 c48_0 c51_0 c85_0 c88_0 c82 c98 l56 l92 = some r → Run Try.prog ⟨⟨84, [], none⟩, [.mk ⟨73, [b91], none⟩ 21 (treeOf []) [.inRange b90, .inBlock 0], .mk ⟨72, [b77], none⟩ 16 (treeOf []) [.inRange b76, .inBlock 0], .mk ⟨71, [b72], none⟩ 13 (treeOf [(2, (.ptr b69 0))]) [.inRange b71, .inBlock 0, codeC Try.prog 71 [1, 1]], .mk ⟨41, [], none⟩ 5 (treeOf []) [itemC Try.prog 41 [1, 0] 1, codeC Try.prog 41 [1, 1]], .mk ⟨14, [], none⟩ 44 (treeOf []) [itemC Try.prog 14 [1, 1, 1, 1, 0] 6, codeC Try.prog 14 [1, 1, 1, 1, 1]]]⟩ 56 (search_Candidates_post r) [(0, (.yield b90)), (2, (.ptr b88 0)), (3, (.ptr b82 0)), (5, (.int .i64 v5)), (6, (.ptr b98 0)), (10, sv10), (11, (.int .i64 v11)), (12, (.int .i64 v12)), (17, sv17), (18, (.int .i64 v18)), (19, (.int .i64 v19))] [codeC Try.prog 84 [1, 0, 0, 1, 1, 0, 0, 1, 1, 0, 0], loopC Try.prog 84 [1, 0, 0, 1, 1, 0, 0, 1, 1, 0, 0], .inBlock 2, .inBlock 1, codeC Try.prog 84 [1, 0, 0, 1, 1, 1], loopC Try.prog 84 [1, 0, 0], .inBlock 0] M := by
  intro N
  induction N with
  | zero =>
    intro v5 v10 v11 v12 v17 v18 v19 c22_0 c45 c48_0 c51_0 c85_0 c88_0 c82 c98 l56 l92 sv10 sv17 sc48_0 sc51_0 sc85_0 sc88_0 b90 b59 s56 b79 b76 b66 b22 b74 b71 b69 s92 b63 b45 b48 b51 b72 b77 b85 b88 b82 b91 b98 Fr M r hv10 hv17 hc48_0 hc51_0 hc85_0 hc88_0 hH h
    simp [search_Candidates_2] at h
  | succ N ih =>
    intro v5 v10 v11 v12 v17 v18 v19 c22_0 c45 c48_0 c51_0 c85_0 c88_0 c82 c98 l56 l92 sv10 sv17 sc48_0 sc51_0 sc85_0 sc88_0 b90 b59 s56 b79 b76 b66 b22 b74 b71 b69 s92 b63 b45 b48 b51 b72 b77 b85 b88 b82 b91 b98 Fr M r hv10 hv17 hc48_0 hc51_0 hc85_0 hc88_0 hH h
    rw [search_Candidates_2] at h
    refine Run.seq (Run.region ?_)
    refine Run.opG wantS_none (ex_lss rfl rfl) rfl ?_
    refine Run.opsEnd (Run.seq ?_)
    rcases btf ((decide (v19 < v18))) with hc101 | hc101
    · have h := bif_t hc101 h
      refine Run.condT' rfl hc101 ?_
      refine Run.skip (Run.seq (Run.block (Run.seq (Run.region ?_))))
      refine Run.opG wantS_none (ex_move rfl) rfl ?_
      obtain ⟨x103, hx103, h⟩ := bnd_some h
      obtain ⟨p103, o103, _, hx103, hp103, rfl⟩ := sl_elem (P := Try.prog) (t := 33) (kk := .i64) hv17 hx103 els33
      refine Run.opG wantS_none (ex_elX rfl rfl hx103) rfl ?_
      refine Run.opG wantS_none (ex_loadA rfl (hH.ptrF hp103) rdLe_rfl agg73 rfl rfl rfl) rfl ?_
      refine Run.opX wantS_none rfl (ExG.new (v := fun b => .ptr b 0) (ex_alloc zer73) hH) ?_
      rintro _ M106 ⟨b105, rfl, hH106⟩
      refine Run.opG wantS_none (ex_assign rfl) rfl ?_
      refine Run.opX wantS_none rfl (ExG.storeC (c' := [(.int .i64 x103.Time), (.int .i64 x103.Loud), (.int .i64 x103.Template)]) rfl rfl rfl hH106 (i := 0) rfl sz73 rfl rfl rfl rfl rfl) ?_
      rintro _ M107 ⟨rfl, (hH107 : Has Fr M107 [.obj b105 (.row 73 .whole [(.int .i64 x103.Time), (.int .i64 x103.Loud), (.int .i64 x103.Template)]), .obj b90 (.loop ⟨.ready, none, 73, 21, treeOf [(4, (.ptr b59 0)), (5, (.ptr b79 0)), (10, (.fn (.func 84) [] [(.ptr b85 0), (.ptr b88 0), (.ptr b82 0)]))], [11], (atC Try.prog 73 [1, 1, 0, 0]), (atC Try.prog 73 [1, 1, 0, 1]), b91⟩), .obj b59 (.row 22 .whole [s56]), .vec 3 1 l56.length s56 (l56.flatMap enc3), .obj b79 (.row 83 .whole [(.yield b76)]), .obj b76 (.loop ⟨.ready, none, 72, 16, treeOf [(2, (.ptr b66 0)), (3, (.ptr b74 0)), (5, (.fn (.func 73) [] [(.ptr b45 0), (.ptr b48 0), (.ptr b51 0), (.ptr b59 0)]))], [6], (atC Try.prog 72 [1, 1, 0, 0]), (atC Try.prog 72 [1, 1, 0, 1]), b77⟩), .obj b66 (.row 83 .whole [(.fn (.func 40) [] [(.ptr b22 0)])]), .obj b22 (.row 3 .whole [(.int .i64 c22_0)]), .obj b74 (.row 83 .whole [(.yield b71)]), .obj b71 (.loop ⟨.ready, none, 71, 13, treeOf [(2, (.ptr b69 0)), (4, .nils), (6, (.fn (.func 72) [] [(.ptr b63 0), (.ptr b66 0)]))], [7], (atC Try.prog 71 [1, 0, 1, 0, 0]), (atC Try.prog 71 [1, 0, 1, 0, 1]), b72⟩), .obj b69 (.row 36 .whole [s92]), .vec 44 5 l92.length s92 (l92.flatMap enc44), .obj b63 (.row 86 .whole [(.fn (.func 73) [] [(.ptr b45 0), (.ptr b48 0), (.ptr b51 0), (.ptr b59 0)])]), .obj b45 (.row 80 .whole [(.int .i64 c45.live), (.int .i64 c45.window), (.int .i64 c45.step)]), .obj b48 (.row 33 .whole [sc48_0]), .obj b51 (.row 33 .whole [sc51_0]), .obj b72 .defd, .obj b77 .defd, .obj b85 (.row 33 .whole [sc85_0]), .obj b88 (.row 33 .whole [sc88_0]), .obj b82 (.row 80 .whole [(.int .i64 c82.live), (.int .i64 c82.window), (.int .i64 c82.step)]), .obj b91 .defd, .obj b98 (.row 73 .whole [(.int .i64 c98.Time), (.int .i64 c98.Loud), (.int .i64 c98.Template)])])⟩
      refine Run.opsEnd (Run.seq ?_)
      refine Run.drawG plan84_1_0_0_1_1_0_0_1_1_0_0_1_1_0_0_1_0 ?_
      refine DrawG.fl rfl (ev_ex wantS_none (ex_fieldAddr rfl off73_2)) rfl ?_
      refine DrawG.fl rfl (ev_ex wantS_none (ex_load1 rfl (hH107.cells (i := 22) rfl 2 rfl) rdLe_rfl agg3)) rfl ?_
      refine DrawG.fl rfl (ev_ex wantS_none (ex_fieldAddr rfl off73_2)) rfl ?_
      refine DrawG.fl rfl (ev_ex wantS_none (ex_load1 rfl (hH107.cells (i := 0) rfl 2 rfl) rdLe_rfl agg3)) rfl ?_
      refine DrawG.fl rfl (ev_ex wantS_none (ex_eql rfl rfl)) rfl ?_
      refine DrawG.fl rfl (ev_ex wantS_none (ex_move rfl)) rfl ?_
      rcases btf ((c98.Template == x103.Template)) with hc108 | hc108
      · have h := bif_t hc108 h
        refine DrawG.fl rfl (ev_ex (wantS_yes' rfl rfl hc108) (ex_loadA rfl (hH107.cells (i := 20) rfl 0 rfl) rdLe_rfl agg80 rfl rfl rfl)) rfl ?_
        refine DrawG.fl rfl (ev_ex (wantS_yes' rfl rfl hc108) (ex_fieldAddr rfl off73_0)) rfl ?_
        refine DrawG.fl rfl (ev_ex (wantS_yes' rfl rfl hc108) (ex_load1 rfl (hH107.cells (i := 22) rfl 0 rfl) rdLe_rfl agg3)) rfl ?_
        refine DrawG.fl rfl (ev_ex (wantS_yes' rfl rfl hc108) (ex_fieldAddr rfl off73_0)) rfl ?_
        refine DrawG.fl rfl (ev_ex (wantS_yes' rfl rfl hc108) (ex_load1 rfl (hH107.cells (i := 0) rfl 0 rfl) rdLe_rfl agg3)) rfl ?_
        refine DrawG.fl rfl (ev_ex (wantS_yes' rfl rfl hc108) (ex_fieldAddr rfl off80_1)) rfl ?_
        refine DrawG.fl rfl (ev_ex (wantS_yes' rfl rfl hc108) (ex_load1 rfl (hH107.cells (i := 20) rfl 1 rfl) rdLe_rfl agg3)) rfl ?_
        obtain ⟨r109, hr109, h⟩ := bnd_some h
        refine DrawG.callP rfl (wantS_yes' rfl rfl hc108) (ex_call rfl mkk85 cal85) rfl (search_clock_distance_ok F c82 c98.Time x103.Time _ _ hr109) (st_cons rfl (ev_ex (wantS_yes' rfl rfl hc108) (ex_load1 rfl (hH107.cells (i := 20) rfl 1 rfl) rdLe_rfl agg3)) rfl rfl rfl (st_cons rfl (ev_ex (wantS_yes' rfl rfl hc108) (ex_fieldAddr rfl off80_1)) rfl rfl rfl st_nil)) ?_
        refine DrawG.fl rfl (ev_ex (wantS_yes' rfl rfl hc108) (ex_leq rfl rfl)) rfl ?_
        refine DrawG.fl rfl (ev_ex wantS_none (ex_pickT' rfl hc108 rfl rfl)) rfl ?_
        refine DrawG.fl rfl (ev_ex wantS_none (ex_assign rfl)) rfl ?_
        refine DrawG.sync ?_
        refine DrawG.nil ?_
        refine Run.seq (Run.region ?_)
        exact Run.low (.cons (fle_pick [] rfl) (.cons (fle_pick [] rfl) (.cons (fle_pick [2] rfl) (.cons (fle_pick [] rfl) (.cons (fle_pick [] rfl) .nil))))) (Run.pick [0, 2, 3, 5, 6, 7, 8, 9, 10, 11, 12, 17, 18, 19] (search_Candidates_3_ok F (search_Candidates_2 F hd1 N) ih v5 v19 (decide (r109 ≤ c82.window)) v10 v11 v12 v17 v18 v19 c22_0 c45 c48_0 c51_0 c85_0 c88_0 c82 c98 x103 l56 l92 sv10 sv17 sc48_0 sc51_0 sc85_0 sc88_0 b90 b59 s56 b79 b76 b66 b22 b74 b71 b69 s92 b63 b45 b48 b51 b72 b77 b85 b88 b82 b91 b98 b105 _ _ _ hv10 hv17 hc48_0 hc51_0 hc85_0 hc88_0 (hH107.pick [1, 2, 3, 4, 5, 6, 7, 8, 9, 10, 11, 12, 13, 14, 15, 16, 17, 18, 19, 20, 21, 22, 0] rfl rfl) h))
      · have h := bif_f hc108 h
        refine DrawG.fl rfl (ev_no (wantS_not' rfl rfl hc108)) rfl ?_
        refine DrawG.fl rfl (ev_no (wantS_not' rfl rfl hc108)) rfl ?_
        refine DrawG.fl rfl (ev_no (wantS_not' rfl rfl hc108)) rfl ?_
        refine DrawG.fl rfl (ev_no (wantS_not' rfl rfl hc108)) rfl ?_
        refine DrawG.fl rfl (ev_no (wantS_not' rfl rfl hc108)) rfl ?_
        refine DrawG.fl rfl (ev_no (wantS_not' rfl rfl hc108)) rfl ?_
        refine DrawG.fl rfl (ev_no (wantS_not' rfl rfl hc108)) rfl ?_
        refine DrawG.no rfl (wantS_not' rfl rfl hc108) rfl (st_cons rfl (ev_no (wantS_not' rfl rfl hc108)) rfl rfl rfl (st_cons rfl (ev_no (wantS_not' rfl rfl hc108)) rfl rfl rfl st_nil)) ?_
        refine DrawG.fl rfl (ev_no (wantS_not' rfl rfl hc108)) rfl ?_
        refine DrawG.fl rfl (ev_ex wantS_none (ex_pickF' rfl hc108 rfl rfl)) rfl ?_
        refine DrawG.fl rfl (ev_ex wantS_none (ex_assign rfl)) rfl ?_
        refine DrawG.sync ?_
        refine DrawG.nil ?_
        refine Run.seq (Run.region ?_)
        exact Run.low (.cons (fle_pick [] rfl) (.cons (fle_pick [] rfl) (.cons (fle_pick [2] rfl) (.cons (fle_pick [] rfl) (.cons (fle_pick [] rfl) .nil))))) (Run.pick [0, 2, 3, 5, 6, 7, 8, 9, 10, 11, 12, 17, 18, 19] (search_Candidates_3_ok F (search_Candidates_2 F hd1 N) ih v5 v19 false v10 v11 v12 v17 v18 v19 c22_0 c45 c48_0 c51_0 c85_0 c88_0 c82 c98 x103 l56 l92 sv10 sv17 sc48_0 sc51_0 sc85_0 sc88_0 b90 b59 s56 b79 b76 b66 b22 b74 b71 b69 s92 b63 b45 b48 b51 b72 b77 b85 b88 b82 b91 b98 b105 _ _ _ hv10 hv17 hc48_0 hc51_0 hc85_0 hc88_0 (hH107.pick [1, 2, 3, 4, 5, 6, 7, 8, 9, 10, 11, 12, 13, 14, 15, 16, 17, 18, 19, 20, 21, 22, 0] rfl rfl) h))
    · have h := bif_f hc101 h
      refine Run.condF' rfl hc101 ?_
      refine Run.exit rfl (Run.inBlock (Run.region ?_))
      refine Run.opG wantS_none (ex_add rfl rfl) rfl ?_
      refine Run.opG wantS_none (ex_move rfl) rfl ?_
      refine Run.opsEnd (Run.inLoop ?_)
      exact Run.low (.cons (fle_pick [] rfl) (.cons (fle_pick [] rfl) (.cons (fle_pick [2] rfl) (.cons (fle_pick [] rfl) (.cons (fle_pick [] rfl) .nil))))) (Run.pick [0, 2, 3, 10, 11, 12] (hhd1 v10 v11 (w64 (v12 + (1 : Int))) c22_0 c45 c48_0 c51_0 c85_0 c88_0 c82 l56 l92 sv10 sc48_0 sc51_0 sc85_0 sc88_0 b90 b59 s56 b79 b76 b66 b22 b74 b71 b69 s92 b63 b45 b48 b51 b72 b77 b85 b88 b82 b91 _ _ _ hv10 hc48_0 hc51_0 hc85_0 hc88_0 (hH.pick [0, 1, 2, 3, 4, 5, 6, 7, 8, 9, 10, 11, 12, 13, 14, 15, 16, 17, 18, 19, 20] rfl rfl) h))

def search_Candidates_1 (F : Nat) : Nat → (List S_api_Trigger) → Int → Int → Int → S_search_clock → (List S_api_Trigger) → (List S_api_Trigger) → (List S_api_Trigger) → (List S_api_Trigger) → S_search_clock → (List Int) → (List S_api_Candidate) → Option ((List S_api_Candidate) × Int)
  | 0, _, _, _, _, _, _, _, _, _, _, _, _ => none
  | N + 1, v10, v11, v12, c22_0, c45, c48_0, c51_0, c85_0, c88_0, c82, l56, l92 =>
    bif (decide (v12 < v11)) then
      bnd (idx v10 v12) fun x96 =>
      search_Candidates_2 F (search_Candidates_1 F N) F v12 v10 v11 v12 c88_0 (c88_0.length : Int) (0 : Int) c22_0 c45 c48_0 c51_0 c85_0 c88_0 c82 x96 l56 l92
    else
      some (l92, (0 : Int))

theorem search_Candidates_1_ok (F : Nat) : ∀ (N : Nat), ∀ (v10 : (List S_api_Trigger)) (v11 v12 c22_0 : Int) (c45 : S_search_clock) (c48_0 c51_0 c85_0 c88_0 : (List S_api_Trigger)) (c82 : S_search_clock) (l56 : (List Int)) (l92 : (List S_api_Candidate)) (sv10 sc48_0 sc51_0 sc85_0 sc88_0 : SV) (b90 b59 : Pos) (s56 : SV) (b79 b76 b66 b22 b74 b71 b69 : Pos) (s92 : SV) (b63 b45 b48 b51 b72 b77 b85 b88 b82 b91 : Pos) (Fr : Rd) (M : Mem) (r : (List S_api_Candidate) × Int) (hv10 : Slc Fr 3 (FlatR enc73) sv10 v10) (hc48_0 : Slc Fr 3 (FlatR enc73) sc48_0 c48_0) (hc51_0 : Slc Fr 3 (FlatR enc73) sc51_0 c51_0) (hc85_0 : Slc Fr 3 (FlatR enc73) sc85_0 c85_0) (hc88_0 : Slc Fr 3 (FlatR enc73) sc88_0 c88_0) (hH : Has Fr M [.obj b90 (.loop ⟨.ready, none, 73, 21, treeOf [(4, (.ptr b59 0)), (5, (.ptr b79 0)), (10, (.fn (.func 84) [] [(.ptr b85 0), (.ptr b88 0), (.ptr b82 0)]))], [11], (atC Try.prog 73 [1, 1, 0, 0]), (atC Try.prog 73 [1, 1, 0, 1]), b91⟩), .obj b59 (.row 22 .whole [s56]), .vec 3 1 l56.length s56 (l56.flatMap enc3), .obj b79 (.row 83 .whole [(.yield b76)]), .obj b76 (.loop ⟨.ready, none, 72, 16, treeOf [(2, (.ptr b66 0)), (3, (.ptr b74 0)), (5, (.fn (.func 73) [] [(.ptr b45 0), (.ptr b48 0), (.ptr b51 0), (.ptr b59 0)]))], [6], (atC Try.prog 72 [1, 1, 0, 0]), (atC Try.prog 72 [1, 1, 0, 1]), b77⟩), .obj b66 (.row 83 .whole [(.fn (.func 40) [] [(.ptr b22 0)])]), .obj b22 (.row 3 .whole [(.int .i64 c22_0)]), .obj b74 (.row 83 .whole [(.yield b71)]), .obj b71 (.loop ⟨.ready, none, 71, 13, treeOf [(2, (.ptr b69 0)), (4, .nils), (6, (.fn (.func 72) [] [(.ptr b63 0), (.ptr b66 0)]))], [7], (atC Try.prog 71 [1, 0, 1, 0, 0]), (atC Try.prog 71 [1, 0, 1, 0, 1]), b72⟩), .obj b69 (.row 36 .whole [s92]), .vec 44 5 l92.length s92 (l92.flatMap enc44), .obj b63 (.row 86 .whole [(.fn (.func 73) [] [(.ptr b45 0), (.ptr b48 0), (.ptr b51 0), (.ptr b59 0)])]), .obj b45 (.row 80 .whole [(.int .i64 c45.live), (.int .i64 c45.window), (.int .i64 c45.step)]), .obj b48 (.row 33 .whole [sc48_0]), .obj b51 (.row 33 .whole [sc51_0]), .obj b72 .defd, .obj b77 .defd, .obj b85 (.row 33 .whole [sc85_0]), .obj b88 (.row 33 .whole [sc88_0]), .obj b82 (.row 80 .whole [(.int .i64 c82.live), (.int .i64 c82.window), (.int .i64 c82.step)]), .obj b91 .defd]), search_Candidates_1 F N v10 v11 v12 c22_0 c45 c48_0 c51_0 c85_0 c88_0 c82 l56 l92 = some r → Run Try.prog ⟨⟨84, [], none⟩, [.mk ⟨73, [b91], none⟩ 21 (treeOf []) [.inRange b90, .inBlock 0], .mk ⟨72, [b77], none⟩ 16 (treeOf []) [.inRange b76, .inBlock 0], .mk ⟨71, [b72], none⟩ 13 (treeOf [(2, (.ptr b69 0))]) [.inRange b71, .inBlock 0, codeC Try.prog 71 [1, 1]], .mk ⟨41, [], none⟩ 5 (treeOf []) [itemC Try.prog 41 [1, 0] 1, codeC Try.prog 41 [1, 1]], .mk ⟨14, [], none⟩ 44 (treeOf []) [itemC Try.prog 14 [1, 1, 1, 1, 0] 6, codeC Try.prog 14 [1, 1, 1, 1, 1]]]⟩ 56 (search_Candidates_post r) [(0, (.yield b90)), (2, (.ptr b88 0)), (3, (.ptr b82 0)), (10, sv10), (11, (.int .i64 v11)), (12, (.int .i64 v12))] [codeC Try.prog 84 [1, 0, 0], loopC Try.prog 84 [1, 0, 0], .inBlock 0] M := by
  intro N
  induction N with
  | zero =>
    intro v10 v11 v12 c22_0 c45 c48_0 c51_0 c85_0 c88_0 c82 l56 l92 sv10 sc48_0 sc51_0 sc85_0 sc88_0 b90 b59 s56 b79 b76 b66 b22 b74 b71 b69 s92 b63 b45 b48 b51 b72 b77 b85 b88 b82 b91 Fr M r hv10 hc48_0 hc51_0 hc85_0 hc88_0 hH h
    simp [search_Candidates_1] at h
  | succ N ih =>
    intro v10 v11 v12 c22_0 c45 c48_0 c51_0 c85_0 c88_0 c82 l56 l92 sv10 sc48_0 sc51_0 sc85_0 sc88_0 b90 b59 s56 b79 b76 b66 b22 b74 b71 b69 s92 b63 b45 b48 b51 b72 b77 b85 b88 b82 b91 Fr M r hv10 hc48_0 hc51_0 hc85_0 hc88_0 hH h
    rw [search_Candidates_1] at h
    refine Run.seq (Run.region ?_)
    refine Run.opG wantS_none (ex_lss rfl rfl) rfl ?_
    refine Run.opsEnd (Run.seq ?_)
    rcases btf ((decide (v12 < v11))) with hc94 | hc94
    · have h := bif_t hc94 h
      refine Run.condT' rfl hc94 ?_
      refine Run.skip (Run.seq (Run.block (Run.seq (Run.region ?_))))
      refine Run.opG wantS_none (ex_move rfl) rfl ?_
      obtain ⟨x96, hx96, h⟩ := bnd_some h
      obtain ⟨p96, o96, _, hx96, hp96, rfl⟩ := sl_elem (P := Try.prog) (t := 33) (kk := .i64) hv10 hx96 els33
      refine Run.opG wantS_none (ex_elX rfl rfl hx96) rfl ?_
      refine Run.opG wantS_none (ex_loadA rfl (hH.ptrF hp96) rdLe_rfl agg73 rfl rfl rfl) rfl ?_
      refine Run.opX wantS_none rfl (ExG.new (v := fun b => .ptr b 0) (ex_alloc zer73) hH) ?_
      rintro _ M99 ⟨b98, rfl, hH99⟩
      refine Run.opG wantS_none (ex_assign rfl) rfl ?_
      refine Run.opX wantS_none rfl (ExG.storeC (c' := [(.int .i64 x96.Time), (.int .i64 x96.Loud), (.int .i64 x96.Template)]) rfl rfl rfl hH99 (i := 0) rfl sz73 rfl rfl rfl rfl rfl) ?_
      rintro _ M100 ⟨rfl, (hH100 : Has Fr M100 [.obj b98 (.row 73 .whole [(.int .i64 x96.Time), (.int .i64 x96.Loud), (.int .i64 x96.Template)]), .obj b90 (.loop ⟨.ready, none, 73, 21, treeOf [(4, (.ptr b59 0)), (5, (.ptr b79 0)), (10, (.fn (.func 84) [] [(.ptr b85 0), (.ptr b88 0), (.ptr b82 0)]))], [11], (atC Try.prog 73 [1, 1, 0, 0]), (atC Try.prog 73 [1, 1, 0, 1]), b91⟩), .obj b59 (.row 22 .whole [s56]), .vec 3 1 l56.length s56 (l56.flatMap enc3), .obj b79 (.row 83 .whole [(.yield b76)]), .obj b76 (.loop ⟨.ready, none, 72, 16, treeOf [(2, (.ptr b66 0)), (3, (.ptr b74 0)), (5, (.fn (.func 73) [] [(.ptr b45 0), (.ptr b48 0), (.ptr b51 0), (.ptr b59 0)]))], [6], (atC Try.prog 72 [1, 1, 0, 0]), (atC Try.prog 72 [1, 1, 0, 1]), b77⟩), .obj b66 (.row 83 .whole [(.fn (.func 40) [] [(.ptr b22 0)])]), .obj b22 (.row 3 .whole [(.int .i64 c22_0)]), .obj b74 (.row 83 .whole [(.yield b71)]), .obj b71 (.loop ⟨.ready, none, 71, 13, treeOf [(2, (.ptr b69 0)), (4, .nils), (6, (.fn (.func 72) [] [(.ptr b63 0), (.ptr b66 0)]))], [7], (atC Try.prog 71 [1, 0, 1, 0, 0]), (atC Try.prog 71 [1, 0, 1, 0, 1]), b72⟩), .obj b69 (.row 36 .whole [s92]), .vec 44 5 l92.length s92 (l92.flatMap enc44), .obj b63 (.row 86 .whole [(.fn (.func 73) [] [(.ptr b45 0), (.ptr b48 0), (.ptr b51 0), (.ptr b59 0)])]), .obj b45 (.row 80 .whole [(.int .i64 c45.live), (.int .i64 c45.window), (.int .i64 c45.step)]), .obj b48 (.row 33 .whole [sc48_0]), .obj b51 (.row 33 .whole [sc51_0]), .obj b72 .defd, .obj b77 .defd, .obj b85 (.row 33 .whole [sc85_0]), .obj b88 (.row 33 .whole [sc88_0]), .obj b82 (.row 80 .whole [(.int .i64 c82.live), (.int .i64 c82.window), (.int .i64 c82.step)]), .obj b91 .defd])⟩
      refine Run.opsEnd (Run.seq (Run.region ?_))
      refine Run.opG wantS_none (ex_load1 rfl (hH100.cells (i := 19) rfl 0 rfl) rdLe_rfl agg33) rfl ?_
      refine Run.opG wantS_none (ex_len' rfl hc88_0 lenk33) rfl ?_
      refine Run.opG wantS_none (ex_move rfl) rfl ?_
      refine Run.opsEnd (Run.block (Run.loop ?_))
      exact Run.low (.cons (fle_pick [] rfl) (.cons (fle_pick [] rfl) (.cons (fle_pick [2] rfl) (.cons (fle_pick [] rfl) (.cons (fle_pick [] rfl) .nil))))) (Run.pick [0, 2, 3, 5, 6, 10, 11, 12, 17, 18, 19] (search_Candidates_2_ok F (search_Candidates_1 F N) ih F v12 v10 v11 v12 c88_0 (c88_0.length : Int) (0 : Int) c22_0 c45 c48_0 c51_0 c85_0 c88_0 c82 x96 l56 l92 sv10 sc88_0 sc48_0 sc51_0 sc85_0 sc88_0 b90 b59 s56 b79 b76 b66 b22 b74 b71 b69 s92 b63 b45 b48 b51 b72 b77 b85 b88 b82 b91 b98 _ _ _ hv10 hc88_0 hc48_0 hc51_0 hc85_0 hc88_0 (hH100.pick [1, 2, 3, 4, 5, 6, 7, 8, 9, 10, 11, 12, 13, 14, 15, 16, 17, 18, 19, 20, 21, 0] rfl rfl) h))
    · have h := bif_f hc94 h
      refine Run.condF' rfl hc94 ?_
      refine Run.exit rfl ?_
      refine Run.fallRange Try.func84 rfl res_nil ?_
      refine Run.endX hH (i := 0) rfl (fun hc => by cases hc) ?_
      intro M146 (hH146 : Has Fr M146 [.obj b90 (.loop ⟨.exhausted, none, 73, 21, treeOf [(4, (.ptr b59 0)), (5, (.ptr b79 0)), (10, (.fn (.func 84) [] [(.ptr b85 0), (.ptr b88 0), (.ptr b82 0)]))], [11], (atC Try.prog 73 [1, 1, 0, 0]), (atC Try.prog 73 [1, 1, 0, 1]), b91⟩), .obj b59 (.row 22 .whole [s56]), .vec 3 1 l56.length s56 (l56.flatMap enc3), .obj b79 (.row 83 .whole [(.yield b76)]), .obj b76 (.loop ⟨.ready, none, 72, 16, treeOf [(2, (.ptr b66 0)), (3, (.ptr b74 0)), (5, (.fn (.func 73) [] [(.ptr b45 0), (.ptr b48 0), (.ptr b51 0), (.ptr b59 0)]))], [6], (atC Try.prog 72 [1, 1, 0, 0]), (atC Try.prog 72 [1, 1, 0, 1]), b77⟩), .obj b66 (.row 83 .whole [(.fn (.func 40) [] [(.ptr b22 0)])]), .obj b22 (.row 3 .whole [(.int .i64 c22_0)]), .obj b74 (.row 83 .whole [(.yield b71)]), .obj b71 (.loop ⟨.ready, none, 71, 13, treeOf [(2, (.ptr b69 0)), (4, .nils), (6, (.fn (.func 72) [] [(.ptr b63 0), (.ptr b66 0)]))], [7], (atC Try.prog 71 [1, 0, 1, 0, 0]), (atC Try.prog 71 [1, 0, 1, 0, 1]), b72⟩), .obj b69 (.row 36 .whole [s92]), .vec 44 5 l92.length s92 (l92.flatMap enc44), .obj b63 (.row 86 .whole [(.fn (.func 73) [] [(.ptr b45 0), (.ptr b48 0), (.ptr b51 0), (.ptr b59 0)])]), .obj b45 (.row 80 .whole [(.int .i64 c45.live), (.int .i64 c45.window), (.int .i64 c45.step)]), .obj b48 (.row 33 .whole [sc48_0]), .obj b51 (.row 33 .whole [sc51_0]), .obj b72 .defd, .obj b77 .defd, .obj b85 (.row 33 .whole [sc85_0]), .obj b88 (.row 33 .whole [sc88_0]), .obj b82 (.row 80 .whole [(.int .i64 c82.live), (.int .i64 c82.window), (.int .i64 c82.step)]), .obj b91 .defd])
      refine Run.inBlock ?_
      obtain ⟨hH147x, hS147⟩ := hH146.shut (i := 20) (ds := []) rfl
      have hH147 : Has Fr (setT M146 b91 none) [.obj b90 (.loop ⟨.exhausted, none, 73, 21, treeOf [(4, (.ptr b59 0)), (5, (.ptr b79 0)), (10, (.fn (.func 84) [] [(.ptr b85 0), (.ptr b88 0), (.ptr b82 0)]))], [11], (atC Try.prog 73 [1, 1, 0, 0]), (atC Try.prog 73 [1, 1, 0, 1]), b91⟩), .obj b59 (.row 22 .whole [s56]), .vec 3 1 l56.length s56 (l56.flatMap enc3), .obj b79 (.row 83 .whole [(.yield b76)]), .obj b76 (.loop ⟨.ready, none, 72, 16, treeOf [(2, (.ptr b66 0)), (3, (.ptr b74 0)), (5, (.fn (.func 73) [] [(.ptr b45 0), (.ptr b48 0), (.ptr b51 0), (.ptr b59 0)]))], [6], (atC Try.prog 72 [1, 1, 0, 0]), (atC Try.prog 72 [1, 1, 0, 1]), b77⟩), .obj b66 (.row 83 .whole [(.fn (.func 40) [] [(.ptr b22 0)])]), .obj b22 (.row 3 .whole [(.int .i64 c22_0)]), .obj b74 (.row 83 .whole [(.yield b71)]), .obj b71 (.loop ⟨.ready, none, 71, 13, treeOf [(2, (.ptr b69 0)), (4, .nils), (6, (.fn (.func 72) [] [(.ptr b63 0), (.ptr b66 0)]))], [7], (atC Try.prog 71 [1, 0, 1, 0, 0]), (atC Try.prog 71 [1, 0, 1, 0, 1]), b72⟩), .obj b69 (.row 36 .whole [s92]), .vec 44 5 l92.length s92 (l92.flatMap enc44), .obj b63 (.row 86 .whole [(.fn (.func 73) [] [(.ptr b45 0), (.ptr b48 0), (.ptr b51 0), (.ptr b59 0)])]), .obj b45 (.row 80 .whole [(.int .i64 c45.live), (.int .i64 c45.window), (.int .i64 c45.step)]), .obj b48 (.row 33 .whole [sc48_0]), .obj b51 (.row 33 .whole [sc51_0]), .obj b72 .defd, .obj b77 .defd, .obj b85 (.row 33 .whole [sc85_0]), .obj b88 (.row 33 .whole [sc88_0]), .obj b82 (.row 80 .whole [(.int .i64 c82.live), (.int .i64 c82.window), (.int .i64 c82.step)]), .vec 0 0 0 .nils []] := hH147x
      refine Run.fallRange Try.func73 (hS147 _ rfl) res_nil ?_
      refine Run.endX hH147 (i := 4) rfl (fun hc => by cases hc) ?_
      intro M149 (hH149 : Has Fr M149 [.obj b90 (.loop ⟨.exhausted, none, 73, 21, treeOf [(4, (.ptr b59 0)), (5, (.ptr b79 0)), (10, (.fn (.func 84) [] [(.ptr b85 0), (.ptr b88 0), (.ptr b82 0)]))], [11], (atC Try.prog 73 [1, 1, 0, 0]), (atC Try.prog 73 [1, 1, 0, 1]), b91⟩), .obj b59 (.row 22 .whole [s56]), .vec 3 1 l56.length s56 (l56.flatMap enc3), .obj b79 (.row 83 .whole [(.yield b76)]), .obj b76 (.loop ⟨.exhausted, none, 72, 16, treeOf [(2, (.ptr b66 0)), (3, (.ptr b74 0)), (5, (.fn (.func 73) [] [(.ptr b45 0), (.ptr b48 0), (.ptr b51 0), (.ptr b59 0)]))], [6], (atC Try.prog 72 [1, 1, 0, 0]), (atC Try.prog 72 [1, 1, 0, 1]), b77⟩), .obj b66 (.row 83 .whole [(.fn (.func 40) [] [(.ptr b22 0)])]), .obj b22 (.row 3 .whole [(.int .i64 c22_0)]), .obj b74 (.row 83 .whole [(.yield b71)]), .obj b71 (.loop ⟨.ready, none, 71, 13, treeOf [(2, (.ptr b69 0)), (4, .nils), (6, (.fn (.func 72) [] [(.ptr b63 0), (.ptr b66 0)]))], [7], (atC Try.prog 71 [1, 0, 1, 0, 0]), (atC Try.prog 71 [1, 0, 1, 0, 1]), b72⟩), .obj b69 (.row 36 .whole [s92]), .vec 44 5 l92.length s92 (l92.flatMap enc44), .obj b63 (.row 86 .whole [(.fn (.func 73) [] [(.ptr b45 0), (.ptr b48 0), (.ptr b51 0), (.ptr b59 0)])]), .obj b45 (.row 80 .whole [(.int .i64 c45.live), (.int .i64 c45.window), (.int .i64 c45.step)]), .obj b48 (.row 33 .whole [sc48_0]), .obj b51 (.row 33 .whole [sc51_0]), .obj b72 .defd, .obj b77 .defd, .obj b85 (.row 33 .whole [sc85_0]), .obj b88 (.row 33 .whole [sc88_0]), .obj b82 (.row 80 .whole [(.int .i64 c82.live), (.int .i64 c82.window), (.int .i64 c82.step)]), .vec 0 0 0 .nils []])
      refine Run.inBlock ?_
      obtain ⟨hH150x, hS150⟩ := hH149.shut (i := 16) (ds := []) rfl
      have hH150 : Has Fr (setT M149 b77 none) [.obj b90 (.loop ⟨.exhausted, none, 73, 21, treeOf [(4, (.ptr b59 0)), (5, (.ptr b79 0)), (10, (.fn (.func 84) [] [(.ptr b85 0), (.ptr b88 0), (.ptr b82 0)]))], [11], (atC Try.prog 73 [1, 1, 0, 0]), (atC Try.prog 73 [1, 1, 0, 1]), b91⟩), .obj b59 (.row 22 .whole [s56]), .vec 3 1 l56.length s56 (l56.flatMap enc3), .obj b79 (.row 83 .whole [(.yield b76)]), .obj b76 (.loop ⟨.exhausted, none, 72, 16, treeOf [(2, (.ptr b66 0)), (3, (.ptr b74 0)), (5, (.fn (.func 73) [] [(.ptr b45 0), (.ptr b48 0), (.ptr b51 0), (.ptr b59 0)]))], [6], (atC Try.prog 72 [1, 1, 0, 0]), (atC Try.prog 72 [1, 1, 0, 1]), b77⟩), .obj b66 (.row 83 .whole [(.fn (.func 40) [] [(.ptr b22 0)])]), .obj b22 (.row 3 .whole [(.int .i64 c22_0)]), .obj b74 (.row 83 .whole [(.yield b71)]), .obj b71 (.loop ⟨.ready, none, 71, 13, treeOf [(2, (.ptr b69 0)), (4, .nils), (6, (.fn (.func 72) [] [(.ptr b63 0), (.ptr b66 0)]))], [7], (atC Try.prog 71 [1, 0, 1, 0, 0]), (atC Try.prog 71 [1, 0, 1, 0, 1]), b72⟩), .obj b69 (.row 36 .whole [s92]), .vec 44 5 l92.length s92 (l92.flatMap enc44), .obj b63 (.row 86 .whole [(.fn (.func 73) [] [(.ptr b45 0), (.ptr b48 0), (.ptr b51 0), (.ptr b59 0)])]), .obj b45 (.row 80 .whole [(.int .i64 c45.live), (.int .i64 c45.window), (.int .i64 c45.step)]), .obj b48 (.row 33 .whole [sc48_0]), .obj b51 (.row 33 .whole [sc51_0]), .obj b72 .defd, .vec 0 0 0 .nils [], .obj b85 (.row 33 .whole [sc85_0]), .obj b88 (.row 33 .whole [sc88_0]), .obj b82 (.row 80 .whole [(.int .i64 c82.live), (.int .i64 c82.window), (.int .i64 c82.step)]), .vec 0 0 0 .nils []] := hH150x
      refine Run.fallRange Try.func72 (hS150 _ rfl) res_nil ?_
      refine Run.endX hH150 (i := 8) rfl (fun hc => by cases hc) ?_
      intro M152 (hH152 : Has Fr M152 [.obj b90 (.loop ⟨.exhausted, none, 73, 21, treeOf [(4, (.ptr b59 0)), (5, (.ptr b79 0)), (10, (.fn (.func 84) [] [(.ptr b85 0), (.ptr b88 0), (.ptr b82 0)]))], [11], (atC Try.prog 73 [1, 1, 0, 0]), (atC Try.prog 73 [1, 1, 0, 1]), b91⟩), .obj b59 (.row 22 .whole [s56]), .vec 3 1 l56.length s56 (l56.flatMap enc3), .obj b79 (.row 83 .whole [(.yield b76)]), .obj b76 (.loop ⟨.exhausted, none, 72, 16, treeOf [(2, (.ptr b66 0)), (3, (.ptr b74 0)), (5, (.fn (.func 73) [] [(.ptr b45 0), (.ptr b48 0), (.ptr b51 0), (.ptr b59 0)]))], [6], (atC Try.prog 72 [1, 1, 0, 0]), (atC Try.prog 72 [1, 1, 0, 1]), b77⟩), .obj b66 (.row 83 .whole [(.fn (.func 40) [] [(.ptr b22 0)])]), .obj b22 (.row 3 .whole [(.int .i64 c22_0)]), .obj b74 (.row 83 .whole [(.yield b71)]), .obj b71 (.loop ⟨.exhausted, none, 71, 13, treeOf [(2, (.ptr b69 0)), (4, .nils), (6, (.fn (.func 72) [] [(.ptr b63 0), (.ptr b66 0)]))], [7], (atC Try.prog 71 [1, 0, 1, 0, 0]), (atC Try.prog 71 [1, 0, 1, 0, 1]), b72⟩), .obj b69 (.row 36 .whole [s92]), .vec 44 5 l92.length s92 (l92.flatMap enc44), .obj b63 (.row 86 .whole [(.fn (.func 73) [] [(.ptr b45 0), (.ptr b48 0), (.ptr b51 0), (.ptr b59 0)])]), .obj b45 (.row 80 .whole [(.int .i64 c45.live), (.int .i64 c45.window), (.int .i64 c45.step)]), .obj b48 (.row 33 .whole [sc48_0]), .obj b51 (.row 33 .whole [sc51_0]), .obj b72 .defd, .vec 0 0 0 .nils [], .obj b85 (.row 33 .whole [sc85_0]), .obj b88 (.row 33 .whole [sc88_0]), .obj b82 (.row 80 .whole [(.int .i64 c82.live), (.int .i64 c82.window), (.int .i64 c82.step)]), .vec 0 0 0 .nils []])
      refine Run.inBlock (Run.seq (Run.region ?_))
      refine Run.opG wantS_none (ex_load1 rfl (hH152.cells (i := 9) rfl 0 rfl) rdLe_rfl agg36) rfl ?_
      refine Run.opG wantS_none (ex_assign rfl) rfl ?_
      refine Run.opsEnd ?_
      obtain ⟨hH153x, hS153⟩ := hH152.shut (i := 15) (ds := []) rfl
      have hH153 : Has Fr (setT M152 b72 none) [.obj b90 (.loop ⟨.exhausted, none, 73, 21, treeOf [(4, (.ptr b59 0)), (5, (.ptr b79 0)), (10, (.fn (.func 84) [] [(.ptr b85 0), (.ptr b88 0), (.ptr b82 0)]))], [11], (atC Try.prog 73 [1, 1, 0, 0]), (atC Try.prog 73 [1, 1, 0, 1]), b91⟩), .obj b59 (.row 22 .whole [s56]), .vec 3 1 l56.length s56 (l56.flatMap enc3), .obj b79 (.row 83 .whole [(.yield b76)]), .obj b76 (.loop ⟨.exhausted, none, 72, 16, treeOf [(2, (.ptr b66 0)), (3, (.ptr b74 0)), (5, (.fn (.func 73) [] [(.ptr b45 0), (.ptr b48 0), (.ptr b51 0), (.ptr b59 0)]))], [6], (atC Try.prog 72 [1, 1, 0, 0]), (atC Try.prog 72 [1, 1, 0, 1]), b77⟩), .obj b66 (.row 83 .whole [(.fn (.func 40) [] [(.ptr b22 0)])]), .obj b22 (.row 3 .whole [(.int .i64 c22_0)]), .obj b74 (.row 83 .whole [(.yield b71)]), .obj b71 (.loop ⟨.exhausted, none, 71, 13, treeOf [(2, (.ptr b69 0)), (4, .nils), (6, (.fn (.func 72) [] [(.ptr b63 0), (.ptr b66 0)]))], [7], (atC Try.prog 71 [1, 0, 1, 0, 0]), (atC Try.prog 71 [1, 0, 1, 0, 1]), b72⟩), .obj b69 (.row 36 .whole [s92]), .vec 44 5 l92.length s92 (l92.flatMap enc44), .obj b63 (.row 86 .whole [(.fn (.func 73) [] [(.ptr b45 0), (.ptr b48 0), (.ptr b51 0), (.ptr b59 0)])]), .obj b45 (.row 80 .whole [(.int .i64 c45.live), (.int .i64 c45.window), (.int .i64 c45.step)]), .obj b48 (.row 33 .whole [sc48_0]), .obj b51 (.row 33 .whole [sc51_0]), .vec 0 0 0 .nils [], .vec 0 0 0 .nils [], .obj b85 (.row 33 .whole [sc85_0]), .obj b88 (.row 33 .whole [sc88_0]), .obj b82 (.row 80 .whole [(.int .i64 c82.live), (.int .i64 c82.window), (.int .i64 c82.step)]), .vec 0 0 0 .nils []] := hH153x
      refine Run.retTo Try.func71 (hS153 _ rfl) (res_tmp rfl res_nil) rfl ?_
      refine Run.opG wantS_none (ex_assign rfl) rfl ?_
      refine Run.opsEnd ?_
      refine Run.retTo Try.func41 rfl (res_tmp rfl res_nil) rfl ?_
      refine Run.opG wantS_none (ex_assign rfl) rfl ?_
      refine Run.opG wantS_none (ex_assign rfl) rfl ?_
      refine Run.opsEnd ?_
      cases h
      exact Run.ret Try.func14 rfl (res_tmp rfl (res_tmp rfl res_nil)) ⟨_, rfl, (hH153.pick [10] rfl rfl).upF (none_le _)⟩

def search_Candidates (F : Nat) (a0 a1 : (List S_api_Trigger)) (a2 a3 a4 a5 : Int) : Option ((List S_api_Candidate) × Int) :=
  bnd (search_clock_check F (S_search_clock.mk a2 a3 a4) ([a0, a1] : List (List S_api_Trigger))) fun r32 =>
  bif (!(r32 == (0 : Int))) then
    some (([] : List S_api_Candidate), r32)
  else
    bnd (search_clock_slides F (S_search_clock.mk a2 a3 a4)) fun r37 =>
    bnd (search_isFrom F (0 : Int) a5 r37) fun r39 =>
    bif (!r39) then
      some (([] : List S_api_Candidate), (8 : Int))
    else
      bnd (search_clock_statistics F (S_search_clock.mk a2 a3 a4) a0 a1) fun r55 =>
      search_Candidates_1 F F a0 (a0.length : Int) (0 : Int) a5 (S_search_clock.mk a2 a3 a4) a0 a1 a0 a1 (S_search_clock.mk a2 a3 a4) r55 ([] : List S_api_Candidate)

theorem search_Candidates_ok (F : Nat) (a0 a1 : (List S_api_Trigger)) (a2 a3 a4 a5 : Int) (s0 s1 : SV) (r : (List S_api_Candidate) × Int) (M : Mem) (hs0 : Slc (rd M) 3 (FlatR enc73) s0 a0) (hs1 : Slc (rd M) 3 (FlatR enc73) s1 a1) (h : search_Candidates F a0 a1 a2 a3 a4 a5 = some r) : CallsM Try.prog 14 [s0, s1, (.int .i64 a2), (.int .i64 a3), (.int .i64 a4), (.int .i64 a5)] M (fun s M' => ∃ q1, s = (.tuple [q1, (.int .i64 r.2)]) ∧ New M M' [.vec 44 5 r.1.length q1 (r.1.flatMap enc44)]) := by
  refine CallsM.fresh (Q := search_Candidates_post r) Try.func14 rfl rfl ?_ (by rintro s Me ⟨q1, rfl, hx⟩ ha hw; exact ⟨_, rfl, New.of rfl hx ha hw⟩)
  rw [search_Candidates] at h
  replace hs0 := hs0.mono (rdLe_frozen M) (fun _ _ h => h)
  replace hs1 := hs1.mono (rdLe_frozen M) (fun _ _ h => h)
  have hH := Has.nil (frozen M)
  refine Run.seq (Run.region ?_)
  refine Run.opX wantS_none rfl (ExG.box rfl rfl hH) ?_
  rintro _ M23 ⟨b22, rfl, hH23⟩
  refine Run.opG wantS_none (ex_assign rfl) rfl ?_
  refine Run.opG wantS_none (ex_assign rfl) rfl ?_
  refine Run.opsEnd (Run.seq (Run.region ?_))
  refine Run.opG wantS_none (ex_move rfl) rfl ?_
  refine Run.opG wantS_none (ex_move rfl) rfl ?_
  refine Run.opG wantS_none (ex_move rfl) rfl ?_
  refine Run.opG wantS_none (ex_build (r := [(.int .i64 a2), (.int .i64 a3), (.int .i64 a4)]) rfl zer80 pls80 rfl) rfl ?_
  refine Run.opX wantS_none rfl (ExG.new (v := fun b => .ptr b 0) (ex_alloc zer80) hH23) ?_
  rintro _ M26 ⟨b25, rfl, hH26⟩
  refine Run.opX wantS_none rfl (ExG.storeC (c' := [(.int .i64 a2), (.int .i64 a3), (.int .i64 a4)]) rfl rfl rfl hH26 (i := 0) rfl sz80 rfl rfl rfl rfl rfl) ?_
  rintro _ M27 ⟨rfl, (hH27 : Has (ro (frozen M)) M27 [.obj b25 (.row 80 .whole [(.int .i64 a2), (.int .i64 a3), (.int .i64 a4)]), .obj b22 (.row 3 .whole [(.int .i64 a5)])])⟩
  refine Run.opsEnd (Run.seq (Run.seq (Run.region ?_)))
  refine Run.opG wantS_none (ex_loadA rfl (hH27.cells (i := 0) rfl 0 rfl) rdLe_rfl agg80 rfl rfl rfl) rfl ?_
  refine Run.opG wantS_none (ex_move rfl) rfl ?_
  refine Run.opG wantS_none (ex_move rfl) rfl ?_
  have hr29 : Rows (rep33 (ro (frozen M))) 1 [s0, s1] ([a0, a1] : List (List S_api_Trigger)) := (Rows.cons (cs := [s0]) rfl ⟨s0, rfl, hs0⟩ (Rows.cons (cs := [s1]) rfl ⟨s1, rfl, hs1⟩ Rows.nil))
  refine Run.opX wantS_none rfl (ExG.builtR (z := 1) (c := [s0, s1]) rfl elt116 rfl (by simp only [fillS, cells_one (slc_one hs0), cells_one (slc_one hs1)]; rfl) rfl hH27) ?_
  rintro s29 M30 (hH30 : Has (ro (frozen M)) M30 [.vec 33 1 ([a0, a1] : List (List S_api_Trigger)).length s29 [s0, s1], .obj b25 (.row 80 .whole [(.int .i64 a2), (.int .i64 a3), (.int .i64 a4)]), .obj b22 (.row 3 .whole [(.int .i64 a5)])])
  obtain ⟨r32, hr32, h⟩ := bnd_some h
  refine Run.callP wantS_none (ex_call rfl mkk38 cal38) rfl (search_clock_check_ok F (S_search_clock.mk a2 a3 a4) ([a0, a1] : List (List S_api_Trigger)) s29 _ _ (((hH30.slcR (i := 0) rfl hr29)).mono (fun _ _ h => h) (fun _ _ => rep33_mo hH30.le)) hr32) ?_
  refine Run.opG wantS_none (ex_assign rfl) rfl ?_
  refine Run.opsEnd (Run.block (Run.seq (Run.region ?_)))
  refine Run.opG wantS_none (ex_move rfl) rfl ?_
  refine Run.opG wantS_none (ex_neq rfl rfl) rfl ?_
  refine Run.opG wantS_none (ex_assign rfl) rfl ?_
  refine Run.opsEnd ?_
  rcases btf ((!(r32 == (0 : Int)))) with hc34 | hc34
  · have h := bif_t hc34 h
    refine Run.condT' rfl hc34 ?_
    refine Run.seq (Run.region ?_)
    refine Run.opG wantS_none (ex_move rfl) rfl ?_
    refine Run.opG wantS_none (ex_assign rfl) rfl ?_
    refine Run.opG wantS_none (ex_assign rfl) rfl ?_
    refine Run.opsEnd ?_
    have hH36 : Has (ro (frozen M)) M30 [.vec 44 5 ([] : List S_api_Candidate).length .nils (([] : List S_api_Candidate).flatMap enc44), .vec 33 1 ([a0, a1] : List (List S_api_Trigger)).length s29 [s0, s1], .obj b25 (.row 80 .whole [(.int .i64 a2), (.int .i64 a3), (.int .i64 a4)]), .obj b22 (.row 3 .whole [(.int .i64 a5)])] := hH30.nils 44 5
    cases h
    exact Run.ret Try.func14 rfl (res_tmp rfl (res_tmp rfl res_nil)) ⟨_, rfl, (hH36.pick [0] rfl rfl).upF (none_le _)⟩
  · have h := bif_f hc34 h
    refine Run.condF' rfl hc34 ?_
    refine Run.seq ?_
    refine Run.drawG plan14_1_1_0_1_0_1_1_0 ?_
    refine DrawG.fl rfl (ev_ex wantS_none (ex_load1 rfl (hH30.cells (i := 2) rfl 0 rfl) rdLe_rfl agg3)) rfl ?_
    refine DrawG.fl rfl (ev_ex wantS_none (ex_loadA rfl (hH30.cells (i := 1) rfl 0 rfl) rdLe_rfl agg80 rfl rfl rfl)) rfl ?_
    obtain ⟨r37, hr37, h⟩ := bnd_some h
    refine DrawG.callP rfl wantS_none (ex_call rfl mkk39 cal39) rfl (search_clock_slides_ok F (S_search_clock.mk a2 a3 a4) _ _ hr37) (st_cons rfl (ev_ex wantS_none (ex_load1 rfl (hH30.cells (i := 2) rfl 0 rfl) rdLe_rfl agg3)) rfl rfl rfl st_nil) ?_
    obtain ⟨r39, hr39, h⟩ := bnd_some h
    refine DrawG.callP rfl wantS_none (ex_call rfl mkk36 cal36) rfl (search_isFrom_ok F (0 : Int) a5 r37 _ _ hr39) st_nil ?_
    refine DrawG.fl rfl (ev_ex wantS_none (ex_not rfl)) rfl ?_
    refine DrawG.fl rfl (ev_ex wantS_none (ex_assign rfl)) rfl ?_
    refine DrawG.sync ?_
    refine DrawG.nil ?_
    rcases btf ((!r39)) with hc41 | hc41
    · have h := bif_t hc41 h
      refine Run.condT' rfl hc41 ?_
      refine Run.seq (Run.region ?_)
      refine Run.opG wantS_none (ex_assign rfl) rfl ?_
      refine Run.opG wantS_none (ex_assign rfl) rfl ?_
      refine Run.opsEnd ?_
      have hH43 : Has (ro (frozen M)) M30 [.vec 44 5 ([] : List S_api_Candidate).length .nils (([] : List S_api_Candidate).flatMap enc44), .vec 33 1 ([a0, a1] : List (List S_api_Trigger)).length s29 [s0, s1], .obj b25 (.row 80 .whole [(.int .i64 a2), (.int .i64 a3), (.int .i64 a4)]), .obj b22 (.row 3 .whole [(.int .i64 a5)])] := hH30.nils 44 5
      cases h
      exact Run.ret Try.func14 rfl (res_tmp rfl (res_tmp rfl res_nil)) ⟨_, rfl, (hH43.pick [0] rfl rfl).upF (none_le _)⟩
    · have h := bif_f hc41 h
      refine Run.condF' rfl hc41 ?_
      refine Run.skip (Run.inBlock (Run.seq (Run.region ?_)))
      refine Run.opG wantS_none (ex_makeFunc rfl rfl) rfl ?_
      refine Run.opG wantS_none (ex_assign rfl) rfl ?_
      refine Run.opsEnd (Run.seq (Run.region ?_))
      refine Run.opG wantS_none (ex_loadA rfl (hH30.cells (i := 1) rfl 0 rfl) rdLe_rfl agg80 rfl rfl rfl) rfl ?_
      refine Run.opG wantS_none (ex_move rfl) rfl ?_
      refine Run.opG wantS_none (ex_move rfl) rfl ?_
      refine Run.enter wantS_none (ex_call rfl mkk43 cal43) Try.func43 rfl rfl ?_
      refine Run.seq (Run.region ?_)
      refine Run.opX wantS_none rfl (ExG.box rfl rfl hH30) ?_
      rintro _ M46 ⟨b45, rfl, hH46⟩
      refine Run.opX wantS_none rfl (ExG.box rfl (cells_one (slc_one hs0)) hH46) ?_
      rintro _ M49 ⟨b48, rfl, hH49⟩
      refine Run.opX wantS_none rfl (ExG.box rfl (cells_one (slc_one hs1)) hH49) ?_
      rintro _ M52 ⟨b51, rfl, hH52⟩
      refine Run.opG wantS_none (ex_assign rfl) rfl ?_
      refine Run.opsEnd (Run.seq (Run.region ?_))
      refine Run.opG wantS_none (ex_loadA rfl (hH52.cells (i := 2) rfl 0 rfl) rdLe_rfl agg80 rfl rfl rfl) rfl ?_
      refine Run.opG wantS_none (ex_load1 rfl (hH52.cells (i := 1) rfl 0 rfl) rdLe_rfl agg33) rfl ?_
      refine Run.opG wantS_none (ex_load1 rfl (hH52.cells (i := 0) rfl 0 rfl) rdLe_rfl agg33) rfl ?_
      obtain ⟨r55, hr55, h⟩ := bnd_some h
      refine Run.callX wantS_none (ex_call rfl mkk48 cal48) rfl (search_clock_statistics_ok F (S_search_clock.mk a2 a3 a4) a0 a1 s0 s1 _ _ (hH52.slcF hs0) (hH52.slcF hs1) hr55) ?_
      rintro s55_0 M57 ⟨_, rfl, hN55⟩
      have hH57 : Has (ro (frozen M)) M57 [.vec 3 1 r55.length s55_0 (r55.flatMap enc3), .obj b51 (.row 33 .whole [s1]), .obj b48 (.row 33 .whole [s0]), .obj b45 (.row 80 .whole [(.int .i64 a2), (.int .i64 a3), (.int .i64 a4)]), .vec 33 1 ([a0, a1] : List (List S_api_Trigger)).length s29 [s0, s1], .obj b25 (.row 80 .whole [(.int .i64 a2), (.int .i64 a3), (.int .i64 a4)]), .obj b22 (.row 3 .whole [(.int .i64 a5)])] := hN55.1 _ _ hH52
      refine Run.opX wantS_none rfl (ExG.new (v := fun b => .ptr b 0) (ex_alloc zer22) hH57) ?_
      rintro _ M60 ⟨b59, rfl, hH60⟩
      refine Run.opX wantS_none rfl (ExG.storeC (c' := [s55_0]) rfl rfl (cells_one (vec_one hH60 (i := 1) rfl)) hH60 (i := 0) rfl sz22 rfl rfl rfl (ones_cons (vec_one hH60 (i := 1) rfl) ones_nil) rfl) ?_
      rintro _ M61 ⟨rfl, (hH61 : Has (ro (frozen M)) M61 [.obj b59 (.row 22 .whole [s55_0]), .vec 3 1 r55.length s55_0 (r55.flatMap enc3), .obj b51 (.row 33 .whole [s1]), .obj b48 (.row 33 .whole [s0]), .obj b45 (.row 80 .whole [(.int .i64 a2), (.int .i64 a3), (.int .i64 a4)]), .vec 33 1 ([a0, a1] : List (List S_api_Trigger)).length s29 [s0, s1], .obj b25 (.row 80 .whole [(.int .i64 a2), (.int .i64 a3), (.int .i64 a4)]), .obj b22 (.row 3 .whole [(.int .i64 a5)])])⟩
      refine Run.opsEnd (Run.seq (Run.region ?_))
      refine Run.opG wantS_none (ex_makeFunc rfl rfl) rfl ?_
      refine Run.opG wantS_none (ex_assign rfl) rfl ?_
      refine Run.opsEnd ?_
      refine Run.retTo Try.func43 rfl (res_tmp rfl res_nil) rfl ?_
      refine Run.opG wantS_none (ex_move rfl) rfl ?_
      refine Run.enter wantS_none (ex_call rfl mkk42 cal42) Try.func42 rfl rfl ?_
      refine Run.seq (Run.region ?_)
      refine Run.opX wantS_none rfl (ExG.box rfl rfl hH61) ?_
      rintro _ M64 ⟨b63, rfl, hH64⟩
      refine Run.opX wantS_none rfl (ExG.box rfl rfl hH64) ?_
      rintro _ M67 ⟨b66, rfl, hH67⟩
      refine Run.opG wantS_none (ex_assign rfl) rfl ?_
      refine Run.opsEnd (Run.seq (Run.region ?_))
      refine Run.opG wantS_none (ex_makeFunc rfl rfl) rfl ?_
      refine Run.opG wantS_none (ex_assign rfl) rfl ?_
      refine Run.opsEnd ?_
      refine Run.retTo Try.func42 rfl (res_tmp rfl res_nil) rfl ?_
      refine Run.enter wantS_none (ex_call rfl mkk41 cal41) Try.func41 rfl rfl ?_
      refine Run.seq (Run.region ?_)
      refine Run.opG wantS_none (ex_assign rfl) rfl ?_
      refine Run.opsEnd (Run.seq (Run.region ?_))
      refine Run.opG wantS_none (ex_move rfl) rfl ?_
      refine Run.enter wantS_none (ex_call rfl mkk71 cal71) Try.func71 rfl rfl ?_
      refine Run.seq (Run.region ?_)
      refine Run.opX wantS_none rfl (ExG.box rfl rfl hH67) ?_
      rintro _ M70 ⟨b69, rfl, hH70⟩
      refine Run.opG wantS_none (ex_assign rfl) rfl ?_
      refine Run.opsEnd (Run.seq (Run.seq (Run.region ?_)))
      refine Run.opG wantS_none (ex_move rfl) rfl ?_
      refine Run.opsEnd (Run.block ?_)
      refine Run.pick [2, 4, 6] ?_
      refine Run.rangeX rfl cal72 Try.func72 rfl rfl hH70 ?_
      intro b72 b71 M71 (hH71 : Has (ro (frozen M)) M71 [.obj b71 (.loop ⟨.ready, none, 71, 13, treeOf [(2, (.ptr b69 0)), (4, .nils), (6, (.fn (.func 72) [] [(.ptr b63 0), (.ptr b66 0)]))], [7], (atC Try.prog 71 [1, 0, 1, 0, 0]), (atC Try.prog 71 [1, 0, 1, 0, 1]), b72⟩), .obj b72 .defd, .obj b69 (.row 36 .whole [.nils]), .obj b66 (.row 83 .whole [(.fn (.func 40) [] [(.ptr b22 0)])]), .obj b63 (.row 86 .whole [(.fn (.func 73) [] [(.ptr b45 0), (.ptr b48 0), (.ptr b51 0), (.ptr b59 0)])]), .obj b59 (.row 22 .whole [s55_0]), .vec 3 1 r55.length s55_0 (r55.flatMap enc3), .obj b51 (.row 33 .whole [s1]), .obj b48 (.row 33 .whole [s0]), .obj b45 (.row 80 .whole [(.int .i64 a2), (.int .i64 a3), (.int .i64 a4)]), .vec 33 1 ([a0, a1] : List (List S_api_Trigger)).length s29 [s0, s1], .obj b25 (.row 80 .whole [(.int .i64 a2), (.int .i64 a3), (.int .i64 a4)]), .obj b22 (.row 3 .whole [(.int .i64 a5)])])
      refine Run.seq (Run.region ?_)
      refine Run.opX wantS_none rfl (ExG.box rfl rfl hH71) ?_
      rintro _ M75 ⟨b74, rfl, hH75⟩
      refine Run.opsEnd (Run.seq (Run.region ?_))
      refine Run.opG wantS_none (ex_load1 rfl (hH75.cells (i := 5) rfl 0 rfl) rdLe_rfl agg86) rfl ?_
      refine Run.opsEnd (Run.block ?_)
      refine Run.pick [2, 3, 5] ?_
      refine Run.rangeX rfl cal73 Try.func73 rfl rfl hH75 ?_
      intro b77 b76 M76 (hH76 : Has (ro (frozen M)) M76 [.obj b76 (.loop ⟨.ready, none, 72, 16, treeOf [(2, (.ptr b66 0)), (3, (.ptr b74 0)), (5, (.fn (.func 73) [] [(.ptr b45 0), (.ptr b48 0), (.ptr b51 0), (.ptr b59 0)]))], [6], (atC Try.prog 72 [1, 1, 0, 0]), (atC Try.prog 72 [1, 1, 0, 1]), b77⟩), .obj b77 .defd, .obj b74 (.row 83 .whole [(.yield b71)]), .obj b71 (.loop ⟨.ready, none, 71, 13, treeOf [(2, (.ptr b69 0)), (4, .nils), (6, (.fn (.func 72) [] [(.ptr b63 0), (.ptr b66 0)]))], [7], (atC Try.prog 71 [1, 0, 1, 0, 0]), (atC Try.prog 71 [1, 0, 1, 0, 1]), b72⟩), .obj b72 .defd, .obj b69 (.row 36 .whole [.nils]), .obj b66 (.row 83 .whole [(.fn (.func 40) [] [(.ptr b22 0)])]), .obj b63 (.row 86 .whole [(.fn (.func 73) [] [(.ptr b45 0), (.ptr b48 0), (.ptr b51 0), (.ptr b59 0)])]), .obj b59 (.row 22 .whole [s55_0]), .vec 3 1 r55.length s55_0 (r55.flatMap enc3), .obj b51 (.row 33 .whole [s1]), .obj b48 (.row 33 .whole [s0]), .obj b45 (.row 80 .whole [(.int .i64 a2), (.int .i64 a3), (.int .i64 a4)]), .vec 33 1 ([a0, a1] : List (List S_api_Trigger)).length s29 [s0, s1], .obj b25 (.row 80 .whole [(.int .i64 a2), (.int .i64 a3), (.int .i64 a4)]), .obj b22 (.row 3 .whole [(.int .i64 a5)])])
      refine Run.seq (Run.region ?_)
      refine Run.opX wantS_none rfl (ExG.box rfl rfl hH76) ?_
      rintro _ M80 ⟨b79, rfl, hH80⟩
      refine Run.opsEnd (Run.seq (Run.region ?_))
      refine Run.opG wantS_none (ex_loadA rfl (hH80.cells (i := 13) rfl 0 rfl) rdLe_rfl agg80 rfl rfl rfl) rfl ?_
      refine Run.opG wantS_none (ex_load1 rfl (hH80.cells (i := 12) rfl 0 rfl) rdLe_rfl agg33) rfl ?_
      refine Run.opG wantS_none (ex_load1 rfl (hH80.cells (i := 11) rfl 0 rfl) rdLe_rfl agg33) rfl ?_
      refine Run.enter wantS_none (ex_call rfl mkk51 cal51) Try.func51 rfl rfl ?_
      refine Run.seq (Run.region ?_)
      refine Run.opX wantS_none rfl (ExG.box rfl rfl hH80) ?_
      rintro _ M83 ⟨b82, rfl, hH83⟩
      refine Run.opX wantS_none rfl (ExG.box rfl (cells_one (slc_one hs0)) hH83) ?_
      rintro _ M86 ⟨b85, rfl, hH86⟩
      refine Run.opX wantS_none rfl (ExG.box rfl (cells_one (slc_one hs1)) hH86) ?_
      rintro _ M89 ⟨b88, rfl, hH89⟩
      refine Run.opG wantS_none (ex_assign rfl) rfl ?_
      refine Run.opsEnd (Run.seq (Run.region ?_))
      refine Run.opG wantS_none (ex_makeFunc rfl rfl) rfl ?_
      refine Run.opG wantS_none (ex_assign rfl) rfl ?_
      refine Run.opsEnd ?_
      refine Run.retTo Try.func51 rfl (res_tmp rfl res_nil) rfl ?_
      refine Run.opsEnd (Run.block ?_)
      refine Run.pick [4, 5, 10] ?_
      refine Run.rangeX rfl cal84 Try.func84 rfl rfl hH89 ?_
      intro b91 b90 M90 (hH90 : Has (ro (frozen M)) M90 [.obj b90 (.loop ⟨.ready, none, 73, 21, treeOf [(4, (.ptr b59 0)), (5, (.ptr b79 0)), (10, (.fn (.func 84) [] [(.ptr b85 0), (.ptr b88 0), (.ptr b82 0)]))], [11], (atC Try.prog 73 [1, 1, 0, 0]), (atC Try.prog 73 [1, 1, 0, 1]), b91⟩), .obj b91 .defd, .obj b88 (.row 33 .whole [s1]), .obj b85 (.row 33 .whole [s0]), .obj b82 (.row 80 .whole [(.int .i64 a2), (.int .i64 a3), (.int .i64 a4)]), .obj b79 (.row 83 .whole [(.yield b76)]), .obj b76 (.loop ⟨.ready, none, 72, 16, treeOf [(2, (.ptr b66 0)), (3, (.ptr b74 0)), (5, (.fn (.func 73) [] [(.ptr b45 0), (.ptr b48 0), (.ptr b51 0), (.ptr b59 0)]))], [6], (atC Try.prog 72 [1, 1, 0, 0]), (atC Try.prog 72 [1, 1, 0, 1]), b77⟩), .obj b77 .defd, .obj b74 (.row 83 .whole [(.yield b71)]), .obj b71 (.loop ⟨.ready, none, 71, 13, treeOf [(2, (.ptr b69 0)), (4, .nils), (6, (.fn (.func 72) [] [(.ptr b63 0), (.ptr b66 0)]))], [7], (atC Try.prog 71 [1, 0, 1, 0, 0]), (atC Try.prog 71 [1, 0, 1, 0, 1]), b72⟩), .obj b72 .defd, .obj b69 (.row 36 .whole [.nils]), .obj b66 (.row 83 .whole [(.fn (.func 40) [] [(.ptr b22 0)])]), .obj b63 (.row 86 .whole [(.fn (.func 73) [] [(.ptr b45 0), (.ptr b48 0), (.ptr b51 0), (.ptr b59 0)])]), .obj b59 (.row 22 .whole [s55_0]), .vec 3 1 r55.length s55_0 (r55.flatMap enc3), .obj b51 (.row 33 .whole [s1]), .obj b48 (.row 33 .whole [s0]), .obj b45 (.row 80 .whole [(.int .i64 a2), (.int .i64 a3), (.int .i64 a4)]), .vec 33 1 ([a0, a1] : List (List S_api_Trigger)).length s29 [s0, s1], .obj b25 (.row 80 .whole [(.int .i64 a2), (.int .i64 a3), (.int .i64 a4)]), .obj b22 (.row 3 .whole [(.int .i64 a5)])])
      refine Run.seq (Run.region ?_)
      refine Run.opG wantS_none (ex_load1 rfl (hH90.cells (i := 3) rfl 0 rfl) rdLe_rfl agg33) rfl ?_
      refine Run.opG wantS_none (ex_len' rfl hs0 lenk33) rfl ?_
      refine Run.opG wantS_none (ex_move rfl) rfl ?_
      refine Run.opsEnd (Run.block (Run.loop ?_))
      have hH93 : Has (ro (frozen M)) M90 [.vec 44 5 ([] : List S_api_Candidate).length .nils (([] : List S_api_Candidate).flatMap enc44), .obj b90 (.loop ⟨.ready, none, 73, 21, treeOf [(4, (.ptr b59 0)), (5, (.ptr b79 0)), (10, (.fn (.func 84) [] [(.ptr b85 0), (.ptr b88 0), (.ptr b82 0)]))], [11], (atC Try.prog 73 [1, 1, 0, 0]), (atC Try.prog 73 [1, 1, 0, 1]), b91⟩), .obj b91 .defd, .obj b88 (.row 33 .whole [s1]), .obj b85 (.row 33 .whole [s0]), .obj b82 (.row 80 .whole [(.int .i64 a2), (.int .i64 a3), (.int .i64 a4)]), .obj b79 (.row 83 .whole [(.yield b76)]), .obj b76 (.loop ⟨.ready, none, 72, 16, treeOf [(2, (.ptr b66 0)), (3, (.ptr b74 0)), (5, (.fn (.func 73) [] [(.ptr b45 0), (.ptr b48 0), (.ptr b51 0), (.ptr b59 0)]))], [6], (atC Try.prog 72 [1, 1, 0, 0]), (atC Try.prog 72 [1, 1, 0, 1]), b77⟩), .obj b77 .defd, .obj b74 (.row 83 .whole [(.yield b71)]), .obj b71 (.loop ⟨.ready, none, 71, 13, treeOf [(2, (.ptr b69 0)), (4, .nils), (6, (.fn (.func 72) [] [(.ptr b63 0), (.ptr b66 0)]))], [7], (atC Try.prog 71 [1, 0, 1, 0, 0]), (atC Try.prog 71 [1, 0, 1, 0, 1]), b72⟩), .obj b72 .defd, .obj b69 (.row 36 .whole [.nils]), .obj b66 (.row 83 .whole [(.fn (.func 40) [] [(.ptr b22 0)])]), .obj b63 (.row 86 .whole [(.fn (.func 73) [] [(.ptr b45 0), (.ptr b48 0), (.ptr b51 0), (.ptr b59 0)])]), .obj b59 (.row 22 .whole [s55_0]), .vec 3 1 r55.length s55_0 (r55.flatMap enc3), .obj b51 (.row 33 .whole [s1]), .obj b48 (.row 33 .whole [s0]), .obj b45 (.row 80 .whole [(.int .i64 a2), (.int .i64 a3), (.int .i64 a4)]), .vec 33 1 ([a0, a1] : List (List S_api_Trigger)).length s29 [s0, s1], .obj b25 (.row 80 .whole [(.int .i64 a2), (.int .i64 a3), (.int .i64 a4)]), .obj b22 (.row 3 .whole [(.int .i64 a5)])] := hH90.nils 44 5
      exact Run.low (.cons (fle_pick [] rfl) (.cons (fle_pick [] rfl) (.cons (fle_pick [2] rfl) (.cons (fle_pick [] rfl) (.cons (fle_pick [] rfl) .nil))))) (Run.pick [0, 2, 3, 10, 11, 12] (search_Candidates_1_ok F F a0 (a0.length : Int) (0 : Int) a5 (S_search_clock.mk a2 a3 a4) a0 a1 a0 a1 (S_search_clock.mk a2 a3 a4) r55 ([] : List S_api_Candidate) s0 s0 s1 s0 s1 b90 b59 s55_0 b79 b76 b66 b22 b74 b71 b69 .nils b63 b45 b48 b51 b72 b77 b85 b88 b82 b91 _ _ _ hs0 hs0 hs1 hs0 hs1 (hH93.pick [1, 15, 16, 6, 7, 13, 22, 9, 10, 12, 0, 14, 19, 18, 17, 11, 8, 4, 3, 5, 2] rfl rfl) h))

theorem mkk14 : makeK Try.prog 14 = none := by kernel_rfl
theorem cal14 : callable Try.prog 14 = true := by kernel_rfl
theorem zer90 : zerosOf Try.prog 90 = some [(.int .i64 0), (.int .i64 0), (.int .i64 0)] := by kernel_rfl
theorem pls90 : placesOf Try.prog 90 = some (.st [(0, 1), (1, 1), (2, 1)]) := by kernel_rfl
theorem sz90 : szOf Try.prog 90 = some 3 := by kernel_rfl
theorem agg90 : aggSize Try.prog 90 = some (some 3) := by kernel_rfl
structure S_ringdownref08_Clock where
  Live : Int
  Window : Int
  Step : Int

abbrev ref00_In_post (r : Bool) : SV → Mem → Prop := fun s _ => s = (.bool r)

def ref00_In_1 (F : Nat) (v14 : Bool) : Option (Bool) :=
  some v14

theorem ref00_In_1_ok (F : Nat) : ∀ (v14 : Bool) (Fr : Rd) (M : Mem) (r : Bool) (hH : Has Fr M []), ref00_In_1 F v14 = some r → Run Try.prog ⟨⟨21, [], none⟩, []⟩ 15 (ref00_In_post r) [(14, (.bool v14))] [itemC Try.prog 21 [1, 0] 8, codeC Try.prog 21 [1, 1]] M := by
  intro v14 Fr M r hH h
  rw [ref00_In_1] at h
  refine Run.opG wantS_none (ex_assign rfl) rfl ?_
  refine Run.opsEnd ?_
  cases h
  exact Run.ret Try.func21 rfl (res_tmp rfl res_nil) rfl

def ref00_In (F : Nat) (a0 a1 a2 : Int) : Option (Bool) :=
  bif (decide (a1 ≤ a0)) then
    ref00_In_1 F (decide (a0 ≤ a2))
  else
    ref00_In_1 F false

theorem ref00_In_ok (F : Nat) (a0 a1 a2 : Int) (r : Bool) (M : Mem) (h : ref00_In F a0 a1 a2 = some r) : CallsM Try.prog 21 [(.int .i64 a0), (.int .i64 a1), (.int .i64 a2)] M (fun s M' => s = (.bool r) ∧ M' = M) := by
  refine CallsM.plain Try.func21 rfl rfl rfl (show Run _ _ _ (ref00_In_post r) _ _ _ from ?_)
  rw [ref00_In] at h
  have hH := Has.nil (frozen M)
  refine Run.seq (Run.region ?_)
  refine Run.opG wantS_none (ex_assign rfl) rfl ?_
  refine Run.opsEnd (Run.seq (Run.region ?_))
  refine Run.opG wantS_none (ex_move rfl) rfl ?_
  refine Run.opG wantS_none (ex_move rfl) rfl ?_
  refine Run.opG wantS_none (ex_leq rfl rfl) rfl ?_
  refine Run.opG wantS_none (ex_move rfl) rfl ?_
  rcases btf ((decide (a1 ≤ a0))) with hc21 | hc21
  · have h := bif_t hc21 h
    refine Run.opG (wantS_yes' rfl rfl hc21) (ex_move rfl) rfl ?_
    refine Run.opG (wantS_yes' rfl rfl hc21) (ex_move rfl) rfl ?_
    refine Run.opG (wantS_yes' rfl rfl hc21) (ex_leq rfl rfl) rfl ?_
    refine Run.opG wantS_none (ex_pickT' rfl hc21 rfl rfl) rfl ?_
    exact Run.pick [14] (ref00_In_1_ok F (decide (a0 ≤ a2)) _ _ _ hH h)
  · have h := bif_f hc21 h
    refine Run.no (wantS_not' rfl rfl hc21) rfl ?_
    refine Run.no (wantS_not' rfl rfl hc21) rfl ?_
    refine Run.no (wantS_not' rfl rfl hc21) rfl ?_
    refine Run.opG wantS_none (ex_pickF' rfl hc21 rfl rfl) rfl ?_
    exact Run.pick [14] (ref00_In_1_ok F false _ _ _ hH h)

theorem mkk21 : makeK Try.prog 21 = none := by kernel_rfl
theorem cal21 : callable Try.prog 21 = true := by kernel_rfl
theorem plan74_1_1_0_1_0_0_1_0_0_1_0 : planOf Try.prog (opsC (atC Try.prog 74 [1, 1, 0, 1, 0, 0, 1, 0, 0, 1, 0])) = some [.fl 0, .fl 1, .an 2 [], .fl 3, .fl 4, .fl 5, .fl 6, .an 7 [], .fl 8, .fl 9, .fl 10, .fl 11, .fl 12, .an 13 [], .fl 14, .fl 15, .fl 16, .fl 17, .fl 18, .fl 19, .fl 20, .fl 21, .fl 22, .fl 23, .fl 24, .fl 25, .fl 26, .fl 27, .fl 28, .fl 29, .fl 30, .sync] := by kernel_rfl
abbrev ref08_CheckTriggers_post (r : Int) : SV → Mem → Prop := fun s _ => s = (.int .i64 r)

def ref08_CheckTriggers_2 (F : Nat) (hd1 : (List S_api_Trigger) → Int → Option (Int)) (v0 : (List S_api_Trigger)) (v3 : Int) (v48 : Bool) : Option (Int) :=
  bif v48 then
    some (80 : Int)
  else
    hd1 v0 (w64 (v3 + (1 : Int)))

theorem ref08_CheckTriggers_2_ok (F : Nat) (hd1 : (List S_api_Trigger) → Int → Option (Int)) (hhd1 : ∀ (v0 : (List S_api_Trigger)) (v3 : Int) (sv0 : SV) (Fr : Rd) (M : Mem) (r : Int) (hv0 : Slc Fr 3 (FlatR enc73) sv0 v0) (hH : Has Fr M []), hd1 v0 v3 = some r → Run Try.prog ⟨⟨74, [], none⟩, []⟩ 49 (ref08_CheckTriggers_post r) [(0, sv0), (3, (.int .i64 v3))] [codeC Try.prog 74 [1, 1, 0, 1, 0, 0], loopC Try.prog 74 [1, 1, 0, 1, 0, 0], .inBlock 0, codeC Try.prog 74 [1, 1, 1]] M) : ∀ (v0 : (List S_api_Trigger)) (v3 : Int) (v48 : Bool) (sv0 : SV) (Fr : Rd) (M : Mem) (r : Int) (hv0 : Slc Fr 3 (FlatR enc73) sv0 v0) (hH : Has Fr M []), ref08_CheckTriggers_2 F hd1 v0 v3 v48 = some r → Run Try.prog ⟨⟨74, [], none⟩, []⟩ 49 (ref08_CheckTriggers_post r) [(0, sv0), (3, (.int .i64 v3)), (48, (.bool v48))] [codeC Try.prog 74 [1, 1, 0, 1, 0, 0, 1, 0, 0, 1, 1], .inBlock 1, codeC Try.prog 74 [1, 1, 0, 1, 0, 0, 1, 1], loopC Try.prog 74 [1, 1, 0, 1, 0, 0], .inBlock 0, codeC Try.prog 74 [1, 1, 1]] M := by
  intro v0 v3 v48 sv0 Fr M r hv0 hH h
  rw [ref08_CheckTriggers_2] at h
  rcases btf (v48) with hc32 | hc32
  · have h := bif_t hc32 h
    refine Run.condT' rfl hc32 ?_
    refine Run.seq (Run.region ?_)
    refine Run.opG wantS_none (ex_assign rfl) rfl ?_
    refine Run.opsEnd ?_
    cases h
    exact Run.ret Try.func74 rfl (res_tmp rfl res_nil) rfl
  · have h := bif_f hc32 h
    refine Run.condF' rfl hc32 ?_
    refine Run.skip (Run.inBlock (Run.region ?_))
    refine Run.opG wantS_none (ex_move rfl) rfl ?_
    refine Run.opG wantS_none (ex_add rfl rfl) rfl ?_
    refine Run.opG wantS_none (ex_assign rfl) rfl ?_
    refine Run.opsEnd (Run.inLoop ?_)
    exact Run.pick [0, 3] (hhd1 v0 (w64 (v3 + (1 : Int))) sv0 _ _ _ hv0 hH h)

def ref08_CheckTriggers_1 (F : Nat) : Nat → (List S_api_Trigger) → Int → Option (Int)
  | 0, _, _ => none
  | N + 1, v0, v3 =>
    bif (decide (v3 < (v0.length : Int))) then
      bnd (idx v0 v3) fun x24 =>
      bnd (ref00_In F x24.Time (0 : Int) (1073741823 : Int)) fun r29 =>
      bif (!r29) then
        ref08_CheckTriggers_2 F (ref08_CheckTriggers_1 F N) v0 v3 true
      else
        bnd (ref00_In F x24.Loud (0 : Int) (1073741824 : Int)) fun r33 =>
        bif (!r33) then
          ref08_CheckTriggers_2 F (ref08_CheckTriggers_1 F N) v0 v3 true
        else
          bnd (ref00_In F x24.Template (0 : Int) (255 : Int)) fun r36 =>
          bif (!r36) then
            ref08_CheckTriggers_2 F (ref08_CheckTriggers_1 F N) v0 v3 true
          else
            bif (decide ((0 : Int) < v3)) then
              bnd (idx v0 (w64 (v3 - (1 : Int)))) fun x40 =>
              ref08_CheckTriggers_2 F (ref08_CheckTriggers_1 F N) v0 v3 (decide (x24.Time ≤ x40.Time))
            else
              ref08_CheckTriggers_2 F (ref08_CheckTriggers_1 F N) v0 v3 false
    else
      some (0 : Int)

theorem ref08_CheckTriggers_1_ok (F : Nat) : ∀ (N : Nat), ∀ (v0 : (List S_api_Trigger)) (v3 : Int) (sv0 : SV) (Fr : Rd) (M : Mem) (r : Int) (hv0 : Slc Fr 3 (FlatR enc73) sv0 v0) (hH : Has Fr M []), ref08_CheckTriggers_1 F N v0 v3 = some r → Run Try.prog ⟨⟨74, [], none⟩, []⟩ 49 (ref08_CheckTriggers_post r) [(0, sv0), (3, (.int .i64 v3))] [codeC Try.prog 74 [1, 1, 0, 1, 0, 0], loopC Try.prog 74 [1, 1, 0, 1, 0, 0], .inBlock 0, codeC Try.prog 74 [1, 1, 1]] M := by
  intro N
  induction N with
  | zero =>
    intro v0 v3 sv0 Fr M r hv0 hH h
    simp [ref08_CheckTriggers_1] at h
  | succ N ih =>
    intro v0 v3 sv0 Fr M r hv0 hH h
    rw [ref08_CheckTriggers_1] at h
    refine Run.seq (Run.seq (Run.region ?_))
    refine Run.opG wantS_none (ex_move rfl) rfl ?_
    refine Run.opG wantS_none (ex_move rfl) rfl ?_
    refine Run.opG wantS_none (ex_len' rfl hv0 lenk33) rfl ?_
    refine Run.opG wantS_none (ex_lss rfl rfl) rfl ?_
    refine Run.opsEnd ?_
    rcases btf ((decide (v3 < (v0.length : Int)))) with hc22 | hc22
    · have h := bif_t hc22 h
      refine Run.condT' rfl hc22 ?_
      refine Run.skip (Run.seq (Run.block (Run.seq (Run.region ?_))))
      refine Run.opG wantS_none (ex_move rfl) rfl ?_
      refine Run.opG wantS_none (ex_move rfl) rfl ?_
      obtain ⟨x24, hx24, h⟩ := bnd_some h
      obtain ⟨p24, o24, _, hx24, hp24, rfl⟩ := sl_elem (P := Try.prog) (t := 33) (kk := .i64) hv0 hx24 els33
      refine Run.opG wantS_none (ex_elX rfl rfl hx24) rfl ?_
      refine Run.opG wantS_none (ex_loadA rfl (hH.ptrF hp24) rdLe_rfl agg73 rfl rfl rfl) rfl ?_
      refine Run.opX wantS_none rfl (ExG.new (v := fun b => .ptr b 0) (ex_alloc zer73) hH) ?_
      rintro _ M27 ⟨b26, rfl, hH27⟩
      refine Run.opX wantS_none rfl (ExG.storeC (c' := [(.int .i64 x24.Time), (.int .i64 x24.Loud), (.int .i64 x24.Template)]) rfl rfl rfl hH27 (i := 0) rfl sz73 rfl rfl rfl rfl rfl) ?_
      rintro _ M28 ⟨rfl, (hH28 : Has Fr M28 [.obj b26 (.row 73 .whole [(.int .i64 x24.Time), (.int .i64 x24.Loud), (.int .i64 x24.Template)])])⟩
      refine Run.opsEnd (Run.seq ?_)
      refine Run.drawG plan74_1_1_0_1_0_0_1_0_0_1_0 ?_
      refine DrawG.fl rfl (ev_ex wantS_none (ex_fieldAddr rfl off73_0)) rfl ?_
      refine DrawG.fl rfl (ev_ex wantS_none (ex_load1 rfl (hH28.cells (i := 0) rfl 0 rfl) rdLe_rfl agg3)) rfl ?_
      obtain ⟨r29, hr29, h⟩ := bnd_some h
      refine DrawG.callP rfl wantS_none (ex_call rfl mkk21 cal21) rfl (ref00_In_ok F x24.Time (0 : Int) (1073741823 : Int) _ _ hr29) st_nil ?_
      refine DrawG.fl rfl (ev_ex wantS_none (ex_not rfl)) rfl ?_
      refine DrawG.fl rfl (ev_ex wantS_none (ex_move rfl)) rfl ?_
      rcases btf ((!r29)) with hc31 | hc31
      · have h := bif_t hc31 h
        refine DrawG.fl rfl (ev_no (wantS_not' rfl rfl hc31)) rfl ?_
        refine DrawG.fl rfl (ev_no (wantS_not' rfl rfl hc31)) rfl ?_
        refine DrawG.no rfl (wantS_not' rfl rfl hc31) rfl st_nil ?_
        refine DrawG.fl rfl (ev_no (wantS_not' rfl rfl hc31)) rfl ?_
        refine DrawG.fl rfl (ev_ex wantS_none (ex_pickT' rfl hc31 rfl rfl)) rfl ?_
        refine DrawG.fl rfl (ev_ex wantS_none (ex_move rfl)) rfl ?_
        refine DrawG.fl rfl (ev_no (wantS_not' rfl rfl rfl)) rfl ?_
        refine DrawG.fl rfl (ev_no (wantS_not' rfl rfl rfl)) rfl ?_
        refine DrawG.no rfl (wantS_not' rfl rfl rfl) rfl st_nil ?_
        refine DrawG.fl rfl (ev_no (wantS_not' rfl rfl rfl)) rfl ?_
        refine DrawG.fl rfl (ev_ex wantS_none (ex_pickT' rfl rfl rfl rfl)) rfl ?_
        refine DrawG.fl rfl (ev_ex wantS_none (ex_move rfl)) rfl ?_
        refine DrawG.fl rfl (ev_no (wantS_not' rfl rfl rfl)) rfl ?_
        refine DrawG.fl rfl (ev_no (wantS_not' rfl rfl rfl)) rfl ?_
        refine DrawG.fl rfl (ev_no (wantS_not' rfl rfl rfl)) rfl ?_
        refine DrawG.fl rfl (ev_no (wantS_skip rfl rfl)) rfl ?_
        refine DrawG.fl rfl (ev_no (wantS_skip rfl rfl)) rfl ?_
        refine DrawG.fl rfl (ev_no (wantS_skip rfl rfl)) rfl ?_
        refine DrawG.fl rfl (ev_no (wantS_skip rfl rfl)) rfl ?_
        refine DrawG.fl rfl (ev_no (wantS_skip rfl rfl)) rfl ?_
        refine DrawG.fl rfl (ev_no (wantS_skip rfl rfl)) rfl ?_
        refine DrawG.fl rfl (ev_no (wantS_skip rfl rfl)) rfl ?_
        refine DrawG.fl rfl (ev_no (wantS_skip rfl rfl)) rfl ?_
        refine DrawG.fl rfl (ev_no (wantS_skip rfl rfl)) rfl ?_
        refine DrawG.fl rfl (ev_no (wantS_not' rfl rfl rfl)) rfl ?_
        refine DrawG.fl rfl (ev_ex wantS_none (ex_pickT' rfl rfl rfl rfl)) rfl ?_
        refine DrawG.sync ?_
        refine DrawG.nil ?_
        exact Run.pick [0, 3, 48] (ref08_CheckTriggers_2_ok F (ref08_CheckTriggers_1 F N) ih v0 v3 true sv0 _ _ _ hv0 (hH28.pick [] rfl rfl) h)
      · have h := bif_f hc31 h
        refine DrawG.fl rfl (ev_ex (wantS_yes' rfl rfl hc31) (ex_fieldAddr rfl off73_1)) rfl ?_
        refine DrawG.fl rfl (ev_ex (wantS_yes' rfl rfl hc31) (ex_load1 rfl (hH28.cells (i := 0) rfl 1 rfl) rdLe_rfl agg3)) rfl ?_
        obtain ⟨r33, hr33, h⟩ := bnd_some h
        refine DrawG.callP rfl (wantS_yes' rfl rfl hc31) (ex_call rfl mkk21 cal21) rfl (ref00_In_ok F x24.Loud (0 : Int) (1073741824 : Int) _ _ hr33) st_nil ?_
        refine DrawG.fl rfl (ev_ex (wantS_yes' rfl rfl hc31) (ex_not rfl)) rfl ?_
        refine DrawG.fl rfl (ev_ex wantS_none (ex_pickF' rfl hc31 rfl rfl)) rfl ?_
        refine DrawG.fl rfl (ev_ex wantS_none (ex_move rfl)) rfl ?_
        rcases btf ((!r33)) with hc35 | hc35
        · have h := bif_t hc35 h
          refine DrawG.fl rfl (ev_no (wantS_not' rfl rfl hc35)) rfl ?_
          refine DrawG.fl rfl (ev_no (wantS_not' rfl rfl hc35)) rfl ?_
          refine DrawG.no rfl (wantS_not' rfl rfl hc35) rfl st_nil ?_
          refine DrawG.fl rfl (ev_no (wantS_not' rfl rfl hc35)) rfl ?_
          refine DrawG.fl rfl (ev_ex wantS_none (ex_pickT' rfl hc35 rfl rfl)) rfl ?_
          refine DrawG.fl rfl (ev_ex wantS_none (ex_move rfl)) rfl ?_
          refine DrawG.fl rfl (ev_no (wantS_not' rfl rfl rfl)) rfl ?_
          refine DrawG.fl rfl (ev_no (wantS_not' rfl rfl rfl)) rfl ?_
          refine DrawG.fl rfl (ev_no (wantS_not' rfl rfl rfl)) rfl ?_
          refine DrawG.fl rfl (ev_no (wantS_skip rfl rfl)) rfl ?_
          refine DrawG.fl rfl (ev_no (wantS_skip rfl rfl)) rfl ?_
          refine DrawG.fl rfl (ev_no (wantS_skip rfl rfl)) rfl ?_
          refine DrawG.fl rfl (ev_no (wantS_skip rfl rfl)) rfl ?_
          refine DrawG.fl rfl (ev_no (wantS_skip rfl rfl)) rfl ?_
          refine DrawG.fl rfl (ev_no (wantS_skip rfl rfl)) rfl ?_
          refine DrawG.fl rfl (ev_no (wantS_skip rfl rfl)) rfl ?_
          refine DrawG.fl rfl (ev_no (wantS_skip rfl rfl)) rfl ?_
          refine DrawG.fl rfl (ev_no (wantS_skip rfl rfl)) rfl ?_
          refine DrawG.fl rfl (ev_no (wantS_not' rfl rfl rfl)) rfl ?_
          refine DrawG.fl rfl (ev_ex wantS_none (ex_pickT' rfl rfl rfl rfl)) rfl ?_
          refine DrawG.sync ?_
          refine DrawG.nil ?_
          exact Run.pick [0, 3, 48] (ref08_CheckTriggers_2_ok F (ref08_CheckTriggers_1 F N) ih v0 v3 true sv0 _ _ _ hv0 (hH28.pick [] rfl rfl) h)
        · have h := bif_f hc35 h
          refine DrawG.fl rfl (ev_ex (wantS_yes' rfl rfl hc35) (ex_fieldAddr rfl off73_2)) rfl ?_
          refine DrawG.fl rfl (ev_ex (wantS_yes' rfl rfl hc35) (ex_load1 rfl (hH28.cells (i := 0) rfl 2 rfl) rdLe_rfl agg3)) rfl ?_
          obtain ⟨r36, hr36, h⟩ := bnd_some h
          refine DrawG.callP rfl (wantS_yes' rfl rfl hc35) (ex_call rfl mkk21 cal21) rfl (ref00_In_ok F x24.Template (0 : Int) (255 : Int) _ _ hr36) st_nil ?_
          refine DrawG.fl rfl (ev_ex (wantS_yes' rfl rfl hc35) (ex_not rfl)) rfl ?_
          refine DrawG.fl rfl (ev_ex wantS_none (ex_pickF' rfl hc35 rfl rfl)) rfl ?_
          refine DrawG.fl rfl (ev_ex wantS_none (ex_move rfl)) rfl ?_
          rcases btf ((!r36)) with hc38 | hc38
          · have h := bif_t hc38 h
            refine DrawG.fl rfl (ev_no (wantS_not' rfl rfl hc38)) rfl ?_
            refine DrawG.fl rfl (ev_no (wantS_not' rfl rfl hc38)) rfl ?_
            refine DrawG.fl rfl (ev_no (wantS_not' rfl rfl hc38)) rfl ?_
            refine DrawG.fl rfl (ev_no (wantS_skip rfl rfl)) rfl ?_
            refine DrawG.fl rfl (ev_no (wantS_skip rfl rfl)) rfl ?_
            refine DrawG.fl rfl (ev_no (wantS_skip rfl rfl)) rfl ?_
            refine DrawG.fl rfl (ev_no (wantS_skip rfl rfl)) rfl ?_
            refine DrawG.fl rfl (ev_no (wantS_skip rfl rfl)) rfl ?_
            refine DrawG.fl rfl (ev_no (wantS_skip rfl rfl)) rfl ?_
            refine DrawG.fl rfl (ev_no (wantS_skip rfl rfl)) rfl ?_
            refine DrawG.fl rfl (ev_no (wantS_skip rfl rfl)) rfl ?_
            refine DrawG.fl rfl (ev_no (wantS_skip rfl rfl)) rfl ?_
            refine DrawG.fl rfl (ev_no (wantS_not' rfl rfl hc38)) rfl ?_
            refine DrawG.fl rfl (ev_ex wantS_none (ex_pickT' rfl hc38 rfl rfl)) rfl ?_
            refine DrawG.sync ?_
            refine DrawG.nil ?_
            exact Run.pick [0, 3, 48] (ref08_CheckTriggers_2_ok F (ref08_CheckTriggers_1 F N) ih v0 v3 true sv0 _ _ _ hv0 (hH28.pick [] rfl rfl) h)
          · have h := bif_f hc38 h
            refine DrawG.fl rfl (ev_ex (wantS_yes' rfl rfl hc38) (ex_move rfl)) rfl ?_
            refine DrawG.fl rfl (ev_ex (wantS_yes' rfl rfl hc38) (ex_gtr rfl rfl)) rfl ?_
            refine DrawG.fl rfl (ev_ex (wantS_yes' rfl rfl hc38) (ex_move rfl)) rfl ?_
            rcases btf ((decide ((0 : Int) < v3))) with hc39 | hc39
            · have h := bif_t hc39 h
              refine DrawG.fl rfl (ev_ex (wantS_yes' rfl rfl hc39) (ex_move rfl)) rfl ?_
              refine DrawG.fl rfl (ev_ex (wantS_yes' rfl rfl hc39) (ex_move rfl)) rfl ?_
              refine DrawG.fl rfl (ev_ex (wantS_yes' rfl rfl hc39) (ex_sub rfl rfl)) rfl ?_
              obtain ⟨x40, hx40, h⟩ := bnd_some h
              obtain ⟨p40, o40, _, hx40, hp40, rfl⟩ := sl_elem (P := Try.prog) (t := 33) (kk := .i64) hv0 hx40 els33
              refine DrawG.fl rfl (ev_ex (wantS_yes' rfl rfl hc39) (ex_elX rfl rfl hx40)) rfl ?_
              have hp41 := (hp40.fld (o := 0) rfl)
              refine DrawG.fl rfl (ev_ex (wantS_yes' rfl rfl hc39) (ex_fieldAddr rfl off73_0)) rfl ?_
              refine DrawG.fl rfl (ev_ex (wantS_yes' rfl rfl hc39) (ex_load1 rfl (hH28.ptrF hp41) rdLe_rfl agg3)) rfl ?_
              refine DrawG.fl rfl (ev_ex (wantS_yes' rfl rfl hc39) (ex_fieldAddr rfl off73_0)) rfl ?_
              refine DrawG.fl rfl (ev_ex (wantS_yes' rfl rfl hc39) (ex_load1 rfl (hH28.cells (i := 0) rfl 0 rfl) rdLe_rfl agg3)) rfl ?_
              refine DrawG.fl rfl (ev_ex (wantS_yes' rfl rfl hc39) (ex_geq rfl rfl)) rfl ?_
              refine DrawG.fl rfl (ev_ex (wantS_yes' rfl rfl hc38) (ex_pickT' rfl hc39 rfl rfl)) rfl ?_
              refine DrawG.fl rfl (ev_ex wantS_none (ex_pickF' rfl hc38 rfl rfl)) rfl ?_
              refine DrawG.sync ?_
              refine DrawG.nil ?_
              exact Run.pick [0, 3, 48] (ref08_CheckTriggers_2_ok F (ref08_CheckTriggers_1 F N) ih v0 v3 (decide (x24.Time ≤ x40.Time)) sv0 _ _ _ hv0 (hH28.pick [] rfl rfl) h)
            · have h := bif_f hc39 h
              refine DrawG.fl rfl (ev_no (wantS_not' rfl rfl hc39)) rfl ?_
              refine DrawG.fl rfl (ev_no (wantS_not' rfl rfl hc39)) rfl ?_
              refine DrawG.fl rfl (ev_no (wantS_not' rfl rfl hc39)) rfl ?_
              refine DrawG.fl rfl (ev_no (wantS_not' rfl rfl hc39)) rfl ?_
              refine DrawG.fl rfl (ev_no (wantS_not' rfl rfl hc39)) rfl ?_
              refine DrawG.fl rfl (ev_no (wantS_not' rfl rfl hc39)) rfl ?_
              refine DrawG.fl rfl (ev_no (wantS_not' rfl rfl hc39)) rfl ?_
              refine DrawG.fl rfl (ev_no (wantS_not' rfl rfl hc39)) rfl ?_
              refine DrawG.fl rfl (ev_no (wantS_not' rfl rfl hc39)) rfl ?_
              refine DrawG.fl rfl (ev_ex (wantS_yes' rfl rfl hc38) (ex_pickF' rfl hc39 rfl rfl)) rfl ?_
              refine DrawG.fl rfl (ev_ex wantS_none (ex_pickF' rfl hc38 rfl rfl)) rfl ?_
              refine DrawG.sync ?_
              refine DrawG.nil ?_
              exact Run.pick [0, 3, 48] (ref08_CheckTriggers_2_ok F (ref08_CheckTriggers_1 F N) ih v0 v3 false sv0 _ _ _ hv0 (hH28.pick [] rfl rfl) h)
    · have h := bif_f hc22 h
      refine Run.condF' rfl hc22 ?_
      refine Run.exit rfl (Run.seq (Run.region ?_))
      refine Run.opG wantS_none (ex_assign rfl) rfl ?_
      refine Run.opsEnd ?_
      cases h
      exact Run.ret Try.func74 rfl (res_tmp rfl res_nil) rfl

def ref08_CheckTriggers (F : Nat) (a0 : (List S_api_Trigger)) : Option (Int) :=
  bif (decide ((256 : Int) < (a0.length : Int))) then
    some (80 : Int)
  else
    ref08_CheckTriggers_1 F F a0 (0 : Int)

theorem ref08_CheckTriggers_ok (F : Nat) (a0 : (List S_api_Trigger)) (s0 : SV) (r : Int) (M : Mem) (hs0 : Slc (rd M) 3 (FlatR enc73) s0 a0) (h : ref08_CheckTriggers F a0 = some r) : CallsM Try.prog 74 [s0] M (fun s M' => s = (.int .i64 r) ∧ M' = M) := by
  refine CallsM.plain Try.func74 rfl rfl rfl (show Run _ _ _ (ref08_CheckTriggers_post r) _ _ _ from ?_)
  rw [ref08_CheckTriggers] at h
  replace hs0 := hs0.mono (rdLe_frozen M) (fun _ _ h => h)
  have hH := Has.nil (frozen M)
  refine Run.seq (Run.region ?_)
  refine Run.opG wantS_none (ex_assign rfl) rfl ?_
  refine Run.opsEnd (Run.seq (Run.seq (Run.region ?_)))
  refine Run.opG wantS_none (ex_move rfl) rfl ?_
  refine Run.opG wantS_none (ex_len' rfl hs0 lenk33) rfl ?_
  refine Run.opG wantS_none (ex_gtr rfl rfl) rfl ?_
  refine Run.opsEnd ?_
  rcases btf ((decide ((256 : Int) < (a0.length : Int)))) with hc21 | hc21
  · have h := bif_t hc21 h
    refine Run.condT' rfl hc21 ?_
    refine Run.seq (Run.region ?_)
    refine Run.opG wantS_none (ex_assign rfl) rfl ?_
    refine Run.opsEnd ?_
    cases h
    exact Run.ret Try.func74 rfl (res_tmp rfl res_nil) rfl
  · have h := bif_f hc21 h
    refine Run.condF' rfl hc21 ?_
    refine Run.skip (Run.seq (Run.seq (Run.region ?_)))
    refine Run.opG wantS_none (ex_assign rfl) rfl ?_
    refine Run.opsEnd (Run.block (Run.loop ?_))
    exact Run.pick [0, 3] (ref08_CheckTriggers_1_ok F F a0 (0 : Int) s0 _ _ _ hs0 hH h)

theorem mkk74 : makeK Try.prog 74 = none := by kernel_rfl
theorem cal74 : callable Try.prog 74 = true := by kernel_rfl
theorem off90_0 : fieldOff Try.prog 90 0 = some 0 := by kernel_rfl
theorem off90_1 : fieldOff Try.prog 90 1 = some 1 := by kernel_rfl
theorem off90_2 : fieldOff Try.prog 90 2 = some 2 := by kernel_rfl
abbrev ref08_clock_post (r : Bool) : SV → Mem → Prop := fun s _ => s = (.bool r)

def ref08_clock_4 (F : Nat) (v36 : Bool) : Option (Bool) :=
  some v36

theorem ref08_clock_4_ok (F : Nat) : ∀ (v36 : Bool) (Fr : Rd) (M : Mem) (r : Bool) (hH : Has Fr M []), ref08_clock_4 F v36 = some r → Run Try.prog ⟨⟨75, [], none⟩, []⟩ 37 (ref08_clock_post r) [(36, (.bool v36))] [itemC Try.prog 75 [1, 0] 34, codeC Try.prog 75 [1, 1]] M := by
  intro v36 Fr M r hH h
  rw [ref08_clock_4] at h
  refine Run.opG wantS_none (ex_assign rfl) rfl ?_
  refine Run.opsEnd ?_
  cases h
  exact Run.ret Try.func75 rfl (res_tmp rfl res_nil) rfl

def ref08_clock_3 (F : Nat) (v28 : Bool) (c22 : S_ringdownref08_Clock) : Option (Bool) :=
  bif v28 then
    bnd (nz c22.Step) fun z40 =>
    ref08_clock_4 F (decide ((w64 (Int.tdiv c22.Live c22.Step)) ≤ (256 : Int)))
  else
    ref08_clock_4 F false

theorem ref08_clock_3_ok (F : Nat) : ∀ (v28 : Bool) (c22 : S_ringdownref08_Clock) (b22 : Pos) (Fr : Rd) (M : Mem) (r : Bool) (hH : Has Fr M [.obj b22 (.row 90 .whole [(.int .i64 c22.Live), (.int .i64 c22.Window), (.int .i64 c22.Step)])]), ref08_clock_3 F v28 c22 = some r → Run Try.prog ⟨⟨75, [], none⟩, []⟩ 37 (ref08_clock_post r) [(1, (.ptr b22 0)), (28, (.bool v28))] [itemC Try.prog 75 [1, 0] 26, codeC Try.prog 75 [1, 1]] M := by
  intro v28 c22 b22 Fr M r hH h
  rw [ref08_clock_3] at h
  refine Run.opG wantS_none (ex_move rfl) rfl ?_
  rcases btf (v28) with hc38 | hc38
  · have h := bif_t hc38 h
    refine Run.opG (wantS_yes' rfl rfl hc38) (ex_fieldAddr rfl off90_0) rfl ?_
    refine Run.opG (wantS_yes' rfl rfl hc38) (ex_load1 rfl (hH.cells (i := 0) rfl 0 rfl) rdLe_rfl agg3) rfl ?_
    refine Run.opG (wantS_yes' rfl rfl hc38) (ex_fieldAddr rfl off90_2) rfl ?_
    refine Run.opG (wantS_yes' rfl rfl hc38) (ex_load1 rfl (hH.cells (i := 0) rfl 2 rfl) rdLe_rfl agg3) rfl ?_
    obtain ⟨z40, hz40, h⟩ := bnd_some h
    refine Run.opG (wantS_yes' rfl rfl hc38) (ex_quo' rfl rfl hz40) rfl ?_
    refine Run.opG (wantS_yes' rfl rfl hc38) (ex_leq rfl rfl) rfl ?_
    refine Run.opG wantS_none (ex_pickT' rfl hc38 rfl rfl) rfl ?_
    exact Run.pick [36] (ref08_clock_4_ok F (decide ((w64 (Int.tdiv c22.Live c22.Step)) ≤ (256 : Int))) _ _ _ (hH.pick [] rfl rfl) h)
  · have h := bif_f hc38 h
    refine Run.no (wantS_not' rfl rfl hc38) rfl ?_
    refine Run.no (wantS_not' rfl rfl hc38) rfl ?_
    refine Run.no (wantS_not' rfl rfl hc38) rfl ?_
    refine Run.no (wantS_not' rfl rfl hc38) rfl ?_
    refine Run.no (wantS_not' rfl rfl hc38) rfl ?_
    refine Run.no (wantS_not' rfl rfl hc38) rfl ?_
    refine Run.opG wantS_none (ex_pickF' rfl hc38 rfl rfl) rfl ?_
    exact Run.pick [36] (ref08_clock_4_ok F false _ _ _ (hH.pick [] rfl rfl) h)

def ref08_clock_2 (F : Nat) (v20 : Bool) (c22 : S_ringdownref08_Clock) : Option (Bool) :=
  bif v20 then
    bnd (nz c22.Step) fun z37 =>
    ref08_clock_3 F ((Int.tmod c22.Live c22.Step) == (0 : Int)) c22
  else
    ref08_clock_3 F false c22

theorem ref08_clock_2_ok (F : Nat) : ∀ (v20 : Bool) (c22 : S_ringdownref08_Clock) (b22 : Pos) (Fr : Rd) (M : Mem) (r : Bool) (hH : Has Fr M [.obj b22 (.row 90 .whole [(.int .i64 c22.Live), (.int .i64 c22.Window), (.int .i64 c22.Step)])]), ref08_clock_2 F v20 c22 = some r → Run Try.prog ⟨⟨75, [], none⟩, []⟩ 37 (ref08_clock_post r) [(1, (.ptr b22 0)), (20, (.bool v20))] [itemC Try.prog 75 [1, 0] 18, codeC Try.prog 75 [1, 1]] M := by
  intro v20 c22 b22 Fr M r hH h
  rw [ref08_clock_2] at h
  refine Run.opG wantS_none (ex_move rfl) rfl ?_
  rcases btf (v20) with hc35 | hc35
  · have h := bif_t hc35 h
    refine Run.opG (wantS_yes' rfl rfl hc35) (ex_fieldAddr rfl off90_0) rfl ?_
    refine Run.opG (wantS_yes' rfl rfl hc35) (ex_load1 rfl (hH.cells (i := 0) rfl 0 rfl) rdLe_rfl agg3) rfl ?_
    refine Run.opG (wantS_yes' rfl rfl hc35) (ex_fieldAddr rfl off90_2) rfl ?_
    refine Run.opG (wantS_yes' rfl rfl hc35) (ex_load1 rfl (hH.cells (i := 0) rfl 2 rfl) rdLe_rfl agg3) rfl ?_
    obtain ⟨z37, hz37, h⟩ := bnd_some h
    refine Run.opG (wantS_yes' rfl rfl hc35) (ex_rem' rfl rfl hz37) rfl ?_
    refine Run.opG (wantS_yes' rfl rfl hc35) (ex_eql rfl rfl) rfl ?_
    refine Run.opG wantS_none (ex_pickT' rfl hc35 rfl rfl) rfl ?_
    exact Run.pick [1, 28] (ref08_clock_3_ok F ((Int.tmod c22.Live c22.Step) == (0 : Int)) c22 b22 _ _ _ hH h)
  · have h := bif_f hc35 h
    refine Run.no (wantS_not' rfl rfl hc35) rfl ?_
    refine Run.no (wantS_not' rfl rfl hc35) rfl ?_
    refine Run.no (wantS_not' rfl rfl hc35) rfl ?_
    refine Run.no (wantS_not' rfl rfl hc35) rfl ?_
    refine Run.no (wantS_not' rfl rfl hc35) rfl ?_
    refine Run.no (wantS_not' rfl rfl hc35) rfl ?_
    refine Run.opG wantS_none (ex_pickF' rfl hc35 rfl rfl) rfl ?_
    exact Run.pick [1, 28] (ref08_clock_3_ok F false c22 b22 _ _ _ hH h)

def ref08_clock_1 (F : Nat) (v13 : Bool) (c22 : S_ringdownref08_Clock) : Option (Bool) :=
  bif v13 then
    bnd (ref00_In F c22.Step (1 : Int) c22.Live) fun r33 =>
    ref08_clock_2 F r33 c22
  else
    ref08_clock_2 F false c22

theorem ref08_clock_1_ok (F : Nat) : ∀ (v13 : Bool) (c22 : S_ringdownref08_Clock) (b22 : Pos) (Fr : Rd) (M : Mem) (r : Bool) (hH : Has Fr M [.obj b22 (.row 90 .whole [(.int .i64 c22.Live), (.int .i64 c22.Window), (.int .i64 c22.Step)])]), ref08_clock_1 F v13 c22 = some r → Run Try.prog ⟨⟨75, [], none⟩, []⟩ 37 (ref08_clock_post r) [(1, (.ptr b22 0)), (13, (.bool v13))] [itemC Try.prog 75 [1, 0] 11, codeC Try.prog 75 [1, 1]] M := by
  intro v13 c22 b22 Fr M r hH h
  rw [ref08_clock_1] at h
  refine Run.opG wantS_none (ex_move rfl) rfl ?_
  rcases btf (v13) with hc31 | hc31
  · have h := bif_t hc31 h
    refine Run.opG (wantS_yes' rfl rfl hc31) (ex_fieldAddr rfl off90_2) rfl ?_
    refine Run.opG (wantS_yes' rfl rfl hc31) (ex_load1 rfl (hH.cells (i := 0) rfl 2 rfl) rdLe_rfl agg3) rfl ?_
    refine Run.opG (wantS_yes' rfl rfl hc31) (ex_fieldAddr rfl off90_0) rfl ?_
    refine Run.opG (wantS_yes' rfl rfl hc31) (ex_load1 rfl (hH.cells (i := 0) rfl 0 rfl) rdLe_rfl agg3) rfl ?_
    obtain ⟨r33, hr33, h⟩ := bnd_some h
    refine Run.callP (wantS_yes' rfl rfl hc31) (ex_call rfl mkk21 cal21) rfl (ref00_In_ok F c22.Step (1 : Int) c22.Live _ _ hr33) ?_
    refine Run.opG wantS_none (ex_pickT' rfl hc31 rfl rfl) rfl ?_
    exact Run.pick [1, 20] (ref08_clock_2_ok F r33 c22 b22 _ _ _ hH h)
  · have h := bif_f hc31 h
    refine Run.no (wantS_not' rfl rfl hc31) rfl ?_
    refine Run.no (wantS_not' rfl rfl hc31) rfl ?_
    refine Run.no (wantS_not' rfl rfl hc31) rfl ?_
    refine Run.no (wantS_not' rfl rfl hc31) rfl ?_
    refine Run.no (wantS_not' rfl rfl hc31) rfl ?_
    refine Run.opG wantS_none (ex_pickF' rfl hc31 rfl rfl) rfl ?_
    exact Run.pick [1, 20] (ref08_clock_2_ok F false c22 b22 _ _ _ hH h)

def ref08_clock (F : Nat) (a0 : S_ringdownref08_Clock) : Option (Bool) :=
  bnd (ref00_In F a0.Live (1 : Int) (1073741824 : Int)) fun r25 =>
  bif r25 then
    bnd (ref00_In F a0.Window (0 : Int) (w64 (a0.Live - (1 : Int)))) fun r29 =>
    ref08_clock_1 F r29 a0
  else
    ref08_clock_1 F false a0

theorem ref08_clock_ok (F : Nat) (a0 : S_ringdownref08_Clock) (r : Bool) (M : Mem) (h : ref08_clock F a0 = some r) : CallsM Try.prog 75 [(.agg [(.int .i64 a0.Live), (.int .i64 a0.Window), (.int .i64 a0.Step)])] M (fun s M' => s = (.bool r) ∧ M' = M) := by
  refine CallsM.plain Try.func75 rfl rfl rfl (show Run _ _ _ (ref08_clock_post r) _ _ _ from ?_)
  rw [ref08_clock] at h
  have hH := Has.nil (frozen M)
  refine Run.seq (Run.region ?_)
  refine Run.opX wantS_none rfl (ExG.box rfl rfl hH) ?_
  rintro _ M23 ⟨b22, rfl, hH23⟩
  refine Run.opG wantS_none (ex_assign rfl) rfl ?_
  refine Run.opsEnd (Run.seq (Run.region ?_))
  refine Run.opG wantS_none (ex_fieldAddr rfl off90_0) rfl ?_
  refine Run.opG wantS_none (ex_load1 rfl (hH23.cells (i := 0) rfl 0 rfl) rdLe_rfl agg3) rfl ?_
  obtain ⟨r25, hr25, h⟩ := bnd_some h
  refine Run.callP wantS_none (ex_call rfl mkk21 cal21) rfl (ref00_In_ok F a0.Live (1 : Int) (1073741824 : Int) _ _ hr25) ?_
  refine Run.opG wantS_none (ex_move rfl) rfl ?_
  rcases btf (r25) with hc27 | hc27
  · have h := bif_t hc27 h
    refine Run.opG (wantS_yes' rfl rfl hc27) (ex_fieldAddr rfl off90_1) rfl ?_
    refine Run.opG (wantS_yes' rfl rfl hc27) (ex_load1 rfl (hH23.cells (i := 0) rfl 1 rfl) rdLe_rfl agg3) rfl ?_
    refine Run.opG (wantS_yes' rfl rfl hc27) (ex_fieldAddr rfl off90_0) rfl ?_
    refine Run.opG (wantS_yes' rfl rfl hc27) (ex_load1 rfl (hH23.cells (i := 0) rfl 0 rfl) rdLe_rfl agg3) rfl ?_
    refine Run.opG (wantS_yes' rfl rfl hc27) (ex_sub rfl rfl) rfl ?_
    obtain ⟨r29, hr29, h⟩ := bnd_some h
    refine Run.callP (wantS_yes' rfl rfl hc27) (ex_call rfl mkk21 cal21) rfl (ref00_In_ok F a0.Window (0 : Int) (w64 (a0.Live - (1 : Int))) _ _ hr29) ?_
    refine Run.opG wantS_none (ex_pickT' rfl hc27 rfl rfl) rfl ?_
    exact Run.pick [1, 13] (ref08_clock_1_ok F r29 a0 b22 _ _ _ hH23 h)
  · have h := bif_f hc27 h
    refine Run.no (wantS_not' rfl rfl hc27) rfl ?_
    refine Run.no (wantS_not' rfl rfl hc27) rfl ?_
    refine Run.no (wantS_not' rfl rfl hc27) rfl ?_
    refine Run.no (wantS_not' rfl rfl hc27) rfl ?_
    refine Run.no (wantS_not' rfl rfl hc27) rfl ?_
    refine Run.no (wantS_not' rfl rfl hc27) rfl ?_
    refine Run.opG wantS_none (ex_pickF' rfl hc27 rfl rfl) rfl ?_
    exact Run.pick [1, 13] (ref08_clock_1_ok F false a0 b22 _ _ _ hH23 h)

theorem mkk75 : makeK Try.prog 75 = none := by kernel_rfl
theorem cal75 : callable Try.prog 75 = true := by kernel_rfl
theorem plan76_1_0 : planOf Try.prog (opsC (atC Try.prog 76 [1, 0])) = some [.fl 0, .fl 1, .fl 2, .fl 3, .fl 4, .fl 5, .fl 6, .fl 7, .fl 8, .fl 9, .fl 10, .fl 11, .fl 12, .fl 13, .fl 14, .fl 15, .sync] := by kernel_rfl
abbrev ref08_fits_post (r : Bool) : SV → Mem → Prop := fun s _ => s = (.bool r)

def ref08_fits_1 (F : Nat) (v4 : Bool) : Option (Bool) :=
  some v4

theorem ref08_fits_1_ok (F : Nat) : ∀ (v4 : Bool) (Fr : Rd) (M : Mem) (r : Bool) (hH : Has Fr M []), ref08_fits_1 F v4 = some r → Run Try.prog ⟨⟨76, [], none⟩, []⟩ 20 (ref08_fits_post r) [(4, (.bool v4))] [codeC Try.prog 76 [1, 1]] M := by
  intro v4 Fr M r hH h
  rw [ref08_fits_1] at h
  cases h
  exact Run.ret Try.func76 rfl (res_tmp rfl res_nil) rfl

def ref08_fits (F : Nat) (a0 : (List S_api_Trigger)) (a1 : S_ringdownref08_Clock) : Option (Bool) :=
  bif ((a0.length : Int) == (0 : Int)) then
    ref08_fits_1 F true
  else
    bnd (idx a0 (w64 ((a0.length : Int) - (1 : Int)))) fun x25 =>
    ref08_fits_1 F (decide (x25.Time < a1.Live))

theorem ref08_fits_ok (F : Nat) (a0 : (List S_api_Trigger)) (a1 : S_ringdownref08_Clock) (s0 : SV) (r : Bool) (M : Mem) (hs0 : Slc (rd M) 3 (FlatR enc73) s0 a0) (h : ref08_fits F a0 a1 = some r) : CallsM Try.prog 76 [s0, (.agg [(.int .i64 a1.Live), (.int .i64 a1.Window), (.int .i64 a1.Step)])] M (fun s M' => s = (.bool r) ∧ M' = M) := by
  refine CallsM.plain Try.func76 rfl rfl rfl (show Run _ _ _ (ref08_fits_post r) _ _ _ from ?_)
  rw [ref08_fits] at h
  replace hs0 := hs0.mono (rdLe_frozen M) (fun _ _ h => h)
  have hH := Has.nil (frozen M)
  refine Run.seq (Run.region ?_)
  refine Run.opX wantS_none rfl (ExG.box rfl rfl hH) ?_
  rintro _ M23 ⟨b22, rfl, hH23⟩
  refine Run.opG wantS_none (ex_assign rfl) rfl ?_
  refine Run.opsEnd (Run.seq ?_)
  refine Run.drawG plan76_1_0 ?_
  refine DrawG.fl rfl (ev_ex wantS_none (ex_move rfl)) rfl ?_
  refine DrawG.fl rfl (ev_ex wantS_none (ex_len' rfl hs0 lenk33)) rfl ?_
  refine DrawG.fl rfl (ev_ex wantS_none (ex_eql rfl rfl)) rfl ?_
  refine DrawG.fl rfl (ev_ex wantS_none (ex_move rfl)) rfl ?_
  rcases btf (((a0.length : Int) == (0 : Int))) with hc24 | hc24
  · have h := bif_t hc24 h
    refine DrawG.fl rfl (ev_no (wantS_not' rfl rfl hc24)) rfl ?_
    refine DrawG.fl rfl (ev_no (wantS_not' rfl rfl hc24)) rfl ?_
    refine DrawG.fl rfl (ev_no (wantS_not' rfl rfl hc24)) rfl ?_
    refine DrawG.fl rfl (ev_no (wantS_not' rfl rfl hc24)) rfl ?_
    refine DrawG.fl rfl (ev_no (wantS_not' rfl rfl hc24)) rfl ?_
    refine DrawG.fl rfl (ev_no (wantS_not' rfl rfl hc24)) rfl ?_
    refine DrawG.fl rfl (ev_no (wantS_not' rfl rfl hc24)) rfl ?_
    refine DrawG.fl rfl (ev_no (wantS_not' rfl rfl hc24)) rfl ?_
    refine DrawG.fl rfl (ev_no (wantS_not' rfl rfl hc24)) rfl ?_
    refine DrawG.fl rfl (ev_no (wantS_not' rfl rfl hc24)) rfl ?_
    refine DrawG.fl rfl (ev_ex wantS_none (ex_pickT' rfl hc24 rfl rfl)) rfl ?_
    refine DrawG.fl rfl (ev_ex wantS_none (ex_assign rfl)) rfl ?_
    refine DrawG.sync ?_
    refine DrawG.nil ?_
    exact Run.pick [4] (ref08_fits_1_ok F true _ _ _ (hH23.pick [] rfl rfl) h)
  · have h := bif_f hc24 h
    refine DrawG.fl rfl (ev_ex (wantS_yes' rfl rfl hc24) (ex_move rfl)) rfl ?_
    refine DrawG.fl rfl (ev_ex (wantS_yes' rfl rfl hc24) (ex_move rfl)) rfl ?_
    refine DrawG.fl rfl (ev_ex (wantS_yes' rfl rfl hc24) (ex_len' rfl hs0 lenk33)) rfl ?_
    refine DrawG.fl rfl (ev_ex (wantS_yes' rfl rfl hc24) (ex_sub rfl rfl)) rfl ?_
    obtain ⟨x25, hx25, h⟩ := bnd_some h
    obtain ⟨p25, o25, _, hx25, hp25, rfl⟩ := sl_elem (P := Try.prog) (t := 33) (kk := .i64) hs0 hx25 els33
    refine DrawG.fl rfl (ev_ex (wantS_yes' rfl rfl hc24) (ex_elX rfl rfl hx25)) rfl ?_
    have hp26 := (hp25.fld (o := 0) rfl)
    refine DrawG.fl rfl (ev_ex (wantS_yes' rfl rfl hc24) (ex_fieldAddr rfl off73_0)) rfl ?_
    refine DrawG.fl rfl (ev_ex (wantS_yes' rfl rfl hc24) (ex_load1 rfl (hH23.ptrF hp26) rdLe_rfl agg3)) rfl ?_
    refine DrawG.fl rfl (ev_ex (wantS_yes' rfl rfl hc24) (ex_fieldAddr rfl off90_0)) rfl ?_
    refine DrawG.fl rfl (ev_ex (wantS_yes' rfl rfl hc24) (ex_load1 rfl (hH23.cells (i := 0) rfl 0 rfl) rdLe_rfl agg3)) rfl ?_
    refine DrawG.fl rfl (ev_ex (wantS_yes' rfl rfl hc24) (ex_lss rfl rfl)) rfl ?_
    refine DrawG.fl rfl (ev_ex wantS_none (ex_pickF' rfl hc24 rfl rfl)) rfl ?_
    refine DrawG.fl rfl (ev_ex wantS_none (ex_assign rfl)) rfl ?_
    refine DrawG.sync ?_
    refine DrawG.nil ?_
    exact Run.pick [4] (ref08_fits_1_ok F (decide (x25.Time < a1.Live)) _ _ _ (hH23.pick [] rfl rfl) h)

theorem mkk76 : makeK Try.prog 76 = none := by kernel_rfl
theorem cal76 : callable Try.prog 76 = true := by kernel_rfl
abbrev ref08_ready_post (r : Int) : SV → Mem → Prop := fun s _ => s = (.int .i64 r)

def ref08_ready_2 (F : Nat) (v33 : Bool) : Option (Int) :=
  bif v33 then
    some (81 : Int)
  else
    some (0 : Int)

theorem ref08_ready_2_ok (F : Nat) : ∀ (v33 : Bool) (Fr : Rd) (M : Mem) (r : Int) (hH : Has Fr M []), ref08_ready_2 F v33 = some r → Run Try.prog ⟨⟨44, [], none⟩, []⟩ 34 (ref08_ready_post r) [(33, (.bool v33))] [codeC Try.prog 44 [1, 1, 1, 0, 1], codeC Try.prog 44 [1, 1, 1, 1]] M := by
  intro v33 Fr M r hH h
  rw [ref08_ready_2] at h
  rcases btf (v33) with hc37 | hc37
  · have h := bif_t hc37 h
    refine Run.condT' rfl hc37 ?_
    refine Run.seq (Run.region ?_)
    refine Run.opG wantS_none (ex_assign rfl) rfl ?_
    refine Run.opsEnd ?_
    cases h
    exact Run.ret Try.func44 rfl (res_tmp rfl res_nil) rfl
  · have h := bif_f hc37 h
    refine Run.condF' rfl hc37 ?_
    refine Run.skip (Run.seq (Run.region ?_))
    refine Run.opG wantS_none (ex_assign rfl) rfl ?_
    refine Run.opsEnd ?_
    cases h
    exact Run.ret Try.func44 rfl (res_tmp rfl res_nil) rfl

def ref08_ready_1 (F : Nat) (v1 : (List S_api_Trigger)) (v27 : Bool) (c22 : S_ringdownref08_Clock) : Option (Int) :=
  bif v27 then
    ref08_ready_2 F true
  else
    bnd (ref08_fits F v1 c22) fun r39 =>
    ref08_ready_2 F (!r39)

theorem ref08_ready_1_ok (F : Nat) : ∀ (v1 : (List S_api_Trigger)) (v27 : Bool) (c22 : S_ringdownref08_Clock) (sv1 : SV) (b22 : Pos) (Fr : Rd) (M : Mem) (r : Int) (hv1 : Slc Fr 3 (FlatR enc73) sv1 v1) (hH : Has Fr M [.obj b22 (.row 90 .whole [(.int .i64 c22.Live), (.int .i64 c22.Window), (.int .i64 c22.Step)])]), ref08_ready_1 F v1 v27 c22 = some r → Run Try.prog ⟨⟨44, [], none⟩, []⟩ 34 (ref08_ready_post r) [(1, sv1), (5, (.ptr b22 0)), (27, (.bool v27))] [itemC Try.prog 44 [1, 1, 1, 0, 0] 9, codeC Try.prog 44 [1, 1, 1, 0, 1], codeC Try.prog 44 [1, 1, 1, 1]] M := by
  intro v1 v27 c22 sv1 b22 Fr M r hv1 hH h
  rw [ref08_ready_1] at h
  refine Run.opG wantS_none (ex_move rfl) rfl ?_
  rcases btf (v27) with hc36 | hc36
  · have h := bif_t hc36 h
    refine Run.no (wantS_not' rfl rfl hc36) rfl ?_
    refine Run.no (wantS_not' rfl rfl hc36) rfl ?_
    refine Run.no (wantS_not' rfl rfl hc36) rfl ?_
    refine Run.no (wantS_not' rfl rfl hc36) rfl ?_
    refine Run.opG wantS_none (ex_pickT' rfl hc36 rfl rfl) rfl ?_
    refine Run.opsEnd ?_
    exact Run.pick [33] (ref08_ready_2_ok F true _ _ _ (hH.pick [] rfl rfl) h)
  · have h := bif_f hc36 h
    refine Run.opG (wantS_yes' rfl rfl hc36) (ex_move rfl) rfl ?_
    refine Run.opG (wantS_yes' rfl rfl hc36) (ex_loadA rfl (hH.cells (i := 0) rfl 0 rfl) rdLe_rfl agg90 rfl rfl rfl) rfl ?_
    obtain ⟨r39, hr39, h⟩ := bnd_some h
    refine Run.callP (wantS_yes' rfl rfl hc36) (ex_call rfl mkk76 cal76) rfl (ref08_fits_ok F v1 c22 sv1 _ _ (hH.slcF hv1) hr39) ?_
    refine Run.opG (wantS_yes' rfl rfl hc36) (ex_not rfl) rfl ?_
    refine Run.opG wantS_none (ex_pickF' rfl hc36 rfl rfl) rfl ?_
    refine Run.opsEnd ?_
    exact Run.pick [33] (ref08_ready_2_ok F (!r39) _ _ _ (hH.pick [] rfl rfl) h)

def ref08_ready (F : Nat) (a0 a1 : (List S_api_Trigger)) (a2 : S_ringdownref08_Clock) : Option (Int) :=
  bnd (ref08_CheckTriggers F a0) fun r25 =>
  bif (!(r25 == (0 : Int))) then
    some r25
  else
    bnd (ref08_CheckTriggers F a1) fun r29 =>
    bif (!(r29 == (0 : Int))) then
      some r29
    else
      bnd (ref08_clock F a2) fun r33 =>
      bif (!r33) then
        ref08_ready_1 F a1 true a2
      else
        bnd (ref08_fits F a0 a2) fun r42 =>
        ref08_ready_1 F a1 (!r42) a2

theorem ref08_ready_ok (F : Nat) (a0 a1 : (List S_api_Trigger)) (a2 : S_ringdownref08_Clock) (s0 s1 : SV) (r : Int) (M : Mem) (hs0 : Slc (rd M) 3 (FlatR enc73) s0 a0) (hs1 : Slc (rd M) 3 (FlatR enc73) s1 a1) (h : ref08_ready F a0 a1 a2 = some r) : CallsM Try.prog 44 [s0, s1, (.agg [(.int .i64 a2.Live), (.int .i64 a2.Window), (.int .i64 a2.Step)])] M (fun s M' => s = (.int .i64 r) ∧ M' = M) := by
  refine CallsM.plain Try.func44 rfl rfl rfl (show Run _ _ _ (ref08_ready_post r) _ _ _ from ?_)
  rw [ref08_ready] at h
  replace hs0 := hs0.mono (rdLe_frozen M) (fun _ _ h => h)
  replace hs1 := hs1.mono (rdLe_frozen M) (fun _ _ h => h)
  have hH := Has.nil (frozen M)
  refine Run.seq (Run.region ?_)
  refine Run.opX wantS_none rfl (ExG.box rfl rfl hH) ?_
  rintro _ M23 ⟨b22, rfl, hH23⟩
  refine Run.opG wantS_none (ex_assign rfl) rfl ?_
  refine Run.opsEnd (Run.seq (Run.seq (Run.region ?_)))
  refine Run.opG wantS_none (ex_move rfl) rfl ?_
  obtain ⟨r25, hr25, h⟩ := bnd_some h
  refine Run.callP wantS_none (ex_call rfl mkk74 cal74) rfl (ref08_CheckTriggers_ok F a0 s0 _ _ (hH23.slcF hs0) hr25) ?_
  refine Run.opG wantS_none (ex_assign rfl) rfl ?_
  refine Run.opsEnd (Run.seq (Run.region ?_))
  refine Run.opG wantS_none (ex_move rfl) rfl ?_
  refine Run.opG wantS_none (ex_neq rfl rfl) rfl ?_
  refine Run.opsEnd ?_
  rcases btf ((!(r25 == (0 : Int)))) with hc27 | hc27
  · have h := bif_t hc27 h
    refine Run.condT' rfl hc27 ?_
    refine Run.seq (Run.region ?_)
    refine Run.opG wantS_none (ex_move rfl) rfl ?_
    refine Run.opG wantS_none (ex_assign rfl) rfl ?_
    refine Run.opsEnd ?_
    cases h
    exact Run.ret Try.func44 rfl (res_tmp rfl res_nil) rfl
  · have h := bif_f hc27 h
    refine Run.condF' rfl hc27 ?_
    refine Run.skip (Run.seq (Run.seq (Run.region ?_)))
    refine Run.opG wantS_none (ex_move rfl) rfl ?_
    obtain ⟨r29, hr29, h⟩ := bnd_some h
    refine Run.callP wantS_none (ex_call rfl mkk74 cal74) rfl (ref08_CheckTriggers_ok F a1 s1 _ _ (hH23.slcF hs1) hr29) ?_
    refine Run.opG wantS_none (ex_assign rfl) rfl ?_
    refine Run.opsEnd (Run.seq (Run.region ?_))
    refine Run.opG wantS_none (ex_move rfl) rfl ?_
    refine Run.opG wantS_none (ex_neq rfl rfl) rfl ?_
    refine Run.opsEnd ?_
    rcases btf ((!(r29 == (0 : Int)))) with hc31 | hc31
    · have h := bif_t hc31 h
      refine Run.condT' rfl hc31 ?_
      refine Run.seq (Run.region ?_)
      refine Run.opG wantS_none (ex_move rfl) rfl ?_
      refine Run.opG wantS_none (ex_assign rfl) rfl ?_
      refine Run.opsEnd ?_
      cases h
      exact Run.ret Try.func44 rfl (res_tmp rfl res_nil) rfl
    · have h := bif_f hc31 h
      refine Run.condF' rfl hc31 ?_
      refine Run.skip (Run.seq (Run.seq (Run.region ?_)))
      refine Run.opG wantS_none (ex_loadA rfl (hH23.cells (i := 0) rfl 0 rfl) rdLe_rfl agg90 rfl rfl rfl) rfl ?_
      obtain ⟨r33, hr33, h⟩ := bnd_some h
      refine Run.callP wantS_none (ex_call rfl mkk75 cal75) rfl (ref08_clock_ok F a2 _ _ hr33) ?_
      refine Run.opG wantS_none (ex_not rfl) rfl ?_
      refine Run.opG wantS_none (ex_move rfl) rfl ?_
      rcases btf ((!r33)) with hc35 | hc35
      · have h := bif_t hc35 h
        refine Run.no (wantS_not' rfl rfl hc35) rfl ?_
        refine Run.no (wantS_not' rfl rfl hc35) rfl ?_
        refine Run.no (wantS_not' rfl rfl hc35) rfl ?_
        refine Run.no (wantS_not' rfl rfl hc35) rfl ?_
        refine Run.opG wantS_none (ex_pickT' rfl hc35 rfl rfl) rfl ?_
        exact Run.pick [1, 5, 27] (ref08_ready_1_ok F a1 true a2 s1 b22 _ _ _ hs1 hH23 h)
      · have h := bif_f hc35 h
        refine Run.opG (wantS_yes' rfl rfl hc35) (ex_move rfl) rfl ?_
        refine Run.opG (wantS_yes' rfl rfl hc35) (ex_loadA rfl (hH23.cells (i := 0) rfl 0 rfl) rdLe_rfl agg90 rfl rfl rfl) rfl ?_
        obtain ⟨r42, hr42, h⟩ := bnd_some h
        refine Run.callP (wantS_yes' rfl rfl hc35) (ex_call rfl mkk76 cal76) rfl (ref08_fits_ok F a0 a2 s0 _ _ (hH23.slcF hs0) hr42) ?_
        refine Run.opG (wantS_yes' rfl rfl hc35) (ex_not rfl) rfl ?_
        refine Run.opG wantS_none (ex_pickF' rfl hc35 rfl rfl) rfl ?_
        exact Run.pick [1, 5, 27] (ref08_ready_1_ok F a1 (!r42) a2 s1 b22 _ _ _ hs1 hH23 h)

theorem mkk44 : makeK Try.prog 44 = none := by kernel_rfl
theorem cal44 : callable Try.prog 44 = true := by kernel_rfl
def enc40 (a : S_api_Pair) : List SV := [(.int .i64 a.A), (.int .i64 a.B), (.int .i64 a.Loud)]
theorem enc40_len (a : S_api_Pair) : (enc40 a).length = 3 := rfl
theorem enc40_ones (a : S_api_Pair) : ones (enc40 a) = true := rfl
abbrev ref00_Abs_post (r : Int) : SV → Mem → Prop := fun s _ => s = (.int .i64 r)

def ref00_Abs (F : Nat) (a0 : Int) : Option (Int) :=
  bif (decide (a0 < (0 : Int))) then
    some (w64 (-a0))
  else
    some a0

theorem ref00_Abs_ok (F : Nat) (a0 r : Int) (M : Mem) (h : ref00_Abs F a0 = some r) : CallsM Try.prog 103 [(.int .i64 a0)] M (fun s M' => s = (.int .i64 r) ∧ M' = M) := by
  refine CallsM.plain Try.func103 rfl rfl rfl (show Run _ _ _ (ref00_Abs_post r) _ _ _ from ?_)
  rw [ref00_Abs] at h
  have hH := Has.nil (frozen M)
  refine Run.seq (Run.region ?_)
  refine Run.opG wantS_none (ex_assign rfl) rfl ?_
  refine Run.opsEnd (Run.seq (Run.seq (Run.region ?_)))
  refine Run.opG wantS_none (ex_move rfl) rfl ?_
  refine Run.opG wantS_none (ex_lss rfl rfl) rfl ?_
  refine Run.opsEnd ?_
  rcases btf ((decide (a0 < (0 : Int)))) with hc21 | hc21
  · have h := bif_t hc21 h
    refine Run.condT' rfl hc21 ?_
    refine Run.seq (Run.region ?_)
    refine Run.opG wantS_none (ex_move rfl) rfl ?_
    refine Run.opG wantS_none (ex_neg rfl) rfl ?_
    refine Run.opG wantS_none (ex_assign rfl) rfl ?_
    refine Run.opsEnd ?_
    cases h
    exact Run.ret Try.func103 rfl (res_tmp rfl res_nil) rfl
  · have h := bif_f hc21 h
    refine Run.condF' rfl hc21 ?_
    refine Run.skip (Run.seq (Run.region ?_))
    refine Run.opG wantS_none (ex_move rfl) rfl ?_
    refine Run.opG wantS_none (ex_assign rfl) rfl ?_
    refine Run.opsEnd ?_
    cases h
    exact Run.ret Try.func103 rfl (res_tmp rfl res_nil) rfl

theorem mkk103 : makeK Try.prog 103 = none := by kernel_rfl
theorem cal103 : callable Try.prog 103 = true := by kernel_rfl
abbrev ref08_distance_post (r : Int) : SV → Mem → Prop := fun s _ => s = (.int .i64 r)

def ref08_distance (F : Nat) (a0 a1 a2 : Int) : Option (Int) :=
  bnd (ref00_Abs F (w64 (a0 - a1))) fun r22 =>
  some (min r22 (w64 (a2 - r22)))

theorem ref08_distance_ok (F : Nat) (a0 a1 a2 r : Int) (M : Mem) (h : ref08_distance F a0 a1 a2 = some r) : CallsM Try.prog 77 [(.int .i64 a0), (.int .i64 a1), (.int .i64 a2)] M (fun s M' => s = (.int .i64 r) ∧ M' = M) := by
  refine CallsM.plain Try.func77 rfl rfl rfl (show Run _ _ _ (ref08_distance_post r) _ _ _ from ?_)
  rw [ref08_distance] at h
  have hH := Has.nil (frozen M)
  refine Run.seq (Run.region ?_)
  refine Run.opG wantS_none (ex_assign rfl) rfl ?_
  refine Run.opsEnd (Run.seq (Run.region ?_))
  refine Run.opG wantS_none (ex_move rfl) rfl ?_
  refine Run.opG wantS_none (ex_move rfl) rfl ?_
  refine Run.opG wantS_none (ex_sub rfl rfl) rfl ?_
  obtain ⟨r22, hr22, h⟩ := bnd_some h
  refine Run.callP wantS_none (ex_call rfl mkk103 cal103) rfl (ref00_Abs_ok F (w64 (a0 - a1)) _ _ hr22) ?_
  refine Run.opG wantS_none (ex_assign rfl) rfl ?_
  refine Run.opsEnd (Run.seq (Run.region ?_))
  refine Run.opG wantS_none (ex_move rfl) rfl ?_
  refine Run.opG wantS_none (ex_move rfl) rfl ?_
  refine Run.opG wantS_none (ex_move rfl) rfl ?_
  refine Run.opG wantS_none (ex_sub rfl rfl) rfl ?_
  refine Run.opG wantS_none (ex_min rfl rfl) rfl ?_
  refine Run.opG wantS_none (ex_assign rfl) rfl ?_
  refine Run.opsEnd ?_
  cases h
  exact Run.ret Try.func77 rfl (res_tmp rfl res_nil) rfl

theorem mkk77 : makeK Try.prog 77 = none := by kernel_rfl
theorem cal77 : callable Try.prog 77 = true := by kernel_rfl
theorem elt52 : sliceElt Try.prog 52 = some (⟨3, 24, [(.int .i64 0), (.int .i64 0), (.int .i64 0)], 40⟩ : Elt) := by kernel_rfl
theorem appt52_52 : appT Try.prog 52 52 = some (⟨3, 24, [(.int .i64 0), (.int .i64 0), (.int .i64 0)], 40⟩ : Elt) := by kernel_rfl
theorem plan45_1_1_0_1_0_0_1_0_0_1_0_0_1_0_0_1_0 : planOf Try.prog (opsC (atC Try.prog 45 [1, 1, 0, 1, 0, 0, 1, 0, 0, 1, 0, 0, 1, 0, 0, 1, 0])) = some [.fl 0, .fl 1, .fl 2, .fl 3, .fl 4, .fl 5, .fl 6, .fl 7, .fl 8, .fl 9, .fl 10, .fl 11, .fl 12, .fl 13, .fl 14, .an 15 [0], .an 16 [], .an 17 [], .sync] := by kernel_rfl
theorem plan45_1_1_0_1_0_0_1_0_0_1_0_0_1_0_0_0 : planOf Try.prog (opsC (atC Try.prog 45 [1, 1, 0, 1, 0, 0, 1, 0, 0, 1, 0, 0, 1, 0, 0, 0])) = some [.fl 0, .fl 1, .fl 2, .fl 3, .fl 4, .fl 5, .fl 6, .fl 7, .fl 8, .fl 9, .fl 10, .fl 11, .fl 12, .fl 13, .fl 14, .fl 15, .fl 16, .fl 17, .fl 18, .fl 19, .fl 20, .fl 21, .fl 22, .fl 23, .fl 25, .fl 26, .an 24 [26, 25], .fl 27, .fl 28, .sync] := by kernel_rfl
abbrev ref08_coincide_post (r : (List S_api_Pair)) : SV → Mem → Prop := fun s Me => ∃ q1, s = q1 ∧ Has (fun _ => none) Me [.vec 40 3 r.length q1 (r.flatMap enc40)]

def ref08_coincide_4 (F : Nat) (hd2 : (List S_api_Trigger) → (List S_api_Trigger) → Int → Int → S_ringdownref08_Clock → (List S_api_Pair) → Option ((List S_api_Pair))) (v0 v1 : (List S_api_Trigger)) (v8 v9 : Int) (c22 : S_ringdownref08_Clock) (l47 : (List S_api_Pair)) : Option ((List S_api_Pair)) :=
  hd2 v0 v1 v8 (w64 (v9 + (1 : Int))) c22 l47

theorem ref08_coincide_4_ok (F : Nat) (hd2 : (List S_api_Trigger) → (List S_api_Trigger) → Int → Int → S_ringdownref08_Clock → (List S_api_Pair) → Option ((List S_api_Pair))) (hhd2 : ∀ (v0 v1 : (List S_api_Trigger)) (v8 v9 : Int) (c22 : S_ringdownref08_Clock) (l24 : (List S_api_Pair)) (sv0 sv1 : SV) (b22 : Pos) (s24 : SV) (Fr : Rd) (M : Mem) (r : (List S_api_Pair)) (hv0 : Slc Fr 3 (FlatR enc73) sv0 v0) (hv1 : Slc Fr 3 (FlatR enc73) sv1 v1) (hH : Has Fr M [.obj b22 (.row 90 .whole [(.int .i64 c22.Live), (.int .i64 c22.Window), (.int .i64 c22.Step)]), .vec 40 3 l24.length s24 (l24.flatMap enc40)]), hd2 v0 v1 v8 v9 c22 l24 = some r → Run Try.prog ⟨⟨45, [], none⟩, []⟩ 69 (ref08_coincide_post r) [(0, sv0), (1, sv1), (5, (.ptr b22 0)), (7, s24), (8, (.int .i64 v8)), (9, (.int .i64 v9))] [codeC Try.prog 45 [1, 1, 0, 1, 0, 0, 1, 0, 0, 1, 0, 0], loopC Try.prog 45 [1, 1, 0, 1, 0, 0, 1, 0, 0, 1, 0, 0], .inBlock 2, .inBlock 1, codeC Try.prog 45 [1, 1, 0, 1, 0, 0, 1, 1], loopC Try.prog 45 [1, 1, 0, 1, 0, 0], .inBlock 0, codeC Try.prog 45 [1, 1, 1]] M) : ∀ (v0 v1 : (List S_api_Trigger)) (v8 v9 : Int) (c22 : S_ringdownref08_Clock) (l47 : (List S_api_Pair)) (sv0 sv1 : SV) (b22 : Pos) (s47 : SV) (Fr : Rd) (M : Mem) (r : (List S_api_Pair)) (hv0 : Slc Fr 3 (FlatR enc73) sv0 v0) (hv1 : Slc Fr 3 (FlatR enc73) sv1 v1) (hH : Has Fr M [.obj b22 (.row 90 .whole [(.int .i64 c22.Live), (.int .i64 c22.Window), (.int .i64 c22.Step)]), .vec 40 3 l47.length s47 (l47.flatMap enc40)]), ref08_coincide_4 F hd2 v0 v1 v8 v9 c22 l47 = some r → Run Try.prog ⟨⟨45, [], none⟩, []⟩ 69 (ref08_coincide_post r) [(0, sv0), (1, sv1), (5, (.ptr b22 0)), (7, s47), (8, (.int .i64 v8)), (9, (.int .i64 v9))] [itemC Try.prog 45 [1, 1, 0, 1, 0, 0, 1, 0, 0, 1, 0, 0, 1, 1] 0, loopC Try.prog 45 [1, 1, 0, 1, 0, 0, 1, 0, 0, 1, 0, 0], .inBlock 2, .inBlock 1, codeC Try.prog 45 [1, 1, 0, 1, 0, 0, 1, 1], loopC Try.prog 45 [1, 1, 0, 1, 0, 0], .inBlock 0, codeC Try.prog 45 [1, 1, 1]] M := by
  intro v0 v1 v8 v9 c22 l47 sv0 sv1 b22 s47 Fr M r hv0 hv1 hH h
  rw [ref08_coincide_4] at h
  refine Run.opG wantS_none (ex_move rfl) rfl ?_
  refine Run.opG wantS_none (ex_add rfl rfl) rfl ?_
  refine Run.opG wantS_none (ex_assign rfl) rfl ?_
  refine Run.opsEnd (Run.inLoop ?_)
  exact Run.pick [0, 1, 5, 7, 8, 9] (hhd2 v0 v1 v8 (w64 (v9 + (1 : Int))) c22 l47 sv0 sv1 b22 s47 _ _ _ hv0 hv1 hH h)

def ref08_coincide_3 (F : Nat) (hd2 : (List S_api_Trigger) → (List S_api_Trigger) → Int → Int → S_ringdownref08_Clock → (List S_api_Pair) → Option ((List S_api_Pair))) (v0 v1 : (List S_api_Trigger)) (v8 v9 : Int) (v50 : Bool) (c22 : S_ringdownref08_Clock) (l24 : (List S_api_Pair)) : Option ((List S_api_Pair)) :=
  bif v50 then
    bnd (idx v0 v8) fun x40 =>
    bnd (idx v1 v9) fun x42 =>
    bnd (apd 24 l24 ([(S_api_Pair.mk v8 v9 (w64 (x40.Loud + x42.Loud)))] : List S_api_Pair)) fun l46 =>
    ref08_coincide_4 F hd2 v0 v1 v8 v9 c22 l46
  else
    ref08_coincide_4 F hd2 v0 v1 v8 v9 c22 l24

theorem ref08_coincide_3_ok (F : Nat) (hd2 : (List S_api_Trigger) → (List S_api_Trigger) → Int → Int → S_ringdownref08_Clock → (List S_api_Pair) → Option ((List S_api_Pair))) (hhd2 : ∀ (v0 v1 : (List S_api_Trigger)) (v8 v9 : Int) (c22 : S_ringdownref08_Clock) (l24 : (List S_api_Pair)) (sv0 sv1 : SV) (b22 : Pos) (s24 : SV) (Fr : Rd) (M : Mem) (r : (List S_api_Pair)) (hv0 : Slc Fr 3 (FlatR enc73) sv0 v0) (hv1 : Slc Fr 3 (FlatR enc73) sv1 v1) (hH : Has Fr M [.obj b22 (.row 90 .whole [(.int .i64 c22.Live), (.int .i64 c22.Window), (.int .i64 c22.Step)]), .vec 40 3 l24.length s24 (l24.flatMap enc40)]), hd2 v0 v1 v8 v9 c22 l24 = some r → Run Try.prog ⟨⟨45, [], none⟩, []⟩ 69 (ref08_coincide_post r) [(0, sv0), (1, sv1), (5, (.ptr b22 0)), (7, s24), (8, (.int .i64 v8)), (9, (.int .i64 v9))] [codeC Try.prog 45 [1, 1, 0, 1, 0, 0, 1, 0, 0, 1, 0, 0], loopC Try.prog 45 [1, 1, 0, 1, 0, 0, 1, 0, 0, 1, 0, 0], .inBlock 2, .inBlock 1, codeC Try.prog 45 [1, 1, 0, 1, 0, 0, 1, 1], loopC Try.prog 45 [1, 1, 0, 1, 0, 0], .inBlock 0, codeC Try.prog 45 [1, 1, 1]] M) : ∀ (v0 v1 : (List S_api_Trigger)) (v8 v9 : Int) (v50 : Bool) (c22 : S_ringdownref08_Clock) (l24 : (List S_api_Pair)) (sv0 sv1 : SV) (b22 : Pos) (s24 : SV) (Fr : Rd) (M : Mem) (r : (List S_api_Pair)) (hv0 : Slc Fr 3 (FlatR enc73) sv0 v0) (hv1 : Slc Fr 3 (FlatR enc73) sv1 v1) (hH : Has Fr M [.obj b22 (.row 90 .whole [(.int .i64 c22.Live), (.int .i64 c22.Window), (.int .i64 c22.Step)]), .vec 40 3 l24.length s24 (l24.flatMap enc40)]), ref08_coincide_3 F hd2 v0 v1 v8 v9 v50 c22 l24 = some r → Run Try.prog ⟨⟨45, [], none⟩, []⟩ 69 (ref08_coincide_post r) [(0, sv0), (1, sv1), (5, (.ptr b22 0)), (7, s24), (8, (.int .i64 v8)), (9, (.int .i64 v9)), (50, (.bool v50))] [codeC Try.prog 45 [1, 1, 0, 1, 0, 0, 1, 0, 0, 1, 0, 0, 1, 0, 0, 1], .inBlock 3, codeC Try.prog 45 [1, 1, 0, 1, 0, 0, 1, 0, 0, 1, 0, 0, 1, 1], loopC Try.prog 45 [1, 1, 0, 1, 0, 0, 1, 0, 0, 1, 0, 0], .inBlock 2, .inBlock 1, codeC Try.prog 45 [1, 1, 0, 1, 0, 0, 1, 1], loopC Try.prog 45 [1, 1, 0, 1, 0, 0], .inBlock 0, codeC Try.prog 45 [1, 1, 1]] M := by
  intro v0 v1 v8 v9 v50 c22 l24 sv0 sv1 b22 s24 Fr M r hv0 hv1 hH h
  rw [ref08_coincide_3] at h
  rcases btf (v50) with hc39 | hc39
  · have h := bif_t hc39 h
    refine Run.condT' rfl hc39 ?_
    refine Run.drawG plan45_1_1_0_1_0_0_1_0_0_1_0_0_1_0_0_1_0 ?_
    refine DrawG.fl rfl (ev_ex wantS_none (ex_move rfl)) rfl ?_
    refine DrawG.fl rfl (ev_ex wantS_none (ex_move rfl)) rfl ?_
    refine DrawG.fl rfl (ev_ex wantS_none (ex_move rfl)) rfl ?_
    refine DrawG.fl rfl (ev_ex wantS_none (ex_move rfl)) rfl ?_
    refine DrawG.fl rfl (ev_ex wantS_none (ex_move rfl)) rfl ?_
    obtain ⟨x40, hx40, h⟩ := bnd_some h
    obtain ⟨p40, o40, _, hx40, hp40, rfl⟩ := sl_elem (P := Try.prog) (t := 33) (kk := .i64) hv0 hx40 els33
    refine DrawG.fl rfl (ev_ex wantS_none (ex_elX rfl rfl hx40)) rfl ?_
    have hp41 := (hp40.fld (o := 1) rfl)
    refine DrawG.fl rfl (ev_ex wantS_none (ex_fieldAddr rfl off73_1)) rfl ?_
    refine DrawG.fl rfl (ev_ex wantS_none (ex_load1 rfl (hH.ptrF hp41) rdLe_rfl agg3)) rfl ?_
    refine DrawG.fl rfl (ev_ex wantS_none (ex_move rfl)) rfl ?_
    refine DrawG.fl rfl (ev_ex wantS_none (ex_move rfl)) rfl ?_
    obtain ⟨x42, hx42, h⟩ := bnd_some h
    obtain ⟨p42, o42, _, hx42, hp42, rfl⟩ := sl_elem (P := Try.prog) (t := 33) (kk := .i64) hv1 hx42 els33
    refine DrawG.fl rfl (ev_ex wantS_none (ex_elX rfl rfl hx42)) rfl ?_
    have hp43 := (hp42.fld (o := 1) rfl)
    refine DrawG.fl rfl (ev_ex wantS_none (ex_fieldAddr rfl off73_1)) rfl ?_
    refine DrawG.fl rfl (ev_ex wantS_none (ex_load1 rfl (hH.ptrF hp43) rdLe_rfl agg3)) rfl ?_
    refine DrawG.fl rfl (ev_ex wantS_none (ex_add rfl rfl)) rfl ?_
    refine DrawG.fl rfl (ev_ex wantS_none (ex_build (r := [(.int .i64 v8), (.int .i64 v9), (.int .i64 (w64 (x40.Loud + x42.Loud)))]) rfl zer40 pls40 rfl)) rfl ?_
    refine DrawG.opX rfl wantS_none rfl (ExG.built (enc := enc40) (l := ([(S_api_Pair.mk v8 v9 (w64 (x40.Loud + x42.Loud)))] : List S_api_Pair)) (z := 3) rfl elt52 rfl rfl rfl enc40_len hH) ?_
    rintro s44 M45 (hH45 : Has Fr M45 [.vec 40 3 ([(S_api_Pair.mk v8 v9 (w64 (x40.Loud + x42.Loud)))] : List S_api_Pair).length s44 (([(S_api_Pair.mk v8 v9 (w64 (x40.Loud + x42.Loud)))] : List S_api_Pair).flatMap enc40), .obj b22 (.row 90 .whole [(.int .i64 c22.Live), (.int .i64 c22.Window), (.int .i64 c22.Step)]), .vec 40 3 l24.length s24 (l24.flatMap enc40)])
    refine ⟨(st_cons rfl (ev_ex wantS_none (ex_move rfl)) rfl rfl (blk_self hH45 (i := 2) rfl) st_nil), ?_⟩
    obtain ⟨l46, hl46, h⟩ := bnd_some h
    refine DrawG.opX rfl wantS_none rfl (ExG.append rfl rfl hH45 (i := 2) rfl enc40_len rfl enc40_ones appt52_52 rfl (len_slc (hH45.slc (i := 0) rfl enc40_len)) (first_slc (hH45.slc (i := 0) rfl enc40_len) (rdLe_rdRow _) enc40_len) hl46) ?_
    rintro s46 M48 (hH48 : Has Fr M48 [.vec 40 3 ([(S_api_Pair.mk v8 v9 (w64 (x40.Loud + x42.Loud)))] : List S_api_Pair).length s44 (([(S_api_Pair.mk v8 v9 (w64 (x40.Loud + x42.Loud)))] : List S_api_Pair).flatMap enc40), .obj b22 (.row 90 .whole [(.int .i64 c22.Live), (.int .i64 c22.Window), (.int .i64 c22.Step)]), .vec 40 3 l46.length s46 (l46.flatMap enc40)])
    refine ⟨st_nil, ?_⟩
    refine DrawG.val rfl wantS_none (ex_assign rfl) rfl st_nil ?_
    refine DrawG.sync ?_
    refine DrawG.nil ?_
    refine Run.inBlock (Run.region ?_)
    exact Run.pick [0, 1, 5, 7, 8, 9] (ref08_coincide_4_ok F hd2 hhd2 v0 v1 v8 v9 c22 l46 sv0 sv1 b22 s46 _ _ _ hv0 hv1 (hH48.pick [1, 2] rfl rfl) h)
  · have h := bif_f hc39 h
    refine Run.condF' rfl hc39 ?_
    refine Run.skip (Run.inBlock (Run.region ?_))
    exact Run.pick [0, 1, 5, 7, 8, 9] (ref08_coincide_4_ok F hd2 hhd2 v0 v1 v8 v9 c22 l24 sv0 sv1 b22 s24 _ _ _ hv0 hv1 hH h)

def ref08_coincide_2 (F : Nat) (hd1 : (List S_api_Trigger) → (List S_api_Trigger) → Int → S_ringdownref08_Clock → (List S_api_Pair) → Option ((List S_api_Pair))) : Nat → (List S_api_Trigger) → (List S_api_Trigger) → Int → Int → S_ringdownref08_Clock → (List S_api_Pair) → Option ((List S_api_Pair))
  | 0, _, _, _, _, _, _ => none
  | N + 1, v0, v1, v8, v9, c22, l24 =>
    bif (decide (v9 < (v1.length : Int))) then
      bnd (idx v0 v8) fun x28 =>
      bnd (idx v1 v9) fun x30 =>
      bif (x28.Template == x30.Template) then
        bnd (idx v0 v8) fun x33 =>
        bnd (idx v1 v9) fun x35 =>
        bnd (ref08_distance F x33.Time x35.Time c22.Live) fun r37 =>
        ref08_coincide_3 F (ref08_coincide_2 F hd1 N) v0 v1 v8 v9 (decide (r37 ≤ c22.Window)) c22 l24
      else
        ref08_coincide_3 F (ref08_coincide_2 F hd1 N) v0 v1 v8 v9 false c22 l24
    else
      hd1 v0 v1 (w64 (v8 + (1 : Int))) c22 l24

theorem ref08_coincide_2_ok (F : Nat) (hd1 : (List S_api_Trigger) → (List S_api_Trigger) → Int → S_ringdownref08_Clock → (List S_api_Pair) → Option ((List S_api_Pair))) (hhd1 : ∀ (v0 v1 : (List S_api_Trigger)) (v8 : Int) (c22 : S_ringdownref08_Clock) (l24 : (List S_api_Pair)) (sv0 sv1 : SV) (b22 : Pos) (s24 : SV) (Fr : Rd) (M : Mem) (r : (List S_api_Pair)) (hv0 : Slc Fr 3 (FlatR enc73) sv0 v0) (hv1 : Slc Fr 3 (FlatR enc73) sv1 v1) (hH : Has Fr M [.obj b22 (.row 90 .whole [(.int .i64 c22.Live), (.int .i64 c22.Window), (.int .i64 c22.Step)]), .vec 40 3 l24.length s24 (l24.flatMap enc40)]), hd1 v0 v1 v8 c22 l24 = some r → Run Try.prog ⟨⟨45, [], none⟩, []⟩ 69 (ref08_coincide_post r) [(0, sv0), (1, sv1), (5, (.ptr b22 0)), (7, s24), (8, (.int .i64 v8))] [codeC Try.prog 45 [1, 1, 0, 1, 0, 0], loopC Try.prog 45 [1, 1, 0, 1, 0, 0], .inBlock 0, codeC Try.prog 45 [1, 1, 1]] M) : ∀ (N : Nat), ∀ (v0 v1 : (List S_api_Trigger)) (v8 v9 : Int) (c22 : S_ringdownref08_Clock) (l24 : (List S_api_Pair)) (sv0 sv1 : SV) (b22 : Pos) (s24 : SV) (Fr : Rd) (M : Mem) (r : (List S_api_Pair)) (hv0 : Slc Fr 3 (FlatR enc73) sv0 v0) (hv1 : Slc Fr 3 (FlatR enc73) sv1 v1) (hH : Has Fr M [.obj b22 (.row 90 .whole [(.int .i64 c22.Live), (.int .i64 c22.Window), (.int .i64 c22.Step)]), .vec 40 3 l24.length s24 (l24.flatMap enc40)]), ref08_coincide_2 F hd1 N v0 v1 v8 v9 c22 l24 = some r → Run Try.prog ⟨⟨45, [], none⟩, []⟩ 69 (ref08_coincide_post r) [(0, sv0), (1, sv1), (5, (.ptr b22 0)), (7, s24), (8, (.int .i64 v8)), (9, (.int .i64 v9))] [codeC Try.prog 45 [1, 1, 0, 1, 0, 0, 1, 0, 0, 1, 0, 0], loopC Try.prog 45 [1, 1, 0, 1, 0, 0, 1, 0, 0, 1, 0, 0], .inBlock 2, .inBlock 1, codeC Try.prog 45 [1, 1, 0, 1, 0, 0, 1, 1], loopC Try.prog 45 [1, 1, 0, 1, 0, 0], .inBlock 0, codeC Try.prog 45 [1, 1, 1]] M := by
  intro N
  induction N with
  | zero =>
    intro v0 v1 v8 v9 c22 l24 sv0 sv1 b22 s24 Fr M r hv0 hv1 hH h
    simp [ref08_coincide_2] at h
  | succ N ih =>
    intro v0 v1 v8 v9 c22 l24 sv0 sv1 b22 s24 Fr M r hv0 hv1 hH h
    rw [ref08_coincide_2] at h
    refine Run.seq (Run.seq (Run.region ?_))
    refine Run.opG wantS_none (ex_move rfl) rfl ?_
    refine Run.opG wantS_none (ex_move rfl) rfl ?_
    refine Run.opG wantS_none (ex_len' rfl hv1 lenk33) rfl ?_
    refine Run.opG wantS_none (ex_lss rfl rfl) rfl ?_
    refine Run.opsEnd ?_
    rcases btf ((decide (v9 < (v1.length : Int)))) with hc27 | hc27
    · have h := bif_t hc27 h
      refine Run.condT' rfl hc27 ?_
      refine Run.skip (Run.seq (Run.block (Run.seq ?_)))
      refine Run.drawG plan45_1_1_0_1_0_0_1_0_0_1_0_0_1_0_0_0 ?_
      refine DrawG.fl rfl (ev_ex wantS_none (ex_move rfl)) rfl ?_
      refine DrawG.fl rfl (ev_ex wantS_none (ex_move rfl)) rfl ?_
      obtain ⟨x28, hx28, h⟩ := bnd_some h
      obtain ⟨p28, o28, _, hx28, hp28, rfl⟩ := sl_elem (P := Try.prog) (t := 33) (kk := .i64) hv0 hx28 els33
      refine DrawG.fl rfl (ev_ex wantS_none (ex_elX rfl rfl hx28)) rfl ?_
      have hp29 := (hp28.fld (o := 2) rfl)
      refine DrawG.fl rfl (ev_ex wantS_none (ex_fieldAddr rfl off73_2)) rfl ?_
      refine DrawG.fl rfl (ev_ex wantS_none (ex_load1 rfl (hH.ptrF hp29) rdLe_rfl agg3)) rfl ?_
      refine DrawG.fl rfl (ev_ex wantS_none (ex_move rfl)) rfl ?_
      refine DrawG.fl rfl (ev_ex wantS_none (ex_move rfl)) rfl ?_
      obtain ⟨x30, hx30, h⟩ := bnd_some h
      obtain ⟨p30, o30, _, hx30, hp30, rfl⟩ := sl_elem (P := Try.prog) (t := 33) (kk := .i64) hv1 hx30 els33
      refine DrawG.fl rfl (ev_ex wantS_none (ex_elX rfl rfl hx30)) rfl ?_
      have hp31 := (hp30.fld (o := 2) rfl)
      refine DrawG.fl rfl (ev_ex wantS_none (ex_fieldAddr rfl off73_2)) rfl ?_
      refine DrawG.fl rfl (ev_ex wantS_none (ex_load1 rfl (hH.ptrF hp31) rdLe_rfl agg3)) rfl ?_
      refine DrawG.fl rfl (ev_ex wantS_none (ex_eql rfl rfl)) rfl ?_
      refine DrawG.fl rfl (ev_ex wantS_none (ex_move rfl)) rfl ?_
      rcases btf ((x28.Template == x30.Template)) with hc32 | hc32
      · have h := bif_t hc32 h
        refine DrawG.fl rfl (ev_ex (wantS_yes' rfl rfl hc32) (ex_move rfl)) rfl ?_
        refine DrawG.fl rfl (ev_ex (wantS_yes' rfl rfl hc32) (ex_move rfl)) rfl ?_
        obtain ⟨x33, hx33, h⟩ := bnd_some h
        obtain ⟨p33, o33, _, hx33, hp33, rfl⟩ := sl_elem (P := Try.prog) (t := 33) (kk := .i64) hv0 hx33 els33
        refine DrawG.fl rfl (ev_ex (wantS_yes' rfl rfl hc32) (ex_elX rfl rfl hx33)) rfl ?_
        have hp34 := (hp33.fld (o := 0) rfl)
        refine DrawG.fl rfl (ev_ex (wantS_yes' rfl rfl hc32) (ex_fieldAddr rfl off73_0)) rfl ?_
        refine DrawG.fl rfl (ev_ex (wantS_yes' rfl rfl hc32) (ex_load1 rfl (hH.ptrF hp34) rdLe_rfl agg3)) rfl ?_
        refine DrawG.fl rfl (ev_ex (wantS_yes' rfl rfl hc32) (ex_move rfl)) rfl ?_
        refine DrawG.fl rfl (ev_ex (wantS_yes' rfl rfl hc32) (ex_move rfl)) rfl ?_
        obtain ⟨x35, hx35, h⟩ := bnd_some h
        obtain ⟨p35, o35, _, hx35, hp35, rfl⟩ := sl_elem (P := Try.prog) (t := 33) (kk := .i64) hv1 hx35 els33
        refine DrawG.fl rfl (ev_ex (wantS_yes' rfl rfl hc32) (ex_elX rfl rfl hx35)) rfl ?_
        have hp36 := (hp35.fld (o := 0) rfl)
        refine DrawG.fl rfl (ev_ex (wantS_yes' rfl rfl hc32) (ex_fieldAddr rfl off73_0)) rfl ?_
        refine DrawG.fl rfl (ev_ex (wantS_yes' rfl rfl hc32) (ex_load1 rfl (hH.ptrF hp36) rdLe_rfl agg3)) rfl ?_
        refine DrawG.fl rfl (ev_ex (wantS_yes' rfl rfl hc32) (ex_fieldAddr rfl off90_0)) rfl ?_
        refine DrawG.fl rfl (ev_ex (wantS_yes' rfl rfl hc32) (ex_load1 rfl (hH.cells (i := 0) rfl 0 rfl) rdLe_rfl agg3)) rfl ?_
        refine DrawG.fl rfl (ev_ex (wantS_yes' rfl rfl hc32) (ex_fieldAddr rfl off90_1)) rfl ?_
        refine DrawG.fl rfl (ev_ex (wantS_yes' rfl rfl hc32) (ex_load1 rfl (hH.cells (i := 0) rfl 1 rfl) rdLe_rfl agg3)) rfl ?_
        obtain ⟨r37, hr37, h⟩ := bnd_some h
        refine DrawG.callP rfl (wantS_yes' rfl rfl hc32) (ex_call rfl mkk77 cal77) rfl (ref08_distance_ok F x33.Time x35.Time c22.Live _ _ hr37) (st_cons rfl (ev_ex (wantS_yes' rfl rfl hc32) (ex_load1 rfl (hH.cells (i := 0) rfl 1 rfl) rdLe_rfl agg3)) rfl rfl rfl (st_cons rfl (ev_ex (wantS_yes' rfl rfl hc32) (ex_fieldAddr rfl off90_1)) rfl rfl rfl st_nil)) ?_
        refine DrawG.fl rfl (ev_ex (wantS_yes' rfl rfl hc32) (ex_leq rfl rfl)) rfl ?_
        refine DrawG.fl rfl (ev_ex wantS_none (ex_pickT' rfl hc32 rfl rfl)) rfl ?_
        refine DrawG.sync ?_
        refine DrawG.nil ?_
        exact Run.pick [0, 1, 5, 7, 8, 9, 50] (ref08_coincide_3_ok F (ref08_coincide_2 F hd1 N) ih v0 v1 v8 v9 (decide (r37 ≤ c22.Window)) c22 l24 sv0 sv1 b22 s24 _ _ _ hv0 hv1 hH h)
      · have h := bif_f hc32 h
        refine DrawG.fl rfl (ev_no (wantS_not' rfl rfl hc32)) rfl ?_
        refine DrawG.fl rfl (ev_no (wantS_not' rfl rfl hc32)) rfl ?_
        refine DrawG.fl rfl (ev_no (wantS_not' rfl rfl hc32)) rfl ?_
        refine DrawG.fl rfl (ev_no (wantS_not' rfl rfl hc32)) rfl ?_
        refine DrawG.fl rfl (ev_no (wantS_not' rfl rfl hc32)) rfl ?_
        refine DrawG.fl rfl (ev_no (wantS_not' rfl rfl hc32)) rfl ?_
        refine DrawG.fl rfl (ev_no (wantS_not' rfl rfl hc32)) rfl ?_
        refine DrawG.fl rfl (ev_no (wantS_not' rfl rfl hc32)) rfl ?_
        refine DrawG.fl rfl (ev_no (wantS_not' rfl rfl hc32)) rfl ?_
        refine DrawG.fl rfl (ev_no (wantS_not' rfl rfl hc32)) rfl ?_
        refine DrawG.fl rfl (ev_no (wantS_not' rfl rfl hc32)) rfl ?_
        refine DrawG.fl rfl (ev_no (wantS_not' rfl rfl hc32)) rfl ?_
        refine DrawG.fl rfl (ev_no (wantS_not' rfl rfl hc32)) rfl ?_
        refine DrawG.fl rfl (ev_no (wantS_not' rfl rfl hc32)) rfl ?_
        refine DrawG.no rfl (wantS_not' rfl rfl hc32) rfl (st_cons rfl (ev_no (wantS_not' rfl rfl hc32)) rfl rfl rfl (st_cons rfl (ev_no (wantS_not' rfl rfl hc32)) rfl rfl rfl st_nil)) ?_
        refine DrawG.fl rfl (ev_no (wantS_not' rfl rfl hc32)) rfl ?_
        refine DrawG.fl rfl (ev_ex wantS_none (ex_pickF' rfl hc32 rfl rfl)) rfl ?_
        refine DrawG.sync ?_
        refine DrawG.nil ?_
        exact Run.pick [0, 1, 5, 7, 8, 9, 50] (ref08_coincide_3_ok F (ref08_coincide_2 F hd1 N) ih v0 v1 v8 v9 false c22 l24 sv0 sv1 b22 s24 _ _ _ hv0 hv1 hH h)
    · have h := bif_f hc27 h
      refine Run.condF' rfl hc27 ?_
      refine Run.exit rfl (Run.inBlock (Run.region ?_))
      refine Run.opG wantS_none (ex_move rfl) rfl ?_
      refine Run.opG wantS_none (ex_add rfl rfl) rfl ?_
      refine Run.opG wantS_none (ex_assign rfl) rfl ?_
      refine Run.opsEnd (Run.inLoop ?_)
      exact Run.pick [0, 1, 5, 7, 8] (hhd1 v0 v1 (w64 (v8 + (1 : Int))) c22 l24 sv0 sv1 b22 s24 _ _ _ hv0 hv1 hH h)

def ref08_coincide_1 (F : Nat) : Nat → (List S_api_Trigger) → (List S_api_Trigger) → Int → S_ringdownref08_Clock → (List S_api_Pair) → Option ((List S_api_Pair))
  | 0, _, _, _, _, _ => none
  | N + 1, v0, v1, v8, c22, l24 =>
    bif (decide (v8 < (v0.length : Int))) then
      ref08_coincide_2 F (ref08_coincide_1 F N) F v0 v1 v8 (0 : Int) c22 l24
    else
      some l24

theorem ref08_coincide_1_ok (F : Nat) : ∀ (N : Nat), ∀ (v0 v1 : (List S_api_Trigger)) (v8 : Int) (c22 : S_ringdownref08_Clock) (l24 : (List S_api_Pair)) (sv0 sv1 : SV) (b22 : Pos) (s24 : SV) (Fr : Rd) (M : Mem) (r : (List S_api_Pair)) (hv0 : Slc Fr 3 (FlatR enc73) sv0 v0) (hv1 : Slc Fr 3 (FlatR enc73) sv1 v1) (hH : Has Fr M [.obj b22 (.row 90 .whole [(.int .i64 c22.Live), (.int .i64 c22.Window), (.int .i64 c22.Step)]), .vec 40 3 l24.length s24 (l24.flatMap enc40)]), ref08_coincide_1 F N v0 v1 v8 c22 l24 = some r → Run Try.prog ⟨⟨45, [], none⟩, []⟩ 69 (ref08_coincide_post r) [(0, sv0), (1, sv1), (5, (.ptr b22 0)), (7, s24), (8, (.int .i64 v8))] [codeC Try.prog 45 [1, 1, 0, 1, 0, 0], loopC Try.prog 45 [1, 1, 0, 1, 0, 0], .inBlock 0, codeC Try.prog 45 [1, 1, 1]] M := by
  intro N
  induction N with
  | zero =>
    intro v0 v1 v8 c22 l24 sv0 sv1 b22 s24 Fr M r hv0 hv1 hH h
    simp [ref08_coincide_1] at h
  | succ N ih =>
    intro v0 v1 v8 c22 l24 sv0 sv1 b22 s24 Fr M r hv0 hv1 hH h
    rw [ref08_coincide_1] at h
    refine Run.seq (Run.seq (Run.region ?_))
    refine Run.opG wantS_none (ex_move rfl) rfl ?_
    refine Run.opG wantS_none (ex_move rfl) rfl ?_
    refine Run.opG wantS_none (ex_len' rfl hv0 lenk33) rfl ?_
    refine Run.opG wantS_none (ex_lss rfl rfl) rfl ?_
    refine Run.opsEnd ?_
    rcases btf ((decide (v8 < (v0.length : Int)))) with hc26 | hc26
    · have h := bif_t hc26 h
      refine Run.condT' rfl hc26 ?_
      refine Run.skip (Run.seq (Run.block (Run.seq (Run.region ?_))))
      refine Run.opG wantS_none (ex_assign rfl) rfl ?_
      refine Run.opsEnd (Run.block (Run.loop ?_))
      exact Run.pick [0, 1, 5, 7, 8, 9] (ref08_coincide_2_ok F (ref08_coincide_1 F N) ih F v0 v1 v8 (0 : Int) c22 l24 sv0 sv1 b22 s24 _ _ _ hv0 hv1 hH h)
    · have h := bif_f hc26 h
      refine Run.condF' rfl hc26 ?_
      refine Run.exit rfl (Run.seq (Run.region ?_))
      refine Run.opG wantS_none (ex_move rfl) rfl ?_
      refine Run.opG wantS_none (ex_assign rfl) rfl ?_
      refine Run.opsEnd ?_
      cases h
      exact Run.ret Try.func45 rfl (res_tmp rfl res_nil) ⟨_, rfl, (hH.pick [1] rfl rfl).upF (none_le _)⟩

def ref08_coincide (F : Nat) (a0 a1 : (List S_api_Trigger)) (a2 : S_ringdownref08_Clock) : Option ((List S_api_Pair)) :=
  ref08_coincide_1 F F a0 a1 (0 : Int) a2 ([] : List S_api_Pair)

theorem ref08_coincide_ok (F : Nat) (a0 a1 : (List S_api_Trigger)) (a2 : S_ringdownref08_Clock) (s0 s1 : SV) (r : (List S_api_Pair)) (M : Mem) (hs0 : Slc (rd M) 3 (FlatR enc73) s0 a0) (hs1 : Slc (rd M) 3 (FlatR enc73) s1 a1) (h : ref08_coincide F a0 a1 a2 = some r) : CallsM Try.prog 45 [s0, s1, (.agg [(.int .i64 a2.Live), (.int .i64 a2.Window), (.int .i64 a2.Step)])] M (fun s M' => ∃ q1, s = q1 ∧ New M M' [.vec 40 3 r.length q1 (r.flatMap enc40)]) := by
  refine CallsM.fresh (Q := ref08_coincide_post r) Try.func45 rfl rfl ?_ (by rintro s Me ⟨q1, rfl, hx⟩ ha hw; exact ⟨_, rfl, New.of rfl hx ha hw⟩)
  rw [ref08_coincide] at h
  replace hs0 := hs0.mono (rdLe_frozen M) (fun _ _ h => h)
  replace hs1 := hs1.mono (rdLe_frozen M) (fun _ _ h => h)
  have hH := Has.nil (frozen M)
  refine Run.seq (Run.region ?_)
  refine Run.opX wantS_none rfl (ExG.box rfl rfl hH) ?_
  rintro _ M23 ⟨b22, rfl, hH23⟩
  refine Run.opG wantS_none (ex_assign rfl) rfl ?_
  refine Run.opsEnd (Run.seq (Run.region ?_))
  refine Run.opG wantS_none (ex_assign rfl) rfl ?_
  refine Run.opsEnd (Run.seq (Run.seq (Run.region ?_)))
  refine Run.opG wantS_none (ex_assign rfl) rfl ?_
  refine Run.opsEnd (Run.block (Run.loop ?_))
  have hH25 : Has (ro (frozen M)) M23 [.vec 40 3 ([] : List S_api_Pair).length .nils (([] : List S_api_Pair).flatMap enc40), .obj b22 (.row 90 .whole [(.int .i64 a2.Live), (.int .i64 a2.Window), (.int .i64 a2.Step)])] := hH23.nils 40 3
  exact Run.pick [0, 1, 5, 7, 8] (ref08_coincide_1_ok F F a0 a1 (0 : Int) a2 ([] : List S_api_Pair) s0 s1 b22 .nils _ _ _ hs0 hs1 (hH25.pick [1, 0] rfl rfl) h)

theorem mkk45 : makeK Try.prog 45 = none := by kernel_rfl
theorem cal45 : callable Try.prog 45 = true := by kernel_rfl
abbrev ref08_slid_post (r : (List S_api_Trigger)) : SV → Mem → Prop := fun s Me => ∃ q1, s = q1 ∧ Has (fun _ => none) Me [.vec 73 3 r.length q1 (r.flatMap enc73)]

def ref08_slid_2 (F : Nat) (hd1 : (List S_api_Trigger) → Int → Int → Int → (List S_api_Trigger) → (List S_api_Trigger) → Option ((List S_api_Trigger))) (v0 : (List S_api_Trigger)) (v1 v2 v9 : Int) (l46 l23 : (List S_api_Trigger)) : Option ((List S_api_Trigger)) :=
  hd1 v0 v1 v2 (w64 (v9 + (1 : Int))) l46 l23

theorem ref08_slid_2_ok (F : Nat) (hd1 : (List S_api_Trigger) → Int → Int → Int → (List S_api_Trigger) → (List S_api_Trigger) → Option ((List S_api_Trigger))) (hhd1 : ∀ (v0 : (List S_api_Trigger)) (v1 v2 v9 : Int) (l21 l23 : (List S_api_Trigger)) (sv0 s21 s23 : SV) (Fr : Rd) (M : Mem) (r : (List S_api_Trigger)) (hv0 : Slc Fr 3 (FlatR enc73) sv0 v0) (hH : Has Fr M [.vec 73 3 l21.length s21 (l21.flatMap enc73), .vec 73 3 l23.length s23 (l23.flatMap enc73)]), hd1 v0 v1 v2 v9 l21 l23 = some r → Run Try.prog ⟨⟨79, [], none⟩, []⟩ 48 (ref08_slid_post r) [(0, sv0), (1, (.int .i64 v1)), (2, (.int .i64 v2)), (7, s21), (8, s23), (9, (.int .i64 v9))] [codeC Try.prog 79 [1, 1, 0, 1, 0, 0], loopC Try.prog 79 [1, 1, 0, 1, 0, 0], .inBlock 0, codeC Try.prog 79 [1, 1, 1]] M) : ∀ (v0 : (List S_api_Trigger)) (v1 v2 v9 : Int) (l46 l23 : (List S_api_Trigger)) (sv0 s46 s23 : SV) (Fr : Rd) (M : Mem) (r : (List S_api_Trigger)) (hv0 : Slc Fr 3 (FlatR enc73) sv0 v0) (hH : Has Fr M [.vec 73 3 l46.length s46 (l46.flatMap enc73), .vec 73 3 l23.length s23 (l23.flatMap enc73)]), ref08_slid_2 F hd1 v0 v1 v2 v9 l46 l23 = some r → Run Try.prog ⟨⟨79, [], none⟩, []⟩ 48 (ref08_slid_post r) [(0, sv0), (1, (.int .i64 v1)), (2, (.int .i64 v2)), (7, s46), (8, s23), (9, (.int .i64 v9))] [itemC Try.prog 79 [1, 1, 0, 1, 0, 0, 1, 1] 0, loopC Try.prog 79 [1, 1, 0, 1, 0, 0], .inBlock 0, codeC Try.prog 79 [1, 1, 1]] M := by
  intro v0 v1 v2 v9 l46 l23 sv0 s46 s23 Fr M r hv0 hH h
  rw [ref08_slid_2] at h
  refine Run.opG wantS_none (ex_move rfl) rfl ?_
  refine Run.opG wantS_none (ex_add rfl rfl) rfl ?_
  refine Run.opG wantS_none (ex_assign rfl) rfl ?_
  refine Run.opsEnd (Run.inLoop ?_)
  exact Run.pick [0, 1, 2, 7, 8, 9] (hhd1 v0 v1 v2 (w64 (v9 + (1 : Int))) l46 l23 sv0 s46 s23 _ _ _ hv0 hH h)

def ref08_slid_1 (F : Nat) : Nat → (List S_api_Trigger) → Int → Int → Int → (List S_api_Trigger) → (List S_api_Trigger) → Option ((List S_api_Trigger))
  | 0, _, _, _, _, _, _ => none
  | N + 1, v0, v1, v2, v9, l21, l23 =>
    bif (decide (v9 < (v0.length : Int))) then
      bnd (idx v0 v9) fun x27 =>
      bnd (nz v1) fun z33 =>
      bnd (idx v0 v9) fun x36 =>
      bif (decide (v1 ≤ (w64 (x36.Time + v2)))) then
        bnd (apd 24 l21 ([(S_api_Trigger.mk (Int.tmod (w64 (x27.Time + v2)) v1) x27.Loud x27.Template)] : List S_api_Trigger)) fun l45 =>
        ref08_slid_2 F (ref08_slid_1 F N) v0 v1 v2 v9 l45 l23
      else
        bnd (apd 24 l23 ([(S_api_Trigger.mk (Int.tmod (w64 (x27.Time + v2)) v1) x27.Loud x27.Template)] : List S_api_Trigger)) fun l53 =>
        ref08_slid_2 F (ref08_slid_1 F N) v0 v1 v2 v9 l21 l53
    else
      bnd (apd 24 l21 l23) fun l58 =>
      some l58

theorem ref08_slid_1_ok (F : Nat) : ∀ (N : Nat), ∀ (v0 : (List S_api_Trigger)) (v1 v2 v9 : Int) (l21 l23 : (List S_api_Trigger)) (sv0 s21 s23 : SV) (Fr : Rd) (M : Mem) (r : (List S_api_Trigger)) (hv0 : Slc Fr 3 (FlatR enc73) sv0 v0) (hH : Has Fr M [.vec 73 3 l21.length s21 (l21.flatMap enc73), .vec 73 3 l23.length s23 (l23.flatMap enc73)]), ref08_slid_1 F N v0 v1 v2 v9 l21 l23 = some r → Run Try.prog ⟨⟨79, [], none⟩, []⟩ 48 (ref08_slid_post r) [(0, sv0), (1, (.int .i64 v1)), (2, (.int .i64 v2)), (7, s21), (8, s23), (9, (.int .i64 v9))] [codeC Try.prog 79 [1, 1, 0, 1, 0, 0], loopC Try.prog 79 [1, 1, 0, 1, 0, 0], .inBlock 0, codeC Try.prog 79 [1, 1, 1]] M := by
  intro N
  induction N with
  | zero =>
    intro v0 v1 v2 v9 l21 l23 sv0 s21 s23 Fr M r hv0 hH h
    simp [ref08_slid_1] at h
  | succ N ih =>
    intro v0 v1 v2 v9 l21 l23 sv0 s21 s23 Fr M r hv0 hH h
    rw [ref08_slid_1] at h
    refine Run.seq (Run.seq (Run.region ?_))
    refine Run.opG wantS_none (ex_move rfl) rfl ?_
    refine Run.opG wantS_none (ex_move rfl) rfl ?_
    refine Run.opG wantS_none (ex_len' rfl hv0 lenk33) rfl ?_
    refine Run.opG wantS_none (ex_lss rfl rfl) rfl ?_
    refine Run.opsEnd ?_
    rcases btf ((decide (v9 < (v0.length : Int)))) with hc25 | hc25
    · have h := bif_t hc25 h
      refine Run.condT' rfl hc25 ?_
      refine Run.skip (Run.seq (Run.block (Run.seq (Run.region ?_))))
      refine Run.opG wantS_none (ex_move rfl) rfl ?_
      refine Run.opG wantS_none (ex_move rfl) rfl ?_
      obtain ⟨x27, hx27, h⟩ := bnd_some h
      obtain ⟨p27, o27, _, hx27, hp27, rfl⟩ := sl_elem (P := Try.prog) (t := 33) (kk := .i64) hv0 hx27 els33
      refine Run.opG wantS_none (ex_elX rfl rfl hx27) rfl ?_
      refine Run.opG wantS_none (ex_loadA rfl (hH.ptrF hp27) rdLe_rfl agg73 rfl rfl rfl) rfl ?_
      refine Run.opX wantS_none rfl (ExG.new (v := fun b => .ptr b 0) (ex_alloc zer73) hH) ?_
      rintro _ M30 ⟨b29, rfl, hH30⟩
      refine Run.opX wantS_none rfl (ExG.storeC (c' := [(.int .i64 x27.Time), (.int .i64 x27.Loud), (.int .i64 x27.Template)]) rfl rfl rfl hH30 (i := 0) rfl sz73 rfl rfl rfl rfl rfl) ?_
      rintro _ M31 ⟨rfl, (hH31 : Has Fr M31 [.obj b29 (.row 73 .whole [(.int .i64 x27.Time), (.int .i64 x27.Loud), (.int .i64 x27.Template)]), .vec 73 3 l21.length s21 (l21.flatMap enc73), .vec 73 3 l23.length s23 (l23.flatMap enc73)])⟩
      refine Run.opsEnd (Run.seq (Run.region ?_))
      refine Run.opG wantS_none (ex_fieldAddr rfl off73_0) rfl ?_
      refine Run.opG wantS_none (ex_load1 rfl (hH31.cells (i := 0) rfl 0 rfl) rdLe_rfl agg3) rfl ?_
      refine Run.opG wantS_none (ex_move rfl) rfl ?_
      refine Run.opG wantS_none (ex_add rfl rfl) rfl ?_
      refine Run.opG wantS_none (ex_move rfl) rfl ?_
      obtain ⟨z33, hz33, h⟩ := bnd_some h
      refine Run.opG wantS_none (ex_rem' rfl rfl hz33) rfl ?_
      refine Run.opG wantS_none (ex_fieldAddr rfl off73_0) rfl ?_
      refine Run.opX wantS_none rfl (ExG.storeC (c' := [(.int .i64 (Int.tmod (w64 (x27.Time + v2)) v1)), (.int .i64 x27.Loud), (.int .i64 x27.Template)]) rfl rfl rfl hH31 (i := 0) rfl sz3 rfl rfl rfl rfl rfl) ?_
      rintro _ M34 ⟨rfl, (hH34 : Has Fr M34 [.obj b29 (.row 73 .whole [(.int .i64 (Int.tmod (w64 (x27.Time + v2)) v1)), (.int .i64 x27.Loud), (.int .i64 x27.Template)]), .vec 73 3 l21.length s21 (l21.flatMap enc73), .vec 73 3 l23.length s23 (l23.flatMap enc73)])⟩
      refine Run.opsEnd (Run.seq (Run.region ?_))
      refine Run.opG wantS_none (ex_move rfl) rfl ?_
      refine Run.opG wantS_none (ex_move rfl) rfl ?_
      obtain ⟨x36, hx36, h⟩ := bnd_some h
      obtain ⟨p36, o36, _, hx36, hp36, rfl⟩ := sl_elem (P := Try.prog) (t := 33) (kk := .i64) hv0 hx36 els33
      refine Run.opG wantS_none (ex_elX rfl rfl hx36) rfl ?_
      have hp38 := (hp36.fld (o := 0) rfl)
      refine Run.opG wantS_none (ex_fieldAddr rfl off73_0) rfl ?_
      refine Run.opG wantS_none (ex_load1 rfl (hH34.ptrF hp38) rdLe_rfl agg3) rfl ?_
      refine Run.opG wantS_none (ex_move rfl) rfl ?_
      refine Run.opG wantS_none (ex_add rfl rfl) rfl ?_
      refine Run.opG wantS_none (ex_move rfl) rfl ?_
      refine Run.opG wantS_none (ex_geq rfl rfl) rfl ?_
      refine Run.opsEnd ?_
      rcases btf ((decide (v1 ≤ (w64 (x36.Time + v2))))) with hc39 | hc39
      · have h := bif_t hc39 h
        refine Run.condT' rfl hc39 ?_
        refine Run.region ?_
        refine Run.opG wantS_none (ex_move rfl) rfl ?_
        refine Run.opG wantS_none (ex_loadA rfl (hH34.cells (i := 0) rfl 0 rfl) rdLe_rfl agg73 rfl rfl rfl) rfl ?_
        refine Run.opX wantS_none rfl (ExG.built (enc := enc73) (l := ([(S_api_Trigger.mk (Int.tmod (w64 (x27.Time + v2)) v1) x27.Loud x27.Template)] : List S_api_Trigger)) (z := 3) rfl elt33 rfl rfl rfl enc73_len hH34) ?_
        rintro s41 M42 (hH42 : Has Fr M42 [.vec 73 3 ([(S_api_Trigger.mk (Int.tmod (w64 (x27.Time + v2)) v1) x27.Loud x27.Template)] : List S_api_Trigger).length s41 (([(S_api_Trigger.mk (Int.tmod (w64 (x27.Time + v2)) v1) x27.Loud x27.Template)] : List S_api_Trigger).flatMap enc73), .obj b29 (.row 73 .whole [(.int .i64 (Int.tmod (w64 (x27.Time + v2)) v1)), (.int .i64 x27.Loud), (.int .i64 x27.Template)]), .vec 73 3 l21.length s21 (l21.flatMap enc73), .vec 73 3 l23.length s23 (l23.flatMap enc73)])
        obtain ⟨l45, hl45, h⟩ := bnd_some h
        refine Run.opX wantS_none rfl (ExG.append rfl rfl hH42 (i := 2) rfl enc73_len rfl enc73_ones appt33_33 rfl (len_slc (hH42.slc (i := 0) rfl enc73_len)) (first_slc (hH42.slc (i := 0) rfl enc73_len) (rdLe_rdRow _) enc73_len) hl45) ?_
        rintro s45 M47 (hH47 : Has Fr M47 [.vec 73 3 ([(S_api_Trigger.mk (Int.tmod (w64 (x27.Time + v2)) v1) x27.Loud x27.Template)] : List S_api_Trigger).length s41 (([(S_api_Trigger.mk (Int.tmod (w64 (x27.Time + v2)) v1) x27.Loud x27.Template)] : List S_api_Trigger).flatMap enc73), .obj b29 (.row 73 .whole [(.int .i64 (Int.tmod (w64 (x27.Time + v2)) v1)), (.int .i64 x27.Loud), (.int .i64 x27.Template)]), .vec 73 3 l45.length s45 (l45.flatMap enc73), .vec 73 3 l23.length s23 (l23.flatMap enc73)])
        refine Run.opG wantS_none (ex_assign rfl) rfl ?_
        refine Run.opsEnd (Run.inBlock (Run.region ?_))
        exact Run.pick [0, 1, 2, 7, 8, 9] (ref08_slid_2_ok F (ref08_slid_1 F N) ih v0 v1 v2 v9 l45 l23 sv0 s45 s23 _ _ _ hv0 (hH47.pick [2, 3] rfl rfl) h)
      · have h := bif_f hc39 h
        refine Run.condF' rfl hc39 ?_
        refine Run.region ?_
        refine Run.opG wantS_none (ex_move rfl) rfl ?_
        refine Run.opG wantS_none (ex_loadA rfl (hH34.cells (i := 0) rfl 0 rfl) rdLe_rfl agg73 rfl rfl rfl) rfl ?_
        refine Run.opX wantS_none rfl (ExG.built (enc := enc73) (l := ([(S_api_Trigger.mk (Int.tmod (w64 (x27.Time + v2)) v1) x27.Loud x27.Template)] : List S_api_Trigger)) (z := 3) rfl elt33 rfl rfl rfl enc73_len hH34) ?_
        rintro s49 M50 (hH50 : Has Fr M50 [.vec 73 3 ([(S_api_Trigger.mk (Int.tmod (w64 (x27.Time + v2)) v1) x27.Loud x27.Template)] : List S_api_Trigger).length s49 (([(S_api_Trigger.mk (Int.tmod (w64 (x27.Time + v2)) v1) x27.Loud x27.Template)] : List S_api_Trigger).flatMap enc73), .obj b29 (.row 73 .whole [(.int .i64 (Int.tmod (w64 (x27.Time + v2)) v1)), (.int .i64 x27.Loud), (.int .i64 x27.Template)]), .vec 73 3 l21.length s21 (l21.flatMap enc73), .vec 73 3 l23.length s23 (l23.flatMap enc73)])
        obtain ⟨l53, hl53, h⟩ := bnd_some h
        refine Run.opX wantS_none rfl (ExG.append rfl rfl hH50 (i := 3) rfl enc73_len rfl enc73_ones appt33_33 rfl (len_slc (hH50.slc (i := 0) rfl enc73_len)) (first_slc (hH50.slc (i := 0) rfl enc73_len) (rdLe_rdRow _) enc73_len) hl53) ?_
        rintro s53 M55 (hH55 : Has Fr M55 [.vec 73 3 ([(S_api_Trigger.mk (Int.tmod (w64 (x27.Time + v2)) v1) x27.Loud x27.Template)] : List S_api_Trigger).length s49 (([(S_api_Trigger.mk (Int.tmod (w64 (x27.Time + v2)) v1) x27.Loud x27.Template)] : List S_api_Trigger).flatMap enc73), .obj b29 (.row 73 .whole [(.int .i64 (Int.tmod (w64 (x27.Time + v2)) v1)), (.int .i64 x27.Loud), (.int .i64 x27.Template)]), .vec 73 3 l21.length s21 (l21.flatMap enc73), .vec 73 3 l53.length s53 (l53.flatMap enc73)])
        refine Run.opG wantS_none (ex_assign rfl) rfl ?_
        refine Run.opsEnd (Run.inBlock (Run.region ?_))
        exact Run.pick [0, 1, 2, 7, 8, 9] (ref08_slid_2_ok F (ref08_slid_1 F N) ih v0 v1 v2 v9 l21 l53 sv0 s21 s53 _ _ _ hv0 (hH55.pick [2, 3] rfl rfl) h)
    · have h := bif_f hc25 h
      refine Run.condF' rfl hc25 ?_
      refine Run.exit rfl (Run.seq (Run.region ?_))
      refine Run.opG wantS_none (ex_move rfl) rfl ?_
      refine Run.opG wantS_none (ex_move rfl) rfl ?_
      obtain ⟨l58, hl58, h⟩ := bnd_some h
      refine Run.opX wantS_none rfl (ExG.append rfl rfl hH (i := 0) rfl enc73_len rfl enc73_ones appt33_33 rfl (len_slc (hH.slc (i := 1) rfl enc73_len)) (first_slc (hH.slc (i := 1) rfl enc73_len) (rdLe_rdRow _) enc73_len) hl58) ?_
      rintro s58 M60 (hH60 : Has Fr M60 [.vec 73 3 l58.length s58 (l58.flatMap enc73), .vec 73 3 l23.length s23 (l23.flatMap enc73)])
      refine Run.opG wantS_none (ex_assign rfl) rfl ?_
      refine Run.opsEnd ?_
      cases h
      exact Run.ret Try.func79 rfl (res_tmp rfl res_nil) ⟨_, rfl, (hH60.pick [0] rfl rfl).upF (none_le _)⟩

def ref08_slid (F : Nat) (a0 : (List S_api_Trigger)) (a1 a2 : Int) : Option ((List S_api_Trigger)) :=
  ref08_slid_1 F F a0 a1 a2 (0 : Int) ([] : List S_api_Trigger) ([] : List S_api_Trigger)

theorem ref08_slid_ok (F : Nat) (a0 : (List S_api_Trigger)) (a1 a2 : Int) (s0 : SV) (r : (List S_api_Trigger)) (M : Mem) (hs0 : Slc (rd M) 3 (FlatR enc73) s0 a0) (h : ref08_slid F a0 a1 a2 = some r) : CallsM Try.prog 79 [s0, (.int .i64 a1), (.int .i64 a2)] M (fun s M' => ∃ q1, s = q1 ∧ New M M' [.vec 73 3 r.length q1 (r.flatMap enc73)]) := by
  refine CallsM.fresh (Q := ref08_slid_post r) Try.func79 rfl rfl ?_ (by rintro s Me ⟨q1, rfl, hx⟩ ha hw; exact ⟨_, rfl, New.of rfl hx ha hw⟩)
  rw [ref08_slid] at h
  replace hs0 := hs0.mono (rdLe_frozen M) (fun _ _ h => h)
  have hH := Has.nil (frozen M)
  refine Run.seq (Run.region ?_)
  refine Run.opG wantS_none (ex_assign rfl) rfl ?_
  refine Run.opsEnd (Run.seq (Run.region ?_))
  refine Run.opG wantS_none (ex_assign rfl) rfl ?_
  refine Run.opG wantS_none (ex_assign rfl) rfl ?_
  refine Run.opsEnd (Run.seq (Run.seq (Run.region ?_)))
  refine Run.opG wantS_none (ex_assign rfl) rfl ?_
  refine Run.opsEnd (Run.block (Run.loop ?_))
  have hH22 : Has (ro (frozen M)) (frozen M) [.vec 73 3 ([] : List S_api_Trigger).length .nils (([] : List S_api_Trigger).flatMap enc73)] := hH.nils 73 3
  have hH24 : Has (ro (frozen M)) (frozen M) [.vec 73 3 ([] : List S_api_Trigger).length .nils (([] : List S_api_Trigger).flatMap enc73), .vec 73 3 ([] : List S_api_Trigger).length .nils (([] : List S_api_Trigger).flatMap enc73)] := hH22.nils 73 3
  exact Run.pick [0, 1, 2, 7, 8, 9] (ref08_slid_1_ok F F a0 a1 a2 (0 : Int) ([] : List S_api_Trigger) ([] : List S_api_Trigger) s0 .nils .nils _ _ _ hs0 (hH24.pick [1, 0] rfl rfl) h)

theorem mkk79 : makeK Try.prog 79 = none := by kernel_rfl
theorem cal79 : callable Try.prog 79 = true := by kernel_rfl
theorem lenk52 : lenK Try.prog 52 = some .sl := by kernel_rfl
theorem els52 : elems Try.prog 52 = some (.sl 3) := by kernel_rfl
abbrev ref08_loudest_post (r : Int) : SV → Mem → Prop := fun s _ => s = (.int .i64 r)

def ref08_loudest_1 (F : Nat) : Nat → (List S_api_Pair) → Int → Int → Option (Int)
  | 0, _, _, _ => none
  | N + 1, v0, v3, v4 =>
    bif (decide (v4 < (v0.length : Int))) then
      bnd (idx v0 v4) fun x23 =>
      (ref08_loudest_1 F N) v0 (max v3 x23.Loud) (w64 (v4 + (1 : Int)))
    else
      some v3

theorem ref08_loudest_1_ok (F : Nat) : ∀ (N : Nat), ∀ (v0 : (List S_api_Pair)) (v3 v4 : Int) (sv0 : SV) (Fr : Rd) (M : Mem) (r : Int) (hv0 : Slc Fr 3 (FlatR enc40) sv0 v0) (hH : Has Fr M []), ref08_loudest_1 F N v0 v3 v4 = some r → Run Try.prog ⟨⟨78, [], none⟩, []⟩ 19 (ref08_loudest_post r) [(0, sv0), (3, (.int .i64 v3)), (4, (.int .i64 v4))] [codeC Try.prog 78 [1, 1, 0, 1, 0, 0], loopC Try.prog 78 [1, 1, 0, 1, 0, 0], .inBlock 0, codeC Try.prog 78 [1, 1, 1]] M := by
  intro N
  induction N with
  | zero =>
    intro v0 v3 v4 sv0 Fr M r hv0 hH h
    simp [ref08_loudest_1] at h
  | succ N ih =>
    intro v0 v3 v4 sv0 Fr M r hv0 hH h
    rw [ref08_loudest_1] at h
    refine Run.seq (Run.seq (Run.region ?_))
    refine Run.opG wantS_none (ex_move rfl) rfl ?_
    refine Run.opG wantS_none (ex_move rfl) rfl ?_
    refine Run.opG wantS_none (ex_len' rfl hv0 lenk52) rfl ?_
    refine Run.opG wantS_none (ex_lss rfl rfl) rfl ?_
    refine Run.opsEnd ?_
    rcases btf ((decide (v4 < (v0.length : Int)))) with hc21 | hc21
    · have h := bif_t hc21 h
      refine Run.condT' rfl hc21 ?_
      refine Run.skip (Run.seq (Run.block (Run.region ?_)))
      refine Run.opG wantS_none (ex_move rfl) rfl ?_
      refine Run.opG wantS_none (ex_move rfl) rfl ?_
      refine Run.opG wantS_none (ex_move rfl) rfl ?_
      obtain ⟨x23, hx23, h⟩ := bnd_some h
      obtain ⟨p23, o23, _, hx23, hp23, rfl⟩ := sl_elem (P := Try.prog) (t := 52) (kk := .i64) hv0 hx23 els52
      refine Run.opG wantS_none (ex_elX rfl rfl hx23) rfl ?_
      have hp25 := (hp23.fld (o := 2) rfl)
      refine Run.opG wantS_none (ex_fieldAddr rfl off40_2) rfl ?_
      refine Run.opG wantS_none (ex_load1 rfl (hH.ptrF hp25) rdLe_rfl agg3) rfl ?_
      refine Run.opG wantS_none (ex_max rfl rfl) rfl ?_
      refine Run.opG wantS_none (ex_assign rfl) rfl ?_
      refine Run.opsEnd (Run.inBlock (Run.region ?_))
      refine Run.opG wantS_none (ex_move rfl) rfl ?_
      refine Run.opG wantS_none (ex_add rfl rfl) rfl ?_
      refine Run.opG wantS_none (ex_assign rfl) rfl ?_
      refine Run.opsEnd (Run.inLoop ?_)
      exact Run.pick [0, 3, 4] (ih v0 (max v3 x23.Loud) (w64 (v4 + (1 : Int))) sv0 _ _ _ hv0 hH h)
    · have h := bif_f hc21 h
      refine Run.condF' rfl hc21 ?_
      refine Run.exit rfl (Run.seq (Run.region ?_))
      refine Run.opG wantS_none (ex_move rfl) rfl ?_
      refine Run.opG wantS_none (ex_assign rfl) rfl ?_
      refine Run.opsEnd ?_
      cases h
      exact Run.ret Try.func78 rfl (res_tmp rfl res_nil) rfl

def ref08_loudest (F : Nat) (a0 : (List S_api_Pair)) : Option (Int) :=
  ref08_loudest_1 F F a0 ((-1) : Int) (0 : Int)

theorem ref08_loudest_ok (F : Nat) (a0 : (List S_api_Pair)) (s0 : SV) (r : Int) (M : Mem) (hs0 : Slc (rd M) 3 (FlatR enc40) s0 a0) (h : ref08_loudest F a0 = some r) : CallsM Try.prog 78 [s0] M (fun s M' => s = (.int .i64 r) ∧ M' = M) := by
  refine CallsM.plain Try.func78 rfl rfl rfl (show Run _ _ _ (ref08_loudest_post r) _ _ _ from ?_)
  rw [ref08_loudest] at h
  replace hs0 := hs0.mono (rdLe_frozen M) (fun _ _ h => h)
  have hH := Has.nil (frozen M)
  refine Run.seq (Run.region ?_)
  refine Run.opG wantS_none (ex_assign rfl) rfl ?_
  refine Run.opsEnd (Run.seq (Run.region ?_))
  refine Run.opG wantS_none (ex_assign rfl) rfl ?_
  refine Run.opsEnd (Run.seq (Run.seq (Run.region ?_)))
  refine Run.opG wantS_none (ex_assign rfl) rfl ?_
  refine Run.opsEnd (Run.block (Run.loop ?_))
  exact Run.pick [0, 3, 4] (ref08_loudest_1_ok F F a0 ((-1) : Int) (0 : Int) s0 _ _ _ hs0 hH h)

theorem mkk78 : makeK Try.prog 78 = none := by kernel_rfl
theorem cal78 : callable Try.prog 78 = true := by kernel_rfl
theorem plan46_1_1_0_1_0_0_1_0_0 : planOf Try.prog (opsC (atC Try.prog 46 [1, 1, 0, 1, 0, 0, 1, 0, 0])) = some [.fl 0, .fl 1, .fl 2, .fl 3, .fl 4, .fl 5, .fl 6, .fl 7, .fl 8, .fl 10, .an 9 [10, 1, 0], .an 11 [0], .an 12 [0], .an 13 [0], .an 14 [], .an 15 [], .sync] := by kernel_rfl
abbrev ref08_statistics_post (r : (List Int)) : SV → Mem → Prop := fun s Me => ∃ q1, s = q1 ∧ Has (fun _ => none) Me [.vec 3 1 r.length q1 (r.flatMap enc3)]

def ref08_statistics_1 (F : Nat) : Nat → (List S_api_Trigger) → (List S_api_Trigger) → Int → S_ringdownref08_Clock → (List Int) → Option ((List Int))
  | 0, _, _, _, _, _ => none
  | N + 1, v0, v1, v8, c22, l24 =>
    bnd (nz c22.Step) fun z27 =>
    bif (decide (v8 < (w64 (Int.tdiv c22.Live c22.Step)))) then
      bnd (ref08_slid F v1 c22.Live (w64 (v8 * c22.Step))) fun r29 =>
      bnd (ref08_coincide F v0 r29 c22) fun r32 =>
      bnd (ref08_loudest F r32) fun r35 =>
      bnd (apd 8 l24 ([r35] : List Int)) fun l39 =>
      (ref08_statistics_1 F N) v0 v1 (w64 (v8 + (1 : Int))) c22 l39
    else
      some l24

theorem ref08_statistics_1_ok (F : Nat) : ∀ (N : Nat), ∀ (v0 v1 : (List S_api_Trigger)) (v8 : Int) (c22 : S_ringdownref08_Clock) (l24 : (List Int)) (sv0 sv1 : SV) (b22 : Pos) (s24 : SV) (Fr : Rd) (M : Mem) (r : (List Int)) (hv0 : Slc Fr 3 (FlatR enc73) sv0 v0) (hv1 : Slc Fr 3 (FlatR enc73) sv1 v1) (hH : Has Fr M [.obj b22 (.row 90 .whole [(.int .i64 c22.Live), (.int .i64 c22.Window), (.int .i64 c22.Step)]), .vec 3 1 l24.length s24 (l24.flatMap enc3)]), ref08_statistics_1 F N v0 v1 v8 c22 l24 = some r → Run Try.prog ⟨⟨46, [], none⟩, []⟩ 34 (ref08_statistics_post r) [(0, sv0), (1, sv1), (5, (.ptr b22 0)), (7, s24), (8, (.int .i64 v8))] [codeC Try.prog 46 [1, 1, 0, 1, 0, 0], loopC Try.prog 46 [1, 1, 0, 1, 0, 0], .inBlock 0, codeC Try.prog 46 [1, 1, 1]] M := by
  intro N
  induction N with
  | zero =>
    intro v0 v1 v8 c22 l24 sv0 sv1 b22 s24 Fr M r hv0 hv1 hH h
    simp [ref08_statistics_1] at h
  | succ N ih =>
    intro v0 v1 v8 c22 l24 sv0 sv1 b22 s24 Fr M r hv0 hv1 hH h
    rw [ref08_statistics_1] at h
    refine Run.seq (Run.seq (Run.region ?_))
    refine Run.opG wantS_none (ex_move rfl) rfl ?_
    refine Run.opG wantS_none (ex_fieldAddr rfl off90_0) rfl ?_
    refine Run.opG wantS_none (ex_load1 rfl (hH.cells (i := 0) rfl 0 rfl) rdLe_rfl agg3) rfl ?_
    refine Run.opG wantS_none (ex_fieldAddr rfl off90_2) rfl ?_
    refine Run.opG wantS_none (ex_load1 rfl (hH.cells (i := 0) rfl 2 rfl) rdLe_rfl agg3) rfl ?_
    obtain ⟨z27, hz27, h⟩ := bnd_some h
    refine Run.opG wantS_none (ex_quo' rfl rfl hz27) rfl ?_
    refine Run.opG wantS_none (ex_lss rfl rfl) rfl ?_
    refine Run.opsEnd ?_
    rcases btf ((decide (v8 < (w64 (Int.tdiv c22.Live c22.Step))))) with hc28 | hc28
    · have h := bif_t hc28 h
      refine Run.condT' rfl hc28 ?_
      refine Run.skip (Run.seq (Run.block ?_))
      refine Run.drawG plan46_1_1_0_1_0_0_1_0_0 ?_
      refine DrawG.fl rfl (ev_ex wantS_none (ex_move rfl)) rfl ?_
      refine DrawG.fl rfl (ev_ex wantS_none (ex_move rfl)) rfl ?_
      refine DrawG.fl rfl (ev_ex wantS_none (ex_move rfl)) rfl ?_
      refine DrawG.fl rfl (ev_ex wantS_none (ex_fieldAddr rfl off90_0)) rfl ?_
      refine DrawG.fl rfl (ev_ex wantS_none (ex_load1 rfl (hH.cells (i := 0) rfl 0 rfl) rdLe_rfl agg3)) rfl ?_
      refine DrawG.fl rfl (ev_ex wantS_none (ex_move rfl)) rfl ?_
      refine DrawG.fl rfl (ev_ex wantS_none (ex_fieldAddr rfl off90_2)) rfl ?_
      refine DrawG.fl rfl (ev_ex wantS_none (ex_load1 rfl (hH.cells (i := 0) rfl 2 rfl) rdLe_rfl agg3)) rfl ?_
      refine DrawG.fl rfl (ev_ex wantS_none (ex_mul rfl rfl)) rfl ?_
      refine DrawG.fl rfl (ev_ex wantS_none (ex_loadA rfl (hH.cells (i := 0) rfl 0 rfl) rdLe_rfl agg90 rfl rfl rfl)) rfl ?_
      obtain ⟨r29, hr29, h⟩ := bnd_some h
      refine DrawG.call rfl wantS_none (ex_call rfl mkk79 cal79) rfl (ref08_slid_ok F v1 c22.Live (w64 (v8 * c22.Step)) sv1 _ _ (hH.slcF hv1) hr29) ?_
      rintro s29_0 M31 ⟨_, rfl, hN29⟩
      have hH31 : Has Fr M31 [.vec 73 3 r29.length s29_0 (r29.flatMap enc73), .obj b22 (.row 90 .whole [(.int .i64 c22.Live), (.int .i64 c22.Window), (.int .i64 c22.Step)]), .vec 3 1 l24.length s24 (l24.flatMap enc3)] := hN29.1 _ _ hH
      refine ⟨(st_cons rfl (ev_ex wantS_none (ex_loadA rfl (hH31.cells (i := 1) rfl 0 rfl) rdLe_rfl agg90 rfl rfl rfl)) rfl rfl rfl (st_cons rfl (ev_ex wantS_none (ex_move rfl)) rfl rfl (slc_self hv0) (st_cons rfl (ev_ex wantS_none (ex_move rfl)) rfl rfl (blk_self hH31 (i := 2) rfl) st_nil))), ?_⟩
      obtain ⟨r32, hr32, h⟩ := bnd_some h
      refine DrawG.call rfl wantS_none (ex_call rfl mkk45 cal45) rfl (ref08_coincide_ok F v0 r29 c22 sv0 s29_0 _ _ (hH31.slcF hv0) (hH31.slc (i := 0) rfl enc73_len) hr32) ?_
      rintro s32_0 M34 ⟨_, rfl, hN32⟩
      have hH34 : Has Fr M34 [.vec 40 3 r32.length s32_0 (r32.flatMap enc40), .vec 73 3 r29.length s29_0 (r29.flatMap enc73), .obj b22 (.row 90 .whole [(.int .i64 c22.Live), (.int .i64 c22.Window), (.int .i64 c22.Step)]), .vec 3 1 l24.length s24 (l24.flatMap enc3)] := hN32.1 _ _ hH31
      refine ⟨(st_cons rfl (ev_ex wantS_none (ex_move rfl)) rfl rfl (blk_self hH34 (i := 3) rfl) st_nil), ?_⟩
      obtain ⟨r35, hr35, h⟩ := bnd_some h
      refine DrawG.callP rfl wantS_none (ex_call rfl mkk78 cal78) rfl (ref08_loudest_ok F r32 s32_0 _ _ (hH34.slc (i := 0) rfl enc40_len) hr35) (st_cons rfl (ev_ex wantS_none (ex_move rfl)) rfl rfl (blk_self hH34 (i := 3) rfl) st_nil) ?_
      refine DrawG.opX rfl wantS_none rfl (ExG.built (enc := enc3) (l := ([r35] : List Int)) (z := 1) rfl elt22 rfl rfl rfl enc3_len hH34) ?_
      rintro s37 M38 (hH38 : Has Fr M38 [.vec 3 1 ([r35] : List Int).length s37 (([r35] : List Int).flatMap enc3), .vec 40 3 r32.length s32_0 (r32.flatMap enc40), .vec 73 3 r29.length s29_0 (r29.flatMap enc73), .obj b22 (.row 90 .whole [(.int .i64 c22.Live), (.int .i64 c22.Window), (.int .i64 c22.Step)]), .vec 3 1 l24.length s24 (l24.flatMap enc3)])
      refine ⟨(st_cons rfl (ev_ex wantS_none (ex_move rfl)) rfl rfl (blk_self hH38 (i := 4) rfl) st_nil), ?_⟩
      obtain ⟨l39, hl39, h⟩ := bnd_some h
      refine DrawG.opX rfl wantS_none rfl (ExG.append rfl rfl hH38 (i := 4) rfl enc3_len rfl enc3_ones appt22_22 rfl (len_slc (hH38.slc (i := 0) rfl enc3_len)) (first_slc (hH38.slc (i := 0) rfl enc3_len) (rdLe_rdRow _) enc3_len) hl39) ?_
      rintro s39 M41 (hH41 : Has Fr M41 [.vec 3 1 ([r35] : List Int).length s37 (([r35] : List Int).flatMap enc3), .vec 40 3 r32.length s32_0 (r32.flatMap enc40), .vec 73 3 r29.length s29_0 (r29.flatMap enc73), .obj b22 (.row 90 .whole [(.int .i64 c22.Live), (.int .i64 c22.Window), (.int .i64 c22.Step)]), .vec 3 1 l39.length s39 (l39.flatMap enc3)])
      refine ⟨st_nil, ?_⟩
      refine DrawG.val rfl wantS_none (ex_assign rfl) rfl st_nil ?_
      refine DrawG.sync ?_
      refine DrawG.nil ?_
      refine Run.inBlock (Run.region ?_)
      refine Run.opG wantS_none (ex_move rfl) rfl ?_
      refine Run.opG wantS_none (ex_add rfl rfl) rfl ?_
      refine Run.opG wantS_none (ex_assign rfl) rfl ?_
      refine Run.opsEnd (Run.inLoop ?_)
      exact Run.pick [0, 1, 5, 7, 8] (ih v0 v1 (w64 (v8 + (1 : Int))) c22 l39 sv0 sv1 b22 s39 _ _ _ hv0 hv1 (hH41.pick [3, 4] rfl rfl) h)
    · have h := bif_f hc28 h
      refine Run.condF' rfl hc28 ?_
      refine Run.exit rfl (Run.seq (Run.region ?_))
      refine Run.opG wantS_none (ex_move rfl) rfl ?_
      refine Run.opG wantS_none (ex_assign rfl) rfl ?_
      refine Run.opsEnd ?_
      cases h
      exact Run.ret Try.func46 rfl (res_tmp rfl res_nil) ⟨_, rfl, (hH.pick [1] rfl rfl).upF (none_le _)⟩

def ref08_statistics (F : Nat) (a0 a1 : (List S_api_Trigger)) (a2 : S_ringdownref08_Clock) : Option ((List Int)) :=
  ref08_statistics_1 F F a0 a1 (0 : Int) a2 ([] : List Int)

theorem ref08_statistics_ok (F : Nat) (a0 a1 : (List S_api_Trigger)) (a2 : S_ringdownref08_Clock) (s0 s1 : SV) (r : (List Int)) (M : Mem) (hs0 : Slc (rd M) 3 (FlatR enc73) s0 a0) (hs1 : Slc (rd M) 3 (FlatR enc73) s1 a1) (h : ref08_statistics F a0 a1 a2 = some r) : CallsM Try.prog 46 [s0, s1, (.agg [(.int .i64 a2.Live), (.int .i64 a2.Window), (.int .i64 a2.Step)])] M (fun s M' => ∃ q1, s = q1 ∧ New M M' [.vec 3 1 r.length q1 (r.flatMap enc3)]) := by
  refine CallsM.fresh (Q := ref08_statistics_post r) Try.func46 rfl rfl ?_ (by rintro s Me ⟨q1, rfl, hx⟩ ha hw; exact ⟨_, rfl, New.of rfl hx ha hw⟩)
  rw [ref08_statistics] at h
  replace hs0 := hs0.mono (rdLe_frozen M) (fun _ _ h => h)
  replace hs1 := hs1.mono (rdLe_frozen M) (fun _ _ h => h)
  have hH := Has.nil (frozen M)
  refine Run.seq (Run.region ?_)
  refine Run.opX wantS_none rfl (ExG.box rfl rfl hH) ?_
  rintro _ M23 ⟨b22, rfl, hH23⟩
  refine Run.opG wantS_none (ex_assign rfl) rfl ?_
  refine Run.opsEnd (Run.seq (Run.region ?_))
  refine Run.opG wantS_none (ex_assign rfl) rfl ?_
  refine Run.opsEnd (Run.seq (Run.seq (Run.region ?_)))
  refine Run.opG wantS_none (ex_assign rfl) rfl ?_
  refine Run.opsEnd (Run.block (Run.loop ?_))
  have hH25 : Has (ro (frozen M)) M23 [.vec 3 1 ([] : List Int).length .nils (([] : List Int).flatMap enc3), .obj b22 (.row 90 .whole [(.int .i64 a2.Live), (.int .i64 a2.Window), (.int .i64 a2.Step)])] := hH23.nils 3 1
  exact Run.pick [0, 1, 5, 7, 8] (ref08_statistics_1_ok F F a0 a1 (0 : Int) a2 ([] : List Int) s0 s1 b22 .nils _ _ _ hs0 hs1 (hH25.pick [1, 0] rfl rfl) h)

theorem mkk46 : makeK Try.prog 46 = none := by kernel_rfl
theorem cal46 : callable Try.prog 46 = true := by kernel_rfl
abbrev ref08_chance_post (r : S_api_Chance) : SV → Mem → Prop := fun s _ => s = (.agg [(.int .i64 r.N), (.int .i64 r.Of)])

def ref08_chance_2 (F : Nat) (hd1 : (List Int) → Int → Int → Int → S_api_Chance → Option (S_api_Chance)) (v0 : (List Int)) (v1 v5 v6 : Int) (c22 : S_api_Chance) : Option (S_api_Chance) :=
  hd1 v0 v1 v5 (w64 (v6 + (1 : Int))) c22

theorem ref08_chance_2_ok (F : Nat) (hd1 : (List Int) → Int → Int → Int → S_api_Chance → Option (S_api_Chance)) (hhd1 : ∀ (v0 : (List Int)) (v1 v5 v6 : Int) (c22 : S_api_Chance) (sv0 : SV) (b22 : Pos) (Fr : Rd) (M : Mem) (r : S_api_Chance) (hv0 : Slc Fr 1 (FlatR enc3) sv0 v0) (hH : Has Fr M [.obj b22 (.row 42 .whole [(.int .i64 c22.N), (.int .i64 c22.Of)])]), hd1 v0 v1 v5 v6 c22 = some r → Run Try.prog ⟨⟨47, [], none⟩, []⟩ 26 (ref08_chance_post r) [(0, sv0), (1, (.int .i64 v1)), (4, (.ptr b22 0)), (5, (.int .i64 v5)), (6, (.int .i64 v6))] [codeC Try.prog 47 [1, 1, 0, 1, 0, 0], loopC Try.prog 47 [1, 1, 0, 1, 0, 0], .inBlock 0, codeC Try.prog 47 [1, 1, 1]] M) : ∀ (v0 : (List Int)) (v1 v5 v6 : Int) (c22 : S_api_Chance) (sv0 : SV) (b22 : Pos) (Fr : Rd) (M : Mem) (r : S_api_Chance) (hv0 : Slc Fr 1 (FlatR enc3) sv0 v0) (hH : Has Fr M [.obj b22 (.row 42 .whole [(.int .i64 c22.N), (.int .i64 c22.Of)])]), ref08_chance_2 F hd1 v0 v1 v5 v6 c22 = some r → Run Try.prog ⟨⟨47, [], none⟩, []⟩ 26 (ref08_chance_post r) [(0, sv0), (1, (.int .i64 v1)), (4, (.ptr b22 0)), (5, (.int .i64 v5)), (6, (.int .i64 v6))] [itemC Try.prog 47 [1, 1, 0, 1, 0, 0, 1, 1] 0, loopC Try.prog 47 [1, 1, 0, 1, 0, 0], .inBlock 0, codeC Try.prog 47 [1, 1, 1]] M := by
  intro v0 v1 v5 v6 c22 sv0 b22 Fr M r hv0 hH h
  rw [ref08_chance_2] at h
  refine Run.opG wantS_none (ex_move rfl) rfl ?_
  refine Run.opG wantS_none (ex_add rfl rfl) rfl ?_
  refine Run.opG wantS_none (ex_assign rfl) rfl ?_
  refine Run.opsEnd (Run.inLoop ?_)
  exact Run.pick [0, 1, 4, 5, 6] (hhd1 v0 v1 v5 (w64 (v6 + (1 : Int))) c22 sv0 b22 _ _ _ hv0 hH h)

def ref08_chance_1 (F : Nat) : Nat → (List Int) → Int → Int → Int → S_api_Chance → Option (S_api_Chance)
  | 0, _, _, _, _, _ => none
  | N + 1, v0, v1, v5, v6, c22 =>
    bif (decide (v6 < (v0.length : Int))) then
      bnd (idx v0 v6) fun x26 =>
      bif (decide (v1 ≤ x26)) then
        ref08_chance_2 F (ref08_chance_1 F N) v0 v1 (w64 (v5 + (1 : Int))) v6 c22
      else
        ref08_chance_2 F (ref08_chance_1 F N) v0 v1 v5 v6 c22
    else
      some (S_api_Chance.mk (max (1 : Int) v5) (v0.length : Int))

theorem ref08_chance_1_ok (F : Nat) : ∀ (N : Nat), ∀ (v0 : (List Int)) (v1 v5 v6 : Int) (c22 : S_api_Chance) (sv0 : SV) (b22 : Pos) (Fr : Rd) (M : Mem) (r : S_api_Chance) (hv0 : Slc Fr 1 (FlatR enc3) sv0 v0) (hH : Has Fr M [.obj b22 (.row 42 .whole [(.int .i64 c22.N), (.int .i64 c22.Of)])]), ref08_chance_1 F N v0 v1 v5 v6 c22 = some r → Run Try.prog ⟨⟨47, [], none⟩, []⟩ 26 (ref08_chance_post r) [(0, sv0), (1, (.int .i64 v1)), (4, (.ptr b22 0)), (5, (.int .i64 v5)), (6, (.int .i64 v6))] [codeC Try.prog 47 [1, 1, 0, 1, 0, 0], loopC Try.prog 47 [1, 1, 0, 1, 0, 0], .inBlock 0, codeC Try.prog 47 [1, 1, 1]] M := by
  intro N
  induction N with
  | zero =>
    intro v0 v1 v5 v6 c22 sv0 b22 Fr M r hv0 hH h
    simp [ref08_chance_1] at h
  | succ N ih =>
    intro v0 v1 v5 v6 c22 sv0 b22 Fr M r hv0 hH h
    rw [ref08_chance_1] at h
    refine Run.seq (Run.seq (Run.region ?_))
    refine Run.opG wantS_none (ex_move rfl) rfl ?_
    refine Run.opG wantS_none (ex_move rfl) rfl ?_
    refine Run.opG wantS_none (ex_len' rfl hv0 lenk22) rfl ?_
    refine Run.opG wantS_none (ex_lss rfl rfl) rfl ?_
    refine Run.opsEnd ?_
    rcases btf ((decide (v6 < (v0.length : Int)))) with hc24 | hc24
    · have h := bif_t hc24 h
      refine Run.condT' rfl hc24 ?_
      refine Run.skip (Run.seq (Run.block (Run.seq (Run.region ?_))))
      refine Run.opG wantS_none (ex_move rfl) rfl ?_
      refine Run.opG wantS_none (ex_move rfl) rfl ?_
      obtain ⟨x26, hx26, h⟩ := bnd_some h
      obtain ⟨p26, o26, _, hx26, hp26, rfl⟩ := sl_elem (P := Try.prog) (t := 22) (kk := .i64) hv0 hx26 els22
      refine Run.opG wantS_none (ex_elX rfl rfl hx26) rfl ?_
      refine Run.opG wantS_none (ex_load1 rfl (hH.ptrF hp26) rdLe_rfl agg3) rfl ?_
      refine Run.opG wantS_none (ex_move rfl) rfl ?_
      refine Run.opG wantS_none (ex_geq rfl rfl) rfl ?_
      refine Run.opsEnd ?_
      rcases btf ((decide (v1 ≤ x26))) with hc27 | hc27
      · have h := bif_t hc27 h
        refine Run.condT' rfl hc27 ?_
        refine Run.region ?_
        refine Run.opG wantS_none (ex_move rfl) rfl ?_
        refine Run.opG wantS_none (ex_add rfl rfl) rfl ?_
        refine Run.opG wantS_none (ex_assign rfl) rfl ?_
        refine Run.opsEnd (Run.inBlock (Run.region ?_))
        exact Run.pick [0, 1, 4, 5, 6] (ref08_chance_2_ok F (ref08_chance_1 F N) ih v0 v1 (w64 (v5 + (1 : Int))) v6 c22 sv0 b22 _ _ _ hv0 hH h)
      · have h := bif_f hc27 h
        refine Run.condF' rfl hc27 ?_
        refine Run.skip (Run.inBlock (Run.region ?_))
        exact Run.pick [0, 1, 4, 5, 6] (ref08_chance_2_ok F (ref08_chance_1 F N) ih v0 v1 v5 v6 c22 sv0 b22 _ _ _ hv0 hH h)
    · have h := bif_f hc24 h
      refine Run.condF' rfl hc24 ?_
      refine Run.exit rfl (Run.seq (Run.region ?_))
      refine Run.opG wantS_none (ex_move rfl) rfl ?_
      refine Run.opG wantS_none (ex_max rfl rfl) rfl ?_
      refine Run.opG wantS_none (ex_move rfl) rfl ?_
      refine Run.opG wantS_none (ex_len' rfl hv0 lenk22) rfl ?_
      refine Run.opG wantS_none (ex_build (r := [(.int .i64 (max (1 : Int) v5)), (.int .i64 (v0.length : Int))]) rfl zer42 pls42 rfl) rfl ?_
      refine Run.opX wantS_none rfl (ExG.storeC (c' := [(.int .i64 (max (1 : Int) v5)), (.int .i64 (v0.length : Int))]) rfl rfl rfl hH (i := 0) rfl sz42 rfl rfl rfl rfl rfl) ?_
      rintro _ M28 ⟨rfl, (hH28 : Has Fr M28 [.obj b22 (.row 42 .whole [(.int .i64 (max (1 : Int) v5)), (.int .i64 (v0.length : Int))])])⟩
      refine Run.opsEnd ?_
      cases h
      exact Run.ret Try.func47 rfl (res_cell rfl (x_load (ex_loadA rfl (hH28.cells (i := 0) rfl 0 rfl) rdLe_rfl agg42 rfl rfl rfl)) res_nil) rfl

def ref08_chance (F : Nat) (a0 : (List Int)) (a1 : Int) : Option (S_api_Chance) :=
  ref08_chance_1 F F a0 a1 (0 : Int) (0 : Int) (S_api_Chance.mk 0 0)

theorem ref08_chance_ok (F : Nat) (a0 : (List Int)) (a1 : Int) (s0 : SV) (r : S_api_Chance) (M : Mem) (hs0 : Slc (rd M) 1 (FlatR enc3) s0 a0) (h : ref08_chance F a0 a1 = some r) : CallsM Try.prog 47 [s0, (.int .i64 a1)] M (fun s M' => s = (.agg [(.int .i64 r.N), (.int .i64 r.Of)]) ∧ M' = M) := by
  refine CallsM.plain Try.func47 rfl rfl rfl (show Run _ _ _ (ref08_chance_post r) _ _ _ from ?_)
  rw [ref08_chance] at h
  replace hs0 := hs0.mono (rdLe_frozen M) (fun _ _ h => h)
  have hH := Has.nil (frozen M)
  refine Run.seq (Run.region ?_)
  refine Run.opX wantS_none rfl (ExG.new (v := fun b => .ptr b 0) (ex_alloc zer42) hH) ?_
  rintro _ M23 ⟨b22, rfl, hH23⟩
  refine Run.opsEnd (Run.seq (Run.region ?_))
  refine Run.opG wantS_none (ex_assign rfl) rfl ?_
  refine Run.opsEnd (Run.seq (Run.seq (Run.region ?_)))
  refine Run.opG wantS_none (ex_assign rfl) rfl ?_
  refine Run.opsEnd (Run.block (Run.loop ?_))
  exact Run.pick [0, 1, 4, 5, 6] (ref08_chance_1_ok F F a0 a1 (0 : Int) (0 : Int) (S_api_Chance.mk 0 0) s0 b22 _ _ _ hs0 hH23 h)

theorem mkk47 : makeK Try.prog 47 = none := by kernel_rfl
theorem cal47 : callable Try.prog 47 = true := by kernel_rfl
theorem plan15_1_1_1_1_1_1_0_1_0_0_1_0_0_1_1_0 : planOf Try.prog (opsC (atC Try.prog 15 [1, 1, 1, 1, 1, 1, 0, 1, 0, 0, 1, 0, 0, 1, 1, 0])) = some [.fl 0, .fl 1, .fl 2, .fl 3, .fl 4, .fl 5, .fl 6, .an 7 [0], .an 8 [], .an 9 [], .sync] := by kernel_rfl
theorem plan15_1_1_1_1_0 : planOf Try.prog (opsC (atC Try.prog 15 [1, 1, 1, 1, 0])) = some [.fl 0, .fl 1, .fl 2, .fl 4, .fl 5, .fl 6, .an 3 [6, 5, 4], .an 7 [], .fl 8, .fl 9, .sync] := by kernel_rfl
abbrev ref08_Candidates_post (r : (List S_api_Candidate) × Int) : SV → Mem → Prop := fun s Me => ∃ q1, s = (.tuple [q1, (.int .i64 r.2)]) ∧ Has (fun _ => none) Me [.vec 44 5 r.1.length q1 (r.1.flatMap enc44)]

def ref08_Candidates_2 (F : Nat) (hd1 : Int → Int → (List S_api_Pair) → (List Int) → (List S_api_Candidate) → Option ((List S_api_Candidate) × Int)) (v5 v19 : Int) (l40 : (List S_api_Pair)) (l43 : (List Int)) (l62 : (List S_api_Candidate)) : Option ((List S_api_Candidate) × Int) :=
  hd1 v5 (w64 (v19 + (1 : Int))) l40 l43 l62

theorem ref08_Candidates_2_ok (F : Nat) (hd1 : Int → Int → (List S_api_Pair) → (List Int) → (List S_api_Candidate) → Option ((List S_api_Candidate) × Int)) (hhd1 : ∀ (v5 v19 : Int) (l40 : (List S_api_Pair)) (l43 : (List Int)) (l45 : (List S_api_Candidate)) (s40 s43 s45 : SV) (Fr : Rd) (M : Mem) (r : (List S_api_Candidate) × Int) (hH : Has Fr M [.vec 40 3 l40.length s40 (l40.flatMap enc40), .vec 3 1 l43.length s43 (l43.flatMap enc3), .vec 44 5 l45.length s45 (l45.flatMap enc44)]), hd1 v5 v19 l40 l43 l45 = some r → Run Try.prog ⟨⟨15, [], none⟩, []⟩ 73 (ref08_Candidates_post r) [(5, (.int .i64 v5)), (16, s40), (17, s43), (18, s45), (19, (.int .i64 v19))] [codeC Try.prog 15 [1, 1, 1, 1, 1, 1, 0, 1, 0, 0], loopC Try.prog 15 [1, 1, 1, 1, 1, 1, 0, 1, 0, 0], .inBlock 0, codeC Try.prog 15 [1, 1, 1, 1, 1, 1, 1]] M) : ∀ (v5 v19 : Int) (l40 : (List S_api_Pair)) (l43 : (List Int)) (l62 : (List S_api_Candidate)) (s40 s43 s62 : SV) (Fr : Rd) (M : Mem) (r : (List S_api_Candidate) × Int) (hH : Has Fr M [.vec 40 3 l40.length s40 (l40.flatMap enc40), .vec 3 1 l43.length s43 (l43.flatMap enc3), .vec 44 5 l62.length s62 (l62.flatMap enc44)]), ref08_Candidates_2 F hd1 v5 v19 l40 l43 l62 = some r → Run Try.prog ⟨⟨15, [], none⟩, []⟩ 73 (ref08_Candidates_post r) [(5, (.int .i64 v5)), (16, s40), (17, s43), (18, s62), (19, (.int .i64 v19))] [itemC Try.prog 15 [1, 1, 1, 1, 1, 1, 0, 1, 0, 0, 1, 1] 0, loopC Try.prog 15 [1, 1, 1, 1, 1, 1, 0, 1, 0, 0], .inBlock 0, codeC Try.prog 15 [1, 1, 1, 1, 1, 1, 1]] M := by
  intro v5 v19 l40 l43 l62 s40 s43 s62 Fr M r hH h
  rw [ref08_Candidates_2] at h
  refine Run.opG wantS_none (ex_move rfl) rfl ?_
  refine Run.opG wantS_none (ex_add rfl rfl) rfl ?_
  refine Run.opG wantS_none (ex_assign rfl) rfl ?_
  refine Run.opsEnd (Run.inLoop ?_)
  exact Run.pick [5, 16, 17, 18, 19] (hhd1 v5 (w64 (v19 + (1 : Int))) l40 l43 l62 s40 s43 s62 _ _ _ hH h)

def ref08_Candidates_1 (F : Nat) : Nat → Int → Int → (List S_api_Pair) → (List Int) → (List S_api_Candidate) → Option ((List S_api_Candidate) × Int)
  | 0, _, _, _, _, _ => none
  | N + 1, v5, v19, l40, l43, l45 =>
    bif (decide (v19 < (l40.length : Int))) then
      bnd (idx l40 v19) fun x49 =>
      bnd (ref08_chance F l43 x49.Loud) fun r51 =>
      bif (decide (r51.N ≤ v5)) then
        bnd (idx l40 v19) fun x58 =>
        bnd (apd 40 l45 ([(S_api_Candidate.mk x58 r51)] : List S_api_Candidate)) fun l61 =>
        ref08_Candidates_2 F (ref08_Candidates_1 F N) v5 v19 l40 l43 l61
      else
        ref08_Candidates_2 F (ref08_Candidates_1 F N) v5 v19 l40 l43 l45
    else
      some (l45, (0 : Int))

theorem ref08_Candidates_1_ok (F : Nat) : ∀ (N : Nat), ∀ (v5 v19 : Int) (l40 : (List S_api_Pair)) (l43 : (List Int)) (l45 : (List S_api_Candidate)) (s40 s43 s45 : SV) (Fr : Rd) (M : Mem) (r : (List S_api_Candidate) × Int) (hH : Has Fr M [.vec 40 3 l40.length s40 (l40.flatMap enc40), .vec 3 1 l43.length s43 (l43.flatMap enc3), .vec 44 5 l45.length s45 (l45.flatMap enc44)]), ref08_Candidates_1 F N v5 v19 l40 l43 l45 = some r → Run Try.prog ⟨⟨15, [], none⟩, []⟩ 73 (ref08_Candidates_post r) [(5, (.int .i64 v5)), (16, s40), (17, s43), (18, s45), (19, (.int .i64 v19))] [codeC Try.prog 15 [1, 1, 1, 1, 1, 1, 0, 1, 0, 0], loopC Try.prog 15 [1, 1, 1, 1, 1, 1, 0, 1, 0, 0], .inBlock 0, codeC Try.prog 15 [1, 1, 1, 1, 1, 1, 1]] M := by
  intro N
  induction N with
  | zero =>
    intro v5 v19 l40 l43 l45 s40 s43 s45 Fr M r hH h
    simp [ref08_Candidates_1] at h
  | succ N ih =>
    intro v5 v19 l40 l43 l45 s40 s43 s45 Fr M r hH h
    rw [ref08_Candidates_1] at h
    refine Run.seq (Run.seq (Run.region ?_))
    refine Run.opG wantS_none (ex_move rfl) rfl ?_
    refine Run.opG wantS_none (ex_move rfl) rfl ?_
    refine Run.opG wantS_none (ex_len' rfl (hH.slc (i := 0) rfl enc40_len) lenk52) rfl ?_
    refine Run.opG wantS_none (ex_lss rfl rfl) rfl ?_
    refine Run.opsEnd ?_
    rcases btf ((decide (v19 < (l40.length : Int)))) with hc47 | hc47
    · have h := bif_t hc47 h
      refine Run.condT' rfl hc47 ?_
      refine Run.skip (Run.seq (Run.block (Run.seq (Run.region ?_))))
      refine Run.opG wantS_none (ex_move rfl) rfl ?_
      refine Run.opG wantS_none (ex_move rfl) rfl ?_
      refine Run.opG wantS_none (ex_move rfl) rfl ?_
      obtain ⟨x49, hx49, h⟩ := bnd_some h
      obtain ⟨p49, o49, hb49, hx49, he49⟩ := vec_elem (P := Try.prog) (t := 52) (kk := .i64) hH (i := 0) rfl hx49 els52
      refine Run.opG wantS_none (ex_elX rfl rfl hx49) rfl ?_
      refine Run.opG wantS_none (ex_fieldAddr rfl off40_2) rfl ?_
      refine Run.opG wantS_none (ex_load1 rfl ((hH.at (enc := enc40) (a := x49) (i := 0) rfl hb49 he49 enc40_len).fld (o := 2) rfl) rdLe_rfl agg3) rfl ?_
      obtain ⟨r51, hr51, h⟩ := bnd_some h
      refine Run.callP wantS_none (ex_call rfl mkk47 cal47) rfl (ref08_chance_ok F l43 x49.Loud s43 _ _ (hH.slc (i := 1) rfl enc3_len) hr51) ?_
      refine Run.opX wantS_none rfl (ExG.new (v := fun b => .ptr b 0) (ex_alloc zer42) hH) ?_
      rintro _ M55 ⟨b54, rfl, hH55⟩
      refine Run.opX wantS_none rfl (ExG.storeC (c' := [(.int .i64 r51.N), (.int .i64 r51.Of)]) rfl rfl rfl hH55 (i := 0) rfl sz42 rfl rfl rfl rfl rfl) ?_
      rintro _ M56 ⟨rfl, (hH56 : Has Fr M56 [.obj b54 (.row 42 .whole [(.int .i64 r51.N), (.int .i64 r51.Of)]), .vec 40 3 l40.length s40 (l40.flatMap enc40), .vec 3 1 l43.length s43 (l43.flatMap enc3), .vec 44 5 l45.length s45 (l45.flatMap enc44)])⟩
      refine Run.opsEnd (Run.seq (Run.region ?_))
      refine Run.opG wantS_none (ex_fieldAddr rfl off42_0) rfl ?_
      refine Run.opG wantS_none (ex_load1 rfl (hH56.cells (i := 0) rfl 0 rfl) rdLe_rfl agg3) rfl ?_
      refine Run.opG wantS_none (ex_move rfl) rfl ?_
      refine Run.opG wantS_none (ex_leq rfl rfl) rfl ?_
      refine Run.opsEnd ?_
      rcases btf ((decide (r51.N ≤ v5))) with hc57 | hc57
      · have h := bif_t hc57 h
        refine Run.condT' rfl hc57 ?_
        refine Run.drawG plan15_1_1_1_1_1_1_0_1_0_0_1_0_0_1_1_0 ?_
        refine DrawG.fl rfl (ev_ex wantS_none (ex_move rfl)) rfl ?_
        refine DrawG.fl rfl (ev_ex wantS_none (ex_move rfl)) rfl ?_
        refine DrawG.fl rfl (ev_ex wantS_none (ex_move rfl)) rfl ?_
        obtain ⟨x58, hx58, h⟩ := bnd_some h
        obtain ⟨p58, o58, hb58, hx58, he58⟩ := vec_elem (P := Try.prog) (t := 52) (kk := .i64) hH56 (i := 1) rfl hx58 els52
        refine DrawG.fl rfl (ev_ex wantS_none (ex_elX rfl rfl hx58)) rfl ?_
        refine DrawG.fl rfl (ev_ex wantS_none (ex_loadA rfl (hH56.at (enc := enc40) (a := x58) (i := 1) rfl hb58 he58 enc40_len) rdLe_rfl agg40 rfl rfl rfl)) rfl ?_
        refine DrawG.fl rfl (ev_ex wantS_none (ex_loadA rfl (hH56.cells (i := 0) rfl 0 rfl) rdLe_rfl agg42 rfl rfl rfl)) rfl ?_
        refine DrawG.fl rfl (ev_ex wantS_none (ex_build (r := [(.int .i64 x58.A), (.int .i64 x58.B), (.int .i64 x58.Loud), (.int .i64 r51.N), (.int .i64 r51.Of)]) rfl zer44 pls44 rfl)) rfl ?_
        refine DrawG.opX rfl wantS_none rfl (ExG.built (enc := enc44) (l := ([(S_api_Candidate.mk x58 r51)] : List S_api_Candidate)) (z := 5) rfl elt36 rfl rfl rfl enc44_len hH56) ?_
        rintro s59 M60 (hH60 : Has Fr M60 [.vec 44 5 ([(S_api_Candidate.mk x58 r51)] : List S_api_Candidate).length s59 (([(S_api_Candidate.mk x58 r51)] : List S_api_Candidate).flatMap enc44), .obj b54 (.row 42 .whole [(.int .i64 r51.N), (.int .i64 r51.Of)]), .vec 40 3 l40.length s40 (l40.flatMap enc40), .vec 3 1 l43.length s43 (l43.flatMap enc3), .vec 44 5 l45.length s45 (l45.flatMap enc44)])
        refine ⟨(st_cons rfl (ev_ex wantS_none (ex_move rfl)) rfl rfl (blk_self hH60 (i := 4) rfl) st_nil), ?_⟩
        obtain ⟨l61, hl61, h⟩ := bnd_some h
        refine DrawG.opX rfl wantS_none rfl (ExG.append rfl rfl hH60 (i := 4) rfl enc44_len rfl enc44_ones appt36_36 rfl (len_slc (hH60.slc (i := 0) rfl enc44_len)) (first_slc (hH60.slc (i := 0) rfl enc44_len) (rdLe_rdRow _) enc44_len) hl61) ?_
        rintro s61 M63 (hH63 : Has Fr M63 [.vec 44 5 ([(S_api_Candidate.mk x58 r51)] : List S_api_Candidate).length s59 (([(S_api_Candidate.mk x58 r51)] : List S_api_Candidate).flatMap enc44), .obj b54 (.row 42 .whole [(.int .i64 r51.N), (.int .i64 r51.Of)]), .vec 40 3 l40.length s40 (l40.flatMap enc40), .vec 3 1 l43.length s43 (l43.flatMap enc3), .vec 44 5 l61.length s61 (l61.flatMap enc44)])
        refine ⟨st_nil, ?_⟩
        refine DrawG.val rfl wantS_none (ex_assign rfl) rfl st_nil ?_
        refine DrawG.sync ?_
        refine DrawG.nil ?_
        refine Run.inBlock (Run.region ?_)
        exact Run.pick [5, 16, 17, 18, 19] (ref08_Candidates_2_ok F (ref08_Candidates_1 F N) ih v5 v19 l40 l43 l61 s40 s43 s61 _ _ _ (hH63.pick [2, 3, 4] rfl rfl) h)
      · have h := bif_f hc57 h
        refine Run.condF' rfl hc57 ?_
        refine Run.skip (Run.inBlock (Run.region ?_))
        exact Run.pick [5, 16, 17, 18, 19] (ref08_Candidates_2_ok F (ref08_Candidates_1 F N) ih v5 v19 l40 l43 l45 s40 s43 s45 _ _ _ (hH56.pick [1, 2, 3] rfl rfl) h)
    · have h := bif_f hc47 h
      refine Run.condF' rfl hc47 ?_
      refine Run.exit rfl (Run.seq (Run.region ?_))
      refine Run.opG wantS_none (ex_move rfl) rfl ?_
      refine Run.opG wantS_none (ex_assign rfl) rfl ?_
      refine Run.opG wantS_none (ex_assign rfl) rfl ?_
      refine Run.opsEnd ?_
      cases h
      exact Run.ret Try.func15 rfl (res_tmp rfl (res_tmp rfl res_nil)) ⟨_, rfl, (hH.pick [2] rfl rfl).upF (none_le _)⟩

def ref08_Candidates (F : Nat) (a0 a1 : (List S_api_Trigger)) (a2 a3 a4 a5 : Int) : Option ((List S_api_Candidate) × Int) :=
  bnd (ref08_ready F a0 a1 (S_ringdownref08_Clock.mk a2 a3 a4)) fun r26 =>
  bif (!(r26 == (0 : Int))) then
    some (([] : List S_api_Candidate), r26)
  else
    bnd (nz a4) fun z32 =>
    bnd (ref00_In F a5 (0 : Int) (w64 (Int.tdiv a2 a4))) fun r34 =>
    bif (!r34) then
      some (([] : List S_api_Candidate), (8 : Int))
    else
      bnd (ref08_coincide F a0 a1 (S_ringdownref08_Clock.mk a2 a3 a4)) fun r39 =>
      bnd (ref08_statistics F a0 a1 (S_ringdownref08_Clock.mk a2 a3 a4)) fun r42 =>
      ref08_Candidates_1 F F a5 (0 : Int) r39 r42 ([] : List S_api_Candidate)

theorem ref08_Candidates_ok (F : Nat) (a0 a1 : (List S_api_Trigger)) (a2 a3 a4 a5 : Int) (s0 s1 : SV) (r : (List S_api_Candidate) × Int) (M : Mem) (hs0 : Slc (rd M) 3 (FlatR enc73) s0 a0) (hs1 : Slc (rd M) 3 (FlatR enc73) s1 a1) (h : ref08_Candidates F a0 a1 a2 a3 a4 a5 = some r) : CallsM Try.prog 15 [s0, s1, (.int .i64 a2), (.int .i64 a3), (.int .i64 a4), (.int .i64 a5)] M (fun s M' => ∃ q1, s = (.tuple [q1, (.int .i64 r.2)]) ∧ New M M' [.vec 44 5 r.1.length q1 (r.1.flatMap enc44)]) := by
  refine CallsM.fresh (Q := ref08_Candidates_post r) Try.func15 rfl rfl ?_ (by rintro s Me ⟨q1, rfl, hx⟩ ha hw; exact ⟨_, rfl, New.of rfl hx ha hw⟩)
  rw [ref08_Candidates] at h
  replace hs0 := hs0.mono (rdLe_frozen M) (fun _ _ h => h)
  replace hs1 := hs1.mono (rdLe_frozen M) (fun _ _ h => h)
  have hH := Has.nil (frozen M)
  refine Run.seq (Run.region ?_)
  refine Run.opG wantS_none (ex_assign rfl) rfl ?_
  refine Run.opG wantS_none (ex_assign rfl) rfl ?_
  refine Run.opsEnd (Run.seq (Run.region ?_))
  refine Run.opG wantS_none (ex_move rfl) rfl ?_
  refine Run.opG wantS_none (ex_move rfl) rfl ?_
  refine Run.opG wantS_none (ex_move rfl) rfl ?_
  refine Run.opG wantS_none (ex_build (r := [(.int .i64 a2), (.int .i64 a3), (.int .i64 a4)]) rfl zer90 pls90 rfl) rfl ?_
  refine Run.opX wantS_none rfl (ExG.new (v := fun b => .ptr b 0) (ex_alloc zer90) hH) ?_
  rintro _ M23 ⟨b22, rfl, hH23⟩
  refine Run.opX wantS_none rfl (ExG.storeC (c' := [(.int .i64 a2), (.int .i64 a3), (.int .i64 a4)]) rfl rfl rfl hH23 (i := 0) rfl sz90 rfl rfl rfl rfl rfl) ?_
  rintro _ M24 ⟨rfl, (hH24 : Has (ro (frozen M)) M24 [.obj b22 (.row 90 .whole [(.int .i64 a2), (.int .i64 a3), (.int .i64 a4)])])⟩
  refine Run.opsEnd (Run.seq (Run.seq (Run.region ?_)))
  refine Run.opG wantS_none (ex_move rfl) rfl ?_
  refine Run.opG wantS_none (ex_move rfl) rfl ?_
  refine Run.opG wantS_none (ex_loadA rfl (hH24.cells (i := 0) rfl 0 rfl) rdLe_rfl agg90 rfl rfl rfl) rfl ?_
  obtain ⟨r26, hr26, h⟩ := bnd_some h
  refine Run.callP wantS_none (ex_call rfl mkk44 cal44) rfl (ref08_ready_ok F a0 a1 (S_ringdownref08_Clock.mk a2 a3 a4) s0 s1 _ _ (hH24.slcF hs0) (hH24.slcF hs1) hr26) ?_
  refine Run.opG wantS_none (ex_assign rfl) rfl ?_
  refine Run.opsEnd (Run.seq (Run.region ?_))
  refine Run.opG wantS_none (ex_move rfl) rfl ?_
  refine Run.opG wantS_none (ex_neq rfl rfl) rfl ?_
  refine Run.opsEnd ?_
  rcases btf ((!(r26 == (0 : Int)))) with hc28 | hc28
  · have h := bif_t hc28 h
    refine Run.condT' rfl hc28 ?_
    refine Run.seq (Run.region ?_)
    refine Run.opG wantS_none (ex_move rfl) rfl ?_
    refine Run.opG wantS_none (ex_assign rfl) rfl ?_
    refine Run.opG wantS_none (ex_assign rfl) rfl ?_
    refine Run.opsEnd ?_
    have hH30 : Has (ro (frozen M)) M24 [.vec 44 5 ([] : List S_api_Candidate).length .nils (([] : List S_api_Candidate).flatMap enc44), .obj b22 (.row 90 .whole [(.int .i64 a2), (.int .i64 a3), (.int .i64 a4)])] := hH24.nils 44 5
    cases h
    exact Run.ret Try.func15 rfl (res_tmp rfl (res_tmp rfl res_nil)) ⟨_, rfl, (hH30.pick [0] rfl rfl).upF (none_le _)⟩
  · have h := bif_f hc28 h
    refine Run.condF' rfl hc28 ?_
    refine Run.skip (Run.seq (Run.seq (Run.region ?_)))
    refine Run.opG wantS_none (ex_move rfl) rfl ?_
    refine Run.opG wantS_none (ex_move rfl) rfl ?_
    refine Run.opG wantS_none (ex_move rfl) rfl ?_
    obtain ⟨z32, hz32, h⟩ := bnd_some h
    refine Run.opG wantS_none (ex_quo' rfl rfl hz32) rfl ?_
    obtain ⟨r34, hr34, h⟩ := bnd_some h
    refine Run.callP wantS_none (ex_call rfl mkk21 cal21) rfl (ref00_In_ok F a5 (0 : Int) (w64 (Int.tdiv a2 a4)) _ _ hr34) ?_
    refine Run.opG wantS_none (ex_not rfl) rfl ?_
    refine Run.opsEnd ?_
    rcases btf ((!r34)) with hc36 | hc36
    · have h := bif_t hc36 h
      refine Run.condT' rfl hc36 ?_
      refine Run.seq (Run.region ?_)
      refine Run.opG wantS_none (ex_assign rfl) rfl ?_
      refine Run.opG wantS_none (ex_assign rfl) rfl ?_
      refine Run.opsEnd ?_
      have hH38 : Has (ro (frozen M)) M24 [.vec 44 5 ([] : List S_api_Candidate).length .nils (([] : List S_api_Candidate).flatMap enc44), .obj b22 (.row 90 .whole [(.int .i64 a2), (.int .i64 a3), (.int .i64 a4)])] := hH24.nils 44 5
      cases h
      exact Run.ret Try.func15 rfl (res_tmp rfl (res_tmp rfl res_nil)) ⟨_, rfl, (hH38.pick [0] rfl rfl).upF (none_le _)⟩
    · have h := bif_f hc36 h
      refine Run.condF' rfl hc36 ?_
      refine Run.skip (Run.seq ?_)
      refine Run.drawG plan15_1_1_1_1_0 ?_
      refine DrawG.fl rfl (ev_ex wantS_none (ex_move rfl)) rfl ?_
      refine DrawG.fl rfl (ev_ex wantS_none (ex_move rfl)) rfl ?_
      refine DrawG.fl rfl (ev_ex wantS_none (ex_loadA rfl (hH24.cells (i := 0) rfl 0 rfl) rdLe_rfl agg90 rfl rfl rfl)) rfl ?_
      refine DrawG.fl rfl (ev_ex wantS_none (ex_move rfl)) rfl ?_
      refine DrawG.fl rfl (ev_ex wantS_none (ex_move rfl)) rfl ?_
      refine DrawG.fl rfl (ev_ex wantS_none (ex_loadA rfl (hH24.cells (i := 0) rfl 0 rfl) rdLe_rfl agg90 rfl rfl rfl)) rfl ?_
      obtain ⟨r39, hr39, h⟩ := bnd_some h
      refine DrawG.call rfl wantS_none (ex_call rfl mkk45 cal45) rfl (ref08_coincide_ok F a0 a1 (S_ringdownref08_Clock.mk a2 a3 a4) s0 s1 _ _ (hH24.slcF hs0) (hH24.slcF hs1) hr39) ?_
      rintro s39_0 M41 ⟨_, rfl, hN39⟩
      have hH41 : Has (ro (frozen M)) M41 [.vec 40 3 r39.length s39_0 (r39.flatMap enc40), .obj b22 (.row 90 .whole [(.int .i64 a2), (.int .i64 a3), (.int .i64 a4)])] := hN39.1 _ _ hH24
      refine ⟨(st_cons rfl (ev_ex wantS_none (ex_loadA rfl (hH41.cells (i := 1) rfl 0 rfl) rdLe_rfl agg90 rfl rfl rfl)) rfl rfl rfl (st_cons rfl (ev_ex wantS_none (ex_move rfl)) rfl rfl (slc_self hs1) (st_cons rfl (ev_ex wantS_none (ex_move rfl)) rfl rfl (slc_self hs0) st_nil))), ?_⟩
      obtain ⟨r42, hr42, h⟩ := bnd_some h
      refine DrawG.call rfl wantS_none (ex_call rfl mkk46 cal46) rfl (ref08_statistics_ok F a0 a1 (S_ringdownref08_Clock.mk a2 a3 a4) s0 s1 _ _ (hH41.slcF hs0) (hH41.slcF hs1) hr42) ?_
      rintro s42_0 M44 ⟨_, rfl, hN42⟩
      have hH44 : Has (ro (frozen M)) M44 [.vec 3 1 r42.length s42_0 (r42.flatMap enc3), .vec 40 3 r39.length s39_0 (r39.flatMap enc40), .obj b22 (.row 90 .whole [(.int .i64 a2), (.int .i64 a3), (.int .i64 a4)])] := hN42.1 _ _ hH41
      refine ⟨st_nil, ?_⟩
      refine DrawG.fl rfl (ev_ex wantS_none (ex_assign rfl)) rfl ?_
      refine DrawG.fl rfl (ev_ex wantS_none (ex_assign rfl)) rfl ?_
      refine DrawG.sync ?_
      refine DrawG.nil ?_
      refine Run.seq (Run.region ?_)
      refine Run.opG wantS_none (ex_assign rfl) rfl ?_
      refine Run.opsEnd (Run.seq (Run.seq (Run.region ?_)))
      refine Run.opG wantS_none (ex_assign rfl) rfl ?_
      refine Run.opsEnd (Run.block (Run.loop ?_))
      have hH46 : Has (ro (frozen M)) M44 [.vec 44 5 ([] : List S_api_Candidate).length .nils (([] : List S_api_Candidate).flatMap enc44), .vec 3 1 r42.length s42_0 (r42.flatMap enc3), .vec 40 3 r39.length s39_0 (r39.flatMap enc40), .obj b22 (.row 90 .whole [(.int .i64 a2), (.int .i64 a3), (.int .i64 a4)])] := hH44.nils 44 5
      exact Run.pick [5, 16, 17, 18, 19] (ref08_Candidates_1_ok F F a5 (0 : Int) r39 r42 ([] : List S_api_Candidate) s39_0 s42_0 .nils _ _ _ (hH46.pick [2, 1, 0] rfl rfl) h)

theorem mkk15 : makeK Try.prog 15 = none := by kernel_rfl
theorem cal15 : callable Try.prog 15 = true := by kernel_rfl
theorem lenk36 : lenK Try.prog 36 = some .sl := by kernel_rfl
theorem els36 : elems Try.prog 36 = some (.sl 5) := by kernel_rfl
theorem agk3 : aggK Try.prog 3 = some .int := by kernel_rfl
theorem agk42 : aggK Try.prog 42 = some (.st [⟨ "N", 3, 0, false, "", "", 0⟩, ⟨ "Of", 3, 1, false, "", "", 8⟩]) := by kernel_rfl
theorem agk40 : aggK Try.prog 40 = some (.st [⟨ "A", 3, 0, false, "", "", 0⟩, ⟨ "B", 3, 1, false, "", "", 8⟩, ⟨ "Loud", 3, 2, false, "", "", 16⟩]) := by kernel_rfl
theorem agk44 : aggK Try.prog 44 = some (.st [⟨ "Pair", 40, 0, false, "", "", 0⟩, ⟨ "Chance", 42, 3, false, "", "", 24⟩]) := by kernel_rfl
theorem aeq44 : aggEq Try.prog 44 = false := by kernel_rfl
theorem plan4_1_1_1_1_0_1_0_0_1_0_0_0 : planOf Try.prog (opsC (atC Try.prog 4 [1, 1, 1, 1, 0, 1, 0, 0, 1, 0, 0, 0])) = some [.fl 0, .fl 1, .fl 2, .fl 3, .fl 4, .fl 5, .fl 6, .fl 7, .fl 8, .sync] := by kernel_rfl
theorem mkk12 : makeK Try.prog 12 = none := by kernel_rfl
theorem cal12 : callable Try.prog 12 = true := by kernel_rfl
abbrev law08_SearchCandidates_post (r : Bool) : SV → Mem → Prop := fun s _ => s = (.bool r)

def law08_SearchCandidates_2 (F : Nat) : Nat → Int → (List S_api_Candidate) → (List S_api_Candidate) → Option (Bool)
  | 0, _, _, _ => none
  | N + 1, v11, l27, l32 =>
    bif (decide (v11 < (l27.length : Int))) then
      bnd (idx l27 v11) fun x37 =>
      bnd (idx l32 v11) fun x38 =>
      bif (!(((x37.Pair.A == x38.Pair.A) && ((x37.Pair.B == x38.Pair.B) && ((x37.Pair.Loud == x38.Pair.Loud) && true))) && (((x37.Chance.N == x38.Chance.N) && ((x37.Chance.Of == x38.Chance.Of) && true)) && true))) then
        some false
      else
        (law08_SearchCandidates_2 F N) (w64 (v11 + (1 : Int))) l27 l32
    else
      bnd (works F) fun r41 =>
      some r41

theorem law08_SearchCandidates_2_ok (F : Nat) : ∀ (N : Nat), ∀ (v11 : Int) (l27 l32 : (List S_api_Candidate)) (s27 s32 : SV) (Fr : Rd) (M : Mem) (r : Bool) (hH : Has Fr M [.vec 44 5 l27.length s27 (l27.flatMap enc44), .vec 44 5 l32.length s32 (l32.flatMap enc44)]), law08_SearchCandidates_2 F N v11 l27 l32 = some r → Run Try.prog ⟨⟨4, [], none⟩, []⟩ 66 (law08_SearchCandidates_post r) [(7, s27), (9, s32), (11, (.int .i64 v11))] [codeC Try.prog 4 [1, 1, 1, 1, 0, 1, 0, 0], loopC Try.prog 4 [1, 1, 1, 1, 0, 1, 0, 0], .inBlock 0, codeC Try.prog 4 [1, 1, 1, 1, 1]] M := by
  intro N
  induction N with
  | zero =>
    intro v11 l27 l32 s27 s32 Fr M r hH h
    simp [law08_SearchCandidates_2] at h
  | succ N ih =>
    intro v11 l27 l32 s27 s32 Fr M r hH h
    rw [law08_SearchCandidates_2] at h
    refine Run.seq (Run.seq (Run.region ?_))
    refine Run.opG wantS_none (ex_move rfl) rfl ?_
    refine Run.opG wantS_none (ex_move rfl) rfl ?_
    refine Run.opG wantS_none (ex_len' rfl (hH.slc (i := 0) rfl enc44_len) lenk36) rfl ?_
    refine Run.opG wantS_none (ex_lss rfl rfl) rfl ?_
    refine Run.opsEnd ?_
    rcases btf ((decide (v11 < (l27.length : Int)))) with hc36 | hc36
    · have h := bif_t hc36 h
      refine Run.condT' rfl hc36 ?_
      refine Run.skip (Run.seq (Run.block (Run.seq ?_)))
      refine Run.drawG plan4_1_1_1_1_0_1_0_0_1_0_0_0 ?_
      refine DrawG.fl rfl (ev_ex wantS_none (ex_move rfl)) rfl ?_
      refine DrawG.fl rfl (ev_ex wantS_none (ex_move rfl)) rfl ?_
      obtain ⟨x37, hx37, h⟩ := bnd_some h
      obtain ⟨p37, o37, hb37, hx37, he37⟩ := vec_elem (P := Try.prog) (t := 36) (kk := .i64) hH (i := 0) rfl hx37 els36
      refine DrawG.fl rfl (ev_ex wantS_none (ex_elX rfl rfl hx37)) rfl ?_
      refine DrawG.fl rfl (ev_ex wantS_none (ex_loadA rfl (hH.at (enc := enc44) (a := x37) (i := 0) rfl hb37 he37 enc44_len) rdLe_rfl agg44 rfl rfl rfl)) rfl ?_
      refine DrawG.fl rfl (ev_ex wantS_none (ex_move rfl)) rfl ?_
      refine DrawG.fl rfl (ev_ex wantS_none (ex_move rfl)) rfl ?_
      obtain ⟨x38, hx38, h⟩ := bnd_some h
      obtain ⟨p38, o38, hb38, hx38, he38⟩ := vec_elem (P := Try.prog) (t := 36) (kk := .i64) hH (i := 1) rfl hx38 els36
      refine DrawG.fl rfl (ev_ex wantS_none (ex_elX rfl rfl hx38)) rfl ?_
      refine DrawG.fl rfl (ev_ex wantS_none (ex_loadA rfl (hH.at (enc := enc44) (a := x38) (i := 1) rfl hb38 he38 enc44_len) rdLe_rfl agg44 rfl rfl rfl)) rfl ?_
      refine DrawG.fl rfl (ev_ex wantS_none (ex_neqA rfl rfl aeq44 (eqA_st agk44 (eqFs_cons (by decide) (part_agg agg40 rfl) (part_agg agg40 rfl) (eqA_st agk40 (eqFs_cons (by decide) (part_one agg3 rfl) (part_one agg3 rfl) (eqA_int agk3) (eqFs_cons (by decide) (part_one agg3 rfl) (part_one agg3 rfl) (eqA_int agk3) (eqFs_cons (by decide) (part_one agg3 rfl) (part_one agg3 rfl) (eqA_int agk3) eqFs_nil)))) (eqFs_cons (by decide) (part_agg agg42 rfl) (part_agg agg42 rfl) (eqA_st agk42 (eqFs_cons (by decide) (part_one agg3 rfl) (part_one agg3 rfl) (eqA_int agk3) (eqFs_cons (by decide) (part_one agg3 rfl) (part_one agg3 rfl) (eqA_int agk3) eqFs_nil))) eqFs_nil))))) rfl ?_
      refine DrawG.sync ?_
      refine DrawG.nil ?_
      rcases btf ((!(((x37.Pair.A == x38.Pair.A) && ((x37.Pair.B == x38.Pair.B) && ((x37.Pair.Loud == x38.Pair.Loud) && true))) && (((x37.Chance.N == x38.Chance.N) && ((x37.Chance.Of == x38.Chance.Of) && true)) && true)))) with hc39 | hc39
      · have h := bif_t hc39 h
        refine Run.condT' rfl hc39 ?_
        refine Run.seq (Run.region ?_)
        refine Run.opG wantS_none (ex_assign rfl) rfl ?_
        refine Run.opsEnd ?_
        cases h
        exact Run.ret Try.func4 rfl (res_tmp rfl res_nil) rfl
      · have h := bif_f hc39 h
        refine Run.condF' rfl hc39 ?_
        refine Run.skip (Run.inBlock (Run.region ?_))
        refine Run.opG wantS_none (ex_move rfl) rfl ?_
        refine Run.opG wantS_none (ex_add rfl rfl) rfl ?_
        refine Run.opG wantS_none (ex_assign rfl) rfl ?_
        refine Run.opsEnd (Run.inLoop ?_)
        exact Run.pick [7, 9, 11] (ih (w64 (v11 + (1 : Int))) l27 l32 s27 s32 _ _ _ hH h)
    · have h := bif_f hc36 h
      refine Run.condF' rfl hc36 ?_
      refine Run.exit rfl (Run.seq (Run.region ?_))
      obtain ⟨r41, hr41, h⟩ := bnd_some h
      refine Run.callP wantS_none (ex_call rfl mkk12 cal12) rfl (works_ok F r41 _ hH  hr41) ?_
      refine Run.opG wantS_none (ex_assign rfl) rfl ?_
      refine Run.opsEnd ?_
      cases h
      exact Run.ret Try.func4 rfl (res_tmp rfl res_nil) rfl

def law08_SearchCandidates_1 (F : Nat) (v49 : Bool) (l27 l32 : (List S_api_Candidate)) : Option (Bool) :=
  bif v49 then
    some false
  else
    law08_SearchCandidates_2 F F (0 : Int) l27 l32

theorem law08_SearchCandidates_1_ok (F : Nat) : ∀ (v49 : Bool) (l27 l32 : (List S_api_Candidate)) (s27 s32 : SV) (Fr : Rd) (M : Mem) (r : Bool) (hH : Has Fr M [.vec 44 5 l27.length s27 (l27.flatMap enc44), .vec 44 5 l32.length s32 (l32.flatMap enc44)]), law08_SearchCandidates_1 F v49 l27 l32 = some r → Run Try.prog ⟨⟨4, [], none⟩, []⟩ 66 (law08_SearchCandidates_post r) [(7, s27), (9, s32), (49, (.bool v49))] [codeC Try.prog 4 [1, 1, 1, 0, 1], codeC Try.prog 4 [1, 1, 1, 1]] M := by
  intro v49 l27 l32 s27 s32 Fr M r hH h
  rw [law08_SearchCandidates_1] at h
  rcases btf (v49) with hc35 | hc35
  · have h := bif_t hc35 h
    refine Run.condT' rfl hc35 ?_
    refine Run.seq (Run.region ?_)
    refine Run.opG wantS_none (ex_assign rfl) rfl ?_
    refine Run.opsEnd ?_
    cases h
    exact Run.ret Try.func4 rfl (res_tmp rfl res_nil) rfl
  · have h := bif_f hc35 h
    refine Run.condF' rfl hc35 ?_
    refine Run.skip (Run.seq (Run.seq (Run.region ?_)))
    refine Run.opG wantS_none (ex_assign rfl) rfl ?_
    refine Run.opsEnd (Run.block (Run.loop ?_))
    exact Run.pick [7, 9, 11] (law08_SearchCandidates_2_ok F F (0 : Int) l27 l32 s27 s32 _ _ _ hH h)

def law08_SearchCandidates (F : Nat) (a0 a1 : (List S_api_Trigger)) (a2 : S_ringdownlaw08_Clock) : Option (Bool) :=
  bnd (search_Candidates F a0 a1 a2.Live a2.Window a2.Step a2.Limit) fun r26 =>
  bnd (ref08_Candidates F a0 a1 a2.Live a2.Window a2.Step a2.Limit) fun r31 =>
  bif (!((r26.1.length : Int) == (r31.1.length : Int))) then
    law08_SearchCandidates_1 F true r26.1 r31.1
  else
    law08_SearchCandidates_1 F (!(r26.2 == r31.2)) r26.1 r31.1

theorem law08_SearchCandidates_run (F : Nat) (a0 a1 : (List S_api_Trigger)) (a2 : S_ringdownlaw08_Clock) (s0 s1 : SV) (r : Bool) (M : Mem) (hs0 : Slc (rd M) 3 (FlatR enc73) s0 a0) (hs1 : Slc (rd M) 3 (FlatR enc73) s1 a1) (hfx : FixIn M fixes) (h : law08_SearchCandidates F a0 a1 a2 = some r) : Run Try.prog (fx0 4) 66 (law08_SearchCandidates_post r) [(0, s0), (1, s1), (2, (.agg [(.int .i64 a2.Live), (.int .i64 a2.Window), (.int .i64 a2.Step), (.int .i64 a2.Limit)]))] [codeC Try.prog 4 []] (frozen M) := by
  rw [law08_SearchCandidates] at h
  replace hs0 := hs0.mono (rdLe_frozen M) (fun _ _ h => h)
  replace hs1 := hs1.mono (rdLe_frozen M) (fun _ _ h => h)
  have hH : Has (ro (frozen M)) (frozen M) [] := Has.ofFix hfx.frozen
  refine Run.seq (Run.region ?_)
  refine Run.opX wantS_none rfl (ExG.box rfl rfl hH) ?_
  rintro _ M23 ⟨b22, rfl, hH23⟩
  refine Run.opG wantS_none (ex_assign rfl) rfl ?_
  refine Run.opsEnd (Run.seq (Run.region ?_))
  refine Run.opG wantS_none (ex_move rfl) rfl ?_
  refine Run.opG wantS_none (ex_move rfl) rfl ?_
  refine Run.opG wantS_none (ex_fieldAddr rfl off35_0) rfl ?_
  refine Run.opG wantS_none (ex_load1 rfl (hH23.cells (i := 0) rfl 0 rfl) rdLe_rfl agg3) rfl ?_
  refine Run.opG wantS_none (ex_fieldAddr rfl off35_1) rfl ?_
  refine Run.opG wantS_none (ex_load1 rfl (hH23.cells (i := 0) rfl 1 rfl) rdLe_rfl agg3) rfl ?_
  refine Run.opG wantS_none (ex_fieldAddr rfl off35_2) rfl ?_
  refine Run.opG wantS_none (ex_load1 rfl (hH23.cells (i := 0) rfl 2 rfl) rdLe_rfl agg3) rfl ?_
  refine Run.opG wantS_none (ex_fieldAddr rfl off35_3) rfl ?_
  refine Run.opG wantS_none (ex_load1 rfl (hH23.cells (i := 0) rfl 3 rfl) rdLe_rfl agg3) rfl ?_
  obtain ⟨r26, hr26, h⟩ := bnd_some h
  refine Run.callX wantS_none (ex_call rfl mkk14 cal14) rfl (search_Candidates_ok F a0 a1 a2.Live a2.Window a2.Step a2.Limit s0 s1 _ _ (hH23.slcF hs0) (hH23.slcF hs1) hr26) ?_
  rintro _ M28 ⟨s26_0, rfl, hN26⟩
  have hH28 : Has (ro (frozen M)) M28 [.vec 44 5 r26.1.length s26_0 (r26.1.flatMap enc44), .obj b22 (.row 35 .whole [(.int .i64 a2.Live), (.int .i64 a2.Window), (.int .i64 a2.Step), (.int .i64 a2.Limit)])] := hN26.1 _ _ hH23
  refine Run.opG wantS_none (ex_move rfl) rfl ?_
  refine Run.opG wantS_none (ex_extract rfl rfl) rfl ?_
  refine Run.opG wantS_none (ex_extract rfl rfl) rfl ?_
  refine Run.opG wantS_none (ex_assign rfl) rfl ?_
  refine Run.opG wantS_none (ex_assign rfl) rfl ?_
  refine Run.opsEnd (Run.seq (Run.region ?_))
  refine Run.opG wantS_none (ex_move rfl) rfl ?_
  refine Run.opG wantS_none (ex_move rfl) rfl ?_
  refine Run.opG wantS_none (ex_fieldAddr rfl off35_0) rfl ?_
  refine Run.opG wantS_none (ex_load1 rfl (hH28.cells (i := 1) rfl 0 rfl) rdLe_rfl agg3) rfl ?_
  refine Run.opG wantS_none (ex_fieldAddr rfl off35_1) rfl ?_
  refine Run.opG wantS_none (ex_load1 rfl (hH28.cells (i := 1) rfl 1 rfl) rdLe_rfl agg3) rfl ?_
  refine Run.opG wantS_none (ex_fieldAddr rfl off35_2) rfl ?_
  refine Run.opG wantS_none (ex_load1 rfl (hH28.cells (i := 1) rfl 2 rfl) rdLe_rfl agg3) rfl ?_
  refine Run.opG wantS_none (ex_fieldAddr rfl off35_3) rfl ?_
  refine Run.opG wantS_none (ex_load1 rfl (hH28.cells (i := 1) rfl 3 rfl) rdLe_rfl agg3) rfl ?_
  obtain ⟨r31, hr31, h⟩ := bnd_some h
  refine Run.callX wantS_none (ex_call rfl mkk15 cal15) rfl (ref08_Candidates_ok F a0 a1 a2.Live a2.Window a2.Step a2.Limit s0 s1 _ _ (hH28.slcF hs0) (hH28.slcF hs1) hr31) ?_
  rintro _ M33 ⟨s31_0, rfl, hN31⟩
  have hH33 : Has (ro (frozen M)) M33 [.vec 44 5 r31.1.length s31_0 (r31.1.flatMap enc44), .vec 44 5 r26.1.length s26_0 (r26.1.flatMap enc44), .obj b22 (.row 35 .whole [(.int .i64 a2.Live), (.int .i64 a2.Window), (.int .i64 a2.Step), (.int .i64 a2.Limit)])] := hN31.1 _ _ hH28
  refine Run.opG wantS_none (ex_move rfl) rfl ?_
  refine Run.opG wantS_none (ex_extract rfl rfl) rfl ?_
  refine Run.opG wantS_none (ex_extract rfl rfl) rfl ?_
  refine Run.opG wantS_none (ex_assign rfl) rfl ?_
  refine Run.opG wantS_none (ex_assign rfl) rfl ?_
  refine Run.opsEnd (Run.seq (Run.seq (Run.region ?_)))
  refine Run.opG wantS_none (ex_move rfl) rfl ?_
  refine Run.opG wantS_none (ex_len' rfl (hH33.slc (i := 1) rfl enc44_len) lenk36) rfl ?_
  refine Run.opG wantS_none (ex_move rfl) rfl ?_
  refine Run.opG wantS_none (ex_len' rfl (hH33.slc (i := 0) rfl enc44_len) lenk36) rfl ?_
  refine Run.opG wantS_none (ex_neq rfl rfl) rfl ?_
  refine Run.opG wantS_none (ex_move rfl) rfl ?_
  rcases btf ((!((r26.1.length : Int) == (r31.1.length : Int)))) with hc34 | hc34
  · have h := bif_t hc34 h
    refine Run.no (wantS_not' rfl rfl hc34) rfl ?_
    refine Run.no (wantS_not' rfl rfl hc34) rfl ?_
    refine Run.no (wantS_not' rfl rfl hc34) rfl ?_
    refine Run.opG wantS_none (ex_pickT' rfl hc34 rfl rfl) rfl ?_
    refine Run.opsEnd ?_
    exact Run.pick [7, 9, 49] (law08_SearchCandidates_1_ok F true r26.1 r31.1 s26_0 s31_0 _ _ _ (hH33.pick [1, 0] rfl rfl) h)
  · have h := bif_f hc34 h
    refine Run.opG (wantS_yes' rfl rfl hc34) (ex_move rfl) rfl ?_
    refine Run.opG (wantS_yes' rfl rfl hc34) (ex_move rfl) rfl ?_
    refine Run.opG (wantS_yes' rfl rfl hc34) (ex_neq rfl rfl) rfl ?_
    refine Run.opG wantS_none (ex_pickF' rfl hc34 rfl rfl) rfl ?_
    refine Run.opsEnd ?_
    exact Run.pick [7, 9, 49] (law08_SearchCandidates_1_ok F (!(r26.2 == r31.2)) r26.1 r31.1 s26_0 s31_0 _ _ _ (hH33.pick [1, 0] rfl rfl) h)

end Go.Ev.SearchCandidates
