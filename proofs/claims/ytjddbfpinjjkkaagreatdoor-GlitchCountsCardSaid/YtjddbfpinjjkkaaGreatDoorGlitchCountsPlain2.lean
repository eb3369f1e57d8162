/- Plain functions that say what functions of the program come to, and proofs of it, written by a program of the verifier's own. -/
import Derived.Test.YtjddbfpinjjkkaaGreatDoorGlitchCountsPlain
namespace Go.Ev.GlitchCounts
open Go Go.Ev Go.Proofs
set_option maxRecDepth 100000
set_option linter.unusedVariables false

abbrev z01 (r : List S_api_Glitch) : SV → Mem → Prop := fun s Me => ∃ q1, s = q1 ∧ Has (fun _ => none) Me [.vec 57 5 r.length q1 (r.flatMap z03)]

def glitch_glitches_5 (F : Nat) (e : Int → List S_api_Tile → Int → Int → Int → Int → List S_api_Tile → Int → S_api_Tile → List Int → (List (S_glitch_place × Int)) → List S_glitch_place → Option ((List S_api_Glitch))) (v5 : Int) (m : List S_api_Tile) (n p q s : Int) (b : List S_api_Tile) (c : Int) (d : S_api_Tile) (f : List Int) (g : (List (S_glitch_place × Int))) (j : List S_glitch_place) : Option ((List S_api_Glitch)) :=
 e v5 m n p q (w64 (s + (1 : Int))) b c d f g j

theorem z1z (F : Nat) (a4 : Int → List S_api_Tile → Int → Int → Int → Int → List S_api_Tile → Int → S_api_Tile → List Int → (List (S_glitch_place × Int)) → List S_glitch_place → Option ((List S_api_Glitch))) (m : ∀ (v5 : Int) (y : List S_api_Tile) (a0 a1 a2 a3 : Int) (c : List S_api_Tile) (d : Int) (j : S_api_Tile) (n : List Int) (p : (List (S_glitch_place × Int))) (q : List S_glitch_place) (e b s : SV) (u w : Pos) (x : SV) (Fr : Rd) (M : Mem) (r : List S_api_Glitch) (g : Slc Fr 3 (FlatR z04) e y) (f : Slc Fr 3 (FlatR z04) b c) (hH : Has Fr M [.vec 3 1 n.length s (n.flatMap enc3), .obj u (.map (mapES z2a kv3 0 p) p.length), .obj w (.row 59 .whole [(.int .i64 j.Level), (.int .i64 j.At), (.int .i64 j.D)]), .vec 160 2 q.length x (q.flatMap z0n)]), a4 v5 y a0 a1 a2 a3 c d j n p q = some r → Run Tryz.prog ⟨⟨92, [], none⟩, [.mk ⟨52, [], none⟩ 81 (treeOf [(0, b), (1, (.int .i64 d)), (5, s)]) [itemC Tryz.prog 52 [1, 1, 0] 3, codeC Tryz.prog 52 [1, 1, 1]]]⟩ 46 (z01 r) [(1, (.fn (.func 93) [s] [])), (4, (.map u)), (5, (.int .i64 v5)), (6, (.ptr w 0)), (12, e), (13, (.int .i64 a0)), (14, (.int .i64 a1)), (20, x), (21, (.int .i64 a2)), (22, (.int .i64 a3))] [codeC Tryz.prog 92 [1, 1, 0, 0, 1, 1, 0, 0, 1, 0, 1, 0, 0], loopC Tryz.prog 92 [1, 1, 0, 0, 1, 1, 0, 0, 1, 0, 1, 0, 0], .inBlock 2, codeC Tryz.prog 92 [1, 1, 0, 0, 1, 1, 0, 0, 1, 1], .inBlock 1, codeC Tryz.prog 92 [1, 1, 0, 0, 1, 1, 1], loopC Tryz.prog 92 [1, 1, 0, 0], .inBlock 0] M) : ∀ (v5 : Int) (y : List S_api_Tile) (a0 a1 a2 a3 : Int) (c : List S_api_Tile) (d : Int) (j : S_api_Tile) (n : List Int) (p : (List (S_glitch_place × Int))) (q : List S_glitch_place) (e b s : SV) (u w : Pos) (x : SV) (Fr : Rd) (M : Mem) (r : List S_api_Glitch) (g : Slc Fr 3 (FlatR z04) e y) (f : Slc Fr 3 (FlatR z04) b c) (hH : Has Fr M [.vec 3 1 n.length s (n.flatMap enc3), .obj u (.map (mapES z2a kv3 0 p) p.length), .obj w (.row 59 .whole [(.int .i64 j.Level), (.int .i64 j.At), (.int .i64 j.D)]), .vec 160 2 q.length x (q.flatMap z0n)]), glitch_glitches_5 F a4 v5 y a0 a1 a2 a3 c d j n p q = some r → Run Tryz.prog ⟨⟨92, [], none⟩, [.mk ⟨52, [], none⟩ 81 (treeOf [(0, b), (1, (.int .i64 d)), (5, s)]) [itemC Tryz.prog 52 [1, 1, 0] 3, codeC Tryz.prog 52 [1, 1, 1]]]⟩ 46 (z01 r) [(1, (.fn (.func 93) [s] [])), (4, (.map u)), (5, (.int .i64 v5)), (6, (.ptr w 0)), (12, e), (13, (.int .i64 a0)), (14, (.int .i64 a1)), (20, x), (21, (.int .i64 a2)), (22, (.int .i64 a3))] [itemC Tryz.prog 92 [1, 1, 0, 0, 1, 1, 0, 0, 1, 0, 1, 0, 0, 1, 1, 1] 0, loopC Tryz.prog 92 [1, 1, 0, 0, 1, 1, 0, 0, 1, 0, 1, 0, 0], .inBlock 2, codeC Tryz.prog 92 [1, 1, 0, 0, 1, 1, 0, 0, 1, 1], .inBlock 1, codeC Tryz.prog 92 [1, 1, 0, 0, 1, 1, 1], loopC Tryz.prog 92 [1, 1, 0, 0], .inBlock 0] M := by
 intro v5 y a0 a1 a2 a3 c d j n p q e b s u w x Fr M r g f hH h
 rw [glitch_glitches_5] at h
 refine og (ex_add rfl rfl) rfl <| mv rfl rfl ?_
 refine Run.opsEnd (Run.inLoop ?_)
 exact Run.low (.cons (fle_pick [0, 1, 5] rfl) .nil) (Run.pick [1, 4, 5, 6, 12, 13, 14, 20, 21, 22] (m v5 y a0 a1 a2 (w64 (a3 + (1 : Int))) c d j n p q e b s u w x _ _ _ g f hH h))

def glitch_glitches_4 (F : Nat) (s : Int → List S_api_Tile → Int → Int → Int → Int → List S_api_Tile → Int → S_api_Tile → List Int → (List (S_glitch_place × Int)) → List S_glitch_place → Option ((List S_api_Glitch))) : Nat → Int → Int → Int → List S_api_Tile → Int → Int → Int → Int → List S_api_Tile → Int → S_api_Tile → List Int → (List (S_glitch_place × Int)) → List S_glitch_place → Option ((List S_api_Glitch))
 | 0, _, _, _, _, _, _, _, _, _, _, _, _, _, _ => none
 | N + 1, v1, b, p, c, d, e, f, g, m, n, q, j, u, w =>
  bnd (idx j v1) fun a2 =>
  bif (!(a2 == v1)) then
   bnd (idx j v1) fun a3 =>
   bnd (idx j a3) fun a4 =>
   bnd (inn j v1) fun a0 =>
   bnd (upd j a0 a4) fun x =>
   bnd (idx x v1) fun a5 =>
   (glitch_glitches_4 F s N) a5 b p c d e f g m n q x u w
  else
   bnd (inn j (max b v1)) fun a1 =>
   bnd (upd j a1 (min b v1)) fun y =>
   glitch_glitches_5 F s p c d e f g m n q y u w

theorem z35 (F : Nat) (d5 : Int → List S_api_Tile → Int → Int → Int → Int → List S_api_Tile → Int → S_api_Tile → List Int → (List (S_glitch_place × Int)) → List S_glitch_place → Option ((List S_api_Glitch))) (b9 : ∀ (v5 : Int) (d8 : List S_api_Tile) (d9 e0 e1 e2 : Int) (a5 : List S_api_Tile) (a6 : Int) (j : S_api_Tile) (d4 : List Int) (c8 : (List (S_glitch_place × Int))) (c9 : List S_glitch_place) (a7 y d0 : SV) (d1 d2 : Pos) (d3 : SV) (Fr : Rd) (M : Mem) (r : List S_api_Glitch) (c7 : Slc Fr 3 (FlatR z04) a7 d8) (c6 : Slc Fr 3 (FlatR z04) y a5) (hH : Has Fr M [.vec 3 1 d4.length d0 (d4.flatMap enc3), .obj d1 (.map (mapES z2a kv3 0 c8) c8.length), .obj d2 (.row 59 .whole [(.int .i64 j.Level), (.int .i64 j.At), (.int .i64 j.D)]), .vec 160 2 c9.length d3 (c9.flatMap z0n)]), d5 v5 d8 d9 e0 e1 e2 a5 a6 j d4 c8 c9 = some r → Run Tryz.prog ⟨⟨92, [], none⟩, [.mk ⟨52, [], none⟩ 81 (treeOf [(0, y), (1, (.int .i64 a6)), (5, d0)]) [itemC Tryz.prog 52 [1, 1, 0] 3, codeC Tryz.prog 52 [1, 1, 1]]]⟩ 46 (z01 r) [(1, (.fn (.func 93) [d0] [])), (4, (.map d1)), (5, (.int .i64 v5)), (6, (.ptr d2 0)), (12, a7), (13, (.int .i64 d9)), (14, (.int .i64 e0)), (20, d3), (21, (.int .i64 e1)), (22, (.int .i64 e2))] [codeC Tryz.prog 92 [1, 1, 0, 0, 1, 1, 0, 0, 1, 0, 1, 0, 0], loopC Tryz.prog 92 [1, 1, 0, 0, 1, 1, 0, 0, 1, 0, 1, 0, 0], .inBlock 2, codeC Tryz.prog 92 [1, 1, 0, 0, 1, 1, 0, 0, 1, 1], .inBlock 1, codeC Tryz.prog 92 [1, 1, 0, 0, 1, 1, 1], loopC Tryz.prog 92 [1, 1, 0, 0], .inBlock 0] M) : ∀ (N : Nat), ∀ (v1 n u : Int) (d : List S_api_Tile) (e f g m : Int) (q : List S_api_Tile) (s : Int) (j : S_api_Tile) (d4 : List Int) (c8 : (List (S_glitch_place × Int))) (c9 : List S_glitch_place) (b c d0 : SV) (d1 d2 : Pos) (d3 : SV) (Fr : Rd) (M : Mem) (r : List S_api_Glitch) (p : Slc Fr 3 (FlatR z04) b d) (w : Slc Fr 3 (FlatR z04) c q) (hH : Has Fr M [.vec 3 1 d4.length d0 (d4.flatMap enc3), .obj d1 (.map (mapES z2a kv3 0 c8) c8.length), .obj d2 (.row 59 .whole [(.int .i64 j.Level), (.int .i64 j.At), (.int .i64 j.D)]), .vec 160 2 c9.length d3 (c9.flatMap z0n)]), glitch_glitches_4 F d5 N v1 n u d e f g m q s j d4 c8 c9 = some r → Run Tryz.prog ⟨⟨94, [], none⟩, [.mk ⟨93, [], none⟩ 22 (treeOf [(0, d0), (10, (.int .i64 n))]) [itemC Tryz.prog 93 [0] 5, codeC Tryz.prog 93 [1]], .mk ⟨92, [], none⟩ 46 (treeOf [(1, (.fn (.func 93) [d0] [])), (4, (.map d1)), (5, (.int .i64 u)), (6, (.ptr d2 0)), (12, b), (13, (.int .i64 e)), (14, (.int .i64 f)), (20, d3), (21, (.int .i64 g)), (22, (.int .i64 m))]) [itemC Tryz.prog 92 [1, 1, 0, 0, 1, 1, 0, 0, 1, 0, 1, 0, 0, 1, 1, 0, 0, 1, 1, 1, 0] 3, .inBlock 3, codeC Tryz.prog 92 [1, 1, 0, 0, 1, 1, 0, 0, 1, 0, 1, 0, 0, 1, 1, 1], loopC Tryz.prog 92 [1, 1, 0, 0, 1, 1, 0, 0, 1, 0, 1, 0, 0], .inBlock 2, codeC Tryz.prog 92 [1, 1, 0, 0, 1, 1, 0, 0, 1, 1], .inBlock 1, codeC Tryz.prog 92 [1, 1, 0, 0, 1, 1, 1], loopC Tryz.prog 92 [1, 1, 0, 0], .inBlock 0], .mk ⟨52, [], none⟩ 81 (treeOf [(0, c), (1, (.int .i64 s)), (5, d0)]) [itemC Tryz.prog 52 [1, 1, 0] 3, codeC Tryz.prog 52 [1, 1, 1]]]⟩ 26 (z01 r) [(0, d0), (1, (.int .i64 v1))] [codeC Tryz.prog 94 [1, 0, 0, 0], loopC Tryz.prog 94 [1, 0, 0, 0], .inBlock 0, codeC Tryz.prog 94 [1, 1]] M := by
 intro N
 induction N with
 | zero =>
  intro v1 n u d e f g m q s j d4 c8 c9 b c d0 d1 d2 d3 Fr M r p w hH h
  simp [glitch_glitches_4] at h
 | succ N ih =>
  intro v1 n u d e f g m q s j d4 c8 c9 b c d0 d1 d2 d3 Fr M r p w hH h
  rw [glitch_glitches_4] at h
  refine Run.seq (Run.seq (Run.region ?_))
  refine mv rfl rfl <| mv rfl rfl ?_
  obtain ⟨e3, a1, h⟩ := bnd_some h
  obtain ⟨f5, e9, a9, a1, b5⟩ := vec_elem (P := Tryz.prog) (t := 123) (kk := .i64) hH (i := 0) rfl a1 z1m
  refine og (ex_elX rfl rfl a1) rfl <| og (ex_load1 rfl (hH.at (enc := enc3) (a := e3) (i := 0) rfl a9 b5 z06) rdLe_rfl z0u) rfl <| mv rfl rfl <| og (ex_neq rfl rfl) rfl <| Run.opsEnd ?_
  rcases btf ((!(e3 == v1))) with x | x
  ·have h := bif_t x h
   refine Run.condT' rfl x ?_
   refine Run.skip (Run.block (Run.seq (Run.region ?_)))
   refine mv rfl rfl <| mv rfl rfl <| mv rfl rfl <| mv rfl rfl <| mv rfl rfl ?_
   obtain ⟨e7, a2, h⟩ := bnd_some h
   obtain ⟨f6, f0, b0, a2, b6⟩ := vec_elem (P := Tryz.prog) (t := 123) (kk := .i64) hH (i := 0) rfl a2 z1m
   refine og (ex_elX rfl rfl a2) rfl <| og (ex_load1 rfl (hH.at (enc := enc3) (a := e7) (i := 0) rfl b0 b6 z06) rdLe_rfl z0u) rfl ?_
   obtain ⟨e8, a3, h⟩ := bnd_some h
   obtain ⟨f7, f1, b1, a3, b7⟩ := vec_elem (P := Tryz.prog) (t := 123) (kk := .i64) hH (i := 0) rfl a3 z1m
   refine og (ex_elX rfl rfl a3) rfl <| og (ex_load1 rfl (hH.at (enc := enc3) (a := e8) (i := 0) rfl b1 b7 z06) rdLe_rfl z0u) rfl ?_
   obtain ⟨f2, c2, h⟩ := bnd_some h
   obtain ⟨f8, b2, c4⟩ := vec_place (P := Tryz.prog) (t := 123) (kk := .i64) hH (i := 0) rfl c2 z1m
   refine og (ex_elX rfl rfl c4) rfl ?_
   obtain ⟨d6, c0, h⟩ := bnd_some h
   refine ox rfl (ExG.storeEl rfl rfl hH (i := 0) rfl b2 c0 sz3 rfl z06 z1n) ?_
   rintro _ e5 ⟨rfl, (a0 : Has Fr e5 [.vec 3 1 d6.length d0 (d6.flatMap enc3), .obj d1 (.map (mapES z2a kv3 0 c8) c8.length), .obj d2 (.row 59 .whole [(.int .i64 j.Level), (.int .i64 j.At), (.int .i64 j.D)]), .vec 160 2 c9.length d3 (c9.flatMap z0n)])⟩
   refine Run.opsEnd (Run.region ?_)
   refine mv rfl rfl <| mv rfl rfl ?_
   obtain ⟨e4, a4, h⟩ := bnd_some h
   obtain ⟨f9, f3, b3, a4, b8⟩ := vec_elem (P := Tryz.prog) (t := 123) (kk := .i64) a0 (i := 0) rfl a4 z1m
   refine og (ex_elX rfl rfl a4) rfl <| og (ex_load1 rfl (a0.at (enc := enc3) (a := e4) (i := 0) rfl b3 b8 z06) rdLe_rfl z0u) rfl <| av rfl rfl ?_
   refine Run.opsEnd (Run.inBlock (Run.inLoop ?_))
   exact Run.low (.cons (fle_pick [0, 10] rfl) (.cons (fle_pick [1, 4, 5, 6, 12, 13, 14, 20, 21, 22] rfl) (.cons (fle_pick [0, 1, 5] rfl) .nil))) (Run.pick [0, 1] (ih e4 n u d e f g m q s j d6 c8 c9 b c d0 d1 d2 d3 _ _ _ p w a0 h))
  ·have h := bif_f x h
   refine Run.condF' rfl x ?_
   refine Run.exit rfl (Run.seq (Run.region ?_))
   refine mv rfl rfl <| av rfl rfl <| Run.opsEnd <| Run.retTo Tryz.func94 rfl (res_tmp rfl res_nil) rfl <| av rfl rfl <| av rfl rfl ?_
   refine Run.opsEnd (Run.region ?_)
   refine mv rfl rfl <| mv rfl rfl <| mv rfl rfl <| og (ex_max rfl rfl) rfl <| mv rfl rfl <| mv rfl rfl <| og (ex_min rfl rfl) rfl ?_
   obtain ⟨f4, c3, h⟩ := bnd_some h
   obtain ⟨g0, b4, c5⟩ := vec_place (P := Tryz.prog) (t := 123) (kk := .i64) hH (i := 0) rfl c3 z1m
   refine og (ex_elX rfl rfl c5) rfl ?_
   obtain ⟨d7, c1, h⟩ := bnd_some h
   refine ox rfl (ExG.storeEl rfl rfl hH (i := 0) rfl b4 c1 sz3 rfl z06 z1n) ?_
   rintro _ e6 ⟨rfl, (a8 : Has Fr e6 [.vec 3 1 d7.length d0 (d7.flatMap enc3), .obj d1 (.map (mapES z2a kv3 0 c8) c8.length), .obj d2 (.row 59 .whole [(.int .i64 j.Level), (.int .i64 j.At), (.int .i64 j.D)]), .vec 160 2 c9.length d3 (c9.flatMap z0n)])⟩
   refine Run.opsEnd <| Run.fallTo Tryz.func93 rfl res_nil rfl ?_
   refine Run.opsEnd (Run.inBlock (Run.region ?_))
   exact Run.low (.cons (fle_pick [0, 1, 5] rfl) .nil) (Run.pick [1, 4, 5, 6, 12, 13, 14, 20, 21, 22] (z1z F d5 b9 u d e f g m q s j d7 c8 c9 b c d0 d1 d2 d3 _ _ _ p w a8 h))

def glitch_glitches_3 (F : Nat) (s : Int → List S_api_Tile → Int → Int → Int → Int → List S_api_Tile → Int → S_api_Tile → List Int → (List (S_glitch_place × Int)) → List S_glitch_place → Option ((List S_api_Glitch))) : Nat → Int → Int → Int → List S_api_Tile → Int → Int → Int → Int → List S_api_Tile → Int → S_api_Tile → List Int → (List (S_glitch_place × Int)) → List S_glitch_place → Option ((List S_api_Glitch))
 | 0, _, _, _, _, _, _, _, _, _, _, _, _, _, _ => none
 | N + 1, v1, n, p, b, c, d, e, f, g, m, q, j, u, w =>
  bnd (idx j v1) fun a0 =>
  bif (!(a0 == v1)) then
   bnd (idx j v1) fun a1 =>
   bnd (idx j a1) fun a2 =>
   bnd (inn j v1) fun y =>
   bnd (upd j y a2) fun x =>
   bnd (idx x v1) fun a3 =>
   (glitch_glitches_3 F s N) a3 n p b c d e f g m q x u w
  else
   glitch_glitches_4 F s F n v1 p b c d e f g m q j u w

theorem z34 (F : Nat) (d0 : Int → List S_api_Tile → Int → Int → Int → Int → List S_api_Tile → Int → S_api_Tile → List Int → (List (S_glitch_place × Int)) → List S_glitch_place → Option ((List S_api_Glitch))) (b7 : ∀ (v5 : Int) (d2 : List S_api_Tile) (d3 d4 d5 d6 : Int) (a5 : List S_api_Tile) (a6 : Int) (j : S_api_Tile) (c8 : List Int) (c4 : (List (S_glitch_place × Int))) (c5 : List S_glitch_place) (a7 y c3 : SV) (c6 c7 : Pos) (c9 : SV) (Fr : Rd) (M : Mem) (r : List S_api_Glitch) (c2 : Slc Fr 3 (FlatR z04) a7 d2) (c1 : Slc Fr 3 (FlatR z04) y a5) (hH : Has Fr M [.vec 3 1 c8.length c3 (c8.flatMap enc3), .obj c6 (.map (mapES z2a kv3 0 c4) c4.length), .obj c7 (.row 59 .whole [(.int .i64 j.Level), (.int .i64 j.At), (.int .i64 j.D)]), .vec 160 2 c5.length c9 (c5.flatMap z0n)]), d0 v5 d2 d3 d4 d5 d6 a5 a6 j c8 c4 c5 = some r → Run Tryz.prog ⟨⟨92, [], none⟩, [.mk ⟨52, [], none⟩ 81 (treeOf [(0, y), (1, (.int .i64 a6)), (5, c3)]) [itemC Tryz.prog 52 [1, 1, 0] 3, codeC Tryz.prog 52 [1, 1, 1]]]⟩ 46 (z01 r) [(1, (.fn (.func 93) [c3] [])), (4, (.map c6)), (5, (.int .i64 v5)), (6, (.ptr c7 0)), (12, a7), (13, (.int .i64 d3)), (14, (.int .i64 d4)), (20, c9), (21, (.int .i64 d5)), (22, (.int .i64 d6))] [codeC Tryz.prog 92 [1, 1, 0, 0, 1, 1, 0, 0, 1, 0, 1, 0, 0], loopC Tryz.prog 92 [1, 1, 0, 0, 1, 1, 0, 0, 1, 0, 1, 0, 0], .inBlock 2, codeC Tryz.prog 92 [1, 1, 0, 0, 1, 1, 0, 0, 1, 1], .inBlock 1, codeC Tryz.prog 92 [1, 1, 0, 0, 1, 1, 1], loopC Tryz.prog 92 [1, 1, 0, 0], .inBlock 0] M) : ∀ (N : Nat), ∀ (v1 s u : Int) (d : List S_api_Tile) (e f g m : Int) (p : List S_api_Tile) (q : Int) (j : S_api_Tile) (c8 : List Int) (c4 : (List (S_glitch_place × Int))) (c5 : List S_glitch_place) (b c c3 : SV) (c6 c7 : Pos) (c9 : SV) (Fr : Rd) (M : Mem) (r : List S_api_Glitch) (n : Slc Fr 3 (FlatR z04) b d) (w : Slc Fr 3 (FlatR z04) c p) (hH : Has Fr M [.vec 3 1 c8.length c3 (c8.flatMap enc3), .obj c6 (.map (mapES z2a kv3 0 c4) c4.length), .obj c7 (.row 59 .whole [(.int .i64 j.Level), (.int .i64 j.At), (.int .i64 j.D)]), .vec 160 2 c5.length c9 (c5.flatMap z0n)]), glitch_glitches_3 F d0 N v1 s u d e f g m p q j c8 c4 c5 = some r → Run Tryz.prog ⟨⟨94, [], none⟩, [.mk ⟨93, [], none⟩ 22 (treeOf [(0, c3), (2, (.int .i64 s))]) [itemC Tryz.prog 93 [0] 2, codeC Tryz.prog 93 [1]], .mk ⟨92, [], none⟩ 46 (treeOf [(1, (.fn (.func 93) [c3] [])), (4, (.map c6)), (5, (.int .i64 u)), (6, (.ptr c7 0)), (12, b), (13, (.int .i64 e)), (14, (.int .i64 f)), (20, c9), (21, (.int .i64 g)), (22, (.int .i64 m))]) [itemC Tryz.prog 92 [1, 1, 0, 0, 1, 1, 0, 0, 1, 0, 1, 0, 0, 1, 1, 0, 0, 1, 1, 1, 0] 3, .inBlock 3, codeC Tryz.prog 92 [1, 1, 0, 0, 1, 1, 0, 0, 1, 0, 1, 0, 0, 1, 1, 1], loopC Tryz.prog 92 [1, 1, 0, 0, 1, 1, 0, 0, 1, 0, 1, 0, 0], .inBlock 2, codeC Tryz.prog 92 [1, 1, 0, 0, 1, 1, 0, 0, 1, 1], .inBlock 1, codeC Tryz.prog 92 [1, 1, 0, 0, 1, 1, 1], loopC Tryz.prog 92 [1, 1, 0, 0], .inBlock 0], .mk ⟨52, [], none⟩ 81 (treeOf [(0, c), (1, (.int .i64 q)), (5, c3)]) [itemC Tryz.prog 52 [1, 1, 0] 3, codeC Tryz.prog 52 [1, 1, 1]]]⟩ 26 (z01 r) [(0, c3), (1, (.int .i64 v1))] [codeC Tryz.prog 94 [1, 0, 0, 0], loopC Tryz.prog 94 [1, 0, 0, 0], .inBlock 0, codeC Tryz.prog 94 [1, 1]] M := by
 intro N
 induction N with
 | zero =>
  intro v1 s u d e f g m p q j c8 c4 c5 b c c3 c6 c7 c9 Fr M r n w hH h
  simp [glitch_glitches_3] at h
 | succ N ih =>
  intro v1 s u d e f g m p q j c8 c4 c5 b c c3 c6 c7 c9 Fr M r n w hH h
  rw [glitch_glitches_3] at h
  refine Run.seq (Run.seq (Run.region ?_))
  refine mv rfl rfl <| mv rfl rfl ?_
  obtain ⟨d7, a1, h⟩ := bnd_some h
  obtain ⟨e7, e2, a8, a1, b3⟩ := vec_elem (P := Tryz.prog) (t := 123) (kk := .i64) hH (i := 0) rfl a1 z1m
  refine og (ex_elX rfl rfl a1) rfl <| og (ex_load1 rfl (hH.at (enc := enc3) (a := d7) (i := 0) rfl a8 b3 z06) rdLe_rfl z0u) rfl <| mv rfl rfl <| og (ex_neq rfl rfl) rfl <| Run.opsEnd ?_
  rcases btf ((!(d7 == v1))) with x | x
  ·have h := bif_t x h
   refine Run.condT' rfl x ?_
   refine Run.skip (Run.block (Run.seq (Run.region ?_)))
   refine mv rfl rfl <| mv rfl rfl <| mv rfl rfl <| mv rfl rfl <| mv rfl rfl ?_
   obtain ⟨e0, a2, h⟩ := bnd_some h
   obtain ⟨e8, e3, a9, a2, b4⟩ := vec_elem (P := Tryz.prog) (t := 123) (kk := .i64) hH (i := 0) rfl a2 z1m
   refine og (ex_elX rfl rfl a2) rfl <| og (ex_load1 rfl (hH.at (enc := enc3) (a := e0) (i := 0) rfl a9 b4 z06) rdLe_rfl z0u) rfl ?_
   obtain ⟨e1, a3, h⟩ := bnd_some h
   obtain ⟨e9, e4, b0, a3, b5⟩ := vec_elem (P := Tryz.prog) (t := 123) (kk := .i64) hH (i := 0) rfl a3 z1m
   refine og (ex_elX rfl rfl a3) rfl <| og (ex_load1 rfl (hH.at (enc := enc3) (a := e1) (i := 0) rfl b0 b5 z06) rdLe_rfl z0u) rfl ?_
   obtain ⟨e5, b9, h⟩ := bnd_some h
   obtain ⟨f0, b1, c0⟩ := vec_place (P := Tryz.prog) (t := 123) (kk := .i64) hH (i := 0) rfl b9 z1m
   refine og (ex_elX rfl rfl c0) rfl ?_
   obtain ⟨d1, b8, h⟩ := bnd_some h
   refine ox rfl (ExG.storeEl rfl rfl hH (i := 0) rfl b1 b8 sz3 rfl z06 z1n) ?_
   rintro _ d9 ⟨rfl, (a0 : Has Fr d9 [.vec 3 1 d1.length c3 (d1.flatMap enc3), .obj c6 (.map (mapES z2a kv3 0 c4) c4.length), .obj c7 (.row 59 .whole [(.int .i64 j.Level), (.int .i64 j.At), (.int .i64 j.D)]), .vec 160 2 c5.length c9 (c5.flatMap z0n)])⟩
   refine Run.opsEnd (Run.region ?_)
   refine mv rfl rfl <| mv rfl rfl ?_
   obtain ⟨d8, a4, h⟩ := bnd_some h
   obtain ⟨f1, e6, b2, a4, b6⟩ := vec_elem (P := Tryz.prog) (t := 123) (kk := .i64) a0 (i := 0) rfl a4 z1m
   refine og (ex_elX rfl rfl a4) rfl <| og (ex_load1 rfl (a0.at (enc := enc3) (a := d8) (i := 0) rfl b2 b6 z06) rdLe_rfl z0u) rfl <| av rfl rfl ?_
   refine Run.opsEnd (Run.inBlock (Run.inLoop ?_))
   exact Run.low (.cons (fle_pick [0, 2] rfl) (.cons (fle_pick [1, 4, 5, 6, 12, 13, 14, 20, 21, 22] rfl) (.cons (fle_pick [0, 1, 5] rfl) .nil))) (Run.pick [0, 1] (ih d8 s u d e f g m p q j d1 c4 c5 b c c3 c6 c7 c9 _ _ _ n w a0 h))
  ·have h := bif_f x h
   refine Run.condF' rfl x ?_
   refine Run.exit rfl (Run.seq (Run.region ?_))
   refine mv rfl rfl <| av rfl rfl <| Run.opsEnd <| Run.retTo Tryz.func94 rfl (res_tmp rfl res_nil) rfl <| mv rfl rfl <| mv rfl rfl <| Run.enter wantS_none (ex_call rfl z5u z5q) Tryz.func94 rfl rfl ?_
   refine Run.seq (Run.region ?_)
   refine av rfl rfl ?_
   refine Run.opsEnd (Run.seq (Run.block (Run.loop ?_)))
   exact Run.low (.cons (fle_pick [0, 10] rfl) (.cons (fle_pick [1, 4, 5, 6, 12, 13, 14, 20, 21, 22] rfl) (.cons (fle_pick [0, 1, 5] rfl) .nil))) (Run.pick [0, 1] (z35 F d0 b7 F s v1 u d e f g m p q j c8 c4 c5 b c c3 c6 c7 c9 _ _ _ n w hH h))

def glitch_glitches_2 (F : Nat) (g : (List S_api_Tile) → Int → Int → List S_api_Tile → Int → List Int → (List (S_glitch_place × Int)) → Option ((List S_api_Glitch))) : Nat → Int → List S_api_Tile → Int → Int → Int → Int → List S_api_Tile → Int → S_api_Tile → List Int → (List (S_glitch_place × Int)) → List S_glitch_place → Option ((List S_api_Glitch))
 | 0, _, _, _, _, _, _, _, _, _, _, _, _ => none
 | N + 1, v5, n, p, q, s, f, b, c, e, j, d, m =>
  bif (decide (f < s)) then
   bnd (idx m f) fun u =>
   bif (mhas keq160 d u) then
    glitch_glitches_3 F (glitch_glitches_2 F g N) F (mget keq160 (0 : Int) d u) v5 v5 n p q s f b c e j d m
   else
    glitch_glitches_5 F (glitch_glitches_2 F g N) v5 n p q s f b c e j d m
  else
   g n p (w64 (q + (1 : Int))) b c j (mput keq160 d (S_glitch_place.mk e.Level e.At) v5)

theorem z33 (F : Nat) (b5 : (List S_api_Tile) → Int → Int → List S_api_Tile → Int → List Int → (List (S_glitch_place × Int)) → Option ((List S_api_Glitch))) (a0 : ∀ (a6 : List S_api_Tile) (a7 a8 : Int) (d : List S_api_Tile) (e : Int) (a2 : List Int) (a1 : (List (S_glitch_place × Int))) (f c a3 : SV) (a4 : Pos) (Fr : Rd) (M : Mem) (r : List S_api_Glitch) (m : Slc Fr 3 (FlatR z04) f a6) (g : Slc Fr 3 (FlatR z04) c d) (hH : Has Fr M [.vec 3 1 a2.length a3 (a2.flatMap enc3), .obj a4 (.map (mapES z2a kv3 0 a1) a1.length)]), b5 a6 a7 a8 d e a2 a1 = some r → Run Tryz.prog ⟨⟨92, [], none⟩, [.mk ⟨52, [], none⟩ 81 (treeOf [(0, c), (1, (.int .i64 e)), (5, a3)]) [itemC Tryz.prog 52 [1, 1, 0] 3, codeC Tryz.prog 52 [1, 1, 1]]]⟩ 46 (z01 r) [(1, (.fn (.func 93) [a3] [])), (4, (.map a4)), (12, f), (13, (.int .i64 a7)), (14, (.int .i64 a8))] [codeC Tryz.prog 92 [1, 1, 0, 0], loopC Tryz.prog 92 [1, 1, 0, 0], .inBlock 0] M) : ∀ (N : Nat), ∀ (v5 : Int) (a6 : List S_api_Tile) (a7 a8 b3 b4 : Int) (d : List S_api_Tile) (e : Int) (j : S_api_Tile) (a2 : List Int) (a1 : (List (S_glitch_place × Int))) (a5 : List S_glitch_place) (f c a3 : SV) (a4 b0 : Pos) (b1 : SV) (Fr : Rd) (M : Mem) (r : List S_api_Glitch) (m : Slc Fr 3 (FlatR z04) f a6) (g : Slc Fr 3 (FlatR z04) c d) (hH : Has Fr M [.vec 3 1 a2.length a3 (a2.flatMap enc3), .obj a4 (.map (mapES z2a kv3 0 a1) a1.length), .obj b0 (.row 59 .whole [(.int .i64 j.Level), (.int .i64 j.At), (.int .i64 j.D)]), .vec 160 2 a5.length b1 (a5.flatMap z0n)]), glitch_glitches_2 F b5 N v5 a6 a7 a8 b3 b4 d e j a2 a1 a5 = some r → Run Tryz.prog ⟨⟨92, [], none⟩, [.mk ⟨52, [], none⟩ 81 (treeOf [(0, c), (1, (.int .i64 e)), (5, a3)]) [itemC Tryz.prog 52 [1, 1, 0] 3, codeC Tryz.prog 52 [1, 1, 1]]]⟩ 46 (z01 r) [(1, (.fn (.func 93) [a3] [])), (4, (.map a4)), (5, (.int .i64 v5)), (6, (.ptr b0 0)), (12, f), (13, (.int .i64 a7)), (14, (.int .i64 a8)), (20, b1), (21, (.int .i64 b3)), (22, (.int .i64 b4))] [codeC Tryz.prog 92 [1, 1, 0, 0, 1, 1, 0, 0, 1, 0, 1, 0, 0], loopC Tryz.prog 92 [1, 1, 0, 0, 1, 1, 0, 0, 1, 0, 1, 0, 0], .inBlock 2, codeC Tryz.prog 92 [1, 1, 0, 0, 1, 1, 0, 0, 1, 1], .inBlock 1, codeC Tryz.prog 92 [1, 1, 0, 0, 1, 1, 1], loopC Tryz.prog 92 [1, 1, 0, 0], .inBlock 0] M := by
 intro N
 induction N with
 | zero =>
  intro v5 a6 a7 a8 b3 b4 d e j a2 a1 a5 f c a3 a4 b0 b1 Fr M r m g hH h
  simp [glitch_glitches_2] at h
 | succ N ih =>
  intro v5 a6 a7 a8 b3 b4 d e j a2 a1 a5 f c a3 a4 b0 b1 Fr M r m g hH h
  rw [glitch_glitches_2] at h
  refine Run.seq (Run.region ?_)
  refine og (ex_lss rfl rfl) rfl ?_
  refine Run.opsEnd (Run.seq ?_)
  rcases btf ((decide (b4 < b3))) with n | n
  ·have h := bif_t n h
   refine Run.condT' rfl n ?_
   refine Run.skip (Run.seq (Run.block (Run.seq (Run.region ?_))))
   obtain ⟨b2, s, h⟩ := bnd_some h
   obtain ⟨c1, c0, x, s, y⟩ := vec_elem (P := Tryz.prog) (t := 157) (kk := .i64) hH (i := 3) rfl s z6b
   refine og (ex_elX rfl rfl s) rfl <| og (ex_loadA rfl (hH.at (enc := z0n) (a := b2) (i := 3) rfl x y z0y) rdLe_rfl z59 rfl rfl rfl) rfl <| ox rfl (ExG.new (v := fun b => .ptr b 0) (ex_alloc z4t) hH) ?_
   rintro _ b9 ⟨b8, rfl, u⟩
   refine ox rfl (ExG.storeC (c' := [(.int .i64 b2.level), (.int .i64 b2.at_)]) rfl rfl rfl u (i := 0) rfl z7r rfl rfl rfl rfl rfl) ?_
   rintro _ b6 ⟨rfl, (q : Has Fr b6 [.obj b8 (.row 160 .whole [(.int .i64 b2.level), (.int .i64 b2.at_)]), .vec 3 1 a2.length a3 (a2.flatMap enc3), .obj a4 (.map (mapES z2a kv3 0 a1) a1.length), .obj b0 (.row 59 .whole [(.int .i64 j.Level), (.int .i64 j.At), (.int .i64 j.D)]), .vec 160 2 a5.length b1 (a5.flatMap z0n)])⟩
   refine Run.opsEnd (Run.seq (Run.region ?_))
   refine mv rfl rfl <| og (ex_loadA rfl (q.cells (i := 0) rfl 0 rfl) rdLe_rfl z59 rfl rfl rfl) rfl <| og (ex_lookup (ke := z2a) (ve := kv3) (k := b2) rfl rfl q (i := 2) rfl z5j (z5l _) z5f z5h z6f) rfl <| mv rfl rfl <| og (ex_extract rfl rfl) rfl <| og (ex_extract rfl rfl) rfl <| av rfl rfl <| av rfl rfl ?_
   refine Run.opsEnd (Run.seq (Run.region ?_))
   refine mv rfl rfl <| Run.opsEnd ?_
   rcases btf ((mhas keq160 a1 b2)) with p | p
   ·have h := bif_t p h
    refine Run.condT' rfl p <| Run.region <| mv rfl rfl <| mv rfl rfl <| mv rfl rfl <| Run.enter wantS_none (ex_closure rfl rfl z7l z73) Tryz.func93 rfl rfl ?_
    refine Run.seq (Run.region ?_)
    refine mv rfl rfl <| mv rfl rfl <| Run.enter wantS_none (ex_call rfl z5u z5q) Tryz.func94 rfl rfl ?_
    refine Run.seq (Run.region ?_)
    refine av rfl rfl ?_
    refine Run.opsEnd (Run.seq (Run.block (Run.loop ?_)))
    exact Run.low (.cons (fle_pick [0, 2] rfl) (.cons (fle_pick [1, 4, 5, 6, 12, 13, 14, 20, 21, 22] rfl) (.cons (fle_pick [0, 1, 5] rfl) .nil))) (Run.pick [0, 1] (z34 F (glitch_glitches_2 F b5 N) ih F (mget keq160 (0 : Int) a1 b2) v5 v5 a6 a7 a8 b3 b4 d e j a2 a1 a5 f c a3 a4 b0 b1 _ _ _ m g (q.pick [1, 2, 3, 4] rfl rfl) h))
   ·have h := bif_f p h
    refine Run.condF' rfl p ?_
    refine Run.skip (Run.inBlock (Run.region ?_))
    exact Run.low (.cons (fle_pick [0, 1, 5] rfl) .nil) (Run.pick [1, 4, 5, 6, 12, 13, 14, 20, 21, 22] (z1z F (glitch_glitches_2 F b5 N) ih v5 a6 a7 a8 b3 b4 d e j a2 a1 a5 f c a3 a4 b0 b1 _ _ _ m g (q.pick [1, 2, 3, 4] rfl rfl) h))
  ·have h := bif_f n h
   refine Run.condF' rfl n ?_
   refine Run.exit rfl (Run.region ?_)
   refine mv rfl rfl <| og (ex_fieldAddr rfl z2z) rfl <| og (ex_load1 rfl (hH.cells (i := 2) rfl 0 rfl) rdLe_rfl z0u) rfl <| og (ex_fieldAddr rfl z3t) rfl <| og (ex_load1 rfl (hH.cells (i := 2) rfl 1 rfl) rdLe_rfl z0u) rfl <| og (ex_build (r := [(.int .i64 j.Level), (.int .i64 j.At)]) rfl z4t z54 rfl) rfl <| mv rfl rfl <| ox rfl (ExG.mapUpdate (ke := z2a) (ve := kv3) (k := (S_glitch_place.mk j.Level j.At)) (v := v5) rfl rfl rfl hH (i := 1) rfl z5j (z5l _) z5f z5h rfl rfl) ?_
   rintro _ b7 ⟨rfl, (w : Has Fr b7 [.vec 3 1 a2.length a3 (a2.flatMap enc3), .obj a4 (.map (mapES z2a kv3 0 (mput keq160 a1 (S_glitch_place.mk j.Level j.At) v5)) (mput keq160 a1 (S_glitch_place.mk j.Level j.At) v5).length), .obj b0 (.row 59 .whole [(.int .i64 j.Level), (.int .i64 j.At), (.int .i64 j.D)]), .vec 160 2 a5.length b1 (a5.flatMap z0n)])⟩
   refine Run.opsEnd (Run.inBlock (Run.region ?_))
   refine og (ex_add rfl rfl) rfl <| mv rfl rfl ?_
   refine Run.opsEnd (Run.inLoop ?_)
   exact Run.low (.cons (fle_pick [0, 1, 5] rfl) .nil) (Run.pick [1, 4, 12, 13, 14] (a0 a6 a7 (w64 (a8 + (1 : Int))) d e a2 (mput keq160 a1 (S_glitch_place.mk j.Level j.At) v5) f c a3 a4 _ _ _ m g (w.pick [0, 1] rfl rfl) h))

def glitch_glitches_9 (F : Nat) (a1 : (List S_api_Tile) → Int → List S_api_Tile → Int → Int → List Int → List S_api_Glitch → (List (Int × Int)) → Option ((List S_api_Glitch))) (v0 : List S_api_Tile) (v1 : Int) (b : Nat) (a4 : List S_api_Tile) (a5 a6 : Int) (j : S_api_Tile) (a2 : List Int) (c : List S_api_Glitch) (a3 : (List (Int × Int))) : Option ((List S_api_Glitch)) :=
 bnd (glitch_covered F j) fun q =>
 bnd (c[b]?) fun w =>
 bnd (c[b]?) fun x =>
 bnd (c[b]?) fun d =>
 bnd (upd c b (S_api_Glitch.mk (min w.From q.1) d.To d.Many d.Energy d.Peak)) fun p =>
 bnd (p[b]?) fun e =>
 bnd (upd p b (S_api_Glitch.mk e.From (max x.To q.2) e.Many e.Energy e.Peak)) fun m =>
 bnd (m[b]?) fun y =>
 bnd (m[b]?) fun f =>
 bnd (upd m b (S_api_Glitch.mk f.From f.To (w64 (y.Many + (1 : Int))) f.Energy f.Peak)) fun n =>
 bnd (n[b]?) fun a0 =>
 bnd (glitch_energy F j v1) fun u =>
 bnd (n[b]?) fun g =>
 bnd (upd n b (S_api_Glitch.mk g.From g.To g.Many (w64 (a0.Energy + u)) g.Peak)) fun s =>
 a1 v0 v1 a4 a5 (w64 (a6 + (1 : Int))) a2 s a3

theorem z21 (F : Nat) (e3 : (List S_api_Tile) → Int → List S_api_Tile → Int → Int → List Int → List S_api_Glitch → (List (Int × Int)) → Option ((List S_api_Glitch))) (c1 : ∀ (v0 : List S_api_Tile) (v1 : Int) (d8 : List S_api_Tile) (d9 e0 : Int) (d2 : List Int) (e2 : List S_api_Glitch) (d3 : (List (Int × Int))) (d7 d d5 e4 : SV) (d4 : Pos) (Fr : Rd) (M : Mem) (r : List S_api_Glitch) (e1 : Slc Fr 3 (FlatR z04) d7 v0) (n : Slc Fr 3 (FlatR z04) d d8) (hH : Has Fr M [.vec 3 1 d2.length d5 (d2.flatMap enc3), .vec 57 5 e2.length e4 (e2.flatMap z03), .obj d4 (.map (mapES kv3 kv3 0 d3) d3.length)]), e3 v0 v1 d8 d9 e0 d2 e2 d3 = some r → Run Tryz.prog ⟨⟨52, [], none⟩, []⟩ 81 (z01 r) [(0, d7), (1, (.int .i64 v1)), (5, d5), (6, e4), (7, (.map d4)), (22, d), (23, (.int .i64 d9)), (24, (.int .i64 e0))] [codeC Tryz.prog 52 [1, 1, 1, 1, 1, 0, 1, 0, 0], loopC Tryz.prog 52 [1, 1, 1, 1, 1, 0, 1, 0, 0], .inBlock 0, codeC Tryz.prog 52 [1, 1, 1, 1, 1, 1]] M) : ∀ (v0 : List S_api_Tile) (v1 : Int) (q : Nat) (d8 : List S_api_Tile) (d9 e0 : Int) (j : S_api_Tile) (d2 : List Int) (m : List S_api_Glitch) (d3 : (List (Int × Int))) (d7 : SV) (s : Pos) (d d5 c : SV) (d4 d6 : Pos) (Fr : Rd) (M : Mem) (r : List S_api_Glitch) (e1 : Slc Fr 3 (FlatR z04) d7 v0) (b : blk c = [s]) (n : Slc Fr 3 (FlatR z04) d d8) (hH : Has Fr M [.vec 3 1 d2.length d5 (d2.flatMap enc3), .vec 57 5 m.length c (m.flatMap z03), .obj d4 (.map (mapES kv3 kv3 0 d3) d3.length), .obj d6 (.row 59 .whole [(.int .i64 j.Level), (.int .i64 j.At), (.int .i64 j.D)])]), glitch_glitches_9 F e3 v0 v1 q d8 d9 e0 j d2 m d3 = some r → Run Tryz.prog ⟨⟨52, [], none⟩, []⟩ 81 (z01 r) [(0, d7), (1, (.int .i64 v1)), (5, d5), (6, c), (7, (.map d4)), (9, (.ptr d6 0)), (13, (.ptr s (0 + q * 5))), (22, d), (23, (.int .i64 d9)), (24, (.int .i64 e0))] [itemC Tryz.prog 52 [1, 1, 1, 1, 1, 0, 1, 0, 0, 1, 1, 0, 0, 1, 1, 1, 1, 1] 0, .inBlock 1, codeC Tryz.prog 52 [1, 1, 1, 1, 1, 0, 1, 0, 0, 1, 1, 1], loopC Tryz.prog 52 [1, 1, 1, 1, 1, 0, 1, 0, 0], .inBlock 0, codeC Tryz.prog 52 [1, 1, 1, 1, 1, 1]] M := by
 intro v0 v1 q d8 d9 e0 j d2 m d3 d7 s d d5 c d4 d6 Fr M r e1 b n hH h
 rw [glitch_glitches_9] at h
 refine mv rfl rfl <| og (ex_loadA rfl (hH.cells (i := 3) rfl 0 rfl) rdLe_rfl z3h rfl rfl rfl) rfl <| mv rfl rfl <| Run.enter wantS_none (ex_call rfl z7m z74) Tryz.func96 rfl rfl ?_
 refine Run.seq (Run.region ?_)
 refine ox rfl (ExG.box rfl rfl hH) ?_
 rintro _ c5 ⟨g, rfl, e⟩
 refine Run.opsEnd (Run.seq (Run.region ?_))
 refine og (ex_loadA rfl (e.cells (i := 0) rfl 0 rfl) rdLe_rfl z3h rfl rfl rfl) rfl ?_
 obtain ⟨c6, a8, h⟩ := bnd_some h
 refine Run.callP wantS_none (ex_call rfl z6q z6a) rfl (z2h F j _ _ a8) <| mv rfl rfl <| og (ex_extract rfl rfl) rfl <| og (ex_extract rfl rfl) rfl <| av rfl rfl <| av rfl rfl ?_
 refine Run.opsEnd (Run.seq ?_)
 refine Run.drawG z4j <| df rfl (ex_move rfl) rfl <| df rfl (ex_move rfl) rfl <| df rfl (ex_move rfl) rfl <| df rfl (ex_nilP rfl) rfl <| df rfl (ex_fieldAddr rfl z3g) rfl ?_
 obtain ⟨c2, b0, h⟩ := bnd_some h
 refine df rfl (ex_load1 rfl ((e.at (enc := z03) (a := c2) (i := 2) rfl b b0 z02).fld (o := 0) rfl) rdLe_rfl z0u) rfl <| df rfl (ex_move rfl) rfl <| df rfl (ex_min rfl rfl) rfl <| df rfl (ex_move rfl) rfl <| df rfl (ex_nilP rfl) rfl <| df rfl (ex_fieldAddr rfl z4n) rfl ?_
 obtain ⟨c3, b1, h⟩ := bnd_some h
 refine df rfl (ex_load1 rfl ((e.at (enc := z03) (a := c3) (i := 2) rfl b b1 z02).fld (o := 1) rfl) rdLe_rfl z0u) rfl <| df rfl (ex_move rfl) rfl <| df rfl (ex_max rfl rfl) rfl <| df rfl (ex_nilP rfl) rfl <| df rfl (ex_fieldAddr rfl z3g) rfl ?_
 obtain ⟨c8, b2, h⟩ := bnd_some h
 obtain ⟨x, a4, h⟩ := bnd_some h
 refine DrawG.opX rfl wantS_none rfl (ExG.storeFld (o := 0) rfl rfl e (i := 2) rfl b b2 a4 sz3 rfl rfl rfl rfl z02) ?_
 rintro _ b7 ⟨rfl, (a2 : Has Fr b7 [.obj g (.row 59 .whole [(.int .i64 j.Level), (.int .i64 j.At), (.int .i64 j.D)]), .vec 3 1 d2.length d5 (d2.flatMap enc3), .vec 57 5 x.length c (x.flatMap z03), .obj d4 (.map (mapES kv3 kv3 0 d3) d3.length), .obj d6 (.row 59 .whole [(.int .i64 j.Level), (.int .i64 j.At), (.int .i64 j.D)])])⟩
 refine ⟨(st_cons rfl (ev_ex wantS_none (ex_max rfl rfl)) rfl rfl rfl (st_cons rfl (ev_ex wantS_none (ex_move rfl)) rfl rfl rfl (st_cons rfl (ev_ex wantS_none (ex_move rfl)) rfl rfl rfl st_nil))), ?_⟩
 refine df rfl (ex_nilP rfl) rfl <| df rfl (ex_fieldAddr rfl z4n) rfl ?_
 obtain ⟨c9, b3, h⟩ := bnd_some h
 obtain ⟨y, a5, h⟩ := bnd_some h
 refine DrawG.opX rfl wantS_none rfl (ExG.storeFld (o := 1) rfl rfl a2 (i := 2) rfl b b3 a5 sz3 rfl rfl rfl rfl z02) ?_
 rintro _ b8 ⟨rfl, (u : Has Fr b8 [.obj g (.row 59 .whole [(.int .i64 j.Level), (.int .i64 j.At), (.int .i64 j.D)]), .vec 3 1 d2.length d5 (d2.flatMap enc3), .vec 57 5 y.length c (y.flatMap z03), .obj d4 (.map (mapES kv3 kv3 0 d3) d3.length), .obj d6 (.row 59 .whole [(.int .i64 j.Level), (.int .i64 j.At), (.int .i64 j.D)])])⟩
 refine ⟨st_nil, ?_⟩
 refine DrawG.sync <| DrawG.nil ?_
 refine Run.seq (Run.region ?_)
 refine mv rfl rfl <| og (ex_nilP rfl) rfl <| og (ex_fieldAddr rfl z4o) rfl ?_
 obtain ⟨c4, b4, h⟩ := bnd_some h
 refine og (ex_load1 rfl ((u.at (enc := z03) (a := c4) (i := 2) rfl b b4 z02).fld (o := 2) rfl) rdLe_rfl z0u) rfl <| og (ex_add rfl rfl) rfl <| og (ex_nilP rfl) rfl <| og (ex_fieldAddr rfl z4o) rfl ?_
 obtain ⟨d0, b5, h⟩ := bnd_some h
 obtain ⟨a0, a6, h⟩ := bnd_some h
 refine ox rfl (ExG.storeFld (o := 2) rfl rfl u (i := 2) rfl b b5 a6 sz3 rfl rfl rfl rfl z02) ?_
 rintro _ b9 ⟨rfl, (f : Has Fr b9 [.obj g (.row 59 .whole [(.int .i64 j.Level), (.int .i64 j.At), (.int .i64 j.D)]), .vec 3 1 d2.length d5 (d2.flatMap enc3), .vec 57 5 a0.length c (a0.flatMap z03), .obj d4 (.map (mapES kv3 kv3 0 d3) d3.length), .obj d6 (.row 59 .whole [(.int .i64 j.Level), (.int .i64 j.At), (.int .i64 j.D)])])⟩
 refine Run.opsEnd <| Run.drawG z4c <| df rfl (ex_move rfl) rfl <| df rfl (ex_nilP rfl) rfl <| df rfl (ex_fieldAddr rfl z4e) rfl ?_
 obtain ⟨a1, w, h⟩ := bnd_some h
 refine df rfl (ex_load1 rfl ((f.at (enc := z03) (a := a1) (i := 2) rfl b w z02).fld (o := 3) rfl) rdLe_rfl z0u) rfl <| df rfl (ex_loadA rfl (f.cells (i := 0) rfl 0 rfl) rdLe_rfl z3h rfl rfl rfl) rfl <| df rfl (ex_move rfl) rfl ?_
 obtain ⟨c7, a9, h⟩ := bnd_some h
 refine DrawG.callP rfl wantS_none (ex_call rfl z57 z56) rfl (z0v F j v1 _ _ a9) (st_cons rfl (ev_ex wantS_none (ex_load1 rfl ((f.at (enc := z03) (a := a1) (i := 2) rfl b w z02).fld (o := 3) rfl) rdLe_rfl z0u)) rfl rfl rfl (st_cons rfl (ev_ex wantS_none (ex_fieldAddr rfl z4e)) rfl rfl rfl (st_cons rfl (ev_ex wantS_none (ex_nilP rfl)) rfl rfl rfl (st_cons rfl (ev_ex wantS_none (ex_move rfl)) rfl rfl rfl st_nil)))) <| df rfl (ex_add rfl rfl) rfl <| df rfl (ex_nilP rfl) rfl <| df rfl (ex_fieldAddr rfl z4e) rfl ?_
 obtain ⟨d1, b6, h⟩ := bnd_some h
 obtain ⟨p, a7, h⟩ := bnd_some h
 refine DrawG.opX rfl wantS_none rfl (ExG.storeFld (o := 3) rfl rfl f (i := 2) rfl b b6 a7 sz3 rfl rfl rfl rfl z02) ?_
 rintro _ c0 ⟨rfl, (a3 : Has Fr c0 [.obj g (.row 59 .whole [(.int .i64 j.Level), (.int .i64 j.At), (.int .i64 j.D)]), .vec 3 1 d2.length d5 (d2.flatMap enc3), .vec 57 5 p.length c (p.flatMap z03), .obj d4 (.map (mapES kv3 kv3 0 d3) d3.length), .obj d6 (.row 59 .whole [(.int .i64 j.Level), (.int .i64 j.At), (.int .i64 j.D)])])⟩
 refine ⟨st_nil, ?_⟩
 refine DrawG.sync <| DrawG.nil <| Run.fallTo Tryz.func96 rfl res_nil rfl ?_
 refine Run.opsEnd (Run.inBlock (Run.region ?_))
 refine og (ex_add rfl rfl) rfl <| mv rfl rfl ?_
 refine Run.opsEnd (Run.inLoop ?_)
 exact Run.pick [0, 1, 5, 6, 7, 22, 23, 24] (c1 v0 v1 d8 d9 (w64 (e0 + (1 : Int))) d2 p d3 d7 d d5 c d4 _ _ _ e1 n (a3.pick [1, 2, 3] rfl rfl) h)

def glitch_glitches_8 (F : Nat) (q : (List S_api_Tile) → Int → List S_api_Tile → Int → Int → List Int → List S_api_Glitch → (List (Int × Int)) → Option ((List S_api_Glitch))) (v0 : List S_api_Tile) (v1 v8 y : Int) (u : List S_api_Tile) (w x : Int) (j : S_api_Tile) (s : List Int) (b : List S_api_Glitch) (p : (List (Int × Int))) : Option ((List S_api_Glitch)) :=
 bnd (inn b (mget eqI (0 : Int) p y)) fun c =>
 bnd (b[c]?) fun m =>
 bnd (idx v0 m.Peak) fun n =>
 bnd (glitch_energy F j v1) fun f =>
 bnd (glitch_energy F n v1) fun g =>
 bif (decide (g < f)) then
  bnd (b[c]?) fun d =>
  bnd (upd b c (S_api_Glitch.mk d.From d.To d.Many d.Energy v8)) fun e =>
  glitch_glitches_9 F q v0 v1 c u w x j s e p
 else
  glitch_glitches_9 F q v0 v1 c u w x j s b p

theorem z20 (F : Nat) (c3 : (List S_api_Tile) → Int → List S_api_Tile → Int → Int → List Int → List S_api_Glitch → (List (Int × Int)) → Option ((List S_api_Glitch))) (s : ∀ (v0 : List S_api_Tile) (v1 : Int) (b8 : List S_api_Tile) (b9 c0 : Int) (j : List Int) (c5 : List S_api_Glitch) (b3 : (List (Int × Int))) (b7 b b6 c6 : SV) (b5 : Pos) (Fr : Rd) (M : Mem) (r : List S_api_Glitch) (c2 : Slc Fr 3 (FlatR z04) b7 v0) (m : Slc Fr 3 (FlatR z04) b b8) (hH : Has Fr M [.vec 3 1 j.length b6 (j.flatMap enc3), .vec 57 5 c5.length c6 (c5.flatMap z03), .obj b5 (.map (mapES kv3 kv3 0 b3) b3.length)]), c3 v0 v1 b8 b9 c0 j c5 b3 = some r → Run Tryz.prog ⟨⟨52, [], none⟩, []⟩ 81 (z01 r) [(0, b7), (1, (.int .i64 v1)), (5, b6), (6, c6), (7, (.map b5)), (22, b), (23, (.int .i64 b9)), (24, (.int .i64 c0))] [codeC Tryz.prog 52 [1, 1, 1, 1, 1, 0, 1, 0, 0], loopC Tryz.prog 52 [1, 1, 1, 1, 1, 0, 1, 0, 0], .inBlock 0, codeC Tryz.prog 52 [1, 1, 1, 1, 1, 1]] M) : ∀ (v0 : List S_api_Tile) (v1 v8 c4 : Int) (b8 : List S_api_Tile) (b9 c0 : Int) (b4 : S_api_Tile) (j : List Int) (g : List S_api_Glitch) (b3 : (List (Int × Int))) (b7 b b6 e : SV) (b5 c1 : Pos) (Fr : Rd) (M : Mem) (r : List S_api_Glitch) (c2 : Slc Fr 3 (FlatR z04) b7 v0) (m : Slc Fr 3 (FlatR z04) b b8) (hH : Has Fr M [.vec 3 1 j.length b6 (j.flatMap enc3), .vec 57 5 g.length e (g.flatMap z03), .obj b5 (.map (mapES kv3 kv3 0 b3) b3.length), .obj c1 (.row 59 .whole [(.int .i64 b4.Level), (.int .i64 b4.At), (.int .i64 b4.D)])]), glitch_glitches_8 F c3 v0 v1 v8 c4 b8 b9 c0 b4 j g b3 = some r → Run Tryz.prog ⟨⟨52, [], none⟩, []⟩ 81 (z01 r) [(0, b7), (1, (.int .i64 v1)), (5, b6), (6, e), (7, (.map b5)), (8, (.int .i64 v8)), (9, (.ptr c1 0)), (10, (.int .i64 c4)), (22, b), (23, (.int .i64 b9)), (24, (.int .i64 c0))] [itemC Tryz.prog 52 [1, 1, 1, 1, 1, 0, 1, 0, 0, 1, 1, 0, 0, 1, 1, 1, 0] 0, codeC Tryz.prog 52 [1, 1, 1, 1, 1, 0, 1, 0, 0, 1, 1, 0, 0, 1, 1, 1, 1], .inBlock 1, codeC Tryz.prog 52 [1, 1, 1, 1, 1, 0, 1, 0, 0, 1, 1, 1], loopC Tryz.prog 52 [1, 1, 1, 1, 1, 0, 1, 0, 0], .inBlock 0, codeC Tryz.prog 52 [1, 1, 1, 1, 1, 1]] M := by
 intro v0 v1 v8 c4 b8 b9 c0 b4 j g b3 b7 b b6 e b5 c1 Fr M r c2 m hH h
 rw [glitch_glitches_8] at h
 refine mv rfl rfl <| mv rfl rfl <| mv rfl rfl <| og (ex_lookup (ke := kv3) (ve := kv3) (k := c4) rfl rfl hH (i := 2) rfl z5i (z5k _) z5e z5g z6e) rfl ?_
 obtain ⟨u, a1, h⟩ := bnd_some h
 obtain ⟨w, c, a4⟩ := vec_place (P := Tryz.prog) (t := 53) (kk := .i64) hH (i := 1) rfl a1 z07
 refine og (ex_elX rfl rfl a4) rfl <| av rfl rfl ?_
 refine Run.opsEnd (Run.seq (Run.seq ?_))
 refine Run.drawG z0m <| df rfl (ex_loadA rfl (hH.cells (i := 3) rfl 0 rfl) rdLe_rfl z3h rfl rfl rfl) rfl <| df rfl (ex_move rfl) rfl <| df rfl (ex_move rfl) rfl <| df rfl (ex_move rfl) rfl <| df rfl (ex_nilP rfl) rfl <| df rfl (ex_fieldAddr rfl z4f) rfl ?_
 obtain ⟨x, q, h⟩ := bnd_some h
 refine df rfl (ex_load1 rfl ((hH.at (enc := z03) (a := x) (i := 1) rfl c q z02).fld (o := 4) rfl) rdLe_rfl z0u) rfl ?_
 obtain ⟨a9, f, h⟩ := bnd_some h
 obtain ⟨b1, b0, _, f, p, rfl⟩ := sl_elem (P := Tryz.prog) (t := 50) (kk := .i64) c2 f z4d
 refine df rfl (ex_elX rfl rfl f) rfl <| df rfl (ex_loadA rfl (hH.ptrF p) rdLe_rfl z3h rfl rfl rfl) rfl <| df rfl (ex_move rfl) rfl ?_
 obtain ⟨a7, a2, h⟩ := bnd_some h
 refine DrawG.callP rfl wantS_none (ex_call rfl z57 z56) rfl (z0v F b4 v1 _ _ a2) (st_cons rfl (ev_ex wantS_none (ex_move rfl)) rfl rfl rfl (st_cons rfl (ev_ex wantS_none (ex_loadA rfl (hH.ptrF p) rdLe_rfl z3h rfl rfl rfl)) rfl rfl rfl (st_cons rfl (ev_ex wantS_none (ex_elX rfl rfl f)) rfl rfl rfl (st_cons rfl (ev_ex wantS_none (ex_load1 rfl ((hH.at (enc := z03) (a := x) (i := 1) rfl c q z02).fld (o := 4) rfl) rdLe_rfl z0u)) rfl rfl rfl (st_cons rfl (ev_ex wantS_none (ex_fieldAddr rfl z4f)) rfl rfl rfl (st_cons rfl (ev_ex wantS_none (ex_nilP rfl)) rfl rfl rfl (st_cons rfl (ev_ex wantS_none (ex_move rfl)) rfl rfl rfl (st_cons rfl (ev_ex wantS_none (ex_move rfl)) rfl rfl (slc_self c2) st_nil)))))))) ?_
 obtain ⟨a8, a3, h⟩ := bnd_some h
 refine DrawG.callP rfl wantS_none (ex_call rfl z57 z56) rfl (z0v F a9 v1 _ _ a3) st_nil <| df rfl (ex_gtr rfl rfl) rfl <| DrawG.sync <| DrawG.nil ?_
 rcases btf ((decide (a8 < a7))) with d | d
 ·have h := bif_t d h
  refine Run.condT' rfl d <| Run.region <| mv rfl rfl <| mv rfl rfl <| og (ex_nilP rfl) rfl <| og (ex_fieldAddr rfl z4f) rfl ?_
  obtain ⟨b2, a5, h⟩ := bnd_some h
  obtain ⟨n, a0, h⟩ := bnd_some h
  refine ox rfl (ExG.storeFld (o := 4) rfl rfl hH (i := 1) rfl c a5 a0 sz3 rfl rfl rfl rfl z02) ?_
  rintro _ a6 ⟨rfl, (y : Has Fr a6 [.vec 3 1 j.length b6 (j.flatMap enc3), .vec 57 5 n.length e (n.flatMap z03), .obj b5 (.map (mapES kv3 kv3 0 b3) b3.length), .obj c1 (.row 59 .whole [(.int .i64 b4.Level), (.int .i64 b4.At), (.int .i64 b4.D)])])⟩
  refine Run.opsEnd (Run.region ?_)
  exact Run.pick [0, 1, 5, 6, 7, 9, 13, 22, 23, 24] (z21 F c3 s v0 v1 u b8 b9 c0 b4 j n b3 b7 w b b6 e b5 c1 _ _ _ c2 c m y h)
 ·have h := bif_f d h
  refine Run.condF' rfl d ?_
  refine Run.skip (Run.region ?_)
  exact Run.pick [0, 1, 5, 6, 7, 9, 13, 22, 23, 24] (z21 F c3 s v0 v1 u b8 b9 c0 b4 j g b3 b7 w b b6 e b5 c1 _ _ _ c2 c m hH h)

def glitch_glitches_7 (F : Nat) (y : (List S_api_Tile) → Int → List S_api_Tile → Int → Int → List Int → List S_api_Glitch → (List (Int × Int)) → Option ((List S_api_Glitch))) : Nat → Int → List S_api_Tile → Int → Int → List S_api_Tile → Int → Int → S_api_Tile → List Int → List S_api_Glitch → (List (Int × Int)) → Option ((List S_api_Glitch))
 | 0, _, _, _, _, _, _, _, _, _, _, _ => none
 | N + 1, v1, f, g, b, c, d, e, w, j, x, a0 =>
  bnd (idx j v1) fun a1 =>
  bif (!(a1 == v1)) then
   bnd (idx j v1) fun a2 =>
   bnd (idx j a2) fun s =>
   bnd (inn j v1) fun q =>
   bnd (upd j q s) fun m =>
   bnd (idx m v1) fun u =>
   (glitch_glitches_7 F y N) u f g b c d e w m x a0
  else
   bif (v1 == b) then
    bnd (glitch_covered F w) fun n =>
    bnd (apd 40 x ([(S_api_Glitch.mk n.1 n.2 0 0 b)] : List S_api_Glitch)) fun p =>
    glitch_glitches_8 F y f g b v1 c d e w j p (mput eqI a0 b (x.length : Int))
   else
    glitch_glitches_8 F y f g b v1 c d e w j x a0

theorem z37 (F : Nat) (e6 : (List S_api_Tile) → Int → List S_api_Tile → Int → Int → List Int → List S_api_Glitch → (List (Int × Int)) → Option ((List S_api_Glitch))) (a6 : ∀ (v0 : List S_api_Tile) (v1 : Int) (e8 : List S_api_Tile) (e9 f0 : Int) (e1 : List Int) (j : List S_api_Glitch) (e0 : (List (Int × Int))) (e7 a9 e2 e4 : SV) (e3 : Pos) (Fr : Rd) (M : Mem) (r : List S_api_Glitch) (f3 : Slc Fr 3 (FlatR z04) e7 v0) (d2 : Slc Fr 3 (FlatR z04) a9 e8) (hH : Has Fr M [.vec 3 1 e1.length e2 (e1.flatMap enc3), .vec 57 5 j.length e4 (j.flatMap z03), .obj e3 (.map (mapES kv3 kv3 0 e0) e0.length)]), e6 v0 v1 e8 e9 f0 e1 j e0 = some r → Run Tryz.prog ⟨⟨52, [], none⟩, []⟩ 81 (z01 r) [(0, e7), (1, (.int .i64 v1)), (5, e2), (6, e4), (7, (.map e3)), (22, a9), (23, (.int .i64 e9)), (24, (.int .i64 f0))] [codeC Tryz.prog 52 [1, 1, 1, 1, 1, 0, 1, 0, 0], loopC Tryz.prog 52 [1, 1, 1, 1, 1, 0, 1, 0, 0], .inBlock 0, codeC Tryz.prog 52 [1, 1, 1, 1, 1, 1]] M) : ∀ (N : Nat), ∀ (v1 : Int) (p : List S_api_Tile) (q b : Int) (f : List S_api_Tile) (g m : Int) (d9 : S_api_Tile) (e1 : List Int) (j : List S_api_Glitch) (e0 : (List (Int × Int))) (e c e2 e4 : SV) (e3 e5 : Pos) (Fr : Rd) (M : Mem) (r : List S_api_Glitch) (s : Slc Fr 3 (FlatR z04) e p) (n : Slc Fr 3 (FlatR z04) c f) (hH : Has Fr M [.vec 3 1 e1.length e2 (e1.flatMap enc3), .vec 57 5 j.length e4 (j.flatMap z03), .obj e3 (.map (mapES kv3 kv3 0 e0) e0.length), .obj e5 (.row 59 .whole [(.int .i64 d9.Level), (.int .i64 d9.At), (.int .i64 d9.D)])]), glitch_glitches_7 F e6 N v1 p q b f g m d9 e1 j e0 = some r → Run Tryz.prog ⟨⟨94, [], none⟩, [.mk ⟨52, [], none⟩ 81 (treeOf [(0, e), (1, (.int .i64 q)), (5, e2), (6, e4), (7, (.map e3)), (8, (.int .i64 b)), (9, (.ptr e5 0)), (22, c), (23, (.int .i64 g)), (24, (.int .i64 m))]) [itemC Tryz.prog 52 [1, 1, 1, 1, 1, 0, 1, 0, 0, 1, 1, 0, 0, 1, 0] 2, codeC Tryz.prog 52 [1, 1, 1, 1, 1, 0, 1, 0, 0, 1, 1, 0, 0, 1, 1], .inBlock 1, codeC Tryz.prog 52 [1, 1, 1, 1, 1, 0, 1, 0, 0, 1, 1, 1], loopC Tryz.prog 52 [1, 1, 1, 1, 1, 0, 1, 0, 0], .inBlock 0, codeC Tryz.prog 52 [1, 1, 1, 1, 1, 1]]]⟩ 26 (z01 r) [(0, e2), (1, (.int .i64 v1))] [codeC Tryz.prog 94 [1, 0, 0, 0], loopC Tryz.prog 94 [1, 0, 0, 0], .inBlock 0, codeC Tryz.prog 94 [1, 1]] M := by
 intro N
 induction N with
 | zero =>
  intro v1 p q b f g m d9 e1 j e0 e c e2 e4 e3 e5 Fr M r s n hH h
  simp [glitch_glitches_7] at h
 | succ N ih =>
  intro v1 p q b f g m d9 e1 j e0 e c e2 e4 e3 e5 Fr M r s n hH h
  rw [glitch_glitches_7] at h
  refine Run.seq (Run.seq (Run.region ?_))
  refine mv rfl rfl <| mv rfl rfl ?_
  obtain ⟨f1, a2, h⟩ := bnd_some h
  obtain ⟨f6, f4, c7, a2, c9⟩ := vec_elem (P := Tryz.prog) (t := 123) (kk := .i64) hH (i := 0) rfl a2 z1m
  refine og (ex_elX rfl rfl a2) rfl <| og (ex_load1 rfl (hH.at (enc := enc3) (a := f1) (i := 0) rfl c7 c9 z06) rdLe_rfl z0u) rfl <| mv rfl rfl <| og (ex_neq rfl rfl) rfl <| Run.opsEnd ?_
  rcases btf ((!(f1 == v1))) with w | w
  ·have h := bif_t w h
   refine Run.condT' rfl w ?_
   refine Run.skip (Run.block (Run.seq (Run.region ?_)))
   refine mv rfl rfl <| mv rfl rfl <| mv rfl rfl <| mv rfl rfl <| mv rfl rfl ?_
   obtain ⟨f2, a3, h⟩ := bnd_some h
   obtain ⟨f7, f5, c8, a3, d0⟩ := vec_elem (P := Tryz.prog) (t := 123) (kk := .i64) hH (i := 0) rfl a3 z1m
   refine og (ex_elX rfl rfl a3) rfl <| og (ex_load1 rfl (hH.at (enc := enc3) (a := f2) (i := 0) rfl c8 d0 z06) rdLe_rfl z0u) rfl ?_
   obtain ⟨d1, a0, h⟩ := bnd_some h
   obtain ⟨d6, d3, b3, a0, b6⟩ := vec_elem (P := Tryz.prog) (t := 123) (kk := .i64) hH (i := 0) rfl a0 z1m
   refine og (ex_elX rfl rfl a0) rfl <| og (ex_load1 rfl (hH.at (enc := enc3) (a := d1) (i := 0) rfl b3 b6 z06) rdLe_rfl z0u) rfl ?_
   obtain ⟨d4, c0, h⟩ := bnd_some h
   obtain ⟨d7, b4, c2⟩ := vec_place (P := Tryz.prog) (t := 123) (kk := .i64) hH (i := 0) rfl c0 z1m
   refine og (ex_elX rfl rfl c2) rfl ?_
   obtain ⟨a4, b8, h⟩ := bnd_some h
   refine ox rfl (ExG.storeEl rfl rfl hH (i := 0) rfl b4 b8 sz3 rfl z06 z1n) ?_
   rintro _ c3 ⟨rfl, (x : Has Fr c3 [.vec 3 1 a4.length e2 (a4.flatMap enc3), .vec 57 5 j.length e4 (j.flatMap z03), .obj e3 (.map (mapES kv3 kv3 0 e0) e0.length), .obj e5 (.row 59 .whole [(.int .i64 d9.Level), (.int .i64 d9.At), (.int .i64 d9.D)])])⟩
   refine Run.opsEnd (Run.region ?_)
   refine mv rfl rfl <| mv rfl rfl ?_
   obtain ⟨b0, a1, h⟩ := bnd_some h
   obtain ⟨d8, d5, b5, a1, b7⟩ := vec_elem (P := Tryz.prog) (t := 123) (kk := .i64) x (i := 0) rfl a1 z1m
   refine og (ex_elX rfl rfl a1) rfl <| og (ex_load1 rfl (x.at (enc := enc3) (a := b0) (i := 0) rfl b5 b7 z06) rdLe_rfl z0u) rfl <| av rfl rfl ?_
   refine Run.opsEnd (Run.inBlock (Run.inLoop ?_))
   exact Run.low (.cons (fle_pick [0, 1, 5, 6, 7, 8, 9, 22, 23, 24] rfl) .nil) (Run.pick [0, 1] (ih b0 p q b f g m d9 a4 j e0 e c e2 e4 e3 e5 _ _ _ s n x h))
  ·have h := bif_f w h
   refine Run.condF' rfl w ?_
   refine Run.exit rfl (Run.seq (Run.region ?_))
   refine mv rfl rfl <| av rfl rfl <| Run.opsEnd <| Run.retTo Tryz.func94 rfl (res_tmp rfl res_nil) rfl <| av rfl rfl ?_
   refine Run.opsEnd (Run.seq (Run.seq (Run.region ?_)))
   refine mv rfl rfl <| mv rfl rfl <| og (ex_eql rfl rfl) rfl <| Run.opsEnd ?_
   rcases btf ((v1 == b)) with u | u
   ·have h := bif_t u h
    refine Run.condT' rfl u ?_
    refine Run.seq (Run.region ?_)
    refine og (ex_loadA rfl (hH.cells (i := 3) rfl 0 rfl) rdLe_rfl z3h rfl rfl rfl) rfl ?_
    obtain ⟨d, c1, h⟩ := bnd_some h
    refine Run.callP wantS_none (ex_call rfl z6q z6a) rfl (z2h F d9 _ _ c1) <| mv rfl rfl <| og (ex_extract rfl rfl) rfl <| og (ex_extract rfl rfl) rfl <| av rfl rfl <| av rfl rfl ?_
    refine Run.opsEnd (Run.seq (Run.region ?_))
    refine mv rfl rfl <| mv rfl rfl <| mv rfl rfl <| og (ex_len' rfl (hH.slc (i := 1) rfl z02) z4q) rfl <| ox rfl (ExG.mapUpdate (ke := kv3) (ve := kv3) (k := b) (v := (j.length : Int)) rfl rfl rfl hH (i := 2) rfl z5i (z5k _) z5e z5g rfl rfl) ?_
    rintro _ c4 ⟨rfl, (b1 : Has Fr c4 [.vec 3 1 e1.length e2 (e1.flatMap enc3), .vec 57 5 j.length e4 (j.flatMap z03), .obj e3 (.map (mapES kv3 kv3 0 (mput eqI e0 b (j.length : Int))) (mput eqI e0 b (j.length : Int)).length), .obj e5 (.row 59 .whole [(.int .i64 d9.Level), (.int .i64 d9.At), (.int .i64 d9.D)])])⟩
    refine Run.opsEnd (Run.region ?_)
    refine mv rfl rfl <| mv rfl rfl <| mv rfl rfl <| mv rfl rfl <| og (ex_build (r := [(.int .i64 d.1), (.int .i64 d.2), (.int .i64 0), (.int .i64 0), (.int .i64 b)]) rfl z7v z7p rfl) rfl <| ox rfl (ExG.built (enc := z03) (l := ([(S_api_Glitch.mk d.1 d.2 0 0 b)] : List S_api_Glitch)) (z := 5) rfl z7b rfl rfl rfl z02 b1) ?_
    rintro a7 c5 (y : Has Fr c5 [.vec 57 5 ([(S_api_Glitch.mk d.1 d.2 0 0 b)] : List S_api_Glitch).length a7 (([(S_api_Glitch.mk d.1 d.2 0 0 b)] : List S_api_Glitch).flatMap z03), .vec 3 1 e1.length e2 (e1.flatMap enc3), .vec 57 5 j.length e4 (j.flatMap z03), .obj e3 (.map (mapES kv3 kv3 0 (mput eqI e0 b (j.length : Int))) (mput eqI e0 b (j.length : Int)).length), .obj e5 (.row 59 .whole [(.int .i64 d9.Level), (.int .i64 d9.At), (.int .i64 d9.D)])])
    obtain ⟨a5, b9, h⟩ := bnd_some h
    refine ox rfl (ExG.append rfl rfl y (i := 2) rfl z02 rfl z05 z4z rfl (len_slc (y.slc (i := 0) rfl z02)) (first_slc (y.slc (i := 0) rfl z02) (rdLe_rdRow _) z02) b9) ?_
    rintro a8 c6 (b2 : Has Fr c6 [.vec 57 5 ([(S_api_Glitch.mk d.1 d.2 0 0 b)] : List S_api_Glitch).length a7 (([(S_api_Glitch.mk d.1 d.2 0 0 b)] : List S_api_Glitch).flatMap z03), .vec 3 1 e1.length e2 (e1.flatMap enc3), .vec 57 5 a5.length a8 (a5.flatMap z03), .obj e3 (.map (mapES kv3 kv3 0 (mput eqI e0 b (j.length : Int))) (mput eqI e0 b (j.length : Int)).length), .obj e5 (.row 59 .whole [(.int .i64 d9.Level), (.int .i64 d9.At), (.int .i64 d9.D)])])
    refine av rfl rfl ?_
    refine Run.opsEnd (Run.seq (Run.region ?_))
    exact Run.pick [0, 1, 5, 6, 7, 8, 9, 10, 22, 23, 24] (z20 F e6 a6 p q b v1 f g m d9 e1 a5 (mput eqI e0 b (j.length : Int)) e c e2 a8 e3 e5 _ _ _ s n (b2.pick [1, 2, 3, 4] rfl rfl) h)
   ·have h := bif_f u h
    refine Run.condF' rfl u ?_
    refine Run.skip (Run.seq (Run.region ?_))
    exact Run.pick [0, 1, 5, 6, 7, 8, 9, 10, 22, 23, 24] (z20 F e6 a6 p q b v1 f g m d9 e1 j e0 e c e2 e4 e3 e5 _ _ _ s n hH h)

def glitch_glitches_13 (F : Nat) (f : Int → Int → Int → Int → Int → Int → List S_api_Glitch → Option ((List S_api_Glitch))) (g : Int → Int → Int → Int → Int → Int → Int → List S_api_Glitch → Option ((List S_api_Glitch))) (v1 v2 v8 v9 : Int) (u : Bool) (b c d : Int) (j : List S_api_Glitch) : Option ((List S_api_Glitch)) :=
 bif u then
  bnd (idx j (w64 (v9 - (1 : Int)))) fun q =>
  bnd (idx j v9) fun s =>
  bnd (inn j v9) fun n =>
  bnd (upd j n q) fun e =>
  bnd (inn e (w64 (v9 - (1 : Int)))) fun p =>
  bnd (upd e p s) fun m =>
  g v1 v2 v8 (w64 (v9 - (1 : Int))) b c d m
 else
  f v1 v2 (w64 (v8 + (1 : Int))) b c d j

theorem z1o (F : Nat) (p : Int → Int → Int → Int → Int → Int → List S_api_Glitch → Option ((List S_api_Glitch))) (a3 : ∀ (v1 v2 v8 b c d : Int) (c3 : List S_api_Glitch) (j : SV) (Fr : Rd) (M : Mem) (r : List S_api_Glitch) (hH : Has Fr M [.vec 57 5 c3.length j (c3.flatMap z03)]), p v1 v2 v8 b c d c3 = some r → Run Tryz.prog ⟨⟨159, [], none⟩, [.mk ⟨128, [], none⟩ 63 (treeOf [(0, j), (1, (.int .i64 b)), (2, (.fn (.func 98) [] [])), (6, (.int .i64 c)), (8, (.int .i64 d))]) [itemC Tryz.prog 128 [1, 1, 0, 0, 0, 1, 0, 0] 4, codeC Tryz.prog 128 [1, 1, 0, 0, 0, 1, 0, 1], .inBlock 1, loopC Tryz.prog 128 [1, 1, 0, 0, 0], .inBlock 0, codeC Tryz.prog 128 [1, 1, 1]], .mk ⟨97, [], none⟩ 9 (treeOf []) [itemC Tryz.prog 97 [] 4], .mk ⟨52, [], none⟩ 81 (treeOf [(6, j)]) [itemC Tryz.prog 52 [1, 1, 1, 1, 1, 1, 0] 1, codeC Tryz.prog 52 [1, 1, 1, 1, 1, 1, 1]]]⟩ 53 (z01 r) [(0, j), (1, (.int .i64 v1)), (2, (.int .i64 v2)), (3, (.fn (.func 98) [] [])), (8, (.int .i64 v8))] [codeC Tryz.prog 159 [1, 0, 0], loopC Tryz.prog 159 [1, 0, 0], .inBlock 0] M) (q : Int → Int → Int → Int → Int → Int → Int → List S_api_Glitch → Option ((List S_api_Glitch))) (a4 : ∀ (v1 v2 v8 v9 b c d : Int) (c3 : List S_api_Glitch) (j : SV) (Fr : Rd) (M : Mem) (r : List S_api_Glitch) (hH : Has Fr M [.vec 57 5 c3.length j (c3.flatMap z03)]), q v1 v2 v8 v9 b c d c3 = some r → Run Tryz.prog ⟨⟨159, [], none⟩, [.mk ⟨128, [], none⟩ 63 (treeOf [(0, j), (1, (.int .i64 b)), (2, (.fn (.func 98) [] [])), (6, (.int .i64 c)), (8, (.int .i64 d))]) [itemC Tryz.prog 128 [1, 1, 0, 0, 0, 1, 0, 0] 4, codeC Tryz.prog 128 [1, 1, 0, 0, 0, 1, 0, 1], .inBlock 1, loopC Tryz.prog 128 [1, 1, 0, 0, 0], .inBlock 0, codeC Tryz.prog 128 [1, 1, 1]], .mk ⟨97, [], none⟩ 9 (treeOf []) [itemC Tryz.prog 97 [] 4], .mk ⟨52, [], none⟩ 81 (treeOf [(6, j)]) [itemC Tryz.prog 52 [1, 1, 1, 1, 1, 1, 0] 1, codeC Tryz.prog 52 [1, 1, 1, 1, 1, 1, 1]]]⟩ 53 (z01 r) [(0, j), (1, (.int .i64 v1)), (2, (.int .i64 v2)), (3, (.fn (.func 98) [] [])), (8, (.int .i64 v8)), (9, (.int .i64 v9))] [codeC Tryz.prog 159 [1, 0, 0, 1, 0, 0, 1, 0, 0], loopC Tryz.prog 159 [1, 0, 0, 1, 0, 0, 1, 0, 0], .inBlock 2, .inBlock 1, codeC Tryz.prog 159 [1, 0, 0, 1, 1], loopC Tryz.prog 159 [1, 0, 0], .inBlock 0] M) : ∀ (v1 v2 v8 v9 : Int) (c4 : Bool) (b c d : Int) (c3 : List S_api_Glitch) (j : SV) (Fr : Rd) (M : Mem) (r : List S_api_Glitch) (hH : Has Fr M [.vec 57 5 c3.length j (c3.flatMap z03)]), glitch_glitches_13 F p q v1 v2 v8 v9 c4 b c d c3 = some r → Run Tryz.prog ⟨⟨159, [], none⟩, [.mk ⟨128, [], none⟩ 63 (treeOf [(0, j), (1, (.int .i64 b)), (2, (.fn (.func 98) [] [])), (6, (.int .i64 c)), (8, (.int .i64 d))]) [itemC Tryz.prog 128 [1, 1, 0, 0, 0, 1, 0, 0] 4, codeC Tryz.prog 128 [1, 1, 0, 0, 0, 1, 0, 1], .inBlock 1, loopC Tryz.prog 128 [1, 1, 0, 0, 0], .inBlock 0, codeC Tryz.prog 128 [1, 1, 1]], .mk ⟨97, [], none⟩ 9 (treeOf []) [itemC Tryz.prog 97 [] 4], .mk ⟨52, [], none⟩ 81 (treeOf [(6, j)]) [itemC Tryz.prog 52 [1, 1, 1, 1, 1, 1, 0] 1, codeC Tryz.prog 52 [1, 1, 1, 1, 1, 1, 1]]]⟩ 53 (z01 r) [(0, j), (1, (.int .i64 v1)), (2, (.int .i64 v2)), (3, (.fn (.func 98) [] [])), (8, (.int .i64 v8)), (9, (.int .i64 v9)), (34, (.bool c4))] [codeC Tryz.prog 159 [1, 0, 0, 1, 0, 0, 1, 0, 0, 0, 1], codeC Tryz.prog 159 [1, 0, 0, 1, 0, 0, 1, 0, 0, 1], loopC Tryz.prog 159 [1, 0, 0, 1, 0, 0, 1, 0, 0], .inBlock 2, .inBlock 1, codeC Tryz.prog 159 [1, 0, 0, 1, 1], loopC Tryz.prog 159 [1, 0, 0], .inBlock 0] M := by
 intro v1 v2 v8 v9 c4 b c d c3 j Fr M r hH h
 rw [glitch_glitches_13] at h
 rcases btf (c4) with e | e
 ·have h := bif_t e h
  refine Run.condT' rfl e ?_
  refine Run.skip (Run.seq (Run.block ?_))
  refine Run.drawG z0g <| df rfl (ex_move rfl) rfl <| df rfl (ex_move rfl) rfl <| df rfl (ex_move rfl) rfl <| df rfl (ex_move rfl) rfl <| df rfl (ex_sub rfl rfl) rfl <| df rfl (ex_move rfl) rfl <| df rfl (ex_move rfl) rfl <| df rfl (ex_sub rfl rfl) rfl ?_
  obtain ⟨b3, g, h⟩ := bnd_some h
  obtain ⟨b9, b5, w, g, a1⟩ := vec_elem (P := Tryz.prog) (t := 53) (kk := .i64) hH (i := 0) rfl g z07
  refine df rfl (ex_elX rfl rfl g) rfl <| df rfl (ex_loadA rfl (hH.at (enc := z03) (a := b3) (i := 0) rfl w a1 z02) rdLe_rfl z0t rfl rfl rfl) rfl <| df rfl (ex_move rfl) rfl <| df rfl (ex_move rfl) rfl ?_
  obtain ⟨b4, m, h⟩ := bnd_some h
  obtain ⟨c0, b6, x, m, a2⟩ := vec_elem (P := Tryz.prog) (t := 53) (kk := .i64) hH (i := 0) rfl m z07
  refine df rfl (ex_elX rfl rfl m) rfl <| df rfl (ex_loadA rfl (hH.at (enc := z03) (a := b4) (i := 0) rfl x a2 z02) rdLe_rfl z0t rfl rfl rfl) rfl ?_
  obtain ⟨b7, a7, h⟩ := bnd_some h
  obtain ⟨c1, y, a9⟩ := vec_place (P := Tryz.prog) (t := 53) (kk := .i64) hH (i := 0) rfl a7 z07
  refine df rfl (ex_elX rfl rfl a9) rfl ?_
  obtain ⟨s, a5, h⟩ := bnd_some h
  refine DrawG.opX rfl wantS_none rfl (ExG.storeEl rfl rfl hH (i := 0) rfl y a5 z43 rfl z02 z05) ?_
  rintro _ b1 ⟨rfl, (f : Has Fr b1 [.vec 57 5 s.length j (s.flatMap z03)])⟩
  refine ⟨(st_cons rfl (ev_ex wantS_none (ex_sub rfl rfl)) rfl rfl rfl (st_cons rfl (ev_ex wantS_none (ex_move rfl)) rfl rfl rfl (st_cons rfl (ev_ex wantS_none (ex_move rfl)) rfl rfl (blk_self f (i := 0) rfl) st_nil))), ?_⟩
  obtain ⟨b8, a8, h⟩ := bnd_some h
  obtain ⟨c2, a0, b0⟩ := vec_place (P := Tryz.prog) (t := 53) (kk := .i64) f (i := 0) rfl a8 z07
  refine df rfl (ex_elX rfl rfl b0) rfl ?_
  obtain ⟨n, a6, h⟩ := bnd_some h
  refine DrawG.opX rfl wantS_none rfl (ExG.storeEl rfl rfl f (i := 0) rfl a0 a6 z43 rfl z02 z05) ?_
  rintro _ b2 ⟨rfl, (u : Has Fr b2 [.vec 57 5 n.length j (n.flatMap z03)])⟩
  refine ⟨st_nil, ?_⟩
  refine DrawG.sync <| DrawG.nil ?_
  refine Run.inBlock (Run.region ?_)
  refine mv rfl rfl <| og (ex_sub rfl rfl) rfl <| av rfl rfl ?_
  refine Run.opsEnd (Run.inLoop ?_)
  exact Run.low (.cons (fle_pick [0, 1, 2, 6, 8] rfl) (.cons (fle_pick [] rfl) (.cons (fle_pick [6] rfl) .nil))) (Run.pick [0, 1, 2, 3, 8, 9] (a4 v1 v2 v8 (w64 (v9 - (1 : Int))) b c d n j _ _ _ u h))
 ·have h := bif_f e h
  refine Run.condF' rfl e ?_
  refine Run.exit rfl (Run.inBlock (Run.region ?_))
  refine mv rfl rfl <| og (ex_add rfl rfl) rfl <| av rfl rfl ?_
  refine Run.opsEnd (Run.inLoop ?_)
  exact Run.low (.cons (fle_pick [0, 1, 2, 6, 8] rfl) (.cons (fle_pick [] rfl) (.cons (fle_pick [6] rfl) .nil))) (Run.pick [0, 1, 2, 3, 8] (a3 v1 v2 (w64 (v8 + (1 : Int))) b c d c3 j _ _ _ hH h))

def glitch_glitches_12 (F : Nat) (b : Int → Int → Int → Int → Int → Int → List S_api_Glitch → Option ((List S_api_Glitch))) : Nat → Int → Int → Int → Int → Int → Int → Int → List S_api_Glitch → Option ((List S_api_Glitch))
 | 0, _, _, _, _, _, _, _, _ => none
 | N + 1, v1, v2, v8, v9, c, d, e, j =>
  bif (decide (v1 < v9)) then
   bnd (idx j v9) fun g =>
   bnd (idx j (w64 (v9 - (1 : Int)))) fun m =>
   bnd (glitch_glitches_f1 F g m) fun f =>
   glitch_glitches_13 F b (glitch_glitches_12 F b N) v1 v2 v8 v9 (decide (f < (0 : Int))) c d e j
  else
   glitch_glitches_13 F b (glitch_glitches_12 F b N) v1 v2 v8 v9 false c d e j

theorem z2s (F : Nat) (f : Int → Int → Int → Int → Int → Int → List S_api_Glitch → Option ((List S_api_Glitch))) (n : ∀ (v1 v2 v8 c d e : Int) (a5 : List S_api_Glitch) (j : SV) (Fr : Rd) (M : Mem) (r : List S_api_Glitch) (hH : Has Fr M [.vec 57 5 a5.length j (a5.flatMap z03)]), f v1 v2 v8 c d e a5 = some r → Run Tryz.prog ⟨⟨159, [], none⟩, [.mk ⟨128, [], none⟩ 63 (treeOf [(0, j), (1, (.int .i64 c)), (2, (.fn (.func 98) [] [])), (6, (.int .i64 d)), (8, (.int .i64 e))]) [itemC Tryz.prog 128 [1, 1, 0, 0, 0, 1, 0, 0] 4, codeC Tryz.prog 128 [1, 1, 0, 0, 0, 1, 0, 1], .inBlock 1, loopC Tryz.prog 128 [1, 1, 0, 0, 0], .inBlock 0, codeC Tryz.prog 128 [1, 1, 1]], .mk ⟨97, [], none⟩ 9 (treeOf []) [itemC Tryz.prog 97 [] 4], .mk ⟨52, [], none⟩ 81 (treeOf [(6, j)]) [itemC Tryz.prog 52 [1, 1, 1, 1, 1, 1, 0] 1, codeC Tryz.prog 52 [1, 1, 1, 1, 1, 1, 1]]]⟩ 53 (z01 r) [(0, j), (1, (.int .i64 v1)), (2, (.int .i64 v2)), (3, (.fn (.func 98) [] [])), (8, (.int .i64 v8))] [codeC Tryz.prog 159 [1, 0, 0], loopC Tryz.prog 159 [1, 0, 0], .inBlock 0] M) : ∀ (N : Nat), ∀ (v1 v2 v8 v9 c d e : Int) (a5 : List S_api_Glitch) (j : SV) (Fr : Rd) (M : Mem) (r : List S_api_Glitch) (hH : Has Fr M [.vec 57 5 a5.length j (a5.flatMap z03)]), glitch_glitches_12 F f N v1 v2 v8 v9 c d e a5 = some r → Run Tryz.prog ⟨⟨159, [], none⟩, [.mk ⟨128, [], none⟩ 63 (treeOf [(0, j), (1, (.int .i64 c)), (2, (.fn (.func 98) [] [])), (6, (.int .i64 d)), (8, (.int .i64 e))]) [itemC Tryz.prog 128 [1, 1, 0, 0, 0, 1, 0, 0] 4, codeC Tryz.prog 128 [1, 1, 0, 0, 0, 1, 0, 1], .inBlock 1, loopC Tryz.prog 128 [1, 1, 0, 0, 0], .inBlock 0, codeC Tryz.prog 128 [1, 1, 1]], .mk ⟨97, [], none⟩ 9 (treeOf []) [itemC Tryz.prog 97 [] 4], .mk ⟨52, [], none⟩ 81 (treeOf [(6, j)]) [itemC Tryz.prog 52 [1, 1, 1, 1, 1, 1, 0] 1, codeC Tryz.prog 52 [1, 1, 1, 1, 1, 1, 1]]]⟩ 53 (z01 r) [(0, j), (1, (.int .i64 v1)), (2, (.int .i64 v2)), (3, (.fn (.func 98) [] [])), (8, (.int .i64 v8)), (9, (.int .i64 v9))] [codeC Tryz.prog 159 [1, 0, 0, 1, 0, 0, 1, 0, 0], loopC Tryz.prog 159 [1, 0, 0, 1, 0, 0, 1, 0, 0], .inBlock 2, .inBlock 1, codeC Tryz.prog 159 [1, 0, 0, 1, 1], loopC Tryz.prog 159 [1, 0, 0], .inBlock 0] M := by
 intro N
 induction N with
 | zero =>
  intro v1 v2 v8 v9 c d e a5 j Fr M r hH h
  simp [glitch_glitches_12] at h
 | succ N ih =>
  intro v1 v2 v8 v9 c d e a5 j Fr M r hH h
  rw [glitch_glitches_12] at h
  refine Run.seq (Run.seq ?_)
  refine Run.drawG z0q <| df rfl (ex_move rfl) rfl <| df rfl (ex_move rfl) rfl <| df rfl (ex_gtr rfl rfl) rfl <| df rfl (ex_move rfl) rfl ?_
  rcases btf ((decide (v1 < v9))) with b | b
  ·have h := bif_t b h
   refine dy rfl rfl rfl b (ex_move rfl) rfl <| dy rfl rfl rfl b (ex_move rfl) rfl <| dy rfl rfl rfl b (ex_move rfl) rfl ?_
   obtain ⟨p, g, h⟩ := bnd_some h
   obtain ⟨a3, a1, s, g, w⟩ := vec_elem (P := Tryz.prog) (t := 53) (kk := .i64) hH (i := 0) rfl g z07
   refine dy rfl rfl rfl b (ex_elX rfl rfl g) rfl <| dy rfl rfl rfl b (ex_loadA rfl (hH.at (enc := z03) (a := p) (i := 0) rfl s w z02) rdLe_rfl z0t rfl rfl rfl) rfl <| dy rfl rfl rfl b (ex_move rfl) rfl <| dy rfl rfl rfl b (ex_move rfl) rfl <| dy rfl rfl rfl b (ex_sub rfl rfl) rfl ?_
   obtain ⟨q, m, h⟩ := bnd_some h
   obtain ⟨a4, a2, u, m, x⟩ := vec_elem (P := Tryz.prog) (t := 53) (kk := .i64) hH (i := 0) rfl m z07
   refine dy rfl rfl rfl b (ex_elX rfl rfl m) rfl <| dy rfl rfl rfl b (ex_loadA rfl (hH.at (enc := z03) (a := q) (i := 0) rfl u x z02) rdLe_rfl z0t rfl rfl rfl) rfl ?_
   obtain ⟨a0, y, h⟩ := bnd_some h
   refine DrawG.callP rfl (wantS_yes' rfl rfl b) (ex_closure rfl rfl z52 z51) rfl (z0b F p q _ _ y) st_nil <| dy rfl rfl rfl b (ex_lss rfl rfl) rfl <| df rfl (ex_pickT' rfl b rfl rfl) rfl <| DrawG.sync <| DrawG.nil ?_
   exact Run.low (.cons (fle_pick [0, 1, 2, 6, 8] rfl) (.cons (fle_pick [] rfl) (.cons (fle_pick [6] rfl) .nil))) (Run.pick [0, 1, 2, 3, 8, 9, 34] (z1o F f n (glitch_glitches_12 F f N) ih v1 v2 v8 v9 (decide (a0 < (0 : Int))) c d e a5 j _ _ _ hH h))
  ·have h := bif_f b h
   refine dn rfl rfl rfl b rfl <| dn rfl rfl rfl b rfl <| dn rfl rfl rfl b rfl <| dn rfl rfl rfl b rfl <| dn rfl rfl rfl b rfl <| dn rfl rfl rfl b rfl <| dn rfl rfl rfl b rfl <| dn rfl rfl rfl b rfl <| dn rfl rfl rfl b rfl <| dn rfl rfl rfl b rfl <| DrawG.no rfl (wantS_not' rfl rfl b) rfl st_nil <| dn rfl rfl rfl b rfl <| df rfl (ex_pickF' rfl b rfl rfl) rfl <| DrawG.sync <| DrawG.nil ?_
   exact Run.low (.cons (fle_pick [0, 1, 2, 6, 8] rfl) (.cons (fle_pick [] rfl) (.cons (fle_pick [6] rfl) .nil))) (Run.pick [0, 1, 2, 3, 8, 9, 34] (z1o F f n (glitch_glitches_12 F f N) ih v1 v2 v8 v9 false c d e a5 j _ _ _ hH h))

def glitch_glitches_11 (F : Nat) (e : Int → Int → Int → Int → List S_api_Glitch → Option ((List S_api_Glitch))) : Nat → Int → Int → Int → Int → Int → Int → List S_api_Glitch → Option ((List S_api_Glitch))
 | 0, _, _, _, _, _, _, _ => none
 | N + 1, v1, v2, v8, d, b, c, f =>
  bif (decide (v8 < v2)) then
   glitch_glitches_12 F (glitch_glitches_11 F e N) F v1 v2 v8 v8 d b c f
  else
   e d b c (w64 (c + b)) f

theorem z2r (F : Nat) (f : Int → Int → Int → Int → List S_api_Glitch → Option ((List S_api_Glitch))) (g : ∀ (v1 v6 v7 v8 : Int) (m : List S_api_Glitch) (j : SV) (Fr : Rd) (M : Mem) (r : List S_api_Glitch) (hH : Has Fr M [.vec 57 5 m.length j (m.flatMap z03)]), f v1 v6 v7 v8 m = some r → Run Tryz.prog ⟨⟨128, [], none⟩, [.mk ⟨97, [], none⟩ 9 (treeOf []) [itemC Tryz.prog 97 [] 4], .mk ⟨52, [], none⟩ 81 (treeOf [(6, j)]) [itemC Tryz.prog 52 [1, 1, 1, 1, 1, 1, 0] 1, codeC Tryz.prog 52 [1, 1, 1, 1, 1, 1, 1]]]⟩ 63 (z01 r) [(0, j), (1, (.int .i64 v1)), (2, (.fn (.func 98) [] [])), (6, (.int .i64 v6)), (7, (.int .i64 v7)), (8, (.int .i64 v8))] [codeC Tryz.prog 128 [1, 1, 0, 0, 0], loopC Tryz.prog 128 [1, 1, 0, 0, 0], .inBlock 0, codeC Tryz.prog 128 [1, 1, 1]] M) : ∀ (N : Nat), ∀ (v1 v2 v8 d b c : Int) (m : List S_api_Glitch) (j : SV) (Fr : Rd) (M : Mem) (r : List S_api_Glitch) (hH : Has Fr M [.vec 57 5 m.length j (m.flatMap z03)]), glitch_glitches_11 F f N v1 v2 v8 d b c m = some r → Run Tryz.prog ⟨⟨159, [], none⟩, [.mk ⟨128, [], none⟩ 63 (treeOf [(0, j), (1, (.int .i64 d)), (2, (.fn (.func 98) [] [])), (6, (.int .i64 b)), (8, (.int .i64 c))]) [itemC Tryz.prog 128 [1, 1, 0, 0, 0, 1, 0, 0] 4, codeC Tryz.prog 128 [1, 1, 0, 0, 0, 1, 0, 1], .inBlock 1, loopC Tryz.prog 128 [1, 1, 0, 0, 0], .inBlock 0, codeC Tryz.prog 128 [1, 1, 1]], .mk ⟨97, [], none⟩ 9 (treeOf []) [itemC Tryz.prog 97 [] 4], .mk ⟨52, [], none⟩ 81 (treeOf [(6, j)]) [itemC Tryz.prog 52 [1, 1, 1, 1, 1, 1, 0] 1, codeC Tryz.prog 52 [1, 1, 1, 1, 1, 1, 1]]]⟩ 53 (z01 r) [(0, j), (1, (.int .i64 v1)), (2, (.int .i64 v2)), (3, (.fn (.func 98) [] [])), (8, (.int .i64 v8))] [codeC Tryz.prog 159 [1, 0, 0], loopC Tryz.prog 159 [1, 0, 0], .inBlock 0] M := by
 intro N
 induction N with
 | zero =>
  intro v1 v2 v8 d b c m j Fr M r hH h
  simp [glitch_glitches_11] at h
 | succ N ih =>
  intro v1 v2 v8 d b c m j Fr M r hH h
  rw [glitch_glitches_11] at h
  refine Run.seq (Run.seq (Run.region ?_))
  refine mv rfl rfl <| mv rfl rfl <| og (ex_lss rfl rfl) rfl <| Run.opsEnd ?_
  rcases btf ((decide (v8 < v2))) with e | e
  ·have h := bif_t e h
   refine Run.condT' rfl e ?_
   refine Run.skip (Run.seq (Run.block (Run.seq (Run.region ?_))))
   refine mv rfl rfl <| av rfl rfl ?_
   refine Run.opsEnd (Run.block (Run.loop ?_))
   exact Run.low (.cons (fle_pick [0, 1, 2, 6, 8] rfl) (.cons (fle_pick [] rfl) (.cons (fle_pick [6] rfl) .nil))) (Run.pick [0, 1, 2, 3, 8, 9] (z2s F (glitch_glitches_11 F f N) ih F v1 v2 v8 v8 d b c m j _ _ _ hH h))
  ·have h := bif_f e h
   refine Run.condF' rfl e <| Run.exit rfl <| Run.fallTo Tryz.func159 rfl res_nil rfl ?_
   refine Run.opsEnd (Run.seq (Run.region ?_))
   refine mv rfl rfl <| av rfl rfl ?_
   refine Run.opsEnd (Run.region ?_)
   refine mv rfl rfl <| mv rfl rfl <| og (ex_add rfl rfl) rfl <| av rfl rfl ?_
   refine Run.opsEnd (Run.inBlock (Run.inLoop ?_))
   exact Run.low (.cons (fle_pick [] rfl) (.cons (fle_pick [6] rfl) .nil)) (Run.pick [0, 1, 2, 6, 7, 8] (g d b c (w64 (c + b)) m j _ _ _ hH h))

def glitch_glitches_16 (F : Nat) (e : Int → Int → Int → Int → Int → List S_api_Glitch → Option ((List S_api_Glitch))) (f : Int → Int → Int → Int → Int → Int → List S_api_Glitch → Option ((List S_api_Glitch))) (v1 v2 v8 v9 : Int) (s : Bool) (b c : Int) (j : List S_api_Glitch) : Option ((List S_api_Glitch)) :=
 bif s then
  bnd (idx j (w64 (v9 - (1 : Int)))) fun p =>
  bnd (idx j v9) fun q =>
  bnd (inn j v9) fun m =>
  bnd (upd j m p) fun d =>
  bnd (inn d (w64 (v9 - (1 : Int)))) fun n =>
  bnd (upd d n q) fun g =>
  f v1 v2 v8 (w64 (v9 - (1 : Int))) b c g
 else
  e v1 v2 (w64 (v8 + (1 : Int))) b c j

theorem z1p (F : Nat) (n : Int → Int → Int → Int → Int → List S_api_Glitch → Option ((List S_api_Glitch))) (a2 : ∀ (v1 v2 v8 b c : Int) (c2 : List S_api_Glitch) (j : SV) (Fr : Rd) (M : Mem) (r : List S_api_Glitch) (hH : Has Fr M [.vec 57 5 c2.length j (c2.flatMap z03)]), n v1 v2 v8 b c c2 = some r → Run Tryz.prog ⟨⟨159, [], none⟩, [.mk ⟨128, [], none⟩ 63 (treeOf [(0, j), (1, (.int .i64 b)), (2, (.fn (.func 98) [] [])), (6, (.int .i64 c))]) [itemC Tryz.prog 128 [1, 1, 1, 0] 4, codeC Tryz.prog 128 [1, 1, 1, 1]], .mk ⟨97, [], none⟩ 9 (treeOf []) [itemC Tryz.prog 97 [] 4], .mk ⟨52, [], none⟩ 81 (treeOf [(6, j)]) [itemC Tryz.prog 52 [1, 1, 1, 1, 1, 1, 0] 1, codeC Tryz.prog 52 [1, 1, 1, 1, 1, 1, 1]]]⟩ 53 (z01 r) [(0, j), (1, (.int .i64 v1)), (2, (.int .i64 v2)), (3, (.fn (.func 98) [] [])), (8, (.int .i64 v8))] [codeC Tryz.prog 159 [1, 0, 0], loopC Tryz.prog 159 [1, 0, 0], .inBlock 0] M) (p : Int → Int → Int → Int → Int → Int → List S_api_Glitch → Option ((List S_api_Glitch))) (a3 : ∀ (v1 v2 v8 v9 b c : Int) (c2 : List S_api_Glitch) (j : SV) (Fr : Rd) (M : Mem) (r : List S_api_Glitch) (hH : Has Fr M [.vec 57 5 c2.length j (c2.flatMap z03)]), p v1 v2 v8 v9 b c c2 = some r → Run Tryz.prog ⟨⟨159, [], none⟩, [.mk ⟨128, [], none⟩ 63 (treeOf [(0, j), (1, (.int .i64 b)), (2, (.fn (.func 98) [] [])), (6, (.int .i64 c))]) [itemC Tryz.prog 128 [1, 1, 1, 0] 4, codeC Tryz.prog 128 [1, 1, 1, 1]], .mk ⟨97, [], none⟩ 9 (treeOf []) [itemC Tryz.prog 97 [] 4], .mk ⟨52, [], none⟩ 81 (treeOf [(6, j)]) [itemC Tryz.prog 52 [1, 1, 1, 1, 1, 1, 0] 1, codeC Tryz.prog 52 [1, 1, 1, 1, 1, 1, 1]]]⟩ 53 (z01 r) [(0, j), (1, (.int .i64 v1)), (2, (.int .i64 v2)), (3, (.fn (.func 98) [] [])), (8, (.int .i64 v8)), (9, (.int .i64 v9))] [codeC Tryz.prog 159 [1, 0, 0, 1, 0, 0, 1, 0, 0], loopC Tryz.prog 159 [1, 0, 0, 1, 0, 0, 1, 0, 0], .inBlock 2, .inBlock 1, codeC Tryz.prog 159 [1, 0, 0, 1, 1], loopC Tryz.prog 159 [1, 0, 0], .inBlock 0] M) : ∀ (v1 v2 v8 v9 : Int) (c3 : Bool) (b c : Int) (c2 : List S_api_Glitch) (j : SV) (Fr : Rd) (M : Mem) (r : List S_api_Glitch) (hH : Has Fr M [.vec 57 5 c2.length j (c2.flatMap z03)]), glitch_glitches_16 F n p v1 v2 v8 v9 c3 b c c2 = some r → Run Tryz.prog ⟨⟨159, [], none⟩, [.mk ⟨128, [], none⟩ 63 (treeOf [(0, j), (1, (.int .i64 b)), (2, (.fn (.func 98) [] [])), (6, (.int .i64 c))]) [itemC Tryz.prog 128 [1, 1, 1, 0] 4, codeC Tryz.prog 128 [1, 1, 1, 1]], .mk ⟨97, [], none⟩ 9 (treeOf []) [itemC Tryz.prog 97 [] 4], .mk ⟨52, [], none⟩ 81 (treeOf [(6, j)]) [itemC Tryz.prog 52 [1, 1, 1, 1, 1, 1, 0] 1, codeC Tryz.prog 52 [1, 1, 1, 1, 1, 1, 1]]]⟩ 53 (z01 r) [(0, j), (1, (.int .i64 v1)), (2, (.int .i64 v2)), (3, (.fn (.func 98) [] [])), (8, (.int .i64 v8)), (9, (.int .i64 v9)), (34, (.bool c3))] [codeC Tryz.prog 159 [1, 0, 0, 1, 0, 0, 1, 0, 0, 0, 1], codeC Tryz.prog 159 [1, 0, 0, 1, 0, 0, 1, 0, 0, 1], loopC Tryz.prog 159 [1, 0, 0, 1, 0, 0, 1, 0, 0], .inBlock 2, .inBlock 1, codeC Tryz.prog 159 [1, 0, 0, 1, 1], loopC Tryz.prog 159 [1, 0, 0], .inBlock 0] M := by
 intro v1 v2 v8 v9 c3 b c c2 j Fr M r hH h
 rw [glitch_glitches_16] at h
 rcases btf (c3) with d | d
 ·have h := bif_t d h
  refine Run.condT' rfl d ?_
  refine Run.skip (Run.seq (Run.block ?_))
  refine Run.drawG z0g <| df rfl (ex_move rfl) rfl <| df rfl (ex_move rfl) rfl <| df rfl (ex_move rfl) rfl <| df rfl (ex_move rfl) rfl <| df rfl (ex_sub rfl rfl) rfl <| df rfl (ex_move rfl) rfl <| df rfl (ex_move rfl) rfl <| df rfl (ex_sub rfl rfl) rfl ?_
  obtain ⟨b2, f, h⟩ := bnd_some h
  obtain ⟨b8, b4, u, f, a0⟩ := vec_elem (P := Tryz.prog) (t := 53) (kk := .i64) hH (i := 0) rfl f z07
  refine df rfl (ex_elX rfl rfl f) rfl <| df rfl (ex_loadA rfl (hH.at (enc := z03) (a := b2) (i := 0) rfl u a0 z02) rdLe_rfl z0t rfl rfl rfl) rfl <| df rfl (ex_move rfl) rfl <| df rfl (ex_move rfl) rfl ?_
  obtain ⟨b3, g, h⟩ := bnd_some h
  obtain ⟨b9, b5, w, g, a1⟩ := vec_elem (P := Tryz.prog) (t := 53) (kk := .i64) hH (i := 0) rfl g z07
  refine df rfl (ex_elX rfl rfl g) rfl <| df rfl (ex_loadA rfl (hH.at (enc := z03) (a := b3) (i := 0) rfl w a1 z02) rdLe_rfl z0t rfl rfl rfl) rfl ?_
  obtain ⟨b6, a6, h⟩ := bnd_some h
  obtain ⟨c0, x, a8⟩ := vec_place (P := Tryz.prog) (t := 53) (kk := .i64) hH (i := 0) rfl a6 z07
  refine df rfl (ex_elX rfl rfl a8) rfl ?_
  obtain ⟨q, a4, h⟩ := bnd_some h
  refine DrawG.opX rfl wantS_none rfl (ExG.storeEl rfl rfl hH (i := 0) rfl x a4 z43 rfl z02 z05) ?_
  rintro _ b0 ⟨rfl, (e : Has Fr b0 [.vec 57 5 q.length j (q.flatMap z03)])⟩
  refine ⟨(st_cons rfl (ev_ex wantS_none (ex_sub rfl rfl)) rfl rfl rfl (st_cons rfl (ev_ex wantS_none (ex_move rfl)) rfl rfl rfl (st_cons rfl (ev_ex wantS_none (ex_move rfl)) rfl rfl (blk_self e (i := 0) rfl) st_nil))), ?_⟩
  obtain ⟨b7, a7, h⟩ := bnd_some h
  obtain ⟨c1, y, a9⟩ := vec_place (P := Tryz.prog) (t := 53) (kk := .i64) e (i := 0) rfl a7 z07
  refine df rfl (ex_elX rfl rfl a9) rfl ?_
  obtain ⟨m, a5, h⟩ := bnd_some h
  refine DrawG.opX rfl wantS_none rfl (ExG.storeEl rfl rfl e (i := 0) rfl y a5 z43 rfl z02 z05) ?_
  rintro _ b1 ⟨rfl, (s : Has Fr b1 [.vec 57 5 m.length j (m.flatMap z03)])⟩
  refine ⟨st_nil, ?_⟩
  refine DrawG.sync <| DrawG.nil ?_
  refine Run.inBlock (Run.region ?_)
  refine mv rfl rfl <| og (ex_sub rfl rfl) rfl <| av rfl rfl ?_
  refine Run.opsEnd (Run.inLoop ?_)
  exact Run.low (.cons (fle_pick [0, 1, 2, 6] rfl) (.cons (fle_pick [] rfl) (.cons (fle_pick [6] rfl) .nil))) (Run.pick [0, 1, 2, 3, 8, 9] (a3 v1 v2 v8 (w64 (v9 - (1 : Int))) b c m j _ _ _ s h))
 ·have h := bif_f d h
  refine Run.condF' rfl d ?_
  refine Run.exit rfl (Run.inBlock (Run.region ?_))
  refine mv rfl rfl <| og (ex_add rfl rfl) rfl <| av rfl rfl ?_
  refine Run.opsEnd (Run.inLoop ?_)
  exact Run.low (.cons (fle_pick [0, 1, 2, 6] rfl) (.cons (fle_pick [] rfl) (.cons (fle_pick [6] rfl) .nil))) (Run.pick [0, 1, 2, 3, 8] (a2 v1 v2 (w64 (v8 + (1 : Int))) b c c2 j _ _ _ hH h))

def glitch_glitches_15 (F : Nat) (b : Int → Int → Int → Int → Int → List S_api_Glitch → Option ((List S_api_Glitch))) : Nat → Int → Int → Int → Int → Int → Int → List S_api_Glitch → Option ((List S_api_Glitch))
 | 0, _, _, _, _, _, _, _ => none
 | N + 1, v1, v2, v8, v9, c, d, j =>
  bif (decide (v1 < v9)) then
   bnd (idx j v9) fun f =>
   bnd (idx j (w64 (v9 - (1 : Int)))) fun g =>
   bnd (glitch_glitches_f1 F f g) fun e =>
   glitch_glitches_16 F b (glitch_glitches_15 F b N) v1 v2 v8 v9 (decide (e < (0 : Int))) c d j
  else
   glitch_glitches_16 F b (glitch_glitches_15 F b N) v1 v2 v8 v9 false c d j

theorem z2u (F : Nat) (e : Int → Int → Int → Int → Int → List S_api_Glitch → Option ((List S_api_Glitch))) (m : ∀ (v1 v2 v8 c d : Int) (a4 : List S_api_Glitch) (j : SV) (Fr : Rd) (M : Mem) (r : List S_api_Glitch) (hH : Has Fr M [.vec 57 5 a4.length j (a4.flatMap z03)]), e v1 v2 v8 c d a4 = some r → Run Tryz.prog ⟨⟨159, [], none⟩, [.mk ⟨128, [], none⟩ 63 (treeOf [(0, j), (1, (.int .i64 c)), (2, (.fn (.func 98) [] [])), (6, (.int .i64 d))]) [itemC Tryz.prog 128 [1, 1, 1, 0] 4, codeC Tryz.prog 128 [1, 1, 1, 1]], .mk ⟨97, [], none⟩ 9 (treeOf []) [itemC Tryz.prog 97 [] 4], .mk ⟨52, [], none⟩ 81 (treeOf [(6, j)]) [itemC Tryz.prog 52 [1, 1, 1, 1, 1, 1, 0] 1, codeC Tryz.prog 52 [1, 1, 1, 1, 1, 1, 1]]]⟩ 53 (z01 r) [(0, j), (1, (.int .i64 v1)), (2, (.int .i64 v2)), (3, (.fn (.func 98) [] [])), (8, (.int .i64 v8))] [codeC Tryz.prog 159 [1, 0, 0], loopC Tryz.prog 159 [1, 0, 0], .inBlock 0] M) : ∀ (N : Nat), ∀ (v1 v2 v8 v9 c d : Int) (a4 : List S_api_Glitch) (j : SV) (Fr : Rd) (M : Mem) (r : List S_api_Glitch) (hH : Has Fr M [.vec 57 5 a4.length j (a4.flatMap z03)]), glitch_glitches_15 F e N v1 v2 v8 v9 c d a4 = some r → Run Tryz.prog ⟨⟨159, [], none⟩, [.mk ⟨128, [], none⟩ 63 (treeOf [(0, j), (1, (.int .i64 c)), (2, (.fn (.func 98) [] [])), (6, (.int .i64 d))]) [itemC Tryz.prog 128 [1, 1, 1, 0] 4, codeC Tryz.prog 128 [1, 1, 1, 1]], .mk ⟨97, [], none⟩ 9 (treeOf []) [itemC Tryz.prog 97 [] 4], .mk ⟨52, [], none⟩ 81 (treeOf [(6, j)]) [itemC Tryz.prog 52 [1, 1, 1, 1, 1, 1, 0] 1, codeC Tryz.prog 52 [1, 1, 1, 1, 1, 1, 1]]]⟩ 53 (z01 r) [(0, j), (1, (.int .i64 v1)), (2, (.int .i64 v2)), (3, (.fn (.func 98) [] [])), (8, (.int .i64 v8)), (9, (.int .i64 v9))] [codeC Tryz.prog 159 [1, 0, 0, 1, 0, 0, 1, 0, 0], loopC Tryz.prog 159 [1, 0, 0, 1, 0, 0, 1, 0, 0], .inBlock 2, .inBlock 1, codeC Tryz.prog 159 [1, 0, 0, 1, 1], loopC Tryz.prog 159 [1, 0, 0], .inBlock 0] M := by
 intro N
 induction N with
 | zero =>
  intro v1 v2 v8 v9 c d a4 j Fr M r hH h
  simp [glitch_glitches_15] at h
 | succ N ih =>
  intro v1 v2 v8 v9 c d a4 j Fr M r hH h
  rw [glitch_glitches_15] at h
  refine Run.seq (Run.seq ?_)
  refine Run.drawG z0q <| df rfl (ex_move rfl) rfl <| df rfl (ex_move rfl) rfl <| df rfl (ex_gtr rfl rfl) rfl <| df rfl (ex_move rfl) rfl ?_
  rcases btf ((decide (v1 < v9))) with b | b
  ·have h := bif_t b h
   refine dy rfl rfl rfl b (ex_move rfl) rfl <| dy rfl rfl rfl b (ex_move rfl) rfl <| dy rfl rfl rfl b (ex_move rfl) rfl ?_
   obtain ⟨n, f, h⟩ := bnd_some h
   obtain ⟨a2, a0, q, f, u⟩ := vec_elem (P := Tryz.prog) (t := 53) (kk := .i64) hH (i := 0) rfl f z07
   refine dy rfl rfl rfl b (ex_elX rfl rfl f) rfl <| dy rfl rfl rfl b (ex_loadA rfl (hH.at (enc := z03) (a := n) (i := 0) rfl q u z02) rdLe_rfl z0t rfl rfl rfl) rfl <| dy rfl rfl rfl b (ex_move rfl) rfl <| dy rfl rfl rfl b (ex_move rfl) rfl <| dy rfl rfl rfl b (ex_sub rfl rfl) rfl ?_
   obtain ⟨p, g, h⟩ := bnd_some h
   obtain ⟨a3, a1, s, g, w⟩ := vec_elem (P := Tryz.prog) (t := 53) (kk := .i64) hH (i := 0) rfl g z07
   refine dy rfl rfl rfl b (ex_elX rfl rfl g) rfl <| dy rfl rfl rfl b (ex_loadA rfl (hH.at (enc := z03) (a := p) (i := 0) rfl s w z02) rdLe_rfl z0t rfl rfl rfl) rfl ?_
   obtain ⟨y, x, h⟩ := bnd_some h
   refine DrawG.callP rfl (wantS_yes' rfl rfl b) (ex_closure rfl rfl z52 z51) rfl (z0b F n p _ _ x) st_nil <| dy rfl rfl rfl b (ex_lss rfl rfl) rfl <| df rfl (ex_pickT' rfl b rfl rfl) rfl <| DrawG.sync <| DrawG.nil ?_
   exact Run.low (.cons (fle_pick [0, 1, 2, 6] rfl) (.cons (fle_pick [] rfl) (.cons (fle_pick [6] rfl) .nil))) (Run.pick [0, 1, 2, 3, 8, 9, 34] (z1p F e m (glitch_glitches_15 F e N) ih v1 v2 v8 v9 (decide (y < (0 : Int))) c d a4 j _ _ _ hH h))
  ·have h := bif_f b h
   refine dn rfl rfl rfl b rfl <| dn rfl rfl rfl b rfl <| dn rfl rfl rfl b rfl <| dn rfl rfl rfl b rfl <| dn rfl rfl rfl b rfl <| dn rfl rfl rfl b rfl <| dn rfl rfl rfl b rfl <| dn rfl rfl rfl b rfl <| dn rfl rfl rfl b rfl <| dn rfl rfl rfl b rfl <| DrawG.no rfl (wantS_not' rfl rfl b) rfl st_nil <| dn rfl rfl rfl b rfl <| df rfl (ex_pickF' rfl b rfl rfl) rfl <| DrawG.sync <| DrawG.nil ?_
   exact Run.low (.cons (fle_pick [0, 1, 2, 6] rfl) (.cons (fle_pick [] rfl) (.cons (fle_pick [6] rfl) .nil))) (Run.pick [0, 1, 2, 3, 8, 9, 34] (z1p F e m (glitch_glitches_15 F e N) ih v1 v2 v8 v9 false c d a4 j _ _ _ hH h))

def glitch_glitches_19 (F : Nat) (b : Int → Int → List S_api_Glitch → Option ((List S_api_Glitch))) (v1 v6 : Int) (c : List S_api_Glitch) : Option ((List S_api_Glitch)) :=
 b v1 (w64 (v6 * (2 : Int))) c

theorem z1q (F : Nat) (b : Int → Int → List S_api_Glitch → Option ((List S_api_Glitch))) (c : ∀ (v1 v6 : Int) (d : List S_api_Glitch) (e : SV) (Fr : Rd) (M : Mem) (r : List S_api_Glitch) (hH : Has Fr M [.vec 57 5 d.length e (d.flatMap z03)]), b v1 v6 d = some r → Run Tryz.prog ⟨⟨128, [], none⟩, [.mk ⟨97, [], none⟩ 9 (treeOf []) [itemC Tryz.prog 97 [] 4], .mk ⟨52, [], none⟩ 81 (treeOf [(6, e)]) [itemC Tryz.prog 52 [1, 1, 1, 1, 1, 1, 0] 1, codeC Tryz.prog 52 [1, 1, 1, 1, 1, 1, 1]]]⟩ 63 (z01 r) [(0, e), (1, (.int .i64 v1)), (2, (.fn (.func 98) [] [])), (6, (.int .i64 v6))] [codeC Tryz.prog 128 [1, 1, 1, 1, 0, 0], loopC Tryz.prog 128 [1, 1, 1, 1, 0, 0], .inBlock 2] M) : ∀ (v1 v6 : Int) (d : List S_api_Glitch) (e : SV) (Fr : Rd) (M : Mem) (r : List S_api_Glitch) (hH : Has Fr M [.vec 57 5 d.length e (d.flatMap z03)]), glitch_glitches_19 F b v1 v6 d = some r → Run Tryz.prog ⟨⟨128, [], none⟩, [.mk ⟨97, [], none⟩ 9 (treeOf []) [itemC Tryz.prog 97 [] 4], .mk ⟨52, [], none⟩ 81 (treeOf [(6, e)]) [itemC Tryz.prog 52 [1, 1, 1, 1, 1, 1, 0] 1, codeC Tryz.prog 52 [1, 1, 1, 1, 1, 1, 1]]]⟩ 63 (z01 r) [(0, e), (1, (.int .i64 v1)), (2, (.fn (.func 98) [] [])), (6, (.int .i64 v6))] [itemC Tryz.prog 128 [1, 1, 1, 1, 0, 0, 1, 0, 1, 1, 1] 0, .inBlock 3, loopC Tryz.prog 128 [1, 1, 1, 1, 0, 0], .inBlock 2] M := by
 intro v1 v6 d e Fr M r hH h
 rw [glitch_glitches_19] at h
 refine mv rfl rfl <| og (ex_mul rfl rfl) rfl <| av rfl rfl ?_
 refine Run.opsEnd (Run.inBlock (Run.inLoop ?_))
 exact Run.low (.cons (fle_pick [] rfl) (.cons (fle_pick [6] rfl) .nil)) (Run.pick [0, 1, 2, 6] (c v1 (w64 (v6 * (2 : Int))) d e _ _ _ hH h))

def glitch_glitches_18 (F : Nat) (b : Int → Int → List S_api_Glitch → Option ((List S_api_Glitch))) : Nat → Int → Int → Int → Int → List S_api_Glitch → Option ((List S_api_Glitch))
 | 0, _, _, _, _, _ => none
 | N + 1, v1, v6, v7, v8, e =>
  bif (decide (v8 ≤ v1)) then
   bnd (slices_symMergeCmpFunc_h1 F v7 (w64 (v7 + v6)) v8 e) fun c =>
   (glitch_glitches_18 F b N) v1 v6 v8 (w64 (v8 + (w64 ((2 : Int) * v6)))) c
  else
   bif (decide ((w64 (v7 + v6)) < v1)) then
    bnd (slices_symMergeCmpFunc_h1 F v7 (w64 (v7 + v6)) v1 e) fun d =>
    glitch_glitches_19 F b v1 v6 d
   else
    glitch_glitches_19 F b v1 v6 e

theorem z2w (F : Nat) (d : Int → Int → List S_api_Glitch → Option ((List S_api_Glitch))) (g : ∀ (v1 v6 : Int) (w : List S_api_Glitch) (j : SV) (Fr : Rd) (M : Mem) (r : List S_api_Glitch) (hH : Has Fr M [.vec 57 5 w.length j (w.flatMap z03)]), d v1 v6 w = some r → Run Tryz.prog ⟨⟨128, [], none⟩, [.mk ⟨97, [], none⟩ 9 (treeOf []) [itemC Tryz.prog 97 [] 4], .mk ⟨52, [], none⟩ 81 (treeOf [(6, j)]) [itemC Tryz.prog 52 [1, 1, 1, 1, 1, 1, 0] 1, codeC Tryz.prog 52 [1, 1, 1, 1, 1, 1, 1]]]⟩ 63 (z01 r) [(0, j), (1, (.int .i64 v1)), (2, (.fn (.func 98) [] [])), (6, (.int .i64 v6))] [codeC Tryz.prog 128 [1, 1, 1, 1, 0, 0], loopC Tryz.prog 128 [1, 1, 1, 1, 0, 0], .inBlock 2] M) : ∀ (N : Nat), ∀ (v1 v6 v7 v8 : Int) (w : List S_api_Glitch) (j : SV) (Fr : Rd) (M : Mem) (r : List S_api_Glitch) (hH : Has Fr M [.vec 57 5 w.length j (w.flatMap z03)]), glitch_glitches_18 F d N v1 v6 v7 v8 w = some r → Run Tryz.prog ⟨⟨128, [], none⟩, [.mk ⟨97, [], none⟩ 9 (treeOf []) [itemC Tryz.prog 97 [] 4], .mk ⟨52, [], none⟩ 81 (treeOf [(6, j)]) [itemC Tryz.prog 52 [1, 1, 1, 1, 1, 1, 0] 1, codeC Tryz.prog 52 [1, 1, 1, 1, 1, 1, 1]]]⟩ 63 (z01 r) [(0, j), (1, (.int .i64 v1)), (2, (.fn (.func 98) [] [])), (6, (.int .i64 v6)), (7, (.int .i64 v7)), (8, (.int .i64 v8))] [codeC Tryz.prog 128 [1, 1, 1, 1, 0, 0, 1, 0, 1, 0, 0, 0], loopC Tryz.prog 128 [1, 1, 1, 1, 0, 0, 1, 0, 1, 0, 0, 0], .inBlock 4, codeC Tryz.prog 128 [1, 1, 1, 1, 0, 0, 1, 0, 1, 1], .inBlock 3, loopC Tryz.prog 128 [1, 1, 1, 1, 0, 0], .inBlock 2] M := by
 intro N
 induction N with
 | zero =>
  intro v1 v6 v7 v8 w j Fr M r hH h
  simp [glitch_glitches_18] at h
 | succ N ih =>
  intro v1 v6 v7 v8 w j Fr M r hH h
  rw [glitch_glitches_18] at h
  refine Run.seq (Run.seq (Run.region ?_))
  refine mv rfl rfl <| mv rfl rfl <| og (ex_leq rfl rfl) rfl <| Run.opsEnd ?_
  rcases btf ((decide (v8 ≤ v1))) with b | b
  ·have h := bif_t b h
   refine Run.condT' rfl b ?_
   refine Run.skip (Run.block (Run.seq (Run.region ?_)))
   refine mv rfl rfl <| mv rfl rfl <| mv rfl rfl <| mv rfl rfl <| og (ex_add rfl rfl) rfl <| mv rfl rfl <| mv rfl rfl ?_
   obtain ⟨e, p, h⟩ := bnd_some h
   refine Run.callX wantS_none (ex_call rfl z4r z4p) rfl (z0s F v7 (w64 (v7 + v6)) v8 w j Fr [] _ _ hH p) ?_
   rintro _ s ⟨rfl, (m : Has Fr s [.vec 57 5 e.length j (e.flatMap z03)])⟩
   refine Run.opsEnd (Run.seq (Run.region ?_))
   refine mv rfl rfl <| av rfl rfl ?_
   refine Run.opsEnd (Run.region ?_)
   refine mv rfl rfl <| mv rfl rfl <| og (ex_mul rfl rfl) rfl <| og (ex_add rfl rfl) rfl <| av rfl rfl ?_
   refine Run.opsEnd (Run.inBlock (Run.inLoop ?_))
   exact Run.low (.cons (fle_pick [] rfl) (.cons (fle_pick [6] rfl) .nil)) (Run.pick [0, 1, 2, 6, 7, 8] (ih v1 v6 v8 (w64 (v8 + (w64 ((2 : Int) * v6)))) e j _ _ _ m h))
  ·have h := bif_f b h
   refine Run.condF' rfl b ?_
   refine Run.exit rfl (Run.seq (Run.seq (Run.region ?_)))
   refine mv rfl rfl <| mv rfl rfl <| og (ex_add rfl rfl) rfl <| av rfl rfl ?_
   refine Run.opsEnd (Run.seq (Run.region ?_))
   refine mv rfl rfl <| mv rfl rfl <| og (ex_lss rfl rfl) rfl <| Run.opsEnd ?_
   rcases btf ((decide ((w64 (v7 + v6)) < v1))) with c | c
   ·have h := bif_t c h
    refine Run.condT' rfl c <| Run.region <| mv rfl rfl <| mv rfl rfl <| mv rfl rfl <| mv rfl rfl <| mv rfl rfl ?_
    obtain ⟨f, q, h⟩ := bnd_some h
    refine Run.callX wantS_none (ex_call rfl z4r z4p) rfl (z0s F v7 (w64 (v7 + v6)) v1 w j Fr [] _ _ hH q) ?_
    rintro _ u ⟨rfl, (n : Has Fr u [.vec 57 5 f.length j (f.flatMap z03)])⟩
    refine Run.opsEnd (Run.region ?_)
    exact Run.low (.cons (fle_pick [] rfl) (.cons (fle_pick [6] rfl) .nil)) (Run.pick [0, 1, 2, 6] (z1q F d g v1 v6 f j _ _ _ n h))
   ·have h := bif_f c h
    refine Run.condF' rfl c ?_
    refine Run.skip (Run.region ?_)
    exact Run.low (.cons (fle_pick [] rfl) (.cons (fle_pick [6] rfl) .nil)) (Run.pick [0, 1, 2, 6] (z1q F d g v1 v6 w j _ _ _ hH h))

def glitch_glitches_17 (F : Nat) : Nat → Int → Int → List S_api_Glitch → Option ((List S_api_Glitch))
 | 0, _, _, _ => none
 | N + 1, v1, v6, b =>
  bif (decide (v6 < v1)) then
   glitch_glitches_18 F (glitch_glitches_17 F N) F v1 v6 (0 : Int) (w64 ((2 : Int) * v6)) b
  else
   some b

theorem z2v (F : Nat) : ∀ (N : Nat), ∀ (v1 v6 : Int) (c : List S_api_Glitch) (d : SV) (Fr : Rd) (M : Mem) (r : List S_api_Glitch) (hH : Has Fr M [.vec 57 5 c.length d (c.flatMap z03)]), glitch_glitches_17 F N v1 v6 c = some r → Run Tryz.prog ⟨⟨128, [], none⟩, [.mk ⟨97, [], none⟩ 9 (treeOf []) [itemC Tryz.prog 97 [] 4], .mk ⟨52, [], none⟩ 81 (treeOf [(6, d)]) [itemC Tryz.prog 52 [1, 1, 1, 1, 1, 1, 0] 1, codeC Tryz.prog 52 [1, 1, 1, 1, 1, 1, 1]]]⟩ 63 (z01 r) [(0, d), (1, (.int .i64 v1)), (2, (.fn (.func 98) [] [])), (6, (.int .i64 v6))] [codeC Tryz.prog 128 [1, 1, 1, 1, 0, 0], loopC Tryz.prog 128 [1, 1, 1, 1, 0, 0], .inBlock 2] M := by
 intro N
 induction N with
 | zero =>
  intro v1 v6 c d Fr M r hH h
  simp [glitch_glitches_17] at h
 | succ N ih =>
  intro v1 v6 c d Fr M r hH h
  rw [glitch_glitches_17] at h
  refine Run.seq (Run.seq (Run.region ?_))
  refine mv rfl rfl <| mv rfl rfl <| og (ex_lss rfl rfl) rfl <| Run.opsEnd ?_
  rcases btf ((decide (v6 < v1))) with b | b
  ·have h := bif_t b h
   refine Run.condT' rfl b ?_
   refine Run.skip (Run.block (Run.seq (Run.region ?_)))
   refine mv rfl rfl <| og (ex_mul rfl rfl) rfl <| av rfl rfl <| av rfl rfl ?_
   refine Run.opsEnd (Run.seq (Run.block (Run.loop ?_)))
   exact Run.low (.cons (fle_pick [] rfl) (.cons (fle_pick [6] rfl) .nil)) (Run.pick [0, 1, 2, 6, 7, 8] (z2w F (glitch_glitches_17 F N) ih F v1 v6 (0 : Int) (w64 ((2 : Int) * v6)) c d _ _ _ hH h))
  ·have h := bif_f b h
   refine Run.condF' rfl b <| Run.exit rfl <| Run.fallTo Tryz.func128 rfl res_nil rfl <| Run.opsEnd <| Run.fallTo Tryz.func97 rfl res_nil rfl ?_
   refine Run.opsEnd (Run.seq (Run.region ?_))
   refine mv rfl rfl <| av rfl rfl <| Run.opsEnd ?_
   cases h
   exact Run.ret Tryz.func52 rfl (res_tmp rfl res_nil) ⟨_, rfl, (hH.pick [0] rfl rfl).upF (none_le _)⟩

def glitch_glitches_14 (F : Nat) : Nat → Int → Int → Int → Int → Int → List S_api_Glitch → Option ((List S_api_Glitch))
 | 0, _, _, _, _, _, _ => none
 | N + 1, v1, v2, v8, b, c, d =>
  bif (decide (v8 < v2)) then
   glitch_glitches_15 F (glitch_glitches_14 F N) F v1 v2 v8 v8 b c d
  else
   glitch_glitches_17 F F b c d

theorem z2t (F : Nat) : ∀ (N : Nat), ∀ (v1 v2 v8 b c : Int) (f : List S_api_Glitch) (e : SV) (Fr : Rd) (M : Mem) (r : List S_api_Glitch) (hH : Has Fr M [.vec 57 5 f.length e (f.flatMap z03)]), glitch_glitches_14 F N v1 v2 v8 b c f = some r → Run Tryz.prog ⟨⟨159, [], none⟩, [.mk ⟨128, [], none⟩ 63 (treeOf [(0, e), (1, (.int .i64 b)), (2, (.fn (.func 98) [] [])), (6, (.int .i64 c))]) [itemC Tryz.prog 128 [1, 1, 1, 0] 4, codeC Tryz.prog 128 [1, 1, 1, 1]], .mk ⟨97, [], none⟩ 9 (treeOf []) [itemC Tryz.prog 97 [] 4], .mk ⟨52, [], none⟩ 81 (treeOf [(6, e)]) [itemC Tryz.prog 52 [1, 1, 1, 1, 1, 1, 0] 1, codeC Tryz.prog 52 [1, 1, 1, 1, 1, 1, 1]]]⟩ 53 (z01 r) [(0, e), (1, (.int .i64 v1)), (2, (.int .i64 v2)), (3, (.fn (.func 98) [] [])), (8, (.int .i64 v8))] [codeC Tryz.prog 159 [1, 0, 0], loopC Tryz.prog 159 [1, 0, 0], .inBlock 0] M := by
 intro N
 induction N with
 | zero =>
  intro v1 v2 v8 b c f e Fr M r hH h
  simp [glitch_glitches_14] at h
 | succ N ih =>
  intro v1 v2 v8 b c f e Fr M r hH h
  rw [glitch_glitches_14] at h
  refine Run.seq (Run.seq (Run.region ?_))
  refine mv rfl rfl <| mv rfl rfl <| og (ex_lss rfl rfl) rfl <| Run.opsEnd ?_
  rcases btf ((decide (v8 < v2))) with d | d
  ·have h := bif_t d h
   refine Run.condT' rfl d ?_
   refine Run.skip (Run.seq (Run.block (Run.seq (Run.region ?_))))
   refine mv rfl rfl <| av rfl rfl ?_
   refine Run.opsEnd (Run.block (Run.loop ?_))
   exact Run.low (.cons (fle_pick [0, 1, 2, 6] rfl) (.cons (fle_pick [] rfl) (.cons (fle_pick [6] rfl) .nil))) (Run.pick [0, 1, 2, 3, 8, 9] (z2u F (glitch_glitches_14 F N) ih F v1 v2 v8 v8 b c f e _ _ _ hH h))
  ·have h := bif_f d h
   refine Run.condF' rfl d <| Run.exit rfl <| Run.fallTo Tryz.func159 rfl res_nil rfl ?_
   refine Run.opsEnd (Run.block (Run.loop ?_))
   exact Run.low (.cons (fle_pick [] rfl) (.cons (fle_pick [6] rfl) .nil)) (Run.pick [0, 1, 2, 6] (z2v F F b c f e _ _ _ hH h))

def glitch_glitches_10 (F : Nat) : Nat → Int → Int → Int → Int → List S_api_Glitch → Option ((List S_api_Glitch))
 | 0, _, _, _, _, _ => none
 | N + 1, v1, v6, v7, v8, b =>
  bif (decide (v8 ≤ v1)) then
   glitch_glitches_11 F (glitch_glitches_10 F N) F v7 v8 (w64 (v7 + (1 : Int))) v1 v6 v8 b
  else
   glitch_glitches_14 F F v7 v1 (w64 (v7 + (1 : Int))) v1 v6 b

theorem z2q (F : Nat) : ∀ (N : Nat), ∀ (v1 v6 v7 v8 : Int) (c : List S_api_Glitch) (d : SV) (Fr : Rd) (M : Mem) (r : List S_api_Glitch) (hH : Has Fr M [.vec 57 5 c.length d (c.flatMap z03)]), glitch_glitches_10 F N v1 v6 v7 v8 c = some r → Run Tryz.prog ⟨⟨128, [], none⟩, [.mk ⟨97, [], none⟩ 9 (treeOf []) [itemC Tryz.prog 97 [] 4], .mk ⟨52, [], none⟩ 81 (treeOf [(6, d)]) [itemC Tryz.prog 52 [1, 1, 1, 1, 1, 1, 0] 1, codeC Tryz.prog 52 [1, 1, 1, 1, 1, 1, 1]]]⟩ 63 (z01 r) [(0, d), (1, (.int .i64 v1)), (2, (.fn (.func 98) [] [])), (6, (.int .i64 v6)), (7, (.int .i64 v7)), (8, (.int .i64 v8))] [codeC Tryz.prog 128 [1, 1, 0, 0, 0], loopC Tryz.prog 128 [1, 1, 0, 0, 0], .inBlock 0, codeC Tryz.prog 128 [1, 1, 1]] M := by
 intro N
 induction N with
 | zero =>
  intro v1 v6 v7 v8 c d Fr M r hH h
  simp [glitch_glitches_10] at h
 | succ N ih =>
  intro v1 v6 v7 v8 c d Fr M r hH h
  rw [glitch_glitches_10] at h
  refine Run.seq (Run.seq (Run.region ?_))
  refine mv rfl rfl <| mv rfl rfl <| og (ex_leq rfl rfl) rfl <| Run.opsEnd ?_
  rcases btf ((decide (v8 ≤ v1))) with b | b
  ·have h := bif_t b h
   refine Run.condT' rfl b ?_
   refine Run.skip (Run.block (Run.seq (Run.region ?_)))
   refine mv rfl rfl <| mv rfl rfl <| mv rfl rfl <| mv rfl rfl <| Run.enter wantS_none (ex_call rfl z5o z5c) Tryz.func159 rfl rfl ?_
   refine Run.seq (Run.region ?_)
   refine mv rfl rfl <| og (ex_add rfl rfl) rfl <| av rfl rfl ?_
   refine Run.opsEnd (Run.block (Run.loop ?_))
   exact Run.low (.cons (fle_pick [0, 1, 2, 6, 8] rfl) (.cons (fle_pick [] rfl) (.cons (fle_pick [6] rfl) .nil))) (Run.pick [0, 1, 2, 3, 8] (z2r F (glitch_glitches_10 F N) ih F v7 v8 (w64 (v7 + (1 : Int))) v1 v6 v8 c d _ _ _ hH h))
  ·have h := bif_f b h
   refine Run.condF' rfl b ?_
   refine Run.exit rfl (Run.seq (Run.region ?_))
   refine mv rfl rfl <| mv rfl rfl <| mv rfl rfl <| mv rfl rfl <| Run.enter wantS_none (ex_call rfl z5o z5c) Tryz.func159 rfl rfl ?_
   refine Run.seq (Run.region ?_)
   refine mv rfl rfl <| og (ex_add rfl rfl) rfl <| av rfl rfl ?_
   refine Run.opsEnd (Run.block (Run.loop ?_))
   exact Run.low (.cons (fle_pick [0, 1, 2, 6] rfl) (.cons (fle_pick [] rfl) (.cons (fle_pick [6] rfl) .nil))) (Run.pick [0, 1, 2, 3, 8] (z2t F F v7 v1 (w64 (v7 + (1 : Int))) v1 v6 c d _ _ _ hH h))

def glitch_glitches_6 (F : Nat) : Nat → List S_api_Tile → Int → List S_api_Tile → Int → Int → List Int → List S_api_Glitch → (List (Int × Int)) → Option ((List S_api_Glitch))
 | 0, _, _, _, _, _, _, _, _ => none
 | N + 1, v0, v1, d, e, b, f, c, g =>
  bif (decide (b < e)) then
   bnd (idx d b) fun j =>
   glitch_glitches_7 F (glitch_glitches_6 F N) F b v0 v1 b d e b j f c g
  else
   glitch_glitches_10 F F (c.length : Int) (20 : Int) (0 : Int) (20 : Int) c

theorem z36 (F : Nat) : ∀ (N : Nat), ∀ (v0 : List S_api_Tile) (v1 : Int) (a2 : List S_api_Tile) (a0 s : Int) (p : List Int) (j : List S_api_Glitch) (q : (List (Int × Int))) (a1 d y u : SV) (x : Pos) (Fr : Rd) (M : Mem) (r : List S_api_Glitch) (a3 : Slc Fr 3 (FlatR z04) a1 v0) (e : Slc Fr 3 (FlatR z04) d a2) (hH : Has Fr M [.vec 3 1 p.length y (p.flatMap enc3), .vec 57 5 j.length u (j.flatMap z03), .obj x (.map (mapES kv3 kv3 0 q) q.length)]), glitch_glitches_6 F N v0 v1 a2 a0 s p j q = some r → Run Tryz.prog ⟨⟨52, [], none⟩, []⟩ 81 (z01 r) [(0, a1), (1, (.int .i64 v1)), (5, y), (6, u), (7, (.map x)), (22, d), (23, (.int .i64 a0)), (24, (.int .i64 s))] [codeC Tryz.prog 52 [1, 1, 1, 1, 1, 0, 1, 0, 0], loopC Tryz.prog 52 [1, 1, 1, 1, 1, 0, 1, 0, 0], .inBlock 0, codeC Tryz.prog 52 [1, 1, 1, 1, 1, 1]] M := by
 intro N
 induction N with
 | zero =>
  intro v0 v1 a2 a0 s p j q a1 d y u x Fr M r a3 e hH h
  simp [glitch_glitches_6] at h
 | succ N ih =>
  intro v0 v1 a2 a0 s p j q a1 d y u x Fr M r a3 e hH h
  rw [glitch_glitches_6] at h
  refine Run.seq (Run.region ?_)
  refine og (ex_lss rfl rfl) rfl ?_
  refine Run.opsEnd (Run.seq ?_)
  rcases btf ((decide (s < a0))) with c | c
  ·have h := bif_t c h
   refine Run.condT' rfl c ?_
   refine Run.skip (Run.seq (Run.block (Run.seq (Run.region ?_))))
   refine mv rfl rfl ?_
   obtain ⟨w, f, h⟩ := bnd_some h
   obtain ⟨a8, a7, _, f, n, rfl⟩ := sl_elem (P := Tryz.prog) (t := 50) (kk := .i64) e f z4d
   refine og (ex_elX rfl rfl f) rfl <| og (ex_loadA rfl (hH.ptrF n) rdLe_rfl z3h rfl rfl rfl) rfl <| ox rfl (ExG.new (v := fun b => .ptr b 0) (ex_alloc z58) hH) ?_
   rintro _ a6 ⟨a4, rfl, g⟩
   refine av rfl rfl <| ox rfl (ExG.storeC (c' := [(.int .i64 w.Level), (.int .i64 w.At), (.int .i64 w.D)]) rfl rfl rfl g (i := 0) rfl z7s rfl rfl rfl rfl rfl) ?_
   rintro _ a5 ⟨rfl, (m : Has Fr a5 [.obj a4 (.row 59 .whole [(.int .i64 w.Level), (.int .i64 w.At), (.int .i64 w.D)]), .vec 3 1 p.length y (p.flatMap enc3), .vec 57 5 j.length u (j.flatMap z03), .obj x (.map (mapES kv3 kv3 0 q) q.length)])⟩
   refine Run.opsEnd (Run.seq (Run.region ?_))
   refine mv rfl rfl <| mv rfl rfl <| Run.enter wantS_none (ex_call rfl z5u z5q) Tryz.func94 rfl rfl ?_
   refine Run.seq (Run.region ?_)
   refine av rfl rfl ?_
   refine Run.opsEnd (Run.seq (Run.block (Run.loop ?_)))
   exact Run.low (.cons (fle_pick [0, 1, 5, 6, 7, 8, 9, 22, 23, 24] rfl) .nil) (Run.pick [0, 1] (z37 F (glitch_glitches_6 F N) ih F s v0 v1 s a2 a0 s w p j q a1 d y u x a4 _ _ _ a3 e (m.pick [1, 2, 3, 0] rfl rfl) h))
  ·have h := bif_f c h
   refine Run.condF' rfl c ?_
   refine Run.exit rfl (Run.seq (Run.region ?_))
   refine mv rfl rfl <| Run.enter wantS_none (ex_call rfl z7n z75) Tryz.func97 rfl rfl <| Run.region <| mv rfl rfl <| mv rfl rfl <| og (ex_len' rfl (hH.slc (i := 1) rfl z02) z4q) rfl <| mv rfl rfl <| Run.enter wantS_none (ex_call rfl z6k z63) Tryz.func128 rfl rfl ?_
   refine Run.seq (Run.region ?_)
   refine av rfl rfl ?_
   refine Run.opsEnd (Run.seq (Run.region ?_))
   refine mv rfl rfl <| av rfl rfl <| av rfl rfl ?_
   refine Run.opsEnd (Run.seq (Run.block (Run.loop ?_)))
   exact Run.low (.cons (fle_pick [] rfl) (.cons (fle_pick [6] rfl) .nil)) (Run.pick [0, 1, 2, 6, 7, 8] (z2q F F (j.length : Int) (20 : Int) (0 : Int) (20 : Int) j u _ _ _ (hH.pick [1] rfl rfl) h))

def glitch_glitches_1 (F : Nat) : Nat → List S_api_Tile → Int → Int → List S_api_Tile → Int → List Int → (List (S_glitch_place × Int)) → Option ((List S_api_Glitch))
 | 0, _, _, _, _, _, _, _ => none
 | N + 1, g, j, d, b, c, e, n =>
  bif (decide (d < j)) then
   bnd (idx g d) fun m =>
   bnd (glitch_placesBefore F m) fun f =>
   glitch_glitches_2 F (glitch_glitches_1 F N) F d g j d (f.length : Int) (0 : Int) b c m e n f
  else
   glitch_glitches_6 F F b c b (b.length : Int) (0 : Int) e ([] : List S_api_Glitch) ([] : List (Int × Int))

theorem z32 (F : Nat) : ∀ (N : Nat), ∀ (a9 : List S_api_Tile) (a8 a7 : Int) (d : List S_api_Tile) (f : Int) (j : List Int) (a3 : (List (S_glitch_place × Int))) (m c a5 : SV) (a6 : Pos) (Fr : Rd) (M : Mem) (r : List S_api_Glitch) (n : Slc Fr 3 (FlatR z04) m a9) (e : Slc Fr 3 (FlatR z04) c d) (hH : Has Fr M [.vec 3 1 j.length a5 (j.flatMap enc3), .obj a6 (.map (mapES z2a kv3 0 a3) a3.length)]), glitch_glitches_1 F N a9 a8 a7 d f j a3 = some r → Run Tryz.prog ⟨⟨92, [], none⟩, [.mk ⟨52, [], none⟩ 81 (treeOf [(0, c), (1, (.int .i64 f)), (5, a5)]) [itemC Tryz.prog 52 [1, 1, 0] 3, codeC Tryz.prog 52 [1, 1, 1]]]⟩ 46 (z01 r) [(1, (.fn (.func 93) [a5] [])), (4, (.map a6)), (12, m), (13, (.int .i64 a8)), (14, (.int .i64 a7))] [codeC Tryz.prog 92 [1, 1, 0, 0], loopC Tryz.prog 92 [1, 1, 0, 0], .inBlock 0] M := by
 intro N
 induction N with
 | zero =>
  intro a9 a8 a7 d f j a3 m c a5 a6 Fr M r n e hH h
  simp [glitch_glitches_1] at h
 | succ N ih =>
  intro a9 a8 a7 d f j a3 m c a5 a6 Fr M r n e hH h
  rw [glitch_glitches_1] at h
  refine Run.seq (Run.region ?_)
  refine og (ex_lss rfl rfl) rfl ?_
  refine Run.opsEnd (Run.seq ?_)
  rcases btf ((decide (a7 < a8))) with g | g
  ·have h := bif_t g h
   refine Run.condT' rfl g ?_
   refine Run.skip (Run.seq (Run.block (Run.seq (Run.region ?_))))
   refine mv rfl rfl ?_
   obtain ⟨a4, p, h⟩ := bnd_some h
   obtain ⟨b8, b7, _, p, a1, rfl⟩ := sl_elem (P := Tryz.prog) (t := 50) (kk := .i64) n p z4d
   refine og (ex_elX rfl rfl p) rfl <| og (ex_loadA rfl (hH.ptrF a1) rdLe_rfl z3h rfl rfl rfl) rfl <| ox rfl (ExG.new (v := fun b => .ptr b 0) (ex_alloc z58) hH) ?_
   rintro _ b6 ⟨b1, rfl, w⟩
   refine av rfl rfl <| ox rfl (ExG.storeC (c' := [(.int .i64 a4.Level), (.int .i64 a4.At), (.int .i64 a4.D)]) rfl rfl rfl w (i := 0) rfl z7s rfl rfl rfl rfl rfl) ?_
   rintro _ b3 ⟨rfl, (s : Has Fr b3 [.obj b1 (.row 59 .whole [(.int .i64 a4.Level), (.int .i64 a4.At), (.int .i64 a4.D)]), .vec 3 1 j.length a5 (j.flatMap enc3), .obj a6 (.map (mapES z2a kv3 0 a3) a3.length)])⟩
   refine Run.opsEnd (Run.seq (Run.seq (Run.region ?_)))
   refine og (ex_loadA rfl (s.cells (i := 0) rfl 0 rfl) rdLe_rfl z3h rfl rfl rfl) rfl ?_
   obtain ⟨b0, a2, h⟩ := bnd_some h
   refine Run.callX wantS_none (ex_call rfl z6j z62) rfl (z2o F a4 _ _ a2) ?_
   rintro q b4 ⟨_, rfl, a0⟩
   have u : Has Fr b4 [.vec 160 2 b0.length q (b0.flatMap z0n), .obj b1 (.row 59 .whole [(.int .i64 a4.Level), (.int .i64 a4.At), (.int .i64 a4.D)]), .vec 3 1 j.length a5 (j.flatMap enc3), .obj a6 (.map (mapES z2a kv3 0 a3) a3.length)] := a0.1 _ _ s
   refine og (ex_len' rfl (u.slc (i := 0) rfl z0y) z5s) rfl <| mv rfl rfl ?_
   refine Run.opsEnd (Run.block (Run.loop ?_))
   exact Run.low (.cons (fle_pick [0, 1, 5] rfl) .nil) (Run.pick [1, 4, 5, 6, 12, 13, 14, 20, 21, 22] (z33 F (glitch_glitches_1 F N) ih F a7 a9 a8 a7 (b0.length : Int) (0 : Int) d f a4 j a3 b0 m c a5 a6 b1 q _ _ _ n e (u.pick [2, 3, 1, 0] rfl rfl) h))
  ·have h := bif_f g h
   refine Run.condF' rfl g <| Run.exit rfl <| Run.fallTo Tryz.func92 rfl res_nil rfl ?_
   refine Run.opsEnd (Run.seq (Run.region ?_))
   refine av rfl rfl ?_
   refine Run.opsEnd (Run.seq (Run.region ?_))
   refine ox rfl (ExG.makeMap kv3 kv3 hH) ?_
   rintro _ b5 ⟨b2, rfl, x⟩
   refine av rfl rfl ?_
   refine Run.opsEnd (Run.seq (Run.seq (Run.region ?_)))
   refine mv rfl rfl <| og (ex_len' rfl e z2n) rfl <| mv rfl rfl ?_
   refine Run.opsEnd (Run.block (Run.loop ?_))
   have y : Has Fr b5 [.vec 57 5 ([] : List S_api_Glitch).length .nils (([] : List S_api_Glitch).flatMap z03), .obj b2 (.map (mapES kv3 kv3 0 ([] : List (Int × Int))) ([] : List (Int × Int)).length), .vec 3 1 j.length a5 (j.flatMap enc3), .obj a6 (.map (mapES z2a kv3 0 a3) a3.length)] := x.nils 57 5
   exact Run.pick [0, 1, 5, 6, 7, 22, 23, 24] (z36 F F d f d (d.length : Int) (0 : Int) j ([] : List S_api_Glitch) ([] : List (Int × Int)) c c a5 .nils b2 _ _ _ e e (y.pick [2, 0, 1] rfl rfl) h)

def glitch_glitches (F : Nat) (a0 : List S_api_Tile) (a1 : Int) : Option ((List S_api_Glitch)) :=
 bnd (glitch_apart F (a0.length : Int)) fun b =>
 glitch_glitches_1 F F a0 (a0.length : Int) (0 : Int) a0 a1 b ([] : List (S_glitch_place × Int))

theorem z3l (F : Nat) (a0 : List S_api_Tile) (a1 : Int) (s0 : SV) (r : List S_api_Glitch) (M : Mem) (g : Slc (rd M) 3 (FlatR z04) s0 a0) (h : glitch_glitches F a0 a1 = some r) : CallsM Tryz.prog 52 [s0, (.int .i64 a1)] M (fun s M' => ∃ q1, s = q1 ∧ New M M' [.vec 57 5 r.length q1 (r.flatMap z03)]) := by
 refine CallsM.fresh (Q := z01 r) Tryz.func52 rfl rfl ?_ (by rintro s Me ⟨q1, rfl, hx⟩ ha hw; exact ⟨_, rfl, New.of rfl hx ha hw⟩)
 rw [glitch_glitches] at h
 replace g := g.mono (rdLe_frozen M) (fun _ _ h => h)
 have hH := Has.nil (frozen M)
 refine Run.seq (Run.region ?_)
 refine av rfl rfl ?_
 refine Run.opsEnd (Run.seq (Run.region ?_))
 refine mv rfl rfl <| og (ex_len' rfl g z2n) rfl ?_
 obtain ⟨j, f, h⟩ := bnd_some h
 refine Run.callX wantS_none (ex_call rfl z7j z71) rfl (z48 F (a0.length : Int) _ _ f) ?_
 rintro b m ⟨_, rfl, e⟩
 have c : Has (ro (frozen M)) m [.vec 3 1 j.length b (j.flatMap enc3)] := e.1 _ _ hH
 refine av rfl rfl ?_
 refine Run.opsEnd (Run.seq (Run.region ?_))
 refine mv rfl rfl <| mv rfl rfl <| og (ex_makeFunc rfl rfl) rfl <| Run.enter wantS_none (ex_call rfl z7k z72) Tryz.func92 rfl rfl ?_
 refine Run.seq (Run.region ?_)
 refine ox rfl (ExG.makeMap z2a kv3 c) ?_
 rintro _ p ⟨n, rfl, d⟩
 refine av rfl rfl ?_
 refine Run.opsEnd (Run.seq (Run.region ?_))
 refine mv rfl rfl <| og (ex_len' rfl g z2n) rfl <| mv rfl rfl ?_
 refine Run.opsEnd (Run.block (Run.loop ?_))
 exact Run.low (.cons (fle_pick [0, 1, 5] rfl) .nil) (Run.pick [1, 4, 12, 13, 14] (z32 F F a0 (a0.length : Int) (0 : Int) a0 a1 j ([] : List (S_glitch_place × Int)) s0 s0 b n _ _ _ g g (d.pick [1, 0] rfl rfl) h))

theorem z7e : makeK Tryz.prog 52 = none := by kernel_rfl
theorem z6v : callable Tryz.prog 52 = true := by kernel_rfl
abbrev z31 (r : (List S_api_Glitch) × Int) : SV → Mem → Prop := fun s Me => ∃ q1, s = (.tuple [q1, (.int .i64 r.2)]) ∧ Has (fun _ => none) Me [.vec 57 5 r.1.length q1 (r.1.flatMap z03)]

def glitch_Glitches (F : Nat) (a0 : List Int) (a1 : Int) : Option ((List S_api_Glitch) × Int) :=
 bnd (glitch_checkThreshold F a0 a1) fun b =>
 bif (!(b == (0 : Int))) then
  some (([] : List S_api_Glitch), b)
 else
  bnd (glitch_loud F a0 a1) fun c =>
  bnd (glitch_glitches F c (a0.length : Int)) fun d =>
  some (d, (0 : Int))

theorem z3j (F : Nat) (a0 : List Int) (a1 : Int) (s0 : SV) (r : (List S_api_Glitch) × Int) (M : Mem) (j : Slc (rd M) 1 (FlatR enc3) s0 a0) (h : glitch_Glitches F a0 a1 = some r) : CallsM Tryz.prog 23 [s0, (.int .i64 a1)] M (fun s M' => ∃ q1, s = (.tuple [q1, (.int .i64 r.2)]) ∧ New M M' [.vec 57 5 r.1.length q1 (r.1.flatMap z03)]) := by
 refine CallsM.fresh (Q := z31 r) Tryz.func23 rfl rfl ?_ (by rintro s Me ⟨q1, rfl, hx⟩ ha hw; exact ⟨_, rfl, New.of rfl hx ha hw⟩)
 rw [glitch_Glitches] at h
 replace j := j.mono (rdLe_frozen M) (fun _ _ h => h)
 have hH := Has.nil (frozen M)
 refine Run.seq (Run.region ?_)
 refine av rfl rfl <| av rfl rfl ?_
 refine Run.opsEnd (Run.seq (Run.seq (Run.region ?_)))
 refine mv rfl rfl <| mv rfl rfl ?_
 obtain ⟨a2, n, h⟩ := bnd_some h
 refine Run.callP wantS_none (ex_call rfl z6o z68) rfl (z0z F a0 a1 s0 _ _ (hH.slcF j) n) <| av rfl rfl ?_
 refine Run.opsEnd (Run.seq (Run.region ?_))
 refine mv rfl rfl <| og (ex_neq rfl rfl) rfl <| Run.opsEnd ?_
 rcases btf ((!(a2 == (0 : Int)))) with hc24 | hc24
 ·have h := bif_t hc24 h
  refine Run.condT' rfl hc24 ?_
  refine Run.seq (Run.region ?_)
  refine mv rfl rfl <| av rfl rfl <| av rfl rfl <| Run.opsEnd ?_
  have e : Has (ro (frozen M)) (frozen M) [.vec 57 5 ([] : List S_api_Glitch).length .nils (([] : List S_api_Glitch).flatMap z03)] := hH.nils 57 5
  cases h
  exact Run.ret Tryz.func23 rfl (res_tmp rfl (res_tmp rfl res_nil)) ⟨_, rfl, (e.pick [0] rfl rfl).upF (none_le _)⟩
 ·have h := bif_f hc24 h
  refine Run.condF' rfl hc24 ?_
  refine Run.skip (Run.seq (Run.region ?_))
  refine mv rfl rfl <| mv rfl rfl ?_
  obtain ⟨u, p, h⟩ := bnd_some h
  refine Run.callX wantS_none (ex_call rfl z6p z69) rfl (z3a F a0 a1 s0 _ _ (hH.slcF j) p) ?_
  rintro b x ⟨_, rfl, g⟩
  have c : Has (ro (frozen M)) x [.vec 59 3 u.length b (u.flatMap z04)] := g.1 _ _ hH
  refine mv rfl rfl <| og (ex_len' rfl j z3w) rfl ?_
  obtain ⟨w, q, h⟩ := bnd_some h
  refine Run.callX wantS_none (ex_call rfl z7e z6v) rfl (z3l F u (a0.length : Int) b _ _ (c.slc (i := 0) rfl z08) q) ?_
  rintro d y ⟨_, rfl, m⟩
  have f : Has (ro (frozen M)) y [.vec 57 5 w.length d (w.flatMap z03), .vec 59 3 u.length b (u.flatMap z04)] := m.1 _ _ c
  refine av rfl rfl <| av rfl rfl <| Run.opsEnd ?_
  cases h
  exact Run.ret Tryz.func23 rfl (res_tmp rfl (res_tmp rfl res_nil)) ⟨_, rfl, (f.pick [0] rfl rfl).upF (none_le _)⟩

theorem z7d : makeK Tryz.prog 23 = none := by kernel_rfl
theorem z6u : callable Tryz.prog 23 = true := by kernel_rfl
theorem z6h : makeK Tryz.prog 11 = none := by kernel_rfl
theorem z60 : callable Tryz.prog 11 = true := by kernel_rfl
abbrev z3q (r : Bool) : SV → Mem → Prop := fun s _ => s = (.bool r)

def ref00_In_1 (F : Nat) (b : Bool) : Option (Bool) :=
 some b

theorem z3p (F : Nat) : ∀ (b : Bool) (Fr : Rd) (M : Mem) (r : Bool) (hH : Has Fr M []), ref00_In_1 F b = some r → Run Tryz.prog ⟨⟨21, [], none⟩, []⟩ 15 (z3q r) [(14, (.bool b))] [itemC Tryz.prog 21 [1, 0] 8, codeC Tryz.prog 21 [1, 1]] M := by
 intro b Fr M r hH h
 rw [ref00_In_1] at h
 refine av rfl rfl <| Run.opsEnd ?_
 cases h
 exact Run.ret Tryz.func21 rfl (res_tmp rfl res_nil) rfl

def ref00_In (F : Nat) (a0 a1 a2 : Int) : Option (Bool) :=
 bif (decide (a1 ≤ a0)) then
  ref00_In_1 F (decide (a0 ≤ a2))
 else
  ref00_In_1 F false

theorem z49 (F : Nat) (a0 a1 a2 : Int) (r : Bool) (M : Mem) (h : ref00_In F a0 a1 a2 = some r) : CallsM Tryz.prog 21 [(.int .i64 a0), (.int .i64 a1), (.int .i64 a2)] M (fun s M' => s = (.bool r) ∧ M' = M) := by
 refine CallsM.plain Tryz.func21 rfl rfl rfl (show Run _ _ _ (z3q r) _ _ _ from ?_)
 rw [ref00_In] at h
 have hH := Has.nil (frozen M)
 refine Run.seq (Run.region ?_)
 refine av rfl rfl ?_
 refine Run.opsEnd (Run.seq (Run.region ?_))
 refine mv rfl rfl <| mv rfl rfl <| og (ex_leq rfl rfl) rfl <| mv rfl rfl ?_
 rcases btf ((decide (a1 ≤ a0))) with b | b
 ·have h := bif_t b h
  refine gy rfl rfl b (ex_move rfl) rfl <| gy rfl rfl b (ex_move rfl) rfl <| gy rfl rfl b (ex_leq rfl rfl) rfl <| og (ex_pickT' rfl b rfl rfl) rfl ?_
  exact Run.pick [14] (z3p F (decide (a0 ≤ a2)) _ _ _ hH h)
 ·have h := bif_f b h
  refine gn rfl rfl b rfl <| gn rfl rfl b rfl <| gn rfl rfl b rfl <| og (ex_pickF' rfl b rfl rfl) rfl ?_
  exact Run.pick [14] (z3p F false _ _ _ hH h)

theorem z6m : makeK Tryz.prog 21 = none := by kernel_rfl
theorem z65 : callable Tryz.prog 21 = true := by kernel_rfl
theorem z1c : planOf Tryz.prog (opsC (atC Tryz.prog 6 [1, 1, 1, 1, 1, 0, 1, 0, 0, 1, 0, 0, 0, 0])) = some [.fl 0, .fl 1, .fl 2, .fl 3, .fl 4, .fl 5, .fl 6, .fl 7, .an 8 [], .fl 9, .fl 10, .fl 11, .fl 12, .fl 13, .fl 14, .fl 15, .fl 16, .fl 17, .fl 18, .fl 19, .fl 20, .fl 21, .fl 22, .fl 23, .fl 24, .fl 25, .fl 26, .fl 27, .fl 28, .fl 29, .fl 30, .fl 31, .fl 32, .fl 33, .fl 34, .fl 35, .fl 36, .fl 37, .fl 38, .fl 39, .fl 40, .sync] := by kernel_rfl
theorem z1d : planOf Tryz.prog (opsC (atC Tryz.prog 6 [1, 1, 1, 1, 1, 1, 0, 1, 0, 0, 1, 0, 0, 1])) = some [.fl 0, .fl 1, .fl 2, .fl 3, .fl 4, .fl 5, .fl 6, .fl 7, .fl 8, .fl 9, .fl 10, .fl 11, .fl 12, .fl 13, .fl 14, .fl 15, .fl 16, .fl 17, .fl 18, .fl 19, .fl 20, .fl 21, .an 22 [], .sync] := by kernel_rfl
abbrev z3c (r : Int) : SV → Mem → Prop := fun s _ => s = (.int .i64 r)

def ref00_Mod_1 (F : Nat) (v0 : Int) : Option (Int) :=
 some v0

theorem z3b (F : Nat) : ∀ (v0 : Int) (Fr : Rd) (M : Mem) (r : Int) (hH : Has Fr M []), ref00_Mod_1 F v0 = some r → Run Tryz.prog ⟨⟨9, [], none⟩, []⟩ 16 (z3c r) [(0, (.int .i64 v0))] [itemC Tryz.prog 9 [1, 1, 1, 1, 0] 0, codeC Tryz.prog 9 [1, 1, 1, 1, 1]] M := by
 intro v0 Fr M r hH h
 rw [ref00_Mod_1] at h
 refine mv rfl rfl <| av rfl rfl <| Run.opsEnd ?_
 cases h
 exact Run.ret Tryz.func9 rfl (res_tmp rfl res_nil) rfl

def ref00_Mod (F : Nat) (a0 a1 : Int) : Option (Int) :=
 bif (decide (a1 < (1 : Int))) then
  some (0 : Int)
 else
  bnd (nz a1) fun b =>
  bif (decide ((Int.tmod a0 a1) < (0 : Int))) then
   ref00_Mod_1 F (w64 ((Int.tmod a0 a1) + a1))
  else
   ref00_Mod_1 F (Int.tmod a0 a1)

theorem z4k (F : Nat) (a0 a1 r : Int) (M : Mem) (h : ref00_Mod F a0 a1 = some r) : CallsM Tryz.prog 9 [(.int .i64 a0), (.int .i64 a1)] M (fun s M' => s = (.int .i64 r) ∧ M' = M) := by
 refine CallsM.plain Tryz.func9 rfl rfl rfl (show Run _ _ _ (z3c r) _ _ _ from ?_)
 rw [ref00_Mod] at h
 have hH := Has.nil (frozen M)
 refine Run.seq (Run.region ?_)
 refine av rfl rfl ?_
 refine Run.opsEnd (Run.seq (Run.seq (Run.region ?_)))
 refine mv rfl rfl <| og (ex_lss rfl rfl) rfl <| Run.opsEnd ?_
 rcases btf ((decide (a1 < (1 : Int)))) with hc21 | hc21
 ·have h := bif_t hc21 h
  refine Run.condT' rfl hc21 ?_
  refine Run.seq (Run.region ?_)
  refine av rfl rfl <| Run.opsEnd ?_
  cases h
  exact Run.ret Tryz.func9 rfl (res_tmp rfl res_nil) rfl
 ·have h := bif_f hc21 h
  refine Run.condF' rfl hc21 ?_
  refine Run.skip (Run.seq (Run.region ?_))
  refine mv rfl rfl <| mv rfl rfl ?_
  obtain ⟨c, b, h⟩ := bnd_some h
  refine og (ex_rem' rfl rfl b) rfl <| av rfl rfl ?_
  refine Run.opsEnd (Run.seq (Run.seq (Run.region ?_)))
  refine mv rfl rfl <| og (ex_lss rfl rfl) rfl <| Run.opsEnd ?_
  rcases btf ((decide ((Int.tmod a0 a1) < (0 : Int)))) with hc24 | hc24
  ·have h := bif_t hc24 h
   refine Run.condT' rfl hc24 <| Run.region <| mv rfl rfl <| mv rfl rfl <| og (ex_add rfl rfl) rfl <| av rfl rfl ?_
   refine Run.opsEnd (Run.seq (Run.region ?_))
   exact Run.pick [0] (z3b F (w64 ((Int.tmod a0 a1) + a1)) _ _ _ hH h)
  ·have h := bif_f hc24 h
   refine Run.condF' rfl hc24 ?_
   refine Run.skip (Run.seq (Run.region ?_))
   exact Run.pick [0] (z3b F (Int.tmod a0 a1) _ _ _ hH h)

theorem z7x : makeK Tryz.prog 9 = none := by kernel_rfl
theorem z7w : callable Tryz.prog 9 = true := by kernel_rfl
theorem z6t : aggK Tryz.prog 59 = some (.st [⟨ "Level", 3, 0, false, "", "", 0⟩, ⟨ "At", 3, 1, false, "", "", 8⟩, ⟨ "D", 3, 2, false, "", "", 16⟩]) := by kernel_rfl
theorem z6s : aggEq Tryz.prog 59 = false := by kernel_rfl
theorem z0r : planOf Tryz.prog (opsC (atC Tryz.prog 6 [1, 1, 1, 1, 1, 1, 1, 1, 1, 1, 0, 1, 0, 0, 1, 0, 0, 0])) = some [.fl 0, .fl 1, .fl 2, .fl 3, .fl 4, .fl 5, .fl 6, .fl 7, .fl 8, .sync] := by kernel_rfl
abbrev law06_GlitchCounts_post (r : Bool) : SV → Mem → Prop := fun s _ => s = (.bool r)

def law06_GlitchCounts_4 (F : Nat) (b : Bool) : Option (Bool) :=
 some b

theorem z18 (F : Nat) : ∀ (b : Bool) (Fr : Rd) (M : Mem) (r : Bool) (hH : Has Fr M [tb0, tb1, tb2]), law06_GlitchCounts_4 F b = some r → Run Tryz.prog ⟨⟨6, [], none⟩, []⟩ 207 (law06_GlitchCounts_post r) [(51, (.bool b))] [itemC Tryz.prog 6 [1, 1, 1, 0, 1, 0, 0] 16, codeC Tryz.prog 6 [1, 1, 1, 0, 1, 0, 1], codeC Tryz.prog 6 [1, 1, 1, 1]] M := by
 intro b Fr M r hH h
 rw [law06_GlitchCounts_4] at h
 refine av rfl rfl <| Run.opsEnd ?_
 cases h
 exact Run.ret Tryz.func6 rfl (res_tmp rfl res_nil) rfl

def law06_GlitchCounts_3 (F : Nat) (c : Bool) : Option (Bool) :=
 bif c then
  bnd (works F) fun b =>
  law06_GlitchCounts_4 F b
 else
  law06_GlitchCounts_4 F false

theorem z17 (F : Nat) : ∀ (d : Bool) (Fr : Rd) (M : Mem) (r : Bool) (hH : Has Fr M [tb0, tb1, tb2]), law06_GlitchCounts_3 F d = some r → Run Tryz.prog ⟨⟨6, [], none⟩, []⟩ 207 (law06_GlitchCounts_post r) [(48, (.bool d))] [itemC Tryz.prog 6 [1, 1, 1, 0, 1, 0, 0] 13, codeC Tryz.prog 6 [1, 1, 1, 0, 1, 0, 1], codeC Tryz.prog 6 [1, 1, 1, 1]] M := by
 intro d Fr M r hH h
 rw [law06_GlitchCounts_3] at h
 refine mv rfl rfl ?_
 rcases btf (d) with b | b
 ·have h := bif_t b h
  obtain ⟨e, c, h⟩ := bnd_some h
  refine Run.callP (wantS_yes' rfl rfl b) (ex_call rfl z6h z60) rfl (z4s F e _ hH (List.mem_of_getElem? (i := 0) rfl) (List.mem_of_getElem? (i := 1) rfl) (List.mem_of_getElem? (i := 2) rfl) c) <| og (ex_pickT' rfl b rfl rfl) rfl ?_
  exact Run.pick [51] (z18 F e _ _ _ hH h)
 ·have h := bif_f b h
  refine gn rfl rfl b rfl <| og (ex_pickF' rfl b rfl rfl) rfl ?_
  exact Run.pick [51] (z18 F false _ _ _ hH h)

def law06_GlitchCounts_2 (F : Nat) (c : Bool) (b : List S_api_Glitch) : Option (Bool) :=
 bif c then
  law06_GlitchCounts_3 F ((b.length : Int) == (0 : Int))
 else
  law06_GlitchCounts_3 F false

theorem z16 (F : Nat) : ∀ (d : Bool) (c : List S_api_Glitch) (e : SV) (Fr : Rd) (M : Mem) (r : Bool) (hH : Has Fr M [.vec 57 5 c.length e (c.flatMap z03), tb0, tb1, tb2]), law06_GlitchCounts_2 F d c = some r → Run Tryz.prog ⟨⟨6, [], none⟩, []⟩ 207 (law06_GlitchCounts_post r) [(9, e), (43, (.bool d))] [itemC Tryz.prog 6 [1, 1, 1, 0, 1, 0, 0] 8, codeC Tryz.prog 6 [1, 1, 1, 0, 1, 0, 1], codeC Tryz.prog 6 [1, 1, 1, 1]] M := by
 intro d c e Fr M r hH h
 rw [law06_GlitchCounts_2] at h
 refine mv rfl rfl ?_
 rcases btf (d) with b | b
 ·have h := bif_t b h
  refine gy rfl rfl b (ex_move rfl) rfl <| gy rfl rfl b (ex_len' rfl (hH.slc (i := 0) rfl z02) z4q) rfl <| gy rfl rfl b (ex_eql rfl rfl) rfl <| og (ex_pickT' rfl b rfl rfl) rfl ?_
  exact Run.pick [48] (z17 F ((c.length : Int) == (0 : Int)) _ _ _ (hH.pick [1, 2, 3] rfl rfl) h)
 ·have h := bif_f b h
  refine gn rfl rfl b rfl <| gn rfl rfl b rfl <| gn rfl rfl b rfl <| og (ex_pickF' rfl b rfl rfl) rfl ?_
  exact Run.pick [48] (z17 F false _ _ _ (hH.pick [1, 2, 3] rfl rfl) h)

def law06_GlitchCounts_6 (F : Nat) (d : (List Int) → Int → Int → Int → Int → Int → List S_api_Tile → List S_api_Glitch → Option (Bool)) (v0 : List Int) (v1 v2 f g c : Int) (j : Bool) (e : List S_api_Tile) (b : List S_api_Glitch) : Option (Bool) :=
 bif j then
  some false
 else
  bnd (idx b c) fun m =>
  bnd (idx b c) fun n =>
  d v0 v1 v2 (w64 (f + m.Many)) (w64 (g + n.Energy)) (w64 (c + (1 : Int))) e b

theorem z0c (F : Nat) (a2 : (List Int) → Int → Int → Int → Int → Int → List S_api_Tile → List S_api_Glitch → Option (Bool)) (n : ∀ (v0 : List Int) (v1 v2 w x y : Int) (j : List S_api_Tile) (p : List S_api_Glitch) (u q s : SV) (Fr : Rd) (M : Mem) (r : Bool) (a1 : Slc Fr 1 (FlatR enc3) u v0) (hH : Has Fr M [.vec 59 3 j.length q (j.flatMap z04), .vec 57 5 p.length s (p.flatMap z03), tb0, tb1, tb2]), a2 v0 v1 v2 w x y j p = some r → Run Tryz.prog ⟨⟨6, [], none⟩, []⟩ 207 (law06_GlitchCounts_post r) [(0, u), (1, (.int .i64 v1)), (2, (.int .i64 v2)), (7, q), (9, s), (11, (.int .i64 w)), (12, (.int .i64 x)), (13, (.int .i64 y))] [codeC Tryz.prog 6 [1, 1, 1, 1, 1, 0, 1, 0, 0], loopC Tryz.prog 6 [1, 1, 1, 1, 1, 0, 1, 0, 0], .inBlock 0, codeC Tryz.prog 6 [1, 1, 1, 1, 1, 1]] M) : ∀ (v0 : List Int) (v1 v2 w x y : Int) (a0 : Bool) (j : List S_api_Tile) (p : List S_api_Glitch) (u q s : SV) (Fr : Rd) (M : Mem) (r : Bool) (a1 : Slc Fr 1 (FlatR enc3) u v0) (hH : Has Fr M [.vec 59 3 j.length q (j.flatMap z04), .vec 57 5 p.length s (p.flatMap z03), tb0, tb1, tb2]), law06_GlitchCounts_6 F a2 v0 v1 v2 w x y a0 j p = some r → Run Tryz.prog ⟨⟨6, [], none⟩, []⟩ 207 (law06_GlitchCounts_post r) [(0, u), (1, (.int .i64 v1)), (2, (.int .i64 v2)), (7, q), (9, s), (11, (.int .i64 w)), (12, (.int .i64 x)), (13, (.int .i64 y)), (98, (.bool a0))] [codeC Tryz.prog 6 [1, 1, 1, 1, 1, 0, 1, 0, 0, 1, 0, 0, 0, 1], codeC Tryz.prog 6 [1, 1, 1, 1, 1, 0, 1, 0, 0, 1, 0, 0, 1], .inBlock 1, codeC Tryz.prog 6 [1, 1, 1, 1, 1, 0, 1, 0, 0, 1, 1], loopC Tryz.prog 6 [1, 1, 1, 1, 1, 0, 1, 0, 0], .inBlock 0, codeC Tryz.prog 6 [1, 1, 1, 1, 1, 1]] M := by
 intro v0 v1 v2 w x y a0 j p u q s Fr M r a1 hH h
 rw [law06_GlitchCounts_6] at h
 rcases btf (a0) with b | b
 ·have h := bif_t b h
  refine Run.condT' rfl b ?_
  refine Run.seq (Run.region ?_)
  refine av rfl rfl <| Run.opsEnd ?_
  cases h
  exact Run.ret Tryz.func6 rfl (res_tmp rfl res_nil) rfl
 ·have h := bif_f b h
  refine Run.condF' rfl b ?_
  refine Run.skip (Run.seq (Run.region ?_))
  refine mv rfl rfl <| mv rfl rfl <| mv rfl rfl ?_
  obtain ⟨a3, c, h⟩ := bnd_some h
  obtain ⟨a7, a5, e, c, g⟩ := vec_elem (P := Tryz.prog) (t := 53) (kk := .i64) hH (i := 1) rfl c z07
  refine og (ex_elX rfl rfl c) rfl <| og (ex_fieldAddr rfl z4o) rfl <| og (ex_load1 rfl ((hH.at (enc := z03) (a := a3) (i := 1) rfl e g z02).fld (o := 2) rfl) rdLe_rfl z0u) rfl <| og (ex_add rfl rfl) rfl <| av rfl rfl ?_
  refine Run.opsEnd (Run.region ?_)
  refine mv rfl rfl <| mv rfl rfl <| mv rfl rfl ?_
  obtain ⟨a4, d, h⟩ := bnd_some h
  obtain ⟨a8, a6, f, d, m⟩ := vec_elem (P := Tryz.prog) (t := 53) (kk := .i64) hH (i := 1) rfl d z07
  refine og (ex_elX rfl rfl d) rfl <| og (ex_fieldAddr rfl z4e) rfl <| og (ex_load1 rfl ((hH.at (enc := z03) (a := a4) (i := 1) rfl f m z02).fld (o := 3) rfl) rdLe_rfl z0u) rfl <| og (ex_add rfl rfl) rfl <| av rfl rfl ?_
  refine Run.opsEnd (Run.inBlock (Run.region ?_))
  refine mv rfl rfl <| og (ex_add rfl rfl) rfl <| av rfl rfl ?_
  refine Run.opsEnd (Run.inLoop ?_)
  exact Run.pick [0, 1, 2, 7, 9, 11, 12, 13] (n v0 v1 v2 (w64 (w + a3.Many)) (w64 (x + a4.Energy)) (w64 (y + (1 : Int))) j p u q s _ _ _ a1 hH h)

def law06_GlitchCounts_13 (F : Nat) (b : Int → Int → List S_api_Tile → List S_api_Tile → Option (Bool)) (e f : Int) (c d : List S_api_Tile) : Option (Bool) :=
 b e (w64 (f + (1 : Int))) c d

theorem z13 (F : Nat) (b : Int → Int → List S_api_Tile → List S_api_Tile → Option (Bool)) (c : ∀ (j m : Int) (d e : List S_api_Tile) (f g : SV) (Fr : Rd) (M : Mem) (r : Bool) (hH : Has Fr M [.vec 59 3 d.length f (d.flatMap z04), .vec 59 3 e.length g (e.flatMap z04), tb0, tb1, tb2]), b j m d e = some r → Run Tryz.prog ⟨⟨6, [], none⟩, []⟩ 207 (law06_GlitchCounts_post r) [(7, f), (15, g), (16, (.int .i64 j)), (17, (.int .i64 m))] [codeC Tryz.prog 6 [1, 1, 1, 1, 1, 1, 1, 1, 1, 1, 0, 1, 0, 0], loopC Tryz.prog 6 [1, 1, 1, 1, 1, 1, 1, 1, 1, 1, 0, 1, 0, 0], .inBlock 4, codeC Tryz.prog 6 [1, 1, 1, 1, 1, 1, 1, 1, 1, 1, 1]] M) : ∀ (j m : Int) (d e : List S_api_Tile) (f g : SV) (Fr : Rd) (M : Mem) (r : Bool) (hH : Has Fr M [.vec 59 3 d.length f (d.flatMap z04), .vec 59 3 e.length g (e.flatMap z04), tb0, tb1, tb2]), law06_GlitchCounts_13 F b j m d e = some r → Run Tryz.prog ⟨⟨6, [], none⟩, []⟩ 207 (law06_GlitchCounts_post r) [(7, f), (15, g), (16, (.int .i64 j)), (17, (.int .i64 m))] [itemC Tryz.prog 6 [1, 1, 1, 1, 1, 1, 1, 1, 1, 1, 0, 1, 0, 0, 1, 1] 0, loopC Tryz.prog 6 [1, 1, 1, 1, 1, 1, 1, 1, 1, 1, 0, 1, 0, 0], .inBlock 4, codeC Tryz.prog 6 [1, 1, 1, 1, 1, 1, 1, 1, 1, 1, 1]] M := by
 intro j m d e f g Fr M r hH h
 rw [law06_GlitchCounts_13] at h
 refine mv rfl rfl <| og (ex_add rfl rfl) rfl <| av rfl rfl ?_
 refine Run.opsEnd (Run.inLoop ?_)
 exact Run.pick [7, 15, 16, 17] (c j (w64 (m + (1 : Int))) d e f g _ _ _ hH h)

def law06_GlitchCounts_14 (F : Nat) (b : Bool) : Option (Bool) :=
 some b

theorem z14 (F : Nat) : ∀ (b : Bool) (Fr : Rd) (M : Mem) (r : Bool) (hH : Has Fr M [tb0, tb1, tb2]), law06_GlitchCounts_14 F b = some r → Run Tryz.prog ⟨⟨6, [], none⟩, []⟩ 207 (law06_GlitchCounts_post r) [(206, (.bool b))] [itemC Tryz.prog 6 [1, 1, 1, 1, 1, 1, 1, 1, 1, 1, 1, 0] 7, codeC Tryz.prog 6 [1, 1, 1, 1, 1, 1, 1, 1, 1, 1, 1, 1]] M := by
 intro b Fr M r hH h
 rw [law06_GlitchCounts_14] at h
 refine av rfl rfl <| Run.opsEnd ?_
 cases h
 exact Run.ret Tryz.func6 rfl (res_tmp rfl res_nil) rfl

def law06_GlitchCounts_12 (F : Nat) (b : Int → Int → List S_api_Tile → List S_api_Tile → Option (Bool)) (e g : Int) (c : Bool) (f d : List S_api_Tile) : Option (Bool) :=
 bif c then
  bnd (idx f g) fun j =>
  bnd (idx d e) fun m =>
  bif ((j.Level == m.Level) && ((j.At == m.At) && ((j.D == m.D) && true))) then
   law06_GlitchCounts_13 F b (w64 (e + (1 : Int))) g f d
  else
   law06_GlitchCounts_13 F b e g f d
 else
  bif (e == (d.length : Int)) then
   bnd (works F) fun n =>
   law06_GlitchCounts_14 F n
  else
   law06_GlitchCounts_14 F false

theorem z12 (F : Nat) (d : Int → Int → List S_api_Tile → List S_api_Tile → Option (Bool)) (m : ∀ (x a1 : Int) (w j : List S_api_Tile) (y a0 : SV) (Fr : Rd) (M : Mem) (r : Bool) (hH : Has Fr M [.vec 59 3 w.length y (w.flatMap z04), .vec 59 3 j.length a0 (j.flatMap z04), tb0, tb1, tb2]), d x a1 w j = some r → Run Tryz.prog ⟨⟨6, [], none⟩, []⟩ 207 (law06_GlitchCounts_post r) [(7, y), (15, a0), (16, (.int .i64 x)), (17, (.int .i64 a1))] [codeC Tryz.prog 6 [1, 1, 1, 1, 1, 1, 1, 1, 1, 1, 0, 1, 0, 0], loopC Tryz.prog 6 [1, 1, 1, 1, 1, 1, 1, 1, 1, 1, 0, 1, 0, 0], .inBlock 4, codeC Tryz.prog 6 [1, 1, 1, 1, 1, 1, 1, 1, 1, 1, 1]] M) : ∀ (x a1 : Int) (e : Bool) (w j : List S_api_Tile) (y a0 : SV) (Fr : Rd) (M : Mem) (r : Bool) (hH : Has Fr M [.vec 59 3 w.length y (w.flatMap z04), .vec 59 3 j.length a0 (j.flatMap z04), tb0, tb1, tb2]), law06_GlitchCounts_12 F d x a1 e w j = some r → Run Tryz.prog ⟨⟨6, [], none⟩, []⟩ 207 (law06_GlitchCounts_post r) [(7, y), (15, a0), (16, (.int .i64 x)), (17, (.int .i64 a1)), (186, (.bool e))] [codeC Tryz.prog 6 [1, 1, 1, 1, 1, 1, 1, 1, 1, 1, 0, 1, 0, 0, 0, 1], codeC Tryz.prog 6 [1, 1, 1, 1, 1, 1, 1, 1, 1, 1, 0, 1, 0, 0, 1], loopC Tryz.prog 6 [1, 1, 1, 1, 1, 1, 1, 1, 1, 1, 0, 1, 0, 0], .inBlock 4, codeC Tryz.prog 6 [1, 1, 1, 1, 1, 1, 1, 1, 1, 1, 1]] M := by
 intro x a1 e w j y a0 Fr M r hH h
 rw [law06_GlitchCounts_12] at h
 rcases btf (e) with b | b
 ·have h := bif_t b h
  refine Run.condT' rfl b ?_
  refine Run.skip (Run.seq (Run.block (Run.seq ?_)))
  refine Run.drawG z0r <| df rfl (ex_move rfl) rfl <| df rfl (ex_move rfl) rfl ?_
  obtain ⟨a2, f, h⟩ := bnd_some h
  obtain ⟨a7, a5, n, f, q⟩ := vec_elem (P := Tryz.prog) (t := 50) (kk := .i64) hH (i := 0) rfl f z4d
  refine df rfl (ex_elX rfl rfl f) rfl <| df rfl (ex_loadA rfl (hH.at (enc := z04) (a := a2) (i := 0) rfl n q z08) rdLe_rfl z3h rfl rfl rfl) rfl <| df rfl (ex_move rfl) rfl <| df rfl (ex_move rfl) rfl ?_
  obtain ⟨a3, g, h⟩ := bnd_some h
  obtain ⟨a8, a6, p, g, s⟩ := vec_elem (P := Tryz.prog) (t := 50) (kk := .i64) hH (i := 1) rfl g z4d
  refine df rfl (ex_elX rfl rfl g) rfl <| df rfl (ex_loadA rfl (hH.at (enc := z04) (a := a3) (i := 1) rfl p s z08) rdLe_rfl z3h rfl rfl rfl) rfl <| df rfl (ex_eqlA rfl rfl z6s (eqA_st z6t (eqFs_cons (by decide) (part_one z0u rfl) (part_one z0u rfl) (eqA_int z5x) (eqFs_cons (by decide) (part_one z0u rfl) (part_one z0u rfl) (eqA_int z5x) (eqFs_cons (by decide) (part_one z0u rfl) (part_one z0u rfl) (eqA_int z5x) eqFs_nil))))) rfl <| DrawG.sync <| DrawG.nil ?_
  rcases btf (((a2.Level == a3.Level) && ((a2.At == a3.At) && ((a2.D == a3.D) && true)))) with c | c
  ·have h := bif_t c h
   refine Run.condT' rfl c <| Run.region <| mv rfl rfl <| og (ex_add rfl rfl) rfl <| av rfl rfl ?_
   refine Run.opsEnd (Run.inBlock (Run.region ?_))
   exact Run.pick [7, 15, 16, 17] (z13 F d m (w64 (x + (1 : Int))) a1 w j y a0 _ _ _ hH h)
  ·have h := bif_f c h
   refine Run.condF' rfl c ?_
   refine Run.skip (Run.inBlock (Run.region ?_))
   exact Run.pick [7, 15, 16, 17] (z13 F d m x a1 w j y a0 _ _ _ hH h)
 ·have h := bif_f b h
  refine Run.condF' rfl b ?_
  refine Run.exit rfl (Run.seq (Run.region ?_))
  refine mv rfl rfl <| mv rfl rfl <| og (ex_len' rfl (hH.slc (i := 1) rfl z08) z2n) rfl <| og (ex_eql rfl rfl) rfl <| mv rfl rfl ?_
  rcases btf ((x == (j.length : Int))) with hc86 | hc86
  ·have h := bif_t hc86 h
   obtain ⟨a4, u, h⟩ := bnd_some h
   refine Run.callP (wantS_yes' rfl rfl hc86) (ex_call rfl z6h z60) rfl (z4s F a4 _ hH (List.mem_of_getElem? (i := 2) rfl) (List.mem_of_getElem? (i := 3) rfl) (List.mem_of_getElem? (i := 4) rfl) u) <| og (ex_pickT' rfl hc86 rfl rfl) rfl ?_
   exact Run.pick [206] (z14 F a4 _ _ _ (hH.pick [2, 3, 4] rfl rfl) h)
  ·have h := bif_f hc86 h
   refine gn rfl rfl hc86 rfl <| og (ex_pickF' rfl hc86 rfl rfl) rfl ?_
   exact Run.pick [206] (z14 F false _ _ _ (hH.pick [2, 3, 4] rfl rfl) h)

def law06_GlitchCounts_11 (F : Nat) : Nat → Int → Int → List S_api_Tile → List S_api_Tile → Option (Bool)
 | 0, _, _, _, _ => none
 | N + 1, d, e, b, c =>
  bif (decide (e < (b.length : Int))) then
   law06_GlitchCounts_12 F (law06_GlitchCounts_11 F N) d e (decide (d < (c.length : Int))) b c
  else
   law06_GlitchCounts_12 F (law06_GlitchCounts_11 F N) d e false b c

theorem z2j (F : Nat) : ∀ (N : Nat), ∀ (d e : Int) (b c : List S_api_Tile) (f g : SV) (Fr : Rd) (M : Mem) (r : Bool) (hH : Has Fr M [.vec 59 3 b.length f (b.flatMap z04), .vec 59 3 c.length g (c.flatMap z04), tb0, tb1, tb2]), law06_GlitchCounts_11 F N d e b c = some r → Run Tryz.prog ⟨⟨6, [], none⟩, []⟩ 207 (law06_GlitchCounts_post r) [(7, f), (15, g), (16, (.int .i64 d)), (17, (.int .i64 e))] [codeC Tryz.prog 6 [1, 1, 1, 1, 1, 1, 1, 1, 1, 1, 0, 1, 0, 0], loopC Tryz.prog 6 [1, 1, 1, 1, 1, 1, 1, 1, 1, 1, 0, 1, 0, 0], .inBlock 4, codeC Tryz.prog 6 [1, 1, 1, 1, 1, 1, 1, 1, 1, 1, 1]] M := by
 intro N
 induction N with
 | zero =>
  intro d e b c f g Fr M r hH h
  simp [law06_GlitchCounts_11] at h
 | succ N ih =>
  intro d e b c f g Fr M r hH h
  rw [law06_GlitchCounts_11] at h
  refine Run.seq (Run.seq (Run.region ?_))
  refine mv rfl rfl <| mv rfl rfl <| og (ex_len' rfl (hH.slc (i := 0) rfl z08) z2n) rfl <| og (ex_lss rfl rfl) rfl <| mv rfl rfl ?_
  rcases btf ((decide (e < (b.length : Int)))) with hc81 | hc81
  ·have h := bif_t hc81 h
   refine gy rfl rfl hc81 (ex_move rfl) rfl <| gy rfl rfl hc81 (ex_move rfl) rfl <| gy rfl rfl hc81 (ex_len' rfl (hH.slc (i := 1) rfl z08) z2n) rfl <| gy rfl rfl hc81 (ex_lss rfl rfl) rfl <| og (ex_pickT' rfl hc81 rfl rfl) rfl <| Run.opsEnd ?_
   exact Run.pick [7, 15, 16, 17, 186] (z12 F (law06_GlitchCounts_11 F N) ih d e (decide (d < (c.length : Int))) b c f g _ _ _ hH h)
  ·have h := bif_f hc81 h
   refine gn rfl rfl hc81 rfl <| gn rfl rfl hc81 rfl <| gn rfl rfl hc81 rfl <| gn rfl rfl hc81 rfl <| og (ex_pickF' rfl hc81 rfl rfl) rfl <| Run.opsEnd ?_
   exact Run.pick [7, 15, 16, 17, 186] (z12 F (law06_GlitchCounts_11 F N) ih d e false b c f g _ _ _ hH h)

def law06_GlitchCounts_10 (F : Nat) (b : Bool) (c d : List S_api_Tile) : Option (Bool) :=
 bif b then
  some false
 else
  law06_GlitchCounts_11 F F (0 : Int) (0 : Int) c d

theorem z11 (F : Nat) : ∀ (c : Bool) (d e : List S_api_Tile) (f g : SV) (Fr : Rd) (M : Mem) (r : Bool) (hH : Has Fr M [.vec 59 3 d.length f (d.flatMap z04), .vec 59 3 e.length g (e.flatMap z04), tb0, tb1, tb2]), law06_GlitchCounts_10 F c d e = some r → Run Tryz.prog ⟨⟨6, [], none⟩, []⟩ 207 (law06_GlitchCounts_post r) [(7, f), (15, g), (176, (.bool c))] [codeC Tryz.prog 6 [1, 1, 1, 1, 1, 1, 1, 1, 0, 1], codeC Tryz.prog 6 [1, 1, 1, 1, 1, 1, 1, 1, 1]] M := by
 intro c d e f g Fr M r hH h
 rw [law06_GlitchCounts_10] at h
 rcases btf (c) with b | b
 ·have h := bif_t b h
  refine Run.condT' rfl b ?_
  refine Run.seq (Run.region ?_)
  refine av rfl rfl <| Run.opsEnd ?_
  cases h
  exact Run.ret Tryz.func6 rfl (res_tmp rfl res_nil) rfl
 ·have h := bif_f b h
  refine Run.condF' rfl b ?_
  refine Run.skip (Run.seq (Run.region ?_))
  refine av rfl rfl ?_
  refine Run.opsEnd (Run.seq (Run.seq (Run.region ?_)))
  refine av rfl rfl ?_
  refine Run.opsEnd (Run.block (Run.loop ?_))
  exact Run.pick [7, 15, 16, 17] (z2j F F (0 : Int) (0 : Int) d e f g _ _ _ hH h)

def law06_GlitchCounts_9 (F : Nat) (b : Bool) (c d : List S_api_Tile) : Option (Bool) :=
 bif b then
  law06_GlitchCounts_10 F true c d
 else
  law06_GlitchCounts_10 F (decide ((c.length : Int) < (d.length : Int))) c d

theorem z1a (F : Nat) : ∀ (c : Bool) (d e : List S_api_Tile) (f g : SV) (Fr : Rd) (M : Mem) (r : Bool) (hH : Has Fr M [.vec 59 3 d.length f (d.flatMap z04), .vec 59 3 e.length g (e.flatMap z04), tb0, tb1, tb2]), law06_GlitchCounts_9 F c d e = some r → Run Tryz.prog ⟨⟨6, [], none⟩, []⟩ 207 (law06_GlitchCounts_post r) [(7, f), (15, g), (169, (.bool c))] [itemC Tryz.prog 6 [1, 1, 1, 1, 1, 1, 1, 1, 0, 0] 12, codeC Tryz.prog 6 [1, 1, 1, 1, 1, 1, 1, 1, 0, 1], codeC Tryz.prog 6 [1, 1, 1, 1, 1, 1, 1, 1, 1]] M := by
 intro c d e f g Fr M r hH h
 rw [law06_GlitchCounts_9] at h
 refine mv rfl rfl ?_
 rcases btf (c) with b | b
 ·have h := bif_t b h
  refine gn rfl rfl b rfl <| gn rfl rfl b rfl <| gn rfl rfl b rfl <| gn rfl rfl b rfl <| gn rfl rfl b rfl <| og (ex_pickT' rfl b rfl rfl) rfl <| Run.opsEnd ?_
  exact Run.pick [7, 15, 176] (z11 F true d e f g _ _ _ hH h)
 ·have h := bif_f b h
  refine gy rfl rfl b (ex_move rfl) rfl <| gy rfl rfl b (ex_len' rfl (hH.slc (i := 1) rfl z08) z2n) rfl <| gy rfl rfl b (ex_move rfl) rfl <| gy rfl rfl b (ex_len' rfl (hH.slc (i := 0) rfl z08) z2n) rfl <| gy rfl rfl b (ex_gtr rfl rfl) rfl <| og (ex_pickF' rfl b rfl rfl) rfl <| Run.opsEnd ?_
  exact Run.pick [7, 15, 176] (z11 F (decide ((d.length : Int) < (e.length : Int))) d e f g _ _ _ hH h)

def law06_GlitchCounts_8 (F : Nat) (v8 : Int) (b : Bool) (c d : List S_api_Tile) : Option (Bool) :=
 bif b then
  law06_GlitchCounts_9 F true c d
 else
  law06_GlitchCounts_9 F (!(v8 == (0 : Int))) c d

theorem z19 (F : Nat) : ∀ (v8 : Int) (c : Bool) (d e : List S_api_Tile) (f g : SV) (Fr : Rd) (M : Mem) (r : Bool) (hH : Has Fr M [.vec 59 3 d.length f (d.flatMap z04), .vec 59 3 e.length g (e.flatMap z04), tb0, tb1, tb2]), law06_GlitchCounts_8 F v8 c d e = some r → Run Tryz.prog ⟨⟨6, [], none⟩, []⟩ 207 (law06_GlitchCounts_post r) [(7, f), (8, (.int .i64 v8)), (15, g), (165, (.bool c))] [itemC Tryz.prog 6 [1, 1, 1, 1, 1, 1, 1, 1, 0, 0] 8, codeC Tryz.prog 6 [1, 1, 1, 1, 1, 1, 1, 1, 0, 1], codeC Tryz.prog 6 [1, 1, 1, 1, 1, 1, 1, 1, 1]] M := by
 intro v8 c d e f g Fr M r hH h
 rw [law06_GlitchCounts_8] at h
 refine mv rfl rfl ?_
 rcases btf (c) with b | b
 ·have h := bif_t b h
  refine gn rfl rfl b rfl <| gn rfl rfl b rfl <| og (ex_pickT' rfl b rfl rfl) rfl ?_
  exact Run.pick [7, 15, 169] (z1a F true d e f g _ _ _ hH h)
 ·have h := bif_f b h
  refine gy rfl rfl b (ex_move rfl) rfl <| gy rfl rfl b (ex_neq rfl rfl) rfl <| og (ex_pickF' rfl b rfl rfl) rfl ?_
  exact Run.pick [7, 15, 169] (z1a F (!(v8 == (0 : Int))) d e f g _ _ _ hH h)

def law06_GlitchCounts_7 (F : Nat) : Nat → List Int → Int → Int → Int → Int → Int → List S_api_Tile → Option (Bool)
 | 0, _, _, _, _, _, _, _ => none
 | N + 1, v0, v1, v2, e, f, c, b =>
  bif (decide (c < (b.length : Int))) then
   bnd (idx b c) fun n =>
   bnd (ref00_In F n.Level (1 : Int) (10 : Int)) fun j =>
   bif (!j) then
    some false
   else
    bnd (idx b c) fun p =>
    bnd (idx b c) fun q =>
    bnd (idx b c) fun s =>
    bnd (shn s.Level) fun g =>
    (law06_GlitchCounts_7 F N) v0 v1 v2 e (w64 (f - (w64 ((w64 (p.D * q.D)) * (Int.fdiv (v0.length : Int) (2 ^ (min g (IntKind.bits .i64)))))))) (w64 (c + (1 : Int))) b
  else
   bnd (ref00_Mod F v2 (1099511627776 : Int)) fun m =>
   bnd (glitch_Loud F v0 (min (1152921504606846976 : Int) (w64 (v1 + m)))) fun d =>
   bif (!(e == (b.length : Int))) then
    law06_GlitchCounts_8 F d.2 true b d.1
   else
    law06_GlitchCounts_8 F d.2 (!(f == (0 : Int))) b d.1

theorem z2m (F : Nat) : ∀ (N : Nat), ∀ (v0 : List Int) (v1 v2 a8 a9 b0 : Int) (j : List S_api_Tile) (a7 a5 : SV) (Fr : Rd) (M : Mem) (r : Bool) (b1 : Slc Fr 1 (FlatR enc3) a7 v0) (hH : Has Fr M [.vec 59 3 j.length a5 (j.flatMap z04), tb0, tb1, tb2]), law06_GlitchCounts_7 F N v0 v1 v2 a8 a9 b0 j = some r → Run Tryz.prog ⟨⟨6, [], none⟩, []⟩ 207 (law06_GlitchCounts_post r) [(0, a7), (1, (.int .i64 v1)), (2, (.int .i64 v2)), (7, a5), (11, (.int .i64 a8)), (12, (.int .i64 a9)), (14, (.int .i64 b0))] [codeC Tryz.prog 6 [1, 1, 1, 1, 1, 1, 0, 1, 0, 0], loopC Tryz.prog 6 [1, 1, 1, 1, 1, 1, 0, 1, 0, 0], .inBlock 2, codeC Tryz.prog 6 [1, 1, 1, 1, 1, 1, 1]] M := by
 intro N
 induction N with
 | zero =>
  intro v0 v1 v2 a8 a9 b0 j a7 a5 Fr M r b1 hH h
  simp [law06_GlitchCounts_7] at h
 | succ N ih =>
  intro v0 v1 v2 a8 a9 b0 j a7 a5 Fr M r b1 hH h
  rw [law06_GlitchCounts_7] at h
  refine Run.seq (Run.seq (Run.region ?_))
  refine mv rfl rfl <| mv rfl rfl <| og (ex_len' rfl (hH.slc (i := 0) rfl z08) z2n) rfl <| og (ex_lss rfl rfl) rfl <| Run.opsEnd ?_
  rcases btf ((decide (b0 < (j.length : Int)))) with hc58 | hc58
  ·have h := bif_t hc58 h
   refine Run.condT' rfl hc58 ?_
   refine Run.skip (Run.seq (Run.block (Run.seq (Run.seq (Run.region ?_)))))
   refine mv rfl rfl <| mv rfl rfl ?_
   obtain ⟨b2, e, h⟩ := bnd_some h
   obtain ⟨c4, c0, p, e, w⟩ := vec_elem (P := Tryz.prog) (t := 50) (kk := .i64) hH (i := 0) rfl e z4d
   refine og (ex_elX rfl rfl e) rfl <| og (ex_fieldAddr rfl z2z) rfl <| og (ex_load1 rfl ((hH.at (enc := z04) (a := b2) (i := 0) rfl p w z08).fld (o := 0) rfl) rdLe_rfl z0u) rfl ?_
   obtain ⟨b7, a2, h⟩ := bnd_some h
   refine Run.callP wantS_none (ex_call rfl z6m z65) rfl (z49 F b2.Level (1 : Int) (10 : Int) _ _ a2) <| og (ex_not rfl) rfl <| Run.opsEnd ?_
   rcases btf ((!b7)) with b | b
   ·have h := bif_t b h
    refine Run.condT' rfl b ?_
    refine Run.seq (Run.region ?_)
    refine av rfl rfl <| Run.opsEnd ?_
    cases h
    exact Run.ret Tryz.func6 rfl (res_tmp rfl res_nil) rfl
   ·have h := bif_f b h
    refine Run.condF' rfl b <| Run.skip <| Run.drawG z1d <| df rfl (ex_move rfl) rfl <| df rfl (ex_move rfl) rfl <| df rfl (ex_move rfl) rfl ?_
    obtain ⟨b3, f, h⟩ := bnd_some h
    obtain ⟨c5, c1, q, f, x⟩ := vec_elem (P := Tryz.prog) (t := 50) (kk := .i64) hH (i := 0) rfl f z4d
    refine df rfl (ex_elX rfl rfl f) rfl <| df rfl (ex_fieldAddr rfl z4g) rfl <| df rfl (ex_load1 rfl ((hH.at (enc := z04) (a := b3) (i := 0) rfl q x z08).fld (o := 2) rfl) rdLe_rfl z0u) rfl <| df rfl (ex_move rfl) rfl <| df rfl (ex_move rfl) rfl ?_
    obtain ⟨b4, g, h⟩ := bnd_some h
    obtain ⟨c6, c2, s, g, y⟩ := vec_elem (P := Tryz.prog) (t := 50) (kk := .i64) hH (i := 0) rfl g z4d
    refine df rfl (ex_elX rfl rfl g) rfl <| df rfl (ex_fieldAddr rfl z4g) rfl <| df rfl (ex_load1 rfl ((hH.at (enc := z04) (a := b4) (i := 0) rfl s y z08).fld (o := 2) rfl) rdLe_rfl z0u) rfl <| df rfl (ex_mul rfl rfl) rfl <| df rfl (ex_move rfl) rfl <| df rfl (ex_len' rfl b1 z3w) rfl <| df rfl (ex_move rfl) rfl <| df rfl (ex_move rfl) rfl ?_
    obtain ⟨b9, m, h⟩ := bnd_some h
    obtain ⟨c7, c3, u, m, a0⟩ := vec_elem (P := Tryz.prog) (t := 50) (kk := .i64) hH (i := 0) rfl m z4d
    refine df rfl (ex_elX rfl rfl m) rfl <| df rfl (ex_fieldAddr rfl z2z) rfl <| df rfl (ex_load1 rfl ((hH.at (enc := z04) (a := b9) (i := 0) rfl u a0 z08).fld (o := 0) rfl) rdLe_rfl z0u) rfl ?_
    obtain ⟨b6, a1, h⟩ := bnd_some h
    refine df rfl (ex_shr' rfl rfl a1) rfl <| df rfl (ex_mul rfl rfl) rfl <| df rfl (ex_sub rfl rfl) rfl <| DrawG.val rfl wantS_none (ex_assign rfl) rfl st_nil <| DrawG.sync <| DrawG.nil ?_
    refine Run.inBlock (Run.region ?_)
    refine mv rfl rfl <| og (ex_add rfl rfl) rfl <| av rfl rfl ?_
    refine Run.opsEnd (Run.inLoop ?_)
    exact Run.pick [0, 1, 2, 7, 11, 12, 14] (ih v0 v1 v2 a8 (w64 (a9 - (w64 ((w64 (b3.D * b4.D)) * (Int.fdiv (v0.length : Int) (2 ^ (min b6 (IntKind.bits .i64)))))))) (w64 (b0 + (1 : Int))) j a7 a5 _ _ _ b1 hH h)
  ·have h := bif_f hc58 h
   refine Run.condF' rfl hc58 ?_
   refine Run.exit rfl (Run.seq (Run.region ?_))
   refine mv rfl rfl <| mv rfl rfl <| mv rfl rfl ?_
   obtain ⟨b8, a3, h⟩ := bnd_some h
   refine Run.callP wantS_none (ex_call rfl z7x z7w) rfl (z4k F v2 (1099511627776 : Int) _ _ a3) <| og (ex_add rfl rfl) rfl <| og (ex_min rfl rfl) rfl ?_
   obtain ⟨a6, a4, h⟩ := bnd_some h
   refine Run.callX wantS_none (ex_call rfl z6n z67) rfl (z38 F v0 (min (1152921504606846976 : Int) (w64 (v1 + b8))) a7 _ _ (hH.slcF b1) a4) ?_
   rintro _ b5 ⟨c, rfl, n⟩
   have d : Has Fr b5 [.vec 59 3 a6.1.length c (a6.1.flatMap z04), .vec 59 3 j.length a5 (j.flatMap z04), tb0, tb1, tb2] := n.1 _ _ hH
   refine mv rfl rfl <| og (ex_extract rfl rfl) rfl <| og (ex_extract rfl rfl) rfl <| av rfl rfl <| av rfl rfl ?_
   refine Run.opsEnd (Run.seq (Run.seq (Run.region ?_)))
   refine mv rfl rfl <| mv rfl rfl <| og (ex_len' rfl (d.slc (i := 1) rfl z08) z2n) rfl <| og (ex_neq rfl rfl) rfl <| mv rfl rfl ?_
   rcases btf ((!(a8 == (j.length : Int)))) with hc77 | hc77
   ·have h := bif_t hc77 h
    refine gn rfl rfl hc77 rfl <| gn rfl rfl hc77 rfl <| og (ex_pickT' rfl hc77 rfl rfl) rfl ?_
    exact Run.pick [7, 8, 15, 165] (z19 F a6.2 true j a6.1 a5 c _ _ _ (d.pick [1, 0, 2, 3, 4] rfl rfl) h)
   ·have h := bif_f hc77 h
    refine gy rfl rfl hc77 (ex_move rfl) rfl <| gy rfl rfl hc77 (ex_neq rfl rfl) rfl <| og (ex_pickF' rfl hc77 rfl rfl) rfl ?_
    exact Run.pick [7, 8, 15, 165] (z19 F a6.2 (!(a9 == (0 : Int))) j a6.1 a5 c _ _ _ (d.pick [1, 0, 2, 3, 4] rfl rfl) h)

def law06_GlitchCounts_5 (F : Nat) : Nat → List Int → Int → Int → Int → Int → Int → List S_api_Tile → List S_api_Glitch → Option (Bool)
 | 0, _, _, _, _, _, _, _, _ => none
 | N + 1, v0, v1, v2, e, f, b, d, c =>
  bif (decide (b < (c.length : Int))) then
   bnd (idx c b) fun j =>
   bnd (ref00_In F j.Peak (0 : Int) (w64 ((d.length : Int) - (1 : Int)))) fun g =>
   bif (!g) then
    law06_GlitchCounts_6 F (law06_GlitchCounts_5 F N) v0 v1 v2 e f b true d c
   else
    bnd (idx c b) fun m =>
    bnd (idx c b) fun n =>
    bif (decide (n.To ≤ m.From)) then
     law06_GlitchCounts_6 F (law06_GlitchCounts_5 F N) v0 v1 v2 e f b true d c
    else
     bif (decide ((0 : Int) < b)) then
      bnd (idx c (w64 (b - (1 : Int)))) fun p =>
      bnd (idx c b) fun q =>
      law06_GlitchCounts_6 F (law06_GlitchCounts_5 F N) v0 v1 v2 e f b (decide (q.From < p.From)) d c
     else
      law06_GlitchCounts_6 F (law06_GlitchCounts_5 F N) v0 v1 v2 e f b false d c
  else
   law06_GlitchCounts_7 F F v0 v1 v2 e f (0 : Int) d

theorem z2l (F : Nat) : ∀ (N : Nat), ∀ (v0 : List Int) (v1 v2 a7 a8 a4 : Int) (j : List S_api_Tile) (a3 : List S_api_Glitch) (a6 a5 a9 : SV) (Fr : Rd) (M : Mem) (r : Bool) (b0 : Slc Fr 1 (FlatR enc3) a6 v0) (hH : Has Fr M [.vec 59 3 j.length a5 (j.flatMap z04), .vec 57 5 a3.length a9 (a3.flatMap z03), tb0, tb1, tb2]), law06_GlitchCounts_5 F N v0 v1 v2 a7 a8 a4 j a3 = some r → Run Tryz.prog ⟨⟨6, [], none⟩, []⟩ 207 (law06_GlitchCounts_post r) [(0, a6), (1, (.int .i64 v1)), (2, (.int .i64 v2)), (7, a5), (9, a9), (11, (.int .i64 a7)), (12, (.int .i64 a8)), (13, (.int .i64 a4))] [codeC Tryz.prog 6 [1, 1, 1, 1, 1, 0, 1, 0, 0], loopC Tryz.prog 6 [1, 1, 1, 1, 1, 0, 1, 0, 0], .inBlock 0, codeC Tryz.prog 6 [1, 1, 1, 1, 1, 1]] M := by
 intro N
 induction N with
 | zero =>
  intro v0 v1 v2 a7 a8 a4 j a3 a6 a5 a9 Fr M r b0 hH h
  simp [law06_GlitchCounts_5] at h
 | succ N ih =>
  intro v0 v1 v2 a7 a8 a4 j a3 a6 a5 a9 Fr M r b0 hH h
  rw [law06_GlitchCounts_5] at h
  refine Run.seq (Run.seq (Run.region ?_))
  refine mv rfl rfl <| mv rfl rfl <| og (ex_len' rfl (hH.slc (i := 1) rfl z02) z4q) rfl <| og (ex_lss rfl rfl) rfl <| Run.opsEnd ?_
  rcases btf ((decide (a4 < (a3.length : Int)))) with hc42 | hc42
  ·have h := bif_t hc42 h
   refine Run.condT' rfl hc42 ?_
   refine Run.skip (Run.seq (Run.block (Run.seq (Run.seq ?_))))
   refine Run.drawG z1c <| df rfl (ex_move rfl) rfl <| df rfl (ex_move rfl) rfl ?_
   obtain ⟨b1, d, h⟩ := bnd_some h
   obtain ⟨c2, b7, n, d, w⟩ := vec_elem (P := Tryz.prog) (t := 53) (kk := .i64) hH (i := 1) rfl d z07
   refine df rfl (ex_elX rfl rfl d) rfl <| df rfl (ex_fieldAddr rfl z4f) rfl <| df rfl (ex_load1 rfl ((hH.at (enc := z03) (a := b1) (i := 1) rfl n w z02).fld (o := 4) rfl) rdLe_rfl z0u) rfl <| df rfl (ex_move rfl) rfl <| df rfl (ex_len' rfl (hH.slc (i := 0) rfl z08) z2n) rfl <| df rfl (ex_sub rfl rfl) rfl ?_
   obtain ⟨b6, a2, h⟩ := bnd_some h
   refine DrawG.callP rfl wantS_none (ex_call rfl z6m z65) rfl (z49 F b1.Peak (0 : Int) (w64 ((j.length : Int) - (1 : Int))) _ _ a2) st_nil <| df rfl (ex_not rfl) rfl <| df rfl (ex_move rfl) rfl ?_
   rcases btf ((!b6)) with b | b
   ·have h := bif_t b h
    refine dn rfl rfl rfl b rfl <| dn rfl rfl rfl b rfl <| dn rfl rfl rfl b rfl <| dn rfl rfl rfl b rfl <| dn rfl rfl rfl b rfl <| dn rfl rfl rfl b rfl <| dn rfl rfl rfl b rfl <| dn rfl rfl rfl b rfl <| dn rfl rfl rfl b rfl <| dn rfl rfl rfl b rfl <| dn rfl rfl rfl b rfl <| df rfl (ex_pickT' rfl b rfl rfl) rfl <| df rfl (ex_move rfl) rfl <| dn rfl rfl rfl rfl rfl <| dn rfl rfl rfl rfl rfl <| dn rfl rfl rfl rfl rfl <| DrawG.fl rfl (ev_no (wantS_skip rfl rfl)) rfl <| DrawG.fl rfl (ev_no (wantS_skip rfl rfl)) rfl <| DrawG.fl rfl (ev_no (wantS_skip rfl rfl)) rfl <| DrawG.fl rfl (ev_no (wantS_skip rfl rfl)) rfl <| DrawG.fl rfl (ev_no (wantS_skip rfl rfl)) rfl <| DrawG.fl rfl (ev_no (wantS_skip rfl rfl)) rfl <| DrawG.fl rfl (ev_no (wantS_skip rfl rfl)) rfl <| DrawG.fl rfl (ev_no (wantS_skip rfl rfl)) rfl <| DrawG.fl rfl (ev_no (wantS_skip rfl rfl)) rfl <| DrawG.fl rfl (ev_no (wantS_skip rfl rfl)) rfl <| DrawG.fl rfl (ev_no (wantS_skip rfl rfl)) rfl <| DrawG.fl rfl (ev_no (wantS_skip rfl rfl)) rfl <| dn rfl rfl rfl rfl rfl ?_
    refine df rfl (ex_pickT' rfl rfl rfl rfl) rfl <| DrawG.sync <| DrawG.nil ?_
    exact Run.pick [0, 1, 2, 7, 9, 11, 12, 13, 98] (z0c F (law06_GlitchCounts_5 F N) ih v0 v1 v2 a7 a8 a4 true j a3 a6 a5 a9 _ _ _ b0 hH h)
   ·have h := bif_f b h
    refine dy rfl rfl rfl b (ex_move rfl) rfl <| dy rfl rfl rfl b (ex_move rfl) rfl ?_
    obtain ⟨b2, e, h⟩ := bnd_some h
    obtain ⟨c3, b8, p, e, x⟩ := vec_elem (P := Tryz.prog) (t := 53) (kk := .i64) hH (i := 1) rfl e z07
    refine dy rfl rfl rfl b (ex_elX rfl rfl e) rfl <| dy rfl rfl rfl b (ex_fieldAddr rfl z3g) rfl <| dy rfl rfl rfl b (ex_load1 rfl ((hH.at (enc := z03) (a := b2) (i := 1) rfl p x z02).fld (o := 0) rfl) rdLe_rfl z0u) rfl <| dy rfl rfl rfl b (ex_move rfl) rfl <| dy rfl rfl rfl b (ex_move rfl) rfl ?_
    obtain ⟨b3, f, h⟩ := bnd_some h
    obtain ⟨c4, b9, q, f, y⟩ := vec_elem (P := Tryz.prog) (t := 53) (kk := .i64) hH (i := 1) rfl f z07
    refine dy rfl rfl rfl b (ex_elX rfl rfl f) rfl <| dy rfl rfl rfl b (ex_fieldAddr rfl z4n) rfl <| dy rfl rfl rfl b (ex_load1 rfl ((hH.at (enc := z03) (a := b3) (i := 1) rfl q y z02).fld (o := 1) rfl) rdLe_rfl z0u) rfl <| dy rfl rfl rfl b (ex_geq rfl rfl) rfl <| df rfl (ex_pickF' rfl b rfl rfl) rfl <| df rfl (ex_move rfl) rfl ?_
    rcases btf ((decide (b3.To ≤ b2.From))) with c | c
    ·have h := bif_t c h
     refine dn rfl rfl rfl c rfl <| dn rfl rfl rfl c rfl <| dn rfl rfl rfl c rfl <| DrawG.fl rfl (ev_no (wantS_skip rfl rfl)) rfl <| DrawG.fl rfl (ev_no (wantS_skip rfl rfl)) rfl <| DrawG.fl rfl (ev_no (wantS_skip rfl rfl)) rfl <| DrawG.fl rfl (ev_no (wantS_skip rfl rfl)) rfl <| DrawG.fl rfl (ev_no (wantS_skip rfl rfl)) rfl <| DrawG.fl rfl (ev_no (wantS_skip rfl rfl)) rfl <| DrawG.fl rfl (ev_no (wantS_skip rfl rfl)) rfl <| DrawG.fl rfl (ev_no (wantS_skip rfl rfl)) rfl <| DrawG.fl rfl (ev_no (wantS_skip rfl rfl)) rfl <| DrawG.fl rfl (ev_no (wantS_skip rfl rfl)) rfl <| DrawG.fl rfl (ev_no (wantS_skip rfl rfl)) rfl <| DrawG.fl rfl (ev_no (wantS_skip rfl rfl)) rfl <| dn rfl rfl rfl c rfl <| df rfl (ex_pickT' rfl c rfl rfl) rfl <| DrawG.sync <| DrawG.nil ?_
     exact Run.pick [0, 1, 2, 7, 9, 11, 12, 13, 98] (z0c F (law06_GlitchCounts_5 F N) ih v0 v1 v2 a7 a8 a4 true j a3 a6 a5 a9 _ _ _ b0 hH h)
    ·have h := bif_f c h
     refine dy rfl rfl rfl c (ex_move rfl) rfl <| dy rfl rfl rfl c (ex_gtr rfl rfl) rfl <| dy rfl rfl rfl c (ex_move rfl) rfl ?_
     rcases btf ((decide ((0 : Int) < a4))) with hc55 | hc55
     ·have h := bif_t hc55 h
      refine dy rfl rfl rfl hc55 (ex_move rfl) rfl <| dy rfl rfl rfl hc55 (ex_move rfl) rfl <| dy rfl rfl rfl hc55 (ex_sub rfl rfl) rfl ?_
      obtain ⟨b4, g, h⟩ := bnd_some h
      obtain ⟨c5, c0, s, g, a0⟩ := vec_elem (P := Tryz.prog) (t := 53) (kk := .i64) hH (i := 1) rfl g z07
      refine dy rfl rfl rfl hc55 (ex_elX rfl rfl g) rfl <| dy rfl rfl rfl hc55 (ex_fieldAddr rfl z3g) rfl <| dy rfl rfl rfl hc55 (ex_load1 rfl ((hH.at (enc := z03) (a := b4) (i := 1) rfl s a0 z02).fld (o := 0) rfl) rdLe_rfl z0u) rfl <| dy rfl rfl rfl hc55 (ex_move rfl) rfl <| dy rfl rfl rfl hc55 (ex_move rfl) rfl ?_
      obtain ⟨b5, m, h⟩ := bnd_some h
      obtain ⟨c6, c1, u, m, a1⟩ := vec_elem (P := Tryz.prog) (t := 53) (kk := .i64) hH (i := 1) rfl m z07
      refine dy rfl rfl rfl hc55 (ex_elX rfl rfl m) rfl <| dy rfl rfl rfl hc55 (ex_fieldAddr rfl z3g) rfl <| dy rfl rfl rfl hc55 (ex_load1 rfl ((hH.at (enc := z03) (a := b5) (i := 1) rfl u a1 z02).fld (o := 0) rfl) rdLe_rfl z0u) rfl <| dy rfl rfl rfl hc55 (ex_gtr rfl rfl) rfl <| dy rfl rfl rfl c (ex_pickT' rfl hc55 rfl rfl) rfl <| df rfl (ex_pickF' rfl c rfl rfl) rfl <| DrawG.sync <| DrawG.nil ?_
      exact Run.pick [0, 1, 2, 7, 9, 11, 12, 13, 98] (z0c F (law06_GlitchCounts_5 F N) ih v0 v1 v2 a7 a8 a4 (decide (b5.From < b4.From)) j a3 a6 a5 a9 _ _ _ b0 hH h)
     ·have h := bif_f hc55 h
      refine dn rfl rfl rfl hc55 rfl <| dn rfl rfl rfl hc55 rfl <| dn rfl rfl rfl hc55 rfl <| dn rfl rfl rfl hc55 rfl <| dn rfl rfl rfl hc55 rfl <| dn rfl rfl rfl hc55 rfl <| dn rfl rfl rfl hc55 rfl <| dn rfl rfl rfl hc55 rfl <| dn rfl rfl rfl hc55 rfl <| dn rfl rfl rfl hc55 rfl <| dn rfl rfl rfl hc55 rfl <| dn rfl rfl rfl hc55 rfl <| dy rfl rfl rfl c (ex_pickF' rfl hc55 rfl rfl) rfl <| df rfl (ex_pickF' rfl c rfl rfl) rfl <| DrawG.sync <| DrawG.nil ?_
      exact Run.pick [0, 1, 2, 7, 9, 11, 12, 13, 98] (z0c F (law06_GlitchCounts_5 F N) ih v0 v1 v2 a7 a8 a4 false j a3 a6 a5 a9 _ _ _ b0 hH h)
  ·have h := bif_f hc42 h
   refine Run.condF' rfl hc42 ?_
   refine Run.exit rfl (Run.seq (Run.seq (Run.region ?_)))
   refine av rfl rfl ?_
   refine Run.opsEnd (Run.block (Run.loop ?_))
   exact Run.pick [0, 1, 2, 7, 11, 12, 14] (z2m F F v0 v1 v2 a7 a8 (0 : Int) j a6 a5 _ _ _ b0 (hH.pick [0, 2, 3, 4] rfl rfl) h)

def law06_GlitchCounts_1 (F : Nat) (v0 : List Int) (v1 v2 v8 d : Int) (e : Bool) (c : List S_api_Tile) (b : List S_api_Glitch) : Option (Bool) :=
 bif e then
  bif (v8 == d) then
   law06_GlitchCounts_2 F ((c.length : Int) == (0 : Int)) b
  else
   law06_GlitchCounts_2 F false b
 else
  law06_GlitchCounts_5 F F v0 v1 v2 (0 : Int) (0 : Int) (0 : Int) c b

theorem z15 (F : Nat) : ∀ (v0 : List Int) (v1 v2 v8 m : Int) (n : Bool) (e : List S_api_Tile) (d : List S_api_Glitch) (j g f : SV) (Fr : Rd) (M : Mem) (r : Bool) (p : Slc Fr 1 (FlatR enc3) j v0) (hH : Has Fr M [.vec 59 3 e.length g (e.flatMap z04), .vec 57 5 d.length f (d.flatMap z03), tb0, tb1, tb2]), law06_GlitchCounts_1 F v0 v1 v2 v8 m n e d = some r → Run Tryz.prog ⟨⟨6, [], none⟩, []⟩ 207 (law06_GlitchCounts_post r) [(0, j), (1, (.int .i64 v1)), (2, (.int .i64 v2)), (7, g), (8, (.int .i64 v8)), (9, f), (10, (.int .i64 m)), (35, (.bool n))] [codeC Tryz.prog 6 [1, 1, 1, 0, 1], codeC Tryz.prog 6 [1, 1, 1, 1]] M := by
 intro v0 v1 v2 v8 m n e d j g f Fr M r p hH h
 rw [law06_GlitchCounts_1] at h
 rcases btf (n) with c | c
 ·have h := bif_t c h
  refine Run.condT' rfl c ?_
  refine Run.seq (Run.region ?_)
  refine mv rfl rfl <| mv rfl rfl <| og (ex_eql rfl rfl) rfl <| mv rfl rfl ?_
  rcases btf ((v8 == m)) with b | b
  ·have h := bif_t b h
   refine gy rfl rfl b (ex_move rfl) rfl <| gy rfl rfl b (ex_len' rfl (hH.slc (i := 0) rfl z08) z2n) rfl <| gy rfl rfl b (ex_eql rfl rfl) rfl <| og (ex_pickT' rfl b rfl rfl) rfl ?_
   exact Run.pick [9, 43] (z16 F ((e.length : Int) == (0 : Int)) d f _ _ _ (hH.pick [1, 2, 3, 4] rfl rfl) h)
  ·have h := bif_f b h
   refine gn rfl rfl b rfl <| gn rfl rfl b rfl <| gn rfl rfl b rfl <| og (ex_pickF' rfl b rfl rfl) rfl ?_
   exact Run.pick [9, 43] (z16 F false d f _ _ _ (hH.pick [1, 2, 3, 4] rfl rfl) h)
 ·have h := bif_f c h
  refine Run.condF' rfl c ?_
  refine Run.skip (Run.seq (Run.region ?_))
  refine av rfl rfl <| av rfl rfl ?_
  refine Run.opsEnd (Run.seq (Run.seq (Run.region ?_)))
  refine av rfl rfl ?_
  refine Run.opsEnd (Run.block (Run.loop ?_))
  exact Run.pick [0, 1, 2, 7, 9, 11, 12, 13] (z2l F F v0 v1 v2 (0 : Int) (0 : Int) (0 : Int) e d j g f _ _ _ p hH h)

def law06_GlitchCounts (F : Nat) (a0 : List Int) (a1 a2 : Int) : Option (Bool) :=
 bnd (glitch_Loud F a0 a1) fun b =>
 bnd (glitch_Glitches F a0 a1) fun c =>
 bif (!(b.2 == (0 : Int))) then
  law06_GlitchCounts_1 F a0 a1 a2 b.2 c.2 true b.1 c.1
 else
  law06_GlitchCounts_1 F a0 a1 a2 b.2 c.2 (!(c.2 == (0 : Int))) b.1 c.1

theorem law06_GlitchCounts_run (F : Nat) (a0 : List Int) (a1 a2 : Int) (s0 : SV) (r : Bool) (M : Mem) (q : Slc (rd M) 1 (FlatR enc3) s0 a0) (hfx : FixIn M fixes) (h : law06_GlitchCounts F a0 a1 a2 = some r) : Run Tryz.prog (fx0 6) 207 (law06_GlitchCounts_post r) [(0, s0), (1, (.int .i64 a1)), (2, (.int .i64 a2))] [codeC Tryz.prog 6 []] (frozen M) := by
 rw [law06_GlitchCounts] at h
 replace q := q.mono (rdLe_frozen M) (fun _ _ h => h)
 have hH : Has (ro (frozen M)) (frozen M) [tb0, tb1, tb2] := Has.ofFix hfx.frozen
 refine Run.seq (Run.region ?_)
 refine av rfl rfl ?_
 refine Run.opsEnd (Run.seq (Run.region ?_))
 refine mv rfl rfl <| mv rfl rfl ?_
 obtain ⟨j, m, h⟩ := bnd_some h
 refine Run.callX wantS_none (ex_call rfl z6n z67) rfl (z38 F a0 a1 s0 _ _ (hH.slcF q) m) ?_
 rintro _ s ⟨b, rfl, f⟩
 have d : Has (ro (frozen M)) s [.vec 59 3 j.1.length b (j.1.flatMap z04), tb0, tb1, tb2] := f.1 _ _ hH
 refine mv rfl rfl <| og (ex_extract rfl rfl) rfl <| og (ex_extract rfl rfl) rfl <| av rfl rfl <| av rfl rfl ?_
 refine Run.opsEnd (Run.seq (Run.region ?_))
 refine mv rfl rfl <| mv rfl rfl ?_
 obtain ⟨p, n, h⟩ := bnd_some h
 refine Run.callX wantS_none (ex_call rfl z7d z6u) rfl (z3j F a0 a1 s0 _ _ (d.slcF q) n) ?_
 rintro _ u ⟨c, rfl, g⟩
 have e : Has (ro (frozen M)) u [.vec 57 5 p.1.length c (p.1.flatMap z03), .vec 59 3 j.1.length b (j.1.flatMap z04), tb0, tb1, tb2] := g.1 _ _ d
 refine mv rfl rfl <| og (ex_extract rfl rfl) rfl <| og (ex_extract rfl rfl) rfl <| av rfl rfl <| av rfl rfl ?_
 refine Run.opsEnd (Run.seq (Run.seq (Run.region ?_)))
 refine mv rfl rfl <| og (ex_neq rfl rfl) rfl <| mv rfl rfl ?_
 rcases btf ((!(j.2 == (0 : Int)))) with hc34 | hc34
 ·have h := bif_t hc34 h
  refine gn rfl rfl hc34 rfl <| gn rfl rfl hc34 rfl <| og (ex_pickT' rfl hc34 rfl rfl) rfl <| Run.opsEnd ?_
  exact Run.pick [0, 1, 2, 7, 8, 9, 10, 35] (z15 F a0 a1 a2 j.2 p.2 true j.1 p.1 s0 b c _ _ _ q (e.pick [1, 0, 2, 3, 4] rfl rfl) h)
 ·have h := bif_f hc34 h
  refine gy rfl rfl hc34 (ex_move rfl) rfl <| gy rfl rfl hc34 (ex_neq rfl rfl) rfl <| og (ex_pickF' rfl hc34 rfl rfl) rfl <| Run.opsEnd ?_
  exact Run.pick [0, 1, 2, 7, 8, 9, 10, 35] (z15 F a0 a1 a2 j.2 p.2 (!(p.2 == (0 : Int))) j.1 p.1 s0 b c _ _ _ q (e.pick [1, 0, 2, 3, 4] rfl rfl) h)

end Go.Ev.GlitchCounts
