/- Plain functions that say what functions of the program come to, and proofs of it, written by a program of the verifier's own. -/
import Derived.Test.YtoobfmfgbcohcabGreatDoorShelf
import Derived.Test.YtoobfmfgbcohcabGreatDoorAlertBoardsPlain2
namespace Go.Ev.AlertBoards
open Go Go.Ev Go.Proofs
set_option maxRecDepth 100000
set_option linter.unusedVariables false

abbrev z1j (p : List UInt8) (g : Int) (d : List S_api_Key) (m : List S_api_Notice) (b : Pos) (e a : SV) (n : List SV) (Fr0 : Rd) (Hr : List Ent) (r : (List UInt8) × Int × Int × Int × Int × Int × (List Int) × Bool × Int × Int) : SV → Mem → Prop := fun s Me => ∃ q1, s = (.tuple [(.agg (k0 r.1 r.2.1 r.2.2.1 r.2.2.2.1 r.2.2.2.2.1 r.2.2.2.2.2.1 q1 r.2.2.2.2.2.2.2.1 r.2.2.2.2.2.2.2.2.1)), (.int .i64 r.2.2.2.2.2.2.2.2.2)]) ∧ ∃ F9 : Rd, RdLe Fr0 F9 ∧ Slc F9 1 (FlatR enc3) q1 r.2.2.2.2.2.2.1 ∧ Has F9 Me (([.obj b (.row 41 .whole [e, (.int .i64 g), a, (.ptr b 0)]), .vec 166 2 d.length e (d.flatMap z01), .vec 36 10 m.length a n, tb0, tb1, tb2] : List Ent) ++ Hr)

def alert_Board_Force_h2 (F : Nat) (m : List UInt8) (d : Int) (g : List S_api_Key) (e : List S_api_Notice) : Option ((List UInt8) × Int × Int × Int × Int × Int × (List Int) × Bool × Int × Int) :=
 bnd (alert_Board_alertsOf_h2 F m d g e) fun b =>
 bif ((b.length : Int) == (0 : Int)) then
  some ([], (0 : Int), (0 : Int), (0 : Int), (0 : Int), (0 : Int), [], false, (0 : Int), (4 : Int))
 else
  bnd (idx b (w64 ((b.length : Int) - (1 : Int)))) fun a =>
  bif a.Withdrawn then
   some ([], (0 : Int), (0 : Int), (0 : Int), (0 : Int), (0 : Int), [], false, (0 : Int), (107 : Int))
  else
   some (a.Event, a.Version, a.Time, a.Chance.N, a.Chance.Of, a.Grid, a.Cells, a.Withdrawn, a.Before, (0 : Int))

theorem z2k (F : Nat) : ∀ (a5 : List UInt8) (m : Int) (e : List S_api_Key) (n : List S_api_Notice) (d : Pos) (g a : SV) (p : List SV) (Fr0 : Rd) (Hr : List Ent) (M : Mem) (r : (List UInt8) × Int × Int × Int × Int × Int × (List Int) × Bool × Int × Int) (a0 : Rows (rep36 Fr0) 10 p n) (hH : Has Fr0 M (([.obj d (.row 41 .whole [g, (.int .i64 m), a, (.ptr d 0)]), .vec 166 2 e.length g (e.flatMap z01), .vec 36 10 n.length a p, tb0, tb1, tb2] : List Ent) ++ Hr)) (h : alert_Board_Force_h2 F a5 m e n = some r), CallsM Tryz.prog 10 [(.ptr d 0), (.str a5)] M (z1j a5 m e n d g a p Fr0 Hr r) := by
 intro a5 m e n d g a p Fr0 Hr M r a0 hH h
 refine CallsM.run Tryz.func10 rfl rfl (show Run _ _ _ (z1j a5 m e n d g a p Fr0 Hr r) _ _ _ from ?_)
 rw [alert_Board_Force_h2] at h
 refine Run.seq (Run.region ?_)
 refine ox rfl (ExG.new (v := fun b => .ptr b 0) (ex_alloc z3v) hH) ?_
 rintro _ c5 ⟨x, rfl, (b2 : Has Fr0 c5 (([.obj x (.row 33 .whole (k0 [] 0 0 0 0 0 .nils false 0)), .obj d (.row 41 .whole [g, (.int .i64 m), a, (.ptr d 0)]), .vec 166 2 e.length g (e.flatMap z01), .vec 36 10 n.length a p, tb0, tb1, tb2] : List Ent) ++ Hr))⟩
 refine av rfl rfl ?_
 refine Run.opsEnd (Run.seq (Run.seq (Run.region ?_)))
 refine mv rfl rfl <| Run.enter wantS_none (ex_call rfl zau zat) Tryz.func35 rfl rfl ?_
 refine Run.seq (Run.region ?_)
 refine av rfl rfl ?_
 refine Run.opsEnd (Run.seq (Run.region ?_))
 refine mv rfl rfl <| og (ex_ptrPNn rfl rfl z8i) rfl <| mv rfl rfl <| gy rfl rfl rfl (ex_move rfl) rfl <| gy rfl rfl rfl (ex_nilP rfl) rfl <| gy rfl rfl rfl (ex_fieldAddr rfl z8a) rfl <| gy rfl rfl rfl (ex_load1 rfl (b2.cells (i := 1) rfl 3 rfl) rdLe_rfl zbs) rfl <| gy rfl rfl rfl (ex_move rfl) rfl <| gy rfl rfl rfl (ex_ptrSame rfl rfl zc4 zc5) rfl <| og (ex_pickT' rfl rfl rfl rfl) rfl <| av rfl rfl <| Run.opsEnd <| Run.retTo Tryz.func35 rfl (res_tmp rfl res_nil) rfl <| og (ex_not rfl) rfl <| Run.opsEnd <| Run.condF' rfl rfl ?_
 refine Run.skip (Run.seq (Run.region ?_))
 refine mv rfl rfl <| mv rfl rfl ?_
 obtain ⟨a1, b8, h⟩ := bnd_some h
 refine Run.callX wantS_none (ex_call rfl zda zcw) rfl (z0r F a5 m e n d g a p Fr0 ([.obj x (.row 33 .whole (k0 [] 0 0 0 0 0 .nils false 0))] ++ Hr) _ _ a0 (b2.pickT [1, 2, 3, 4, 5, 6, 0] rfl rfl) b8) ?_
 rintro s c6 ⟨_, rfl, w, a4, u, a7, (y : Has w c6 (([.vec 33 9 a1.length s u, .obj d (.row 41 .whole [g, (.int .i64 m), a, (.ptr d 0)]), .vec 166 2 e.length g (e.flatMap z01), .vec 36 10 n.length a p, tb0, tb1, tb2, .obj x (.row 33 .whole (k0 [] 0 0 0 0 0 .nils false 0))] : List Ent) ++ Hr))⟩
 replace a0 := a0.mono fun _ _ => z02 a4
 refine av rfl rfl ?_
 refine Run.opsEnd (Run.seq (Run.seq (Run.region ?_)))
 refine mv rfl rfl <| og (ex_len' rfl (y.slcR (i := 0) rfl a7) z9n) rfl <| og (ex_eql rfl rfl) rfl <| Run.opsEnd ?_
 rcases btf (((a1.length : Int) == (0 : Int))) with hc133 | hc133
 ·have h := bif_t hc133 h
  refine Run.condT' rfl hc133 ?_
  refine Run.seq (Run.region ?_)
  refine og (ex_build (r := (k0 [] 0 0 0 0 0 .nils false 0)) rfl z3v zbe rfl) rfl <| ox rfl (ExG.storeC (c' := (k0 [] 0 0 0 0 0 .nils false 0)) rfl rfl rfl y (i := 7) rfl z9x rfl rfl rfl rfl rfl) ?_
  rintro _ c2 ⟨rfl, (b3 : Has w c2 (([.vec 33 9 a1.length s u, .obj d (.row 41 .whole [g, (.int .i64 m), a, (.ptr d 0)]), .vec 166 2 e.length g (e.flatMap z01), .vec 36 10 n.length a p, tb0, tb1, tb2, .obj x (.row 33 .whole (k0 [] 0 0 0 0 0 .nils false 0))] : List Ent) ++ Hr))⟩
  refine av rfl rfl <| Run.opsEnd ?_
  cases h
  exact Run.ret Tryz.func10 rfl (res_cell rfl (x_load (ex_loadA rfl (b3.cells (i := 7) rfl 0 rfl) rdLe_rfl z0m rfl rfl rfl)) (res_tmp rfl res_nil)) ⟨_, rfl, w, (fun b c hb => a4 b c ((fun b c hb => hb) b c hb)), slc_nil, b3.pickT [1, 2, 3, 4, 5, 6] rfl rfl⟩
 ·have h := bif_f hc133 h
  refine Run.condF' rfl hc133 ?_
  refine Run.skip (Run.seq (Run.region ?_))
  refine mv rfl rfl <| mv rfl rfl <| og (ex_len' rfl (y.slcR (i := 0) rfl a7) z9n) rfl <| og (ex_sub rfl rfl) rfl ?_
  obtain ⟨a2, a9, h⟩ := bnd_some h
  obtain ⟨c8, c9, b9, a9, c0⟩ := vec_elemR (P := Tryz.prog) (t := 43) (kk := .i64) y (i := 0) rfl a9 zc9
  obtain ⟨_, b5, b6, ⟨q, rfl, a6⟩⟩ := a7.at c0
  refine og (ex_elX rfl rfl a9) rfl <| og (ex_loadA rfl (y.atR (i := 0) rfl b9 b5 b6) rdLe_rfl z0m rfl rfl rfl) rfl <| ox rfl (ExG.new (v := fun b => .ptr b 0) (ex_alloc z3v) y) ?_
  rintro _ c1 ⟨b0, rfl, (b7 : Has w c1 (([.obj b0 (.row 33 .whole (k0 [] 0 0 0 0 0 .nils false 0)), .vec 33 9 a1.length s u, .obj d (.row 41 .whole [g, (.int .i64 m), a, (.ptr d 0)]), .vec 166 2 e.length g (e.flatMap z01), .vec 36 10 n.length a p, tb0, tb1, tb2, .obj x (.row 33 .whole (k0 [] 0 0 0 0 0 .nils false 0))] : List Ent) ++ Hr))⟩
  refine ox rfl (ExG.storeC (c' := (r0 a2 q)) rfl rfl rfl b7 (i := 0) rfl z9x rfl rfl rfl (ones_cons rfl (ones_cons rfl (ones_cons rfl (ones_cons rfl (ones_cons rfl (ones_cons rfl (ones_cons (slc_one a6) (ones_cons rfl (ones_cons rfl ones_nil))))))))) rfl) ?_
  rintro _ c7 ⟨rfl, (a8 : Has w c7 (([.obj b0 (.row 33 .whole (r0 a2 q)), .vec 33 9 a1.length s u, .obj d (.row 41 .whole [g, (.int .i64 m), a, (.ptr d 0)]), .vec 166 2 e.length g (e.flatMap z01), .vec 36 10 n.length a p, tb0, tb1, tb2, .obj x (.row 33 .whole (k0 [] 0 0 0 0 0 .nils false 0))] : List Ent) ++ Hr))⟩
  refine Run.opsEnd (Run.seq (Run.seq (Run.region ?_)))
  refine og (ex_fieldAddr rfl z5n) rfl <| og (ex_load1 rfl (a8.cells (i := 0) rfl 7 rfl) rdLe_rfl zc0) rfl <| Run.opsEnd ?_
  rcases btf (a2.Withdrawn) with a3 | a3
  ·have h := bif_t a3 h
   refine Run.condT' rfl a3 ?_
   refine Run.seq (Run.region ?_)
   refine og (ex_build (r := (k0 [] 0 0 0 0 0 .nils false 0)) rfl z3v zbe rfl) rfl <| ox rfl (ExG.storeC (c' := (k0 [] 0 0 0 0 0 .nils false 0)) rfl rfl rfl a8 (i := 8) rfl z9x rfl rfl rfl rfl rfl) ?_
   rintro _ c4 ⟨rfl, (b4 : Has w c4 (([.obj b0 (.row 33 .whole (r0 a2 q)), .vec 33 9 a1.length s u, .obj d (.row 41 .whole [g, (.int .i64 m), a, (.ptr d 0)]), .vec 166 2 e.length g (e.flatMap z01), .vec 36 10 n.length a p, tb0, tb1, tb2, .obj x (.row 33 .whole (k0 [] 0 0 0 0 0 .nils false 0))] : List Ent) ++ Hr))⟩
   refine av rfl rfl <| Run.opsEnd ?_
   cases h
   exact Run.ret Tryz.func10 rfl (res_cell rfl (x_load (ex_loadA rfl (b4.cells (i := 8) rfl 0 rfl) rdLe_rfl z0m rfl rfl rfl)) (res_tmp rfl res_nil)) ⟨_, rfl, w, (fun b c hb => a4 b c ((fun b c hb => hb) b c hb)), slc_nil, b4.pickT [2, 3, 4, 5, 6, 7] rfl rfl⟩
  ·have h := bif_f a3 h
   refine Run.condF' rfl a3 ?_
   refine Run.skip (Run.seq (Run.region ?_))
   refine og (ex_loadA rfl (a8.cells (i := 0) rfl 0 rfl) rdLe_rfl z0m rfl rfl rfl) rfl <| ox rfl (ExG.storeC (c' := (r0 a2 q)) rfl rfl rfl a8 (i := 8) rfl z9x rfl rfl rfl (ones_cons rfl (ones_cons rfl (ones_cons rfl (ones_cons rfl (ones_cons rfl (ones_cons rfl (ones_cons (slc_one a6) (ones_cons rfl (ones_cons rfl ones_nil))))))))) rfl) ?_
   rintro _ c3 ⟨rfl, (b1 : Has w c3 (([.obj b0 (.row 33 .whole (r0 a2 q)), .vec 33 9 a1.length s u, .obj d (.row 41 .whole [g, (.int .i64 m), a, (.ptr d 0)]), .vec 166 2 e.length g (e.flatMap z01), .vec 36 10 n.length a p, tb0, tb1, tb2, .obj x (.row 33 .whole (r0 a2 q))] : List Ent) ++ Hr))⟩
   refine av rfl rfl <| Run.opsEnd ?_
   cases h
   exact Run.ret Tryz.func10 rfl (res_cell rfl (x_load (ex_loadA rfl (b1.cells (i := 8) rfl 0 rfl) rdLe_rfl z0m rfl rfl rfl)) (res_tmp rfl res_nil)) ⟨_, rfl, w, (fun b c hb => a4 b c ((fun b c hb => hb) b c hb)), a6, b1.pickT [2, 3, 4, 5, 6, 7] rfl rfl⟩

theorem zez : makeK Tryz.prog 17 = none := by kernel_rfl
theorem zec : callable Tryz.prog 17 = true := by kernel_rfl
abbrev z11 (e : List UInt8) (b : List S_api_Notice) (d : SV) (a : List SV) (Fr0 : Rd) (Hr : List Ent) (r : List S_api_Notice) : SV → Mem → Prop := fun s Me => ∃ q1, s = q1 ∧ ∃ F9 : Rd, RdLe Fr0 F9 ∧ ∃ c1 : List SV, Rows (rep36 F9) 10 c1 r ∧ Has F9 Me (([.vec 36 10 r.length q1 c1, .vec 36 10 b.length d a, tb0, tb1, tb2] : List Ent) ++ Hr)

def ref10_of_h2_2 (F : Nat) (d : List UInt8) (b : List S_api_Notice) (e : (List UInt8) → Int → List S_api_Notice → Option ((List S_api_Notice))) (v1 : List UInt8) (v6 : Int) (a : List S_api_Notice) : Option ((List S_api_Notice)) :=
 e v1 (w64 (v6 + (1 : Int))) a

theorem z5w (F : Nat) (p : List UInt8) (a : List S_api_Notice) (d : SV) (b : List SV) (Fr0 : Rd) (Hr : List Ent) (a0 : (List UInt8) → Int → List S_api_Notice → Option ((List S_api_Notice))) (x : ∀ (v1 : List UInt8) (v6 : Int) (q : List S_api_Notice) (u : SV) (w : List SV) (Fr : Rd) (M : Mem) (r : List S_api_Notice) (n : Rows (rep36 Fr) 10 b a) (y : Rows (rep36 Fr) 10 w q) (hfle : RdLe Fr0 Fr) (hH : Has Fr M (([.vec 36 10 a.length d b, .vec 36 10 q.length u w, tb0, tb1, tb2] : List Ent) ++ Hr)), a0 v1 v6 q = some r → Run Tryz.prog ⟨⟨52, [], none⟩, []⟩ 29 (z11 p a d b Fr0 Hr r) [(0, d), (1, (.str v1)), (5, u), (6, (.int .i64 v6))] [codeC Tryz.prog 52 [1, 1, 0, 1, 0, 0], loopC Tryz.prog 52 [1, 1, 0, 1, 0, 0], .inBlock 0, codeC Tryz.prog 52 [1, 1, 1]] M) : ∀ (v1 : List UInt8) (v6 : Int) (e : List S_api_Notice) (m : SV) (g : List SV) (Fr : Rd) (M : Mem) (r : List S_api_Notice) (n : Rows (rep36 Fr) 10 b a) (s : Rows (rep36 Fr) 10 g e) (hfle : RdLe Fr0 Fr) (hH : Has Fr M (([.vec 36 10 a.length d b, .vec 36 10 e.length m g, tb0, tb1, tb2] : List Ent) ++ Hr)), ref10_of_h2_2 F p a a0 v1 v6 e = some r → Run Tryz.prog ⟨⟨52, [], none⟩, []⟩ 29 (z11 p a d b Fr0 Hr r) [(0, d), (1, (.str v1)), (5, m), (6, (.int .i64 v6))] [itemC Tryz.prog 52 [1, 1, 0, 1, 0, 0, 1, 1] 0, loopC Tryz.prog 52 [1, 1, 0, 1, 0, 0], .inBlock 0, codeC Tryz.prog 52 [1, 1, 1]] M := by
 intro v1 v6 e m g Fr M r n s hfle hH h
 rw [ref10_of_h2_2] at h
 refine mv rfl rfl <| og (ex_add rfl rfl) rfl <| av rfl rfl ?_
 refine Run.opsEnd (Run.inLoop ?_)
 exact Run.pick [0, 1, 5, 6] (x v1 (w64 (v6 + (1 : Int))) e m g _ _ _ n s hfle hH h)

def ref10_of_h2_1 (F : Nat) (b : List UInt8) (a : List S_api_Notice) : Nat → List UInt8 → Int → List S_api_Notice → Option ((List S_api_Notice))
 | 0, _, _, _ => none
 | N + 1, v1, v6, d =>
  bif (decide (v6 < (a.length : Int))) then
   bnd (idx a v6) fun m =>
   bif (m.Alert.Event == v1) then
    bnd (idx a v6) fun e =>
    bnd (apd 120 d ([(S_api_Notice.mk e.Alert e.Signatures)] : List S_api_Notice)) fun g =>
    ref10_of_h2_2 F b a (ref10_of_h2_1 F b a N) v1 v6 g
   else
    ref10_of_h2_2 F b a (ref10_of_h2_1 F b a N) v1 v6 d
  else
   some d

theorem z9w (F : Nat) (w : List UInt8) (a : List S_api_Notice) (e : SV) (b : List SV) (Fr0 : Rd) (Hr : List Ent) : ∀ (N : Nat), ∀ (v1 : List UInt8) (v6 : Int) (p : List S_api_Notice) (x : SV) (q : List SV) (Fr : Rd) (M : Mem) (r : List S_api_Notice) (n : Rows (rep36 Fr) 10 b a) (s : Rows (rep36 Fr) 10 q p) (hfle : RdLe Fr0 Fr) (hH : Has Fr M (([.vec 36 10 a.length e b, .vec 36 10 p.length x q, tb0, tb1, tb2] : List Ent) ++ Hr)), ref10_of_h2_1 F w a N v1 v6 p = some r → Run Tryz.prog ⟨⟨52, [], none⟩, []⟩ 29 (z11 w a e b Fr0 Hr r) [(0, e), (1, (.str v1)), (5, x), (6, (.int .i64 v6))] [codeC Tryz.prog 52 [1, 1, 0, 1, 0, 0], loopC Tryz.prog 52 [1, 1, 0, 1, 0, 0], .inBlock 0, codeC Tryz.prog 52 [1, 1, 1]] M := by
 intro N
 induction N with
 | zero =>
  intro v1 v6 p x q Fr M r n s hfle hH h
  simp [ref10_of_h2_1] at h
 | succ N ih =>
  intro v1 v6 p x q Fr M r n s hfle hH h
  rw [ref10_of_h2_1] at h
  refine Run.seq (Run.seq (Run.region ?_))
  refine mv rfl rfl <| mv rfl rfl <| og (ex_len' rfl (hH.slcR (i := 0) rfl n) z4n) rfl <| og (ex_lss rfl rfl) rfl <| Run.opsEnd ?_
  rcases btf ((decide (v6 < (a.length : Int)))) with hc144 | hc144
  ·have h := bif_t hc144 h
   refine Run.condT' rfl hc144 ?_
   refine Run.skip (Run.seq (Run.block (Run.seq (Run.region ?_))))
   refine mv rfl rfl <| mv rfl rfl ?_
   obtain ⟨c2, y, h⟩ := bnd_some h
   obtain ⟨c9, d0, b6, y, b2⟩ := vec_elemR (P := Tryz.prog) (t := 25) (kk := .i64) hH (i := 0) rfl y z5c
   obtain ⟨_, a8, a6, ⟨c6, c5, rfl, c3, c4⟩⟩ := n.at b2
   refine og (ex_elX rfl rfl y) rfl <| og (ex_fieldAddr rfl z0a) rfl <| og (ex_fieldAddr rfl z10) rfl <| og (ex_load1 rfl (((hH.atR (i := 0) rfl b6 a8 a6).fld (o := 0) rfl).fld (o := 0) rfl) rdLe_rfl zam) rfl <| mv rfl rfl <| og (ex_eqlS rfl rfl) rfl <| Run.opsEnd ?_
   rcases btf ((c2.Alert.Event == v1)) with u | u
   ·have h := bif_t u h
    refine Run.condT' rfl u <| Run.region <| mv rfl rfl <| mv rfl rfl <| mv rfl rfl ?_
    obtain ⟨d, a0, h⟩ := bnd_some h
    obtain ⟨c8, c7, b7, a0, b5⟩ := vec_elemR (P := Tryz.prog) (t := 25) (kk := .i64) hH (i := 0) rfl a0 z5c
    obtain ⟨_, a9, a4, ⟨m, g, rfl, a2, a3⟩⟩ := n.at b5
    refine og (ex_elX rfl rfl a0) rfl <| og (ex_loadA rfl (hH.atR (i := 0) rfl b7 a9 a4) rdLe_rfl z4b rfl rfl rfl) rfl ?_
    have b4 : Rows (rep36 Fr) 10 (r1 d.Alert m g) ([(S_api_Notice.mk d.Alert d.Signatures)] : List S_api_Notice) := (Rows.cons (cs := (r1 d.Alert m g)) rfl ⟨m, g, rfl, a2, a3⟩ Rows.nil)
    refine ox rfl (ExG.builtR (z := 10) (c := (r1 d.Alert m g)) rfl zbv rfl rfl rfl hH) ?_
    rintro a7 c1 (a1 : Has Fr c1 (([.vec 36 10 ([(S_api_Notice.mk d.Alert d.Signatures)] : List S_api_Notice).length a7 (r1 d.Alert m g), .vec 36 10 a.length e b, .vec 36 10 p.length x q, tb0, tb1, tb2] : List Ent) ++ Hr))
    obtain ⟨a5, b9, h⟩ := bnd_some h
    refine ox rfl (ExG.appendQ (R := (rep36 Fr)) rfl rfl a1 (i := 2) rfl s (fun _ _ => z4x) rfl z73 rfl (a1.slcR (i := 0) rfl b4) (rdLe_rdRow _) b9) ?_
    rintro b1 c0 ⟨b0, b3, (b8 : Has Fr c0 (([.vec 36 10 ([(S_api_Notice.mk d.Alert d.Signatures)] : List S_api_Notice).length a7 (r1 d.Alert m g), .vec 36 10 a.length e b, .vec 36 10 a5.length b1 b0, tb0, tb1, tb2] : List Ent) ++ Hr))⟩
    refine av rfl rfl ?_
    refine Run.opsEnd (Run.inBlock (Run.region ?_))
    exact Run.pick [0, 1, 5, 6] (z5w F w a e b Fr0 Hr (ref10_of_h2_1 F w a N) ih v1 v6 a5 b1 b0 _ _ _ n b3 hfle (b8.pickT [1, 2, 3, 4, 5] rfl rfl) h)
   ·have h := bif_f u h
    refine Run.condF' rfl u ?_
    refine Run.skip (Run.inBlock (Run.region ?_))
    exact Run.pick [0, 1, 5, 6] (z5w F w a e b Fr0 Hr (ref10_of_h2_1 F w a N) ih v1 v6 p x q _ _ _ n s hfle hH h)
  ·have h := bif_f hc144 h
   refine Run.condF' rfl hc144 ?_
   refine Run.exit rfl (Run.seq (Run.region ?_))
   refine mv rfl rfl <| av rfl rfl <| Run.opsEnd ?_
   cases h
   exact Run.ret Tryz.func52 rfl (res_tmp rfl res_nil) ⟨_, rfl, Fr, hfle, q, s, hH.pickT [1, 0, 2, 3, 4] rfl rfl⟩

def ref10_of_h2 (F : Nat) (b : List UInt8) (a : List S_api_Notice) : Option ((List S_api_Notice)) :=
 ref10_of_h2_1 F b a F b (0 : Int) ([] : List S_api_Notice)

theorem z7v (F : Nat) : ∀ (g : List UInt8) (a : List S_api_Notice) (e : SV) (d : List SV) (Fr0 : Rd) (Hr : List Ent) (M : Mem) (r : List S_api_Notice) (m : Rows (rep36 Fr0) 10 d a) (hH : Has Fr0 M (([.vec 36 10 a.length e d, tb0, tb1, tb2] : List Ent) ++ Hr)) (h : ref10_of_h2 F g a = some r), CallsM Tryz.prog 52 [e, (.str g)] M (z11 g a e d Fr0 Hr r) := by
 intro g a e d Fr0 Hr M r m hH h
 refine CallsM.run Tryz.func52 rfl rfl (show Run _ _ _ (z11 g a e d Fr0 Hr r) _ _ _ from ?_)
 rw [ref10_of_h2] at h
 refine Run.seq (Run.region ?_)
 refine av rfl rfl ?_
 refine Run.opsEnd (Run.seq (Run.region ?_))
 refine av rfl rfl ?_
 refine Run.opsEnd (Run.seq (Run.seq (Run.region ?_)))
 refine av rfl rfl ?_
 refine Run.opsEnd (Run.block (Run.loop ?_))
 have n : Has Fr0 M (([.vec 36 10 ([] : List S_api_Notice).length .nils [], .vec 36 10 a.length e d, tb0, tb1, tb2] : List Ent) ++ Hr) := hH.nils 36 10
 exact Run.pick [0, 1, 5, 6] (z9w F g a e d Fr0 Hr F g (0 : Int) ([] : List S_api_Notice) .nils [] _ _ _ m Rows.nil (fun b c hb => hb) (n.pickT [1, 0, 2, 3, 4] rfl rfl) h)

abbrev z1x (p : List UInt8) (e : Int) (a : List S_api_Key) (m : List S_api_Notice) (n : Pos) (b d : SV) (g : List SV) (Fr0 : Rd) (Hr : List Ent) (r : (List UInt8) × Int × Int × Int × Int × Int × (List Int) × Bool × Int × Bool) : SV → Mem → Prop := fun s Me => ∃ q1, s = (.tuple [(.agg (k0 r.1 r.2.1 r.2.2.1 r.2.2.2.1 r.2.2.2.2.1 r.2.2.2.2.2.1 q1 r.2.2.2.2.2.2.2.1 r.2.2.2.2.2.2.2.2.1)), (.bool r.2.2.2.2.2.2.2.2.2)]) ∧ ∃ F9 : Rd, RdLe Fr0 F9 ∧ Slc F9 1 (FlatR enc3) q1 r.2.2.2.2.2.2.1 ∧ Has F9 Me (([.obj n (.row 58 .whole [b, (.int .i64 e), d]), .vec 108 2 a.length b (a.flatMap enc108), .vec 36 10 m.length d g, tb0, tb1, tb2] : List Ent) ++ Hr)

def ref10_Board_last_h2 (F : Nat) (g : List UInt8) (e : Int) (m : List S_api_Key) (d : List S_api_Notice) : Option ((List UInt8) × Int × Int × Int × Int × Int × (List Int) × Bool × Int × Bool) :=
 bnd (ref10_of_h2 F g d) fun b =>
 bif ((b.length : Int) == (0 : Int)) then
  some ([], (0 : Int), (0 : Int), (0 : Int), (0 : Int), (0 : Int), [], false, (0 : Int), false)
 else
  bnd (idx b (w64 ((b.length : Int) - (1 : Int)))) fun a =>
  some (a.Alert.Event, a.Alert.Version, a.Alert.Time, a.Alert.Chance.N, a.Alert.Chance.Of, a.Alert.Grid, a.Alert.Cells, a.Alert.Withdrawn, a.Alert.Before, true)

theorem z2n (F : Nat) : ∀ (u : List UInt8) (g : Int) (a : List S_api_Key) (m : List S_api_Notice) (p : Pos) (d e : SV) (n : List SV) (Fr0 : Rd) (Hr : List Ent) (M : Mem) (r : (List UInt8) × Int × Int × Int × Int × Int × (List Int) × Bool × Int × Bool) (s : Rows (rep36 Fr0) 10 n m) (hH : Has Fr0 M (([.obj p (.row 58 .whole [d, (.int .i64 g), e]), .vec 108 2 a.length d (a.flatMap enc108), .vec 36 10 m.length e n, tb0, tb1, tb2] : List Ent) ++ Hr)) (h : ref10_Board_last_h2 F u g a m = some r), CallsM Tryz.prog 50 [(.ptr p 0), (.str u)] M (z1x u g a m p d e n Fr0 Hr r) := by
 intro u g a m p d e n Fr0 Hr M r s hH h
 refine CallsM.run Tryz.func50 rfl rfl (show Run _ _ _ (z1x u g a m p d e n Fr0 Hr r) _ _ _ from ?_)
 rw [ref10_Board_last_h2] at h
 refine Run.seq (Run.region ?_)
 refine ox rfl (ExG.new (v := fun b => .ptr b 0) (ex_alloc z3v) hH) ?_
 rintro _ b8 ⟨a1, rfl, (a9 : Has Fr0 b8 (([.obj a1 (.row 33 .whole (k0 [] 0 0 0 0 0 .nils false 0)), .obj p (.row 58 .whole [d, (.int .i64 g), e]), .vec 108 2 a.length d (a.flatMap enc108), .vec 36 10 m.length e n, tb0, tb1, tb2] : List Ent) ++ Hr))⟩
 refine av rfl rfl ?_
 refine Run.opsEnd (Run.seq (Run.region ?_))
 refine mv rfl rfl <| og (ex_nilP rfl) rfl <| og (ex_fieldAddr rfl z5u) rfl <| og (ex_load1 rfl (a9.cells (i := 1) rfl 2 rfl) rdLe_rfl z8r) rfl <| mv rfl rfl ?_
 obtain ⟨a4, b3, h⟩ := bnd_some h
 refine Run.callX wantS_none (ex_call rfl zfi zel) rfl (z7v F u m e n Fr0 ([.obj a1 (.row 33 .whole (k0 [] 0 0 0 0 0 .nils false 0)), .obj p (.row 58 .whole [d, (.int .i64 g), e]), .vec 108 2 a.length d (a.flatMap enc108)] ++ Hr) _ _ s (a9.pickT [3, 4, 5, 6, 0, 1, 2] rfl rfl) b3) ?_
 rintro y b9 ⟨_, rfl, a0, x, a2, w, (q : Has a0 b9 (([.vec 36 10 a4.length y a2, .vec 36 10 m.length e n, tb0, tb1, tb2, .obj a1 (.row 33 .whole (k0 [] 0 0 0 0 0 .nils false 0)), .obj p (.row 58 .whole [d, (.int .i64 g), e]), .vec 108 2 a.length d (a.flatMap enc108)] : List Ent) ++ Hr))⟩
 replace s := s.mono fun _ _ => z02 x
 refine av rfl rfl ?_
 refine Run.opsEnd (Run.seq (Run.seq (Run.region ?_)))
 refine mv rfl rfl <| og (ex_len' rfl (q.slcR (i := 0) rfl w) z4n) rfl <| og (ex_eql rfl rfl) rfl <| Run.opsEnd ?_
 rcases btf (((a4.length : Int) == (0 : Int))) with hc148 | hc148
 ·have h := bif_t hc148 h
  refine Run.condT' rfl hc148 ?_
  refine Run.seq (Run.region ?_)
  refine og (ex_build (r := (k0 [] 0 0 0 0 0 .nils false 0)) rfl z3v zbe rfl) rfl <| ox rfl (ExG.storeC (c' := (k0 [] 0 0 0 0 0 .nils false 0)) rfl rfl rfl q (i := 5) rfl z9x rfl rfl rfl rfl rfl) ?_
  rintro _ b6 ⟨rfl, (a7 : Has a0 b6 (([.vec 36 10 a4.length y a2, .vec 36 10 m.length e n, tb0, tb1, tb2, .obj a1 (.row 33 .whole (k0 [] 0 0 0 0 0 .nils false 0)), .obj p (.row 58 .whole [d, (.int .i64 g), e]), .vec 108 2 a.length d (a.flatMap enc108)] : List Ent) ++ Hr))⟩
  refine av rfl rfl <| Run.opsEnd ?_
  cases h
  exact Run.ret Tryz.func50 rfl (res_cell rfl (x_load (ex_loadA rfl (a7.cells (i := 5) rfl 0 rfl) rdLe_rfl z0m rfl rfl rfl)) (res_tmp rfl res_nil)) ⟨_, rfl, a0, (fun b c hb => x b c ((fun b c hb => hb) b c hb)), slc_nil, a7.pickT [6, 7, 1, 2, 3, 4] rfl rfl⟩
 ·have h := bif_f hc148 h
  refine Run.condF' rfl hc148 ?_
  refine Run.skip (Run.seq (Run.region ?_))
  refine mv rfl rfl <| mv rfl rfl <| og (ex_len' rfl (q.slcR (i := 0) rfl w) z4n) rfl <| og (ex_sub rfl rfl) rfl ?_
  obtain ⟨b1, a5, h⟩ := bnd_some h
  obtain ⟨c2, c3, b4, a5, b5⟩ := vec_elemR (P := Tryz.prog) (t := 25) (kk := .i64) q (i := 0) rfl a5 z5c
  obtain ⟨_, b2, b0, ⟨a6, c1, rfl, a3, c0⟩⟩ := w.at b5
  refine og (ex_elX rfl rfl a5) rfl <| og (ex_fieldAddr rfl z0a) rfl <| og (ex_loadA rfl ((q.atR (i := 0) rfl b4 b2 b0).fld (o := 0) rfl) rdLe_rfl z0m rfl rfl rfl) rfl <| ox rfl (ExG.storeC (c' := (r0 b1.Alert a6)) rfl rfl rfl q (i := 5) rfl z9x rfl rfl rfl (ones_cons rfl (ones_cons rfl (ones_cons rfl (ones_cons rfl (ones_cons rfl (ones_cons rfl (ones_cons (slc_one a3) (ones_cons rfl (ones_cons rfl ones_nil))))))))) rfl) ?_
  rintro _ b7 ⟨rfl, (a8 : Has a0 b7 (([.vec 36 10 a4.length y a2, .vec 36 10 m.length e n, tb0, tb1, tb2, .obj a1 (.row 33 .whole (r0 b1.Alert a6)), .obj p (.row 58 .whole [d, (.int .i64 g), e]), .vec 108 2 a.length d (a.flatMap enc108)] : List Ent) ++ Hr))⟩
  refine av rfl rfl <| Run.opsEnd ?_
  cases h
  exact Run.ret Tryz.func50 rfl (res_cell rfl (x_load (ex_loadA rfl (a8.cells (i := 5) rfl 0 rfl) rdLe_rfl z0m rfl rfl rfl)) (res_tmp rfl res_nil)) ⟨_, rfl, a0, (fun b c hb => x b c ((fun b c hb => hb) b c hb)), a3, a8.pickT [6, 7, 1, 2, 3, 4] rfl rfl⟩

abbrev z1m (p : List UInt8) (e : Int) (a : List S_api_Key) (m : List S_api_Notice) (n : Pos) (b d : SV) (g : List SV) (Fr0 : Rd) (Hr : List Ent) (r : (List UInt8) × Int × Int × Int × Int × Int × (List Int) × Bool × Int × Int) : SV → Mem → Prop := fun s Me => ∃ q1, s = (.tuple [(.agg (k0 r.1 r.2.1 r.2.2.1 r.2.2.2.1 r.2.2.2.2.1 r.2.2.2.2.2.1 q1 r.2.2.2.2.2.2.2.1 r.2.2.2.2.2.2.2.2.1)), (.int .i64 r.2.2.2.2.2.2.2.2.2)]) ∧ ∃ F9 : Rd, RdLe Fr0 F9 ∧ Slc F9 1 (FlatR enc3) q1 r.2.2.2.2.2.2.1 ∧ Has F9 Me (([.obj n (.row 58 .whole [b, (.int .i64 e), d]), .vec 108 2 a.length b (a.flatMap enc108), .vec 36 10 m.length d g, tb0, tb1, tb2] : List Ent) ++ Hr)

def ref10_Board_Force_h1 (F : Nat) (g : List UInt8) (b : Int) (d : List S_api_Key) (e : List S_api_Notice) : Option ((List UInt8) × Int × Int × Int × Int × Int × (List Int) × Bool × Int × Int) :=
 bnd (ref10_Board_last_h2 F g b d e) fun a =>
 bif (!a.2.2.2.2.2.2.2.2.2) then
  some ([], (0 : Int), (0 : Int), (0 : Int), (0 : Int), (0 : Int), [], false, (0 : Int), (4 : Int))
 else
  bif a.2.2.2.2.2.2.2.1 then
   some ([], (0 : Int), (0 : Int), (0 : Int), (0 : Int), (0 : Int), [], false, (0 : Int), (107 : Int))
  else
   some (a.1, a.2.1, a.2.2.1, a.2.2.2.1, a.2.2.2.2.1, a.2.2.2.2.2.1, a.2.2.2.2.2.2.1, a.2.2.2.2.2.2.2.1, a.2.2.2.2.2.2.2.2.1, (0 : Int))

theorem z2a (F : Nat) : ∀ (a3 : List UInt8) (m : Int) (d : List S_api_Key) (n : List S_api_Notice) (q : Pos) (e g : SV) (p : List SV) (Fr0 : Rd) (Hr : List Ent) (M : Mem) (r : (List UInt8) × Int × Int × Int × Int × Int × (List Int) × Bool × Int × Int) (x : Rows (rep36 Fr0) 10 p n) (hH : Has Fr0 M (([.obj q (.row 58 .whole [e, (.int .i64 m), g]), .vec 108 2 d.length e (d.flatMap enc108), .vec 36 10 n.length g p, tb0, tb1, tb2] : List Ent) ++ Hr)) (h : ref10_Board_Force_h1 F a3 m d n = some r), CallsM Tryz.prog 17 [(.ptr q 0), (.str a3)] M (z1m a3 m d n q e g p Fr0 Hr r) := by
 intro a3 m d n q e g p Fr0 Hr M r x hH h
 refine CallsM.run Tryz.func17 rfl rfl (show Run _ _ _ (z1m a3 m d n q e g p Fr0 Hr r) _ _ _ from ?_)
 rw [ref10_Board_Force_h1] at h
 refine Run.seq (Run.region ?_)
 refine ox rfl (ExG.new (v := fun b => .ptr b 0) (ex_alloc z3v) hH) ?_
 rintro _ b8 ⟨w, rfl, (b2 : Has Fr0 b8 (([.obj w (.row 33 .whole (k0 [] 0 0 0 0 0 .nils false 0)), .obj q (.row 58 .whole [e, (.int .i64 m), g]), .vec 108 2 d.length e (d.flatMap enc108), .vec 36 10 n.length g p, tb0, tb1, tb2] : List Ent) ++ Hr))⟩
 refine av rfl rfl ?_
 refine Run.opsEnd (Run.seq (Run.region ?_))
 refine mv rfl rfl <| mv rfl rfl ?_
 obtain ⟨a, b1, h⟩ := bnd_some h
 refine Run.callX wantS_none (ex_call rfl zff zdz) rfl (z2n F a3 m d n q e g p Fr0 ([.obj w (.row 33 .whole (k0 [] 0 0 0 0 0 .nils false 0))] ++ Hr) _ _ x (b2.pickT [1, 2, 3, 4, 5, 6, 0] rfl rfl) b1) ?_
 rintro _ b5 ⟨s, rfl, u, y, a4, (b0 : Has u b5 (([.obj q (.row 58 .whole [e, (.int .i64 m), g]), .vec 108 2 d.length e (d.flatMap enc108), .vec 36 10 n.length g p, tb0, tb1, tb2, .obj w (.row 33 .whole (k0 [] 0 0 0 0 0 .nils false 0))] : List Ent) ++ Hr))⟩
 replace x := x.mono fun _ _ => z02 y
 refine mv rfl rfl <| og (ex_extract rfl rfl) rfl <| og (ex_extract rfl rfl) rfl <| ox rfl (ExG.new (v := fun b => .ptr b 0) (ex_alloc z3v) b0) ?_
 rintro _ b7 ⟨a5, rfl, (a9 : Has u b7 (([.obj a5 (.row 33 .whole (k0 [] 0 0 0 0 0 .nils false 0)), .obj q (.row 58 .whole [e, (.int .i64 m), g]), .vec 108 2 d.length e (d.flatMap enc108), .vec 36 10 n.length g p, tb0, tb1, tb2, .obj w (.row 33 .whole (k0 [] 0 0 0 0 0 .nils false 0))] : List Ent) ++ Hr))⟩
 refine ox rfl (ExG.storeC (c' := (k0 a.1 a.2.1 a.2.2.1 a.2.2.2.1 a.2.2.2.2.1 a.2.2.2.2.2.1 s a.2.2.2.2.2.2.2.1 a.2.2.2.2.2.2.2.2.1)) rfl rfl rfl a9 (i := 0) rfl z9x rfl rfl rfl (ones_cons rfl (ones_cons rfl (ones_cons rfl (ones_cons rfl (ones_cons rfl (ones_cons rfl (ones_cons (slc_one a4) (ones_cons rfl (ones_cons rfl ones_nil))))))))) rfl) ?_
 rintro _ b9 ⟨rfl, (a1 : Has u b9 (([.obj a5 (.row 33 .whole (k0 a.1 a.2.1 a.2.2.1 a.2.2.2.1 a.2.2.2.2.1 a.2.2.2.2.2.1 s a.2.2.2.2.2.2.2.1 a.2.2.2.2.2.2.2.2.1)), .obj q (.row 58 .whole [e, (.int .i64 m), g]), .vec 108 2 d.length e (d.flatMap enc108), .vec 36 10 n.length g p, tb0, tb1, tb2, .obj w (.row 33 .whole (k0 [] 0 0 0 0 0 .nils false 0))] : List Ent) ++ Hr))⟩
 refine av rfl rfl ?_
 refine Run.opsEnd (Run.seq (Run.seq (Run.region ?_)))
 refine mv rfl rfl <| og (ex_not rfl) rfl <| Run.opsEnd ?_
 rcases btf ((!a.2.2.2.2.2.2.2.2.2)) with a0 | a0
 ·have h := bif_t a0 h
  refine Run.condT' rfl a0 ?_
  refine Run.seq (Run.region ?_)
  refine og (ex_build (r := (k0 [] 0 0 0 0 0 .nils false 0)) rfl z3v zbe rfl) rfl <| ox rfl (ExG.storeC (c' := (k0 [] 0 0 0 0 0 .nils false 0)) rfl rfl rfl a1 (i := 7) rfl z9x rfl rfl rfl rfl rfl) ?_
  rintro _ b4 ⟨rfl, (a6 : Has u b4 (([.obj a5 (.row 33 .whole (k0 a.1 a.2.1 a.2.2.1 a.2.2.2.1 a.2.2.2.2.1 a.2.2.2.2.2.1 s a.2.2.2.2.2.2.2.1 a.2.2.2.2.2.2.2.2.1)), .obj q (.row 58 .whole [e, (.int .i64 m), g]), .vec 108 2 d.length e (d.flatMap enc108), .vec 36 10 n.length g p, tb0, tb1, tb2, .obj w (.row 33 .whole (k0 [] 0 0 0 0 0 .nils false 0))] : List Ent) ++ Hr))⟩
  refine av rfl rfl <| Run.opsEnd ?_
  cases h
  exact Run.ret Tryz.func17 rfl (res_cell rfl (x_load (ex_loadA rfl (a6.cells (i := 7) rfl 0 rfl) rdLe_rfl z0m rfl rfl rfl)) (res_tmp rfl res_nil)) ⟨_, rfl, u, (fun b c hb => y b c ((fun b c hb => hb) b c hb)), slc_nil, a6.pickT [1, 2, 3, 4, 5, 6] rfl rfl⟩
 ·have h := bif_f a0 h
  refine Run.condF' rfl a0 ?_
  refine Run.skip (Run.seq (Run.seq (Run.region ?_)))
  refine og (ex_fieldAddr rfl z5n) rfl <| og (ex_load1 rfl (a1.cells (i := 0) rfl 7 rfl) rdLe_rfl zc0) rfl <| Run.opsEnd ?_
  rcases btf (a.2.2.2.2.2.2.2.1) with a2 | a2
  ·have h := bif_t a2 h
   refine Run.condT' rfl a2 ?_
   refine Run.seq (Run.region ?_)
   refine og (ex_build (r := (k0 [] 0 0 0 0 0 .nils false 0)) rfl z3v zbe rfl) rfl <| ox rfl (ExG.storeC (c' := (k0 [] 0 0 0 0 0 .nils false 0)) rfl rfl rfl a1 (i := 7) rfl z9x rfl rfl rfl rfl rfl) ?_
   rintro _ b3 ⟨rfl, (a7 : Has u b3 (([.obj a5 (.row 33 .whole (k0 a.1 a.2.1 a.2.2.1 a.2.2.2.1 a.2.2.2.2.1 a.2.2.2.2.2.1 s a.2.2.2.2.2.2.2.1 a.2.2.2.2.2.2.2.2.1)), .obj q (.row 58 .whole [e, (.int .i64 m), g]), .vec 108 2 d.length e (d.flatMap enc108), .vec 36 10 n.length g p, tb0, tb1, tb2, .obj w (.row 33 .whole (k0 [] 0 0 0 0 0 .nils false 0))] : List Ent) ++ Hr))⟩
   refine av rfl rfl <| Run.opsEnd ?_
   cases h
   exact Run.ret Tryz.func17 rfl (res_cell rfl (x_load (ex_loadA rfl (a7.cells (i := 7) rfl 0 rfl) rdLe_rfl z0m rfl rfl rfl)) (res_tmp rfl res_nil)) ⟨_, rfl, u, (fun b c hb => y b c ((fun b c hb => hb) b c hb)), slc_nil, a7.pickT [1, 2, 3, 4, 5, 6] rfl rfl⟩
  ·have h := bif_f a2 h
   refine Run.condF' rfl a2 ?_
   refine Run.skip (Run.seq (Run.region ?_))
   refine og (ex_loadA rfl (a1.cells (i := 0) rfl 0 rfl) rdLe_rfl z0m rfl rfl rfl) rfl <| ox rfl (ExG.storeC (c' := (k0 a.1 a.2.1 a.2.2.1 a.2.2.2.1 a.2.2.2.2.1 a.2.2.2.2.2.1 s a.2.2.2.2.2.2.2.1 a.2.2.2.2.2.2.2.2.1)) rfl rfl rfl a1 (i := 7) rfl z9x rfl rfl rfl (ones_cons rfl (ones_cons rfl (ones_cons rfl (ones_cons rfl (ones_cons rfl (ones_cons rfl (ones_cons (slc_one a4) (ones_cons rfl (ones_cons rfl ones_nil))))))))) rfl) ?_
   rintro _ b6 ⟨rfl, (a8 : Has u b6 (([.obj a5 (.row 33 .whole (k0 a.1 a.2.1 a.2.2.1 a.2.2.2.1 a.2.2.2.2.1 a.2.2.2.2.2.1 s a.2.2.2.2.2.2.2.1 a.2.2.2.2.2.2.2.2.1)), .obj q (.row 58 .whole [e, (.int .i64 m), g]), .vec 108 2 d.length e (d.flatMap enc108), .vec 36 10 n.length g p, tb0, tb1, tb2, .obj w (.row 33 .whole (k0 a.1 a.2.1 a.2.2.1 a.2.2.2.1 a.2.2.2.2.1 a.2.2.2.2.2.1 s a.2.2.2.2.2.2.2.1 a.2.2.2.2.2.2.2.2.1))] : List Ent) ++ Hr))⟩
   refine av rfl rfl <| Run.opsEnd ?_
   cases h
   exact Run.ret Tryz.func17 rfl (res_cell rfl (x_load (ex_loadA rfl (a8.cells (i := 7) rfl 0 rfl) rdLe_rfl z0m rfl rfl rfl)) (res_tmp rfl res_nil)) ⟨_, rfl, u, (fun b c hb => y b c ((fun b c hb => hb) b c hb)), a4, a8.pickT [1, 2, 3, 4, 5, 6] rfl rfl⟩

abbrev z19 (p : List UInt8) (g : Int) (d : List S_api_Key) (m : List S_api_Notice) (b : Pos) (e a : SV) (n : List SV) (Fr0 : Rd) (Hr : List Ent) (r : List S_api_Alert) : SV → Mem → Prop := fun s Me => ∃ q1, s = q1 ∧ ∃ F9 : Rd, RdLe Fr0 F9 ∧ ∃ c1 : List SV, Rows (rep33 F9) 9 c1 r ∧ Has F9 Me (([.vec 33 9 r.length q1 c1, .obj b (.row 41 .whole [e, (.int .i64 g), a, (.ptr b 0)]), .vec 166 2 d.length e (d.flatMap z01), .vec 36 10 m.length a n, tb0, tb1, tb2] : List Ent) ++ Hr)

def alert_Board_History_h1 (F : Nat) (g : List UInt8) (a : Int) (d : List S_api_Key) (b : List S_api_Notice) : Option ((List S_api_Alert)) :=
 bnd (alert_Board_alertsOf_h2 F g a d b) fun e =>
 some e

theorem z4s (F : Nat) : ∀ (s : List UInt8) (a : Int) (m : List S_api_Key) (d : List S_api_Notice) (g : Pos) (p e : SV) (n : List SV) (Fr0 : Rd) (Hr : List Ent) (M : Mem) (r : List S_api_Alert) (q : Rows (rep36 Fr0) 10 n d) (hH : Has Fr0 M (([.obj g (.row 41 .whole [p, (.int .i64 a), e, (.ptr g 0)]), .vec 166 2 m.length p (m.flatMap z01), .vec 36 10 d.length e n, tb0, tb1, tb2] : List Ent) ++ Hr)) (h : alert_Board_History_h1 F s a m d = some r), CallsM Tryz.prog 9 [(.ptr g 0), (.str s)] M (z19 s a m d g p e n Fr0 Hr r) := by
 intro s a m d g p e n Fr0 Hr M r q hH h
 refine CallsM.run Tryz.func9 rfl rfl (show Run _ _ _ (z19 s a m d g p e n Fr0 Hr r) _ _ _ from ?_)
 rw [alert_Board_History_h1] at h
 refine Run.seq (Run.region ?_)
 refine av rfl rfl ?_
 refine Run.opsEnd (Run.seq (Run.seq (Run.region ?_)))
 refine mv rfl rfl <| Run.enter wantS_none (ex_call rfl zau zat) Tryz.func35 rfl rfl ?_
 refine Run.seq (Run.region ?_)
 refine av rfl rfl ?_
 refine Run.opsEnd (Run.seq (Run.region ?_))
 refine mv rfl rfl <| og (ex_ptrPNn rfl rfl z8i) rfl <| mv rfl rfl <| gy rfl rfl rfl (ex_move rfl) rfl <| gy rfl rfl rfl (ex_nilP rfl) rfl <| gy rfl rfl rfl (ex_fieldAddr rfl z8a) rfl <| gy rfl rfl rfl (ex_load1 rfl (hH.cells (i := 0) rfl 3 rfl) rdLe_rfl zbs) rfl <| gy rfl rfl rfl (ex_move rfl) rfl <| gy rfl rfl rfl (ex_ptrSame rfl rfl zc4 zc5) rfl <| og (ex_pickT' rfl rfl rfl rfl) rfl <| av rfl rfl <| Run.opsEnd <| Run.retTo Tryz.func35 rfl (res_tmp rfl res_nil) rfl <| og (ex_not rfl) rfl <| Run.opsEnd <| Run.condF' rfl rfl ?_
 refine Run.skip (Run.seq (Run.region ?_))
 refine mv rfl rfl <| mv rfl rfl ?_
 obtain ⟨a3, a2, h⟩ := bnd_some h
 refine Run.callX wantS_none (ex_call rfl zda zcw) rfl (z0r F s a m d g p e n Fr0 ([] ++ Hr) _ _ q hH a2) ?_
 rintro y a4 ⟨_, rfl, a0, w, u, x, (a1 : Has a0 a4 (([.vec 33 9 a3.length y u, .obj g (.row 41 .whole [p, (.int .i64 a), e, (.ptr g 0)]), .vec 166 2 m.length p (m.flatMap z01), .vec 36 10 d.length e n, tb0, tb1, tb2] : List Ent) ++ Hr))⟩
 replace q := q.mono fun _ _ => z02 w
 refine av rfl rfl <| Run.opsEnd ?_
 cases h
 exact Run.ret Tryz.func9 rfl (res_tmp rfl res_nil) ⟨_, rfl, a0, (fun b c hb => w b c ((fun b c hb => hb) b c hb)), u, x, a1.pickT [0, 1, 2, 3, 4, 5, 6] rfl rfl⟩

theorem zgz : makeK Tryz.prog 19 = none := by kernel_rfl
theorem zgo : callable Tryz.prog 19 = true := by kernel_rfl
abbrev z0p (p : List UInt8) (e : Int) (a : List S_api_Key) (m : List S_api_Notice) (n : Pos) (b d : SV) (g : List SV) (Fr0 : Rd) (Hr : List Ent) (r : List S_api_Alert) : SV → Mem → Prop := fun s Me => ∃ q1, s = q1 ∧ ∃ F9 : Rd, RdLe Fr0 F9 ∧ ∃ c1 : List SV, Rows (rep33 F9) 9 c1 r ∧ Has F9 Me (([.vec 33 9 r.length q1 c1, .obj n (.row 58 .whole [b, (.int .i64 e), d]), .vec 108 2 a.length b (a.flatMap enc108), .vec 36 10 m.length d g, tb0, tb1, tb2] : List Ent) ++ Hr)

def ref10_Board_History_h1_1 (F : Nat) (n : List UInt8) (a : Int) (d : List S_api_Key) (e : List S_api_Notice) : Nat → Int → List S_api_Alert → List S_api_Notice → Option ((List S_api_Alert))
 | 0, _, _, _ => none
 | N + 1, v7, g, b =>
  bif (decide (v7 < (b.length : Int))) then
   bnd (idx b v7) fun p =>
   bnd (apd 96 g ([p.Alert] : List S_api_Alert)) fun m =>
   (ref10_Board_History_h1_1 F n a d e N) (w64 (v7 + (1 : Int))) m b
  else
   some g

theorem z47 (F : Nat) (a8 : List UInt8) (d : Int) (a : List S_api_Key) (m : List S_api_Notice) (x : Pos) (b e : SV) (p : List SV) (Fr0 : Rd) (Hr : List Ent) : ∀ (N : Nat), ∀ (v7 : Int) (a0 : List S_api_Alert) (n : List S_api_Notice) (a2 : SV) (y : List SV) (s : SV) (u : List SV) (Fr : Rd) (M : Mem) (r : List S_api_Alert) (a1 : Rows (rep33 Fr) 9 y a0) (w : Rows (rep36 Fr) 10 u n) (a4 : Rows (rep36 Fr) 10 p m) (hfle : RdLe Fr0 Fr) (hH : Has Fr M (([.vec 33 9 a0.length a2 y, .vec 36 10 n.length s u, .obj x (.row 58 .whole [b, (.int .i64 d), e]), .vec 108 2 a.length b (a.flatMap enc108), .vec 36 10 m.length e p, tb0, tb1, tb2] : List Ent) ++ Hr)), ref10_Board_History_h1_1 F a8 d a m N v7 a0 n = some r → Run Tryz.prog ⟨⟨19, [], none⟩, []⟩ 29 (z0p a8 d a m x b e p Fr0 Hr r) [(5, a2), (6, s), (7, (.int .i64 v7))] [codeC Tryz.prog 19 [1, 1, 1, 0, 1, 0, 0], loopC Tryz.prog 19 [1, 1, 1, 0, 1, 0, 0], .inBlock 0, codeC Tryz.prog 19 [1, 1, 1, 1]] M := by
 intro N
 induction N with
 | zero =>
  intro v7 a0 n a2 y s u Fr M r a1 w a4 hfle hH h
  simp [ref10_Board_History_h1_1] at h
 | succ N ih =>
  intro v7 a0 n a2 y s u Fr M r a1 w a4 hfle hH h
  rw [ref10_Board_History_h1_1] at h
  refine Run.seq (Run.seq (Run.region ?_))
  refine mv rfl rfl <| mv rfl rfl <| og (ex_len' rfl (hH.slcR (i := 1) rfl w) z4n) rfl <| og (ex_lss rfl rfl) rfl <| Run.opsEnd ?_
  rcases btf ((decide (v7 < (n.length : Int)))) with hc172 | hc172
  ·have h := bif_t hc172 h
   refine Run.condT' rfl hc172 ?_
   refine Run.skip (Run.seq (Run.block (Run.region ?_)))
   refine mv rfl rfl <| mv rfl rfl <| mv rfl rfl ?_
   obtain ⟨q, a3, h⟩ := bnd_some h
   obtain ⟨c4, c5, b4, a3, b6⟩ := vec_elemR (P := Tryz.prog) (t := 25) (kk := .i64) hH (i := 1) rfl a3 z5c
   obtain ⟨_, b1, a9, ⟨g, c3, rfl, a6, c2⟩⟩ := w.at b6
   refine og (ex_elX rfl rfl a3) rfl <| og (ex_fieldAddr rfl z0a) rfl <| og (ex_loadA rfl ((hH.atR (i := 1) rfl b4 b1 a9).fld (o := 0) rfl) rdLe_rfl z0m rfl rfl rfl) rfl ?_
   have b9 : Rows (rep33 Fr) 9 (r0 q.Alert g) ([q.Alert] : List S_api_Alert) := (Rows.cons (cs := (r0 q.Alert g)) rfl ⟨g, rfl, a6⟩ Rows.nil)
   refine ox rfl (ExG.builtR (z := 9) (c := (r0 q.Alert g)) rfl zeu rfl rfl rfl hH) ?_
   rintro b2 c1 (a5 : Has Fr c1 (([.vec 33 9 ([q.Alert] : List S_api_Alert).length b2 (r0 q.Alert g), .vec 33 9 a0.length a2 y, .vec 36 10 n.length s u, .obj x (.row 58 .whole [b, (.int .i64 d), e]), .vec 108 2 a.length b (a.flatMap enc108), .vec 36 10 m.length e p, tb0, tb1, tb2] : List Ent) ++ Hr))
   obtain ⟨a7, b8, h⟩ := bnd_some h
   refine ox rfl (ExG.appendQ (R := (rep33 Fr)) rfl rfl a5 (i := 1) rfl a1 (fun _ _ => zap) rfl zb4 rfl (a5.slcR (i := 0) rfl b9) (rdLe_rdRow _) b8) ?_
   rintro b0 c0 ⟨b3, b5, (b7 : Has Fr c0 (([.vec 33 9 ([q.Alert] : List S_api_Alert).length b2 (r0 q.Alert g), .vec 33 9 a7.length b0 b3, .vec 36 10 n.length s u, .obj x (.row 58 .whole [b, (.int .i64 d), e]), .vec 108 2 a.length b (a.flatMap enc108), .vec 36 10 m.length e p, tb0, tb1, tb2] : List Ent) ++ Hr))⟩
   refine av rfl rfl ?_
   refine Run.opsEnd (Run.inBlock (Run.region ?_))
   refine mv rfl rfl <| og (ex_add rfl rfl) rfl <| av rfl rfl ?_
   refine Run.opsEnd (Run.inLoop ?_)
   exact Run.pick [5, 6, 7] (ih (w64 (v7 + (1 : Int))) a7 n b0 b3 s u _ _ _ b5 w a4 hfle (b7.pickT [1, 2, 3, 4, 5, 6, 7, 8] rfl rfl) h)
  ·have h := bif_f hc172 h
   refine Run.condF' rfl hc172 ?_
   refine Run.exit rfl (Run.seq (Run.region ?_))
   refine mv rfl rfl <| av rfl rfl <| Run.opsEnd ?_
   cases h
   exact Run.ret Tryz.func19 rfl (res_tmp rfl res_nil) ⟨_, rfl, Fr, hfle, y, a1, hH.pickT [0, 2, 3, 4, 5, 6, 7] rfl rfl⟩

def ref10_Board_History_h1 (F : Nat) (e : List UInt8) (b : Int) (d : List S_api_Key) (a : List S_api_Notice) : Option ((List S_api_Alert)) :=
 bnd (ref10_of_h2 F e a) fun g =>
 ref10_Board_History_h1_1 F e b d a F (0 : Int) ([] : List S_api_Alert) g

theorem z4r (F : Nat) : ∀ (s : List UInt8) (d : Int) (a : List S_api_Key) (m : List S_api_Notice) (p : Pos) (e g : SV) (n : List SV) (Fr0 : Rd) (Hr : List Ent) (M : Mem) (r : List S_api_Alert) (q : Rows (rep36 Fr0) 10 n m) (hH : Has Fr0 M (([.obj p (.row 58 .whole [e, (.int .i64 d), g]), .vec 108 2 a.length e (a.flatMap enc108), .vec 36 10 m.length g n, tb0, tb1, tb2] : List Ent) ++ Hr)) (h : ref10_Board_History_h1 F s d a m = some r), CallsM Tryz.prog 19 [(.ptr p 0), (.str s)] M (z0p s d a m p e g n Fr0 Hr r) := by
 intro s d a m p e g n Fr0 Hr M r q hH h
 refine CallsM.run Tryz.func19 rfl rfl (show Run _ _ _ (z0p s d a m p e g n Fr0 Hr r) _ _ _ from ?_)
 rw [ref10_Board_History_h1] at h
 refine Run.seq (Run.region ?_)
 refine av rfl rfl ?_
 refine Run.opsEnd (Run.seq (Run.region ?_))
 refine av rfl rfl ?_
 refine Run.opsEnd (Run.seq (Run.region ?_))
 refine mv rfl rfl <| og (ex_nilP rfl) rfl <| og (ex_fieldAddr rfl z5u) rfl <| og (ex_load1 rfl (hH.cells (i := 0) rfl 2 rfl) rdLe_rfl z8r) rfl <| mv rfl rfl ?_
 obtain ⟨y, a4, h⟩ := bnd_some h
 refine Run.callX wantS_none (ex_call rfl zfi zel) rfl (z7v F s m g n Fr0 ([.obj p (.row 58 .whole [e, (.int .i64 d), g]), .vec 108 2 a.length e (a.flatMap enc108)] ++ Hr) _ _ q (hH.pickT [2, 3, 4, 5, 0, 1] rfl rfl) a4) ?_
 rintro u a1 ⟨_, rfl, a2, x, w, a0, (a5 : Has a2 a1 (([.vec 36 10 y.length u w, .vec 36 10 m.length g n, tb0, tb1, tb2, .obj p (.row 58 .whole [e, (.int .i64 d), g]), .vec 108 2 a.length e (a.flatMap enc108)] : List Ent) ++ Hr))⟩
 replace q := q.mono fun _ _ => z02 x
 refine av rfl rfl ?_
 refine Run.opsEnd (Run.seq (Run.seq (Run.region ?_)))
 refine av rfl rfl ?_
 refine Run.opsEnd (Run.block (Run.loop ?_))
 have a3 : Has a2 a1 (([.vec 33 9 ([] : List S_api_Alert).length .nils [], .vec 36 10 y.length u w, .vec 36 10 m.length g n, tb0, tb1, tb2, .obj p (.row 58 .whole [e, (.int .i64 d), g]), .vec 108 2 a.length e (a.flatMap enc108)] : List Ent) ++ Hr) := a5.nils 33 9
 exact Run.pick [5, 6, 7] (z47 F s d a m p e g n Fr0 Hr F (0 : Int) ([] : List S_api_Alert) y .nils [] u w _ _ _ Rows.nil a0 q (fun b c hb => x b c ((fun b c hb => hb) b c hb)) (a3.pickT [0, 1, 6, 7, 2, 3, 4, 5] rfl rfl) h)

theorem z4e : planOf Tryz.prog (opsC (atC Tryz.prog 18 [1, 1, 0, 1, 0, 0, 1, 0, 0, 0])) = some [.fl 0, .fl 1, .fl 2, .fl 3, .fl 4, .fl 5, .fl 6, .fl 7, .an 8 [], .fl 9, .sync] := by kernel_rfl
abbrev z39 (r : Bool) : SV → Mem → Prop := fun s _ => s = (.bool r)

def law10_sameAlerts_1 (F : Nat) : Nat → List S_api_Alert → List S_api_Alert → Int → Option (Bool)
 | 0, _, _, _ => none
 | N + 1, v0, v1, v5 =>
  bif (decide (v5 < (v0.length : Int))) then
   bnd (idx v0 v5) fun b =>
   bnd (idx v1 v5) fun a =>
   bnd (law10_same F b a) fun d =>
   bif (!d) then
    some false
   else
    (law10_sameAlerts_1 F N) v0 v1 (w64 (v5 + (1 : Int)))
  else
   some true

theorem z7d (F : Nat) : ∀ (N : Nat), ∀ (v0 v1 : List S_api_Alert) (v5 : Int) (x u : SV) (Fr : Rd) (M : Mem) (r : Bool) (w : Slc Fr 9 (rep33 Fr) x v0) (y : Slc Fr 9 (rep33 Fr) u v1) (hH : Has Fr M []), law10_sameAlerts_1 F N v0 v1 v5 = some r → Run Tryz.prog ⟨⟨18, [], none⟩, []⟩ 27 (z39 r) [(0, x), (1, u), (5, (.int .i64 v5))] [codeC Tryz.prog 18 [1, 1, 0, 1, 0, 0], loopC Tryz.prog 18 [1, 1, 0, 1, 0, 0], .inBlock 0, codeC Tryz.prog 18 [1, 1, 1]] M := by
 intro N
 induction N with
 | zero =>
  intro v0 v1 v5 x u Fr M r w y hH h
  simp [law10_sameAlerts_1] at h
 | succ N ih =>
  intro v0 v1 v5 x u Fr M r w y hH h
  rw [law10_sameAlerts_1] at h
  refine Run.seq (Run.seq (Run.region ?_))
  refine mv rfl rfl <| mv rfl rfl <| og (ex_len' rfl w z9n) rfl <| og (ex_lss rfl rfl) rfl <| Run.opsEnd ?_
  rcases btf ((decide (v5 < (v0.length : Int)))) with hc22 | hc22
  ·have h := bif_t hc22 h
   refine Run.condT' rfl hc22 ?_
   refine Run.skip (Run.seq (Run.block (Run.seq ?_)))
   refine Run.drawG z4e <| df rfl (ex_move rfl) rfl <| df rfl (ex_move rfl) rfl ?_
   obtain ⟨a1, d, h⟩ := bnd_some h
   obtain ⟨a4, a3, _, d, q, ⟨m, rfl, e⟩⟩ := sl_elem (P := Tryz.prog) (t := 43) (kk := .i64) w d zc9
   refine df rfl (ex_elX rfl rfl d) rfl <| df rfl (ex_loadA rfl (hH.ptrF q) rdLe_rfl z0m rfl rfl rfl) rfl <| df rfl (ex_move rfl) rfl <| df rfl (ex_move rfl) rfl ?_
   obtain ⟨a0, b, h⟩ := bnd_some h
   obtain ⟨a6, a5, _, b, s, ⟨n, rfl, g⟩⟩ := sl_elem (P := Tryz.prog) (t := 43) (kk := .i64) y b zc9
   refine df rfl (ex_elX rfl rfl b) rfl <| df rfl (ex_loadA rfl (hH.ptrF s) rdLe_rfl z0m rfl rfl rfl) rfl ?_
   obtain ⟨a2, p, h⟩ := bnd_some h
   refine DrawG.callP rfl wantS_none (ex_call rfl zbu zbz) rfl (z2e F a1 a0 m n _ _ (hH.slcF e) (hH.slcF g) p) st_nil <| df rfl (ex_not rfl) rfl <| DrawG.sync <| DrawG.nil ?_
   rcases btf ((!a2)) with a | a
   ·have h := bif_t a h
    refine Run.condT' rfl a ?_
    refine Run.seq (Run.region ?_)
    refine av rfl rfl <| Run.opsEnd ?_
    cases h
    exact Run.ret Tryz.func18 rfl (res_tmp rfl res_nil) rfl
   ·have h := bif_f a h
    refine Run.condF' rfl a ?_
    refine Run.skip (Run.inBlock (Run.region ?_))
    refine mv rfl rfl <| og (ex_add rfl rfl) rfl <| av rfl rfl ?_
    refine Run.opsEnd (Run.inLoop ?_)
    exact Run.pick [0, 1, 5] (ih v0 v1 (w64 (v5 + (1 : Int))) x u _ _ _ w y hH h)
  ·have h := bif_f hc22 h
   refine Run.condF' rfl hc22 ?_
   refine Run.exit rfl (Run.seq (Run.region ?_))
   refine av rfl rfl <| Run.opsEnd ?_
   cases h
   exact Run.ret Tryz.func18 rfl (res_tmp rfl res_nil) rfl

def law10_sameAlerts (F : Nat) (a0 a1 : List S_api_Alert) : Option (Bool) :=
 bif (!((a0.length : Int) == (a1.length : Int))) then
  some false
 else
  law10_sameAlerts_1 F F a0 a1 (0 : Int)

theorem z7w (F : Nat) (a0 a1 : List S_api_Alert) (s0 s1 : SV) (r : Bool) (M : Mem) (b : Slc (rd M) 9 (rep33 (rd M)) s0 a0) (a : Slc (rd M) 9 (rep33 (rd M)) s1 a1) (h : law10_sameAlerts F a0 a1 = some r) : CallsM Tryz.prog 18 [s0, s1] M (fun s M' => s = (.bool r) ∧ M' = M) := by
 refine CallsM.plain Tryz.func18 rfl rfl rfl (show Run _ _ _ (z39 r) _ _ _ from ?_)
 rw [law10_sameAlerts] at h
 replace b := b.mono (rdLe_frozen M) (fun _ _ => z3l (rdLe_frozen M))
 replace a := a.mono (rdLe_frozen M) (fun _ _ => z3l (rdLe_frozen M))
 have hH := Has.nil (frozen M)
 refine Run.seq (Run.region ?_)
 refine av rfl rfl ?_
 refine Run.opsEnd (Run.seq (Run.seq (Run.region ?_)))
 refine mv rfl rfl <| og (ex_len' rfl b z9n) rfl <| mv rfl rfl <| og (ex_len' rfl a z9n) rfl <| og (ex_neq rfl rfl) rfl <| Run.opsEnd ?_
 rcases btf ((!((a0.length : Int) == (a1.length : Int)))) with hc21 | hc21
 ·have h := bif_t hc21 h
  refine Run.condT' rfl hc21 ?_
  refine Run.seq (Run.region ?_)
  refine av rfl rfl <| Run.opsEnd ?_
  cases h
  exact Run.ret Tryz.func18 rfl (res_tmp rfl res_nil) rfl
 ·have h := bif_f hc21 h
  refine Run.condF' rfl hc21 ?_
  refine Run.skip (Run.seq (Run.seq (Run.region ?_)))
  refine av rfl rfl ?_
  refine Run.opsEnd (Run.block (Run.loop ?_))
  exact Run.pick [0, 1, 5] (z7d F F a0 a1 (0 : Int) s0 s1 _ _ _ b a hH h)

theorem zg7 : makeK Tryz.prog 18 = none := by kernel_rfl
theorem zh4 : callable Tryz.prog 18 = true := by kernel_rfl
abbrev z1e (u : List UInt8) (p d q w e : Int) (m : List Int) (x : Bool) (n : Int) (g : List S_api_Signature) (a b : SV) (Fr0 : Rd) (Hr : List Ent) (r : (List UInt8) × Int × Int × Int × Int × Int × (List Int) × Bool × Int × (List S_api_Signature)) : SV → Mem → Prop := fun s Me => ∃ q1, ∃ q2, s = (.agg (k1 r.1 r.2.1 r.2.2.1 r.2.2.2.1 r.2.2.2.2.1 r.2.2.2.2.2.1 q1 r.2.2.2.2.2.2.2.1 r.2.2.2.2.2.2.2.2.1 q2)) ∧ ∃ F9 : Rd, RdLe Fr0 F9 ∧ Slc F9 1 (FlatR enc3) q1 r.2.2.2.2.2.2.1 ∧ Slc F9 2 (FlatR enc123) q2 r.2.2.2.2.2.2.2.2.2 ∧ Has F9 Me (([tb0, tb1, tb2] : List Ent) ++ Hr)

def alert_copyOfNotice_h2 (F : Nat) (q : List UInt8) (n b p s d : Int) (g : List Int) (u : Bool) (m : Int) (e : List S_api_Signature) : Option ((List UInt8) × Int × Int × Int × Int × Int × (List Int) × Bool × Int × (List S_api_Signature)) :=
 bnd (alert_copyOfAlert F (S_api_Alert.mk q n b (S_api_Chance.mk p s) d g u m)) fun a =>
 bnd (slices_Clone_84 F e) fun w =>
 some (a.Event, a.Version, a.Time, a.Chance.N, a.Chance.Of, a.Grid, a.Cells, a.Withdrawn, a.Before, w)

theorem z23 (F : Nat) : ∀ (y : List UInt8) (x n q u p : Int) (a2 : List Int) (s : Bool) (w : Int) (a1 : List S_api_Signature) (m d : SV) (Fr0 : Rd) (Hr : List Ent) (M : Mem) (r : (List UInt8) × Int × Int × Int × Int × Int × (List Int) × Bool × Int × (List S_api_Signature)) (a8 : Slc Fr0 1 (FlatR enc3) m a2) (a5 : Slc Fr0 2 (FlatR enc123) d a1) (hH : Has Fr0 M (([tb0, tb1, tb2] : List Ent) ++ Hr)) (h : alert_copyOfNotice_h2 F y x n q u p a2 s w a1 = some r), CallsM Tryz.prog 39 [(.agg (k1 y x n q u p m s w d))] M (z1e y x n q u p a2 s w a1 m d Fr0 Hr r) := by
 intro y x n q u p a2 s w a1 m d Fr0 Hr M r a8 a5 hH h
 refine CallsM.run Tryz.func39 rfl rfl (show Run _ _ _ (z1e y x n q u p a2 s w a1 m d Fr0 Hr r) _ _ _ from ?_)
 rw [alert_copyOfNotice_h2] at h
 refine Run.seq (Run.region ?_)
 refine ox rfl (ExG.box rfl rfl hH) ?_
 rintro _ c8 ⟨a3, rfl, (b9 : Has Fr0 c8 (([.obj a3 (.row 36 .whole (k1 y x n q u p m s w d)), tb0, tb1, tb2] : List Ent) ++ Hr))⟩
 refine ox rfl (ExG.new (v := fun b => .ptr b 0) (ex_alloc zb6) b9) ?_
 rintro _ c6 ⟨a4, rfl, (a6 : Has Fr0 c6 (([.obj a4 (.row 36 .whole (k1 [] 0 0 0 0 0 .nils false 0 .nils)), .obj a3 (.row 36 .whole (k1 y x n q u p m s w d)), tb0, tb1, tb2] : List Ent) ++ Hr))⟩
 refine Run.opsEnd (Run.seq ?_)
 refine Run.drawG zbr <| df rfl (ex_fieldAddr rfl z0a) rfl <| df rfl (ex_loadA rfl (a6.cells (i := 1) rfl 0 rfl) rdLe_rfl z0m rfl rfl rfl) rfl <| df rfl (ex_fieldAddr rfl z14) rfl <| df rfl (ex_load1 rfl (a6.cells (i := 1) rfl 9 rfl) rdLe_rfl z82) rfl ?_
 obtain ⟨g, c2, h⟩ := bnd_some h
 refine DrawG.call rfl wantS_none (ex_call rfl zf0 zdx) rfl (z3h F (S_api_Alert.mk y x n (S_api_Chance.mk q u) p a2 s w) m _ _ (a6.slcF a8) c2) ?_
 rintro _ d0 ⟨a, rfl, b8⟩
 have b1 : Has Fr0 d0 (([.vec 3 1 g.Cells.length a (g.Cells.flatMap enc3), .obj a4 (.row 36 .whole (k1 [] 0 0 0 0 0 .nils false 0 .nils)), .obj a3 (.row 36 .whole (k1 y x n q u p m s w d)), tb0, tb1, tb2] : List Ent) ++ Hr) := b8.1 _ _ a6
 refine ⟨(st_cons rfl (ev_ex wantS_none (ex_load1 rfl (b1.cells (i := 2) rfl 9 rfl) rdLe_rfl z82)) rfl rfl (slc_self a5) (st_cons rfl (ev_ex wantS_none (ex_fieldAddr rfl z14)) rfl rfl rfl st_nil)), ?_⟩
 refine df rfl (ex_fieldAddr rfl z0a) rfl ?_
 obtain ⟨a0, c1, h⟩ := bnd_some h
 refine DrawG.call rfl wantS_none (ex_call rfl zhq zgy) rfl (z8j F a1 d _ _ (b1.slcF a5) c1) ?_
 rintro e d1 ⟨_, rfl, c3⟩
 have b3 : Has Fr0 d1 (([.vec 123 2 a0.length e (a0.flatMap enc123), .vec 3 1 g.Cells.length a (g.Cells.flatMap enc3), .obj a4 (.row 36 .whole (k1 [] 0 0 0 0 0 .nils false 0 .nils)), .obj a3 (.row 36 .whole (k1 y x n q u p m s w d)), tb0, tb1, tb2] : List Ent) ++ Hr) := c3.1 _ _ b1
 refine ⟨(st_cons rfl (ev_ex wantS_none (ex_fieldAddr rfl z0a)) rfl rfl rfl st_nil), ?_⟩
 refine DrawG.opX rfl wantS_none rfl (ExG.storeC (c' := (r1 g a d)) rfl rfl rfl b3 (i := 3) rfl z9x rfl rfl rfl (ones_cons rfl (ones_cons rfl (ones_cons rfl (ones_cons rfl (ones_cons rfl (ones_cons rfl (ones_cons (vec_one b3 (i := 1) rfl) (ones_cons rfl (ones_cons rfl ones_nil))))))))) rfl) ?_
 rintro _ d2 ⟨rfl, (b0 : Has Fr0 d2 (([.vec 123 2 a0.length e (a0.flatMap enc123), .vec 3 1 g.Cells.length a (g.Cells.flatMap enc3), .obj a4 (.row 36 .whole (k1 [] 0 0 0 0 0 .nils false 0 .nils)), .obj a3 (.row 36 .whole (r1 g a d)), tb0, tb1, tb2] : List Ent) ++ Hr))⟩
 refine ⟨st_nil, ?_⟩
 refine df rfl (ex_fieldAddr rfl z14) rfl <| DrawG.opX rfl wantS_none rfl (ExG.storeC (c' := (r1 g a e)) rfl rfl (cells_one (vec_one b0 (i := 0) rfl)) b0 (i := 3) rfl zga rfl rfl rfl (ones_cons (vec_one b0 (i := 0) rfl) ones_nil) rfl) ?_
 rintro _ c9 ⟨rfl, (a7 : Has Fr0 c9 (([.vec 123 2 a0.length e (a0.flatMap enc123), .vec 3 1 g.Cells.length a (g.Cells.flatMap enc3), .obj a4 (.row 36 .whole (k1 [] 0 0 0 0 0 .nils false 0 .nils)), .obj a3 (.row 36 .whole (r1 g a e)), tb0, tb1, tb2] : List Ent) ++ Hr))⟩
 refine ⟨st_nil, ?_⟩
 refine DrawG.sync <| DrawG.nil ?_
 refine Run.seq (Run.region ?_)
 refine og (ex_loadA rfl (a7.cells (i := 3) rfl 0 rfl) rdLe_rfl z4b rfl rfl rfl) rfl <| ox rfl (ExG.storeC (c' := (r1 g a e)) rfl rfl rfl a7 (i := 2) rfl zdd rfl rfl rfl (ones_cons rfl (ones_cons rfl (ones_cons rfl (ones_cons rfl (ones_cons rfl (ones_cons rfl (ones_cons (vec_one a7 (i := 1) rfl) (ones_cons rfl (ones_cons rfl (ones_cons (vec_one a7 (i := 0) rfl) ones_nil)))))))))) rfl) ?_
 rintro _ d3 ⟨rfl, (b7 : Has Fr0 d3 (([.vec 123 2 a0.length e (a0.flatMap enc123), .vec 3 1 g.Cells.length a (g.Cells.flatMap enc3), .obj a4 (.row 36 .whole (r1 g a e)), .obj a3 (.row 36 .whole (r1 g a e)), tb0, tb1, tb2] : List Ent) ++ Hr))⟩
 refine Run.opsEnd <| Run.freezeC (t := 2) (i := 1) (io := 2) (j := 6) (enc := enc3) rfl b7 rfl rfl rfl z0i ?_
 intro c5 c4 b5 (c0 : Has c5 c4 (([.vec 123 2 a0.length e (a0.flatMap enc123), .vec 0 0 0 .nils [], .obj a4 (.row 36 .whole (r1 g a e)), .obj a3 (.row 36 .whole (r1 g a e)), tb0, tb1, tb2] : List Ent) ++ Hr)) a9
 refine Run.freezeC (t := 2) (i := 0) (io := 2) (j := 9) (enc := enc123) rfl c0 rfl rfl rfl z12 ?_
 intro b6 c7 b2 (b4 : Has b6 c7 (([.vec 0 0 0 .nils [], .vec 0 0 0 .nils [], .obj a4 (.row 36 .whole (r1 g a e)), .obj a3 (.row 36 .whole (r1 g a e)), tb0, tb1, tb2] : List Ent) ++ Hr)) hf141
 replace a9 := a9.mono b2 (fun _ _ h => h)
 cases h
 exact Run.ret Tryz.func39 rfl (res_cell rfl (x_load (ex_loadA rfl (b4.cells (i := 2) rfl 0 rfl) rdLe_rfl z4b rfl rfl rfl)) res_nil) ⟨_, _, rfl, b6, (fun b c hb => b2 b c ((fun b c hb => b5 b c ((fun b c hb => hb) b c hb)) b c hb)), a9, hf141, b4.pickT [4, 5, 6] rfl rfl⟩

abbrev z26 (a2 : List UInt8) (a5 a1 a3 y x : Int) (n : List Int) (u : Bool) (p : Int) (a4 : List S_api_Signature) (e : Int) (b : List S_api_Key) (q : List S_api_Notice) (g m : SV) (a : Pos) (d a0 : SV) (w : List SV) (Fr0 : Rd) (Hr : List Ent) (r : Int × (List S_api_Notice)) : SV → Mem → Prop := fun s Me => ∃ q1, s = (.int .i64 r.1) ∧ ∃ F9 : Rd, RdLe Fr0 F9 ∧ ∃ c1 : List SV, Rows (rep36 F9) 10 c1 r.2 ∧ Has F9 Me (([.vec 36 10 r.2.length q1 c1, .obj a (.row 41 .whole [d, (.int .i64 e), q1, (.ptr a 0)]), .vec 166 2 b.length d (b.flatMap z01), tb0, tb1, tb2] : List Ent) ++ Hr)

def alert_Board_Post_h4 (F : Nat) (d : List UInt8) (u q s p n : Int) (e : List Int) (m : Bool) (g : Int) (x : List S_api_Signature) (w : Int) (y : List S_api_Key) (b : List S_api_Notice) : Option (Int × (List S_api_Notice)) :=
 bnd (alert_roll_check F (S_alert_roll.mk y w) (S_api_Notice.mk (S_api_Alert.mk d u q (S_api_Chance.mk s p) n e m g) x)) fun a0 =>
 bif (!(a0 == (0 : Int))) then
  some (a0, b)
 else
  bnd (alert_Board_alertsOf_h2 F d w y b) fun a2 =>
  bnd (alert_checkNext F a2 (S_api_Alert.mk d u q (S_api_Chance.mk s p) n e m g)) fun a1 =>
  bif (!(a1 == (0 : Int))) then
   some (a1, b)
  else
   bif (decide ((256 : Int) ≤ (b.length : Int))) then
    some ((7 : Int), b)
   else
    bnd (alert_copyOfNotice_h2 F d u q s p n e m g x) fun a =>
    bnd (apd 120 b ([(S_api_Notice.mk (S_api_Alert.mk a.1 a.2.1 a.2.2.1 (S_api_Chance.mk a.2.2.2.1 a.2.2.2.2.1) a.2.2.2.2.2.1 a.2.2.2.2.2.2.1 a.2.2.2.2.2.2.2.1 a.2.2.2.2.2.2.2.2.1) a.2.2.2.2.2.2.2.2.2)] : List S_api_Notice)) fun a3 =>
    some ((0 : Int), a3)

theorem z61 (F : Nat) : ∀ (s : List UInt8) (a1 u a0 x w : Int) (b0 : List Int) (a2 : Bool) (y : Int) (b3 : List S_api_Signature) (n : Int) (g : List S_api_Key) (a5 : List S_api_Notice) (d p : SV) (e : Pos) (m q : SV) (a3 : List SV) (Fr0 : Rd) (Hr : List Ent) (M : Mem) (r : Int × (List S_api_Notice)) (a6 : Slc Fr0 1 (FlatR enc3) d b0) (a9 : Slc Fr0 2 (FlatR enc123) p b3) (a4 : Rows (rep36 Fr0) 10 a3 a5) (hH : Has Fr0 M (([.obj e (.row 41 .whole [m, (.int .i64 n), q, (.ptr e 0)]), .vec 166 2 g.length m (g.flatMap z01), .vec 36 10 a5.length q a3, tb0, tb1, tb2] : List Ent) ++ Hr)) (h : alert_Board_Post_h4 F s a1 u a0 x w b0 a2 y b3 n g a5 = some r), CallsM Tryz.prog 7 [(.ptr e 0), (.agg (k1 s a1 u a0 x w d a2 y p))] M (z26 s a1 u a0 x w b0 a2 y b3 n g a5 d p e m q a3 Fr0 Hr r) := by
 intro s a1 u a0 x w b0 a2 y b3 n g a5 d p e m q a3 Fr0 Hr M r a6 a9 a4 hH h
 refine CallsM.run Tryz.func7 rfl rfl (show Run _ _ _ (z26 s a1 u a0 x w b0 a2 y b3 n g a5 d p e m q a3 Fr0 Hr r) _ _ _ from ?_)
 rw [alert_Board_Post_h4] at h
 refine Run.seq (Run.region ?_)
 refine ox rfl (ExG.box rfl rfl hH) ?_
 rintro _ e0 ⟨b8, rfl, (a8 : Has Fr0 e0 (([.obj b8 (.row 36 .whole (k1 s a1 u a0 x w d a2 y p)), .obj e (.row 41 .whole [m, (.int .i64 n), q, (.ptr e 0)]), .vec 166 2 g.length m (g.flatMap z01), .vec 36 10 a5.length q a3, tb0, tb1, tb2] : List Ent) ++ Hr))⟩
 refine av rfl rfl ?_
 refine Run.opsEnd (Run.seq (Run.seq (Run.region ?_)))
 refine mv rfl rfl <| Run.enter wantS_none (ex_call rfl zau zat) Tryz.func35 rfl rfl ?_
 refine Run.seq (Run.region ?_)
 refine av rfl rfl ?_
 refine Run.opsEnd (Run.seq (Run.region ?_))
 refine mv rfl rfl <| og (ex_ptrPNn rfl rfl z8i) rfl <| mv rfl rfl <| gy rfl rfl rfl (ex_move rfl) rfl <| gy rfl rfl rfl (ex_nilP rfl) rfl <| gy rfl rfl rfl (ex_fieldAddr rfl z8a) rfl <| gy rfl rfl rfl (ex_load1 rfl (a8.cells (i := 1) rfl 3 rfl) rdLe_rfl zbs) rfl <| gy rfl rfl rfl (ex_move rfl) rfl <| gy rfl rfl rfl (ex_ptrSame rfl rfl zc4 zc5) rfl <| og (ex_pickT' rfl rfl rfl rfl) rfl <| av rfl rfl <| Run.opsEnd <| Run.retTo Tryz.func35 rfl (res_tmp rfl res_nil) rfl <| og (ex_not rfl) rfl <| Run.opsEnd <| Run.condF' rfl rfl ?_
 refine Run.skip (Run.seq (Run.seq ?_))
 refine Run.drawG zav <| df rfl (ex_move rfl) rfl <| df rfl (ex_nilP rfl) rfl <| df rfl (ex_fieldAddr rfl zd2) rfl <| df rfl (ex_loadA rfl (a8.cells (i := 1) rfl 0 rfl) rdLe_rfl zd5 rfl rfl rfl) rfl <| df rfl (ex_loadA rfl (a8.cells (i := 0) rfl 0 rfl) rdLe_rfl z4b rfl rfl rfl) rfl ?_
 obtain ⟨e1, d3, h⟩ := bnd_some h
 refine DrawG.callP rfl wantS_none (ex_call rfl zh8 zhi) rfl (z8d F (S_alert_roll.mk g n) (S_api_Notice.mk (S_api_Alert.mk s a1 u (S_api_Chance.mk a0 x) w b0 a2 y) b3) m d p _ _ (a8.slc (i := 2) rfl z3p) (a8.slcF a6) (a8.slcF a9) (zal a8 (List.mem_of_getElem? (i := 4) rfl) (List.mem_of_getElem? (i := 5) rfl) (List.mem_of_getElem? (i := 6) rfl)) d3) st_nil <| df rfl (ex_assign rfl) rfl <| DrawG.sync <| DrawG.nil ?_
 refine Run.seq (Run.region ?_)
 refine mv rfl rfl <| og (ex_neq rfl rfl) rfl <| Run.opsEnd ?_
 rcases btf ((!(e1 == (0 : Int)))) with hc121 | hc121
 ·have h := bif_t hc121 h
  refine Run.condT' rfl hc121 ?_
  refine Run.seq (Run.region ?_)
  refine mv rfl rfl <| av rfl rfl <| Run.opsEnd ?_
  cases h
  exact Run.ret Tryz.func7 rfl (res_tmp rfl res_nil) ⟨_, rfl, Fr0, (fun b c hb => hb), a3, a4, a8.pickT [3, 1, 2, 4, 5, 6] rfl rfl⟩
 ·have h := bif_f hc121 h
  refine Run.condF' rfl hc121 ?_
  refine Run.skip (Run.seq (Run.seq ?_))
  refine Run.drawG za4 <| df rfl (ex_move rfl) rfl <| df rfl (ex_fieldAddr rfl z0a) rfl <| df rfl (ex_fieldAddr rfl z10) rfl <| df rfl (ex_load1 rfl (a8.cells (i := 0) rfl 0 rfl) rdLe_rfl zam) rfl <| df rfl (ex_fieldAddr rfl z0a) rfl <| df rfl (ex_loadA rfl (a8.cells (i := 0) rfl 0 rfl) rdLe_rfl z0m rfl rfl rfl) rfl ?_
  obtain ⟨b9, d8, h⟩ := bnd_some h
  refine DrawG.call rfl wantS_none (ex_call rfl zda zcw) rfl (z0r F s n g a5 e m q a3 Fr0 ([.obj b8 (.row 36 .whole (k1 s a1 u a0 x w d a2 y p))] ++ Hr) _ _ a4 (a8.pickT [1, 2, 3, 4, 5, 6, 0] rfl rfl) d8) ?_
  rintro b2 e4 ⟨_, rfl, c5, b6, b5, c1, (a7 : Has c5 e4 (([.vec 33 9 b9.length b2 b5, .obj e (.row 41 .whole [m, (.int .i64 n), q, (.ptr e 0)]), .vec 166 2 g.length m (g.flatMap z01), .vec 36 10 a5.length q a3, tb0, tb1, tb2, .obj b8 (.row 36 .whole (k1 s a1 u a0 x w d a2 y p))] : List Ent) ++ Hr))⟩
  replace a6 := a6.mono b6 (fun _ _ h => h)
  replace a9 := a9.mono b6 (fun _ _ h => h)
  replace a4 := a4.mono fun _ _ => z02 b6
  refine ⟨(st_cons rfl (ev_ex wantS_none (ex_loadA rfl (a7.cells (i := 7) rfl 0 rfl) rdLe_rfl z0m rfl rfl rfl)) rfl rfl (self_agg (self_cons rfl (self_cons rfl (self_cons rfl (self_cons rfl (self_cons rfl (self_cons rfl (self_cons (slc_self a6) (self_cons rfl (self_cons rfl self_nil)))))))))) (st_cons rfl (ev_ex wantS_none (ex_fieldAddr rfl z0a)) rfl rfl rfl st_nil)), ?_⟩
  obtain ⟨e6, d4, h⟩ := bnd_some h
  refine DrawG.callP rfl wantS_none (ex_call rfl zgp zhd) rfl (z8f F b9 (S_api_Alert.mk s a1 u (S_api_Chance.mk a0 x) w b0 a2 y) b2 d _ _ (((a7.slcR (i := 0) rfl c1)).mono (fun _ _ h => h) (fun _ _ => z3l a7.le)) (a7.slcF a6) (zal a7 (List.mem_of_getElem? (i := 4) rfl) (List.mem_of_getElem? (i := 5) rfl) (List.mem_of_getElem? (i := 6) rfl)) d4) st_nil <| df rfl (ex_assign rfl) rfl <| DrawG.sync <| DrawG.nil ?_
  refine Run.seq (Run.region ?_)
  refine mv rfl rfl <| og (ex_neq rfl rfl) rfl <| Run.opsEnd ?_
  rcases btf ((!(e6 == (0 : Int)))) with hc127 | hc127
  ·have h := bif_t hc127 h
   refine Run.condT' rfl hc127 ?_
   refine Run.seq (Run.region ?_)
   refine mv rfl rfl <| av rfl rfl <| Run.opsEnd ?_
   cases h
   exact Run.ret Tryz.func7 rfl (res_tmp rfl res_nil) ⟨_, rfl, c5, (fun b c hb => b6 b c ((fun b c hb => hb) b c hb)), a3, a4, a7.pickT [3, 1, 2, 4, 5, 6] rfl rfl⟩
  ·have h := bif_f hc127 h
   refine Run.condF' rfl hc127 ?_
   refine Run.skip (Run.seq (Run.seq (Run.region ?_)))
   refine mv rfl rfl <| og (ex_nilP rfl) rfl <| og (ex_fieldAddr rfl z8c) rfl <| og (ex_load1 rfl (a7.cells (i := 1) rfl 2 rfl) rdLe_rfl z8r) rfl <| og (ex_len' rfl (a7.slcR (i := 3) rfl a4) z4n) rfl <| og (ex_geq rfl rfl) rfl <| Run.opsEnd ?_
   rcases btf ((decide ((256 : Int) ≤ (a5.length : Int)))) with hc128 | hc128
   ·have h := bif_t hc128 h
    refine Run.condT' rfl hc128 ?_
    refine Run.seq (Run.region ?_)
    refine av rfl rfl <| Run.opsEnd ?_
    cases h
    exact Run.ret Tryz.func7 rfl (res_tmp rfl res_nil) ⟨_, rfl, c5, (fun b c hb => b6 b c ((fun b c hb => hb) b c hb)), a3, a4, a7.pickT [3, 1, 2, 4, 5, 6] rfl rfl⟩
   ·have h := bif_f hc128 h
    refine Run.condF' rfl hc128 ?_
    refine Run.skip (Run.seq ?_)
    refine Run.drawG z94 <| df rfl (ex_move rfl) rfl <| df rfl (ex_move rfl) rfl <| df rfl (ex_nilP rfl) rfl <| df rfl (ex_fieldAddr rfl z8c) rfl <| df rfl (ex_load1 rfl (a7.cells (i := 1) rfl 2 rfl) rdLe_rfl z8r) rfl <| df rfl (ex_loadA rfl (a7.cells (i := 7) rfl 0 rfl) rdLe_rfl z4b rfl rfl rfl) rfl ?_
    obtain ⟨a, d6, h⟩ := bnd_some h
    refine DrawG.call rfl wantS_none (ex_call rfl zek zf7) rfl (z23 F s a1 u a0 x w b0 a2 y b3 d p c5 ([.vec 33 9 b9.length b2 b5, .obj e (.row 41 .whole [m, (.int .i64 n), q, (.ptr e 0)]), .vec 166 2 g.length m (g.flatMap z01), .vec 36 10 a5.length q a3, .obj b8 (.row 36 .whole (k1 s a1 u a0 x w d a2 y p))] ++ Hr) _ _ a6 a9 (a7.pickT [4, 5, 6, 0, 1, 2, 3, 7] rfl rfl) d6) ?_
    rintro _ e5 ⟨b4, b1, rfl, c0, b7, c9, d0, (c4 : Has c0 e5 (([tb0, tb1, tb2, .vec 33 9 b9.length b2 b5, .obj e (.row 41 .whole [m, (.int .i64 n), q, (.ptr e 0)]), .vec 166 2 g.length m (g.flatMap z01), .vec 36 10 a5.length q a3, .obj b8 (.row 36 .whole (k1 s a1 u a0 x w d a2 y p))] : List Ent) ++ Hr))⟩
    replace a6 := a6.mono b7 (fun _ _ h => h)
    replace a9 := a9.mono b7 (fun _ _ h => h)
    replace a4 := a4.mono fun _ _ => z02 b7
    replace c1 := c1.mono fun _ _ => z3l b7
    refine ⟨(st_cons rfl (ev_ex wantS_none (ex_load1 rfl (c4.cells (i := 4) rfl 2 rfl) rdLe_rfl z8r)) rfl rfl (blk_self c4 (i := 6) rfl) (st_cons rfl (ev_ex wantS_none (ex_fieldAddr rfl z8c)) rfl rfl rfl (st_cons rfl (ev_ex wantS_none (ex_nilP rfl)) rfl rfl rfl (st_cons rfl (ev_ex wantS_none (ex_move rfl)) rfl rfl rfl (st_cons rfl (ev_ex wantS_none (ex_move rfl)) rfl rfl rfl st_nil))))), ?_⟩
    have d2 : Rows (rep36 c0) 10 (k1 a.1 a.2.1 a.2.2.1 a.2.2.2.1 a.2.2.2.2.1 a.2.2.2.2.2.1 b4 a.2.2.2.2.2.2.2.1 a.2.2.2.2.2.2.2.2.1 b1) ([(S_api_Notice.mk (S_api_Alert.mk a.1 a.2.1 a.2.2.1 (S_api_Chance.mk a.2.2.2.1 a.2.2.2.2.1) a.2.2.2.2.2.1 a.2.2.2.2.2.2.1 a.2.2.2.2.2.2.2.1 a.2.2.2.2.2.2.2.2.1) a.2.2.2.2.2.2.2.2.2)] : List S_api_Notice) := (Rows.cons (cs := (k1 a.1 a.2.1 a.2.2.1 a.2.2.2.1 a.2.2.2.2.1 a.2.2.2.2.2.1 b4 a.2.2.2.2.2.2.2.1 a.2.2.2.2.2.2.2.2.1 b1)) rfl ⟨b4, b1, rfl, c9, d0⟩ Rows.nil)
    refine DrawG.opX rfl wantS_none rfl (ExG.builtR (z := 10) (c := (k1 a.1 a.2.1 a.2.2.1 a.2.2.2.1 a.2.2.2.2.1 a.2.2.2.2.2.1 b4 a.2.2.2.2.2.2.2.1 a.2.2.2.2.2.2.2.2.1 b1)) rfl zbv rfl rfl rfl c4) ?_
    rintro c7 e7 (c2 : Has c0 e7 (([.vec 36 10 ([(S_api_Notice.mk (S_api_Alert.mk a.1 a.2.1 a.2.2.1 (S_api_Chance.mk a.2.2.2.1 a.2.2.2.2.1) a.2.2.2.2.2.1 a.2.2.2.2.2.2.1 a.2.2.2.2.2.2.2.1 a.2.2.2.2.2.2.2.2.1) a.2.2.2.2.2.2.2.2.2)] : List S_api_Notice).length c7 (k1 a.1 a.2.1 a.2.2.1 a.2.2.2.1 a.2.2.2.2.1 a.2.2.2.2.2.1 b4 a.2.2.2.2.2.2.2.1 a.2.2.2.2.2.2.2.2.1 b1), tb0, tb1, tb2, .vec 33 9 b9.length b2 b5, .obj e (.row 41 .whole [m, (.int .i64 n), q, (.ptr e 0)]), .vec 166 2 g.length m (g.flatMap z01), .vec 36 10 a5.length q a3, .obj b8 (.row 36 .whole (k1 s a1 u a0 x w d a2 y p))] : List Ent) ++ Hr))
    refine ⟨(st_cons rfl (ev_ex wantS_none (ex_load1 rfl (c2.cells (i := 5) rfl 2 rfl) rdLe_rfl z8r)) rfl rfl (blk_self c2 (i := 7) rfl) (st_cons rfl (ev_ex wantS_none (ex_fieldAddr rfl z8c)) rfl rfl rfl (st_cons rfl (ev_ex wantS_none (ex_nilP rfl)) rfl rfl rfl (st_cons rfl (ev_ex wantS_none (ex_move rfl)) rfl rfl rfl (st_cons rfl (ev_ex wantS_none (ex_move rfl)) rfl rfl rfl st_nil))))), ?_⟩
    obtain ⟨d1, d9, h⟩ := bnd_some h
    refine DrawG.opX rfl wantS_none rfl (ExG.appendQ (R := (rep36 c0)) rfl rfl c2 (i := 7) rfl a4 (fun _ _ => z4x) rfl z73 rfl (c2.slcR (i := 0) rfl d2) (rdLe_rdRow _) d9) ?_
    rintro c6 e2 ⟨c8, d7, (c3 : Has c0 e2 (([.vec 36 10 ([(S_api_Notice.mk (S_api_Alert.mk a.1 a.2.1 a.2.2.1 (S_api_Chance.mk a.2.2.2.1 a.2.2.2.2.1) a.2.2.2.2.2.1 a.2.2.2.2.2.2.1 a.2.2.2.2.2.2.2.1 a.2.2.2.2.2.2.2.2.1) a.2.2.2.2.2.2.2.2.2)] : List S_api_Notice).length c7 (k1 a.1 a.2.1 a.2.2.1 a.2.2.2.1 a.2.2.2.2.1 a.2.2.2.2.2.1 b4 a.2.2.2.2.2.2.2.1 a.2.2.2.2.2.2.2.2.1 b1), tb0, tb1, tb2, .vec 33 9 b9.length b2 b5, .obj e (.row 41 .whole [m, (.int .i64 n), q, (.ptr e 0)]), .vec 166 2 g.length m (g.flatMap z01), .vec 36 10 d1.length c6 c8, .obj b8 (.row 36 .whole (k1 s a1 u a0 x w d a2 y p))] : List Ent) ++ Hr))⟩
    refine ⟨(st_cons rfl (ev_ex wantS_none (ex_move rfl)) rfl rfl rfl st_nil), ?_⟩
    refine df rfl (ex_nilP rfl) rfl <| df rfl (ex_fieldAddr rfl z8c) rfl <| DrawG.opX rfl wantS_none rfl (ExG.storeC (c' := [m, (.int .i64 n), c6, (.ptr e 0)]) rfl rfl (cells_one (vec_one c3 (i := 7) rfl)) c3 (i := 5) rfl zhs rfl rfl rfl (ones_cons (vec_one c3 (i := 7) rfl) ones_nil) rfl) ?_
    rintro _ e3 ⟨rfl, (d5 : Has c0 e3 (([.vec 36 10 ([(S_api_Notice.mk (S_api_Alert.mk a.1 a.2.1 a.2.2.1 (S_api_Chance.mk a.2.2.2.1 a.2.2.2.2.1) a.2.2.2.2.2.1 a.2.2.2.2.2.2.1 a.2.2.2.2.2.2.2.1 a.2.2.2.2.2.2.2.2.1) a.2.2.2.2.2.2.2.2.2)] : List S_api_Notice).length c7 (k1 a.1 a.2.1 a.2.2.1 a.2.2.2.1 a.2.2.2.2.1 a.2.2.2.2.2.1 b4 a.2.2.2.2.2.2.2.1 a.2.2.2.2.2.2.2.2.1 b1), tb0, tb1, tb2, .vec 33 9 b9.length b2 b5, .obj e (.row 41 .whole [m, (.int .i64 n), c6, (.ptr e 0)]), .vec 166 2 g.length m (g.flatMap z01), .vec 36 10 d1.length c6 c8, .obj b8 (.row 36 .whole (k1 s a1 u a0 x w d a2 y p))] : List Ent) ++ Hr))⟩
    refine ⟨st_nil, ?_⟩
    refine DrawG.sync <| DrawG.nil ?_
    refine Run.seq (Run.region ?_)
    refine av rfl rfl <| Run.opsEnd ?_
    cases h
    exact Run.ret Tryz.func7 rfl (res_tmp rfl res_nil) ⟨_, rfl, c0, (fun b c hb => b7 b c ((fun b c hb => b6 b c ((fun b c hb => hb) b c hb)) b c hb)), c8, d7, d5.pickT [7, 5, 6, 1, 2, 3] rfl rfl⟩

abbrev z2i (u : List UInt8) (p d q w e : Int) (m : List Int) (x : Bool) (n : Int) (g : List S_api_Signature) (a b : SV) (Fr0 : Rd) (Hr : List Ent) (r : (List UInt8) × Int × Int × Int × Int × Int × (List Int) × Bool × Int × (List S_api_Signature)) : SV → Mem → Prop := fun s Me => ∃ q1, ∃ q2, s = (.agg (k1 r.1 r.2.1 r.2.2.1 r.2.2.2.1 r.2.2.2.2.1 r.2.2.2.2.2.1 q1 r.2.2.2.2.2.2.2.1 r.2.2.2.2.2.2.2.2.1 q2)) ∧ ∃ F9 : Rd, RdLe Fr0 F9 ∧ Slc F9 1 (FlatR enc3) q1 r.2.2.2.2.2.2.1 ∧ Slc F9 2 (FlatR enc123) q2 r.2.2.2.2.2.2.2.2.2 ∧ Has F9 Me (([tb0, tb1, tb2] : List Ent) ++ Hr)

def ref10_OwnNotice_h3 (F : Nat) (p : List UInt8) (m a n q b : Int) (e : List Int) (s : Bool) (g : Int) (d : List S_api_Signature) : Option ((List UInt8) × Int × Int × Int × Int × Int × (List Int) × Bool × Int × (List S_api_Signature)) :=
 bnd (apd 16 ([] : List S_api_Signature) d) fun u =>
 bnd (ref00_OwnInts F e) fun w =>
 some (p, m, a, n, q, b, w, s, g, u)

theorem z6z (F : Nat) : ∀ (q : List UInt8) (p a e m d : Int) (a2 : List Int) (g : Bool) (n : Int) (a3 : List S_api_Signature) (s y : SV) (Fr0 : Rd) (Hr : List Ent) (M : Mem) (r : (List UInt8) × Int × Int × Int × Int × Int × (List Int) × Bool × Int × (List S_api_Signature)) (a6 : Slc Fr0 1 (FlatR enc3) s a2) (a7 : Slc Fr0 2 (FlatR enc123) y a3) (hH : Has Fr0 M (([tb0, tb1, tb2] : List Ent) ++ Hr)) (h : ref10_OwnNotice_h3 F q p a e m d a2 g n a3 = some r), CallsM Tryz.prog 15 [(.agg (k1 q p a e m d s g n y))] M (z2i q p a e m d a2 g n a3 s y Fr0 Hr r) := by
 intro q p a e m d a2 g n a3 s y Fr0 Hr M r a6 a7 hH h
 refine CallsM.run Tryz.func15 rfl rfl (show Run _ _ _ (z2i q p a e m d a2 g n a3 s y Fr0 Hr r) _ _ _ from ?_)
 rw [ref10_OwnNotice_h3] at h
 refine Run.seq (Run.region ?_)
 refine ox rfl (ExG.box rfl rfl hH) ?_
 rintro _ c9 ⟨a0, rfl, (c3 : Has Fr0 c9 (([.obj a0 (.row 36 .whole (k1 q p a e m d s g n y)), tb0, tb1, tb2] : List Ent) ++ Hr))⟩
 refine ox rfl (ExG.new (v := fun b => .ptr b 0) (ex_alloc zb6) c3) ?_
 rintro _ c0 ⟨a1, rfl, (b8 : Has Fr0 c0 (([.obj a1 (.row 36 .whole (k1 [] 0 0 0 0 0 .nils false 0 .nils)), .obj a0 (.row 36 .whole (k1 q p a e m d s g n y)), tb0, tb1, tb2] : List Ent) ++ Hr))⟩
 refine Run.opsEnd (Run.seq (Run.region ?_))
 refine av rfl rfl ?_
 refine Run.opsEnd (Run.seq (Run.region ?_))
 refine mv rfl rfl <| og (ex_fieldAddr rfl z14) rfl <| og (ex_load1 rfl (b8.cells (i := 1) rfl 9 rfl) rdLe_rfl z82) rfl ?_
 obtain ⟨x, c6, h⟩ := bnd_some h
 have b5 : Has Fr0 c0 (([.vec 123 2 ([] : List S_api_Signature).length .nils (([] : List S_api_Signature).flatMap enc123), .obj a1 (.row 36 .whole (k1 [] 0 0 0 0 0 .nils false 0 .nils)), .obj a0 (.row 36 .whole (k1 q p a e m d s g n y)), tb0, tb1, tb2] : List Ent) ++ Hr) := b8.nils 123 2
 refine ox rfl (ExG.append rfl rfl b5 (i := 0) rfl z12 rfl z7x zaj rfl (len_slc a7) (first_slc a7 (rdLe_roF b5) z12) c6) ?_
 rintro w d0 (b1 : Has Fr0 d0 (([.vec 123 2 x.length w (x.flatMap enc123), .obj a1 (.row 36 .whole (k1 [] 0 0 0 0 0 .nils false 0 .nils)), .obj a0 (.row 36 .whole (k1 q p a e m d s g n y)), tb0, tb1, tb2] : List Ent) ++ Hr))
 refine og (ex_fieldAddr rfl z14) rfl <| ox rfl (ExG.storeC (c' := (k1 q p a e m d s g n w)) rfl rfl (cells_one (vec_one b1 (i := 0) rfl)) b1 (i := 2) rfl zga rfl rfl rfl (ones_cons (vec_one b1 (i := 0) rfl) ones_nil) rfl) ?_
 rintro _ d1 ⟨rfl, (b6 : Has Fr0 d1 (([.vec 123 2 x.length w (x.flatMap enc123), .obj a1 (.row 36 .whole (k1 [] 0 0 0 0 0 .nils false 0 .nils)), .obj a0 (.row 36 .whole (k1 q p a e m d s g n w)), tb0, tb1, tb2] : List Ent) ++ Hr))⟩
 refine Run.opsEnd (Run.seq (Run.region ?_))
 refine og (ex_fieldAddr rfl z0a) rfl <| og (ex_loadA rfl (b6.cells (i := 2) rfl 0 rfl) rdLe_rfl z0m rfl rfl rfl) rfl <| ox rfl (ExG.new (v := fun b => .ptr b 0) (ex_alloc z3v) b6) ?_
 rintro _ d4 ⟨a4, rfl, (c8 : Has Fr0 d4 (([.obj a4 (.row 33 .whole (k0 [] 0 0 0 0 0 .nils false 0)), .vec 123 2 x.length w (x.flatMap enc123), .obj a1 (.row 36 .whole (k1 [] 0 0 0 0 0 .nils false 0 .nils)), .obj a0 (.row 36 .whole (k1 q p a e m d s g n w)), tb0, tb1, tb2] : List Ent) ++ Hr))⟩
 refine ox rfl (ExG.storeC (c' := (k0 q p a e m d s g n)) rfl rfl rfl c8 (i := 0) rfl z9x rfl rfl rfl (ones_cons rfl (ones_cons rfl (ones_cons rfl (ones_cons rfl (ones_cons rfl (ones_cons rfl (ones_cons (slc_one a6) (ones_cons rfl (ones_cons rfl ones_nil))))))))) rfl) ?_
 rintro _ d5 ⟨rfl, (b2 : Has Fr0 d5 (([.obj a4 (.row 33 .whole (k0 q p a e m d s g n)), .vec 123 2 x.length w (x.flatMap enc123), .obj a1 (.row 36 .whole (k1 [] 0 0 0 0 0 .nils false 0 .nils)), .obj a0 (.row 36 .whole (k1 q p a e m d s g n w)), tb0, tb1, tb2] : List Ent) ++ Hr))⟩
 refine Run.opsEnd (Run.seq (Run.region ?_))
 refine og (ex_fieldAddr rfl z16) rfl <| og (ex_load1 rfl (b2.cells (i := 0) rfl 6 rfl) rdLe_rfl z7y) rfl ?_
 obtain ⟨a5, c5, h⟩ := bnd_some h
 refine Run.callX wantS_none (ex_call rfl zfn zfa) rfl (z5v F a2 s _ _ (b2.slcF a6) c5) ?_
 rintro u e0 ⟨_, rfl, c2⟩
 have a9 : Has Fr0 e0 (([.vec 3 1 a5.length u (a5.flatMap enc3), .obj a4 (.row 33 .whole (k0 q p a e m d s g n)), .vec 123 2 x.length w (x.flatMap enc123), .obj a1 (.row 36 .whole (k1 [] 0 0 0 0 0 .nils false 0 .nils)), .obj a0 (.row 36 .whole (k1 q p a e m d s g n w)), tb0, tb1, tb2] : List Ent) ++ Hr) := c2.1 _ _ b2
 refine og (ex_fieldAddr rfl z16) rfl <| ox rfl (ExG.storeC (c' := (k0 q p a e m d u g n)) rfl rfl (cells_one (vec_one a9 (i := 0) rfl)) a9 (i := 1) rfl zhl rfl rfl rfl (ones_cons (vec_one a9 (i := 0) rfl) ones_nil) rfl) ?_
 rintro _ d6 ⟨rfl, (b3 : Has Fr0 d6 (([.vec 3 1 a5.length u (a5.flatMap enc3), .obj a4 (.row 33 .whole (k0 q p a e m d u g n)), .vec 123 2 x.length w (x.flatMap enc123), .obj a1 (.row 36 .whole (k1 [] 0 0 0 0 0 .nils false 0 .nils)), .obj a0 (.row 36 .whole (k1 q p a e m d s g n w)), tb0, tb1, tb2] : List Ent) ++ Hr))⟩
 refine Run.opsEnd (Run.seq (Run.region ?_))
 refine og (ex_loadA rfl (b3.cells (i := 1) rfl 0 rfl) rdLe_rfl z0m rfl rfl rfl) rfl <| og (ex_fieldAddr rfl z0a) rfl <| ox rfl (ExG.storeC (c' := (k1 q p a e m d u g n w)) rfl rfl rfl b3 (i := 4) rfl z9x rfl rfl rfl (ones_cons rfl (ones_cons rfl (ones_cons rfl (ones_cons rfl (ones_cons rfl (ones_cons rfl (ones_cons (vec_one b3 (i := 0) rfl) (ones_cons rfl (ones_cons rfl ones_nil))))))))) rfl) ?_
 rintro _ d9 ⟨rfl, (a8 : Has Fr0 d9 (([.vec 3 1 a5.length u (a5.flatMap enc3), .obj a4 (.row 33 .whole (k0 q p a e m d u g n)), .vec 123 2 x.length w (x.flatMap enc123), .obj a1 (.row 36 .whole (k1 [] 0 0 0 0 0 .nils false 0 .nils)), .obj a0 (.row 36 .whole (k1 q p a e m d u g n w)), tb0, tb1, tb2] : List Ent) ++ Hr))⟩
 refine Run.opsEnd (Run.seq (Run.region ?_))
 refine og (ex_loadA rfl (a8.cells (i := 4) rfl 0 rfl) rdLe_rfl z4b rfl rfl rfl) rfl <| ox rfl (ExG.storeC (c' := (k1 q p a e m d u g n w)) rfl rfl rfl a8 (i := 3) rfl zdd rfl rfl rfl (ones_cons rfl (ones_cons rfl (ones_cons rfl (ones_cons rfl (ones_cons rfl (ones_cons rfl (ones_cons (vec_one a8 (i := 0) rfl) (ones_cons rfl (ones_cons rfl (ones_cons (vec_one a8 (i := 2) rfl) ones_nil)))))))))) rfl) ?_
 rintro _ d7 ⟨rfl, (c7 : Has Fr0 d7 (([.vec 3 1 a5.length u (a5.flatMap enc3), .obj a4 (.row 33 .whole (k0 q p a e m d u g n)), .vec 123 2 x.length w (x.flatMap enc123), .obj a1 (.row 36 .whole (k1 q p a e m d u g n w)), .obj a0 (.row 36 .whole (k1 q p a e m d u g n w)), tb0, tb1, tb2] : List Ent) ++ Hr))⟩
 refine Run.opsEnd <| Run.freezeC (t := 2) (i := 0) (io := 3) (j := 6) (enc := enc3) rfl c7 rfl rfl rfl z0i ?_
 intro d2 d3 c1 (c4 : Has d2 d3 (([.vec 0 0 0 .nils [], .obj a4 (.row 33 .whole (k0 q p a e m d u g n)), .vec 123 2 x.length w (x.flatMap enc123), .obj a1 (.row 36 .whole (k1 q p a e m d u g n w)), .obj a0 (.row 36 .whole (k1 q p a e m d u g n w)), tb0, tb1, tb2] : List Ent) ++ Hr)) b0
 refine Run.freezeC (t := 2) (i := 2) (io := 3) (j := 9) (enc := enc123) rfl c4 rfl rfl rfl z12 ?_
 intro b9 d8 b4 (b7 : Has b9 d8 (([.vec 0 0 0 .nils [], .obj a4 (.row 33 .whole (k0 q p a e m d u g n)), .vec 0 0 0 .nils [], .obj a1 (.row 36 .whole (k1 q p a e m d u g n w)), .obj a0 (.row 36 .whole (k1 q p a e m d u g n w)), tb0, tb1, tb2] : List Ent) ++ Hr)) hf166
 replace b0 := b0.mono b4 (fun _ _ h => h)
 cases h
 exact Run.ret Tryz.func15 rfl (res_cell rfl (x_load (ex_loadA rfl (b7.cells (i := 3) rfl 0 rfl) rdLe_rfl z4b rfl rfl rfl)) res_nil) ⟨_, _, rfl, b9, (fun b c hb => b4 b c ((fun b c hb => c1 b c ((fun b c hb => hb) b c hb)) b c hb)), b0, hf166, b7.pickT [5, 6, 7] rfl rfl⟩

abbrev z0y (a2 : List UInt8) (a5 a1 a3 y x : Int) (n : List Int) (u : Bool) (p : Int) (a4 : List S_api_Signature) (d : Int) (b : List S_api_Key) (q : List S_api_Notice) (g m : SV) (e : Pos) (a a0 : SV) (w : List SV) (Fr0 : Rd) (Hr : List Ent) (r : Int × (List S_api_Notice)) : SV → Mem → Prop := fun s Me => ∃ q1, s = (.int .i64 r.1) ∧ ∃ F9 : Rd, RdLe Fr0 F9 ∧ ∃ c1 : List SV, Rows (rep36 F9) 10 c1 r.2 ∧ Has F9 Me (([.vec 36 10 r.2.length q1 c1, .obj e (.row 58 .whole [a, (.int .i64 d), q1]), .vec 108 2 b.length a (b.flatMap enc108), tb0, tb1, tb2] : List Ent) ++ Hr)

def ref10_Board_Post_h2_1 (F : Nat) (b6 : List UInt8) (b9 b5 b7 b2 b0 : Int) (a5 : List Int) (a9 : Bool) (a6 : Int) (b8 : List S_api_Signature) (a1 : Int) (b1 : List S_api_Key) (a : List S_api_Notice) (v8 : Int) (u : List UInt8) (d e a0 x y : Int) (w : List Int) (p : Bool) (g : Int) (q : List S_api_Signature) (a7 : List UInt8) (n s a3 a8 b3 : Int) (a4 : List Int) (m : Bool) (b4 : Int) : Option (Int × (List S_api_Notice)) :=
 bif m then
  some ((107 : Int), a)
 else
  bif (!(d == (w64 (n + (1 : Int))))) then
   some ((105 : Int), a)
  else
   bif (!(g == v8)) then
    some ((106 : Int), a)
   else
    bif (decide (e < s)) then
     some ((108 : Int), a)
    else
     bif (decide ((256 : Int) ≤ (a.length : Int))) then
      some ((7 : Int), a)
     else
      bnd (ref10_OwnNotice_h3 F u d e a0 x y w p g q) fun b =>
      bnd (apd 120 a ([(S_api_Notice.mk (S_api_Alert.mk b.1 b.2.1 b.2.2.1 (S_api_Chance.mk b.2.2.2.1 b.2.2.2.2.1) b.2.2.2.2.2.1 b.2.2.2.2.2.2.1 b.2.2.2.2.2.2.2.1 b.2.2.2.2.2.2.2.2.1) b.2.2.2.2.2.2.2.2.2)] : List S_api_Notice)) fun a2 =>
      some ((0 : Int), a2)

theorem z1w (F : Nat) (e3 : List UInt8) (e1 d4 e0 d8 d7 : Int) (d6 : List Int) (e2 : Bool) (d9 : Int) (d5 : List S_api_Signature) (g : Int) (d : List S_api_Key) (b2 : List S_api_Notice) (e7 e9 : SV) (b4 : Pos) (e q : SV) (m : List SV) (Fr0 : Rd) (Hr : List Ent) : ∀ (v8 : Int) (a6 : List UInt8) (u w a1 a0 a4 : Int) (c7 : List Int) (a3 : Bool) (s : Int) (c6 : List S_api_Signature) (b0 : List UInt8) (a2 a5 b1 a8 b3 : Int) (d0 : List Int) (y : Bool) (a9 : Int) (n p x : SV) (b9 b8 : Pos) (Fr : Rd) (M : Mem) (r : Int × (List S_api_Notice)) (c1 : Slc Fr 1 (FlatR enc3) n c7) (c0 : Slc Fr 2 (FlatR enc123) p c6) (c8 : Slc Fr 1 (FlatR enc3) x d0) (a7 : Rows (rep36 Fr) 10 m b2) (hfle : RdLe Fr0 Fr) (hH : Has Fr M (([.obj b4 (.row 58 .whole [e, (.int .i64 g), q]), .vec 108 2 d.length e (d.flatMap enc108), .vec 36 10 b2.length q m, .obj b9 (.row 36 .whole (k1 a6 u w a1 a0 a4 n a3 s p)), .obj b8 (.row 33 .whole (k0 b0 a2 a5 b1 a8 b3 x y a9)), tb0, tb1, tb2] : List Ent) ++ Hr)), ref10_Board_Post_h2_1 F e3 e1 d4 e0 d8 d7 d6 e2 d9 d5 g d b2 v8 a6 u w a1 a0 a4 c7 a3 s c6 b0 a2 a5 b1 a8 b3 d0 y a9 = some r → Run Tryz.prog ⟨⟨16, [], none⟩, []⟩ 66 (z0y e3 e1 d4 e0 d8 d7 d6 e2 d9 d5 g d b2 e7 e9 b4 e q m Fr0 Hr r) [(0, (.ptr b4 0)), (3, (.ptr b9 0)), (6, (.ptr b8 0)), (8, (.int .i64 v8))] [itemC Tryz.prog 16 [1, 1, 1, 1, 1, 0, 0] 0, codeC Tryz.prog 16 [1, 1, 1, 1, 1, 0, 1], codeC Tryz.prog 16 [1, 1, 1, 1, 1, 1]] M := by
 intro v8 a6 u w a1 a0 a4 c7 a3 s c6 b0 a2 a5 b1 a8 b3 d0 y a9 n p x b9 b8 Fr M r c1 c0 c8 a7 hfle hH h
 rw [ref10_Board_Post_h2_1] at h
 refine og (ex_fieldAddr rfl z5n) rfl <| og (ex_load1 rfl (hH.cells (i := 4) rfl 7 rfl) rdLe_rfl zc0) rfl <| Run.opsEnd ?_
 rcases btf (y) with c3 | c3
 ·have h := bif_t c3 h
  refine Run.condT' rfl c3 ?_
  refine Run.seq (Run.region ?_)
  refine av rfl rfl <| Run.opsEnd ?_
  cases h
  exact Run.ret Tryz.func16 rfl (res_tmp rfl res_nil) ⟨_, rfl, Fr, hfle, m, a7, hH.pickT [2, 0, 1, 5, 6, 7] rfl rfl⟩
 ·have h := bif_f c3 h
  refine Run.condF' rfl c3 ?_
  refine Run.skip (Run.seq (Run.seq (Run.region ?_)))
  refine og (ex_fieldAddr rfl z0a) rfl <| og (ex_fieldAddr rfl z3r) rfl <| og (ex_load1 rfl (hH.cells (i := 3) rfl 1 rfl) rdLe_rfl z0c) rfl <| og (ex_fieldAddr rfl z3r) rfl <| og (ex_load1 rfl (hH.cells (i := 4) rfl 1 rfl) rdLe_rfl z0c) rfl <| og (ex_add rfl rfl) rfl <| og (ex_neq rfl rfl) rfl <| Run.opsEnd ?_
  rcases btf ((!(u == (w64 (a2 + (1 : Int)))))) with hc144 | hc144
  ·have h := bif_t hc144 h
   refine Run.condT' rfl hc144 ?_
   refine Run.seq (Run.region ?_)
   refine av rfl rfl <| Run.opsEnd ?_
   cases h
   exact Run.ret Tryz.func16 rfl (res_tmp rfl res_nil) ⟨_, rfl, Fr, hfle, m, a7, hH.pickT [2, 0, 1, 5, 6, 7] rfl rfl⟩
  ·have h := bif_f hc144 h
   refine Run.condF' rfl hc144 ?_
   refine Run.skip (Run.seq (Run.seq (Run.region ?_)))
   refine og (ex_fieldAddr rfl z0a) rfl <| og (ex_fieldAddr rfl z5k) rfl <| og (ex_load1 rfl (hH.cells (i := 3) rfl 8 rfl) rdLe_rfl z0c) rfl <| mv rfl rfl <| og (ex_neq rfl rfl) rfl <| Run.opsEnd ?_
   rcases btf ((!(s == v8))) with c5 | c5
   ·have h := bif_t c5 h
    refine Run.condT' rfl c5 ?_
    refine Run.seq (Run.region ?_)
    refine av rfl rfl <| Run.opsEnd ?_
    cases h
    exact Run.ret Tryz.func16 rfl (res_tmp rfl res_nil) ⟨_, rfl, Fr, hfle, m, a7, hH.pickT [2, 0, 1, 5, 6, 7] rfl rfl⟩
   ·have h := bif_f c5 h
    refine Run.condF' rfl c5 ?_
    refine Run.skip (Run.seq (Run.seq (Run.region ?_)))
    refine og (ex_fieldAddr rfl z0a) rfl <| og (ex_fieldAddr rfl z4q) rfl <| og (ex_load1 rfl (hH.cells (i := 3) rfl 2 rfl) rdLe_rfl z0c) rfl <| og (ex_fieldAddr rfl z4q) rfl <| og (ex_load1 rfl (hH.cells (i := 4) rfl 2 rfl) rdLe_rfl z0c) rfl <| og (ex_lss rfl rfl) rfl <| Run.opsEnd ?_
    rcases btf ((decide (w < a5))) with c4 | c4
    ·have h := bif_t c4 h
     refine Run.condT' rfl c4 ?_
     refine Run.seq (Run.region ?_)
     refine av rfl rfl <| Run.opsEnd ?_
     cases h
     exact Run.ret Tryz.func16 rfl (res_tmp rfl res_nil) ⟨_, rfl, Fr, hfle, m, a7, hH.pickT [2, 0, 1, 5, 6, 7] rfl rfl⟩
    ·have h := bif_f c4 h
     refine Run.condF' rfl c4 ?_
     refine Run.skip (Run.seq (Run.seq (Run.region ?_)))
     refine mv rfl rfl <| og (ex_nilP rfl) rfl <| og (ex_fieldAddr rfl z5u) rfl <| og (ex_load1 rfl (hH.cells (i := 0) rfl 2 rfl) rdLe_rfl z8r) rfl <| og (ex_len' rfl (hH.slcR (i := 2) rfl a7) z4n) rfl <| og (ex_geq rfl rfl) rfl <| Run.opsEnd ?_
     rcases btf ((decide ((256 : Int) ≤ (b2.length : Int)))) with hc147 | hc147
     ·have h := bif_t hc147 h
      refine Run.condT' rfl hc147 ?_
      refine Run.seq (Run.region ?_)
      refine av rfl rfl <| Run.opsEnd ?_
      cases h
      exact Run.ret Tryz.func16 rfl (res_tmp rfl res_nil) ⟨_, rfl, Fr, hfle, m, a7, hH.pickT [2, 0, 1, 5, 6, 7] rfl rfl⟩
     ·have h := bif_f hc147 h
      refine Run.condF' rfl hc147 ?_
      refine Run.skip (Run.seq ?_)
      refine Run.drawG z3k <| df rfl (ex_move rfl) rfl <| df rfl (ex_move rfl) rfl <| df rfl (ex_nilP rfl) rfl <| df rfl (ex_fieldAddr rfl z5u) rfl <| df rfl (ex_load1 rfl (hH.cells (i := 0) rfl 2 rfl) rdLe_rfl z8r) rfl <| df rfl (ex_loadA rfl (hH.cells (i := 3) rfl 0 rfl) rdLe_rfl z4b rfl rfl rfl) rfl ?_
      obtain ⟨a, f3, h⟩ := bnd_some h
      refine DrawG.call rfl wantS_none (ex_call rfl zfq zfw) rfl (z6z F a6 u w a1 a0 a4 c7 a3 s c6 n p Fr ([.obj b4 (.row 58 .whole [e, (.int .i64 g), q]), .vec 108 2 d.length e (d.flatMap enc108), .vec 36 10 b2.length q m, .obj b9 (.row 36 .whole (k1 a6 u w a1 a0 a4 n a3 s p)), .obj b8 (.row 33 .whole (k0 b0 a2 a5 b1 a8 b3 x y a9))] ++ Hr) _ _ c1 c0 (hH.pickT [5, 6, 7, 0, 1, 2, 3, 4] rfl rfl) f3) ?_
      rintro _ f7 ⟨b6, b5, rfl, c2, b7, e6, e8, (d2 : Has c2 f7 (([tb0, tb1, tb2, .obj b4 (.row 58 .whole [e, (.int .i64 g), q]), .vec 108 2 d.length e (d.flatMap enc108), .vec 36 10 b2.length q m, .obj b9 (.row 36 .whole (k1 a6 u w a1 a0 a4 n a3 s p)), .obj b8 (.row 33 .whole (k0 b0 a2 a5 b1 a8 b3 x y a9))] : List Ent) ++ Hr))⟩
      replace c1 := c1.mono b7 (fun _ _ h => h)
      replace c0 := c0.mono b7 (fun _ _ h => h)
      replace c8 := c8.mono b7 (fun _ _ h => h)
      replace a7 := a7.mono fun _ _ => z02 b7
      refine ⟨(st_cons rfl (ev_ex wantS_none (ex_load1 rfl (d2.cells (i := 3) rfl 2 rfl) rdLe_rfl z8r)) rfl rfl (blk_self d2 (i := 5) rfl) (st_cons rfl (ev_ex wantS_none (ex_fieldAddr rfl z5u)) rfl rfl rfl (st_cons rfl (ev_ex wantS_none (ex_nilP rfl)) rfl rfl rfl (st_cons rfl (ev_ex wantS_none (ex_move rfl)) rfl rfl rfl (st_cons rfl (ev_ex wantS_none (ex_move rfl)) rfl rfl rfl st_nil))))), ?_⟩
      have f2 : Rows (rep36 c2) 10 (k1 a.1 a.2.1 a.2.2.1 a.2.2.2.1 a.2.2.2.2.1 a.2.2.2.2.2.1 b6 a.2.2.2.2.2.2.2.1 a.2.2.2.2.2.2.2.2.1 b5) ([(S_api_Notice.mk (S_api_Alert.mk a.1 a.2.1 a.2.2.1 (S_api_Chance.mk a.2.2.2.1 a.2.2.2.2.1) a.2.2.2.2.2.1 a.2.2.2.2.2.2.1 a.2.2.2.2.2.2.2.1 a.2.2.2.2.2.2.2.2.1) a.2.2.2.2.2.2.2.2.2)] : List S_api_Notice) := (Rows.cons (cs := (k1 a.1 a.2.1 a.2.2.1 a.2.2.2.1 a.2.2.2.2.1 a.2.2.2.2.2.1 b6 a.2.2.2.2.2.2.2.1 a.2.2.2.2.2.2.2.2.1 b5)) rfl ⟨b6, b5, rfl, e6, e8⟩ Rows.nil)
      refine DrawG.opX rfl wantS_none rfl (ExG.builtR (z := 10) (c := (k1 a.1 a.2.1 a.2.2.1 a.2.2.2.1 a.2.2.2.2.1 a.2.2.2.2.2.1 b6 a.2.2.2.2.2.2.2.1 a.2.2.2.2.2.2.2.2.1 b5)) rfl zbv rfl rfl rfl d2) ?_
      rintro e4 f6 (c9 : Has c2 f6 (([.vec 36 10 ([(S_api_Notice.mk (S_api_Alert.mk a.1 a.2.1 a.2.2.1 (S_api_Chance.mk a.2.2.2.1 a.2.2.2.2.1) a.2.2.2.2.2.1 a.2.2.2.2.2.2.1 a.2.2.2.2.2.2.2.1 a.2.2.2.2.2.2.2.2.1) a.2.2.2.2.2.2.2.2.2)] : List S_api_Notice).length e4 (k1 a.1 a.2.1 a.2.2.1 a.2.2.2.1 a.2.2.2.2.1 a.2.2.2.2.2.1 b6 a.2.2.2.2.2.2.2.1 a.2.2.2.2.2.2.2.2.1 b5), tb0, tb1, tb2, .obj b4 (.row 58 .whole [e, (.int .i64 g), q]), .vec 108 2 d.length e (d.flatMap enc108), .vec 36 10 b2.length q m, .obj b9 (.row 36 .whole (k1 a6 u w a1 a0 a4 n a3 s p)), .obj b8 (.row 33 .whole (k0 b0 a2 a5 b1 a8 b3 x y a9))] : List Ent) ++ Hr))
      refine ⟨(st_cons rfl (ev_ex wantS_none (ex_load1 rfl (c9.cells (i := 4) rfl 2 rfl) rdLe_rfl z8r)) rfl rfl (blk_self c9 (i := 6) rfl) (st_cons rfl (ev_ex wantS_none (ex_fieldAddr rfl z5u)) rfl rfl rfl (st_cons rfl (ev_ex wantS_none (ex_nilP rfl)) rfl rfl rfl (st_cons rfl (ev_ex wantS_none (ex_move rfl)) rfl rfl rfl (st_cons rfl (ev_ex wantS_none (ex_move rfl)) rfl rfl rfl st_nil))))), ?_⟩
      obtain ⟨f0, f1, h⟩ := bnd_some h
      refine DrawG.opX rfl wantS_none rfl (ExG.appendQ (R := (rep36 c2)) rfl rfl c9 (i := 6) rfl a7 (fun _ _ => z4x) rfl z73 rfl (c9.slcR (i := 0) rfl f2) (rdLe_rdRow _) f1) ?_
      rintro d3 f8 ⟨e5, f5, (d1 : Has c2 f8 (([.vec 36 10 ([(S_api_Notice.mk (S_api_Alert.mk a.1 a.2.1 a.2.2.1 (S_api_Chance.mk a.2.2.2.1 a.2.2.2.2.1) a.2.2.2.2.2.1 a.2.2.2.2.2.2.1 a.2.2.2.2.2.2.2.1 a.2.2.2.2.2.2.2.2.1) a.2.2.2.2.2.2.2.2.2)] : List S_api_Notice).length e4 (k1 a.1 a.2.1 a.2.2.1 a.2.2.2.1 a.2.2.2.2.1 a.2.2.2.2.2.1 b6 a.2.2.2.2.2.2.2.1 a.2.2.2.2.2.2.2.2.1 b5), tb0, tb1, tb2, .obj b4 (.row 58 .whole [e, (.int .i64 g), q]), .vec 108 2 d.length e (d.flatMap enc108), .vec 36 10 f0.length d3 e5, .obj b9 (.row 36 .whole (k1 a6 u w a1 a0 a4 n a3 s p)), .obj b8 (.row 33 .whole (k0 b0 a2 a5 b1 a8 b3 x y a9))] : List Ent) ++ Hr))⟩
      refine ⟨(st_cons rfl (ev_ex wantS_none (ex_move rfl)) rfl rfl rfl st_nil), ?_⟩
      refine df rfl (ex_nilP rfl) rfl <| df rfl (ex_fieldAddr rfl z5u) rfl <| DrawG.opX rfl wantS_none rfl (ExG.storeC (c' := [e, (.int .i64 g), d3]) rfl rfl (cells_one (vec_one d1 (i := 6) rfl)) d1 (i := 4) rfl zhs rfl rfl rfl (ones_cons (vec_one d1 (i := 6) rfl) ones_nil) rfl) ?_
      rintro _ f9 ⟨rfl, (f4 : Has c2 f9 (([.vec 36 10 ([(S_api_Notice.mk (S_api_Alert.mk a.1 a.2.1 a.2.2.1 (S_api_Chance.mk a.2.2.2.1 a.2.2.2.2.1) a.2.2.2.2.2.1 a.2.2.2.2.2.2.1 a.2.2.2.2.2.2.2.1 a.2.2.2.2.2.2.2.2.1) a.2.2.2.2.2.2.2.2.2)] : List S_api_Notice).length e4 (k1 a.1 a.2.1 a.2.2.1 a.2.2.2.1 a.2.2.2.2.1 a.2.2.2.2.2.1 b6 a.2.2.2.2.2.2.2.1 a.2.2.2.2.2.2.2.2.1 b5), tb0, tb1, tb2, .obj b4 (.row 58 .whole [e, (.int .i64 g), d3]), .vec 108 2 d.length e (d.flatMap enc108), .vec 36 10 f0.length d3 e5, .obj b9 (.row 36 .whole (k1 a6 u w a1 a0 a4 n a3 s p)), .obj b8 (.row 33 .whole (k0 b0 a2 a5 b1 a8 b3 x y a9))] : List Ent) ++ Hr))⟩
      refine ⟨st_nil, ?_⟩
      refine DrawG.sync <| DrawG.nil ?_
      refine Run.seq (Run.region ?_)
      refine av rfl rfl <| Run.opsEnd ?_
      cases h
      exact Run.ret Tryz.func16 rfl (res_tmp rfl res_nil) ⟨_, rfl, c2, (fun b c hb => b7 b c (hfle b c hb)), e5, f5, f4.pickT [6, 4, 5, 1, 2, 3] rfl rfl⟩

def ref10_Board_Post_h2 (F : Nat) (b : List UInt8) (w p s g e : Int) (m : List Int) (q : Bool) (n : Int) (u : List S_api_Signature) (d : Int) (x : List S_api_Key) (y : List S_api_Notice) : Option (Int × (List S_api_Notice)) :=
 bnd (ref10_notice F (S_api_Roll.mk x d) (S_api_Notice.mk (S_api_Alert.mk b w p (S_api_Chance.mk s g) e m q n) u)) fun a0 =>
 bif (!(a0 == (0 : Int))) then
  some (a0, y)
 else
  bnd (ref10_Board_last_h2 F b d x y) fun a =>
  bif a.2.2.2.2.2.2.2.2.2 then
   bnd (ref10_digest F (S_api_Alert.mk a.1 a.2.1 a.2.2.1 (S_api_Chance.mk a.2.2.2.1 a.2.2.2.2.1) a.2.2.2.2.2.1 a.2.2.2.2.2.2.1 a.2.2.2.2.2.2.2.1 a.2.2.2.2.2.2.2.2.1)) fun a1 =>
   ref10_Board_Post_h2_1 F b w p s g e m q n u d x y a1 b w p s g e m q n u a.1 a.2.1 a.2.2.1 a.2.2.2.1 a.2.2.2.2.1 a.2.2.2.2.2.1 a.2.2.2.2.2.2.1 a.2.2.2.2.2.2.2.1 a.2.2.2.2.2.2.2.2.1
  else
   ref10_Board_Post_h2_1 F b w p s g e m q n u d x y (0 : Int) b w p s g e m q n u a.1 a.2.1 a.2.2.1 a.2.2.2.1 a.2.2.2.2.1 a.2.2.2.2.2.1 a.2.2.2.2.2.2.1 a.2.2.2.2.2.2.2.1 a.2.2.2.2.2.2.2.2.1

theorem z6h (F : Nat) : ∀ (q : List UInt8) (x u w a1 a0 : Int) (a6 : List Int) (y : Bool) (s : Int) (a5 : List S_api_Signature) (g : Int) (d : List S_api_Key) (a2 : List S_api_Notice) (e m : SV) (a4 : Pos) (n p : SV) (a3 : List SV) (Fr0 : Rd) (Hr : List Ent) (M : Mem) (r : Int × (List S_api_Notice)) (a9 : Slc Fr0 1 (FlatR enc3) e a6) (a8 : Slc Fr0 2 (FlatR enc123) m a5) (a7 : Rows (rep36 Fr0) 10 a3 a2) (hH : Has Fr0 M (([.obj a4 (.row 58 .whole [n, (.int .i64 g), p]), .vec 108 2 d.length n (d.flatMap enc108), .vec 36 10 a2.length p a3, tb0, tb1, tb2] : List Ent) ++ Hr)) (h : ref10_Board_Post_h2 F q x u w a1 a0 a6 y s a5 g d a2 = some r), CallsM Tryz.prog 16 [(.ptr a4 0), (.agg (k1 q x u w a1 a0 e y s m))] M (z0y q x u w a1 a0 a6 y s a5 g d a2 e m a4 n p a3 Fr0 Hr r) := by
 intro q x u w a1 a0 a6 y s a5 g d a2 e m a4 n p a3 Fr0 Hr M r a9 a8 a7 hH h
 refine CallsM.run Tryz.func16 rfl rfl (show Run _ _ _ (z0y q x u w a1 a0 a6 y s a5 g d a2 e m a4 n p a3 Fr0 Hr r) _ _ _ from ?_)
 rw [ref10_Board_Post_h2] at h
 refine Run.seq (Run.region ?_)
 refine ox rfl (ExG.box rfl rfl hH) ?_
 rintro _ c5 ⟨b4, rfl, (b0 : Has Fr0 c5 (([.obj b4 (.row 36 .whole (k1 q x u w a1 a0 e y s m)), .obj a4 (.row 58 .whole [n, (.int .i64 g), p]), .vec 108 2 d.length n (d.flatMap enc108), .vec 36 10 a2.length p a3, tb0, tb1, tb2] : List Ent) ++ Hr))⟩
 refine av rfl rfl ?_
 refine Run.opsEnd (Run.seq (Run.seq ?_))
 refine Run.drawG zbb <| df rfl (ex_move rfl) rfl <| df rfl (ex_nilP rfl) rfl <| df rfl (ex_fieldAddr rfl zcv) rfl <| df rfl (ex_loadA rfl (b0.cells (i := 1) rfl 0 rfl) rdLe_rfl zax rfl rfl rfl) rfl <| df rfl (ex_loadA rfl (b0.cells (i := 0) rfl 0 rfl) rdLe_rfl z4b rfl rfl rfl) rfl ?_
 obtain ⟨c8, b9, h⟩ := bnd_some h
 refine DrawG.callP rfl wantS_none (ex_call rfl zgb zh9) rfl (zae F (S_api_Roll.mk d g) (S_api_Notice.mk (S_api_Alert.mk q x u (S_api_Chance.mk w a1) a0 a6 y s) a5) n e m _ _ (b0.slc (i := 2) rfl z59) (b0.slcF a9) (b0.slcF a8) b9) st_nil <| df rfl (ex_assign rfl) rfl <| DrawG.sync <| DrawG.nil ?_
 refine Run.seq (Run.region ?_)
 refine mv rfl rfl <| og (ex_neq rfl rfl) rfl <| Run.opsEnd ?_
 rcases btf ((!(c8 == (0 : Int)))) with hc131 | hc131
 ·have h := bif_t hc131 h
  refine Run.condT' rfl hc131 ?_
  refine Run.seq (Run.region ?_)
  refine mv rfl rfl <| av rfl rfl <| Run.opsEnd ?_
  cases h
  exact Run.ret Tryz.func16 rfl (res_tmp rfl res_nil) ⟨_, rfl, Fr0, (fun b c hb => hb), a3, a7, b0.pickT [3, 1, 2, 4, 5, 6] rfl rfl⟩
 ·have h := bif_f hc131 h
  refine Run.condF' rfl hc131 ?_
  refine Run.skip (Run.seq (Run.region ?_))
  refine mv rfl rfl <| og (ex_fieldAddr rfl z0a) rfl <| og (ex_fieldAddr rfl z10) rfl <| og (ex_load1 rfl (b0.cells (i := 0) rfl 0 rfl) rdLe_rfl zam) rfl ?_
  obtain ⟨a, c0, h⟩ := bnd_some h
  refine Run.callX wantS_none (ex_call rfl zff zdz) rfl (z2n F q g d a2 a4 n p a3 Fr0 ([.obj b4 (.row 36 .whole (k1 q x u w a1 a0 e y s m))] ++ Hr) _ _ a7 (b0.pickT [1, 2, 3, 4, 5, 6, 0] rfl rfl) c0) ?_
  rintro _ c4 ⟨b2, rfl, b8, b1, b3, (c3 : Has b8 c4 (([.obj a4 (.row 58 .whole [n, (.int .i64 g), p]), .vec 108 2 d.length n (d.flatMap enc108), .vec 36 10 a2.length p a3, tb0, tb1, tb2, .obj b4 (.row 36 .whole (k1 q x u w a1 a0 e y s m))] : List Ent) ++ Hr))⟩
  replace a9 := a9.mono b1 (fun _ _ h => h)
  replace a8 := a8.mono b1 (fun _ _ h => h)
  replace a7 := a7.mono fun _ _ => z02 b1
  refine mv rfl rfl <| og (ex_extract rfl rfl) rfl <| og (ex_extract rfl rfl) rfl <| ox rfl (ExG.new (v := fun b => .ptr b 0) (ex_alloc z3v) c3) ?_
  rintro _ c7 ⟨b7, rfl, (c1 : Has b8 c7 (([.obj b7 (.row 33 .whole (k0 [] 0 0 0 0 0 .nils false 0)), .obj a4 (.row 58 .whole [n, (.int .i64 g), p]), .vec 108 2 d.length n (d.flatMap enc108), .vec 36 10 a2.length p a3, tb0, tb1, tb2, .obj b4 (.row 36 .whole (k1 q x u w a1 a0 e y s m))] : List Ent) ++ Hr))⟩
  refine ox rfl (ExG.storeC (c' := (k0 a.1 a.2.1 a.2.2.1 a.2.2.2.1 a.2.2.2.2.1 a.2.2.2.2.2.1 b2 a.2.2.2.2.2.2.2.1 a.2.2.2.2.2.2.2.2.1)) rfl rfl rfl c1 (i := 0) rfl z9x rfl rfl rfl (ones_cons rfl (ones_cons rfl (ones_cons rfl (ones_cons rfl (ones_cons rfl (ones_cons rfl (ones_cons (slc_one b3) (ones_cons rfl (ones_cons rfl ones_nil))))))))) rfl) ?_
  rintro _ c9 ⟨rfl, (b6 : Has b8 c9 (([.obj b7 (.row 33 .whole (k0 a.1 a.2.1 a.2.2.1 a.2.2.2.1 a.2.2.2.2.1 a.2.2.2.2.2.1 b2 a.2.2.2.2.2.2.2.1 a.2.2.2.2.2.2.2.2.1)), .obj a4 (.row 58 .whole [n, (.int .i64 g), p]), .vec 108 2 d.length n (d.flatMap enc108), .vec 36 10 a2.length p a3, tb0, tb1, tb2, .obj b4 (.row 36 .whole (k1 q x u w a1 a0 e y s m))] : List Ent) ++ Hr))⟩
  refine av rfl rfl ?_
  refine Run.opsEnd (Run.seq (Run.region ?_))
  refine av rfl rfl ?_
  refine Run.opsEnd (Run.seq (Run.seq (Run.region ?_)))
  refine mv rfl rfl <| Run.opsEnd ?_
  rcases btf (a.2.2.2.2.2.2.2.2.2) with b5 | b5
  ·have h := bif_t b5 h
   refine Run.condT' rfl b5 <| Run.region <| og (ex_loadA rfl (b6.cells (i := 0) rfl 0 rfl) rdLe_rfl z0m rfl rfl rfl) rfl ?_
   obtain ⟨c6, c2, h⟩ := bnd_some h
   refine Run.callP wantS_none (ex_call rfl zey zft) rfl (z72 F (S_api_Alert.mk a.1 a.2.1 a.2.2.1 (S_api_Chance.mk a.2.2.2.1 a.2.2.2.2.1) a.2.2.2.2.2.1 a.2.2.2.2.2.2.1 a.2.2.2.2.2.2.2.1 a.2.2.2.2.2.2.2.2.1) b2 _ _ (b6.slcF b3) c2) <| av rfl rfl ?_
   refine Run.opsEnd (Run.seq (Run.seq (Run.region ?_)))
   exact Run.pick [0, 3, 6, 8] (z1w F q x u w a1 a0 a6 y s a5 g d a2 e m a4 n p a3 Fr0 Hr c6 q x u w a1 a0 a6 y s a5 a.1 a.2.1 a.2.2.1 a.2.2.2.1 a.2.2.2.2.1 a.2.2.2.2.2.1 a.2.2.2.2.2.2.1 a.2.2.2.2.2.2.2.1 a.2.2.2.2.2.2.2.2.1 e m b2 b4 b7 _ _ _ a9 a8 b3 a7 (fun b c hb => b1 b c ((fun b c hb => hb) b c hb)) (b6.pickT [1, 2, 3, 7, 0, 4, 5, 6] rfl rfl) h)
  ·have h := bif_f b5 h
   refine Run.condF' rfl b5 ?_
   refine Run.skip (Run.seq (Run.seq (Run.region ?_)))
   exact Run.pick [0, 3, 6, 8] (z1w F q x u w a1 a0 a6 y s a5 g d a2 e m a4 n p a3 Fr0 Hr (0 : Int) q x u w a1 a0 a6 y s a5 a.1 a.2.1 a.2.2.1 a.2.2.2.1 a.2.2.2.2.1 a.2.2.2.2.2.1 a.2.2.2.2.2.2.1 a.2.2.2.2.2.2.2.1 a.2.2.2.2.2.2.2.2.1 e m b2 b4 b7 _ _ _ a9 a8 b3 a7 (fun b c hb => b1 b c ((fun b c hb => hb) b c hb)) (b6.pickT [1, 2, 3, 7, 0, 4, 5, 6] rfl rfl) h)

theorem z0z : planOf Tryz.prog (opsC (atC Tryz.prog 3 [1, 1, 1, 1, 1, 1, 1, 1, 0, 1, 0, 0, 1, 0, 0, 1, 1, 1, 0])) = some [.fl 0, .fl 1, .an 2 [], .fl 3, .fl 4, .fl 5, .fl 6, .fl 7, .fl 8, .fl 9, .fl 10, .fl 11, .fl 12, .fl 13, .fl 14, .fl 15, .fl 16, .fl 18, .fl 19, .fl 20, .fl 21, .fl 22, .fl 23, .fl 24, .an 17 [24, 23, 22, 21, 20, 19, 18], .an 25 [], .an 26 [], .fl 27, .fl 28, .sync] := by kernel_rfl
theorem z18 : planOf Tryz.prog (opsC (atC Tryz.prog 3 [1, 1, 1, 1, 1, 1, 1, 1, 0, 1, 0, 0, 1, 0, 0, 0, 0])) = some [.fl 0, .fl 1, .fl 2, .fl 3, .fl 4, .fl 7, .fl 8, .fl 9, .fl 10, .fl 11, .an 5 [11, 10, 9, 8, 7, 0], .an 6 [11, 10, 9, 8, 7], .an 12 [], .fl 13, .sync] := by kernel_rfl
abbrev z0q (g : Int) (d : List S_api_Key) (n : List S_api_Notice) (b : Pos) (e a : SV) (m : List SV) (Fr0 : Rd) (Hr : List Ent) (r : List S_api_Notice) : SV → Mem → Prop := fun s Me => ∃ q1, s = q1 ∧ ∃ F9 : Rd, RdLe Fr0 F9 ∧ ∃ c1 : List SV, Rows (rep36 F9) 10 c1 r ∧ Has F9 Me (([.vec 36 10 r.length q1 c1, .obj b (.row 41 .whole [e, (.int .i64 g), a, (.ptr b 0)]), .vec 166 2 d.length e (d.flatMap z01), .vec 36 10 n.length a m, tb0, tb1, tb2] : List Ent) ++ Hr)

def alert_Board_Notices_h2_1 (F : Nat) (e : Int) (m : List S_api_Key) (d : List S_api_Notice) : Nat → Int → Int → List S_api_Notice → Option ((List S_api_Notice))
 | 0, _, _, _ => none
 | N + 1, q, p, g =>
  bif (decide (p < q)) then
   bnd (idx d p) fun b =>
   bnd (alert_copyOfNotice_h2 F b.Alert.Event b.Alert.Version b.Alert.Time b.Alert.Chance.N b.Alert.Chance.Of b.Alert.Grid b.Alert.Cells b.Alert.Withdrawn b.Alert.Before b.Signatures) fun a =>
   bnd (apd 120 g ([(S_api_Notice.mk (S_api_Alert.mk a.1 a.2.1 a.2.2.1 (S_api_Chance.mk a.2.2.2.1 a.2.2.2.2.1) a.2.2.2.2.2.1 a.2.2.2.2.2.2.1 a.2.2.2.2.2.2.2.1 a.2.2.2.2.2.2.2.2.1) a.2.2.2.2.2.2.2.2.2)] : List S_api_Notice)) fun n =>
   (alert_Board_Notices_h2_1 F e m d N) q (w64 (p + (1 : Int))) n
  else
   some g

theorem z3z (F : Nat) (n : Int) (e : List S_api_Key) (q : List S_api_Notice) (g : Pos) (m d : SV) (s : List SV) (Fr0 : Rd) (Hr : List Ent) : ∀ (N : Nat), ∀ (d8 d9 : Int) (x : List S_api_Notice) (a2 : SV) (y : List SV) (Fr : Rd) (M : Mem) (r : List S_api_Notice) (a6 : Rows (rep36 Fr) 10 y x) (a4 : Rows (rep36 Fr) 10 s q) (hfle : RdLe Fr0 Fr) (hH : Has Fr M (([.vec 36 10 x.length a2 y, .vec 36 10 q.length d s, .obj g (.row 41 .whole [m, (.int .i64 n), d, (.ptr g 0)]), .vec 166 2 e.length m (e.flatMap z01), tb0, tb1, tb2] : List Ent) ++ Hr)), alert_Board_Notices_h2_1 F n e q N d8 d9 x = some r → Run Tryz.prog ⟨⟨8, [], none⟩, []⟩ 25 (z0q n e q g m d s Fr0 Hr r) [(3, a2), (12, d), (13, (.int .i64 d8)), (14, (.int .i64 d9))] [codeC Tryz.prog 8 [1, 1, 1, 0, 1, 0, 0], loopC Tryz.prog 8 [1, 1, 1, 0, 1, 0, 0], .inBlock 0, codeC Tryz.prog 8 [1, 1, 1, 1]] M := by
 intro N
 induction N with
 | zero =>
  intro d8 d9 x a2 y Fr M r a6 a4 hfle hH h
  simp [alert_Board_Notices_h2_1] at h
 | succ N ih =>
  intro d8 d9 x a2 y Fr M r a6 a4 hfle hH h
  rw [alert_Board_Notices_h2_1] at h
  refine Run.seq (Run.region ?_)
  refine og (ex_lss rfl rfl) rfl ?_
  refine Run.opsEnd (Run.seq ?_)
  rcases btf ((decide (d9 < d8))) with a8 | a8
  ·have h := bif_t a8 h
   refine Run.condT' rfl a8 ?_
   refine Run.skip (Run.seq (Run.block (Run.seq (Run.region ?_))))
   obtain ⟨p, b1, h⟩ := bnd_some h
   obtain ⟨d7, d6, c8, b1, c3⟩ := vec_elemR (P := Tryz.prog) (t := 25) (kk := .i64) hH (i := 1) rfl b1 z5c
   obtain ⟨_, b9, b8, ⟨u, w, rfl, a5, a7⟩⟩ := a4.at c3
   refine og (ex_elX rfl rfl b1) rfl <| og (ex_loadA rfl (hH.atR (i := 1) rfl c8 b9 b8) rdLe_rfl z4b rfl rfl rfl) rfl <| ox rfl (ExG.new (v := fun b => .ptr b 0) (ex_alloc zb6) hH) ?_
   rintro _ d1 ⟨a9, rfl, (c4 : Has Fr d1 (([.obj a9 (.row 36 .whole (k1 [] 0 0 0 0 0 .nils false 0 .nils)), .vec 36 10 x.length a2 y, .vec 36 10 q.length d s, .obj g (.row 41 .whole [m, (.int .i64 n), d, (.ptr g 0)]), .vec 166 2 e.length m (e.flatMap z01), tb0, tb1, tb2] : List Ent) ++ Hr))⟩
   refine ox rfl (ExG.storeC (c' := (r1 p.Alert u w)) rfl rfl rfl c4 (i := 0) rfl zdd rfl rfl rfl (ones_cons rfl (ones_cons rfl (ones_cons rfl (ones_cons rfl (ones_cons rfl (ones_cons rfl (ones_cons (slc_one a5) (ones_cons rfl (ones_cons rfl (ones_cons (slc_one a7) ones_nil)))))))))) rfl) ?_
   rintro _ d5 ⟨rfl, (b2 : Has Fr d5 (([.obj a9 (.row 36 .whole (r1 p.Alert u w)), .vec 36 10 x.length a2 y, .vec 36 10 q.length d s, .obj g (.row 41 .whole [m, (.int .i64 n), d, (.ptr g 0)]), .vec 166 2 e.length m (e.flatMap z01), tb0, tb1, tb2] : List Ent) ++ Hr))⟩
   refine Run.opsEnd (Run.region ?_)
   refine mv rfl rfl <| og (ex_loadA rfl (b2.cells (i := 0) rfl 0 rfl) rdLe_rfl z4b rfl rfl rfl) rfl ?_
   obtain ⟨a, c2, h⟩ := bnd_some h
   refine Run.callX wantS_none (ex_call rfl zek zf7) rfl (z23 F p.Alert.Event p.Alert.Version p.Alert.Time p.Alert.Chance.N p.Alert.Chance.Of p.Alert.Grid p.Alert.Cells p.Alert.Withdrawn p.Alert.Before p.Signatures u w Fr ([.obj a9 (.row 36 .whole (r1 p.Alert u w)), .vec 36 10 x.length a2 y, .vec 36 10 q.length d s, .obj g (.row 41 .whole [m, (.int .i64 n), d, (.ptr g 0)]), .vec 166 2 e.length m (e.flatMap z01)] ++ Hr) _ _ a5 a7 (b2.pickT [5, 6, 7, 0, 1, 2, 3, 4] rfl rfl) c2) ?_
   rintro _ d2 ⟨a1, a0, rfl, b0, a3, b4, b5, (c9 : Has b0 d2 (([tb0, tb1, tb2, .obj a9 (.row 36 .whole (r1 p.Alert u w)), .vec 36 10 x.length a2 y, .vec 36 10 q.length d s, .obj g (.row 41 .whole [m, (.int .i64 n), d, (.ptr g 0)]), .vec 166 2 e.length m (e.flatMap z01)] : List Ent) ++ Hr))⟩
   replace a5 := a5.mono a3 (fun _ _ h => h)
   replace a7 := a7.mono a3 (fun _ _ h => h)
   replace a6 := a6.mono fun _ _ => z02 a3
   replace a4 := a4.mono fun _ _ => z02 a3
   have c6 : Rows (rep36 b0) 10 (k1 a.1 a.2.1 a.2.2.1 a.2.2.2.1 a.2.2.2.2.1 a.2.2.2.2.2.1 a1 a.2.2.2.2.2.2.2.1 a.2.2.2.2.2.2.2.2.1 a0) ([(S_api_Notice.mk (S_api_Alert.mk a.1 a.2.1 a.2.2.1 (S_api_Chance.mk a.2.2.2.1 a.2.2.2.2.1) a.2.2.2.2.2.1 a.2.2.2.2.2.2.1 a.2.2.2.2.2.2.2.1 a.2.2.2.2.2.2.2.2.1) a.2.2.2.2.2.2.2.2.2)] : List S_api_Notice) := (Rows.cons (cs := (k1 a.1 a.2.1 a.2.2.1 a.2.2.2.1 a.2.2.2.2.1 a.2.2.2.2.2.1 a1 a.2.2.2.2.2.2.2.1 a.2.2.2.2.2.2.2.2.1 a0)) rfl ⟨a1, a0, rfl, b4, b5⟩ Rows.nil)
   refine ox rfl (ExG.builtR (z := 10) (c := (k1 a.1 a.2.1 a.2.2.1 a.2.2.2.1 a.2.2.2.2.1 a.2.2.2.2.2.1 a1 a.2.2.2.2.2.2.2.1 a.2.2.2.2.2.2.2.2.1 a0)) rfl zbv rfl rfl rfl c9) ?_
   rintro b7 d3 (b3 : Has b0 d3 (([.vec 36 10 ([(S_api_Notice.mk (S_api_Alert.mk a.1 a.2.1 a.2.2.1 (S_api_Chance.mk a.2.2.2.1 a.2.2.2.2.1) a.2.2.2.2.2.1 a.2.2.2.2.2.2.1 a.2.2.2.2.2.2.2.1 a.2.2.2.2.2.2.2.2.1) a.2.2.2.2.2.2.2.2.2)] : List S_api_Notice).length b7 (k1 a.1 a.2.1 a.2.2.1 a.2.2.2.1 a.2.2.2.2.1 a.2.2.2.2.2.1 a1 a.2.2.2.2.2.2.2.1 a.2.2.2.2.2.2.2.2.1 a0), tb0, tb1, tb2, .obj a9 (.row 36 .whole (r1 p.Alert u w)), .vec 36 10 x.length a2 y, .vec 36 10 q.length d s, .obj g (.row 41 .whole [m, (.int .i64 n), d, (.ptr g 0)]), .vec 166 2 e.length m (e.flatMap z01)] : List Ent) ++ Hr))
   obtain ⟨c0, c7, h⟩ := bnd_some h
   refine ox rfl (ExG.appendQ (R := (rep36 b0)) rfl rfl b3 (i := 5) rfl a6 (fun _ _ => z4x) rfl z73 rfl (b3.slcR (i := 0) rfl c6) (rdLe_rdRow _) c7) ?_
   rintro c1 d4 ⟨b6, d0, (c5 : Has b0 d4 (([.vec 36 10 ([(S_api_Notice.mk (S_api_Alert.mk a.1 a.2.1 a.2.2.1 (S_api_Chance.mk a.2.2.2.1 a.2.2.2.2.1) a.2.2.2.2.2.1 a.2.2.2.2.2.2.1 a.2.2.2.2.2.2.2.1 a.2.2.2.2.2.2.2.2.1) a.2.2.2.2.2.2.2.2.2)] : List S_api_Notice).length b7 (k1 a.1 a.2.1 a.2.2.1 a.2.2.2.1 a.2.2.2.2.1 a.2.2.2.2.2.1 a1 a.2.2.2.2.2.2.2.1 a.2.2.2.2.2.2.2.2.1 a0), tb0, tb1, tb2, .obj a9 (.row 36 .whole (r1 p.Alert u w)), .vec 36 10 c0.length c1 b6, .vec 36 10 q.length d s, .obj g (.row 41 .whole [m, (.int .i64 n), d, (.ptr g 0)]), .vec 166 2 e.length m (e.flatMap z01)] : List Ent) ++ Hr))⟩
   refine av rfl rfl ?_
   refine Run.opsEnd (Run.inBlock (Run.region ?_))
   refine og (ex_add rfl rfl) rfl <| mv rfl rfl ?_
   refine Run.opsEnd (Run.inLoop ?_)
   exact Run.pick [3, 12, 13, 14] (ih d8 (w64 (d9 + (1 : Int))) c0 c1 b6 _ _ _ d0 a4 (fun b c hb => a3 b c (hfle b c hb)) (c5.pickT [5, 6, 7, 8, 1, 2, 3] rfl rfl) h)
  ·have h := bif_f a8 h
   refine Run.condF' rfl a8 ?_
   refine Run.exit rfl (Run.seq (Run.region ?_))
   refine mv rfl rfl <| av rfl rfl <| Run.opsEnd ?_
   cases h
   exact Run.ret Tryz.func8 rfl (res_tmp rfl res_nil) ⟨_, rfl, Fr, hfle, y, a6, hH.pickT [0, 2, 3, 1, 4, 5, 6] rfl rfl⟩

def alert_Board_Notices_h2 (F : Nat) (b : Int) (d : List S_api_Key) (a : List S_api_Notice) : Option ((List S_api_Notice)) :=
 alert_Board_Notices_h2_1 F b d a F (a.length : Int) (0 : Int) ([] : List S_api_Notice)

theorem z4t (F : Nat) : ∀ (d : Int) (m : List S_api_Key) (a : List S_api_Notice) (g : Pos) (p e : SV) (n : List SV) (Fr0 : Rd) (Hr : List Ent) (M : Mem) (r : List S_api_Notice) (q : Rows (rep36 Fr0) 10 n a) (hH : Has Fr0 M (([.obj g (.row 41 .whole [p, (.int .i64 d), e, (.ptr g 0)]), .vec 166 2 m.length p (m.flatMap z01), .vec 36 10 a.length e n, tb0, tb1, tb2] : List Ent) ++ Hr)) (h : alert_Board_Notices_h2 F d m a = some r), CallsM Tryz.prog 8 [(.ptr g 0)] M (z0q d m a g p e n Fr0 Hr r) := by
 intro d m a g p e n Fr0 Hr M r q hH h
 refine CallsM.run Tryz.func8 rfl rfl (show Run _ _ _ (z0q d m a g p e n Fr0 Hr r) _ _ _ from ?_)
 rw [alert_Board_Notices_h2] at h
 refine Run.seq (Run.region ?_)
 refine av rfl rfl ?_
 refine Run.opsEnd (Run.seq (Run.seq (Run.region ?_)))
 refine mv rfl rfl <| Run.enter wantS_none (ex_call rfl zau zat) Tryz.func35 rfl rfl ?_
 refine Run.seq (Run.region ?_)
 refine av rfl rfl ?_
 refine Run.opsEnd (Run.seq (Run.region ?_))
 refine mv rfl rfl <| og (ex_ptrPNn rfl rfl z8i) rfl <| mv rfl rfl <| gy rfl rfl rfl (ex_move rfl) rfl <| gy rfl rfl rfl (ex_nilP rfl) rfl <| gy rfl rfl rfl (ex_fieldAddr rfl z8a) rfl <| gy rfl rfl rfl (ex_load1 rfl (hH.cells (i := 0) rfl 3 rfl) rdLe_rfl zbs) rfl <| gy rfl rfl rfl (ex_move rfl) rfl <| gy rfl rfl rfl (ex_ptrSame rfl rfl zc4 zc5) rfl <| og (ex_pickT' rfl rfl rfl rfl) rfl <| av rfl rfl <| Run.opsEnd <| Run.retTo Tryz.func35 rfl (res_tmp rfl res_nil) rfl <| og (ex_not rfl) rfl <| Run.opsEnd <| Run.condF' rfl rfl ?_
 refine Run.skip (Run.seq (Run.region ?_))
 refine av rfl rfl ?_
 refine Run.opsEnd (Run.seq (Run.seq (Run.region ?_)))
 refine mv rfl rfl <| og (ex_nilP rfl) rfl <| og (ex_fieldAddr rfl z8c) rfl <| og (ex_load1 rfl (hH.cells (i := 0) rfl 2 rfl) rdLe_rfl z8r) rfl <| og (ex_len' rfl (hH.slcR (i := 2) rfl q) z4n) rfl <| mv rfl rfl ?_
 refine Run.opsEnd (Run.block (Run.loop ?_))
 have s : Has Fr0 M (([.vec 36 10 ([] : List S_api_Notice).length .nils [], .obj g (.row 41 .whole [p, (.int .i64 d), e, (.ptr g 0)]), .vec 166 2 m.length p (m.flatMap z01), .vec 36 10 a.length e n, tb0, tb1, tb2] : List Ent) ++ Hr) := hH.nils 36 10
 exact Run.pick [3, 12, 13, 14] (z3z F d m a g p e n Fr0 Hr F (a.length : Int) (0 : Int) ([] : List S_api_Notice) .nils [] _ _ _ Rows.nil q (fun b c hb => hb) (s.pickT [0, 3, 1, 2, 4, 5, 6] rfl rfl) h)

theorem zfm : aggK Tryz.prog 123 = some (.st [⟨ "Signer", 3, 0, false, "", "", 0⟩, ⟨ "Number", 3, 1, false, "", "", 8⟩]) := by kernel_rfl
theorem zet : aggEq Tryz.prog 123 = false := by kernel_rfl
theorem z15 : planOf Tryz.prog (opsC (atC Tryz.prog 20 [1, 1, 0, 1, 0, 0, 1, 0, 0, 1, 1, 0, 0, 1, 0, 0, 0])) = some [.fl 0, .fl 1, .fl 2, .fl 3, .fl 4, .fl 5, .fl 6, .fl 7, .fl 8, .fl 9, .fl 10, .fl 11, .fl 12, .fl 13, .fl 14, .fl 15, .fl 16, .sync] := by kernel_rfl
theorem z3m : planOf Tryz.prog (opsC (atC Tryz.prog 20 [1, 1, 0, 1, 0, 0, 1, 0, 0, 0, 0])) = some [.fl 0, .fl 1, .fl 2, .fl 3, .fl 4, .fl 5, .fl 6, .fl 7, .fl 8, .fl 9, .an 10 [], .fl 11, .fl 12, .fl 13, .fl 14, .fl 15, .fl 16, .fl 17, .fl 18, .fl 19, .fl 20, .fl 21, .fl 22, .fl 23, .fl 24, .fl 25, .fl 26, .sync] := by kernel_rfl
abbrev z09 (r : Bool) : SV → Mem → Prop := fun s _ => s = (.bool r)

def law10_sameNotices_3 (F : Nat) (d : (List S_api_Notice) → List S_api_Notice → Int → Option (Bool)) : Nat → List S_api_Notice → List S_api_Notice → Int → Int → Option (Bool)
 | 0, _, _, _, _ => none
 | N + 1, v0, v1, v5, v6 =>
  bnd (idx v0 v5) fun m =>
  bif (decide (v6 < (m.Signatures.length : Int))) then
   bnd (idx v0 v5) fun g =>
   bnd (idx g.Signatures v6) fun b =>
   bnd (idx v1 v5) fun e =>
   bnd (idx e.Signatures v6) fun a =>
   bif (!((b.Signer == a.Signer) && ((b.Number == a.Number) && true))) then
    some false
   else
    (law10_sameNotices_3 F d N) v0 v1 v5 (w64 (v6 + (1 : Int)))
  else
   d v0 v1 (w64 (v5 + (1 : Int)))

theorem z6f (F : Nat) (b7 : (List S_api_Notice) → List S_api_Notice → Int → Option (Bool)) (x : ∀ (v0 v1 : List S_api_Notice) (v5 : Int) (b4 b3 : SV) (Fr : Rd) (M : Mem) (r : Bool) (b5 : Slc Fr 10 (rep36 Fr) b4 v0) (b6 : Slc Fr 10 (rep36 Fr) b3 v1) (hH : Has Fr M []), b7 v0 v1 v5 = some r → Run Tryz.prog ⟨⟨20, [], none⟩, []⟩ 72 (z09 r) [(0, b4), (1, b3), (5, (.int .i64 v5))] [codeC Tryz.prog 20 [1, 1, 0, 1, 0, 0], loopC Tryz.prog 20 [1, 1, 0, 1, 0, 0], .inBlock 0, codeC Tryz.prog 20 [1, 1, 1]] M) : ∀ (N : Nat), ∀ (v0 v1 : List S_api_Notice) (v5 v6 : Int) (b4 b3 : SV) (Fr : Rd) (M : Mem) (r : Bool) (b5 : Slc Fr 10 (rep36 Fr) b4 v0) (b6 : Slc Fr 10 (rep36 Fr) b3 v1) (hH : Has Fr M []), law10_sameNotices_3 F b7 N v0 v1 v5 v6 = some r → Run Tryz.prog ⟨⟨20, [], none⟩, []⟩ 72 (z09 r) [(0, b4), (1, b3), (5, (.int .i64 v5)), (6, (.int .i64 v6))] [codeC Tryz.prog 20 [1, 1, 0, 1, 0, 0, 1, 0, 0, 1, 1, 0, 0], loopC Tryz.prog 20 [1, 1, 0, 1, 0, 0, 1, 0, 0, 1, 1, 0, 0], .inBlock 2, .inBlock 1, codeC Tryz.prog 20 [1, 1, 0, 1, 0, 0, 1, 1], loopC Tryz.prog 20 [1, 1, 0, 1, 0, 0], .inBlock 0, codeC Tryz.prog 20 [1, 1, 1]] M := by
 intro N
 induction N with
 | zero =>
  intro v0 v1 v5 v6 b4 b3 Fr M r b5 b6 hH h
  simp [law10_sameNotices_3] at h
 | succ N ih =>
  intro v0 v1 v5 v6 b4 b3 Fr M r b5 b6 hH h
  rw [law10_sameNotices_3] at h
  refine Run.seq (Run.seq (Run.region ?_))
  refine mv rfl rfl <| mv rfl rfl <| mv rfl rfl ?_
  obtain ⟨c0, g, h⟩ := bnd_some h
  obtain ⟨c6, c8, _, g, w, ⟨a8, b0, rfl, a6, q⟩⟩ := sl_elem (P := Tryz.prog) (t := 25) (kk := .i64) b5 g z5c
  refine og (ex_elX rfl rfl g) rfl ?_
  have a2 := (w.fld (o := 9) rfl)
  refine og (ex_fieldAddr rfl z14) rfl <| og (ex_load1 rfl (hH.ptrF a2) rdLe_rfl z82) rfl <| og (ex_len' rfl q z9z) rfl <| og (ex_lss rfl rfl) rfl <| Run.opsEnd ?_
  rcases btf ((decide (v6 < (c0.Signatures.length : Int)))) with hc35 | hc35
  ·have h := bif_t hc35 h
   refine Run.condT' rfl hc35 ?_
   refine Run.skip (Run.seq (Run.block (Run.seq ?_)))
   refine Run.drawG z15 <| df rfl (ex_move rfl) rfl <| df rfl (ex_move rfl) rfl ?_
   obtain ⟨c2, e, h⟩ := bnd_some h
   obtain ⟨d0, c5, _, e, a1, ⟨b1, a9, rfl, a4, p⟩⟩ := sl_elem (P := Tryz.prog) (t := 25) (kk := .i64) b5 e z5c
   refine df rfl (ex_elX rfl rfl e) rfl ?_
   have a3 := (a1.fld (o := 9) rfl)
   refine df rfl (ex_fieldAddr rfl z14) rfl <| df rfl (ex_load1 rfl (hH.ptrF a3) rdLe_rfl z82) rfl <| df rfl (ex_move rfl) rfl ?_
   obtain ⟨b9, b, h⟩ := bnd_some h
   obtain ⟨c3, d2, _, b, s, rfl⟩ := sl_elem (P := Tryz.prog) (t := 34) (kk := .i64) p b zbw
   refine df rfl (ex_elX rfl rfl b) rfl <| df rfl (ex_loadA rfl (hH.ptrF s) rdLe_rfl zbm rfl rfl rfl) rfl <| df rfl (ex_move rfl) rfl <| df rfl (ex_move rfl) rfl ?_
   obtain ⟨c9, d, h⟩ := bnd_some h
   obtain ⟨c7, c4, _, d, y, ⟨b2, a7, rfl, a5, n⟩⟩ := sl_elem (P := Tryz.prog) (t := 25) (kk := .i64) b6 d z5c
   refine df rfl (ex_elX rfl rfl d) rfl ?_
   have u := (y.fld (o := 9) rfl)
   refine df rfl (ex_fieldAddr rfl z14) rfl <| df rfl (ex_load1 rfl (hH.ptrF u) rdLe_rfl z82) rfl <| df rfl (ex_move rfl) rfl ?_
   obtain ⟨b8, m, h⟩ := bnd_some h
   obtain ⟨d1, c1, _, m, a0, rfl⟩ := sl_elem (P := Tryz.prog) (t := 34) (kk := .i64) n m zbw
   refine df rfl (ex_elX rfl rfl m) rfl <| df rfl (ex_loadA rfl (hH.ptrF a0) rdLe_rfl zbm rfl rfl rfl) rfl <| df rfl (ex_neqA rfl rfl zet (eqA_st zfm (eqFs_cons (by decide) (part_one z0c rfl) (part_one z0c rfl) (eqA_int zg5) (eqFs_cons (by decide) (part_one z0c rfl) (part_one z0c rfl) (eqA_int zg5) eqFs_nil)))) rfl <| DrawG.sync <| DrawG.nil ?_
   rcases btf ((!((b9.Signer == b8.Signer) && ((b9.Number == b8.Number) && true)))) with a | a
   ·have h := bif_t a h
    refine Run.condT' rfl a ?_
    refine Run.seq (Run.region ?_)
    refine av rfl rfl <| Run.opsEnd ?_
    cases h
    exact Run.ret Tryz.func20 rfl (res_tmp rfl res_nil) rfl
   ·have h := bif_f a h
    refine Run.condF' rfl a ?_
    refine Run.skip (Run.inBlock (Run.region ?_))
    refine mv rfl rfl <| og (ex_add rfl rfl) rfl <| av rfl rfl ?_
    refine Run.opsEnd (Run.inLoop ?_)
    exact Run.pick [0, 1, 5, 6] (ih v0 v1 v5 (w64 (v6 + (1 : Int))) b4 b3 _ _ _ b5 b6 hH h)
  ·have h := bif_f hc35 h
   refine Run.condF' rfl hc35 ?_
   refine Run.exit rfl (Run.inBlock (Run.region ?_))
   refine mv rfl rfl <| og (ex_add rfl rfl) rfl <| av rfl rfl ?_
   refine Run.opsEnd (Run.inLoop ?_)
   exact Run.pick [0, 1, 5] (x v0 v1 (w64 (v5 + (1 : Int))) b4 b3 _ _ _ b5 b6 hH h)

def law10_sameNotices_2 (F : Nat) (a : (List S_api_Notice) → List S_api_Notice → Int → Option (Bool)) (v0 v1 : List S_api_Notice) (v5 : Int) (b : Bool) : Option (Bool) :=
 bif b then
  some false
 else
  law10_sameNotices_3 F a F v0 v1 v5 (0 : Int)

theorem z2o (F : Nat) (p : (List S_api_Notice) → List S_api_Notice → Int → Option (Bool)) (b : ∀ (v0 v1 : List S_api_Notice) (v5 : Int) (e d : SV) (Fr : Rd) (M : Mem) (r : Bool) (n : Slc Fr 10 (rep36 Fr) e v0) (m : Slc Fr 10 (rep36 Fr) d v1) (hH : Has Fr M []), p v0 v1 v5 = some r → Run Tryz.prog ⟨⟨20, [], none⟩, []⟩ 72 (z09 r) [(0, e), (1, d), (5, (.int .i64 v5))] [codeC Tryz.prog 20 [1, 1, 0, 1, 0, 0], loopC Tryz.prog 20 [1, 1, 0, 1, 0, 0], .inBlock 0, codeC Tryz.prog 20 [1, 1, 1]] M) : ∀ (v0 v1 : List S_api_Notice) (v5 : Int) (g : Bool) (e d : SV) (Fr : Rd) (M : Mem) (r : Bool) (n : Slc Fr 10 (rep36 Fr) e v0) (m : Slc Fr 10 (rep36 Fr) d v1) (hH : Has Fr M []), law10_sameNotices_2 F p v0 v1 v5 g = some r → Run Tryz.prog ⟨⟨20, [], none⟩, []⟩ 72 (z09 r) [(0, e), (1, d), (5, (.int .i64 v5)), (44, (.bool g))] [codeC Tryz.prog 20 [1, 1, 0, 1, 0, 0, 1, 0, 0, 0, 1], codeC Tryz.prog 20 [1, 1, 0, 1, 0, 0, 1, 0, 0, 1], .inBlock 1, codeC Tryz.prog 20 [1, 1, 0, 1, 0, 0, 1, 1], loopC Tryz.prog 20 [1, 1, 0, 1, 0, 0], .inBlock 0, codeC Tryz.prog 20 [1, 1, 1]] M := by
 intro v0 v1 v5 g e d Fr M r n m hH h
 rw [law10_sameNotices_2] at h
 rcases btf (g) with a | a
 ·have h := bif_t a h
  refine Run.condT' rfl a ?_
  refine Run.seq (Run.region ?_)
  refine av rfl rfl <| Run.opsEnd ?_
  cases h
  exact Run.ret Tryz.func20 rfl (res_tmp rfl res_nil) rfl
 ·have h := bif_f a h
  refine Run.condF' rfl a ?_
  refine Run.skip (Run.seq (Run.region ?_))
  refine av rfl rfl ?_
  refine Run.opsEnd (Run.block (Run.loop ?_))
  exact Run.pick [0, 1, 5, 6] (z6f F p b F v0 v1 v5 (0 : Int) e d _ _ _ n m hH h)

def law10_sameNotices_1 (F : Nat) : Nat → List S_api_Notice → List S_api_Notice → Int → Option (Bool)
 | 0, _, _, _ => none
 | N + 1, v0, v1, v5 =>
  bif (decide (v5 < (v0.length : Int))) then
   bnd (idx v0 v5) fun d =>
   bnd (idx v1 v5) fun e =>
   bnd (law10_same F d.Alert e.Alert) fun g =>
   bif (!g) then
    law10_sameNotices_2 F (law10_sameNotices_1 F N) v0 v1 v5 true
   else
    bnd (idx v0 v5) fun a =>
    bnd (idx v1 v5) fun b =>
    law10_sameNotices_2 F (law10_sameNotices_1 F N) v0 v1 v5 (!((a.Signatures.length : Int) == (b.Signatures.length : Int)))
  else
   some true

theorem z6k (F : Nat) : ∀ (N : Nat), ∀ (v0 v1 : List S_api_Notice) (v5 : Int) (b9 b8 : SV) (Fr : Rd) (M : Mem) (r : Bool) (b6 : Slc Fr 10 (rep36 Fr) b9 v0) (b7 : Slc Fr 10 (rep36 Fr) b8 v1) (hH : Has Fr M []), law10_sameNotices_1 F N v0 v1 v5 = some r → Run Tryz.prog ⟨⟨20, [], none⟩, []⟩ 72 (z09 r) [(0, b9), (1, b8), (5, (.int .i64 v5))] [codeC Tryz.prog 20 [1, 1, 0, 1, 0, 0], loopC Tryz.prog 20 [1, 1, 0, 1, 0, 0], .inBlock 0, codeC Tryz.prog 20 [1, 1, 1]] M := by
 intro N
 induction N with
 | zero =>
  intro v0 v1 v5 b9 b8 Fr M r b6 b7 hH h
  simp [law10_sameNotices_1] at h
 | succ N ih =>
  intro v0 v1 v5 b9 b8 Fr M r b6 b7 hH h
  rw [law10_sameNotices_1] at h
  refine Run.seq (Run.seq (Run.region ?_))
  refine mv rfl rfl <| mv rfl rfl <| og (ex_len' rfl b6 z4n) rfl <| og (ex_lss rfl rfl) rfl <| Run.opsEnd ?_
  rcases btf ((decide (v5 < (v0.length : Int)))) with hc22 | hc22
  ·have h := bif_t hc22 h
   refine Run.condT' rfl hc22 ?_
   refine Run.skip (Run.seq (Run.block (Run.seq (Run.seq ?_))))
   refine Run.drawG z3m <| df rfl (ex_move rfl) rfl <| df rfl (ex_move rfl) rfl ?_
   obtain ⟨c1, g, h⟩ := bnd_some h
   obtain ⟨c7, c6, _, g, a1, ⟨s, b1, rfl, m, a7⟩⟩ := sl_elem (P := Tryz.prog) (t := 25) (kk := .i64) b6 g z5c
   refine df rfl (ex_elX rfl rfl g) rfl ?_
   have a2 := (a1.fld (o := 0) rfl)
   refine df rfl (ex_fieldAddr rfl z0a) rfl <| df rfl (ex_loadA rfl (hH.ptrF a2) rdLe_rfl z0m rfl rfl rfl) rfl <| df rfl (ex_move rfl) rfl <| df rfl (ex_move rfl) rfl ?_
   obtain ⟨c0, e, h⟩ := bnd_some h
   obtain ⟨d2, d0, _, e, a4, ⟨u, b5, rfl, q, a9⟩⟩ := sl_elem (P := Tryz.prog) (t := 25) (kk := .i64) b7 e z5c
   refine df rfl (ex_elX rfl rfl e) rfl ?_
   have y := (a4.fld (o := 0) rfl)
   refine df rfl (ex_fieldAddr rfl z0a) rfl <| df rfl (ex_loadA rfl (hH.ptrF y) rdLe_rfl z0m rfl rfl rfl) rfl ?_
   obtain ⟨c3, a5, h⟩ := bnd_some h
   refine DrawG.callP rfl wantS_none (ex_call rfl zbu zbz) rfl (z2e F c1.Alert c0.Alert s u _ _ (hH.slcF m) (hH.slcF q) a5) st_nil <| df rfl (ex_not rfl) rfl <| df rfl (ex_move rfl) rfl ?_
   rcases btf ((!c3)) with a | a
   ·have h := bif_t a h
    refine dn rfl rfl rfl a rfl <| dn rfl rfl rfl a rfl <| dn rfl rfl rfl a rfl <| dn rfl rfl rfl a rfl <| dn rfl rfl rfl a rfl <| dn rfl rfl rfl a rfl <| dn rfl rfl rfl a rfl <| dn rfl rfl rfl a rfl <| dn rfl rfl rfl a rfl <| dn rfl rfl rfl a rfl <| dn rfl rfl rfl a rfl <| dn rfl rfl rfl a rfl <| dn rfl rfl rfl a rfl <| df rfl (ex_pickT' rfl a rfl rfl) rfl <| DrawG.sync <| DrawG.nil ?_
    exact Run.pick [0, 1, 5, 44] (z2o F (law10_sameNotices_1 F N) ih v0 v1 v5 true b9 b8 _ _ _ b6 b7 hH h)
   ·have h := bif_f a h
    refine dy rfl rfl rfl a (ex_move rfl) rfl <| dy rfl rfl rfl a (ex_move rfl) rfl ?_
    obtain ⟨c2, d, h⟩ := bnd_some h
    obtain ⟨d1, c5, _, d, a0, ⟨b0, b2, rfl, a8, p⟩⟩ := sl_elem (P := Tryz.prog) (t := 25) (kk := .i64) b6 d z5c
    refine dy rfl rfl rfl a (ex_elX rfl rfl d) rfl ?_
    have x := (a0.fld (o := 9) rfl)
    refine dy rfl rfl rfl a (ex_fieldAddr rfl z14) rfl <| dy rfl rfl rfl a (ex_load1 rfl (hH.ptrF x) rdLe_rfl z82) rfl <| dy rfl rfl rfl a (ex_len' rfl p z9z) rfl <| dy rfl rfl rfl a (ex_move rfl) rfl <| dy rfl rfl rfl a (ex_move rfl) rfl ?_
    obtain ⟨c4, b, h⟩ := bnd_some h
    obtain ⟨c9, c8, _, b, w, ⟨b3, b4, rfl, a6, n⟩⟩ := sl_elem (P := Tryz.prog) (t := 25) (kk := .i64) b7 b z5c
    refine dy rfl rfl rfl a (ex_elX rfl rfl b) rfl ?_
    have a3 := (w.fld (o := 9) rfl)
    refine dy rfl rfl rfl a (ex_fieldAddr rfl z14) rfl <| dy rfl rfl rfl a (ex_load1 rfl (hH.ptrF a3) rdLe_rfl z82) rfl <| dy rfl rfl rfl a (ex_len' rfl n z9z) rfl <| dy rfl rfl rfl a (ex_neq rfl rfl) rfl <| df rfl (ex_pickF' rfl a rfl rfl) rfl <| DrawG.sync <| DrawG.nil ?_
    exact Run.pick [0, 1, 5, 44] (z2o F (law10_sameNotices_1 F N) ih v0 v1 v5 (!((c2.Signatures.length : Int) == (c4.Signatures.length : Int))) b9 b8 _ _ _ b6 b7 hH h)
  ·have h := bif_f hc22 h
   refine Run.condF' rfl hc22 ?_
   refine Run.exit rfl (Run.seq (Run.region ?_))
   refine av rfl rfl <| Run.opsEnd ?_
   cases h
   exact Run.ret Tryz.func20 rfl (res_tmp rfl res_nil) rfl

def law10_sameNotices (F : Nat) (a0 a1 : List S_api_Notice) : Option (Bool) :=
 bif (!((a0.length : Int) == (a1.length : Int))) then
  some false
 else
  law10_sameNotices_1 F F a0 a1 (0 : Int)

theorem z7l (F : Nat) (a0 a1 : List S_api_Notice) (s0 s1 : SV) (r : Bool) (M : Mem) (b : Slc (rd M) 10 (rep36 (rd M)) s0 a0) (a : Slc (rd M) 10 (rep36 (rd M)) s1 a1) (h : law10_sameNotices F a0 a1 = some r) : CallsM Tryz.prog 20 [s0, s1] M (fun s M' => s = (.bool r) ∧ M' = M) := by
 refine CallsM.plain Tryz.func20 rfl rfl rfl (show Run _ _ _ (z09 r) _ _ _ from ?_)
 rw [law10_sameNotices] at h
 replace b := b.mono (rdLe_frozen M) (fun _ _ => z02 (rdLe_frozen M))
 replace a := a.mono (rdLe_frozen M) (fun _ _ => z02 (rdLe_frozen M))
 have hH := Has.nil (frozen M)
 refine Run.seq (Run.region ?_)
 refine av rfl rfl ?_
 refine Run.opsEnd (Run.seq (Run.seq (Run.region ?_)))
 refine mv rfl rfl <| og (ex_len' rfl b z4n) rfl <| mv rfl rfl <| og (ex_len' rfl a z4n) rfl <| og (ex_neq rfl rfl) rfl <| Run.opsEnd ?_
 rcases btf ((!((a0.length : Int) == (a1.length : Int)))) with hc21 | hc21
 ·have h := bif_t hc21 h
  refine Run.condT' rfl hc21 ?_
  refine Run.seq (Run.region ?_)
  refine av rfl rfl <| Run.opsEnd ?_
  cases h
  exact Run.ret Tryz.func20 rfl (res_tmp rfl res_nil) rfl
 ·have h := bif_f hc21 h
  refine Run.condF' rfl hc21 ?_
  refine Run.skip (Run.seq (Run.seq (Run.region ?_)))
  refine av rfl rfl ?_
  refine Run.opsEnd (Run.block (Run.loop ?_))
  exact Run.pick [0, 1, 5] (z6k F F a0 a1 (0 : Int) s0 s1 _ _ _ b a hH h)

theorem zg6 : makeK Tryz.prog 20 = none := by kernel_rfl
theorem zhe : callable Tryz.prog 20 = true := by kernel_rfl
theorem z3a : planOf Tryz.prog (opsC (atC Tryz.prog 3 [1, 1, 1, 1, 1, 1, 1, 1, 1, 1, 1, 0])) = some [.fl 0, .fl 1, .an 2 [], .fl 3, .fl 4, .fl 5, .fl 6, .fl 7, .fl 8, .fl 9, .fl 11, .fl 12, .fl 13, .fl 14, .an 10 [14, 13, 12, 11], .an 15 [], .fl 16, .fl 17, .an 18 [], .fl 19, .fl 20, .sync] := by kernel_rfl
abbrev law10_AlertBoards_post (r : Bool) : SV → Mem → Prop := fun s _ => s = (.bool r)

def z1q (F : Nat) (v1 : List S_api_Notice) (b : List S_api_Key) (a : Int) : Option (Bool) :=
 some false

theorem z6g (F : Nat) : ∀ (v1 : List S_api_Notice) (d : List S_api_Key) (b : Int) (m a : SV) (g : Pos) (Fr : Rd) (M : Mem) (r : Bool) (n : Slc Fr 10 (rep36 Fr) m v1) (e : Slc Fr 2 (FlatR enc108) a d) (hH : Has Fr M [.obj g (.row 24 .whole [a, (.int .i64 b)]), tb0, tb1, tb2]), z1q F v1 d b = some r → Run Tryz.prog ⟨⟨3, [], none⟩, []⟩ 180 (law10_AlertBoards_post r) [(1, m), (2, (.ptr g 0)), (5, .nilp), (29, (.bool true))] [itemC Tryz.prog 3 [1, 1, 0, 0] 11, codeC Tryz.prog 3 [1, 1, 0, 1], codeC Tryz.prog 3 [1, 1, 1]] M := by
 intro v1 d b m a g Fr M r n e hH h
 rw [z1q] at h
 refine mv rfl rfl <| gn rfl rfl rfl rfl <| gn rfl rfl rfl rfl <| gn rfl rfl rfl rfl <| gn rfl rfl rfl rfl <| og (ex_pickT' rfl rfl rfl rfl) rfl <| mv rfl rfl <| gn rfl rfl rfl rfl <| gn rfl rfl rfl rfl <| gn rfl rfl rfl rfl <| gn rfl rfl rfl rfl <| og (ex_pickT' rfl rfl rfl rfl) rfl <| Run.opsEnd <| Run.condT' rfl rfl ?_
 refine Run.seq (Run.region ?_)
 refine av rfl rfl <| Run.opsEnd ?_
 cases h
 exact Run.ret Tryz.func3 rfl (res_tmp rfl res_nil) rfl

def z1p (F : Nat) (v1 : List S_api_Notice) (b : List S_api_Key) (a : Int) : Option (Bool) :=
 some false

theorem z6b (F : Nat) : ∀ (v1 : List S_api_Notice) (d : List S_api_Key) (b : Int) (m a : SV) (g : Pos) (Fr : Rd) (M : Mem) (r : Bool) (n : Slc Fr 10 (rep36 Fr) m v1) (e : Slc Fr 2 (FlatR enc108) a d) (hH : Has Fr M [.obj g (.row 24 .whole [a, (.int .i64 b)]), tb0, tb1, tb2]), z1p F v1 d b = some r → Run Tryz.prog ⟨⟨3, [], none⟩, []⟩ 180 (law10_AlertBoards_post r) [(1, m), (2, (.ptr g 0)), (5, .nilp), (35, (.bool true))] [itemC Tryz.prog 3 [1, 1, 0, 0] 17, codeC Tryz.prog 3 [1, 1, 0, 1], codeC Tryz.prog 3 [1, 1, 1]] M := by
 intro v1 d b m a g Fr M r n e hH h
 rw [z1p] at h
 refine mv rfl rfl <| gn rfl rfl rfl rfl <| gn rfl rfl rfl rfl <| gn rfl rfl rfl rfl <| gn rfl rfl rfl rfl <| og (ex_pickT' rfl rfl rfl rfl) rfl <| Run.opsEnd <| Run.condT' rfl rfl ?_
 refine Run.seq (Run.region ?_)
 refine av rfl rfl <| Run.opsEnd ?_
 cases h
 exact Run.ret Tryz.func3 rfl (res_tmp rfl res_nil) rfl

def z1s (F : Nat) (v1 : List S_api_Notice) (b : List S_api_Key) (a : Int) : Option (Bool) :=
 some false

theorem z66 (F : Nat) : ∀ (v1 : List S_api_Notice) (d : List S_api_Key) (b : Int) (m a : SV) (g : Pos) (Fr : Rd) (M : Mem) (r : Bool) (n : Slc Fr 10 (rep36 Fr) m v1) (e : Slc Fr 2 (FlatR enc108) a d) (hH : Has Fr M [.obj g (.row 24 .whole [a, (.int .i64 b)]), tb0, tb1, tb2]), z1s F v1 d b = some r → Run Tryz.prog ⟨⟨3, [], none⟩, []⟩ 180 (law10_AlertBoards_post r) [(1, m), (2, (.ptr g 0)), (41, (.bool true))] [codeC Tryz.prog 3 [1, 1, 0, 1], codeC Tryz.prog 3 [1, 1, 1]] M := by
 intro v1 d b m a g Fr M r n e hH h
 rw [z1s] at h
 refine Run.condT' rfl rfl ?_
 refine Run.seq (Run.region ?_)
 refine av rfl rfl <| Run.opsEnd ?_
 cases h
 exact Run.ret Tryz.func3 rfl (res_tmp rfl res_nil) rfl

def z1t (F : Nat) (v1 : List S_api_Notice) (b : List S_api_Key) (a : Int) : Option (Bool) :=
 some false

theorem z6e (F : Nat) : ∀ (v1 : List S_api_Notice) (d : List S_api_Key) (b : Int) (m a : SV) (g : Pos) (Fr : Rd) (M : Mem) (r : Bool) (n : Slc Fr 10 (rep36 Fr) m v1) (e : Slc Fr 2 (FlatR enc108) a d) (hH : Has Fr M [.obj g (.row 24 .whole [a, (.int .i64 b)]), tb0, tb1, tb2]), z1t F v1 d b = some r → Run Tryz.prog ⟨⟨3, [], none⟩, []⟩ 180 (law10_AlertBoards_post r) [(1, m), (2, (.ptr g 0)), (55, (.bool true))] [codeC Tryz.prog 3 [1, 1, 1, 0, 1, 1], codeC Tryz.prog 3 [1, 1, 1, 1]] M := by
 intro v1 d b m a g Fr M r n e hH h
 rw [z1t] at h
 refine Run.condT' rfl rfl ?_
 refine Run.seq (Run.region ?_)
 refine av rfl rfl <| Run.opsEnd ?_
 cases h
 exact Run.ret Tryz.func3 rfl (res_tmp rfl res_nil) rfl

def z1u (F : Nat) (v1 : List S_api_Notice) (v9 : Int) : Option (Bool) :=
 some false

theorem z5y (F : Nat) : ∀ (v1 : List S_api_Notice) (v9 : Int) (a : SV) (Fr : Rd) (M : Mem) (r : Bool) (b : Slc Fr 10 (rep36 Fr) a v1) (hH : Has Fr M [tb0, tb1, tb2]), z1u F v1 v9 = some r → Run Tryz.prog ⟨⟨3, [], none⟩, []⟩ 180 (law10_AlertBoards_post r) [(1, a), (8, .nilp), (9, (.int .i64 v9)), (10, .nilp), (75, (.bool true))] [codeC Tryz.prog 3 [1, 1, 1, 1, 1, 1, 0, 1], codeC Tryz.prog 3 [1, 1, 1, 1, 1, 1, 1]] M := by
 intro v1 v9 a Fr M r b hH h
 rw [z1u] at h
 refine Run.condT' rfl rfl ?_
 refine Run.seq (Run.region ?_)
 refine av rfl rfl <| Run.opsEnd ?_
 cases h
 exact Run.ret Tryz.func3 rfl (res_tmp rfl res_nil) rfl

def law10_AlertBoards_10 (F : Nat) (v1 : List S_api_Notice) (v9 : Int) : Option (Bool) :=
 bif (!(v9 == (0 : Int))) then
  bnd (works F) fun a =>
  some a
 else
  none

theorem z5s (F : Nat) : ∀ (v1 : List S_api_Notice) (v9 : Int) (b : SV) (Fr : Rd) (M : Mem) (r : Bool) (d : Slc Fr 10 (rep36 Fr) b v1) (hH : Has Fr M [tb0, tb1, tb2]), law10_AlertBoards_10 F v1 v9 = some r → Run Tryz.prog ⟨⟨3, [], none⟩, []⟩ 180 (law10_AlertBoards_post r) [(1, b), (8, .nilp), (9, (.int .i64 v9)), (10, .nilp), (75, (.bool false))] [codeC Tryz.prog 3 [1, 1, 1, 1, 1, 1, 0, 1], codeC Tryz.prog 3 [1, 1, 1, 1, 1, 1, 1]] M := by
 intro v1 v9 b Fr M r d hH h
 rw [law10_AlertBoards_10] at h
 refine Run.condF' rfl rfl ?_
 refine Run.skip (Run.seq (Run.seq (Run.region ?_)))
 refine mv rfl rfl <| og (ex_neq rfl rfl) rfl <| Run.opsEnd ?_
 rcases btf ((!(v9 == (0 : Int)))) with hc76 | hc76
 ·have h := bif_t hc76 h
  refine Run.condT' rfl hc76 ?_
  refine Run.seq (Run.region ?_)
  obtain ⟨e, a, h⟩ := bnd_some h
  refine Run.callP wantS_none (ex_call rfl zd8 zd6) rfl (zay F e _ hH (List.mem_of_getElem? (i := 0) rfl) (List.mem_of_getElem? (i := 1) rfl) (List.mem_of_getElem? (i := 2) rfl) a) <| av rfl rfl <| Run.opsEnd ?_
  cases h
  exact Run.ret Tryz.func3 rfl (res_tmp rfl res_nil) rfl
 ·have h := bif_f hc76 h
  refine Run.condF' rfl hc76 ?_
  refine Run.skip (Run.seq (Run.seq (Run.region ?_)))
  cases h

def z1i (F : Nat) (v1 : List S_api_Notice) (v9 a : Int) (b : List S_api_Key) : Option (Bool) :=
 some false

theorem z5q (F : Nat) : ∀ (v1 : List S_api_Notice) (v9 a : Int) (b : List S_api_Key) (e : SV) (g : Pos) (d : SV) (Fr : Rd) (M : Mem) (r : Bool) (m : Slc Fr 10 (rep36 Fr) e v1) (hH : Has Fr M [.obj g (.row 58 .whole [d, (.int .i64 a), .nils]), .vec 108 2 b.length d (b.flatMap enc108), tb0, tb1, tb2]), z1i F v1 v9 a b = some r → Run Tryz.prog ⟨⟨3, [], none⟩, []⟩ 180 (law10_AlertBoards_post r) [(1, e), (8, .nilp), (9, (.int .i64 v9)), (10, (.ptr g 0)), (75, (.bool true))] [codeC Tryz.prog 3 [1, 1, 1, 1, 1, 1, 0, 1], codeC Tryz.prog 3 [1, 1, 1, 1, 1, 1, 1]] M := by
 intro v1 v9 a b e g d Fr M r m hH h
 rw [z1i] at h
 refine Run.condT' rfl rfl ?_
 refine Run.seq (Run.region ?_)
 refine av rfl rfl <| Run.opsEnd ?_
 cases h
 exact Run.ret Tryz.func3 rfl (res_tmp rfl res_nil) rfl

def z0v (F : Nat) (v1 : List S_api_Notice) (v9 a : Int) (b : List S_api_Key) : Option (Bool) :=
 some false

theorem z2j (F : Nat) : ∀ (v1 : List S_api_Notice) (v9 a : Int) (d : List S_api_Key) (e : SV) (b : Pos) (g : SV) (Fr : Rd) (M : Mem) (r : Bool) (m : Slc Fr 10 (rep36 Fr) e v1) (hH : Has Fr M [.obj b (.row 41 .whole [g, (.int .i64 a), .nils, (.ptr b 0)]), .vec 166 2 d.length g (d.flatMap z01), tb0, tb1, tb2]), z0v F v1 v9 a d = some r → Run Tryz.prog ⟨⟨3, [], none⟩, []⟩ 180 (law10_AlertBoards_post r) [(1, e), (8, (.ptr b 0)), (9, (.int .i64 v9)), (10, .nilp), (75, (.bool true))] [codeC Tryz.prog 3 [1, 1, 1, 1, 1, 1, 0, 1], codeC Tryz.prog 3 [1, 1, 1, 1, 1, 1, 1]] M := by
 intro v1 v9 a d e b g Fr M r m hH h
 rw [z0v] at h
 refine Run.condT' rfl rfl ?_
 refine Run.seq (Run.region ?_)
 refine av rfl rfl <| Run.opsEnd ?_
 cases h
 exact Run.ret Tryz.func3 rfl (res_tmp rfl res_nil) rfl

def z0x (F : Nat) (v1 : List S_api_Notice) (n b a : Int) (m : List S_api_Key) (d : List S_api_Notice) (g : List S_api_Key) (e : List S_api_Notice) : Option (Bool) :=
 some false

theorem z2b (F : Nat) : ∀ (v1 : List S_api_Notice) (a1 b a : Int) (a0 : List S_api_Key) (e : List S_api_Notice) (d : List S_api_Key) (g : List S_api_Notice) (a3 : SV) (y : Pos) (a2 m : SV) (n : List SV) (u : Pos) (p s : SV) (q : List SV) (Fr : Rd) (M : Mem) (r : Bool) (a4 : Slc Fr 10 (rep36 Fr) a3 v1) (x : Rows (rep36 Fr) 10 n e) (w : Rows (rep36 Fr) 10 q g) (hH : Has Fr M [.obj y (.row 41 .whole [a2, (.int .i64 b), m, (.ptr y 0)]), .vec 166 2 a0.length a2 (a0.flatMap z01), .vec 36 10 e.length m n, .obj u (.row 58 .whole [p, (.int .i64 a), s]), .vec 108 2 d.length p (d.flatMap enc108), .vec 36 10 g.length s q, tb0, tb1, tb2]), z0x F v1 a1 b a a0 e d g = some r → Run Tryz.prog ⟨⟨3, [], none⟩, []⟩ 180 (law10_AlertBoards_post r) [(1, a3), (8, (.ptr y 0)), (10, (.ptr u 0)), (12, (.int .i64 a1)), (149, (.bool true))] [codeC Tryz.prog 3 [1, 1, 1, 1, 1, 1, 1, 1, 0, 1, 0, 0, 1, 0, 0, 1, 1, 1, 1], .inBlock 1, codeC Tryz.prog 3 [1, 1, 1, 1, 1, 1, 1, 1, 0, 1, 0, 0, 1, 1], loopC Tryz.prog 3 [1, 1, 1, 1, 1, 1, 1, 1, 0, 1, 0, 0], .inBlock 0, codeC Tryz.prog 3 [1, 1, 1, 1, 1, 1, 1, 1, 1]] M := by
 intro v1 a1 b a a0 e d g a3 y a2 m n u p s q Fr M r a4 x w hH h
 rw [z0x] at h
 refine Run.condT' rfl rfl ?_
 refine Run.seq (Run.region ?_)
 refine av rfl rfl <| Run.opsEnd ?_
 cases h
 exact Run.ret Tryz.func3 rfl (res_tmp rfl res_nil) rfl

def law10_AlertBoards_16 (F : Nat) (d : (List S_api_Notice) → Int → Int → Int → List S_api_Key → List S_api_Notice → List S_api_Key → List S_api_Notice → Option (Bool)) (v1 : List S_api_Notice) (q : Int) (m : Bool) (b a : Int) (p : List S_api_Key) (g : List S_api_Notice) (n : List S_api_Key) (e : List S_api_Notice) : Option (Bool) :=
 bif m then
  some false
 else
  d v1 (w64 (q + (1 : Int))) b a p g n e

theorem z5p (F : Nat) (a7 : (List S_api_Notice) → Int → Int → Int → List S_api_Key → List S_api_Notice → List S_api_Key → List S_api_Notice → Option (Bool)) (a8 : ∀ (v1 : List S_api_Notice) (b3 b a : Int) (b2 : List S_api_Key) (a0 : List S_api_Notice) (d : List S_api_Key) (y : List S_api_Notice) (b5 : SV) (b1 : Pos) (b4 a6 : SV) (a3 : List SV) (g : Pos) (e a5 : SV) (a4 : List SV) (Fr : Rd) (M : Mem) (r : Bool) (b6 : Slc Fr 10 (rep36 Fr) b5 v1) (b0 : Rows (rep36 Fr) 10 a3 a0) (a9 : Rows (rep36 Fr) 10 a4 y) (hH : Has Fr M [.obj b1 (.row 41 .whole [b4, (.int .i64 b), a6, (.ptr b1 0)]), .vec 166 2 b2.length b4 (b2.flatMap z01), .vec 36 10 a0.length a6 a3, .obj g (.row 58 .whole [e, (.int .i64 a), a5]), .vec 108 2 d.length e (d.flatMap enc108), .vec 36 10 y.length a5 a4, tb0, tb1, tb2]), a7 v1 b3 b a b2 a0 d y = some r → Run Tryz.prog ⟨⟨3, [], none⟩, []⟩ 180 (law10_AlertBoards_post r) [(1, b5), (8, (.ptr b1 0)), (10, (.ptr g 0)), (12, (.int .i64 b3))] [codeC Tryz.prog 3 [1, 1, 1, 1, 1, 1, 1, 1, 0, 1, 0, 0], loopC Tryz.prog 3 [1, 1, 1, 1, 1, 1, 1, 1, 0, 1, 0, 0], .inBlock 0, codeC Tryz.prog 3 [1, 1, 1, 1, 1, 1, 1, 1, 1]] M) : ∀ (v1 : List S_api_Notice) (b3 : Int) (s : Bool) (b a : Int) (b2 : List S_api_Key) (n : List S_api_Notice) (d : List S_api_Key) (p : List S_api_Notice) (b5 : SV) (b1 : Pos) (b4 q : SV) (u : List SV) (g : Pos) (e x : SV) (w : List SV) (Fr : Rd) (M : Mem) (r : Bool) (b6 : Slc Fr 10 (rep36 Fr) b5 v1) (a2 : Rows (rep36 Fr) 10 u n) (a1 : Rows (rep36 Fr) 10 w p) (hH : Has Fr M [.obj b1 (.row 41 .whole [b4, (.int .i64 b), q, (.ptr b1 0)]), .vec 166 2 b2.length b4 (b2.flatMap z01), .vec 36 10 n.length q u, .obj g (.row 58 .whole [e, (.int .i64 a), x]), .vec 108 2 d.length e (d.flatMap enc108), .vec 36 10 p.length x w, tb0, tb1, tb2]), law10_AlertBoards_16 F a7 v1 b3 s b a b2 n d p = some r → Run Tryz.prog ⟨⟨3, [], none⟩, []⟩ 180 (law10_AlertBoards_post r) [(1, b5), (8, (.ptr b1 0)), (10, (.ptr g 0)), (12, (.int .i64 b3)), (149, (.bool s))] [codeC Tryz.prog 3 [1, 1, 1, 1, 1, 1, 1, 1, 0, 1, 0, 0, 1, 0, 0, 1, 1, 1, 1], .inBlock 1, codeC Tryz.prog 3 [1, 1, 1, 1, 1, 1, 1, 1, 0, 1, 0, 0, 1, 1], loopC Tryz.prog 3 [1, 1, 1, 1, 1, 1, 1, 1, 0, 1, 0, 0], .inBlock 0, codeC Tryz.prog 3 [1, 1, 1, 1, 1, 1, 1, 1, 1]] M := by
 intro v1 b3 s b a b2 n d p b5 b1 b4 q u g e x w Fr M r b6 a2 a1 hH h
 rw [law10_AlertBoards_16] at h
 rcases btf (s) with m | m
 ·have h := bif_t m h
  refine Run.condT' rfl m ?_
  refine Run.seq (Run.region ?_)
  refine av rfl rfl <| Run.opsEnd ?_
  cases h
  exact Run.ret Tryz.func3 rfl (res_tmp rfl res_nil) rfl
 ·have h := bif_f m h
  refine Run.condF' rfl m ?_
  refine Run.skip (Run.inBlock (Run.region ?_))
  refine mv rfl rfl <| og (ex_add rfl rfl) rfl <| av rfl rfl ?_
  refine Run.opsEnd (Run.inLoop ?_)
  exact Run.pick [1, 8, 10, 12] (a8 v1 (w64 (b3 + (1 : Int))) b a b2 n d p b5 b1 b4 q u g e x w _ _ _ b6 a2 a1 hH h)

def z0b (F : Nat) (v4 : Bool) : Option (Bool) :=
 some v4

theorem z0n (F : Nat) : ∀ (v4 : Bool) (Fr : Rd) (M : Mem) (r : Bool) (hH : Has Fr M [tb0, tb1, tb2]), z0b F v4 = some r → Run Tryz.prog ⟨⟨3, [], none⟩, []⟩ 180 (law10_AlertBoards_post r) [(4, (.bool v4))] [codeC Tryz.prog 3 [1, 1, 1, 1, 1, 1, 1, 1, 1, 1, 1, 1]] M := by
 intro v4 Fr M r hH h
 rw [z0b] at h
 cases h
 exact Run.ret Tryz.func3 rfl (res_tmp rfl res_nil) rfl

def law10_AlertBoards_14 (F : Nat) : Nat → List S_api_Notice → Int → Int → Int → List S_api_Key → List S_api_Notice → List S_api_Key → List S_api_Notice → Option (Bool)
 | 0, _, _, _, _, _, _, _, _ => none
 | N + 1, v1, b2, b, a, b3, x, s, y =>
  bif (decide (b2 < (v1.length : Int))) then
   bnd (idx v1 b2) fun q =>
   bnd (idx v1 b2) fun p =>
   bnd (ref10_OwnNotice_h1 F q.Alert.Event q.Alert.Version q.Alert.Time q.Alert.Chance.N q.Alert.Chance.Of q.Alert.Grid q.Alert.Cells q.Alert.Withdrawn q.Alert.Before q.Signatures) fun g =>
   bnd (alert_Board_Post_h4 F g.1 g.2.1 g.2.2.1 g.2.2.2.1 g.2.2.2.2.1 g.2.2.2.2.2.1 g.2.2.2.2.2.2.1 g.2.2.2.2.2.2.2.1 g.2.2.2.2.2.2.2.2.1 g.2.2.2.2.2.2.2.2.2 b b3 x) fun w =>
   bnd (ref10_Board_Post_h2 F p.Alert.Event p.Alert.Version p.Alert.Time p.Alert.Chance.N p.Alert.Chance.Of p.Alert.Grid p.Alert.Cells p.Alert.Withdrawn p.Alert.Before p.Signatures a s y) fun u =>
   bif (!(w.1 == u.1)) then
    some false
   else
    bnd (idx v1 b2) fun a6 =>
    bnd (alert_Board_Force_h2 F a6.Alert.Event b b3 w.2) fun e =>
    bnd (idx v1 b2) fun a5 =>
    bnd (ref10_Board_Force_h1 F a5.Alert.Event a s u.2) fun m =>
    bnd (law10_same F (S_api_Alert.mk e.1 e.2.1 e.2.2.1 (S_api_Chance.mk e.2.2.2.1 e.2.2.2.2.1) e.2.2.2.2.2.1 e.2.2.2.2.2.2.1 e.2.2.2.2.2.2.2.1 e.2.2.2.2.2.2.2.2.1) (S_api_Alert.mk m.1 m.2.1 m.2.2.1 (S_api_Chance.mk m.2.2.2.1 m.2.2.2.2.1) m.2.2.2.2.2.1 m.2.2.2.2.2.2.1 m.2.2.2.2.2.2.2.1 m.2.2.2.2.2.2.2.2.1)) fun b0 =>
    bif (!b0) then
     z0x F v1 b2 b a b3 w.2 s u.2
    else
     bif (!(e.2.2.2.2.2.2.2.2.2 == m.2.2.2.2.2.2.2.2.2)) then
      z0x F v1 b2 b a b3 w.2 s u.2
     else
      bnd (idx v1 b2) fun a7 =>
      bnd (idx v1 b2) fun a2 =>
      bnd (alert_Board_History_h1 F a7.Alert.Event b b3 w.2) fun a8 =>
      bnd (ref10_Board_History_h1 F a2.Alert.Event a s u.2) fun a4 =>
      bnd (law10_sameAlerts F a8 a4) fun b1 =>
      law10_AlertBoards_16 F (law10_AlertBoards_14 F N) v1 b2 (!b1) b a b3 w.2 s u.2
  else
   bnd (alert_Board_Force_h2 F [110, 111, 98, 111, 100, 121] b b3 x) fun n =>
   bnd (ref10_Board_Force_h1 F [110, 111, 98, 111, 100, 121] a s y) fun d =>
   bnd (law10_same F (S_api_Alert.mk n.1 n.2.1 n.2.2.1 (S_api_Chance.mk n.2.2.2.1 n.2.2.2.2.1) n.2.2.2.2.2.1 n.2.2.2.2.2.2.1 n.2.2.2.2.2.2.2.1 n.2.2.2.2.2.2.2.2.1) (S_api_Alert.mk d.1 d.2.1 d.2.2.1 (S_api_Chance.mk d.2.2.2.1 d.2.2.2.2.1) d.2.2.2.2.2.1 d.2.2.2.2.2.2.1 d.2.2.2.2.2.2.2.1 d.2.2.2.2.2.2.2.2.1)) fun a1 =>
   bif a1 then
    bif (n.2.2.2.2.2.2.2.2.2 == d.2.2.2.2.2.2.2.2.2) then
     bnd (alert_Board_Notices_h2 F b b3 x) fun a3 =>
     bnd (law10_sameNotices F a3 y) fun a0 =>
     bif a0 then
      bnd (works F) fun a9 =>
      z0b F a9
     else
      z0b F false
    else
     z0b F false
   else
    z0b F false

theorem z5l (F : Nat) : ∀ (N : Nat), ∀ (v1 : List S_api_Notice) (w2 u p : Int) (v8 : List S_api_Key) (b7 : List S_api_Notice) (m : List S_api_Key) (a8 : List S_api_Notice) (w3 : SV) (v9 : Pos) (w0 a6 : SV) (c1 : List SV) (y : Pos) (n a0 : SV) (b1 : List SV) (Fr : Rd) (M : Mem) (r : Bool) (w1 : Slc Fr 10 (rep36 Fr) w3 v1) (b5 : Rows (rep36 Fr) 10 c1 b7) (a9 : Rows (rep36 Fr) 10 b1 a8) (hH : Has Fr M [.obj v9 (.row 41 .whole [w0, (.int .i64 u), a6, (.ptr v9 0)]), .vec 166 2 v8.length w0 (v8.flatMap z01), .vec 36 10 b7.length a6 c1, .obj y (.row 58 .whole [n, (.int .i64 p), a0]), .vec 108 2 m.length n (m.flatMap enc108), .vec 36 10 a8.length a0 b1, tb0, tb1, tb2]), law10_AlertBoards_14 F N v1 w2 u p v8 b7 m a8 = some r → Run Tryz.prog ⟨⟨3, [], none⟩, []⟩ 180 (law10_AlertBoards_post r) [(1, w3), (8, (.ptr v9 0)), (10, (.ptr y 0)), (12, (.int .i64 w2))] [codeC Tryz.prog 3 [1, 1, 1, 1, 1, 1, 1, 1, 0, 1, 0, 0], loopC Tryz.prog 3 [1, 1, 1, 1, 1, 1, 1, 1, 0, 1, 0, 0], .inBlock 0, codeC Tryz.prog 3 [1, 1, 1, 1, 1, 1, 1, 1, 1]] M := by
 intro N
 induction N with
 | zero =>
  intro v1 w2 u p v8 b7 m a8 w3 v9 w0 a6 c1 y n a0 b1 Fr M r w1 b5 a9 hH h
  simp [law10_AlertBoards_14] at h
 | succ N ih =>
  intro v1 w2 u p v8 b7 m a8 w3 v9 w0 a6 c1 y n a0 b1 Fr M r w1 b5 a9 hH h
  rw [law10_AlertBoards_14] at h
  refine Run.seq (Run.seq (Run.region ?_))
  refine mv rfl rfl <| mv rfl rfl <| og (ex_len' rfl w1 z4n) rfl <| og (ex_lss rfl rfl) rfl <| Run.opsEnd ?_
  rcases btf ((decide (w2 < (v1.length : Int)))) with hc119 | hc119
  ·have h := bif_t hc119 h
   refine Run.condT' rfl hc119 ?_
   refine Run.skip (Run.seq (Run.block (Run.seq (Run.seq ?_))))
   refine Run.drawG z18 <| df rfl (ex_move rfl) rfl <| df rfl (ex_move rfl) rfl <| df rfl (ex_move rfl) rfl ?_
   obtain ⟨d6, i0, h⟩ := bnd_some h
   obtain ⟨u6, v0, _, i0, e1, ⟨l9, l2, rfl, c5, c6⟩⟩ := sl_elem (P := Tryz.prog) (t := 25) (kk := .i64) w1 i0 z5c
   refine df rfl (ex_elX rfl rfl i0) rfl <| df rfl (ex_loadA rfl (hH.ptrF e1) rdLe_rfl z4b rfl rfl rfl) rfl <| df rfl (ex_move rfl) rfl <| df rfl (ex_move rfl) rfl <| df rfl (ex_move rfl) rfl ?_
   obtain ⟨d7, g1, h⟩ := bnd_some h
   obtain ⟨u7, u9, _, g1, c9, ⟨l4, l5, rfl, b4, b6⟩⟩ := sl_elem (P := Tryz.prog) (t := 25) (kk := .i64) w1 g1 z5c
   refine df rfl (ex_elX rfl rfl g1) rfl <| df rfl (ex_loadA rfl (hH.ptrF c9) rdLe_rfl z4b rfl rfl rfl) rfl ?_
   obtain ⟨d5, o9, h⟩ := bnd_some h
   refine DrawG.call rfl wantS_none (ex_call rfl zfq zfw) rfl (z7j F d6.Alert.Event d6.Alert.Version d6.Alert.Time d6.Alert.Chance.N d6.Alert.Chance.Of d6.Alert.Grid d6.Alert.Cells d6.Alert.Withdrawn d6.Alert.Before d6.Signatures l9 l2 Fr [.obj v9 (.row 41 .whole [w0, (.int .i64 u), a6, (.ptr v9 0)]), .vec 166 2 v8.length w0 (v8.flatMap z01), .vec 36 10 b7.length a6 c1, .obj y (.row 58 .whole [n, (.int .i64 p), a0]), .vec 108 2 m.length n (m.flatMap enc108), .vec 36 10 a8.length a0 b1] _ _ c5 c6 (hH.pick [6, 7, 8, 0, 1, 2, 3, 4, 5] rfl rfl) o9) ?_
   rintro _ s3 ⟨j9, l7, rfl, l0, b8, d9, d8, (j6 : Has l0 s3 [tb0, tb1, tb2, .obj v9 (.row 41 .whole [w0, (.int .i64 u), a6, (.ptr v9 0)]), .vec 166 2 v8.length w0 (v8.flatMap z01), .vec 36 10 b7.length a6 c1, .obj y (.row 58 .whole [n, (.int .i64 p), a0]), .vec 108 2 m.length n (m.flatMap enc108), .vec 36 10 a8.length a0 b1])⟩
   replace e1 := e1.mono b8
   replace c9 := c9.mono b8
   replace c5 := c5.mono b8 (fun _ _ h => h)
   replace c6 := c6.mono b8 (fun _ _ h => h)
   replace b4 := b4.mono b8 (fun _ _ h => h)
   replace b6 := b6.mono b8 (fun _ _ h => h)
   replace w1 := w1.mono b8 (fun _ _ => z02 b8)
   replace a9 := a9.mono fun _ _ => z02 b8
   replace b5 := b5.mono fun _ _ => z02 b8
   refine ⟨(st_cons rfl (ev_ex wantS_none (ex_loadA rfl (j6.ptrF c9) rdLe_rfl z4b rfl rfl rfl)) rfl rfl (self_agg (self_cons rfl (self_cons rfl (self_cons rfl (self_cons rfl (self_cons rfl (self_cons rfl (self_cons (slc_self b4) (self_cons rfl (self_cons rfl (self_cons (slc_self b6) self_nil))))))))))) (st_cons rfl (ev_ex wantS_none (ex_elX rfl rfl g1)) rfl rfl rfl (st_cons rfl (ev_ex wantS_none (ex_move rfl)) rfl rfl rfl (st_cons rfl (ev_ex wantS_none (ex_move rfl)) rfl rfl (slc_self w1) (st_cons rfl (ev_ex wantS_none (ex_move rfl)) rfl rfl rfl (st_cons rfl (ev_ex wantS_none (ex_move rfl)) rfl rfl rfl st_nil)))))), ?_⟩
   obtain ⟨b0, o8, h⟩ := bnd_some h
   refine DrawG.call rfl wantS_none (ex_call rfl zgs zgf) rfl (z61 F d5.1 d5.2.1 d5.2.2.1 d5.2.2.2.1 d5.2.2.2.2.1 d5.2.2.2.2.2.1 d5.2.2.2.2.2.2.1 d5.2.2.2.2.2.2.2.1 d5.2.2.2.2.2.2.2.2.1 d5.2.2.2.2.2.2.2.2.2 u v8 b7 j9 l7 v9 w0 a6 c1 l0 [.obj y (.row 58 .whole [n, (.int .i64 p), a0]), .vec 108 2 m.length n (m.flatMap enc108), .vec 36 10 a8.length a0 b1] _ _ d9 d8 b5 (j6.pick [3, 4, 5, 0, 1, 2, 6, 7, 8] rfl rfl) o8) ?_
   rintro _ p4 ⟨s, rfl, l6, b2, a3, a1, (j3 : Has l6 p4 [.vec 36 10 b0.2.length s a3, .obj v9 (.row 41 .whole [w0, (.int .i64 u), s, (.ptr v9 0)]), .vec 166 2 v8.length w0 (v8.flatMap z01), tb0, tb1, tb2, .obj y (.row 58 .whole [n, (.int .i64 p), a0]), .vec 108 2 m.length n (m.flatMap enc108), .vec 36 10 a8.length a0 b1])⟩
   replace e1 := e1.mono b2
   replace c9 := c9.mono b2
   replace c5 := c5.mono b2 (fun _ _ h => h)
   replace c6 := c6.mono b2 (fun _ _ h => h)
   replace b4 := b4.mono b2 (fun _ _ h => h)
   replace b6 := b6.mono b2 (fun _ _ h => h)
   replace d9 := d9.mono b2 (fun _ _ h => h)
   replace d8 := d8.mono b2 (fun _ _ h => h)
   replace w1 := w1.mono b2 (fun _ _ => z02 b2)
   replace a9 := a9.mono fun _ _ => z02 b2
   refine ⟨(st_cons rfl (ev_ex wantS_none (ex_loadA rfl (j3.ptrF c9) rdLe_rfl z4b rfl rfl rfl)) rfl rfl (self_agg (self_cons rfl (self_cons rfl (self_cons rfl (self_cons rfl (self_cons rfl (self_cons rfl (self_cons (slc_self b4) (self_cons rfl (self_cons rfl (self_cons (slc_self b6) self_nil))))))))))) (st_cons rfl (ev_ex wantS_none (ex_elX rfl rfl g1)) rfl rfl rfl (st_cons rfl (ev_ex wantS_none (ex_move rfl)) rfl rfl rfl (st_cons rfl (ev_ex wantS_none (ex_move rfl)) rfl rfl (slc_self w1) (st_cons rfl (ev_ex wantS_none (ex_move rfl)) rfl rfl rfl st_nil))))), ?_⟩
   obtain ⟨c0, p1, h⟩ := bnd_some h
   refine DrawG.call rfl wantS_none (ex_call rfl zgr zhj) rfl (z6h F d7.Alert.Event d7.Alert.Version d7.Alert.Time d7.Alert.Chance.N d7.Alert.Chance.Of d7.Alert.Grid d7.Alert.Cells d7.Alert.Withdrawn d7.Alert.Before d7.Signatures p m a8 l4 l5 y n a0 b1 l6 [.vec 36 10 b0.2.length s a3, .obj v9 (.row 41 .whole [w0, (.int .i64 u), s, (.ptr v9 0)]), .vec 166 2 v8.length w0 (v8.flatMap z01)] _ _ b4 b6 a9 (j3.pick [6, 7, 8, 3, 4, 5, 0, 1, 2] rfl rfl) p1) ?_
   rintro _ s2 ⟨w, rfl, l8, b3, a7, a5, (j2 : Has l8 s2 [.vec 36 10 c0.2.length w a7, .obj y (.row 58 .whole [n, (.int .i64 p), w]), .vec 108 2 m.length n (m.flatMap enc108), tb0, tb1, tb2, .vec 36 10 b0.2.length s a3, .obj v9 (.row 41 .whole [w0, (.int .i64 u), s, (.ptr v9 0)]), .vec 166 2 v8.length w0 (v8.flatMap z01)])⟩
   replace e1 := e1.mono b3
   replace c9 := c9.mono b3
   replace c5 := c5.mono b3 (fun _ _ h => h)
   replace c6 := c6.mono b3 (fun _ _ h => h)
   replace b4 := b4.mono b3 (fun _ _ h => h)
   replace b6 := b6.mono b3 (fun _ _ h => h)
   replace d9 := d9.mono b3 (fun _ _ h => h)
   replace d8 := d8.mono b3 (fun _ _ h => h)
   replace w1 := w1.mono b3 (fun _ _ => z02 b3)
   replace a1 := a1.mono fun _ _ => z02 b3
   refine ⟨st_nil, ?_⟩
   refine df rfl (ex_neq rfl rfl) rfl <| DrawG.sync <| DrawG.nil ?_
   rcases btf ((!(b0.1 == c0.1))) with f6 | f6
   ·have h := bif_t f6 h
    refine Run.condT' rfl f6 ?_
    refine Run.seq (Run.region ?_)
    refine av rfl rfl <| Run.opsEnd ?_
    cases h
    exact Run.ret Tryz.func3 rfl (res_tmp rfl res_nil) rfl
   ·have h := bif_f f6 h
    refine Run.condF' rfl f6 ?_
    refine Run.skip (Run.seq (Run.region ?_))
    refine mv rfl rfl <| mv rfl rfl <| mv rfl rfl ?_
    obtain ⟨q0, i1, h⟩ := bnd_some h
    obtain ⟨v2, v6, _, i1, o6, ⟨t9, t2, rfl, t0, s9⟩⟩ := sl_elem (P := Tryz.prog) (t := 25) (kk := .i64) w1 i1 z5c
    refine og (ex_elX rfl rfl i1) rfl ?_
    have n5 := (o6.fld (o := 0) rfl)
    refine og (ex_fieldAddr rfl z0a) rfl ?_
    have n1 := (n5.fld (o := 0) rfl)
    refine og (ex_fieldAddr rfl z10) rfl <| og (ex_load1 rfl (j2.ptrF n1) rdLe_rfl zam) rfl ?_
    obtain ⟨a, m5, h⟩ := bnd_some h
    refine Run.callX wantS_none (ex_call rfl zcx zcz) rfl (z2k F q0.Alert.Event u v8 b0.2 v9 w0 s a3 l8 [.vec 36 10 c0.2.length w a7, .obj y (.row 58 .whole [n, (.int .i64 p), w]), .vec 108 2 m.length n (m.flatMap enc108)] _ _ a1 (j2.pick [7, 8, 6, 3, 4, 5, 0, 1, 2] rfl rfl) m5) ?_
    rintro _ q7 ⟨b9, rfl, j1, f4, c2, (n9 : Has j1 q7 [.obj v9 (.row 41 .whole [w0, (.int .i64 u), s, (.ptr v9 0)]), .vec 166 2 v8.length w0 (v8.flatMap z01), .vec 36 10 b0.2.length s a3, tb0, tb1, tb2, .vec 36 10 c0.2.length w a7, .obj y (.row 58 .whole [n, (.int .i64 p), w]), .vec 108 2 m.length n (m.flatMap enc108)])⟩
    replace w1 := w1.mono f4 (fun _ _ => z02 f4)
    replace a1 := a1.mono fun _ _ => z02 f4
    replace a5 := a5.mono fun _ _ => z02 f4
    refine mv rfl rfl <| og (ex_extract rfl rfl) rfl <| og (ex_extract rfl rfl) rfl <| ox rfl (ExG.new (v := fun b => .ptr b 0) (ex_alloc z3v) n9) ?_
    rintro _ u3 ⟨e3, rfl, m9⟩
    refine ox rfl (ExG.storeC (c' := (k0 a.1 a.2.1 a.2.2.1 a.2.2.2.1 a.2.2.2.2.1 a.2.2.2.2.2.1 b9 a.2.2.2.2.2.2.2.1 a.2.2.2.2.2.2.2.2.1)) rfl rfl rfl m9 (i := 0) rfl z9x rfl rfl rfl (ones_cons rfl (ones_cons rfl (ones_cons rfl (ones_cons rfl (ones_cons rfl (ones_cons rfl (ones_cons (slc_one c2) (ones_cons rfl (ones_cons rfl ones_nil))))))))) rfl) ?_
    rintro _ q8 ⟨rfl, (j5 : Has j1 q8 [.obj e3 (.row 33 .whole (k0 a.1 a.2.1 a.2.2.1 a.2.2.2.1 a.2.2.2.2.1 a.2.2.2.2.2.1 b9 a.2.2.2.2.2.2.2.1 a.2.2.2.2.2.2.2.2.1)), .obj v9 (.row 41 .whole [w0, (.int .i64 u), s, (.ptr v9 0)]), .vec 166 2 v8.length w0 (v8.flatMap z01), .vec 36 10 b0.2.length s a3, tb0, tb1, tb2, .vec 36 10 c0.2.length w a7, .obj y (.row 58 .whole [n, (.int .i64 p), w]), .vec 108 2 m.length n (m.flatMap enc108)])⟩
    refine av rfl rfl ?_
    refine Run.opsEnd (Run.seq (Run.region ?_))
    refine mv rfl rfl <| mv rfl rfl <| mv rfl rfl ?_
    obtain ⟨p6, g9, h⟩ := bnd_some h
    obtain ⟨v4, u2, _, g9, n0, ⟨t4, t7, rfl, t1, s8⟩⟩ := sl_elem (P := Tryz.prog) (t := 25) (kk := .i64) w1 g9 z5c
    refine og (ex_elX rfl rfl g9) rfl ?_
    have o1 := (n0.fld (o := 0) rfl)
    refine og (ex_fieldAddr rfl z0a) rfl ?_
    have n8 := (o1.fld (o := 0) rfl)
    refine og (ex_fieldAddr rfl z10) rfl <| og (ex_load1 rfl (j5.ptrF n8) rdLe_rfl zam) rfl ?_
    obtain ⟨g, n4, h⟩ := bnd_some h
    refine Run.callX wantS_none (ex_call rfl zez zec) rfl (z2a F p6.Alert.Event p m c0.2 y n w a7 j1 [.obj e3 (.row 33 .whole (k0 a.1 a.2.1 a.2.2.1 a.2.2.2.1 a.2.2.2.2.1 a.2.2.2.2.2.1 b9 a.2.2.2.2.2.2.2.1 a.2.2.2.2.2.2.2.2.1)), .obj v9 (.row 41 .whole [w0, (.int .i64 u), s, (.ptr v9 0)]), .vec 166 2 v8.length w0 (v8.flatMap z01), .vec 36 10 b0.2.length s a3] _ _ a5 (j5.pick [8, 9, 7, 4, 5, 6, 0, 1, 2, 3] rfl rfl) n4) ?_
    rintro _ s0 ⟨d3, rfl, i9, e2, d1, (n6 : Has i9 s0 [.obj y (.row 58 .whole [n, (.int .i64 p), w]), .vec 108 2 m.length n (m.flatMap enc108), .vec 36 10 c0.2.length w a7, tb0, tb1, tb2, .obj e3 (.row 33 .whole (k0 a.1 a.2.1 a.2.2.1 a.2.2.2.1 a.2.2.2.2.1 a.2.2.2.2.2.1 b9 a.2.2.2.2.2.2.2.1 a.2.2.2.2.2.2.2.2.1)), .obj v9 (.row 41 .whole [w0, (.int .i64 u), s, (.ptr v9 0)]), .vec 166 2 v8.length w0 (v8.flatMap z01), .vec 36 10 b0.2.length s a3])⟩
    replace c2 := c2.mono e2 (fun _ _ h => h)
    replace w1 := w1.mono e2 (fun _ _ => z02 e2)
    replace a1 := a1.mono fun _ _ => z02 e2
    replace a5 := a5.mono fun _ _ => z02 e2
    refine mv rfl rfl <| og (ex_extract rfl rfl) rfl <| og (ex_extract rfl rfl) rfl <| ox rfl (ExG.new (v := fun b => .ptr b 0) (ex_alloc z3v) n6) ?_
    rintro _ v7 ⟨g7, rfl, o4⟩
    refine ox rfl (ExG.storeC (c' := (k0 g.1 g.2.1 g.2.2.1 g.2.2.2.1 g.2.2.2.2.1 g.2.2.2.2.2.1 d3 g.2.2.2.2.2.2.2.1 g.2.2.2.2.2.2.2.2.1)) rfl rfl rfl o4 (i := 0) rfl z9x rfl rfl rfl (ones_cons rfl (ones_cons rfl (ones_cons rfl (ones_cons rfl (ones_cons rfl (ones_cons rfl (ones_cons (slc_one d1) (ones_cons rfl (ones_cons rfl ones_nil))))))))) rfl) ?_
    rintro _ p9 ⟨rfl, (d0 : Has i9 p9 [.obj g7 (.row 33 .whole (k0 g.1 g.2.1 g.2.2.1 g.2.2.2.1 g.2.2.2.2.1 g.2.2.2.2.2.1 d3 g.2.2.2.2.2.2.2.1 g.2.2.2.2.2.2.2.2.1)), .obj y (.row 58 .whole [n, (.int .i64 p), w]), .vec 108 2 m.length n (m.flatMap enc108), .vec 36 10 c0.2.length w a7, tb0, tb1, tb2, .obj e3 (.row 33 .whole (k0 a.1 a.2.1 a.2.2.1 a.2.2.2.1 a.2.2.2.2.1 a.2.2.2.2.2.1 b9 a.2.2.2.2.2.2.2.1 a.2.2.2.2.2.2.2.2.1)), .obj v9 (.row 41 .whole [w0, (.int .i64 u), s, (.ptr v9 0)]), .vec 166 2 v8.length w0 (v8.flatMap z01), .vec 36 10 b0.2.length s a3])⟩
    refine av rfl rfl ?_
    refine Run.opsEnd (Run.seq ?_)
    refine Run.drawG z0z <| df rfl (ex_loadA rfl (d0.cells (i := 7) rfl 0 rfl) rdLe_rfl z0m rfl rfl rfl) rfl <| df rfl (ex_loadA rfl (d0.cells (i := 0) rfl 0 rfl) rdLe_rfl z0m rfl rfl rfl) rfl ?_
    obtain ⟨q1, p0, h⟩ := bnd_some h
    refine DrawG.callP rfl wantS_none (ex_call rfl zbu zbz) rfl (z2e F (S_api_Alert.mk a.1 a.2.1 a.2.2.1 (S_api_Chance.mk a.2.2.2.1 a.2.2.2.2.1) a.2.2.2.2.2.1 a.2.2.2.2.2.2.1 a.2.2.2.2.2.2.2.1 a.2.2.2.2.2.2.2.2.1) (S_api_Alert.mk g.1 g.2.1 g.2.2.1 (S_api_Chance.mk g.2.2.2.1 g.2.2.2.2.1) g.2.2.2.2.2.1 g.2.2.2.2.2.2.1 g.2.2.2.2.2.2.2.1 g.2.2.2.2.2.2.2.2.1) b9 d3 _ _ (d0.slcF c2) (d0.slcF d1) p0) st_nil <| df rfl (ex_not rfl) rfl <| df rfl (ex_move rfl) rfl ?_
    rcases btf ((!q1)) with c3 | c3
    ·have h := bif_t c3 h
     refine dn rfl rfl rfl c3 rfl <| dn rfl rfl rfl c3 rfl <| dn rfl rfl rfl c3 rfl <| df rfl (ex_pickT' rfl c3 rfl rfl) rfl <| df rfl (ex_move rfl) rfl <| dn rfl rfl rfl rfl rfl <| dn rfl rfl rfl rfl rfl <| dn rfl rfl rfl rfl rfl <| dn rfl rfl rfl rfl rfl <| dn rfl rfl rfl rfl rfl <| dn rfl rfl rfl rfl rfl <| dn rfl rfl rfl rfl rfl <| dn rfl rfl rfl rfl rfl <| dn rfl rfl rfl rfl rfl <| dn rfl rfl rfl rfl rfl <| dn rfl rfl rfl rfl rfl <| dn rfl rfl rfl rfl rfl <| dn rfl rfl rfl rfl rfl <| dn rfl rfl rfl rfl rfl <| DrawG.no rfl (wantS_not' rfl rfl rfl) rfl (st_cons rfl (ev_no (wantS_not' rfl rfl rfl)) rfl rfl rfl (st_cons rfl (ev_no (wantS_not' rfl rfl rfl)) rfl rfl rfl (st_cons rfl (ev_no (wantS_not' rfl rfl rfl)) rfl rfl rfl (st_cons rfl (ev_no (wantS_not' rfl rfl rfl)) rfl rfl rfl (st_cons rfl (ev_no (wantS_not' rfl rfl rfl)) rfl rfl rfl (st_cons rfl (ev_no (wantS_not' rfl rfl rfl)) rfl rfl rfl (st_cons rfl (ev_no (wantS_not' rfl rfl rfl)) rfl rfl rfl st_nil))))))) <| DrawG.no rfl (wantS_not' rfl rfl rfl) rfl st_nil <| DrawG.no rfl (wantS_not' rfl rfl rfl) rfl st_nil <| dn rfl rfl rfl rfl rfl ?_
     refine df rfl (ex_pickT' rfl rfl rfl rfl) rfl <| DrawG.sync <| DrawG.nil ?_
     exact Run.pick [1, 8, 10, 12, 149] (z2b F v1 w2 u p v8 b0.2 m c0.2 w3 v9 w0 s a3 y n w a7 _ _ _ w1 a1 a5 (d0.pick [8, 9, 10, 1, 2, 3, 4, 5, 6] rfl rfl) h)
    ·have h := bif_f c3 h
     refine dy rfl rfl rfl c3 (ex_move rfl) rfl <| dy rfl rfl rfl c3 (ex_move rfl) rfl <| dy rfl rfl rfl c3 (ex_neq rfl rfl) rfl <| df rfl (ex_pickF' rfl c3 rfl rfl) rfl <| df rfl (ex_move rfl) rfl ?_
     rcases btf ((!(a.2.2.2.2.2.2.2.2.2 == g.2.2.2.2.2.2.2.2.2))) with d | d
     ·have h := bif_t d h
      refine dn rfl rfl rfl d rfl <| dn rfl rfl rfl d rfl <| dn rfl rfl rfl d rfl <| dn rfl rfl rfl d rfl <| dn rfl rfl rfl d rfl <| dn rfl rfl rfl d rfl <| dn rfl rfl rfl d rfl <| dn rfl rfl rfl d rfl <| dn rfl rfl rfl d rfl <| dn rfl rfl rfl d rfl <| dn rfl rfl rfl d rfl <| dn rfl rfl rfl d rfl <| dn rfl rfl rfl d rfl <| dn rfl rfl rfl d rfl <| DrawG.no rfl (wantS_not' rfl rfl d) rfl (st_cons rfl (ev_no (wantS_not' rfl rfl d)) rfl rfl rfl (st_cons rfl (ev_no (wantS_not' rfl rfl d)) rfl rfl rfl (st_cons rfl (ev_no (wantS_not' rfl rfl d)) rfl rfl rfl (st_cons rfl (ev_no (wantS_not' rfl rfl d)) rfl rfl rfl (st_cons rfl (ev_no (wantS_not' rfl rfl d)) rfl rfl rfl (st_cons rfl (ev_no (wantS_not' rfl rfl d)) rfl rfl rfl (st_cons rfl (ev_no (wantS_not' rfl rfl d)) rfl rfl rfl st_nil))))))) <| DrawG.no rfl (wantS_not' rfl rfl d) rfl st_nil <| DrawG.no rfl (wantS_not' rfl rfl d) rfl st_nil <| dn rfl rfl rfl d rfl <| df rfl (ex_pickT' rfl d rfl rfl) rfl <| DrawG.sync <| DrawG.nil ?_
      exact Run.pick [1, 8, 10, 12, 149] (z2b F v1 w2 u p v8 b0.2 m c0.2 w3 v9 w0 s a3 y n w a7 _ _ _ w1 a1 a5 (d0.pick [8, 9, 10, 1, 2, 3, 4, 5, 6] rfl rfl) h)
     ·have h := bif_f d h
      refine dy rfl rfl rfl d (ex_move rfl) rfl <| dy rfl rfl rfl d (ex_move rfl) rfl <| dy rfl rfl rfl d (ex_move rfl) rfl ?_
      obtain ⟨s4, g8, h⟩ := bnd_some h
      obtain ⟨v5, u1, _, g8, f9, ⟨t8, t6, rfl, e9, f0⟩⟩ := sl_elem (P := Tryz.prog) (t := 25) (kk := .i64) w1 g8 z5c
      refine dy rfl rfl rfl d (ex_elX rfl rfl g8) rfl ?_
      have f1 := (f9.fld (o := 0) rfl)
      refine dy rfl rfl rfl d (ex_fieldAddr rfl z0a) rfl ?_
      have f3 := (f1.fld (o := 0) rfl)
      refine dy rfl rfl rfl d (ex_fieldAddr rfl z10) rfl <| dy rfl rfl rfl d (ex_load1 rfl (d0.ptrF f3) rdLe_rfl zam) rfl <| dy rfl rfl rfl d (ex_move rfl) rfl <| dy rfl rfl rfl d (ex_move rfl) rfl <| dy rfl rfl rfl d (ex_move rfl) rfl ?_
      obtain ⟨q4, g4, h⟩ := bnd_some h
      obtain ⟨u0, u4, _, g4, f2, ⟨t3, t5, rfl, e6, e8⟩⟩ := sl_elem (P := Tryz.prog) (t := 25) (kk := .i64) w1 g4 z5c
      refine dy rfl rfl rfl d (ex_elX rfl rfl g4) rfl ?_
      have f5 := (f2.fld (o := 0) rfl)
      refine dy rfl rfl rfl d (ex_fieldAddr rfl z0a) rfl ?_
      have e7 := (f5.fld (o := 0) rfl)
      refine dy rfl rfl rfl d (ex_fieldAddr rfl z10) rfl <| dy rfl rfl rfl d (ex_load1 rfl (d0.ptrF e7) rdLe_rfl zam) rfl ?_
      obtain ⟨i2, n7, h⟩ := bnd_some h
      refine DrawG.call rfl (wantS_yes' rfl rfl d) (ex_call rfl zhw zht) rfl (z4s F s4.Alert.Event u v8 b0.2 v9 w0 s a3 i9 [.obj g7 (.row 33 .whole (k0 g.1 g.2.1 g.2.2.1 g.2.2.2.1 g.2.2.2.2.1 g.2.2.2.2.2.1 d3 g.2.2.2.2.2.2.2.1 g.2.2.2.2.2.2.2.2.1)), .obj y (.row 58 .whole [n, (.int .i64 p), w]), .vec 108 2 m.length n (m.flatMap enc108), .vec 36 10 c0.2.length w a7, .obj e3 (.row 33 .whole (k0 a.1 a.2.1 a.2.2.1 a.2.2.2.1 a.2.2.2.2.1 a.2.2.2.2.2.1 b9 a.2.2.2.2.2.2.2.1 a.2.2.2.2.2.2.2.2.1))] _ _ a1 (d0.pick [8, 9, 10, 4, 5, 6, 0, 1, 2, 3, 7] rfl rfl) n7) ?_
      rintro f8 s7 ⟨_, rfl, m3, a4, g6, g2, (j4 : Has m3 s7 [.vec 33 9 i2.length f8 g6, .obj v9 (.row 41 .whole [w0, (.int .i64 u), s, (.ptr v9 0)]), .vec 166 2 v8.length w0 (v8.flatMap z01), .vec 36 10 b0.2.length s a3, tb0, tb1, tb2, .obj g7 (.row 33 .whole (k0 g.1 g.2.1 g.2.2.1 g.2.2.2.1 g.2.2.2.2.1 g.2.2.2.2.2.1 d3 g.2.2.2.2.2.2.2.1 g.2.2.2.2.2.2.2.2.1)), .obj y (.row 58 .whole [n, (.int .i64 p), w]), .vec 108 2 m.length n (m.flatMap enc108), .vec 36 10 c0.2.length w a7, .obj e3 (.row 33 .whole (k0 a.1 a.2.1 a.2.2.1 a.2.2.2.1 a.2.2.2.2.1 a.2.2.2.2.2.1 b9 a.2.2.2.2.2.2.2.1 a.2.2.2.2.2.2.2.2.1))])⟩
      replace f9 := f9.mono a4
      replace f1 := f1.mono a4
      replace f3 := f3.mono a4
      replace f2 := f2.mono a4
      replace f5 := f5.mono a4
      replace e7 := e7.mono a4
      replace c2 := c2.mono a4 (fun _ _ h => h)
      replace d1 := d1.mono a4 (fun _ _ h => h)
      replace e9 := e9.mono a4 (fun _ _ h => h)
      replace f0 := f0.mono a4 (fun _ _ h => h)
      replace e6 := e6.mono a4 (fun _ _ h => h)
      replace e8 := e8.mono a4 (fun _ _ h => h)
      replace w1 := w1.mono a4 (fun _ _ => z02 a4)
      replace a1 := a1.mono fun _ _ => z02 a4
      replace a5 := a5.mono fun _ _ => z02 a4
      refine ⟨(st_cons rfl (ev_ex (wantS_yes' rfl rfl d) (ex_load1 rfl (j4.ptrF e7) rdLe_rfl zam)) rfl rfl rfl (st_cons rfl (ev_ex (wantS_yes' rfl rfl d) (ex_fieldAddr rfl z10)) rfl rfl rfl (st_cons rfl (ev_ex (wantS_yes' rfl rfl d) (ex_fieldAddr rfl z0a)) rfl rfl rfl (st_cons rfl (ev_ex (wantS_yes' rfl rfl d) (ex_elX rfl rfl g4)) rfl rfl rfl (st_cons rfl (ev_ex (wantS_yes' rfl rfl d) (ex_move rfl)) rfl rfl rfl (st_cons rfl (ev_ex (wantS_yes' rfl rfl d) (ex_move rfl)) rfl rfl (slc_self w1) (st_cons rfl (ev_ex (wantS_yes' rfl rfl d) (ex_move rfl)) rfl rfl rfl st_nil))))))), ?_⟩
      obtain ⟨l1, o3, h⟩ := bnd_some h
      refine DrawG.call rfl (wantS_yes' rfl rfl d) (ex_call rfl zgz zgo) rfl (z4r F q4.Alert.Event p m c0.2 y n w a7 m3 [.vec 33 9 i2.length f8 g6, .obj v9 (.row 41 .whole [w0, (.int .i64 u), s, (.ptr v9 0)]), .vec 166 2 v8.length w0 (v8.flatMap z01), .vec 36 10 b0.2.length s a3, .obj g7 (.row 33 .whole (k0 g.1 g.2.1 g.2.2.1 g.2.2.2.1 g.2.2.2.2.1 g.2.2.2.2.2.1 d3 g.2.2.2.2.2.2.2.1 g.2.2.2.2.2.2.2.2.1)), .obj e3 (.row 33 .whole (k0 a.1 a.2.1 a.2.2.1 a.2.2.2.1 a.2.2.2.2.1 a.2.2.2.2.2.1 b9 a.2.2.2.2.2.2.2.1 a.2.2.2.2.2.2.2.2.1))] _ _ a5 (j4.pick [8, 9, 10, 4, 5, 6, 0, 1, 2, 3, 7, 11] rfl rfl) o3) ?_
      rintro i3 q9 ⟨_, rfl, s1, a2, m1, j8, (g0 : Has s1 q9 [.vec 33 9 l1.length i3 m1, .obj y (.row 58 .whole [n, (.int .i64 p), w]), .vec 108 2 m.length n (m.flatMap enc108), .vec 36 10 c0.2.length w a7, tb0, tb1, tb2, .vec 33 9 i2.length f8 g6, .obj v9 (.row 41 .whole [w0, (.int .i64 u), s, (.ptr v9 0)]), .vec 166 2 v8.length w0 (v8.flatMap z01), .vec 36 10 b0.2.length s a3, .obj g7 (.row 33 .whole (k0 g.1 g.2.1 g.2.2.1 g.2.2.2.1 g.2.2.2.2.1 g.2.2.2.2.2.1 d3 g.2.2.2.2.2.2.2.1 g.2.2.2.2.2.2.2.2.1)), .obj e3 (.row 33 .whole (k0 a.1 a.2.1 a.2.2.1 a.2.2.2.1 a.2.2.2.2.1 a.2.2.2.2.2.1 b9 a.2.2.2.2.2.2.2.1 a.2.2.2.2.2.2.2.2.1))])⟩
      replace f9 := f9.mono a2
      replace f1 := f1.mono a2
      replace f3 := f3.mono a2
      replace f2 := f2.mono a2
      replace f5 := f5.mono a2
      replace e7 := e7.mono a2
      replace c2 := c2.mono a2 (fun _ _ h => h)
      replace d1 := d1.mono a2 (fun _ _ h => h)
      replace e9 := e9.mono a2 (fun _ _ h => h)
      replace f0 := f0.mono a2 (fun _ _ h => h)
      replace e6 := e6.mono a2 (fun _ _ h => h)
      replace e8 := e8.mono a2 (fun _ _ h => h)
      replace w1 := w1.mono a2 (fun _ _ => z02 a2)
      replace a1 := a1.mono fun _ _ => z02 a2
      replace a5 := a5.mono fun _ _ => z02 a2
      replace g2 := g2.mono fun _ _ => z3l a2
      refine ⟨st_nil, ?_⟩
      obtain ⟨p5, p2, h⟩ := bnd_some h
      refine DrawG.callP rfl (wantS_yes' rfl rfl d) (ex_call rfl zg7 zh4) rfl (z7w F i2 l1 f8 i3 _ _ (((g0.slcR (i := 7) rfl g2)).mono (fun _ _ h => h) (fun _ _ => z3l g0.le)) (((g0.slcR (i := 0) rfl j8)).mono (fun _ _ h => h) (fun _ _ => z3l g0.le)) p2) st_nil <| dy rfl rfl rfl d (ex_not rfl) rfl <| df rfl (ex_pickF' rfl d rfl rfl) rfl <| DrawG.sync <| DrawG.nil ?_
      exact Run.pick [1, 8, 10, 12, 149] (z5p F (law10_AlertBoards_14 F N) ih v1 w2 (!p5) u p v8 b0.2 m c0.2 w3 v9 w0 s a3 y n w a7 _ _ _ w1 a1 a5 (g0.pick [8, 9, 10, 1, 2, 3, 4, 5, 6] rfl rfl) h)
  ·have h := bif_f hc119 h
   refine Run.condF' rfl hc119 ?_
   refine Run.exit rfl (Run.seq (Run.region ?_))
   refine mv rfl rfl ?_
   obtain ⟨e, n3, h⟩ := bnd_some h
   refine Run.callX wantS_none (ex_call rfl zcx zcz) rfl (z2k F [110, 111, 98, 111, 100, 121] u v8 b7 v9 w0 a6 c1 Fr [.obj y (.row 58 .whole [n, (.int .i64 p), a0]), .vec 108 2 m.length n (m.flatMap enc108), .vec 36 10 a8.length a0 b1] _ _ b5 (hH.pick [0, 1, 2, 6, 7, 8, 3, 4, 5] rfl rfl) n3) ?_
   rintro _ q2 ⟨c7, rfl, i6, i5, d2, (m4 : Has i6 q2 [.obj v9 (.row 41 .whole [w0, (.int .i64 u), a6, (.ptr v9 0)]), .vec 166 2 v8.length w0 (v8.flatMap z01), .vec 36 10 b7.length a6 c1, tb0, tb1, tb2, .obj y (.row 58 .whole [n, (.int .i64 p), a0]), .vec 108 2 m.length n (m.flatMap enc108), .vec 36 10 a8.length a0 b1])⟩
   replace a9 := a9.mono fun _ _ => z02 i5
   replace b5 := b5.mono fun _ _ => z02 i5
   refine mv rfl rfl <| og (ex_extract rfl rfl) rfl <| og (ex_extract rfl rfl) rfl <| ox rfl (ExG.new (v := fun b => .ptr b 0) (ex_alloc z3v) m4) ?_
   rintro _ v3 ⟨g3, rfl, o7⟩
   refine ox rfl (ExG.storeC (c' := (k0 e.1 e.2.1 e.2.2.1 e.2.2.2.1 e.2.2.2.2.1 e.2.2.2.2.2.1 c7 e.2.2.2.2.2.2.2.1 e.2.2.2.2.2.2.2.2.1)) rfl rfl rfl o7 (i := 0) rfl z9x rfl rfl rfl (ones_cons rfl (ones_cons rfl (ones_cons rfl (ones_cons rfl (ones_cons rfl (ones_cons rfl (ones_cons (slc_one d2) (ones_cons rfl (ones_cons rfl ones_nil))))))))) rfl) ?_
   rintro _ p8 ⟨rfl, (o5 : Has i6 p8 [.obj g3 (.row 33 .whole (k0 e.1 e.2.1 e.2.2.1 e.2.2.2.1 e.2.2.2.2.1 e.2.2.2.2.2.1 c7 e.2.2.2.2.2.2.2.1 e.2.2.2.2.2.2.2.2.1)), .obj v9 (.row 41 .whole [w0, (.int .i64 u), a6, (.ptr v9 0)]), .vec 166 2 v8.length w0 (v8.flatMap z01), .vec 36 10 b7.length a6 c1, tb0, tb1, tb2, .obj y (.row 58 .whole [n, (.int .i64 p), a0]), .vec 108 2 m.length n (m.flatMap enc108), .vec 36 10 a8.length a0 b1])⟩
   refine av rfl rfl ?_
   refine Run.opsEnd (Run.seq (Run.region ?_))
   refine mv rfl rfl ?_
   obtain ⟨q, o0, h⟩ := bnd_some h
   refine Run.callX wantS_none (ex_call rfl zez zec) rfl (z2a F [110, 111, 98, 111, 100, 121] p m a8 y n a0 b1 i6 [.obj g3 (.row 33 .whole (k0 e.1 e.2.1 e.2.2.1 e.2.2.2.1 e.2.2.2.2.1 e.2.2.2.2.2.1 c7 e.2.2.2.2.2.2.2.1 e.2.2.2.2.2.2.2.2.1)), .obj v9 (.row 41 .whole [w0, (.int .i64 u), a6, (.ptr v9 0)]), .vec 166 2 v8.length w0 (v8.flatMap z01), .vec 36 10 b7.length a6 c1] _ _ a9 (o5.pick [7, 8, 9, 4, 5, 6, 0, 1, 2, 3] rfl rfl) o0) ?_
   rintro _ p7 ⟨e4, rfl, i7, g5, e5, (p3 : Has i7 p7 [.obj y (.row 58 .whole [n, (.int .i64 p), a0]), .vec 108 2 m.length n (m.flatMap enc108), .vec 36 10 a8.length a0 b1, tb0, tb1, tb2, .obj g3 (.row 33 .whole (k0 e.1 e.2.1 e.2.2.1 e.2.2.2.1 e.2.2.2.2.1 e.2.2.2.2.2.1 c7 e.2.2.2.2.2.2.2.1 e.2.2.2.2.2.2.2.2.1)), .obj v9 (.row 41 .whole [w0, (.int .i64 u), a6, (.ptr v9 0)]), .vec 166 2 v8.length w0 (v8.flatMap z01), .vec 36 10 b7.length a6 c1])⟩
   replace d2 := d2.mono g5 (fun _ _ h => h)
   replace a9 := a9.mono fun _ _ => z02 g5
   replace b5 := b5.mono fun _ _ => z02 g5
   refine mv rfl rfl <| og (ex_extract rfl rfl) rfl <| og (ex_extract rfl rfl) rfl <| ox rfl (ExG.new (v := fun b => .ptr b 0) (ex_alloc z3v) p3) ?_
   rintro _ u5 ⟨j0, rfl, o2⟩
   refine ox rfl (ExG.storeC (c' := (k0 q.1 q.2.1 q.2.2.1 q.2.2.2.1 q.2.2.2.2.1 q.2.2.2.2.2.1 e4 q.2.2.2.2.2.2.2.1 q.2.2.2.2.2.2.2.2.1)) rfl rfl rfl o2 (i := 0) rfl z9x rfl rfl rfl (ones_cons rfl (ones_cons rfl (ones_cons rfl (ones_cons rfl (ones_cons rfl (ones_cons rfl (ones_cons (slc_one e5) (ones_cons rfl (ones_cons rfl ones_nil))))))))) rfl) ?_
   rintro _ s6 ⟨rfl, (d4 : Has i7 s6 [.obj j0 (.row 33 .whole (k0 q.1 q.2.1 q.2.2.1 q.2.2.2.1 q.2.2.2.2.1 q.2.2.2.2.2.1 e4 q.2.2.2.2.2.2.2.1 q.2.2.2.2.2.2.2.2.1)), .obj y (.row 58 .whole [n, (.int .i64 p), a0]), .vec 108 2 m.length n (m.flatMap enc108), .vec 36 10 a8.length a0 b1, tb0, tb1, tb2, .obj g3 (.row 33 .whole (k0 e.1 e.2.1 e.2.2.1 e.2.2.2.1 e.2.2.2.2.1 e.2.2.2.2.2.1 c7 e.2.2.2.2.2.2.2.1 e.2.2.2.2.2.2.2.2.1)), .obj v9 (.row 41 .whole [w0, (.int .i64 u), a6, (.ptr v9 0)]), .vec 166 2 v8.length w0 (v8.flatMap z01), .vec 36 10 b7.length a6 c1])⟩
   refine av rfl rfl ?_
   refine Run.opsEnd (Run.seq ?_)
   refine Run.drawG z3a <| df rfl (ex_loadA rfl (d4.cells (i := 7) rfl 0 rfl) rdLe_rfl z0m rfl rfl rfl) rfl <| df rfl (ex_loadA rfl (d4.cells (i := 0) rfl 0 rfl) rdLe_rfl z0m rfl rfl rfl) rfl ?_
   obtain ⟨q3, m8, h⟩ := bnd_some h
   refine DrawG.callP rfl wantS_none (ex_call rfl zbu zbz) rfl (z2e F (S_api_Alert.mk e.1 e.2.1 e.2.2.1 (S_api_Chance.mk e.2.2.2.1 e.2.2.2.2.1) e.2.2.2.2.2.1 e.2.2.2.2.2.2.1 e.2.2.2.2.2.2.2.1 e.2.2.2.2.2.2.2.2.1) (S_api_Alert.mk q.1 q.2.1 q.2.2.1 (S_api_Chance.mk q.2.2.2.1 q.2.2.2.2.1) q.2.2.2.2.2.1 q.2.2.2.2.2.2.1 q.2.2.2.2.2.2.2.1 q.2.2.2.2.2.2.2.2.1) c7 e4 _ _ (d4.slcF d2) (d4.slcF e5) m8) st_nil <| df rfl (ex_move rfl) rfl ?_
   rcases btf (q3) with c4 | c4
   ·have h := bif_t c4 h
    refine dy rfl rfl rfl c4 (ex_move rfl) rfl <| dy rfl rfl rfl c4 (ex_move rfl) rfl <| dy rfl rfl rfl c4 (ex_eql rfl rfl) rfl <| df rfl (ex_pickT' rfl c4 rfl rfl) rfl <| df rfl (ex_move rfl) rfl ?_
    rcases btf ((e.2.2.2.2.2.2.2.2.2 == q.2.2.2.2.2.2.2.2.2)) with x | x
    ·have h := bif_t x h
     refine dy rfl rfl rfl x (ex_move rfl) rfl <| dy rfl rfl rfl x (ex_move rfl) rfl <| dy rfl rfl rfl x (ex_nilP rfl) rfl <| dy rfl rfl rfl x (ex_fieldAddr rfl z5u) rfl <| dy rfl rfl rfl x (ex_load1 rfl (d4.cells (i := 1) rfl 2 rfl) rdLe_rfl z8r) rfl ?_
     obtain ⟨m0, n2, h⟩ := bnd_some h
     refine DrawG.call rfl (wantS_yes' rfl rfl x) (ex_call rfl zhv zhx) rfl (z4t F u v8 b7 v9 w0 a6 c1 i7 [.obj j0 (.row 33 .whole (k0 q.1 q.2.1 q.2.2.1 q.2.2.2.1 q.2.2.2.2.1 q.2.2.2.2.2.1 e4 q.2.2.2.2.2.2.2.1 q.2.2.2.2.2.2.2.2.1)), .obj y (.row 58 .whole [n, (.int .i64 p), a0]), .vec 108 2 m.length n (m.flatMap enc108), .vec 36 10 a8.length a0 b1, .obj g3 (.row 33 .whole (k0 e.1 e.2.1 e.2.2.1 e.2.2.2.1 e.2.2.2.2.1 e.2.2.2.2.2.1 c7 e.2.2.2.2.2.2.2.1 e.2.2.2.2.2.2.2.2.1))] _ _ b5 (d4.pick [8, 9, 10, 4, 5, 6, 0, 1, 2, 3, 7] rfl rfl) n2) ?_
     rintro i4 q5 ⟨_, rfl, q6, f7, l3, j7, (c8 : Has q6 q5 [.vec 36 10 m0.length i4 l3, .obj v9 (.row 41 .whole [w0, (.int .i64 u), a6, (.ptr v9 0)]), .vec 166 2 v8.length w0 (v8.flatMap z01), .vec 36 10 b7.length a6 c1, tb0, tb1, tb2, .obj j0 (.row 33 .whole (k0 q.1 q.2.1 q.2.2.1 q.2.2.2.1 q.2.2.2.2.1 q.2.2.2.2.2.1 e4 q.2.2.2.2.2.2.2.1 q.2.2.2.2.2.2.2.2.1)), .obj y (.row 58 .whole [n, (.int .i64 p), a0]), .vec 108 2 m.length n (m.flatMap enc108), .vec 36 10 a8.length a0 b1, .obj g3 (.row 33 .whole (k0 e.1 e.2.1 e.2.2.1 e.2.2.2.1 e.2.2.2.2.1 e.2.2.2.2.2.1 c7 e.2.2.2.2.2.2.2.1 e.2.2.2.2.2.2.2.2.1))])⟩
     replace d2 := d2.mono f7 (fun _ _ h => h)
     replace e5 := e5.mono f7 (fun _ _ h => h)
     replace a9 := a9.mono fun _ _ => z02 f7
     replace b5 := b5.mono fun _ _ => z02 f7
     refine ⟨(st_cons rfl (ev_ex (wantS_yes' rfl rfl x) (ex_load1 rfl (c8.cells (i := 8) rfl 2 rfl) rdLe_rfl z8r)) rfl rfl (blk_self c8 (i := 10) rfl) (st_cons rfl (ev_ex (wantS_yes' rfl rfl x) (ex_fieldAddr rfl z5u)) rfl rfl rfl (st_cons rfl (ev_ex (wantS_yes' rfl rfl x) (ex_nilP rfl)) rfl rfl rfl (st_cons rfl (ev_ex (wantS_yes' rfl rfl x) (ex_move rfl)) rfl rfl rfl st_nil)))), ?_⟩
     obtain ⟨s5, m7, h⟩ := bnd_some h
     refine DrawG.callP rfl (wantS_yes' rfl rfl x) (ex_call rfl zg6 zhe) rfl (z7l F m0 a8 i4 a0 _ _ (((c8.slcR (i := 0) rfl j7)).mono (fun _ _ h => h) (fun _ _ => z02 c8.le)) (((c8.slcR (i := 10) rfl a9)).mono (fun _ _ h => h) (fun _ _ => z02 c8.le)) m7) st_nil <| df rfl (ex_pickT' rfl x rfl rfl) rfl <| df rfl (ex_move rfl) rfl ?_
     rcases btf (s5) with e0 | e0
     ·have h := bif_t e0 h
      obtain ⟨m2, m6, h⟩ := bnd_some h
      refine DrawG.callP rfl (wantS_yes' rfl rfl e0) (ex_call rfl zd8 zd6) rfl (zay F m2 _ c8 (List.mem_of_getElem? (i := 4) rfl) (List.mem_of_getElem? (i := 5) rfl) (List.mem_of_getElem? (i := 6) rfl) m6) st_nil <| df rfl (ex_pickT' rfl e0 rfl rfl) rfl <| df rfl (ex_assign rfl) rfl <| DrawG.sync <| DrawG.nil ?_
      exact Run.pick [4] (z0n F m2 _ _ _ (c8.pick [4, 5, 6] rfl rfl) h)
     ·have h := bif_f e0 h
      refine DrawG.no rfl (wantS_not' rfl rfl e0) rfl st_nil <| df rfl (ex_pickF' rfl e0 rfl rfl) rfl <| df rfl (ex_assign rfl) rfl <| DrawG.sync <| DrawG.nil ?_
      exact Run.pick [4] (z0n F false _ _ _ (c8.pick [4, 5, 6] rfl rfl) h)
    ·have h := bif_f x h
     refine dn rfl rfl rfl x rfl <| dn rfl rfl rfl x rfl <| dn rfl rfl rfl x rfl <| dn rfl rfl rfl x rfl <| dn rfl rfl rfl x rfl <| DrawG.no rfl (wantS_not' rfl rfl x) rfl (st_cons rfl (ev_no (wantS_not' rfl rfl x)) rfl rfl rfl (st_cons rfl (ev_no (wantS_not' rfl rfl x)) rfl rfl rfl (st_cons rfl (ev_no (wantS_not' rfl rfl x)) rfl rfl rfl (st_cons rfl (ev_no (wantS_not' rfl rfl x)) rfl rfl rfl st_nil)))) <| DrawG.no rfl (wantS_not' rfl rfl x) rfl st_nil <| df rfl (ex_pickF' rfl x rfl rfl) rfl <| df rfl (ex_move rfl) rfl <| DrawG.no rfl (wantS_not' rfl rfl rfl) rfl st_nil <| df rfl (ex_pickF' rfl rfl rfl rfl) rfl <| df rfl (ex_assign rfl) rfl <| DrawG.sync <| DrawG.nil ?_
     exact Run.pick [4] (z0n F false _ _ _ (d4.pick [4, 5, 6] rfl rfl) h)
   ·have h := bif_f c4 h
    refine dn rfl rfl rfl c4 rfl <| dn rfl rfl rfl c4 rfl <| dn rfl rfl rfl c4 rfl <| df rfl (ex_pickF' rfl c4 rfl rfl) rfl <| df rfl (ex_move rfl) rfl <| dn rfl rfl rfl rfl rfl <| dn rfl rfl rfl rfl rfl <| dn rfl rfl rfl rfl rfl <| dn rfl rfl rfl rfl rfl <| dn rfl rfl rfl rfl rfl <| DrawG.no rfl (wantS_not' rfl rfl rfl) rfl (st_cons rfl (ev_no (wantS_not' rfl rfl rfl)) rfl rfl rfl (st_cons rfl (ev_no (wantS_not' rfl rfl rfl)) rfl rfl rfl (st_cons rfl (ev_no (wantS_not' rfl rfl rfl)) rfl rfl rfl (st_cons rfl (ev_no (wantS_not' rfl rfl rfl)) rfl rfl rfl st_nil)))) <| DrawG.no rfl (wantS_not' rfl rfl rfl) rfl st_nil <| df rfl (ex_pickF' rfl rfl rfl rfl) rfl <| df rfl (ex_move rfl) rfl <| DrawG.no rfl (wantS_not' rfl rfl rfl) rfl st_nil <| df rfl (ex_pickF' rfl rfl rfl rfl) rfl <| df rfl (ex_assign rfl) rfl <| DrawG.sync <| DrawG.nil ?_
    exact Run.pick [4] (z0n F false _ _ _ (d4.pick [4, 5, 6] rfl rfl) h)

def law10_AlertBoards_13 (F : Nat) (v1 : List S_api_Notice) (v9 b a : Int) (g d : List S_api_Key) : Option (Bool) :=
 bif (!(v9 == (0 : Int))) then
  bnd (works F) fun e =>
  some e
 else
  law10_AlertBoards_14 F F v1 (0 : Int) b a g ([] : List S_api_Notice) d ([] : List S_api_Notice)

theorem z5r (F : Nat) : ∀ (v1 : List S_api_Notice) (v9 e a : Int) (u b : List S_api_Key) (x : SV) (s : Pos) (w : SV) (g : Pos) (d : SV) (Fr : Rd) (M : Mem) (r : Bool) (y : Slc Fr 10 (rep36 Fr) x v1) (hH : Has Fr M [.obj s (.row 41 .whole [w, (.int .i64 e), .nils, (.ptr s 0)]), .vec 166 2 u.length w (u.flatMap z01), .obj g (.row 58 .whole [d, (.int .i64 a), .nils]), .vec 108 2 b.length d (b.flatMap enc108), tb0, tb1, tb2]), law10_AlertBoards_13 F v1 v9 e a u b = some r → Run Tryz.prog ⟨⟨3, [], none⟩, []⟩ 180 (law10_AlertBoards_post r) [(1, x), (8, (.ptr s 0)), (9, (.int .i64 v9)), (10, (.ptr g 0)), (75, (.bool false))] [codeC Tryz.prog 3 [1, 1, 1, 1, 1, 1, 0, 1], codeC Tryz.prog 3 [1, 1, 1, 1, 1, 1, 1]] M := by
 intro v1 v9 e a u b x s w g d Fr M r y hH h
 rw [law10_AlertBoards_13] at h
 refine Run.condF' rfl rfl ?_
 refine Run.skip (Run.seq (Run.seq (Run.region ?_)))
 refine mv rfl rfl <| og (ex_neq rfl rfl) rfl <| Run.opsEnd ?_
 rcases btf ((!(v9 == (0 : Int)))) with hc111 | hc111
 ·have h := bif_t hc111 h
  refine Run.condT' rfl hc111 ?_
  refine Run.seq (Run.region ?_)
  obtain ⟨q, n, h⟩ := bnd_some h
  refine Run.callP wantS_none (ex_call rfl zd8 zd6) rfl (zay F q _ hH (List.mem_of_getElem? (i := 4) rfl) (List.mem_of_getElem? (i := 5) rfl) (List.mem_of_getElem? (i := 6) rfl) n) <| av rfl rfl <| Run.opsEnd ?_
  cases h
  exact Run.ret Tryz.func3 rfl (res_tmp rfl res_nil) rfl
 ·have h := bif_f hc111 h
  refine Run.condF' rfl hc111 ?_
  refine Run.skip (Run.seq (Run.seq (Run.region ?_)))
  refine av rfl rfl ?_
  refine Run.opsEnd (Run.block (Run.loop ?_))
  have p : Has Fr M [.vec 36 10 ([] : List S_api_Notice).length .nils [], .obj s (.row 41 .whole [w, (.int .i64 e), .nils, (.ptr s 0)]), .vec 166 2 u.length w (u.flatMap z01), .obj g (.row 58 .whole [d, (.int .i64 a), .nils]), .vec 108 2 b.length d (b.flatMap enc108), tb0, tb1, tb2] := hH.nils 36 10
  have m : Has Fr M [.vec 36 10 ([] : List S_api_Notice).length .nils [], .vec 36 10 ([] : List S_api_Notice).length .nils [], .obj s (.row 41 .whole [w, (.int .i64 e), .nils, (.ptr s 0)]), .vec 166 2 u.length w (u.flatMap z01), .obj g (.row 58 .whole [d, (.int .i64 a), .nils]), .vec 108 2 b.length d (b.flatMap enc108), tb0, tb1, tb2] := p.nils 36 10
  exact Run.pick [1, 8, 10, 12] (z5l F F v1 (0 : Int) e a u ([] : List S_api_Notice) b ([] : List S_api_Notice) x s w .nils [] g d .nils [] _ _ _ y Rows.nil Rows.nil (m.pick [2, 3, 0, 4, 5, 1, 6, 7, 8] rfl rfl) h)

def law10_AlertBoards_8 (F : Nat) (v1 : List S_api_Notice) (q : Bool) (a : List S_api_Key) (b : Int) : Option (Bool) :=
 bif q then
  some false
 else
  bnd (alert_CheckRoll F (S_api_Roll.mk a b)) fun m =>
  bif (!(m == (0 : Int))) then
   bnd (ref10_CheckRoll F (S_api_Roll.mk a b)) fun n =>
   bif (!(n == (0 : Int))) then
    bif (!(m == n)) then
     z1u F v1 m
    else
     law10_AlertBoards_10 F v1 m
   else
    bnd (apd 16 ([] : List S_api_Key) a) fun p =>
    z1i F v1 m b p
  else
   bnd (alert_rollOf F (S_api_Roll.mk a b)) fun g =>
   bnd (ref10_CheckRoll F (S_api_Roll.mk a b)) fun d =>
   bif (!(d == (0 : Int))) then
    bif (!((0 : Int) == d)) then
     z0v F v1 (0 : Int) g.quorum g.keys
    else
     z0v F v1 (0 : Int) g.quorum g.keys
   else
    bnd (apd 16 ([] : List S_api_Key) a) fun e =>
    law10_AlertBoards_13 F v1 (0 : Int) g.quorum b g.keys e

theorem z6a (F : Nat) : ∀ (v1 : List S_api_Notice) (c5 : Bool) (m : List S_api_Key) (a : Int) (c1 b : SV) (c0 : Pos) (Fr : Rd) (M : Mem) (r : Bool) (c2 : Slc Fr 10 (rep36 Fr) c1 v1) (g : Slc Fr 2 (FlatR enc108) b m) (hH : Has Fr M [.obj c0 (.row 24 .whole [b, (.int .i64 a)]), tb0, tb1, tb2]), law10_AlertBoards_8 F v1 c5 m a = some r → Run Tryz.prog ⟨⟨3, [], none⟩, []⟩ 180 (law10_AlertBoards_post r) [(1, c1), (2, (.ptr c0 0)), (55, (.bool c5))] [codeC Tryz.prog 3 [1, 1, 1, 0, 1, 1], codeC Tryz.prog 3 [1, 1, 1, 1]] M := by
 intro v1 c5 m a c1 b c0 Fr M r c2 g hH h
 rw [law10_AlertBoards_8] at h
 rcases btf (c5) with s | s
 ·have h := bif_t s h
  refine Run.condT' rfl s ?_
  refine Run.seq (Run.region ?_)
  refine av rfl rfl <| Run.opsEnd ?_
  cases h
  exact Run.ret Tryz.func3 rfl (res_tmp rfl res_nil) rfl
 ·have h := bif_f s h
  refine Run.condF' rfl s ?_
  refine Run.skip (Run.seq (Run.region ?_))
  refine og (ex_loadA rfl (hH.cells (i := 0) rfl 0 rfl) rdLe_rfl zax rfl rfl rfl) rfl <| Run.enter wantS_none (ex_call rfl zgh zh6) Tryz.func12 rfl rfl ?_
  refine Run.seq (Run.region ?_)
  refine ox rfl (ExG.box rfl rfl hH) ?_
  rintro _ d8 ⟨c3, rfl, n⟩
  refine av rfl rfl <| av rfl rfl ?_
  refine Run.opsEnd (Run.seq (Run.seq (Run.region ?_)))
  refine og (ex_loadA rfl (n.cells (i := 0) rfl 0 rfl) rdLe_rfl zax rfl rfl rfl) rfl ?_
  obtain ⟨c4, a7, h⟩ := bnd_some h
  refine Run.callP wantS_none (ex_call rfl zhb zh5) rfl (z8l F (S_api_Roll.mk m a) b _ _ (n.slcF g) a7) <| av rfl rfl ?_
  refine Run.opsEnd (Run.seq (Run.region ?_))
  refine mv rfl rfl <| og (ex_neq rfl rfl) rfl <| Run.opsEnd ?_
  rcases btf ((!(c4 == (0 : Int)))) with hc67 | hc67
  ·have h := bif_t hc67 h
   refine Run.condT' rfl hc67 ?_
   refine Run.seq (Run.region ?_)
   refine mv rfl rfl <| av rfl rfl <| av rfl rfl <| Run.opsEnd <| Run.retTo Tryz.func12 rfl (res_tmp rfl (res_tmp rfl res_nil)) rfl <| mv rfl rfl <| og (ex_extract rfl rfl) rfl <| og (ex_extract rfl rfl) rfl <| av rfl rfl <| av rfl rfl ?_
   refine Run.opsEnd (Run.seq (Run.region ?_))
   refine og (ex_loadA rfl (n.cells (i := 1) rfl 0 rfl) rdLe_rfl zax rfl rfl rfl) rfl <| Run.enter wantS_none (ex_call rfl zf6 zf8) Tryz.func13 rfl rfl ?_
   refine Run.seq (Run.region ?_)
   refine ox rfl (ExG.box rfl rfl n) ?_
   rintro _ d5 ⟨c8, rfl, p⟩
   refine av rfl rfl <| av rfl rfl ?_
   refine Run.opsEnd (Run.seq (Run.seq (Run.region ?_)))
   refine og (ex_loadA rfl (p.cells (i := 0) rfl 0 rfl) rdLe_rfl zax rfl rfl rfl) rfl ?_
   obtain ⟨d0, a9, h⟩ := bnd_some h
   refine Run.callP wantS_none (ex_call rfl zfx zg0) rfl (z4m F (S_api_Roll.mk m a) b _ _ (p.slcF g) a9) <| av rfl rfl ?_
   refine Run.opsEnd (Run.seq (Run.region ?_))
   refine mv rfl rfl <| og (ex_neq rfl rfl) rfl <| Run.opsEnd ?_
   rcases btf ((!(d0 == (0 : Int)))) with hc74 | hc74
   ·have h := bif_t hc74 h
    refine Run.condT' rfl hc74 ?_
    refine Run.seq (Run.region ?_)
    refine mv rfl rfl <| av rfl rfl <| av rfl rfl <| Run.opsEnd <| Run.retTo Tryz.func13 rfl (res_tmp rfl (res_tmp rfl res_nil)) rfl <| mv rfl rfl <| og (ex_extract rfl rfl) rfl <| og (ex_extract rfl rfl) rfl <| av rfl rfl <| av rfl rfl ?_
    refine Run.opsEnd (Run.seq (Run.seq (Run.region ?_)))
    refine mv rfl rfl <| mv rfl rfl <| og (ex_neq rfl rfl) rfl <| mv rfl rfl ?_
    rcases btf ((!(c4 == d0))) with e | e
    ·have h := bif_t e h
     refine gn rfl rfl e rfl <| gn rfl rfl e rfl <| gn rfl rfl e rfl <| gn rfl rfl e rfl <| gn rfl rfl e rfl <| og (ex_pickT' rfl e rfl rfl) rfl <| Run.opsEnd ?_
     exact Run.pick [1, 8, 9, 10, 75] (z5y F v1 c4 c1 _ _ _ c2 (p.pick [3, 4, 5] rfl rfl) h)
    ·have h := bif_f e h
     refine gy rfl rfl e (ex_move rfl) rfl <| gy rfl rfl e (ex_ptrNN rfl rfl z8i) rfl <| gy rfl rfl e (ex_move rfl) rfl <| gy rfl rfl e (ex_ptrNN rfl rfl zd0) rfl <| gy rfl rfl e (ex_neqB rfl rfl zde) rfl <| og (ex_pickF' rfl e rfl rfl) rfl <| Run.opsEnd ?_
     exact Run.pick [1, 8, 9, 10, 75] (z5s F v1 c4 c1 _ _ _ c2 (p.pick [3, 4, 5] rfl rfl) h)
   ·have h := bif_f hc74 h
    refine Run.condF' rfl hc74 ?_
    refine Run.skip (Run.seq (Run.region ?_))
    refine av rfl rfl ?_
    refine Run.opsEnd (Run.seq ?_)
    refine Run.drawG z7u <| df rfl (ex_move rfl) rfl <| df rfl (ex_fieldAddr rfl z1h) rfl <| df rfl (ex_load1 rfl (p.cells (i := 0) rfl 0 rfl) rdLe_rfl z7o) rfl <| df rfl (ex_fieldAddr rfl z6s) rfl <| df rfl (ex_load1 rfl (p.cells (i := 0) rfl 1 rfl) rdLe_rfl z0c) rfl ?_
    obtain ⟨c7, b5, h⟩ := bnd_some h
    have a1 : Has Fr d5 [.vec 108 2 ([] : List S_api_Key).length .nils (([] : List S_api_Key).flatMap enc108), .obj c8 (.row 24 .whole [b, (.int .i64 a)]), .obj c3 (.row 24 .whole [b, (.int .i64 a)]), .obj c0 (.row 24 .whole [b, (.int .i64 a)]), tb0, tb1, tb2] := p.nils 108 2
    refine DrawG.opX rfl wantS_none rfl (ExG.append rfl rfl a1 (i := 0) rfl z59 rfl za2 zb9 rfl (len_slc g) (first_slc g (rdLe_roF a1) z59) b5) ?_
    rintro c6 d1 (x : Has Fr d1 [.vec 108 2 c7.length c6 (c7.flatMap enc108), .obj c8 (.row 24 .whole [b, (.int .i64 a)]), .obj c3 (.row 24 .whole [b, (.int .i64 a)]), .obj c0 (.row 24 .whole [b, (.int .i64 a)]), tb0, tb1, tb2])
    refine ⟨(st_cons rfl (ev_ex wantS_none (ex_load1 rfl (x.cells (i := 1) rfl 1 rfl) rdLe_rfl z0c)) rfl rfl rfl (st_cons rfl (ev_ex wantS_none (ex_fieldAddr rfl z6s)) rfl rfl rfl st_nil)), ?_⟩
    refine df rfl (ex_build (r := [c6, (.int .i64 a)]) rfl ze8 zg2 (by simp only [fillS, cells_one (vec_one x (i := 0) rfl)]; rfl)) rfl <| df rfl (ex_build (r := [c6, (.int .i64 a), .nils]) rfl zej zem rfl) rfl <| DrawG.opX rfl wantS_none rfl (ExG.box rfl rfl x) ?_
    rintro _ d9 ⟨d2, rfl, a8⟩
    refine ⟨st_nil, ?_⟩
    refine df rfl (ex_assign rfl) rfl <| df rfl (ex_assign rfl) rfl <| DrawG.sync <| DrawG.nil <| Run.retTo Tryz.func13 rfl (res_tmp rfl (res_tmp rfl res_nil)) rfl <| mv rfl rfl <| og (ex_extract rfl rfl) rfl <| og (ex_extract rfl rfl) rfl <| av rfl rfl <| av rfl rfl ?_
    refine Run.opsEnd (Run.seq (Run.seq (Run.region ?_)))
    refine mv rfl rfl <| mv rfl rfl <| og (ex_neq rfl rfl) rfl <| mv rfl rfl <| gn rfl rfl hc67 rfl <| gn rfl rfl hc67 rfl <| gn rfl rfl hc67 rfl <| gn rfl rfl hc67 rfl <| gn rfl rfl hc67 rfl <| og (ex_pickT' rfl hc67 rfl rfl) rfl <| Run.opsEnd ?_
    exact Run.pick [1, 8, 9, 10, 75] (z5q F v1 c4 a c7 c1 d2 c6 _ _ _ c2 (a8.pick [0, 1, 5, 6, 7] rfl rfl) h)
  ·have h := bif_f hc67 h
   refine Run.condF' rfl hc67 ?_
   refine Run.skip (Run.seq (Run.region ?_))
   refine og (ex_loadA rfl (n.cells (i := 0) rfl 0 rfl) rdLe_rfl zax rfl rfl rfl) rfl ?_
   obtain ⟨b8, b4, h⟩ := bnd_some h
   refine Run.callX wantS_none (ex_call rfl zho zgw) rfl (zaf F (S_api_Roll.mk m a) b _ _ (n.slcF g) b4) ?_
   rintro _ d6 ⟨d, rfl, b3⟩
   have b6 : Has Fr d6 [.vec 166 2 b8.keys.length d (b8.keys.flatMap z01), .obj c3 (.row 24 .whole [b, (.int .i64 a)]), .obj c0 (.row 24 .whole [b, (.int .i64 a)]), tb0, tb1, tb2] := b3.1 _ _ n
   refine og (ex_build (r := [d, (.int .i64 b8.quorum), .nils, .nilp]) rfl zd4 zdc rfl) rfl <| ox rfl (ExG.box rfl rfl b6) ?_
   rintro _ d7 ⟨b9, rfl, b1⟩
   refine av rfl rfl ?_
   refine Run.opsEnd (Run.seq (Run.region ?_))
   refine mv rfl rfl <| mv rfl rfl <| og (ex_nilP rfl) rfl <| og (ex_fieldAddr rfl z8a) rfl <| ox rfl (ExG.storeC (c' := [d, (.int .i64 b8.quorum), .nils, (.ptr b9 0)]) rfl rfl rfl b1 (i := 0) rfl zhz rfl rfl rfl rfl rfl) ?_
   rintro _ d3 ⟨rfl, (a3 : Has Fr d3 [.obj b9 (.row 41 .whole [d, (.int .i64 b8.quorum), .nils, (.ptr b9 0)]), .vec 166 2 b8.keys.length d (b8.keys.flatMap z01), .obj c3 (.row 24 .whole [b, (.int .i64 a)]), .obj c0 (.row 24 .whole [b, (.int .i64 a)]), tb0, tb1, tb2])⟩
   refine Run.opsEnd (Run.seq (Run.region ?_))
   refine mv rfl rfl <| av rfl rfl <| av rfl rfl <| Run.opsEnd <| Run.retTo Tryz.func12 rfl (res_tmp rfl (res_tmp rfl res_nil)) rfl <| mv rfl rfl <| og (ex_extract rfl rfl) rfl <| og (ex_extract rfl rfl) rfl <| av rfl rfl <| av rfl rfl ?_
   refine Run.opsEnd (Run.seq (Run.region ?_))
   refine og (ex_loadA rfl (a3.cells (i := 3) rfl 0 rfl) rdLe_rfl zax rfl rfl rfl) rfl <| Run.enter wantS_none (ex_call rfl zf6 zf8) Tryz.func13 rfl rfl ?_
   refine Run.seq (Run.region ?_)
   refine ox rfl (ExG.box rfl rfl a3) ?_
   rintro _ d4 ⟨c9, rfl, q⟩
   refine av rfl rfl <| av rfl rfl ?_
   refine Run.opsEnd (Run.seq (Run.seq (Run.region ?_)))
   refine og (ex_loadA rfl (q.cells (i := 0) rfl 0 rfl) rdLe_rfl zax rfl rfl rfl) rfl ?_
   obtain ⟨a2, a6, h⟩ := bnd_some h
   refine Run.callP wantS_none (ex_call rfl zfx zg0) rfl (z4m F (S_api_Roll.mk m a) b _ _ (q.slcF g) a6) <| av rfl rfl ?_
   refine Run.opsEnd (Run.seq (Run.region ?_))
   refine mv rfl rfl <| og (ex_neq rfl rfl) rfl <| Run.opsEnd ?_
   rcases btf ((!(a2 == (0 : Int)))) with hc102 | hc102
   ·have h := bif_t hc102 h
    refine Run.condT' rfl hc102 ?_
    refine Run.seq (Run.region ?_)
    refine mv rfl rfl <| av rfl rfl <| av rfl rfl <| Run.opsEnd <| Run.retTo Tryz.func13 rfl (res_tmp rfl (res_tmp rfl res_nil)) rfl <| mv rfl rfl <| og (ex_extract rfl rfl) rfl <| og (ex_extract rfl rfl) rfl <| av rfl rfl <| av rfl rfl ?_
    refine Run.opsEnd (Run.seq (Run.seq (Run.region ?_)))
    refine mv rfl rfl <| mv rfl rfl <| og (ex_neq rfl rfl) rfl <| mv rfl rfl ?_
    rcases btf ((!((0 : Int) == a2))) with hc103 | hc103
    ·have h := bif_t hc103 h
     refine gn rfl rfl hc103 rfl <| gn rfl rfl hc103 rfl <| gn rfl rfl hc103 rfl <| gn rfl rfl hc103 rfl <| gn rfl rfl hc103 rfl <| og (ex_pickT' rfl hc103 rfl rfl) rfl <| Run.opsEnd ?_
     exact Run.pick [1, 8, 9, 10, 75] (z2j F v1 (0 : Int) b8.quorum b8.keys c1 b9 d _ _ _ c2 (q.pick [1, 2, 5, 6, 7] rfl rfl) h)
    ·have h := bif_f hc103 h
     refine gy rfl rfl hc103 (ex_move rfl) rfl <| gy rfl rfl hc103 (ex_ptrPN rfl rfl z8i) rfl <| gy rfl rfl hc103 (ex_move rfl) rfl <| gy rfl rfl hc103 (ex_ptrNN rfl rfl zd0) rfl <| gy rfl rfl hc103 (ex_neqB rfl rfl zde) rfl <| og (ex_pickF' rfl hc103 rfl rfl) rfl <| Run.opsEnd ?_
     exact Run.pick [1, 8, 9, 10, 75] (z2j F v1 (0 : Int) b8.quorum b8.keys c1 b9 d _ _ _ c2 (q.pick [1, 2, 5, 6, 7] rfl rfl) h)
   ·have h := bif_f hc102 h
    refine Run.condF' rfl hc102 ?_
    refine Run.skip (Run.seq (Run.region ?_))
    refine av rfl rfl ?_
    refine Run.opsEnd (Run.seq ?_)
    refine Run.drawG z7u <| df rfl (ex_move rfl) rfl <| df rfl (ex_fieldAddr rfl z1h) rfl <| df rfl (ex_load1 rfl (q.cells (i := 0) rfl 0 rfl) rdLe_rfl z7o) rfl <| df rfl (ex_fieldAddr rfl z6s) rfl <| df rfl (ex_load1 rfl (q.cells (i := 0) rfl 1 rfl) rdLe_rfl z0c) rfl ?_
    obtain ⟨y, a5, h⟩ := bnd_some h
    have a0 : Has Fr d4 [.vec 108 2 ([] : List S_api_Key).length .nils (([] : List S_api_Key).flatMap enc108), .obj c9 (.row 24 .whole [b, (.int .i64 a)]), .obj b9 (.row 41 .whole [d, (.int .i64 b8.quorum), .nils, (.ptr b9 0)]), .vec 166 2 b8.keys.length d (b8.keys.flatMap z01), .obj c3 (.row 24 .whole [b, (.int .i64 a)]), .obj c0 (.row 24 .whole [b, (.int .i64 a)]), tb0, tb1, tb2] := q.nils 108 2
    refine DrawG.opX rfl wantS_none rfl (ExG.append rfl rfl a0 (i := 0) rfl z59 rfl za2 zb9 rfl (len_slc g) (first_slc g (rdLe_roF a0) z59) a5) ?_
    rintro w b2 (u : Has Fr b2 [.vec 108 2 y.length w (y.flatMap enc108), .obj c9 (.row 24 .whole [b, (.int .i64 a)]), .obj b9 (.row 41 .whole [d, (.int .i64 b8.quorum), .nils, (.ptr b9 0)]), .vec 166 2 b8.keys.length d (b8.keys.flatMap z01), .obj c3 (.row 24 .whole [b, (.int .i64 a)]), .obj c0 (.row 24 .whole [b, (.int .i64 a)]), tb0, tb1, tb2])
    refine ⟨(st_cons rfl (ev_ex wantS_none (ex_load1 rfl (u.cells (i := 1) rfl 1 rfl) rdLe_rfl z0c)) rfl rfl rfl (st_cons rfl (ev_ex wantS_none (ex_fieldAddr rfl z6s)) rfl rfl rfl st_nil)), ?_⟩
    refine df rfl (ex_build (r := [w, (.int .i64 a)]) rfl ze8 zg2 (by simp only [fillS, cells_one (vec_one u (i := 0) rfl)]; rfl)) rfl <| df rfl (ex_build (r := [w, (.int .i64 a), .nils]) rfl zej zem rfl) rfl <| DrawG.opX rfl wantS_none rfl (ExG.box rfl rfl u) ?_
    rintro _ b7 ⟨b0, rfl, a4⟩
    refine ⟨st_nil, ?_⟩
    refine df rfl (ex_assign rfl) rfl <| df rfl (ex_assign rfl) rfl <| DrawG.sync <| DrawG.nil <| Run.retTo Tryz.func13 rfl (res_tmp rfl (res_tmp rfl res_nil)) rfl <| mv rfl rfl <| og (ex_extract rfl rfl) rfl <| og (ex_extract rfl rfl) rfl <| av rfl rfl <| av rfl rfl ?_
    refine Run.opsEnd (Run.seq (Run.seq (Run.region ?_)))
    refine mv rfl rfl <| mv rfl rfl <| og (ex_neq rfl rfl) rfl <| mv rfl rfl <| gy rfl rfl rfl (ex_move rfl) rfl <| gy rfl rfl rfl (ex_ptrPN rfl rfl z8i) rfl <| gy rfl rfl rfl (ex_move rfl) rfl <| gy rfl rfl rfl (ex_ptrPN rfl rfl zd0) rfl <| gy rfl rfl rfl (ex_neqB rfl rfl zde) rfl <| og (ex_pickF' rfl rfl rfl rfl) rfl <| Run.opsEnd ?_
    exact Run.pick [1, 8, 9, 10, 75] (z5r F v1 (0 : Int) b8.quorum a b8.keys y c1 b9 d b0 w _ _ _ c2 (a4.pick [3, 4, 0, 1, 7, 8, 9] rfl rfl) h)

def law10_AlertBoards_6 (F : Nat) (v1 : List S_api_Notice) (b : List S_api_Key) (a : Int) : Option (Bool) :=
 bnd (alert_Board_Force_h1 F [120] (0 : Int)) fun d =>
 bif (!(d.2.2.2.2.2.2.2.2.2 == (1 : Int))) then
  z1t F v1 b a
 else
  bnd (law10_same F (S_api_Alert.mk d.1 d.2.1 d.2.2.1 (S_api_Chance.mk d.2.2.2.1 d.2.2.2.2.1) d.2.2.2.2.2.1 d.2.2.2.2.2.2.1 d.2.2.2.2.2.2.2.1 d.2.2.2.2.2.2.2.2.1) (S_api_Alert.mk [] 0 0 (S_api_Chance.mk 0 0) 0 [] false 0)) fun e =>
  law10_AlertBoards_8 F v1 (!e) b a

theorem z64 (F : Nat) : ∀ (v1 : List S_api_Notice) (g : List S_api_Key) (d : Int) (a0 a : SV) (y : Pos) (Fr : Rd) (M : Mem) (r : Bool) (a1 : Slc Fr 10 (rep36 Fr) a0 v1) (m : Slc Fr 2 (FlatR enc108) a g) (hH : Has Fr M [.obj y (.row 24 .whole [a, (.int .i64 d)]), tb0, tb1, tb2]), law10_AlertBoards_6 F v1 g d = some r → Run Tryz.prog ⟨⟨3, [], none⟩, []⟩ 180 (law10_AlertBoards_post r) [(1, a0), (2, (.ptr y 0)), (41, (.bool false))] [codeC Tryz.prog 3 [1, 1, 0, 1], codeC Tryz.prog 3 [1, 1, 1]] M := by
 intro v1 g d a0 a y Fr M r a1 m hH h
 rw [law10_AlertBoards_6] at h
 refine Run.condF' rfl rfl ?_
 refine Run.skip (Run.seq (Run.seq (Run.region ?_)))
 refine og (ex_build (r := [.nils, (.int .i64 0), .nils, .nilp]) rfl zd4 zdc rfl) rfl <| ox rfl (ExG.box rfl rfl hH) ?_
 rintro _ a8 ⟨a2, rfl, s⟩
 obtain ⟨x, q, h⟩ := bnd_some h
 refine Run.callX wantS_none (ex_call rfl zcx zcz) rfl (z5o F [120] (0 : Int) a2 Fr [.obj y (.row 24 .whole [a, (.int .i64 d)])] _ _ (s.pick [0, 2, 3, 4, 1] rfl rfl) q) ?_
 rintro _ a3 ⟨e, rfl, (u : Has Fr a3 [.vec 3 1 x.2.2.2.2.2.2.1.length e (x.2.2.2.2.2.2.1.flatMap enc3), .obj a2 (.row 41 .whole [.nils, (.int .i64 0), .nils, .nilp]), tb0, tb1, tb2, .obj y (.row 24 .whole [a, (.int .i64 d)])])⟩
 refine mv rfl rfl <| og (ex_extract rfl rfl) rfl <| og (ex_extract rfl rfl) rfl <| ox rfl (ExG.new (v := fun b => .ptr b 0) (ex_alloc z3v) u) ?_
 rintro _ a7 ⟨a6, rfl, p⟩
 refine ox rfl (ExG.storeC (c' := (k0 x.1 x.2.1 x.2.2.1 x.2.2.2.1 x.2.2.2.2.1 x.2.2.2.2.2.1 e x.2.2.2.2.2.2.2.1 x.2.2.2.2.2.2.2.2.1)) rfl rfl rfl p (i := 0) rfl z9x rfl rfl rfl (ones_cons rfl (ones_cons rfl (ones_cons rfl (ones_cons rfl (ones_cons rfl (ones_cons rfl (ones_cons (vec_one p (i := 1) rfl) (ones_cons rfl (ones_cons rfl ones_nil))))))))) rfl) ?_
 rintro _ a5 ⟨rfl, (n : Has Fr a5 [.obj a6 (.row 33 .whole (k0 x.1 x.2.1 x.2.2.1 x.2.2.2.1 x.2.2.2.2.1 x.2.2.2.2.2.1 e x.2.2.2.2.2.2.2.1 x.2.2.2.2.2.2.2.2.1)), .vec 3 1 x.2.2.2.2.2.2.1.length e (x.2.2.2.2.2.2.1.flatMap enc3), .obj a2 (.row 41 .whole [.nils, (.int .i64 0), .nils, .nilp]), tb0, tb1, tb2, .obj y (.row 24 .whole [a, (.int .i64 d)])])⟩
 refine av rfl rfl ?_
 refine Run.opsEnd (Run.seq (Run.region ?_))
 refine mv rfl rfl <| og (ex_neq rfl rfl) rfl <| mv rfl rfl ?_
 rcases btf ((!(x.2.2.2.2.2.2.2.2.2 == (1 : Int)))) with hc56 | hc56
 ·have h := bif_t hc56 h
  refine gn rfl rfl hc56 rfl <| gn rfl rfl hc56 rfl <| gn rfl rfl hc56 rfl <| gn rfl rfl hc56 rfl <| og (ex_pickT' rfl hc56 rfl rfl) rfl <| Run.opsEnd ?_
  exact Run.pick [1, 2, 55] (z6e F v1 g d a0 a y _ _ _ a1 m (n.pick [6, 3, 4, 5] rfl rfl) h)
 ·have h := bif_f hc56 h
  refine gy rfl rfl hc56 (ex_loadA rfl (n.cells (i := 0) rfl 0 rfl) rdLe_rfl z0m rfl rfl rfl) rfl <| gy rfl rfl hc56 (ex_build (r := (k0 [] 0 0 0 0 0 .nils false 0)) rfl z3v zbe rfl) rfl ?_
  obtain ⟨a4, w, h⟩ := bnd_some h
  refine Run.callP (wantS_yes' rfl rfl hc56) (ex_call rfl zbu zbz) rfl (z2e F (S_api_Alert.mk x.1 x.2.1 x.2.2.1 (S_api_Chance.mk x.2.2.2.1 x.2.2.2.2.1) x.2.2.2.2.2.1 x.2.2.2.2.2.2.1 x.2.2.2.2.2.2.2.1 x.2.2.2.2.2.2.2.2.1) (S_api_Alert.mk [] 0 0 (S_api_Chance.mk 0 0) 0 [] false 0) e .nils _ _ (n.slc (i := 1) rfl z0i) slc_nil w) <| gy rfl rfl hc56 (ex_not rfl) rfl <| og (ex_pickF' rfl hc56 rfl rfl) rfl <| Run.opsEnd ?_
  exact Run.pick [1, 2, 55] (z6a F v1 (!a4) g d a0 a y _ _ _ a1 m (n.pick [6, 3, 4, 5] rfl rfl) h)

def law10_AlertBoards_4 (F : Nat) (v1 : List S_api_Notice) (d : Bool) (b : List S_api_Key) (a : Int) : Option (Bool) :=
 bif d then
  z1s F v1 b a
 else
  law10_AlertBoards_6 F v1 b a

theorem z6m (F : Nat) : ∀ (v1 : List S_api_Notice) (q : Bool) (g : List S_api_Key) (e : Int) (p d : SV) (n : Pos) (Fr : Rd) (M : Mem) (r : Bool) (s : Slc Fr 10 (rep36 Fr) p v1) (m : Slc Fr 2 (FlatR enc108) d g) (hH : Has Fr M [.obj n (.row 24 .whole [d, (.int .i64 e)]), tb0, tb1, tb2]), law10_AlertBoards_4 F v1 q g e = some r → Run Tryz.prog ⟨⟨3, [], none⟩, []⟩ 180 (law10_AlertBoards_post r) [(1, p), (2, (.ptr n 0)), (5, .nilp), (35, (.bool q))] [itemC Tryz.prog 3 [1, 1, 0, 0] 17, codeC Tryz.prog 3 [1, 1, 0, 1], codeC Tryz.prog 3 [1, 1, 1]] M := by
 intro v1 q g e p d n Fr M r s m hH h
 rw [law10_AlertBoards_4] at h
 refine mv rfl rfl ?_
 rcases btf (q) with b | b
 ·have h := bif_t b h
  refine gn rfl rfl b rfl <| gn rfl rfl b rfl <| gn rfl rfl b rfl <| gn rfl rfl b rfl <| og (ex_pickT' rfl b rfl rfl) rfl <| Run.opsEnd ?_
  exact Run.pick [1, 2, 41] (z66 F v1 g e p d n _ _ _ s m hH h)
 ·have h := bif_f b h
  refine gy rfl rfl b (ex_move rfl) rfl <| Run.enter (wantS_yes' rfl rfl b) (ex_call rfl zhw zht) Tryz.func9 rfl rfl ?_
  refine Run.seq (Run.region ?_)
  refine av rfl rfl ?_
  refine Run.opsEnd (Run.seq (Run.seq (Run.region ?_)))
  refine mv rfl rfl <| Run.enter wantS_none (ex_call rfl zau zat) Tryz.func35 rfl rfl ?_
  refine Run.seq (Run.region ?_)
  refine av rfl rfl ?_
  refine Run.opsEnd (Run.seq (Run.region ?_))
  refine mv rfl rfl <| og (ex_ptrNNn rfl rfl z8i) rfl <| mv rfl rfl <| gn rfl rfl rfl rfl <| gn rfl rfl rfl rfl <| gn rfl rfl rfl rfl <| gn rfl rfl rfl rfl <| gn rfl rfl rfl rfl <| gn rfl rfl rfl rfl <| og (ex_pickF' rfl rfl rfl rfl) rfl <| av rfl rfl <| Run.opsEnd <| Run.retTo Tryz.func35 rfl (res_tmp rfl res_nil) rfl <| og (ex_not rfl) rfl <| Run.opsEnd <| Run.condT' rfl rfl ?_
  refine Run.seq (Run.region ?_)
  refine av rfl rfl <| Run.opsEnd <| Run.retTo Tryz.func9 rfl (res_tmp rfl res_nil) rfl <| gy rfl rfl b (ex_len' (z := 1) (R := FlatR (fun a => [a])) (f := Fr) (l := []) rfl slc_nil z9n) rfl <| gy rfl rfl b (ex_neq rfl rfl) rfl <| og (ex_pickF' rfl b rfl rfl) rfl <| Run.opsEnd ?_
  exact Run.pick [1, 2, 41] (z64 F v1 g e p d n _ _ _ s m hH h)

def law10_AlertBoards_2 (F : Nat) (v1 : List S_api_Notice) (e : Bool) (b : List S_api_Key) (a : Int) : Option (Bool) :=
 bif e then
  z1p F v1 b a
 else
  bnd (alert_Board_Notices_h1 F) fun d =>
  law10_AlertBoards_4 F v1 (!((d.length : Int) == (0 : Int))) b a

theorem z62 (F : Nat) : ∀ (v1 : List S_api_Notice) (a0 : Bool) (g : List S_api_Key) (d : Int) (y b : SV) (w : Pos) (Fr : Rd) (M : Mem) (r : Bool) (x : Slc Fr 10 (rep36 Fr) y v1) (e : Slc Fr 2 (FlatR enc108) b g) (hH : Has Fr M [.obj w (.row 24 .whole [b, (.int .i64 d)]), tb0, tb1, tb2]), law10_AlertBoards_2 F v1 a0 g d = some r → Run Tryz.prog ⟨⟨3, [], none⟩, []⟩ 180 (law10_AlertBoards_post r) [(1, y), (2, (.ptr w 0)), (5, .nilp), (29, (.bool a0))] [itemC Tryz.prog 3 [1, 1, 0, 0] 11, codeC Tryz.prog 3 [1, 1, 0, 1], codeC Tryz.prog 3 [1, 1, 1]] M := by
 intro v1 a0 g d y b w Fr M r x e hH h
 rw [law10_AlertBoards_2] at h
 refine mv rfl rfl ?_
 rcases btf (a0) with a | a
 ·have h := bif_t a h
  refine gn rfl rfl a rfl <| gn rfl rfl a rfl <| gn rfl rfl a rfl <| gn rfl rfl a rfl <| og (ex_pickT' rfl a rfl rfl) rfl ?_
  exact Run.pick [1, 2, 5, 35] (z6b F v1 g d y b w _ _ _ x e hH h)
 ·have h := bif_f a h
  refine gy rfl rfl a (ex_move rfl) rfl ?_
  obtain ⟨a1, u, h⟩ := bnd_some h
  refine Run.callX (wantS_yes' rfl rfl a) (ex_call rfl zhv zhx) rfl (z4u F Fr [.obj w (.row 24 .whole [b, (.int .i64 d)])] _ _ (hH.pick [1, 2, 3, 0] rfl rfl) u) ?_
  rintro s a3 ⟨_, rfl, a2, m, q, n, (p : Has a2 a3 [.vec 36 10 a1.length s q, tb0, tb1, tb2, .obj w (.row 24 .whole [b, (.int .i64 d)])])⟩
  replace e := e.mono m (fun _ _ h => h)
  replace x := x.mono m (fun _ _ => z02 m)
  refine gy rfl rfl a (ex_len' rfl (p.slcR (i := 0) rfl n) z4n) rfl <| gy rfl rfl a (ex_neq rfl rfl) rfl <| og (ex_pickF' rfl a rfl rfl) rfl ?_
  exact Run.pick [1, 2, 5, 35] (z6m F v1 (!((a1.length : Int) == (0 : Int))) g d y b w _ _ _ x e (p.pick [4, 1, 2, 3] rfl rfl) h)

def law10_AlertBoards (F : Nat) (a0 : S_api_Roll) (a1 : List S_api_Notice) : Option (Bool) :=
 bnd (alert_Board_Post_h1 F [] (0 : Int) (0 : Int) (0 : Int) (0 : Int) (0 : Int) (0 : Int)) fun a =>
 bif (!(a == (1 : Int))) then
  z1q F a1 a0.Keys a0.Quorum
 else
  bnd (alert_Board_Post_h2 F [] (0 : Int) (0 : Int) (0 : Int) (0 : Int) (0 : Int) (0 : Int) (0 : Int)) fun b =>
  law10_AlertBoards_2 F a1 (!(b == (1 : Int))) a0.Keys a0.Quorum

theorem law10_AlertBoards_run (F : Nat) (a0 : S_api_Roll) (a1 : List S_api_Notice) (s0 s1 : SV) (r : Bool) (M : Mem) (q : Slc (rd M) 2 (FlatR enc108) s0 a0.Keys) (p : Slc (rd M) 10 (rep36 (rd M)) s1 a1) (hfx : FixIn M fixes) (h : law10_AlertBoards F a0 a1 = some r) : Run Tryz.prog (fx0 3) 180 (law10_AlertBoards_post r) [(0, (.agg [s0, (.int .i64 a0.Quorum)])), (1, s1)] [codeC Tryz.prog 3 []] (frozen M) := by
 rw [law10_AlertBoards] at h
 replace q := q.mono (rdLe_frozen M) (fun _ _ h => h)
 replace p := p.mono (rdLe_frozen M) (fun _ _ => z02 (rdLe_frozen M))
 have hH : Has (ro (frozen M)) (frozen M) [tb0, tb1, tb2] := Has.ofFix hfx.frozen
 refine Run.seq (Run.region ?_)
 refine ox rfl (ExG.box rfl rfl hH) ?_
 rintro _ a2 ⟨n, rfl, g⟩
 refine av rfl rfl ?_
 refine Run.opsEnd (Run.seq (Run.region ?_))
 refine av rfl rfl ?_
 refine Run.opsEnd (Run.seq (Run.seq (Run.region ?_)))
 refine mv rfl rfl <| og (ex_build (r := (k1 [] 0 0 0 0 0 .nils false 0 .nils)) rfl zb6 zew rfl) rfl ?_
 obtain ⟨u, b, h⟩ := bnd_some h
 refine Run.callX wantS_none (ex_call rfl zgs zgf) rfl (z6i F [] (0 : Int) (0 : Int) (0 : Int) (0 : Int) (0 : Int) (0 : Int) (ro (frozen M)) [.obj n (.row 24 .whole [s0, (.int .i64 a0.Quorum)])] _ _ (g.pick [1, 2, 3, 0] rfl rfl) b) ?_
 rintro _ x ⟨rfl, (a : Has (ro (frozen M)) x [tb0, tb1, tb2, .obj n (.row 24 .whole [s0, (.int .i64 a0.Quorum)])])⟩
 refine og (ex_neq rfl rfl) rfl <| mv rfl rfl ?_
 rcases btf ((!(u == (1 : Int)))) with hc30 | hc30
 ·have h := bif_t hc30 h
  refine gn rfl rfl hc30 rfl <| gn rfl rfl hc30 rfl <| gn rfl rfl hc30 rfl <| gn rfl rfl hc30 rfl <| gn rfl rfl hc30 rfl <| og (ex_pickT' rfl hc30 rfl rfl) rfl ?_
  exact Run.pick [1, 2, 5, 29] (z6g F a1 a0.Keys a0.Quorum s1 s0 n _ _ _ p q (a.pick [3, 0, 1, 2] rfl rfl) h)
 ·have h := bif_f hc30 h
  refine gy rfl rfl hc30 (ex_build (r := [.nils, (.int .i64 0), .nils, .nilp]) rfl zd4 zdc rfl) rfl <| Run.opX (wantS_yes' rfl rfl hc30) rfl (ExG.box rfl rfl a) ?_
  rintro _ a3 ⟨s, rfl, d⟩
  refine gy rfl rfl hc30 (ex_build (r := (k1 [] 0 0 0 0 0 .nils false 0 .nils)) rfl zb6 zew rfl) rfl ?_
  obtain ⟨w, e, h⟩ := bnd_some h
  refine Run.callX (wantS_yes' rfl rfl hc30) (ex_call rfl zgs zgf) rfl (z63 F [] (0 : Int) (0 : Int) (0 : Int) (0 : Int) (0 : Int) (0 : Int) (0 : Int) s (ro (frozen M)) [.obj n (.row 24 .whole [s0, (.int .i64 a0.Quorum)])] _ _ d e) ?_
  rintro _ y ⟨rfl, (m : Has (ro (frozen M)) y [.obj s (.row 41 .whole [.nils, (.int .i64 0), .nils, .nilp]), tb0, tb1, tb2, .obj n (.row 24 .whole [s0, (.int .i64 a0.Quorum)])])⟩
  refine gy rfl rfl hc30 (ex_neq rfl rfl) rfl <| og (ex_pickF' rfl hc30 rfl rfl) rfl ?_
  exact Run.pick [1, 2, 5, 29] (z62 F a1 (!(w == (1 : Int))) a0.Keys a0.Quorum s1 s0 n _ _ _ p q (m.pick [4, 1, 2, 3] rfl rfl) h)

end Go.Ev.AlertBoards
