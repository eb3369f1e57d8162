/- Plain functions that say what functions of the program come to, and proofs of it, written by a program of the verifier's own. -/
import Derived.Test.YtoobfmfgbcohcabGreatDoorShelf
import Derived.Test.YtoobfmfgbcohcabGreatDoorAlertBoardsPlain
namespace Go.Ev.AlertBoards
open Go Go.Ev Go.Proofs
set_option maxRecDepth 100000
set_option linter.unusedVariables false

abbrev z07 (r : List UInt8) : SV → Mem → Prop := fun s _ => s = (.str r)

def alert_textOf_8 (F : Nat) : Nat → List UInt8 → Int → Int → Int → Int → Int → List Int → Bool → Int → List Int → Option ((List UInt8))
 | 0, _, _, _, _, _, _, _, _, _, _ => none
 | N + 1, m, n, p, d, g, b, q, s, e, a =>
  bnd (neB a) fun w =>
  bnd (strOf a) fun u =>
  some u

theorem z92 (F : Nat) : ∀ (N : Nat), ∀ (m : List UInt8) (n p b d g : Int) (s : List Int) (e : Bool) (q : Int) (x : List Int) (a : SV) (f : Pos) (w : SV) (Fr : Rd) (M : Mem) (r : List UInt8) (u : Slc Fr 1 (FlatR enc3) a s) (hH : Has Fr M [.obj f (.row 228 .whole [(.ptr f 0), w]), .vec 5 1 x.length w (x.flatMap z1n), tb0, tb1, tb2]), alert_textOf_8 F N m n p b d g s e q x = some r → Run Tryz.prog ⟨⟨92, [], none⟩, []⟩ 33 (z07 r) [(5, (.ptr f 0)), (24, (.agg [(.fn (.func 148) [(.agg (k0 m n p b d g a e q))] []), (.fn (.func 149) [(.agg (k0 m n p b d g a e q))] []), (.fn (.func 150) [(.agg (k0 m n p b d g a e q))] []), (.fn (.func 151) [(.agg (k0 m n p b d g a e q))] []), (.fn (.func 152) [(.agg (k0 m n p b d g a e q))] []), (.fn (.func 153) [(.agg (k0 m n p b d g a e q))] []), (.fn (.func 154) [(.agg (k0 m n p b d g a e q))] [])])), (25, (.int .i64 7))] [codeC Tryz.prog 92 [1, 1, 1, 1, 0, 1, 0, 0], loopC Tryz.prog 92 [1, 1, 1, 1, 0, 1, 0, 0], .inBlock 0, codeC Tryz.prog 92 [1, 1, 1, 1, 1]] M := by
 intro N
 induction N with
 | zero =>
  intro m n p b d g s e q x a f w Fr M r u hH h
  simp [alert_textOf_8] at h
 | succ N ih =>
  intro m n p b d g s e q x a f w Fr M r u hH h
  rw [alert_textOf_8] at h
  refine Run.seq (Run.region ?_)
  refine og (ex_lss rfl rfl) rfl ?_
  refine Run.opsEnd (Run.seq ?_)
  refine Run.condF' rfl rfl ?_
  refine Run.exit rfl (Run.seq (Run.region ?_))
  refine Run.enter wantS_none (ex_call rfl zcd zcq) Tryz.func156 rfl rfl ?_
  refine Run.seq (Run.region ?_)
  refine av rfl rfl ?_
  refine Run.opsEnd (Run.seq ?_)
  refine Run.drawG zad <| df rfl (ex_move rfl) rfl <| df rfl (ex_nilP rfl) rfl <| df rfl (ex_fieldAddr rfl z08) rfl <| df rfl (ex_load1 rfl (hH.cells (i := 0) rfl 1 rfl) rdLe_rfl z3x) rfl ?_
  obtain ⟨a5, a2, h⟩ := bnd_some h
  obtain ⟨a7, a0, a1⟩ := vec_data (P := Tryz.prog) hH (i := 1) rfl (neB_some a2)
  refine df rfl (a1 _ _ _ _ rfl) rfl <| df rfl (ex_move rfl) rfl <| df rfl (ex_nilP rfl) rfl <| df rfl (ex_fieldAddr rfl z08) rfl <| df rfl (ex_load1 rfl (hH.cells (i := 0) rfl 1 rfl) rdLe_rfl z3x) rfl <| df rfl (ex_len' rfl (hH.slc (i := 1) rfl z0f) zas) rfl ?_
  obtain ⟨a6, y, h⟩ := bnd_some h
  refine DrawG.opX rfl wantS_none rfl (ExG.uString (enc := z1n) (fun _ => rfl) rfl rfl hH (i := 1) rfl a0 zct zhr y) ?_
  rintro _ a3 ⟨rfl, (a4 : Has Fr a3 [.obj f (.row 228 .whole [(.ptr f 0), w]), .vec 0 0 0 .nils [], tb0, tb1, tb2])⟩
  refine ⟨st_nil, ?_⟩
  refine df rfl (ex_assign rfl) rfl <| DrawG.sync <| DrawG.nil <| Run.retTo Tryz.func156 rfl (res_tmp rfl res_nil) rfl <| av rfl rfl <| Run.opsEnd ?_
  cases h
  exact Run.ret Tryz.func92 rfl (res_tmp rfl res_nil) rfl

def alert_textOf_7 (F : Nat) : Nat → List UInt8 → Int → Int → Int → Int → Int → List Int → Bool → Int → List Int → Option ((List UInt8))
 | 0, _, _, _, _, _, _, _, _, _, _ => none
 | N + 1, g, m, n, b, e, a, p, q, d, u =>
  bnd (alert_sheet_end F (S_api_Alert.mk g m n (S_api_Chance.mk b e) a p q d)) fun f =>
  bnd (apd 1 u (bytesI f)) fun s =>
  alert_textOf_8 F F g m n b e a p q d s

theorem z9f (F : Nat) : ∀ (N : Nat), ∀ (m : List UInt8) (n p b d g : Int) (s : List Int) (e : Bool) (q : Int) (a6 : List Int) (a : SV) (f : Pos) (a5 : SV) (Fr : Rd) (M : Mem) (r : List UInt8) (u : Slc Fr 1 (FlatR enc3) a s) (hH : Has Fr M [.obj f (.row 228 .whole [(.ptr f 0), a5]), .vec 5 1 a6.length a5 (a6.flatMap z1n), tb0, tb1, tb2]), alert_textOf_7 F N m n p b d g s e q a6 = some r → Run Tryz.prog ⟨⟨92, [], none⟩, []⟩ 33 (z07 r) [(5, (.ptr f 0)), (24, (.agg [(.fn (.func 148) [(.agg (k0 m n p b d g a e q))] []), (.fn (.func 149) [(.agg (k0 m n p b d g a e q))] []), (.fn (.func 150) [(.agg (k0 m n p b d g a e q))] []), (.fn (.func 151) [(.agg (k0 m n p b d g a e q))] []), (.fn (.func 152) [(.agg (k0 m n p b d g a e q))] []), (.fn (.func 153) [(.agg (k0 m n p b d g a e q))] []), (.fn (.func 154) [(.agg (k0 m n p b d g a e q))] [])])), (25, (.int .i64 6))] [codeC Tryz.prog 92 [1, 1, 1, 1, 0, 1, 0, 0], loopC Tryz.prog 92 [1, 1, 1, 1, 0, 1, 0, 0], .inBlock 0, codeC Tryz.prog 92 [1, 1, 1, 1, 1]] M := by
 intro N
 induction N with
 | zero =>
  intro m n p b d g s e q a6 a f a5 Fr M r u hH h
  simp [alert_textOf_7] at h
 | succ N ih =>
  intro m n p b d g s e q a6 a f a5 Fr M r u hH h
  rw [alert_textOf_7] at h
  refine Run.seq (Run.region ?_)
  refine og (ex_lss rfl rfl) rfl ?_
  refine Run.opsEnd (Run.seq ?_)
  refine Run.condT' rfl rfl ?_
  refine Run.skip (Run.seq (Run.block (Run.seq (Run.region ?_))))
  refine og (ex_idxA (j := 6) rfl rfl zah rfl (part_one zai rfl)) rfl <| av rfl rfl ?_
  refine Run.opsEnd (Run.region ?_)
  refine mv rfl rfl ?_
  obtain ⟨a7, a2, h⟩ := bnd_some h
  refine Run.callP wantS_none (ex_closure rfl rfl zee ze6) rfl (z8v F (S_api_Alert.mk m n p (S_api_Chance.mk b d) g s e q) a _ _ (hH.slcF u) (zal hH (List.mem_of_getElem? (i := 2) rfl) (List.mem_of_getElem? (i := 3) rfl) (List.mem_of_getElem? (i := 4) rfl)) a2) <| Run.enter wantS_none (ex_call rfl z8u z8h) Tryz.func155 rfl rfl ?_
  refine Run.seq (Run.region ?_)
  refine av rfl rfl <| av rfl rfl ?_
  refine Run.opsEnd (Run.seq (Run.region ?_))
  refine mv rfl rfl <| Run.enter wantS_none (ex_call rfl z7h z6y) Tryz.func208 rfl rfl ?_
  refine Run.seq (Run.region ?_)
  refine mv rfl rfl <| og (ex_nilP rfl) rfl <| og (ex_fieldAddr rfl z0d) rfl <| og (ex_load1 rfl (hH.cells (i := 0) rfl 0 rfl) rdLe_rfl z1v) rfl <| og (ex_ptrPN rfl rfl z7k) rfl <| Run.opsEnd <| Run.condF' rfl rfl ?_
  refine Run.seq (Run.region ?_)
  refine mv rfl rfl <| og (ex_nilP rfl) rfl <| og (ex_fieldAddr rfl z0d) rfl <| og (ex_load1 rfl (hH.cells (i := 0) rfl 0 rfl) rdLe_rfl z1v) rfl <| mv rfl rfl <| og (ex_ptrSamen rfl rfl z8o z8p) rfl <| Run.opsEnd <| Run.condF' rfl rfl <| Run.skip <| Run.fallTo Tryz.func208 rfl res_nil rfl ?_
  refine Run.opsEnd (Run.seq (Run.region ?_))
  refine mv rfl rfl <| mv rfl rfl <| og (ex_nilP rfl) rfl <| og (ex_fieldAddr rfl z08) rfl <| og (ex_load1 rfl (hH.cells (i := 0) rfl 1 rfl) rdLe_rfl z3x) rfl <| mv rfl rfl ?_
  obtain ⟨w, a0, h⟩ := bnd_some h
  refine ox rfl (ExG.append rfl rfl hH (i := 1) rfl z0f rfl z17 z2h rfl (str_lenZ rfl _) (str_first (fun _ => rfl) _) a0) ?_
  rintro x a3 (y : Has Fr a3 [.obj f (.row 228 .whole [(.ptr f 0), a5]), .vec 5 1 w.length x (w.flatMap z1n), tb0, tb1, tb2])
  refine og (ex_nilP rfl) rfl <| og (ex_fieldAddr rfl z08) rfl <| ox rfl (ExG.storeC (c' := [(.ptr f 0), x]) rfl rfl (cells_one (vec_one y (i := 1) rfl)) y (i := 0) rfl za9 rfl rfl rfl (ones_cons (vec_one y (i := 1) rfl) ones_nil) rfl) ?_
  rintro _ a4 ⟨rfl, (a1 : Has Fr a4 [.obj f (.row 228 .whole [(.ptr f 0), x]), .vec 5 1 w.length x (w.flatMap z1n), tb0, tb1, tb2])⟩
  refine Run.opsEnd (Run.seq (Run.region ?_))
  refine mv rfl rfl <| og (ex_lenS rfl z87) rfl <| av rfl rfl <| av rfl rfl <| Run.opsEnd <| Run.retTo Tryz.func155 rfl (res_tmp rfl (res_tmp rfl res_nil)) rfl ?_
  refine Run.opsEnd (Run.inBlock (Run.region ?_))
  refine og (ex_add rfl rfl) rfl <| mv rfl rfl ?_
  refine Run.opsEnd (Run.inLoop ?_)
  exact Run.pick [5, 24, 25] (z92 F F m n p b d g s e q w a f x _ _ _ u a1 h)

def alert_textOf_6 (F : Nat) : Nat → List UInt8 → Int → Int → Int → Int → Int → List Int → Bool → Int → List Int → Option ((List UInt8))
 | 0, _, _, _, _, _, _, _, _, _, _ => none
 | N + 1, g, m, n, b, e, a, p, q, d, s =>
  bnd (alert_sheet_before F (S_api_Alert.mk g m n (S_api_Chance.mk b e) a p q d)) fun u =>
  bnd (apd 1 s (bytesI u)) fun f =>
  alert_textOf_7 F F g m n b e a p q d f

theorem z98 (F : Nat) : ∀ (N : Nat), ∀ (m : List UInt8) (n p b d g : Int) (s : List Int) (e : Bool) (q : Int) (a4 : List Int) (a : SV) (f : Pos) (a2 : SV) (Fr : Rd) (M : Mem) (r : List UInt8) (u : Slc Fr 1 (FlatR enc3) a s) (hH : Has Fr M [.obj f (.row 228 .whole [(.ptr f 0), a2]), .vec 5 1 a4.length a2 (a4.flatMap z1n), tb0, tb1, tb2]), alert_textOf_6 F N m n p b d g s e q a4 = some r → Run Tryz.prog ⟨⟨92, [], none⟩, []⟩ 33 (z07 r) [(5, (.ptr f 0)), (24, (.agg [(.fn (.func 148) [(.agg (k0 m n p b d g a e q))] []), (.fn (.func 149) [(.agg (k0 m n p b d g a e q))] []), (.fn (.func 150) [(.agg (k0 m n p b d g a e q))] []), (.fn (.func 151) [(.agg (k0 m n p b d g a e q))] []), (.fn (.func 152) [(.agg (k0 m n p b d g a e q))] []), (.fn (.func 153) [(.agg (k0 m n p b d g a e q))] []), (.fn (.func 154) [(.agg (k0 m n p b d g a e q))] [])])), (25, (.int .i64 5))] [codeC Tryz.prog 92 [1, 1, 1, 1, 0, 1, 0, 0], loopC Tryz.prog 92 [1, 1, 1, 1, 0, 1, 0, 0], .inBlock 0, codeC Tryz.prog 92 [1, 1, 1, 1, 1]] M := by
 intro N
 induction N with
 | zero =>
  intro m n p b d g s e q a4 a f a2 Fr M r u hH h
  simp [alert_textOf_6] at h
 | succ N ih =>
  intro m n p b d g s e q a4 a f a2 Fr M r u hH h
  rw [alert_textOf_6] at h
  refine Run.seq (Run.region ?_)
  refine og (ex_lss rfl rfl) rfl ?_
  refine Run.opsEnd (Run.seq ?_)
  refine Run.condT' rfl rfl ?_
  refine Run.skip (Run.seq (Run.block (Run.seq (Run.region ?_))))
  refine og (ex_idxA (j := 5) rfl rfl zah rfl (part_one zai rfl)) rfl <| av rfl rfl ?_
  refine Run.opsEnd (Run.region ?_)
  refine mv rfl rfl ?_
  obtain ⟨a7, y, h⟩ := bnd_some h
  refine Run.callP wantS_none (ex_closure rfl rfl zfg zeg) rfl (z7f F (S_api_Alert.mk m n p (S_api_Chance.mk b d) g s e q) a _ _ (hH.slcF u) (zal hH (List.mem_of_getElem? (i := 2) rfl) (List.mem_of_getElem? (i := 3) rfl) (List.mem_of_getElem? (i := 4) rfl)) y) <| Run.enter wantS_none (ex_call rfl z8u z8h) Tryz.func155 rfl rfl ?_
  refine Run.seq (Run.region ?_)
  refine av rfl rfl <| av rfl rfl ?_
  refine Run.opsEnd (Run.seq (Run.region ?_))
  refine mv rfl rfl <| Run.enter wantS_none (ex_call rfl z7h z6y) Tryz.func208 rfl rfl ?_
  refine Run.seq (Run.region ?_)
  refine mv rfl rfl <| og (ex_nilP rfl) rfl <| og (ex_fieldAddr rfl z0d) rfl <| og (ex_load1 rfl (hH.cells (i := 0) rfl 0 rfl) rdLe_rfl z1v) rfl <| og (ex_ptrPN rfl rfl z7k) rfl <| Run.opsEnd <| Run.condF' rfl rfl ?_
  refine Run.seq (Run.region ?_)
  refine mv rfl rfl <| og (ex_nilP rfl) rfl <| og (ex_fieldAddr rfl z0d) rfl <| og (ex_load1 rfl (hH.cells (i := 0) rfl 0 rfl) rdLe_rfl z1v) rfl <| mv rfl rfl <| og (ex_ptrSamen rfl rfl z8o z8p) rfl <| Run.opsEnd <| Run.condF' rfl rfl <| Run.skip <| Run.fallTo Tryz.func208 rfl res_nil rfl ?_
  refine Run.opsEnd (Run.seq (Run.region ?_))
  refine mv rfl rfl <| mv rfl rfl <| og (ex_nilP rfl) rfl <| og (ex_fieldAddr rfl z08) rfl <| og (ex_load1 rfl (hH.cells (i := 0) rfl 1 rfl) rdLe_rfl z3x) rfl <| mv rfl rfl ?_
  obtain ⟨a1, x, h⟩ := bnd_some h
  refine ox rfl (ExG.append rfl rfl hH (i := 1) rfl z0f rfl z17 z2h rfl (str_lenZ rfl _) (str_first (fun _ => rfl) _) x) ?_
  rintro a3 a6 (w : Has Fr a6 [.obj f (.row 228 .whole [(.ptr f 0), a2]), .vec 5 1 a1.length a3 (a1.flatMap z1n), tb0, tb1, tb2])
  refine og (ex_nilP rfl) rfl <| og (ex_fieldAddr rfl z08) rfl <| ox rfl (ExG.storeC (c' := [(.ptr f 0), a3]) rfl rfl (cells_one (vec_one w (i := 1) rfl)) w (i := 0) rfl za9 rfl rfl rfl (ones_cons (vec_one w (i := 1) rfl) ones_nil) rfl) ?_
  rintro _ a5 ⟨rfl, (a0 : Has Fr a5 [.obj f (.row 228 .whole [(.ptr f 0), a3]), .vec 5 1 a1.length a3 (a1.flatMap z1n), tb0, tb1, tb2])⟩
  refine Run.opsEnd (Run.seq (Run.region ?_))
  refine mv rfl rfl <| og (ex_lenS rfl z87) rfl <| av rfl rfl <| av rfl rfl <| Run.opsEnd <| Run.retTo Tryz.func155 rfl (res_tmp rfl (res_tmp rfl res_nil)) rfl ?_
  refine Run.opsEnd (Run.inBlock (Run.region ?_))
  refine og (ex_add rfl rfl) rfl <| mv rfl rfl ?_
  refine Run.opsEnd (Run.inLoop ?_)
  exact Run.pick [5, 24, 25] (z9f F F m n p b d g s e q a1 a f a3 _ _ _ u a0 h)

def alert_textOf_5 (F : Nat) : Nat → List UInt8 → Int → Int → Int → Int → Int → List Int → Bool → Int → List Int → Option ((List UInt8))
 | 0, _, _, _, _, _, _, _, _, _, _ => none
 | N + 1, g, m, n, b, e, a, p, q, d, s =>
  bnd (alert_sheet_where F (S_api_Alert.mk g m n (S_api_Chance.mk b e) a p q d)) fun f =>
  bnd (apd 1 s (bytesI f)) fun u =>
  alert_textOf_6 F F g m n b e a p q d u

theorem z96 (F : Nat) : ∀ (N : Nat), ∀ (m : List UInt8) (n p b d g : Int) (s : List Int) (e : Bool) (q : Int) (a2 : List Int) (a : SV) (f : Pos) (a1 : SV) (Fr : Rd) (M : Mem) (r : List UInt8) (u : Slc Fr 1 (FlatR enc3) a s) (hH : Has Fr M [.obj f (.row 228 .whole [(.ptr f 0), a1]), .vec 5 1 a2.length a1 (a2.flatMap z1n), tb0, tb1, tb2]), alert_textOf_5 F N m n p b d g s e q a2 = some r → Run Tryz.prog ⟨⟨92, [], none⟩, []⟩ 33 (z07 r) [(5, (.ptr f 0)), (24, (.agg [(.fn (.func 148) [(.agg (k0 m n p b d g a e q))] []), (.fn (.func 149) [(.agg (k0 m n p b d g a e q))] []), (.fn (.func 150) [(.agg (k0 m n p b d g a e q))] []), (.fn (.func 151) [(.agg (k0 m n p b d g a e q))] []), (.fn (.func 152) [(.agg (k0 m n p b d g a e q))] []), (.fn (.func 153) [(.agg (k0 m n p b d g a e q))] []), (.fn (.func 154) [(.agg (k0 m n p b d g a e q))] [])])), (25, (.int .i64 4))] [codeC Tryz.prog 92 [1, 1, 1, 1, 0, 1, 0, 0], loopC Tryz.prog 92 [1, 1, 1, 1, 0, 1, 0, 0], .inBlock 0, codeC Tryz.prog 92 [1, 1, 1, 1, 1]] M := by
 intro N
 induction N with
 | zero =>
  intro m n p b d g s e q a2 a f a1 Fr M r u hH h
  simp [alert_textOf_5] at h
 | succ N ih =>
  intro m n p b d g s e q a2 a f a1 Fr M r u hH h
  rw [alert_textOf_5] at h
  refine Run.seq (Run.region ?_)
  refine og (ex_lss rfl rfl) rfl ?_
  refine Run.opsEnd (Run.seq ?_)
  refine Run.condT' rfl rfl ?_
  refine Run.skip (Run.seq (Run.block (Run.seq (Run.region ?_))))
  refine og (ex_idxA (j := 4) rfl rfl zah rfl (part_one zai rfl)) rfl <| av rfl rfl ?_
  refine Run.opsEnd (Run.region ?_)
  refine mv rfl rfl ?_
  obtain ⟨a7, y, h⟩ := bnd_some h
  refine Run.callP wantS_none (ex_closure rfl rfl ze9 zep) rfl (z7p F (S_api_Alert.mk m n p (S_api_Chance.mk b d) g s e q) a _ _ (hH.slcF u) (zal hH (List.mem_of_getElem? (i := 2) rfl) (List.mem_of_getElem? (i := 3) rfl) (List.mem_of_getElem? (i := 4) rfl)) y) <| Run.enter wantS_none (ex_call rfl z8u z8h) Tryz.func155 rfl rfl ?_
  refine Run.seq (Run.region ?_)
  refine av rfl rfl <| av rfl rfl ?_
  refine Run.opsEnd (Run.seq (Run.region ?_))
  refine mv rfl rfl <| Run.enter wantS_none (ex_call rfl z7h z6y) Tryz.func208 rfl rfl ?_
  refine Run.seq (Run.region ?_)
  refine mv rfl rfl <| og (ex_nilP rfl) rfl <| og (ex_fieldAddr rfl z0d) rfl <| og (ex_load1 rfl (hH.cells (i := 0) rfl 0 rfl) rdLe_rfl z1v) rfl <| og (ex_ptrPN rfl rfl z7k) rfl <| Run.opsEnd <| Run.condF' rfl rfl ?_
  refine Run.seq (Run.region ?_)
  refine mv rfl rfl <| og (ex_nilP rfl) rfl <| og (ex_fieldAddr rfl z0d) rfl <| og (ex_load1 rfl (hH.cells (i := 0) rfl 0 rfl) rdLe_rfl z1v) rfl <| mv rfl rfl <| og (ex_ptrSamen rfl rfl z8o z8p) rfl <| Run.opsEnd <| Run.condF' rfl rfl <| Run.skip <| Run.fallTo Tryz.func208 rfl res_nil rfl ?_
  refine Run.opsEnd (Run.seq (Run.region ?_))
  refine mv rfl rfl <| mv rfl rfl <| og (ex_nilP rfl) rfl <| og (ex_fieldAddr rfl z08) rfl <| og (ex_load1 rfl (hH.cells (i := 0) rfl 1 rfl) rdLe_rfl z3x) rfl <| mv rfl rfl ?_
  obtain ⟨a4, a0, h⟩ := bnd_some h
  refine ox rfl (ExG.append rfl rfl hH (i := 1) rfl z0f rfl z17 z2h rfl (str_lenZ rfl _) (str_first (fun _ => rfl) _) a0) ?_
  rintro a3 a5 (w : Has Fr a5 [.obj f (.row 228 .whole [(.ptr f 0), a1]), .vec 5 1 a4.length a3 (a4.flatMap z1n), tb0, tb1, tb2])
  refine og (ex_nilP rfl) rfl <| og (ex_fieldAddr rfl z08) rfl <| ox rfl (ExG.storeC (c' := [(.ptr f 0), a3]) rfl rfl (cells_one (vec_one w (i := 1) rfl)) w (i := 0) rfl za9 rfl rfl rfl (ones_cons (vec_one w (i := 1) rfl) ones_nil) rfl) ?_
  rintro _ a6 ⟨rfl, (x : Has Fr a6 [.obj f (.row 228 .whole [(.ptr f 0), a3]), .vec 5 1 a4.length a3 (a4.flatMap z1n), tb0, tb1, tb2])⟩
  refine Run.opsEnd (Run.seq (Run.region ?_))
  refine mv rfl rfl <| og (ex_lenS rfl z87) rfl <| av rfl rfl <| av rfl rfl <| Run.opsEnd <| Run.retTo Tryz.func155 rfl (res_tmp rfl (res_tmp rfl res_nil)) rfl ?_
  refine Run.opsEnd (Run.inBlock (Run.region ?_))
  refine og (ex_add rfl rfl) rfl <| mv rfl rfl ?_
  refine Run.opsEnd (Run.inLoop ?_)
  exact Run.pick [5, 24, 25] (z98 F F m n p b d g s e q a4 a f a3 _ _ _ u x h)

def alert_textOf_4 (F : Nat) : Nat → List UInt8 → Int → Int → Int → Int → Int → List Int → Bool → Int → List Int → Option ((List UInt8))
 | 0, _, _, _, _, _, _, _, _, _, _ => none
 | N + 1, g, m, n, b, e, a, p, q, d, u =>
  bnd (alert_sheet_grid F (S_api_Alert.mk g m n (S_api_Chance.mk b e) a p q d)) fun f =>
  bnd (apd 1 u (bytesI f)) fun s =>
  alert_textOf_5 F F g m n b e a p q d s

theorem z9k (F : Nat) : ∀ (N : Nat), ∀ (m : List UInt8) (n p b d g : Int) (s : List Int) (e : Bool) (q : Int) (a3 : List Int) (a : SV) (f : Pos) (a2 : SV) (Fr : Rd) (M : Mem) (r : List UInt8) (u : Slc Fr 1 (FlatR enc3) a s) (hH : Has Fr M [.obj f (.row 228 .whole [(.ptr f 0), a2]), .vec 5 1 a3.length a2 (a3.flatMap z1n), tb0, tb1, tb2]), alert_textOf_4 F N m n p b d g s e q a3 = some r → Run Tryz.prog ⟨⟨92, [], none⟩, []⟩ 33 (z07 r) [(5, (.ptr f 0)), (24, (.agg [(.fn (.func 148) [(.agg (k0 m n p b d g a e q))] []), (.fn (.func 149) [(.agg (k0 m n p b d g a e q))] []), (.fn (.func 150) [(.agg (k0 m n p b d g a e q))] []), (.fn (.func 151) [(.agg (k0 m n p b d g a e q))] []), (.fn (.func 152) [(.agg (k0 m n p b d g a e q))] []), (.fn (.func 153) [(.agg (k0 m n p b d g a e q))] []), (.fn (.func 154) [(.agg (k0 m n p b d g a e q))] [])])), (25, (.int .i64 3))] [codeC Tryz.prog 92 [1, 1, 1, 1, 0, 1, 0, 0], loopC Tryz.prog 92 [1, 1, 1, 1, 0, 1, 0, 0], .inBlock 0, codeC Tryz.prog 92 [1, 1, 1, 1, 1]] M := by
 intro N
 induction N with
 | zero =>
  intro m n p b d g s e q a3 a f a2 Fr M r u hH h
  simp [alert_textOf_4] at h
 | succ N ih =>
  intro m n p b d g s e q a3 a f a2 Fr M r u hH h
  rw [alert_textOf_4] at h
  refine Run.seq (Run.region ?_)
  refine og (ex_lss rfl rfl) rfl ?_
  refine Run.opsEnd (Run.seq ?_)
  refine Run.condT' rfl rfl ?_
  refine Run.skip (Run.seq (Run.block (Run.seq (Run.region ?_))))
  refine og (ex_idxA (j := 3) rfl rfl zah rfl (part_one zai rfl)) rfl <| av rfl rfl ?_
  refine Run.opsEnd (Run.region ?_)
  refine mv rfl rfl ?_
  obtain ⟨a7, y, h⟩ := bnd_some h
  refine Run.callP wantS_none (ex_closure rfl rfl ze2 ze4) rfl (z8b F (S_api_Alert.mk m n p (S_api_Chance.mk b d) g s e q) a _ _ (hH.slcF u) (zal hH (List.mem_of_getElem? (i := 2) rfl) (List.mem_of_getElem? (i := 3) rfl) (List.mem_of_getElem? (i := 4) rfl)) y) <| Run.enter wantS_none (ex_call rfl z8u z8h) Tryz.func155 rfl rfl ?_
  refine Run.seq (Run.region ?_)
  refine av rfl rfl <| av rfl rfl ?_
  refine Run.opsEnd (Run.seq (Run.region ?_))
  refine mv rfl rfl <| Run.enter wantS_none (ex_call rfl z7h z6y) Tryz.func208 rfl rfl ?_
  refine Run.seq (Run.region ?_)
  refine mv rfl rfl <| og (ex_nilP rfl) rfl <| og (ex_fieldAddr rfl z0d) rfl <| og (ex_load1 rfl (hH.cells (i := 0) rfl 0 rfl) rdLe_rfl z1v) rfl <| og (ex_ptrPN rfl rfl z7k) rfl <| Run.opsEnd <| Run.condF' rfl rfl ?_
  refine Run.seq (Run.region ?_)
  refine mv rfl rfl <| og (ex_nilP rfl) rfl <| og (ex_fieldAddr rfl z0d) rfl <| og (ex_load1 rfl (hH.cells (i := 0) rfl 0 rfl) rdLe_rfl z1v) rfl <| mv rfl rfl <| og (ex_ptrSamen rfl rfl z8o z8p) rfl <| Run.opsEnd <| Run.condF' rfl rfl <| Run.skip <| Run.fallTo Tryz.func208 rfl res_nil rfl ?_
  refine Run.opsEnd (Run.seq (Run.region ?_))
  refine mv rfl rfl <| mv rfl rfl <| og (ex_nilP rfl) rfl <| og (ex_fieldAddr rfl z08) rfl <| og (ex_load1 rfl (hH.cells (i := 0) rfl 1 rfl) rdLe_rfl z3x) rfl <| mv rfl rfl ?_
  obtain ⟨a1, x, h⟩ := bnd_some h
  refine ox rfl (ExG.append rfl rfl hH (i := 1) rfl z0f rfl z17 z2h rfl (str_lenZ rfl _) (str_first (fun _ => rfl) _) x) ?_
  rintro a4 a6 (w : Has Fr a6 [.obj f (.row 228 .whole [(.ptr f 0), a2]), .vec 5 1 a1.length a4 (a1.flatMap z1n), tb0, tb1, tb2])
  refine og (ex_nilP rfl) rfl <| og (ex_fieldAddr rfl z08) rfl <| ox rfl (ExG.storeC (c' := [(.ptr f 0), a4]) rfl rfl (cells_one (vec_one w (i := 1) rfl)) w (i := 0) rfl za9 rfl rfl rfl (ones_cons (vec_one w (i := 1) rfl) ones_nil) rfl) ?_
  rintro _ a5 ⟨rfl, (a0 : Has Fr a5 [.obj f (.row 228 .whole [(.ptr f 0), a4]), .vec 5 1 a1.length a4 (a1.flatMap z1n), tb0, tb1, tb2])⟩
  refine Run.opsEnd (Run.seq (Run.region ?_))
  refine mv rfl rfl <| og (ex_lenS rfl z87) rfl <| av rfl rfl <| av rfl rfl <| Run.opsEnd <| Run.retTo Tryz.func155 rfl (res_tmp rfl (res_tmp rfl res_nil)) rfl ?_
  refine Run.opsEnd (Run.inBlock (Run.region ?_))
  refine og (ex_add rfl rfl) rfl <| mv rfl rfl ?_
  refine Run.opsEnd (Run.inLoop ?_)
  exact Run.pick [5, 24, 25] (z96 F F m n p b d g s e q a1 a f a4 _ _ _ u a0 h)

def alert_textOf_3 (F : Nat) : Nat → List UInt8 → Int → Int → Int → Int → Int → List Int → Bool → Int → List Int → Option ((List UInt8))
 | 0, _, _, _, _, _, _, _, _, _, _ => none
 | N + 1, g, m, n, b, e, a, p, q, d, u =>
  bnd (alert_sheet_chance F (S_api_Alert.mk g m n (S_api_Chance.mk b e) a p q d)) fun f =>
  bnd (apd 1 u (bytesI f)) fun s =>
  alert_textOf_4 F F g m n b e a p q d s

theorem z9e (F : Nat) : ∀ (N : Nat), ∀ (m : List UInt8) (n p b d g : Int) (s : List Int) (e : Bool) (q : Int) (a4 : List Int) (a : SV) (f : Pos) (a1 : SV) (Fr : Rd) (M : Mem) (r : List UInt8) (u : Slc Fr 1 (FlatR enc3) a s) (hH : Has Fr M [.obj f (.row 228 .whole [(.ptr f 0), a1]), .vec 5 1 a4.length a1 (a4.flatMap z1n), tb0, tb1, tb2]), alert_textOf_3 F N m n p b d g s e q a4 = some r → Run Tryz.prog ⟨⟨92, [], none⟩, []⟩ 33 (z07 r) [(5, (.ptr f 0)), (24, (.agg [(.fn (.func 148) [(.agg (k0 m n p b d g a e q))] []), (.fn (.func 149) [(.agg (k0 m n p b d g a e q))] []), (.fn (.func 150) [(.agg (k0 m n p b d g a e q))] []), (.fn (.func 151) [(.agg (k0 m n p b d g a e q))] []), (.fn (.func 152) [(.agg (k0 m n p b d g a e q))] []), (.fn (.func 153) [(.agg (k0 m n p b d g a e q))] []), (.fn (.func 154) [(.agg (k0 m n p b d g a e q))] [])])), (25, (.int .i64 2))] [codeC Tryz.prog 92 [1, 1, 1, 1, 0, 1, 0, 0], loopC Tryz.prog 92 [1, 1, 1, 1, 0, 1, 0, 0], .inBlock 0, codeC Tryz.prog 92 [1, 1, 1, 1, 1]] M := by
 intro N
 induction N with
 | zero =>
  intro m n p b d g s e q a4 a f a1 Fr M r u hH h
  simp [alert_textOf_3] at h
 | succ N ih =>
  intro m n p b d g s e q a4 a f a1 Fr M r u hH h
  rw [alert_textOf_3] at h
  refine Run.seq (Run.region ?_)
  refine og (ex_lss rfl rfl) rfl ?_
  refine Run.opsEnd (Run.seq ?_)
  refine Run.condT' rfl rfl ?_
  refine Run.skip (Run.seq (Run.block (Run.seq (Run.region ?_))))
  refine og (ex_idxA (j := 2) rfl rfl zah rfl (part_one zai rfl)) rfl <| av rfl rfl ?_
  refine Run.opsEnd (Run.region ?_)
  refine mv rfl rfl ?_
  obtain ⟨a7, x, h⟩ := bnd_some h
  refine Run.callP wantS_none (ex_closure rfl rfl zdt zf9) rfl (z6p F (S_api_Alert.mk m n p (S_api_Chance.mk b d) g s e q) a _ _ (hH.slcF u) (zal hH (List.mem_of_getElem? (i := 2) rfl) (List.mem_of_getElem? (i := 3) rfl) (List.mem_of_getElem? (i := 4) rfl)) x) <| Run.enter wantS_none (ex_call rfl z8u z8h) Tryz.func155 rfl rfl ?_
  refine Run.seq (Run.region ?_)
  refine av rfl rfl <| av rfl rfl ?_
  refine Run.opsEnd (Run.seq (Run.region ?_))
  refine mv rfl rfl <| Run.enter wantS_none (ex_call rfl z7h z6y) Tryz.func208 rfl rfl ?_
  refine Run.seq (Run.region ?_)
  refine mv rfl rfl <| og (ex_nilP rfl) rfl <| og (ex_fieldAddr rfl z0d) rfl <| og (ex_load1 rfl (hH.cells (i := 0) rfl 0 rfl) rdLe_rfl z1v) rfl <| og (ex_ptrPN rfl rfl z7k) rfl <| Run.opsEnd <| Run.condF' rfl rfl ?_
  refine Run.seq (Run.region ?_)
  refine mv rfl rfl <| og (ex_nilP rfl) rfl <| og (ex_fieldAddr rfl z0d) rfl <| og (ex_load1 rfl (hH.cells (i := 0) rfl 0 rfl) rdLe_rfl z1v) rfl <| mv rfl rfl <| og (ex_ptrSamen rfl rfl z8o z8p) rfl <| Run.opsEnd <| Run.condF' rfl rfl <| Run.skip <| Run.fallTo Tryz.func208 rfl res_nil rfl ?_
  refine Run.opsEnd (Run.seq (Run.region ?_))
  refine mv rfl rfl <| mv rfl rfl <| og (ex_nilP rfl) rfl <| og (ex_fieldAddr rfl z08) rfl <| og (ex_load1 rfl (hH.cells (i := 0) rfl 1 rfl) rdLe_rfl z3x) rfl <| mv rfl rfl ?_
  obtain ⟨a2, y, h⟩ := bnd_some h
  refine ox rfl (ExG.append rfl rfl hH (i := 1) rfl z0f rfl z17 z2h rfl (str_lenZ rfl _) (str_first (fun _ => rfl) _) y) ?_
  rintro a3 a6 (w : Has Fr a6 [.obj f (.row 228 .whole [(.ptr f 0), a1]), .vec 5 1 a2.length a3 (a2.flatMap z1n), tb0, tb1, tb2])
  refine og (ex_nilP rfl) rfl <| og (ex_fieldAddr rfl z08) rfl <| ox rfl (ExG.storeC (c' := [(.ptr f 0), a3]) rfl rfl (cells_one (vec_one w (i := 1) rfl)) w (i := 0) rfl za9 rfl rfl rfl (ones_cons (vec_one w (i := 1) rfl) ones_nil) rfl) ?_
  rintro _ a5 ⟨rfl, (a0 : Has Fr a5 [.obj f (.row 228 .whole [(.ptr f 0), a3]), .vec 5 1 a2.length a3 (a2.flatMap z1n), tb0, tb1, tb2])⟩
  refine Run.opsEnd (Run.seq (Run.region ?_))
  refine mv rfl rfl <| og (ex_lenS rfl z87) rfl <| av rfl rfl <| av rfl rfl <| Run.opsEnd <| Run.retTo Tryz.func155 rfl (res_tmp rfl (res_tmp rfl res_nil)) rfl ?_
  refine Run.opsEnd (Run.inBlock (Run.region ?_))
  refine og (ex_add rfl rfl) rfl <| mv rfl rfl ?_
  refine Run.opsEnd (Run.inLoop ?_)
  exact Run.pick [5, 24, 25] (z9k F F m n p b d g s e q a2 a f a3 _ _ _ u a0 h)

def alert_textOf_2 (F : Nat) : Nat → List UInt8 → Int → Int → Int → Int → Int → List Int → Bool → Int → List Int → Option ((List UInt8))
 | 0, _, _, _, _, _, _, _, _, _, _ => none
 | N + 1, g, m, n, b, e, a, p, q, d, f =>
  bnd (alert_sheet_time F (S_api_Alert.mk g m n (S_api_Chance.mk b e) a p q d)) fun s =>
  bnd (apd 1 f (bytesI s)) fun u =>
  alert_textOf_3 F F g m n b e a p q d u

theorem z9i (F : Nat) : ∀ (N : Nat), ∀ (m : List UInt8) (n p b d g : Int) (s : List Int) (e : Bool) (q : Int) (a4 : List Int) (a : SV) (f : Pos) (a1 : SV) (Fr : Rd) (M : Mem) (r : List UInt8) (u : Slc Fr 1 (FlatR enc3) a s) (hH : Has Fr M [.obj f (.row 228 .whole [(.ptr f 0), a1]), .vec 5 1 a4.length a1 (a4.flatMap z1n), tb0, tb1, tb2]), alert_textOf_2 F N m n p b d g s e q a4 = some r → Run Tryz.prog ⟨⟨92, [], none⟩, []⟩ 33 (z07 r) [(5, (.ptr f 0)), (24, (.agg [(.fn (.func 148) [(.agg (k0 m n p b d g a e q))] []), (.fn (.func 149) [(.agg (k0 m n p b d g a e q))] []), (.fn (.func 150) [(.agg (k0 m n p b d g a e q))] []), (.fn (.func 151) [(.agg (k0 m n p b d g a e q))] []), (.fn (.func 152) [(.agg (k0 m n p b d g a e q))] []), (.fn (.func 153) [(.agg (k0 m n p b d g a e q))] []), (.fn (.func 154) [(.agg (k0 m n p b d g a e q))] [])])), (25, (.int .i64 1))] [codeC Tryz.prog 92 [1, 1, 1, 1, 0, 1, 0, 0], loopC Tryz.prog 92 [1, 1, 1, 1, 0, 1, 0, 0], .inBlock 0, codeC Tryz.prog 92 [1, 1, 1, 1, 1]] M := by
 intro N
 induction N with
 | zero =>
  intro m n p b d g s e q a4 a f a1 Fr M r u hH h
  simp [alert_textOf_2] at h
 | succ N ih =>
  intro m n p b d g s e q a4 a f a1 Fr M r u hH h
  rw [alert_textOf_2] at h
  refine Run.seq (Run.region ?_)
  refine og (ex_lss rfl rfl) rfl ?_
  refine Run.opsEnd (Run.seq ?_)
  refine Run.condT' rfl rfl ?_
  refine Run.skip (Run.seq (Run.block (Run.seq (Run.region ?_))))
  refine og (ex_idxA (j := 1) rfl rfl zah rfl (part_one zai rfl)) rfl <| av rfl rfl ?_
  refine Run.opsEnd (Run.region ?_)
  refine mv rfl rfl ?_
  obtain ⟨a7, a0, h⟩ := bnd_some h
  refine Run.callP wantS_none (ex_closure rfl rfl zdn zfp) rfl (z84 F (S_api_Alert.mk m n p (S_api_Chance.mk b d) g s e q) a _ _ (hH.slcF u) (zal hH (List.mem_of_getElem? (i := 2) rfl) (List.mem_of_getElem? (i := 3) rfl) (List.mem_of_getElem? (i := 4) rfl)) a0) <| Run.enter wantS_none (ex_call rfl z8u z8h) Tryz.func155 rfl rfl ?_
  refine Run.seq (Run.region ?_)
  refine av rfl rfl <| av rfl rfl ?_
  refine Run.opsEnd (Run.seq (Run.region ?_))
  refine mv rfl rfl <| Run.enter wantS_none (ex_call rfl z7h z6y) Tryz.func208 rfl rfl ?_
  refine Run.seq (Run.region ?_)
  refine mv rfl rfl <| og (ex_nilP rfl) rfl <| og (ex_fieldAddr rfl z0d) rfl <| og (ex_load1 rfl (hH.cells (i := 0) rfl 0 rfl) rdLe_rfl z1v) rfl <| og (ex_ptrPN rfl rfl z7k) rfl <| Run.opsEnd <| Run.condF' rfl rfl ?_
  refine Run.seq (Run.region ?_)
  refine mv rfl rfl <| og (ex_nilP rfl) rfl <| og (ex_fieldAddr rfl z0d) rfl <| og (ex_load1 rfl (hH.cells (i := 0) rfl 0 rfl) rdLe_rfl z1v) rfl <| mv rfl rfl <| og (ex_ptrSamen rfl rfl z8o z8p) rfl <| Run.opsEnd <| Run.condF' rfl rfl <| Run.skip <| Run.fallTo Tryz.func208 rfl res_nil rfl ?_
  refine Run.opsEnd (Run.seq (Run.region ?_))
  refine mv rfl rfl <| mv rfl rfl <| og (ex_nilP rfl) rfl <| og (ex_fieldAddr rfl z08) rfl <| og (ex_load1 rfl (hH.cells (i := 0) rfl 1 rfl) rdLe_rfl z3x) rfl <| mv rfl rfl ?_
  obtain ⟨a3, y, h⟩ := bnd_some h
  refine ox rfl (ExG.append rfl rfl hH (i := 1) rfl z0f rfl z17 z2h rfl (str_lenZ rfl _) (str_first (fun _ => rfl) _) y) ?_
  rintro a2 a6 (w : Has Fr a6 [.obj f (.row 228 .whole [(.ptr f 0), a1]), .vec 5 1 a3.length a2 (a3.flatMap z1n), tb0, tb1, tb2])
  refine og (ex_nilP rfl) rfl <| og (ex_fieldAddr rfl z08) rfl <| ox rfl (ExG.storeC (c' := [(.ptr f 0), a2]) rfl rfl (cells_one (vec_one w (i := 1) rfl)) w (i := 0) rfl za9 rfl rfl rfl (ones_cons (vec_one w (i := 1) rfl) ones_nil) rfl) ?_
  rintro _ a5 ⟨rfl, (x : Has Fr a5 [.obj f (.row 228 .whole [(.ptr f 0), a2]), .vec 5 1 a3.length a2 (a3.flatMap z1n), tb0, tb1, tb2])⟩
  refine Run.opsEnd (Run.seq (Run.region ?_))
  refine mv rfl rfl <| og (ex_lenS rfl z87) rfl <| av rfl rfl <| av rfl rfl <| Run.opsEnd <| Run.retTo Tryz.func155 rfl (res_tmp rfl (res_tmp rfl res_nil)) rfl ?_
  refine Run.opsEnd (Run.inBlock (Run.region ?_))
  refine og (ex_add rfl rfl) rfl <| mv rfl rfl ?_
  refine Run.opsEnd (Run.inLoop ?_)
  exact Run.pick [5, 24, 25] (z9e F F m n p b d g s e q a3 a f a2 _ _ _ u x h)

def alert_textOf_1 (F : Nat) : Nat → List UInt8 → Int → Int → Int → Int → Int → List Int → Bool → Int → Option ((List UInt8))
 | 0, _, _, _, _, _, _, _, _, _ => none
 | N + 1, g, m, n, b, e, a, p, q, d =>
  bnd (alert_sheet_head F (S_api_Alert.mk g m n (S_api_Chance.mk b e) a p q d)) fun s =>
  bnd (apd 1 ([] : List Int) (bytesI s)) fun f =>
  alert_textOf_2 F F g m n b e a p q d f

theorem z99 (F : Nat) : ∀ (N : Nat), ∀ (m : List UInt8) (n p b d g : Int) (s : List Int) (e : Bool) (q : Int) (a : SV) (f : Pos) (Fr : Rd) (M : Mem) (r : List UInt8) (u : Slc Fr 1 (FlatR enc3) a s) (hH : Has Fr M [.obj f (.row 228 .whole [.nilp, .nils]), tb0, tb1, tb2]), alert_textOf_1 F N m n p b d g s e q = some r → Run Tryz.prog ⟨⟨92, [], none⟩, []⟩ 33 (z07 r) [(5, (.ptr f 0)), (24, (.agg [(.fn (.func 148) [(.agg (k0 m n p b d g a e q))] []), (.fn (.func 149) [(.agg (k0 m n p b d g a e q))] []), (.fn (.func 150) [(.agg (k0 m n p b d g a e q))] []), (.fn (.func 151) [(.agg (k0 m n p b d g a e q))] []), (.fn (.func 152) [(.agg (k0 m n p b d g a e q))] []), (.fn (.func 153) [(.agg (k0 m n p b d g a e q))] []), (.fn (.func 154) [(.agg (k0 m n p b d g a e q))] [])])), (25, (.int .i64 0))] [codeC Tryz.prog 92 [1, 1, 1, 1, 0, 1, 0, 0], loopC Tryz.prog 92 [1, 1, 1, 1, 0, 1, 0, 0], .inBlock 0, codeC Tryz.prog 92 [1, 1, 1, 1, 1]] M := by
 intro N
 induction N with
 | zero =>
  intro m n p b d g s e q a f Fr M r u hH h
  simp [alert_textOf_1] at h
 | succ N ih =>
  intro m n p b d g s e q a f Fr M r u hH h
  rw [alert_textOf_1] at h
  refine Run.seq (Run.region ?_)
  refine og (ex_lss rfl rfl) rfl ?_
  refine Run.opsEnd (Run.seq ?_)
  refine Run.condT' rfl rfl ?_
  refine Run.skip (Run.seq (Run.block (Run.seq (Run.region ?_))))
  refine og (ex_idxA (j := 0) rfl rfl zah rfl (part_one zai rfl)) rfl <| av rfl rfl ?_
  refine Run.opsEnd (Run.region ?_)
  refine mv rfl rfl ?_
  obtain ⟨a8, a0, h⟩ := bnd_some h
  refine Run.callP wantS_none (ex_closure rfl rfl zdh zeq) rfl (z83 F (S_api_Alert.mk m n p (S_api_Chance.mk b d) g s e q) a _ _ (hH.slcF u) (zal hH (List.mem_of_getElem? (i := 1) rfl) (List.mem_of_getElem? (i := 2) rfl) (List.mem_of_getElem? (i := 3) rfl)) a0) <| Run.enter wantS_none (ex_call rfl z8u z8h) Tryz.func155 rfl rfl ?_
  refine Run.seq (Run.region ?_)
  refine av rfl rfl <| av rfl rfl ?_
  refine Run.opsEnd (Run.seq (Run.region ?_))
  refine mv rfl rfl <| Run.enter wantS_none (ex_call rfl z7h z6y) Tryz.func208 rfl rfl ?_
  refine Run.seq (Run.region ?_)
  refine mv rfl rfl <| og (ex_nilP rfl) rfl <| og (ex_fieldAddr rfl z0d) rfl <| og (ex_load1 rfl (hH.cells (i := 0) rfl 0 rfl) rdLe_rfl z1v) rfl <| og (ex_ptrNN rfl rfl z7k) rfl <| Run.opsEnd <| Run.condT' rfl rfl <| Run.region <| mv rfl rfl <| mv rfl rfl <| og (ex_toU rfl zar rfl hH (i := 0) rfl rfl) rfl <| og (ex_noEsc rfl zcp zby zck) rfl <| og (ex_backU rfl zaq hH (i := 0) rfl rfl zci) rfl <| og (ex_nilP rfl) rfl <| og (ex_fieldAddr rfl z0d) rfl <| ox rfl (ExG.storeC (c' := [(.ptr f 0), .nils]) rfl rfl rfl hH (i := 0) rfl zfc rfl rfl rfl rfl rfl) ?_
  rintro _ a5 ⟨rfl, (x : Has Fr a5 [.obj f (.row 228 .whole [(.ptr f 0), .nils]), tb0, tb1, tb2])⟩
  refine Run.opsEnd <| Run.fallTo Tryz.func208 rfl res_nil rfl ?_
  refine Run.opsEnd (Run.seq (Run.region ?_))
  refine mv rfl rfl <| mv rfl rfl <| og (ex_nilP rfl) rfl <| og (ex_fieldAddr rfl z08) rfl <| og (ex_load1 rfl (x.cells (i := 0) rfl 1 rfl) rdLe_rfl z3x) rfl <| mv rfl rfl ?_
  obtain ⟨a3, y, h⟩ := bnd_some h
  have a2 : Has Fr a5 [.vec 5 1 ([] : List Int).length .nils (([] : List Int).flatMap z1n), .obj f (.row 228 .whole [(.ptr f 0), .nils]), tb0, tb1, tb2] := x.nils 5 1
  refine ox rfl (ExG.append rfl rfl a2 (i := 0) rfl z0f rfl z17 z2h rfl (str_lenZ rfl _) (str_first (fun _ => rfl) _) y) ?_
  rintro a4 a6 (w : Has Fr a6 [.vec 5 1 a3.length a4 (a3.flatMap z1n), .obj f (.row 228 .whole [(.ptr f 0), .nils]), tb0, tb1, tb2])
  refine og (ex_nilP rfl) rfl <| og (ex_fieldAddr rfl z08) rfl <| ox rfl (ExG.storeC (c' := [(.ptr f 0), a4]) rfl rfl (cells_one (vec_one w (i := 0) rfl)) w (i := 1) rfl za9 rfl rfl rfl (ones_cons (vec_one w (i := 0) rfl) ones_nil) rfl) ?_
  rintro _ a7 ⟨rfl, (a1 : Has Fr a7 [.vec 5 1 a3.length a4 (a3.flatMap z1n), .obj f (.row 228 .whole [(.ptr f 0), a4]), tb0, tb1, tb2])⟩
  refine Run.opsEnd (Run.seq (Run.region ?_))
  refine mv rfl rfl <| og (ex_lenS rfl z87) rfl <| av rfl rfl <| av rfl rfl <| Run.opsEnd <| Run.retTo Tryz.func155 rfl (res_tmp rfl (res_tmp rfl res_nil)) rfl ?_
  refine Run.opsEnd (Run.inBlock (Run.region ?_))
  refine og (ex_add rfl rfl) rfl <| mv rfl rfl ?_
  refine Run.opsEnd (Run.inLoop ?_)
  exact Run.pick [5, 24, 25] (z9i F F m n p b d g s e q a3 a f a4 _ _ _ u (a1.pick [1, 0, 2, 3, 4] rfl rfl) h)

def alert_textOf (F : Nat) (a0 : S_api_Alert) : Option ((List UInt8)) :=
 alert_textOf_1 F F a0.Event a0.Version a0.Time a0.Chance.N a0.Chance.Of a0.Grid a0.Cells a0.Withdrawn a0.Before

theorem za6 (F : Nat) (a0 : S_api_Alert) (s0 : SV) (r : List UInt8) (M : Mem) (f : Slc (rd M) 1 (FlatR enc3) s0 a0.Cells) (hfx : FixIn M fixes) (h : alert_textOf F a0 = some r) : CallsM Tryz.prog 92 [(.agg (r0 a0 s0))] M (fun s M' => s = (.str r) ∧ M' = M) := by
 refine CallsM.plain Tryz.func92 rfl rfl rfl (show Run _ _ _ (z07 r) _ _ _ from ?_)
 rw [alert_textOf] at h
 replace f := f.mono (rdLe_frozen M) (fun _ _ h => h)
 have hH : Has (ro (frozen M)) (frozen M) [tb0, tb1, tb2] := Has.ofFix hfx.frozen
 refine Run.seq (Run.region ?_)
 refine ox rfl (ExG.box rfl rfl hH) ?_
 rintro _ a3 ⟨p, rfl, e⟩
 refine av rfl rfl ?_
 refine Run.opsEnd (Run.seq (Run.region ?_))
 refine og (ex_loadA rfl (e.cells (i := 0) rfl 0 rfl) rdLe_rfl z0m rfl rfl rfl) rfl <| ox rfl (ExG.new (v := fun b => .ptr b 0) (ex_alloc zdw) e) ?_
 rintro _ a2 ⟨q, rfl, g⟩
 refine ox rfl (ExG.storeC (c' := (r0 a0 s0)) rfl rfl rfl g (i := 0) rfl zgt rfl rfl rfl (ones_cons rfl (ones_cons rfl (ones_cons rfl (ones_cons rfl (ones_cons rfl (ones_cons rfl (ones_cons (slc_one f) (ones_cons rfl (ones_cons rfl ones_nil))))))))) rfl) ?_
 rintro _ w ⟨rfl, (a : Has (ro (frozen M)) w [.obj q (.row 223 .whole (r0 a0 s0)), .obj p (.row 33 .whole (r0 a0 s0)), tb0, tb1, tb2])⟩
 refine Run.opsEnd (Run.seq (Run.region ?_))
 refine og (ex_loadA rfl (a.cells (i := 0) rfl 0 rfl) rdLe_rfl zab rfl rfl rfl) rfl <| og (ex_makeFunc rfl rfl) rfl <| og (ex_loadA rfl (a.cells (i := 0) rfl 0 rfl) rdLe_rfl zab rfl rfl rfl) rfl <| og (ex_makeFunc rfl rfl) rfl <| og (ex_loadA rfl (a.cells (i := 0) rfl 0 rfl) rdLe_rfl zab rfl rfl rfl) rfl <| og (ex_makeFunc rfl rfl) rfl <| og (ex_loadA rfl (a.cells (i := 0) rfl 0 rfl) rdLe_rfl zab rfl rfl rfl) rfl <| og (ex_makeFunc rfl rfl) rfl <| og (ex_loadA rfl (a.cells (i := 0) rfl 0 rfl) rdLe_rfl zab rfl rfl rfl) rfl <| og (ex_makeFunc rfl rfl) rfl <| og (ex_loadA rfl (a.cells (i := 0) rfl 0 rfl) rdLe_rfl zab rfl rfl rfl) rfl <| og (ex_makeFunc rfl rfl) rfl <| og (ex_loadA rfl (a.cells (i := 0) rfl 0 rfl) rdLe_rfl zab rfl rfl rfl) rfl <| og (ex_makeFunc rfl rfl) rfl <| og (ex_buildA (r := [(.fn (.func 148) [(.agg (r0 a0 s0))] []), (.fn (.func 149) [(.agg (r0 a0 s0))] []), (.fn (.func 150) [(.agg (r0 a0 s0))] []), (.fn (.func 151) [(.agg (r0 a0 s0))] []), (.fn (.func 152) [(.agg (r0 a0 s0))] []), (.fn (.func 153) [(.agg (r0 a0 s0))] []), (.fn (.func 154) [(.agg (r0 a0 s0))] [])]) rfl zcs zdp rfl) rfl <| ox rfl (ExG.new (v := fun b => .ptr b 0) (ex_alloc zcs) a) ?_
 rintro _ a4 ⟨u, rfl, m⟩
 refine ox rfl (ExG.storeC (c' := [(.fn (.func 148) [(.agg (r0 a0 s0))] []), (.fn (.func 149) [(.agg (r0 a0 s0))] []), (.fn (.func 150) [(.agg (r0 a0 s0))] []), (.fn (.func 151) [(.agg (r0 a0 s0))] []), (.fn (.func 152) [(.agg (r0 a0 s0))] []), (.fn (.func 153) [(.agg (r0 a0 s0))] []), (.fn (.func 154) [(.agg (r0 a0 s0))] [])]) rfl rfl rfl m (i := 0) rfl zg8 rfl rfl rfl rfl rfl) ?_
 rintro _ x ⟨rfl, (n : Has (ro (frozen M)) x [.obj u (.row 225 .whole [(.fn (.func 148) [(.agg (r0 a0 s0))] []), (.fn (.func 149) [(.agg (r0 a0 s0))] []), (.fn (.func 150) [(.agg (r0 a0 s0))] []), (.fn (.func 151) [(.agg (r0 a0 s0))] []), (.fn (.func 152) [(.agg (r0 a0 s0))] []), (.fn (.func 153) [(.agg (r0 a0 s0))] []), (.fn (.func 154) [(.agg (r0 a0 s0))] [])]), .obj q (.row 223 .whole (r0 a0 s0)), .obj p (.row 33 .whole (r0 a0 s0)), tb0, tb1, tb2])⟩
 refine Run.opsEnd (Run.seq (Run.region ?_))
 refine ox rfl (ExG.new (v := fun b => .ptr b 0) (ex_alloc zce) n) ?_
 rintro _ a1 ⟨y, rfl, d⟩
 refine Run.opsEnd (Run.seq (Run.seq (Run.region ?_)))
 refine og (ex_loadA rfl (d.cells (i := 1) rfl 0 rfl) rdLe_rfl zeo rfl rfl rfl) rfl <| mv rfl rfl ?_
 refine Run.opsEnd (Run.block (Run.loop ?_))
 exact Run.pick [5, 24, 25] (z99 F F a0.Event a0.Version a0.Time a0.Chance.N a0.Chance.Of a0.Grid a0.Cells a0.Withdrawn a0.Before s0 y _ _ _ f (d.pick [0, 4, 5, 6] rfl rfl) h)

theorem zhk : makeK Tryz.prog 92 = none := by kernel_rfl
theorem zh3 : callable Tryz.prog 92 = true := by kernel_rfl
theorem zcm : uvK Tryz.prog 5 3 = none := by kernel_rfl
theorem zco : cvK Tryz.prog 5 3 = some (.int .i64) := by kernel_rfl
abbrev z3s (r : Int) : SV → Mem → Prop := fun s _ => s = (.int .i64 r)

def alert_digestOf_1 (F : Nat) : Nat → Int → List Int → Int → Int → Option (Int)
 | 0, _, _, _, _ => none
 | N + 1, v3, v8, v9, a =>
  bif (decide (a < v9)) then
   bnd (idx v8 a) fun b =>
   (alert_digestOf_1 F N) (Int.tmod (w64 ((w64 ((w64 (v3 * (31 : Int))) + (w64 b))) + (1 : Int))) (2147483647 : Int)) v8 v9 (w64 (a + (1 : Int)))
  else
   some v3

theorem z86 (F : Nat) : ∀ (N : Nat), ∀ (v3 : Int) (v8 : List Int) (v9 e : Int) (f : SV) (Fr : Rd) (M : Mem) (r : Int) (g : Slc Fr 1 (FlatR z1n) f v8) (hH : Has Fr M [tb0, tb1, tb2]), alert_digestOf_1 F N v3 v8 v9 e = some r → Run Tryz.prog ⟨⟨59, [], none⟩, []⟩ 23 (z3s r) [(3, (.int .i64 v3)), (8, f), (9, (.int .i64 v9)), (10, (.int .i64 e))] [codeC Tryz.prog 59 [1, 1, 0, 1, 0, 0], loopC Tryz.prog 59 [1, 1, 0, 1, 0, 0], .inBlock 0, codeC Tryz.prog 59 [1, 1, 1]] M := by
 intro N
 induction N with
 | zero =>
  intro v3 v8 v9 e f Fr M r g hH h
  simp [alert_digestOf_1] at h
 | succ N ih =>
  intro v3 v8 v9 e f Fr M r g hH h
  rw [alert_digestOf_1] at h
  refine Run.seq (Run.region ?_)
  refine og (ex_lss rfl rfl) rfl ?_
  refine Run.opsEnd (Run.seq ?_)
  rcases btf ((decide (e < v9))) with a | a
  ·have h := bif_t a h
   refine Run.condT' rfl a ?_
   refine Run.skip (Run.seq (Run.block (Run.seq (Run.region ?_))))
   obtain ⟨m, b, h⟩ := bnd_some h
   obtain ⟨p, n, _, b, d, rfl⟩ := sl_elem (P := Tryz.prog) (t := 191) (kk := .i64) g b zcl
   refine og (ex_elX rfl rfl b) rfl <| og (ex_load1 rfl (hH.ptrF d) rdLe_rfl zhu) rfl <| av rfl rfl ?_
   refine Run.opsEnd (Run.region ?_)
   refine mv rfl rfl <| og (ex_mul rfl rfl) rfl <| mv rfl rfl <| og (ex_conv rfl zcm zco) rfl <| og (ex_add rfl rfl) rfl <| og (ex_add rfl rfl) rfl <| og (ex_rem rfl rfl (by decide)) rfl <| av rfl rfl ?_
   refine Run.opsEnd (Run.inBlock (Run.region ?_))
   refine og (ex_add rfl rfl) rfl <| mv rfl rfl ?_
   refine Run.opsEnd (Run.inLoop ?_)
   exact Run.pick [3, 8, 9, 10] (ih (Int.tmod (w64 ((w64 ((w64 (v3 * (31 : Int))) + (w64 m))) + (1 : Int))) (2147483647 : Int)) v8 v9 (w64 (e + (1 : Int))) f _ _ _ g hH h)
  ·have h := bif_f a h
   refine Run.condF' rfl a ?_
   refine Run.exit rfl (Run.seq (Run.region ?_))
   refine mv rfl rfl <| av rfl rfl <| Run.opsEnd ?_
   cases h
   exact Run.ret Tryz.func59 rfl (res_tmp rfl res_nil) rfl

def alert_digestOf (F : Nat) (a0 : S_api_Alert) : Option (Int) :=
 bnd (alert_textOf F a0) fun b =>
 bnd (byt b) fun a =>
 alert_digestOf_1 F F (7 : Int) a (a.length : Int) (0 : Int)

theorem z5e (F : Nat) (a0 : S_api_Alert) (s0 : SV) (r : Int) (M : Mem) (f : Slc (rd M) 1 (FlatR enc3) s0 a0.Cells) (hfx : FixIn M fixes) (h : alert_digestOf F a0 = some r) : CallsM Tryz.prog 59 [(.agg (r0 a0 s0))] M (fun s M' => s = (.int .i64 r) ∧ M' = M) := by
 refine CallsM.plain Tryz.func59 rfl rfl rfl (show Run _ _ _ (z3s r) _ _ _ from ?_)
 rw [alert_digestOf] at h
 replace f := f.mono (rdLe_frozen M) (fun _ _ h => h)
 have hH : Has (ro (frozen M)) (frozen M) [tb0, tb1, tb2] := Has.ofFix hfx.frozen
 refine Run.seq (Run.region ?_)
 refine ox rfl (ExG.box rfl rfl hH) ?_
 rintro _ y ⟨q, rfl, a⟩
 refine av rfl rfl ?_
 refine Run.opsEnd (Run.seq (Run.region ?_))
 refine av rfl rfl ?_
 refine Run.opsEnd (Run.seq (Run.seq (Run.region ?_)))
 refine og (ex_loadA rfl (a.cells (i := 0) rfl 0 rfl) rdLe_rfl z0m rfl rfl rfl) rfl ?_
 obtain ⟨x, e, h⟩ := bnd_some h
 refine Run.callP wantS_none (ex_call rfl zhk zh3) rfl (za6 F a0 s0 _ _ (a.slcF f) (zal a (List.mem_of_getElem? (i := 1) rfl) (List.mem_of_getElem? (i := 2) rfl) (List.mem_of_getElem? (i := 3) rfl)) e) ?_
 obtain ⟨n, b, h⟩ := bnd_some h
 refine ox rfl (ExG.bytes rfl zbn zbi b a) ?_
 rintro _ a1 ⟨p, rfl, g⟩
 refine Run.freezeB (t := 8) (i := 0) (enc := z1n) (fun _ => rfl) b rfl g rfl ?_
 intro w u d (m : Has w u [.vec 0 0 0 .nils [], .obj q (.row 33 .whole (r0 a0 s0)), tb0, tb1, tb2]) hf33
 replace f := f.mono d (fun _ _ h => h)
 refine og (ex_len' rfl hf33 zas) rfl <| mv rfl rfl ?_
 refine Run.opsEnd (Run.block (Run.loop ?_))
 exact Run.pick [3, 8, 9, 10] (z86 F F (7 : Int) n (n.length : Int) (0 : Int) (.ope p 0 n.length 1) _ _ _ hf33 (m.pick [2, 3, 4] rfl rfl) h)

theorem zdi : makeK Tryz.prog 59 = none := by kernel_rfl
theorem zes : callable Tryz.prog 59 = true := by kernel_rfl
theorem z9z : lenK Tryz.prog 34 = some .sl := by kernel_rfl
theorem zbw : elems Tryz.prog 34 = some (.sl 2) := by kernel_rfl
theorem zbm : aggSize Tryz.prog 123 = some (some 2) := by kernel_rfl
theorem zch : zerosOf Tryz.prog 123 = some [(.int .i64 0), (.int .i64 0)] := by kernel_rfl
theorem zdq : szOf Tryz.prog 123 = some 2 := by kernel_rfl
theorem z4g : fieldOff Tryz.prog 123 0 = some 0 := by kernel_rfl
theorem zbt : fieldOff Tryz.prog 39 0 = some 0 := by kernel_rfl
theorem zfo : aggSize Tryz.prog 37 = some none := by kernel_rfl
theorem zeb : lenK Tryz.prog 37 = some .sl := by kernel_rfl
theorem zgu : elems Tryz.prog 37 = some (.sl 2) := by kernel_rfl
theorem zcg : aggSize Tryz.prog 166 = some (some 2) := by kernel_rfl
theorem zaz : fieldOff Tryz.prog 123 1 = some 1 := by kernel_rfl
theorem zcc : makeK Tryz.prog 209 = none := by kernel_rfl
theorem zcn : callable Tryz.prog 209 = true := by kernel_rfl
abbrev z0w (r : Int) : SV → Mem → Prop := fun s _ => s = (.int .i64 r)

def alert_key_power_2 (F : Nat) (b : Int → Int → Int → S_api_Key → Option (Int)) (v1 v2 v8 : Int) (a : S_api_Key) : Option (Int) :=
 bnd (nz a.Modulus) fun d =>
 b (Int.tmod (w64 (v1 * v1)) a.Modulus) (w64 (Int.tdiv v2 (2 : Int))) v8 a

theorem z3b (F : Nat) (f : Int → Int → Int → S_api_Key → Option (Int)) (b : ∀ (v1 v2 v8 : Int) (d : S_api_Key) (e : Pos) (Fr : Rd) (M : Mem) (r : Int) (hH : Has Fr M [.obj e (.row 166 .whole [(.int .i64 d.Modulus), (.int .i64 d.Exponent)])]), f v1 v2 v8 d = some r → Run Tryz.prog ⟨⟨157, [], none⟩, []⟩ 30 (z0w r) [(1, (.int .i64 v1)), (2, (.int .i64 v2)), (7, (.fn (.func 209) [] [(.ptr e 0)])), (8, (.int .i64 v8))] [codeC Tryz.prog 157 [1, 1, 1, 0, 1, 0, 0], loopC Tryz.prog 157 [1, 1, 1, 0, 1, 0, 0], .inBlock 0, codeC Tryz.prog 157 [1, 1, 1, 1]] M) : ∀ (v1 v2 v8 : Int) (d : S_api_Key) (e : Pos) (Fr : Rd) (M : Mem) (r : Int) (hH : Has Fr M [.obj e (.row 166 .whole [(.int .i64 d.Modulus), (.int .i64 d.Exponent)])]), alert_key_power_2 F f v1 v2 v8 d = some r → Run Tryz.prog ⟨⟨157, [], none⟩, []⟩ 30 (z0w r) [(1, (.int .i64 v1)), (2, (.int .i64 v2)), (7, (.fn (.func 209) [] [(.ptr e 0)])), (8, (.int .i64 v8))] [itemC Tryz.prog 157 [1, 1, 1, 0, 1, 0, 0, 1, 0, 0, 1] 0, .inBlock 1, codeC Tryz.prog 157 [1, 1, 1, 0, 1, 0, 0, 1, 1], loopC Tryz.prog 157 [1, 1, 1, 0, 1, 0, 0], .inBlock 0, codeC Tryz.prog 157 [1, 1, 1, 1]] M := by
 intro v1 v2 v8 d e Fr M r hH h
 rw [alert_key_power_2] at h
 refine mv rfl rfl <| mv rfl rfl <| mv rfl rfl <| Run.enter wantS_none (ex_closure rfl rfl zcc zcn) Tryz.func209 rfl rfl ?_
 refine Run.seq (Run.region ?_)
 refine av rfl rfl ?_
 refine Run.opsEnd (Run.seq (Run.region ?_))
 refine mv rfl rfl <| mv rfl rfl <| og (ex_mul rfl rfl) rfl <| og (ex_fieldAddr rfl z5j) rfl <| og (ex_load1 rfl (hH.cells (i := 0) rfl 0 rfl) rdLe_rfl z0c) rfl ?_
 obtain ⟨g, a, h⟩ := bnd_some h
 refine og (ex_rem' rfl rfl a) rfl <| av rfl rfl <| Run.opsEnd <| Run.retTo Tryz.func209 rfl (res_tmp rfl res_nil) rfl <| av rfl rfl ?_
 refine Run.opsEnd (Run.inBlock (Run.region ?_))
 refine mv rfl rfl <| og (ex_quo rfl rfl (by decide)) rfl <| av rfl rfl ?_
 refine Run.opsEnd (Run.inLoop ?_)
 exact Run.pick [1, 2, 7, 8] (b (Int.tmod (w64 (v1 * v1)) d.Modulus) (w64 (Int.tdiv v2 (2 : Int))) v8 d e _ _ _ hH h)

def alert_key_power_1 (F : Nat) : Nat → Int → Int → Int → S_api_Key → Option (Int)
 | 0, _, _, _, _ => none
 | N + 1, v1, v2, v8, a =>
  bif (decide ((0 : Int) < v2)) then
   bif ((Int.tmod v2 (2 : Int)) == (1 : Int)) then
    bnd (nz a.Modulus) fun b =>
    alert_key_power_2 F (alert_key_power_1 F N) v1 v2 (Int.tmod (w64 (v8 * v1)) a.Modulus) a
   else
    alert_key_power_2 F (alert_key_power_1 F N) v1 v2 v8 a
  else
   some v8

theorem z7t (F : Nat) : ∀ (N : Nat), ∀ (v1 v2 v8 : Int) (b : S_api_Key) (d : Pos) (Fr : Rd) (M : Mem) (r : Int) (hH : Has Fr M [.obj d (.row 166 .whole [(.int .i64 b.Modulus), (.int .i64 b.Exponent)])]), alert_key_power_1 F N v1 v2 v8 b = some r → Run Tryz.prog ⟨⟨157, [], none⟩, []⟩ 30 (z0w r) [(1, (.int .i64 v1)), (2, (.int .i64 v2)), (7, (.fn (.func 209) [] [(.ptr d 0)])), (8, (.int .i64 v8))] [codeC Tryz.prog 157 [1, 1, 1, 0, 1, 0, 0], loopC Tryz.prog 157 [1, 1, 1, 0, 1, 0, 0], .inBlock 0, codeC Tryz.prog 157 [1, 1, 1, 1]] M := by
 intro N
 induction N with
 | zero =>
  intro v1 v2 v8 b d Fr M r hH h
  simp [alert_key_power_1] at h
 | succ N ih =>
  intro v1 v2 v8 b d Fr M r hH h
  rw [alert_key_power_1] at h
  refine Run.seq (Run.seq (Run.region ?_))
  refine mv rfl rfl <| og (ex_gtr rfl rfl) rfl <| Run.opsEnd ?_
  rcases btf ((decide ((0 : Int) < v2))) with hc26 | hc26
  ·have h := bif_t hc26 h
   refine Run.condT' rfl hc26 ?_
   refine Run.skip (Run.seq (Run.block (Run.seq (Run.seq (Run.region ?_)))))
   refine mv rfl rfl <| og (ex_rem rfl rfl (by decide)) rfl <| og (ex_eql rfl rfl) rfl <| Run.opsEnd ?_
   rcases btf (((Int.tmod v2 (2 : Int)) == (1 : Int))) with hc27 | hc27
   ·have h := bif_t hc27 h
    refine Run.condT' rfl hc27 <| Run.region <| mv rfl rfl <| mv rfl rfl <| mv rfl rfl <| Run.enter wantS_none (ex_closure rfl rfl zcc zcn) Tryz.func209 rfl rfl ?_
    refine Run.seq (Run.region ?_)
    refine av rfl rfl ?_
    refine Run.opsEnd (Run.seq (Run.region ?_))
    refine mv rfl rfl <| mv rfl rfl <| og (ex_mul rfl rfl) rfl <| og (ex_fieldAddr rfl z5j) rfl <| og (ex_load1 rfl (hH.cells (i := 0) rfl 0 rfl) rdLe_rfl z0c) rfl ?_
    obtain ⟨e, a, h⟩ := bnd_some h
    refine og (ex_rem' rfl rfl a) rfl <| av rfl rfl <| Run.opsEnd <| Run.retTo Tryz.func209 rfl (res_tmp rfl res_nil) rfl <| av rfl rfl ?_
    refine Run.opsEnd (Run.region ?_)
    exact Run.pick [1, 2, 7, 8] (z3b F (alert_key_power_1 F N) ih v1 v2 (Int.tmod (w64 (v8 * v1)) b.Modulus) b d _ _ _ hH h)
   ·have h := bif_f hc27 h
    refine Run.condF' rfl hc27 ?_
    refine Run.skip (Run.region ?_)
    exact Run.pick [1, 2, 7, 8] (z3b F (alert_key_power_1 F N) ih v1 v2 v8 b d _ _ _ hH h)
  ·have h := bif_f hc26 h
   refine Run.condF' rfl hc26 ?_
   refine Run.exit rfl (Run.seq (Run.region ?_))
   refine mv rfl rfl <| av rfl rfl <| Run.opsEnd ?_
   cases h
   exact Run.ret Tryz.func157 rfl (res_tmp rfl res_nil) rfl

def alert_key_power (F : Nat) (a0 : S_api_Key) (a1 a2 : Int) : Option (Int) :=
 bnd (nz a0.Modulus) fun a =>
 alert_key_power_1 F F (Int.tmod a1 a0.Modulus) a2 (1 : Int) a0

theorem z8m (F : Nat) (a0 : S_api_Key) (a1 a2 r : Int) (M : Mem) (h : alert_key_power F a0 a1 a2 = some r) : CallsM Tryz.prog 157 [(.agg [(.int .i64 a0.Modulus), (.int .i64 a0.Exponent)]), (.int .i64 a1), (.int .i64 a2)] M (fun s M' => s = (.int .i64 r) ∧ M' = M) := by
 refine CallsM.plain Tryz.func157 rfl rfl rfl (show Run _ _ _ (z0w r) _ _ _ from ?_)
 rw [alert_key_power] at h
 have hH := Has.nil (frozen M)
 refine Run.seq (Run.region ?_)
 refine ox rfl (ExG.box rfl rfl hH) ?_
 rintro _ f ⟨d, rfl, a⟩
 refine av rfl rfl ?_
 refine Run.opsEnd (Run.seq (Run.region ?_))
 refine og (ex_makeFunc rfl rfl) rfl <| av rfl rfl ?_
 refine Run.opsEnd (Run.seq (Run.region ?_))
 refine av rfl rfl ?_
 refine Run.opsEnd (Run.seq (Run.seq (Run.region ?_)))
 refine mv rfl rfl <| og (ex_fieldAddr rfl z5j) rfl <| og (ex_load1 rfl (a.cells (i := 0) rfl 0 rfl) rdLe_rfl z0c) rfl ?_
 obtain ⟨e, b, h⟩ := bnd_some h
 refine og (ex_rem' rfl rfl b) rfl <| av rfl rfl ?_
 refine Run.opsEnd (Run.block (Run.loop ?_))
 exact Run.pick [1, 2, 7, 8] (z7t F F (Int.tmod a1 a0.Modulus) a2 (1 : Int) a0 d _ _ _ a h)

theorem zen : makeK Tryz.prog 157 = none := by kernel_rfl
theorem zfd : callable Tryz.prog 157 = true := by kernel_rfl
theorem zbf : planOf Tryz.prog (opsC (atC Tryz.prog 144 [1, 0])) = some [.fl 0, .fl 1, .fl 2, .fl 3, .an 4 [], .fl 5, .fl 6, .fl 7, .fl 8, .fl 9, .fl 11, .fl 12, .fl 13, .fl 14, .an 10 [14, 13, 12, 11], .fl 15, .fl 16, .fl 17, .sync] := by kernel_rfl
abbrev z2f (r : Bool) : SV → Mem → Prop := fun s _ => s = (.bool r)

def alert_key_isSigned_1 (F : Nat) (v6 : Bool) : Option (Bool) :=
 some v6

theorem z2c (F : Nat) : ∀ (v6 : Bool) (Fr : Rd) (M : Mem) (r : Bool) (hH : Has Fr M []), alert_key_isSigned_1 F v6 = some r → Run Tryz.prog ⟨⟨144, [], none⟩, []⟩ 24 (z2f r) [(6, (.bool v6))] [codeC Tryz.prog 144 [1, 1]] M := by
 intro v6 Fr M r hH h
 rw [alert_key_isSigned_1] at h
 cases h
 exact Run.ret Tryz.func144 rfl (res_tmp rfl res_nil) rfl

def alert_key_isSigned (F : Nat) (a0 : S_api_Key) (a1 a2 : Int) : Option (Bool) :=
 bnd (alert_isFrom F (0 : Int) a2 (w64 (a0.Modulus - (1 : Int)))) fun b =>
 bif b then
  bnd (nz a0.Modulus) fun d =>
  bnd (alert_key_power F a0 a2 a0.Exponent) fun a =>
  alert_key_isSigned_1 F (a == (Int.tmod a1 a0.Modulus))
 else
  alert_key_isSigned_1 F false

theorem z7g (F : Nat) (a0 : S_api_Key) (a1 a2 : Int) (r : Bool) (M : Mem) (h : alert_key_isSigned F a0 a1 a2 = some r) : CallsM Tryz.prog 144 [(.agg [(.int .i64 a0.Modulus), (.int .i64 a0.Exponent)]), (.int .i64 a1), (.int .i64 a2)] M (fun s M' => s = (.bool r) ∧ M' = M) := by
 refine CallsM.plain Tryz.func144 rfl rfl rfl (show Run _ _ _ (z2f r) _ _ _ from ?_)
 rw [alert_key_isSigned] at h
 have hH := Has.nil (frozen M)
 refine Run.seq (Run.region ?_)
 refine ox rfl (ExG.box rfl rfl hH) ?_
 rintro _ n ⟨q, rfl, b⟩
 refine av rfl rfl ?_
 refine Run.opsEnd (Run.seq ?_)
 refine Run.drawG zbf <| df rfl (ex_move rfl) rfl <| df rfl (ex_fieldAddr rfl z5j) rfl <| df rfl (ex_load1 rfl (b.cells (i := 0) rfl 0 rfl) rdLe_rfl z0c) rfl <| df rfl (ex_sub rfl rfl) rfl ?_
 obtain ⟨m, g, h⟩ := bnd_some h
 refine DrawG.callP rfl wantS_none (ex_call rfl za0 zaa) rfl (z06 F (0 : Int) a2 (w64 (a0.Modulus - (1 : Int))) _ _ g) st_nil <| df rfl (ex_move rfl) rfl ?_
 rcases btf (m) with a | a
 ·have h := bif_t a h
  refine dy rfl rfl rfl a (ex_loadA rfl (b.cells (i := 0) rfl 0 rfl) rdLe_rfl zcg rfl rfl rfl) rfl <| dy rfl rfl rfl a (ex_move rfl) rfl <| dy rfl rfl rfl a (ex_fieldAddr rfl zbk) rfl <| dy rfl rfl rfl a (ex_load1 rfl (b.cells (i := 0) rfl 1 rfl) rdLe_rfl z0c) rfl <| dy rfl rfl rfl a (ex_move rfl) rfl <| dy rfl rfl rfl a (ex_fieldAddr rfl z5j) rfl <| dy rfl rfl rfl a (ex_load1 rfl (b.cells (i := 0) rfl 0 rfl) rdLe_rfl z0c) rfl ?_
  obtain ⟨p, d, h⟩ := bnd_some h
  refine dy rfl rfl rfl a (ex_rem' rfl rfl d) rfl ?_
  obtain ⟨f, e, h⟩ := bnd_some h
  refine DrawG.callP rfl (wantS_yes' rfl rfl a) (ex_call rfl zen zfd) rfl (z8m F a0 a2 a0.Exponent _ _ e) (st_cons rfl (ev_ex (wantS_yes' rfl rfl a) (ex_rem' rfl rfl d)) rfl rfl rfl (st_cons rfl (ev_ex (wantS_yes' rfl rfl a) (ex_load1 rfl (b.cells (i := 0) rfl 0 rfl) rdLe_rfl z0c)) rfl rfl rfl (st_cons rfl (ev_ex (wantS_yes' rfl rfl a) (ex_fieldAddr rfl z5j)) rfl rfl rfl (st_cons rfl (ev_ex (wantS_yes' rfl rfl a) (ex_move rfl)) rfl rfl rfl st_nil)))) <| dy rfl rfl rfl a (ex_eql rfl rfl) rfl <| df rfl (ex_pickT' rfl a rfl rfl) rfl <| df rfl (ex_assign rfl) rfl <| DrawG.sync <| DrawG.nil ?_
  exact Run.pick [6] (z2c F (f == (Int.tmod a1 a0.Modulus)) _ _ _ (b.pick [] rfl rfl) h)
 ·have h := bif_f a h
  refine dn rfl rfl rfl a rfl <| dn rfl rfl rfl a rfl <| dn rfl rfl rfl a rfl <| dn rfl rfl rfl a rfl <| dn rfl rfl rfl a rfl <| dn rfl rfl rfl a rfl <| dn rfl rfl rfl a rfl <| dn rfl rfl rfl a rfl <| DrawG.no rfl (wantS_not' rfl rfl a) rfl (st_cons rfl (ev_no (wantS_not' rfl rfl a)) rfl rfl rfl (st_cons rfl (ev_no (wantS_not' rfl rfl a)) rfl rfl rfl (st_cons rfl (ev_no (wantS_not' rfl rfl a)) rfl rfl rfl (st_cons rfl (ev_no (wantS_not' rfl rfl a)) rfl rfl rfl st_nil)))) <| dn rfl rfl rfl a rfl <| df rfl (ex_pickF' rfl a rfl rfl) rfl <| df rfl (ex_assign rfl) rfl <| DrawG.sync <| DrawG.nil ?_
  exact Run.pick [6] (z2c F false _ _ _ (b.pick [] rfl rfl) h)

theorem zfh : makeK Tryz.prog 144 = none := by kernel_rfl
theorem zea : callable Tryz.prog 144 = true := by kernel_rfl
theorem z2l : planOf Tryz.prog (opsC (atC Tryz.prog 80 [1, 1, 0, 1, 0, 0, 1, 1, 0, 0, 1, 0, 0])) = some [.fl 0, .fl 1, .fl 2, .fl 3, .fl 4, .fl 5, .fl 6, .fl 7, .an 8 [], .fl 9, .fl 10, .fl 11, .fl 12, .fl 13, .fl 14, .fl 15, .fl 16, .fl 17, .fl 18, .fl 19, .an 20 [], .fl 21, .fl 22, .sync] := by kernel_rfl
abbrev z0j (r : Bool) : SV → Mem → Prop := fun s _ => s = (.bool r)

def alert_roll_isSigned_2 (F : Nat) (m : Int → Int → List S_api_Signature → Int → Int → List S_api_Key → Int → Option (Bool)) (v5 : Int) (n : List S_api_Signature) (d e : Int) (f : Bool) (a : List S_api_Key) (b : Int) (g : S_api_Signature) : Option (Bool) :=
 bif f then
  some false
 else
  m v5 g.Signer n d (w64 (e + (1 : Int))) a b

theorem z1z (F : Nat) (a0 : Int → Int → List S_api_Signature → Int → Int → List S_api_Key → Int → Option (Bool)) (p : ∀ (v5 v6 : Int) (f : List S_api_Signature) (q u : Int) (d : List S_api_Key) (b : Int) (e a : SV) (s : Pos) (Fr : Rd) (M : Mem) (r : Bool) (n : Slc Fr 2 (FlatR enc123) e f) (g : Slc Fr 2 (FlatR z01) a d) (hH : Has Fr M [.obj s (.row 39 .whole [a, (.int .i64 b)]), tb0, tb1, tb2]), a0 v5 v6 f q u d b = some r → Run Tryz.prog ⟨⟨80, [], none⟩, []⟩ 45 (z0j r) [(2, (.ptr s 0)), (5, (.int .i64 v5)), (6, (.int .i64 v6)), (13, e), (14, (.int .i64 q)), (15, (.int .i64 u))] [codeC Tryz.prog 80 [1, 1, 0, 1, 0, 0], loopC Tryz.prog 80 [1, 1, 0, 1, 0, 0], .inBlock 0, codeC Tryz.prog 80 [1, 1, 1]] M) : ∀ (v5 : Int) (f : List S_api_Signature) (q u : Int) (x : Bool) (d : List S_api_Key) (b : Int) (w : S_api_Signature) (e a : SV) (s y : Pos) (Fr : Rd) (M : Mem) (r : Bool) (n : Slc Fr 2 (FlatR enc123) e f) (g : Slc Fr 2 (FlatR z01) a d) (hH : Has Fr M [.obj s (.row 39 .whole [a, (.int .i64 b)]), .obj y (.row 123 .whole [(.int .i64 w.Signer), (.int .i64 w.Number)]), tb0, tb1, tb2]), alert_roll_isSigned_2 F a0 v5 f q u x d b w = some r → Run Tryz.prog ⟨⟨80, [], none⟩, []⟩ 45 (z0j r) [(2, (.ptr s 0)), (5, (.int .i64 v5)), (8, (.ptr y 0)), (13, e), (14, (.int .i64 q)), (15, (.int .i64 u)), (41, (.bool x))] [codeC Tryz.prog 80 [1, 1, 0, 1, 0, 0, 1, 1, 0, 0, 1, 0, 1], codeC Tryz.prog 80 [1, 1, 0, 1, 0, 0, 1, 1, 0, 0, 1, 1], .inBlock 1, codeC Tryz.prog 80 [1, 1, 0, 1, 0, 0, 1, 1, 1], loopC Tryz.prog 80 [1, 1, 0, 1, 0, 0], .inBlock 0, codeC Tryz.prog 80 [1, 1, 1]] M := by
 intro v5 f q u x d b w e a s y Fr M r n g hH h
 rw [alert_roll_isSigned_2] at h
 rcases btf (x) with m | m
 ·have h := bif_t m h
  refine Run.condT' rfl m ?_
  refine Run.seq (Run.region ?_)
  refine av rfl rfl <| Run.opsEnd ?_
  cases h
  exact Run.ret Tryz.func80 rfl (res_tmp rfl res_nil) rfl
 ·have h := bif_f m h
  refine Run.condF' rfl m ?_
  refine Run.skip (Run.region ?_)
  refine og (ex_fieldAddr rfl z4g) rfl <| og (ex_load1 rfl (hH.cells (i := 1) rfl 0 rfl) rdLe_rfl z0c) rfl <| av rfl rfl ?_
  refine Run.opsEnd (Run.inBlock (Run.region ?_))
  refine og (ex_add rfl rfl) rfl <| mv rfl rfl ?_
  refine Run.opsEnd (Run.inLoop ?_)
  exact Run.pick [2, 5, 6, 13, 14, 15] (p v5 w.Signer f q (w64 (u + (1 : Int))) d b e a s _ _ _ n g (hH.pick [0, 2, 3, 4] rfl rfl) h)

def alert_roll_isSigned_1 (F : Nat) : Nat → Int → Int → List S_api_Signature → Int → Int → List S_api_Key → Int → Option (Bool)
 | 0, _, _, _, _, _, _, _ => none
 | N + 1, v5, v6, g, f, e, a, b =>
  bif (decide (e < f)) then
   bnd (idx g e) fun d =>
   bnd (alert_isFrom F (w64 (v6 + (1 : Int))) d.Signer (w64 ((a.length : Int) - (1 : Int)))) fun p =>
   bif (!p) then
    alert_roll_isSigned_2 F (alert_roll_isSigned_1 F N) v5 g f e true a b d
   else
    bnd (idx a d.Signer) fun n =>
    bnd (alert_key_isSigned F n v5 d.Number) fun m =>
    alert_roll_isSigned_2 F (alert_roll_isSigned_1 F N) v5 g f e (!m) a b d
  else
   some true

theorem z5a (F : Nat) : ∀ (N : Nat), ∀ (v5 v6 : Int) (a6 : List S_api_Signature) (a3 a5 : Int) (m : List S_api_Key) (g : Int) (p d : SV) (a4 : Pos) (Fr : Rd) (M : Mem) (r : Bool) (q : Slc Fr 2 (FlatR enc123) p a6) (e : Slc Fr 2 (FlatR z01) d m) (hH : Has Fr M [.obj a4 (.row 39 .whole [d, (.int .i64 g)]), tb0, tb1, tb2]), alert_roll_isSigned_1 F N v5 v6 a6 a3 a5 m g = some r → Run Tryz.prog ⟨⟨80, [], none⟩, []⟩ 45 (z0j r) [(2, (.ptr a4 0)), (5, (.int .i64 v5)), (6, (.int .i64 v6)), (13, p), (14, (.int .i64 a3)), (15, (.int .i64 a5))] [codeC Tryz.prog 80 [1, 1, 0, 1, 0, 0], loopC Tryz.prog 80 [1, 1, 0, 1, 0, 0], .inBlock 0, codeC Tryz.prog 80 [1, 1, 1]] M := by
 intro N
 induction N with
 | zero =>
  intro v5 v6 a6 a3 a5 m g p d a4 Fr M r q e hH h
  simp [alert_roll_isSigned_1] at h
 | succ N ih =>
  intro v5 v6 a6 a3 a5 m g p d a4 Fr M r q e hH h
  rw [alert_roll_isSigned_1] at h
  refine Run.seq (Run.region ?_)
  refine og (ex_lss rfl rfl) rfl ?_
  refine Run.opsEnd (Run.seq ?_)
  rcases btf ((decide (a5 < a3))) with s | s
  ·have h := bif_t s h
   refine Run.condT' rfl s ?_
   refine Run.skip (Run.seq (Run.block (Run.seq (Run.region ?_))))
   obtain ⟨f, u, h⟩ := bnd_some h
   obtain ⟨b5, b3, _, u, a0, rfl⟩ := sl_elem (P := Tryz.prog) (t := 34) (kk := .i64) q u zbw
   refine og (ex_elX rfl rfl u) rfl <| og (ex_loadA rfl (hH.ptrF a0) rdLe_rfl zbm rfl rfl rfl) rfl <| ox rfl (ExG.new (v := fun b => .ptr b 0) (ex_alloc zch) hH) ?_
   rintro _ b6 ⟨a7, rfl, a2⟩
   refine ox rfl (ExG.storeC (c' := [(.int .i64 f.Signer), (.int .i64 f.Number)]) rfl rfl rfl a2 (i := 0) rfl zdq rfl rfl rfl rfl rfl) ?_
   rintro _ b1 ⟨rfl, (n : Has Fr b1 [.obj a7 (.row 123 .whole [(.int .i64 f.Signer), (.int .i64 f.Number)]), .obj a4 (.row 39 .whole [d, (.int .i64 g)]), tb0, tb1, tb2])⟩
   refine Run.opsEnd (Run.seq (Run.seq ?_))
   refine Run.drawG z2l <| df rfl (ex_move rfl) rfl <| df rfl (ex_add rfl rfl) rfl <| df rfl (ex_fieldAddr rfl z4g) rfl <| df rfl (ex_load1 rfl (n.cells (i := 0) rfl 0 rfl) rdLe_rfl z0c) rfl <| df rfl (ex_fieldAddr rfl zbt) rfl <| df rfl (ex_load1 rfl (n.cells (i := 1) rfl 0 rfl) rdLe_rfl zfo) rfl <| df rfl (ex_len' rfl e zeb) rfl <| df rfl (ex_sub rfl rfl) rfl ?_
   obtain ⟨a9, x, h⟩ := bnd_some h
   refine DrawG.callP rfl wantS_none (ex_call rfl za0 zaa) rfl (z06 F (w64 (v6 + (1 : Int))) f.Signer (w64 ((m.length : Int) - (1 : Int))) _ _ x) st_nil <| df rfl (ex_not rfl) rfl <| df rfl (ex_move rfl) rfl ?_
   rcases btf ((!a9)) with a | a
   ·have h := bif_t a h
    refine dn rfl rfl rfl a rfl <| dn rfl rfl rfl a rfl <| dn rfl rfl rfl a rfl <| dn rfl rfl rfl a rfl <| dn rfl rfl rfl a rfl <| dn rfl rfl rfl a rfl <| dn rfl rfl rfl a rfl <| dn rfl rfl rfl a rfl <| dn rfl rfl rfl a rfl <| DrawG.no rfl (wantS_not' rfl rfl a) rfl st_nil <| dn rfl rfl rfl a rfl <| df rfl (ex_pickT' rfl a rfl rfl) rfl <| DrawG.sync <| DrawG.nil ?_
    exact Run.pick [2, 5, 8, 13, 14, 15, 41] (z1z F (alert_roll_isSigned_1 F N) ih v5 a6 a3 a5 true m g f p d a4 a7 _ _ _ q e (n.pick [1, 0, 2, 3, 4] rfl rfl) h)
   ·have h := bif_f a h
    refine dy rfl rfl rfl a (ex_fieldAddr rfl zbt) rfl <| dy rfl rfl rfl a (ex_load1 rfl (n.cells (i := 1) rfl 0 rfl) rdLe_rfl zfo) rfl <| dy rfl rfl rfl a (ex_fieldAddr rfl z4g) rfl <| dy rfl rfl rfl a (ex_load1 rfl (n.cells (i := 0) rfl 0 rfl) rdLe_rfl z0c) rfl ?_
    obtain ⟨a8, w, h⟩ := bnd_some h
    obtain ⟨b4, b2, _, w, y, rfl⟩ := sl_elem (P := Tryz.prog) (t := 37) (kk := .i64) e w zgu
    refine dy rfl rfl rfl a (ex_elX rfl rfl w) rfl <| dy rfl rfl rfl a (ex_loadA rfl (n.ptrF y) rdLe_rfl zcg rfl rfl rfl) rfl <| dy rfl rfl rfl a (ex_move rfl) rfl <| dy rfl rfl rfl a (ex_fieldAddr rfl zaz) rfl <| dy rfl rfl rfl a (ex_load1 rfl (n.cells (i := 0) rfl 1 rfl) rdLe_rfl z0c) rfl ?_
    obtain ⟨b0, a1, h⟩ := bnd_some h
    refine DrawG.callP rfl (wantS_yes' rfl rfl a) (ex_call rfl zfh zea) rfl (z7g F a8 v5 f.Number _ _ a1) st_nil <| dy rfl rfl rfl a (ex_not rfl) rfl <| df rfl (ex_pickF' rfl a rfl rfl) rfl <| DrawG.sync <| DrawG.nil ?_
    exact Run.pick [2, 5, 8, 13, 14, 15, 41] (z1z F (alert_roll_isSigned_1 F N) ih v5 a6 a3 a5 (!b0) m g f p d a4 a7 _ _ _ q e (n.pick [1, 0, 2, 3, 4] rfl rfl) h)
  ·have h := bif_f s h
   refine Run.condF' rfl s ?_
   refine Run.exit rfl (Run.seq (Run.region ?_))
   refine av rfl rfl <| Run.opsEnd ?_
   cases h
   exact Run.ret Tryz.func80 rfl (res_tmp rfl res_nil) rfl

def alert_roll_isSigned (F : Nat) (a0 : S_alert_roll) (a1 : S_api_Notice) : Option (Bool) :=
 bnd (alert_digestOf F a1.Alert) fun a =>
 alert_roll_isSigned_1 F F a ((-1) : Int) a1.Signatures (a1.Signatures.length : Int) (0 : Int) a0.keys a0.quorum

theorem z5z (F : Nat) (a0 : S_alert_roll) (a1 : S_api_Notice) (s0 s1 s2 : SV) (r : Bool) (M : Mem) (g : Slc (rd M) 2 (FlatR z01) s0 a0.keys) (f : Slc (rd M) 1 (FlatR enc3) s1 a1.Alert.Cells) (e : Slc (rd M) 2 (FlatR enc123) s2 a1.Signatures) (hfx : FixIn M fixes) (h : alert_roll_isSigned F a0 a1 = some r) : CallsM Tryz.prog 80 [(.agg [s0, (.int .i64 a0.quorum)]), (.agg (r1 a1.Alert s1 s2))] M (fun s M' => s = (.bool r) ∧ M' = M) := by
 refine CallsM.plain Tryz.func80 rfl rfl rfl (show Run _ _ _ (z0j r) _ _ _ from ?_)
 rw [alert_roll_isSigned] at h
 replace g := g.mono (rdLe_frozen M) (fun _ _ h => h)
 replace f := f.mono (rdLe_frozen M) (fun _ _ h => h)
 replace e := e.mono (rdLe_frozen M) (fun _ _ h => h)
 have hH : Has (ro (frozen M)) (frozen M) [tb0, tb1, tb2] := Has.ofFix hfx.frozen
 refine Run.seq (Run.region ?_)
 refine ox rfl (ExG.box rfl rfl hH) ?_
 rintro _ u ⟨m, rfl, d⟩
 refine ox rfl (ExG.box rfl rfl d) ?_
 rintro _ q ⟨p, rfl, a⟩
 refine av rfl rfl ?_
 refine Run.opsEnd (Run.seq (Run.region ?_))
 refine og (ex_fieldAddr rfl z0a) rfl <| og (ex_loadA rfl (a.cells (i := 0) rfl 0 rfl) rdLe_rfl z0m rfl rfl rfl) rfl ?_
 obtain ⟨n, b, h⟩ := bnd_some h
 refine Run.callP wantS_none (ex_call rfl zdi zes) rfl (z5e F a1.Alert s1 _ _ (a.slcF f) (zal a (List.mem_of_getElem? (i := 2) rfl) (List.mem_of_getElem? (i := 3) rfl) (List.mem_of_getElem? (i := 4) rfl)) b) <| av rfl rfl <| av rfl rfl ?_
 refine Run.opsEnd (Run.seq (Run.seq (Run.region ?_)))
 refine og (ex_fieldAddr rfl z14) rfl <| og (ex_load1 rfl (a.cells (i := 0) rfl 9 rfl) rdLe_rfl z82) rfl <| og (ex_len' rfl e z9z) rfl <| mv rfl rfl ?_
 refine Run.opsEnd (Run.block (Run.loop ?_))
 exact Run.pick [2, 5, 6, 13, 14, 15] (z5a F F n ((-1) : Int) a1.Signatures (a1.Signatures.length : Int) (0 : Int) a0.keys a0.quorum s2 s0 m _ _ _ e g (a.pick [1, 2, 3, 4] rfl rfl) h)

theorem zgc : makeK Tryz.prog 80 = none := by kernel_rfl
theorem zgl : callable Tryz.prog 80 = true := by kernel_rfl
theorem zd3 : fieldOff Tryz.prog 39 1 = some 1 := by kernel_rfl
abbrev z6u (r : Int) : SV → Mem → Prop := fun s _ => s = (.int .i64 r)

def alert_roll_check (F : Nat) (a0 : S_alert_roll) (a1 : S_api_Notice) : Option (Int) :=
 bnd (alert_isAlert F a1.Alert) fun a =>
 bif (!a) then
  some (101 : Int)
 else
  bnd (alert_roll_isSigned F a0 (S_api_Notice.mk a1.Alert a1.Signatures)) fun b =>
  bif (!b) then
   some (102 : Int)
  else
   bif (decide ((a1.Signatures.length : Int) < a0.quorum)) then
    some (103 : Int)
   else
    some (0 : Int)

theorem z8d (F : Nat) (a0 : S_alert_roll) (a1 : S_api_Notice) (s0 s1 s2 : SV) (r : Int) (M : Mem) (p : Slc (rd M) 2 (FlatR z01) s0 a0.keys) (f : Slc (rd M) 1 (FlatR enc3) s1 a1.Alert.Cells) (n : Slc (rd M) 2 (FlatR enc123) s2 a1.Signatures) (hfx : FixIn M fixes) (h : alert_roll_check F a0 a1 = some r) : CallsM Tryz.prog 36 [(.agg [s0, (.int .i64 a0.quorum)]), (.agg (r1 a1.Alert s1 s2))] M (fun s M' => s = (.int .i64 r) ∧ M' = M) := by
 refine CallsM.plain Tryz.func36 rfl rfl rfl (show Run _ _ _ (z6u r) _ _ _ from ?_)
 rw [alert_roll_check] at h
 replace p := p.mono (rdLe_frozen M) (fun _ _ h => h)
 replace f := f.mono (rdLe_frozen M) (fun _ _ h => h)
 replace n := n.mono (rdLe_frozen M) (fun _ _ h => h)
 have hH : Has (ro (frozen M)) (frozen M) [tb0, tb1, tb2] := Has.ofFix hfx.frozen
 refine Run.seq (Run.region ?_)
 refine ox rfl (ExG.box rfl rfl hH) ?_
 rintro _ a2 ⟨w, rfl, m⟩
 refine ox rfl (ExG.box rfl rfl m) ?_
 rintro _ y ⟨x, rfl, a⟩
 refine av rfl rfl ?_
 refine Run.opsEnd (Run.seq (Run.block (Run.seq (Run.region ?_))))
 refine og (ex_fieldAddr rfl z0a) rfl <| og (ex_loadA rfl (a.cells (i := 0) rfl 0 rfl) rdLe_rfl z0m rfl rfl rfl) rfl ?_
 obtain ⟨u, e, h⟩ := bnd_some h
 refine Run.callP wantS_none (ex_call rfl zhn zhp) rfl (z9t F a1.Alert s1 _ _ (a.slcF f) e) <| og (ex_not rfl) rfl <| av rfl rfl <| Run.opsEnd ?_
 rcases btf ((!u)) with b | b
 ·have h := bif_t b h
  refine Run.condT' rfl b ?_
  refine Run.seq (Run.region ?_)
  refine av rfl rfl <| Run.opsEnd ?_
  cases h
  exact Run.ret Tryz.func36 rfl (res_tmp rfl res_nil) rfl
 ·have h := bif_f b h
  refine Run.condF' rfl b ?_
  refine Run.seq (Run.region ?_)
  refine og (ex_loadA rfl (a.cells (i := 1) rfl 0 rfl) rdLe_rfl zd5 rfl rfl rfl) rfl <| og (ex_loadA rfl (a.cells (i := 0) rfl 0 rfl) rdLe_rfl z4b rfl rfl rfl) rfl ?_
  obtain ⟨q, g, h⟩ := bnd_some h
  refine Run.callP wantS_none (ex_call rfl zgc zgl) rfl (z5z F a0 (S_api_Notice.mk a1.Alert a1.Signatures) s0 s1 s2 _ _ (a.slcF p) (a.slcF f) (a.slcF n) (zal a (List.mem_of_getElem? (i := 2) rfl) (List.mem_of_getElem? (i := 3) rfl) (List.mem_of_getElem? (i := 4) rfl)) g) <| og (ex_not rfl) rfl <| av rfl rfl <| Run.opsEnd ?_
  rcases btf ((!q)) with d | d
  ·have h := bif_t d h
   refine Run.condT' rfl d ?_
   refine Run.seq (Run.region ?_)
   refine av rfl rfl <| Run.opsEnd ?_
   cases h
   exact Run.ret Tryz.func36 rfl (res_tmp rfl res_nil) rfl
  ·have h := bif_f d h
   refine Run.condF' rfl d ?_
   refine Run.seq (Run.region ?_)
   refine og (ex_fieldAddr rfl z14) rfl <| og (ex_load1 rfl (a.cells (i := 0) rfl 9 rfl) rdLe_rfl z82) rfl <| og (ex_len' rfl n z9z) rfl <| og (ex_fieldAddr rfl zd3) rfl <| og (ex_load1 rfl (a.cells (i := 1) rfl 1 rfl) rdLe_rfl z0c) rfl <| og (ex_lss rfl rfl) rfl <| av rfl rfl <| Run.opsEnd ?_
   rcases btf ((decide ((a1.Signatures.length : Int) < a0.quorum))) with hc38 | hc38
   ·have h := bif_t hc38 h
    refine Run.condT' rfl hc38 ?_
    refine Run.seq (Run.region ?_)
    refine av rfl rfl <| Run.opsEnd ?_
    cases h
    exact Run.ret Tryz.func36 rfl (res_tmp rfl res_nil) rfl
   ·have h := bif_f hc38 h
    refine Run.condF' rfl hc38 ?_
    refine Run.skip (Run.inBlock (Run.seq (Run.region ?_)))
    refine av rfl rfl <| Run.opsEnd ?_
    cases h
    exact Run.ret Tryz.func36 rfl (res_tmp rfl res_nil) rfl

theorem zh8 : makeK Tryz.prog 36 = none := by kernel_rfl
theorem zhi : callable Tryz.prog 36 = true := by kernel_rfl
theorem zda : makeK Tryz.prog 38 = none := by kernel_rfl
theorem zcw : callable Tryz.prog 38 = true := by kernel_rfl
def rep33 (f : Rd) (cs : List SV) (a : S_api_Alert) : Prop := ∃ q1, cs = [(.str a.Event), (.int .i64 a.Version), (.int .i64 a.Time), (.int .i64 a.Chance.N), (.int .i64 a.Chance.Of), (.int .i64 a.Grid), q1, (.bool a.Withdrawn), (.int .i64 a.Before)] ∧ Slc f 1 (FlatR enc3) q1 a.Cells
theorem z3l {f g : Rd} (h : RdLe f g) {cs : List SV} {a : S_api_Alert} : rep33 f cs a → rep33 g cs a := by
 rintro ⟨q1, rfl, h0⟩
 exact ⟨q1, rfl, h0.mono h (fun _ _ h => h)⟩
theorem zap {f : Rd} {cs : List SV} {a : S_api_Alert} : rep33 f cs a → ones cs = true := by
 rintro ⟨_, rfl, h0⟩
 exact (ones_cons rfl (ones_cons rfl (ones_cons rfl (ones_cons rfl (ones_cons rfl (ones_cons rfl (ones_cons (slc_one h0) (ones_cons rfl (ones_cons rfl ones_nil)))))))))
theorem z8c : fieldOff Tryz.prog 41 1 = some 2 := by kernel_rfl
theorem z8r : aggSize Tryz.prog 25 = some none := by kernel_rfl
theorem zgq : makeK Tryz.prog 82 = none := by kernel_rfl
theorem zh0 : callable Tryz.prog 82 = true := by kernel_rfl
theorem zf5 : eqK Tryz.prog 31 = some .slice := by kernel_rfl
abbrev z9h (r : List Int) : SV → Mem → Prop := fun s Me => ∃ q1, s = q1 ∧ Has (fun _ => none) Me [.vec 3 1 r.length q1 (r.flatMap enc3)]

def slices_Clone (F : Nat) (a0 : List Int) : Option ((List Int)) :=
 bnd (apd 8 ([] : List Int) a0) fun a =>
 some a

theorem zag (F : Nat) (a0 : List Int) (s0 : SV) (r : List Int) (M : Mem) (f : Slc (rd M) 1 (FlatR enc3) s0 a0) (h : slices_Clone F a0 = some r) : CallsM Tryz.prog 135 [s0] M (fun s M' => ∃ q1, s = q1 ∧ New M M' [.vec 3 1 r.length q1 (r.flatMap enc3)]) := by
 refine CallsM.fresh (Q := z9h r) Tryz.func135 rfl rfl ?_ (by rintro s Me ⟨q1, rfl, hx⟩ ha hw; exact ⟨_, rfl, New.of rfl hx ha hw⟩)
 rw [slices_Clone] at h
 replace f := f.mono (rdLe_frozen M) (fun _ _ h => h)
 have hH := Has.nil (frozen M)
 refine Run.seq (Run.region ?_)
 refine av rfl rfl ?_
 refine Run.opsEnd (Run.seq (Run.seq (Run.region ?_)))
 refine mv rfl rfl ?_
 rcases slc_or f with ⟨rfl, rfl⟩ | e
 ·have h : (
   some ([] : List Int)
   ) = some r := h
  refine og (ex_nilT rfl rfl zf5) rfl <| Run.opsEnd <| Run.condT' rfl rfl ?_
  refine Run.seq (Run.region ?_)
  refine av rfl rfl <| Run.opsEnd ?_
  have d : Has (ro (frozen M)) (frozen M) [.vec 3 1 ([] : List Int).length .nils (([] : List Int).flatMap enc3)] := hH.nils 3 1
  cases h
  exact Run.ret Tryz.func135 rfl (res_tmp rfl res_nil) ⟨_, rfl, (d.pick [0] rfl rfl).upF (none_le _)⟩
 ·refine og (ex_nilF rfl e rfl zf5) rfl <| Run.opsEnd <| Run.condF' rfl rfl ?_
  refine Run.skip (Run.seq (Run.region ?_))
  refine ox rfl (ExG.built (enc := enc3) (l := ([] : List Int)) (z := 1) rfl zbo rfl rfl rfl z0i hH) ?_
  rintro n p (a : Has (ro (frozen M)) p [.vec 3 1 ([] : List Int).length n (([] : List Int).flatMap enc3)])
  refine mv rfl rfl ?_
  obtain ⟨m, b, h⟩ := bnd_some h
  refine ox rfl (ExG.append rfl rfl a (i := 0) rfl z0i rfl zb5 zb8 rfl (len_slc f) (first_slc f (rdLe_roF a) z0i) b) ?_
  rintro u q (g : Has (ro (frozen M)) q [.vec 3 1 m.length u (m.flatMap enc3)])
  refine av rfl rfl <| Run.opsEnd ?_
  cases h
  exact Run.ret Tryz.func135 rfl (res_tmp rfl res_nil) ⟨_, rfl, (g.pick [0] rfl rfl).upF (none_le _)⟩

theorem zdu : makeK Tryz.prog 135 = none := by kernel_rfl
theorem zdo : callable Tryz.prog 135 = true := by kernel_rfl
abbrev z6j (r : S_api_Alert) : SV → Mem → Prop := fun s Me => ∃ q1, s = (.agg (r0 r q1)) ∧ Has (fun _ => none) Me [.vec 3 1 r.Cells.length q1 (r.Cells.flatMap enc3)]

def alert_copyOfAlert (F : Nat) (a0 : S_api_Alert) : Option (S_api_Alert) :=
 bnd (slices_Clone F a0.Cells) fun a =>
 some (S_api_Alert.mk a0.Event a0.Version a0.Time a0.Chance a0.Grid a a0.Withdrawn a0.Before)

theorem z3h (F : Nat) (a0 : S_api_Alert) (s0 : SV) (r : S_api_Alert) (M : Mem) (u : Slc (rd M) 1 (FlatR enc3) s0 a0.Cells) (h : alert_copyOfAlert F a0 = some r) : CallsM Tryz.prog 83 [(.agg (r0 a0 s0))] M (fun s M' => ∃ q1, s = (.agg (r0 r q1)) ∧ New M M' [.vec 3 1 r.Cells.length q1 (r.Cells.flatMap enc3)]) := by
 refine CallsM.fresh (Q := z6j r) Tryz.func83 rfl rfl ?_ (by rintro s Me ⟨q1, rfl, hx⟩ ha hw; exact ⟨_, rfl, New.of rfl hx ha hw⟩)
 rw [alert_copyOfAlert] at h
 replace u := u.mono (rdLe_frozen M) (fun _ _ h => h)
 have hH := Has.nil (frozen M)
 refine Run.seq (Run.region ?_)
 refine ox rfl (ExG.box rfl rfl hH) ?_
 rintro _ a4 ⟨x, rfl, n⟩
 refine ox rfl (ExG.new (v := fun b => .ptr b 0) (ex_alloc z3v) n) ?_
 rintro _ a3 ⟨w, rfl, d⟩
 refine Run.opsEnd (Run.seq (Run.region ?_))
 refine og (ex_fieldAddr rfl z16) rfl <| og (ex_load1 rfl (d.cells (i := 1) rfl 6 rfl) rdLe_rfl z7y) rfl ?_
 obtain ⟨f, q, h⟩ := bnd_some h
 refine Run.callX wantS_none (ex_call rfl zdu zdo) rfl (zag F a0.Cells s0 _ _ (d.slcF u) q) ?_
 rintro a a2 ⟨_, rfl, p⟩
 have g : Has (ro (frozen M)) a2 [.vec 3 1 f.length a (f.flatMap enc3), .obj w (.row 33 .whole (k0 [] 0 0 0 0 0 .nils false 0)), .obj x (.row 33 .whole (r0 a0 s0))] := p.1 _ _ d
 refine og (ex_fieldAddr rfl z16) rfl <| ox rfl (ExG.storeC (c' := (r0 a0 a)) rfl rfl (cells_one (vec_one g (i := 0) rfl)) g (i := 2) rfl zhl rfl rfl rfl (ones_cons (vec_one g (i := 0) rfl) ones_nil) rfl) ?_
 rintro _ y ⟨rfl, (e : Has (ro (frozen M)) y [.vec 3 1 f.length a (f.flatMap enc3), .obj w (.row 33 .whole (k0 [] 0 0 0 0 0 .nils false 0)), .obj x (.row 33 .whole (r0 a0 a))])⟩
 refine Run.opsEnd (Run.seq (Run.region ?_))
 refine og (ex_loadA rfl (e.cells (i := 2) rfl 0 rfl) rdLe_rfl z0m rfl rfl rfl) rfl <| ox rfl (ExG.storeC (c' := (r0 a0 a)) rfl rfl rfl e (i := 1) rfl z9x rfl rfl rfl (ones_cons rfl (ones_cons rfl (ones_cons rfl (ones_cons rfl (ones_cons rfl (ones_cons rfl (ones_cons (vec_one e (i := 0) rfl) (ones_cons rfl (ones_cons rfl ones_nil))))))))) rfl) ?_
 rintro _ a1 ⟨rfl, (m : Has (ro (frozen M)) a1 [.vec 3 1 f.length a (f.flatMap enc3), .obj w (.row 33 .whole (r0 a0 a)), .obj x (.row 33 .whole (r0 a0 a))])⟩
 refine Run.opsEnd ?_
 cases h
 exact Run.ret Tryz.func83 rfl (res_cell rfl (x_load (ex_loadA rfl (m.cells (i := 1) rfl 0 rfl) rdLe_rfl z0m rfl rfl rfl)) res_nil) ⟨_, rfl, (m.pick [0] rfl rfl).upF (none_le _)⟩

theorem zf0 : makeK Tryz.prog 83 = none := by kernel_rfl
theorem zdx : callable Tryz.prog 83 = true := by kernel_rfl
theorem zeu : sliceElt Tryz.prog 43 = some (⟨9, 96, (k0 [] 0 0 0 0 0 .nils false 0), 33⟩ : Elt) := by kernel_rfl
theorem zb4 : appT Tryz.prog 43 43 = some (⟨9, 96, (k0 [] 0 0 0 0 0 .nils false 0), 33⟩ : Elt) := by kernel_rfl
theorem zc9 : elems Tryz.prog 43 = some (.sl 9) := by kernel_rfl
abbrev z3g (r : Int) : SV → Mem → Prop := fun s _ => s = (.int .i64 r)

def alert_checkNext_1 (F : Nat) (v6 : Int) (a0 : List UInt8) (b e s u p : Int) (w : List Int) (y : Bool) (m : Int) (x : List UInt8) (g d a3 n a1 : Int) (a2 : List Int) (a : Bool) (q : Int) : Option (Int) :=
 bif a then
  some (107 : Int)
 else
  bif (!(b == (w64 (g + (1 : Int))))) then
   some (105 : Int)
  else
   bif (!(m == v6)) then
    some (106 : Int)
   else
    bif (decide (e < d)) then
     some (108 : Int)
    else
     some (0 : Int)

theorem z3d (F : Nat) : ∀ (v6 : Int) (a7 : List UInt8) (d b y a0 x : Int) (a1 : List Int) (a6 : Bool) (m : Int) (a2 : List UInt8) (g e a4 w a3 : Int) (a8 : List Int) (a : Bool) (a5 : Int) (q n : SV) (f b1 : Pos) (Fr : Rd) (M : Mem) (r : Int) (a9 : Slc Fr 1 (FlatR enc3) q a1) (b0 : Slc Fr 1 (FlatR enc3) n a8) (hH : Has Fr M [.obj f (.row 33 .whole (k0 a7 d b y a0 x q a6 m)), .obj b1 (.row 33 .whole (k0 a2 g e a4 w a3 n a a5)), tb0, tb1, tb2]), alert_checkNext_1 F v6 a7 d b y a0 x a1 a6 m a2 g e a4 w a3 a8 a a5 = some r → Run Tryz.prog ⟨⟨37, [], none⟩, []⟩ 39 (z3g r) [(3, (.ptr f 0)), (5, (.ptr b1 0)), (6, (.int .i64 v6))] [itemC Tryz.prog 37 [1, 1, 1, 1, 0, 0, 0] 0, codeC Tryz.prog 37 [1, 1, 1, 1, 0, 0, 1], .inBlock 0, codeC Tryz.prog 37 [1, 1, 1, 1, 1]] M := by
 intro v6 a7 d b y a0 x a1 a6 m a2 g e a4 w a3 a8 a a5 q n f b1 Fr M r a9 b0 hH h
 rw [alert_checkNext_1] at h
 refine og (ex_fieldAddr rfl z5n) rfl <| og (ex_load1 rfl (hH.cells (i := 1) rfl 7 rfl) rdLe_rfl zc0) rfl <| av rfl rfl <| Run.opsEnd ?_
 rcases btf (a) with u | u
 ·have h := bif_t u h
  refine Run.condT' rfl u ?_
  refine Run.seq (Run.region ?_)
  refine av rfl rfl <| Run.opsEnd ?_
  cases h
  exact Run.ret Tryz.func37 rfl (res_tmp rfl res_nil) rfl
 ·have h := bif_f u h
  refine Run.condF' rfl u ?_
  refine Run.seq (Run.region ?_)
  refine og (ex_fieldAddr rfl z3r) rfl <| og (ex_load1 rfl (hH.cells (i := 0) rfl 1 rfl) rdLe_rfl z0c) rfl <| og (ex_fieldAddr rfl z3r) rfl <| og (ex_load1 rfl (hH.cells (i := 1) rfl 1 rfl) rdLe_rfl z0c) rfl <| og (ex_add rfl rfl) rfl <| og (ex_neq rfl rfl) rfl <| av rfl rfl <| Run.opsEnd ?_
  rcases btf ((!(d == (w64 (g + (1 : Int)))))) with hc38 | hc38
  ·have h := bif_t hc38 h
   refine Run.condT' rfl hc38 ?_
   refine Run.seq (Run.region ?_)
   refine av rfl rfl <| Run.opsEnd ?_
   cases h
   exact Run.ret Tryz.func37 rfl (res_tmp rfl res_nil) rfl
  ·have h := bif_f hc38 h
   refine Run.condF' rfl hc38 ?_
   refine Run.seq (Run.region ?_)
   refine og (ex_fieldAddr rfl z5k) rfl <| og (ex_load1 rfl (hH.cells (i := 0) rfl 8 rfl) rdLe_rfl z0c) rfl <| mv rfl rfl <| og (ex_neq rfl rfl) rfl <| av rfl rfl <| Run.opsEnd ?_
   rcases btf ((!(m == v6))) with p | p
   ·have h := bif_t p h
    refine Run.condT' rfl p ?_
    refine Run.seq (Run.region ?_)
    refine av rfl rfl <| Run.opsEnd ?_
    cases h
    exact Run.ret Tryz.func37 rfl (res_tmp rfl res_nil) rfl
   ·have h := bif_f p h
    refine Run.condF' rfl p ?_
    refine Run.seq (Run.region ?_)
    refine og (ex_fieldAddr rfl z4q) rfl <| og (ex_load1 rfl (hH.cells (i := 0) rfl 2 rfl) rdLe_rfl z0c) rfl <| og (ex_fieldAddr rfl z4q) rfl <| og (ex_load1 rfl (hH.cells (i := 1) rfl 2 rfl) rdLe_rfl z0c) rfl <| og (ex_lss rfl rfl) rfl <| av rfl rfl <| Run.opsEnd ?_
    rcases btf ((decide (b < e))) with s | s
    ·have h := bif_t s h
     refine Run.condT' rfl s ?_
     refine Run.seq (Run.region ?_)
     refine av rfl rfl <| Run.opsEnd ?_
     cases h
     exact Run.ret Tryz.func37 rfl (res_tmp rfl res_nil) rfl
    ·have h := bif_f s h
     refine Run.condF' rfl s ?_
     refine Run.skip (Run.inBlock (Run.seq (Run.region ?_)))
     refine av rfl rfl <| Run.opsEnd ?_
     cases h
     exact Run.ret Tryz.func37 rfl (res_tmp rfl res_nil) rfl

def alert_checkNext (F : Nat) (a0 : List S_api_Alert) (a1 : S_api_Alert) : Option (Int) :=
 bif (decide ((0 : Int) < (a0.length : Int))) then
  bnd (idx a0 (w64 ((a0.length : Int) - (1 : Int)))) fun a =>
  bnd (alert_digestOf F a) fun b =>
  alert_checkNext_1 F b a1.Event a1.Version a1.Time a1.Chance.N a1.Chance.Of a1.Grid a1.Cells a1.Withdrawn a1.Before a.Event a.Version a.Time a.Chance.N a.Chance.Of a.Grid a.Cells a.Withdrawn a.Before
 else
  alert_checkNext_1 F (0 : Int) a1.Event a1.Version a1.Time a1.Chance.N a1.Chance.Of a1.Grid a1.Cells a1.Withdrawn a1.Before [] (0 : Int) (0 : Int) (0 : Int) (0 : Int) (0 : Int) [] false (0 : Int)

theorem z8f (F : Nat) (a0 : List S_api_Alert) (a1 : S_api_Alert) (s0 s1 : SV) (r : Int) (M : Mem) (u : Slc (rd M) 9 (rep33 (rd M)) s0 a0) (w : Slc (rd M) 1 (FlatR enc3) s1 a1.Cells) (hfx : FixIn M fixes) (h : alert_checkNext F a0 a1 = some r) : CallsM Tryz.prog 37 [s0, (.agg (r0 a1 s1))] M (fun s M' => s = (.int .i64 r) ∧ M' = M) := by
 refine CallsM.plain Tryz.func37 rfl rfl rfl (show Run _ _ _ (z3g r) _ _ _ from ?_)
 rw [alert_checkNext] at h
 replace u := u.mono (rdLe_frozen M) (fun _ _ => z3l (rdLe_frozen M))
 replace w := w.mono (rdLe_frozen M) (fun _ _ h => h)
 have hH : Has (ro (frozen M)) (frozen M) [tb0, tb1, tb2] := Has.ofFix hfx.frozen
 refine Run.seq (Run.region ?_)
 refine ox rfl (ExG.box rfl rfl hH) ?_
 rintro _ a7 ⟨x, rfl, q⟩
 refine av rfl rfl ?_
 refine Run.opsEnd (Run.seq (Run.region ?_))
 refine ox rfl (ExG.new (v := fun b => .ptr b 0) (ex_alloc z3v) q) ?_
 rintro _ a6 ⟨y, rfl, g⟩
 refine Run.opsEnd (Run.seq (Run.region ?_))
 refine av rfl rfl ?_
 refine Run.opsEnd (Run.seq (Run.seq (Run.region ?_)))
 refine mv rfl rfl <| og (ex_len' rfl u z9n) rfl <| og (ex_gtr rfl rfl) rfl <| Run.opsEnd ?_
 rcases btf ((decide ((0 : Int) < (a0.length : Int)))) with hc30 | hc30
 ·have h := bif_t hc30 h
  refine Run.condT' rfl hc30 ?_
  refine Run.seq (Run.region ?_)
  refine mv rfl rfl <| mv rfl rfl <| og (ex_len' rfl u z9n) rfl <| og (ex_sub rfl rfl) rfl ?_
  obtain ⟨f, m, h⟩ := bnd_some h
  obtain ⟨a4, a5, _, m, n, ⟨a, rfl, d⟩⟩ := sl_elem (P := Tryz.prog) (t := 43) (kk := .i64) u m zc9
  refine og (ex_elX rfl rfl m) rfl <| og (ex_loadA rfl (g.ptrF n) rdLe_rfl z0m rfl rfl rfl) rfl <| ox rfl (ExG.storeC (c' := (r0 f a)) rfl rfl rfl g (i := 0) rfl z9x rfl rfl rfl (ones_cons rfl (ones_cons rfl (ones_cons rfl (ones_cons rfl (ones_cons rfl (ones_cons rfl (ones_cons (slc_one d) (ones_cons rfl (ones_cons rfl ones_nil))))))))) rfl) ?_
  rintro _ a3 ⟨rfl, (e : Has (ro (frozen M)) a3 [.obj y (.row 33 .whole (r0 f a)), .obj x (.row 33 .whole (r0 a1 s1)), tb0, tb1, tb2])⟩
  refine Run.opsEnd (Run.region ?_)
  refine og (ex_loadA rfl (e.cells (i := 0) rfl 0 rfl) rdLe_rfl z0m rfl rfl rfl) rfl ?_
  obtain ⟨a2, p, h⟩ := bnd_some h
  refine Run.callP wantS_none (ex_call rfl zdi zes) rfl (z5e F f a _ _ (e.slcF d) (zal e (List.mem_of_getElem? (i := 2) rfl) (List.mem_of_getElem? (i := 3) rfl) (List.mem_of_getElem? (i := 4) rfl)) p) <| av rfl rfl ?_
  refine Run.opsEnd (Run.seq (Run.block (Run.seq (Run.region ?_))))
  exact Run.pick [3, 5, 6] (z3d F a2 a1.Event a1.Version a1.Time a1.Chance.N a1.Chance.Of a1.Grid a1.Cells a1.Withdrawn a1.Before f.Event f.Version f.Time f.Chance.N f.Chance.Of f.Grid f.Cells f.Withdrawn f.Before s1 a x y _ _ _ w d (e.pick [1, 0, 2, 3, 4] rfl rfl) h)
 ·have h := bif_f hc30 h
  refine Run.condF' rfl hc30 ?_
  refine Run.skip (Run.seq (Run.block (Run.seq (Run.region ?_))))
  exact Run.pick [3, 5, 6] (z3d F (0 : Int) a1.Event a1.Version a1.Time a1.Chance.N a1.Chance.Of a1.Grid a1.Cells a1.Withdrawn a1.Before [] (0 : Int) (0 : Int) (0 : Int) (0 : Int) (0 : Int) [] false (0 : Int) s1 .nils x y _ _ _ w slc_nil (g.pick [1, 0, 2, 3, 4] rfl rfl) h)

theorem zgp : makeK Tryz.prog 37 = none := by kernel_rfl
theorem zhd : callable Tryz.prog 37 = true := by kernel_rfl
theorem zek : makeK Tryz.prog 39 = none := by kernel_rfl
theorem zf7 : callable Tryz.prog 39 = true := by kernel_rfl
theorem zfz : eqK Tryz.prog 34 = some .slice := by kernel_rfl
theorem zhf : sliceElt Tryz.prog 34 = some (⟨2, 16, [(.int .i64 0), (.int .i64 0)], 123⟩ : Elt) := by kernel_rfl
abbrev z7n (r : List S_api_Signature) : SV → Mem → Prop := fun s Me => ∃ q1, s = q1 ∧ Has (fun _ => none) Me [.vec 123 2 r.length q1 (r.flatMap enc123)]

def slices_Clone_84 (F : Nat) (a0 : List S_api_Signature) : Option ((List S_api_Signature)) :=
 bnd (apd 16 ([] : List S_api_Signature) a0) fun a =>
 some a

theorem z8j (F : Nat) (a0 : List S_api_Signature) (s0 : SV) (r : List S_api_Signature) (M : Mem) (f : Slc (rd M) 2 (FlatR enc123) s0 a0) (h : slices_Clone_84 F a0 = some r) : CallsM Tryz.prog 84 [s0] M (fun s M' => ∃ q1, s = q1 ∧ New M M' [.vec 123 2 r.length q1 (r.flatMap enc123)]) := by
 refine CallsM.fresh (Q := z7n r) Tryz.func84 rfl rfl ?_ (by rintro s Me ⟨q1, rfl, hx⟩ ha hw; exact ⟨_, rfl, New.of rfl hx ha hw⟩)
 rw [slices_Clone_84] at h
 replace f := f.mono (rdLe_frozen M) (fun _ _ h => h)
 have hH := Has.nil (frozen M)
 refine Run.seq (Run.region ?_)
 refine av rfl rfl ?_
 refine Run.opsEnd (Run.seq (Run.seq (Run.region ?_)))
 refine mv rfl rfl ?_
 rcases slc_or f with ⟨rfl, rfl⟩ | e
 ·have h : (
   some ([] : List S_api_Signature)
   ) = some r := h
  refine og (ex_nilT rfl rfl zfz) rfl <| Run.opsEnd <| Run.condT' rfl rfl ?_
  refine Run.seq (Run.region ?_)
  refine av rfl rfl <| Run.opsEnd ?_
  have d : Has (ro (frozen M)) (frozen M) [.vec 123 2 ([] : List S_api_Signature).length .nils (([] : List S_api_Signature).flatMap enc123)] := hH.nils 123 2
  cases h
  exact Run.ret Tryz.func84 rfl (res_tmp rfl res_nil) ⟨_, rfl, (d.pick [0] rfl rfl).upF (none_le _)⟩
 ·refine og (ex_nilF rfl e rfl zfz) rfl <| Run.opsEnd <| Run.condF' rfl rfl ?_
  refine Run.skip (Run.seq (Run.region ?_))
  refine ox rfl (ExG.built (enc := enc123) (l := ([] : List S_api_Signature)) (z := 2) rfl zhf rfl rfl rfl z12 hH) ?_
  rintro n p (a : Has (ro (frozen M)) p [.vec 123 2 ([] : List S_api_Signature).length n (([] : List S_api_Signature).flatMap enc123)])
  refine mv rfl rfl ?_
  obtain ⟨m, b, h⟩ := bnd_some h
  refine ox rfl (ExG.append rfl rfl a (i := 0) rfl z12 rfl z7x zaj rfl (len_slc f) (first_slc f (rdLe_roF a) z12) b) ?_
  rintro u q (g : Has (ro (frozen M)) q [.vec 123 2 m.length u (m.flatMap enc123)])
  refine av rfl rfl <| Run.opsEnd ?_
  cases h
  exact Run.ret Tryz.func84 rfl (res_tmp rfl res_nil) ⟨_, rfl, (g.pick [0] rfl rfl).upF (none_le _)⟩

theorem zhq : makeK Tryz.prog 84 = none := by kernel_rfl
theorem zgy : callable Tryz.prog 84 = true := by kernel_rfl
theorem zbr : planOf Tryz.prog (opsC (atC Tryz.prog 39 [1, 0])) = some [.fl 0, .fl 1, .fl 3, .fl 4, .an 2 [4, 3], .fl 6, .an 5 [6], .an 7 [], .fl 8, .an 9 [], .sync] := by kernel_rfl
theorem zbv : sliceElt Tryz.prog 25 = some (⟨10, 120, (k1 [] 0 0 0 0 0 .nils false 0 .nils), 36⟩ : Elt) := by kernel_rfl
theorem z73 : appT Tryz.prog 25 25 = some (⟨10, 120, (k1 [] 0 0 0 0 0 .nils false 0 .nils), 36⟩ : Elt) := by kernel_rfl
theorem zhs : szOf Tryz.prog 25 = some 1 := by kernel_rfl
theorem z94 : planOf Tryz.prog (opsC (atC Tryz.prog 7 [1, 1, 1, 1, 1, 0])) = some [.fl 0, .fl 1, .fl 2, .fl 3, .fl 4, .fl 5, .an 6 [4, 3, 2, 1, 0], .an 7 [4, 3, 2, 1, 0], .an 8 [0], .fl 9, .fl 10, .an 11 [], .sync] := by kernel_rfl
theorem za4 : planOf Tryz.prog (opsC (atC Tryz.prog 7 [1, 1, 1, 0, 0])) = some [.fl 0, .fl 1, .fl 2, .fl 3, .fl 5, .fl 6, .an 4 [6, 5], .an 7 [], .fl 8, .sync] := by kernel_rfl
theorem zav : planOf Tryz.prog (opsC (atC Tryz.prog 7 [1, 1, 0, 0])) = some [.fl 0, .fl 1, .fl 2, .fl 3, .fl 4, .an 5 [], .fl 6, .sync] := by kernel_rfl
theorem zgr : makeK Tryz.prog 16 = none := by kernel_rfl
theorem zhj : callable Tryz.prog 16 = true := by kernel_rfl
theorem zcv : fieldOff Tryz.prog 58 0 = some 0 := by kernel_rfl
theorem zg4 : whole Tryz.prog 9 = some .str := by kernel_rfl
abbrev z03 (r : Bool) : SV → Mem → Prop := fun s _ => s = (.bool r)

def ref01_IsName_8 (F : Nat) (b : (List UInt8) → Int → Option (Bool)) (v0 : List UInt8) (v3 : Int) (a : Bool) : Option (Bool) :=
 bif a then
  some false
 else
  b v0 (w64 (v3 + (1 : Int)))

theorem z5b (F : Nat) (e : (List UInt8) → Int → Option (Bool)) (b : ∀ (v0 : List UInt8) (v3 : Int) (Fr : Rd) (M : Mem) (r : Bool) (hH : Has Fr M []), e v0 v3 = some r → Run Tryz.prog ⟨⟨158, [], none⟩, []⟩ 50 (z03 r) [(0, (.str v0)), (3, (.int .i64 v3))] [codeC Tryz.prog 158 [1, 1, 0, 1, 0, 0], loopC Tryz.prog 158 [1, 1, 0, 1, 0, 0], .inBlock 0, codeC Tryz.prog 158 [1, 1, 1]] M) : ∀ (v0 : List UInt8) (v3 : Int) (d : Bool) (Fr : Rd) (M : Mem) (r : Bool) (hH : Has Fr M []), ref01_IsName_8 F e v0 v3 d = some r → Run Tryz.prog ⟨⟨158, [], none⟩, []⟩ 50 (z03 r) [(0, (.str v0)), (3, (.int .i64 v3)), (49, (.bool d))] [codeC Tryz.prog 158 [1, 1, 0, 1, 0, 0, 1, 0, 0, 1, 1], .inBlock 1, codeC Tryz.prog 158 [1, 1, 0, 1, 0, 0, 1, 1], loopC Tryz.prog 158 [1, 1, 0, 1, 0, 0], .inBlock 0, codeC Tryz.prog 158 [1, 1, 1]] M := by
 intro v0 v3 d Fr M r hH h
 rw [ref01_IsName_8] at h
 rcases btf (d) with a | a
 ·have h := bif_t a h
  refine Run.condT' rfl a ?_
  refine Run.seq (Run.region ?_)
  refine av rfl rfl <| Run.opsEnd ?_
  cases h
  exact Run.ret Tryz.func158 rfl (res_tmp rfl res_nil) rfl
 ·have h := bif_f a h
  refine Run.condF' rfl a ?_
  refine Run.skip (Run.inBlock (Run.region ?_))
  refine mv rfl rfl <| og (ex_add rfl rfl) rfl <| av rfl rfl ?_
  refine Run.opsEnd (Run.inLoop ?_)
  exact Run.pick [0, 3] (b v0 (w64 (v3 + (1 : Int))) _ _ _ hH h)

def ref01_IsName_7 (F : Nat) (a : (List UInt8) → Int → Option (Bool)) (v0 : List UInt8) (v3 v4 : Int) (b : Bool) : Option (Bool) :=
 bif b then
  ref01_IsName_8 F a v0 v3 (!(v4 == (95 : Int)))
 else
  ref01_IsName_8 F a v0 v3 false

theorem z56 (F : Nat) (e : (List UInt8) → Int → Option (Bool)) (b : ∀ (v0 : List UInt8) (v3 : Int) (Fr : Rd) (M : Mem) (r : Bool) (hH : Has Fr M []), e v0 v3 = some r → Run Tryz.prog ⟨⟨158, [], none⟩, []⟩ 50 (z03 r) [(0, (.str v0)), (3, (.int .i64 v3))] [codeC Tryz.prog 158 [1, 1, 0, 1, 0, 0], loopC Tryz.prog 158 [1, 1, 0, 1, 0, 0], .inBlock 0, codeC Tryz.prog 158 [1, 1, 1]] M) : ∀ (v0 : List UInt8) (v3 v4 : Int) (d : Bool) (Fr : Rd) (M : Mem) (r : Bool) (hH : Has Fr M []), ref01_IsName_7 F e v0 v3 v4 d = some r → Run Tryz.prog ⟨⟨158, [], none⟩, []⟩ 50 (z03 r) [(0, (.str v0)), (3, (.int .i64 v3)), (4, (.int .u8 v4)), (45, (.bool d))] [itemC Tryz.prog 158 [1, 1, 0, 1, 0, 0, 1, 0, 0, 1, 0] 14, codeC Tryz.prog 158 [1, 1, 0, 1, 0, 0, 1, 0, 0, 1, 1], .inBlock 1, codeC Tryz.prog 158 [1, 1, 0, 1, 0, 0, 1, 1], loopC Tryz.prog 158 [1, 1, 0, 1, 0, 0], .inBlock 0, codeC Tryz.prog 158 [1, 1, 1]] M := by
 intro v0 v3 v4 d Fr M r hH h
 rw [ref01_IsName_7] at h
 refine mv rfl rfl ?_
 rcases btf (d) with a | a
 ·have h := bif_t a h
  refine gy rfl rfl a (ex_move rfl) rfl <| gy rfl rfl a (ex_neq rfl rfl) rfl <| og (ex_pickT' rfl a rfl rfl) rfl <| Run.opsEnd ?_
  exact Run.pick [0, 3, 49] (z5b F e b v0 v3 (!(v4 == (95 : Int))) _ _ _ hH h)
 ·have h := bif_f a h
  refine gn rfl rfl a rfl <| gn rfl rfl a rfl <| og (ex_pickF' rfl a rfl rfl) rfl <| Run.opsEnd ?_
  exact Run.pick [0, 3, 49] (z5b F e b v0 v3 false _ _ _ hH h)

def ref01_IsName_6 (F : Nat) (b : (List UInt8) → Int → Option (Bool)) (v0 : List UInt8) (v3 v4 : Int) (a d : Bool) : Option (Bool) :=
 ref01_IsName_7 F b v0 v3 v4 (bif a then d else false)

theorem z4y (F : Nat) (e : (List UInt8) → Int → Option (Bool)) (a : ∀ (v0 : List UInt8) (v3 : Int) (Fr : Rd) (M : Mem) (r : Bool) (hH : Has Fr M []), e v0 v3 = some r → Run Tryz.prog ⟨⟨158, [], none⟩, []⟩ 50 (z03 r) [(0, (.str v0)), (3, (.int .i64 v3))] [codeC Tryz.prog 158 [1, 1, 0, 1, 0, 0], loopC Tryz.prog 158 [1, 1, 0, 1, 0, 0], .inBlock 0, codeC Tryz.prog 158 [1, 1, 1]] M) : ∀ (v0 : List UInt8) (v3 v4 : Int) (b d : Bool) (Fr : Rd) (M : Mem) (r : Bool) (hH : Has Fr M []), ref01_IsName_6 F e v0 v3 v4 b d = some r → Run Tryz.prog ⟨⟨158, [], none⟩, []⟩ 50 (z03 r) [(0, (.str v0)), (3, (.int .i64 v3)), (4, (.int .u8 v4)), (38, (.bool b)), (44, (.bool d))] [itemC Tryz.prog 158 [1, 1, 0, 1, 0, 0, 1, 0, 0, 1, 0] 13, codeC Tryz.prog 158 [1, 1, 0, 1, 0, 0, 1, 0, 0, 1, 1], .inBlock 1, codeC Tryz.prog 158 [1, 1, 0, 1, 0, 0, 1, 1], loopC Tryz.prog 158 [1, 1, 0, 1, 0, 0], .inBlock 0, codeC Tryz.prog 158 [1, 1, 1]] M := by
 intro v0 v3 v4 b d Fr M r hH h
 rw [ref01_IsName_6] at h
 refine og (ex_pickB rfl rfl rfl) rfl ?_
 exact Run.pick [0, 3, 4, 45] (z56 F e a v0 v3 v4 (bif b then d else false) _ _ _ hH h)

def ref01_IsName_9 (F : Nat) (b : (List UInt8) → Int → Option (Bool)) (v0 : List UInt8) (v3 v4 : Int) (a : Bool) : Option (Bool) :=
 bif a then
  none
 else
  ref01_IsName_7 F b v0 v3 v4 false

theorem z90 (F : Nat) (e : (List UInt8) → Int → Option (Bool)) (b : ∀ (v0 : List UInt8) (v3 : Int) (Fr : Rd) (M : Mem) (r : Bool) (hH : Has Fr M []), e v0 v3 = some r → Run Tryz.prog ⟨⟨158, [], none⟩, []⟩ 50 (z03 r) [(0, (.str v0)), (3, (.int .i64 v3))] [codeC Tryz.prog 158 [1, 1, 0, 1, 0, 0], loopC Tryz.prog 158 [1, 1, 0, 1, 0, 0], .inBlock 0, codeC Tryz.prog 158 [1, 1, 1]] M) : ∀ (v0 : List UInt8) (v3 v4 : Int) (d : Bool) (Fr : Rd) (M : Mem) (r : Bool) (hH : Has Fr M []), ref01_IsName_9 F e v0 v3 v4 d = some r → Run Tryz.prog ⟨⟨158, [], none⟩, []⟩ 50 (z03 r) [(0, (.str v0)), (3, (.int .i64 v3)), (4, (.int .u8 v4)), (38, (.bool d)), (44, (.tuple []))] [itemC Tryz.prog 158 [1, 1, 0, 1, 0, 0, 1, 0, 0, 1, 0] 13, codeC Tryz.prog 158 [1, 1, 0, 1, 0, 0, 1, 0, 0, 1, 1], .inBlock 1, codeC Tryz.prog 158 [1, 1, 0, 1, 0, 0, 1, 1], loopC Tryz.prog 158 [1, 1, 0, 1, 0, 0], .inBlock 0, codeC Tryz.prog 158 [1, 1, 1]] M := by
 intro v0 v3 v4 d Fr M r hH h
 rw [ref01_IsName_9] at h
 rcases btf (d) with a | a
 ·have h := bif_t a h
  cases h
 ·have h := bif_f a h
  refine og (ex_pickF' rfl a rfl rfl) rfl ?_
  exact Run.pick [0, 3, 4, 45] (z56 F e b v0 v3 v4 false _ _ _ hH h)

def ref01_IsName_5 (F : Nat) (b : (List UInt8) → Int → Option (Bool)) (v0 : List UInt8) (v3 v4 : Int) (a : Bool) : Option (Bool) :=
 bif a then
  bif (decide (v4 < (48 : Int))) then
   ref01_IsName_6 F b v0 v3 v4 a true
  else
   ref01_IsName_6 F b v0 v3 v4 a (decide ((57 : Int) < v4))
 else
  ref01_IsName_9 F b v0 v3 v4 a

theorem z5g (F : Nat) (e : (List UInt8) → Int → Option (Bool)) (b : ∀ (v0 : List UInt8) (v3 : Int) (Fr : Rd) (M : Mem) (r : Bool) (hH : Has Fr M []), e v0 v3 = some r → Run Tryz.prog ⟨⟨158, [], none⟩, []⟩ 50 (z03 r) [(0, (.str v0)), (3, (.int .i64 v3))] [codeC Tryz.prog 158 [1, 1, 0, 1, 0, 0], loopC Tryz.prog 158 [1, 1, 0, 1, 0, 0], .inBlock 0, codeC Tryz.prog 158 [1, 1, 1]] M) : ∀ (v0 : List UInt8) (v3 v4 : Int) (d : Bool) (Fr : Rd) (M : Mem) (r : Bool) (hH : Has Fr M []), ref01_IsName_5 F e v0 v3 v4 d = some r → Run Tryz.prog ⟨⟨158, [], none⟩, []⟩ 50 (z03 r) [(0, (.str v0)), (3, (.int .i64 v3)), (4, (.int .u8 v4)), (37, (.bool d))] [itemC Tryz.prog 158 [1, 1, 0, 1, 0, 0, 1, 0, 0, 1, 0] 6, codeC Tryz.prog 158 [1, 1, 0, 1, 0, 0, 1, 0, 0, 1, 1], .inBlock 1, codeC Tryz.prog 158 [1, 1, 0, 1, 0, 0, 1, 1], loopC Tryz.prog 158 [1, 1, 0, 1, 0, 0], .inBlock 0, codeC Tryz.prog 158 [1, 1, 1]] M := by
 intro v0 v3 v4 d Fr M r hH h
 rw [ref01_IsName_5] at h
 refine mv rfl rfl ?_
 rcases btf (d) with a | a
 ·have h := bif_t a h
  refine gy rfl rfl a (ex_move rfl) rfl <| gy rfl rfl a (ex_lss rfl rfl) rfl <| gy rfl rfl a (ex_move rfl) rfl ?_
  rcases btf ((decide (v4 < (48 : Int)))) with hc30 | hc30
  ·have h := bif_t hc30 h
   refine gn rfl rfl hc30 rfl <| gn rfl rfl hc30 rfl <| gy rfl rfl a (ex_pickT' rfl hc30 rfl rfl) rfl ?_
   exact Run.pick [0, 3, 4, 38, 44] (z4y F e b v0 v3 v4 d true _ _ _ hH h)
  ·have h := bif_f hc30 h
   refine gy rfl rfl hc30 (ex_move rfl) rfl <| gy rfl rfl hc30 (ex_gtr rfl rfl) rfl <| gy rfl rfl a (ex_pickF' rfl hc30 rfl rfl) rfl ?_
   exact Run.pick [0, 3, 4, 38, 44] (z4y F e b v0 v3 v4 d (decide ((57 : Int) < v4)) _ _ _ hH h)
 ·have h := bif_f a h
  refine gn rfl rfl a rfl <| gn rfl rfl a rfl <| gn rfl rfl a rfl <| Run.no (wantS_skip rfl rfl) rfl <| Run.no (wantS_skip rfl rfl) rfl <| gn rfl rfl a rfl ?_
  exact Run.pick [0, 3, 4, 38, 44] (z90 F e b v0 v3 v4 d _ _ _ hH h)

def ref01_IsName_4 (F : Nat) : Nat → List UInt8 → Int → Option (Bool)
 | 0, _, _ => none
 | N + 1, v0, v3 =>
  bif (decide (v3 < (v0.length : Int))) then
   bnd (sAt v0 v3) fun a =>
   bif (decide (a < (97 : Int))) then
    ref01_IsName_5 F (ref01_IsName_4 F N) v0 v3 a true
   else
    ref01_IsName_5 F (ref01_IsName_4 F N) v0 v3 a (decide ((122 : Int) < a))
  else
   some true

theorem z9d (F : Nat) : ∀ (N : Nat), ∀ (v0 : List UInt8) (v3 : Int) (Fr : Rd) (M : Mem) (r : Bool) (hH : Has Fr M []), ref01_IsName_4 F N v0 v3 = some r → Run Tryz.prog ⟨⟨158, [], none⟩, []⟩ 50 (z03 r) [(0, (.str v0)), (3, (.int .i64 v3))] [codeC Tryz.prog 158 [1, 1, 0, 1, 0, 0], loopC Tryz.prog 158 [1, 1, 0, 1, 0, 0], .inBlock 0, codeC Tryz.prog 158 [1, 1, 1]] M := by
 intro N
 induction N with
 | zero =>
  intro v0 v3 Fr M r hH h
  simp [ref01_IsName_4] at h
 | succ N ih =>
  intro v0 v3 Fr M r hH h
  rw [ref01_IsName_4] at h
  refine Run.seq (Run.seq (Run.region ?_))
  refine mv rfl rfl <| mv rfl rfl <| og (ex_lenS rfl z87) rfl <| og (ex_lss rfl rfl) rfl <| Run.opsEnd ?_
  rcases btf ((decide (v3 < (v0.length : Int)))) with hc25 | hc25
  ·have h := bif_t hc25 h
   refine Run.condT' rfl hc25 ?_
   refine Run.skip (Run.seq (Run.block (Run.seq (Run.region ?_))))
   refine mv rfl rfl <| mv rfl rfl ?_
   obtain ⟨b, a, h⟩ := bnd_some h
   refine og (ex_sAt rfl rfl zg4 a) rfl <| av rfl rfl ?_
   refine Run.opsEnd (Run.seq (Run.region ?_))
   refine mv rfl rfl <| og (ex_lss rfl rfl) rfl <| mv rfl rfl ?_
   rcases btf ((decide (b < (97 : Int)))) with hc28 | hc28
   ·have h := bif_t hc28 h
    refine gn rfl rfl hc28 rfl <| gn rfl rfl hc28 rfl <| og (ex_pickT' rfl hc28 rfl rfl) rfl ?_
    exact Run.pick [0, 3, 4, 37] (z5g F (ref01_IsName_4 F N) ih v0 v3 b true _ _ _ hH h)
   ·have h := bif_f hc28 h
    refine gy rfl rfl hc28 (ex_move rfl) rfl <| gy rfl rfl hc28 (ex_gtr rfl rfl) rfl <| og (ex_pickF' rfl hc28 rfl rfl) rfl ?_
    exact Run.pick [0, 3, 4, 37] (z5g F (ref01_IsName_4 F N) ih v0 v3 b (decide ((122 : Int) < b)) _ _ _ hH h)
  ·have h := bif_f hc25 h
   refine Run.condF' rfl hc25 ?_
   refine Run.exit rfl (Run.seq (Run.region ?_))
   refine av rfl rfl <| Run.opsEnd ?_
   cases h
   exact Run.ret Tryz.func158 rfl (res_tmp rfl res_nil) rfl

def ref01_IsName_3 (F : Nat) (v0 : List UInt8) (a : Bool) : Option (Bool) :=
 bif a then
  some false
 else
  ref01_IsName_4 F F v0 (0 : Int)

theorem z50 (F : Nat) : ∀ (v0 : List UInt8) (b : Bool) (Fr : Rd) (M : Mem) (r : Bool) (hH : Has Fr M []), ref01_IsName_3 F v0 b = some r → Run Tryz.prog ⟨⟨158, [], none⟩, []⟩ 50 (z03 r) [(0, (.str v0)), (22, (.bool b))] [codeC Tryz.prog 158 [1, 0, 1], codeC Tryz.prog 158 [1, 1]] M := by
 intro v0 b Fr M r hH h
 rw [ref01_IsName_3] at h
 rcases btf (b) with a | a
 ·have h := bif_t a h
  refine Run.condT' rfl a ?_
  refine Run.seq (Run.region ?_)
  refine av rfl rfl <| Run.opsEnd ?_
  cases h
  exact Run.ret Tryz.func158 rfl (res_tmp rfl res_nil) rfl
 ·have h := bif_f a h
  refine Run.condF' rfl a ?_
  refine Run.skip (Run.seq (Run.seq (Run.region ?_)))
  refine av rfl rfl ?_
  refine Run.opsEnd (Run.block (Run.loop ?_))
  exact Run.pick [0, 3] (z9d F F v0 (0 : Int) _ _ _ hH h)

def ref01_IsName_2 (F : Nat) (v0 : List UInt8) (b : Bool) : Option (Bool) :=
 bif b then
  ref01_IsName_3 F v0 true
 else
  bnd (sAt v0 (0 : Int)) fun a =>
  ref01_IsName_3 F v0 (decide ((122 : Int) < a))

theorem z5f (F : Nat) : ∀ (v0 : List UInt8) (d : Bool) (Fr : Rd) (M : Mem) (r : Bool) (hH : Has Fr M []), ref01_IsName_2 F v0 d = some r → Run Tryz.prog ⟨⟨158, [], none⟩, []⟩ 50 (z03 r) [(0, (.str v0)), (17, (.bool d))] [itemC Tryz.prog 158 [1, 0, 0] 13, codeC Tryz.prog 158 [1, 0, 1], codeC Tryz.prog 158 [1, 1]] M := by
 intro v0 d Fr M r hH h
 rw [ref01_IsName_2] at h
 refine mv rfl rfl ?_
 rcases btf (d) with a | a
 ·have h := bif_t a h
  refine gn rfl rfl a rfl <| gn rfl rfl a rfl <| gn rfl rfl a rfl <| og (ex_pickT' rfl a rfl rfl) rfl <| Run.opsEnd ?_
  exact Run.pick [0, 22] (z50 F v0 true _ _ _ hH h)
 ·have h := bif_f a h
  refine gy rfl rfl a (ex_move rfl) rfl ?_
  obtain ⟨e, b, h⟩ := bnd_some h
  refine gy rfl rfl a (ex_sAt rfl rfl zg4 b) rfl <| gy rfl rfl a (ex_gtr rfl rfl) rfl <| og (ex_pickF' rfl a rfl rfl) rfl <| Run.opsEnd ?_
  exact Run.pick [0, 22] (z50 F v0 (decide ((122 : Int) < e)) _ _ _ hH h)

def ref01_IsName_1 (F : Nat) (v0 : List UInt8) (b : Bool) : Option (Bool) :=
 bif b then
  ref01_IsName_2 F v0 true
 else
  bnd (sAt v0 (0 : Int)) fun a =>
  ref01_IsName_2 F v0 (decide (a < (97 : Int)))

theorem z4v (F : Nat) : ∀ (v0 : List UInt8) (d : Bool) (Fr : Rd) (M : Mem) (r : Bool) (hH : Has Fr M []), ref01_IsName_1 F v0 d = some r → Run Tryz.prog ⟨⟨158, [], none⟩, []⟩ 50 (z03 r) [(0, (.str v0)), (12, (.bool d))] [itemC Tryz.prog 158 [1, 0, 0] 8, codeC Tryz.prog 158 [1, 0, 1], codeC Tryz.prog 158 [1, 1]] M := by
 intro v0 d Fr M r hH h
 rw [ref01_IsName_1] at h
 refine mv rfl rfl ?_
 rcases btf (d) with a | a
 ·have h := bif_t a h
  refine gn rfl rfl a rfl <| gn rfl rfl a rfl <| gn rfl rfl a rfl <| og (ex_pickT' rfl a rfl rfl) rfl ?_
  exact Run.pick [0, 17] (z5f F v0 true _ _ _ hH h)
 ·have h := bif_f a h
  refine gy rfl rfl a (ex_move rfl) rfl ?_
  obtain ⟨e, b, h⟩ := bnd_some h
  refine gy rfl rfl a (ex_sAt rfl rfl zg4 b) rfl <| gy rfl rfl a (ex_lss rfl rfl) rfl <| og (ex_pickF' rfl a rfl rfl) rfl ?_
  exact Run.pick [0, 17] (z5f F v0 (decide (e < (97 : Int))) _ _ _ hH h)

def ref01_IsName (F : Nat) (a0 : List UInt8) : Option (Bool) :=
 bif (decide ((a0.length : Int) < (1 : Int))) then
  ref01_IsName_1 F a0 true
 else
  ref01_IsName_1 F a0 (decide ((16 : Int) < (a0.length : Int)))

theorem za8 (F : Nat) (a0 : List UInt8) (r : Bool) (M : Mem) (h : ref01_IsName F a0 = some r) : CallsM Tryz.prog 158 [(.str a0)] M (fun s M' => s = (.bool r) ∧ M' = M) := by
 refine CallsM.plain Tryz.func158 rfl rfl rfl (show Run _ _ _ (z03 r) _ _ _ from ?_)
 rw [ref01_IsName] at h
 have hH := Has.nil (frozen M)
 refine Run.seq (Run.region ?_)
 refine av rfl rfl ?_
 refine Run.opsEnd (Run.seq (Run.seq (Run.region ?_)))
 refine mv rfl rfl <| og (ex_lenS rfl z87) rfl <| og (ex_lss rfl rfl) rfl <| mv rfl rfl ?_
 rcases btf ((decide ((a0.length : Int) < (1 : Int)))) with hc21 | hc21
 ·have h := bif_t hc21 h
  refine gn rfl rfl hc21 rfl <| gn rfl rfl hc21 rfl <| gn rfl rfl hc21 rfl <| og (ex_pickT' rfl hc21 rfl rfl) rfl ?_
  exact Run.pick [0, 12] (z4v F a0 true _ _ _ hH h)
 ·have h := bif_f hc21 h
  refine gy rfl rfl hc21 (ex_move rfl) rfl <| gy rfl rfl hc21 (ex_lenS rfl z87) rfl <| gy rfl rfl hc21 (ex_gtr rfl rfl) rfl <| og (ex_pickF' rfl hc21 rfl rfl) rfl ?_
  exact Run.pick [0, 12] (z4v F a0 (decide ((16 : Int) < (a0.length : Int))) _ _ _ hH h)

theorem ze3 : makeK Tryz.prog 158 = none := by kernel_rfl
theorem zf2 : callable Tryz.prog 158 = true := by kernel_rfl
theorem z4d : planOf Tryz.prog (opsC (atC Tryz.prog 94 [1, 1, 1, 0, 1, 0, 0, 1, 0, 0])) = some [.fl 0, .fl 1, .fl 2, .fl 3, .fl 4, .fl 5, .fl 6, .fl 7, .fl 8, .fl 9, .fl 10, .fl 11, .an 12 [], .fl 13, .fl 14, .fl 15, .fl 16, .fl 17, .fl 18, .fl 19, .fl 20, .fl 21, .fl 22, .fl 23, .fl 24, .fl 25, .fl 26, .fl 27, .fl 28, .fl 29, .fl 30, .fl 31, .sync] := by kernel_rfl
abbrev z00 (r : Int) : SV → Mem → Prop := fun s _ => s = (.int .i64 r)

def ref10_CheckAlert_12 (F : Nat) (s : Bool → Int → List UInt8 → Int → Int → Int → Int → Int → List Int → Bool → Int → Option (Int)) (v3 : Bool) (v4 : Int) (q : List UInt8) (m e g p d : Int) (b : List Int) (a : Bool) (n : Int) : Option (Int) :=
 s v3 (w64 (v4 + (1 : Int))) q m e g p d b a n

theorem z13 (F : Nat) (w : Bool → Int → List UInt8 → Int → Int → Int → Int → Int → List Int → Bool → Int → Option (Int)) (x : ∀ (v3 : Bool) (v4 : Int) (s : List UInt8) (q b m e g : Int) (p : List Int) (n : Bool) (d : Int) (a : SV) (f : Pos) (Fr : Rd) (M : Mem) (r : Int) (u : Slc Fr 1 (FlatR enc3) a p) (hH : Has Fr M [.obj f (.row 33 .whole (k0 s q b m e g a n d))]), w v3 v4 s q b m e g p n d = some r → Run Tryz.prog ⟨⟨94, [], none⟩, []⟩ 106 (z00 r) [(1, (.ptr f 0)), (3, (.bool v3)), (4, (.int .i64 v4))] [codeC Tryz.prog 94 [1, 1, 1, 0, 1, 0, 0], loopC Tryz.prog 94 [1, 1, 1, 0, 1, 0, 0], .inBlock 0, codeC Tryz.prog 94 [1, 1, 1, 1]] M) : ∀ (v3 : Bool) (v4 : Int) (s : List UInt8) (q b m e g : Int) (p : List Int) (n : Bool) (d : Int) (a : SV) (f : Pos) (Fr : Rd) (M : Mem) (r : Int) (u : Slc Fr 1 (FlatR enc3) a p) (hH : Has Fr M [.obj f (.row 33 .whole (k0 s q b m e g a n d))]), ref10_CheckAlert_12 F w v3 v4 s q b m e g p n d = some r → Run Tryz.prog ⟨⟨94, [], none⟩, []⟩ 106 (z00 r) [(1, (.ptr f 0)), (3, (.bool v3)), (4, (.int .i64 v4))] [itemC Tryz.prog 94 [1, 1, 1, 0, 1, 0, 0, 1, 1] 0, loopC Tryz.prog 94 [1, 1, 1, 0, 1, 0, 0], .inBlock 0, codeC Tryz.prog 94 [1, 1, 1, 1]] M := by
 intro v3 v4 s q b m e g p n d a f Fr M r u hH h
 rw [ref10_CheckAlert_12] at h
 refine mv rfl rfl <| og (ex_add rfl rfl) rfl <| av rfl rfl ?_
 refine Run.opsEnd (Run.inLoop ?_)
 exact Run.pick [1, 3, 4] (x v3 (w64 (v4 + (1 : Int))) s q b m e g p n d a f _ _ _ u hH h)

def ref10_CheckAlert_11 (F : Nat) (s : Bool → Int → List UInt8 → Int → Int → Int → Int → Int → List Int → Bool → Int → Option (Int)) (v3 : Bool) (v4 : Int) (x : Bool) (q : List UInt8) (m e g p b : Int) (a : List Int) (d : Bool) (n : Int) : Option (Int) :=
 bif x then
  bnd (idx a v4) fun f =>
  bnd (ref00_In F f (0 : Int) (w64 ((w64 ((w64 ((6 : Int) * b)) * b)) - (1 : Int)))) fun w =>
  bif w then
   bif (v4 == (0 : Int)) then
    ref10_CheckAlert_12 F s true v4 q m e g p b a d n
   else
    bnd (idx a (w64 (v4 - (1 : Int)))) fun y =>
    bnd (idx a v4) fun u =>
    ref10_CheckAlert_12 F s (decide (y < u)) v4 q m e g p b a d n
  else
   ref10_CheckAlert_12 F s false v4 q m e g p b a d n
 else
  bif (!v3) then
   some (101 : Int)
  else
   some (0 : Int)

theorem z2m (F : Nat) (y : Bool → Int → List UInt8 → Int → Int → Int → Int → Int → List Int → Bool → Int → Option (Int)) (a1 : ∀ (v3 : Bool) (v4 : Int) (w : List UInt8) (u g p n b : Int) (s : List Int) (q : Bool) (m : Int) (d : SV) (f : Pos) (Fr : Rd) (M : Mem) (r : Int) (e : Slc Fr 1 (FlatR enc3) d s) (hH : Has Fr M [.obj f (.row 33 .whole (k0 w u g p n b d q m))]), y v3 v4 w u g p n b s q m = some r → Run Tryz.prog ⟨⟨94, [], none⟩, []⟩ 106 (z00 r) [(1, (.ptr f 0)), (3, (.bool v3)), (4, (.int .i64 v4))] [codeC Tryz.prog 94 [1, 1, 1, 0, 1, 0, 0], loopC Tryz.prog 94 [1, 1, 1, 0, 1, 0, 0], .inBlock 0, codeC Tryz.prog 94 [1, 1, 1, 1]] M) : ∀ (v3 : Bool) (v4 : Int) (a9 : Bool) (w : List UInt8) (u g p n b : Int) (s : List Int) (q : Bool) (m : Int) (d : SV) (f : Pos) (Fr : Rd) (M : Mem) (r : Int) (e : Slc Fr 1 (FlatR enc3) d s) (hH : Has Fr M [.obj f (.row 33 .whole (k0 w u g p n b d q m))]), ref10_CheckAlert_11 F y v3 v4 a9 w u g p n b s q m = some r → Run Tryz.prog ⟨⟨94, [], none⟩, []⟩ 106 (z00 r) [(1, (.ptr f 0)), (3, (.bool v3)), (4, (.int .i64 v4)), (70, (.bool a9))] [codeC Tryz.prog 94 [1, 1, 1, 0, 1, 0, 0, 0, 1], codeC Tryz.prog 94 [1, 1, 1, 0, 1, 0, 0, 1], loopC Tryz.prog 94 [1, 1, 1, 0, 1, 0, 0], .inBlock 0, codeC Tryz.prog 94 [1, 1, 1, 1]] M := by
 intro v3 v4 a9 w u g p n b s q m d f Fr M r e hH h
 rw [ref10_CheckAlert_11] at h
 rcases btf (a9) with x | x
 ·have h := bif_t x h
  refine Run.condT' rfl x ?_
  refine Run.skip (Run.seq (Run.block ?_))
  refine Run.drawG z4d <| df rfl (ex_fieldAddr rfl z16) rfl <| df rfl (ex_load1 rfl (hH.cells (i := 0) rfl 6 rfl) rdLe_rfl z7y) rfl <| df rfl (ex_move rfl) rfl ?_
  obtain ⟨b1, a3, h⟩ := bnd_some h
  obtain ⟨b4, b5, _, a3, a8, rfl⟩ := sl_elem (P := Tryz.prog) (t := 31) (kk := .i64) e a3 zb7
  refine df rfl (ex_elX rfl rfl a3) rfl <| df rfl (ex_load1 rfl (hH.ptrF a8) rdLe_rfl z0c) rfl <| df rfl (ex_fieldAddr rfl z3w) rfl <| df rfl (ex_load1 rfl (hH.cells (i := 0) rfl 5 rfl) rdLe_rfl z0c) rfl <| df rfl (ex_mul rfl rfl) rfl <| df rfl (ex_fieldAddr rfl z3w) rfl <| df rfl (ex_load1 rfl (hH.cells (i := 0) rfl 5 rfl) rdLe_rfl z0c) rfl <| df rfl (ex_mul rfl rfl) rfl <| df rfl (ex_sub rfl rfl) rfl ?_
  obtain ⟨b2, a5, h⟩ := bnd_some h
  refine DrawG.callP rfl wantS_none (ex_call rfl z9r z9v) rfl (z0k F b1 (0 : Int) (w64 ((w64 ((w64 ((6 : Int) * b)) * b)) - (1 : Int))) _ _ a5) st_nil <| df rfl (ex_move rfl) rfl ?_
  rcases btf (b2) with a | a
  ·have h := bif_t a h
   refine dy rfl rfl rfl a (ex_move rfl) rfl <| dy rfl rfl rfl a (ex_eql rfl rfl) rfl <| dy rfl rfl rfl a (ex_move rfl) rfl ?_
   rcases btf ((v4 == (0 : Int))) with hc57 | hc57
   ·have h := bif_t hc57 h
    refine dn rfl rfl rfl hc57 rfl <| dn rfl rfl rfl hc57 rfl <| dn rfl rfl rfl hc57 rfl <| dn rfl rfl rfl hc57 rfl <| dn rfl rfl rfl hc57 rfl <| dn rfl rfl rfl hc57 rfl <| dn rfl rfl rfl hc57 rfl <| dn rfl rfl rfl hc57 rfl <| dn rfl rfl rfl hc57 rfl <| dn rfl rfl rfl hc57 rfl <| dn rfl rfl rfl hc57 rfl <| dn rfl rfl rfl hc57 rfl <| dy rfl rfl rfl a (ex_pickT' rfl hc57 rfl rfl) rfl <| df rfl (ex_pickT' rfl a rfl rfl) rfl <| df rfl (ex_assign rfl) rfl <| DrawG.sync <| DrawG.nil ?_
    refine Run.inBlock (Run.region ?_)
    exact Run.pick [1, 3, 4] (z13 F y a1 true v4 w u g p n b s q m d f _ _ _ e hH h)
   ·have h := bif_f hc57 h
    refine dy rfl rfl rfl hc57 (ex_fieldAddr rfl z16) rfl <| dy rfl rfl rfl hc57 (ex_load1 rfl (hH.cells (i := 0) rfl 6 rfl) rdLe_rfl z7y) rfl <| dy rfl rfl rfl hc57 (ex_move rfl) rfl <| dy rfl rfl rfl hc57 (ex_sub rfl rfl) rfl ?_
    obtain ⟨b0, a2, h⟩ := bnd_some h
    obtain ⟨b8, b6, _, a2, a7, rfl⟩ := sl_elem (P := Tryz.prog) (t := 31) (kk := .i64) e a2 zb7
    refine dy rfl rfl rfl hc57 (ex_elX rfl rfl a2) rfl <| dy rfl rfl rfl hc57 (ex_load1 rfl (hH.ptrF a7) rdLe_rfl z0c) rfl <| dy rfl rfl rfl hc57 (ex_fieldAddr rfl z16) rfl <| dy rfl rfl rfl hc57 (ex_load1 rfl (hH.cells (i := 0) rfl 6 rfl) rdLe_rfl z7y) rfl <| dy rfl rfl rfl hc57 (ex_move rfl) rfl ?_
    obtain ⟨b3, a4, h⟩ := bnd_some h
    obtain ⟨b9, b7, _, a4, a6, rfl⟩ := sl_elem (P := Tryz.prog) (t := 31) (kk := .i64) e a4 zb7
    refine dy rfl rfl rfl hc57 (ex_elX rfl rfl a4) rfl <| dy rfl rfl rfl hc57 (ex_load1 rfl (hH.ptrF a6) rdLe_rfl z0c) rfl <| dy rfl rfl rfl hc57 (ex_lss rfl rfl) rfl <| dy rfl rfl rfl a (ex_pickF' rfl hc57 rfl rfl) rfl <| df rfl (ex_pickT' rfl a rfl rfl) rfl <| df rfl (ex_assign rfl) rfl <| DrawG.sync <| DrawG.nil ?_
    refine Run.inBlock (Run.region ?_)
    exact Run.pick [1, 3, 4] (z13 F y a1 (decide (b0 < b3)) v4 w u g p n b s q m d f _ _ _ e hH h)
  ·have h := bif_f a h
   refine dn rfl rfl rfl a rfl <| dn rfl rfl rfl a rfl <| dn rfl rfl rfl a rfl <| DrawG.fl rfl (ev_no (wantS_skip rfl rfl)) rfl <| DrawG.fl rfl (ev_no (wantS_skip rfl rfl)) rfl <| DrawG.fl rfl (ev_no (wantS_skip rfl rfl)) rfl <| DrawG.fl rfl (ev_no (wantS_skip rfl rfl)) rfl <| DrawG.fl rfl (ev_no (wantS_skip rfl rfl)) rfl <| DrawG.fl rfl (ev_no (wantS_skip rfl rfl)) rfl <| DrawG.fl rfl (ev_no (wantS_skip rfl rfl)) rfl <| DrawG.fl rfl (ev_no (wantS_skip rfl rfl)) rfl <| DrawG.fl rfl (ev_no (wantS_skip rfl rfl)) rfl <| DrawG.fl rfl (ev_no (wantS_skip rfl rfl)) rfl <| DrawG.fl rfl (ev_no (wantS_skip rfl rfl)) rfl <| DrawG.fl rfl (ev_no (wantS_skip rfl rfl)) rfl <| dn rfl rfl rfl a rfl <| df rfl (ex_pickF' rfl a rfl rfl) rfl <| df rfl (ex_assign rfl) rfl <| DrawG.sync <| DrawG.nil ?_
   refine Run.inBlock (Run.region ?_)
   exact Run.pick [1, 3, 4] (z13 F y a1 false v4 w u g p n b s q m d f _ _ _ e hH h)
 ·have h := bif_f x h
  refine Run.condF' rfl x ?_
  refine Run.exit rfl (Run.seq (Run.seq (Run.region ?_)))
  refine mv rfl rfl <| og (ex_not rfl) rfl <| Run.opsEnd ?_
  rcases btf ((!v3)) with a0 | a0
  ·have h := bif_t a0 h
   refine Run.condT' rfl a0 ?_
   refine Run.seq (Run.region ?_)
   refine av rfl rfl <| Run.opsEnd ?_
   cases h
   exact Run.ret Tryz.func94 rfl (res_tmp rfl res_nil) rfl
  ·have h := bif_f a0 h
   refine Run.condF' rfl a0 ?_
   refine Run.skip (Run.seq (Run.region ?_))
   refine av rfl rfl <| Run.opsEnd ?_
   cases h
   exact Run.ret Tryz.func94 rfl (res_tmp rfl res_nil) rfl

def ref10_CheckAlert_10 (F : Nat) : Nat → Bool → Int → List UInt8 → Int → Int → Int → Int → Int → List Int → Bool → Int → Option (Int)
 | 0, _, _, _, _, _, _, _, _, _, _, _ => none
 | N + 1, v3, v4, e, n, g, m, q, d, a, b, p =>
  bif (decide (v4 < (a.length : Int))) then
   ref10_CheckAlert_11 F (ref10_CheckAlert_10 F N) v3 v4 v3 e n g m q d a b p
  else
   ref10_CheckAlert_11 F (ref10_CheckAlert_10 F N) v3 v4 false e n g m q d a b p

theorem z6l (F : Nat) : ∀ (N : Nat), ∀ (v3 : Bool) (v4 : Int) (u : List UInt8) (s e p m n : Int) (b : List Int) (q : Bool) (g : Int) (a : SV) (f : Pos) (Fr : Rd) (M : Mem) (r : Int) (d : Slc Fr 1 (FlatR enc3) a b) (hH : Has Fr M [.obj f (.row 33 .whole (k0 u s e p m n a q g))]), ref10_CheckAlert_10 F N v3 v4 u s e p m n b q g = some r → Run Tryz.prog ⟨⟨94, [], none⟩, []⟩ 106 (z00 r) [(1, (.ptr f 0)), (3, (.bool v3)), (4, (.int .i64 v4))] [codeC Tryz.prog 94 [1, 1, 1, 0, 1, 0, 0], loopC Tryz.prog 94 [1, 1, 1, 0, 1, 0, 0], .inBlock 0, codeC Tryz.prog 94 [1, 1, 1, 1]] M := by
 intro N
 induction N with
 | zero =>
  intro v3 v4 u s e p m n b q g a f Fr M r d hH h
  simp [ref10_CheckAlert_10] at h
 | succ N ih =>
  intro v3 v4 u s e p m n b q g a f Fr M r d hH h
  rw [ref10_CheckAlert_10] at h
  refine Run.seq (Run.seq (Run.region ?_))
  refine mv rfl rfl <| og (ex_fieldAddr rfl z16) rfl <| og (ex_load1 rfl (hH.cells (i := 0) rfl 6 rfl) rdLe_rfl z7y) rfl <| og (ex_len' rfl d z8t) rfl <| og (ex_lss rfl rfl) rfl <| mv rfl rfl ?_
  rcases btf ((decide (v4 < (b.length : Int)))) with hc51 | hc51
  ·have h := bif_t hc51 h
   refine gy rfl rfl hc51 (ex_move rfl) rfl <| og (ex_pickT' rfl hc51 rfl rfl) rfl <| Run.opsEnd ?_
   exact Run.pick [1, 3, 4, 70] (z2m F (ref10_CheckAlert_10 F N) ih v3 v4 v3 u s e p m n b q g a f _ _ _ d hH h)
  ·have h := bif_f hc51 h
   refine gn rfl rfl hc51 rfl <| og (ex_pickF' rfl hc51 rfl rfl) rfl <| Run.opsEnd ?_
   exact Run.pick [1, 3, 4, 70] (z2m F (ref10_CheckAlert_10 F N) ih v3 v4 false u s e p m n b q g a f _ _ _ d hH h)

def ref10_CheckAlert_9 (F : Nat) (f : Bool) (q : List UInt8) (m e g p d : Int) (b : List Int) (a : Bool) (n : Int) : Option (Int) :=
 ref10_CheckAlert_10 F F f (0 : Int) q m e g p d b a n

theorem z2y (F : Nat) : ∀ (f : Bool) (s : List UInt8) (q b m e g : Int) (p : List Int) (n : Bool) (d : Int) (a : SV) (w : Pos) (Fr : Rd) (M : Mem) (r : Int) (u : Slc Fr 1 (FlatR enc3) a p) (hH : Has Fr M [.obj w (.row 33 .whole (k0 s q b m e g a n d))]), ref10_CheckAlert_9 F f s q b m e g p n d = some r → Run Tryz.prog ⟨⟨94, [], none⟩, []⟩ 106 (z00 r) [(1, (.ptr w 0)), (62, (.bool f))] [itemC Tryz.prog 94 [1, 1, 0] 25, codeC Tryz.prog 94 [1, 1, 1]] M := by
 intro f s q b m e g p n d a w Fr M r u hH h
 rw [ref10_CheckAlert_9] at h
 refine av rfl rfl ?_
 refine Run.opsEnd (Run.seq (Run.seq (Run.region ?_)))
 refine av rfl rfl ?_
 refine Run.opsEnd (Run.block (Run.loop ?_))
 exact Run.pick [1, 3, 4] (z6l F F f (0 : Int) s q b m e g p n d a w _ _ _ u hH h)

def ref10_CheckAlert_8 (F : Nat) (f : Bool) (q : List UInt8) (m e g p d : Int) (b : List Int) (a : Bool) (n : Int) : Option (Int) :=
 bif f then
  ref10_CheckAlert_9 F (((b.length : Int) == (0 : Int)) == a) q m e g p d b a n
 else
  ref10_CheckAlert_9 F false q m e g p d b a n

theorem z2w (F : Nat) : ∀ (x : Bool) (w : List UInt8) (u g s n q : Int) (e : List Int) (d : Bool) (m : Int) (b : SV) (f : Pos) (Fr : Rd) (M : Mem) (r : Int) (p : Slc Fr 1 (FlatR enc3) b e) (hH : Has Fr M [.obj f (.row 33 .whole (k0 w u g s n q b d m))]), ref10_CheckAlert_8 F x w u g s n q e d m = some r → Run Tryz.prog ⟨⟨94, [], none⟩, []⟩ 106 (z00 r) [(1, (.ptr f 0)), (53, (.bool x))] [itemC Tryz.prog 94 [1, 1, 0] 16, codeC Tryz.prog 94 [1, 1, 1]] M := by
 intro x w u g s n q e d m b f Fr M r p hH h
 rw [ref10_CheckAlert_8] at h
 refine mv rfl rfl ?_
 rcases btf (x) with a | a
 ·have h := bif_t a h
  refine gy rfl rfl a (ex_fieldAddr rfl z16) rfl <| gy rfl rfl a (ex_load1 rfl (hH.cells (i := 0) rfl 6 rfl) rdLe_rfl z7y) rfl <| gy rfl rfl a (ex_len' rfl p z8t) rfl <| gy rfl rfl a (ex_eql rfl rfl) rfl <| gy rfl rfl a (ex_fieldAddr rfl z5n) rfl <| gy rfl rfl a (ex_load1 rfl (hH.cells (i := 0) rfl 7 rfl) rdLe_rfl zc0) rfl <| gy rfl rfl a (ex_eqlB rfl rfl zde) rfl <| og (ex_pickT' rfl a rfl rfl) rfl ?_
  exact Run.pick [1, 62] (z2y F (((e.length : Int) == (0 : Int)) == d) w u g s n q e d m b f _ _ _ p hH h)
 ·have h := bif_f a h
  refine gn rfl rfl a rfl <| gn rfl rfl a rfl <| gn rfl rfl a rfl <| gn rfl rfl a rfl <| gn rfl rfl a rfl <| gn rfl rfl a rfl <| gn rfl rfl a rfl <| og (ex_pickF' rfl a rfl rfl) rfl ?_
  exact Run.pick [1, 62] (z2y F false w u g s n q e d m b f _ _ _ p hH h)

def ref10_CheckAlert_7 (F : Nat) (s f : Bool) (q : List UInt8) (m e g p d : Int) (b : List Int) (a : Bool) (n : Int) : Option (Int) :=
 ref10_CheckAlert_8 F (bif s then f else false) q m e g p d b a n

theorem z2x (F : Nat) : ∀ (x f : Bool) (s : List UInt8) (q b m e g : Int) (p : List Int) (n : Bool) (d : Int) (a : SV) (w : Pos) (Fr : Rd) (M : Mem) (r : Int) (u : Slc Fr 1 (FlatR enc3) a p) (hH : Has Fr M [.obj w (.row 33 .whole (k0 s q b m e g a n d))]), ref10_CheckAlert_7 F x f s q b m e g p n d = some r → Run Tryz.prog ⟨⟨94, [], none⟩, []⟩ 106 (z00 r) [(1, (.ptr w 0)), (44, (.bool x)), (52, (.bool f))] [itemC Tryz.prog 94 [1, 1, 0] 15, codeC Tryz.prog 94 [1, 1, 1]] M := by
 intro x f s q b m e g p n d a w Fr M r u hH h
 rw [ref10_CheckAlert_7] at h
 refine og (ex_pickB rfl rfl rfl) rfl ?_
 exact Run.pick [1, 53] (z2w F (bif x then f else false) s q b m e g p n d a w _ _ _ u hH h)

def ref10_CheckAlert_13 (F : Nat) (f : Bool) (q : List UInt8) (m e g p d : Int) (b : List Int) (a : Bool) (n : Int) : Option (Int) :=
 bif f then
  none
 else
  ref10_CheckAlert_8 F false q m e g p d b a n

theorem z6c (F : Nat) : ∀ (f : Bool) (s : List UInt8) (q b m e g : Int) (p : List Int) (n : Bool) (d : Int) (a : SV) (x : Pos) (Fr : Rd) (M : Mem) (r : Int) (w : Slc Fr 1 (FlatR enc3) a p) (hH : Has Fr M [.obj x (.row 33 .whole (k0 s q b m e g a n d))]), ref10_CheckAlert_13 F f s q b m e g p n d = some r → Run Tryz.prog ⟨⟨94, [], none⟩, []⟩ 106 (z00 r) [(1, (.ptr x 0)), (44, (.bool f)), (52, (.tuple []))] [itemC Tryz.prog 94 [1, 1, 0] 15, codeC Tryz.prog 94 [1, 1, 1]] M := by
 intro f s q b m e g p n d a x Fr M r w hH h
 rw [ref10_CheckAlert_13] at h
 rcases btf (f) with u | u
 ·have h := bif_t u h
  cases h
 ·have h := bif_f u h
  refine og (ex_pickF' rfl u rfl rfl) rfl ?_
  exact Run.pick [1, 53] (z2w F false s q b m e g p n d a x _ _ _ w hH h)

def ref10_CheckAlert_6 (F : Nat) (f : Bool) (q : List UInt8) (a m n p g : Int) (e : List Int) (d : Bool) (b : Int) : Option (Int) :=
 bif f then
  bif (decide ((1 : Int) < a)) then
   ref10_CheckAlert_7 F f true q a m n p g e d b
  else
   ref10_CheckAlert_7 F f (b == (0 : Int)) q a m n p g e d b
 else
  ref10_CheckAlert_13 F f q a m n p g e d b

theorem z2u (F : Nat) : ∀ (f : Bool) (u : List UInt8) (e g p m n : Int) (s : List Int) (q : Bool) (d : Int) (b : SV) (x : Pos) (Fr : Rd) (M : Mem) (r : Int) (w : Slc Fr 1 (FlatR enc3) b s) (hH : Has Fr M [.obj x (.row 33 .whole (k0 u e g p m n b q d))]), ref10_CheckAlert_6 F f u e g p m n s q d = some r → Run Tryz.prog ⟨⟨94, [], none⟩, []⟩ 106 (z00 r) [(1, (.ptr x 0)), (43, (.bool f))] [itemC Tryz.prog 94 [1, 1, 0] 6, codeC Tryz.prog 94 [1, 1, 1]] M := by
 intro f u e g p m n s q d b x Fr M r w hH h
 rw [ref10_CheckAlert_6] at h
 refine mv rfl rfl ?_
 rcases btf (f) with a | a
 ·have h := bif_t a h
  refine gy rfl rfl a (ex_fieldAddr rfl z3r) rfl <| gy rfl rfl a (ex_load1 rfl (hH.cells (i := 0) rfl 1 rfl) rdLe_rfl z0c) rfl <| gy rfl rfl a (ex_gtr rfl rfl) rfl <| gy rfl rfl a (ex_move rfl) rfl ?_
  rcases btf ((decide ((1 : Int) < e))) with hc49 | hc49
  ·have h := bif_t hc49 h
   refine gn rfl rfl hc49 rfl <| gn rfl rfl hc49 rfl <| gn rfl rfl hc49 rfl <| gy rfl rfl a (ex_pickT' rfl hc49 rfl rfl) rfl ?_
   exact Run.pick [1, 44, 52] (z2x F f true u e g p m n s q d b x _ _ _ w hH h)
  ·have h := bif_f hc49 h
   refine gy rfl rfl hc49 (ex_fieldAddr rfl z5k) rfl <| gy rfl rfl hc49 (ex_load1 rfl (hH.cells (i := 0) rfl 8 rfl) rdLe_rfl z0c) rfl <| gy rfl rfl hc49 (ex_eql rfl rfl) rfl <| gy rfl rfl a (ex_pickF' rfl hc49 rfl rfl) rfl ?_
   exact Run.pick [1, 44, 52] (z2x F f (d == (0 : Int)) u e g p m n s q d b x _ _ _ w hH h)
 ·have h := bif_f a h
  refine gn rfl rfl a rfl <| gn rfl rfl a rfl <| gn rfl rfl a rfl <| gn rfl rfl a rfl <| Run.no (wantS_skip rfl rfl) rfl <| Run.no (wantS_skip rfl rfl) rfl <| Run.no (wantS_skip rfl rfl) rfl <| gn rfl rfl a rfl ?_
  exact Run.pick [1, 44, 52] (z6c F f u e g p m n s q d b x _ _ _ w hH h)

def ref10_CheckAlert_5 (F : Nat) (f : Bool) (q : List UInt8) (n g m p e : Int) (d : List Int) (b : Bool) (a : Int) : Option (Int) :=
 bif f then
  bnd (ref00_In F a (0 : Int) (2147483646 : Int)) fun s =>
  ref10_CheckAlert_6 F s q n g m p e d b a
 else
  ref10_CheckAlert_6 F false q n g m p e d b a

theorem z38 (F : Nat) : ∀ (y : Bool) (u : List UInt8) (s e n g m : Int) (q : List Int) (p : Bool) (d : Int) (b : SV) (f : Pos) (Fr : Rd) (M : Mem) (r : Int) (w : Slc Fr 1 (FlatR enc3) b q) (hH : Has Fr M [.obj f (.row 33 .whole (k0 u s e n g m b p d))]), ref10_CheckAlert_5 F y u s e n g m q p d = some r → Run Tryz.prog ⟨⟨94, [], none⟩, []⟩ 106 (z00 r) [(1, (.ptr f 0)), (37, (.bool y))] [itemC Tryz.prog 94 [1, 0] 33, codeC Tryz.prog 94 [1, 1]] M := by
 intro y u s e n g m q p d b f Fr M r w hH h
 rw [ref10_CheckAlert_5] at h
 refine av rfl rfl ?_
 refine Run.opsEnd (Run.seq (Run.region ?_))
 refine mv rfl rfl <| mv rfl rfl ?_
 rcases btf (y) with a | a
 ·have h := bif_t a h
  refine gy rfl rfl a (ex_fieldAddr rfl z5k) rfl <| gy rfl rfl a (ex_load1 rfl (hH.cells (i := 0) rfl 8 rfl) rdLe_rfl z0c) rfl ?_
  obtain ⟨a0, x, h⟩ := bnd_some h
  refine Run.callP (wantS_yes' rfl rfl a) (ex_call rfl z9r z9v) rfl (z0k F d (0 : Int) (2147483646 : Int) _ _ x) <| og (ex_pickT' rfl a rfl rfl) rfl ?_
  exact Run.pick [1, 43] (z2u F a0 u s e n g m q p d b f _ _ _ w hH h)
 ·have h := bif_f a h
  refine gn rfl rfl a rfl <| gn rfl rfl a rfl <| gn rfl rfl a rfl <| og (ex_pickF' rfl a rfl rfl) rfl ?_
  exact Run.pick [1, 43] (z2u F false u s e n g m q p d b f _ _ _ w hH h)

def ref10_CheckAlert_4 (F : Nat) (f : Bool) (q : List UInt8) (m e g p a : Int) (d : List Int) (b : Bool) (n : Int) : Option (Int) :=
 bif f then
  bnd (ref00_In F a (1 : Int) (8 : Int)) fun s =>
  ref10_CheckAlert_5 F s q m e g p a d b n
 else
  ref10_CheckAlert_5 F false q m e g p a d b n

theorem z2s (F : Nat) : ∀ (y : Bool) (u : List UInt8) (s e n m d : Int) (q : List Int) (p : Bool) (g : Int) (b : SV) (f : Pos) (Fr : Rd) (M : Mem) (r : Int) (w : Slc Fr 1 (FlatR enc3) b q) (hH : Has Fr M [.obj f (.row 33 .whole (k0 u s e n m d b p g))]), ref10_CheckAlert_4 F y u s e n m d q p g = some r → Run Tryz.prog ⟨⟨94, [], none⟩, []⟩ 106 (z00 r) [(1, (.ptr f 0)), (32, (.bool y))] [itemC Tryz.prog 94 [1, 0] 28, codeC Tryz.prog 94 [1, 1]] M := by
 intro y u s e n m d q p g b f Fr M r w hH h
 rw [ref10_CheckAlert_4] at h
 refine mv rfl rfl ?_
 rcases btf (y) with a | a
 ·have h := bif_t a h
  refine gy rfl rfl a (ex_fieldAddr rfl z3w) rfl <| gy rfl rfl a (ex_load1 rfl (hH.cells (i := 0) rfl 5 rfl) rdLe_rfl z0c) rfl ?_
  obtain ⟨a0, x, h⟩ := bnd_some h
  refine Run.callP (wantS_yes' rfl rfl a) (ex_call rfl z9r z9v) rfl (z0k F d (1 : Int) (8 : Int) _ _ x) <| og (ex_pickT' rfl a rfl rfl) rfl ?_
  exact Run.pick [1, 37] (z38 F a0 u s e n m d q p g b f _ _ _ w hH h)
 ·have h := bif_f a h
  refine gn rfl rfl a rfl <| gn rfl rfl a rfl <| gn rfl rfl a rfl <| og (ex_pickF' rfl a rfl rfl) rfl ?_
  exact Run.pick [1, 37] (z38 F false u s e n m d q p g b f _ _ _ w hH h)

def ref10_CheckAlert_3 (F : Nat) (f : Bool) (q : List UInt8) (n g m a e : Int) (d : List Int) (b : Bool) (p : Int) : Option (Int) :=
 bif f then
  ref10_CheckAlert_4 F (decide (a ≤ (256 : Int))) q n g m a e d b p
 else
  ref10_CheckAlert_4 F false q n g m a e d b p

theorem z2t (F : Nat) : ∀ (x : Bool) (u : List UInt8) (s e n d m : Int) (q : List Int) (p : Bool) (g : Int) (b : SV) (f : Pos) (Fr : Rd) (M : Mem) (r : Int) (w : Slc Fr 1 (FlatR enc3) b q) (hH : Has Fr M [.obj f (.row 33 .whole (k0 u s e n d m b p g))]), ref10_CheckAlert_3 F x u s e n d m q p g = some r → Run Tryz.prog ⟨⟨94, [], none⟩, []⟩ 106 (z00 r) [(1, (.ptr f 0)), (26, (.bool x))] [itemC Tryz.prog 94 [1, 0] 22, codeC Tryz.prog 94 [1, 1]] M := by
 intro x u s e n d m q p g b f Fr M r w hH h
 rw [ref10_CheckAlert_3] at h
 refine mv rfl rfl ?_
 rcases btf (x) with a | a
 ·have h := bif_t a h
  refine gy rfl rfl a (ex_fieldAddr rfl z2q) rfl <| gy rfl rfl a (ex_fieldAddr rfl z5i) rfl <| gy rfl rfl a (ex_load1 rfl (hH.cells (i := 0) rfl 4 rfl) rdLe_rfl z0c) rfl <| gy rfl rfl a (ex_leq rfl rfl) rfl <| og (ex_pickT' rfl a rfl rfl) rfl ?_
  exact Run.pick [1, 32] (z2s F (decide (d ≤ (256 : Int))) u s e n d m q p g b f _ _ _ w hH h)
 ·have h := bif_f a h
  refine gn rfl rfl a rfl <| gn rfl rfl a rfl <| gn rfl rfl a rfl <| gn rfl rfl a rfl <| og (ex_pickF' rfl a rfl rfl) rfl ?_
  exact Run.pick [1, 32] (z2s F false u s e n d m q p g b f _ _ _ w hH h)

def ref10_CheckAlert_2 (F : Nat) (s : Bool) (q : List UInt8) (n m a b g : Int) (e : List Int) (d : Bool) (p : Int) : Option (Int) :=
 bif s then
  bnd (ref00_In F a (1 : Int) b) fun f =>
  ref10_CheckAlert_3 F f q n m a b g e d p
 else
  ref10_CheckAlert_3 F false q n m a b g e d p

theorem z2v (F : Nat) : ∀ (y : Bool) (u : List UInt8) (s g e d n : Int) (q : List Int) (p : Bool) (m : Int) (b : SV) (f : Pos) (Fr : Rd) (M : Mem) (r : Int) (w : Slc Fr 1 (FlatR enc3) b q) (hH : Has Fr M [.obj f (.row 33 .whole (k0 u s g e d n b p m))]), ref10_CheckAlert_2 F y u s g e d n q p m = some r → Run Tryz.prog ⟨⟨94, [], none⟩, []⟩ 106 (z00 r) [(1, (.ptr f 0)), (17, (.bool y))] [itemC Tryz.prog 94 [1, 0] 13, codeC Tryz.prog 94 [1, 1]] M := by
 intro y u s g e d n q p m b f Fr M r w hH h
 rw [ref10_CheckAlert_2] at h
 refine mv rfl rfl ?_
 rcases btf (y) with a | a
 ·have h := bif_t a h
  refine gy rfl rfl a (ex_fieldAddr rfl z2q) rfl <| gy rfl rfl a (ex_fieldAddr rfl z91) rfl <| gy rfl rfl a (ex_load1 rfl (hH.cells (i := 0) rfl 3 rfl) rdLe_rfl z0c) rfl <| gy rfl rfl a (ex_fieldAddr rfl z2q) rfl <| gy rfl rfl a (ex_fieldAddr rfl z5i) rfl <| gy rfl rfl a (ex_load1 rfl (hH.cells (i := 0) rfl 4 rfl) rdLe_rfl z0c) rfl ?_
  obtain ⟨a0, x, h⟩ := bnd_some h
  refine Run.callP (wantS_yes' rfl rfl a) (ex_call rfl z9r z9v) rfl (z0k F e (1 : Int) d _ _ x) <| og (ex_pickT' rfl a rfl rfl) rfl ?_
  exact Run.pick [1, 26] (z2t F a0 u s g e d n q p m b f _ _ _ w hH h)
 ·have h := bif_f a h
  refine gn rfl rfl a rfl <| gn rfl rfl a rfl <| gn rfl rfl a rfl <| gn rfl rfl a rfl <| gn rfl rfl a rfl <| gn rfl rfl a rfl <| gn rfl rfl a rfl <| og (ex_pickF' rfl a rfl rfl) rfl ?_
  exact Run.pick [1, 26] (z2t F false u s g e d n q p m b f _ _ _ w hH h)

def ref10_CheckAlert_1 (F : Nat) (s : Bool) (q : List UInt8) (m a g p e : Int) (d : List Int) (b : Bool) (n : Int) : Option (Int) :=
 bif s then
  bnd (ref00_In F a (0 : Int) (1073741824 : Int)) fun f =>
  ref10_CheckAlert_2 F f q m a g p e d b n
 else
  ref10_CheckAlert_2 F false q m a g p e d b n

theorem z2z (F : Nat) : ∀ (y : Bool) (u : List UInt8) (s d n g m : Int) (q : List Int) (p : Bool) (e : Int) (b : SV) (f : Pos) (Fr : Rd) (M : Mem) (r : Int) (w : Slc Fr 1 (FlatR enc3) b q) (hH : Has Fr M [.obj f (.row 33 .whole (k0 u s d n g m b p e))]), ref10_CheckAlert_1 F y u s d n g m q p e = some r → Run Tryz.prog ⟨⟨94, [], none⟩, []⟩ 106 (z00 r) [(1, (.ptr f 0)), (12, (.bool y))] [itemC Tryz.prog 94 [1, 0] 8, codeC Tryz.prog 94 [1, 1]] M := by
 intro y u s d n g m q p e b f Fr M r w hH h
 rw [ref10_CheckAlert_1] at h
 refine mv rfl rfl ?_
 rcases btf (y) with a | a
 ·have h := bif_t a h
  refine gy rfl rfl a (ex_fieldAddr rfl z4q) rfl <| gy rfl rfl a (ex_load1 rfl (hH.cells (i := 0) rfl 2 rfl) rdLe_rfl z0c) rfl ?_
  obtain ⟨a0, x, h⟩ := bnd_some h
  refine Run.callP (wantS_yes' rfl rfl a) (ex_call rfl z9r z9v) rfl (z0k F d (0 : Int) (1073741824 : Int) _ _ x) <| og (ex_pickT' rfl a rfl rfl) rfl ?_
  exact Run.pick [1, 17] (z2v F a0 u s d n g m q p e b f _ _ _ w hH h)
 ·have h := bif_f a h
  refine gn rfl rfl a rfl <| gn rfl rfl a rfl <| gn rfl rfl a rfl <| og (ex_pickF' rfl a rfl rfl) rfl ?_
  exact Run.pick [1, 17] (z2v F false u s d n g m q p e b f _ _ _ w hH h)

def ref10_CheckAlert (F : Nat) (a0 : S_api_Alert) : Option (Int) :=
 bnd (ref01_IsName F a0.Event) fun a =>
 bif a then
  bnd (ref00_In F a0.Version (1 : Int) (1000 : Int)) fun b =>
  ref10_CheckAlert_1 F b a0.Event a0.Version a0.Time a0.Chance.N a0.Chance.Of a0.Grid a0.Cells a0.Withdrawn a0.Before
 else
  ref10_CheckAlert_1 F false a0.Event a0.Version a0.Time a0.Chance.N a0.Chance.Of a0.Grid a0.Cells a0.Withdrawn a0.Before

theorem z85 (F : Nat) (a0 : S_api_Alert) (s0 : SV) (r : Int) (M : Mem) (f : Slc (rd M) 1 (FlatR enc3) s0 a0.Cells) (h : ref10_CheckAlert F a0 = some r) : CallsM Tryz.prog 94 [(.agg (r0 a0 s0))] M (fun s M' => s = (.int .i64 r) ∧ M' = M) := by
 refine CallsM.plain Tryz.func94 rfl rfl rfl (show Run _ _ _ (z00 r) _ _ _ from ?_)
 rw [ref10_CheckAlert] at h
 replace f := f.mono (rdLe_frozen M) (fun _ _ h => h)
 have hH := Has.nil (frozen M)
 refine Run.seq (Run.region ?_)
 refine ox rfl (ExG.box rfl rfl hH) ?_
 rintro _ p ⟨g, rfl, b⟩
 refine av rfl rfl ?_
 refine Run.opsEnd (Run.seq (Run.region ?_))
 refine og (ex_fieldAddr rfl z10) rfl <| og (ex_load1 rfl (b.cells (i := 0) rfl 0 rfl) rdLe_rfl zam) rfl ?_
 obtain ⟨n, d, h⟩ := bnd_some h
 refine Run.callP wantS_none (ex_call rfl ze3 zf2) rfl (za8 F a0.Event _ _ d) <| mv rfl rfl ?_
 rcases btf (n) with a | a
 ·have h := bif_t a h
  refine gy rfl rfl a (ex_fieldAddr rfl z3r) rfl <| gy rfl rfl a (ex_load1 rfl (b.cells (i := 0) rfl 1 rfl) rdLe_rfl z0c) rfl ?_
  obtain ⟨m, e, h⟩ := bnd_some h
  refine Run.callP (wantS_yes' rfl rfl a) (ex_call rfl z9r z9v) rfl (z0k F a0.Version (1 : Int) (1000 : Int) _ _ e) <| og (ex_pickT' rfl a rfl rfl) rfl ?_
  exact Run.pick [1, 12] (z2z F m a0.Event a0.Version a0.Time a0.Chance.N a0.Chance.Of a0.Grid a0.Cells a0.Withdrawn a0.Before s0 g _ _ _ f b h)
 ·have h := bif_f a h
  refine gn rfl rfl a rfl <| gn rfl rfl a rfl <| gn rfl rfl a rfl <| og (ex_pickF' rfl a rfl rfl) rfl ?_
  exact Run.pick [1, 12] (z2z F false a0.Event a0.Version a0.Time a0.Chance.N a0.Chance.Of a0.Grid a0.Cells a0.Withdrawn a0.Before s0 g _ _ _ f b h)

theorem zg9 : makeK Tryz.prog 94 = none := by kernel_rfl
theorem zhm : callable Tryz.prog 94 = true := by kernel_rfl
abbrev z1o (r : Int) : SV → Mem → Prop := fun s _ => s = (.int .i64 r)

def ref10_power_2 (F : Nat) (a : Int → Int → Int → Int → Option (Int)) (v0 v1 v2 v7 : Int) : Option (Int) :=
 bnd (nz v2) fun b =>
 a (Int.tmod (w64 (v0 * v0)) v2) (w64 (Int.tdiv v1 (2 : Int))) v2 v7

theorem z5x (F : Nat) (d : Int → Int → Int → Int → Option (Int)) (a : ∀ (v0 v1 v2 v7 : Int) (Fr : Rd) (M : Mem) (r : Int) (hH : Has Fr M []), d v0 v1 v2 v7 = some r → Run Tryz.prog ⟨⟨159, [], none⟩, []⟩ 31 (z1o r) [(0, (.int .i64 v0)), (1, (.int .i64 v1)), (2, (.int .i64 v2)), (7, (.int .i64 v7))] [codeC Tryz.prog 159 [1, 1, 1, 0, 0, 0], loopC Tryz.prog 159 [1, 1, 1, 0, 0, 0], .inBlock 0, codeC Tryz.prog 159 [1, 1, 1, 1]] M) : ∀ (v0 v1 v2 v7 : Int) (Fr : Rd) (M : Mem) (r : Int) (hH : Has Fr M []), ref10_power_2 F d v0 v1 v2 v7 = some r → Run Tryz.prog ⟨⟨159, [], none⟩, []⟩ 31 (z1o r) [(0, (.int .i64 v0)), (1, (.int .i64 v1)), (2, (.int .i64 v2)), (7, (.int .i64 v7))] [itemC Tryz.prog 159 [1, 1, 1, 0, 0, 0, 1, 0, 1, 0] 0, codeC Tryz.prog 159 [1, 1, 1, 0, 0, 0, 1, 0, 1, 1], .inBlock 1, loopC Tryz.prog 159 [1, 1, 1, 0, 0, 0], .inBlock 0, codeC Tryz.prog 159 [1, 1, 1, 1]] M := by
 intro v0 v1 v2 v7 Fr M r hH h
 rw [ref10_power_2] at h
 refine mv rfl rfl <| mv rfl rfl <| og (ex_mul rfl rfl) rfl <| mv rfl rfl ?_
 obtain ⟨e, b, h⟩ := bnd_some h
 refine og (ex_rem' rfl rfl b) rfl <| av rfl rfl ?_
 refine Run.opsEnd (Run.region ?_)
 refine mv rfl rfl <| og (ex_quo rfl rfl (by decide)) rfl <| av rfl rfl ?_
 refine Run.opsEnd (Run.inBlock (Run.inLoop ?_))
 exact Run.pick [0, 1, 2, 7] (a (Int.tmod (w64 (v0 * v0)) v2) (w64 (Int.tdiv v1 (2 : Int))) v2 v7 _ _ _ hH h)

def ref10_power_1 (F : Nat) : Nat → Int → Int → Int → Int → Option (Int)
 | 0, _, _, _, _ => none
 | N + 1, v0, v1, v2, v7 =>
  bif (decide ((0 : Int) < v1)) then
   bif ((Int.tmod v1 (2 : Int)) == (1 : Int)) then
    bnd (nz v2) fun a =>
    ref10_power_2 F (ref10_power_1 F N) v0 v1 v2 (Int.tmod (w64 (v7 * v0)) v2)
   else
    ref10_power_2 F (ref10_power_1 F N) v0 v1 v2 v7
  else
   some v7

theorem z9s (F : Nat) : ∀ (N : Nat), ∀ (v0 v1 v2 v7 : Int) (Fr : Rd) (M : Mem) (r : Int) (hH : Has Fr M []), ref10_power_1 F N v0 v1 v2 v7 = some r → Run Tryz.prog ⟨⟨159, [], none⟩, []⟩ 31 (z1o r) [(0, (.int .i64 v0)), (1, (.int .i64 v1)), (2, (.int .i64 v2)), (7, (.int .i64 v7))] [codeC Tryz.prog 159 [1, 1, 1, 0, 0, 0], loopC Tryz.prog 159 [1, 1, 1, 0, 0, 0], .inBlock 0, codeC Tryz.prog 159 [1, 1, 1, 1]] M := by
 intro N
 induction N with
 | zero =>
  intro v0 v1 v2 v7 Fr M r hH h
  simp [ref10_power_1] at h
 | succ N ih =>
  intro v0 v1 v2 v7 Fr M r hH h
  rw [ref10_power_1] at h
  refine Run.seq (Run.seq (Run.region ?_))
  refine mv rfl rfl <| og (ex_gtr rfl rfl) rfl <| Run.opsEnd ?_
  rcases btf ((decide ((0 : Int) < v1))) with hc25 | hc25
  ·have h := bif_t hc25 h
   refine Run.condT' rfl hc25 ?_
   refine Run.skip (Run.block (Run.seq (Run.seq (Run.region ?_))))
   refine mv rfl rfl <| og (ex_rem rfl rfl (by decide)) rfl <| og (ex_eql rfl rfl) rfl <| Run.opsEnd ?_
   rcases btf (((Int.tmod v1 (2 : Int)) == (1 : Int))) with hc26 | hc26
   ·have h := bif_t hc26 h
    refine Run.condT' rfl hc26 <| Run.region <| mv rfl rfl <| mv rfl rfl <| og (ex_mul rfl rfl) rfl <| mv rfl rfl ?_
    obtain ⟨b, a, h⟩ := bnd_some h
    refine og (ex_rem' rfl rfl a) rfl <| av rfl rfl ?_
    refine Run.opsEnd (Run.seq (Run.region ?_))
    exact Run.pick [0, 1, 2, 7] (z5x F (ref10_power_1 F N) ih v0 v1 v2 (Int.tmod (w64 (v7 * v0)) v2) _ _ _ hH h)
   ·have h := bif_f hc26 h
    refine Run.condF' rfl hc26 ?_
    refine Run.skip (Run.seq (Run.region ?_))
    exact Run.pick [0, 1, 2, 7] (z5x F (ref10_power_1 F N) ih v0 v1 v2 v7 _ _ _ hH h)
  ·have h := bif_f hc25 h
   refine Run.condF' rfl hc25 ?_
   refine Run.exit rfl (Run.seq (Run.region ?_))
   refine mv rfl rfl <| av rfl rfl <| Run.opsEnd ?_
   cases h
   exact Run.ret Tryz.func159 rfl (res_tmp rfl res_nil) rfl

def ref10_power (F : Nat) (a0 a1 a2 : Int) : Option (Int) :=
 bnd (nz a2) fun b =>
 bnd (nz a2) fun a =>
 ref10_power_1 F F (Int.tmod a0 a2) a1 a2 (Int.tmod (1 : Int) a2)

theorem zan (F : Nat) (a0 a1 a2 r : Int) (M : Mem) (h : ref10_power F a0 a1 a2 = some r) : CallsM Tryz.prog 159 [(.int .i64 a0), (.int .i64 a1), (.int .i64 a2)] M (fun s M' => s = (.int .i64 r) ∧ M' = M) := by
 refine CallsM.plain Tryz.func159 rfl rfl rfl (show Run _ _ _ (z1o r) _ _ _ from ?_)
 rw [ref10_power] at h
 have hH := Has.nil (frozen M)
 refine Run.seq (Run.region ?_)
 refine av rfl rfl ?_
 refine Run.opsEnd (Run.seq (Run.region ?_))
 refine mv rfl rfl ?_
 obtain ⟨e, b, h⟩ := bnd_some h
 refine og (ex_rem' rfl rfl b) rfl <| av rfl rfl ?_
 refine Run.opsEnd (Run.seq (Run.region ?_))
 refine mv rfl rfl <| mv rfl rfl ?_
 obtain ⟨d, a, h⟩ := bnd_some h
 refine og (ex_rem' rfl rfl a) rfl <| av rfl rfl ?_
 refine Run.opsEnd (Run.seq (Run.block (Run.loop ?_)))
 exact Run.pick [0, 1, 2, 7] (z9s F F (Int.tmod a0 a2) a1 a2 (Int.tmod (1 : Int) a2) _ _ _ hH h)

theorem zdm : makeK Tryz.prog 159 = none := by kernel_rfl
theorem zef : callable Tryz.prog 159 = true := by kernel_rfl
theorem zcy : uvK Tryz.prog 3 21 = none := by kernel_rfl
theorem zd1 : cvK Tryz.prog 3 21 = some (.int .i32) := by kernel_rfl
theorem zcu : uvK Tryz.prog 21 9 = none := by kernel_rfl
theorem zd9 : cvK Tryz.prog 21 9 = some .rune := by kernel_rfl
abbrev z0u (r : List UInt8) : SV → Mem → Prop := fun s _ => s = (.str r)

def ref00_Decimal_2 (F : Nat) (a : Int → List UInt8 → Bool → Option ((List UInt8))) (v0 : Int) (v3 : List UInt8) (v4 : Bool) (v5 : Int) : Option ((List UInt8)) :=
 bnd (runeS (IntKind.wrap .i32 (w64 ((48 : Int) + v5)))) fun b =>
 bnd (sCat b v3) fun d =>
 a (w64 (Int.tdiv v0 (10 : Int))) d v4

theorem z4k (F : Nat) (e : Int → List UInt8 → Bool → Option ((List UInt8))) (d : ∀ (v0 : Int) (v3 : List UInt8) (v4 : Bool) (Fr : Rd) (M : Mem) (r : List UInt8) (hH : Has Fr M []), e v0 v3 v4 = some r → Run Tryz.prog ⟨⟨27, [], none⟩, []⟩ 30 (z0u r) [(0, (.int .i64 v0)), (3, (.str v3)), (4, (.bool v4))] [codeC Tryz.prog 27 [1, 1, 1, 1, 0, 0, 0], loopC Tryz.prog 27 [1, 1, 1, 1, 0, 0, 0], .inBlock 0, codeC Tryz.prog 27 [1, 1, 1, 1, 1]] M) : ∀ (v0 : Int) (v3 : List UInt8) (v4 : Bool) (v5 : Int) (Fr : Rd) (M : Mem) (r : List UInt8) (hH : Has Fr M []), ref00_Decimal_2 F e v0 v3 v4 v5 = some r → Run Tryz.prog ⟨⟨27, [], none⟩, []⟩ 30 (z0u r) [(0, (.int .i64 v0)), (3, (.str v3)), (4, (.bool v4)), (5, (.int .i64 v5))] [itemC Tryz.prog 27 [1, 1, 1, 1, 0, 0, 0, 1, 0, 1, 1, 0] 0, codeC Tryz.prog 27 [1, 1, 1, 1, 0, 0, 0, 1, 0, 1, 1, 1], .inBlock 1, loopC Tryz.prog 27 [1, 1, 1, 1, 0, 0, 0], .inBlock 0, codeC Tryz.prog 27 [1, 1, 1, 1, 1]] M := by
 intro v0 v3 v4 v5 Fr M r hH h
 rw [ref00_Decimal_2] at h
 refine mv rfl rfl <| og (ex_add rfl rfl) rfl <| og (ex_conv rfl zcy zd1) rfl ?_
 obtain ⟨g, b, h⟩ := bnd_some h
 refine og (ex_rune rfl zcu zd9 b) rfl <| mv rfl rfl ?_
 obtain ⟨f, a, h⟩ := bnd_some h
 refine og (ex_cat rfl rfl a) rfl <| av rfl rfl ?_
 refine Run.opsEnd (Run.region ?_)
 refine mv rfl rfl <| og (ex_quo rfl rfl (by decide)) rfl <| av rfl rfl ?_
 refine Run.opsEnd (Run.inBlock (Run.inLoop ?_))
 exact Run.pick [0, 3, 4] (d (w64 (Int.tdiv v0 (10 : Int))) f v4 _ _ _ hH h)

def z2d (F : Nat) (v3 : List UInt8) : Option ((List UInt8)) :=
 some v3

theorem z4j (F : Nat) : ∀ (v3 : List UInt8) (Fr : Rd) (M : Mem) (r : List UInt8) (hH : Has Fr M []), z2d F v3 = some r → Run Tryz.prog ⟨⟨27, [], none⟩, []⟩ 30 (z0u r) [(3, (.str v3))] [itemC Tryz.prog 27 [1, 1, 1, 1, 1, 1, 0] 0, codeC Tryz.prog 27 [1, 1, 1, 1, 1, 1, 1]] M := by
 intro v3 Fr M r hH h
 rw [z2d] at h
 refine mv rfl rfl <| av rfl rfl <| Run.opsEnd ?_
 cases h
 exact Run.ret Tryz.func27 rfl (res_tmp rfl res_nil) rfl

def ref00_Decimal_1 (F : Nat) : Nat → Int → List UInt8 → Bool → Option ((List UInt8))
 | 0, _, _, _ => none
 | N + 1, v0, v3, v4 =>
  bif (!(v0 == (0 : Int))) then
   bif (decide ((Int.tmod v0 (10 : Int)) < (0 : Int))) then
    ref00_Decimal_2 F (ref00_Decimal_1 F N) v0 v3 v4 (w64 (-(Int.tmod v0 (10 : Int))))
   else
    ref00_Decimal_2 F (ref00_Decimal_1 F N) v0 v3 v4 (Int.tmod v0 (10 : Int))
  else
   bif v4 then
    bnd (sCat [45] v3) fun a =>
    z2d F a
   else
    z2d F v3

theorem z8k (F : Nat) : ∀ (N : Nat), ∀ (v0 : Int) (v3 : List UInt8) (v4 : Bool) (Fr : Rd) (M : Mem) (r : List UInt8) (hH : Has Fr M []), ref00_Decimal_1 F N v0 v3 v4 = some r → Run Tryz.prog ⟨⟨27, [], none⟩, []⟩ 30 (z0u r) [(0, (.int .i64 v0)), (3, (.str v3)), (4, (.bool v4))] [codeC Tryz.prog 27 [1, 1, 1, 1, 0, 0, 0], loopC Tryz.prog 27 [1, 1, 1, 1, 0, 0, 0], .inBlock 0, codeC Tryz.prog 27 [1, 1, 1, 1, 1]] M := by
 intro N
 induction N with
 | zero =>
  intro v0 v3 v4 Fr M r hH h
  simp [ref00_Decimal_1] at h
 | succ N ih =>
  intro v0 v3 v4 Fr M r hH h
  rw [ref00_Decimal_1] at h
  refine Run.seq (Run.seq (Run.region ?_))
  refine mv rfl rfl <| og (ex_neq rfl rfl) rfl <| Run.opsEnd ?_
  rcases btf ((!(v0 == (0 : Int)))) with hc22 | hc22
  ·have h := bif_t hc22 h
   refine Run.condT' rfl hc22 ?_
   refine Run.skip (Run.block (Run.seq (Run.region ?_)))
   refine mv rfl rfl <| og (ex_rem rfl rfl (by decide)) rfl <| av rfl rfl ?_
   refine Run.opsEnd (Run.seq (Run.seq (Run.region ?_)))
   refine mv rfl rfl <| og (ex_lss rfl rfl) rfl <| Run.opsEnd ?_
   rcases btf ((decide ((Int.tmod v0 (10 : Int)) < (0 : Int)))) with hc23 | hc23
   ·have h := bif_t hc23 h
    refine Run.condT' rfl hc23 <| Run.region <| mv rfl rfl <| og (ex_neg rfl) rfl <| av rfl rfl ?_
    refine Run.opsEnd (Run.seq (Run.region ?_))
    exact Run.pick [0, 3, 4, 5] (z4k F (ref00_Decimal_1 F N) ih v0 v3 v4 (w64 (-(Int.tmod v0 (10 : Int)))) _ _ _ hH h)
   ·have h := bif_f hc23 h
    refine Run.condF' rfl hc23 ?_
    refine Run.skip (Run.seq (Run.region ?_))
    exact Run.pick [0, 3, 4, 5] (z4k F (ref00_Decimal_1 F N) ih v0 v3 v4 (Int.tmod v0 (10 : Int)) _ _ _ hH h)
  ·have h := bif_f hc22 h
   refine Run.condF' rfl hc22 ?_
   refine Run.exit rfl (Run.seq (Run.seq (Run.region ?_)))
   refine mv rfl rfl <| Run.opsEnd ?_
   rcases btf (v4) with a | a
   ·have h := bif_t a h
    refine Run.condT' rfl a <| Run.region <| mv rfl rfl ?_
    obtain ⟨d, b, h⟩ := bnd_some h
    refine og (ex_cat rfl rfl b) rfl <| av rfl rfl ?_
    refine Run.opsEnd (Run.seq (Run.region ?_))
    exact Run.pick [3] (z4j F d _ _ _ hH h)
   ·have h := bif_f a h
    refine Run.condF' rfl a ?_
    refine Run.skip (Run.seq (Run.region ?_))
    exact Run.pick [3] (z4j F v3 _ _ _ hH h)

def ref00_Decimal (F : Nat) (a0 : Int) : Option ((List UInt8)) :=
 bif (a0 == (0 : Int)) then
  some [48]
 else
  ref00_Decimal_1 F F a0 [] (decide (a0 < (0 : Int)))

theorem z0l (F : Nat) (a0 : Int) (r : List UInt8) (M : Mem) (h : ref00_Decimal F a0 = some r) : CallsM Tryz.prog 27 [(.int .i64 a0)] M (fun s M' => s = (.str r) ∧ M' = M) := by
 refine CallsM.plain Tryz.func27 rfl rfl rfl (show Run _ _ _ (z0u r) _ _ _ from ?_)
 rw [ref00_Decimal] at h
 have hH := Has.nil (frozen M)
 refine Run.seq (Run.region ?_)
 refine av rfl rfl ?_
 refine Run.opsEnd (Run.seq (Run.seq (Run.region ?_)))
 refine mv rfl rfl <| og (ex_eql rfl rfl) rfl <| Run.opsEnd ?_
 rcases btf ((a0 == (0 : Int))) with hc21 | hc21
 ·have h := bif_t hc21 h
  refine Run.condT' rfl hc21 ?_
  refine Run.seq (Run.region ?_)
  refine av rfl rfl <| Run.opsEnd ?_
  cases h
  exact Run.ret Tryz.func27 rfl (res_tmp rfl res_nil) rfl
 ·have h := bif_f hc21 h
  refine Run.condF' rfl hc21 ?_
  refine Run.skip (Run.seq (Run.region ?_))
  refine av rfl rfl ?_
  refine Run.opsEnd (Run.seq (Run.region ?_))
  refine mv rfl rfl <| og (ex_lss rfl rfl) rfl <| av rfl rfl ?_
  refine Run.opsEnd (Run.seq (Run.block (Run.loop ?_)))
  exact Run.pick [0, 3, 4] (z8k F F a0 [] (decide (a0 < (0 : Int))) _ _ _ hH h)

theorem zbh : makeK Tryz.prog 27 = none := by kernel_rfl
theorem zbg : callable Tryz.prog 27 = true := by kernel_rfl
theorem zbp : planOf Tryz.prog (opsC (atC Tryz.prog 96 [1, 0])) = some [.fl 0, .fl 1, .fl 2, .fl 3, .fl 4, .fl 5, .fl 9, .fl 10, .fl 14, .fl 15, .fl 16, .fl 20, .fl 21, .fl 22, .fl 26, .fl 27, .an 6 [27, 26, 22, 21, 20, 16, 15, 14, 10, 9, 3, 2, 1, 0], .fl 7, .fl 8, .an 11 [8, 7, 27, 26, 22, 21, 20, 16, 15, 14, 3, 2, 1, 0], .fl 12, .fl 13, .an 17 [13, 12, 8, 7, 27, 26, 22, 21, 20, 3, 2, 1, 0], .fl 18, .fl 19, .an 23 [19, 18, 13, 12, 8, 7, 27, 26, 3, 2, 1, 0], .fl 24, .fl 25, .an 28 [25, 24, 19, 18, 13, 12, 8, 7, 3, 2, 1, 0], .fl 29, .fl 30, .fl 31, .sync] := by kernel_rfl
abbrev z3y (r : List UInt8) : SV → Mem → Prop := fun s _ => s = (.str r)

def ref10_text_2 (F : Nat) : Nat → List UInt8 → Int → List UInt8 → Int → Int → Int → Int → Int → List Int → Bool → Int → Option ((List UInt8))
 | 0, _, _, _, _, _, _, _, _, _, _, _ => none
 | N + 1, v3, v4, q, n, e, p, g, m, a, d, b =>
  bif (decide (v4 < (a.length : Int))) then
   bnd (sCat v3 [32]) fun s =>
   bnd (idx a v4) fun f =>
   bnd (ref00_Decimal F f) fun a0 =>
   bnd (sCat s a0) fun y =>
   (ref10_text_2 F N) y (w64 (v4 + (1 : Int))) q n e p g m a d b
  else
   bnd (sCat v3 [10, 98, 101, 102, 111, 114, 101, 32]) fun u =>
   bnd (ref00_Decimal F b) fun a1 =>
   bnd (sCat u a1) fun x =>
   bnd (sCat x [10, 101, 110, 100, 10]) fun w =>
   some w

theorem zac (F : Nat) : ∀ (N : Nat), ∀ (v3 : List UInt8) (v4 : Int) (u : List UInt8) (s g p m n : Int) (e : List Int) (q : Bool) (d : Int) (b : SV) (f : Pos) (Fr : Rd) (M : Mem) (r : List UInt8) (a : Slc Fr 1 (FlatR enc3) b e) (hH : Has Fr M [.obj f (.row 33 .whole (k0 u s g p m n b q d))]), ref10_text_2 F N v3 v4 u s g p m n e q d = some r → Run Tryz.prog ⟨⟨96, [], none⟩, []⟩ 65 (z3y r) [(1, (.ptr f 0)), (3, (.str v3)), (4, (.int .i64 v4))] [codeC Tryz.prog 96 [1, 1, 1, 0, 1, 0, 0], loopC Tryz.prog 96 [1, 1, 1, 0, 1, 0, 0], .inBlock 0, codeC Tryz.prog 96 [1, 1, 1, 1]] M := by
 intro N
 induction N with
 | zero =>
  intro v3 v4 u s g p m n e q d b f Fr M r a hH h
  simp [ref10_text_2] at h
 | succ N ih =>
  intro v3 v4 u s g p m n e q d b f Fr M r a hH h
  rw [ref10_text_2] at h
  refine Run.seq (Run.seq (Run.region ?_))
  refine mv rfl rfl <| og (ex_fieldAddr rfl z16) rfl <| og (ex_load1 rfl (hH.cells (i := 0) rfl 6 rfl) rdLe_rfl z7y) rfl <| og (ex_len' rfl a z8t) rfl <| og (ex_lss rfl rfl) rfl <| Run.opsEnd ?_
  rcases btf ((decide (v4 < (e.length : Int)))) with hc49 | hc49
  ·have h := bif_t hc49 h
   refine Run.condT' rfl hc49 ?_
   refine Run.skip (Run.seq (Run.block (Run.region ?_)))
   refine mv rfl rfl ?_
   obtain ⟨a8, a1, h⟩ := bnd_some h
   refine og (ex_cat rfl rfl a1) rfl <| og (ex_fieldAddr rfl z16) rfl <| og (ex_load1 rfl (hH.cells (i := 0) rfl 6 rfl) rdLe_rfl z7y) rfl <| mv rfl rfl ?_
   obtain ⟨a7, w, h⟩ := bnd_some h
   obtain ⟨b0, b3, _, w, a4, rfl⟩ := sl_elem (P := Tryz.prog) (t := 31) (kk := .i64) a w zb7
   refine og (ex_elX rfl rfl w) rfl <| og (ex_load1 rfl (hH.ptrF a4) rdLe_rfl z0c) rfl ?_
   obtain ⟨b2, y, h⟩ := bnd_some h
   refine Run.callP wantS_none (ex_call rfl zbh zbg) rfl (z0l F a7 _ _ y) ?_
   obtain ⟨a6, a3, h⟩ := bnd_some h
   refine og (ex_cat rfl rfl a3) rfl <| av rfl rfl ?_
   refine Run.opsEnd (Run.inBlock (Run.region ?_))
   refine mv rfl rfl <| og (ex_add rfl rfl) rfl <| av rfl rfl ?_
   refine Run.opsEnd (Run.inLoop ?_)
   exact Run.pick [1, 3, 4] (ih a6 (w64 (v4 + (1 : Int))) u s g p m n e q d b f _ _ _ a hH h)
  ·have h := bif_f hc49 h
   refine Run.condF' rfl hc49 ?_
   refine Run.exit rfl (Run.seq (Run.region ?_))
   refine mv rfl rfl ?_
   obtain ⟨a9, a0, h⟩ := bnd_some h
   refine og (ex_cat rfl rfl a0) rfl <| og (ex_fieldAddr rfl z5k) rfl <| og (ex_load1 rfl (hH.cells (i := 0) rfl 8 rfl) rdLe_rfl z0c) rfl ?_
   obtain ⟨b5, x, h⟩ := bnd_some h
   refine Run.callP wantS_none (ex_call rfl zbh zbg) rfl (z0l F d _ _ x) ?_
   obtain ⟨b1, a5, h⟩ := bnd_some h
   refine og (ex_cat rfl rfl a5) rfl ?_
   obtain ⟨b4, a2, h⟩ := bnd_some h
   refine og (ex_cat rfl rfl a2) rfl <| av rfl rfl <| Run.opsEnd ?_
   cases h
   exact Run.ret Tryz.func96 rfl (res_tmp rfl res_nil) rfl

def ref10_text_1 (F : Nat) (v3 q : List UInt8) (m e g p d : Int) (b : List Int) (a : Bool) (n : Int) : Option ((List UInt8)) :=
 ref10_text_2 F F v3 (0 : Int) q m e g p d b a n

theorem z6x (F : Nat) : ∀ (v3 s : List UInt8) (q b m e g : Int) (p : List Int) (n : Bool) (d : Int) (a : SV) (f : Pos) (Fr : Rd) (M : Mem) (r : List UInt8) (u : Slc Fr 1 (FlatR enc3) a p) (hH : Has Fr M [.obj f (.row 33 .whole (k0 s q b m e g a n d))]), ref10_text_1 F v3 s q b m e g p n d = some r → Run Tryz.prog ⟨⟨96, [], none⟩, []⟩ 65 (z3y r) [(1, (.ptr f 0)), (3, (.str v3))] [itemC Tryz.prog 96 [1, 1, 1, 0, 0] 0, codeC Tryz.prog 96 [1, 1, 1, 0, 1], codeC Tryz.prog 96 [1, 1, 1, 1]] M := by
 intro v3 s q b m e g p n d a f Fr M r u hH h
 rw [ref10_text_1] at h
 refine av rfl rfl ?_
 refine Run.opsEnd (Run.block (Run.loop ?_))
 exact Run.pick [1, 3, 4] (zac F F v3 (0 : Int) s q b m e g p n d a f _ _ _ u hH h)

def ref10_text (F : Nat) (a0 : S_api_Alert) : Option ((List UInt8)) :=
 bnd (sCat [97, 108, 101, 114, 116, 32] a0.Event) fun p =>
 bnd (sCat p [32]) fun a3 =>
 bnd (ref00_Decimal F a0.Version) fun s =>
 bnd (sCat a3 s) fun w =>
 bnd (sCat w [10, 116, 105, 109, 101, 32]) fun a4 =>
 bnd (ref00_Decimal F a0.Time) fun q =>
 bnd (sCat a4 q) fun f =>
 bnd (sCat f [10, 99, 104, 97, 110, 99, 101, 32]) fun a1 =>
 bnd (ref00_Decimal F a0.Chance.N) fun y =>
 bnd (sCat a1 y) fun g =>
 bnd (sCat g [32]) fun n =>
 bnd (ref00_Decimal F a0.Chance.Of) fun b =>
 bnd (sCat n b) fun a2 =>
 bnd (sCat a2 [10, 103, 114, 105, 100, 32]) fun e =>
 bnd (ref00_Decimal F a0.Grid) fun x =>
 bnd (sCat e x) fun d =>
 bnd (sCat d [10]) fun a =>
 bif a0.Withdrawn then
  bnd (sCat a [119, 105, 116, 104, 100, 114, 97, 119, 110]) fun m =>
  ref10_text_1 F m a0.Event a0.Version a0.Time a0.Chance.N a0.Chance.Of a0.Grid a0.Cells a0.Withdrawn a0.Before
 else
  bnd (sCat a [99, 101, 108, 108, 115]) fun u =>
  ref10_text_1 F u a0.Event a0.Version a0.Time a0.Chance.N a0.Chance.Of a0.Grid a0.Cells a0.Withdrawn a0.Before

theorem zb0 (F : Nat) (a0 : S_api_Alert) (s0 : SV) (r : List UInt8) (M : Mem) (f : Slc (rd M) 1 (FlatR enc3) s0 a0.Cells) (h : ref10_text F a0 = some r) : CallsM Tryz.prog 96 [(.agg (r0 a0 s0))] M (fun s M' => s = (.str r) ∧ M' = M) := by
 refine CallsM.plain Tryz.func96 rfl rfl rfl (show Run _ _ _ (z3y r) _ _ _ from ?_)
 rw [ref10_text] at h
 replace f := f.mono (rdLe_frozen M) (fun _ _ h => h)
 have hH := Has.nil (frozen M)
 refine Run.seq (Run.region ?_)
 refine ox rfl (ExG.box rfl rfl hH) ?_
 rintro _ c3 ⟨a9, rfl, a⟩
 refine av rfl rfl ?_
 refine Run.opsEnd (Run.seq ?_)
 refine Run.drawG zbp <| df rfl (ex_fieldAddr rfl z10) rfl <| df rfl (ex_load1 rfl (a.cells (i := 0) rfl 0 rfl) rdLe_rfl zam) rfl ?_
 obtain ⟨b4, b, h⟩ := bnd_some h
 refine df rfl (ex_cat rfl rfl b) rfl ?_
 obtain ⟨c0, d, h⟩ := bnd_some h
 refine df rfl (ex_cat rfl rfl d) rfl <| df rfl (ex_fieldAddr rfl z3r) rfl <| df rfl (ex_load1 rfl (a.cells (i := 0) rfl 1 rfl) rdLe_rfl z0c) rfl <| df rfl (ex_fieldAddr rfl z4q) rfl <| df rfl (ex_load1 rfl (a.cells (i := 0) rfl 2 rfl) rdLe_rfl z0c) rfl <| df rfl (ex_fieldAddr rfl z2q) rfl <| df rfl (ex_fieldAddr rfl z91) rfl <| df rfl (ex_load1 rfl (a.cells (i := 0) rfl 3 rfl) rdLe_rfl z0c) rfl <| df rfl (ex_fieldAddr rfl z2q) rfl <| df rfl (ex_fieldAddr rfl z5i) rfl <| df rfl (ex_load1 rfl (a.cells (i := 0) rfl 4 rfl) rdLe_rfl z0c) rfl <| df rfl (ex_fieldAddr rfl z3w) rfl <| df rfl (ex_load1 rfl (a.cells (i := 0) rfl 5 rfl) rdLe_rfl z0c) rfl ?_
 obtain ⟨b6, a1, h⟩ := bnd_some h
 refine DrawG.callP rfl wantS_none (ex_call rfl zbh zbg) rfl (z0l F a0.Version _ _ a1) (st_cons rfl (ev_ex wantS_none (ex_load1 rfl (a.cells (i := 0) rfl 5 rfl) rdLe_rfl z0c)) rfl rfl rfl (st_cons rfl (ev_ex wantS_none (ex_fieldAddr rfl z3w)) rfl rfl rfl (st_cons rfl (ev_ex wantS_none (ex_load1 rfl (a.cells (i := 0) rfl 4 rfl) rdLe_rfl z0c)) rfl rfl rfl (st_cons rfl (ev_ex wantS_none (ex_fieldAddr rfl z5i)) rfl rfl rfl (st_cons rfl (ev_ex wantS_none (ex_fieldAddr rfl z2q)) rfl rfl rfl (st_cons rfl (ev_ex wantS_none (ex_load1 rfl (a.cells (i := 0) rfl 3 rfl) rdLe_rfl z0c)) rfl rfl rfl (st_cons rfl (ev_ex wantS_none (ex_fieldAddr rfl z91)) rfl rfl rfl (st_cons rfl (ev_ex wantS_none (ex_fieldAddr rfl z2q)) rfl rfl rfl (st_cons rfl (ev_ex wantS_none (ex_load1 rfl (a.cells (i := 0) rfl 2 rfl) rdLe_rfl z0c)) rfl rfl rfl (st_cons rfl (ev_ex wantS_none (ex_fieldAddr rfl z4q)) rfl rfl rfl (st_cons rfl (ev_ex wantS_none (ex_cat rfl rfl d)) rfl rfl rfl (st_cons rfl (ev_ex wantS_none (ex_cat rfl rfl b)) rfl rfl rfl (st_cons rfl (ev_ex wantS_none (ex_load1 rfl (a.cells (i := 0) rfl 0 rfl) rdLe_rfl zam)) rfl rfl rfl (st_cons rfl (ev_ex wantS_none (ex_fieldAddr rfl z10)) rfl rfl rfl st_nil)))))))))))))) ?_
 obtain ⟨c7, m, h⟩ := bnd_some h
 refine df rfl (ex_cat rfl rfl m) rfl ?_
 obtain ⟨c1, e, h⟩ := bnd_some h
 refine df rfl (ex_cat rfl rfl e) rfl ?_
 obtain ⟨b7, a4, h⟩ := bnd_some h
 refine DrawG.callP rfl wantS_none (ex_call rfl zbh zbg) rfl (z0l F a0.Time _ _ a4) (st_cons rfl (ev_ex wantS_none (ex_cat rfl rfl e)) rfl rfl rfl (st_cons rfl (ev_ex wantS_none (ex_cat rfl rfl m)) rfl rfl rfl (st_cons rfl (ev_ex wantS_none (ex_load1 rfl (a.cells (i := 0) rfl 5 rfl) rdLe_rfl z0c)) rfl rfl rfl (st_cons rfl (ev_ex wantS_none (ex_fieldAddr rfl z3w)) rfl rfl rfl (st_cons rfl (ev_ex wantS_none (ex_load1 rfl (a.cells (i := 0) rfl 4 rfl) rdLe_rfl z0c)) rfl rfl rfl (st_cons rfl (ev_ex wantS_none (ex_fieldAddr rfl z5i)) rfl rfl rfl (st_cons rfl (ev_ex wantS_none (ex_fieldAddr rfl z2q)) rfl rfl rfl (st_cons rfl (ev_ex wantS_none (ex_load1 rfl (a.cells (i := 0) rfl 3 rfl) rdLe_rfl z0c)) rfl rfl rfl (st_cons rfl (ev_ex wantS_none (ex_fieldAddr rfl z91)) rfl rfl rfl (st_cons rfl (ev_ex wantS_none (ex_fieldAddr rfl z2q)) rfl rfl rfl (st_cons rfl (ev_ex wantS_none (ex_cat rfl rfl d)) rfl rfl rfl (st_cons rfl (ev_ex wantS_none (ex_cat rfl rfl b)) rfl rfl rfl (st_cons rfl (ev_ex wantS_none (ex_load1 rfl (a.cells (i := 0) rfl 0 rfl) rdLe_rfl zam)) rfl rfl rfl (st_cons rfl (ev_ex wantS_none (ex_fieldAddr rfl z10)) rfl rfl rfl st_nil)))))))))))))) ?_
 obtain ⟨c4, n, h⟩ := bnd_some h
 refine df rfl (ex_cat rfl rfl n) rfl ?_
 obtain ⟨c8, p, h⟩ := bnd_some h
 refine df rfl (ex_cat rfl rfl p) rfl ?_
 obtain ⟨b9, a6, h⟩ := bnd_some h
 refine DrawG.callP rfl wantS_none (ex_call rfl zbh zbg) rfl (z0l F a0.Chance.N _ _ a6) (st_cons rfl (ev_ex wantS_none (ex_cat rfl rfl p)) rfl rfl rfl (st_cons rfl (ev_ex wantS_none (ex_cat rfl rfl n)) rfl rfl rfl (st_cons rfl (ev_ex wantS_none (ex_cat rfl rfl e)) rfl rfl rfl (st_cons rfl (ev_ex wantS_none (ex_cat rfl rfl m)) rfl rfl rfl (st_cons rfl (ev_ex wantS_none (ex_load1 rfl (a.cells (i := 0) rfl 5 rfl) rdLe_rfl z0c)) rfl rfl rfl (st_cons rfl (ev_ex wantS_none (ex_fieldAddr rfl z3w)) rfl rfl rfl (st_cons rfl (ev_ex wantS_none (ex_load1 rfl (a.cells (i := 0) rfl 4 rfl) rdLe_rfl z0c)) rfl rfl rfl (st_cons rfl (ev_ex wantS_none (ex_fieldAddr rfl z5i)) rfl rfl rfl (st_cons rfl (ev_ex wantS_none (ex_fieldAddr rfl z2q)) rfl rfl rfl (st_cons rfl (ev_ex wantS_none (ex_cat rfl rfl d)) rfl rfl rfl (st_cons rfl (ev_ex wantS_none (ex_cat rfl rfl b)) rfl rfl rfl (st_cons rfl (ev_ex wantS_none (ex_load1 rfl (a.cells (i := 0) rfl 0 rfl) rdLe_rfl zam)) rfl rfl rfl (st_cons rfl (ev_ex wantS_none (ex_fieldAddr rfl z10)) rfl rfl rfl st_nil))))))))))))) ?_
 obtain ⟨c5, q, h⟩ := bnd_some h
 refine df rfl (ex_cat rfl rfl q) rfl ?_
 obtain ⟨b5, u, h⟩ := bnd_some h
 refine df rfl (ex_cat rfl rfl u) rfl ?_
 obtain ⟨b2, a7, h⟩ := bnd_some h
 refine DrawG.callP rfl wantS_none (ex_call rfl zbh zbg) rfl (z0l F a0.Chance.Of _ _ a7) (st_cons rfl (ev_ex wantS_none (ex_cat rfl rfl u)) rfl rfl rfl (st_cons rfl (ev_ex wantS_none (ex_cat rfl rfl q)) rfl rfl rfl (st_cons rfl (ev_ex wantS_none (ex_cat rfl rfl p)) rfl rfl rfl (st_cons rfl (ev_ex wantS_none (ex_cat rfl rfl n)) rfl rfl rfl (st_cons rfl (ev_ex wantS_none (ex_cat rfl rfl e)) rfl rfl rfl (st_cons rfl (ev_ex wantS_none (ex_cat rfl rfl m)) rfl rfl rfl (st_cons rfl (ev_ex wantS_none (ex_load1 rfl (a.cells (i := 0) rfl 5 rfl) rdLe_rfl z0c)) rfl rfl rfl (st_cons rfl (ev_ex wantS_none (ex_fieldAddr rfl z3w)) rfl rfl rfl (st_cons rfl (ev_ex wantS_none (ex_cat rfl rfl d)) rfl rfl rfl (st_cons rfl (ev_ex wantS_none (ex_cat rfl rfl b)) rfl rfl rfl (st_cons rfl (ev_ex wantS_none (ex_load1 rfl (a.cells (i := 0) rfl 0 rfl) rdLe_rfl zam)) rfl rfl rfl (st_cons rfl (ev_ex wantS_none (ex_fieldAddr rfl z10)) rfl rfl rfl st_nil)))))))))))) ?_
 obtain ⟨c9, w, h⟩ := bnd_some h
 refine df rfl (ex_cat rfl rfl w) rfl ?_
 obtain ⟨b3, x, h⟩ := bnd_some h
 refine df rfl (ex_cat rfl rfl x) rfl ?_
 obtain ⟨b8, a2, h⟩ := bnd_some h
 refine DrawG.callP rfl wantS_none (ex_call rfl zbh zbg) rfl (z0l F a0.Grid _ _ a2) (st_cons rfl (ev_ex wantS_none (ex_cat rfl rfl x)) rfl rfl rfl (st_cons rfl (ev_ex wantS_none (ex_cat rfl rfl w)) rfl rfl rfl (st_cons rfl (ev_ex wantS_none (ex_cat rfl rfl u)) rfl rfl rfl (st_cons rfl (ev_ex wantS_none (ex_cat rfl rfl q)) rfl rfl rfl (st_cons rfl (ev_ex wantS_none (ex_cat rfl rfl p)) rfl rfl rfl (st_cons rfl (ev_ex wantS_none (ex_cat rfl rfl n)) rfl rfl rfl (st_cons rfl (ev_ex wantS_none (ex_cat rfl rfl e)) rfl rfl rfl (st_cons rfl (ev_ex wantS_none (ex_cat rfl rfl m)) rfl rfl rfl (st_cons rfl (ev_ex wantS_none (ex_cat rfl rfl d)) rfl rfl rfl (st_cons rfl (ev_ex wantS_none (ex_cat rfl rfl b)) rfl rfl rfl (st_cons rfl (ev_ex wantS_none (ex_load1 rfl (a.cells (i := 0) rfl 0 rfl) rdLe_rfl zam)) rfl rfl rfl (st_cons rfl (ev_ex wantS_none (ex_fieldAddr rfl z10)) rfl rfl rfl st_nil)))))))))))) ?_
 obtain ⟨c2, a3, h⟩ := bnd_some h
 refine df rfl (ex_cat rfl rfl a3) rfl ?_
 obtain ⟨c6, y, h⟩ := bnd_some h
 refine df rfl (ex_cat rfl rfl y) rfl <| df rfl (ex_assign rfl) rfl <| DrawG.sync <| DrawG.nil ?_
 refine Run.seq (Run.seq (Run.region ?_))
 refine og (ex_fieldAddr rfl z5n) rfl <| og (ex_load1 rfl (a.cells (i := 0) rfl 7 rfl) rdLe_rfl zc0) rfl <| Run.opsEnd ?_
 rcases btf (a0.Withdrawn) with g | g
 ·have h := bif_t g h
  refine Run.condT' rfl g <| Run.region <| mv rfl rfl ?_
  obtain ⟨b0, a8, h⟩ := bnd_some h
  refine og (ex_cat rfl rfl a8) rfl <| av rfl rfl ?_
  refine Run.opsEnd (Run.seq (Run.seq (Run.region ?_)))
  exact Run.pick [1, 3] (z6x F b0 a0.Event a0.Version a0.Time a0.Chance.N a0.Chance.Of a0.Grid a0.Cells a0.Withdrawn a0.Before s0 a9 _ _ _ f a h)
 ·have h := bif_f g h
  refine Run.condF' rfl g <| Run.region <| mv rfl rfl ?_
  obtain ⟨b1, a5, h⟩ := bnd_some h
  refine og (ex_cat rfl rfl a5) rfl <| av rfl rfl ?_
  refine Run.opsEnd (Run.seq (Run.seq (Run.region ?_)))
  exact Run.pick [1, 3] (z6x F b1 a0.Event a0.Version a0.Time a0.Chance.N a0.Chance.Of a0.Grid a0.Cells a0.Withdrawn a0.Before s0 a9 _ _ _ f a h)

theorem zh2 : makeK Tryz.prog 96 = none := by kernel_rfl
theorem zge : callable Tryz.prog 96 = true := by kernel_rfl
abbrev z52 (r : Int) : SV → Mem → Prop := fun s _ => s = (.int .i64 r)

def ref10_digest_1 (F : Nat) : Nat → Int → List UInt8 → Int → Option (Int)
 | 0, _, _, _ => none
 | N + 1, v3, v4, v5 =>
  bif (decide (v5 < (v4.length : Int))) then
   bnd (sAt v4 v5) fun a =>
   (ref10_digest_1 F N) (Int.tmod (w64 ((w64 ((w64 (v3 * (31 : Int))) + (w64 a))) + (1 : Int))) (2147483647 : Int)) v4 (w64 (v5 + (1 : Int)))
  else
   some v3

theorem z9l (F : Nat) : ∀ (N : Nat), ∀ (v3 : Int) (v4 : List UInt8) (v5 : Int) (Fr : Rd) (M : Mem) (r : Int) (hH : Has Fr M []), ref10_digest_1 F N v3 v4 v5 = some r → Run Tryz.prog ⟨⟨51, [], none⟩, []⟩ 24 (z52 r) [(3, (.int .i64 v3)), (4, (.str v4)), (5, (.int .i64 v5))] [codeC Tryz.prog 51 [1, 1, 1, 0, 1, 0, 0], loopC Tryz.prog 51 [1, 1, 1, 0, 1, 0, 0], .inBlock 0, codeC Tryz.prog 51 [1, 1, 1, 1]] M := by
 intro N
 induction N with
 | zero =>
  intro v3 v4 v5 Fr M r hH h
  simp [ref10_digest_1] at h
 | succ N ih =>
  intro v3 v4 v5 Fr M r hH h
  rw [ref10_digest_1] at h
  refine Run.seq (Run.seq (Run.region ?_))
  refine mv rfl rfl <| mv rfl rfl <| og (ex_lenS rfl z87) rfl <| og (ex_lss rfl rfl) rfl <| Run.opsEnd ?_
  rcases btf ((decide (v5 < (v4.length : Int)))) with hc27 | hc27
  ·have h := bif_t hc27 h
   refine Run.condT' rfl hc27 ?_
   refine Run.skip (Run.seq (Run.block (Run.region ?_)))
   refine mv rfl rfl <| og (ex_mul rfl rfl) rfl <| mv rfl rfl <| mv rfl rfl ?_
   obtain ⟨b, a, h⟩ := bnd_some h
   refine og (ex_sAt rfl rfl zg4 a) rfl <| og (ex_conv rfl zcm zco) rfl <| og (ex_add rfl rfl) rfl <| og (ex_add rfl rfl) rfl <| og (ex_rem rfl rfl (by decide)) rfl <| av rfl rfl ?_
   refine Run.opsEnd (Run.inBlock (Run.region ?_))
   refine mv rfl rfl <| og (ex_add rfl rfl) rfl <| av rfl rfl ?_
   refine Run.opsEnd (Run.inLoop ?_)
   exact Run.pick [3, 4, 5] (ih (Int.tmod (w64 ((w64 ((w64 (v3 * (31 : Int))) + (w64 b))) + (1 : Int))) (2147483647 : Int)) v4 (w64 (v5 + (1 : Int))) _ _ _ hH h)
  ·have h := bif_f hc27 h
   refine Run.condF' rfl hc27 ?_
   refine Run.exit rfl (Run.seq (Run.region ?_))
   refine mv rfl rfl <| av rfl rfl <| Run.opsEnd ?_
   cases h
   exact Run.ret Tryz.func51 rfl (res_tmp rfl res_nil) rfl

def ref10_digest (F : Nat) (a0 : S_api_Alert) : Option (Int) :=
 bnd (ref10_text F a0) fun a =>
 ref10_digest_1 F F (7 : Int) a (0 : Int)

theorem z72 (F : Nat) (a0 : S_api_Alert) (s0 : SV) (r : Int) (M : Mem) (d : Slc (rd M) 1 (FlatR enc3) s0 a0.Cells) (h : ref10_digest F a0 = some r) : CallsM Tryz.prog 51 [(.agg (r0 a0 s0))] M (fun s M' => s = (.int .i64 r) ∧ M' = M) := by
 refine CallsM.plain Tryz.func51 rfl rfl rfl (show Run _ _ _ (z52 r) _ _ _ from ?_)
 rw [ref10_digest] at h
 replace d := d.mono (rdLe_frozen M) (fun _ _ h => h)
 have hH := Has.nil (frozen M)
 refine Run.seq (Run.region ?_)
 refine ox rfl (ExG.box rfl rfl hH) ?_
 rintro _ f ⟨g, rfl, a⟩
 refine av rfl rfl ?_
 refine Run.opsEnd (Run.seq (Run.region ?_))
 refine av rfl rfl ?_
 refine Run.opsEnd (Run.seq (Run.region ?_))
 refine og (ex_loadA rfl (a.cells (i := 0) rfl 0 rfl) rdLe_rfl z0m rfl rfl rfl) rfl ?_
 obtain ⟨e, b, h⟩ := bnd_some h
 refine Run.callP wantS_none (ex_call rfl zh2 zge) rfl (zb0 F a0 s0 _ _ (a.slcF d) b) <| av rfl rfl ?_
 refine Run.opsEnd (Run.seq (Run.seq (Run.region ?_)))
 refine av rfl rfl ?_
 refine Run.opsEnd (Run.block (Run.loop ?_))
 exact Run.pick [3, 4, 5] (z9l F F (7 : Int) e (0 : Int) _ _ _ (a.pick [] rfl rfl) h)

theorem zey : makeK Tryz.prog 51 = none := by kernel_rfl
theorem zft : callable Tryz.prog 51 = true := by kernel_rfl
theorem zbq : planOf Tryz.prog (opsC (atC Tryz.prog 95 [1, 0])) = some [.fl 0, .fl 1, .fl 2, .fl 3, .an 4 [], .fl 5, .fl 6, .fl 7, .fl 8, .fl 9, .fl 10, .fl 12, .fl 14, .fl 15, .an 11 [15, 14, 12], .an 13 [15, 14], .fl 16, .fl 17, .fl 18, .fl 19, .sync] := by kernel_rfl
abbrev z5d (r : Bool) : SV → Mem → Prop := fun s _ => s = (.bool r)

def ref10_signed_1 (F : Nat) (v6 : Bool) : Option (Bool) :=
 some v6

theorem z5h (F : Nat) : ∀ (v6 : Bool) (Fr : Rd) (M : Mem) (r : Bool) (hH : Has Fr M []), ref10_signed_1 F v6 = some r → Run Tryz.prog ⟨⟨95, [], none⟩, []⟩ 26 (z5d r) [(6, (.bool v6))] [codeC Tryz.prog 95 [1, 1]] M := by
 intro v6 Fr M r hH h
 rw [ref10_signed_1] at h
 cases h
 exact Run.ret Tryz.func95 rfl (res_tmp rfl res_nil) rfl

def ref10_signed (F : Nat) (a0 : S_api_Key) (a1 : S_api_Alert) (a2 : Int) : Option (Bool) :=
 bnd (ref00_In F a2 (0 : Int) (w64 (a0.Modulus - (1 : Int)))) fun d =>
 bif d then
  bnd (ref10_power F a2 a0.Exponent a0.Modulus) fun b =>
  bnd (ref10_digest F a1) fun a =>
  bnd (nz a0.Modulus) fun e =>
  ref10_signed_1 F (b == (Int.tmod a a0.Modulus))
 else
  ref10_signed_1 F false

theorem z6w (F : Nat) (a0 : S_api_Key) (a1 : S_api_Alert) (a2 : Int) (s0 : SV) (r : Bool) (M : Mem) (f : Slc (rd M) 1 (FlatR enc3) s0 a1.Cells) (h : ref10_signed F a0 a1 a2 = some r) : CallsM Tryz.prog 95 [(.agg [(.int .i64 a0.Modulus), (.int .i64 a0.Exponent)]), (.agg (r0 a1 s0)), (.int .i64 a2)] M (fun s M' => s = (.bool r) ∧ M' = M) := by
 refine CallsM.plain Tryz.func95 rfl rfl rfl (show Run _ _ _ (z5d r) _ _ _ from ?_)
 rw [ref10_signed] at h
 replace f := f.mono (rdLe_frozen M) (fun _ _ h => h)
 have hH := Has.nil (frozen M)
 refine Run.seq (Run.region ?_)
 refine ox rfl (ExG.box rfl rfl hH) ?_
 rintro _ w ⟨a3, rfl, g⟩
 refine ox rfl (ExG.box rfl rfl g) ?_
 rintro _ y ⟨x, rfl, b⟩
 refine av rfl rfl ?_
 refine Run.opsEnd (Run.seq ?_)
 refine Run.drawG zbq <| df rfl (ex_move rfl) rfl <| df rfl (ex_fieldAddr rfl z2r) rfl <| df rfl (ex_load1 rfl (b.cells (i := 1) rfl 0 rfl) rdLe_rfl z0c) rfl <| df rfl (ex_sub rfl rfl) rfl ?_
 obtain ⟨p, n, h⟩ := bnd_some h
 refine DrawG.callP rfl wantS_none (ex_call rfl z9r z9v) rfl (z0k F a2 (0 : Int) (w64 (a0.Modulus - (1 : Int))) _ _ n) st_nil <| df rfl (ex_move rfl) rfl ?_
 rcases btf (p) with a | a
 ·have h := bif_t a h
  refine dy rfl rfl rfl a (ex_move rfl) rfl <| dy rfl rfl rfl a (ex_fieldAddr rfl zbj) rfl <| dy rfl rfl rfl a (ex_load1 rfl (b.cells (i := 1) rfl 1 rfl) rdLe_rfl z0c) rfl <| dy rfl rfl rfl a (ex_fieldAddr rfl z2r) rfl <| dy rfl rfl rfl a (ex_load1 rfl (b.cells (i := 1) rfl 0 rfl) rdLe_rfl z0c) rfl <| dy rfl rfl rfl a (ex_loadA rfl (b.cells (i := 0) rfl 0 rfl) rdLe_rfl z0m rfl rfl rfl) rfl <| dy rfl rfl rfl a (ex_fieldAddr rfl z2r) rfl <| dy rfl rfl rfl a (ex_load1 rfl (b.cells (i := 1) rfl 0 rfl) rdLe_rfl z0c) rfl ?_
  obtain ⟨q, m, h⟩ := bnd_some h
  refine DrawG.callP rfl (wantS_yes' rfl rfl a) (ex_call rfl zdm zef) rfl (zan F a2 a0.Exponent a0.Modulus _ _ m) (st_cons rfl (ev_ex (wantS_yes' rfl rfl a) (ex_load1 rfl (b.cells (i := 1) rfl 0 rfl) rdLe_rfl z0c)) rfl rfl rfl (st_cons rfl (ev_ex (wantS_yes' rfl rfl a) (ex_fieldAddr rfl z2r)) rfl rfl rfl (st_cons rfl (ev_ex (wantS_yes' rfl rfl a) (ex_loadA rfl (b.cells (i := 0) rfl 0 rfl) rdLe_rfl z0m rfl rfl rfl)) rfl rfl (self_agg (self_cons rfl (self_cons rfl (self_cons rfl (self_cons rfl (self_cons rfl (self_cons rfl (self_cons (slc_self f) (self_cons rfl (self_cons rfl self_nil)))))))))) st_nil))) ?_
  obtain ⟨u, e, h⟩ := bnd_some h
  refine DrawG.callP rfl (wantS_yes' rfl rfl a) (ex_call rfl zey zft) rfl (z72 F a1 s0 _ _ (b.slcF f) e) (st_cons rfl (ev_ex (wantS_yes' rfl rfl a) (ex_load1 rfl (b.cells (i := 1) rfl 0 rfl) rdLe_rfl z0c)) rfl rfl rfl (st_cons rfl (ev_ex (wantS_yes' rfl rfl a) (ex_fieldAddr rfl z2r)) rfl rfl rfl st_nil)) ?_
  obtain ⟨a4, d, h⟩ := bnd_some h
  refine dy rfl rfl rfl a (ex_rem' rfl rfl d) rfl <| dy rfl rfl rfl a (ex_eql rfl rfl) rfl <| df rfl (ex_pickT' rfl a rfl rfl) rfl <| df rfl (ex_assign rfl) rfl <| DrawG.sync <| DrawG.nil ?_
  exact Run.pick [6] (z5h F (q == (Int.tmod u a0.Modulus)) _ _ _ (b.pick [] rfl rfl) h)
 ·have h := bif_f a h
  refine dn rfl rfl rfl a rfl <| dn rfl rfl rfl a rfl <| dn rfl rfl rfl a rfl <| dn rfl rfl rfl a rfl <| dn rfl rfl rfl a rfl <| dn rfl rfl rfl a rfl <| dn rfl rfl rfl a rfl <| dn rfl rfl rfl a rfl <| DrawG.no rfl (wantS_not' rfl rfl a) rfl (st_cons rfl (ev_no (wantS_not' rfl rfl a)) rfl rfl rfl (st_cons rfl (ev_no (wantS_not' rfl rfl a)) rfl rfl rfl (st_cons rfl (ev_no (wantS_not' rfl rfl a)) rfl rfl rfl st_nil))) <| DrawG.no rfl (wantS_not' rfl rfl a) rfl (st_cons rfl (ev_no (wantS_not' rfl rfl a)) rfl rfl rfl (st_cons rfl (ev_no (wantS_not' rfl rfl a)) rfl rfl rfl st_nil)) <| dn rfl rfl rfl a rfl <| dn rfl rfl rfl a rfl <| df rfl (ex_pickF' rfl a rfl rfl) rfl <| df rfl (ex_assign rfl) rfl <| DrawG.sync <| DrawG.nil ?_
  exact Run.pick [6] (z5h F false _ _ _ (b.pick [] rfl rfl) h)

theorem zdg : makeK Tryz.prog 95 = none := by kernel_rfl
theorem zfk : callable Tryz.prog 95 = true := by kernel_rfl
theorem z3n : planOf Tryz.prog (opsC (atC Tryz.prog 49 [1, 1, 0, 1, 0, 0, 1, 0, 0, 1, 0])) = some [.fl 0, .fl 1, .fl 2, .fl 3, .fl 4, .fl 5, .an 6 [], .fl 7, .fl 8, .fl 9, .fl 10, .fl 11, .fl 12, .fl 13, .fl 14, .fl 15, .fl 16, .fl 17, .fl 18, .fl 19, .fl 20, .fl 21, .fl 22, .fl 23, .fl 24, .fl 25, .fl 26, .fl 27, .fl 28, .fl 29, .fl 30, .fl 31, .fl 32, .fl 33, .fl 34, .an 35 [], .fl 36, .fl 37, .sync] := by kernel_rfl
abbrev z1b (r : Int) : SV → Mem → Prop := fun s _ => s = (.int .i64 r)

def ref10_notice_2 (F : Nat) (f : Int → List S_api_Key → Int → List UInt8 → Int → Int → Int → Int → Int → List Int → Bool → Int → List S_api_Signature → Option (Int)) (v6 : Int) (x : Bool) (w : List S_api_Key) (s : Int) (e : List UInt8) (n m q b g : Int) (u : List Int) (d : Bool) (p : Int) (a : List S_api_Signature) : Option (Int) :=
 bif x then
  some (102 : Int)
 else
  f (w64 (v6 + (1 : Int))) w s e n m q b g u d p a

theorem z1c (F : Nat) (a8 : Int → List S_api_Key → Int → List UInt8 → Int → Int → Int → Int → Int → List Int → Bool → Int → List S_api_Signature → Option (Int)) (a5 : ∀ (v6 : Int) (a0 : List S_api_Key) (y : Int) (w : List UInt8) (q p g m e : Int) (n : List Int) (u : Bool) (x : Int) (s : List S_api_Signature) (d a b : SV) (a6 f : Pos) (Fr : Rd) (M : Mem) (r : Int) (a3 : Slc Fr 2 (FlatR enc108) d a0) (a2 : Slc Fr 1 (FlatR enc3) a n) (a4 : Slc Fr 2 (FlatR enc123) b s) (hH : Has Fr M [.obj a6 (.row 24 .whole [d, (.int .i64 y)]), .obj f (.row 36 .whole (k1 w q p g m e a u x b))]), a8 v6 a0 y w q p g m e n u x s = some r → Run Tryz.prog ⟨⟨49, [], none⟩, []⟩ 70 (z1b r) [(2, (.ptr a6 0)), (3, (.ptr f 0)), (6, (.int .i64 v6))] [codeC Tryz.prog 49 [1, 1, 0, 1, 0, 0], loopC Tryz.prog 49 [1, 1, 0, 1, 0, 0], .inBlock 0, codeC Tryz.prog 49 [1, 1, 1]] M) : ∀ (v6 : Int) (a7 : Bool) (a0 : List S_api_Key) (y : Int) (w : List UInt8) (q p g m e : Int) (n : List Int) (u : Bool) (x : Int) (s : List S_api_Signature) (d a b : SV) (a6 f : Pos) (Fr : Rd) (M : Mem) (r : Int) (a3 : Slc Fr 2 (FlatR enc108) d a0) (a2 : Slc Fr 1 (FlatR enc3) a n) (a4 : Slc Fr 2 (FlatR enc123) b s) (hH : Has Fr M [.obj a6 (.row 24 .whole [d, (.int .i64 y)]), .obj f (.row 36 .whole (k1 w q p g m e a u x b))]), ref10_notice_2 F a8 v6 a7 a0 y w q p g m e n u x s = some r → Run Tryz.prog ⟨⟨49, [], none⟩, []⟩ 70 (z1b r) [(2, (.ptr a6 0)), (3, (.ptr f 0)), (6, (.int .i64 v6)), (63, (.bool a7))] [codeC Tryz.prog 49 [1, 1, 0, 1, 0, 0, 1, 0, 0, 1, 1], .inBlock 1, codeC Tryz.prog 49 [1, 1, 0, 1, 0, 0, 1, 1], loopC Tryz.prog 49 [1, 1, 0, 1, 0, 0], .inBlock 0, codeC Tryz.prog 49 [1, 1, 1]] M := by
 intro v6 a7 a0 y w q p g m e n u x s d a b a6 f Fr M r a3 a2 a4 hH h
 rw [ref10_notice_2] at h
 rcases btf (a7) with a1 | a1
 ·have h := bif_t a1 h
  refine Run.condT' rfl a1 ?_
  refine Run.seq (Run.region ?_)
  refine av rfl rfl <| Run.opsEnd ?_
  cases h
  exact Run.ret Tryz.func49 rfl (res_tmp rfl res_nil) rfl
 ·have h := bif_f a1 h
  refine Run.condF' rfl a1 ?_
  refine Run.skip (Run.inBlock (Run.region ?_))
  refine mv rfl rfl <| og (ex_add rfl rfl) rfl <| av rfl rfl ?_
  refine Run.opsEnd (Run.inLoop ?_)
  exact Run.pick [2, 3, 6] (a5 (w64 (v6 + (1 : Int))) a0 y w q p g m e n u x s d a b a6 f _ _ _ a3 a2 a4 hH h)

def ref10_notice_1 (F : Nat) : Nat → Int → List S_api_Key → Int → List UInt8 → Int → Int → Int → Int → Int → List Int → Bool → Int → List S_api_Signature → Option (Int)
 | 0, _, _, _, _, _, _, _, _, _, _, _, _, _ => none
 | N + 1, v6, b, w, q, e, s, g, m, d, n, p, u, a =>
  bif (decide (v6 < (a.length : Int))) then
   bnd (idx a v6) fun f =>
   bnd (ref00_In F f.Signer (0 : Int) (w64 ((b.length : Int) - (1 : Int)))) fun x =>
   bif (!x) then
    ref10_notice_2 F (ref10_notice_1 F N) v6 true b w q e s g m d n p u a
   else
    bif (decide ((0 : Int) < v6)) then
     bnd (idx a (w64 (v6 - (1 : Int)))) fun a0 =>
     bif (decide (f.Signer ≤ a0.Signer)) then
      ref10_notice_2 F (ref10_notice_1 F N) v6 true b w q e s g m d n p u a
     else
      bnd (idx b f.Signer) fun a3 =>
      bnd (ref10_signed F a3 (S_api_Alert.mk q e s (S_api_Chance.mk g m) d n p u) f.Number) fun a2 =>
      ref10_notice_2 F (ref10_notice_1 F N) v6 (!a2) b w q e s g m d n p u a
    else
     bnd (idx b f.Signer) fun a1 =>
     bnd (ref10_signed F a1 (S_api_Alert.mk q e s (S_api_Chance.mk g m) d n p u) f.Number) fun y =>
     ref10_notice_2 F (ref10_notice_1 F N) v6 (!y) b w q e s g m d n p u a
  else
   bif (decide ((a.length : Int) < w)) then
    some (103 : Int)
   else
    some (0 : Int)

theorem z9c (F : Nat) : ∀ (N : Nat), ∀ (v6 : Int) (a7 : List S_api_Key) (a5 : Int) (a1 : List UInt8) (w s p q n : Int) (a3 : List Int) (y : Bool) (a2 : Int) (a4 : List S_api_Signature) (x e u : SV) (c1 f : Pos) (Fr : Rd) (M : Mem) (r : Int) (a0 : Slc Fr 2 (FlatR enc108) x a7) (a6 : Slc Fr 1 (FlatR enc3) e a3) (g : Slc Fr 2 (FlatR enc123) u a4) (hH : Has Fr M [.obj c1 (.row 24 .whole [x, (.int .i64 a5)]), .obj f (.row 36 .whole (k1 a1 w s p q n e y a2 u))]), ref10_notice_1 F N v6 a7 a5 a1 w s p q n a3 y a2 a4 = some r → Run Tryz.prog ⟨⟨49, [], none⟩, []⟩ 70 (z1b r) [(2, (.ptr c1 0)), (3, (.ptr f 0)), (6, (.int .i64 v6))] [codeC Tryz.prog 49 [1, 1, 0, 1, 0, 0], loopC Tryz.prog 49 [1, 1, 0, 1, 0, 0], .inBlock 0, codeC Tryz.prog 49 [1, 1, 1]] M := by
 intro N
 induction N with
 | zero =>
  intro v6 a7 a5 a1 w s p q n a3 y a2 a4 x e u c1 f Fr M r a0 a6 g hH h
  simp [ref10_notice_1] at h
 | succ N ih =>
  intro v6 a7 a5 a1 w s p q n a3 y a2 a4 x e u c1 f Fr M r a0 a6 g hH h
  rw [ref10_notice_1] at h
  refine Run.seq (Run.seq (Run.region ?_))
  refine mv rfl rfl <| og (ex_fieldAddr rfl z14) rfl <| og (ex_load1 rfl (hH.cells (i := 1) rfl 9 rfl) rdLe_rfl z82) rfl <| og (ex_len' rfl g z9z) rfl <| og (ex_lss rfl rfl) rfl <| Run.opsEnd ?_
  rcases btf ((decide (v6 < (a4.length : Int)))) with hc31 | hc31
  ·have h := bif_t hc31 h
   refine Run.condT' rfl hc31 ?_
   refine Run.skip (Run.seq (Run.block (Run.seq (Run.region ?_))))
   refine og (ex_fieldAddr rfl z14) rfl <| og (ex_load1 rfl (hH.cells (i := 1) rfl 9 rfl) rdLe_rfl z82) rfl <| mv rfl rfl ?_
   obtain ⟨c2, a9, h⟩ := bnd_some h
   obtain ⟨d5, d7, _, a9, b3, rfl⟩ := sl_elem (P := Tryz.prog) (t := 34) (kk := .i64) g a9 zbw
   refine og (ex_elX rfl rfl a9) rfl <| og (ex_loadA rfl (hH.ptrF b3) rdLe_rfl zbm rfl rfl rfl) rfl <| ox rfl (ExG.new (v := fun b => .ptr b 0) (ex_alloc zch) hH) ?_
   rintro _ d3 ⟨c6, rfl, b6⟩
   refine ox rfl (ExG.storeC (c' := [(.int .i64 c2.Signer), (.int .i64 c2.Number)]) rfl rfl rfl b6 (i := 0) rfl zdq rfl rfl rfl rfl rfl) ?_
   rintro _ c9 ⟨rfl, (d : Has Fr c9 [.obj c6 (.row 123 .whole [(.int .i64 c2.Signer), (.int .i64 c2.Number)]), .obj c1 (.row 24 .whole [x, (.int .i64 a5)]), .obj f (.row 36 .whole (k1 a1 w s p q n e y a2 u))])⟩
   refine Run.opsEnd (Run.seq ?_)
   refine Run.drawG z3n <| df rfl (ex_fieldAddr rfl z4g) rfl <| df rfl (ex_load1 rfl (d.cells (i := 0) rfl 0 rfl) rdLe_rfl z0c) rfl <| df rfl (ex_fieldAddr rfl z1h) rfl <| df rfl (ex_load1 rfl (d.cells (i := 1) rfl 0 rfl) rdLe_rfl z7o) rfl <| df rfl (ex_len' rfl a0 z8s) rfl <| df rfl (ex_sub rfl rfl) rfl ?_
   obtain ⟨c3, c0, h⟩ := bnd_some h
   refine DrawG.callP rfl wantS_none (ex_call rfl z9r z9v) rfl (z0k F c2.Signer (0 : Int) (w64 ((a7.length : Int) - (1 : Int))) _ _ c0) st_nil <| df rfl (ex_not rfl) rfl <| df rfl (ex_move rfl) rfl ?_
   rcases btf ((!c3)) with m | m
   ·have h := bif_t m h
    refine dn rfl rfl rfl m rfl <| dn rfl rfl rfl m rfl <| dn rfl rfl rfl m rfl <| DrawG.fl rfl (ev_no (wantS_skip rfl rfl)) rfl <| DrawG.fl rfl (ev_no (wantS_skip rfl rfl)) rfl <| DrawG.fl rfl (ev_no (wantS_skip rfl rfl)) rfl <| DrawG.fl rfl (ev_no (wantS_skip rfl rfl)) rfl <| DrawG.fl rfl (ev_no (wantS_skip rfl rfl)) rfl <| DrawG.fl rfl (ev_no (wantS_skip rfl rfl)) rfl <| DrawG.fl rfl (ev_no (wantS_skip rfl rfl)) rfl <| DrawG.fl rfl (ev_no (wantS_skip rfl rfl)) rfl <| DrawG.fl rfl (ev_no (wantS_skip rfl rfl)) rfl <| DrawG.fl rfl (ev_no (wantS_skip rfl rfl)) rfl <| dn rfl rfl rfl m rfl <| df rfl (ex_pickT' rfl m rfl rfl) rfl <| df rfl (ex_move rfl) rfl <| dn rfl rfl rfl rfl rfl <| dn rfl rfl rfl rfl rfl <| dn rfl rfl rfl rfl rfl <| dn rfl rfl rfl rfl rfl <| dn rfl rfl rfl rfl rfl <| dn rfl rfl rfl rfl rfl <| dn rfl rfl rfl rfl rfl <| dn rfl rfl rfl rfl rfl <| dn rfl rfl rfl rfl rfl <| dn rfl rfl rfl rfl rfl <| DrawG.no rfl (wantS_not' rfl rfl rfl) rfl st_nil <| dn rfl rfl rfl rfl rfl <| df rfl (ex_pickT' rfl rfl rfl rfl) rfl <| DrawG.sync ?_
    refine DrawG.nil ?_
    exact Run.pick [2, 3, 6, 63] (z1c F (ref10_notice_1 F N) ih v6 true a7 a5 a1 w s p q n a3 y a2 a4 x e u c1 f _ _ _ a0 a6 g (d.pick [1, 2] rfl rfl) h)
   ·have h := bif_f m h
    refine dy rfl rfl rfl m (ex_move rfl) rfl <| dy rfl rfl rfl m (ex_gtr rfl rfl) rfl <| dy rfl rfl rfl m (ex_move rfl) rfl ?_
    rcases btf ((decide ((0 : Int) < v6))) with hc42 | hc42
    ·have h := bif_t hc42 h
     refine dy rfl rfl rfl hc42 (ex_fieldAddr rfl z14) rfl <| dy rfl rfl rfl hc42 (ex_load1 rfl (d.cells (i := 2) rfl 9 rfl) rdLe_rfl z82) rfl <| dy rfl rfl rfl hc42 (ex_move rfl) rfl <| dy rfl rfl rfl hc42 (ex_sub rfl rfl) rfl ?_
     obtain ⟨c7, a8, h⟩ := bnd_some h
     obtain ⟨d8, d1, _, a8, b7, rfl⟩ := sl_elem (P := Tryz.prog) (t := 34) (kk := .i64) g a8 zbw
     refine dy rfl rfl rfl hc42 (ex_elX rfl rfl a8) rfl ?_
     have b5 := (b7.fld (o := 0) rfl)
     refine dy rfl rfl rfl hc42 (ex_fieldAddr rfl z4g) rfl <| dy rfl rfl rfl hc42 (ex_load1 rfl (d.ptrF b5) rdLe_rfl z0c) rfl <| dy rfl rfl rfl hc42 (ex_fieldAddr rfl z4g) rfl <| dy rfl rfl rfl hc42 (ex_load1 rfl (d.cells (i := 0) rfl 0 rfl) rdLe_rfl z0c) rfl <| dy rfl rfl rfl hc42 (ex_geq rfl rfl) rfl <| dy rfl rfl rfl m (ex_pickT' rfl hc42 rfl rfl) rfl <| df rfl (ex_pickF' rfl m rfl rfl) rfl <| df rfl (ex_move rfl) rfl ?_
     rcases btf ((decide (c2.Signer ≤ c7.Signer))) with a | a
     ·have h := bif_t a h
      refine dn rfl rfl rfl a rfl <| dn rfl rfl rfl a rfl <| dn rfl rfl rfl a rfl <| dn rfl rfl rfl a rfl <| dn rfl rfl rfl a rfl <| dn rfl rfl rfl a rfl <| dn rfl rfl rfl a rfl <| dn rfl rfl rfl a rfl <| dn rfl rfl rfl a rfl <| dn rfl rfl rfl a rfl <| DrawG.no rfl (wantS_not' rfl rfl a) rfl st_nil <| dn rfl rfl rfl a rfl <| df rfl (ex_pickT' rfl a rfl rfl) rfl <| DrawG.sync <| DrawG.nil ?_
      exact Run.pick [2, 3, 6, 63] (z1c F (ref10_notice_1 F N) ih v6 true a7 a5 a1 w s p q n a3 y a2 a4 x e u c1 f _ _ _ a0 a6 g (d.pick [1, 2] rfl rfl) h)
     ·have h := bif_f a h
      refine dy rfl rfl rfl a (ex_fieldAddr rfl z1h) rfl <| dy rfl rfl rfl a (ex_load1 rfl (d.cells (i := 1) rfl 0 rfl) rdLe_rfl z7o) rfl <| dy rfl rfl rfl a (ex_fieldAddr rfl z4g) rfl <| dy rfl rfl rfl a (ex_load1 rfl (d.cells (i := 0) rfl 0 rfl) rdLe_rfl z0c) rfl ?_
      obtain ⟨d0, b1, h⟩ := bnd_some h
      obtain ⟨d9, d4, _, b1, b9, rfl⟩ := sl_elem (P := Tryz.prog) (t := 22) (kk := .i64) a0 b1 zb3
      refine dy rfl rfl rfl a (ex_elX rfl rfl b1) rfl <| dy rfl rfl rfl a (ex_loadA rfl (d.ptrF b9) rdLe_rfl z9m rfl rfl rfl) rfl <| dy rfl rfl rfl a (ex_fieldAddr rfl z0a) rfl <| dy rfl rfl rfl a (ex_loadA rfl (d.cells (i := 2) rfl 0 rfl) rdLe_rfl z0m rfl rfl rfl) rfl <| dy rfl rfl rfl a (ex_fieldAddr rfl zaz) rfl <| dy rfl rfl rfl a (ex_load1 rfl (d.cells (i := 0) rfl 1 rfl) rdLe_rfl z0c) rfl ?_
      obtain ⟨c5, b8, h⟩ := bnd_some h
      refine DrawG.callP rfl (wantS_yes' rfl rfl a) (ex_call rfl zdg zfk) rfl (z6w F d0 (S_api_Alert.mk a1 w s (S_api_Chance.mk p q) n a3 y a2) c2.Number e _ _ (d.slcF a6) b8) st_nil <| dy rfl rfl rfl a (ex_not rfl) rfl <| df rfl (ex_pickF' rfl a rfl rfl) rfl <| DrawG.sync <| DrawG.nil ?_
      exact Run.pick [2, 3, 6, 63] (z1c F (ref10_notice_1 F N) ih v6 (!c5) a7 a5 a1 w s p q n a3 y a2 a4 x e u c1 f _ _ _ a0 a6 g (d.pick [1, 2] rfl rfl) h)
    ·have h := bif_f hc42 h
     refine dn rfl rfl rfl hc42 rfl <| dn rfl rfl rfl hc42 rfl <| dn rfl rfl rfl hc42 rfl <| dn rfl rfl rfl hc42 rfl <| dn rfl rfl rfl hc42 rfl <| dn rfl rfl rfl hc42 rfl <| dn rfl rfl rfl hc42 rfl <| dn rfl rfl rfl hc42 rfl <| dn rfl rfl rfl hc42 rfl <| dn rfl rfl rfl hc42 rfl <| dy rfl rfl rfl m (ex_pickF' rfl hc42 rfl rfl) rfl <| df rfl (ex_pickF' rfl m rfl rfl) rfl <| df rfl (ex_move rfl) rfl <| dy rfl rfl rfl rfl (ex_fieldAddr rfl z1h) rfl <| dy rfl rfl rfl rfl (ex_load1 rfl (d.cells (i := 1) rfl 0 rfl) rdLe_rfl z7o) rfl <| dy rfl rfl rfl rfl (ex_fieldAddr rfl z4g) rfl <| dy rfl rfl rfl rfl (ex_load1 rfl (d.cells (i := 0) rfl 0 rfl) rdLe_rfl z0c) rfl ?_
     obtain ⟨c8, b0, h⟩ := bnd_some h
     obtain ⟨d2, d6, _, b0, b2, rfl⟩ := sl_elem (P := Tryz.prog) (t := 22) (kk := .i64) a0 b0 zb3
     refine dy rfl rfl rfl rfl (ex_elX rfl rfl b0) rfl <| dy rfl rfl rfl rfl (ex_loadA rfl (d.ptrF b2) rdLe_rfl z9m rfl rfl rfl) rfl <| dy rfl rfl rfl rfl (ex_fieldAddr rfl z0a) rfl <| dy rfl rfl rfl rfl (ex_loadA rfl (d.cells (i := 2) rfl 0 rfl) rdLe_rfl z0m rfl rfl rfl) rfl <| dy rfl rfl rfl rfl (ex_fieldAddr rfl zaz) rfl <| dy rfl rfl rfl rfl (ex_load1 rfl (d.cells (i := 0) rfl 1 rfl) rdLe_rfl z0c) rfl ?_
     obtain ⟨c4, b4, h⟩ := bnd_some h
     refine DrawG.callP rfl (wantS_yes' rfl rfl rfl) (ex_call rfl zdg zfk) rfl (z6w F c8 (S_api_Alert.mk a1 w s (S_api_Chance.mk p q) n a3 y a2) c2.Number e _ _ (d.slcF a6) b4) st_nil <| dy rfl rfl rfl rfl (ex_not rfl) rfl <| df rfl (ex_pickF' rfl rfl rfl rfl) rfl <| DrawG.sync <| DrawG.nil ?_
     exact Run.pick [2, 3, 6, 63] (z1c F (ref10_notice_1 F N) ih v6 (!c4) a7 a5 a1 w s p q n a3 y a2 a4 x e u c1 f _ _ _ a0 a6 g (d.pick [1, 2] rfl rfl) h)
  ·have h := bif_f hc31 h
   refine Run.condF' rfl hc31 ?_
   refine Run.exit rfl (Run.seq (Run.seq (Run.region ?_)))
   refine og (ex_fieldAddr rfl z14) rfl <| og (ex_load1 rfl (hH.cells (i := 1) rfl 9 rfl) rdLe_rfl z82) rfl <| og (ex_len' rfl g z9z) rfl <| og (ex_fieldAddr rfl z6s) rfl <| og (ex_load1 rfl (hH.cells (i := 0) rfl 1 rfl) rdLe_rfl z0c) rfl <| og (ex_lss rfl rfl) rfl <| Run.opsEnd ?_
   rcases btf ((decide ((a4.length : Int) < a5))) with hc52 | hc52
   ·have h := bif_t hc52 h
    refine Run.condT' rfl hc52 ?_
    refine Run.seq (Run.region ?_)
    refine av rfl rfl <| Run.opsEnd ?_
    cases h
    exact Run.ret Tryz.func49 rfl (res_tmp rfl res_nil) rfl
   ·have h := bif_f hc52 h
    refine Run.condF' rfl hc52 ?_
    refine Run.skip (Run.seq (Run.region ?_))
    refine av rfl rfl <| Run.opsEnd ?_
    cases h
    exact Run.ret Tryz.func49 rfl (res_tmp rfl res_nil) rfl

def ref10_notice (F : Nat) (a0 : S_api_Roll) (a1 : S_api_Notice) : Option (Int) :=
 bnd (ref10_CheckAlert F a1.Alert) fun a =>
 bif (!(a == (0 : Int))) then
  some a
 else
  ref10_notice_1 F F (0 : Int) a0.Keys a0.Quorum a1.Alert.Event a1.Alert.Version a1.Alert.Time a1.Alert.Chance.N a1.Alert.Chance.Of a1.Alert.Grid a1.Alert.Cells a1.Alert.Withdrawn a1.Alert.Before a1.Signatures

theorem zae (F : Nat) (a0 : S_api_Roll) (a1 : S_api_Notice) (s0 s1 s2 : SV) (r : Int) (M : Mem) (g : Slc (rd M) 2 (FlatR enc108) s0 a0.Keys) (e : Slc (rd M) 1 (FlatR enc3) s1 a1.Alert.Cells) (f : Slc (rd M) 2 (FlatR enc123) s2 a1.Signatures) (h : ref10_notice F a0 a1 = some r) : CallsM Tryz.prog 49 [(.agg [s0, (.int .i64 a0.Quorum)]), (.agg (r1 a1.Alert s1 s2))] M (fun s M' => s = (.int .i64 r) ∧ M' = M) := by
 refine CallsM.plain Tryz.func49 rfl rfl rfl (show Run _ _ _ (z1b r) _ _ _ from ?_)
 rw [ref10_notice] at h
 replace g := g.mono (rdLe_frozen M) (fun _ _ h => h)
 replace e := e.mono (rdLe_frozen M) (fun _ _ h => h)
 replace f := f.mono (rdLe_frozen M) (fun _ _ h => h)
 have hH := Has.nil (frozen M)
 refine Run.seq (Run.region ?_)
 refine ox rfl (ExG.box rfl rfl hH) ?_
 rintro _ q ⟨p, rfl, d⟩
 refine ox rfl (ExG.box rfl rfl d) ?_
 rintro _ u ⟨m, rfl, a⟩
 refine av rfl rfl ?_
 refine Run.opsEnd (Run.seq (Run.seq (Run.region ?_)))
 refine og (ex_fieldAddr rfl z0a) rfl <| og (ex_loadA rfl (a.cells (i := 0) rfl 0 rfl) rdLe_rfl z0m rfl rfl rfl) rfl ?_
 obtain ⟨n, b, h⟩ := bnd_some h
 refine Run.callP wantS_none (ex_call rfl zg9 zhm) rfl (z85 F a1.Alert s1 _ _ (a.slcF e) b) <| av rfl rfl ?_
 refine Run.opsEnd (Run.seq (Run.region ?_))
 refine mv rfl rfl <| og (ex_neq rfl rfl) rfl <| Run.opsEnd ?_
 rcases btf ((!(n == (0 : Int)))) with hc30 | hc30
 ·have h := bif_t hc30 h
  refine Run.condT' rfl hc30 ?_
  refine Run.seq (Run.region ?_)
  refine mv rfl rfl <| av rfl rfl <| Run.opsEnd ?_
  cases h
  exact Run.ret Tryz.func49 rfl (res_tmp rfl res_nil) rfl
 ·have h := bif_f hc30 h
  refine Run.condF' rfl hc30 ?_
  refine Run.skip (Run.seq (Run.seq (Run.region ?_)))
  refine av rfl rfl ?_
  refine Run.opsEnd (Run.block (Run.loop ?_))
  exact Run.pick [2, 3, 6] (z9c F F (0 : Int) a0.Keys a0.Quorum a1.Alert.Event a1.Alert.Version a1.Alert.Time a1.Alert.Chance.N a1.Alert.Chance.Of a1.Alert.Grid a1.Alert.Cells a1.Alert.Withdrawn a1.Alert.Before a1.Signatures s0 s1 s2 p m _ _ _ g e f (a.pick [1, 0] rfl rfl) h)

theorem zgb : makeK Tryz.prog 49 = none := by kernel_rfl
theorem zh9 : callable Tryz.prog 49 = true := by kernel_rfl
theorem zff : makeK Tryz.prog 50 = none := by kernel_rfl
theorem zdz : callable Tryz.prog 50 = true := by kernel_rfl
theorem z5u : fieldOff Tryz.prog 58 1 = some 2 := by kernel_rfl
theorem zfi : makeK Tryz.prog 52 = none := by kernel_rfl
theorem zel : callable Tryz.prog 52 = true := by kernel_rfl
theorem z3k : planOf Tryz.prog (opsC (atC Tryz.prog 16 [1, 1, 1, 1, 1, 1, 1, 1, 1, 1, 0])) = some [.fl 0, .fl 1, .fl 2, .fl 3, .fl 4, .fl 5, .an 6 [4, 3, 2, 1, 0], .an 7 [4, 3, 2, 1, 0], .an 8 [0], .fl 9, .fl 10, .an 11 [], .sync] := by kernel_rfl
theorem zbb : planOf Tryz.prog (opsC (atC Tryz.prog 16 [1, 0, 0])) = some [.fl 0, .fl 1, .fl 2, .fl 3, .fl 4, .an 5 [], .fl 6, .sync] := by kernel_rfl
theorem zgv : makeK Tryz.prog 81 = none := by kernel_rfl
theorem zha : callable Tryz.prog 81 = true := by kernel_rfl
abbrev z0s (a : List UInt8) (b : List S_api_Notice) (g : SV) (e : List SV) (d : Pos) (Fr0 : Rd) (Hr : List Ent) (r : List S_api_Notice) : SV → Mem → Prop := fun s Me => ∃ q1, s = q1 ∧ ∃ F9 : Rd, RdLe Fr0 F9 ∧ ∃ c1 : List SV, Rows (rep36 F9) 10 c1 r ∧ Has F9 Me (([.vec 36 10 r.length q1 c1, .vec 36 10 b.length g e, .obj d (.row 9 .whole [(.str a)]), tb0, tb1, tb2] : List Ent) ++ Hr)

def alert_only_h2_2 (F : Nat) (b : List UInt8) (d : List S_api_Notice) (f : Int → Int → List S_api_Notice → Option ((List S_api_Notice))) (v9 e : Int) (a : List S_api_Notice) : Option ((List S_api_Notice)) :=
 f v9 (w64 (e + (1 : Int))) a

theorem z4h (F : Nat) (b : List UInt8) (a : List S_api_Notice) (g : SV) (e : List SV) (d : Pos) (Fr0 : Rd) (Hr : List Ent) (a1 : Int → Int → List S_api_Notice → Option ((List S_api_Notice))) (y : ∀ (v9 f : Int) (s : List S_api_Notice) (w : SV) (x : List SV) (Fr : Rd) (M : Mem) (r : List S_api_Notice) (a0 : Rows (rep36 Fr) 10 x s) (p : Rows (rep36 Fr) 10 e a) (hfle : RdLe Fr0 Fr) (hH : Has Fr M (([.obj d (.row 9 .whole [(.str b)]), .vec 36 10 s.length w x, .vec 36 10 a.length g e, tb0, tb1, tb2] : List Ent) ++ Hr)), a1 v9 f s = some r → Run Tryz.prog ⟨⟨82, [], none⟩, []⟩ 23 (z0s b a g e d Fr0 Hr r) [(1, (.fn (.func 81) [] [(.ptr d 0)])), (5, w), (8, g), (9, (.int .i64 v9)), (10, (.int .i64 f))] [codeC Tryz.prog 82 [1, 1, 0, 1, 0, 0], loopC Tryz.prog 82 [1, 1, 0, 1, 0, 0], .inBlock 0, codeC Tryz.prog 82 [1, 1, 1]] M) : ∀ (v9 f : Int) (m : List S_api_Notice) (n : SV) (q : List SV) (Fr : Rd) (M : Mem) (r : List S_api_Notice) (u : Rows (rep36 Fr) 10 q m) (p : Rows (rep36 Fr) 10 e a) (hfle : RdLe Fr0 Fr) (hH : Has Fr M (([.obj d (.row 9 .whole [(.str b)]), .vec 36 10 m.length n q, .vec 36 10 a.length g e, tb0, tb1, tb2] : List Ent) ++ Hr)), alert_only_h2_2 F b a a1 v9 f m = some r → Run Tryz.prog ⟨⟨82, [], none⟩, []⟩ 23 (z0s b a g e d Fr0 Hr r) [(1, (.fn (.func 81) [] [(.ptr d 0)])), (5, n), (8, g), (9, (.int .i64 v9)), (10, (.int .i64 f))] [itemC Tryz.prog 82 [1, 1, 0, 1, 0, 0, 1, 1, 1] 0, loopC Tryz.prog 82 [1, 1, 0, 1, 0, 0], .inBlock 0, codeC Tryz.prog 82 [1, 1, 1]] M := by
 intro v9 f m n q Fr M r u p hfle hH h
 rw [alert_only_h2_2] at h
 refine og (ex_add rfl rfl) rfl <| mv rfl rfl ?_
 refine Run.opsEnd (Run.inLoop ?_)
 exact Run.pick [1, 5, 8, 9, 10] (y v9 (w64 (f + (1 : Int))) m n q _ _ _ u p hfle hH h)

def alert_only_h2_1 (F : Nat) (a : List UInt8) (b : List S_api_Notice) : Nat → Int → Int → List S_api_Notice → Option ((List S_api_Notice))
 | 0, _, _, _ => none
 | N + 1, v9, f, d =>
  bif (decide (f < v9)) then
   bnd (idx b f) fun e =>
   bif (e.Alert.Event == a) then
    bnd (apd 120 d ([(S_api_Notice.mk e.Alert e.Signatures)] : List S_api_Notice)) fun g =>
    alert_only_h2_2 F a b (alert_only_h2_1 F a b N) v9 f g
   else
    alert_only_h2_2 F a b (alert_only_h2_1 F a b N) v9 f d
  else
   some d

theorem z8e (F : Nat) (a : List UInt8) (g : List S_api_Notice) (q : SV) (p : List SV) (n : Pos) (Fr0 : Rd) (Hr : List Ent) : ∀ (N : Nat), ∀ (v9 f : Int) (s : List S_api_Notice) (w : SV) (u : List SV) (Fr : Rd) (M : Mem) (r : List S_api_Notice) (x : Rows (rep36 Fr) 10 u s) (y : Rows (rep36 Fr) 10 p g) (hfle : RdLe Fr0 Fr) (hH : Has Fr M (([.obj n (.row 9 .whole [(.str a)]), .vec 36 10 s.length w u, .vec 36 10 g.length q p, tb0, tb1, tb2] : List Ent) ++ Hr)), alert_only_h2_1 F a g N v9 f s = some r → Run Tryz.prog ⟨⟨82, [], none⟩, []⟩ 23 (z0s a g q p n Fr0 Hr r) [(1, (.fn (.func 81) [] [(.ptr n 0)])), (5, w), (8, q), (9, (.int .i64 v9)), (10, (.int .i64 f))] [codeC Tryz.prog 82 [1, 1, 0, 1, 0, 0], loopC Tryz.prog 82 [1, 1, 0, 1, 0, 0], .inBlock 0, codeC Tryz.prog 82 [1, 1, 1]] M := by
 intro N
 induction N with
 | zero =>
  intro v9 f s w u Fr M r x y hfle hH h
  simp [alert_only_h2_1] at h
 | succ N ih =>
  intro v9 f s w u Fr M r x y hfle hH h
  rw [alert_only_h2_1] at h
  refine Run.seq (Run.region ?_)
  refine og (ex_lss rfl rfl) rfl ?_
  refine Run.opsEnd (Run.seq ?_)
  rcases btf ((decide (f < v9))) with a1 | a1
  ·have h := bif_t a1 h
   refine Run.condT' rfl a1 ?_
   refine Run.skip (Run.seq (Run.block (Run.seq (Run.region ?_))))
   obtain ⟨m, a6, h⟩ := bnd_some h
   obtain ⟨c8, c9, c1, a6, c0⟩ := vec_elemR (P := Tryz.prog) (t := 25) (kk := .i64) hH (i := 2) rfl a6 z5c
   obtain ⟨_, b1, b5, ⟨e, d, rfl, a5, a4⟩⟩ := y.at c0
   refine og (ex_elX rfl rfl a6) rfl <| og (ex_loadA rfl (hH.atR (i := 2) rfl c1 b1 b5) rdLe_rfl z4b rfl rfl rfl) rfl <| ox rfl (ExG.new (v := fun b => .ptr b 0) (ex_alloc zb6) hH) ?_
   rintro _ c6 ⟨a3, rfl, (c2 : Has Fr c6 (([.obj a3 (.row 36 .whole (k1 [] 0 0 0 0 0 .nils false 0 .nils)), .obj n (.row 9 .whole [(.str a)]), .vec 36 10 s.length w u, .vec 36 10 g.length q p, tb0, tb1, tb2] : List Ent) ++ Hr))⟩
   refine ox rfl (ExG.storeC (c' := (r1 m.Alert e d)) rfl rfl rfl c2 (i := 0) rfl zdd rfl rfl rfl (ones_cons rfl (ones_cons rfl (ones_cons rfl (ones_cons rfl (ones_cons rfl (ones_cons rfl (ones_cons (slc_one a5) (ones_cons rfl (ones_cons rfl (ones_cons (slc_one a4) ones_nil)))))))))) rfl) ?_
   rintro _ c5 ⟨rfl, (a8 : Has Fr c5 (([.obj a3 (.row 36 .whole (r1 m.Alert e d)), .obj n (.row 9 .whole [(.str a)]), .vec 36 10 s.length w u, .vec 36 10 g.length q p, tb0, tb1, tb2] : List Ent) ++ Hr))⟩
   refine Run.opsEnd (Run.seq (Run.region ?_))
   refine mv rfl rfl <| og (ex_loadA rfl (a8.cells (i := 0) rfl 0 rfl) rdLe_rfl z4b rfl rfl rfl) rfl <| Run.enter wantS_none (ex_closure rfl rfl zgv zha) Tryz.func81 rfl rfl ?_
   refine Run.seq (Run.region ?_)
   refine ox rfl (ExG.box rfl rfl a8) ?_
   rintro _ c7 ⟨a7, rfl, (a2 : Has Fr c7 (([.obj a7 (.row 36 .whole (r1 m.Alert e d)), .obj a3 (.row 36 .whole (r1 m.Alert e d)), .obj n (.row 9 .whole [(.str a)]), .vec 36 10 s.length w u, .vec 36 10 g.length q p, tb0, tb1, tb2] : List Ent) ++ Hr))⟩
   refine av rfl rfl ?_
   refine Run.opsEnd (Run.seq (Run.region ?_))
   refine og (ex_fieldAddr rfl z0a) rfl <| og (ex_fieldAddr rfl z10) rfl <| og (ex_load1 rfl (a2.cells (i := 0) rfl 0 rfl) rdLe_rfl zam) rfl <| og (ex_load1 rfl (a2.cells (i := 2) rfl 0 rfl) rdLe_rfl zam) rfl <| og (ex_eqlS rfl rfl) rfl <| av rfl rfl <| Run.opsEnd <| Run.retTo Tryz.func81 rfl (res_tmp rfl res_nil) rfl <| Run.opsEnd ?_
   rcases btf ((m.Alert.Event == a)) with a0 | a0
   ·have h := bif_t a0 h
    refine Run.condT' rfl a0 <| Run.region <| mv rfl rfl <| og (ex_loadA rfl (a2.cells (i := 1) rfl 0 rfl) rdLe_rfl z4b rfl rfl rfl) rfl ?_
    have b9 : Rows (rep36 Fr) 10 (r1 m.Alert e d) ([(S_api_Notice.mk m.Alert m.Signatures)] : List S_api_Notice) := (Rows.cons (cs := (r1 m.Alert e d)) rfl ⟨e, d, rfl, a5, a4⟩ Rows.nil)
    refine ox rfl (ExG.builtR (z := 10) (c := (r1 m.Alert e d)) rfl zbv rfl rfl rfl a2) ?_
    rintro b4 c3 (a9 : Has Fr c3 (([.vec 36 10 ([(S_api_Notice.mk m.Alert m.Signatures)] : List S_api_Notice).length b4 (r1 m.Alert e d), .obj a7 (.row 36 .whole (r1 m.Alert e d)), .obj a3 (.row 36 .whole (r1 m.Alert e d)), .obj n (.row 9 .whole [(.str a)]), .vec 36 10 s.length w u, .vec 36 10 g.length q p, tb0, tb1, tb2] : List Ent) ++ Hr))
    obtain ⟨b3, b7, h⟩ := bnd_some h
    refine ox rfl (ExG.appendQ (R := (rep36 Fr)) rfl rfl a9 (i := 4) rfl x (fun _ _ => z4x) rfl z73 rfl (a9.slcR (i := 0) rfl b9) (rdLe_rdRow _) b7) ?_
    rintro b2 c4 ⟨b0, b8, (b6 : Has Fr c4 (([.vec 36 10 ([(S_api_Notice.mk m.Alert m.Signatures)] : List S_api_Notice).length b4 (r1 m.Alert e d), .obj a7 (.row 36 .whole (r1 m.Alert e d)), .obj a3 (.row 36 .whole (r1 m.Alert e d)), .obj n (.row 9 .whole [(.str a)]), .vec 36 10 b3.length b2 b0, .vec 36 10 g.length q p, tb0, tb1, tb2] : List Ent) ++ Hr))⟩
    refine av rfl rfl ?_
    refine Run.opsEnd (Run.inBlock (Run.region ?_))
    exact Run.pick [1, 5, 8, 9, 10] (z4h F a g q p n Fr0 Hr (alert_only_h2_1 F a g N) ih v9 f b3 b2 b0 _ _ _ b8 y hfle (b6.pickT [3, 4, 5, 6, 7, 8] rfl rfl) h)
   ·have h := bif_f a0 h
    refine Run.condF' rfl a0 ?_
    refine Run.skip (Run.inBlock (Run.region ?_))
    exact Run.pick [1, 5, 8, 9, 10] (z4h F a g q p n Fr0 Hr (alert_only_h2_1 F a g N) ih v9 f s w u _ _ _ x y hfle (a2.pickT [2, 3, 4, 5, 6, 7] rfl rfl) h)
  ·have h := bif_f a1 h
   refine Run.condF' rfl a1 ?_
   refine Run.exit rfl (Run.seq (Run.region ?_))
   refine mv rfl rfl <| av rfl rfl <| Run.opsEnd ?_
   cases h
   exact Run.ret Tryz.func82 rfl (res_tmp rfl res_nil) ⟨_, rfl, Fr, hfle, u, x, hH.pickT [1, 2, 0, 3, 4, 5] rfl rfl⟩

def alert_only_h2 (F : Nat) (b : List UInt8) (a : List S_api_Notice) : Option ((List S_api_Notice)) :=
 alert_only_h2_1 F b a F (a.length : Int) (0 : Int) ([] : List S_api_Notice)

theorem z9q (F : Nat) : ∀ (a : List UInt8) (d : List S_api_Notice) (g : SV) (e : List SV) (m : Pos) (Fr0 : Rd) (Hr : List Ent) (M : Mem) (r : List S_api_Notice) (n : Rows (rep36 Fr0) 10 e d) (hH : Has Fr0 M (([.vec 36 10 d.length g e, .obj m (.row 9 .whole [(.str a)]), tb0, tb1, tb2] : List Ent) ++ Hr)) (h : alert_only_h2 F a d = some r), CallsM Tryz.prog 82 [g, (.fn (.func 81) [] [(.ptr m 0)])] M (z0s a d g e m Fr0 Hr r) := by
 intro a d g e m Fr0 Hr M r n hH h
 refine CallsM.run Tryz.func82 rfl rfl (show Run _ _ _ (z0s a d g e m Fr0 Hr r) _ _ _ from ?_)
 rw [alert_only_h2] at h
 refine Run.seq (Run.region ?_)
 refine av rfl rfl ?_
 refine Run.opsEnd (Run.seq (Run.region ?_))
 refine av rfl rfl ?_
 refine Run.opsEnd (Run.seq (Run.seq (Run.region ?_)))
 refine mv rfl rfl <| og (ex_len' rfl (hH.slcR (i := 0) rfl n) z4n) rfl <| mv rfl rfl ?_
 refine Run.opsEnd (Run.block (Run.loop ?_))
 have p : Has Fr0 M (([.vec 36 10 ([] : List S_api_Notice).length .nils [], .vec 36 10 d.length g e, .obj m (.row 9 .whole [(.str a)]), tb0, tb1, tb2] : List Ent) ++ Hr) := hH.nils 36 10
 exact Run.pick [1, 5, 8, 9, 10] (z8e F a d g e m Fr0 Hr F (d.length : Int) (0 : Int) ([] : List S_api_Notice) .nils [] _ _ _ Rows.nil n (fun b c hb => hb) (p.pickT [2, 0, 1, 3, 4, 5] rfl rfl) h)

abbrev z0o (p : List UInt8) (g : Int) (d : List S_api_Key) (m : List S_api_Notice) (b : Pos) (e a : SV) (n : List SV) (Fr0 : Rd) (Hr : List Ent) (r : List S_api_Alert) : SV → Mem → Prop := fun s Me => ∃ q1, s = q1 ∧ ∃ F9 : Rd, RdLe Fr0 F9 ∧ ∃ c1 : List SV, Rows (rep33 F9) 9 c1 r ∧ Has F9 Me (([.vec 33 9 r.length q1 c1, .obj b (.row 41 .whole [e, (.int .i64 g), a, (.ptr b 0)]), .vec 166 2 d.length e (d.flatMap z01), .vec 36 10 m.length a n, tb0, tb1, tb2] : List Ent) ++ Hr)

def alert_Board_alertsOf_h2_1 (F : Nat) (m : List UInt8) (a : Int) (g : List S_api_Key) (d : List S_api_Notice) : Nat → Int → Int → List S_api_Alert → List S_api_Notice → Option ((List S_api_Alert))
 | 0, _, _, _, _ => none
 | N + 1, s, f, b, e =>
  bif (decide (f < s)) then
   bnd (idx e f) fun p =>
   bnd (alert_copyOfAlert F p.Alert) fun q =>
   bnd (apd 96 b ([q] : List S_api_Alert)) fun n =>
   (alert_Board_alertsOf_h2_1 F m a g d N) s (w64 (f + (1 : Int))) n e
  else
   some b

theorem z3o (F : Nat) (b7 : List UInt8) (m : Int) (d : List S_api_Key) (n : List S_api_Notice) (e : Pos) (g a : SV) (p : List SV) (Fr0 : Rd) (Hr : List Ent) : ∀ (N : Nat), ∀ (f e3 : Int) (a1 : List S_api_Alert) (q : List S_api_Notice) (a4 : SV) (y : List SV) (x : SV) (u : List SV) (Fr : Rd) (M : Mem) (r : List S_api_Alert) (a6 : Rows (rep33 Fr) 9 y a1) (a7 : Rows (rep36 Fr) 10 u q) (a9 : Rows (rep36 Fr) 10 p n) (hfle : RdLe Fr0 Fr) (hH : Has Fr M (([.vec 33 9 a1.length a4 y, .vec 36 10 q.length x u, .obj e (.row 41 .whole [g, (.int .i64 m), a, (.ptr e 0)]), .vec 166 2 d.length g (d.flatMap z01), .vec 36 10 n.length a p, tb0, tb1, tb2] : List Ent) ++ Hr)), alert_Board_alertsOf_h2_1 F b7 m d n N f e3 a1 q = some r → Run Tryz.prog ⟨⟨38, [], none⟩, []⟩ 29 (z0o b7 m d n e g a p Fr0 Hr r) [(6, a4), (15, x), (16, (.int .i64 f)), (17, (.int .i64 e3))] [codeC Tryz.prog 38 [1, 1, 1, 0, 1, 0, 0], loopC Tryz.prog 38 [1, 1, 1, 0, 1, 0, 0], .inBlock 0, codeC Tryz.prog 38 [1, 1, 1, 1]] M := by
 intro N
 induction N with
 | zero =>
  intro f e3 a1 q a4 y x u Fr M r a6 a7 a9 hfle hH h
  simp [alert_Board_alertsOf_h2_1] at h
 | succ N ih =>
  intro f e3 a1 q a4 y x u Fr M r a6 a7 a9 hfle hH h
  rw [alert_Board_alertsOf_h2_1] at h
  refine Run.seq (Run.region ?_)
  refine og (ex_lss rfl rfl) rfl ?_
  refine Run.opsEnd (Run.seq ?_)
  rcases btf ((decide (e3 < f))) with b0 | b0
  ·have h := bif_t b0 h
   refine Run.condT' rfl b0 ?_
   refine Run.skip (Run.seq (Run.block (Run.seq (Run.region ?_))))
   obtain ⟨a8, b5, h⟩ := bnd_some h
   obtain ⟨e1, e2, c4, b5, c5⟩ := vec_elemR (P := Tryz.prog) (t := 25) (kk := .i64) hH (i := 1) rfl b5 z5c
   obtain ⟨_, c0, c2, ⟨s, a2, rfl, a5, b2⟩⟩ := a7.at c5
   refine og (ex_elX rfl rfl b5) rfl <| og (ex_loadA rfl (hH.atR (i := 1) rfl c4 c0 c2) rdLe_rfl z4b rfl rfl rfl) rfl <| ox rfl (ExG.new (v := fun b => .ptr b 0) (ex_alloc zb6) hH) ?_
   rintro _ d7 ⟨b1, rfl, (c9 : Has Fr d7 (([.obj b1 (.row 36 .whole (k1 [] 0 0 0 0 0 .nils false 0 .nils)), .vec 33 9 a1.length a4 y, .vec 36 10 q.length x u, .obj e (.row 41 .whole [g, (.int .i64 m), a, (.ptr e 0)]), .vec 166 2 d.length g (d.flatMap z01), .vec 36 10 n.length a p, tb0, tb1, tb2] : List Ent) ++ Hr))⟩
   refine ox rfl (ExG.storeC (c' := (r1 a8.Alert s a2)) rfl rfl rfl c9 (i := 0) rfl zdd rfl rfl rfl (ones_cons rfl (ones_cons rfl (ones_cons rfl (ones_cons rfl (ones_cons rfl (ones_cons rfl (ones_cons (slc_one a5) (ones_cons rfl (ones_cons rfl (ones_cons (slc_one b2) ones_nil)))))))))) rfl) ?_
   rintro _ d5 ⟨rfl, (b4 : Has Fr d5 (([.obj b1 (.row 36 .whole (r1 a8.Alert s a2)), .vec 33 9 a1.length a4 y, .vec 36 10 q.length x u, .obj e (.row 41 .whole [g, (.int .i64 m), a, (.ptr e 0)]), .vec 166 2 d.length g (d.flatMap z01), .vec 36 10 n.length a p, tb0, tb1, tb2] : List Ent) ++ Hr))⟩
   refine Run.opsEnd (Run.region ?_)
   refine mv rfl rfl <| og (ex_fieldAddr rfl z0a) rfl <| og (ex_loadA rfl (b4.cells (i := 0) rfl 0 rfl) rdLe_rfl z0m rfl rfl rfl) rfl ?_
   obtain ⟨a0, c7, h⟩ := bnd_some h
   refine Run.callX wantS_none (ex_call rfl zf0 zdx) rfl (z3h F a8.Alert s _ _ (b4.slcF a5) c7) ?_
   rintro _ d9 ⟨w, rfl, c8⟩
   have d4 : Has Fr d9 (([.vec 3 1 a0.Cells.length w (a0.Cells.flatMap enc3), .obj b1 (.row 36 .whole (r1 a8.Alert s a2)), .vec 33 9 a1.length a4 y, .vec 36 10 q.length x u, .obj e (.row 41 .whole [g, (.int .i64 m), a, (.ptr e 0)]), .vec 166 2 d.length g (d.flatMap z01), .vec 36 10 n.length a p, tb0, tb1, tb2] : List Ent) ++ Hr) := c8.1 _ _ b4
   refine Run.freezeA (t := 24) (i := 0) (j := 6) (enc := enc3) rfl d4 rfl rfl z0i ?_
   intro b3 d8 a3 (d2 : Has b3 d8 (([.vec 0 0 0 .nils [], .obj b1 (.row 36 .whole (r1 a8.Alert s a2)), .vec 33 9 a1.length a4 y, .vec 36 10 q.length x u, .obj e (.row 41 .whole [g, (.int .i64 m), a, (.ptr e 0)]), .vec 166 2 d.length g (d.flatMap z01), .vec 36 10 n.length a p, tb0, tb1, tb2] : List Ent) ++ Hr)) hf150
   replace a5 := a5.mono a3 (fun _ _ h => h)
   replace b2 := b2.mono a3 (fun _ _ h => h)
   replace a7 := a7.mono fun _ _ => z02 a3
   replace a6 := a6.mono fun _ _ => z3l a3
   replace a9 := a9.mono fun _ _ => z02 a3
   have c6 : Rows (rep33 b3) 9 (r0 a0 w) ([a0] : List S_api_Alert) := (Rows.cons (cs := (r0 a0 w)) rfl ⟨w, rfl, hf150⟩ Rows.nil)
   refine ox rfl (ExG.builtR (z := 9) (c := (r0 a0 w)) rfl zeu rfl rfl rfl d2) ?_
   rintro c1 d6 (b6 : Has b3 d6 (([.vec 33 9 ([a0] : List S_api_Alert).length c1 (r0 a0 w), .vec 0 0 0 .nils [], .obj b1 (.row 36 .whole (r1 a8.Alert s a2)), .vec 33 9 a1.length a4 y, .vec 36 10 q.length x u, .obj e (.row 41 .whole [g, (.int .i64 m), a, (.ptr e 0)]), .vec 166 2 d.length g (d.flatMap z01), .vec 36 10 n.length a p, tb0, tb1, tb2] : List Ent) ++ Hr))
   obtain ⟨b8, d0, h⟩ := bnd_some h
   refine ox rfl (ExG.appendQ (R := (rep33 b3)) rfl rfl b6 (i := 3) rfl a6 (fun _ _ => zap) rfl zb4 rfl (b6.slcR (i := 0) rfl c6) (rdLe_rdRow _) d0) ?_
   rintro b9 e0 ⟨c3, d1, (d3 : Has b3 e0 (([.vec 33 9 ([a0] : List S_api_Alert).length c1 (r0 a0 w), .vec 0 0 0 .nils [], .obj b1 (.row 36 .whole (r1 a8.Alert s a2)), .vec 33 9 b8.length b9 c3, .vec 36 10 q.length x u, .obj e (.row 41 .whole [g, (.int .i64 m), a, (.ptr e 0)]), .vec 166 2 d.length g (d.flatMap z01), .vec 36 10 n.length a p, tb0, tb1, tb2] : List Ent) ++ Hr))⟩
   refine av rfl rfl ?_
   refine Run.opsEnd (Run.inBlock (Run.region ?_))
   refine og (ex_add rfl rfl) rfl <| mv rfl rfl ?_
   refine Run.opsEnd (Run.inLoop ?_)
   exact Run.pick [6, 15, 16, 17] (ih f (w64 (e3 + (1 : Int))) b8 q b9 c3 x u _ _ _ d1 a7 a9 (fun b c hb => a3 b c (hfle b c hb)) (d3.pickT [3, 4, 5, 6, 7, 8, 9, 10] rfl rfl) h)
  ·have h := bif_f b0 h
   refine Run.condF' rfl b0 ?_
   refine Run.exit rfl (Run.seq (Run.region ?_))
   refine mv rfl rfl <| av rfl rfl <| Run.opsEnd ?_
   cases h
   exact Run.ret Tryz.func38 rfl (res_tmp rfl res_nil) ⟨_, rfl, Fr, hfle, y, a6, hH.pickT [0, 2, 3, 4, 5, 6, 7] rfl rfl⟩

def alert_Board_alertsOf_h2 (F : Nat) (e : List UInt8) (b : Int) (g : List S_api_Key) (a : List S_api_Notice) : Option ((List S_api_Alert)) :=
 bnd (alert_only_h2 F e a) fun d =>
 alert_Board_alertsOf_h2_1 F e b g a F (d.length : Int) (0 : Int) ([] : List S_api_Alert) d

theorem z0r (F : Nat) : ∀ (q : List UInt8) (g : Int) (e : List S_api_Key) (n : List S_api_Notice) (d : Pos) (m a : SV) (p : List SV) (Fr0 : Rd) (Hr : List Ent) (M : Mem) (r : List S_api_Alert) (s : Rows (rep36 Fr0) 10 p n) (hH : Has Fr0 M (([.obj d (.row 41 .whole [m, (.int .i64 g), a, (.ptr d 0)]), .vec 166 2 e.length m (e.flatMap z01), .vec 36 10 n.length a p, tb0, tb1, tb2] : List Ent) ++ Hr)) (h : alert_Board_alertsOf_h2 F q g e n = some r), CallsM Tryz.prog 38 [(.ptr d 0), (.str q)] M (z0o q g e n d m a p Fr0 Hr r) := by
 intro q g e n d m a p Fr0 Hr M r s hH h
 refine CallsM.run Tryz.func38 rfl rfl (show Run _ _ _ (z0o q g e n d m a p Fr0 Hr r) _ _ _ from ?_)
 rw [alert_Board_alertsOf_h2] at h
 refine Run.seq (Run.region ?_)
 refine ox rfl (ExG.box rfl rfl hH) ?_
 rintro _ a8 ⟨y, rfl, (a2 : Has Fr0 a8 (([.obj y (.row 9 .whole [(.str q)]), .obj d (.row 41 .whole [m, (.int .i64 g), a, (.ptr d 0)]), .vec 166 2 e.length m (e.flatMap z01), .vec 36 10 n.length a p, tb0, tb1, tb2] : List Ent) ++ Hr))⟩
 refine av rfl rfl ?_
 refine Run.opsEnd (Run.seq (Run.region ?_))
 refine og (ex_makeFunc rfl rfl) rfl <| av rfl rfl ?_
 refine Run.opsEnd (Run.seq (Run.region ?_))
 refine av rfl rfl ?_
 refine Run.opsEnd (Run.seq (Run.seq (Run.region ?_)))
 refine mv rfl rfl <| og (ex_nilP rfl) rfl <| og (ex_fieldAddr rfl z8c) rfl <| og (ex_load1 rfl (a2.cells (i := 1) rfl 2 rfl) rdLe_rfl z8r) rfl <| mv rfl rfl ?_
 obtain ⟨a0, a7, h⟩ := bnd_some h
 refine Run.callX wantS_none (ex_call rfl zgq zh0) rfl (z9q F q n a p y Fr0 ([.obj d (.row 41 .whole [m, (.int .i64 g), a, (.ptr d 0)]), .vec 166 2 e.length m (e.flatMap z01)] ++ Hr) _ _ s (a2.pickT [3, 0, 4, 5, 6, 1, 2] rfl rfl) a7) ?_
 rintro u a5 ⟨_, rfl, a4, a1, w, x, (a3 : Has a4 a5 (([.vec 36 10 a0.length u w, .vec 36 10 n.length a p, .obj y (.row 9 .whole [(.str q)]), tb0, tb1, tb2, .obj d (.row 41 .whole [m, (.int .i64 g), a, (.ptr d 0)]), .vec 166 2 e.length m (e.flatMap z01)] : List Ent) ++ Hr))⟩
 replace s := s.mono fun _ _ => z02 a1
 refine og (ex_len' rfl (a3.slcR (i := 0) rfl x) z4n) rfl <| mv rfl rfl ?_
 refine Run.opsEnd (Run.block (Run.loop ?_))
 have a6 : Has a4 a5 (([.vec 33 9 ([] : List S_api_Alert).length .nils [], .vec 36 10 a0.length u w, .vec 36 10 n.length a p, .obj y (.row 9 .whole [(.str q)]), tb0, tb1, tb2, .obj d (.row 41 .whole [m, (.int .i64 g), a, (.ptr d 0)]), .vec 166 2 e.length m (e.flatMap z01)] : List Ent) ++ Hr) := a3.nils 33 9
 exact Run.pick [6, 15, 16, 17] (z3o F q g e n d m a p Fr0 Hr F (a0.length : Int) (0 : Int) ([] : List S_api_Alert) a0 .nils [] u w _ _ _ Rows.nil x s (fun b c hb => a1 b c ((fun b c hb => hb) b c hb)) (a6.pickT [0, 1, 7, 8, 2, 4, 5, 6] rfl rfl) h)

end Go.Ev.AlertBoards
