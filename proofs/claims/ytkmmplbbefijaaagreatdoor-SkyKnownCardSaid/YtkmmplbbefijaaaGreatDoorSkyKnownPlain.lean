/- A plain function that says what a function of the program comes to, and the proof of it, written by a program of the verifier's own. -/
import Derived.Test.YtkmmplbbefijaaaGreatDoorEvL16
import Derived.Test.YtkmmplbbefijaaaGreatDoorChecked
import Derived.KernelRfl
namespace Go.Ev.SkyKnown
open Go Go.Ev Go.Proofs
set_option maxRecDepth 100000
set_option linter.unusedVariables false

structure S_sky_vector where
  e0 : Int
  e1 : Int
  e2 : Int

theorem agg85 : aggSize Tryz.prog 85 = some (some 3) := by kernel_rfl
def enc85 (a : S_sky_vector) : List SV := [(.int .i64 a.e0), (.int .i64 a.e1), (.int .i64 a.e2)]
theorem enc85_len (a : S_sky_vector) : (enc85 a).length = 3 := rfl
theorem enc85_ones (a : S_sky_vector) : ones (enc85 a) = true := rfl
def get85 (a : S_sky_vector) (o : Nat) : Int := bif Nat.beq o 0 then a.e0 else bif Nat.beq o 1 then a.e1 else a.e2
def set85 (a : S_sky_vector) (o : Nat) (v : Int) : S_sky_vector := ⟨bif Nat.beq o 0 then v else a.e0, bif Nat.beq o 1 then v else a.e1, bif Nat.beq o 2 then v else a.e2⟩
theorem get85_cell (a : S_sky_vector) : ∀ o : Nat, o < 3 → (enc85 a)[o]? = some (.int .i64 (get85 a o))
  | 0, _ => rfl
  | 1, _ => rfl
  | 2, _ => rfl
  | _ + 3, h => absurd h (by omega)
theorem set85_cell (a : S_sky_vector) (v : Int) : ∀ o : Nat, o < 3 → (enc85 a).set o (.int .i64 v) = enc85 (set85 a o v)
  | 0, _ => rfl
  | 1, _ => rfl
  | 2, _ => rfl
  | _ + 3, h => absurd h (by omega)
theorem wha85 : whole Tryz.prog 85 = some (.arr 3 3 1) := by kernel_rfl
theorem agg3 : aggSize Tryz.prog 3 = some none := by kernel_rfl
abbrev sky_faceOf_post (r : Int) : SV → Mem → Prop := fun s _ => s = (.int .i64 r)

def sky_faceOf_2 (F : Nat) (hd1 : Int → Int → S_sky_vector → Int → Option (Int)) (v3 : Int) (v4 : Int) (v7 : S_sky_vector) (v8 : Int) : Option (Int) :=
  hd1 v3 v4 v7 (w64 (v8 + (1 : Int)))

theorem sky_faceOf_2_ok (F : Nat) (hd1 : Int → Int → S_sky_vector → Int → Option (Int)) (hhd1 : ∀ (v3 : Int) (v4 : Int) (v7 : S_sky_vector) (v8 : Int) (Fr : Rd) (M : Mem) (r : Int) (hH : Has Fr M []), hd1 v3 v4 v7 v8 = some r → Run Tryz.prog ⟨⟨109, [], none⟩, []⟩ 29 (sky_faceOf_post r) [(3, (.int .i64 v3)), (4, (.int .i64 v4)), (7, (.agg [(.int .i64 v7.e0), (.int .i64 v7.e1), (.int .i64 v7.e2)])), (8, (.int .i64 v8))] [codeC Tryz.prog 109 [1, 1, 0, 1, 0, 0], loopC Tryz.prog 109 [1, 1, 0, 1, 0, 0], .inBlock 0, codeC Tryz.prog 109 [1, 1, 1]] M) : ∀ (v3 : Int) (v4 : Int) (v7 : S_sky_vector) (v8 : Int) (Fr : Rd) (M : Mem) (r : Int) (hH : Has Fr M []), sky_faceOf_2 F hd1 v3 v4 v7 v8 = some r → Run Tryz.prog ⟨⟨109, [], none⟩, []⟩ 29 (sky_faceOf_post r) [(3, (.int .i64 v3)), (4, (.int .i64 v4)), (7, (.agg [(.int .i64 v7.e0), (.int .i64 v7.e1), (.int .i64 v7.e2)])), (8, (.int .i64 v8))] [itemC Tryz.prog 109 [1, 1, 0, 1, 0, 0, 1, 1, 1] 0, loopC Tryz.prog 109 [1, 1, 0, 1, 0, 0], .inBlock 0, codeC Tryz.prog 109 [1, 1, 1]] M := by
  intro v3 v4 v7 v8 Fr M r hH h
  rw [sky_faceOf_2] at h
  refine Run.opG wantS_none (ex_add rfl rfl) rfl ?_
  refine Run.opG wantS_none (ex_move rfl) rfl ?_
  refine Run.opsEnd (Run.inLoop ?_)
  exact Run.pick [3, 4, 7, 8] (hhd1 v3 v4 v7 (w64 (v8 + (1 : Int))) _ _ _ hH h)

def sky_faceOf_1 (F : Nat) : Nat → Int → Int → S_sky_vector → Int → Option (Int)
  | 0, _, _, _, _ => none
  | N + 1, v3, v4, v7, v8 =>
    bif (decide (v8 < (3 : Int))) then
      bnd (inA v8 3) fun o26 =>
      bif (decide (v4 < (get85 v7 o26))) then
        sky_faceOf_2 F (sky_faceOf_1 F N) (w64 ((2 : Int) * v8)) (get85 v7 o26) v7 v8
      else
        bif (decide (v4 < (w64 (-(get85 v7 o26))))) then
          sky_faceOf_2 F (sky_faceOf_1 F N) (w64 ((w64 ((2 : Int) * v8)) + (1 : Int))) (w64 (-(get85 v7 o26))) v7 v8
        else
          sky_faceOf_2 F (sky_faceOf_1 F N) v3 v4 v7 v8
    else
      some v3

theorem sky_faceOf_1_ok (F : Nat) : ∀ (N : Nat), ∀ (v3 : Int) (v4 : Int) (v7 : S_sky_vector) (v8 : Int) (Fr : Rd) (M : Mem) (r : Int) (hH : Has Fr M []), sky_faceOf_1 F N v3 v4 v7 v8 = some r → Run Tryz.prog ⟨⟨109, [], none⟩, []⟩ 29 (sky_faceOf_post r) [(3, (.int .i64 v3)), (4, (.int .i64 v4)), (7, (.agg [(.int .i64 v7.e0), (.int .i64 v7.e1), (.int .i64 v7.e2)])), (8, (.int .i64 v8))] [codeC Tryz.prog 109 [1, 1, 0, 1, 0, 0], loopC Tryz.prog 109 [1, 1, 0, 1, 0, 0], .inBlock 0, codeC Tryz.prog 109 [1, 1, 1]] M := by
  intro N
  induction N with
  | zero =>
    intro v3 v4 v7 v8 Fr M r hH h
    simp [sky_faceOf_1] at h
  | succ N ih =>
    intro v3 v4 v7 v8 Fr M r hH h
    rw [sky_faceOf_1] at h
    refine Run.seq (Run.region ?_)
    refine Run.opG wantS_none (ex_lss rfl rfl) rfl ?_
    refine Run.opsEnd (Run.seq ?_)
    rcases btf ((decide (v8 < (3 : Int)))) with hc24 | hc24
    · have h := bif_t hc24 h
      refine Run.condT' rfl hc24 ?_
      refine Run.skip (Run.seq (Run.block (Run.seq (Run.region ?_))))
      refine Run.opG wantS_none (ex_move rfl) rfl ?_
      obtain ⟨o26, ho26, h⟩ := bnd_some h
      refine Run.opG wantS_none (ex_idxA rfl rfl wha85 (inA_natIn ho26) (part_at agg3 (get85_cell v7 o26 (inA_lt ho26)))) rfl ?_
      refine Run.opG wantS_none (ex_assign rfl) rfl ?_
      refine Run.opG wantS_none (ex_assign rfl) rfl ?_
      refine Run.opsEnd (Run.seq (Run.region ?_))
      refine Run.opG wantS_none (ex_move rfl) rfl ?_
      refine Run.opG wantS_none (ex_move rfl) rfl ?_
      refine Run.opG wantS_none (ex_gtr rfl rfl) rfl ?_
      refine Run.opsEnd ?_
      rcases btf ((decide (v4 < (get85 v7 o26)))) with hc27 | hc27
      · have h := bif_t hc27 h
        refine Run.condT' rfl hc27 ?_
        refine Run.region ?_
        refine Run.opG wantS_none (ex_move rfl) rfl ?_
        refine Run.opG wantS_none (ex_mul rfl rfl) rfl ?_
        refine Run.opG wantS_none (ex_move rfl) rfl ?_
        refine Run.opG wantS_none (ex_assign rfl) rfl ?_
        refine Run.opG wantS_none (ex_assign rfl) rfl ?_
        refine Run.opsEnd (Run.inBlock (Run.region ?_))
        exact Run.pick [3, 4, 7, 8] (sky_faceOf_2_ok F (sky_faceOf_1 F N) ih (w64 ((2 : Int) * v8)) (get85 v7 o26) v7 v8 _ _ _ hH h)
      · have h := bif_f hc27 h
        refine Run.condF' rfl hc27 ?_
        refine Run.seq (Run.region ?_)
        refine Run.opG wantS_none (ex_move rfl) rfl ?_
        refine Run.opG wantS_none (ex_neg rfl) rfl ?_
        refine Run.opG wantS_none (ex_move rfl) rfl ?_
        refine Run.opG wantS_none (ex_gtr rfl rfl) rfl ?_
        refine Run.opsEnd ?_
        rcases btf ((decide (v4 < (w64 (-(get85 v7 o26)))))) with hc28 | hc28
        · have h := bif_t hc28 h
          refine Run.condT' rfl hc28 ?_
          refine Run.region ?_
          refine Run.opG wantS_none (ex_move rfl) rfl ?_
          refine Run.opG wantS_none (ex_mul rfl rfl) rfl ?_
          refine Run.opG wantS_none (ex_add rfl rfl) rfl ?_
          refine Run.opG wantS_none (ex_move rfl) rfl ?_
          refine Run.opG wantS_none (ex_neg rfl) rfl ?_
          refine Run.opG wantS_none (ex_assign rfl) rfl ?_
          refine Run.opG wantS_none (ex_assign rfl) rfl ?_
          refine Run.opsEnd (Run.inBlock (Run.region ?_))
          exact Run.pick [3, 4, 7, 8] (sky_faceOf_2_ok F (sky_faceOf_1 F N) ih (w64 ((w64 ((2 : Int) * v8)) + (1 : Int))) (w64 (-(get85 v7 o26))) v7 v8 _ _ _ hH h)
        · have h := bif_f hc28 h
          refine Run.condF' rfl hc28 ?_
          refine Run.skip (Run.inBlock (Run.region ?_))
          exact Run.pick [3, 4, 7, 8] (sky_faceOf_2_ok F (sky_faceOf_1 F N) ih v3 v4 v7 v8 _ _ _ hH h)
    · have h := bif_f hc24 h
      refine Run.condF' rfl hc24 ?_
      refine Run.exit rfl (Run.seq (Run.region ?_))
      refine Run.opG wantS_none (ex_move rfl) rfl ?_
      refine Run.opG wantS_none (ex_assign rfl) rfl ?_
      refine Run.opsEnd ?_
      cases h
      exact Run.ret Tryz.func109 rfl (res_tmp rfl res_nil) rfl

def sky_faceOf (F : Nat) (a0 : S_sky_vector) : Option (Int) :=
  sky_faceOf_1 F F (0 : Int) (0 : Int) a0 (0 : Int)

theorem sky_faceOf_ok (F : Nat) (a0 : S_sky_vector) (r : Int) (M : Mem) (h : sky_faceOf F a0 = some r) : CallsM Tryz.prog 109 [(.agg [(.int .i64 a0.e0), (.int .i64 a0.e1), (.int .i64 a0.e2)])] M (fun s M' => s = (.int .i64 r) ∧ M' = M) := by
  refine CallsM.plain Tryz.func109 rfl rfl rfl (show Run _ _ _ (sky_faceOf_post r) _ _ _ from ?_)
  rw [sky_faceOf] at h
  have hH := Has.nil (frozen M)
  refine Run.seq (Run.region ?_)
  refine Run.opX wantS_none rfl (ExG.box rfl rfl hH) ?_
  rintro _ M23 ⟨b22, rfl, (hH23 : Has (ro (frozen M)) M23 [.obj b22 (.row 85 .whole [(.int .i64 a0.e0), (.int .i64 a0.e1), (.int .i64 a0.e2)])])⟩
  refine Run.opG wantS_none (ex_assign rfl) rfl ?_
  refine Run.opsEnd (Run.seq (Run.region ?_))
  refine Run.opG wantS_none (ex_assign rfl) rfl ?_
  refine Run.opG wantS_none (ex_assign rfl) rfl ?_
  refine Run.opsEnd (Run.seq (Run.seq (Run.region ?_)))
  refine Run.opG wantS_none (ex_loadA rfl (hH23.cells (i := 0) rfl 0 rfl) rdLe_rfl agg85 rfl rfl rfl) rfl ?_
  refine Run.opG wantS_none (ex_move rfl) rfl ?_
  refine Run.opsEnd (Run.block (Run.loop ?_))
  exact Run.pick [3, 4, 7, 8] (sky_faceOf_1_ok F F (0 : Int) (0 : Int) a0 (0 : Int) _ _ _ (hH23.pick [] rfl rfl) h)

theorem mkk109 : makeK Tryz.prog 109 = none := by kernel_rfl
theorem cal109 : callable Tryz.prog 109 = true := by kernel_rfl
abbrev sky_axes_post (r : Int × Int × Int) : SV → Mem → Prop := fun s _ => s = (.tuple [(.int .i64 r.1), (.int .i64 r.2.1), (.int .i64 r.2.2)])

def sky_axes (F : Nat) (a0 : Int) : Option (Int × Int × Int) :=
  bif ((w64 (Int.tdiv a0 (2 : Int))) == (0 : Int)) then
    some ((0 : Int), (1 : Int), (2 : Int))
  else
    bif ((w64 (Int.tdiv a0 (2 : Int))) == (1 : Int)) then
      some ((1 : Int), (0 : Int), (2 : Int))
    else
      some ((2 : Int), (0 : Int), (1 : Int))

theorem sky_axes_ok (F : Nat) (a0 : Int) (r : Int × Int × Int) (M : Mem) (h : sky_axes F a0 = some r) : CallsM Tryz.prog 107 [(.int .i64 a0)] M (fun s M' => s = (.tuple [(.int .i64 r.1), (.int .i64 r.2.1), (.int .i64 r.2.2)]) ∧ M' = M) := by
  refine CallsM.plain Tryz.func107 rfl rfl rfl (show Run _ _ _ (sky_axes_post r) _ _ _ from ?_)
  rw [sky_axes] at h
  have hH := Has.nil (frozen M)
  refine Run.seq (Run.region ?_)
  refine Run.opG wantS_none (ex_assign rfl) rfl ?_
  refine Run.opG wantS_none (ex_assign rfl) rfl ?_
  refine Run.opG wantS_none (ex_assign rfl) rfl ?_
  refine Run.opsEnd (Run.seq (Run.seq (Run.region ?_)))
  refine Run.opG wantS_none (ex_move rfl) rfl ?_
  refine Run.opG wantS_none (ex_quo rfl rfl (by decide)) rfl ?_
  refine Run.opsEnd (Run.block (Run.seq (Run.region ?_)))
  refine Run.opG wantS_none (ex_eql rfl rfl) rfl ?_
  refine Run.opG wantS_none (ex_assign rfl) rfl ?_
  refine Run.opsEnd ?_
  rcases btf (((w64 (Int.tdiv a0 (2 : Int))) == (0 : Int))) with hc21 | hc21
  · have h := bif_t hc21 h
    refine Run.condT' rfl hc21 ?_
    refine Run.seq (Run.region ?_)
    refine Run.opG wantS_none (ex_assign rfl) rfl ?_
    refine Run.opG wantS_none (ex_assign rfl) rfl ?_
    refine Run.opG wantS_none (ex_assign rfl) rfl ?_
    refine Run.opsEnd ?_
    cases h
    exact Run.ret Tryz.func107 rfl (res_tmp rfl (res_tmp rfl (res_tmp rfl res_nil))) rfl
  · have h := bif_f hc21 h
    refine Run.condF' rfl hc21 ?_
    refine Run.seq (Run.region ?_)
    refine Run.opG wantS_none (ex_eql rfl rfl) rfl ?_
    refine Run.opG wantS_none (ex_assign rfl) rfl ?_
    refine Run.opsEnd ?_
    rcases btf (((w64 (Int.tdiv a0 (2 : Int))) == (1 : Int))) with hc22 | hc22
    · have h := bif_t hc22 h
      refine Run.condT' rfl hc22 ?_
      refine Run.seq (Run.region ?_)
      refine Run.opG wantS_none (ex_assign rfl) rfl ?_
      refine Run.opG wantS_none (ex_assign rfl) rfl ?_
      refine Run.opG wantS_none (ex_assign rfl) rfl ?_
      refine Run.opsEnd ?_
      cases h
      exact Run.ret Tryz.func107 rfl (res_tmp rfl (res_tmp rfl (res_tmp rfl res_nil))) rfl
    · have h := bif_f hc22 h
      refine Run.condF' rfl hc22 ?_
      refine Run.skip (Run.inBlock (Run.seq (Run.region ?_)))
      refine Run.opG wantS_none (ex_assign rfl) rfl ?_
      refine Run.opG wantS_none (ex_assign rfl) rfl ?_
      refine Run.opG wantS_none (ex_assign rfl) rfl ?_
      refine Run.opsEnd ?_
      cases h
      exact Run.ret Tryz.func107 rfl (res_tmp rfl (res_tmp rfl (res_tmp rfl res_nil))) rfl

theorem mkk107 : makeK Tryz.prog 107 = none := by kernel_rfl
theorem cal107 : callable Tryz.prog 107 = true := by kernel_rfl
theorem latep57_1_1_1_0 : lateP Tryz.prog (opsC (atC Tryz.prog 57 [1, 1, 1, 0])) 11 [1, 2, 3, 4, 5, 6, 7, 8] = true := by kernel_rfl
theorem els85 : elems Tryz.prog 85 = some (.arr 3 1) := by kernel_rfl
theorem zer3 : zerosOf Tryz.prog 3 = some [(.int .i64 0)] := by kernel_rfl
theorem sz3 : szOf Tryz.prog 3 = some 1 := by kernel_rfl
theorem mkk110 : makeK Tryz.prog 110 = none := by kernel_rfl
theorem cal110 : callable Tryz.prog 110 = true := by kernel_rfl
theorem plan110_1_0 : planOf Tryz.prog (opsC (atC Tryz.prog 110 [1, 0])) = some [.fl 0, .fl 1, .fl 2, .fl 3, .fl 4, .fl 5, .fl 6, .fl 7, .fl 8, .fl 9, .fl 10, .fl 11, .sync] := by kernel_rfl
abbrev sky_grid_cellOf_1_h1_post (e_v0 : Int) (e_c34_0 : Int) (e_c32_0 : Int) (e_b34 : Pos) (e_b32 : Pos) (Fr0 : Rd) (Hr : List Ent) (r : Int) : SV → Mem → Prop := fun s Me => s = (.int .i64 r) ∧ Has Fr0 Me (([.obj e_b34 (.row 3 .whole [(.int .i64 e_c34_0)]), .obj e_b32 (.row 3 .whole [(.int .i64 e_c32_0)])] : List Ent) ++ Hr)

def sky_grid_cellOf_1_h1 (F : Nat) (e_v0 : Int) (e_c34_0 : Int) (e_c32_0 : Int) : Option (Int) :=
  bnd (nz (w64 ((2 : Int) * e_c34_0))) fun z35 =>
  some (min (w64 (Int.tdiv (w64 ((w64 (e_v0 + e_c34_0)) * e_c32_0)) (w64 ((2 : Int) * e_c34_0)))) (w64 (e_c32_0 - (1 : Int))))

theorem sky_grid_cellOf_1_h1_ok (F : Nat) : ∀ (e_v0 : Int) (e_c34_0 : Int) (e_c32_0 : Int) (e_b34 : Pos) (e_b32 : Pos) (Fr0 : Rd) (Hr : List Ent) (M : Mem) (r : Int) (hH : Has Fr0 M (([.obj e_b34 (.row 3 .whole [(.int .i64 e_c34_0)]), .obj e_b32 (.row 3 .whole [(.int .i64 e_c32_0)])] : List Ent) ++ Hr)) (h : sky_grid_cellOf_1_h1 F e_v0 e_c34_0 e_c32_0 = some r), CallsM Tryz.prog 110 [(.int .i64 e_v0), (.ptr e_b34 0), (.ptr e_b32 0)] M (sky_grid_cellOf_1_h1_post e_v0 e_c34_0 e_c32_0 e_b34 e_b32 Fr0 Hr r) := by
  intro e_v0 e_c34_0 e_c32_0 e_b34 e_b32 Fr0 Hr M r hH h
  refine CallsM.run Tryz.func110 rfl rfl (show Run _ _ _ (sky_grid_cellOf_1_h1_post e_v0 e_c34_0 e_c32_0 e_b34 e_b32 Fr0 Hr r) _ _ _ from ?_)
  rw [sky_grid_cellOf_1_h1] at h
  refine Run.seq (Run.region ?_)
  refine Run.opG wantS_none (ex_assign rfl) rfl ?_
  refine Run.opsEnd (Run.seq ?_)
  refine Run.drawG plan110_1_0 ?_
  refine DrawG.fl rfl (ev_ex wantS_none (ex_move rfl)) rfl ?_
  refine DrawG.fl rfl (ev_ex wantS_none (ex_load1 rfl (hH.cells (i := 0) rfl 0 rfl) rdLe_rfl agg3)) rfl ?_
  refine DrawG.fl rfl (ev_ex wantS_none (ex_add rfl rfl)) rfl ?_
  refine DrawG.fl rfl (ev_ex wantS_none (ex_load1 rfl (hH.cells (i := 1) rfl 0 rfl) rdLe_rfl agg3)) rfl ?_
  refine DrawG.fl rfl (ev_ex wantS_none (ex_mul rfl rfl)) rfl ?_
  refine DrawG.fl rfl (ev_ex wantS_none (ex_load1 rfl (hH.cells (i := 0) rfl 0 rfl) rdLe_rfl agg3)) rfl ?_
  refine DrawG.fl rfl (ev_ex wantS_none (ex_mul rfl rfl)) rfl ?_
  obtain ⟨z35, hz35, h⟩ := bnd_some h
  refine DrawG.fl rfl (ev_ex wantS_none (ex_quo' rfl rfl hz35)) rfl ?_
  refine DrawG.fl rfl (ev_ex wantS_none (ex_load1 rfl (hH.cells (i := 1) rfl 0 rfl) rdLe_rfl agg3)) rfl ?_
  refine DrawG.fl rfl (ev_ex wantS_none (ex_sub rfl rfl)) rfl ?_
  refine DrawG.fl rfl (ev_ex wantS_none (ex_min rfl rfl)) rfl ?_
  refine DrawG.fl rfl (ev_ex wantS_none (ex_assign rfl)) rfl ?_
  refine DrawG.sync ?_
  refine DrawG.nil ?_
  cases h
  exact Run.ret Tryz.func110 rfl (res_tmp rfl res_nil) ⟨rfl, (hH.pickT [0, 1] rfl rfl).upF (fun b c hb => hH.base b c hb)⟩

theorem plan57_1_1_1_1_1_0 : planOf Tryz.prog (opsC (atC Tryz.prog 57 [1, 1, 1, 1, 1, 0])) = some [.fl 0, .fl 1, .fl 2, .fl 3, .fl 4, .fl 5, .fl 6, .fl 9, .fl 11, .fl 12, .fl 13, .fl 14, .an 7 [14, 13, 12, 11, 9, 2, 1, 0], .fl 8, .fl 10, .an 15 [10, 8, 9, 2, 1, 0], .fl 16, .fl 17, .sync] := by kernel_rfl
abbrev sky_grid_cellOf_post (r : Int) : SV → Mem → Prop := fun s _ => s = (.int .i64 r)

def sky_grid_cellOf (F : Nat) (a0 : Int) (a1 : S_sky_vector) : Option (Int) :=
  bnd (sky_faceOf F a1) fun r25 =>
  bnd (sky_axes F r25) fun r28 =>
  bnd (inA r28.1 3) fun o30 =>
  bnd (inA r28.1 3) fun o31 =>
  bnd (inA r28.2.1 3) fun o38 =>
  bnd (inA r28.2.2 3) fun o39 =>
  bnd (sky_grid_cellOf_1_h1 F (get85 a1 o38) (max (get85 a1 o30) (w64 (-(get85 a1 o31)))) a0) fun r40 =>
  bnd (sky_grid_cellOf_1_h1 F (get85 a1 o39) (max (get85 a1 o30) (w64 (-(get85 a1 o31)))) a0) fun r42 =>
  some (w64 ((w64 ((w64 ((w64 (r25 * a0)) + r40)) * a0)) + r42))

theorem sky_grid_cellOf_ok (F : Nat) (a0 : Int) (a1 : S_sky_vector) (r : Int) (M : Mem) (h : sky_grid_cellOf F a0 a1 = some r) : CallsM Tryz.prog 57 [(.int .i64 a0), (.agg [(.int .i64 a1.e0), (.int .i64 a1.e1), (.int .i64 a1.e2)])] M (fun s M' => s = (.int .i64 r) ∧ M' = M) := by
  refine CallsM.plain Tryz.func57 rfl rfl rfl (show Run _ _ _ (sky_grid_cellOf_post r) _ _ _ from ?_)
  rw [sky_grid_cellOf] at h
  have hH := Has.nil (frozen M)
  refine Run.seq (Run.region ?_)
  refine Run.opX wantS_none rfl (ExG.box rfl rfl hH) ?_
  rintro _ M23 ⟨b22, rfl, (hH23 : Has (ro (frozen M)) M23 [.obj b22 (.row 85 .whole [(.int .i64 a1.e0), (.int .i64 a1.e1), (.int .i64 a1.e2)])])⟩
  refine Run.opG wantS_none (ex_assign rfl) rfl ?_
  refine Run.opsEnd (Run.seq (Run.region ?_))
  refine Run.opG wantS_none (ex_loadA rfl (hH23.cells (i := 0) rfl 0 rfl) rdLe_rfl agg85 rfl rfl rfl) rfl ?_
  obtain ⟨r25, hr25, h⟩ := bnd_some h
  refine Run.callP wantS_none (ex_call rfl mkk109 cal109) rfl (sky_faceOf_ok F a1 _ _ hr25) ?_
  refine Run.opG wantS_none (ex_assign rfl) rfl ?_
  refine Run.opsEnd (Run.seq (Run.region ?_))
  refine Run.opG wantS_none (ex_move rfl) rfl ?_
  obtain ⟨r28, hr28, h⟩ := bnd_some h
  refine Run.callP wantS_none (ex_call rfl mkk107 cal107) rfl (sky_axes_ok F r25 _ _ hr28) ?_
  refine Run.opG wantS_none (ex_move rfl) rfl ?_
  refine Run.opG wantS_none (ex_extract rfl rfl) rfl ?_
  refine Run.opG wantS_none (ex_extract rfl rfl) rfl ?_
  refine Run.opG wantS_none (ex_extract rfl rfl) rfl ?_
  refine Run.opG wantS_none (ex_assign rfl) rfl ?_
  refine Run.opG wantS_none (ex_assign rfl) rfl ?_
  refine Run.opG wantS_none (ex_assign rfl) rfl ?_
  refine Run.opsEnd (Run.seq ?_)
  refine Run.lateG latep57_1_1_1_0 rfl rfl ?_
  refine PureK.val wantS_none (ex_move rfl) rfl ?_
  refine PureK.val wantS_none (ex_move rfl) rfl ?_
  obtain ⟨o30, ho30, h⟩ := bnd_some h
  refine PureK.val wantS_none (ex_elX rfl rfl (arr_place (inA_natIn ho30) els85)) rfl ?_
  refine PureK.val wantS_none (ex_load1 rfl (hH23.cellV (off := 0) (cs := enc85 a1) (i := 0) rfl rfl (get85_cell a1 o30 (inA_lt ho30))) rdLe_rfl agg3) rfl ?_
  refine PureK.val wantS_none (ex_move rfl) rfl ?_
  obtain ⟨o31, ho31, h⟩ := bnd_some h
  refine PureK.val wantS_none (ex_elX rfl rfl (arr_place (inA_natIn ho31) els85)) rfl ?_
  refine PureK.val wantS_none (ex_load1 rfl (hH23.cellV (off := 0) (cs := enc85 a1) (i := 0) rfl rfl (get85_cell a1 o31 (inA_lt ho31))) rdLe_rfl agg3) rfl ?_
  refine PureK.val wantS_none (ex_neg rfl) rfl ?_
  refine PureK.val wantS_none (ex_max rfl rfl) rfl ?_
  refine PureK.new (v := fun b => .ptr b 0) wantS_none (ex_alloc zer3) rfl hH23 ?_
  intro b32 M33 (hH33 : Has (ro (frozen M)) M33 [.obj b32 (.row 3 .whole [(.int .i64 0)]), .obj b22 (.row 85 .whole [(.int .i64 a1.e0), (.int .i64 a1.e1), (.int .i64 a1.e2)])])
  refine PureK.new (v := fun b => .ptr b 0) wantS_none (ex_alloc zer3) rfl hH33 ?_
  intro b34 M35 (hH35 : Has (ro (frozen M)) M35 [.obj b34 (.row 3 .whole [(.int .i64 0)]), .obj b32 (.row 3 .whole [(.int .i64 0)]), .obj b22 (.row 85 .whole [(.int .i64 a1.e0), (.int .i64 a1.e1), (.int .i64 a1.e2)])])
  refine PureK.nil ⟨(st_cons rfl (ev_ex wantS_none (ex_move rfl)) rfl rfl rfl (st_cons rfl (ev_ex wantS_none (ex_elX rfl rfl (arr_place (inA_natIn ho30) els85))) rfl rfl rfl (st_cons rfl (ev_ex wantS_none (ex_load1 rfl (hH35.cellV (off := 0) (cs := enc85 a1) (i := 2) rfl rfl (get85_cell a1 o30 (inA_lt ho30))) rdLe_rfl agg3)) rfl rfl rfl (st_cons rfl (ev_ex wantS_none (ex_move rfl)) rfl rfl rfl (st_cons rfl (ev_ex wantS_none (ex_elX rfl rfl (arr_place (inA_natIn ho31) els85))) rfl rfl rfl (st_cons rfl (ev_ex wantS_none (ex_load1 rfl (hH35.cellV (off := 0) (cs := enc85 a1) (i := 2) rfl rfl (get85_cell a1 o31 (inA_lt ho31))) rdLe_rfl agg3)) rfl rfl rfl (st_cons rfl (ev_ex wantS_none (ex_neg rfl)) rfl rfl rfl (st_cons rfl (ev_ex wantS_none (ex_max rfl rfl)) rfl rfl rfl st_nil)))))))), ?_⟩
  refine SeqLG.opX wantS_none rfl (ExG.storeC (c' := [(.int .i64 a0)]) rfl rfl rfl hH35 (i := 1) rfl sz3 rfl rfl rfl rfl rfl) ?_
  rintro _ M36 ⟨rfl, (hH36 : Has (ro (frozen M)) M36 [.obj b34 (.row 3 .whole [(.int .i64 0)]), .obj b32 (.row 3 .whole [(.int .i64 a0)]), .obj b22 (.row 85 .whole [(.int .i64 a1.e0), (.int .i64 a1.e1), (.int .i64 a1.e2)])])⟩
  refine ⟨(st_cons rfl (ev_ex wantS_none (ex_move rfl)) rfl rfl rfl (st_cons rfl (ev_ex wantS_none (ex_elX rfl rfl (arr_place (inA_natIn ho30) els85))) rfl rfl rfl (st_cons rfl (ev_ex wantS_none (ex_load1 rfl (hH36.cellV (off := 0) (cs := enc85 a1) (i := 2) rfl rfl (get85_cell a1 o30 (inA_lt ho30))) rdLe_rfl agg3)) rfl rfl rfl (st_cons rfl (ev_ex wantS_none (ex_move rfl)) rfl rfl rfl (st_cons rfl (ev_ex wantS_none (ex_elX rfl rfl (arr_place (inA_natIn ho31) els85))) rfl rfl rfl (st_cons rfl (ev_ex wantS_none (ex_load1 rfl (hH36.cellV (off := 0) (cs := enc85 a1) (i := 2) rfl rfl (get85_cell a1 o31 (inA_lt ho31))) rdLe_rfl agg3)) rfl rfl rfl (st_cons rfl (ev_ex wantS_none (ex_neg rfl)) rfl rfl rfl (st_cons rfl (ev_ex wantS_none (ex_max rfl rfl)) rfl rfl rfl st_nil)))))))), ?_⟩
  refine SeqLG.opX wantS_none rfl (ExG.storeC (c' := [(.int .i64 (max (get85 a1 o30) (w64 (-(get85 a1 o31)))))]) rfl rfl rfl hH36 (i := 0) rfl sz3 rfl rfl rfl rfl rfl) ?_
  rintro _ M37 ⟨rfl, (hH37 : Has (ro (frozen M)) M37 [.obj b34 (.row 3 .whole [(.int .i64 (max (get85 a1 o30) (w64 (-(get85 a1 o31)))))]), .obj b32 (.row 3 .whole [(.int .i64 a0)]), .obj b22 (.row 85 .whole [(.int .i64 a1.e0), (.int .i64 a1.e1), (.int .i64 a1.e2)])])⟩
  refine ⟨(st_cons rfl (ev_ex wantS_none (ex_move rfl)) rfl rfl rfl (st_cons rfl (ev_ex wantS_none (ex_elX rfl rfl (arr_place (inA_natIn ho30) els85))) rfl rfl rfl (st_cons rfl (ev_ex wantS_none (ex_load1 rfl (hH37.cellV (off := 0) (cs := enc85 a1) (i := 2) rfl rfl (get85_cell a1 o30 (inA_lt ho30))) rdLe_rfl agg3)) rfl rfl rfl (st_cons rfl (ev_ex wantS_none (ex_move rfl)) rfl rfl rfl (st_cons rfl (ev_ex wantS_none (ex_elX rfl rfl (arr_place (inA_natIn ho31) els85))) rfl rfl rfl (st_cons rfl (ev_ex wantS_none (ex_load1 rfl (hH37.cellV (off := 0) (cs := enc85 a1) (i := 2) rfl rfl (get85_cell a1 o31 (inA_lt ho31))) rdLe_rfl agg3)) rfl rfl rfl (st_cons rfl (ev_ex wantS_none (ex_neg rfl)) rfl rfl rfl (st_cons rfl (ev_ex wantS_none (ex_max rfl rfl)) rfl rfl rfl st_nil)))))))), ?_⟩
  refine SeqLG.nil ?_
  refine Run.seq (Run.region ?_)
  refine Run.opG wantS_none (ex_makeFunc rfl rfl) rfl ?_
  refine Run.opG wantS_none (ex_assign rfl) rfl ?_
  refine Run.opsEnd (Run.seq ?_)
  refine Run.drawG plan57_1_1_1_1_1_0 ?_
  refine DrawG.fl rfl (ev_ex wantS_none (ex_move rfl)) rfl ?_
  refine DrawG.fl rfl (ev_ex wantS_none (ex_load1 rfl (hH37.cells (i := 1) rfl 0 rfl) rdLe_rfl agg3)) rfl ?_
  refine DrawG.fl rfl (ev_ex wantS_none (ex_mul rfl rfl)) rfl ?_
  refine DrawG.fl rfl (ev_ex wantS_none (ex_move rfl)) rfl ?_
  refine DrawG.fl rfl (ev_ex wantS_none (ex_move rfl)) rfl ?_
  obtain ⟨o38, ho38, h⟩ := bnd_some h
  refine DrawG.fl rfl (ev_ex wantS_none (ex_elX rfl rfl (arr_place (inA_natIn ho38) els85))) rfl ?_
  refine DrawG.fl rfl (ev_ex wantS_none (ex_load1 rfl (hH37.cellV (off := 0) (cs := enc85 a1) (i := 2) rfl rfl (get85_cell a1 o38 (inA_lt ho38))) rdLe_rfl agg3)) rfl ?_
  refine DrawG.fl rfl (ev_ex wantS_none (ex_load1 rfl (hH37.cells (i := 1) rfl 0 rfl) rdLe_rfl agg3)) rfl ?_
  refine DrawG.fl rfl (ev_ex wantS_none (ex_move rfl)) rfl ?_
  refine DrawG.fl rfl (ev_ex wantS_none (ex_move rfl)) rfl ?_
  obtain ⟨o39, ho39, h⟩ := bnd_some h
  refine DrawG.fl rfl (ev_ex wantS_none (ex_elX rfl rfl (arr_place (inA_natIn ho39) els85))) rfl ?_
  refine DrawG.fl rfl (ev_ex wantS_none (ex_load1 rfl (hH37.cellV (off := 0) (cs := enc85 a1) (i := 2) rfl rfl (get85_cell a1 o39 (inA_lt ho39))) rdLe_rfl agg3)) rfl ?_
  obtain ⟨r40, hr40, h⟩ := bnd_some h
  refine DrawG.call rfl wantS_none (ex_closure rfl rfl mkk110 cal110) rfl (sky_grid_cellOf_1_h1_ok F (get85 a1 o38) (max (get85 a1 o30) (w64 (-(get85 a1 o31)))) a0 b34 b32 (ro (frozen M)) [.obj b22 (.row 85 .whole [(.int .i64 a1.e0), (.int .i64 a1.e1), (.int .i64 a1.e2)])] _ _ hH37 hr40) ?_
  rintro _ M41 ⟨rfl, (hH41 : Has (ro (frozen M)) M41 [.obj b34 (.row 3 .whole [(.int .i64 (max (get85 a1 o30) (w64 (-(get85 a1 o31)))))]), .obj b32 (.row 3 .whole [(.int .i64 a0)]), .obj b22 (.row 85 .whole [(.int .i64 a1.e0), (.int .i64 a1.e1), (.int .i64 a1.e2)])])⟩
  refine ⟨(st_cons rfl (ev_ex wantS_none (ex_load1 rfl (hH41.cellV (off := 0) (cs := enc85 a1) (i := 2) rfl rfl (get85_cell a1 o39 (inA_lt ho39))) rdLe_rfl agg3)) rfl rfl rfl (st_cons rfl (ev_ex wantS_none (ex_elX rfl rfl (arr_place (inA_natIn ho39) els85))) rfl rfl rfl (st_cons rfl (ev_ex wantS_none (ex_move rfl)) rfl rfl rfl (st_cons rfl (ev_ex wantS_none (ex_move rfl)) rfl rfl rfl (st_cons rfl (ev_ex wantS_none (ex_load1 rfl (hH41.cells (i := 1) rfl 0 rfl) rdLe_rfl agg3)) rfl rfl rfl (st_cons rfl (ev_ex wantS_none (ex_mul rfl rfl)) rfl rfl rfl (st_cons rfl (ev_ex wantS_none (ex_load1 rfl (hH41.cells (i := 1) rfl 0 rfl) rdLe_rfl agg3)) rfl rfl rfl (st_cons rfl (ev_ex wantS_none (ex_move rfl)) rfl rfl rfl st_nil)))))))), ?_⟩
  refine DrawG.fl rfl (ev_ex wantS_none (ex_add rfl rfl)) rfl ?_
  refine DrawG.fl rfl (ev_ex wantS_none (ex_mul rfl rfl)) rfl ?_
  obtain ⟨r42, hr42, h⟩ := bnd_some h
  refine DrawG.call rfl wantS_none (ex_closure rfl rfl mkk110 cal110) rfl (sky_grid_cellOf_1_h1_ok F (get85 a1 o39) (max (get85 a1 o30) (w64 (-(get85 a1 o31)))) a0 b34 b32 (ro (frozen M)) [.obj b22 (.row 85 .whole [(.int .i64 a1.e0), (.int .i64 a1.e1), (.int .i64 a1.e2)])] _ _ hH41 hr42) ?_
  rintro _ M43 ⟨rfl, (hH43 : Has (ro (frozen M)) M43 [.obj b34 (.row 3 .whole [(.int .i64 (max (get85 a1 o30) (w64 (-(get85 a1 o31)))))]), .obj b32 (.row 3 .whole [(.int .i64 a0)]), .obj b22 (.row 85 .whole [(.int .i64 a1.e0), (.int .i64 a1.e1), (.int .i64 a1.e2)])])⟩
  refine ⟨(st_cons rfl (ev_ex wantS_none (ex_mul rfl rfl)) rfl rfl rfl (st_cons rfl (ev_ex wantS_none (ex_add rfl rfl)) rfl rfl rfl (st_cons rfl (ev_ex wantS_none (ex_load1 rfl (hH43.cells (i := 1) rfl 0 rfl) rdLe_rfl agg3)) rfl rfl rfl (st_cons rfl (ev_ex wantS_none (ex_mul rfl rfl)) rfl rfl rfl (st_cons rfl (ev_ex wantS_none (ex_load1 rfl (hH43.cells (i := 1) rfl 0 rfl) rdLe_rfl agg3)) rfl rfl rfl (st_cons rfl (ev_ex wantS_none (ex_move rfl)) rfl rfl rfl st_nil)))))), ?_⟩
  refine DrawG.fl rfl (ev_ex wantS_none (ex_add rfl rfl)) rfl ?_
  refine DrawG.fl rfl (ev_ex wantS_none (ex_assign rfl)) rfl ?_
  refine DrawG.sync ?_
  refine DrawG.nil ?_
  cases h
  exact Run.ret Tryz.func57 rfl (res_tmp rfl res_nil) rfl

end Go.Ev.SkyKnown
