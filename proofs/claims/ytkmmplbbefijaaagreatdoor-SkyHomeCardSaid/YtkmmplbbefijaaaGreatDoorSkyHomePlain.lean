/- Plain functions that say what functions of the program come to, and proofs of it, written by a program of the verifier's own. -/
import Derived.Test.YtkmmplbbefijaaaGreatDoorEvL16
import Derived.Test.YtkmmplbbefijaaaGreatDoorWorks
import Derived.KernelRfl
namespace Go.Ev.SkyHome
open Go Go.Ev Go.Proofs
set_option maxRecDepth 100000
set_option linter.unusedVariables false

/-- The listed tables. -/
noncomputable def fixes : List (Nat × List SV) := Go.Proofs.YtkmmplbbefijaaaGreatDoor.works.fixes
noncomputable def tb0 : Ent := fixE (4, intCells .u8 [0, 1, 28, 2, 29, 14, 24, 3, 30, 22, 20, 15, 25, 17, 4, 8, 31, 27, 13, 23, 21, 19, 16, 7, 26, 12, 18, 6, 11, 5, 10, 9])
noncomputable def tb1 : Ent := fixE (5, intCells .u8 [0, 1, 56, 2, 57, 49, 28, 3, 61, 58, 42, 50, 38, 29, 17, 4, 62, 47, 59, 36, 45, 43, 51, 22, 53, 39, 33, 30, 24, 18, 12, 5, 63, 55, 48, 27, 60, 41, 37, 16, 46, 35, 44, 21, 52, 32, 23, 11, 54, 26, 40, 15, 34, 20, 31, 10, 25, 14, 19, 9, 13, 8, 7, 6])
noncomputable def tb2 : Ent := fixE (3, intCells .u64 [1, 10, 100, 1000, 10000, 100000, 1000000, 10000000, 100000000, 1000000000, 10000000000, 100000000000, 1000000000000, 10000000000000, 100000000000000, 1000000000000000, 10000000000000000, 100000000000000000, 1000000000000000000, 10000000000000000000])
/-- works() comes to true. -/
def works (_ : Nat) : Option Bool := some true
theorem fixH {Fr : Rd} {H : List Ent} {M : Mem} (hH : Has Fr M H) (h0 : tb0 ∈ H) (h1 : tb1 ∈ H) (h2 : tb2 ∈ H) : FixIn M fixes := by
  refine hH.fixIn fun x hx => ?_
  simp only [fixes, Go.Proofs.YtkmmplbbefijaaaGreatDoor.works.fixes, List.mem_cons, List.not_mem_nil, or_false] at hx
  rcases hx with rfl | rfl | rfl
  · exact h0
  · exact h1
  · exact h2

theorem works_ok (F : Nat) (r : Bool) {Fr : Rd} {H : List Ent} (M : Mem) (hH : Has Fr M H) (h0 : tb0 ∈ H) (h1 : tb1 ∈ H) (h2 : tb2 ∈ H) (h : works F = some r) : CallsM Tryz.prog 18 [] M fun s M' => s = .bool r ∧ M' = M := by
  cases h
  refine CallsM.closedFix (n := 300) (l := Go.Proofs.YtkmmplbbefijaaaGreatDoor.works.fixes) Go.Proofs.YtkmmplbbefijaaaGreatDoor.works.below Go.Proofs.YtkmmplbbefijaaaGreatDoor.works.plainF Go.Proofs.YtkmmplbbefijaaaGreatDoor.works.works_true (hH.fixIn fun x hx => ?_)
  simp only [Go.Proofs.YtkmmplbbefijaaaGreatDoor.works.fixes, List.mem_cons, List.not_mem_nil, or_false] at hx
  rcases hx with rfl | rfl | rfl
  · exact h0
  · exact h1
  · exact h2


structure S__2_int where
  e0 : Int
  e1 : Int

structure S__3_int where
  e0 : Int
  e1 : Int
  e2 : Int

theorem els57 : elems Tryz.prog 57 = some (.arr 2 1) := by kernel_rfl
theorem agg3 : aggSize Tryz.prog 3 = some none := by kernel_rfl
abbrev ref00_Mod_post (r : Int) : SV → Mem → Prop := fun s _ => s = (.int .i64 r)

def ref00_Mod_1 (F : Nat) (v0 : Int) : Option (Int) :=
  some v0

theorem ref00_Mod_1_ok (F : Nat) : ∀ (v0 : Int) (Fr : Rd) (M : Mem) (r : Int) (hH : Has Fr M []), ref00_Mod_1 F v0 = some r → Run Tryz.prog ⟨⟨35, [], none⟩, []⟩ 16 (ref00_Mod_post r) [(0, (.int .i64 v0))] [itemC Tryz.prog 35 [1, 1, 1, 1, 0] 0, codeC Tryz.prog 35 [1, 1, 1, 1, 1]] M := by
  intro v0 Fr M r hH h
  rw [ref00_Mod_1] at h
  refine Run.opG wantS_none (ex_move rfl) rfl ?_
  refine Run.opG wantS_none (ex_assign rfl) rfl ?_
  refine Run.opsEnd ?_
  cases h
  exact Run.ret Tryz.func35 rfl (res_tmp rfl res_nil) rfl

def ref00_Mod (F : Nat) (a0 : Int) (a1 : Int) : Option (Int) :=
  bif (decide (a1 < (1 : Int))) then
    some (0 : Int)
  else
    bnd (nz a1) fun z23 =>
    bif (decide ((Int.tmod a0 a1) < (0 : Int))) then
      ref00_Mod_1 F (w64 ((Int.tmod a0 a1) + a1))
    else
      ref00_Mod_1 F (Int.tmod a0 a1)

theorem ref00_Mod_ok (F : Nat) (a0 : Int) (a1 : Int) (r : Int) (M : Mem) (h : ref00_Mod F a0 a1 = some r) : CallsM Tryz.prog 35 [(.int .i64 a0), (.int .i64 a1)] M (fun s M' => s = (.int .i64 r) ∧ M' = M) := by
  refine CallsM.plain Tryz.func35 rfl rfl rfl (show Run _ _ _ (ref00_Mod_post r) _ _ _ from ?_)
  rw [ref00_Mod] at h
  have hH := Has.nil (frozen M)
  refine Run.seq (Run.region ?_)
  refine Run.opG wantS_none (ex_assign rfl) rfl ?_
  refine Run.opsEnd (Run.seq (Run.seq (Run.region ?_)))
  refine Run.opG wantS_none (ex_move rfl) rfl ?_
  refine Run.opG wantS_none (ex_lss rfl rfl) rfl ?_
  refine Run.opsEnd ?_
  rcases btf ((decide (a1 < (1 : Int)))) with hc21 | hc21
  · have h := bif_t hc21 h
    refine Run.condT' rfl hc21 ?_
    refine Run.seq (Run.region ?_)
    refine Run.opG wantS_none (ex_assign rfl) rfl ?_
    refine Run.opsEnd ?_
    cases h
    exact Run.ret Tryz.func35 rfl (res_tmp rfl res_nil) rfl
  · have h := bif_f hc21 h
    refine Run.condF' rfl hc21 ?_
    refine Run.skip (Run.seq (Run.region ?_))
    refine Run.opG wantS_none (ex_move rfl) rfl ?_
    refine Run.opG wantS_none (ex_move rfl) rfl ?_
    obtain ⟨z23, hz23, h⟩ := bnd_some h
    refine Run.opG wantS_none (ex_rem' rfl rfl hz23) rfl ?_
    refine Run.opG wantS_none (ex_assign rfl) rfl ?_
    refine Run.opsEnd (Run.seq (Run.seq (Run.region ?_)))
    refine Run.opG wantS_none (ex_move rfl) rfl ?_
    refine Run.opG wantS_none (ex_lss rfl rfl) rfl ?_
    refine Run.opsEnd ?_
    rcases btf ((decide ((Int.tmod a0 a1) < (0 : Int)))) with hc24 | hc24
    · have h := bif_t hc24 h
      refine Run.condT' rfl hc24 ?_
      refine Run.region ?_
      refine Run.opG wantS_none (ex_move rfl) rfl ?_
      refine Run.opG wantS_none (ex_move rfl) rfl ?_
      refine Run.opG wantS_none (ex_add rfl rfl) rfl ?_
      refine Run.opG wantS_none (ex_assign rfl) rfl ?_
      refine Run.opsEnd (Run.seq (Run.region ?_))
      exact Run.pick [0] (ref00_Mod_1_ok F (w64 ((Int.tmod a0 a1) + a1)) _ _ _ hH h)
    · have h := bif_f hc24 h
      refine Run.condF' rfl hc24 ?_
      refine Run.skip (Run.seq (Run.region ?_))
      exact Run.pick [0] (ref00_Mod_1_ok F (Int.tmod a0 a1) _ _ _ hH h)

theorem mkk35 : makeK Tryz.prog 35 = none := by kernel_rfl
theorem cal35 : callable Tryz.prog 35 = true := by kernel_rfl
theorem zer22 : zerosOf Tryz.prog 22 = some [(.int .i64 0), (.int .i64 0), (.int .i64 0)] := by kernel_rfl
abbrev sky_isFrom_post (r : Bool) : SV → Mem → Prop := fun s _ => s = (.bool r)

def sky_isFrom_1 (F : Nat) (v14 : Bool) : Option (Bool) :=
  some v14

theorem sky_isFrom_1_ok (F : Nat) : ∀ (v14 : Bool) (Fr : Rd) (M : Mem) (r : Bool) (hH : Has Fr M []), sky_isFrom_1 F v14 = some r → Run Tryz.prog ⟨⟨62, [], none⟩, []⟩ 15 (sky_isFrom_post r) [(14, (.bool v14))] [itemC Tryz.prog 62 [1, 0] 8, codeC Tryz.prog 62 [1, 1]] M := by
  intro v14 Fr M r hH h
  rw [sky_isFrom_1] at h
  refine Run.opG wantS_none (ex_assign rfl) rfl ?_
  refine Run.opsEnd ?_
  cases h
  exact Run.ret Tryz.func62 rfl (res_tmp rfl res_nil) rfl

def sky_isFrom (F : Nat) (a0 : Int) (a1 : Int) (a2 : Int) : Option (Bool) :=
  bif (decide (a0 ≤ a1)) then
    sky_isFrom_1 F (decide (a1 ≤ a2))
  else
    sky_isFrom_1 F false

theorem sky_isFrom_ok (F : Nat) (a0 : Int) (a1 : Int) (a2 : Int) (r : Bool) (M : Mem) (h : sky_isFrom F a0 a1 a2 = some r) : CallsM Tryz.prog 62 [(.int .i64 a0), (.int .i64 a1), (.int .i64 a2)] M (fun s M' => s = (.bool r) ∧ M' = M) := by
  refine CallsM.plain Tryz.func62 rfl rfl rfl (show Run _ _ _ (sky_isFrom_post r) _ _ _ from ?_)
  rw [sky_isFrom] at h
  have hH := Has.nil (frozen M)
  refine Run.seq (Run.region ?_)
  refine Run.opG wantS_none (ex_assign rfl) rfl ?_
  refine Run.opsEnd (Run.seq (Run.region ?_))
  refine Run.opG wantS_none (ex_move rfl) rfl ?_
  refine Run.opG wantS_none (ex_move rfl) rfl ?_
  refine Run.opG wantS_none (ex_leq rfl rfl) rfl ?_
  refine Run.opG wantS_none (ex_move rfl) rfl ?_
  rcases btf ((decide (a0 ≤ a1))) with hc21 | hc21
  · have h := bif_t hc21 h
    refine Run.opG (wantS_yes' rfl rfl hc21) (ex_move rfl) rfl ?_
    refine Run.opG (wantS_yes' rfl rfl hc21) (ex_move rfl) rfl ?_
    refine Run.opG (wantS_yes' rfl rfl hc21) (ex_leq rfl rfl) rfl ?_
    refine Run.opG wantS_none (ex_pickT' rfl hc21 rfl rfl) rfl ?_
    exact Run.pick [14] (sky_isFrom_1_ok F (decide (a1 ≤ a2)) _ _ _ hH h)
  · have h := bif_f hc21 h
    refine Run.no (wantS_not' rfl rfl hc21) rfl ?_
    refine Run.no (wantS_not' rfl rfl hc21) rfl ?_
    refine Run.no (wantS_not' rfl rfl hc21) rfl ?_
    refine Run.opG wantS_none (ex_pickF' rfl hc21 rfl rfl) rfl ?_
    exact Run.pick [14] (sky_isFrom_1_ok F false _ _ _ hH h)

theorem mkk62 : makeK Tryz.prog 62 = none := by kernel_rfl
theorem cal62 : callable Tryz.prog 62 = true := by kernel_rfl
abbrev sky_grid_isValid_post (r : Bool) : SV → Mem → Prop := fun s _ => s = (.bool r)

def sky_grid_isValid (F : Nat) (a0 : Int) : Option (Bool) :=
  bnd (sky_isFrom F (1 : Int) a0 (8 : Int)) fun r22 =>
  some r22

theorem sky_grid_isValid_ok (F : Nat) (a0 : Int) (r : Bool) (M : Mem) (h : sky_grid_isValid F a0 = some r) : CallsM Tryz.prog 105 [(.int .i64 a0)] M (fun s M' => s = (.bool r) ∧ M' = M) := by
  refine CallsM.plain Tryz.func105 rfl rfl rfl (show Run _ _ _ (sky_grid_isValid_post r) _ _ _ from ?_)
  rw [sky_grid_isValid] at h
  have hH := Has.nil (frozen M)
  refine Run.seq (Run.region ?_)
  refine Run.opG wantS_none (ex_assign rfl) rfl ?_
  refine Run.opsEnd (Run.seq (Run.region ?_))
  refine Run.opG wantS_none (ex_move rfl) rfl ?_
  obtain ⟨r22, hr22, h⟩ := bnd_some h
  refine Run.callP wantS_none (ex_call rfl mkk62 cal62) rfl (sky_isFrom_ok F (1 : Int) a0 (8 : Int) _ _ hr22) ?_
  refine Run.opG wantS_none (ex_assign rfl) rfl ?_
  refine Run.opsEnd ?_
  cases h
  exact Run.ret Tryz.func105 rfl (res_tmp rfl res_nil) rfl

theorem mkk105 : makeK Tryz.prog 105 = none := by kernel_rfl
theorem cal105 : callable Tryz.prog 105 = true := by kernel_rfl
abbrev sky_grid_cells_post (r : Int) : SV → Mem → Prop := fun s _ => s = (.int .i64 r)

def sky_grid_cells (F : Nat) (a0 : Int) : Option (Int) :=
  some (w64 ((6 : Int) * (w64 (a0 * a0))))

theorem sky_grid_cells_ok (F : Nat) (a0 : Int) (r : Int) (M : Mem) (h : sky_grid_cells F a0 = some r) : CallsM Tryz.prog 49 [(.int .i64 a0)] M (fun s M' => s = (.int .i64 r) ∧ M' = M) := by
  refine CallsM.plain Tryz.func49 rfl rfl rfl (show Run _ _ _ (sky_grid_cells_post r) _ _ _ from ?_)
  rw [sky_grid_cells] at h
  have hH := Has.nil (frozen M)
  refine Run.seq (Run.region ?_)
  refine Run.opG wantS_none (ex_assign rfl) rfl ?_
  refine Run.opsEnd (Run.seq (Run.region ?_))
  refine Run.opG wantS_none (ex_move rfl) rfl ?_
  refine Run.opG wantS_none (ex_move rfl) rfl ?_
  refine Run.opG wantS_none (ex_mul rfl rfl) rfl ?_
  refine Run.opG wantS_none (ex_mul rfl rfl) rfl ?_
  refine Run.opG wantS_none (ex_assign rfl) rfl ?_
  refine Run.opsEnd ?_
  cases h
  exact Run.ret Tryz.func49 rfl (res_tmp rfl res_nil) rfl

theorem mkk49 : makeK Tryz.prog 49 = none := by kernel_rfl
theorem cal49 : callable Tryz.prog 49 = true := by kernel_rfl
abbrev sky_grid_isCell_post (r : Bool) : SV → Mem → Prop := fun s _ => s = (.bool r)

def sky_grid_isCell (F : Nat) (a0 : Int) (a1 : Int) : Option (Bool) :=
  bnd (sky_grid_cells F a0) fun r22 =>
  bnd (sky_isFrom F (0 : Int) a1 (w64 (r22 - (1 : Int)))) fun r25 =>
  some r25

theorem sky_grid_isCell_ok (F : Nat) (a0 : Int) (a1 : Int) (r : Bool) (M : Mem) (h : sky_grid_isCell F a0 a1 = some r) : CallsM Tryz.prog 106 [(.int .i64 a0), (.int .i64 a1)] M (fun s M' => s = (.bool r) ∧ M' = M) := by
  refine CallsM.plain Tryz.func106 rfl rfl rfl (show Run _ _ _ (sky_grid_isCell_post r) _ _ _ from ?_)
  rw [sky_grid_isCell] at h
  have hH := Has.nil (frozen M)
  refine Run.seq (Run.region ?_)
  refine Run.opG wantS_none (ex_assign rfl) rfl ?_
  refine Run.opsEnd (Run.seq (Run.region ?_))
  refine Run.opG wantS_none (ex_move rfl) rfl ?_
  refine Run.opG wantS_none (ex_move rfl) rfl ?_
  obtain ⟨r22, hr22, h⟩ := bnd_some h
  refine Run.callP wantS_none (ex_call rfl mkk49 cal49) rfl (sky_grid_cells_ok F a0 _ _ hr22) ?_
  refine Run.opG wantS_none (ex_sub rfl rfl) rfl ?_
  obtain ⟨r25, hr25, h⟩ := bnd_some h
  refine Run.callP wantS_none (ex_call rfl mkk62 cal62) rfl (sky_isFrom_ok F (0 : Int) a1 (w64 (r22 - (1 : Int))) _ _ hr25) ?_
  refine Run.opG wantS_none (ex_assign rfl) rfl ?_
  refine Run.opsEnd ?_
  cases h
  exact Run.ret Tryz.func106 rfl (res_tmp rfl res_nil) rfl

theorem mkk106 : makeK Tryz.prog 106 = none := by kernel_rfl
theorem cal106 : callable Tryz.prog 106 = true := by kernel_rfl
abbrev sky_checkCell_post (r : Int) : SV → Mem → Prop := fun s _ => s = (.int .i64 r)

def sky_checkCell_1 (F : Nat) (v13 : Bool) : Option (Int) :=
  bif v13 then
    some (91 : Int)
  else
    some (0 : Int)

theorem sky_checkCell_1_ok (F : Nat) : ∀ (v13 : Bool) (Fr : Rd) (M : Mem) (r : Int) (hH : Has Fr M []), sky_checkCell_1 F v13 = some r → Run Tryz.prog ⟨⟨51, [], none⟩, []⟩ 14 (sky_checkCell_post r) [(13, (.bool v13))] [codeC Tryz.prog 51 [1, 0, 1], codeC Tryz.prog 51 [1, 1]] M := by
  intro v13 Fr M r hH h
  rw [sky_checkCell_1] at h
  rcases btf (v13) with hc25 | hc25
  · have h := bif_t hc25 h
    refine Run.condT' rfl hc25 ?_
    refine Run.seq (Run.region ?_)
    refine Run.opG wantS_none (ex_assign rfl) rfl ?_
    refine Run.opsEnd ?_
    cases h
    exact Run.ret Tryz.func51 rfl (res_tmp rfl res_nil) rfl
  · have h := bif_f hc25 h
    refine Run.condF' rfl hc25 ?_
    refine Run.skip (Run.seq (Run.region ?_))
    refine Run.opG wantS_none (ex_assign rfl) rfl ?_
    refine Run.opsEnd ?_
    cases h
    exact Run.ret Tryz.func51 rfl (res_tmp rfl res_nil) rfl

def sky_checkCell (F : Nat) (a0 : Int) (a1 : Int) : Option (Int) :=
  bnd (sky_grid_isValid F a0) fun r22 =>
  bif (!r22) then
    sky_checkCell_1 F true
  else
    bnd (sky_grid_isCell F a0 a1) fun r27 =>
    sky_checkCell_1 F (!r27)

theorem sky_checkCell_ok (F : Nat) (a0 : Int) (a1 : Int) (r : Int) (M : Mem) (h : sky_checkCell F a0 a1 = some r) : CallsM Tryz.prog 51 [(.int .i64 a0), (.int .i64 a1)] M (fun s M' => s = (.int .i64 r) ∧ M' = M) := by
  refine CallsM.plain Tryz.func51 rfl rfl rfl (show Run _ _ _ (sky_checkCell_post r) _ _ _ from ?_)
  rw [sky_checkCell] at h
  have hH := Has.nil (frozen M)
  refine Run.seq (Run.region ?_)
  refine Run.opG wantS_none (ex_assign rfl) rfl ?_
  refine Run.opsEnd (Run.seq (Run.seq (Run.region ?_)))
  refine Run.opG wantS_none (ex_move rfl) rfl ?_
  obtain ⟨r22, hr22, h⟩ := bnd_some h
  refine Run.callP wantS_none (ex_call rfl mkk105 cal105) rfl (sky_grid_isValid_ok F a0 _ _ hr22) ?_
  refine Run.opG wantS_none (ex_not rfl) rfl ?_
  refine Run.opG wantS_none (ex_move rfl) rfl ?_
  rcases btf ((!r22)) with hc24 | hc24
  · have h := bif_t hc24 h
    refine Run.no (wantS_not' rfl rfl hc24) rfl ?_
    refine Run.no (wantS_not' rfl rfl hc24) rfl ?_
    refine Run.no (wantS_not' rfl rfl hc24) rfl ?_
    refine Run.no (wantS_not' rfl rfl hc24) rfl ?_
    refine Run.opG wantS_none (ex_pickT' rfl hc24 rfl rfl) rfl ?_
    refine Run.opsEnd ?_
    exact Run.pick [13] (sky_checkCell_1_ok F true _ _ _ hH h)
  · have h := bif_f hc24 h
    refine Run.opG (wantS_yes' rfl rfl hc24) (ex_move rfl) rfl ?_
    refine Run.opG (wantS_yes' rfl rfl hc24) (ex_move rfl) rfl ?_
    obtain ⟨r27, hr27, h⟩ := bnd_some h
    refine Run.callP (wantS_yes' rfl rfl hc24) (ex_call rfl mkk106 cal106) rfl (sky_grid_isCell_ok F a0 a1 _ _ hr27) ?_
    refine Run.opG (wantS_yes' rfl rfl hc24) (ex_not rfl) rfl ?_
    refine Run.opG wantS_none (ex_pickF' rfl hc24 rfl rfl) rfl ?_
    refine Run.opsEnd ?_
    exact Run.pick [13] (sky_checkCell_1_ok F (!r27) _ _ _ hH h)

theorem mkk51 : makeK Tryz.prog 51 = none := by kernel_rfl
theorem cal51 : callable Tryz.prog 51 = true := by kernel_rfl
theorem pls22 : placesOf Tryz.prog 22 = some (.ar 1) := by kernel_rfl
theorem sz22 : szOf Tryz.prog 22 = some 3 := by kernel_rfl
theorem agg22 : aggSize Tryz.prog 22 = some (some 3) := by kernel_rfl
theorem zer85 : zerosOf Tryz.prog 85 = some [(.int .i64 0), (.int .i64 0), (.int .i64 0)] := by kernel_rfl
abbrev sky_axes_post (r : Int × Int × Int) : SV → Mem → Prop := fun s _ => s = (.tuple [(.int .i64 r.1), (.int .i64 r.2.1), (.int .i64 r.2.2)])

def sky_axes (F : Nat) (a0 : Int) : Option (Int × Int × Int) :=
  bif ((w64 (Int.tdiv a0 (2 : Int))) == (0 : Int)) then
    some ((0 : Int), (1 : Int), (2 : Int))
  else
    bif ((w64 (Int.tdiv a0 (2 : Int))) == (1 : Int)) then
      some ((1 : Int), (0 : Int), (2 : Int))
    else
      some ((2 : Int), (0 : Int), (1 : Int))

theorem sky_axes_ok (F : Nat) (a0 : Int) (r : Int × Int × Int) (M : Mem) (h : sky_axes F a0 = some r) : CallsM Tryz.prog 107 [(.int .i64 a0)] M (fun s M' => s = (.tuple [(.int .i64 r.1), (.int .i64 r.2.1), (.int .i64 r.2.2)]) ∧ M' = M) := by
  refine CallsM.plain Tryz.func107 rfl rfl rfl (show Run _ _ _ (sky_axes_post r) _ _ _ from ?_)
  rw [sky_axes] at h
  have hH := Has.nil (frozen M)
  refine Run.seq (Run.region ?_)
  refine Run.opG wantS_none (ex_assign rfl) rfl ?_
  refine Run.opG wantS_none (ex_assign rfl) rfl ?_
  refine Run.opG wantS_none (ex_assign rfl) rfl ?_
  refine Run.opsEnd (Run.seq (Run.seq (Run.region ?_)))
  refine Run.opG wantS_none (ex_move rfl) rfl ?_
  refine Run.opG wantS_none (ex_quo rfl rfl (by decide)) rfl ?_
  refine Run.opsEnd (Run.block (Run.seq (Run.region ?_)))
  refine Run.opG wantS_none (ex_eql rfl rfl) rfl ?_
  refine Run.opG wantS_none (ex_assign rfl) rfl ?_
  refine Run.opsEnd ?_
  rcases btf (((w64 (Int.tdiv a0 (2 : Int))) == (0 : Int))) with hc21 | hc21
  · have h := bif_t hc21 h
    refine Run.condT' rfl hc21 ?_
    refine Run.seq (Run.region ?_)
    refine Run.opG wantS_none (ex_assign rfl) rfl ?_
    refine Run.opG wantS_none (ex_assign rfl) rfl ?_
    refine Run.opG wantS_none (ex_assign rfl) rfl ?_
    refine Run.opsEnd ?_
    cases h
    exact Run.ret Tryz.func107 rfl (res_tmp rfl (res_tmp rfl (res_tmp rfl res_nil))) rfl
  · have h := bif_f hc21 h
    refine Run.condF' rfl hc21 ?_
    refine Run.seq (Run.region ?_)
    refine Run.opG wantS_none (ex_eql rfl rfl) rfl ?_
    refine Run.opG wantS_none (ex_assign rfl) rfl ?_
    refine Run.opsEnd ?_
    rcases btf (((w64 (Int.tdiv a0 (2 : Int))) == (1 : Int))) with hc22 | hc22
    · have h := bif_t hc22 h
      refine Run.condT' rfl hc22 ?_
      refine Run.seq (Run.region ?_)
      refine Run.opG wantS_none (ex_assign rfl) rfl ?_
      refine Run.opG wantS_none (ex_assign rfl) rfl ?_
      refine Run.opG wantS_none (ex_assign rfl) rfl ?_
      refine Run.opsEnd ?_
      cases h
      exact Run.ret Tryz.func107 rfl (res_tmp rfl (res_tmp rfl (res_tmp rfl res_nil))) rfl
    · have h := bif_f hc22 h
      refine Run.condF' rfl hc22 ?_
      refine Run.skip (Run.inBlock (Run.seq (Run.region ?_)))
      refine Run.opG wantS_none (ex_assign rfl) rfl ?_
      refine Run.opG wantS_none (ex_assign rfl) rfl ?_
      refine Run.opG wantS_none (ex_assign rfl) rfl ?_
      refine Run.opsEnd ?_
      cases h
      exact Run.ret Tryz.func107 rfl (res_tmp rfl (res_tmp rfl (res_tmp rfl res_nil))) rfl

theorem mkk107 : makeK Tryz.prog 107 = none := by kernel_rfl
theorem cal107 : callable Tryz.prog 107 = true := by kernel_rfl
def enc85 (a : S__3_int) : List SV := [(.int .i64 a.e0), (.int .i64 a.e1), (.int .i64 a.e2)]
theorem enc85_len (a : S__3_int) : (enc85 a).length = 3 := rfl
theorem enc85_ones (a : S__3_int) : ones (enc85 a) = true := rfl
def get85 (a : S__3_int) (o : Nat) : Int := bif Nat.beq o 0 then a.e0 else bif Nat.beq o 1 then a.e1 else a.e2
def set85 (a : S__3_int) (o : Nat) (v : Int) : S__3_int := ⟨bif Nat.beq o 0 then v else a.e0, bif Nat.beq o 1 then v else a.e1, bif Nat.beq o 2 then v else a.e2⟩
theorem get85_cell (a : S__3_int) : ∀ o : Nat, o < 3 → (enc85 a)[o]? = some (.int .i64 (get85 a o))
  | 0, _ => rfl
  | 1, _ => rfl
  | 2, _ => rfl
  | _ + 3, h => absurd h (by omega)
theorem set85_cell (a : S__3_int) (v : Int) : ∀ o : Nat, o < 3 → (enc85 a).set o (.int .i64 v) = enc85 (set85 a o v)
  | 0, _ => rfl
  | 1, _ => rfl
  | 2, _ => rfl
  | _ + 3, h => absurd h (by omega)
theorem els85 : elems Tryz.prog 85 = some (.arr 3 1) := by kernel_rfl
theorem sz3 : szOf Tryz.prog 3 = some 1 := by kernel_rfl
theorem agg85 : aggSize Tryz.prog 85 = some (some 3) := by kernel_rfl
theorem sz85 : szOf Tryz.prog 85 = some 3 := by kernel_rfl
theorem plan52_1_1_0 : planOf Tryz.prog (opsC (atC Tryz.prog 52 [1, 1, 0])) = some [.fl 0, .fl 1, .fl 2, .fl 3, .fl 4, .fl 5, .fl 6, .fl 7, .fl 8, .fl 9, .fl 10, .fl 11, .fl 12, .fl 13, .fl 14, .fl 15, .sync] := by kernel_rfl
abbrev sky_grid_direction_post (r : S__3_int) : SV → Mem → Prop := fun s _ => s = (.agg [(.int .i64 r.e0), (.int .i64 r.e1), (.int .i64 r.e2)])

def sky_grid_direction_1 (F : Nat) (c22 : S__3_int) (c32 : S__3_int) : Option (S__3_int) :=
  some c32

theorem sky_grid_direction_1_ok (F : Nat) : ∀ (c22 : S__3_int) (c32 : S__3_int) (b22 : Pos) (b32 : Pos) (Fr : Rd) (M : Mem) (r : S__3_int) (hH : Has Fr M [.obj b22 (.row 85 .whole [(.int .i64 c22.e0), (.int .i64 c22.e1), (.int .i64 c22.e2)]), .obj b32 (.row 85 .whole [(.int .i64 c32.e0), (.int .i64 c32.e1), (.int .i64 c32.e2)])]), sky_grid_direction_1 F c22 c32 = some r → Run Tryz.prog ⟨⟨52, [], none⟩, []⟩ 58 (sky_grid_direction_post r) [(4, (.ptr b22 0)), (12, (.ptr b32 0))] [itemC Tryz.prog 52 [1, 1, 1, 1, 1, 1, 1, 0] 0, codeC Tryz.prog 52 [1, 1, 1, 1, 1, 1, 1, 1]] M := by
  intro c22 c32 b22 b32 Fr M r hH h
  rw [sky_grid_direction_1] at h
  refine Run.opG wantS_none (ex_loadA rfl (hH.cells (i := 1) rfl 0 rfl) rdLe_rfl agg85 rfl rfl rfl) rfl ?_
  refine Run.opX wantS_none rfl (ExG.storeC (c' := [(.int .i64 c32.e0), (.int .i64 c32.e1), (.int .i64 c32.e2)]) rfl rfl rfl hH (i := 0) rfl sz85 rfl rfl rfl rfl rfl) ?_
  rintro _ M47 ⟨rfl, (hH47 : Has Fr M47 [.obj b22 (.row 85 .whole [(.int .i64 c32.e0), (.int .i64 c32.e1), (.int .i64 c32.e2)]), .obj b32 (.row 85 .whole [(.int .i64 c32.e0), (.int .i64 c32.e1), (.int .i64 c32.e2)])])⟩
  refine Run.opsEnd ?_
  cases h
  exact Run.ret Tryz.func52 rfl (res_cell rfl (x_load (ex_loadA rfl (hH47.cells (i := 0) rfl 0 rfl) rdLe_rfl agg85 rfl rfl rfl)) res_nil) rfl

def sky_grid_direction (F : Nat) (a0 : Int) (a1 : Int) : Option (S__3_int) :=
  bnd (nz (w64 (a0 * a0))) fun z24 =>
  bnd (nz a0) fun z25 =>
  bnd (nz a0) fun z26 =>
  bnd (nz a0) fun z27 =>
  bnd (sky_axes F (w64 (Int.tdiv a1 (w64 (a0 * a0))))) fun r29 =>
  bnd (inA r29.1 3) fun o35 =>
  bnd (inA r29.2.1 3) fun o38 =>
  bnd (inA r29.2.2 3) fun o41 =>
  bif ((Int.tmod (w64 (Int.tdiv a1 (w64 (a0 * a0)))) (2 : Int)) == (1 : Int)) then
    bnd (inA r29.1 3) fun o45 =>
    sky_grid_direction_1 F (S__3_int.mk 0 0 0) (set85 (set85 (set85 (set85 (S__3_int.mk 0 0 0) o35 a0) o38 (w64 ((w64 ((w64 ((2 : Int) * (Int.tmod (w64 (Int.tdiv a1 a0)) a0))) + (1 : Int))) - a0))) o41 (w64 ((w64 ((w64 ((2 : Int) * (Int.tmod a1 a0))) + (1 : Int))) - a0))) o45 (w64 (-a0)))
  else
    sky_grid_direction_1 F (S__3_int.mk 0 0 0) (set85 (set85 (set85 (S__3_int.mk 0 0 0) o35 a0) o38 (w64 ((w64 ((w64 ((2 : Int) * (Int.tmod (w64 (Int.tdiv a1 a0)) a0))) + (1 : Int))) - a0))) o41 (w64 ((w64 ((w64 ((2 : Int) * (Int.tmod a1 a0))) + (1 : Int))) - a0)))

theorem sky_grid_direction_ok (F : Nat) (a0 : Int) (a1 : Int) (r : S__3_int) (M : Mem) (h : sky_grid_direction F a0 a1 = some r) : CallsM Tryz.prog 52 [(.int .i64 a0), (.int .i64 a1)] M (fun s M' => s = (.agg [(.int .i64 r.e0), (.int .i64 r.e1), (.int .i64 r.e2)]) ∧ M' = M) := by
  refine CallsM.plain Tryz.func52 rfl rfl rfl (show Run _ _ _ (sky_grid_direction_post r) _ _ _ from ?_)
  rw [sky_grid_direction] at h
  have hH := Has.nil (frozen M)
  refine Run.seq (Run.region ?_)
  refine Run.opX wantS_none rfl (ExG.new (v := fun b => .ptr b 0) (ex_alloc zer85) hH) ?_
  rintro _ M23 ⟨b22, rfl, (hH23 : Has (ro (frozen M)) M23 [.obj b22 (.row 85 .whole [(.int .i64 0), (.int .i64 0), (.int .i64 0)])])⟩
  refine Run.opsEnd (Run.seq (Run.region ?_))
  refine Run.opG wantS_none (ex_move rfl) rfl ?_
  refine Run.opG wantS_none (ex_assign rfl) rfl ?_
  refine Run.opsEnd (Run.seq ?_)
  refine Run.drawG plan52_1_1_0 ?_
  refine DrawG.fl rfl (ev_ex wantS_none (ex_move rfl)) rfl ?_
  refine DrawG.fl rfl (ev_ex wantS_none (ex_move rfl)) rfl ?_
  refine DrawG.fl rfl (ev_ex wantS_none (ex_move rfl)) rfl ?_
  refine DrawG.fl rfl (ev_ex wantS_none (ex_mul rfl rfl)) rfl ?_
  obtain ⟨z24, hz24, h⟩ := bnd_some h
  refine DrawG.fl rfl (ev_ex wantS_none (ex_quo' rfl rfl hz24)) rfl ?_
  refine DrawG.fl rfl (ev_ex wantS_none (ex_move rfl)) rfl ?_
  refine DrawG.fl rfl (ev_ex wantS_none (ex_move rfl)) rfl ?_
  obtain ⟨z25, hz25, h⟩ := bnd_some h
  refine DrawG.fl rfl (ev_ex wantS_none (ex_quo' rfl rfl hz25)) rfl ?_
  refine DrawG.fl rfl (ev_ex wantS_none (ex_move rfl)) rfl ?_
  obtain ⟨z26, hz26, h⟩ := bnd_some h
  refine DrawG.fl rfl (ev_ex wantS_none (ex_rem' rfl rfl hz26)) rfl ?_
  refine DrawG.fl rfl (ev_ex wantS_none (ex_move rfl)) rfl ?_
  refine DrawG.fl rfl (ev_ex wantS_none (ex_move rfl)) rfl ?_
  obtain ⟨z27, hz27, h⟩ := bnd_some h
  refine DrawG.fl rfl (ev_ex wantS_none (ex_rem' rfl rfl hz27)) rfl ?_
  refine DrawG.fl rfl (ev_ex wantS_none (ex_assign rfl)) rfl ?_
  refine DrawG.fl rfl (ev_ex wantS_none (ex_assign rfl)) rfl ?_
  refine DrawG.fl rfl (ev_ex wantS_none (ex_assign rfl)) rfl ?_
  refine DrawG.sync ?_
  refine DrawG.nil ?_
  refine Run.seq (Run.region ?_)
  refine Run.opG wantS_none (ex_move rfl) rfl ?_
  obtain ⟨r29, hr29, h⟩ := bnd_some h
  refine Run.callP wantS_none (ex_call rfl mkk107 cal107) rfl (sky_axes_ok F (w64 (Int.tdiv a1 (w64 (a0 * a0)))) _ _ hr29) ?_
  refine Run.opG wantS_none (ex_move rfl) rfl ?_
  refine Run.opG wantS_none (ex_extract rfl rfl) rfl ?_
  refine Run.opG wantS_none (ex_extract rfl rfl) rfl ?_
  refine Run.opG wantS_none (ex_extract rfl rfl) rfl ?_
  refine Run.opG wantS_none (ex_assign rfl) rfl ?_
  refine Run.opG wantS_none (ex_assign rfl) rfl ?_
  refine Run.opG wantS_none (ex_assign rfl) rfl ?_
  refine Run.opsEnd (Run.seq (Run.region ?_))
  refine Run.opX wantS_none rfl (ExG.new (v := fun b => .ptr b 0) (ex_alloc zer85) hH23) ?_
  rintro _ M33 ⟨b32, rfl, (hH33 : Has (ro (frozen M)) M33 [.obj b32 (.row 85 .whole [(.int .i64 0), (.int .i64 0), (.int .i64 0)]), .obj b22 (.row 85 .whole [(.int .i64 0), (.int .i64 0), (.int .i64 0)])])⟩
  refine Run.opsEnd (Run.seq (Run.region ?_))
  refine Run.opG wantS_none (ex_move rfl) rfl ?_
  refine Run.opG wantS_none (ex_move rfl) rfl ?_
  refine Run.opG wantS_none (ex_move rfl) rfl ?_
  refine Run.opG wantS_none (ex_move rfl) rfl ?_
  refine Run.opG wantS_none (ex_move rfl) rfl ?_
  refine Run.opG wantS_none (ex_mul rfl rfl) rfl ?_
  refine Run.opG wantS_none (ex_add rfl rfl) rfl ?_
  refine Run.opG wantS_none (ex_move rfl) rfl ?_
  refine Run.opG wantS_none (ex_sub rfl rfl) rfl ?_
  refine Run.opG wantS_none (ex_move rfl) rfl ?_
  refine Run.opG wantS_none (ex_mul rfl rfl) rfl ?_
  refine Run.opG wantS_none (ex_add rfl rfl) rfl ?_
  refine Run.opG wantS_none (ex_move rfl) rfl ?_
  refine Run.opG wantS_none (ex_sub rfl rfl) rfl ?_
  obtain ⟨o35, ho35, h⟩ := bnd_some h
  refine Run.opG wantS_none (ex_elX rfl rfl (arr_place (inA_natIn ho35) els85)) rfl ?_
  refine Run.opX wantS_none rfl (ExG.storeV (off := 0) (cs := enc85 (S__3_int.mk 0 0 0)) (a' := enc85 (set85 (S__3_int.mk 0 0 0) o35 a0)) (c' := [(.int .i64 (set85 (S__3_int.mk 0 0 0) o35 a0).e0), (.int .i64 (set85 (S__3_int.mk 0 0 0) o35 a0).e1), (.int .i64 (set85 (S__3_int.mk 0 0 0) o35 a0).e2)]) rfl rfl rfl hH33 (i := 0) rfl sz3 rfl (inA_lt ho35) rfl (set85_cell (S__3_int.mk 0 0 0) a0 o35 (inA_lt ho35)) rfl) ?_
  rintro _ M36 ⟨rfl, (hH36 : Has (ro (frozen M)) M36 [.obj b32 (.row 85 .whole [(.int .i64 (set85 (S__3_int.mk 0 0 0) o35 a0).e0), (.int .i64 (set85 (S__3_int.mk 0 0 0) o35 a0).e1), (.int .i64 (set85 (S__3_int.mk 0 0 0) o35 a0).e2)]), .obj b22 (.row 85 .whole [(.int .i64 0), (.int .i64 0), (.int .i64 0)])])⟩
  obtain ⟨o38, ho38, h⟩ := bnd_some h
  refine Run.opG wantS_none (ex_elX rfl rfl (arr_place (inA_natIn ho38) els85)) rfl ?_
  refine Run.opX wantS_none rfl (ExG.storeV (off := 0) (cs := enc85 (set85 (S__3_int.mk 0 0 0) o35 a0)) (a' := enc85 (set85 (set85 (S__3_int.mk 0 0 0) o35 a0) o38 (w64 ((w64 ((w64 ((2 : Int) * (Int.tmod (w64 (Int.tdiv a1 a0)) a0))) + (1 : Int))) - a0)))) (c' := [(.int .i64 (set85 (set85 (S__3_int.mk 0 0 0) o35 a0) o38 (w64 ((w64 ((w64 ((2 : Int) * (Int.tmod (w64 (Int.tdiv a1 a0)) a0))) + (1 : Int))) - a0))).e0), (.int .i64 (set85 (set85 (S__3_int.mk 0 0 0) o35 a0) o38 (w64 ((w64 ((w64 ((2 : Int) * (Int.tmod (w64 (Int.tdiv a1 a0)) a0))) + (1 : Int))) - a0))).e1), (.int .i64 (set85 (set85 (S__3_int.mk 0 0 0) o35 a0) o38 (w64 ((w64 ((w64 ((2 : Int) * (Int.tmod (w64 (Int.tdiv a1 a0)) a0))) + (1 : Int))) - a0))).e2)]) rfl rfl rfl hH36 (i := 0) rfl sz3 rfl (inA_lt ho38) rfl (set85_cell (set85 (S__3_int.mk 0 0 0) o35 a0) (w64 ((w64 ((w64 ((2 : Int) * (Int.tmod (w64 (Int.tdiv a1 a0)) a0))) + (1 : Int))) - a0)) o38 (inA_lt ho38)) rfl) ?_
  rintro _ M39 ⟨rfl, (hH39 : Has (ro (frozen M)) M39 [.obj b32 (.row 85 .whole [(.int .i64 (set85 (set85 (S__3_int.mk 0 0 0) o35 a0) o38 (w64 ((w64 ((w64 ((2 : Int) * (Int.tmod (w64 (Int.tdiv a1 a0)) a0))) + (1 : Int))) - a0))).e0), (.int .i64 (set85 (set85 (S__3_int.mk 0 0 0) o35 a0) o38 (w64 ((w64 ((w64 ((2 : Int) * (Int.tmod (w64 (Int.tdiv a1 a0)) a0))) + (1 : Int))) - a0))).e1), (.int .i64 (set85 (set85 (S__3_int.mk 0 0 0) o35 a0) o38 (w64 ((w64 ((w64 ((2 : Int) * (Int.tmod (w64 (Int.tdiv a1 a0)) a0))) + (1 : Int))) - a0))).e2)]), .obj b22 (.row 85 .whole [(.int .i64 0), (.int .i64 0), (.int .i64 0)])])⟩
  obtain ⟨o41, ho41, h⟩ := bnd_some h
  refine Run.opG wantS_none (ex_elX rfl rfl (arr_place (inA_natIn ho41) els85)) rfl ?_
  refine Run.opX wantS_none rfl (ExG.storeV (off := 0) (cs := enc85 (set85 (set85 (S__3_int.mk 0 0 0) o35 a0) o38 (w64 ((w64 ((w64 ((2 : Int) * (Int.tmod (w64 (Int.tdiv a1 a0)) a0))) + (1 : Int))) - a0)))) (a' := enc85 (set85 (set85 (set85 (S__3_int.mk 0 0 0) o35 a0) o38 (w64 ((w64 ((w64 ((2 : Int) * (Int.tmod (w64 (Int.tdiv a1 a0)) a0))) + (1 : Int))) - a0))) o41 (w64 ((w64 ((w64 ((2 : Int) * (Int.tmod a1 a0))) + (1 : Int))) - a0)))) (c' := [(.int .i64 (set85 (set85 (set85 (S__3_int.mk 0 0 0) o35 a0) o38 (w64 ((w64 ((w64 ((2 : Int) * (Int.tmod (w64 (Int.tdiv a1 a0)) a0))) + (1 : Int))) - a0))) o41 (w64 ((w64 ((w64 ((2 : Int) * (Int.tmod a1 a0))) + (1 : Int))) - a0))).e0), (.int .i64 (set85 (set85 (set85 (S__3_int.mk 0 0 0) o35 a0) o38 (w64 ((w64 ((w64 ((2 : Int) * (Int.tmod (w64 (Int.tdiv a1 a0)) a0))) + (1 : Int))) - a0))) o41 (w64 ((w64 ((w64 ((2 : Int) * (Int.tmod a1 a0))) + (1 : Int))) - a0))).e1), (.int .i64 (set85 (set85 (set85 (S__3_int.mk 0 0 0) o35 a0) o38 (w64 ((w64 ((w64 ((2 : Int) * (Int.tmod (w64 (Int.tdiv a1 a0)) a0))) + (1 : Int))) - a0))) o41 (w64 ((w64 ((w64 ((2 : Int) * (Int.tmod a1 a0))) + (1 : Int))) - a0))).e2)]) rfl rfl rfl hH39 (i := 0) rfl sz3 rfl (inA_lt ho41) rfl (set85_cell (set85 (set85 (S__3_int.mk 0 0 0) o35 a0) o38 (w64 ((w64 ((w64 ((2 : Int) * (Int.tmod (w64 (Int.tdiv a1 a0)) a0))) + (1 : Int))) - a0))) (w64 ((w64 ((w64 ((2 : Int) * (Int.tmod a1 a0))) + (1 : Int))) - a0)) o41 (inA_lt ho41)) rfl) ?_
  rintro _ M42 ⟨rfl, (hH42 : Has (ro (frozen M)) M42 [.obj b32 (.row 85 .whole [(.int .i64 (set85 (set85 (set85 (S__3_int.mk 0 0 0) o35 a0) o38 (w64 ((w64 ((w64 ((2 : Int) * (Int.tmod (w64 (Int.tdiv a1 a0)) a0))) + (1 : Int))) - a0))) o41 (w64 ((w64 ((w64 ((2 : Int) * (Int.tmod a1 a0))) + (1 : Int))) - a0))).e0), (.int .i64 (set85 (set85 (set85 (S__3_int.mk 0 0 0) o35 a0) o38 (w64 ((w64 ((w64 ((2 : Int) * (Int.tmod (w64 (Int.tdiv a1 a0)) a0))) + (1 : Int))) - a0))) o41 (w64 ((w64 ((w64 ((2 : Int) * (Int.tmod a1 a0))) + (1 : Int))) - a0))).e1), (.int .i64 (set85 (set85 (set85 (S__3_int.mk 0 0 0) o35 a0) o38 (w64 ((w64 ((w64 ((2 : Int) * (Int.tmod (w64 (Int.tdiv a1 a0)) a0))) + (1 : Int))) - a0))) o41 (w64 ((w64 ((w64 ((2 : Int) * (Int.tmod a1 a0))) + (1 : Int))) - a0))).e2)]), .obj b22 (.row 85 .whole [(.int .i64 0), (.int .i64 0), (.int .i64 0)])])⟩
  refine Run.opsEnd (Run.seq (Run.seq (Run.region ?_)))
  refine Run.opG wantS_none (ex_move rfl) rfl ?_
  refine Run.opG wantS_none (ex_rem rfl rfl (by decide)) rfl ?_
  refine Run.opG wantS_none (ex_eql rfl rfl) rfl ?_
  refine Run.opsEnd ?_
  rcases btf (((Int.tmod (w64 (Int.tdiv a1 (w64 (a0 * a0)))) (2 : Int)) == (1 : Int))) with hc43 | hc43
  · have h := bif_t hc43 h
    refine Run.condT' rfl hc43 ?_
    refine Run.region ?_
    refine Run.opG wantS_none (ex_move rfl) rfl ?_
    refine Run.opG wantS_none (ex_move rfl) rfl ?_
    refine Run.opG wantS_none (ex_neg rfl) rfl ?_
    obtain ⟨o45, ho45, h⟩ := bnd_some h
    refine Run.opG wantS_none (ex_elX rfl rfl (arr_place (inA_natIn ho45) els85)) rfl ?_
    refine Run.opX wantS_none rfl (ExG.storeV (off := 0) (cs := enc85 (set85 (set85 (set85 (S__3_int.mk 0 0 0) o35 a0) o38 (w64 ((w64 ((w64 ((2 : Int) * (Int.tmod (w64 (Int.tdiv a1 a0)) a0))) + (1 : Int))) - a0))) o41 (w64 ((w64 ((w64 ((2 : Int) * (Int.tmod a1 a0))) + (1 : Int))) - a0)))) (a' := enc85 (set85 (set85 (set85 (set85 (S__3_int.mk 0 0 0) o35 a0) o38 (w64 ((w64 ((w64 ((2 : Int) * (Int.tmod (w64 (Int.tdiv a1 a0)) a0))) + (1 : Int))) - a0))) o41 (w64 ((w64 ((w64 ((2 : Int) * (Int.tmod a1 a0))) + (1 : Int))) - a0))) o45 (w64 (-a0)))) (c' := [(.int .i64 (set85 (set85 (set85 (set85 (S__3_int.mk 0 0 0) o35 a0) o38 (w64 ((w64 ((w64 ((2 : Int) * (Int.tmod (w64 (Int.tdiv a1 a0)) a0))) + (1 : Int))) - a0))) o41 (w64 ((w64 ((w64 ((2 : Int) * (Int.tmod a1 a0))) + (1 : Int))) - a0))) o45 (w64 (-a0))).e0), (.int .i64 (set85 (set85 (set85 (set85 (S__3_int.mk 0 0 0) o35 a0) o38 (w64 ((w64 ((w64 ((2 : Int) * (Int.tmod (w64 (Int.tdiv a1 a0)) a0))) + (1 : Int))) - a0))) o41 (w64 ((w64 ((w64 ((2 : Int) * (Int.tmod a1 a0))) + (1 : Int))) - a0))) o45 (w64 (-a0))).e1), (.int .i64 (set85 (set85 (set85 (set85 (S__3_int.mk 0 0 0) o35 a0) o38 (w64 ((w64 ((w64 ((2 : Int) * (Int.tmod (w64 (Int.tdiv a1 a0)) a0))) + (1 : Int))) - a0))) o41 (w64 ((w64 ((w64 ((2 : Int) * (Int.tmod a1 a0))) + (1 : Int))) - a0))) o45 (w64 (-a0))).e2)]) rfl rfl rfl hH42 (i := 0) rfl sz3 rfl (inA_lt ho45) rfl (set85_cell (set85 (set85 (set85 (S__3_int.mk 0 0 0) o35 a0) o38 (w64 ((w64 ((w64 ((2 : Int) * (Int.tmod (w64 (Int.tdiv a1 a0)) a0))) + (1 : Int))) - a0))) o41 (w64 ((w64 ((w64 ((2 : Int) * (Int.tmod a1 a0))) + (1 : Int))) - a0))) (w64 (-a0)) o45 (inA_lt ho45)) rfl) ?_
    rintro _ M46 ⟨rfl, (hH46 : Has (ro (frozen M)) M46 [.obj b32 (.row 85 .whole [(.int .i64 (set85 (set85 (set85 (set85 (S__3_int.mk 0 0 0) o35 a0) o38 (w64 ((w64 ((w64 ((2 : Int) * (Int.tmod (w64 (Int.tdiv a1 a0)) a0))) + (1 : Int))) - a0))) o41 (w64 ((w64 ((w64 ((2 : Int) * (Int.tmod a1 a0))) + (1 : Int))) - a0))) o45 (w64 (-a0))).e0), (.int .i64 (set85 (set85 (set85 (set85 (S__3_int.mk 0 0 0) o35 a0) o38 (w64 ((w64 ((w64 ((2 : Int) * (Int.tmod (w64 (Int.tdiv a1 a0)) a0))) + (1 : Int))) - a0))) o41 (w64 ((w64 ((w64 ((2 : Int) * (Int.tmod a1 a0))) + (1 : Int))) - a0))) o45 (w64 (-a0))).e1), (.int .i64 (set85 (set85 (set85 (set85 (S__3_int.mk 0 0 0) o35 a0) o38 (w64 ((w64 ((w64 ((2 : Int) * (Int.tmod (w64 (Int.tdiv a1 a0)) a0))) + (1 : Int))) - a0))) o41 (w64 ((w64 ((w64 ((2 : Int) * (Int.tmod a1 a0))) + (1 : Int))) - a0))) o45 (w64 (-a0))).e2)]), .obj b22 (.row 85 .whole [(.int .i64 0), (.int .i64 0), (.int .i64 0)])])⟩
    refine Run.opsEnd (Run.seq (Run.region ?_))
    exact Run.pick [4, 12] (sky_grid_direction_1_ok F (S__3_int.mk 0 0 0) (set85 (set85 (set85 (set85 (S__3_int.mk 0 0 0) o35 a0) o38 (w64 ((w64 ((w64 ((2 : Int) * (Int.tmod (w64 (Int.tdiv a1 a0)) a0))) + (1 : Int))) - a0))) o41 (w64 ((w64 ((w64 ((2 : Int) * (Int.tmod a1 a0))) + (1 : Int))) - a0))) o45 (w64 (-a0))) b22 b32 _ _ _ (hH46.pick [1, 0] rfl rfl) h)
  · have h := bif_f hc43 h
    refine Run.condF' rfl hc43 ?_
    refine Run.skip (Run.seq (Run.region ?_))
    exact Run.pick [4, 12] (sky_grid_direction_1_ok F (S__3_int.mk 0 0 0) (set85 (set85 (set85 (S__3_int.mk 0 0 0) o35 a0) o38 (w64 ((w64 ((w64 ((2 : Int) * (Int.tmod (w64 (Int.tdiv a1 a0)) a0))) + (1 : Int))) - a0))) o41 (w64 ((w64 ((w64 ((2 : Int) * (Int.tmod a1 a0))) + (1 : Int))) - a0))) b22 b32 _ _ _ (hH42.pick [1, 0] rfl rfl) h)

theorem mkk52 : makeK Tryz.prog 52 = none := by kernel_rfl
theorem cal52 : callable Tryz.prog 52 = true := by kernel_rfl
abbrev sky_Direction_post (r : S__3_int × Int) : SV → Mem → Prop := fun s _ => s = (.tuple [(.agg [(.int .i64 r.1.e0), (.int .i64 r.1.e1), (.int .i64 r.1.e2)]), (.int .i64 r.2)])

def sky_Direction (F : Nat) (a0 : Int) (a1 : Int) : Option (S__3_int × Int) :=
  bnd (sky_checkCell F a0 a1) fun r25 =>
  bif (!(r25 == (0 : Int))) then
    some ((S__3_int.mk 0 0 0), r25)
  else
    bnd (sky_grid_direction F a0 a1) fun r30 =>
    some (r30, (0 : Int))

theorem sky_Direction_ok (F : Nat) (a0 : Int) (a1 : Int) (r : S__3_int × Int) (M : Mem) (h : sky_Direction F a0 a1 = some r) : CallsM Tryz.prog 14 [(.int .i64 a0), (.int .i64 a1)] M (fun s M' => s = (.tuple [(.agg [(.int .i64 r.1.e0), (.int .i64 r.1.e1), (.int .i64 r.1.e2)]), (.int .i64 r.2)]) ∧ M' = M) := by
  refine CallsM.plain Tryz.func14 rfl rfl rfl (show Run _ _ _ (sky_Direction_post r) _ _ _ from ?_)
  rw [sky_Direction] at h
  have hH := Has.nil (frozen M)
  refine Run.seq (Run.region ?_)
  refine Run.opX wantS_none rfl (ExG.new (v := fun b => .ptr b 0) (ex_alloc zer22) hH) ?_
  rintro _ M23 ⟨b22, rfl, (hH23 : Has (ro (frozen M)) M23 [.obj b22 (.row 22 .whole [(.int .i64 0), (.int .i64 0), (.int .i64 0)])])⟩
  refine Run.opG wantS_none (ex_assign rfl) rfl ?_
  refine Run.opsEnd (Run.seq (Run.seq (Run.region ?_)))
  refine Run.opG wantS_none (ex_move rfl) rfl ?_
  refine Run.opG wantS_none (ex_move rfl) rfl ?_
  obtain ⟨r25, hr25, h⟩ := bnd_some h
  refine Run.callP wantS_none (ex_call rfl mkk51 cal51) rfl (sky_checkCell_ok F a0 a1 _ _ hr25) ?_
  refine Run.opG wantS_none (ex_assign rfl) rfl ?_
  refine Run.opsEnd (Run.seq (Run.region ?_))
  refine Run.opG wantS_none (ex_move rfl) rfl ?_
  refine Run.opG wantS_none (ex_neq rfl rfl) rfl ?_
  refine Run.opsEnd ?_
  rcases btf ((!(r25 == (0 : Int)))) with hc27 | hc27
  · have h := bif_t hc27 h
    refine Run.condT' rfl hc27 ?_
    refine Run.seq (Run.region ?_)
    refine Run.opG wantS_none (ex_buildA (r := [(.int .i64 0), (.int .i64 0), (.int .i64 0)]) rfl zer22 pls22 rfl) rfl ?_
    refine Run.opG wantS_none (ex_move rfl) rfl ?_
    refine Run.opX wantS_none rfl (ExG.storeC (c' := [(.int .i64 0), (.int .i64 0), (.int .i64 0)]) rfl rfl rfl hH23 (i := 0) rfl sz22 rfl rfl rfl rfl rfl) ?_
    rintro _ M28 ⟨rfl, (hH28 : Has (ro (frozen M)) M28 [.obj b22 (.row 22 .whole [(.int .i64 0), (.int .i64 0), (.int .i64 0)])])⟩
    refine Run.opG wantS_none (ex_assign rfl) rfl ?_
    refine Run.opsEnd ?_
    cases h
    exact Run.ret Tryz.func14 rfl (res_cell rfl (x_load (ex_loadA rfl (hH28.cells (i := 0) rfl 0 rfl) rdLe_rfl agg22 rfl rfl rfl)) (res_tmp rfl res_nil)) rfl
  · have h := bif_f hc27 h
    refine Run.condF' rfl hc27 ?_
    refine Run.skip (Run.seq (Run.region ?_))
    refine Run.opG wantS_none (ex_move rfl) rfl ?_
    refine Run.opG wantS_none (ex_move rfl) rfl ?_
    obtain ⟨r30, hr30, h⟩ := bnd_some h
    refine Run.callP wantS_none (ex_call rfl mkk52 cal52) rfl (sky_grid_direction_ok F a0 a1 _ _ hr30) ?_
    refine Run.opX wantS_none rfl (ExG.storeC (c' := [(.int .i64 r30.e0), (.int .i64 r30.e1), (.int .i64 r30.e2)]) rfl rfl rfl hH23 (i := 0) rfl sz22 rfl rfl rfl rfl rfl) ?_
    rintro _ M32 ⟨rfl, (hH32 : Has (ro (frozen M)) M32 [.obj b22 (.row 22 .whole [(.int .i64 r30.e0), (.int .i64 r30.e1), (.int .i64 r30.e2)])])⟩
    refine Run.opG wantS_none (ex_assign rfl) rfl ?_
    refine Run.opsEnd ?_
    cases h
    exact Run.ret Tryz.func14 rfl (res_cell rfl (x_load (ex_loadA rfl (hH32.cells (i := 0) rfl 0 rfl) rdLe_rfl agg22 rfl rfl rfl)) (res_tmp rfl res_nil)) rfl

theorem mkk14 : makeK Tryz.prog 14 = none := by kernel_rfl
theorem cal14 : callable Tryz.prog 14 = true := by kernel_rfl
theorem els22 : elems Tryz.prog 22 = some (.arr 3 1) := by kernel_rfl
abbrev sky_checkGrid_post (r : Int) : SV → Mem → Prop := fun s _ => s = (.int .i64 r)

def sky_checkGrid (F : Nat) (a0 : Int) : Option (Int) :=
  bnd (sky_grid_isValid F a0) fun r22 =>
  bif (!r22) then
    some (91 : Int)
  else
    some (0 : Int)

theorem sky_checkGrid_ok (F : Nat) (a0 : Int) (r : Int) (M : Mem) (h : sky_checkGrid F a0 = some r) : CallsM Tryz.prog 48 [(.int .i64 a0)] M (fun s M' => s = (.int .i64 r) ∧ M' = M) := by
  refine CallsM.plain Tryz.func48 rfl rfl rfl (show Run _ _ _ (sky_checkGrid_post r) _ _ _ from ?_)
  rw [sky_checkGrid] at h
  have hH := Has.nil (frozen M)
  refine Run.seq (Run.region ?_)
  refine Run.opG wantS_none (ex_assign rfl) rfl ?_
  refine Run.opsEnd (Run.seq (Run.seq (Run.region ?_)))
  refine Run.opG wantS_none (ex_move rfl) rfl ?_
  obtain ⟨r22, hr22, h⟩ := bnd_some h
  refine Run.callP wantS_none (ex_call rfl mkk105 cal105) rfl (sky_grid_isValid_ok F a0 _ _ hr22) ?_
  refine Run.opG wantS_none (ex_not rfl) rfl ?_
  refine Run.opsEnd ?_
  rcases btf ((!r22)) with hc24 | hc24
  · have h := bif_t hc24 h
    refine Run.condT' rfl hc24 ?_
    refine Run.seq (Run.region ?_)
    refine Run.opG wantS_none (ex_assign rfl) rfl ?_
    refine Run.opsEnd ?_
    cases h
    exact Run.ret Tryz.func48 rfl (res_tmp rfl res_nil) rfl
  · have h := bif_f hc24 h
    refine Run.condF' rfl hc24 ?_
    refine Run.skip (Run.seq (Run.region ?_))
    refine Run.opG wantS_none (ex_assign rfl) rfl ?_
    refine Run.opsEnd ?_
    cases h
    exact Run.ret Tryz.func48 rfl (res_tmp rfl res_nil) rfl

theorem mkk48 : makeK Tryz.prog 48 = none := by kernel_rfl
theorem cal48 : callable Tryz.prog 48 = true := by kernel_rfl
theorem wha85 : whole Tryz.prog 85 = some (.arr 3 3 1) := by kernel_rfl
abbrev sky_vector_isWithin_post (r : Bool) : SV → Mem → Prop := fun s _ => s = (.bool r)

def sky_vector_isWithin_1 (F : Nat) : Nat → Int → S__3_int → Int → Option (Bool)
  | 0, _, _, _ => none
  | N + 1, v1, v7, v8 =>
    bif (decide (v8 < (3 : Int))) then
      bnd (inA v8 3) fun o26 =>
      bnd (sky_isFrom F (w64 (-v1)) (get85 v7 o26) v1) fun r28 =>
      bif (!r28) then
        some false
      else
        (sky_vector_isWithin_1 F N) v1 v7 (w64 (v8 + (1 : Int)))
    else
      some true

theorem sky_vector_isWithin_1_ok (F : Nat) : ∀ (N : Nat), ∀ (v1 : Int) (v7 : S__3_int) (v8 : Int) (Fr : Rd) (M : Mem) (r : Bool) (hH : Has Fr M []), sky_vector_isWithin_1 F N v1 v7 v8 = some r → Run Tryz.prog ⟨⟨108, [], none⟩, []⟩ 18 (sky_vector_isWithin_post r) [(1, (.int .i64 v1)), (7, (.agg [(.int .i64 v7.e0), (.int .i64 v7.e1), (.int .i64 v7.e2)])), (8, (.int .i64 v8))] [codeC Tryz.prog 108 [1, 0, 1, 0, 0], loopC Tryz.prog 108 [1, 0, 1, 0, 0], .inBlock 0, codeC Tryz.prog 108 [1, 1]] M := by
  intro N
  induction N with
  | zero =>
    intro v1 v7 v8 Fr M r hH h
    simp [sky_vector_isWithin_1] at h
  | succ N ih =>
    intro v1 v7 v8 Fr M r hH h
    rw [sky_vector_isWithin_1] at h
    refine Run.seq (Run.region ?_)
    refine Run.opG wantS_none (ex_lss rfl rfl) rfl ?_
    refine Run.opsEnd (Run.seq ?_)
    rcases btf ((decide (v8 < (3 : Int)))) with hc24 | hc24
    · have h := bif_t hc24 h
      refine Run.condT' rfl hc24 ?_
      refine Run.skip (Run.seq (Run.block (Run.seq (Run.region ?_))))
      obtain ⟨o26, ho26, h⟩ := bnd_some h
      refine Run.opG wantS_none (ex_idxA rfl rfl wha85 (inA_natIn ho26) (part_at agg3 (get85_cell v7 o26 (inA_lt ho26)))) rfl ?_
      refine Run.opG wantS_none (ex_assign rfl) rfl ?_
      refine Run.opsEnd (Run.seq (Run.region ?_))
      refine Run.opG wantS_none (ex_move rfl) rfl ?_
      refine Run.opG wantS_none (ex_neg rfl) rfl ?_
      refine Run.opG wantS_none (ex_move rfl) rfl ?_
      refine Run.opG wantS_none (ex_move rfl) rfl ?_
      obtain ⟨r28, hr28, h⟩ := bnd_some h
      refine Run.callP wantS_none (ex_call rfl mkk62 cal62) rfl (sky_isFrom_ok F (w64 (-v1)) (get85 v7 o26) v1 _ _ hr28) ?_
      refine Run.opG wantS_none (ex_not rfl) rfl ?_
      refine Run.opsEnd ?_
      rcases btf ((!r28)) with hc30 | hc30
      · have h := bif_t hc30 h
        refine Run.condT' rfl hc30 ?_
        refine Run.seq (Run.region ?_)
        refine Run.opG wantS_none (ex_assign rfl) rfl ?_
        refine Run.opsEnd ?_
        cases h
        exact Run.ret Tryz.func108 rfl (res_tmp rfl res_nil) rfl
      · have h := bif_f hc30 h
        refine Run.condF' rfl hc30 ?_
        refine Run.skip (Run.inBlock (Run.region ?_))
        refine Run.opG wantS_none (ex_add rfl rfl) rfl ?_
        refine Run.opG wantS_none (ex_move rfl) rfl ?_
        refine Run.opsEnd (Run.inLoop ?_)
        exact Run.pick [1, 7, 8] (ih v1 v7 (w64 (v8 + (1 : Int))) _ _ _ hH h)
    · have h := bif_f hc24 h
      refine Run.condF' rfl hc24 ?_
      refine Run.exit rfl (Run.seq (Run.region ?_))
      refine Run.opG wantS_none (ex_assign rfl) rfl ?_
      refine Run.opsEnd ?_
      cases h
      exact Run.ret Tryz.func108 rfl (res_tmp rfl res_nil) rfl

def sky_vector_isWithin (F : Nat) (a0 : S__3_int) (a1 : Int) : Option (Bool) :=
  sky_vector_isWithin_1 F F a1 a0 (0 : Int)

theorem sky_vector_isWithin_ok (F : Nat) (a0 : S__3_int) (a1 : Int) (r : Bool) (M : Mem) (h : sky_vector_isWithin F a0 a1 = some r) : CallsM Tryz.prog 108 [(.agg [(.int .i64 a0.e0), (.int .i64 a0.e1), (.int .i64 a0.e2)]), (.int .i64 a1)] M (fun s M' => s = (.bool r) ∧ M' = M) := by
  refine CallsM.plain Tryz.func108 rfl rfl rfl (show Run _ _ _ (sky_vector_isWithin_post r) _ _ _ from ?_)
  rw [sky_vector_isWithin] at h
  have hH := Has.nil (frozen M)
  refine Run.seq (Run.region ?_)
  refine Run.opX wantS_none rfl (ExG.box rfl rfl hH) ?_
  rintro _ M23 ⟨b22, rfl, (hH23 : Has (ro (frozen M)) M23 [.obj b22 (.row 85 .whole [(.int .i64 a0.e0), (.int .i64 a0.e1), (.int .i64 a0.e2)])])⟩
  refine Run.opG wantS_none (ex_assign rfl) rfl ?_
  refine Run.opsEnd (Run.seq (Run.seq (Run.region ?_)))
  refine Run.opG wantS_none (ex_loadA rfl (hH23.cells (i := 0) rfl 0 rfl) rdLe_rfl agg85 rfl rfl rfl) rfl ?_
  refine Run.opG wantS_none (ex_move rfl) rfl ?_
  refine Run.opsEnd (Run.block (Run.loop ?_))
  exact Run.pick [1, 7, 8] (sky_vector_isWithin_1_ok F F a1 a0 (0 : Int) _ _ _ (hH23.pick [] rfl rfl) h)

theorem mkk108 : makeK Tryz.prog 108 = none := by kernel_rfl
theorem cal108 : callable Tryz.prog 108 = true := by kernel_rfl
abbrev sky_isVector_post (r : Bool) : SV → Mem → Prop := fun s _ => s = (.bool r)

def sky_isVector (F : Nat) (a0 : S__3_int) : Option (Bool) :=
  bnd (sky_vector_isWithin F a0 (1000 : Int)) fun r25 =>
  some r25

theorem sky_isVector_ok (F : Nat) (a0 : S__3_int) (r : Bool) (M : Mem) (h : sky_isVector F a0 = some r) : CallsM Tryz.prog 55 [(.agg [(.int .i64 a0.e0), (.int .i64 a0.e1), (.int .i64 a0.e2)])] M (fun s M' => s = (.bool r) ∧ M' = M) := by
  refine CallsM.plain Tryz.func55 rfl rfl rfl (show Run _ _ _ (sky_isVector_post r) _ _ _ from ?_)
  rw [sky_isVector] at h
  have hH := Has.nil (frozen M)
  refine Run.seq (Run.region ?_)
  refine Run.opX wantS_none rfl (ExG.box rfl rfl hH) ?_
  rintro _ M23 ⟨b22, rfl, (hH23 : Has (ro (frozen M)) M23 [.obj b22 (.row 85 .whole [(.int .i64 a0.e0), (.int .i64 a0.e1), (.int .i64 a0.e2)])])⟩
  refine Run.opG wantS_none (ex_assign rfl) rfl ?_
  refine Run.opsEnd (Run.seq (Run.region ?_))
  refine Run.opG wantS_none (ex_loadA rfl (hH23.cells (i := 0) rfl 0 rfl) rdLe_rfl agg85 rfl rfl rfl) rfl ?_
  obtain ⟨r25, hr25, h⟩ := bnd_some h
  refine Run.callP wantS_none (ex_call rfl mkk108 cal108) rfl (sky_vector_isWithin_ok F a0 (1000 : Int) _ _ hr25) ?_
  refine Run.opG wantS_none (ex_assign rfl) rfl ?_
  refine Run.opsEnd ?_
  cases h
  exact Run.ret Tryz.func55 rfl (res_tmp rfl res_nil) rfl

theorem mkk55 : makeK Tryz.prog 55 = none := by kernel_rfl
theorem cal55 : callable Tryz.prog 55 = true := by kernel_rfl
theorem pls85 : placesOf Tryz.prog 85 = some (.ar 1) := by kernel_rfl
theorem agk3 : aggK Tryz.prog 3 = some .int := by kernel_rfl
theorem agk85 : aggK Tryz.prog 85 = some (.ar 3 3 1) := by kernel_rfl
theorem aeq85 : aggEq Tryz.prog 85 = false := by kernel_rfl
abbrev sky_vector_isNone_post (r : Bool) : SV → Mem → Prop := fun s _ => s = (.bool r)

def sky_vector_isNone (F : Nat) (a0 : S__3_int) : Option (Bool) :=
  some ((a0.e0 == (0 : Int)) && ((a0.e1 == (0 : Int)) && ((a0.e2 == (0 : Int)) && true)))

theorem sky_vector_isNone_ok (F : Nat) (a0 : S__3_int) (r : Bool) (M : Mem) (h : sky_vector_isNone F a0 = some r) : CallsM Tryz.prog 56 [(.agg [(.int .i64 a0.e0), (.int .i64 a0.e1), (.int .i64 a0.e2)])] M (fun s M' => s = (.bool r) ∧ M' = M) := by
  refine CallsM.plain Tryz.func56 rfl rfl rfl (show Run _ _ _ (sky_vector_isNone_post r) _ _ _ from ?_)
  rw [sky_vector_isNone] at h
  have hH := Has.nil (frozen M)
  refine Run.seq (Run.region ?_)
  refine Run.opX wantS_none rfl (ExG.box rfl rfl hH) ?_
  rintro _ M23 ⟨b22, rfl, (hH23 : Has (ro (frozen M)) M23 [.obj b22 (.row 85 .whole [(.int .i64 a0.e0), (.int .i64 a0.e1), (.int .i64 a0.e2)])])⟩
  refine Run.opG wantS_none (ex_assign rfl) rfl ?_
  refine Run.opsEnd (Run.seq (Run.region ?_))
  refine Run.opG wantS_none (ex_loadA rfl (hH23.cells (i := 0) rfl 0 rfl) rdLe_rfl agg85 rfl rfl rfl) rfl ?_
  refine Run.opG wantS_none (ex_buildA (r := [(.int .i64 0), (.int .i64 0), (.int .i64 0)]) rfl zer85 pls85 rfl) rfl ?_
  refine Run.opG wantS_none (ex_eqlA rfl rfl aeq85 (eqA_ar agk85 (eqEs_cons (part_one agg3 rfl) (part_one agg3 rfl) (eqA_int agk3) (eqEs_cons (part_one agg3 rfl) (part_one agg3 rfl) (eqA_int agk3) (eqEs_cons (part_one agg3 rfl) (part_one agg3 rfl) (eqA_int agk3) eqEs_nil))))) rfl ?_
  refine Run.opG wantS_none (ex_assign rfl) rfl ?_
  refine Run.opsEnd ?_
  cases h
  exact Run.ret Tryz.func56 rfl (res_tmp rfl res_nil) rfl

theorem mkk56 : makeK Tryz.prog 56 = none := by kernel_rfl
theorem cal56 : callable Tryz.prog 56 = true := by kernel_rfl
abbrev sky_faceOf_post (r : Int) : SV → Mem → Prop := fun s _ => s = (.int .i64 r)

def sky_faceOf_2 (F : Nat) (hd1 : Int → Int → S__3_int → Int → Option (Int)) (v3 : Int) (v4 : Int) (v7 : S__3_int) (v8 : Int) : Option (Int) :=
  hd1 v3 v4 v7 (w64 (v8 + (1 : Int)))

theorem sky_faceOf_2_ok (F : Nat) (hd1 : Int → Int → S__3_int → Int → Option (Int)) (hhd1 : ∀ (v3 : Int) (v4 : Int) (v7 : S__3_int) (v8 : Int) (Fr : Rd) (M : Mem) (r : Int) (hH : Has Fr M []), hd1 v3 v4 v7 v8 = some r → Run Tryz.prog ⟨⟨109, [], none⟩, []⟩ 29 (sky_faceOf_post r) [(3, (.int .i64 v3)), (4, (.int .i64 v4)), (7, (.agg [(.int .i64 v7.e0), (.int .i64 v7.e1), (.int .i64 v7.e2)])), (8, (.int .i64 v8))] [codeC Tryz.prog 109 [1, 1, 0, 1, 0, 0], loopC Tryz.prog 109 [1, 1, 0, 1, 0, 0], .inBlock 0, codeC Tryz.prog 109 [1, 1, 1]] M) : ∀ (v3 : Int) (v4 : Int) (v7 : S__3_int) (v8 : Int) (Fr : Rd) (M : Mem) (r : Int) (hH : Has Fr M []), sky_faceOf_2 F hd1 v3 v4 v7 v8 = some r → Run Tryz.prog ⟨⟨109, [], none⟩, []⟩ 29 (sky_faceOf_post r) [(3, (.int .i64 v3)), (4, (.int .i64 v4)), (7, (.agg [(.int .i64 v7.e0), (.int .i64 v7.e1), (.int .i64 v7.e2)])), (8, (.int .i64 v8))] [itemC Tryz.prog 109 [1, 1, 0, 1, 0, 0, 1, 1, 1] 0, loopC Tryz.prog 109 [1, 1, 0, 1, 0, 0], .inBlock 0, codeC Tryz.prog 109 [1, 1, 1]] M := by
  intro v3 v4 v7 v8 Fr M r hH h
  rw [sky_faceOf_2] at h
  refine Run.opG wantS_none (ex_add rfl rfl) rfl ?_
  refine Run.opG wantS_none (ex_move rfl) rfl ?_
  refine Run.opsEnd (Run.inLoop ?_)
  exact Run.pick [3, 4, 7, 8] (hhd1 v3 v4 v7 (w64 (v8 + (1 : Int))) _ _ _ hH h)

def sky_faceOf_1 (F : Nat) : Nat → Int → Int → S__3_int → Int → Option (Int)
  | 0, _, _, _, _ => none
  | N + 1, v3, v4, v7, v8 =>
    bif (decide (v8 < (3 : Int))) then
      bnd (inA v8 3) fun o26 =>
      bif (decide (v4 < (get85 v7 o26))) then
        sky_faceOf_2 F (sky_faceOf_1 F N) (w64 ((2 : Int) * v8)) (get85 v7 o26) v7 v8
      else
        bif (decide (v4 < (w64 (-(get85 v7 o26))))) then
          sky_faceOf_2 F (sky_faceOf_1 F N) (w64 ((w64 ((2 : Int) * v8)) + (1 : Int))) (w64 (-(get85 v7 o26))) v7 v8
        else
          sky_faceOf_2 F (sky_faceOf_1 F N) v3 v4 v7 v8
    else
      some v3

theorem sky_faceOf_1_ok (F : Nat) : ∀ (N : Nat), ∀ (v3 : Int) (v4 : Int) (v7 : S__3_int) (v8 : Int) (Fr : Rd) (M : Mem) (r : Int) (hH : Has Fr M []), sky_faceOf_1 F N v3 v4 v7 v8 = some r → Run Tryz.prog ⟨⟨109, [], none⟩, []⟩ 29 (sky_faceOf_post r) [(3, (.int .i64 v3)), (4, (.int .i64 v4)), (7, (.agg [(.int .i64 v7.e0), (.int .i64 v7.e1), (.int .i64 v7.e2)])), (8, (.int .i64 v8))] [codeC Tryz.prog 109 [1, 1, 0, 1, 0, 0], loopC Tryz.prog 109 [1, 1, 0, 1, 0, 0], .inBlock 0, codeC Tryz.prog 109 [1, 1, 1]] M := by
  intro N
  induction N with
  | zero =>
    intro v3 v4 v7 v8 Fr M r hH h
    simp [sky_faceOf_1] at h
  | succ N ih =>
    intro v3 v4 v7 v8 Fr M r hH h
    rw [sky_faceOf_1] at h
    refine Run.seq (Run.region ?_)
    refine Run.opG wantS_none (ex_lss rfl rfl) rfl ?_
    refine Run.opsEnd (Run.seq ?_)
    rcases btf ((decide (v8 < (3 : Int)))) with hc24 | hc24
    · have h := bif_t hc24 h
      refine Run.condT' rfl hc24 ?_
      refine Run.skip (Run.seq (Run.block (Run.seq (Run.region ?_))))
      refine Run.opG wantS_none (ex_move rfl) rfl ?_
      obtain ⟨o26, ho26, h⟩ := bnd_some h
      refine Run.opG wantS_none (ex_idxA rfl rfl wha85 (inA_natIn ho26) (part_at agg3 (get85_cell v7 o26 (inA_lt ho26)))) rfl ?_
      refine Run.opG wantS_none (ex_assign rfl) rfl ?_
      refine Run.opG wantS_none (ex_assign rfl) rfl ?_
      refine Run.opsEnd (Run.seq (Run.region ?_))
      refine Run.opG wantS_none (ex_move rfl) rfl ?_
      refine Run.opG wantS_none (ex_move rfl) rfl ?_
      refine Run.opG wantS_none (ex_gtr rfl rfl) rfl ?_
      refine Run.opsEnd ?_
      rcases btf ((decide (v4 < (get85 v7 o26)))) with hc27 | hc27
      · have h := bif_t hc27 h
        refine Run.condT' rfl hc27 ?_
        refine Run.region ?_
        refine Run.opG wantS_none (ex_move rfl) rfl ?_
        refine Run.opG wantS_none (ex_mul rfl rfl) rfl ?_
        refine Run.opG wantS_none (ex_move rfl) rfl ?_
        refine Run.opG wantS_none (ex_assign rfl) rfl ?_
        refine Run.opG wantS_none (ex_assign rfl) rfl ?_
        refine Run.opsEnd (Run.inBlock (Run.region ?_))
        exact Run.pick [3, 4, 7, 8] (sky_faceOf_2_ok F (sky_faceOf_1 F N) ih (w64 ((2 : Int) * v8)) (get85 v7 o26) v7 v8 _ _ _ hH h)
      · have h := bif_f hc27 h
        refine Run.condF' rfl hc27 ?_
        refine Run.seq (Run.region ?_)
        refine Run.opG wantS_none (ex_move rfl) rfl ?_
        refine Run.opG wantS_none (ex_neg rfl) rfl ?_
        refine Run.opG wantS_none (ex_move rfl) rfl ?_
        refine Run.opG wantS_none (ex_gtr rfl rfl) rfl ?_
        refine Run.opsEnd ?_
        rcases btf ((decide (v4 < (w64 (-(get85 v7 o26)))))) with hc28 | hc28
        · have h := bif_t hc28 h
          refine Run.condT' rfl hc28 ?_
          refine Run.region ?_
          refine Run.opG wantS_none (ex_move rfl) rfl ?_
          refine Run.opG wantS_none (ex_mul rfl rfl) rfl ?_
          refine Run.opG wantS_none (ex_add rfl rfl) rfl ?_
          refine Run.opG wantS_none (ex_move rfl) rfl ?_
          refine Run.opG wantS_none (ex_neg rfl) rfl ?_
          refine Run.opG wantS_none (ex_assign rfl) rfl ?_
          refine Run.opG wantS_none (ex_assign rfl) rfl ?_
          refine Run.opsEnd (Run.inBlock (Run.region ?_))
          exact Run.pick [3, 4, 7, 8] (sky_faceOf_2_ok F (sky_faceOf_1 F N) ih (w64 ((w64 ((2 : Int) * v8)) + (1 : Int))) (w64 (-(get85 v7 o26))) v7 v8 _ _ _ hH h)
        · have h := bif_f hc28 h
          refine Run.condF' rfl hc28 ?_
          refine Run.skip (Run.inBlock (Run.region ?_))
          exact Run.pick [3, 4, 7, 8] (sky_faceOf_2_ok F (sky_faceOf_1 F N) ih v3 v4 v7 v8 _ _ _ hH h)
    · have h := bif_f hc24 h
      refine Run.condF' rfl hc24 ?_
      refine Run.exit rfl (Run.seq (Run.region ?_))
      refine Run.opG wantS_none (ex_move rfl) rfl ?_
      refine Run.opG wantS_none (ex_assign rfl) rfl ?_
      refine Run.opsEnd ?_
      cases h
      exact Run.ret Tryz.func109 rfl (res_tmp rfl res_nil) rfl

def sky_faceOf (F : Nat) (a0 : S__3_int) : Option (Int) :=
  sky_faceOf_1 F F (0 : Int) (0 : Int) a0 (0 : Int)

theorem sky_faceOf_ok (F : Nat) (a0 : S__3_int) (r : Int) (M : Mem) (h : sky_faceOf F a0 = some r) : CallsM Tryz.prog 109 [(.agg [(.int .i64 a0.e0), (.int .i64 a0.e1), (.int .i64 a0.e2)])] M (fun s M' => s = (.int .i64 r) ∧ M' = M) := by
  refine CallsM.plain Tryz.func109 rfl rfl rfl (show Run _ _ _ (sky_faceOf_post r) _ _ _ from ?_)
  rw [sky_faceOf] at h
  have hH := Has.nil (frozen M)
  refine Run.seq (Run.region ?_)
  refine Run.opX wantS_none rfl (ExG.box rfl rfl hH) ?_
  rintro _ M23 ⟨b22, rfl, (hH23 : Has (ro (frozen M)) M23 [.obj b22 (.row 85 .whole [(.int .i64 a0.e0), (.int .i64 a0.e1), (.int .i64 a0.e2)])])⟩
  refine Run.opG wantS_none (ex_assign rfl) rfl ?_
  refine Run.opsEnd (Run.seq (Run.region ?_))
  refine Run.opG wantS_none (ex_assign rfl) rfl ?_
  refine Run.opG wantS_none (ex_assign rfl) rfl ?_
  refine Run.opsEnd (Run.seq (Run.seq (Run.region ?_)))
  refine Run.opG wantS_none (ex_loadA rfl (hH23.cells (i := 0) rfl 0 rfl) rdLe_rfl agg85 rfl rfl rfl) rfl ?_
  refine Run.opG wantS_none (ex_move rfl) rfl ?_
  refine Run.opsEnd (Run.block (Run.loop ?_))
  exact Run.pick [3, 4, 7, 8] (sky_faceOf_1_ok F F (0 : Int) (0 : Int) a0 (0 : Int) _ _ _ (hH23.pick [] rfl rfl) h)

theorem mkk109 : makeK Tryz.prog 109 = none := by kernel_rfl
theorem cal109 : callable Tryz.prog 109 = true := by kernel_rfl
theorem latep57_1_1_1_0 : lateP Tryz.prog (opsC (atC Tryz.prog 57 [1, 1, 1, 0])) 11 [1, 2, 3, 4, 5, 6, 7, 8] = true := by kernel_rfl
theorem zer3 : zerosOf Tryz.prog 3 = some [(.int .i64 0)] := by kernel_rfl
theorem mkk110 : makeK Tryz.prog 110 = none := by kernel_rfl
theorem cal110 : callable Tryz.prog 110 = true := by kernel_rfl
theorem plan110_1_0 : planOf Tryz.prog (opsC (atC Tryz.prog 110 [1, 0])) = some [.fl 0, .fl 1, .fl 2, .fl 3, .fl 4, .fl 5, .fl 6, .fl 7, .fl 8, .fl 9, .fl 10, .fl 11, .sync] := by kernel_rfl
abbrev sky_grid_cellOf_1_h1_post (e_v0 : Int) (e_c34_0 : Int) (e_c32_0 : Int) (e_b34 : Pos) (e_b32 : Pos) (Fr0 : Rd) (Hr : List Ent) (r : Int) : SV → Mem → Prop := fun s Me => s = (.int .i64 r) ∧ Has Fr0 Me (([.obj e_b34 (.row 3 .whole [(.int .i64 e_c34_0)]), .obj e_b32 (.row 3 .whole [(.int .i64 e_c32_0)])] : List Ent) ++ Hr)

def sky_grid_cellOf_1_h1 (F : Nat) (e_v0 : Int) (e_c34_0 : Int) (e_c32_0 : Int) : Option (Int) :=
  bnd (nz (w64 ((2 : Int) * e_c34_0))) fun z35 =>
  some (min (w64 (Int.tdiv (w64 ((w64 (e_v0 + e_c34_0)) * e_c32_0)) (w64 ((2 : Int) * e_c34_0)))) (w64 (e_c32_0 - (1 : Int))))

theorem sky_grid_cellOf_1_h1_ok (F : Nat) : ∀ (e_v0 : Int) (e_c34_0 : Int) (e_c32_0 : Int) (e_b34 : Pos) (e_b32 : Pos) (Fr0 : Rd) (Hr : List Ent) (M : Mem) (r : Int) (hH : Has Fr0 M (([.obj e_b34 (.row 3 .whole [(.int .i64 e_c34_0)]), .obj e_b32 (.row 3 .whole [(.int .i64 e_c32_0)])] : List Ent) ++ Hr)) (h : sky_grid_cellOf_1_h1 F e_v0 e_c34_0 e_c32_0 = some r), CallsM Tryz.prog 110 [(.int .i64 e_v0), (.ptr e_b34 0), (.ptr e_b32 0)] M (sky_grid_cellOf_1_h1_post e_v0 e_c34_0 e_c32_0 e_b34 e_b32 Fr0 Hr r) := by
  intro e_v0 e_c34_0 e_c32_0 e_b34 e_b32 Fr0 Hr M r hH h
  refine CallsM.run Tryz.func110 rfl rfl (show Run _ _ _ (sky_grid_cellOf_1_h1_post e_v0 e_c34_0 e_c32_0 e_b34 e_b32 Fr0 Hr r) _ _ _ from ?_)
  rw [sky_grid_cellOf_1_h1] at h
  refine Run.seq (Run.region ?_)
  refine Run.opG wantS_none (ex_assign rfl) rfl ?_
  refine Run.opsEnd (Run.seq ?_)
  refine Run.drawG plan110_1_0 ?_
  refine DrawG.fl rfl (ev_ex wantS_none (ex_move rfl)) rfl ?_
  refine DrawG.fl rfl (ev_ex wantS_none (ex_load1 rfl (hH.cells (i := 0) rfl 0 rfl) rdLe_rfl agg3)) rfl ?_
  refine DrawG.fl rfl (ev_ex wantS_none (ex_add rfl rfl)) rfl ?_
  refine DrawG.fl rfl (ev_ex wantS_none (ex_load1 rfl (hH.cells (i := 1) rfl 0 rfl) rdLe_rfl agg3)) rfl ?_
  refine DrawG.fl rfl (ev_ex wantS_none (ex_mul rfl rfl)) rfl ?_
  refine DrawG.fl rfl (ev_ex wantS_none (ex_load1 rfl (hH.cells (i := 0) rfl 0 rfl) rdLe_rfl agg3)) rfl ?_
  refine DrawG.fl rfl (ev_ex wantS_none (ex_mul rfl rfl)) rfl ?_
  obtain ⟨z35, hz35, h⟩ := bnd_some h
  refine DrawG.fl rfl (ev_ex wantS_none (ex_quo' rfl rfl hz35)) rfl ?_
  refine DrawG.fl rfl (ev_ex wantS_none (ex_load1 rfl (hH.cells (i := 1) rfl 0 rfl) rdLe_rfl agg3)) rfl ?_
  refine DrawG.fl rfl (ev_ex wantS_none (ex_sub rfl rfl)) rfl ?_
  refine DrawG.fl rfl (ev_ex wantS_none (ex_min rfl rfl)) rfl ?_
  refine DrawG.fl rfl (ev_ex wantS_none (ex_assign rfl)) rfl ?_
  refine DrawG.sync ?_
  refine DrawG.nil ?_
  cases h
  exact Run.ret Tryz.func110 rfl (res_tmp rfl res_nil) ⟨rfl, (hH.pickT [0, 1] rfl rfl).upF (fun b c hb => hH.base b c hb)⟩

theorem plan57_1_1_1_1_1_0 : planOf Tryz.prog (opsC (atC Tryz.prog 57 [1, 1, 1, 1, 1, 0])) = some [.fl 0, .fl 1, .fl 2, .fl 3, .fl 4, .fl 5, .fl 6, .fl 9, .fl 11, .fl 12, .fl 13, .fl 14, .an 7 [14, 13, 12, 11, 9, 2, 1, 0], .fl 8, .fl 10, .an 15 [10, 8, 9, 2, 1, 0], .fl 16, .fl 17, .sync] := by kernel_rfl
abbrev sky_grid_cellOf_post (r : Int) : SV → Mem → Prop := fun s _ => s = (.int .i64 r)

def sky_grid_cellOf (F : Nat) (a0 : Int) (a1 : S__3_int) : Option (Int) :=
  bnd (sky_faceOf F a1) fun r25 =>
  bnd (sky_axes F r25) fun r28 =>
  bnd (inA r28.1 3) fun o30 =>
  bnd (inA r28.1 3) fun o31 =>
  bnd (inA r28.2.1 3) fun o38 =>
  bnd (inA r28.2.2 3) fun o39 =>
  bnd (sky_grid_cellOf_1_h1 F (get85 a1 o38) (max (get85 a1 o30) (w64 (-(get85 a1 o31)))) a0) fun r40 =>
  bnd (sky_grid_cellOf_1_h1 F (get85 a1 o39) (max (get85 a1 o30) (w64 (-(get85 a1 o31)))) a0) fun r42 =>
  some (w64 ((w64 ((w64 ((w64 (r25 * a0)) + r40)) * a0)) + r42))

theorem sky_grid_cellOf_ok (F : Nat) (a0 : Int) (a1 : S__3_int) (r : Int) (M : Mem) (h : sky_grid_cellOf F a0 a1 = some r) : CallsM Tryz.prog 57 [(.int .i64 a0), (.agg [(.int .i64 a1.e0), (.int .i64 a1.e1), (.int .i64 a1.e2)])] M (fun s M' => s = (.int .i64 r) ∧ M' = M) := by
  refine CallsM.plain Tryz.func57 rfl rfl rfl (show Run _ _ _ (sky_grid_cellOf_post r) _ _ _ from ?_)
  rw [sky_grid_cellOf] at h
  have hH := Has.nil (frozen M)
  refine Run.seq (Run.region ?_)
  refine Run.opX wantS_none rfl (ExG.box rfl rfl hH) ?_
  rintro _ M23 ⟨b22, rfl, (hH23 : Has (ro (frozen M)) M23 [.obj b22 (.row 85 .whole [(.int .i64 a1.e0), (.int .i64 a1.e1), (.int .i64 a1.e2)])])⟩
  refine Run.opG wantS_none (ex_assign rfl) rfl ?_
  refine Run.opsEnd (Run.seq (Run.region ?_))
  refine Run.opG wantS_none (ex_loadA rfl (hH23.cells (i := 0) rfl 0 rfl) rdLe_rfl agg85 rfl rfl rfl) rfl ?_
  obtain ⟨r25, hr25, h⟩ := bnd_some h
  refine Run.callP wantS_none (ex_call rfl mkk109 cal109) rfl (sky_faceOf_ok F a1 _ _ hr25) ?_
  refine Run.opG wantS_none (ex_assign rfl) rfl ?_
  refine Run.opsEnd (Run.seq (Run.region ?_))
  refine Run.opG wantS_none (ex_move rfl) rfl ?_
  obtain ⟨r28, hr28, h⟩ := bnd_some h
  refine Run.callP wantS_none (ex_call rfl mkk107 cal107) rfl (sky_axes_ok F r25 _ _ hr28) ?_
  refine Run.opG wantS_none (ex_move rfl) rfl ?_
  refine Run.opG wantS_none (ex_extract rfl rfl) rfl ?_
  refine Run.opG wantS_none (ex_extract rfl rfl) rfl ?_
  refine Run.opG wantS_none (ex_extract rfl rfl) rfl ?_
  refine Run.opG wantS_none (ex_assign rfl) rfl ?_
  refine Run.opG wantS_none (ex_assign rfl) rfl ?_
  refine Run.opG wantS_none (ex_assign rfl) rfl ?_
  refine Run.opsEnd (Run.seq ?_)
  refine Run.lateG latep57_1_1_1_0 rfl rfl ?_
  refine PureK.val wantS_none (ex_move rfl) rfl ?_
  refine PureK.val wantS_none (ex_move rfl) rfl ?_
  obtain ⟨o30, ho30, h⟩ := bnd_some h
  refine PureK.val wantS_none (ex_elX rfl rfl (arr_place (inA_natIn ho30) els85)) rfl ?_
  refine PureK.val wantS_none (ex_load1 rfl (hH23.cellV (off := 0) (cs := enc85 a1) (i := 0) rfl rfl (get85_cell a1 o30 (inA_lt ho30))) rdLe_rfl agg3) rfl ?_
  refine PureK.val wantS_none (ex_move rfl) rfl ?_
  obtain ⟨o31, ho31, h⟩ := bnd_some h
  refine PureK.val wantS_none (ex_elX rfl rfl (arr_place (inA_natIn ho31) els85)) rfl ?_
  refine PureK.val wantS_none (ex_load1 rfl (hH23.cellV (off := 0) (cs := enc85 a1) (i := 0) rfl rfl (get85_cell a1 o31 (inA_lt ho31))) rdLe_rfl agg3) rfl ?_
  refine PureK.val wantS_none (ex_neg rfl) rfl ?_
  refine PureK.val wantS_none (ex_max rfl rfl) rfl ?_
  refine PureK.new (v := fun b => .ptr b 0) wantS_none (ex_alloc zer3) rfl hH23 ?_
  intro b32 M33 (hH33 : Has (ro (frozen M)) M33 [.obj b32 (.row 3 .whole [(.int .i64 0)]), .obj b22 (.row 85 .whole [(.int .i64 a1.e0), (.int .i64 a1.e1), (.int .i64 a1.e2)])])
  refine PureK.new (v := fun b => .ptr b 0) wantS_none (ex_alloc zer3) rfl hH33 ?_
  intro b34 M35 (hH35 : Has (ro (frozen M)) M35 [.obj b34 (.row 3 .whole [(.int .i64 0)]), .obj b32 (.row 3 .whole [(.int .i64 0)]), .obj b22 (.row 85 .whole [(.int .i64 a1.e0), (.int .i64 a1.e1), (.int .i64 a1.e2)])])
  refine PureK.nil ⟨(st_cons rfl (ev_ex wantS_none (ex_move rfl)) rfl rfl rfl (st_cons rfl (ev_ex wantS_none (ex_elX rfl rfl (arr_place (inA_natIn ho30) els85))) rfl rfl rfl (st_cons rfl (ev_ex wantS_none (ex_load1 rfl (hH35.cellV (off := 0) (cs := enc85 a1) (i := 2) rfl rfl (get85_cell a1 o30 (inA_lt ho30))) rdLe_rfl agg3)) rfl rfl rfl (st_cons rfl (ev_ex wantS_none (ex_move rfl)) rfl rfl rfl (st_cons rfl (ev_ex wantS_none (ex_elX rfl rfl (arr_place (inA_natIn ho31) els85))) rfl rfl rfl (st_cons rfl (ev_ex wantS_none (ex_load1 rfl (hH35.cellV (off := 0) (cs := enc85 a1) (i := 2) rfl rfl (get85_cell a1 o31 (inA_lt ho31))) rdLe_rfl agg3)) rfl rfl rfl (st_cons rfl (ev_ex wantS_none (ex_neg rfl)) rfl rfl rfl (st_cons rfl (ev_ex wantS_none (ex_max rfl rfl)) rfl rfl rfl st_nil)))))))), ?_⟩
  refine SeqLG.opX wantS_none rfl (ExG.storeC (c' := [(.int .i64 a0)]) rfl rfl rfl hH35 (i := 1) rfl sz3 rfl rfl rfl rfl rfl) ?_
  rintro _ M36 ⟨rfl, (hH36 : Has (ro (frozen M)) M36 [.obj b34 (.row 3 .whole [(.int .i64 0)]), .obj b32 (.row 3 .whole [(.int .i64 a0)]), .obj b22 (.row 85 .whole [(.int .i64 a1.e0), (.int .i64 a1.e1), (.int .i64 a1.e2)])])⟩
  refine ⟨(st_cons rfl (ev_ex wantS_none (ex_move rfl)) rfl rfl rfl (st_cons rfl (ev_ex wantS_none (ex_elX rfl rfl (arr_place (inA_natIn ho30) els85))) rfl rfl rfl (st_cons rfl (ev_ex wantS_none (ex_load1 rfl (hH36.cellV (off := 0) (cs := enc85 a1) (i := 2) rfl rfl (get85_cell a1 o30 (inA_lt ho30))) rdLe_rfl agg3)) rfl rfl rfl (st_cons rfl (ev_ex wantS_none (ex_move rfl)) rfl rfl rfl (st_cons rfl (ev_ex wantS_none (ex_elX rfl rfl (arr_place (inA_natIn ho31) els85))) rfl rfl rfl (st_cons rfl (ev_ex wantS_none (ex_load1 rfl (hH36.cellV (off := 0) (cs := enc85 a1) (i := 2) rfl rfl (get85_cell a1 o31 (inA_lt ho31))) rdLe_rfl agg3)) rfl rfl rfl (st_cons rfl (ev_ex wantS_none (ex_neg rfl)) rfl rfl rfl (st_cons rfl (ev_ex wantS_none (ex_max rfl rfl)) rfl rfl rfl st_nil)))))))), ?_⟩
  refine SeqLG.opX wantS_none rfl (ExG.storeC (c' := [(.int .i64 (max (get85 a1 o30) (w64 (-(get85 a1 o31)))))]) rfl rfl rfl hH36 (i := 0) rfl sz3 rfl rfl rfl rfl rfl) ?_
  rintro _ M37 ⟨rfl, (hH37 : Has (ro (frozen M)) M37 [.obj b34 (.row 3 .whole [(.int .i64 (max (get85 a1 o30) (w64 (-(get85 a1 o31)))))]), .obj b32 (.row 3 .whole [(.int .i64 a0)]), .obj b22 (.row 85 .whole [(.int .i64 a1.e0), (.int .i64 a1.e1), (.int .i64 a1.e2)])])⟩
  refine ⟨(st_cons rfl (ev_ex wantS_none (ex_move rfl)) rfl rfl rfl (st_cons rfl (ev_ex wantS_none (ex_elX rfl rfl (arr_place (inA_natIn ho30) els85))) rfl rfl rfl (st_cons rfl (ev_ex wantS_none (ex_load1 rfl (hH37.cellV (off := 0) (cs := enc85 a1) (i := 2) rfl rfl (get85_cell a1 o30 (inA_lt ho30))) rdLe_rfl agg3)) rfl rfl rfl (st_cons rfl (ev_ex wantS_none (ex_move rfl)) rfl rfl rfl (st_cons rfl (ev_ex wantS_none (ex_elX rfl rfl (arr_place (inA_natIn ho31) els85))) rfl rfl rfl (st_cons rfl (ev_ex wantS_none (ex_load1 rfl (hH37.cellV (off := 0) (cs := enc85 a1) (i := 2) rfl rfl (get85_cell a1 o31 (inA_lt ho31))) rdLe_rfl agg3)) rfl rfl rfl (st_cons rfl (ev_ex wantS_none (ex_neg rfl)) rfl rfl rfl (st_cons rfl (ev_ex wantS_none (ex_max rfl rfl)) rfl rfl rfl st_nil)))))))), ?_⟩
  refine SeqLG.nil ?_
  refine Run.seq (Run.region ?_)
  refine Run.opG wantS_none (ex_makeFunc rfl rfl) rfl ?_
  refine Run.opG wantS_none (ex_assign rfl) rfl ?_
  refine Run.opsEnd (Run.seq ?_)
  refine Run.drawG plan57_1_1_1_1_1_0 ?_
  refine DrawG.fl rfl (ev_ex wantS_none (ex_move rfl)) rfl ?_
  refine DrawG.fl rfl (ev_ex wantS_none (ex_load1 rfl (hH37.cells (i := 1) rfl 0 rfl) rdLe_rfl agg3)) rfl ?_
  refine DrawG.fl rfl (ev_ex wantS_none (ex_mul rfl rfl)) rfl ?_
  refine DrawG.fl rfl (ev_ex wantS_none (ex_move rfl)) rfl ?_
  refine DrawG.fl rfl (ev_ex wantS_none (ex_move rfl)) rfl ?_
  obtain ⟨o38, ho38, h⟩ := bnd_some h
  refine DrawG.fl rfl (ev_ex wantS_none (ex_elX rfl rfl (arr_place (inA_natIn ho38) els85))) rfl ?_
  refine DrawG.fl rfl (ev_ex wantS_none (ex_load1 rfl (hH37.cellV (off := 0) (cs := enc85 a1) (i := 2) rfl rfl (get85_cell a1 o38 (inA_lt ho38))) rdLe_rfl agg3)) rfl ?_
  refine DrawG.fl rfl (ev_ex wantS_none (ex_load1 rfl (hH37.cells (i := 1) rfl 0 rfl) rdLe_rfl agg3)) rfl ?_
  refine DrawG.fl rfl (ev_ex wantS_none (ex_move rfl)) rfl ?_
  refine DrawG.fl rfl (ev_ex wantS_none (ex_move rfl)) rfl ?_
  obtain ⟨o39, ho39, h⟩ := bnd_some h
  refine DrawG.fl rfl (ev_ex wantS_none (ex_elX rfl rfl (arr_place (inA_natIn ho39) els85))) rfl ?_
  refine DrawG.fl rfl (ev_ex wantS_none (ex_load1 rfl (hH37.cellV (off := 0) (cs := enc85 a1) (i := 2) rfl rfl (get85_cell a1 o39 (inA_lt ho39))) rdLe_rfl agg3)) rfl ?_
  obtain ⟨r40, hr40, h⟩ := bnd_some h
  refine DrawG.call rfl wantS_none (ex_closure rfl rfl mkk110 cal110) rfl (sky_grid_cellOf_1_h1_ok F (get85 a1 o38) (max (get85 a1 o30) (w64 (-(get85 a1 o31)))) a0 b34 b32 (ro (frozen M)) [.obj b22 (.row 85 .whole [(.int .i64 a1.e0), (.int .i64 a1.e1), (.int .i64 a1.e2)])] _ _ hH37 hr40) ?_
  rintro _ M41 ⟨rfl, (hH41 : Has (ro (frozen M)) M41 [.obj b34 (.row 3 .whole [(.int .i64 (max (get85 a1 o30) (w64 (-(get85 a1 o31)))))]), .obj b32 (.row 3 .whole [(.int .i64 a0)]), .obj b22 (.row 85 .whole [(.int .i64 a1.e0), (.int .i64 a1.e1), (.int .i64 a1.e2)])])⟩
  refine ⟨(st_cons rfl (ev_ex wantS_none (ex_load1 rfl (hH41.cellV (off := 0) (cs := enc85 a1) (i := 2) rfl rfl (get85_cell a1 o39 (inA_lt ho39))) rdLe_rfl agg3)) rfl rfl rfl (st_cons rfl (ev_ex wantS_none (ex_elX rfl rfl (arr_place (inA_natIn ho39) els85))) rfl rfl rfl (st_cons rfl (ev_ex wantS_none (ex_move rfl)) rfl rfl rfl (st_cons rfl (ev_ex wantS_none (ex_move rfl)) rfl rfl rfl (st_cons rfl (ev_ex wantS_none (ex_load1 rfl (hH41.cells (i := 1) rfl 0 rfl) rdLe_rfl agg3)) rfl rfl rfl (st_cons rfl (ev_ex wantS_none (ex_mul rfl rfl)) rfl rfl rfl (st_cons rfl (ev_ex wantS_none (ex_load1 rfl (hH41.cells (i := 1) rfl 0 rfl) rdLe_rfl agg3)) rfl rfl rfl (st_cons rfl (ev_ex wantS_none (ex_move rfl)) rfl rfl rfl st_nil)))))))), ?_⟩
  refine DrawG.fl rfl (ev_ex wantS_none (ex_add rfl rfl)) rfl ?_
  refine DrawG.fl rfl (ev_ex wantS_none (ex_mul rfl rfl)) rfl ?_
  obtain ⟨r42, hr42, h⟩ := bnd_some h
  refine DrawG.call rfl wantS_none (ex_closure rfl rfl mkk110 cal110) rfl (sky_grid_cellOf_1_h1_ok F (get85 a1 o39) (max (get85 a1 o30) (w64 (-(get85 a1 o31)))) a0 b34 b32 (ro (frozen M)) [.obj b22 (.row 85 .whole [(.int .i64 a1.e0), (.int .i64 a1.e1), (.int .i64 a1.e2)])] _ _ hH41 hr42) ?_
  rintro _ M43 ⟨rfl, (hH43 : Has (ro (frozen M)) M43 [.obj b34 (.row 3 .whole [(.int .i64 (max (get85 a1 o30) (w64 (-(get85 a1 o31)))))]), .obj b32 (.row 3 .whole [(.int .i64 a0)]), .obj b22 (.row 85 .whole [(.int .i64 a1.e0), (.int .i64 a1.e1), (.int .i64 a1.e2)])])⟩
  refine ⟨(st_cons rfl (ev_ex wantS_none (ex_mul rfl rfl)) rfl rfl rfl (st_cons rfl (ev_ex wantS_none (ex_add rfl rfl)) rfl rfl rfl (st_cons rfl (ev_ex wantS_none (ex_load1 rfl (hH43.cells (i := 1) rfl 0 rfl) rdLe_rfl agg3)) rfl rfl rfl (st_cons rfl (ev_ex wantS_none (ex_mul rfl rfl)) rfl rfl rfl (st_cons rfl (ev_ex wantS_none (ex_load1 rfl (hH43.cells (i := 1) rfl 0 rfl) rdLe_rfl agg3)) rfl rfl rfl (st_cons rfl (ev_ex wantS_none (ex_move rfl)) rfl rfl rfl st_nil)))))), ?_⟩
  refine DrawG.fl rfl (ev_ex wantS_none (ex_add rfl rfl)) rfl ?_
  refine DrawG.fl rfl (ev_ex wantS_none (ex_assign rfl)) rfl ?_
  refine DrawG.sync ?_
  refine DrawG.nil ?_
  cases h
  exact Run.ret Tryz.func57 rfl (res_tmp rfl res_nil) rfl

theorem mkk57 : makeK Tryz.prog 57 = none := by kernel_rfl
theorem cal57 : callable Tryz.prog 57 = true := by kernel_rfl
abbrev sky_CellOf_post (r : Int × Int) : SV → Mem → Prop := fun s _ => s = (.tuple [(.int .i64 r.1), (.int .i64 r.2)])

def sky_CellOf (F : Nat) (a0 : Int) (a1 : S__3_int) : Option (Int × Int) :=
  bnd (sky_checkGrid F a0) fun r25 =>
  bif (!(r25 == (0 : Int))) then
    some ((0 : Int), r25)
  else
    bnd (sky_isVector F a1) fun r29 =>
    bif (!r29) then
      some ((0 : Int), (8 : Int))
    else
      bnd (sky_vector_isNone F a1) fun r33 =>
      bif r33 then
        some ((0 : Int), (4 : Int))
      else
        bnd (sky_grid_cellOf F a0 a1) fun r37 =>
        some (r37, (0 : Int))

theorem sky_CellOf_ok (F : Nat) (a0 : Int) (a1 : S__3_int) (r : Int × Int) (M : Mem) (h : sky_CellOf F a0 a1 = some r) : CallsM Tryz.prog 16 [(.int .i64 a0), (.agg [(.int .i64 a1.e0), (.int .i64 a1.e1), (.int .i64 a1.e2)])] M (fun s M' => s = (.tuple [(.int .i64 r.1), (.int .i64 r.2)]) ∧ M' = M) := by
  refine CallsM.plain Tryz.func16 rfl rfl rfl (show Run _ _ _ (sky_CellOf_post r) _ _ _ from ?_)
  rw [sky_CellOf] at h
  have hH := Has.nil (frozen M)
  refine Run.seq (Run.region ?_)
  refine Run.opX wantS_none rfl (ExG.box rfl rfl hH) ?_
  rintro _ M23 ⟨b22, rfl, (hH23 : Has (ro (frozen M)) M23 [.obj b22 (.row 22 .whole [(.int .i64 a1.e0), (.int .i64 a1.e1), (.int .i64 a1.e2)])])⟩
  refine Run.opG wantS_none (ex_assign rfl) rfl ?_
  refine Run.opG wantS_none (ex_assign rfl) rfl ?_
  refine Run.opsEnd (Run.seq (Run.seq (Run.region ?_)))
  refine Run.opG wantS_none (ex_move rfl) rfl ?_
  obtain ⟨r25, hr25, h⟩ := bnd_some h
  refine Run.callP wantS_none (ex_call rfl mkk48 cal48) rfl (sky_checkGrid_ok F a0 _ _ hr25) ?_
  refine Run.opG wantS_none (ex_assign rfl) rfl ?_
  refine Run.opsEnd (Run.block (Run.seq (Run.region ?_)))
  refine Run.opG wantS_none (ex_move rfl) rfl ?_
  refine Run.opG wantS_none (ex_neq rfl rfl) rfl ?_
  refine Run.opG wantS_none (ex_assign rfl) rfl ?_
  refine Run.opsEnd ?_
  rcases btf ((!(r25 == (0 : Int)))) with hc27 | hc27
  · have h := bif_t hc27 h
    refine Run.condT' rfl hc27 ?_
    refine Run.seq (Run.region ?_)
    refine Run.opG wantS_none (ex_move rfl) rfl ?_
    refine Run.opG wantS_none (ex_assign rfl) rfl ?_
    refine Run.opG wantS_none (ex_assign rfl) rfl ?_
    refine Run.opsEnd ?_
    cases h
    exact Run.ret Tryz.func16 rfl (res_tmp rfl (res_tmp rfl res_nil)) rfl
  · have h := bif_f hc27 h
    refine Run.condF' rfl hc27 ?_
    refine Run.seq (Run.region ?_)
    refine Run.opG wantS_none (ex_loadA rfl (hH23.cells (i := 0) rfl 0 rfl) rdLe_rfl agg22 rfl rfl rfl) rfl ?_
    obtain ⟨r29, hr29, h⟩ := bnd_some h
    refine Run.callP wantS_none (ex_call rfl mkk55 cal55) rfl (sky_isVector_ok F a1 _ _ hr29) ?_
    refine Run.opG wantS_none (ex_not rfl) rfl ?_
    refine Run.opG wantS_none (ex_assign rfl) rfl ?_
    refine Run.opsEnd ?_
    rcases btf ((!r29)) with hc31 | hc31
    · have h := bif_t hc31 h
      refine Run.condT' rfl hc31 ?_
      refine Run.seq (Run.region ?_)
      refine Run.opG wantS_none (ex_assign rfl) rfl ?_
      refine Run.opG wantS_none (ex_assign rfl) rfl ?_
      refine Run.opsEnd ?_
      cases h
      exact Run.ret Tryz.func16 rfl (res_tmp rfl (res_tmp rfl res_nil)) rfl
    · have h := bif_f hc31 h
      refine Run.condF' rfl hc31 ?_
      refine Run.seq (Run.region ?_)
      refine Run.opG wantS_none (ex_loadA rfl (hH23.cells (i := 0) rfl 0 rfl) rdLe_rfl agg22 rfl rfl rfl) rfl ?_
      obtain ⟨r33, hr33, h⟩ := bnd_some h
      refine Run.callP wantS_none (ex_call rfl mkk56 cal56) rfl (sky_vector_isNone_ok F a1 _ _ hr33) ?_
      refine Run.opG wantS_none (ex_assign rfl) rfl ?_
      refine Run.opsEnd ?_
      rcases btf (r33) with hc35 | hc35
      · have h := bif_t hc35 h
        refine Run.condT' rfl hc35 ?_
        refine Run.seq (Run.region ?_)
        refine Run.opG wantS_none (ex_assign rfl) rfl ?_
        refine Run.opG wantS_none (ex_assign rfl) rfl ?_
        refine Run.opsEnd ?_
        cases h
        exact Run.ret Tryz.func16 rfl (res_tmp rfl (res_tmp rfl res_nil)) rfl
      · have h := bif_f hc35 h
        refine Run.condF' rfl hc35 ?_
        refine Run.skip (Run.inBlock (Run.seq (Run.region ?_)))
        refine Run.opG wantS_none (ex_move rfl) rfl ?_
        refine Run.opG wantS_none (ex_loadA rfl (hH23.cells (i := 0) rfl 0 rfl) rdLe_rfl agg22 rfl rfl rfl) rfl ?_
        obtain ⟨r37, hr37, h⟩ := bnd_some h
        refine Run.callP wantS_none (ex_call rfl mkk57 cal57) rfl (sky_grid_cellOf_ok F a0 a1 _ _ hr37) ?_
        refine Run.opG wantS_none (ex_assign rfl) rfl ?_
        refine Run.opG wantS_none (ex_assign rfl) rfl ?_
        refine Run.opsEnd ?_
        cases h
        exact Run.ret Tryz.func16 rfl (res_tmp rfl (res_tmp rfl res_nil)) rfl

theorem mkk16 : makeK Tryz.prog 16 = none := by kernel_rfl
theorem cal16 : callable Tryz.prog 16 = true := by kernel_rfl
theorem mkk18 : makeK Tryz.prog 18 = none := by kernel_rfl
theorem cal18 : callable Tryz.prog 18 = true := by kernel_rfl
abbrev sky_Cells_post (r : Int × Int) : SV → Mem → Prop := fun s _ => s = (.tuple [(.int .i64 r.1), (.int .i64 r.2)])

def sky_Cells (F : Nat) (a0 : Int) : Option (Int × Int) :=
  bnd (sky_checkGrid F a0) fun r22 =>
  bif (!(r22 == (0 : Int))) then
    some ((0 : Int), r22)
  else
    bnd (sky_grid_cells F a0) fun r26 =>
    some (r26, (0 : Int))

theorem sky_Cells_ok (F : Nat) (a0 : Int) (r : Int × Int) (M : Mem) (h : sky_Cells F a0 = some r) : CallsM Tryz.prog 12 [(.int .i64 a0)] M (fun s M' => s = (.tuple [(.int .i64 r.1), (.int .i64 r.2)]) ∧ M' = M) := by
  refine CallsM.plain Tryz.func12 rfl rfl rfl (show Run _ _ _ (sky_Cells_post r) _ _ _ from ?_)
  rw [sky_Cells] at h
  have hH := Has.nil (frozen M)
  refine Run.seq (Run.region ?_)
  refine Run.opG wantS_none (ex_assign rfl) rfl ?_
  refine Run.opG wantS_none (ex_assign rfl) rfl ?_
  refine Run.opsEnd (Run.seq (Run.seq (Run.region ?_)))
  refine Run.opG wantS_none (ex_move rfl) rfl ?_
  obtain ⟨r22, hr22, h⟩ := bnd_some h
  refine Run.callP wantS_none (ex_call rfl mkk48 cal48) rfl (sky_checkGrid_ok F a0 _ _ hr22) ?_
  refine Run.opG wantS_none (ex_assign rfl) rfl ?_
  refine Run.opsEnd (Run.seq (Run.region ?_))
  refine Run.opG wantS_none (ex_move rfl) rfl ?_
  refine Run.opG wantS_none (ex_neq rfl rfl) rfl ?_
  refine Run.opsEnd ?_
  rcases btf ((!(r22 == (0 : Int)))) with hc24 | hc24
  · have h := bif_t hc24 h
    refine Run.condT' rfl hc24 ?_
    refine Run.seq (Run.region ?_)
    refine Run.opG wantS_none (ex_move rfl) rfl ?_
    refine Run.opG wantS_none (ex_assign rfl) rfl ?_
    refine Run.opG wantS_none (ex_assign rfl) rfl ?_
    refine Run.opsEnd ?_
    cases h
    exact Run.ret Tryz.func12 rfl (res_tmp rfl (res_tmp rfl res_nil)) rfl
  · have h := bif_f hc24 h
    refine Run.condF' rfl hc24 ?_
    refine Run.skip (Run.seq (Run.region ?_))
    refine Run.opG wantS_none (ex_move rfl) rfl ?_
    obtain ⟨r26, hr26, h⟩ := bnd_some h
    refine Run.callP wantS_none (ex_call rfl mkk49 cal49) rfl (sky_grid_cells_ok F a0 _ _ hr26) ?_
    refine Run.opG wantS_none (ex_assign rfl) rfl ?_
    refine Run.opG wantS_none (ex_assign rfl) rfl ?_
    refine Run.opsEnd ?_
    cases h
    exact Run.ret Tryz.func12 rfl (res_tmp rfl (res_tmp rfl res_nil)) rfl

theorem mkk12 : makeK Tryz.prog 12 = none := by kernel_rfl
theorem cal12 : callable Tryz.prog 12 = true := by kernel_rfl
abbrev ref00_In_post (r : Bool) : SV → Mem → Prop := fun s _ => s = (.bool r)

def ref00_In_1 (F : Nat) (v14 : Bool) : Option (Bool) :=
  some v14

theorem ref00_In_1_ok (F : Nat) : ∀ (v14 : Bool) (Fr : Rd) (M : Mem) (r : Bool) (hH : Has Fr M []), ref00_In_1 F v14 = some r → Run Tryz.prog ⟨⟨36, [], none⟩, []⟩ 15 (ref00_In_post r) [(14, (.bool v14))] [itemC Tryz.prog 36 [1, 0] 8, codeC Tryz.prog 36 [1, 1]] M := by
  intro v14 Fr M r hH h
  rw [ref00_In_1] at h
  refine Run.opG wantS_none (ex_assign rfl) rfl ?_
  refine Run.opsEnd ?_
  cases h
  exact Run.ret Tryz.func36 rfl (res_tmp rfl res_nil) rfl

def ref00_In (F : Nat) (a0 : Int) (a1 : Int) (a2 : Int) : Option (Bool) :=
  bif (decide (a1 ≤ a0)) then
    ref00_In_1 F (decide (a0 ≤ a2))
  else
    ref00_In_1 F false

theorem ref00_In_ok (F : Nat) (a0 : Int) (a1 : Int) (a2 : Int) (r : Bool) (M : Mem) (h : ref00_In F a0 a1 a2 = some r) : CallsM Tryz.prog 36 [(.int .i64 a0), (.int .i64 a1), (.int .i64 a2)] M (fun s M' => s = (.bool r) ∧ M' = M) := by
  refine CallsM.plain Tryz.func36 rfl rfl rfl (show Run _ _ _ (ref00_In_post r) _ _ _ from ?_)
  rw [ref00_In] at h
  have hH := Has.nil (frozen M)
  refine Run.seq (Run.region ?_)
  refine Run.opG wantS_none (ex_assign rfl) rfl ?_
  refine Run.opsEnd (Run.seq (Run.region ?_))
  refine Run.opG wantS_none (ex_move rfl) rfl ?_
  refine Run.opG wantS_none (ex_move rfl) rfl ?_
  refine Run.opG wantS_none (ex_leq rfl rfl) rfl ?_
  refine Run.opG wantS_none (ex_move rfl) rfl ?_
  rcases btf ((decide (a1 ≤ a0))) with hc21 | hc21
  · have h := bif_t hc21 h
    refine Run.opG (wantS_yes' rfl rfl hc21) (ex_move rfl) rfl ?_
    refine Run.opG (wantS_yes' rfl rfl hc21) (ex_move rfl) rfl ?_
    refine Run.opG (wantS_yes' rfl rfl hc21) (ex_leq rfl rfl) rfl ?_
    refine Run.opG wantS_none (ex_pickT' rfl hc21 rfl rfl) rfl ?_
    exact Run.pick [14] (ref00_In_1_ok F (decide (a0 ≤ a2)) _ _ _ hH h)
  · have h := bif_f hc21 h
    refine Run.no (wantS_not' rfl rfl hc21) rfl ?_
    refine Run.no (wantS_not' rfl rfl hc21) rfl ?_
    refine Run.no (wantS_not' rfl rfl hc21) rfl ?_
    refine Run.opG wantS_none (ex_pickF' rfl hc21 rfl rfl) rfl ?_
    exact Run.pick [14] (ref00_In_1_ok F false _ _ _ hH h)

theorem mkk36 : makeK Tryz.prog 36 = none := by kernel_rfl
theorem cal36 : callable Tryz.prog 36 = true := by kernel_rfl
theorem plan7_1_0 : planOf Tryz.prog (opsC (atC Tryz.prog 7 [1, 0])) = some [.fl 0, .fl 1, .fl 2, .fl 3, .an 4 [1, 0], .fl 5, .fl 6, .fl 7, .sync] := by kernel_rfl
abbrev law09_SkyHome_post (r : Bool) : SV → Mem → Prop := fun s _ => s = (.bool r)

def law09_SkyHome_3 (F : Nat) (v67 : Bool) : Option (Bool) :=
  some v67

theorem law09_SkyHome_3_ok (F : Nat) : ∀ (v67 : Bool) (Fr : Rd) (M : Mem) (r : Bool) (hH : Has Fr M [tb0, tb1, tb2]), law09_SkyHome_3 F v67 = some r → Run Tryz.prog ⟨⟨7, [], none⟩, []⟩ 113 (law09_SkyHome_post r) [(67, (.bool v67))] [itemC Tryz.prog 7 [1, 1, 1, 1, 1, 0, 1, 0, 0] 5, codeC Tryz.prog 7 [1, 1, 1, 1, 1, 0, 1, 0, 1], codeC Tryz.prog 7 [1, 1, 1, 1, 1, 1]] M := by
  intro v67 Fr M r hH h
  rw [law09_SkyHome_3] at h
  refine Run.opG wantS_none (ex_assign rfl) rfl ?_
  refine Run.opsEnd ?_
  cases h
  exact Run.ret Tryz.func7 rfl (res_tmp rfl res_nil) rfl

def law09_SkyHome_6 (F : Nat) (v112 : Bool) : Option (Bool) :=
  some v112

theorem law09_SkyHome_6_ok (F : Nat) : ∀ (v112 : Bool) (Fr : Rd) (M : Mem) (r : Bool) (hH : Has Fr M [tb0, tb1, tb2]), law09_SkyHome_6 F v112 = some r → Run Tryz.prog ⟨⟨7, [], none⟩, []⟩ 113 (law09_SkyHome_post r) [(112, (.bool v112))] [itemC Tryz.prog 7 [1, 1, 1, 1, 1, 1, 1, 1, 1, 0] 25, codeC Tryz.prog 7 [1, 1, 1, 1, 1, 1, 1, 1, 1, 1]] M := by
  intro v112 Fr M r hH h
  rw [law09_SkyHome_6] at h
  refine Run.opG wantS_none (ex_assign rfl) rfl ?_
  refine Run.opsEnd ?_
  cases h
  exact Run.ret Tryz.func7 rfl (res_tmp rfl res_nil) rfl

def law09_SkyHome_5 (F : Nat) (v109 : Bool) : Option (Bool) :=
  bif v109 then
    bnd (works F) fun r85 =>
    law09_SkyHome_6 F r85
  else
    law09_SkyHome_6 F false

theorem law09_SkyHome_5_ok (F : Nat) : ∀ (v109 : Bool) (Fr : Rd) (M : Mem) (r : Bool) (hH : Has Fr M [tb0, tb1, tb2]), law09_SkyHome_5 F v109 = some r → Run Tryz.prog ⟨⟨7, [], none⟩, []⟩ 113 (law09_SkyHome_post r) [(109, (.bool v109))] [itemC Tryz.prog 7 [1, 1, 1, 1, 1, 1, 1, 1, 1, 0] 22, codeC Tryz.prog 7 [1, 1, 1, 1, 1, 1, 1, 1, 1, 1]] M := by
  intro v109 Fr M r hH h
  rw [law09_SkyHome_5] at h
  refine Run.opG wantS_none (ex_move rfl) rfl ?_
  rcases btf (v109) with hc83 | hc83
  · have h := bif_t hc83 h
    obtain ⟨r85, hr85, h⟩ := bnd_some h
    refine Run.callP (wantS_yes' rfl rfl hc83) (ex_call rfl mkk18 cal18) rfl (works_ok F r85 _ hH (List.mem_of_getElem? (i := 0) rfl) (List.mem_of_getElem? (i := 1) rfl) (List.mem_of_getElem? (i := 2) rfl) hr85) ?_
    refine Run.opG wantS_none (ex_pickT' rfl hc83 rfl rfl) rfl ?_
    exact Run.pick [112] (law09_SkyHome_6_ok F r85 _ _ _ hH h)
  · have h := bif_f hc83 h
    refine Run.no (wantS_not' rfl rfl hc83) rfl ?_
    refine Run.opG wantS_none (ex_pickF' rfl hc83 rfl rfl) rfl ?_
    exact Run.pick [112] (law09_SkyHome_6_ok F false _ _ _ hH h)

def law09_SkyHome_4 (F : Nat) (v0 : Int) (v13 : Int) (v81 : Bool) (c28 : S__3_int) (c38 : S__3_int) : Option (Bool) :=
  bif v81 then
    some false
  else
    bnd (sky_Direction F v0 v13) fun r67 =>
    bif (r67.2 == (0 : Int)) then
      law09_SkyHome_5 F (decide ((0 : Int) < (w64 ((w64 ((w64 (r67.1.e0 * c28.e0)) + (w64 (r67.1.e1 * c28.e1)))) + (w64 (r67.1.e2 * c28.e2))))))
    else
      law09_SkyHome_5 F false

theorem law09_SkyHome_4_ok (F : Nat) : ∀ (v0 : Int) (v13 : Int) (v81 : Bool) (c28 : S__3_int) (c38 : S__3_int) (b28 : Pos) (b38 : Pos) (Fr : Rd) (M : Mem) (r : Bool) (hH : Has Fr M [.obj b28 (.row 22 .whole [(.int .i64 c28.e0), (.int .i64 c28.e1), (.int .i64 c28.e2)]), .obj b38 (.row 22 .whole [(.int .i64 c38.e0), (.int .i64 c38.e1), (.int .i64 c38.e2)]), tb0, tb1, tb2]), law09_SkyHome_4 F v0 v13 v81 c28 c38 = some r → Run Tryz.prog ⟨⟨7, [], none⟩, []⟩ 113 (law09_SkyHome_post r) [(0, (.int .i64 v0)), (5, (.ptr b28 0)), (9, (.ptr b38 0)), (13, (.int .i64 v13)), (81, (.bool v81))] [codeC Tryz.prog 7 [1, 1, 1, 1, 1, 1, 1, 0, 1], codeC Tryz.prog 7 [1, 1, 1, 1, 1, 1, 1, 1]] M := by
  intro v0 v13 v81 c28 c38 b28 b38 Fr M r hH h
  rw [law09_SkyHome_4] at h
  rcases btf (v81) with hc65 | hc65
  · have h := bif_t hc65 h
    refine Run.condT' rfl hc65 ?_
    refine Run.seq (Run.region ?_)
    refine Run.opG wantS_none (ex_assign rfl) rfl ?_
    refine Run.opsEnd ?_
    cases h
    exact Run.ret Tryz.func7 rfl (res_tmp rfl res_nil) rfl
  · have h := bif_f hc65 h
    refine Run.condF' rfl hc65 ?_
    refine Run.skip (Run.seq (Run.region ?_))
    refine Run.opG wantS_none (ex_move rfl) rfl ?_
    refine Run.opG wantS_none (ex_move rfl) rfl ?_
    obtain ⟨r67, hr67, h⟩ := bnd_some h
    refine Run.callP wantS_none (ex_call rfl mkk14 cal14) rfl (sky_Direction_ok F v0 v13 _ _ hr67) ?_
    refine Run.opG wantS_none (ex_move rfl) rfl ?_
    refine Run.opG wantS_none (ex_extract rfl rfl) rfl ?_
    refine Run.opG wantS_none (ex_extract rfl rfl) rfl ?_
    refine Run.opX wantS_none rfl (ExG.storeC (c' := [(.int .i64 r67.1.e0), (.int .i64 r67.1.e1), (.int .i64 r67.1.e2)]) rfl rfl rfl hH (i := 1) rfl sz22 rfl rfl rfl rfl rfl) ?_
    rintro _ M69 ⟨rfl, (hH69 : Has Fr M69 [.obj b28 (.row 22 .whole [(.int .i64 c28.e0), (.int .i64 c28.e1), (.int .i64 c28.e2)]), .obj b38 (.row 22 .whole [(.int .i64 r67.1.e0), (.int .i64 r67.1.e1), (.int .i64 r67.1.e2)]), tb0, tb1, tb2])⟩
    refine Run.opG wantS_none (ex_assign rfl) rfl ?_
    refine Run.opsEnd (Run.seq (Run.region ?_))
    refine Run.opG wantS_none (ex_move rfl) rfl ?_
    refine Run.opG wantS_none (ex_eql rfl rfl) rfl ?_
    refine Run.opG wantS_none (ex_move rfl) rfl ?_
    rcases btf ((r67.2 == (0 : Int))) with hc70 | hc70
    · have h := bif_t hc70 h
      refine Run.opG (wantS_yes' rfl rfl hc70) (ex_elX rfl rfl (arr_place (j := 0) rfl els22)) rfl ?_
      refine Run.opG (wantS_yes' rfl rfl hc70) (ex_load1 rfl (hH69.cells (i := 1) rfl 0 rfl) rdLe_rfl agg3) rfl ?_
      refine Run.opG (wantS_yes' rfl rfl hc70) (ex_elX rfl rfl (arr_place (j := 0) rfl els22)) rfl ?_
      refine Run.opG (wantS_yes' rfl rfl hc70) (ex_load1 rfl (hH69.cells (i := 0) rfl 0 rfl) rdLe_rfl agg3) rfl ?_
      refine Run.opG (wantS_yes' rfl rfl hc70) (ex_mul rfl rfl) rfl ?_
      refine Run.opG (wantS_yes' rfl rfl hc70) (ex_elX rfl rfl (arr_place (j := 1) rfl els22)) rfl ?_
      refine Run.opG (wantS_yes' rfl rfl hc70) (ex_load1 rfl (hH69.cells (i := 1) rfl 1 rfl) rdLe_rfl agg3) rfl ?_
      refine Run.opG (wantS_yes' rfl rfl hc70) (ex_elX rfl rfl (arr_place (j := 1) rfl els22)) rfl ?_
      refine Run.opG (wantS_yes' rfl rfl hc70) (ex_load1 rfl (hH69.cells (i := 0) rfl 1 rfl) rdLe_rfl agg3) rfl ?_
      refine Run.opG (wantS_yes' rfl rfl hc70) (ex_mul rfl rfl) rfl ?_
      refine Run.opG (wantS_yes' rfl rfl hc70) (ex_add rfl rfl) rfl ?_
      refine Run.opG (wantS_yes' rfl rfl hc70) (ex_elX rfl rfl (arr_place (j := 2) rfl els22)) rfl ?_
      refine Run.opG (wantS_yes' rfl rfl hc70) (ex_load1 rfl (hH69.cells (i := 1) rfl 2 rfl) rdLe_rfl agg3) rfl ?_
      refine Run.opG (wantS_yes' rfl rfl hc70) (ex_elX rfl rfl (arr_place (j := 2) rfl els22)) rfl ?_
      refine Run.opG (wantS_yes' rfl rfl hc70) (ex_load1 rfl (hH69.cells (i := 0) rfl 2 rfl) rdLe_rfl agg3) rfl ?_
      refine Run.opG (wantS_yes' rfl rfl hc70) (ex_mul rfl rfl) rfl ?_
      refine Run.opG (wantS_yes' rfl rfl hc70) (ex_add rfl rfl) rfl ?_
      refine Run.opG (wantS_yes' rfl rfl hc70) (ex_gtr rfl rfl) rfl ?_
      refine Run.opG wantS_none (ex_pickT' rfl hc70 rfl rfl) rfl ?_
      exact Run.pick [109] (law09_SkyHome_5_ok F (decide ((0 : Int) < (w64 ((w64 ((w64 (r67.1.e0 * c28.e0)) + (w64 (r67.1.e1 * c28.e1)))) + (w64 (r67.1.e2 * c28.e2)))))) _ _ _ (hH69.pick [2, 3, 4] rfl rfl) h)
    · have h := bif_f hc70 h
      refine Run.no (wantS_not' rfl rfl hc70) rfl ?_
      refine Run.no (wantS_not' rfl rfl hc70) rfl ?_
      refine Run.no (wantS_not' rfl rfl hc70) rfl ?_
      refine Run.no (wantS_not' rfl rfl hc70) rfl ?_
      refine Run.no (wantS_not' rfl rfl hc70) rfl ?_
      refine Run.no (wantS_not' rfl rfl hc70) rfl ?_
      refine Run.no (wantS_not' rfl rfl hc70) rfl ?_
      refine Run.no (wantS_not' rfl rfl hc70) rfl ?_
      refine Run.no (wantS_not' rfl rfl hc70) rfl ?_
      refine Run.no (wantS_not' rfl rfl hc70) rfl ?_
      refine Run.no (wantS_not' rfl rfl hc70) rfl ?_
      refine Run.no (wantS_not' rfl rfl hc70) rfl ?_
      refine Run.no (wantS_not' rfl rfl hc70) rfl ?_
      refine Run.no (wantS_not' rfl rfl hc70) rfl ?_
      refine Run.no (wantS_not' rfl rfl hc70) rfl ?_
      refine Run.no (wantS_not' rfl rfl hc70) rfl ?_
      refine Run.no (wantS_not' rfl rfl hc70) rfl ?_
      refine Run.no (wantS_not' rfl rfl hc70) rfl ?_
      refine Run.opG wantS_none (ex_pickF' rfl hc70 rfl rfl) rfl ?_
      exact Run.pick [109] (law09_SkyHome_5_ok F false _ _ _ (hH69.pick [2, 3, 4] rfl rfl) h)

def law09_SkyHome_2 (F : Nat) (v0 : Int) (c28 : S__3_int) (c38 : S__3_int) : Option (Bool) :=
  bnd (sky_CellOf F v0 c28) fun r54 =>
  bif (!(r54.2 == (0 : Int))) then
    bif (r54.1 == (0 : Int)) then
      bnd (works F) fun r59 =>
      law09_SkyHome_3 F r59
    else
      law09_SkyHome_3 F false
  else
    bnd (sky_Cells F v0) fun r62 =>
    bif (!(r62.2 == (0 : Int))) then
      law09_SkyHome_4 F v0 r54.1 true c28 c38
    else
      bnd (ref00_In F r54.1 (0 : Int) (w64 (r62.1 - (1 : Int)))) fun r88 =>
      law09_SkyHome_4 F v0 r54.1 (!r88) c28 c38

theorem law09_SkyHome_2_ok (F : Nat) : ∀ (v0 : Int) (c28 : S__3_int) (c38 : S__3_int) (b28 : Pos) (b38 : Pos) (Fr : Rd) (M : Mem) (r : Bool) (hH : Has Fr M [.obj b28 (.row 22 .whole [(.int .i64 c28.e0), (.int .i64 c28.e1), (.int .i64 c28.e2)]), .obj b38 (.row 22 .whole [(.int .i64 c38.e0), (.int .i64 c38.e1), (.int .i64 c38.e2)]), tb0, tb1, tb2]), law09_SkyHome_2 F v0 c28 c38 = some r → Run Tryz.prog ⟨⟨7, [], none⟩, []⟩ 113 (law09_SkyHome_post r) [(0, (.int .i64 v0)), (5, (.ptr b28 0)), (9, (.ptr b38 0))] [itemC Tryz.prog 7 [1, 1, 1, 1, 0] 0, codeC Tryz.prog 7 [1, 1, 1, 1, 1]] M := by
  intro v0 c28 c38 b28 b38 Fr M r hH h
  rw [law09_SkyHome_2] at h
  refine Run.opG wantS_none (ex_move rfl) rfl ?_
  refine Run.opG wantS_none (ex_loadA rfl (hH.cells (i := 0) rfl 0 rfl) rdLe_rfl agg22 rfl rfl rfl) rfl ?_
  obtain ⟨r54, hr54, h⟩ := bnd_some h
  refine Run.callP wantS_none (ex_call rfl mkk16 cal16) rfl (sky_CellOf_ok F v0 c28 _ _ hr54) ?_
  refine Run.opG wantS_none (ex_move rfl) rfl ?_
  refine Run.opG wantS_none (ex_extract rfl rfl) rfl ?_
  refine Run.opG wantS_none (ex_extract rfl rfl) rfl ?_
  refine Run.opG wantS_none (ex_assign rfl) rfl ?_
  refine Run.opG wantS_none (ex_assign rfl) rfl ?_
  refine Run.opsEnd (Run.seq (Run.seq (Run.region ?_)))
  refine Run.opG wantS_none (ex_move rfl) rfl ?_
  refine Run.opG wantS_none (ex_neq rfl rfl) rfl ?_
  refine Run.opsEnd ?_
  rcases btf ((!(r54.2 == (0 : Int)))) with hc56 | hc56
  · have h := bif_t hc56 h
    refine Run.condT' rfl hc56 ?_
    refine Run.seq (Run.region ?_)
    refine Run.opG wantS_none (ex_move rfl) rfl ?_
    refine Run.opG wantS_none (ex_eql rfl rfl) rfl ?_
    refine Run.opG wantS_none (ex_move rfl) rfl ?_
    rcases btf ((r54.1 == (0 : Int))) with hc57 | hc57
    · have h := bif_t hc57 h
      obtain ⟨r59, hr59, h⟩ := bnd_some h
      refine Run.callP (wantS_yes' rfl rfl hc57) (ex_call rfl mkk18 cal18) rfl (works_ok F r59 _ hH (List.mem_of_getElem? (i := 2) rfl) (List.mem_of_getElem? (i := 3) rfl) (List.mem_of_getElem? (i := 4) rfl) hr59) ?_
      refine Run.opG wantS_none (ex_pickT' rfl hc57 rfl rfl) rfl ?_
      exact Run.pick [67] (law09_SkyHome_3_ok F r59 _ _ _ (hH.pick [2, 3, 4] rfl rfl) h)
    · have h := bif_f hc57 h
      refine Run.no (wantS_not' rfl rfl hc57) rfl ?_
      refine Run.opG wantS_none (ex_pickF' rfl hc57 rfl rfl) rfl ?_
      exact Run.pick [67] (law09_SkyHome_3_ok F false _ _ _ (hH.pick [2, 3, 4] rfl rfl) h)
  · have h := bif_f hc56 h
    refine Run.condF' rfl hc56 ?_
    refine Run.skip (Run.seq (Run.region ?_))
    refine Run.opG wantS_none (ex_move rfl) rfl ?_
    obtain ⟨r62, hr62, h⟩ := bnd_some h
    refine Run.callP wantS_none (ex_call rfl mkk12 cal12) rfl (sky_Cells_ok F v0 _ _ hr62) ?_
    refine Run.opG wantS_none (ex_move rfl) rfl ?_
    refine Run.opG wantS_none (ex_extract rfl rfl) rfl ?_
    refine Run.opG wantS_none (ex_extract rfl rfl) rfl ?_
    refine Run.opG wantS_none (ex_assign rfl) rfl ?_
    refine Run.opG wantS_none (ex_assign rfl) rfl ?_
    refine Run.opsEnd (Run.seq (Run.seq (Run.region ?_)))
    refine Run.opG wantS_none (ex_move rfl) rfl ?_
    refine Run.opG wantS_none (ex_neq rfl rfl) rfl ?_
    refine Run.opG wantS_none (ex_move rfl) rfl ?_
    rcases btf ((!(r62.2 == (0 : Int)))) with hc64 | hc64
    · have h := bif_t hc64 h
      refine Run.no (wantS_not' rfl rfl hc64) rfl ?_
      refine Run.no (wantS_not' rfl rfl hc64) rfl ?_
      refine Run.no (wantS_not' rfl rfl hc64) rfl ?_
      refine Run.no (wantS_not' rfl rfl hc64) rfl ?_
      refine Run.no (wantS_not' rfl rfl hc64) rfl ?_
      refine Run.opG wantS_none (ex_pickT' rfl hc64 rfl rfl) rfl ?_
      refine Run.opsEnd ?_
      exact Run.pick [0, 5, 9, 13, 81] (law09_SkyHome_4_ok F v0 r54.1 true c28 c38 b28 b38 _ _ _ hH h)
    · have h := bif_f hc64 h
      refine Run.opG (wantS_yes' rfl rfl hc64) (ex_move rfl) rfl ?_
      refine Run.opG (wantS_yes' rfl rfl hc64) (ex_move rfl) rfl ?_
      refine Run.opG (wantS_yes' rfl rfl hc64) (ex_sub rfl rfl) rfl ?_
      obtain ⟨r88, hr88, h⟩ := bnd_some h
      refine Run.callP (wantS_yes' rfl rfl hc64) (ex_call rfl mkk36 cal36) rfl (ref00_In_ok F r54.1 (0 : Int) (w64 (r62.1 - (1 : Int))) _ _ hr88) ?_
      refine Run.opG (wantS_yes' rfl rfl hc64) (ex_not rfl) rfl ?_
      refine Run.opG wantS_none (ex_pickF' rfl hc64 rfl rfl) rfl ?_
      refine Run.opsEnd ?_
      exact Run.pick [0, 5, 9, 13, 81] (law09_SkyHome_4_ok F v0 r54.1 (!r88) c28 c38 b28 b38 _ _ _ hH h)

def law09_SkyHome_1 (F : Nat) (v0 : Int) (v54 : Bool) (c28 : S__3_int) (c38 : S__3_int) : Option (Bool) :=
  bif v54 then
    some false
  else
    law09_SkyHome_2 F v0 c28 c38

theorem law09_SkyHome_1_ok (F : Nat) : ∀ (v0 : Int) (v54 : Bool) (c28 : S__3_int) (c38 : S__3_int) (b28 : Pos) (b38 : Pos) (Fr : Rd) (M : Mem) (r : Bool) (hH : Has Fr M [.obj b28 (.row 22 .whole [(.int .i64 c28.e0), (.int .i64 c28.e1), (.int .i64 c28.e2)]), .obj b38 (.row 22 .whole [(.int .i64 c38.e0), (.int .i64 c38.e1), (.int .i64 c38.e2)]), tb0, tb1, tb2]), law09_SkyHome_1 F v0 v54 c28 c38 = some r → Run Tryz.prog ⟨⟨7, [], none⟩, []⟩ 113 (law09_SkyHome_post r) [(0, (.int .i64 v0)), (5, (.ptr b28 0)), (9, (.ptr b38 0)), (54, (.bool v54))] [codeC Tryz.prog 7 [1, 1, 1, 0, 1, 0, 1, 1], codeC Tryz.prog 7 [1, 1, 1, 1]] M := by
  intro v0 v54 c28 c38 b28 b38 Fr M r hH h
  rw [law09_SkyHome_1] at h
  rcases btf (v54) with hc52 | hc52
  · have h := bif_t hc52 h
    refine Run.condT' rfl hc52 ?_
    refine Run.seq (Run.region ?_)
    refine Run.opG wantS_none (ex_assign rfl) rfl ?_
    refine Run.opsEnd ?_
    cases h
    exact Run.ret Tryz.func7 rfl (res_tmp rfl res_nil) rfl
  · have h := bif_f hc52 h
    refine Run.condF' rfl hc52 ?_
    refine Run.skip (Run.seq (Run.region ?_))
    exact Run.pick [0, 5, 9] (law09_SkyHome_2_ok F v0 c28 c38 b28 b38 _ _ _ hH h)

def law09_SkyHome (F : Nat) (a0 : Int) (a1 : S__2_int) (a2 : S__3_int) : Option (Bool) :=
  bnd (ref00_Mod F a1.e1 (100 : Int)) fun r32 =>
  bnd (sky_Direction F a0 a1.e0) fun r35 =>
  bif (r35.2 == (0 : Int)) then
    bnd (sky_CellOf F a0 (S__3_int.mk (w64 ((w64 ((1 : Int) + r32)) * r35.1.e0)) (w64 ((w64 ((1 : Int) + r32)) * r35.1.e1)) (w64 ((w64 ((1 : Int) + r32)) * r35.1.e2)))) fun r49 =>
    bif (!(r49.2 == (0 : Int))) then
      law09_SkyHome_1 F a0 true a2 r35.1
    else
      law09_SkyHome_1 F a0 (!(r49.1 == a1.e0)) a2 r35.1
  else
    law09_SkyHome_2 F a0 a2 r35.1

theorem law09_SkyHome_run (F : Nat) (a0 : Int) (a1 : S__2_int) (a2 : S__3_int) (r : Bool) (M : Mem) (hfx : FixIn M fixes) (h : law09_SkyHome F a0 a1 a2 = some r) : Run Tryz.prog (fx0 7) 113 (law09_SkyHome_post r) [(0, (.int .i64 a0)), (1, (.agg [(.int .i64 a1.e0), (.int .i64 a1.e1)])), (2, (.agg [(.int .i64 a2.e0), (.int .i64 a2.e1), (.int .i64 a2.e2)]))] [codeC Tryz.prog 7 []] (frozen M) := by
  rw [law09_SkyHome] at h
  have hH : Has (ro (frozen M)) (frozen M) [tb0, tb1, tb2] := Has.ofFix hfx.frozen
  refine Run.seq (Run.region ?_)
  refine Run.opX wantS_none rfl (ExG.box rfl rfl hH) ?_
  rintro _ M26 ⟨b25, rfl, (hH26 : Has (ro (frozen M)) M26 [.obj b25 (.row 57 .whole [(.int .i64 a1.e0), (.int .i64 a1.e1)]), tb0, tb1, tb2])⟩
  refine Run.opX wantS_none rfl (ExG.box rfl rfl hH26) ?_
  rintro _ M29 ⟨b28, rfl, (hH29 : Has (ro (frozen M)) M29 [.obj b28 (.row 22 .whole [(.int .i64 a2.e0), (.int .i64 a2.e1), (.int .i64 a2.e2)]), .obj b25 (.row 57 .whole [(.int .i64 a1.e0), (.int .i64 a1.e1)]), tb0, tb1, tb2])⟩
  refine Run.opG wantS_none (ex_assign rfl) rfl ?_
  refine Run.opsEnd (Run.seq ?_)
  refine Run.drawG plan7_1_0 ?_
  refine DrawG.fl rfl (ev_ex wantS_none (ex_elX rfl rfl (arr_place (j := 0) rfl els57))) rfl ?_
  refine DrawG.fl rfl (ev_ex wantS_none (ex_load1 rfl (hH29.cells (i := 1) rfl 0 rfl) rdLe_rfl agg3)) rfl ?_
  refine DrawG.fl rfl (ev_ex wantS_none (ex_elX rfl rfl (arr_place (j := 1) rfl els57))) rfl ?_
  refine DrawG.fl rfl (ev_ex wantS_none (ex_load1 rfl (hH29.cells (i := 1) rfl 1 rfl) rdLe_rfl agg3)) rfl ?_
  obtain ⟨r32, hr32, h⟩ := bnd_some h
  refine DrawG.callP rfl wantS_none (ex_call rfl mkk35 cal35) rfl (ref00_Mod_ok F a1.e1 (100 : Int) _ _ hr32) (st_cons rfl (ev_ex wantS_none (ex_load1 rfl (hH29.cells (i := 1) rfl 0 rfl) rdLe_rfl agg3)) rfl rfl rfl (st_cons rfl (ev_ex wantS_none (ex_elX rfl rfl (arr_place (j := 0) rfl els57))) rfl rfl rfl st_nil)) ?_
  refine DrawG.fl rfl (ev_ex wantS_none (ex_add rfl rfl)) rfl ?_
  refine DrawG.fl rfl (ev_ex wantS_none (ex_assign rfl)) rfl ?_
  refine DrawG.fl rfl (ev_ex wantS_none (ex_assign rfl)) rfl ?_
  refine DrawG.sync ?_
  refine DrawG.nil ?_
  refine Run.seq (Run.region ?_)
  refine Run.opG wantS_none (ex_move rfl) rfl ?_
  refine Run.opG wantS_none (ex_move rfl) rfl ?_
  obtain ⟨r35, hr35, h⟩ := bnd_some h
  refine Run.callP wantS_none (ex_call rfl mkk14 cal14) rfl (sky_Direction_ok F a0 a1.e0 _ _ hr35) ?_
  refine Run.opG wantS_none (ex_move rfl) rfl ?_
  refine Run.opG wantS_none (ex_extract rfl rfl) rfl ?_
  refine Run.opG wantS_none (ex_extract rfl rfl) rfl ?_
  refine Run.opX wantS_none rfl (ExG.new (v := fun b => .ptr b 0) (ex_alloc zer22) hH29) ?_
  rintro _ M39 ⟨b38, rfl, (hH39 : Has (ro (frozen M)) M39 [.obj b38 (.row 22 .whole [(.int .i64 0), (.int .i64 0), (.int .i64 0)]), .obj b28 (.row 22 .whole [(.int .i64 a2.e0), (.int .i64 a2.e1), (.int .i64 a2.e2)]), .obj b25 (.row 57 .whole [(.int .i64 a1.e0), (.int .i64 a1.e1)]), tb0, tb1, tb2])⟩
  refine Run.opX wantS_none rfl (ExG.storeC (c' := [(.int .i64 r35.1.e0), (.int .i64 r35.1.e1), (.int .i64 r35.1.e2)]) rfl rfl rfl hH39 (i := 0) rfl sz22 rfl rfl rfl rfl rfl) ?_
  rintro _ M40 ⟨rfl, (hH40 : Has (ro (frozen M)) M40 [.obj b38 (.row 22 .whole [(.int .i64 r35.1.e0), (.int .i64 r35.1.e1), (.int .i64 r35.1.e2)]), .obj b28 (.row 22 .whole [(.int .i64 a2.e0), (.int .i64 a2.e1), (.int .i64 a2.e2)]), .obj b25 (.row 57 .whole [(.int .i64 a1.e0), (.int .i64 a1.e1)]), tb0, tb1, tb2])⟩
  refine Run.opG wantS_none (ex_assign rfl) rfl ?_
  refine Run.opsEnd (Run.seq (Run.seq (Run.region ?_)))
  refine Run.opG wantS_none (ex_move rfl) rfl ?_
  refine Run.opG wantS_none (ex_eql rfl rfl) rfl ?_
  refine Run.opsEnd ?_
  rcases btf ((r35.2 == (0 : Int))) with hc41 | hc41
  · have h := bif_t hc41 h
    refine Run.condT' rfl hc41 ?_
    refine Run.seq (Run.region ?_)
    refine Run.opG wantS_none (ex_move rfl) rfl ?_
    refine Run.opG wantS_none (ex_move rfl) rfl ?_
    refine Run.opG wantS_none (ex_elX rfl rfl (arr_place (j := 0) rfl els22)) rfl ?_
    refine Run.opG wantS_none (ex_load1 rfl (hH40.cells (i := 0) rfl 0 rfl) rdLe_rfl agg3) rfl ?_
    refine Run.opG wantS_none (ex_mul rfl rfl) rfl ?_
    refine Run.opG wantS_none (ex_move rfl) rfl ?_
    refine Run.opG wantS_none (ex_elX rfl rfl (arr_place (j := 1) rfl els22)) rfl ?_
    refine Run.opG wantS_none (ex_load1 rfl (hH40.cells (i := 0) rfl 1 rfl) rdLe_rfl agg3) rfl ?_
    refine Run.opG wantS_none (ex_mul rfl rfl) rfl ?_
    refine Run.opG wantS_none (ex_move rfl) rfl ?_
    refine Run.opG wantS_none (ex_elX rfl rfl (arr_place (j := 2) rfl els22)) rfl ?_
    refine Run.opG wantS_none (ex_load1 rfl (hH40.cells (i := 0) rfl 2 rfl) rdLe_rfl agg3) rfl ?_
    refine Run.opG wantS_none (ex_mul rfl rfl) rfl ?_
    refine Run.opG wantS_none (ex_buildA (r := [(.int .i64 (w64 ((w64 ((1 : Int) + r32)) * r35.1.e0))), (.int .i64 (w64 ((w64 ((1 : Int) + r32)) * r35.1.e1))), (.int .i64 (w64 ((w64 ((1 : Int) + r32)) * r35.1.e2)))]) rfl zer22 pls22 rfl) rfl ?_
    obtain ⟨r49, hr49, h⟩ := bnd_some h
    refine Run.callP wantS_none (ex_call rfl mkk16 cal16) rfl (sky_CellOf_ok F a0 (S__3_int.mk (w64 ((w64 ((1 : Int) + r32)) * r35.1.e0)) (w64 ((w64 ((1 : Int) + r32)) * r35.1.e1)) (w64 ((w64 ((1 : Int) + r32)) * r35.1.e2))) _ _ hr49) ?_
    refine Run.opG wantS_none (ex_move rfl) rfl ?_
    refine Run.opG wantS_none (ex_extract rfl rfl) rfl ?_
    refine Run.opG wantS_none (ex_extract rfl rfl) rfl ?_
    refine Run.opG wantS_none (ex_assign rfl) rfl ?_
    refine Run.opG wantS_none (ex_assign rfl) rfl ?_
    refine Run.opsEnd (Run.seq (Run.region ?_))
    refine Run.opG wantS_none (ex_move rfl) rfl ?_
    refine Run.opG wantS_none (ex_neq rfl rfl) rfl ?_
    refine Run.opG wantS_none (ex_move rfl) rfl ?_
    rcases btf ((!(r49.2 == (0 : Int)))) with hc51 | hc51
    · have h := bif_t hc51 h
      refine Run.no (wantS_not' rfl rfl hc51) rfl ?_
      refine Run.no (wantS_not' rfl rfl hc51) rfl ?_
      refine Run.no (wantS_not' rfl rfl hc51) rfl ?_
      refine Run.opG wantS_none (ex_pickT' rfl hc51 rfl rfl) rfl ?_
      refine Run.opsEnd ?_
      exact Run.pick [0, 5, 9, 54] (law09_SkyHome_1_ok F a0 true a2 r35.1 b28 b38 _ _ _ (hH40.pick [1, 0, 3, 4, 5] rfl rfl) h)
    · have h := bif_f hc51 h
      refine Run.opG (wantS_yes' rfl rfl hc51) (ex_move rfl) rfl ?_
      refine Run.opG (wantS_yes' rfl rfl hc51) (ex_move rfl) rfl ?_
      refine Run.opG (wantS_yes' rfl rfl hc51) (ex_neq rfl rfl) rfl ?_
      refine Run.opG wantS_none (ex_pickF' rfl hc51 rfl rfl) rfl ?_
      refine Run.opsEnd ?_
      exact Run.pick [0, 5, 9, 54] (law09_SkyHome_1_ok F a0 (!(r49.1 == a1.e0)) a2 r35.1 b28 b38 _ _ _ (hH40.pick [1, 0, 3, 4, 5] rfl rfl) h)
  · have h := bif_f hc41 h
    refine Run.condF' rfl hc41 ?_
    refine Run.skip (Run.seq (Run.region ?_))
    exact Run.pick [0, 5, 9] (law09_SkyHome_2_ok F a0 a2 r35.1 b28 b38 _ _ _ (hH40.pick [1, 0, 3, 4, 5] rfl rfl) h)

end Go.Ev.SkyHome
