/- Plain functions that say what functions of the program come to, and proofs of it, written by a program of the verifier's own. -/
import Derived.Test.YtkmmplbbefijaaaGreatDoorEvL16
import Derived.Test.YtkmmplbbefijaaaGreatDoorWorks
import Derived.KernelRfl
namespace Go.Ev.SkyCells
open Go Go.Ev Go.Proofs
set_option maxRecDepth 100000
set_option linter.unusedVariables false

/-- The listed tables. -/
noncomputable def fixes : List (Nat × List SV) := Go.Proofs.YtkmmplbbefijaaaGreatDoor.works.fixes
noncomputable def tb0 : Ent := fixE (4, intCells .u8 [0, 1, 28, 2, 29, 14, 24, 3, 30, 22, 20, 15, 25, 17, 4, 8, 31, 27, 13, 23, 21, 19, 16, 7, 26, 12, 18, 6, 11, 5, 10, 9])
noncomputable def tb1 : Ent := fixE (5, intCells .u8 [0, 1, 56, 2, 57, 49, 28, 3, 61, 58, 42, 50, 38, 29, 17, 4, 62, 47, 59, 36, 45, 43, 51, 22, 53, 39, 33, 30, 24, 18, 12, 5, 63, 55, 48, 27, 60, 41, 37, 16, 46, 35, 44, 21, 52, 32, 23, 11, 54, 26, 40, 15, 34, 20, 31, 10, 25, 14, 19, 9, 13, 8, 7, 6])
noncomputable def tb2 : Ent := fixE (3, intCells .u64 [1, 10, 100, 1000, 10000, 100000, 1000000, 10000000, 100000000, 1000000000, 10000000000, 100000000000, 1000000000000, 10000000000000, 100000000000000, 1000000000000000, 10000000000000000, 100000000000000000, 1000000000000000000, 10000000000000000000])
/-- works() comes to true. -/
def works (_ : Nat) : Option Bool := some true
theorem fixH {Fr : Rd} {H : List Ent} {M : Mem} (hH : Has Fr M H) (h0 : tb0 ∈ H) (h1 : tb1 ∈ H) (h2 : tb2 ∈ H) : FixIn M fixes := by
  refine hH.fixIn fun x hx => ?_
  simp only [fixes, Go.Proofs.YtkmmplbbefijaaaGreatDoor.works.fixes, List.mem_cons, List.not_mem_nil, or_false] at hx
  rcases hx with rfl | rfl | rfl
  · exact h0
  · exact h1
  · exact h2

theorem works_ok (F : Nat) (r : Bool) {Fr : Rd} {H : List Ent} (M : Mem) (hH : Has Fr M H) (h0 : tb0 ∈ H) (h1 : tb1 ∈ H) (h2 : tb2 ∈ H) (h : works F = some r) : CallsM Tryz.prog 18 [] M fun s M' => s = .bool r ∧ M' = M := by
  cases h
  refine CallsM.closedFix (n := 300) (l := Go.Proofs.YtkmmplbbefijaaaGreatDoor.works.fixes) Go.Proofs.YtkmmplbbefijaaaGreatDoor.works.below Go.Proofs.YtkmmplbbefijaaaGreatDoor.works.plainF Go.Proofs.YtkmmplbbefijaaaGreatDoor.works.works_true (hH.fixIn fun x hx => ?_)
  simp only [Go.Proofs.YtkmmplbbefijaaaGreatDoor.works.fixes, List.mem_cons, List.not_mem_nil, or_false] at hx
  rcases hx with rfl | rfl | rfl
  · exact h0
  · exact h1
  · exact h2


structure S__3_int where
  e0 : Int
  e1 : Int
  e2 : Int

abbrev sky_isFrom_post (r : Bool) : SV → Mem → Prop := fun s _ => s = (.bool r)

def sky_isFrom_1 (F : Nat) (v14 : Bool) : Option (Bool) :=
  some v14

theorem sky_isFrom_1_ok (F : Nat) : ∀ (v14 : Bool) (Fr : Rd) (M : Mem) (r : Bool) (hH : Has Fr M []), sky_isFrom_1 F v14 = some r → Run Tryz.prog ⟨⟨62, [], none⟩, []⟩ 15 (sky_isFrom_post r) [(14, (.bool v14))] [itemC Tryz.prog 62 [1, 0] 8, codeC Tryz.prog 62 [1, 1]] M := by
  intro v14 Fr M r hH h
  rw [sky_isFrom_1] at h
  refine Run.opG wantS_none (ex_assign rfl) rfl ?_
  refine Run.opsEnd ?_
  cases h
  exact Run.ret Tryz.func62 rfl (res_tmp rfl res_nil) rfl

def sky_isFrom (F : Nat) (a0 : Int) (a1 : Int) (a2 : Int) : Option (Bool) :=
  bif (decide (a0 ≤ a1)) then
    sky_isFrom_1 F (decide (a1 ≤ a2))
  else
    sky_isFrom_1 F false

theorem sky_isFrom_ok (F : Nat) (a0 : Int) (a1 : Int) (a2 : Int) (r : Bool) (M : Mem) (h : sky_isFrom F a0 a1 a2 = some r) : CallsM Tryz.prog 62 [(.int .i64 a0), (.int .i64 a1), (.int .i64 a2)] M (fun s M' => s = (.bool r) ∧ M' = M) := by
  refine CallsM.plain Tryz.func62 rfl rfl rfl (show Run _ _ _ (sky_isFrom_post r) _ _ _ from ?_)
  rw [sky_isFrom] at h
  have hH := Has.nil (frozen M)
  refine Run.seq (Run.region ?_)
  refine Run.opG wantS_none (ex_assign rfl) rfl ?_
  refine Run.opsEnd (Run.seq (Run.region ?_))
  refine Run.opG wantS_none (ex_move rfl) rfl ?_
  refine Run.opG wantS_none (ex_move rfl) rfl ?_
  refine Run.opG wantS_none (ex_leq rfl rfl) rfl ?_
  refine Run.opG wantS_none (ex_move rfl) rfl ?_
  rcases btf ((decide (a0 ≤ a1))) with hc21 | hc21
  · have h := bif_t hc21 h
    refine Run.opG (wantS_yes' rfl rfl hc21) (ex_move rfl) rfl ?_
    refine Run.opG (wantS_yes' rfl rfl hc21) (ex_move rfl) rfl ?_
    refine Run.opG (wantS_yes' rfl rfl hc21) (ex_leq rfl rfl) rfl ?_
    refine Run.opG wantS_none (ex_pickT' rfl hc21 rfl rfl) rfl ?_
    exact Run.pick [14] (sky_isFrom_1_ok F (decide (a1 ≤ a2)) _ _ _ hH h)
  · have h := bif_f hc21 h
    refine Run.no (wantS_not' rfl rfl hc21) rfl ?_
    refine Run.no (wantS_not' rfl rfl hc21) rfl ?_
    refine Run.no (wantS_not' rfl rfl hc21) rfl ?_
    refine Run.opG wantS_none (ex_pickF' rfl hc21 rfl rfl) rfl ?_
    exact Run.pick [14] (sky_isFrom_1_ok F false _ _ _ hH h)

theorem mkk62 : makeK Tryz.prog 62 = none := by kernel_rfl
theorem cal62 : callable Tryz.prog 62 = true := by kernel_rfl
abbrev sky_grid_isValid_post (r : Bool) : SV → Mem → Prop := fun s _ => s = (.bool r)

def sky_grid_isValid (F : Nat) (a0 : Int) : Option (Bool) :=
  bnd (sky_isFrom F (1 : Int) a0 (8 : Int)) fun r22 =>
  some r22

theorem sky_grid_isValid_ok (F : Nat) (a0 : Int) (r : Bool) (M : Mem) (h : sky_grid_isValid F a0 = some r) : CallsM Tryz.prog 105 [(.int .i64 a0)] M (fun s M' => s = (.bool r) ∧ M' = M) := by
  refine CallsM.plain Tryz.func105 rfl rfl rfl (show Run _ _ _ (sky_grid_isValid_post r) _ _ _ from ?_)
  rw [sky_grid_isValid] at h
  have hH := Has.nil (frozen M)
  refine Run.seq (Run.region ?_)
  refine Run.opG wantS_none (ex_assign rfl) rfl ?_
  refine Run.opsEnd (Run.seq (Run.region ?_))
  refine Run.opG wantS_none (ex_move rfl) rfl ?_
  obtain ⟨r22, hr22, h⟩ := bnd_some h
  refine Run.callP wantS_none (ex_call rfl mkk62 cal62) rfl (sky_isFrom_ok F (1 : Int) a0 (8 : Int) _ _ hr22) ?_
  refine Run.opG wantS_none (ex_assign rfl) rfl ?_
  refine Run.opsEnd ?_
  cases h
  exact Run.ret Tryz.func105 rfl (res_tmp rfl res_nil) rfl

theorem mkk105 : makeK Tryz.prog 105 = none := by kernel_rfl
theorem cal105 : callable Tryz.prog 105 = true := by kernel_rfl
abbrev sky_checkGrid_post (r : Int) : SV → Mem → Prop := fun s _ => s = (.int .i64 r)

def sky_checkGrid (F : Nat) (a0 : Int) : Option (Int) :=
  bnd (sky_grid_isValid F a0) fun r22 =>
  bif (!r22) then
    some (91 : Int)
  else
    some (0 : Int)

theorem sky_checkGrid_ok (F : Nat) (a0 : Int) (r : Int) (M : Mem) (h : sky_checkGrid F a0 = some r) : CallsM Tryz.prog 48 [(.int .i64 a0)] M (fun s M' => s = (.int .i64 r) ∧ M' = M) := by
  refine CallsM.plain Tryz.func48 rfl rfl rfl (show Run _ _ _ (sky_checkGrid_post r) _ _ _ from ?_)
  rw [sky_checkGrid] at h
  have hH := Has.nil (frozen M)
  refine Run.seq (Run.region ?_)
  refine Run.opG wantS_none (ex_assign rfl) rfl ?_
  refine Run.opsEnd (Run.seq (Run.seq (Run.region ?_)))
  refine Run.opG wantS_none (ex_move rfl) rfl ?_
  obtain ⟨r22, hr22, h⟩ := bnd_some h
  refine Run.callP wantS_none (ex_call rfl mkk105 cal105) rfl (sky_grid_isValid_ok F a0 _ _ hr22) ?_
  refine Run.opG wantS_none (ex_not rfl) rfl ?_
  refine Run.opsEnd ?_
  rcases btf ((!r22)) with hc24 | hc24
  · have h := bif_t hc24 h
    refine Run.condT' rfl hc24 ?_
    refine Run.seq (Run.region ?_)
    refine Run.opG wantS_none (ex_assign rfl) rfl ?_
    refine Run.opsEnd ?_
    cases h
    exact Run.ret Tryz.func48 rfl (res_tmp rfl res_nil) rfl
  · have h := bif_f hc24 h
    refine Run.condF' rfl hc24 ?_
    refine Run.skip (Run.seq (Run.region ?_))
    refine Run.opG wantS_none (ex_assign rfl) rfl ?_
    refine Run.opsEnd ?_
    cases h
    exact Run.ret Tryz.func48 rfl (res_tmp rfl res_nil) rfl

theorem mkk48 : makeK Tryz.prog 48 = none := by kernel_rfl
theorem cal48 : callable Tryz.prog 48 = true := by kernel_rfl
abbrev sky_grid_cells_post (r : Int) : SV → Mem → Prop := fun s _ => s = (.int .i64 r)

def sky_grid_cells (F : Nat) (a0 : Int) : Option (Int) :=
  some (w64 ((6 : Int) * (w64 (a0 * a0))))

theorem sky_grid_cells_ok (F : Nat) (a0 : Int) (r : Int) (M : Mem) (h : sky_grid_cells F a0 = some r) : CallsM Tryz.prog 49 [(.int .i64 a0)] M (fun s M' => s = (.int .i64 r) ∧ M' = M) := by
  refine CallsM.plain Tryz.func49 rfl rfl rfl (show Run _ _ _ (sky_grid_cells_post r) _ _ _ from ?_)
  rw [sky_grid_cells] at h
  have hH := Has.nil (frozen M)
  refine Run.seq (Run.region ?_)
  refine Run.opG wantS_none (ex_assign rfl) rfl ?_
  refine Run.opsEnd (Run.seq (Run.region ?_))
  refine Run.opG wantS_none (ex_move rfl) rfl ?_
  refine Run.opG wantS_none (ex_move rfl) rfl ?_
  refine Run.opG wantS_none (ex_mul rfl rfl) rfl ?_
  refine Run.opG wantS_none (ex_mul rfl rfl) rfl ?_
  refine Run.opG wantS_none (ex_assign rfl) rfl ?_
  refine Run.opsEnd ?_
  cases h
  exact Run.ret Tryz.func49 rfl (res_tmp rfl res_nil) rfl

theorem mkk49 : makeK Tryz.prog 49 = none := by kernel_rfl
theorem cal49 : callable Tryz.prog 49 = true := by kernel_rfl
abbrev sky_Cells_post (r : Int × Int) : SV → Mem → Prop := fun s _ => s = (.tuple [(.int .i64 r.1), (.int .i64 r.2)])

def sky_Cells (F : Nat) (a0 : Int) : Option (Int × Int) :=
  bnd (sky_checkGrid F a0) fun r22 =>
  bif (!(r22 == (0 : Int))) then
    some ((0 : Int), r22)
  else
    bnd (sky_grid_cells F a0) fun r26 =>
    some (r26, (0 : Int))

theorem sky_Cells_ok (F : Nat) (a0 : Int) (r : Int × Int) (M : Mem) (h : sky_Cells F a0 = some r) : CallsM Tryz.prog 12 [(.int .i64 a0)] M (fun s M' => s = (.tuple [(.int .i64 r.1), (.int .i64 r.2)]) ∧ M' = M) := by
  refine CallsM.plain Tryz.func12 rfl rfl rfl (show Run _ _ _ (sky_Cells_post r) _ _ _ from ?_)
  rw [sky_Cells] at h
  have hH := Has.nil (frozen M)
  refine Run.seq (Run.region ?_)
  refine Run.opG wantS_none (ex_assign rfl) rfl ?_
  refine Run.opG wantS_none (ex_assign rfl) rfl ?_
  refine Run.opsEnd (Run.seq (Run.seq (Run.region ?_)))
  refine Run.opG wantS_none (ex_move rfl) rfl ?_
  obtain ⟨r22, hr22, h⟩ := bnd_some h
  refine Run.callP wantS_none (ex_call rfl mkk48 cal48) rfl (sky_checkGrid_ok F a0 _ _ hr22) ?_
  refine Run.opG wantS_none (ex_assign rfl) rfl ?_
  refine Run.opsEnd (Run.seq (Run.region ?_))
  refine Run.opG wantS_none (ex_move rfl) rfl ?_
  refine Run.opG wantS_none (ex_neq rfl rfl) rfl ?_
  refine Run.opsEnd ?_
  rcases btf ((!(r22 == (0 : Int)))) with hc24 | hc24
  · have h := bif_t hc24 h
    refine Run.condT' rfl hc24 ?_
    refine Run.seq (Run.region ?_)
    refine Run.opG wantS_none (ex_move rfl) rfl ?_
    refine Run.opG wantS_none (ex_assign rfl) rfl ?_
    refine Run.opG wantS_none (ex_assign rfl) rfl ?_
    refine Run.opsEnd ?_
    cases h
    exact Run.ret Tryz.func12 rfl (res_tmp rfl (res_tmp rfl res_nil)) rfl
  · have h := bif_f hc24 h
    refine Run.condF' rfl hc24 ?_
    refine Run.skip (Run.seq (Run.region ?_))
    refine Run.opG wantS_none (ex_move rfl) rfl ?_
    obtain ⟨r26, hr26, h⟩ := bnd_some h
    refine Run.callP wantS_none (ex_call rfl mkk49 cal49) rfl (sky_grid_cells_ok F a0 _ _ hr26) ?_
    refine Run.opG wantS_none (ex_assign rfl) rfl ?_
    refine Run.opG wantS_none (ex_assign rfl) rfl ?_
    refine Run.opsEnd ?_
    cases h
    exact Run.ret Tryz.func12 rfl (res_tmp rfl (res_tmp rfl res_nil)) rfl

theorem mkk12 : makeK Tryz.prog 12 = none := by kernel_rfl
theorem cal12 : callable Tryz.prog 12 = true := by kernel_rfl
abbrev ref00_In_post (r : Bool) : SV → Mem → Prop := fun s _ => s = (.bool r)

def ref00_In_1 (F : Nat) (v14 : Bool) : Option (Bool) :=
  some v14

theorem ref00_In_1_ok (F : Nat) : ∀ (v14 : Bool) (Fr : Rd) (M : Mem) (r : Bool) (hH : Has Fr M []), ref00_In_1 F v14 = some r → Run Tryz.prog ⟨⟨36, [], none⟩, []⟩ 15 (ref00_In_post r) [(14, (.bool v14))] [itemC Tryz.prog 36 [1, 0] 8, codeC Tryz.prog 36 [1, 1]] M := by
  intro v14 Fr M r hH h
  rw [ref00_In_1] at h
  refine Run.opG wantS_none (ex_assign rfl) rfl ?_
  refine Run.opsEnd ?_
  cases h
  exact Run.ret Tryz.func36 rfl (res_tmp rfl res_nil) rfl

def ref00_In (F : Nat) (a0 : Int) (a1 : Int) (a2 : Int) : Option (Bool) :=
  bif (decide (a1 ≤ a0)) then
    ref00_In_1 F (decide (a0 ≤ a2))
  else
    ref00_In_1 F false

theorem ref00_In_ok (F : Nat) (a0 : Int) (a1 : Int) (a2 : Int) (r : Bool) (M : Mem) (h : ref00_In F a0 a1 a2 = some r) : CallsM Tryz.prog 36 [(.int .i64 a0), (.int .i64 a1), (.int .i64 a2)] M (fun s M' => s = (.bool r) ∧ M' = M) := by
  refine CallsM.plain Tryz.func36 rfl rfl rfl (show Run _ _ _ (ref00_In_post r) _ _ _ from ?_)
  rw [ref00_In] at h
  have hH := Has.nil (frozen M)
  refine Run.seq (Run.region ?_)
  refine Run.opG wantS_none (ex_assign rfl) rfl ?_
  refine Run.opsEnd (Run.seq (Run.region ?_))
  refine Run.opG wantS_none (ex_move rfl) rfl ?_
  refine Run.opG wantS_none (ex_move rfl) rfl ?_
  refine Run.opG wantS_none (ex_leq rfl rfl) rfl ?_
  refine Run.opG wantS_none (ex_move rfl) rfl ?_
  rcases btf ((decide (a1 ≤ a0))) with hc21 | hc21
  · have h := bif_t hc21 h
    refine Run.opG (wantS_yes' rfl rfl hc21) (ex_move rfl) rfl ?_
    refine Run.opG (wantS_yes' rfl rfl hc21) (ex_move rfl) rfl ?_
    refine Run.opG (wantS_yes' rfl rfl hc21) (ex_leq rfl rfl) rfl ?_
    refine Run.opG wantS_none (ex_pickT' rfl hc21 rfl rfl) rfl ?_
    exact Run.pick [14] (ref00_In_1_ok F (decide (a0 ≤ a2)) _ _ _ hH h)
  · have h := bif_f hc21 h
    refine Run.no (wantS_not' rfl rfl hc21) rfl ?_
    refine Run.no (wantS_not' rfl rfl hc21) rfl ?_
    refine Run.no (wantS_not' rfl rfl hc21) rfl ?_
    refine Run.opG wantS_none (ex_pickF' rfl hc21 rfl rfl) rfl ?_
    exact Run.pick [14] (ref00_In_1_ok F false _ _ _ hH h)

theorem mkk36 : makeK Tryz.prog 36 = none := by kernel_rfl
theorem cal36 : callable Tryz.prog 36 = true := by kernel_rfl
abbrev ref09_cells_post (r : Int) : SV → Mem → Prop := fun s _ => s = (.int .i64 r)

def ref09_cells (F : Nat) (a0 : Int) : Option (Int) :=
  some (w64 ((w64 ((6 : Int) * a0)) * a0))

theorem ref09_cells_ok (F : Nat) (a0 : Int) (r : Int) (M : Mem) (h : ref09_cells F a0 = some r) : CallsM Tryz.prog 50 [(.int .i64 a0)] M (fun s M' => s = (.int .i64 r) ∧ M' = M) := by
  refine CallsM.plain Tryz.func50 rfl rfl rfl (show Run _ _ _ (ref09_cells_post r) _ _ _ from ?_)
  rw [ref09_cells] at h
  have hH := Has.nil (frozen M)
  refine Run.seq (Run.region ?_)
  refine Run.opG wantS_none (ex_assign rfl) rfl ?_
  refine Run.opsEnd (Run.seq (Run.region ?_))
  refine Run.opG wantS_none (ex_move rfl) rfl ?_
  refine Run.opG wantS_none (ex_mul rfl rfl) rfl ?_
  refine Run.opG wantS_none (ex_move rfl) rfl ?_
  refine Run.opG wantS_none (ex_mul rfl rfl) rfl ?_
  refine Run.opG wantS_none (ex_assign rfl) rfl ?_
  refine Run.opsEnd ?_
  cases h
  exact Run.ret Tryz.func50 rfl (res_tmp rfl res_nil) rfl

theorem mkk50 : makeK Tryz.prog 50 = none := by kernel_rfl
theorem cal50 : callable Tryz.prog 50 = true := by kernel_rfl
abbrev ref09_Cells_post (r : Int × Int) : SV → Mem → Prop := fun s _ => s = (.tuple [(.int .i64 r.1), (.int .i64 r.2)])

def ref09_Cells (F : Nat) (a0 : Int) : Option (Int × Int) :=
  bnd (ref00_In F a0 (1 : Int) (8 : Int)) fun r22 =>
  bif (!r22) then
    some ((0 : Int), (91 : Int))
  else
    bnd (ref09_cells F a0) fun r26 =>
    some (r26, (0 : Int))

theorem ref09_Cells_ok (F : Nat) (a0 : Int) (r : Int × Int) (M : Mem) (h : ref09_Cells F a0 = some r) : CallsM Tryz.prog 13 [(.int .i64 a0)] M (fun s M' => s = (.tuple [(.int .i64 r.1), (.int .i64 r.2)]) ∧ M' = M) := by
  refine CallsM.plain Tryz.func13 rfl rfl rfl (show Run _ _ _ (ref09_Cells_post r) _ _ _ from ?_)
  rw [ref09_Cells] at h
  have hH := Has.nil (frozen M)
  refine Run.seq (Run.region ?_)
  refine Run.opG wantS_none (ex_assign rfl) rfl ?_
  refine Run.opG wantS_none (ex_assign rfl) rfl ?_
  refine Run.opsEnd (Run.seq (Run.seq (Run.region ?_)))
  refine Run.opG wantS_none (ex_move rfl) rfl ?_
  obtain ⟨r22, hr22, h⟩ := bnd_some h
  refine Run.callP wantS_none (ex_call rfl mkk36 cal36) rfl (ref00_In_ok F a0 (1 : Int) (8 : Int) _ _ hr22) ?_
  refine Run.opG wantS_none (ex_not rfl) rfl ?_
  refine Run.opsEnd ?_
  rcases btf ((!r22)) with hc24 | hc24
  · have h := bif_t hc24 h
    refine Run.condT' rfl hc24 ?_
    refine Run.seq (Run.region ?_)
    refine Run.opG wantS_none (ex_assign rfl) rfl ?_
    refine Run.opG wantS_none (ex_assign rfl) rfl ?_
    refine Run.opsEnd ?_
    cases h
    exact Run.ret Tryz.func13 rfl (res_tmp rfl (res_tmp rfl res_nil)) rfl
  · have h := bif_f hc24 h
    refine Run.condF' rfl hc24 ?_
    refine Run.skip (Run.seq (Run.region ?_))
    refine Run.opG wantS_none (ex_move rfl) rfl ?_
    obtain ⟨r26, hr26, h⟩ := bnd_some h
    refine Run.callP wantS_none (ex_call rfl mkk50 cal50) rfl (ref09_cells_ok F a0 _ _ hr26) ?_
    refine Run.opG wantS_none (ex_assign rfl) rfl ?_
    refine Run.opG wantS_none (ex_assign rfl) rfl ?_
    refine Run.opsEnd ?_
    cases h
    exact Run.ret Tryz.func13 rfl (res_tmp rfl (res_tmp rfl res_nil)) rfl

theorem mkk13 : makeK Tryz.prog 13 = none := by kernel_rfl
theorem cal13 : callable Tryz.prog 13 = true := by kernel_rfl
theorem zer22 : zerosOf Tryz.prog 22 = some [(.int .i64 0), (.int .i64 0), (.int .i64 0)] := by kernel_rfl
abbrev sky_grid_isCell_post (r : Bool) : SV → Mem → Prop := fun s _ => s = (.bool r)

def sky_grid_isCell (F : Nat) (a0 : Int) (a1 : Int) : Option (Bool) :=
  bnd (sky_grid_cells F a0) fun r22 =>
  bnd (sky_isFrom F (0 : Int) a1 (w64 (r22 - (1 : Int)))) fun r25 =>
  some r25

theorem sky_grid_isCell_ok (F : Nat) (a0 : Int) (a1 : Int) (r : Bool) (M : Mem) (h : sky_grid_isCell F a0 a1 = some r) : CallsM Tryz.prog 106 [(.int .i64 a0), (.int .i64 a1)] M (fun s M' => s = (.bool r) ∧ M' = M) := by
  refine CallsM.plain Tryz.func106 rfl rfl rfl (show Run _ _ _ (sky_grid_isCell_post r) _ _ _ from ?_)
  rw [sky_grid_isCell] at h
  have hH := Has.nil (frozen M)
  refine Run.seq (Run.region ?_)
  refine Run.opG wantS_none (ex_assign rfl) rfl ?_
  refine Run.opsEnd (Run.seq (Run.region ?_))
  refine Run.opG wantS_none (ex_move rfl) rfl ?_
  refine Run.opG wantS_none (ex_move rfl) rfl ?_
  obtain ⟨r22, hr22, h⟩ := bnd_some h
  refine Run.callP wantS_none (ex_call rfl mkk49 cal49) rfl (sky_grid_cells_ok F a0 _ _ hr22) ?_
  refine Run.opG wantS_none (ex_sub rfl rfl) rfl ?_
  obtain ⟨r25, hr25, h⟩ := bnd_some h
  refine Run.callP wantS_none (ex_call rfl mkk62 cal62) rfl (sky_isFrom_ok F (0 : Int) a1 (w64 (r22 - (1 : Int))) _ _ hr25) ?_
  refine Run.opG wantS_none (ex_assign rfl) rfl ?_
  refine Run.opsEnd ?_
  cases h
  exact Run.ret Tryz.func106 rfl (res_tmp rfl res_nil) rfl

theorem mkk106 : makeK Tryz.prog 106 = none := by kernel_rfl
theorem cal106 : callable Tryz.prog 106 = true := by kernel_rfl
abbrev sky_checkCell_post (r : Int) : SV → Mem → Prop := fun s _ => s = (.int .i64 r)

def sky_checkCell_1 (F : Nat) (v13 : Bool) : Option (Int) :=
  bif v13 then
    some (91 : Int)
  else
    some (0 : Int)

theorem sky_checkCell_1_ok (F : Nat) : ∀ (v13 : Bool) (Fr : Rd) (M : Mem) (r : Int) (hH : Has Fr M []), sky_checkCell_1 F v13 = some r → Run Tryz.prog ⟨⟨51, [], none⟩, []⟩ 14 (sky_checkCell_post r) [(13, (.bool v13))] [codeC Tryz.prog 51 [1, 0, 1], codeC Tryz.prog 51 [1, 1]] M := by
  intro v13 Fr M r hH h
  rw [sky_checkCell_1] at h
  rcases btf (v13) with hc25 | hc25
  · have h := bif_t hc25 h
    refine Run.condT' rfl hc25 ?_
    refine Run.seq (Run.region ?_)
    refine Run.opG wantS_none (ex_assign rfl) rfl ?_
    refine Run.opsEnd ?_
    cases h
    exact Run.ret Tryz.func51 rfl (res_tmp rfl res_nil) rfl
  · have h := bif_f hc25 h
    refine Run.condF' rfl hc25 ?_
    refine Run.skip (Run.seq (Run.region ?_))
    refine Run.opG wantS_none (ex_assign rfl) rfl ?_
    refine Run.opsEnd ?_
    cases h
    exact Run.ret Tryz.func51 rfl (res_tmp rfl res_nil) rfl

def sky_checkCell (F : Nat) (a0 : Int) (a1 : Int) : Option (Int) :=
  bnd (sky_grid_isValid F a0) fun r22 =>
  bif (!r22) then
    sky_checkCell_1 F true
  else
    bnd (sky_grid_isCell F a0 a1) fun r27 =>
    sky_checkCell_1 F (!r27)

theorem sky_checkCell_ok (F : Nat) (a0 : Int) (a1 : Int) (r : Int) (M : Mem) (h : sky_checkCell F a0 a1 = some r) : CallsM Tryz.prog 51 [(.int .i64 a0), (.int .i64 a1)] M (fun s M' => s = (.int .i64 r) ∧ M' = M) := by
  refine CallsM.plain Tryz.func51 rfl rfl rfl (show Run _ _ _ (sky_checkCell_post r) _ _ _ from ?_)
  rw [sky_checkCell] at h
  have hH := Has.nil (frozen M)
  refine Run.seq (Run.region ?_)
  refine Run.opG wantS_none (ex_assign rfl) rfl ?_
  refine Run.opsEnd (Run.seq (Run.seq (Run.region ?_)))
  refine Run.opG wantS_none (ex_move rfl) rfl ?_
  obtain ⟨r22, hr22, h⟩ := bnd_some h
  refine Run.callP wantS_none (ex_call rfl mkk105 cal105) rfl (sky_grid_isValid_ok F a0 _ _ hr22) ?_
  refine Run.opG wantS_none (ex_not rfl) rfl ?_
  refine Run.opG wantS_none (ex_move rfl) rfl ?_
  rcases btf ((!r22)) with hc24 | hc24
  · have h := bif_t hc24 h
    refine Run.no (wantS_not' rfl rfl hc24) rfl ?_
    refine Run.no (wantS_not' rfl rfl hc24) rfl ?_
    refine Run.no (wantS_not' rfl rfl hc24) rfl ?_
    refine Run.no (wantS_not' rfl rfl hc24) rfl ?_
    refine Run.opG wantS_none (ex_pickT' rfl hc24 rfl rfl) rfl ?_
    refine Run.opsEnd ?_
    exact Run.pick [13] (sky_checkCell_1_ok F true _ _ _ hH h)
  · have h := bif_f hc24 h
    refine Run.opG (wantS_yes' rfl rfl hc24) (ex_move rfl) rfl ?_
    refine Run.opG (wantS_yes' rfl rfl hc24) (ex_move rfl) rfl ?_
    obtain ⟨r27, hr27, h⟩ := bnd_some h
    refine Run.callP (wantS_yes' rfl rfl hc24) (ex_call rfl mkk106 cal106) rfl (sky_grid_isCell_ok F a0 a1 _ _ hr27) ?_
    refine Run.opG (wantS_yes' rfl rfl hc24) (ex_not rfl) rfl ?_
    refine Run.opG wantS_none (ex_pickF' rfl hc24 rfl rfl) rfl ?_
    refine Run.opsEnd ?_
    exact Run.pick [13] (sky_checkCell_1_ok F (!r27) _ _ _ hH h)

theorem mkk51 : makeK Tryz.prog 51 = none := by kernel_rfl
theorem cal51 : callable Tryz.prog 51 = true := by kernel_rfl
theorem pls22 : placesOf Tryz.prog 22 = some (.ar 1) := by kernel_rfl
theorem sz22 : szOf Tryz.prog 22 = some 3 := by kernel_rfl
theorem agg22 : aggSize Tryz.prog 22 = some (some 3) := by kernel_rfl
theorem zer85 : zerosOf Tryz.prog 85 = some [(.int .i64 0), (.int .i64 0), (.int .i64 0)] := by kernel_rfl
abbrev sky_axes_post (r : Int × Int × Int) : SV → Mem → Prop := fun s _ => s = (.tuple [(.int .i64 r.1), (.int .i64 r.2.1), (.int .i64 r.2.2)])

def sky_axes (F : Nat) (a0 : Int) : Option (Int × Int × Int) :=
  bif ((w64 (Int.tdiv a0 (2 : Int))) == (0 : Int)) then
    some ((0 : Int), (1 : Int), (2 : Int))
  else
    bif ((w64 (Int.tdiv a0 (2 : Int))) == (1 : Int)) then
      some ((1 : Int), (0 : Int), (2 : Int))
    else
      some ((2 : Int), (0 : Int), (1 : Int))

theorem sky_axes_ok (F : Nat) (a0 : Int) (r : Int × Int × Int) (M : Mem) (h : sky_axes F a0 = some r) : CallsM Tryz.prog 107 [(.int .i64 a0)] M (fun s M' => s = (.tuple [(.int .i64 r.1), (.int .i64 r.2.1), (.int .i64 r.2.2)]) ∧ M' = M) := by
  refine CallsM.plain Tryz.func107 rfl rfl rfl (show Run _ _ _ (sky_axes_post r) _ _ _ from ?_)
  rw [sky_axes] at h
  have hH := Has.nil (frozen M)
  refine Run.seq (Run.region ?_)
  refine Run.opG wantS_none (ex_assign rfl) rfl ?_
  refine Run.opG wantS_none (ex_assign rfl) rfl ?_
  refine Run.opG wantS_none (ex_assign rfl) rfl ?_
  refine Run.opsEnd (Run.seq (Run.seq (Run.region ?_)))
  refine Run.opG wantS_none (ex_move rfl) rfl ?_
  refine Run.opG wantS_none (ex_quo rfl rfl (by decide)) rfl ?_
  refine Run.opsEnd (Run.block (Run.seq (Run.region ?_)))
  refine Run.opG wantS_none (ex_eql rfl rfl) rfl ?_
  refine Run.opG wantS_none (ex_assign rfl) rfl ?_
  refine Run.opsEnd ?_
  rcases btf (((w64 (Int.tdiv a0 (2 : Int))) == (0 : Int))) with hc21 | hc21
  · have h := bif_t hc21 h
    refine Run.condT' rfl hc21 ?_
    refine Run.seq (Run.region ?_)
    refine Run.opG wantS_none (ex_assign rfl) rfl ?_
    refine Run.opG wantS_none (ex_assign rfl) rfl ?_
    refine Run.opG wantS_none (ex_assign rfl) rfl ?_
    refine Run.opsEnd ?_
    cases h
    exact Run.ret Tryz.func107 rfl (res_tmp rfl (res_tmp rfl (res_tmp rfl res_nil))) rfl
  · have h := bif_f hc21 h
    refine Run.condF' rfl hc21 ?_
    refine Run.seq (Run.region ?_)
    refine Run.opG wantS_none (ex_eql rfl rfl) rfl ?_
    refine Run.opG wantS_none (ex_assign rfl) rfl ?_
    refine Run.opsEnd ?_
    rcases btf (((w64 (Int.tdiv a0 (2 : Int))) == (1 : Int))) with hc22 | hc22
    · have h := bif_t hc22 h
      refine Run.condT' rfl hc22 ?_
      refine Run.seq (Run.region ?_)
      refine Run.opG wantS_none (ex_assign rfl) rfl ?_
      refine Run.opG wantS_none (ex_assign rfl) rfl ?_
      refine Run.opG wantS_none (ex_assign rfl) rfl ?_
      refine Run.opsEnd ?_
      cases h
      exact Run.ret Tryz.func107 rfl (res_tmp rfl (res_tmp rfl (res_tmp rfl res_nil))) rfl
    · have h := bif_f hc22 h
      refine Run.condF' rfl hc22 ?_
      refine Run.skip (Run.inBlock (Run.seq (Run.region ?_)))
      refine Run.opG wantS_none (ex_assign rfl) rfl ?_
      refine Run.opG wantS_none (ex_assign rfl) rfl ?_
      refine Run.opG wantS_none (ex_assign rfl) rfl ?_
      refine Run.opsEnd ?_
      cases h
      exact Run.ret Tryz.func107 rfl (res_tmp rfl (res_tmp rfl (res_tmp rfl res_nil))) rfl

theorem mkk107 : makeK Tryz.prog 107 = none := by kernel_rfl
theorem cal107 : callable Tryz.prog 107 = true := by kernel_rfl
def enc85 (a : S__3_int) : List SV := [(.int .i64 a.e0), (.int .i64 a.e1), (.int .i64 a.e2)]
theorem enc85_len (a : S__3_int) : (enc85 a).length = 3 := rfl
theorem enc85_ones (a : S__3_int) : ones (enc85 a) = true := rfl
def get85 (a : S__3_int) (o : Nat) : Int := bif Nat.beq o 0 then a.e0 else bif Nat.beq o 1 then a.e1 else a.e2
def set85 (a : S__3_int) (o : Nat) (v : Int) : S__3_int := ⟨bif Nat.beq o 0 then v else a.e0, bif Nat.beq o 1 then v else a.e1, bif Nat.beq o 2 then v else a.e2⟩
theorem get85_cell (a : S__3_int) : ∀ o : Nat, o < 3 → (enc85 a)[o]? = some (.int .i64 (get85 a o))
  | 0, _ => rfl
  | 1, _ => rfl
  | 2, _ => rfl
  | _ + 3, h => absurd h (by omega)
theorem set85_cell (a : S__3_int) (v : Int) : ∀ o : Nat, o < 3 → (enc85 a).set o (.int .i64 v) = enc85 (set85 a o v)
  | 0, _ => rfl
  | 1, _ => rfl
  | 2, _ => rfl
  | _ + 3, h => absurd h (by omega)
theorem els85 : elems Tryz.prog 85 = some (.arr 3 1) := by kernel_rfl
theorem sz3 : szOf Tryz.prog 3 = some 1 := by kernel_rfl
theorem agg85 : aggSize Tryz.prog 85 = some (some 3) := by kernel_rfl
theorem sz85 : szOf Tryz.prog 85 = some 3 := by kernel_rfl
theorem plan52_1_1_0 : planOf Tryz.prog (opsC (atC Tryz.prog 52 [1, 1, 0])) = some [.fl 0, .fl 1, .fl 2, .fl 3, .fl 4, .fl 5, .fl 6, .fl 7, .fl 8, .fl 9, .fl 10, .fl 11, .fl 12, .fl 13, .fl 14, .fl 15, .sync] := by kernel_rfl
abbrev sky_grid_direction_post (r : S__3_int) : SV → Mem → Prop := fun s _ => s = (.agg [(.int .i64 r.e0), (.int .i64 r.e1), (.int .i64 r.e2)])

def sky_grid_direction_1 (F : Nat) (c22 : S__3_int) (c32 : S__3_int) : Option (S__3_int) :=
  some c32

theorem sky_grid_direction_1_ok (F : Nat) : ∀ (c22 : S__3_int) (c32 : S__3_int) (b22 : Pos) (b32 : Pos) (Fr : Rd) (M : Mem) (r : S__3_int) (hH : Has Fr M [.obj b22 (.row 85 .whole [(.int .i64 c22.e0), (.int .i64 c22.e1), (.int .i64 c22.e2)]), .obj b32 (.row 85 .whole [(.int .i64 c32.e0), (.int .i64 c32.e1), (.int .i64 c32.e2)])]), sky_grid_direction_1 F c22 c32 = some r → Run Tryz.prog ⟨⟨52, [], none⟩, []⟩ 58 (sky_grid_direction_post r) [(4, (.ptr b22 0)), (12, (.ptr b32 0))] [itemC Tryz.prog 52 [1, 1, 1, 1, 1, 1, 1, 0] 0, codeC Tryz.prog 52 [1, 1, 1, 1, 1, 1, 1, 1]] M := by
  intro c22 c32 b22 b32 Fr M r hH h
  rw [sky_grid_direction_1] at h
  refine Run.opG wantS_none (ex_loadA rfl (hH.cells (i := 1) rfl 0 rfl) rdLe_rfl agg85 rfl rfl rfl) rfl ?_
  refine Run.opX wantS_none rfl (ExG.storeC (c' := [(.int .i64 c32.e0), (.int .i64 c32.e1), (.int .i64 c32.e2)]) rfl rfl rfl hH (i := 0) rfl sz85 rfl rfl rfl rfl rfl) ?_
  rintro _ M47 ⟨rfl, (hH47 : Has Fr M47 [.obj b22 (.row 85 .whole [(.int .i64 c32.e0), (.int .i64 c32.e1), (.int .i64 c32.e2)]), .obj b32 (.row 85 .whole [(.int .i64 c32.e0), (.int .i64 c32.e1), (.int .i64 c32.e2)])])⟩
  refine Run.opsEnd ?_
  cases h
  exact Run.ret Tryz.func52 rfl (res_cell rfl (x_load (ex_loadA rfl (hH47.cells (i := 0) rfl 0 rfl) rdLe_rfl agg85 rfl rfl rfl)) res_nil) rfl

def sky_grid_direction (F : Nat) (a0 : Int) (a1 : Int) : Option (S__3_int) :=
  bnd (nz (w64 (a0 * a0))) fun z24 =>
  bnd (nz a0) fun z25 =>
  bnd (nz a0) fun z26 =>
  bnd (nz a0) fun z27 =>
  bnd (sky_axes F (w64 (Int.tdiv a1 (w64 (a0 * a0))))) fun r29 =>
  bnd (inA r29.1 3) fun o35 =>
  bnd (inA r29.2.1 3) fun o38 =>
  bnd (inA r29.2.2 3) fun o41 =>
  bif ((Int.tmod (w64 (Int.tdiv a1 (w64 (a0 * a0)))) (2 : Int)) == (1 : Int)) then
    bnd (inA r29.1 3) fun o45 =>
    sky_grid_direction_1 F (S__3_int.mk 0 0 0) (set85 (set85 (set85 (set85 (S__3_int.mk 0 0 0) o35 a0) o38 (w64 ((w64 ((w64 ((2 : Int) * (Int.tmod (w64 (Int.tdiv a1 a0)) a0))) + (1 : Int))) - a0))) o41 (w64 ((w64 ((w64 ((2 : Int) * (Int.tmod a1 a0))) + (1 : Int))) - a0))) o45 (w64 (-a0)))
  else
    sky_grid_direction_1 F (S__3_int.mk 0 0 0) (set85 (set85 (set85 (S__3_int.mk 0 0 0) o35 a0) o38 (w64 ((w64 ((w64 ((2 : Int) * (Int.tmod (w64 (Int.tdiv a1 a0)) a0))) + (1 : Int))) - a0))) o41 (w64 ((w64 ((w64 ((2 : Int) * (Int.tmod a1 a0))) + (1 : Int))) - a0)))

theorem sky_grid_direction_ok (F : Nat) (a0 : Int) (a1 : Int) (r : S__3_int) (M : Mem) (h : sky_grid_direction F a0 a1 = some r) : CallsM Tryz.prog 52 [(.int .i64 a0), (.int .i64 a1)] M (fun s M' => s = (.agg [(.int .i64 r.e0), (.int .i64 r.e1), (.int .i64 r.e2)]) ∧ M' = M) := by
  refine CallsM.plain Tryz.func52 rfl rfl rfl (show Run _ _ _ (sky_grid_direction_post r) _ _ _ from ?_)
  rw [sky_grid_direction] at h
  have hH := Has.nil (frozen M)
  refine Run.seq (Run.region ?_)
  refine Run.opX wantS_none rfl (ExG.new (v := fun b => .ptr b 0) (ex_alloc zer85) hH) ?_
  rintro _ M23 ⟨b22, rfl, (hH23 : Has (ro (frozen M)) M23 [.obj b22 (.row 85 .whole [(.int .i64 0), (.int .i64 0), (.int .i64 0)])])⟩
  refine Run.opsEnd (Run.seq (Run.region ?_))
  refine Run.opG wantS_none (ex_move rfl) rfl ?_
  refine Run.opG wantS_none (ex_assign rfl) rfl ?_
  refine Run.opsEnd (Run.seq ?_)
  refine Run.drawG plan52_1_1_0 ?_
  refine DrawG.fl rfl (ev_ex wantS_none (ex_move rfl)) rfl ?_
  refine DrawG.fl rfl (ev_ex wantS_none (ex_move rfl)) rfl ?_
  refine DrawG.fl rfl (ev_ex wantS_none (ex_move rfl)) rfl ?_
  refine DrawG.fl rfl (ev_ex wantS_none (ex_mul rfl rfl)) rfl ?_
  obtain ⟨z24, hz24, h⟩ := bnd_some h
  refine DrawG.fl rfl (ev_ex wantS_none (ex_quo' rfl rfl hz24)) rfl ?_
  refine DrawG.fl rfl (ev_ex wantS_none (ex_move rfl)) rfl ?_
  refine DrawG.fl rfl (ev_ex wantS_none (ex_move rfl)) rfl ?_
  obtain ⟨z25, hz25, h⟩ := bnd_some h
  refine DrawG.fl rfl (ev_ex wantS_none (ex_quo' rfl rfl hz25)) rfl ?_
  refine DrawG.fl rfl (ev_ex wantS_none (ex_move rfl)) rfl ?_
  obtain ⟨z26, hz26, h⟩ := bnd_some h
  refine DrawG.fl rfl (ev_ex wantS_none (ex_rem' rfl rfl hz26)) rfl ?_
  refine DrawG.fl rfl (ev_ex wantS_none (ex_move rfl)) rfl ?_
  refine DrawG.fl rfl (ev_ex wantS_none (ex_move rfl)) rfl ?_
  obtain ⟨z27, hz27, h⟩ := bnd_some h
  refine DrawG.fl rfl (ev_ex wantS_none (ex_rem' rfl rfl hz27)) rfl ?_
  refine DrawG.fl rfl (ev_ex wantS_none (ex_assign rfl)) rfl ?_
  refine DrawG.fl rfl (ev_ex wantS_none (ex_assign rfl)) rfl ?_
  refine DrawG.fl rfl (ev_ex wantS_none (ex_assign rfl)) rfl ?_
  refine DrawG.sync ?_
  refine DrawG.nil ?_
  refine Run.seq (Run.region ?_)
  refine Run.opG wantS_none (ex_move rfl) rfl ?_
  obtain ⟨r29, hr29, h⟩ := bnd_some h
  refine Run.callP wantS_none (ex_call rfl mkk107 cal107) rfl (sky_axes_ok F (w64 (Int.tdiv a1 (w64 (a0 * a0)))) _ _ hr29) ?_
  refine Run.opG wantS_none (ex_move rfl) rfl ?_
  refine Run.opG wantS_none (ex_extract rfl rfl) rfl ?_
  refine Run.opG wantS_none (ex_extract rfl rfl) rfl ?_
  refine Run.opG wantS_none (ex_extract rfl rfl) rfl ?_
  refine Run.opG wantS_none (ex_assign rfl) rfl ?_
  refine Run.opG wantS_none (ex_assign rfl) rfl ?_
  refine Run.opG wantS_none (ex_assign rfl) rfl ?_
  refine Run.opsEnd (Run.seq (Run.region ?_))
  refine Run.opX wantS_none rfl (ExG.new (v := fun b => .ptr b 0) (ex_alloc zer85) hH23) ?_
  rintro _ M33 ⟨b32, rfl, (hH33 : Has (ro (frozen M)) M33 [.obj b32 (.row 85 .whole [(.int .i64 0), (.int .i64 0), (.int .i64 0)]), .obj b22 (.row 85 .whole [(.int .i64 0), (.int .i64 0), (.int .i64 0)])])⟩
  refine Run.opsEnd (Run.seq (Run.region ?_))
  refine Run.opG wantS_none (ex_move rfl) rfl ?_
  refine Run.opG wantS_none (ex_move rfl) rfl ?_
  refine Run.opG wantS_none (ex_move rfl) rfl ?_
  refine Run.opG wantS_none (ex_move rfl) rfl ?_
  refine Run.opG wantS_none (ex_move rfl) rfl ?_
  refine Run.opG wantS_none (ex_mul rfl rfl) rfl ?_
  refine Run.opG wantS_none (ex_add rfl rfl) rfl ?_
  refine Run.opG wantS_none (ex_move rfl) rfl ?_
  refine Run.opG wantS_none (ex_sub rfl rfl) rfl ?_
  refine Run.opG wantS_none (ex_move rfl) rfl ?_
  refine Run.opG wantS_none (ex_mul rfl rfl) rfl ?_
  refine Run.opG wantS_none (ex_add rfl rfl) rfl ?_
  refine Run.opG wantS_none (ex_move rfl) rfl ?_
  refine Run.opG wantS_none (ex_sub rfl rfl) rfl ?_
  obtain ⟨o35, ho35, h⟩ := bnd_some h
  refine Run.opG wantS_none (ex_elX rfl rfl (arr_place (inA_natIn ho35) els85)) rfl ?_
  refine Run.opX wantS_none rfl (ExG.storeV (off := 0) (cs := enc85 (S__3_int.mk 0 0 0)) (a' := enc85 (set85 (S__3_int.mk 0 0 0) o35 a0)) (c' := [(.int .i64 (set85 (S__3_int.mk 0 0 0) o35 a0).e0), (.int .i64 (set85 (S__3_int.mk 0 0 0) o35 a0).e1), (.int .i64 (set85 (S__3_int.mk 0 0 0) o35 a0).e2)]) rfl rfl rfl hH33 (i := 0) rfl sz3 rfl (inA_lt ho35) rfl (set85_cell (S__3_int.mk 0 0 0) a0 o35 (inA_lt ho35)) rfl) ?_
  rintro _ M36 ⟨rfl, (hH36 : Has (ro (frozen M)) M36 [.obj b32 (.row 85 .whole [(.int .i64 (set85 (S__3_int.mk 0 0 0) o35 a0).e0), (.int .i64 (set85 (S__3_int.mk 0 0 0) o35 a0).e1), (.int .i64 (set85 (S__3_int.mk 0 0 0) o35 a0).e2)]), .obj b22 (.row 85 .whole [(.int .i64 0), (.int .i64 0), (.int .i64 0)])])⟩
  obtain ⟨o38, ho38, h⟩ := bnd_some h
  refine Run.opG wantS_none (ex_elX rfl rfl (arr_place (inA_natIn ho38) els85)) rfl ?_
  refine Run.opX wantS_none rfl (ExG.storeV (off := 0) (cs := enc85 (set85 (S__3_int.mk 0 0 0) o35 a0)) (a' := enc85 (set85 (set85 (S__3_int.mk 0 0 0) o35 a0) o38 (w64 ((w64 ((w64 ((2 : Int) * (Int.tmod (w64 (Int.tdiv a1 a0)) a0))) + (1 : Int))) - a0)))) (c' := [(.int .i64 (set85 (set85 (S__3_int.mk 0 0 0) o35 a0) o38 (w64 ((w64 ((w64 ((2 : Int) * (Int.tmod (w64 (Int.tdiv a1 a0)) a0))) + (1 : Int))) - a0))).e0), (.int .i64 (set85 (set85 (S__3_int.mk 0 0 0) o35 a0) o38 (w64 ((w64 ((w64 ((2 : Int) * (Int.tmod (w64 (Int.tdiv a1 a0)) a0))) + (1 : Int))) - a0))).e1), (.int .i64 (set85 (set85 (S__3_int.mk 0 0 0) o35 a0) o38 (w64 ((w64 ((w64 ((2 : Int) * (Int.tmod (w64 (Int.tdiv a1 a0)) a0))) + (1 : Int))) - a0))).e2)]) rfl rfl rfl hH36 (i := 0) rfl sz3 rfl (inA_lt ho38) rfl (set85_cell (set85 (S__3_int.mk 0 0 0) o35 a0) (w64 ((w64 ((w64 ((2 : Int) * (Int.tmod (w64 (Int.tdiv a1 a0)) a0))) + (1 : Int))) - a0)) o38 (inA_lt ho38)) rfl) ?_
  rintro _ M39 ⟨rfl, (hH39 : Has (ro (frozen M)) M39 [.obj b32 (.row 85 .whole [(.int .i64 (set85 (set85 (S__3_int.mk 0 0 0) o35 a0) o38 (w64 ((w64 ((w64 ((2 : Int) * (Int.tmod (w64 (Int.tdiv a1 a0)) a0))) + (1 : Int))) - a0))).e0), (.int .i64 (set85 (set85 (S__3_int.mk 0 0 0) o35 a0) o38 (w64 ((w64 ((w64 ((2 : Int) * (Int.tmod (w64 (Int.tdiv a1 a0)) a0))) + (1 : Int))) - a0))).e1), (.int .i64 (set85 (set85 (S__3_int.mk 0 0 0) o35 a0) o38 (w64 ((w64 ((w64 ((2 : Int) * (Int.tmod (w64 (Int.tdiv a1 a0)) a0))) + (1 : Int))) - a0))).e2)]), .obj b22 (.row 85 .whole [(.int .i64 0), (.int .i64 0), (.int .i64 0)])])⟩
  obtain ⟨o41, ho41, h⟩ := bnd_some h
  refine Run.opG wantS_none (ex_elX rfl rfl (arr_place (inA_natIn ho41) els85)) rfl ?_
  refine Run.opX wantS_none rfl (ExG.storeV (off := 0) (cs := enc85 (set85 (set85 (S__3_int.mk 0 0 0) o35 a0) o38 (w64 ((w64 ((w64 ((2 : Int) * (Int.tmod (w64 (Int.tdiv a1 a0)) a0))) + (1 : Int))) - a0)))) (a' := enc85 (set85 (set85 (set85 (S__3_int.mk 0 0 0) o35 a0) o38 (w64 ((w64 ((w64 ((2 : Int) * (Int.tmod (w64 (Int.tdiv a1 a0)) a0))) + (1 : Int))) - a0))) o41 (w64 ((w64 ((w64 ((2 : Int) * (Int.tmod a1 a0))) + (1 : Int))) - a0)))) (c' := [(.int .i64 (set85 (set85 (set85 (S__3_int.mk 0 0 0) o35 a0) o38 (w64 ((w64 ((w64 ((2 : Int) * (Int.tmod (w64 (Int.tdiv a1 a0)) a0))) + (1 : Int))) - a0))) o41 (w64 ((w64 ((w64 ((2 : Int) * (Int.tmod a1 a0))) + (1 : Int))) - a0))).e0), (.int .i64 (set85 (set85 (set85 (S__3_int.mk 0 0 0) o35 a0) o38 (w64 ((w64 ((w64 ((2 : Int) * (Int.tmod (w64 (Int.tdiv a1 a0)) a0))) + (1 : Int))) - a0))) o41 (w64 ((w64 ((w64 ((2 : Int) * (Int.tmod a1 a0))) + (1 : Int))) - a0))).e1), (.int .i64 (set85 (set85 (set85 (S__3_int.mk 0 0 0) o35 a0) o38 (w64 ((w64 ((w64 ((2 : Int) * (Int.tmod (w64 (Int.tdiv a1 a0)) a0))) + (1 : Int))) - a0))) o41 (w64 ((w64 ((w64 ((2 : Int) * (Int.tmod a1 a0))) + (1 : Int))) - a0))).e2)]) rfl rfl rfl hH39 (i := 0) rfl sz3 rfl (inA_lt ho41) rfl (set85_cell (set85 (set85 (S__3_int.mk 0 0 0) o35 a0) o38 (w64 ((w64 ((w64 ((2 : Int) * (Int.tmod (w64 (Int.tdiv a1 a0)) a0))) + (1 : Int))) - a0))) (w64 ((w64 ((w64 ((2 : Int) * (Int.tmod a1 a0))) + (1 : Int))) - a0)) o41 (inA_lt ho41)) rfl) ?_
  rintro _ M42 ⟨rfl, (hH42 : Has (ro (frozen M)) M42 [.obj b32 (.row 85 .whole [(.int .i64 (set85 (set85 (set85 (S__3_int.mk 0 0 0) o35 a0) o38 (w64 ((w64 ((w64 ((2 : Int) * (Int.tmod (w64 (Int.tdiv a1 a0)) a0))) + (1 : Int))) - a0))) o41 (w64 ((w64 ((w64 ((2 : Int) * (Int.tmod a1 a0))) + (1 : Int))) - a0))).e0), (.int .i64 (set85 (set85 (set85 (S__3_int.mk 0 0 0) o35 a0) o38 (w64 ((w64 ((w64 ((2 : Int) * (Int.tmod (w64 (Int.tdiv a1 a0)) a0))) + (1 : Int))) - a0))) o41 (w64 ((w64 ((w64 ((2 : Int) * (Int.tmod a1 a0))) + (1 : Int))) - a0))).e1), (.int .i64 (set85 (set85 (set85 (S__3_int.mk 0 0 0) o35 a0) o38 (w64 ((w64 ((w64 ((2 : Int) * (Int.tmod (w64 (Int.tdiv a1 a0)) a0))) + (1 : Int))) - a0))) o41 (w64 ((w64 ((w64 ((2 : Int) * (Int.tmod a1 a0))) + (1 : Int))) - a0))).e2)]), .obj b22 (.row 85 .whole [(.int .i64 0), (.int .i64 0), (.int .i64 0)])])⟩
  refine Run.opsEnd (Run.seq (Run.seq (Run.region ?_)))
  refine Run.opG wantS_none (ex_move rfl) rfl ?_
  refine Run.opG wantS_none (ex_rem rfl rfl (by decide)) rfl ?_
  refine Run.opG wantS_none (ex_eql rfl rfl) rfl ?_
  refine Run.opsEnd ?_
  rcases btf (((Int.tmod (w64 (Int.tdiv a1 (w64 (a0 * a0)))) (2 : Int)) == (1 : Int))) with hc43 | hc43
  · have h := bif_t hc43 h
    refine Run.condT' rfl hc43 ?_
    refine Run.region ?_
    refine Run.opG wantS_none (ex_move rfl) rfl ?_
    refine Run.opG wantS_none (ex_move rfl) rfl ?_
    refine Run.opG wantS_none (ex_neg rfl) rfl ?_
    obtain ⟨o45, ho45, h⟩ := bnd_some h
    refine Run.opG wantS_none (ex_elX rfl rfl (arr_place (inA_natIn ho45) els85)) rfl ?_
    refine Run.opX wantS_none rfl (ExG.storeV (off := 0) (cs := enc85 (set85 (set85 (set85 (S__3_int.mk 0 0 0) o35 a0) o38 (w64 ((w64 ((w64 ((2 : Int) * (Int.tmod (w64 (Int.tdiv a1 a0)) a0))) + (1 : Int))) - a0))) o41 (w64 ((w64 ((w64 ((2 : Int) * (Int.tmod a1 a0))) + (1 : Int))) - a0)))) (a' := enc85 (set85 (set85 (set85 (set85 (S__3_int.mk 0 0 0) o35 a0) o38 (w64 ((w64 ((w64 ((2 : Int) * (Int.tmod (w64 (Int.tdiv a1 a0)) a0))) + (1 : Int))) - a0))) o41 (w64 ((w64 ((w64 ((2 : Int) * (Int.tmod a1 a0))) + (1 : Int))) - a0))) o45 (w64 (-a0)))) (c' := [(.int .i64 (set85 (set85 (set85 (set85 (S__3_int.mk 0 0 0) o35 a0) o38 (w64 ((w64 ((w64 ((2 : Int) * (Int.tmod (w64 (Int.tdiv a1 a0)) a0))) + (1 : Int))) - a0))) o41 (w64 ((w64 ((w64 ((2 : Int) * (Int.tmod a1 a0))) + (1 : Int))) - a0))) o45 (w64 (-a0))).e0), (.int .i64 (set85 (set85 (set85 (set85 (S__3_int.mk 0 0 0) o35 a0) o38 (w64 ((w64 ((w64 ((2 : Int) * (Int.tmod (w64 (Int.tdiv a1 a0)) a0))) + (1 : Int))) - a0))) o41 (w64 ((w64 ((w64 ((2 : Int) * (Int.tmod a1 a0))) + (1 : Int))) - a0))) o45 (w64 (-a0))).e1), (.int .i64 (set85 (set85 (set85 (set85 (S__3_int.mk 0 0 0) o35 a0) o38 (w64 ((w64 ((w64 ((2 : Int) * (Int.tmod (w64 (Int.tdiv a1 a0)) a0))) + (1 : Int))) - a0))) o41 (w64 ((w64 ((w64 ((2 : Int) * (Int.tmod a1 a0))) + (1 : Int))) - a0))) o45 (w64 (-a0))).e2)]) rfl rfl rfl hH42 (i := 0) rfl sz3 rfl (inA_lt ho45) rfl (set85_cell (set85 (set85 (set85 (S__3_int.mk 0 0 0) o35 a0) o38 (w64 ((w64 ((w64 ((2 : Int) * (Int.tmod (w64 (Int.tdiv a1 a0)) a0))) + (1 : Int))) - a0))) o41 (w64 ((w64 ((w64 ((2 : Int) * (Int.tmod a1 a0))) + (1 : Int))) - a0))) (w64 (-a0)) o45 (inA_lt ho45)) rfl) ?_
    rintro _ M46 ⟨rfl, (hH46 : Has (ro (frozen M)) M46 [.obj b32 (.row 85 .whole [(.int .i64 (set85 (set85 (set85 (set85 (S__3_int.mk 0 0 0) o35 a0) o38 (w64 ((w64 ((w64 ((2 : Int) * (Int.tmod (w64 (Int.tdiv a1 a0)) a0))) + (1 : Int))) - a0))) o41 (w64 ((w64 ((w64 ((2 : Int) * (Int.tmod a1 a0))) + (1 : Int))) - a0))) o45 (w64 (-a0))).e0), (.int .i64 (set85 (set85 (set85 (set85 (S__3_int.mk 0 0 0) o35 a0) o38 (w64 ((w64 ((w64 ((2 : Int) * (Int.tmod (w64 (Int.tdiv a1 a0)) a0))) + (1 : Int))) - a0))) o41 (w64 ((w64 ((w64 ((2 : Int) * (Int.tmod a1 a0))) + (1 : Int))) - a0))) o45 (w64 (-a0))).e1), (.int .i64 (set85 (set85 (set85 (set85 (S__3_int.mk 0 0 0) o35 a0) o38 (w64 ((w64 ((w64 ((2 : Int) * (Int.tmod (w64 (Int.tdiv a1 a0)) a0))) + (1 : Int))) - a0))) o41 (w64 ((w64 ((w64 ((2 : Int) * (Int.tmod a1 a0))) + (1 : Int))) - a0))) o45 (w64 (-a0))).e2)]), .obj b22 (.row 85 .whole [(.int .i64 0), (.int .i64 0), (.int .i64 0)])])⟩
    refine Run.opsEnd (Run.seq (Run.region ?_))
    exact Run.pick [4, 12] (sky_grid_direction_1_ok F (S__3_int.mk 0 0 0) (set85 (set85 (set85 (set85 (S__3_int.mk 0 0 0) o35 a0) o38 (w64 ((w64 ((w64 ((2 : Int) * (Int.tmod (w64 (Int.tdiv a1 a0)) a0))) + (1 : Int))) - a0))) o41 (w64 ((w64 ((w64 ((2 : Int) * (Int.tmod a1 a0))) + (1 : Int))) - a0))) o45 (w64 (-a0))) b22 b32 _ _ _ (hH46.pick [1, 0] rfl rfl) h)
  · have h := bif_f hc43 h
    refine Run.condF' rfl hc43 ?_
    refine Run.skip (Run.seq (Run.region ?_))
    exact Run.pick [4, 12] (sky_grid_direction_1_ok F (S__3_int.mk 0 0 0) (set85 (set85 (set85 (S__3_int.mk 0 0 0) o35 a0) o38 (w64 ((w64 ((w64 ((2 : Int) * (Int.tmod (w64 (Int.tdiv a1 a0)) a0))) + (1 : Int))) - a0))) o41 (w64 ((w64 ((w64 ((2 : Int) * (Int.tmod a1 a0))) + (1 : Int))) - a0))) b22 b32 _ _ _ (hH42.pick [1, 0] rfl rfl) h)

theorem mkk52 : makeK Tryz.prog 52 = none := by kernel_rfl
theorem cal52 : callable Tryz.prog 52 = true := by kernel_rfl
abbrev sky_Direction_post (r : S__3_int × Int) : SV → Mem → Prop := fun s _ => s = (.tuple [(.agg [(.int .i64 r.1.e0), (.int .i64 r.1.e1), (.int .i64 r.1.e2)]), (.int .i64 r.2)])

def sky_Direction (F : Nat) (a0 : Int) (a1 : Int) : Option (S__3_int × Int) :=
  bnd (sky_checkCell F a0 a1) fun r25 =>
  bif (!(r25 == (0 : Int))) then
    some ((S__3_int.mk 0 0 0), r25)
  else
    bnd (sky_grid_direction F a0 a1) fun r30 =>
    some (r30, (0 : Int))

theorem sky_Direction_ok (F : Nat) (a0 : Int) (a1 : Int) (r : S__3_int × Int) (M : Mem) (h : sky_Direction F a0 a1 = some r) : CallsM Tryz.prog 14 [(.int .i64 a0), (.int .i64 a1)] M (fun s M' => s = (.tuple [(.agg [(.int .i64 r.1.e0), (.int .i64 r.1.e1), (.int .i64 r.1.e2)]), (.int .i64 r.2)]) ∧ M' = M) := by
  refine CallsM.plain Tryz.func14 rfl rfl rfl (show Run _ _ _ (sky_Direction_post r) _ _ _ from ?_)
  rw [sky_Direction] at h
  have hH := Has.nil (frozen M)
  refine Run.seq (Run.region ?_)
  refine Run.opX wantS_none rfl (ExG.new (v := fun b => .ptr b 0) (ex_alloc zer22) hH) ?_
  rintro _ M23 ⟨b22, rfl, (hH23 : Has (ro (frozen M)) M23 [.obj b22 (.row 22 .whole [(.int .i64 0), (.int .i64 0), (.int .i64 0)])])⟩
  refine Run.opG wantS_none (ex_assign rfl) rfl ?_
  refine Run.opsEnd (Run.seq (Run.seq (Run.region ?_)))
  refine Run.opG wantS_none (ex_move rfl) rfl ?_
  refine Run.opG wantS_none (ex_move rfl) rfl ?_
  obtain ⟨r25, hr25, h⟩ := bnd_some h
  refine Run.callP wantS_none (ex_call rfl mkk51 cal51) rfl (sky_checkCell_ok F a0 a1 _ _ hr25) ?_
  refine Run.opG wantS_none (ex_assign rfl) rfl ?_
  refine Run.opsEnd (Run.seq (Run.region ?_))
  refine Run.opG wantS_none (ex_move rfl) rfl ?_
  refine Run.opG wantS_none (ex_neq rfl rfl) rfl ?_
  refine Run.opsEnd ?_
  rcases btf ((!(r25 == (0 : Int)))) with hc27 | hc27
  · have h := bif_t hc27 h
    refine Run.condT' rfl hc27 ?_
    refine Run.seq (Run.region ?_)
    refine Run.opG wantS_none (ex_buildA (r := [(.int .i64 0), (.int .i64 0), (.int .i64 0)]) rfl zer22 pls22 rfl) rfl ?_
    refine Run.opG wantS_none (ex_move rfl) rfl ?_
    refine Run.opX wantS_none rfl (ExG.storeC (c' := [(.int .i64 0), (.int .i64 0), (.int .i64 0)]) rfl rfl rfl hH23 (i := 0) rfl sz22 rfl rfl rfl rfl rfl) ?_
    rintro _ M28 ⟨rfl, (hH28 : Has (ro (frozen M)) M28 [.obj b22 (.row 22 .whole [(.int .i64 0), (.int .i64 0), (.int .i64 0)])])⟩
    refine Run.opG wantS_none (ex_assign rfl) rfl ?_
    refine Run.opsEnd ?_
    cases h
    exact Run.ret Tryz.func14 rfl (res_cell rfl (x_load (ex_loadA rfl (hH28.cells (i := 0) rfl 0 rfl) rdLe_rfl agg22 rfl rfl rfl)) (res_tmp rfl res_nil)) rfl
  · have h := bif_f hc27 h
    refine Run.condF' rfl hc27 ?_
    refine Run.skip (Run.seq (Run.region ?_))
    refine Run.opG wantS_none (ex_move rfl) rfl ?_
    refine Run.opG wantS_none (ex_move rfl) rfl ?_
    obtain ⟨r30, hr30, h⟩ := bnd_some h
    refine Run.callP wantS_none (ex_call rfl mkk52 cal52) rfl (sky_grid_direction_ok F a0 a1 _ _ hr30) ?_
    refine Run.opX wantS_none rfl (ExG.storeC (c' := [(.int .i64 r30.e0), (.int .i64 r30.e1), (.int .i64 r30.e2)]) rfl rfl rfl hH23 (i := 0) rfl sz22 rfl rfl rfl rfl rfl) ?_
    rintro _ M32 ⟨rfl, (hH32 : Has (ro (frozen M)) M32 [.obj b22 (.row 22 .whole [(.int .i64 r30.e0), (.int .i64 r30.e1), (.int .i64 r30.e2)])])⟩
    refine Run.opG wantS_none (ex_assign rfl) rfl ?_
    refine Run.opsEnd ?_
    cases h
    exact Run.ret Tryz.func14 rfl (res_cell rfl (x_load (ex_loadA rfl (hH32.cells (i := 0) rfl 0 rfl) rdLe_rfl agg22 rfl rfl rfl)) (res_tmp rfl res_nil)) rfl

theorem mkk14 : makeK Tryz.prog 14 = none := by kernel_rfl
theorem cal14 : callable Tryz.prog 14 = true := by kernel_rfl
abbrev ref09_there_post (r : Bool) : SV → Mem → Prop := fun s _ => s = (.bool r)

def ref09_there_1 (F : Nat) (v13 : Bool) : Option (Bool) :=
  some v13

theorem ref09_there_1_ok (F : Nat) : ∀ (v13 : Bool) (Fr : Rd) (M : Mem) (r : Bool) (hH : Has Fr M []), ref09_there_1 F v13 = some r → Run Tryz.prog ⟨⟨53, [], none⟩, []⟩ 14 (ref09_there_post r) [(13, (.bool v13))] [itemC Tryz.prog 53 [1, 0] 9, codeC Tryz.prog 53 [1, 1]] M := by
  intro v13 Fr M r hH h
  rw [ref09_there_1] at h
  refine Run.opG wantS_none (ex_assign rfl) rfl ?_
  refine Run.opsEnd ?_
  cases h
  exact Run.ret Tryz.func53 rfl (res_tmp rfl res_nil) rfl

def ref09_there (F : Nat) (a0 : Int) (a1 : Int) : Option (Bool) :=
  bnd (ref00_In F a0 (1 : Int) (8 : Int)) fun r22 =>
  bif r22 then
    bnd (ref09_cells F a0) fun r26 =>
    bnd (ref00_In F a1 (0 : Int) (w64 (r26 - (1 : Int)))) fun r29 =>
    ref09_there_1 F r29
  else
    ref09_there_1 F false

theorem ref09_there_ok (F : Nat) (a0 : Int) (a1 : Int) (r : Bool) (M : Mem) (h : ref09_there F a0 a1 = some r) : CallsM Tryz.prog 53 [(.int .i64 a0), (.int .i64 a1)] M (fun s M' => s = (.bool r) ∧ M' = M) := by
  refine CallsM.plain Tryz.func53 rfl rfl rfl (show Run _ _ _ (ref09_there_post r) _ _ _ from ?_)
  rw [ref09_there] at h
  have hH := Has.nil (frozen M)
  refine Run.seq (Run.region ?_)
  refine Run.opG wantS_none (ex_assign rfl) rfl ?_
  refine Run.opsEnd (Run.seq (Run.region ?_))
  refine Run.opG wantS_none (ex_move rfl) rfl ?_
  obtain ⟨r22, hr22, h⟩ := bnd_some h
  refine Run.callP wantS_none (ex_call rfl mkk36 cal36) rfl (ref00_In_ok F a0 (1 : Int) (8 : Int) _ _ hr22) ?_
  refine Run.opG wantS_none (ex_move rfl) rfl ?_
  rcases btf (r22) with hc24 | hc24
  · have h := bif_t hc24 h
    refine Run.opG (wantS_yes' rfl rfl hc24) (ex_move rfl) rfl ?_
    refine Run.opG (wantS_yes' rfl rfl hc24) (ex_move rfl) rfl ?_
    obtain ⟨r26, hr26, h⟩ := bnd_some h
    refine Run.callP (wantS_yes' rfl rfl hc24) (ex_call rfl mkk50 cal50) rfl (ref09_cells_ok F a0 _ _ hr26) ?_
    refine Run.opG (wantS_yes' rfl rfl hc24) (ex_sub rfl rfl) rfl ?_
    obtain ⟨r29, hr29, h⟩ := bnd_some h
    refine Run.callP (wantS_yes' rfl rfl hc24) (ex_call rfl mkk36 cal36) rfl (ref00_In_ok F a1 (0 : Int) (w64 (r26 - (1 : Int))) _ _ hr29) ?_
    refine Run.opG wantS_none (ex_pickT' rfl hc24 rfl rfl) rfl ?_
    exact Run.pick [13] (ref09_there_1_ok F r29 _ _ _ hH h)
  · have h := bif_f hc24 h
    refine Run.no (wantS_not' rfl rfl hc24) rfl ?_
    refine Run.no (wantS_not' rfl rfl hc24) rfl ?_
    refine Run.no (wantS_not' rfl rfl hc24) rfl ?_
    refine Run.no (wantS_not' rfl rfl hc24) rfl ?_
    refine Run.no (wantS_not' rfl rfl hc24) rfl ?_
    refine Run.opG wantS_none (ex_pickF' rfl hc24 rfl rfl) rfl ?_
    exact Run.pick [13] (ref09_there_1_ok F false _ _ _ hH h)

theorem mkk53 : makeK Tryz.prog 53 = none := by kernel_rfl
theorem cal53 : callable Tryz.prog 53 = true := by kernel_rfl
theorem plan54_1_0 : planOf Tryz.prog (opsC (atC Tryz.prog 54 [1, 0])) = some [.fl 0, .fl 1, .fl 2, .fl 3, .fl 4, .fl 5, .fl 6, .fl 7, .fl 8, .fl 9, .fl 10, .fl 11, .fl 12, .fl 13, .fl 14, .fl 15, .sync] := by kernel_rfl
abbrev ref09_direction_post (r : S__3_int) : SV → Mem → Prop := fun s _ => s = (.agg [(.int .i64 r.e0), (.int .i64 r.e1), (.int .i64 r.e2)])

def ref09_direction (F : Nat) (a0 : Int) (a1 : Int) : Option (S__3_int) :=
  bnd (nz (w64 (a0 * a0))) fun z24 =>
  bnd (nz a0) fun z25 =>
  bnd (nz a0) fun z26 =>
  bnd (nz a0) fun z27 =>
  bif ((w64 (Int.tdiv a1 (w64 (a0 * a0)))) == (0 : Int)) then
    some (S__3_int.mk a0 (w64 ((w64 ((w64 ((2 : Int) * (Int.tmod (w64 (Int.tdiv a1 a0)) a0))) + (1 : Int))) - a0)) (w64 ((w64 ((w64 ((2 : Int) * (Int.tmod a1 a0))) + (1 : Int))) - a0)))
  else
    bif ((w64 (Int.tdiv a1 (w64 (a0 * a0)))) == (1 : Int)) then
      some (S__3_int.mk (w64 (-a0)) (w64 ((w64 ((w64 ((2 : Int) * (Int.tmod (w64 (Int.tdiv a1 a0)) a0))) + (1 : Int))) - a0)) (w64 ((w64 ((w64 ((2 : Int) * (Int.tmod a1 a0))) + (1 : Int))) - a0)))
    else
      bif ((w64 (Int.tdiv a1 (w64 (a0 * a0)))) == (2 : Int)) then
        some (S__3_int.mk (w64 ((w64 ((w64 ((2 : Int) * (Int.tmod (w64 (Int.tdiv a1 a0)) a0))) + (1 : Int))) - a0)) a0 (w64 ((w64 ((w64 ((2 : Int) * (Int.tmod a1 a0))) + (1 : Int))) - a0)))
      else
        bif ((w64 (Int.tdiv a1 (w64 (a0 * a0)))) == (3 : Int)) then
          some (S__3_int.mk (w64 ((w64 ((w64 ((2 : Int) * (Int.tmod (w64 (Int.tdiv a1 a0)) a0))) + (1 : Int))) - a0)) (w64 (-a0)) (w64 ((w64 ((w64 ((2 : Int) * (Int.tmod a1 a0))) + (1 : Int))) - a0)))
        else
          bif ((w64 (Int.tdiv a1 (w64 (a0 * a0)))) == (4 : Int)) then
            some (S__3_int.mk (w64 ((w64 ((w64 ((2 : Int) * (Int.tmod (w64 (Int.tdiv a1 a0)) a0))) + (1 : Int))) - a0)) (w64 ((w64 ((w64 ((2 : Int) * (Int.tmod a1 a0))) + (1 : Int))) - a0)) a0)
          else
            some (S__3_int.mk (w64 ((w64 ((w64 ((2 : Int) * (Int.tmod (w64 (Int.tdiv a1 a0)) a0))) + (1 : Int))) - a0)) (w64 ((w64 ((w64 ((2 : Int) * (Int.tmod a1 a0))) + (1 : Int))) - a0)) (w64 (-a0)))

theorem ref09_direction_ok (F : Nat) (a0 : Int) (a1 : Int) (r : S__3_int) (M : Mem) (h : ref09_direction F a0 a1 = some r) : CallsM Tryz.prog 54 [(.int .i64 a0), (.int .i64 a1)] M (fun s M' => s = (.agg [(.int .i64 r.e0), (.int .i64 r.e1), (.int .i64 r.e2)]) ∧ M' = M) := by
  refine CallsM.plain Tryz.func54 rfl rfl rfl (show Run _ _ _ (ref09_direction_post r) _ _ _ from ?_)
  rw [ref09_direction] at h
  have hH := Has.nil (frozen M)
  refine Run.seq (Run.region ?_)
  refine Run.opX wantS_none rfl (ExG.new (v := fun b => .ptr b 0) (ex_alloc zer22) hH) ?_
  rintro _ M23 ⟨b22, rfl, (hH23 : Has (ro (frozen M)) M23 [.obj b22 (.row 22 .whole [(.int .i64 0), (.int .i64 0), (.int .i64 0)])])⟩
  refine Run.opsEnd (Run.seq ?_)
  refine Run.drawG plan54_1_0 ?_
  refine DrawG.fl rfl (ev_ex wantS_none (ex_move rfl)) rfl ?_
  refine DrawG.fl rfl (ev_ex wantS_none (ex_move rfl)) rfl ?_
  refine DrawG.fl rfl (ev_ex wantS_none (ex_move rfl)) rfl ?_
  refine DrawG.fl rfl (ev_ex wantS_none (ex_mul rfl rfl)) rfl ?_
  obtain ⟨z24, hz24, h⟩ := bnd_some h
  refine DrawG.fl rfl (ev_ex wantS_none (ex_quo' rfl rfl hz24)) rfl ?_
  refine DrawG.fl rfl (ev_ex wantS_none (ex_move rfl)) rfl ?_
  refine DrawG.fl rfl (ev_ex wantS_none (ex_move rfl)) rfl ?_
  obtain ⟨z25, hz25, h⟩ := bnd_some h
  refine DrawG.fl rfl (ev_ex wantS_none (ex_quo' rfl rfl hz25)) rfl ?_
  refine DrawG.fl rfl (ev_ex wantS_none (ex_move rfl)) rfl ?_
  obtain ⟨z26, hz26, h⟩ := bnd_some h
  refine DrawG.fl rfl (ev_ex wantS_none (ex_rem' rfl rfl hz26)) rfl ?_
  refine DrawG.fl rfl (ev_ex wantS_none (ex_move rfl)) rfl ?_
  refine DrawG.fl rfl (ev_ex wantS_none (ex_move rfl)) rfl ?_
  obtain ⟨z27, hz27, h⟩ := bnd_some h
  refine DrawG.fl rfl (ev_ex wantS_none (ex_rem' rfl rfl hz27)) rfl ?_
  refine DrawG.fl rfl (ev_ex wantS_none (ex_assign rfl)) rfl ?_
  refine DrawG.fl rfl (ev_ex wantS_none (ex_assign rfl)) rfl ?_
  refine DrawG.fl rfl (ev_ex wantS_none (ex_assign rfl)) rfl ?_
  refine DrawG.sync ?_
  refine DrawG.nil ?_
  refine Run.seq (Run.region ?_)
  refine Run.opG wantS_none (ex_move rfl) rfl ?_
  refine Run.opG wantS_none (ex_mul rfl rfl) rfl ?_
  refine Run.opG wantS_none (ex_add rfl rfl) rfl ?_
  refine Run.opG wantS_none (ex_move rfl) rfl ?_
  refine Run.opG wantS_none (ex_sub rfl rfl) rfl ?_
  refine Run.opG wantS_none (ex_move rfl) rfl ?_
  refine Run.opG wantS_none (ex_mul rfl rfl) rfl ?_
  refine Run.opG wantS_none (ex_add rfl rfl) rfl ?_
  refine Run.opG wantS_none (ex_move rfl) rfl ?_
  refine Run.opG wantS_none (ex_sub rfl rfl) rfl ?_
  refine Run.opG wantS_none (ex_assign rfl) rfl ?_
  refine Run.opG wantS_none (ex_assign rfl) rfl ?_
  refine Run.opsEnd (Run.seq (Run.seq (Run.region ?_)))
  refine Run.opG wantS_none (ex_move rfl) rfl ?_
  refine Run.opsEnd (Run.block (Run.seq (Run.region ?_)))
  refine Run.opG wantS_none (ex_eql rfl rfl) rfl ?_
  refine Run.opG wantS_none (ex_assign rfl) rfl ?_
  refine Run.opsEnd ?_
  rcases btf (((w64 (Int.tdiv a1 (w64 (a0 * a0)))) == (0 : Int))) with hc28 | hc28
  · have h := bif_t hc28 h
    refine Run.condT' rfl hc28 ?_
    refine Run.seq (Run.region ?_)
    refine Run.opG wantS_none (ex_move rfl) rfl ?_
    refine Run.opG wantS_none (ex_move rfl) rfl ?_
    refine Run.opG wantS_none (ex_move rfl) rfl ?_
    refine Run.opG wantS_none (ex_buildA (r := [(.int .i64 a0), (.int .i64 (w64 ((w64 ((w64 ((2 : Int) * (Int.tmod (w64 (Int.tdiv a1 a0)) a0))) + (1 : Int))) - a0))), (.int .i64 (w64 ((w64 ((w64 ((2 : Int) * (Int.tmod a1 a0))) + (1 : Int))) - a0)))]) rfl zer22 pls22 rfl) rfl ?_
    refine Run.opX wantS_none rfl (ExG.storeC (c' := [(.int .i64 a0), (.int .i64 (w64 ((w64 ((w64 ((2 : Int) * (Int.tmod (w64 (Int.tdiv a1 a0)) a0))) + (1 : Int))) - a0))), (.int .i64 (w64 ((w64 ((w64 ((2 : Int) * (Int.tmod a1 a0))) + (1 : Int))) - a0)))]) rfl rfl rfl hH23 (i := 0) rfl sz22 rfl rfl rfl rfl rfl) ?_
    rintro _ M29 ⟨rfl, (hH29 : Has (ro (frozen M)) M29 [.obj b22 (.row 22 .whole [(.int .i64 a0), (.int .i64 (w64 ((w64 ((w64 ((2 : Int) * (Int.tmod (w64 (Int.tdiv a1 a0)) a0))) + (1 : Int))) - a0))), (.int .i64 (w64 ((w64 ((w64 ((2 : Int) * (Int.tmod a1 a0))) + (1 : Int))) - a0)))])])⟩
    refine Run.opsEnd ?_
    cases h
    exact Run.ret Tryz.func54 rfl (res_cell rfl (x_load (ex_loadA rfl (hH29.cells (i := 0) rfl 0 rfl) rdLe_rfl agg22 rfl rfl rfl)) res_nil) rfl
  · have h := bif_f hc28 h
    refine Run.condF' rfl hc28 ?_
    refine Run.seq (Run.region ?_)
    refine Run.opG wantS_none (ex_eql rfl rfl) rfl ?_
    refine Run.opG wantS_none (ex_assign rfl) rfl ?_
    refine Run.opsEnd ?_
    rcases btf (((w64 (Int.tdiv a1 (w64 (a0 * a0)))) == (1 : Int))) with hc30 | hc30
    · have h := bif_t hc30 h
      refine Run.condT' rfl hc30 ?_
      refine Run.seq (Run.region ?_)
      refine Run.opG wantS_none (ex_move rfl) rfl ?_
      refine Run.opG wantS_none (ex_neg rfl) rfl ?_
      refine Run.opG wantS_none (ex_move rfl) rfl ?_
      refine Run.opG wantS_none (ex_move rfl) rfl ?_
      refine Run.opG wantS_none (ex_buildA (r := [(.int .i64 (w64 (-a0))), (.int .i64 (w64 ((w64 ((w64 ((2 : Int) * (Int.tmod (w64 (Int.tdiv a1 a0)) a0))) + (1 : Int))) - a0))), (.int .i64 (w64 ((w64 ((w64 ((2 : Int) * (Int.tmod a1 a0))) + (1 : Int))) - a0)))]) rfl zer22 pls22 rfl) rfl ?_
      refine Run.opX wantS_none rfl (ExG.storeC (c' := [(.int .i64 (w64 (-a0))), (.int .i64 (w64 ((w64 ((w64 ((2 : Int) * (Int.tmod (w64 (Int.tdiv a1 a0)) a0))) + (1 : Int))) - a0))), (.int .i64 (w64 ((w64 ((w64 ((2 : Int) * (Int.tmod a1 a0))) + (1 : Int))) - a0)))]) rfl rfl rfl hH23 (i := 0) rfl sz22 rfl rfl rfl rfl rfl) ?_
      rintro _ M31 ⟨rfl, (hH31 : Has (ro (frozen M)) M31 [.obj b22 (.row 22 .whole [(.int .i64 (w64 (-a0))), (.int .i64 (w64 ((w64 ((w64 ((2 : Int) * (Int.tmod (w64 (Int.tdiv a1 a0)) a0))) + (1 : Int))) - a0))), (.int .i64 (w64 ((w64 ((w64 ((2 : Int) * (Int.tmod a1 a0))) + (1 : Int))) - a0)))])])⟩
      refine Run.opsEnd ?_
      cases h
      exact Run.ret Tryz.func54 rfl (res_cell rfl (x_load (ex_loadA rfl (hH31.cells (i := 0) rfl 0 rfl) rdLe_rfl agg22 rfl rfl rfl)) res_nil) rfl
    · have h := bif_f hc30 h
      refine Run.condF' rfl hc30 ?_
      refine Run.seq (Run.region ?_)
      refine Run.opG wantS_none (ex_eql rfl rfl) rfl ?_
      refine Run.opG wantS_none (ex_assign rfl) rfl ?_
      refine Run.opsEnd ?_
      rcases btf (((w64 (Int.tdiv a1 (w64 (a0 * a0)))) == (2 : Int))) with hc32 | hc32
      · have h := bif_t hc32 h
        refine Run.condT' rfl hc32 ?_
        refine Run.seq (Run.region ?_)
        refine Run.opG wantS_none (ex_move rfl) rfl ?_
        refine Run.opG wantS_none (ex_move rfl) rfl ?_
        refine Run.opG wantS_none (ex_move rfl) rfl ?_
        refine Run.opG wantS_none (ex_buildA (r := [(.int .i64 (w64 ((w64 ((w64 ((2 : Int) * (Int.tmod (w64 (Int.tdiv a1 a0)) a0))) + (1 : Int))) - a0))), (.int .i64 a0), (.int .i64 (w64 ((w64 ((w64 ((2 : Int) * (Int.tmod a1 a0))) + (1 : Int))) - a0)))]) rfl zer22 pls22 rfl) rfl ?_
        refine Run.opX wantS_none rfl (ExG.storeC (c' := [(.int .i64 (w64 ((w64 ((w64 ((2 : Int) * (Int.tmod (w64 (Int.tdiv a1 a0)) a0))) + (1 : Int))) - a0))), (.int .i64 a0), (.int .i64 (w64 ((w64 ((w64 ((2 : Int) * (Int.tmod a1 a0))) + (1 : Int))) - a0)))]) rfl rfl rfl hH23 (i := 0) rfl sz22 rfl rfl rfl rfl rfl) ?_
        rintro _ M33 ⟨rfl, (hH33 : Has (ro (frozen M)) M33 [.obj b22 (.row 22 .whole [(.int .i64 (w64 ((w64 ((w64 ((2 : Int) * (Int.tmod (w64 (Int.tdiv a1 a0)) a0))) + (1 : Int))) - a0))), (.int .i64 a0), (.int .i64 (w64 ((w64 ((w64 ((2 : Int) * (Int.tmod a1 a0))) + (1 : Int))) - a0)))])])⟩
        refine Run.opsEnd ?_
        cases h
        exact Run.ret Tryz.func54 rfl (res_cell rfl (x_load (ex_loadA rfl (hH33.cells (i := 0) rfl 0 rfl) rdLe_rfl agg22 rfl rfl rfl)) res_nil) rfl
      · have h := bif_f hc32 h
        refine Run.condF' rfl hc32 ?_
        refine Run.seq (Run.region ?_)
        refine Run.opG wantS_none (ex_eql rfl rfl) rfl ?_
        refine Run.opG wantS_none (ex_assign rfl) rfl ?_
        refine Run.opsEnd ?_
        rcases btf (((w64 (Int.tdiv a1 (w64 (a0 * a0)))) == (3 : Int))) with hc34 | hc34
        · have h := bif_t hc34 h
          refine Run.condT' rfl hc34 ?_
          refine Run.seq (Run.region ?_)
          refine Run.opG wantS_none (ex_move rfl) rfl ?_
          refine Run.opG wantS_none (ex_move rfl) rfl ?_
          refine Run.opG wantS_none (ex_neg rfl) rfl ?_
          refine Run.opG wantS_none (ex_move rfl) rfl ?_
          refine Run.opG wantS_none (ex_buildA (r := [(.int .i64 (w64 ((w64 ((w64 ((2 : Int) * (Int.tmod (w64 (Int.tdiv a1 a0)) a0))) + (1 : Int))) - a0))), (.int .i64 (w64 (-a0))), (.int .i64 (w64 ((w64 ((w64 ((2 : Int) * (Int.tmod a1 a0))) + (1 : Int))) - a0)))]) rfl zer22 pls22 rfl) rfl ?_
          refine Run.opX wantS_none rfl (ExG.storeC (c' := [(.int .i64 (w64 ((w64 ((w64 ((2 : Int) * (Int.tmod (w64 (Int.tdiv a1 a0)) a0))) + (1 : Int))) - a0))), (.int .i64 (w64 (-a0))), (.int .i64 (w64 ((w64 ((w64 ((2 : Int) * (Int.tmod a1 a0))) + (1 : Int))) - a0)))]) rfl rfl rfl hH23 (i := 0) rfl sz22 rfl rfl rfl rfl rfl) ?_
          rintro _ M35 ⟨rfl, (hH35 : Has (ro (frozen M)) M35 [.obj b22 (.row 22 .whole [(.int .i64 (w64 ((w64 ((w64 ((2 : Int) * (Int.tmod (w64 (Int.tdiv a1 a0)) a0))) + (1 : Int))) - a0))), (.int .i64 (w64 (-a0))), (.int .i64 (w64 ((w64 ((w64 ((2 : Int) * (Int.tmod a1 a0))) + (1 : Int))) - a0)))])])⟩
          refine Run.opsEnd ?_
          cases h
          exact Run.ret Tryz.func54 rfl (res_cell rfl (x_load (ex_loadA rfl (hH35.cells (i := 0) rfl 0 rfl) rdLe_rfl agg22 rfl rfl rfl)) res_nil) rfl
        · have h := bif_f hc34 h
          refine Run.condF' rfl hc34 ?_
          refine Run.seq (Run.region ?_)
          refine Run.opG wantS_none (ex_eql rfl rfl) rfl ?_
          refine Run.opG wantS_none (ex_assign rfl) rfl ?_
          refine Run.opsEnd ?_
          rcases btf (((w64 (Int.tdiv a1 (w64 (a0 * a0)))) == (4 : Int))) with hc36 | hc36
          · have h := bif_t hc36 h
            refine Run.condT' rfl hc36 ?_
            refine Run.seq (Run.region ?_)
            refine Run.opG wantS_none (ex_move rfl) rfl ?_
            refine Run.opG wantS_none (ex_move rfl) rfl ?_
            refine Run.opG wantS_none (ex_move rfl) rfl ?_
            refine Run.opG wantS_none (ex_buildA (r := [(.int .i64 (w64 ((w64 ((w64 ((2 : Int) * (Int.tmod (w64 (Int.tdiv a1 a0)) a0))) + (1 : Int))) - a0))), (.int .i64 (w64 ((w64 ((w64 ((2 : Int) * (Int.tmod a1 a0))) + (1 : Int))) - a0))), (.int .i64 a0)]) rfl zer22 pls22 rfl) rfl ?_
            refine Run.opX wantS_none rfl (ExG.storeC (c' := [(.int .i64 (w64 ((w64 ((w64 ((2 : Int) * (Int.tmod (w64 (Int.tdiv a1 a0)) a0))) + (1 : Int))) - a0))), (.int .i64 (w64 ((w64 ((w64 ((2 : Int) * (Int.tmod a1 a0))) + (1 : Int))) - a0))), (.int .i64 a0)]) rfl rfl rfl hH23 (i := 0) rfl sz22 rfl rfl rfl rfl rfl) ?_
            rintro _ M37 ⟨rfl, (hH37 : Has (ro (frozen M)) M37 [.obj b22 (.row 22 .whole [(.int .i64 (w64 ((w64 ((w64 ((2 : Int) * (Int.tmod (w64 (Int.tdiv a1 a0)) a0))) + (1 : Int))) - a0))), (.int .i64 (w64 ((w64 ((w64 ((2 : Int) * (Int.tmod a1 a0))) + (1 : Int))) - a0))), (.int .i64 a0)])])⟩
            refine Run.opsEnd ?_
            cases h
            exact Run.ret Tryz.func54 rfl (res_cell rfl (x_load (ex_loadA rfl (hH37.cells (i := 0) rfl 0 rfl) rdLe_rfl agg22 rfl rfl rfl)) res_nil) rfl
          · have h := bif_f hc36 h
            refine Run.condF' rfl hc36 ?_
            refine Run.skip (Run.inBlock (Run.seq (Run.region ?_)))
            refine Run.opG wantS_none (ex_move rfl) rfl ?_
            refine Run.opG wantS_none (ex_move rfl) rfl ?_
            refine Run.opG wantS_none (ex_move rfl) rfl ?_
            refine Run.opG wantS_none (ex_neg rfl) rfl ?_
            refine Run.opG wantS_none (ex_buildA (r := [(.int .i64 (w64 ((w64 ((w64 ((2 : Int) * (Int.tmod (w64 (Int.tdiv a1 a0)) a0))) + (1 : Int))) - a0))), (.int .i64 (w64 ((w64 ((w64 ((2 : Int) * (Int.tmod a1 a0))) + (1 : Int))) - a0))), (.int .i64 (w64 (-a0)))]) rfl zer22 pls22 rfl) rfl ?_
            refine Run.opX wantS_none rfl (ExG.storeC (c' := [(.int .i64 (w64 ((w64 ((w64 ((2 : Int) * (Int.tmod (w64 (Int.tdiv a1 a0)) a0))) + (1 : Int))) - a0))), (.int .i64 (w64 ((w64 ((w64 ((2 : Int) * (Int.tmod a1 a0))) + (1 : Int))) - a0))), (.int .i64 (w64 (-a0)))]) rfl rfl rfl hH23 (i := 0) rfl sz22 rfl rfl rfl rfl rfl) ?_
            rintro _ M38 ⟨rfl, (hH38 : Has (ro (frozen M)) M38 [.obj b22 (.row 22 .whole [(.int .i64 (w64 ((w64 ((w64 ((2 : Int) * (Int.tmod (w64 (Int.tdiv a1 a0)) a0))) + (1 : Int))) - a0))), (.int .i64 (w64 ((w64 ((w64 ((2 : Int) * (Int.tmod a1 a0))) + (1 : Int))) - a0))), (.int .i64 (w64 (-a0)))])])⟩
            refine Run.opsEnd ?_
            cases h
            exact Run.ret Tryz.func54 rfl (res_cell rfl (x_load (ex_loadA rfl (hH38.cells (i := 0) rfl 0 rfl) rdLe_rfl agg22 rfl rfl rfl)) res_nil) rfl

theorem mkk54 : makeK Tryz.prog 54 = none := by kernel_rfl
theorem cal54 : callable Tryz.prog 54 = true := by kernel_rfl
abbrev ref09_Direction_post (r : S__3_int × Int) : SV → Mem → Prop := fun s _ => s = (.tuple [(.agg [(.int .i64 r.1.e0), (.int .i64 r.1.e1), (.int .i64 r.1.e2)]), (.int .i64 r.2)])

def ref09_Direction (F : Nat) (a0 : Int) (a1 : Int) : Option (S__3_int × Int) :=
  bnd (ref09_there F a0 a1) fun r25 =>
  bif (!r25) then
    some ((S__3_int.mk 0 0 0), (91 : Int))
  else
    bnd (ref09_direction F a0 a1) fun r30 =>
    some (r30, (0 : Int))

theorem ref09_Direction_ok (F : Nat) (a0 : Int) (a1 : Int) (r : S__3_int × Int) (M : Mem) (h : ref09_Direction F a0 a1 = some r) : CallsM Tryz.prog 15 [(.int .i64 a0), (.int .i64 a1)] M (fun s M' => s = (.tuple [(.agg [(.int .i64 r.1.e0), (.int .i64 r.1.e1), (.int .i64 r.1.e2)]), (.int .i64 r.2)]) ∧ M' = M) := by
  refine CallsM.plain Tryz.func15 rfl rfl rfl (show Run _ _ _ (ref09_Direction_post r) _ _ _ from ?_)
  rw [ref09_Direction] at h
  have hH := Has.nil (frozen M)
  refine Run.seq (Run.region ?_)
  refine Run.opX wantS_none rfl (ExG.new (v := fun b => .ptr b 0) (ex_alloc zer22) hH) ?_
  rintro _ M23 ⟨b22, rfl, (hH23 : Has (ro (frozen M)) M23 [.obj b22 (.row 22 .whole [(.int .i64 0), (.int .i64 0), (.int .i64 0)])])⟩
  refine Run.opG wantS_none (ex_assign rfl) rfl ?_
  refine Run.opsEnd (Run.seq (Run.seq (Run.region ?_)))
  refine Run.opG wantS_none (ex_move rfl) rfl ?_
  refine Run.opG wantS_none (ex_move rfl) rfl ?_
  obtain ⟨r25, hr25, h⟩ := bnd_some h
  refine Run.callP wantS_none (ex_call rfl mkk53 cal53) rfl (ref09_there_ok F a0 a1 _ _ hr25) ?_
  refine Run.opG wantS_none (ex_not rfl) rfl ?_
  refine Run.opsEnd ?_
  rcases btf ((!r25)) with hc27 | hc27
  · have h := bif_t hc27 h
    refine Run.condT' rfl hc27 ?_
    refine Run.seq (Run.region ?_)
    refine Run.opG wantS_none (ex_buildA (r := [(.int .i64 0), (.int .i64 0), (.int .i64 0)]) rfl zer22 pls22 rfl) rfl ?_
    refine Run.opX wantS_none rfl (ExG.storeC (c' := [(.int .i64 0), (.int .i64 0), (.int .i64 0)]) rfl rfl rfl hH23 (i := 0) rfl sz22 rfl rfl rfl rfl rfl) ?_
    rintro _ M28 ⟨rfl, (hH28 : Has (ro (frozen M)) M28 [.obj b22 (.row 22 .whole [(.int .i64 0), (.int .i64 0), (.int .i64 0)])])⟩
    refine Run.opG wantS_none (ex_assign rfl) rfl ?_
    refine Run.opsEnd ?_
    cases h
    exact Run.ret Tryz.func15 rfl (res_cell rfl (x_load (ex_loadA rfl (hH28.cells (i := 0) rfl 0 rfl) rdLe_rfl agg22 rfl rfl rfl)) (res_tmp rfl res_nil)) rfl
  · have h := bif_f hc27 h
    refine Run.condF' rfl hc27 ?_
    refine Run.skip (Run.seq (Run.region ?_))
    refine Run.opG wantS_none (ex_move rfl) rfl ?_
    refine Run.opG wantS_none (ex_move rfl) rfl ?_
    obtain ⟨r30, hr30, h⟩ := bnd_some h
    refine Run.callP wantS_none (ex_call rfl mkk54 cal54) rfl (ref09_direction_ok F a0 a1 _ _ hr30) ?_
    refine Run.opX wantS_none rfl (ExG.storeC (c' := [(.int .i64 r30.e0), (.int .i64 r30.e1), (.int .i64 r30.e2)]) rfl rfl rfl hH23 (i := 0) rfl sz22 rfl rfl rfl rfl rfl) ?_
    rintro _ M32 ⟨rfl, (hH32 : Has (ro (frozen M)) M32 [.obj b22 (.row 22 .whole [(.int .i64 r30.e0), (.int .i64 r30.e1), (.int .i64 r30.e2)])])⟩
    refine Run.opG wantS_none (ex_assign rfl) rfl ?_
    refine Run.opsEnd ?_
    cases h
    exact Run.ret Tryz.func15 rfl (res_cell rfl (x_load (ex_loadA rfl (hH32.cells (i := 0) rfl 0 rfl) rdLe_rfl agg22 rfl rfl rfl)) (res_tmp rfl res_nil)) rfl

theorem mkk15 : makeK Tryz.prog 15 = none := by kernel_rfl
theorem cal15 : callable Tryz.prog 15 = true := by kernel_rfl
theorem agk3 : aggK Tryz.prog 3 = some .int := by kernel_rfl
theorem agg3 : aggSize Tryz.prog 3 = some none := by kernel_rfl
theorem agk22 : aggK Tryz.prog 22 = some (.ar 3 3 1) := by kernel_rfl
theorem aeq22 : aggEq Tryz.prog 22 = false := by kernel_rfl
theorem wha85 : whole Tryz.prog 85 = some (.arr 3 3 1) := by kernel_rfl
abbrev sky_vector_isWithin_post (r : Bool) : SV → Mem → Prop := fun s _ => s = (.bool r)

def sky_vector_isWithin_1 (F : Nat) : Nat → Int → S__3_int → Int → Option (Bool)
  | 0, _, _, _ => none
  | N + 1, v1, v7, v8 =>
    bif (decide (v8 < (3 : Int))) then
      bnd (inA v8 3) fun o26 =>
      bnd (sky_isFrom F (w64 (-v1)) (get85 v7 o26) v1) fun r28 =>
      bif (!r28) then
        some false
      else
        (sky_vector_isWithin_1 F N) v1 v7 (w64 (v8 + (1 : Int)))
    else
      some true

theorem sky_vector_isWithin_1_ok (F : Nat) : ∀ (N : Nat), ∀ (v1 : Int) (v7 : S__3_int) (v8 : Int) (Fr : Rd) (M : Mem) (r : Bool) (hH : Has Fr M []), sky_vector_isWithin_1 F N v1 v7 v8 = some r → Run Tryz.prog ⟨⟨108, [], none⟩, []⟩ 18 (sky_vector_isWithin_post r) [(1, (.int .i64 v1)), (7, (.agg [(.int .i64 v7.e0), (.int .i64 v7.e1), (.int .i64 v7.e2)])), (8, (.int .i64 v8))] [codeC Tryz.prog 108 [1, 0, 1, 0, 0], loopC Tryz.prog 108 [1, 0, 1, 0, 0], .inBlock 0, codeC Tryz.prog 108 [1, 1]] M := by
  intro N
  induction N with
  | zero =>
    intro v1 v7 v8 Fr M r hH h
    simp [sky_vector_isWithin_1] at h
  | succ N ih =>
    intro v1 v7 v8 Fr M r hH h
    rw [sky_vector_isWithin_1] at h
    refine Run.seq (Run.region ?_)
    refine Run.opG wantS_none (ex_lss rfl rfl) rfl ?_
    refine Run.opsEnd (Run.seq ?_)
    rcases btf ((decide (v8 < (3 : Int)))) with hc24 | hc24
    · have h := bif_t hc24 h
      refine Run.condT' rfl hc24 ?_
      refine Run.skip (Run.seq (Run.block (Run.seq (Run.region ?_))))
      obtain ⟨o26, ho26, h⟩ := bnd_some h
      refine Run.opG wantS_none (ex_idxA rfl rfl wha85 (inA_natIn ho26) (part_at agg3 (get85_cell v7 o26 (inA_lt ho26)))) rfl ?_
      refine Run.opG wantS_none (ex_assign rfl) rfl ?_
      refine Run.opsEnd (Run.seq (Run.region ?_))
      refine Run.opG wantS_none (ex_move rfl) rfl ?_
      refine Run.opG wantS_none (ex_neg rfl) rfl ?_
      refine Run.opG wantS_none (ex_move rfl) rfl ?_
      refine Run.opG wantS_none (ex_move rfl) rfl ?_
      obtain ⟨r28, hr28, h⟩ := bnd_some h
      refine Run.callP wantS_none (ex_call rfl mkk62 cal62) rfl (sky_isFrom_ok F (w64 (-v1)) (get85 v7 o26) v1 _ _ hr28) ?_
      refine Run.opG wantS_none (ex_not rfl) rfl ?_
      refine Run.opsEnd ?_
      rcases btf ((!r28)) with hc30 | hc30
      · have h := bif_t hc30 h
        refine Run.condT' rfl hc30 ?_
        refine Run.seq (Run.region ?_)
        refine Run.opG wantS_none (ex_assign rfl) rfl ?_
        refine Run.opsEnd ?_
        cases h
        exact Run.ret Tryz.func108 rfl (res_tmp rfl res_nil) rfl
      · have h := bif_f hc30 h
        refine Run.condF' rfl hc30 ?_
        refine Run.skip (Run.inBlock (Run.region ?_))
        refine Run.opG wantS_none (ex_add rfl rfl) rfl ?_
        refine Run.opG wantS_none (ex_move rfl) rfl ?_
        refine Run.opsEnd (Run.inLoop ?_)
        exact Run.pick [1, 7, 8] (ih v1 v7 (w64 (v8 + (1 : Int))) _ _ _ hH h)
    · have h := bif_f hc24 h
      refine Run.condF' rfl hc24 ?_
      refine Run.exit rfl (Run.seq (Run.region ?_))
      refine Run.opG wantS_none (ex_assign rfl) rfl ?_
      refine Run.opsEnd ?_
      cases h
      exact Run.ret Tryz.func108 rfl (res_tmp rfl res_nil) rfl

def sky_vector_isWithin (F : Nat) (a0 : S__3_int) (a1 : Int) : Option (Bool) :=
  sky_vector_isWithin_1 F F a1 a0 (0 : Int)

theorem sky_vector_isWithin_ok (F : Nat) (a0 : S__3_int) (a1 : Int) (r : Bool) (M : Mem) (h : sky_vector_isWithin F a0 a1 = some r) : CallsM Tryz.prog 108 [(.agg [(.int .i64 a0.e0), (.int .i64 a0.e1), (.int .i64 a0.e2)]), (.int .i64 a1)] M (fun s M' => s = (.bool r) ∧ M' = M) := by
  refine CallsM.plain Tryz.func108 rfl rfl rfl (show Run _ _ _ (sky_vector_isWithin_post r) _ _ _ from ?_)
  rw [sky_vector_isWithin] at h
  have hH := Has.nil (frozen M)
  refine Run.seq (Run.region ?_)
  refine Run.opX wantS_none rfl (ExG.box rfl rfl hH) ?_
  rintro _ M23 ⟨b22, rfl, (hH23 : Has (ro (frozen M)) M23 [.obj b22 (.row 85 .whole [(.int .i64 a0.e0), (.int .i64 a0.e1), (.int .i64 a0.e2)])])⟩
  refine Run.opG wantS_none (ex_assign rfl) rfl ?_
  refine Run.opsEnd (Run.seq (Run.seq (Run.region ?_)))
  refine Run.opG wantS_none (ex_loadA rfl (hH23.cells (i := 0) rfl 0 rfl) rdLe_rfl agg85 rfl rfl rfl) rfl ?_
  refine Run.opG wantS_none (ex_move rfl) rfl ?_
  refine Run.opsEnd (Run.block (Run.loop ?_))
  exact Run.pick [1, 7, 8] (sky_vector_isWithin_1_ok F F a1 a0 (0 : Int) _ _ _ (hH23.pick [] rfl rfl) h)

theorem mkk108 : makeK Tryz.prog 108 = none := by kernel_rfl
theorem cal108 : callable Tryz.prog 108 = true := by kernel_rfl
abbrev sky_isVector_post (r : Bool) : SV → Mem → Prop := fun s _ => s = (.bool r)

def sky_isVector (F : Nat) (a0 : S__3_int) : Option (Bool) :=
  bnd (sky_vector_isWithin F a0 (1000 : Int)) fun r25 =>
  some r25

theorem sky_isVector_ok (F : Nat) (a0 : S__3_int) (r : Bool) (M : Mem) (h : sky_isVector F a0 = some r) : CallsM Tryz.prog 55 [(.agg [(.int .i64 a0.e0), (.int .i64 a0.e1), (.int .i64 a0.e2)])] M (fun s M' => s = (.bool r) ∧ M' = M) := by
  refine CallsM.plain Tryz.func55 rfl rfl rfl (show Run _ _ _ (sky_isVector_post r) _ _ _ from ?_)
  rw [sky_isVector] at h
  have hH := Has.nil (frozen M)
  refine Run.seq (Run.region ?_)
  refine Run.opX wantS_none rfl (ExG.box rfl rfl hH) ?_
  rintro _ M23 ⟨b22, rfl, (hH23 : Has (ro (frozen M)) M23 [.obj b22 (.row 85 .whole [(.int .i64 a0.e0), (.int .i64 a0.e1), (.int .i64 a0.e2)])])⟩
  refine Run.opG wantS_none (ex_assign rfl) rfl ?_
  refine Run.opsEnd (Run.seq (Run.region ?_))
  refine Run.opG wantS_none (ex_loadA rfl (hH23.cells (i := 0) rfl 0 rfl) rdLe_rfl agg85 rfl rfl rfl) rfl ?_
  obtain ⟨r25, hr25, h⟩ := bnd_some h
  refine Run.callP wantS_none (ex_call rfl mkk108 cal108) rfl (sky_vector_isWithin_ok F a0 (1000 : Int) _ _ hr25) ?_
  refine Run.opG wantS_none (ex_assign rfl) rfl ?_
  refine Run.opsEnd ?_
  cases h
  exact Run.ret Tryz.func55 rfl (res_tmp rfl res_nil) rfl

theorem mkk55 : makeK Tryz.prog 55 = none := by kernel_rfl
theorem cal55 : callable Tryz.prog 55 = true := by kernel_rfl
theorem pls85 : placesOf Tryz.prog 85 = some (.ar 1) := by kernel_rfl
theorem agk85 : aggK Tryz.prog 85 = some (.ar 3 3 1) := by kernel_rfl
theorem aeq85 : aggEq Tryz.prog 85 = false := by kernel_rfl
abbrev sky_vector_isNone_post (r : Bool) : SV → Mem → Prop := fun s _ => s = (.bool r)

def sky_vector_isNone (F : Nat) (a0 : S__3_int) : Option (Bool) :=
  some ((a0.e0 == (0 : Int)) && ((a0.e1 == (0 : Int)) && ((a0.e2 == (0 : Int)) && true)))

theorem sky_vector_isNone_ok (F : Nat) (a0 : S__3_int) (r : Bool) (M : Mem) (h : sky_vector_isNone F a0 = some r) : CallsM Tryz.prog 56 [(.agg [(.int .i64 a0.e0), (.int .i64 a0.e1), (.int .i64 a0.e2)])] M (fun s M' => s = (.bool r) ∧ M' = M) := by
  refine CallsM.plain Tryz.func56 rfl rfl rfl (show Run _ _ _ (sky_vector_isNone_post r) _ _ _ from ?_)
  rw [sky_vector_isNone] at h
  have hH := Has.nil (frozen M)
  refine Run.seq (Run.region ?_)
  refine Run.opX wantS_none rfl (ExG.box rfl rfl hH) ?_
  rintro _ M23 ⟨b22, rfl, (hH23 : Has (ro (frozen M)) M23 [.obj b22 (.row 85 .whole [(.int .i64 a0.e0), (.int .i64 a0.e1), (.int .i64 a0.e2)])])⟩
  refine Run.opG wantS_none (ex_assign rfl) rfl ?_
  refine Run.opsEnd (Run.seq (Run.region ?_))
  refine Run.opG wantS_none (ex_loadA rfl (hH23.cells (i := 0) rfl 0 rfl) rdLe_rfl agg85 rfl rfl rfl) rfl ?_
  refine Run.opG wantS_none (ex_buildA (r := [(.int .i64 0), (.int .i64 0), (.int .i64 0)]) rfl zer85 pls85 rfl) rfl ?_
  refine Run.opG wantS_none (ex_eqlA rfl rfl aeq85 (eqA_ar agk85 (eqEs_cons (part_one agg3 rfl) (part_one agg3 rfl) (eqA_int agk3) (eqEs_cons (part_one agg3 rfl) (part_one agg3 rfl) (eqA_int agk3) (eqEs_cons (part_one agg3 rfl) (part_one agg3 rfl) (eqA_int agk3) eqEs_nil))))) rfl ?_
  refine Run.opG wantS_none (ex_assign rfl) rfl ?_
  refine Run.opsEnd ?_
  cases h
  exact Run.ret Tryz.func56 rfl (res_tmp rfl res_nil) rfl

theorem mkk56 : makeK Tryz.prog 56 = none := by kernel_rfl
theorem cal56 : callable Tryz.prog 56 = true := by kernel_rfl
abbrev sky_faceOf_post (r : Int) : SV → Mem → Prop := fun s _ => s = (.int .i64 r)

def sky_faceOf_2 (F : Nat) (hd1 : Int → Int → S__3_int → Int → Option (Int)) (v3 : Int) (v4 : Int) (v7 : S__3_int) (v8 : Int) : Option (Int) :=
  hd1 v3 v4 v7 (w64 (v8 + (1 : Int)))

theorem sky_faceOf_2_ok (F : Nat) (hd1 : Int → Int → S__3_int → Int → Option (Int)) (hhd1 : ∀ (v3 : Int) (v4 : Int) (v7 : S__3_int) (v8 : Int) (Fr : Rd) (M : Mem) (r : Int) (hH : Has Fr M []), hd1 v3 v4 v7 v8 = some r → Run Tryz.prog ⟨⟨109, [], none⟩, []⟩ 29 (sky_faceOf_post r) [(3, (.int .i64 v3)), (4, (.int .i64 v4)), (7, (.agg [(.int .i64 v7.e0), (.int .i64 v7.e1), (.int .i64 v7.e2)])), (8, (.int .i64 v8))] [codeC Tryz.prog 109 [1, 1, 0, 1, 0, 0], loopC Tryz.prog 109 [1, 1, 0, 1, 0, 0], .inBlock 0, codeC Tryz.prog 109 [1, 1, 1]] M) : ∀ (v3 : Int) (v4 : Int) (v7 : S__3_int) (v8 : Int) (Fr : Rd) (M : Mem) (r : Int) (hH : Has Fr M []), sky_faceOf_2 F hd1 v3 v4 v7 v8 = some r → Run Tryz.prog ⟨⟨109, [], none⟩, []⟩ 29 (sky_faceOf_post r) [(3, (.int .i64 v3)), (4, (.int .i64 v4)), (7, (.agg [(.int .i64 v7.e0), (.int .i64 v7.e1), (.int .i64 v7.e2)])), (8, (.int .i64 v8))] [itemC Tryz.prog 109 [1, 1, 0, 1, 0, 0, 1, 1, 1] 0, loopC Tryz.prog 109 [1, 1, 0, 1, 0, 0], .inBlock 0, codeC Tryz.prog 109 [1, 1, 1]] M := by
  intro v3 v4 v7 v8 Fr M r hH h
  rw [sky_faceOf_2] at h
  refine Run.opG wantS_none (ex_add rfl rfl) rfl ?_
  refine Run.opG wantS_none (ex_move rfl) rfl ?_
  refine Run.opsEnd (Run.inLoop ?_)
  exact Run.pick [3, 4, 7, 8] (hhd1 v3 v4 v7 (w64 (v8 + (1 : Int))) _ _ _ hH h)

def sky_faceOf_1 (F : Nat) : Nat → Int → Int → S__3_int → Int → Option (Int)
  | 0, _, _, _, _ => none
  | N + 1, v3, v4, v7, v8 =>
    bif (decide (v8 < (3 : Int))) then
      bnd (inA v8 3) fun o26 =>
      bif (decide (v4 < (get85 v7 o26))) then
        sky_faceOf_2 F (sky_faceOf_1 F N) (w64 ((2 : Int) * v8)) (get85 v7 o26) v7 v8
      else
        bif (decide (v4 < (w64 (-(get85 v7 o26))))) then
          sky_faceOf_2 F (sky_faceOf_1 F N) (w64 ((w64 ((2 : Int) * v8)) + (1 : Int))) (w64 (-(get85 v7 o26))) v7 v8
        else
          sky_faceOf_2 F (sky_faceOf_1 F N) v3 v4 v7 v8
    else
      some v3

theorem sky_faceOf_1_ok (F : Nat) : ∀ (N : Nat), ∀ (v3 : Int) (v4 : Int) (v7 : S__3_int) (v8 : Int) (Fr : Rd) (M : Mem) (r : Int) (hH : Has Fr M []), sky_faceOf_1 F N v3 v4 v7 v8 = some r → Run Tryz.prog ⟨⟨109, [], none⟩, []⟩ 29 (sky_faceOf_post r) [(3, (.int .i64 v3)), (4, (.int .i64 v4)), (7, (.agg [(.int .i64 v7.e0), (.int .i64 v7.e1), (.int .i64 v7.e2)])), (8, (.int .i64 v8))] [codeC Tryz.prog 109 [1, 1, 0, 1, 0, 0], loopC Tryz.prog 109 [1, 1, 0, 1, 0, 0], .inBlock 0, codeC Tryz.prog 109 [1, 1, 1]] M := by
  intro N
  induction N with
  | zero =>
    intro v3 v4 v7 v8 Fr M r hH h
    simp [sky_faceOf_1] at h
  | succ N ih =>
    intro v3 v4 v7 v8 Fr M r hH h
    rw [sky_faceOf_1] at h
    refine Run.seq (Run.region ?_)
    refine Run.opG wantS_none (ex_lss rfl rfl) rfl ?_
    refine Run.opsEnd (Run.seq ?_)
    rcases btf ((decide (v8 < (3 : Int)))) with hc24 | hc24
    · have h := bif_t hc24 h
      refine Run.condT' rfl hc24 ?_
      refine Run.skip (Run.seq (Run.block (Run.seq (Run.region ?_))))
      refine Run.opG wantS_none (ex_move rfl) rfl ?_
      obtain ⟨o26, ho26, h⟩ := bnd_some h
      refine Run.opG wantS_none (ex_idxA rfl rfl wha85 (inA_natIn ho26) (part_at agg3 (get85_cell v7 o26 (inA_lt ho26)))) rfl ?_
      refine Run.opG wantS_none (ex_assign rfl) rfl ?_
      refine Run.opG wantS_none (ex_assign rfl) rfl ?_
      refine Run.opsEnd (Run.seq (Run.region ?_))
      refine Run.opG wantS_none (ex_move rfl) rfl ?_
      refine Run.opG wantS_none (ex_move rfl) rfl ?_
      refine Run.opG wantS_none (ex_gtr rfl rfl) rfl ?_
      refine Run.opsEnd ?_
      rcases btf ((decide (v4 < (get85 v7 o26)))) with hc27 | hc27
      · have h := bif_t hc27 h
        refine Run.condT' rfl hc27 ?_
        refine Run.region ?_
        refine Run.opG wantS_none (ex_move rfl) rfl ?_
        refine Run.opG wantS_none (ex_mul rfl rfl) rfl ?_
        refine Run.opG wantS_none (ex_move rfl) rfl ?_
        refine Run.opG wantS_none (ex_assign rfl) rfl ?_
        refine Run.opG wantS_none (ex_assign rfl) rfl ?_
        refine Run.opsEnd (Run.inBlock (Run.region ?_))
        exact Run.pick [3, 4, 7, 8] (sky_faceOf_2_ok F (sky_faceOf_1 F N) ih (w64 ((2 : Int) * v8)) (get85 v7 o26) v7 v8 _ _ _ hH h)
      · have h := bif_f hc27 h
        refine Run.condF' rfl hc27 ?_
        refine Run.seq (Run.region ?_)
        refine Run.opG wantS_none (ex_move rfl) rfl ?_
        refine Run.opG wantS_none (ex_neg rfl) rfl ?_
        refine Run.opG wantS_none (ex_move rfl) rfl ?_
        refine Run.opG wantS_none (ex_gtr rfl rfl) rfl ?_
        refine Run.opsEnd ?_
        rcases btf ((decide (v4 < (w64 (-(get85 v7 o26)))))) with hc28 | hc28
        · have h := bif_t hc28 h
          refine Run.condT' rfl hc28 ?_
          refine Run.region ?_
          refine Run.opG wantS_none (ex_move rfl) rfl ?_
          refine Run.opG wantS_none (ex_mul rfl rfl) rfl ?_
          refine Run.opG wantS_none (ex_add rfl rfl) rfl ?_
          refine Run.opG wantS_none (ex_move rfl) rfl ?_
          refine Run.opG wantS_none (ex_neg rfl) rfl ?_
          refine Run.opG wantS_none (ex_assign rfl) rfl ?_
          refine Run.opG wantS_none (ex_assign rfl) rfl ?_
          refine Run.opsEnd (Run.inBlock (Run.region ?_))
          exact Run.pick [3, 4, 7, 8] (sky_faceOf_2_ok F (sky_faceOf_1 F N) ih (w64 ((w64 ((2 : Int) * v8)) + (1 : Int))) (w64 (-(get85 v7 o26))) v7 v8 _ _ _ hH h)
        · have h := bif_f hc28 h
          refine Run.condF' rfl hc28 ?_
          refine Run.skip (Run.inBlock (Run.region ?_))
          exact Run.pick [3, 4, 7, 8] (sky_faceOf_2_ok F (sky_faceOf_1 F N) ih v3 v4 v7 v8 _ _ _ hH h)
    · have h := bif_f hc24 h
      refine Run.condF' rfl hc24 ?_
      refine Run.exit rfl (Run.seq (Run.region ?_))
      refine Run.opG wantS_none (ex_move rfl) rfl ?_
      refine Run.opG wantS_none (ex_assign rfl) rfl ?_
      refine Run.opsEnd ?_
      cases h
      exact Run.ret Tryz.func109 rfl (res_tmp rfl res_nil) rfl

def sky_faceOf (F : Nat) (a0 : S__3_int) : Option (Int) :=
  sky_faceOf_1 F F (0 : Int) (0 : Int) a0 (0 : Int)

theorem sky_faceOf_ok (F : Nat) (a0 : S__3_int) (r : Int) (M : Mem) (h : sky_faceOf F a0 = some r) : CallsM Tryz.prog 109 [(.agg [(.int .i64 a0.e0), (.int .i64 a0.e1), (.int .i64 a0.e2)])] M (fun s M' => s = (.int .i64 r) ∧ M' = M) := by
  refine CallsM.plain Tryz.func109 rfl rfl rfl (show Run _ _ _ (sky_faceOf_post r) _ _ _ from ?_)
  rw [sky_faceOf] at h
  have hH := Has.nil (frozen M)
  refine Run.seq (Run.region ?_)
  refine Run.opX wantS_none rfl (ExG.box rfl rfl hH) ?_
  rintro _ M23 ⟨b22, rfl, (hH23 : Has (ro (frozen M)) M23 [.obj b22 (.row 85 .whole [(.int .i64 a0.e0), (.int .i64 a0.e1), (.int .i64 a0.e2)])])⟩
  refine Run.opG wantS_none (ex_assign rfl) rfl ?_
  refine Run.opsEnd (Run.seq (Run.region ?_))
  refine Run.opG wantS_none (ex_assign rfl) rfl ?_
  refine Run.opG wantS_none (ex_assign rfl) rfl ?_
  refine Run.opsEnd (Run.seq (Run.seq (Run.region ?_)))
  refine Run.opG wantS_none (ex_loadA rfl (hH23.cells (i := 0) rfl 0 rfl) rdLe_rfl agg85 rfl rfl rfl) rfl ?_
  refine Run.opG wantS_none (ex_move rfl) rfl ?_
  refine Run.opsEnd (Run.block (Run.loop ?_))
  exact Run.pick [3, 4, 7, 8] (sky_faceOf_1_ok F F (0 : Int) (0 : Int) a0 (0 : Int) _ _ _ (hH23.pick [] rfl rfl) h)

theorem mkk109 : makeK Tryz.prog 109 = none := by kernel_rfl
theorem cal109 : callable Tryz.prog 109 = true := by kernel_rfl
theorem latep57_1_1_1_0 : lateP Tryz.prog (opsC (atC Tryz.prog 57 [1, 1, 1, 0])) 11 [1, 2, 3, 4, 5, 6, 7, 8] = true := by kernel_rfl
theorem zer3 : zerosOf Tryz.prog 3 = some [(.int .i64 0)] := by kernel_rfl
theorem mkk110 : makeK Tryz.prog 110 = none := by kernel_rfl
theorem cal110 : callable Tryz.prog 110 = true := by kernel_rfl
theorem plan110_1_0 : planOf Tryz.prog (opsC (atC Tryz.prog 110 [1, 0])) = some [.fl 0, .fl 1, .fl 2, .fl 3, .fl 4, .fl 5, .fl 6, .fl 7, .fl 8, .fl 9, .fl 10, .fl 11, .sync] := by kernel_rfl
abbrev sky_grid_cellOf_1_h1_post (e_v0 : Int) (e_c34_0 : Int) (e_c32_0 : Int) (e_b34 : Pos) (e_b32 : Pos) (Fr0 : Rd) (Hr : List Ent) (r : Int) : SV → Mem → Prop := fun s Me => s = (.int .i64 r) ∧ Has Fr0 Me (([.obj e_b34 (.row 3 .whole [(.int .i64 e_c34_0)]), .obj e_b32 (.row 3 .whole [(.int .i64 e_c32_0)])] : List Ent) ++ Hr)

def sky_grid_cellOf_1_h1 (F : Nat) (e_v0 : Int) (e_c34_0 : Int) (e_c32_0 : Int) : Option (Int) :=
  bnd (nz (w64 ((2 : Int) * e_c34_0))) fun z35 =>
  some (min (w64 (Int.tdiv (w64 ((w64 (e_v0 + e_c34_0)) * e_c32_0)) (w64 ((2 : Int) * e_c34_0)))) (w64 (e_c32_0 - (1 : Int))))

theorem sky_grid_cellOf_1_h1_ok (F : Nat) : ∀ (e_v0 : Int) (e_c34_0 : Int) (e_c32_0 : Int) (e_b34 : Pos) (e_b32 : Pos) (Fr0 : Rd) (Hr : List Ent) (M : Mem) (r : Int) (hH : Has Fr0 M (([.obj e_b34 (.row 3 .whole [(.int .i64 e_c34_0)]), .obj e_b32 (.row 3 .whole [(.int .i64 e_c32_0)])] : List Ent) ++ Hr)) (h : sky_grid_cellOf_1_h1 F e_v0 e_c34_0 e_c32_0 = some r), CallsM Tryz.prog 110 [(.int .i64 e_v0), (.ptr e_b34 0), (.ptr e_b32 0)] M (sky_grid_cellOf_1_h1_post e_v0 e_c34_0 e_c32_0 e_b34 e_b32 Fr0 Hr r) := by
  intro e_v0 e_c34_0 e_c32_0 e_b34 e_b32 Fr0 Hr M r hH h
  refine CallsM.run Tryz.func110 rfl rfl (show Run _ _ _ (sky_grid_cellOf_1_h1_post e_v0 e_c34_0 e_c32_0 e_b34 e_b32 Fr0 Hr r) _ _ _ from ?_)
  rw [sky_grid_cellOf_1_h1] at h
  refine Run.seq (Run.region ?_)
  refine Run.opG wantS_none (ex_assign rfl) rfl ?_
  refine Run.opsEnd (Run.seq ?_)
  refine Run.drawG plan110_1_0 ?_
  refine DrawG.fl rfl (ev_ex wantS_none (ex_move rfl)) rfl ?_
  refine DrawG.fl rfl (ev_ex wantS_none (ex_load1 rfl (hH.cells (i := 0) rfl 0 rfl) rdLe_rfl agg3)) rfl ?_
  refine DrawG.fl rfl (ev_ex wantS_none (ex_add rfl rfl)) rfl ?_
  refine DrawG.fl rfl (ev_ex wantS_none (ex_load1 rfl (hH.cells (i := 1) rfl 0 rfl) rdLe_rfl agg3)) rfl ?_
  refine DrawG.fl rfl (ev_ex wantS_none (ex_mul rfl rfl)) rfl ?_
  refine DrawG.fl rfl (ev_ex wantS_none (ex_load1 rfl (hH.cells (i := 0) rfl 0 rfl) rdLe_rfl agg3)) rfl ?_
  refine DrawG.fl rfl (ev_ex wantS_none (ex_mul rfl rfl)) rfl ?_
  obtain ⟨z35, hz35, h⟩ := bnd_some h
  refine DrawG.fl rfl (ev_ex wantS_none (ex_quo' rfl rfl hz35)) rfl ?_
  refine DrawG.fl rfl (ev_ex wantS_none (ex_load1 rfl (hH.cells (i := 1) rfl 0 rfl) rdLe_rfl agg3)) rfl ?_
  refine DrawG.fl rfl (ev_ex wantS_none (ex_sub rfl rfl)) rfl ?_
  refine DrawG.fl rfl (ev_ex wantS_none (ex_min rfl rfl)) rfl ?_
  refine DrawG.fl rfl (ev_ex wantS_none (ex_assign rfl)) rfl ?_
  refine DrawG.sync ?_
  refine DrawG.nil ?_
  cases h
  exact Run.ret Tryz.func110 rfl (res_tmp rfl res_nil) ⟨rfl, (hH.pickT [0, 1] rfl rfl).upF (fun b c hb => hH.base b c hb)⟩

theorem plan57_1_1_1_1_1_0 : planOf Tryz.prog (opsC (atC Tryz.prog 57 [1, 1, 1, 1, 1, 0])) = some [.fl 0, .fl 1, .fl 2, .fl 3, .fl 4, .fl 5, .fl 6, .fl 9, .fl 11, .fl 12, .fl 13, .fl 14, .an 7 [14, 13, 12, 11, 9, 2, 1, 0], .fl 8, .fl 10, .an 15 [10, 8, 9, 2, 1, 0], .fl 16, .fl 17, .sync] := by kernel_rfl
abbrev sky_grid_cellOf_post (r : Int) : SV → Mem → Prop := fun s _ => s = (.int .i64 r)

def sky_grid_cellOf (F : Nat) (a0 : Int) (a1 : S__3_int) : Option (Int) :=
  bnd (sky_faceOf F a1) fun r25 =>
  bnd (sky_axes F r25) fun r28 =>
  bnd (inA r28.1 3) fun o30 =>
  bnd (inA r28.1 3) fun o31 =>
  bnd (inA r28.2.1 3) fun o38 =>
  bnd (inA r28.2.2 3) fun o39 =>
  bnd (sky_grid_cellOf_1_h1 F (get85 a1 o38) (max (get85 a1 o30) (w64 (-(get85 a1 o31)))) a0) fun r40 =>
  bnd (sky_grid_cellOf_1_h1 F (get85 a1 o39) (max (get85 a1 o30) (w64 (-(get85 a1 o31)))) a0) fun r42 =>
  some (w64 ((w64 ((w64 ((w64 (r25 * a0)) + r40)) * a0)) + r42))

theorem sky_grid_cellOf_ok (F : Nat) (a0 : Int) (a1 : S__3_int) (r : Int) (M : Mem) (h : sky_grid_cellOf F a0 a1 = some r) : CallsM Tryz.prog 57 [(.int .i64 a0), (.agg [(.int .i64 a1.e0), (.int .i64 a1.e1), (.int .i64 a1.e2)])] M (fun s M' => s = (.int .i64 r) ∧ M' = M) := by
  refine CallsM.plain Tryz.func57 rfl rfl rfl (show Run _ _ _ (sky_grid_cellOf_post r) _ _ _ from ?_)
  rw [sky_grid_cellOf] at h
  have hH := Has.nil (frozen M)
  refine Run.seq (Run.region ?_)
  refine Run.opX wantS_none rfl (ExG.box rfl rfl hH) ?_
  rintro _ M23 ⟨b22, rfl, (hH23 : Has (ro (frozen M)) M23 [.obj b22 (.row 85 .whole [(.int .i64 a1.e0), (.int .i64 a1.e1), (.int .i64 a1.e2)])])⟩
  refine Run.opG wantS_none (ex_assign rfl) rfl ?_
  refine Run.opsEnd (Run.seq (Run.region ?_))
  refine Run.opG wantS_none (ex_loadA rfl (hH23.cells (i := 0) rfl 0 rfl) rdLe_rfl agg85 rfl rfl rfl) rfl ?_
  obtain ⟨r25, hr25, h⟩ := bnd_some h
  refine Run.callP wantS_none (ex_call rfl mkk109 cal109) rfl (sky_faceOf_ok F a1 _ _ hr25) ?_
  refine Run.opG wantS_none (ex_assign rfl) rfl ?_
  refine Run.opsEnd (Run.seq (Run.region ?_))
  refine Run.opG wantS_none (ex_move rfl) rfl ?_
  obtain ⟨r28, hr28, h⟩ := bnd_some h
  refine Run.callP wantS_none (ex_call rfl mkk107 cal107) rfl (sky_axes_ok F r25 _ _ hr28) ?_
  refine Run.opG wantS_none (ex_move rfl) rfl ?_
  refine Run.opG wantS_none (ex_extract rfl rfl) rfl ?_
  refine Run.opG wantS_none (ex_extract rfl rfl) rfl ?_
  refine Run.opG wantS_none (ex_extract rfl rfl) rfl ?_
  refine Run.opG wantS_none (ex_assign rfl) rfl ?_
  refine Run.opG wantS_none (ex_assign rfl) rfl ?_
  refine Run.opG wantS_none (ex_assign rfl) rfl ?_
  refine Run.opsEnd (Run.seq ?_)
  refine Run.lateG latep57_1_1_1_0 rfl rfl ?_
  refine PureK.val wantS_none (ex_move rfl) rfl ?_
  refine PureK.val wantS_none (ex_move rfl) rfl ?_
  obtain ⟨o30, ho30, h⟩ := bnd_some h
  refine PureK.val wantS_none (ex_elX rfl rfl (arr_place (inA_natIn ho30) els85)) rfl ?_
  refine PureK.val wantS_none (ex_load1 rfl (hH23.cellV (off := 0) (cs := enc85 a1) (i := 0) rfl rfl (get85_cell a1 o30 (inA_lt ho30))) rdLe_rfl agg3) rfl ?_
  refine PureK.val wantS_none (ex_move rfl) rfl ?_
  obtain ⟨o31, ho31, h⟩ := bnd_some h
  refine PureK.val wantS_none (ex_elX rfl rfl (arr_place (inA_natIn ho31) els85)) rfl ?_
  refine PureK.val wantS_none (ex_load1 rfl (hH23.cellV (off := 0) (cs := enc85 a1) (i := 0) rfl rfl (get85_cell a1 o31 (inA_lt ho31))) rdLe_rfl agg3) rfl ?_
  refine PureK.val wantS_none (ex_neg rfl) rfl ?_
  refine PureK.val wantS_none (ex_max rfl rfl) rfl ?_
  refine PureK.new (v := fun b => .ptr b 0) wantS_none (ex_alloc zer3) rfl hH23 ?_
  intro b32 M33 (hH33 : Has (ro (frozen M)) M33 [.obj b32 (.row 3 .whole [(.int .i64 0)]), .obj b22 (.row 85 .whole [(.int .i64 a1.e0), (.int .i64 a1.e1), (.int .i64 a1.e2)])])
  refine PureK.new (v := fun b => .ptr b 0) wantS_none (ex_alloc zer3) rfl hH33 ?_
  intro b34 M35 (hH35 : Has (ro (frozen M)) M35 [.obj b34 (.row 3 .whole [(.int .i64 0)]), .obj b32 (.row 3 .whole [(.int .i64 0)]), .obj b22 (.row 85 .whole [(.int .i64 a1.e0), (.int .i64 a1.e1), (.int .i64 a1.e2)])])
  refine PureK.nil ⟨(st_cons rfl (ev_ex wantS_none (ex_move rfl)) rfl rfl rfl (st_cons rfl (ev_ex wantS_none (ex_elX rfl rfl (arr_place (inA_natIn ho30) els85))) rfl rfl rfl (st_cons rfl (ev_ex wantS_none (ex_load1 rfl (hH35.cellV (off := 0) (cs := enc85 a1) (i := 2) rfl rfl (get85_cell a1 o30 (inA_lt ho30))) rdLe_rfl agg3)) rfl rfl rfl (st_cons rfl (ev_ex wantS_none (ex_move rfl)) rfl rfl rfl (st_cons rfl (ev_ex wantS_none (ex_elX rfl rfl (arr_place (inA_natIn ho31) els85))) rfl rfl rfl (st_cons rfl (ev_ex wantS_none (ex_load1 rfl (hH35.cellV (off := 0) (cs := enc85 a1) (i := 2) rfl rfl (get85_cell a1 o31 (inA_lt ho31))) rdLe_rfl agg3)) rfl rfl rfl (st_cons rfl (ev_ex wantS_none (ex_neg rfl)) rfl rfl rfl (st_cons rfl (ev_ex wantS_none (ex_max rfl rfl)) rfl rfl rfl st_nil)))))))), ?_⟩
  refine SeqLG.opX wantS_none rfl (ExG.storeC (c' := [(.int .i64 a0)]) rfl rfl rfl hH35 (i := 1) rfl sz3 rfl rfl rfl rfl rfl) ?_
  rintro _ M36 ⟨rfl, (hH36 : Has (ro (frozen M)) M36 [.obj b34 (.row 3 .whole [(.int .i64 0)]), .obj b32 (.row 3 .whole [(.int .i64 a0)]), .obj b22 (.row 85 .whole [(.int .i64 a1.e0), (.int .i64 a1.e1), (.int .i64 a1.e2)])])⟩
  refine ⟨(st_cons rfl (ev_ex wantS_none (ex_move rfl)) rfl rfl rfl (st_cons rfl (ev_ex wantS_none (ex_elX rfl rfl (arr_place (inA_natIn ho30) els85))) rfl rfl rfl (st_cons rfl (ev_ex wantS_none (ex_load1 rfl (hH36.cellV (off := 0) (cs := enc85 a1) (i := 2) rfl rfl (get85_cell a1 o30 (inA_lt ho30))) rdLe_rfl agg3)) rfl rfl rfl (st_cons rfl (ev_ex wantS_none (ex_move rfl)) rfl rfl rfl (st_cons rfl (ev_ex wantS_none (ex_elX rfl rfl (arr_place (inA_natIn ho31) els85))) rfl rfl rfl (st_cons rfl (ev_ex wantS_none (ex_load1 rfl (hH36.cellV (off := 0) (cs := enc85 a1) (i := 2) rfl rfl (get85_cell a1 o31 (inA_lt ho31))) rdLe_rfl agg3)) rfl rfl rfl (st_cons rfl (ev_ex wantS_none (ex_neg rfl)) rfl rfl rfl (st_cons rfl (ev_ex wantS_none (ex_max rfl rfl)) rfl rfl rfl st_nil)))))))), ?_⟩
  refine SeqLG.opX wantS_none rfl (ExG.storeC (c' := [(.int .i64 (max (get85 a1 o30) (w64 (-(get85 a1 o31)))))]) rfl rfl rfl hH36 (i := 0) rfl sz3 rfl rfl rfl rfl rfl) ?_
  rintro _ M37 ⟨rfl, (hH37 : Has (ro (frozen M)) M37 [.obj b34 (.row 3 .whole [(.int .i64 (max (get85 a1 o30) (w64 (-(get85 a1 o31)))))]), .obj b32 (.row 3 .whole [(.int .i64 a0)]), .obj b22 (.row 85 .whole [(.int .i64 a1.e0), (.int .i64 a1.e1), (.int .i64 a1.e2)])])⟩
  refine ⟨(st_cons rfl (ev_ex wantS_none (ex_move rfl)) rfl rfl rfl (st_cons rfl (ev_ex wantS_none (ex_elX rfl rfl (arr_place (inA_natIn ho30) els85))) rfl rfl rfl (st_cons rfl (ev_ex wantS_none (ex_load1 rfl (hH37.cellV (off := 0) (cs := enc85 a1) (i := 2) rfl rfl (get85_cell a1 o30 (inA_lt ho30))) rdLe_rfl agg3)) rfl rfl rfl (st_cons rfl (ev_ex wantS_none (ex_move rfl)) rfl rfl rfl (st_cons rfl (ev_ex wantS_none (ex_elX rfl rfl (arr_place (inA_natIn ho31) els85))) rfl rfl rfl (st_cons rfl (ev_ex wantS_none (ex_load1 rfl (hH37.cellV (off := 0) (cs := enc85 a1) (i := 2) rfl rfl (get85_cell a1 o31 (inA_lt ho31))) rdLe_rfl agg3)) rfl rfl rfl (st_cons rfl (ev_ex wantS_none (ex_neg rfl)) rfl rfl rfl (st_cons rfl (ev_ex wantS_none (ex_max rfl rfl)) rfl rfl rfl st_nil)))))))), ?_⟩
  refine SeqLG.nil ?_
  refine Run.seq (Run.region ?_)
  refine Run.opG wantS_none (ex_makeFunc rfl rfl) rfl ?_
  refine Run.opG wantS_none (ex_assign rfl) rfl ?_
  refine Run.opsEnd (Run.seq ?_)
  refine Run.drawG plan57_1_1_1_1_1_0 ?_
  refine DrawG.fl rfl (ev_ex wantS_none (ex_move rfl)) rfl ?_
  refine DrawG.fl rfl (ev_ex wantS_none (ex_load1 rfl (hH37.cells (i := 1) rfl 0 rfl) rdLe_rfl agg3)) rfl ?_
  refine DrawG.fl rfl (ev_ex wantS_none (ex_mul rfl rfl)) rfl ?_
  refine DrawG.fl rfl (ev_ex wantS_none (ex_move rfl)) rfl ?_
  refine DrawG.fl rfl (ev_ex wantS_none (ex_move rfl)) rfl ?_
  obtain ⟨o38, ho38, h⟩ := bnd_some h
  refine DrawG.fl rfl (ev_ex wantS_none (ex_elX rfl rfl (arr_place (inA_natIn ho38) els85))) rfl ?_
  refine DrawG.fl rfl (ev_ex wantS_none (ex_load1 rfl (hH37.cellV (off := 0) (cs := enc85 a1) (i := 2) rfl rfl (get85_cell a1 o38 (inA_lt ho38))) rdLe_rfl agg3)) rfl ?_
  refine DrawG.fl rfl (ev_ex wantS_none (ex_load1 rfl (hH37.cells (i := 1) rfl 0 rfl) rdLe_rfl agg3)) rfl ?_
  refine DrawG.fl rfl (ev_ex wantS_none (ex_move rfl)) rfl ?_
  refine DrawG.fl rfl (ev_ex wantS_none (ex_move rfl)) rfl ?_
  obtain ⟨o39, ho39, h⟩ := bnd_some h
  refine DrawG.fl rfl (ev_ex wantS_none (ex_elX rfl rfl (arr_place (inA_natIn ho39) els85))) rfl ?_
  refine DrawG.fl rfl (ev_ex wantS_none (ex_load1 rfl (hH37.cellV (off := 0) (cs := enc85 a1) (i := 2) rfl rfl (get85_cell a1 o39 (inA_lt ho39))) rdLe_rfl agg3)) rfl ?_
  obtain ⟨r40, hr40, h⟩ := bnd_some h
  refine DrawG.call rfl wantS_none (ex_closure rfl rfl mkk110 cal110) rfl (sky_grid_cellOf_1_h1_ok F (get85 a1 o38) (max (get85 a1 o30) (w64 (-(get85 a1 o31)))) a0 b34 b32 (ro (frozen M)) [.obj b22 (.row 85 .whole [(.int .i64 a1.e0), (.int .i64 a1.e1), (.int .i64 a1.e2)])] _ _ hH37 hr40) ?_
  rintro _ M41 ⟨rfl, (hH41 : Has (ro (frozen M)) M41 [.obj b34 (.row 3 .whole [(.int .i64 (max (get85 a1 o30) (w64 (-(get85 a1 o31)))))]), .obj b32 (.row 3 .whole [(.int .i64 a0)]), .obj b22 (.row 85 .whole [(.int .i64 a1.e0), (.int .i64 a1.e1), (.int .i64 a1.e2)])])⟩
  refine ⟨(st_cons rfl (ev_ex wantS_none (ex_load1 rfl (hH41.cellV (off := 0) (cs := enc85 a1) (i := 2) rfl rfl (get85_cell a1 o39 (inA_lt ho39))) rdLe_rfl agg3)) rfl rfl rfl (st_cons rfl (ev_ex wantS_none (ex_elX rfl rfl (arr_place (inA_natIn ho39) els85))) rfl rfl rfl (st_cons rfl (ev_ex wantS_none (ex_move rfl)) rfl rfl rfl (st_cons rfl (ev_ex wantS_none (ex_move rfl)) rfl rfl rfl (st_cons rfl (ev_ex wantS_none (ex_load1 rfl (hH41.cells (i := 1) rfl 0 rfl) rdLe_rfl agg3)) rfl rfl rfl (st_cons rfl (ev_ex wantS_none (ex_mul rfl rfl)) rfl rfl rfl (st_cons rfl (ev_ex wantS_none (ex_load1 rfl (hH41.cells (i := 1) rfl 0 rfl) rdLe_rfl agg3)) rfl rfl rfl (st_cons rfl (ev_ex wantS_none (ex_move rfl)) rfl rfl rfl st_nil)))))))), ?_⟩
  refine DrawG.fl rfl (ev_ex wantS_none (ex_add rfl rfl)) rfl ?_
  refine DrawG.fl rfl (ev_ex wantS_none (ex_mul rfl rfl)) rfl ?_
  obtain ⟨r42, hr42, h⟩ := bnd_some h
  refine DrawG.call rfl wantS_none (ex_closure rfl rfl mkk110 cal110) rfl (sky_grid_cellOf_1_h1_ok F (get85 a1 o39) (max (get85 a1 o30) (w64 (-(get85 a1 o31)))) a0 b34 b32 (ro (frozen M)) [.obj b22 (.row 85 .whole [(.int .i64 a1.e0), (.int .i64 a1.e1), (.int .i64 a1.e2)])] _ _ hH41 hr42) ?_
  rintro _ M43 ⟨rfl, (hH43 : Has (ro (frozen M)) M43 [.obj b34 (.row 3 .whole [(.int .i64 (max (get85 a1 o30) (w64 (-(get85 a1 o31)))))]), .obj b32 (.row 3 .whole [(.int .i64 a0)]), .obj b22 (.row 85 .whole [(.int .i64 a1.e0), (.int .i64 a1.e1), (.int .i64 a1.e2)])])⟩
  refine ⟨(st_cons rfl (ev_ex wantS_none (ex_mul rfl rfl)) rfl rfl rfl (st_cons rfl (ev_ex wantS_none (ex_add rfl rfl)) rfl rfl rfl (st_cons rfl (ev_ex wantS_none (ex_load1 rfl (hH43.cells (i := 1) rfl 0 rfl) rdLe_rfl agg3)) rfl rfl rfl (st_cons rfl (ev_ex wantS_none (ex_mul rfl rfl)) rfl rfl rfl (st_cons rfl (ev_ex wantS_none (ex_load1 rfl (hH43.cells (i := 1) rfl 0 rfl) rdLe_rfl agg3)) rfl rfl rfl (st_cons rfl (ev_ex wantS_none (ex_move rfl)) rfl rfl rfl st_nil)))))), ?_⟩
  refine DrawG.fl rfl (ev_ex wantS_none (ex_add rfl rfl)) rfl ?_
  refine DrawG.fl rfl (ev_ex wantS_none (ex_assign rfl)) rfl ?_
  refine DrawG.sync ?_
  refine DrawG.nil ?_
  cases h
  exact Run.ret Tryz.func57 rfl (res_tmp rfl res_nil) rfl

theorem mkk57 : makeK Tryz.prog 57 = none := by kernel_rfl
theorem cal57 : callable Tryz.prog 57 = true := by kernel_rfl
abbrev sky_CellOf_post (r : Int × Int) : SV → Mem → Prop := fun s _ => s = (.tuple [(.int .i64 r.1), (.int .i64 r.2)])

def sky_CellOf (F : Nat) (a0 : Int) (a1 : S__3_int) : Option (Int × Int) :=
  bnd (sky_checkGrid F a0) fun r25 =>
  bif (!(r25 == (0 : Int))) then
    some ((0 : Int), r25)
  else
    bnd (sky_isVector F a1) fun r29 =>
    bif (!r29) then
      some ((0 : Int), (8 : Int))
    else
      bnd (sky_vector_isNone F a1) fun r33 =>
      bif r33 then
        some ((0 : Int), (4 : Int))
      else
        bnd (sky_grid_cellOf F a0 a1) fun r37 =>
        some (r37, (0 : Int))

theorem sky_CellOf_ok (F : Nat) (a0 : Int) (a1 : S__3_int) (r : Int × Int) (M : Mem) (h : sky_CellOf F a0 a1 = some r) : CallsM Tryz.prog 16 [(.int .i64 a0), (.agg [(.int .i64 a1.e0), (.int .i64 a1.e1), (.int .i64 a1.e2)])] M (fun s M' => s = (.tuple [(.int .i64 r.1), (.int .i64 r.2)]) ∧ M' = M) := by
  refine CallsM.plain Tryz.func16 rfl rfl rfl (show Run _ _ _ (sky_CellOf_post r) _ _ _ from ?_)
  rw [sky_CellOf] at h
  have hH := Has.nil (frozen M)
  refine Run.seq (Run.region ?_)
  refine Run.opX wantS_none rfl (ExG.box rfl rfl hH) ?_
  rintro _ M23 ⟨b22, rfl, (hH23 : Has (ro (frozen M)) M23 [.obj b22 (.row 22 .whole [(.int .i64 a1.e0), (.int .i64 a1.e1), (.int .i64 a1.e2)])])⟩
  refine Run.opG wantS_none (ex_assign rfl) rfl ?_
  refine Run.opG wantS_none (ex_assign rfl) rfl ?_
  refine Run.opsEnd (Run.seq (Run.seq (Run.region ?_)))
  refine Run.opG wantS_none (ex_move rfl) rfl ?_
  obtain ⟨r25, hr25, h⟩ := bnd_some h
  refine Run.callP wantS_none (ex_call rfl mkk48 cal48) rfl (sky_checkGrid_ok F a0 _ _ hr25) ?_
  refine Run.opG wantS_none (ex_assign rfl) rfl ?_
  refine Run.opsEnd (Run.block (Run.seq (Run.region ?_)))
  refine Run.opG wantS_none (ex_move rfl) rfl ?_
  refine Run.opG wantS_none (ex_neq rfl rfl) rfl ?_
  refine Run.opG wantS_none (ex_assign rfl) rfl ?_
  refine Run.opsEnd ?_
  rcases btf ((!(r25 == (0 : Int)))) with hc27 | hc27
  · have h := bif_t hc27 h
    refine Run.condT' rfl hc27 ?_
    refine Run.seq (Run.region ?_)
    refine Run.opG wantS_none (ex_move rfl) rfl ?_
    refine Run.opG wantS_none (ex_assign rfl) rfl ?_
    refine Run.opG wantS_none (ex_assign rfl) rfl ?_
    refine Run.opsEnd ?_
    cases h
    exact Run.ret Tryz.func16 rfl (res_tmp rfl (res_tmp rfl res_nil)) rfl
  · have h := bif_f hc27 h
    refine Run.condF' rfl hc27 ?_
    refine Run.seq (Run.region ?_)
    refine Run.opG wantS_none (ex_loadA rfl (hH23.cells (i := 0) rfl 0 rfl) rdLe_rfl agg22 rfl rfl rfl) rfl ?_
    obtain ⟨r29, hr29, h⟩ := bnd_some h
    refine Run.callP wantS_none (ex_call rfl mkk55 cal55) rfl (sky_isVector_ok F a1 _ _ hr29) ?_
    refine Run.opG wantS_none (ex_not rfl) rfl ?_
    refine Run.opG wantS_none (ex_assign rfl) rfl ?_
    refine Run.opsEnd ?_
    rcases btf ((!r29)) with hc31 | hc31
    · have h := bif_t hc31 h
      refine Run.condT' rfl hc31 ?_
      refine Run.seq (Run.region ?_)
      refine Run.opG wantS_none (ex_assign rfl) rfl ?_
      refine Run.opG wantS_none (ex_assign rfl) rfl ?_
      refine Run.opsEnd ?_
      cases h
      exact Run.ret Tryz.func16 rfl (res_tmp rfl (res_tmp rfl res_nil)) rfl
    · have h := bif_f hc31 h
      refine Run.condF' rfl hc31 ?_
      refine Run.seq (Run.region ?_)
      refine Run.opG wantS_none (ex_loadA rfl (hH23.cells (i := 0) rfl 0 rfl) rdLe_rfl agg22 rfl rfl rfl) rfl ?_
      obtain ⟨r33, hr33, h⟩ := bnd_some h
      refine Run.callP wantS_none (ex_call rfl mkk56 cal56) rfl (sky_vector_isNone_ok F a1 _ _ hr33) ?_
      refine Run.opG wantS_none (ex_assign rfl) rfl ?_
      refine Run.opsEnd ?_
      rcases btf (r33) with hc35 | hc35
      · have h := bif_t hc35 h
        refine Run.condT' rfl hc35 ?_
        refine Run.seq (Run.region ?_)
        refine Run.opG wantS_none (ex_assign rfl) rfl ?_
        refine Run.opG wantS_none (ex_assign rfl) rfl ?_
        refine Run.opsEnd ?_
        cases h
        exact Run.ret Tryz.func16 rfl (res_tmp rfl (res_tmp rfl res_nil)) rfl
      · have h := bif_f hc35 h
        refine Run.condF' rfl hc35 ?_
        refine Run.skip (Run.inBlock (Run.seq (Run.region ?_)))
        refine Run.opG wantS_none (ex_move rfl) rfl ?_
        refine Run.opG wantS_none (ex_loadA rfl (hH23.cells (i := 0) rfl 0 rfl) rdLe_rfl agg22 rfl rfl rfl) rfl ?_
        obtain ⟨r37, hr37, h⟩ := bnd_some h
        refine Run.callP wantS_none (ex_call rfl mkk57 cal57) rfl (sky_grid_cellOf_ok F a0 a1 _ _ hr37) ?_
        refine Run.opG wantS_none (ex_assign rfl) rfl ?_
        refine Run.opG wantS_none (ex_assign rfl) rfl ?_
        refine Run.opsEnd ?_
        cases h
        exact Run.ret Tryz.func16 rfl (res_tmp rfl (res_tmp rfl res_nil)) rfl

theorem mkk16 : makeK Tryz.prog 16 = none := by kernel_rfl
theorem cal16 : callable Tryz.prog 16 = true := by kernel_rfl
theorem els22 : elems Tryz.prog 22 = some (.arr 3 1) := by kernel_rfl
def enc22 (a : S__3_int) : List SV := [(.int .i64 a.e0), (.int .i64 a.e1), (.int .i64 a.e2)]
theorem enc22_len (a : S__3_int) : (enc22 a).length = 3 := rfl
theorem enc22_ones (a : S__3_int) : ones (enc22 a) = true := rfl
def get22 (a : S__3_int) (o : Nat) : Int := bif Nat.beq o 0 then a.e0 else bif Nat.beq o 1 then a.e1 else a.e2
def set22 (a : S__3_int) (o : Nat) (v : Int) : S__3_int := ⟨bif Nat.beq o 0 then v else a.e0, bif Nat.beq o 1 then v else a.e1, bif Nat.beq o 2 then v else a.e2⟩
theorem get22_cell (a : S__3_int) : ∀ o : Nat, o < 3 → (enc22 a)[o]? = some (.int .i64 (get22 a o))
  | 0, _ => rfl
  | 1, _ => rfl
  | 2, _ => rfl
  | _ + 3, h => absurd h (by omega)
theorem set22_cell (a : S__3_int) (v : Int) : ∀ o : Nat, o < 3 → (enc22 a).set o (.int .i64 v) = enc22 (set22 a o v)
  | 0, _ => rfl
  | 1, _ => rfl
  | 2, _ => rfl
  | _ + 3, h => absurd h (by omega)
abbrev ref00_Abs_post (r : Int) : SV → Mem → Prop := fun s _ => s = (.int .i64 r)

def ref00_Abs (F : Nat) (a0 : Int) : Option (Int) :=
  bif (decide (a0 < (0 : Int))) then
    some (w64 (-a0))
  else
    some a0

theorem ref00_Abs_ok (F : Nat) (a0 : Int) (r : Int) (M : Mem) (h : ref00_Abs F a0 = some r) : CallsM Tryz.prog 58 [(.int .i64 a0)] M (fun s M' => s = (.int .i64 r) ∧ M' = M) := by
  refine CallsM.plain Tryz.func58 rfl rfl rfl (show Run _ _ _ (ref00_Abs_post r) _ _ _ from ?_)
  rw [ref00_Abs] at h
  have hH := Has.nil (frozen M)
  refine Run.seq (Run.region ?_)
  refine Run.opG wantS_none (ex_assign rfl) rfl ?_
  refine Run.opsEnd (Run.seq (Run.seq (Run.region ?_)))
  refine Run.opG wantS_none (ex_move rfl) rfl ?_
  refine Run.opG wantS_none (ex_lss rfl rfl) rfl ?_
  refine Run.opsEnd ?_
  rcases btf ((decide (a0 < (0 : Int)))) with hc21 | hc21
  · have h := bif_t hc21 h
    refine Run.condT' rfl hc21 ?_
    refine Run.seq (Run.region ?_)
    refine Run.opG wantS_none (ex_move rfl) rfl ?_
    refine Run.opG wantS_none (ex_neg rfl) rfl ?_
    refine Run.opG wantS_none (ex_assign rfl) rfl ?_
    refine Run.opsEnd ?_
    cases h
    exact Run.ret Tryz.func58 rfl (res_tmp rfl res_nil) rfl
  · have h := bif_f hc21 h
    refine Run.condF' rfl hc21 ?_
    refine Run.skip (Run.seq (Run.region ?_))
    refine Run.opG wantS_none (ex_move rfl) rfl ?_
    refine Run.opG wantS_none (ex_assign rfl) rfl ?_
    refine Run.opsEnd ?_
    cases h
    exact Run.ret Tryz.func58 rfl (res_tmp rfl res_nil) rfl

theorem mkk58 : makeK Tryz.prog 58 = none := by kernel_rfl
theorem cal58 : callable Tryz.prog 58 = true := by kernel_rfl
theorem plan17_1_1_1_1_1_0_1_0_0_1_0_0_0 : planOf Tryz.prog (opsC (atC Tryz.prog 17 [1, 1, 1, 1, 1, 0, 1, 0, 0, 1, 0, 0, 0])) = some [.fl 0, .fl 1, .fl 2, .fl 4, .fl 5, .fl 6, .an 3 [6, 5, 4], .an 7 [], .fl 8, .sync] := by kernel_rfl
def enc3 (a : Int) : List SV := [(.int .i64 a)]
theorem enc3_len (a : Int) : (enc3 a).length = 1 := rfl
theorem enc3_ones (a : Int) : ones (enc3 a) = true := rfl
theorem elt36 : sliceElt Tryz.prog 36 = some (⟨1, 8, [(.int .i64 0)], 3⟩ : Elt) := by kernel_rfl
theorem appt36_36 : appT Tryz.prog 36 36 = some (⟨1, 8, [(.int .i64 0)], 3⟩ : Elt) := by kernel_rfl
theorem els36 : elems Tryz.prog 36 = some (.sl 1) := by kernel_rfl
theorem plan17_1_1_1_1_1_1_1_1_1_1_1_0 : planOf Tryz.prog (opsC (atC Tryz.prog 17 [1, 1, 1, 1, 1, 1, 1, 1, 1, 1, 1, 0])) = some [.fl 0, .fl 1, .fl 2, .fl 3, .fl 4, .fl 5, .fl 6, .fl 7, .fl 8, .fl 9, .fl 10, .fl 11, .fl 12, .fl 13, .fl 14, .sync] := by kernel_rfl
abbrev ref09_CellOf_post (r : Int × Int) : SV → Mem → Prop := fun s _ => s = (.tuple [(.int .i64 r.1), (.int .i64 r.2)])

def ref09_CellOf_4 (F : Nat) (hd3 : Int → Int → Int → S__3_int → Option (Int × Int)) (v0 : Int) (v6 : Int) (v7 : Int) (c22 : S__3_int) : Option (Int × Int) :=
  hd3 v0 v6 (w64 (v7 + (1 : Int))) c22

theorem ref09_CellOf_4_ok (F : Nat) (hd3 : Int → Int → Int → S__3_int → Option (Int × Int)) (hhd3 : ∀ (v0 : Int) (v6 : Int) (v7 : Int) (c22 : S__3_int) (b22 : Pos) (Fr : Rd) (M : Mem) (r : Int × Int) (hH : Has Fr M [.obj b22 (.row 22 .whole [(.int .i64 c22.e0), (.int .i64 c22.e1), (.int .i64 c22.e2)])]), hd3 v0 v6 v7 c22 = some r → Run Tryz.prog ⟨⟨17, [], none⟩, []⟩ 96 (ref09_CellOf_post r) [(0, (.int .i64 v0)), (3, (.ptr b22 0)), (6, (.int .i64 v6)), (7, (.int .i64 v7))] [codeC Tryz.prog 17 [1, 1, 1, 1, 1, 0, 1, 0, 0], loopC Tryz.prog 17 [1, 1, 1, 1, 1, 0, 1, 0, 0], .inBlock 0, codeC Tryz.prog 17 [1, 1, 1, 1, 1, 1]] M) : ∀ (v0 : Int) (v6 : Int) (v7 : Int) (c22 : S__3_int) (b22 : Pos) (Fr : Rd) (M : Mem) (r : Int × Int) (hH : Has Fr M [.obj b22 (.row 22 .whole [(.int .i64 c22.e0), (.int .i64 c22.e1), (.int .i64 c22.e2)])]), ref09_CellOf_4 F hd3 v0 v6 v7 c22 = some r → Run Tryz.prog ⟨⟨17, [], none⟩, []⟩ 96 (ref09_CellOf_post r) [(0, (.int .i64 v0)), (3, (.ptr b22 0)), (6, (.int .i64 v6)), (7, (.int .i64 v7))] [itemC Tryz.prog 17 [1, 1, 1, 1, 1, 0, 1, 0, 0, 1, 1] 0, loopC Tryz.prog 17 [1, 1, 1, 1, 1, 0, 1, 0, 0], .inBlock 0, codeC Tryz.prog 17 [1, 1, 1, 1, 1, 1]] M := by
  intro v0 v6 v7 c22 b22 Fr M r hH h
  rw [ref09_CellOf_4] at h
  refine Run.opG wantS_none (ex_move rfl) rfl ?_
  refine Run.opG wantS_none (ex_add rfl rfl) rfl ?_
  refine Run.opG wantS_none (ex_assign rfl) rfl ?_
  refine Run.opsEnd (Run.inLoop ?_)
  exact Run.pick [0, 3, 6, 7] (hhd3 v0 v6 (w64 (v7 + (1 : Int))) c22 b22 _ _ _ hH h)

def ref09_CellOf_6 (F : Nat) (hd5 : Int → Int → Int → Int → S__3_int → (List Int) → Option (Int × Int)) (v0 : Int) (v6 : Int) (v8 : Int) (v10 : Int) (c22 : S__3_int) (l64 : (List Int)) : Option (Int × Int) :=
  hd5 v0 v6 v8 (w64 (v10 + (1 : Int))) c22 l64

theorem ref09_CellOf_6_ok (F : Nat) (hd5 : Int → Int → Int → Int → S__3_int → (List Int) → Option (Int × Int)) (hhd5 : ∀ (v0 : Int) (v6 : Int) (v8 : Int) (v10 : Int) (c22 : S__3_int) (l50 : (List Int)) (b22 : Pos) (s50 : SV) (Fr : Rd) (M : Mem) (r : Int × Int) (hH : Has Fr M [.obj b22 (.row 22 .whole [(.int .i64 c22.e0), (.int .i64 c22.e1), (.int .i64 c22.e2)]), .vec 3 1 l50.length s50 (l50.flatMap enc3)]), hd5 v0 v6 v8 v10 c22 l50 = some r → Run Tryz.prog ⟨⟨17, [], none⟩, []⟩ 96 (ref09_CellOf_post r) [(0, (.int .i64 v0)), (3, (.ptr b22 0)), (6, (.int .i64 v6)), (8, (.int .i64 v8)), (9, s50), (10, (.int .i64 v10))] [codeC Tryz.prog 17 [1, 1, 1, 1, 1, 1, 1, 1, 0, 1, 0, 0], loopC Tryz.prog 17 [1, 1, 1, 1, 1, 1, 1, 1, 0, 1, 0, 0], .inBlock 2, codeC Tryz.prog 17 [1, 1, 1, 1, 1, 1, 1, 1, 1]] M) : ∀ (v0 : Int) (v6 : Int) (v8 : Int) (v10 : Int) (c22 : S__3_int) (l64 : (List Int)) (b22 : Pos) (s64 : SV) (Fr : Rd) (M : Mem) (r : Int × Int) (hH : Has Fr M [.obj b22 (.row 22 .whole [(.int .i64 c22.e0), (.int .i64 c22.e1), (.int .i64 c22.e2)]), .vec 3 1 l64.length s64 (l64.flatMap enc3)]), ref09_CellOf_6 F hd5 v0 v6 v8 v10 c22 l64 = some r → Run Tryz.prog ⟨⟨17, [], none⟩, []⟩ 96 (ref09_CellOf_post r) [(0, (.int .i64 v0)), (3, (.ptr b22 0)), (6, (.int .i64 v6)), (8, (.int .i64 v8)), (9, s64), (10, (.int .i64 v10))] [itemC Tryz.prog 17 [1, 1, 1, 1, 1, 1, 1, 1, 0, 1, 0, 0, 1, 1] 0, loopC Tryz.prog 17 [1, 1, 1, 1, 1, 1, 1, 1, 0, 1, 0, 0], .inBlock 2, codeC Tryz.prog 17 [1, 1, 1, 1, 1, 1, 1, 1, 1]] M := by
  intro v0 v6 v8 v10 c22 l64 b22 s64 Fr M r hH h
  rw [ref09_CellOf_6] at h
  refine Run.opG wantS_none (ex_move rfl) rfl ?_
  refine Run.opG wantS_none (ex_add rfl rfl) rfl ?_
  refine Run.opG wantS_none (ex_assign rfl) rfl ?_
  refine Run.opsEnd (Run.inLoop ?_)
  exact Run.pick [0, 3, 6, 8, 9, 10] (hhd5 v0 v6 v8 (w64 (v10 + (1 : Int))) c22 l64 b22 s64 _ _ _ hH h)

def ref09_CellOf_7 (F : Nat) (v0 : Int) (v11 : Int) (l50 : (List Int)) : Option (Int × Int) :=
  bnd (idx l50 (0 : Int)) fun x69 =>
  bnd (idx l50 (1 : Int)) fun x70 =>
  some ((w64 ((w64 ((w64 ((w64 (v11 * v0)) + x69)) * v0)) + x70)), (0 : Int))

theorem ref09_CellOf_7_ok (F : Nat) : ∀ (v0 : Int) (v11 : Int) (l50 : (List Int)) (s50 : SV) (Fr : Rd) (M : Mem) (r : Int × Int) (hH : Has Fr M [.vec 3 1 l50.length s50 (l50.flatMap enc3)]), ref09_CellOf_7 F v0 v11 l50 = some r → Run Tryz.prog ⟨⟨17, [], none⟩, []⟩ 96 (ref09_CellOf_post r) [(0, (.int .i64 v0)), (9, s50), (11, (.int .i64 v11))] [codeC Tryz.prog 17 [1, 1, 1, 1, 1, 1, 1, 1, 1, 1, 1, 0], codeC Tryz.prog 17 [1, 1, 1, 1, 1, 1, 1, 1, 1, 1, 1, 1]] M := by
  intro v0 v11 l50 s50 Fr M r hH h
  rw [ref09_CellOf_7] at h
  refine Run.drawG plan17_1_1_1_1_1_1_1_1_1_1_1_0 ?_
  refine DrawG.fl rfl (ev_ex wantS_none (ex_move rfl)) rfl ?_
  refine DrawG.fl rfl (ev_ex wantS_none (ex_move rfl)) rfl ?_
  refine DrawG.fl rfl (ev_ex wantS_none (ex_mul rfl rfl)) rfl ?_
  refine DrawG.fl rfl (ev_ex wantS_none (ex_move rfl)) rfl ?_
  obtain ⟨x69, hx69, h⟩ := bnd_some h
  obtain ⟨p69, o69, hb69, hx69, he69⟩ := vec_elem (P := Tryz.prog) (t := 36) (kk := .i64) hH (i := 0) rfl hx69 els36
  refine DrawG.fl rfl (ev_ex wantS_none (ex_elX rfl rfl hx69)) rfl ?_
  refine DrawG.fl rfl (ev_ex wantS_none (ex_load1 rfl (hH.at (enc := enc3) (a := x69) (i := 0) rfl hb69 he69 enc3_len) rdLe_rfl agg3)) rfl ?_
  refine DrawG.fl rfl (ev_ex wantS_none (ex_add rfl rfl)) rfl ?_
  refine DrawG.fl rfl (ev_ex wantS_none (ex_move rfl)) rfl ?_
  refine DrawG.fl rfl (ev_ex wantS_none (ex_mul rfl rfl)) rfl ?_
  refine DrawG.fl rfl (ev_ex wantS_none (ex_move rfl)) rfl ?_
  obtain ⟨x70, hx70, h⟩ := bnd_some h
  obtain ⟨p70, o70, hb70, hx70, he70⟩ := vec_elem (P := Tryz.prog) (t := 36) (kk := .i64) hH (i := 0) rfl hx70 els36
  refine DrawG.fl rfl (ev_ex wantS_none (ex_elX rfl rfl hx70)) rfl ?_
  refine DrawG.fl rfl (ev_ex wantS_none (ex_load1 rfl (hH.at (enc := enc3) (a := x70) (i := 0) rfl hb70 he70 enc3_len) rdLe_rfl agg3)) rfl ?_
  refine DrawG.fl rfl (ev_ex wantS_none (ex_add rfl rfl)) rfl ?_
  refine DrawG.fl rfl (ev_ex wantS_none (ex_assign rfl)) rfl ?_
  refine DrawG.fl rfl (ev_ex wantS_none (ex_assign rfl)) rfl ?_
  refine DrawG.sync ?_
  refine DrawG.nil ?_
  cases h
  exact Run.ret Tryz.func17 rfl (res_tmp rfl (res_tmp rfl res_nil)) rfl

def ref09_CellOf_5 (F : Nat) : Nat → Int → Int → Int → Int → S__3_int → (List Int) → Option (Int × Int)
  | 0, _, _, _, _, _, _ => none
  | N + 1, v0, v6, v8, v10, c22, l50 =>
    bif (decide (v10 < (3 : Int))) then
      bif (!(v10 == v6)) then
        bnd (inA v10 3) fun o55 =>
        bnd (nz (w64 ((2 : Int) * v8))) fun z57 =>
        bnd (apd 8 l50 ([(min (w64 (Int.tdiv (w64 ((w64 ((get22 c22 o55) + v8)) * v0)) (w64 ((2 : Int) * v8)))) (w64 (v0 - (1 : Int))))] : List Int)) fun l63 =>
        ref09_CellOf_6 F (ref09_CellOf_5 F N) v0 v6 v8 v10 c22 l63
      else
        ref09_CellOf_6 F (ref09_CellOf_5 F N) v0 v6 v8 v10 c22 l50
    else
      bnd (inA v6 3) fun o67 =>
      bif (decide ((get22 c22 o67) < (0 : Int))) then
        ref09_CellOf_7 F v0 (w64 ((w64 ((2 : Int) * v6)) + (1 : Int))) l50
      else
        ref09_CellOf_7 F v0 (w64 ((2 : Int) * v6)) l50

theorem ref09_CellOf_5_ok (F : Nat) : ∀ (N : Nat), ∀ (v0 : Int) (v6 : Int) (v8 : Int) (v10 : Int) (c22 : S__3_int) (l50 : (List Int)) (b22 : Pos) (s50 : SV) (Fr : Rd) (M : Mem) (r : Int × Int) (hH : Has Fr M [.obj b22 (.row 22 .whole [(.int .i64 c22.e0), (.int .i64 c22.e1), (.int .i64 c22.e2)]), .vec 3 1 l50.length s50 (l50.flatMap enc3)]), ref09_CellOf_5 F N v0 v6 v8 v10 c22 l50 = some r → Run Tryz.prog ⟨⟨17, [], none⟩, []⟩ 96 (ref09_CellOf_post r) [(0, (.int .i64 v0)), (3, (.ptr b22 0)), (6, (.int .i64 v6)), (8, (.int .i64 v8)), (9, s50), (10, (.int .i64 v10))] [codeC Tryz.prog 17 [1, 1, 1, 1, 1, 1, 1, 1, 0, 1, 0, 0], loopC Tryz.prog 17 [1, 1, 1, 1, 1, 1, 1, 1, 0, 1, 0, 0], .inBlock 2, codeC Tryz.prog 17 [1, 1, 1, 1, 1, 1, 1, 1, 1]] M := by
  intro N
  induction N with
  | zero =>
    intro v0 v6 v8 v10 c22 l50 b22 s50 Fr M r hH h
    simp [ref09_CellOf_5] at h
  | succ N ih =>
    intro v0 v6 v8 v10 c22 l50 b22 s50 Fr M r hH h
    rw [ref09_CellOf_5] at h
    refine Run.seq (Run.seq (Run.region ?_))
    refine Run.opG wantS_none (ex_move rfl) rfl ?_
    refine Run.opG wantS_none (ex_lss rfl rfl) rfl ?_
    refine Run.opsEnd ?_
    rcases btf ((decide (v10 < (3 : Int)))) with hc52 | hc52
    · have h := bif_t hc52 h
      refine Run.condT' rfl hc52 ?_
      refine Run.skip (Run.seq (Run.block (Run.seq (Run.region ?_))))
      refine Run.opG wantS_none (ex_move rfl) rfl ?_
      refine Run.opG wantS_none (ex_move rfl) rfl ?_
      refine Run.opG wantS_none (ex_neq rfl rfl) rfl ?_
      refine Run.opsEnd ?_
      rcases btf ((!(v10 == v6))) with hc53 | hc53
      · have h := bif_t hc53 h
        refine Run.condT' rfl hc53 ?_
        refine Run.region ?_
        refine Run.opG wantS_none (ex_move rfl) rfl ?_
        refine Run.opG wantS_none (ex_move rfl) rfl ?_
        obtain ⟨o55, ho55, h⟩ := bnd_some h
        refine Run.opG wantS_none (ex_elX rfl rfl (arr_place (inA_natIn ho55) els22)) rfl ?_
        refine Run.opG wantS_none (ex_load1 rfl (hH.cellV (off := 0) (cs := enc22 c22) (i := 0) rfl rfl (get22_cell c22 o55 (inA_lt ho55))) rdLe_rfl agg3) rfl ?_
        refine Run.opG wantS_none (ex_move rfl) rfl ?_
        refine Run.opG wantS_none (ex_add rfl rfl) rfl ?_
        refine Run.opG wantS_none (ex_move rfl) rfl ?_
        refine Run.opG wantS_none (ex_mul rfl rfl) rfl ?_
        refine Run.opG wantS_none (ex_move rfl) rfl ?_
        refine Run.opG wantS_none (ex_mul rfl rfl) rfl ?_
        obtain ⟨z57, hz57, h⟩ := bnd_some h
        refine Run.opG wantS_none (ex_quo' rfl rfl hz57) rfl ?_
        refine Run.opG wantS_none (ex_move rfl) rfl ?_
        refine Run.opG wantS_none (ex_sub rfl rfl) rfl ?_
        refine Run.opG wantS_none (ex_min rfl rfl) rfl ?_
        refine Run.opX wantS_none rfl (ExG.built (enc := enc3) (l := ([(min (w64 (Int.tdiv (w64 ((w64 ((get22 c22 o55) + v8)) * v0)) (w64 ((2 : Int) * v8)))) (w64 (v0 - (1 : Int))))] : List Int)) (z := 1) rfl elt36 rfl rfl rfl enc3_len hH) ?_
        rintro s59 M60 (hH60 : Has Fr M60 [.vec 3 1 ([(min (w64 (Int.tdiv (w64 ((w64 ((get22 c22 o55) + v8)) * v0)) (w64 ((2 : Int) * v8)))) (w64 (v0 - (1 : Int))))] : List Int).length s59 (([(min (w64 (Int.tdiv (w64 ((w64 ((get22 c22 o55) + v8)) * v0)) (w64 ((2 : Int) * v8)))) (w64 (v0 - (1 : Int))))] : List Int).flatMap enc3), .obj b22 (.row 22 .whole [(.int .i64 c22.e0), (.int .i64 c22.e1), (.int .i64 c22.e2)]), .vec 3 1 l50.length s50 (l50.flatMap enc3)])
        obtain ⟨l63, hl63, h⟩ := bnd_some h
        refine Run.opX wantS_none rfl (ExG.append rfl rfl hH60 (i := 2) rfl enc3_len rfl enc3_ones appt36_36 rfl (len_slc (hH60.slc (i := 0) rfl enc3_len)) (first_slc (hH60.slc (i := 0) rfl enc3_len) (rdLe_rdRow _) enc3_len) hl63) ?_
        rintro s63 M65 (hH65 : Has Fr M65 [.vec 3 1 ([(min (w64 (Int.tdiv (w64 ((w64 ((get22 c22 o55) + v8)) * v0)) (w64 ((2 : Int) * v8)))) (w64 (v0 - (1 : Int))))] : List Int).length s59 (([(min (w64 (Int.tdiv (w64 ((w64 ((get22 c22 o55) + v8)) * v0)) (w64 ((2 : Int) * v8)))) (w64 (v0 - (1 : Int))))] : List Int).flatMap enc3), .obj b22 (.row 22 .whole [(.int .i64 c22.e0), (.int .i64 c22.e1), (.int .i64 c22.e2)]), .vec 3 1 l63.length s63 (l63.flatMap enc3)])
        refine Run.opG wantS_none (ex_assign rfl) rfl ?_
        refine Run.opsEnd (Run.inBlock (Run.region ?_))
        exact Run.pick [0, 3, 6, 8, 9, 10] (ref09_CellOf_6_ok F (ref09_CellOf_5 F N) ih v0 v6 v8 v10 c22 l63 b22 s63 _ _ _ (hH65.pick [1, 2] rfl rfl) h)
      · have h := bif_f hc53 h
        refine Run.condF' rfl hc53 ?_
        refine Run.skip (Run.inBlock (Run.region ?_))
        exact Run.pick [0, 3, 6, 8, 9, 10] (ref09_CellOf_6_ok F (ref09_CellOf_5 F N) ih v0 v6 v8 v10 c22 l50 b22 s50 _ _ _ hH h)
    · have h := bif_f hc52 h
      refine Run.condF' rfl hc52 ?_
      refine Run.exit rfl (Run.seq (Run.region ?_))
      refine Run.opG wantS_none (ex_move rfl) rfl ?_
      refine Run.opG wantS_none (ex_mul rfl rfl) rfl ?_
      refine Run.opG wantS_none (ex_assign rfl) rfl ?_
      refine Run.opsEnd (Run.seq (Run.seq (Run.region ?_)))
      refine Run.opG wantS_none (ex_move rfl) rfl ?_
      obtain ⟨o67, ho67, h⟩ := bnd_some h
      refine Run.opG wantS_none (ex_elX rfl rfl (arr_place (inA_natIn ho67) els22)) rfl ?_
      refine Run.opG wantS_none (ex_load1 rfl (hH.cellV (off := 0) (cs := enc22 c22) (i := 0) rfl rfl (get22_cell c22 o67 (inA_lt ho67))) rdLe_rfl agg3) rfl ?_
      refine Run.opG wantS_none (ex_lss rfl rfl) rfl ?_
      refine Run.opsEnd ?_
      rcases btf ((decide ((get22 c22 o67) < (0 : Int)))) with hc68 | hc68
      · have h := bif_t hc68 h
        refine Run.condT' rfl hc68 ?_
        refine Run.region ?_
        refine Run.opG wantS_none (ex_move rfl) rfl ?_
        refine Run.opG wantS_none (ex_add rfl rfl) rfl ?_
        refine Run.opG wantS_none (ex_assign rfl) rfl ?_
        refine Run.opsEnd (Run.seq ?_)
        exact Run.pick [0, 9, 11] (ref09_CellOf_7_ok F v0 (w64 ((w64 ((2 : Int) * v6)) + (1 : Int))) l50 s50 _ _ _ (hH.pick [1] rfl rfl) h)
      · have h := bif_f hc68 h
        refine Run.condF' rfl hc68 ?_
        refine Run.skip (Run.seq ?_)
        exact Run.pick [0, 9, 11] (ref09_CellOf_7_ok F v0 (w64 ((2 : Int) * v6)) l50 s50 _ _ _ (hH.pick [1] rfl rfl) h)

def ref09_CellOf_3 (F : Nat) : Nat → Int → Int → Int → S__3_int → Option (Int × Int)
  | 0, _, _, _, _ => none
  | N + 1, v0, v6, v7, c22 =>
    bif (decide (v7 < (3 : Int))) then
      bnd (inA v7 3) fun o38 =>
      bnd (inA v6 3) fun o39 =>
      bnd (ref00_Abs F (get22 c22 o38)) fun r40 =>
      bnd (ref00_Abs F (get22 c22 o39)) fun r42 =>
      bif (decide (r42 < r40)) then
        ref09_CellOf_4 F (ref09_CellOf_3 F N) v0 v7 v7 c22
      else
        ref09_CellOf_4 F (ref09_CellOf_3 F N) v0 v6 v7 c22
    else
      bnd (inA v6 3) fun o46 =>
      bnd (ref00_Abs F (get22 c22 o46)) fun r48 =>
      ref09_CellOf_5 F F v0 v6 r48 (0 : Int) c22 ([] : List Int)

theorem ref09_CellOf_3_ok (F : Nat) : ∀ (N : Nat), ∀ (v0 : Int) (v6 : Int) (v7 : Int) (c22 : S__3_int) (b22 : Pos) (Fr : Rd) (M : Mem) (r : Int × Int) (hH : Has Fr M [.obj b22 (.row 22 .whole [(.int .i64 c22.e0), (.int .i64 c22.e1), (.int .i64 c22.e2)])]), ref09_CellOf_3 F N v0 v6 v7 c22 = some r → Run Tryz.prog ⟨⟨17, [], none⟩, []⟩ 96 (ref09_CellOf_post r) [(0, (.int .i64 v0)), (3, (.ptr b22 0)), (6, (.int .i64 v6)), (7, (.int .i64 v7))] [codeC Tryz.prog 17 [1, 1, 1, 1, 1, 0, 1, 0, 0], loopC Tryz.prog 17 [1, 1, 1, 1, 1, 0, 1, 0, 0], .inBlock 0, codeC Tryz.prog 17 [1, 1, 1, 1, 1, 1]] M := by
  intro N
  induction N with
  | zero =>
    intro v0 v6 v7 c22 b22 Fr M r hH h
    simp [ref09_CellOf_3] at h
  | succ N ih =>
    intro v0 v6 v7 c22 b22 Fr M r hH h
    rw [ref09_CellOf_3] at h
    refine Run.seq (Run.seq (Run.region ?_))
    refine Run.opG wantS_none (ex_move rfl) rfl ?_
    refine Run.opG wantS_none (ex_lss rfl rfl) rfl ?_
    refine Run.opsEnd ?_
    rcases btf ((decide (v7 < (3 : Int)))) with hc37 | hc37
    · have h := bif_t hc37 h
      refine Run.condT' rfl hc37 ?_
      refine Run.skip (Run.seq (Run.block (Run.seq ?_)))
      refine Run.drawG plan17_1_1_1_1_1_0_1_0_0_1_0_0_0 ?_
      refine DrawG.fl rfl (ev_ex wantS_none (ex_move rfl)) rfl ?_
      obtain ⟨o38, ho38, h⟩ := bnd_some h
      refine DrawG.fl rfl (ev_ex wantS_none (ex_elX rfl rfl (arr_place (inA_natIn ho38) els22))) rfl ?_
      refine DrawG.fl rfl (ev_ex wantS_none (ex_load1 rfl (hH.cellV (off := 0) (cs := enc22 c22) (i := 0) rfl rfl (get22_cell c22 o38 (inA_lt ho38))) rdLe_rfl agg3)) rfl ?_
      refine DrawG.fl rfl (ev_ex wantS_none (ex_move rfl)) rfl ?_
      obtain ⟨o39, ho39, h⟩ := bnd_some h
      refine DrawG.fl rfl (ev_ex wantS_none (ex_elX rfl rfl (arr_place (inA_natIn ho39) els22))) rfl ?_
      refine DrawG.fl rfl (ev_ex wantS_none (ex_load1 rfl (hH.cellV (off := 0) (cs := enc22 c22) (i := 0) rfl rfl (get22_cell c22 o39 (inA_lt ho39))) rdLe_rfl agg3)) rfl ?_
      obtain ⟨r40, hr40, h⟩ := bnd_some h
      refine DrawG.callP rfl wantS_none (ex_call rfl mkk58 cal58) rfl (ref00_Abs_ok F (get22 c22 o38) _ _ hr40) (st_cons rfl (ev_ex wantS_none (ex_load1 rfl (hH.cellV (off := 0) (cs := enc22 c22) (i := 0) rfl rfl (get22_cell c22 o39 (inA_lt ho39))) rdLe_rfl agg3)) rfl rfl rfl (st_cons rfl (ev_ex wantS_none (ex_elX rfl rfl (arr_place (inA_natIn ho39) els22))) rfl rfl rfl (st_cons rfl (ev_ex wantS_none (ex_move rfl)) rfl rfl rfl st_nil))) ?_
      obtain ⟨r42, hr42, h⟩ := bnd_some h
      refine DrawG.callP rfl wantS_none (ex_call rfl mkk58 cal58) rfl (ref00_Abs_ok F (get22 c22 o39) _ _ hr42) st_nil ?_
      refine DrawG.fl rfl (ev_ex wantS_none (ex_gtr rfl rfl)) rfl ?_
      refine DrawG.sync ?_
      refine DrawG.nil ?_
      rcases btf ((decide (r42 < r40))) with hc44 | hc44
      · have h := bif_t hc44 h
        refine Run.condT' rfl hc44 ?_
        refine Run.region ?_
        refine Run.opG wantS_none (ex_move rfl) rfl ?_
        refine Run.opG wantS_none (ex_assign rfl) rfl ?_
        refine Run.opsEnd (Run.inBlock (Run.region ?_))
        exact Run.pick [0, 3, 6, 7] (ref09_CellOf_4_ok F (ref09_CellOf_3 F N) ih v0 v7 v7 c22 b22 _ _ _ hH h)
      · have h := bif_f hc44 h
        refine Run.condF' rfl hc44 ?_
        refine Run.skip (Run.inBlock (Run.region ?_))
        exact Run.pick [0, 3, 6, 7] (ref09_CellOf_4_ok F (ref09_CellOf_3 F N) ih v0 v6 v7 c22 b22 _ _ _ hH h)
    · have h := bif_f hc37 h
      refine Run.condF' rfl hc37 ?_
      refine Run.exit rfl (Run.seq (Run.region ?_))
      refine Run.opG wantS_none (ex_move rfl) rfl ?_
      obtain ⟨o46, ho46, h⟩ := bnd_some h
      refine Run.opG wantS_none (ex_elX rfl rfl (arr_place (inA_natIn ho46) els22)) rfl ?_
      refine Run.opG wantS_none (ex_load1 rfl (hH.cellV (off := 0) (cs := enc22 c22) (i := 0) rfl rfl (get22_cell c22 o46 (inA_lt ho46))) rdLe_rfl agg3) rfl ?_
      obtain ⟨r48, hr48, h⟩ := bnd_some h
      refine Run.callP wantS_none (ex_call rfl mkk58 cal58) rfl (ref00_Abs_ok F (get22 c22 o46) _ _ hr48) ?_
      refine Run.opG wantS_none (ex_assign rfl) rfl ?_
      refine Run.opsEnd (Run.seq (Run.region ?_))
      refine Run.opG wantS_none (ex_assign rfl) rfl ?_
      refine Run.opsEnd (Run.seq (Run.seq (Run.region ?_)))
      refine Run.opG wantS_none (ex_assign rfl) rfl ?_
      refine Run.opsEnd (Run.block (Run.loop ?_))
      have hH51 : Has Fr M [.vec 3 1 ([] : List Int).length .nils (([] : List Int).flatMap enc3), .obj b22 (.row 22 .whole [(.int .i64 c22.e0), (.int .i64 c22.e1), (.int .i64 c22.e2)])] := hH.nils 3 1
      exact Run.pick [0, 3, 6, 8, 9, 10] (ref09_CellOf_5_ok F F v0 v6 r48 (0 : Int) c22 ([] : List Int) b22 .nils _ _ _ (hH51.pick [1, 0] rfl rfl) h)

def ref09_CellOf_2 (F : Nat) (v0 : Int) (v30 : Bool) (c22 : S__3_int) : Option (Int × Int) :=
  bif v30 then
    some ((0 : Int), (8 : Int))
  else
    bif ((c22.e0 == (0 : Int)) && ((c22.e1 == (0 : Int)) && ((c22.e2 == (0 : Int)) && true))) then
      some ((0 : Int), (4 : Int))
    else
      ref09_CellOf_3 F F v0 (0 : Int) (1 : Int) c22

theorem ref09_CellOf_2_ok (F : Nat) : ∀ (v0 : Int) (v30 : Bool) (c22 : S__3_int) (b22 : Pos) (Fr : Rd) (M : Mem) (r : Int × Int) (hH : Has Fr M [.obj b22 (.row 22 .whole [(.int .i64 c22.e0), (.int .i64 c22.e1), (.int .i64 c22.e2)])]), ref09_CellOf_2 F v0 v30 c22 = some r → Run Tryz.prog ⟨⟨17, [], none⟩, []⟩ 96 (ref09_CellOf_post r) [(0, (.int .i64 v0)), (3, (.ptr b22 0)), (30, (.bool v30))] [codeC Tryz.prog 17 [1, 1, 0, 1], codeC Tryz.prog 17 [1, 1, 1]] M := by
  intro v0 v30 c22 b22 Fr M r hH h
  rw [ref09_CellOf_2] at h
  rcases btf (v30) with hc35 | hc35
  · have h := bif_t hc35 h
    refine Run.condT' rfl hc35 ?_
    refine Run.seq (Run.region ?_)
    refine Run.opG wantS_none (ex_assign rfl) rfl ?_
    refine Run.opG wantS_none (ex_assign rfl) rfl ?_
    refine Run.opsEnd ?_
    cases h
    exact Run.ret Tryz.func17 rfl (res_tmp rfl (res_tmp rfl res_nil)) rfl
  · have h := bif_f hc35 h
    refine Run.condF' rfl hc35 ?_
    refine Run.skip (Run.seq (Run.seq (Run.region ?_)))
    refine Run.opG wantS_none (ex_loadA rfl (hH.cells (i := 0) rfl 0 rfl) rdLe_rfl agg22 rfl rfl rfl) rfl ?_
    refine Run.opG wantS_none (ex_buildA (r := [(.int .i64 0), (.int .i64 0), (.int .i64 0)]) rfl zer22 pls22 rfl) rfl ?_
    refine Run.opG wantS_none (ex_eqlA rfl rfl aeq22 (eqA_ar agk22 (eqEs_cons (part_one agg3 rfl) (part_one agg3 rfl) (eqA_int agk3) (eqEs_cons (part_one agg3 rfl) (part_one agg3 rfl) (eqA_int agk3) (eqEs_cons (part_one agg3 rfl) (part_one agg3 rfl) (eqA_int agk3) eqEs_nil))))) rfl ?_
    refine Run.opsEnd ?_
    rcases btf (((c22.e0 == (0 : Int)) && ((c22.e1 == (0 : Int)) && ((c22.e2 == (0 : Int)) && true)))) with hc36 | hc36
    · have h := bif_t hc36 h
      refine Run.condT' rfl hc36 ?_
      refine Run.seq (Run.region ?_)
      refine Run.opG wantS_none (ex_assign rfl) rfl ?_
      refine Run.opG wantS_none (ex_assign rfl) rfl ?_
      refine Run.opsEnd ?_
      cases h
      exact Run.ret Tryz.func17 rfl (res_tmp rfl (res_tmp rfl res_nil)) rfl
    · have h := bif_f hc36 h
      refine Run.condF' rfl hc36 ?_
      refine Run.skip (Run.seq (Run.region ?_))
      refine Run.opG wantS_none (ex_assign rfl) rfl ?_
      refine Run.opsEnd (Run.seq (Run.seq (Run.region ?_)))
      refine Run.opG wantS_none (ex_assign rfl) rfl ?_
      refine Run.opsEnd (Run.block (Run.loop ?_))
      exact Run.pick [0, 3, 6, 7] (ref09_CellOf_3_ok F F v0 (0 : Int) (1 : Int) c22 b22 _ _ _ hH h)

def ref09_CellOf_1 (F : Nat) (v0 : Int) (v24 : Bool) (c22 : S__3_int) : Option (Int × Int) :=
  bif v24 then
    ref09_CellOf_2 F v0 true c22
  else
    bnd (ref00_In F c22.e2 ((-1000) : Int) (1000 : Int)) fun r74 =>
    ref09_CellOf_2 F v0 (!r74) c22

theorem ref09_CellOf_1_ok (F : Nat) : ∀ (v0 : Int) (v24 : Bool) (c22 : S__3_int) (b22 : Pos) (Fr : Rd) (M : Mem) (r : Int × Int) (hH : Has Fr M [.obj b22 (.row 22 .whole [(.int .i64 c22.e0), (.int .i64 c22.e1), (.int .i64 c22.e2)])]), ref09_CellOf_1 F v0 v24 c22 = some r → Run Tryz.prog ⟨⟨17, [], none⟩, []⟩ 96 (ref09_CellOf_post r) [(0, (.int .i64 v0)), (3, (.ptr b22 0)), (24, (.bool v24))] [itemC Tryz.prog 17 [1, 1, 0, 0] 10, codeC Tryz.prog 17 [1, 1, 0, 1], codeC Tryz.prog 17 [1, 1, 1]] M := by
  intro v0 v24 c22 b22 Fr M r hH h
  rw [ref09_CellOf_1] at h
  refine Run.opG wantS_none (ex_move rfl) rfl ?_
  rcases btf (v24) with hc34 | hc34
  · have h := bif_t hc34 h
    refine Run.no (wantS_not' rfl rfl hc34) rfl ?_
    refine Run.no (wantS_not' rfl rfl hc34) rfl ?_
    refine Run.no (wantS_not' rfl rfl hc34) rfl ?_
    refine Run.no (wantS_not' rfl rfl hc34) rfl ?_
    refine Run.opG wantS_none (ex_pickT' rfl hc34 rfl rfl) rfl ?_
    refine Run.opsEnd ?_
    exact Run.pick [0, 3, 30] (ref09_CellOf_2_ok F v0 true c22 b22 _ _ _ hH h)
  · have h := bif_f hc34 h
    refine Run.opG (wantS_yes' rfl rfl hc34) (ex_elX rfl rfl (arr_place (j := 2) rfl els22)) rfl ?_
    refine Run.opG (wantS_yes' rfl rfl hc34) (ex_load1 rfl (hH.cells (i := 0) rfl 2 rfl) rdLe_rfl agg3) rfl ?_
    obtain ⟨r74, hr74, h⟩ := bnd_some h
    refine Run.callP (wantS_yes' rfl rfl hc34) (ex_call rfl mkk36 cal36) rfl (ref00_In_ok F c22.e2 ((-1000) : Int) (1000 : Int) _ _ hr74) ?_
    refine Run.opG (wantS_yes' rfl rfl hc34) (ex_not rfl) rfl ?_
    refine Run.opG wantS_none (ex_pickF' rfl hc34 rfl rfl) rfl ?_
    refine Run.opsEnd ?_
    exact Run.pick [0, 3, 30] (ref09_CellOf_2_ok F v0 (!r74) c22 b22 _ _ _ hH h)

def ref09_CellOf (F : Nat) (a0 : Int) (a1 : S__3_int) : Option (Int × Int) :=
  bnd (ref00_In F a0 (1 : Int) (8 : Int)) fun r25 =>
  bif (!r25) then
    some ((0 : Int), (91 : Int))
  else
    bnd (ref00_In F a1.e0 ((-1000) : Int) (1000 : Int)) fun r31 =>
    bif (!r31) then
      ref09_CellOf_1 F a0 true a1
    else
      bnd (ref00_In F a1.e1 ((-1000) : Int) (1000 : Int)) fun r79 =>
      ref09_CellOf_1 F a0 (!r79) a1

theorem ref09_CellOf_ok (F : Nat) (a0 : Int) (a1 : S__3_int) (r : Int × Int) (M : Mem) (h : ref09_CellOf F a0 a1 = some r) : CallsM Tryz.prog 17 [(.int .i64 a0), (.agg [(.int .i64 a1.e0), (.int .i64 a1.e1), (.int .i64 a1.e2)])] M (fun s M' => s = (.tuple [(.int .i64 r.1), (.int .i64 r.2)]) ∧ M' = M) := by
  refine CallsM.plain Tryz.func17 rfl rfl rfl (show Run _ _ _ (ref09_CellOf_post r) _ _ _ from ?_)
  rw [ref09_CellOf] at h
  have hH := Has.nil (frozen M)
  refine Run.seq (Run.region ?_)
  refine Run.opX wantS_none rfl (ExG.box rfl rfl hH) ?_
  rintro _ M23 ⟨b22, rfl, (hH23 : Has (ro (frozen M)) M23 [.obj b22 (.row 22 .whole [(.int .i64 a1.e0), (.int .i64 a1.e1), (.int .i64 a1.e2)])])⟩
  refine Run.opG wantS_none (ex_assign rfl) rfl ?_
  refine Run.opG wantS_none (ex_assign rfl) rfl ?_
  refine Run.opsEnd (Run.seq (Run.seq (Run.region ?_)))
  refine Run.opG wantS_none (ex_move rfl) rfl ?_
  obtain ⟨r25, hr25, h⟩ := bnd_some h
  refine Run.callP wantS_none (ex_call rfl mkk36 cal36) rfl (ref00_In_ok F a0 (1 : Int) (8 : Int) _ _ hr25) ?_
  refine Run.opG wantS_none (ex_not rfl) rfl ?_
  refine Run.opsEnd ?_
  rcases btf ((!r25)) with hc27 | hc27
  · have h := bif_t hc27 h
    refine Run.condT' rfl hc27 ?_
    refine Run.seq (Run.region ?_)
    refine Run.opG wantS_none (ex_assign rfl) rfl ?_
    refine Run.opG wantS_none (ex_assign rfl) rfl ?_
    refine Run.opsEnd ?_
    cases h
    exact Run.ret Tryz.func17 rfl (res_tmp rfl (res_tmp rfl res_nil)) rfl
  · have h := bif_f hc27 h
    refine Run.condF' rfl hc27 ?_
    refine Run.skip (Run.seq (Run.seq (Run.region ?_)))
    refine Run.opG wantS_none (ex_elX rfl rfl (arr_place (j := 0) rfl els22)) rfl ?_
    refine Run.opG wantS_none (ex_load1 rfl (hH23.cells (i := 0) rfl 0 rfl) rdLe_rfl agg3) rfl ?_
    obtain ⟨r31, hr31, h⟩ := bnd_some h
    refine Run.callP wantS_none (ex_call rfl mkk36 cal36) rfl (ref00_In_ok F a1.e0 ((-1000) : Int) (1000 : Int) _ _ hr31) ?_
    refine Run.opG wantS_none (ex_not rfl) rfl ?_
    refine Run.opG wantS_none (ex_move rfl) rfl ?_
    rcases btf ((!r31)) with hc33 | hc33
    · have h := bif_t hc33 h
      refine Run.no (wantS_not' rfl rfl hc33) rfl ?_
      refine Run.no (wantS_not' rfl rfl hc33) rfl ?_
      refine Run.no (wantS_not' rfl rfl hc33) rfl ?_
      refine Run.no (wantS_not' rfl rfl hc33) rfl ?_
      refine Run.opG wantS_none (ex_pickT' rfl hc33 rfl rfl) rfl ?_
      exact Run.pick [0, 3, 24] (ref09_CellOf_1_ok F a0 true a1 b22 _ _ _ hH23 h)
    · have h := bif_f hc33 h
      refine Run.opG (wantS_yes' rfl rfl hc33) (ex_elX rfl rfl (arr_place (j := 1) rfl els22)) rfl ?_
      refine Run.opG (wantS_yes' rfl rfl hc33) (ex_load1 rfl (hH23.cells (i := 0) rfl 1 rfl) rdLe_rfl agg3) rfl ?_
      obtain ⟨r79, hr79, h⟩ := bnd_some h
      refine Run.callP (wantS_yes' rfl rfl hc33) (ex_call rfl mkk36 cal36) rfl (ref00_In_ok F a1.e1 ((-1000) : Int) (1000 : Int) _ _ hr79) ?_
      refine Run.opG (wantS_yes' rfl rfl hc33) (ex_not rfl) rfl ?_
      refine Run.opG wantS_none (ex_pickF' rfl hc33 rfl rfl) rfl ?_
      exact Run.pick [0, 3, 24] (ref09_CellOf_1_ok F a0 (!r79) a1 b22 _ _ _ hH23 h)

theorem mkk17 : makeK Tryz.prog 17 = none := by kernel_rfl
theorem cal17 : callable Tryz.prog 17 = true := by kernel_rfl
theorem mkk18 : makeK Tryz.prog 18 = none := by kernel_rfl
theorem cal18 : callable Tryz.prog 18 = true := by kernel_rfl
abbrev law09_SkyCells_post (r : Bool) : SV → Mem → Prop := fun s _ => s = (.bool r)

def law09_SkyCells_4 (F : Nat) (v73 : Bool) : Option (Bool) :=
  some v73

theorem law09_SkyCells_4_ok (F : Nat) : ∀ (v73 : Bool) (Fr : Rd) (M : Mem) (r : Bool) (hH : Has Fr M [tb0, tb1, tb2]), law09_SkyCells_4 F v73 = some r → Run Tryz.prog ⟨⟨3, [], none⟩, []⟩ 74 (law09_SkyCells_post r) [(73, (.bool v73))] [itemC Tryz.prog 3 [1, 1, 1, 1, 1, 1, 1, 1, 1, 0] 11, codeC Tryz.prog 3 [1, 1, 1, 1, 1, 1, 1, 1, 1, 1]] M := by
  intro v73 Fr M r hH h
  rw [law09_SkyCells_4] at h
  refine Run.opG wantS_none (ex_assign rfl) rfl ?_
  refine Run.opsEnd ?_
  cases h
  exact Run.ret Tryz.func3 rfl (res_tmp rfl res_nil) rfl

def law09_SkyCells_3 (F : Nat) (v70 : Bool) : Option (Bool) :=
  bif v70 then
    bnd (works F) fun r60 =>
    law09_SkyCells_4 F r60
  else
    law09_SkyCells_4 F false

theorem law09_SkyCells_3_ok (F : Nat) : ∀ (v70 : Bool) (Fr : Rd) (M : Mem) (r : Bool) (hH : Has Fr M [tb0, tb1, tb2]), law09_SkyCells_3 F v70 = some r → Run Tryz.prog ⟨⟨3, [], none⟩, []⟩ 74 (law09_SkyCells_post r) [(70, (.bool v70))] [itemC Tryz.prog 3 [1, 1, 1, 1, 1, 1, 1, 1, 1, 0] 8, codeC Tryz.prog 3 [1, 1, 1, 1, 1, 1, 1, 1, 1, 1]] M := by
  intro v70 Fr M r hH h
  rw [law09_SkyCells_3] at h
  refine Run.opG wantS_none (ex_move rfl) rfl ?_
  rcases btf (v70) with hc58 | hc58
  · have h := bif_t hc58 h
    obtain ⟨r60, hr60, h⟩ := bnd_some h
    refine Run.callP (wantS_yes' rfl rfl hc58) (ex_call rfl mkk18 cal18) rfl (works_ok F r60 _ hH (List.mem_of_getElem? (i := 0) rfl) (List.mem_of_getElem? (i := 1) rfl) (List.mem_of_getElem? (i := 2) rfl) hr60) ?_
    refine Run.opG wantS_none (ex_pickT' rfl hc58 rfl rfl) rfl ?_
    exact Run.pick [73] (law09_SkyCells_4_ok F r60 _ _ _ hH h)
  · have h := bif_f hc58 h
    refine Run.no (wantS_not' rfl rfl hc58) rfl ?_
    refine Run.opG wantS_none (ex_pickF' rfl hc58 rfl rfl) rfl ?_
    exact Run.pick [73] (law09_SkyCells_4_ok F false _ _ _ hH h)

def law09_SkyCells_2 (F : Nat) (v0 : Int) (v50 : Bool) (c25 : S__3_int) : Option (Bool) :=
  bif v50 then
    some false
  else
    bnd (sky_CellOf F v0 c25) fun r52 =>
    bnd (ref09_CellOf F v0 c25) fun r55 =>
    bif (r52.1 == r55.1) then
      law09_SkyCells_3 F (r52.2 == r55.2)
    else
      law09_SkyCells_3 F false

theorem law09_SkyCells_2_ok (F : Nat) : ∀ (v0 : Int) (v50 : Bool) (c25 : S__3_int) (b25 : Pos) (Fr : Rd) (M : Mem) (r : Bool) (hH : Has Fr M [.obj b25 (.row 22 .whole [(.int .i64 c25.e0), (.int .i64 c25.e1), (.int .i64 c25.e2)]), tb0, tb1, tb2]), law09_SkyCells_2 F v0 v50 c25 = some r → Run Tryz.prog ⟨⟨3, [], none⟩, []⟩ 74 (law09_SkyCells_post r) [(0, (.int .i64 v0)), (5, (.ptr b25 0)), (50, (.bool v50))] [codeC Tryz.prog 3 [1, 1, 1, 1, 1, 1, 0, 1], codeC Tryz.prog 3 [1, 1, 1, 1, 1, 1, 1]] M := by
  intro v0 v50 c25 b25 Fr M r hH h
  rw [law09_SkyCells_2] at h
  rcases btf (v50) with hc50 | hc50
  · have h := bif_t hc50 h
    refine Run.condT' rfl hc50 ?_
    refine Run.seq (Run.region ?_)
    refine Run.opG wantS_none (ex_assign rfl) rfl ?_
    refine Run.opsEnd ?_
    cases h
    exact Run.ret Tryz.func3 rfl (res_tmp rfl res_nil) rfl
  · have h := bif_f hc50 h
    refine Run.condF' rfl hc50 ?_
    refine Run.skip (Run.seq (Run.region ?_))
    refine Run.opG wantS_none (ex_move rfl) rfl ?_
    refine Run.opG wantS_none (ex_loadA rfl (hH.cells (i := 0) rfl 0 rfl) rdLe_rfl agg22 rfl rfl rfl) rfl ?_
    obtain ⟨r52, hr52, h⟩ := bnd_some h
    refine Run.callP wantS_none (ex_call rfl mkk16 cal16) rfl (sky_CellOf_ok F v0 c25 _ _ hr52) ?_
    refine Run.opG wantS_none (ex_move rfl) rfl ?_
    refine Run.opG wantS_none (ex_extract rfl rfl) rfl ?_
    refine Run.opG wantS_none (ex_extract rfl rfl) rfl ?_
    refine Run.opG wantS_none (ex_assign rfl) rfl ?_
    refine Run.opG wantS_none (ex_assign rfl) rfl ?_
    refine Run.opsEnd (Run.seq (Run.region ?_))
    refine Run.opG wantS_none (ex_move rfl) rfl ?_
    refine Run.opG wantS_none (ex_loadA rfl (hH.cells (i := 0) rfl 0 rfl) rdLe_rfl agg22 rfl rfl rfl) rfl ?_
    obtain ⟨r55, hr55, h⟩ := bnd_some h
    refine Run.callP wantS_none (ex_call rfl mkk17 cal17) rfl (ref09_CellOf_ok F v0 c25 _ _ hr55) ?_
    refine Run.opG wantS_none (ex_move rfl) rfl ?_
    refine Run.opG wantS_none (ex_extract rfl rfl) rfl ?_
    refine Run.opG wantS_none (ex_extract rfl rfl) rfl ?_
    refine Run.opG wantS_none (ex_assign rfl) rfl ?_
    refine Run.opG wantS_none (ex_assign rfl) rfl ?_
    refine Run.opsEnd (Run.seq (Run.region ?_))
    refine Run.opG wantS_none (ex_move rfl) rfl ?_
    refine Run.opG wantS_none (ex_move rfl) rfl ?_
    refine Run.opG wantS_none (ex_eql rfl rfl) rfl ?_
    refine Run.opG wantS_none (ex_move rfl) rfl ?_
    rcases btf ((r52.1 == r55.1)) with hc57 | hc57
    · have h := bif_t hc57 h
      refine Run.opG (wantS_yes' rfl rfl hc57) (ex_move rfl) rfl ?_
      refine Run.opG (wantS_yes' rfl rfl hc57) (ex_move rfl) rfl ?_
      refine Run.opG (wantS_yes' rfl rfl hc57) (ex_eql rfl rfl) rfl ?_
      refine Run.opG wantS_none (ex_pickT' rfl hc57 rfl rfl) rfl ?_
      exact Run.pick [70] (law09_SkyCells_3_ok F (r52.2 == r55.2) _ _ _ (hH.pick [1, 2, 3] rfl rfl) h)
    · have h := bif_f hc57 h
      refine Run.no (wantS_not' rfl rfl hc57) rfl ?_
      refine Run.no (wantS_not' rfl rfl hc57) rfl ?_
      refine Run.no (wantS_not' rfl rfl hc57) rfl ?_
      refine Run.opG wantS_none (ex_pickF' rfl hc57 rfl rfl) rfl ?_
      exact Run.pick [70] (law09_SkyCells_3_ok F false _ _ _ (hH.pick [1, 2, 3] rfl rfl) h)

def law09_SkyCells_1 (F : Nat) (v0 : Int) (v1 : Int) (v30 : Bool) (c25 : S__3_int) : Option (Bool) :=
  bif v30 then
    some false
  else
    bnd (sky_Direction F v0 v1) fun r36 =>
    bnd (ref09_Direction F v0 v1) fun r43 =>
    bif (!((r36.1.e0 == r43.1.e0) && ((r36.1.e1 == r43.1.e1) && ((r36.1.e2 == r43.1.e2) && true)))) then
      law09_SkyCells_2 F v0 true c25
    else
      law09_SkyCells_2 F v0 (!(r36.2 == r43.2)) c25

theorem law09_SkyCells_1_ok (F : Nat) : ∀ (v0 : Int) (v1 : Int) (v30 : Bool) (c25 : S__3_int) (b25 : Pos) (Fr : Rd) (M : Mem) (r : Bool) (hH : Has Fr M [.obj b25 (.row 22 .whole [(.int .i64 c25.e0), (.int .i64 c25.e1), (.int .i64 c25.e2)]), tb0, tb1, tb2]), law09_SkyCells_1 F v0 v1 v30 c25 = some r → Run Tryz.prog ⟨⟨3, [], none⟩, []⟩ 74 (law09_SkyCells_post r) [(0, (.int .i64 v0)), (1, (.int .i64 v1)), (5, (.ptr b25 0)), (30, (.bool v30))] [codeC Tryz.prog 3 [1, 1, 1, 0, 1], codeC Tryz.prog 3 [1, 1, 1, 1]] M := by
  intro v0 v1 v30 c25 b25 Fr M r hH h
  rw [law09_SkyCells_1] at h
  rcases btf (v30) with hc34 | hc34
  · have h := bif_t hc34 h
    refine Run.condT' rfl hc34 ?_
    refine Run.seq (Run.region ?_)
    refine Run.opG wantS_none (ex_assign rfl) rfl ?_
    refine Run.opsEnd ?_
    cases h
    exact Run.ret Tryz.func3 rfl (res_tmp rfl res_nil) rfl
  · have h := bif_f hc34 h
    refine Run.condF' rfl hc34 ?_
    refine Run.skip (Run.seq (Run.region ?_))
    refine Run.opG wantS_none (ex_move rfl) rfl ?_
    refine Run.opG wantS_none (ex_move rfl) rfl ?_
    obtain ⟨r36, hr36, h⟩ := bnd_some h
    refine Run.callP wantS_none (ex_call rfl mkk14 cal14) rfl (sky_Direction_ok F v0 v1 _ _ hr36) ?_
    refine Run.opG wantS_none (ex_move rfl) rfl ?_
    refine Run.opG wantS_none (ex_extract rfl rfl) rfl ?_
    refine Run.opG wantS_none (ex_extract rfl rfl) rfl ?_
    refine Run.opX wantS_none rfl (ExG.new (v := fun b => .ptr b 0) (ex_alloc zer22) hH) ?_
    rintro _ M40 ⟨b39, rfl, (hH40 : Has Fr M40 [.obj b39 (.row 22 .whole [(.int .i64 0), (.int .i64 0), (.int .i64 0)]), .obj b25 (.row 22 .whole [(.int .i64 c25.e0), (.int .i64 c25.e1), (.int .i64 c25.e2)]), tb0, tb1, tb2])⟩
    refine Run.opX wantS_none rfl (ExG.storeC (c' := [(.int .i64 r36.1.e0), (.int .i64 r36.1.e1), (.int .i64 r36.1.e2)]) rfl rfl rfl hH40 (i := 0) rfl sz22 rfl rfl rfl rfl rfl) ?_
    rintro _ M41 ⟨rfl, (hH41 : Has Fr M41 [.obj b39 (.row 22 .whole [(.int .i64 r36.1.e0), (.int .i64 r36.1.e1), (.int .i64 r36.1.e2)]), .obj b25 (.row 22 .whole [(.int .i64 c25.e0), (.int .i64 c25.e1), (.int .i64 c25.e2)]), tb0, tb1, tb2])⟩
    refine Run.opG wantS_none (ex_assign rfl) rfl ?_
    refine Run.opsEnd (Run.seq (Run.region ?_))
    refine Run.opG wantS_none (ex_move rfl) rfl ?_
    refine Run.opG wantS_none (ex_move rfl) rfl ?_
    obtain ⟨r43, hr43, h⟩ := bnd_some h
    refine Run.callP wantS_none (ex_call rfl mkk15 cal15) rfl (ref09_Direction_ok F v0 v1 _ _ hr43) ?_
    refine Run.opG wantS_none (ex_move rfl) rfl ?_
    refine Run.opG wantS_none (ex_extract rfl rfl) rfl ?_
    refine Run.opG wantS_none (ex_extract rfl rfl) rfl ?_
    refine Run.opX wantS_none rfl (ExG.new (v := fun b => .ptr b 0) (ex_alloc zer22) hH41) ?_
    rintro _ M47 ⟨b46, rfl, (hH47 : Has Fr M47 [.obj b46 (.row 22 .whole [(.int .i64 0), (.int .i64 0), (.int .i64 0)]), .obj b39 (.row 22 .whole [(.int .i64 r36.1.e0), (.int .i64 r36.1.e1), (.int .i64 r36.1.e2)]), .obj b25 (.row 22 .whole [(.int .i64 c25.e0), (.int .i64 c25.e1), (.int .i64 c25.e2)]), tb0, tb1, tb2])⟩
    refine Run.opX wantS_none rfl (ExG.storeC (c' := [(.int .i64 r43.1.e0), (.int .i64 r43.1.e1), (.int .i64 r43.1.e2)]) rfl rfl rfl hH47 (i := 0) rfl sz22 rfl rfl rfl rfl rfl) ?_
    rintro _ M48 ⟨rfl, (hH48 : Has Fr M48 [.obj b46 (.row 22 .whole [(.int .i64 r43.1.e0), (.int .i64 r43.1.e1), (.int .i64 r43.1.e2)]), .obj b39 (.row 22 .whole [(.int .i64 r36.1.e0), (.int .i64 r36.1.e1), (.int .i64 r36.1.e2)]), .obj b25 (.row 22 .whole [(.int .i64 c25.e0), (.int .i64 c25.e1), (.int .i64 c25.e2)]), tb0, tb1, tb2])⟩
    refine Run.opG wantS_none (ex_assign rfl) rfl ?_
    refine Run.opsEnd (Run.seq (Run.seq (Run.region ?_)))
    refine Run.opG wantS_none (ex_loadA rfl (hH48.cells (i := 1) rfl 0 rfl) rdLe_rfl agg22 rfl rfl rfl) rfl ?_
    refine Run.opG wantS_none (ex_loadA rfl (hH48.cells (i := 0) rfl 0 rfl) rdLe_rfl agg22 rfl rfl rfl) rfl ?_
    refine Run.opG wantS_none (ex_neqA rfl rfl aeq22 (eqA_ar agk22 (eqEs_cons (part_one agg3 rfl) (part_one agg3 rfl) (eqA_int agk3) (eqEs_cons (part_one agg3 rfl) (part_one agg3 rfl) (eqA_int agk3) (eqEs_cons (part_one agg3 rfl) (part_one agg3 rfl) (eqA_int agk3) eqEs_nil))))) rfl ?_
    refine Run.opG wantS_none (ex_move rfl) rfl ?_
    rcases btf ((!((r36.1.e0 == r43.1.e0) && ((r36.1.e1 == r43.1.e1) && ((r36.1.e2 == r43.1.e2) && true))))) with hc49 | hc49
    · have h := bif_t hc49 h
      refine Run.no (wantS_not' rfl rfl hc49) rfl ?_
      refine Run.no (wantS_not' rfl rfl hc49) rfl ?_
      refine Run.no (wantS_not' rfl rfl hc49) rfl ?_
      refine Run.opG wantS_none (ex_pickT' rfl hc49 rfl rfl) rfl ?_
      refine Run.opsEnd ?_
      exact Run.pick [0, 5, 50] (law09_SkyCells_2_ok F v0 true c25 b25 _ _ _ (hH48.pick [2, 3, 4, 5] rfl rfl) h)
    · have h := bif_f hc49 h
      refine Run.opG (wantS_yes' rfl rfl hc49) (ex_move rfl) rfl ?_
      refine Run.opG (wantS_yes' rfl rfl hc49) (ex_move rfl) rfl ?_
      refine Run.opG (wantS_yes' rfl rfl hc49) (ex_neq rfl rfl) rfl ?_
      refine Run.opG wantS_none (ex_pickF' rfl hc49 rfl rfl) rfl ?_
      refine Run.opsEnd ?_
      exact Run.pick [0, 5, 50] (law09_SkyCells_2_ok F v0 (!(r36.2 == r43.2)) c25 b25 _ _ _ (hH48.pick [2, 3, 4, 5] rfl rfl) h)

def law09_SkyCells (F : Nat) (a0 : Int) (a1 : Int) (a2 : S__3_int) : Option (Bool) :=
  bnd (sky_Cells F a0) fun r28 =>
  bnd (ref09_Cells F a0) fun r31 =>
  bif (!(r28.1 == r31.1)) then
    law09_SkyCells_1 F a0 a1 true a2
  else
    law09_SkyCells_1 F a0 a1 (!(r28.2 == r31.2)) a2

theorem law09_SkyCells_run (F : Nat) (a0 : Int) (a1 : Int) (a2 : S__3_int) (r : Bool) (M : Mem) (hfx : FixIn M fixes) (h : law09_SkyCells F a0 a1 a2 = some r) : Run Tryz.prog (fx0 3) 74 (law09_SkyCells_post r) [(0, (.int .i64 a0)), (1, (.int .i64 a1)), (2, (.agg [(.int .i64 a2.e0), (.int .i64 a2.e1), (.int .i64 a2.e2)]))] [codeC Tryz.prog 3 []] (frozen M) := by
  rw [law09_SkyCells] at h
  have hH : Has (ro (frozen M)) (frozen M) [tb0, tb1, tb2] := Has.ofFix hfx.frozen
  refine Run.seq (Run.region ?_)
  refine Run.opX wantS_none rfl (ExG.box rfl rfl hH) ?_
  rintro _ M26 ⟨b25, rfl, (hH26 : Has (ro (frozen M)) M26 [.obj b25 (.row 22 .whole [(.int .i64 a2.e0), (.int .i64 a2.e1), (.int .i64 a2.e2)]), tb0, tb1, tb2])⟩
  refine Run.opG wantS_none (ex_assign rfl) rfl ?_
  refine Run.opsEnd (Run.seq (Run.region ?_))
  refine Run.opG wantS_none (ex_move rfl) rfl ?_
  obtain ⟨r28, hr28, h⟩ := bnd_some h
  refine Run.callP wantS_none (ex_call rfl mkk12 cal12) rfl (sky_Cells_ok F a0 _ _ hr28) ?_
  refine Run.opG wantS_none (ex_move rfl) rfl ?_
  refine Run.opG wantS_none (ex_extract rfl rfl) rfl ?_
  refine Run.opG wantS_none (ex_extract rfl rfl) rfl ?_
  refine Run.opG wantS_none (ex_assign rfl) rfl ?_
  refine Run.opG wantS_none (ex_assign rfl) rfl ?_
  refine Run.opsEnd (Run.seq (Run.region ?_))
  refine Run.opG wantS_none (ex_move rfl) rfl ?_
  obtain ⟨r31, hr31, h⟩ := bnd_some h
  refine Run.callP wantS_none (ex_call rfl mkk13 cal13) rfl (ref09_Cells_ok F a0 _ _ hr31) ?_
  refine Run.opG wantS_none (ex_move rfl) rfl ?_
  refine Run.opG wantS_none (ex_extract rfl rfl) rfl ?_
  refine Run.opG wantS_none (ex_extract rfl rfl) rfl ?_
  refine Run.opG wantS_none (ex_assign rfl) rfl ?_
  refine Run.opG wantS_none (ex_assign rfl) rfl ?_
  refine Run.opsEnd (Run.seq (Run.seq (Run.region ?_)))
  refine Run.opG wantS_none (ex_move rfl) rfl ?_
  refine Run.opG wantS_none (ex_move rfl) rfl ?_
  refine Run.opG wantS_none (ex_neq rfl rfl) rfl ?_
  refine Run.opG wantS_none (ex_move rfl) rfl ?_
  rcases btf ((!(r28.1 == r31.1))) with hc33 | hc33
  · have h := bif_t hc33 h
    refine Run.no (wantS_not' rfl rfl hc33) rfl ?_
    refine Run.no (wantS_not' rfl rfl hc33) rfl ?_
    refine Run.no (wantS_not' rfl rfl hc33) rfl ?_
    refine Run.opG wantS_none (ex_pickT' rfl hc33 rfl rfl) rfl ?_
    refine Run.opsEnd ?_
    exact Run.pick [0, 1, 5, 30] (law09_SkyCells_1_ok F a0 a1 true a2 b25 _ _ _ hH26 h)
  · have h := bif_f hc33 h
    refine Run.opG (wantS_yes' rfl rfl hc33) (ex_move rfl) rfl ?_
    refine Run.opG (wantS_yes' rfl rfl hc33) (ex_move rfl) rfl ?_
    refine Run.opG (wantS_yes' rfl rfl hc33) (ex_neq rfl rfl) rfl ?_
    refine Run.opG wantS_none (ex_pickF' rfl hc33 rfl rfl) rfl ?_
    refine Run.opsEnd ?_
    exact Run.pick [0, 1, 5, 30] (law09_SkyCells_1_ok F a0 a1 (!(r28.2 == r31.2)) a2 b25 _ _ _ hH26 h)

end Go.Ev.SkyCells
