/- Plain functions that say what functions of the program come to, and proofs of it, written by a program of the verifier's own. -/
import Derived.Test.YtoobfmfgbcohcaaDoorShelf
import Derived.Test.YtoobfmfgbcohcaaDoorEvL18
import Derived.Test.YtoobfmfgbcohcaaDoorWorks
import Derived.KernelRfl
namespace Go.Ev.AlertSigned
open Go Go.Ev Go.Proofs
set_option maxRecDepth 100000
set_option linter.unusedVariables false

noncomputable def fixes : List (Nat × List SV) := Go.Proofs.YtoobfmfgbcohcaaDoor.works.fixes
noncomputable def tb0 : Ent := fixE (1, intCells .u8 [0, 1, 28, 2, 29, 14, 24, 3, 30, 22, 20, 15, 25, 17, 4, 8, 31, 27, 13, 23, 21, 19, 16, 7, 26, 12, 18, 6, 11, 5, 10, 9])
noncomputable def tb1 : Ent := fixE (2, intCells .u8 [0, 1, 56, 2, 57, 49, 28, 3, 61, 58, 42, 50, 38, 29, 17, 4, 62, 47, 59, 36, 45, 43, 51, 22, 53, 39, 33, 30, 24, 18, 12, 5, 63, 55, 48, 27, 60, 41, 37, 16, 46, 35, 44, 21, 52, 32, 23, 11, 54, 26, 40, 15, 34, 20, 31, 10, 25, 14, 19, 9, 13, 8, 7, 6])
noncomputable def tb2 : Ent := fixE (0, intCells .u64 [1, 10, 100, 1000, 10000, 100000, 1000000, 10000000, 100000000, 1000000000, 10000000000, 100000000000, 1000000000000, 10000000000000, 100000000000000, 1000000000000000, 10000000000000000, 100000000000000000, 1000000000000000000, 10000000000000000000])
def works (_ : Nat) : Option Bool := some true
theorem fixH {Fr : Rd} {H : List Ent} {M : Mem} (hH : Has Fr M H) (h0 : tb0 ∈ H) (h1 : tb1 ∈ H) (h2 : tb2 ∈ H) : FixIn M fixes := by
  refine hH.fixIn fun x hx => ?_
  simp only [fixes, Go.Proofs.YtoobfmfgbcohcaaDoor.works.fixes, List.mem_cons, List.not_mem_nil, or_false] at hx
  rcases hx with rfl | rfl | rfl
  · exact h0
  · exact h1
  · exact h2

theorem works_ok (F : Nat) (r : Bool) {Fr : Rd} {H : List Ent} (M : Mem) (hH : Has Fr M H) (h0 : tb0 ∈ H) (h1 : tb1 ∈ H) (h2 : tb2 ∈ H) (h : works F = some r) : CallsM Tryd.prog 14 [] M fun s M' => s = .bool r ∧ M' = M := by
  cases h
  refine CallsM.closedFix (n := 300) (l := Go.Proofs.YtoobfmfgbcohcaaDoor.works.fixes) Go.Proofs.YtoobfmfgbcohcaaDoor.works.below Go.Proofs.YtoobfmfgbcohcaaDoor.works.plainF Go.Proofs.YtoobfmfgbcohcaaDoor.works.works_true (hH.fixIn fun x hx => ?_)
  simp only [Go.Proofs.YtoobfmfgbcohcaaDoor.works.fixes, List.mem_cons, List.not_mem_nil, or_false] at hx
  rcases hx with rfl | rfl | rfl
  · exact h0
  · exact h1
  · exact h2

def itoa (_ : Nat) (n : Int) : Option (List UInt8) := bif decide (-9223372036854775808 ≤ n) && decide (n ≤ 9223372036854775807) then some (Lib.itoa n) else none
theorem below_grown (w : World) (k : Nat) (os : Array Obj) : Go.RowKit.Below w.heap.size w (Sort.grow (w.drewN k) os) :=
  ⟨rfl, rfl, rfl, by simp [Sort.grow, World.drewN], fun i hi => by simp [Sort.grow, World.drewN, Array.getElem?_append, hi]⟩
theorem itoa_ok (F : Nat) (a0 : Int) (r : List UInt8) (M : Mem) (hfx : FixIn M fixes) (h : itoa F a0 = some r) : CallsM Tryd.prog 105 [.int .i64 a0] M fun s M' => s = .str r ∧ M' = M := by
  unfold itoa at h
  cases hb : (decide (-9223372036854775808 ≤ a0) && decide (a0 ≤ 9223372036854775807)) with
  | false => rw [hb] at h; simp at h
  | true =>
    rw [hb] at h
    obtain rfl := Option.some.inj h
    rw [Bool.and_eq_true, decide_eq_true_eq, decide_eq_true_eq] at hb
    refine CallsM.known (n := 300) (l := fixes) (vs := [.int .i64 a0]) (v := .string ⟨(Lib.itoa a0).toArray⟩) (fun _ => rfl) (fun _ => rfl) Go.Proofs.YtoobfmfgbcohcaaDoor.works.below Go.Proofs.YtoobfmfgbcohcaaDoor.works.plainF (fun w m hr => ?_) hfx
    refine (Tryd.strconv_Itoa a0 hb.1 hb.2 w (tab_is hr (List.mem_of_getElem? (i := 2) rfl) rfl (by kernel_rfl))).mono ?_
    rintro e w' ⟨rfl, k, os, rfl⟩
    exact ⟨rfl, below_grown w k os⟩


structure S__3_int where
  e0 : Int
  e1 : Int
  e2 : Int

structure S_api_Chance where
  N : Int
  Of : Int

structure S_api_Alert where
  Event : (List UInt8)
  Version : Int
  Time : Int
  Chance : S_api_Chance
  Grid : Int
  Cells : (List Int)
  Withdrawn : Bool
  Before : Int

def enc3 (a : Int) : List SV := [(.int .i64 a)]
theorem enc3_len (a : Int) : (enc3 a).length = 1 := rfl
theorem enc3_ones (a : Int) : ones (enc3 a) = true := rfl
theorem els22 : elems Tryd.prog 22 = some (.arr 3 1) := by kernel_rfl
theorem agg3 : aggSize Tryd.prog 3 = some none := by kernel_rfl
structure S_api_Key where
  Modulus : Int
  Exponent : Int

theorem zer24 : zerosOf Tryd.prog 24 = some [(.int .i64 0), (.int .i64 0)] := by kernel_rfl
abbrev alert_isFrom_post (r : Bool) : SV → Mem → Prop := fun s _ => s = (.bool r)

def alert_isFrom_1 (F : Nat) (v14 : Bool) : Option (Bool) :=
  some v14

theorem alert_isFrom_1_ok (F : Nat) : ∀ (v14 : Bool) (Fr : Rd) (M : Mem) (r : Bool) (hH : Has Fr M []), alert_isFrom_1 F v14 = some r → Run Tryd.prog ⟨⟨36, [], none⟩, []⟩ 15 (alert_isFrom_post r) [(14, (.bool v14))] [itemC Tryd.prog 36 [1, 0] 8, codeC Tryd.prog 36 [1, 1]] M := by
  intro v14 Fr M r hH h
  rw [alert_isFrom_1] at h
  refine Run.opG wantS_none (ex_assign rfl) rfl ?_
  refine Run.opsEnd ?_
  cases h
  exact Run.ret Tryd.func36 rfl (res_tmp rfl res_nil) rfl

def alert_isFrom (F : Nat) (a0 : Int) (a1 : Int) (a2 : Int) : Option (Bool) :=
  bif (decide (a0 ≤ a1)) then
    alert_isFrom_1 F (decide (a1 ≤ a2))
  else
    alert_isFrom_1 F false

theorem alert_isFrom_ok (F : Nat) (a0 : Int) (a1 : Int) (a2 : Int) (r : Bool) (M : Mem) (h : alert_isFrom F a0 a1 a2 = some r) : CallsM Tryd.prog 36 [(.int .i64 a0), (.int .i64 a1), (.int .i64 a2)] M (fun s M' => s = (.bool r) ∧ M' = M) := by
  refine CallsM.plain Tryd.func36 rfl rfl rfl (show Run _ _ _ (alert_isFrom_post r) _ _ _ from ?_)
  rw [alert_isFrom] at h
  have hH := Has.nil (frozen M)
  refine Run.seq (Run.region ?_)
  refine Run.opG wantS_none (ex_assign rfl) rfl ?_
  refine Run.opsEnd (Run.seq (Run.region ?_))
  refine Run.opG wantS_none (ex_move rfl) rfl ?_
  refine Run.opG wantS_none (ex_move rfl) rfl ?_
  refine Run.opG wantS_none (ex_leq rfl rfl) rfl ?_
  refine Run.opG wantS_none (ex_move rfl) rfl ?_
  rcases btf ((decide (a0 ≤ a1))) with hc21 | hc21
  · have h := bif_t hc21 h
    refine Run.opG (wantS_yes' rfl rfl hc21) (ex_move rfl) rfl ?_
    refine Run.opG (wantS_yes' rfl rfl hc21) (ex_move rfl) rfl ?_
    refine Run.opG (wantS_yes' rfl rfl hc21) (ex_leq rfl rfl) rfl ?_
    refine Run.opG wantS_none (ex_pickT' rfl hc21 rfl rfl) rfl ?_
    exact Run.pick [14] (alert_isFrom_1_ok F (decide (a1 ≤ a2)) _ _ _ hH h)
  · have h := bif_f hc21 h
    refine Run.no (wantS_not' rfl rfl hc21) rfl ?_
    refine Run.no (wantS_not' rfl rfl hc21) rfl ?_
    refine Run.no (wantS_not' rfl rfl hc21) rfl ?_
    refine Run.opG wantS_none (ex_pickF' rfl hc21 rfl rfl) rfl ?_
    exact Run.pick [14] (alert_isFrom_1_ok F false _ _ _ hH h)

theorem mkk36 : makeK Tryd.prog 36 = none := by kernel_rfl
theorem cal36 : callable Tryd.prog 36 = true := by kernel_rfl
abbrev alert_isPrime_post (r : Bool) : SV → Mem → Prop := fun s _ => s = (.bool r)

def alert_isPrime_1 (F : Nat) : Nat → Int → Int → Option (Bool)
  | 0, _, _ => none
  | N + 1, v0, v3 =>
    bif (decide ((w64 (v3 * v3)) ≤ v0)) then
      bnd (nz v3) fun z27 =>
      bif ((Int.tmod v0 v3) == (0 : Int)) then
        some false
      else
        (alert_isPrime_1 F N) v0 (w64 (v3 + (1 : Int)))
    else
      some true

theorem alert_isPrime_1_ok (F : Nat) : ∀ (N : Nat), ∀ (v0 : Int) (v3 : Int) (Fr : Rd) (M : Mem) (r : Bool) (hH : Has Fr M []), alert_isPrime_1 F N v0 v3 = some r → Run Tryd.prog ⟨⟨35, [], none⟩, []⟩ 18 (alert_isPrime_post r) [(0, (.int .i64 v0)), (3, (.int .i64 v3))] [codeC Tryd.prog 35 [1, 1, 0, 1, 0, 0], loopC Tryd.prog 35 [1, 1, 0, 1, 0, 0], .inBlock 0, codeC Tryd.prog 35 [1, 1, 1]] M := by
  intro N
  induction N with
  | zero =>
    intro v0 v3 Fr M r hH h
    simp [alert_isPrime_1] at h
  | succ N ih =>
    intro v0 v3 Fr M r hH h
    rw [alert_isPrime_1] at h
    refine Run.seq (Run.seq (Run.region ?_))
    refine Run.opG wantS_none (ex_move rfl) rfl ?_
    refine Run.opG wantS_none (ex_move rfl) rfl ?_
    refine Run.opG wantS_none (ex_mul rfl rfl) rfl ?_
    refine Run.opG wantS_none (ex_move rfl) rfl ?_
    refine Run.opG wantS_none (ex_leq rfl rfl) rfl ?_
    refine Run.opsEnd ?_
    rcases btf ((decide ((w64 (v3 * v3)) ≤ v0))) with hc25 | hc25
    · have h := bif_t hc25 h
      refine Run.condT' rfl hc25 ?_
      refine Run.skip (Run.seq (Run.block (Run.seq (Run.region ?_))))
      refine Run.opG wantS_none (ex_move rfl) rfl ?_
      refine Run.opG wantS_none (ex_move rfl) rfl ?_
      obtain ⟨z27, hz27, h⟩ := bnd_some h
      refine Run.opG wantS_none (ex_rem' rfl rfl hz27) rfl ?_
      refine Run.opG wantS_none (ex_eql rfl rfl) rfl ?_
      refine Run.opsEnd ?_
      rcases btf (((Int.tmod v0 v3) == (0 : Int))) with hc28 | hc28
      · have h := bif_t hc28 h
        refine Run.condT' rfl hc28 ?_
        refine Run.seq (Run.region ?_)
        refine Run.opG wantS_none (ex_assign rfl) rfl ?_
        refine Run.opsEnd ?_
        cases h
        exact Run.ret Tryd.func35 rfl (res_tmp rfl res_nil) rfl
      · have h := bif_f hc28 h
        refine Run.condF' rfl hc28 ?_
        refine Run.skip (Run.inBlock (Run.region ?_))
        refine Run.opG wantS_none (ex_move rfl) rfl ?_
        refine Run.opG wantS_none (ex_add rfl rfl) rfl ?_
        refine Run.opG wantS_none (ex_assign rfl) rfl ?_
        refine Run.opsEnd (Run.inLoop ?_)
        exact Run.pick [0, 3] (ih v0 (w64 (v3 + (1 : Int))) _ _ _ hH h)
    · have h := bif_f hc25 h
      refine Run.condF' rfl hc25 ?_
      refine Run.exit rfl (Run.seq (Run.region ?_))
      refine Run.opG wantS_none (ex_assign rfl) rfl ?_
      refine Run.opsEnd ?_
      cases h
      exact Run.ret Tryd.func35 rfl (res_tmp rfl res_nil) rfl

def alert_isPrime (F : Nat) (a0 : Int) : Option (Bool) :=
  bnd (alert_isFrom F (3 : Int) a0 (32749 : Int)) fun r22 =>
  bif (!r22) then
    some false
  else
    alert_isPrime_1 F F a0 (2 : Int)

theorem alert_isPrime_ok (F : Nat) (a0 : Int) (r : Bool) (M : Mem) (h : alert_isPrime F a0 = some r) : CallsM Tryd.prog 35 [(.int .i64 a0)] M (fun s M' => s = (.bool r) ∧ M' = M) := by
  refine CallsM.plain Tryd.func35 rfl rfl rfl (show Run _ _ _ (alert_isPrime_post r) _ _ _ from ?_)
  rw [alert_isPrime] at h
  have hH := Has.nil (frozen M)
  refine Run.seq (Run.region ?_)
  refine Run.opG wantS_none (ex_assign rfl) rfl ?_
  refine Run.opsEnd (Run.seq (Run.seq (Run.region ?_)))
  refine Run.opG wantS_none (ex_move rfl) rfl ?_
  obtain ⟨r22, hr22, h⟩ := bnd_some h
  refine Run.callP wantS_none (ex_call rfl mkk36 cal36) rfl (alert_isFrom_ok F (3 : Int) a0 (32749 : Int) _ _ hr22) ?_
  refine Run.opG wantS_none (ex_not rfl) rfl ?_
  refine Run.opsEnd ?_
  rcases btf ((!r22)) with hc24 | hc24
  · have h := bif_t hc24 h
    refine Run.condT' rfl hc24 ?_
    refine Run.seq (Run.region ?_)
    refine Run.opG wantS_none (ex_assign rfl) rfl ?_
    refine Run.opsEnd ?_
    cases h
    exact Run.ret Tryd.func35 rfl (res_tmp rfl res_nil) rfl
  · have h := bif_f hc24 h
    refine Run.condF' rfl hc24 ?_
    refine Run.skip (Run.seq (Run.seq (Run.region ?_)))
    refine Run.opG wantS_none (ex_assign rfl) rfl ?_
    refine Run.opsEnd (Run.block (Run.loop ?_))
    exact Run.pick [0, 3] (alert_isPrime_1_ok F F a0 (2 : Int) _ _ _ hH h)

theorem mkk35 : makeK Tryd.prog 35 = none := by kernel_rfl
theorem cal35 : callable Tryd.prog 35 = true := by kernel_rfl
theorem pls24 : placesOf Tryd.prog 24 = some (.st [(0, 1), (1, 1)]) := by kernel_rfl
theorem sz24 : szOf Tryd.prog 24 = some 2 := by kernel_rfl
theorem agg24 : aggSize Tryd.prog 24 = some (some 2) := by kernel_rfl
theorem plan38_1_1_0_0_0_1_0 : planOf Tryd.prog (opsC (atC Tryd.prog 38 [1, 1, 0, 0, 0, 1, 0])) = some [.fl 0, .fl 1, .fl 2, .fl 3, .an 4 [3, 2], .an 5 [], .sync] := by kernel_rfl
abbrev alert_leastMultiple_post (r : Int) : SV → Mem → Prop := fun s _ => s = (.int .i64 r)

def alert_leastMultiple_1 (F : Nat) : Nat → Int → Int → Int → Int → Option (Int)
  | 0, _, _, _, _ => none
  | N + 1, v0, v1, v5, v6 =>
    bif (!(v6 == (0 : Int))) then
      bnd (nz v6) fun z22 =>
      (alert_leastMultiple_1 F N) v0 v1 v6 (Int.tmod v5 v6)
    else
      bnd (nz v5) fun z24 =>
      some (w64 ((w64 (Int.tdiv v0 v5)) * v1))

theorem alert_leastMultiple_1_ok (F : Nat) : ∀ (N : Nat), ∀ (v0 : Int) (v1 : Int) (v5 : Int) (v6 : Int) (Fr : Rd) (M : Mem) (r : Int) (hH : Has Fr M []), alert_leastMultiple_1 F N v0 v1 v5 v6 = some r → Run Tryd.prog ⟨⟨38, [], none⟩, []⟩ 20 (alert_leastMultiple_post r) [(0, (.int .i64 v0)), (1, (.int .i64 v1)), (5, (.int .i64 v5)), (6, (.int .i64 v6))] [codeC Tryd.prog 38 [1, 1, 0, 0, 0], loopC Tryd.prog 38 [1, 1, 0, 0, 0], .inBlock 0, codeC Tryd.prog 38 [1, 1, 1]] M := by
  intro N
  induction N with
  | zero =>
    intro v0 v1 v5 v6 Fr M r hH h
    simp [alert_leastMultiple_1] at h
  | succ N ih =>
    intro v0 v1 v5 v6 Fr M r hH h
    rw [alert_leastMultiple_1] at h
    refine Run.seq (Run.seq (Run.region ?_))
    refine Run.opG wantS_none (ex_move rfl) rfl ?_
    refine Run.opG wantS_none (ex_neq rfl rfl) rfl ?_
    refine Run.opsEnd ?_
    rcases btf ((!(v6 == (0 : Int)))) with hc21 | hc21
    · have h := bif_t hc21 h
      refine Run.condT' rfl hc21 ?_
      refine Run.skip (Run.block ?_)
      refine Run.drawG plan38_1_1_0_0_0_1_0 ?_
      refine DrawG.fl rfl (ev_ex wantS_none (ex_move rfl)) rfl ?_
      refine DrawG.fl rfl (ev_ex wantS_none (ex_move rfl)) rfl ?_
      refine DrawG.fl rfl (ev_ex wantS_none (ex_move rfl)) rfl ?_
      obtain ⟨z22, hz22, h⟩ := bnd_some h
      refine DrawG.fl rfl (ev_ex wantS_none (ex_rem' rfl rfl hz22)) rfl ?_
      refine DrawG.val rfl wantS_none (ex_assign rfl) rfl (st_cons rfl (ev_ex wantS_none (ex_rem' rfl rfl hz22)) rfl rfl rfl (st_cons rfl (ev_ex wantS_none (ex_move rfl)) rfl rfl rfl st_nil)) ?_
      refine DrawG.val rfl wantS_none (ex_assign rfl) rfl st_nil ?_
      refine DrawG.sync ?_
      refine DrawG.nil ?_
      refine Run.inBlock (Run.inLoop ?_)
      exact Run.pick [0, 1, 5, 6] (ih v0 v1 v6 (Int.tmod v5 v6) _ _ _ hH h)
    · have h := bif_f hc21 h
      refine Run.condF' rfl hc21 ?_
      refine Run.exit rfl (Run.seq (Run.region ?_))
      refine Run.opG wantS_none (ex_move rfl) rfl ?_
      refine Run.opG wantS_none (ex_move rfl) rfl ?_
      obtain ⟨z24, hz24, h⟩ := bnd_some h
      refine Run.opG wantS_none (ex_quo' rfl rfl hz24) rfl ?_
      refine Run.opG wantS_none (ex_move rfl) rfl ?_
      refine Run.opG wantS_none (ex_mul rfl rfl) rfl ?_
      refine Run.opG wantS_none (ex_assign rfl) rfl ?_
      refine Run.opsEnd ?_
      cases h
      exact Run.ret Tryd.func38 rfl (res_tmp rfl res_nil) rfl

def alert_leastMultiple (F : Nat) (a0 : Int) (a1 : Int) : Option (Int) :=
  alert_leastMultiple_1 F F a0 a1 a0 a1

theorem alert_leastMultiple_ok (F : Nat) (a0 : Int) (a1 : Int) (r : Int) (M : Mem) (h : alert_leastMultiple F a0 a1 = some r) : CallsM Tryd.prog 38 [(.int .i64 a0), (.int .i64 a1)] M (fun s M' => s = (.int .i64 r) ∧ M' = M) := by
  refine CallsM.plain Tryd.func38 rfl rfl rfl (show Run _ _ _ (alert_leastMultiple_post r) _ _ _ from ?_)
  rw [alert_leastMultiple] at h
  have hH := Has.nil (frozen M)
  refine Run.seq (Run.region ?_)
  refine Run.opG wantS_none (ex_assign rfl) rfl ?_
  refine Run.opsEnd (Run.seq (Run.region ?_))
  refine Run.opG wantS_none (ex_move rfl) rfl ?_
  refine Run.opG wantS_none (ex_move rfl) rfl ?_
  refine Run.opG wantS_none (ex_assign rfl) rfl ?_
  refine Run.opG wantS_none (ex_assign rfl) rfl ?_
  refine Run.opsEnd (Run.seq (Run.block (Run.loop ?_)))
  exact Run.pick [0, 1, 5, 6] (alert_leastMultiple_1_ok F F a0 a1 a0 a1 _ _ _ hH h)

theorem mkk38 : makeK Tryd.prog 38 = none := by kernel_rfl
theorem cal38 : callable Tryd.prog 38 = true := by kernel_rfl
abbrev alert_secretOf_post (r : Int) : SV → Mem → Prop := fun s _ => s = (.int .i64 r)

def alert_secretOf_1 (F : Nat) : Nat → Int → Int → Int → Int → Option (Int)
  | 0, _, _, _, _ => none
  | N + 1, v0, v1, v7, v8 =>
    bif (decide (v8 < v7)) then
      bnd (nz v0) fun z23 =>
      bif ((Int.tmod (w64 ((w64 (v8 * v1)) + (1 : Int))) v0) == (0 : Int)) then
        bnd (nz v0) fun z26 =>
        some (w64 (Int.tdiv (w64 ((w64 (v8 * v1)) + (1 : Int))) v0))
      else
        (alert_secretOf_1 F N) v0 v1 v7 (w64 (v8 + (1 : Int)))
    else
      some (0 : Int)

theorem alert_secretOf_1_ok (F : Nat) : ∀ (N : Nat), ∀ (v0 : Int) (v1 : Int) (v7 : Int) (v8 : Int) (Fr : Rd) (M : Mem) (r : Int) (hH : Has Fr M []), alert_secretOf_1 F N v0 v1 v7 v8 = some r → Run Tryd.prog ⟨⟨37, [], none⟩, []⟩ 23 (alert_secretOf_post r) [(0, (.int .i64 v0)), (1, (.int .i64 v1)), (7, (.int .i64 v7)), (8, (.int .i64 v8))] [codeC Tryd.prog 37 [1, 0, 1, 0, 0], loopC Tryd.prog 37 [1, 0, 1, 0, 0], .inBlock 0, codeC Tryd.prog 37 [1, 1]] M := by
  intro N
  induction N with
  | zero =>
    intro v0 v1 v7 v8 Fr M r hH h
    simp [alert_secretOf_1] at h
  | succ N ih =>
    intro v0 v1 v7 v8 Fr M r hH h
    rw [alert_secretOf_1] at h
    refine Run.seq (Run.region ?_)
    refine Run.opG wantS_none (ex_lss rfl rfl) rfl ?_
    refine Run.opsEnd (Run.seq ?_)
    rcases btf ((decide (v8 < v7))) with hc21 | hc21
    · have h := bif_t hc21 h
      refine Run.condT' rfl hc21 ?_
      refine Run.skip (Run.seq (Run.block (Run.seq (Run.region ?_))))
      refine Run.opG wantS_none (ex_move rfl) rfl ?_
      refine Run.opG wantS_none (ex_assign rfl) rfl ?_
      refine Run.opsEnd (Run.seq (Run.region ?_))
      refine Run.opG wantS_none (ex_move rfl) rfl ?_
      refine Run.opG wantS_none (ex_move rfl) rfl ?_
      refine Run.opG wantS_none (ex_mul rfl rfl) rfl ?_
      refine Run.opG wantS_none (ex_add rfl rfl) rfl ?_
      refine Run.opG wantS_none (ex_assign rfl) rfl ?_
      refine Run.opsEnd (Run.seq (Run.region ?_))
      refine Run.opG wantS_none (ex_move rfl) rfl ?_
      refine Run.opG wantS_none (ex_move rfl) rfl ?_
      obtain ⟨z23, hz23, h⟩ := bnd_some h
      refine Run.opG wantS_none (ex_rem' rfl rfl hz23) rfl ?_
      refine Run.opG wantS_none (ex_eql rfl rfl) rfl ?_
      refine Run.opsEnd ?_
      rcases btf (((Int.tmod (w64 ((w64 (v8 * v1)) + (1 : Int))) v0) == (0 : Int))) with hc24 | hc24
      · have h := bif_t hc24 h
        refine Run.condT' rfl hc24 ?_
        refine Run.seq (Run.region ?_)
        refine Run.opG wantS_none (ex_move rfl) rfl ?_
        refine Run.opG wantS_none (ex_move rfl) rfl ?_
        obtain ⟨z26, hz26, h⟩ := bnd_some h
        refine Run.opG wantS_none (ex_quo' rfl rfl hz26) rfl ?_
        refine Run.opG wantS_none (ex_assign rfl) rfl ?_
        refine Run.opsEnd ?_
        cases h
        exact Run.ret Tryd.func37 rfl (res_tmp rfl res_nil) rfl
      · have h := bif_f hc24 h
        refine Run.condF' rfl hc24 ?_
        refine Run.skip (Run.inBlock (Run.region ?_))
        refine Run.opG wantS_none (ex_add rfl rfl) rfl ?_
        refine Run.opG wantS_none (ex_move rfl) rfl ?_
        refine Run.opsEnd (Run.inLoop ?_)
        exact Run.pick [0, 1, 7, 8] (ih v0 v1 v7 (w64 (v8 + (1 : Int))) _ _ _ hH h)
    · have h := bif_f hc21 h
      refine Run.condF' rfl hc21 ?_
      refine Run.exit rfl (Run.seq (Run.region ?_))
      refine Run.opG wantS_none (ex_assign rfl) rfl ?_
      refine Run.opsEnd ?_
      cases h
      exact Run.ret Tryd.func37 rfl (res_tmp rfl res_nil) rfl

def alert_secretOf (F : Nat) (a0 : Int) (a1 : Int) : Option (Int) :=
  alert_secretOf_1 F F a0 a1 a0 (0 : Int)

theorem alert_secretOf_ok (F : Nat) (a0 : Int) (a1 : Int) (r : Int) (M : Mem) (h : alert_secretOf F a0 a1 = some r) : CallsM Tryd.prog 37 [(.int .i64 a0), (.int .i64 a1)] M (fun s M' => s = (.int .i64 r) ∧ M' = M) := by
  refine CallsM.plain Tryd.func37 rfl rfl rfl (show Run _ _ _ (alert_secretOf_post r) _ _ _ from ?_)
  rw [alert_secretOf] at h
  have hH := Has.nil (frozen M)
  refine Run.seq (Run.region ?_)
  refine Run.opG wantS_none (ex_assign rfl) rfl ?_
  refine Run.opsEnd (Run.seq (Run.seq (Run.region ?_)))
  refine Run.opG wantS_none (ex_move rfl) rfl ?_
  refine Run.opG wantS_none (ex_move rfl) rfl ?_
  refine Run.opsEnd (Run.block (Run.loop ?_))
  exact Run.pick [0, 1, 7, 8] (alert_secretOf_1_ok F F a0 a1 a0 (0 : Int) _ _ _ hH h)

theorem mkk37 : makeK Tryd.prog 37 = none := by kernel_rfl
theorem cal37 : callable Tryd.prog 37 = true := by kernel_rfl
abbrev alert_MakeKey_post (r : S_api_Key × Int × Int) : SV → Mem → Prop := fun s _ => s = (.tuple [(.agg [(.int .i64 r.1.Modulus), (.int .i64 r.1.Exponent)]), (.int .i64 r.2.1), (.int .i64 r.2.2)])

def alert_MakeKey_3 (F : Nat) (v0 : Int) (v1 : Int) (v2 : Int) (v26 : Bool) (c22 : S_api_Key) : Option (S_api_Key × Int × Int) :=
  bif v26 then
    some ((S_api_Key.mk 0 0), (0 : Int), (100 : Int))
  else
    bnd (alert_leastMultiple F (w64 (v0 - (1 : Int))) (w64 (v1 - (1 : Int)))) fun r33 =>
    bnd (alert_secretOf F v2 r33) fun r36 =>
    bif (r36 == (0 : Int)) then
      some ((S_api_Key.mk 0 0), (0 : Int), (100 : Int))
    else
      some ((S_api_Key.mk (w64 (v0 * v1)) v2), r36, (0 : Int))

theorem alert_MakeKey_3_ok (F : Nat) : ∀ (v0 : Int) (v1 : Int) (v2 : Int) (v26 : Bool) (c22 : S_api_Key) (b22 : Pos) (Fr : Rd) (M : Mem) (r : S_api_Key × Int × Int) (hH : Has Fr M [.obj b22 (.row 24 .whole [(.int .i64 c22.Modulus), (.int .i64 c22.Exponent)])]), alert_MakeKey_3 F v0 v1 v2 v26 c22 = some r → Run Tryd.prog ⟨⟨8, [], none⟩, []⟩ 44 (alert_MakeKey_post r) [(0, (.int .i64 v0)), (1, (.int .i64 v1)), (2, (.int .i64 v2)), (6, (.ptr b22 0)), (26, (.bool v26))] [codeC Tryd.prog 8 [1, 0, 1], codeC Tryd.prog 8 [1, 1]] M := by
  intro v0 v1 v2 v26 c22 b22 Fr M r hH h
  rw [alert_MakeKey_3] at h
  rcases btf (v26) with hc30 | hc30
  · have h := bif_t hc30 h
    refine Run.condT' rfl hc30 ?_
    refine Run.seq (Run.region ?_)
    refine Run.opG wantS_none (ex_build (r := [(.int .i64 0), (.int .i64 0)]) rfl zer24 pls24 rfl) rfl ?_
    refine Run.opX wantS_none rfl (ExG.storeC (c' := [(.int .i64 0), (.int .i64 0)]) rfl rfl rfl hH (i := 0) rfl sz24 rfl rfl rfl rfl rfl) ?_
    rintro _ M31 ⟨rfl, (hH31 : Has Fr M31 [.obj b22 (.row 24 .whole [(.int .i64 0), (.int .i64 0)])])⟩
    refine Run.opG wantS_none (ex_assign rfl) rfl ?_
    refine Run.opG wantS_none (ex_assign rfl) rfl ?_
    refine Run.opsEnd ?_
    cases h
    exact Run.ret Tryd.func8 rfl (res_cell rfl (x_load (ex_loadA rfl (hH31.cells (i := 0) rfl 0 rfl) rdLe_rfl agg24 rfl rfl rfl)) (res_tmp rfl (res_tmp rfl res_nil))) rfl
  · have h := bif_f hc30 h
    refine Run.condF' rfl hc30 ?_
    refine Run.skip (Run.seq (Run.region ?_))
    refine Run.opG wantS_none (ex_move rfl) rfl ?_
    refine Run.opG wantS_none (ex_move rfl) rfl ?_
    refine Run.opG wantS_none (ex_sub rfl rfl) rfl ?_
    refine Run.opG wantS_none (ex_move rfl) rfl ?_
    refine Run.opG wantS_none (ex_sub rfl rfl) rfl ?_
    obtain ⟨r33, hr33, h⟩ := bnd_some h
    refine Run.callP wantS_none (ex_call rfl mkk38 cal38) rfl (alert_leastMultiple_ok F (w64 (v0 - (1 : Int))) (w64 (v1 - (1 : Int))) _ _ hr33) ?_
    obtain ⟨r36, hr36, h⟩ := bnd_some h
    refine Run.callP wantS_none (ex_call rfl mkk37 cal37) rfl (alert_secretOf_ok F v2 r33 _ _ hr36) ?_
    refine Run.opG wantS_none (ex_assign rfl) rfl ?_
    refine Run.opsEnd (Run.seq (Run.seq (Run.region ?_)))
    refine Run.opG wantS_none (ex_move rfl) rfl ?_
    refine Run.opG wantS_none (ex_eql rfl rfl) rfl ?_
    refine Run.opsEnd ?_
    rcases btf ((r36 == (0 : Int))) with hc38 | hc38
    · have h := bif_t hc38 h
      refine Run.condT' rfl hc38 ?_
      refine Run.seq (Run.region ?_)
      refine Run.opG wantS_none (ex_build (r := [(.int .i64 0), (.int .i64 0)]) rfl zer24 pls24 rfl) rfl ?_
      refine Run.opX wantS_none rfl (ExG.storeC (c' := [(.int .i64 0), (.int .i64 0)]) rfl rfl rfl hH (i := 0) rfl sz24 rfl rfl rfl rfl rfl) ?_
      rintro _ M39 ⟨rfl, (hH39 : Has Fr M39 [.obj b22 (.row 24 .whole [(.int .i64 0), (.int .i64 0)])])⟩
      refine Run.opG wantS_none (ex_assign rfl) rfl ?_
      refine Run.opG wantS_none (ex_assign rfl) rfl ?_
      refine Run.opsEnd ?_
      cases h
      exact Run.ret Tryd.func8 rfl (res_cell rfl (x_load (ex_loadA rfl (hH39.cells (i := 0) rfl 0 rfl) rdLe_rfl agg24 rfl rfl rfl)) (res_tmp rfl (res_tmp rfl res_nil))) rfl
    · have h := bif_f hc38 h
      refine Run.condF' rfl hc38 ?_
      refine Run.skip (Run.seq (Run.region ?_))
      refine Run.opG wantS_none (ex_move rfl) rfl ?_
      refine Run.opG wantS_none (ex_move rfl) rfl ?_
      refine Run.opG wantS_none (ex_mul rfl rfl) rfl ?_
      refine Run.opG wantS_none (ex_move rfl) rfl ?_
      refine Run.opG wantS_none (ex_build (r := [(.int .i64 (w64 (v0 * v1))), (.int .i64 v2)]) rfl zer24 pls24 rfl) rfl ?_
      refine Run.opG wantS_none (ex_move rfl) rfl ?_
      refine Run.opX wantS_none rfl (ExG.storeC (c' := [(.int .i64 (w64 (v0 * v1))), (.int .i64 v2)]) rfl rfl rfl hH (i := 0) rfl sz24 rfl rfl rfl rfl rfl) ?_
      rintro _ M40 ⟨rfl, (hH40 : Has Fr M40 [.obj b22 (.row 24 .whole [(.int .i64 (w64 (v0 * v1))), (.int .i64 v2)])])⟩
      refine Run.opG wantS_none (ex_assign rfl) rfl ?_
      refine Run.opG wantS_none (ex_assign rfl) rfl ?_
      refine Run.opsEnd ?_
      cases h
      exact Run.ret Tryd.func8 rfl (res_cell rfl (x_load (ex_loadA rfl (hH40.cells (i := 0) rfl 0 rfl) rdLe_rfl agg24 rfl rfl rfl)) (res_tmp rfl (res_tmp rfl res_nil))) rfl

def alert_MakeKey_2 (F : Nat) (v0 : Int) (v1 : Int) (v2 : Int) (v21 : Bool) (c22 : S_api_Key) : Option (S_api_Key × Int × Int) :=
  bif v21 then
    alert_MakeKey_3 F v0 v1 v2 true c22
  else
    bnd (alert_isFrom F (3 : Int) v2 (32749 : Int)) fun r42 =>
    alert_MakeKey_3 F v0 v1 v2 (!r42) c22

theorem alert_MakeKey_2_ok (F : Nat) : ∀ (v0 : Int) (v1 : Int) (v2 : Int) (v21 : Bool) (c22 : S_api_Key) (b22 : Pos) (Fr : Rd) (M : Mem) (r : S_api_Key × Int × Int) (hH : Has Fr M [.obj b22 (.row 24 .whole [(.int .i64 c22.Modulus), (.int .i64 c22.Exponent)])]), alert_MakeKey_2 F v0 v1 v2 v21 c22 = some r → Run Tryd.prog ⟨⟨8, [], none⟩, []⟩ 44 (alert_MakeKey_post r) [(0, (.int .i64 v0)), (1, (.int .i64 v1)), (2, (.int .i64 v2)), (6, (.ptr b22 0)), (21, (.bool v21))] [itemC Tryd.prog 8 [1, 0, 0] 13, codeC Tryd.prog 8 [1, 0, 1], codeC Tryd.prog 8 [1, 1]] M := by
  intro v0 v1 v2 v21 c22 b22 Fr M r hH h
  rw [alert_MakeKey_2] at h
  refine Run.opG wantS_none (ex_move rfl) rfl ?_
  rcases btf (v21) with hc29 | hc29
  · have h := bif_t hc29 h
    refine Run.no (wantS_not' rfl rfl hc29) rfl ?_
    refine Run.no (wantS_not' rfl rfl hc29) rfl ?_
    refine Run.no (wantS_not' rfl rfl hc29) rfl ?_
    refine Run.opG wantS_none (ex_pickT' rfl hc29 rfl rfl) rfl ?_
    refine Run.opsEnd ?_
    exact Run.pick [0, 1, 2, 6, 26] (alert_MakeKey_3_ok F v0 v1 v2 true c22 b22 _ _ _ hH h)
  · have h := bif_f hc29 h
    refine Run.opG (wantS_yes' rfl rfl hc29) (ex_move rfl) rfl ?_
    obtain ⟨r42, hr42, h⟩ := bnd_some h
    refine Run.callP (wantS_yes' rfl rfl hc29) (ex_call rfl mkk36 cal36) rfl (alert_isFrom_ok F (3 : Int) v2 (32749 : Int) _ _ hr42) ?_
    refine Run.opG (wantS_yes' rfl rfl hc29) (ex_not rfl) rfl ?_
    refine Run.opG wantS_none (ex_pickF' rfl hc29 rfl rfl) rfl ?_
    refine Run.opsEnd ?_
    exact Run.pick [0, 1, 2, 6, 26] (alert_MakeKey_3_ok F v0 v1 v2 (!r42) c22 b22 _ _ _ hH h)

def alert_MakeKey_1 (F : Nat) (v0 : Int) (v1 : Int) (v2 : Int) (v16 : Bool) (c22 : S_api_Key) : Option (S_api_Key × Int × Int) :=
  bif v16 then
    alert_MakeKey_2 F v0 v1 v2 true c22
  else
    alert_MakeKey_2 F v0 v1 v2 (v0 == v1) c22

theorem alert_MakeKey_1_ok (F : Nat) : ∀ (v0 : Int) (v1 : Int) (v2 : Int) (v16 : Bool) (c22 : S_api_Key) (b22 : Pos) (Fr : Rd) (M : Mem) (r : S_api_Key × Int × Int) (hH : Has Fr M [.obj b22 (.row 24 .whole [(.int .i64 c22.Modulus), (.int .i64 c22.Exponent)])]), alert_MakeKey_1 F v0 v1 v2 v16 c22 = some r → Run Tryd.prog ⟨⟨8, [], none⟩, []⟩ 44 (alert_MakeKey_post r) [(0, (.int .i64 v0)), (1, (.int .i64 v1)), (2, (.int .i64 v2)), (6, (.ptr b22 0)), (16, (.bool v16))] [itemC Tryd.prog 8 [1, 0, 0] 8, codeC Tryd.prog 8 [1, 0, 1], codeC Tryd.prog 8 [1, 1]] M := by
  intro v0 v1 v2 v16 c22 b22 Fr M r hH h
  rw [alert_MakeKey_1] at h
  refine Run.opG wantS_none (ex_move rfl) rfl ?_
  rcases btf (v16) with hc28 | hc28
  · have h := bif_t hc28 h
    refine Run.no (wantS_not' rfl rfl hc28) rfl ?_
    refine Run.no (wantS_not' rfl rfl hc28) rfl ?_
    refine Run.no (wantS_not' rfl rfl hc28) rfl ?_
    refine Run.opG wantS_none (ex_pickT' rfl hc28 rfl rfl) rfl ?_
    exact Run.pick [0, 1, 2, 6, 21] (alert_MakeKey_2_ok F v0 v1 v2 true c22 b22 _ _ _ hH h)
  · have h := bif_f hc28 h
    refine Run.opG (wantS_yes' rfl rfl hc28) (ex_move rfl) rfl ?_
    refine Run.opG (wantS_yes' rfl rfl hc28) (ex_move rfl) rfl ?_
    refine Run.opG (wantS_yes' rfl rfl hc28) (ex_eql rfl rfl) rfl ?_
    refine Run.opG wantS_none (ex_pickF' rfl hc28 rfl rfl) rfl ?_
    exact Run.pick [0, 1, 2, 6, 21] (alert_MakeKey_2_ok F v0 v1 v2 (v0 == v1) c22 b22 _ _ _ hH h)

def alert_MakeKey (F : Nat) (a0 : Int) (a1 : Int) (a2 : Int) : Option (S_api_Key × Int × Int) :=
  bnd (alert_isPrime F a0) fun r25 =>
  bif (!r25) then
    alert_MakeKey_1 F a0 a1 a2 true (S_api_Key.mk 0 0)
  else
    bnd (alert_isPrime F a1) fun r45 =>
    alert_MakeKey_1 F a0 a1 a2 (!r45) (S_api_Key.mk 0 0)

theorem alert_MakeKey_ok (F : Nat) (a0 : Int) (a1 : Int) (a2 : Int) (r : S_api_Key × Int × Int) (M : Mem) (h : alert_MakeKey F a0 a1 a2 = some r) : CallsM Tryd.prog 8 [(.int .i64 a0), (.int .i64 a1), (.int .i64 a2)] M (fun s M' => s = (.tuple [(.agg [(.int .i64 r.1.Modulus), (.int .i64 r.1.Exponent)]), (.int .i64 r.2.1), (.int .i64 r.2.2)]) ∧ M' = M) := by
  refine CallsM.plain Tryd.func8 rfl rfl rfl (show Run _ _ _ (alert_MakeKey_post r) _ _ _ from ?_)
  rw [alert_MakeKey] at h
  have hH := Has.nil (frozen M)
  refine Run.seq (Run.region ?_)
  refine Run.opX wantS_none rfl (ExG.new (v := fun b => .ptr b 0) (ex_alloc zer24) hH) ?_
  rintro _ M23 ⟨b22, rfl, (hH23 : Has (ro (frozen M)) M23 [.obj b22 (.row 24 .whole [(.int .i64 0), (.int .i64 0)])])⟩
  refine Run.opG wantS_none (ex_assign rfl) rfl ?_
  refine Run.opG wantS_none (ex_assign rfl) rfl ?_
  refine Run.opsEnd (Run.seq (Run.seq (Run.region ?_)))
  refine Run.opG wantS_none (ex_move rfl) rfl ?_
  obtain ⟨r25, hr25, h⟩ := bnd_some h
  refine Run.callP wantS_none (ex_call rfl mkk35 cal35) rfl (alert_isPrime_ok F a0 _ _ hr25) ?_
  refine Run.opG wantS_none (ex_not rfl) rfl ?_
  refine Run.opG wantS_none (ex_move rfl) rfl ?_
  rcases btf ((!r25)) with hc27 | hc27
  · have h := bif_t hc27 h
    refine Run.no (wantS_not' rfl rfl hc27) rfl ?_
    refine Run.no (wantS_not' rfl rfl hc27) rfl ?_
    refine Run.no (wantS_not' rfl rfl hc27) rfl ?_
    refine Run.opG wantS_none (ex_pickT' rfl hc27 rfl rfl) rfl ?_
    exact Run.pick [0, 1, 2, 6, 16] (alert_MakeKey_1_ok F a0 a1 a2 true (S_api_Key.mk 0 0) b22 _ _ _ hH23 h)
  · have h := bif_f hc27 h
    refine Run.opG (wantS_yes' rfl rfl hc27) (ex_move rfl) rfl ?_
    obtain ⟨r45, hr45, h⟩ := bnd_some h
    refine Run.callP (wantS_yes' rfl rfl hc27) (ex_call rfl mkk35 cal35) rfl (alert_isPrime_ok F a1 _ _ hr45) ?_
    refine Run.opG (wantS_yes' rfl rfl hc27) (ex_not rfl) rfl ?_
    refine Run.opG wantS_none (ex_pickF' rfl hc27 rfl rfl) rfl ?_
    exact Run.pick [0, 1, 2, 6, 16] (alert_MakeKey_1_ok F a0 a1 a2 (!r45) (S_api_Key.mk 0 0) b22 _ _ _ hH23 h)

theorem mkk8 : makeK Tryd.prog 8 = none := by kernel_rfl
theorem cal8 : callable Tryd.prog 8 = true := by kernel_rfl
theorem agk3 : aggK Tryd.prog 3 = some .int := by kernel_rfl
theorem agk24 : aggK Tryd.prog 24 = some (.st [⟨ "Modulus", 3, 0, false, "", "", 0⟩, ⟨ "Exponent", 3, 1, false, "", "", 8⟩]) := by kernel_rfl
theorem aeq24 : aggEq Tryd.prog 24 = false := by kernel_rfl
theorem mkk14 : makeK Tryd.prog 14 = none := by kernel_rfl
theorem cal14 : callable Tryd.prog 14 = true := by kernel_rfl
theorem agg29 : aggSize Tryd.prog 29 = some (some 9) := by kernel_rfl
theorem off79_0 : fieldOff Tryd.prog 79 0 = some 0 := by kernel_rfl
theorem off79_1 : fieldOff Tryd.prog 79 1 = some 1 := by kernel_rfl
abbrev alert_key_isPlausible_post (r : Bool) : SV → Mem → Prop := fun s _ => s = (.bool r)

def alert_key_isPlausible_1 (F : Nat) (v10 : Bool) : Option (Bool) :=
  some v10

theorem alert_key_isPlausible_1_ok (F : Nat) : ∀ (v10 : Bool) (Fr : Rd) (M : Mem) (r : Bool) (hH : Has Fr M []), alert_key_isPlausible_1 F v10 = some r → Run Tryd.prog ⟨⟨42, [], none⟩, []⟩ 11 (alert_key_isPlausible_post r) [(10, (.bool v10))] [itemC Tryd.prog 42 [1, 0] 8, codeC Tryd.prog 42 [1, 1]] M := by
  intro v10 Fr M r hH h
  rw [alert_key_isPlausible_1] at h
  refine Run.opG wantS_none (ex_assign rfl) rfl ?_
  refine Run.opsEnd ?_
  cases h
  exact Run.ret Tryd.func42 rfl (res_tmp rfl res_nil) rfl

def alert_key_isPlausible (F : Nat) (a0 : S_api_Key) : Option (Bool) :=
  bnd (alert_isFrom F (15 : Int) a0.Modulus (1073741824 : Int)) fun r25 =>
  bif r25 then
    bnd (alert_isFrom F (3 : Int) a0.Exponent (32749 : Int)) fun r29 =>
    alert_key_isPlausible_1 F r29
  else
    alert_key_isPlausible_1 F false

theorem alert_key_isPlausible_ok (F : Nat) (a0 : S_api_Key) (r : Bool) (M : Mem) (h : alert_key_isPlausible F a0 = some r) : CallsM Tryd.prog 42 [(.agg [(.int .i64 a0.Modulus), (.int .i64 a0.Exponent)])] M (fun s M' => s = (.bool r) ∧ M' = M) := by
  refine CallsM.plain Tryd.func42 rfl rfl rfl (show Run _ _ _ (alert_key_isPlausible_post r) _ _ _ from ?_)
  rw [alert_key_isPlausible] at h
  have hH := Has.nil (frozen M)
  refine Run.seq (Run.region ?_)
  refine Run.opX wantS_none rfl (ExG.box rfl rfl hH) ?_
  rintro _ M23 ⟨b22, rfl, (hH23 : Has (ro (frozen M)) M23 [.obj b22 (.row 79 .whole [(.int .i64 a0.Modulus), (.int .i64 a0.Exponent)])])⟩
  refine Run.opG wantS_none (ex_assign rfl) rfl ?_
  refine Run.opsEnd (Run.seq (Run.region ?_))
  refine Run.opG wantS_none (ex_fieldAddr rfl off79_0) rfl ?_
  refine Run.opG wantS_none (ex_load1 rfl (hH23.cells (i := 0) rfl 0 rfl) rdLe_rfl agg3) rfl ?_
  obtain ⟨r25, hr25, h⟩ := bnd_some h
  refine Run.callP wantS_none (ex_call rfl mkk36 cal36) rfl (alert_isFrom_ok F (15 : Int) a0.Modulus (1073741824 : Int) _ _ hr25) ?_
  refine Run.opG wantS_none (ex_move rfl) rfl ?_
  rcases btf (r25) with hc27 | hc27
  · have h := bif_t hc27 h
    refine Run.opG (wantS_yes' rfl rfl hc27) (ex_fieldAddr rfl off79_1) rfl ?_
    refine Run.opG (wantS_yes' rfl rfl hc27) (ex_load1 rfl (hH23.cells (i := 0) rfl 1 rfl) rdLe_rfl agg3) rfl ?_
    obtain ⟨r29, hr29, h⟩ := bnd_some h
    refine Run.callP (wantS_yes' rfl rfl hc27) (ex_call rfl mkk36 cal36) rfl (alert_isFrom_ok F (3 : Int) a0.Exponent (32749 : Int) _ _ hr29) ?_
    refine Run.opG wantS_none (ex_pickT' rfl hc27 rfl rfl) rfl ?_
    exact Run.pick [10] (alert_key_isPlausible_1_ok F r29 _ _ _ (hH23.pick [] rfl rfl) h)
  · have h := bif_f hc27 h
    refine Run.no (wantS_not' rfl rfl hc27) rfl ?_
    refine Run.no (wantS_not' rfl rfl hc27) rfl ?_
    refine Run.no (wantS_not' rfl rfl hc27) rfl ?_
    refine Run.opG wantS_none (ex_pickF' rfl hc27 rfl rfl) rfl ?_
    exact Run.pick [10] (alert_key_isPlausible_1_ok F false _ _ _ (hH23.pick [] rfl rfl) h)

theorem mkk42 : makeK Tryd.prog 42 = none := by kernel_rfl
theorem cal42 : callable Tryd.prog 42 = true := by kernel_rfl
theorem off29_0 : fieldOff Tryd.prog 29 0 = some 0 := by kernel_rfl
theorem agg9 : aggSize Tryd.prog 9 = some none := by kernel_rfl
theorem lenk9 : lenK Tryd.prog 9 = some .str := by kernel_rfl
theorem uvk9_108 : uvK Tryd.prog 9 108 = none := by kernel_rfl
theorem cvk9_108 : cvK Tryd.prog 9 108 = some (.bytes 5) := by kernel_rfl
def enc5 (a : Int) : List SV := [(.int .u8 a)]
theorem enc5_len (a : Int) : (enc5 a).length = 1 := rfl
theorem enc5_ones (a : Int) : ones (enc5 a) = true := rfl
theorem lenk108 : lenK Tryd.prog 108 = some .sl := by kernel_rfl
theorem els108 : elems Tryd.prog 108 = some (.sl 1) := by kernel_rfl
theorem agg5 : aggSize Tryd.prog 5 = some none := by kernel_rfl
abbrev num_IsName_post (r : Bool) : SV → Mem → Prop := fun s _ => s = (.bool r)

def num_IsName_7 (F : Nat) (hd2 : (List Int) → Int → Int → Option (Bool)) (v16 : (List Int)) (v17 : Int) (v18 : Int) (v48 : Bool) : Option (Bool) :=
  bif v48 then
    some false
  else
    hd2 v16 v17 (w64 (v18 + (1 : Int)))

theorem num_IsName_7_ok (F : Nat) (hd2 : (List Int) → Int → Int → Option (Bool)) (hhd2 : ∀ (v16 : (List Int)) (v17 : Int) (v18 : Int) (sv16 : SV) (Fr : Rd) (M : Mem) (r : Bool) (hv16 : Slc Fr 1 (FlatR enc5) sv16 v16) (hH : Has Fr M []), hd2 v16 v17 v18 = some r → Run Tryd.prog ⟨⟨70, [], none⟩, []⟩ 50 (num_IsName_post r) [(16, sv16), (17, (.int .i64 v17)), (18, (.int .i64 v18))] [codeC Tryd.prog 70 [1, 1, 0, 1, 0, 0], loopC Tryd.prog 70 [1, 1, 0, 1, 0, 0], .inBlock 0, codeC Tryd.prog 70 [1, 1, 1]] M) : ∀ (v16 : (List Int)) (v17 : Int) (v18 : Int) (v48 : Bool) (sv16 : SV) (Fr : Rd) (M : Mem) (r : Bool) (hv16 : Slc Fr 1 (FlatR enc5) sv16 v16) (hH : Has Fr M []), num_IsName_7 F hd2 v16 v17 v18 v48 = some r → Run Tryd.prog ⟨⟨70, [], none⟩, []⟩ 50 (num_IsName_post r) [(16, sv16), (17, (.int .i64 v17)), (18, (.int .i64 v18)), (48, (.bool v48))] [codeC Tryd.prog 70 [1, 1, 0, 1, 0, 0, 1, 1, 0, 0, 1, 1, 1, 1], .inBlock 1, codeC Tryd.prog 70 [1, 1, 0, 1, 0, 0, 1, 1, 1], loopC Tryd.prog 70 [1, 1, 0, 1, 0, 0], .inBlock 0, codeC Tryd.prog 70 [1, 1, 1]] M := by
  intro v16 v17 v18 v48 sv16 Fr M r hv16 hH h
  rw [num_IsName_7] at h
  rcases btf (v48) with hc37 | hc37
  · have h := bif_t hc37 h
    refine Run.condT' rfl hc37 ?_
    refine Run.seq (Run.region ?_)
    refine Run.opG wantS_none (ex_assign rfl) rfl ?_
    refine Run.opsEnd ?_
    cases h
    exact Run.ret Tryd.func70 rfl (res_tmp rfl res_nil) rfl
  · have h := bif_f hc37 h
    refine Run.condF' rfl hc37 ?_
    refine Run.skip (Run.inBlock (Run.region ?_))
    refine Run.opG wantS_none (ex_add rfl rfl) rfl ?_
    refine Run.opG wantS_none (ex_move rfl) rfl ?_
    refine Run.opsEnd (Run.inLoop ?_)
    exact Run.pick [16, 17, 18] (hhd2 v16 v17 (w64 (v18 + (1 : Int))) sv16 _ _ _ hv16 hH h)

def num_IsName_6 (F : Nat) (hd2 : (List Int) → Int → Int → Option (Bool)) (v16 : (List Int)) (v17 : Int) (v18 : Int) (v41 : Bool) (v46 : Bool) : Option (Bool) :=
  bif v41 then
    num_IsName_7 F hd2 v16 v17 v18 (!v46)
  else
    num_IsName_7 F hd2 v16 v17 v18 false

theorem num_IsName_6_ok (F : Nat) (hd2 : (List Int) → Int → Int → Option (Bool)) (hhd2 : ∀ (v16 : (List Int)) (v17 : Int) (v18 : Int) (sv16 : SV) (Fr : Rd) (M : Mem) (r : Bool) (hv16 : Slc Fr 1 (FlatR enc5) sv16 v16) (hH : Has Fr M []), hd2 v16 v17 v18 = some r → Run Tryd.prog ⟨⟨70, [], none⟩, []⟩ 50 (num_IsName_post r) [(16, sv16), (17, (.int .i64 v17)), (18, (.int .i64 v18))] [codeC Tryd.prog 70 [1, 1, 0, 1, 0, 0], loopC Tryd.prog 70 [1, 1, 0, 1, 0, 0], .inBlock 0, codeC Tryd.prog 70 [1, 1, 1]] M) : ∀ (v16 : (List Int)) (v17 : Int) (v18 : Int) (v41 : Bool) (v46 : Bool) (sv16 : SV) (Fr : Rd) (M : Mem) (r : Bool) (hv16 : Slc Fr 1 (FlatR enc5) sv16 v16) (hH : Has Fr M []), num_IsName_6 F hd2 v16 v17 v18 v41 v46 = some r → Run Tryd.prog ⟨⟨70, [], none⟩, []⟩ 50 (num_IsName_post r) [(16, sv16), (17, (.int .i64 v17)), (18, (.int .i64 v18)), (41, (.bool v41)), (46, (.bool v46))] [itemC Tryd.prog 70 [1, 1, 0, 1, 0, 0, 1, 1, 0, 0, 1, 1, 1, 0] 8, codeC Tryd.prog 70 [1, 1, 0, 1, 0, 0, 1, 1, 0, 0, 1, 1, 1, 1], .inBlock 1, codeC Tryd.prog 70 [1, 1, 0, 1, 0, 0, 1, 1, 1], loopC Tryd.prog 70 [1, 1, 0, 1, 0, 0], .inBlock 0, codeC Tryd.prog 70 [1, 1, 1]] M := by
  intro v16 v17 v18 v41 v46 sv16 Fr M r hv16 hH h
  rw [num_IsName_6] at h
  rcases btf (v41) with hc36 | hc36
  · have h := bif_t hc36 h
    refine Run.opG (wantS_yes' rfl rfl hc36) (ex_not rfl) rfl ?_
    refine Run.opG wantS_none (ex_pickT' rfl hc36 rfl rfl) rfl ?_
    refine Run.opsEnd ?_
    exact Run.pick [16, 17, 18, 48] (num_IsName_7_ok F hd2 hhd2 v16 v17 v18 (!v46) sv16 _ _ _ hv16 hH h)
  · have h := bif_f hc36 h
    refine Run.no (wantS_not' rfl rfl hc36) rfl ?_
    refine Run.opG wantS_none (ex_pickF' rfl hc36 rfl rfl) rfl ?_
    refine Run.opsEnd ?_
    exact Run.pick [16, 17, 18, 48] (num_IsName_7_ok F hd2 hhd2 v16 v17 v18 false sv16 _ _ _ hv16 hH h)

def num_IsName_8 (F : Nat) (hd2 : (List Int) → Int → Int → Option (Bool)) (v16 : (List Int)) (v17 : Int) (v18 : Int) (v41 : Bool) : Option (Bool) :=
  bif v41 then
    none
  else
    num_IsName_7 F hd2 v16 v17 v18 false

theorem num_IsName_8_ok (F : Nat) (hd2 : (List Int) → Int → Int → Option (Bool)) (hhd2 : ∀ (v16 : (List Int)) (v17 : Int) (v18 : Int) (sv16 : SV) (Fr : Rd) (M : Mem) (r : Bool) (hv16 : Slc Fr 1 (FlatR enc5) sv16 v16) (hH : Has Fr M []), hd2 v16 v17 v18 = some r → Run Tryd.prog ⟨⟨70, [], none⟩, []⟩ 50 (num_IsName_post r) [(16, sv16), (17, (.int .i64 v17)), (18, (.int .i64 v18))] [codeC Tryd.prog 70 [1, 1, 0, 1, 0, 0], loopC Tryd.prog 70 [1, 1, 0, 1, 0, 0], .inBlock 0, codeC Tryd.prog 70 [1, 1, 1]] M) : ∀ (v16 : (List Int)) (v17 : Int) (v18 : Int) (v41 : Bool) (sv16 : SV) (Fr : Rd) (M : Mem) (r : Bool) (hv16 : Slc Fr 1 (FlatR enc5) sv16 v16) (hH : Has Fr M []), num_IsName_8 F hd2 v16 v17 v18 v41 = some r → Run Tryd.prog ⟨⟨70, [], none⟩, []⟩ 50 (num_IsName_post r) [(16, sv16), (17, (.int .i64 v17)), (18, (.int .i64 v18)), (41, (.bool v41)), (46, (.tuple []))] [itemC Tryd.prog 70 [1, 1, 0, 1, 0, 0, 1, 1, 0, 0, 1, 1, 1, 0] 8, codeC Tryd.prog 70 [1, 1, 0, 1, 0, 0, 1, 1, 0, 0, 1, 1, 1, 1], .inBlock 1, codeC Tryd.prog 70 [1, 1, 0, 1, 0, 0, 1, 1, 1], loopC Tryd.prog 70 [1, 1, 0, 1, 0, 0], .inBlock 0, codeC Tryd.prog 70 [1, 1, 1]] M := by
  intro v16 v17 v18 v41 sv16 Fr M r hv16 hH h
  rw [num_IsName_8] at h
  rcases btf (v41) with hc38 | hc38
  · have h := bif_t hc38 h
    cases h
  · have h := bif_f hc38 h
    refine Run.no (wantS_not' rfl rfl hc38) rfl ?_
    refine Run.opG wantS_none (ex_pickF' rfl hc38 rfl rfl) rfl ?_
    refine Run.opsEnd ?_
    exact Run.pick [16, 17, 18, 48] (num_IsName_7_ok F hd2 hhd2 v16 v17 v18 false sv16 _ _ _ hv16 hH h)

def num_IsName_5 (F : Nat) (hd2 : (List Int) → Int → Int → Option (Bool)) (v3 : Int) (v5 : Bool) (v16 : (List Int)) (v17 : Int) (v18 : Int) (v38 : Bool) : Option (Bool) :=
  bif (!v5) then
    bif v38 then
      num_IsName_6 F hd2 v16 v17 v18 (!v5) (decide ((0 : Int) < v3))
    else
      num_IsName_6 F hd2 v16 v17 v18 (!v5) false
  else
    num_IsName_8 F hd2 v16 v17 v18 (!v5)

theorem num_IsName_5_ok (F : Nat) (hd2 : (List Int) → Int → Int → Option (Bool)) (hhd2 : ∀ (v16 : (List Int)) (v17 : Int) (v18 : Int) (sv16 : SV) (Fr : Rd) (M : Mem) (r : Bool) (hv16 : Slc Fr 1 (FlatR enc5) sv16 v16) (hH : Has Fr M []), hd2 v16 v17 v18 = some r → Run Tryd.prog ⟨⟨70, [], none⟩, []⟩ 50 (num_IsName_post r) [(16, sv16), (17, (.int .i64 v17)), (18, (.int .i64 v18))] [codeC Tryd.prog 70 [1, 1, 0, 1, 0, 0], loopC Tryd.prog 70 [1, 1, 0, 1, 0, 0], .inBlock 0, codeC Tryd.prog 70 [1, 1, 1]] M) : ∀ (v3 : Int) (v5 : Bool) (v16 : (List Int)) (v17 : Int) (v18 : Int) (v38 : Bool) (sv16 : SV) (Fr : Rd) (M : Mem) (r : Bool) (hv16 : Slc Fr 1 (FlatR enc5) sv16 v16) (hH : Has Fr M []), num_IsName_5 F hd2 v3 v5 v16 v17 v18 v38 = some r → Run Tryd.prog ⟨⟨70, [], none⟩, []⟩ 50 (num_IsName_post r) [(3, (.int .i64 v3)), (5, (.bool v5)), (16, sv16), (17, (.int .i64 v17)), (18, (.int .i64 v18)), (38, (.bool v38))] [itemC Tryd.prog 70 [1, 1, 0, 1, 0, 0, 1, 1, 0, 0, 1, 1, 0] 10, codeC Tryd.prog 70 [1, 1, 0, 1, 0, 0, 1, 1, 0, 0, 1, 1, 1], .inBlock 1, codeC Tryd.prog 70 [1, 1, 0, 1, 0, 0, 1, 1, 1], loopC Tryd.prog 70 [1, 1, 0, 1, 0, 0], .inBlock 0, codeC Tryd.prog 70 [1, 1, 1]] M := by
  intro v3 v5 v16 v17 v18 v38 sv16 Fr M r hv16 hH h
  rw [num_IsName_5] at h
  refine Run.opG wantS_none (ex_assign rfl) rfl ?_
  refine Run.opsEnd (Run.seq (Run.region ?_))
  refine Run.opG wantS_none (ex_move rfl) rfl ?_
  refine Run.opG wantS_none (ex_not rfl) rfl ?_
  refine Run.opG wantS_none (ex_move rfl) rfl ?_
  rcases btf ((!v5)) with hc34 | hc34
  · have h := bif_t hc34 h
    refine Run.opG (wantS_yes' rfl rfl hc34) (ex_move rfl) rfl ?_
    refine Run.opG (wantS_yes' rfl rfl hc34) (ex_move rfl) rfl ?_
    rcases btf (v38) with hc35 | hc35
    · have h := bif_t hc35 h
      refine Run.opG (wantS_yes' rfl rfl hc35) (ex_move rfl) rfl ?_
      refine Run.opG (wantS_yes' rfl rfl hc35) (ex_gtr rfl rfl) rfl ?_
      refine Run.opG (wantS_yes' rfl rfl hc34) (ex_pickT' rfl hc35 rfl rfl) rfl ?_
      exact Run.pick [16, 17, 18, 41, 46] (num_IsName_6_ok F hd2 hhd2 v16 v17 v18 (!v5) (decide ((0 : Int) < v3)) sv16 _ _ _ hv16 hH h)
    · have h := bif_f hc35 h
      refine Run.no (wantS_not' rfl rfl hc35) rfl ?_
      refine Run.no (wantS_not' rfl rfl hc35) rfl ?_
      refine Run.opG (wantS_yes' rfl rfl hc34) (ex_pickF' rfl hc35 rfl rfl) rfl ?_
      exact Run.pick [16, 17, 18, 41, 46] (num_IsName_6_ok F hd2 hhd2 v16 v17 v18 (!v5) false sv16 _ _ _ hv16 hH h)
  · have h := bif_f hc34 h
    refine Run.no (wantS_not' rfl rfl hc34) rfl ?_
    refine Run.no (wantS_not' rfl rfl hc34) rfl ?_
    refine Run.no (wantS_skip rfl rfl) rfl ?_
    refine Run.no (wantS_skip rfl rfl) rfl ?_
    refine Run.no (wantS_not' rfl rfl hc34) rfl ?_
    exact Run.pick [16, 17, 18, 41, 46] (num_IsName_8_ok F hd2 hhd2 v16 v17 v18 (!v5) sv16 _ _ _ hv16 hH h)

def num_IsName_4 (F : Nat) (hd2 : (List Int) → Int → Int → Option (Bool)) (v3 : Int) (v4 : Int) (v5 : Bool) (v16 : (List Int)) (v17 : Int) (v18 : Int) (v34 : Bool) : Option (Bool) :=
  bif v34 then
    num_IsName_5 F hd2 v3 v5 v16 v17 v18 true
  else
    num_IsName_5 F hd2 v3 v5 v16 v17 v18 (v4 == (95 : Int))

theorem num_IsName_4_ok (F : Nat) (hd2 : (List Int) → Int → Int → Option (Bool)) (hhd2 : ∀ (v16 : (List Int)) (v17 : Int) (v18 : Int) (sv16 : SV) (Fr : Rd) (M : Mem) (r : Bool) (hv16 : Slc Fr 1 (FlatR enc5) sv16 v16) (hH : Has Fr M []), hd2 v16 v17 v18 = some r → Run Tryd.prog ⟨⟨70, [], none⟩, []⟩ 50 (num_IsName_post r) [(16, sv16), (17, (.int .i64 v17)), (18, (.int .i64 v18))] [codeC Tryd.prog 70 [1, 1, 0, 1, 0, 0], loopC Tryd.prog 70 [1, 1, 0, 1, 0, 0], .inBlock 0, codeC Tryd.prog 70 [1, 1, 1]] M) : ∀ (v3 : Int) (v4 : Int) (v5 : Bool) (v16 : (List Int)) (v17 : Int) (v18 : Int) (v34 : Bool) (sv16 : SV) (Fr : Rd) (M : Mem) (r : Bool) (hv16 : Slc Fr 1 (FlatR enc5) sv16 v16) (hH : Has Fr M []), num_IsName_4 F hd2 v3 v4 v5 v16 v17 v18 v34 = some r → Run Tryd.prog ⟨⟨70, [], none⟩, []⟩ 50 (num_IsName_post r) [(3, (.int .i64 v3)), (4, (.int .u8 v4)), (5, (.bool v5)), (16, sv16), (17, (.int .i64 v17)), (18, (.int .i64 v18)), (34, (.bool v34))] [itemC Tryd.prog 70 [1, 1, 0, 1, 0, 0, 1, 1, 0, 0, 1, 1, 0] 6, codeC Tryd.prog 70 [1, 1, 0, 1, 0, 0, 1, 1, 0, 0, 1, 1, 1], .inBlock 1, codeC Tryd.prog 70 [1, 1, 0, 1, 0, 0, 1, 1, 1], loopC Tryd.prog 70 [1, 1, 0, 1, 0, 0], .inBlock 0, codeC Tryd.prog 70 [1, 1, 1]] M := by
  intro v3 v4 v5 v16 v17 v18 v34 sv16 Fr M r hv16 hH h
  rw [num_IsName_4] at h
  refine Run.opG wantS_none (ex_move rfl) rfl ?_
  rcases btf (v34) with hc33 | hc33
  · have h := bif_t hc33 h
    refine Run.no (wantS_not' rfl rfl hc33) rfl ?_
    refine Run.no (wantS_not' rfl rfl hc33) rfl ?_
    refine Run.opG wantS_none (ex_pickT' rfl hc33 rfl rfl) rfl ?_
    exact Run.pick [3, 5, 16, 17, 18, 38] (num_IsName_5_ok F hd2 hhd2 v3 v5 v16 v17 v18 true sv16 _ _ _ hv16 hH h)
  · have h := bif_f hc33 h
    refine Run.opG (wantS_yes' rfl rfl hc33) (ex_move rfl) rfl ?_
    refine Run.opG (wantS_yes' rfl rfl hc33) (ex_eql rfl rfl) rfl ?_
    refine Run.opG wantS_none (ex_pickF' rfl hc33 rfl rfl) rfl ?_
    exact Run.pick [3, 5, 16, 17, 18, 38] (num_IsName_5_ok F hd2 hhd2 v3 v5 v16 v17 v18 (v4 == (95 : Int)) sv16 _ _ _ hv16 hH h)

def num_IsName_3 (F : Nat) (hd2 : (List Int) → Int → Int → Option (Bool)) (v3 : Int) (v4 : Int) (v16 : (List Int)) (v17 : Int) (v18 : Int) (v28 : Bool) : Option (Bool) :=
  bif (decide ((48 : Int) ≤ v4)) then
    num_IsName_4 F hd2 v3 v4 v28 v16 v17 v18 (decide (v4 ≤ (57 : Int)))
  else
    num_IsName_4 F hd2 v3 v4 v28 v16 v17 v18 false

theorem num_IsName_3_ok (F : Nat) (hd2 : (List Int) → Int → Int → Option (Bool)) (hhd2 : ∀ (v16 : (List Int)) (v17 : Int) (v18 : Int) (sv16 : SV) (Fr : Rd) (M : Mem) (r : Bool) (hv16 : Slc Fr 1 (FlatR enc5) sv16 v16) (hH : Has Fr M []), hd2 v16 v17 v18 = some r → Run Tryd.prog ⟨⟨70, [], none⟩, []⟩ 50 (num_IsName_post r) [(16, sv16), (17, (.int .i64 v17)), (18, (.int .i64 v18))] [codeC Tryd.prog 70 [1, 1, 0, 1, 0, 0], loopC Tryd.prog 70 [1, 1, 0, 1, 0, 0], .inBlock 0, codeC Tryd.prog 70 [1, 1, 1]] M) : ∀ (v3 : Int) (v4 : Int) (v16 : (List Int)) (v17 : Int) (v18 : Int) (v28 : Bool) (sv16 : SV) (Fr : Rd) (M : Mem) (r : Bool) (hv16 : Slc Fr 1 (FlatR enc5) sv16 v16) (hH : Has Fr M []), num_IsName_3 F hd2 v3 v4 v16 v17 v18 v28 = some r → Run Tryd.prog ⟨⟨70, [], none⟩, []⟩ 50 (num_IsName_post r) [(3, (.int .i64 v3)), (4, (.int .u8 v4)), (16, sv16), (17, (.int .i64 v17)), (18, (.int .i64 v18)), (28, (.bool v28))] [itemC Tryd.prog 70 [1, 1, 0, 1, 0, 0, 1, 1, 0, 0, 1, 0] 6, codeC Tryd.prog 70 [1, 1, 0, 1, 0, 0, 1, 1, 0, 0, 1, 1], .inBlock 1, codeC Tryd.prog 70 [1, 1, 0, 1, 0, 0, 1, 1, 1], loopC Tryd.prog 70 [1, 1, 0, 1, 0, 0], .inBlock 0, codeC Tryd.prog 70 [1, 1, 1]] M := by
  intro v3 v4 v16 v17 v18 v28 sv16 Fr M r hv16 hH h
  rw [num_IsName_3] at h
  refine Run.opG wantS_none (ex_assign rfl) rfl ?_
  refine Run.opsEnd (Run.seq (Run.region ?_))
  refine Run.opG wantS_none (ex_move rfl) rfl ?_
  refine Run.opG wantS_none (ex_geq rfl rfl) rfl ?_
  refine Run.opG wantS_none (ex_move rfl) rfl ?_
  rcases btf ((decide ((48 : Int) ≤ v4))) with hc32 | hc32
  · have h := bif_t hc32 h
    refine Run.opG (wantS_yes' rfl rfl hc32) (ex_move rfl) rfl ?_
    refine Run.opG (wantS_yes' rfl rfl hc32) (ex_leq rfl rfl) rfl ?_
    refine Run.opG wantS_none (ex_pickT' rfl hc32 rfl rfl) rfl ?_
    exact Run.pick [3, 4, 5, 16, 17, 18, 34] (num_IsName_4_ok F hd2 hhd2 v3 v4 v28 v16 v17 v18 (decide (v4 ≤ (57 : Int))) sv16 _ _ _ hv16 hH h)
  · have h := bif_f hc32 h
    refine Run.no (wantS_not' rfl rfl hc32) rfl ?_
    refine Run.no (wantS_not' rfl rfl hc32) rfl ?_
    refine Run.opG wantS_none (ex_pickF' rfl hc32 rfl rfl) rfl ?_
    exact Run.pick [3, 4, 5, 16, 17, 18, 34] (num_IsName_4_ok F hd2 hhd2 v3 v4 v28 v16 v17 v18 false sv16 _ _ _ hv16 hH h)

def num_IsName_2 (F : Nat) : Nat → (List Int) → Int → Int → Option (Bool)
  | 0, _, _, _ => none
  | N + 1, v16, v17, v18 =>
    bif (decide (v18 < v17)) then
      bnd (idx v16 v18) fun x30 =>
      bif (decide ((97 : Int) ≤ x30)) then
        num_IsName_3 F (num_IsName_2 F N) v18 x30 v16 v17 v18 (decide (x30 ≤ (122 : Int)))
      else
        num_IsName_3 F (num_IsName_2 F N) v18 x30 v16 v17 v18 false
    else
      some true

theorem num_IsName_2_ok (F : Nat) : ∀ (N : Nat), ∀ (v16 : (List Int)) (v17 : Int) (v18 : Int) (sv16 : SV) (Fr : Rd) (M : Mem) (r : Bool) (hv16 : Slc Fr 1 (FlatR enc5) sv16 v16) (hH : Has Fr M []), num_IsName_2 F N v16 v17 v18 = some r → Run Tryd.prog ⟨⟨70, [], none⟩, []⟩ 50 (num_IsName_post r) [(16, sv16), (17, (.int .i64 v17)), (18, (.int .i64 v18))] [codeC Tryd.prog 70 [1, 1, 0, 1, 0, 0], loopC Tryd.prog 70 [1, 1, 0, 1, 0, 0], .inBlock 0, codeC Tryd.prog 70 [1, 1, 1]] M := by
  intro N
  induction N with
  | zero =>
    intro v16 v17 v18 sv16 Fr M r hv16 hH h
    simp [num_IsName_2] at h
  | succ N ih =>
    intro v16 v17 v18 sv16 Fr M r hv16 hH h
    rw [num_IsName_2] at h
    refine Run.seq (Run.region ?_)
    refine Run.opG wantS_none (ex_lss rfl rfl) rfl ?_
    refine Run.opsEnd (Run.seq ?_)
    rcases btf ((decide (v18 < v17))) with hc28 | hc28
    · have h := bif_t hc28 h
      refine Run.condT' rfl hc28 ?_
      refine Run.skip (Run.seq (Run.block (Run.seq (Run.region ?_))))
      refine Run.opG wantS_none (ex_move rfl) rfl ?_
      obtain ⟨x30, hx30, h⟩ := bnd_some h
      obtain ⟨p30, o30, _, hx30, hp30, rfl⟩ := sl_elem (P := Tryd.prog) (t := 108) (kk := .i64) hv16 hx30 els108
      refine Run.opG wantS_none (ex_elX rfl rfl hx30) rfl ?_
      refine Run.opG wantS_none (ex_load1 rfl (hH.ptrF hp30) rdLe_rfl agg5) rfl ?_
      refine Run.opG wantS_none (ex_assign rfl) rfl ?_
      refine Run.opG wantS_none (ex_assign rfl) rfl ?_
      refine Run.opsEnd (Run.seq (Run.region ?_))
      refine Run.opG wantS_none (ex_move rfl) rfl ?_
      refine Run.opG wantS_none (ex_geq rfl rfl) rfl ?_
      refine Run.opG wantS_none (ex_move rfl) rfl ?_
      rcases btf ((decide ((97 : Int) ≤ x30))) with hc31 | hc31
      · have h := bif_t hc31 h
        refine Run.opG (wantS_yes' rfl rfl hc31) (ex_move rfl) rfl ?_
        refine Run.opG (wantS_yes' rfl rfl hc31) (ex_leq rfl rfl) rfl ?_
        refine Run.opG wantS_none (ex_pickT' rfl hc31 rfl rfl) rfl ?_
        exact Run.pick [3, 4, 16, 17, 18, 28] (num_IsName_3_ok F (num_IsName_2 F N) ih v18 x30 v16 v17 v18 (decide (x30 ≤ (122 : Int))) sv16 _ _ _ hv16 hH h)
      · have h := bif_f hc31 h
        refine Run.no (wantS_not' rfl rfl hc31) rfl ?_
        refine Run.no (wantS_not' rfl rfl hc31) rfl ?_
        refine Run.opG wantS_none (ex_pickF' rfl hc31 rfl rfl) rfl ?_
        exact Run.pick [3, 4, 16, 17, 18, 28] (num_IsName_3_ok F (num_IsName_2 F N) ih v18 x30 v16 v17 v18 false sv16 _ _ _ hv16 hH h)
    · have h := bif_f hc28 h
      refine Run.condF' rfl hc28 ?_
      refine Run.exit rfl (Run.seq (Run.region ?_))
      refine Run.opG wantS_none (ex_assign rfl) rfl ?_
      refine Run.opsEnd ?_
      cases h
      exact Run.ret Tryd.func70 rfl (res_tmp rfl res_nil) rfl

def num_IsName_1 (F : Nat) (v0 : (List UInt8)) (v14 : Bool) : Option (Bool) :=
  bif v14 then
    some false
  else
    bnd (byt v0) fun l24 =>
    num_IsName_2 F F l24 (l24.length : Int) (0 : Int)

theorem num_IsName_1_ok (F : Nat) : ∀ (v0 : (List UInt8)) (v14 : Bool) (Fr : Rd) (M : Mem) (r : Bool) (hH : Has Fr M []), num_IsName_1 F v0 v14 = some r → Run Tryd.prog ⟨⟨70, [], none⟩, []⟩ 50 (num_IsName_post r) [(0, (.str v0)), (14, (.bool v14))] [codeC Tryd.prog 70 [1, 0, 1], codeC Tryd.prog 70 [1, 1]] M := by
  intro v0 v14 Fr M r hH h
  rw [num_IsName_1] at h
  rcases btf (v14) with hc22 | hc22
  · have h := bif_t hc22 h
    refine Run.condT' rfl hc22 ?_
    refine Run.seq (Run.region ?_)
    refine Run.opG wantS_none (ex_assign rfl) rfl ?_
    refine Run.opsEnd ?_
    cases h
    exact Run.ret Tryd.func70 rfl (res_tmp rfl res_nil) rfl
  · have h := bif_f hc22 h
    refine Run.condF' rfl hc22 ?_
    refine Run.skip (Run.seq (Run.seq (Run.region ?_)))
    refine Run.opG wantS_none (ex_move rfl) rfl ?_
    obtain ⟨l24, hl24, h⟩ := bnd_some h
    refine Run.opX wantS_none rfl (ExG.bytes rfl uvk9_108 cvk9_108 hl24 hH) ?_
    rintro _ M25 ⟨b25, rfl, (hH25 : Has Fr M25 [.obj b25 (.row 5 .mark (bytesS v0))])⟩
    refine Run.freezeB (t := 16) (i := 0) (enc := enc5) (fun _ => rfl) hl24 rfl hH25 rfl ?_
    intro F26 M26 hle26 (hH26 : Has F26 M26 [.vec 0 0 0 .nils []]) hf26
    refine Run.opG wantS_none (ex_len' rfl hf26 lenk108) rfl ?_
    refine Run.opG wantS_none (ex_move rfl) rfl ?_
    refine Run.opsEnd (Run.block (Run.loop ?_))
    exact Run.pick [16, 17, 18] (num_IsName_2_ok F F l24 (l24.length : Int) (0 : Int) (.ope b25 0 l24.length 1) _ _ _ hf26 (hH26.pick [] rfl rfl) h)

def num_IsName (F : Nat) (a0 : (List UInt8)) : Option (Bool) :=
  bif ((a0.length : Int) == (0 : Int)) then
    num_IsName_1 F a0 true
  else
    num_IsName_1 F a0 (decide ((16 : Int) < (a0.length : Int)))

theorem num_IsName_ok (F : Nat) (a0 : (List UInt8)) (r : Bool) (M : Mem) (h : num_IsName F a0 = some r) : CallsM Tryd.prog 70 [(.str a0)] M (fun s M' => s = (.bool r) ∧ M' = M) := by
  refine CallsM.plain Tryd.func70 rfl rfl rfl (show Run _ _ _ (num_IsName_post r) _ _ _ from ?_)
  rw [num_IsName] at h
  have hH := Has.nil (frozen M)
  refine Run.seq (Run.region ?_)
  refine Run.opG wantS_none (ex_assign rfl) rfl ?_
  refine Run.opsEnd (Run.seq (Run.seq (Run.region ?_)))
  refine Run.opG wantS_none (ex_move rfl) rfl ?_
  refine Run.opG wantS_none (ex_lenS rfl lenk9) rfl ?_
  refine Run.opG wantS_none (ex_eql rfl rfl) rfl ?_
  refine Run.opG wantS_none (ex_move rfl) rfl ?_
  rcases btf (((a0.length : Int) == (0 : Int))) with hc21 | hc21
  · have h := bif_t hc21 h
    refine Run.no (wantS_not' rfl rfl hc21) rfl ?_
    refine Run.no (wantS_not' rfl rfl hc21) rfl ?_
    refine Run.no (wantS_not' rfl rfl hc21) rfl ?_
    refine Run.opG wantS_none (ex_pickT' rfl hc21 rfl rfl) rfl ?_
    refine Run.opsEnd ?_
    exact Run.pick [0, 14] (num_IsName_1_ok F a0 true _ _ _ hH h)
  · have h := bif_f hc21 h
    refine Run.opG (wantS_yes' rfl rfl hc21) (ex_move rfl) rfl ?_
    refine Run.opG (wantS_yes' rfl rfl hc21) (ex_lenS rfl lenk9) rfl ?_
    refine Run.opG (wantS_yes' rfl rfl hc21) (ex_gtr rfl rfl) rfl ?_
    refine Run.opG wantS_none (ex_pickF' rfl hc21 rfl rfl) rfl ?_
    refine Run.opsEnd ?_
    exact Run.pick [0, 14] (num_IsName_1_ok F a0 (decide ((16 : Int) < (a0.length : Int))) _ _ _ hH h)

theorem mkk70 : makeK Tryd.prog 70 = none := by kernel_rfl
theorem cal70 : callable Tryd.prog 70 = true := by kernel_rfl
theorem off29_1 : fieldOff Tryd.prog 29 1 = some 1 := by kernel_rfl
theorem off29_2 : fieldOff Tryd.prog 29 2 = some 2 := by kernel_rfl
theorem off29_3 : fieldOff Tryd.prog 29 3 = some 3 := by kernel_rfl
theorem agg26 : aggSize Tryd.prog 26 = some (some 2) := by kernel_rfl
theorem off26_0 : fieldOff Tryd.prog 26 0 = some 0 := by kernel_rfl
theorem off26_1 : fieldOff Tryd.prog 26 1 = some 1 := by kernel_rfl
abbrev alert_isChance_post (r : Bool) : SV → Mem → Prop := fun s _ => s = (.bool r)

def alert_isChance_1 (F : Nat) (v12 : Bool) : Option (Bool) :=
  some v12

theorem alert_isChance_1_ok (F : Nat) : ∀ (v12 : Bool) (Fr : Rd) (M : Mem) (r : Bool) (hH : Has Fr M []), alert_isChance_1 F v12 = some r → Run Tryd.prog ⟨⟨71, [], none⟩, []⟩ 13 (alert_isChance_post r) [(12, (.bool v12))] [itemC Tryd.prog 71 [1, 0] 10, codeC Tryd.prog 71 [1, 1]] M := by
  intro v12 Fr M r hH h
  rw [alert_isChance_1] at h
  refine Run.opG wantS_none (ex_assign rfl) rfl ?_
  refine Run.opsEnd ?_
  cases h
  exact Run.ret Tryd.func71 rfl (res_tmp rfl res_nil) rfl

def alert_isChance (F : Nat) (a0 : S_api_Chance) : Option (Bool) :=
  bnd (alert_isFrom F (1 : Int) a0.N a0.Of) fun r25 =>
  bif r25 then
    alert_isChance_1 F (decide (a0.Of ≤ (256 : Int)))
  else
    alert_isChance_1 F false

theorem alert_isChance_ok (F : Nat) (a0 : S_api_Chance) (r : Bool) (M : Mem) (h : alert_isChance F a0 = some r) : CallsM Tryd.prog 71 [(.agg [(.int .i64 a0.N), (.int .i64 a0.Of)])] M (fun s M' => s = (.bool r) ∧ M' = M) := by
  refine CallsM.plain Tryd.func71 rfl rfl rfl (show Run _ _ _ (alert_isChance_post r) _ _ _ from ?_)
  rw [alert_isChance] at h
  have hH := Has.nil (frozen M)
  refine Run.seq (Run.region ?_)
  refine Run.opX wantS_none rfl (ExG.box rfl rfl hH) ?_
  rintro _ M23 ⟨b22, rfl, (hH23 : Has (ro (frozen M)) M23 [.obj b22 (.row 26 .whole [(.int .i64 a0.N), (.int .i64 a0.Of)])])⟩
  refine Run.opG wantS_none (ex_assign rfl) rfl ?_
  refine Run.opsEnd (Run.seq (Run.region ?_))
  refine Run.opG wantS_none (ex_fieldAddr rfl off26_0) rfl ?_
  refine Run.opG wantS_none (ex_load1 rfl (hH23.cells (i := 0) rfl 0 rfl) rdLe_rfl agg3) rfl ?_
  refine Run.opG wantS_none (ex_fieldAddr rfl off26_1) rfl ?_
  refine Run.opG wantS_none (ex_load1 rfl (hH23.cells (i := 0) rfl 1 rfl) rdLe_rfl agg3) rfl ?_
  obtain ⟨r25, hr25, h⟩ := bnd_some h
  refine Run.callP wantS_none (ex_call rfl mkk36 cal36) rfl (alert_isFrom_ok F (1 : Int) a0.N a0.Of _ _ hr25) ?_
  refine Run.opG wantS_none (ex_move rfl) rfl ?_
  rcases btf (r25) with hc27 | hc27
  · have h := bif_t hc27 h
    refine Run.opG (wantS_yes' rfl rfl hc27) (ex_fieldAddr rfl off26_1) rfl ?_
    refine Run.opG (wantS_yes' rfl rfl hc27) (ex_load1 rfl (hH23.cells (i := 0) rfl 1 rfl) rdLe_rfl agg3) rfl ?_
    refine Run.opG (wantS_yes' rfl rfl hc27) (ex_leq rfl rfl) rfl ?_
    refine Run.opG wantS_none (ex_pickT' rfl hc27 rfl rfl) rfl ?_
    exact Run.pick [12] (alert_isChance_1_ok F (decide (a0.Of ≤ (256 : Int))) _ _ _ (hH23.pick [] rfl rfl) h)
  · have h := bif_f hc27 h
    refine Run.no (wantS_not' rfl rfl hc27) rfl ?_
    refine Run.no (wantS_not' rfl rfl hc27) rfl ?_
    refine Run.no (wantS_not' rfl rfl hc27) rfl ?_
    refine Run.opG wantS_none (ex_pickF' rfl hc27 rfl rfl) rfl ?_
    exact Run.pick [12] (alert_isChance_1_ok F false _ _ _ (hH23.pick [] rfl rfl) h)

theorem mkk71 : makeK Tryd.prog 71 = none := by kernel_rfl
theorem cal71 : callable Tryd.prog 71 = true := by kernel_rfl
theorem off29_4 : fieldOff Tryd.prog 29 4 = some 5 := by kernel_rfl
abbrev sky_isFrom_post (r : Bool) : SV → Mem → Prop := fun s _ => s = (.bool r)

def sky_isFrom_1 (F : Nat) (v14 : Bool) : Option (Bool) :=
  some v14

theorem sky_isFrom_1_ok (F : Nat) : ∀ (v14 : Bool) (Fr : Rd) (M : Mem) (r : Bool) (hH : Has Fr M []), sky_isFrom_1 F v14 = some r → Run Tryd.prog ⟨⟨107, [], none⟩, []⟩ 15 (sky_isFrom_post r) [(14, (.bool v14))] [itemC Tryd.prog 107 [1, 0] 8, codeC Tryd.prog 107 [1, 1]] M := by
  intro v14 Fr M r hH h
  rw [sky_isFrom_1] at h
  refine Run.opG wantS_none (ex_assign rfl) rfl ?_
  refine Run.opsEnd ?_
  cases h
  exact Run.ret Tryd.func107 rfl (res_tmp rfl res_nil) rfl

def sky_isFrom (F : Nat) (a0 : Int) (a1 : Int) (a2 : Int) : Option (Bool) :=
  bif (decide (a0 ≤ a1)) then
    sky_isFrom_1 F (decide (a1 ≤ a2))
  else
    sky_isFrom_1 F false

theorem sky_isFrom_ok (F : Nat) (a0 : Int) (a1 : Int) (a2 : Int) (r : Bool) (M : Mem) (h : sky_isFrom F a0 a1 a2 = some r) : CallsM Tryd.prog 107 [(.int .i64 a0), (.int .i64 a1), (.int .i64 a2)] M (fun s M' => s = (.bool r) ∧ M' = M) := by
  refine CallsM.plain Tryd.func107 rfl rfl rfl (show Run _ _ _ (sky_isFrom_post r) _ _ _ from ?_)
  rw [sky_isFrom] at h
  have hH := Has.nil (frozen M)
  refine Run.seq (Run.region ?_)
  refine Run.opG wantS_none (ex_assign rfl) rfl ?_
  refine Run.opsEnd (Run.seq (Run.region ?_))
  refine Run.opG wantS_none (ex_move rfl) rfl ?_
  refine Run.opG wantS_none (ex_move rfl) rfl ?_
  refine Run.opG wantS_none (ex_leq rfl rfl) rfl ?_
  refine Run.opG wantS_none (ex_move rfl) rfl ?_
  rcases btf ((decide (a0 ≤ a1))) with hc21 | hc21
  · have h := bif_t hc21 h
    refine Run.opG (wantS_yes' rfl rfl hc21) (ex_move rfl) rfl ?_
    refine Run.opG (wantS_yes' rfl rfl hc21) (ex_move rfl) rfl ?_
    refine Run.opG (wantS_yes' rfl rfl hc21) (ex_leq rfl rfl) rfl ?_
    refine Run.opG wantS_none (ex_pickT' rfl hc21 rfl rfl) rfl ?_
    exact Run.pick [14] (sky_isFrom_1_ok F (decide (a1 ≤ a2)) _ _ _ hH h)
  · have h := bif_f hc21 h
    refine Run.no (wantS_not' rfl rfl hc21) rfl ?_
    refine Run.no (wantS_not' rfl rfl hc21) rfl ?_
    refine Run.no (wantS_not' rfl rfl hc21) rfl ?_
    refine Run.opG wantS_none (ex_pickF' rfl hc21 rfl rfl) rfl ?_
    exact Run.pick [14] (sky_isFrom_1_ok F false _ _ _ hH h)

theorem mkk107 : makeK Tryd.prog 107 = none := by kernel_rfl
theorem cal107 : callable Tryd.prog 107 = true := by kernel_rfl
abbrev sky_grid_isValid_post (r : Bool) : SV → Mem → Prop := fun s _ => s = (.bool r)

def sky_grid_isValid (F : Nat) (a0 : Int) : Option (Bool) :=
  bnd (sky_isFrom F (1 : Int) a0 (8 : Int)) fun r22 =>
  some r22

theorem sky_grid_isValid_ok (F : Nat) (a0 : Int) (r : Bool) (M : Mem) (h : sky_grid_isValid F a0 = some r) : CallsM Tryd.prog 103 [(.int .i64 a0)] M (fun s M' => s = (.bool r) ∧ M' = M) := by
  refine CallsM.plain Tryd.func103 rfl rfl rfl (show Run _ _ _ (sky_grid_isValid_post r) _ _ _ from ?_)
  rw [sky_grid_isValid] at h
  have hH := Has.nil (frozen M)
  refine Run.seq (Run.region ?_)
  refine Run.opG wantS_none (ex_assign rfl) rfl ?_
  refine Run.opsEnd (Run.seq (Run.region ?_))
  refine Run.opG wantS_none (ex_move rfl) rfl ?_
  obtain ⟨r22, hr22, h⟩ := bnd_some h
  refine Run.callP wantS_none (ex_call rfl mkk107 cal107) rfl (sky_isFrom_ok F (1 : Int) a0 (8 : Int) _ _ hr22) ?_
  refine Run.opG wantS_none (ex_assign rfl) rfl ?_
  refine Run.opsEnd ?_
  cases h
  exact Run.ret Tryd.func103 rfl (res_tmp rfl res_nil) rfl

theorem mkk103 : makeK Tryd.prog 103 = none := by kernel_rfl
theorem cal103 : callable Tryd.prog 103 = true := by kernel_rfl
abbrev sky_checkGrid_post (r : Int) : SV → Mem → Prop := fun s _ => s = (.int .i64 r)

def sky_checkGrid (F : Nat) (a0 : Int) : Option (Int) :=
  bnd (sky_grid_isValid F a0) fun r22 =>
  bif (!r22) then
    some (91 : Int)
  else
    some (0 : Int)

theorem sky_checkGrid_ok (F : Nat) (a0 : Int) (r : Int) (M : Mem) (h : sky_checkGrid F a0 = some r) : CallsM Tryd.prog 99 [(.int .i64 a0)] M (fun s M' => s = (.int .i64 r) ∧ M' = M) := by
  refine CallsM.plain Tryd.func99 rfl rfl rfl (show Run _ _ _ (sky_checkGrid_post r) _ _ _ from ?_)
  rw [sky_checkGrid] at h
  have hH := Has.nil (frozen M)
  refine Run.seq (Run.region ?_)
  refine Run.opG wantS_none (ex_assign rfl) rfl ?_
  refine Run.opsEnd (Run.seq (Run.seq (Run.region ?_)))
  refine Run.opG wantS_none (ex_move rfl) rfl ?_
  obtain ⟨r22, hr22, h⟩ := bnd_some h
  refine Run.callP wantS_none (ex_call rfl mkk103 cal103) rfl (sky_grid_isValid_ok F a0 _ _ hr22) ?_
  refine Run.opG wantS_none (ex_not rfl) rfl ?_
  refine Run.opsEnd ?_
  rcases btf ((!r22)) with hc24 | hc24
  · have h := bif_t hc24 h
    refine Run.condT' rfl hc24 ?_
    refine Run.seq (Run.region ?_)
    refine Run.opG wantS_none (ex_assign rfl) rfl ?_
    refine Run.opsEnd ?_
    cases h
    exact Run.ret Tryd.func99 rfl (res_tmp rfl res_nil) rfl
  · have h := bif_f hc24 h
    refine Run.condF' rfl hc24 ?_
    refine Run.skip (Run.seq (Run.region ?_))
    refine Run.opG wantS_none (ex_assign rfl) rfl ?_
    refine Run.opsEnd ?_
    cases h
    exact Run.ret Tryd.func99 rfl (res_tmp rfl res_nil) rfl

theorem mkk99 : makeK Tryd.prog 99 = none := by kernel_rfl
theorem cal99 : callable Tryd.prog 99 = true := by kernel_rfl
abbrev sky_grid_cells_post (r : Int) : SV → Mem → Prop := fun s _ => s = (.int .i64 r)

def sky_grid_cells (F : Nat) (a0 : Int) : Option (Int) :=
  some (w64 ((6 : Int) * (w64 (a0 * a0))))

theorem sky_grid_cells_ok (F : Nat) (a0 : Int) (r : Int) (M : Mem) (h : sky_grid_cells F a0 = some r) : CallsM Tryd.prog 100 [(.int .i64 a0)] M (fun s M' => s = (.int .i64 r) ∧ M' = M) := by
  refine CallsM.plain Tryd.func100 rfl rfl rfl (show Run _ _ _ (sky_grid_cells_post r) _ _ _ from ?_)
  rw [sky_grid_cells] at h
  have hH := Has.nil (frozen M)
  refine Run.seq (Run.region ?_)
  refine Run.opG wantS_none (ex_assign rfl) rfl ?_
  refine Run.opsEnd (Run.seq (Run.region ?_))
  refine Run.opG wantS_none (ex_move rfl) rfl ?_
  refine Run.opG wantS_none (ex_move rfl) rfl ?_
  refine Run.opG wantS_none (ex_mul rfl rfl) rfl ?_
  refine Run.opG wantS_none (ex_mul rfl rfl) rfl ?_
  refine Run.opG wantS_none (ex_assign rfl) rfl ?_
  refine Run.opsEnd ?_
  cases h
  exact Run.ret Tryd.func100 rfl (res_tmp rfl res_nil) rfl

theorem mkk100 : makeK Tryd.prog 100 = none := by kernel_rfl
theorem cal100 : callable Tryd.prog 100 = true := by kernel_rfl
abbrev sky_Cells_post (r : Int × Int) : SV → Mem → Prop := fun s _ => s = (.tuple [(.int .i64 r.1), (.int .i64 r.2)])

def sky_Cells (F : Nat) (a0 : Int) : Option (Int × Int) :=
  bnd (sky_checkGrid F a0) fun r22 =>
  bif (!(r22 == (0 : Int))) then
    some ((0 : Int), r22)
  else
    bnd (sky_grid_cells F a0) fun r26 =>
    some (r26, (0 : Int))

theorem sky_Cells_ok (F : Nat) (a0 : Int) (r : Int × Int) (M : Mem) (h : sky_Cells F a0 = some r) : CallsM Tryd.prog 85 [(.int .i64 a0)] M (fun s M' => s = (.tuple [(.int .i64 r.1), (.int .i64 r.2)]) ∧ M' = M) := by
  refine CallsM.plain Tryd.func85 rfl rfl rfl (show Run _ _ _ (sky_Cells_post r) _ _ _ from ?_)
  rw [sky_Cells] at h
  have hH := Has.nil (frozen M)
  refine Run.seq (Run.region ?_)
  refine Run.opG wantS_none (ex_assign rfl) rfl ?_
  refine Run.opG wantS_none (ex_assign rfl) rfl ?_
  refine Run.opsEnd (Run.seq (Run.seq (Run.region ?_)))
  refine Run.opG wantS_none (ex_move rfl) rfl ?_
  obtain ⟨r22, hr22, h⟩ := bnd_some h
  refine Run.callP wantS_none (ex_call rfl mkk99 cal99) rfl (sky_checkGrid_ok F a0 _ _ hr22) ?_
  refine Run.opG wantS_none (ex_assign rfl) rfl ?_
  refine Run.opsEnd (Run.seq (Run.region ?_))
  refine Run.opG wantS_none (ex_move rfl) rfl ?_
  refine Run.opG wantS_none (ex_neq rfl rfl) rfl ?_
  refine Run.opsEnd ?_
  rcases btf ((!(r22 == (0 : Int)))) with hc24 | hc24
  · have h := bif_t hc24 h
    refine Run.condT' rfl hc24 ?_
    refine Run.seq (Run.region ?_)
    refine Run.opG wantS_none (ex_move rfl) rfl ?_
    refine Run.opG wantS_none (ex_assign rfl) rfl ?_
    refine Run.opG wantS_none (ex_assign rfl) rfl ?_
    refine Run.opsEnd ?_
    cases h
    exact Run.ret Tryd.func85 rfl (res_tmp rfl (res_tmp rfl res_nil)) rfl
  · have h := bif_f hc24 h
    refine Run.condF' rfl hc24 ?_
    refine Run.skip (Run.seq (Run.region ?_))
    refine Run.opG wantS_none (ex_move rfl) rfl ?_
    obtain ⟨r26, hr26, h⟩ := bnd_some h
    refine Run.callP wantS_none (ex_call rfl mkk100 cal100) rfl (sky_grid_cells_ok F a0 _ _ hr26) ?_
    refine Run.opG wantS_none (ex_assign rfl) rfl ?_
    refine Run.opG wantS_none (ex_assign rfl) rfl ?_
    refine Run.opsEnd ?_
    cases h
    exact Run.ret Tryd.func85 rfl (res_tmp rfl (res_tmp rfl res_nil)) rfl

theorem mkk85 : makeK Tryd.prog 85 = none := by kernel_rfl
theorem cal85 : callable Tryd.prog 85 = true := by kernel_rfl
theorem off29_5 : fieldOff Tryd.prog 29 5 = some 6 := by kernel_rfl
theorem agg27 : aggSize Tryd.prog 27 = some none := by kernel_rfl
theorem lenk27 : lenK Tryd.prog 27 = some .sl := by kernel_rfl
theorem els27 : elems Tryd.prog 27 = some (.sl 1) := by kernel_rfl
abbrev alert_areCells_post (r : Bool) : SV → Mem → Prop := fun s _ => s = (.bool r)

def alert_areCells_1 (F : Nat) : Nat → Int → Int → (List Int) → Int → Int → Option (Bool)
  | 0, _, _, _, _, _ => none
  | N + 1, v0, v5, v8, v9, v10 =>
    bif (decide (v10 < v9)) then
      bnd (idx v8 v10) fun x23 =>
      bnd (alert_isFrom F (w64 (v5 + (1 : Int))) x23 (w64 (v0 - (1 : Int)))) fun r25 =>
      bif (!r25) then
        some false
      else
        (alert_areCells_1 F N) v0 x23 v8 v9 (w64 (v10 + (1 : Int)))
    else
      some true

theorem alert_areCells_1_ok (F : Nat) : ∀ (N : Nat), ∀ (v0 : Int) (v5 : Int) (v8 : (List Int)) (v9 : Int) (v10 : Int) (sv8 : SV) (Fr : Rd) (M : Mem) (r : Bool) (hv8 : Slc Fr 1 (FlatR enc3) sv8 v8) (hH : Has Fr M []), alert_areCells_1 F N v0 v5 v8 v9 v10 = some r → Run Tryd.prog ⟨⟨86, [], none⟩, []⟩ 23 (alert_areCells_post r) [(0, (.int .i64 v0)), (5, (.int .i64 v5)), (8, sv8), (9, (.int .i64 v9)), (10, (.int .i64 v10))] [codeC Tryd.prog 86 [1, 1, 0, 1, 0, 0], loopC Tryd.prog 86 [1, 1, 0, 1, 0, 0], .inBlock 0, codeC Tryd.prog 86 [1, 1, 1]] M := by
  intro N
  induction N with
  | zero =>
    intro v0 v5 v8 v9 v10 sv8 Fr M r hv8 hH h
    simp [alert_areCells_1] at h
  | succ N ih =>
    intro v0 v5 v8 v9 v10 sv8 Fr M r hv8 hH h
    rw [alert_areCells_1] at h
    refine Run.seq (Run.region ?_)
    refine Run.opG wantS_none (ex_lss rfl rfl) rfl ?_
    refine Run.opsEnd (Run.seq ?_)
    rcases btf ((decide (v10 < v9))) with hc21 | hc21
    · have h := bif_t hc21 h
      refine Run.condT' rfl hc21 ?_
      refine Run.skip (Run.seq (Run.block (Run.seq (Run.region ?_))))
      obtain ⟨x23, hx23, h⟩ := bnd_some h
      obtain ⟨p23, o23, _, hx23, hp23, rfl⟩ := sl_elem (P := Tryd.prog) (t := 27) (kk := .i64) hv8 hx23 els27
      refine Run.opG wantS_none (ex_elX rfl rfl hx23) rfl ?_
      refine Run.opG wantS_none (ex_load1 rfl (hH.ptrF hp23) rdLe_rfl agg3) rfl ?_
      refine Run.opG wantS_none (ex_assign rfl) rfl ?_
      refine Run.opsEnd (Run.seq (Run.seq (Run.region ?_)))
      refine Run.opG wantS_none (ex_move rfl) rfl ?_
      refine Run.opG wantS_none (ex_add rfl rfl) rfl ?_
      refine Run.opG wantS_none (ex_move rfl) rfl ?_
      refine Run.opG wantS_none (ex_move rfl) rfl ?_
      refine Run.opG wantS_none (ex_sub rfl rfl) rfl ?_
      obtain ⟨r25, hr25, h⟩ := bnd_some h
      refine Run.callP wantS_none (ex_call rfl mkk36 cal36) rfl (alert_isFrom_ok F (w64 (v5 + (1 : Int))) x23 (w64 (v0 - (1 : Int))) _ _ hr25) ?_
      refine Run.opG wantS_none (ex_not rfl) rfl ?_
      refine Run.opsEnd ?_
      rcases btf ((!r25)) with hc27 | hc27
      · have h := bif_t hc27 h
        refine Run.condT' rfl hc27 ?_
        refine Run.seq (Run.region ?_)
        refine Run.opG wantS_none (ex_assign rfl) rfl ?_
        refine Run.opsEnd ?_
        cases h
        exact Run.ret Tryd.func86 rfl (res_tmp rfl res_nil) rfl
      · have h := bif_f hc27 h
        refine Run.condF' rfl hc27 ?_
        refine Run.skip (Run.region ?_)
        refine Run.opG wantS_none (ex_move rfl) rfl ?_
        refine Run.opG wantS_none (ex_assign rfl) rfl ?_
        refine Run.opsEnd (Run.inBlock (Run.region ?_))
        refine Run.opG wantS_none (ex_add rfl rfl) rfl ?_
        refine Run.opG wantS_none (ex_move rfl) rfl ?_
        refine Run.opsEnd (Run.inLoop ?_)
        exact Run.pick [0, 5, 8, 9, 10] (ih v0 x23 v8 v9 (w64 (v10 + (1 : Int))) sv8 _ _ _ hv8 hH h)
    · have h := bif_f hc21 h
      refine Run.condF' rfl hc21 ?_
      refine Run.exit rfl (Run.seq (Run.region ?_))
      refine Run.opG wantS_none (ex_assign rfl) rfl ?_
      refine Run.opsEnd ?_
      cases h
      exact Run.ret Tryd.func86 rfl (res_tmp rfl res_nil) rfl

def alert_areCells (F : Nat) (a0 : Int) (a1 : (List Int)) : Option (Bool) :=
  alert_areCells_1 F F a0 ((-1) : Int) a1 (a1.length : Int) (0 : Int)

theorem alert_areCells_ok (F : Nat) (a0 : Int) (a1 : (List Int)) (s0 : SV) (r : Bool) (M : Mem) (hs0 : Slc (rd M) 1 (FlatR enc3) s0 a1) (h : alert_areCells F a0 a1 = some r) : CallsM Tryd.prog 86 [(.int .i64 a0), s0] M (fun s M' => s = (.bool r) ∧ M' = M) := by
  refine CallsM.plain Tryd.func86 rfl rfl rfl (show Run _ _ _ (alert_areCells_post r) _ _ _ from ?_)
  rw [alert_areCells] at h
  replace hs0 := hs0.mono (rdLe_frozen M) (fun _ _ h => h)
  have hH := Has.nil (frozen M)
  refine Run.seq (Run.region ?_)
  refine Run.opG wantS_none (ex_assign rfl) rfl ?_
  refine Run.opsEnd (Run.seq (Run.region ?_))
  refine Run.opG wantS_none (ex_assign rfl) rfl ?_
  refine Run.opsEnd (Run.seq (Run.seq (Run.region ?_)))
  refine Run.opG wantS_none (ex_move rfl) rfl ?_
  refine Run.opG wantS_none (ex_len' rfl hs0 lenk27) rfl ?_
  refine Run.opG wantS_none (ex_move rfl) rfl ?_
  refine Run.opsEnd (Run.block (Run.loop ?_))
  exact Run.pick [0, 5, 8, 9, 10] (alert_areCells_1_ok F F a0 ((-1) : Int) a1 (a1.length : Int) (0 : Int) s0 _ _ _ hs0 hH h)

theorem mkk86 : makeK Tryd.prog 86 = none := by kernel_rfl
theorem cal86 : callable Tryd.prog 86 = true := by kernel_rfl
theorem off29_6 : fieldOff Tryd.prog 29 6 = some 7 := by kernel_rfl
theorem agg4 : aggSize Tryd.prog 4 = some none := by kernel_rfl
theorem eqk4 : eqK Tryd.prog 4 = some .bool := by kernel_rfl
abbrev alert_isPlaced_post (r : Bool) : SV → Mem → Prop := fun s _ => s = (.bool r)

def alert_isPlaced_2 (F : Nat) (v27 : Bool) : Option (Bool) :=
  some v27

theorem alert_isPlaced_2_ok (F : Nat) : ∀ (v27 : Bool) (Fr : Rd) (M : Mem) (r : Bool) (hH : Has Fr M []), alert_isPlaced_2 F v27 = some r → Run Tryd.prog ⟨⟨72, [], none⟩, []⟩ 28 (alert_isPlaced_post r) [(27, (.bool v27))] [itemC Tryd.prog 72 [1, 1, 0] 17, codeC Tryd.prog 72 [1, 1, 1]] M := by
  intro v27 Fr M r hH h
  rw [alert_isPlaced_2] at h
  refine Run.opG wantS_none (ex_assign rfl) rfl ?_
  refine Run.opsEnd ?_
  cases h
  exact Run.ret Tryd.func72 rfl (res_tmp rfl res_nil) rfl

def alert_isPlaced_1 (F : Nat) (v18 : Bool) (c22_0 : (List UInt8)) (c22_1 : Int) (c22_2 : Int) (c22_3 : Int) (c22_4 : Int) (c22_5 : Int) (c22_6 : (List Int)) (c22_7 : Bool) (c22_8 : Int) : Option (Bool) :=
  bif v18 then
    alert_isPlaced_2 F (c22_7 == ((c22_6.length : Int) == (0 : Int)))
  else
    alert_isPlaced_2 F false

theorem alert_isPlaced_1_ok (F : Nat) : ∀ (v18 : Bool) (c22_0 : (List UInt8)) (c22_1 : Int) (c22_2 : Int) (c22_3 : Int) (c22_4 : Int) (c22_5 : Int) (c22_6 : (List Int)) (c22_7 : Bool) (c22_8 : Int) (sc22_6 : SV) (b22 : Pos) (Fr : Rd) (M : Mem) (r : Bool) (hc22_6 : Slc Fr 1 (FlatR enc3) sc22_6 c22_6) (hH : Has Fr M [.obj b22 (.row 29 .whole [(.str c22_0), (.int .i64 c22_1), (.int .i64 c22_2), (.int .i64 c22_3), (.int .i64 c22_4), (.int .i64 c22_5), sc22_6, (.bool c22_7), (.int .i64 c22_8)])]), alert_isPlaced_1 F v18 c22_0 c22_1 c22_2 c22_3 c22_4 c22_5 c22_6 c22_7 c22_8 = some r → Run Tryd.prog ⟨⟨72, [], none⟩, []⟩ 28 (alert_isPlaced_post r) [(1, (.ptr b22 0)), (18, (.bool v18))] [itemC Tryd.prog 72 [1, 1, 0] 8, codeC Tryd.prog 72 [1, 1, 1]] M := by
  intro v18 c22_0 c22_1 c22_2 c22_3 c22_4 c22_5 c22_6 c22_7 c22_8 sc22_6 b22 Fr M r hc22_6 hH h
  rw [alert_isPlaced_1] at h
  refine Run.opG wantS_none (ex_move rfl) rfl ?_
  rcases btf (v18) with hc31 | hc31
  · have h := bif_t hc31 h
    refine Run.opG (wantS_yes' rfl rfl hc31) (ex_fieldAddr rfl off29_6) rfl ?_
    refine Run.opG (wantS_yes' rfl rfl hc31) (ex_load1 rfl (hH.cells (i := 0) rfl 7 rfl) rdLe_rfl agg4) rfl ?_
    refine Run.opG (wantS_yes' rfl rfl hc31) (ex_fieldAddr rfl off29_5) rfl ?_
    refine Run.opG (wantS_yes' rfl rfl hc31) (ex_load1 rfl (hH.cells (i := 0) rfl 6 rfl) rdLe_rfl agg27) rfl ?_
    refine Run.opG (wantS_yes' rfl rfl hc31) (ex_len' rfl hc22_6 lenk27) rfl ?_
    refine Run.opG (wantS_yes' rfl rfl hc31) (ex_eql rfl rfl) rfl ?_
    refine Run.opG (wantS_yes' rfl rfl hc31) (ex_eqlB rfl rfl eqk4) rfl ?_
    refine Run.opG wantS_none (ex_pickT' rfl hc31 rfl rfl) rfl ?_
    exact Run.pick [27] (alert_isPlaced_2_ok F (c22_7 == ((c22_6.length : Int) == (0 : Int))) _ _ _ (hH.pick [] rfl rfl) h)
  · have h := bif_f hc31 h
    refine Run.no (wantS_not' rfl rfl hc31) rfl ?_
    refine Run.no (wantS_not' rfl rfl hc31) rfl ?_
    refine Run.no (wantS_not' rfl rfl hc31) rfl ?_
    refine Run.no (wantS_not' rfl rfl hc31) rfl ?_
    refine Run.no (wantS_not' rfl rfl hc31) rfl ?_
    refine Run.no (wantS_not' rfl rfl hc31) rfl ?_
    refine Run.no (wantS_not' rfl rfl hc31) rfl ?_
    refine Run.opG wantS_none (ex_pickF' rfl hc31 rfl rfl) rfl ?_
    exact Run.pick [27] (alert_isPlaced_2_ok F false _ _ _ (hH.pick [] rfl rfl) h)

def alert_isPlaced (F : Nat) (a0 : S_api_Alert) : Option (Bool) :=
  bnd (sky_Cells F a0.Grid) fun r25 =>
  bif (r25.2 == (0 : Int)) then
    bnd (alert_areCells F r25.1 a0.Cells) fun r29 =>
    alert_isPlaced_1 F r29 a0.Event a0.Version a0.Time a0.Chance.N a0.Chance.Of a0.Grid a0.Cells a0.Withdrawn a0.Before
  else
    alert_isPlaced_1 F false a0.Event a0.Version a0.Time a0.Chance.N a0.Chance.Of a0.Grid a0.Cells a0.Withdrawn a0.Before

theorem alert_isPlaced_ok (F : Nat) (a0 : S_api_Alert) (s0 : SV) (r : Bool) (M : Mem) (hs0 : Slc (rd M) 1 (FlatR enc3) s0 a0.Cells) (h : alert_isPlaced F a0 = some r) : CallsM Tryd.prog 72 [(.agg [(.str a0.Event), (.int .i64 a0.Version), (.int .i64 a0.Time), (.int .i64 a0.Chance.N), (.int .i64 a0.Chance.Of), (.int .i64 a0.Grid), s0, (.bool a0.Withdrawn), (.int .i64 a0.Before)])] M (fun s M' => s = (.bool r) ∧ M' = M) := by
  refine CallsM.plain Tryd.func72 rfl rfl rfl (show Run _ _ _ (alert_isPlaced_post r) _ _ _ from ?_)
  rw [alert_isPlaced] at h
  replace hs0 := hs0.mono (rdLe_frozen M) (fun _ _ h => h)
  have hH := Has.nil (frozen M)
  refine Run.seq (Run.region ?_)
  refine Run.opX wantS_none rfl (ExG.box rfl rfl hH) ?_
  rintro _ M23 ⟨b22, rfl, (hH23 : Has (ro (frozen M)) M23 [.obj b22 (.row 29 .whole [(.str a0.Event), (.int .i64 a0.Version), (.int .i64 a0.Time), (.int .i64 a0.Chance.N), (.int .i64 a0.Chance.Of), (.int .i64 a0.Grid), s0, (.bool a0.Withdrawn), (.int .i64 a0.Before)])])⟩
  refine Run.opG wantS_none (ex_assign rfl) rfl ?_
  refine Run.opsEnd (Run.seq (Run.region ?_))
  refine Run.opG wantS_none (ex_fieldAddr rfl off29_4) rfl ?_
  refine Run.opG wantS_none (ex_load1 rfl (hH23.cells (i := 0) rfl 5 rfl) rdLe_rfl agg3) rfl ?_
  obtain ⟨r25, hr25, h⟩ := bnd_some h
  refine Run.callP wantS_none (ex_call rfl mkk85 cal85) rfl (sky_Cells_ok F a0.Grid _ _ hr25) ?_
  refine Run.opG wantS_none (ex_move rfl) rfl ?_
  refine Run.opG wantS_none (ex_extract rfl rfl) rfl ?_
  refine Run.opG wantS_none (ex_extract rfl rfl) rfl ?_
  refine Run.opG wantS_none (ex_assign rfl) rfl ?_
  refine Run.opG wantS_none (ex_assign rfl) rfl ?_
  refine Run.opsEnd (Run.seq (Run.region ?_))
  refine Run.opG wantS_none (ex_move rfl) rfl ?_
  refine Run.opG wantS_none (ex_eql rfl rfl) rfl ?_
  refine Run.opG wantS_none (ex_move rfl) rfl ?_
  rcases btf ((r25.2 == (0 : Int))) with hc27 | hc27
  · have h := bif_t hc27 h
    refine Run.opG (wantS_yes' rfl rfl hc27) (ex_move rfl) rfl ?_
    refine Run.opG (wantS_yes' rfl rfl hc27) (ex_fieldAddr rfl off29_5) rfl ?_
    refine Run.opG (wantS_yes' rfl rfl hc27) (ex_load1 rfl (hH23.cells (i := 0) rfl 6 rfl) rdLe_rfl agg27) rfl ?_
    obtain ⟨r29, hr29, h⟩ := bnd_some h
    refine Run.callP (wantS_yes' rfl rfl hc27) (ex_call rfl mkk86 cal86) rfl (alert_areCells_ok F r25.1 a0.Cells s0 _ _ (hH23.slcF hs0) hr29) ?_
    refine Run.opG wantS_none (ex_pickT' rfl hc27 rfl rfl) rfl ?_
    exact Run.pick [1, 18] (alert_isPlaced_1_ok F r29 a0.Event a0.Version a0.Time a0.Chance.N a0.Chance.Of a0.Grid a0.Cells a0.Withdrawn a0.Before s0 b22 _ _ _ hs0 hH23 h)
  · have h := bif_f hc27 h
    refine Run.no (wantS_not' rfl rfl hc27) rfl ?_
    refine Run.no (wantS_not' rfl rfl hc27) rfl ?_
    refine Run.no (wantS_not' rfl rfl hc27) rfl ?_
    refine Run.no (wantS_not' rfl rfl hc27) rfl ?_
    refine Run.opG wantS_none (ex_pickF' rfl hc27 rfl rfl) rfl ?_
    exact Run.pick [1, 18] (alert_isPlaced_1_ok F false a0.Event a0.Version a0.Time a0.Chance.N a0.Chance.Of a0.Grid a0.Cells a0.Withdrawn a0.Before s0 b22 _ _ _ hs0 hH23 h)

theorem mkk72 : makeK Tryd.prog 72 = none := by kernel_rfl
theorem cal72 : callable Tryd.prog 72 = true := by kernel_rfl
theorem off29_7 : fieldOff Tryd.prog 29 7 = some 8 := by kernel_rfl
abbrev alert_isBefore_post (r : Bool) : SV → Mem → Prop := fun s _ => s = (.bool r)

def alert_isBefore (F : Nat) (a0 : S_api_Alert) : Option (Bool) :=
  bif (a0.Version == (1 : Int)) then
    some (a0.Before == (0 : Int))
  else
    bnd (alert_isFrom F (0 : Int) a0.Before (2147483646 : Int)) fun r26 =>
    some r26

theorem alert_isBefore_ok (F : Nat) (a0 : S_api_Alert) (s0 : SV) (r : Bool) (M : Mem) (hs0 : Slc (rd M) 1 (FlatR enc3) s0 a0.Cells) (h : alert_isBefore F a0 = some r) : CallsM Tryd.prog 73 [(.agg [(.str a0.Event), (.int .i64 a0.Version), (.int .i64 a0.Time), (.int .i64 a0.Chance.N), (.int .i64 a0.Chance.Of), (.int .i64 a0.Grid), s0, (.bool a0.Withdrawn), (.int .i64 a0.Before)])] M (fun s M' => s = (.bool r) ∧ M' = M) := by
  refine CallsM.plain Tryd.func73 rfl rfl rfl (show Run _ _ _ (alert_isBefore_post r) _ _ _ from ?_)
  rw [alert_isBefore] at h
  replace hs0 := hs0.mono (rdLe_frozen M) (fun _ _ h => h)
  have hH := Has.nil (frozen M)
  refine Run.seq (Run.region ?_)
  refine Run.opX wantS_none rfl (ExG.box rfl rfl hH) ?_
  rintro _ M23 ⟨b22, rfl, (hH23 : Has (ro (frozen M)) M23 [.obj b22 (.row 29 .whole [(.str a0.Event), (.int .i64 a0.Version), (.int .i64 a0.Time), (.int .i64 a0.Chance.N), (.int .i64 a0.Chance.Of), (.int .i64 a0.Grid), s0, (.bool a0.Withdrawn), (.int .i64 a0.Before)])])⟩
  refine Run.opG wantS_none (ex_assign rfl) rfl ?_
  refine Run.opsEnd (Run.seq (Run.seq (Run.region ?_)))
  refine Run.opG wantS_none (ex_fieldAddr rfl off29_1) rfl ?_
  refine Run.opG wantS_none (ex_load1 rfl (hH23.cells (i := 0) rfl 1 rfl) rdLe_rfl agg3) rfl ?_
  refine Run.opG wantS_none (ex_eql rfl rfl) rfl ?_
  refine Run.opsEnd ?_
  rcases btf ((a0.Version == (1 : Int))) with hc24 | hc24
  · have h := bif_t hc24 h
    refine Run.condT' rfl hc24 ?_
    refine Run.seq (Run.region ?_)
    refine Run.opG wantS_none (ex_fieldAddr rfl off29_7) rfl ?_
    refine Run.opG wantS_none (ex_load1 rfl (hH23.cells (i := 0) rfl 8 rfl) rdLe_rfl agg3) rfl ?_
    refine Run.opG wantS_none (ex_eql rfl rfl) rfl ?_
    refine Run.opG wantS_none (ex_assign rfl) rfl ?_
    refine Run.opsEnd ?_
    cases h
    exact Run.ret Tryd.func73 rfl (res_tmp rfl res_nil) rfl
  · have h := bif_f hc24 h
    refine Run.condF' rfl hc24 ?_
    refine Run.skip (Run.seq (Run.region ?_))
    refine Run.opG wantS_none (ex_fieldAddr rfl off29_7) rfl ?_
    refine Run.opG wantS_none (ex_load1 rfl (hH23.cells (i := 0) rfl 8 rfl) rdLe_rfl agg3) rfl ?_
    obtain ⟨r26, hr26, h⟩ := bnd_some h
    refine Run.callP wantS_none (ex_call rfl mkk36 cal36) rfl (alert_isFrom_ok F (0 : Int) a0.Before (2147483646 : Int) _ _ hr26) ?_
    refine Run.opG wantS_none (ex_assign rfl) rfl ?_
    refine Run.opsEnd ?_
    cases h
    exact Run.ret Tryd.func73 rfl (res_tmp rfl res_nil) rfl

theorem mkk73 : makeK Tryd.prog 73 = none := by kernel_rfl
theorem cal73 : callable Tryd.prog 73 = true := by kernel_rfl
abbrev alert_isAlert_post (r : Bool) : SV → Mem → Prop := fun s _ => s = (.bool r)

def alert_isAlert_5 (F : Nat) (v28 : Bool) : Option (Bool) :=
  some v28

theorem alert_isAlert_5_ok (F : Nat) : ∀ (v28 : Bool) (Fr : Rd) (M : Mem) (r : Bool) (hH : Has Fr M []), alert_isAlert_5 F v28 = some r → Run Tryd.prog ⟨⟨43, [], none⟩, []⟩ 29 (alert_isAlert_post r) [(28, (.bool v28))] [itemC Tryd.prog 43 [1, 0] 26, codeC Tryd.prog 43 [1, 1]] M := by
  intro v28 Fr M r hH h
  rw [alert_isAlert_5] at h
  refine Run.opG wantS_none (ex_assign rfl) rfl ?_
  refine Run.opsEnd ?_
  cases h
  exact Run.ret Tryd.func43 rfl (res_tmp rfl res_nil) rfl

def alert_isAlert_4 (F : Nat) (v24 : Bool) (c22_0 : (List UInt8)) (c22_1 : Int) (c22_2 : Int) (c22_3 : Int) (c22_4 : Int) (c22_5 : Int) (c22_6 : (List Int)) (c22_7 : Bool) (c22_8 : Int) : Option (Bool) :=
  bif v24 then
    bnd (alert_isBefore F (S_api_Alert.mk c22_0 c22_1 c22_2 (S_api_Chance.mk c22_3 c22_4) c22_5 c22_6 c22_7 c22_8)) fun r45 =>
    alert_isAlert_5 F r45
  else
    alert_isAlert_5 F false

theorem alert_isAlert_4_ok (F : Nat) : ∀ (v24 : Bool) (c22_0 : (List UInt8)) (c22_1 : Int) (c22_2 : Int) (c22_3 : Int) (c22_4 : Int) (c22_5 : Int) (c22_6 : (List Int)) (c22_7 : Bool) (c22_8 : Int) (sc22_6 : SV) (b22 : Pos) (Fr : Rd) (M : Mem) (r : Bool) (hc22_6 : Slc Fr 1 (FlatR enc3) sc22_6 c22_6) (hH : Has Fr M [.obj b22 (.row 29 .whole [(.str c22_0), (.int .i64 c22_1), (.int .i64 c22_2), (.int .i64 c22_3), (.int .i64 c22_4), (.int .i64 c22_5), sc22_6, (.bool c22_7), (.int .i64 c22_8)])]), alert_isAlert_4 F v24 c22_0 c22_1 c22_2 c22_3 c22_4 c22_5 c22_6 c22_7 c22_8 = some r → Run Tryd.prog ⟨⟨43, [], none⟩, []⟩ 29 (alert_isAlert_post r) [(1, (.ptr b22 0)), (24, (.bool v24))] [itemC Tryd.prog 43 [1, 0] 22, codeC Tryd.prog 43 [1, 1]] M := by
  intro v24 c22_0 c22_1 c22_2 c22_3 c22_4 c22_5 c22_6 c22_7 c22_8 sc22_6 b22 Fr M r hc22_6 hH h
  rw [alert_isAlert_4] at h
  refine Run.opG wantS_none (ex_move rfl) rfl ?_
  rcases btf (v24) with hc43 | hc43
  · have h := bif_t hc43 h
    refine Run.opG (wantS_yes' rfl rfl hc43) (ex_loadA rfl (hH.cells (i := 0) rfl 0 rfl) rdLe_rfl agg29 rfl rfl rfl) rfl ?_
    obtain ⟨r45, hr45, h⟩ := bnd_some h
    refine Run.callP (wantS_yes' rfl rfl hc43) (ex_call rfl mkk73 cal73) rfl (alert_isBefore_ok F (S_api_Alert.mk c22_0 c22_1 c22_2 (S_api_Chance.mk c22_3 c22_4) c22_5 c22_6 c22_7 c22_8) sc22_6 _ _ (hH.slcF hc22_6) hr45) ?_
    refine Run.opG wantS_none (ex_pickT' rfl hc43 rfl rfl) rfl ?_
    exact Run.pick [28] (alert_isAlert_5_ok F r45 _ _ _ (hH.pick [] rfl rfl) h)
  · have h := bif_f hc43 h
    refine Run.no (wantS_not' rfl rfl hc43) rfl ?_
    refine Run.no (wantS_not' rfl rfl hc43) rfl ?_
    refine Run.opG wantS_none (ex_pickF' rfl hc43 rfl rfl) rfl ?_
    exact Run.pick [28] (alert_isAlert_5_ok F false _ _ _ (hH.pick [] rfl rfl) h)

def alert_isAlert_3 (F : Nat) (v20 : Bool) (c22_0 : (List UInt8)) (c22_1 : Int) (c22_2 : Int) (c22_3 : Int) (c22_4 : Int) (c22_5 : Int) (c22_6 : (List Int)) (c22_7 : Bool) (c22_8 : Int) : Option (Bool) :=
  bif v20 then
    bnd (alert_isPlaced F (S_api_Alert.mk c22_0 c22_1 c22_2 (S_api_Chance.mk c22_3 c22_4) c22_5 c22_6 c22_7 c22_8)) fun r41 =>
    alert_isAlert_4 F r41 c22_0 c22_1 c22_2 c22_3 c22_4 c22_5 c22_6 c22_7 c22_8
  else
    alert_isAlert_4 F false c22_0 c22_1 c22_2 c22_3 c22_4 c22_5 c22_6 c22_7 c22_8

theorem alert_isAlert_3_ok (F : Nat) : ∀ (v20 : Bool) (c22_0 : (List UInt8)) (c22_1 : Int) (c22_2 : Int) (c22_3 : Int) (c22_4 : Int) (c22_5 : Int) (c22_6 : (List Int)) (c22_7 : Bool) (c22_8 : Int) (sc22_6 : SV) (b22 : Pos) (Fr : Rd) (M : Mem) (r : Bool) (hc22_6 : Slc Fr 1 (FlatR enc3) sc22_6 c22_6) (hH : Has Fr M [.obj b22 (.row 29 .whole [(.str c22_0), (.int .i64 c22_1), (.int .i64 c22_2), (.int .i64 c22_3), (.int .i64 c22_4), (.int .i64 c22_5), sc22_6, (.bool c22_7), (.int .i64 c22_8)])]), alert_isAlert_3 F v20 c22_0 c22_1 c22_2 c22_3 c22_4 c22_5 c22_6 c22_7 c22_8 = some r → Run Tryd.prog ⟨⟨43, [], none⟩, []⟩ 29 (alert_isAlert_post r) [(1, (.ptr b22 0)), (20, (.bool v20))] [itemC Tryd.prog 43 [1, 0] 18, codeC Tryd.prog 43 [1, 1]] M := by
  intro v20 c22_0 c22_1 c22_2 c22_3 c22_4 c22_5 c22_6 c22_7 c22_8 sc22_6 b22 Fr M r hc22_6 hH h
  rw [alert_isAlert_3] at h
  refine Run.opG wantS_none (ex_move rfl) rfl ?_
  rcases btf (v20) with hc39 | hc39
  · have h := bif_t hc39 h
    refine Run.opG (wantS_yes' rfl rfl hc39) (ex_loadA rfl (hH.cells (i := 0) rfl 0 rfl) rdLe_rfl agg29 rfl rfl rfl) rfl ?_
    obtain ⟨r41, hr41, h⟩ := bnd_some h
    refine Run.callP (wantS_yes' rfl rfl hc39) (ex_call rfl mkk72 cal72) rfl (alert_isPlaced_ok F (S_api_Alert.mk c22_0 c22_1 c22_2 (S_api_Chance.mk c22_3 c22_4) c22_5 c22_6 c22_7 c22_8) sc22_6 _ _ (hH.slcF hc22_6) hr41) ?_
    refine Run.opG wantS_none (ex_pickT' rfl hc39 rfl rfl) rfl ?_
    exact Run.pick [1, 24] (alert_isAlert_4_ok F r41 c22_0 c22_1 c22_2 c22_3 c22_4 c22_5 c22_6 c22_7 c22_8 sc22_6 b22 _ _ _ hc22_6 hH h)
  · have h := bif_f hc39 h
    refine Run.no (wantS_not' rfl rfl hc39) rfl ?_
    refine Run.no (wantS_not' rfl rfl hc39) rfl ?_
    refine Run.opG wantS_none (ex_pickF' rfl hc39 rfl rfl) rfl ?_
    exact Run.pick [1, 24] (alert_isAlert_4_ok F false c22_0 c22_1 c22_2 c22_3 c22_4 c22_5 c22_6 c22_7 c22_8 sc22_6 b22 _ _ _ hc22_6 hH h)

def alert_isAlert_2 (F : Nat) (v15 : Bool) (c22_0 : (List UInt8)) (c22_1 : Int) (c22_2 : Int) (c22_3 : Int) (c22_4 : Int) (c22_5 : Int) (c22_6 : (List Int)) (c22_7 : Bool) (c22_8 : Int) : Option (Bool) :=
  bif v15 then
    bnd (alert_isChance F (S_api_Chance.mk c22_3 c22_4)) fun r37 =>
    alert_isAlert_3 F r37 c22_0 c22_1 c22_2 c22_3 c22_4 c22_5 c22_6 c22_7 c22_8
  else
    alert_isAlert_3 F false c22_0 c22_1 c22_2 c22_3 c22_4 c22_5 c22_6 c22_7 c22_8

theorem alert_isAlert_2_ok (F : Nat) : ∀ (v15 : Bool) (c22_0 : (List UInt8)) (c22_1 : Int) (c22_2 : Int) (c22_3 : Int) (c22_4 : Int) (c22_5 : Int) (c22_6 : (List Int)) (c22_7 : Bool) (c22_8 : Int) (sc22_6 : SV) (b22 : Pos) (Fr : Rd) (M : Mem) (r : Bool) (hc22_6 : Slc Fr 1 (FlatR enc3) sc22_6 c22_6) (hH : Has Fr M [.obj b22 (.row 29 .whole [(.str c22_0), (.int .i64 c22_1), (.int .i64 c22_2), (.int .i64 c22_3), (.int .i64 c22_4), (.int .i64 c22_5), sc22_6, (.bool c22_7), (.int .i64 c22_8)])]), alert_isAlert_2 F v15 c22_0 c22_1 c22_2 c22_3 c22_4 c22_5 c22_6 c22_7 c22_8 = some r → Run Tryd.prog ⟨⟨43, [], none⟩, []⟩ 29 (alert_isAlert_post r) [(1, (.ptr b22 0)), (15, (.bool v15))] [itemC Tryd.prog 43 [1, 0] 13, codeC Tryd.prog 43 [1, 1]] M := by
  intro v15 c22_0 c22_1 c22_2 c22_3 c22_4 c22_5 c22_6 c22_7 c22_8 sc22_6 b22 Fr M r hc22_6 hH h
  rw [alert_isAlert_2] at h
  refine Run.opG wantS_none (ex_move rfl) rfl ?_
  rcases btf (v15) with hc35 | hc35
  · have h := bif_t hc35 h
    refine Run.opG (wantS_yes' rfl rfl hc35) (ex_fieldAddr rfl off29_3) rfl ?_
    refine Run.opG (wantS_yes' rfl rfl hc35) (ex_loadA rfl (hH.cells (i := 0) rfl 3 rfl) rdLe_rfl agg26 rfl rfl rfl) rfl ?_
    obtain ⟨r37, hr37, h⟩ := bnd_some h
    refine Run.callP (wantS_yes' rfl rfl hc35) (ex_call rfl mkk71 cal71) rfl (alert_isChance_ok F (S_api_Chance.mk c22_3 c22_4) _ _ hr37) ?_
    refine Run.opG wantS_none (ex_pickT' rfl hc35 rfl rfl) rfl ?_
    exact Run.pick [1, 20] (alert_isAlert_3_ok F r37 c22_0 c22_1 c22_2 c22_3 c22_4 c22_5 c22_6 c22_7 c22_8 sc22_6 b22 _ _ _ hc22_6 hH h)
  · have h := bif_f hc35 h
    refine Run.no (wantS_not' rfl rfl hc35) rfl ?_
    refine Run.no (wantS_not' rfl rfl hc35) rfl ?_
    refine Run.no (wantS_not' rfl rfl hc35) rfl ?_
    refine Run.opG wantS_none (ex_pickF' rfl hc35 rfl rfl) rfl ?_
    exact Run.pick [1, 20] (alert_isAlert_3_ok F false c22_0 c22_1 c22_2 c22_3 c22_4 c22_5 c22_6 c22_7 c22_8 sc22_6 b22 _ _ _ hc22_6 hH h)

def alert_isAlert_1 (F : Nat) (v10 : Bool) (c22_0 : (List UInt8)) (c22_1 : Int) (c22_2 : Int) (c22_3 : Int) (c22_4 : Int) (c22_5 : Int) (c22_6 : (List Int)) (c22_7 : Bool) (c22_8 : Int) : Option (Bool) :=
  bif v10 then
    bnd (alert_isFrom F (0 : Int) c22_2 (1073741824 : Int)) fun r33 =>
    alert_isAlert_2 F r33 c22_0 c22_1 c22_2 c22_3 c22_4 c22_5 c22_6 c22_7 c22_8
  else
    alert_isAlert_2 F false c22_0 c22_1 c22_2 c22_3 c22_4 c22_5 c22_6 c22_7 c22_8

theorem alert_isAlert_1_ok (F : Nat) : ∀ (v10 : Bool) (c22_0 : (List UInt8)) (c22_1 : Int) (c22_2 : Int) (c22_3 : Int) (c22_4 : Int) (c22_5 : Int) (c22_6 : (List Int)) (c22_7 : Bool) (c22_8 : Int) (sc22_6 : SV) (b22 : Pos) (Fr : Rd) (M : Mem) (r : Bool) (hc22_6 : Slc Fr 1 (FlatR enc3) sc22_6 c22_6) (hH : Has Fr M [.obj b22 (.row 29 .whole [(.str c22_0), (.int .i64 c22_1), (.int .i64 c22_2), (.int .i64 c22_3), (.int .i64 c22_4), (.int .i64 c22_5), sc22_6, (.bool c22_7), (.int .i64 c22_8)])]), alert_isAlert_1 F v10 c22_0 c22_1 c22_2 c22_3 c22_4 c22_5 c22_6 c22_7 c22_8 = some r → Run Tryd.prog ⟨⟨43, [], none⟩, []⟩ 29 (alert_isAlert_post r) [(1, (.ptr b22 0)), (10, (.bool v10))] [itemC Tryd.prog 43 [1, 0] 8, codeC Tryd.prog 43 [1, 1]] M := by
  intro v10 c22_0 c22_1 c22_2 c22_3 c22_4 c22_5 c22_6 c22_7 c22_8 sc22_6 b22 Fr M r hc22_6 hH h
  rw [alert_isAlert_1] at h
  refine Run.opG wantS_none (ex_move rfl) rfl ?_
  rcases btf (v10) with hc31 | hc31
  · have h := bif_t hc31 h
    refine Run.opG (wantS_yes' rfl rfl hc31) (ex_fieldAddr rfl off29_2) rfl ?_
    refine Run.opG (wantS_yes' rfl rfl hc31) (ex_load1 rfl (hH.cells (i := 0) rfl 2 rfl) rdLe_rfl agg3) rfl ?_
    obtain ⟨r33, hr33, h⟩ := bnd_some h
    refine Run.callP (wantS_yes' rfl rfl hc31) (ex_call rfl mkk36 cal36) rfl (alert_isFrom_ok F (0 : Int) c22_2 (1073741824 : Int) _ _ hr33) ?_
    refine Run.opG wantS_none (ex_pickT' rfl hc31 rfl rfl) rfl ?_
    exact Run.pick [1, 15] (alert_isAlert_2_ok F r33 c22_0 c22_1 c22_2 c22_3 c22_4 c22_5 c22_6 c22_7 c22_8 sc22_6 b22 _ _ _ hc22_6 hH h)
  · have h := bif_f hc31 h
    refine Run.no (wantS_not' rfl rfl hc31) rfl ?_
    refine Run.no (wantS_not' rfl rfl hc31) rfl ?_
    refine Run.no (wantS_not' rfl rfl hc31) rfl ?_
    refine Run.opG wantS_none (ex_pickF' rfl hc31 rfl rfl) rfl ?_
    exact Run.pick [1, 15] (alert_isAlert_2_ok F false c22_0 c22_1 c22_2 c22_3 c22_4 c22_5 c22_6 c22_7 c22_8 sc22_6 b22 _ _ _ hc22_6 hH h)

def alert_isAlert (F : Nat) (a0 : S_api_Alert) : Option (Bool) :=
  bnd (num_IsName F a0.Event) fun r25 =>
  bif r25 then
    bnd (alert_isFrom F (1 : Int) a0.Version (1000 : Int)) fun r29 =>
    alert_isAlert_1 F r29 a0.Event a0.Version a0.Time a0.Chance.N a0.Chance.Of a0.Grid a0.Cells a0.Withdrawn a0.Before
  else
    alert_isAlert_1 F false a0.Event a0.Version a0.Time a0.Chance.N a0.Chance.Of a0.Grid a0.Cells a0.Withdrawn a0.Before

theorem alert_isAlert_ok (F : Nat) (a0 : S_api_Alert) (s0 : SV) (r : Bool) (M : Mem) (hs0 : Slc (rd M) 1 (FlatR enc3) s0 a0.Cells) (h : alert_isAlert F a0 = some r) : CallsM Tryd.prog 43 [(.agg [(.str a0.Event), (.int .i64 a0.Version), (.int .i64 a0.Time), (.int .i64 a0.Chance.N), (.int .i64 a0.Chance.Of), (.int .i64 a0.Grid), s0, (.bool a0.Withdrawn), (.int .i64 a0.Before)])] M (fun s M' => s = (.bool r) ∧ M' = M) := by
  refine CallsM.plain Tryd.func43 rfl rfl rfl (show Run _ _ _ (alert_isAlert_post r) _ _ _ from ?_)
  rw [alert_isAlert] at h
  replace hs0 := hs0.mono (rdLe_frozen M) (fun _ _ h => h)
  have hH := Has.nil (frozen M)
  refine Run.seq (Run.region ?_)
  refine Run.opX wantS_none rfl (ExG.box rfl rfl hH) ?_
  rintro _ M23 ⟨b22, rfl, (hH23 : Has (ro (frozen M)) M23 [.obj b22 (.row 29 .whole [(.str a0.Event), (.int .i64 a0.Version), (.int .i64 a0.Time), (.int .i64 a0.Chance.N), (.int .i64 a0.Chance.Of), (.int .i64 a0.Grid), s0, (.bool a0.Withdrawn), (.int .i64 a0.Before)])])⟩
  refine Run.opG wantS_none (ex_assign rfl) rfl ?_
  refine Run.opsEnd (Run.seq (Run.region ?_))
  refine Run.opG wantS_none (ex_fieldAddr rfl off29_0) rfl ?_
  refine Run.opG wantS_none (ex_load1 rfl (hH23.cells (i := 0) rfl 0 rfl) rdLe_rfl agg9) rfl ?_
  obtain ⟨r25, hr25, h⟩ := bnd_some h
  refine Run.callP wantS_none (ex_call rfl mkk70 cal70) rfl (num_IsName_ok F a0.Event _ _ hr25) ?_
  refine Run.opG wantS_none (ex_move rfl) rfl ?_
  rcases btf (r25) with hc27 | hc27
  · have h := bif_t hc27 h
    refine Run.opG (wantS_yes' rfl rfl hc27) (ex_fieldAddr rfl off29_1) rfl ?_
    refine Run.opG (wantS_yes' rfl rfl hc27) (ex_load1 rfl (hH23.cells (i := 0) rfl 1 rfl) rdLe_rfl agg3) rfl ?_
    obtain ⟨r29, hr29, h⟩ := bnd_some h
    refine Run.callP (wantS_yes' rfl rfl hc27) (ex_call rfl mkk36 cal36) rfl (alert_isFrom_ok F (1 : Int) a0.Version (1000 : Int) _ _ hr29) ?_
    refine Run.opG wantS_none (ex_pickT' rfl hc27 rfl rfl) rfl ?_
    exact Run.pick [1, 10] (alert_isAlert_1_ok F r29 a0.Event a0.Version a0.Time a0.Chance.N a0.Chance.Of a0.Grid a0.Cells a0.Withdrawn a0.Before s0 b22 _ _ _ hs0 hH23 h)
  · have h := bif_f hc27 h
    refine Run.no (wantS_not' rfl rfl hc27) rfl ?_
    refine Run.no (wantS_not' rfl rfl hc27) rfl ?_
    refine Run.no (wantS_not' rfl rfl hc27) rfl ?_
    refine Run.opG wantS_none (ex_pickF' rfl hc27 rfl rfl) rfl ?_
    exact Run.pick [1, 10] (alert_isAlert_1_ok F false a0.Event a0.Version a0.Time a0.Chance.N a0.Chance.Of a0.Grid a0.Cells a0.Withdrawn a0.Before s0 b22 _ _ _ hs0 hH23 h)

theorem mkk43 : makeK Tryd.prog 43 = none := by kernel_rfl
theorem cal43 : callable Tryd.prog 43 = true := by kernel_rfl
theorem zer119 : zerosOf Tryd.prog 119 = some [(.str []), (.int .i64 0), (.int .i64 0), (.int .i64 0), (.int .i64 0), (.int .i64 0), .nils, (.bool false), (.int .i64 0)] := by kernel_rfl
theorem sz119 : szOf Tryd.prog 119 = some 9 := by kernel_rfl
theorem agg119 : aggSize Tryd.prog 119 = some (some 9) := by kernel_rfl
theorem zer121 : zerosOf Tryd.prog 121 = some [.nilf, .nilf, .nilf, .nilf, .nilf, .nilf, .nilf] := by kernel_rfl
theorem pls121 : placesOf Tryd.prog 121 = some (.ar 1) := by kernel_rfl
theorem sz121 : szOf Tryd.prog 121 = some 7 := by kernel_rfl
theorem zer124 : zerosOf Tryd.prog 124 = some [.nilp, .nils] := by kernel_rfl
theorem agg121 : aggSize Tryd.prog 121 = some (some 7) := by kernel_rfl
theorem wha121 : whole Tryd.prog 121 = some (.arr 7 120 1) := by kernel_rfl
theorem agg120 : aggSize Tryd.prog 120 = some none := by kernel_rfl
theorem mkk87 : makeK Tryd.prog 87 = none := by kernel_rfl
theorem cal87 : callable Tryd.prog 87 = true := by kernel_rfl
theorem off119_0 : fieldOff Tryd.prog 119 0 = some 0 := by kernel_rfl
theorem off119_1 : fieldOff Tryd.prog 119 1 = some 1 := by kernel_rfl
theorem elt27 : sliceElt Tryd.prog 27 = some (⟨1, 8, [(.int .i64 0)], 3⟩ : Elt) := by kernel_rfl
theorem mkk94 : makeK Tryd.prog 94 = none := by kernel_rfl
theorem cal94 : callable Tryd.prog 94 = true := by kernel_rfl
theorem mkk102 : makeK Tryd.prog 102 = none := by kernel_rfl
theorem cal102 : callable Tryd.prog 102 = true := by kernel_rfl
theorem off124_0 : fieldOff Tryd.prog 124 0 = some 0 := by kernel_rfl
theorem agg122 : aggSize Tryd.prog 122 = some none := by kernel_rfl
theorem eqk122 : eqK Tryd.prog 122 = some .ptr := by kernel_rfl
theorem uvk122_137 : uvK Tryd.prog 122 137 = some (.to 2) := by kernel_rfl
theorem mkk106 : makeK Tryd.prog 106 = none := by kernel_rfl
theorem ncal106 : callable Tryd.prog 106 = false := by kernel_rfl
theorem ext106 : extK Tryd.prog 106 = some .noEsc := by kernel_rfl
theorem uvk137_122 : uvK Tryd.prog 137 122 = some (.back 124) := by kernel_rfl
theorem clo124 : Tryd.prog.cellsOf 124 = 2 := by kernel_rfl
theorem sz122 : szOf Tryd.prog 122 = some 1 := by kernel_rfl
theorem off124_1 : fieldOff Tryd.prog 124 1 = some 1 := by kernel_rfl
theorem agg108 : aggSize Tryd.prog 108 = some none := by kernel_rfl
theorem appt108_9 : appT Tryd.prog 108 9 = some (⟨1, 1, [(.int .u8 0)], 5⟩ : Elt) := by kernel_rfl
theorem sz108 : szOf Tryd.prog 108 = some 1 := by kernel_rfl
theorem mkk104 : makeK Tryd.prog 104 = none := by kernel_rfl
theorem cal104 : callable Tryd.prog 104 = true := by kernel_rfl
theorem pte122 : ptrElt Tryd.prog 122 = some 124 := by kernel_rfl
theorem inf124 : (Tryd.prog.info? 124).isSome = true := by kernel_rfl
theorem elt108 : sliceElt Tryd.prog 108 = some (⟨1, 1, [(.int .u8 0)], 5⟩ : Elt) := by kernel_rfl
theorem appt108_108 : appT Tryd.prog 108 108 = some (⟨1, 1, [(.int .u8 0)], 5⟩ : Elt) := by kernel_rfl
theorem mkk105 : makeK Tryd.prog 105 = none := by kernel_rfl
theorem cal105 : callable Tryd.prog 105 = true := by kernel_rfl
theorem mkk95 : makeK Tryd.prog 95 = none := by kernel_rfl
theorem cal95 : callable Tryd.prog 95 = true := by kernel_rfl
theorem pte135 : ptrElt Tryd.prog 135 = some 5 := by kernel_rfl
theorem clo5 : Tryd.prog.cellsOf 5 = 1 := by kernel_rfl
theorem plan95_1_0 : planOf Tryd.prog (opsC (atC Tryd.prog 95 [1, 0])) = some [.fl 0, .fl 1, .fl 2, .fl 3, .fl 4, .fl 5, .fl 6, .fl 7, .fl 8, .fl 9, .an 10 [], .fl 11, .sync] := by kernel_rfl
abbrev alert_line_post (r : (List UInt8)) : SV → Mem → Prop := fun s _ => s = (.str r)

def alert_line_1 (F : Nat) : Nat → (List Int) → Int → Int → (List Int) → Option ((List UInt8))
  | 0, _, _, _, _ => none
  | N + 1, v10, v11, v12, l33 =>
    bif (decide (v12 < v11)) then
      bnd (idx v10 v12) fun x39 =>
      bnd (apd 1 l33 ([32] : List Int)) fun l45 =>
      bnd (itoa F x39) fun r50 =>
      bnd (apd 1 l45 (bytesI r50)) fun l54 =>
      (alert_line_1 F N) v10 v11 (w64 (v12 + (1 : Int))) l54
    else
      bnd (apd 1 l33 ([10] : List Int)) fun l63 =>
      bnd (neB l63) fun u67 =>
      bnd (strOf l63) fun z68 =>
      some z68

theorem alert_line_1_ok (F : Nat) : ∀ (N : Nat), ∀ (v10 : (List Int)) (v11 : Int) (v12 : Int) (l33 : (List Int)) (sv10 : SV) (b25 : Pos) (s33 : SV) (Fr : Rd) (M : Mem) (r : (List UInt8)) (hv10 : Slc Fr 1 (FlatR enc3) sv10 v10) (hH : Has Fr M [.obj b25 (.row 124 .whole [(.ptr b25 0), s33]), .vec 5 1 l33.length s33 (l33.flatMap enc5), tb0, tb1, tb2]), alert_line_1 F N v10 v11 v12 l33 = some r → Run Tryd.prog ⟨⟨101, [], none⟩, []⟩ 23 (alert_line_post r) [(5, (.ptr b25 0)), (10, sv10), (11, (.int .i64 v11)), (12, (.int .i64 v12))] [codeC Tryd.prog 101 [1, 1, 1, 0, 1, 0, 0], loopC Tryd.prog 101 [1, 1, 1, 0, 1, 0, 0], .inBlock 0, codeC Tryd.prog 101 [1, 1, 1, 1]] M := by
  intro N
  induction N with
  | zero =>
    intro v10 v11 v12 l33 sv10 b25 s33 Fr M r hv10 hH h
    simp [alert_line_1] at h
  | succ N ih =>
    intro v10 v11 v12 l33 sv10 b25 s33 Fr M r hv10 hH h
    rw [alert_line_1] at h
    refine Run.seq (Run.region ?_)
    refine Run.opG wantS_none (ex_lss rfl rfl) rfl ?_
    refine Run.opsEnd (Run.seq ?_)
    rcases btf ((decide (v12 < v11))) with hc37 | hc37
    · have h := bif_t hc37 h
      refine Run.condT' rfl hc37 ?_
      refine Run.skip (Run.seq (Run.block (Run.seq (Run.region ?_))))
      obtain ⟨x39, hx39, h⟩ := bnd_some h
      obtain ⟨p39, o39, _, hx39, hp39, rfl⟩ := sl_elem (P := Tryd.prog) (t := 27) (kk := .i64) hv10 hx39 els27
      refine Run.opG wantS_none (ex_elX rfl rfl hx39) rfl ?_
      refine Run.opG wantS_none (ex_load1 rfl (hH.ptrF hp39) rdLe_rfl agg3) rfl ?_
      refine Run.opG wantS_none (ex_assign rfl) rfl ?_
      refine Run.opsEnd (Run.seq (Run.region ?_))
      refine Run.enter wantS_none (ex_call rfl mkk104 cal104) Tryd.func104 rfl rfl ?_
      refine Run.seq (Run.region ?_)
      refine Run.opG wantS_none (ex_assign rfl) rfl ?_
      refine Run.opsEnd (Run.seq (Run.region ?_))
      refine Run.opG wantS_none (ex_move rfl) rfl ?_
      refine Run.enter wantS_none (ex_call rfl mkk102 cal102) Tryd.func102 rfl rfl ?_
      refine Run.seq (Run.region ?_)
      refine Run.opG wantS_none (ex_move rfl) rfl ?_
      refine Run.opG wantS_none (ex_nilP rfl) rfl ?_
      refine Run.opG wantS_none (ex_fieldAddr rfl off124_0) rfl ?_
      refine Run.opG wantS_none (ex_load1 rfl (hH.cells (i := 0) rfl 0 rfl) rdLe_rfl agg122) rfl ?_
      refine Run.opG wantS_none (ex_ptrPN rfl rfl eqk122) rfl ?_
      refine Run.opsEnd ?_
      refine Run.condF' rfl rfl ?_
      refine Run.seq (Run.region ?_)
      refine Run.opG wantS_none (ex_move rfl) rfl ?_
      refine Run.opG wantS_none (ex_nilP rfl) rfl ?_
      refine Run.opG wantS_none (ex_fieldAddr rfl off124_0) rfl ?_
      refine Run.opG wantS_none (ex_load1 rfl (hH.cells (i := 0) rfl 0 rfl) rdLe_rfl agg122) rfl ?_
      refine Run.opG wantS_none (ex_move rfl) rfl ?_
      refine Run.opG wantS_none (ex_ptrSamen rfl rfl pte122 inf124) rfl ?_
      refine Run.opsEnd ?_
      refine Run.condF' rfl rfl ?_
      refine Run.skip ?_
      refine Run.fallTo Tryd.func102 rfl res_nil rfl ?_
      refine Run.opsEnd (Run.seq (Run.region ?_))
      refine Run.opG wantS_none (ex_move rfl) rfl ?_
      refine Run.opG wantS_none (ex_move rfl) rfl ?_
      refine Run.opG wantS_none (ex_nilP rfl) rfl ?_
      refine Run.opG wantS_none (ex_fieldAddr rfl off124_1) rfl ?_
      refine Run.opG wantS_none (ex_load1 rfl (hH.cells (i := 0) rfl 1 rfl) rdLe_rfl agg108) rfl ?_
      refine Run.opG wantS_none (ex_move rfl) rfl ?_
      refine Run.opX wantS_none rfl (ExG.built (enc := enc5) (l := ([32] : List Int)) (z := 1) rfl elt108 rfl rfl rfl enc5_len hH) ?_
      rintro s41 M42 (hH42 : Has Fr M42 [.vec 5 1 ([32] : List Int).length s41 (([32] : List Int).flatMap enc5), .obj b25 (.row 124 .whole [(.ptr b25 0), s33]), .vec 5 1 l33.length s33 (l33.flatMap enc5), tb0, tb1, tb2])
      obtain ⟨l45, hl45, h⟩ := bnd_some h
      refine Run.opX wantS_none rfl (ExG.append rfl rfl hH42 (i := 2) rfl enc5_len rfl enc5_ones appt108_108 rfl (len_slc (hH42.slc (i := 0) rfl enc5_len)) (first_slc (hH42.slc (i := 0) rfl enc5_len) (rdLe_rdRow _) enc5_len) hl45) ?_
      rintro s45 M47 (hH47 : Has Fr M47 [.vec 5 1 ([32] : List Int).length s41 (([32] : List Int).flatMap enc5), .obj b25 (.row 124 .whole [(.ptr b25 0), s33]), .vec 5 1 l45.length s45 (l45.flatMap enc5), tb0, tb1, tb2])
      refine Run.opG wantS_none (ex_nilP rfl) rfl ?_
      refine Run.opG wantS_none (ex_fieldAddr rfl off124_1) rfl ?_
      refine Run.opX wantS_none rfl (ExG.storeC (c' := [(.ptr b25 0), s45]) rfl rfl (cells_one (vec_one hH47 (i := 2) rfl)) hH47 (i := 1) rfl sz108 rfl rfl rfl (ones_cons (vec_one hH47 (i := 2) rfl) ones_nil) rfl) ?_
      rintro _ M48 ⟨rfl, (hH48 : Has Fr M48 [.vec 5 1 ([32] : List Int).length s41 (([32] : List Int).flatMap enc5), .obj b25 (.row 124 .whole [(.ptr b25 0), s45]), .vec 5 1 l45.length s45 (l45.flatMap enc5), tb0, tb1, tb2])⟩
      refine Run.opsEnd (Run.seq (Run.region ?_))
      refine Run.opG wantS_none (ex_assign rfl) rfl ?_
      refine Run.opsEnd ?_
      refine Run.retTo Tryd.func104 rfl (res_tmp rfl res_nil) rfl ?_
      refine Run.opsEnd (Run.region ?_)
      refine Run.opG wantS_none (ex_move rfl) rfl ?_
      obtain ⟨r50, hr50, h⟩ := bnd_some h
      refine Run.callP wantS_none (ex_call rfl mkk105 cal105) rfl (itoa_ok F x39 _ _ (fixH hH48 (List.mem_of_getElem? (i := 3) rfl) (List.mem_of_getElem? (i := 4) rfl) (List.mem_of_getElem? (i := 5) rfl)) hr50) ?_
      refine Run.enter wantS_none (ex_call rfl mkk94 cal94) Tryd.func94 rfl rfl ?_
      refine Run.seq (Run.region ?_)
      refine Run.opG wantS_none (ex_assign rfl) rfl ?_
      refine Run.opG wantS_none (ex_assign rfl) rfl ?_
      refine Run.opsEnd (Run.seq (Run.region ?_))
      refine Run.opG wantS_none (ex_move rfl) rfl ?_
      refine Run.enter wantS_none (ex_call rfl mkk102 cal102) Tryd.func102 rfl rfl ?_
      refine Run.seq (Run.region ?_)
      refine Run.opG wantS_none (ex_move rfl) rfl ?_
      refine Run.opG wantS_none (ex_nilP rfl) rfl ?_
      refine Run.opG wantS_none (ex_fieldAddr rfl off124_0) rfl ?_
      refine Run.opG wantS_none (ex_load1 rfl (hH48.cells (i := 1) rfl 0 rfl) rdLe_rfl agg122) rfl ?_
      refine Run.opG wantS_none (ex_ptrPN rfl rfl eqk122) rfl ?_
      refine Run.opsEnd ?_
      refine Run.condF' rfl rfl ?_
      refine Run.seq (Run.region ?_)
      refine Run.opG wantS_none (ex_move rfl) rfl ?_
      refine Run.opG wantS_none (ex_nilP rfl) rfl ?_
      refine Run.opG wantS_none (ex_fieldAddr rfl off124_0) rfl ?_
      refine Run.opG wantS_none (ex_load1 rfl (hH48.cells (i := 1) rfl 0 rfl) rdLe_rfl agg122) rfl ?_
      refine Run.opG wantS_none (ex_move rfl) rfl ?_
      refine Run.opG wantS_none (ex_ptrSamen rfl rfl pte122 inf124) rfl ?_
      refine Run.opsEnd ?_
      refine Run.condF' rfl rfl ?_
      refine Run.skip ?_
      refine Run.fallTo Tryd.func102 rfl res_nil rfl ?_
      refine Run.opsEnd (Run.seq (Run.region ?_))
      refine Run.opG wantS_none (ex_move rfl) rfl ?_
      refine Run.opG wantS_none (ex_move rfl) rfl ?_
      refine Run.opG wantS_none (ex_nilP rfl) rfl ?_
      refine Run.opG wantS_none (ex_fieldAddr rfl off124_1) rfl ?_
      refine Run.opG wantS_none (ex_load1 rfl (hH48.cells (i := 1) rfl 1 rfl) rdLe_rfl agg108) rfl ?_
      refine Run.opG wantS_none (ex_move rfl) rfl ?_
      obtain ⟨l54, hl54, h⟩ := bnd_some h
      refine Run.opX wantS_none rfl (ExG.append rfl rfl hH48 (i := 2) rfl enc5_len rfl enc5_ones appt108_9 rfl (str_lenZ rfl _) (str_first (fun _ => rfl) _) hl54) ?_
      rintro s54 M56 (hH56 : Has Fr M56 [.vec 5 1 ([32] : List Int).length s41 (([32] : List Int).flatMap enc5), .obj b25 (.row 124 .whole [(.ptr b25 0), s45]), .vec 5 1 l54.length s54 (l54.flatMap enc5), tb0, tb1, tb2])
      refine Run.opG wantS_none (ex_nilP rfl) rfl ?_
      refine Run.opG wantS_none (ex_fieldAddr rfl off124_1) rfl ?_
      refine Run.opX wantS_none rfl (ExG.storeC (c' := [(.ptr b25 0), s54]) rfl rfl (cells_one (vec_one hH56 (i := 2) rfl)) hH56 (i := 1) rfl sz108 rfl rfl rfl (ones_cons (vec_one hH56 (i := 2) rfl) ones_nil) rfl) ?_
      rintro _ M57 ⟨rfl, (hH57 : Has Fr M57 [.vec 5 1 ([32] : List Int).length s41 (([32] : List Int).flatMap enc5), .obj b25 (.row 124 .whole [(.ptr b25 0), s54]), .vec 5 1 l54.length s54 (l54.flatMap enc5), tb0, tb1, tb2])⟩
      refine Run.opsEnd (Run.seq (Run.region ?_))
      refine Run.opG wantS_none (ex_move rfl) rfl ?_
      refine Run.opG wantS_none (ex_lenS rfl lenk9) rfl ?_
      refine Run.opG wantS_none (ex_assign rfl) rfl ?_
      refine Run.opG wantS_none (ex_assign rfl) rfl ?_
      refine Run.opsEnd ?_
      refine Run.retTo Tryd.func94 rfl (res_tmp rfl (res_tmp rfl res_nil)) rfl ?_
      refine Run.opsEnd (Run.inBlock (Run.region ?_))
      refine Run.opG wantS_none (ex_add rfl rfl) rfl ?_
      refine Run.opG wantS_none (ex_move rfl) rfl ?_
      refine Run.opsEnd (Run.inLoop ?_)
      exact Run.pick [5, 10, 11, 12] (ih v10 v11 (w64 (v12 + (1 : Int))) l54 sv10 b25 s54 _ _ _ hv10 (hH57.pick [1, 2, 3, 4, 5] rfl rfl) h)
    · have h := bif_f hc37 h
      refine Run.condF' rfl hc37 ?_
      refine Run.exit rfl (Run.seq (Run.region ?_))
      refine Run.enter wantS_none (ex_call rfl mkk104 cal104) Tryd.func104 rfl rfl ?_
      refine Run.seq (Run.region ?_)
      refine Run.opG wantS_none (ex_assign rfl) rfl ?_
      refine Run.opsEnd (Run.seq (Run.region ?_))
      refine Run.opG wantS_none (ex_move rfl) rfl ?_
      refine Run.enter wantS_none (ex_call rfl mkk102 cal102) Tryd.func102 rfl rfl ?_
      refine Run.seq (Run.region ?_)
      refine Run.opG wantS_none (ex_move rfl) rfl ?_
      refine Run.opG wantS_none (ex_nilP rfl) rfl ?_
      refine Run.opG wantS_none (ex_fieldAddr rfl off124_0) rfl ?_
      refine Run.opG wantS_none (ex_load1 rfl (hH.cells (i := 0) rfl 0 rfl) rdLe_rfl agg122) rfl ?_
      refine Run.opG wantS_none (ex_ptrPN rfl rfl eqk122) rfl ?_
      refine Run.opsEnd ?_
      refine Run.condF' rfl rfl ?_
      refine Run.seq (Run.region ?_)
      refine Run.opG wantS_none (ex_move rfl) rfl ?_
      refine Run.opG wantS_none (ex_nilP rfl) rfl ?_
      refine Run.opG wantS_none (ex_fieldAddr rfl off124_0) rfl ?_
      refine Run.opG wantS_none (ex_load1 rfl (hH.cells (i := 0) rfl 0 rfl) rdLe_rfl agg122) rfl ?_
      refine Run.opG wantS_none (ex_move rfl) rfl ?_
      refine Run.opG wantS_none (ex_ptrSamen rfl rfl pte122 inf124) rfl ?_
      refine Run.opsEnd ?_
      refine Run.condF' rfl rfl ?_
      refine Run.skip ?_
      refine Run.fallTo Tryd.func102 rfl res_nil rfl ?_
      refine Run.opsEnd (Run.seq (Run.region ?_))
      refine Run.opG wantS_none (ex_move rfl) rfl ?_
      refine Run.opG wantS_none (ex_move rfl) rfl ?_
      refine Run.opG wantS_none (ex_nilP rfl) rfl ?_
      refine Run.opG wantS_none (ex_fieldAddr rfl off124_1) rfl ?_
      refine Run.opG wantS_none (ex_load1 rfl (hH.cells (i := 0) rfl 1 rfl) rdLe_rfl agg108) rfl ?_
      refine Run.opG wantS_none (ex_move rfl) rfl ?_
      refine Run.opX wantS_none rfl (ExG.built (enc := enc5) (l := ([10] : List Int)) (z := 1) rfl elt108 rfl rfl rfl enc5_len hH) ?_
      rintro s59 M60 (hH60 : Has Fr M60 [.vec 5 1 ([10] : List Int).length s59 (([10] : List Int).flatMap enc5), .obj b25 (.row 124 .whole [(.ptr b25 0), s33]), .vec 5 1 l33.length s33 (l33.flatMap enc5), tb0, tb1, tb2])
      obtain ⟨l63, hl63, h⟩ := bnd_some h
      refine Run.opX wantS_none rfl (ExG.append rfl rfl hH60 (i := 2) rfl enc5_len rfl enc5_ones appt108_108 rfl (len_slc (hH60.slc (i := 0) rfl enc5_len)) (first_slc (hH60.slc (i := 0) rfl enc5_len) (rdLe_rdRow _) enc5_len) hl63) ?_
      rintro s63 M65 (hH65 : Has Fr M65 [.vec 5 1 ([10] : List Int).length s59 (([10] : List Int).flatMap enc5), .obj b25 (.row 124 .whole [(.ptr b25 0), s33]), .vec 5 1 l63.length s63 (l63.flatMap enc5), tb0, tb1, tb2])
      refine Run.opG wantS_none (ex_nilP rfl) rfl ?_
      refine Run.opG wantS_none (ex_fieldAddr rfl off124_1) rfl ?_
      refine Run.opX wantS_none rfl (ExG.storeC (c' := [(.ptr b25 0), s63]) rfl rfl (cells_one (vec_one hH65 (i := 2) rfl)) hH65 (i := 1) rfl sz108 rfl rfl rfl (ones_cons (vec_one hH65 (i := 2) rfl) ones_nil) rfl) ?_
      rintro _ M66 ⟨rfl, (hH66 : Has Fr M66 [.vec 5 1 ([10] : List Int).length s59 (([10] : List Int).flatMap enc5), .obj b25 (.row 124 .whole [(.ptr b25 0), s63]), .vec 5 1 l63.length s63 (l63.flatMap enc5), tb0, tb1, tb2])⟩
      refine Run.opsEnd (Run.seq (Run.region ?_))
      refine Run.opG wantS_none (ex_assign rfl) rfl ?_
      refine Run.opsEnd ?_
      refine Run.retTo Tryd.func104 rfl (res_tmp rfl res_nil) rfl ?_
      refine Run.opsEnd (Run.seq (Run.region ?_))
      refine Run.enter wantS_none (ex_call rfl mkk95 cal95) Tryd.func95 rfl rfl ?_
      refine Run.seq (Run.region ?_)
      refine Run.opG wantS_none (ex_assign rfl) rfl ?_
      refine Run.opsEnd (Run.seq ?_)
      refine Run.drawG plan95_1_0 ?_
      refine DrawG.fl rfl (ev_ex wantS_none (ex_move rfl)) rfl ?_
      refine DrawG.fl rfl (ev_ex wantS_none (ex_nilP rfl)) rfl ?_
      refine DrawG.fl rfl (ev_ex wantS_none (ex_fieldAddr rfl off124_1)) rfl ?_
      refine DrawG.fl rfl (ev_ex wantS_none (ex_load1 rfl (hH66.cells (i := 1) rfl 1 rfl) rdLe_rfl agg108)) rfl ?_
      obtain ⟨u67, hu67, h⟩ := bnd_some h
      obtain ⟨p67, hb67, hx67⟩ := vec_data (P := Tryd.prog) hH66 (i := 2) rfl (neB_some hu67)
      refine DrawG.fl rfl (ev_ex wantS_none (hx67 _ _ _ _ rfl)) rfl ?_
      refine DrawG.fl rfl (ev_ex wantS_none (ex_move rfl)) rfl ?_
      refine DrawG.fl rfl (ev_ex wantS_none (ex_nilP rfl)) rfl ?_
      refine DrawG.fl rfl (ev_ex wantS_none (ex_fieldAddr rfl off124_1)) rfl ?_
      refine DrawG.fl rfl (ev_ex wantS_none (ex_load1 rfl (hH66.cells (i := 1) rfl 1 rfl) rdLe_rfl agg108)) rfl ?_
      refine DrawG.fl rfl (ev_ex wantS_none (ex_len' rfl (hH66.slc (i := 2) rfl enc5_len) lenk108)) rfl ?_
      obtain ⟨z68, hz68, h⟩ := bnd_some h
      refine DrawG.opX rfl wantS_none rfl (ExG.uString (enc := enc5) (fun _ => rfl) rfl rfl hH66 (i := 2) rfl hb67 pte135 clo5 hz68) ?_
      rintro _ M69 ⟨rfl, (hH69 : Has Fr M69 [.vec 5 1 ([10] : List Int).length s59 (([10] : List Int).flatMap enc5), .obj b25 (.row 124 .whole [(.ptr b25 0), s63]), .vec 0 0 0 .nils [], tb0, tb1, tb2])⟩
      refine ⟨st_nil, ?_⟩
      refine DrawG.fl rfl (ev_ex wantS_none (ex_assign rfl)) rfl ?_
      refine DrawG.sync ?_
      refine DrawG.nil ?_
      refine Run.retTo Tryd.func95 rfl (res_tmp rfl res_nil) rfl ?_
      refine Run.opG wantS_none (ex_assign rfl) rfl ?_
      refine Run.opsEnd ?_
      cases h
      exact Run.ret Tryd.func101 rfl (res_tmp rfl res_nil) rfl

def alert_line (F : Nat) (a0 : (List UInt8)) (a1 : (List Int)) : Option ((List UInt8)) :=
  bnd (apd 1 ([] : List Int) (bytesI a0)) fun l31 =>
  alert_line_1 F F a1 (a1.length : Int) (0 : Int) l31

theorem alert_line_ok (F : Nat) (a0 : (List UInt8)) (a1 : (List Int)) (s0 : SV) (r : (List UInt8)) (M : Mem) (hs0 : Slc (rd M) 1 (FlatR enc3) s0 a1) (hfx : FixIn M fixes) (h : alert_line F a0 a1 = some r) : CallsM Tryd.prog 101 [(.str a0), s0] M (fun s M' => s = (.str r) ∧ M' = M) := by
  refine CallsM.plain Tryd.func101 rfl rfl rfl (show Run _ _ _ (alert_line_post r) _ _ _ from ?_)
  rw [alert_line] at h
  replace hs0 := hs0.mono (rdLe_frozen M) (fun _ _ h => h)
  have hH : Has (ro (frozen M)) (frozen M) [tb0, tb1, tb2] := Has.ofFix hfx.frozen
  refine Run.seq (Run.region ?_)
  refine Run.opG wantS_none (ex_assign rfl) rfl ?_
  refine Run.opsEnd (Run.seq (Run.region ?_))
  refine Run.opX wantS_none rfl (ExG.new (v := fun b => .ptr b 0) (ex_alloc zer124) hH) ?_
  rintro _ M26 ⟨b25, rfl, (hH26 : Has (ro (frozen M)) M26 [.obj b25 (.row 124 .whole [.nilp, .nils]), tb0, tb1, tb2])⟩
  refine Run.opsEnd (Run.seq (Run.region ?_))
  refine Run.opG wantS_none (ex_move rfl) rfl ?_
  refine Run.enter wantS_none (ex_call rfl mkk94 cal94) Tryd.func94 rfl rfl ?_
  refine Run.seq (Run.region ?_)
  refine Run.opG wantS_none (ex_assign rfl) rfl ?_
  refine Run.opG wantS_none (ex_assign rfl) rfl ?_
  refine Run.opsEnd (Run.seq (Run.region ?_))
  refine Run.opG wantS_none (ex_move rfl) rfl ?_
  refine Run.enter wantS_none (ex_call rfl mkk102 cal102) Tryd.func102 rfl rfl ?_
  refine Run.seq (Run.region ?_)
  refine Run.opG wantS_none (ex_move rfl) rfl ?_
  refine Run.opG wantS_none (ex_nilP rfl) rfl ?_
  refine Run.opG wantS_none (ex_fieldAddr rfl off124_0) rfl ?_
  refine Run.opG wantS_none (ex_load1 rfl (hH26.cells (i := 0) rfl 0 rfl) rdLe_rfl agg122) rfl ?_
  refine Run.opG wantS_none (ex_ptrNN rfl rfl eqk122) rfl ?_
  refine Run.opsEnd ?_
  refine Run.condT' rfl rfl ?_
  refine Run.region ?_
  refine Run.opG wantS_none (ex_move rfl) rfl ?_
  refine Run.opG wantS_none (ex_move rfl) rfl ?_
  refine Run.opG wantS_none (ex_toU rfl uvk122_137 rfl hH26 (i := 0) rfl rfl) rfl ?_
  refine Run.opG wantS_none (ex_noEsc rfl mkk106 ncal106 ext106) rfl ?_
  refine Run.opG wantS_none (ex_backU rfl uvk137_122 hH26 (i := 0) rfl rfl clo124) rfl ?_
  refine Run.opG wantS_none (ex_nilP rfl) rfl ?_
  refine Run.opG wantS_none (ex_fieldAddr rfl off124_0) rfl ?_
  refine Run.opX wantS_none rfl (ExG.storeC (c' := [(.ptr b25 0), .nils]) rfl rfl rfl hH26 (i := 0) rfl sz122 rfl rfl rfl rfl rfl) ?_
  rintro _ M27 ⟨rfl, (hH27 : Has (ro (frozen M)) M27 [.obj b25 (.row 124 .whole [(.ptr b25 0), .nils]), tb0, tb1, tb2])⟩
  refine Run.opsEnd ?_
  refine Run.fallTo Tryd.func102 rfl res_nil rfl ?_
  refine Run.opsEnd (Run.seq (Run.region ?_))
  refine Run.opG wantS_none (ex_move rfl) rfl ?_
  refine Run.opG wantS_none (ex_move rfl) rfl ?_
  refine Run.opG wantS_none (ex_nilP rfl) rfl ?_
  refine Run.opG wantS_none (ex_fieldAddr rfl off124_1) rfl ?_
  refine Run.opG wantS_none (ex_load1 rfl (hH27.cells (i := 0) rfl 1 rfl) rdLe_rfl agg108) rfl ?_
  refine Run.opG wantS_none (ex_move rfl) rfl ?_
  obtain ⟨l31, hl31, h⟩ := bnd_some h
  have hH34 : Has (ro (frozen M)) M27 [.vec 5 1 ([] : List Int).length .nils (([] : List Int).flatMap enc5), .obj b25 (.row 124 .whole [(.ptr b25 0), .nils]), tb0, tb1, tb2] := hH27.nils 5 1
  refine Run.opX wantS_none rfl (ExG.append rfl rfl hH34 (i := 0) rfl enc5_len rfl enc5_ones appt108_9 rfl (str_lenZ rfl _) (str_first (fun _ => rfl) _) hl31) ?_
  rintro s31 M35 (hH35 : Has (ro (frozen M)) M35 [.vec 5 1 l31.length s31 (l31.flatMap enc5), .obj b25 (.row 124 .whole [(.ptr b25 0), .nils]), tb0, tb1, tb2])
  refine Run.opG wantS_none (ex_nilP rfl) rfl ?_
  refine Run.opG wantS_none (ex_fieldAddr rfl off124_1) rfl ?_
  refine Run.opX wantS_none rfl (ExG.storeC (c' := [(.ptr b25 0), s31]) rfl rfl (cells_one (vec_one hH35 (i := 0) rfl)) hH35 (i := 1) rfl sz108 rfl rfl rfl (ones_cons (vec_one hH35 (i := 0) rfl) ones_nil) rfl) ?_
  rintro _ M36 ⟨rfl, (hH36 : Has (ro (frozen M)) M36 [.vec 5 1 l31.length s31 (l31.flatMap enc5), .obj b25 (.row 124 .whole [(.ptr b25 0), s31]), tb0, tb1, tb2])⟩
  refine Run.opsEnd (Run.seq (Run.region ?_))
  refine Run.opG wantS_none (ex_move rfl) rfl ?_
  refine Run.opG wantS_none (ex_lenS rfl lenk9) rfl ?_
  refine Run.opG wantS_none (ex_assign rfl) rfl ?_
  refine Run.opG wantS_none (ex_assign rfl) rfl ?_
  refine Run.opsEnd ?_
  refine Run.retTo Tryd.func94 rfl (res_tmp rfl (res_tmp rfl res_nil)) rfl ?_
  refine Run.opsEnd (Run.seq (Run.seq (Run.region ?_)))
  refine Run.opG wantS_none (ex_move rfl) rfl ?_
  refine Run.opG wantS_none (ex_len' rfl hs0 lenk27) rfl ?_
  refine Run.opG wantS_none (ex_move rfl) rfl ?_
  refine Run.opsEnd (Run.block (Run.loop ?_))
  exact Run.pick [5, 10, 11, 12] (alert_line_1_ok F F a1 (a1.length : Int) (0 : Int) l31 s0 b25 s31 _ _ _ hs0 (hH36.pick [1, 0, 2, 3, 4] rfl rfl) h)

theorem mkk101 : makeK Tryd.prog 101 = none := by kernel_rfl
theorem cal101 : callable Tryd.prog 101 = true := by kernel_rfl
abbrev alert_sheet_head_post (r : (List UInt8)) : SV → Mem → Prop := fun s _ => s = (.str r)

def alert_sheet_head (F : Nat) (a0 : S_api_Alert) : Option ((List UInt8)) :=
  bnd (sCat [97, 108, 101, 114, 116, 32] a0.Event) fun z28 =>
  bnd (alert_line F z28 ([a0.Version] : List Int)) fun r33 =>
  some r33

theorem alert_sheet_head_ok (F : Nat) (a0 : S_api_Alert) (s0 : SV) (r : (List UInt8)) (M : Mem) (hs0 : Slc (rd M) 1 (FlatR enc3) s0 a0.Cells) (hfx : FixIn M fixes) (h : alert_sheet_head F a0 = some r) : CallsM Tryd.prog 87 [(.agg [(.str a0.Event), (.int .i64 a0.Version), (.int .i64 a0.Time), (.int .i64 a0.Chance.N), (.int .i64 a0.Chance.Of), (.int .i64 a0.Grid), s0, (.bool a0.Withdrawn), (.int .i64 a0.Before)])] M (fun s M' => s = (.str r) ∧ M' = M) := by
  refine CallsM.plain Tryd.func87 rfl rfl rfl (show Run _ _ _ (alert_sheet_head_post r) _ _ _ from ?_)
  rw [alert_sheet_head] at h
  replace hs0 := hs0.mono (rdLe_frozen M) (fun _ _ h => h)
  have hH : Has (ro (frozen M)) (frozen M) [tb0, tb1, tb2] := Has.ofFix hfx.frozen
  refine Run.seq (Run.region ?_)
  refine Run.opX wantS_none rfl (ExG.box rfl rfl hH) ?_
  rintro _ M26 ⟨b25, rfl, (hH26 : Has (ro (frozen M)) M26 [.obj b25 (.row 119 .whole [(.str a0.Event), (.int .i64 a0.Version), (.int .i64 a0.Time), (.int .i64 a0.Chance.N), (.int .i64 a0.Chance.Of), (.int .i64 a0.Grid), s0, (.bool a0.Withdrawn), (.int .i64 a0.Before)]), tb0, tb1, tb2])⟩
  refine Run.opG wantS_none (ex_assign rfl) rfl ?_
  refine Run.opsEnd (Run.seq (Run.region ?_))
  refine Run.opG wantS_none (ex_fieldAddr rfl off119_0) rfl ?_
  refine Run.opG wantS_none (ex_load1 rfl (hH26.cells (i := 0) rfl 0 rfl) rdLe_rfl agg9) rfl ?_
  obtain ⟨z28, hz28, h⟩ := bnd_some h
  refine Run.opG wantS_none (ex_cat rfl rfl hz28) rfl ?_
  refine Run.opG wantS_none (ex_fieldAddr rfl off119_1) rfl ?_
  refine Run.opG wantS_none (ex_load1 rfl (hH26.cells (i := 0) rfl 1 rfl) rdLe_rfl agg3) rfl ?_
  refine Run.opX wantS_none rfl (ExG.built (enc := enc3) (l := ([a0.Version] : List Int)) (z := 1) rfl elt27 rfl rfl rfl enc3_len hH26) ?_
  rintro s30 M31 (hH31 : Has (ro (frozen M)) M31 [.vec 3 1 ([a0.Version] : List Int).length s30 (([a0.Version] : List Int).flatMap enc3), .obj b25 (.row 119 .whole [(.str a0.Event), (.int .i64 a0.Version), (.int .i64 a0.Time), (.int .i64 a0.Chance.N), (.int .i64 a0.Chance.Of), (.int .i64 a0.Grid), s0, (.bool a0.Withdrawn), (.int .i64 a0.Before)]), tb0, tb1, tb2])
  obtain ⟨r33, hr33, h⟩ := bnd_some h
  refine Run.callP wantS_none (ex_call rfl mkk101 cal101) rfl (alert_line_ok F z28 ([a0.Version] : List Int) s30 _ _ (hH31.slc (i := 0) rfl enc3_len) (fixH hH31 (List.mem_of_getElem? (i := 2) rfl) (List.mem_of_getElem? (i := 3) rfl) (List.mem_of_getElem? (i := 4) rfl)) hr33) ?_
  refine Run.opG wantS_none (ex_assign rfl) rfl ?_
  refine Run.opsEnd ?_
  cases h
  exact Run.ret Tryd.func87 rfl (res_tmp rfl res_nil) rfl

theorem mkk88 : makeK Tryd.prog 88 = none := by kernel_rfl
theorem cal88 : callable Tryd.prog 88 = true := by kernel_rfl
theorem off119_2 : fieldOff Tryd.prog 119 2 = some 2 := by kernel_rfl
abbrev alert_sheet_time_post (r : (List UInt8)) : SV → Mem → Prop := fun s _ => s = (.str r)

def alert_sheet_time (F : Nat) (a0 : S_api_Alert) : Option ((List UInt8)) :=
  bnd (alert_line F [116, 105, 109, 101] ([a0.Time] : List Int)) fun r31 =>
  some r31

theorem alert_sheet_time_ok (F : Nat) (a0 : S_api_Alert) (s0 : SV) (r : (List UInt8)) (M : Mem) (hs0 : Slc (rd M) 1 (FlatR enc3) s0 a0.Cells) (hfx : FixIn M fixes) (h : alert_sheet_time F a0 = some r) : CallsM Tryd.prog 88 [(.agg [(.str a0.Event), (.int .i64 a0.Version), (.int .i64 a0.Time), (.int .i64 a0.Chance.N), (.int .i64 a0.Chance.Of), (.int .i64 a0.Grid), s0, (.bool a0.Withdrawn), (.int .i64 a0.Before)])] M (fun s M' => s = (.str r) ∧ M' = M) := by
  refine CallsM.plain Tryd.func88 rfl rfl rfl (show Run _ _ _ (alert_sheet_time_post r) _ _ _ from ?_)
  rw [alert_sheet_time] at h
  replace hs0 := hs0.mono (rdLe_frozen M) (fun _ _ h => h)
  have hH : Has (ro (frozen M)) (frozen M) [tb0, tb1, tb2] := Has.ofFix hfx.frozen
  refine Run.seq (Run.region ?_)
  refine Run.opX wantS_none rfl (ExG.box rfl rfl hH) ?_
  rintro _ M26 ⟨b25, rfl, (hH26 : Has (ro (frozen M)) M26 [.obj b25 (.row 119 .whole [(.str a0.Event), (.int .i64 a0.Version), (.int .i64 a0.Time), (.int .i64 a0.Chance.N), (.int .i64 a0.Chance.Of), (.int .i64 a0.Grid), s0, (.bool a0.Withdrawn), (.int .i64 a0.Before)]), tb0, tb1, tb2])⟩
  refine Run.opG wantS_none (ex_assign rfl) rfl ?_
  refine Run.opsEnd (Run.seq (Run.region ?_))
  refine Run.opG wantS_none (ex_fieldAddr rfl off119_2) rfl ?_
  refine Run.opG wantS_none (ex_load1 rfl (hH26.cells (i := 0) rfl 2 rfl) rdLe_rfl agg3) rfl ?_
  refine Run.opX wantS_none rfl (ExG.built (enc := enc3) (l := ([a0.Time] : List Int)) (z := 1) rfl elt27 rfl rfl rfl enc3_len hH26) ?_
  rintro s28 M29 (hH29 : Has (ro (frozen M)) M29 [.vec 3 1 ([a0.Time] : List Int).length s28 (([a0.Time] : List Int).flatMap enc3), .obj b25 (.row 119 .whole [(.str a0.Event), (.int .i64 a0.Version), (.int .i64 a0.Time), (.int .i64 a0.Chance.N), (.int .i64 a0.Chance.Of), (.int .i64 a0.Grid), s0, (.bool a0.Withdrawn), (.int .i64 a0.Before)]), tb0, tb1, tb2])
  obtain ⟨r31, hr31, h⟩ := bnd_some h
  refine Run.callP wantS_none (ex_call rfl mkk101 cal101) rfl (alert_line_ok F [116, 105, 109, 101] ([a0.Time] : List Int) s28 _ _ (hH29.slc (i := 0) rfl enc3_len) (fixH hH29 (List.mem_of_getElem? (i := 2) rfl) (List.mem_of_getElem? (i := 3) rfl) (List.mem_of_getElem? (i := 4) rfl)) hr31) ?_
  refine Run.opG wantS_none (ex_assign rfl) rfl ?_
  refine Run.opsEnd ?_
  cases h
  exact Run.ret Tryd.func88 rfl (res_tmp rfl res_nil) rfl

theorem mkk89 : makeK Tryd.prog 89 = none := by kernel_rfl
theorem cal89 : callable Tryd.prog 89 = true := by kernel_rfl
theorem off119_3 : fieldOff Tryd.prog 119 3 = some 3 := by kernel_rfl
abbrev alert_sheet_chance_post (r : (List UInt8)) : SV → Mem → Prop := fun s _ => s = (.str r)

def alert_sheet_chance (F : Nat) (a0 : S_api_Alert) : Option ((List UInt8)) :=
  bnd (alert_line F [99, 104, 97, 110, 99, 101] ([a0.Chance.N, a0.Chance.Of] : List Int)) fun r31 =>
  some r31

theorem alert_sheet_chance_ok (F : Nat) (a0 : S_api_Alert) (s0 : SV) (r : (List UInt8)) (M : Mem) (hs0 : Slc (rd M) 1 (FlatR enc3) s0 a0.Cells) (hfx : FixIn M fixes) (h : alert_sheet_chance F a0 = some r) : CallsM Tryd.prog 89 [(.agg [(.str a0.Event), (.int .i64 a0.Version), (.int .i64 a0.Time), (.int .i64 a0.Chance.N), (.int .i64 a0.Chance.Of), (.int .i64 a0.Grid), s0, (.bool a0.Withdrawn), (.int .i64 a0.Before)])] M (fun s M' => s = (.str r) ∧ M' = M) := by
  refine CallsM.plain Tryd.func89 rfl rfl rfl (show Run _ _ _ (alert_sheet_chance_post r) _ _ _ from ?_)
  rw [alert_sheet_chance] at h
  replace hs0 := hs0.mono (rdLe_frozen M) (fun _ _ h => h)
  have hH : Has (ro (frozen M)) (frozen M) [tb0, tb1, tb2] := Has.ofFix hfx.frozen
  refine Run.seq (Run.region ?_)
  refine Run.opX wantS_none rfl (ExG.box rfl rfl hH) ?_
  rintro _ M26 ⟨b25, rfl, (hH26 : Has (ro (frozen M)) M26 [.obj b25 (.row 119 .whole [(.str a0.Event), (.int .i64 a0.Version), (.int .i64 a0.Time), (.int .i64 a0.Chance.N), (.int .i64 a0.Chance.Of), (.int .i64 a0.Grid), s0, (.bool a0.Withdrawn), (.int .i64 a0.Before)]), tb0, tb1, tb2])⟩
  refine Run.opG wantS_none (ex_assign rfl) rfl ?_
  refine Run.opsEnd (Run.seq (Run.region ?_))
  refine Run.opG wantS_none (ex_fieldAddr rfl off119_3) rfl ?_
  refine Run.opG wantS_none (ex_fieldAddr rfl off26_0) rfl ?_
  refine Run.opG wantS_none (ex_load1 rfl (hH26.cells (i := 0) rfl 3 rfl) rdLe_rfl agg3) rfl ?_
  refine Run.opG wantS_none (ex_fieldAddr rfl off119_3) rfl ?_
  refine Run.opG wantS_none (ex_fieldAddr rfl off26_1) rfl ?_
  refine Run.opG wantS_none (ex_load1 rfl (hH26.cells (i := 0) rfl 4 rfl) rdLe_rfl agg3) rfl ?_
  refine Run.opX wantS_none rfl (ExG.built (enc := enc3) (l := ([a0.Chance.N, a0.Chance.Of] : List Int)) (z := 1) rfl elt27 rfl rfl rfl enc3_len hH26) ?_
  rintro s28 M29 (hH29 : Has (ro (frozen M)) M29 [.vec 3 1 ([a0.Chance.N, a0.Chance.Of] : List Int).length s28 (([a0.Chance.N, a0.Chance.Of] : List Int).flatMap enc3), .obj b25 (.row 119 .whole [(.str a0.Event), (.int .i64 a0.Version), (.int .i64 a0.Time), (.int .i64 a0.Chance.N), (.int .i64 a0.Chance.Of), (.int .i64 a0.Grid), s0, (.bool a0.Withdrawn), (.int .i64 a0.Before)]), tb0, tb1, tb2])
  obtain ⟨r31, hr31, h⟩ := bnd_some h
  refine Run.callP wantS_none (ex_call rfl mkk101 cal101) rfl (alert_line_ok F [99, 104, 97, 110, 99, 101] ([a0.Chance.N, a0.Chance.Of] : List Int) s28 _ _ (hH29.slc (i := 0) rfl enc3_len) (fixH hH29 (List.mem_of_getElem? (i := 2) rfl) (List.mem_of_getElem? (i := 3) rfl) (List.mem_of_getElem? (i := 4) rfl)) hr31) ?_
  refine Run.opG wantS_none (ex_assign rfl) rfl ?_
  refine Run.opsEnd ?_
  cases h
  exact Run.ret Tryd.func89 rfl (res_tmp rfl res_nil) rfl

theorem mkk90 : makeK Tryd.prog 90 = none := by kernel_rfl
theorem cal90 : callable Tryd.prog 90 = true := by kernel_rfl
theorem off119_4 : fieldOff Tryd.prog 119 4 = some 5 := by kernel_rfl
abbrev alert_sheet_grid_post (r : (List UInt8)) : SV → Mem → Prop := fun s _ => s = (.str r)

def alert_sheet_grid (F : Nat) (a0 : S_api_Alert) : Option ((List UInt8)) :=
  bnd (alert_line F [103, 114, 105, 100] ([a0.Grid] : List Int)) fun r31 =>
  some r31

theorem alert_sheet_grid_ok (F : Nat) (a0 : S_api_Alert) (s0 : SV) (r : (List UInt8)) (M : Mem) (hs0 : Slc (rd M) 1 (FlatR enc3) s0 a0.Cells) (hfx : FixIn M fixes) (h : alert_sheet_grid F a0 = some r) : CallsM Tryd.prog 90 [(.agg [(.str a0.Event), (.int .i64 a0.Version), (.int .i64 a0.Time), (.int .i64 a0.Chance.N), (.int .i64 a0.Chance.Of), (.int .i64 a0.Grid), s0, (.bool a0.Withdrawn), (.int .i64 a0.Before)])] M (fun s M' => s = (.str r) ∧ M' = M) := by
  refine CallsM.plain Tryd.func90 rfl rfl rfl (show Run _ _ _ (alert_sheet_grid_post r) _ _ _ from ?_)
  rw [alert_sheet_grid] at h
  replace hs0 := hs0.mono (rdLe_frozen M) (fun _ _ h => h)
  have hH : Has (ro (frozen M)) (frozen M) [tb0, tb1, tb2] := Has.ofFix hfx.frozen
  refine Run.seq (Run.region ?_)
  refine Run.opX wantS_none rfl (ExG.box rfl rfl hH) ?_
  rintro _ M26 ⟨b25, rfl, (hH26 : Has (ro (frozen M)) M26 [.obj b25 (.row 119 .whole [(.str a0.Event), (.int .i64 a0.Version), (.int .i64 a0.Time), (.int .i64 a0.Chance.N), (.int .i64 a0.Chance.Of), (.int .i64 a0.Grid), s0, (.bool a0.Withdrawn), (.int .i64 a0.Before)]), tb0, tb1, tb2])⟩
  refine Run.opG wantS_none (ex_assign rfl) rfl ?_
  refine Run.opsEnd (Run.seq (Run.region ?_))
  refine Run.opG wantS_none (ex_fieldAddr rfl off119_4) rfl ?_
  refine Run.opG wantS_none (ex_load1 rfl (hH26.cells (i := 0) rfl 5 rfl) rdLe_rfl agg3) rfl ?_
  refine Run.opX wantS_none rfl (ExG.built (enc := enc3) (l := ([a0.Grid] : List Int)) (z := 1) rfl elt27 rfl rfl rfl enc3_len hH26) ?_
  rintro s28 M29 (hH29 : Has (ro (frozen M)) M29 [.vec 3 1 ([a0.Grid] : List Int).length s28 (([a0.Grid] : List Int).flatMap enc3), .obj b25 (.row 119 .whole [(.str a0.Event), (.int .i64 a0.Version), (.int .i64 a0.Time), (.int .i64 a0.Chance.N), (.int .i64 a0.Chance.Of), (.int .i64 a0.Grid), s0, (.bool a0.Withdrawn), (.int .i64 a0.Before)]), tb0, tb1, tb2])
  obtain ⟨r31, hr31, h⟩ := bnd_some h
  refine Run.callP wantS_none (ex_call rfl mkk101 cal101) rfl (alert_line_ok F [103, 114, 105, 100] ([a0.Grid] : List Int) s28 _ _ (hH29.slc (i := 0) rfl enc3_len) (fixH hH29 (List.mem_of_getElem? (i := 2) rfl) (List.mem_of_getElem? (i := 3) rfl) (List.mem_of_getElem? (i := 4) rfl)) hr31) ?_
  refine Run.opG wantS_none (ex_assign rfl) rfl ?_
  refine Run.opsEnd ?_
  cases h
  exact Run.ret Tryd.func90 rfl (res_tmp rfl res_nil) rfl

theorem mkk91 : makeK Tryd.prog 91 = none := by kernel_rfl
theorem cal91 : callable Tryd.prog 91 = true := by kernel_rfl
theorem off119_6 : fieldOff Tryd.prog 119 6 = some 7 := by kernel_rfl
theorem off119_5 : fieldOff Tryd.prog 119 5 = some 6 := by kernel_rfl
abbrev alert_sheet_where_post (r : (List UInt8)) : SV → Mem → Prop := fun s _ => s = (.str r)

def alert_sheet_where (F : Nat) (a0 : S_api_Alert) : Option ((List UInt8)) :=
  bif a0.Withdrawn then
    bnd (alert_line F [119, 105, 116, 104, 100, 114, 97, 119, 110] []) fun r29 =>
    some r29
  else
    bnd (alert_line F [99, 101, 108, 108, 115] a0.Cells) fun r32 =>
    some r32

theorem alert_sheet_where_ok (F : Nat) (a0 : S_api_Alert) (s0 : SV) (r : (List UInt8)) (M : Mem) (hs0 : Slc (rd M) 1 (FlatR enc3) s0 a0.Cells) (hfx : FixIn M fixes) (h : alert_sheet_where F a0 = some r) : CallsM Tryd.prog 91 [(.agg [(.str a0.Event), (.int .i64 a0.Version), (.int .i64 a0.Time), (.int .i64 a0.Chance.N), (.int .i64 a0.Chance.Of), (.int .i64 a0.Grid), s0, (.bool a0.Withdrawn), (.int .i64 a0.Before)])] M (fun s M' => s = (.str r) ∧ M' = M) := by
  refine CallsM.plain Tryd.func91 rfl rfl rfl (show Run _ _ _ (alert_sheet_where_post r) _ _ _ from ?_)
  rw [alert_sheet_where] at h
  replace hs0 := hs0.mono (rdLe_frozen M) (fun _ _ h => h)
  have hH : Has (ro (frozen M)) (frozen M) [tb0, tb1, tb2] := Has.ofFix hfx.frozen
  refine Run.seq (Run.region ?_)
  refine Run.opX wantS_none rfl (ExG.box rfl rfl hH) ?_
  rintro _ M26 ⟨b25, rfl, (hH26 : Has (ro (frozen M)) M26 [.obj b25 (.row 119 .whole [(.str a0.Event), (.int .i64 a0.Version), (.int .i64 a0.Time), (.int .i64 a0.Chance.N), (.int .i64 a0.Chance.Of), (.int .i64 a0.Grid), s0, (.bool a0.Withdrawn), (.int .i64 a0.Before)]), tb0, tb1, tb2])⟩
  refine Run.opG wantS_none (ex_assign rfl) rfl ?_
  refine Run.opsEnd (Run.seq (Run.seq (Run.region ?_)))
  refine Run.opG wantS_none (ex_fieldAddr rfl off119_6) rfl ?_
  refine Run.opG wantS_none (ex_load1 rfl (hH26.cells (i := 0) rfl 7 rfl) rdLe_rfl agg4) rfl ?_
  refine Run.opsEnd ?_
  rcases btf (a0.Withdrawn) with hc27 | hc27
  · have h := bif_t hc27 h
    refine Run.condT' rfl hc27 ?_
    refine Run.seq (Run.region ?_)
    obtain ⟨r29, hr29, h⟩ := bnd_some h
    refine Run.callP wantS_none (ex_call rfl mkk101 cal101) rfl (alert_line_ok F [119, 105, 116, 104, 100, 114, 97, 119, 110] [] .nils _ _ slc_nil (fixH hH26 (List.mem_of_getElem? (i := 1) rfl) (List.mem_of_getElem? (i := 2) rfl) (List.mem_of_getElem? (i := 3) rfl)) hr29) ?_
    refine Run.opG wantS_none (ex_assign rfl) rfl ?_
    refine Run.opsEnd ?_
    cases h
    exact Run.ret Tryd.func91 rfl (res_tmp rfl res_nil) rfl
  · have h := bif_f hc27 h
    refine Run.condF' rfl hc27 ?_
    refine Run.skip (Run.seq (Run.region ?_))
    refine Run.opG wantS_none (ex_fieldAddr rfl off119_5) rfl ?_
    refine Run.opG wantS_none (ex_load1 rfl (hH26.cells (i := 0) rfl 6 rfl) rdLe_rfl agg27) rfl ?_
    obtain ⟨r32, hr32, h⟩ := bnd_some h
    refine Run.callP wantS_none (ex_call rfl mkk101 cal101) rfl (alert_line_ok F [99, 101, 108, 108, 115] a0.Cells s0 _ _ (hH26.slcF hs0) (fixH hH26 (List.mem_of_getElem? (i := 1) rfl) (List.mem_of_getElem? (i := 2) rfl) (List.mem_of_getElem? (i := 3) rfl)) hr32) ?_
    refine Run.opG wantS_none (ex_assign rfl) rfl ?_
    refine Run.opsEnd ?_
    cases h
    exact Run.ret Tryd.func91 rfl (res_tmp rfl res_nil) rfl

theorem mkk92 : makeK Tryd.prog 92 = none := by kernel_rfl
theorem cal92 : callable Tryd.prog 92 = true := by kernel_rfl
theorem off119_7 : fieldOff Tryd.prog 119 7 = some 8 := by kernel_rfl
abbrev alert_sheet_before_post (r : (List UInt8)) : SV → Mem → Prop := fun s _ => s = (.str r)

def alert_sheet_before (F : Nat) (a0 : S_api_Alert) : Option ((List UInt8)) :=
  bnd (alert_line F [98, 101, 102, 111, 114, 101] ([a0.Before] : List Int)) fun r31 =>
  some r31

theorem alert_sheet_before_ok (F : Nat) (a0 : S_api_Alert) (s0 : SV) (r : (List UInt8)) (M : Mem) (hs0 : Slc (rd M) 1 (FlatR enc3) s0 a0.Cells) (hfx : FixIn M fixes) (h : alert_sheet_before F a0 = some r) : CallsM Tryd.prog 92 [(.agg [(.str a0.Event), (.int .i64 a0.Version), (.int .i64 a0.Time), (.int .i64 a0.Chance.N), (.int .i64 a0.Chance.Of), (.int .i64 a0.Grid), s0, (.bool a0.Withdrawn), (.int .i64 a0.Before)])] M (fun s M' => s = (.str r) ∧ M' = M) := by
  refine CallsM.plain Tryd.func92 rfl rfl rfl (show Run _ _ _ (alert_sheet_before_post r) _ _ _ from ?_)
  rw [alert_sheet_before] at h
  replace hs0 := hs0.mono (rdLe_frozen M) (fun _ _ h => h)
  have hH : Has (ro (frozen M)) (frozen M) [tb0, tb1, tb2] := Has.ofFix hfx.frozen
  refine Run.seq (Run.region ?_)
  refine Run.opX wantS_none rfl (ExG.box rfl rfl hH) ?_
  rintro _ M26 ⟨b25, rfl, (hH26 : Has (ro (frozen M)) M26 [.obj b25 (.row 119 .whole [(.str a0.Event), (.int .i64 a0.Version), (.int .i64 a0.Time), (.int .i64 a0.Chance.N), (.int .i64 a0.Chance.Of), (.int .i64 a0.Grid), s0, (.bool a0.Withdrawn), (.int .i64 a0.Before)]), tb0, tb1, tb2])⟩
  refine Run.opG wantS_none (ex_assign rfl) rfl ?_
  refine Run.opsEnd (Run.seq (Run.region ?_))
  refine Run.opG wantS_none (ex_fieldAddr rfl off119_7) rfl ?_
  refine Run.opG wantS_none (ex_load1 rfl (hH26.cells (i := 0) rfl 8 rfl) rdLe_rfl agg3) rfl ?_
  refine Run.opX wantS_none rfl (ExG.built (enc := enc3) (l := ([a0.Before] : List Int)) (z := 1) rfl elt27 rfl rfl rfl enc3_len hH26) ?_
  rintro s28 M29 (hH29 : Has (ro (frozen M)) M29 [.vec 3 1 ([a0.Before] : List Int).length s28 (([a0.Before] : List Int).flatMap enc3), .obj b25 (.row 119 .whole [(.str a0.Event), (.int .i64 a0.Version), (.int .i64 a0.Time), (.int .i64 a0.Chance.N), (.int .i64 a0.Chance.Of), (.int .i64 a0.Grid), s0, (.bool a0.Withdrawn), (.int .i64 a0.Before)]), tb0, tb1, tb2])
  obtain ⟨r31, hr31, h⟩ := bnd_some h
  refine Run.callP wantS_none (ex_call rfl mkk101 cal101) rfl (alert_line_ok F [98, 101, 102, 111, 114, 101] ([a0.Before] : List Int) s28 _ _ (hH29.slc (i := 0) rfl enc3_len) (fixH hH29 (List.mem_of_getElem? (i := 2) rfl) (List.mem_of_getElem? (i := 3) rfl) (List.mem_of_getElem? (i := 4) rfl)) hr31) ?_
  refine Run.opG wantS_none (ex_assign rfl) rfl ?_
  refine Run.opsEnd ?_
  cases h
  exact Run.ret Tryd.func92 rfl (res_tmp rfl res_nil) rfl

theorem mkk93 : makeK Tryd.prog 93 = none := by kernel_rfl
theorem cal93 : callable Tryd.prog 93 = true := by kernel_rfl
abbrev alert_sheet_end_post (r : (List UInt8)) : SV → Mem → Prop := fun s _ => s = (.str r)

def alert_sheet_end (F : Nat) (a0 : S_api_Alert) : Option ((List UInt8)) :=
  bnd (alert_line F [101, 110, 100] []) fun r28 =>
  some r28

theorem alert_sheet_end_ok (F : Nat) (a0 : S_api_Alert) (s0 : SV) (r : (List UInt8)) (M : Mem) (hs0 : Slc (rd M) 1 (FlatR enc3) s0 a0.Cells) (hfx : FixIn M fixes) (h : alert_sheet_end F a0 = some r) : CallsM Tryd.prog 93 [(.agg [(.str a0.Event), (.int .i64 a0.Version), (.int .i64 a0.Time), (.int .i64 a0.Chance.N), (.int .i64 a0.Chance.Of), (.int .i64 a0.Grid), s0, (.bool a0.Withdrawn), (.int .i64 a0.Before)])] M (fun s M' => s = (.str r) ∧ M' = M) := by
  refine CallsM.plain Tryd.func93 rfl rfl rfl (show Run _ _ _ (alert_sheet_end_post r) _ _ _ from ?_)
  rw [alert_sheet_end] at h
  replace hs0 := hs0.mono (rdLe_frozen M) (fun _ _ h => h)
  have hH : Has (ro (frozen M)) (frozen M) [tb0, tb1, tb2] := Has.ofFix hfx.frozen
  refine Run.seq (Run.region ?_)
  refine Run.opX wantS_none rfl (ExG.box rfl rfl hH) ?_
  rintro _ M26 ⟨b25, rfl, (hH26 : Has (ro (frozen M)) M26 [.obj b25 (.row 119 .whole [(.str a0.Event), (.int .i64 a0.Version), (.int .i64 a0.Time), (.int .i64 a0.Chance.N), (.int .i64 a0.Chance.Of), (.int .i64 a0.Grid), s0, (.bool a0.Withdrawn), (.int .i64 a0.Before)]), tb0, tb1, tb2])⟩
  refine Run.opG wantS_none (ex_assign rfl) rfl ?_
  refine Run.opsEnd (Run.seq (Run.region ?_))
  obtain ⟨r28, hr28, h⟩ := bnd_some h
  refine Run.callP wantS_none (ex_call rfl mkk101 cal101) rfl (alert_line_ok F [101, 110, 100] [] .nils _ _ slc_nil (fixH hH26 (List.mem_of_getElem? (i := 1) rfl) (List.mem_of_getElem? (i := 2) rfl) (List.mem_of_getElem? (i := 3) rfl)) hr28) ?_
  refine Run.opG wantS_none (ex_assign rfl) rfl ?_
  refine Run.opsEnd ?_
  cases h
  exact Run.ret Tryd.func93 rfl (res_tmp rfl res_nil) rfl

abbrev alert_textOf_post (r : (List UInt8)) : SV → Mem → Prop := fun s _ => s = (.str r)

def alert_textOf_8 (F : Nat) : Nat → (List UInt8) → Int → Int → Int → Int → Int → (List Int) → Bool → Int → (List Int) → Option ((List UInt8))
  | 0, _, _, _, _, _, _, _, _, _, _ => none
  | N + 1, v24_0_x0_0, v24_0_x0_1, v24_0_x0_2, v24_0_x0_3, v24_0_x0_4, v24_0_x0_5, v24_0_x0_6, v24_0_x0_7, v24_0_x0_8, l102 =>
    bnd (neB l102) fun u105 =>
    bnd (strOf l102) fun z106 =>
    some z106

theorem alert_textOf_8_ok (F : Nat) : ∀ (N : Nat), ∀ (v24_0_x0_0 : (List UInt8)) (v24_0_x0_1 : Int) (v24_0_x0_2 : Int) (v24_0_x0_3 : Int) (v24_0_x0_4 : Int) (v24_0_x0_5 : Int) (v24_0_x0_6 : (List Int)) (v24_0_x0_7 : Bool) (v24_0_x0_8 : Int) (l102 : (List Int)) (sv24_0_x0_6 : SV) (b36 : Pos) (s102 : SV) (Fr : Rd) (M : Mem) (r : (List UInt8)) (hv24_0_x0_6 : Slc Fr 1 (FlatR enc3) sv24_0_x0_6 v24_0_x0_6) (hH : Has Fr M [.obj b36 (.row 124 .whole [(.ptr b36 0), s102]), .vec 5 1 l102.length s102 (l102.flatMap enc5), tb0, tb1, tb2]), alert_textOf_8 F N v24_0_x0_0 v24_0_x0_1 v24_0_x0_2 v24_0_x0_3 v24_0_x0_4 v24_0_x0_5 v24_0_x0_6 v24_0_x0_7 v24_0_x0_8 l102 = some r → Run Tryd.prog ⟨⟨75, [], none⟩, []⟩ 33 (alert_textOf_post r) [(5, (.ptr b36 0)), (24, (.agg [(.fn (.func 87) [(.agg [(.str v24_0_x0_0), (.int .i64 v24_0_x0_1), (.int .i64 v24_0_x0_2), (.int .i64 v24_0_x0_3), (.int .i64 v24_0_x0_4), (.int .i64 v24_0_x0_5), sv24_0_x0_6, (.bool v24_0_x0_7), (.int .i64 v24_0_x0_8)])] []), (.fn (.func 88) [(.agg [(.str v24_0_x0_0), (.int .i64 v24_0_x0_1), (.int .i64 v24_0_x0_2), (.int .i64 v24_0_x0_3), (.int .i64 v24_0_x0_4), (.int .i64 v24_0_x0_5), sv24_0_x0_6, (.bool v24_0_x0_7), (.int .i64 v24_0_x0_8)])] []), (.fn (.func 89) [(.agg [(.str v24_0_x0_0), (.int .i64 v24_0_x0_1), (.int .i64 v24_0_x0_2), (.int .i64 v24_0_x0_3), (.int .i64 v24_0_x0_4), (.int .i64 v24_0_x0_5), sv24_0_x0_6, (.bool v24_0_x0_7), (.int .i64 v24_0_x0_8)])] []), (.fn (.func 90) [(.agg [(.str v24_0_x0_0), (.int .i64 v24_0_x0_1), (.int .i64 v24_0_x0_2), (.int .i64 v24_0_x0_3), (.int .i64 v24_0_x0_4), (.int .i64 v24_0_x0_5), sv24_0_x0_6, (.bool v24_0_x0_7), (.int .i64 v24_0_x0_8)])] []), (.fn (.func 91) [(.agg [(.str v24_0_x0_0), (.int .i64 v24_0_x0_1), (.int .i64 v24_0_x0_2), (.int .i64 v24_0_x0_3), (.int .i64 v24_0_x0_4), (.int .i64 v24_0_x0_5), sv24_0_x0_6, (.bool v24_0_x0_7), (.int .i64 v24_0_x0_8)])] []), (.fn (.func 92) [(.agg [(.str v24_0_x0_0), (.int .i64 v24_0_x0_1), (.int .i64 v24_0_x0_2), (.int .i64 v24_0_x0_3), (.int .i64 v24_0_x0_4), (.int .i64 v24_0_x0_5), sv24_0_x0_6, (.bool v24_0_x0_7), (.int .i64 v24_0_x0_8)])] []), (.fn (.func 93) [(.agg [(.str v24_0_x0_0), (.int .i64 v24_0_x0_1), (.int .i64 v24_0_x0_2), (.int .i64 v24_0_x0_3), (.int .i64 v24_0_x0_4), (.int .i64 v24_0_x0_5), sv24_0_x0_6, (.bool v24_0_x0_7), (.int .i64 v24_0_x0_8)])] [])])), (25, (.int .i64 7))] [codeC Tryd.prog 75 [1, 1, 1, 1, 0, 1, 0, 0], loopC Tryd.prog 75 [1, 1, 1, 1, 0, 1, 0, 0], .inBlock 0, codeC Tryd.prog 75 [1, 1, 1, 1, 1]] M := by
  intro N
  induction N with
  | zero =>
    intro v24_0_x0_0 v24_0_x0_1 v24_0_x0_2 v24_0_x0_3 v24_0_x0_4 v24_0_x0_5 v24_0_x0_6 v24_0_x0_7 v24_0_x0_8 l102 sv24_0_x0_6 b36 s102 Fr M r hv24_0_x0_6 hH h
    simp [alert_textOf_8] at h
  | succ N ih =>
    intro v24_0_x0_0 v24_0_x0_1 v24_0_x0_2 v24_0_x0_3 v24_0_x0_4 v24_0_x0_5 v24_0_x0_6 v24_0_x0_7 v24_0_x0_8 l102 sv24_0_x0_6 b36 s102 Fr M r hv24_0_x0_6 hH h
    rw [alert_textOf_8] at h
    refine Run.seq (Run.region ?_)
    refine Run.opG wantS_none (ex_lss rfl rfl) rfl ?_
    refine Run.opsEnd (Run.seq ?_)
    refine Run.condF' rfl rfl ?_
    refine Run.exit rfl (Run.seq (Run.region ?_))
    refine Run.enter wantS_none (ex_call rfl mkk95 cal95) Tryd.func95 rfl rfl ?_
    refine Run.seq (Run.region ?_)
    refine Run.opG wantS_none (ex_assign rfl) rfl ?_
    refine Run.opsEnd (Run.seq ?_)
    refine Run.drawG plan95_1_0 ?_
    refine DrawG.fl rfl (ev_ex wantS_none (ex_move rfl)) rfl ?_
    refine DrawG.fl rfl (ev_ex wantS_none (ex_nilP rfl)) rfl ?_
    refine DrawG.fl rfl (ev_ex wantS_none (ex_fieldAddr rfl off124_1)) rfl ?_
    refine DrawG.fl rfl (ev_ex wantS_none (ex_load1 rfl (hH.cells (i := 0) rfl 1 rfl) rdLe_rfl agg108)) rfl ?_
    obtain ⟨u105, hu105, h⟩ := bnd_some h
    obtain ⟨p105, hb105, hx105⟩ := vec_data (P := Tryd.prog) hH (i := 1) rfl (neB_some hu105)
    refine DrawG.fl rfl (ev_ex wantS_none (hx105 _ _ _ _ rfl)) rfl ?_
    refine DrawG.fl rfl (ev_ex wantS_none (ex_move rfl)) rfl ?_
    refine DrawG.fl rfl (ev_ex wantS_none (ex_nilP rfl)) rfl ?_
    refine DrawG.fl rfl (ev_ex wantS_none (ex_fieldAddr rfl off124_1)) rfl ?_
    refine DrawG.fl rfl (ev_ex wantS_none (ex_load1 rfl (hH.cells (i := 0) rfl 1 rfl) rdLe_rfl agg108)) rfl ?_
    refine DrawG.fl rfl (ev_ex wantS_none (ex_len' rfl (hH.slc (i := 1) rfl enc5_len) lenk108)) rfl ?_
    obtain ⟨z106, hz106, h⟩ := bnd_some h
    refine DrawG.opX rfl wantS_none rfl (ExG.uString (enc := enc5) (fun _ => rfl) rfl rfl hH (i := 1) rfl hb105 pte135 clo5 hz106) ?_
    rintro _ M107 ⟨rfl, (hH107 : Has Fr M107 [.obj b36 (.row 124 .whole [(.ptr b36 0), s102]), .vec 0 0 0 .nils [], tb0, tb1, tb2])⟩
    refine ⟨st_nil, ?_⟩
    refine DrawG.fl rfl (ev_ex wantS_none (ex_assign rfl)) rfl ?_
    refine DrawG.sync ?_
    refine DrawG.nil ?_
    refine Run.retTo Tryd.func95 rfl (res_tmp rfl res_nil) rfl ?_
    refine Run.opG wantS_none (ex_assign rfl) rfl ?_
    refine Run.opsEnd ?_
    cases h
    exact Run.ret Tryd.func75 rfl (res_tmp rfl res_nil) rfl

def alert_textOf_7 (F : Nat) : Nat → (List UInt8) → Int → Int → Int → Int → Int → (List Int) → Bool → Int → (List Int) → Option ((List UInt8))
  | 0, _, _, _, _, _, _, _, _, _, _ => none
  | N + 1, v24_0_x0_0, v24_0_x0_1, v24_0_x0_2, v24_0_x0_3, v24_0_x0_4, v24_0_x0_5, v24_0_x0_6, v24_0_x0_7, v24_0_x0_8, l93 =>
    bnd (alert_sheet_end F (S_api_Alert.mk v24_0_x0_0 v24_0_x0_1 v24_0_x0_2 (S_api_Chance.mk v24_0_x0_3 v24_0_x0_4) v24_0_x0_5 v24_0_x0_6 v24_0_x0_7 v24_0_x0_8)) fun r97 =>
    bnd (apd 1 l93 (bytesI r97)) fun l101 =>
    alert_textOf_8 F F v24_0_x0_0 v24_0_x0_1 v24_0_x0_2 v24_0_x0_3 v24_0_x0_4 v24_0_x0_5 v24_0_x0_6 v24_0_x0_7 v24_0_x0_8 l101

theorem alert_textOf_7_ok (F : Nat) : ∀ (N : Nat), ∀ (v24_0_x0_0 : (List UInt8)) (v24_0_x0_1 : Int) (v24_0_x0_2 : Int) (v24_0_x0_3 : Int) (v24_0_x0_4 : Int) (v24_0_x0_5 : Int) (v24_0_x0_6 : (List Int)) (v24_0_x0_7 : Bool) (v24_0_x0_8 : Int) (l93 : (List Int)) (sv24_0_x0_6 : SV) (b36 : Pos) (s93 : SV) (Fr : Rd) (M : Mem) (r : (List UInt8)) (hv24_0_x0_6 : Slc Fr 1 (FlatR enc3) sv24_0_x0_6 v24_0_x0_6) (hH : Has Fr M [.obj b36 (.row 124 .whole [(.ptr b36 0), s93]), .vec 5 1 l93.length s93 (l93.flatMap enc5), tb0, tb1, tb2]), alert_textOf_7 F N v24_0_x0_0 v24_0_x0_1 v24_0_x0_2 v24_0_x0_3 v24_0_x0_4 v24_0_x0_5 v24_0_x0_6 v24_0_x0_7 v24_0_x0_8 l93 = some r → Run Tryd.prog ⟨⟨75, [], none⟩, []⟩ 33 (alert_textOf_post r) [(5, (.ptr b36 0)), (24, (.agg [(.fn (.func 87) [(.agg [(.str v24_0_x0_0), (.int .i64 v24_0_x0_1), (.int .i64 v24_0_x0_2), (.int .i64 v24_0_x0_3), (.int .i64 v24_0_x0_4), (.int .i64 v24_0_x0_5), sv24_0_x0_6, (.bool v24_0_x0_7), (.int .i64 v24_0_x0_8)])] []), (.fn (.func 88) [(.agg [(.str v24_0_x0_0), (.int .i64 v24_0_x0_1), (.int .i64 v24_0_x0_2), (.int .i64 v24_0_x0_3), (.int .i64 v24_0_x0_4), (.int .i64 v24_0_x0_5), sv24_0_x0_6, (.bool v24_0_x0_7), (.int .i64 v24_0_x0_8)])] []), (.fn (.func 89) [(.agg [(.str v24_0_x0_0), (.int .i64 v24_0_x0_1), (.int .i64 v24_0_x0_2), (.int .i64 v24_0_x0_3), (.int .i64 v24_0_x0_4), (.int .i64 v24_0_x0_5), sv24_0_x0_6, (.bool v24_0_x0_7), (.int .i64 v24_0_x0_8)])] []), (.fn (.func 90) [(.agg [(.str v24_0_x0_0), (.int .i64 v24_0_x0_1), (.int .i64 v24_0_x0_2), (.int .i64 v24_0_x0_3), (.int .i64 v24_0_x0_4), (.int .i64 v24_0_x0_5), sv24_0_x0_6, (.bool v24_0_x0_7), (.int .i64 v24_0_x0_8)])] []), (.fn (.func 91) [(.agg [(.str v24_0_x0_0), (.int .i64 v24_0_x0_1), (.int .i64 v24_0_x0_2), (.int .i64 v24_0_x0_3), (.int .i64 v24_0_x0_4), (.int .i64 v24_0_x0_5), sv24_0_x0_6, (.bool v24_0_x0_7), (.int .i64 v24_0_x0_8)])] []), (.fn (.func 92) [(.agg [(.str v24_0_x0_0), (.int .i64 v24_0_x0_1), (.int .i64 v24_0_x0_2), (.int .i64 v24_0_x0_3), (.int .i64 v24_0_x0_4), (.int .i64 v24_0_x0_5), sv24_0_x0_6, (.bool v24_0_x0_7), (.int .i64 v24_0_x0_8)])] []), (.fn (.func 93) [(.agg [(.str v24_0_x0_0), (.int .i64 v24_0_x0_1), (.int .i64 v24_0_x0_2), (.int .i64 v24_0_x0_3), (.int .i64 v24_0_x0_4), (.int .i64 v24_0_x0_5), sv24_0_x0_6, (.bool v24_0_x0_7), (.int .i64 v24_0_x0_8)])] [])])), (25, (.int .i64 6))] [codeC Tryd.prog 75 [1, 1, 1, 1, 0, 1, 0, 0], loopC Tryd.prog 75 [1, 1, 1, 1, 0, 1, 0, 0], .inBlock 0, codeC Tryd.prog 75 [1, 1, 1, 1, 1]] M := by
  intro N
  induction N with
  | zero =>
    intro v24_0_x0_0 v24_0_x0_1 v24_0_x0_2 v24_0_x0_3 v24_0_x0_4 v24_0_x0_5 v24_0_x0_6 v24_0_x0_7 v24_0_x0_8 l93 sv24_0_x0_6 b36 s93 Fr M r hv24_0_x0_6 hH h
    simp [alert_textOf_7] at h
  | succ N ih =>
    intro v24_0_x0_0 v24_0_x0_1 v24_0_x0_2 v24_0_x0_3 v24_0_x0_4 v24_0_x0_5 v24_0_x0_6 v24_0_x0_7 v24_0_x0_8 l93 sv24_0_x0_6 b36 s93 Fr M r hv24_0_x0_6 hH h
    rw [alert_textOf_7] at h
    refine Run.seq (Run.region ?_)
    refine Run.opG wantS_none (ex_lss rfl rfl) rfl ?_
    refine Run.opsEnd (Run.seq ?_)
    refine Run.condT' rfl rfl ?_
    refine Run.skip (Run.seq (Run.block (Run.seq (Run.region ?_))))
    refine Run.opG wantS_none (ex_idxA (j := 6) rfl rfl wha121 rfl (part_one agg120 rfl)) rfl ?_
    refine Run.opG wantS_none (ex_assign rfl) rfl ?_
    refine Run.opsEnd (Run.region ?_)
    refine Run.opG wantS_none (ex_move rfl) rfl ?_
    obtain ⟨r97, hr97, h⟩ := bnd_some h
    refine Run.callP wantS_none (ex_closure rfl rfl mkk93 cal93) rfl (alert_sheet_end_ok F (S_api_Alert.mk v24_0_x0_0 v24_0_x0_1 v24_0_x0_2 (S_api_Chance.mk v24_0_x0_3 v24_0_x0_4) v24_0_x0_5 v24_0_x0_6 v24_0_x0_7 v24_0_x0_8) sv24_0_x0_6 _ _ (hH.slcF hv24_0_x0_6) (fixH hH (List.mem_of_getElem? (i := 2) rfl) (List.mem_of_getElem? (i := 3) rfl) (List.mem_of_getElem? (i := 4) rfl)) hr97) ?_
    refine Run.enter wantS_none (ex_call rfl mkk94 cal94) Tryd.func94 rfl rfl ?_
    refine Run.seq (Run.region ?_)
    refine Run.opG wantS_none (ex_assign rfl) rfl ?_
    refine Run.opG wantS_none (ex_assign rfl) rfl ?_
    refine Run.opsEnd (Run.seq (Run.region ?_))
    refine Run.opG wantS_none (ex_move rfl) rfl ?_
    refine Run.enter wantS_none (ex_call rfl mkk102 cal102) Tryd.func102 rfl rfl ?_
    refine Run.seq (Run.region ?_)
    refine Run.opG wantS_none (ex_move rfl) rfl ?_
    refine Run.opG wantS_none (ex_nilP rfl) rfl ?_
    refine Run.opG wantS_none (ex_fieldAddr rfl off124_0) rfl ?_
    refine Run.opG wantS_none (ex_load1 rfl (hH.cells (i := 0) rfl 0 rfl) rdLe_rfl agg122) rfl ?_
    refine Run.opG wantS_none (ex_ptrPN rfl rfl eqk122) rfl ?_
    refine Run.opsEnd ?_
    refine Run.condF' rfl rfl ?_
    refine Run.seq (Run.region ?_)
    refine Run.opG wantS_none (ex_move rfl) rfl ?_
    refine Run.opG wantS_none (ex_nilP rfl) rfl ?_
    refine Run.opG wantS_none (ex_fieldAddr rfl off124_0) rfl ?_
    refine Run.opG wantS_none (ex_load1 rfl (hH.cells (i := 0) rfl 0 rfl) rdLe_rfl agg122) rfl ?_
    refine Run.opG wantS_none (ex_move rfl) rfl ?_
    refine Run.opG wantS_none (ex_ptrSamen rfl rfl pte122 inf124) rfl ?_
    refine Run.opsEnd ?_
    refine Run.condF' rfl rfl ?_
    refine Run.skip ?_
    refine Run.fallTo Tryd.func102 rfl res_nil rfl ?_
    refine Run.opsEnd (Run.seq (Run.region ?_))
    refine Run.opG wantS_none (ex_move rfl) rfl ?_
    refine Run.opG wantS_none (ex_move rfl) rfl ?_
    refine Run.opG wantS_none (ex_nilP rfl) rfl ?_
    refine Run.opG wantS_none (ex_fieldAddr rfl off124_1) rfl ?_
    refine Run.opG wantS_none (ex_load1 rfl (hH.cells (i := 0) rfl 1 rfl) rdLe_rfl agg108) rfl ?_
    refine Run.opG wantS_none (ex_move rfl) rfl ?_
    obtain ⟨l101, hl101, h⟩ := bnd_some h
    refine Run.opX wantS_none rfl (ExG.append rfl rfl hH (i := 1) rfl enc5_len rfl enc5_ones appt108_9 rfl (str_lenZ rfl _) (str_first (fun _ => rfl) _) hl101) ?_
    rintro s101 M103 (hH103 : Has Fr M103 [.obj b36 (.row 124 .whole [(.ptr b36 0), s93]), .vec 5 1 l101.length s101 (l101.flatMap enc5), tb0, tb1, tb2])
    refine Run.opG wantS_none (ex_nilP rfl) rfl ?_
    refine Run.opG wantS_none (ex_fieldAddr rfl off124_1) rfl ?_
    refine Run.opX wantS_none rfl (ExG.storeC (c' := [(.ptr b36 0), s101]) rfl rfl (cells_one (vec_one hH103 (i := 1) rfl)) hH103 (i := 0) rfl sz108 rfl rfl rfl (ones_cons (vec_one hH103 (i := 1) rfl) ones_nil) rfl) ?_
    rintro _ M104 ⟨rfl, (hH104 : Has Fr M104 [.obj b36 (.row 124 .whole [(.ptr b36 0), s101]), .vec 5 1 l101.length s101 (l101.flatMap enc5), tb0, tb1, tb2])⟩
    refine Run.opsEnd (Run.seq (Run.region ?_))
    refine Run.opG wantS_none (ex_move rfl) rfl ?_
    refine Run.opG wantS_none (ex_lenS rfl lenk9) rfl ?_
    refine Run.opG wantS_none (ex_assign rfl) rfl ?_
    refine Run.opG wantS_none (ex_assign rfl) rfl ?_
    refine Run.opsEnd ?_
    refine Run.retTo Tryd.func94 rfl (res_tmp rfl (res_tmp rfl res_nil)) rfl ?_
    refine Run.opsEnd (Run.inBlock (Run.region ?_))
    refine Run.opG wantS_none (ex_add rfl rfl) rfl ?_
    refine Run.opG wantS_none (ex_move rfl) rfl ?_
    refine Run.opsEnd (Run.inLoop ?_)
    exact Run.pick [5, 24, 25] (alert_textOf_8_ok F F v24_0_x0_0 v24_0_x0_1 v24_0_x0_2 v24_0_x0_3 v24_0_x0_4 v24_0_x0_5 v24_0_x0_6 v24_0_x0_7 v24_0_x0_8 l101 sv24_0_x0_6 b36 s101 _ _ _ hv24_0_x0_6 hH104 h)

def alert_textOf_6 (F : Nat) : Nat → (List UInt8) → Int → Int → Int → Int → Int → (List Int) → Bool → Int → (List Int) → Option ((List UInt8))
  | 0, _, _, _, _, _, _, _, _, _, _ => none
  | N + 1, v24_0_x0_0, v24_0_x0_1, v24_0_x0_2, v24_0_x0_3, v24_0_x0_4, v24_0_x0_5, v24_0_x0_6, v24_0_x0_7, v24_0_x0_8, l84 =>
    bnd (alert_sheet_before F (S_api_Alert.mk v24_0_x0_0 v24_0_x0_1 v24_0_x0_2 (S_api_Chance.mk v24_0_x0_3 v24_0_x0_4) v24_0_x0_5 v24_0_x0_6 v24_0_x0_7 v24_0_x0_8)) fun r88 =>
    bnd (apd 1 l84 (bytesI r88)) fun l92 =>
    alert_textOf_7 F F v24_0_x0_0 v24_0_x0_1 v24_0_x0_2 v24_0_x0_3 v24_0_x0_4 v24_0_x0_5 v24_0_x0_6 v24_0_x0_7 v24_0_x0_8 l92

theorem alert_textOf_6_ok (F : Nat) : ∀ (N : Nat), ∀ (v24_0_x0_0 : (List UInt8)) (v24_0_x0_1 : Int) (v24_0_x0_2 : Int) (v24_0_x0_3 : Int) (v24_0_x0_4 : Int) (v24_0_x0_5 : Int) (v24_0_x0_6 : (List Int)) (v24_0_x0_7 : Bool) (v24_0_x0_8 : Int) (l84 : (List Int)) (sv24_0_x0_6 : SV) (b36 : Pos) (s84 : SV) (Fr : Rd) (M : Mem) (r : (List UInt8)) (hv24_0_x0_6 : Slc Fr 1 (FlatR enc3) sv24_0_x0_6 v24_0_x0_6) (hH : Has Fr M [.obj b36 (.row 124 .whole [(.ptr b36 0), s84]), .vec 5 1 l84.length s84 (l84.flatMap enc5), tb0, tb1, tb2]), alert_textOf_6 F N v24_0_x0_0 v24_0_x0_1 v24_0_x0_2 v24_0_x0_3 v24_0_x0_4 v24_0_x0_5 v24_0_x0_6 v24_0_x0_7 v24_0_x0_8 l84 = some r → Run Tryd.prog ⟨⟨75, [], none⟩, []⟩ 33 (alert_textOf_post r) [(5, (.ptr b36 0)), (24, (.agg [(.fn (.func 87) [(.agg [(.str v24_0_x0_0), (.int .i64 v24_0_x0_1), (.int .i64 v24_0_x0_2), (.int .i64 v24_0_x0_3), (.int .i64 v24_0_x0_4), (.int .i64 v24_0_x0_5), sv24_0_x0_6, (.bool v24_0_x0_7), (.int .i64 v24_0_x0_8)])] []), (.fn (.func 88) [(.agg [(.str v24_0_x0_0), (.int .i64 v24_0_x0_1), (.int .i64 v24_0_x0_2), (.int .i64 v24_0_x0_3), (.int .i64 v24_0_x0_4), (.int .i64 v24_0_x0_5), sv24_0_x0_6, (.bool v24_0_x0_7), (.int .i64 v24_0_x0_8)])] []), (.fn (.func 89) [(.agg [(.str v24_0_x0_0), (.int .i64 v24_0_x0_1), (.int .i64 v24_0_x0_2), (.int .i64 v24_0_x0_3), (.int .i64 v24_0_x0_4), (.int .i64 v24_0_x0_5), sv24_0_x0_6, (.bool v24_0_x0_7), (.int .i64 v24_0_x0_8)])] []), (.fn (.func 90) [(.agg [(.str v24_0_x0_0), (.int .i64 v24_0_x0_1), (.int .i64 v24_0_x0_2), (.int .i64 v24_0_x0_3), (.int .i64 v24_0_x0_4), (.int .i64 v24_0_x0_5), sv24_0_x0_6, (.bool v24_0_x0_7), (.int .i64 v24_0_x0_8)])] []), (.fn (.func 91) [(.agg [(.str v24_0_x0_0), (.int .i64 v24_0_x0_1), (.int .i64 v24_0_x0_2), (.int .i64 v24_0_x0_3), (.int .i64 v24_0_x0_4), (.int .i64 v24_0_x0_5), sv24_0_x0_6, (.bool v24_0_x0_7), (.int .i64 v24_0_x0_8)])] []), (.fn (.func 92) [(.agg [(.str v24_0_x0_0), (.int .i64 v24_0_x0_1), (.int .i64 v24_0_x0_2), (.int .i64 v24_0_x0_3), (.int .i64 v24_0_x0_4), (.int .i64 v24_0_x0_5), sv24_0_x0_6, (.bool v24_0_x0_7), (.int .i64 v24_0_x0_8)])] []), (.fn (.func 93) [(.agg [(.str v24_0_x0_0), (.int .i64 v24_0_x0_1), (.int .i64 v24_0_x0_2), (.int .i64 v24_0_x0_3), (.int .i64 v24_0_x0_4), (.int .i64 v24_0_x0_5), sv24_0_x0_6, (.bool v24_0_x0_7), (.int .i64 v24_0_x0_8)])] [])])), (25, (.int .i64 5))] [codeC Tryd.prog 75 [1, 1, 1, 1, 0, 1, 0, 0], loopC Tryd.prog 75 [1, 1, 1, 1, 0, 1, 0, 0], .inBlock 0, codeC Tryd.prog 75 [1, 1, 1, 1, 1]] M := by
  intro N
  induction N with
  | zero =>
    intro v24_0_x0_0 v24_0_x0_1 v24_0_x0_2 v24_0_x0_3 v24_0_x0_4 v24_0_x0_5 v24_0_x0_6 v24_0_x0_7 v24_0_x0_8 l84 sv24_0_x0_6 b36 s84 Fr M r hv24_0_x0_6 hH h
    simp [alert_textOf_6] at h
  | succ N ih =>
    intro v24_0_x0_0 v24_0_x0_1 v24_0_x0_2 v24_0_x0_3 v24_0_x0_4 v24_0_x0_5 v24_0_x0_6 v24_0_x0_7 v24_0_x0_8 l84 sv24_0_x0_6 b36 s84 Fr M r hv24_0_x0_6 hH h
    rw [alert_textOf_6] at h
    refine Run.seq (Run.region ?_)
    refine Run.opG wantS_none (ex_lss rfl rfl) rfl ?_
    refine Run.opsEnd (Run.seq ?_)
    refine Run.condT' rfl rfl ?_
    refine Run.skip (Run.seq (Run.block (Run.seq (Run.region ?_))))
    refine Run.opG wantS_none (ex_idxA (j := 5) rfl rfl wha121 rfl (part_one agg120 rfl)) rfl ?_
    refine Run.opG wantS_none (ex_assign rfl) rfl ?_
    refine Run.opsEnd (Run.region ?_)
    refine Run.opG wantS_none (ex_move rfl) rfl ?_
    obtain ⟨r88, hr88, h⟩ := bnd_some h
    refine Run.callP wantS_none (ex_closure rfl rfl mkk92 cal92) rfl (alert_sheet_before_ok F (S_api_Alert.mk v24_0_x0_0 v24_0_x0_1 v24_0_x0_2 (S_api_Chance.mk v24_0_x0_3 v24_0_x0_4) v24_0_x0_5 v24_0_x0_6 v24_0_x0_7 v24_0_x0_8) sv24_0_x0_6 _ _ (hH.slcF hv24_0_x0_6) (fixH hH (List.mem_of_getElem? (i := 2) rfl) (List.mem_of_getElem? (i := 3) rfl) (List.mem_of_getElem? (i := 4) rfl)) hr88) ?_
    refine Run.enter wantS_none (ex_call rfl mkk94 cal94) Tryd.func94 rfl rfl ?_
    refine Run.seq (Run.region ?_)
    refine Run.opG wantS_none (ex_assign rfl) rfl ?_
    refine Run.opG wantS_none (ex_assign rfl) rfl ?_
    refine Run.opsEnd (Run.seq (Run.region ?_))
    refine Run.opG wantS_none (ex_move rfl) rfl ?_
    refine Run.enter wantS_none (ex_call rfl mkk102 cal102) Tryd.func102 rfl rfl ?_
    refine Run.seq (Run.region ?_)
    refine Run.opG wantS_none (ex_move rfl) rfl ?_
    refine Run.opG wantS_none (ex_nilP rfl) rfl ?_
    refine Run.opG wantS_none (ex_fieldAddr rfl off124_0) rfl ?_
    refine Run.opG wantS_none (ex_load1 rfl (hH.cells (i := 0) rfl 0 rfl) rdLe_rfl agg122) rfl ?_
    refine Run.opG wantS_none (ex_ptrPN rfl rfl eqk122) rfl ?_
    refine Run.opsEnd ?_
    refine Run.condF' rfl rfl ?_
    refine Run.seq (Run.region ?_)
    refine Run.opG wantS_none (ex_move rfl) rfl ?_
    refine Run.opG wantS_none (ex_nilP rfl) rfl ?_
    refine Run.opG wantS_none (ex_fieldAddr rfl off124_0) rfl ?_
    refine Run.opG wantS_none (ex_load1 rfl (hH.cells (i := 0) rfl 0 rfl) rdLe_rfl agg122) rfl ?_
    refine Run.opG wantS_none (ex_move rfl) rfl ?_
    refine Run.opG wantS_none (ex_ptrSamen rfl rfl pte122 inf124) rfl ?_
    refine Run.opsEnd ?_
    refine Run.condF' rfl rfl ?_
    refine Run.skip ?_
    refine Run.fallTo Tryd.func102 rfl res_nil rfl ?_
    refine Run.opsEnd (Run.seq (Run.region ?_))
    refine Run.opG wantS_none (ex_move rfl) rfl ?_
    refine Run.opG wantS_none (ex_move rfl) rfl ?_
    refine Run.opG wantS_none (ex_nilP rfl) rfl ?_
    refine Run.opG wantS_none (ex_fieldAddr rfl off124_1) rfl ?_
    refine Run.opG wantS_none (ex_load1 rfl (hH.cells (i := 0) rfl 1 rfl) rdLe_rfl agg108) rfl ?_
    refine Run.opG wantS_none (ex_move rfl) rfl ?_
    obtain ⟨l92, hl92, h⟩ := bnd_some h
    refine Run.opX wantS_none rfl (ExG.append rfl rfl hH (i := 1) rfl enc5_len rfl enc5_ones appt108_9 rfl (str_lenZ rfl _) (str_first (fun _ => rfl) _) hl92) ?_
    rintro s92 M94 (hH94 : Has Fr M94 [.obj b36 (.row 124 .whole [(.ptr b36 0), s84]), .vec 5 1 l92.length s92 (l92.flatMap enc5), tb0, tb1, tb2])
    refine Run.opG wantS_none (ex_nilP rfl) rfl ?_
    refine Run.opG wantS_none (ex_fieldAddr rfl off124_1) rfl ?_
    refine Run.opX wantS_none rfl (ExG.storeC (c' := [(.ptr b36 0), s92]) rfl rfl (cells_one (vec_one hH94 (i := 1) rfl)) hH94 (i := 0) rfl sz108 rfl rfl rfl (ones_cons (vec_one hH94 (i := 1) rfl) ones_nil) rfl) ?_
    rintro _ M95 ⟨rfl, (hH95 : Has Fr M95 [.obj b36 (.row 124 .whole [(.ptr b36 0), s92]), .vec 5 1 l92.length s92 (l92.flatMap enc5), tb0, tb1, tb2])⟩
    refine Run.opsEnd (Run.seq (Run.region ?_))
    refine Run.opG wantS_none (ex_move rfl) rfl ?_
    refine Run.opG wantS_none (ex_lenS rfl lenk9) rfl ?_
    refine Run.opG wantS_none (ex_assign rfl) rfl ?_
    refine Run.opG wantS_none (ex_assign rfl) rfl ?_
    refine Run.opsEnd ?_
    refine Run.retTo Tryd.func94 rfl (res_tmp rfl (res_tmp rfl res_nil)) rfl ?_
    refine Run.opsEnd (Run.inBlock (Run.region ?_))
    refine Run.opG wantS_none (ex_add rfl rfl) rfl ?_
    refine Run.opG wantS_none (ex_move rfl) rfl ?_
    refine Run.opsEnd (Run.inLoop ?_)
    exact Run.pick [5, 24, 25] (alert_textOf_7_ok F F v24_0_x0_0 v24_0_x0_1 v24_0_x0_2 v24_0_x0_3 v24_0_x0_4 v24_0_x0_5 v24_0_x0_6 v24_0_x0_7 v24_0_x0_8 l92 sv24_0_x0_6 b36 s92 _ _ _ hv24_0_x0_6 hH95 h)

def alert_textOf_5 (F : Nat) : Nat → (List UInt8) → Int → Int → Int → Int → Int → (List Int) → Bool → Int → (List Int) → Option ((List UInt8))
  | 0, _, _, _, _, _, _, _, _, _, _ => none
  | N + 1, v24_0_x0_0, v24_0_x0_1, v24_0_x0_2, v24_0_x0_3, v24_0_x0_4, v24_0_x0_5, v24_0_x0_6, v24_0_x0_7, v24_0_x0_8, l75 =>
    bnd (alert_sheet_where F (S_api_Alert.mk v24_0_x0_0 v24_0_x0_1 v24_0_x0_2 (S_api_Chance.mk v24_0_x0_3 v24_0_x0_4) v24_0_x0_5 v24_0_x0_6 v24_0_x0_7 v24_0_x0_8)) fun r79 =>
    bnd (apd 1 l75 (bytesI r79)) fun l83 =>
    alert_textOf_6 F F v24_0_x0_0 v24_0_x0_1 v24_0_x0_2 v24_0_x0_3 v24_0_x0_4 v24_0_x0_5 v24_0_x0_6 v24_0_x0_7 v24_0_x0_8 l83

theorem alert_textOf_5_ok (F : Nat) : ∀ (N : Nat), ∀ (v24_0_x0_0 : (List UInt8)) (v24_0_x0_1 : Int) (v24_0_x0_2 : Int) (v24_0_x0_3 : Int) (v24_0_x0_4 : Int) (v24_0_x0_5 : Int) (v24_0_x0_6 : (List Int)) (v24_0_x0_7 : Bool) (v24_0_x0_8 : Int) (l75 : (List Int)) (sv24_0_x0_6 : SV) (b36 : Pos) (s75 : SV) (Fr : Rd) (M : Mem) (r : (List UInt8)) (hv24_0_x0_6 : Slc Fr 1 (FlatR enc3) sv24_0_x0_6 v24_0_x0_6) (hH : Has Fr M [.obj b36 (.row 124 .whole [(.ptr b36 0), s75]), .vec 5 1 l75.length s75 (l75.flatMap enc5), tb0, tb1, tb2]), alert_textOf_5 F N v24_0_x0_0 v24_0_x0_1 v24_0_x0_2 v24_0_x0_3 v24_0_x0_4 v24_0_x0_5 v24_0_x0_6 v24_0_x0_7 v24_0_x0_8 l75 = some r → Run Tryd.prog ⟨⟨75, [], none⟩, []⟩ 33 (alert_textOf_post r) [(5, (.ptr b36 0)), (24, (.agg [(.fn (.func 87) [(.agg [(.str v24_0_x0_0), (.int .i64 v24_0_x0_1), (.int .i64 v24_0_x0_2), (.int .i64 v24_0_x0_3), (.int .i64 v24_0_x0_4), (.int .i64 v24_0_x0_5), sv24_0_x0_6, (.bool v24_0_x0_7), (.int .i64 v24_0_x0_8)])] []), (.fn (.func 88) [(.agg [(.str v24_0_x0_0), (.int .i64 v24_0_x0_1), (.int .i64 v24_0_x0_2), (.int .i64 v24_0_x0_3), (.int .i64 v24_0_x0_4), (.int .i64 v24_0_x0_5), sv24_0_x0_6, (.bool v24_0_x0_7), (.int .i64 v24_0_x0_8)])] []), (.fn (.func 89) [(.agg [(.str v24_0_x0_0), (.int .i64 v24_0_x0_1), (.int .i64 v24_0_x0_2), (.int .i64 v24_0_x0_3), (.int .i64 v24_0_x0_4), (.int .i64 v24_0_x0_5), sv24_0_x0_6, (.bool v24_0_x0_7), (.int .i64 v24_0_x0_8)])] []), (.fn (.func 90) [(.agg [(.str v24_0_x0_0), (.int .i64 v24_0_x0_1), (.int .i64 v24_0_x0_2), (.int .i64 v24_0_x0_3), (.int .i64 v24_0_x0_4), (.int .i64 v24_0_x0_5), sv24_0_x0_6, (.bool v24_0_x0_7), (.int .i64 v24_0_x0_8)])] []), (.fn (.func 91) [(.agg [(.str v24_0_x0_0), (.int .i64 v24_0_x0_1), (.int .i64 v24_0_x0_2), (.int .i64 v24_0_x0_3), (.int .i64 v24_0_x0_4), (.int .i64 v24_0_x0_5), sv24_0_x0_6, (.bool v24_0_x0_7), (.int .i64 v24_0_x0_8)])] []), (.fn (.func 92) [(.agg [(.str v24_0_x0_0), (.int .i64 v24_0_x0_1), (.int .i64 v24_0_x0_2), (.int .i64 v24_0_x0_3), (.int .i64 v24_0_x0_4), (.int .i64 v24_0_x0_5), sv24_0_x0_6, (.bool v24_0_x0_7), (.int .i64 v24_0_x0_8)])] []), (.fn (.func 93) [(.agg [(.str v24_0_x0_0), (.int .i64 v24_0_x0_1), (.int .i64 v24_0_x0_2), (.int .i64 v24_0_x0_3), (.int .i64 v24_0_x0_4), (.int .i64 v24_0_x0_5), sv24_0_x0_6, (.bool v24_0_x0_7), (.int .i64 v24_0_x0_8)])] [])])), (25, (.int .i64 4))] [codeC Tryd.prog 75 [1, 1, 1, 1, 0, 1, 0, 0], loopC Tryd.prog 75 [1, 1, 1, 1, 0, 1, 0, 0], .inBlock 0, codeC Tryd.prog 75 [1, 1, 1, 1, 1]] M := by
  intro N
  induction N with
  | zero =>
    intro v24_0_x0_0 v24_0_x0_1 v24_0_x0_2 v24_0_x0_3 v24_0_x0_4 v24_0_x0_5 v24_0_x0_6 v24_0_x0_7 v24_0_x0_8 l75 sv24_0_x0_6 b36 s75 Fr M r hv24_0_x0_6 hH h
    simp [alert_textOf_5] at h
  | succ N ih =>
    intro v24_0_x0_0 v24_0_x0_1 v24_0_x0_2 v24_0_x0_3 v24_0_x0_4 v24_0_x0_5 v24_0_x0_6 v24_0_x0_7 v24_0_x0_8 l75 sv24_0_x0_6 b36 s75 Fr M r hv24_0_x0_6 hH h
    rw [alert_textOf_5] at h
    refine Run.seq (Run.region ?_)
    refine Run.opG wantS_none (ex_lss rfl rfl) rfl ?_
    refine Run.opsEnd (Run.seq ?_)
    refine Run.condT' rfl rfl ?_
    refine Run.skip (Run.seq (Run.block (Run.seq (Run.region ?_))))
    refine Run.opG wantS_none (ex_idxA (j := 4) rfl rfl wha121 rfl (part_one agg120 rfl)) rfl ?_
    refine Run.opG wantS_none (ex_assign rfl) rfl ?_
    refine Run.opsEnd (Run.region ?_)
    refine Run.opG wantS_none (ex_move rfl) rfl ?_
    obtain ⟨r79, hr79, h⟩ := bnd_some h
    refine Run.callP wantS_none (ex_closure rfl rfl mkk91 cal91) rfl (alert_sheet_where_ok F (S_api_Alert.mk v24_0_x0_0 v24_0_x0_1 v24_0_x0_2 (S_api_Chance.mk v24_0_x0_3 v24_0_x0_4) v24_0_x0_5 v24_0_x0_6 v24_0_x0_7 v24_0_x0_8) sv24_0_x0_6 _ _ (hH.slcF hv24_0_x0_6) (fixH hH (List.mem_of_getElem? (i := 2) rfl) (List.mem_of_getElem? (i := 3) rfl) (List.mem_of_getElem? (i := 4) rfl)) hr79) ?_
    refine Run.enter wantS_none (ex_call rfl mkk94 cal94) Tryd.func94 rfl rfl ?_
    refine Run.seq (Run.region ?_)
    refine Run.opG wantS_none (ex_assign rfl) rfl ?_
    refine Run.opG wantS_none (ex_assign rfl) rfl ?_
    refine Run.opsEnd (Run.seq (Run.region ?_))
    refine Run.opG wantS_none (ex_move rfl) rfl ?_
    refine Run.enter wantS_none (ex_call rfl mkk102 cal102) Tryd.func102 rfl rfl ?_
    refine Run.seq (Run.region ?_)
    refine Run.opG wantS_none (ex_move rfl) rfl ?_
    refine Run.opG wantS_none (ex_nilP rfl) rfl ?_
    refine Run.opG wantS_none (ex_fieldAddr rfl off124_0) rfl ?_
    refine Run.opG wantS_none (ex_load1 rfl (hH.cells (i := 0) rfl 0 rfl) rdLe_rfl agg122) rfl ?_
    refine Run.opG wantS_none (ex_ptrPN rfl rfl eqk122) rfl ?_
    refine Run.opsEnd ?_
    refine Run.condF' rfl rfl ?_
    refine Run.seq (Run.region ?_)
    refine Run.opG wantS_none (ex_move rfl) rfl ?_
    refine Run.opG wantS_none (ex_nilP rfl) rfl ?_
    refine Run.opG wantS_none (ex_fieldAddr rfl off124_0) rfl ?_
    refine Run.opG wantS_none (ex_load1 rfl (hH.cells (i := 0) rfl 0 rfl) rdLe_rfl agg122) rfl ?_
    refine Run.opG wantS_none (ex_move rfl) rfl ?_
    refine Run.opG wantS_none (ex_ptrSamen rfl rfl pte122 inf124) rfl ?_
    refine Run.opsEnd ?_
    refine Run.condF' rfl rfl ?_
    refine Run.skip ?_
    refine Run.fallTo Tryd.func102 rfl res_nil rfl ?_
    refine Run.opsEnd (Run.seq (Run.region ?_))
    refine Run.opG wantS_none (ex_move rfl) rfl ?_
    refine Run.opG wantS_none (ex_move rfl) rfl ?_
    refine Run.opG wantS_none (ex_nilP rfl) rfl ?_
    refine Run.opG wantS_none (ex_fieldAddr rfl off124_1) rfl ?_
    refine Run.opG wantS_none (ex_load1 rfl (hH.cells (i := 0) rfl 1 rfl) rdLe_rfl agg108) rfl ?_
    refine Run.opG wantS_none (ex_move rfl) rfl ?_
    obtain ⟨l83, hl83, h⟩ := bnd_some h
    refine Run.opX wantS_none rfl (ExG.append rfl rfl hH (i := 1) rfl enc5_len rfl enc5_ones appt108_9 rfl (str_lenZ rfl _) (str_first (fun _ => rfl) _) hl83) ?_
    rintro s83 M85 (hH85 : Has Fr M85 [.obj b36 (.row 124 .whole [(.ptr b36 0), s75]), .vec 5 1 l83.length s83 (l83.flatMap enc5), tb0, tb1, tb2])
    refine Run.opG wantS_none (ex_nilP rfl) rfl ?_
    refine Run.opG wantS_none (ex_fieldAddr rfl off124_1) rfl ?_
    refine Run.opX wantS_none rfl (ExG.storeC (c' := [(.ptr b36 0), s83]) rfl rfl (cells_one (vec_one hH85 (i := 1) rfl)) hH85 (i := 0) rfl sz108 rfl rfl rfl (ones_cons (vec_one hH85 (i := 1) rfl) ones_nil) rfl) ?_
    rintro _ M86 ⟨rfl, (hH86 : Has Fr M86 [.obj b36 (.row 124 .whole [(.ptr b36 0), s83]), .vec 5 1 l83.length s83 (l83.flatMap enc5), tb0, tb1, tb2])⟩
    refine Run.opsEnd (Run.seq (Run.region ?_))
    refine Run.opG wantS_none (ex_move rfl) rfl ?_
    refine Run.opG wantS_none (ex_lenS rfl lenk9) rfl ?_
    refine Run.opG wantS_none (ex_assign rfl) rfl ?_
    refine Run.opG wantS_none (ex_assign rfl) rfl ?_
    refine Run.opsEnd ?_
    refine Run.retTo Tryd.func94 rfl (res_tmp rfl (res_tmp rfl res_nil)) rfl ?_
    refine Run.opsEnd (Run.inBlock (Run.region ?_))
    refine Run.opG wantS_none (ex_add rfl rfl) rfl ?_
    refine Run.opG wantS_none (ex_move rfl) rfl ?_
    refine Run.opsEnd (Run.inLoop ?_)
    exact Run.pick [5, 24, 25] (alert_textOf_6_ok F F v24_0_x0_0 v24_0_x0_1 v24_0_x0_2 v24_0_x0_3 v24_0_x0_4 v24_0_x0_5 v24_0_x0_6 v24_0_x0_7 v24_0_x0_8 l83 sv24_0_x0_6 b36 s83 _ _ _ hv24_0_x0_6 hH86 h)

def alert_textOf_4 (F : Nat) : Nat → (List UInt8) → Int → Int → Int → Int → Int → (List Int) → Bool → Int → (List Int) → Option ((List UInt8))
  | 0, _, _, _, _, _, _, _, _, _, _ => none
  | N + 1, v24_0_x0_0, v24_0_x0_1, v24_0_x0_2, v24_0_x0_3, v24_0_x0_4, v24_0_x0_5, v24_0_x0_6, v24_0_x0_7, v24_0_x0_8, l66 =>
    bnd (alert_sheet_grid F (S_api_Alert.mk v24_0_x0_0 v24_0_x0_1 v24_0_x0_2 (S_api_Chance.mk v24_0_x0_3 v24_0_x0_4) v24_0_x0_5 v24_0_x0_6 v24_0_x0_7 v24_0_x0_8)) fun r70 =>
    bnd (apd 1 l66 (bytesI r70)) fun l74 =>
    alert_textOf_5 F F v24_0_x0_0 v24_0_x0_1 v24_0_x0_2 v24_0_x0_3 v24_0_x0_4 v24_0_x0_5 v24_0_x0_6 v24_0_x0_7 v24_0_x0_8 l74

theorem alert_textOf_4_ok (F : Nat) : ∀ (N : Nat), ∀ (v24_0_x0_0 : (List UInt8)) (v24_0_x0_1 : Int) (v24_0_x0_2 : Int) (v24_0_x0_3 : Int) (v24_0_x0_4 : Int) (v24_0_x0_5 : Int) (v24_0_x0_6 : (List Int)) (v24_0_x0_7 : Bool) (v24_0_x0_8 : Int) (l66 : (List Int)) (sv24_0_x0_6 : SV) (b36 : Pos) (s66 : SV) (Fr : Rd) (M : Mem) (r : (List UInt8)) (hv24_0_x0_6 : Slc Fr 1 (FlatR enc3) sv24_0_x0_6 v24_0_x0_6) (hH : Has Fr M [.obj b36 (.row 124 .whole [(.ptr b36 0), s66]), .vec 5 1 l66.length s66 (l66.flatMap enc5), tb0, tb1, tb2]), alert_textOf_4 F N v24_0_x0_0 v24_0_x0_1 v24_0_x0_2 v24_0_x0_3 v24_0_x0_4 v24_0_x0_5 v24_0_x0_6 v24_0_x0_7 v24_0_x0_8 l66 = some r → Run Tryd.prog ⟨⟨75, [], none⟩, []⟩ 33 (alert_textOf_post r) [(5, (.ptr b36 0)), (24, (.agg [(.fn (.func 87) [(.agg [(.str v24_0_x0_0), (.int .i64 v24_0_x0_1), (.int .i64 v24_0_x0_2), (.int .i64 v24_0_x0_3), (.int .i64 v24_0_x0_4), (.int .i64 v24_0_x0_5), sv24_0_x0_6, (.bool v24_0_x0_7), (.int .i64 v24_0_x0_8)])] []), (.fn (.func 88) [(.agg [(.str v24_0_x0_0), (.int .i64 v24_0_x0_1), (.int .i64 v24_0_x0_2), (.int .i64 v24_0_x0_3), (.int .i64 v24_0_x0_4), (.int .i64 v24_0_x0_5), sv24_0_x0_6, (.bool v24_0_x0_7), (.int .i64 v24_0_x0_8)])] []), (.fn (.func 89) [(.agg [(.str v24_0_x0_0), (.int .i64 v24_0_x0_1), (.int .i64 v24_0_x0_2), (.int .i64 v24_0_x0_3), (.int .i64 v24_0_x0_4), (.int .i64 v24_0_x0_5), sv24_0_x0_6, (.bool v24_0_x0_7), (.int .i64 v24_0_x0_8)])] []), (.fn (.func 90) [(.agg [(.str v24_0_x0_0), (.int .i64 v24_0_x0_1), (.int .i64 v24_0_x0_2), (.int .i64 v24_0_x0_3), (.int .i64 v24_0_x0_4), (.int .i64 v24_0_x0_5), sv24_0_x0_6, (.bool v24_0_x0_7), (.int .i64 v24_0_x0_8)])] []), (.fn (.func 91) [(.agg [(.str v24_0_x0_0), (.int .i64 v24_0_x0_1), (.int .i64 v24_0_x0_2), (.int .i64 v24_0_x0_3), (.int .i64 v24_0_x0_4), (.int .i64 v24_0_x0_5), sv24_0_x0_6, (.bool v24_0_x0_7), (.int .i64 v24_0_x0_8)])] []), (.fn (.func 92) [(.agg [(.str v24_0_x0_0), (.int .i64 v24_0_x0_1), (.int .i64 v24_0_x0_2), (.int .i64 v24_0_x0_3), (.int .i64 v24_0_x0_4), (.int .i64 v24_0_x0_5), sv24_0_x0_6, (.bool v24_0_x0_7), (.int .i64 v24_0_x0_8)])] []), (.fn (.func 93) [(.agg [(.str v24_0_x0_0), (.int .i64 v24_0_x0_1), (.int .i64 v24_0_x0_2), (.int .i64 v24_0_x0_3), (.int .i64 v24_0_x0_4), (.int .i64 v24_0_x0_5), sv24_0_x0_6, (.bool v24_0_x0_7), (.int .i64 v24_0_x0_8)])] [])])), (25, (.int .i64 3))] [codeC Tryd.prog 75 [1, 1, 1, 1, 0, 1, 0, 0], loopC Tryd.prog 75 [1, 1, 1, 1, 0, 1, 0, 0], .inBlock 0, codeC Tryd.prog 75 [1, 1, 1, 1, 1]] M := by
  intro N
  induction N with
  | zero =>
    intro v24_0_x0_0 v24_0_x0_1 v24_0_x0_2 v24_0_x0_3 v24_0_x0_4 v24_0_x0_5 v24_0_x0_6 v24_0_x0_7 v24_0_x0_8 l66 sv24_0_x0_6 b36 s66 Fr M r hv24_0_x0_6 hH h
    simp [alert_textOf_4] at h
  | succ N ih =>
    intro v24_0_x0_0 v24_0_x0_1 v24_0_x0_2 v24_0_x0_3 v24_0_x0_4 v24_0_x0_5 v24_0_x0_6 v24_0_x0_7 v24_0_x0_8 l66 sv24_0_x0_6 b36 s66 Fr M r hv24_0_x0_6 hH h
    rw [alert_textOf_4] at h
    refine Run.seq (Run.region ?_)
    refine Run.opG wantS_none (ex_lss rfl rfl) rfl ?_
    refine Run.opsEnd (Run.seq ?_)
    refine Run.condT' rfl rfl ?_
    refine Run.skip (Run.seq (Run.block (Run.seq (Run.region ?_))))
    refine Run.opG wantS_none (ex_idxA (j := 3) rfl rfl wha121 rfl (part_one agg120 rfl)) rfl ?_
    refine Run.opG wantS_none (ex_assign rfl) rfl ?_
    refine Run.opsEnd (Run.region ?_)
    refine Run.opG wantS_none (ex_move rfl) rfl ?_
    obtain ⟨r70, hr70, h⟩ := bnd_some h
    refine Run.callP wantS_none (ex_closure rfl rfl mkk90 cal90) rfl (alert_sheet_grid_ok F (S_api_Alert.mk v24_0_x0_0 v24_0_x0_1 v24_0_x0_2 (S_api_Chance.mk v24_0_x0_3 v24_0_x0_4) v24_0_x0_5 v24_0_x0_6 v24_0_x0_7 v24_0_x0_8) sv24_0_x0_6 _ _ (hH.slcF hv24_0_x0_6) (fixH hH (List.mem_of_getElem? (i := 2) rfl) (List.mem_of_getElem? (i := 3) rfl) (List.mem_of_getElem? (i := 4) rfl)) hr70) ?_
    refine Run.enter wantS_none (ex_call rfl mkk94 cal94) Tryd.func94 rfl rfl ?_
    refine Run.seq (Run.region ?_)
    refine Run.opG wantS_none (ex_assign rfl) rfl ?_
    refine Run.opG wantS_none (ex_assign rfl) rfl ?_
    refine Run.opsEnd (Run.seq (Run.region ?_))
    refine Run.opG wantS_none (ex_move rfl) rfl ?_
    refine Run.enter wantS_none (ex_call rfl mkk102 cal102) Tryd.func102 rfl rfl ?_
    refine Run.seq (Run.region ?_)
    refine Run.opG wantS_none (ex_move rfl) rfl ?_
    refine Run.opG wantS_none (ex_nilP rfl) rfl ?_
    refine Run.opG wantS_none (ex_fieldAddr rfl off124_0) rfl ?_
    refine Run.opG wantS_none (ex_load1 rfl (hH.cells (i := 0) rfl 0 rfl) rdLe_rfl agg122) rfl ?_
    refine Run.opG wantS_none (ex_ptrPN rfl rfl eqk122) rfl ?_
    refine Run.opsEnd ?_
    refine Run.condF' rfl rfl ?_
    refine Run.seq (Run.region ?_)
    refine Run.opG wantS_none (ex_move rfl) rfl ?_
    refine Run.opG wantS_none (ex_nilP rfl) rfl ?_
    refine Run.opG wantS_none (ex_fieldAddr rfl off124_0) rfl ?_
    refine Run.opG wantS_none (ex_load1 rfl (hH.cells (i := 0) rfl 0 rfl) rdLe_rfl agg122) rfl ?_
    refine Run.opG wantS_none (ex_move rfl) rfl ?_
    refine Run.opG wantS_none (ex_ptrSamen rfl rfl pte122 inf124) rfl ?_
    refine Run.opsEnd ?_
    refine Run.condF' rfl rfl ?_
    refine Run.skip ?_
    refine Run.fallTo Tryd.func102 rfl res_nil rfl ?_
    refine Run.opsEnd (Run.seq (Run.region ?_))
    refine Run.opG wantS_none (ex_move rfl) rfl ?_
    refine Run.opG wantS_none (ex_move rfl) rfl ?_
    refine Run.opG wantS_none (ex_nilP rfl) rfl ?_
    refine Run.opG wantS_none (ex_fieldAddr rfl off124_1) rfl ?_
    refine Run.opG wantS_none (ex_load1 rfl (hH.cells (i := 0) rfl 1 rfl) rdLe_rfl agg108) rfl ?_
    refine Run.opG wantS_none (ex_move rfl) rfl ?_
    obtain ⟨l74, hl74, h⟩ := bnd_some h
    refine Run.opX wantS_none rfl (ExG.append rfl rfl hH (i := 1) rfl enc5_len rfl enc5_ones appt108_9 rfl (str_lenZ rfl _) (str_first (fun _ => rfl) _) hl74) ?_
    rintro s74 M76 (hH76 : Has Fr M76 [.obj b36 (.row 124 .whole [(.ptr b36 0), s66]), .vec 5 1 l74.length s74 (l74.flatMap enc5), tb0, tb1, tb2])
    refine Run.opG wantS_none (ex_nilP rfl) rfl ?_
    refine Run.opG wantS_none (ex_fieldAddr rfl off124_1) rfl ?_
    refine Run.opX wantS_none rfl (ExG.storeC (c' := [(.ptr b36 0), s74]) rfl rfl (cells_one (vec_one hH76 (i := 1) rfl)) hH76 (i := 0) rfl sz108 rfl rfl rfl (ones_cons (vec_one hH76 (i := 1) rfl) ones_nil) rfl) ?_
    rintro _ M77 ⟨rfl, (hH77 : Has Fr M77 [.obj b36 (.row 124 .whole [(.ptr b36 0), s74]), .vec 5 1 l74.length s74 (l74.flatMap enc5), tb0, tb1, tb2])⟩
    refine Run.opsEnd (Run.seq (Run.region ?_))
    refine Run.opG wantS_none (ex_move rfl) rfl ?_
    refine Run.opG wantS_none (ex_lenS rfl lenk9) rfl ?_
    refine Run.opG wantS_none (ex_assign rfl) rfl ?_
    refine Run.opG wantS_none (ex_assign rfl) rfl ?_
    refine Run.opsEnd ?_
    refine Run.retTo Tryd.func94 rfl (res_tmp rfl (res_tmp rfl res_nil)) rfl ?_
    refine Run.opsEnd (Run.inBlock (Run.region ?_))
    refine Run.opG wantS_none (ex_add rfl rfl) rfl ?_
    refine Run.opG wantS_none (ex_move rfl) rfl ?_
    refine Run.opsEnd (Run.inLoop ?_)
    exact Run.pick [5, 24, 25] (alert_textOf_5_ok F F v24_0_x0_0 v24_0_x0_1 v24_0_x0_2 v24_0_x0_3 v24_0_x0_4 v24_0_x0_5 v24_0_x0_6 v24_0_x0_7 v24_0_x0_8 l74 sv24_0_x0_6 b36 s74 _ _ _ hv24_0_x0_6 hH77 h)

def alert_textOf_3 (F : Nat) : Nat → (List UInt8) → Int → Int → Int → Int → Int → (List Int) → Bool → Int → (List Int) → Option ((List UInt8))
  | 0, _, _, _, _, _, _, _, _, _, _ => none
  | N + 1, v24_0_x0_0, v24_0_x0_1, v24_0_x0_2, v24_0_x0_3, v24_0_x0_4, v24_0_x0_5, v24_0_x0_6, v24_0_x0_7, v24_0_x0_8, l57 =>
    bnd (alert_sheet_chance F (S_api_Alert.mk v24_0_x0_0 v24_0_x0_1 v24_0_x0_2 (S_api_Chance.mk v24_0_x0_3 v24_0_x0_4) v24_0_x0_5 v24_0_x0_6 v24_0_x0_7 v24_0_x0_8)) fun r61 =>
    bnd (apd 1 l57 (bytesI r61)) fun l65 =>
    alert_textOf_4 F F v24_0_x0_0 v24_0_x0_1 v24_0_x0_2 v24_0_x0_3 v24_0_x0_4 v24_0_x0_5 v24_0_x0_6 v24_0_x0_7 v24_0_x0_8 l65

theorem alert_textOf_3_ok (F : Nat) : ∀ (N : Nat), ∀ (v24_0_x0_0 : (List UInt8)) (v24_0_x0_1 : Int) (v24_0_x0_2 : Int) (v24_0_x0_3 : Int) (v24_0_x0_4 : Int) (v24_0_x0_5 : Int) (v24_0_x0_6 : (List Int)) (v24_0_x0_7 : Bool) (v24_0_x0_8 : Int) (l57 : (List Int)) (sv24_0_x0_6 : SV) (b36 : Pos) (s57 : SV) (Fr : Rd) (M : Mem) (r : (List UInt8)) (hv24_0_x0_6 : Slc Fr 1 (FlatR enc3) sv24_0_x0_6 v24_0_x0_6) (hH : Has Fr M [.obj b36 (.row 124 .whole [(.ptr b36 0), s57]), .vec 5 1 l57.length s57 (l57.flatMap enc5), tb0, tb1, tb2]), alert_textOf_3 F N v24_0_x0_0 v24_0_x0_1 v24_0_x0_2 v24_0_x0_3 v24_0_x0_4 v24_0_x0_5 v24_0_x0_6 v24_0_x0_7 v24_0_x0_8 l57 = some r → Run Tryd.prog ⟨⟨75, [], none⟩, []⟩ 33 (alert_textOf_post r) [(5, (.ptr b36 0)), (24, (.agg [(.fn (.func 87) [(.agg [(.str v24_0_x0_0), (.int .i64 v24_0_x0_1), (.int .i64 v24_0_x0_2), (.int .i64 v24_0_x0_3), (.int .i64 v24_0_x0_4), (.int .i64 v24_0_x0_5), sv24_0_x0_6, (.bool v24_0_x0_7), (.int .i64 v24_0_x0_8)])] []), (.fn (.func 88) [(.agg [(.str v24_0_x0_0), (.int .i64 v24_0_x0_1), (.int .i64 v24_0_x0_2), (.int .i64 v24_0_x0_3), (.int .i64 v24_0_x0_4), (.int .i64 v24_0_x0_5), sv24_0_x0_6, (.bool v24_0_x0_7), (.int .i64 v24_0_x0_8)])] []), (.fn (.func 89) [(.agg [(.str v24_0_x0_0), (.int .i64 v24_0_x0_1), (.int .i64 v24_0_x0_2), (.int .i64 v24_0_x0_3), (.int .i64 v24_0_x0_4), (.int .i64 v24_0_x0_5), sv24_0_x0_6, (.bool v24_0_x0_7), (.int .i64 v24_0_x0_8)])] []), (.fn (.func 90) [(.agg [(.str v24_0_x0_0), (.int .i64 v24_0_x0_1), (.int .i64 v24_0_x0_2), (.int .i64 v24_0_x0_3), (.int .i64 v24_0_x0_4), (.int .i64 v24_0_x0_5), sv24_0_x0_6, (.bool v24_0_x0_7), (.int .i64 v24_0_x0_8)])] []), (.fn (.func 91) [(.agg [(.str v24_0_x0_0), (.int .i64 v24_0_x0_1), (.int .i64 v24_0_x0_2), (.int .i64 v24_0_x0_3), (.int .i64 v24_0_x0_4), (.int .i64 v24_0_x0_5), sv24_0_x0_6, (.bool v24_0_x0_7), (.int .i64 v24_0_x0_8)])] []), (.fn (.func 92) [(.agg [(.str v24_0_x0_0), (.int .i64 v24_0_x0_1), (.int .i64 v24_0_x0_2), (.int .i64 v24_0_x0_3), (.int .i64 v24_0_x0_4), (.int .i64 v24_0_x0_5), sv24_0_x0_6, (.bool v24_0_x0_7), (.int .i64 v24_0_x0_8)])] []), (.fn (.func 93) [(.agg [(.str v24_0_x0_0), (.int .i64 v24_0_x0_1), (.int .i64 v24_0_x0_2), (.int .i64 v24_0_x0_3), (.int .i64 v24_0_x0_4), (.int .i64 v24_0_x0_5), sv24_0_x0_6, (.bool v24_0_x0_7), (.int .i64 v24_0_x0_8)])] [])])), (25, (.int .i64 2))] [codeC Tryd.prog 75 [1, 1, 1, 1, 0, 1, 0, 0], loopC Tryd.prog 75 [1, 1, 1, 1, 0, 1, 0, 0], .inBlock 0, codeC Tryd.prog 75 [1, 1, 1, 1, 1]] M := by
  intro N
  induction N with
  | zero =>
    intro v24_0_x0_0 v24_0_x0_1 v24_0_x0_2 v24_0_x0_3 v24_0_x0_4 v24_0_x0_5 v24_0_x0_6 v24_0_x0_7 v24_0_x0_8 l57 sv24_0_x0_6 b36 s57 Fr M r hv24_0_x0_6 hH h
    simp [alert_textOf_3] at h
  | succ N ih =>
    intro v24_0_x0_0 v24_0_x0_1 v24_0_x0_2 v24_0_x0_3 v24_0_x0_4 v24_0_x0_5 v24_0_x0_6 v24_0_x0_7 v24_0_x0_8 l57 sv24_0_x0_6 b36 s57 Fr M r hv24_0_x0_6 hH h
    rw [alert_textOf_3] at h
    refine Run.seq (Run.region ?_)
    refine Run.opG wantS_none (ex_lss rfl rfl) rfl ?_
    refine Run.opsEnd (Run.seq ?_)
    refine Run.condT' rfl rfl ?_
    refine Run.skip (Run.seq (Run.block (Run.seq (Run.region ?_))))
    refine Run.opG wantS_none (ex_idxA (j := 2) rfl rfl wha121 rfl (part_one agg120 rfl)) rfl ?_
    refine Run.opG wantS_none (ex_assign rfl) rfl ?_
    refine Run.opsEnd (Run.region ?_)
    refine Run.opG wantS_none (ex_move rfl) rfl ?_
    obtain ⟨r61, hr61, h⟩ := bnd_some h
    refine Run.callP wantS_none (ex_closure rfl rfl mkk89 cal89) rfl (alert_sheet_chance_ok F (S_api_Alert.mk v24_0_x0_0 v24_0_x0_1 v24_0_x0_2 (S_api_Chance.mk v24_0_x0_3 v24_0_x0_4) v24_0_x0_5 v24_0_x0_6 v24_0_x0_7 v24_0_x0_8) sv24_0_x0_6 _ _ (hH.slcF hv24_0_x0_6) (fixH hH (List.mem_of_getElem? (i := 2) rfl) (List.mem_of_getElem? (i := 3) rfl) (List.mem_of_getElem? (i := 4) rfl)) hr61) ?_
    refine Run.enter wantS_none (ex_call rfl mkk94 cal94) Tryd.func94 rfl rfl ?_
    refine Run.seq (Run.region ?_)
    refine Run.opG wantS_none (ex_assign rfl) rfl ?_
    refine Run.opG wantS_none (ex_assign rfl) rfl ?_
    refine Run.opsEnd (Run.seq (Run.region ?_))
    refine Run.opG wantS_none (ex_move rfl) rfl ?_
    refine Run.enter wantS_none (ex_call rfl mkk102 cal102) Tryd.func102 rfl rfl ?_
    refine Run.seq (Run.region ?_)
    refine Run.opG wantS_none (ex_move rfl) rfl ?_
    refine Run.opG wantS_none (ex_nilP rfl) rfl ?_
    refine Run.opG wantS_none (ex_fieldAddr rfl off124_0) rfl ?_
    refine Run.opG wantS_none (ex_load1 rfl (hH.cells (i := 0) rfl 0 rfl) rdLe_rfl agg122) rfl ?_
    refine Run.opG wantS_none (ex_ptrPN rfl rfl eqk122) rfl ?_
    refine Run.opsEnd ?_
    refine Run.condF' rfl rfl ?_
    refine Run.seq (Run.region ?_)
    refine Run.opG wantS_none (ex_move rfl) rfl ?_
    refine Run.opG wantS_none (ex_nilP rfl) rfl ?_
    refine Run.opG wantS_none (ex_fieldAddr rfl off124_0) rfl ?_
    refine Run.opG wantS_none (ex_load1 rfl (hH.cells (i := 0) rfl 0 rfl) rdLe_rfl agg122) rfl ?_
    refine Run.opG wantS_none (ex_move rfl) rfl ?_
    refine Run.opG wantS_none (ex_ptrSamen rfl rfl pte122 inf124) rfl ?_
    refine Run.opsEnd ?_
    refine Run.condF' rfl rfl ?_
    refine Run.skip ?_
    refine Run.fallTo Tryd.func102 rfl res_nil rfl ?_
    refine Run.opsEnd (Run.seq (Run.region ?_))
    refine Run.opG wantS_none (ex_move rfl) rfl ?_
    refine Run.opG wantS_none (ex_move rfl) rfl ?_
    refine Run.opG wantS_none (ex_nilP rfl) rfl ?_
    refine Run.opG wantS_none (ex_fieldAddr rfl off124_1) rfl ?_
    refine Run.opG wantS_none (ex_load1 rfl (hH.cells (i := 0) rfl 1 rfl) rdLe_rfl agg108) rfl ?_
    refine Run.opG wantS_none (ex_move rfl) rfl ?_
    obtain ⟨l65, hl65, h⟩ := bnd_some h
    refine Run.opX wantS_none rfl (ExG.append rfl rfl hH (i := 1) rfl enc5_len rfl enc5_ones appt108_9 rfl (str_lenZ rfl _) (str_first (fun _ => rfl) _) hl65) ?_
    rintro s65 M67 (hH67 : Has Fr M67 [.obj b36 (.row 124 .whole [(.ptr b36 0), s57]), .vec 5 1 l65.length s65 (l65.flatMap enc5), tb0, tb1, tb2])
    refine Run.opG wantS_none (ex_nilP rfl) rfl ?_
    refine Run.opG wantS_none (ex_fieldAddr rfl off124_1) rfl ?_
    refine Run.opX wantS_none rfl (ExG.storeC (c' := [(.ptr b36 0), s65]) rfl rfl (cells_one (vec_one hH67 (i := 1) rfl)) hH67 (i := 0) rfl sz108 rfl rfl rfl (ones_cons (vec_one hH67 (i := 1) rfl) ones_nil) rfl) ?_
    rintro _ M68 ⟨rfl, (hH68 : Has Fr M68 [.obj b36 (.row 124 .whole [(.ptr b36 0), s65]), .vec 5 1 l65.length s65 (l65.flatMap enc5), tb0, tb1, tb2])⟩
    refine Run.opsEnd (Run.seq (Run.region ?_))
    refine Run.opG wantS_none (ex_move rfl) rfl ?_
    refine Run.opG wantS_none (ex_lenS rfl lenk9) rfl ?_
    refine Run.opG wantS_none (ex_assign rfl) rfl ?_
    refine Run.opG wantS_none (ex_assign rfl) rfl ?_
    refine Run.opsEnd ?_
    refine Run.retTo Tryd.func94 rfl (res_tmp rfl (res_tmp rfl res_nil)) rfl ?_
    refine Run.opsEnd (Run.inBlock (Run.region ?_))
    refine Run.opG wantS_none (ex_add rfl rfl) rfl ?_
    refine Run.opG wantS_none (ex_move rfl) rfl ?_
    refine Run.opsEnd (Run.inLoop ?_)
    exact Run.pick [5, 24, 25] (alert_textOf_4_ok F F v24_0_x0_0 v24_0_x0_1 v24_0_x0_2 v24_0_x0_3 v24_0_x0_4 v24_0_x0_5 v24_0_x0_6 v24_0_x0_7 v24_0_x0_8 l65 sv24_0_x0_6 b36 s65 _ _ _ hv24_0_x0_6 hH68 h)

def alert_textOf_2 (F : Nat) : Nat → (List UInt8) → Int → Int → Int → Int → Int → (List Int) → Bool → Int → (List Int) → Option ((List UInt8))
  | 0, _, _, _, _, _, _, _, _, _, _ => none
  | N + 1, v24_0_x0_0, v24_0_x0_1, v24_0_x0_2, v24_0_x0_3, v24_0_x0_4, v24_0_x0_5, v24_0_x0_6, v24_0_x0_7, v24_0_x0_8, l47 =>
    bnd (alert_sheet_time F (S_api_Alert.mk v24_0_x0_0 v24_0_x0_1 v24_0_x0_2 (S_api_Chance.mk v24_0_x0_3 v24_0_x0_4) v24_0_x0_5 v24_0_x0_6 v24_0_x0_7 v24_0_x0_8)) fun r52 =>
    bnd (apd 1 l47 (bytesI r52)) fun l56 =>
    alert_textOf_3 F F v24_0_x0_0 v24_0_x0_1 v24_0_x0_2 v24_0_x0_3 v24_0_x0_4 v24_0_x0_5 v24_0_x0_6 v24_0_x0_7 v24_0_x0_8 l56

theorem alert_textOf_2_ok (F : Nat) : ∀ (N : Nat), ∀ (v24_0_x0_0 : (List UInt8)) (v24_0_x0_1 : Int) (v24_0_x0_2 : Int) (v24_0_x0_3 : Int) (v24_0_x0_4 : Int) (v24_0_x0_5 : Int) (v24_0_x0_6 : (List Int)) (v24_0_x0_7 : Bool) (v24_0_x0_8 : Int) (l47 : (List Int)) (sv24_0_x0_6 : SV) (b36 : Pos) (s47 : SV) (Fr : Rd) (M : Mem) (r : (List UInt8)) (hv24_0_x0_6 : Slc Fr 1 (FlatR enc3) sv24_0_x0_6 v24_0_x0_6) (hH : Has Fr M [.obj b36 (.row 124 .whole [(.ptr b36 0), s47]), .vec 5 1 l47.length s47 (l47.flatMap enc5), tb0, tb1, tb2]), alert_textOf_2 F N v24_0_x0_0 v24_0_x0_1 v24_0_x0_2 v24_0_x0_3 v24_0_x0_4 v24_0_x0_5 v24_0_x0_6 v24_0_x0_7 v24_0_x0_8 l47 = some r → Run Tryd.prog ⟨⟨75, [], none⟩, []⟩ 33 (alert_textOf_post r) [(5, (.ptr b36 0)), (24, (.agg [(.fn (.func 87) [(.agg [(.str v24_0_x0_0), (.int .i64 v24_0_x0_1), (.int .i64 v24_0_x0_2), (.int .i64 v24_0_x0_3), (.int .i64 v24_0_x0_4), (.int .i64 v24_0_x0_5), sv24_0_x0_6, (.bool v24_0_x0_7), (.int .i64 v24_0_x0_8)])] []), (.fn (.func 88) [(.agg [(.str v24_0_x0_0), (.int .i64 v24_0_x0_1), (.int .i64 v24_0_x0_2), (.int .i64 v24_0_x0_3), (.int .i64 v24_0_x0_4), (.int .i64 v24_0_x0_5), sv24_0_x0_6, (.bool v24_0_x0_7), (.int .i64 v24_0_x0_8)])] []), (.fn (.func 89) [(.agg [(.str v24_0_x0_0), (.int .i64 v24_0_x0_1), (.int .i64 v24_0_x0_2), (.int .i64 v24_0_x0_3), (.int .i64 v24_0_x0_4), (.int .i64 v24_0_x0_5), sv24_0_x0_6, (.bool v24_0_x0_7), (.int .i64 v24_0_x0_8)])] []), (.fn (.func 90) [(.agg [(.str v24_0_x0_0), (.int .i64 v24_0_x0_1), (.int .i64 v24_0_x0_2), (.int .i64 v24_0_x0_3), (.int .i64 v24_0_x0_4), (.int .i64 v24_0_x0_5), sv24_0_x0_6, (.bool v24_0_x0_7), (.int .i64 v24_0_x0_8)])] []), (.fn (.func 91) [(.agg [(.str v24_0_x0_0), (.int .i64 v24_0_x0_1), (.int .i64 v24_0_x0_2), (.int .i64 v24_0_x0_3), (.int .i64 v24_0_x0_4), (.int .i64 v24_0_x0_5), sv24_0_x0_6, (.bool v24_0_x0_7), (.int .i64 v24_0_x0_8)])] []), (.fn (.func 92) [(.agg [(.str v24_0_x0_0), (.int .i64 v24_0_x0_1), (.int .i64 v24_0_x0_2), (.int .i64 v24_0_x0_3), (.int .i64 v24_0_x0_4), (.int .i64 v24_0_x0_5), sv24_0_x0_6, (.bool v24_0_x0_7), (.int .i64 v24_0_x0_8)])] []), (.fn (.func 93) [(.agg [(.str v24_0_x0_0), (.int .i64 v24_0_x0_1), (.int .i64 v24_0_x0_2), (.int .i64 v24_0_x0_3), (.int .i64 v24_0_x0_4), (.int .i64 v24_0_x0_5), sv24_0_x0_6, (.bool v24_0_x0_7), (.int .i64 v24_0_x0_8)])] [])])), (25, (.int .i64 1))] [codeC Tryd.prog 75 [1, 1, 1, 1, 0, 1, 0, 0], loopC Tryd.prog 75 [1, 1, 1, 1, 0, 1, 0, 0], .inBlock 0, codeC Tryd.prog 75 [1, 1, 1, 1, 1]] M := by
  intro N
  induction N with
  | zero =>
    intro v24_0_x0_0 v24_0_x0_1 v24_0_x0_2 v24_0_x0_3 v24_0_x0_4 v24_0_x0_5 v24_0_x0_6 v24_0_x0_7 v24_0_x0_8 l47 sv24_0_x0_6 b36 s47 Fr M r hv24_0_x0_6 hH h
    simp [alert_textOf_2] at h
  | succ N ih =>
    intro v24_0_x0_0 v24_0_x0_1 v24_0_x0_2 v24_0_x0_3 v24_0_x0_4 v24_0_x0_5 v24_0_x0_6 v24_0_x0_7 v24_0_x0_8 l47 sv24_0_x0_6 b36 s47 Fr M r hv24_0_x0_6 hH h
    rw [alert_textOf_2] at h
    refine Run.seq (Run.region ?_)
    refine Run.opG wantS_none (ex_lss rfl rfl) rfl ?_
    refine Run.opsEnd (Run.seq ?_)
    refine Run.condT' rfl rfl ?_
    refine Run.skip (Run.seq (Run.block (Run.seq (Run.region ?_))))
    refine Run.opG wantS_none (ex_idxA (j := 1) rfl rfl wha121 rfl (part_one agg120 rfl)) rfl ?_
    refine Run.opG wantS_none (ex_assign rfl) rfl ?_
    refine Run.opsEnd (Run.region ?_)
    refine Run.opG wantS_none (ex_move rfl) rfl ?_
    obtain ⟨r52, hr52, h⟩ := bnd_some h
    refine Run.callP wantS_none (ex_closure rfl rfl mkk88 cal88) rfl (alert_sheet_time_ok F (S_api_Alert.mk v24_0_x0_0 v24_0_x0_1 v24_0_x0_2 (S_api_Chance.mk v24_0_x0_3 v24_0_x0_4) v24_0_x0_5 v24_0_x0_6 v24_0_x0_7 v24_0_x0_8) sv24_0_x0_6 _ _ (hH.slcF hv24_0_x0_6) (fixH hH (List.mem_of_getElem? (i := 2) rfl) (List.mem_of_getElem? (i := 3) rfl) (List.mem_of_getElem? (i := 4) rfl)) hr52) ?_
    refine Run.enter wantS_none (ex_call rfl mkk94 cal94) Tryd.func94 rfl rfl ?_
    refine Run.seq (Run.region ?_)
    refine Run.opG wantS_none (ex_assign rfl) rfl ?_
    refine Run.opG wantS_none (ex_assign rfl) rfl ?_
    refine Run.opsEnd (Run.seq (Run.region ?_))
    refine Run.opG wantS_none (ex_move rfl) rfl ?_
    refine Run.enter wantS_none (ex_call rfl mkk102 cal102) Tryd.func102 rfl rfl ?_
    refine Run.seq (Run.region ?_)
    refine Run.opG wantS_none (ex_move rfl) rfl ?_
    refine Run.opG wantS_none (ex_nilP rfl) rfl ?_
    refine Run.opG wantS_none (ex_fieldAddr rfl off124_0) rfl ?_
    refine Run.opG wantS_none (ex_load1 rfl (hH.cells (i := 0) rfl 0 rfl) rdLe_rfl agg122) rfl ?_
    refine Run.opG wantS_none (ex_ptrPN rfl rfl eqk122) rfl ?_
    refine Run.opsEnd ?_
    refine Run.condF' rfl rfl ?_
    refine Run.seq (Run.region ?_)
    refine Run.opG wantS_none (ex_move rfl) rfl ?_
    refine Run.opG wantS_none (ex_nilP rfl) rfl ?_
    refine Run.opG wantS_none (ex_fieldAddr rfl off124_0) rfl ?_
    refine Run.opG wantS_none (ex_load1 rfl (hH.cells (i := 0) rfl 0 rfl) rdLe_rfl agg122) rfl ?_
    refine Run.opG wantS_none (ex_move rfl) rfl ?_
    refine Run.opG wantS_none (ex_ptrSamen rfl rfl pte122 inf124) rfl ?_
    refine Run.opsEnd ?_
    refine Run.condF' rfl rfl ?_
    refine Run.skip ?_
    refine Run.fallTo Tryd.func102 rfl res_nil rfl ?_
    refine Run.opsEnd (Run.seq (Run.region ?_))
    refine Run.opG wantS_none (ex_move rfl) rfl ?_
    refine Run.opG wantS_none (ex_move rfl) rfl ?_
    refine Run.opG wantS_none (ex_nilP rfl) rfl ?_
    refine Run.opG wantS_none (ex_fieldAddr rfl off124_1) rfl ?_
    refine Run.opG wantS_none (ex_load1 rfl (hH.cells (i := 0) rfl 1 rfl) rdLe_rfl agg108) rfl ?_
    refine Run.opG wantS_none (ex_move rfl) rfl ?_
    obtain ⟨l56, hl56, h⟩ := bnd_some h
    refine Run.opX wantS_none rfl (ExG.append rfl rfl hH (i := 1) rfl enc5_len rfl enc5_ones appt108_9 rfl (str_lenZ rfl _) (str_first (fun _ => rfl) _) hl56) ?_
    rintro s56 M58 (hH58 : Has Fr M58 [.obj b36 (.row 124 .whole [(.ptr b36 0), s47]), .vec 5 1 l56.length s56 (l56.flatMap enc5), tb0, tb1, tb2])
    refine Run.opG wantS_none (ex_nilP rfl) rfl ?_
    refine Run.opG wantS_none (ex_fieldAddr rfl off124_1) rfl ?_
    refine Run.opX wantS_none rfl (ExG.storeC (c' := [(.ptr b36 0), s56]) rfl rfl (cells_one (vec_one hH58 (i := 1) rfl)) hH58 (i := 0) rfl sz108 rfl rfl rfl (ones_cons (vec_one hH58 (i := 1) rfl) ones_nil) rfl) ?_
    rintro _ M59 ⟨rfl, (hH59 : Has Fr M59 [.obj b36 (.row 124 .whole [(.ptr b36 0), s56]), .vec 5 1 l56.length s56 (l56.flatMap enc5), tb0, tb1, tb2])⟩
    refine Run.opsEnd (Run.seq (Run.region ?_))
    refine Run.opG wantS_none (ex_move rfl) rfl ?_
    refine Run.opG wantS_none (ex_lenS rfl lenk9) rfl ?_
    refine Run.opG wantS_none (ex_assign rfl) rfl ?_
    refine Run.opG wantS_none (ex_assign rfl) rfl ?_
    refine Run.opsEnd ?_
    refine Run.retTo Tryd.func94 rfl (res_tmp rfl (res_tmp rfl res_nil)) rfl ?_
    refine Run.opsEnd (Run.inBlock (Run.region ?_))
    refine Run.opG wantS_none (ex_add rfl rfl) rfl ?_
    refine Run.opG wantS_none (ex_move rfl) rfl ?_
    refine Run.opsEnd (Run.inLoop ?_)
    exact Run.pick [5, 24, 25] (alert_textOf_3_ok F F v24_0_x0_0 v24_0_x0_1 v24_0_x0_2 v24_0_x0_3 v24_0_x0_4 v24_0_x0_5 v24_0_x0_6 v24_0_x0_7 v24_0_x0_8 l56 sv24_0_x0_6 b36 s56 _ _ _ hv24_0_x0_6 hH59 h)

def alert_textOf_1 (F : Nat) : Nat → (List UInt8) → Int → Int → Int → Int → Int → (List Int) → Bool → Int → Option ((List UInt8))
  | 0, _, _, _, _, _, _, _, _, _ => none
  | N + 1, v24_0_x0_0, v24_0_x0_1, v24_0_x0_2, v24_0_x0_3, v24_0_x0_4, v24_0_x0_5, v24_0_x0_6, v24_0_x0_7, v24_0_x0_8 =>
    bnd (alert_sheet_head F (S_api_Alert.mk v24_0_x0_0 v24_0_x0_1 v24_0_x0_2 (S_api_Chance.mk v24_0_x0_3 v24_0_x0_4) v24_0_x0_5 v24_0_x0_6 v24_0_x0_7 v24_0_x0_8)) fun r39 =>
    bnd (apd 1 ([] : List Int) (bytesI r39)) fun l45 =>
    alert_textOf_2 F F v24_0_x0_0 v24_0_x0_1 v24_0_x0_2 v24_0_x0_3 v24_0_x0_4 v24_0_x0_5 v24_0_x0_6 v24_0_x0_7 v24_0_x0_8 l45

theorem alert_textOf_1_ok (F : Nat) : ∀ (N : Nat), ∀ (v24_0_x0_0 : (List UInt8)) (v24_0_x0_1 : Int) (v24_0_x0_2 : Int) (v24_0_x0_3 : Int) (v24_0_x0_4 : Int) (v24_0_x0_5 : Int) (v24_0_x0_6 : (List Int)) (v24_0_x0_7 : Bool) (v24_0_x0_8 : Int) (sv24_0_x0_6 : SV) (b36 : Pos) (Fr : Rd) (M : Mem) (r : (List UInt8)) (hv24_0_x0_6 : Slc Fr 1 (FlatR enc3) sv24_0_x0_6 v24_0_x0_6) (hH : Has Fr M [.obj b36 (.row 124 .whole [.nilp, .nils]), tb0, tb1, tb2]), alert_textOf_1 F N v24_0_x0_0 v24_0_x0_1 v24_0_x0_2 v24_0_x0_3 v24_0_x0_4 v24_0_x0_5 v24_0_x0_6 v24_0_x0_7 v24_0_x0_8 = some r → Run Tryd.prog ⟨⟨75, [], none⟩, []⟩ 33 (alert_textOf_post r) [(5, (.ptr b36 0)), (24, (.agg [(.fn (.func 87) [(.agg [(.str v24_0_x0_0), (.int .i64 v24_0_x0_1), (.int .i64 v24_0_x0_2), (.int .i64 v24_0_x0_3), (.int .i64 v24_0_x0_4), (.int .i64 v24_0_x0_5), sv24_0_x0_6, (.bool v24_0_x0_7), (.int .i64 v24_0_x0_8)])] []), (.fn (.func 88) [(.agg [(.str v24_0_x0_0), (.int .i64 v24_0_x0_1), (.int .i64 v24_0_x0_2), (.int .i64 v24_0_x0_3), (.int .i64 v24_0_x0_4), (.int .i64 v24_0_x0_5), sv24_0_x0_6, (.bool v24_0_x0_7), (.int .i64 v24_0_x0_8)])] []), (.fn (.func 89) [(.agg [(.str v24_0_x0_0), (.int .i64 v24_0_x0_1), (.int .i64 v24_0_x0_2), (.int .i64 v24_0_x0_3), (.int .i64 v24_0_x0_4), (.int .i64 v24_0_x0_5), sv24_0_x0_6, (.bool v24_0_x0_7), (.int .i64 v24_0_x0_8)])] []), (.fn (.func 90) [(.agg [(.str v24_0_x0_0), (.int .i64 v24_0_x0_1), (.int .i64 v24_0_x0_2), (.int .i64 v24_0_x0_3), (.int .i64 v24_0_x0_4), (.int .i64 v24_0_x0_5), sv24_0_x0_6, (.bool v24_0_x0_7), (.int .i64 v24_0_x0_8)])] []), (.fn (.func 91) [(.agg [(.str v24_0_x0_0), (.int .i64 v24_0_x0_1), (.int .i64 v24_0_x0_2), (.int .i64 v24_0_x0_3), (.int .i64 v24_0_x0_4), (.int .i64 v24_0_x0_5), sv24_0_x0_6, (.bool v24_0_x0_7), (.int .i64 v24_0_x0_8)])] []), (.fn (.func 92) [(.agg [(.str v24_0_x0_0), (.int .i64 v24_0_x0_1), (.int .i64 v24_0_x0_2), (.int .i64 v24_0_x0_3), (.int .i64 v24_0_x0_4), (.int .i64 v24_0_x0_5), sv24_0_x0_6, (.bool v24_0_x0_7), (.int .i64 v24_0_x0_8)])] []), (.fn (.func 93) [(.agg [(.str v24_0_x0_0), (.int .i64 v24_0_x0_1), (.int .i64 v24_0_x0_2), (.int .i64 v24_0_x0_3), (.int .i64 v24_0_x0_4), (.int .i64 v24_0_x0_5), sv24_0_x0_6, (.bool v24_0_x0_7), (.int .i64 v24_0_x0_8)])] [])])), (25, (.int .i64 0))] [codeC Tryd.prog 75 [1, 1, 1, 1, 0, 1, 0, 0], loopC Tryd.prog 75 [1, 1, 1, 1, 0, 1, 0, 0], .inBlock 0, codeC Tryd.prog 75 [1, 1, 1, 1, 1]] M := by
  intro N
  induction N with
  | zero =>
    intro v24_0_x0_0 v24_0_x0_1 v24_0_x0_2 v24_0_x0_3 v24_0_x0_4 v24_0_x0_5 v24_0_x0_6 v24_0_x0_7 v24_0_x0_8 sv24_0_x0_6 b36 Fr M r hv24_0_x0_6 hH h
    simp [alert_textOf_1] at h
  | succ N ih =>
    intro v24_0_x0_0 v24_0_x0_1 v24_0_x0_2 v24_0_x0_3 v24_0_x0_4 v24_0_x0_5 v24_0_x0_6 v24_0_x0_7 v24_0_x0_8 sv24_0_x0_6 b36 Fr M r hv24_0_x0_6 hH h
    rw [alert_textOf_1] at h
    refine Run.seq (Run.region ?_)
    refine Run.opG wantS_none (ex_lss rfl rfl) rfl ?_
    refine Run.opsEnd (Run.seq ?_)
    refine Run.condT' rfl rfl ?_
    refine Run.skip (Run.seq (Run.block (Run.seq (Run.region ?_))))
    refine Run.opG wantS_none (ex_idxA (j := 0) rfl rfl wha121 rfl (part_one agg120 rfl)) rfl ?_
    refine Run.opG wantS_none (ex_assign rfl) rfl ?_
    refine Run.opsEnd (Run.region ?_)
    refine Run.opG wantS_none (ex_move rfl) rfl ?_
    obtain ⟨r39, hr39, h⟩ := bnd_some h
    refine Run.callP wantS_none (ex_closure rfl rfl mkk87 cal87) rfl (alert_sheet_head_ok F (S_api_Alert.mk v24_0_x0_0 v24_0_x0_1 v24_0_x0_2 (S_api_Chance.mk v24_0_x0_3 v24_0_x0_4) v24_0_x0_5 v24_0_x0_6 v24_0_x0_7 v24_0_x0_8) sv24_0_x0_6 _ _ (hH.slcF hv24_0_x0_6) (fixH hH (List.mem_of_getElem? (i := 1) rfl) (List.mem_of_getElem? (i := 2) rfl) (List.mem_of_getElem? (i := 3) rfl)) hr39) ?_
    refine Run.enter wantS_none (ex_call rfl mkk94 cal94) Tryd.func94 rfl rfl ?_
    refine Run.seq (Run.region ?_)
    refine Run.opG wantS_none (ex_assign rfl) rfl ?_
    refine Run.opG wantS_none (ex_assign rfl) rfl ?_
    refine Run.opsEnd (Run.seq (Run.region ?_))
    refine Run.opG wantS_none (ex_move rfl) rfl ?_
    refine Run.enter wantS_none (ex_call rfl mkk102 cal102) Tryd.func102 rfl rfl ?_
    refine Run.seq (Run.region ?_)
    refine Run.opG wantS_none (ex_move rfl) rfl ?_
    refine Run.opG wantS_none (ex_nilP rfl) rfl ?_
    refine Run.opG wantS_none (ex_fieldAddr rfl off124_0) rfl ?_
    refine Run.opG wantS_none (ex_load1 rfl (hH.cells (i := 0) rfl 0 rfl) rdLe_rfl agg122) rfl ?_
    refine Run.opG wantS_none (ex_ptrNN rfl rfl eqk122) rfl ?_
    refine Run.opsEnd ?_
    refine Run.condT' rfl rfl ?_
    refine Run.region ?_
    refine Run.opG wantS_none (ex_move rfl) rfl ?_
    refine Run.opG wantS_none (ex_move rfl) rfl ?_
    refine Run.opG wantS_none (ex_toU rfl uvk122_137 rfl hH (i := 0) rfl rfl) rfl ?_
    refine Run.opG wantS_none (ex_noEsc rfl mkk106 ncal106 ext106) rfl ?_
    refine Run.opG wantS_none (ex_backU rfl uvk137_122 hH (i := 0) rfl rfl clo124) rfl ?_
    refine Run.opG wantS_none (ex_nilP rfl) rfl ?_
    refine Run.opG wantS_none (ex_fieldAddr rfl off124_0) rfl ?_
    refine Run.opX wantS_none rfl (ExG.storeC (c' := [(.ptr b36 0), .nils]) rfl rfl rfl hH (i := 0) rfl sz122 rfl rfl rfl rfl rfl) ?_
    rintro _ M41 ⟨rfl, (hH41 : Has Fr M41 [.obj b36 (.row 124 .whole [(.ptr b36 0), .nils]), tb0, tb1, tb2])⟩
    refine Run.opsEnd ?_
    refine Run.fallTo Tryd.func102 rfl res_nil rfl ?_
    refine Run.opsEnd (Run.seq (Run.region ?_))
    refine Run.opG wantS_none (ex_move rfl) rfl ?_
    refine Run.opG wantS_none (ex_move rfl) rfl ?_
    refine Run.opG wantS_none (ex_nilP rfl) rfl ?_
    refine Run.opG wantS_none (ex_fieldAddr rfl off124_1) rfl ?_
    refine Run.opG wantS_none (ex_load1 rfl (hH41.cells (i := 0) rfl 1 rfl) rdLe_rfl agg108) rfl ?_
    refine Run.opG wantS_none (ex_move rfl) rfl ?_
    obtain ⟨l45, hl45, h⟩ := bnd_some h
    have hH48 : Has Fr M41 [.vec 5 1 ([] : List Int).length .nils (([] : List Int).flatMap enc5), .obj b36 (.row 124 .whole [(.ptr b36 0), .nils]), tb0, tb1, tb2] := hH41.nils 5 1
    refine Run.opX wantS_none rfl (ExG.append rfl rfl hH48 (i := 0) rfl enc5_len rfl enc5_ones appt108_9 rfl (str_lenZ rfl _) (str_first (fun _ => rfl) _) hl45) ?_
    rintro s45 M49 (hH49 : Has Fr M49 [.vec 5 1 l45.length s45 (l45.flatMap enc5), .obj b36 (.row 124 .whole [(.ptr b36 0), .nils]), tb0, tb1, tb2])
    refine Run.opG wantS_none (ex_nilP rfl) rfl ?_
    refine Run.opG wantS_none (ex_fieldAddr rfl off124_1) rfl ?_
    refine Run.opX wantS_none rfl (ExG.storeC (c' := [(.ptr b36 0), s45]) rfl rfl (cells_one (vec_one hH49 (i := 0) rfl)) hH49 (i := 1) rfl sz108 rfl rfl rfl (ones_cons (vec_one hH49 (i := 0) rfl) ones_nil) rfl) ?_
    rintro _ M50 ⟨rfl, (hH50 : Has Fr M50 [.vec 5 1 l45.length s45 (l45.flatMap enc5), .obj b36 (.row 124 .whole [(.ptr b36 0), s45]), tb0, tb1, tb2])⟩
    refine Run.opsEnd (Run.seq (Run.region ?_))
    refine Run.opG wantS_none (ex_move rfl) rfl ?_
    refine Run.opG wantS_none (ex_lenS rfl lenk9) rfl ?_
    refine Run.opG wantS_none (ex_assign rfl) rfl ?_
    refine Run.opG wantS_none (ex_assign rfl) rfl ?_
    refine Run.opsEnd ?_
    refine Run.retTo Tryd.func94 rfl (res_tmp rfl (res_tmp rfl res_nil)) rfl ?_
    refine Run.opsEnd (Run.inBlock (Run.region ?_))
    refine Run.opG wantS_none (ex_add rfl rfl) rfl ?_
    refine Run.opG wantS_none (ex_move rfl) rfl ?_
    refine Run.opsEnd (Run.inLoop ?_)
    exact Run.pick [5, 24, 25] (alert_textOf_2_ok F F v24_0_x0_0 v24_0_x0_1 v24_0_x0_2 v24_0_x0_3 v24_0_x0_4 v24_0_x0_5 v24_0_x0_6 v24_0_x0_7 v24_0_x0_8 l45 sv24_0_x0_6 b36 s45 _ _ _ hv24_0_x0_6 (hH50.pick [1, 0, 2, 3, 4] rfl rfl) h)

def alert_textOf (F : Nat) (a0 : S_api_Alert) : Option ((List UInt8)) :=
  alert_textOf_1 F F a0.Event a0.Version a0.Time a0.Chance.N a0.Chance.Of a0.Grid a0.Cells a0.Withdrawn a0.Before

theorem alert_textOf_ok (F : Nat) (a0 : S_api_Alert) (s0 : SV) (r : (List UInt8)) (M : Mem) (hs0 : Slc (rd M) 1 (FlatR enc3) s0 a0.Cells) (hfx : FixIn M fixes) (h : alert_textOf F a0 = some r) : CallsM Tryd.prog 75 [(.agg [(.str a0.Event), (.int .i64 a0.Version), (.int .i64 a0.Time), (.int .i64 a0.Chance.N), (.int .i64 a0.Chance.Of), (.int .i64 a0.Grid), s0, (.bool a0.Withdrawn), (.int .i64 a0.Before)])] M (fun s M' => s = (.str r) ∧ M' = M) := by
  refine CallsM.plain Tryd.func75 rfl rfl rfl (show Run _ _ _ (alert_textOf_post r) _ _ _ from ?_)
  rw [alert_textOf] at h
  replace hs0 := hs0.mono (rdLe_frozen M) (fun _ _ h => h)
  have hH : Has (ro (frozen M)) (frozen M) [tb0, tb1, tb2] := Has.ofFix hfx.frozen
  refine Run.seq (Run.region ?_)
  refine Run.opX wantS_none rfl (ExG.box rfl rfl hH) ?_
  rintro _ M26 ⟨b25, rfl, (hH26 : Has (ro (frozen M)) M26 [.obj b25 (.row 29 .whole [(.str a0.Event), (.int .i64 a0.Version), (.int .i64 a0.Time), (.int .i64 a0.Chance.N), (.int .i64 a0.Chance.Of), (.int .i64 a0.Grid), s0, (.bool a0.Withdrawn), (.int .i64 a0.Before)]), tb0, tb1, tb2])⟩
  refine Run.opG wantS_none (ex_assign rfl) rfl ?_
  refine Run.opsEnd (Run.seq (Run.region ?_))
  refine Run.opG wantS_none (ex_loadA rfl (hH26.cells (i := 0) rfl 0 rfl) rdLe_rfl agg29 rfl rfl rfl) rfl ?_
  refine Run.opX wantS_none rfl (ExG.new (v := fun b => .ptr b 0) (ex_alloc zer119) hH26) ?_
  rintro _ M29 ⟨b28, rfl, (hH29 : Has (ro (frozen M)) M29 [.obj b28 (.row 119 .whole [(.str []), (.int .i64 0), (.int .i64 0), (.int .i64 0), (.int .i64 0), (.int .i64 0), .nils, (.bool false), (.int .i64 0)]), .obj b25 (.row 29 .whole [(.str a0.Event), (.int .i64 a0.Version), (.int .i64 a0.Time), (.int .i64 a0.Chance.N), (.int .i64 a0.Chance.Of), (.int .i64 a0.Grid), s0, (.bool a0.Withdrawn), (.int .i64 a0.Before)]), tb0, tb1, tb2])⟩
  refine Run.opX wantS_none rfl (ExG.storeC (c' := [(.str a0.Event), (.int .i64 a0.Version), (.int .i64 a0.Time), (.int .i64 a0.Chance.N), (.int .i64 a0.Chance.Of), (.int .i64 a0.Grid), s0, (.bool a0.Withdrawn), (.int .i64 a0.Before)]) rfl rfl rfl hH29 (i := 0) rfl sz119 rfl rfl rfl (ones_cons rfl (ones_cons rfl (ones_cons rfl (ones_cons rfl (ones_cons rfl (ones_cons rfl (ones_cons (slc_one hs0) (ones_cons rfl (ones_cons rfl ones_nil))))))))) rfl) ?_
  rintro _ M30 ⟨rfl, (hH30 : Has (ro (frozen M)) M30 [.obj b28 (.row 119 .whole [(.str a0.Event), (.int .i64 a0.Version), (.int .i64 a0.Time), (.int .i64 a0.Chance.N), (.int .i64 a0.Chance.Of), (.int .i64 a0.Grid), s0, (.bool a0.Withdrawn), (.int .i64 a0.Before)]), .obj b25 (.row 29 .whole [(.str a0.Event), (.int .i64 a0.Version), (.int .i64 a0.Time), (.int .i64 a0.Chance.N), (.int .i64 a0.Chance.Of), (.int .i64 a0.Grid), s0, (.bool a0.Withdrawn), (.int .i64 a0.Before)]), tb0, tb1, tb2])⟩
  refine Run.opsEnd (Run.seq (Run.region ?_))
  refine Run.opG wantS_none (ex_loadA rfl (hH30.cells (i := 0) rfl 0 rfl) rdLe_rfl agg119 rfl rfl rfl) rfl ?_
  refine Run.opG wantS_none (ex_makeFunc rfl rfl) rfl ?_
  refine Run.opG wantS_none (ex_loadA rfl (hH30.cells (i := 0) rfl 0 rfl) rdLe_rfl agg119 rfl rfl rfl) rfl ?_
  refine Run.opG wantS_none (ex_makeFunc rfl rfl) rfl ?_
  refine Run.opG wantS_none (ex_loadA rfl (hH30.cells (i := 0) rfl 0 rfl) rdLe_rfl agg119 rfl rfl rfl) rfl ?_
  refine Run.opG wantS_none (ex_makeFunc rfl rfl) rfl ?_
  refine Run.opG wantS_none (ex_loadA rfl (hH30.cells (i := 0) rfl 0 rfl) rdLe_rfl agg119 rfl rfl rfl) rfl ?_
  refine Run.opG wantS_none (ex_makeFunc rfl rfl) rfl ?_
  refine Run.opG wantS_none (ex_loadA rfl (hH30.cells (i := 0) rfl 0 rfl) rdLe_rfl agg119 rfl rfl rfl) rfl ?_
  refine Run.opG wantS_none (ex_makeFunc rfl rfl) rfl ?_
  refine Run.opG wantS_none (ex_loadA rfl (hH30.cells (i := 0) rfl 0 rfl) rdLe_rfl agg119 rfl rfl rfl) rfl ?_
  refine Run.opG wantS_none (ex_makeFunc rfl rfl) rfl ?_
  refine Run.opG wantS_none (ex_loadA rfl (hH30.cells (i := 0) rfl 0 rfl) rdLe_rfl agg119 rfl rfl rfl) rfl ?_
  refine Run.opG wantS_none (ex_makeFunc rfl rfl) rfl ?_
  refine Run.opG wantS_none (ex_buildA (r := [(.fn (.func 87) [(.agg [(.str a0.Event), (.int .i64 a0.Version), (.int .i64 a0.Time), (.int .i64 a0.Chance.N), (.int .i64 a0.Chance.Of), (.int .i64 a0.Grid), s0, (.bool a0.Withdrawn), (.int .i64 a0.Before)])] []), (.fn (.func 88) [(.agg [(.str a0.Event), (.int .i64 a0.Version), (.int .i64 a0.Time), (.int .i64 a0.Chance.N), (.int .i64 a0.Chance.Of), (.int .i64 a0.Grid), s0, (.bool a0.Withdrawn), (.int .i64 a0.Before)])] []), (.fn (.func 89) [(.agg [(.str a0.Event), (.int .i64 a0.Version), (.int .i64 a0.Time), (.int .i64 a0.Chance.N), (.int .i64 a0.Chance.Of), (.int .i64 a0.Grid), s0, (.bool a0.Withdrawn), (.int .i64 a0.Before)])] []), (.fn (.func 90) [(.agg [(.str a0.Event), (.int .i64 a0.Version), (.int .i64 a0.Time), (.int .i64 a0.Chance.N), (.int .i64 a0.Chance.Of), (.int .i64 a0.Grid), s0, (.bool a0.Withdrawn), (.int .i64 a0.Before)])] []), (.fn (.func 91) [(.agg [(.str a0.Event), (.int .i64 a0.Version), (.int .i64 a0.Time), (.int .i64 a0.Chance.N), (.int .i64 a0.Chance.Of), (.int .i64 a0.Grid), s0, (.bool a0.Withdrawn), (.int .i64 a0.Before)])] []), (.fn (.func 92) [(.agg [(.str a0.Event), (.int .i64 a0.Version), (.int .i64 a0.Time), (.int .i64 a0.Chance.N), (.int .i64 a0.Chance.Of), (.int .i64 a0.Grid), s0, (.bool a0.Withdrawn), (.int .i64 a0.Before)])] []), (.fn (.func 93) [(.agg [(.str a0.Event), (.int .i64 a0.Version), (.int .i64 a0.Time), (.int .i64 a0.Chance.N), (.int .i64 a0.Chance.Of), (.int .i64 a0.Grid), s0, (.bool a0.Withdrawn), (.int .i64 a0.Before)])] [])]) rfl zer121 pls121 rfl) rfl ?_
  refine Run.opX wantS_none rfl (ExG.new (v := fun b => .ptr b 0) (ex_alloc zer121) hH30) ?_
  rintro _ M33 ⟨b32, rfl, (hH33 : Has (ro (frozen M)) M33 [.obj b32 (.row 121 .whole [.nilf, .nilf, .nilf, .nilf, .nilf, .nilf, .nilf]), .obj b28 (.row 119 .whole [(.str a0.Event), (.int .i64 a0.Version), (.int .i64 a0.Time), (.int .i64 a0.Chance.N), (.int .i64 a0.Chance.Of), (.int .i64 a0.Grid), s0, (.bool a0.Withdrawn), (.int .i64 a0.Before)]), .obj b25 (.row 29 .whole [(.str a0.Event), (.int .i64 a0.Version), (.int .i64 a0.Time), (.int .i64 a0.Chance.N), (.int .i64 a0.Chance.Of), (.int .i64 a0.Grid), s0, (.bool a0.Withdrawn), (.int .i64 a0.Before)]), tb0, tb1, tb2])⟩
  refine Run.opX wantS_none rfl (ExG.storeC (c' := [(.fn (.func 87) [(.agg [(.str a0.Event), (.int .i64 a0.Version), (.int .i64 a0.Time), (.int .i64 a0.Chance.N), (.int .i64 a0.Chance.Of), (.int .i64 a0.Grid), s0, (.bool a0.Withdrawn), (.int .i64 a0.Before)])] []), (.fn (.func 88) [(.agg [(.str a0.Event), (.int .i64 a0.Version), (.int .i64 a0.Time), (.int .i64 a0.Chance.N), (.int .i64 a0.Chance.Of), (.int .i64 a0.Grid), s0, (.bool a0.Withdrawn), (.int .i64 a0.Before)])] []), (.fn (.func 89) [(.agg [(.str a0.Event), (.int .i64 a0.Version), (.int .i64 a0.Time), (.int .i64 a0.Chance.N), (.int .i64 a0.Chance.Of), (.int .i64 a0.Grid), s0, (.bool a0.Withdrawn), (.int .i64 a0.Before)])] []), (.fn (.func 90) [(.agg [(.str a0.Event), (.int .i64 a0.Version), (.int .i64 a0.Time), (.int .i64 a0.Chance.N), (.int .i64 a0.Chance.Of), (.int .i64 a0.Grid), s0, (.bool a0.Withdrawn), (.int .i64 a0.Before)])] []), (.fn (.func 91) [(.agg [(.str a0.Event), (.int .i64 a0.Version), (.int .i64 a0.Time), (.int .i64 a0.Chance.N), (.int .i64 a0.Chance.Of), (.int .i64 a0.Grid), s0, (.bool a0.Withdrawn), (.int .i64 a0.Before)])] []), (.fn (.func 92) [(.agg [(.str a0.Event), (.int .i64 a0.Version), (.int .i64 a0.Time), (.int .i64 a0.Chance.N), (.int .i64 a0.Chance.Of), (.int .i64 a0.Grid), s0, (.bool a0.Withdrawn), (.int .i64 a0.Before)])] []), (.fn (.func 93) [(.agg [(.str a0.Event), (.int .i64 a0.Version), (.int .i64 a0.Time), (.int .i64 a0.Chance.N), (.int .i64 a0.Chance.Of), (.int .i64 a0.Grid), s0, (.bool a0.Withdrawn), (.int .i64 a0.Before)])] [])]) rfl rfl rfl hH33 (i := 0) rfl sz121 rfl rfl rfl rfl rfl) ?_
  rintro _ M34 ⟨rfl, (hH34 : Has (ro (frozen M)) M34 [.obj b32 (.row 121 .whole [(.fn (.func 87) [(.agg [(.str a0.Event), (.int .i64 a0.Version), (.int .i64 a0.Time), (.int .i64 a0.Chance.N), (.int .i64 a0.Chance.Of), (.int .i64 a0.Grid), s0, (.bool a0.Withdrawn), (.int .i64 a0.Before)])] []), (.fn (.func 88) [(.agg [(.str a0.Event), (.int .i64 a0.Version), (.int .i64 a0.Time), (.int .i64 a0.Chance.N), (.int .i64 a0.Chance.Of), (.int .i64 a0.Grid), s0, (.bool a0.Withdrawn), (.int .i64 a0.Before)])] []), (.fn (.func 89) [(.agg [(.str a0.Event), (.int .i64 a0.Version), (.int .i64 a0.Time), (.int .i64 a0.Chance.N), (.int .i64 a0.Chance.Of), (.int .i64 a0.Grid), s0, (.bool a0.Withdrawn), (.int .i64 a0.Before)])] []), (.fn (.func 90) [(.agg [(.str a0.Event), (.int .i64 a0.Version), (.int .i64 a0.Time), (.int .i64 a0.Chance.N), (.int .i64 a0.Chance.Of), (.int .i64 a0.Grid), s0, (.bool a0.Withdrawn), (.int .i64 a0.Before)])] []), (.fn (.func 91) [(.agg [(.str a0.Event), (.int .i64 a0.Version), (.int .i64 a0.Time), (.int .i64 a0.Chance.N), (.int .i64 a0.Chance.Of), (.int .i64 a0.Grid), s0, (.bool a0.Withdrawn), (.int .i64 a0.Before)])] []), (.fn (.func 92) [(.agg [(.str a0.Event), (.int .i64 a0.Version), (.int .i64 a0.Time), (.int .i64 a0.Chance.N), (.int .i64 a0.Chance.Of), (.int .i64 a0.Grid), s0, (.bool a0.Withdrawn), (.int .i64 a0.Before)])] []), (.fn (.func 93) [(.agg [(.str a0.Event), (.int .i64 a0.Version), (.int .i64 a0.Time), (.int .i64 a0.Chance.N), (.int .i64 a0.Chance.Of), (.int .i64 a0.Grid), s0, (.bool a0.Withdrawn), (.int .i64 a0.Before)])] [])]), .obj b28 (.row 119 .whole [(.str a0.Event), (.int .i64 a0.Version), (.int .i64 a0.Time), (.int .i64 a0.Chance.N), (.int .i64 a0.Chance.Of), (.int .i64 a0.Grid), s0, (.bool a0.Withdrawn), (.int .i64 a0.Before)]), .obj b25 (.row 29 .whole [(.str a0.Event), (.int .i64 a0.Version), (.int .i64 a0.Time), (.int .i64 a0.Chance.N), (.int .i64 a0.Chance.Of), (.int .i64 a0.Grid), s0, (.bool a0.Withdrawn), (.int .i64 a0.Before)]), tb0, tb1, tb2])⟩
  refine Run.opsEnd (Run.seq (Run.region ?_))
  refine Run.opX wantS_none rfl (ExG.new (v := fun b => .ptr b 0) (ex_alloc zer124) hH34) ?_
  rintro _ M37 ⟨b36, rfl, (hH37 : Has (ro (frozen M)) M37 [.obj b36 (.row 124 .whole [.nilp, .nils]), .obj b32 (.row 121 .whole [(.fn (.func 87) [(.agg [(.str a0.Event), (.int .i64 a0.Version), (.int .i64 a0.Time), (.int .i64 a0.Chance.N), (.int .i64 a0.Chance.Of), (.int .i64 a0.Grid), s0, (.bool a0.Withdrawn), (.int .i64 a0.Before)])] []), (.fn (.func 88) [(.agg [(.str a0.Event), (.int .i64 a0.Version), (.int .i64 a0.Time), (.int .i64 a0.Chance.N), (.int .i64 a0.Chance.Of), (.int .i64 a0.Grid), s0, (.bool a0.Withdrawn), (.int .i64 a0.Before)])] []), (.fn (.func 89) [(.agg [(.str a0.Event), (.int .i64 a0.Version), (.int .i64 a0.Time), (.int .i64 a0.Chance.N), (.int .i64 a0.Chance.Of), (.int .i64 a0.Grid), s0, (.bool a0.Withdrawn), (.int .i64 a0.Before)])] []), (.fn (.func 90) [(.agg [(.str a0.Event), (.int .i64 a0.Version), (.int .i64 a0.Time), (.int .i64 a0.Chance.N), (.int .i64 a0.Chance.Of), (.int .i64 a0.Grid), s0, (.bool a0.Withdrawn), (.int .i64 a0.Before)])] []), (.fn (.func 91) [(.agg [(.str a0.Event), (.int .i64 a0.Version), (.int .i64 a0.Time), (.int .i64 a0.Chance.N), (.int .i64 a0.Chance.Of), (.int .i64 a0.Grid), s0, (.bool a0.Withdrawn), (.int .i64 a0.Before)])] []), (.fn (.func 92) [(.agg [(.str a0.Event), (.int .i64 a0.Version), (.int .i64 a0.Time), (.int .i64 a0.Chance.N), (.int .i64 a0.Chance.Of), (.int .i64 a0.Grid), s0, (.bool a0.Withdrawn), (.int .i64 a0.Before)])] []), (.fn (.func 93) [(.agg [(.str a0.Event), (.int .i64 a0.Version), (.int .i64 a0.Time), (.int .i64 a0.Chance.N), (.int .i64 a0.Chance.Of), (.int .i64 a0.Grid), s0, (.bool a0.Withdrawn), (.int .i64 a0.Before)])] [])]), .obj b28 (.row 119 .whole [(.str a0.Event), (.int .i64 a0.Version), (.int .i64 a0.Time), (.int .i64 a0.Chance.N), (.int .i64 a0.Chance.Of), (.int .i64 a0.Grid), s0, (.bool a0.Withdrawn), (.int .i64 a0.Before)]), .obj b25 (.row 29 .whole [(.str a0.Event), (.int .i64 a0.Version), (.int .i64 a0.Time), (.int .i64 a0.Chance.N), (.int .i64 a0.Chance.Of), (.int .i64 a0.Grid), s0, (.bool a0.Withdrawn), (.int .i64 a0.Before)]), tb0, tb1, tb2])⟩
  refine Run.opsEnd (Run.seq (Run.seq (Run.region ?_)))
  refine Run.opG wantS_none (ex_loadA rfl (hH37.cells (i := 1) rfl 0 rfl) rdLe_rfl agg121 rfl rfl rfl) rfl ?_
  refine Run.opG wantS_none (ex_move rfl) rfl ?_
  refine Run.opsEnd (Run.block (Run.loop ?_))
  exact Run.pick [5, 24, 25] (alert_textOf_1_ok F F a0.Event a0.Version a0.Time a0.Chance.N a0.Chance.Of a0.Grid a0.Cells a0.Withdrawn a0.Before s0 b36 _ _ _ hs0 (hH37.pick [0, 4, 5, 6] rfl rfl) h)

theorem mkk75 : makeK Tryd.prog 75 = none := by kernel_rfl
theorem cal75 : callable Tryd.prog 75 = true := by kernel_rfl
theorem uvk5_3 : uvK Tryd.prog 5 3 = none := by kernel_rfl
theorem cvk5_3 : cvK Tryd.prog 5 3 = some (.int .i64) := by kernel_rfl
abbrev alert_digestOf_post (r : Int) : SV → Mem → Prop := fun s _ => s = (.int .i64 r)

def alert_digestOf_1 (F : Nat) : Nat → Int → (List Int) → Int → Int → Option (Int)
  | 0, _, _, _, _ => none
  | N + 1, v3, v8, v9, v10 =>
    bif (decide (v10 < v9)) then
      bnd (idx v8 v10) fun x37 =>
      (alert_digestOf_1 F N) (Int.tmod (w64 ((w64 ((w64 (v3 * (31 : Int))) + (w64 x37))) + (1 : Int))) (2147483647 : Int)) v8 v9 (w64 (v10 + (1 : Int)))
    else
      some v3

theorem alert_digestOf_1_ok (F : Nat) : ∀ (N : Nat), ∀ (v3 : Int) (v8 : (List Int)) (v9 : Int) (v10 : Int) (sv8 : SV) (Fr : Rd) (M : Mem) (r : Int) (hv8 : Slc Fr 1 (FlatR enc5) sv8 v8) (hH : Has Fr M [tb0, tb1, tb2]), alert_digestOf_1 F N v3 v8 v9 v10 = some r → Run Tryd.prog ⟨⟨45, [], none⟩, []⟩ 23 (alert_digestOf_post r) [(3, (.int .i64 v3)), (8, sv8), (9, (.int .i64 v9)), (10, (.int .i64 v10))] [codeC Tryd.prog 45 [1, 1, 0, 1, 0, 0], loopC Tryd.prog 45 [1, 1, 0, 1, 0, 0], .inBlock 0, codeC Tryd.prog 45 [1, 1, 1]] M := by
  intro N
  induction N with
  | zero =>
    intro v3 v8 v9 v10 sv8 Fr M r hv8 hH h
    simp [alert_digestOf_1] at h
  | succ N ih =>
    intro v3 v8 v9 v10 sv8 Fr M r hv8 hH h
    rw [alert_digestOf_1] at h
    refine Run.seq (Run.region ?_)
    refine Run.opG wantS_none (ex_lss rfl rfl) rfl ?_
    refine Run.opsEnd (Run.seq ?_)
    rcases btf ((decide (v10 < v9))) with hc35 | hc35
    · have h := bif_t hc35 h
      refine Run.condT' rfl hc35 ?_
      refine Run.skip (Run.seq (Run.block (Run.seq (Run.region ?_))))
      obtain ⟨x37, hx37, h⟩ := bnd_some h
      obtain ⟨p37, o37, _, hx37, hp37, rfl⟩ := sl_elem (P := Tryd.prog) (t := 108) (kk := .i64) hv8 hx37 els108
      refine Run.opG wantS_none (ex_elX rfl rfl hx37) rfl ?_
      refine Run.opG wantS_none (ex_load1 rfl (hH.ptrF hp37) rdLe_rfl agg5) rfl ?_
      refine Run.opG wantS_none (ex_assign rfl) rfl ?_
      refine Run.opsEnd (Run.region ?_)
      refine Run.opG wantS_none (ex_move rfl) rfl ?_
      refine Run.opG wantS_none (ex_mul rfl rfl) rfl ?_
      refine Run.opG wantS_none (ex_move rfl) rfl ?_
      refine Run.opG wantS_none (ex_conv rfl uvk5_3 cvk5_3) rfl ?_
      refine Run.opG wantS_none (ex_add rfl rfl) rfl ?_
      refine Run.opG wantS_none (ex_add rfl rfl) rfl ?_
      refine Run.opG wantS_none (ex_rem rfl rfl (by decide)) rfl ?_
      refine Run.opG wantS_none (ex_assign rfl) rfl ?_
      refine Run.opsEnd (Run.inBlock (Run.region ?_))
      refine Run.opG wantS_none (ex_add rfl rfl) rfl ?_
      refine Run.opG wantS_none (ex_move rfl) rfl ?_
      refine Run.opsEnd (Run.inLoop ?_)
      exact Run.pick [3, 8, 9, 10] (ih (Int.tmod (w64 ((w64 ((w64 (v3 * (31 : Int))) + (w64 x37))) + (1 : Int))) (2147483647 : Int)) v8 v9 (w64 (v10 + (1 : Int))) sv8 _ _ _ hv8 hH h)
    · have h := bif_f hc35 h
      refine Run.condF' rfl hc35 ?_
      refine Run.exit rfl (Run.seq (Run.region ?_))
      refine Run.opG wantS_none (ex_move rfl) rfl ?_
      refine Run.opG wantS_none (ex_assign rfl) rfl ?_
      refine Run.opsEnd ?_
      cases h
      exact Run.ret Tryd.func45 rfl (res_tmp rfl res_nil) rfl

def alert_digestOf (F : Nat) (a0 : S_api_Alert) : Option (Int) :=
  bnd (alert_textOf F a0) fun r28 =>
  bnd (byt r28) fun l31 =>
  alert_digestOf_1 F F (7 : Int) l31 (l31.length : Int) (0 : Int)

theorem alert_digestOf_ok (F : Nat) (a0 : S_api_Alert) (s0 : SV) (r : Int) (M : Mem) (hs0 : Slc (rd M) 1 (FlatR enc3) s0 a0.Cells) (hfx : FixIn M fixes) (h : alert_digestOf F a0 = some r) : CallsM Tryd.prog 45 [(.agg [(.str a0.Event), (.int .i64 a0.Version), (.int .i64 a0.Time), (.int .i64 a0.Chance.N), (.int .i64 a0.Chance.Of), (.int .i64 a0.Grid), s0, (.bool a0.Withdrawn), (.int .i64 a0.Before)])] M (fun s M' => s = (.int .i64 r) ∧ M' = M) := by
  refine CallsM.plain Tryd.func45 rfl rfl rfl (show Run _ _ _ (alert_digestOf_post r) _ _ _ from ?_)
  rw [alert_digestOf] at h
  replace hs0 := hs0.mono (rdLe_frozen M) (fun _ _ h => h)
  have hH : Has (ro (frozen M)) (frozen M) [tb0, tb1, tb2] := Has.ofFix hfx.frozen
  refine Run.seq (Run.region ?_)
  refine Run.opX wantS_none rfl (ExG.box rfl rfl hH) ?_
  rintro _ M26 ⟨b25, rfl, (hH26 : Has (ro (frozen M)) M26 [.obj b25 (.row 29 .whole [(.str a0.Event), (.int .i64 a0.Version), (.int .i64 a0.Time), (.int .i64 a0.Chance.N), (.int .i64 a0.Chance.Of), (.int .i64 a0.Grid), s0, (.bool a0.Withdrawn), (.int .i64 a0.Before)]), tb0, tb1, tb2])⟩
  refine Run.opG wantS_none (ex_assign rfl) rfl ?_
  refine Run.opsEnd (Run.seq (Run.region ?_))
  refine Run.opG wantS_none (ex_assign rfl) rfl ?_
  refine Run.opsEnd (Run.seq (Run.seq (Run.region ?_)))
  refine Run.opG wantS_none (ex_loadA rfl (hH26.cells (i := 0) rfl 0 rfl) rdLe_rfl agg29 rfl rfl rfl) rfl ?_
  obtain ⟨r28, hr28, h⟩ := bnd_some h
  refine Run.callP wantS_none (ex_call rfl mkk75 cal75) rfl (alert_textOf_ok F a0 s0 _ _ (hH26.slcF hs0) (fixH hH26 (List.mem_of_getElem? (i := 1) rfl) (List.mem_of_getElem? (i := 2) rfl) (List.mem_of_getElem? (i := 3) rfl)) hr28) ?_
  obtain ⟨l31, hl31, h⟩ := bnd_some h
  refine Run.opX wantS_none rfl (ExG.bytes rfl uvk9_108 cvk9_108 hl31 hH26) ?_
  rintro _ M32 ⟨b32, rfl, (hH32 : Has (ro (frozen M)) M32 [.obj b32 (.row 5 .mark (bytesS r28)), .obj b25 (.row 29 .whole [(.str a0.Event), (.int .i64 a0.Version), (.int .i64 a0.Time), (.int .i64 a0.Chance.N), (.int .i64 a0.Chance.Of), (.int .i64 a0.Grid), s0, (.bool a0.Withdrawn), (.int .i64 a0.Before)]), tb0, tb1, tb2])⟩
  refine Run.freezeB (t := 8) (i := 0) (enc := enc5) (fun _ => rfl) hl31 rfl hH32 rfl ?_
  intro F33 M33 hle33 (hH33 : Has F33 M33 [.vec 0 0 0 .nils [], .obj b25 (.row 29 .whole [(.str a0.Event), (.int .i64 a0.Version), (.int .i64 a0.Time), (.int .i64 a0.Chance.N), (.int .i64 a0.Chance.Of), (.int .i64 a0.Grid), s0, (.bool a0.Withdrawn), (.int .i64 a0.Before)]), tb0, tb1, tb2]) hf33
  replace hs0 := hs0.mono hle33 (fun _ _ h => h)
  refine Run.opG wantS_none (ex_len' rfl hf33 lenk108) rfl ?_
  refine Run.opG wantS_none (ex_move rfl) rfl ?_
  refine Run.opsEnd (Run.block (Run.loop ?_))
  exact Run.pick [3, 8, 9, 10] (alert_digestOf_1_ok F F (7 : Int) l31 (l31.length : Int) (0 : Int) (.ope b32 0 l31.length 1) _ _ _ hf33 (hH33.pick [2, 3, 4] rfl rfl) h)

theorem mkk45 : makeK Tryd.prog 45 = none := by kernel_rfl
theorem cal45 : callable Tryd.prog 45 = true := by kernel_rfl
theorem mkk74 : makeK Tryd.prog 74 = none := by kernel_rfl
theorem cal74 : callable Tryd.prog 74 = true := by kernel_rfl
abbrev alert_key_power_post (r : Int) : SV → Mem → Prop := fun s _ => s = (.int .i64 r)

def alert_key_power_2 (F : Nat) (hd1 : Int → Int → Int → S_api_Key → Option (Int)) (v1 : Int) (v2 : Int) (v8 : Int) (c22 : S_api_Key) : Option (Int) :=
  bnd (nz c22.Modulus) fun z31 =>
  hd1 (Int.tmod (w64 (v1 * v1)) c22.Modulus) (w64 (Int.tdiv v2 (2 : Int))) v8 c22

theorem alert_key_power_2_ok (F : Nat) (hd1 : Int → Int → Int → S_api_Key → Option (Int)) (hhd1 : ∀ (v1 : Int) (v2 : Int) (v8 : Int) (c22 : S_api_Key) (b22 : Pos) (Fr : Rd) (M : Mem) (r : Int) (hH : Has Fr M [.obj b22 (.row 79 .whole [(.int .i64 c22.Modulus), (.int .i64 c22.Exponent)])]), hd1 v1 v2 v8 c22 = some r → Run Tryd.prog ⟨⟨44, [], none⟩, []⟩ 30 (alert_key_power_post r) [(1, (.int .i64 v1)), (2, (.int .i64 v2)), (7, (.fn (.func 74) [] [(.ptr b22 0)])), (8, (.int .i64 v8))] [codeC Tryd.prog 44 [1, 1, 1, 0, 1, 0, 0], loopC Tryd.prog 44 [1, 1, 1, 0, 1, 0, 0], .inBlock 0, codeC Tryd.prog 44 [1, 1, 1, 1]] M) : ∀ (v1 : Int) (v2 : Int) (v8 : Int) (c22 : S_api_Key) (b22 : Pos) (Fr : Rd) (M : Mem) (r : Int) (hH : Has Fr M [.obj b22 (.row 79 .whole [(.int .i64 c22.Modulus), (.int .i64 c22.Exponent)])]), alert_key_power_2 F hd1 v1 v2 v8 c22 = some r → Run Tryd.prog ⟨⟨44, [], none⟩, []⟩ 30 (alert_key_power_post r) [(1, (.int .i64 v1)), (2, (.int .i64 v2)), (7, (.fn (.func 74) [] [(.ptr b22 0)])), (8, (.int .i64 v8))] [itemC Tryd.prog 44 [1, 1, 1, 0, 1, 0, 0, 1, 0, 0, 1] 0, .inBlock 1, codeC Tryd.prog 44 [1, 1, 1, 0, 1, 0, 0, 1, 1], loopC Tryd.prog 44 [1, 1, 1, 0, 1, 0, 0], .inBlock 0, codeC Tryd.prog 44 [1, 1, 1, 1]] M := by
  intro v1 v2 v8 c22 b22 Fr M r hH h
  rw [alert_key_power_2] at h
  refine Run.opG wantS_none (ex_move rfl) rfl ?_
  refine Run.opG wantS_none (ex_move rfl) rfl ?_
  refine Run.opG wantS_none (ex_move rfl) rfl ?_
  refine Run.enter wantS_none (ex_closure rfl rfl mkk74 cal74) Tryd.func74 rfl rfl ?_
  refine Run.seq (Run.region ?_)
  refine Run.opG wantS_none (ex_assign rfl) rfl ?_
  refine Run.opsEnd (Run.seq (Run.region ?_))
  refine Run.opG wantS_none (ex_move rfl) rfl ?_
  refine Run.opG wantS_none (ex_move rfl) rfl ?_
  refine Run.opG wantS_none (ex_mul rfl rfl) rfl ?_
  refine Run.opG wantS_none (ex_fieldAddr rfl off79_0) rfl ?_
  refine Run.opG wantS_none (ex_load1 rfl (hH.cells (i := 0) rfl 0 rfl) rdLe_rfl agg3) rfl ?_
  obtain ⟨z31, hz31, h⟩ := bnd_some h
  refine Run.opG wantS_none (ex_rem' rfl rfl hz31) rfl ?_
  refine Run.opG wantS_none (ex_assign rfl) rfl ?_
  refine Run.opsEnd ?_
  refine Run.retTo Tryd.func74 rfl (res_tmp rfl res_nil) rfl ?_
  refine Run.opG wantS_none (ex_assign rfl) rfl ?_
  refine Run.opsEnd (Run.inBlock (Run.region ?_))
  refine Run.opG wantS_none (ex_move rfl) rfl ?_
  refine Run.opG wantS_none (ex_quo rfl rfl (by decide)) rfl ?_
  refine Run.opG wantS_none (ex_assign rfl) rfl ?_
  refine Run.opsEnd (Run.inLoop ?_)
  exact Run.pick [1, 2, 7, 8] (hhd1 (Int.tmod (w64 (v1 * v1)) c22.Modulus) (w64 (Int.tdiv v2 (2 : Int))) v8 c22 b22 _ _ _ hH h)

def alert_key_power_1 (F : Nat) : Nat → Int → Int → Int → S_api_Key → Option (Int)
  | 0, _, _, _, _ => none
  | N + 1, v1, v2, v8, c22 =>
    bif (decide ((0 : Int) < v2)) then
      bif ((Int.tmod v2 (2 : Int)) == (1 : Int)) then
        bnd (nz c22.Modulus) fun z29 =>
        alert_key_power_2 F (alert_key_power_1 F N) v1 v2 (Int.tmod (w64 (v8 * v1)) c22.Modulus) c22
      else
        alert_key_power_2 F (alert_key_power_1 F N) v1 v2 v8 c22
    else
      some v8

theorem alert_key_power_1_ok (F : Nat) : ∀ (N : Nat), ∀ (v1 : Int) (v2 : Int) (v8 : Int) (c22 : S_api_Key) (b22 : Pos) (Fr : Rd) (M : Mem) (r : Int) (hH : Has Fr M [.obj b22 (.row 79 .whole [(.int .i64 c22.Modulus), (.int .i64 c22.Exponent)])]), alert_key_power_1 F N v1 v2 v8 c22 = some r → Run Tryd.prog ⟨⟨44, [], none⟩, []⟩ 30 (alert_key_power_post r) [(1, (.int .i64 v1)), (2, (.int .i64 v2)), (7, (.fn (.func 74) [] [(.ptr b22 0)])), (8, (.int .i64 v8))] [codeC Tryd.prog 44 [1, 1, 1, 0, 1, 0, 0], loopC Tryd.prog 44 [1, 1, 1, 0, 1, 0, 0], .inBlock 0, codeC Tryd.prog 44 [1, 1, 1, 1]] M := by
  intro N
  induction N with
  | zero =>
    intro v1 v2 v8 c22 b22 Fr M r hH h
    simp [alert_key_power_1] at h
  | succ N ih =>
    intro v1 v2 v8 c22 b22 Fr M r hH h
    rw [alert_key_power_1] at h
    refine Run.seq (Run.seq (Run.region ?_))
    refine Run.opG wantS_none (ex_move rfl) rfl ?_
    refine Run.opG wantS_none (ex_gtr rfl rfl) rfl ?_
    refine Run.opsEnd ?_
    rcases btf ((decide ((0 : Int) < v2))) with hc26 | hc26
    · have h := bif_t hc26 h
      refine Run.condT' rfl hc26 ?_
      refine Run.skip (Run.seq (Run.block (Run.seq (Run.seq (Run.region ?_)))))
      refine Run.opG wantS_none (ex_move rfl) rfl ?_
      refine Run.opG wantS_none (ex_rem rfl rfl (by decide)) rfl ?_
      refine Run.opG wantS_none (ex_eql rfl rfl) rfl ?_
      refine Run.opsEnd ?_
      rcases btf (((Int.tmod v2 (2 : Int)) == (1 : Int))) with hc27 | hc27
      · have h := bif_t hc27 h
        refine Run.condT' rfl hc27 ?_
        refine Run.region ?_
        refine Run.opG wantS_none (ex_move rfl) rfl ?_
        refine Run.opG wantS_none (ex_move rfl) rfl ?_
        refine Run.opG wantS_none (ex_move rfl) rfl ?_
        refine Run.enter wantS_none (ex_closure rfl rfl mkk74 cal74) Tryd.func74 rfl rfl ?_
        refine Run.seq (Run.region ?_)
        refine Run.opG wantS_none (ex_assign rfl) rfl ?_
        refine Run.opsEnd (Run.seq (Run.region ?_))
        refine Run.opG wantS_none (ex_move rfl) rfl ?_
        refine Run.opG wantS_none (ex_move rfl) rfl ?_
        refine Run.opG wantS_none (ex_mul rfl rfl) rfl ?_
        refine Run.opG wantS_none (ex_fieldAddr rfl off79_0) rfl ?_
        refine Run.opG wantS_none (ex_load1 rfl (hH.cells (i := 0) rfl 0 rfl) rdLe_rfl agg3) rfl ?_
        obtain ⟨z29, hz29, h⟩ := bnd_some h
        refine Run.opG wantS_none (ex_rem' rfl rfl hz29) rfl ?_
        refine Run.opG wantS_none (ex_assign rfl) rfl ?_
        refine Run.opsEnd ?_
        refine Run.retTo Tryd.func74 rfl (res_tmp rfl res_nil) rfl ?_
        refine Run.opG wantS_none (ex_assign rfl) rfl ?_
        refine Run.opsEnd (Run.region ?_)
        exact Run.pick [1, 2, 7, 8] (alert_key_power_2_ok F (alert_key_power_1 F N) ih v1 v2 (Int.tmod (w64 (v8 * v1)) c22.Modulus) c22 b22 _ _ _ hH h)
      · have h := bif_f hc27 h
        refine Run.condF' rfl hc27 ?_
        refine Run.skip (Run.region ?_)
        exact Run.pick [1, 2, 7, 8] (alert_key_power_2_ok F (alert_key_power_1 F N) ih v1 v2 v8 c22 b22 _ _ _ hH h)
    · have h := bif_f hc26 h
      refine Run.condF' rfl hc26 ?_
      refine Run.exit rfl (Run.seq (Run.region ?_))
      refine Run.opG wantS_none (ex_move rfl) rfl ?_
      refine Run.opG wantS_none (ex_assign rfl) rfl ?_
      refine Run.opsEnd ?_
      cases h
      exact Run.ret Tryd.func44 rfl (res_tmp rfl res_nil) rfl

def alert_key_power (F : Nat) (a0 : S_api_Key) (a1 : Int) (a2 : Int) : Option (Int) :=
  bnd (nz a0.Modulus) fun z25 =>
  alert_key_power_1 F F (Int.tmod a1 a0.Modulus) a2 (1 : Int) a0

theorem alert_key_power_ok (F : Nat) (a0 : S_api_Key) (a1 : Int) (a2 : Int) (r : Int) (M : Mem) (h : alert_key_power F a0 a1 a2 = some r) : CallsM Tryd.prog 44 [(.agg [(.int .i64 a0.Modulus), (.int .i64 a0.Exponent)]), (.int .i64 a1), (.int .i64 a2)] M (fun s M' => s = (.int .i64 r) ∧ M' = M) := by
  refine CallsM.plain Tryd.func44 rfl rfl rfl (show Run _ _ _ (alert_key_power_post r) _ _ _ from ?_)
  rw [alert_key_power] at h
  have hH := Has.nil (frozen M)
  refine Run.seq (Run.region ?_)
  refine Run.opX wantS_none rfl (ExG.box rfl rfl hH) ?_
  rintro _ M23 ⟨b22, rfl, (hH23 : Has (ro (frozen M)) M23 [.obj b22 (.row 79 .whole [(.int .i64 a0.Modulus), (.int .i64 a0.Exponent)])])⟩
  refine Run.opG wantS_none (ex_assign rfl) rfl ?_
  refine Run.opsEnd (Run.seq (Run.region ?_))
  refine Run.opG wantS_none (ex_makeFunc rfl rfl) rfl ?_
  refine Run.opG wantS_none (ex_assign rfl) rfl ?_
  refine Run.opsEnd (Run.seq (Run.region ?_))
  refine Run.opG wantS_none (ex_assign rfl) rfl ?_
  refine Run.opsEnd (Run.seq (Run.seq (Run.region ?_)))
  refine Run.opG wantS_none (ex_move rfl) rfl ?_
  refine Run.opG wantS_none (ex_fieldAddr rfl off79_0) rfl ?_
  refine Run.opG wantS_none (ex_load1 rfl (hH23.cells (i := 0) rfl 0 rfl) rdLe_rfl agg3) rfl ?_
  obtain ⟨z25, hz25, h⟩ := bnd_some h
  refine Run.opG wantS_none (ex_rem' rfl rfl hz25) rfl ?_
  refine Run.opG wantS_none (ex_assign rfl) rfl ?_
  refine Run.opsEnd (Run.block (Run.loop ?_))
  exact Run.pick [1, 2, 7, 8] (alert_key_power_1_ok F F (Int.tmod a1 a0.Modulus) a2 (1 : Int) a0 b22 _ _ _ hH23 h)

theorem mkk44 : makeK Tryd.prog 44 = none := by kernel_rfl
theorem cal44 : callable Tryd.prog 44 = true := by kernel_rfl
theorem plan10_1_1_0 : planOf Tryd.prog (opsC (atC Tryd.prog 10 [1, 1, 0])) = some [.fl 0, .fl 1, .fl 3, .an 2 [3, 0], .an 4 [], .fl 5, .fl 6, .sync] := by kernel_rfl
abbrev alert_Sign_post (r : Int × Int) : SV → Mem → Prop := fun s _ => s = (.tuple [(.int .i64 r.1), (.int .i64 r.2)])

def alert_Sign_1 (F : Nat) (v1 : Int) (v16 : Bool) (c25 : S_api_Key) (c28_0 : (List UInt8)) (c28_1 : Int) (c28_2 : Int) (c28_3 : Int) (c28_4 : Int) (c28_5 : Int) (c28_6 : (List Int)) (c28_7 : Bool) (c28_8 : Int) : Option (Int × Int) :=
  bif v16 then
    some ((0 : Int), (100 : Int))
  else
    bnd (alert_isAlert F (S_api_Alert.mk c28_0 c28_1 c28_2 (S_api_Chance.mk c28_3 c28_4) c28_5 c28_6 c28_7 c28_8)) fun r36 =>
    bif (!r36) then
      some ((0 : Int), (101 : Int))
    else
      bnd (alert_digestOf F (S_api_Alert.mk c28_0 c28_1 c28_2 (S_api_Chance.mk c28_3 c28_4) c28_5 c28_6 c28_7 c28_8)) fun r39 =>
      bnd (alert_key_power F c25 r39 v1) fun r41 =>
      some (r41, (0 : Int))

theorem alert_Sign_1_ok (F : Nat) : ∀ (v1 : Int) (v16 : Bool) (c25 : S_api_Key) (c28_0 : (List UInt8)) (c28_1 : Int) (c28_2 : Int) (c28_3 : Int) (c28_4 : Int) (c28_5 : Int) (c28_6 : (List Int)) (c28_7 : Bool) (c28_8 : Int) (sc28_6 : SV) (b25 : Pos) (b28 : Pos) (Fr : Rd) (M : Mem) (r : Int × Int) (hc28_6 : Slc Fr 1 (FlatR enc3) sc28_6 c28_6) (hH : Has Fr M [.obj b25 (.row 24 .whole [(.int .i64 c25.Modulus), (.int .i64 c25.Exponent)]), .obj b28 (.row 29 .whole [(.str c28_0), (.int .i64 c28_1), (.int .i64 c28_2), (.int .i64 c28_3), (.int .i64 c28_4), (.int .i64 c28_5), sc28_6, (.bool c28_7), (.int .i64 c28_8)]), tb0, tb1, tb2]), alert_Sign_1 F v1 v16 c25 c28_0 c28_1 c28_2 c28_3 c28_4 c28_5 c28_6 c28_7 c28_8 = some r → Run Tryd.prog ⟨⟨10, [], none⟩, []⟩ 26 (alert_Sign_post r) [(1, (.int .i64 v1)), (3, (.ptr b25 0)), (5, (.ptr b28 0)), (16, (.bool v16))] [itemC Tryd.prog 10 [1, 0, 0, 0] 8, codeC Tryd.prog 10 [1, 0, 0, 1], .inBlock 0, codeC Tryd.prog 10 [1, 1]] M := by
  intro v1 v16 c25 c28_0 c28_1 c28_2 c28_3 c28_4 c28_5 c28_6 c28_7 c28_8 sc28_6 b25 b28 Fr M r hc28_6 hH h
  rw [alert_Sign_1] at h
  refine Run.opG wantS_none (ex_assign rfl) rfl ?_
  refine Run.opsEnd ?_
  rcases btf (v16) with hc34 | hc34
  · have h := bif_t hc34 h
    refine Run.condT' rfl hc34 ?_
    refine Run.seq (Run.region ?_)
    refine Run.opG wantS_none (ex_assign rfl) rfl ?_
    refine Run.opG wantS_none (ex_assign rfl) rfl ?_
    refine Run.opsEnd ?_
    cases h
    exact Run.ret Tryd.func10 rfl (res_tmp rfl (res_tmp rfl res_nil)) rfl
  · have h := bif_f hc34 h
    refine Run.condF' rfl hc34 ?_
    refine Run.seq (Run.region ?_)
    refine Run.opG wantS_none (ex_loadA rfl (hH.cells (i := 1) rfl 0 rfl) rdLe_rfl agg29 rfl rfl rfl) rfl ?_
    obtain ⟨r36, hr36, h⟩ := bnd_some h
    refine Run.callP wantS_none (ex_call rfl mkk43 cal43) rfl (alert_isAlert_ok F (S_api_Alert.mk c28_0 c28_1 c28_2 (S_api_Chance.mk c28_3 c28_4) c28_5 c28_6 c28_7 c28_8) sc28_6 _ _ (hH.slcF hc28_6) hr36) ?_
    refine Run.opG wantS_none (ex_not rfl) rfl ?_
    refine Run.opG wantS_none (ex_assign rfl) rfl ?_
    refine Run.opsEnd ?_
    rcases btf ((!r36)) with hc38 | hc38
    · have h := bif_t hc38 h
      refine Run.condT' rfl hc38 ?_
      refine Run.seq (Run.region ?_)
      refine Run.opG wantS_none (ex_assign rfl) rfl ?_
      refine Run.opG wantS_none (ex_assign rfl) rfl ?_
      refine Run.opsEnd ?_
      cases h
      exact Run.ret Tryd.func10 rfl (res_tmp rfl (res_tmp rfl res_nil)) rfl
    · have h := bif_f hc38 h
      refine Run.condF' rfl hc38 ?_
      refine Run.skip (Run.inBlock (Run.seq ?_))
      refine Run.drawG plan10_1_1_0 ?_
      refine DrawG.fl rfl (ev_ex wantS_none (ex_loadA rfl (hH.cells (i := 0) rfl 0 rfl) rdLe_rfl agg24 rfl rfl rfl)) rfl ?_
      refine DrawG.fl rfl (ev_ex wantS_none (ex_loadA rfl (hH.cells (i := 1) rfl 0 rfl) rdLe_rfl agg29 rfl rfl rfl)) rfl ?_
      refine DrawG.fl rfl (ev_ex wantS_none (ex_move rfl)) rfl ?_
      obtain ⟨r39, hr39, h⟩ := bnd_some h
      refine DrawG.callP rfl wantS_none (ex_call rfl mkk45 cal45) rfl (alert_digestOf_ok F (S_api_Alert.mk c28_0 c28_1 c28_2 (S_api_Chance.mk c28_3 c28_4) c28_5 c28_6 c28_7 c28_8) sc28_6 _ _ (hH.slcF hc28_6) (fixH hH (List.mem_of_getElem? (i := 2) rfl) (List.mem_of_getElem? (i := 3) rfl) (List.mem_of_getElem? (i := 4) rfl)) hr39) (st_cons rfl (ev_ex wantS_none (ex_move rfl)) rfl rfl rfl (st_cons rfl (ev_ex wantS_none (ex_loadA rfl (hH.cells (i := 0) rfl 0 rfl) rdLe_rfl agg24 rfl rfl rfl)) rfl rfl rfl st_nil)) ?_
      obtain ⟨r41, hr41, h⟩ := bnd_some h
      refine DrawG.callP rfl wantS_none (ex_call rfl mkk44 cal44) rfl (alert_key_power_ok F c25 r39 v1 _ _ hr41) st_nil ?_
      refine DrawG.fl rfl (ev_ex wantS_none (ex_assign rfl)) rfl ?_
      refine DrawG.fl rfl (ev_ex wantS_none (ex_assign rfl)) rfl ?_
      refine DrawG.sync ?_
      refine DrawG.nil ?_
      cases h
      exact Run.ret Tryd.func10 rfl (res_tmp rfl (res_tmp rfl res_nil)) rfl

def alert_Sign (F : Nat) (a0 : S_api_Key) (a1 : Int) (a2 : S_api_Alert) : Option (Int × Int) :=
  bnd (alert_key_isPlausible F a0) fun r31 =>
  bif (!r31) then
    alert_Sign_1 F a1 true a0 a2.Event a2.Version a2.Time a2.Chance.N a2.Chance.Of a2.Grid a2.Cells a2.Withdrawn a2.Before
  else
    bnd (alert_isFrom F (1 : Int) a1 (1073741824 : Int)) fun r44 =>
    alert_Sign_1 F a1 (!r44) a0 a2.Event a2.Version a2.Time a2.Chance.N a2.Chance.Of a2.Grid a2.Cells a2.Withdrawn a2.Before

theorem alert_Sign_ok (F : Nat) (a0 : S_api_Key) (a1 : Int) (a2 : S_api_Alert) (s0 : SV) (r : Int × Int) (M : Mem) (hs0 : Slc (rd M) 1 (FlatR enc3) s0 a2.Cells) (hfx : FixIn M fixes) (h : alert_Sign F a0 a1 a2 = some r) : CallsM Tryd.prog 10 [(.agg [(.int .i64 a0.Modulus), (.int .i64 a0.Exponent)]), (.int .i64 a1), (.agg [(.str a2.Event), (.int .i64 a2.Version), (.int .i64 a2.Time), (.int .i64 a2.Chance.N), (.int .i64 a2.Chance.Of), (.int .i64 a2.Grid), s0, (.bool a2.Withdrawn), (.int .i64 a2.Before)])] M (fun s M' => s = (.tuple [(.int .i64 r.1), (.int .i64 r.2)]) ∧ M' = M) := by
  refine CallsM.plain Tryd.func10 rfl rfl rfl (show Run _ _ _ (alert_Sign_post r) _ _ _ from ?_)
  rw [alert_Sign] at h
  replace hs0 := hs0.mono (rdLe_frozen M) (fun _ _ h => h)
  have hH : Has (ro (frozen M)) (frozen M) [tb0, tb1, tb2] := Has.ofFix hfx.frozen
  refine Run.seq (Run.region ?_)
  refine Run.opX wantS_none rfl (ExG.box rfl rfl hH) ?_
  rintro _ M26 ⟨b25, rfl, (hH26 : Has (ro (frozen M)) M26 [.obj b25 (.row 24 .whole [(.int .i64 a0.Modulus), (.int .i64 a0.Exponent)]), tb0, tb1, tb2])⟩
  refine Run.opX wantS_none rfl (ExG.box rfl rfl hH26) ?_
  rintro _ M29 ⟨b28, rfl, (hH29 : Has (ro (frozen M)) M29 [.obj b28 (.row 29 .whole [(.str a2.Event), (.int .i64 a2.Version), (.int .i64 a2.Time), (.int .i64 a2.Chance.N), (.int .i64 a2.Chance.Of), (.int .i64 a2.Grid), s0, (.bool a2.Withdrawn), (.int .i64 a2.Before)]), .obj b25 (.row 24 .whole [(.int .i64 a0.Modulus), (.int .i64 a0.Exponent)]), tb0, tb1, tb2])⟩
  refine Run.opG wantS_none (ex_assign rfl) rfl ?_
  refine Run.opG wantS_none (ex_assign rfl) rfl ?_
  refine Run.opsEnd (Run.seq (Run.block (Run.seq (Run.region ?_))))
  refine Run.opG wantS_none (ex_loadA rfl (hH29.cells (i := 1) rfl 0 rfl) rdLe_rfl agg24 rfl rfl rfl) rfl ?_
  obtain ⟨r31, hr31, h⟩ := bnd_some h
  refine Run.callP wantS_none (ex_call rfl mkk42 cal42) rfl (alert_key_isPlausible_ok F a0 _ _ hr31) ?_
  refine Run.opG wantS_none (ex_not rfl) rfl ?_
  refine Run.opG wantS_none (ex_move rfl) rfl ?_
  rcases btf ((!r31)) with hc33 | hc33
  · have h := bif_t hc33 h
    refine Run.no (wantS_not' rfl rfl hc33) rfl ?_
    refine Run.no (wantS_not' rfl rfl hc33) rfl ?_
    refine Run.no (wantS_not' rfl rfl hc33) rfl ?_
    refine Run.opG wantS_none (ex_pickT' rfl hc33 rfl rfl) rfl ?_
    exact Run.pick [1, 3, 5, 16] (alert_Sign_1_ok F a1 true a0 a2.Event a2.Version a2.Time a2.Chance.N a2.Chance.Of a2.Grid a2.Cells a2.Withdrawn a2.Before s0 b25 b28 _ _ _ hs0 (hH29.pick [1, 0, 2, 3, 4] rfl rfl) h)
  · have h := bif_f hc33 h
    refine Run.opG (wantS_yes' rfl rfl hc33) (ex_move rfl) rfl ?_
    obtain ⟨r44, hr44, h⟩ := bnd_some h
    refine Run.callP (wantS_yes' rfl rfl hc33) (ex_call rfl mkk36 cal36) rfl (alert_isFrom_ok F (1 : Int) a1 (1073741824 : Int) _ _ hr44) ?_
    refine Run.opG (wantS_yes' rfl rfl hc33) (ex_not rfl) rfl ?_
    refine Run.opG wantS_none (ex_pickF' rfl hc33 rfl rfl) rfl ?_
    exact Run.pick [1, 3, 5, 16] (alert_Sign_1_ok F a1 (!r44) a0 a2.Event a2.Version a2.Time a2.Chance.N a2.Chance.Of a2.Grid a2.Cells a2.Withdrawn a2.Before s0 b25 b28 _ _ _ hs0 (hH29.pick [1, 0, 2, 3, 4] rfl rfl) h)

theorem mkk10 : makeK Tryd.prog 10 = none := by kernel_rfl
theorem cal10 : callable Tryd.prog 10 = true := by kernel_rfl
theorem agg79 : aggSize Tryd.prog 79 = some (some 2) := by kernel_rfl
theorem plan50_1_0 : planOf Tryd.prog (opsC (atC Tryd.prog 50 [1, 0])) = some [.fl 0, .fl 1, .fl 2, .fl 3, .an 4 [], .fl 5, .fl 6, .fl 7, .fl 8, .fl 9, .fl 11, .fl 12, .fl 13, .fl 14, .an 10 [14, 13, 12, 11], .fl 15, .fl 16, .fl 17, .sync] := by kernel_rfl
abbrev alert_key_isSigned_post (r : Bool) : SV → Mem → Prop := fun s _ => s = (.bool r)

def alert_key_isSigned_1 (F : Nat) (v6 : Bool) : Option (Bool) :=
  some v6

theorem alert_key_isSigned_1_ok (F : Nat) : ∀ (v6 : Bool) (Fr : Rd) (M : Mem) (r : Bool) (hH : Has Fr M []), alert_key_isSigned_1 F v6 = some r → Run Tryd.prog ⟨⟨50, [], none⟩, []⟩ 24 (alert_key_isSigned_post r) [(6, (.bool v6))] [codeC Tryd.prog 50 [1, 1]] M := by
  intro v6 Fr M r hH h
  rw [alert_key_isSigned_1] at h
  cases h
  exact Run.ret Tryd.func50 rfl (res_tmp rfl res_nil) rfl

def alert_key_isSigned (F : Nat) (a0 : S_api_Key) (a1 : Int) (a2 : Int) : Option (Bool) :=
  bnd (alert_isFrom F (0 : Int) a2 (w64 (a0.Modulus - (1 : Int)))) fun r24 =>
  bif r24 then
    bnd (nz a0.Modulus) fun z27 =>
    bnd (alert_key_power F a0 a2 a0.Exponent) fun r28 =>
    alert_key_isSigned_1 F (r28 == (Int.tmod a1 a0.Modulus))
  else
    alert_key_isSigned_1 F false

theorem alert_key_isSigned_ok (F : Nat) (a0 : S_api_Key) (a1 : Int) (a2 : Int) (r : Bool) (M : Mem) (h : alert_key_isSigned F a0 a1 a2 = some r) : CallsM Tryd.prog 50 [(.agg [(.int .i64 a0.Modulus), (.int .i64 a0.Exponent)]), (.int .i64 a1), (.int .i64 a2)] M (fun s M' => s = (.bool r) ∧ M' = M) := by
  refine CallsM.plain Tryd.func50 rfl rfl rfl (show Run _ _ _ (alert_key_isSigned_post r) _ _ _ from ?_)
  rw [alert_key_isSigned] at h
  have hH := Has.nil (frozen M)
  refine Run.seq (Run.region ?_)
  refine Run.opX wantS_none rfl (ExG.box rfl rfl hH) ?_
  rintro _ M23 ⟨b22, rfl, (hH23 : Has (ro (frozen M)) M23 [.obj b22 (.row 79 .whole [(.int .i64 a0.Modulus), (.int .i64 a0.Exponent)])])⟩
  refine Run.opG wantS_none (ex_assign rfl) rfl ?_
  refine Run.opsEnd (Run.seq ?_)
  refine Run.drawG plan50_1_0 ?_
  refine DrawG.fl rfl (ev_ex wantS_none (ex_move rfl)) rfl ?_
  refine DrawG.fl rfl (ev_ex wantS_none (ex_fieldAddr rfl off79_0)) rfl ?_
  refine DrawG.fl rfl (ev_ex wantS_none (ex_load1 rfl (hH23.cells (i := 0) rfl 0 rfl) rdLe_rfl agg3)) rfl ?_
  refine DrawG.fl rfl (ev_ex wantS_none (ex_sub rfl rfl)) rfl ?_
  obtain ⟨r24, hr24, h⟩ := bnd_some h
  refine DrawG.callP rfl wantS_none (ex_call rfl mkk36 cal36) rfl (alert_isFrom_ok F (0 : Int) a2 (w64 (a0.Modulus - (1 : Int))) _ _ hr24) st_nil ?_
  refine DrawG.fl rfl (ev_ex wantS_none (ex_move rfl)) rfl ?_
  rcases btf (r24) with hc26 | hc26
  · have h := bif_t hc26 h
    refine DrawG.fl rfl (ev_ex (wantS_yes' rfl rfl hc26) (ex_loadA rfl (hH23.cells (i := 0) rfl 0 rfl) rdLe_rfl agg79 rfl rfl rfl)) rfl ?_
    refine DrawG.fl rfl (ev_ex (wantS_yes' rfl rfl hc26) (ex_move rfl)) rfl ?_
    refine DrawG.fl rfl (ev_ex (wantS_yes' rfl rfl hc26) (ex_fieldAddr rfl off79_1)) rfl ?_
    refine DrawG.fl rfl (ev_ex (wantS_yes' rfl rfl hc26) (ex_load1 rfl (hH23.cells (i := 0) rfl 1 rfl) rdLe_rfl agg3)) rfl ?_
    refine DrawG.fl rfl (ev_ex (wantS_yes' rfl rfl hc26) (ex_move rfl)) rfl ?_
    refine DrawG.fl rfl (ev_ex (wantS_yes' rfl rfl hc26) (ex_fieldAddr rfl off79_0)) rfl ?_
    refine DrawG.fl rfl (ev_ex (wantS_yes' rfl rfl hc26) (ex_load1 rfl (hH23.cells (i := 0) rfl 0 rfl) rdLe_rfl agg3)) rfl ?_
    obtain ⟨z27, hz27, h⟩ := bnd_some h
    refine DrawG.fl rfl (ev_ex (wantS_yes' rfl rfl hc26) (ex_rem' rfl rfl hz27)) rfl ?_
    obtain ⟨r28, hr28, h⟩ := bnd_some h
    refine DrawG.callP rfl (wantS_yes' rfl rfl hc26) (ex_call rfl mkk44 cal44) rfl (alert_key_power_ok F a0 a2 a0.Exponent _ _ hr28) (st_cons rfl (ev_ex (wantS_yes' rfl rfl hc26) (ex_rem' rfl rfl hz27)) rfl rfl rfl (st_cons rfl (ev_ex (wantS_yes' rfl rfl hc26) (ex_load1 rfl (hH23.cells (i := 0) rfl 0 rfl) rdLe_rfl agg3)) rfl rfl rfl (st_cons rfl (ev_ex (wantS_yes' rfl rfl hc26) (ex_fieldAddr rfl off79_0)) rfl rfl rfl (st_cons rfl (ev_ex (wantS_yes' rfl rfl hc26) (ex_move rfl)) rfl rfl rfl st_nil)))) ?_
    refine DrawG.fl rfl (ev_ex (wantS_yes' rfl rfl hc26) (ex_eql rfl rfl)) rfl ?_
    refine DrawG.fl rfl (ev_ex wantS_none (ex_pickT' rfl hc26 rfl rfl)) rfl ?_
    refine DrawG.fl rfl (ev_ex wantS_none (ex_assign rfl)) rfl ?_
    refine DrawG.sync ?_
    refine DrawG.nil ?_
    exact Run.pick [6] (alert_key_isSigned_1_ok F (r28 == (Int.tmod a1 a0.Modulus)) _ _ _ (hH23.pick [] rfl rfl) h)
  · have h := bif_f hc26 h
    refine DrawG.fl rfl (ev_no (wantS_not' rfl rfl hc26)) rfl ?_
    refine DrawG.fl rfl (ev_no (wantS_not' rfl rfl hc26)) rfl ?_
    refine DrawG.fl rfl (ev_no (wantS_not' rfl rfl hc26)) rfl ?_
    refine DrawG.fl rfl (ev_no (wantS_not' rfl rfl hc26)) rfl ?_
    refine DrawG.fl rfl (ev_no (wantS_not' rfl rfl hc26)) rfl ?_
    refine DrawG.fl rfl (ev_no (wantS_not' rfl rfl hc26)) rfl ?_
    refine DrawG.fl rfl (ev_no (wantS_not' rfl rfl hc26)) rfl ?_
    refine DrawG.fl rfl (ev_no (wantS_not' rfl rfl hc26)) rfl ?_
    refine DrawG.no rfl (wantS_not' rfl rfl hc26) rfl (st_cons rfl (ev_no (wantS_not' rfl rfl hc26)) rfl rfl rfl (st_cons rfl (ev_no (wantS_not' rfl rfl hc26)) rfl rfl rfl (st_cons rfl (ev_no (wantS_not' rfl rfl hc26)) rfl rfl rfl (st_cons rfl (ev_no (wantS_not' rfl rfl hc26)) rfl rfl rfl st_nil)))) ?_
    refine DrawG.fl rfl (ev_no (wantS_not' rfl rfl hc26)) rfl ?_
    refine DrawG.fl rfl (ev_ex wantS_none (ex_pickF' rfl hc26 rfl rfl)) rfl ?_
    refine DrawG.fl rfl (ev_ex wantS_none (ex_assign rfl)) rfl ?_
    refine DrawG.sync ?_
    refine DrawG.nil ?_
    exact Run.pick [6] (alert_key_isSigned_1_ok F false _ _ _ (hH23.pick [] rfl rfl) h)

theorem mkk50 : makeK Tryd.prog 50 = none := by kernel_rfl
theorem cal50 : callable Tryd.prog 50 = true := by kernel_rfl
theorem plan12_1_1_0 : planOf Tryd.prog (opsC (atC Tryd.prog 12 [1, 1, 0])) = some [.fl 0, .fl 1, .fl 3, .an 2 [3, 0], .an 4 [], .fl 5, .fl 6, .sync] := by kernel_rfl
abbrev alert_Signed_post (r : Bool × Int) : SV → Mem → Prop := fun s _ => s = (.tuple [(.bool r.1), (.int .i64 r.2)])

def alert_Signed (F : Nat) (a0 : S_api_Key) (a1 : S_api_Alert) (a2 : Int) : Option (Bool × Int) :=
  bnd (alert_key_isPlausible F a0) fun r31 =>
  bif (!r31) then
    some (false, (100 : Int))
  else
    bnd (alert_isAlert F a1) fun r35 =>
    bif (!r35) then
      some (false, (101 : Int))
    else
      bnd (alert_digestOf F a1) fun r38 =>
      bnd (alert_key_isSigned F a0 r38 a2) fun r40 =>
      some (r40, (0 : Int))

theorem alert_Signed_ok (F : Nat) (a0 : S_api_Key) (a1 : S_api_Alert) (a2 : Int) (s0 : SV) (r : Bool × Int) (M : Mem) (hs0 : Slc (rd M) 1 (FlatR enc3) s0 a1.Cells) (hfx : FixIn M fixes) (h : alert_Signed F a0 a1 a2 = some r) : CallsM Tryd.prog 12 [(.agg [(.int .i64 a0.Modulus), (.int .i64 a0.Exponent)]), (.agg [(.str a1.Event), (.int .i64 a1.Version), (.int .i64 a1.Time), (.int .i64 a1.Chance.N), (.int .i64 a1.Chance.Of), (.int .i64 a1.Grid), s0, (.bool a1.Withdrawn), (.int .i64 a1.Before)]), (.int .i64 a2)] M (fun s M' => s = (.tuple [(.bool r.1), (.int .i64 r.2)]) ∧ M' = M) := by
  refine CallsM.plain Tryd.func12 rfl rfl rfl (show Run _ _ _ (alert_Signed_post r) _ _ _ from ?_)
  rw [alert_Signed] at h
  replace hs0 := hs0.mono (rdLe_frozen M) (fun _ _ h => h)
  have hH : Has (ro (frozen M)) (frozen M) [tb0, tb1, tb2] := Has.ofFix hfx.frozen
  refine Run.seq (Run.region ?_)
  refine Run.opX wantS_none rfl (ExG.box rfl rfl hH) ?_
  rintro _ M26 ⟨b25, rfl, (hH26 : Has (ro (frozen M)) M26 [.obj b25 (.row 24 .whole [(.int .i64 a0.Modulus), (.int .i64 a0.Exponent)]), tb0, tb1, tb2])⟩
  refine Run.opX wantS_none rfl (ExG.box rfl rfl hH26) ?_
  rintro _ M29 ⟨b28, rfl, (hH29 : Has (ro (frozen M)) M29 [.obj b28 (.row 29 .whole [(.str a1.Event), (.int .i64 a1.Version), (.int .i64 a1.Time), (.int .i64 a1.Chance.N), (.int .i64 a1.Chance.Of), (.int .i64 a1.Grid), s0, (.bool a1.Withdrawn), (.int .i64 a1.Before)]), .obj b25 (.row 24 .whole [(.int .i64 a0.Modulus), (.int .i64 a0.Exponent)]), tb0, tb1, tb2])⟩
  refine Run.opG wantS_none (ex_assign rfl) rfl ?_
  refine Run.opG wantS_none (ex_assign rfl) rfl ?_
  refine Run.opsEnd (Run.seq (Run.block (Run.seq (Run.region ?_))))
  refine Run.opG wantS_none (ex_loadA rfl (hH29.cells (i := 1) rfl 0 rfl) rdLe_rfl agg24 rfl rfl rfl) rfl ?_
  obtain ⟨r31, hr31, h⟩ := bnd_some h
  refine Run.callP wantS_none (ex_call rfl mkk42 cal42) rfl (alert_key_isPlausible_ok F a0 _ _ hr31) ?_
  refine Run.opG wantS_none (ex_not rfl) rfl ?_
  refine Run.opG wantS_none (ex_assign rfl) rfl ?_
  refine Run.opsEnd ?_
  rcases btf ((!r31)) with hc33 | hc33
  · have h := bif_t hc33 h
    refine Run.condT' rfl hc33 ?_
    refine Run.seq (Run.region ?_)
    refine Run.opG wantS_none (ex_assign rfl) rfl ?_
    refine Run.opG wantS_none (ex_assign rfl) rfl ?_
    refine Run.opsEnd ?_
    cases h
    exact Run.ret Tryd.func12 rfl (res_tmp rfl (res_tmp rfl res_nil)) rfl
  · have h := bif_f hc33 h
    refine Run.condF' rfl hc33 ?_
    refine Run.seq (Run.region ?_)
    refine Run.opG wantS_none (ex_loadA rfl (hH29.cells (i := 0) rfl 0 rfl) rdLe_rfl agg29 rfl rfl rfl) rfl ?_
    obtain ⟨r35, hr35, h⟩ := bnd_some h
    refine Run.callP wantS_none (ex_call rfl mkk43 cal43) rfl (alert_isAlert_ok F a1 s0 _ _ (hH29.slcF hs0) hr35) ?_
    refine Run.opG wantS_none (ex_not rfl) rfl ?_
    refine Run.opG wantS_none (ex_assign rfl) rfl ?_
    refine Run.opsEnd ?_
    rcases btf ((!r35)) with hc37 | hc37
    · have h := bif_t hc37 h
      refine Run.condT' rfl hc37 ?_
      refine Run.seq (Run.region ?_)
      refine Run.opG wantS_none (ex_assign rfl) rfl ?_
      refine Run.opG wantS_none (ex_assign rfl) rfl ?_
      refine Run.opsEnd ?_
      cases h
      exact Run.ret Tryd.func12 rfl (res_tmp rfl (res_tmp rfl res_nil)) rfl
    · have h := bif_f hc37 h
      refine Run.condF' rfl hc37 ?_
      refine Run.skip (Run.inBlock (Run.seq ?_))
      refine Run.drawG plan12_1_1_0 ?_
      refine DrawG.fl rfl (ev_ex wantS_none (ex_loadA rfl (hH29.cells (i := 1) rfl 0 rfl) rdLe_rfl agg24 rfl rfl rfl)) rfl ?_
      refine DrawG.fl rfl (ev_ex wantS_none (ex_loadA rfl (hH29.cells (i := 0) rfl 0 rfl) rdLe_rfl agg29 rfl rfl rfl)) rfl ?_
      refine DrawG.fl rfl (ev_ex wantS_none (ex_move rfl)) rfl ?_
      obtain ⟨r38, hr38, h⟩ := bnd_some h
      refine DrawG.callP rfl wantS_none (ex_call rfl mkk45 cal45) rfl (alert_digestOf_ok F a1 s0 _ _ (hH29.slcF hs0) (fixH hH29 (List.mem_of_getElem? (i := 2) rfl) (List.mem_of_getElem? (i := 3) rfl) (List.mem_of_getElem? (i := 4) rfl)) hr38) (st_cons rfl (ev_ex wantS_none (ex_move rfl)) rfl rfl rfl (st_cons rfl (ev_ex wantS_none (ex_loadA rfl (hH29.cells (i := 1) rfl 0 rfl) rdLe_rfl agg24 rfl rfl rfl)) rfl rfl rfl st_nil)) ?_
      obtain ⟨r40, hr40, h⟩ := bnd_some h
      refine DrawG.callP rfl wantS_none (ex_call rfl mkk50 cal50) rfl (alert_key_isSigned_ok F a0 r38 a2 _ _ hr40) st_nil ?_
      refine DrawG.fl rfl (ev_ex wantS_none (ex_assign rfl)) rfl ?_
      refine DrawG.fl rfl (ev_ex wantS_none (ex_assign rfl)) rfl ?_
      refine DrawG.sync ?_
      refine DrawG.nil ?_
      cases h
      exact Run.ret Tryd.func12 rfl (res_tmp rfl (res_tmp rfl res_nil)) rfl

theorem mkk12 : makeK Tryd.prog 12 = none := by kernel_rfl
theorem cal12 : callable Tryd.prog 12 = true := by kernel_rfl
theorem off24_0 : fieldOff Tryd.prog 24 0 = some 0 := by kernel_rfl
abbrev ref00_Mod_post (r : Int) : SV → Mem → Prop := fun s _ => s = (.int .i64 r)

def ref00_Mod_1 (F : Nat) (v0 : Int) : Option (Int) :=
  some v0

theorem ref00_Mod_1_ok (F : Nat) : ∀ (v0 : Int) (Fr : Rd) (M : Mem) (r : Int) (hH : Has Fr M []), ref00_Mod_1 F v0 = some r → Run Tryd.prog ⟨⟨28, [], none⟩, []⟩ 16 (ref00_Mod_post r) [(0, (.int .i64 v0))] [itemC Tryd.prog 28 [1, 1, 1, 1, 0] 0, codeC Tryd.prog 28 [1, 1, 1, 1, 1]] M := by
  intro v0 Fr M r hH h
  rw [ref00_Mod_1] at h
  refine Run.opG wantS_none (ex_move rfl) rfl ?_
  refine Run.opG wantS_none (ex_assign rfl) rfl ?_
  refine Run.opsEnd ?_
  cases h
  exact Run.ret Tryd.func28 rfl (res_tmp rfl res_nil) rfl

def ref00_Mod (F : Nat) (a0 : Int) (a1 : Int) : Option (Int) :=
  bif (decide (a1 < (1 : Int))) then
    some (0 : Int)
  else
    bnd (nz a1) fun z23 =>
    bif (decide ((Int.tmod a0 a1) < (0 : Int))) then
      ref00_Mod_1 F (w64 ((Int.tmod a0 a1) + a1))
    else
      ref00_Mod_1 F (Int.tmod a0 a1)

theorem ref00_Mod_ok (F : Nat) (a0 : Int) (a1 : Int) (r : Int) (M : Mem) (h : ref00_Mod F a0 a1 = some r) : CallsM Tryd.prog 28 [(.int .i64 a0), (.int .i64 a1)] M (fun s M' => s = (.int .i64 r) ∧ M' = M) := by
  refine CallsM.plain Tryd.func28 rfl rfl rfl (show Run _ _ _ (ref00_Mod_post r) _ _ _ from ?_)
  rw [ref00_Mod] at h
  have hH := Has.nil (frozen M)
  refine Run.seq (Run.region ?_)
  refine Run.opG wantS_none (ex_assign rfl) rfl ?_
  refine Run.opsEnd (Run.seq (Run.seq (Run.region ?_)))
  refine Run.opG wantS_none (ex_move rfl) rfl ?_
  refine Run.opG wantS_none (ex_lss rfl rfl) rfl ?_
  refine Run.opsEnd ?_
  rcases btf ((decide (a1 < (1 : Int)))) with hc21 | hc21
  · have h := bif_t hc21 h
    refine Run.condT' rfl hc21 ?_
    refine Run.seq (Run.region ?_)
    refine Run.opG wantS_none (ex_assign rfl) rfl ?_
    refine Run.opsEnd ?_
    cases h
    exact Run.ret Tryd.func28 rfl (res_tmp rfl res_nil) rfl
  · have h := bif_f hc21 h
    refine Run.condF' rfl hc21 ?_
    refine Run.skip (Run.seq (Run.region ?_))
    refine Run.opG wantS_none (ex_move rfl) rfl ?_
    refine Run.opG wantS_none (ex_move rfl) rfl ?_
    obtain ⟨z23, hz23, h⟩ := bnd_some h
    refine Run.opG wantS_none (ex_rem' rfl rfl hz23) rfl ?_
    refine Run.opG wantS_none (ex_assign rfl) rfl ?_
    refine Run.opsEnd (Run.seq (Run.seq (Run.region ?_)))
    refine Run.opG wantS_none (ex_move rfl) rfl ?_
    refine Run.opG wantS_none (ex_lss rfl rfl) rfl ?_
    refine Run.opsEnd ?_
    rcases btf ((decide ((Int.tmod a0 a1) < (0 : Int)))) with hc24 | hc24
    · have h := bif_t hc24 h
      refine Run.condT' rfl hc24 ?_
      refine Run.region ?_
      refine Run.opG wantS_none (ex_move rfl) rfl ?_
      refine Run.opG wantS_none (ex_move rfl) rfl ?_
      refine Run.opG wantS_none (ex_add rfl rfl) rfl ?_
      refine Run.opG wantS_none (ex_assign rfl) rfl ?_
      refine Run.opsEnd (Run.seq (Run.region ?_))
      exact Run.pick [0] (ref00_Mod_1_ok F (w64 ((Int.tmod a0 a1) + a1)) _ _ _ hH h)
    · have h := bif_f hc24 h
      refine Run.condF' rfl hc24 ?_
      refine Run.skip (Run.seq (Run.region ?_))
      exact Run.pick [0] (ref00_Mod_1_ok F (Int.tmod a0 a1) _ _ _ hH h)

theorem mkk28 : makeK Tryd.prog 28 = none := by kernel_rfl
theorem cal28 : callable Tryd.prog 28 = true := by kernel_rfl
abbrev law10_AlertSigned_post (r : Bool) : SV → Mem → Prop := fun s _ => s = (.bool r)

def law10_AlertSigned_2 (F : Nat) (v36 : Bool) : Option (Bool) :=
  some v36

theorem law10_AlertSigned_2_ok (F : Nat) : ∀ (v36 : Bool) (Fr : Rd) (M : Mem) (r : Bool) (hH : Has Fr M [tb0, tb1, tb2]), law10_AlertSigned_2 F v36 = some r → Run Tryd.prog ⟨⟨6, [], none⟩, []⟩ 88 (law10_AlertSigned_post r) [(36, (.bool v36))] [itemC Tryd.prog 6 [1, 1, 0, 1, 0, 0] 10, codeC Tryd.prog 6 [1, 1, 0, 1, 0, 1], codeC Tryd.prog 6 [1, 1, 1]] M := by
  intro v36 Fr M r hH h
  rw [law10_AlertSigned_2] at h
  refine Run.opG wantS_none (ex_assign rfl) rfl ?_
  refine Run.opsEnd ?_
  cases h
  exact Run.ret Tryd.func6 rfl (res_tmp rfl res_nil) rfl

def law10_AlertSigned_1 (F : Nat) (v33 : Bool) : Option (Bool) :=
  bif v33 then
    bnd (works F) fun r47 =>
    law10_AlertSigned_2 F r47
  else
    law10_AlertSigned_2 F false

theorem law10_AlertSigned_1_ok (F : Nat) : ∀ (v33 : Bool) (Fr : Rd) (M : Mem) (r : Bool) (hH : Has Fr M [tb0, tb1, tb2]), law10_AlertSigned_1 F v33 = some r → Run Tryd.prog ⟨⟨6, [], none⟩, []⟩ 88 (law10_AlertSigned_post r) [(33, (.bool v33))] [itemC Tryd.prog 6 [1, 1, 0, 1, 0, 0] 7, codeC Tryd.prog 6 [1, 1, 0, 1, 0, 1], codeC Tryd.prog 6 [1, 1, 1]] M := by
  intro v33 Fr M r hH h
  rw [law10_AlertSigned_1] at h
  refine Run.opG wantS_none (ex_move rfl) rfl ?_
  rcases btf (v33) with hc45 | hc45
  · have h := bif_t hc45 h
    obtain ⟨r47, hr47, h⟩ := bnd_some h
    refine Run.callP (wantS_yes' rfl rfl hc45) (ex_call rfl mkk14 cal14) rfl (works_ok F r47 _ hH (List.mem_of_getElem? (i := 0) rfl) (List.mem_of_getElem? (i := 1) rfl) (List.mem_of_getElem? (i := 2) rfl) hr47) ?_
    refine Run.opG wantS_none (ex_pickT' rfl hc45 rfl rfl) rfl ?_
    exact Run.pick [36] (law10_AlertSigned_2_ok F r47 _ _ _ hH h)
  · have h := bif_f hc45 h
    refine Run.no (wantS_not' rfl rfl hc45) rfl ?_
    refine Run.opG wantS_none (ex_pickF' rfl hc45 rfl rfl) rfl ?_
    exact Run.pick [36] (law10_AlertSigned_2_ok F false _ _ _ hH h)

def law10_AlertSigned_3 (F : Nat) (v50 : Bool) : Option (Bool) :=
  some v50

theorem law10_AlertSigned_3_ok (F : Nat) : ∀ (v50 : Bool) (Fr : Rd) (M : Mem) (r : Bool) (hH : Has Fr M [tb0, tb1, tb2]), law10_AlertSigned_3 F v50 = some r → Run Tryd.prog ⟨⟨6, [], none⟩, []⟩ 88 (law10_AlertSigned_post r) [(50, (.bool v50))] [itemC Tryd.prog 6 [1, 1, 1, 1, 0, 1, 0, 0] 5, codeC Tryd.prog 6 [1, 1, 1, 1, 0, 1, 0, 1], codeC Tryd.prog 6 [1, 1, 1, 1, 1]] M := by
  intro v50 Fr M r hH h
  rw [law10_AlertSigned_3] at h
  refine Run.opG wantS_none (ex_assign rfl) rfl ?_
  refine Run.opsEnd ?_
  cases h
  exact Run.ret Tryd.func6 rfl (res_tmp rfl res_nil) rfl

def law10_AlertSigned_7 (F : Nat) (v87 : Bool) : Option (Bool) :=
  some v87

theorem law10_AlertSigned_7_ok (F : Nat) : ∀ (v87 : Bool) (Fr : Rd) (M : Mem) (r : Bool) (hH : Has Fr M [tb0, tb1, tb2]), law10_AlertSigned_7 F v87 = some r → Run Tryd.prog ⟨⟨6, [], none⟩, []⟩ 88 (law10_AlertSigned_post r) [(87, (.bool v87))] [itemC Tryd.prog 6 [1, 1, 1, 1, 1, 1, 1, 1, 0] 19, codeC Tryd.prog 6 [1, 1, 1, 1, 1, 1, 1, 1, 1]] M := by
  intro v87 Fr M r hH h
  rw [law10_AlertSigned_7] at h
  refine Run.opG wantS_none (ex_assign rfl) rfl ?_
  refine Run.opsEnd ?_
  cases h
  exact Run.ret Tryd.func6 rfl (res_tmp rfl res_nil) rfl

def law10_AlertSigned_6 (F : Nat) (v84 : Bool) : Option (Bool) :=
  bif v84 then
    bnd (works F) fun r71 =>
    law10_AlertSigned_7 F r71
  else
    law10_AlertSigned_7 F false

theorem law10_AlertSigned_6_ok (F : Nat) : ∀ (v84 : Bool) (Fr : Rd) (M : Mem) (r : Bool) (hH : Has Fr M [tb0, tb1, tb2]), law10_AlertSigned_6 F v84 = some r → Run Tryd.prog ⟨⟨6, [], none⟩, []⟩ 88 (law10_AlertSigned_post r) [(84, (.bool v84))] [itemC Tryd.prog 6 [1, 1, 1, 1, 1, 1, 1, 1, 0] 16, codeC Tryd.prog 6 [1, 1, 1, 1, 1, 1, 1, 1, 1]] M := by
  intro v84 Fr M r hH h
  rw [law10_AlertSigned_6] at h
  refine Run.opG wantS_none (ex_move rfl) rfl ?_
  rcases btf (v84) with hc69 | hc69
  · have h := bif_t hc69 h
    obtain ⟨r71, hr71, h⟩ := bnd_some h
    refine Run.callP (wantS_yes' rfl rfl hc69) (ex_call rfl mkk14 cal14) rfl (works_ok F r71 _ hH (List.mem_of_getElem? (i := 0) rfl) (List.mem_of_getElem? (i := 1) rfl) (List.mem_of_getElem? (i := 2) rfl) hr71) ?_
    refine Run.opG wantS_none (ex_pickT' rfl hc69 rfl rfl) rfl ?_
    exact Run.pick [87] (law10_AlertSigned_7_ok F r71 _ _ _ hH h)
  · have h := bif_f hc69 h
    refine Run.no (wantS_not' rfl rfl hc69) rfl ?_
    refine Run.opG wantS_none (ex_pickF' rfl hc69 rfl rfl) rfl ?_
    exact Run.pick [87] (law10_AlertSigned_7_ok F false _ _ _ hH h)

def law10_AlertSigned_5 (F : Nat) (v2 : Int) (v10 : Int) (v12 : Bool) (v77 : Bool) : Option (Bool) :=
  bif v77 then
    law10_AlertSigned_6 F (v12 == (v2 == v10))
  else
    law10_AlertSigned_6 F false

theorem law10_AlertSigned_5_ok (F : Nat) : ∀ (v2 : Int) (v10 : Int) (v12 : Bool) (v77 : Bool) (Fr : Rd) (M : Mem) (r : Bool) (hH : Has Fr M [tb0, tb1, tb2]), law10_AlertSigned_5 F v2 v10 v12 v77 = some r → Run Tryd.prog ⟨⟨6, [], none⟩, []⟩ 88 (law10_AlertSigned_post r) [(2, (.int .i64 v2)), (10, (.int .i64 v10)), (12, (.bool v12)), (77, (.bool v77))] [itemC Tryd.prog 6 [1, 1, 1, 1, 1, 1, 1, 1, 0] 9, codeC Tryd.prog 6 [1, 1, 1, 1, 1, 1, 1, 1, 1]] M := by
  intro v2 v10 v12 v77 Fr M r hH h
  rw [law10_AlertSigned_5] at h
  refine Run.opG wantS_none (ex_move rfl) rfl ?_
  rcases btf (v77) with hc68 | hc68
  · have h := bif_t hc68 h
    refine Run.opG (wantS_yes' rfl rfl hc68) (ex_move rfl) rfl ?_
    refine Run.opG (wantS_yes' rfl rfl hc68) (ex_move rfl) rfl ?_
    refine Run.opG (wantS_yes' rfl rfl hc68) (ex_move rfl) rfl ?_
    refine Run.opG (wantS_yes' rfl rfl hc68) (ex_eql rfl rfl) rfl ?_
    refine Run.opG (wantS_yes' rfl rfl hc68) (ex_eqlB rfl rfl eqk4) rfl ?_
    refine Run.opG wantS_none (ex_pickT' rfl hc68 rfl rfl) rfl ?_
    exact Run.pick [84] (law10_AlertSigned_6_ok F (v12 == (v2 == v10)) _ _ _ hH h)
  · have h := bif_f hc68 h
    refine Run.no (wantS_not' rfl rfl hc68) rfl ?_
    refine Run.no (wantS_not' rfl rfl hc68) rfl ?_
    refine Run.no (wantS_not' rfl rfl hc68) rfl ?_
    refine Run.no (wantS_not' rfl rfl hc68) rfl ?_
    refine Run.no (wantS_not' rfl rfl hc68) rfl ?_
    refine Run.opG wantS_none (ex_pickF' rfl hc68 rfl rfl) rfl ?_
    exact Run.pick [84] (law10_AlertSigned_6_ok F false _ _ _ hH h)

def law10_AlertSigned_4 (F : Nat) (v2 : Int) (v10 : Int) (v11 : Bool) (v12 : Bool) (v74 : Bool) : Option (Bool) :=
  bif v74 then
    law10_AlertSigned_5 F v2 v10 v12 v11
  else
    law10_AlertSigned_5 F v2 v10 v12 false

theorem law10_AlertSigned_4_ok (F : Nat) : ∀ (v2 : Int) (v10 : Int) (v11 : Bool) (v12 : Bool) (v74 : Bool) (Fr : Rd) (M : Mem) (r : Bool) (hH : Has Fr M [tb0, tb1, tb2]), law10_AlertSigned_4 F v2 v10 v11 v12 v74 = some r → Run Tryd.prog ⟨⟨6, [], none⟩, []⟩ 88 (law10_AlertSigned_post r) [(2, (.int .i64 v2)), (10, (.int .i64 v10)), (11, (.bool v11)), (12, (.bool v12)), (74, (.bool v74))] [itemC Tryd.prog 6 [1, 1, 1, 1, 1, 1, 1, 1, 0] 6, codeC Tryd.prog 6 [1, 1, 1, 1, 1, 1, 1, 1, 1]] M := by
  intro v2 v10 v11 v12 v74 Fr M r hH h
  rw [law10_AlertSigned_4] at h
  refine Run.opG wantS_none (ex_move rfl) rfl ?_
  rcases btf (v74) with hc67 | hc67
  · have h := bif_t hc67 h
    refine Run.opG (wantS_yes' rfl rfl hc67) (ex_move rfl) rfl ?_
    refine Run.opG wantS_none (ex_pickT' rfl hc67 rfl rfl) rfl ?_
    exact Run.pick [2, 10, 12, 77] (law10_AlertSigned_5_ok F v2 v10 v12 v11 _ _ _ hH h)
  · have h := bif_f hc67 h
    refine Run.no (wantS_not' rfl rfl hc67) rfl ?_
    refine Run.opG wantS_none (ex_pickF' rfl hc67 rfl rfl) rfl ?_
    exact Run.pick [2, 10, 12, 77] (law10_AlertSigned_5_ok F v2 v10 v12 false _ _ _ hH h)

def law10_AlertSigned (F : Nat) (a0 : S__3_int) (a1 : S_api_Alert) (a2 : Int) : Option (Bool) :=
  bnd (alert_MakeKey F a0.e0 a0.e1 a0.e2) fun r37 =>
  bif (!(r37.2.2 == (0 : Int))) then
    bif ((r37.1.Modulus == (0 : Int)) && ((r37.1.Exponent == (0 : Int)) && true)) then
      law10_AlertSigned_1 F (r37.2.1 == (0 : Int))
    else
      law10_AlertSigned_1 F false
  else
    bnd (alert_Sign F r37.1 r37.2.1 a1) fun r50 =>
    bif (!(r50.2 == (0 : Int))) then
      bif (r50.1 == (0 : Int)) then
        bnd (works F) fun r55 =>
        law10_AlertSigned_3 F r55
      else
        law10_AlertSigned_3 F false
    else
      bnd (alert_Signed F r37.1 a1 r50.1) fun r58 =>
      bnd (ref00_Mod F a2 r37.1.Modulus) fun r61 =>
      bnd (alert_Signed F r37.1 a1 r61) fun r64 =>
      bif (r58.2 == (0 : Int)) then
        law10_AlertSigned_4 F r61 r50.1 r58.1 r64.1 (r64.2 == (0 : Int))
      else
        law10_AlertSigned_4 F r61 r50.1 r58.1 r64.1 false

theorem law10_AlertSigned_run (F : Nat) (a0 : S__3_int) (a1 : S_api_Alert) (a2 : Int) (s0 : SV) (r : Bool) (M : Mem) (hs0 : Slc (rd M) 1 (FlatR enc3) s0 a1.Cells) (hfx : FixIn M fixes) (h : law10_AlertSigned F a0 a1 a2 = some r) : Run Tryd.prog (fx0 6) 88 (law10_AlertSigned_post r) [(0, (.agg [(.int .i64 a0.e0), (.int .i64 a0.e1), (.int .i64 a0.e2)])), (1, (.agg [(.str a1.Event), (.int .i64 a1.Version), (.int .i64 a1.Time), (.int .i64 a1.Chance.N), (.int .i64 a1.Chance.Of), (.int .i64 a1.Grid), s0, (.bool a1.Withdrawn), (.int .i64 a1.Before)])), (2, (.int .i64 a2))] [codeC Tryd.prog 6 []] (frozen M) := by
  rw [law10_AlertSigned] at h
  replace hs0 := hs0.mono (rdLe_frozen M) (fun _ _ h => h)
  have hH : Has (ro (frozen M)) (frozen M) [tb0, tb1, tb2] := Has.ofFix hfx.frozen
  refine Run.seq (Run.region ?_)
  refine Run.opX wantS_none rfl (ExG.box rfl rfl hH) ?_
  rintro _ M26 ⟨b25, rfl, (hH26 : Has (ro (frozen M)) M26 [.obj b25 (.row 22 .whole [(.int .i64 a0.e0), (.int .i64 a0.e1), (.int .i64 a0.e2)]), tb0, tb1, tb2])⟩
  refine Run.opX wantS_none rfl (ExG.box rfl rfl hH26) ?_
  rintro _ M29 ⟨b28, rfl, (hH29 : Has (ro (frozen M)) M29 [.obj b28 (.row 29 .whole [(.str a1.Event), (.int .i64 a1.Version), (.int .i64 a1.Time), (.int .i64 a1.Chance.N), (.int .i64 a1.Chance.Of), (.int .i64 a1.Grid), s0, (.bool a1.Withdrawn), (.int .i64 a1.Before)]), .obj b25 (.row 22 .whole [(.int .i64 a0.e0), (.int .i64 a0.e1), (.int .i64 a0.e2)]), tb0, tb1, tb2])⟩
  refine Run.opG wantS_none (ex_assign rfl) rfl ?_
  refine Run.opsEnd (Run.seq (Run.region ?_))
  refine Run.opG wantS_none (ex_elX rfl rfl (arr_place (j := 0) rfl els22)) rfl ?_
  refine Run.opG wantS_none (ex_load1 rfl (hH29.cells (i := 1) rfl 0 rfl) rdLe_rfl agg3) rfl ?_
  refine Run.opG wantS_none (ex_elX rfl rfl (arr_place (j := 1) rfl els22)) rfl ?_
  refine Run.opG wantS_none (ex_load1 rfl (hH29.cells (i := 1) rfl 1 rfl) rdLe_rfl agg3) rfl ?_
  refine Run.opG wantS_none (ex_elX rfl rfl (arr_place (j := 2) rfl els22)) rfl ?_
  refine Run.opG wantS_none (ex_load1 rfl (hH29.cells (i := 1) rfl 2 rfl) rdLe_rfl agg3) rfl ?_
  obtain ⟨r37, hr37, h⟩ := bnd_some h
  refine Run.callP wantS_none (ex_call rfl mkk8 cal8) rfl (alert_MakeKey_ok F a0.e0 a0.e1 a0.e2 _ _ hr37) ?_
  refine Run.opG wantS_none (ex_move rfl) rfl ?_
  refine Run.opG wantS_none (ex_extract rfl rfl) rfl ?_
  refine Run.opG wantS_none (ex_extract rfl rfl) rfl ?_
  refine Run.opG wantS_none (ex_extract rfl rfl) rfl ?_
  refine Run.opX wantS_none rfl (ExG.new (v := fun b => .ptr b 0) (ex_alloc zer24) hH29) ?_
  rintro _ M41 ⟨b40, rfl, (hH41 : Has (ro (frozen M)) M41 [.obj b40 (.row 24 .whole [(.int .i64 0), (.int .i64 0)]), .obj b28 (.row 29 .whole [(.str a1.Event), (.int .i64 a1.Version), (.int .i64 a1.Time), (.int .i64 a1.Chance.N), (.int .i64 a1.Chance.Of), (.int .i64 a1.Grid), s0, (.bool a1.Withdrawn), (.int .i64 a1.Before)]), .obj b25 (.row 22 .whole [(.int .i64 a0.e0), (.int .i64 a0.e1), (.int .i64 a0.e2)]), tb0, tb1, tb2])⟩
  refine Run.opX wantS_none rfl (ExG.storeC (c' := [(.int .i64 r37.1.Modulus), (.int .i64 r37.1.Exponent)]) rfl rfl rfl hH41 (i := 0) rfl sz24 rfl rfl rfl rfl rfl) ?_
  rintro _ M42 ⟨rfl, (hH42 : Has (ro (frozen M)) M42 [.obj b40 (.row 24 .whole [(.int .i64 r37.1.Modulus), (.int .i64 r37.1.Exponent)]), .obj b28 (.row 29 .whole [(.str a1.Event), (.int .i64 a1.Version), (.int .i64 a1.Time), (.int .i64 a1.Chance.N), (.int .i64 a1.Chance.Of), (.int .i64 a1.Grid), s0, (.bool a1.Withdrawn), (.int .i64 a1.Before)]), .obj b25 (.row 22 .whole [(.int .i64 a0.e0), (.int .i64 a0.e1), (.int .i64 a0.e2)]), tb0, tb1, tb2])⟩
  refine Run.opG wantS_none (ex_assign rfl) rfl ?_
  refine Run.opG wantS_none (ex_assign rfl) rfl ?_
  refine Run.opsEnd (Run.seq (Run.seq (Run.region ?_)))
  refine Run.opG wantS_none (ex_move rfl) rfl ?_
  refine Run.opG wantS_none (ex_neq rfl rfl) rfl ?_
  refine Run.opsEnd ?_
  rcases btf ((!(r37.2.2 == (0 : Int)))) with hc43 | hc43
  · have h := bif_t hc43 h
    refine Run.condT' rfl hc43 ?_
    refine Run.seq (Run.region ?_)
    refine Run.opG wantS_none (ex_loadA rfl (hH42.cells (i := 0) rfl 0 rfl) rdLe_rfl agg24 rfl rfl rfl) rfl ?_
    refine Run.opG wantS_none (ex_build (r := [(.int .i64 0), (.int .i64 0)]) rfl zer24 pls24 rfl) rfl ?_
    refine Run.opG wantS_none (ex_eqlA rfl rfl aeq24 (eqA_st agk24 (eqFs_cons (by decide) (part_one agg3 rfl) (part_one agg3 rfl) (eqA_int agk3) (eqFs_cons (by decide) (part_one agg3 rfl) (part_one agg3 rfl) (eqA_int agk3) eqFs_nil)))) rfl ?_
    refine Run.opG wantS_none (ex_move rfl) rfl ?_
    rcases btf (((r37.1.Modulus == (0 : Int)) && ((r37.1.Exponent == (0 : Int)) && true))) with hc44 | hc44
    · have h := bif_t hc44 h
      refine Run.opG (wantS_yes' rfl rfl hc44) (ex_move rfl) rfl ?_
      refine Run.opG (wantS_yes' rfl rfl hc44) (ex_eql rfl rfl) rfl ?_
      refine Run.opG wantS_none (ex_pickT' rfl hc44 rfl rfl) rfl ?_
      exact Run.pick [33] (law10_AlertSigned_1_ok F (r37.2.1 == (0 : Int)) _ _ _ (hH42.pick [3, 4, 5] rfl rfl) h)
    · have h := bif_f hc44 h
      refine Run.no (wantS_not' rfl rfl hc44) rfl ?_
      refine Run.no (wantS_not' rfl rfl hc44) rfl ?_
      refine Run.opG wantS_none (ex_pickF' rfl hc44 rfl rfl) rfl ?_
      exact Run.pick [33] (law10_AlertSigned_1_ok F false _ _ _ (hH42.pick [3, 4, 5] rfl rfl) h)
  · have h := bif_f hc43 h
    refine Run.condF' rfl hc43 ?_
    refine Run.skip (Run.seq (Run.region ?_))
    refine Run.opG wantS_none (ex_loadA rfl (hH42.cells (i := 0) rfl 0 rfl) rdLe_rfl agg24 rfl rfl rfl) rfl ?_
    refine Run.opG wantS_none (ex_move rfl) rfl ?_
    refine Run.opG wantS_none (ex_loadA rfl (hH42.cells (i := 1) rfl 0 rfl) rdLe_rfl agg29 rfl rfl rfl) rfl ?_
    obtain ⟨r50, hr50, h⟩ := bnd_some h
    refine Run.callP wantS_none (ex_call rfl mkk10 cal10) rfl (alert_Sign_ok F r37.1 r37.2.1 a1 s0 _ _ (hH42.slcF hs0) (fixH hH42 (List.mem_of_getElem? (i := 3) rfl) (List.mem_of_getElem? (i := 4) rfl) (List.mem_of_getElem? (i := 5) rfl)) hr50) ?_
    refine Run.opG wantS_none (ex_move rfl) rfl ?_
    refine Run.opG wantS_none (ex_extract rfl rfl) rfl ?_
    refine Run.opG wantS_none (ex_extract rfl rfl) rfl ?_
    refine Run.opG wantS_none (ex_assign rfl) rfl ?_
    refine Run.opG wantS_none (ex_assign rfl) rfl ?_
    refine Run.opsEnd (Run.seq (Run.seq (Run.region ?_)))
    refine Run.opG wantS_none (ex_move rfl) rfl ?_
    refine Run.opG wantS_none (ex_neq rfl rfl) rfl ?_
    refine Run.opsEnd ?_
    rcases btf ((!(r50.2 == (0 : Int)))) with hc52 | hc52
    · have h := bif_t hc52 h
      refine Run.condT' rfl hc52 ?_
      refine Run.seq (Run.region ?_)
      refine Run.opG wantS_none (ex_move rfl) rfl ?_
      refine Run.opG wantS_none (ex_eql rfl rfl) rfl ?_
      refine Run.opG wantS_none (ex_move rfl) rfl ?_
      rcases btf ((r50.1 == (0 : Int))) with hc53 | hc53
      · have h := bif_t hc53 h
        obtain ⟨r55, hr55, h⟩ := bnd_some h
        refine Run.callP (wantS_yes' rfl rfl hc53) (ex_call rfl mkk14 cal14) rfl (works_ok F r55 _ hH42 (List.mem_of_getElem? (i := 3) rfl) (List.mem_of_getElem? (i := 4) rfl) (List.mem_of_getElem? (i := 5) rfl) hr55) ?_
        refine Run.opG wantS_none (ex_pickT' rfl hc53 rfl rfl) rfl ?_
        exact Run.pick [50] (law10_AlertSigned_3_ok F r55 _ _ _ (hH42.pick [3, 4, 5] rfl rfl) h)
      · have h := bif_f hc53 h
        refine Run.no (wantS_not' rfl rfl hc53) rfl ?_
        refine Run.opG wantS_none (ex_pickF' rfl hc53 rfl rfl) rfl ?_
        exact Run.pick [50] (law10_AlertSigned_3_ok F false _ _ _ (hH42.pick [3, 4, 5] rfl rfl) h)
    · have h := bif_f hc52 h
      refine Run.condF' rfl hc52 ?_
      refine Run.skip (Run.seq (Run.region ?_))
      refine Run.opG wantS_none (ex_loadA rfl (hH42.cells (i := 0) rfl 0 rfl) rdLe_rfl agg24 rfl rfl rfl) rfl ?_
      refine Run.opG wantS_none (ex_loadA rfl (hH42.cells (i := 1) rfl 0 rfl) rdLe_rfl agg29 rfl rfl rfl) rfl ?_
      refine Run.opG wantS_none (ex_move rfl) rfl ?_
      obtain ⟨r58, hr58, h⟩ := bnd_some h
      refine Run.callP wantS_none (ex_call rfl mkk12 cal12) rfl (alert_Signed_ok F r37.1 a1 r50.1 s0 _ _ (hH42.slcF hs0) (fixH hH42 (List.mem_of_getElem? (i := 3) rfl) (List.mem_of_getElem? (i := 4) rfl) (List.mem_of_getElem? (i := 5) rfl)) hr58) ?_
      refine Run.opG wantS_none (ex_move rfl) rfl ?_
      refine Run.opG wantS_none (ex_extract rfl rfl) rfl ?_
      refine Run.opG wantS_none (ex_extract rfl rfl) rfl ?_
      refine Run.opG wantS_none (ex_assign rfl) rfl ?_
      refine Run.opG wantS_none (ex_assign rfl) rfl ?_
      refine Run.opsEnd (Run.seq (Run.region ?_))
      refine Run.opG wantS_none (ex_move rfl) rfl ?_
      refine Run.opG wantS_none (ex_fieldAddr rfl off24_0) rfl ?_
      refine Run.opG wantS_none (ex_load1 rfl (hH42.cells (i := 0) rfl 0 rfl) rdLe_rfl agg3) rfl ?_
      obtain ⟨r61, hr61, h⟩ := bnd_some h
      refine Run.callP wantS_none (ex_call rfl mkk28 cal28) rfl (ref00_Mod_ok F a2 r37.1.Modulus _ _ hr61) ?_
      refine Run.opG wantS_none (ex_assign rfl) rfl ?_
      refine Run.opsEnd (Run.seq (Run.region ?_))
      refine Run.opG wantS_none (ex_loadA rfl (hH42.cells (i := 0) rfl 0 rfl) rdLe_rfl agg24 rfl rfl rfl) rfl ?_
      refine Run.opG wantS_none (ex_loadA rfl (hH42.cells (i := 1) rfl 0 rfl) rdLe_rfl agg29 rfl rfl rfl) rfl ?_
      refine Run.opG wantS_none (ex_move rfl) rfl ?_
      obtain ⟨r64, hr64, h⟩ := bnd_some h
      refine Run.callP wantS_none (ex_call rfl mkk12 cal12) rfl (alert_Signed_ok F r37.1 a1 r61 s0 _ _ (hH42.slcF hs0) (fixH hH42 (List.mem_of_getElem? (i := 3) rfl) (List.mem_of_getElem? (i := 4) rfl) (List.mem_of_getElem? (i := 5) rfl)) hr64) ?_
      refine Run.opG wantS_none (ex_move rfl) rfl ?_
      refine Run.opG wantS_none (ex_extract rfl rfl) rfl ?_
      refine Run.opG wantS_none (ex_extract rfl rfl) rfl ?_
      refine Run.opG wantS_none (ex_assign rfl) rfl ?_
      refine Run.opG wantS_none (ex_assign rfl) rfl ?_
      refine Run.opsEnd (Run.seq (Run.region ?_))
      refine Run.opG wantS_none (ex_move rfl) rfl ?_
      refine Run.opG wantS_none (ex_eql rfl rfl) rfl ?_
      refine Run.opG wantS_none (ex_move rfl) rfl ?_
      rcases btf ((r58.2 == (0 : Int))) with hc66 | hc66
      · have h := bif_t hc66 h
        refine Run.opG (wantS_yes' rfl rfl hc66) (ex_move rfl) rfl ?_
        refine Run.opG (wantS_yes' rfl rfl hc66) (ex_eql rfl rfl) rfl ?_
        refine Run.opG wantS_none (ex_pickT' rfl hc66 rfl rfl) rfl ?_
        exact Run.pick [2, 10, 11, 12, 74] (law10_AlertSigned_4_ok F r61 r50.1 r58.1 r64.1 (r64.2 == (0 : Int)) _ _ _ (hH42.pick [3, 4, 5] rfl rfl) h)
      · have h := bif_f hc66 h
        refine Run.no (wantS_not' rfl rfl hc66) rfl ?_
        refine Run.no (wantS_not' rfl rfl hc66) rfl ?_
        refine Run.opG wantS_none (ex_pickF' rfl hc66 rfl rfl) rfl ?_
        exact Run.pick [2, 10, 11, 12, 74] (law10_AlertSigned_4_ok F r61 r50.1 r58.1 r64.1 false _ _ _ (hH42.pick [3, 4, 5] rfl rfl) h)

end Go.Ev.AlertSigned
