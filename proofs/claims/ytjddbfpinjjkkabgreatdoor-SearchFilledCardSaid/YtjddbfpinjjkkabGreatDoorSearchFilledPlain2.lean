/- Plain functions that say what functions of the program come to, and proofs of it, written by a program of the verifier's own. -/
import Derived.Test.YtjddbfpinjjkkabGreatDoorSort
import Derived.Test.YtjddbfpinjjkkabGreatDoorSearchFilledPlain
namespace Go.Ev.SearchFilled
open Go Go.Ev Go.Proofs
set_option maxRecDepth 100000
set_option linter.unusedVariables false

abbrev bank_areBounds_post (r : Bool) : SV → Mem → Prop := fun s _ => s = (.bool r)

def bank_areBounds_1 (F : Nat) (v10 : Bool) : Option (Bool) :=
  some v10

theorem bank_areBounds_1_ok (F : Nat) : ∀ (v10 : Bool) (Fr : Rd) (M : Mem) (r : Bool) (hH : Has Fr M []), bank_areBounds_1 F v10 = some r → Run Tryz.prog ⟨⟨40, [], none⟩, []⟩ 11 (bank_areBounds_post r) [(10, (.bool v10))] [itemC Tryz.prog 40 [1, 0] 6, codeC Tryz.prog 40 [1, 1]] M := by
  intro v10 Fr M r hH h
  rw [bank_areBounds_1] at h
  refine Run.opG wantS_none (ex_assign rfl) rfl ?_
  refine Run.opsEnd ?_
  cases h
  exact Run.ret Tryz.func40 rfl (res_tmp rfl res_nil) rfl

def bank_areBounds (F : Nat) (a0 a1 : Int) : Option (Bool) :=
  bnd (bank_isFrom F (1 : Int) a0 (1048576 : Int)) fun r22 =>
  bif r22 then
    bnd (bank_isFrom F (0 : Int) a1 (65536 : Int)) fun r26 =>
    bank_areBounds_1 F r26
  else
    bank_areBounds_1 F false

theorem bank_areBounds_ok (F : Nat) (a0 a1 : Int) (r : Bool) (M : Mem) (h : bank_areBounds F a0 a1 = some r) : CallsM Tryz.prog 40 [(.int .i64 a0), (.int .i64 a1)] M (fun s M' => s = (.bool r) ∧ M' = M) := by
  refine CallsM.plain Tryz.func40 rfl rfl rfl (show Run _ _ _ (bank_areBounds_post r) _ _ _ from ?_)
  rw [bank_areBounds] at h
  have hH := Has.nil (frozen M)
  refine Run.seq (Run.region ?_)
  refine Run.opG wantS_none (ex_assign rfl) rfl ?_
  refine Run.opsEnd (Run.seq (Run.region ?_))
  refine Run.opG wantS_none (ex_move rfl) rfl ?_
  obtain ⟨r22, hr22, h⟩ := bnd_some h
  refine Run.callP wantS_none (ex_call rfl mkk39 cal39) rfl (bank_isFrom_ok F (1 : Int) a0 (1048576 : Int) _ _ hr22) ?_
  refine Run.opG wantS_none (ex_move rfl) rfl ?_
  rcases btf (r22) with hc24 | hc24
  · have h := bif_t hc24 h
    refine Run.opG (wantS_yes' rfl rfl hc24) (ex_move rfl) rfl ?_
    obtain ⟨r26, hr26, h⟩ := bnd_some h
    refine Run.callP (wantS_yes' rfl rfl hc24) (ex_call rfl mkk39 cal39) rfl (bank_isFrom_ok F (0 : Int) a1 (65536 : Int) _ _ hr26) ?_
    refine Run.opG wantS_none (ex_pickT' rfl hc24 rfl rfl) rfl ?_
    exact Run.pick [10] (bank_areBounds_1_ok F r26 _ _ _ hH h)
  · have h := bif_f hc24 h
    refine Run.no (wantS_not' rfl rfl hc24) rfl ?_
    refine Run.no (wantS_not' rfl rfl hc24) rfl ?_
    refine Run.opG wantS_none (ex_pickF' rfl hc24 rfl rfl) rfl ?_
    exact Run.pick [10] (bank_areBounds_1_ok F false _ _ _ hH h)

theorem mkk40 : makeK Tryz.prog 40 = none := by kernel_rfl
theorem cal40 : callable Tryz.prog 40 = true := by kernel_rfl
abbrev bank_checkHits_post (r : Int) : SV → Mem → Prop := fun s _ => s = (.int .i64 r)

def bank_checkHits (F : Nat) (a0 : Int) (a1 : (List S_api_Chirp)) (a2 : (List Int)) (a3 a4 : Int) : Option (Int) :=
  bnd (bank_CheckBank F a0 a1) fun r23 =>
  bif (!(r23 == (0 : Int))) then
    some r23
  else
    bnd (bank_areData F a2) fun r27 =>
    bif (!r27) then
      some (73 : Int)
    else
      bnd (bank_areBounds F a3 a4) fun r31 =>
      bif (!r31) then
        some (8 : Int)
      else
        some (0 : Int)

theorem bank_checkHits_ok (F : Nat) (a0 : Int) (a1 : (List S_api_Chirp)) (a2 : (List Int)) (a3 a4 : Int) (s0 s1 : SV) (r : Int) (M : Mem) (hs0 : Slc (rd M) 2 (FlatR enc27) s0 a1) (hs1 : Slc (rd M) 1 (FlatR enc3) s1 a2) (hfx : FixIn M fixes) (h : bank_checkHits F a0 a1 a2 a3 a4 = some r) : CallsM Tryz.prog 43 [(.int .i64 a0), s0, s1, (.int .i64 a3), (.int .i64 a4)] M (fun s M' => s = (.int .i64 r) ∧ M' = M) := by
  refine CallsM.plain Tryz.func43 rfl rfl rfl (show Run _ _ _ (bank_checkHits_post r) _ _ _ from ?_)
  rw [bank_checkHits] at h
  replace hs0 := hs0.mono (rdLe_frozen M) (fun _ _ h => h)
  replace hs1 := hs1.mono (rdLe_frozen M) (fun _ _ h => h)
  have hH : Has (ro (frozen M)) (frozen M) [tb0] := Has.ofFix hfx.frozen
  refine Run.seq (Run.region ?_)
  refine Run.opG wantS_none (ex_assign rfl) rfl ?_
  refine Run.opsEnd (Run.seq (Run.seq (Run.region ?_)))
  refine Run.opG wantS_none (ex_move rfl) rfl ?_
  refine Run.opG wantS_none (ex_move rfl) rfl ?_
  obtain ⟨r23, hr23, h⟩ := bnd_some h
  refine Run.callP wantS_none (ex_call rfl mkk13 cal13) rfl (bank_CheckBank_ok F a0 a1 s0 _ _ (hH.slcF hs0) (fixH hH (List.mem_of_getElem? (i := 0) rfl)) hr23) ?_
  refine Run.opG wantS_none (ex_assign rfl) rfl ?_
  refine Run.opsEnd (Run.block (Run.seq (Run.region ?_)))
  refine Run.opG wantS_none (ex_move rfl) rfl ?_
  refine Run.opG wantS_none (ex_neq rfl rfl) rfl ?_
  refine Run.opG wantS_none (ex_assign rfl) rfl ?_
  refine Run.opsEnd ?_
  rcases btf ((!(r23 == (0 : Int)))) with hc25 | hc25
  · have h := bif_t hc25 h
    refine Run.condT' rfl hc25 ?_
    refine Run.seq (Run.region ?_)
    refine Run.opG wantS_none (ex_move rfl) rfl ?_
    refine Run.opG wantS_none (ex_assign rfl) rfl ?_
    refine Run.opsEnd ?_
    cases h
    exact Run.ret Tryz.func43 rfl (res_tmp rfl res_nil) rfl
  · have h := bif_f hc25 h
    refine Run.condF' rfl hc25 ?_
    refine Run.seq (Run.region ?_)
    refine Run.opG wantS_none (ex_move rfl) rfl ?_
    obtain ⟨r27, hr27, h⟩ := bnd_some h
    refine Run.callP wantS_none (ex_call rfl mkk34 cal34) rfl (bank_areData_ok F a2 s1 _ _ (hH.slcF hs1) hr27) ?_
    refine Run.opG wantS_none (ex_not rfl) rfl ?_
    refine Run.opG wantS_none (ex_assign rfl) rfl ?_
    refine Run.opsEnd ?_
    rcases btf ((!r27)) with hc29 | hc29
    · have h := bif_t hc29 h
      refine Run.condT' rfl hc29 ?_
      refine Run.seq (Run.region ?_)
      refine Run.opG wantS_none (ex_assign rfl) rfl ?_
      refine Run.opsEnd ?_
      cases h
      exact Run.ret Tryz.func43 rfl (res_tmp rfl res_nil) rfl
    · have h := bif_f hc29 h
      refine Run.condF' rfl hc29 ?_
      refine Run.seq (Run.region ?_)
      refine Run.opG wantS_none (ex_move rfl) rfl ?_
      refine Run.opG wantS_none (ex_move rfl) rfl ?_
      obtain ⟨r31, hr31, h⟩ := bnd_some h
      refine Run.callP wantS_none (ex_call rfl mkk40 cal40) rfl (bank_areBounds_ok F a3 a4 _ _ hr31) ?_
      refine Run.opG wantS_none (ex_not rfl) rfl ?_
      refine Run.opG wantS_none (ex_assign rfl) rfl ?_
      refine Run.opsEnd ?_
      rcases btf ((!r31)) with hc33 | hc33
      · have h := bif_t hc33 h
        refine Run.condT' rfl hc33 ?_
        refine Run.seq (Run.region ?_)
        refine Run.opG wantS_none (ex_assign rfl) rfl ?_
        refine Run.opsEnd ?_
        cases h
        exact Run.ret Tryz.func43 rfl (res_tmp rfl res_nil) rfl
      · have h := bif_f hc33 h
        refine Run.condF' rfl hc33 ?_
        refine Run.skip (Run.inBlock (Run.seq (Run.region ?_)))
        refine Run.opG wantS_none (ex_assign rfl) rfl ?_
        refine Run.opsEnd ?_
        cases h
        exact Run.ret Tryz.func43 rfl (res_tmp rfl res_nil) rfl

theorem mkk43 : makeK Tryz.prog 43 = none := by kernel_rfl
theorem cal43 : callable Tryz.prog 43 = true := by kernel_rfl
theorem mkk45 : makeK Tryz.prog 45 = none := by kernel_rfl
theorem cal45 : callable Tryz.prog 45 = true := by kernel_rfl
def rep72 (f : Rd) (cs : List SV) (a : (List Int)) : Prop := ∃ q1, cs = [q1] ∧ RopTo f q1 (a.flatMap enc3)
theorem rep72_mo {f g : Rd} (h : RdLe f g) {cs : List SV} {a : (List Int)} : rep72 f cs a → rep72 g cs a := by
  rintro ⟨q1, rfl, h0⟩
  exact ⟨q1, rfl, h0.mono h⟩
theorem rep72_len {f : Rd} {cs : List SV} {a : (List Int)} : rep72 f cs a → cs.length = 1 := by
  rintro ⟨_, rfl, h0⟩
  rfl
theorem rep72_ones {f : Rd} {cs : List SV} {a : (List Int)} : rep72 f cs a → ones cs = true := by
  rintro ⟨_, rfl, h0⟩
  exact (ones_cons (rop_one h0) ones_nil)
theorem elt99 : sliceElt Tryz.prog 99 = some (⟨1, 8, [.nilp], 72⟩ : Elt) := by kernel_rfl
theorem appt99_99 : appT Tryz.prog 99 99 = some (⟨1, 8, [.nilp], 72⟩ : Elt) := by kernel_rfl
theorem zer50 : zerosOf Tryz.prog 50 = some [.nils] := by kernel_rfl
theorem lenk99 : lenK Tryz.prog 99 = some .sl := by kernel_rfl
theorem els99 : elems Tryz.prog 99 = some (.sl 1) := by kernel_rfl
theorem zer3 : zerosOf Tryz.prog 3 = some [(.int .i64 0)] := by kernel_rfl
theorem zer72 : zerosOf Tryz.prog 72 = some [.nilp] := by kernel_rfl
theorem sz72 : szOf Tryz.prog 72 = some 1 := by kernel_rfl
theorem zer146 : zerosOf Tryz.prog 146 = some [(.int .i64 0), (.int .i64 0)] := by kernel_rfl
theorem pls146 : placesOf Tryz.prog 146 = some (.st [(0, 1), (1, 1)]) := by kernel_rfl
structure S_bank_quotient where
  top : Int
  under : Int

theorem agg146 : aggSize Tryz.prog 146 = some (some 2) := by kernel_rfl
theorem off146_0 : fieldOff Tryz.prog 146 0 = some 0 := by kernel_rfl
theorem uvk3_219 : uvK Tryz.prog 3 219 = none := by kernel_rfl
theorem cvk3_219 : cvK Tryz.prog 3 219 = some (.int .u64) := by kernel_rfl
theorem off146_1 : fieldOff Tryz.prog 146 1 = some 1 := by kernel_rfl
abbrev bits_Mul64_post (r : Int × Int) : SV → Mem → Prop := fun s _ => s = (.tuple [(.int .u64 r.1), (.int .u64 r.2)])

def bits_Mul64 (F : Nat) (a0 a1 : Int) : Option (Int × Int) :=
  bnd (bitZ Nat.land .u64 a0 (4294967295 : Int)) fun z22 =>
  bnd (bitZ Nat.land .u64 a1 (4294967295 : Int)) fun z24 =>
  bnd (bitZ Nat.land .u64 (IntKind.wrap .u64 ((IntKind.wrap .u64 ((Int.fdiv a0 (2 ^ (min 32 (IntKind.bits .u64)))) * z24)) + (Int.fdiv (IntKind.wrap .u64 (z22 * z24)) (2 ^ (min 32 (IntKind.bits .u64)))))) (4294967295 : Int)) fun z26 =>
  some ((IntKind.wrap .u64 ((IntKind.wrap .u64 ((IntKind.wrap .u64 ((Int.fdiv a0 (2 ^ (min 32 (IntKind.bits .u64)))) * (Int.fdiv a1 (2 ^ (min 32 (IntKind.bits .u64)))))) + (Int.fdiv (IntKind.wrap .u64 ((IntKind.wrap .u64 ((Int.fdiv a0 (2 ^ (min 32 (IntKind.bits .u64)))) * z24)) + (Int.fdiv (IntKind.wrap .u64 (z22 * z24)) (2 ^ (min 32 (IntKind.bits .u64)))))) (2 ^ (min 32 (IntKind.bits .u64)))))) + (Int.fdiv (IntKind.wrap .u64 (z26 + (IntKind.wrap .u64 (z22 * (Int.fdiv a1 (2 ^ (min 32 (IntKind.bits .u64)))))))) (2 ^ (min 32 (IntKind.bits .u64)))))), (IntKind.wrap .u64 (a0 * a1)))

theorem bits_Mul64_ok (F : Nat) (a0 a1 : Int) (r : Int × Int) (M : Mem) (h : bits_Mul64 F a0 a1 = some r) : CallsM Tryz.prog 197 [(.int .u64 a0), (.int .u64 a1)] M (fun s M' => s = (.tuple [(.int .u64 r.1), (.int .u64 r.2)]) ∧ M' = M) := by
  refine CallsM.plain Tryz.func197 rfl rfl rfl (show Run _ _ _ (bits_Mul64_post r) _ _ _ from ?_)
  rw [bits_Mul64] at h
  have hH := Has.nil (frozen M)
  refine Run.seq (Run.region ?_)
  refine Run.opG wantS_none (ex_assign rfl) rfl ?_
  refine Run.opG wantS_none (ex_assign rfl) rfl ?_
  refine Run.opsEnd (Run.seq (Run.region ?_))
  refine Run.opG wantS_none (ex_move rfl) rfl ?_
  obtain ⟨z22, hz22, h⟩ := bnd_some h
  refine Run.opG wantS_none (ex_and rfl rfl hz22) rfl ?_
  refine Run.opG wantS_none (ex_assign rfl) rfl ?_
  refine Run.opsEnd (Run.seq (Run.region ?_))
  refine Run.opG wantS_none (ex_move rfl) rfl ?_
  refine Run.opG wantS_none (ex_shr (j := 32) rfl rfl) rfl ?_
  refine Run.opG wantS_none (ex_assign rfl) rfl ?_
  refine Run.opsEnd (Run.seq (Run.region ?_))
  refine Run.opG wantS_none (ex_move rfl) rfl ?_
  obtain ⟨z24, hz24, h⟩ := bnd_some h
  refine Run.opG wantS_none (ex_and rfl rfl hz24) rfl ?_
  refine Run.opG wantS_none (ex_assign rfl) rfl ?_
  refine Run.opsEnd (Run.seq (Run.region ?_))
  refine Run.opG wantS_none (ex_move rfl) rfl ?_
  refine Run.opG wantS_none (ex_shr (j := 32) rfl rfl) rfl ?_
  refine Run.opG wantS_none (ex_assign rfl) rfl ?_
  refine Run.opsEnd (Run.seq (Run.region ?_))
  refine Run.opG wantS_none (ex_move rfl) rfl ?_
  refine Run.opG wantS_none (ex_move rfl) rfl ?_
  refine Run.opG wantS_none (ex_mul rfl rfl) rfl ?_
  refine Run.opG wantS_none (ex_assign rfl) rfl ?_
  refine Run.opsEnd (Run.seq (Run.region ?_))
  refine Run.opG wantS_none (ex_move rfl) rfl ?_
  refine Run.opG wantS_none (ex_move rfl) rfl ?_
  refine Run.opG wantS_none (ex_mul rfl rfl) rfl ?_
  refine Run.opG wantS_none (ex_move rfl) rfl ?_
  refine Run.opG wantS_none (ex_shr (j := 32) rfl rfl) rfl ?_
  refine Run.opG wantS_none (ex_add rfl rfl) rfl ?_
  refine Run.opG wantS_none (ex_assign rfl) rfl ?_
  refine Run.opsEnd (Run.seq (Run.region ?_))
  refine Run.opG wantS_none (ex_move rfl) rfl ?_
  obtain ⟨z26, hz26, h⟩ := bnd_some h
  refine Run.opG wantS_none (ex_and rfl rfl hz26) rfl ?_
  refine Run.opG wantS_none (ex_assign rfl) rfl ?_
  refine Run.opsEnd (Run.seq (Run.region ?_))
  refine Run.opG wantS_none (ex_move rfl) rfl ?_
  refine Run.opG wantS_none (ex_shr (j := 32) rfl rfl) rfl ?_
  refine Run.opG wantS_none (ex_assign rfl) rfl ?_
  refine Run.opsEnd (Run.seq (Run.region ?_))
  refine Run.opG wantS_none (ex_move rfl) rfl ?_
  refine Run.opG wantS_none (ex_move rfl) rfl ?_
  refine Run.opG wantS_none (ex_move rfl) rfl ?_
  refine Run.opG wantS_none (ex_mul rfl rfl) rfl ?_
  refine Run.opG wantS_none (ex_add rfl rfl) rfl ?_
  refine Run.opG wantS_none (ex_assign rfl) rfl ?_
  refine Run.opsEnd (Run.seq (Run.region ?_))
  refine Run.opG wantS_none (ex_move rfl) rfl ?_
  refine Run.opG wantS_none (ex_move rfl) rfl ?_
  refine Run.opG wantS_none (ex_mul rfl rfl) rfl ?_
  refine Run.opG wantS_none (ex_move rfl) rfl ?_
  refine Run.opG wantS_none (ex_add rfl rfl) rfl ?_
  refine Run.opG wantS_none (ex_move rfl) rfl ?_
  refine Run.opG wantS_none (ex_shr (j := 32) rfl rfl) rfl ?_
  refine Run.opG wantS_none (ex_add rfl rfl) rfl ?_
  refine Run.opG wantS_none (ex_assign rfl) rfl ?_
  refine Run.opsEnd (Run.seq (Run.region ?_))
  refine Run.opG wantS_none (ex_move rfl) rfl ?_
  refine Run.opG wantS_none (ex_move rfl) rfl ?_
  refine Run.opG wantS_none (ex_mul rfl rfl) rfl ?_
  refine Run.opG wantS_none (ex_assign rfl) rfl ?_
  refine Run.opsEnd ?_
  cases h
  exact Run.ret Tryz.func197 rfl (res_tmp rfl (res_tmp rfl res_nil)) rfl

theorem mkk197 : makeK Tryz.prog 197 = none := by kernel_rfl
theorem cal197 : callable Tryz.prog 197 = true := by kernel_rfl
abbrev cmp_isNaN_post (r : Bool) : SV → Mem → Prop := fun s _ => s = (.bool r)

def cmp_isNaN (F : Nat) (a0 : Int) : Option (Bool) :=
  some (!(a0 == a0))

theorem cmp_isNaN_ok (F : Nat) (a0 : Int) (r : Bool) (M : Mem) (h : cmp_isNaN F a0 = some r) : CallsM Tryz.prog 216 [(.int .u64 a0)] M (fun s M' => s = (.bool r) ∧ M' = M) := by
  refine CallsM.plain Tryz.func216 rfl rfl rfl (show Run _ _ _ (cmp_isNaN_post r) _ _ _ from ?_)
  rw [cmp_isNaN] at h
  have hH := Has.nil (frozen M)
  refine Run.seq (Run.region ?_)
  refine Run.opG wantS_none (ex_assign rfl) rfl ?_
  refine Run.opsEnd (Run.seq (Run.region ?_))
  refine Run.opG wantS_none (ex_move rfl) rfl ?_
  refine Run.opG wantS_none (ex_move rfl) rfl ?_
  refine Run.opG wantS_none (ex_neq rfl rfl) rfl ?_
  refine Run.opG wantS_none (ex_assign rfl) rfl ?_
  refine Run.opsEnd ?_
  cases h
  exact Run.ret Tryz.func216 rfl (res_tmp rfl res_nil) rfl

theorem mkk216 : makeK Tryz.prog 216 = none := by kernel_rfl
theorem cal216 : callable Tryz.prog 216 = true := by kernel_rfl
abbrev cmp_Compare_post (r : Int) : SV → Mem → Prop := fun s _ => s = (.int .i64 r)

def cmp_Compare (F : Nat) (a0 a1 : Int) : Option (Int) :=
  bnd (cmp_isNaN F a0) fun r22 =>
  bnd (cmp_isNaN F a1) fun r25 =>
  bif r22 then
    bif r25 then
      some (0 : Int)
    else
      some ((-1) : Int)
  else
    bif r25 then
      some (1 : Int)
    else
      bif (decide (a0 < a1)) then
        some ((-1) : Int)
      else
        bif (decide (a1 < a0)) then
          some (1 : Int)
        else
          some (0 : Int)

theorem cmp_Compare_ok (F : Nat) (a0 a1 r : Int) (M : Mem) (h : cmp_Compare F a0 a1 = some r) : CallsM Tryz.prog 198 [(.int .u64 a0), (.int .u64 a1)] M (fun s M' => s = (.int .i64 r) ∧ M' = M) := by
  refine CallsM.plain Tryz.func198 rfl rfl rfl (show Run _ _ _ (cmp_Compare_post r) _ _ _ from ?_)
  rw [cmp_Compare] at h
  have hH := Has.nil (frozen M)
  refine Run.seq (Run.region ?_)
  refine Run.opG wantS_none (ex_assign rfl) rfl ?_
  refine Run.opsEnd (Run.seq (Run.region ?_))
  refine Run.opG wantS_none (ex_move rfl) rfl ?_
  obtain ⟨r22, hr22, h⟩ := bnd_some h
  refine Run.callP wantS_none (ex_call rfl mkk216 cal216) rfl (cmp_isNaN_ok F a0 _ _ hr22) ?_
  refine Run.opG wantS_none (ex_assign rfl) rfl ?_
  refine Run.opsEnd (Run.seq (Run.region ?_))
  refine Run.opG wantS_none (ex_move rfl) rfl ?_
  obtain ⟨r25, hr25, h⟩ := bnd_some h
  refine Run.callP wantS_none (ex_call rfl mkk216 cal216) rfl (cmp_isNaN_ok F a1 _ _ hr25) ?_
  refine Run.opG wantS_none (ex_assign rfl) rfl ?_
  refine Run.opsEnd (Run.seq (Run.seq (Run.region ?_)))
  refine Run.opG wantS_none (ex_move rfl) rfl ?_
  refine Run.opsEnd ?_
  rcases btf (r22) with hc27 | hc27
  · have h := bif_t hc27 h
    refine Run.condT' rfl hc27 ?_
    refine Run.seq (Run.seq (Run.region ?_))
    refine Run.opG wantS_none (ex_move rfl) rfl ?_
    refine Run.opsEnd ?_
    rcases btf (r25) with hc28 | hc28
    · have h := bif_t hc28 h
      refine Run.condT' rfl hc28 ?_
      refine Run.seq (Run.region ?_)
      refine Run.opG wantS_none (ex_assign rfl) rfl ?_
      refine Run.opsEnd ?_
      cases h
      exact Run.ret Tryz.func198 rfl (res_tmp rfl res_nil) rfl
    · have h := bif_f hc28 h
      refine Run.condF' rfl hc28 ?_
      refine Run.skip (Run.seq (Run.region ?_))
      refine Run.opG wantS_none (ex_assign rfl) rfl ?_
      refine Run.opsEnd ?_
      cases h
      exact Run.ret Tryz.func198 rfl (res_tmp rfl res_nil) rfl
  · have h := bif_f hc27 h
    refine Run.condF' rfl hc27 ?_
    refine Run.skip (Run.seq (Run.seq (Run.region ?_)))
    refine Run.opG wantS_none (ex_move rfl) rfl ?_
    refine Run.opsEnd ?_
    rcases btf (r25) with hc29 | hc29
    · have h := bif_t hc29 h
      refine Run.condT' rfl hc29 ?_
      refine Run.seq (Run.region ?_)
      refine Run.opG wantS_none (ex_assign rfl) rfl ?_
      refine Run.opsEnd ?_
      cases h
      exact Run.ret Tryz.func198 rfl (res_tmp rfl res_nil) rfl
    · have h := bif_f hc29 h
      refine Run.condF' rfl hc29 ?_
      refine Run.skip (Run.seq (Run.seq (Run.region ?_)))
      refine Run.opG wantS_none (ex_move rfl) rfl ?_
      refine Run.opG wantS_none (ex_move rfl) rfl ?_
      refine Run.opG wantS_none (ex_lss rfl rfl) rfl ?_
      refine Run.opsEnd ?_
      rcases btf ((decide (a0 < a1))) with hc30 | hc30
      · have h := bif_t hc30 h
        refine Run.condT' rfl hc30 ?_
        refine Run.seq (Run.region ?_)
        refine Run.opG wantS_none (ex_assign rfl) rfl ?_
        refine Run.opsEnd ?_
        cases h
        exact Run.ret Tryz.func198 rfl (res_tmp rfl res_nil) rfl
      · have h := bif_f hc30 h
        refine Run.condF' rfl hc30 ?_
        refine Run.skip (Run.seq (Run.seq (Run.region ?_)))
        refine Run.opG wantS_none (ex_move rfl) rfl ?_
        refine Run.opG wantS_none (ex_move rfl) rfl ?_
        refine Run.opG wantS_none (ex_gtr rfl rfl) rfl ?_
        refine Run.opsEnd ?_
        rcases btf ((decide (a1 < a0))) with hc31 | hc31
        · have h := bif_t hc31 h
          refine Run.condT' rfl hc31 ?_
          refine Run.seq (Run.region ?_)
          refine Run.opG wantS_none (ex_assign rfl) rfl ?_
          refine Run.opsEnd ?_
          cases h
          exact Run.ret Tryz.func198 rfl (res_tmp rfl res_nil) rfl
        · have h := bif_f hc31 h
          refine Run.condF' rfl hc31 ?_
          refine Run.skip (Run.seq (Run.region ?_))
          refine Run.opG wantS_none (ex_assign rfl) rfl ?_
          refine Run.opsEnd ?_
          cases h
          exact Run.ret Tryz.func198 rfl (res_tmp rfl res_nil) rfl

theorem mkk198 : makeK Tryz.prog 198 = none := by kernel_rfl
theorem cal198 : callable Tryz.prog 198 = true := by kernel_rfl
abbrev cmp_Or_post (r : Int) : SV → Mem → Prop := fun s _ => s = (.int .i64 r)

def cmp_Or_1 (F : Nat) : Nat → Int → (List Int) → Int → Int → Option (Int)
  | 0, _, _, _, _ => none
  | N + 1, v3, v6, v7, v8 =>
    bif (decide (v8 < v7)) then
      bnd (idx v6 v8) fun x23 =>
      bif (!(x23 == v3)) then
        some x23
      else
        (cmp_Or_1 F N) v3 v6 v7 (w64 (v8 + (1 : Int)))
    else
      some v3

theorem cmp_Or_1_ok (F : Nat) : ∀ (N : Nat), ∀ (v3 : Int) (v6 : (List Int)) (v7 v8 : Int) (sv6 : SV) (Fr : Rd) (M : Mem) (r : Int) (hv6 : Slc Fr 1 (FlatR enc3) sv6 v6) (hH : Has Fr M []), cmp_Or_1 F N v3 v6 v7 v8 = some r → Run Tryz.prog ⟨⟨94, [], none⟩, []⟩ 18 (cmp_Or_post r) [(3, (.int .i64 v3)), (6, sv6), (7, (.int .i64 v7)), (8, (.int .i64 v8))] [codeC Tryz.prog 94 [1, 1, 0, 1, 0, 0], loopC Tryz.prog 94 [1, 1, 0, 1, 0, 0], .inBlock 0, codeC Tryz.prog 94 [1, 1, 1]] M := by
  intro N
  induction N with
  | zero =>
    intro v3 v6 v7 v8 sv6 Fr M r hv6 hH h
    simp [cmp_Or_1] at h
  | succ N ih =>
    intro v3 v6 v7 v8 sv6 Fr M r hv6 hH h
    rw [cmp_Or_1] at h
    refine Run.seq (Run.region ?_)
    refine Run.opG wantS_none (ex_lss rfl rfl) rfl ?_
    refine Run.opsEnd (Run.seq ?_)
    rcases btf ((decide (v8 < v7))) with hc21 | hc21
    · have h := bif_t hc21 h
      refine Run.condT' rfl hc21 ?_
      refine Run.skip (Run.seq (Run.block (Run.seq (Run.region ?_))))
      obtain ⟨x23, hx23, h⟩ := bnd_some h
      obtain ⟨p23, o23, _, hx23, hp23, rfl⟩ := sl_elem (P := Tryz.prog) (t := 25) (kk := .i64) hv6 hx23 els25
      refine Run.opG wantS_none (ex_elX rfl rfl hx23) rfl ?_
      refine Run.opG wantS_none (ex_load1 rfl (hH.ptrF hp23) rdLe_rfl agg3) rfl ?_
      refine Run.opG wantS_none (ex_assign rfl) rfl ?_
      refine Run.opsEnd (Run.seq (Run.region ?_))
      refine Run.opG wantS_none (ex_move rfl) rfl ?_
      refine Run.opG wantS_none (ex_move rfl) rfl ?_
      refine Run.opG wantS_none (ex_neq rfl rfl) rfl ?_
      refine Run.opsEnd ?_
      rcases btf ((!(x23 == v3))) with hc24 | hc24
      · have h := bif_t hc24 h
        refine Run.condT' rfl hc24 ?_
        refine Run.seq (Run.region ?_)
        refine Run.opG wantS_none (ex_move rfl) rfl ?_
        refine Run.opG wantS_none (ex_assign rfl) rfl ?_
        refine Run.opsEnd ?_
        cases h
        exact Run.ret Tryz.func94 rfl (res_tmp rfl res_nil) rfl
      · have h := bif_f hc24 h
        refine Run.condF' rfl hc24 ?_
        refine Run.skip (Run.inBlock (Run.region ?_))
        refine Run.opG wantS_none (ex_add rfl rfl) rfl ?_
        refine Run.opG wantS_none (ex_move rfl) rfl ?_
        refine Run.opsEnd (Run.inLoop ?_)
        exact Run.pick [3, 6, 7, 8] (ih v3 v6 v7 (w64 (v8 + (1 : Int))) sv6 _ _ _ hv6 hH h)
    · have h := bif_f hc21 h
      refine Run.condF' rfl hc21 ?_
      refine Run.exit rfl (Run.seq (Run.region ?_))
      refine Run.opG wantS_none (ex_move rfl) rfl ?_
      refine Run.opG wantS_none (ex_assign rfl) rfl ?_
      refine Run.opsEnd ?_
      cases h
      exact Run.ret Tryz.func94 rfl (res_tmp rfl res_nil) rfl

def cmp_Or (F : Nat) (a0 : (List Int)) : Option (Int) :=
  cmp_Or_1 F F (0 : Int) a0 (a0.length : Int) (0 : Int)

theorem cmp_Or_ok (F : Nat) (a0 : (List Int)) (s0 : SV) (r : Int) (M : Mem) (hs0 : Slc (rd M) 1 (FlatR enc3) s0 a0) (h : cmp_Or F a0 = some r) : CallsM Tryz.prog 94 [s0] M (fun s M' => s = (.int .i64 r) ∧ M' = M) := by
  refine CallsM.plain Tryz.func94 rfl rfl rfl (show Run _ _ _ (cmp_Or_post r) _ _ _ from ?_)
  rw [cmp_Or] at h
  replace hs0 := hs0.mono (rdLe_frozen M) (fun _ _ h => h)
  have hH := Has.nil (frozen M)
  refine Run.seq (Run.region ?_)
  refine Run.opG wantS_none (ex_assign rfl) rfl ?_
  refine Run.opsEnd (Run.seq (Run.region ?_))
  refine Run.opG wantS_none (ex_assign rfl) rfl ?_
  refine Run.opsEnd (Run.seq (Run.seq (Run.region ?_)))
  refine Run.opG wantS_none (ex_move rfl) rfl ?_
  refine Run.opG wantS_none (ex_len' rfl hs0 lenk25) rfl ?_
  refine Run.opG wantS_none (ex_move rfl) rfl ?_
  refine Run.opsEnd (Run.block (Run.loop ?_))
  exact Run.pick [3, 6, 7, 8] (cmp_Or_1_ok F F (0 : Int) a0 (a0.length : Int) (0 : Int) s0 _ _ _ hs0 hH h)

theorem mkk94 : makeK Tryz.prog 94 = none := by kernel_rfl
theorem cal94 : callable Tryz.prog 94 = true := by kernel_rfl
abbrev bank_quotient_compare_post (r : Int) : SV → Mem → Prop := fun s _ => s = (.int .i64 r)

def bank_quotient_compare (F : Nat) (a0 a1 : S_bank_quotient) : Option (Int) :=
  bnd (bits_Mul64 F (IntKind.wrap .u64 a0.top) (IntKind.wrap .u64 a1.under)) fun r28 =>
  bnd (bits_Mul64 F (IntKind.wrap .u64 a1.top) (IntKind.wrap .u64 a0.under)) fun r31 =>
  bnd (cmp_Compare F r28.1 r31.1) fun r34 =>
  bnd (cmp_Compare F r28.2 r31.2) fun r37 =>
  bnd (cmp_Or F ([r34, r37] : List Int)) fun r43 =>
  some r43

theorem bank_quotient_compare_ok (F : Nat) (a0 a1 : S_bank_quotient) (r : Int) (M : Mem) (h : bank_quotient_compare F a0 a1 = some r) : CallsM Tryz.prog 170 [(.agg [(.int .i64 a0.top), (.int .i64 a0.under)]), (.agg [(.int .i64 a1.top), (.int .i64 a1.under)])] M (fun s M' => s = (.int .i64 r) ∧ M' = M) := by
  refine CallsM.plain Tryz.func170 rfl rfl rfl (show Run _ _ _ (bank_quotient_compare_post r) _ _ _ from ?_)
  rw [bank_quotient_compare] at h
  have hH := Has.nil (frozen M)
  refine Run.seq (Run.region ?_)
  refine Run.opX wantS_none rfl (ExG.box rfl rfl hH) ?_
  rintro _ M23 ⟨b22, rfl, hH23⟩
  refine Run.opX wantS_none rfl (ExG.box rfl rfl hH23) ?_
  rintro _ M26 ⟨b25, rfl, hH26⟩
  refine Run.opG wantS_none (ex_assign rfl) rfl ?_
  refine Run.opsEnd (Run.seq (Run.region ?_))
  refine Run.opG wantS_none (ex_fieldAddr rfl off146_0) rfl ?_
  refine Run.opG wantS_none (ex_load1 rfl (hH26.cells (i := 1) rfl 0 rfl) rdLe_rfl agg3) rfl ?_
  refine Run.opG wantS_none (ex_conv rfl uvk3_219 cvk3_219) rfl ?_
  refine Run.opG wantS_none (ex_fieldAddr rfl off146_1) rfl ?_
  refine Run.opG wantS_none (ex_load1 rfl (hH26.cells (i := 0) rfl 1 rfl) rdLe_rfl agg3) rfl ?_
  refine Run.opG wantS_none (ex_conv rfl uvk3_219 cvk3_219) rfl ?_
  obtain ⟨r28, hr28, h⟩ := bnd_some h
  refine Run.callP wantS_none (ex_call rfl mkk197 cal197) rfl (bits_Mul64_ok F (IntKind.wrap .u64 a0.top) (IntKind.wrap .u64 a1.under) _ _ hr28) ?_
  refine Run.opG wantS_none (ex_move rfl) rfl ?_
  refine Run.opG wantS_none (ex_extract rfl rfl) rfl ?_
  refine Run.opG wantS_none (ex_extract rfl rfl) rfl ?_
  refine Run.opG wantS_none (ex_assign rfl) rfl ?_
  refine Run.opG wantS_none (ex_assign rfl) rfl ?_
  refine Run.opsEnd (Run.seq (Run.region ?_))
  refine Run.opG wantS_none (ex_fieldAddr rfl off146_0) rfl ?_
  refine Run.opG wantS_none (ex_load1 rfl (hH26.cells (i := 0) rfl 0 rfl) rdLe_rfl agg3) rfl ?_
  refine Run.opG wantS_none (ex_conv rfl uvk3_219 cvk3_219) rfl ?_
  refine Run.opG wantS_none (ex_fieldAddr rfl off146_1) rfl ?_
  refine Run.opG wantS_none (ex_load1 rfl (hH26.cells (i := 1) rfl 1 rfl) rdLe_rfl agg3) rfl ?_
  refine Run.opG wantS_none (ex_conv rfl uvk3_219 cvk3_219) rfl ?_
  obtain ⟨r31, hr31, h⟩ := bnd_some h
  refine Run.callP wantS_none (ex_call rfl mkk197 cal197) rfl (bits_Mul64_ok F (IntKind.wrap .u64 a1.top) (IntKind.wrap .u64 a0.under) _ _ hr31) ?_
  refine Run.opG wantS_none (ex_move rfl) rfl ?_
  refine Run.opG wantS_none (ex_extract rfl rfl) rfl ?_
  refine Run.opG wantS_none (ex_extract rfl rfl) rfl ?_
  refine Run.opG wantS_none (ex_assign rfl) rfl ?_
  refine Run.opG wantS_none (ex_assign rfl) rfl ?_
  refine Run.opsEnd (Run.seq (Run.region ?_))
  refine Run.opG wantS_none (ex_move rfl) rfl ?_
  refine Run.opG wantS_none (ex_move rfl) rfl ?_
  obtain ⟨r34, hr34, h⟩ := bnd_some h
  refine Run.callP wantS_none (ex_call rfl mkk198 cal198) rfl (cmp_Compare_ok F r28.1 r31.1 _ _ hr34) ?_
  refine Run.opG wantS_none (ex_move rfl) rfl ?_
  refine Run.opG wantS_none (ex_move rfl) rfl ?_
  obtain ⟨r37, hr37, h⟩ := bnd_some h
  refine Run.callP wantS_none (ex_call rfl mkk198 cal198) rfl (cmp_Compare_ok F r28.2 r31.2 _ _ hr37) ?_
  refine Run.opX wantS_none rfl (ExG.built (enc := enc3) (l := ([r34, r37] : List Int)) (z := 1) rfl elt25 rfl rfl rfl enc3_len hH26) ?_
  rintro s40 M41 (hH41 : Has (ro (frozen M)) M41 [.vec 3 1 ([r34, r37] : List Int).length s40 (([r34, r37] : List Int).flatMap enc3), .obj b25 (.row 146 .whole [(.int .i64 a1.top), (.int .i64 a1.under)]), .obj b22 (.row 146 .whole [(.int .i64 a0.top), (.int .i64 a0.under)])])
  obtain ⟨r43, hr43, h⟩ := bnd_some h
  refine Run.callP wantS_none (ex_call rfl mkk94 cal94) rfl (cmp_Or_ok F ([r34, r37] : List Int) s40 _ _ (hH41.slc (i := 0) rfl enc3_len) hr43) ?_
  refine Run.opG wantS_none (ex_assign rfl) rfl ?_
  refine Run.opsEnd ?_
  cases h
  exact Run.ret Tryz.func170 rfl (res_tmp rfl res_nil) rfl

theorem mkk170 : makeK Tryz.prog 170 = none := by kernel_rfl
theorem cal170 : callable Tryz.prog 170 = true := by kernel_rfl
abbrev bank_quotient_isAtLeast_post (r : Bool) : SV → Mem → Prop := fun s _ => s = (.bool r)

def bank_quotient_isAtLeast (F : Nat) (a0 a1 : S_bank_quotient) : Option (Bool) :=
  bnd (bank_quotient_compare F a0 a1) fun r28 =>
  some (decide ((0 : Int) ≤ r28))

theorem bank_quotient_isAtLeast_ok (F : Nat) (a0 a1 : S_bank_quotient) (r : Bool) (M : Mem) (h : bank_quotient_isAtLeast F a0 a1 = some r) : CallsM Tryz.prog 131 [(.agg [(.int .i64 a0.top), (.int .i64 a0.under)]), (.agg [(.int .i64 a1.top), (.int .i64 a1.under)])] M (fun s M' => s = (.bool r) ∧ M' = M) := by
  refine CallsM.plain Tryz.func131 rfl rfl rfl (show Run _ _ _ (bank_quotient_isAtLeast_post r) _ _ _ from ?_)
  rw [bank_quotient_isAtLeast] at h
  have hH := Has.nil (frozen M)
  refine Run.seq (Run.region ?_)
  refine Run.opX wantS_none rfl (ExG.box rfl rfl hH) ?_
  rintro _ M23 ⟨b22, rfl, hH23⟩
  refine Run.opX wantS_none rfl (ExG.box rfl rfl hH23) ?_
  rintro _ M26 ⟨b25, rfl, hH26⟩
  refine Run.opG wantS_none (ex_assign rfl) rfl ?_
  refine Run.opsEnd (Run.seq (Run.region ?_))
  refine Run.opG wantS_none (ex_loadA rfl (hH26.cells (i := 1) rfl 0 rfl) rdLe_rfl agg146 rfl rfl rfl) rfl ?_
  refine Run.opG wantS_none (ex_loadA rfl (hH26.cells (i := 0) rfl 0 rfl) rdLe_rfl agg146 rfl rfl rfl) rfl ?_
  obtain ⟨r28, hr28, h⟩ := bnd_some h
  refine Run.callP wantS_none (ex_call rfl mkk170 cal170) rfl (bank_quotient_compare_ok F a0 a1 _ _ hr28) ?_
  refine Run.opG wantS_none (ex_geq rfl rfl) rfl ?_
  refine Run.opG wantS_none (ex_assign rfl) rfl ?_
  refine Run.opsEnd ?_
  cases h
  exact Run.ret Tryz.func131 rfl (res_tmp rfl res_nil) rfl

theorem mkk131 : makeK Tryz.prog 131 = none := by kernel_rfl
theorem cal131 : callable Tryz.prog 131 = true := by kernel_rfl
abbrev bank_isLoud_post (r : Bool) : SV → Mem → Prop := fun s _ => s = (.bool r)

def bank_isLoud_1 (F : Nat) (v14 : Bool) : Option (Bool) :=
  some v14

theorem bank_isLoud_1_ok (F : Nat) : ∀ (v14 : Bool) (Fr : Rd) (M : Mem) (r : Bool) (hH : Has Fr M []), bank_isLoud_1 F v14 = some r → Run Tryz.prog ⟨⟨90, [], none⟩, []⟩ 15 (bank_isLoud_post r) [(14, (.bool v14))] [itemC Tryz.prog 90 [1, 0] 10, codeC Tryz.prog 90 [1, 1]] M := by
  intro v14 Fr M r hH h
  rw [bank_isLoud_1] at h
  refine Run.opG wantS_none (ex_assign rfl) rfl ?_
  refine Run.opsEnd ?_
  cases h
  exact Run.ret Tryz.func90 rfl (res_tmp rfl res_nil) rfl

def bank_isLoud (F : Nat) (a0 a1 : Int) : Option (Bool) :=
  bif (decide ((0 : Int) < a0)) then
    bnd (bank_quotient_isAtLeast F (S_bank_quotient.mk a0 1) (S_bank_quotient.mk a1 a0)) fun r23 =>
    bank_isLoud_1 F r23
  else
    bank_isLoud_1 F false

theorem bank_isLoud_ok (F : Nat) (a0 a1 : Int) (r : Bool) (M : Mem) (h : bank_isLoud F a0 a1 = some r) : CallsM Tryz.prog 90 [(.int .i64 a0), (.int .i64 a1)] M (fun s M' => s = (.bool r) ∧ M' = M) := by
  refine CallsM.plain Tryz.func90 rfl rfl rfl (show Run _ _ _ (bank_isLoud_post r) _ _ _ from ?_)
  rw [bank_isLoud] at h
  have hH := Has.nil (frozen M)
  refine Run.seq (Run.region ?_)
  refine Run.opG wantS_none (ex_assign rfl) rfl ?_
  refine Run.opsEnd (Run.seq (Run.region ?_))
  refine Run.opG wantS_none (ex_move rfl) rfl ?_
  refine Run.opG wantS_none (ex_gtr rfl rfl) rfl ?_
  refine Run.opG wantS_none (ex_move rfl) rfl ?_
  rcases btf ((decide ((0 : Int) < a0))) with hc21 | hc21
  · have h := bif_t hc21 h
    refine Run.opG (wantS_yes' rfl rfl hc21) (ex_move rfl) rfl ?_
    refine Run.opG (wantS_yes' rfl rfl hc21) (ex_build (r := [(.int .i64 a0), (.int .i64 1)]) rfl zer146 pls146 rfl) rfl ?_
    refine Run.opG (wantS_yes' rfl rfl hc21) (ex_move rfl) rfl ?_
    refine Run.opG (wantS_yes' rfl rfl hc21) (ex_move rfl) rfl ?_
    refine Run.opG (wantS_yes' rfl rfl hc21) (ex_build (r := [(.int .i64 a1), (.int .i64 a0)]) rfl zer146 pls146 rfl) rfl ?_
    obtain ⟨r23, hr23, h⟩ := bnd_some h
    refine Run.callP (wantS_yes' rfl rfl hc21) (ex_call rfl mkk131 cal131) rfl (bank_quotient_isAtLeast_ok F (S_bank_quotient.mk a0 1) (S_bank_quotient.mk a1 a0) _ _ hr23) ?_
    refine Run.opG wantS_none (ex_pickT' rfl hc21 rfl rfl) rfl ?_
    exact Run.pick [14] (bank_isLoud_1_ok F r23 _ _ _ hH h)
  · have h := bif_f hc21 h
    refine Run.no (wantS_not' rfl rfl hc21) rfl ?_
    refine Run.no (wantS_not' rfl rfl hc21) rfl ?_
    refine Run.no (wantS_not' rfl rfl hc21) rfl ?_
    refine Run.no (wantS_not' rfl rfl hc21) rfl ?_
    refine Run.no (wantS_not' rfl rfl hc21) rfl ?_
    refine Run.no (wantS_not' rfl rfl hc21) rfl ?_
    refine Run.opG wantS_none (ex_pickF' rfl hc21 rfl rfl) rfl ?_
    exact Run.pick [14] (bank_isLoud_1_ok F false _ _ _ hH h)

theorem mkk90 : makeK Tryz.prog 90 = none := by kernel_rfl
theorem cal90 : callable Tryz.prog 90 = true := by kernel_rfl
theorem agg50 : aggSize Tryz.prog 50 = some none := by kernel_rfl
theorem zer54 : zerosOf Tryz.prog 54 = some [(.int .i64 0), (.int .i64 0), (.int .i64 0)] := by kernel_rfl
theorem pls54 : placesOf Tryz.prog 54 = some (.st [(0, 1), (1, 1), (2, 1)]) := by kernel_rfl
theorem elt50 : sliceElt Tryz.prog 50 = some (⟨3, 24, [(.int .i64 0), (.int .i64 0), (.int .i64 0)], 54⟩ : Elt) := by kernel_rfl
theorem appt50_50 : appT Tryz.prog 50 50 = some (⟨3, 24, [(.int .i64 0), (.int .i64 0), (.int .i64 0)], 54⟩ : Elt) := by kernel_rfl
theorem sz50 : szOf Tryz.prog 50 = some 1 := by kernel_rfl
theorem plan44_1_1_0_1_0_0_1_1_0_0_1_1_0_1_0_0 : planOf Tryz.prog (opsC (atC Tryz.prog 44 [1, 1, 0, 1, 0, 0, 1, 1, 0, 0, 1, 1, 0, 1, 0, 0])) = some [.fl 0, .fl 1, .fl 2, .fl 3, .fl 4, .fl 5, .fl 6, .an 7 [], .sync] := by kernel_rfl
abbrev bank_hits_post (r : (List S_api_Hit)) : SV → Mem → Prop := fun s Me => ∃ q1, s = q1 ∧ Has (fun _ => none) Me [.vec 54 3 r.length q1 (r.flatMap enc54)]

def bank_hits_2 (F : Nat) (hd1 : (List Int) → (List (List Int)) → Int → Int → Int → (List S_api_Hit) → Option ((List S_api_Hit))) : Nat → Int → (List Int) → (List (List Int)) → Int → Int → (List Int) → (List (List Int)) → Int → Int → Int → Int → (List Int) → (List Int) → (List Int) → (List S_api_Hit) → Option ((List S_api_Hit))
  | 0, _, _, _, _, _, _, _, _, _, _, _, _, _, _, _ => none
  | N + 1, v4, v1_f1, v12_f1, v13_f1, v14_f1, v1_g46, v12_g46, v13_g46, v14_g46, c22_0, c33_0, c36_0, c41_0, c44_0, l27 =>
    bnd (c41_0[(64 : Nat)]?) fun x49 =>
    bnd (bank_isTime F x49 c44_0 v4) fun r50 =>
    bif r50 then
      bnd (bank_output F c41_0 c44_0 v4) fun r54 =>
      bnd (c36_0[(65 : Nat)]?) fun x58 =>
      bnd (bank_isLoud F r54 (w64 (c22_0 * x58))) fun r59 =>
      bif r59 then
        bnd (apd 24 l27 ([(S_api_Hit.mk v4 c33_0 r54)] : List S_api_Hit)) fun l67 =>
        (bank_hits_2 F hd1 N) (w64 (v4 + (1 : Int))) v1_f1 v12_f1 v13_f1 v14_f1 v1_g46 v12_g46 v13_g46 v14_g46 c22_0 c33_0 c36_0 c41_0 c44_0 l67
      else
        (bank_hits_2 F hd1 N) (w64 (v4 + (1 : Int))) v1_f1 v12_f1 v13_f1 v14_f1 v1_g46 v12_g46 v13_g46 v14_g46 c22_0 c33_0 c36_0 c41_0 c44_0 l27
    else
      hd1 v1_f1 v12_f1 v13_f1 (w64 (v14_f1 + (1 : Int))) c22_0 l27

theorem bank_hits_2_ok (F : Nat) (hd1 : (List Int) → (List (List Int)) → Int → Int → Int → (List S_api_Hit) → Option ((List S_api_Hit))) (hhd1 : ∀ (v1 : (List Int)) (v12 : (List (List Int))) (v13 v14 c22_0 : Int) (l27 : (List S_api_Hit)) (sv1 sv12 : SV) (b22 b25 : Pos) (s27 : SV) (dz : List Pos) (Fr : Rd) (M : Mem) (r : (List S_api_Hit)) (hv1 : Slc Fr 1 (FlatR enc3) sv1 v1) (hv12 : Slc Fr 1 (rep72 Fr) sv12 v12) (hH : Has Fr M (([.obj b22 (.row 3 .whole [(.int .i64 c22_0)]), .obj b25 (.row 50 .whole [s27]), .vec 54 3 l27.length s27 (l27.flatMap enc54)] : List Ent) ++ (dsE dz ++ ([] : List Ent)))), hd1 v1 v12 v13 v14 c22_0 l27 = some r → Run Tryz.prog ⟨⟨44, (dz), none⟩, []⟩ 41 (bank_hits_post r) [(1, sv1), (5, (.ptr b22 0)), (6, .nils), (7, (.ptr b25 0)), (12, sv12), (13, (.int .i64 v13)), (14, (.int .i64 v14))] [codeC Tryz.prog 44 [1, 1, 0, 1, 0, 0], loopC Tryz.prog 44 [1, 1, 0, 1, 0, 0], .inBlock 0, codeC Tryz.prog 44 [1, 1, 1]] M) : ∀ (N : Nat), ∀ (v4 : Int) (v1_f1 : (List Int)) (v12_f1 : (List (List Int))) (v13_f1 v14_f1 : Int) (v1_g46 : (List Int)) (v12_g46 : (List (List Int))) (v13_g46 v14_g46 c22_0 c33_0 : Int) (c36_0 c41_0 c44_0 : (List Int)) (l27 : (List S_api_Hit)) (sv1_f1 sv12_f1 sv1_g46 sv12_g46 sc36_0 sc41_0 sc44_0 : SV) (b46 b22 b25 : Pos) (s27 : SV) (b33 b36 b41 b44 b47 : Pos) (dz : List Pos) (Fr : Rd) (M : Mem) (r : (List S_api_Hit)) (hv1_f1 : Slc Fr 1 (FlatR enc3) sv1_f1 v1_f1) (hv12_f1 : Slc Fr 1 (rep72 Fr) sv12_f1 v12_f1) (hv1_g46 : Slc Fr 1 (FlatR enc3) sv1_g46 v1_g46) (hv12_g46 : Slc Fr 1 (rep72 Fr) sv12_g46 v12_g46) (hc36_0 : RopTo Fr sc36_0 (c36_0.flatMap enc3)) (hc41_0 : RopTo Fr sc41_0 (c41_0.flatMap enc3)) (hc44_0 : Slc Fr 1 (FlatR enc3) sc44_0 c44_0) (hH : Has Fr M (([.obj b46 (.loop ⟨.ready, none, 44, 41, treeOf [(1, sv1_g46), (5, (.ptr b22 0)), (6, .nils), (7, (.ptr b25 0)), (8, (.ptr b33 0)), (9, (.ptr b36 0)), (12, sv12_g46), (13, (.int .i64 v13_g46)), (14, (.int .i64 v14_g46)), (21, (.fn (.func 85) [] [(.ptr b41 0), (.ptr b44 0)]))], [22, 23], (atC Tryz.prog 44 [1, 1, 0, 1, 0, 0, 1, 1, 0, 0, 1, 1, 0, 0]), (atC Tryz.prog 44 [1, 1, 0, 1, 0, 0, 1, 1, 0, 0, 1, 1, 0, 1]), b47⟩), .obj b22 (.row 3 .whole [(.int .i64 c22_0)]), .obj b25 (.row 50 .whole [s27]), .vec 54 3 l27.length s27 (l27.flatMap enc54), .obj b33 (.row 3 .whole [(.int .i64 c33_0)]), .obj b36 (.row 72 .whole [sc36_0]), .obj b41 (.row 72 .whole [sc41_0]), .obj b44 (.row 25 .whole [sc44_0]), .obj b47 .defd] : List Ent) ++ (dsE dz ++ ([] : List Ent)))), bank_hits_2 F hd1 N v4 v1_f1 v12_f1 v13_f1 v14_f1 v1_g46 v12_g46 v13_g46 v14_g46 c22_0 c33_0 c36_0 c41_0 c44_0 l27 = some r → Run Tryz.prog ⟨⟨85, [], none⟩, [.mk ⟨44, (b47 :: dz), none⟩ 41 (treeOf [(1, sv1_f1), (5, (.ptr b22 0)), (6, .nils), (7, (.ptr b25 0)), (12, sv12_f1), (13, (.int .i64 v13_f1)), (14, (.int .i64 v14_f1))]) [.inRange b46, .inBlock 2, .inBlock 1, codeC Tryz.prog 44 [1, 1, 0, 1, 0, 0, 1, 1, 1], loopC Tryz.prog 44 [1, 1, 0, 1, 0, 0], .inBlock 0, codeC Tryz.prog 44 [1, 1, 1]]]⟩ 22 (bank_hits_post r) [(0, (.yield b46)), (1, (.ptr b41 0)), (2, (.ptr b44 0)), (4, (.int .i64 v4))] [codeC Tryz.prog 85 [1, 0, 0], loopC Tryz.prog 85 [1, 0, 0], .inBlock 0] M := by
  intro N
  induction N with
  | zero =>
    intro v4 v1_f1 v12_f1 v13_f1 v14_f1 v1_g46 v12_g46 v13_g46 v14_g46 c22_0 c33_0 c36_0 c41_0 c44_0 l27 sv1_f1 sv12_f1 sv1_g46 sv12_g46 sc36_0 sc41_0 sc44_0 b46 b22 b25 s27 b33 b36 b41 b44 b47 dz Fr M r hv1_f1 hv12_f1 hv1_g46 hv12_g46 hc36_0 hc41_0 hc44_0 hH h
    simp [bank_hits_2] at h
  | succ N ih =>
    intro v4 v1_f1 v12_f1 v13_f1 v14_f1 v1_g46 v12_g46 v13_g46 v14_g46 c22_0 c33_0 c36_0 c41_0 c44_0 l27 sv1_f1 sv12_f1 sv1_g46 sv12_g46 sc36_0 sc41_0 sc44_0 b46 b22 b25 s27 b33 b36 b41 b44 b47 dz Fr M r hv1_f1 hv12_f1 hv1_g46 hv12_g46 hc36_0 hc41_0 hc44_0 hH h
    rw [bank_hits_2] at h
    refine Run.seq (Run.seq ?_)
    refine Run.drawG plan85_1_0_0_0_0 ?_
    refine DrawG.fl rfl (ev_ex wantS_none (ex_load1 rfl (hH.cells (i := 6) rfl 0 rfl) rdLe_rfl agg72)) rfl ?_
    obtain ⟨b48, hq48, hr48⟩ := rop_open hc41_0
    refine DrawG.fl rfl (ev_ex wantS_none (ex_nilR rfl hq48)) rfl ?_
    refine DrawG.fl rfl (ev_ex wantS_none (ex_fieldAddr rfl off105_1)) rfl ?_
    obtain ⟨x49, hx49, h⟩ := bnd_some h
    refine DrawG.fl rfl (ev_ex wantS_none (ex_load1 rfl (hH.ptrF (rop_at (enc := enc3) (a := x49) hr48 enc3_len hx49)) rdLe_rfl agg3)) rfl ?_
    refine DrawG.fl rfl (ev_ex wantS_none (ex_load1 rfl (hH.cells (i := 7) rfl 0 rfl) rdLe_rfl agg25)) rfl ?_
    refine DrawG.fl rfl (ev_ex wantS_none (ex_move rfl)) rfl ?_
    obtain ⟨r50, hr50, h⟩ := bnd_some h
    refine DrawG.callP rfl wantS_none (ex_call rfl mkk81 cal81) rfl (bank_isTime_ok F x49 c44_0 v4 sc44_0 _ _ (hH.slcF hc44_0) hr50) st_nil ?_
    refine DrawG.sync ?_
    refine DrawG.nil ?_
    rcases btf (r50) with hc52 | hc52
    · have h := bif_t hc52 h
      refine Run.condT' rfl hc52 ?_
      refine Run.skip (Run.seq (Run.block (Run.seq (Run.region ?_))))
      refine Run.opG wantS_none (ex_move rfl) rfl ?_
      refine Run.opG wantS_none (ex_move rfl) rfl ?_
      refine Run.opG wantS_none (ex_load1 rfl (hH.cells (i := 6) rfl 0 rfl) rdLe_rfl agg72) rfl ?_
      refine Run.opG wantS_none (ex_load1 rfl (hH.cells (i := 7) rfl 0 rfl) rdLe_rfl agg25) rfl ?_
      refine Run.opG wantS_none (ex_move rfl) rfl ?_
      obtain ⟨r54, hr54, h⟩ := bnd_some h
      refine Run.callP wantS_none (ex_call rfl mkk86 cal86) rfl (bank_output_ok F c41_0 c44_0 v4 sc41_0 sc44_0 _ _ (hH.ropF hc41_0) (hH.slcF hc44_0) hr54) ?_
      refine Run.round (e' := [(23, (.int .i64 r54)), (22, (.int .i64 v4)), (1, sv1_g46), (5, (.ptr b22 0)), (6, .nils), (7, (.ptr b25 0)), (8, (.ptr b33 0)), (9, (.ptr b36 0)), (12, sv12_g46), (13, (.int .i64 v13_g46)), (14, (.int .i64 v14_g46)), (21, (.fn (.func 85) [] [(.ptr b41 0), (.ptr b44 0)]))]) wantS_none (ex_yield hH (i := 0) rfl rfl rfl rfl) (hH.loopOf (i := 0) rfl) rfl ?_
      refine Run.seq (Run.region ?_)
      refine Run.opG wantS_none (ex_assign rfl) rfl ?_
      refine Run.opsEnd (Run.region ?_)
      refine Run.opG wantS_none (ex_assign rfl) rfl ?_
      refine Run.opsEnd ?_
      refine Run.beginX hH (i := 0) rfl rfl ?_
      intro M56 (hH56 : Has Fr M56 (([.obj b46 (.loop ⟨.busy, none, 44, 41, treeOf [(1, sv1_g46), (5, (.ptr b22 0)), (6, .nils), (7, (.ptr b25 0)), (8, (.ptr b33 0)), (9, (.ptr b36 0)), (12, sv12_g46), (13, (.int .i64 v13_g46)), (14, (.int .i64 v14_g46)), (21, (.fn (.func 85) [] [(.ptr b41 0), (.ptr b44 0)]))], [22, 23], (atC Tryz.prog 44 [1, 1, 0, 1, 0, 0, 1, 1, 0, 0, 1, 1, 0, 0]), (atC Tryz.prog 44 [1, 1, 0, 1, 0, 0, 1, 1, 0, 0, 1, 1, 0, 1]), b47⟩), .obj b22 (.row 3 .whole [(.int .i64 c22_0)]), .obj b25 (.row 50 .whole [s27]), .vec 54 3 l27.length s27 (l27.flatMap enc54), .obj b33 (.row 3 .whole [(.int .i64 c33_0)]), .obj b36 (.row 72 .whole [sc36_0]), .obj b41 (.row 72 .whole [sc41_0]), .obj b44 (.row 25 .whole [sc44_0]), .obj b47 .defd] : List Ent) ++ (dsE dz ++ ([] : List Ent))))
      refine Run.block (Run.seq ?_)
      refine Run.drawG plan44_1_1_0_1_0_0_1_1_0_0_1_1_0_1_0_0 ?_
      refine DrawG.fl rfl (ev_ex wantS_none (ex_move rfl)) rfl ?_
      refine DrawG.fl rfl (ev_ex wantS_none (ex_load1 rfl (hH56.cells (i := 1) rfl 0 rfl) rdLe_rfl agg3)) rfl ?_
      refine DrawG.fl rfl (ev_ex wantS_none (ex_load1 rfl (hH56.cells (i := 5) rfl 0 rfl) rdLe_rfl agg72)) rfl ?_
      obtain ⟨b57, hq57, hr57⟩ := rop_open hc36_0
      refine DrawG.fl rfl (ev_ex wantS_none (ex_nilR rfl hq57)) rfl ?_
      refine DrawG.fl rfl (ev_ex wantS_none (ex_fieldAddr rfl off105_2)) rfl ?_
      obtain ⟨x58, hx58, h⟩ := bnd_some h
      refine DrawG.fl rfl (ev_ex wantS_none (ex_load1 rfl (hH56.ptrF (rop_at (enc := enc3) (a := x58) hr57 enc3_len hx58)) rdLe_rfl agg3)) rfl ?_
      refine DrawG.fl rfl (ev_ex wantS_none (ex_mul rfl rfl)) rfl ?_
      obtain ⟨r59, hr59, h⟩ := bnd_some h
      refine DrawG.callP rfl wantS_none (ex_call rfl mkk90 cal90) rfl (bank_isLoud_ok F r54 (w64 (c22_0 * x58)) _ _ hr59) st_nil ?_
      refine DrawG.sync ?_
      refine DrawG.nil ?_
      rcases btf (r59) with hc61 | hc61
      · have h := bif_t hc61 h
        refine Run.condT' rfl hc61 ?_
        refine Run.region ?_
        refine Run.opG wantS_none (ex_load1 rfl (hH56.cells (i := 2) rfl 0 rfl) rdLe_rfl agg50) rfl ?_
        refine Run.opG wantS_none (ex_move rfl) rfl ?_
        refine Run.opG wantS_none (ex_load1 rfl (hH56.cells (i := 4) rfl 0 rfl) rdLe_rfl agg3) rfl ?_
        refine Run.opG wantS_none (ex_move rfl) rfl ?_
        refine Run.opG wantS_none (ex_build (r := [(.int .i64 v4), (.int .i64 c33_0), (.int .i64 r54)]) rfl zer54 pls54 rfl) rfl ?_
        refine Run.opX wantS_none rfl (ExG.built (enc := enc54) (l := ([(S_api_Hit.mk v4 c33_0 r54)] : List S_api_Hit)) (z := 3) rfl elt50 rfl rfl rfl enc54_len hH56) ?_
        rintro s63 M64 (hH64 : Has Fr M64 (([.vec 54 3 ([(S_api_Hit.mk v4 c33_0 r54)] : List S_api_Hit).length s63 (([(S_api_Hit.mk v4 c33_0 r54)] : List S_api_Hit).flatMap enc54), .obj b46 (.loop ⟨.busy, none, 44, 41, treeOf [(1, sv1_g46), (5, (.ptr b22 0)), (6, .nils), (7, (.ptr b25 0)), (8, (.ptr b33 0)), (9, (.ptr b36 0)), (12, sv12_g46), (13, (.int .i64 v13_g46)), (14, (.int .i64 v14_g46)), (21, (.fn (.func 85) [] [(.ptr b41 0), (.ptr b44 0)]))], [22, 23], (atC Tryz.prog 44 [1, 1, 0, 1, 0, 0, 1, 1, 0, 0, 1, 1, 0, 0]), (atC Tryz.prog 44 [1, 1, 0, 1, 0, 0, 1, 1, 0, 0, 1, 1, 0, 1]), b47⟩), .obj b22 (.row 3 .whole [(.int .i64 c22_0)]), .obj b25 (.row 50 .whole [s27]), .vec 54 3 l27.length s27 (l27.flatMap enc54), .obj b33 (.row 3 .whole [(.int .i64 c33_0)]), .obj b36 (.row 72 .whole [sc36_0]), .obj b41 (.row 72 .whole [sc41_0]), .obj b44 (.row 25 .whole [sc44_0]), .obj b47 .defd] : List Ent) ++ (dsE dz ++ ([] : List Ent))))
        obtain ⟨l67, hl67, h⟩ := bnd_some h
        refine Run.opX wantS_none rfl (ExG.append rfl rfl hH64 (i := 4) rfl enc54_len rfl enc54_ones appt50_50 rfl (len_slc (hH64.slc (i := 0) rfl enc54_len)) (first_slc (hH64.slc (i := 0) rfl enc54_len) (rdLe_rdRow _) enc54_len) hl67) ?_
        rintro s67 M69 (hH69 : Has Fr M69 (([.vec 54 3 ([(S_api_Hit.mk v4 c33_0 r54)] : List S_api_Hit).length s63 (([(S_api_Hit.mk v4 c33_0 r54)] : List S_api_Hit).flatMap enc54), .obj b46 (.loop ⟨.busy, none, 44, 41, treeOf [(1, sv1_g46), (5, (.ptr b22 0)), (6, .nils), (7, (.ptr b25 0)), (8, (.ptr b33 0)), (9, (.ptr b36 0)), (12, sv12_g46), (13, (.int .i64 v13_g46)), (14, (.int .i64 v14_g46)), (21, (.fn (.func 85) [] [(.ptr b41 0), (.ptr b44 0)]))], [22, 23], (atC Tryz.prog 44 [1, 1, 0, 1, 0, 0, 1, 1, 0, 0, 1, 1, 0, 0]), (atC Tryz.prog 44 [1, 1, 0, 1, 0, 0, 1, 1, 0, 0, 1, 1, 0, 1]), b47⟩), .obj b22 (.row 3 .whole [(.int .i64 c22_0)]), .obj b25 (.row 50 .whole [s27]), .vec 54 3 l67.length s67 (l67.flatMap enc54), .obj b33 (.row 3 .whole [(.int .i64 c33_0)]), .obj b36 (.row 72 .whole [sc36_0]), .obj b41 (.row 72 .whole [sc41_0]), .obj b44 (.row 25 .whole [sc44_0]), .obj b47 .defd] : List Ent) ++ (dsE dz ++ ([] : List Ent))))
        refine Run.opX wantS_none rfl (ExG.storeC (c' := [s67]) rfl rfl (cells_one (vec_one hH69 (i := 4) rfl)) hH69 (i := 3) rfl sz50 rfl rfl rfl (ones_cons (vec_one hH69 (i := 4) rfl) ones_nil) rfl) ?_
        rintro _ M70 ⟨rfl, (hH70 : Has Fr M70 (([.vec 54 3 ([(S_api_Hit.mk v4 c33_0 r54)] : List S_api_Hit).length s63 (([(S_api_Hit.mk v4 c33_0 r54)] : List S_api_Hit).flatMap enc54), .obj b46 (.loop ⟨.busy, none, 44, 41, treeOf [(1, sv1_g46), (5, (.ptr b22 0)), (6, .nils), (7, (.ptr b25 0)), (8, (.ptr b33 0)), (9, (.ptr b36 0)), (12, sv12_g46), (13, (.int .i64 v13_g46)), (14, (.int .i64 v14_g46)), (21, (.fn (.func 85) [] [(.ptr b41 0), (.ptr b44 0)]))], [22, 23], (atC Tryz.prog 44 [1, 1, 0, 1, 0, 0, 1, 1, 0, 0, 1, 1, 0, 0]), (atC Tryz.prog 44 [1, 1, 0, 1, 0, 0, 1, 1, 0, 0, 1, 1, 0, 1]), b47⟩), .obj b22 (.row 3 .whole [(.int .i64 c22_0)]), .obj b25 (.row 50 .whole [s67]), .vec 54 3 l67.length s67 (l67.flatMap enc54), .obj b33 (.row 3 .whole [(.int .i64 c33_0)]), .obj b36 (.row 72 .whole [sc36_0]), .obj b41 (.row 72 .whole [sc41_0]), .obj b44 (.row 25 .whole [sc44_0]), .obj b47 .defd] : List Ent) ++ (dsE dz ++ ([] : List Ent))))⟩
        refine Run.opsEnd (Run.inBlock ?_)
        refine Run.roundEndX hH70 (i := 1) rfl rfl ?_
        intro M71 (hH71 : Has Fr M71 (([.vec 54 3 ([(S_api_Hit.mk v4 c33_0 r54)] : List S_api_Hit).length s63 (([(S_api_Hit.mk v4 c33_0 r54)] : List S_api_Hit).flatMap enc54), .obj b46 (.loop ⟨.ready, none, 44, 41, treeOf [(1, sv1_g46), (5, (.ptr b22 0)), (6, .nils), (7, (.ptr b25 0)), (8, (.ptr b33 0)), (9, (.ptr b36 0)), (12, sv12_g46), (13, (.int .i64 v13_g46)), (14, (.int .i64 v14_g46)), (21, (.fn (.func 85) [] [(.ptr b41 0), (.ptr b44 0)]))], [22, 23], (atC Tryz.prog 44 [1, 1, 0, 1, 0, 0, 1, 1, 0, 0, 1, 1, 0, 0]), (atC Tryz.prog 44 [1, 1, 0, 1, 0, 0, 1, 1, 0, 0, 1, 1, 0, 1]), b47⟩), .obj b22 (.row 3 .whole [(.int .i64 c22_0)]), .obj b25 (.row 50 .whole [s67]), .vec 54 3 l67.length s67 (l67.flatMap enc54), .obj b33 (.row 3 .whole [(.int .i64 c33_0)]), .obj b36 (.row 72 .whole [sc36_0]), .obj b41 (.row 72 .whole [sc41_0]), .obj b44 (.row 25 .whole [sc44_0]), .obj b47 .defd] : List Ent) ++ (dsE dz ++ ([] : List Ent))))
        refine Run.opG wantS_none (ex_not rfl) rfl ?_
        refine Run.opsEnd ?_
        refine Run.condF' rfl (bnot_f rfl) ?_
        refine Run.skip (Run.inBlock (Run.region ?_))
        refine Run.opG wantS_none (ex_move rfl) rfl ?_
        refine Run.opG wantS_none (ex_add rfl rfl) rfl ?_
        refine Run.opG wantS_none (ex_assign rfl) rfl ?_
        refine Run.opsEnd (Run.inLoop ?_)
        exact Run.low (.cons (fle_pick [1, 5, 6, 7, 12, 13, 14] rfl) .nil) (Run.pick [0, 1, 2, 4] (ih (w64 (v4 + (1 : Int))) v1_f1 v12_f1 v13_f1 v14_f1 v1_g46 v12_g46 v13_g46 v14_g46 c22_0 c33_0 c36_0 c41_0 c44_0 l67 sv1_f1 sv12_f1 sv1_g46 sv12_g46 sc36_0 sc41_0 sc44_0 b46 b22 b25 s67 b33 b36 b41 b44 b47 dz _ _ _ hv1_f1 hv12_f1 hv1_g46 hv12_g46 hc36_0 hc41_0 hc44_0 (hH71.pickT [1, 2, 3, 4, 5, 6, 7, 8, 9] rfl rfl) h))
      · have h := bif_f hc61 h
        refine Run.condF' rfl hc61 ?_
        refine Run.skip (Run.inBlock ?_)
        refine Run.roundEndX hH56 (i := 0) rfl rfl ?_
        intro M72 (hH72 : Has Fr M72 (([.obj b46 (.loop ⟨.ready, none, 44, 41, treeOf [(1, sv1_g46), (5, (.ptr b22 0)), (6, .nils), (7, (.ptr b25 0)), (8, (.ptr b33 0)), (9, (.ptr b36 0)), (12, sv12_g46), (13, (.int .i64 v13_g46)), (14, (.int .i64 v14_g46)), (21, (.fn (.func 85) [] [(.ptr b41 0), (.ptr b44 0)]))], [22, 23], (atC Tryz.prog 44 [1, 1, 0, 1, 0, 0, 1, 1, 0, 0, 1, 1, 0, 0]), (atC Tryz.prog 44 [1, 1, 0, 1, 0, 0, 1, 1, 0, 0, 1, 1, 0, 1]), b47⟩), .obj b22 (.row 3 .whole [(.int .i64 c22_0)]), .obj b25 (.row 50 .whole [s27]), .vec 54 3 l27.length s27 (l27.flatMap enc54), .obj b33 (.row 3 .whole [(.int .i64 c33_0)]), .obj b36 (.row 72 .whole [sc36_0]), .obj b41 (.row 72 .whole [sc41_0]), .obj b44 (.row 25 .whole [sc44_0]), .obj b47 .defd] : List Ent) ++ (dsE dz ++ ([] : List Ent))))
        refine Run.opG wantS_none (ex_not rfl) rfl ?_
        refine Run.opsEnd ?_
        refine Run.condF' rfl (bnot_f rfl) ?_
        refine Run.skip (Run.inBlock (Run.region ?_))
        refine Run.opG wantS_none (ex_move rfl) rfl ?_
        refine Run.opG wantS_none (ex_add rfl rfl) rfl ?_
        refine Run.opG wantS_none (ex_assign rfl) rfl ?_
        refine Run.opsEnd (Run.inLoop ?_)
        exact Run.low (.cons (fle_pick [1, 5, 6, 7, 12, 13, 14] rfl) .nil) (Run.pick [0, 1, 2, 4] (ih (w64 (v4 + (1 : Int))) v1_f1 v12_f1 v13_f1 v14_f1 v1_g46 v12_g46 v13_g46 v14_g46 c22_0 c33_0 c36_0 c41_0 c44_0 l27 sv1_f1 sv12_f1 sv1_g46 sv12_g46 sc36_0 sc41_0 sc44_0 b46 b22 b25 s27 b33 b36 b41 b44 b47 dz _ _ _ hv1_f1 hv12_f1 hv1_g46 hv12_g46 hc36_0 hc41_0 hc44_0 hH72 h))
    · have h := bif_f hc52 h
      refine Run.condF' rfl hc52 ?_
      refine Run.exit rfl ?_
      refine Run.fallRange Tryz.func85 rfl res_nil ?_
      refine Run.endX hH (i := 0) rfl (fun hc => by cases hc) ?_
      intro M73 (hH73 : Has Fr M73 (([.obj b46 (.loop ⟨.exhausted, none, 44, 41, treeOf [(1, sv1_g46), (5, (.ptr b22 0)), (6, .nils), (7, (.ptr b25 0)), (8, (.ptr b33 0)), (9, (.ptr b36 0)), (12, sv12_g46), (13, (.int .i64 v13_g46)), (14, (.int .i64 v14_g46)), (21, (.fn (.func 85) [] [(.ptr b41 0), (.ptr b44 0)]))], [22, 23], (atC Tryz.prog 44 [1, 1, 0, 1, 0, 0, 1, 1, 0, 0, 1, 1, 0, 0]), (atC Tryz.prog 44 [1, 1, 0, 1, 0, 0, 1, 1, 0, 0, 1, 1, 0, 1]), b47⟩), .obj b22 (.row 3 .whole [(.int .i64 c22_0)]), .obj b25 (.row 50 .whole [s27]), .vec 54 3 l27.length s27 (l27.flatMap enc54), .obj b33 (.row 3 .whole [(.int .i64 c33_0)]), .obj b36 (.row 72 .whole [sc36_0]), .obj b41 (.row 72 .whole [sc41_0]), .obj b44 (.row 25 .whole [sc44_0]), .obj b47 .defd] : List Ent) ++ (dsE dz ++ ([] : List Ent))))
      refine Run.inBlock (Run.inBlock (Run.region ?_))
      refine Run.opG wantS_none (ex_add rfl rfl) rfl ?_
      refine Run.opG wantS_none (ex_move rfl) rfl ?_
      refine Run.opsEnd (Run.inLoop ?_)
      have hH74y : Has Fr M73 (([.obj b46 (.loop ⟨.exhausted, none, 44, 41, treeOf [(1, sv1_g46), (5, (.ptr b22 0)), (6, .nils), (7, (.ptr b25 0)), (8, (.ptr b33 0)), (9, (.ptr b36 0)), (12, sv12_g46), (13, (.int .i64 v13_g46)), (14, (.int .i64 v14_g46)), (21, (.fn (.func 85) [] [(.ptr b41 0), (.ptr b44 0)]))], [22, 23], (atC Tryz.prog 44 [1, 1, 0, 1, 0, 0, 1, 1, 0, 0, 1, 1, 0, 0]), (atC Tryz.prog 44 [1, 1, 0, 1, 0, 0, 1, 1, 0, 0, 1, 1, 0, 1]), b47⟩), .obj b22 (.row 3 .whole [(.int .i64 c22_0)]), .obj b25 (.row 50 .whole [s27]), .vec 54 3 l27.length s27 (l27.flatMap enc54), .obj b33 (.row 3 .whole [(.int .i64 c33_0)]), .obj b36 (.row 72 .whole [sc36_0]), .obj b41 (.row 72 .whole [sc41_0]), .obj b44 (.row 25 .whole [sc44_0]), .obj b47 .defd] : List Ent) ++ (dsE dz ++ ([] : List Ent))) := (hH73.pickT [0, 1, 2, 3, 4, 5, 6, 7, 8] rfl rfl)
      have hH74 : Has Fr M73 (([.obj b46 (.loop ⟨.exhausted, none, 44, 41, treeOf [(1, sv1_g46), (5, (.ptr b22 0)), (6, .nils), (7, (.ptr b25 0)), (8, (.ptr b33 0)), (9, (.ptr b36 0)), (12, sv12_g46), (13, (.int .i64 v13_g46)), (14, (.int .i64 v14_g46)), (21, (.fn (.func 85) [] [(.ptr b41 0), (.ptr b44 0)]))], [22, 23], (atC Tryz.prog 44 [1, 1, 0, 1, 0, 0, 1, 1, 0, 0, 1, 1, 0, 0]), (atC Tryz.prog 44 [1, 1, 0, 1, 0, 0, 1, 1, 0, 0, 1, 1, 0, 1]), b47⟩), .obj b22 (.row 3 .whole [(.int .i64 c22_0)]), .obj b25 (.row 50 .whole [s27]), .vec 54 3 l27.length s27 (l27.flatMap enc54), .obj b33 (.row 3 .whole [(.int .i64 c33_0)]), .obj b36 (.row 72 .whole [sc36_0]), .obj b41 (.row 72 .whole [sc41_0]), .obj b44 (.row 25 .whole [sc44_0])] : List Ent) ++ (dsE (b47 :: dz) ++ ([] : List Ent))) := hH74y
      exact Run.pick [1, 5, 6, 7, 12, 13, 14] (hhd1 v1_f1 v12_f1 v13_f1 (w64 (v14_f1 + (1 : Int))) c22_0 l27 sv1_f1 sv12_f1 b22 b25 s27 (b47 :: dz) _ _ _ hv1_f1 hv12_f1 (hH74.pickT [1, 2, 3] rfl rfl) h)

def bank_hits_1 (F : Nat) : Nat → (List Int) → (List (List Int)) → Int → Int → Int → (List S_api_Hit) → Option ((List S_api_Hit))
  | 0, _, _, _, _, _, _ => none
  | N + 1, v1, v12, v13, v14, c22_0, l27 =>
    bif (decide (v14 < v13)) then
      bnd (idx v12 v14) fun x31 =>
      bank_hits_2 F (bank_hits_1 F N) F (0 : Int) v1 v12 v13 v14 v1 v12 v13 v14 c22_0 v14 x31 x31 v1 l27
    else
      some l27

theorem bank_hits_1_ok (F : Nat) : ∀ (N : Nat), ∀ (v1 : (List Int)) (v12 : (List (List Int))) (v13 v14 c22_0 : Int) (l27 : (List S_api_Hit)) (sv1 sv12 : SV) (b22 b25 : Pos) (s27 : SV) (dz : List Pos) (Fr : Rd) (M : Mem) (r : (List S_api_Hit)) (hv1 : Slc Fr 1 (FlatR enc3) sv1 v1) (hv12 : Slc Fr 1 (rep72 Fr) sv12 v12) (hH : Has Fr M (([.obj b22 (.row 3 .whole [(.int .i64 c22_0)]), .obj b25 (.row 50 .whole [s27]), .vec 54 3 l27.length s27 (l27.flatMap enc54)] : List Ent) ++ (dsE dz ++ ([] : List Ent)))), bank_hits_1 F N v1 v12 v13 v14 c22_0 l27 = some r → Run Tryz.prog ⟨⟨44, (dz), none⟩, []⟩ 41 (bank_hits_post r) [(1, sv1), (5, (.ptr b22 0)), (6, .nils), (7, (.ptr b25 0)), (12, sv12), (13, (.int .i64 v13)), (14, (.int .i64 v14))] [codeC Tryz.prog 44 [1, 1, 0, 1, 0, 0], loopC Tryz.prog 44 [1, 1, 0, 1, 0, 0], .inBlock 0, codeC Tryz.prog 44 [1, 1, 1]] M := by
  intro N
  induction N with
  | zero =>
    intro v1 v12 v13 v14 c22_0 l27 sv1 sv12 b22 b25 s27 dz Fr M r hv1 hv12 hH h
    simp [bank_hits_1] at h
  | succ N ih =>
    intro v1 v12 v13 v14 c22_0 l27 sv1 sv12 b22 b25 s27 dz Fr M r hv1 hv12 hH h
    rw [bank_hits_1] at h
    refine Run.seq (Run.region ?_)
    refine Run.opG wantS_none (ex_lss rfl rfl) rfl ?_
    refine Run.opsEnd (Run.seq ?_)
    rcases btf ((decide (v14 < v13))) with hc29 | hc29
    · have h := bif_t hc29 h
      refine Run.condT' rfl hc29 ?_
      refine Run.skip (Run.seq (Run.block (Run.seq (Run.region ?_))))
      refine Run.opG wantS_none (ex_move rfl) rfl ?_
      obtain ⟨x31, hx31, h⟩ := bnd_some h
      obtain ⟨p31, o31, _, hx31, hp31, ⟨q31_0, rfl, hq31_0⟩⟩ := sl_elem (P := Tryz.prog) (t := 99) (kk := .i64) hv12 hx31 els99
      refine Run.opG wantS_none (ex_elX rfl rfl hx31) rfl ?_
      refine Run.opG wantS_none (ex_load1 rfl (hH.ptrF hp31) rdLe_rfl agg72) rfl ?_
      refine Run.opX wantS_none rfl (ExG.new (v := fun b => .ptr b 0) (ex_alloc zer3) hH) ?_
      rintro _ M34 ⟨b33, rfl, hH34⟩
      refine Run.opX wantS_none rfl (ExG.new (v := fun b => .ptr b 0) (ex_alloc zer72) hH34) ?_
      rintro _ M37 ⟨b36, rfl, hH37⟩
      refine Run.opX wantS_none rfl (ExG.storeC (c' := [(.int .i64 v14)]) rfl rfl rfl hH37 (i := 1) rfl sz3 rfl rfl rfl rfl rfl) ?_
      rintro _ M38 ⟨rfl, (hH38 : Has Fr M38 (([.obj b36 (.row 72 .whole [.nilp]), .obj b33 (.row 3 .whole [(.int .i64 v14)]), .obj b22 (.row 3 .whole [(.int .i64 c22_0)]), .obj b25 (.row 50 .whole [s27]), .vec 54 3 l27.length s27 (l27.flatMap enc54)] : List Ent) ++ (dsE dz ++ ([] : List Ent))))⟩
      refine Run.opX wantS_none rfl (ExG.storeC (c' := [q31_0]) rfl rfl (cells_one (rop_one hq31_0)) hH38 (i := 0) rfl sz72 rfl rfl rfl (ones_cons (rop_one hq31_0) ones_nil) rfl) ?_
      rintro _ M39 ⟨rfl, (hH39 : Has Fr M39 (([.obj b36 (.row 72 .whole [q31_0]), .obj b33 (.row 3 .whole [(.int .i64 v14)]), .obj b22 (.row 3 .whole [(.int .i64 c22_0)]), .obj b25 (.row 50 .whole [s27]), .vec 54 3 l27.length s27 (l27.flatMap enc54)] : List Ent) ++ (dsE dz ++ ([] : List Ent))))⟩
      refine Run.opsEnd (Run.seq (Run.region ?_))
      refine Run.opG wantS_none (ex_load1 rfl (hH39.cells (i := 0) rfl 0 rfl) rdLe_rfl agg72) rfl ?_
      refine Run.opG wantS_none (ex_move rfl) rfl ?_
      refine Run.enter wantS_none (ex_call rfl mkk35 cal35) Tryz.func35 rfl rfl ?_
      refine Run.seq (Run.region ?_)
      refine Run.opX wantS_none rfl (ExG.box rfl (cells_one (rop_one hq31_0)) hH39) ?_
      rintro _ M42 ⟨b41, rfl, hH42⟩
      refine Run.opX wantS_none rfl (ExG.box rfl (cells_one (slc_one hv1)) hH42) ?_
      rintro _ M45 ⟨b44, rfl, hH45⟩
      refine Run.opG wantS_none (ex_assign rfl) rfl ?_
      refine Run.opsEnd (Run.seq (Run.region ?_))
      refine Run.opG wantS_none (ex_makeFunc rfl rfl) rfl ?_
      refine Run.opG wantS_none (ex_assign rfl) rfl ?_
      refine Run.opsEnd ?_
      refine Run.retTo Tryz.func35 rfl (res_tmp rfl res_nil) rfl ?_
      refine Run.opsEnd (Run.block ?_)
      refine Run.pick [1, 5, 6, 7, 8, 9, 12, 13, 14, 21] ?_
      refine Run.rangeX rfl cal85 Tryz.func85 rfl rfl hH45 ?_
      intro b47 b46 M46 (hH46 : Has Fr M46 (([.obj b46 (.loop ⟨.ready, none, 44, 41, treeOf [(1, sv1), (5, (.ptr b22 0)), (6, .nils), (7, (.ptr b25 0)), (8, (.ptr b33 0)), (9, (.ptr b36 0)), (12, sv12), (13, (.int .i64 v13)), (14, (.int .i64 v14)), (21, (.fn (.func 85) [] [(.ptr b41 0), (.ptr b44 0)]))], [22, 23], (atC Tryz.prog 44 [1, 1, 0, 1, 0, 0, 1, 1, 0, 0, 1, 1, 0, 0]), (atC Tryz.prog 44 [1, 1, 0, 1, 0, 0, 1, 1, 0, 0, 1, 1, 0, 1]), b47⟩), .obj b47 .defd, .obj b44 (.row 25 .whole [sv1]), .obj b41 (.row 72 .whole [q31_0]), .obj b36 (.row 72 .whole [q31_0]), .obj b33 (.row 3 .whole [(.int .i64 v14)]), .obj b22 (.row 3 .whole [(.int .i64 c22_0)]), .obj b25 (.row 50 .whole [s27]), .vec 54 3 l27.length s27 (l27.flatMap enc54)] : List Ent) ++ (dsE dz ++ ([] : List Ent))))
      refine Run.seq (Run.region ?_)
      refine Run.opG wantS_none (ex_assign rfl) rfl ?_
      refine Run.opsEnd (Run.block (Run.loop ?_))
      exact Run.low (.cons (fle_pick [1, 5, 6, 7, 12, 13, 14] rfl) .nil) (Run.pick [0, 1, 2, 4] (bank_hits_2_ok F (bank_hits_1 F N) ih F (0 : Int) v1 v12 v13 v14 v1 v12 v13 v14 c22_0 v14 x31 x31 v1 l27 sv1 sv12 sv1 sv12 q31_0 q31_0 sv1 b46 b22 b25 s27 b33 b36 b41 b44 b47 dz _ _ _ hv1 hv12 hv1 hv12 hq31_0 hq31_0 hv1 (hH46.pickT [0, 6, 7, 8, 5, 4, 3, 2, 1] rfl rfl) h))
    · have h := bif_f hc29 h
      refine Run.condF' rfl hc29 ?_
      refine Run.exit rfl (Run.seq (Run.region ?_))
      refine Run.opG wantS_none (ex_load1 rfl (hH.cells (i := 1) rfl 0 rfl) rdLe_rfl agg50) rfl ?_
      refine Run.opG wantS_none (ex_assign rfl) rfl ?_
      refine Run.opsEnd ?_
      obtain ⟨M75, hS75, hH75x⟩ := Has.shutD dz hH
      have hH75 : Has Fr M75 [.obj b22 (.row 3 .whole [(.int .i64 c22_0)]), .obj b25 (.row 50 .whole [s27]), .vec 54 3 l27.length s27 (l27.flatMap enc54)] := hH75x
      cases h
      exact Run.ret Tryz.func44 hS75 (res_tmp rfl res_nil) ⟨_, rfl, (hH75.pick [2] rfl rfl).upF (none_le _)⟩

def bank_hits (F : Nat) (a0 : (List (List Int))) (a1 : (List Int)) (a2 : Int) : Option ((List S_api_Hit)) :=
  bank_hits_1 F F a1 a0 (a0.length : Int) (0 : Int) a2 ([] : List S_api_Hit)

theorem bank_hits_ok (F : Nat) (a0 : (List (List Int))) (a1 : (List Int)) (a2 : Int) (s0 s1 : SV) (r : (List S_api_Hit)) (M : Mem) (hs0 : Slc (rd M) 1 (rep72 (rd M)) s0 a0) (hs1 : Slc (rd M) 1 (FlatR enc3) s1 a1) (h : bank_hits F a0 a1 a2 = some r) : CallsM Tryz.prog 44 [s0, s1, (.int .i64 a2)] M (fun s M' => ∃ q1, s = q1 ∧ New M M' [.vec 54 3 r.length q1 (r.flatMap enc54)]) := by
  refine CallsM.fresh (Q := bank_hits_post r) Tryz.func44 rfl rfl ?_ (by rintro s Me ⟨q1, rfl, hx⟩ ha hw; exact ⟨_, rfl, New.of rfl hx ha hw⟩)
  rw [bank_hits] at h
  replace hs0 := hs0.mono (rdLe_frozen M) (fun _ _ => rep72_mo (rdLe_frozen M))
  replace hs1 := hs1.mono (rdLe_frozen M) (fun _ _ h => h)
  have hH := Has.nil (frozen M)
  have hH0 : Has (ro (frozen M)) (frozen M) (([] : List Ent) ++ (dsE [] ++ ([] : List Ent))) := hH
  refine Run.seq (Run.region ?_)
  refine Run.opX wantS_none rfl (ExG.box rfl rfl hH0) ?_
  rintro _ M23 ⟨b22, rfl, hH23⟩
  refine Run.opG wantS_none (ex_assign rfl) rfl ?_
  refine Run.opsEnd (Run.seq (Run.region ?_))
  refine Run.opX wantS_none rfl (ExG.new (v := fun b => .ptr b 0) (ex_alloc zer50) hH23) ?_
  rintro _ M26 ⟨b25, rfl, hH26⟩
  refine Run.opsEnd (Run.seq (Run.seq (Run.region ?_)))
  refine Run.opG wantS_none (ex_move rfl) rfl ?_
  refine Run.opG wantS_none (ex_len' rfl hs0 lenk99) rfl ?_
  refine Run.opG wantS_none (ex_move rfl) rfl ?_
  refine Run.opsEnd (Run.block (Run.loop ?_))
  have hH28 : Has (ro (frozen M)) M26 (([.vec 54 3 ([] : List S_api_Hit).length .nils (([] : List S_api_Hit).flatMap enc54), .obj b25 (.row 50 .whole [.nils]), .obj b22 (.row 3 .whole [(.int .i64 a2)])] : List Ent) ++ (dsE [] ++ ([] : List Ent))) := hH26.nils 54 3
  exact Run.pick [1, 5, 6, 7, 12, 13, 14] (bank_hits_1_ok F F a1 a0 (a0.length : Int) (0 : Int) a2 ([] : List S_api_Hit) s1 s0 b22 b25 .nils [] _ _ _ hs1 hs0 (hH28.pickT [2, 1, 0] rfl rfl) h)

theorem mkk44 : makeK Tryz.prog 44 = none := by kernel_rfl
theorem cal44 : callable Tryz.prog 44 = true := by kernel_rfl
theorem mkk46 : makeK Tryz.prog 46 = none := by kernel_rfl
theorem cal46 : callable Tryz.prog 46 = true := by kernel_rfl
abbrev bank_Hits_post (r : (List S_api_Hit) × Int) : SV → Mem → Prop := fun s Me => ∃ q1, s = (.tuple [q1, (.int .i64 r.2)]) ∧ Has (fun _ => none) Me [.vec 54 3 r.1.length q1 (r.1.flatMap enc54)]

def bank_Hits_2 (F : Nat) (hd1 : Int → (List S_api_Chirp) → Int → Int → (List Int) → Int → Int → (List (List Int)) → Option ((List S_api_Hit) × Int)) : Nat → Int → Int → Int → (List S_api_Chirp) → Int → Int → (List Int) → Int → Int → S_api_Chirp → (List Int) → (List (List Int)) → Option ((List S_api_Hit) × Int)
  | 0, _, _, _, _, _, _, _, _, _, _, _, _ => none
  | N + 1, v10, v11, v0_f1, v8_f1, v9_f1, v10_f1, v2_f2, v3_f2, v4_f2, c38, l41, l28 =>
    bif (decide (v11 < v10)) then
      bnd (bank_table F (Int.tmod (w64 ((w64 (c38.P * v11)) + (w64 ((w64 (c38.Q * v11)) * v11)))) (64 : Int))) fun r44 =>
      bnd (inA v11 64) fun o46 =>
      bnd (upd l41 (((0 + o46 * 1) : Nat) : Int) r44) fun l47 =>
      (bank_Hits_2 F hd1 N) v10 (w64 (v11 + (1 : Int))) v0_f1 v8_f1 v9_f1 v10_f1 v2_f2 v3_f2 v4_f2 c38 l47 l28
    else
      bnd (bank_wave_samples F l41) fun l50 =>
      bnd (bank_wave_samples F l41) fun l53 =>
      bnd (bank_product F l50 l53) fun r56 =>
      bnd (upd l41 ((65 : Nat) : Int) r56) fun l59 =>
      bnd (apd 8 l28 ([l59] : List (List Int))) fun l70 =>
      hd1 v0_f1 v8_f1 v9_f1 (w64 (v10_f1 + (1 : Int))) v2_f2 v3_f2 v4_f2 l70

theorem bank_Hits_2_ok (F : Nat) (hd1 : Int → (List S_api_Chirp) → Int → Int → (List Int) → Int → Int → (List (List Int)) → Option ((List S_api_Hit) × Int)) (hhd1 : ∀ (v0 : Int) (v8 : (List S_api_Chirp)) (v9 v10 : Int) (v2_f1 : (List Int)) (v3_f1 v4_f1 : Int) (l28 : (List (List Int))) (sv8 sv2_f1 s28 : SV) (r28 : (List SV)) (Fr : Rd) (M : Mem) (r : (List S_api_Hit) × Int) (hv8 : Slc Fr 2 (FlatR enc27) sv8 v8) (hv2_f1 : Slc Fr 1 (FlatR enc3) sv2_f1 v2_f1) (hr28 : Rows (rep72 Fr) 1 r28 l28) (hH : Has Fr M [.vec 72 1 l28.length s28 r28, tb0]), hd1 v0 v8 v9 v10 v2_f1 v3_f1 v4_f1 l28 = some r → Run Tryz.prog ⟨⟨45, [], none⟩, [.mk ⟨17, [], none⟩ 34 (treeOf [(2, sv2_f1), (3, (.int .i64 v3_f1)), (4, (.int .i64 v4_f1))]) [itemC Tryz.prog 17 [1, 1, 0] 2, codeC Tryz.prog 17 [1, 1, 1]]]⟩ 22 (bank_Hits_post r) [(0, (.int .i64 v0)), (5, s28), (8, sv8), (9, (.int .i64 v9)), (10, (.int .i64 v10))] [codeC Tryz.prog 45 [1, 1, 0, 1, 0, 0], loopC Tryz.prog 45 [1, 1, 0, 1, 0, 0], .inBlock 0, codeC Tryz.prog 45 [1, 1, 1]] M) : ∀ (N : Nat), ∀ (v10 v11 v0_f1 : Int) (v8_f1 : (List S_api_Chirp)) (v9_f1 v10_f1 : Int) (v2_f2 : (List Int)) (v3_f2 v4_f2 : Int) (c38 : S_api_Chirp) (l41 : (List Int)) (l28 : (List (List Int))) (sv8_f1 sv2_f2 : SV) (b38 b41 : Pos) (s28 : SV) (r28 : (List SV)) (Fr : Rd) (M : Mem) (r : (List S_api_Hit) × Int) (hv8_f1 : Slc Fr 2 (FlatR enc27) sv8_f1 v8_f1) (hv2_f2 : Slc Fr 1 (FlatR enc3) sv2_f2 v2_f2) (hr28 : Rows (rep72 Fr) 1 r28 l28) (hH : Has Fr M [.obj b38 (.row 27 .whole [(.int .i64 c38.P), (.int .i64 c38.Q)]), .obj b41 (.row 105 .whole (l41.flatMap enc3)), .vec 72 1 l28.length s28 r28, tb0]), bank_Hits_2 F hd1 N v10 v11 v0_f1 v8_f1 v9_f1 v10_f1 v2_f2 v3_f2 v4_f2 c38 l41 l28 = some r → Run Tryz.prog ⟨⟨26, [], none⟩, [.mk ⟨45, [], none⟩ 22 (treeOf [(0, (.int .i64 v0_f1)), (8, sv8_f1), (9, (.int .i64 v9_f1)), (10, (.int .i64 v10_f1)), (14, s28)]) [itemC Tryz.prog 45 [1, 1, 0, 1, 0, 0, 1, 1, 0, 0, 1] 3, .inBlock 1, codeC Tryz.prog 45 [1, 1, 0, 1, 0, 0, 1, 1, 1], loopC Tryz.prog 45 [1, 1, 0, 1, 0, 0], .inBlock 0, codeC Tryz.prog 45 [1, 1, 1]], .mk ⟨17, [], none⟩ 34 (treeOf [(2, sv2_f2), (3, (.int .i64 v3_f2)), (4, (.int .i64 v4_f2))]) [itemC Tryz.prog 17 [1, 1, 0] 2, codeC Tryz.prog 17 [1, 1, 1]]]⟩ 42 (bank_Hits_post r) [(3, (.ptr b38 0)), (5, (.ptr b41 0)), (10, (.int .i64 v10)), (11, (.int .i64 v11))] [codeC Tryz.prog 26 [1, 1, 0, 1, 0, 0], loopC Tryz.prog 26 [1, 1, 0, 1, 0, 0], .inBlock 0, codeC Tryz.prog 26 [1, 1, 1]] M := by
  intro N
  induction N with
  | zero =>
    intro v10 v11 v0_f1 v8_f1 v9_f1 v10_f1 v2_f2 v3_f2 v4_f2 c38 l41 l28 sv8_f1 sv2_f2 b38 b41 s28 r28 Fr M r hv8_f1 hv2_f2 hr28 hH h
    simp [bank_Hits_2] at h
  | succ N ih =>
    intro v10 v11 v0_f1 v8_f1 v9_f1 v10_f1 v2_f2 v3_f2 v4_f2 c38 l41 l28 sv8_f1 sv2_f2 b38 b41 s28 r28 Fr M r hv8_f1 hv2_f2 hr28 hH h
    rw [bank_Hits_2] at h
    refine Run.seq (Run.region ?_)
    refine Run.opG wantS_none (ex_lss rfl rfl) rfl ?_
    refine Run.opsEnd (Run.seq ?_)
    rcases btf ((decide (v11 < v10))) with hc43 | hc43
    · have h := bif_t hc43 h
      refine Run.condT' rfl hc43 ?_
      refine Run.skip (Run.seq (Run.block (Run.seq (Run.region ?_))))
      refine Run.opG wantS_none (ex_move rfl) rfl ?_
      refine Run.opG wantS_none (ex_assign rfl) rfl ?_
      refine Run.opsEnd ?_
      refine Run.drawG plan26_1_1_0_1_0_0_1_1_0_0_1 ?_
      refine DrawG.fl rfl (ev_ex wantS_none (ex_move rfl)) rfl ?_
      refine DrawG.fl rfl (ev_ex wantS_none (ex_move rfl)) rfl ?_
      refine DrawG.fl rfl (ev_ex wantS_none (ex_fieldAddr rfl off27_0)) rfl ?_
      refine DrawG.fl rfl (ev_ex wantS_none (ex_load1 rfl (hH.cells (i := 0) rfl 0 rfl) rdLe_rfl agg3)) rfl ?_
      refine DrawG.fl rfl (ev_ex wantS_none (ex_move rfl)) rfl ?_
      refine DrawG.fl rfl (ev_ex wantS_none (ex_mul rfl rfl)) rfl ?_
      refine DrawG.fl rfl (ev_ex wantS_none (ex_fieldAddr rfl off27_1)) rfl ?_
      refine DrawG.fl rfl (ev_ex wantS_none (ex_load1 rfl (hH.cells (i := 0) rfl 1 rfl) rdLe_rfl agg3)) rfl ?_
      refine DrawG.fl rfl (ev_ex wantS_none (ex_move rfl)) rfl ?_
      refine DrawG.fl rfl (ev_ex wantS_none (ex_mul rfl rfl)) rfl ?_
      refine DrawG.fl rfl (ev_ex wantS_none (ex_move rfl)) rfl ?_
      refine DrawG.fl rfl (ev_ex wantS_none (ex_mul rfl rfl)) rfl ?_
      refine DrawG.fl rfl (ev_ex wantS_none (ex_add rfl rfl)) rfl ?_
      refine DrawG.fl rfl (ev_ex wantS_none (ex_rem rfl rfl (by decide))) rfl ?_
      refine DrawG.fl rfl (ev_ex wantS_none (ex_nilP rfl)) rfl ?_
      refine DrawG.fl rfl (ev_ex wantS_none (ex_fieldAddr rfl off105_0)) rfl ?_
      obtain ⟨r44, hr44, h⟩ := bnd_some h
      refine DrawG.callP rfl wantS_none (ex_call rfl mkk72 cal72) rfl (bank_table_ok F (Int.tmod (w64 ((w64 (c38.P * v11)) + (w64 ((w64 (c38.Q * v11)) * v11)))) (64 : Int)) _ _ (fixH hH (List.mem_of_getElem? (i := 3) rfl)) hr44) (st_cons rfl (ev_ex wantS_none (ex_fieldAddr rfl off105_0)) rfl rfl rfl (st_cons rfl (ev_ex wantS_none (ex_nilP rfl)) rfl rfl rfl (st_cons rfl (ev_ex wantS_none (ex_move rfl)) rfl rfl rfl (st_cons rfl (ev_ex wantS_none (ex_move rfl)) rfl rfl rfl st_nil)))) ?_
      obtain ⟨o46, ho46, h⟩ := bnd_some h
      refine DrawG.fl rfl (ev_ex wantS_none (ex_elX rfl rfl (arr_place (inA_natIn ho46) els103))) rfl ?_
      obtain ⟨l47, hl47, h⟩ := bnd_some h
      refine DrawG.opX rfl wantS_none rfl (ExG.storeA rfl rfl hH (i := 1) rfl hl47 sz3 rfl enc3_len enc3_ones) ?_
      rintro _ M48 ⟨rfl, (hH48 : Has Fr M48 [.obj b38 (.row 27 .whole [(.int .i64 c38.P), (.int .i64 c38.Q)]), .obj b41 (.row 105 .whole (l47.flatMap enc3)), .vec 72 1 l28.length s28 r28, tb0])⟩
      refine ⟨st_nil, ?_⟩
      refine DrawG.sync ?_
      refine DrawG.nil ?_
      refine Run.inBlock (Run.region ?_)
      refine Run.opG wantS_none (ex_add rfl rfl) rfl ?_
      refine Run.opG wantS_none (ex_move rfl) rfl ?_
      refine Run.opsEnd (Run.inLoop ?_)
      exact Run.low (.cons (fle_pick [0, 8, 9, 10, 14] rfl) (.cons (fle_pick [2, 3, 4] rfl) .nil)) (Run.pick [3, 5, 10, 11] (ih v10 (w64 (v11 + (1 : Int))) v0_f1 v8_f1 v9_f1 v10_f1 v2_f2 v3_f2 v4_f2 c38 l47 l28 sv8_f1 sv2_f2 b38 b41 s28 r28 _ _ _ hv8_f1 hv2_f2 hr28 hH48 h))
    · have h := bif_f hc43 h
      refine Run.condF' rfl hc43 ?_
      refine Run.exit rfl (Run.seq (Run.region ?_))
      refine Run.opG wantS_none (ex_move rfl) rfl ?_
      refine Run.opG wantS_none (ex_move rfl) rfl ?_
      obtain ⟨l50, hl50, h⟩ := bnd_some h
      have hs50 := bank_wave_samples_slc F hH (i := 1) rfl hl50
      refine Run.callP wantS_none (ex_call rfl mkk27 cal27) rfl (bank_wave_samples_ok F hH (i := 1) rfl hl50) ?_
      refine Run.opG wantS_none (ex_move rfl) rfl ?_
      obtain ⟨l53, hl53, h⟩ := bnd_some h
      have hs53 := bank_wave_samples_slc F hH (i := 1) rfl hl53
      refine Run.callP wantS_none (ex_call rfl mkk27 cal27) rfl (bank_wave_samples_ok F hH (i := 1) rfl hl53) ?_
      obtain ⟨r56, hr56, h⟩ := bnd_some h
      refine Run.callP wantS_none (ex_call rfl mkk73 cal73) rfl (bank_product_ok F l50 l53 (.slice b41 0 l50.length 64) (.slice b41 0 l53.length 64) _ _ hs50 hs53 hr56) ?_
      refine Run.opG wantS_none (ex_nilP rfl) rfl ?_
      refine Run.opG wantS_none (ex_fieldAddr rfl off105_2) rfl ?_
      obtain ⟨l59, hl59, h⟩ := bnd_some h
      refine Run.opX wantS_none rfl (ExG.storeA rfl rfl hH (i := 1) rfl hl59 sz3 rfl enc3_len enc3_ones) ?_
      rintro _ M60 ⟨rfl, (hH60 : Has Fr M60 [.obj b38 (.row 27 .whole [(.int .i64 c38.P), (.int .i64 c38.Q)]), .obj b41 (.row 105 .whole (l59.flatMap enc3)), .vec 72 1 l28.length s28 r28, tb0])⟩
      refine Run.opsEnd (Run.seq (Run.region ?_))
      refine Run.opG wantS_none (ex_move rfl) rfl ?_
      refine Run.opG wantS_none (ex_assign rfl) rfl ?_
      refine Run.opsEnd ?_
      refine Run.retTo Tryz.func26 rfl (res_tmp rfl res_nil) rfl ?_
      refine Run.freezeO (t := 17) (i := 1) rfl hH60 rfl ?_
      intro F63 M63 hle63 (hH63 : Has F63 M63 [.obj b38 (.row 27 .whole [(.int .i64 c38.P), (.int .i64 c38.Q)]), .vec 0 0 0 .nils [], .vec 72 1 l28.length s28 r28, tb0]) hp63
      have hf63 := rop_of hp63
      replace hv2_f2 := hv2_f2.mono hle63 (fun _ _ h => h)
      replace hv8_f1 := hv8_f1.mono hle63 (fun _ _ h => h)
      replace hr28 := hr28.mono fun _ _ => rep72_mo hle63
      have hr66 : Rows (rep72 F63) 1 [(.ptr b41 0)] ([l59] : List (List Int)) := (Rows.cons (cs := [(.ptr b41 0)]) rfl ⟨(.ptr b41 0), rfl, hf63⟩ Rows.nil)
      refine Run.opX wantS_none rfl (ExG.builtR (z := 1) (c := [(.ptr b41 0)]) rfl elt99 rfl rfl rfl hH63) ?_
      rintro s66 M67 (hH67 : Has F63 M67 [.vec 72 1 ([l59] : List (List Int)).length s66 [(.ptr b41 0)], .obj b38 (.row 27 .whole [(.int .i64 c38.P), (.int .i64 c38.Q)]), .vec 0 0 0 .nils [], .vec 72 1 l28.length s28 r28, tb0])
      obtain ⟨l70, hl70, h⟩ := bnd_some h
      refine Run.opX wantS_none rfl (ExG.appendQ (R := (rep72 F63)) rfl rfl hH67 (i := 3) rfl hr28 (fun _ _ => rep72_ones) rfl appt99_99 rfl (hH67.slcR (i := 0) rfl hr66) (rdLe_rdRow _) hl70) ?_
      rintro s70 M72 ⟨r70, hr70, (hH72 : Has F63 M72 [.vec 72 1 ([l59] : List (List Int)).length s66 [(.ptr b41 0)], .obj b38 (.row 27 .whole [(.int .i64 c38.P), (.int .i64 c38.Q)]), .vec 0 0 0 .nils [], .vec 72 1 l70.length s70 r70, tb0])⟩
      refine Run.opG wantS_none (ex_assign rfl) rfl ?_
      refine Run.opsEnd (Run.inBlock (Run.region ?_))
      refine Run.opG wantS_none (ex_add rfl rfl) rfl ?_
      refine Run.opG wantS_none (ex_move rfl) rfl ?_
      refine Run.opsEnd (Run.inLoop ?_)
      exact Run.low (.cons (fle_pick [2, 3, 4] rfl) .nil) (Run.pick [0, 5, 8, 9, 10] (hhd1 v0_f1 v8_f1 v9_f1 (w64 (v10_f1 + (1 : Int))) v2_f2 v3_f2 v4_f2 l70 sv8_f1 sv2_f2 s70 r70 _ _ _ hv8_f1 hv2_f2 hr70 (hH72.pick [3, 4] rfl rfl) h))

def bank_Hits_1 (F : Nat) : Nat → Int → (List S_api_Chirp) → Int → Int → (List Int) → Int → Int → (List (List Int)) → Option ((List S_api_Hit) × Int)
  | 0, _, _, _, _, _, _, _, _ => none
  | N + 1, v0, v8, v9, v10, v2_f1, v3_f1, v4_f1, l28 =>
    bif (decide (v10 < v9)) then
      bnd (idx v8 v10) fun x32 =>
      bank_Hits_2 F (bank_Hits_1 F N) F v0 (0 : Int) v0 v8 v9 v10 v2_f1 v3_f1 v4_f1 x32 ([0, 0, 0, 0, 0, 0, 0, 0, 0, 0, 0, 0, 0, 0, 0, 0, 0, 0, 0, 0, 0, 0, 0, 0, 0, 0, 0, 0, 0, 0, 0, 0, 0, 0, 0, 0, 0, 0, 0, 0, 0, 0, 0, 0, 0, 0, 0, 0, 0, 0, 0, 0, 0, 0, 0, 0, 0, 0, 0, 0, 0, 0, 0, 0, v0, 0] : List Int) l28
    else
      bnd (bank_hits F l28 v2_f1 (w64 (v4_f1 * v3_f1))) fun r75 =>
      bnd (sortCP (fun x y => orI (Lib.compareInt x.Time y.Time) (Lib.compareInt x.Chirp y.Chirp)) r75) fun l79 =>
      some (l79, (0 : Int))

theorem bank_Hits_1_ok (F : Nat) : ∀ (N : Nat), ∀ (v0 : Int) (v8 : (List S_api_Chirp)) (v9 v10 : Int) (v2_f1 : (List Int)) (v3_f1 v4_f1 : Int) (l28 : (List (List Int))) (sv8 sv2_f1 s28 : SV) (r28 : (List SV)) (Fr : Rd) (M : Mem) (r : (List S_api_Hit) × Int) (hv8 : Slc Fr 2 (FlatR enc27) sv8 v8) (hv2_f1 : Slc Fr 1 (FlatR enc3) sv2_f1 v2_f1) (hr28 : Rows (rep72 Fr) 1 r28 l28) (hH : Has Fr M [.vec 72 1 l28.length s28 r28, tb0]), bank_Hits_1 F N v0 v8 v9 v10 v2_f1 v3_f1 v4_f1 l28 = some r → Run Tryz.prog ⟨⟨45, [], none⟩, [.mk ⟨17, [], none⟩ 34 (treeOf [(2, sv2_f1), (3, (.int .i64 v3_f1)), (4, (.int .i64 v4_f1))]) [itemC Tryz.prog 17 [1, 1, 0] 2, codeC Tryz.prog 17 [1, 1, 1]]]⟩ 22 (bank_Hits_post r) [(0, (.int .i64 v0)), (5, s28), (8, sv8), (9, (.int .i64 v9)), (10, (.int .i64 v10))] [codeC Tryz.prog 45 [1, 1, 0, 1, 0, 0], loopC Tryz.prog 45 [1, 1, 0, 1, 0, 0], .inBlock 0, codeC Tryz.prog 45 [1, 1, 1]] M := by
  intro N
  induction N with
  | zero =>
    intro v0 v8 v9 v10 v2_f1 v3_f1 v4_f1 l28 sv8 sv2_f1 s28 r28 Fr M r hv8 hv2_f1 hr28 hH h
    simp [bank_Hits_1] at h
  | succ N ih =>
    intro v0 v8 v9 v10 v2_f1 v3_f1 v4_f1 l28 sv8 sv2_f1 s28 r28 Fr M r hv8 hv2_f1 hr28 hH h
    rw [bank_Hits_1] at h
    refine Run.seq (Run.region ?_)
    refine Run.opG wantS_none (ex_lss rfl rfl) rfl ?_
    refine Run.opsEnd (Run.seq ?_)
    rcases btf ((decide (v10 < v9))) with hc30 | hc30
    · have h := bif_t hc30 h
      refine Run.condT' rfl hc30 ?_
      refine Run.skip (Run.seq (Run.block (Run.seq (Run.region ?_))))
      obtain ⟨x32, hx32, h⟩ := bnd_some h
      obtain ⟨p32, o32, _, hx32, hp32, rfl⟩ := sl_elem (P := Tryz.prog) (t := 43) (kk := .i64) hv8 hx32 els43
      refine Run.opG wantS_none (ex_elX rfl rfl hx32) rfl ?_
      refine Run.opG wantS_none (ex_loadA rfl (hH.ptrF hp32) rdLe_rfl agg27 rfl rfl rfl) rfl ?_
      refine Run.opX wantS_none rfl (ExG.new (v := fun b => .ptr b 0) (ex_alloc zer27) hH) ?_
      rintro _ M35 ⟨b34, rfl, hH35⟩
      refine Run.opX wantS_none rfl (ExG.storeC (c' := [(.int .i64 x32.P), (.int .i64 x32.Q)]) rfl rfl rfl hH35 (i := 0) rfl sz27 rfl rfl rfl rfl rfl) ?_
      rintro _ M36 ⟨rfl, (hH36 : Has Fr M36 [.obj b34 (.row 27 .whole [(.int .i64 x32.P), (.int .i64 x32.Q)]), .vec 72 1 l28.length s28 r28, tb0])⟩
      refine Run.opsEnd (Run.region ?_)
      refine Run.opG wantS_none (ex_move rfl) rfl ?_
      refine Run.opG wantS_none (ex_move rfl) rfl ?_
      refine Run.opG wantS_none (ex_loadA rfl (hH36.cells (i := 0) rfl 0 rfl) rdLe_rfl agg27 rfl rfl rfl) rfl ?_
      refine Run.enter wantS_none (ex_call rfl mkk26 cal26) Tryz.func26 rfl rfl ?_
      refine Run.seq (Run.region ?_)
      refine Run.opX wantS_none rfl (ExG.box rfl rfl hH36) ?_
      rintro _ M39 ⟨b38, rfl, hH39⟩
      refine Run.opG wantS_none (ex_assign rfl) rfl ?_
      refine Run.opsEnd (Run.seq (Run.region ?_))
      refine Run.opG wantS_none (ex_move rfl) rfl ?_
      refine Run.opG wantS_none (ex_build (r := [(.int .i64 0), (.int .i64 0), (.int .i64 0), (.int .i64 0), (.int .i64 0), (.int .i64 0), (.int .i64 0), (.int .i64 0), (.int .i64 0), (.int .i64 0), (.int .i64 0), (.int .i64 0), (.int .i64 0), (.int .i64 0), (.int .i64 0), (.int .i64 0), (.int .i64 0), (.int .i64 0), (.int .i64 0), (.int .i64 0), (.int .i64 0), (.int .i64 0), (.int .i64 0), (.int .i64 0), (.int .i64 0), (.int .i64 0), (.int .i64 0), (.int .i64 0), (.int .i64 0), (.int .i64 0), (.int .i64 0), (.int .i64 0), (.int .i64 0), (.int .i64 0), (.int .i64 0), (.int .i64 0), (.int .i64 0), (.int .i64 0), (.int .i64 0), (.int .i64 0), (.int .i64 0), (.int .i64 0), (.int .i64 0), (.int .i64 0), (.int .i64 0), (.int .i64 0), (.int .i64 0), (.int .i64 0), (.int .i64 0), (.int .i64 0), (.int .i64 0), (.int .i64 0), (.int .i64 0), (.int .i64 0), (.int .i64 0), (.int .i64 0), (.int .i64 0), (.int .i64 0), (.int .i64 0), (.int .i64 0), (.int .i64 0), (.int .i64 0), (.int .i64 0), (.int .i64 0), (.int .i64 v0), (.int .i64 0)]) rfl zer105 pls105 rfl) rfl ?_
      refine Run.opX wantS_none rfl (ExG.box (c := ([0, 0, 0, 0, 0, 0, 0, 0, 0, 0, 0, 0, 0, 0, 0, 0, 0, 0, 0, 0, 0, 0, 0, 0, 0, 0, 0, 0, 0, 0, 0, 0, 0, 0, 0, 0, 0, 0, 0, 0, 0, 0, 0, 0, 0, 0, 0, 0, 0, 0, 0, 0, 0, 0, 0, 0, 0, 0, 0, 0, 0, 0, 0, 0, v0, 0] : List Int).flatMap enc3) rfl rfl hH39) ?_
      rintro _ M42 ⟨b41, rfl, hH42⟩
      refine Run.opG wantS_none (ex_assign rfl) rfl ?_
      refine Run.opsEnd (Run.seq (Run.seq (Run.region ?_)))
      refine Run.opG wantS_none (ex_move rfl) rfl ?_
      refine Run.opG wantS_none (ex_move rfl) rfl ?_
      refine Run.opsEnd (Run.block (Run.loop ?_))
      exact Run.low (.cons (fle_pick [0, 8, 9, 10, 14] rfl) (.cons (fle_pick [2, 3, 4] rfl) .nil)) (Run.pick [3, 5, 10, 11] (bank_Hits_2_ok F (bank_Hits_1 F N) ih F v0 (0 : Int) v0 v8 v9 v10 v2_f1 v3_f1 v4_f1 x32 ([0, 0, 0, 0, 0, 0, 0, 0, 0, 0, 0, 0, 0, 0, 0, 0, 0, 0, 0, 0, 0, 0, 0, 0, 0, 0, 0, 0, 0, 0, 0, 0, 0, 0, 0, 0, 0, 0, 0, 0, 0, 0, 0, 0, 0, 0, 0, 0, 0, 0, 0, 0, 0, 0, 0, 0, 0, 0, 0, 0, 0, 0, 0, 0, v0, 0] : List Int) l28 sv8 sv2_f1 b38 b41 s28 r28 _ _ _ hv8 hv2_f1 hr28 (hH42.pick [1, 0, 3, 4] rfl rfl) h))
    · have h := bif_f hc30 h
      refine Run.condF' rfl hc30 ?_
      refine Run.exit rfl (Run.seq (Run.region ?_))
      refine Run.opG wantS_none (ex_move rfl) rfl ?_
      refine Run.opG wantS_none (ex_assign rfl) rfl ?_
      refine Run.opsEnd ?_
      refine Run.retTo Tryz.func45 rfl (res_tmp rfl res_nil) rfl ?_
      refine Run.opG wantS_none (ex_move rfl) rfl ?_
      refine Run.opG wantS_none (ex_move rfl) rfl ?_
      refine Run.opG wantS_none (ex_move rfl) rfl ?_
      refine Run.opG wantS_none (ex_mul rfl rfl) rfl ?_
      obtain ⟨r75, hr75, h⟩ := bnd_some h
      refine Run.callX wantS_none (ex_call rfl mkk44 cal44) rfl (bank_hits_ok F l28 v2_f1 (w64 (v4_f1 * v3_f1)) s28 sv2_f1 _ _ (((hH.slcR (i := 0) rfl hr28)).mono (fun _ _ h => h) (fun _ _ => rep72_mo hH.le)) (hH.slcF hv2_f1) hr75) ?_
      rintro s75_0 M77 ⟨_, rfl, hN75⟩
      have hH77 : Has Fr M77 [.vec 54 3 r75.length s75_0 (r75.flatMap enc54), .vec 72 1 l28.length s28 r28, tb0] := hN75.1 _ _ hH
      refine Run.opG wantS_none (ex_assign rfl) rfl ?_
      refine Run.opsEnd (Run.seq (Run.region ?_))
      refine Run.opG wantS_none (ex_move rfl) rfl ?_
      obtain ⟨l79, hl79, h⟩ := bnd_some h
      refine Run.callX wantS_none (ex_call rfl mkk46 cal46) rfl ((sort46 enc54 (fun a => a.Time) (fun a => a.Chirp) (fun a => a.Out) (fun _ => rfl)).callsC hH77 (i := 0) rfl hl79) ?_
      rintro _ M80 ⟨rfl, (hH80 : Has Fr M80 [.vec 54 3 l79.length s75_0 (l79.flatMap enc54), .vec 72 1 l28.length s28 r28, tb0])⟩
      refine Run.opsEnd (Run.seq (Run.region ?_))
      refine Run.opG wantS_none (ex_move rfl) rfl ?_
      refine Run.opG wantS_none (ex_assign rfl) rfl ?_
      refine Run.opG wantS_none (ex_assign rfl) rfl ?_
      refine Run.opsEnd ?_
      cases h
      exact Run.ret Tryz.func17 rfl (res_tmp rfl (res_tmp rfl res_nil)) ⟨_, rfl, (hH80.pick [0] rfl rfl).upF (none_le _)⟩

def bank_Hits (F : Nat) (a0 : Int) (a1 : (List S_api_Chirp)) (a2 : (List Int)) (a3 a4 : Int) : Option ((List S_api_Hit) × Int) :=
  bnd (bank_checkHits F a0 a1 a2 a3 a4) fun r23 =>
  bif (!(r23 == (0 : Int))) then
    some (([] : List S_api_Hit), r23)
  else
    bank_Hits_1 F F a0 a1 (a1.length : Int) (0 : Int) a2 a3 a4 ([] : List (List Int))

theorem bank_Hits_ok (F : Nat) (a0 : Int) (a1 : (List S_api_Chirp)) (a2 : (List Int)) (a3 a4 : Int) (s0 s1 : SV) (r : (List S_api_Hit) × Int) (M : Mem) (hs0 : Slc (rd M) 2 (FlatR enc27) s0 a1) (hs1 : Slc (rd M) 1 (FlatR enc3) s1 a2) (hfx : FixIn M fixes) (h : bank_Hits F a0 a1 a2 a3 a4 = some r) : CallsM Tryz.prog 17 [(.int .i64 a0), s0, s1, (.int .i64 a3), (.int .i64 a4)] M (fun s M' => ∃ q1, s = (.tuple [q1, (.int .i64 r.2)]) ∧ New M M' [.vec 54 3 r.1.length q1 (r.1.flatMap enc54)]) := by
  refine CallsM.fresh (Q := bank_Hits_post r) Tryz.func17 rfl rfl ?_ (by rintro s Me ⟨q1, rfl, hx⟩ ha hw; exact ⟨_, rfl, New.of rfl hx ha hw⟩)
  rw [bank_Hits] at h
  replace hs0 := hs0.mono (rdLe_frozen M) (fun _ _ h => h)
  replace hs1 := hs1.mono (rdLe_frozen M) (fun _ _ h => h)
  have hH : Has (ro (frozen M)) (frozen M) [tb0] := Has.ofFix hfx.frozen
  refine Run.seq (Run.region ?_)
  refine Run.opG wantS_none (ex_assign rfl) rfl ?_
  refine Run.opG wantS_none (ex_assign rfl) rfl ?_
  refine Run.opsEnd (Run.seq (Run.seq (Run.region ?_)))
  refine Run.opG wantS_none (ex_move rfl) rfl ?_
  refine Run.opG wantS_none (ex_move rfl) rfl ?_
  refine Run.opG wantS_none (ex_move rfl) rfl ?_
  refine Run.opG wantS_none (ex_move rfl) rfl ?_
  refine Run.opG wantS_none (ex_move rfl) rfl ?_
  obtain ⟨r23, hr23, h⟩ := bnd_some h
  refine Run.callP wantS_none (ex_call rfl mkk43 cal43) rfl (bank_checkHits_ok F a0 a1 a2 a3 a4 s0 s1 _ _ (hH.slcF hs0) (hH.slcF hs1) (fixH hH (List.mem_of_getElem? (i := 0) rfl)) hr23) ?_
  refine Run.opG wantS_none (ex_assign rfl) rfl ?_
  refine Run.opsEnd (Run.seq (Run.region ?_))
  refine Run.opG wantS_none (ex_move rfl) rfl ?_
  refine Run.opG wantS_none (ex_neq rfl rfl) rfl ?_
  refine Run.opsEnd ?_
  rcases btf ((!(r23 == (0 : Int)))) with hc25 | hc25
  · have h := bif_t hc25 h
    refine Run.condT' rfl hc25 ?_
    refine Run.seq (Run.region ?_)
    refine Run.opG wantS_none (ex_move rfl) rfl ?_
    refine Run.opG wantS_none (ex_assign rfl) rfl ?_
    refine Run.opG wantS_none (ex_assign rfl) rfl ?_
    refine Run.opsEnd ?_
    have hH27 : Has (ro (frozen M)) (frozen M) [.vec 54 3 ([] : List S_api_Hit).length .nils (([] : List S_api_Hit).flatMap enc54), tb0] := hH.nils 54 3
    cases h
    exact Run.ret Tryz.func17 rfl (res_tmp rfl (res_tmp rfl res_nil)) ⟨_, rfl, (hH27.pick [0] rfl rfl).upF (none_le _)⟩
  · have h := bif_f hc25 h
    refine Run.condF' rfl hc25 ?_
    refine Run.skip (Run.seq (Run.region ?_))
    refine Run.opG wantS_none (ex_move rfl) rfl ?_
    refine Run.opG wantS_none (ex_move rfl) rfl ?_
    refine Run.enter wantS_none (ex_call rfl mkk45 cal45) Tryz.func45 rfl rfl ?_
    refine Run.seq (Run.region ?_)
    refine Run.opG wantS_none (ex_assign rfl) rfl ?_
    refine Run.opsEnd (Run.seq (Run.region ?_))
    refine Run.opG wantS_none (ex_assign rfl) rfl ?_
    refine Run.opsEnd (Run.seq (Run.seq (Run.region ?_)))
    refine Run.opG wantS_none (ex_move rfl) rfl ?_
    refine Run.opG wantS_none (ex_len' rfl hs0 lenk43) rfl ?_
    refine Run.opG wantS_none (ex_move rfl) rfl ?_
    refine Run.opsEnd (Run.block (Run.loop ?_))
    have hH29 : Has (ro (frozen M)) (frozen M) [.vec 72 1 ([] : List (List Int)).length .nils [], tb0] := hH.nils 72 1
    exact Run.low (.cons (fle_pick [2, 3, 4] rfl) .nil) (Run.pick [0, 5, 8, 9, 10] (bank_Hits_1_ok F F a0 a1 (a1.length : Int) (0 : Int) a2 a3 a4 ([] : List (List Int)) s0 s1 .nils [] _ _ _ hs0 hs1 Rows.nil hH29 h))

theorem mkk17 : makeK Tryz.prog 17 = none := by kernel_rfl
theorem cal17 : callable Tryz.prog 17 = true := by kernel_rfl
theorem lenk50 : lenK Tryz.prog 50 = some .sl := by kernel_rfl
theorem els50 : elems Tryz.prog 50 = some (.sl 3) := by kernel_rfl
theorem off54_0 : fieldOff Tryz.prog 54 0 = some 0 := by kernel_rfl
theorem zer63 : zerosOf Tryz.prog 63 = some [(.int .i64 0), (.int .i64 0), (.int .i64 0)] := by kernel_rfl
theorem pls63 : placesOf Tryz.prog 63 = some (.st [(0, 1), (1, 1), (2, 1)]) := by kernel_rfl
structure S_api_Trigger where
  Time : Int
  Loud : Int
  Template : Int

def enc63 (a : S_api_Trigger) : List SV := [(.int .i64 a.Time), (.int .i64 a.Loud), (.int .i64 a.Template)]
theorem enc63_len (a : S_api_Trigger) : (enc63 a).length = 3 := rfl
theorem enc63_ones (a : S_api_Trigger) : ones (enc63 a) = true := rfl
theorem elt61 : sliceElt Tryz.prog 61 = some (⟨3, 24, [(.int .i64 0), (.int .i64 0), (.int .i64 0)], 63⟩ : Elt) := by kernel_rfl
theorem appt61_61 : appT Tryz.prog 61 61 = some (⟨3, 24, [(.int .i64 0), (.int .i64 0), (.int .i64 0)], 63⟩ : Elt) := by kernel_rfl
def enc4 (a : Bool) : List SV := [(.bool a)]
theorem enc4_len (a : Bool) : (enc4 a).length = 1 := rfl
theorem enc4_ones (a : Bool) : ones (enc4 a) = true := rfl
def rep61 (f : Rd) (cs : List SV) (a : (List S_api_Trigger)) : Prop := ∃ q1, cs = [q1] ∧ Slc f 3 (FlatR enc63) q1 a
theorem rep61_mo {f g : Rd} (h : RdLe f g) {cs : List SV} {a : (List S_api_Trigger)} : rep61 f cs a → rep61 g cs a := by
  rintro ⟨q1, rfl, h0⟩
  exact ⟨q1, rfl, h0.mono h (fun _ _ h => h)⟩
theorem rep61_len {f : Rd} {cs : List SV} {a : (List S_api_Trigger)} : rep61 f cs a → cs.length = 1 := by
  rintro ⟨_, rfl, h0⟩
  rfl
theorem rep61_ones {f : Rd} {cs : List SV} {a : (List S_api_Trigger)} : rep61 f cs a → ones cs = true := by
  rintro ⟨_, rfl, h0⟩
  exact (ones_cons (slc_one h0) ones_nil)
theorem elt187 : sliceElt Tryz.prog 187 = some (⟨1, 24, [.nils], 61⟩ : Elt) := by kernel_rfl
theorem lenk187 : lenK Tryz.prog 187 = some .sl := by kernel_rfl
theorem els187 : elems Tryz.prog 187 = some (.sl 1) := by kernel_rfl
theorem agg61 : aggSize Tryz.prog 61 = some none := by kernel_rfl
theorem lenk61 : lenK Tryz.prog 61 = some .sl := by kernel_rfl
theorem els61 : elems Tryz.prog 61 = some (.sl 3) := by kernel_rfl
theorem agg63 : aggSize Tryz.prog 63 = some (some 3) := by kernel_rfl
theorem sz63 : szOf Tryz.prog 63 = some 3 := by kernel_rfl
theorem off63_0 : fieldOff Tryz.prog 63 0 = some 0 := by kernel_rfl
theorem off63_2 : fieldOff Tryz.prog 63 2 = some 2 := by kernel_rfl
theorem off63_1 : fieldOff Tryz.prog 63 1 = some 1 := by kernel_rfl
abbrev search_areTriggers_post (r : Bool) : SV → Mem → Prop := fun s _ => s = (.bool r)

def search_areTriggers_3 (F : Nat) (hd1 : Int → (List S_api_Trigger) → Int → Int → Option (Bool)) (v9 : (List S_api_Trigger)) (v10 v11 : Int) (v32 : Bool) (c26 : S_api_Trigger) : Option (Bool) :=
  bif v32 then
    some false
  else
    hd1 c26.Time v9 v10 (w64 (v11 + (1 : Int)))

theorem search_areTriggers_3_ok (F : Nat) (hd1 : Int → (List S_api_Trigger) → Int → Int → Option (Bool)) (hhd1 : ∀ (v3 : Int) (v9 : (List S_api_Trigger)) (v10 v11 : Int) (sv9 : SV) (Fr : Rd) (M : Mem) (r : Bool) (hv9 : Slc Fr 3 (FlatR enc63) sv9 v9) (hH : Has Fr M []), hd1 v3 v9 v10 v11 = some r → Run Tryz.prog ⟨⟨114, [], none⟩, []⟩ 36 (search_areTriggers_post r) [(3, (.int .i64 v3)), (9, sv9), (10, (.int .i64 v10)), (11, (.int .i64 v11))] [codeC Tryz.prog 114 [1, 1, 1, 0, 1, 0, 0], loopC Tryz.prog 114 [1, 1, 1, 0, 1, 0, 0], .inBlock 0, codeC Tryz.prog 114 [1, 1, 1, 1]] M) : ∀ (v9 : (List S_api_Trigger)) (v10 v11 : Int) (v32 : Bool) (c26 : S_api_Trigger) (sv9 : SV) (b26 : Pos) (Fr : Rd) (M : Mem) (r : Bool) (hv9 : Slc Fr 3 (FlatR enc63) sv9 v9) (hH : Has Fr M [.obj b26 (.row 63 .whole [(.int .i64 c26.Time), (.int .i64 c26.Loud), (.int .i64 c26.Template)])]), search_areTriggers_3 F hd1 v9 v10 v11 v32 c26 = some r → Run Tryz.prog ⟨⟨114, [], none⟩, []⟩ 36 (search_areTriggers_post r) [(5, (.ptr b26 0)), (9, sv9), (10, (.int .i64 v10)), (11, (.int .i64 v11)), (32, (.bool v32))] [codeC Tryz.prog 114 [1, 1, 1, 0, 1, 0, 0, 1, 1, 0, 0, 1, 0, 1], codeC Tryz.prog 114 [1, 1, 1, 0, 1, 0, 0, 1, 1, 0, 0, 1, 1], .inBlock 1, codeC Tryz.prog 114 [1, 1, 1, 0, 1, 0, 0, 1, 1, 1], loopC Tryz.prog 114 [1, 1, 1, 0, 1, 0, 0], .inBlock 0, codeC Tryz.prog 114 [1, 1, 1, 1]] M := by
  intro v9 v10 v11 v32 c26 sv9 b26 Fr M r hv9 hH h
  rw [search_areTriggers_3] at h
  rcases btf (v32) with hc34 | hc34
  · have h := bif_t hc34 h
    refine Run.condT' rfl hc34 ?_
    refine Run.seq (Run.region ?_)
    refine Run.opG wantS_none (ex_assign rfl) rfl ?_
    refine Run.opsEnd ?_
    cases h
    exact Run.ret Tryz.func114 rfl (res_tmp rfl res_nil) rfl
  · have h := bif_f hc34 h
    refine Run.condF' rfl hc34 ?_
    refine Run.skip (Run.region ?_)
    refine Run.opG wantS_none (ex_fieldAddr rfl off63_0) rfl ?_
    refine Run.opG wantS_none (ex_load1 rfl (hH.cells (i := 0) rfl 0 rfl) rdLe_rfl agg3) rfl ?_
    refine Run.opG wantS_none (ex_assign rfl) rfl ?_
    refine Run.opsEnd (Run.inBlock (Run.region ?_))
    refine Run.opG wantS_none (ex_add rfl rfl) rfl ?_
    refine Run.opG wantS_none (ex_move rfl) rfl ?_
    refine Run.opsEnd (Run.inLoop ?_)
    exact Run.pick [3, 9, 10, 11] (hhd1 c26.Time v9 v10 (w64 (v11 + (1 : Int))) sv9 _ _ _ hv9 (hH.pick [] rfl rfl) h)

def search_areTriggers_2 (F : Nat) (hd1 : Int → (List S_api_Trigger) → Int → Int → Option (Bool)) (v9 : (List S_api_Trigger)) (v10 v11 : Int) (v26 : Bool) (c26 : S_api_Trigger) : Option (Bool) :=
  bif v26 then
    search_areTriggers_3 F hd1 v9 v10 v11 true c26
  else
    bnd (search_isFrom F (0 : Int) c26.Template (255 : Int)) fun r36 =>
    search_areTriggers_3 F hd1 v9 v10 v11 (!r36) c26

theorem search_areTriggers_2_ok (F : Nat) (hd1 : Int → (List S_api_Trigger) → Int → Int → Option (Bool)) (hhd1 : ∀ (v3 : Int) (v9 : (List S_api_Trigger)) (v10 v11 : Int) (sv9 : SV) (Fr : Rd) (M : Mem) (r : Bool) (hv9 : Slc Fr 3 (FlatR enc63) sv9 v9) (hH : Has Fr M []), hd1 v3 v9 v10 v11 = some r → Run Tryz.prog ⟨⟨114, [], none⟩, []⟩ 36 (search_areTriggers_post r) [(3, (.int .i64 v3)), (9, sv9), (10, (.int .i64 v10)), (11, (.int .i64 v11))] [codeC Tryz.prog 114 [1, 1, 1, 0, 1, 0, 0], loopC Tryz.prog 114 [1, 1, 1, 0, 1, 0, 0], .inBlock 0, codeC Tryz.prog 114 [1, 1, 1, 1]] M) : ∀ (v9 : (List S_api_Trigger)) (v10 v11 : Int) (v26 : Bool) (c26 : S_api_Trigger) (sv9 : SV) (b26 : Pos) (Fr : Rd) (M : Mem) (r : Bool) (hv9 : Slc Fr 3 (FlatR enc63) sv9 v9) (hH : Has Fr M [.obj b26 (.row 63 .whole [(.int .i64 c26.Time), (.int .i64 c26.Loud), (.int .i64 c26.Template)])]), search_areTriggers_2 F hd1 v9 v10 v11 v26 c26 = some r → Run Tryz.prog ⟨⟨114, [], none⟩, []⟩ 36 (search_areTriggers_post r) [(5, (.ptr b26 0)), (9, sv9), (10, (.int .i64 v10)), (11, (.int .i64 v11)), (26, (.bool v26))] [itemC Tryz.prog 114 [1, 1, 1, 0, 1, 0, 0, 1, 1, 0, 0, 1, 0, 0] 12, codeC Tryz.prog 114 [1, 1, 1, 0, 1, 0, 0, 1, 1, 0, 0, 1, 0, 1], codeC Tryz.prog 114 [1, 1, 1, 0, 1, 0, 0, 1, 1, 0, 0, 1, 1], .inBlock 1, codeC Tryz.prog 114 [1, 1, 1, 0, 1, 0, 0, 1, 1, 1], loopC Tryz.prog 114 [1, 1, 1, 0, 1, 0, 0], .inBlock 0, codeC Tryz.prog 114 [1, 1, 1, 1]] M := by
  intro v9 v10 v11 v26 c26 sv9 b26 Fr M r hv9 hH h
  rw [search_areTriggers_2] at h
  refine Run.opG wantS_none (ex_move rfl) rfl ?_
  rcases btf (v26) with hc33 | hc33
  · have h := bif_t hc33 h
    refine Run.no (wantS_not' rfl rfl hc33) rfl ?_
    refine Run.no (wantS_not' rfl rfl hc33) rfl ?_
    refine Run.no (wantS_not' rfl rfl hc33) rfl ?_
    refine Run.no (wantS_not' rfl rfl hc33) rfl ?_
    refine Run.opG wantS_none (ex_pickT' rfl hc33 rfl rfl) rfl ?_
    refine Run.opsEnd ?_
    exact Run.pick [5, 9, 10, 11, 32] (search_areTriggers_3_ok F hd1 hhd1 v9 v10 v11 true c26 sv9 b26 _ _ _ hv9 hH h)
  · have h := bif_f hc33 h
    refine Run.opG (wantS_yes' rfl rfl hc33) (ex_fieldAddr rfl off63_2) rfl ?_
    refine Run.opG (wantS_yes' rfl rfl hc33) (ex_load1 rfl (hH.cells (i := 0) rfl 2 rfl) rdLe_rfl agg3) rfl ?_
    obtain ⟨r36, hr36, h⟩ := bnd_some h
    refine Run.callP (wantS_yes' rfl rfl hc33) (ex_call rfl mkk65 cal65) rfl (search_isFrom_ok F (0 : Int) c26.Template (255 : Int) _ _ hr36) ?_
    refine Run.opG (wantS_yes' rfl rfl hc33) (ex_not rfl) rfl ?_
    refine Run.opG wantS_none (ex_pickF' rfl hc33 rfl rfl) rfl ?_
    refine Run.opsEnd ?_
    exact Run.pick [5, 9, 10, 11, 32] (search_areTriggers_3_ok F hd1 hhd1 v9 v10 v11 (!r36) c26 sv9 b26 _ _ _ hv9 hH h)

def search_areTriggers_1 (F : Nat) : Nat → Int → (List S_api_Trigger) → Int → Int → Option (Bool)
  | 0, _, _, _, _ => none
  | N + 1, v3, v9, v10, v11 =>
    bif (decide (v11 < v10)) then
      bnd (idx v9 v11) fun x24 =>
      bnd (search_isFrom F (w64 (v3 + (1 : Int))) x24.Time (1073741823 : Int)) fun r30 =>
      bif (!r30) then
        search_areTriggers_2 F (search_areTriggers_1 F N) v9 v10 v11 true x24
      else
        bnd (search_isFrom F (0 : Int) x24.Loud (1073741824 : Int)) fun r39 =>
        search_areTriggers_2 F (search_areTriggers_1 F N) v9 v10 v11 (!r39) x24
    else
      some true

theorem search_areTriggers_1_ok (F : Nat) : ∀ (N : Nat), ∀ (v3 : Int) (v9 : (List S_api_Trigger)) (v10 v11 : Int) (sv9 : SV) (Fr : Rd) (M : Mem) (r : Bool) (hv9 : Slc Fr 3 (FlatR enc63) sv9 v9) (hH : Has Fr M []), search_areTriggers_1 F N v3 v9 v10 v11 = some r → Run Tryz.prog ⟨⟨114, [], none⟩, []⟩ 36 (search_areTriggers_post r) [(3, (.int .i64 v3)), (9, sv9), (10, (.int .i64 v10)), (11, (.int .i64 v11))] [codeC Tryz.prog 114 [1, 1, 1, 0, 1, 0, 0], loopC Tryz.prog 114 [1, 1, 1, 0, 1, 0, 0], .inBlock 0, codeC Tryz.prog 114 [1, 1, 1, 1]] M := by
  intro N
  induction N with
  | zero =>
    intro v3 v9 v10 v11 sv9 Fr M r hv9 hH h
    simp [search_areTriggers_1] at h
  | succ N ih =>
    intro v3 v9 v10 v11 sv9 Fr M r hv9 hH h
    rw [search_areTriggers_1] at h
    refine Run.seq (Run.region ?_)
    refine Run.opG wantS_none (ex_lss rfl rfl) rfl ?_
    refine Run.opsEnd (Run.seq ?_)
    rcases btf ((decide (v11 < v10))) with hc22 | hc22
    · have h := bif_t hc22 h
      refine Run.condT' rfl hc22 ?_
      refine Run.skip (Run.seq (Run.block (Run.seq (Run.region ?_))))
      obtain ⟨x24, hx24, h⟩ := bnd_some h
      obtain ⟨p24, o24, _, hx24, hp24, rfl⟩ := sl_elem (P := Tryz.prog) (t := 61) (kk := .i64) hv9 hx24 els61
      refine Run.opG wantS_none (ex_elX rfl rfl hx24) rfl ?_
      refine Run.opG wantS_none (ex_loadA rfl (hH.ptrF hp24) rdLe_rfl agg63 rfl rfl rfl) rfl ?_
      refine Run.opX wantS_none rfl (ExG.new (v := fun b => .ptr b 0) (ex_alloc zer63) hH) ?_
      rintro _ M27 ⟨b26, rfl, hH27⟩
      refine Run.opX wantS_none rfl (ExG.storeC (c' := [(.int .i64 x24.Time), (.int .i64 x24.Loud), (.int .i64 x24.Template)]) rfl rfl rfl hH27 (i := 0) rfl sz63 rfl rfl rfl rfl rfl) ?_
      rintro _ M28 ⟨rfl, (hH28 : Has Fr M28 [.obj b26 (.row 63 .whole [(.int .i64 x24.Time), (.int .i64 x24.Loud), (.int .i64 x24.Template)])])⟩
      refine Run.opsEnd (Run.seq (Run.seq (Run.region ?_)))
      refine Run.opG wantS_none (ex_move rfl) rfl ?_
      refine Run.opG wantS_none (ex_add rfl rfl) rfl ?_
      refine Run.opG wantS_none (ex_fieldAddr rfl off63_0) rfl ?_
      refine Run.opG wantS_none (ex_load1 rfl (hH28.cells (i := 0) rfl 0 rfl) rdLe_rfl agg3) rfl ?_
      obtain ⟨r30, hr30, h⟩ := bnd_some h
      refine Run.callP wantS_none (ex_call rfl mkk65 cal65) rfl (search_isFrom_ok F (w64 (v3 + (1 : Int))) x24.Time (1073741823 : Int) _ _ hr30) ?_
      refine Run.opG wantS_none (ex_not rfl) rfl ?_
      refine Run.opG wantS_none (ex_move rfl) rfl ?_
      rcases btf ((!r30)) with hc32 | hc32
      · have h := bif_t hc32 h
        refine Run.no (wantS_not' rfl rfl hc32) rfl ?_
        refine Run.no (wantS_not' rfl rfl hc32) rfl ?_
        refine Run.no (wantS_not' rfl rfl hc32) rfl ?_
        refine Run.no (wantS_not' rfl rfl hc32) rfl ?_
        refine Run.opG wantS_none (ex_pickT' rfl hc32 rfl rfl) rfl ?_
        exact Run.pick [5, 9, 10, 11, 26] (search_areTriggers_2_ok F (search_areTriggers_1 F N) ih v9 v10 v11 true x24 sv9 b26 _ _ _ hv9 hH28 h)
      · have h := bif_f hc32 h
        refine Run.opG (wantS_yes' rfl rfl hc32) (ex_fieldAddr rfl off63_1) rfl ?_
        refine Run.opG (wantS_yes' rfl rfl hc32) (ex_load1 rfl (hH28.cells (i := 0) rfl 1 rfl) rdLe_rfl agg3) rfl ?_
        obtain ⟨r39, hr39, h⟩ := bnd_some h
        refine Run.callP (wantS_yes' rfl rfl hc32) (ex_call rfl mkk65 cal65) rfl (search_isFrom_ok F (0 : Int) x24.Loud (1073741824 : Int) _ _ hr39) ?_
        refine Run.opG (wantS_yes' rfl rfl hc32) (ex_not rfl) rfl ?_
        refine Run.opG wantS_none (ex_pickF' rfl hc32 rfl rfl) rfl ?_
        exact Run.pick [5, 9, 10, 11, 26] (search_areTriggers_2_ok F (search_areTriggers_1 F N) ih v9 v10 v11 (!r39) x24 sv9 b26 _ _ _ hv9 hH28 h)
    · have h := bif_f hc22 h
      refine Run.condF' rfl hc22 ?_
      refine Run.exit rfl (Run.seq (Run.region ?_))
      refine Run.opG wantS_none (ex_assign rfl) rfl ?_
      refine Run.opsEnd ?_
      cases h
      exact Run.ret Tryz.func114 rfl (res_tmp rfl res_nil) rfl

def search_areTriggers (F : Nat) (a0 : (List S_api_Trigger)) : Option (Bool) :=
  bif (decide ((256 : Int) < (a0.length : Int))) then
    some false
  else
    search_areTriggers_1 F F ((-1) : Int) a0 (a0.length : Int) (0 : Int)

theorem search_areTriggers_ok (F : Nat) (a0 : (List S_api_Trigger)) (s0 : SV) (r : Bool) (M : Mem) (hs0 : Slc (rd M) 3 (FlatR enc63) s0 a0) (h : search_areTriggers F a0 = some r) : CallsM Tryz.prog 114 [s0] M (fun s M' => s = (.bool r) ∧ M' = M) := by
  refine CallsM.plain Tryz.func114 rfl rfl rfl (show Run _ _ _ (search_areTriggers_post r) _ _ _ from ?_)
  rw [search_areTriggers] at h
  replace hs0 := hs0.mono (rdLe_frozen M) (fun _ _ h => h)
  have hH := Has.nil (frozen M)
  refine Run.seq (Run.region ?_)
  refine Run.opG wantS_none (ex_assign rfl) rfl ?_
  refine Run.opsEnd (Run.seq (Run.seq (Run.region ?_)))
  refine Run.opG wantS_none (ex_move rfl) rfl ?_
  refine Run.opG wantS_none (ex_len' rfl hs0 lenk61) rfl ?_
  refine Run.opG wantS_none (ex_gtr rfl rfl) rfl ?_
  refine Run.opsEnd ?_
  rcases btf ((decide ((256 : Int) < (a0.length : Int)))) with hc21 | hc21
  · have h := bif_t hc21 h
    refine Run.condT' rfl hc21 ?_
    refine Run.seq (Run.region ?_)
    refine Run.opG wantS_none (ex_assign rfl) rfl ?_
    refine Run.opsEnd ?_
    cases h
    exact Run.ret Tryz.func114 rfl (res_tmp rfl res_nil) rfl
  · have h := bif_f hc21 h
    refine Run.condF' rfl hc21 ?_
    refine Run.skip (Run.seq (Run.region ?_))
    refine Run.opG wantS_none (ex_assign rfl) rfl ?_
    refine Run.opsEnd (Run.seq (Run.seq (Run.region ?_)))
    refine Run.opG wantS_none (ex_move rfl) rfl ?_
    refine Run.opG wantS_none (ex_len' rfl hs0 lenk61) rfl ?_
    refine Run.opG wantS_none (ex_move rfl) rfl ?_
    refine Run.opsEnd (Run.block (Run.loop ?_))
    exact Run.pick [3, 9, 10, 11] (search_areTriggers_1_ok F F ((-1) : Int) a0 (a0.length : Int) (0 : Int) s0 _ _ _ hs0 hH h)

theorem mkk114 : makeK Tryz.prog 114 = none := by kernel_rfl
theorem cal114 : callable Tryz.prog 114 = true := by kernel_rfl
abbrev search_checkTriggers_post (r : Int) : SV → Mem → Prop := fun s _ => s = (.int .i64 r)

def search_checkTriggers_1 (F : Nat) : Nat → (List (List S_api_Trigger)) → Int → Int → Option (Int)
  | 0, _, _, _ => none
  | N + 1, v5, v6, v7 =>
    bif (decide (v7 < v6)) then
      bnd (idx v5 v7) fun x23 =>
      bnd (search_areTriggers F x23) fun r25 =>
      bif (!r25) then
        some (80 : Int)
      else
        (search_checkTriggers_1 F N) v5 v6 (w64 (v7 + (1 : Int)))
    else
      some (0 : Int)

theorem search_checkTriggers_1_ok (F : Nat) : ∀ (N : Nat), ∀ (v5 : (List (List S_api_Trigger))) (v6 v7 : Int) (sv5 : SV) (Fr : Rd) (M : Mem) (r : Int) (hv5 : Slc Fr 1 (rep61 Fr) sv5 v5) (hH : Has Fr M []), search_checkTriggers_1 F N v5 v6 v7 = some r → Run Tryz.prog ⟨⟨64, [], none⟩, []⟩ 15 (search_checkTriggers_post r) [(5, sv5), (6, (.int .i64 v6)), (7, (.int .i64 v7))] [codeC Tryz.prog 64 [1, 0, 1, 0, 0], loopC Tryz.prog 64 [1, 0, 1, 0, 0], .inBlock 0, codeC Tryz.prog 64 [1, 1]] M := by
  intro N
  induction N with
  | zero =>
    intro v5 v6 v7 sv5 Fr M r hv5 hH h
    simp [search_checkTriggers_1] at h
  | succ N ih =>
    intro v5 v6 v7 sv5 Fr M r hv5 hH h
    rw [search_checkTriggers_1] at h
    refine Run.seq (Run.region ?_)
    refine Run.opG wantS_none (ex_lss rfl rfl) rfl ?_
    refine Run.opsEnd (Run.seq ?_)
    rcases btf ((decide (v7 < v6))) with hc21 | hc21
    · have h := bif_t hc21 h
      refine Run.condT' rfl hc21 ?_
      refine Run.skip (Run.seq (Run.block (Run.seq (Run.region ?_))))
      obtain ⟨x23, hx23, h⟩ := bnd_some h
      obtain ⟨p23, o23, _, hx23, hp23, ⟨q23_0, rfl, hq23_0⟩⟩ := sl_elem (P := Tryz.prog) (t := 187) (kk := .i64) hv5 hx23 els187
      refine Run.opG wantS_none (ex_elX rfl rfl hx23) rfl ?_
      refine Run.opG wantS_none (ex_load1 rfl (hH.ptrF hp23) rdLe_rfl agg61) rfl ?_
      refine Run.opG wantS_none (ex_assign rfl) rfl ?_
      refine Run.opsEnd (Run.seq (Run.region ?_))
      refine Run.opG wantS_none (ex_move rfl) rfl ?_
      obtain ⟨r25, hr25, h⟩ := bnd_some h
      refine Run.callP wantS_none (ex_call rfl mkk114 cal114) rfl (search_areTriggers_ok F x23 q23_0 _ _ (hH.slcF hq23_0) hr25) ?_
      refine Run.opG wantS_none (ex_not rfl) rfl ?_
      refine Run.opsEnd ?_
      rcases btf ((!r25)) with hc27 | hc27
      · have h := bif_t hc27 h
        refine Run.condT' rfl hc27 ?_
        refine Run.seq (Run.region ?_)
        refine Run.opG wantS_none (ex_assign rfl) rfl ?_
        refine Run.opsEnd ?_
        cases h
        exact Run.ret Tryz.func64 rfl (res_tmp rfl res_nil) rfl
      · have h := bif_f hc27 h
        refine Run.condF' rfl hc27 ?_
        refine Run.skip (Run.inBlock (Run.region ?_))
        refine Run.opG wantS_none (ex_add rfl rfl) rfl ?_
        refine Run.opG wantS_none (ex_move rfl) rfl ?_
        refine Run.opsEnd (Run.inLoop ?_)
        exact Run.pick [5, 6, 7] (ih v5 v6 (w64 (v7 + (1 : Int))) sv5 _ _ _ hv5 hH h)
    · have h := bif_f hc21 h
      refine Run.condF' rfl hc21 ?_
      refine Run.exit rfl (Run.seq (Run.region ?_))
      refine Run.opG wantS_none (ex_assign rfl) rfl ?_
      refine Run.opsEnd ?_
      cases h
      exact Run.ret Tryz.func64 rfl (res_tmp rfl res_nil) rfl

def search_checkTriggers (F : Nat) (a0 : (List (List S_api_Trigger))) : Option (Int) :=
  search_checkTriggers_1 F F a0 (a0.length : Int) (0 : Int)

theorem search_checkTriggers_ok (F : Nat) (a0 : (List (List S_api_Trigger))) (s0 : SV) (r : Int) (M : Mem) (hs0 : Slc (rd M) 1 (rep61 (rd M)) s0 a0) (h : search_checkTriggers F a0 = some r) : CallsM Tryz.prog 64 [s0] M (fun s M' => s = (.int .i64 r) ∧ M' = M) := by
  refine CallsM.plain Tryz.func64 rfl rfl rfl (show Run _ _ _ (search_checkTriggers_post r) _ _ _ from ?_)
  rw [search_checkTriggers] at h
  replace hs0 := hs0.mono (rdLe_frozen M) (fun _ _ => rep61_mo (rdLe_frozen M))
  have hH := Has.nil (frozen M)
  refine Run.seq (Run.region ?_)
  refine Run.opG wantS_none (ex_assign rfl) rfl ?_
  refine Run.opsEnd (Run.seq (Run.seq (Run.region ?_)))
  refine Run.opG wantS_none (ex_move rfl) rfl ?_
  refine Run.opG wantS_none (ex_len' rfl hs0 lenk187) rfl ?_
  refine Run.opG wantS_none (ex_move rfl) rfl ?_
  refine Run.opsEnd (Run.block (Run.loop ?_))
  exact Run.pick [5, 6, 7] (search_checkTriggers_1_ok F F a0 (a0.length : Int) (0 : Int) s0 _ _ _ hs0 hH h)

theorem mkk64 : makeK Tryz.prog 64 = none := by kernel_rfl
theorem cal64 : callable Tryz.prog 64 = true := by kernel_rfl
theorem mkk68 : makeK Tryz.prog 68 = none := by kernel_rfl
theorem cal68 : callable Tryz.prog 68 = true := by kernel_rfl
theorem mkk116 : makeK Tryz.prog 116 = none := by kernel_rfl
theorem cal116 : callable Tryz.prog 116 = true := by kernel_rfl
theorem mkk67 : makeK Tryz.prog 67 = none := by kernel_rfl
theorem cal67 : callable Tryz.prog 67 = true := by kernel_rfl
theorem elt64 : sliceElt Tryz.prog 64 = some (⟨1, 1, [(.bool false)], 4⟩ : Elt) := by kernel_rfl
theorem appt64_64 : appT Tryz.prog 64 64 = some (⟨1, 1, [(.bool false)], 4⟩ : Elt) := by kernel_rfl
abbrev search_Found_post (r : (List Bool) × Int) : SV → Mem → Prop := fun s Me => ∃ q1, s = (.tuple [q1, (.int .i64 r.2)]) ∧ Has (fun _ => none) Me [.vec 4 1 r.1.length q1 (r.1.flatMap enc4)]

def search_Found_3 (F : Nat) (hd2 : (List S_api_Trigger) → (List S_api_Wave) → Int → Int → Int → (List Bool) → Option ((List Bool) × Int)) : Nat → (List S_api_Trigger) → Int → Int → (List S_api_Trigger) → (List S_api_Wave) → Int → Int → Int → Int → (List Int) → Int → (List Bool) → Option ((List Bool) × Int)
  | 0, _, _, _, _, _, _, _, _, _, _, _, _ => none
  | N + 1, v0, v7, v8, v0_f2, v36_f2, v37_f2, v38_f2, c52_0, c52_1, c52_2, c22_0, l46 =>
    bif (decide (v8 < v7)) then
      bnd (idx v0 v8) fun x57 =>
      bnd (search_isFrom F (w64 (c52_0 - c22_0)) x57.Time (w64 (c52_0 + c22_0))) fun r62 =>
      bif r62 then
        bnd (apd 1 l46 ([(decide ((0 : Int) ≤ v8))] : List Bool)) fun l70 =>
        hd2 v0_f2 v36_f2 v37_f2 (w64 (v38_f2 + (1 : Int))) c22_0 l70
      else
        (search_Found_3 F hd2 N) v0 v7 (w64 (v8 + (1 : Int))) v0_f2 v36_f2 v37_f2 v38_f2 c52_0 c52_1 c52_2 c22_0 l46
    else
      bnd (apd 1 l46 ([(decide ((0 : Int) ≤ ((-1) : Int)))] : List Bool)) fun l78 =>
      hd2 v0_f2 v36_f2 v37_f2 (w64 (v38_f2 + (1 : Int))) c22_0 l78

theorem search_Found_3_ok (F : Nat) (hd2 : (List S_api_Trigger) → (List S_api_Wave) → Int → Int → Int → (List Bool) → Option ((List Bool) × Int)) (hhd2 : ∀ (v0 : (List S_api_Trigger)) (v36 : (List S_api_Wave)) (v37 v38 c22_0 : Int) (l46 : (List Bool)) (sv0 sv36 : SV) (b22 : Pos) (s46 : SV) (Fr : Rd) (M : Mem) (r : (List Bool) × Int) (hv0 : Slc Fr 3 (FlatR enc63) sv0 v0) (hv36 : Slc Fr 3 (rep58 Fr) sv36 v36) (hH : Has Fr M [.obj b22 (.row 3 .whole [(.int .i64 c22_0)]), .vec 4 1 l46.length s46 (l46.flatMap enc4)]), hd2 v0 v36 v37 v38 c22_0 l46 = some r → Run Tryz.prog ⟨⟨21, [], none⟩, []⟩ 51 (search_Found_post r) [(0, sv0), (7, (.ptr b22 0)), (11, s46), (36, sv36), (37, (.int .i64 v37)), (38, (.int .i64 v38))] [codeC Tryz.prog 21 [1, 1, 1, 0, 1, 0, 0], loopC Tryz.prog 21 [1, 1, 1, 0, 1, 0, 0], .inBlock 1, codeC Tryz.prog 21 [1, 1, 1, 1]] M) : ∀ (N : Nat), ∀ (v0 : (List S_api_Trigger)) (v7 v8 : Int) (v0_f2 : (List S_api_Trigger)) (v36_f2 : (List S_api_Wave)) (v37_f2 v38_f2 c52_0 c52_1 : Int) (c52_2 : (List Int)) (c22_0 : Int) (l46 : (List Bool)) (sv0 sv0_f2 sv36_f2 sc52_2 : SV) (b52 b22 : Pos) (s46 : SV) (Fr : Rd) (M : Mem) (r : (List Bool) × Int) (hv0 : Slc Fr 3 (FlatR enc63) sv0 v0) (hv0_f2 : Slc Fr 3 (FlatR enc63) sv0_f2 v0_f2) (hv36_f2 : Slc Fr 3 (rep58 Fr) sv36_f2 v36_f2) (hc52_2 : Slc Fr 1 (FlatR enc3) sc52_2 c52_2) (hH : Has Fr M [.obj b52 (.row 58 .whole [(.int .i64 c52_0), (.int .i64 c52_1), sc52_2]), .obj b22 (.row 3 .whole [(.int .i64 c22_0)]), .vec 4 1 l46.length s46 (l46.flatMap enc4)]), search_Found_3 F hd2 N v0 v7 v8 v0_f2 v36_f2 v37_f2 v38_f2 c52_0 c52_1 c52_2 c22_0 l46 = some r → Run Tryz.prog ⟨⟨116, [], none⟩, [.mk ⟨68, [], none⟩ 9 (treeOf []) [itemC Tryz.prog 68 [1, 0] 2, codeC Tryz.prog 68 [1, 1]], .mk ⟨21, [], none⟩ 51 (treeOf [(0, sv0_f2), (7, (.ptr b22 0)), (36, sv36_f2), (37, (.int .i64 v37_f2)), (38, (.int .i64 v38_f2)), (43, s46)]) [itemC Tryz.prog 21 [1, 1, 1, 0, 1, 0, 0, 1, 1, 0, 0, 1, 1] 3, .inBlock 2, codeC Tryz.prog 21 [1, 1, 1, 0, 1, 0, 0, 1, 1, 1], loopC Tryz.prog 21 [1, 1, 1, 0, 1, 0, 0], .inBlock 1, codeC Tryz.prog 21 [1, 1, 1, 1]]]⟩ 19 (search_Found_post r) [(0, sv0), (1, (.fn (.func 67) [] [(.ptr b52 0), (.ptr b22 0)])), (7, (.int .i64 v7)), (8, (.int .i64 v8))] [codeC Tryz.prog 116 [1, 0, 1, 0, 0], loopC Tryz.prog 116 [1, 0, 1, 0, 0], .inBlock 0, codeC Tryz.prog 116 [1, 1]] M := by
  intro N
  induction N with
  | zero =>
    intro v0 v7 v8 v0_f2 v36_f2 v37_f2 v38_f2 c52_0 c52_1 c52_2 c22_0 l46 sv0 sv0_f2 sv36_f2 sc52_2 b52 b22 s46 Fr M r hv0 hv0_f2 hv36_f2 hc52_2 hH h
    simp [search_Found_3] at h
  | succ N ih =>
    intro v0 v7 v8 v0_f2 v36_f2 v37_f2 v38_f2 c52_0 c52_1 c52_2 c22_0 l46 sv0 sv0_f2 sv36_f2 sc52_2 b52 b22 s46 Fr M r hv0 hv0_f2 hv36_f2 hc52_2 hH h
    rw [search_Found_3] at h
    refine Run.seq (Run.region ?_)
    refine Run.opG wantS_none (ex_lss rfl rfl) rfl ?_
    refine Run.opsEnd (Run.seq ?_)
    rcases btf ((decide (v8 < v7))) with hc55 | hc55
    · have h := bif_t hc55 h
      refine Run.condT' rfl hc55 ?_
      refine Run.skip (Run.seq (Run.block (Run.seq (Run.region ?_))))
      refine Run.opG wantS_none (ex_move rfl) rfl ?_
      refine Run.opG wantS_none (ex_assign rfl) rfl ?_
      refine Run.opsEnd (Run.seq (Run.region ?_))
      refine Run.opG wantS_none (ex_move rfl) rfl ?_
      refine Run.opG wantS_none (ex_move rfl) rfl ?_
      refine Run.opG wantS_none (ex_move rfl) rfl ?_
      obtain ⟨x57, hx57, h⟩ := bnd_some h
      obtain ⟨p57, o57, _, hx57, hp57, rfl⟩ := sl_elem (P := Tryz.prog) (t := 61) (kk := .i64) hv0 hx57 els61
      refine Run.opG wantS_none (ex_elX rfl rfl hx57) rfl ?_
      refine Run.opG wantS_none (ex_loadA rfl (hH.ptrF hp57) rdLe_rfl agg63 rfl rfl rfl) rfl ?_
      refine Run.enter wantS_none (ex_closure rfl rfl mkk67 cal67) Tryz.func67 rfl rfl ?_
      refine Run.seq (Run.region ?_)
      refine Run.opX wantS_none rfl (ExG.box rfl rfl hH) ?_
      rintro _ M60 ⟨b59, rfl, hH60⟩
      refine Run.opG wantS_none (ex_assign rfl) rfl ?_
      refine Run.opsEnd (Run.seq (Run.region ?_))
      refine Run.opG wantS_none (ex_fieldAddr rfl off58_0) rfl ?_
      refine Run.opG wantS_none (ex_load1 rfl (hH60.cells (i := 1) rfl 0 rfl) rdLe_rfl agg3) rfl ?_
      refine Run.opG wantS_none (ex_load1 rfl (hH60.cells (i := 2) rfl 0 rfl) rdLe_rfl agg3) rfl ?_
      refine Run.opG wantS_none (ex_sub rfl rfl) rfl ?_
      refine Run.opG wantS_none (ex_fieldAddr rfl off63_0) rfl ?_
      refine Run.opG wantS_none (ex_load1 rfl (hH60.cells (i := 0) rfl 0 rfl) rdLe_rfl agg3) rfl ?_
      refine Run.opG wantS_none (ex_fieldAddr rfl off58_0) rfl ?_
      refine Run.opG wantS_none (ex_load1 rfl (hH60.cells (i := 1) rfl 0 rfl) rdLe_rfl agg3) rfl ?_
      refine Run.opG wantS_none (ex_load1 rfl (hH60.cells (i := 2) rfl 0 rfl) rdLe_rfl agg3) rfl ?_
      refine Run.opG wantS_none (ex_add rfl rfl) rfl ?_
      obtain ⟨r62, hr62, h⟩ := bnd_some h
      refine Run.callP wantS_none (ex_call rfl mkk65 cal65) rfl (search_isFrom_ok F (w64 (c52_0 - c22_0)) x57.Time (w64 (c52_0 + c22_0)) _ _ hr62) ?_
      refine Run.opG wantS_none (ex_assign rfl) rfl ?_
      refine Run.opsEnd ?_
      refine Run.retTo Tryz.func67 rfl (res_tmp rfl res_nil) rfl ?_
      refine Run.opsEnd ?_
      rcases btf (r62) with hc64 | hc64
      · have h := bif_t hc64 h
        refine Run.condT' rfl hc64 ?_
        refine Run.seq (Run.region ?_)
        refine Run.opG wantS_none (ex_move rfl) rfl ?_
        refine Run.opG wantS_none (ex_assign rfl) rfl ?_
        refine Run.opsEnd ?_
        refine Run.retTo Tryz.func116 rfl (res_tmp rfl res_nil) rfl ?_
        refine Run.opG wantS_none (ex_geq rfl rfl) rfl ?_
        refine Run.opG wantS_none (ex_assign rfl) rfl ?_
        refine Run.opsEnd ?_
        refine Run.retTo Tryz.func68 rfl (res_tmp rfl res_nil) rfl ?_
        refine Run.opX wantS_none rfl (ExG.built (enc := enc4) (l := ([(decide ((0 : Int) ≤ v8))] : List Bool)) (z := 1) rfl elt64 rfl rfl rfl enc4_len hH60) ?_
        rintro s66 M67 (hH67 : Has Fr M67 [.vec 4 1 ([(decide ((0 : Int) ≤ v8))] : List Bool).length s66 (([(decide ((0 : Int) ≤ v8))] : List Bool).flatMap enc4), .obj b59 (.row 63 .whole [(.int .i64 x57.Time), (.int .i64 x57.Loud), (.int .i64 x57.Template)]), .obj b52 (.row 58 .whole [(.int .i64 c52_0), (.int .i64 c52_1), sc52_2]), .obj b22 (.row 3 .whole [(.int .i64 c22_0)]), .vec 4 1 l46.length s46 (l46.flatMap enc4)])
        obtain ⟨l70, hl70, h⟩ := bnd_some h
        refine Run.opX wantS_none rfl (ExG.append rfl rfl hH67 (i := 4) rfl enc4_len rfl enc4_ones appt64_64 rfl (len_slc (hH67.slc (i := 0) rfl enc4_len)) (first_slc (hH67.slc (i := 0) rfl enc4_len) (rdLe_rdRow _) enc4_len) hl70) ?_
        rintro s70 M72 (hH72 : Has Fr M72 [.vec 4 1 ([(decide ((0 : Int) ≤ v8))] : List Bool).length s66 (([(decide ((0 : Int) ≤ v8))] : List Bool).flatMap enc4), .obj b59 (.row 63 .whole [(.int .i64 x57.Time), (.int .i64 x57.Loud), (.int .i64 x57.Template)]), .obj b52 (.row 58 .whole [(.int .i64 c52_0), (.int .i64 c52_1), sc52_2]), .obj b22 (.row 3 .whole [(.int .i64 c22_0)]), .vec 4 1 l70.length s70 (l70.flatMap enc4)])
        refine Run.opG wantS_none (ex_assign rfl) rfl ?_
        refine Run.opsEnd (Run.inBlock (Run.region ?_))
        refine Run.opG wantS_none (ex_add rfl rfl) rfl ?_
        refine Run.opG wantS_none (ex_move rfl) rfl ?_
        refine Run.opsEnd (Run.inLoop ?_)
        exact Run.pick [0, 7, 11, 36, 37, 38] (hhd2 v0_f2 v36_f2 v37_f2 (w64 (v38_f2 + (1 : Int))) c22_0 l70 sv0_f2 sv36_f2 b22 s70 _ _ _ hv0_f2 hv36_f2 (hH72.pick [3, 4] rfl rfl) h)
      · have h := bif_f hc64 h
        refine Run.condF' rfl hc64 ?_
        refine Run.skip (Run.inBlock (Run.region ?_))
        refine Run.opG wantS_none (ex_add rfl rfl) rfl ?_
        refine Run.opG wantS_none (ex_move rfl) rfl ?_
        refine Run.opsEnd (Run.inLoop ?_)
        exact Run.low (.cons (fle_pick [] rfl) (.cons (fle_pick [0, 7, 36, 37, 38, 43] rfl) .nil)) (Run.pick [0, 1, 7, 8] (ih v0 v7 (w64 (v8 + (1 : Int))) v0_f2 v36_f2 v37_f2 v38_f2 c52_0 c52_1 c52_2 c22_0 l46 sv0 sv0_f2 sv36_f2 sc52_2 b52 b22 s46 _ _ _ hv0 hv0_f2 hv36_f2 hc52_2 (hH60.pick [1, 2, 3] rfl rfl) h))
    · have h := bif_f hc55 h
      refine Run.condF' rfl hc55 ?_
      refine Run.exit rfl (Run.seq (Run.region ?_))
      refine Run.opG wantS_none (ex_assign rfl) rfl ?_
      refine Run.opsEnd ?_
      refine Run.retTo Tryz.func116 rfl (res_tmp rfl res_nil) rfl ?_
      refine Run.opG wantS_none (ex_geq rfl rfl) rfl ?_
      refine Run.opG wantS_none (ex_assign rfl) rfl ?_
      refine Run.opsEnd ?_
      refine Run.retTo Tryz.func68 rfl (res_tmp rfl res_nil) rfl ?_
      refine Run.opX wantS_none rfl (ExG.built (enc := enc4) (l := ([(decide ((0 : Int) ≤ ((-1) : Int)))] : List Bool)) (z := 1) rfl elt64 rfl rfl rfl enc4_len hH) ?_
      rintro s74 M75 (hH75 : Has Fr M75 [.vec 4 1 ([(decide ((0 : Int) ≤ ((-1) : Int)))] : List Bool).length s74 (([(decide ((0 : Int) ≤ ((-1) : Int)))] : List Bool).flatMap enc4), .obj b52 (.row 58 .whole [(.int .i64 c52_0), (.int .i64 c52_1), sc52_2]), .obj b22 (.row 3 .whole [(.int .i64 c22_0)]), .vec 4 1 l46.length s46 (l46.flatMap enc4)])
      obtain ⟨l78, hl78, h⟩ := bnd_some h
      refine Run.opX wantS_none rfl (ExG.append rfl rfl hH75 (i := 3) rfl enc4_len rfl enc4_ones appt64_64 rfl (len_slc (hH75.slc (i := 0) rfl enc4_len)) (first_slc (hH75.slc (i := 0) rfl enc4_len) (rdLe_rdRow _) enc4_len) hl78) ?_
      rintro s78 M80 (hH80 : Has Fr M80 [.vec 4 1 ([(decide ((0 : Int) ≤ ((-1) : Int)))] : List Bool).length s74 (([(decide ((0 : Int) ≤ ((-1) : Int)))] : List Bool).flatMap enc4), .obj b52 (.row 58 .whole [(.int .i64 c52_0), (.int .i64 c52_1), sc52_2]), .obj b22 (.row 3 .whole [(.int .i64 c22_0)]), .vec 4 1 l78.length s78 (l78.flatMap enc4)])
      refine Run.opG wantS_none (ex_assign rfl) rfl ?_
      refine Run.opsEnd (Run.inBlock (Run.region ?_))
      refine Run.opG wantS_none (ex_add rfl rfl) rfl ?_
      refine Run.opG wantS_none (ex_move rfl) rfl ?_
      refine Run.opsEnd (Run.inLoop ?_)
      exact Run.pick [0, 7, 11, 36, 37, 38] (hhd2 v0_f2 v36_f2 v37_f2 (w64 (v38_f2 + (1 : Int))) c22_0 l78 sv0_f2 sv36_f2 b22 s78 _ _ _ hv0_f2 hv36_f2 (hH80.pick [2, 3] rfl rfl) h)

def search_Found_2 (F : Nat) : Nat → (List S_api_Trigger) → (List S_api_Wave) → Int → Int → Int → (List Bool) → Option ((List Bool) × Int)
  | 0, _, _, _, _, _, _ => none
  | N + 1, v0, v36, v37, v38, c22_0, l46 =>
    bif (decide (v38 < v37)) then
      bnd (idx v36 v38) fun x50 =>
      search_Found_3 F (search_Found_2 F N) F v0 (v0.length : Int) (0 : Int) v0 v36 v37 v38 x50.At x50.Gain x50.Samples c22_0 l46
    else
      some (l46, (0 : Int))

theorem search_Found_2_ok (F : Nat) : ∀ (N : Nat), ∀ (v0 : (List S_api_Trigger)) (v36 : (List S_api_Wave)) (v37 v38 c22_0 : Int) (l46 : (List Bool)) (sv0 sv36 : SV) (b22 : Pos) (s46 : SV) (Fr : Rd) (M : Mem) (r : (List Bool) × Int) (hv0 : Slc Fr 3 (FlatR enc63) sv0 v0) (hv36 : Slc Fr 3 (rep58 Fr) sv36 v36) (hH : Has Fr M [.obj b22 (.row 3 .whole [(.int .i64 c22_0)]), .vec 4 1 l46.length s46 (l46.flatMap enc4)]), search_Found_2 F N v0 v36 v37 v38 c22_0 l46 = some r → Run Tryz.prog ⟨⟨21, [], none⟩, []⟩ 51 (search_Found_post r) [(0, sv0), (7, (.ptr b22 0)), (11, s46), (36, sv36), (37, (.int .i64 v37)), (38, (.int .i64 v38))] [codeC Tryz.prog 21 [1, 1, 1, 0, 1, 0, 0], loopC Tryz.prog 21 [1, 1, 1, 0, 1, 0, 0], .inBlock 1, codeC Tryz.prog 21 [1, 1, 1, 1]] M := by
  intro N
  induction N with
  | zero =>
    intro v0 v36 v37 v38 c22_0 l46 sv0 sv36 b22 s46 Fr M r hv0 hv36 hH h
    simp [search_Found_2] at h
  | succ N ih =>
    intro v0 v36 v37 v38 c22_0 l46 sv0 sv36 b22 s46 Fr M r hv0 hv36 hH h
    rw [search_Found_2] at h
    refine Run.seq (Run.region ?_)
    refine Run.opG wantS_none (ex_lss rfl rfl) rfl ?_
    refine Run.opsEnd (Run.seq ?_)
    rcases btf ((decide (v38 < v37))) with hc48 | hc48
    · have h := bif_t hc48 h
      refine Run.condT' rfl hc48 ?_
      refine Run.skip (Run.seq (Run.block (Run.seq (Run.region ?_))))
      obtain ⟨x50, hx50, h⟩ := bnd_some h
      obtain ⟨p50, o50, _, hx50, hp50, ⟨q50_0, rfl, hq50_0⟩⟩ := sl_elem (P := Tryz.prog) (t := 59) (kk := .i64) hv36 hx50 els59
      refine Run.opG wantS_none (ex_elX rfl rfl hx50) rfl ?_
      refine Run.opG wantS_none (ex_loadA rfl (hH.ptrF hp50) rdLe_rfl agg58 rfl rfl rfl) rfl ?_
      refine Run.opX wantS_none rfl (ExG.new (v := fun b => .ptr b 0) (ex_alloc zer58) hH) ?_
      rintro _ M53 ⟨b52, rfl, hH53⟩
      refine Run.opX wantS_none rfl (ExG.storeC (c' := [(.int .i64 x50.At), (.int .i64 x50.Gain), q50_0]) rfl rfl rfl hH53 (i := 0) rfl sz58 rfl rfl rfl (ones_cons rfl (ones_cons rfl (ones_cons (slc_one hq50_0) ones_nil))) rfl) ?_
      rintro _ M54 ⟨rfl, (hH54 : Has Fr M54 [.obj b52 (.row 58 .whole [(.int .i64 x50.At), (.int .i64 x50.Gain), q50_0]), .obj b22 (.row 3 .whole [(.int .i64 c22_0)]), .vec 4 1 l46.length s46 (l46.flatMap enc4)])⟩
      refine Run.opsEnd (Run.seq (Run.region ?_))
      refine Run.opG wantS_none (ex_makeFunc rfl rfl) rfl ?_
      refine Run.opG wantS_none (ex_assign rfl) rfl ?_
      refine Run.opsEnd (Run.region ?_)
      refine Run.opG wantS_none (ex_move rfl) rfl ?_
      refine Run.opG wantS_none (ex_move rfl) rfl ?_
      refine Run.opG wantS_none (ex_move rfl) rfl ?_
      refine Run.enter wantS_none (ex_call rfl mkk68 cal68) Tryz.func68 rfl rfl ?_
      refine Run.seq (Run.region ?_)
      refine Run.opG wantS_none (ex_assign rfl) rfl ?_
      refine Run.opsEnd (Run.seq (Run.region ?_))
      refine Run.opG wantS_none (ex_move rfl) rfl ?_
      refine Run.opG wantS_none (ex_move rfl) rfl ?_
      refine Run.enter wantS_none (ex_call rfl mkk116 cal116) Tryz.func116 rfl rfl ?_
      refine Run.seq (Run.region ?_)
      refine Run.opG wantS_none (ex_assign rfl) rfl ?_
      refine Run.opsEnd (Run.seq (Run.seq (Run.region ?_)))
      refine Run.opG wantS_none (ex_move rfl) rfl ?_
      refine Run.opG wantS_none (ex_len' rfl hv0 lenk61) rfl ?_
      refine Run.opG wantS_none (ex_move rfl) rfl ?_
      refine Run.opsEnd (Run.block (Run.loop ?_))
      exact Run.low (.cons (fle_pick [] rfl) (.cons (fle_pick [0, 7, 36, 37, 38, 43] rfl) .nil)) (Run.pick [0, 1, 7, 8] (search_Found_3_ok F (search_Found_2 F N) ih F v0 (v0.length : Int) (0 : Int) v0 v36 v37 v38 x50.At x50.Gain x50.Samples c22_0 l46 sv0 sv0 sv36 q50_0 b52 b22 s46 _ _ _ hv0 hv0 hv36 hq50_0 hH54 h))
    · have h := bif_f hc48 h
      refine Run.condF' rfl hc48 ?_
      refine Run.exit rfl (Run.seq (Run.region ?_))
      refine Run.opG wantS_none (ex_move rfl) rfl ?_
      refine Run.opG wantS_none (ex_assign rfl) rfl ?_
      refine Run.opG wantS_none (ex_assign rfl) rfl ?_
      refine Run.opsEnd ?_
      cases h
      exact Run.ret Tryz.func21 rfl (res_tmp rfl (res_tmp rfl res_nil)) ⟨_, rfl, (hH.pick [1] rfl rfl).upF (none_le _)⟩

def search_Found_1 (F : Nat) (v0 : (List S_api_Trigger)) (v1 : (List S_api_Wave)) (v2 : Int) (v30 : Bool) (c22_0 : Int) : Option ((List Bool) × Int) :=
  bif v30 then
    some (([] : List Bool), (8 : Int))
  else
    bnd (search_areWaves F v1 v2) fun r41 =>
    bif (!r41) then
      some (([] : List Bool), (83 : Int))
    else
      search_Found_2 F F v0 v1 (v1.length : Int) (0 : Int) c22_0 ([] : List Bool)

theorem search_Found_1_ok (F : Nat) : ∀ (v0 : (List S_api_Trigger)) (v1 : (List S_api_Wave)) (v2 : Int) (v30 : Bool) (c22_0 : Int) (sv0 sv1 : SV) (b22 : Pos) (Fr : Rd) (M : Mem) (r : (List Bool) × Int) (hv0 : Slc Fr 3 (FlatR enc63) sv0 v0) (hv1 : Slc Fr 3 (rep58 Fr) sv1 v1) (hH : Has Fr M [.obj b22 (.row 3 .whole [(.int .i64 c22_0)])]), search_Found_1 F v0 v1 v2 v30 c22_0 = some r → Run Tryz.prog ⟨⟨21, [], none⟩, []⟩ 51 (search_Found_post r) [(0, sv0), (1, sv1), (2, (.int .i64 v2)), (7, (.ptr b22 0)), (30, (.bool v30))] [itemC Tryz.prog 21 [1, 0, 1, 0, 1, 1, 0] 8, codeC Tryz.prog 21 [1, 0, 1, 0, 1, 1, 1], .inBlock 0, codeC Tryz.prog 21 [1, 1]] M := by
  intro v0 v1 v2 v30 c22_0 sv0 sv1 b22 Fr M r hv0 hv1 hH h
  rw [search_Found_1] at h
  refine Run.opG wantS_none (ex_assign rfl) rfl ?_
  refine Run.opsEnd ?_
  rcases btf (v30) with hc37 | hc37
  · have h := bif_t hc37 h
    refine Run.condT' rfl hc37 ?_
    refine Run.seq (Run.region ?_)
    refine Run.opG wantS_none (ex_assign rfl) rfl ?_
    refine Run.opG wantS_none (ex_assign rfl) rfl ?_
    refine Run.opsEnd ?_
    have hH39 : Has Fr M [.vec 4 1 ([] : List Bool).length .nils (([] : List Bool).flatMap enc4), .obj b22 (.row 3 .whole [(.int .i64 c22_0)])] := hH.nils 4 1
    cases h
    exact Run.ret Tryz.func21 rfl (res_tmp rfl (res_tmp rfl res_nil)) ⟨_, rfl, (hH39.pick [0] rfl rfl).upF (none_le _)⟩
  · have h := bif_f hc37 h
    refine Run.condF' rfl hc37 ?_
    refine Run.seq (Run.region ?_)
    refine Run.opG wantS_none (ex_move rfl) rfl ?_
    refine Run.opG wantS_none (ex_move rfl) rfl ?_
    obtain ⟨r41, hr41, h⟩ := bnd_some h
    refine Run.callP wantS_none (ex_call rfl mkk66 cal66) rfl (search_areWaves_ok F v1 v2 sv1 _ _ ((hv1).mono hH.le (fun _ _ => rep58_mo hH.le)) hr41) ?_
    refine Run.opG wantS_none (ex_not rfl) rfl ?_
    refine Run.opG wantS_none (ex_assign rfl) rfl ?_
    refine Run.opsEnd ?_
    rcases btf ((!r41)) with hc43 | hc43
    · have h := bif_t hc43 h
      refine Run.condT' rfl hc43 ?_
      refine Run.seq (Run.region ?_)
      refine Run.opG wantS_none (ex_assign rfl) rfl ?_
      refine Run.opG wantS_none (ex_assign rfl) rfl ?_
      refine Run.opsEnd ?_
      have hH45 : Has Fr M [.vec 4 1 ([] : List Bool).length .nils (([] : List Bool).flatMap enc4), .obj b22 (.row 3 .whole [(.int .i64 c22_0)])] := hH.nils 4 1
      cases h
      exact Run.ret Tryz.func21 rfl (res_tmp rfl (res_tmp rfl res_nil)) ⟨_, rfl, (hH45.pick [0] rfl rfl).upF (none_le _)⟩
    · have h := bif_f hc43 h
      refine Run.condF' rfl hc43 ?_
      refine Run.skip (Run.inBlock (Run.seq (Run.region ?_)))
      refine Run.opG wantS_none (ex_assign rfl) rfl ?_
      refine Run.opsEnd (Run.seq (Run.seq (Run.region ?_)))
      refine Run.opG wantS_none (ex_move rfl) rfl ?_
      refine Run.opG wantS_none (ex_len' rfl hv1 lenk59) rfl ?_
      refine Run.opG wantS_none (ex_move rfl) rfl ?_
      refine Run.opsEnd (Run.block (Run.loop ?_))
      have hH47 : Has Fr M [.vec 4 1 ([] : List Bool).length .nils (([] : List Bool).flatMap enc4), .obj b22 (.row 3 .whole [(.int .i64 c22_0)])] := hH.nils 4 1
      exact Run.pick [0, 7, 11, 36, 37, 38] (search_Found_2_ok F F v0 v1 (v1.length : Int) (0 : Int) c22_0 ([] : List Bool) sv0 sv1 b22 .nils _ _ _ hv0 hv1 (hH47.pick [1, 0] rfl rfl) h)

def search_Found (F : Nat) (a0 : (List S_api_Trigger)) (a1 : (List S_api_Wave)) (a2 a3 : Int) : Option ((List Bool) × Int) :=
  bnd (search_checkTriggers F ([a0] : List (List S_api_Trigger))) fun r28 =>
  bif (!(r28 == (0 : Int))) then
    some (([] : List Bool), r28)
  else
    bnd (search_isFrom F (0 : Int) a2 (1024 : Int)) fun r34 =>
    bif (!r34) then
      search_Found_1 F a0 a1 a2 true a3
    else
      bnd (search_isFrom F (0 : Int) a3 (1073741824 : Int)) fun r82 =>
      search_Found_1 F a0 a1 a2 (!r82) a3

theorem search_Found_ok (F : Nat) (a0 : (List S_api_Trigger)) (a1 : (List S_api_Wave)) (a2 a3 : Int) (s0 s1 : SV) (r : (List Bool) × Int) (M : Mem) (hs0 : Slc (rd M) 3 (FlatR enc63) s0 a0) (hs1 : Slc (rd M) 3 (rep58 (rd M)) s1 a1) (h : search_Found F a0 a1 a2 a3 = some r) : CallsM Tryz.prog 21 [s0, s1, (.int .i64 a2), (.int .i64 a3)] M (fun s M' => ∃ q1, s = (.tuple [q1, (.int .i64 r.2)]) ∧ New M M' [.vec 4 1 r.1.length q1 (r.1.flatMap enc4)]) := by
  refine CallsM.fresh (Q := search_Found_post r) Tryz.func21 rfl rfl ?_ (by rintro s Me ⟨q1, rfl, hx⟩ ha hw; exact ⟨_, rfl, New.of rfl hx ha hw⟩)
  rw [search_Found] at h
  replace hs0 := hs0.mono (rdLe_frozen M) (fun _ _ h => h)
  replace hs1 := hs1.mono (rdLe_frozen M) (fun _ _ => rep58_mo (rdLe_frozen M))
  have hH := Has.nil (frozen M)
  refine Run.seq (Run.region ?_)
  refine Run.opX wantS_none rfl (ExG.box rfl rfl hH) ?_
  rintro _ M23 ⟨b22, rfl, hH23⟩
  refine Run.opG wantS_none (ex_assign rfl) rfl ?_
  refine Run.opG wantS_none (ex_assign rfl) rfl ?_
  refine Run.opsEnd (Run.seq (Run.seq (Run.region ?_)))
  refine Run.opG wantS_none (ex_move rfl) rfl ?_
  have hr25 : Rows (rep61 (ro (frozen M))) 1 [s0] ([a0] : List (List S_api_Trigger)) := (Rows.cons (cs := [s0]) rfl ⟨s0, rfl, hs0⟩ Rows.nil)
  refine Run.opX wantS_none rfl (ExG.builtR (z := 1) (c := [s0]) rfl elt187 rfl (by simp only [fillS, cells_one (slc_one hs0)]; rfl) rfl hH23) ?_
  rintro s25 M26 (hH26 : Has (ro (frozen M)) M26 [.vec 61 1 ([a0] : List (List S_api_Trigger)).length s25 [s0], .obj b22 (.row 3 .whole [(.int .i64 a3)])])
  obtain ⟨r28, hr28, h⟩ := bnd_some h
  refine Run.callP wantS_none (ex_call rfl mkk64 cal64) rfl (search_checkTriggers_ok F ([a0] : List (List S_api_Trigger)) s25 _ _ (((hH26.slcR (i := 0) rfl hr25)).mono (fun _ _ h => h) (fun _ _ => rep61_mo hH26.le)) hr28) ?_
  refine Run.opG wantS_none (ex_assign rfl) rfl ?_
  refine Run.opsEnd (Run.block (Run.seq (Run.region ?_)))
  refine Run.opG wantS_none (ex_move rfl) rfl ?_
  refine Run.opG wantS_none (ex_neq rfl rfl) rfl ?_
  refine Run.opG wantS_none (ex_assign rfl) rfl ?_
  refine Run.opsEnd ?_
  rcases btf ((!(r28 == (0 : Int)))) with hc30 | hc30
  · have h := bif_t hc30 h
    refine Run.condT' rfl hc30 ?_
    refine Run.seq (Run.region ?_)
    refine Run.opG wantS_none (ex_move rfl) rfl ?_
    refine Run.opG wantS_none (ex_assign rfl) rfl ?_
    refine Run.opG wantS_none (ex_assign rfl) rfl ?_
    refine Run.opsEnd ?_
    have hH32 : Has (ro (frozen M)) M26 [.vec 4 1 ([] : List Bool).length .nils (([] : List Bool).flatMap enc4), .vec 61 1 ([a0] : List (List S_api_Trigger)).length s25 [s0], .obj b22 (.row 3 .whole [(.int .i64 a3)])] := hH26.nils 4 1
    cases h
    exact Run.ret Tryz.func21 rfl (res_tmp rfl (res_tmp rfl res_nil)) ⟨_, rfl, (hH32.pick [0] rfl rfl).upF (none_le _)⟩
  · have h := bif_f hc30 h
    refine Run.condF' rfl hc30 ?_
    refine Run.seq (Run.region ?_)
    refine Run.opG wantS_none (ex_move rfl) rfl ?_
    obtain ⟨r34, hr34, h⟩ := bnd_some h
    refine Run.callP wantS_none (ex_call rfl mkk65 cal65) rfl (search_isFrom_ok F (0 : Int) a2 (1024 : Int) _ _ hr34) ?_
    refine Run.opG wantS_none (ex_not rfl) rfl ?_
    refine Run.opG wantS_none (ex_move rfl) rfl ?_
    rcases btf ((!r34)) with hc36 | hc36
    · have h := bif_t hc36 h
      refine Run.no (wantS_not' rfl rfl hc36) rfl ?_
      refine Run.no (wantS_not' rfl rfl hc36) rfl ?_
      refine Run.no (wantS_not' rfl rfl hc36) rfl ?_
      refine Run.opG wantS_none (ex_pickT' rfl hc36 rfl rfl) rfl ?_
      exact Run.pick [0, 1, 2, 7, 30] (search_Found_1_ok F a0 a1 a2 true a3 s0 s1 b22 _ _ _ hs0 hs1 (hH26.pick [1] rfl rfl) h)
    · have h := bif_f hc36 h
      refine Run.opG (wantS_yes' rfl rfl hc36) (ex_load1 rfl (hH26.cells (i := 1) rfl 0 rfl) rdLe_rfl agg3) rfl ?_
      obtain ⟨r82, hr82, h⟩ := bnd_some h
      refine Run.callP (wantS_yes' rfl rfl hc36) (ex_call rfl mkk65 cal65) rfl (search_isFrom_ok F (0 : Int) a3 (1073741824 : Int) _ _ hr82) ?_
      refine Run.opG (wantS_yes' rfl rfl hc36) (ex_not rfl) rfl ?_
      refine Run.opG wantS_none (ex_pickF' rfl hc36 rfl rfl) rfl ?_
      exact Run.pick [0, 1, 2, 7, 30] (search_Found_1_ok F a0 a1 a2 (!r82) a3 s0 s1 b22 _ _ _ hs0 hs1 (hH26.pick [1] rfl rfl) h)

theorem mkk21 : makeK Tryz.prog 21 = none := by kernel_rfl
theorem cal21 : callable Tryz.prog 21 = true := by kernel_rfl
theorem lenk64 : lenK Tryz.prog 64 = some .sl := by kernel_rfl
theorem els64 : elems Tryz.prog 64 = some (.sl 1) := by kernel_rfl
theorem agg4 : aggSize Tryz.prog 4 = some none := by kernel_rfl
theorem plan5_1_1_1_1_1_1_1_1_0_0 : planOf Tryz.prog (opsC (atC Tryz.prog 5 [1, 1, 1, 1, 1, 1, 1, 1, 0, 0])) = some [.fl 0, .fl 1, .fl 2, .fl 3, .fl 4, .fl 5, .fl 6, .fl 7, .fl 8, .fl 9, .fl 10, .fl 11, .fl 12, .fl 13, .fl 14, .fl 15, .fl 16, .fl 17, .fl 18, .fl 19, .fl 20, .fl 21, .fl 22, .sync] := by kernel_rfl
abbrev law08_SearchFilled_post (r : Bool) : SV → Mem → Prop := fun s _ => s = (.bool r)

def law08_SearchFilled_8 (F : Nat) (v128 : Bool) : Option (Bool) :=
  some v128

theorem law08_SearchFilled_8_ok (F : Nat) : ∀ (v128 : Bool) (Fr : Rd) (M : Mem) (r : Bool) (hH : Has Fr M [tb0]), law08_SearchFilled_8 F v128 = some r → Run Tryz.prog ⟨⟨5, [], none⟩, []⟩ 129 (law08_SearchFilled_post r) [(128, (.bool v128))] [itemC Tryz.prog 5 [1, 1, 1, 1, 1, 1, 1, 1, 1, 1, 1, 1, 1, 1, 0] 15, codeC Tryz.prog 5 [1, 1, 1, 1, 1, 1, 1, 1, 1, 1, 1, 1, 1, 1, 1]] M := by
  intro v128 Fr M r hH h
  rw [law08_SearchFilled_8] at h
  refine Run.opG wantS_none (ex_assign rfl) rfl ?_
  refine Run.opsEnd ?_
  cases h
  exact Run.ret Tryz.func5 rfl (res_tmp rfl res_nil) rfl

def law08_SearchFilled_7 (F : Nat) (v125 : Bool) : Option (Bool) :=
  bif v125 then
    bnd (works F) fun r134 =>
    law08_SearchFilled_8 F r134
  else
    law08_SearchFilled_8 F false

theorem law08_SearchFilled_7_ok (F : Nat) : ∀ (v125 : Bool) (Fr : Rd) (M : Mem) (r : Bool) (hH : Has Fr M [tb0]), law08_SearchFilled_7 F v125 = some r → Run Tryz.prog ⟨⟨5, [], none⟩, []⟩ 129 (law08_SearchFilled_post r) [(125, (.bool v125))] [itemC Tryz.prog 5 [1, 1, 1, 1, 1, 1, 1, 1, 1, 1, 1, 1, 1, 1, 0] 12, codeC Tryz.prog 5 [1, 1, 1, 1, 1, 1, 1, 1, 1, 1, 1, 1, 1, 1, 1]] M := by
  intro v125 Fr M r hH h
  rw [law08_SearchFilled_7] at h
  refine Run.opG wantS_none (ex_move rfl) rfl ?_
  rcases btf (v125) with hc132 | hc132
  · have h := bif_t hc132 h
    obtain ⟨r134, hr134, h⟩ := bnd_some h
    refine Run.callP (wantS_yes' rfl rfl hc132) (ex_call rfl mkk19 cal19) rfl (works_ok F r134 _ hH (List.mem_of_getElem? (i := 0) rfl) hr134) ?_
    refine Run.opG wantS_none (ex_pickT' rfl hc132 rfl rfl) rfl ?_
    exact Run.pick [128] (law08_SearchFilled_8_ok F r134 _ _ _ hH h)
  · have h := bif_f hc132 h
    refine Run.no (wantS_not' rfl rfl hc132) rfl ?_
    refine Run.opG wantS_none (ex_pickF' rfl hc132 rfl rfl) rfl ?_
    exact Run.pick [128] (law08_SearchFilled_8_ok F false _ _ _ hH h)

def law08_SearchFilled_6 (F : Nat) (v120 : Bool) (l126 : (List Bool)) : Option (Bool) :=
  bif v120 then
    bnd (idx l126 (0 : Int)) fun x131 =>
    law08_SearchFilled_7 F x131
  else
    law08_SearchFilled_7 F false

theorem law08_SearchFilled_6_ok (F : Nat) : ∀ (v120 : Bool) (l126 : (List Bool)) (s126 : SV) (Fr : Rd) (M : Mem) (r : Bool) (hH : Has Fr M [.vec 4 1 l126.length s126 (l126.flatMap enc4), tb0]), law08_SearchFilled_6 F v120 l126 = some r → Run Tryz.prog ⟨⟨5, [], none⟩, []⟩ 129 (law08_SearchFilled_post r) [(17, s126), (120, (.bool v120))] [itemC Tryz.prog 5 [1, 1, 1, 1, 1, 1, 1, 1, 1, 1, 1, 1, 1, 1, 0] 7, codeC Tryz.prog 5 [1, 1, 1, 1, 1, 1, 1, 1, 1, 1, 1, 1, 1, 1, 1]] M := by
  intro v120 l126 s126 Fr M r hH h
  rw [law08_SearchFilled_6] at h
  refine Run.opG wantS_none (ex_move rfl) rfl ?_
  rcases btf (v120) with hc129 | hc129
  · have h := bif_t hc129 h
    refine Run.opG (wantS_yes' rfl rfl hc129) (ex_move rfl) rfl ?_
    obtain ⟨x131, hx131, h⟩ := bnd_some h
    obtain ⟨p131, o131, hb131, hx131, he131⟩ := vec_elem (P := Tryz.prog) (t := 64) (kk := .i64) hH (i := 0) rfl hx131 els64
    refine Run.opG (wantS_yes' rfl rfl hc129) (ex_elX rfl rfl hx131) rfl ?_
    refine Run.opG (wantS_yes' rfl rfl hc129) (ex_load1 rfl (hH.at (enc := enc4) (a := x131) (i := 0) rfl hb131 he131 enc4_len) rdLe_rfl agg4) rfl ?_
    refine Run.opG wantS_none (ex_pickT' rfl hc129 rfl rfl) rfl ?_
    exact Run.pick [125] (law08_SearchFilled_7_ok F x131 _ _ _ (hH.pick [1] rfl rfl) h)
  · have h := bif_f hc129 h
    refine Run.no (wantS_not' rfl rfl hc129) rfl ?_
    refine Run.no (wantS_not' rfl rfl hc129) rfl ?_
    refine Run.no (wantS_not' rfl rfl hc129) rfl ?_
    refine Run.opG wantS_none (ex_pickF' rfl hc129 rfl rfl) rfl ?_
    exact Run.pick [125] (law08_SearchFilled_7_ok F false _ _ _ (hH.pick [1] rfl rfl) h)

def law08_SearchFilled_5 (F : Nat) : Nat → Int → (List S_api_Wave) → (List S_api_Hit) → (List S_api_Trigger) → Option (Bool)
  | 0, _, _, _, _ => none
  | N + 1, v16, l83, l107, l110 =>
    bif (decide (v16 < (l107.length : Int))) then
      bnd (idx l107 v16) fun x114 =>
      bnd (apd 24 l110 ([(S_api_Trigger.mk x114.Time 1 0)] : List S_api_Trigger)) fun l120 =>
      (law08_SearchFilled_5 F N) (w64 (v16 + (1 : Int))) l83 l107 l120
    else
      bnd (search_Found F l110 l83 (40 : Int) (0 : Int)) fun r125 =>
      bif (r125.2 == (0 : Int)) then
        law08_SearchFilled_6 F ((r125.1.length : Int) == (1 : Int)) r125.1
      else
        law08_SearchFilled_6 F false r125.1

theorem law08_SearchFilled_5_ok (F : Nat) : ∀ (N : Nat), ∀ (v16 : Int) (l83 : (List S_api_Wave)) (l107 : (List S_api_Hit)) (l110 : (List S_api_Trigger)) (s83 : SV) (r83 : (List SV)) (s107 s110 : SV) (Fr : Rd) (M : Mem) (r : Bool) (hr83 : Rows (rep58 Fr) 3 r83 l83) (hH : Has Fr M [.vec 58 3 l83.length s83 r83, .vec 54 3 l107.length s107 (l107.flatMap enc54), .vec 63 3 l110.length s110 (l110.flatMap enc63), tb0]), law08_SearchFilled_5 F N v16 l83 l107 l110 = some r → Run Tryz.prog ⟨⟨5, [], none⟩, []⟩ 129 (law08_SearchFilled_post r) [(11, s83), (14, s107), (15, s110), (16, (.int .i64 v16))] [codeC Tryz.prog 5 [1, 1, 1, 1, 1, 1, 1, 1, 1, 1, 1, 1, 0, 1, 0, 0], loopC Tryz.prog 5 [1, 1, 1, 1, 1, 1, 1, 1, 1, 1, 1, 1, 0, 1, 0, 0], .inBlock 0, codeC Tryz.prog 5 [1, 1, 1, 1, 1, 1, 1, 1, 1, 1, 1, 1, 1]] M := by
  intro N
  induction N with
  | zero =>
    intro v16 l83 l107 l110 s83 r83 s107 s110 Fr M r hr83 hH h
    simp [law08_SearchFilled_5] at h
  | succ N ih =>
    intro v16 l83 l107 l110 s83 r83 s107 s110 Fr M r hr83 hH h
    rw [law08_SearchFilled_5] at h
    refine Run.seq (Run.seq (Run.region ?_))
    refine Run.opG wantS_none (ex_move rfl) rfl ?_
    refine Run.opG wantS_none (ex_move rfl) rfl ?_
    refine Run.opG wantS_none (ex_len' rfl (hH.slc (i := 1) rfl enc54_len) lenk50) rfl ?_
    refine Run.opG wantS_none (ex_lss rfl rfl) rfl ?_
    refine Run.opsEnd ?_
    rcases btf ((decide (v16 < (l107.length : Int)))) with hc112 | hc112
    · have h := bif_t hc112 h
      refine Run.condT' rfl hc112 ?_
      refine Run.skip (Run.seq (Run.block (Run.region ?_)))
      refine Run.opG wantS_none (ex_move rfl) rfl ?_
      refine Run.opG wantS_none (ex_move rfl) rfl ?_
      refine Run.opG wantS_none (ex_move rfl) rfl ?_
      obtain ⟨x114, hx114, h⟩ := bnd_some h
      obtain ⟨p114, o114, hb114, hx114, he114⟩ := vec_elem (P := Tryz.prog) (t := 50) (kk := .i64) hH (i := 1) rfl hx114 els50
      refine Run.opG wantS_none (ex_elX rfl rfl hx114) rfl ?_
      refine Run.opG wantS_none (ex_fieldAddr rfl off54_0) rfl ?_
      refine Run.opG wantS_none (ex_load1 rfl ((hH.at (enc := enc54) (a := x114) (i := 1) rfl hb114 he114 enc54_len).fld (o := 0) rfl) rdLe_rfl agg3) rfl ?_
      refine Run.opG wantS_none (ex_build (r := [(.int .i64 x114.Time), (.int .i64 1), (.int .i64 0)]) rfl zer63 pls63 rfl) rfl ?_
      refine Run.opX wantS_none rfl (ExG.built (enc := enc63) (l := ([(S_api_Trigger.mk x114.Time 1 0)] : List S_api_Trigger)) (z := 3) rfl elt61 rfl rfl rfl enc63_len hH) ?_
      rintro s116 M117 (hH117 : Has Fr M117 [.vec 63 3 ([(S_api_Trigger.mk x114.Time 1 0)] : List S_api_Trigger).length s116 (([(S_api_Trigger.mk x114.Time 1 0)] : List S_api_Trigger).flatMap enc63), .vec 58 3 l83.length s83 r83, .vec 54 3 l107.length s107 (l107.flatMap enc54), .vec 63 3 l110.length s110 (l110.flatMap enc63), tb0])
      obtain ⟨l120, hl120, h⟩ := bnd_some h
      refine Run.opX wantS_none rfl (ExG.append rfl rfl hH117 (i := 3) rfl enc63_len rfl enc63_ones appt61_61 rfl (len_slc (hH117.slc (i := 0) rfl enc63_len)) (first_slc (hH117.slc (i := 0) rfl enc63_len) (rdLe_rdRow _) enc63_len) hl120) ?_
      rintro s120 M122 (hH122 : Has Fr M122 [.vec 63 3 ([(S_api_Trigger.mk x114.Time 1 0)] : List S_api_Trigger).length s116 (([(S_api_Trigger.mk x114.Time 1 0)] : List S_api_Trigger).flatMap enc63), .vec 58 3 l83.length s83 r83, .vec 54 3 l107.length s107 (l107.flatMap enc54), .vec 63 3 l120.length s120 (l120.flatMap enc63), tb0])
      refine Run.opG wantS_none (ex_assign rfl) rfl ?_
      refine Run.opsEnd (Run.inBlock (Run.region ?_))
      refine Run.opG wantS_none (ex_move rfl) rfl ?_
      refine Run.opG wantS_none (ex_add rfl rfl) rfl ?_
      refine Run.opG wantS_none (ex_assign rfl) rfl ?_
      refine Run.opsEnd (Run.inLoop ?_)
      exact Run.pick [11, 14, 15, 16] (ih (w64 (v16 + (1 : Int))) l83 l107 l120 s83 r83 s107 s120 _ _ _ hr83 (hH122.pick [1, 2, 3, 4] rfl rfl) h)
    · have h := bif_f hc112 h
      refine Run.condF' rfl hc112 ?_
      refine Run.exit rfl (Run.seq (Run.region ?_))
      refine Run.opG wantS_none (ex_move rfl) rfl ?_
      refine Run.opG wantS_none (ex_move rfl) rfl ?_
      obtain ⟨r125, hr125, h⟩ := bnd_some h
      refine Run.callX wantS_none (ex_call rfl mkk21 cal21) rfl (search_Found_ok F l110 l83 (40 : Int) (0 : Int) s110 s83 _ _ (hH.slc (i := 2) rfl enc63_len) (((hH.slcR (i := 0) rfl hr83)).mono (fun _ _ h => h) (fun _ _ => rep58_mo hH.le)) hr125) ?_
      rintro _ M127 ⟨s125_0, rfl, hN125⟩
      have hH127 : Has Fr M127 [.vec 4 1 r125.1.length s125_0 (r125.1.flatMap enc4), .vec 58 3 l83.length s83 r83, .vec 54 3 l107.length s107 (l107.flatMap enc54), .vec 63 3 l110.length s110 (l110.flatMap enc63), tb0] := hN125.1 _ _ hH
      refine Run.opG wantS_none (ex_move rfl) rfl ?_
      refine Run.opG wantS_none (ex_extract rfl rfl) rfl ?_
      refine Run.opG wantS_none (ex_extract rfl rfl) rfl ?_
      refine Run.opG wantS_none (ex_assign rfl) rfl ?_
      refine Run.opG wantS_none (ex_assign rfl) rfl ?_
      refine Run.opsEnd (Run.seq (Run.region ?_))
      refine Run.opG wantS_none (ex_move rfl) rfl ?_
      refine Run.opG wantS_none (ex_eql rfl rfl) rfl ?_
      refine Run.opG wantS_none (ex_move rfl) rfl ?_
      rcases btf ((r125.2 == (0 : Int))) with hc128 | hc128
      · have h := bif_t hc128 h
        refine Run.opG (wantS_yes' rfl rfl hc128) (ex_move rfl) rfl ?_
        refine Run.opG (wantS_yes' rfl rfl hc128) (ex_len' rfl (hH127.slc (i := 0) rfl enc4_len) lenk64) rfl ?_
        refine Run.opG (wantS_yes' rfl rfl hc128) (ex_eql rfl rfl) rfl ?_
        refine Run.opG wantS_none (ex_pickT' rfl hc128 rfl rfl) rfl ?_
        exact Run.pick [17, 120] (law08_SearchFilled_6_ok F ((r125.1.length : Int) == (1 : Int)) r125.1 s125_0 _ _ _ (hH127.pick [0, 4] rfl rfl) h)
      · have h := bif_f hc128 h
        refine Run.no (wantS_not' rfl rfl hc128) rfl ?_
        refine Run.no (wantS_not' rfl rfl hc128) rfl ?_
        refine Run.no (wantS_not' rfl rfl hc128) rfl ?_
        refine Run.opG wantS_none (ex_pickF' rfl hc128 rfl rfl) rfl ?_
        exact Run.pick [17, 120] (law08_SearchFilled_6_ok F false r125.1 s125_0 _ _ _ (hH127.pick [0, 4] rfl rfl) h)

def law08_SearchFilled_4 (F : Nat) (v83 : Bool) (c23 : S_api_Chirp) (l83 : (List S_api_Wave)) (l91 : (List Int)) : Option (Bool) :=
  bif v83 then
    some false
  else
    bnd (bank_Hits F (8 : Int) ([c23] : List S_api_Chirp) l91 (1 : Int) (1 : Int)) fun r106 =>
    bif (!(r106.2 == (0 : Int))) then
      some false
    else
      law08_SearchFilled_5 F F (0 : Int) l83 r106.1 ([] : List S_api_Trigger)

theorem law08_SearchFilled_4_ok (F : Nat) : ∀ (v83 : Bool) (c23 : S_api_Chirp) (l83 : (List S_api_Wave)) (l91 : (List Int)) (b23 : Pos) (s83 : SV) (r83 : (List SV)) (s91 : SV) (Fr : Rd) (M : Mem) (r : Bool) (hr83 : Rows (rep58 Fr) 3 r83 l83) (hH : Has Fr M [.obj b23 (.row 27 .whole [(.int .i64 c23.P), (.int .i64 c23.Q)]), .vec 58 3 l83.length s83 r83, .vec 3 1 l91.length s91 (l91.flatMap enc3), tb0]), law08_SearchFilled_4 F v83 c23 l83 l91 = some r → Run Tryz.prog ⟨⟨5, [], none⟩, []⟩ 129 (law08_SearchFilled_post r) [(3, (.ptr b23 0)), (11, s83), (12, s91), (83, (.bool v83))] [codeC Tryz.prog 5 [1, 1, 1, 1, 1, 1, 1, 1, 0, 1], codeC Tryz.prog 5 [1, 1, 1, 1, 1, 1, 1, 1, 1]] M := by
  intro v83 c23 l83 l91 b23 s83 r83 s91 Fr M r hr83 hH h
  rw [law08_SearchFilled_4] at h
  rcases btf (v83) with hc100 | hc100
  · have h := bif_t hc100 h
    refine Run.condT' rfl hc100 ?_
    refine Run.seq (Run.region ?_)
    refine Run.opG wantS_none (ex_assign rfl) rfl ?_
    refine Run.opsEnd ?_
    cases h
    exact Run.ret Tryz.func5 rfl (res_tmp rfl res_nil) rfl
  · have h := bif_f hc100 h
    refine Run.condF' rfl hc100 ?_
    refine Run.skip (Run.seq (Run.region ?_))
    refine Run.opG wantS_none (ex_loadA rfl (hH.cells (i := 0) rfl 0 rfl) rdLe_rfl agg27 rfl rfl rfl) rfl ?_
    refine Run.opX wantS_none rfl (ExG.built (enc := enc27) (l := ([c23] : List S_api_Chirp)) (z := 2) rfl elt43 rfl rfl rfl enc27_len hH) ?_
    rintro s102 M103 (hH103 : Has Fr M103 [.vec 27 2 ([c23] : List S_api_Chirp).length s102 (([c23] : List S_api_Chirp).flatMap enc27), .obj b23 (.row 27 .whole [(.int .i64 c23.P), (.int .i64 c23.Q)]), .vec 58 3 l83.length s83 r83, .vec 3 1 l91.length s91 (l91.flatMap enc3), tb0])
    refine Run.opG wantS_none (ex_move rfl) rfl ?_
    obtain ⟨r106, hr106, h⟩ := bnd_some h
    refine Run.callX wantS_none (ex_call rfl mkk17 cal17) rfl (bank_Hits_ok F (8 : Int) ([c23] : List S_api_Chirp) l91 (1 : Int) (1 : Int) s102 s91 _ _ (hH103.slc (i := 0) rfl enc27_len) (hH103.slc (i := 3) rfl enc3_len) (fixH hH103 (List.mem_of_getElem? (i := 4) rfl)) hr106) ?_
    rintro _ M108 ⟨s106_0, rfl, hN106⟩
    have hH108 : Has Fr M108 [.vec 54 3 r106.1.length s106_0 (r106.1.flatMap enc54), .vec 27 2 ([c23] : List S_api_Chirp).length s102 (([c23] : List S_api_Chirp).flatMap enc27), .obj b23 (.row 27 .whole [(.int .i64 c23.P), (.int .i64 c23.Q)]), .vec 58 3 l83.length s83 r83, .vec 3 1 l91.length s91 (l91.flatMap enc3), tb0] := hN106.1 _ _ hH103
    refine Run.opG wantS_none (ex_move rfl) rfl ?_
    refine Run.opG wantS_none (ex_extract rfl rfl) rfl ?_
    refine Run.opG wantS_none (ex_extract rfl rfl) rfl ?_
    refine Run.opG wantS_none (ex_assign rfl) rfl ?_
    refine Run.opG wantS_none (ex_assign rfl) rfl ?_
    refine Run.opsEnd (Run.seq (Run.seq (Run.region ?_)))
    refine Run.opG wantS_none (ex_move rfl) rfl ?_
    refine Run.opG wantS_none (ex_neq rfl rfl) rfl ?_
    refine Run.opsEnd ?_
    rcases btf ((!(r106.2 == (0 : Int)))) with hc109 | hc109
    · have h := bif_t hc109 h
      refine Run.condT' rfl hc109 ?_
      refine Run.seq (Run.region ?_)
      refine Run.opG wantS_none (ex_assign rfl) rfl ?_
      refine Run.opsEnd ?_
      cases h
      exact Run.ret Tryz.func5 rfl (res_tmp rfl res_nil) rfl
    · have h := bif_f hc109 h
      refine Run.condF' rfl hc109 ?_
      refine Run.skip (Run.seq (Run.region ?_))
      refine Run.opG wantS_none (ex_assign rfl) rfl ?_
      refine Run.opsEnd (Run.seq (Run.seq (Run.region ?_)))
      refine Run.opG wantS_none (ex_assign rfl) rfl ?_
      refine Run.opsEnd (Run.block (Run.loop ?_))
      have hH111 : Has Fr M108 [.vec 63 3 ([] : List S_api_Trigger).length .nils (([] : List S_api_Trigger).flatMap enc63), .vec 54 3 r106.1.length s106_0 (r106.1.flatMap enc54), .vec 27 2 ([c23] : List S_api_Chirp).length s102 (([c23] : List S_api_Chirp).flatMap enc27), .obj b23 (.row 27 .whole [(.int .i64 c23.P), (.int .i64 c23.Q)]), .vec 58 3 l83.length s83 r83, .vec 3 1 l91.length s91 (l91.flatMap enc3), tb0] := hH108.nils 63 3
      exact Run.pick [11, 14, 15, 16] (law08_SearchFilled_5_ok F F (0 : Int) l83 r106.1 ([] : List S_api_Trigger) s83 r83 s106_0 .nils _ _ _ hr83 (hH111.pick [4, 1, 0, 6] rfl rfl) h)

def law08_SearchFilled_3 (F : Nat) (v1 v2 : Int) (v7 : (List Int)) (v9 : Int) (v37 : Bool) (c23 : S_api_Chirp) : Option (Bool) :=
  bif v37 then
    bnd (works F) fun r74 =>
    some r74
  else
    bnd (ref00_Mod F v1 (33 : Int)) fun r77 =>
    bnd (ref00_Mod F v2 (64 : Int)) fun r80 =>
    bnd (mk (40 : Int) 8 (0 : Int)) fun l86 =>
    bnd (search_Inject F l86 ([(S_api_Wave.mk r77 (w64 ((1 : Int) + r80)) v7)] : List S_api_Wave)) fun r90 =>
    bif (!(r90.2 == (0 : Int))) then
      some false
    else
      bnd (bank_Filter F (8 : Int) c23 r90.1) fun r96 =>
      bif (!(r96.2 == (0 : Int))) then
        law08_SearchFilled_4 F true c23 ([(S_api_Wave.mk r77 (w64 ((1 : Int) + r80)) v7)] : List S_api_Wave) r90.1
      else
        bif (!((r96.1.length : Int) == (33 : Int))) then
          law08_SearchFilled_4 F true c23 ([(S_api_Wave.mk r77 (w64 ((1 : Int) + r80)) v7)] : List S_api_Wave) r90.1
        else
          bnd (idx ([(S_api_Wave.mk r77 (w64 ((1 : Int) + r80)) v7)] : List S_api_Wave) (0 : Int)) fun x137 =>
          bnd (idx r96.1 x137.At) fun x138 =>
          bnd (idx ([(S_api_Wave.mk r77 (w64 ((1 : Int) + r80)) v7)] : List S_api_Wave) (0 : Int)) fun x139 =>
          law08_SearchFilled_4 F (!(x138 == (w64 (x139.Gain * v9)))) c23 ([(S_api_Wave.mk r77 (w64 ((1 : Int) + r80)) v7)] : List S_api_Wave) r90.1

theorem law08_SearchFilled_3_ok (F : Nat) : ∀ (v1 v2 : Int) (v7 : (List Int)) (v9 : Int) (v37 : Bool) (c23 : S_api_Chirp) (sv7 : SV) (b23 : Pos) (Fr : Rd) (M : Mem) (r : Bool) (hv7 : Slc Fr 1 (FlatR enc3) sv7 v7) (hH : Has Fr M [.obj b23 (.row 27 .whole [(.int .i64 c23.P), (.int .i64 c23.Q)]), tb0]), law08_SearchFilled_3 F v1 v2 v7 v9 v37 c23 = some r → Run Tryz.prog ⟨⟨5, [], none⟩, []⟩ 129 (law08_SearchFilled_post r) [(1, (.int .i64 v1)), (2, (.int .i64 v2)), (3, (.ptr b23 0)), (7, sv7), (9, (.int .i64 v9)), (37, (.bool v37))] [codeC Tryz.prog 5 [1, 1, 1, 0, 1], codeC Tryz.prog 5 [1, 1, 1, 1]] M := by
  intro v1 v2 v7 v9 v37 c23 sv7 b23 Fr M r hv7 hH h
  rw [law08_SearchFilled_3] at h
  rcases btf (v37) with hc72 | hc72
  · have h := bif_t hc72 h
    refine Run.condT' rfl hc72 ?_
    refine Run.seq (Run.region ?_)
    obtain ⟨r74, hr74, h⟩ := bnd_some h
    refine Run.callP wantS_none (ex_call rfl mkk19 cal19) rfl (works_ok F r74 _ hH (List.mem_of_getElem? (i := 1) rfl) hr74) ?_
    refine Run.opG wantS_none (ex_assign rfl) rfl ?_
    refine Run.opsEnd ?_
    cases h
    exact Run.ret Tryz.func5 rfl (res_tmp rfl res_nil) rfl
  · have h := bif_f hc72 h
    refine Run.condF' rfl hc72 ?_
    refine Run.skip (Run.seq (Run.region ?_))
    refine Run.opG wantS_none (ex_move rfl) rfl ?_
    obtain ⟨r77, hr77, h⟩ := bnd_some h
    refine Run.callP wantS_none (ex_call rfl mkk14 cal14) rfl (ref00_Mod_ok F v1 (33 : Int) _ _ hr77) ?_
    refine Run.opG wantS_none (ex_move rfl) rfl ?_
    obtain ⟨r80, hr80, h⟩ := bnd_some h
    refine Run.callP wantS_none (ex_call rfl mkk14 cal14) rfl (ref00_Mod_ok F v2 (64 : Int) _ _ hr80) ?_
    refine Run.opG wantS_none (ex_add rfl rfl) rfl ?_
    refine Run.opG wantS_none (ex_move rfl) rfl ?_
    refine Run.opG wantS_none (ex_build (r := [(.int .i64 r77), (.int .i64 (w64 ((1 : Int) + r80))), sv7]) rfl zer58 pls58 (by simp only [fillS, cells_one (slc_one hv7)]; rfl)) rfl ?_
    have hr83 : Rows (rep58 Fr) 3 [(.int .i64 r77), (.int .i64 (w64 ((1 : Int) + r80))), sv7] ([(S_api_Wave.mk r77 (w64 ((1 : Int) + r80)) v7)] : List S_api_Wave) := (Rows.cons (cs := [(.int .i64 r77), (.int .i64 (w64 ((1 : Int) + r80))), sv7]) rfl ⟨sv7, rfl, hv7⟩ Rows.nil)
    refine Run.opX wantS_none rfl (ExG.builtR (z := 3) (c := [(.int .i64 r77), (.int .i64 (w64 ((1 : Int) + r80))), sv7]) rfl elt59 rfl rfl rfl hH) ?_
    rintro s83 M84 (hH84 : Has Fr M84 [.vec 58 3 ([(S_api_Wave.mk r77 (w64 ((1 : Int) + r80)) v7)] : List S_api_Wave).length s83 [(.int .i64 r77), (.int .i64 (w64 ((1 : Int) + r80))), sv7], .obj b23 (.row 27 .whole [(.int .i64 c23.P), (.int .i64 c23.Q)]), tb0])
    refine Run.opG wantS_none (ex_assign rfl) rfl ?_
    refine Run.opsEnd (Run.seq (Run.region ?_))
    obtain ⟨l86, hl86, h⟩ := bnd_some h
    refine Run.opX wantS_none rfl (ExG.make (enc := enc3) (z := 1) rfl rfl hl86 elt25 rfl rfl enc3_len hH84) ?_
    rintro s86 M87 (hH87 : Has Fr M87 [.vec 3 1 l86.length s86 (l86.flatMap enc3), .vec 58 3 ([(S_api_Wave.mk r77 (w64 ((1 : Int) + r80)) v7)] : List S_api_Wave).length s83 [(.int .i64 r77), (.int .i64 (w64 ((1 : Int) + r80))), sv7], .obj b23 (.row 27 .whole [(.int .i64 c23.P), (.int .i64 c23.Q)]), tb0])
    refine Run.opG wantS_none (ex_move rfl) rfl ?_
    obtain ⟨r90, hr90, h⟩ := bnd_some h
    refine Run.callX wantS_none (ex_call rfl mkk20 cal20) rfl (search_Inject_ok F l86 ([(S_api_Wave.mk r77 (w64 ((1 : Int) + r80)) v7)] : List S_api_Wave) s86 s83 _ _ (hH87.slc (i := 0) rfl enc3_len) (((hH87.slcR (i := 1) rfl hr83)).mono (fun _ _ h => h) (fun _ _ => rep58_mo hH87.le)) hr90) ?_
    rintro _ M92 ⟨s90_0, rfl, hN90⟩
    have hH92 : Has Fr M92 [.vec 3 1 r90.1.length s90_0 (r90.1.flatMap enc3), .vec 3 1 l86.length s86 (l86.flatMap enc3), .vec 58 3 ([(S_api_Wave.mk r77 (w64 ((1 : Int) + r80)) v7)] : List S_api_Wave).length s83 [(.int .i64 r77), (.int .i64 (w64 ((1 : Int) + r80))), sv7], .obj b23 (.row 27 .whole [(.int .i64 c23.P), (.int .i64 c23.Q)]), tb0] := hN90.1 _ _ hH87
    refine Run.opG wantS_none (ex_move rfl) rfl ?_
    refine Run.opG wantS_none (ex_extract rfl rfl) rfl ?_
    refine Run.opG wantS_none (ex_extract rfl rfl) rfl ?_
    refine Run.opG wantS_none (ex_assign rfl) rfl ?_
    refine Run.opG wantS_none (ex_assign rfl) rfl ?_
    refine Run.opsEnd (Run.seq (Run.seq (Run.region ?_)))
    refine Run.opG wantS_none (ex_move rfl) rfl ?_
    refine Run.opG wantS_none (ex_neq rfl rfl) rfl ?_
    refine Run.opsEnd ?_
    rcases btf ((!(r90.2 == (0 : Int)))) with hc93 | hc93
    · have h := bif_t hc93 h
      refine Run.condT' rfl hc93 ?_
      refine Run.seq (Run.region ?_)
      refine Run.opG wantS_none (ex_assign rfl) rfl ?_
      refine Run.opsEnd ?_
      cases h
      exact Run.ret Tryz.func5 rfl (res_tmp rfl res_nil) rfl
    · have h := bif_f hc93 h
      refine Run.condF' rfl hc93 ?_
      refine Run.skip (Run.seq (Run.region ?_))
      refine Run.opG wantS_none (ex_loadA rfl (hH92.cells (i := 3) rfl 0 rfl) rdLe_rfl agg27 rfl rfl rfl) rfl ?_
      refine Run.opG wantS_none (ex_move rfl) rfl ?_
      obtain ⟨r96, hr96, h⟩ := bnd_some h
      refine Run.callX wantS_none (ex_call rfl mkk11 cal11) rfl (bank_Filter_ok F (8 : Int) c23 r90.1 s90_0 _ _ (hH92.slc (i := 0) rfl enc3_len) (fixH hH92 (List.mem_of_getElem? (i := 4) rfl)) hr96) ?_
      rintro _ M98 ⟨s96_0, rfl, hN96⟩
      have hH98 : Has Fr M98 [.vec 3 1 r96.1.length s96_0 (r96.1.flatMap enc3), .vec 3 1 r90.1.length s90_0 (r90.1.flatMap enc3), .vec 3 1 l86.length s86 (l86.flatMap enc3), .vec 58 3 ([(S_api_Wave.mk r77 (w64 ((1 : Int) + r80)) v7)] : List S_api_Wave).length s83 [(.int .i64 r77), (.int .i64 (w64 ((1 : Int) + r80))), sv7], .obj b23 (.row 27 .whole [(.int .i64 c23.P), (.int .i64 c23.Q)]), tb0] := hN96.1 _ _ hH92
      refine Run.opG wantS_none (ex_move rfl) rfl ?_
      refine Run.opG wantS_none (ex_extract rfl rfl) rfl ?_
      refine Run.opG wantS_none (ex_extract rfl rfl) rfl ?_
      refine Run.opG wantS_none (ex_assign rfl) rfl ?_
      refine Run.opG wantS_none (ex_assign rfl) rfl ?_
      refine Run.opsEnd (Run.seq (Run.seq ?_))
      refine Run.drawG plan5_1_1_1_1_1_1_1_1_0_0 ?_
      refine DrawG.fl rfl (ev_ex wantS_none (ex_move rfl)) rfl ?_
      refine DrawG.fl rfl (ev_ex wantS_none (ex_neq rfl rfl)) rfl ?_
      refine DrawG.fl rfl (ev_ex wantS_none (ex_move rfl)) rfl ?_
      rcases btf ((!(r96.2 == (0 : Int)))) with hc99 | hc99
      · have h := bif_t hc99 h
        refine DrawG.fl rfl (ev_no (wantS_not' rfl rfl hc99)) rfl ?_
        refine DrawG.fl rfl (ev_no (wantS_not' rfl rfl hc99)) rfl ?_
        refine DrawG.fl rfl (ev_no (wantS_not' rfl rfl hc99)) rfl ?_
        refine DrawG.fl rfl (ev_ex wantS_none (ex_pickT' rfl hc99 rfl rfl)) rfl ?_
        refine DrawG.fl rfl (ev_ex wantS_none (ex_move rfl)) rfl ?_
        refine DrawG.fl rfl (ev_no (wantS_not' rfl rfl rfl)) rfl ?_
        refine DrawG.fl rfl (ev_no (wantS_not' rfl rfl rfl)) rfl ?_
        refine DrawG.fl rfl (ev_no (wantS_not' rfl rfl rfl)) rfl ?_
        refine DrawG.fl rfl (ev_no (wantS_not' rfl rfl rfl)) rfl ?_
        refine DrawG.fl rfl (ev_no (wantS_not' rfl rfl rfl)) rfl ?_
        refine DrawG.fl rfl (ev_no (wantS_not' rfl rfl rfl)) rfl ?_
        refine DrawG.fl rfl (ev_no (wantS_not' rfl rfl rfl)) rfl ?_
        refine DrawG.fl rfl (ev_no (wantS_not' rfl rfl rfl)) rfl ?_
        refine DrawG.fl rfl (ev_no (wantS_not' rfl rfl rfl)) rfl ?_
        refine DrawG.fl rfl (ev_no (wantS_not' rfl rfl rfl)) rfl ?_
        refine DrawG.fl rfl (ev_no (wantS_not' rfl rfl rfl)) rfl ?_
        refine DrawG.fl rfl (ev_no (wantS_not' rfl rfl rfl)) rfl ?_
        refine DrawG.fl rfl (ev_no (wantS_not' rfl rfl rfl)) rfl ?_
        refine DrawG.fl rfl (ev_no (wantS_not' rfl rfl rfl)) rfl ?_
        refine DrawG.fl rfl (ev_ex wantS_none (ex_pickT' rfl rfl rfl rfl)) rfl ?_
        refine DrawG.sync ?_
        refine DrawG.nil ?_
        exact Run.pick [3, 11, 12, 83] (law08_SearchFilled_4_ok F true c23 ([(S_api_Wave.mk r77 (w64 ((1 : Int) + r80)) v7)] : List S_api_Wave) r90.1 b23 s83 [(.int .i64 r77), (.int .i64 (w64 ((1 : Int) + r80))), sv7] s90_0 _ _ _ hr83 (hH98.pick [4, 3, 1, 5] rfl rfl) h)
      · have h := bif_f hc99 h
        refine DrawG.fl rfl (ev_ex (wantS_yes' rfl rfl hc99) (ex_move rfl)) rfl ?_
        refine DrawG.fl rfl (ev_ex (wantS_yes' rfl rfl hc99) (ex_len' rfl (hH98.slc (i := 0) rfl enc3_len) lenk25)) rfl ?_
        refine DrawG.fl rfl (ev_ex (wantS_yes' rfl rfl hc99) (ex_neq rfl rfl)) rfl ?_
        refine DrawG.fl rfl (ev_ex wantS_none (ex_pickF' rfl hc99 rfl rfl)) rfl ?_
        refine DrawG.fl rfl (ev_ex wantS_none (ex_move rfl)) rfl ?_
        rcases btf ((!((r96.1.length : Int) == (33 : Int)))) with hc136 | hc136
        · have h := bif_t hc136 h
          refine DrawG.fl rfl (ev_no (wantS_not' rfl rfl hc136)) rfl ?_
          refine DrawG.fl rfl (ev_no (wantS_not' rfl rfl hc136)) rfl ?_
          refine DrawG.fl rfl (ev_no (wantS_not' rfl rfl hc136)) rfl ?_
          refine DrawG.fl rfl (ev_no (wantS_not' rfl rfl hc136)) rfl ?_
          refine DrawG.fl rfl (ev_no (wantS_not' rfl rfl hc136)) rfl ?_
          refine DrawG.fl rfl (ev_no (wantS_not' rfl rfl hc136)) rfl ?_
          refine DrawG.fl rfl (ev_no (wantS_not' rfl rfl hc136)) rfl ?_
          refine DrawG.fl rfl (ev_no (wantS_not' rfl rfl hc136)) rfl ?_
          refine DrawG.fl rfl (ev_no (wantS_not' rfl rfl hc136)) rfl ?_
          refine DrawG.fl rfl (ev_no (wantS_not' rfl rfl hc136)) rfl ?_
          refine DrawG.fl rfl (ev_no (wantS_not' rfl rfl hc136)) rfl ?_
          refine DrawG.fl rfl (ev_no (wantS_not' rfl rfl hc136)) rfl ?_
          refine DrawG.fl rfl (ev_no (wantS_not' rfl rfl hc136)) rfl ?_
          refine DrawG.fl rfl (ev_no (wantS_not' rfl rfl hc136)) rfl ?_
          refine DrawG.fl rfl (ev_ex wantS_none (ex_pickT' rfl hc136 rfl rfl)) rfl ?_
          refine DrawG.sync ?_
          refine DrawG.nil ?_
          exact Run.pick [3, 11, 12, 83] (law08_SearchFilled_4_ok F true c23 ([(S_api_Wave.mk r77 (w64 ((1 : Int) + r80)) v7)] : List S_api_Wave) r90.1 b23 s83 [(.int .i64 r77), (.int .i64 (w64 ((1 : Int) + r80))), sv7] s90_0 _ _ _ hr83 (hH98.pick [4, 3, 1, 5] rfl rfl) h)
        · have h := bif_f hc136 h
          refine DrawG.fl rfl (ev_ex (wantS_yes' rfl rfl hc136) (ex_move rfl)) rfl ?_
          refine DrawG.fl rfl (ev_ex (wantS_yes' rfl rfl hc136) (ex_move rfl)) rfl ?_
          obtain ⟨x137, hx137, h⟩ := bnd_some h
          obtain ⟨p137, o137, hb137, hx137, he137⟩ := vec_elemR (P := Tryz.prog) (t := 59) (kk := .i64) hH98 (i := 3) rfl hx137 els59
          obtain ⟨_, hcs137, hln137, ⟨q137_0, rfl, hq137_0⟩⟩ := hr83.at he137
          refine DrawG.fl rfl (ev_ex (wantS_yes' rfl rfl hc136) (ex_elX rfl rfl hx137)) rfl ?_
          refine DrawG.fl rfl (ev_ex (wantS_yes' rfl rfl hc136) (ex_fieldAddr rfl off58_0)) rfl ?_
          refine DrawG.fl rfl (ev_ex (wantS_yes' rfl rfl hc136) (ex_load1 rfl ((hH98.atR (i := 3) rfl hb137 hcs137 hln137).fld (o := 0) rfl) rdLe_rfl agg3)) rfl ?_
          obtain ⟨x138, hx138, h⟩ := bnd_some h
          obtain ⟨p138, o138, hb138, hx138, he138⟩ := vec_elem (P := Tryz.prog) (t := 25) (kk := .i64) hH98 (i := 0) rfl hx138 els25
          refine DrawG.fl rfl (ev_ex (wantS_yes' rfl rfl hc136) (ex_elX rfl rfl hx138)) rfl ?_
          refine DrawG.fl rfl (ev_ex (wantS_yes' rfl rfl hc136) (ex_load1 rfl (hH98.at (enc := enc3) (a := x138) (i := 0) rfl hb138 he138 enc3_len) rdLe_rfl agg3)) rfl ?_
          refine DrawG.fl rfl (ev_ex (wantS_yes' rfl rfl hc136) (ex_move rfl)) rfl ?_
          obtain ⟨x139, hx139, h⟩ := bnd_some h
          obtain ⟨p139, o139, hb139, hx139, he139⟩ := vec_elemR (P := Tryz.prog) (t := 59) (kk := .i64) hH98 (i := 3) rfl hx139 els59
          obtain ⟨_, hcs139, hln139, ⟨q139_0, rfl, hq139_0⟩⟩ := hr83.at he139
          refine DrawG.fl rfl (ev_ex (wantS_yes' rfl rfl hc136) (ex_elX rfl rfl hx139)) rfl ?_
          refine DrawG.fl rfl (ev_ex (wantS_yes' rfl rfl hc136) (ex_fieldAddr rfl off58_1)) rfl ?_
          refine DrawG.fl rfl (ev_ex (wantS_yes' rfl rfl hc136) (ex_load1 rfl ((hH98.atR (i := 3) rfl hb139 hcs139 hln139).fld (o := 1) rfl) rdLe_rfl agg3)) rfl ?_
          refine DrawG.fl rfl (ev_ex (wantS_yes' rfl rfl hc136) (ex_move rfl)) rfl ?_
          refine DrawG.fl rfl (ev_ex (wantS_yes' rfl rfl hc136) (ex_mul rfl rfl)) rfl ?_
          refine DrawG.fl rfl (ev_ex (wantS_yes' rfl rfl hc136) (ex_neq rfl rfl)) rfl ?_
          refine DrawG.fl rfl (ev_ex wantS_none (ex_pickF' rfl hc136 rfl rfl)) rfl ?_
          refine DrawG.sync ?_
          refine DrawG.nil ?_
          exact Run.pick [3, 11, 12, 83] (law08_SearchFilled_4_ok F (!(x138 == (w64 (x139.Gain * v9)))) c23 ([(S_api_Wave.mk r77 (w64 ((1 : Int) + r80)) v7)] : List S_api_Wave) r90.1 b23 s83 [(.int .i64 r77), (.int .i64 (w64 ((1 : Int) + r80))), sv7] s90_0 _ _ _ hr83 (hH98.pick [4, 3, 1, 5] rfl rfl) h)

def law08_SearchFilled_2 (F : Nat) (v1 v2 : Int) (v7 : (List Int)) (v9 : Int) (v33 : Bool) (c23 : S_api_Chirp) : Option (Bool) :=
  bif v33 then
    law08_SearchFilled_3 F v1 v2 v7 v9 true c23
  else
    law08_SearchFilled_3 F v1 v2 v7 v9 (v9 == (0 : Int)) c23

theorem law08_SearchFilled_2_ok (F : Nat) : ∀ (v1 v2 : Int) (v7 : (List Int)) (v9 : Int) (v33 : Bool) (c23 : S_api_Chirp) (sv7 : SV) (b23 : Pos) (Fr : Rd) (M : Mem) (r : Bool) (hv7 : Slc Fr 1 (FlatR enc3) sv7 v7) (hH : Has Fr M [.obj b23 (.row 27 .whole [(.int .i64 c23.P), (.int .i64 c23.Q)]), tb0]), law08_SearchFilled_2 F v1 v2 v7 v9 v33 c23 = some r → Run Tryz.prog ⟨⟨5, [], none⟩, []⟩ 129 (law08_SearchFilled_post r) [(1, (.int .i64 v1)), (2, (.int .i64 v2)), (3, (.ptr b23 0)), (7, sv7), (9, (.int .i64 v9)), (33, (.bool v33))] [itemC Tryz.prog 5 [1, 1, 1, 0, 0] 6, codeC Tryz.prog 5 [1, 1, 1, 0, 1], codeC Tryz.prog 5 [1, 1, 1, 1]] M := by
  intro v1 v2 v7 v9 v33 c23 sv7 b23 Fr M r hv7 hH h
  rw [law08_SearchFilled_2] at h
  refine Run.opG wantS_none (ex_move rfl) rfl ?_
  rcases btf (v33) with hc71 | hc71
  · have h := bif_t hc71 h
    refine Run.no (wantS_not' rfl rfl hc71) rfl ?_
    refine Run.no (wantS_not' rfl rfl hc71) rfl ?_
    refine Run.opG wantS_none (ex_pickT' rfl hc71 rfl rfl) rfl ?_
    refine Run.opsEnd ?_
    exact Run.pick [1, 2, 3, 7, 9, 37] (law08_SearchFilled_3_ok F v1 v2 v7 v9 true c23 sv7 b23 _ _ _ hv7 hH h)
  · have h := bif_f hc71 h
    refine Run.opG (wantS_yes' rfl rfl hc71) (ex_move rfl) rfl ?_
    refine Run.opG (wantS_yes' rfl rfl hc71) (ex_eql rfl rfl) rfl ?_
    refine Run.opG wantS_none (ex_pickF' rfl hc71 rfl rfl) rfl ?_
    refine Run.opsEnd ?_
    exact Run.pick [1, 2, 3, 7, 9, 37] (law08_SearchFilled_3_ok F v1 v2 v7 v9 (v9 == (0 : Int)) c23 sv7 b23 _ _ _ hv7 hH h)

def law08_SearchFilled_1 (F : Nat) : Nat → Int → Int → Int → Int → S_api_Chirp → S_api_Chirp → (List Int) → Option (Bool)
  | 0, _, _, _, _, _, _, _ => none
  | N + 1, v10, v11, v1_f2, v2_f2, c39, c23, l42 =>
    bif (decide (v11 < v10)) then
      bnd (bank_table F (Int.tmod (w64 ((w64 (c39.P * v11)) + (w64 ((w64 (c39.Q * v11)) * v11)))) (64 : Int))) fun r45 =>
      bnd (inA v11 64) fun o47 =>
      bnd (upd l42 (((0 + o47 * 1) : Nat) : Int) r45) fun l48 =>
      (law08_SearchFilled_1 F N) v10 (w64 (v11 + (1 : Int))) v1_f2 v2_f2 c39 c23 l48
    else
      bnd (bank_wave_samples F l42) fun l51 =>
      bnd (bank_wave_samples F l42) fun l54 =>
      bnd (bank_product F l51 l54) fun r57 =>
      bnd (upd l42 ((65 : Nat) : Int) r57) fun l60 =>
      bnd (l60[(64 : Nat)]?) fun x65 =>
      bnd (subP 64 0 x65) fun r66 =>
      bnd (parL l60 (0 + r66.1) r66.2) fun l66 =>
      bnd (bank_Norm F (8 : Int) c23) fun r68 =>
      bif (!((0 : Int) == (0 : Int))) then
        law08_SearchFilled_2 F v1_f2 v2_f2 l66 r68.1 true c23
      else
        law08_SearchFilled_2 F v1_f2 v2_f2 l66 r68.1 (!(r68.2 == (0 : Int))) c23

theorem law08_SearchFilled_1_ok (F : Nat) : ∀ (N : Nat), ∀ (v10 v11 v1_f2 v2_f2 : Int) (c39 c23 : S_api_Chirp) (l42 : (List Int)) (b39 b42 b23 : Pos) (Fr : Rd) (M : Mem) (r : Bool) (hH : Has Fr M [.obj b39 (.row 27 .whole [(.int .i64 c39.P), (.int .i64 c39.Q)]), .obj b42 (.row 105 .whole (l42.flatMap enc3)), .obj b23 (.row 27 .whole [(.int .i64 c23.P), (.int .i64 c23.Q)]), tb0]), law08_SearchFilled_1 F N v10 v11 v1_f2 v2_f2 c39 c23 l42 = some r → Run Tryz.prog ⟨⟨26, [], none⟩, [.mk ⟨7, [], none⟩ 17 (treeOf []) [itemC Tryz.prog 7 [1, 1, 0] 2, codeC Tryz.prog 7 [1, 1, 1]], .mk ⟨5, [], none⟩ 129 (treeOf [(1, (.int .i64 v1_f2)), (2, (.int .i64 v2_f2)), (3, (.ptr b23 0))]) [itemC Tryz.prog 5 [1, 0] 1, codeC Tryz.prog 5 [1, 1]]]⟩ 42 (law08_SearchFilled_post r) [(3, (.ptr b39 0)), (5, (.ptr b42 0)), (10, (.int .i64 v10)), (11, (.int .i64 v11))] [codeC Tryz.prog 26 [1, 1, 0, 1, 0, 0], loopC Tryz.prog 26 [1, 1, 0, 1, 0, 0], .inBlock 0, codeC Tryz.prog 26 [1, 1, 1]] M := by
  intro N
  induction N with
  | zero =>
    intro v10 v11 v1_f2 v2_f2 c39 c23 l42 b39 b42 b23 Fr M r hH h
    simp [law08_SearchFilled_1] at h
  | succ N ih =>
    intro v10 v11 v1_f2 v2_f2 c39 c23 l42 b39 b42 b23 Fr M r hH h
    rw [law08_SearchFilled_1] at h
    refine Run.seq (Run.region ?_)
    refine Run.opG wantS_none (ex_lss rfl rfl) rfl ?_
    refine Run.opsEnd (Run.seq ?_)
    rcases btf ((decide (v11 < v10))) with hc44 | hc44
    · have h := bif_t hc44 h
      refine Run.condT' rfl hc44 ?_
      refine Run.skip (Run.seq (Run.block (Run.seq (Run.region ?_))))
      refine Run.opG wantS_none (ex_move rfl) rfl ?_
      refine Run.opG wantS_none (ex_assign rfl) rfl ?_
      refine Run.opsEnd ?_
      refine Run.drawG plan26_1_1_0_1_0_0_1_1_0_0_1 ?_
      refine DrawG.fl rfl (ev_ex wantS_none (ex_move rfl)) rfl ?_
      refine DrawG.fl rfl (ev_ex wantS_none (ex_move rfl)) rfl ?_
      refine DrawG.fl rfl (ev_ex wantS_none (ex_fieldAddr rfl off27_0)) rfl ?_
      refine DrawG.fl rfl (ev_ex wantS_none (ex_load1 rfl (hH.cells (i := 0) rfl 0 rfl) rdLe_rfl agg3)) rfl ?_
      refine DrawG.fl rfl (ev_ex wantS_none (ex_move rfl)) rfl ?_
      refine DrawG.fl rfl (ev_ex wantS_none (ex_mul rfl rfl)) rfl ?_
      refine DrawG.fl rfl (ev_ex wantS_none (ex_fieldAddr rfl off27_1)) rfl ?_
      refine DrawG.fl rfl (ev_ex wantS_none (ex_load1 rfl (hH.cells (i := 0) rfl 1 rfl) rdLe_rfl agg3)) rfl ?_
      refine DrawG.fl rfl (ev_ex wantS_none (ex_move rfl)) rfl ?_
      refine DrawG.fl rfl (ev_ex wantS_none (ex_mul rfl rfl)) rfl ?_
      refine DrawG.fl rfl (ev_ex wantS_none (ex_move rfl)) rfl ?_
      refine DrawG.fl rfl (ev_ex wantS_none (ex_mul rfl rfl)) rfl ?_
      refine DrawG.fl rfl (ev_ex wantS_none (ex_add rfl rfl)) rfl ?_
      refine DrawG.fl rfl (ev_ex wantS_none (ex_rem rfl rfl (by decide))) rfl ?_
      refine DrawG.fl rfl (ev_ex wantS_none (ex_nilP rfl)) rfl ?_
      refine DrawG.fl rfl (ev_ex wantS_none (ex_fieldAddr rfl off105_0)) rfl ?_
      obtain ⟨r45, hr45, h⟩ := bnd_some h
      refine DrawG.callP rfl wantS_none (ex_call rfl mkk72 cal72) rfl (bank_table_ok F (Int.tmod (w64 ((w64 (c39.P * v11)) + (w64 ((w64 (c39.Q * v11)) * v11)))) (64 : Int)) _ _ (fixH hH (List.mem_of_getElem? (i := 3) rfl)) hr45) (st_cons rfl (ev_ex wantS_none (ex_fieldAddr rfl off105_0)) rfl rfl rfl (st_cons rfl (ev_ex wantS_none (ex_nilP rfl)) rfl rfl rfl (st_cons rfl (ev_ex wantS_none (ex_move rfl)) rfl rfl rfl (st_cons rfl (ev_ex wantS_none (ex_move rfl)) rfl rfl rfl st_nil)))) ?_
      obtain ⟨o47, ho47, h⟩ := bnd_some h
      refine DrawG.fl rfl (ev_ex wantS_none (ex_elX rfl rfl (arr_place (inA_natIn ho47) els103))) rfl ?_
      obtain ⟨l48, hl48, h⟩ := bnd_some h
      refine DrawG.opX rfl wantS_none rfl (ExG.storeA rfl rfl hH (i := 1) rfl hl48 sz3 rfl enc3_len enc3_ones) ?_
      rintro _ M49 ⟨rfl, (hH49 : Has Fr M49 [.obj b39 (.row 27 .whole [(.int .i64 c39.P), (.int .i64 c39.Q)]), .obj b42 (.row 105 .whole (l48.flatMap enc3)), .obj b23 (.row 27 .whole [(.int .i64 c23.P), (.int .i64 c23.Q)]), tb0])⟩
      refine ⟨st_nil, ?_⟩
      refine DrawG.sync ?_
      refine DrawG.nil ?_
      refine Run.inBlock (Run.region ?_)
      refine Run.opG wantS_none (ex_add rfl rfl) rfl ?_
      refine Run.opG wantS_none (ex_move rfl) rfl ?_
      refine Run.opsEnd (Run.inLoop ?_)
      exact Run.low (.cons (fle_pick [] rfl) (.cons (fle_pick [1, 2, 3] rfl) .nil)) (Run.pick [3, 5, 10, 11] (ih v10 (w64 (v11 + (1 : Int))) v1_f2 v2_f2 c39 c23 l48 b39 b42 b23 _ _ _ hH49 h))
    · have h := bif_f hc44 h
      refine Run.condF' rfl hc44 ?_
      refine Run.exit rfl (Run.seq (Run.region ?_))
      refine Run.opG wantS_none (ex_move rfl) rfl ?_
      refine Run.opG wantS_none (ex_move rfl) rfl ?_
      obtain ⟨l51, hl51, h⟩ := bnd_some h
      have hs51 := bank_wave_samples_slc F hH (i := 1) rfl hl51
      refine Run.callP wantS_none (ex_call rfl mkk27 cal27) rfl (bank_wave_samples_ok F hH (i := 1) rfl hl51) ?_
      refine Run.opG wantS_none (ex_move rfl) rfl ?_
      obtain ⟨l54, hl54, h⟩ := bnd_some h
      have hs54 := bank_wave_samples_slc F hH (i := 1) rfl hl54
      refine Run.callP wantS_none (ex_call rfl mkk27 cal27) rfl (bank_wave_samples_ok F hH (i := 1) rfl hl54) ?_
      obtain ⟨r57, hr57, h⟩ := bnd_some h
      refine Run.callP wantS_none (ex_call rfl mkk73 cal73) rfl (bank_product_ok F l51 l54 (.slice b42 0 l51.length 64) (.slice b42 0 l54.length 64) _ _ hs51 hs54 hr57) ?_
      refine Run.opG wantS_none (ex_nilP rfl) rfl ?_
      refine Run.opG wantS_none (ex_fieldAddr rfl off105_2) rfl ?_
      obtain ⟨l60, hl60, h⟩ := bnd_some h
      refine Run.opX wantS_none rfl (ExG.storeA rfl rfl hH (i := 1) rfl hl60 sz3 rfl enc3_len enc3_ones) ?_
      rintro _ M61 ⟨rfl, (hH61 : Has Fr M61 [.obj b39 (.row 27 .whole [(.int .i64 c39.P), (.int .i64 c39.Q)]), .obj b42 (.row 105 .whole (l60.flatMap enc3)), .obj b23 (.row 27 .whole [(.int .i64 c23.P), (.int .i64 c23.Q)]), tb0])⟩
      refine Run.opsEnd (Run.seq (Run.region ?_))
      refine Run.opG wantS_none (ex_move rfl) rfl ?_
      refine Run.opG wantS_none (ex_assign rfl) rfl ?_
      refine Run.opsEnd ?_
      refine Run.retTo Tryz.func26 rfl (res_tmp rfl res_nil) rfl ?_
      refine Run.freezeO (t := 15) (i := 1) rfl hH61 rfl ?_
      intro F63 M63 hle63 (hH63 : Has F63 M63 [.obj b39 (.row 27 .whole [(.int .i64 c39.P), (.int .i64 c39.Q)]), .vec 0 0 0 .nils [], .obj b23 (.row 27 .whole [(.int .i64 c23.P), (.int .i64 c23.Q)]), tb0]) hp63
      have hf63 := rop_of hp63
      refine Run.enter wantS_none (ex_call rfl mkk27 cal27) Tryz.func27 rfl rfl ?_
      refine Run.seq (Run.region ?_)
      refine Run.opG wantS_none (ex_assign rfl) rfl ?_
      refine Run.opsEnd (Run.seq ?_)
      refine Run.drawG plan27_1_0 ?_
      refine DrawG.fl rfl (ev_ex wantS_none (ex_move rfl)) rfl ?_
      refine DrawG.fl rfl (ev_ex wantS_none (ex_nilP rfl)) rfl ?_
      refine DrawG.fl rfl (ev_ex wantS_none (ex_fieldAddr rfl off105_0)) rfl ?_
      refine DrawG.fl rfl (ev_ex wantS_none (ex_move rfl)) rfl ?_
      refine DrawG.fl rfl (ev_ex wantS_none (ex_nilP rfl)) rfl ?_
      refine DrawG.fl rfl (ev_ex wantS_none (ex_fieldAddr rfl off105_1)) rfl ?_
      obtain ⟨x65, hx65, h⟩ := bnd_some h
      refine DrawG.fl rfl (ev_ex wantS_none (ex_load1 rfl (hH63.ptrF (rop_at (enc := enc3) (a := x65) hf63 enc3_len hx65)) rdLe_rfl agg3)) rfl ?_
      obtain ⟨r66, hr66, h⟩ := bnd_some h
      obtain ⟨l66, hl66, h⟩ := bnd_some h
      obtain ⟨s66, hx66, hs66⟩ := rop_cutH (P := Tryz.prog) (t := 103) (off := 0) (k0 := .i64) hf63 enc3_len hr66 slk103 hl66
      refine DrawG.fl rfl (ev_ex wantS_none (ex_slX rfl (argO_none) (argO_some rfl) hx66)) rfl ?_
      refine DrawG.fl rfl (ev_ex wantS_none (ex_assign rfl)) rfl ?_
      refine DrawG.sync ?_
      refine DrawG.nil ?_
      refine Run.retTo Tryz.func27 rfl (res_tmp rfl res_nil) rfl ?_
      refine Run.opG wantS_none (ex_assign rfl) rfl ?_
      refine Run.opG wantS_none (ex_assign rfl) rfl ?_
      refine Run.opsEnd ?_
      refine Run.retTo Tryz.func7 rfl (res_tmp rfl (res_tmp rfl res_nil)) rfl ?_
      refine Run.opG wantS_none (ex_move rfl) rfl ?_
      refine Run.opG wantS_none (ex_extract rfl rfl) rfl ?_
      refine Run.opG wantS_none (ex_extract rfl rfl) rfl ?_
      refine Run.opG wantS_none (ex_assign rfl) rfl ?_
      refine Run.opG wantS_none (ex_assign rfl) rfl ?_
      refine Run.opsEnd (Run.seq (Run.region ?_))
      refine Run.opG wantS_none (ex_loadA rfl (hH63.cells (i := 2) rfl 0 rfl) rdLe_rfl agg27 rfl rfl rfl) rfl ?_
      obtain ⟨r68, hr68, h⟩ := bnd_some h
      refine Run.callP wantS_none (ex_call rfl mkk18 cal18) rfl (bank_Norm_ok F (8 : Int) c23 _ _ (fixH hH63 (List.mem_of_getElem? (i := 3) rfl)) hr68) ?_
      refine Run.opG wantS_none (ex_move rfl) rfl ?_
      refine Run.opG wantS_none (ex_extract rfl rfl) rfl ?_
      refine Run.opG wantS_none (ex_extract rfl rfl) rfl ?_
      refine Run.opG wantS_none (ex_assign rfl) rfl ?_
      refine Run.opG wantS_none (ex_assign rfl) rfl ?_
      refine Run.opsEnd (Run.seq (Run.seq (Run.region ?_)))
      refine Run.opG wantS_none (ex_move rfl) rfl ?_
      refine Run.opG wantS_none (ex_neq rfl rfl) rfl ?_
      refine Run.opG wantS_none (ex_move rfl) rfl ?_
      rcases btf ((!((0 : Int) == (0 : Int)))) with hc70 | hc70
      · have h := bif_t hc70 h
        refine Run.no (wantS_not' rfl rfl hc70) rfl ?_
        refine Run.no (wantS_not' rfl rfl hc70) rfl ?_
        refine Run.opG wantS_none (ex_pickT' rfl hc70 rfl rfl) rfl ?_
        exact Run.pick [1, 2, 3, 7, 9, 33] (law08_SearchFilled_2_ok F v1_f2 v2_f2 l66 r68.1 true c23 s66 b23 _ _ _ hs66 (hH63.pick [2, 3] rfl rfl) h)
      · have h := bif_f hc70 h
        refine Run.opG (wantS_yes' rfl rfl hc70) (ex_move rfl) rfl ?_
        refine Run.opG (wantS_yes' rfl rfl hc70) (ex_neq rfl rfl) rfl ?_
        refine Run.opG wantS_none (ex_pickF' rfl hc70 rfl rfl) rfl ?_
        exact Run.pick [1, 2, 3, 7, 9, 33] (law08_SearchFilled_2_ok F v1_f2 v2_f2 l66 r68.1 (!(r68.2 == (0 : Int))) c23 s66 b23 _ _ _ hs66 (hH63.pick [2, 3] rfl rfl) h)

def law08_SearchFilled (F : Nat) (a0 : S_api_Chirp) (a1 a2 : Int) : Option (Bool) :=
  bnd (bank_CheckChirp F (8 : Int) a0) fun r29 =>
  bif (!(r29 == (0 : Int))) then
    bnd (bank_Norm F (8 : Int) a0) fun r33 =>
    bnd (works F) fun r36 =>
    some r36
  else
    law08_SearchFilled_1 F F (8 : Int) (0 : Int) a1 a2 a0 a0 ([0, 0, 0, 0, 0, 0, 0, 0, 0, 0, 0, 0, 0, 0, 0, 0, 0, 0, 0, 0, 0, 0, 0, 0, 0, 0, 0, 0, 0, 0, 0, 0, 0, 0, 0, 0, 0, 0, 0, 0, 0, 0, 0, 0, 0, 0, 0, 0, 0, 0, 0, 0, 0, 0, 0, 0, 0, 0, 0, 0, 0, 0, 0, 0, 8, 0] : List Int)

theorem law08_SearchFilled_run (F : Nat) (a0 : S_api_Chirp) (a1 a2 : Int) (r : Bool) (M : Mem) (hfx : FixIn M fixes) (h : law08_SearchFilled F a0 a1 a2 = some r) : Run Tryz.prog (fx0 5) 129 (law08_SearchFilled_post r) [(0, (.agg [(.int .i64 a0.P), (.int .i64 a0.Q)])), (1, (.int .i64 a1)), (2, (.int .i64 a2))] [codeC Tryz.prog 5 []] (frozen M) := by
  rw [law08_SearchFilled] at h
  have hH : Has (ro (frozen M)) (frozen M) [tb0] := Has.ofFix hfx.frozen
  refine Run.seq (Run.region ?_)
  refine Run.opX wantS_none rfl (ExG.box rfl rfl hH) ?_
  rintro _ M24 ⟨b23, rfl, hH24⟩
  refine Run.opG wantS_none (ex_assign rfl) rfl ?_
  refine Run.opsEnd (Run.seq (Run.region ?_))
  refine Run.opG wantS_none (ex_loadA rfl (hH24.cells (i := 0) rfl 0 rfl) rdLe_rfl agg27 rfl rfl rfl) rfl ?_
  refine Run.enter wantS_none (ex_call rfl mkk7 cal7) Tryz.func7 rfl rfl ?_
  refine Run.seq (Run.region ?_)
  refine Run.opX wantS_none rfl (ExG.box rfl rfl hH24) ?_
  rintro _ M27 ⟨b26, rfl, hH27⟩
  refine Run.opG wantS_none (ex_assign rfl) rfl ?_
  refine Run.opG wantS_none (ex_assign rfl) rfl ?_
  refine Run.opsEnd (Run.seq (Run.seq (Run.region ?_)))
  refine Run.opG wantS_none (ex_move rfl) rfl ?_
  refine Run.opG wantS_none (ex_loadA rfl (hH27.cells (i := 0) rfl 0 rfl) rdLe_rfl agg27 rfl rfl rfl) rfl ?_
  obtain ⟨r29, hr29, h⟩ := bnd_some h
  refine Run.callP wantS_none (ex_call rfl mkk25 cal25) rfl (bank_CheckChirp_ok F (8 : Int) a0 _ _ hr29) ?_
  refine Run.opG wantS_none (ex_assign rfl) rfl ?_
  refine Run.opsEnd (Run.seq (Run.region ?_))
  refine Run.opG wantS_none (ex_move rfl) rfl ?_
  refine Run.opG wantS_none (ex_neq rfl rfl) rfl ?_
  refine Run.opsEnd ?_
  rcases btf ((!(r29 == (0 : Int)))) with hc31 | hc31
  · have h := bif_t hc31 h
    refine Run.condT' rfl hc31 ?_
    refine Run.seq (Run.region ?_)
    refine Run.opG wantS_none (ex_move rfl) rfl ?_
    refine Run.opG wantS_none (ex_assign rfl) rfl ?_
    refine Run.opG wantS_none (ex_assign rfl) rfl ?_
    refine Run.opsEnd ?_
    refine Run.retTo Tryz.func7 rfl (res_tmp rfl (res_tmp rfl res_nil)) rfl ?_
    refine Run.opG wantS_none (ex_move rfl) rfl ?_
    refine Run.opG wantS_none (ex_extract rfl rfl) rfl ?_
    refine Run.opG wantS_none (ex_extract rfl rfl) rfl ?_
    refine Run.opG wantS_none (ex_assign rfl) rfl ?_
    refine Run.opG wantS_none (ex_assign rfl) rfl ?_
    refine Run.opsEnd (Run.seq (Run.region ?_))
    refine Run.opG wantS_none (ex_loadA rfl (hH27.cells (i := 1) rfl 0 rfl) rdLe_rfl agg27 rfl rfl rfl) rfl ?_
    obtain ⟨r33, hr33, h⟩ := bnd_some h
    refine Run.callP wantS_none (ex_call rfl mkk18 cal18) rfl (bank_Norm_ok F (8 : Int) a0 _ _ (fixH hH27 (List.mem_of_getElem? (i := 2) rfl)) hr33) ?_
    refine Run.opG wantS_none (ex_move rfl) rfl ?_
    refine Run.opG wantS_none (ex_extract rfl rfl) rfl ?_
    refine Run.opG wantS_none (ex_extract rfl rfl) rfl ?_
    refine Run.opG wantS_none (ex_assign rfl) rfl ?_
    refine Run.opG wantS_none (ex_assign rfl) rfl ?_
    refine Run.opsEnd (Run.seq (Run.seq (Run.region ?_)))
    refine Run.opG wantS_none (ex_move rfl) rfl ?_
    refine Run.opG wantS_none (ex_neq rfl rfl) rfl ?_
    refine Run.opG wantS_none (ex_move rfl) rfl ?_
    refine Run.no (wantS_not' rfl rfl hc31) rfl ?_
    refine Run.no (wantS_not' rfl rfl hc31) rfl ?_
    refine Run.opG wantS_none (ex_pickT' rfl hc31 rfl rfl) rfl ?_
    refine Run.opG wantS_none (ex_move rfl) rfl ?_
    refine Run.no (wantS_not' rfl rfl rfl) rfl ?_
    refine Run.no (wantS_not' rfl rfl rfl) rfl ?_
    refine Run.opG wantS_none (ex_pickT' rfl rfl rfl rfl) rfl ?_
    refine Run.opsEnd ?_
    refine Run.condT' rfl rfl ?_
    refine Run.seq (Run.region ?_)
    obtain ⟨r36, hr36, h⟩ := bnd_some h
    refine Run.callP wantS_none (ex_call rfl mkk19 cal19) rfl (works_ok F r36 _ hH27 (List.mem_of_getElem? (i := 2) rfl) hr36) ?_
    refine Run.opG wantS_none (ex_assign rfl) rfl ?_
    refine Run.opsEnd ?_
    cases h
    exact Run.ret Tryz.func5 rfl (res_tmp rfl res_nil) rfl
  · have h := bif_f hc31 h
    refine Run.condF' rfl hc31 ?_
    refine Run.skip (Run.seq (Run.region ?_))
    refine Run.opG wantS_none (ex_move rfl) rfl ?_
    refine Run.opG wantS_none (ex_loadA rfl (hH27.cells (i := 0) rfl 0 rfl) rdLe_rfl agg27 rfl rfl rfl) rfl ?_
    refine Run.enter wantS_none (ex_call rfl mkk26 cal26) Tryz.func26 rfl rfl ?_
    refine Run.seq (Run.region ?_)
    refine Run.opX wantS_none rfl (ExG.box rfl rfl hH27) ?_
    rintro _ M40 ⟨b39, rfl, hH40⟩
    refine Run.opG wantS_none (ex_assign rfl) rfl ?_
    refine Run.opsEnd (Run.seq (Run.region ?_))
    refine Run.opG wantS_none (ex_move rfl) rfl ?_
    refine Run.opG wantS_none (ex_build (r := [(.int .i64 0), (.int .i64 0), (.int .i64 0), (.int .i64 0), (.int .i64 0), (.int .i64 0), (.int .i64 0), (.int .i64 0), (.int .i64 0), (.int .i64 0), (.int .i64 0), (.int .i64 0), (.int .i64 0), (.int .i64 0), (.int .i64 0), (.int .i64 0), (.int .i64 0), (.int .i64 0), (.int .i64 0), (.int .i64 0), (.int .i64 0), (.int .i64 0), (.int .i64 0), (.int .i64 0), (.int .i64 0), (.int .i64 0), (.int .i64 0), (.int .i64 0), (.int .i64 0), (.int .i64 0), (.int .i64 0), (.int .i64 0), (.int .i64 0), (.int .i64 0), (.int .i64 0), (.int .i64 0), (.int .i64 0), (.int .i64 0), (.int .i64 0), (.int .i64 0), (.int .i64 0), (.int .i64 0), (.int .i64 0), (.int .i64 0), (.int .i64 0), (.int .i64 0), (.int .i64 0), (.int .i64 0), (.int .i64 0), (.int .i64 0), (.int .i64 0), (.int .i64 0), (.int .i64 0), (.int .i64 0), (.int .i64 0), (.int .i64 0), (.int .i64 0), (.int .i64 0), (.int .i64 0), (.int .i64 0), (.int .i64 0), (.int .i64 0), (.int .i64 0), (.int .i64 0), (.int .i64 8), (.int .i64 0)]) rfl zer105 pls105 rfl) rfl ?_
    refine Run.opX wantS_none rfl (ExG.box (c := ([0, 0, 0, 0, 0, 0, 0, 0, 0, 0, 0, 0, 0, 0, 0, 0, 0, 0, 0, 0, 0, 0, 0, 0, 0, 0, 0, 0, 0, 0, 0, 0, 0, 0, 0, 0, 0, 0, 0, 0, 0, 0, 0, 0, 0, 0, 0, 0, 0, 0, 0, 0, 0, 0, 0, 0, 0, 0, 0, 0, 0, 0, 0, 0, 8, 0] : List Int).flatMap enc3) rfl rfl hH40) ?_
    rintro _ M43 ⟨b42, rfl, hH43⟩
    refine Run.opG wantS_none (ex_assign rfl) rfl ?_
    refine Run.opsEnd (Run.seq (Run.seq (Run.region ?_)))
    refine Run.opG wantS_none (ex_move rfl) rfl ?_
    refine Run.opG wantS_none (ex_move rfl) rfl ?_
    refine Run.opsEnd (Run.block (Run.loop ?_))
    exact Run.low (.cons (fle_pick [] rfl) (.cons (fle_pick [1, 2, 3] rfl) .nil)) (Run.pick [3, 5, 10, 11] (law08_SearchFilled_1_ok F F (8 : Int) (0 : Int) a1 a2 a0 a0 ([0, 0, 0, 0, 0, 0, 0, 0, 0, 0, 0, 0, 0, 0, 0, 0, 0, 0, 0, 0, 0, 0, 0, 0, 0, 0, 0, 0, 0, 0, 0, 0, 0, 0, 0, 0, 0, 0, 0, 0, 0, 0, 0, 0, 0, 0, 0, 0, 0, 0, 0, 0, 0, 0, 0, 0, 0, 0, 0, 0, 0, 0, 0, 0, 8, 0] : List Int) b39 b42 b23 _ _ _ (hH43.pick [1, 0, 3, 4] rfl rfl) h))

end Go.Ev.SearchFilled
