/- Plain functions that say what functions of the program come to, and proofs of it, written by a program of the verifier's own. -/
import Derived.Test.YtjddbfpinjjkkaaGreatDoorEvL21
import Derived.Test.YtjddbfpinjjkkaaGreatDoorWorks
import Derived.KernelRfl
namespace Go.Ev.GlitchCounts
open Go Go.Ev Go.Proofs
set_option maxRecDepth 100000
set_option linter.unusedVariables false

noncomputable def fixes : List (Nat × List SV) := Go.Proofs.YtjddbfpinjjkkaaGreatDoor.works.fixes
noncomputable def tb0 : Ent := fixE (5, intCells .u8 [0, 1, 28, 2, 29, 14, 24, 3, 30, 22, 20, 15, 25, 17, 4, 8, 31, 27, 13, 23, 21, 19, 16, 7, 26, 12, 18, 6, 11, 5, 10, 9])
noncomputable def tb1 : Ent := fixE (2, intCells .u8 [0, 1, 56, 2, 57, 49, 28, 3, 61, 58, 42, 50, 38, 29, 17, 4, 62, 47, 59, 36, 45, 43, 51, 22, 53, 39, 33, 30, 24, 18, 12, 5, 63, 55, 48, 27, 60, 41, 37, 16, 46, 35, 44, 21, 52, 32, 23, 11, 54, 26, 40, 15, 34, 20, 31, 10, 25, 14, 19, 9, 13, 8, 7, 6])
noncomputable def tb2 : Ent := fixE (4, intCells .u64 [1, 10, 100, 1000, 10000, 100000, 1000000, 10000000, 100000000, 1000000000, 10000000000, 100000000000, 1000000000000, 10000000000000, 100000000000000, 1000000000000000, 10000000000000000, 100000000000000000, 1000000000000000000, 10000000000000000000])
def works (_ : Nat) : Option Bool := some true
theorem z80 {Fr : Rd} {H : List Ent} {M : Mem} (hH : Has Fr M H) (h0 : tb0 ∈ H) (h1 : tb1 ∈ H) (h2 : tb2 ∈ H) : FixIn M fixes := by
  refine hH.fixIn fun x hx => ?_
  simp only [fixes, Go.Proofs.YtjddbfpinjjkkaaGreatDoor.works.fixes, List.mem_cons, List.not_mem_nil, or_false] at hx
  rcases hx with rfl | rfl | rfl
  · exact h0
  · exact h1
  · exact h2

theorem z4s (F : Nat) (r : Bool) {Fr : Rd} {H : List Ent} (M : Mem) (hH : Has Fr M H) (h0 : tb0 ∈ H) (h1 : tb1 ∈ H) (h2 : tb2 ∈ H) (h : works F = some r) : CallsM Tryz.prog 11 [] M fun s M' => s = .bool r ∧ M' = M := by
  cases h
  refine CallsM.closedFix (n := 600) (l := Go.Proofs.YtjddbfpinjjkkaaGreatDoor.works.fixes) Go.Proofs.YtjddbfpinjjkkaaGreatDoor.works.below Go.Proofs.YtjddbfpinjjkkaaGreatDoor.works.plainF Go.Proofs.YtjddbfpinjjkkaaGreatDoor.works.works_true (hH.fixIn fun x hx => ?_)
  simp only [Go.Proofs.YtjddbfpinjjkkaaGreatDoor.works.fixes, List.mem_cons, List.not_mem_nil, or_false] at hx
  rcases hx with rfl | rfl | rfl
  · exact h0
  · exact h1
  · exact h2


def enc3 (a : Int) : List SV := [(.int .i64 a)]
theorem z06 (a : Int) : (enc3 a).length = 1 := rfl
theorem z1n (a : Int) : ones (enc3 a) = true := rfl
structure S_api_Tile where
  Level : Int
  At : Int
  D : Int

section
variable {P : Program} {fx : Fx} {n : Nat} {Q : SV → Mem → Prop} {e : Env} {k : List SItem} {M : Mem} {all : Array Oper} {i : Nat} {op : Op} {ty : TypeId} {pos : String} {af : Array Edge} {d : Option Tmp} {s : SV} {L : List Nat} {r : List PE} {q : List Oper} {x : Operand} {j : Nat} {w : Bool} {t : Tmp} {c : Bool} {R : SV → Mem → Prop}
theorem og (hx : execO P M (treeOf e) op = .val s M) (hd : okD d n = true) (next : Run P fx n Q (putE d s e) (.ops all q :: k) M) : Run P fx n Q e (.ops all (⟨d, op, ty, pos, af, none⟩ :: q) :: k) M := Run.opG wantS_none hx hd next
theorem mv (h : ar e x = some s) (hd : okD d n = true) (next : Run P fx n Q (putE d s e) (.ops all q :: k) M) : Run P fx n Q e (.ops all (⟨d, .move x, ty, pos, af, none⟩ :: q) :: k) M := Run.opG wantS_none (ex_move h) hd next
theorem av (h : ar e x = some s) (hd : okD d n = true) (next : Run P fx n Q (putE d s e) (.ops all q :: k) M) : Run P fx n Q e (.ops all (⟨d, .assign x, ty, pos, af, none⟩ :: q) :: k) M := Run.opG wantS_none (ex_assign h) hd next
theorem ox (hd : okD d n = true) (hx : ExG P M e op R) (next : ∀ v M', R v M' → Run P fx n Q (putE d v e) (.ops all q :: k) M') : Run P fx n Q e (.ops all (⟨d, op, ty, pos, af, none⟩ :: q) :: k) M := Run.opX wantS_none hd hx next
theorem gy (h : (all[j]?).bind (·.dst) = some t) (hb : lk t e = some (.bool c)) (hc : c = w) (hx : execO P M (treeOf e) op = .val s M) (hd : okD d n = true) (next : Run P fx n Q (putE d s e) (.ops all q :: k) M) : Run P fx n Q e (.ops all (⟨d, op, ty, pos, af, some (j, w)⟩ :: q) :: k) M := Run.opG (wantS_yes' h hb hc) hx hd next
theorem gn (h : (all[j]?).bind (·.dst) = some t) (hb : lk t e = some (.bool c)) (hc : c = !w) (hd : okD d n = true) (next : Run P fx n Q (putE d (.tuple []) e) (.ops all q :: k) M) : Run P fx n Q e (.ops all (⟨d, op, ty, pos, af, some (j, w)⟩ :: q) :: k) M := Run.no (wantS_not' h hb hc) hd next
theorem df (ho : all[i]? = some ⟨d, op, ty, pos, af, none⟩) (hx : execO P M (treeOf e) op = .val s M) (hd : okD d n = true) (h : DrawG P fx n Q all k r (putE d s e) M) : DrawG P fx n Q all k (.fl i :: r) e M := DrawG.fl ho (ev_ex wantS_none hx) hd h
theorem dy (ho : all[i]? = some ⟨d, op, ty, pos, af, some (j, w)⟩) (h1 : (all[j]?).bind (·.dst) = some t) (hb : lk t e = some (.bool c)) (hc : c = w) (hx : execO P M (treeOf e) op = .val s M) (hd : okD d n = true) (h : DrawG P fx n Q all k r (putE d s e) M) : DrawG P fx n Q all k (.fl i :: r) e M := DrawG.fl ho (ev_ex (wantS_yes' h1 hb hc) hx) hd h
theorem dn (ho : all[i]? = some ⟨d, op, ty, pos, af, some (j, w)⟩) (h1 : (all[j]?).bind (·.dst) = some t) (hb : lk t e = some (.bool c)) (hc : c = !w) (hd : okD d n = true) (h : DrawG P fx n Q all k r (putE d (.tuple []) e) M) : DrawG P fx n Q all k (.fl i :: r) e M := DrawG.fl ho (ev_no (wantS_not' h1 hb hc)) hd h
end


def z04 (a : S_api_Tile) : List SV := [(.int .i64 a.Level), (.int .i64 a.At), (.int .i64 a.D)]
theorem z08 (a : S_api_Tile) : (z04 a).length = 3 := rfl
theorem z4u (a : S_api_Tile) : ones (z04 a) = true := rfl
theorem z3w : lenK Tryz.prog 28 = some .sl := by kernel_rfl
abbrev z2e (r : Bool) : SV → Mem → Prop := fun s _ => s = (.bool r)

def glitch_isFrom_1 (F : Nat) (b : Bool) : Option (Bool) :=
 some b

theorem z2d (F : Nat) : ∀ (b : Bool) (Fr : Rd) (M : Mem) (r : Bool) (hH : Has Fr M []), glitch_isFrom_1 F b = some r → Run Tryz.prog ⟨⟨75, [], none⟩, []⟩ 15 (z2e r) [(14, (.bool b))] [itemC Tryz.prog 75 [1, 0] 8, codeC Tryz.prog 75 [1, 1]] M := by
 intro b Fr M r hH h
 rw [glitch_isFrom_1] at h
 refine av rfl rfl <| Run.opsEnd ?_
 cases h
 exact Run.ret Tryz.func75 rfl (res_tmp rfl res_nil) rfl

def glitch_isFrom (F : Nat) (a0 a1 a2 : Int) : Option (Bool) :=
 bif (decide (a0 ≤ a1)) then
  glitch_isFrom_1 F (decide (a1 ≤ a2))
 else
  glitch_isFrom_1 F false

theorem z1y (F : Nat) (a0 a1 a2 : Int) (r : Bool) (M : Mem) (h : glitch_isFrom F a0 a1 a2 = some r) : CallsM Tryz.prog 75 [(.int .i64 a0), (.int .i64 a1), (.int .i64 a2)] M (fun s M' => s = (.bool r) ∧ M' = M) := by
 refine CallsM.plain Tryz.func75 rfl rfl rfl (show Run _ _ _ (z2e r) _ _ _ from ?_)
 rw [glitch_isFrom] at h
 have hH := Has.nil (frozen M)
 refine Run.seq (Run.region ?_)
 refine av rfl rfl ?_
 refine Run.opsEnd (Run.seq (Run.region ?_))
 refine mv rfl rfl <| mv rfl rfl <| og (ex_leq rfl rfl) rfl <| mv rfl rfl ?_
 rcases btf ((decide (a0 ≤ a1))) with b | b
 ·have h := bif_t b h
  refine gy rfl rfl b (ex_move rfl) rfl <| gy rfl rfl b (ex_move rfl) rfl <| gy rfl rfl b (ex_leq rfl rfl) rfl <| og (ex_pickT' rfl b rfl rfl) rfl ?_
  exact Run.pick [14] (z2d F (decide (a1 ≤ a2)) _ _ _ hH h)
 ·have h := bif_f b h
  refine gn rfl rfl b rfl <| gn rfl rfl b rfl <| gn rfl rfl b rfl <| og (ex_pickF' rfl b rfl rfl) rfl ?_
  exact Run.pick [14] (z2d F false _ _ _ hH h)

theorem z5t : makeK Tryz.prog 75 = none := by kernel_rfl
theorem z5p : callable Tryz.prog 75 = true := by kernel_rfl
abbrev z27 (r : Bool) : SV → Mem → Prop := fun s _ => s = (.bool r)

def glitch_isLength_1 (F : Nat) (b : Bool) : Option (Bool) :=
 some b

theorem z24 (F : Nat) : ∀ (b : Bool) (Fr : Rd) (M : Mem) (r : Bool) (hH : Has Fr M []), glitch_isLength_1 F b = some r → Run Tryz.prog ⟨⟨99, [], none⟩, []⟩ 12 (z27 r) [(11, (.bool b))] [itemC Tryz.prog 99 [1, 0] 9, codeC Tryz.prog 99 [1, 1]] M := by
 intro b Fr M r hH h
 rw [glitch_isLength_1] at h
 refine av rfl rfl <| Run.opsEnd ?_
 cases h
 exact Run.ret Tryz.func99 rfl (res_tmp rfl res_nil) rfl

def glitch_isLength (F : Nat) (a0 : Int) : Option (Bool) :=
 bnd (glitch_isFrom F (1 : Int) a0 (1024 : Int)) fun b =>
 bif b then
  bnd (bitZ Nat.land .i64 a0 (w64 (a0 - (1 : Int)))) fun c =>
  glitch_isLength_1 F (c == (0 : Int))
 else
  glitch_isLength_1 F false

theorem z3m (F : Nat) (a0 : Int) (r : Bool) (M : Mem) (h : glitch_isLength F a0 = some r) : CallsM Tryz.prog 99 [(.int .i64 a0)] M (fun s M' => s = (.bool r) ∧ M' = M) := by
 refine CallsM.plain Tryz.func99 rfl rfl rfl (show Run _ _ _ (z27 r) _ _ _ from ?_)
 rw [glitch_isLength] at h
 have hH := Has.nil (frozen M)
 refine Run.seq (Run.region ?_)
 refine av rfl rfl ?_
 refine Run.opsEnd (Run.seq (Run.region ?_))
 refine mv rfl rfl ?_
 obtain ⟨e, c, h⟩ := bnd_some h
 refine Run.callP wantS_none (ex_call rfl z5t z5p) rfl (z1y F (1 : Int) a0 (1024 : Int) _ _ c) <| mv rfl rfl ?_
 rcases btf (e) with b | b
 ·have h := bif_t b h
  refine gy rfl rfl b (ex_move rfl) rfl <| gy rfl rfl b (ex_move rfl) rfl <| gy rfl rfl b (ex_sub rfl rfl) rfl ?_
  obtain ⟨f, d, h⟩ := bnd_some h
  refine gy rfl rfl b (ex_and rfl rfl d) rfl <| gy rfl rfl b (ex_eql rfl rfl) rfl <| og (ex_pickT' rfl b rfl rfl) rfl ?_
  exact Run.pick [11] (z24 F (f == (0 : Int)) _ _ _ hH h)
 ·have h := bif_f b h
  refine gn rfl rfl b rfl <| gn rfl rfl b rfl <| gn rfl rfl b rfl <| gn rfl rfl b rfl <| gn rfl rfl b rfl <| og (ex_pickF' rfl b rfl rfl) rfl ?_
  exact Run.pick [11] (z24 F false _ _ _ hH h)

theorem z7o : makeK Tryz.prog 99 = none := by kernel_rfl
theorem z78 : callable Tryz.prog 99 = true := by kernel_rfl
theorem z4i : elems Tryz.prog 28 = some (.sl 1) := by kernel_rfl
theorem z0u : aggSize Tryz.prog 3 = some none := by kernel_rfl
abbrev z2b (r : Bool) : SV → Mem → Prop := fun s _ => s = (.bool r)

def glitch_areFrom_1 (F : Nat) : Nat → Int → List Int → Int → Int → Option (Bool)
 | 0, _, _, _, _ => none
 | N + 1, v1, v7, v8, v9 =>
  bif (decide (v9 < v8)) then
   bnd (idx v7 v9) fun c =>
   bnd (glitch_isFrom F (w64 (-v1)) c v1) fun b =>
   bif (!b) then
    some false
   else
    (glitch_areFrom_1 F N) v1 v7 v8 (w64 (v9 + (1 : Int)))
  else
   some true

theorem z3d (F : Nat) : ∀ (N : Nat), ∀ (v1 : Int) (v7 : List Int) (v8 v9 : Int) (g : SV) (Fr : Rd) (M : Mem) (r : Bool) (m : Slc Fr 1 (FlatR enc3) g v7) (hH : Has Fr M []), glitch_areFrom_1 F N v1 v7 v8 v9 = some r → Run Tryz.prog ⟨⟨100, [], none⟩, []⟩ 20 (z2b r) [(1, (.int .i64 v1)), (7, g), (8, (.int .i64 v8)), (9, (.int .i64 v9))] [codeC Tryz.prog 100 [1, 0, 1, 0, 0], loopC Tryz.prog 100 [1, 0, 1, 0, 0], .inBlock 0, codeC Tryz.prog 100 [1, 1]] M := by
 intro N
 induction N with
 | zero =>
  intro v1 v7 v8 v9 g Fr M r m hH h
  simp [glitch_areFrom_1] at h
 | succ N ih =>
  intro v1 v7 v8 v9 g Fr M r m hH h
  rw [glitch_areFrom_1] at h
  refine Run.seq (Run.region ?_)
  refine og (ex_lss rfl rfl) rfl ?_
  refine Run.opsEnd (Run.seq ?_)
  rcases btf ((decide (v9 < v8))) with b | b
  ·have h := bif_t b h
   refine Run.condT' rfl b ?_
   refine Run.skip (Run.seq (Run.block (Run.seq (Run.region ?_))))
   obtain ⟨p, d, h⟩ := bnd_some h
   obtain ⟨s, q, _, d, e, rfl⟩ := sl_elem (P := Tryz.prog) (t := 28) (kk := .i64) m d z4i
   refine og (ex_elX rfl rfl d) rfl <| og (ex_load1 rfl (hH.ptrF e) rdLe_rfl z0u) rfl <| av rfl rfl ?_
   refine Run.opsEnd (Run.seq (Run.region ?_))
   refine mv rfl rfl <| og (ex_neg rfl) rfl <| mv rfl rfl <| mv rfl rfl ?_
   obtain ⟨o, f, h⟩ := bnd_some h
   refine Run.callP wantS_none (ex_call rfl z5t z5p) rfl (z1y F (w64 (-v1)) p v1 _ _ f) <| og (ex_not rfl) rfl <| Run.opsEnd ?_
   rcases btf ((!o)) with c | c
   ·have h := bif_t c h
    refine Run.condT' rfl c ?_
    refine Run.seq (Run.region ?_)
    refine av rfl rfl <| Run.opsEnd ?_
    cases h
    exact Run.ret Tryz.func100 rfl (res_tmp rfl res_nil) rfl
   ·have h := bif_f c h
    refine Run.condF' rfl c ?_
    refine Run.skip (Run.inBlock (Run.region ?_))
    refine og (ex_add rfl rfl) rfl <| mv rfl rfl ?_
    refine Run.opsEnd (Run.inLoop ?_)
    exact Run.pick [1, 7, 8, 9] (ih v1 v7 v8 (w64 (v9 + (1 : Int))) g _ _ _ m hH h)
  ·have h := bif_f b h
   refine Run.condF' rfl b ?_
   refine Run.exit rfl (Run.seq (Run.region ?_))
   refine av rfl rfl <| Run.opsEnd ?_
   cases h
   exact Run.ret Tryz.func100 rfl (res_tmp rfl res_nil) rfl

def glitch_areFrom (F : Nat) (a0 : List Int) (a1 : Int) : Option (Bool) :=
 glitch_areFrom_1 F F a1 a0 (a0.length : Int) (0 : Int)

theorem z3s (F : Nat) (a0 : List Int) (a1 : Int) (s0 : SV) (r : Bool) (M : Mem) (b : Slc (rd M) 1 (FlatR enc3) s0 a0) (h : glitch_areFrom F a0 a1 = some r) : CallsM Tryz.prog 100 [s0, (.int .i64 a1)] M (fun s M' => s = (.bool r) ∧ M' = M) := by
 refine CallsM.plain Tryz.func100 rfl rfl rfl (show Run _ _ _ (z2b r) _ _ _ from ?_)
 rw [glitch_areFrom] at h
 replace b := b.mono (rdLe_frozen M) (fun _ _ h => h)
 have hH := Has.nil (frozen M)
 refine Run.seq (Run.region ?_)
 refine av rfl rfl ?_
 refine Run.opsEnd (Run.seq (Run.seq (Run.region ?_)))
 refine mv rfl rfl <| og (ex_len' rfl b z3w) rfl <| mv rfl rfl ?_
 refine Run.opsEnd (Run.block (Run.loop ?_))
 exact Run.pick [1, 7, 8, 9] (z3d F F a1 a0 (a0.length : Int) (0 : Int) s0 _ _ _ b hH h)

theorem z6g : makeK Tryz.prog 100 = none := by kernel_rfl
theorem z5y : callable Tryz.prog 100 = true := by kernel_rfl
abbrev z29 (r : Bool) : SV → Mem → Prop := fun s _ => s = (.bool r)

def glitch_isSignal_1 (F : Nat) (v9 : Bool) : Option (Bool) :=
 some v9

theorem z28 (F : Nat) : ∀ (v9 : Bool) (Fr : Rd) (M : Mem) (r : Bool) (hH : Has Fr M []), glitch_isSignal_1 F v9 = some r → Run Tryz.prog ⟨⟨55, [], none⟩, []⟩ 10 (z29 r) [(9, (.bool v9))] [itemC Tryz.prog 55 [1, 0] 7, codeC Tryz.prog 55 [1, 1]] M := by
 intro v9 Fr M r hH h
 rw [glitch_isSignal_1] at h
 refine av rfl rfl <| Run.opsEnd ?_
 cases h
 exact Run.ret Tryz.func55 rfl (res_tmp rfl res_nil) rfl

def glitch_isSignal (F : Nat) (a0 : List Int) : Option (Bool) :=
 bnd (glitch_isLength F (a0.length : Int)) fun b =>
 bif b then
  bnd (glitch_areFrom F a0 (1048576 : Int)) fun c =>
  glitch_isSignal_1 F c
 else
  glitch_isSignal_1 F false

theorem z3n (F : Nat) (a0 : List Int) (s0 : SV) (r : Bool) (M : Mem) (e : Slc (rd M) 1 (FlatR enc3) s0 a0) (h : glitch_isSignal F a0 = some r) : CallsM Tryz.prog 55 [s0] M (fun s M' => s = (.bool r) ∧ M' = M) := by
 refine CallsM.plain Tryz.func55 rfl rfl rfl (show Run _ _ _ (z29 r) _ _ _ from ?_)
 rw [glitch_isSignal] at h
 replace e := e.mono (rdLe_frozen M) (fun _ _ h => h)
 have hH := Has.nil (frozen M)
 refine Run.seq (Run.region ?_)
 refine av rfl rfl ?_
 refine Run.opsEnd (Run.seq (Run.region ?_))
 refine mv rfl rfl <| og (ex_len' rfl e z3w) rfl ?_
 obtain ⟨f, c, h⟩ := bnd_some h
 refine Run.callP wantS_none (ex_call rfl z7o z78) rfl (z3m F (a0.length : Int) _ _ c) <| mv rfl rfl ?_
 rcases btf (f) with b | b
 ·have h := bif_t b h
  refine gy rfl rfl b (ex_move rfl) rfl ?_
  obtain ⟨g, d, h⟩ := bnd_some h
  refine Run.callP (wantS_yes' rfl rfl b) (ex_call rfl z6g z5y) rfl (z3s F a0 (1048576 : Int) s0 _ _ (hH.slcF e) d) <| og (ex_pickT' rfl b rfl rfl) rfl ?_
  exact Run.pick [9] (z28 F g _ _ _ hH h)
 ·have h := bif_f b h
  refine gn rfl rfl b rfl <| gn rfl rfl b rfl <| og (ex_pickF' rfl b rfl rfl) rfl ?_
  exact Run.pick [9] (z28 F false _ _ _ hH h)

theorem z7f : makeK Tryz.prog 55 = none := by kernel_rfl
theorem z6w : callable Tryz.prog 55 = true := by kernel_rfl
abbrev z2c (r : Int) : SV → Mem → Prop := fun s _ => s = (.int .i64 r)

def glitch_checkThreshold (F : Nat) (a0 : List Int) (a1 : Int) : Option (Int) :=
 bnd (glitch_isSignal F a0) fun b =>
 bif (!b) then
  some (60 : Int)
 else
  bnd (glitch_isFrom F (0 : Int) a1 (1152921504606846976 : Int)) fun c =>
  bif (!c) then
   some (8 : Int)
  else
   some (0 : Int)

theorem z0z (F : Nat) (a0 : List Int) (a1 : Int) (s0 : SV) (r : Int) (M : Mem) (f : Slc (rd M) 1 (FlatR enc3) s0 a0) (h : glitch_checkThreshold F a0 a1 = some r) : CallsM Tryz.prog 50 [s0, (.int .i64 a1)] M (fun s M' => s = (.int .i64 r) ∧ M' = M) := by
 refine CallsM.plain Tryz.func50 rfl rfl rfl (show Run _ _ _ (z2c r) _ _ _ from ?_)
 rw [glitch_checkThreshold] at h
 replace f := f.mono (rdLe_frozen M) (fun _ _ h => h)
 have hH := Has.nil (frozen M)
 refine Run.seq (Run.region ?_)
 refine av rfl rfl ?_
 refine Run.opsEnd (Run.seq (Run.block (Run.seq (Run.region ?_))))
 refine mv rfl rfl ?_
 obtain ⟨g, d, h⟩ := bnd_some h
 refine Run.callP wantS_none (ex_call rfl z7f z6w) rfl (z3n F a0 s0 _ _ (hH.slcF f) d) <| og (ex_not rfl) rfl <| av rfl rfl <| Run.opsEnd ?_
 rcases btf ((!g)) with b | b
 ·have h := bif_t b h
  refine Run.condT' rfl b ?_
  refine Run.seq (Run.region ?_)
  refine av rfl rfl <| Run.opsEnd ?_
  cases h
  exact Run.ret Tryz.func50 rfl (res_tmp rfl res_nil) rfl
 ·have h := bif_f b h
  refine Run.condF' rfl b ?_
  refine Run.seq (Run.region ?_)
  refine mv rfl rfl ?_
  obtain ⟨m, e, h⟩ := bnd_some h
  refine Run.callP wantS_none (ex_call rfl z5t z5p) rfl (z1y F (0 : Int) a1 (1152921504606846976 : Int) _ _ e) <| og (ex_not rfl) rfl <| av rfl rfl <| Run.opsEnd ?_
  rcases btf ((!m)) with c | c
  ·have h := bif_t c h
   refine Run.condT' rfl c ?_
   refine Run.seq (Run.region ?_)
   refine av rfl rfl <| Run.opsEnd ?_
   cases h
   exact Run.ret Tryz.func50 rfl (res_tmp rfl res_nil) rfl
  ·have h := bif_f c h
   refine Run.condF' rfl c ?_
   refine Run.skip (Run.inBlock (Run.seq (Run.region ?_)))
   refine av rfl rfl <| Run.opsEnd ?_
   cases h
   exact Run.ret Tryz.func50 rfl (res_tmp rfl res_nil) rfl

theorem z6o : makeK Tryz.prog 50 = none := by kernel_rfl
theorem z68 : callable Tryz.prog 50 = true := by kernel_rfl
theorem z7u : zerosOf Tryz.prog 50 = some [.nils] := by kernel_rfl
theorem z4h : aggSize Tryz.prog 28 = some none := by kernel_rfl
theorem z7g : makeK Tryz.prog 57 = none := by kernel_rfl
theorem z6x : callable Tryz.prog 57 = true := by kernel_rfl
theorem z5z : callable Tryz.prog 102 = true := by kernel_rfl
theorem z6d : eqK Tryz.prog 28 = some .slice := by kernel_rfl
theorem z79 : sliceElt Tryz.prog 28 = some (⟨1, 8, [(.int .i64 0)], 3⟩ : Elt) := by kernel_rfl
theorem z4x : appT Tryz.prog 28 28 = some (⟨1, 8, [(.int .i64 0)], 3⟩ : Elt) := by kernel_rfl
abbrev z3u (r : List Int) : SV → Mem → Prop := fun s Me => ∃ q1, s = q1 ∧ Has (fun _ => none) Me [.vec 3 1 r.length q1 (r.flatMap enc3)]

def slices_Clone (F : Nat) (a0 : List Int) : Option ((List Int)) :=
 bnd (apd 8 ([] : List Int) a0) fun b =>
 some b

theorem z30 (F : Nat) (a0 : List Int) (s0 : SV) (r : List Int) (M : Mem) (g : Slc (rd M) 1 (FlatR enc3) s0 a0) (h : slices_Clone F a0 = some r) : CallsM Tryz.prog 110 [s0] M (fun s M' => ∃ q1, s = q1 ∧ New M M' [.vec 3 1 r.length q1 (r.flatMap enc3)]) := by
 refine CallsM.fresh (Q := z3u r) Tryz.func110 rfl rfl ?_ (by rintro s Me ⟨q1, rfl, hx⟩ ha hw; exact ⟨_, rfl, New.of rfl hx ha hw⟩)
 rw [slices_Clone] at h
 replace g := g.mono (rdLe_frozen M) (fun _ _ h => h)
 have hH := Has.nil (frozen M)
 refine Run.seq (Run.region ?_)
 refine av rfl rfl ?_
 refine Run.opsEnd (Run.seq (Run.seq (Run.region ?_)))
 refine mv rfl rfl ?_
 rcases slc_or g with ⟨rfl, rfl⟩ | f
 ·have h : (
   some ([] : List Int)
   ) = some r := h
  refine og (ex_nilT rfl rfl z6d) rfl <| Run.opsEnd <| Run.condT' rfl rfl ?_
  refine Run.seq (Run.region ?_)
  refine av rfl rfl <| Run.opsEnd ?_
  have c : Has (ro (frozen M)) (frozen M) [.vec 3 1 ([] : List Int).length .nils (([] : List Int).flatMap enc3)] := hH.nils 3 1
  cases h
  exact Run.ret Tryz.func110 rfl (res_tmp rfl res_nil) ⟨_, rfl, (c.pick [0] rfl rfl).upF (none_le _)⟩
 ·refine og (ex_nilF rfl f rfl z6d) rfl <| Run.opsEnd <| Run.condF' rfl rfl ?_
  refine Run.skip (Run.seq (Run.region ?_))
  refine ox rfl (ExG.built (enc := enc3) (l := ([] : List Int)) (z := 1) rfl z79 rfl rfl rfl z06 hH) ?_
  rintro q o (b : Has (ro (frozen M)) o [.vec 3 1 ([] : List Int).length q (([] : List Int).flatMap enc3)])
  refine mv rfl rfl ?_
  obtain ⟨m, e, h⟩ := bnd_some h
  refine ox rfl (ExG.append rfl rfl b (i := 0) rfl z06 rfl z1n z4x rfl (len_slc g) (first_slc g (rdLe_roF b) z06) e) ?_
  rintro u p (d : Has (ro (frozen M)) p [.vec 3 1 m.length u (m.flatMap enc3)])
  refine av rfl rfl <| Run.opsEnd ?_
  cases h
  exact Run.ret Tryz.func110 rfl (res_tmp rfl res_nil) ⟨_, rfl, (d.pick [0] rfl rfl).upF (none_le _)⟩

theorem z5m : makeK Tryz.prog 110 = none := by kernel_rfl
theorem z5a : callable Tryz.prog 110 = true := by kernel_rfl
theorem z7t : zerosOf Tryz.prog 28 = some [.nils] := by kernel_rfl
theorem z7y : szOf Tryz.prog 28 = some 1 := by kernel_rfl
theorem z6i : makeK Tryz.prog 111 = none := by kernel_rfl
theorem z61 : callable Tryz.prog 111 = true := by kernel_rfl
theorem z6r : slK Tryz.prog 28 = some (.sl 1) := by kernel_rfl
theorem sz3 : szOf Tryz.prog 3 = some 1 := by kernel_rfl
theorem z2f : planOf Tryz.prog (opsC (atC Tryz.prog 111 [1, 1, 0, 0, 1, 1, 0, 0, 1])) = some [.fl 0, .fl 1, .fl 2, .fl 3, .fl 4, .fl 5, .fl 6, .fl 7, .fl 8, .fl 9, .fl 10, .fl 11, .fl 12, .fl 13, .fl 14, .fl 15, .fl 16, .fl 17, .fl 18, .fl 19, .fl 20, .fl 21, .fl 22, .fl 23, .fl 24, .fl 25, .fl 26, .fl 27, .fl 28, .fl 29, .fl 30, .an 31 [29, 5, 4, 3, 2], .fl 32, .an 33 [], .sync] := by kernel_rfl
abbrev z0e (r : List Int) : SV → Mem → Prop := fun s Me => ∃ q1, s = q1 ∧ Has (fun _ => none) Me [.vec 3 1 r.length q1 (r.flatMap enc3)]

def glitch_transform_2 (F : Nat) (f : Int → List Int → Option ((List Int))) : Nat → Int → Int → Int → Int → List Int → List Int → Option ((List Int))
 | 0, _, _, _, _, _, _ => none
 | N + 1, v0, m, c, b, e, d =>
  bif (decide (c < m)) then
   bnd (idx d (w64 ((2 : Int) * c))) fun s =>
   bnd (idx d (w64 ((w64 ((2 : Int) * c)) + (1 : Int)))) fun u =>
   bnd (idx d (w64 ((2 : Int) * c))) fun w =>
   bnd (idx d (w64 ((w64 ((2 : Int) * c)) + (1 : Int)))) fun x =>
   bnd (inn e c) fun p =>
   bnd (upd e p (w64 (s + u))) fun g =>
   bnd (inn g (w64 (v0 + c))) fun q =>
   bnd (upd g q (w64 (w - x))) fun o =>
   (glitch_transform_2 F f N) v0 m (w64 (c + (1 : Int))) b o d
  else
   f (w64 (Int.tdiv b (2 : Int))) e

theorem z2y (F : Nat) (b7 : Int → List Int → Option ((List Int))) (a3 : ∀ (v5 : Int) (b1 : List Int) (o : Pos) (b0 : SV) (Fr : Rd) (M : Mem) (r : List Int) (hH : Has Fr M [.obj o (.row 28 .whole [b0]), .vec 3 1 b1.length b0 (b1.flatMap enc3)]), b7 v5 b1 = some r → Run Tryz.prog ⟨⟨65, [], none⟩, []⟩ 20 (z0e r) [(3, (.ptr o 0)), (4, (.fn (.func 111) [] [(.ptr o 0)])), (5, (.int .i64 v5))] [codeC Tryz.prog 65 [1, 1, 1, 0, 1, 0, 0], loopC Tryz.prog 65 [1, 1, 1, 0, 1, 0, 0], .inBlock 0, codeC Tryz.prog 65 [1, 1, 1, 1]] M) : ∀ (N : Nat), ∀ (v0 b4 b5 b : Int) (b1 b2 : List Int) (o : Pos) (b0 b3 : SV) (Fr : Rd) (M : Mem) (r : List Int) (hH : Has Fr M [.obj o (.row 28 .whole [b0]), .vec 3 1 b1.length b0 (b1.flatMap enc3), .vec 3 1 b2.length b3 (b2.flatMap enc3)]), glitch_transform_2 F b7 N v0 b4 b5 b b1 b2 = some r → Run Tryz.prog ⟨⟨111, [], none⟩, [.mk ⟨65, [], none⟩ 20 (treeOf [(3, (.ptr o 0)), (4, (.fn (.func 111) [] [(.ptr o 0)])), (5, (.int .i64 b))]) [itemC Tryz.prog 65 [1, 1, 1, 0, 1, 0, 0, 1, 0, 0] 2, .inBlock 1, codeC Tryz.prog 65 [1, 1, 1, 0, 1, 0, 0, 1, 1], loopC Tryz.prog 65 [1, 1, 1, 0, 1, 0, 0], .inBlock 0, codeC Tryz.prog 65 [1, 1, 1, 1]]]⟩ 47 (z0e r) [(0, (.int .i64 v0)), (1, (.ptr o 0)), (3, b3), (10, (.int .i64 b4)), (11, (.int .i64 b5))] [codeC Tryz.prog 111 [1, 1, 0, 0], loopC Tryz.prog 111 [1, 1, 0, 0], .inBlock 0] M := by
 intro N
 induction N with
 | zero =>
  intro v0 b4 b5 b b1 b2 o b0 b3 Fr M r hH h
  simp [glitch_transform_2] at h
 | succ N ih =>
  intro v0 b4 b5 b b1 b2 o b0 b3 Fr M r hH h
  rw [glitch_transform_2] at h
  refine Run.seq (Run.region ?_)
  refine og (ex_lss rfl rfl) rfl ?_
  refine Run.opsEnd (Run.seq ?_)
  rcases btf ((decide (b5 < b4))) with c | c
  ·have h := bif_t c h
   refine Run.condT' rfl c ?_
   refine Run.skip (Run.seq (Run.block (Run.seq (Run.region ?_))))
   refine mv rfl rfl <| av rfl rfl <| Run.opsEnd <| Run.drawG z2f <| df rfl (ex_load1 rfl (hH.cells (i := 0) rfl 0 rfl) rdLe_rfl z4h) rfl <| df rfl (ex_move rfl) rfl <| df rfl (ex_load1 rfl (hH.cells (i := 0) rfl 0 rfl) rdLe_rfl z4h) rfl <| df rfl (ex_move rfl) rfl <| df rfl (ex_move rfl) rfl <| df rfl (ex_add rfl rfl) rfl <| df rfl (ex_move rfl) rfl <| df rfl (ex_move rfl) rfl <| df rfl (ex_mul rfl rfl) rfl ?_
   obtain ⟨c1, e, h⟩ := bnd_some h
   obtain ⟨d1, c5, p, e, y⟩ := vec_elem (P := Tryz.prog) (t := 28) (kk := .i64) hH (i := 2) rfl e z4i
   refine df rfl (ex_elX rfl rfl e) rfl <| df rfl (ex_load1 rfl (hH.at (enc := enc3) (a := c1) (i := 2) rfl p y z06) rdLe_rfl z0u) rfl <| df rfl (ex_move rfl) rfl <| df rfl (ex_move rfl) rfl <| df rfl (ex_mul rfl rfl) rfl <| df rfl (ex_add rfl rfl) rfl ?_
   obtain ⟨c2, f, h⟩ := bnd_some h
   obtain ⟨d2, c6, q, f, a0⟩ := vec_elem (P := Tryz.prog) (t := 28) (kk := .i64) hH (i := 2) rfl f z4i
   refine df rfl (ex_elX rfl rfl f) rfl <| df rfl (ex_load1 rfl (hH.at (enc := enc3) (a := c2) (i := 2) rfl q a0 z06) rdLe_rfl z0u) rfl <| df rfl (ex_add rfl rfl) rfl <| df rfl (ex_move rfl) rfl <| df rfl (ex_move rfl) rfl <| df rfl (ex_mul rfl rfl) rfl ?_
   obtain ⟨c3, g, h⟩ := bnd_some h
   obtain ⟨d3, c7, s, g, a1⟩ := vec_elem (P := Tryz.prog) (t := 28) (kk := .i64) hH (i := 2) rfl g z4i
   refine df rfl (ex_elX rfl rfl g) rfl <| df rfl (ex_load1 rfl (hH.at (enc := enc3) (a := c3) (i := 2) rfl s a1 z06) rdLe_rfl z0u) rfl <| df rfl (ex_move rfl) rfl <| df rfl (ex_move rfl) rfl <| df rfl (ex_mul rfl rfl) rfl <| df rfl (ex_add rfl rfl) rfl ?_
   obtain ⟨c4, m, h⟩ := bnd_some h
   obtain ⟨d4, c8, u, m, a2⟩ := vec_elem (P := Tryz.prog) (t := 28) (kk := .i64) hH (i := 2) rfl m z4i
   refine df rfl (ex_elX rfl rfl m) rfl <| df rfl (ex_load1 rfl (hH.at (enc := enc3) (a := c4) (i := 2) rfl u a2 z06) rdLe_rfl z0u) rfl <| df rfl (ex_sub rfl rfl) rfl ?_
   obtain ⟨c9, a6, h⟩ := bnd_some h
   obtain ⟨d5, w, a8⟩ := vec_place (P := Tryz.prog) (t := 28) (kk := .i64) hH (i := 1) rfl a6 z4i
   refine df rfl (ex_elX rfl rfl a8) rfl ?_
   obtain ⟨b8, a4, h⟩ := bnd_some h
   refine DrawG.opX rfl wantS_none rfl (ExG.storeEl rfl rfl hH (i := 1) rfl w a4 sz3 rfl z06 z1n) ?_
   rintro _ b9 ⟨rfl, (d : Has Fr b9 [.obj o (.row 28 .whole [b0]), .vec 3 1 b8.length b0 (b8.flatMap enc3), .vec 3 1 b2.length b3 (b2.flatMap enc3)])⟩
   refine ⟨(st_cons rfl (ev_ex wantS_none (ex_sub rfl rfl)) rfl rfl rfl (st_cons rfl (ev_ex wantS_none (ex_add rfl rfl)) rfl rfl rfl (st_cons rfl (ev_ex wantS_none (ex_move rfl)) rfl rfl rfl (st_cons rfl (ev_ex wantS_none (ex_move rfl)) rfl rfl rfl (st_cons rfl (ev_ex wantS_none (ex_load1 rfl (d.cells (i := 0) rfl 0 rfl) rdLe_rfl z4h)) rfl rfl (blk_self d (i := 1) rfl) st_nil))))), ?_⟩
   obtain ⟨d0, a7, h⟩ := bnd_some h
   obtain ⟨d6, x, a9⟩ := vec_place (P := Tryz.prog) (t := 28) (kk := .i64) d (i := 1) rfl a7 z4i
   refine df rfl (ex_elX rfl rfl a9) rfl ?_
   obtain ⟨b6, a5, h⟩ := bnd_some h
   refine DrawG.opX rfl wantS_none rfl (ExG.storeEl rfl rfl d (i := 1) rfl x a5 sz3 rfl z06 z1n) ?_
   rintro _ c0 ⟨rfl, (n : Has Fr c0 [.obj o (.row 28 .whole [b0]), .vec 3 1 b6.length b0 (b6.flatMap enc3), .vec 3 1 b2.length b3 (b2.flatMap enc3)])⟩
   refine ⟨st_nil, ?_⟩
   refine DrawG.sync <| DrawG.nil ?_
   refine Run.inBlock (Run.region ?_)
   refine og (ex_add rfl rfl) rfl <| mv rfl rfl ?_
   refine Run.opsEnd (Run.inLoop ?_)
   exact Run.low (.cons (fle_pick [3, 4, 5] rfl) .nil) (Run.pick [0, 1, 3, 10, 11] (ih v0 b4 (w64 (b5 + (1 : Int))) b b6 b2 o b0 b3 _ _ _ n h))
  ·have h := bif_f c h
   refine Run.condF' rfl c <| Run.exit rfl <| Run.fallTo Tryz.func111 rfl res_nil rfl ?_
   refine Run.opsEnd (Run.inBlock (Run.region ?_))
   refine mv rfl rfl <| og (ex_quo rfl rfl (by decide)) rfl <| av rfl rfl ?_
   refine Run.opsEnd (Run.inLoop ?_)
   exact Run.pick [3, 4, 5] (a3 (w64 (Int.tdiv b (2 : Int))) b1 o b0 _ _ _ (hH.pick [0, 1] rfl rfl) h)

def glitch_transform_1 (F : Nat) : Nat → Int → List Int → Option ((List Int))
 | 0, _, _ => none
 | N + 1, v5, b =>
  bif (decide ((0 : Int) < v5)) then
   bnd (subP b.length 0 (w64 ((2 : Int) * v5))) fun c =>
   bnd (parL b (0 + c.1) c.2) fun d =>
   bnd (slices_Clone F d) fun e =>
   glitch_transform_2 F (glitch_transform_1 F N) F v5 v5 (0 : Int) v5 b e
  else
   some b

theorem z2x (F : Nat) : ∀ (N : Nat), ∀ (v5 : Int) (o : List Int) (s : Pos) (u : SV) (Fr : Rd) (M : Mem) (r : List Int) (hH : Has Fr M [.obj s (.row 28 .whole [u]), .vec 3 1 o.length u (o.flatMap enc3)]), glitch_transform_1 F N v5 o = some r → Run Tryz.prog ⟨⟨65, [], none⟩, []⟩ 20 (z0e r) [(3, (.ptr s 0)), (4, (.fn (.func 111) [] [(.ptr s 0)])), (5, (.int .i64 v5))] [codeC Tryz.prog 65 [1, 1, 1, 0, 1, 0, 0], loopC Tryz.prog 65 [1, 1, 1, 0, 1, 0, 0], .inBlock 0, codeC Tryz.prog 65 [1, 1, 1, 1]] M := by
 intro N
 induction N with
 | zero =>
  intro v5 o s u Fr M r hH h
  simp [glitch_transform_1] at h
 | succ N ih =>
  intro v5 o s u Fr M r hH h
  rw [glitch_transform_1] at h
  refine Run.seq (Run.seq (Run.region ?_))
  refine mv rfl rfl <| og (ex_gtr rfl rfl) rfl <| Run.opsEnd ?_
  rcases btf ((decide ((0 : Int) < v5))) with hc30 | hc30
  ·have h := bif_t hc30 h
   refine Run.condT' rfl hc30 ?_
   refine Run.skip (Run.seq (Run.block (Run.region ?_)))
   refine mv rfl rfl <| mv rfl rfl <| Run.enter wantS_none (ex_closure rfl rfl z6i z61) Tryz.func111 rfl rfl ?_
   refine Run.seq (Run.region ?_)
   refine og (ex_load1 rfl (hH.cells (i := 0) rfl 0 rfl) rdLe_rfl z4h) rfl <| mv rfl rfl <| og (ex_mul rfl rfl) rfl ?_
   obtain ⟨a1, e, h⟩ := bnd_some h
   have m := part_all hH (i := 1) rfl
   obtain ⟨a0, q, g⟩ := part_cutH (P := Tryz.prog) (t := 28) (k0 := .i64) m e z6r
   refine og (ex_slX rfl (argO_none) (argO_some rfl) q) rfl ?_
   obtain ⟨y, f, h⟩ := bnd_some h
   obtain ⟨w, n, h⟩ := bnd_some h
   have p := part_slc hH (i := 1) rfl z06 g f
   refine Run.callX wantS_none (ex_call rfl z5m z5a) rfl (z30 F y a0 _ _ p n) ?_
   rintro b x ⟨_, rfl, d⟩
   have c : Has Fr x [.vec 3 1 w.length b (w.flatMap enc3), .obj s (.row 28 .whole [u]), .vec 3 1 o.length u (o.flatMap enc3)] := d.1 _ _ hH
   refine av rfl rfl ?_
   refine Run.opsEnd (Run.seq (Run.region ?_))
   refine mv rfl rfl <| mv rfl rfl ?_
   refine Run.opsEnd (Run.block (Run.loop ?_))
   exact Run.low (.cons (fle_pick [3, 4, 5] rfl) .nil) (Run.pick [0, 1, 3, 10, 11] (z2y F (glitch_transform_1 F N) ih F v5 v5 (0 : Int) v5 o w s u b _ _ _ (c.pick [1, 2, 0] rfl rfl) h))
  ·have h := bif_f hc30 h
   refine Run.condF' rfl hc30 ?_
   refine Run.exit rfl (Run.seq (Run.region ?_))
   refine og (ex_load1 rfl (hH.cells (i := 0) rfl 0 rfl) rdLe_rfl z4h) rfl <| av rfl rfl <| Run.opsEnd ?_
   cases h
   exact Run.ret Tryz.func65 rfl (res_tmp rfl res_nil) ⟨_, rfl, (hH.pick [1] rfl rfl).upF (none_le _)⟩

def glitch_transform (F : Nat) (a0 : List Int) : Option ((List Int)) :=
 bnd (slices_Clone F a0) fun b =>
 glitch_transform_1 F F (w64 (Int.tdiv (a0.length : Int) (2 : Int))) b

theorem z3f (F : Nat) (a0 : List Int) (s0 : SV) (r : List Int) (M : Mem) (p : Slc (rd M) 1 (FlatR enc3) s0 a0) (h : glitch_transform F a0 = some r) : CallsM Tryz.prog 65 [s0] M (fun s M' => ∃ q1, s = q1 ∧ New M M' [.vec 3 1 r.length q1 (r.flatMap enc3)]) := by
 refine CallsM.fresh (Q := z0e r) Tryz.func65 rfl rfl ?_ (by rintro s Me ⟨q1, rfl, hx⟩ ha hw; exact ⟨_, rfl, New.of rfl hx ha hw⟩)
 rw [glitch_transform] at h
 replace p := p.mono (rdLe_frozen M) (fun _ _ h => h)
 have hH := Has.nil (frozen M)
 refine Run.seq (Run.region ?_)
 refine av rfl rfl ?_
 refine Run.opsEnd (Run.seq (Run.region ?_))
 refine mv rfl rfl ?_
 obtain ⟨o, m, h⟩ := bnd_some h
 refine Run.callX wantS_none (ex_call rfl z5m z5a) rfl (z30 F a0 s0 _ _ (hH.slcF p) m) ?_
 rintro c u ⟨_, rfl, g⟩
 have e : Has (ro (frozen M)) u [.vec 3 1 o.length c (o.flatMap enc3)] := g.1 _ _ hH
 refine ox rfl (ExG.new (v := fun b => .ptr b 0) (ex_alloc z7t) e) ?_
 rintro _ x ⟨q, rfl, d⟩
 refine ox rfl (ExG.storeC (c' := [c]) rfl rfl (cells_one (vec_one d (i := 1) rfl)) d (i := 0) rfl z7y rfl rfl rfl (ones_cons (vec_one d (i := 1) rfl) ones_nil) rfl) ?_
 rintro _ w ⟨rfl, (f : Has (ro (frozen M)) w [.obj q (.row 28 .whole [c]), .vec 3 1 o.length c (o.flatMap enc3)])⟩
 refine Run.opsEnd (Run.seq (Run.region ?_))
 refine og (ex_makeFunc rfl rfl) rfl <| av rfl rfl ?_
 refine Run.opsEnd (Run.seq (Run.seq (Run.region ?_)))
 refine mv rfl rfl <| og (ex_len' rfl p z3w) rfl <| og (ex_quo rfl rfl (by decide)) rfl <| av rfl rfl ?_
 refine Run.opsEnd (Run.block (Run.loop ?_))
 exact Run.pick [3, 4, 5] (z2x F F (w64 (Int.tdiv (a0.length : Int) (2 : Int))) o q c _ _ _ f h)

theorem z7h : makeK Tryz.prog 65 = none := by kernel_rfl
theorem z6y : callable Tryz.prog 65 = true := by kernel_rfl
theorem z58 : zerosOf Tryz.prog 59 = some [(.int .i64 0), (.int .i64 0), (.int .i64 0)] := by kernel_rfl
theorem z7q : placesOf Tryz.prog 59 = some (.st [(0, 1), (1, 1), (2, 1)]) := by kernel_rfl
theorem z7s : szOf Tryz.prog 59 = some 3 := by kernel_rfl
theorem z3h : aggSize Tryz.prog 59 = some (some 3) := by kernel_rfl
theorem z4g : fieldOff Tryz.prog 59 2 = some 2 := by kernel_rfl
theorem z2z : fieldOff Tryz.prog 59 0 = some 0 := by kernel_rfl
theorem z4v : planOf Tryz.prog (opsC (atC Tryz.prog 90 [1, 0])) = some [.fl 0, .fl 1, .fl 2, .fl 3, .fl 4, .fl 5, .fl 6, .fl 7, .fl 8, .fl 9, .fl 10, .sync] := by kernel_rfl
abbrev z3k (r : Int) : SV → Mem → Prop := fun s _ => s = (.int .i64 r)

def glitch_energy (F : Nat) (a0 : S_api_Tile) (a1 : Int) : Option (Int) :=
 bnd (shn a0.Level) fun b =>
 some (w64 ((w64 (a0.D * a0.D)) * (Int.fdiv a1 (2 ^ (min b (IntKind.bits .i64))))))

theorem z0v (F : Nat) (a0 : S_api_Tile) (a1 r : Int) (M : Mem) (h : glitch_energy F a0 a1 = some r) : CallsM Tryz.prog 90 [(.agg [(.int .i64 a0.Level), (.int .i64 a0.At), (.int .i64 a0.D)]), (.int .i64 a1)] M (fun s M' => s = (.int .i64 r) ∧ M' = M) := by
 refine CallsM.plain Tryz.func90 rfl rfl rfl (show Run _ _ _ (z3k r) _ _ _ from ?_)
 rw [glitch_energy] at h
 have hH := Has.nil (frozen M)
 refine Run.seq (Run.region ?_)
 refine ox rfl (ExG.box rfl rfl hH) ?_
 rintro _ d ⟨e, rfl, b⟩
 refine av rfl rfl ?_
 refine Run.opsEnd (Run.seq ?_)
 refine Run.drawG z4v <| df rfl (ex_fieldAddr rfl z4g) rfl <| df rfl (ex_load1 rfl (b.cells (i := 0) rfl 2 rfl) rdLe_rfl z0u) rfl <| df rfl (ex_fieldAddr rfl z4g) rfl <| df rfl (ex_load1 rfl (b.cells (i := 0) rfl 2 rfl) rdLe_rfl z0u) rfl <| df rfl (ex_mul rfl rfl) rfl <| df rfl (ex_move rfl) rfl <| df rfl (ex_fieldAddr rfl z2z) rfl <| df rfl (ex_load1 rfl (b.cells (i := 0) rfl 0 rfl) rdLe_rfl z0u) rfl ?_
 obtain ⟨f, c, h⟩ := bnd_some h
 refine df rfl (ex_shr' rfl rfl c) rfl <| df rfl (ex_mul rfl rfl) rfl <| df rfl (ex_assign rfl) rfl <| DrawG.sync <| DrawG.nil ?_
 cases h
 exact Run.ret Tryz.func90 rfl (res_tmp rfl res_nil) rfl

theorem z57 : makeK Tryz.prog 90 = none := by kernel_rfl
theorem z56 : callable Tryz.prog 90 = true := by kernel_rfl
theorem z5v : aggSize Tryz.prog 50 = some none := by kernel_rfl
theorem z7a : sliceElt Tryz.prog 50 = some (⟨3, 24, [(.int .i64 0), (.int .i64 0), (.int .i64 0)], 59⟩ : Elt) := by kernel_rfl
theorem z4y : appT Tryz.prog 50 50 = some (⟨3, 24, [(.int .i64 0), (.int .i64 0), (.int .i64 0)], 59⟩ : Elt) := by kernel_rfl
theorem z7z : szOf Tryz.prog 50 = some 1 := by kernel_rfl
theorem z2p : planOf Tryz.prog (opsC (atC Tryz.prog 51 [1, 1, 0, 1, 0, 1, 0, 0])) = some [.fl 0, .fl 1, .fl 2, .fl 4, .an 3 [4], .fl 5, .sync] := by kernel_rfl
abbrev z0w (r : List S_api_Tile) : SV → Mem → Prop := fun s Me => ∃ q1, s = q1 ∧ Has (fun _ => none) Me [.vec 59 3 r.length q1 (r.flatMap z04)]

def glitch_loud_2 (F : Nat) (o : Int → Int → List Int → Int → List Int → List S_api_Tile → List Int → Option ((List S_api_Tile))) : Nat → Int → Int → Nat → Nat → Int → Int → List Int → Int → List Int → List S_api_Tile → List Int → Option ((List S_api_Tile))
 | 0, _, _, _, _, _, _, _, _, _, _, _ => none
 | N + 1, v4, v5, f, e, q, g, b, c, d, p, m =>
  bif (decide (g < q)) then
   bnd (inP m f e g) fun w =>
   bnd (m[w]?) fun s =>
   bnd (glitch_energy F (S_api_Tile.mk v4 g s) (b.length : Int)) fun x =>
   bif (decide (c ≤ x)) then
    bnd (apd 24 p ([(S_api_Tile.mk v4 g s)] : List S_api_Tile)) fun u =>
    (glitch_loud_2 F o N) v4 v5 f e q (w64 (g + (1 : Int))) b c d u m
   else
    (glitch_loud_2 F o N) v4 v5 f e q (w64 (g + (1 : Int))) b c d p m
  else
   o v4 (w64 (Int.tdiv v5 (2 : Int))) b c d p m

theorem z40 (F : Nat) (d0 : Int → Int → List Int → Int → List Int → List S_api_Tile → List Int → Option ((List S_api_Tile))) (a8 : ∀ (v4 v5 : Int) (f : List Int) (e : Int) (g : List Int) (c2 : List S_api_Tile) (b6 : List Int) (c d : SV) (c1 b7 b8 o : Pos) (c4 : SV) (b9 b5 : Pos) (c3 : SV) (Fr : Rd) (M : Mem) (r : List S_api_Tile) (m : Slc Fr 1 (FlatR enc3) c f) (n : Slc Fr 1 (FlatR enc3) d g) (hH : Has Fr M [.obj c1 (.loop ⟨.ready, none, 51, 21, treeOf [(2, (.ptr b7 0)), (3, (.ptr b8 0)), (4, .nils), (5, (.ptr o 0)), (8, (.fn (.func 102) [] [(.ptr b9 0)]))], [9], (atC Tryz.prog 51 [1, 1, 0, 1, 0, 0]), (atC Tryz.prog 51 [1, 1, 0, 1, 0, 1]), b5⟩), .obj b7 (.row 28 .whole [c]), .obj b8 (.row 3 .whole [(.int .i64 e)]), .obj o (.row 50 .whole [c4]), .vec 59 3 c2.length c4 (c2.flatMap z04), .obj b9 (.row 28 .whole [d]), .obj b5 .defd, .vec 3 1 b6.length c3 (b6.flatMap enc3)]), d0 v4 v5 f e g c2 b6 = some r → Run Tryz.prog ⟨⟨102, [], none⟩, [.mk ⟨51, [b5], none⟩ 21 (treeOf [(5, (.ptr o 0))]) [.inRange c1, .inBlock 0, codeC Tryz.prog 51 [1, 1, 1]]]⟩ 38 (z0w r) [(0, (.yield c1)), (3, c3), (4, (.int .i64 v4)), (5, (.int .i64 v5))] [codeC Tryz.prog 102 [1, 1, 1, 0, 0], loopC Tryz.prog 102 [1, 1, 1, 0, 0], .inBlock 0] M) : ∀ (N : Nat), ∀ (v4 v5 : Int) (s q : Nat) (c8 b4 : Int) (f : List Int) (e : Int) (g : List Int) (c2 : List S_api_Tile) (b6 : List Int) (u c d : SV) (c1 b7 b8 o : Pos) (c4 : SV) (b9 b5 : Pos) (c3 : SV) (Fr : Rd) (M : Mem) (r : List S_api_Tile) (y : Part c3 1 s q u) (m : Slc Fr 1 (FlatR enc3) c f) (n : Slc Fr 1 (FlatR enc3) d g) (hH : Has Fr M [.obj c1 (.loop ⟨.ready, none, 51, 21, treeOf [(2, (.ptr b7 0)), (3, (.ptr b8 0)), (4, .nils), (5, (.ptr o 0)), (8, (.fn (.func 102) [] [(.ptr b9 0)]))], [9], (atC Tryz.prog 51 [1, 1, 0, 1, 0, 0]), (atC Tryz.prog 51 [1, 1, 0, 1, 0, 1]), b5⟩), .obj b7 (.row 28 .whole [c]), .obj b8 (.row 3 .whole [(.int .i64 e)]), .obj o (.row 50 .whole [c4]), .vec 59 3 c2.length c4 (c2.flatMap z04), .obj b9 (.row 28 .whole [d]), .obj b5 .defd, .vec 3 1 b6.length c3 (b6.flatMap enc3)]), glitch_loud_2 F d0 N v4 v5 s q c8 b4 f e g c2 b6 = some r → Run Tryz.prog ⟨⟨102, [], none⟩, [.mk ⟨51, [b5], none⟩ 21 (treeOf [(5, (.ptr o 0))]) [.inRange c1, .inBlock 0, codeC Tryz.prog 51 [1, 1, 1]]]⟩ 38 (z0w r) [(0, (.yield c1)), (3, c3), (4, (.int .i64 v4)), (5, (.int .i64 v5)), (23, u), (24, (.int .i64 c8)), (25, (.int .i64 b4))] [codeC Tryz.prog 102 [1, 1, 1, 0, 0, 1, 0, 0, 1, 1, 0, 0], loopC Tryz.prog 102 [1, 1, 1, 0, 0, 1, 0, 0, 1, 1, 0, 0], .inBlock 2, .inBlock 1, codeC Tryz.prog 102 [1, 1, 1, 0, 0, 1, 1], loopC Tryz.prog 102 [1, 1, 1, 0, 0], .inBlock 0] M := by
 intro N
 induction N with
 | zero =>
  intro v4 v5 s q c8 b4 f e g c2 b6 u c d c1 b7 b8 o c4 b9 b5 c3 Fr M r y m n hH h
  simp [glitch_loud_2] at h
 | succ N ih =>
  intro v4 v5 s q c8 b4 f e g c2 b6 u c d c1 b7 b8 o c4 b9 b5 c3 Fr M r y m n hH h
  rw [glitch_loud_2] at h
  refine Run.seq (Run.region ?_)
  refine og (ex_lss rfl rfl) rfl ?_
  refine Run.opsEnd (Run.seq ?_)
  rcases btf ((decide (b4 < c8))) with w | w
  ·have h := bif_t w h
   refine Run.condT' rfl w ?_
   refine Run.skip (Run.seq (Run.block (Run.seq (Run.region ?_))))
   refine mv rfl rfl ?_
   obtain ⟨e0, b0, h⟩ := bnd_some h
   obtain ⟨e1, a7, b2⟩ := part_place (P := Tryz.prog) (t := 28) (kk := .i64) hH (i := 7) rfl y b0 z4i
   refine og (ex_elX rfl rfl b2) rfl ?_
   obtain ⟨c0, b3, h⟩ := bnd_some h
   refine og (ex_load1 rfl (hH.at (enc := enc3) (a := c0) (i := 7) rfl a7 b3 z06) rdLe_rfl z0u) rfl <| av rfl rfl <| av rfl rfl ?_
   refine Run.opsEnd (Run.seq (Run.region ?_))
   refine mv rfl rfl <| mv rfl rfl <| mv rfl rfl <| mv rfl rfl <| og (ex_build (r := [(.int .i64 v4), (.int .i64 b4), (.int .i64 c0)]) rfl z58 z7q rfl) rfl <| Run.round (e' := [(9, (.agg [(.int .i64 v4), (.int .i64 b4), (.int .i64 c0)])), (2, (.ptr b7 0)), (3, (.ptr b8 0)), (4, .nils), (5, (.ptr o 0)), (8, (.fn (.func 102) [] [(.ptr b9 0)]))]) wantS_none (ex_yield hH (i := 0) rfl rfl rfl rfl) (hH.loopOf (i := 0) rfl) rfl <| Run.region <| ox rfl (ExG.new (v := fun b => .ptr b 0) (ex_alloc z58) hH) ?_
   rintro _ d9 ⟨c5, rfl, a2⟩
   refine ox rfl (ExG.storeC (c' := [(.int .i64 v4), (.int .i64 b4), (.int .i64 c0)]) rfl rfl rfl a2 (i := 0) rfl z7s rfl rfl rfl rfl rfl) ?_
   rintro _ d1 ⟨rfl, (a3 : Has Fr d1 [.obj c5 (.row 59 .whole [(.int .i64 v4), (.int .i64 b4), (.int .i64 c0)]), .obj c1 (.loop ⟨.ready, none, 51, 21, treeOf [(2, (.ptr b7 0)), (3, (.ptr b8 0)), (4, .nils), (5, (.ptr o 0)), (8, (.fn (.func 102) [] [(.ptr b9 0)]))], [9], (atC Tryz.prog 51 [1, 1, 0, 1, 0, 0]), (atC Tryz.prog 51 [1, 1, 0, 1, 0, 1]), b5⟩), .obj b7 (.row 28 .whole [c]), .obj b8 (.row 3 .whole [(.int .i64 e)]), .obj o (.row 50 .whole [c4]), .vec 59 3 c2.length c4 (c2.flatMap z04), .obj b9 (.row 28 .whole [d]), .obj b5 .defd, .vec 3 1 b6.length c3 (b6.flatMap enc3)])⟩
   refine Run.opsEnd <| Run.beginX a3 (i := 1) rfl rfl ?_
   intro d2 (p : Has Fr d2 [.obj c5 (.row 59 .whole [(.int .i64 v4), (.int .i64 b4), (.int .i64 c0)]), .obj c1 (.loop ⟨.busy, none, 51, 21, treeOf [(2, (.ptr b7 0)), (3, (.ptr b8 0)), (4, .nils), (5, (.ptr o 0)), (8, (.fn (.func 102) [] [(.ptr b9 0)]))], [9], (atC Tryz.prog 51 [1, 1, 0, 1, 0, 0]), (atC Tryz.prog 51 [1, 1, 0, 1, 0, 1]), b5⟩), .obj b7 (.row 28 .whole [c]), .obj b8 (.row 3 .whole [(.int .i64 e)]), .obj o (.row 50 .whole [c4]), .vec 59 3 c2.length c4 (c2.flatMap z04), .obj b9 (.row 28 .whole [d]), .obj b5 .defd, .vec 3 1 b6.length c3 (b6.flatMap enc3)])
   refine Run.block (Run.seq ?_)
   refine Run.drawG z2p <| df rfl (ex_loadA rfl (p.cells (i := 0) rfl 0 rfl) rdLe_rfl z3h rfl rfl rfl) rfl <| df rfl (ex_load1 rfl (p.cells (i := 2) rfl 0 rfl) rdLe_rfl z4h) rfl <| df rfl (ex_len' rfl m z3w) rfl <| df rfl (ex_load1 rfl (p.cells (i := 3) rfl 0 rfl) rdLe_rfl z0u) rfl ?_
   obtain ⟨d8, b1, h⟩ := bnd_some h
   refine DrawG.callP rfl wantS_none (ex_call rfl z57 z56) rfl (z0v F (S_api_Tile.mk v4 b4 c0) (f.length : Int) _ _ b1) (st_cons rfl (ev_ex wantS_none (ex_load1 rfl (p.cells (i := 3) rfl 0 rfl) rdLe_rfl z0u)) rfl rfl rfl st_nil) <| df rfl (ex_geq rfl rfl) rfl <| DrawG.sync <| DrawG.nil ?_
   rcases btf ((decide (e ≤ d8))) with x | x
   ·have h := bif_t x h
    refine Run.condT' rfl x <| Run.region <| og (ex_load1 rfl (p.cells (i := 4) rfl 0 rfl) rdLe_rfl z5v) rfl <| og (ex_loadA rfl (p.cells (i := 0) rfl 0 rfl) rdLe_rfl z3h rfl rfl rfl) rfl <| ox rfl (ExG.built (enc := z04) (l := ([(S_api_Tile.mk v4 b4 c0)] : List S_api_Tile)) (z := 3) rfl z7a rfl rfl rfl z08 p) ?_
    rintro c9 d3 (a0 : Has Fr d3 [.vec 59 3 ([(S_api_Tile.mk v4 b4 c0)] : List S_api_Tile).length c9 (([(S_api_Tile.mk v4 b4 c0)] : List S_api_Tile).flatMap z04), .obj c5 (.row 59 .whole [(.int .i64 v4), (.int .i64 b4), (.int .i64 c0)]), .obj c1 (.loop ⟨.busy, none, 51, 21, treeOf [(2, (.ptr b7 0)), (3, (.ptr b8 0)), (4, .nils), (5, (.ptr o 0)), (8, (.fn (.func 102) [] [(.ptr b9 0)]))], [9], (atC Tryz.prog 51 [1, 1, 0, 1, 0, 0]), (atC Tryz.prog 51 [1, 1, 0, 1, 0, 1]), b5⟩), .obj b7 (.row 28 .whole [c]), .obj b8 (.row 3 .whole [(.int .i64 e)]), .obj o (.row 50 .whole [c4]), .vec 59 3 c2.length c4 (c2.flatMap z04), .obj b9 (.row 28 .whole [d]), .obj b5 .defd, .vec 3 1 b6.length c3 (b6.flatMap enc3)])
    obtain ⟨c6, a9, h⟩ := bnd_some h
    refine ox rfl (ExG.append rfl rfl a0 (i := 6) rfl z08 rfl z4u z4y rfl (len_slc (a0.slc (i := 0) rfl z08)) (first_slc (a0.slc (i := 0) rfl z08) (rdLe_rdRow _) z08) a9) ?_
    rintro c7 d4 (a1 : Has Fr d4 [.vec 59 3 ([(S_api_Tile.mk v4 b4 c0)] : List S_api_Tile).length c9 (([(S_api_Tile.mk v4 b4 c0)] : List S_api_Tile).flatMap z04), .obj c5 (.row 59 .whole [(.int .i64 v4), (.int .i64 b4), (.int .i64 c0)]), .obj c1 (.loop ⟨.busy, none, 51, 21, treeOf [(2, (.ptr b7 0)), (3, (.ptr b8 0)), (4, .nils), (5, (.ptr o 0)), (8, (.fn (.func 102) [] [(.ptr b9 0)]))], [9], (atC Tryz.prog 51 [1, 1, 0, 1, 0, 0]), (atC Tryz.prog 51 [1, 1, 0, 1, 0, 1]), b5⟩), .obj b7 (.row 28 .whole [c]), .obj b8 (.row 3 .whole [(.int .i64 e)]), .obj o (.row 50 .whole [c4]), .vec 59 3 c6.length c7 (c6.flatMap z04), .obj b9 (.row 28 .whole [d]), .obj b5 .defd, .vec 3 1 b6.length c3 (b6.flatMap enc3)])
    refine ox rfl (ExG.storeC (c' := [c7]) rfl rfl (cells_one (vec_one a1 (i := 6) rfl)) a1 (i := 5) rfl z7z rfl rfl rfl (ones_cons (vec_one a1 (i := 6) rfl) ones_nil) rfl) ?_
    rintro _ d5 ⟨rfl, (a4 : Has Fr d5 [.vec 59 3 ([(S_api_Tile.mk v4 b4 c0)] : List S_api_Tile).length c9 (([(S_api_Tile.mk v4 b4 c0)] : List S_api_Tile).flatMap z04), .obj c5 (.row 59 .whole [(.int .i64 v4), (.int .i64 b4), (.int .i64 c0)]), .obj c1 (.loop ⟨.busy, none, 51, 21, treeOf [(2, (.ptr b7 0)), (3, (.ptr b8 0)), (4, .nils), (5, (.ptr o 0)), (8, (.fn (.func 102) [] [(.ptr b9 0)]))], [9], (atC Tryz.prog 51 [1, 1, 0, 1, 0, 0]), (atC Tryz.prog 51 [1, 1, 0, 1, 0, 1]), b5⟩), .obj b7 (.row 28 .whole [c]), .obj b8 (.row 3 .whole [(.int .i64 e)]), .obj o (.row 50 .whole [c7]), .vec 59 3 c6.length c7 (c6.flatMap z04), .obj b9 (.row 28 .whole [d]), .obj b5 .defd, .vec 3 1 b6.length c3 (b6.flatMap enc3)])⟩
    refine Run.opsEnd (Run.inBlock ?_)
    refine Run.roundEndX a4 (i := 2) rfl rfl ?_
    intro d6 (a5 : Has Fr d6 [.vec 59 3 ([(S_api_Tile.mk v4 b4 c0)] : List S_api_Tile).length c9 (([(S_api_Tile.mk v4 b4 c0)] : List S_api_Tile).flatMap z04), .obj c5 (.row 59 .whole [(.int .i64 v4), (.int .i64 b4), (.int .i64 c0)]), .obj c1 (.loop ⟨.ready, none, 51, 21, treeOf [(2, (.ptr b7 0)), (3, (.ptr b8 0)), (4, .nils), (5, (.ptr o 0)), (8, (.fn (.func 102) [] [(.ptr b9 0)]))], [9], (atC Tryz.prog 51 [1, 1, 0, 1, 0, 0]), (atC Tryz.prog 51 [1, 1, 0, 1, 0, 1]), b5⟩), .obj b7 (.row 28 .whole [c]), .obj b8 (.row 3 .whole [(.int .i64 e)]), .obj o (.row 50 .whole [c7]), .vec 59 3 c6.length c7 (c6.flatMap z04), .obj b9 (.row 28 .whole [d]), .obj b5 .defd, .vec 3 1 b6.length c3 (b6.flatMap enc3)])
    refine og (ex_not rfl) rfl <| Run.opsEnd <| Run.condF' rfl (bnot_f rfl) ?_
    refine Run.skip (Run.inBlock (Run.region ?_))
    refine og (ex_add rfl rfl) rfl <| mv rfl rfl ?_
    refine Run.opsEnd (Run.inLoop ?_)
    exact Run.low (.cons (fle_pick [5] rfl) .nil) (Run.pick [0, 3, 4, 5, 23, 24, 25] (ih v4 v5 s q c8 (w64 (b4 + (1 : Int))) f e g c6 b6 u c d c1 b7 b8 o c7 b9 b5 c3 _ _ _ y m n (a5.pick [2, 3, 4, 5, 6, 7, 8, 9] rfl rfl) h))
   ·have h := bif_f x h
    refine Run.condF' rfl x ?_
    refine Run.skip (Run.inBlock ?_)
    refine Run.roundEndX p (i := 1) rfl rfl ?_
    intro d7 (a6 : Has Fr d7 [.obj c5 (.row 59 .whole [(.int .i64 v4), (.int .i64 b4), (.int .i64 c0)]), .obj c1 (.loop ⟨.ready, none, 51, 21, treeOf [(2, (.ptr b7 0)), (3, (.ptr b8 0)), (4, .nils), (5, (.ptr o 0)), (8, (.fn (.func 102) [] [(.ptr b9 0)]))], [9], (atC Tryz.prog 51 [1, 1, 0, 1, 0, 0]), (atC Tryz.prog 51 [1, 1, 0, 1, 0, 1]), b5⟩), .obj b7 (.row 28 .whole [c]), .obj b8 (.row 3 .whole [(.int .i64 e)]), .obj o (.row 50 .whole [c4]), .vec 59 3 c2.length c4 (c2.flatMap z04), .obj b9 (.row 28 .whole [d]), .obj b5 .defd, .vec 3 1 b6.length c3 (b6.flatMap enc3)])
    refine og (ex_not rfl) rfl <| Run.opsEnd <| Run.condF' rfl (bnot_f rfl) ?_
    refine Run.skip (Run.inBlock (Run.region ?_))
    refine og (ex_add rfl rfl) rfl <| mv rfl rfl ?_
    refine Run.opsEnd (Run.inLoop ?_)
    exact Run.low (.cons (fle_pick [5] rfl) .nil) (Run.pick [0, 3, 4, 5, 23, 24, 25] (ih v4 v5 s q c8 (w64 (b4 + (1 : Int))) f e g c2 b6 u c d c1 b7 b8 o c4 b9 b5 c3 _ _ _ y m n (a6.pick [1, 2, 3, 4, 5, 6, 7, 8] rfl rfl) h))
  ·have h := bif_f w h
   refine Run.condF' rfl w ?_
   refine Run.exit rfl (Run.inBlock (Run.region ?_))
   refine mv rfl rfl <| og (ex_quo rfl rfl (by decide)) rfl <| av rfl rfl ?_
   refine Run.opsEnd (Run.inLoop ?_)
   exact Run.low (.cons (fle_pick [5] rfl) .nil) (Run.pick [0, 3, 4, 5] (a8 v4 (w64 (Int.tdiv v5 (2 : Int))) f e g c2 b6 c d c1 b7 b8 o c4 b9 b5 c3 _ _ _ m n hH h))

def glitch_loud_1 (F : Nat) : Nat → Int → Int → List Int → Int → List Int → List S_api_Tile → List Int → Option ((List S_api_Tile))
 | 0, _, _, _, _, _, _, _ => none
 | N + 1, v4, v5, b, c, d, g, f =>
  bif (decide ((0 : Int) < v5)) then
   bnd (subP f.length v5 (w64 ((2 : Int) * v5))) fun e =>
   glitch_loud_2 F (glitch_loud_1 F N) F (w64 (v4 + (1 : Int))) v5 (0 + e.1) e.2 ((e.2 : Nat) : Int) (0 : Int) b c d g f
  else
   some g

theorem z3z (F : Nat) : ∀ (N : Nat), ∀ (v4 v5 : Int) (e : List Int) (d : Int) (f : List Int) (a2 : List S_api_Tile) (a1 : List Int) (b c : SV) (a7 a3 a4 o : Pos) (a6 : SV) (a5 a0 : Pos) (a8 : SV) (Fr : Rd) (M : Mem) (r : List S_api_Tile) (g : Slc Fr 1 (FlatR enc3) b e) (m : Slc Fr 1 (FlatR enc3) c f) (hH : Has Fr M [.obj a7 (.loop ⟨.ready, none, 51, 21, treeOf [(2, (.ptr a3 0)), (3, (.ptr a4 0)), (4, .nils), (5, (.ptr o 0)), (8, (.fn (.func 102) [] [(.ptr a5 0)]))], [9], (atC Tryz.prog 51 [1, 1, 0, 1, 0, 0]), (atC Tryz.prog 51 [1, 1, 0, 1, 0, 1]), a0⟩), .obj a3 (.row 28 .whole [b]), .obj a4 (.row 3 .whole [(.int .i64 d)]), .obj o (.row 50 .whole [a6]), .vec 59 3 a2.length a6 (a2.flatMap z04), .obj a5 (.row 28 .whole [c]), .obj a0 .defd, .vec 3 1 a1.length a8 (a1.flatMap enc3)]), glitch_loud_1 F N v4 v5 e d f a2 a1 = some r → Run Tryz.prog ⟨⟨102, [], none⟩, [.mk ⟨51, [a0], none⟩ 21 (treeOf [(5, (.ptr o 0))]) [.inRange a7, .inBlock 0, codeC Tryz.prog 51 [1, 1, 1]]]⟩ 38 (z0w r) [(0, (.yield a7)), (3, a8), (4, (.int .i64 v4)), (5, (.int .i64 v5))] [codeC Tryz.prog 102 [1, 1, 1, 0, 0], loopC Tryz.prog 102 [1, 1, 1, 0, 0], .inBlock 0] M := by
 intro N
 induction N with
 | zero =>
  intro v4 v5 e d f a2 a1 b c a7 a3 a4 o a6 a5 a0 a8 Fr M r g m hH h
  simp [glitch_loud_1] at h
 | succ N ih =>
  intro v4 v5 e d f a2 a1 b c a7 a3 a4 o a6 a5 a0 a8 Fr M r g m hH h
  rw [glitch_loud_1] at h
  refine Run.seq (Run.seq (Run.region ?_))
  refine mv rfl rfl <| og (ex_gtr rfl rfl) rfl <| Run.opsEnd ?_
  rcases btf ((decide ((0 : Int) < v5))) with hc42 | hc42
  ·have h := bif_t hc42 h
   refine Run.condT' rfl hc42 ?_
   refine Run.skip (Run.seq (Run.block (Run.seq (Run.region ?_))))
   refine mv rfl rfl <| og (ex_add rfl rfl) rfl <| av rfl rfl ?_
   refine Run.opsEnd (Run.seq (Run.region ?_))
   refine mv rfl rfl <| mv rfl rfl <| mv rfl rfl <| og (ex_mul rfl rfl) rfl ?_
   obtain ⟨a9, w, h⟩ := bnd_some h
   have x := part_all hH (i := 7) rfl
   obtain ⟨b1, y, p⟩ := part_cutB (P := Tryz.prog) (t := 28) (k0 := .i64) (k1 := .i64) x w z6r
   refine og (ex_slX rfl (argO_some rfl) (argO_some rfl) y) rfl <| og (ex_lenPart rfl p z3w) rfl <| mv rfl rfl ?_
   refine Run.opsEnd (Run.block (Run.loop ?_))
   exact Run.low (.cons (fle_pick [5] rfl) .nil) (Run.pick [0, 3, 4, 5, 23, 24, 25] (z40 F (glitch_loud_1 F N) ih F (w64 (v4 + (1 : Int))) v5 (0 + a9.1) a9.2 ((a9.2 : Nat) : Int) (0 : Int) e d f a2 a1 b1 b c a7 a3 a4 o a6 a5 a0 a8 _ _ _ p g m hH h))
  ·have h := bif_f hc42 h
   refine Run.condF' rfl hc42 <| Run.exit rfl <| Run.fallRange Tryz.func102 rfl res_nil <| Run.endX hH (i := 0) rfl (fun hc => by cases hc) ?_
   intro b0 (n : Has Fr b0 [.obj a7 (.loop ⟨.exhausted, none, 51, 21, treeOf [(2, (.ptr a3 0)), (3, (.ptr a4 0)), (4, .nils), (5, (.ptr o 0)), (8, (.fn (.func 102) [] [(.ptr a5 0)]))], [9], (atC Tryz.prog 51 [1, 1, 0, 1, 0, 0]), (atC Tryz.prog 51 [1, 1, 0, 1, 0, 1]), a0⟩), .obj a3 (.row 28 .whole [b]), .obj a4 (.row 3 .whole [(.int .i64 d)]), .obj o (.row 50 .whole [a6]), .vec 59 3 a2.length a6 (a2.flatMap z04), .obj a5 (.row 28 .whole [c]), .obj a0 .defd, .vec 3 1 a1.length a8 (a1.flatMap enc3)])
   refine Run.inBlock (Run.seq (Run.region ?_))
   refine og (ex_load1 rfl (n.cells (i := 3) rfl 0 rfl) rdLe_rfl z5v) rfl <| av rfl rfl <| Run.opsEnd ?_
   obtain ⟨q, u⟩ := n.shut (i := 6) (ds := []) rfl
   have s : Has Fr (setT b0 a0 none) [.obj a7 (.loop ⟨.exhausted, none, 51, 21, treeOf [(2, (.ptr a3 0)), (3, (.ptr a4 0)), (4, .nils), (5, (.ptr o 0)), (8, (.fn (.func 102) [] [(.ptr a5 0)]))], [9], (atC Tryz.prog 51 [1, 1, 0, 1, 0, 0]), (atC Tryz.prog 51 [1, 1, 0, 1, 0, 1]), a0⟩), .obj a3 (.row 28 .whole [b]), .obj a4 (.row 3 .whole [(.int .i64 d)]), .obj o (.row 50 .whole [a6]), .vec 59 3 a2.length a6 (a2.flatMap z04), .obj a5 (.row 28 .whole [c]), .vec 0 0 0 .nils [], .vec 3 1 a1.length a8 (a1.flatMap enc3)] := q
   cases h
   exact Run.ret Tryz.func51 (u _ rfl) (res_tmp rfl res_nil) ⟨_, rfl, (s.pick [4] rfl rfl).upF (none_le _)⟩

def glitch_loud (F : Nat) (a0 : List Int) (a1 : Int) : Option ((List S_api_Tile)) :=
 bnd (glitch_transform F a0) fun b =>
 glitch_loud_1 F F (0 : Int) (w64 (Int.tdiv (b.length : Int) (2 : Int))) a0 a1 a0 ([] : List S_api_Tile) b

theorem z3a (F : Nat) (a0 : List Int) (a1 : Int) (s0 : SV) (r : List S_api_Tile) (M : Mem) (a3 : Slc (rd M) 1 (FlatR enc3) s0 a0) (h : glitch_loud F a0 a1 = some r) : CallsM Tryz.prog 51 [s0, (.int .i64 a1)] M (fun s M' => ∃ q1, s = q1 ∧ New M M' [.vec 59 3 r.length q1 (r.flatMap z04)]) := by
 refine CallsM.fresh (Q := z0w r) Tryz.func51 rfl rfl ?_ (by rintro s Me ⟨q1, rfl, hx⟩ ha hw; exact ⟨_, rfl, New.of rfl hx ha hw⟩)
 rw [glitch_loud] at h
 replace a3 := a3.mono (rdLe_frozen M) (fun _ _ h => h)
 have hH := Has.nil (frozen M)
 refine Run.seq (Run.region ?_)
 refine ox rfl (ExG.box rfl (cells_one (slc_one a3)) hH) ?_
 rintro _ a8 ⟨o, rfl, g⟩
 refine ox rfl (ExG.box rfl rfl g) ?_
 rintro _ a9 ⟨w, rfl, m⟩
 refine av rfl rfl ?_
 refine Run.opsEnd (Run.seq (Run.region ?_))
 refine ox rfl (ExG.new (v := fun b => .ptr b 0) (ex_alloc z7u) m) ?_
 rintro _ b0 ⟨x, rfl, e⟩
 refine Run.opsEnd (Run.seq (Run.seq (Run.region ?_)))
 refine og (ex_load1 rfl (e.cells (i := 2) rfl 0 rfl) rdLe_rfl z4h) rfl <| Run.enter wantS_none (ex_call rfl z7g z6x) Tryz.func57 rfl rfl ?_
 refine Run.seq (Run.region ?_)
 refine ox rfl (ExG.box rfl (cells_one (slc_one a3)) e) ?_
 rintro _ b1 ⟨y, rfl, n⟩
 refine av rfl rfl ?_
 refine Run.opsEnd (Run.seq (Run.region ?_))
 refine og (ex_makeFunc rfl rfl) rfl <| av rfl rfl <| Run.opsEnd <| Run.retTo Tryz.func57 rfl (res_tmp rfl res_nil) rfl ?_
 refine Run.opsEnd (Run.block ?_)
 refine Run.pick [2, 3, 4, 5, 8] <| Run.rangeX rfl z5z Tryz.func102 rfl rfl n ?_
 intro a2 a5 a7 (d : Has (ro (frozen M)) a7 [.obj a5 (.loop ⟨.ready, none, 51, 21, treeOf [(2, (.ptr o 0)), (3, (.ptr w 0)), (4, .nils), (5, (.ptr x 0)), (8, (.fn (.func 102) [] [(.ptr y 0)]))], [9], (atC Tryz.prog 51 [1, 1, 0, 1, 0, 0]), (atC Tryz.prog 51 [1, 1, 0, 1, 0, 1]), a2⟩), .obj a2 .defd, .obj y (.row 28 .whole [s0]), .obj x (.row 50 .whole [.nils]), .obj w (.row 3 .whole [(.int .i64 a1)]), .obj o (.row 28 .whole [s0])])
 refine Run.seq (Run.region ?_)
 refine og (ex_load1 rfl (d.cells (i := 2) rfl 0 rfl) rdLe_rfl z4h) rfl ?_
 obtain ⟨a4, u, h⟩ := bnd_some h
 refine Run.callX wantS_none (ex_call rfl z7h z6y) rfl (z3f F a0 s0 _ _ (d.slcF a3) u) ?_
 rintro c a6 ⟨_, rfl, q⟩
 have f : Has (ro (frozen M)) a6 [.vec 3 1 a4.length c (a4.flatMap enc3), .obj a5 (.loop ⟨.ready, none, 51, 21, treeOf [(2, (.ptr o 0)), (3, (.ptr w 0)), (4, .nils), (5, (.ptr x 0)), (8, (.fn (.func 102) [] [(.ptr y 0)]))], [9], (atC Tryz.prog 51 [1, 1, 0, 1, 0, 0]), (atC Tryz.prog 51 [1, 1, 0, 1, 0, 1]), a2⟩), .obj a2 .defd, .obj y (.row 28 .whole [s0]), .obj x (.row 50 .whole [.nils]), .obj w (.row 3 .whole [(.int .i64 a1)]), .obj o (.row 28 .whole [s0])] := q.1 _ _ d
 refine av rfl rfl ?_
 refine Run.opsEnd (Run.seq (Run.region ?_))
 refine av rfl rfl ?_
 refine Run.opsEnd (Run.seq (Run.region ?_))
 refine mv rfl rfl <| og (ex_len' rfl (f.slc (i := 0) rfl z06) z3w) rfl <| og (ex_quo rfl rfl (by decide)) rfl <| av rfl rfl ?_
 refine Run.opsEnd (Run.block (Run.loop ?_))
 have p : Has (ro (frozen M)) a6 [.vec 59 3 ([] : List S_api_Tile).length .nils (([] : List S_api_Tile).flatMap z04), .vec 3 1 a4.length c (a4.flatMap enc3), .obj a5 (.loop ⟨.ready, none, 51, 21, treeOf [(2, (.ptr o 0)), (3, (.ptr w 0)), (4, .nils), (5, (.ptr x 0)), (8, (.fn (.func 102) [] [(.ptr y 0)]))], [9], (atC Tryz.prog 51 [1, 1, 0, 1, 0, 0]), (atC Tryz.prog 51 [1, 1, 0, 1, 0, 1]), a2⟩), .obj a2 .defd, .obj y (.row 28 .whole [s0]), .obj x (.row 50 .whole [.nils]), .obj w (.row 3 .whole [(.int .i64 a1)]), .obj o (.row 28 .whole [s0])] := f.nils 59 3
 exact Run.low (.cons (fle_pick [5] rfl) .nil) (Run.pick [0, 3, 4, 5] (z3z F F (0 : Int) (w64 (Int.tdiv (a4.length : Int) (2 : Int))) a0 a1 a0 ([] : List S_api_Tile) a4 s0 s0 a5 o w x .nils y a2 c _ _ _ a3 a3 (p.pick [2, 7, 6, 5, 0, 4, 3, 1] rfl rfl) h))

theorem z6p : makeK Tryz.prog 51 = none := by kernel_rfl
theorem z69 : callable Tryz.prog 51 = true := by kernel_rfl
abbrev z3y (r : (List S_api_Tile) × Int) : SV → Mem → Prop := fun s Me => ∃ q1, s = (.tuple [q1, (.int .i64 r.2)]) ∧ Has (fun _ => none) Me [.vec 59 3 r.1.length q1 (r.1.flatMap z04)]

def glitch_Loud (F : Nat) (a0 : List Int) (a1 : Int) : Option ((List S_api_Tile) × Int) :=
 bnd (glitch_checkThreshold F a0 a1) fun b =>
 bif (!(b == (0 : Int))) then
  some (([] : List S_api_Tile), b)
 else
  bnd (glitch_loud F a0 a1) fun c =>
  some (c, (0 : Int))

theorem z38 (F : Nat) (a0 : List Int) (a1 : Int) (s0 : SV) (r : (List S_api_Tile) × Int) (M : Mem) (m : Slc (rd M) 1 (FlatR enc3) s0 a0) (h : glitch_Loud F a0 a1 = some r) : CallsM Tryz.prog 22 [s0, (.int .i64 a1)] M (fun s M' => ∃ q1, s = (.tuple [q1, (.int .i64 r.2)]) ∧ New M M' [.vec 59 3 r.1.length q1 (r.1.flatMap z04)]) := by
 refine CallsM.fresh (Q := z3y r) Tryz.func22 rfl rfl ?_ (by rintro s Me ⟨q1, rfl, hx⟩ ha hw; exact ⟨_, rfl, New.of rfl hx ha hw⟩)
 rw [glitch_Loud] at h
 replace m := m.mono (rdLe_frozen M) (fun _ _ h => h)
 have hH := Has.nil (frozen M)
 refine Run.seq (Run.region ?_)
 refine av rfl rfl <| av rfl rfl ?_
 refine Run.opsEnd (Run.seq (Run.seq (Run.region ?_)))
 refine mv rfl rfl <| mv rfl rfl ?_
 obtain ⟨q, f, h⟩ := bnd_some h
 refine Run.callP wantS_none (ex_call rfl z6o z68) rfl (z0z F a0 a1 s0 _ _ (hH.slcF m) f) <| av rfl rfl ?_
 refine Run.opsEnd (Run.seq (Run.region ?_))
 refine mv rfl rfl <| og (ex_neq rfl rfl) rfl <| Run.opsEnd ?_
 rcases btf ((!(q == (0 : Int)))) with hc24 | hc24
 ·have h := bif_t hc24 h
  refine Run.condT' rfl hc24 ?_
  refine Run.seq (Run.region ?_)
  refine mv rfl rfl <| av rfl rfl <| av rfl rfl <| Run.opsEnd ?_
  have c : Has (ro (frozen M)) (frozen M) [.vec 59 3 ([] : List S_api_Tile).length .nils (([] : List S_api_Tile).flatMap z04)] := hH.nils 59 3
  cases h
  exact Run.ret Tryz.func22 rfl (res_tmp rfl (res_tmp rfl res_nil)) ⟨_, rfl, (c.pick [0] rfl rfl).upF (none_le _)⟩
 ·have h := bif_f hc24 h
  refine Run.condF' rfl hc24 ?_
  refine Run.skip (Run.seq (Run.region ?_))
  refine mv rfl rfl <| mv rfl rfl ?_
  obtain ⟨o, g, h⟩ := bnd_some h
  refine Run.callX wantS_none (ex_call rfl z6p z69) rfl (z3a F a0 a1 s0 _ _ (hH.slcF m) g) ?_
  rintro b p ⟨_, rfl, e⟩
  have d : Has (ro (frozen M)) p [.vec 59 3 o.length b (o.flatMap z04)] := e.1 _ _ hH
  refine av rfl rfl <| av rfl rfl <| Run.opsEnd ?_
  cases h
  exact Run.ret Tryz.func22 rfl (res_tmp rfl (res_tmp rfl res_nil)) ⟨_, rfl, (d.pick [0] rfl rfl).upF (none_le _)⟩

theorem z6n : makeK Tryz.prog 22 = none := by kernel_rfl
theorem z67 : callable Tryz.prog 22 = true := by kernel_rfl
structure S_api_Glitch where
 From : Int
 To : Int
 Many : Int
 Energy : Int
 Peak : Int

def z03 (a : S_api_Glitch) : List SV := [(.int .i64 a.From), (.int .i64 a.To), (.int .i64 a.Many), (.int .i64 a.Energy), (.int .i64 a.Peak)]
theorem z02 (a : S_api_Glitch) : (z03 a).length = 5 := rfl
theorem z05 (a : S_api_Glitch) : ones (z03 a) = true := rfl
theorem z2n : lenK Tryz.prog 50 = some .sl := by kernel_rfl
theorem z6c : sliceElt Tryz.prog 123 = some (⟨1, 8, [(.int .i64 0)], 3⟩ : Elt) := by kernel_rfl
theorem z5r : lenK Tryz.prog 123 = some .sl := by kernel_rfl
theorem z1m : elems Tryz.prog 123 = some (.sl 1) := by kernel_rfl
abbrev z2g (r : List Int) : SV → Mem → Prop := fun s Me => ∃ q1, s = q1 ∧ Has (fun _ => none) Me [.vec 3 1 r.length q1 (r.flatMap enc3)]

def glitch_apart_1 (F : Nat) : Nat → Int → Int → List Int → Option ((List Int))
 | 0, _, _, _ => none
 | N + 1, v8, v9, b =>
  bif (decide (v9 < v8)) then
   bnd (inn b v9) fun d =>
   bnd (upd b d v9) fun c =>
   (glitch_apart_1 F N) v8 (w64 (v9 + (1 : Int))) c
  else
   some b

theorem z3r (F : Nat) : ∀ (N : Nat), ∀ (v8 v9 : Int) (o : List Int) (m : SV) (Fr : Rd) (M : Mem) (r : List Int) (hH : Has Fr M [.vec 3 1 o.length m (o.flatMap enc3)]), glitch_apart_1 F N v8 v9 o = some r → Run Tryz.prog ⟨⟨91, [], none⟩, []⟩ 18 (z2g r) [(3, m), (8, (.int .i64 v8)), (9, (.int .i64 v9))] [codeC Tryz.prog 91 [1, 1, 0, 1, 0, 0], loopC Tryz.prog 91 [1, 1, 0, 1, 0, 0], .inBlock 0, codeC Tryz.prog 91 [1, 1, 1]] M := by
 intro N
 induction N with
 | zero =>
  intro v8 v9 o m Fr M r hH h
  simp [glitch_apart_1] at h
 | succ N ih =>
  intro v8 v9 o m Fr M r hH h
  rw [glitch_apart_1] at h
  refine Run.seq (Run.region ?_)
  refine og (ex_lss rfl rfl) rfl ?_
  refine Run.opsEnd (Run.seq ?_)
  rcases btf ((decide (v9 < v8))) with b | b
  ·have h := bif_t b h
   refine Run.condT' rfl b ?_
   refine Run.skip (Run.seq (Run.block (Run.seq (Run.region ?_))))
   refine mv rfl rfl <| av rfl rfl ?_
   refine Run.opsEnd (Run.region ?_)
   refine mv rfl rfl <| mv rfl rfl <| mv rfl rfl ?_
   obtain ⟨s, f, h⟩ := bnd_some h
   obtain ⟨u, d, g⟩ := vec_place (P := Tryz.prog) (t := 123) (kk := .i64) hH (i := 0) rfl f z1m
   refine og (ex_elX rfl rfl g) rfl ?_
   obtain ⟨p, e, h⟩ := bnd_some h
   refine ox rfl (ExG.storeEl rfl rfl hH (i := 0) rfl d e sz3 rfl z06 z1n) ?_
   rintro _ q ⟨rfl, (c : Has Fr q [.vec 3 1 p.length m (p.flatMap enc3)])⟩
   refine Run.opsEnd (Run.inBlock (Run.region ?_))
   refine og (ex_add rfl rfl) rfl <| mv rfl rfl ?_
   refine Run.opsEnd (Run.inLoop ?_)
   exact Run.pick [3, 8, 9] (ih v8 (w64 (v9 + (1 : Int))) p m _ _ _ c h)
  ·have h := bif_f b h
   refine Run.condF' rfl b ?_
   refine Run.exit rfl (Run.seq (Run.region ?_))
   refine mv rfl rfl <| av rfl rfl <| Run.opsEnd ?_
   cases h
   exact Run.ret Tryz.func91 rfl (res_tmp rfl res_nil) ⟨_, rfl, (hH.pick [0] rfl rfl).upF (none_le _)⟩

def glitch_apart (F : Nat) (a0 : Int) : Option ((List Int)) :=
 bnd (mk a0 8 (0 : Int)) fun b =>
 glitch_apart_1 F F (b.length : Int) (0 : Int) b

theorem z48 (F : Nat) (a0 : Int) (r : List Int) (M : Mem) (h : glitch_apart F a0 = some r) : CallsM Tryz.prog 91 [(.int .i64 a0)] M (fun s M' => ∃ q1, s = q1 ∧ New M M' [.vec 3 1 r.length q1 (r.flatMap enc3)]) := by
 refine CallsM.fresh (Q := z2g r) Tryz.func91 rfl rfl ?_ (by rintro s Me ⟨q1, rfl, hx⟩ ha hw; exact ⟨_, rfl, New.of rfl hx ha hw⟩)
 rw [glitch_apart] at h
 have hH := Has.nil (frozen M)
 refine Run.seq (Run.region ?_)
 refine av rfl rfl ?_
 refine Run.opsEnd (Run.seq (Run.region ?_))
 refine mv rfl rfl ?_
 obtain ⟨d, c, h⟩ := bnd_some h
 refine ox rfl (ExG.make (enc := enc3) (z := 1) rfl rfl c z6c rfl rfl z06 hH) ?_
 rintro e f (b : Has (ro (frozen M)) f [.vec 3 1 d.length e (d.flatMap enc3)])
 refine av rfl rfl ?_
 refine Run.opsEnd (Run.seq (Run.seq (Run.region ?_)))
 refine mv rfl rfl <| og (ex_len' rfl (b.slc (i := 0) rfl z06) z5r) rfl <| mv rfl rfl ?_
 refine Run.opsEnd (Run.block (Run.loop ?_))
 exact Run.pick [3, 8, 9] (z3r F F (d.length : Int) (0 : Int) d e _ _ _ b h)

theorem z7j : makeK Tryz.prog 91 = none := by kernel_rfl
theorem z71 : callable Tryz.prog 91 = true := by kernel_rfl
theorem z7k : makeK Tryz.prog 92 = none := by kernel_rfl
theorem z72 : callable Tryz.prog 92 = true := by kernel_rfl
structure S_glitch_place where
 level : Int
 at_ : Int

def z2a (a : S_glitch_place) : SV := (.agg [(.int .i64 a.level), (.int .i64 a.at_)])
def kv3 (a : Int) : SV := (.int .i64 a)
theorem z5x : aggK Tryz.prog 3 = some .int := by kernel_rfl
theorem z5w : aggK Tryz.prog 160 = some (.st [⟨ "level", 3, 0, false, "", "ringdown/glitch", 0⟩, ⟨ "at", 3, 1, false, "", "ringdown/glitch", 8⟩]) := by kernel_rfl
def keq160 (a b : S_glitch_place) : Bool := ((a.level == b.level) && ((a.at_ == b.at_) && true))
theorem z7c : keyK Tryz.prog 160 = some .ask := by kernel_rfl
theorem z5l : ∀ a, keyOK Tryz.prog 8 160 (z2a a) = true := fun a => congrFun (show (fun a => keyOK Tryz.prog 8 160 (z2a a)) = fun _ => true by kernel_rfl) a
theorem z5f : ∀ a b, keyEq Tryz.prog 160 (z2a a) (z2a b) = some (keq160 a b) := (fun a b => keyEq_ask z7c (eqA_st z5w (eqFs_cons (by decide) (part_one z0u rfl) (part_one z0u rfl) (eqA_int z5x) (eqFs_cons (by decide) (part_one z0u rfl) (part_one z0u rfl) (eqA_int z5x) eqFs_nil))))
theorem z5h : ∀ a b, keq160 a b = true → a = b := (fun a b h => by cases a; cases b; simp only [keq160, Bool.and_eq_true, beq_iff_eq, Bool.and_true] at h; simp [h])
theorem z6f : zeroS Tryz.prog 3 = some (kv3 (0 : Int)) := by kernel_rfl
theorem z5j : mapT Tryz.prog 156 = some (160, 3) := by kernel_rfl
theorem z4d : elems Tryz.prog 50 = some (.sl 3) := by kernel_rfl
def z0n (a : S_glitch_place) : List SV := [(.int .i64 a.level), (.int .i64 a.at_)]
theorem z0y (a : S_glitch_place) : (z0n a).length = 2 := rfl
theorem z4m (a : S_glitch_place) : ones (z0n a) = true := rfl
theorem z3t : fieldOff Tryz.prog 59 1 = some 1 := by kernel_rfl
theorem z4t : zerosOf Tryz.prog 160 = some [(.int .i64 0), (.int .i64 0)] := by kernel_rfl
theorem z54 : placesOf Tryz.prog 160 = some (.st [(0, 1), (1, 1)]) := by kernel_rfl
theorem z5d : sliceElt Tryz.prog 157 = some (⟨2, 16, [(.int .i64 0), (.int .i64 0)], 160⟩ : Elt) := by kernel_rfl
theorem z4l : appT Tryz.prog 157 157 = some (⟨2, 16, [(.int .i64 0), (.int .i64 0)], 160⟩ : Elt) := by kernel_rfl
abbrev z10 (r : List S_glitch_place) : SV → Mem → Prop := fun s Me => ∃ q1, s = q1 ∧ Has (fun _ => none) Me [.vec 160 2 r.length q1 (r.flatMap z0n)]

def glitch_placesBefore_1 (F : Nat) : Nat → Int → S_api_Tile → List S_glitch_place → Option ((List S_glitch_place))
 | 0, _, _, _ => none
 | N + 1, v4, b, c =>
  bif (decide (v4 ≤ (w64 ((w64 ((2 : Int) * b.At)) + (2 : Int))))) then
   bnd (apd 16 c ([(S_glitch_place.mk (w64 (b.Level - (1 : Int))) v4)] : List S_glitch_place)) fun d =>
   (glitch_placesBefore_1 F N) (w64 (v4 + (1 : Int))) b d
  else
   some c

theorem z2i (F : Nat) : ∀ (N : Nat), ∀ (v4 : Int) (e : S_api_Tile) (g : List S_glitch_place) (f : Pos) (m : SV) (Fr : Rd) (M : Mem) (r : List S_glitch_place) (hH : Has Fr M [.obj f (.row 59 .whole [(.int .i64 e.Level), (.int .i64 e.At), (.int .i64 e.D)]), .vec 160 2 g.length m (g.flatMap z0n)]), glitch_placesBefore_1 F N v4 e g = some r → Run Tryz.prog ⟨⟨127, [], none⟩, []⟩ 33 (z10 r) [(1, (.ptr f 0)), (3, m), (4, (.int .i64 v4))] [codeC Tryz.prog 127 [1, 1, 0, 1, 0, 0], loopC Tryz.prog 127 [1, 1, 0, 1, 0, 0], .inBlock 0, codeC Tryz.prog 127 [1, 1, 1]] M := by
 intro N
 induction N with
 | zero =>
  intro v4 e g f m Fr M r hH h
  simp [glitch_placesBefore_1] at h
 | succ N ih =>
  intro v4 e g f m Fr M r hH h
  rw [glitch_placesBefore_1] at h
  refine Run.seq (Run.seq (Run.region ?_))
  refine mv rfl rfl <| og (ex_fieldAddr rfl z3t) rfl <| og (ex_load1 rfl (hH.cells (i := 0) rfl 1 rfl) rdLe_rfl z0u) rfl <| og (ex_mul rfl rfl) rfl <| og (ex_add rfl rfl) rfl <| og (ex_leq rfl rfl) rfl <| Run.opsEnd ?_
  rcases btf ((decide (v4 ≤ (w64 ((w64 ((2 : Int) * e.At)) + (2 : Int)))))) with hc27 | hc27
  ·have h := bif_t hc27 h
   refine Run.condT' rfl hc27 ?_
   refine Run.skip (Run.seq (Run.block (Run.region ?_)))
   refine mv rfl rfl <| og (ex_fieldAddr rfl z2z) rfl <| og (ex_load1 rfl (hH.cells (i := 0) rfl 0 rfl) rdLe_rfl z0u) rfl <| og (ex_sub rfl rfl) rfl <| mv rfl rfl <| og (ex_build (r := [(.int .i64 (w64 (e.Level - (1 : Int)))), (.int .i64 v4)]) rfl z4t z54 rfl) rfl <| ox rfl (ExG.built (enc := z0n) (l := ([(S_glitch_place.mk (w64 (e.Level - (1 : Int))) v4)] : List S_glitch_place)) (z := 2) rfl z5d rfl rfl rfl z0y hH) ?_
   rintro p s (b : Has Fr s [.vec 160 2 ([(S_glitch_place.mk (w64 (e.Level - (1 : Int))) v4)] : List S_glitch_place).length p (([(S_glitch_place.mk (w64 (e.Level - (1 : Int))) v4)] : List S_glitch_place).flatMap z0n), .obj f (.row 59 .whole [(.int .i64 e.Level), (.int .i64 e.At), (.int .i64 e.D)]), .vec 160 2 g.length m (g.flatMap z0n)])
   obtain ⟨o, d, h⟩ := bnd_some h
   refine ox rfl (ExG.append rfl rfl b (i := 2) rfl z0y rfl z4m z4l rfl (len_slc (b.slc (i := 0) rfl z0y)) (first_slc (b.slc (i := 0) rfl z0y) (rdLe_rdRow _) z0y) d) ?_
   rintro q u (c : Has Fr u [.vec 160 2 ([(S_glitch_place.mk (w64 (e.Level - (1 : Int))) v4)] : List S_glitch_place).length p (([(S_glitch_place.mk (w64 (e.Level - (1 : Int))) v4)] : List S_glitch_place).flatMap z0n), .obj f (.row 59 .whole [(.int .i64 e.Level), (.int .i64 e.At), (.int .i64 e.D)]), .vec 160 2 o.length q (o.flatMap z0n)])
   refine av rfl rfl ?_
   refine Run.opsEnd (Run.inBlock (Run.region ?_))
   refine mv rfl rfl <| og (ex_add rfl rfl) rfl <| av rfl rfl ?_
   refine Run.opsEnd (Run.inLoop ?_)
   exact Run.pick [1, 3, 4] (ih (w64 (v4 + (1 : Int))) e o f q _ _ _ (c.pick [1, 2] rfl rfl) h)
  ·have h := bif_f hc27 h
   refine Run.condF' rfl hc27 ?_
   refine Run.exit rfl (Run.seq (Run.region ?_))
   refine mv rfl rfl <| av rfl rfl <| Run.opsEnd ?_
   cases h
   exact Run.ret Tryz.func127 rfl (res_tmp rfl res_nil) ⟨_, rfl, (hH.pick [1] rfl rfl).upF (none_le _)⟩

def glitch_placesBefore (F : Nat) (a0 : S_api_Tile) : Option ((List S_glitch_place)) :=
 glitch_placesBefore_1 F F (w64 ((w64 ((2 : Int) * a0.At)) - (1 : Int))) a0 ([(S_glitch_place.mk a0.Level (w64 (a0.At - (1 : Int))))] : List S_glitch_place)

theorem z2o (F : Nat) (a0 : S_api_Tile) (r : List S_glitch_place) (M : Mem) (h : glitch_placesBefore F a0 = some r) : CallsM Tryz.prog 127 [(.agg [(.int .i64 a0.Level), (.int .i64 a0.At), (.int .i64 a0.D)])] M (fun s M' => ∃ q1, s = q1 ∧ New M M' [.vec 160 2 r.length q1 (r.flatMap z0n)]) := by
 refine CallsM.fresh (Q := z10 r) Tryz.func127 rfl rfl ?_ (by rintro s Me ⟨q1, rfl, hx⟩ ha hw; exact ⟨_, rfl, New.of rfl hx ha hw⟩)
 rw [glitch_placesBefore] at h
 have hH := Has.nil (frozen M)
 refine Run.seq (Run.region ?_)
 refine ox rfl (ExG.box rfl rfl hH) ?_
 rintro _ g ⟨d, rfl, b⟩
 refine av rfl rfl ?_
 refine Run.opsEnd (Run.seq (Run.region ?_))
 refine og (ex_fieldAddr rfl z2z) rfl <| og (ex_load1 rfl (b.cells (i := 0) rfl 0 rfl) rdLe_rfl z0u) rfl <| og (ex_fieldAddr rfl z3t) rfl <| og (ex_load1 rfl (b.cells (i := 0) rfl 1 rfl) rdLe_rfl z0u) rfl <| og (ex_sub rfl rfl) rfl <| og (ex_build (r := [(.int .i64 a0.Level), (.int .i64 (w64 (a0.At - (1 : Int))))]) rfl z4t z54 rfl) rfl <| ox rfl (ExG.built (enc := z0n) (l := ([(S_glitch_place.mk a0.Level (w64 (a0.At - (1 : Int))))] : List S_glitch_place)) (z := 2) rfl z5d rfl rfl rfl z0y b) ?_
 rintro e f (c : Has (ro (frozen M)) f [.vec 160 2 ([(S_glitch_place.mk a0.Level (w64 (a0.At - (1 : Int))))] : List S_glitch_place).length e (([(S_glitch_place.mk a0.Level (w64 (a0.At - (1 : Int))))] : List S_glitch_place).flatMap z0n), .obj d (.row 59 .whole [(.int .i64 a0.Level), (.int .i64 a0.At), (.int .i64 a0.D)])])
 refine av rfl rfl ?_
 refine Run.opsEnd (Run.seq (Run.seq (Run.region ?_)))
 refine og (ex_fieldAddr rfl z3t) rfl <| og (ex_load1 rfl (c.cells (i := 1) rfl 1 rfl) rdLe_rfl z0u) rfl <| og (ex_mul rfl rfl) rfl <| og (ex_sub rfl rfl) rfl <| av rfl rfl ?_
 refine Run.opsEnd (Run.block (Run.loop ?_))
 exact Run.pick [1, 3, 4] (z2i F F (w64 ((w64 ((2 : Int) * a0.At)) - (1 : Int))) a0 ([(S_glitch_place.mk a0.Level (w64 (a0.At - (1 : Int))))] : List S_glitch_place) d e _ _ _ (c.pick [1, 0] rfl rfl) h)

theorem z6j : makeK Tryz.prog 127 = none := by kernel_rfl
theorem z62 : callable Tryz.prog 127 = true := by kernel_rfl
theorem z5s : lenK Tryz.prog 157 = some .sl := by kernel_rfl
theorem z6b : elems Tryz.prog 157 = some (.sl 2) := by kernel_rfl
theorem z59 : aggSize Tryz.prog 160 = some (some 2) := by kernel_rfl
theorem z7r : szOf Tryz.prog 160 = some 2 := by kernel_rfl
theorem z7l : makeK Tryz.prog 93 = none := by kernel_rfl
theorem z73 : callable Tryz.prog 93 = true := by kernel_rfl
theorem z5u : makeK Tryz.prog 94 = none := by kernel_rfl
theorem z5q : callable Tryz.prog 94 = true := by kernel_rfl
theorem kk3 : keyK Tryz.prog 3 = some .int := by kernel_rfl
theorem z5k : ∀ a, keyOK Tryz.prog 8 3 (kv3 a) = true := fun a => congrFun (show (fun a => keyOK Tryz.prog 8 3 (kv3 a)) = fun _ => true by kernel_rfl) a
theorem z5e : ∀ a b, keyEq Tryz.prog 3 (kv3 a) (kv3 b) = some (eqI a b) := (fun a b => keyEq_int kk3)
theorem z5g : ∀ a b, eqI a b = true → a = b := (fun a b h => eq_of_beq h)
theorem z6e : zeroS Tryz.prog 3 = some (kv3 (0 : Int)) := by kernel_rfl
theorem z5i : mapT Tryz.prog 127 = some (3, 3) := by kernel_rfl
theorem z4w : planOf Tryz.prog (opsC (atC Tryz.prog 95 [1, 0])) = some [.fl 0, .fl 1, .fl 2, .fl 3, .fl 4, .fl 5, .fl 6, .fl 7, .fl 8, .fl 9, .fl 10, .fl 11, .fl 12, .sync] := by kernel_rfl
abbrev z3e (r : Int × Int) : SV → Mem → Prop := fun s _ => s = (.tuple [(.int .i64 r.1), (.int .i64 r.2)])

def glitch_covered (F : Nat) (a0 : S_api_Tile) : Option (Int × Int) :=
 bnd (shn a0.Level) fun b =>
 bnd (shn a0.Level) fun c =>
 some ((w64 (a0.At * 2 ^ (min b (IntKind.bits .i64)))), (w64 ((w64 (a0.At + (1 : Int))) * 2 ^ (min c (IntKind.bits .i64)))))

theorem z2h (F : Nat) (a0 : S_api_Tile) (r : Int × Int) (M : Mem) (h : glitch_covered F a0 = some r) : CallsM Tryz.prog 95 [(.agg [(.int .i64 a0.Level), (.int .i64 a0.At), (.int .i64 a0.D)])] M (fun s M' => s = (.tuple [(.int .i64 r.1), (.int .i64 r.2)]) ∧ M' = M) := by
 refine CallsM.plain Tryz.func95 rfl rfl rfl (show Run _ _ _ (z3e r) _ _ _ from ?_)
 rw [glitch_covered] at h
 have hH := Has.nil (frozen M)
 refine Run.seq (Run.region ?_)
 refine ox rfl (ExG.box rfl rfl hH) ?_
 rintro _ e ⟨f, rfl, b⟩
 refine av rfl rfl <| av rfl rfl ?_
 refine Run.opsEnd (Run.seq ?_)
 refine Run.drawG z4w <| df rfl (ex_fieldAddr rfl z3t) rfl <| df rfl (ex_load1 rfl (b.cells (i := 0) rfl 1 rfl) rdLe_rfl z0u) rfl <| df rfl (ex_fieldAddr rfl z2z) rfl <| df rfl (ex_load1 rfl (b.cells (i := 0) rfl 0 rfl) rdLe_rfl z0u) rfl ?_
 obtain ⟨g, c, h⟩ := bnd_some h
 refine df rfl (ex_shl' rfl rfl c) rfl <| df rfl (ex_fieldAddr rfl z3t) rfl <| df rfl (ex_load1 rfl (b.cells (i := 0) rfl 1 rfl) rdLe_rfl z0u) rfl <| df rfl (ex_add rfl rfl) rfl <| df rfl (ex_fieldAddr rfl z2z) rfl <| df rfl (ex_load1 rfl (b.cells (i := 0) rfl 0 rfl) rdLe_rfl z0u) rfl ?_
 obtain ⟨m, d, h⟩ := bnd_some h
 refine df rfl (ex_shl' rfl rfl d) rfl <| df rfl (ex_assign rfl) rfl <| df rfl (ex_assign rfl) rfl <| DrawG.sync <| DrawG.nil ?_
 cases h
 exact Run.ret Tryz.func95 rfl (res_tmp rfl (res_tmp rfl res_nil)) rfl

theorem z6q : makeK Tryz.prog 95 = none := by kernel_rfl
theorem z6a : callable Tryz.prog 95 = true := by kernel_rfl
theorem z4q : lenK Tryz.prog 53 = some .sl := by kernel_rfl
theorem z7v : zerosOf Tryz.prog 57 = some [(.int .i64 0), (.int .i64 0), (.int .i64 0), (.int .i64 0), (.int .i64 0)] := by kernel_rfl
theorem z7p : placesOf Tryz.prog 57 = some (.st [(0, 1), (1, 1), (2, 1), (3, 1), (4, 1)]) := by kernel_rfl
theorem z7b : sliceElt Tryz.prog 53 = some (⟨5, 40, [(.int .i64 0), (.int .i64 0), (.int .i64 0), (.int .i64 0), (.int .i64 0)], 57⟩ : Elt) := by kernel_rfl
theorem z4z : appT Tryz.prog 53 53 = some (⟨5, 40, [(.int .i64 0), (.int .i64 0), (.int .i64 0), (.int .i64 0), (.int .i64 0)], 57⟩ : Elt) := by kernel_rfl
theorem z07 : elems Tryz.prog 53 = some (.sl 5) := by kernel_rfl
theorem z4f : fieldOff Tryz.prog 57 4 = some 4 := by kernel_rfl
theorem z7m : makeK Tryz.prog 96 = none := by kernel_rfl
theorem z74 : callable Tryz.prog 96 = true := by kernel_rfl
theorem z3g : fieldOff Tryz.prog 57 0 = some 0 := by kernel_rfl
theorem z4n : fieldOff Tryz.prog 57 1 = some 1 := by kernel_rfl
theorem z4o : fieldOff Tryz.prog 57 2 = some 2 := by kernel_rfl
theorem z4e : fieldOff Tryz.prog 57 3 = some 3 := by kernel_rfl
theorem z4c : planOf Tryz.prog (opsC (atC Tryz.prog 96 [1, 1, 1, 1])) = some [.fl 0, .fl 1, .fl 2, .fl 3, .fl 4, .fl 5, .an 6 [3, 2, 1, 0], .fl 7, .fl 8, .fl 9, .an 10 [], .sync] := by kernel_rfl
theorem z4j : planOf Tryz.prog (opsC (atC Tryz.prog 96 [1, 1, 0])) = some [.fl 0, .fl 1, .fl 2, .fl 3, .fl 4, .fl 5, .fl 6, .fl 7, .fl 8, .fl 9, .fl 10, .fl 11, .fl 12, .fl 13, .fl 14, .fl 15, .an 16 [13, 12, 1], .fl 17, .fl 18, .an 19 [], .sync] := by kernel_rfl
theorem z0m : planOf Tryz.prog (opsC (atC Tryz.prog 52 [1, 1, 1, 1, 1, 0, 1, 0, 0, 1, 1, 0, 0, 1, 1, 1, 1, 0, 0])) = some [.fl 0, .fl 1, .fl 3, .fl 4, .fl 5, .fl 6, .fl 7, .fl 8, .fl 9, .fl 10, .an 2 [10, 9, 8, 7, 6, 5, 4, 3], .an 11 [], .fl 12, .sync] := by kernel_rfl
theorem z7n : makeK Tryz.prog 97 = none := by kernel_rfl
theorem z75 : callable Tryz.prog 97 = true := by kernel_rfl
theorem z6k : makeK Tryz.prog 128 = none := by kernel_rfl
theorem z63 : callable Tryz.prog 128 = true := by kernel_rfl
theorem z5o : makeK Tryz.prog 159 = none := by kernel_rfl
theorem z5c : callable Tryz.prog 159 = true := by kernel_rfl
theorem z0t : aggSize Tryz.prog 57 = some (some 5) := by kernel_rfl
theorem z52 : makeK Tryz.prog 98 = none := by kernel_rfl
theorem z51 : callable Tryz.prog 98 = true := by kernel_rfl
abbrev z4b (r : Bool) : SV → Mem → Prop := fun s _ => s = (.bool r)

def cmp_isNaN (F : Nat) (a0 : Int) : Option (Bool) :=
 some (!(a0 == a0))

theorem z3v (F : Nat) (a0 : Int) (r : Bool) (M : Mem) (h : cmp_isNaN F a0 = some r) : CallsM Tryz.prog 124 [(.int .i64 a0)] M (fun s M' => s = (.bool r) ∧ M' = M) := by
 refine CallsM.plain Tryz.func124 rfl rfl rfl (show Run _ _ _ (z4b r) _ _ _ from ?_)
 rw [cmp_isNaN] at h
 have hH := Has.nil (frozen M)
 refine Run.seq (Run.region ?_)
 refine av rfl rfl ?_
 refine Run.opsEnd (Run.seq (Run.region ?_))
 refine mv rfl rfl <| mv rfl rfl <| og (ex_neq rfl rfl) rfl <| av rfl rfl <| Run.opsEnd ?_
 cases h
 exact Run.ret Tryz.func124 rfl (res_tmp rfl res_nil) rfl

theorem z5n : makeK Tryz.prog 124 = none := by kernel_rfl
theorem z5b : callable Tryz.prog 124 = true := by kernel_rfl
abbrev z3x (r : Int) : SV → Mem → Prop := fun s _ => s = (.int .i64 r)

def cmp_Compare (F : Nat) (a0 a1 : Int) : Option (Int) :=
 bnd (cmp_isNaN F a0) fun c =>
 bnd (cmp_isNaN F a1) fun b =>
 bif c then
  bif b then
   some (0 : Int)
  else
   some ((-1) : Int)
 else
  bif b then
   some (1 : Int)
  else
   bif (decide (a0 < a1)) then
    some ((-1) : Int)
   else
    bif (decide (a1 < a0)) then
     some (1 : Int)
    else
     some (0 : Int)

theorem z4a (F : Nat) (a0 a1 r : Int) (M : Mem) (h : cmp_Compare F a0 a1 = some r) : CallsM Tryz.prog 85 [(.int .i64 a0), (.int .i64 a1)] M (fun s M' => s = (.int .i64 r) ∧ M' = M) := by
 refine CallsM.plain Tryz.func85 rfl rfl rfl (show Run _ _ _ (z3x r) _ _ _ from ?_)
 rw [cmp_Compare] at h
 have hH := Has.nil (frozen M)
 refine Run.seq (Run.region ?_)
 refine av rfl rfl ?_
 refine Run.opsEnd (Run.seq (Run.region ?_))
 refine mv rfl rfl ?_
 obtain ⟨p, g, h⟩ := bnd_some h
 refine Run.callP wantS_none (ex_call rfl z5n z5b) rfl (z3v F a0 _ _ g) <| av rfl rfl ?_
 refine Run.opsEnd (Run.seq (Run.region ?_))
 refine mv rfl rfl ?_
 obtain ⟨o, m, h⟩ := bnd_some h
 refine Run.callP wantS_none (ex_call rfl z5n z5b) rfl (z3v F a1 _ _ m) <| av rfl rfl ?_
 refine Run.opsEnd (Run.seq (Run.seq (Run.region ?_)))
 refine mv rfl rfl <| Run.opsEnd ?_
 rcases btf (p) with b | b
 ·have h := bif_t b h
  refine Run.condT' rfl b ?_
  refine Run.seq (Run.seq (Run.region ?_))
  refine mv rfl rfl <| Run.opsEnd ?_
  rcases btf (o) with c | c
  ·have h := bif_t c h
   refine Run.condT' rfl c ?_
   refine Run.seq (Run.region ?_)
   refine av rfl rfl <| Run.opsEnd ?_
   cases h
   exact Run.ret Tryz.func85 rfl (res_tmp rfl res_nil) rfl
  ·have h := bif_f c h
   refine Run.condF' rfl c ?_
   refine Run.skip (Run.seq (Run.region ?_))
   refine av rfl rfl <| Run.opsEnd ?_
   cases h
   exact Run.ret Tryz.func85 rfl (res_tmp rfl res_nil) rfl
 ·have h := bif_f b h
  refine Run.condF' rfl b ?_
  refine Run.skip (Run.seq (Run.seq (Run.region ?_)))
  refine mv rfl rfl <| Run.opsEnd ?_
  rcases btf (o) with d | d
  ·have h := bif_t d h
   refine Run.condT' rfl d ?_
   refine Run.seq (Run.region ?_)
   refine av rfl rfl <| Run.opsEnd ?_
   cases h
   exact Run.ret Tryz.func85 rfl (res_tmp rfl res_nil) rfl
  ·have h := bif_f d h
   refine Run.condF' rfl d ?_
   refine Run.skip (Run.seq (Run.seq (Run.region ?_)))
   refine mv rfl rfl <| mv rfl rfl <| og (ex_lss rfl rfl) rfl <| Run.opsEnd ?_
   rcases btf ((decide (a0 < a1))) with e | e
   ·have h := bif_t e h
    refine Run.condT' rfl e ?_
    refine Run.seq (Run.region ?_)
    refine av rfl rfl <| Run.opsEnd ?_
    cases h
    exact Run.ret Tryz.func85 rfl (res_tmp rfl res_nil) rfl
   ·have h := bif_f e h
    refine Run.condF' rfl e ?_
    refine Run.skip (Run.seq (Run.seq (Run.region ?_)))
    refine mv rfl rfl <| mv rfl rfl <| og (ex_gtr rfl rfl) rfl <| Run.opsEnd ?_
    rcases btf ((decide (a1 < a0))) with f | f
    ·have h := bif_t f h
     refine Run.condT' rfl f ?_
     refine Run.seq (Run.region ?_)
     refine av rfl rfl <| Run.opsEnd ?_
     cases h
     exact Run.ret Tryz.func85 rfl (res_tmp rfl res_nil) rfl
    ·have h := bif_f f h
     refine Run.condF' rfl f ?_
     refine Run.skip (Run.seq (Run.region ?_))
     refine av rfl rfl <| Run.opsEnd ?_
     cases h
     exact Run.ret Tryz.func85 rfl (res_tmp rfl res_nil) rfl

theorem z7i : makeK Tryz.prog 85 = none := by kernel_rfl
theorem z6z : callable Tryz.prog 85 = true := by kernel_rfl
abbrev z2k (r : Int) : SV → Mem → Prop := fun s _ => s = (.int .i64 r)

def glitch_glitches_f1 (F : Nat) (a0 a1 : S_api_Glitch) : Option (Int) :=
 bnd (cmp_Compare F a0.From a1.From) fun b =>
 some b

theorem z0b (F : Nat) (a0 a1 : S_api_Glitch) (r : Int) (M : Mem) (h : glitch_glitches_f1 F a0 a1 = some r) : CallsM Tryz.prog 98 [(.agg [(.int .i64 a0.From), (.int .i64 a0.To), (.int .i64 a0.Many), (.int .i64 a0.Energy), (.int .i64 a0.Peak)]), (.agg [(.int .i64 a1.From), (.int .i64 a1.To), (.int .i64 a1.Many), (.int .i64 a1.Energy), (.int .i64 a1.Peak)])] M (fun s M' => s = (.int .i64 r) ∧ M' = M) := by
 refine CallsM.plain Tryz.func98 rfl rfl rfl (show Run _ _ _ (z2k r) _ _ _ from ?_)
 rw [glitch_glitches_f1] at h
 have hH := Has.nil (frozen M)
 refine Run.seq (Run.region ?_)
 refine ox rfl (ExG.box rfl rfl hH) ?_
 rintro _ e ⟨g, rfl, c⟩
 refine ox rfl (ExG.box rfl rfl c) ?_
 rintro _ f ⟨m, rfl, b⟩
 refine av rfl rfl ?_
 refine Run.opsEnd (Run.seq (Run.region ?_))
 refine og (ex_fieldAddr rfl z3g) rfl <| og (ex_load1 rfl (b.cells (i := 1) rfl 0 rfl) rdLe_rfl z0u) rfl <| og (ex_fieldAddr rfl z3g) rfl <| og (ex_load1 rfl (b.cells (i := 0) rfl 0 rfl) rdLe_rfl z0u) rfl ?_
 obtain ⟨o, d, h⟩ := bnd_some h
 refine Run.callP wantS_none (ex_call rfl z7i z6z) rfl (z4a F a0.From a1.From _ _ d) <| av rfl rfl <| Run.opsEnd ?_
 cases h
 exact Run.ret Tryz.func98 rfl (res_tmp rfl res_nil) rfl

theorem z43 : szOf Tryz.prog 57 = some 5 := by kernel_rfl
theorem z0g : planOf Tryz.prog (opsC (atC Tryz.prog 159 [1, 0, 0, 1, 0, 0, 1, 0, 0, 1, 0, 0])) = some [.fl 0, .fl 1, .fl 2, .fl 3, .fl 4, .fl 5, .fl 6, .fl 7, .fl 8, .fl 9, .fl 10, .fl 11, .fl 12, .fl 13, .fl 14, .an 15 [4, 3, 2], .fl 16, .an 17 [], .sync] := by kernel_rfl
theorem z0q : planOf Tryz.prog (opsC (atC Tryz.prog 159 [1, 0, 0, 1, 0, 0, 1, 0, 0, 0, 0])) = some [.fl 0, .fl 1, .fl 2, .fl 3, .fl 4, .fl 5, .fl 6, .fl 7, .fl 8, .fl 9, .fl 10, .fl 11, .fl 12, .fl 13, .an 14 [], .fl 15, .fl 16, .sync] := by kernel_rfl
theorem z4r : makeK Tryz.prog 160 = none := by kernel_rfl
theorem z4p : callable Tryz.prog 160 = true := by kernel_rfl
theorem z47 : uvK Tryz.prog 3 154 = none := by kernel_rfl
theorem z42 : cvK Tryz.prog 3 154 = some (.int .u64) := by kernel_rfl
theorem z44 : uvK Tryz.prog 154 3 = none := by kernel_rfl
theorem z41 : cvK Tryz.prog 154 3 = some (.int .i64) := by kernel_rfl
theorem z1e : planOf Tryz.prog (opsC (atC Tryz.prog 160 [0, 1, 0, 1, 1, 0, 0, 0, 1, 0, 1, 0])) = some [.fl 0, .fl 1, .fl 2, .fl 3, .fl 4, .fl 5, .fl 6, .fl 7, .fl 8, .an 9 [], .fl 10, .sync] := by kernel_rfl
theorem z0f : planOf Tryz.prog (opsC (atC Tryz.prog 160 [0, 1, 0, 1, 1, 1, 0, 1, 0, 0, 1, 0, 0])) = some [.fl 0, .fl 1, .fl 2, .fl 3, .fl 4, .fl 5, .fl 6, .fl 7, .fl 8, .fl 9, .fl 10, .fl 11, .fl 12, .fl 13, .fl 14, .an 15 [4, 3, 2], .fl 16, .an 17 [], .sync] := by kernel_rfl
theorem z1b : planOf Tryz.prog (opsC (atC Tryz.prog 160 [1, 0, 1, 0, 1, 1, 0, 0, 0, 1, 0, 1, 0])) = some [.fl 0, .fl 1, .fl 2, .fl 3, .fl 4, .fl 5, .fl 6, .fl 7, .fl 8, .an 9 [], .fl 10, .fl 11, .sync] := by kernel_rfl
theorem z0d : planOf Tryz.prog (opsC (atC Tryz.prog 160 [1, 0, 1, 0, 1, 1, 1, 0, 1, 0, 0, 1, 0, 0])) = some [.fl 0, .fl 1, .fl 2, .fl 3, .fl 4, .fl 5, .fl 6, .fl 7, .fl 8, .fl 9, .fl 10, .fl 11, .fl 12, .fl 13, .fl 14, .an 15 [4, 3, 2], .fl 16, .an 17 [], .sync] := by kernel_rfl
theorem z0x : planOf Tryz.prog (opsC (atC Tryz.prog 160 [1, 1, 1, 1, 1, 1, 1, 0, 0, 0, 1, 0, 1, 0])) = some [.fl 0, .fl 1, .fl 2, .fl 3, .fl 4, .fl 5, .fl 6, .fl 7, .fl 8, .fl 9, .fl 10, .an 11 [], .fl 12, .fl 13, .sync] := by kernel_rfl
theorem z6l : makeK Tryz.prog 202 = none := by kernel_rfl
theorem z64 : callable Tryz.prog 202 = true := by kernel_rfl
theorem z3o : makeK Tryz.prog 241 = none := by kernel_rfl
theorem z3i : callable Tryz.prog 241 = true := by kernel_rfl
theorem z09 : planOf Tryz.prog (opsC (atC Tryz.prog 241 [1, 0, 0, 1, 0, 0])) = some [.fl 0, .fl 1, .fl 2, .fl 3, .fl 4, .fl 5, .fl 6, .fl 7, .fl 8, .fl 9, .fl 10, .fl 11, .fl 12, .fl 13, .fl 14, .fl 15, .fl 16, .fl 17, .fl 18, .fl 19, .fl 20, .an 21 [7, 6, 5, 4], .fl 22, .an 23 [], .sync] := by kernel_rfl
abbrev z00 (d e f : Int) (c : List S_api_Glitch) (b : SV) (Fr0 : Rd) (Hr : List Ent) (r : List S_api_Glitch) : SV → Mem → Prop := fun s Me => s = (.tuple []) ∧ Has Fr0 Me (([.vec 57 5 r.length b (r.flatMap z03)] : List Ent) ++ Hr)

def slices_symMergeCmpFunc_h1_3 (F : Nat) (d e f : Int) (c : List S_api_Glitch) : Nat → Int → Int → List S_api_Glitch → Option ((List S_api_Glitch))
 | 0, _, _, _ => none
 | N + 1, u, o, s =>
  bif (decide (o < (w64 (u - (1 : Int))))) then
   bnd (idx s (w64 (o + (1 : Int)))) fun p =>
   bnd (idx s o) fun q =>
   bnd (inn s o) fun m =>
   bnd (upd s m p) fun b =>
   bnd (inn b (w64 (o + (1 : Int)))) fun n =>
   bnd (upd b n q) fun g =>
   (slices_symMergeCmpFunc_h1_3 F d e f c N) u (w64 (o + (1 : Int))) g
  else
   some s

theorem z1t (F : Nat) (p q s : Int) (n : List S_api_Glitch) (d : SV) (Fr0 : Rd) (Hr : List Ent) : ∀ (N : Nat), ∀ (o c2 : Int) (c3 : List S_api_Glitch) (M : Mem) (r : List S_api_Glitch) (hH : Has Fr0 M (([.vec 57 5 c3.length d (c3.flatMap z03)] : List Ent) ++ Hr)), slices_symMergeCmpFunc_h1_3 F p q s n N o c2 c3 = some r → Run Tryz.prog ⟨⟨160, [], none⟩, []⟩ 220 (z00 p q s n d Fr0 Hr r) [(0, d), (10, (.int .i64 o)), (13, (.int .i64 c2))] [codeC Tryz.prog 160 [0, 1, 0, 1, 1, 1, 0, 1, 0, 0], loopC Tryz.prog 160 [0, 1, 0, 1, 1, 1, 0, 1, 0, 0], .inBlock 2, codeC Tryz.prog 160 [0, 1, 0, 1, 1, 1, 1], codeC Tryz.prog 160 [1]] M := by
 intro N
 induction N with
 | zero =>
  intro o c2 c3 M r hH h
  simp [slices_symMergeCmpFunc_h1_3] at h
 | succ N ih =>
  intro o c2 c3 M r hH h
  rw [slices_symMergeCmpFunc_h1_3] at h
  refine Run.seq (Run.seq (Run.region ?_))
  refine mv rfl rfl <| mv rfl rfl <| og (ex_sub rfl rfl) rfl <| og (ex_lss rfl rfl) rfl <| Run.opsEnd ?_
  rcases btf ((decide (c2 < (w64 (o - (1 : Int)))))) with hc103 | hc103
  ·have h := bif_t hc103 h
   refine Run.condT' rfl hc103 ?_
   refine Run.skip (Run.seq (Run.block ?_))
   refine Run.drawG z0f <| df rfl (ex_move rfl) rfl <| df rfl (ex_move rfl) rfl <| df rfl (ex_move rfl) rfl <| df rfl (ex_move rfl) rfl <| df rfl (ex_add rfl rfl) rfl <| df rfl (ex_move rfl) rfl <| df rfl (ex_move rfl) rfl <| df rfl (ex_add rfl rfl) rfl ?_
   obtain ⟨b2, f, h⟩ := bnd_some h
   obtain ⟨b8, b4, x, f, a2⟩ := vec_elem (P := Tryz.prog) (t := 53) (kk := .i64) hH (i := 0) rfl f z07
   refine df rfl (ex_elX rfl rfl f) rfl <| df rfl (ex_loadA rfl (hH.at (enc := z03) (a := b2) (i := 0) rfl x a2 z02) rdLe_rfl z0t rfl rfl rfl) rfl <| df rfl (ex_move rfl) rfl <| df rfl (ex_move rfl) rfl ?_
   obtain ⟨b3, g, h⟩ := bnd_some h
   obtain ⟨b9, b5, y, g, a3⟩ := vec_elem (P := Tryz.prog) (t := 53) (kk := .i64) hH (i := 0) rfl g z07
   refine df rfl (ex_elX rfl rfl g) rfl <| df rfl (ex_loadA rfl (hH.at (enc := z03) (a := b3) (i := 0) rfl y a3 z02) rdLe_rfl z0t rfl rfl rfl) rfl ?_
   obtain ⟨b6, a6, h⟩ := bnd_some h
   obtain ⟨c0, a0, a8⟩ := vec_place (P := Tryz.prog) (t := 53) (kk := .i64) hH (i := 0) rfl a6 z07
   refine df rfl (ex_elX rfl rfl a8) rfl ?_
   obtain ⟨u, a4, h⟩ := bnd_some h
   refine DrawG.opX rfl wantS_none rfl (ExG.storeEl rfl rfl hH (i := 0) rfl a0 a4 z43 rfl z02 z05) ?_
   rintro _ b0 ⟨rfl, (e : Has Fr0 b0 (([.vec 57 5 u.length d (u.flatMap z03)] : List Ent) ++ Hr))⟩
   refine ⟨(st_cons rfl (ev_ex wantS_none (ex_add rfl rfl)) rfl rfl rfl (st_cons rfl (ev_ex wantS_none (ex_move rfl)) rfl rfl rfl (st_cons rfl (ev_ex wantS_none (ex_move rfl)) rfl rfl (blk_self e (i := 0) rfl) st_nil))), ?_⟩
   obtain ⟨b7, a7, h⟩ := bnd_some h
   obtain ⟨c1, a1, a9⟩ := vec_place (P := Tryz.prog) (t := 53) (kk := .i64) e (i := 0) rfl a7 z07
   refine df rfl (ex_elX rfl rfl a9) rfl ?_
   obtain ⟨m, a5, h⟩ := bnd_some h
   refine DrawG.opX rfl wantS_none rfl (ExG.storeEl rfl rfl e (i := 0) rfl a1 a5 z43 rfl z02 z05) ?_
   rintro _ b1 ⟨rfl, (w : Has Fr0 b1 (([.vec 57 5 m.length d (m.flatMap z03)] : List Ent) ++ Hr))⟩
   refine ⟨st_nil, ?_⟩
   refine DrawG.sync <| DrawG.nil ?_
   refine Run.inBlock (Run.region ?_)
   refine mv rfl rfl <| og (ex_add rfl rfl) rfl <| av rfl rfl ?_
   refine Run.opsEnd (Run.inLoop ?_)
   exact Run.pick [0, 10, 13] (ih o (w64 (c2 + (1 : Int))) m _ _ w h)
  ·have h := bif_f hc103 h
   refine Run.condF' rfl hc103 <| Run.exit rfl ?_
   cases h
   exact Run.ret Tryz.func160 rfl res_nil ⟨rfl, (hH.pickT [0] rfl rfl).upF (fun b c hb => hH.base b c hb)⟩

def slices_symMergeCmpFunc_h1_2 (F : Nat) (c d e : Int) (b : List S_api_Glitch) : Nat → Int → Int → Option ((List S_api_Glitch))
 | 0, _, _ => none
 | N + 1, p, m =>
  bif (decide (m < (w64 (p - (1 : Int))))) then
   bnd (idx b (w64 (m + (1 : Int)))) fun s =>
   bnd (idx b m) fun u =>
   bnd (inn b m) fun q =>
   bnd (upd b q s) fun o =>
   bnd (inn o (w64 (m + (1 : Int)))) fun g =>
   bnd (upd o g u) fun f =>
   slices_symMergeCmpFunc_h1_3 F c d e b F p (w64 (m + (1 : Int))) f
  else
   some b

theorem z1s (F : Nat) (f g m : Int) (e : List S_api_Glitch) (d : SV) (Fr0 : Rd) (Hr : List Ent) : ∀ (N : Nat), ∀ (o b2 : Int) (M : Mem) (r : List S_api_Glitch) (hH : Has Fr0 M (([.vec 57 5 e.length d (e.flatMap z03)] : List Ent) ++ Hr)), slices_symMergeCmpFunc_h1_2 F f g m e N o b2 = some r → Run Tryz.prog ⟨⟨160, [], none⟩, []⟩ 220 (z00 f g m e d Fr0 Hr r) [(0, d), (10, (.int .i64 o)), (13, (.int .i64 b2))] [codeC Tryz.prog 160 [0, 1, 0, 1, 1, 1, 0, 1, 0, 0], loopC Tryz.prog 160 [0, 1, 0, 1, 1, 1, 0, 1, 0, 0], .inBlock 2, codeC Tryz.prog 160 [0, 1, 0, 1, 1, 1, 1], codeC Tryz.prog 160 [1]] M := by
 intro N
 induction N with
 | zero =>
  intro o b2 M r hH h
  simp [slices_symMergeCmpFunc_h1_2] at h
 | succ N ih =>
  intro o b2 M r hH h
  rw [slices_symMergeCmpFunc_h1_2] at h
  refine Run.seq (Run.seq (Run.region ?_))
  refine mv rfl rfl <| mv rfl rfl <| og (ex_sub rfl rfl) rfl <| og (ex_lss rfl rfl) rfl <| Run.opsEnd ?_
  rcases btf ((decide (b2 < (w64 (o - (1 : Int)))))) with hc94 | hc94
  ·have h := bif_t hc94 h
   refine Run.condT' rfl hc94 ?_
   refine Run.skip (Run.seq (Run.block ?_))
   refine Run.drawG z0f <| df rfl (ex_move rfl) rfl <| df rfl (ex_move rfl) rfl <| df rfl (ex_move rfl) rfl <| df rfl (ex_move rfl) rfl <| df rfl (ex_add rfl rfl) rfl <| df rfl (ex_move rfl) rfl <| df rfl (ex_move rfl) rfl <| df rfl (ex_add rfl rfl) rfl ?_
   obtain ⟨b5, p, h⟩ := bnd_some h
   obtain ⟨c0, b7, a2, p, a5⟩ := vec_elem (P := Tryz.prog) (t := 53) (kk := .i64) hH (i := 0) rfl p z07
   refine df rfl (ex_elX rfl rfl p) rfl <| df rfl (ex_loadA rfl (hH.at (enc := z03) (a := b5) (i := 0) rfl a2 a5 z02) rdLe_rfl z0t rfl rfl rfl) rfl <| df rfl (ex_move rfl) rfl <| df rfl (ex_move rfl) rfl ?_
   obtain ⟨b6, q, h⟩ := bnd_some h
   obtain ⟨c1, b8, a3, q, a6⟩ := vec_elem (P := Tryz.prog) (t := 53) (kk := .i64) hH (i := 0) rfl q z07
   refine df rfl (ex_elX rfl rfl q) rfl <| df rfl (ex_loadA rfl (hH.at (enc := z03) (a := b6) (i := 0) rfl a3 a6 z02) rdLe_rfl z0t rfl rfl rfl) rfl ?_
   obtain ⟨b9, a8, h⟩ := bnd_some h
   obtain ⟨c2, a4, a9⟩ := vec_place (P := Tryz.prog) (t := 53) (kk := .i64) hH (i := 0) rfl a8 z07
   refine df rfl (ex_elX rfl rfl a9) rfl ?_
   obtain ⟨b3, a7, h⟩ := bnd_some h
   refine DrawG.opX rfl wantS_none rfl (ExG.storeEl rfl rfl hH (i := 0) rfl a4 a7 z43 rfl z02 z05) ?_
   rintro _ b4 ⟨rfl, (n : Has Fr0 b4 (([.vec 57 5 b3.length d (b3.flatMap z03)] : List Ent) ++ Hr))⟩
   refine ⟨(st_cons rfl (ev_ex wantS_none (ex_add rfl rfl)) rfl rfl rfl (st_cons rfl (ev_ex wantS_none (ex_move rfl)) rfl rfl rfl (st_cons rfl (ev_ex wantS_none (ex_move rfl)) rfl rfl (blk_self n (i := 0) rfl) st_nil))), ?_⟩
   obtain ⟨b0, y, h⟩ := bnd_some h
   obtain ⟨b1, w, a0⟩ := vec_place (P := Tryz.prog) (t := 53) (kk := .i64) n (i := 0) rfl y z07
   refine df rfl (ex_elX rfl rfl a0) rfl ?_
   obtain ⟨s, x, h⟩ := bnd_some h
   refine DrawG.opX rfl wantS_none rfl (ExG.storeEl rfl rfl n (i := 0) rfl w x z43 rfl z02 z05) ?_
   rintro _ a1 ⟨rfl, (u : Has Fr0 a1 (([.vec 57 5 s.length d (s.flatMap z03)] : List Ent) ++ Hr))⟩
   refine ⟨st_nil, ?_⟩
   refine DrawG.sync <| DrawG.nil ?_
   refine Run.inBlock (Run.region ?_)
   refine mv rfl rfl <| og (ex_add rfl rfl) rfl <| av rfl rfl ?_
   refine Run.opsEnd (Run.inLoop ?_)
   exact Run.pick [0, 10, 13] (z1t F f g m e d Fr0 Hr F o (w64 (b2 + (1 : Int))) s _ _ u h)
  ·have h := bif_f hc94 h
   refine Run.condF' rfl hc94 <| Run.exit rfl ?_
   cases h
   exact Run.ret Tryz.func160 rfl res_nil ⟨rfl, (hH.pickT [0] rfl rfl).upF (fun b c hb => hH.base b c hb)⟩

def slices_symMergeCmpFunc_h1_1 (F : Nat) (c d e : Int) (b : List S_api_Glitch) : Nat → Int → Int → Int → Option ((List S_api_Glitch))
 | 0, _, _, _ => none
 | N + 1, v1, f, g =>
  bif (decide (f < g)) then
   bnd (idx b (w64 (Int.fdiv (IntKind.wrap .u64 (w64 (f + g))) (2 ^ (min 1 (IntKind.bits .u64)))))) fun o =>
   bnd (idx b v1) fun p =>
   bnd (glitch_glitches_f1 F o p) fun m =>
   bif (decide (m < (0 : Int))) then
    (slices_symMergeCmpFunc_h1_1 F c d e b N) v1 (w64 ((w64 (Int.fdiv (IntKind.wrap .u64 (w64 (f + g))) (2 ^ (min 1 (IntKind.bits .u64))))) + (1 : Int))) g
   else
    (slices_symMergeCmpFunc_h1_1 F c d e b N) v1 f (w64 (Int.fdiv (IntKind.wrap .u64 (w64 (f + g))) (2 ^ (min 1 (IntKind.bits .u64)))))
  else
   slices_symMergeCmpFunc_h1_2 F c d e b F f v1

theorem z1r (F : Nat) (e f g : Int) (b : List S_api_Glitch) (c : SV) (Fr0 : Rd) (Hr : List Ent) : ∀ (N : Nat), ∀ (v1 o x : Int) (M : Mem) (r : List S_api_Glitch) (hH : Has Fr0 M (([.vec 57 5 b.length c (b.flatMap z03)] : List Ent) ++ Hr)), slices_symMergeCmpFunc_h1_1 F e f g b N v1 o x = some r → Run Tryz.prog ⟨⟨160, [], none⟩, []⟩ 220 (z00 e f g b c Fr0 Hr r) [(0, c), (1, (.int .i64 v1)), (4, (.fn (.func 98) [] [])), (10, (.int .i64 o)), (11, (.int .i64 x))] [codeC Tryz.prog 160 [0, 1, 0, 1, 1, 0, 0, 0], loopC Tryz.prog 160 [0, 1, 0, 1, 1, 0, 0, 0], .inBlock 0, codeC Tryz.prog 160 [0, 1, 0, 1, 1, 1], codeC Tryz.prog 160 [1]] M := by
 intro N
 induction N with
 | zero =>
  intro v1 o x M r hH h
  simp [slices_symMergeCmpFunc_h1_1] at h
 | succ N ih =>
  intro v1 o x M r hH h
  rw [slices_symMergeCmpFunc_h1_1] at h
  refine Run.seq (Run.seq (Run.region ?_))
  refine mv rfl rfl <| mv rfl rfl <| og (ex_lss rfl rfl) rfl <| Run.opsEnd ?_
  rcases btf ((decide (o < x))) with d | d
  ·have h := bif_t d h
   refine Run.condT' rfl d ?_
   refine Run.skip (Run.block (Run.seq (Run.region ?_)))
   refine mv rfl rfl <| mv rfl rfl <| og (ex_add rfl rfl) rfl <| og (ex_conv rfl z47 z42) rfl <| og (ex_shr (j := 1) rfl rfl) rfl <| og (ex_conv rfl z44 z41) rfl <| av rfl rfl ?_
   refine Run.opsEnd (Run.seq ?_)
   refine Run.drawG z1e <| df rfl (ex_move rfl) rfl <| df rfl (ex_move rfl) rfl <| df rfl (ex_move rfl) rfl ?_
   obtain ⟨y, m, h⟩ := bnd_some h
   obtain ⟨a4, a2, p, m, s⟩ := vec_elem (P := Tryz.prog) (t := 53) (kk := .i64) hH (i := 0) rfl m z07
   refine df rfl (ex_elX rfl rfl m) rfl <| df rfl (ex_loadA rfl (hH.at (enc := z03) (a := y) (i := 0) rfl p s z02) rdLe_rfl z0t rfl rfl rfl) rfl <| df rfl (ex_move rfl) rfl <| df rfl (ex_move rfl) rfl ?_
   obtain ⟨a0, n, h⟩ := bnd_some h
   obtain ⟨a5, a3, q, n, u⟩ := vec_elem (P := Tryz.prog) (t := 53) (kk := .i64) hH (i := 0) rfl n z07
   refine df rfl (ex_elX rfl rfl n) rfl <| df rfl (ex_loadA rfl (hH.at (enc := z03) (a := a0) (i := 0) rfl q u z02) rdLe_rfl z0t rfl rfl rfl) rfl ?_
   obtain ⟨a1, w, h⟩ := bnd_some h
   refine DrawG.callP rfl wantS_none (ex_closure rfl rfl z52 z51) rfl (z0b F y a0 _ _ w) st_nil <| df rfl (ex_lss rfl rfl) rfl <| DrawG.sync <| DrawG.nil ?_
   rcases btf ((decide (a1 < (0 : Int)))) with hc93 | hc93
   ·have h := bif_t hc93 h
    refine Run.condT' rfl hc93 <| Run.region <| mv rfl rfl <| og (ex_add rfl rfl) rfl <| av rfl rfl ?_
    refine Run.opsEnd (Run.inBlock (Run.inLoop ?_))
    exact Run.pick [0, 1, 4, 10, 11] (ih v1 (w64 ((w64 (Int.fdiv (IntKind.wrap .u64 (w64 (o + x))) (2 ^ (min 1 (IntKind.bits .u64))))) + (1 : Int))) x _ _ hH h)
   ·have h := bif_f hc93 h
    refine Run.condF' rfl hc93 <| Run.region <| mv rfl rfl <| av rfl rfl ?_
    refine Run.opsEnd (Run.inBlock (Run.inLoop ?_))
    exact Run.pick [0, 1, 4, 10, 11] (ih v1 o (w64 (Int.fdiv (IntKind.wrap .u64 (w64 (o + x))) (2 ^ (min 1 (IntKind.bits .u64))))) _ _ hH h)
  ·have h := bif_f d h
   refine Run.condF' rfl d ?_
   refine Run.exit rfl (Run.seq (Run.seq (Run.region ?_)))
   refine mv rfl rfl <| av rfl rfl ?_
   refine Run.opsEnd (Run.block (Run.loop ?_))
   exact Run.pick [0, 10, 13] (z1s F e f g b c Fr0 Hr F o v1 _ _ hH h)

def slices_symMergeCmpFunc_h1_6 (F : Nat) (d e f : Int) (c : List S_api_Glitch) : Nat → Int → Int → List S_api_Glitch → Option ((List S_api_Glitch))
 | 0, _, _, _ => none
 | N + 1, u, o, s =>
  bif (decide (u < o)) then
   bnd (idx s (w64 (o - (1 : Int)))) fun p =>
   bnd (idx s o) fun q =>
   bnd (inn s o) fun m =>
   bnd (upd s m p) fun b =>
   bnd (inn b (w64 (o - (1 : Int)))) fun n =>
   bnd (upd b n q) fun g =>
   (slices_symMergeCmpFunc_h1_6 F d e f c N) u (w64 (o - (1 : Int))) g
  else
   some s

theorem z1w (F : Nat) (q s u : Int) (p : List S_api_Glitch) (d : SV) (Fr0 : Rd) (Hr : List Ent) : ∀ (N : Nat), ∀ (o c3 : Int) (c4 : List S_api_Glitch) (M : Mem) (r : List S_api_Glitch) (hH : Has Fr0 M (([.vec 57 5 c4.length d (c4.flatMap z03)] : List Ent) ++ Hr)), slices_symMergeCmpFunc_h1_6 F q s u p N o c3 c4 = some r → Run Tryz.prog ⟨⟨160, [], none⟩, []⟩ 220 (z00 q s u p d Fr0 Hr r) [(0, d), (14, (.int .i64 o)), (17, (.int .i64 c3))] [codeC Tryz.prog 160 [1, 0, 1, 0, 1, 1, 1, 0, 1, 0, 0], loopC Tryz.prog 160 [1, 0, 1, 0, 1, 1, 1, 0, 1, 0, 0], .inBlock 6, codeC Tryz.prog 160 [1, 0, 1, 0, 1, 1, 1, 1], codeC Tryz.prog 160 [1, 1]] M := by
 intro N
 induction N with
 | zero =>
  intro o c3 c4 M r hH h
  simp [slices_symMergeCmpFunc_h1_6] at h
 | succ N ih =>
  intro o c3 c4 M r hH h
  rw [slices_symMergeCmpFunc_h1_6] at h
  refine Run.seq (Run.seq (Run.region ?_))
  refine mv rfl rfl <| mv rfl rfl <| og (ex_gtr rfl rfl) rfl <| Run.opsEnd ?_
  rcases btf ((decide (o < c3))) with e | e
  ·have h := bif_t e h
   refine Run.condT' rfl e ?_
   refine Run.skip (Run.seq (Run.block ?_))
   refine Run.drawG z0d <| df rfl (ex_move rfl) rfl <| df rfl (ex_move rfl) rfl <| df rfl (ex_move rfl) rfl <| df rfl (ex_move rfl) rfl <| df rfl (ex_sub rfl rfl) rfl <| df rfl (ex_move rfl) rfl <| df rfl (ex_move rfl) rfl <| df rfl (ex_sub rfl rfl) rfl ?_
   obtain ⟨b3, g, h⟩ := bnd_some h
   obtain ⟨b9, b5, y, g, a3⟩ := vec_elem (P := Tryz.prog) (t := 53) (kk := .i64) hH (i := 0) rfl g z07
   refine df rfl (ex_elX rfl rfl g) rfl <| df rfl (ex_loadA rfl (hH.at (enc := z03) (a := b3) (i := 0) rfl y a3 z02) rdLe_rfl z0t rfl rfl rfl) rfl <| df rfl (ex_move rfl) rfl <| df rfl (ex_move rfl) rfl ?_
   obtain ⟨b4, m, h⟩ := bnd_some h
   obtain ⟨c0, b6, a0, m, a4⟩ := vec_elem (P := Tryz.prog) (t := 53) (kk := .i64) hH (i := 0) rfl m z07
   refine df rfl (ex_elX rfl rfl m) rfl <| df rfl (ex_loadA rfl (hH.at (enc := z03) (a := b4) (i := 0) rfl a0 a4 z02) rdLe_rfl z0t rfl rfl rfl) rfl ?_
   obtain ⟨b7, a7, h⟩ := bnd_some h
   obtain ⟨c1, a1, a9⟩ := vec_place (P := Tryz.prog) (t := 53) (kk := .i64) hH (i := 0) rfl a7 z07
   refine df rfl (ex_elX rfl rfl a9) rfl ?_
   obtain ⟨w, a5, h⟩ := bnd_some h
   refine DrawG.opX rfl wantS_none rfl (ExG.storeEl rfl rfl hH (i := 0) rfl a1 a5 z43 rfl z02 z05) ?_
   rintro _ b1 ⟨rfl, (f : Has Fr0 b1 (([.vec 57 5 w.length d (w.flatMap z03)] : List Ent) ++ Hr))⟩
   refine ⟨(st_cons rfl (ev_ex wantS_none (ex_sub rfl rfl)) rfl rfl rfl (st_cons rfl (ev_ex wantS_none (ex_move rfl)) rfl rfl rfl (st_cons rfl (ev_ex wantS_none (ex_move rfl)) rfl rfl (blk_self f (i := 0) rfl) st_nil))), ?_⟩
   obtain ⟨b8, a8, h⟩ := bnd_some h
   obtain ⟨c2, a2, b0⟩ := vec_place (P := Tryz.prog) (t := 53) (kk := .i64) f (i := 0) rfl a8 z07
   refine df rfl (ex_elX rfl rfl b0) rfl ?_
   obtain ⟨n, a6, h⟩ := bnd_some h
   refine DrawG.opX rfl wantS_none rfl (ExG.storeEl rfl rfl f (i := 0) rfl a2 a6 z43 rfl z02 z05) ?_
   rintro _ b2 ⟨rfl, (x : Has Fr0 b2 (([.vec 57 5 n.length d (n.flatMap z03)] : List Ent) ++ Hr))⟩
   refine ⟨st_nil, ?_⟩
   refine DrawG.sync <| DrawG.nil ?_
   refine Run.inBlock (Run.region ?_)
   refine mv rfl rfl <| og (ex_sub rfl rfl) rfl <| av rfl rfl ?_
   refine Run.opsEnd (Run.inLoop ?_)
   exact Run.pick [0, 14, 17] (ih o (w64 (c3 - (1 : Int))) n _ _ x h)
  ·have h := bif_f e h
   refine Run.condF' rfl e <| Run.exit rfl ?_
   cases h
   exact Run.ret Tryz.func160 rfl res_nil ⟨rfl, (hH.pickT [0] rfl rfl).upF (fun b c hb => hH.base b c hb)⟩

def slices_symMergeCmpFunc_h1_5 (F : Nat) (d e f : Int) (b : List S_api_Glitch) : Nat → Int → Int → Option ((List S_api_Glitch))
 | 0, _, _ => none
 | N + 1, s, o =>
  bif (decide (s < o)) then
   bnd (idx b (w64 (o - (1 : Int)))) fun p =>
   bnd (idx b o) fun q =>
   bnd (inn b o) fun m =>
   bnd (upd b m p) fun c =>
   bnd (inn c (w64 (o - (1 : Int)))) fun n =>
   bnd (upd c n q) fun g =>
   slices_symMergeCmpFunc_h1_6 F d e f b F s (w64 (o - (1 : Int))) g
  else
   some b

theorem z1v (F : Nat) (p q s : Int) (e : List S_api_Glitch) (d : SV) (Fr0 : Rd) (Hr : List Ent) : ∀ (N : Nat), ∀ (o c3 : Int) (M : Mem) (r : List S_api_Glitch) (hH : Has Fr0 M (([.vec 57 5 e.length d (e.flatMap z03)] : List Ent) ++ Hr)), slices_symMergeCmpFunc_h1_5 F p q s e N o c3 = some r → Run Tryz.prog ⟨⟨160, [], none⟩, []⟩ 220 (z00 p q s e d Fr0 Hr r) [(0, d), (14, (.int .i64 o)), (17, (.int .i64 c3))] [codeC Tryz.prog 160 [1, 0, 1, 0, 1, 1, 1, 0, 1, 0, 0], loopC Tryz.prog 160 [1, 0, 1, 0, 1, 1, 1, 0, 1, 0, 0], .inBlock 6, codeC Tryz.prog 160 [1, 0, 1, 0, 1, 1, 1, 1], codeC Tryz.prog 160 [1, 1]] M := by
 intro N
 induction N with
 | zero =>
  intro o c3 M r hH h
  simp [slices_symMergeCmpFunc_h1_5] at h
 | succ N ih =>
  intro o c3 M r hH h
  rw [slices_symMergeCmpFunc_h1_5] at h
  refine Run.seq (Run.seq (Run.region ?_))
  refine mv rfl rfl <| mv rfl rfl <| og (ex_gtr rfl rfl) rfl <| Run.opsEnd ?_
  rcases btf ((decide (o < c3))) with f | f
  ·have h := bif_t f h
   refine Run.condT' rfl f ?_
   refine Run.skip (Run.seq (Run.block ?_))
   refine Run.drawG z0d <| df rfl (ex_move rfl) rfl <| df rfl (ex_move rfl) rfl <| df rfl (ex_move rfl) rfl <| df rfl (ex_move rfl) rfl <| df rfl (ex_sub rfl rfl) rfl <| df rfl (ex_move rfl) rfl <| df rfl (ex_move rfl) rfl <| df rfl (ex_sub rfl rfl) rfl ?_
   obtain ⟨b3, m, h⟩ := bnd_some h
   obtain ⟨b9, b5, y, m, a3⟩ := vec_elem (P := Tryz.prog) (t := 53) (kk := .i64) hH (i := 0) rfl m z07
   refine df rfl (ex_elX rfl rfl m) rfl <| df rfl (ex_loadA rfl (hH.at (enc := z03) (a := b3) (i := 0) rfl y a3 z02) rdLe_rfl z0t rfl rfl rfl) rfl <| df rfl (ex_move rfl) rfl <| df rfl (ex_move rfl) rfl ?_
   obtain ⟨b4, n, h⟩ := bnd_some h
   obtain ⟨c0, b6, a0, n, a4⟩ := vec_elem (P := Tryz.prog) (t := 53) (kk := .i64) hH (i := 0) rfl n z07
   refine df rfl (ex_elX rfl rfl n) rfl <| df rfl (ex_loadA rfl (hH.at (enc := z03) (a := b4) (i := 0) rfl a0 a4 z02) rdLe_rfl z0t rfl rfl rfl) rfl ?_
   obtain ⟨b7, a7, h⟩ := bnd_some h
   obtain ⟨c1, a1, a9⟩ := vec_place (P := Tryz.prog) (t := 53) (kk := .i64) hH (i := 0) rfl a7 z07
   refine df rfl (ex_elX rfl rfl a9) rfl ?_
   obtain ⟨w, a5, h⟩ := bnd_some h
   refine DrawG.opX rfl wantS_none rfl (ExG.storeEl rfl rfl hH (i := 0) rfl a1 a5 z43 rfl z02 z05) ?_
   rintro _ b1 ⟨rfl, (g : Has Fr0 b1 (([.vec 57 5 w.length d (w.flatMap z03)] : List Ent) ++ Hr))⟩
   refine ⟨(st_cons rfl (ev_ex wantS_none (ex_sub rfl rfl)) rfl rfl rfl (st_cons rfl (ev_ex wantS_none (ex_move rfl)) rfl rfl rfl (st_cons rfl (ev_ex wantS_none (ex_move rfl)) rfl rfl (blk_self g (i := 0) rfl) st_nil))), ?_⟩
   obtain ⟨b8, a8, h⟩ := bnd_some h
   obtain ⟨c2, a2, b0⟩ := vec_place (P := Tryz.prog) (t := 53) (kk := .i64) g (i := 0) rfl a8 z07
   refine df rfl (ex_elX rfl rfl b0) rfl ?_
   obtain ⟨u, a6, h⟩ := bnd_some h
   refine DrawG.opX rfl wantS_none rfl (ExG.storeEl rfl rfl g (i := 0) rfl a2 a6 z43 rfl z02 z05) ?_
   rintro _ b2 ⟨rfl, (x : Has Fr0 b2 (([.vec 57 5 u.length d (u.flatMap z03)] : List Ent) ++ Hr))⟩
   refine ⟨st_nil, ?_⟩
   refine DrawG.sync <| DrawG.nil ?_
   refine Run.inBlock (Run.region ?_)
   refine mv rfl rfl <| og (ex_sub rfl rfl) rfl <| av rfl rfl ?_
   refine Run.opsEnd (Run.inLoop ?_)
   exact Run.pick [0, 14, 17] (z1w F p q s e d Fr0 Hr F o (w64 (c3 - (1 : Int))) u _ _ x h)
  ·have h := bif_f f h
   refine Run.condF' rfl f <| Run.exit rfl ?_
   cases h
   exact Run.ret Tryz.func160 rfl res_nil ⟨rfl, (hH.pickT [0] rfl rfl).upF (fun b c hb => hH.base b c hb)⟩

def slices_symMergeCmpFunc_h1_4 (F : Nat) (c d e : Int) (b : List S_api_Glitch) : Nat → Int → Int → Int → Option ((List S_api_Glitch))
 | 0, _, _, _ => none
 | N + 1, v2, o, p =>
  bif (decide (o < p)) then
   bnd (idx b v2) fun g =>
   bnd (idx b (w64 (Int.fdiv (IntKind.wrap .u64 (w64 (o + p))) (2 ^ (min 1 (IntKind.bits .u64)))))) fun m =>
   bnd (glitch_glitches_f1 F g m) fun f =>
   bif (!(decide (f < (0 : Int)))) then
    (slices_symMergeCmpFunc_h1_4 F c d e b N) v2 (w64 ((w64 (Int.fdiv (IntKind.wrap .u64 (w64 (o + p))) (2 ^ (min 1 (IntKind.bits .u64))))) + (1 : Int))) p
   else
    (slices_symMergeCmpFunc_h1_4 F c d e b N) v2 o (w64 (Int.fdiv (IntKind.wrap .u64 (w64 (o + p))) (2 ^ (min 1 (IntKind.bits .u64)))))
  else
   slices_symMergeCmpFunc_h1_5 F c d e b F o v2

theorem z1u (F : Nat) (g m n : Int) (b : List S_api_Glitch) (d : SV) (Fr0 : Rd) (Hr : List Ent) : ∀ (N : Nat), ∀ (v2 o a5 : Int) (M : Mem) (r : List S_api_Glitch) (hH : Has Fr0 M (([.vec 57 5 b.length d (b.flatMap z03)] : List Ent) ++ Hr)), slices_symMergeCmpFunc_h1_4 F g m n b N v2 o a5 = some r → Run Tryz.prog ⟨⟨160, [], none⟩, []⟩ 220 (z00 g m n b d Fr0 Hr r) [(0, d), (2, (.int .i64 v2)), (4, (.fn (.func 98) [] [])), (14, (.int .i64 o)), (15, (.int .i64 a5))] [codeC Tryz.prog 160 [1, 0, 1, 0, 1, 1, 0, 0, 0], loopC Tryz.prog 160 [1, 0, 1, 0, 1, 1, 0, 0, 0], .inBlock 4, codeC Tryz.prog 160 [1, 0, 1, 0, 1, 1, 1], codeC Tryz.prog 160 [1, 1]] M := by
 intro N
 induction N with
 | zero =>
  intro v2 o a5 M r hH h
  simp [slices_symMergeCmpFunc_h1_4] at h
 | succ N ih =>
  intro v2 o a5 M r hH h
  rw [slices_symMergeCmpFunc_h1_4] at h
  refine Run.seq (Run.seq (Run.region ?_))
  refine mv rfl rfl <| mv rfl rfl <| og (ex_lss rfl rfl) rfl <| Run.opsEnd ?_
  rcases btf ((decide (o < a5))) with c | c
  ·have h := bif_t c h
   refine Run.condT' rfl c ?_
   refine Run.skip (Run.block (Run.seq (Run.region ?_)))
   refine mv rfl rfl <| mv rfl rfl <| og (ex_add rfl rfl) rfl <| og (ex_conv rfl z47 z42) rfl <| og (ex_shr (j := 1) rfl rfl) rfl <| og (ex_conv rfl z44 z41) rfl <| av rfl rfl ?_
   refine Run.opsEnd (Run.seq ?_)
   refine Run.drawG z1b <| df rfl (ex_move rfl) rfl <| df rfl (ex_move rfl) rfl <| df rfl (ex_move rfl) rfl ?_
   obtain ⟨p, e, h⟩ := bnd_some h
   obtain ⟨a3, a1, s, e, w⟩ := vec_elem (P := Tryz.prog) (t := 53) (kk := .i64) hH (i := 0) rfl e z07
   refine df rfl (ex_elX rfl rfl e) rfl <| df rfl (ex_loadA rfl (hH.at (enc := z03) (a := p) (i := 0) rfl s w z02) rdLe_rfl z0t rfl rfl rfl) rfl <| df rfl (ex_move rfl) rfl <| df rfl (ex_move rfl) rfl ?_
   obtain ⟨q, f, h⟩ := bnd_some h
   obtain ⟨a4, a2, u, f, x⟩ := vec_elem (P := Tryz.prog) (t := 53) (kk := .i64) hH (i := 0) rfl f z07
   refine df rfl (ex_elX rfl rfl f) rfl <| df rfl (ex_loadA rfl (hH.at (enc := z03) (a := q) (i := 0) rfl u x z02) rdLe_rfl z0t rfl rfl rfl) rfl ?_
   obtain ⟨a0, y, h⟩ := bnd_some h
   refine DrawG.callP rfl wantS_none (ex_closure rfl rfl z52 z51) rfl (z0b F p q _ _ y) st_nil <| df rfl (ex_lss rfl rfl) rfl <| df rfl (ex_not rfl) rfl <| DrawG.sync <| DrawG.nil ?_
   rcases btf ((!(decide (a0 < (0 : Int))))) with hc118 | hc118
   ·have h := bif_t hc118 h
    refine Run.condT' rfl hc118 <| Run.region <| mv rfl rfl <| og (ex_add rfl rfl) rfl <| av rfl rfl ?_
    refine Run.opsEnd (Run.inBlock (Run.inLoop ?_))
    exact Run.pick [0, 2, 4, 14, 15] (ih v2 (w64 ((w64 (Int.fdiv (IntKind.wrap .u64 (w64 (o + a5))) (2 ^ (min 1 (IntKind.bits .u64))))) + (1 : Int))) a5 _ _ hH h)
   ·have h := bif_f hc118 h
    refine Run.condF' rfl hc118 <| Run.region <| mv rfl rfl <| av rfl rfl ?_
    refine Run.opsEnd (Run.inBlock (Run.inLoop ?_))
    exact Run.pick [0, 2, 4, 14, 15] (ih v2 o (w64 (Int.fdiv (IntKind.wrap .u64 (w64 (o + a5))) (2 ^ (min 1 (IntKind.bits .u64))))) _ _ hH h)
  ·have h := bif_f c h
   refine Run.condF' rfl c ?_
   refine Run.exit rfl (Run.seq (Run.seq (Run.region ?_)))
   refine mv rfl rfl <| av rfl rfl ?_
   refine Run.opsEnd (Run.block (Run.loop ?_))
   exact Run.pick [0, 14, 17] (z1v F g m n b d Fr0 Hr F o v2 _ _ hH h)

def slices_symMergeCmpFunc_h1_14 (F : Nat) (u w x : Int) (s : List S_api_Glitch) (p : Int → Int → Int → Int → Int → Int → Int → Int → List S_api_Glitch → Option ((List S_api_Glitch))) : Nat → Int → Int → Int → Int → Int → Int → Int → Int → Int → Int → Int → Int → List S_api_Glitch → Option ((List S_api_Glitch))
 | 0, _, _, _, _, _, _, _, _, _, _, _, _, _ => none
 | N + 1, v1, v2, v3, o, m, b, c, g, n, d, e, f, a4 =>
  bif (decide (o < v3)) then
   bnd (idx a4 (w64 (v2 + o))) fun a2 =>
   bnd (idx a4 (w64 (v1 + o))) fun a3 =>
   bnd (inn a4 (w64 (v1 + o))) fun a0 =>
   bnd (upd a4 a0 a2) fun q =>
   bnd (inn q (w64 (v2 + o))) fun a1 =>
   bnd (upd q a1 a3) fun y =>
   (slices_symMergeCmpFunc_h1_14 F u w x s p N) v1 v2 v3 (w64 (o + (1 : Int))) m b c g n d e f y
  else
   p m b (w64 (c - b)) g n d e f a4

theorem z1i (F : Nat) (a2 a3 a4 : Int) (s : List S_api_Glitch) (b : SV) (Fr0 : Rd) (Hr : List Ent) (a8 : Int → Int → Int → Int → Int → Int → Int → Int → List S_api_Glitch → Option ((List S_api_Glitch))) (b7 : ∀ (v2 d6 d7 a6 a7 y a0 a1 : Int) (o : List S_api_Glitch) (M : Mem) (r : List S_api_Glitch) (hH : Has Fr0 M (([.vec 57 5 o.length b (o.flatMap z03)] : List Ent) ++ Hr)), a8 v2 d6 d7 a6 a7 y a0 a1 o = some r → Run Tryz.prog ⟨⟨202, [], none⟩, [.mk ⟨160, [], none⟩ 220 (treeOf [(0, b), (1, (.int .i64 a6)), (3, (.int .i64 a7)), (4, (.fn (.func 98) [] [])), (18, (.int .i64 y)), (20, (.int .i64 a0)), (24, (.int .i64 a1))]) [itemC Tryz.prog 160 [1, 1, 1, 1, 1, 1, 1, 1, 1, 0, 1, 0] 5, codeC Tryz.prog 160 [1, 1, 1, 1, 1, 1, 1, 1, 1, 1]]]⟩ 58 (z00 a2 a3 a4 s b Fr0 Hr r) [(0, b), (2, (.int .i64 v2)), (4, (.fn (.func 98) [] [])), (10, (.int .i64 d6)), (11, (.int .i64 d7))] [codeC Tryz.prog 202 [1, 1, 0, 0, 0], loopC Tryz.prog 202 [1, 1, 0, 0, 0], .inBlock 0, codeC Tryz.prog 202 [1, 1, 1]] M) : ∀ (N : Nat), ∀ (v1 v2 v3 d6 n c d m p e f g : Int) (o : List S_api_Glitch) (M : Mem) (r : List S_api_Glitch) (hH : Has Fr0 M (([.vec 57 5 o.length b (o.flatMap z03)] : List Ent) ++ Hr)), slices_symMergeCmpFunc_h1_14 F a2 a3 a4 s a8 N v1 v2 v3 d6 n c d m p e f g o = some r → Run Tryz.prog ⟨⟨241, [], none⟩, [.mk ⟨202, [], none⟩ 58 (treeOf [(0, b), (2, (.int .i64 n)), (4, (.fn (.func 98) [] [])), (10, (.int .i64 c)), (11, (.int .i64 d))]) [itemC Tryz.prog 202 [1, 1, 0, 0, 0, 1, 0, 1, 1, 0] 11, codeC Tryz.prog 202 [1, 1, 0, 0, 0, 1, 0, 1, 1, 1], .inBlock 1, loopC Tryz.prog 202 [1, 1, 0, 0, 0], .inBlock 0, codeC Tryz.prog 202 [1, 1, 1]], .mk ⟨160, [], none⟩ 220 (treeOf [(0, b), (1, (.int .i64 m)), (3, (.int .i64 p)), (4, (.fn (.func 98) [] [])), (18, (.int .i64 e)), (20, (.int .i64 f)), (24, (.int .i64 g))]) [itemC Tryz.prog 160 [1, 1, 1, 1, 1, 1, 1, 1, 1, 0, 1, 0] 5, codeC Tryz.prog 160 [1, 1, 1, 1, 1, 1, 1, 1, 1, 1]]]⟩ 38 (z00 a2 a3 a4 s b Fr0 Hr r) [(0, b), (1, (.int .i64 v1)), (2, (.int .i64 v2)), (3, (.int .i64 v3)), (10, (.int .i64 d6))] [codeC Tryz.prog 241 [1, 0, 0], loopC Tryz.prog 241 [1, 0, 0], .inBlock 0] M := by
 intro N
 induction N with
 | zero =>
  intro v1 v2 v3 d6 n c d m p e f g o M r hH h
  simp [slices_symMergeCmpFunc_h1_14] at h
 | succ N ih =>
  intro v1 v2 v3 d6 n c d m p e f g o M r hH h
  rw [slices_symMergeCmpFunc_h1_14] at h
  refine Run.seq (Run.seq (Run.region ?_))
  refine mv rfl rfl <| mv rfl rfl <| og (ex_lss rfl rfl) rfl <| Run.opsEnd ?_
  rcases btf ((decide (d6 < v3))) with q | q
  ·have h := bif_t q h
   refine Run.condT' rfl q ?_
   refine Run.skip (Run.seq (Run.block ?_))
   refine Run.drawG z09 <| df rfl (ex_move rfl) rfl <| df rfl (ex_move rfl) rfl <| df rfl (ex_move rfl) rfl <| df rfl (ex_add rfl rfl) rfl <| df rfl (ex_move rfl) rfl <| df rfl (ex_move rfl) rfl <| df rfl (ex_move rfl) rfl <| df rfl (ex_add rfl rfl) rfl <| df rfl (ex_move rfl) rfl <| df rfl (ex_move rfl) rfl <| df rfl (ex_move rfl) rfl <| df rfl (ex_add rfl rfl) rfl ?_
   obtain ⟨c6, w, h⟩ := bnd_some h
   obtain ⟨d2, c8, b1, w, b5⟩ := vec_elem (P := Tryz.prog) (t := 53) (kk := .i64) hH (i := 0) rfl w z07
   refine df rfl (ex_elX rfl rfl w) rfl <| df rfl (ex_loadA rfl (hH.at (enc := z03) (a := c6) (i := 0) rfl b1 b5 z02) rdLe_rfl z0t rfl rfl rfl) rfl <| df rfl (ex_move rfl) rfl <| df rfl (ex_move rfl) rfl <| df rfl (ex_move rfl) rfl <| df rfl (ex_add rfl rfl) rfl ?_
   obtain ⟨c7, x, h⟩ := bnd_some h
   obtain ⟨d3, c9, b2, x, b6⟩ := vec_elem (P := Tryz.prog) (t := 53) (kk := .i64) hH (i := 0) rfl x z07
   refine df rfl (ex_elX rfl rfl x) rfl <| df rfl (ex_loadA rfl (hH.at (enc := z03) (a := c7) (i := 0) rfl b2 b6 z02) rdLe_rfl z0t rfl rfl rfl) rfl ?_
   obtain ⟨d0, c0, h⟩ := bnd_some h
   obtain ⟨d4, b3, c2⟩ := vec_place (P := Tryz.prog) (t := 53) (kk := .i64) hH (i := 0) rfl c0 z07
   refine df rfl (ex_elX rfl rfl c2) rfl ?_
   obtain ⟨a9, b8, h⟩ := bnd_some h
   refine DrawG.opX rfl wantS_none rfl (ExG.storeEl rfl rfl hH (i := 0) rfl b3 b8 z43 rfl z02 z05) ?_
   rintro _ c4 ⟨rfl, (u : Has Fr0 c4 (([.vec 57 5 a9.length b (a9.flatMap z03)] : List Ent) ++ Hr))⟩
   refine ⟨(st_cons rfl (ev_ex wantS_none (ex_add rfl rfl)) rfl rfl rfl (st_cons rfl (ev_ex wantS_none (ex_move rfl)) rfl rfl rfl (st_cons rfl (ev_ex wantS_none (ex_move rfl)) rfl rfl rfl (st_cons rfl (ev_ex wantS_none (ex_move rfl)) rfl rfl (blk_self u (i := 0) rfl) st_nil)))), ?_⟩
   obtain ⟨d1, c1, h⟩ := bnd_some h
   obtain ⟨d5, b4, c3⟩ := vec_place (P := Tryz.prog) (t := 53) (kk := .i64) u (i := 0) rfl c1 z07
   refine df rfl (ex_elX rfl rfl c3) rfl ?_
   obtain ⟨a5, b9, h⟩ := bnd_some h
   refine DrawG.opX rfl wantS_none rfl (ExG.storeEl rfl rfl u (i := 0) rfl b4 b9 z43 rfl z02 z05) ?_
   rintro _ c5 ⟨rfl, (b0 : Has Fr0 c5 (([.vec 57 5 a5.length b (a5.flatMap z03)] : List Ent) ++ Hr))⟩
   refine ⟨st_nil, ?_⟩
   refine DrawG.sync <| DrawG.nil ?_
   refine Run.inBlock (Run.region ?_)
   refine mv rfl rfl <| og (ex_add rfl rfl) rfl <| av rfl rfl ?_
   refine Run.opsEnd (Run.inLoop ?_)
   exact Run.low (.cons (fle_pick [0, 2, 4, 10, 11] rfl) (.cons (fle_pick [0, 1, 3, 4, 18, 20, 24] rfl) .nil)) (Run.pick [0, 1, 2, 3, 10] (ih v1 v2 v3 (w64 (d6 + (1 : Int))) n c d m p e f g a5 _ _ b0 h))
  ·have h := bif_f q h
   refine Run.condF' rfl q <| Run.exit rfl <| Run.fallTo Tryz.func241 rfl res_nil rfl ?_
   refine Run.opsEnd (Run.region ?_)
   refine mv rfl rfl <| mv rfl rfl <| og (ex_sub rfl rfl) rfl <| av rfl rfl ?_
   refine Run.opsEnd (Run.inBlock (Run.inLoop ?_))
   exact Run.low (.cons (fle_pick [0, 1, 3, 4, 18, 20, 24] rfl) .nil) (Run.pick [0, 2, 4, 10, 11] (b7 n c (w64 (d - c)) m p e f g o _ _ hH h))

def slices_symMergeCmpFunc_h1_19 (F : Nat) (e f g : Int) (d : List S_api_Glitch) (hdR : Int → Int → Int → List S_api_Glitch → Option ((List S_api_Glitch))) (v3 o p : Int) (c : Bool) (m : List S_api_Glitch) : Option ((List S_api_Glitch)) :=
 bif c then
  bnd (hdR o p v3 m) fun b =>
  some b
 else
  some m

theorem z0l (F : Nat) (g m n : Int) (e : List S_api_Glitch) (d : SV) (Fr0 : Rd) (Hr : List Ent) (hdR : Int → Int → Int → List S_api_Glitch → Option ((List S_api_Glitch))) (hhdR : ∀ (g m n : Int) (e : List S_api_Glitch) (d : SV) (Fr0 : Rd) (Hr : List Ent) (M : Mem) (r : List S_api_Glitch) (hH : Has Fr0 M (([.vec 57 5 e.length d (e.flatMap z03)] : List Ent) ++ Hr)) (h : hdR g m n e = some r), CallsM Tryz.prog 160 [d, (.int .i64 g), (.int .i64 m), (.int .i64 n), (.fn (.func 98) [] [])] M (z00 g m n e d Fr0 Hr r)) : ∀ (v3 x y : Int) (p : Bool) (o : List S_api_Glitch) (M : Mem) (r : List S_api_Glitch) (hH : Has Fr0 M (([.vec 57 5 o.length d (o.flatMap z03)] : List Ent) ++ Hr)), slices_symMergeCmpFunc_h1_19 F g m n e hdR v3 x y p o = some r → Run Tryz.prog ⟨⟨160, [], none⟩, []⟩ 220 (z00 g m n e d Fr0 Hr r) [(0, d), (3, (.int .i64 v3)), (4, (.fn (.func 98) [] [])), (18, (.int .i64 x)), (24, (.int .i64 y)), (213, (.bool p))] [codeC Tryz.prog 160 [1, 1, 1, 1, 1, 1, 1, 1, 1, 1, 1, 1]] M := by
 intro v3 x y p o M r hH h
 rw [slices_symMergeCmpFunc_h1_19] at h
 rcases btf (p) with f | f
 ·have h := bif_t f h
  refine Run.condT' rfl f <| Run.region <| mv rfl rfl <| mv rfl rfl <| mv rfl rfl <| mv rfl rfl <| mv rfl rfl ?_
  obtain ⟨s, u, h⟩ := bnd_some h
  refine Run.callX wantS_none (ex_call rfl z4r z4p) rfl (hhdR x y v3 o d Fr0 ([] ++ Hr) _ _ hH u) ?_
  rintro _ w ⟨rfl, (q : Has Fr0 w (([.vec 57 5 s.length d (s.flatMap z03)] : List Ent) ++ Hr))⟩
  refine Run.opsEnd ?_
  cases h
  exact Run.fall Tryz.func160 rfl res_nil ⟨rfl, (q.pickT [0] rfl rfl).upF (fun b c hb => q.base b c hb)⟩
 ·have h := bif_f f h
  refine Run.condF' rfl f <| Run.skip ?_
  cases h
  exact Run.fall Tryz.func160 rfl res_nil ⟨rfl, (hH.pickT [0] rfl rfl).upF (fun b c hb => hH.base b c hb)⟩

def slices_symMergeCmpFunc_h1_18 (F : Nat) (c d e : Int) (b : List S_api_Glitch) (hdR : Int → Int → Int → List S_api_Glitch → Option ((List S_api_Glitch))) (v3 g f : Int) (m : List S_api_Glitch) : Option ((List S_api_Glitch)) :=
 bif (decide (g < f)) then
  slices_symMergeCmpFunc_h1_19 F c d e b hdR v3 g f (decide (f < v3)) m
 else
  slices_symMergeCmpFunc_h1_19 F c d e b hdR v3 g f false m

theorem z0k (F : Nat) (e f g : Int) (c : List S_api_Glitch) (d : SV) (Fr0 : Rd) (Hr : List Ent) (hdR : Int → Int → Int → List S_api_Glitch → Option ((List S_api_Glitch))) (hhdR : ∀ (e f g : Int) (c : List S_api_Glitch) (d : SV) (Fr0 : Rd) (Hr : List Ent) (M : Mem) (r : List S_api_Glitch) (hH : Has Fr0 M (([.vec 57 5 c.length d (c.flatMap z03)] : List Ent) ++ Hr)) (h : hdR e f g c = some r), CallsM Tryz.prog 160 [d, (.int .i64 e), (.int .i64 f), (.int .i64 g), (.fn (.func 98) [] [])] M (z00 e f g c d Fr0 Hr r)) : ∀ (v3 p m : Int) (o : List S_api_Glitch) (M : Mem) (r : List S_api_Glitch) (hH : Has Fr0 M (([.vec 57 5 o.length d (o.flatMap z03)] : List Ent) ++ Hr)), slices_symMergeCmpFunc_h1_18 F e f g c hdR v3 p m o = some r → Run Tryz.prog ⟨⟨160, [], none⟩, []⟩ 220 (z00 e f g c d Fr0 Hr r) [(0, d), (3, (.int .i64 v3)), (4, (.fn (.func 98) [] [])), (18, (.int .i64 p)), (24, (.int .i64 m))] [itemC Tryz.prog 160 [1, 1, 1, 1, 1, 1, 1, 1, 1, 1, 1, 0] 0, codeC Tryz.prog 160 [1, 1, 1, 1, 1, 1, 1, 1, 1, 1, 1, 1]] M := by
 intro v3 p m o M r hH h
 rw [slices_symMergeCmpFunc_h1_18] at h
 refine mv rfl rfl <| mv rfl rfl <| og (ex_lss rfl rfl) rfl <| mv rfl rfl ?_
 rcases btf ((decide (p < m))) with b | b
 ·have h := bif_t b h
  refine gy rfl rfl b (ex_move rfl) rfl <| gy rfl rfl b (ex_move rfl) rfl <| gy rfl rfl b (ex_lss rfl rfl) rfl <| og (ex_pickT' rfl b rfl rfl) rfl <| Run.opsEnd ?_
  exact Run.pick [0, 3, 4, 18, 24, 213] (z0l F e f g c d Fr0 Hr hdR hhdR v3 p m (decide (m < v3)) o _ _ hH h)
 ·have h := bif_f b h
  refine gn rfl rfl b rfl <| gn rfl rfl b rfl <| gn rfl rfl b rfl <| og (ex_pickF' rfl b rfl rfl) rfl <| Run.opsEnd ?_
  exact Run.pick [0, 3, 4, 18, 24, 213] (z0l F e f g c d Fr0 Hr hdR hhdR v3 p m false o _ _ hH h)

def slices_symMergeCmpFunc_h1_17 (F : Nat) (c d e : Int) (b : List S_api_Glitch) (hdR : Int → Int → Int → List S_api_Glitch → Option ((List S_api_Glitch))) (v1 v3 m q p : Int) (g : Bool) (o : List S_api_Glitch) : Option ((List S_api_Glitch)) :=
 bif g then
  bnd (hdR v1 q m o) fun f =>
  slices_symMergeCmpFunc_h1_18 F c d e b hdR v3 m p f
 else
  slices_symMergeCmpFunc_h1_18 F c d e b hdR v3 m p o

theorem z0j (F : Nat) (d e f : Int) (c : List S_api_Glitch) (b : SV) (Fr0 : Rd) (Hr : List Ent) (hdR : Int → Int → Int → List S_api_Glitch → Option ((List S_api_Glitch))) (hhdR : ∀ (d e f : Int) (c : List S_api_Glitch) (b : SV) (Fr0 : Rd) (Hr : List Ent) (M : Mem) (r : List S_api_Glitch) (hH : Has Fr0 M (([.vec 57 5 c.length b (c.flatMap z03)] : List Ent) ++ Hr)) (h : hdR d e f c = some r), CallsM Tryz.prog 160 [b, (.int .i64 d), (.int .i64 e), (.int .i64 f), (.fn (.func 98) [] [])] M (z00 d e f c b Fr0 Hr r)) : ∀ (v1 v3 u x w : Int) (m : Bool) (o : List S_api_Glitch) (M : Mem) (r : List S_api_Glitch) (hH : Has Fr0 M (([.vec 57 5 o.length b (o.flatMap z03)] : List Ent) ++ Hr)), slices_symMergeCmpFunc_h1_17 F d e f c hdR v1 v3 u x w m o = some r → Run Tryz.prog ⟨⟨160, [], none⟩, []⟩ 220 (z00 d e f c b Fr0 Hr r) [(0, b), (1, (.int .i64 v1)), (3, (.int .i64 v3)), (4, (.fn (.func 98) [] [])), (18, (.int .i64 u)), (20, (.int .i64 x)), (24, (.int .i64 w)), (199, (.bool m))] [codeC Tryz.prog 160 [1, 1, 1, 1, 1, 1, 1, 1, 1, 1, 0, 1], codeC Tryz.prog 160 [1, 1, 1, 1, 1, 1, 1, 1, 1, 1, 1]] M := by
 intro v1 v3 u x w m o M r hH h
 rw [slices_symMergeCmpFunc_h1_17] at h
 rcases btf (m) with g | g
 ·have h := bif_t g h
  refine Run.condT' rfl g <| Run.region <| mv rfl rfl <| mv rfl rfl <| mv rfl rfl <| mv rfl rfl <| mv rfl rfl ?_
  obtain ⟨n, q, h⟩ := bnd_some h
  refine Run.callX wantS_none (ex_call rfl z4r z4p) rfl (hhdR v1 x u o b Fr0 ([] ++ Hr) _ _ hH q) ?_
  rintro _ s ⟨rfl, (p : Has Fr0 s (([.vec 57 5 n.length b (n.flatMap z03)] : List Ent) ++ Hr))⟩
  refine Run.opsEnd (Run.seq (Run.region ?_))
  exact Run.pick [0, 3, 4, 18, 24] (z0k F d e f c b Fr0 Hr hdR hhdR v3 u w n _ _ p h)
 ·have h := bif_f g h
  refine Run.condF' rfl g ?_
  refine Run.skip (Run.seq (Run.region ?_))
  exact Run.pick [0, 3, 4, 18, 24] (z0k F d e f c b Fr0 Hr hdR hhdR v3 u w o _ _ hH h)

def slices_symMergeCmpFunc_h1_16 (F : Nat) (c d e : Int) (b : List S_api_Glitch) (hdR : Int → Int → Int → List S_api_Glitch → Option ((List S_api_Glitch))) (v1 v3 g f o : Int) (m : List S_api_Glitch) : Option ((List S_api_Glitch)) :=
 bif (decide (v1 < f)) then
  slices_symMergeCmpFunc_h1_17 F c d e b hdR v1 v3 g f o (decide (f < g)) m
 else
  slices_symMergeCmpFunc_h1_17 F c d e b hdR v1 v3 g f o false m

theorem z0i (F : Nat) (e f g : Int) (c : List S_api_Glitch) (d : SV) (Fr0 : Rd) (Hr : List Ent) (hdR : Int → Int → Int → List S_api_Glitch → Option ((List S_api_Glitch))) (hhdR : ∀ (e f g : Int) (c : List S_api_Glitch) (d : SV) (Fr0 : Rd) (Hr : List Ent) (M : Mem) (r : List S_api_Glitch) (hH : Has Fr0 M (([.vec 57 5 c.length d (c.flatMap z03)] : List Ent) ++ Hr)) (h : hdR e f g c = some r), CallsM Tryz.prog 160 [d, (.int .i64 e), (.int .i64 f), (.int .i64 g), (.fn (.func 98) [] [])] M (z00 e f g c d Fr0 Hr r)) : ∀ (v1 v3 p m q : Int) (o : List S_api_Glitch) (M : Mem) (r : List S_api_Glitch) (hH : Has Fr0 M (([.vec 57 5 o.length d (o.flatMap z03)] : List Ent) ++ Hr)), slices_symMergeCmpFunc_h1_16 F e f g c hdR v1 v3 p m q o = some r → Run Tryz.prog ⟨⟨160, [], none⟩, []⟩ 220 (z00 e f g c d Fr0 Hr r) [(0, d), (1, (.int .i64 v1)), (3, (.int .i64 v3)), (4, (.fn (.func 98) [] [])), (18, (.int .i64 p)), (20, (.int .i64 m)), (24, (.int .i64 q))] [itemC Tryz.prog 160 [1, 1, 1, 1, 1, 1, 1, 1, 1, 1, 0, 0] 0, codeC Tryz.prog 160 [1, 1, 1, 1, 1, 1, 1, 1, 1, 1, 0, 1], codeC Tryz.prog 160 [1, 1, 1, 1, 1, 1, 1, 1, 1, 1, 1]] M := by
 intro v1 v3 p m q o M r hH h
 rw [slices_symMergeCmpFunc_h1_16] at h
 refine mv rfl rfl <| mv rfl rfl <| og (ex_lss rfl rfl) rfl <| mv rfl rfl ?_
 rcases btf ((decide (v1 < m))) with b | b
 ·have h := bif_t b h
  refine gy rfl rfl b (ex_move rfl) rfl <| gy rfl rfl b (ex_move rfl) rfl <| gy rfl rfl b (ex_lss rfl rfl) rfl <| og (ex_pickT' rfl b rfl rfl) rfl <| Run.opsEnd ?_
  exact Run.pick [0, 1, 3, 4, 18, 20, 24, 199] (z0j F e f g c d Fr0 Hr hdR hhdR v1 v3 p m q (decide (m < p)) o _ _ hH h)
 ·have h := bif_f b h
  refine gn rfl rfl b rfl <| gn rfl rfl b rfl <| gn rfl rfl b rfl <| og (ex_pickF' rfl b rfl rfl) rfl <| Run.opsEnd ?_
  exact Run.pick [0, 1, 3, 4, 18, 20, 24, 199] (z0j F e f g c d Fr0 Hr hdR hhdR v1 v3 p m q false o _ _ hH h)

def slices_symMergeCmpFunc_h1_15 (F : Nat) (m n p : Int) (e : List S_api_Glitch) (hdR : Int → Int → Int → List S_api_Glitch → Option ((List S_api_Glitch))) : Nat → Int → Int → Int → Int → Int → Int → Int → Int → Int → List S_api_Glitch → Option ((List S_api_Glitch))
 | 0, _, _, _, _, _, _, _, _, _, _ => none
 | N + 1, v1, v2, v3, o, f, g, b, c, d, a0 =>
  bif (decide (o < v3)) then
   bnd (idx a0 (w64 (v2 + o))) fun x =>
   bnd (idx a0 (w64 (v1 + o))) fun y =>
   bnd (inn a0 (w64 (v1 + o))) fun u =>
   bnd (upd a0 u x) fun q =>
   bnd (inn q (w64 (v2 + o))) fun w =>
   bnd (upd q w y) fun s =>
   (slices_symMergeCmpFunc_h1_15 F m n p e hdR N) v1 v2 v3 (w64 (o + (1 : Int))) f g b c d s
  else
   slices_symMergeCmpFunc_h1_16 F m n p e hdR f g b c d a0

theorem z0a (F : Nat) (n p q : Int) (c : List S_api_Glitch) (b : SV) (Fr0 : Rd) (Hr : List Ent) (hdR : Int → Int → Int → List S_api_Glitch → Option ((List S_api_Glitch))) (hhdR : ∀ (n p q : Int) (c : List S_api_Glitch) (b : SV) (Fr0 : Rd) (Hr : List Ent) (M : Mem) (r : List S_api_Glitch) (hH : Has Fr0 M (([.vec 57 5 c.length b (c.flatMap z03)] : List Ent) ++ Hr)) (h : hdR n p q c = some r), CallsM Tryz.prog 160 [b, (.int .i64 n), (.int .i64 p), (.int .i64 q), (.fn (.func 98) [] [])] M (z00 n p q c b Fr0 Hr r)) : ∀ (N : Nat), ∀ (v1 v2 v3 c6 g m d e f : Int) (o : List S_api_Glitch) (M : Mem) (r : List S_api_Glitch) (hH : Has Fr0 M (([.vec 57 5 o.length b (o.flatMap z03)] : List Ent) ++ Hr)), slices_symMergeCmpFunc_h1_15 F n p q c hdR N v1 v2 v3 c6 g m d e f o = some r → Run Tryz.prog ⟨⟨241, [], none⟩, [.mk ⟨202, [], none⟩ 58 (treeOf []) [itemC Tryz.prog 202 [1, 1, 1] 7], .mk ⟨160, [], none⟩ 220 (treeOf [(0, b), (1, (.int .i64 g)), (3, (.int .i64 m)), (4, (.fn (.func 98) [] [])), (18, (.int .i64 d)), (20, (.int .i64 e)), (24, (.int .i64 f))]) [itemC Tryz.prog 160 [1, 1, 1, 1, 1, 1, 1, 1, 1, 0, 1, 0] 5, codeC Tryz.prog 160 [1, 1, 1, 1, 1, 1, 1, 1, 1, 1]]]⟩ 38 (z00 n p q c b Fr0 Hr r) [(0, b), (1, (.int .i64 v1)), (2, (.int .i64 v2)), (3, (.int .i64 v3)), (10, (.int .i64 c6))] [codeC Tryz.prog 241 [1, 0, 0], loopC Tryz.prog 241 [1, 0, 0], .inBlock 0] M := by
 intro N
 induction N with
 | zero =>
  intro v1 v2 v3 c6 g m d e f o M r hH h
  simp [slices_symMergeCmpFunc_h1_15] at h
 | succ N ih =>
  intro v1 v2 v3 c6 g m d e f o M r hH h
  rw [slices_symMergeCmpFunc_h1_15] at h
  refine Run.seq (Run.seq (Run.region ?_))
  refine mv rfl rfl <| mv rfl rfl <| og (ex_lss rfl rfl) rfl <| Run.opsEnd ?_
  rcases btf ((decide (c6 < v3))) with s | s
  ·have h := bif_t s h
   refine Run.condT' rfl s ?_
   refine Run.skip (Run.seq (Run.block ?_))
   refine Run.drawG z09 <| df rfl (ex_move rfl) rfl <| df rfl (ex_move rfl) rfl <| df rfl (ex_move rfl) rfl <| df rfl (ex_add rfl rfl) rfl <| df rfl (ex_move rfl) rfl <| df rfl (ex_move rfl) rfl <| df rfl (ex_move rfl) rfl <| df rfl (ex_add rfl rfl) rfl <| df rfl (ex_move rfl) rfl <| df rfl (ex_move rfl) rfl <| df rfl (ex_move rfl) rfl <| df rfl (ex_add rfl rfl) rfl ?_
   obtain ⟨b6, w, h⟩ := bnd_some h
   obtain ⟨c2, b8, a2, w, a6⟩ := vec_elem (P := Tryz.prog) (t := 53) (kk := .i64) hH (i := 0) rfl w z07
   refine df rfl (ex_elX rfl rfl w) rfl <| df rfl (ex_loadA rfl (hH.at (enc := z03) (a := b6) (i := 0) rfl a2 a6 z02) rdLe_rfl z0t rfl rfl rfl) rfl <| df rfl (ex_move rfl) rfl <| df rfl (ex_move rfl) rfl <| df rfl (ex_move rfl) rfl <| df rfl (ex_add rfl rfl) rfl ?_
   obtain ⟨b7, x, h⟩ := bnd_some h
   obtain ⟨c3, b9, a3, x, a7⟩ := vec_elem (P := Tryz.prog) (t := 53) (kk := .i64) hH (i := 0) rfl x z07
   refine df rfl (ex_elX rfl rfl x) rfl <| df rfl (ex_loadA rfl (hH.at (enc := z03) (a := b7) (i := 0) rfl a3 a7 z02) rdLe_rfl z0t rfl rfl rfl) rfl ?_
   obtain ⟨c0, b0, h⟩ := bnd_some h
   obtain ⟨c4, a4, b2⟩ := vec_place (P := Tryz.prog) (t := 53) (kk := .i64) hH (i := 0) rfl b0 z07
   refine df rfl (ex_elX rfl rfl b2) rfl ?_
   obtain ⟨a0, a8, h⟩ := bnd_some h
   refine DrawG.opX rfl wantS_none rfl (ExG.storeEl rfl rfl hH (i := 0) rfl a4 a8 z43 rfl z02 z05) ?_
   rintro _ b4 ⟨rfl, (u : Has Fr0 b4 (([.vec 57 5 a0.length b (a0.flatMap z03)] : List Ent) ++ Hr))⟩
   refine ⟨(st_cons rfl (ev_ex wantS_none (ex_add rfl rfl)) rfl rfl rfl (st_cons rfl (ev_ex wantS_none (ex_move rfl)) rfl rfl rfl (st_cons rfl (ev_ex wantS_none (ex_move rfl)) rfl rfl rfl (st_cons rfl (ev_ex wantS_none (ex_move rfl)) rfl rfl (blk_self u (i := 0) rfl) st_nil)))), ?_⟩
   obtain ⟨c1, b1, h⟩ := bnd_some h
   obtain ⟨c5, a5, b3⟩ := vec_place (P := Tryz.prog) (t := 53) (kk := .i64) u (i := 0) rfl b1 z07
   refine df rfl (ex_elX rfl rfl b3) rfl ?_
   obtain ⟨y, a9, h⟩ := bnd_some h
   refine DrawG.opX rfl wantS_none rfl (ExG.storeEl rfl rfl u (i := 0) rfl a5 a9 z43 rfl z02 z05) ?_
   rintro _ b5 ⟨rfl, (a1 : Has Fr0 b5 (([.vec 57 5 y.length b (y.flatMap z03)] : List Ent) ++ Hr))⟩
   refine ⟨st_nil, ?_⟩
   refine DrawG.sync <| DrawG.nil ?_
   refine Run.inBlock (Run.region ?_)
   refine mv rfl rfl <| og (ex_add rfl rfl) rfl <| av rfl rfl ?_
   refine Run.opsEnd (Run.inLoop ?_)
   exact Run.low (.cons (fle_pick [] rfl) (.cons (fle_pick [0, 1, 3, 4, 18, 20, 24] rfl) .nil)) (Run.pick [0, 1, 2, 3, 10] (ih v1 v2 v3 (w64 (c6 + (1 : Int))) g m d e f y _ _ a1 h))
  ·have h := bif_f s h
   refine Run.condF' rfl s <| Run.exit rfl <| Run.fallTo Tryz.func241 rfl res_nil rfl <| Run.opsEnd <| Run.fallTo Tryz.func202 rfl res_nil rfl ?_
   refine Run.opsEnd (Run.seq (Run.seq (Run.region ?_)))
   exact Run.pick [0, 1, 3, 4, 18, 20, 24] (z0i F n p q c b Fr0 Hr hdR hhdR g m d e f o _ _ hH h)

def slices_symMergeCmpFunc_h1_13 (F : Nat) (m n p : Int) (e : List S_api_Glitch) (q : Int → Int → Int → Int → Int → Int → Int → Int → Int → Int → Int → Int → List S_api_Glitch → Option ((List S_api_Glitch))) (hdR : Int → Int → Int → List S_api_Glitch → Option ((List S_api_Glitch))) : Nat → Int → Int → Int → Int → Int → Int → Int → Int → List S_api_Glitch → Option ((List S_api_Glitch))
 | 0, _, _, _, _, _, _, _, _, _ => none
 | N + 1, v2, o, s, f, g, b, c, d, u =>
  bif (!(o == s)) then
   bif (decide (s < o)) then
    q (w64 (v2 - o)) v2 s (0 : Int) v2 o s f g b c d u
   else
    slices_symMergeCmpFunc_h1_14 F m n p e (slices_symMergeCmpFunc_h1_13 F m n p e q hdR N) F (w64 (v2 - o)) (w64 ((w64 (v2 + s)) - o)) o (0 : Int) v2 o s f g b c d u
  else
   slices_symMergeCmpFunc_h1_15 F m n p e hdR F (w64 (v2 - o)) v2 o (0 : Int) f g b c d u

theorem z1h (F : Nat) (g m n : Int) (c : List S_api_Glitch) (b : SV) (Fr0 : Rd) (Hr : List Ent) (a2 : Int → Int → Int → Int → Int → Int → Int → Int → Int → Int → Int → Int → List S_api_Glitch → Option ((List S_api_Glitch))) (a6 : ∀ (v1 v2 v3 o a4 w x a3 a5 y a0 a1 : Int) (a7 : List S_api_Glitch) (M : Mem) (r : List S_api_Glitch) (hH : Has Fr0 M (([.vec 57 5 a7.length b (a7.flatMap z03)] : List Ent) ++ Hr)), a2 v1 v2 v3 o a4 w x a3 a5 y a0 a1 a7 = some r → Run Tryz.prog ⟨⟨241, [], none⟩, [.mk ⟨202, [], none⟩ 58 (treeOf [(0, b), (2, (.int .i64 a4)), (4, (.fn (.func 98) [] [])), (10, (.int .i64 w)), (11, (.int .i64 x))]) [itemC Tryz.prog 202 [1, 1, 0, 0, 0, 1, 0, 1, 0, 0] 7, codeC Tryz.prog 202 [1, 1, 0, 0, 0, 1, 0, 1, 0, 1], .inBlock 1, loopC Tryz.prog 202 [1, 1, 0, 0, 0], .inBlock 0, codeC Tryz.prog 202 [1, 1, 1]], .mk ⟨160, [], none⟩ 220 (treeOf [(0, b), (1, (.int .i64 a3)), (3, (.int .i64 a5)), (4, (.fn (.func 98) [] [])), (18, (.int .i64 y)), (20, (.int .i64 a0)), (24, (.int .i64 a1))]) [itemC Tryz.prog 160 [1, 1, 1, 1, 1, 1, 1, 1, 1, 0, 1, 0] 5, codeC Tryz.prog 160 [1, 1, 1, 1, 1, 1, 1, 1, 1, 1]]]⟩ 38 (z00 g m n c b Fr0 Hr r) [(0, b), (1, (.int .i64 v1)), (2, (.int .i64 v2)), (3, (.int .i64 v3)), (10, (.int .i64 o))] [codeC Tryz.prog 241 [1, 0, 0], loopC Tryz.prog 241 [1, 0, 0], .inBlock 0] M) (hdR : Int → Int → Int → List S_api_Glitch → Option ((List S_api_Glitch))) (hhdR : ∀ (g m n : Int) (c : List S_api_Glitch) (b : SV) (Fr0 : Rd) (Hr : List Ent) (M : Mem) (r : List S_api_Glitch) (hH : Has Fr0 M (([.vec 57 5 c.length b (c.flatMap z03)] : List Ent) ++ Hr)) (h : hdR g m n c = some r), CallsM Tryz.prog 160 [b, (.int .i64 g), (.int .i64 m), (.int .i64 n), (.fn (.func 98) [] [])] M (z00 g m n c b Fr0 Hr r)) : ∀ (N : Nat), ∀ (v2 o a8 p q d e f : Int) (a7 : List S_api_Glitch) (M : Mem) (r : List S_api_Glitch) (hH : Has Fr0 M (([.vec 57 5 a7.length b (a7.flatMap z03)] : List Ent) ++ Hr)), slices_symMergeCmpFunc_h1_13 F g m n c a2 hdR N v2 o a8 p q d e f a7 = some r → Run Tryz.prog ⟨⟨202, [], none⟩, [.mk ⟨160, [], none⟩ 220 (treeOf [(0, b), (1, (.int .i64 p)), (3, (.int .i64 q)), (4, (.fn (.func 98) [] [])), (18, (.int .i64 d)), (20, (.int .i64 e)), (24, (.int .i64 f))]) [itemC Tryz.prog 160 [1, 1, 1, 1, 1, 1, 1, 1, 1, 0, 1, 0] 5, codeC Tryz.prog 160 [1, 1, 1, 1, 1, 1, 1, 1, 1, 1]]]⟩ 58 (z00 g m n c b Fr0 Hr r) [(0, b), (2, (.int .i64 v2)), (4, (.fn (.func 98) [] [])), (10, (.int .i64 o)), (11, (.int .i64 a8))] [codeC Tryz.prog 202 [1, 1, 0, 0, 0], loopC Tryz.prog 202 [1, 1, 0, 0, 0], .inBlock 0, codeC Tryz.prog 202 [1, 1, 1]] M := by
 intro N
 induction N with
 | zero =>
  intro v2 o a8 p q d e f a7 M r hH h
  simp [slices_symMergeCmpFunc_h1_13] at h
 | succ N ih =>
  intro v2 o a8 p q d e f a7 M r hH h
  rw [slices_symMergeCmpFunc_h1_13] at h
  refine Run.seq (Run.seq (Run.region ?_))
  refine mv rfl rfl <| mv rfl rfl <| og (ex_neq rfl rfl) rfl <| Run.opsEnd ?_
  rcases btf ((!(o == a8))) with s | s
  ·have h := bif_t s h
   refine Run.condT' rfl s ?_
   refine Run.skip (Run.block (Run.seq (Run.region ?_)))
   refine mv rfl rfl <| mv rfl rfl <| og (ex_gtr rfl rfl) rfl <| Run.opsEnd ?_
   rcases btf ((decide (a8 < o))) with u | u
   ·have h := bif_t u h
    refine Run.condT' rfl u ?_
    refine Run.seq (Run.region ?_)
    refine mv rfl rfl <| mv rfl rfl <| mv rfl rfl <| og (ex_sub rfl rfl) rfl <| mv rfl rfl <| mv rfl rfl <| mv rfl rfl <| Run.enter wantS_none (ex_call rfl z3o z3i) Tryz.func241 rfl rfl ?_
    refine Run.seq (Run.region ?_)
    refine av rfl rfl ?_
    refine Run.opsEnd (Run.block (Run.loop ?_))
    exact Run.low (.cons (fle_pick [0, 2, 4, 10, 11] rfl) (.cons (fle_pick [0, 1, 3, 4, 18, 20, 24] rfl) .nil)) (Run.pick [0, 1, 2, 3, 10] (a6 (w64 (v2 - o)) v2 a8 (0 : Int) v2 o a8 p q d e f a7 _ _ hH h))
   ·have h := bif_f u h
    refine Run.condF' rfl u ?_
    refine Run.seq (Run.region ?_)
    refine mv rfl rfl <| mv rfl rfl <| mv rfl rfl <| og (ex_sub rfl rfl) rfl <| mv rfl rfl <| mv rfl rfl <| og (ex_add rfl rfl) rfl <| mv rfl rfl <| og (ex_sub rfl rfl) rfl <| mv rfl rfl <| mv rfl rfl <| Run.enter wantS_none (ex_call rfl z3o z3i) Tryz.func241 rfl rfl ?_
    refine Run.seq (Run.region ?_)
    refine av rfl rfl ?_
    refine Run.opsEnd (Run.block (Run.loop ?_))
    exact Run.low (.cons (fle_pick [0, 2, 4, 10, 11] rfl) (.cons (fle_pick [0, 1, 3, 4, 18, 20, 24] rfl) .nil)) (Run.pick [0, 1, 2, 3, 10] (z1i F g m n c b Fr0 Hr (slices_symMergeCmpFunc_h1_13 F g m n c a2 hdR N) ih F (w64 (v2 - o)) (w64 ((w64 (v2 + a8)) - o)) o (0 : Int) v2 o a8 p q d e f a7 _ _ hH h))
  ·have h := bif_f s h
   refine Run.condF' rfl s ?_
   refine Run.exit rfl (Run.region ?_)
   refine mv rfl rfl <| mv rfl rfl <| mv rfl rfl <| og (ex_sub rfl rfl) rfl <| mv rfl rfl <| mv rfl rfl <| mv rfl rfl <| Run.enter wantS_none (ex_call rfl z3o z3i) Tryz.func241 rfl rfl ?_
   refine Run.seq (Run.region ?_)
   refine av rfl rfl ?_
   refine Run.opsEnd (Run.block (Run.loop ?_))
   exact Run.low (.cons (fle_pick [] rfl) (.cons (fle_pick [0, 1, 3, 4, 18, 20, 24] rfl) .nil)) (Run.pick [0, 1, 2, 3, 10] (z0a F g m n c b Fr0 Hr hdR hhdR F (w64 (v2 - o)) v2 o (0 : Int) p q d e f a7 _ _ hH h))

def slices_symMergeCmpFunc_h1_12 (F : Nat) (m n p : Int) (c : List S_api_Glitch) (hdR : Int → Int → Int → List S_api_Glitch → Option ((List S_api_Glitch))) : Nat → Int → Int → Int → Int → Int → Int → Int → Int → Int → Int → Int → Int → List S_api_Glitch → Option ((List S_api_Glitch))
 | 0, _, _, _, _, _, _, _, _, _, _, _, _, _ => none
 | N + 1, v1, v2, v3, o, s, d, b, q, u, e, f, g, a3 =>
  bif (decide (o < v3)) then
   bnd (idx a3 (w64 (v2 + o))) fun a1 =>
   bnd (idx a3 (w64 (v1 + o))) fun a2 =>
   bnd (inn a3 (w64 (v1 + o))) fun y =>
   bnd (upd a3 y a1) fun w =>
   bnd (inn w (w64 (v2 + o))) fun a0 =>
   bnd (upd w a0 a2) fun x =>
   (slices_symMergeCmpFunc_h1_12 F m n p c hdR N) v1 v2 v3 (w64 (o + (1 : Int))) s d b q u e f g x
  else
   slices_symMergeCmpFunc_h1_13 F m n p c (slices_symMergeCmpFunc_h1_12 F m n p c hdR N) hdR F s (w64 (d - b)) b q u e f g a3

theorem z0h (F : Nat) (n p q : Int) (c : List S_api_Glitch) (b : SV) (Fr0 : Rd) (Hr : List Ent) (hdR : Int → Int → Int → List S_api_Glitch → Option ((List S_api_Glitch))) (hhdR : ∀ (n p q : Int) (c : List S_api_Glitch) (b : SV) (Fr0 : Rd) (Hr : List Ent) (M : Mem) (r : List S_api_Glitch) (hH : Has Fr0 M (([.vec 57 5 c.length b (c.flatMap z03)] : List Ent) ++ Hr)) (h : hdR n p q c = some r), CallsM Tryz.prog 160 [b, (.int .i64 n), (.int .i64 p), (.int .i64 q), (.fn (.func 98) [] [])] M (z00 n p q c b Fr0 Hr r)) : ∀ (N : Nat), ∀ (v1 v2 v3 c9 u e d s w f g m : Int) (o : List S_api_Glitch) (M : Mem) (r : List S_api_Glitch) (hH : Has Fr0 M (([.vec 57 5 o.length b (o.flatMap z03)] : List Ent) ++ Hr)), slices_symMergeCmpFunc_h1_12 F n p q c hdR N v1 v2 v3 c9 u e d s w f g m o = some r → Run Tryz.prog ⟨⟨241, [], none⟩, [.mk ⟨202, [], none⟩ 58 (treeOf [(0, b), (2, (.int .i64 u)), (4, (.fn (.func 98) [] [])), (10, (.int .i64 e)), (11, (.int .i64 d))]) [itemC Tryz.prog 202 [1, 1, 0, 0, 0, 1, 0, 1, 0, 0] 7, codeC Tryz.prog 202 [1, 1, 0, 0, 0, 1, 0, 1, 0, 1], .inBlock 1, loopC Tryz.prog 202 [1, 1, 0, 0, 0], .inBlock 0, codeC Tryz.prog 202 [1, 1, 1]], .mk ⟨160, [], none⟩ 220 (treeOf [(0, b), (1, (.int .i64 s)), (3, (.int .i64 w)), (4, (.fn (.func 98) [] [])), (18, (.int .i64 f)), (20, (.int .i64 g)), (24, (.int .i64 m))]) [itemC Tryz.prog 160 [1, 1, 1, 1, 1, 1, 1, 1, 1, 0, 1, 0] 5, codeC Tryz.prog 160 [1, 1, 1, 1, 1, 1, 1, 1, 1, 1]]]⟩ 38 (z00 n p q c b Fr0 Hr r) [(0, b), (1, (.int .i64 v1)), (2, (.int .i64 v2)), (3, (.int .i64 v3)), (10, (.int .i64 c9))] [codeC Tryz.prog 241 [1, 0, 0], loopC Tryz.prog 241 [1, 0, 0], .inBlock 0] M := by
 intro N
 induction N with
 | zero =>
  intro v1 v2 v3 c9 u e d s w f g m o M r hH h
  simp [slices_symMergeCmpFunc_h1_12] at h
 | succ N ih =>
  intro v1 v2 v3 c9 u e d s w f g m o M r hH h
  rw [slices_symMergeCmpFunc_h1_12] at h
  refine Run.seq (Run.seq (Run.region ?_))
  refine mv rfl rfl <| mv rfl rfl <| og (ex_lss rfl rfl) rfl <| Run.opsEnd ?_
  rcases btf ((decide (c9 < v3))) with x | x
  ·have h := bif_t x h
   refine Run.condT' rfl x ?_
   refine Run.skip (Run.seq (Run.block ?_))
   refine Run.drawG z09 <| df rfl (ex_move rfl) rfl <| df rfl (ex_move rfl) rfl <| df rfl (ex_move rfl) rfl <| df rfl (ex_add rfl rfl) rfl <| df rfl (ex_move rfl) rfl <| df rfl (ex_move rfl) rfl <| df rfl (ex_move rfl) rfl <| df rfl (ex_add rfl rfl) rfl <| df rfl (ex_move rfl) rfl <| df rfl (ex_move rfl) rfl <| df rfl (ex_move rfl) rfl <| df rfl (ex_add rfl rfl) rfl ?_
   obtain ⟨b9, a0, h⟩ := bnd_some h
   obtain ⟨c5, c1, a5, a0, a9⟩ := vec_elem (P := Tryz.prog) (t := 53) (kk := .i64) hH (i := 0) rfl a0 z07
   refine df rfl (ex_elX rfl rfl a0) rfl <| df rfl (ex_loadA rfl (hH.at (enc := z03) (a := b9) (i := 0) rfl a5 a9 z02) rdLe_rfl z0t rfl rfl rfl) rfl <| df rfl (ex_move rfl) rfl <| df rfl (ex_move rfl) rfl <| df rfl (ex_move rfl) rfl <| df rfl (ex_add rfl rfl) rfl ?_
   obtain ⟨c0, a1, h⟩ := bnd_some h
   obtain ⟨c6, c2, a6, a1, b0⟩ := vec_elem (P := Tryz.prog) (t := 53) (kk := .i64) hH (i := 0) rfl a1 z07
   refine df rfl (ex_elX rfl rfl a1) rfl <| df rfl (ex_loadA rfl (hH.at (enc := z03) (a := c0) (i := 0) rfl a6 b0 z02) rdLe_rfl z0t rfl rfl rfl) rfl ?_
   obtain ⟨c3, b3, h⟩ := bnd_some h
   obtain ⟨c7, a7, b5⟩ := vec_place (P := Tryz.prog) (t := 53) (kk := .i64) hH (i := 0) rfl b3 z07
   refine df rfl (ex_elX rfl rfl b5) rfl ?_
   obtain ⟨a3, b1, h⟩ := bnd_some h
   refine DrawG.opX rfl wantS_none rfl (ExG.storeEl rfl rfl hH (i := 0) rfl a7 b1 z43 rfl z02 z05) ?_
   rintro _ b7 ⟨rfl, (y : Has Fr0 b7 (([.vec 57 5 a3.length b (a3.flatMap z03)] : List Ent) ++ Hr))⟩
   refine ⟨(st_cons rfl (ev_ex wantS_none (ex_add rfl rfl)) rfl rfl rfl (st_cons rfl (ev_ex wantS_none (ex_move rfl)) rfl rfl rfl (st_cons rfl (ev_ex wantS_none (ex_move rfl)) rfl rfl rfl (st_cons rfl (ev_ex wantS_none (ex_move rfl)) rfl rfl (blk_self y (i := 0) rfl) st_nil)))), ?_⟩
   obtain ⟨c4, b4, h⟩ := bnd_some h
   obtain ⟨c8, a8, b6⟩ := vec_place (P := Tryz.prog) (t := 53) (kk := .i64) y (i := 0) rfl b4 z07
   refine df rfl (ex_elX rfl rfl b6) rfl ?_
   obtain ⟨a2, b2, h⟩ := bnd_some h
   refine DrawG.opX rfl wantS_none rfl (ExG.storeEl rfl rfl y (i := 0) rfl a8 b2 z43 rfl z02 z05) ?_
   rintro _ b8 ⟨rfl, (a4 : Has Fr0 b8 (([.vec 57 5 a2.length b (a2.flatMap z03)] : List Ent) ++ Hr))⟩
   refine ⟨st_nil, ?_⟩
   refine DrawG.sync <| DrawG.nil ?_
   refine Run.inBlock (Run.region ?_)
   refine mv rfl rfl <| og (ex_add rfl rfl) rfl <| av rfl rfl ?_
   refine Run.opsEnd (Run.inLoop ?_)
   exact Run.low (.cons (fle_pick [0, 2, 4, 10, 11] rfl) (.cons (fle_pick [0, 1, 3, 4, 18, 20, 24] rfl) .nil)) (Run.pick [0, 1, 2, 3, 10] (ih v1 v2 v3 (w64 (c9 + (1 : Int))) u e d s w f g m a2 _ _ a4 h))
  ·have h := bif_f x h
   refine Run.condF' rfl x <| Run.exit rfl <| Run.fallTo Tryz.func241 rfl res_nil rfl ?_
   refine Run.opsEnd (Run.region ?_)
   refine mv rfl rfl <| mv rfl rfl <| og (ex_sub rfl rfl) rfl <| av rfl rfl ?_
   refine Run.opsEnd (Run.inBlock (Run.inLoop ?_))
   exact Run.low (.cons (fle_pick [0, 1, 3, 4, 18, 20, 24] rfl) .nil) (Run.pick [0, 2, 4, 10, 11] (z1h F n p q c b Fr0 Hr (slices_symMergeCmpFunc_h1_12 F n p q c hdR N) ih hdR hhdR F u (w64 (e - d)) d s w f g m o _ _ hH h))

def slices_symMergeCmpFunc_h1_11 (F : Nat) (s u w : Int) (b : List S_api_Glitch) (x : Int → Int → Int → Int → Int → Int → Int → Int → Option ((List S_api_Glitch))) (hdR : Int → Int → Int → List S_api_Glitch → Option ((List S_api_Glitch))) : Nat → Int → Int → Int → Int → Int → Int → Int → Int → Int → Int → Int → Int → Option ((List S_api_Glitch))
 | 0, _, _, _, _, _, _, _, _, _, _, _, _ => none
 | N + 1, v1, v2, v3, o, n, d, c, m, p, e, f, g =>
  bif (decide (o < v3)) then
   bnd (idx b (w64 (v2 + o))) fun a2 =>
   bnd (idx b (w64 (v1 + o))) fun a3 =>
   bnd (inn b (w64 (v1 + o))) fun a0 =>
   bnd (upd b a0 a2) fun q =>
   bnd (inn q (w64 (v2 + o))) fun a1 =>
   bnd (upd q a1 a3) fun y =>
   slices_symMergeCmpFunc_h1_12 F s u w b hdR F v1 v2 v3 (w64 (o + (1 : Int))) n d c m p e f g y
  else
   x n (w64 (d - c)) c m p e f g

theorem z1g (F : Nat) (n p q : Int) (c : List S_api_Glitch) (b : SV) (Fr0 : Rd) (Hr : List Ent) (a8 : Int → Int → Int → Int → Int → Int → Int → Int → Option ((List S_api_Glitch))) (b7 : ∀ (v2 o d6 a6 a7 a2 a3 a4 : Int) (M : Mem) (r : List S_api_Glitch) (hH : Has Fr0 M (([.vec 57 5 c.length b (c.flatMap z03)] : List Ent) ++ Hr)), a8 v2 o d6 a6 a7 a2 a3 a4 = some r → Run Tryz.prog ⟨⟨202, [], none⟩, [.mk ⟨160, [], none⟩ 220 (treeOf [(0, b), (1, (.int .i64 a6)), (3, (.int .i64 a7)), (4, (.fn (.func 98) [] [])), (18, (.int .i64 a2)), (20, (.int .i64 a3)), (24, (.int .i64 a4))]) [itemC Tryz.prog 160 [1, 1, 1, 1, 1, 1, 1, 1, 1, 0, 1, 0] 5, codeC Tryz.prog 160 [1, 1, 1, 1, 1, 1, 1, 1, 1, 1]]]⟩ 58 (z00 n p q c b Fr0 Hr r) [(0, b), (2, (.int .i64 v2)), (4, (.fn (.func 98) [] [])), (10, (.int .i64 o)), (11, (.int .i64 d6))] [codeC Tryz.prog 202 [1, 1, 0, 0, 0], loopC Tryz.prog 202 [1, 1, 0, 0, 0], .inBlock 0, codeC Tryz.prog 202 [1, 1, 1]] M) (hdR : Int → Int → Int → List S_api_Glitch → Option ((List S_api_Glitch))) (hhdR : ∀ (n p q : Int) (c : List S_api_Glitch) (b : SV) (Fr0 : Rd) (Hr : List Ent) (M : Mem) (r : List S_api_Glitch) (hH : Has Fr0 M (([.vec 57 5 c.length b (c.flatMap z03)] : List Ent) ++ Hr)) (h : hdR n p q c = some r), CallsM Tryz.prog 160 [b, (.int .i64 n), (.int .i64 p), (.int .i64 q), (.fn (.func 98) [] [])] M (z00 n p q c b Fr0 Hr r)) : ∀ (N : Nat), ∀ (v1 v2 v3 o u e d s w f g m : Int) (M : Mem) (r : List S_api_Glitch) (hH : Has Fr0 M (([.vec 57 5 c.length b (c.flatMap z03)] : List Ent) ++ Hr)), slices_symMergeCmpFunc_h1_11 F n p q c a8 hdR N v1 v2 v3 o u e d s w f g m = some r → Run Tryz.prog ⟨⟨241, [], none⟩, [.mk ⟨202, [], none⟩ 58 (treeOf [(0, b), (2, (.int .i64 u)), (4, (.fn (.func 98) [] [])), (10, (.int .i64 e)), (11, (.int .i64 d))]) [itemC Tryz.prog 202 [1, 1, 0, 0, 0, 1, 0, 1, 0, 0] 7, codeC Tryz.prog 202 [1, 1, 0, 0, 0, 1, 0, 1, 0, 1], .inBlock 1, loopC Tryz.prog 202 [1, 1, 0, 0, 0], .inBlock 0, codeC Tryz.prog 202 [1, 1, 1]], .mk ⟨160, [], none⟩ 220 (treeOf [(0, b), (1, (.int .i64 s)), (3, (.int .i64 w)), (4, (.fn (.func 98) [] [])), (18, (.int .i64 f)), (20, (.int .i64 g)), (24, (.int .i64 m))]) [itemC Tryz.prog 160 [1, 1, 1, 1, 1, 1, 1, 1, 1, 0, 1, 0] 5, codeC Tryz.prog 160 [1, 1, 1, 1, 1, 1, 1, 1, 1, 1]]]⟩ 38 (z00 n p q c b Fr0 Hr r) [(0, b), (1, (.int .i64 v1)), (2, (.int .i64 v2)), (3, (.int .i64 v3)), (10, (.int .i64 o))] [codeC Tryz.prog 241 [1, 0, 0], loopC Tryz.prog 241 [1, 0, 0], .inBlock 0] M := by
 intro N
 induction N with
 | zero =>
  intro v1 v2 v3 o u e d s w f g m M r hH h
  simp [slices_symMergeCmpFunc_h1_11] at h
 | succ N ih =>
  intro v1 v2 v3 o u e d s w f g m M r hH h
  rw [slices_symMergeCmpFunc_h1_11] at h
  refine Run.seq (Run.seq (Run.region ?_))
  refine mv rfl rfl <| mv rfl rfl <| og (ex_lss rfl rfl) rfl <| Run.opsEnd ?_
  rcases btf ((decide (o < v3))) with x | x
  ·have h := bif_t x h
   refine Run.condT' rfl x ?_
   refine Run.skip (Run.seq (Run.block ?_))
   refine Run.drawG z09 <| df rfl (ex_move rfl) rfl <| df rfl (ex_move rfl) rfl <| df rfl (ex_move rfl) rfl <| df rfl (ex_add rfl rfl) rfl <| df rfl (ex_move rfl) rfl <| df rfl (ex_move rfl) rfl <| df rfl (ex_move rfl) rfl <| df rfl (ex_add rfl rfl) rfl <| df rfl (ex_move rfl) rfl <| df rfl (ex_move rfl) rfl <| df rfl (ex_move rfl) rfl <| df rfl (ex_add rfl rfl) rfl ?_
   obtain ⟨c6, a0, h⟩ := bnd_some h
   obtain ⟨d2, c8, b1, a0, b5⟩ := vec_elem (P := Tryz.prog) (t := 53) (kk := .i64) hH (i := 0) rfl a0 z07
   refine df rfl (ex_elX rfl rfl a0) rfl <| df rfl (ex_loadA rfl (hH.at (enc := z03) (a := c6) (i := 0) rfl b1 b5 z02) rdLe_rfl z0t rfl rfl rfl) rfl <| df rfl (ex_move rfl) rfl <| df rfl (ex_move rfl) rfl <| df rfl (ex_move rfl) rfl <| df rfl (ex_add rfl rfl) rfl ?_
   obtain ⟨c7, a1, h⟩ := bnd_some h
   obtain ⟨d3, c9, b2, a1, b6⟩ := vec_elem (P := Tryz.prog) (t := 53) (kk := .i64) hH (i := 0) rfl a1 z07
   refine df rfl (ex_elX rfl rfl a1) rfl <| df rfl (ex_loadA rfl (hH.at (enc := z03) (a := c7) (i := 0) rfl b2 b6 z02) rdLe_rfl z0t rfl rfl rfl) rfl ?_
   obtain ⟨d0, c0, h⟩ := bnd_some h
   obtain ⟨d4, b3, c2⟩ := vec_place (P := Tryz.prog) (t := 53) (kk := .i64) hH (i := 0) rfl c0 z07
   refine df rfl (ex_elX rfl rfl c2) rfl ?_
   obtain ⟨a9, b8, h⟩ := bnd_some h
   refine DrawG.opX rfl wantS_none rfl (ExG.storeEl rfl rfl hH (i := 0) rfl b3 b8 z43 rfl z02 z05) ?_
   rintro _ c4 ⟨rfl, (y : Has Fr0 c4 (([.vec 57 5 a9.length b (a9.flatMap z03)] : List Ent) ++ Hr))⟩
   refine ⟨(st_cons rfl (ev_ex wantS_none (ex_add rfl rfl)) rfl rfl rfl (st_cons rfl (ev_ex wantS_none (ex_move rfl)) rfl rfl rfl (st_cons rfl (ev_ex wantS_none (ex_move rfl)) rfl rfl rfl (st_cons rfl (ev_ex wantS_none (ex_move rfl)) rfl rfl (blk_self y (i := 0) rfl) st_nil)))), ?_⟩
   obtain ⟨d1, c1, h⟩ := bnd_some h
   obtain ⟨d5, b4, c3⟩ := vec_place (P := Tryz.prog) (t := 53) (kk := .i64) y (i := 0) rfl c1 z07
   refine df rfl (ex_elX rfl rfl c3) rfl ?_
   obtain ⟨a5, b9, h⟩ := bnd_some h
   refine DrawG.opX rfl wantS_none rfl (ExG.storeEl rfl rfl y (i := 0) rfl b4 b9 z43 rfl z02 z05) ?_
   rintro _ c5 ⟨rfl, (b0 : Has Fr0 c5 (([.vec 57 5 a5.length b (a5.flatMap z03)] : List Ent) ++ Hr))⟩
   refine ⟨st_nil, ?_⟩
   refine DrawG.sync <| DrawG.nil ?_
   refine Run.inBlock (Run.region ?_)
   refine mv rfl rfl <| og (ex_add rfl rfl) rfl <| av rfl rfl ?_
   refine Run.opsEnd (Run.inLoop ?_)
   exact Run.low (.cons (fle_pick [0, 2, 4, 10, 11] rfl) (.cons (fle_pick [0, 1, 3, 4, 18, 20, 24] rfl) .nil)) (Run.pick [0, 1, 2, 3, 10] (z0h F n p q c b Fr0 Hr hdR hhdR F v1 v2 v3 (w64 (o + (1 : Int))) u e d s w f g m a5 _ _ b0 h))
  ·have h := bif_f x h
   refine Run.condF' rfl x <| Run.exit rfl <| Run.fallTo Tryz.func241 rfl res_nil rfl ?_
   refine Run.opsEnd (Run.region ?_)
   refine mv rfl rfl <| mv rfl rfl <| og (ex_sub rfl rfl) rfl <| av rfl rfl ?_
   refine Run.opsEnd (Run.inBlock (Run.inLoop ?_))
   exact Run.low (.cons (fle_pick [0, 1, 3, 4, 18, 20, 24] rfl) .nil) (Run.pick [0, 2, 4, 10, 11] (b7 u (w64 (e - d)) d s w f g m _ _ hH h))

def slices_symMergeCmpFunc_h1_22 (F : Nat) (m n p : Int) (g : List S_api_Glitch) (q : Int → Int → Int → Int → Int → Int → Int → Int → Int → Int → Int → Int → List S_api_Glitch → Option ((List S_api_Glitch))) (hdR : Int → Int → Int → List S_api_Glitch → Option ((List S_api_Glitch))) : Nat → Int → Int → Int → Int → Int → Int → Int → Int → List S_api_Glitch → Option ((List S_api_Glitch))
 | 0, _, _, _, _, _, _, _, _, _ => none
 | N + 1, v2, o, s, e, f, b, c, d, u =>
  bif (!(o == s)) then
   bif (decide (s < o)) then
    slices_symMergeCmpFunc_h1_12 F m n p g hdR F (w64 (v2 - o)) v2 s (0 : Int) v2 o s e f b c d u
   else
    q (w64 (v2 - o)) (w64 ((w64 (v2 + s)) - o)) o (0 : Int) v2 o s e f b c d u
  else
   slices_symMergeCmpFunc_h1_15 F m n p g hdR F (w64 (v2 - o)) v2 o (0 : Int) e f b c d u

theorem z1l (F : Nat) (g m n : Int) (c : List S_api_Glitch) (b : SV) (Fr0 : Rd) (Hr : List Ent) (a5 : Int → Int → Int → Int → Int → Int → Int → Int → Int → Int → Int → Int → List S_api_Glitch → Option ((List S_api_Glitch))) (a6 : ∀ (v1 v2 v3 o a3 w x a2 a4 y a0 a1 : Int) (a7 : List S_api_Glitch) (M : Mem) (r : List S_api_Glitch) (hH : Has Fr0 M (([.vec 57 5 a7.length b (a7.flatMap z03)] : List Ent) ++ Hr)), a5 v1 v2 v3 o a3 w x a2 a4 y a0 a1 a7 = some r → Run Tryz.prog ⟨⟨241, [], none⟩, [.mk ⟨202, [], none⟩ 58 (treeOf [(0, b), (2, (.int .i64 a3)), (4, (.fn (.func 98) [] [])), (10, (.int .i64 w)), (11, (.int .i64 x))]) [itemC Tryz.prog 202 [1, 1, 0, 0, 0, 1, 0, 1, 1, 0] 11, codeC Tryz.prog 202 [1, 1, 0, 0, 0, 1, 0, 1, 1, 1], .inBlock 1, loopC Tryz.prog 202 [1, 1, 0, 0, 0], .inBlock 0, codeC Tryz.prog 202 [1, 1, 1]], .mk ⟨160, [], none⟩ 220 (treeOf [(0, b), (1, (.int .i64 a2)), (3, (.int .i64 a4)), (4, (.fn (.func 98) [] [])), (18, (.int .i64 y)), (20, (.int .i64 a0)), (24, (.int .i64 a1))]) [itemC Tryz.prog 160 [1, 1, 1, 1, 1, 1, 1, 1, 1, 0, 1, 0] 5, codeC Tryz.prog 160 [1, 1, 1, 1, 1, 1, 1, 1, 1, 1]]]⟩ 38 (z00 g m n c b Fr0 Hr r) [(0, b), (1, (.int .i64 v1)), (2, (.int .i64 v2)), (3, (.int .i64 v3)), (10, (.int .i64 o))] [codeC Tryz.prog 241 [1, 0, 0], loopC Tryz.prog 241 [1, 0, 0], .inBlock 0] M) (hdR : Int → Int → Int → List S_api_Glitch → Option ((List S_api_Glitch))) (hhdR : ∀ (g m n : Int) (c : List S_api_Glitch) (b : SV) (Fr0 : Rd) (Hr : List Ent) (M : Mem) (r : List S_api_Glitch) (hH : Has Fr0 M (([.vec 57 5 c.length b (c.flatMap z03)] : List Ent) ++ Hr)) (h : hdR g m n c = some r), CallsM Tryz.prog 160 [b, (.int .i64 g), (.int .i64 m), (.int .i64 n), (.fn (.func 98) [] [])] M (z00 g m n c b Fr0 Hr r)) : ∀ (N : Nat), ∀ (v2 o a8 p q d e f : Int) (a7 : List S_api_Glitch) (M : Mem) (r : List S_api_Glitch) (hH : Has Fr0 M (([.vec 57 5 a7.length b (a7.flatMap z03)] : List Ent) ++ Hr)), slices_symMergeCmpFunc_h1_22 F g m n c a5 hdR N v2 o a8 p q d e f a7 = some r → Run Tryz.prog ⟨⟨202, [], none⟩, [.mk ⟨160, [], none⟩ 220 (treeOf [(0, b), (1, (.int .i64 p)), (3, (.int .i64 q)), (4, (.fn (.func 98) [] [])), (18, (.int .i64 d)), (20, (.int .i64 e)), (24, (.int .i64 f))]) [itemC Tryz.prog 160 [1, 1, 1, 1, 1, 1, 1, 1, 1, 0, 1, 0] 5, codeC Tryz.prog 160 [1, 1, 1, 1, 1, 1, 1, 1, 1, 1]]]⟩ 58 (z00 g m n c b Fr0 Hr r) [(0, b), (2, (.int .i64 v2)), (4, (.fn (.func 98) [] [])), (10, (.int .i64 o)), (11, (.int .i64 a8))] [codeC Tryz.prog 202 [1, 1, 0, 0, 0], loopC Tryz.prog 202 [1, 1, 0, 0, 0], .inBlock 0, codeC Tryz.prog 202 [1, 1, 1]] M := by
 intro N
 induction N with
 | zero =>
  intro v2 o a8 p q d e f a7 M r hH h
  simp [slices_symMergeCmpFunc_h1_22] at h
 | succ N ih =>
  intro v2 o a8 p q d e f a7 M r hH h
  rw [slices_symMergeCmpFunc_h1_22] at h
  refine Run.seq (Run.seq (Run.region ?_))
  refine mv rfl rfl <| mv rfl rfl <| og (ex_neq rfl rfl) rfl <| Run.opsEnd ?_
  rcases btf ((!(o == a8))) with s | s
  ·have h := bif_t s h
   refine Run.condT' rfl s ?_
   refine Run.skip (Run.block (Run.seq (Run.region ?_)))
   refine mv rfl rfl <| mv rfl rfl <| og (ex_gtr rfl rfl) rfl <| Run.opsEnd ?_
   rcases btf ((decide (a8 < o))) with u | u
   ·have h := bif_t u h
    refine Run.condT' rfl u ?_
    refine Run.seq (Run.region ?_)
    refine mv rfl rfl <| mv rfl rfl <| mv rfl rfl <| og (ex_sub rfl rfl) rfl <| mv rfl rfl <| mv rfl rfl <| mv rfl rfl <| Run.enter wantS_none (ex_call rfl z3o z3i) Tryz.func241 rfl rfl ?_
    refine Run.seq (Run.region ?_)
    refine av rfl rfl ?_
    refine Run.opsEnd (Run.block (Run.loop ?_))
    exact Run.low (.cons (fle_pick [0, 2, 4, 10, 11] rfl) (.cons (fle_pick [0, 1, 3, 4, 18, 20, 24] rfl) .nil)) (Run.pick [0, 1, 2, 3, 10] (z0h F g m n c b Fr0 Hr hdR hhdR F (w64 (v2 - o)) v2 a8 (0 : Int) v2 o a8 p q d e f a7 _ _ hH h))
   ·have h := bif_f u h
    refine Run.condF' rfl u ?_
    refine Run.seq (Run.region ?_)
    refine mv rfl rfl <| mv rfl rfl <| mv rfl rfl <| og (ex_sub rfl rfl) rfl <| mv rfl rfl <| mv rfl rfl <| og (ex_add rfl rfl) rfl <| mv rfl rfl <| og (ex_sub rfl rfl) rfl <| mv rfl rfl <| mv rfl rfl <| Run.enter wantS_none (ex_call rfl z3o z3i) Tryz.func241 rfl rfl ?_
    refine Run.seq (Run.region ?_)
    refine av rfl rfl ?_
    refine Run.opsEnd (Run.block (Run.loop ?_))
    exact Run.low (.cons (fle_pick [0, 2, 4, 10, 11] rfl) (.cons (fle_pick [0, 1, 3, 4, 18, 20, 24] rfl) .nil)) (Run.pick [0, 1, 2, 3, 10] (a6 (w64 (v2 - o)) (w64 ((w64 (v2 + a8)) - o)) o (0 : Int) v2 o a8 p q d e f a7 _ _ hH h))
  ·have h := bif_f s h
   refine Run.condF' rfl s ?_
   refine Run.exit rfl (Run.region ?_)
   refine mv rfl rfl <| mv rfl rfl <| mv rfl rfl <| og (ex_sub rfl rfl) rfl <| mv rfl rfl <| mv rfl rfl <| mv rfl rfl <| Run.enter wantS_none (ex_call rfl z3o z3i) Tryz.func241 rfl rfl ?_
   refine Run.seq (Run.region ?_)
   refine av rfl rfl ?_
   refine Run.opsEnd (Run.block (Run.loop ?_))
   exact Run.low (.cons (fle_pick [] rfl) (.cons (fle_pick [0, 1, 3, 4, 18, 20, 24] rfl) .nil)) (Run.pick [0, 1, 2, 3, 10] (z0a F g m n c b Fr0 Hr hdR hhdR F (w64 (v2 - o)) v2 o (0 : Int) p q d e f a7 _ _ hH h))

def slices_symMergeCmpFunc_h1_21 (F : Nat) (m n p : Int) (c : List S_api_Glitch) (hdR : Int → Int → Int → List S_api_Glitch → Option ((List S_api_Glitch))) : Nat → Int → Int → Int → Int → Int → Int → Int → Int → Int → Int → Int → Int → List S_api_Glitch → Option ((List S_api_Glitch))
 | 0, _, _, _, _, _, _, _, _, _, _, _, _, _ => none
 | N + 1, v1, v2, v3, o, s, b, d, q, u, e, f, g, a3 =>
  bif (decide (o < v3)) then
   bnd (idx a3 (w64 (v2 + o))) fun a1 =>
   bnd (idx a3 (w64 (v1 + o))) fun a2 =>
   bnd (inn a3 (w64 (v1 + o))) fun y =>
   bnd (upd a3 y a1) fun w =>
   bnd (inn w (w64 (v2 + o))) fun a0 =>
   bnd (upd w a0 a2) fun x =>
   (slices_symMergeCmpFunc_h1_21 F m n p c hdR N) v1 v2 v3 (w64 (o + (1 : Int))) s b d q u e f g x
  else
   slices_symMergeCmpFunc_h1_22 F m n p c (slices_symMergeCmpFunc_h1_21 F m n p c hdR N) hdR F s b (w64 (d - b)) q u e f g a3

theorem z1k (F : Nat) (n p q : Int) (c : List S_api_Glitch) (b : SV) (Fr0 : Rd) (Hr : List Ent) (hdR : Int → Int → Int → List S_api_Glitch → Option ((List S_api_Glitch))) (hhdR : ∀ (n p q : Int) (c : List S_api_Glitch) (b : SV) (Fr0 : Rd) (Hr : List Ent) (M : Mem) (r : List S_api_Glitch) (hH : Has Fr0 M (([.vec 57 5 c.length b (c.flatMap z03)] : List Ent) ++ Hr)) (h : hdR n p q c = some r), CallsM Tryz.prog 160 [b, (.int .i64 n), (.int .i64 p), (.int .i64 q), (.fn (.func 98) [] [])] M (z00 n p q c b Fr0 Hr r)) : ∀ (N : Nat), ∀ (v1 v2 v3 c9 u d e s w f g m : Int) (o : List S_api_Glitch) (M : Mem) (r : List S_api_Glitch) (hH : Has Fr0 M (([.vec 57 5 o.length b (o.flatMap z03)] : List Ent) ++ Hr)), slices_symMergeCmpFunc_h1_21 F n p q c hdR N v1 v2 v3 c9 u d e s w f g m o = some r → Run Tryz.prog ⟨⟨241, [], none⟩, [.mk ⟨202, [], none⟩ 58 (treeOf [(0, b), (2, (.int .i64 u)), (4, (.fn (.func 98) [] [])), (10, (.int .i64 d)), (11, (.int .i64 e))]) [itemC Tryz.prog 202 [1, 1, 0, 0, 0, 1, 0, 1, 1, 0] 11, codeC Tryz.prog 202 [1, 1, 0, 0, 0, 1, 0, 1, 1, 1], .inBlock 1, loopC Tryz.prog 202 [1, 1, 0, 0, 0], .inBlock 0, codeC Tryz.prog 202 [1, 1, 1]], .mk ⟨160, [], none⟩ 220 (treeOf [(0, b), (1, (.int .i64 s)), (3, (.int .i64 w)), (4, (.fn (.func 98) [] [])), (18, (.int .i64 f)), (20, (.int .i64 g)), (24, (.int .i64 m))]) [itemC Tryz.prog 160 [1, 1, 1, 1, 1, 1, 1, 1, 1, 0, 1, 0] 5, codeC Tryz.prog 160 [1, 1, 1, 1, 1, 1, 1, 1, 1, 1]]]⟩ 38 (z00 n p q c b Fr0 Hr r) [(0, b), (1, (.int .i64 v1)), (2, (.int .i64 v2)), (3, (.int .i64 v3)), (10, (.int .i64 c9))] [codeC Tryz.prog 241 [1, 0, 0], loopC Tryz.prog 241 [1, 0, 0], .inBlock 0] M := by
 intro N
 induction N with
 | zero =>
  intro v1 v2 v3 c9 u d e s w f g m o M r hH h
  simp [slices_symMergeCmpFunc_h1_21] at h
 | succ N ih =>
  intro v1 v2 v3 c9 u d e s w f g m o M r hH h
  rw [slices_symMergeCmpFunc_h1_21] at h
  refine Run.seq (Run.seq (Run.region ?_))
  refine mv rfl rfl <| mv rfl rfl <| og (ex_lss rfl rfl) rfl <| Run.opsEnd ?_
  rcases btf ((decide (c9 < v3))) with x | x
  ·have h := bif_t x h
   refine Run.condT' rfl x ?_
   refine Run.skip (Run.seq (Run.block ?_))
   refine Run.drawG z09 <| df rfl (ex_move rfl) rfl <| df rfl (ex_move rfl) rfl <| df rfl (ex_move rfl) rfl <| df rfl (ex_add rfl rfl) rfl <| df rfl (ex_move rfl) rfl <| df rfl (ex_move rfl) rfl <| df rfl (ex_move rfl) rfl <| df rfl (ex_add rfl rfl) rfl <| df rfl (ex_move rfl) rfl <| df rfl (ex_move rfl) rfl <| df rfl (ex_move rfl) rfl <| df rfl (ex_add rfl rfl) rfl ?_
   obtain ⟨b9, a0, h⟩ := bnd_some h
   obtain ⟨c5, c1, a5, a0, a9⟩ := vec_elem (P := Tryz.prog) (t := 53) (kk := .i64) hH (i := 0) rfl a0 z07
   refine df rfl (ex_elX rfl rfl a0) rfl <| df rfl (ex_loadA rfl (hH.at (enc := z03) (a := b9) (i := 0) rfl a5 a9 z02) rdLe_rfl z0t rfl rfl rfl) rfl <| df rfl (ex_move rfl) rfl <| df rfl (ex_move rfl) rfl <| df rfl (ex_move rfl) rfl <| df rfl (ex_add rfl rfl) rfl ?_
   obtain ⟨c0, a1, h⟩ := bnd_some h
   obtain ⟨c6, c2, a6, a1, b0⟩ := vec_elem (P := Tryz.prog) (t := 53) (kk := .i64) hH (i := 0) rfl a1 z07
   refine df rfl (ex_elX rfl rfl a1) rfl <| df rfl (ex_loadA rfl (hH.at (enc := z03) (a := c0) (i := 0) rfl a6 b0 z02) rdLe_rfl z0t rfl rfl rfl) rfl ?_
   obtain ⟨c3, b3, h⟩ := bnd_some h
   obtain ⟨c7, a7, b5⟩ := vec_place (P := Tryz.prog) (t := 53) (kk := .i64) hH (i := 0) rfl b3 z07
   refine df rfl (ex_elX rfl rfl b5) rfl ?_
   obtain ⟨a3, b1, h⟩ := bnd_some h
   refine DrawG.opX rfl wantS_none rfl (ExG.storeEl rfl rfl hH (i := 0) rfl a7 b1 z43 rfl z02 z05) ?_
   rintro _ b7 ⟨rfl, (y : Has Fr0 b7 (([.vec 57 5 a3.length b (a3.flatMap z03)] : List Ent) ++ Hr))⟩
   refine ⟨(st_cons rfl (ev_ex wantS_none (ex_add rfl rfl)) rfl rfl rfl (st_cons rfl (ev_ex wantS_none (ex_move rfl)) rfl rfl rfl (st_cons rfl (ev_ex wantS_none (ex_move rfl)) rfl rfl rfl (st_cons rfl (ev_ex wantS_none (ex_move rfl)) rfl rfl (blk_self y (i := 0) rfl) st_nil)))), ?_⟩
   obtain ⟨c4, b4, h⟩ := bnd_some h
   obtain ⟨c8, a8, b6⟩ := vec_place (P := Tryz.prog) (t := 53) (kk := .i64) y (i := 0) rfl b4 z07
   refine df rfl (ex_elX rfl rfl b6) rfl ?_
   obtain ⟨a2, b2, h⟩ := bnd_some h
   refine DrawG.opX rfl wantS_none rfl (ExG.storeEl rfl rfl y (i := 0) rfl a8 b2 z43 rfl z02 z05) ?_
   rintro _ b8 ⟨rfl, (a4 : Has Fr0 b8 (([.vec 57 5 a2.length b (a2.flatMap z03)] : List Ent) ++ Hr))⟩
   refine ⟨st_nil, ?_⟩
   refine DrawG.sync <| DrawG.nil ?_
   refine Run.inBlock (Run.region ?_)
   refine mv rfl rfl <| og (ex_add rfl rfl) rfl <| av rfl rfl ?_
   refine Run.opsEnd (Run.inLoop ?_)
   exact Run.low (.cons (fle_pick [0, 2, 4, 10, 11] rfl) (.cons (fle_pick [0, 1, 3, 4, 18, 20, 24] rfl) .nil)) (Run.pick [0, 1, 2, 3, 10] (ih v1 v2 v3 (w64 (c9 + (1 : Int))) u d e s w f g m a2 _ _ a4 h))
  ·have h := bif_f x h
   refine Run.condF' rfl x <| Run.exit rfl <| Run.fallTo Tryz.func241 rfl res_nil rfl ?_
   refine Run.opsEnd (Run.region ?_)
   refine mv rfl rfl <| mv rfl rfl <| og (ex_sub rfl rfl) rfl <| av rfl rfl ?_
   refine Run.opsEnd (Run.inBlock (Run.inLoop ?_))
   exact Run.low (.cons (fle_pick [0, 1, 3, 4, 18, 20, 24] rfl) .nil) (Run.pick [0, 2, 4, 10, 11] (z1l F n p q c b Fr0 Hr (slices_symMergeCmpFunc_h1_21 F n p q c hdR N) ih hdR hhdR F u d (w64 (e - d)) s w f g m o _ _ hH h))

def slices_symMergeCmpFunc_h1_20 (F : Nat) (s u w : Int) (b : List S_api_Glitch) (x : Int → Int → Int → Int → Int → Int → Int → Int → Option ((List S_api_Glitch))) (hdR : Int → Int → Int → List S_api_Glitch → Option ((List S_api_Glitch))) : Nat → Int → Int → Int → Int → Int → Int → Int → Int → Int → Int → Int → Int → Option ((List S_api_Glitch))
 | 0, _, _, _, _, _, _, _, _, _, _, _, _ => none
 | N + 1, v1, v2, v3, o, n, c, d, m, p, e, f, g =>
  bif (decide (o < v3)) then
   bnd (idx b (w64 (v2 + o))) fun a2 =>
   bnd (idx b (w64 (v1 + o))) fun a3 =>
   bnd (inn b (w64 (v1 + o))) fun a0 =>
   bnd (upd b a0 a2) fun q =>
   bnd (inn q (w64 (v2 + o))) fun a1 =>
   bnd (upd q a1 a3) fun y =>
   slices_symMergeCmpFunc_h1_21 F s u w b hdR F v1 v2 v3 (w64 (o + (1 : Int))) n c d m p e f g y
  else
   x n c (w64 (d - c)) m p e f g

theorem z1j (F : Nat) (n p q : Int) (c : List S_api_Glitch) (b : SV) (Fr0 : Rd) (Hr : List Ent) (a8 : Int → Int → Int → Int → Int → Int → Int → Int → Option ((List S_api_Glitch))) (b7 : ∀ (v2 o d6 a6 a7 a2 a3 a4 : Int) (M : Mem) (r : List S_api_Glitch) (hH : Has Fr0 M (([.vec 57 5 c.length b (c.flatMap z03)] : List Ent) ++ Hr)), a8 v2 o d6 a6 a7 a2 a3 a4 = some r → Run Tryz.prog ⟨⟨202, [], none⟩, [.mk ⟨160, [], none⟩ 220 (treeOf [(0, b), (1, (.int .i64 a6)), (3, (.int .i64 a7)), (4, (.fn (.func 98) [] [])), (18, (.int .i64 a2)), (20, (.int .i64 a3)), (24, (.int .i64 a4))]) [itemC Tryz.prog 160 [1, 1, 1, 1, 1, 1, 1, 1, 1, 0, 1, 0] 5, codeC Tryz.prog 160 [1, 1, 1, 1, 1, 1, 1, 1, 1, 1]]]⟩ 58 (z00 n p q c b Fr0 Hr r) [(0, b), (2, (.int .i64 v2)), (4, (.fn (.func 98) [] [])), (10, (.int .i64 o)), (11, (.int .i64 d6))] [codeC Tryz.prog 202 [1, 1, 0, 0, 0], loopC Tryz.prog 202 [1, 1, 0, 0, 0], .inBlock 0, codeC Tryz.prog 202 [1, 1, 1]] M) (hdR : Int → Int → Int → List S_api_Glitch → Option ((List S_api_Glitch))) (hhdR : ∀ (n p q : Int) (c : List S_api_Glitch) (b : SV) (Fr0 : Rd) (Hr : List Ent) (M : Mem) (r : List S_api_Glitch) (hH : Has Fr0 M (([.vec 57 5 c.length b (c.flatMap z03)] : List Ent) ++ Hr)) (h : hdR n p q c = some r), CallsM Tryz.prog 160 [b, (.int .i64 n), (.int .i64 p), (.int .i64 q), (.fn (.func 98) [] [])] M (z00 n p q c b Fr0 Hr r)) : ∀ (N : Nat), ∀ (v1 v2 v3 o u d e s w f g m : Int) (M : Mem) (r : List S_api_Glitch) (hH : Has Fr0 M (([.vec 57 5 c.length b (c.flatMap z03)] : List Ent) ++ Hr)), slices_symMergeCmpFunc_h1_20 F n p q c a8 hdR N v1 v2 v3 o u d e s w f g m = some r → Run Tryz.prog ⟨⟨241, [], none⟩, [.mk ⟨202, [], none⟩ 58 (treeOf [(0, b), (2, (.int .i64 u)), (4, (.fn (.func 98) [] [])), (10, (.int .i64 d)), (11, (.int .i64 e))]) [itemC Tryz.prog 202 [1, 1, 0, 0, 0, 1, 0, 1, 1, 0] 11, codeC Tryz.prog 202 [1, 1, 0, 0, 0, 1, 0, 1, 1, 1], .inBlock 1, loopC Tryz.prog 202 [1, 1, 0, 0, 0], .inBlock 0, codeC Tryz.prog 202 [1, 1, 1]], .mk ⟨160, [], none⟩ 220 (treeOf [(0, b), (1, (.int .i64 s)), (3, (.int .i64 w)), (4, (.fn (.func 98) [] [])), (18, (.int .i64 f)), (20, (.int .i64 g)), (24, (.int .i64 m))]) [itemC Tryz.prog 160 [1, 1, 1, 1, 1, 1, 1, 1, 1, 0, 1, 0] 5, codeC Tryz.prog 160 [1, 1, 1, 1, 1, 1, 1, 1, 1, 1]]]⟩ 38 (z00 n p q c b Fr0 Hr r) [(0, b), (1, (.int .i64 v1)), (2, (.int .i64 v2)), (3, (.int .i64 v3)), (10, (.int .i64 o))] [codeC Tryz.prog 241 [1, 0, 0], loopC Tryz.prog 241 [1, 0, 0], .inBlock 0] M := by
 intro N
 induction N with
 | zero =>
  intro v1 v2 v3 o u d e s w f g m M r hH h
  simp [slices_symMergeCmpFunc_h1_20] at h
 | succ N ih =>
  intro v1 v2 v3 o u d e s w f g m M r hH h
  rw [slices_symMergeCmpFunc_h1_20] at h
  refine Run.seq (Run.seq (Run.region ?_))
  refine mv rfl rfl <| mv rfl rfl <| og (ex_lss rfl rfl) rfl <| Run.opsEnd ?_
  rcases btf ((decide (o < v3))) with x | x
  ·have h := bif_t x h
   refine Run.condT' rfl x ?_
   refine Run.skip (Run.seq (Run.block ?_))
   refine Run.drawG z09 <| df rfl (ex_move rfl) rfl <| df rfl (ex_move rfl) rfl <| df rfl (ex_move rfl) rfl <| df rfl (ex_add rfl rfl) rfl <| df rfl (ex_move rfl) rfl <| df rfl (ex_move rfl) rfl <| df rfl (ex_move rfl) rfl <| df rfl (ex_add rfl rfl) rfl <| df rfl (ex_move rfl) rfl <| df rfl (ex_move rfl) rfl <| df rfl (ex_move rfl) rfl <| df rfl (ex_add rfl rfl) rfl ?_
   obtain ⟨c6, a0, h⟩ := bnd_some h
   obtain ⟨d2, c8, b1, a0, b5⟩ := vec_elem (P := Tryz.prog) (t := 53) (kk := .i64) hH (i := 0) rfl a0 z07
   refine df rfl (ex_elX rfl rfl a0) rfl <| df rfl (ex_loadA rfl (hH.at (enc := z03) (a := c6) (i := 0) rfl b1 b5 z02) rdLe_rfl z0t rfl rfl rfl) rfl <| df rfl (ex_move rfl) rfl <| df rfl (ex_move rfl) rfl <| df rfl (ex_move rfl) rfl <| df rfl (ex_add rfl rfl) rfl ?_
   obtain ⟨c7, a1, h⟩ := bnd_some h
   obtain ⟨d3, c9, b2, a1, b6⟩ := vec_elem (P := Tryz.prog) (t := 53) (kk := .i64) hH (i := 0) rfl a1 z07
   refine df rfl (ex_elX rfl rfl a1) rfl <| df rfl (ex_loadA rfl (hH.at (enc := z03) (a := c7) (i := 0) rfl b2 b6 z02) rdLe_rfl z0t rfl rfl rfl) rfl ?_
   obtain ⟨d0, c0, h⟩ := bnd_some h
   obtain ⟨d4, b3, c2⟩ := vec_place (P := Tryz.prog) (t := 53) (kk := .i64) hH (i := 0) rfl c0 z07
   refine df rfl (ex_elX rfl rfl c2) rfl ?_
   obtain ⟨a9, b8, h⟩ := bnd_some h
   refine DrawG.opX rfl wantS_none rfl (ExG.storeEl rfl rfl hH (i := 0) rfl b3 b8 z43 rfl z02 z05) ?_
   rintro _ c4 ⟨rfl, (y : Has Fr0 c4 (([.vec 57 5 a9.length b (a9.flatMap z03)] : List Ent) ++ Hr))⟩
   refine ⟨(st_cons rfl (ev_ex wantS_none (ex_add rfl rfl)) rfl rfl rfl (st_cons rfl (ev_ex wantS_none (ex_move rfl)) rfl rfl rfl (st_cons rfl (ev_ex wantS_none (ex_move rfl)) rfl rfl rfl (st_cons rfl (ev_ex wantS_none (ex_move rfl)) rfl rfl (blk_self y (i := 0) rfl) st_nil)))), ?_⟩
   obtain ⟨d1, c1, h⟩ := bnd_some h
   obtain ⟨d5, b4, c3⟩ := vec_place (P := Tryz.prog) (t := 53) (kk := .i64) y (i := 0) rfl c1 z07
   refine df rfl (ex_elX rfl rfl c3) rfl ?_
   obtain ⟨a5, b9, h⟩ := bnd_some h
   refine DrawG.opX rfl wantS_none rfl (ExG.storeEl rfl rfl y (i := 0) rfl b4 b9 z43 rfl z02 z05) ?_
   rintro _ c5 ⟨rfl, (b0 : Has Fr0 c5 (([.vec 57 5 a5.length b (a5.flatMap z03)] : List Ent) ++ Hr))⟩
   refine ⟨st_nil, ?_⟩
   refine DrawG.sync <| DrawG.nil ?_
   refine Run.inBlock (Run.region ?_)
   refine mv rfl rfl <| og (ex_add rfl rfl) rfl <| av rfl rfl ?_
   refine Run.opsEnd (Run.inLoop ?_)
   exact Run.low (.cons (fle_pick [0, 2, 4, 10, 11] rfl) (.cons (fle_pick [0, 1, 3, 4, 18, 20, 24] rfl) .nil)) (Run.pick [0, 1, 2, 3, 10] (z1k F n p q c b Fr0 Hr hdR hhdR F v1 v2 v3 (w64 (o + (1 : Int))) u d e s w f g m a5 _ _ b0 h))
  ·have h := bif_f x h
   refine Run.condF' rfl x <| Run.exit rfl <| Run.fallTo Tryz.func241 rfl res_nil rfl ?_
   refine Run.opsEnd (Run.region ?_)
   refine mv rfl rfl <| mv rfl rfl <| og (ex_sub rfl rfl) rfl <| av rfl rfl ?_
   refine Run.opsEnd (Run.inBlock (Run.inLoop ?_))
   exact Run.low (.cons (fle_pick [0, 1, 3, 4, 18, 20, 24] rfl) .nil) (Run.pick [0, 2, 4, 10, 11] (b7 u d (w64 (e - d)) s w f g m _ _ hH h))

def slices_symMergeCmpFunc_h1_10 (F : Nat) (c d e : Int) (b : List S_api_Glitch) (hdR : Int → Int → Int → List S_api_Glitch → Option ((List S_api_Glitch))) : Nat → Int → Int → Int → Int → Int → Int → Int → Int → Option ((List S_api_Glitch))
 | 0, _, _, _, _, _, _, _, _ => none
 | N + 1, v2, o, q, n, p, f, g, m =>
  bif (!(o == q)) then
   bif (decide (q < o)) then
    slices_symMergeCmpFunc_h1_11 F c d e b (slices_symMergeCmpFunc_h1_10 F c d e b hdR N) hdR F (w64 (v2 - o)) v2 q (0 : Int) v2 o q n p f g m
   else
    slices_symMergeCmpFunc_h1_20 F c d e b (slices_symMergeCmpFunc_h1_10 F c d e b hdR N) hdR F (w64 (v2 - o)) (w64 ((w64 (v2 + q)) - o)) o (0 : Int) v2 o q n p f g m
  else
   slices_symMergeCmpFunc_h1_15 F c d e b hdR F (w64 (v2 - o)) v2 o (0 : Int) n p f g m b

theorem z1f (F : Nat) (d e f : Int) (b : List S_api_Glitch) (c : SV) (Fr0 : Rd) (Hr : List Ent) (hdR : Int → Int → Int → List S_api_Glitch → Option ((List S_api_Glitch))) (hhdR : ∀ (d e f : Int) (b : List S_api_Glitch) (c : SV) (Fr0 : Rd) (Hr : List Ent) (M : Mem) (r : List S_api_Glitch) (hH : Has Fr0 M (([.vec 57 5 b.length c (b.flatMap z03)] : List Ent) ++ Hr)) (h : hdR d e f b = some r), CallsM Tryz.prog 160 [c, (.int .i64 d), (.int .i64 e), (.int .i64 f), (.fn (.func 98) [] [])] M (z00 d e f b c Fr0 Hr r)) : ∀ (N : Nat), ∀ (v2 o w p q g m n : Int) (M : Mem) (r : List S_api_Glitch) (hH : Has Fr0 M (([.vec 57 5 b.length c (b.flatMap z03)] : List Ent) ++ Hr)), slices_symMergeCmpFunc_h1_10 F d e f b hdR N v2 o w p q g m n = some r → Run Tryz.prog ⟨⟨202, [], none⟩, [.mk ⟨160, [], none⟩ 220 (treeOf [(0, c), (1, (.int .i64 p)), (3, (.int .i64 q)), (4, (.fn (.func 98) [] [])), (18, (.int .i64 g)), (20, (.int .i64 m)), (24, (.int .i64 n))]) [itemC Tryz.prog 160 [1, 1, 1, 1, 1, 1, 1, 1, 1, 0, 1, 0] 5, codeC Tryz.prog 160 [1, 1, 1, 1, 1, 1, 1, 1, 1, 1]]]⟩ 58 (z00 d e f b c Fr0 Hr r) [(0, c), (2, (.int .i64 v2)), (4, (.fn (.func 98) [] [])), (10, (.int .i64 o)), (11, (.int .i64 w))] [codeC Tryz.prog 202 [1, 1, 0, 0, 0], loopC Tryz.prog 202 [1, 1, 0, 0, 0], .inBlock 0, codeC Tryz.prog 202 [1, 1, 1]] M := by
 intro N
 induction N with
 | zero =>
  intro v2 o w p q g m n M r hH h
  simp [slices_symMergeCmpFunc_h1_10] at h
 | succ N ih =>
  intro v2 o w p q g m n M r hH h
  rw [slices_symMergeCmpFunc_h1_10] at h
  refine Run.seq (Run.seq (Run.region ?_))
  refine mv rfl rfl <| mv rfl rfl <| og (ex_neq rfl rfl) rfl <| Run.opsEnd ?_
  rcases btf ((!(o == w))) with s | s
  ·have h := bif_t s h
   refine Run.condT' rfl s ?_
   refine Run.skip (Run.block (Run.seq (Run.region ?_)))
   refine mv rfl rfl <| mv rfl rfl <| og (ex_gtr rfl rfl) rfl <| Run.opsEnd ?_
   rcases btf ((decide (w < o))) with u | u
   ·have h := bif_t u h
    refine Run.condT' rfl u ?_
    refine Run.seq (Run.region ?_)
    refine mv rfl rfl <| mv rfl rfl <| mv rfl rfl <| og (ex_sub rfl rfl) rfl <| mv rfl rfl <| mv rfl rfl <| mv rfl rfl <| Run.enter wantS_none (ex_call rfl z3o z3i) Tryz.func241 rfl rfl ?_
    refine Run.seq (Run.region ?_)
    refine av rfl rfl ?_
    refine Run.opsEnd (Run.block (Run.loop ?_))
    exact Run.low (.cons (fle_pick [0, 2, 4, 10, 11] rfl) (.cons (fle_pick [0, 1, 3, 4, 18, 20, 24] rfl) .nil)) (Run.pick [0, 1, 2, 3, 10] (z1g F d e f b c Fr0 Hr (slices_symMergeCmpFunc_h1_10 F d e f b hdR N) ih hdR hhdR F (w64 (v2 - o)) v2 w (0 : Int) v2 o w p q g m n _ _ hH h))
   ·have h := bif_f u h
    refine Run.condF' rfl u ?_
    refine Run.seq (Run.region ?_)
    refine mv rfl rfl <| mv rfl rfl <| mv rfl rfl <| og (ex_sub rfl rfl) rfl <| mv rfl rfl <| mv rfl rfl <| og (ex_add rfl rfl) rfl <| mv rfl rfl <| og (ex_sub rfl rfl) rfl <| mv rfl rfl <| mv rfl rfl <| Run.enter wantS_none (ex_call rfl z3o z3i) Tryz.func241 rfl rfl ?_
    refine Run.seq (Run.region ?_)
    refine av rfl rfl ?_
    refine Run.opsEnd (Run.block (Run.loop ?_))
    exact Run.low (.cons (fle_pick [0, 2, 4, 10, 11] rfl) (.cons (fle_pick [0, 1, 3, 4, 18, 20, 24] rfl) .nil)) (Run.pick [0, 1, 2, 3, 10] (z1j F d e f b c Fr0 Hr (slices_symMergeCmpFunc_h1_10 F d e f b hdR N) ih hdR hhdR F (w64 (v2 - o)) (w64 ((w64 (v2 + w)) - o)) o (0 : Int) v2 o w p q g m n _ _ hH h))
  ·have h := bif_f s h
   refine Run.condF' rfl s ?_
   refine Run.exit rfl (Run.region ?_)
   refine mv rfl rfl <| mv rfl rfl <| mv rfl rfl <| og (ex_sub rfl rfl) rfl <| mv rfl rfl <| mv rfl rfl <| mv rfl rfl <| Run.enter wantS_none (ex_call rfl z3o z3i) Tryz.func241 rfl rfl ?_
   refine Run.seq (Run.region ?_)
   refine av rfl rfl ?_
   refine Run.opsEnd (Run.block (Run.loop ?_))
   exact Run.low (.cons (fle_pick [] rfl) (.cons (fle_pick [0, 1, 3, 4, 18, 20, 24] rfl) .nil)) (Run.pick [0, 1, 2, 3, 10] (z0a F d e f b c Fr0 Hr hdR hhdR F (w64 (v2 - o)) v2 o (0 : Int) p q g m n b _ _ hH h))

def slices_symMergeCmpFunc_h1_9 (F : Nat) (c d e : Int) (b : List S_api_Glitch) (hdR : Int → Int → Int → List S_api_Glitch → Option ((List S_api_Glitch))) (v1 v2 v3 o g m : Int) (f : Bool) : Option ((List S_api_Glitch)) :=
 bif f then
  slices_symMergeCmpFunc_h1_10 F c d e b hdR F v2 (w64 (v2 - g)) (w64 (m - v2)) v1 v3 o g m
 else
  slices_symMergeCmpFunc_h1_16 F c d e b hdR v1 v3 o g m b

theorem z0p (F : Nat) (d e f : Int) (b : List S_api_Glitch) (c : SV) (Fr0 : Rd) (Hr : List Ent) (hdR : Int → Int → Int → List S_api_Glitch → Option ((List S_api_Glitch))) (hhdR : ∀ (d e f : Int) (b : List S_api_Glitch) (c : SV) (Fr0 : Rd) (Hr : List Ent) (M : Mem) (r : List S_api_Glitch) (hH : Has Fr0 M (([.vec 57 5 b.length c (b.flatMap z03)] : List Ent) ++ Hr)) (h : hdR d e f b = some r), CallsM Tryz.prog 160 [c, (.int .i64 d), (.int .i64 e), (.int .i64 f), (.fn (.func 98) [] [])] M (z00 d e f b c Fr0 Hr r)) : ∀ (v1 v2 v3 q o p : Int) (m : Bool) (M : Mem) (r : List S_api_Glitch) (hH : Has Fr0 M (([.vec 57 5 b.length c (b.flatMap z03)] : List Ent) ++ Hr)), slices_symMergeCmpFunc_h1_9 F d e f b hdR v1 v2 v3 q o p m = some r → Run Tryz.prog ⟨⟨160, [], none⟩, []⟩ 220 (z00 d e f b c Fr0 Hr r) [(0, c), (1, (.int .i64 v1)), (2, (.int .i64 v2)), (3, (.int .i64 v3)), (4, (.fn (.func 98) [] [])), (18, (.int .i64 q)), (20, (.int .i64 o)), (24, (.int .i64 p)), (185, (.bool m))] [codeC Tryz.prog 160 [1, 1, 1, 1, 1, 1, 1, 1, 1, 0, 1], codeC Tryz.prog 160 [1, 1, 1, 1, 1, 1, 1, 1, 1, 1]] M := by
 intro v1 v2 v3 q o p m M r hH h
 rw [slices_symMergeCmpFunc_h1_9] at h
 rcases btf (m) with g | g
 ·have h := bif_t g h
  refine Run.condT' rfl g <| Run.region <| mv rfl rfl <| mv rfl rfl <| mv rfl rfl <| mv rfl rfl <| mv rfl rfl <| Run.enter wantS_none (ex_call rfl z6l z64) Tryz.func202 rfl rfl ?_
  refine Run.seq (Run.region ?_)
  refine mv rfl rfl <| mv rfl rfl <| og (ex_sub rfl rfl) rfl <| av rfl rfl ?_
  refine Run.opsEnd (Run.seq (Run.region ?_))
  refine mv rfl rfl <| mv rfl rfl <| og (ex_sub rfl rfl) rfl <| av rfl rfl ?_
  refine Run.opsEnd (Run.seq (Run.block (Run.loop ?_)))
  exact Run.low (.cons (fle_pick [0, 1, 3, 4, 18, 20, 24] rfl) .nil) (Run.pick [0, 2, 4, 10, 11] (z1f F d e f b c Fr0 Hr hdR hhdR F v2 (w64 (v2 - o)) (w64 (p - v2)) v1 v3 q o p _ _ hH h))
 ·have h := bif_f g h
  refine Run.condF' rfl g ?_
  refine Run.skip (Run.seq (Run.seq (Run.region ?_)))
  exact Run.pick [0, 1, 3, 4, 18, 20, 24] (z0i F d e f b c Fr0 Hr hdR hhdR v1 v3 q o p b _ _ hH h)

def slices_symMergeCmpFunc_h1_8 (F : Nat) (c d e : Int) (b : List S_api_Glitch) (hdR : Int → Int → Int → List S_api_Glitch → Option ((List S_api_Glitch))) : Nat → Int → Int → Int → Int → Int → Int → Int → Int → Option ((List S_api_Glitch))
 | 0, _, _, _, _, _, _, _, _ => none
 | N + 1, v1, v2, v3, s, q, o, p, u =>
  bif (decide (o < p)) then
   bnd (idx b (w64 (u - (w64 (Int.fdiv (IntKind.wrap .u64 (w64 (o + p))) (2 ^ (min 1 (IntKind.bits .u64)))))))) fun g =>
   bnd (idx b (w64 (Int.fdiv (IntKind.wrap .u64 (w64 (o + p))) (2 ^ (min 1 (IntKind.bits .u64)))))) fun m =>
   bnd (glitch_glitches_f1 F g m) fun f =>
   bif (!(decide (f < (0 : Int)))) then
    (slices_symMergeCmpFunc_h1_8 F c d e b hdR N) v1 v2 v3 s q (w64 ((w64 (Int.fdiv (IntKind.wrap .u64 (w64 (o + p))) (2 ^ (min 1 (IntKind.bits .u64))))) + (1 : Int))) p u
   else
    (slices_symMergeCmpFunc_h1_8 F c d e b hdR N) v1 v2 v3 s q o (w64 (Int.fdiv (IntKind.wrap .u64 (w64 (o + p))) (2 ^ (min 1 (IntKind.bits .u64))))) u
  else
   bif (decide (o < v2)) then
    slices_symMergeCmpFunc_h1_9 F c d e b hdR v1 v2 v3 s o (w64 (q - o)) (decide (v2 < (w64 (q - o))))
   else
    slices_symMergeCmpFunc_h1_9 F c d e b hdR v1 v2 v3 s o (w64 (q - o)) false

theorem z1x (F : Nat) (e f g : Int) (b : List S_api_Glitch) (d : SV) (Fr0 : Rd) (Hr : List Ent) (hdR : Int → Int → Int → List S_api_Glitch → Option ((List S_api_Glitch))) (hhdR : ∀ (e f g : Int) (b : List S_api_Glitch) (d : SV) (Fr0 : Rd) (Hr : List Ent) (M : Mem) (r : List S_api_Glitch) (hH : Has Fr0 M (([.vec 57 5 b.length d (b.flatMap z03)] : List Ent) ++ Hr)) (h : hdR e f g b = some r), CallsM Tryz.prog 160 [d, (.int .i64 e), (.int .i64 f), (.int .i64 g), (.fn (.func 98) [] [])] M (z00 e f g b d Fr0 Hr r)) : ∀ (N : Nat), ∀ (v1 v2 v3 a7 a6 o a8 a9 : Int) (M : Mem) (r : List S_api_Glitch) (hH : Has Fr0 M (([.vec 57 5 b.length d (b.flatMap z03)] : List Ent) ++ Hr)), slices_symMergeCmpFunc_h1_8 F e f g b hdR N v1 v2 v3 a7 a6 o a8 a9 = some r → Run Tryz.prog ⟨⟨160, [], none⟩, []⟩ 220 (z00 e f g b d Fr0 Hr r) [(0, d), (1, (.int .i64 v1)), (2, (.int .i64 v2)), (3, (.int .i64 v3)), (4, (.fn (.func 98) [] [])), (18, (.int .i64 a7)), (19, (.int .i64 a6)), (20, (.int .i64 o)), (21, (.int .i64 a8)), (22, (.int .i64 a9))] [codeC Tryz.prog 160 [1, 1, 1, 1, 1, 1, 1, 0, 0, 0], loopC Tryz.prog 160 [1, 1, 1, 1, 1, 1, 1, 0, 0, 0], .inBlock 8, codeC Tryz.prog 160 [1, 1, 1, 1, 1, 1, 1, 1]] M := by
 intro N
 induction N with
 | zero =>
  intro v1 v2 v3 a7 a6 o a8 a9 M r hH h
  simp [slices_symMergeCmpFunc_h1_8] at h
 | succ N ih =>
  intro v1 v2 v3 a7 a6 o a8 a9 M r hH h
  rw [slices_symMergeCmpFunc_h1_8] at h
  refine Run.seq (Run.seq (Run.region ?_))
  refine mv rfl rfl <| mv rfl rfl <| og (ex_lss rfl rfl) rfl <| Run.opsEnd ?_
  rcases btf ((decide (o < a8))) with m | m
  ·have h := bif_t m h
   refine Run.condT' rfl m ?_
   refine Run.skip (Run.block (Run.seq (Run.region ?_)))
   refine mv rfl rfl <| mv rfl rfl <| og (ex_add rfl rfl) rfl <| og (ex_conv rfl z47 z42) rfl <| og (ex_shr (j := 1) rfl rfl) rfl <| og (ex_conv rfl z44 z41) rfl <| av rfl rfl ?_
   refine Run.opsEnd (Run.seq ?_)
   refine Run.drawG z0x <| df rfl (ex_move rfl) rfl <| df rfl (ex_move rfl) rfl <| df rfl (ex_move rfl) rfl <| df rfl (ex_move rfl) rfl <| df rfl (ex_sub rfl rfl) rfl ?_
   obtain ⟨q, n, h⟩ := bnd_some h
   obtain ⟨a4, a2, u, n, x⟩ := vec_elem (P := Tryz.prog) (t := 53) (kk := .i64) hH (i := 0) rfl n z07
   refine df rfl (ex_elX rfl rfl n) rfl <| df rfl (ex_loadA rfl (hH.at (enc := z03) (a := q) (i := 0) rfl u x z02) rdLe_rfl z0t rfl rfl rfl) rfl <| df rfl (ex_move rfl) rfl <| df rfl (ex_move rfl) rfl ?_
   obtain ⟨s, p, h⟩ := bnd_some h
   obtain ⟨a5, a3, w, p, y⟩ := vec_elem (P := Tryz.prog) (t := 53) (kk := .i64) hH (i := 0) rfl p z07
   refine df rfl (ex_elX rfl rfl p) rfl <| df rfl (ex_loadA rfl (hH.at (enc := z03) (a := s) (i := 0) rfl w y z02) rdLe_rfl z0t rfl rfl rfl) rfl ?_
   obtain ⟨a1, a0, h⟩ := bnd_some h
   refine DrawG.callP rfl wantS_none (ex_closure rfl rfl z52 z51) rfl (z0b F q s _ _ a0) st_nil <| df rfl (ex_lss rfl rfl) rfl <| df rfl (ex_not rfl) rfl <| DrawG.sync <| DrawG.nil ?_
   rcases btf ((!(decide (a1 < (0 : Int))))) with hc143 | hc143
   ·have h := bif_t hc143 h
    refine Run.condT' rfl hc143 <| Run.region <| mv rfl rfl <| og (ex_add rfl rfl) rfl <| av rfl rfl ?_
    refine Run.opsEnd (Run.inBlock (Run.inLoop ?_))
    exact Run.pick [0, 1, 2, 3, 4, 18, 19, 20, 21, 22] (ih v1 v2 v3 a7 a6 (w64 ((w64 (Int.fdiv (IntKind.wrap .u64 (w64 (o + a8))) (2 ^ (min 1 (IntKind.bits .u64))))) + (1 : Int))) a8 a9 _ _ hH h)
   ·have h := bif_f hc143 h
    refine Run.condF' rfl hc143 <| Run.region <| mv rfl rfl <| av rfl rfl ?_
    refine Run.opsEnd (Run.inBlock (Run.inLoop ?_))
    exact Run.pick [0, 1, 2, 3, 4, 18, 19, 20, 21, 22] (ih v1 v2 v3 a7 a6 o (w64 (Int.fdiv (IntKind.wrap .u64 (w64 (o + a8))) (2 ^ (min 1 (IntKind.bits .u64))))) a9 _ _ hH h)
  ·have h := bif_f m h
   refine Run.condF' rfl m ?_
   refine Run.exit rfl (Run.seq (Run.region ?_))
   refine mv rfl rfl <| mv rfl rfl <| og (ex_sub rfl rfl) rfl <| av rfl rfl ?_
   refine Run.opsEnd (Run.seq (Run.seq (Run.region ?_)))
   refine mv rfl rfl <| mv rfl rfl <| og (ex_lss rfl rfl) rfl <| mv rfl rfl ?_
   rcases btf ((decide (o < v2))) with c | c
   ·have h := bif_t c h
    refine gy rfl rfl c (ex_move rfl) rfl <| gy rfl rfl c (ex_move rfl) rfl <| gy rfl rfl c (ex_lss rfl rfl) rfl <| og (ex_pickT' rfl c rfl rfl) rfl <| Run.opsEnd ?_
    exact Run.pick [0, 1, 2, 3, 4, 18, 20, 24, 185] (z0p F e f g b d Fr0 Hr hdR hhdR v1 v2 v3 a7 o (w64 (a6 - o)) (decide (v2 < (w64 (a6 - o)))) _ _ hH h)
   ·have h := bif_f c h
    refine gn rfl rfl c rfl <| gn rfl rfl c rfl <| gn rfl rfl c rfl <| og (ex_pickF' rfl c rfl rfl) rfl <| Run.opsEnd ?_
    exact Run.pick [0, 1, 2, 3, 4, 18, 20, 24, 185] (z0p F e f g b d Fr0 Hr hdR hhdR v1 v2 v3 a7 o (w64 (a6 - o)) false _ _ hH h)

def slices_symMergeCmpFunc_h1_7 (F : Nat) (c d e : Int) (b : List S_api_Glitch) (hdR : Int → Int → Int → List S_api_Glitch → Option ((List S_api_Glitch))) (v1 v2 v3 g f m o : Int) : Option ((List S_api_Glitch)) :=
 slices_symMergeCmpFunc_h1_8 F c d e b hdR F v1 v2 v3 g f m o (w64 (f - (1 : Int)))

theorem z0o (F : Nat) (d e f : Int) (b : List S_api_Glitch) (c : SV) (Fr0 : Rd) (Hr : List Ent) (hdR : Int → Int → Int → List S_api_Glitch → Option ((List S_api_Glitch))) (hhdR : ∀ (d e f : Int) (b : List S_api_Glitch) (c : SV) (Fr0 : Rd) (Hr : List Ent) (M : Mem) (r : List S_api_Glitch) (hH : Has Fr0 M (([.vec 57 5 b.length c (b.flatMap z03)] : List Ent) ++ Hr)) (h : hdR d e f b = some r), CallsM Tryz.prog 160 [c, (.int .i64 d), (.int .i64 e), (.int .i64 f), (.fn (.func 98) [] [])] M (z00 d e f b c Fr0 Hr r)) : ∀ (v1 v2 v3 m g o p : Int) (M : Mem) (r : List S_api_Glitch) (hH : Has Fr0 M (([.vec 57 5 b.length c (b.flatMap z03)] : List Ent) ++ Hr)), slices_symMergeCmpFunc_h1_7 F d e f b hdR v1 v2 v3 m g o p = some r → Run Tryz.prog ⟨⟨160, [], none⟩, []⟩ 220 (z00 d e f b c Fr0 Hr r) [(0, c), (1, (.int .i64 v1)), (2, (.int .i64 v2)), (3, (.int .i64 v3)), (4, (.fn (.func 98) [] [])), (18, (.int .i64 m)), (19, (.int .i64 g)), (20, (.int .i64 o)), (21, (.int .i64 p))] [itemC Tryz.prog 160 [1, 1, 1, 1, 1, 1, 0] 0, codeC Tryz.prog 160 [1, 1, 1, 1, 1, 1, 1]] M := by
 intro v1 v2 v3 m g o p M r hH h
 rw [slices_symMergeCmpFunc_h1_7] at h
 refine mv rfl rfl <| og (ex_sub rfl rfl) rfl <| av rfl rfl ?_
 refine Run.opsEnd (Run.seq (Run.block (Run.loop ?_)))
 exact Run.pick [0, 1, 2, 3, 4, 18, 19, 20, 21, 22] (z1x F d e f b c Fr0 Hr hdR hhdR F v1 v2 v3 m g o p (w64 (g - (1 : Int))) _ _ hH h)

def slices_symMergeCmpFunc_h1 : Nat → Int → Int → Int → List S_api_Glitch → Option ((List S_api_Glitch))
 | 0, _, _, _, _ => none
 | F + 1, b, c, d, e =>
  bif ((w64 (c - b)) == (1 : Int)) then
   slices_symMergeCmpFunc_h1_1 F b c d e F b c d
  else
   bif ((w64 (d - c)) == (1 : Int)) then
    slices_symMergeCmpFunc_h1_4 F b c d e F c b c
   else
    bif (decide ((w64 (Int.fdiv (IntKind.wrap .u64 (w64 (b + d))) (2 ^ (min 1 (IntKind.bits .u64))))) < c)) then
     slices_symMergeCmpFunc_h1_7 F b c d e (slices_symMergeCmpFunc_h1 F) b c d (w64 (Int.fdiv (IntKind.wrap .u64 (w64 (b + d))) (2 ^ (min 1 (IntKind.bits .u64))))) (w64 ((w64 (Int.fdiv (IntKind.wrap .u64 (w64 (b + d))) (2 ^ (min 1 (IntKind.bits .u64))))) + c)) (w64 ((w64 ((w64 (Int.fdiv (IntKind.wrap .u64 (w64 (b + d))) (2 ^ (min 1 (IntKind.bits .u64))))) + c)) - d)) (w64 (Int.fdiv (IntKind.wrap .u64 (w64 (b + d))) (2 ^ (min 1 (IntKind.bits .u64)))))
    else
     slices_symMergeCmpFunc_h1_7 F b c d e (slices_symMergeCmpFunc_h1 F) b c d (w64 (Int.fdiv (IntKind.wrap .u64 (w64 (b + d))) (2 ^ (min 1 (IntKind.bits .u64))))) (w64 ((w64 (Int.fdiv (IntKind.wrap .u64 (w64 (b + d))) (2 ^ (min 1 (IntKind.bits .u64))))) + c)) b c

theorem z0s : ∀ (F : Nat), ∀ (b c d : Int) (e : List S_api_Glitch) (f : SV) (Fr0 : Rd) (Hr : List Ent) (M : Mem) (r : List S_api_Glitch) (hH : Has Fr0 M (([.vec 57 5 e.length f (e.flatMap z03)] : List Ent) ++ Hr)) (h : slices_symMergeCmpFunc_h1 F b c d e = some r), CallsM Tryz.prog 160 [f, (.int .i64 b), (.int .i64 c), (.int .i64 d), (.fn (.func 98) [] [])] M (z00 b c d e f Fr0 Hr r) := by
 intro F
 induction F with
 | zero =>
  intro b c d e f Fr0 Hr M r hH h
  simp [slices_symMergeCmpFunc_h1] at h
 | succ F ih =>
  intro b c d e f Fr0 Hr M r hH h
  refine CallsM.run Tryz.func160 rfl rfl (show Run _ _ _ (z00 b c d e f Fr0 Hr r) _ _ _ from ?_)
  rw [slices_symMergeCmpFunc_h1] at h
  refine Run.seq (Run.seq (Run.region ?_))
  refine mv rfl rfl <| mv rfl rfl <| og (ex_sub rfl rfl) rfl <| og (ex_eql rfl rfl) rfl <| Run.opsEnd ?_
  rcases btf (((w64 (c - b)) == (1 : Int))) with hc87 | hc87
  ·have h := bif_t hc87 h
   refine Run.condT' rfl hc87 ?_
   refine Run.seq (Run.region ?_)
   refine mv rfl rfl <| av rfl rfl ?_
   refine Run.opsEnd (Run.seq (Run.region ?_))
   refine mv rfl rfl <| av rfl rfl ?_
   refine Run.opsEnd (Run.seq (Run.block (Run.loop ?_)))
   exact Run.pick [0, 1, 4, 10, 11] (z1r F b c d e f Fr0 Hr F b c d _ _ hH h)
  ·have h := bif_f hc87 h
   refine Run.condF' rfl hc87 ?_
   refine Run.skip (Run.seq (Run.seq (Run.region ?_)))
   refine mv rfl rfl <| mv rfl rfl <| og (ex_sub rfl rfl) rfl <| og (ex_eql rfl rfl) rfl <| Run.opsEnd ?_
   rcases btf (((w64 (d - c)) == (1 : Int))) with hc112 | hc112
   ·have h := bif_t hc112 h
    refine Run.condT' rfl hc112 ?_
    refine Run.seq (Run.region ?_)
    refine mv rfl rfl <| av rfl rfl ?_
    refine Run.opsEnd (Run.seq (Run.region ?_))
    refine mv rfl rfl <| av rfl rfl ?_
    refine Run.opsEnd (Run.seq (Run.block (Run.loop ?_)))
    exact Run.pick [0, 2, 4, 14, 15] (z1u F b c d e f Fr0 Hr F c b c _ _ hH h)
   ·have h := bif_f hc112 h
    refine Run.condF' rfl hc112 ?_
    refine Run.skip (Run.seq (Run.region ?_))
    refine mv rfl rfl <| mv rfl rfl <| og (ex_add rfl rfl) rfl <| og (ex_conv rfl z47 z42) rfl <| og (ex_shr (j := 1) rfl rfl) rfl <| og (ex_conv rfl z44 z41) rfl <| av rfl rfl ?_
    refine Run.opsEnd (Run.seq (Run.region ?_))
    refine mv rfl rfl <| mv rfl rfl <| og (ex_add rfl rfl) rfl <| av rfl rfl ?_
    refine Run.opsEnd (Run.seq (Run.region ?_))
    refine av rfl rfl <| av rfl rfl ?_
    refine Run.opsEnd (Run.seq (Run.seq (Run.region ?_)))
    refine mv rfl rfl <| mv rfl rfl <| og (ex_gtr rfl rfl) rfl <| Run.opsEnd ?_
    rcases btf ((decide ((w64 (Int.fdiv (IntKind.wrap .u64 (w64 (b + d))) (2 ^ (min 1 (IntKind.bits .u64))))) < c))) with g | g
    ·have h := bif_t g h
     refine Run.condT' rfl g ?_
     refine Run.seq (Run.region ?_)
     refine mv rfl rfl <| mv rfl rfl <| og (ex_sub rfl rfl) rfl <| av rfl rfl ?_
     refine Run.opsEnd (Run.region ?_)
     refine mv rfl rfl <| av rfl rfl ?_
     refine Run.opsEnd (Run.seq (Run.region ?_))
     exact Run.pick [0, 1, 2, 3, 4, 18, 19, 20, 21] (z0o F b c d e f Fr0 Hr (slices_symMergeCmpFunc_h1 F) ih b c d (w64 (Int.fdiv (IntKind.wrap .u64 (w64 (b + d))) (2 ^ (min 1 (IntKind.bits .u64))))) (w64 ((w64 (Int.fdiv (IntKind.wrap .u64 (w64 (b + d))) (2 ^ (min 1 (IntKind.bits .u64))))) + c)) (w64 ((w64 ((w64 (Int.fdiv (IntKind.wrap .u64 (w64 (b + d))) (2 ^ (min 1 (IntKind.bits .u64))))) + c)) - d)) (w64 (Int.fdiv (IntKind.wrap .u64 (w64 (b + d))) (2 ^ (min 1 (IntKind.bits .u64))))) _ _ hH h)
    ·have h := bif_f g h
     refine Run.condF' rfl g ?_
     refine Run.seq (Run.region ?_)
     refine mv rfl rfl <| av rfl rfl ?_
     refine Run.opsEnd (Run.region ?_)
     refine mv rfl rfl <| av rfl rfl ?_
     refine Run.opsEnd (Run.seq (Run.region ?_))
     exact Run.pick [0, 1, 2, 3, 4, 18, 19, 20, 21] (z0o F b c d e f Fr0 Hr (slices_symMergeCmpFunc_h1 F) ih b c d (w64 (Int.fdiv (IntKind.wrap .u64 (w64 (b + d))) (2 ^ (min 1 (IntKind.bits .u64))))) (w64 ((w64 (Int.fdiv (IntKind.wrap .u64 (w64 (b + d))) (2 ^ (min 1 (IntKind.bits .u64))))) + c)) b c _ _ hH h)

end Go.Ev.GlitchCounts
