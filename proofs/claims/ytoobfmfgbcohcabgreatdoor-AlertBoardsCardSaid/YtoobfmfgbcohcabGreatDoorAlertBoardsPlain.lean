/- Plain functions that say what functions of the program come to, and proofs of it, written by a program of the verifier's own. -/
import Derived.Test.YtoobfmfgbcohcabGreatDoorShelf
import Derived.Test.YtoobfmfgbcohcabGreatDoorEvL18
import Derived.Test.YtoobfmfgbcohcabGreatDoorWorks
import Derived.KernelRfl
namespace Go.Ev.AlertBoards
open Go Go.Ev Go.Proofs
set_option maxRecDepth 100000
set_option linter.unusedVariables false

/-- The listed tables. -/
noncomputable def fixes : List (Nat × List SV) := Go.Proofs.YtoobfmfgbcohcabGreatDoor.works.fixes
noncomputable def tb0 : Ent := fixE (4, intCells .u8 [0, 1, 28, 2, 29, 14, 24, 3, 30, 22, 20, 15, 25, 17, 4, 8, 31, 27, 13, 23, 21, 19, 16, 7, 26, 12, 18, 6, 11, 5, 10, 9])
noncomputable def tb1 : Ent := fixE (5, intCells .u8 [0, 1, 56, 2, 57, 49, 28, 3, 61, 58, 42, 50, 38, 29, 17, 4, 62, 47, 59, 36, 45, 43, 51, 22, 53, 39, 33, 30, 24, 18, 12, 5, 63, 55, 48, 27, 60, 41, 37, 16, 46, 35, 44, 21, 52, 32, 23, 11, 54, 26, 40, 15, 34, 20, 31, 10, 25, 14, 19, 9, 13, 8, 7, 6])
noncomputable def tb2 : Ent := fixE (3, intCells .u64 [1, 10, 100, 1000, 10000, 100000, 1000000, 10000000, 100000000, 1000000000, 10000000000, 100000000000, 1000000000000, 10000000000000, 100000000000000, 1000000000000000, 10000000000000000, 100000000000000000, 1000000000000000000, 10000000000000000000])
/-- works() comes to true. -/
def works (_ : Nat) : Option Bool := some true
theorem zal {Fr : Rd} {H : List Ent} {M : Mem} (hH : Has Fr M H) (h0 : tb0 ∈ H) (h1 : tb1 ∈ H) (h2 : tb2 ∈ H) : FixIn M fixes := by
  refine hH.fixIn fun x hx => ?_
  simp only [fixes, Go.Proofs.YtoobfmfgbcohcabGreatDoor.works.fixes, List.mem_cons, List.not_mem_nil, or_false] at hx
  rcases hx with rfl | rfl | rfl
  · exact h0
  · exact h1
  · exact h2

theorem zay (F : Nat) (r : Bool) {Fr : Rd} {H : List Ent} (M : Mem) (hH : Has Fr M H) (h0 : tb0 ∈ H) (h1 : tb1 ∈ H) (h2 : tb2 ∈ H) (h : works F = some r) : CallsM Tryz.prog 14 [] M fun s M' => s = .bool r ∧ M' = M := by
  cases h
  refine CallsM.closedFix (n := 300) (l := Go.Proofs.YtoobfmfgbcohcabGreatDoor.works.fixes) Go.Proofs.YtoobfmfgbcohcabGreatDoor.works.below Go.Proofs.YtoobfmfgbcohcabGreatDoor.works.plainF Go.Proofs.YtoobfmfgbcohcabGreatDoor.works.works_true (hH.fixIn fun x hx => ?_)
  simp only [Go.Proofs.YtoobfmfgbcohcabGreatDoor.works.fixes, List.mem_cons, List.not_mem_nil, or_false] at hx
  rcases hx with rfl | rfl | rfl
  · exact h0
  · exact h1
  · exact h2

/-- Numerals, by what is known of strconv.Itoa. -/
def itoa (_ : Nat) (n : Int) : Option (List UInt8) := bif decide (-9223372036854775808 ≤ n) && decide (n ≤ 9223372036854775807) then some (Lib.itoa n) else none
theorem zbc (w : World) (k : Nat) (os : Array Obj) : Go.RowKit.Below w.heap.size w (Sort.grow (w.drewN k) os) :=
  ⟨rfl, rfl, rfl, by simp [Sort.grow, World.drewN], fun i hi => by simp [Sort.grow, World.drewN, Array.getElem?_append, hi]⟩
theorem zd7 (F : Nat) (a0 : Int) (r : List UInt8) (M : Mem) (hfx : FixIn M fixes) (h : itoa F a0 = some r) : CallsM Tryz.prog 270 [.int .i64 a0] M fun s M' => s = .str r ∧ M' = M := by
  unfold itoa at h
  cases hb : (decide (-9223372036854775808 ≤ a0) && decide (a0 ≤ 9223372036854775807)) with
  | false => rw [hb] at h; simp at h
  | true =>
    rw [hb] at h
    obtain rfl := Option.some.inj h
    rw [Bool.and_eq_true, decide_eq_true_eq, decide_eq_true_eq] at hb
    refine CallsM.known (n := 300) (l := fixes) (vs := [.int .i64 a0]) (v := .string ⟨(Lib.itoa a0).toArray⟩) (fun _ => rfl) (fun _ => rfl) Go.Proofs.YtoobfmfgbcohcabGreatDoor.works.below Go.Proofs.YtoobfmfgbcohcabGreatDoor.works.plainF (fun w m hr => ?_) hfx
    refine (Tryz.strconv_Itoa a0 hb.1 hb.2 w (tab_is hr (List.mem_of_getElem? (i := 2) rfl) rfl (by kernel_rfl))).mono ?_
    rintro e w' ⟨rfl, k, os, rfl⟩
    exact ⟨rfl, zbc w k os⟩


structure S_api_Key where
  Modulus : Int
  Exponent : Int

structure S_api_Roll where
  Keys : (List S_api_Key)
  Quorum : Int

structure S_api_Chance where
  N : Int
  Of : Int

structure S_api_Alert where
  Event : (List UInt8)
  Version : Int
  Time : Int
  Chance : S_api_Chance
  Grid : Int
  Cells : (List Int)
  Withdrawn : Bool
  Before : Int

structure S_api_Signature where
  Signer : Int
  Number : Int

structure S_api_Notice where
  Alert : S_api_Alert
  Signatures : (List S_api_Signature)

abbrev k0 (a0 : List UInt8) (a1 : Int) (a2 : Int) (a3 : Int) (a4 : Int) (a5 : Int) (a6 : SV) (a7 : Bool) (a8 : Int) : List SV := [(.str a0), (.int .i64 a1), (.int .i64 a2), (.int .i64 a3), (.int .i64 a4), (.int .i64 a5), a6, (.bool a7), (.int .i64 a8)]
abbrev k1 (a0 : List UInt8) (a1 : Int) (a2 : Int) (a3 : Int) (a4 : Int) (a5 : Int) (a6 : SV) (a7 : Bool) (a8 : Int) (a9 : SV) : List SV := [(.str a0), (.int .i64 a1), (.int .i64 a2), (.int .i64 a3), (.int .i64 a4), (.int .i64 a5), a6, (.bool a7), (.int .i64 a8), a9]
abbrev r0 (a : S_api_Alert) (s0 : SV) : List SV := [(.str a.Event), (.int .i64 a.Version), (.int .i64 a.Time), (.int .i64 a.Chance.N), (.int .i64 a.Chance.Of), (.int .i64 a.Grid), s0, (.bool a.Withdrawn), (.int .i64 a.Before)]
abbrev r1 (a : S_api_Alert) (s0 : SV) (s1 : SV) : List SV := [(.str a.Event), (.int .i64 a.Version), (.int .i64 a.Time), (.int .i64 a.Chance.N), (.int .i64 a.Chance.Of), (.int .i64 a.Grid), s0, (.bool a.Withdrawn), (.int .i64 a.Before), s1]
section
variable {P : Program} {fx : Fx} {n : Nat} {Q : SV → Mem → Prop} {e : Env} {k : List SItem} {M : Mem} {all : Array Oper} {i : Nat} {op : Op} {ty : TypeId} {pos : String} {af : Array Edge} {d : Option Tmp} {s : SV} {L : List Nat} {r : List PE} {q : List Oper} {x : Operand} {j : Nat} {w : Bool} {t : Tmp} {c : Bool} {R : SV → Mem → Prop}
theorem og (hx : execO P M (treeOf e) op = .val s M) (hd : okD d n = true) (next : Run P fx n Q (putE d s e) (.ops all q :: k) M) : Run P fx n Q e (.ops all (⟨d, op, ty, pos, af, none⟩ :: q) :: k) M := Run.opG wantS_none hx hd next
theorem mv (h : ar e x = some s) (hd : okD d n = true) (next : Run P fx n Q (putE d s e) (.ops all q :: k) M) : Run P fx n Q e (.ops all (⟨d, .move x, ty, pos, af, none⟩ :: q) :: k) M := Run.opG wantS_none (ex_move h) hd next
theorem av (h : ar e x = some s) (hd : okD d n = true) (next : Run P fx n Q (putE d s e) (.ops all q :: k) M) : Run P fx n Q e (.ops all (⟨d, .assign x, ty, pos, af, none⟩ :: q) :: k) M := Run.opG wantS_none (ex_assign h) hd next
theorem ox (hd : okD d n = true) (hx : ExG P M e op R) (next : ∀ v M', R v M' → Run P fx n Q (putE d v e) (.ops all q :: k) M') : Run P fx n Q e (.ops all (⟨d, op, ty, pos, af, none⟩ :: q) :: k) M := Run.opX wantS_none hd hx next
theorem gy (h : (all[j]?).bind (·.dst) = some t) (hb : lk t e = some (.bool c)) (hc : c = w) (hx : execO P M (treeOf e) op = .val s M) (hd : okD d n = true) (next : Run P fx n Q (putE d s e) (.ops all q :: k) M) : Run P fx n Q e (.ops all (⟨d, op, ty, pos, af, some (j, w)⟩ :: q) :: k) M := Run.opG (wantS_yes' h hb hc) hx hd next
theorem gn (h : (all[j]?).bind (·.dst) = some t) (hb : lk t e = some (.bool c)) (hc : c = !w) (hd : okD d n = true) (next : Run P fx n Q (putE d (.tuple []) e) (.ops all q :: k) M) : Run P fx n Q e (.ops all (⟨d, op, ty, pos, af, some (j, w)⟩ :: q) :: k) M := Run.no (wantS_not' h hb hc) hd next
theorem df (ho : all[i]? = some ⟨d, op, ty, pos, af, none⟩) (hx : execO P M (treeOf e) op = .val s M) (hd : okD d n = true) (h : DrawG P fx n Q all k r (putE d s e) M) : DrawG P fx n Q all k (.fl i :: r) e M := DrawG.fl ho (ev_ex wantS_none hx) hd h
theorem dy (ho : all[i]? = some ⟨d, op, ty, pos, af, some (j, w)⟩) (h1 : (all[j]?).bind (·.dst) = some t) (hb : lk t e = some (.bool c)) (hc : c = w) (hx : execO P M (treeOf e) op = .val s M) (hd : okD d n = true) (h : DrawG P fx n Q all k r (putE d s e) M) : DrawG P fx n Q all k (.fl i :: r) e M := DrawG.fl ho (ev_ex (wantS_yes' h1 hb hc) hx) hd h
theorem dn (ho : all[i]? = some ⟨d, op, ty, pos, af, some (j, w)⟩) (h1 : (all[j]?).bind (·.dst) = some t) (hb : lk t e = some (.bool c)) (hc : c = !w) (hd : okD d n = true) (h : DrawG P fx n Q all k r (putE d (.tuple []) e) M) : DrawG P fx n Q all k (.fl i :: r) e M := DrawG.fl ho (ev_no (wantS_not' h1 hb hc)) hd h
end


def enc108 (a : S_api_Key) : List SV := [(.int .i64 a.Modulus), (.int .i64 a.Exponent)]
theorem z59 (a : S_api_Key) : (enc108 a).length = 2 := rfl
theorem za2 (a : S_api_Key) : ones (enc108 a) = true := rfl
def enc3 (a : Int) : List SV := [(.int .i64 a)]
theorem z0i (a : Int) : (enc3 a).length = 1 := rfl
theorem zb5 (a : Int) : ones (enc3 a) = true := rfl
def enc123 (a : S_api_Signature) : List SV := [(.int .i64 a.Signer), (.int .i64 a.Number)]
theorem z12 (a : S_api_Signature) : (enc123 a).length = 2 := rfl
theorem z7x (a : S_api_Signature) : ones (enc123 a) = true := rfl
def rep36 (f : Rd) (cs : List SV) (a : S_api_Notice) : Prop := ∃ q1 q2, cs = [(.str a.Alert.Event), (.int .i64 a.Alert.Version), (.int .i64 a.Alert.Time), (.int .i64 a.Alert.Chance.N), (.int .i64 a.Alert.Chance.Of), (.int .i64 a.Alert.Grid), q1, (.bool a.Alert.Withdrawn), (.int .i64 a.Alert.Before), q2] ∧ Slc f 1 (FlatR enc3) q1 a.Alert.Cells ∧ Slc f 2 (FlatR enc123) q2 a.Signatures
theorem z02 {f g : Rd} (h : RdLe f g) {cs : List SV} {a : S_api_Notice} : rep36 f cs a → rep36 g cs a := by
 rintro ⟨q1, q2, rfl, h0, h1⟩
 exact ⟨q1, q2, rfl, h0.mono h (fun _ _ h => h), h1.mono h (fun _ _ h => h)⟩
theorem z4x {f : Rd} {cs : List SV} {a : S_api_Notice} : rep36 f cs a → ones cs = true := by
 rintro ⟨_, _, rfl, h0, h1⟩
 exact (ones_cons rfl (ones_cons rfl (ones_cons rfl (ones_cons rfl (ones_cons rfl (ones_cons rfl (ones_cons (slc_one h0) (ones_cons rfl (ones_cons rfl (ones_cons (slc_one h1) ones_nil))))))))))
theorem zb6 : zerosOf Tryz.prog 36 = some [(.str []), (.int .i64 0), (.int .i64 0), (.int .i64 0), (.int .i64 0), (.int .i64 0), .nils, (.bool false), (.int .i64 0), .nils] := by kernel_rfl
theorem zew : placesOf Tryz.prog 36 = some (.st [(0, 9), (9, 1)]) := by kernel_rfl
theorem zgs : makeK Tryz.prog 7 = none := by kernel_rfl
theorem zgf : callable Tryz.prog 7 = true := by kernel_rfl
theorem zau : makeK Tryz.prog 35 = none := by kernel_rfl
theorem zat : callable Tryz.prog 35 = true := by kernel_rfl
theorem z8i : eqK Tryz.prog 26 = some .ptr := by kernel_rfl
abbrev z1y (g : List UInt8) (n e m b a d : Int) (Fr0 : Rd) (Hr : List Ent) (r : Int) : SV → Mem → Prop := fun s Me => s = (.int .i64 r) ∧ Has Fr0 Me (([tb0, tb1, tb2] : List Ent) ++ Hr)

def alert_Board_Post_h1 (F : Nat) (g : List UInt8) (n e m b a d : Int) : Option (Int) :=
 some (1 : Int)

theorem z6i (F : Nat) : ∀ (n : List UInt8) (p m a g e d : Int) (Fr0 : Rd) (Hr : List Ent) (M : Mem) (r : Int) (hH : Has Fr0 M (([tb0, tb1, tb2] : List Ent) ++ Hr)) (h : alert_Board_Post_h1 F n p m a g e d = some r), CallsM Tryz.prog 7 [.nilp, (.agg (k1 n p m a g e .nils false d .nils))] M (z1y n p m a g e d Fr0 Hr r) := by
 intro n p m a g e d Fr0 Hr M r hH h
 refine CallsM.run Tryz.func7 rfl rfl (show Run _ _ _ (z1y n p m a g e d Fr0 Hr r) _ _ _ from ?_)
 rw [alert_Board_Post_h1] at h
 refine Run.seq (Run.region ?_)
 refine ox rfl (ExG.box rfl rfl hH) ?_
 rintro _ f ⟨s, rfl, (q : Has Fr0 f (([.obj s (.row 36 .whole (k1 n p m a g e .nils false d .nils)), tb0, tb1, tb2] : List Ent) ++ Hr))⟩
 refine av rfl rfl ?_
 refine Run.opsEnd (Run.seq (Run.seq (Run.region ?_)))
 refine mv rfl rfl <| Run.enter wantS_none (ex_call rfl zau zat) Tryz.func35 rfl rfl ?_
 refine Run.seq (Run.region ?_)
 refine av rfl rfl ?_
 refine Run.opsEnd (Run.seq (Run.region ?_))
 refine mv rfl rfl <| og (ex_ptrNNn rfl rfl z8i) rfl <| mv rfl rfl <| gn rfl rfl rfl rfl <| gn rfl rfl rfl rfl <| gn rfl rfl rfl rfl <| gn rfl rfl rfl rfl <| gn rfl rfl rfl rfl <| gn rfl rfl rfl rfl <| og (ex_pickF' rfl rfl rfl rfl) rfl <| av rfl rfl <| Run.opsEnd <| Run.retTo Tryz.func35 rfl (res_tmp rfl res_nil) rfl <| og (ex_not rfl) rfl <| Run.opsEnd <| Run.condT' rfl rfl ?_
 refine Run.seq (Run.region ?_)
 refine av rfl rfl <| Run.opsEnd ?_
 cases h
 exact Run.ret Tryz.func7 rfl (res_tmp rfl res_nil) ⟨rfl, (q.pickT [1, 2, 3] rfl rfl).upF (fun b c hb => q.base b c hb)⟩

theorem zd4 : zerosOf Tryz.prog 41 = some [.nils, (.int .i64 0), .nils, .nilp] := by kernel_rfl
theorem zdc : placesOf Tryz.prog 41 = some (.st [(0, 2), (2, 1), (3, 1)]) := by kernel_rfl
theorem z8a : fieldOff Tryz.prog 41 2 = some 3 := by kernel_rfl
theorem zbs : aggSize Tryz.prog 26 = some none := by kernel_rfl
abbrev z21 (n : List UInt8) (q m p e d g a : Int) (b : Pos) (Fr0 : Rd) (Hr : List Ent) (r : Int) : SV → Mem → Prop := fun s Me => s = (.int .i64 r) ∧ Has Fr0 Me (([.obj b (.row 41 .whole [.nils, (.int .i64 a), .nils, .nilp]), tb0, tb1, tb2] : List Ent) ++ Hr)

def alert_Board_Post_h2 (F : Nat) (m : List UInt8) (p g n d b e a : Int) : Option (Int) :=
 some (1 : Int)

theorem z63 (F : Nat) : ∀ (p : List UInt8) (q n d m g e a : Int) (s : Pos) (Fr0 : Rd) (Hr : List Ent) (M : Mem) (r : Int) (hH : Has Fr0 M (([.obj s (.row 41 .whole [.nils, (.int .i64 a), .nils, .nilp]), tb0, tb1, tb2] : List Ent) ++ Hr)) (h : alert_Board_Post_h2 F p q n d m g e a = some r), CallsM Tryz.prog 7 [(.ptr s 0), (.agg (k1 p q n d m g .nils false e .nils))] M (z21 p q n d m g e a s Fr0 Hr r) := by
 intro p q n d m g e a s Fr0 Hr M r hH h
 refine CallsM.run Tryz.func7 rfl rfl (show Run _ _ _ (z21 p q n d m g e a s Fr0 Hr r) _ _ _ from ?_)
 rw [alert_Board_Post_h2] at h
 refine Run.seq (Run.region ?_)
 refine ox rfl (ExG.box rfl rfl hH) ?_
 rintro _ f ⟨w, rfl, (u : Has Fr0 f (([.obj w (.row 36 .whole (k1 p q n d m g .nils false e .nils)), .obj s (.row 41 .whole [.nils, (.int .i64 a), .nils, .nilp]), tb0, tb1, tb2] : List Ent) ++ Hr))⟩
 refine av rfl rfl ?_
 refine Run.opsEnd (Run.seq (Run.seq (Run.region ?_)))
 refine mv rfl rfl <| Run.enter wantS_none (ex_call rfl zau zat) Tryz.func35 rfl rfl ?_
 refine Run.seq (Run.region ?_)
 refine av rfl rfl ?_
 refine Run.opsEnd (Run.seq (Run.region ?_))
 refine mv rfl rfl <| og (ex_ptrPNn rfl rfl z8i) rfl <| mv rfl rfl <| gy rfl rfl rfl (ex_move rfl) rfl <| gy rfl rfl rfl (ex_nilP rfl) rfl <| gy rfl rfl rfl (ex_fieldAddr rfl z8a) rfl <| gy rfl rfl rfl (ex_load1 rfl (u.cells (i := 1) rfl 3 rfl) rdLe_rfl zbs) rfl <| gy rfl rfl rfl (ex_move rfl) rfl <| gy rfl rfl rfl (ex_ptrNP rfl rfl z8i) rfl <| og (ex_pickT' rfl rfl rfl rfl) rfl <| av rfl rfl <| Run.opsEnd <| Run.retTo Tryz.func35 rfl (res_tmp rfl res_nil) rfl <| og (ex_not rfl) rfl <| Run.opsEnd <| Run.condT' rfl rfl ?_
 refine Run.seq (Run.region ?_)
 refine av rfl rfl <| Run.opsEnd ?_
 cases h
 exact Run.ret Tryz.func7 rfl (res_tmp rfl res_nil) ⟨rfl, (u.pickT [1, 2, 3, 4] rfl rfl).upF (fun b c hb => u.base b c hb)⟩

theorem zhv : makeK Tryz.prog 8 = none := by kernel_rfl
theorem zhx : callable Tryz.prog 8 = true := by kernel_rfl
abbrev z1a (Fr0 : Rd) (Hr : List Ent) (r : List S_api_Notice) : SV → Mem → Prop := fun s Me => ∃ q1, s = q1 ∧ ∃ F9 : Rd, RdLe Fr0 F9 ∧ ∃ c1 : List SV, Rows (rep36 F9) 10 c1 r ∧ Has F9 Me (([.vec 36 10 r.length q1 c1, tb0, tb1, tb2] : List Ent) ++ Hr)

def alert_Board_Notices_h1 (F : Nat) : Option ((List S_api_Notice)) :=
 some ([] : List S_api_Notice)

theorem z4u (F : Nat) : ∀ (Fr0 : Rd) (Hr : List Ent) (M : Mem) (r : List S_api_Notice) (hH : Has Fr0 M (([tb0, tb1, tb2] : List Ent) ++ Hr)) (h : alert_Board_Notices_h1 F = some r), CallsM Tryz.prog 8 [.nilp] M (z1a Fr0 Hr r) := by
 intro Fr0 Hr M r hH h
 refine CallsM.run Tryz.func8 rfl rfl (show Run _ _ _ (z1a Fr0 Hr r) _ _ _ from ?_)
 rw [alert_Board_Notices_h1] at h
 refine Run.seq (Run.region ?_)
 refine av rfl rfl ?_
 refine Run.opsEnd (Run.seq (Run.seq (Run.region ?_)))
 refine mv rfl rfl <| Run.enter wantS_none (ex_call rfl zau zat) Tryz.func35 rfl rfl ?_
 refine Run.seq (Run.region ?_)
 refine av rfl rfl ?_
 refine Run.opsEnd (Run.seq (Run.region ?_))
 refine mv rfl rfl <| og (ex_ptrNNn rfl rfl z8i) rfl <| mv rfl rfl <| gn rfl rfl rfl rfl <| gn rfl rfl rfl rfl <| gn rfl rfl rfl rfl <| gn rfl rfl rfl rfl <| gn rfl rfl rfl rfl <| gn rfl rfl rfl rfl <| og (ex_pickF' rfl rfl rfl rfl) rfl <| av rfl rfl <| Run.opsEnd <| Run.retTo Tryz.func35 rfl (res_tmp rfl res_nil) rfl <| og (ex_not rfl) rfl <| Run.opsEnd <| Run.condT' rfl rfl ?_
 refine Run.seq (Run.region ?_)
 refine av rfl rfl <| Run.opsEnd ?_
 have a : Has Fr0 M (([.vec 36 10 ([] : List S_api_Notice).length .nils [], tb0, tb1, tb2] : List Ent) ++ Hr) := hH.nils 36 10
 cases h
 exact Run.ret Tryz.func8 rfl (res_tmp rfl res_nil) ⟨_, rfl, Fr0, (fun b c hb => hb), [], Rows.nil, a.pickT [0, 1, 2, 3] rfl rfl⟩

theorem z4n : lenK Tryz.prog 25 = some .sl := by kernel_rfl
theorem zhw : makeK Tryz.prog 9 = none := by kernel_rfl
theorem zht : callable Tryz.prog 9 = true := by kernel_rfl
theorem z9n : lenK Tryz.prog 43 = some .sl := by kernel_rfl
theorem zcx : makeK Tryz.prog 10 = none := by kernel_rfl
theorem zcz : callable Tryz.prog 10 = true := by kernel_rfl
theorem z3v : zerosOf Tryz.prog 33 = some [(.str []), (.int .i64 0), (.int .i64 0), (.int .i64 0), (.int .i64 0), (.int .i64 0), .nils, (.bool false), (.int .i64 0)] := by kernel_rfl
theorem zbe : placesOf Tryz.prog 33 = some (.st [(0, 1), (1, 1), (2, 1), (3, 2), (5, 1), (6, 1), (7, 1), (8, 1)]) := by kernel_rfl
theorem z9x : szOf Tryz.prog 33 = some 9 := by kernel_rfl
theorem z0m : aggSize Tryz.prog 33 = some (some 9) := by kernel_rfl
abbrev z1k (d : List UInt8) (a : Int) (b : Pos) (Fr0 : Rd) (Hr : List Ent) (r : (List UInt8) × Int × Int × Int × Int × Int × (List Int) × Bool × Int × Int) : SV → Mem → Prop := fun s Me => ∃ q1, s = (.tuple [(.agg (k0 r.1 r.2.1 r.2.2.1 r.2.2.2.1 r.2.2.2.2.1 r.2.2.2.2.2.1 q1 r.2.2.2.2.2.2.2.1 r.2.2.2.2.2.2.2.2.1)), (.int .i64 r.2.2.2.2.2.2.2.2.2)]) ∧ Has Fr0 Me (([.vec 3 1 r.2.2.2.2.2.2.1.length q1 (r.2.2.2.2.2.2.1.flatMap enc3), .obj b (.row 41 .whole [.nils, (.int .i64 a), .nils, .nilp]), tb0, tb1, tb2] : List Ent) ++ Hr)

def alert_Board_Force_h1 (F : Nat) (b : List UInt8) (a : Int) : Option ((List UInt8) × Int × Int × Int × Int × Int × (List Int) × Bool × Int × Int) :=
 some ([], (0 : Int), (0 : Int), (0 : Int), (0 : Int), (0 : Int), ([] : List Int), false, (0 : Int), (1 : Int))

theorem z5o (F : Nat) : ∀ (e : List UInt8) (a : Int) (d : Pos) (Fr0 : Rd) (Hr : List Ent) (M : Mem) (r : (List UInt8) × Int × Int × Int × Int × Int × (List Int) × Bool × Int × Int) (hH : Has Fr0 M (([.obj d (.row 41 .whole [.nils, (.int .i64 a), .nils, .nilp]), tb0, tb1, tb2] : List Ent) ++ Hr)) (h : alert_Board_Force_h1 F e a = some r), CallsM Tryz.prog 10 [(.ptr d 0), (.str e)] M (z1k e a d Fr0 Hr r) := by
 intro e a d Fr0 Hr M r hH h
 refine CallsM.run Tryz.func10 rfl rfl (show Run _ _ _ (z1k e a d Fr0 Hr r) _ _ _ from ?_)
 rw [alert_Board_Force_h1] at h
 refine Run.seq (Run.region ?_)
 refine ox rfl (ExG.new (v := fun b => .ptr b 0) (ex_alloc z3v) hH) ?_
 rintro _ q ⟨f, rfl, (m : Has Fr0 q (([.obj f (.row 33 .whole (k0 [] 0 0 0 0 0 .nils false 0)), .obj d (.row 41 .whole [.nils, (.int .i64 a), .nils, .nilp]), tb0, tb1, tb2] : List Ent) ++ Hr))⟩
 refine av rfl rfl ?_
 refine Run.opsEnd (Run.seq (Run.seq (Run.region ?_)))
 refine mv rfl rfl <| Run.enter wantS_none (ex_call rfl zau zat) Tryz.func35 rfl rfl ?_
 refine Run.seq (Run.region ?_)
 refine av rfl rfl ?_
 refine Run.opsEnd (Run.seq (Run.region ?_))
 refine mv rfl rfl <| og (ex_ptrPNn rfl rfl z8i) rfl <| mv rfl rfl <| gy rfl rfl rfl (ex_move rfl) rfl <| gy rfl rfl rfl (ex_nilP rfl) rfl <| gy rfl rfl rfl (ex_fieldAddr rfl z8a) rfl <| gy rfl rfl rfl (ex_load1 rfl (m.cells (i := 1) rfl 3 rfl) rdLe_rfl zbs) rfl <| gy rfl rfl rfl (ex_move rfl) rfl <| gy rfl rfl rfl (ex_ptrNP rfl rfl z8i) rfl <| og (ex_pickT' rfl rfl rfl rfl) rfl <| av rfl rfl <| Run.opsEnd <| Run.retTo Tryz.func35 rfl (res_tmp rfl res_nil) rfl <| og (ex_not rfl) rfl <| Run.opsEnd <| Run.condT' rfl rfl ?_
 refine Run.seq (Run.region ?_)
 refine og (ex_build (r := (k0 [] 0 0 0 0 0 .nils false 0)) rfl z3v zbe rfl) rfl <| ox rfl (ExG.storeC (c' := (k0 [] 0 0 0 0 0 .nils false 0)) rfl rfl rfl m (i := 0) rfl z9x rfl rfl rfl rfl rfl) ?_
 rintro _ p ⟨rfl, (g : Has Fr0 p (([.obj f (.row 33 .whole (k0 [] 0 0 0 0 0 .nils false 0)), .obj d (.row 41 .whole [.nils, (.int .i64 a), .nils, .nilp]), tb0, tb1, tb2] : List Ent) ++ Hr))⟩
 refine av rfl rfl <| Run.opsEnd ?_
 have n : Has Fr0 p (([.vec 3 1 ([] : List Int).length .nils (([] : List Int).flatMap enc3), .obj f (.row 33 .whole (k0 [] 0 0 0 0 0 .nils false 0)), .obj d (.row 41 .whole [.nils, (.int .i64 a), .nils, .nilp]), tb0, tb1, tb2] : List Ent) ++ Hr) := g.nils 3 1
 cases h
 exact Run.ret Tryz.func10 rfl (res_cell rfl (x_load (ex_loadA rfl (g.cells (i := 0) rfl 0 rfl) rdLe_rfl z0m rfl rfl rfl)) (res_tmp rfl res_nil)) ⟨_, rfl, (n.pickT [0, 2, 3, 4, 5] rfl rfl).upF (fun b c hb => n.base b c hb)⟩

theorem z10 : fieldOff Tryz.prog 33 0 = some 0 := by kernel_rfl
theorem zam : aggSize Tryz.prog 9 = some none := by kernel_rfl
theorem z3r : fieldOff Tryz.prog 33 1 = some 1 := by kernel_rfl
theorem z0c : aggSize Tryz.prog 3 = some none := by kernel_rfl
theorem z4q : fieldOff Tryz.prog 33 2 = some 2 := by kernel_rfl
theorem z2q : fieldOff Tryz.prog 33 3 = some 3 := by kernel_rfl
theorem zdb : aggSize Tryz.prog 30 = some (some 2) := by kernel_rfl
theorem zg5 : aggK Tryz.prog 3 = some .int := by kernel_rfl
theorem zhc : aggK Tryz.prog 30 = some (.st [⟨ "N", 3, 0, false, "", "", 0⟩, ⟨ "Of", 3, 1, false, "", "", 8⟩]) := by kernel_rfl
theorem zgm : aggEq Tryz.prog 30 = false := by kernel_rfl
theorem z3w : fieldOff Tryz.prog 33 4 = some 5 := by kernel_rfl
theorem z16 : fieldOff Tryz.prog 33 5 = some 6 := by kernel_rfl
theorem z7y : aggSize Tryz.prog 31 = some none := by kernel_rfl
theorem z8t : lenK Tryz.prog 31 = some .sl := by kernel_rfl
theorem zb7 : elems Tryz.prog 31 = some (.sl 1) := by kernel_rfl
theorem z4c : planOf Tryz.prog (opsC (atC Tryz.prog 29 [1, 1, 0, 1, 0, 0, 1, 0, 0, 0])) = some [.fl 0, .fl 1, .fl 2, .fl 3, .fl 4, .fl 5, .fl 6, .fl 7, .fl 8, .sync] := by kernel_rfl
abbrev z3u (r : Bool) : SV → Mem → Prop := fun s _ => s = (.bool r)

def ref00_SameInts_1 (F : Nat) : Nat → List Int → List Int → Int → Option (Bool)
 | 0, _, _, _ => none
 | N + 1, v0, v1, v5 =>
  bif (decide (v5 < (v0.length : Int))) then
   bnd (idx v0 v5) fun b =>
   bnd (idx v1 v5) fun a =>
   bif (!(b == a)) then
    some false
   else
    (ref00_SameInts_1 F N) v0 v1 (w64 (v5 + (1 : Int)))
  else
   some true

theorem z80 (F : Nat) : ∀ (N : Nat), ∀ (v0 v1 : List Int) (v5 : Int) (m c : SV) (Fr : Rd) (M : Mem) (r : Bool) (f : Slc Fr 1 (FlatR enc3) m v0) (p : Slc Fr 1 (FlatR enc3) c v1) (hH : Has Fr M []), ref00_SameInts_1 F N v0 v1 v5 = some r → Run Tryz.prog ⟨⟨29, [], none⟩, []⟩ 26 (z3u r) [(0, m), (1, c), (5, (.int .i64 v5))] [codeC Tryz.prog 29 [1, 1, 0, 1, 0, 0], loopC Tryz.prog 29 [1, 1, 0, 1, 0, 0], .inBlock 0, codeC Tryz.prog 29 [1, 1, 1]] M := by
 intro N
 induction N with
 | zero =>
  intro v0 v1 v5 m c Fr M r f p hH h
  simp [ref00_SameInts_1] at h
 | succ N ih =>
  intro v0 v1 v5 m c Fr M r f p hH h
  rw [ref00_SameInts_1] at h
  refine Run.seq (Run.seq (Run.region ?_))
  refine mv rfl rfl <| mv rfl rfl <| og (ex_len' rfl f z8t) rfl <| og (ex_lss rfl rfl) rfl <| Run.opsEnd ?_
  rcases btf ((decide (v5 < (v0.length : Int)))) with hc22 | hc22
  ·have h := bif_t hc22 h
   refine Run.condT' rfl hc22 ?_
   refine Run.skip (Run.seq (Run.block (Run.seq ?_)))
   refine Run.drawG z4c <| df rfl (ex_move rfl) rfl <| df rfl (ex_move rfl) rfl ?_
   obtain ⟨s, d, h⟩ := bnd_some h
   obtain ⟨w, u, _, d, e, rfl⟩ := sl_elem (P := Tryz.prog) (t := 31) (kk := .i64) f d zb7
   refine df rfl (ex_elX rfl rfl d) rfl <| df rfl (ex_load1 rfl (hH.ptrF e) rdLe_rfl z0c) rfl <| df rfl (ex_move rfl) rfl <| df rfl (ex_move rfl) rfl ?_
   obtain ⟨q, b, h⟩ := bnd_some h
   obtain ⟨y, x, _, b, g, rfl⟩ := sl_elem (P := Tryz.prog) (t := 31) (kk := .i64) p b zb7
   refine df rfl (ex_elX rfl rfl b) rfl <| df rfl (ex_load1 rfl (hH.ptrF g) rdLe_rfl z0c) rfl <| df rfl (ex_neq rfl rfl) rfl <| DrawG.sync <| DrawG.nil ?_
   rcases btf ((!(s == q))) with a | a
   ·have h := bif_t a h
    refine Run.condT' rfl a ?_
    refine Run.seq (Run.region ?_)
    refine av rfl rfl <| Run.opsEnd ?_
    cases h
    exact Run.ret Tryz.func29 rfl (res_tmp rfl res_nil) rfl
   ·have h := bif_f a h
    refine Run.condF' rfl a ?_
    refine Run.skip (Run.inBlock (Run.region ?_))
    refine mv rfl rfl <| og (ex_add rfl rfl) rfl <| av rfl rfl ?_
    refine Run.opsEnd (Run.inLoop ?_)
    exact Run.pick [0, 1, 5] (ih v0 v1 (w64 (v5 + (1 : Int))) m c _ _ _ f p hH h)
  ·have h := bif_f hc22 h
   refine Run.condF' rfl hc22 ?_
   refine Run.exit rfl (Run.seq (Run.region ?_))
   refine av rfl rfl <| Run.opsEnd ?_
   cases h
   exact Run.ret Tryz.func29 rfl (res_tmp rfl res_nil) rfl

def ref00_SameInts (F : Nat) (a0 a1 : List Int) : Option (Bool) :=
 bif (!((a0.length : Int) == (a1.length : Int))) then
  some false
 else
  ref00_SameInts_1 F F a0 a1 (0 : Int)

theorem z9j (F : Nat) (a0 a1 : List Int) (s0 s1 : SV) (r : Bool) (M : Mem) (b : Slc (rd M) 1 (FlatR enc3) s0 a0) (a : Slc (rd M) 1 (FlatR enc3) s1 a1) (h : ref00_SameInts F a0 a1 = some r) : CallsM Tryz.prog 29 [s0, s1] M (fun s M' => s = (.bool r) ∧ M' = M) := by
 refine CallsM.plain Tryz.func29 rfl rfl rfl (show Run _ _ _ (z3u r) _ _ _ from ?_)
 rw [ref00_SameInts] at h
 replace b := b.mono (rdLe_frozen M) (fun _ _ h => h)
 replace a := a.mono (rdLe_frozen M) (fun _ _ h => h)
 have hH := Has.nil (frozen M)
 refine Run.seq (Run.region ?_)
 refine av rfl rfl ?_
 refine Run.opsEnd (Run.seq (Run.seq (Run.region ?_)))
 refine mv rfl rfl <| og (ex_len' rfl b z8t) rfl <| mv rfl rfl <| og (ex_len' rfl a z8t) rfl <| og (ex_neq rfl rfl) rfl <| Run.opsEnd ?_
 rcases btf ((!((a0.length : Int) == (a1.length : Int)))) with hc21 | hc21
 ·have h := bif_t hc21 h
  refine Run.condT' rfl hc21 ?_
  refine Run.seq (Run.region ?_)
  refine av rfl rfl <| Run.opsEnd ?_
  cases h
  exact Run.ret Tryz.func29 rfl (res_tmp rfl res_nil) rfl
 ·have h := bif_f hc21 h
  refine Run.condF' rfl hc21 ?_
  refine Run.skip (Run.seq (Run.seq (Run.region ?_)))
  refine av rfl rfl ?_
  refine Run.opsEnd (Run.block (Run.loop ?_))
  exact Run.pick [0, 1, 5] (z80 F F a0 a1 (0 : Int) s0 s1 _ _ _ b a hH h)

theorem zgj : makeK Tryz.prog 29 = none := by kernel_rfl
theorem zgx : callable Tryz.prog 29 = true := by kernel_rfl
theorem z5n : fieldOff Tryz.prog 33 6 = some 7 := by kernel_rfl
theorem zc0 : aggSize Tryz.prog 4 = some none := by kernel_rfl
theorem zde : eqK Tryz.prog 4 = some .bool := by kernel_rfl
theorem z5k : fieldOff Tryz.prog 33 7 = some 8 := by kernel_rfl
abbrev z0g (r : Bool) : SV → Mem → Prop := fun s _ => s = (.bool r)

def ref10_Same_7 (F : Nat) (a : Bool) : Option (Bool) :=
 some a

theorem z7b (F : Nat) : ∀ (a : Bool) (Fr : Rd) (M : Mem) (r : Bool) (hH : Has Fr M []), ref10_Same_7 F a = some r → Run Tryz.prog ⟨⟨40, [], none⟩, []⟩ 59 (z0g r) [(58, (.bool a))] [itemC Tryz.prog 40 [1, 0] 54, codeC Tryz.prog 40 [1, 1]] M := by
 intro a Fr M r hH h
 rw [ref10_Same_7] at h
 refine av rfl rfl <| Run.opsEnd ?_
 cases h
 exact Run.ret Tryz.func40 rfl (res_tmp rfl res_nil) rfl

def ref10_Same_6 (F : Nat) (c : Bool) (a3 : List UInt8) (a1 e a2 s w : Int) (u : List Int) (d : Bool) (a : Int) (y : List UInt8) (m a0 n p g : Int) (q : List Int) (x : Bool) (b : Int) : Option (Bool) :=
 bif c then
  ref10_Same_7 F (a == b)
 else
  ref10_Same_7 F false

theorem z71 (F : Nat) : ∀ (c : Bool) (a6 : List UInt8) (a5 m y u w : Int) (a2 : List Int) (a0 : Bool) (b : Int) (a4 : List UInt8) (a1 x p q n : Int) (s : List Int) (a3 : Bool) (d : Int) (g e : SV) (a9 f : Pos) (Fr : Rd) (M : Mem) (r : Bool) (a8 : Slc Fr 1 (FlatR enc3) g a2) (a7 : Slc Fr 1 (FlatR enc3) e s) (hH : Has Fr M [.obj a9 (.row 33 .whole (k0 a6 a5 m y u w g a0 b)), .obj f (.row 33 .whole (k0 a4 a1 x p q n e a3 d))]), ref10_Same_6 F c a6 a5 m y u w a2 a0 b a4 a1 x p q n s a3 d = some r → Run Tryz.prog ⟨⟨40, [], none⟩, []⟩ 59 (z0g r) [(2, (.ptr a9 0)), (3, (.ptr f 0)), (51, (.bool c))] [itemC Tryz.prog 40 [1, 0] 47, codeC Tryz.prog 40 [1, 1]] M := by
 intro c a6 a5 m y u w a2 a0 b a4 a1 x p q n s a3 d g e a9 f Fr M r a8 a7 hH h
 rw [ref10_Same_6] at h
 refine mv rfl rfl ?_
 rcases btf (c) with a | a
 ·have h := bif_t a h
  refine gy rfl rfl a (ex_fieldAddr rfl z5k) rfl <| gy rfl rfl a (ex_load1 rfl (hH.cells (i := 0) rfl 8 rfl) rdLe_rfl z0c) rfl <| gy rfl rfl a (ex_fieldAddr rfl z5k) rfl <| gy rfl rfl a (ex_load1 rfl (hH.cells (i := 1) rfl 8 rfl) rdLe_rfl z0c) rfl <| gy rfl rfl a (ex_eql rfl rfl) rfl <| og (ex_pickT' rfl a rfl rfl) rfl ?_
  exact Run.pick [58] (z7b F (b == d) _ _ _ (hH.pick [] rfl rfl) h)
 ·have h := bif_f a h
  refine gn rfl rfl a rfl <| gn rfl rfl a rfl <| gn rfl rfl a rfl <| gn rfl rfl a rfl <| gn rfl rfl a rfl <| og (ex_pickF' rfl a rfl rfl) rfl ?_
  exact Run.pick [58] (z7b F false _ _ _ (hH.pick [] rfl rfl) h)

def ref10_Same_5 (F : Nat) (c : Bool) (a3 : List UInt8) (a1 d a2 s w : Int) (u : List Int) (a : Bool) (q : Int) (x : List UInt8) (g y m n e : Int) (p : List Int) (b : Bool) (a0 : Int) : Option (Bool) :=
 bif c then
  ref10_Same_6 F (a == b) a3 a1 d a2 s w u a q x g y m n e p b a0
 else
  ref10_Same_6 F false a3 a1 d a2 s w u a q x g y m n e p b a0

theorem z77 (F : Nat) : ∀ (a9 : Bool) (a6 : List UInt8) (a5 m a0 w x : Int) (a2 : List Int) (e : Bool) (u : Int) (a3 : List UInt8) (a1 y p q n : Int) (s : List Int) (g : Bool) (a4 : Int) (d b : SV) (f c : Pos) (Fr : Rd) (M : Mem) (r : Bool) (a8 : Slc Fr 1 (FlatR enc3) d a2) (a7 : Slc Fr 1 (FlatR enc3) b s) (hH : Has Fr M [.obj f (.row 33 .whole (k0 a6 a5 m a0 w x d e u)), .obj c (.row 33 .whole (k0 a3 a1 y p q n b g a4))]), ref10_Same_5 F a9 a6 a5 m a0 w x a2 e u a3 a1 y p q n s g a4 = some r → Run Tryz.prog ⟨⟨40, [], none⟩, []⟩ 59 (z0g r) [(2, (.ptr f 0)), (3, (.ptr c 0)), (44, (.bool a9))] [itemC Tryz.prog 40 [1, 0] 40, codeC Tryz.prog 40 [1, 1]] M := by
 intro a9 a6 a5 m a0 w x a2 e u a3 a1 y p q n s g a4 d b f c Fr M r a8 a7 hH h
 rw [ref10_Same_5] at h
 refine mv rfl rfl ?_
 rcases btf (a9) with a | a
 ·have h := bif_t a h
  refine gy rfl rfl a (ex_fieldAddr rfl z5n) rfl <| gy rfl rfl a (ex_load1 rfl (hH.cells (i := 0) rfl 7 rfl) rdLe_rfl zc0) rfl <| gy rfl rfl a (ex_fieldAddr rfl z5n) rfl <| gy rfl rfl a (ex_load1 rfl (hH.cells (i := 1) rfl 7 rfl) rdLe_rfl zc0) rfl <| gy rfl rfl a (ex_eqlB rfl rfl zde) rfl <| og (ex_pickT' rfl a rfl rfl) rfl ?_
  exact Run.pick [2, 3, 51] (z71 F (e == g) a6 a5 m a0 w x a2 e u a3 a1 y p q n s g a4 d b f c _ _ _ a8 a7 hH h)
 ·have h := bif_f a h
  refine gn rfl rfl a rfl <| gn rfl rfl a rfl <| gn rfl rfl a rfl <| gn rfl rfl a rfl <| gn rfl rfl a rfl <| og (ex_pickF' rfl a rfl rfl) rfl ?_
  exact Run.pick [2, 3, 51] (z71 F false a6 a5 m a0 w x a2 e u a3 a1 y p q n s g a4 d b f c _ _ _ a8 a7 hH h)

def ref10_Same_4 (F : Nat) (f : Bool) (a3 : List UInt8) (a1 e a2 s u : Int) (b : List Int) (d : Bool) (q : Int) (x : List UInt8) (m y n p g : Int) (a : List Int) (w : Bool) (a0 : Int) : Option (Bool) :=
 bif f then
  bnd (ref00_SameInts F b a) fun c =>
  ref10_Same_5 F c a3 a1 e a2 s u b d q x m y n p g a w a0
 else
  ref10_Same_5 F false a3 a1 e a2 s u b d q x m y n p g a w a0

theorem z7a (F : Nat) : ∀ (b0 : Bool) (a8 : List UInt8) (a7 m a1 w y : Int) (g : List Int) (a2 : Bool) (u : Int) (a5 : List UInt8) (a3 a0 q s n : Int) (e : List Int) (a4 : Bool) (a6 : Int) (d b : SV) (f c : Pos) (Fr : Rd) (M : Mem) (r : Bool) (x : Slc Fr 1 (FlatR enc3) d g) (p : Slc Fr 1 (FlatR enc3) b e) (hH : Has Fr M [.obj f (.row 33 .whole (k0 a8 a7 m a1 w y d a2 u)), .obj c (.row 33 .whole (k0 a5 a3 a0 q s n b a4 a6))]), ref10_Same_4 F b0 a8 a7 m a1 w y g a2 u a5 a3 a0 q s n e a4 a6 = some r → Run Tryz.prog ⟨⟨40, [], none⟩, []⟩ 59 (z0g r) [(2, (.ptr f 0)), (3, (.ptr c 0)), (37, (.bool b0))] [itemC Tryz.prog 40 [1, 0] 33, codeC Tryz.prog 40 [1, 1]] M := by
 intro b0 a8 a7 m a1 w y g a2 u a5 a3 a0 q s n e a4 a6 d b f c Fr M r x p hH h
 rw [ref10_Same_4] at h
 refine mv rfl rfl ?_
 rcases btf (b0) with a | a
 ·have h := bif_t a h
  refine gy rfl rfl a (ex_fieldAddr rfl z16) rfl <| gy rfl rfl a (ex_load1 rfl (hH.cells (i := 0) rfl 6 rfl) rdLe_rfl z7y) rfl <| gy rfl rfl a (ex_fieldAddr rfl z16) rfl <| gy rfl rfl a (ex_load1 rfl (hH.cells (i := 1) rfl 6 rfl) rdLe_rfl z7y) rfl ?_
  obtain ⟨b1, a9, h⟩ := bnd_some h
  refine Run.callP (wantS_yes' rfl rfl a) (ex_call rfl zgj zgx) rfl (z9j F g e d b _ _ (hH.slcF x) (hH.slcF p) a9) <| og (ex_pickT' rfl a rfl rfl) rfl ?_
  exact Run.pick [2, 3, 44] (z77 F b1 a8 a7 m a1 w y g a2 u a5 a3 a0 q s n e a4 a6 d b f c _ _ _ x p hH h)
 ·have h := bif_f a h
  refine gn rfl rfl a rfl <| gn rfl rfl a rfl <| gn rfl rfl a rfl <| gn rfl rfl a rfl <| gn rfl rfl a rfl <| og (ex_pickF' rfl a rfl rfl) rfl ?_
  exact Run.pick [2, 3, 44] (z77 F false a8 a7 m a1 w y g a2 u a5 a3 a0 q s n e a4 a6 d b f c _ _ _ x p hH h)

def ref10_Same_3 (F : Nat) (c : Bool) (a3 : List UInt8) (a1 e a2 s b : Int) (u : List Int) (d : Bool) (q : Int) (x : List UInt8) (g y m n a : Int) (p : List Int) (w : Bool) (a0 : Int) : Option (Bool) :=
 bif c then
  ref10_Same_4 F (b == a) a3 a1 e a2 s b u d q x g y m n a p w a0
 else
  ref10_Same_4 F false a3 a1 e a2 s b u d q x g y m n a p w a0

theorem z74 (F : Nat) : ∀ (a9 : Bool) (a6 : List UInt8) (a5 m x u g : Int) (a1 : List Int) (y : Bool) (s : Int) (a3 : List UInt8) (a0 w n p e : Int) (q : List Int) (a2 : Bool) (a4 : Int) (d b : SV) (f c : Pos) (Fr : Rd) (M : Mem) (r : Bool) (a8 : Slc Fr 1 (FlatR enc3) d a1) (a7 : Slc Fr 1 (FlatR enc3) b q) (hH : Has Fr M [.obj f (.row 33 .whole (k0 a6 a5 m x u g d y s)), .obj c (.row 33 .whole (k0 a3 a0 w n p e b a2 a4))]), ref10_Same_3 F a9 a6 a5 m x u g a1 y s a3 a0 w n p e q a2 a4 = some r → Run Tryz.prog ⟨⟨40, [], none⟩, []⟩ 59 (z0g r) [(2, (.ptr f 0)), (3, (.ptr c 0)), (30, (.bool a9))] [itemC Tryz.prog 40 [1, 0] 26, codeC Tryz.prog 40 [1, 1]] M := by
 intro a9 a6 a5 m x u g a1 y s a3 a0 w n p e q a2 a4 d b f c Fr M r a8 a7 hH h
 rw [ref10_Same_3] at h
 refine mv rfl rfl ?_
 rcases btf (a9) with a | a
 ·have h := bif_t a h
  refine gy rfl rfl a (ex_fieldAddr rfl z3w) rfl <| gy rfl rfl a (ex_load1 rfl (hH.cells (i := 0) rfl 5 rfl) rdLe_rfl z0c) rfl <| gy rfl rfl a (ex_fieldAddr rfl z3w) rfl <| gy rfl rfl a (ex_load1 rfl (hH.cells (i := 1) rfl 5 rfl) rdLe_rfl z0c) rfl <| gy rfl rfl a (ex_eql rfl rfl) rfl <| og (ex_pickT' rfl a rfl rfl) rfl ?_
  exact Run.pick [2, 3, 37] (z7a F (g == e) a6 a5 m x u g a1 y s a3 a0 w n p e q a2 a4 d b f c _ _ _ a8 a7 hH h)
 ·have h := bif_f a h
  refine gn rfl rfl a rfl <| gn rfl rfl a rfl <| gn rfl rfl a rfl <| gn rfl rfl a rfl <| gn rfl rfl a rfl <| og (ex_pickF' rfl a rfl rfl) rfl ?_
  exact Run.pick [2, 3, 37] (z7a F false a6 a5 m x u g a1 y s a3 a0 w n p e q a2 a4 d b f c _ _ _ a8 a7 hH h)

def ref10_Same_2 (F : Nat) (c : Bool) (a3 : List UInt8) (a2 m e d w : Int) (u : List Int) (g : Bool) (s : Int) (y : List UInt8) (p a0 a b n : Int) (q : List Int) (x : Bool) (a1 : Int) : Option (Bool) :=
 bif c then
  ref10_Same_3 F ((e == a) && ((d == b) && true)) a3 a2 m e d w u g s y p a0 a b n q x a1
 else
  ref10_Same_3 F false a3 a2 m e d w u g s y p a0 a b n q x a1

theorem z6t (F : Nat) : ∀ (a9 : Bool) (a6 : List UInt8) (a5 p n m w : Int) (a1 : List Int) (y : Bool) (u : Int) (a3 : List UInt8) (a0 x e g q : Int) (s : List Int) (a2 : Bool) (a4 : Int) (d b : SV) (f c : Pos) (Fr : Rd) (M : Mem) (r : Bool) (a8 : Slc Fr 1 (FlatR enc3) d a1) (a7 : Slc Fr 1 (FlatR enc3) b s) (hH : Has Fr M [.obj f (.row 33 .whole (k0 a6 a5 p n m w d y u)), .obj c (.row 33 .whole (k0 a3 a0 x e g q b a2 a4))]), ref10_Same_2 F a9 a6 a5 p n m w a1 y u a3 a0 x e g q s a2 a4 = some r → Run Tryz.prog ⟨⟨40, [], none⟩, []⟩ 59 (z0g r) [(2, (.ptr f 0)), (3, (.ptr c 0)), (23, (.bool a9))] [itemC Tryz.prog 40 [1, 0] 19, codeC Tryz.prog 40 [1, 1]] M := by
 intro a9 a6 a5 p n m w a1 y u a3 a0 x e g q s a2 a4 d b f c Fr M r a8 a7 hH h
 rw [ref10_Same_2] at h
 refine mv rfl rfl ?_
 rcases btf (a9) with a | a
 ·have h := bif_t a h
  refine gy rfl rfl a (ex_fieldAddr rfl z2q) rfl <| gy rfl rfl a (ex_loadA rfl (hH.cells (i := 0) rfl 3 rfl) rdLe_rfl zdb rfl rfl rfl) rfl <| gy rfl rfl a (ex_fieldAddr rfl z2q) rfl <| gy rfl rfl a (ex_loadA rfl (hH.cells (i := 1) rfl 3 rfl) rdLe_rfl zdb rfl rfl rfl) rfl <| gy rfl rfl a (ex_eqlA rfl rfl zgm (eqA_st zhc (eqFs_cons (by decide) (part_one z0c rfl) (part_one z0c rfl) (eqA_int zg5) (eqFs_cons (by decide) (part_one z0c rfl) (part_one z0c rfl) (eqA_int zg5) eqFs_nil)))) rfl <| og (ex_pickT' rfl a rfl rfl) rfl ?_
  exact Run.pick [2, 3, 30] (z74 F ((n == e) && ((m == g) && true)) a6 a5 p n m w a1 y u a3 a0 x e g q s a2 a4 d b f c _ _ _ a8 a7 hH h)
 ·have h := bif_f a h
  refine gn rfl rfl a rfl <| gn rfl rfl a rfl <| gn rfl rfl a rfl <| gn rfl rfl a rfl <| gn rfl rfl a rfl <| og (ex_pickF' rfl a rfl rfl) rfl ?_
  exact Run.pick [2, 3, 30] (z74 F false a6 a5 p n m w a1 y u a3 a0 x e g q s a2 a4 d b f c _ _ _ a8 a7 hH h)

def ref10_Same_1 (F : Nat) (c : Bool) (a3 : List UInt8) (a1 a a2 s w : Int) (u : List Int) (d : Bool) (q : Int) (y : List UInt8) (g b m n e : Int) (p : List Int) (x : Bool) (a0 : Int) : Option (Bool) :=
 bif c then
  ref10_Same_2 F (a == b) a3 a1 a a2 s w u d q y g b m n e p x a0
 else
  ref10_Same_2 F false a3 a1 a a2 s w u d q y g b m n e p x a0

theorem z7i (F : Nat) : ∀ (a9 : Bool) (a6 : List UInt8) (a5 e x u w : Int) (a1 : List Int) (y : Bool) (s : Int) (a3 : List UInt8) (a0 g n p m : Int) (q : List Int) (a2 : Bool) (a4 : Int) (d b : SV) (f c : Pos) (Fr : Rd) (M : Mem) (r : Bool) (a8 : Slc Fr 1 (FlatR enc3) d a1) (a7 : Slc Fr 1 (FlatR enc3) b q) (hH : Has Fr M [.obj f (.row 33 .whole (k0 a6 a5 e x u w d y s)), .obj c (.row 33 .whole (k0 a3 a0 g n p m b a2 a4))]), ref10_Same_1 F a9 a6 a5 e x u w a1 y s a3 a0 g n p m q a2 a4 = some r → Run Tryz.prog ⟨⟨40, [], none⟩, []⟩ 59 (z0g r) [(2, (.ptr f 0)), (3, (.ptr c 0)), (16, (.bool a9))] [itemC Tryz.prog 40 [1, 0] 12, codeC Tryz.prog 40 [1, 1]] M := by
 intro a9 a6 a5 e x u w a1 y s a3 a0 g n p m q a2 a4 d b f c Fr M r a8 a7 hH h
 rw [ref10_Same_1] at h
 refine mv rfl rfl ?_
 rcases btf (a9) with a | a
 ·have h := bif_t a h
  refine gy rfl rfl a (ex_fieldAddr rfl z4q) rfl <| gy rfl rfl a (ex_load1 rfl (hH.cells (i := 0) rfl 2 rfl) rdLe_rfl z0c) rfl <| gy rfl rfl a (ex_fieldAddr rfl z4q) rfl <| gy rfl rfl a (ex_load1 rfl (hH.cells (i := 1) rfl 2 rfl) rdLe_rfl z0c) rfl <| gy rfl rfl a (ex_eql rfl rfl) rfl <| og (ex_pickT' rfl a rfl rfl) rfl ?_
  exact Run.pick [2, 3, 23] (z6t F (e == g) a6 a5 e x u w a1 y s a3 a0 g n p m q a2 a4 d b f c _ _ _ a8 a7 hH h)
 ·have h := bif_f a h
  refine gn rfl rfl a rfl <| gn rfl rfl a rfl <| gn rfl rfl a rfl <| gn rfl rfl a rfl <| gn rfl rfl a rfl <| og (ex_pickF' rfl a rfl rfl) rfl ?_
  exact Run.pick [2, 3, 23] (z6t F false a6 a5 e x u w a1 y s a3 a0 g n p m q a2 a4 d b f c _ _ _ a8 a7 hH h)

def ref10_Same (F : Nat) (a0 a1 : S_api_Alert) : Option (Bool) :=
 bif (a0.Event == a1.Event) then
  ref10_Same_1 F (a0.Version == a1.Version) a0.Event a0.Version a0.Time a0.Chance.N a0.Chance.Of a0.Grid a0.Cells a0.Withdrawn a0.Before a1.Event a1.Version a1.Time a1.Chance.N a1.Chance.Of a1.Grid a1.Cells a1.Withdrawn a1.Before
 else
  ref10_Same_1 F false a0.Event a0.Version a0.Time a0.Chance.N a0.Chance.Of a0.Grid a0.Cells a0.Withdrawn a0.Before a1.Event a1.Version a1.Time a1.Chance.N a1.Chance.Of a1.Grid a1.Cells a1.Withdrawn a1.Before

theorem zb2 (F : Nat) (a0 a1 : S_api_Alert) (s0 s1 : SV) (r : Bool) (M : Mem) (e : Slc (rd M) 1 (FlatR enc3) s0 a0.Cells) (c : Slc (rd M) 1 (FlatR enc3) s1 a1.Cells) (h : ref10_Same F a0 a1 = some r) : CallsM Tryz.prog 40 [(.agg (r0 a0 s0)), (.agg (r0 a1 s1))] M (fun s M' => s = (.bool r) ∧ M' = M) := by
 refine CallsM.plain Tryz.func40 rfl rfl rfl (show Run _ _ _ (z0g r) _ _ _ from ?_)
 rw [ref10_Same] at h
 replace e := e.mono (rdLe_frozen M) (fun _ _ h => h)
 replace c := c.mono (rdLe_frozen M) (fun _ _ h => h)
 have hH := Has.nil (frozen M)
 refine Run.seq (Run.region ?_)
 refine ox rfl (ExG.box rfl rfl hH) ?_
 rintro _ m ⟨g, rfl, d⟩
 refine ox rfl (ExG.box rfl rfl d) ?_
 rintro _ p ⟨f, rfl, b⟩
 refine av rfl rfl ?_
 refine Run.opsEnd (Run.seq (Run.region ?_))
 refine og (ex_fieldAddr rfl z10) rfl <| og (ex_load1 rfl (b.cells (i := 1) rfl 0 rfl) rdLe_rfl zam) rfl <| og (ex_fieldAddr rfl z10) rfl <| og (ex_load1 rfl (b.cells (i := 0) rfl 0 rfl) rdLe_rfl zam) rfl <| og (ex_eqlS rfl rfl) rfl <| mv rfl rfl ?_
 rcases btf ((a0.Event == a1.Event)) with a | a
 ·have h := bif_t a h
  refine gy rfl rfl a (ex_fieldAddr rfl z3r) rfl <| gy rfl rfl a (ex_load1 rfl (b.cells (i := 1) rfl 1 rfl) rdLe_rfl z0c) rfl <| gy rfl rfl a (ex_fieldAddr rfl z3r) rfl <| gy rfl rfl a (ex_load1 rfl (b.cells (i := 0) rfl 1 rfl) rdLe_rfl z0c) rfl <| gy rfl rfl a (ex_eql rfl rfl) rfl <| og (ex_pickT' rfl a rfl rfl) rfl ?_
  exact Run.pick [2, 3, 16] (z7i F (a0.Version == a1.Version) a0.Event a0.Version a0.Time a0.Chance.N a0.Chance.Of a0.Grid a0.Cells a0.Withdrawn a0.Before a1.Event a1.Version a1.Time a1.Chance.N a1.Chance.Of a1.Grid a1.Cells a1.Withdrawn a1.Before s0 s1 g f _ _ _ e c (b.pick [1, 0] rfl rfl) h)
 ·have h := bif_f a h
  refine gn rfl rfl a rfl <| gn rfl rfl a rfl <| gn rfl rfl a rfl <| gn rfl rfl a rfl <| gn rfl rfl a rfl <| og (ex_pickF' rfl a rfl rfl) rfl ?_
  exact Run.pick [2, 3, 16] (z7i F false a0.Event a0.Version a0.Time a0.Chance.N a0.Chance.Of a0.Grid a0.Cells a0.Withdrawn a0.Before a1.Event a1.Version a1.Time a1.Chance.N a1.Chance.Of a1.Grid a1.Cells a1.Withdrawn a1.Before s0 s1 g f _ _ _ e c (b.pick [1, 0] rfl rfl) h)

theorem zh7 : makeK Tryz.prog 40 = none := by kernel_rfl
theorem zgk : callable Tryz.prog 40 = true := by kernel_rfl
abbrev za3 (r : Bool) : SV → Mem → Prop := fun s _ => s = (.bool r)

def law10_same (F : Nat) (a0 a1 : S_api_Alert) : Option (Bool) :=
 bnd (ref10_Same F a0 a1) fun a =>
 some a

theorem z2e (F : Nat) (a0 a1 : S_api_Alert) (s0 s1 : SV) (r : Bool) (M : Mem) (e : Slc (rd M) 1 (FlatR enc3) s0 a0.Cells) (c : Slc (rd M) 1 (FlatR enc3) s1 a1.Cells) (h : law10_same F a0 a1 = some r) : CallsM Tryz.prog 11 [(.agg (r0 a0 s0)), (.agg (r0 a1 s1))] M (fun s M' => s = (.bool r) ∧ M' = M) := by
 refine CallsM.plain Tryz.func11 rfl rfl rfl (show Run _ _ _ (za3 r) _ _ _ from ?_)
 rw [law10_same] at h
 replace e := e.mono (rdLe_frozen M) (fun _ _ h => h)
 replace c := c.mono (rdLe_frozen M) (fun _ _ h => h)
 have hH := Has.nil (frozen M)
 refine Run.seq (Run.region ?_)
 refine ox rfl (ExG.box rfl rfl hH) ?_
 rintro _ f ⟨q, rfl, d⟩
 refine ox rfl (ExG.box rfl rfl d) ?_
 rintro _ p ⟨g, rfl, a⟩
 refine av rfl rfl ?_
 refine Run.opsEnd (Run.seq (Run.region ?_))
 refine og (ex_loadA rfl (a.cells (i := 1) rfl 0 rfl) rdLe_rfl z0m rfl rfl rfl) rfl <| og (ex_loadA rfl (a.cells (i := 0) rfl 0 rfl) rdLe_rfl z0m rfl rfl rfl) rfl ?_
 obtain ⟨m, b, h⟩ := bnd_some h
 refine Run.callP wantS_none (ex_call rfl zh7 zgk) rfl (zb2 F a0 a1 s0 s1 _ _ (a.slcF e) (a.slcF c) b) <| av rfl rfl <| Run.opsEnd ?_
 cases h
 exact Run.ret Tryz.func11 rfl (res_tmp rfl res_nil) rfl

theorem zbu : makeK Tryz.prog 11 = none := by kernel_rfl
theorem zbz : callable Tryz.prog 11 = true := by kernel_rfl
theorem zax : aggSize Tryz.prog 24 = some (some 2) := by kernel_rfl
theorem zgh : makeK Tryz.prog 12 = none := by kernel_rfl
theorem zh6 : callable Tryz.prog 12 = true := by kernel_rfl
theorem z1h : fieldOff Tryz.prog 24 0 = some 0 := by kernel_rfl
theorem z7o : aggSize Tryz.prog 22 = some none := by kernel_rfl
theorem z8s : lenK Tryz.prog 22 = some .sl := by kernel_rfl
abbrev z4z (r : Bool) : SV → Mem → Prop := fun s _ => s = (.bool r)

def alert_isFrom_1 (F : Nat) (a : Bool) : Option (Bool) :=
 some a

theorem z55 (F : Nat) : ∀ (a : Bool) (Fr : Rd) (M : Mem) (r : Bool) (hH : Has Fr M []), alert_isFrom_1 F a = some r → Run Tryz.prog ⟨⟨89, [], none⟩, []⟩ 15 (z4z r) [(14, (.bool a))] [itemC Tryz.prog 89 [1, 0] 8, codeC Tryz.prog 89 [1, 1]] M := by
 intro a Fr M r hH h
 rw [alert_isFrom_1] at h
 refine av rfl rfl <| Run.opsEnd ?_
 cases h
 exact Run.ret Tryz.func89 rfl (res_tmp rfl res_nil) rfl

def alert_isFrom (F : Nat) (a0 a1 a2 : Int) : Option (Bool) :=
 bif (decide (a0 ≤ a1)) then
  alert_isFrom_1 F (decide (a1 ≤ a2))
 else
  alert_isFrom_1 F false

theorem z06 (F : Nat) (a0 a1 a2 : Int) (r : Bool) (M : Mem) (h : alert_isFrom F a0 a1 a2 = some r) : CallsM Tryz.prog 89 [(.int .i64 a0), (.int .i64 a1), (.int .i64 a2)] M (fun s M' => s = (.bool r) ∧ M' = M) := by
 refine CallsM.plain Tryz.func89 rfl rfl rfl (show Run _ _ _ (z4z r) _ _ _ from ?_)
 rw [alert_isFrom] at h
 have hH := Has.nil (frozen M)
 refine Run.seq (Run.region ?_)
 refine av rfl rfl ?_
 refine Run.opsEnd (Run.seq (Run.region ?_))
 refine mv rfl rfl <| mv rfl rfl <| og (ex_leq rfl rfl) rfl <| mv rfl rfl ?_
 rcases btf ((decide (a0 ≤ a1))) with a | a
 ·have h := bif_t a h
  refine gy rfl rfl a (ex_move rfl) rfl <| gy rfl rfl a (ex_move rfl) rfl <| gy rfl rfl a (ex_leq rfl rfl) rfl <| og (ex_pickT' rfl a rfl rfl) rfl ?_
  exact Run.pick [14] (z55 F (decide (a1 ≤ a2)) _ _ _ hH h)
 ·have h := bif_f a h
  refine gn rfl rfl a rfl <| gn rfl rfl a rfl <| gn rfl rfl a rfl <| og (ex_pickF' rfl a rfl rfl) rfl ?_
  exact Run.pick [14] (z55 F false _ _ _ hH h)

theorem za0 : makeK Tryz.prog 89 = none := by kernel_rfl
theorem zaa : callable Tryz.prog 89 = true := by kernel_rfl
theorem zb3 : elems Tryz.prog 22 = some (.sl 2) := by kernel_rfl
theorem z9m : aggSize Tryz.prog 108 = some (some 2) := by kernel_rfl
theorem zcj : zerosOf Tryz.prog 108 = some [(.int .i64 0), (.int .i64 0)] := by kernel_rfl
theorem zf1 : szOf Tryz.prog 108 = some 2 := by kernel_rfl
theorem z5j : fieldOff Tryz.prog 166 0 = some 0 := by kernel_rfl
theorem zbk : fieldOff Tryz.prog 166 1 = some 1 := by kernel_rfl
abbrev z1f (r : Bool) : SV → Mem → Prop := fun s _ => s = (.bool r)

def alert_key_isPlausible_1 (F : Nat) (a : Bool) : Option (Bool) :=
 some a

theorem z1g (F : Nat) : ∀ (a : Bool) (Fr : Rd) (M : Mem) (r : Bool) (hH : Has Fr M []), alert_key_isPlausible_1 F a = some r → Run Tryz.prog ⟨⟨146, [], none⟩, []⟩ 11 (z1f r) [(10, (.bool a))] [itemC Tryz.prog 146 [1, 0] 8, codeC Tryz.prog 146 [1, 1]] M := by
 intro a Fr M r hH h
 rw [alert_key_isPlausible_1] at h
 refine av rfl rfl <| Run.opsEnd ?_
 cases h
 exact Run.ret Tryz.func146 rfl (res_tmp rfl res_nil) rfl

def alert_key_isPlausible (F : Nat) (a0 : S_api_Key) : Option (Bool) :=
 bnd (alert_isFrom F (15 : Int) a0.Modulus (1073741824 : Int)) fun a =>
 bif a then
  bnd (alert_isFrom F (3 : Int) a0.Exponent (32749 : Int)) fun b =>
  alert_key_isPlausible_1 F b
 else
  alert_key_isPlausible_1 F false

theorem z57 (F : Nat) (a0 : S_api_Key) (r : Bool) (M : Mem) (h : alert_key_isPlausible F a0 = some r) : CallsM Tryz.prog 146 [(.agg [(.int .i64 a0.Modulus), (.int .i64 a0.Exponent)])] M (fun s M' => s = (.bool r) ∧ M' = M) := by
 refine CallsM.plain Tryz.func146 rfl rfl rfl (show Run _ _ _ (z1f r) _ _ _ from ?_)
 rw [alert_key_isPlausible] at h
 have hH := Has.nil (frozen M)
 refine Run.seq (Run.region ?_)
 refine ox rfl (ExG.box rfl rfl hH) ?_
 rintro _ g ⟨m, rfl, b⟩
 refine av rfl rfl ?_
 refine Run.opsEnd (Run.seq (Run.region ?_))
 refine og (ex_fieldAddr rfl z5j) rfl <| og (ex_load1 rfl (b.cells (i := 0) rfl 0 rfl) rdLe_rfl z0c) rfl ?_
 obtain ⟨f, d, h⟩ := bnd_some h
 refine Run.callP wantS_none (ex_call rfl za0 zaa) rfl (z06 F (15 : Int) a0.Modulus (1073741824 : Int) _ _ d) <| mv rfl rfl ?_
 rcases btf (f) with a | a
 ·have h := bif_t a h
  refine gy rfl rfl a (ex_fieldAddr rfl zbk) rfl <| gy rfl rfl a (ex_load1 rfl (b.cells (i := 0) rfl 1 rfl) rdLe_rfl z0c) rfl ?_
  obtain ⟨c, e, h⟩ := bnd_some h
  refine Run.callP (wantS_yes' rfl rfl a) (ex_call rfl za0 zaa) rfl (z06 F (3 : Int) a0.Exponent (32749 : Int) _ _ e) <| og (ex_pickT' rfl a rfl rfl) rfl ?_
  exact Run.pick [10] (z1g F c _ _ _ (b.pick [] rfl rfl) h)
 ·have h := bif_f a h
  refine gn rfl rfl a rfl <| gn rfl rfl a rfl <| gn rfl rfl a rfl <| og (ex_pickF' rfl a rfl rfl) rfl ?_
  exact Run.pick [10] (z1g F false _ _ _ (b.pick [] rfl rfl) h)

theorem zeh : makeK Tryz.prog 146 = none := by kernel_rfl
theorem zev : callable Tryz.prog 146 = true := by kernel_rfl
theorem zgd : slK Tryz.prog 22 = some (.sl 2) := by kernel_rfl
theorem zf4 : makeK Tryz.prog 147 = none := by kernel_rfl
theorem zfl : callable Tryz.prog 147 = true := by kernel_rfl
theorem zdk : makeK Tryz.prog 206 = none := by kernel_rfl
theorem zds : callable Tryz.prog 206 = true := by kernel_rfl
theorem zex : makeK Tryz.prog 145 = none := by kernel_rfl
theorem zg3 : callable Tryz.prog 145 = true := by kernel_rfl
theorem z2r : fieldOff Tryz.prog 108 0 = some 0 := by kernel_rfl
theorem z6s : fieldOff Tryz.prog 24 1 = some 1 := by kernel_rfl
abbrev z0e (r : Bool) : SV → Mem → Prop := fun s _ => s = (.bool r)

def z1l (F : Nat) (d : (List S_api_Key) → Int → Int → List S_api_Key → Int → Option (Bool)) (f : List S_api_Key) (g c : Int) (e : Bool) (b : List S_api_Key) (a : Int) : Option (Bool) :=
 bif e then
  some false
 else
  d f g (w64 (c + (1 : Int))) b a

theorem z2p (F : Nat) (w : (List S_api_Key) → Int → Int → List S_api_Key → Int → Option (Bool)) (p : ∀ (c : List S_api_Key) (f q : Int) (d : List S_api_Key) (b : Int) (e a : SV) (s : Pos) (Fr : Rd) (M : Mem) (r : Bool) (n : Slc Fr 2 (FlatR enc108) e c) (m : Slc Fr 2 (FlatR enc108) a d) (hH : Has Fr M [.obj s (.row 24 .whole [a, (.int .i64 b)])]), w c f q d b = some r → Run Tryz.prog ⟨⟨85, [], none⟩, []⟩ 41 (z0e r) [(1, (.ptr s 0)), (21, e), (22, (.int .i64 f)), (23, (.int .i64 q))] [codeC Tryz.prog 85 [1, 1, 0, 1, 0, 0], loopC Tryz.prog 85 [1, 1, 0, 1, 0, 0], .inBlock 0, codeC Tryz.prog 85 [1, 1, 1]] M) : ∀ (c : List S_api_Key) (f q : Int) (u : Bool) (d : List S_api_Key) (b : Int) (e a : SV) (s : Pos) (Fr : Rd) (M : Mem) (r : Bool) (n : Slc Fr 2 (FlatR enc108) e c) (m : Slc Fr 2 (FlatR enc108) a d) (hH : Has Fr M [.obj s (.row 24 .whole [a, (.int .i64 b)])]), z1l F w c f q u d b = some r → Run Tryz.prog ⟨⟨85, [], none⟩, []⟩ 41 (z0e r) [(1, (.ptr s 0)), (21, e), (22, (.int .i64 f)), (23, (.int .i64 q)), (39, (.bool u))] [codeC Tryz.prog 85 [1, 1, 0, 1, 0, 0, 1, 1, 0, 0, 1, 1, 1], .inBlock 1, codeC Tryz.prog 85 [1, 1, 0, 1, 0, 0, 1, 1, 1], loopC Tryz.prog 85 [1, 1, 0, 1, 0, 0], .inBlock 0, codeC Tryz.prog 85 [1, 1, 1]] M := by
 intro c f q u d b e a s Fr M r n m hH h
 rw [z1l] at h
 rcases btf (u) with g | g
 ·have h := bif_t g h
  refine Run.condT' rfl g ?_
  refine Run.seq (Run.region ?_)
  refine av rfl rfl <| Run.opsEnd ?_
  cases h
  exact Run.ret Tryz.func85 rfl (res_tmp rfl res_nil) rfl
 ·have h := bif_f g h
  refine Run.condF' rfl g ?_
  refine Run.skip (Run.inBlock (Run.region ?_))
  refine og (ex_add rfl rfl) rfl <| mv rfl rfl ?_
  refine Run.opsEnd (Run.inLoop ?_)
  exact Run.pick [1, 21, 22, 23] (p c f (w64 (q + (1 : Int))) d b e a s _ _ _ n m hH h)

def alert_isRoll_4 (F : Nat) (c : (List S_api_Key) → Int → Int → List S_api_Key → Int → Option (Bool)) : Nat → List S_api_Key → Int → Int → List S_api_Key → Int → Int → Bool → S_api_Key → List S_api_Key → Int → Option (Bool)
 | 0, _, _, _, _, _, _, _, _, _, _ => none
 | N + 1, v0, v7, v8, a, e, d, b, f, m, g =>
  bif (decide (v8 < v7)) then
   bnd (idx v0 v8) fun p =>
   bif (p.Modulus == f.Modulus) then
    z1l F c a e d (bif b then true else (decide ((0 : Int) ≤ v8))) m g
   else
    (alert_isRoll_4 F c N) v0 v7 (w64 (v8 + (1 : Int))) a e d b f m g
  else
   z1l F c a e d (bif b then true else (decide ((0 : Int) ≤ ((-1) : Int)))) m g

theorem z9a (F : Nat) (a7 : (List S_api_Key) → Int → Int → List S_api_Key → Int → Option (Bool)) (a0 : ∀ (b0 : List S_api_Key) (a9 a8 : Int) (e : List S_api_Key) (d : Int) (a1 a : SV) (c : Pos) (Fr : Rd) (M : Mem) (r : Bool) (a3 : Slc Fr 2 (FlatR enc108) a1 b0) (s : Slc Fr 2 (FlatR enc108) a e) (hH : Has Fr M [.obj c (.row 24 .whole [a, (.int .i64 d)])]), a7 b0 a9 a8 e d = some r → Run Tryz.prog ⟨⟨85, [], none⟩, []⟩ 41 (z0e r) [(1, (.ptr c 0)), (21, a1), (22, (.int .i64 a9)), (23, (.int .i64 a8))] [codeC Tryz.prog 85 [1, 1, 0, 1, 0, 0], loopC Tryz.prog 85 [1, 1, 0, 1, 0, 0], .inBlock 0, codeC Tryz.prog 85 [1, 1, 1]] M) : ∀ (N : Nat), ∀ (v0 : List S_api_Key) (v7 v8 : Int) (g : List S_api_Key) (n p : Int) (m : Bool) (f : S_api_Key) (e : List S_api_Key) (d : Int) (a5 b a : SV) (a4 c : Pos) (Fr : Rd) (M : Mem) (r : Bool) (a6 : Slc Fr 2 (FlatR enc108) a5 v0) (q : Slc Fr 2 (FlatR enc108) b g) (s : Slc Fr 2 (FlatR enc108) a e) (hH : Has Fr M [.obj a4 (.row 108 .whole [(.int .i64 f.Modulus), (.int .i64 f.Exponent)]), .obj c (.row 24 .whole [a, (.int .i64 d)])]), alert_isRoll_4 F a7 N v0 v7 v8 g n p m f e d = some r → Run Tryz.prog ⟨⟨206, [], none⟩, [.mk ⟨147, [], none⟩ 9 (treeOf []) [itemC Tryz.prog 147 [1, 0] 2, codeC Tryz.prog 147 [1, 1]], .mk ⟨85, [], none⟩ 41 (treeOf [(1, (.ptr c 0)), (21, b), (22, (.int .i64 n)), (23, (.int .i64 p)), (32, (.bool m))]) [itemC Tryz.prog 85 [1, 1, 0, 1, 0, 0, 1, 1, 0, 0, 1, 1, 0] 9, codeC Tryz.prog 85 [1, 1, 0, 1, 0, 0, 1, 1, 0, 0, 1, 1, 1], .inBlock 1, codeC Tryz.prog 85 [1, 1, 0, 1, 0, 0, 1, 1, 1], loopC Tryz.prog 85 [1, 1, 0, 1, 0, 0], .inBlock 0, codeC Tryz.prog 85 [1, 1, 1]]]⟩ 19 (z0e r) [(0, a5), (1, (.fn (.func 145) [] [(.ptr a4 0)])), (7, (.int .i64 v7)), (8, (.int .i64 v8))] [codeC Tryz.prog 206 [1, 0, 1, 0, 0], loopC Tryz.prog 206 [1, 0, 1, 0, 0], .inBlock 0, codeC Tryz.prog 206 [1, 1]] M := by
 intro N
 induction N with
 | zero =>
  intro v0 v7 v8 g n p m f e d a5 b a a4 c Fr M r a6 q s hH h
  simp [alert_isRoll_4] at h
 | succ N ih =>
  intro v0 v7 v8 g n p m f e d a5 b a a4 c Fr M r a6 q s hH h
  rw [alert_isRoll_4] at h
  refine Run.seq (Run.region ?_)
  refine og (ex_lss rfl rfl) rfl ?_
  refine Run.opsEnd (Run.seq ?_)
  rcases btf ((decide (v8 < v7))) with w | w
  ·have h := bif_t w h
   refine Run.condT' rfl w ?_
   refine Run.skip (Run.seq (Run.block (Run.seq (Run.region ?_))))
   refine mv rfl rfl <| av rfl rfl ?_
   refine Run.opsEnd (Run.seq (Run.region ?_))
   refine mv rfl rfl <| mv rfl rfl <| mv rfl rfl ?_
   obtain ⟨b1, y, h⟩ := bnd_some h
   obtain ⟨b5, b4, _, y, a2, rfl⟩ := sl_elem (P := Tryz.prog) (t := 22) (kk := .i64) a6 y zb3
   refine og (ex_elX rfl rfl y) rfl <| og (ex_loadA rfl (hH.ptrF a2) rdLe_rfl z9m rfl rfl rfl) rfl <| Run.enter wantS_none (ex_closure rfl rfl zex zg3) Tryz.func145 rfl rfl ?_
   refine Run.seq (Run.region ?_)
   refine ox rfl (ExG.box rfl rfl hH) ?_
   rintro _ b2 ⟨b3, rfl, x⟩
   refine av rfl rfl ?_
   refine Run.opsEnd (Run.seq (Run.region ?_))
   refine og (ex_fieldAddr rfl z2r) rfl <| og (ex_load1 rfl (x.cells (i := 0) rfl 0 rfl) rdLe_rfl z0c) rfl <| og (ex_fieldAddr rfl z2r) rfl <| og (ex_load1 rfl (x.cells (i := 1) rfl 0 rfl) rdLe_rfl z0c) rfl <| og (ex_eql rfl rfl) rfl <| av rfl rfl <| Run.opsEnd <| Run.retTo Tryz.func145 rfl (res_tmp rfl res_nil) rfl <| Run.opsEnd ?_
   rcases btf ((b1.Modulus == f.Modulus)) with u | u
   ·have h := bif_t u h
    refine Run.condT' rfl u ?_
    refine Run.seq (Run.region ?_)
    refine mv rfl rfl <| av rfl rfl <| Run.opsEnd <| Run.retTo Tryz.func206 rfl (res_tmp rfl res_nil) rfl <| og (ex_geq rfl rfl) rfl <| av rfl rfl <| Run.opsEnd <| Run.retTo Tryz.func147 rfl (res_tmp rfl res_nil) rfl <| og (ex_pickB rfl rfl rfl) rfl <| Run.opsEnd ?_
    exact Run.pick [1, 21, 22, 23, 39] (z2p F a7 a0 g n p (bif m then true else (decide ((0 : Int) ≤ v8))) e d b a c _ _ _ q s (x.pick [2] rfl rfl) h)
   ·have h := bif_f u h
    refine Run.condF' rfl u ?_
    refine Run.skip (Run.inBlock (Run.region ?_))
    refine og (ex_add rfl rfl) rfl <| mv rfl rfl ?_
    refine Run.opsEnd (Run.inLoop ?_)
    exact Run.low (.cons (fle_pick [] rfl) (.cons (fle_pick [1, 21, 22, 23, 32] rfl) .nil)) (Run.pick [0, 1, 7, 8] (ih v0 v7 (w64 (v8 + (1 : Int))) g n p m f e d a5 b a a4 c _ _ _ a6 q s (x.pick [1, 2] rfl rfl) h))
  ·have h := bif_f w h
   refine Run.condF' rfl w ?_
   refine Run.exit rfl (Run.seq (Run.region ?_))
   refine av rfl rfl <| Run.opsEnd <| Run.retTo Tryz.func206 rfl (res_tmp rfl res_nil) rfl <| og (ex_geq rfl rfl) rfl <| av rfl rfl <| Run.opsEnd <| Run.retTo Tryz.func147 rfl (res_tmp rfl res_nil) rfl <| og (ex_pickB rfl rfl rfl) rfl <| Run.opsEnd ?_
   exact Run.pick [1, 21, 22, 23, 39] (z2p F a7 a0 g n p (bif m then true else (decide ((0 : Int) ≤ ((-1) : Int)))) e d b a c _ _ _ q s (hH.pick [1] rfl rfl) h)

def alert_isRoll_2 (F : Nat) : Nat → List S_api_Key → Int → Int → List S_api_Key → Int → Option (Bool)
 | 0, _, _, _, _, _ => none
 | N + 1, d, e, c, a, b =>
  bif (decide (c < e)) then
   bnd (idx d c) fun m =>
   bnd (alert_key_isPlausible F m) fun g =>
   bif (!g) then
    z1l F (alert_isRoll_2 F N) d e c true a b
   else
    bnd (sub a 0 c) fun f =>
    alert_isRoll_4 F (alert_isRoll_2 F N) F f (f.length : Int) (0 : Int) d e c (!g) m a b
  else
   some true

theorem z9b (F : Nat) : ∀ (N : Nat), ∀ (a4 : List S_api_Key) (f c : Int) (m : List S_api_Key) (e : Int) (n d : SV) (a3 : Pos) (Fr : Rd) (M : Mem) (r : Bool) (p : Slc Fr 2 (FlatR enc108) n a4) (g : Slc Fr 2 (FlatR enc108) d m) (hH : Has Fr M [.obj a3 (.row 24 .whole [d, (.int .i64 e)])]), alert_isRoll_2 F N a4 f c m e = some r → Run Tryz.prog ⟨⟨85, [], none⟩, []⟩ 41 (z0e r) [(1, (.ptr a3 0)), (21, n), (22, (.int .i64 f)), (23, (.int .i64 c))] [codeC Tryz.prog 85 [1, 1, 0, 1, 0, 0], loopC Tryz.prog 85 [1, 1, 0, 1, 0, 0], .inBlock 0, codeC Tryz.prog 85 [1, 1, 1]] M := by
 intro N
 induction N with
 | zero =>
  intro a4 f c m e n d a3 Fr M r p g hH h
  simp [alert_isRoll_2] at h
 | succ N ih =>
  intro a4 f c m e n d a3 Fr M r p g hH h
  rw [alert_isRoll_2] at h
  refine Run.seq (Run.region ?_)
  refine og (ex_lss rfl rfl) rfl ?_
  refine Run.opsEnd (Run.seq ?_)
  rcases btf ((decide (c < f))) with q | q
  ·have h := bif_t q h
   refine Run.condT' rfl q ?_
   refine Run.skip (Run.seq (Run.block (Run.seq (Run.region ?_))))
   refine mv rfl rfl ?_
   obtain ⟨a5, u, h⟩ := bnd_some h
   obtain ⟨b2, b1, _, u, x, rfl⟩ := sl_elem (P := Tryz.prog) (t := 22) (kk := .i64) p u zb3
   refine og (ex_elX rfl rfl u) rfl <| og (ex_loadA rfl (hH.ptrF x) rdLe_rfl z9m rfl rfl rfl) rfl <| ox rfl (ExG.new (v := fun b => .ptr b 0) (ex_alloc zcj) hH) ?_
   rintro _ b3 ⟨a7, rfl, a1⟩
   refine av rfl rfl <| ox rfl (ExG.storeC (c' := [(.int .i64 a5.Modulus), (.int .i64 a5.Exponent)]) rfl rfl rfl a1 (i := 0) rfl zf1 rfl rfl rfl rfl rfl) ?_
   rintro _ a9 ⟨rfl, (s : Has Fr a9 [.obj a7 (.row 108 .whole [(.int .i64 a5.Modulus), (.int .i64 a5.Exponent)]), .obj a3 (.row 24 .whole [d, (.int .i64 e)])])⟩
   refine Run.opsEnd (Run.seq (Run.region ?_))
   refine og (ex_makeFunc rfl rfl) rfl <| av rfl rfl ?_
   refine Run.opsEnd (Run.seq (Run.region ?_))
   refine og (ex_loadA rfl (s.cells (i := 0) rfl 0 rfl) rdLe_rfl z9m rfl rfl rfl) rfl ?_
   obtain ⟨a6, y, h⟩ := bnd_some h
   refine Run.callP wantS_none (ex_call rfl zeh zev) rfl (z57 F a5 _ _ y) <| og (ex_not rfl) rfl <| mv rfl rfl ?_
   rcases btf ((!a6)) with a | a
   ·have h := bif_t a h
    refine gn rfl rfl a rfl <| gn rfl rfl a rfl <| gn rfl rfl a rfl <| gn rfl rfl a rfl <| gn rfl rfl a rfl <| gn rfl rfl a rfl <| og (ex_pickT' rfl a rfl rfl) rfl <| Run.opsEnd ?_
    exact Run.pick [1, 21, 22, 23, 39] (z2p F (alert_isRoll_2 F N) ih a4 f c true m e n d a3 _ _ _ p g (s.pick [1] rfl rfl) h)
   ·have h := bif_f a h
    refine gy rfl rfl a (ex_fieldAddr rfl z1h) rfl <| gy rfl rfl a (ex_load1 rfl (s.cells (i := 1) rfl 0 rfl) rdLe_rfl z7o) rfl <| gy rfl rfl a (ex_move rfl) rfl ?_
    obtain ⟨a8, a2, h⟩ := bnd_some h
    obtain ⟨b0, a0, w⟩ := sl_subH (P := Tryz.prog) (t := 22) (k0 := .i64) g a2 zgd
    refine gy rfl rfl a (ex_slX rfl (argO_none) (argO_some rfl) a0) rfl <| gy rfl rfl a (ex_move rfl) rfl <| Run.enter (wantS_yes' rfl rfl a) (ex_call rfl zf4 zfl) Tryz.func147 rfl rfl ?_
    refine Run.seq (Run.region ?_)
    refine av rfl rfl ?_
    refine Run.opsEnd (Run.seq (Run.region ?_))
    refine mv rfl rfl <| mv rfl rfl <| Run.enter wantS_none (ex_call rfl zdk zds) Tryz.func206 rfl rfl ?_
    refine Run.seq (Run.region ?_)
    refine av rfl rfl ?_
    refine Run.opsEnd (Run.seq (Run.seq (Run.region ?_)))
    refine mv rfl rfl <| og (ex_len' rfl w z8s) rfl <| mv rfl rfl ?_
    refine Run.opsEnd (Run.block (Run.loop ?_))
    exact Run.low (.cons (fle_pick [] rfl) (.cons (fle_pick [1, 21, 22, 23, 32] rfl) .nil)) (Run.pick [0, 1, 7, 8] (z9a F (alert_isRoll_2 F N) ih F a8 (a8.length : Int) (0 : Int) a4 f c (!a6) a5 m e b0 n d a7 a3 _ _ _ w p g s h))
  ·have h := bif_f q h
   refine Run.condF' rfl q ?_
   refine Run.exit rfl (Run.seq (Run.region ?_))
   refine av rfl rfl <| Run.opsEnd ?_
   cases h
   exact Run.ret Tryz.func85 rfl (res_tmp rfl res_nil) rfl

def alert_isRoll_1 (F : Nat) (c : Bool) (a : List S_api_Key) (b : Int) : Option (Bool) :=
 bif c then
  some false
 else
  alert_isRoll_2 F F a (a.length : Int) (0 : Int) a b

theorem z4w (F : Nat) : ∀ (c : Bool) (b : List S_api_Key) (e : Int) (a : SV) (f : Pos) (Fr : Rd) (M : Mem) (r : Bool) (d : Slc Fr 2 (FlatR enc108) a b) (hH : Has Fr M [.obj f (.row 24 .whole [a, (.int .i64 e)])]), alert_isRoll_1 F c b e = some r → Run Tryz.prog ⟨⟨85, [], none⟩, []⟩ 41 (z0e r) [(1, (.ptr f 0)), (19, (.bool c))] [codeC Tryz.prog 85 [1, 0, 1], codeC Tryz.prog 85 [1, 1]] M := by
 intro c b e a f Fr M r d hH h
 rw [alert_isRoll_1] at h
 rcases btf (c) with g | g
 ·have h := bif_t g h
  refine Run.condT' rfl g ?_
  refine Run.seq (Run.region ?_)
  refine av rfl rfl <| Run.opsEnd ?_
  cases h
  exact Run.ret Tryz.func85 rfl (res_tmp rfl res_nil) rfl
 ·have h := bif_f g h
  refine Run.condF' rfl g ?_
  refine Run.skip (Run.seq (Run.seq (Run.region ?_)))
  refine og (ex_fieldAddr rfl z1h) rfl <| og (ex_load1 rfl (hH.cells (i := 0) rfl 0 rfl) rdLe_rfl z7o) rfl <| og (ex_len' rfl d z8s) rfl <| mv rfl rfl ?_
  refine Run.opsEnd (Run.block (Run.loop ?_))
  exact Run.pick [1, 21, 22, 23] (z9b F F b (b.length : Int) (0 : Int) b e a a f _ _ _ d d hH h)

def alert_isRoll (F : Nat) (a0 : S_api_Roll) : Option (Bool) :=
 bnd (alert_isFrom F (1 : Int) (a0.Keys.length : Int) (8 : Int)) fun a =>
 bif (!a) then
  alert_isRoll_1 F true a0.Keys a0.Quorum
 else
  bnd (alert_isFrom F (1 : Int) a0.Quorum (a0.Keys.length : Int)) fun b =>
  alert_isRoll_1 F (!b) a0.Keys a0.Quorum

theorem za1 (F : Nat) (a0 : S_api_Roll) (s0 : SV) (r : Bool) (M : Mem) (c : Slc (rd M) 2 (FlatR enc108) s0 a0.Keys) (h : alert_isRoll F a0 = some r) : CallsM Tryz.prog 85 [(.agg [s0, (.int .i64 a0.Quorum)])] M (fun s M' => s = (.bool r) ∧ M' = M) := by
 refine CallsM.plain Tryz.func85 rfl rfl rfl (show Run _ _ _ (z0e r) _ _ _ from ?_)
 rw [alert_isRoll] at h
 replace c := c.mono (rdLe_frozen M) (fun _ _ h => h)
 have hH := Has.nil (frozen M)
 refine Run.seq (Run.region ?_)
 refine ox rfl (ExG.box rfl rfl hH) ?_
 rintro _ p ⟨f, rfl, b⟩
 refine av rfl rfl ?_
 refine Run.opsEnd (Run.seq (Run.seq (Run.region ?_)))
 refine og (ex_fieldAddr rfl z1h) rfl <| og (ex_load1 rfl (b.cells (i := 0) rfl 0 rfl) rdLe_rfl z7o) rfl <| og (ex_len' rfl c z8s) rfl ?_
 obtain ⟨g, e, h⟩ := bnd_some h
 refine Run.callP wantS_none (ex_call rfl za0 zaa) rfl (z06 F (1 : Int) (a0.Keys.length : Int) (8 : Int) _ _ e) <| og (ex_not rfl) rfl <| mv rfl rfl ?_
 rcases btf ((!g)) with a | a
 ·have h := bif_t a h
  refine gn rfl rfl a rfl <| gn rfl rfl a rfl <| gn rfl rfl a rfl <| gn rfl rfl a rfl <| gn rfl rfl a rfl <| gn rfl rfl a rfl <| gn rfl rfl a rfl <| og (ex_pickT' rfl a rfl rfl) rfl <| Run.opsEnd ?_
  exact Run.pick [1, 19] (z4w F true a0.Keys a0.Quorum s0 f _ _ _ c b h)
 ·have h := bif_f a h
  refine gy rfl rfl a (ex_fieldAddr rfl z6s) rfl <| gy rfl rfl a (ex_load1 rfl (b.cells (i := 0) rfl 1 rfl) rdLe_rfl z0c) rfl <| gy rfl rfl a (ex_fieldAddr rfl z1h) rfl <| gy rfl rfl a (ex_load1 rfl (b.cells (i := 0) rfl 0 rfl) rdLe_rfl z7o) rfl <| gy rfl rfl a (ex_len' rfl c z8s) rfl ?_
  obtain ⟨m, d, h⟩ := bnd_some h
  refine Run.callP (wantS_yes' rfl rfl a) (ex_call rfl za0 zaa) rfl (z06 F (1 : Int) a0.Quorum (a0.Keys.length : Int) _ _ d) <| gy rfl rfl a (ex_not rfl) rfl <| og (ex_pickF' rfl a rfl rfl) rfl <| Run.opsEnd ?_
  exact Run.pick [1, 19] (z4w F (!m) a0.Keys a0.Quorum s0 f _ _ _ c b h)

theorem zgg : makeK Tryz.prog 85 = none := by kernel_rfl
theorem zhg : callable Tryz.prog 85 = true := by kernel_rfl
abbrev z7s (r : Int) : SV → Mem → Prop := fun s _ => s = (.int .i64 r)

def alert_CheckRoll (F : Nat) (a0 : S_api_Roll) : Option (Int) :=
 bnd (alert_isRoll F a0) fun a =>
 bif (!a) then
  some (104 : Int)
 else
  some (0 : Int)

theorem z8l (F : Nat) (a0 : S_api_Roll) (s0 : SV) (r : Int) (M : Mem) (c : Slc (rd M) 2 (FlatR enc108) s0 a0.Keys) (h : alert_CheckRoll F a0 = some r) : CallsM Tryz.prog 41 [(.agg [s0, (.int .i64 a0.Quorum)])] M (fun s M' => s = (.int .i64 r) ∧ M' = M) := by
 refine CallsM.plain Tryz.func41 rfl rfl rfl (show Run _ _ _ (z7s r) _ _ _ from ?_)
 rw [alert_CheckRoll] at h
 replace c := c.mono (rdLe_frozen M) (fun _ _ h => h)
 have hH := Has.nil (frozen M)
 refine Run.seq (Run.region ?_)
 refine ox rfl (ExG.box rfl rfl hH) ?_
 rintro _ f ⟨g, rfl, b⟩
 refine av rfl rfl ?_
 refine Run.opsEnd (Run.seq (Run.seq (Run.region ?_)))
 refine og (ex_loadA rfl (b.cells (i := 0) rfl 0 rfl) rdLe_rfl zax rfl rfl rfl) rfl ?_
 obtain ⟨e, d, h⟩ := bnd_some h
 refine Run.callP wantS_none (ex_call rfl zgg zhg) rfl (za1 F a0 s0 _ _ (b.slcF c) d) <| og (ex_not rfl) rfl <| Run.opsEnd ?_
 rcases btf ((!e)) with a | a
 ·have h := bif_t a h
  refine Run.condT' rfl a ?_
  refine Run.seq (Run.region ?_)
  refine av rfl rfl <| Run.opsEnd ?_
  cases h
  exact Run.ret Tryz.func41 rfl (res_tmp rfl res_nil) rfl
 ·have h := bif_f a h
  refine Run.condF' rfl a ?_
  refine Run.skip (Run.seq (Run.region ?_))
  refine av rfl rfl <| Run.opsEnd ?_
  cases h
  exact Run.ret Tryz.func41 rfl (res_tmp rfl res_nil) rfl

theorem zhb : makeK Tryz.prog 41 = none := by kernel_rfl
theorem zh5 : callable Tryz.prog 41 = true := by kernel_rfl
theorem zf6 : makeK Tryz.prog 13 = none := by kernel_rfl
theorem zf8 : callable Tryz.prog 13 = true := by kernel_rfl
abbrev z8n (r : Bool) : SV → Mem → Prop := fun s _ => s = (.bool r)

def ref00_In_1 (F : Nat) (a : Bool) : Option (Bool) :=
 some a

theorem z8q (F : Nat) : ∀ (a : Bool) (Fr : Rd) (M : Mem) (r : Bool) (hH : Has Fr M []), ref00_In_1 F a = some r → Run Tryz.prog ⟨⟨86, [], none⟩, []⟩ 15 (z8n r) [(14, (.bool a))] [itemC Tryz.prog 86 [1, 0] 8, codeC Tryz.prog 86 [1, 1]] M := by
 intro a Fr M r hH h
 rw [ref00_In_1] at h
 refine av rfl rfl <| Run.opsEnd ?_
 cases h
 exact Run.ret Tryz.func86 rfl (res_tmp rfl res_nil) rfl

def ref00_In (F : Nat) (a0 a1 a2 : Int) : Option (Bool) :=
 bif (decide (a1 ≤ a0)) then
  ref00_In_1 F (decide (a0 ≤ a2))
 else
  ref00_In_1 F false

theorem z0k (F : Nat) (a0 a1 a2 : Int) (r : Bool) (M : Mem) (h : ref00_In F a0 a1 a2 = some r) : CallsM Tryz.prog 86 [(.int .i64 a0), (.int .i64 a1), (.int .i64 a2)] M (fun s M' => s = (.bool r) ∧ M' = M) := by
 refine CallsM.plain Tryz.func86 rfl rfl rfl (show Run _ _ _ (z8n r) _ _ _ from ?_)
 rw [ref00_In] at h
 have hH := Has.nil (frozen M)
 refine Run.seq (Run.region ?_)
 refine av rfl rfl ?_
 refine Run.opsEnd (Run.seq (Run.region ?_))
 refine mv rfl rfl <| mv rfl rfl <| og (ex_leq rfl rfl) rfl <| mv rfl rfl ?_
 rcases btf ((decide (a1 ≤ a0))) with a | a
 ·have h := bif_t a h
  refine gy rfl rfl a (ex_move rfl) rfl <| gy rfl rfl a (ex_move rfl) rfl <| gy rfl rfl a (ex_leq rfl rfl) rfl <| og (ex_pickT' rfl a rfl rfl) rfl ?_
  exact Run.pick [14] (z8q F (decide (a0 ≤ a2)) _ _ _ hH h)
 ·have h := bif_f a h
  refine gn rfl rfl a rfl <| gn rfl rfl a rfl <| gn rfl rfl a rfl <| og (ex_pickF' rfl a rfl rfl) rfl ?_
  exact Run.pick [14] (z8q F false _ _ _ hH h)

theorem z9r : makeK Tryz.prog 86 = none := by kernel_rfl
theorem z9v : callable Tryz.prog 86 = true := by kernel_rfl
theorem zbj : fieldOff Tryz.prog 108 1 = some 1 := by kernel_rfl
abbrev z3f (r : Bool) : SV → Mem → Prop := fun s _ => s = (.bool r)

def ref10_plausible_1 (F : Nat) (a : Bool) : Option (Bool) :=
 some a

theorem z3i (F : Nat) : ∀ (a : Bool) (Fr : Rd) (M : Mem) (r : Bool) (hH : Has Fr M []), ref10_plausible_1 F a = some r → Run Tryz.prog ⟨⟨87, [], none⟩, []⟩ 11 (z3f r) [(10, (.bool a))] [itemC Tryz.prog 87 [1, 0] 8, codeC Tryz.prog 87 [1, 1]] M := by
 intro a Fr M r hH h
 rw [ref10_plausible_1] at h
 refine av rfl rfl <| Run.opsEnd ?_
 cases h
 exact Run.ret Tryz.func87 rfl (res_tmp rfl res_nil) rfl

def ref10_plausible (F : Nat) (a0 : S_api_Key) : Option (Bool) :=
 bnd (ref00_In F a0.Modulus (15 : Int) (1073741824 : Int)) fun a =>
 bif a then
  bnd (ref00_In F a0.Exponent (3 : Int) (32749 : Int)) fun b =>
  ref10_plausible_1 F b
 else
  ref10_plausible_1 F false

theorem z8g (F : Nat) (a0 : S_api_Key) (r : Bool) (M : Mem) (h : ref10_plausible F a0 = some r) : CallsM Tryz.prog 87 [(.agg [(.int .i64 a0.Modulus), (.int .i64 a0.Exponent)])] M (fun s M' => s = (.bool r) ∧ M' = M) := by
 refine CallsM.plain Tryz.func87 rfl rfl rfl (show Run _ _ _ (z3f r) _ _ _ from ?_)
 rw [ref10_plausible] at h
 have hH := Has.nil (frozen M)
 refine Run.seq (Run.region ?_)
 refine ox rfl (ExG.box rfl rfl hH) ?_
 rintro _ g ⟨m, rfl, b⟩
 refine av rfl rfl ?_
 refine Run.opsEnd (Run.seq (Run.region ?_))
 refine og (ex_fieldAddr rfl z2r) rfl <| og (ex_load1 rfl (b.cells (i := 0) rfl 0 rfl) rdLe_rfl z0c) rfl ?_
 obtain ⟨f, d, h⟩ := bnd_some h
 refine Run.callP wantS_none (ex_call rfl z9r z9v) rfl (z0k F a0.Modulus (15 : Int) (1073741824 : Int) _ _ d) <| mv rfl rfl ?_
 rcases btf (f) with a | a
 ·have h := bif_t a h
  refine gy rfl rfl a (ex_fieldAddr rfl zbj) rfl <| gy rfl rfl a (ex_load1 rfl (b.cells (i := 0) rfl 1 rfl) rdLe_rfl z0c) rfl ?_
  obtain ⟨c, e, h⟩ := bnd_some h
  refine Run.callP (wantS_yes' rfl rfl a) (ex_call rfl z9r z9v) rfl (z0k F a0.Exponent (3 : Int) (32749 : Int) _ _ e) <| og (ex_pickT' rfl a rfl rfl) rfl ?_
  exact Run.pick [10] (z3i F c _ _ _ (b.pick [] rfl rfl) h)
 ·have h := bif_f a h
  refine gn rfl rfl a rfl <| gn rfl rfl a rfl <| gn rfl rfl a rfl <| og (ex_pickF' rfl a rfl rfl) rfl ?_
  exact Run.pick [10] (z3i F false _ _ _ (b.pick [] rfl rfl) h)

theorem zh1 : makeK Tryz.prog 87 = none := by kernel_rfl
theorem zgn : callable Tryz.prog 87 = true := by kernel_rfl
theorem z1d : planOf Tryz.prog (opsC (atC Tryz.prog 43 [1, 1, 0, 1, 0, 0, 1, 0, 0, 1, 1, 0, 0, 1, 0, 0])) = some [.fl 0, .fl 1, .fl 2, .fl 3, .fl 4, .fl 5, .fl 6, .fl 7, .fl 8, .fl 9, .fl 10, .fl 11, .fl 12, .fl 13, .fl 14, .fl 15, .an 16 [], .sync] := by kernel_rfl
abbrev z05 (r : Int) : SV → Mem → Prop := fun s _ => s = (.int .i64 r)

def ref10_CheckRoll_5 (F : Nat) (c : Bool → Int → Int → List S_api_Key → Int → Option (Int)) (v3 : Bool) (v4 v5 : Int) (b : List S_api_Key) (a : Int) : Option (Int) :=
 c v3 v4 (w64 (v5 + (1 : Int))) b a

theorem z3j (F : Nat) (f : Bool → Int → Int → List S_api_Key → Int → Option (Int)) (g : ∀ (v3 : Bool) (v4 v5 : Int) (d : List S_api_Key) (b : Int) (a : SV) (c : Pos) (Fr : Rd) (M : Mem) (r : Int) (e : Slc Fr 2 (FlatR enc108) a d) (hH : Has Fr M [.obj c (.row 24 .whole [a, (.int .i64 b)])]), f v3 v4 v5 d b = some r → Run Tryz.prog ⟨⟨43, [], none⟩, []⟩ 57 (z05 r) [(1, (.ptr c 0)), (3, (.bool v3)), (4, (.int .i64 v4)), (5, (.int .i64 v5))] [codeC Tryz.prog 43 [1, 1, 0, 1, 0, 0, 1, 0, 0, 1, 1, 0, 0], loopC Tryz.prog 43 [1, 1, 0, 1, 0, 0, 1, 0, 0, 1, 1, 0, 0], .inBlock 2, .inBlock 1, codeC Tryz.prog 43 [1, 1, 0, 1, 0, 0, 1, 1], loopC Tryz.prog 43 [1, 1, 0, 1, 0, 0], .inBlock 0, codeC Tryz.prog 43 [1, 1, 1]] M) : ∀ (v3 : Bool) (v4 v5 : Int) (d : List S_api_Key) (b : Int) (a : SV) (c : Pos) (Fr : Rd) (M : Mem) (r : Int) (e : Slc Fr 2 (FlatR enc108) a d) (hH : Has Fr M [.obj c (.row 24 .whole [a, (.int .i64 b)])]), ref10_CheckRoll_5 F f v3 v4 v5 d b = some r → Run Tryz.prog ⟨⟨43, [], none⟩, []⟩ 57 (z05 r) [(1, (.ptr c 0)), (3, (.bool v3)), (4, (.int .i64 v4)), (5, (.int .i64 v5))] [itemC Tryz.prog 43 [1, 1, 0, 1, 0, 0, 1, 0, 0, 1, 1, 0, 0, 1, 1] 0, loopC Tryz.prog 43 [1, 1, 0, 1, 0, 0, 1, 0, 0, 1, 1, 0, 0], .inBlock 2, .inBlock 1, codeC Tryz.prog 43 [1, 1, 0, 1, 0, 0, 1, 1], loopC Tryz.prog 43 [1, 1, 0, 1, 0, 0], .inBlock 0, codeC Tryz.prog 43 [1, 1, 1]] M := by
 intro v3 v4 v5 d b a c Fr M r e hH h
 rw [ref10_CheckRoll_5] at h
 refine mv rfl rfl <| og (ex_add rfl rfl) rfl <| av rfl rfl ?_
 refine Run.opsEnd (Run.inLoop ?_)
 exact Run.pick [1, 3, 4, 5] (g v3 v4 (w64 (v5 + (1 : Int))) d b a c _ _ _ e hH h)

def ref10_CheckRoll_4 (F : Nat) (c : Bool → Int → List S_api_Key → Int → Option (Int)) : Nat → Bool → Int → Int → List S_api_Key → Int → Option (Int)
 | 0, _, _, _, _, _ => none
 | N + 1, v3, v4, v5, a, b =>
  bif (decide (v5 < v4)) then
   bif v3 then
    bnd (idx a v5) fun e =>
    bnd (idx a v4) fun d =>
    ref10_CheckRoll_5 F (ref10_CheckRoll_4 F c N) (!(e.Modulus == d.Modulus)) v4 v5 a b
   else
    ref10_CheckRoll_5 F (ref10_CheckRoll_4 F c N) false v4 v5 a b
  else
   c v3 (w64 (v4 + (1 : Int))) a b

theorem z7r (F : Nat) (f : Bool → Int → List S_api_Key → Int → Option (Int)) (u : ∀ (v3 : Bool) (v4 : Int) (e : List S_api_Key) (d : Int) (b : SV) (c : Pos) (Fr : Rd) (M : Mem) (r : Int) (g : Slc Fr 2 (FlatR enc108) b e) (hH : Has Fr M [.obj c (.row 24 .whole [b, (.int .i64 d)])]), f v3 v4 e d = some r → Run Tryz.prog ⟨⟨43, [], none⟩, []⟩ 57 (z05 r) [(1, (.ptr c 0)), (3, (.bool v3)), (4, (.int .i64 v4))] [codeC Tryz.prog 43 [1, 1, 0, 1, 0, 0], loopC Tryz.prog 43 [1, 1, 0, 1, 0, 0], .inBlock 0, codeC Tryz.prog 43 [1, 1, 1]] M) : ∀ (N : Nat), ∀ (v3 : Bool) (v4 v5 : Int) (e : List S_api_Key) (d : Int) (b : SV) (c : Pos) (Fr : Rd) (M : Mem) (r : Int) (g : Slc Fr 2 (FlatR enc108) b e) (hH : Has Fr M [.obj c (.row 24 .whole [b, (.int .i64 d)])]), ref10_CheckRoll_4 F f N v3 v4 v5 e d = some r → Run Tryz.prog ⟨⟨43, [], none⟩, []⟩ 57 (z05 r) [(1, (.ptr c 0)), (3, (.bool v3)), (4, (.int .i64 v4)), (5, (.int .i64 v5))] [codeC Tryz.prog 43 [1, 1, 0, 1, 0, 0, 1, 0, 0, 1, 1, 0, 0], loopC Tryz.prog 43 [1, 1, 0, 1, 0, 0, 1, 0, 0, 1, 1, 0, 0], .inBlock 2, .inBlock 1, codeC Tryz.prog 43 [1, 1, 0, 1, 0, 0, 1, 1], loopC Tryz.prog 43 [1, 1, 0, 1, 0, 0], .inBlock 0, codeC Tryz.prog 43 [1, 1, 1]] M := by
 intro N
 induction N with
 | zero =>
  intro v3 v4 v5 e d b c Fr M r g hH h
  simp [ref10_CheckRoll_4] at h
 | succ N ih =>
  intro v3 v4 v5 e d b c Fr M r g hH h
  rw [ref10_CheckRoll_4] at h
  refine Run.seq (Run.seq (Run.region ?_))
  refine mv rfl rfl <| mv rfl rfl <| og (ex_lss rfl rfl) rfl <| Run.opsEnd ?_
  rcases btf ((decide (v5 < v4))) with m | m
  ·have h := bif_t m h
   refine Run.condT' rfl m ?_
   refine Run.skip (Run.seq (Run.block ?_))
   refine Run.drawG z1d <| df rfl (ex_move rfl) rfl <| df rfl (ex_move rfl) rfl ?_
   rcases btf (v3) with a | a
   ·have h := bif_t a h
    refine dy rfl rfl rfl a (ex_fieldAddr rfl z1h) rfl <| dy rfl rfl rfl a (ex_load1 rfl (hH.cells (i := 0) rfl 0 rfl) rdLe_rfl z7o) rfl <| dy rfl rfl rfl a (ex_move rfl) rfl ?_
    obtain ⟨a0, p, h⟩ := bnd_some h
    obtain ⟨a3, a1, _, p, s, rfl⟩ := sl_elem (P := Tryz.prog) (t := 22) (kk := .i64) g p zb3
    refine dy rfl rfl rfl a (ex_elX rfl rfl p) rfl ?_
    have x := (s.fld (o := 0) rfl)
    refine dy rfl rfl rfl a (ex_fieldAddr rfl z2r) rfl <| dy rfl rfl rfl a (ex_load1 rfl (hH.ptrF x) rdLe_rfl z0c) rfl <| dy rfl rfl rfl a (ex_fieldAddr rfl z1h) rfl <| dy rfl rfl rfl a (ex_load1 rfl (hH.cells (i := 0) rfl 0 rfl) rdLe_rfl z7o) rfl <| dy rfl rfl rfl a (ex_move rfl) rfl ?_
    obtain ⟨y, n, h⟩ := bnd_some h
    obtain ⟨a4, a2, _, n, q, rfl⟩ := sl_elem (P := Tryz.prog) (t := 22) (kk := .i64) g n zb3
    refine dy rfl rfl rfl a (ex_elX rfl rfl n) rfl ?_
    have w := (q.fld (o := 0) rfl)
    refine dy rfl rfl rfl a (ex_fieldAddr rfl z2r) rfl <| dy rfl rfl rfl a (ex_load1 rfl (hH.ptrF w) rdLe_rfl z0c) rfl <| dy rfl rfl rfl a (ex_neq rfl rfl) rfl <| df rfl (ex_pickT' rfl a rfl rfl) rfl <| DrawG.val rfl wantS_none (ex_assign rfl) rfl st_nil <| DrawG.sync <| DrawG.nil ?_
    refine Run.inBlock (Run.region ?_)
    exact Run.pick [1, 3, 4, 5] (z3j F (ref10_CheckRoll_4 F f N) ih (!(a0.Modulus == y.Modulus)) v4 v5 e d b c _ _ _ g hH h)
   ·have h := bif_f a h
    refine dn rfl rfl rfl a rfl <| dn rfl rfl rfl a rfl <| dn rfl rfl rfl a rfl <| dn rfl rfl rfl a rfl <| dn rfl rfl rfl a rfl <| dn rfl rfl rfl a rfl <| dn rfl rfl rfl a rfl <| dn rfl rfl rfl a rfl <| dn rfl rfl rfl a rfl <| dn rfl rfl rfl a rfl <| dn rfl rfl rfl a rfl <| dn rfl rfl rfl a rfl <| dn rfl rfl rfl a rfl <| df rfl (ex_pickF' rfl a rfl rfl) rfl <| DrawG.val rfl wantS_none (ex_assign rfl) rfl st_nil <| DrawG.sync <| DrawG.nil ?_
    refine Run.inBlock (Run.region ?_)
    exact Run.pick [1, 3, 4, 5] (z3j F (ref10_CheckRoll_4 F f N) ih false v4 v5 e d b c _ _ _ g hH h)
  ·have h := bif_f m h
   refine Run.condF' rfl m ?_
   refine Run.exit rfl (Run.inBlock (Run.region ?_))
   refine mv rfl rfl <| og (ex_add rfl rfl) rfl <| av rfl rfl ?_
   refine Run.opsEnd (Run.inLoop ?_)
   exact Run.pick [1, 3, 4] (u v3 (w64 (v4 + (1 : Int))) e d b c _ _ _ g hH h)

def ref10_CheckRoll_3 (F : Nat) (d : Bool → Int → List S_api_Key → Int → Option (Int)) (v4 : Int) (c : Bool) (b : List S_api_Key) (a : Int) : Option (Int) :=
 ref10_CheckRoll_4 F d F c v4 (0 : Int) b a

theorem z3e (F : Nat) (m : Bool → Int → List S_api_Key → Int → Option (Int)) (g : ∀ (v3 : Bool) (v4 : Int) (d : List S_api_Key) (b : Int) (a : SV) (c : Pos) (Fr : Rd) (M : Mem) (r : Int) (e : Slc Fr 2 (FlatR enc108) a d) (hH : Has Fr M [.obj c (.row 24 .whole [a, (.int .i64 b)])]), m v3 v4 d b = some r → Run Tryz.prog ⟨⟨43, [], none⟩, []⟩ 57 (z05 r) [(1, (.ptr c 0)), (3, (.bool v3)), (4, (.int .i64 v4))] [codeC Tryz.prog 43 [1, 1, 0, 1, 0, 0], loopC Tryz.prog 43 [1, 1, 0, 1, 0, 0], .inBlock 0, codeC Tryz.prog 43 [1, 1, 1]] M) : ∀ (v4 : Int) (f : Bool) (d : List S_api_Key) (b : Int) (a : SV) (c : Pos) (Fr : Rd) (M : Mem) (r : Int) (e : Slc Fr 2 (FlatR enc108) a d) (hH : Has Fr M [.obj c (.row 24 .whole [a, (.int .i64 b)])]), ref10_CheckRoll_3 F m v4 f d b = some r → Run Tryz.prog ⟨⟨43, [], none⟩, []⟩ 57 (z05 r) [(1, (.ptr c 0)), (4, (.int .i64 v4)), (33, (.bool f))] [itemC Tryz.prog 43 [1, 1, 0, 1, 0, 0, 1, 0, 0, 0] 9, codeC Tryz.prog 43 [1, 1, 0, 1, 0, 0, 1, 0, 0, 1], .inBlock 1, codeC Tryz.prog 43 [1, 1, 0, 1, 0, 0, 1, 1], loopC Tryz.prog 43 [1, 1, 0, 1, 0, 0], .inBlock 0, codeC Tryz.prog 43 [1, 1, 1]] M := by
 intro v4 f d b a c Fr M r e hH h
 rw [ref10_CheckRoll_3] at h
 refine av rfl rfl ?_
 refine Run.opsEnd (Run.seq (Run.region ?_))
 refine av rfl rfl ?_
 refine Run.opsEnd (Run.block (Run.loop ?_))
 exact Run.pick [1, 3, 4, 5] (z7r F m g F f v4 (0 : Int) d b a c _ _ _ e hH h)

def ref10_CheckRoll_2 (F : Nat) : Nat → Bool → Int → List S_api_Key → Int → Option (Int)
 | 0, _, _, _, _ => none
 | N + 1, v3, v4, a, b =>
  bif (decide (v4 < (a.length : Int))) then
   bif v3 then
    bnd (idx a v4) fun d =>
    bnd (ref10_plausible F d) fun c =>
    ref10_CheckRoll_3 F (ref10_CheckRoll_2 F N) v4 c a b
   else
    ref10_CheckRoll_3 F (ref10_CheckRoll_2 F N) v4 false a b
  else
   bif (!v3) then
    some (104 : Int)
   else
    some (0 : Int)

theorem z7q (F : Nat) : ∀ (N : Nat), ∀ (v3 : Bool) (v4 : Int) (e : List S_api_Key) (g : Int) (b : SV) (c : Pos) (Fr : Rd) (M : Mem) (r : Int) (d : Slc Fr 2 (FlatR enc108) b e) (hH : Has Fr M [.obj c (.row 24 .whole [b, (.int .i64 g)])]), ref10_CheckRoll_2 F N v3 v4 e g = some r → Run Tryz.prog ⟨⟨43, [], none⟩, []⟩ 57 (z05 r) [(1, (.ptr c 0)), (3, (.bool v3)), (4, (.int .i64 v4))] [codeC Tryz.prog 43 [1, 1, 0, 1, 0, 0], loopC Tryz.prog 43 [1, 1, 0, 1, 0, 0], .inBlock 0, codeC Tryz.prog 43 [1, 1, 1]] M := by
 intro N
 induction N with
 | zero =>
  intro v3 v4 e g b c Fr M r d hH h
  simp [ref10_CheckRoll_2] at h
 | succ N ih =>
  intro v3 v4 e g b c Fr M r d hH h
  rw [ref10_CheckRoll_2] at h
  refine Run.seq (Run.seq (Run.region ?_))
  refine mv rfl rfl <| og (ex_fieldAddr rfl z1h) rfl <| og (ex_load1 rfl (hH.cells (i := 0) rfl 0 rfl) rdLe_rfl z7o) rfl <| og (ex_len' rfl d z8s) rfl <| og (ex_lss rfl rfl) rfl <| Run.opsEnd ?_
  rcases btf ((decide (v4 < (e.length : Int)))) with hc31 | hc31
  ·have h := bif_t hc31 h
   refine Run.condT' rfl hc31 ?_
   refine Run.skip (Run.seq (Run.block (Run.seq (Run.region ?_))))
   refine mv rfl rfl <| mv rfl rfl ?_
   rcases btf (v3) with a | a
   ·have h := bif_t a h
    refine gy rfl rfl a (ex_fieldAddr rfl z1h) rfl <| gy rfl rfl a (ex_load1 rfl (hH.cells (i := 0) rfl 0 rfl) rdLe_rfl z7o) rfl <| gy rfl rfl a (ex_move rfl) rfl ?_
    obtain ⟨s, n, h⟩ := bnd_some h
    obtain ⟨u, w, _, n, q, rfl⟩ := sl_elem (P := Tryz.prog) (t := 22) (kk := .i64) d n zb3
    refine gy rfl rfl a (ex_elX rfl rfl n) rfl <| gy rfl rfl a (ex_loadA rfl (hH.ptrF q) rdLe_rfl z9m rfl rfl rfl) rfl ?_
    obtain ⟨f, p, h⟩ := bnd_some h
    refine Run.callP (wantS_yes' rfl rfl a) (ex_call rfl zh1 zgn) rfl (z8g F s _ _ p) <| og (ex_pickT' rfl a rfl rfl) rfl ?_
    exact Run.pick [1, 4, 33] (z3e F (ref10_CheckRoll_2 F N) ih v4 f e g b c _ _ _ d hH h)
   ·have h := bif_f a h
    refine gn rfl rfl a rfl <| gn rfl rfl a rfl <| gn rfl rfl a rfl <| gn rfl rfl a rfl <| gn rfl rfl a rfl <| gn rfl rfl a rfl <| og (ex_pickF' rfl a rfl rfl) rfl ?_
    exact Run.pick [1, 4, 33] (z3e F (ref10_CheckRoll_2 F N) ih v4 false e g b c _ _ _ d hH h)
  ·have h := bif_f hc31 h
   refine Run.condF' rfl hc31 ?_
   refine Run.exit rfl (Run.seq (Run.seq (Run.region ?_)))
   refine mv rfl rfl <| og (ex_not rfl) rfl <| Run.opsEnd ?_
   rcases btf ((!v3)) with m | m
   ·have h := bif_t m h
    refine Run.condT' rfl m ?_
    refine Run.seq (Run.region ?_)
    refine av rfl rfl <| Run.opsEnd ?_
    cases h
    exact Run.ret Tryz.func43 rfl (res_tmp rfl res_nil) rfl
   ·have h := bif_f m h
    refine Run.condF' rfl m ?_
    refine Run.skip (Run.seq (Run.region ?_))
    refine av rfl rfl <| Run.opsEnd ?_
    cases h
    exact Run.ret Tryz.func43 rfl (res_tmp rfl res_nil) rfl

def ref10_CheckRoll_1 (F : Nat) (c : Bool) (b : List S_api_Key) (a : Int) : Option (Int) :=
 ref10_CheckRoll_2 F F c (0 : Int) b a

theorem z3c (F : Nat) : ∀ (f : Bool) (d : List S_api_Key) (b : Int) (a : SV) (c : Pos) (Fr : Rd) (M : Mem) (r : Int) (e : Slc Fr 2 (FlatR enc108) a d) (hH : Has Fr M [.obj c (.row 24 .whole [a, (.int .i64 b)])]), ref10_CheckRoll_1 F f d b = some r → Run Tryz.prog ⟨⟨43, [], none⟩, []⟩ 57 (z05 r) [(1, (.ptr c 0)), (17, (.bool f))] [itemC Tryz.prog 43 [1, 0] 12, codeC Tryz.prog 43 [1, 1]] M := by
 intro f d b a c Fr M r e hH h
 rw [ref10_CheckRoll_1] at h
 refine av rfl rfl ?_
 refine Run.opsEnd (Run.seq (Run.seq (Run.region ?_)))
 refine av rfl rfl ?_
 refine Run.opsEnd (Run.block (Run.loop ?_))
 exact Run.pick [1, 3, 4] (z7q F F f (0 : Int) d b a c _ _ _ e hH h)

def ref10_CheckRoll (F : Nat) (a0 : S_api_Roll) : Option (Int) :=
 bnd (ref00_In F (a0.Keys.length : Int) (1 : Int) (8 : Int)) fun a =>
 bif a then
  bnd (ref00_In F a0.Quorum (1 : Int) (a0.Keys.length : Int)) fun b =>
  ref10_CheckRoll_1 F b a0.Keys a0.Quorum
 else
  ref10_CheckRoll_1 F false a0.Keys a0.Quorum

theorem z4m (F : Nat) (a0 : S_api_Roll) (s0 : SV) (r : Int) (M : Mem) (c : Slc (rd M) 2 (FlatR enc108) s0 a0.Keys) (h : ref10_CheckRoll F a0 = some r) : CallsM Tryz.prog 43 [(.agg [s0, (.int .i64 a0.Quorum)])] M (fun s M' => s = (.int .i64 r) ∧ M' = M) := by
 refine CallsM.plain Tryz.func43 rfl rfl rfl (show Run _ _ _ (z05 r) _ _ _ from ?_)
 rw [ref10_CheckRoll] at h
 replace c := c.mono (rdLe_frozen M) (fun _ _ h => h)
 have hH := Has.nil (frozen M)
 refine Run.seq (Run.region ?_)
 refine ox rfl (ExG.box rfl rfl hH) ?_
 rintro _ p ⟨f, rfl, b⟩
 refine av rfl rfl ?_
 refine Run.opsEnd (Run.seq (Run.region ?_))
 refine og (ex_fieldAddr rfl z1h) rfl <| og (ex_load1 rfl (b.cells (i := 0) rfl 0 rfl) rdLe_rfl z7o) rfl <| og (ex_len' rfl c z8s) rfl ?_
 obtain ⟨m, d, h⟩ := bnd_some h
 refine Run.callP wantS_none (ex_call rfl z9r z9v) rfl (z0k F (a0.Keys.length : Int) (1 : Int) (8 : Int) _ _ d) <| mv rfl rfl ?_
 rcases btf (m) with a | a
 ·have h := bif_t a h
  refine gy rfl rfl a (ex_fieldAddr rfl z6s) rfl <| gy rfl rfl a (ex_load1 rfl (b.cells (i := 0) rfl 1 rfl) rdLe_rfl z0c) rfl <| gy rfl rfl a (ex_fieldAddr rfl z1h) rfl <| gy rfl rfl a (ex_load1 rfl (b.cells (i := 0) rfl 0 rfl) rdLe_rfl z7o) rfl <| gy rfl rfl a (ex_len' rfl c z8s) rfl ?_
  obtain ⟨g, e, h⟩ := bnd_some h
  refine Run.callP (wantS_yes' rfl rfl a) (ex_call rfl z9r z9v) rfl (z0k F a0.Quorum (1 : Int) (a0.Keys.length : Int) _ _ e) <| og (ex_pickT' rfl a rfl rfl) rfl ?_
  exact Run.pick [1, 17] (z3c F g a0.Keys a0.Quorum s0 f _ _ _ c b h)
 ·have h := bif_f a h
  refine gn rfl rfl a rfl <| gn rfl rfl a rfl <| gn rfl rfl a rfl <| gn rfl rfl a rfl <| gn rfl rfl a rfl <| gn rfl rfl a rfl <| og (ex_pickF' rfl a rfl rfl) rfl ?_
  exact Run.pick [1, 17] (z3c F false a0.Keys a0.Quorum s0 f _ _ _ c b h)

theorem zfx : makeK Tryz.prog 43 = none := by kernel_rfl
theorem zg0 : callable Tryz.prog 43 = true := by kernel_rfl
theorem zd0 : eqK Tryz.prog 50 = some .ptr := by kernel_rfl
theorem zd8 : makeK Tryz.prog 14 = none := by kernel_rfl
theorem zd6 : callable Tryz.prog 14 = true := by kernel_rfl
theorem zb9 : appT Tryz.prog 22 22 = some (⟨2, 16, [(.int .i64 0), (.int .i64 0)], 108⟩ : Elt) := by kernel_rfl
theorem ze8 : zerosOf Tryz.prog 24 = some [.nils, (.int .i64 0)] := by kernel_rfl
theorem zg2 : placesOf Tryz.prog 24 = some (.st [(0, 1), (1, 1)]) := by kernel_rfl
theorem zej : zerosOf Tryz.prog 58 = some [.nils, (.int .i64 0), .nils] := by kernel_rfl
theorem zem : placesOf Tryz.prog 58 = some (.st [(0, 2), (2, 1)]) := by kernel_rfl
theorem z7u : planOf Tryz.prog (opsC (atC Tryz.prog 13 [1, 1, 1, 0])) = some [.fl 0, .fl 1, .fl 2, .fl 4, .fl 5, .an 3 [5, 4], .fl 6, .fl 7, .an 8 [], .fl 9, .fl 10, .sync] := by kernel_rfl
structure S_alert_roll where
 keys : (List S_api_Key)
 quorum : Int

def z01 (a : S_api_Key) : List SV := [(.int .i64 a.Modulus), (.int .i64 a.Exponent)]
theorem z3p (a : S_api_Key) : (z01 a).length = 2 := rfl
theorem zbd (a : S_api_Key) : ones (z01 a) = true := rfl
theorem zdl : zerosOf Tryz.prog 39 = some [.nils, (.int .i64 0)] := by kernel_rfl
theorem zhh : sliceElt Tryz.prog 37 = some (⟨2, 16, [(.int .i64 0), (.int .i64 0)], 166⟩ : Elt) := by kernel_rfl
theorem zbx : appT Tryz.prog 37 37 = some (⟨2, 16, [(.int .i64 0), (.int .i64 0)], 166⟩ : Elt) := by kernel_rfl
theorem zgi : placesOf Tryz.prog 39 = some (.st [(0, 1), (1, 1)]) := by kernel_rfl
theorem zhy : szOf Tryz.prog 39 = some 2 := by kernel_rfl
theorem zd5 : aggSize Tryz.prog 39 = some (some 2) := by kernel_rfl
abbrev z54 (r : S_alert_roll) : SV → Mem → Prop := fun s Me => ∃ q1, s = (.agg [q1, (.int .i64 r.quorum)]) ∧ Has (fun _ => none) Me [.vec 166 2 r.keys.length q1 (r.keys.flatMap z01)]

def alert_rollOf_1 (F : Nat) : Nat → List S_api_Key → Int → Int → List S_api_Key → Int → Int → List S_api_Key → Option (S_alert_roll)
 | 0, _, _, _, _, _, _, _ => none
 | N + 1, v7, v8, v9, d, a, b, c =>
  bif (decide (v9 < v8)) then
   bnd (idx v7 v9) fun e =>
   bnd (apd 16 c ([e] : List S_api_Key)) fun f =>
   (alert_rollOf_1 F N) v7 v8 (w64 (v9 + (1 : Int))) d a b f
  else
   some (S_alert_roll.mk c a)

theorem z8y (F : Nat) : ∀ (N : Nat), ∀ (v7 : List S_api_Key) (v8 v9 : Int) (g : List S_api_Key) (a e : Int) (f : List S_api_Key) (a4 d : SV) (a3 a2 : Pos) (a1 : SV) (Fr : Rd) (M : Mem) (r : S_alert_roll) (a5 : Slc Fr 2 (FlatR enc108) a4 v7) (m : Slc Fr 2 (FlatR enc108) d g) (hH : Has Fr M [.obj a3 (.row 24 .whole [d, (.int .i64 a)]), .obj a2 (.row 39 .whole [.nils, (.int .i64 e)]), .vec 166 2 f.length a1 (f.flatMap z01)]), alert_rollOf_1 F N v7 v8 v9 g a e f = some r → Run Tryz.prog ⟨⟨42, [], none⟩, []⟩ 22 (z54 r) [(1, (.ptr a3 0)), (2, (.ptr a2 0)), (3, a1), (7, a4), (8, (.int .i64 v8)), (9, (.int .i64 v9))] [codeC Tryz.prog 42 [1, 1, 0, 1, 0, 0], loopC Tryz.prog 42 [1, 1, 0, 1, 0, 0], .inBlock 0, codeC Tryz.prog 42 [1, 1, 1]] M := by
 intro N
 induction N with
 | zero =>
  intro v7 v8 v9 g a e f a4 d a3 a2 a1 Fr M r a5 m hH h
  simp [alert_rollOf_1] at h
 | succ N ih =>
  intro v7 v8 v9 g a e f a4 d a3 a2 a1 Fr M r a5 m hH h
  rw [alert_rollOf_1] at h
  refine Run.seq (Run.region ?_)
  refine og (ex_lss rfl rfl) rfl ?_
  refine Run.opsEnd (Run.seq ?_)
  rcases btf ((decide (v9 < v8))) with n | n
  ·have h := bif_t n h
   refine Run.condT' rfl n ?_
   refine Run.skip (Run.seq (Run.block (Run.seq (Run.region ?_))))
   obtain ⟨c, q, h⟩ := bnd_some h
   obtain ⟨b5, b4, _, q, w, rfl⟩ := sl_elem (P := Tryz.prog) (t := 22) (kk := .i64) a5 q zb3
   refine og (ex_elX rfl rfl q) rfl <| og (ex_loadA rfl (hH.ptrF w) rdLe_rfl z9m rfl rfl rfl) rfl <| ox rfl (ExG.new (v := fun b => .ptr b 0) (ex_alloc zcj) hH) ?_
   rintro _ b6 ⟨a7, rfl, y⟩
   refine ox rfl (ExG.storeC (c' := [(.int .i64 c.Modulus), (.int .i64 c.Exponent)]) rfl rfl rfl y (i := 0) rfl zf1 rfl rfl rfl rfl rfl) ?_
   rintro _ b0 ⟨rfl, (s : Has Fr b0 [.obj a7 (.row 108 .whole [(.int .i64 c.Modulus), (.int .i64 c.Exponent)]), .obj a3 (.row 24 .whole [d, (.int .i64 a)]), .obj a2 (.row 39 .whole [.nils, (.int .i64 e)]), .vec 166 2 f.length a1 (f.flatMap z01)])⟩
   refine Run.opsEnd (Run.region ?_)
   refine mv rfl rfl <| og (ex_loadA rfl (s.cells (i := 0) rfl 0 rfl) rdLe_rfl z9m rfl rfl rfl) rfl <| ox rfl (ExG.built (enc := z01) (l := ([c] : List S_api_Key)) (z := 2) rfl zhh rfl rfl rfl z3p s) ?_
   rintro a9 b2 (p : Has Fr b2 [.vec 166 2 ([c] : List S_api_Key).length a9 (([c] : List S_api_Key).flatMap z01), .obj a7 (.row 108 .whole [(.int .i64 c.Modulus), (.int .i64 c.Exponent)]), .obj a3 (.row 24 .whole [d, (.int .i64 a)]), .obj a2 (.row 39 .whole [.nils, (.int .i64 e)]), .vec 166 2 f.length a1 (f.flatMap z01)])
   obtain ⟨a6, a0, h⟩ := bnd_some h
   refine ox rfl (ExG.append rfl rfl p (i := 4) rfl z3p rfl zbd zbx rfl (len_slc (p.slc (i := 0) rfl z3p)) (first_slc (p.slc (i := 0) rfl z3p) (rdLe_rdRow _) z3p) a0) ?_
   rintro a8 b3 (x : Has Fr b3 [.vec 166 2 ([c] : List S_api_Key).length a9 (([c] : List S_api_Key).flatMap z01), .obj a7 (.row 108 .whole [(.int .i64 c.Modulus), (.int .i64 c.Exponent)]), .obj a3 (.row 24 .whole [d, (.int .i64 a)]), .obj a2 (.row 39 .whole [.nils, (.int .i64 e)]), .vec 166 2 a6.length a8 (a6.flatMap z01)])
   refine av rfl rfl ?_
   refine Run.opsEnd (Run.inBlock (Run.region ?_))
   refine og (ex_add rfl rfl) rfl <| mv rfl rfl ?_
   refine Run.opsEnd (Run.inLoop ?_)
   exact Run.pick [1, 2, 3, 7, 8, 9] (ih v7 v8 (w64 (v9 + (1 : Int))) g a e a6 a4 d a3 a2 a8 _ _ _ a5 m (x.pick [2, 3, 4] rfl rfl) h)
  ·have h := bif_f n h
   refine Run.condF' rfl n ?_
   refine Run.exit rfl (Run.seq (Run.region ?_))
   refine mv rfl rfl <| og (ex_fieldAddr rfl z6s) rfl <| og (ex_load1 rfl (hH.cells (i := 0) rfl 1 rfl) rdLe_rfl z0c) rfl <| og (ex_build (r := [a1, (.int .i64 a)]) rfl zdl zgi (by simp only [fillS, cells_one (vec_one hH (i := 2) rfl)]; rfl)) rfl <| ox rfl (ExG.storeC (c' := [a1, (.int .i64 a)]) rfl rfl rfl hH (i := 1) rfl zhy rfl rfl rfl (ones_cons (vec_one hH (i := 2) rfl) (ones_cons rfl ones_nil)) rfl) ?_
   rintro _ b1 ⟨rfl, (u : Has Fr b1 [.obj a3 (.row 24 .whole [d, (.int .i64 a)]), .obj a2 (.row 39 .whole [a1, (.int .i64 a)]), .vec 166 2 f.length a1 (f.flatMap z01)])⟩
   refine Run.opsEnd ?_
   cases h
   exact Run.ret Tryz.func42 rfl (res_cell rfl (x_load (ex_loadA rfl (u.cells (i := 1) rfl 0 rfl) rdLe_rfl zd5 rfl rfl rfl)) res_nil) ⟨_, rfl, (u.pick [2] rfl rfl).upF (none_le _)⟩

def alert_rollOf (F : Nat) (a0 : S_api_Roll) : Option (S_alert_roll) :=
 alert_rollOf_1 F F a0.Keys (a0.Keys.length : Int) (0 : Int) a0.Keys a0.Quorum (0 : Int) ([] : List S_api_Key)

theorem zaf (F : Nat) (a0 : S_api_Roll) (s0 : SV) (r : S_alert_roll) (M : Mem) (c : Slc (rd M) 2 (FlatR enc108) s0 a0.Keys) (h : alert_rollOf F a0 = some r) : CallsM Tryz.prog 42 [(.agg [s0, (.int .i64 a0.Quorum)])] M (fun s M' => ∃ q1, s = (.agg [q1, (.int .i64 r.quorum)]) ∧ New M M' [.vec 166 2 r.keys.length q1 (r.keys.flatMap z01)]) := by
 refine CallsM.fresh (Q := z54 r) Tryz.func42 rfl rfl ?_ (by rintro s Me ⟨q1, rfl, hx⟩ ha hw; exact ⟨_, rfl, New.of rfl hx ha hw⟩)
 rw [alert_rollOf] at h
 replace c := c.mono (rdLe_frozen M) (fun _ _ h => h)
 have hH := Has.nil (frozen M)
 refine Run.seq (Run.region ?_)
 refine ox rfl (ExG.box rfl rfl hH) ?_
 rintro _ p ⟨g, rfl, e⟩
 refine ox rfl (ExG.new (v := fun b => .ptr b 0) (ex_alloc zdl) e) ?_
 rintro _ m ⟨f, rfl, a⟩
 refine Run.opsEnd (Run.seq (Run.region ?_))
 refine av rfl rfl ?_
 refine Run.opsEnd (Run.seq (Run.seq (Run.region ?_)))
 refine og (ex_fieldAddr rfl z1h) rfl <| og (ex_load1 rfl (a.cells (i := 1) rfl 0 rfl) rdLe_rfl z7o) rfl <| og (ex_len' rfl c z8s) rfl <| mv rfl rfl ?_
 refine Run.opsEnd (Run.block (Run.loop ?_))
 have d : Has (ro (frozen M)) m [.vec 166 2 ([] : List S_api_Key).length .nils (([] : List S_api_Key).flatMap z01), .obj f (.row 39 .whole [.nils, (.int .i64 0)]), .obj g (.row 24 .whole [s0, (.int .i64 a0.Quorum)])] := a.nils 166 2
 exact Run.pick [1, 2, 3, 7, 8, 9] (z8y F F a0.Keys (a0.Keys.length : Int) (0 : Int) a0.Keys a0.Quorum (0 : Int) ([] : List S_api_Key) s0 s0 g f .nils _ _ _ c c (d.pick [2, 1, 0] rfl rfl) h)

theorem zho : makeK Tryz.prog 42 = none := by kernel_rfl
theorem zgw : callable Tryz.prog 42 = true := by kernel_rfl
theorem zhz : szOf Tryz.prog 26 = some 1 := by kernel_rfl
theorem z5c : elems Tryz.prog 25 = some (.sl 10) := by kernel_rfl
theorem z4b : aggSize Tryz.prog 36 = some (some 10) := by kernel_rfl
theorem zfq : makeK Tryz.prog 15 = none := by kernel_rfl
theorem zfw : callable Tryz.prog 15 = true := by kernel_rfl
theorem z14 : fieldOff Tryz.prog 36 1 = some 9 := by kernel_rfl
theorem z82 : aggSize Tryz.prog 34 = some none := by kernel_rfl
theorem zaj : appT Tryz.prog 34 34 = some (⟨2, 16, [(.int .i64 0), (.int .i64 0)], 123⟩ : Elt) := by kernel_rfl
theorem zga : szOf Tryz.prog 34 = some 1 := by kernel_rfl
theorem z0a : fieldOff Tryz.prog 36 0 = some 0 := by kernel_rfl
theorem zb8 : appT Tryz.prog 31 31 = some (⟨1, 8, [(.int .i64 0)], 3⟩ : Elt) := by kernel_rfl
abbrev z8w (r : List Int) : SV → Mem → Prop := fun s Me => ∃ q1, s = q1 ∧ Has (fun _ => none) Me [.vec 3 1 r.length q1 (r.flatMap enc3)]

def ref00_OwnInts (F : Nat) (a0 : List Int) : Option ((List Int)) :=
 bnd (apd 8 ([] : List Int) a0) fun a =>
 some a

theorem z5v (F : Nat) (a0 : List Int) (s0 : SV) (r : List Int) (M : Mem) (c : Slc (rd M) 1 (FlatR enc3) s0 a0) (h : ref00_OwnInts F a0 = some r) : CallsM Tryz.prog 48 [s0] M (fun s M' => ∃ q1, s = q1 ∧ New M M' [.vec 3 1 r.length q1 (r.flatMap enc3)]) := by
 refine CallsM.fresh (Q := z8w r) Tryz.func48 rfl rfl ?_ (by rintro s Me ⟨q1, rfl, hx⟩ ha hw; exact ⟨_, rfl, New.of rfl hx ha hw⟩)
 rw [ref00_OwnInts] at h
 replace c := c.mono (rdLe_frozen M) (fun _ _ h => h)
 have hH := Has.nil (frozen M)
 refine Run.seq (Run.region ?_)
 refine av rfl rfl ?_
 refine Run.opsEnd (Run.seq (Run.region ?_))
 refine av rfl rfl ?_
 refine Run.opsEnd (Run.seq (Run.region ?_))
 refine mv rfl rfl <| mv rfl rfl ?_
 obtain ⟨e, d, h⟩ := bnd_some h
 have a : Has (ro (frozen M)) (frozen M) [.vec 3 1 ([] : List Int).length .nils (([] : List Int).flatMap enc3)] := hH.nils 3 1
 refine ox rfl (ExG.append rfl rfl a (i := 0) rfl z0i rfl zb5 zb8 rfl (len_slc c) (first_slc c (rdLe_roF a) z0i) d) ?_
 rintro f g (b : Has (ro (frozen M)) g [.vec 3 1 e.length f (e.flatMap enc3)])
 refine av rfl rfl <| Run.opsEnd ?_
 cases h
 exact Run.ret Tryz.func48 rfl (res_tmp rfl res_nil) ⟨_, rfl, (b.pick [0] rfl rfl).upF (none_le _)⟩

theorem zfn : makeK Tryz.prog 48 = none := by kernel_rfl
theorem zfa : callable Tryz.prog 48 = true := by kernel_rfl
theorem zhl : szOf Tryz.prog 31 = some 1 := by kernel_rfl
theorem zdd : szOf Tryz.prog 36 = some 10 := by kernel_rfl
abbrev z2g (u : List UInt8) (p d q w e : Int) (m : List Int) (x : Bool) (n : Int) (g : List S_api_Signature) (a b : SV) (Fr0 : Rd) (Hr : List Ent) (r : (List UInt8) × Int × Int × Int × Int × Int × (List Int) × Bool × Int × (List S_api_Signature)) : SV → Mem → Prop := fun s Me => ∃ q1, ∃ q2, s = (.agg (k1 r.1 r.2.1 r.2.2.1 r.2.2.2.1 r.2.2.2.2.1 r.2.2.2.2.2.1 q1 r.2.2.2.2.2.2.2.1 r.2.2.2.2.2.2.2.2.1 q2)) ∧ ∃ F9 : Rd, RdLe Fr0 F9 ∧ Slc F9 1 (FlatR enc3) q1 r.2.2.2.2.2.2.1 ∧ Slc F9 2 (FlatR enc123) q2 r.2.2.2.2.2.2.2.2.2 ∧ Has F9 Me (([tb0, tb1, tb2] : List Ent) ++ Hr)

def ref10_OwnNotice_h1 (F : Nat) (p : List UInt8) (m a n q b : Int) (e : List Int) (s : Bool) (g : Int) (d : List S_api_Signature) : Option ((List UInt8) × Int × Int × Int × Int × Int × (List Int) × Bool × Int × (List S_api_Signature)) :=
 bnd (apd 16 ([] : List S_api_Signature) d) fun w =>
 bnd (ref00_OwnInts F e) fun u =>
 some (p, m, a, n, q, b, u, s, g, w)

theorem z7j (F : Nat) : ∀ (q : List UInt8) (p a e m d : Int) (a2 : List Int) (g : Bool) (n : Int) (a3 : List S_api_Signature) (s y : SV) (Fr0 : Rd) (Hr : List Ent) (M : Mem) (r : (List UInt8) × Int × Int × Int × Int × Int × (List Int) × Bool × Int × (List S_api_Signature)) (a6 : Slc Fr0 1 (FlatR enc3) s a2) (a7 : Slc Fr0 2 (FlatR enc123) y a3) (hH : Has Fr0 M (([tb0, tb1, tb2] : List Ent) ++ Hr)) (h : ref10_OwnNotice_h1 F q p a e m d a2 g n a3 = some r), CallsM Tryz.prog 15 [(.agg (k1 q p a e m d s g n y))] M (z2g q p a e m d a2 g n a3 s y Fr0 Hr r) := by
 intro q p a e m d a2 g n a3 s y Fr0 Hr M r a6 a7 hH h
 refine CallsM.run Tryz.func15 rfl rfl (show Run _ _ _ (z2g q p a e m d a2 g n a3 s y Fr0 Hr r) _ _ _ from ?_)
 rw [ref10_OwnNotice_h1] at h
 refine Run.seq (Run.region ?_)
 refine ox rfl (ExG.box rfl rfl hH) ?_
 rintro _ d3 ⟨a0, rfl, (c7 : Has Fr0 d3 (([.obj a0 (.row 36 .whole (k1 q p a e m d s g n y)), tb0, tb1, tb2] : List Ent) ++ Hr))⟩
 refine ox rfl (ExG.new (v := fun b => .ptr b 0) (ex_alloc zb6) c7) ?_
 rintro _ c0 ⟨a1, rfl, (b5 : Has Fr0 c0 (([.obj a1 (.row 36 .whole (k1 [] 0 0 0 0 0 .nils false 0 .nils)), .obj a0 (.row 36 .whole (k1 q p a e m d s g n y)), tb0, tb1, tb2] : List Ent) ++ Hr))⟩
 refine Run.opsEnd (Run.seq (Run.region ?_))
 refine av rfl rfl ?_
 refine Run.opsEnd (Run.seq (Run.region ?_))
 refine mv rfl rfl <| og (ex_fieldAddr rfl z14) rfl <| og (ex_load1 rfl (b5.cells (i := 1) rfl 9 rfl) rdLe_rfl z82) rfl ?_
 obtain ⟨x, c3, h⟩ := bnd_some h
 have b8 : Has Fr0 c0 (([.vec 123 2 ([] : List S_api_Signature).length .nils (([] : List S_api_Signature).flatMap enc123), .obj a1 (.row 36 .whole (k1 [] 0 0 0 0 0 .nils false 0 .nils)), .obj a0 (.row 36 .whole (k1 q p a e m d s g n y)), tb0, tb1, tb2] : List Ent) ++ Hr) := b5.nils 123 2
 refine ox rfl (ExG.append rfl rfl b8 (i := 0) rfl z12 rfl z7x zaj rfl (len_slc a7) (first_slc a7 (rdLe_roF b8) z12) c3) ?_
 rintro w d4 (a9 : Has Fr0 d4 (([.vec 123 2 x.length w (x.flatMap enc123), .obj a1 (.row 36 .whole (k1 [] 0 0 0 0 0 .nils false 0 .nils)), .obj a0 (.row 36 .whole (k1 q p a e m d s g n y)), tb0, tb1, tb2] : List Ent) ++ Hr))
 refine og (ex_fieldAddr rfl z14) rfl <| ox rfl (ExG.storeC (c' := (k1 q p a e m d s g n w)) rfl rfl (cells_one (vec_one a9 (i := 0) rfl)) a9 (i := 2) rfl zga rfl rfl rfl (ones_cons (vec_one a9 (i := 0) rfl) ones_nil) rfl) ?_
 rintro _ c9 ⟨rfl, (b7 : Has Fr0 c9 (([.vec 123 2 x.length w (x.flatMap enc123), .obj a1 (.row 36 .whole (k1 [] 0 0 0 0 0 .nils false 0 .nils)), .obj a0 (.row 36 .whole (k1 q p a e m d s g n w)), tb0, tb1, tb2] : List Ent) ++ Hr))⟩
 refine Run.opsEnd (Run.seq (Run.region ?_))
 refine og (ex_fieldAddr rfl z0a) rfl <| og (ex_loadA rfl (b7.cells (i := 2) rfl 0 rfl) rdLe_rfl z0m rfl rfl rfl) rfl <| ox rfl (ExG.new (v := fun b => .ptr b 0) (ex_alloc z3v) b7) ?_
 rintro _ d7 ⟨a5, rfl, (c6 : Has Fr0 d7 (([.obj a5 (.row 33 .whole (k0 [] 0 0 0 0 0 .nils false 0)), .vec 123 2 x.length w (x.flatMap enc123), .obj a1 (.row 36 .whole (k1 [] 0 0 0 0 0 .nils false 0 .nils)), .obj a0 (.row 36 .whole (k1 q p a e m d s g n w)), tb0, tb1, tb2] : List Ent) ++ Hr))⟩
 refine ox rfl (ExG.storeC (c' := (k0 q p a e m d s g n)) rfl rfl rfl c6 (i := 0) rfl z9x rfl rfl rfl (ones_cons rfl (ones_cons rfl (ones_cons rfl (ones_cons rfl (ones_cons rfl (ones_cons rfl (ones_cons (slc_one a6) (ones_cons rfl (ones_cons rfl ones_nil))))))))) rfl) ?_
 rintro _ d5 ⟨rfl, (b3 : Has Fr0 d5 (([.obj a5 (.row 33 .whole (k0 q p a e m d s g n)), .vec 123 2 x.length w (x.flatMap enc123), .obj a1 (.row 36 .whole (k1 [] 0 0 0 0 0 .nils false 0 .nils)), .obj a0 (.row 36 .whole (k1 q p a e m d s g n w)), tb0, tb1, tb2] : List Ent) ++ Hr))⟩
 refine Run.opsEnd (Run.seq (Run.region ?_))
 refine og (ex_fieldAddr rfl z16) rfl <| og (ex_load1 rfl (b3.cells (i := 0) rfl 6 rfl) rdLe_rfl z7y) rfl ?_
 obtain ⟨a4, c2, h⟩ := bnd_some h
 refine Run.callX wantS_none (ex_call rfl zfn zfa) rfl (z5v F a2 s _ _ (b3.slcF a6) c2) ?_
 rintro u e0 ⟨_, rfl, c8⟩
 have b1 : Has Fr0 e0 (([.vec 3 1 a4.length u (a4.flatMap enc3), .obj a5 (.row 33 .whole (k0 q p a e m d s g n)), .vec 123 2 x.length w (x.flatMap enc123), .obj a1 (.row 36 .whole (k1 [] 0 0 0 0 0 .nils false 0 .nils)), .obj a0 (.row 36 .whole (k1 q p a e m d s g n w)), tb0, tb1, tb2] : List Ent) ++ Hr) := c8.1 _ _ b3
 refine og (ex_fieldAddr rfl z16) rfl <| ox rfl (ExG.storeC (c' := (k0 q p a e m d u g n)) rfl rfl (cells_one (vec_one b1 (i := 0) rfl)) b1 (i := 1) rfl zhl rfl rfl rfl (ones_cons (vec_one b1 (i := 0) rfl) ones_nil) rfl) ?_
 rintro _ d2 ⟨rfl, (b2 : Has Fr0 d2 (([.vec 3 1 a4.length u (a4.flatMap enc3), .obj a5 (.row 33 .whole (k0 q p a e m d u g n)), .vec 123 2 x.length w (x.flatMap enc123), .obj a1 (.row 36 .whole (k1 [] 0 0 0 0 0 .nils false 0 .nils)), .obj a0 (.row 36 .whole (k1 q p a e m d s g n w)), tb0, tb1, tb2] : List Ent) ++ Hr))⟩
 refine Run.opsEnd (Run.seq (Run.region ?_))
 refine og (ex_loadA rfl (b2.cells (i := 1) rfl 0 rfl) rdLe_rfl z0m rfl rfl rfl) rfl <| og (ex_fieldAddr rfl z0a) rfl <| ox rfl (ExG.storeC (c' := (k1 q p a e m d u g n w)) rfl rfl rfl b2 (i := 4) rfl z9x rfl rfl rfl (ones_cons rfl (ones_cons rfl (ones_cons rfl (ones_cons rfl (ones_cons rfl (ones_cons rfl (ones_cons (vec_one b2 (i := 0) rfl) (ones_cons rfl (ones_cons rfl ones_nil))))))))) rfl) ?_
 rintro _ d8 ⟨rfl, (a8 : Has Fr0 d8 (([.vec 3 1 a4.length u (a4.flatMap enc3), .obj a5 (.row 33 .whole (k0 q p a e m d u g n)), .vec 123 2 x.length w (x.flatMap enc123), .obj a1 (.row 36 .whole (k1 [] 0 0 0 0 0 .nils false 0 .nils)), .obj a0 (.row 36 .whole (k1 q p a e m d u g n w)), tb0, tb1, tb2] : List Ent) ++ Hr))⟩
 refine Run.opsEnd (Run.seq (Run.region ?_))
 refine og (ex_loadA rfl (a8.cells (i := 4) rfl 0 rfl) rdLe_rfl z4b rfl rfl rfl) rfl <| ox rfl (ExG.storeC (c' := (k1 q p a e m d u g n w)) rfl rfl rfl a8 (i := 3) rfl zdd rfl rfl rfl (ones_cons rfl (ones_cons rfl (ones_cons rfl (ones_cons rfl (ones_cons rfl (ones_cons rfl (ones_cons (vec_one a8 (i := 0) rfl) (ones_cons rfl (ones_cons rfl (ones_cons (vec_one a8 (i := 2) rfl) ones_nil)))))))))) rfl) ?_
 rintro _ d9 ⟨rfl, (c5 : Has Fr0 d9 (([.vec 3 1 a4.length u (a4.flatMap enc3), .obj a5 (.row 33 .whole (k0 q p a e m d u g n)), .vec 123 2 x.length w (x.flatMap enc123), .obj a1 (.row 36 .whole (k1 q p a e m d u g n w)), .obj a0 (.row 36 .whole (k1 q p a e m d u g n w)), tb0, tb1, tb2] : List Ent) ++ Hr))⟩
 refine Run.opsEnd <| Run.freezeC (t := 2) (i := 0) (io := 3) (j := 6) (enc := enc3) rfl c5 rfl rfl rfl z0i ?_
 intro d1 d6 b9 (c4 : Has d1 d6 (([.vec 0 0 0 .nils [], .obj a5 (.row 33 .whole (k0 q p a e m d u g n)), .vec 123 2 x.length w (x.flatMap enc123), .obj a1 (.row 36 .whole (k1 q p a e m d u g n w)), .obj a0 (.row 36 .whole (k1 q p a e m d u g n w)), tb0, tb1, tb2] : List Ent) ++ Hr)) b0
 refine Run.freezeC (t := 2) (i := 2) (io := 3) (j := 9) (enc := enc123) rfl c4 rfl rfl rfl z12 ?_
 intro c1 d0 b4 (b6 : Has c1 d0 (([.vec 0 0 0 .nils [], .obj a5 (.row 33 .whole (k0 q p a e m d u g n)), .vec 0 0 0 .nils [], .obj a1 (.row 36 .whole (k1 q p a e m d u g n w)), .obj a0 (.row 36 .whole (k1 q p a e m d u g n w)), tb0, tb1, tb2] : List Ent) ++ Hr)) hf139
 replace b0 := b0.mono b4 (fun _ _ h => h)
 cases h
 exact Run.ret Tryz.func15 rfl (res_cell rfl (x_load (ex_loadA rfl (b6.cells (i := 3) rfl 0 rfl) rdLe_rfl z4b rfl rfl rfl)) res_nil) ⟨_, _, rfl, c1, (fun b c hb => b4 b c ((fun b c hb => b9 b c ((fun b c hb => hb) b c hb)) b c hb)), b0, hf139, b6.pickT [5, 6, 7] rfl rfl⟩

theorem zc4 : ptrElt Tryz.prog 26 = some 41 := by kernel_rfl
theorem zc5 : (Tryz.prog.info? 41).isSome = true := by kernel_rfl
theorem zd2 : fieldOff Tryz.prog 41 0 = some 0 := by kernel_rfl
theorem z87 : lenK Tryz.prog 9 = some .str := by kernel_rfl
theorem zbn : uvK Tryz.prog 9 191 = none := by kernel_rfl
theorem zbi : cvK Tryz.prog 9 191 = some (.bytes 5) := by kernel_rfl
def z1n (a : Int) : List SV := [(.int .u8 a)]
theorem z0f (a : Int) : (z1n a).length = 1 := rfl
theorem z17 (a : Int) : ones (z1n a) = true := rfl
theorem zas : lenK Tryz.prog 191 = some .sl := by kernel_rfl
theorem zcl : elems Tryz.prog 191 = some (.sl 1) := by kernel_rfl
theorem zhu : aggSize Tryz.prog 5 = some none := by kernel_rfl
abbrev z04 (r : Bool) : SV → Mem → Prop := fun s _ => s = (.bool r)

def num_IsName_7 (F : Nat) (b : (List Int) → Int → Int → Option (Bool)) (e : List Int) (c d : Int) (a : Bool) : Option (Bool) :=
 bif a then
  some false
 else
  b e c (w64 (d + (1 : Int)))

theorem z3q (F : Nat) (p : (List Int) → Int → Int → Option (Bool)) (e : ∀ (g : List Int) (f c : Int) (a : SV) (Fr : Rd) (M : Mem) (r : Bool) (d : Slc Fr 1 (FlatR z1n) a g) (hH : Has Fr M []), p g f c = some r → Run Tryz.prog ⟨⟨140, [], none⟩, []⟩ 50 (z04 r) [(16, a), (17, (.int .i64 f)), (18, (.int .i64 c))] [codeC Tryz.prog 140 [1, 1, 0, 1, 0, 0], loopC Tryz.prog 140 [1, 1, 0, 1, 0, 0], .inBlock 0, codeC Tryz.prog 140 [1, 1, 1]] M) : ∀ (g : List Int) (f c : Int) (m : Bool) (a : SV) (Fr : Rd) (M : Mem) (r : Bool) (d : Slc Fr 1 (FlatR z1n) a g) (hH : Has Fr M []), num_IsName_7 F p g f c m = some r → Run Tryz.prog ⟨⟨140, [], none⟩, []⟩ 50 (z04 r) [(16, a), (17, (.int .i64 f)), (18, (.int .i64 c)), (48, (.bool m))] [codeC Tryz.prog 140 [1, 1, 0, 1, 0, 0, 1, 1, 0, 0, 1, 1, 1, 1], .inBlock 1, codeC Tryz.prog 140 [1, 1, 0, 1, 0, 0, 1, 1, 1], loopC Tryz.prog 140 [1, 1, 0, 1, 0, 0], .inBlock 0, codeC Tryz.prog 140 [1, 1, 1]] M := by
 intro g f c m a Fr M r d hH h
 rw [num_IsName_7] at h
 rcases btf (m) with b | b
 ·have h := bif_t b h
  refine Run.condT' rfl b ?_
  refine Run.seq (Run.region ?_)
  refine av rfl rfl <| Run.opsEnd ?_
  cases h
  exact Run.ret Tryz.func140 rfl (res_tmp rfl res_nil) rfl
 ·have h := bif_f b h
  refine Run.condF' rfl b ?_
  refine Run.skip (Run.inBlock (Run.region ?_))
  refine og (ex_add rfl rfl) rfl <| mv rfl rfl ?_
  refine Run.opsEnd (Run.inLoop ?_)
  exact Run.pick [16, 17, 18] (e g f (w64 (c + (1 : Int))) a _ _ _ d hH h)

def num_IsName_6 (F : Nat) (a : (List Int) → Int → Int → Option (Bool)) (d : List Int) (b c : Int) (e f : Bool) : Option (Bool) :=
 bif e then
  num_IsName_7 F a d b c (!f)
 else
  num_IsName_7 F a d b c false

theorem z6n (F : Nat) (q : (List Int) → Int → Int → Option (Bool)) (e : ∀ (g : List Int) (f c : Int) (a : SV) (Fr : Rd) (M : Mem) (r : Bool) (d : Slc Fr 1 (FlatR z1n) a g) (hH : Has Fr M []), q g f c = some r → Run Tryz.prog ⟨⟨140, [], none⟩, []⟩ 50 (z04 r) [(16, a), (17, (.int .i64 f)), (18, (.int .i64 c))] [codeC Tryz.prog 140 [1, 1, 0, 1, 0, 0], loopC Tryz.prog 140 [1, 1, 0, 1, 0, 0], .inBlock 0, codeC Tryz.prog 140 [1, 1, 1]] M) : ∀ (g : List Int) (f c : Int) (m p : Bool) (a : SV) (Fr : Rd) (M : Mem) (r : Bool) (d : Slc Fr 1 (FlatR z1n) a g) (hH : Has Fr M []), num_IsName_6 F q g f c m p = some r → Run Tryz.prog ⟨⟨140, [], none⟩, []⟩ 50 (z04 r) [(16, a), (17, (.int .i64 f)), (18, (.int .i64 c)), (41, (.bool m)), (46, (.bool p))] [itemC Tryz.prog 140 [1, 1, 0, 1, 0, 0, 1, 1, 0, 0, 1, 1, 1, 0] 8, codeC Tryz.prog 140 [1, 1, 0, 1, 0, 0, 1, 1, 0, 0, 1, 1, 1, 1], .inBlock 1, codeC Tryz.prog 140 [1, 1, 0, 1, 0, 0, 1, 1, 1], loopC Tryz.prog 140 [1, 1, 0, 1, 0, 0], .inBlock 0, codeC Tryz.prog 140 [1, 1, 1]] M := by
 intro g f c m p a Fr M r d hH h
 rw [num_IsName_6] at h
 rcases btf (m) with b | b
 ·have h := bif_t b h
  refine gy rfl rfl b (ex_not rfl) rfl <| og (ex_pickT' rfl b rfl rfl) rfl <| Run.opsEnd ?_
  exact Run.pick [16, 17, 18, 48] (z3q F q e g f c (!p) a _ _ _ d hH h)
 ·have h := bif_f b h
  refine gn rfl rfl b rfl <| og (ex_pickF' rfl b rfl rfl) rfl <| Run.opsEnd ?_
  exact Run.pick [16, 17, 18, 48] (z3q F q e g f c false a _ _ _ d hH h)

def num_IsName_8 (F : Nat) (b : (List Int) → Int → Int → Option (Bool)) (e : List Int) (c d : Int) (a : Bool) : Option (Bool) :=
 bif a then
  none
 else
  num_IsName_7 F b e c d false

theorem za5 (F : Nat) (p : (List Int) → Int → Int → Option (Bool)) (e : ∀ (g : List Int) (f c : Int) (a : SV) (Fr : Rd) (M : Mem) (r : Bool) (d : Slc Fr 1 (FlatR z1n) a g) (hH : Has Fr M []), p g f c = some r → Run Tryz.prog ⟨⟨140, [], none⟩, []⟩ 50 (z04 r) [(16, a), (17, (.int .i64 f)), (18, (.int .i64 c))] [codeC Tryz.prog 140 [1, 1, 0, 1, 0, 0], loopC Tryz.prog 140 [1, 1, 0, 1, 0, 0], .inBlock 0, codeC Tryz.prog 140 [1, 1, 1]] M) : ∀ (g : List Int) (f c : Int) (m : Bool) (a : SV) (Fr : Rd) (M : Mem) (r : Bool) (d : Slc Fr 1 (FlatR z1n) a g) (hH : Has Fr M []), num_IsName_8 F p g f c m = some r → Run Tryz.prog ⟨⟨140, [], none⟩, []⟩ 50 (z04 r) [(16, a), (17, (.int .i64 f)), (18, (.int .i64 c)), (41, (.bool m)), (46, (.tuple []))] [itemC Tryz.prog 140 [1, 1, 0, 1, 0, 0, 1, 1, 0, 0, 1, 1, 1, 0] 8, codeC Tryz.prog 140 [1, 1, 0, 1, 0, 0, 1, 1, 0, 0, 1, 1, 1, 1], .inBlock 1, codeC Tryz.prog 140 [1, 1, 0, 1, 0, 0, 1, 1, 1], loopC Tryz.prog 140 [1, 1, 0, 1, 0, 0], .inBlock 0, codeC Tryz.prog 140 [1, 1, 1]] M := by
 intro g f c m a Fr M r d hH h
 rw [num_IsName_8] at h
 rcases btf (m) with b | b
 ·have h := bif_t b h
  cases h
 ·have h := bif_f b h
  refine gn rfl rfl b rfl <| og (ex_pickF' rfl b rfl rfl) rfl <| Run.opsEnd ?_
  exact Run.pick [16, 17, 18, 48] (z3q F p e g f c false a _ _ _ d hH h)

def num_IsName_5 (F : Nat) (a : (List Int) → Int → Int → Option (Bool)) (v3 : Int) (v5 : Bool) (d : List Int) (b c : Int) (e : Bool) : Option (Bool) :=
 bif (!v5) then
  bif e then
   num_IsName_6 F a d b c (!v5) (decide ((0 : Int) < v3))
  else
   num_IsName_6 F a d b c (!v5) false
 else
  num_IsName_8 F a d b c (!v5)

theorem z6r (F : Nat) (p : (List Int) → Int → Int → Option (Bool)) (g : ∀ (m : List Int) (f c : Int) (d : SV) (Fr : Rd) (M : Mem) (r : Bool) (e : Slc Fr 1 (FlatR z1n) d m) (hH : Has Fr M []), p m f c = some r → Run Tryz.prog ⟨⟨140, [], none⟩, []⟩ 50 (z04 r) [(16, d), (17, (.int .i64 f)), (18, (.int .i64 c))] [codeC Tryz.prog 140 [1, 1, 0, 1, 0, 0], loopC Tryz.prog 140 [1, 1, 0, 1, 0, 0], .inBlock 0, codeC Tryz.prog 140 [1, 1, 1]] M) : ∀ (v3 : Int) (v5 : Bool) (m : List Int) (f c : Int) (q : Bool) (d : SV) (Fr : Rd) (M : Mem) (r : Bool) (e : Slc Fr 1 (FlatR z1n) d m) (hH : Has Fr M []), num_IsName_5 F p v3 v5 m f c q = some r → Run Tryz.prog ⟨⟨140, [], none⟩, []⟩ 50 (z04 r) [(3, (.int .i64 v3)), (5, (.bool v5)), (16, d), (17, (.int .i64 f)), (18, (.int .i64 c)), (38, (.bool q))] [itemC Tryz.prog 140 [1, 1, 0, 1, 0, 0, 1, 1, 0, 0, 1, 1, 0] 10, codeC Tryz.prog 140 [1, 1, 0, 1, 0, 0, 1, 1, 0, 0, 1, 1, 1], .inBlock 1, codeC Tryz.prog 140 [1, 1, 0, 1, 0, 0, 1, 1, 1], loopC Tryz.prog 140 [1, 1, 0, 1, 0, 0], .inBlock 0, codeC Tryz.prog 140 [1, 1, 1]] M := by
 intro v3 v5 m f c q d Fr M r e hH h
 rw [num_IsName_5] at h
 refine av rfl rfl ?_
 refine Run.opsEnd (Run.seq (Run.region ?_))
 refine mv rfl rfl <| og (ex_not rfl) rfl <| mv rfl rfl ?_
 rcases btf ((!v5)) with a | a
 ·have h := bif_t a h
  refine gy rfl rfl a (ex_move rfl) rfl <| gy rfl rfl a (ex_move rfl) rfl ?_
  rcases btf (q) with b | b
  ·have h := bif_t b h
   refine gy rfl rfl b (ex_move rfl) rfl <| gy rfl rfl b (ex_gtr rfl rfl) rfl <| gy rfl rfl a (ex_pickT' rfl b rfl rfl) rfl ?_
   exact Run.pick [16, 17, 18, 41, 46] (z6n F p g m f c (!v5) (decide ((0 : Int) < v3)) d _ _ _ e hH h)
  ·have h := bif_f b h
   refine gn rfl rfl b rfl <| gn rfl rfl b rfl <| gy rfl rfl a (ex_pickF' rfl b rfl rfl) rfl ?_
   exact Run.pick [16, 17, 18, 41, 46] (z6n F p g m f c (!v5) false d _ _ _ e hH h)
 ·have h := bif_f a h
  refine gn rfl rfl a rfl <| gn rfl rfl a rfl <| Run.no (wantS_skip rfl rfl) rfl <| Run.no (wantS_skip rfl rfl) rfl <| gn rfl rfl a rfl ?_
  exact Run.pick [16, 17, 18, 41, 46] (za5 F p g m f c (!v5) d _ _ _ e hH h)

def num_IsName_4 (F : Nat) (c : (List Int) → Int → Int → Option (Bool)) (v3 v4 : Int) (v5 : Bool) (b : List Int) (d a : Int) (e : Bool) : Option (Bool) :=
 bif e then
  num_IsName_5 F c v3 v5 b d a true
 else
  num_IsName_5 F c v3 v5 b d a (v4 == (95 : Int))

theorem z70 (F : Nat) (p : (List Int) → Int → Int → Option (Bool)) (e : ∀ (g : List Int) (f c : Int) (b : SV) (Fr : Rd) (M : Mem) (r : Bool) (d : Slc Fr 1 (FlatR z1n) b g) (hH : Has Fr M []), p g f c = some r → Run Tryz.prog ⟨⟨140, [], none⟩, []⟩ 50 (z04 r) [(16, b), (17, (.int .i64 f)), (18, (.int .i64 c))] [codeC Tryz.prog 140 [1, 1, 0, 1, 0, 0], loopC Tryz.prog 140 [1, 1, 0, 1, 0, 0], .inBlock 0, codeC Tryz.prog 140 [1, 1, 1]] M) : ∀ (v3 v4 : Int) (v5 : Bool) (g : List Int) (f c : Int) (m : Bool) (b : SV) (Fr : Rd) (M : Mem) (r : Bool) (d : Slc Fr 1 (FlatR z1n) b g) (hH : Has Fr M []), num_IsName_4 F p v3 v4 v5 g f c m = some r → Run Tryz.prog ⟨⟨140, [], none⟩, []⟩ 50 (z04 r) [(3, (.int .i64 v3)), (4, (.int .u8 v4)), (5, (.bool v5)), (16, b), (17, (.int .i64 f)), (18, (.int .i64 c)), (34, (.bool m))] [itemC Tryz.prog 140 [1, 1, 0, 1, 0, 0, 1, 1, 0, 0, 1, 1, 0] 6, codeC Tryz.prog 140 [1, 1, 0, 1, 0, 0, 1, 1, 0, 0, 1, 1, 1], .inBlock 1, codeC Tryz.prog 140 [1, 1, 0, 1, 0, 0, 1, 1, 1], loopC Tryz.prog 140 [1, 1, 0, 1, 0, 0], .inBlock 0, codeC Tryz.prog 140 [1, 1, 1]] M := by
 intro v3 v4 v5 g f c m b Fr M r d hH h
 rw [num_IsName_4] at h
 refine mv rfl rfl ?_
 rcases btf (m) with a | a
 ·have h := bif_t a h
  refine gn rfl rfl a rfl <| gn rfl rfl a rfl <| og (ex_pickT' rfl a rfl rfl) rfl ?_
  exact Run.pick [3, 5, 16, 17, 18, 38] (z6r F p e v3 v5 g f c true b _ _ _ d hH h)
 ·have h := bif_f a h
  refine gy rfl rfl a (ex_move rfl) rfl <| gy rfl rfl a (ex_eql rfl rfl) rfl <| og (ex_pickF' rfl a rfl rfl) rfl ?_
  exact Run.pick [3, 5, 16, 17, 18, 38] (z6r F p e v3 v5 g f c (v4 == (95 : Int)) b _ _ _ d hH h)

def num_IsName_3 (F : Nat) (b : (List Int) → Int → Int → Option (Bool)) (v3 v4 : Int) (e : List Int) (c d : Int) (a : Bool) : Option (Bool) :=
 bif (decide ((48 : Int) ≤ v4)) then
  num_IsName_4 F b v3 v4 a e c d (decide (v4 ≤ (57 : Int)))
 else
  num_IsName_4 F b v3 v4 a e c d false

theorem z79 (F : Nat) (m : (List Int) → Int → Int → Option (Bool)) (d : ∀ (f : List Int) (e c : Int) (a : SV) (Fr : Rd) (M : Mem) (r : Bool) (b : Slc Fr 1 (FlatR z1n) a f) (hH : Has Fr M []), m f e c = some r → Run Tryz.prog ⟨⟨140, [], none⟩, []⟩ 50 (z04 r) [(16, a), (17, (.int .i64 e)), (18, (.int .i64 c))] [codeC Tryz.prog 140 [1, 1, 0, 1, 0, 0], loopC Tryz.prog 140 [1, 1, 0, 1, 0, 0], .inBlock 0, codeC Tryz.prog 140 [1, 1, 1]] M) : ∀ (v3 v4 : Int) (f : List Int) (e c : Int) (g : Bool) (a : SV) (Fr : Rd) (M : Mem) (r : Bool) (b : Slc Fr 1 (FlatR z1n) a f) (hH : Has Fr M []), num_IsName_3 F m v3 v4 f e c g = some r → Run Tryz.prog ⟨⟨140, [], none⟩, []⟩ 50 (z04 r) [(3, (.int .i64 v3)), (4, (.int .u8 v4)), (16, a), (17, (.int .i64 e)), (18, (.int .i64 c)), (28, (.bool g))] [itemC Tryz.prog 140 [1, 1, 0, 1, 0, 0, 1, 1, 0, 0, 1, 0] 6, codeC Tryz.prog 140 [1, 1, 0, 1, 0, 0, 1, 1, 0, 0, 1, 1], .inBlock 1, codeC Tryz.prog 140 [1, 1, 0, 1, 0, 0, 1, 1, 1], loopC Tryz.prog 140 [1, 1, 0, 1, 0, 0], .inBlock 0, codeC Tryz.prog 140 [1, 1, 1]] M := by
 intro v3 v4 f e c g a Fr M r b hH h
 rw [num_IsName_3] at h
 refine av rfl rfl ?_
 refine Run.opsEnd (Run.seq (Run.region ?_))
 refine mv rfl rfl <| og (ex_geq rfl rfl) rfl <| mv rfl rfl ?_
 rcases btf ((decide ((48 : Int) ≤ v4))) with hc32 | hc32
 ·have h := bif_t hc32 h
  refine gy rfl rfl hc32 (ex_move rfl) rfl <| gy rfl rfl hc32 (ex_leq rfl rfl) rfl <| og (ex_pickT' rfl hc32 rfl rfl) rfl ?_
  exact Run.pick [3, 4, 5, 16, 17, 18, 34] (z70 F m d v3 v4 g f e c (decide (v4 ≤ (57 : Int))) a _ _ _ b hH h)
 ·have h := bif_f hc32 h
  refine gn rfl rfl hc32 rfl <| gn rfl rfl hc32 rfl <| og (ex_pickF' rfl hc32 rfl rfl) rfl ?_
  exact Run.pick [3, 4, 5, 16, 17, 18, 34] (z70 F m d v3 v4 g f e c false a _ _ _ b hH h)

def num_IsName_2 (F : Nat) : Nat → List Int → Int → Int → Option (Bool)
 | 0, _, _, _ => none
 | N + 1, c, d, a =>
  bif (decide (a < d)) then
   bnd (idx c a) fun b =>
   bif (decide ((97 : Int) ≤ b)) then
    num_IsName_3 F (num_IsName_2 F N) a b c d a (decide (b ≤ (122 : Int)))
   else
    num_IsName_3 F (num_IsName_2 F N) a b c d a false
  else
   some true

theorem z9y (F : Nat) : ∀ (N : Nat), ∀ (m : List Int) (f c : Int) (a : SV) (Fr : Rd) (M : Mem) (r : Bool) (b : Slc Fr 1 (FlatR z1n) a m) (hH : Has Fr M []), num_IsName_2 F N m f c = some r → Run Tryz.prog ⟨⟨140, [], none⟩, []⟩ 50 (z04 r) [(16, a), (17, (.int .i64 f)), (18, (.int .i64 c))] [codeC Tryz.prog 140 [1, 1, 0, 1, 0, 0], loopC Tryz.prog 140 [1, 1, 0, 1, 0, 0], .inBlock 0, codeC Tryz.prog 140 [1, 1, 1]] M := by
 intro N
 induction N with
 | zero =>
  intro m f c a Fr M r b hH h
  simp [num_IsName_2] at h
 | succ N ih =>
  intro m f c a Fr M r b hH h
  rw [num_IsName_2] at h
  refine Run.seq (Run.region ?_)
  refine og (ex_lss rfl rfl) rfl ?_
  refine Run.opsEnd (Run.seq ?_)
  rcases btf ((decide (c < f))) with d | d
  ·have h := bif_t d h
   refine Run.condT' rfl d ?_
   refine Run.skip (Run.seq (Run.block (Run.seq (Run.region ?_))))
   refine mv rfl rfl ?_
   obtain ⟨p, e, h⟩ := bnd_some h
   obtain ⟨s, q, _, e, g, rfl⟩ := sl_elem (P := Tryz.prog) (t := 191) (kk := .i64) b e zcl
   refine og (ex_elX rfl rfl e) rfl <| og (ex_load1 rfl (hH.ptrF g) rdLe_rfl zhu) rfl <| av rfl rfl <| av rfl rfl ?_
   refine Run.opsEnd (Run.seq (Run.region ?_))
   refine mv rfl rfl <| og (ex_geq rfl rfl) rfl <| mv rfl rfl ?_
   rcases btf ((decide ((97 : Int) ≤ p))) with hc31 | hc31
   ·have h := bif_t hc31 h
    refine gy rfl rfl hc31 (ex_move rfl) rfl <| gy rfl rfl hc31 (ex_leq rfl rfl) rfl <| og (ex_pickT' rfl hc31 rfl rfl) rfl ?_
    exact Run.pick [3, 4, 16, 17, 18, 28] (z79 F (num_IsName_2 F N) ih c p m f c (decide (p ≤ (122 : Int))) a _ _ _ b hH h)
   ·have h := bif_f hc31 h
    refine gn rfl rfl hc31 rfl <| gn rfl rfl hc31 rfl <| og (ex_pickF' rfl hc31 rfl rfl) rfl ?_
    exact Run.pick [3, 4, 16, 17, 18, 28] (z79 F (num_IsName_2 F N) ih c p m f c false a _ _ _ b hH h)
  ·have h := bif_f d h
   refine Run.condF' rfl d ?_
   refine Run.exit rfl (Run.seq (Run.region ?_))
   refine av rfl rfl <| Run.opsEnd ?_
   cases h
   exact Run.ret Tryz.func140 rfl (res_tmp rfl res_nil) rfl

def num_IsName_1 (F : Nat) (v0 : List UInt8) (b : Bool) : Option (Bool) :=
 bif b then
  some false
 else
  bnd (byt v0) fun a =>
  num_IsName_2 F F a (a.length : Int) (0 : Int)

theorem z76 (F : Nat) : ∀ (v0 : List UInt8) (c : Bool) (Fr : Rd) (M : Mem) (r : Bool) (hH : Has Fr M []), num_IsName_1 F v0 c = some r → Run Tryz.prog ⟨⟨140, [], none⟩, []⟩ 50 (z04 r) [(0, (.str v0)), (14, (.bool c))] [codeC Tryz.prog 140 [1, 0, 1], codeC Tryz.prog 140 [1, 1]] M := by
 intro v0 c Fr M r hH h
 rw [num_IsName_1] at h
 rcases btf (c) with a | a
 ·have h := bif_t a h
  refine Run.condT' rfl a ?_
  refine Run.seq (Run.region ?_)
  refine av rfl rfl <| Run.opsEnd ?_
  cases h
  exact Run.ret Tryz.func140 rfl (res_tmp rfl res_nil) rfl
 ·have h := bif_f a h
  refine Run.condF' rfl a ?_
  refine Run.skip (Run.seq (Run.seq (Run.region ?_)))
  refine mv rfl rfl ?_
  obtain ⟨f, b, h⟩ := bnd_some h
  refine ox rfl (ExG.bytes rfl zbn zbi b hH) ?_
  rintro _ s ⟨m, rfl, d⟩
  refine Run.freezeB (t := 16) (i := 0) (enc := z1n) (fun _ => rfl) b rfl d rfl ?_
  intro q p g (e : Has q p [.vec 0 0 0 .nils []]) hf26
  refine og (ex_len' rfl hf26 zas) rfl <| mv rfl rfl ?_
  refine Run.opsEnd (Run.block (Run.loop ?_))
  exact Run.pick [16, 17, 18] (z9y F F f (f.length : Int) (0 : Int) (.ope m 0 f.length 1) _ _ _ hf26 (e.pick [] rfl rfl) h)

def num_IsName (F : Nat) (a0 : List UInt8) : Option (Bool) :=
 bif ((a0.length : Int) == (0 : Int)) then
  num_IsName_1 F a0 true
 else
  num_IsName_1 F a0 (decide ((16 : Int) < (a0.length : Int)))

theorem zaw (F : Nat) (a0 : List UInt8) (r : Bool) (M : Mem) (h : num_IsName F a0 = some r) : CallsM Tryz.prog 140 [(.str a0)] M (fun s M' => s = (.bool r) ∧ M' = M) := by
 refine CallsM.plain Tryz.func140 rfl rfl rfl (show Run _ _ _ (z04 r) _ _ _ from ?_)
 rw [num_IsName] at h
 have hH := Has.nil (frozen M)
 refine Run.seq (Run.region ?_)
 refine av rfl rfl ?_
 refine Run.opsEnd (Run.seq (Run.seq (Run.region ?_)))
 refine mv rfl rfl <| og (ex_lenS rfl z87) rfl <| og (ex_eql rfl rfl) rfl <| mv rfl rfl ?_
 rcases btf (((a0.length : Int) == (0 : Int))) with hc21 | hc21
 ·have h := bif_t hc21 h
  refine gn rfl rfl hc21 rfl <| gn rfl rfl hc21 rfl <| gn rfl rfl hc21 rfl <| og (ex_pickT' rfl hc21 rfl rfl) rfl <| Run.opsEnd ?_
  exact Run.pick [0, 14] (z76 F a0 true _ _ _ hH h)
 ·have h := bif_f hc21 h
  refine gy rfl rfl hc21 (ex_move rfl) rfl <| gy rfl rfl hc21 (ex_lenS rfl z87) rfl <| gy rfl rfl hc21 (ex_gtr rfl rfl) rfl <| og (ex_pickF' rfl hc21 rfl rfl) rfl <| Run.opsEnd ?_
  exact Run.pick [0, 14] (z76 F a0 (decide ((16 : Int) < (a0.length : Int))) _ _ _ hH h)

theorem zfy : makeK Tryz.prog 140 = none := by kernel_rfl
theorem zfb : callable Tryz.prog 140 = true := by kernel_rfl
theorem z91 : fieldOff Tryz.prog 30 0 = some 0 := by kernel_rfl
theorem z5i : fieldOff Tryz.prog 30 1 = some 1 := by kernel_rfl
abbrev z43 (r : Bool) : SV → Mem → Prop := fun s _ => s = (.bool r)

def alert_isChance_1 (F : Nat) (a : Bool) : Option (Bool) :=
 some a

theorem z3t (F : Nat) : ∀ (a : Bool) (Fr : Rd) (M : Mem) (r : Bool) (hH : Has Fr M []), alert_isChance_1 F a = some r → Run Tryz.prog ⟨⟨141, [], none⟩, []⟩ 13 (z43 r) [(12, (.bool a))] [itemC Tryz.prog 141 [1, 0] 10, codeC Tryz.prog 141 [1, 1]] M := by
 intro a Fr M r hH h
 rw [alert_isChance_1] at h
 refine av rfl rfl <| Run.opsEnd ?_
 cases h
 exact Run.ret Tryz.func141 rfl (res_tmp rfl res_nil) rfl

def alert_isChance (F : Nat) (a0 : S_api_Chance) : Option (Bool) :=
 bnd (alert_isFrom F (1 : Int) a0.N a0.Of) fun a =>
 bif a then
  alert_isChance_1 F (decide (a0.Of ≤ (256 : Int)))
 else
  alert_isChance_1 F false

theorem z93 (F : Nat) (a0 : S_api_Chance) (r : Bool) (M : Mem) (h : alert_isChance F a0 = some r) : CallsM Tryz.prog 141 [(.agg [(.int .i64 a0.N), (.int .i64 a0.Of)])] M (fun s M' => s = (.bool r) ∧ M' = M) := by
 refine CallsM.plain Tryz.func141 rfl rfl rfl (show Run _ _ _ (z43 r) _ _ _ from ?_)
 rw [alert_isChance] at h
 have hH := Has.nil (frozen M)
 refine Run.seq (Run.region ?_)
 refine ox rfl (ExG.box rfl rfl hH) ?_
 rintro _ e ⟨f, rfl, b⟩
 refine av rfl rfl ?_
 refine Run.opsEnd (Run.seq (Run.region ?_))
 refine og (ex_fieldAddr rfl z91) rfl <| og (ex_load1 rfl (b.cells (i := 0) rfl 0 rfl) rdLe_rfl z0c) rfl <| og (ex_fieldAddr rfl z5i) rfl <| og (ex_load1 rfl (b.cells (i := 0) rfl 1 rfl) rdLe_rfl z0c) rfl ?_
 obtain ⟨c, d, h⟩ := bnd_some h
 refine Run.callP wantS_none (ex_call rfl za0 zaa) rfl (z06 F (1 : Int) a0.N a0.Of _ _ d) <| mv rfl rfl ?_
 rcases btf (c) with a | a
 ·have h := bif_t a h
  refine gy rfl rfl a (ex_fieldAddr rfl z5i) rfl <| gy rfl rfl a (ex_load1 rfl (b.cells (i := 0) rfl 1 rfl) rdLe_rfl z0c) rfl <| gy rfl rfl a (ex_leq rfl rfl) rfl <| og (ex_pickT' rfl a rfl rfl) rfl ?_
  exact Run.pick [12] (z3t F (decide (a0.Of ≤ (256 : Int))) _ _ _ (b.pick [] rfl rfl) h)
 ·have h := bif_f a h
  refine gn rfl rfl a rfl <| gn rfl rfl a rfl <| gn rfl rfl a rfl <| og (ex_pickF' rfl a rfl rfl) rfl ?_
  exact Run.pick [12] (z3t F false _ _ _ (b.pick [] rfl rfl) h)

theorem zdf : makeK Tryz.prog 141 = none := by kernel_rfl
theorem zfs : callable Tryz.prog 141 = true := by kernel_rfl
abbrev z6v (r : Bool) : SV → Mem → Prop := fun s _ => s = (.bool r)

def sky_isFrom_1 (F : Nat) (a : Bool) : Option (Bool) :=
 some a

theorem z7e (F : Nat) : ∀ (a : Bool) (Fr : Rd) (M : Mem) (r : Bool) (hH : Has Fr M []), sky_isFrom_1 F a = some r → Run Tryz.prog ⟨⟨124, [], none⟩, []⟩ 15 (z6v r) [(14, (.bool a))] [itemC Tryz.prog 124 [1, 0] 8, codeC Tryz.prog 124 [1, 1]] M := by
 intro a Fr M r hH h
 rw [sky_isFrom_1] at h
 refine av rfl rfl <| Run.opsEnd ?_
 cases h
 exact Run.ret Tryz.func124 rfl (res_tmp rfl res_nil) rfl

def sky_isFrom (F : Nat) (a0 a1 a2 : Int) : Option (Bool) :=
 bif (decide (a0 ≤ a1)) then
  sky_isFrom_1 F (decide (a1 ≤ a2))
 else
  sky_isFrom_1 F false

theorem zb1 (F : Nat) (a0 a1 a2 : Int) (r : Bool) (M : Mem) (h : sky_isFrom F a0 a1 a2 = some r) : CallsM Tryz.prog 124 [(.int .i64 a0), (.int .i64 a1), (.int .i64 a2)] M (fun s M' => s = (.bool r) ∧ M' = M) := by
 refine CallsM.plain Tryz.func124 rfl rfl rfl (show Run _ _ _ (z6v r) _ _ _ from ?_)
 rw [sky_isFrom] at h
 have hH := Has.nil (frozen M)
 refine Run.seq (Run.region ?_)
 refine av rfl rfl ?_
 refine Run.opsEnd (Run.seq (Run.region ?_))
 refine mv rfl rfl <| mv rfl rfl <| og (ex_leq rfl rfl) rfl <| mv rfl rfl ?_
 rcases btf ((decide (a0 ≤ a1))) with a | a
 ·have h := bif_t a h
  refine gy rfl rfl a (ex_move rfl) rfl <| gy rfl rfl a (ex_move rfl) rfl <| gy rfl rfl a (ex_leq rfl rfl) rfl <| og (ex_pickT' rfl a rfl rfl) rfl ?_
  exact Run.pick [14] (z7e F (decide (a1 ≤ a2)) _ _ _ hH h)
 ·have h := bif_f a h
  refine gn rfl rfl a rfl <| gn rfl rfl a rfl <| gn rfl rfl a rfl <| og (ex_pickF' rfl a rfl rfl) rfl ?_
  exact Run.pick [14] (z7e F false _ _ _ hH h)

theorem zf3 : makeK Tryz.prog 124 = none := by kernel_rfl
theorem zfj : callable Tryz.prog 124 = true := by kernel_rfl
abbrev z78 (r : Bool) : SV → Mem → Prop := fun s _ => s = (.bool r)

def sky_grid_isValid (F : Nat) (a0 : Int) : Option (Bool) :=
 bnd (sky_isFrom F (1 : Int) a0 (8 : Int)) fun a =>
 some a

theorem z88 (F : Nat) (a0 : Int) (r : Bool) (M : Mem) (h : sky_grid_isValid F a0 = some r) : CallsM Tryz.prog 129 [(.int .i64 a0)] M (fun s M' => s = (.bool r) ∧ M' = M) := by
 refine CallsM.plain Tryz.func129 rfl rfl rfl (show Run _ _ _ (z78 r) _ _ _ from ?_)
 rw [sky_grid_isValid] at h
 have hH := Has.nil (frozen M)
 refine Run.seq (Run.region ?_)
 refine av rfl rfl ?_
 refine Run.opsEnd (Run.seq (Run.region ?_))
 refine mv rfl rfl ?_
 obtain ⟨b, a, h⟩ := bnd_some h
 refine Run.callP wantS_none (ex_call rfl zf3 zfj) rfl (zb1 F (1 : Int) a0 (8 : Int) _ _ a) <| av rfl rfl <| Run.opsEnd ?_
 cases h
 exact Run.ret Tryz.func129 rfl (res_tmp rfl res_nil) rfl

theorem ze7 : makeK Tryz.prog 129 = none := by kernel_rfl
theorem ze0 : callable Tryz.prog 129 = true := by kernel_rfl
abbrev z8x (r : Int) : SV → Mem → Prop := fun s _ => s = (.int .i64 r)

def sky_checkGrid (F : Nat) (a0 : Int) : Option (Int) :=
 bnd (sky_grid_isValid F a0) fun a =>
 bif (!a) then
  some (91 : Int)
 else
  some (0 : Int)

theorem z9u (F : Nat) (a0 r : Int) (M : Mem) (h : sky_checkGrid F a0 = some r) : CallsM Tryz.prog 123 [(.int .i64 a0)] M (fun s M' => s = (.int .i64 r) ∧ M' = M) := by
 refine CallsM.plain Tryz.func123 rfl rfl rfl (show Run _ _ _ (z8x r) _ _ _ from ?_)
 rw [sky_checkGrid] at h
 have hH := Has.nil (frozen M)
 refine Run.seq (Run.region ?_)
 refine av rfl rfl ?_
 refine Run.opsEnd (Run.seq (Run.seq (Run.region ?_)))
 refine mv rfl rfl ?_
 obtain ⟨c, b, h⟩ := bnd_some h
 refine Run.callP wantS_none (ex_call rfl ze7 ze0) rfl (z88 F a0 _ _ b) <| og (ex_not rfl) rfl <| Run.opsEnd ?_
 rcases btf ((!c)) with a | a
 ·have h := bif_t a h
  refine Run.condT' rfl a ?_
  refine Run.seq (Run.region ?_)
  refine av rfl rfl <| Run.opsEnd ?_
  cases h
  exact Run.ret Tryz.func123 rfl (res_tmp rfl res_nil) rfl
 ·have h := bif_f a h
  refine Run.condF' rfl a ?_
  refine Run.skip (Run.seq (Run.region ?_))
  refine av rfl rfl <| Run.opsEnd ?_
  cases h
  exact Run.ret Tryz.func123 rfl (res_tmp rfl res_nil) rfl

theorem zg1 : makeK Tryz.prog 123 = none := by kernel_rfl
theorem ze5 : callable Tryz.prog 123 = true := by kernel_rfl
abbrev z7z (r : Int) : SV → Mem → Prop := fun s _ => s = (.int .i64 r)

def sky_grid_cells (F : Nat) (a0 : Int) : Option (Int) :=
 some (w64 ((6 : Int) * (w64 (a0 * a0))))

theorem z95 (F : Nat) (a0 r : Int) (M : Mem) (h : sky_grid_cells F a0 = some r) : CallsM Tryz.prog 183 [(.int .i64 a0)] M (fun s M' => s = (.int .i64 r) ∧ M' = M) := by
 refine CallsM.plain Tryz.func183 rfl rfl rfl (show Run _ _ _ (z7z r) _ _ _ from ?_)
 rw [sky_grid_cells] at h
 have hH := Has.nil (frozen M)
 refine Run.seq (Run.region ?_)
 refine av rfl rfl ?_
 refine Run.opsEnd (Run.seq (Run.region ?_))
 refine mv rfl rfl <| mv rfl rfl <| og (ex_mul rfl rfl) rfl <| og (ex_mul rfl rfl) rfl <| av rfl rfl <| Run.opsEnd ?_
 cases h
 exact Run.ret Tryz.func183 rfl (res_tmp rfl res_nil) rfl

theorem ze1 : makeK Tryz.prog 183 = none := by kernel_rfl
theorem zdv : callable Tryz.prog 183 = true := by kernel_rfl
abbrev zao (r : Int × Int) : SV → Mem → Prop := fun s _ => s = (.tuple [(.int .i64 r.1), (.int .i64 r.2)])

def sky_Cells (F : Nat) (a0 : Int) : Option (Int × Int) :=
 bnd (sky_checkGrid F a0) fun a =>
 bif (!(a == (0 : Int))) then
  some ((0 : Int), a)
 else
  bnd (sky_grid_cells F a0) fun b =>
  some (b, (0 : Int))

theorem zba (F : Nat) (a0 : Int) (r : Int × Int) (M : Mem) (h : sky_Cells F a0 = some r) : CallsM Tryz.prog 204 [(.int .i64 a0)] M (fun s M' => s = (.tuple [(.int .i64 r.1), (.int .i64 r.2)]) ∧ M' = M) := by
 refine CallsM.plain Tryz.func204 rfl rfl rfl (show Run _ _ _ (zao r) _ _ _ from ?_)
 rw [sky_Cells] at h
 have hH := Has.nil (frozen M)
 refine Run.seq (Run.region ?_)
 refine av rfl rfl <| av rfl rfl ?_
 refine Run.opsEnd (Run.seq (Run.seq (Run.region ?_)))
 refine mv rfl rfl ?_
 obtain ⟨c, b, h⟩ := bnd_some h
 refine Run.callP wantS_none (ex_call rfl zg1 ze5) rfl (z9u F a0 _ _ b) <| av rfl rfl ?_
 refine Run.opsEnd (Run.seq (Run.region ?_))
 refine mv rfl rfl <| og (ex_neq rfl rfl) rfl <| Run.opsEnd ?_
 rcases btf ((!(c == (0 : Int)))) with hc24 | hc24
 ·have h := bif_t hc24 h
  refine Run.condT' rfl hc24 ?_
  refine Run.seq (Run.region ?_)
  refine mv rfl rfl <| av rfl rfl <| av rfl rfl <| Run.opsEnd ?_
  cases h
  exact Run.ret Tryz.func204 rfl (res_tmp rfl (res_tmp rfl res_nil)) rfl
 ·have h := bif_f hc24 h
  refine Run.condF' rfl hc24 ?_
  refine Run.skip (Run.seq (Run.region ?_))
  refine mv rfl rfl ?_
  obtain ⟨d, a, h⟩ := bnd_some h
  refine Run.callP wantS_none (ex_call rfl ze1 zdv) rfl (z95 F a0 _ _ a) <| av rfl rfl <| av rfl rfl <| Run.opsEnd ?_
  cases h
  exact Run.ret Tryz.func204 rfl (res_tmp rfl (res_tmp rfl res_nil)) rfl

theorem zfr : makeK Tryz.prog 204 = none := by kernel_rfl
theorem zed : callable Tryz.prog 204 = true := by kernel_rfl
abbrev z42 (r : Bool) : SV → Mem → Prop := fun s _ => s = (.bool r)

def alert_areCells_1 (F : Nat) : Nat → Int → Int → List Int → Int → Int → Option (Bool)
 | 0, _, _, _, _, _ => none
 | N + 1, v0, v5, v8, v9, a =>
  bif (decide (a < v9)) then
   bnd (idx v8 a) fun b =>
   bnd (alert_isFrom F (w64 (v5 + (1 : Int))) b (w64 (v0 - (1 : Int)))) fun c =>
   bif (!c) then
    some false
   else
    (alert_areCells_1 F N) v0 b v8 v9 (w64 (a + (1 : Int)))
  else
   some true

theorem z81 (F : Nat) : ∀ (N : Nat), ∀ (v0 v5 : Int) (v8 : List Int) (v9 c : Int) (f : SV) (Fr : Rd) (M : Mem) (r : Bool) (m : Slc Fr 1 (FlatR enc3) f v8) (hH : Has Fr M []), alert_areCells_1 F N v0 v5 v8 v9 c = some r → Run Tryz.prog ⟨⟨205, [], none⟩, []⟩ 23 (z42 r) [(0, (.int .i64 v0)), (5, (.int .i64 v5)), (8, f), (9, (.int .i64 v9)), (10, (.int .i64 c))] [codeC Tryz.prog 205 [1, 1, 0, 1, 0, 0], loopC Tryz.prog 205 [1, 1, 0, 1, 0, 0], .inBlock 0, codeC Tryz.prog 205 [1, 1, 1]] M := by
 intro N
 induction N with
 | zero =>
  intro v0 v5 v8 v9 c f Fr M r m hH h
  simp [alert_areCells_1] at h
 | succ N ih =>
  intro v0 v5 v8 v9 c f Fr M r m hH h
  rw [alert_areCells_1] at h
  refine Run.seq (Run.region ?_)
  refine og (ex_lss rfl rfl) rfl ?_
  refine Run.opsEnd (Run.seq ?_)
  rcases btf ((decide (c < v9))) with a | a
  ·have h := bif_t a h
   refine Run.condT' rfl a ?_
   refine Run.skip (Run.seq (Run.block (Run.seq (Run.region ?_))))
   obtain ⟨p, d, h⟩ := bnd_some h
   obtain ⟨u, s, _, d, e, rfl⟩ := sl_elem (P := Tryz.prog) (t := 31) (kk := .i64) m d zb7
   refine og (ex_elX rfl rfl d) rfl <| og (ex_load1 rfl (hH.ptrF e) rdLe_rfl z0c) rfl <| av rfl rfl ?_
   refine Run.opsEnd (Run.seq (Run.seq (Run.region ?_)))
   refine mv rfl rfl <| og (ex_add rfl rfl) rfl <| mv rfl rfl <| mv rfl rfl <| og (ex_sub rfl rfl) rfl ?_
   obtain ⟨q, g, h⟩ := bnd_some h
   refine Run.callP wantS_none (ex_call rfl za0 zaa) rfl (z06 F (w64 (v5 + (1 : Int))) p (w64 (v0 - (1 : Int))) _ _ g) <| og (ex_not rfl) rfl <| Run.opsEnd ?_
   rcases btf ((!q)) with b | b
   ·have h := bif_t b h
    refine Run.condT' rfl b ?_
    refine Run.seq (Run.region ?_)
    refine av rfl rfl <| Run.opsEnd ?_
    cases h
    exact Run.ret Tryz.func205 rfl (res_tmp rfl res_nil) rfl
   ·have h := bif_f b h
    refine Run.condF' rfl b ?_
    refine Run.skip (Run.region ?_)
    refine mv rfl rfl <| av rfl rfl ?_
    refine Run.opsEnd (Run.inBlock (Run.region ?_))
    refine og (ex_add rfl rfl) rfl <| mv rfl rfl ?_
    refine Run.opsEnd (Run.inLoop ?_)
    exact Run.pick [0, 5, 8, 9, 10] (ih v0 p v8 v9 (w64 (c + (1 : Int))) f _ _ _ m hH h)
  ·have h := bif_f a h
   refine Run.condF' rfl a ?_
   refine Run.exit rfl (Run.seq (Run.region ?_))
   refine av rfl rfl <| Run.opsEnd ?_
   cases h
   exact Run.ret Tryz.func205 rfl (res_tmp rfl res_nil) rfl

def alert_areCells (F : Nat) (a0 : Int) (a1 : List Int) : Option (Bool) :=
 alert_areCells_1 F F a0 ((-1) : Int) a1 (a1.length : Int) (0 : Int)

theorem z9g (F : Nat) (a0 : Int) (a1 : List Int) (s0 : SV) (r : Bool) (M : Mem) (a : Slc (rd M) 1 (FlatR enc3) s0 a1) (h : alert_areCells F a0 a1 = some r) : CallsM Tryz.prog 205 [(.int .i64 a0), s0] M (fun s M' => s = (.bool r) ∧ M' = M) := by
 refine CallsM.plain Tryz.func205 rfl rfl rfl (show Run _ _ _ (z42 r) _ _ _ from ?_)
 rw [alert_areCells] at h
 replace a := a.mono (rdLe_frozen M) (fun _ _ h => h)
 have hH := Has.nil (frozen M)
 refine Run.seq (Run.region ?_)
 refine av rfl rfl ?_
 refine Run.opsEnd (Run.seq (Run.region ?_))
 refine av rfl rfl ?_
 refine Run.opsEnd (Run.seq (Run.seq (Run.region ?_)))
 refine mv rfl rfl <| og (ex_len' rfl a z8t) rfl <| mv rfl rfl ?_
 refine Run.opsEnd (Run.block (Run.loop ?_))
 exact Run.pick [0, 5, 8, 9, 10] (z81 F F a0 ((-1) : Int) a1 (a1.length : Int) (0 : Int) s0 _ _ _ a hH h)

theorem zdj : makeK Tryz.prog 205 = none := by kernel_rfl
theorem zfe : callable Tryz.prog 205 = true := by kernel_rfl
abbrev z1r (r : Bool) : SV → Mem → Prop := fun s _ => s = (.bool r)

def alert_isPlaced_2 (F : Nat) (a : Bool) : Option (Bool) :=
 some a

theorem z4a (F : Nat) : ∀ (a : Bool) (Fr : Rd) (M : Mem) (r : Bool) (hH : Has Fr M []), alert_isPlaced_2 F a = some r → Run Tryz.prog ⟨⟨142, [], none⟩, []⟩ 28 (z1r r) [(27, (.bool a))] [itemC Tryz.prog 142 [1, 1, 0] 17, codeC Tryz.prog 142 [1, 1, 1]] M := by
 intro a Fr M r hH h
 rw [alert_isPlaced_2] at h
 refine av rfl rfl <| Run.opsEnd ?_
 cases h
 exact Run.ret Tryz.func142 rfl (res_tmp rfl res_nil) rfl

def alert_isPlaced_1 (F : Nat) (c : Bool) (q : List UInt8) (m e g p d : Int) (b : List Int) (a : Bool) (n : Int) : Option (Bool) :=
 bif c then
  alert_isPlaced_2 F (a == ((b.length : Int) == (0 : Int)))
 else
  alert_isPlaced_2 F false

theorem z49 (F : Nat) : ∀ (c : Bool) (u : List UInt8) (s g q n p : Int) (d : List Int) (b : Bool) (m : Int) (e : SV) (f : Pos) (Fr : Rd) (M : Mem) (r : Bool) (w : Slc Fr 1 (FlatR enc3) e d) (hH : Has Fr M [.obj f (.row 33 .whole (k0 u s g q n p e b m))]), alert_isPlaced_1 F c u s g q n p d b m = some r → Run Tryz.prog ⟨⟨142, [], none⟩, []⟩ 28 (z1r r) [(1, (.ptr f 0)), (18, (.bool c))] [itemC Tryz.prog 142 [1, 1, 0] 8, codeC Tryz.prog 142 [1, 1, 1]] M := by
 intro c u s g q n p d b m e f Fr M r w hH h
 rw [alert_isPlaced_1] at h
 refine mv rfl rfl ?_
 rcases btf (c) with a | a
 ·have h := bif_t a h
  refine gy rfl rfl a (ex_fieldAddr rfl z5n) rfl <| gy rfl rfl a (ex_load1 rfl (hH.cells (i := 0) rfl 7 rfl) rdLe_rfl zc0) rfl <| gy rfl rfl a (ex_fieldAddr rfl z16) rfl <| gy rfl rfl a (ex_load1 rfl (hH.cells (i := 0) rfl 6 rfl) rdLe_rfl z7y) rfl <| gy rfl rfl a (ex_len' rfl w z8t) rfl <| gy rfl rfl a (ex_eql rfl rfl) rfl <| gy rfl rfl a (ex_eqlB rfl rfl zde) rfl <| og (ex_pickT' rfl a rfl rfl) rfl ?_
  exact Run.pick [27] (z4a F (b == ((d.length : Int) == (0 : Int))) _ _ _ (hH.pick [] rfl rfl) h)
 ·have h := bif_f a h
  refine gn rfl rfl a rfl <| gn rfl rfl a rfl <| gn rfl rfl a rfl <| gn rfl rfl a rfl <| gn rfl rfl a rfl <| gn rfl rfl a rfl <| gn rfl rfl a rfl <| og (ex_pickF' rfl a rfl rfl) rfl ?_
  exact Run.pick [27] (z4a F false _ _ _ (hH.pick [] rfl rfl) h)

def alert_isPlaced (F : Nat) (a0 : S_api_Alert) : Option (Bool) :=
 bnd (sky_Cells F a0.Grid) fun a =>
 bif (a.2 == (0 : Int)) then
  bnd (alert_areCells F a.1 a0.Cells) fun b =>
  alert_isPlaced_1 F b a0.Event a0.Version a0.Time a0.Chance.N a0.Chance.Of a0.Grid a0.Cells a0.Withdrawn a0.Before
 else
  alert_isPlaced_1 F false a0.Event a0.Version a0.Time a0.Chance.N a0.Chance.Of a0.Grid a0.Cells a0.Withdrawn a0.Before

theorem z8z (F : Nat) (a0 : S_api_Alert) (s0 : SV) (r : Bool) (M : Mem) (c : Slc (rd M) 1 (FlatR enc3) s0 a0.Cells) (h : alert_isPlaced F a0 = some r) : CallsM Tryz.prog 142 [(.agg (r0 a0 s0))] M (fun s M' => s = (.bool r) ∧ M' = M) := by
 refine CallsM.plain Tryz.func142 rfl rfl rfl (show Run _ _ _ (z1r r) _ _ _ from ?_)
 rw [alert_isPlaced] at h
 replace c := c.mono (rdLe_frozen M) (fun _ _ h => h)
 have hH := Has.nil (frozen M)
 refine Run.seq (Run.region ?_)
 refine ox rfl (ExG.box rfl rfl hH) ?_
 rintro _ m ⟨f, rfl, a⟩
 refine av rfl rfl ?_
 refine Run.opsEnd (Run.seq (Run.region ?_))
 refine og (ex_fieldAddr rfl z3w) rfl <| og (ex_load1 rfl (a.cells (i := 0) rfl 5 rfl) rdLe_rfl z0c) rfl ?_
 obtain ⟨e, b, h⟩ := bnd_some h
 refine Run.callP wantS_none (ex_call rfl zfr zed) rfl (zba F a0.Grid _ _ b) <| mv rfl rfl <| og (ex_extract rfl rfl) rfl <| og (ex_extract rfl rfl) rfl <| av rfl rfl <| av rfl rfl ?_
 refine Run.opsEnd (Run.seq (Run.region ?_))
 refine mv rfl rfl <| og (ex_eql rfl rfl) rfl <| mv rfl rfl ?_
 rcases btf ((e.2 == (0 : Int))) with hc27 | hc27
 ·have h := bif_t hc27 h
  refine gy rfl rfl hc27 (ex_move rfl) rfl <| gy rfl rfl hc27 (ex_fieldAddr rfl z16) rfl <| gy rfl rfl hc27 (ex_load1 rfl (a.cells (i := 0) rfl 6 rfl) rdLe_rfl z7y) rfl ?_
  obtain ⟨g, d, h⟩ := bnd_some h
  refine Run.callP (wantS_yes' rfl rfl hc27) (ex_call rfl zdj zfe) rfl (z9g F e.1 a0.Cells s0 _ _ (a.slcF c) d) <| og (ex_pickT' rfl hc27 rfl rfl) rfl ?_
  exact Run.pick [1, 18] (z49 F g a0.Event a0.Version a0.Time a0.Chance.N a0.Chance.Of a0.Grid a0.Cells a0.Withdrawn a0.Before s0 f _ _ _ c a h)
 ·have h := bif_f hc27 h
  refine gn rfl rfl hc27 rfl <| gn rfl rfl hc27 rfl <| gn rfl rfl hc27 rfl <| gn rfl rfl hc27 rfl <| og (ex_pickF' rfl hc27 rfl rfl) rfl ?_
  exact Run.pick [1, 18] (z49 F false a0.Event a0.Version a0.Time a0.Chance.N a0.Chance.Of a0.Grid a0.Cells a0.Withdrawn a0.Before s0 f _ _ _ c a h)

theorem zer : makeK Tryz.prog 142 = none := by kernel_rfl
theorem zdy : callable Tryz.prog 142 = true := by kernel_rfl
abbrev z89 (r : Bool) : SV → Mem → Prop := fun s _ => s = (.bool r)

def alert_isBefore (F : Nat) (a0 : S_api_Alert) : Option (Bool) :=
 bif (a0.Version == (1 : Int)) then
  some (a0.Before == (0 : Int))
 else
  bnd (alert_isFrom F (0 : Int) a0.Before (2147483646 : Int)) fun a =>
  some a

theorem z97 (F : Nat) (a0 : S_api_Alert) (s0 : SV) (r : Bool) (M : Mem) (c : Slc (rd M) 1 (FlatR enc3) s0 a0.Cells) (h : alert_isBefore F a0 = some r) : CallsM Tryz.prog 143 [(.agg (r0 a0 s0))] M (fun s M' => s = (.bool r) ∧ M' = M) := by
 refine CallsM.plain Tryz.func143 rfl rfl rfl (show Run _ _ _ (z89 r) _ _ _ from ?_)
 rw [alert_isBefore] at h
 replace c := c.mono (rdLe_frozen M) (fun _ _ h => h)
 have hH := Has.nil (frozen M)
 refine Run.seq (Run.region ?_)
 refine ox rfl (ExG.box rfl rfl hH) ?_
 rintro _ d ⟨f, rfl, a⟩
 refine av rfl rfl ?_
 refine Run.opsEnd (Run.seq (Run.seq (Run.region ?_)))
 refine og (ex_fieldAddr rfl z3r) rfl <| og (ex_load1 rfl (a.cells (i := 0) rfl 1 rfl) rdLe_rfl z0c) rfl <| og (ex_eql rfl rfl) rfl <| Run.opsEnd ?_
 rcases btf ((a0.Version == (1 : Int))) with hc24 | hc24
 ·have h := bif_t hc24 h
  refine Run.condT' rfl hc24 ?_
  refine Run.seq (Run.region ?_)
  refine og (ex_fieldAddr rfl z5k) rfl <| og (ex_load1 rfl (a.cells (i := 0) rfl 8 rfl) rdLe_rfl z0c) rfl <| og (ex_eql rfl rfl) rfl <| av rfl rfl <| Run.opsEnd ?_
  cases h
  exact Run.ret Tryz.func143 rfl (res_tmp rfl res_nil) rfl
 ·have h := bif_f hc24 h
  refine Run.condF' rfl hc24 ?_
  refine Run.skip (Run.seq (Run.region ?_))
  refine og (ex_fieldAddr rfl z5k) rfl <| og (ex_load1 rfl (a.cells (i := 0) rfl 8 rfl) rdLe_rfl z0c) rfl ?_
  obtain ⟨e, b, h⟩ := bnd_some h
  refine Run.callP wantS_none (ex_call rfl za0 zaa) rfl (z06 F (0 : Int) a0.Before (2147483646 : Int) _ _ b) <| av rfl rfl <| Run.opsEnd ?_
  cases h
  exact Run.ret Tryz.func143 rfl (res_tmp rfl res_nil) rfl

theorem zfv : makeK Tryz.prog 143 = none := by kernel_rfl
theorem zdr : callable Tryz.prog 143 = true := by kernel_rfl
abbrev z0h (r : Bool) : SV → Mem → Prop := fun s _ => s = (.bool r)

def alert_isAlert_5 (F : Nat) (a : Bool) : Option (Bool) :=
 some a

theorem z4l (F : Nat) : ∀ (a : Bool) (Fr : Rd) (M : Mem) (r : Bool) (hH : Has Fr M []), alert_isAlert_5 F a = some r → Run Tryz.prog ⟨⟨79, [], none⟩, []⟩ 29 (z0h r) [(28, (.bool a))] [itemC Tryz.prog 79 [1, 0] 26, codeC Tryz.prog 79 [1, 1]] M := by
 intro a Fr M r hH h
 rw [alert_isAlert_5] at h
 refine av rfl rfl <| Run.opsEnd ?_
 cases h
 exact Run.ret Tryz.func79 rfl (res_tmp rfl res_nil) rfl

def alert_isAlert_4 (F : Nat) (f : Bool) (q : List UInt8) (n e g p d : Int) (b : List Int) (a : Bool) (m : Int) : Option (Bool) :=
 bif f then
  bnd (alert_isBefore F (S_api_Alert.mk q n e (S_api_Chance.mk g p) d b a m)) fun c =>
  alert_isAlert_5 F c
 else
  alert_isAlert_5 F false

theorem z4f (F : Nat) : ∀ (c : Bool) (u : List UInt8) (s d n g m : Int) (q : List Int) (p : Bool) (e : Int) (b : SV) (f : Pos) (Fr : Rd) (M : Mem) (r : Bool) (w : Slc Fr 1 (FlatR enc3) b q) (hH : Has Fr M [.obj f (.row 33 .whole (k0 u s d n g m b p e))]), alert_isAlert_4 F c u s d n g m q p e = some r → Run Tryz.prog ⟨⟨79, [], none⟩, []⟩ 29 (z0h r) [(1, (.ptr f 0)), (24, (.bool c))] [itemC Tryz.prog 79 [1, 0] 22, codeC Tryz.prog 79 [1, 1]] M := by
 intro c u s d n g m q p e b f Fr M r w hH h
 rw [alert_isAlert_4] at h
 refine mv rfl rfl ?_
 rcases btf (c) with a | a
 ·have h := bif_t a h
  refine gy rfl rfl a (ex_loadA rfl (hH.cells (i := 0) rfl 0 rfl) rdLe_rfl z0m rfl rfl rfl) rfl ?_
  obtain ⟨y, x, h⟩ := bnd_some h
  refine Run.callP (wantS_yes' rfl rfl a) (ex_call rfl zfv zdr) rfl (z97 F (S_api_Alert.mk u s d (S_api_Chance.mk n g) m q p e) b _ _ (hH.slcF w) x) <| og (ex_pickT' rfl a rfl rfl) rfl ?_
  exact Run.pick [28] (z4l F y _ _ _ (hH.pick [] rfl rfl) h)
 ·have h := bif_f a h
  refine gn rfl rfl a rfl <| gn rfl rfl a rfl <| og (ex_pickF' rfl a rfl rfl) rfl ?_
  exact Run.pick [28] (z4l F false _ _ _ (hH.pick [] rfl rfl) h)

def alert_isAlert_3 (F : Nat) (c : Bool) (q : List UInt8) (m e g p d : Int) (b : List Int) (a : Bool) (n : Int) : Option (Bool) :=
 bif c then
  bnd (alert_isPlaced F (S_api_Alert.mk q m e (S_api_Chance.mk g p) d b a n)) fun f =>
  alert_isAlert_4 F f q m e g p d b a n
 else
  alert_isAlert_4 F false q m e g p d b a n

theorem z4i (F : Nat) : ∀ (f : Bool) (u : List UInt8) (s d n g m : Int) (q : List Int) (p : Bool) (e : Int) (a : SV) (c : Pos) (Fr : Rd) (M : Mem) (r : Bool) (w : Slc Fr 1 (FlatR enc3) a q) (hH : Has Fr M [.obj c (.row 33 .whole (k0 u s d n g m a p e))]), alert_isAlert_3 F f u s d n g m q p e = some r → Run Tryz.prog ⟨⟨79, [], none⟩, []⟩ 29 (z0h r) [(1, (.ptr c 0)), (20, (.bool f))] [itemC Tryz.prog 79 [1, 0] 18, codeC Tryz.prog 79 [1, 1]] M := by
 intro f u s d n g m q p e a c Fr M r w hH h
 rw [alert_isAlert_3] at h
 refine mv rfl rfl ?_
 rcases btf (f) with b | b
 ·have h := bif_t b h
  refine gy rfl rfl b (ex_loadA rfl (hH.cells (i := 0) rfl 0 rfl) rdLe_rfl z0m rfl rfl rfl) rfl ?_
  obtain ⟨y, x, h⟩ := bnd_some h
  refine Run.callP (wantS_yes' rfl rfl b) (ex_call rfl zer zdy) rfl (z8z F (S_api_Alert.mk u s d (S_api_Chance.mk n g) m q p e) a _ _ (hH.slcF w) x) <| og (ex_pickT' rfl b rfl rfl) rfl ?_
  exact Run.pick [1, 24] (z4f F y u s d n g m q p e a c _ _ _ w hH h)
 ·have h := bif_f b h
  refine gn rfl rfl b rfl <| gn rfl rfl b rfl <| og (ex_pickF' rfl b rfl rfl) rfl ?_
  exact Run.pick [1, 24] (z4f F false u s d n g m q p e a c _ _ _ w hH h)

def alert_isAlert_2 (F : Nat) (c : Bool) (q : List UInt8) (p m a b g : Int) (e : List Int) (d : Bool) (n : Int) : Option (Bool) :=
 bif c then
  bnd (alert_isChance F (S_api_Chance.mk a b)) fun f =>
  alert_isAlert_3 F f q p m a b g e d n
 else
  alert_isAlert_3 F false q p m a b g e d n

theorem z4o (F : Nat) : ∀ (f : Bool) (u : List UInt8) (s g e d n : Int) (q : List Int) (p : Bool) (m : Int) (b : SV) (c : Pos) (Fr : Rd) (M : Mem) (r : Bool) (w : Slc Fr 1 (FlatR enc3) b q) (hH : Has Fr M [.obj c (.row 33 .whole (k0 u s g e d n b p m))]), alert_isAlert_2 F f u s g e d n q p m = some r → Run Tryz.prog ⟨⟨79, [], none⟩, []⟩ 29 (z0h r) [(1, (.ptr c 0)), (15, (.bool f))] [itemC Tryz.prog 79 [1, 0] 13, codeC Tryz.prog 79 [1, 1]] M := by
 intro f u s g e d n q p m b c Fr M r w hH h
 rw [alert_isAlert_2] at h
 refine mv rfl rfl ?_
 rcases btf (f) with a | a
 ·have h := bif_t a h
  refine gy rfl rfl a (ex_fieldAddr rfl z2q) rfl <| gy rfl rfl a (ex_loadA rfl (hH.cells (i := 0) rfl 3 rfl) rdLe_rfl zdb rfl rfl rfl) rfl ?_
  obtain ⟨y, x, h⟩ := bnd_some h
  refine Run.callP (wantS_yes' rfl rfl a) (ex_call rfl zdf zfs) rfl (z93 F (S_api_Chance.mk e d) _ _ x) <| og (ex_pickT' rfl a rfl rfl) rfl ?_
  exact Run.pick [1, 20] (z4i F y u s g e d n q p m b c _ _ _ w hH h)
 ·have h := bif_f a h
  refine gn rfl rfl a rfl <| gn rfl rfl a rfl <| gn rfl rfl a rfl <| og (ex_pickF' rfl a rfl rfl) rfl ?_
  exact Run.pick [1, 20] (z4i F false u s g e d n q p m b c _ _ _ w hH h)

def alert_isAlert_1 (F : Nat) (f : Bool) (q : List UInt8) (m a g p e : Int) (d : List Int) (b : Bool) (n : Int) : Option (Bool) :=
 bif f then
  bnd (alert_isFrom F (0 : Int) a (1073741824 : Int)) fun c =>
  alert_isAlert_2 F c q m a g p e d b n
 else
  alert_isAlert_2 F false q m a g p e d b n

theorem z4p (F : Nat) : ∀ (f : Bool) (u : List UInt8) (s d n g m : Int) (q : List Int) (p : Bool) (e : Int) (b : SV) (c : Pos) (Fr : Rd) (M : Mem) (r : Bool) (w : Slc Fr 1 (FlatR enc3) b q) (hH : Has Fr M [.obj c (.row 33 .whole (k0 u s d n g m b p e))]), alert_isAlert_1 F f u s d n g m q p e = some r → Run Tryz.prog ⟨⟨79, [], none⟩, []⟩ 29 (z0h r) [(1, (.ptr c 0)), (10, (.bool f))] [itemC Tryz.prog 79 [1, 0] 8, codeC Tryz.prog 79 [1, 1]] M := by
 intro f u s d n g m q p e b c Fr M r w hH h
 rw [alert_isAlert_1] at h
 refine mv rfl rfl ?_
 rcases btf (f) with a | a
 ·have h := bif_t a h
  refine gy rfl rfl a (ex_fieldAddr rfl z4q) rfl <| gy rfl rfl a (ex_load1 rfl (hH.cells (i := 0) rfl 2 rfl) rdLe_rfl z0c) rfl ?_
  obtain ⟨y, x, h⟩ := bnd_some h
  refine Run.callP (wantS_yes' rfl rfl a) (ex_call rfl za0 zaa) rfl (z06 F (0 : Int) d (1073741824 : Int) _ _ x) <| og (ex_pickT' rfl a rfl rfl) rfl ?_
  exact Run.pick [1, 15] (z4o F y u s d n g m q p e b c _ _ _ w hH h)
 ·have h := bif_f a h
  refine gn rfl rfl a rfl <| gn rfl rfl a rfl <| gn rfl rfl a rfl <| og (ex_pickF' rfl a rfl rfl) rfl ?_
  exact Run.pick [1, 15] (z4o F false u s d n g m q p e b c _ _ _ w hH h)

def alert_isAlert (F : Nat) (a0 : S_api_Alert) : Option (Bool) :=
 bnd (num_IsName F a0.Event) fun a =>
 bif a then
  bnd (alert_isFrom F (1 : Int) a0.Version (1000 : Int)) fun b =>
  alert_isAlert_1 F b a0.Event a0.Version a0.Time a0.Chance.N a0.Chance.Of a0.Grid a0.Cells a0.Withdrawn a0.Before
 else
  alert_isAlert_1 F false a0.Event a0.Version a0.Time a0.Chance.N a0.Chance.Of a0.Grid a0.Cells a0.Withdrawn a0.Before

theorem z9t (F : Nat) (a0 : S_api_Alert) (s0 : SV) (r : Bool) (M : Mem) (c : Slc (rd M) 1 (FlatR enc3) s0 a0.Cells) (h : alert_isAlert F a0 = some r) : CallsM Tryz.prog 79 [(.agg (r0 a0 s0))] M (fun s M' => s = (.bool r) ∧ M' = M) := by
 refine CallsM.plain Tryz.func79 rfl rfl rfl (show Run _ _ _ (z0h r) _ _ _ from ?_)
 rw [alert_isAlert] at h
 replace c := c.mono (rdLe_frozen M) (fun _ _ h => h)
 have hH := Has.nil (frozen M)
 refine Run.seq (Run.region ?_)
 refine ox rfl (ExG.box rfl rfl hH) ?_
 rintro _ p ⟨f, rfl, b⟩
 refine av rfl rfl ?_
 refine Run.opsEnd (Run.seq (Run.region ?_))
 refine og (ex_fieldAddr rfl z10) rfl <| og (ex_load1 rfl (b.cells (i := 0) rfl 0 rfl) rdLe_rfl zam) rfl ?_
 obtain ⟨m, d, h⟩ := bnd_some h
 refine Run.callP wantS_none (ex_call rfl zfy zfb) rfl (zaw F a0.Event _ _ d) <| mv rfl rfl ?_
 rcases btf (m) with a | a
 ·have h := bif_t a h
  refine gy rfl rfl a (ex_fieldAddr rfl z3r) rfl <| gy rfl rfl a (ex_load1 rfl (b.cells (i := 0) rfl 1 rfl) rdLe_rfl z0c) rfl ?_
  obtain ⟨g, e, h⟩ := bnd_some h
  refine Run.callP (wantS_yes' rfl rfl a) (ex_call rfl za0 zaa) rfl (z06 F (1 : Int) a0.Version (1000 : Int) _ _ e) <| og (ex_pickT' rfl a rfl rfl) rfl ?_
  exact Run.pick [1, 10] (z4p F g a0.Event a0.Version a0.Time a0.Chance.N a0.Chance.Of a0.Grid a0.Cells a0.Withdrawn a0.Before s0 f _ _ _ c b h)
 ·have h := bif_f a h
  refine gn rfl rfl a rfl <| gn rfl rfl a rfl <| gn rfl rfl a rfl <| og (ex_pickF' rfl a rfl rfl) rfl ?_
  exact Run.pick [1, 10] (z4p F false a0.Event a0.Version a0.Time a0.Chance.N a0.Chance.Of a0.Grid a0.Cells a0.Withdrawn a0.Before s0 f _ _ _ c b h)

theorem zhn : makeK Tryz.prog 79 = none := by kernel_rfl
theorem zhp : callable Tryz.prog 79 = true := by kernel_rfl
theorem zdw : zerosOf Tryz.prog 223 = some [(.str []), (.int .i64 0), (.int .i64 0), (.int .i64 0), (.int .i64 0), (.int .i64 0), .nils, (.bool false), (.int .i64 0)] := by kernel_rfl
theorem zgt : szOf Tryz.prog 223 = some 9 := by kernel_rfl
theorem zab : aggSize Tryz.prog 223 = some (some 9) := by kernel_rfl
theorem zcs : zerosOf Tryz.prog 225 = some [.nilf, .nilf, .nilf, .nilf, .nilf, .nilf, .nilf] := by kernel_rfl
theorem zdp : placesOf Tryz.prog 225 = some (.ar 1) := by kernel_rfl
theorem zg8 : szOf Tryz.prog 225 = some 7 := by kernel_rfl
theorem zce : zerosOf Tryz.prog 228 = some [.nilp, .nils] := by kernel_rfl
theorem zeo : aggSize Tryz.prog 225 = some (some 7) := by kernel_rfl
theorem zah : whole Tryz.prog 225 = some (.arr 7 224 1) := by kernel_rfl
theorem zai : aggSize Tryz.prog 224 = some none := by kernel_rfl
theorem zdh : makeK Tryz.prog 148 = none := by kernel_rfl
theorem zeq : callable Tryz.prog 148 = true := by kernel_rfl
theorem zca : fieldOff Tryz.prog 223 0 = some 0 := by kernel_rfl
theorem zc7 : fieldOff Tryz.prog 223 1 = some 1 := by kernel_rfl
theorem zbo : sliceElt Tryz.prog 31 = some (⟨1, 8, [(.int .i64 0)], 3⟩ : Elt) := by kernel_rfl
theorem z8u : makeK Tryz.prog 155 = none := by kernel_rfl
theorem z8h : callable Tryz.prog 155 = true := by kernel_rfl
theorem z7h : makeK Tryz.prog 208 = none := by kernel_rfl
theorem z6y : callable Tryz.prog 208 = true := by kernel_rfl
theorem z0d : fieldOff Tryz.prog 228 0 = some 0 := by kernel_rfl
theorem z1v : aggSize Tryz.prog 226 = some none := by kernel_rfl
theorem z7k : eqK Tryz.prog 226 = some .ptr := by kernel_rfl
theorem zar : uvK Tryz.prog 226 335 = some (.to 2) := by kernel_rfl
theorem zcp : makeK Tryz.prog 271 = none := by kernel_rfl
theorem zby : callable Tryz.prog 271 = false := by kernel_rfl
theorem zck : extK Tryz.prog 271 = some .noEsc := by kernel_rfl
theorem zaq : uvK Tryz.prog 335 226 = some (.back 228) := by kernel_rfl
theorem zci : Tryz.prog.cellsOf 228 = 2 := by kernel_rfl
theorem zfc : szOf Tryz.prog 226 = some 1 := by kernel_rfl
theorem z08 : fieldOff Tryz.prog 228 1 = some 1 := by kernel_rfl
theorem z3x : aggSize Tryz.prog 191 = some none := by kernel_rfl
theorem z2h : appT Tryz.prog 191 9 = some (⟨1, 1, [(.int .u8 0)], 5⟩ : Elt) := by kernel_rfl
theorem za9 : szOf Tryz.prog 191 = some 1 := by kernel_rfl
theorem zcb : makeK Tryz.prog 269 = none := by kernel_rfl
theorem zcr : callable Tryz.prog 269 = true := by kernel_rfl
theorem z8o : ptrElt Tryz.prog 226 = some 228 := by kernel_rfl
theorem z8p : (Tryz.prog.info? 228).isSome = true := by kernel_rfl
theorem zcf : sliceElt Tryz.prog 191 = some (⟨1, 1, [(.int .u8 0)], 5⟩ : Elt) := by kernel_rfl
theorem za7 : appT Tryz.prog 191 191 = some (⟨1, 1, [(.int .u8 0)], 5⟩ : Elt) := by kernel_rfl
theorem zfu : makeK Tryz.prog 270 = none := by kernel_rfl
theorem zei : callable Tryz.prog 270 = true := by kernel_rfl
theorem zcd : makeK Tryz.prog 156 = none := by kernel_rfl
theorem zcq : callable Tryz.prog 156 = true := by kernel_rfl
theorem zct : ptrElt Tryz.prog 285 = some 5 := by kernel_rfl
theorem zhr : Tryz.prog.cellsOf 5 = 1 := by kernel_rfl
theorem zad : planOf Tryz.prog (opsC (atC Tryz.prog 156 [1, 0])) = some [.fl 0, .fl 1, .fl 2, .fl 3, .fl 4, .fl 5, .fl 6, .fl 7, .fl 8, .fl 9, .an 10 [], .fl 11, .sync] := by kernel_rfl
abbrev z6o (r : List UInt8) : SV → Mem → Prop := fun s _ => s = (.str r)

def alert_line_1 (F : Nat) : Nat → List Int → Int → Int → List Int → Option ((List UInt8))
 | 0, _, _, _, _ => none
 | N + 1, d, e, a, c =>
  bif (decide (a < e)) then
   bnd (idx d a) fun m =>
   bnd (apd 1 c ([32] : List Int)) fun p =>
   bnd (itoa F m) fun f =>
   bnd (apd 1 p (bytesI f)) fun q =>
   (alert_line_1 F N) d e (w64 (a + (1 : Int))) q
  else
   bnd (apd 1 c ([10] : List Int)) fun b =>
   bnd (neB b) fun s =>
   bnd (strOf b) fun g =>
   some g

theorem zak (F : Nat) : ∀ (N : Nat), ∀ (b4 : List Int) (b0 a9 : Int) (a8 : List Int) (a : SV) (c : Pos) (f : SV) (Fr : Rd) (M : Mem) (r : List UInt8) (g : Slc Fr 1 (FlatR enc3) a b4) (hH : Has Fr M [.obj c (.row 228 .whole [(.ptr c 0), f]), .vec 5 1 a8.length f (a8.flatMap z1n), tb0, tb1, tb2]), alert_line_1 F N b4 b0 a9 a8 = some r → Run Tryz.prog ⟨⟨207, [], none⟩, []⟩ 23 (z6o r) [(5, (.ptr c 0)), (10, a), (11, (.int .i64 b0)), (12, (.int .i64 a9))] [codeC Tryz.prog 207 [1, 1, 1, 0, 1, 0, 0], loopC Tryz.prog 207 [1, 1, 1, 0, 1, 0, 0], .inBlock 0, codeC Tryz.prog 207 [1, 1, 1, 1]] M := by
 intro N
 induction N with
 | zero =>
  intro b4 b0 a9 a8 a c f Fr M r g hH h
  simp [alert_line_1] at h
 | succ N ih =>
  intro b4 b0 a9 a8 a c f Fr M r g hH h
  rw [alert_line_1] at h
  refine Run.seq (Run.region ?_)
  refine og (ex_lss rfl rfl) rfl ?_
  refine Run.opsEnd (Run.seq ?_)
  rcases btf ((decide (a9 < b0))) with e | e
  ·have h := bif_t e h
   refine Run.condT' rfl e ?_
   refine Run.skip (Run.seq (Run.block (Run.seq (Run.region ?_))))
   obtain ⟨c6, m, h⟩ := bnd_some h
   obtain ⟨d4, d2, _, m, a6, rfl⟩ := sl_elem (P := Tryz.prog) (t := 31) (kk := .i64) g m zb7
   refine og (ex_elX rfl rfl m) rfl <| og (ex_load1 rfl (hH.ptrF a6) rdLe_rfl z0c) rfl <| av rfl rfl ?_
   refine Run.opsEnd (Run.seq (Run.region ?_))
   refine Run.enter wantS_none (ex_call rfl zcb zcr) Tryz.func269 rfl rfl ?_
   refine Run.seq (Run.region ?_)
   refine av rfl rfl ?_
   refine Run.opsEnd (Run.seq (Run.region ?_))
   refine mv rfl rfl <| Run.enter wantS_none (ex_call rfl z7h z6y) Tryz.func208 rfl rfl ?_
   refine Run.seq (Run.region ?_)
   refine mv rfl rfl <| og (ex_nilP rfl) rfl <| og (ex_fieldAddr rfl z0d) rfl <| og (ex_load1 rfl (hH.cells (i := 0) rfl 0 rfl) rdLe_rfl z1v) rfl <| og (ex_ptrPN rfl rfl z7k) rfl <| Run.opsEnd <| Run.condF' rfl rfl ?_
   refine Run.seq (Run.region ?_)
   refine mv rfl rfl <| og (ex_nilP rfl) rfl <| og (ex_fieldAddr rfl z0d) rfl <| og (ex_load1 rfl (hH.cells (i := 0) rfl 0 rfl) rdLe_rfl z1v) rfl <| mv rfl rfl <| og (ex_ptrSamen rfl rfl z8o z8p) rfl <| Run.opsEnd <| Run.condF' rfl rfl <| Run.skip <| Run.fallTo Tryz.func208 rfl res_nil rfl ?_
   refine Run.opsEnd (Run.seq (Run.region ?_))
   refine mv rfl rfl <| mv rfl rfl <| og (ex_nilP rfl) rfl <| og (ex_fieldAddr rfl z08) rfl <| og (ex_load1 rfl (hH.cells (i := 0) rfl 1 rfl) rdLe_rfl z3x) rfl <| mv rfl rfl <| ox rfl (ExG.built (enc := z1n) (l := ([32] : List Int)) (z := 1) rfl zcf rfl rfl rfl z0f hH) ?_
   rintro b2 c5 (n : Has Fr c5 [.vec 5 1 ([32] : List Int).length b2 (([32] : List Int).flatMap z1n), .obj c (.row 228 .whole [(.ptr c 0), f]), .vec 5 1 a8.length f (a8.flatMap z1n), tb0, tb1, tb2])
   obtain ⟨b7, w, h⟩ := bnd_some h
   refine ox rfl (ExG.append rfl rfl n (i := 2) rfl z0f rfl z17 za7 rfl (len_slc (n.slc (i := 0) rfl z0f)) (first_slc (n.slc (i := 0) rfl z0f) (rdLe_rdRow _) z0f) w) ?_
   rintro b3 c4 (p : Has Fr c4 [.vec 5 1 ([32] : List Int).length b2 (([32] : List Int).flatMap z1n), .obj c (.row 228 .whole [(.ptr c 0), f]), .vec 5 1 b7.length b3 (b7.flatMap z1n), tb0, tb1, tb2])
   refine og (ex_nilP rfl) rfl <| og (ex_fieldAddr rfl z08) rfl <| ox rfl (ExG.storeC (c' := [(.ptr c 0), b3]) rfl rfl (cells_one (vec_one p (i := 2) rfl)) p (i := 1) rfl za9 rfl rfl rfl (ones_cons (vec_one p (i := 2) rfl) ones_nil) rfl) ?_
   rintro _ c0 ⟨rfl, (d : Has Fr c0 [.vec 5 1 ([32] : List Int).length b2 (([32] : List Int).flatMap z1n), .obj c (.row 228 .whole [(.ptr c 0), b3]), .vec 5 1 b7.length b3 (b7.flatMap z1n), tb0, tb1, tb2])⟩
   refine Run.opsEnd (Run.seq (Run.region ?_))
   refine av rfl rfl <| Run.opsEnd <| Run.retTo Tryz.func269 rfl (res_tmp rfl res_nil) rfl ?_
   refine Run.opsEnd (Run.region ?_)
   refine mv rfl rfl ?_
   obtain ⟨d0, y, h⟩ := bnd_some h
   refine Run.callP wantS_none (ex_call rfl zfu zei) rfl (zd7 F c6 _ _ (zal d (List.mem_of_getElem? (i := 3) rfl) (List.mem_of_getElem? (i := 4) rfl) (List.mem_of_getElem? (i := 5) rfl)) y) <| Run.enter wantS_none (ex_call rfl z8u z8h) Tryz.func155 rfl rfl ?_
   refine Run.seq (Run.region ?_)
   refine av rfl rfl <| av rfl rfl ?_
   refine Run.opsEnd (Run.seq (Run.region ?_))
   refine mv rfl rfl <| Run.enter wantS_none (ex_call rfl z7h z6y) Tryz.func208 rfl rfl ?_
   refine Run.seq (Run.region ?_)
   refine mv rfl rfl <| og (ex_nilP rfl) rfl <| og (ex_fieldAddr rfl z0d) rfl <| og (ex_load1 rfl (d.cells (i := 1) rfl 0 rfl) rdLe_rfl z1v) rfl <| og (ex_ptrPN rfl rfl z7k) rfl <| Run.opsEnd <| Run.condF' rfl rfl ?_
   refine Run.seq (Run.region ?_)
   refine mv rfl rfl <| og (ex_nilP rfl) rfl <| og (ex_fieldAddr rfl z0d) rfl <| og (ex_load1 rfl (d.cells (i := 1) rfl 0 rfl) rdLe_rfl z1v) rfl <| mv rfl rfl <| og (ex_ptrSamen rfl rfl z8o z8p) rfl <| Run.opsEnd <| Run.condF' rfl rfl <| Run.skip <| Run.fallTo Tryz.func208 rfl res_nil rfl ?_
   refine Run.opsEnd (Run.seq (Run.region ?_))
   refine mv rfl rfl <| mv rfl rfl <| og (ex_nilP rfl) rfl <| og (ex_fieldAddr rfl z08) rfl <| og (ex_load1 rfl (d.cells (i := 1) rfl 1 rfl) rdLe_rfl z3x) rfl <| mv rfl rfl ?_
   obtain ⟨b1, a5, h⟩ := bnd_some h
   refine ox rfl (ExG.append rfl rfl d (i := 2) rfl z0f rfl z17 z2h rfl (str_lenZ rfl _) (str_first (fun _ => rfl) _) a5) ?_
   rintro b6 c7 (s : Has Fr c7 [.vec 5 1 ([32] : List Int).length b2 (([32] : List Int).flatMap z1n), .obj c (.row 228 .whole [(.ptr c 0), b3]), .vec 5 1 b1.length b6 (b1.flatMap z1n), tb0, tb1, tb2])
   refine og (ex_nilP rfl) rfl <| og (ex_fieldAddr rfl z08) rfl <| ox rfl (ExG.storeC (c' := [(.ptr c 0), b6]) rfl rfl (cells_one (vec_one s (i := 2) rfl)) s (i := 1) rfl za9 rfl rfl rfl (ones_cons (vec_one s (i := 2) rfl) ones_nil) rfl) ?_
   rintro _ c8 ⟨rfl, (a1 : Has Fr c8 [.vec 5 1 ([32] : List Int).length b2 (([32] : List Int).flatMap z1n), .obj c (.row 228 .whole [(.ptr c 0), b6]), .vec 5 1 b1.length b6 (b1.flatMap z1n), tb0, tb1, tb2])⟩
   refine Run.opsEnd (Run.seq (Run.region ?_))
   refine mv rfl rfl <| og (ex_lenS rfl z87) rfl <| av rfl rfl <| av rfl rfl <| Run.opsEnd <| Run.retTo Tryz.func155 rfl (res_tmp rfl (res_tmp rfl res_nil)) rfl ?_
   refine Run.opsEnd (Run.inBlock (Run.region ?_))
   refine og (ex_add rfl rfl) rfl <| mv rfl rfl ?_
   refine Run.opsEnd (Run.inLoop ?_)
   exact Run.pick [5, 10, 11, 12] (ih b4 b0 (w64 (a9 + (1 : Int))) b1 a c b6 _ _ _ g (a1.pick [1, 2, 3, 4, 5] rfl rfl) h)
  ·have h := bif_f e h
   refine Run.condF' rfl e ?_
   refine Run.exit rfl (Run.seq (Run.region ?_))
   refine Run.enter wantS_none (ex_call rfl zcb zcr) Tryz.func269 rfl rfl ?_
   refine Run.seq (Run.region ?_)
   refine av rfl rfl ?_
   refine Run.opsEnd (Run.seq (Run.region ?_))
   refine mv rfl rfl <| Run.enter wantS_none (ex_call rfl z7h z6y) Tryz.func208 rfl rfl ?_
   refine Run.seq (Run.region ?_)
   refine mv rfl rfl <| og (ex_nilP rfl) rfl <| og (ex_fieldAddr rfl z0d) rfl <| og (ex_load1 rfl (hH.cells (i := 0) rfl 0 rfl) rdLe_rfl z1v) rfl <| og (ex_ptrPN rfl rfl z7k) rfl <| Run.opsEnd <| Run.condF' rfl rfl ?_
   refine Run.seq (Run.region ?_)
   refine mv rfl rfl <| og (ex_nilP rfl) rfl <| og (ex_fieldAddr rfl z0d) rfl <| og (ex_load1 rfl (hH.cells (i := 0) rfl 0 rfl) rdLe_rfl z1v) rfl <| mv rfl rfl <| og (ex_ptrSamen rfl rfl z8o z8p) rfl <| Run.opsEnd <| Run.condF' rfl rfl <| Run.skip <| Run.fallTo Tryz.func208 rfl res_nil rfl ?_
   refine Run.opsEnd (Run.seq (Run.region ?_))
   refine mv rfl rfl <| mv rfl rfl <| og (ex_nilP rfl) rfl <| og (ex_fieldAddr rfl z08) rfl <| og (ex_load1 rfl (hH.cells (i := 0) rfl 1 rfl) rdLe_rfl z3x) rfl <| mv rfl rfl <| ox rfl (ExG.built (enc := z1n) (l := ([10] : List Int)) (z := 1) rfl zcf rfl rfl rfl z0f hH) ?_
   rintro b8 c9 (q : Has Fr c9 [.vec 5 1 ([10] : List Int).length b8 (([10] : List Int).flatMap z1n), .obj c (.row 228 .whole [(.ptr c 0), f]), .vec 5 1 a8.length f (a8.flatMap z1n), tb0, tb1, tb2])
   obtain ⟨b9, x, h⟩ := bnd_some h
   refine ox rfl (ExG.append rfl rfl q (i := 2) rfl z0f rfl z17 za7 rfl (len_slc (q.slc (i := 0) rfl z0f)) (first_slc (q.slc (i := 0) rfl z0f) (rdLe_rdRow _) z0f) x) ?_
   rintro b5 c2 (u : Has Fr c2 [.vec 5 1 ([10] : List Int).length b8 (([10] : List Int).flatMap z1n), .obj c (.row 228 .whole [(.ptr c 0), f]), .vec 5 1 b9.length b5 (b9.flatMap z1n), tb0, tb1, tb2])
   refine og (ex_nilP rfl) rfl <| og (ex_fieldAddr rfl z08) rfl <| ox rfl (ExG.storeC (c' := [(.ptr c 0), b5]) rfl rfl (cells_one (vec_one u (i := 2) rfl)) u (i := 1) rfl za9 rfl rfl rfl (ones_cons (vec_one u (i := 2) rfl) ones_nil) rfl) ?_
   rintro _ c3 ⟨rfl, (b : Has Fr c3 [.vec 5 1 ([10] : List Int).length b8 (([10] : List Int).flatMap z1n), .obj c (.row 228 .whole [(.ptr c 0), b5]), .vec 5 1 b9.length b5 (b9.flatMap z1n), tb0, tb1, tb2])⟩
   refine Run.opsEnd (Run.seq (Run.region ?_))
   refine av rfl rfl <| Run.opsEnd <| Run.retTo Tryz.func269 rfl (res_tmp rfl res_nil) rfl ?_
   refine Run.opsEnd (Run.seq (Run.region ?_))
   refine Run.enter wantS_none (ex_call rfl zcd zcq) Tryz.func156 rfl rfl ?_
   refine Run.seq (Run.region ?_)
   refine av rfl rfl ?_
   refine Run.opsEnd (Run.seq ?_)
   refine Run.drawG zad <| df rfl (ex_move rfl) rfl <| df rfl (ex_nilP rfl) rfl <| df rfl (ex_fieldAddr rfl z08) rfl <| df rfl (ex_load1 rfl (b.cells (i := 1) rfl 1 rfl) rdLe_rfl z3x) rfl ?_
   obtain ⟨d1, a2, h⟩ := bnd_some h
   obtain ⟨d5, a0, a3⟩ := vec_data (P := Tryz.prog) b (i := 2) rfl (neB_some a2)
   refine df rfl (a3 _ _ _ _ rfl) rfl <| df rfl (ex_move rfl) rfl <| df rfl (ex_nilP rfl) rfl <| df rfl (ex_fieldAddr rfl z08) rfl <| df rfl (ex_load1 rfl (b.cells (i := 1) rfl 1 rfl) rdLe_rfl z3x) rfl <| df rfl (ex_len' rfl (b.slc (i := 2) rfl z0f) zas) rfl ?_
   obtain ⟨d3, a4, h⟩ := bnd_some h
   refine DrawG.opX rfl wantS_none rfl (ExG.uString (enc := z1n) (fun _ => rfl) rfl rfl b (i := 2) rfl a0 zct zhr a4) ?_
   rintro _ c1 ⟨rfl, (a7 : Has Fr c1 [.vec 5 1 ([10] : List Int).length b8 (([10] : List Int).flatMap z1n), .obj c (.row 228 .whole [(.ptr c 0), b5]), .vec 0 0 0 .nils [], tb0, tb1, tb2])⟩
   refine ⟨st_nil, ?_⟩
   refine df rfl (ex_assign rfl) rfl <| DrawG.sync <| DrawG.nil <| Run.retTo Tryz.func156 rfl (res_tmp rfl res_nil) rfl <| av rfl rfl <| Run.opsEnd ?_
   cases h
   exact Run.ret Tryz.func207 rfl (res_tmp rfl res_nil) rfl

def alert_line (F : Nat) (a0 : List UInt8) (a1 : List Int) : Option ((List UInt8)) :=
 bnd (apd 1 ([] : List Int) (bytesI a0)) fun a =>
 alert_line_1 F F a1 (a1.length : Int) (0 : Int) a

theorem z0t (F : Nat) (a0 : List UInt8) (a1 : List Int) (s0 : SV) (r : List UInt8) (M : Mem) (q : Slc (rd M) 1 (FlatR enc3) s0 a1) (hfx : FixIn M fixes) (h : alert_line F a0 a1 = some r) : CallsM Tryz.prog 207 [(.str a0), s0] M (fun s M' => s = (.str r) ∧ M' = M) := by
 refine CallsM.plain Tryz.func207 rfl rfl rfl (show Run _ _ _ (z6o r) _ _ _ from ?_)
 rw [alert_line] at h
 replace q := q.mono (rdLe_frozen M) (fun _ _ h => h)
 have hH : Has (ro (frozen M)) (frozen M) [tb0, tb1, tb2] := Has.ofFix hfx.frozen
 refine Run.seq (Run.region ?_)
 refine av rfl rfl ?_
 refine Run.opsEnd (Run.seq (Run.region ?_))
 refine ox rfl (ExG.new (v := fun b => .ptr b 0) (ex_alloc zce) hH) ?_
 rintro _ y ⟨c, rfl, a⟩
 refine Run.opsEnd (Run.seq (Run.region ?_))
 refine mv rfl rfl <| Run.enter wantS_none (ex_call rfl z8u z8h) Tryz.func155 rfl rfl ?_
 refine Run.seq (Run.region ?_)
 refine av rfl rfl <| av rfl rfl ?_
 refine Run.opsEnd (Run.seq (Run.region ?_))
 refine mv rfl rfl <| Run.enter wantS_none (ex_call rfl z7h z6y) Tryz.func208 rfl rfl ?_
 refine Run.seq (Run.region ?_)
 refine mv rfl rfl <| og (ex_nilP rfl) rfl <| og (ex_fieldAddr rfl z0d) rfl <| og (ex_load1 rfl (a.cells (i := 0) rfl 0 rfl) rdLe_rfl z1v) rfl <| og (ex_ptrNN rfl rfl z7k) rfl <| Run.opsEnd <| Run.condT' rfl rfl <| Run.region <| mv rfl rfl <| mv rfl rfl <| og (ex_toU rfl zar rfl a (i := 0) rfl rfl) rfl <| og (ex_noEsc rfl zcp zby zck) rfl <| og (ex_backU rfl zaq a (i := 0) rfl rfl zci) rfl <| og (ex_nilP rfl) rfl <| og (ex_fieldAddr rfl z0d) rfl <| ox rfl (ExG.storeC (c' := [(.ptr c 0), .nils]) rfl rfl rfl a (i := 0) rfl zfc rfl rfl rfl rfl rfl) ?_
 rintro _ u ⟨rfl, (e : Has (ro (frozen M)) u [.obj c (.row 228 .whole [(.ptr c 0), .nils]), tb0, tb1, tb2])⟩
 refine Run.opsEnd <| Run.fallTo Tryz.func208 rfl res_nil rfl ?_
 refine Run.opsEnd (Run.seq (Run.region ?_))
 refine mv rfl rfl <| mv rfl rfl <| og (ex_nilP rfl) rfl <| og (ex_fieldAddr rfl z08) rfl <| og (ex_load1 rfl (e.cells (i := 0) rfl 1 rfl) rdLe_rfl z3x) rfl <| mv rfl rfl ?_
 obtain ⟨f, g, h⟩ := bnd_some h
 have m : Has (ro (frozen M)) u [.vec 5 1 ([] : List Int).length .nils (([] : List Int).flatMap z1n), .obj c (.row 228 .whole [(.ptr c 0), .nils]), tb0, tb1, tb2] := e.nils 5 1
 refine ox rfl (ExG.append rfl rfl m (i := 0) rfl z0f rfl z17 z2h rfl (str_lenZ rfl _) (str_first (fun _ => rfl) _) g) ?_
 rintro p w (d : Has (ro (frozen M)) w [.vec 5 1 f.length p (f.flatMap z1n), .obj c (.row 228 .whole [(.ptr c 0), .nils]), tb0, tb1, tb2])
 refine og (ex_nilP rfl) rfl <| og (ex_fieldAddr rfl z08) rfl <| ox rfl (ExG.storeC (c' := [(.ptr c 0), p]) rfl rfl (cells_one (vec_one d (i := 0) rfl)) d (i := 1) rfl za9 rfl rfl rfl (ones_cons (vec_one d (i := 0) rfl) ones_nil) rfl) ?_
 rintro _ x ⟨rfl, (n : Has (ro (frozen M)) x [.vec 5 1 f.length p (f.flatMap z1n), .obj c (.row 228 .whole [(.ptr c 0), p]), tb0, tb1, tb2])⟩
 refine Run.opsEnd (Run.seq (Run.region ?_))
 refine mv rfl rfl <| og (ex_lenS rfl z87) rfl <| av rfl rfl <| av rfl rfl <| Run.opsEnd <| Run.retTo Tryz.func155 rfl (res_tmp rfl (res_tmp rfl res_nil)) rfl ?_
 refine Run.opsEnd (Run.seq (Run.seq (Run.region ?_)))
 refine mv rfl rfl <| og (ex_len' rfl q z8t) rfl <| mv rfl rfl ?_
 refine Run.opsEnd (Run.block (Run.loop ?_))
 exact Run.pick [5, 10, 11, 12] (zak F F a1 (a1.length : Int) (0 : Int) f s0 c p _ _ _ q (n.pick [1, 0, 2, 3, 4] rfl rfl) h)

theorem z9o : makeK Tryz.prog 207 = none := by kernel_rfl
theorem z9p : callable Tryz.prog 207 = true := by kernel_rfl
abbrev z6q (r : List UInt8) : SV → Mem → Prop := fun s _ => s = (.str r)

def alert_sheet_head (F : Nat) (a0 : S_api_Alert) : Option ((List UInt8)) :=
 bnd (sCat [97, 108, 101, 114, 116, 32] a0.Event) fun b =>
 bnd (alert_line F b ([a0.Version] : List Int)) fun a =>
 some a

theorem z83 (F : Nat) (a0 : S_api_Alert) (s0 : SV) (r : List UInt8) (M : Mem) (f : Slc (rd M) 1 (FlatR enc3) s0 a0.Cells) (hfx : FixIn M fixes) (h : alert_sheet_head F a0 = some r) : CallsM Tryz.prog 148 [(.agg (r0 a0 s0))] M (fun s M' => s = (.str r) ∧ M' = M) := by
 refine CallsM.plain Tryz.func148 rfl rfl rfl (show Run _ _ _ (z6q r) _ _ _ from ?_)
 rw [alert_sheet_head] at h
 replace f := f.mono (rdLe_frozen M) (fun _ _ h => h)
 have hH : Has (ro (frozen M)) (frozen M) [tb0, tb1, tb2] := Has.ofFix hfx.frozen
 refine Run.seq (Run.region ?_)
 refine ox rfl (ExG.box rfl rfl hH) ?_
 rintro _ u ⟨g, rfl, a⟩
 refine av rfl rfl ?_
 refine Run.opsEnd (Run.seq (Run.region ?_))
 refine og (ex_fieldAddr rfl zca) rfl <| og (ex_load1 rfl (a.cells (i := 0) rfl 0 rfl) rdLe_rfl zam) rfl ?_
 obtain ⟨m, d, h⟩ := bnd_some h
 refine og (ex_cat rfl rfl d) rfl <| og (ex_fieldAddr rfl zc7) rfl <| og (ex_load1 rfl (a.cells (i := 0) rfl 1 rfl) rdLe_rfl z0c) rfl <| ox rfl (ExG.built (enc := enc3) (l := ([a0.Version] : List Int)) (z := 1) rfl zbo rfl rfl rfl z0i a) ?_
 rintro c p (b : Has (ro (frozen M)) p [.vec 3 1 ([a0.Version] : List Int).length c (([a0.Version] : List Int).flatMap enc3), .obj g (.row 223 .whole (r0 a0 s0)), tb0, tb1, tb2])
 obtain ⟨q, e, h⟩ := bnd_some h
 refine Run.callP wantS_none (ex_call rfl z9o z9p) rfl (z0t F m ([a0.Version] : List Int) c _ _ (b.slc (i := 0) rfl z0i) (zal b (List.mem_of_getElem? (i := 2) rfl) (List.mem_of_getElem? (i := 3) rfl) (List.mem_of_getElem? (i := 4) rfl)) e) <| av rfl rfl <| Run.opsEnd ?_
 cases h
 exact Run.ret Tryz.func148 rfl (res_tmp rfl res_nil) rfl

theorem zdn : makeK Tryz.prog 149 = none := by kernel_rfl
theorem zfp : callable Tryz.prog 149 = true := by kernel_rfl
theorem zc6 : fieldOff Tryz.prog 223 2 = some 2 := by kernel_rfl
abbrev z75 (r : List UInt8) : SV → Mem → Prop := fun s _ => s = (.str r)

def alert_sheet_time (F : Nat) (a0 : S_api_Alert) : Option ((List UInt8)) :=
 bnd (alert_line F [116, 105, 109, 101] ([a0.Time] : List Int)) fun a =>
 some a

theorem z84 (F : Nat) (a0 : S_api_Alert) (s0 : SV) (r : List UInt8) (M : Mem) (e : Slc (rd M) 1 (FlatR enc3) s0 a0.Cells) (hfx : FixIn M fixes) (h : alert_sheet_time F a0 = some r) : CallsM Tryz.prog 149 [(.agg (r0 a0 s0))] M (fun s M' => s = (.str r) ∧ M' = M) := by
 refine CallsM.plain Tryz.func149 rfl rfl rfl (show Run _ _ _ (z75 r) _ _ _ from ?_)
 rw [alert_sheet_time] at h
 replace e := e.mono (rdLe_frozen M) (fun _ _ h => h)
 have hH : Has (ro (frozen M)) (frozen M) [tb0, tb1, tb2] := Has.ofFix hfx.frozen
 refine Run.seq (Run.region ?_)
 refine ox rfl (ExG.box rfl rfl hH) ?_
 rintro _ m ⟨f, rfl, b⟩
 refine av rfl rfl ?_
 refine Run.opsEnd (Run.seq (Run.region ?_))
 refine og (ex_fieldAddr rfl zc6) rfl <| og (ex_load1 rfl (b.cells (i := 0) rfl 2 rfl) rdLe_rfl z0c) rfl <| ox rfl (ExG.built (enc := enc3) (l := ([a0.Time] : List Int)) (z := 1) rfl zbo rfl rfl rfl z0i b) ?_
 rintro c g (a : Has (ro (frozen M)) g [.vec 3 1 ([a0.Time] : List Int).length c (([a0.Time] : List Int).flatMap enc3), .obj f (.row 223 .whole (r0 a0 s0)), tb0, tb1, tb2])
 obtain ⟨p, d, h⟩ := bnd_some h
 refine Run.callP wantS_none (ex_call rfl z9o z9p) rfl (z0t F [116, 105, 109, 101] ([a0.Time] : List Int) c _ _ (a.slc (i := 0) rfl z0i) (zal a (List.mem_of_getElem? (i := 2) rfl) (List.mem_of_getElem? (i := 3) rfl) (List.mem_of_getElem? (i := 4) rfl)) d) <| av rfl rfl <| Run.opsEnd ?_
 cases h
 exact Run.ret Tryz.func149 rfl (res_tmp rfl res_nil) rfl

theorem zdt : makeK Tryz.prog 150 = none := by kernel_rfl
theorem zf9 : callable Tryz.prog 150 = true := by kernel_rfl
theorem zbl : fieldOff Tryz.prog 223 3 = some 3 := by kernel_rfl
abbrev z5m (r : List UInt8) : SV → Mem → Prop := fun s _ => s = (.str r)

def alert_sheet_chance (F : Nat) (a0 : S_api_Alert) : Option ((List UInt8)) :=
 bnd (alert_line F [99, 104, 97, 110, 99, 101] ([a0.Chance.N, a0.Chance.Of] : List Int)) fun a =>
 some a

theorem z6p (F : Nat) (a0 : S_api_Alert) (s0 : SV) (r : List UInt8) (M : Mem) (e : Slc (rd M) 1 (FlatR enc3) s0 a0.Cells) (hfx : FixIn M fixes) (h : alert_sheet_chance F a0 = some r) : CallsM Tryz.prog 150 [(.agg (r0 a0 s0))] M (fun s M' => s = (.str r) ∧ M' = M) := by
 refine CallsM.plain Tryz.func150 rfl rfl rfl (show Run _ _ _ (z5m r) _ _ _ from ?_)
 rw [alert_sheet_chance] at h
 replace e := e.mono (rdLe_frozen M) (fun _ _ h => h)
 have hH : Has (ro (frozen M)) (frozen M) [tb0, tb1, tb2] := Has.ofFix hfx.frozen
 refine Run.seq (Run.region ?_)
 refine ox rfl (ExG.box rfl rfl hH) ?_
 rintro _ m ⟨f, rfl, a⟩
 refine av rfl rfl ?_
 refine Run.opsEnd (Run.seq (Run.region ?_))
 refine og (ex_fieldAddr rfl zbl) rfl <| og (ex_fieldAddr rfl z91) rfl <| og (ex_load1 rfl (a.cells (i := 0) rfl 3 rfl) rdLe_rfl z0c) rfl <| og (ex_fieldAddr rfl zbl) rfl <| og (ex_fieldAddr rfl z5i) rfl <| og (ex_load1 rfl (a.cells (i := 0) rfl 4 rfl) rdLe_rfl z0c) rfl <| ox rfl (ExG.built (enc := enc3) (l := ([a0.Chance.N, a0.Chance.Of] : List Int)) (z := 1) rfl zbo rfl rfl rfl z0i a) ?_
 rintro c g (b : Has (ro (frozen M)) g [.vec 3 1 ([a0.Chance.N, a0.Chance.Of] : List Int).length c (([a0.Chance.N, a0.Chance.Of] : List Int).flatMap enc3), .obj f (.row 223 .whole (r0 a0 s0)), tb0, tb1, tb2])
 obtain ⟨p, d, h⟩ := bnd_some h
 refine Run.callP wantS_none (ex_call rfl z9o z9p) rfl (z0t F [99, 104, 97, 110, 99, 101] ([a0.Chance.N, a0.Chance.Of] : List Int) c _ _ (b.slc (i := 0) rfl z0i) (zal b (List.mem_of_getElem? (i := 2) rfl) (List.mem_of_getElem? (i := 3) rfl) (List.mem_of_getElem? (i := 4) rfl)) d) <| av rfl rfl <| Run.opsEnd ?_
 cases h
 exact Run.ret Tryz.func150 rfl (res_tmp rfl res_nil) rfl

theorem ze2 : makeK Tryz.prog 151 = none := by kernel_rfl
theorem ze4 : callable Tryz.prog 151 = true := by kernel_rfl
theorem zc8 : fieldOff Tryz.prog 223 4 = some 5 := by kernel_rfl
abbrev z7c (r : List UInt8) : SV → Mem → Prop := fun s _ => s = (.str r)

def alert_sheet_grid (F : Nat) (a0 : S_api_Alert) : Option ((List UInt8)) :=
 bnd (alert_line F [103, 114, 105, 100] ([a0.Grid] : List Int)) fun a =>
 some a

theorem z8b (F : Nat) (a0 : S_api_Alert) (s0 : SV) (r : List UInt8) (M : Mem) (e : Slc (rd M) 1 (FlatR enc3) s0 a0.Cells) (hfx : FixIn M fixes) (h : alert_sheet_grid F a0 = some r) : CallsM Tryz.prog 151 [(.agg (r0 a0 s0))] M (fun s M' => s = (.str r) ∧ M' = M) := by
 refine CallsM.plain Tryz.func151 rfl rfl rfl (show Run _ _ _ (z7c r) _ _ _ from ?_)
 rw [alert_sheet_grid] at h
 replace e := e.mono (rdLe_frozen M) (fun _ _ h => h)
 have hH : Has (ro (frozen M)) (frozen M) [tb0, tb1, tb2] := Has.ofFix hfx.frozen
 refine Run.seq (Run.region ?_)
 refine ox rfl (ExG.box rfl rfl hH) ?_
 rintro _ m ⟨f, rfl, b⟩
 refine av rfl rfl ?_
 refine Run.opsEnd (Run.seq (Run.region ?_))
 refine og (ex_fieldAddr rfl zc8) rfl <| og (ex_load1 rfl (b.cells (i := 0) rfl 5 rfl) rdLe_rfl z0c) rfl <| ox rfl (ExG.built (enc := enc3) (l := ([a0.Grid] : List Int)) (z := 1) rfl zbo rfl rfl rfl z0i b) ?_
 rintro c g (a : Has (ro (frozen M)) g [.vec 3 1 ([a0.Grid] : List Int).length c (([a0.Grid] : List Int).flatMap enc3), .obj f (.row 223 .whole (r0 a0 s0)), tb0, tb1, tb2])
 obtain ⟨p, d, h⟩ := bnd_some h
 refine Run.callP wantS_none (ex_call rfl z9o z9p) rfl (z0t F [103, 114, 105, 100] ([a0.Grid] : List Int) c _ _ (a.slc (i := 0) rfl z0i) (zal a (List.mem_of_getElem? (i := 2) rfl) (List.mem_of_getElem? (i := 3) rfl) (List.mem_of_getElem? (i := 4) rfl)) d) <| av rfl rfl <| Run.opsEnd ?_
 cases h
 exact Run.ret Tryz.func151 rfl (res_tmp rfl res_nil) rfl

theorem ze9 : makeK Tryz.prog 152 = none := by kernel_rfl
theorem zep : callable Tryz.prog 152 = true := by kernel_rfl
theorem zc3 : fieldOff Tryz.prog 223 6 = some 7 := by kernel_rfl
theorem zc2 : fieldOff Tryz.prog 223 5 = some 6 := by kernel_rfl
abbrev z6d (r : List UInt8) : SV → Mem → Prop := fun s _ => s = (.str r)

def alert_sheet_where (F : Nat) (a0 : S_api_Alert) : Option ((List UInt8)) :=
 bif a0.Withdrawn then
  bnd (alert_line F [119, 105, 116, 104, 100, 114, 97, 119, 110] []) fun a =>
  some a
 else
  bnd (alert_line F [99, 101, 108, 108, 115] a0.Cells) fun b =>
  some b

theorem z7p (F : Nat) (a0 : S_api_Alert) (s0 : SV) (r : List UInt8) (M : Mem) (c : Slc (rd M) 1 (FlatR enc3) s0 a0.Cells) (hfx : FixIn M fixes) (h : alert_sheet_where F a0 = some r) : CallsM Tryz.prog 152 [(.agg (r0 a0 s0))] M (fun s M' => s = (.str r) ∧ M' = M) := by
 refine CallsM.plain Tryz.func152 rfl rfl rfl (show Run _ _ _ (z6d r) _ _ _ from ?_)
 rw [alert_sheet_where] at h
 replace c := c.mono (rdLe_frozen M) (fun _ _ h => h)
 have hH : Has (ro (frozen M)) (frozen M) [tb0, tb1, tb2] := Has.ofFix hfx.frozen
 refine Run.seq (Run.region ?_)
 refine ox rfl (ExG.box rfl rfl hH) ?_
 rintro _ m ⟨g, rfl, a⟩
 refine av rfl rfl ?_
 refine Run.opsEnd (Run.seq (Run.seq (Run.region ?_)))
 refine og (ex_fieldAddr rfl zc3) rfl <| og (ex_load1 rfl (a.cells (i := 0) rfl 7 rfl) rdLe_rfl zc0) rfl <| Run.opsEnd ?_
 rcases btf (a0.Withdrawn) with b | b
 ·have h := bif_t b h
  refine Run.condT' rfl b ?_
  refine Run.seq (Run.region ?_)
  obtain ⟨f, e, h⟩ := bnd_some h
  refine Run.callP wantS_none (ex_call rfl z9o z9p) rfl (z0t F [119, 105, 116, 104, 100, 114, 97, 119, 110] [] .nils _ _ slc_nil (zal a (List.mem_of_getElem? (i := 1) rfl) (List.mem_of_getElem? (i := 2) rfl) (List.mem_of_getElem? (i := 3) rfl)) e) <| av rfl rfl <| Run.opsEnd ?_
  cases h
  exact Run.ret Tryz.func152 rfl (res_tmp rfl res_nil) rfl
 ·have h := bif_f b h
  refine Run.condF' rfl b ?_
  refine Run.skip (Run.seq (Run.region ?_))
  refine og (ex_fieldAddr rfl zc2) rfl <| og (ex_load1 rfl (a.cells (i := 0) rfl 6 rfl) rdLe_rfl z7y) rfl ?_
  obtain ⟨p, d, h⟩ := bnd_some h
  refine Run.callP wantS_none (ex_call rfl z9o z9p) rfl (z0t F [99, 101, 108, 108, 115] a0.Cells s0 _ _ (a.slcF c) (zal a (List.mem_of_getElem? (i := 1) rfl) (List.mem_of_getElem? (i := 2) rfl) (List.mem_of_getElem? (i := 3) rfl)) d) <| av rfl rfl <| Run.opsEnd ?_
  cases h
  exact Run.ret Tryz.func152 rfl (res_tmp rfl res_nil) rfl

theorem zfg : makeK Tryz.prog 153 = none := by kernel_rfl
theorem zeg : callable Tryz.prog 153 = true := by kernel_rfl
theorem zc1 : fieldOff Tryz.prog 223 7 = some 8 := by kernel_rfl
abbrev z5t (r : List UInt8) : SV → Mem → Prop := fun s _ => s = (.str r)

def alert_sheet_before (F : Nat) (a0 : S_api_Alert) : Option ((List UInt8)) :=
 bnd (alert_line F [98, 101, 102, 111, 114, 101] ([a0.Before] : List Int)) fun a =>
 some a

theorem z7f (F : Nat) (a0 : S_api_Alert) (s0 : SV) (r : List UInt8) (M : Mem) (e : Slc (rd M) 1 (FlatR enc3) s0 a0.Cells) (hfx : FixIn M fixes) (h : alert_sheet_before F a0 = some r) : CallsM Tryz.prog 153 [(.agg (r0 a0 s0))] M (fun s M' => s = (.str r) ∧ M' = M) := by
 refine CallsM.plain Tryz.func153 rfl rfl rfl (show Run _ _ _ (z5t r) _ _ _ from ?_)
 rw [alert_sheet_before] at h
 replace e := e.mono (rdLe_frozen M) (fun _ _ h => h)
 have hH : Has (ro (frozen M)) (frozen M) [tb0, tb1, tb2] := Has.ofFix hfx.frozen
 refine Run.seq (Run.region ?_)
 refine ox rfl (ExG.box rfl rfl hH) ?_
 rintro _ m ⟨f, rfl, b⟩
 refine av rfl rfl ?_
 refine Run.opsEnd (Run.seq (Run.region ?_))
 refine og (ex_fieldAddr rfl zc1) rfl <| og (ex_load1 rfl (b.cells (i := 0) rfl 8 rfl) rdLe_rfl z0c) rfl <| ox rfl (ExG.built (enc := enc3) (l := ([a0.Before] : List Int)) (z := 1) rfl zbo rfl rfl rfl z0i b) ?_
 rintro c g (a : Has (ro (frozen M)) g [.vec 3 1 ([a0.Before] : List Int).length c (([a0.Before] : List Int).flatMap enc3), .obj f (.row 223 .whole (r0 a0 s0)), tb0, tb1, tb2])
 obtain ⟨p, d, h⟩ := bnd_some h
 refine Run.callP wantS_none (ex_call rfl z9o z9p) rfl (z0t F [98, 101, 102, 111, 114, 101] ([a0.Before] : List Int) c _ _ (a.slc (i := 0) rfl z0i) (zal a (List.mem_of_getElem? (i := 2) rfl) (List.mem_of_getElem? (i := 3) rfl) (List.mem_of_getElem? (i := 4) rfl)) d) <| av rfl rfl <| Run.opsEnd ?_
 cases h
 exact Run.ret Tryz.func153 rfl (res_tmp rfl res_nil) rfl

theorem zee : makeK Tryz.prog 154 = none := by kernel_rfl
theorem ze6 : callable Tryz.prog 154 = true := by kernel_rfl
abbrev z7m (r : List UInt8) : SV → Mem → Prop := fun s _ => s = (.str r)

def alert_sheet_end (F : Nat) (a0 : S_api_Alert) : Option ((List UInt8)) :=
 bnd (alert_line F [101, 110, 100] []) fun a =>
 some a

theorem z8v (F : Nat) (a0 : S_api_Alert) (s0 : SV) (r : List UInt8) (M : Mem) (c : Slc (rd M) 1 (FlatR enc3) s0 a0.Cells) (hfx : FixIn M fixes) (h : alert_sheet_end F a0 = some r) : CallsM Tryz.prog 154 [(.agg (r0 a0 s0))] M (fun s M' => s = (.str r) ∧ M' = M) := by
 refine CallsM.plain Tryz.func154 rfl rfl rfl (show Run _ _ _ (z7m r) _ _ _ from ?_)
 rw [alert_sheet_end] at h
 replace c := c.mono (rdLe_frozen M) (fun _ _ h => h)
 have hH : Has (ro (frozen M)) (frozen M) [tb0, tb1, tb2] := Has.ofFix hfx.frozen
 refine Run.seq (Run.region ?_)
 refine ox rfl (ExG.box rfl rfl hH) ?_
 rintro _ f ⟨d, rfl, b⟩
 refine av rfl rfl ?_
 refine Run.opsEnd (Run.seq (Run.region ?_))
 obtain ⟨e, a, h⟩ := bnd_some h
 refine Run.callP wantS_none (ex_call rfl z9o z9p) rfl (z0t F [101, 110, 100] [] .nils _ _ slc_nil (zal b (List.mem_of_getElem? (i := 1) rfl) (List.mem_of_getElem? (i := 2) rfl) (List.mem_of_getElem? (i := 3) rfl)) a) <| av rfl rfl <| Run.opsEnd ?_
 cases h
 exact Run.ret Tryz.func154 rfl (res_tmp rfl res_nil) rfl

end Go.Ev.AlertBoards
