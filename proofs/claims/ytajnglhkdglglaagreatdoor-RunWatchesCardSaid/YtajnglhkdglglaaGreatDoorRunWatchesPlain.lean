/- Plain functions that say what functions of the program come to, and proofs of it, written by a program of the verifier's own. -/
import Derived.Test.YtajnglhkdglglaaGreatDoorSort
import Derived.Test.YtajnglhkdglglaaGreatDoorEvL21
import Derived.Test.YtajnglhkdglglaaGreatDoorWorks
import Derived.KernelRfl
namespace Go.Ev.RunWatches
open Go Go.Ev Go.Proofs
set_option maxRecDepth 100000
set_option linter.unusedVariables false
/-- The listed tables. -/
noncomputable def fixes : List (Nat × List SV) := Go.Proofs.YtajnglhkdglglaaGreatDoor.works.fixes
noncomputable def tb0 : Ent := fixE (5, Qo .u8 [0, 1, 28, 2, 29, 14, 24, 3, 30, 22, 20, 15, 25, 17, 4, 8, 31, 27, 13, 23, 21, 19, 16, 7, 26, 12, 18, 6, 11, 5, 10, 9])
noncomputable def tb1 : Ent := fixE (6, Qo .u8 [0, 1, 56, 2, 57, 49, 28, 3, 61, 58, 42, 50, 38, 29, 17, 4, 62, 47, 59, 36, 45, 43, 51, 22, 53, 39, 33, 30, 24, 18, 12, 5, 63, 55, 48, 27, 60, 41, 37, 16, 46, 35, 44, 21, 52, 32, 23, 11, 54, 26, 40, 15, 34, 20, 31, 10, 25, 14, 19, 9, 13, 8, 7, 6])
noncomputable def tb2 : Ent := fixE (3, Qo .u64 [1, 10, 100, 1000, 10000, 100000, 1000000, 10000000, 100000000, 1000000000, 10000000000, 100000000000, 1000000000000, 10000000000000, 100000000000000, 1000000000000000, 10000000000000000, 100000000000000000, 1000000000000000000, 10000000000000000000])
noncomputable def tb3 : Ent := fixE (0, Qo .i64 [0, 12, 25, 37, 49, 60, 71, 81, 90, 98, 106, 112, 117, 122, 125, 126, 127])
/-- works() comes to true. -/
def works (_ : Nat) : Option Bool := some true
theorem zdb {Fr : Rd} {H : List Ent} {M : Mem} (hH : Has Fr M H) (a : tb0 ∈ H) (b : tb1 ∈ H) (c : tb2 ∈ H) (d : tb3 ∈ H) : FixIn M fixes := by
  refine hH.fixIn fun x hx => ?_
  simp only [fixes, Go.Proofs.YtajnglhkdglglaaGreatDoor.works.fixes, List.mem_cons, List.not_mem_nil, or_false] at hx
  rcases hx with rfl | rfl | rfl | rfl
  · exact a
  · exact b
  · exact c
  · exact d
theorem z9a (F : Nat) (r : Bool) {Fr : Rd} {H : List Ent} (M : Mem) (hH : Has Fr M H) (a : tb0 ∈ H) (b : tb1 ∈ H) (c : tb2 ∈ H) (d : tb3 ∈ H) (h : works F = some r) : CallsM Tryz.prog 9 [] M fun s M' => s = .bool r ∧ M' = M := by
  cases h
  refine CallsM.closedFix (n := 600) (l := Go.Proofs.YtajnglhkdglglaaGreatDoor.works.fixes) Go.Proofs.YtajnglhkdglglaaGreatDoor.works.below Go.Proofs.YtajnglhkdglglaaGreatDoor.works.plainF Go.Proofs.YtajnglhkdglglaaGreatDoor.works.works_true (hH.fixIn fun x hx => ?_)
  simp only [Go.Proofs.YtajnglhkdglglaaGreatDoor.works.fixes, List.mem_cons, List.not_mem_nil, or_false] at hx
  rcases hx with rfl | rfl | rfl | rfl
  · exact a
  · exact b
  · exact c
  · exact d
structure T1 where
  Who : (List UInt8)
  From : Int
  To : Int
structure T0 where
  From : Int
  To : Int
instance : Inhabited T0 := ⟨(T0.mk (0 : Int) (0 : Int))⟩
structure T2 where
  Name : (List UInt8)
  Segments : (List T0)
structure Tx where
  e0 : (List T2)
  e1 : (List T2)
structure Qn where
  e0 : (List Int)
  e1 : (List Int)
structure Th where
  Duties : (List T1)
  Work : (List T0)
  Vetoes : Tx
  Data : Qn
structure Qp where
  Time : Int
  Detector : Int
  Length : Int
section
variable {P : Program} {fx : Fx} {n : Nat} {Q : SV → Mem → Prop} {e : Env} {k : List SItem} {M : Mem} {all : Array Oper} {i : Nat} {op : Op} {ty : TypeId} {pos : String} {af : Array Edge} {d : Option Tmp} {s : SV} {L : List Nat} {r : List PE} {q : List Oper} {x : Operand} {j : Nat} {w : Bool} {t : Tmp} {c : Bool} {R : SV → Mem → Prop}
theorem og (hx : Qy P M (treeOf e) op = .val s M) (hd : okD d n = true) (next : Run P fx n Q (Zz d s e) (.ops all q :: k) M) : Run P fx n Q e (.ops all (⟨d, op, ty, pos, af, none⟩ :: q) :: k) M := Run.opG T7 hx hd next
theorem mv (h : ar e x = some s) (hd : okD d n = true) (next : Run P fx n Q (Zz d s e) (.ops all q :: k) M) : Run P fx n Q e (.ops all (⟨d, .move x, ty, pos, af, none⟩ :: q) :: k) M := Run.opG T7 (Tk h) hd next
theorem av (h : ar e x = some s) (hd : okD d n = true) (next : Run P fx n Q (Zz d s e) (.ops all q :: k) M) : Run P fx n Q e (.ops all (⟨d, .assign x, ty, pos, af, none⟩ :: q) :: k) M := Run.opG T7 (G8 h) hd next
theorem ox (hd : okD d n = true) (hx : ExG P M e op R) (next : ∀ v M', R v M' → Run P fx n Q (Zz d v e) (.ops all q :: k) M') : Run P fx n Q e (.ops all (⟨d, op, ty, pos, af, none⟩ :: q) :: k) M := Run.opX T7 hd hx next
theorem gy (h : (all[j]?).bind (·.dst) = some t) (hb : lk t e = some (.bool c)) (hc : c = w) (hx : Qy P M (treeOf e) op = .val s M) (hd : okD d n = true) (next : Run P fx n Q (Zz d s e) (.ops all q :: k) M) : Run P fx n Q e (.ops all (⟨d, op, ty, pos, af, some (j, w)⟩ :: q) :: k) M := Run.opG (Kp h hb hc) hx hd next
theorem gn (h : (all[j]?).bind (·.dst) = some t) (hb : lk t e = some (.bool c)) (hc : c = !w) (hd : okD d n = true) (next : Run P fx n Q (Zz d (.tuple []) e) (.ops all q :: k) M) : Run P fx n Q e (.ops all (⟨d, op, ty, pos, af, some (j, w)⟩ :: q) :: k) M := Run.no (Z7 h hb hc) hd next
theorem df (ho : all[i]? = some ⟨d, op, ty, pos, af, none⟩) (hx : Qy P M (treeOf e) op = .val s M) (hd : okD d n = true) (h : DrawG P fx n Q all k r (Zz d s e) M) : DrawG P fx n Q all k (.fl i :: r) e M := DrawG.fl ho (Yy T7 hx) hd h
theorem dy (ho : all[i]? = some ⟨d, op, ty, pos, af, some (j, w)⟩) (a : (all[j]?).bind (·.dst) = some t) (hb : lk t e = some (.bool c)) (hc : c = w) (hx : Qy P M (treeOf e) op = .val s M) (hd : okD d n = true) (h : DrawG P fx n Q all k r (Zz d s e) M) : DrawG P fx n Q all k (.fl i :: r) e M := DrawG.fl ho (Yy (Kp a hb hc) hx) hd h
theorem dn (ho : all[i]? = some ⟨d, op, ty, pos, af, some (j, w)⟩) (a : (all[j]?).bind (·.dst) = some t) (hb : lk t e = some (.bool c)) (hc : c = !w) (hd : okD d n = true) (h : DrawG P fx n Q all k r (Zz d (.tuple []) e) M) : DrawG P fx n Q all k (.fl i :: r) e M := DrawG.fl ho (Jq (Z7 a hb hc)) hd h
end
def Q9 (a : T1) : List SV := [(.str a.Who), (.int .i64 a.From), (.int .i64 a.To)]
def Tg (a : T0) : List SV := [(.int .i64 a.From), (.int .i64 a.To)]
theorem z08 (a : T0) : (Tg a).length = 2 := rfl
theorem z6p (a : T0) : Zn (Tg a) = true := rfl
def Tf (f : Rd) (cs : List SV) (a : T2) : Prop := ∃ q1, cs = [(.str a.Name), q1] ∧ Slc f 2 (Ta Tg) q1 a.Segments
theorem z00 {f g : Rd} (h : Vt f g) {cs : List SV} {a : T2} : Tf f cs a → Tf g cs a := by
 rintro ⟨c, rfl, b⟩
 exact ⟨c, rfl, b.mono h (fun _ _ h => h)⟩
def Qd (a : Int) : List SV := [(.int .i64 a)]
theorem z17 (a : Int) : (Qd a).length = 1 := rfl
theorem z7y (a : Int) : Zn (Qd a) = true := rfl
theorem z1c : Jw Tryz.prog 38 = some (some 6) := by kernel_rfl
theorem z8p : Jy Tryz.prog 46 0 = some 0 := by kernel_rfl
theorem z10 : Jw Tryz.prog 3 = some none := by kernel_rfl
theorem z8n : J8 Tryz.prog 35 = none := by kernel_rfl
theorem z8i : Ts Tryz.prog 35 = true := by kernel_rfl
theorem z71 : Xd Tryz.prog 85 = some [.nils, .nils, .nils, .nils, .nils, .nils] := by kernel_rfl
theorem z1r : Jy Tryz.prog 38 0 = some 0 := by kernel_rfl
theorem z3q : Jw Tryz.prog 32 = some none := by kernel_rfl
theorem z2a : Jy Tryz.prog 38 1 = some 1 := by kernel_rfl
theorem z2w : Jw Tryz.prog 33 = some none := by kernel_rfl
theorem z2t : Jy Tryz.prog 38 2 = some 2 := by kernel_rfl
theorem z8b : Jw Tryz.prog 35 = some (some 2) := by kernel_rfl
theorem z19 : Jy Tryz.prog 38 3 = some 4 := by kernel_rfl
theorem z8c : Jw Tryz.prog 36 = some (some 2) := by kernel_rfl
theorem z8u : Zm Tryz.prog 85 = some (.st [(0, 1), (1, 1), (2, 2), (4, 2)]) := by kernel_rfl
theorem z9r : Zx Tryz.prog 85 = some 6 := by kernel_rfl
theorem z4r : Jw Tryz.prog 85 = some (some 6) := by kernel_rfl
structure Tz where
 duties : (List T1)
 work : (List T0)
 vetoes : Tx
 data : Qn
theorem z8t : Jy Tryz.prog 85 3 = some 4 := by kernel_rfl
theorem z4s : Zf Tryz.prog 36 = some (.arr 2 1) := by kernel_rfl
theorem z4q : Jw Tryz.prog 24 = some none := by kernel_rfl
theorem z1u : Vr Tryz.prog 24 = some .sl := by kernel_rfl
abbrev z4j (r : Bool) : SV → Mem → Prop := fun s _ => s = (.bool r)
def Yd (F : Nat) (a : Bool) : Option Bool :=
 some a
theorem z4i (F : Nat) : ∀ (a : Bool) (Fr : Rd) (M : Mem) (r : Bool) (hH : Has Fr M []), Yd F a = some r → Run Tryz.prog ⟨⟨27, [], none⟩, []⟩ 15 (z4j r) [(14, (.bool a))] [Tu Tryz.prog 27 [1, 0] 8, T6 Tryz.prog 27 [1, 1]] M := by
 intro a Fr M r hH h
 rw [Yd] at h
 refine av rfl rfl <| Run.Wd ?_
 cases h
 exact Run.ret Tryz.func27 rfl (Tc rfl Te) rfl
def Gh (F : Nat) (b a c : Int) : Option Bool :=
 bif (decide (b ≤ a)) then
  Yd F (decide (a ≤ c))
 else
  Yd F false
theorem z12 (F : Nat) (c a d : Int) (r : Bool) (M : Mem) (h : Gh F c a d = some r) : CallsM Tryz.prog 27 [(.int .i64 c), (.int .i64 a), (.int .i64 d)] M (fun s M' => s = (.bool r) ∧ M' = M) := by
 refine CallsM.plain Tryz.func27 rfl rfl rfl (show Run _ _ _ (z4j r) _ _ _ from ?_)
 rw [Gh] at h
 have hH := Has.nil (frozen M)
 refine Run.seq (Run.region ?_)
 refine av rfl rfl ?_
 refine Run.Wd (Run.seq (Run.region ?_))
 refine mv rfl rfl <| mv rfl rfl <| og (Xy rfl rfl) rfl <| mv rfl rfl ?_
 rcases btf ((decide (c ≤ a))) with b | b
 ·have h := Tm b h
  refine gy rfl rfl b (Tk rfl) rfl <| gy rfl rfl b (Tk rfl) rfl <| gy rfl rfl b (Xy rfl rfl) rfl <| og (Tr rfl b rfl rfl) rfl ?_
  exact Run.pick [14] (z4i F (decide (a ≤ d)) _ _ _ hH h)
 ·have h := Tn b h
  refine gn rfl rfl b rfl <| gn rfl rfl b rfl <| gn rfl rfl b rfl <| og (Tt rfl b rfl rfl) rfl ?_
  exact Run.pick [14] (z4i F false _ _ _ hH h)
theorem z8e : J8 Tryz.prog 27 = none := by kernel_rfl
theorem z8d : Ts Tryz.prog 27 = true := by kernel_rfl
theorem zam : J8 Tryz.prog 131 = none := by kernel_rfl
theorem z9y : Ts Tryz.prog 131 = true := by kernel_rfl
theorem zap : J8 Tryz.prog 173 = none := by kernel_rfl
theorem za1 : Ts Tryz.prog 173 = true := by kernel_rfl
theorem z8k : Zf Tryz.prog 24 = some (.sl 1) := by kernel_rfl
theorem zal : J8 Tryz.prog 130 = none := by kernel_rfl
theorem z9x : Ts Tryz.prog 130 = true := by kernel_rfl
abbrev z4h (r : Bool) : SV → Mem → Prop := fun s _ => s = (.bool r)
def Ge (F : Nat) (b : Int) : Option Bool :=
 bnd (Gh F ((-4096) : Int) b (4096 : Int)) fun a =>
 some (!a)
theorem z4x (F : Nat) (c : Int) (r : Bool) (M : Mem) (h : Ge F c = some r) : CallsM Tryz.prog 130 [(.int .i64 c)] M (fun s M' => s = (.bool r) ∧ M' = M) := by
 refine CallsM.plain Tryz.func130 rfl rfl rfl (show Run _ _ _ (z4h r) _ _ _ from ?_)
 rw [Ge] at h
 have hH := Has.nil (frozen M)
 refine Run.seq (Run.region ?_)
 refine av rfl rfl ?_
 refine Run.Wd (Run.seq (Run.region ?_))
 refine mv rfl rfl ?_
 obtain ⟨a, b, h⟩ := T8 h
 refine Run.callP T7 (Tl rfl z8e z8d) rfl (z12 F ((-4096) : Int) c (4096 : Int) _ _ b) <| og (Jh rfl) rfl <| av rfl rfl <| Run.Wd ?_
 cases h
 exact Run.ret Tryz.func130 rfl (Tc rfl Te) rfl
abbrev z2r (r : Bool) : SV → Mem → Prop := fun s _ => s = (.bool r)
def J4 (F : Nat) : Nat → List Int → Int → Int → Option Bool
 | 0, _, _, _ => none
 | N + 1, d, e, c =>
  bif (decide (c < e)) then
   bnd (idx d c) fun b =>
   bnd (Ge F b) fun a =>
   bif a then
    some (!(decide ((0 : Int) ≤ c)))
   else
    (J4 F N) d e (w64 (c + 1))
  else
   some (!(decide ((0 : Int) ≤ ((-1) : Int))))
theorem z5o (F : Nat) : ∀ (N : Nat), ∀ (x : List Int) (u w : Int) (a : SV) (Fr : Rd) (M : Mem) (r : Bool) (c : Slc Fr 1 (Ta Qd) a x) (hH : Has Fr M []), J4 F N x u w = some r → Run Tryz.prog ⟨⟨173, [], none⟩, [.mk ⟨131, [], none⟩ 9 (treeOf []) [Tu Tryz.prog 131 [1, 0] 2, T6 Tryz.prog 131 [1, 1]], .mk ⟨93, [], none⟩ 8 (treeOf []) [Tu Tryz.prog 93 [1, 1, 0] 2, T6 Tryz.prog 93 [1, 1, 1]]]⟩ 19 (z2r r) [(0, a), (1, (.fn (.func 130) [] [])), (7, (.int .i64 u)), (8, (.int .i64 w))] [T6 Tryz.prog 173 [1, 0, 1, 0, 0], Tv Tryz.prog 173 [1, 0, 1, 0, 0], .inBlock 0, T6 Tryz.prog 173 [1, 1]] M := by
 intro N
 induction N with
 | zero =>
  intro x u w a Fr M r c hH h
  simp [J4] at h
 | succ N ih =>
  intro x u w a Fr M r c hH h
  rw [J4] at h
  refine Run.seq (Run.region ?_)
  refine og (Qz rfl rfl) rfl ?_
  refine Run.Wd (Run.seq ?_)
  rcases btf ((decide (w < u))) with b | b
  ·have h := Tm b h
   refine Run.Wf rfl b ?_
   refine Run.skip (Run.seq (Run.block (Run.seq (Run.region ?_))))
   refine mv rfl rfl <| av rfl rfl ?_
   refine Run.Wd (Run.seq (Run.region ?_))
   refine mv rfl rfl <| mv rfl rfl <| mv rfl rfl ?_
   obtain ⟨p, e, h⟩ := T8 h
   obtain ⟨s, q, _, e, f, rfl⟩ := Jc (P := Tryz.prog) (t := 24) (kk := .i64) c e z8k
   refine og (Q6 rfl rfl e) rfl <| og (Tb rfl (hH.ptrF f) T5 z10) rfl ?_
   obtain ⟨m, g, h⟩ := T8 h
   refine Run.callP T7 (Y4 rfl rfl zal z9x) rfl (z4x F p _ _ g) <| Run.Wd ?_
   rcases btf (m) with d | d
   ·have h := Tm d h
    refine Run.Wf rfl d ?_
    refine Run.seq (Run.region ?_)
    refine mv rfl rfl <| av rfl rfl <| Run.Wd <| Run.Wi Tryz.func173 rfl (Tc rfl Te) rfl <| og (Z5 rfl rfl) rfl <| av rfl rfl <| Run.Wd <| Run.Wi Tryz.func131 rfl (Tc rfl Te) rfl <| og (Jh rfl) rfl <| av rfl rfl <| Run.Wd ?_
    cases h
    exact Run.ret Tryz.func93 rfl (Tc rfl Te) rfl
   ·have h := Tn d h
    refine Run.We rfl d ?_
    refine Run.skip (Run.inBlock (Run.region ?_))
    refine og (Qq rfl rfl) rfl <| mv rfl rfl ?_
    refine Run.Wd (Run.inLoop ?_)
    exact Run.low (.cons (Jf [] rfl) (.cons (Jf [] rfl) .nil)) (Run.pick [0, 1, 7, 8] (ih x u (w64 (w + 1)) a _ _ _ c hH h))
  ·have h := Tn b h
   refine Run.We rfl b ?_
   refine Run.exit rfl (Run.seq (Run.region ?_))
   refine av rfl rfl <| Run.Wd <| Run.Wi Tryz.func173 rfl (Tc rfl Te) rfl <| og (Z5 rfl rfl) rfl <| av rfl rfl <| Run.Wd <| Run.Wi Tryz.func131 rfl (Tc rfl Te) rfl <| og (Jh rfl) rfl <| av rfl rfl <| Run.Wd ?_
   cases h
   exact Run.ret Tryz.func93 rfl (Tc rfl Te) rfl
def Gp (F : Nat) (a : List Int) : Option Bool :=
 J4 F F a (a.length : Int) (0 : Int)
theorem z3p (F : Nat) (b : List Int) (c : SV) (r : Bool) (M : Mem) (a : Slc (rd M) 1 (Ta Qd) c b) (h : Gp F b = some r) : CallsM Tryz.prog 93 [c] M (fun s M' => s = (.bool r) ∧ M' = M) := by
 refine CallsM.plain Tryz.func93 rfl rfl rfl (show Run _ _ _ (z2r r) _ _ _ from ?_)
 rw [Gp] at h
 replace a := a.mono (T3 M) (fun _ _ h => h)
 have hH := Has.nil (frozen M)
 refine Run.seq (Run.region ?_)
 refine av rfl rfl ?_
 refine Run.Wd (Run.seq (Run.region ?_))
 refine av rfl rfl ?_
 refine Run.Wd (Run.seq (Run.region ?_))
 refine mv rfl rfl <| mv rfl rfl <| Run.enter T7 (Tl rfl zam z9y) Tryz.func131 rfl rfl ?_
 refine Run.seq (Run.region ?_)
 refine av rfl rfl ?_
 refine Run.Wd (Run.seq (Run.region ?_))
 refine mv rfl rfl <| mv rfl rfl <| Run.enter T7 (Tl rfl zap za1) Tryz.func173 rfl rfl ?_
 refine Run.seq (Run.region ?_)
 refine av rfl rfl ?_
 refine Run.Wd (Run.seq (Run.seq (Run.region ?_)))
 refine mv rfl rfl <| og (Q3 rfl a z1u) rfl <| mv rfl rfl ?_
 refine Run.Wd (Run.block (Run.loop ?_))
 exact Run.low (.cons (Jf [] rfl) (.cons (Jf [] rfl) .nil)) (Run.pick [0, 1, 7, 8] (z5o F F b (b.length : Int) (0 : Int) c _ _ _ a hH h))
theorem zax : J8 Tryz.prog 93 = none := by kernel_rfl
theorem za9 : Ts Tryz.prog 93 = true := by kernel_rfl
abbrev z0r (r : Bool) : SV → Mem → Prop := fun s _ => s = (.bool r)
def Kq (F : Nat) (a : Bool) : Option Bool :=
 some a
theorem z2e (F : Nat) : ∀ (a : Bool) (Fr : Rd) (M : Mem) (r : Bool) (hH : Has Fr M []), Kq F a = some r → Run Tryz.prog ⟨⟨60, [], none⟩, []⟩ 26 (z0r r) [(25, (.bool a))] [Tu Tryz.prog 60 [1, 1, 0] 19, T6 Tryz.prog 60 [1, 1, 1]] M := by
 intro a Fr M r hH h
 rw [Kq] at h
 refine av rfl rfl <| Run.Wd ?_
 cases h
 exact Run.ret Tryz.func60 rfl (Tc rfl Te) rfl
def Ko (F : Nat) (c : Bool) (d b : List Int) : Option Bool :=
 bif c then
  bnd (Gp F b) fun a =>
  Kq F a
 else
  Kq F false
theorem z2d (F : Nat) : ∀ (a : Bool) (g e : List Int) (f d : SV) (c : Pos) (Fr : Rd) (M : Mem) (r : Bool) (n : Slc Fr 1 (Ta Qd) f g) (m : Slc Fr 1 (Ta Qd) d e) (hH : Has Fr M [.obj c (.row 36 .whole [f, d])]), Ko F a g e = some r → Run Tryz.prog ⟨⟨60, [], none⟩, []⟩ 26 (z0r r) [(1, (.ptr c 0)), (20, (.bool a))] [Tu Tryz.prog 60 [1, 1, 0] 14, T6 Tryz.prog 60 [1, 1, 1]] M := by
 intro a g e f d c Fr M r n m hH h
 rw [Ko] at h
 refine mv rfl rfl ?_
 rcases btf (a) with b | b
 ·have h := Tm b h
  refine gy rfl rfl b (Q6 rfl rfl (Qr (j := 1) rfl z4s)) rfl <| gy rfl rfl b (Tb rfl (hH.cells (i := 0) rfl 1 rfl) T5 z4q) rfl ?_
  obtain ⟨q, p, h⟩ := T8 h
  refine Run.callP (Kp rfl rfl b) (Tl rfl zax za9) rfl (z3p F e d _ _ (hH.slcF m) p) <| og (Tr rfl b rfl rfl) rfl ?_
  exact Run.pick [25] (z2e F q _ _ _ (hH.pick [] rfl rfl) h)
 ·have h := Tn b h
  refine gn rfl rfl b rfl <| gn rfl rfl b rfl <| gn rfl rfl b rfl <| og (Tt rfl b rfl rfl) rfl ?_
  exact Run.pick [25] (z2e F false _ _ _ (hH.pick [] rfl rfl) h)
def Ks (F : Nat) (c : Bool) (b d : List Int) : Option Bool :=
 bif c then
  bnd (Gp F b) fun a =>
  Ko F a b d
 else
  Ko F false b d
theorem z2c (F : Nat) : ∀ (c : Bool) (f g : List Int) (d e : SV) (a : Pos) (Fr : Rd) (M : Mem) (r : Bool) (m : Slc Fr 1 (Ta Qd) d f) (n : Slc Fr 1 (Ta Qd) e g) (hH : Has Fr M [.obj a (.row 36 .whole [d, e])]), Ks F c f g = some r → Run Tryz.prog ⟨⟨60, [], none⟩, []⟩ 26 (z0r r) [(1, (.ptr a 0)), (15, (.bool c))] [Tu Tryz.prog 60 [1, 1, 0] 9, T6 Tryz.prog 60 [1, 1, 1]] M := by
 intro c f g d e a Fr M r m n hH h
 rw [Ks] at h
 refine mv rfl rfl ?_
 rcases btf (c) with b | b
 ·have h := Tm b h
  refine gy rfl rfl b (Q6 rfl rfl (Qr (j := 0) rfl z4s)) rfl <| gy rfl rfl b (Tb rfl (hH.cells (i := 0) rfl 0 rfl) T5 z4q) rfl ?_
  obtain ⟨q, p, h⟩ := T8 h
  refine Run.callP (Kp rfl rfl b) (Tl rfl zax za9) rfl (z3p F f d _ _ (hH.slcF m) p) <| og (Tr rfl b rfl rfl) rfl ?_
  exact Run.pick [1, 20] (z2d F q f g d e a _ _ _ m n hH h)
 ·have h := Tn b h
  refine gn rfl rfl b rfl <| gn rfl rfl b rfl <| gn rfl rfl b rfl <| og (Tt rfl b rfl rfl) rfl ?_
  exact Run.pick [1, 20] (z2d F false f g d e a _ _ _ m n hH h)
def G5 (F : Nat) (b : Qn) : Option Bool :=
 bnd (Gh F (1 : Int) (b.e0.length : Int) (512 : Int)) fun a =>
 bif a then
  Ks F ((b.e1.length : Int) == (b.e0.length : Int)) b.e0 b.e1
 else
  Ks F false b.e0 b.e1
theorem z60 (F : Nat) (p : Qn) (q u : SV) (r : Bool) (M : Mem) (a : Slc (rd M) 1 (Ta Qd) q p.e0) (c : Slc (rd M) 1 (Ta Qd) u p.e1) (h : G5 F p = some r) : CallsM Tryz.prog 60 [(.agg [q, u])] M (fun s M' => s = (.bool r) ∧ M' = M) := by
 refine CallsM.plain Tryz.func60 rfl rfl rfl (show Run _ _ _ (z0r r) _ _ _ from ?_)
 rw [G5] at h
 replace a := a.mono (T3 M) (fun _ _ h => h)
 replace c := c.mono (T3 M) (fun _ _ h => h)
 have hH := Has.nil (frozen M)
 refine Run.seq (Run.region ?_)
 refine ox rfl (ExG.box rfl rfl hH) ?_
 rintro _ m ⟨f, rfl, d⟩
 refine av rfl rfl ?_
 refine Run.Wd (Run.seq (Run.region ?_))
 refine og (Q6 rfl rfl (Qr (j := 0) rfl z4s)) rfl <| og (Tb rfl (d.cells (i := 0) rfl 0 rfl) T5 z4q) rfl <| og (Q3 rfl a z1u) rfl <| av rfl rfl ?_
 refine Run.Wd (Run.seq (Run.region ?_))
 refine mv rfl rfl ?_
 obtain ⟨g, e, h⟩ := T8 h
 refine Run.callP T7 (Tl rfl z8e z8d) rfl (z12 F (1 : Int) (p.e0.length : Int) (512 : Int) _ _ e) <| mv rfl rfl ?_
 rcases btf (g) with b | b
 ·have h := Tm b h
  refine gy rfl rfl b (Q6 rfl rfl (Qr (j := 1) rfl z4s)) rfl <| gy rfl rfl b (Tb rfl (d.cells (i := 0) rfl 1 rfl) T5 z4q) rfl <| gy rfl rfl b (Q3 rfl c z1u) rfl <| gy rfl rfl b (Tk rfl) rfl <| gy rfl rfl b (ex_eql rfl rfl) rfl <| og (Tr rfl b rfl rfl) rfl ?_
  exact Run.pick [1, 15] (z2c F ((p.e1.length : Int) == (p.e0.length : Int)) p.e0 p.e1 q u f _ _ _ a c d h)
 ·have h := Tn b h
  refine gn rfl rfl b rfl <| gn rfl rfl b rfl <| gn rfl rfl b rfl <| gn rfl rfl b rfl <| gn rfl rfl b rfl <| og (Tt rfl b rfl rfl) rfl ?_
  exact Run.pick [1, 15] (z2c F false p.e0 p.e1 q u f _ _ _ a c d h)
theorem zci : J8 Tryz.prog 60 = none := by kernel_rfl
theorem zbi : Ts Tryz.prog 60 = true := by kernel_rfl
theorem z5v : Jy Tryz.prog 85 0 = some 0 := by kernel_rfl
abbrev z5p (r : Int) : SV → Mem → Prop := fun s _ => s = (.int .i64 r)
def Jb (F : Nat) (a : Tz) : Option Int :=
 some (a.data.e0.length : Int)
theorem z0v (F : Nat) (q : Tz) (u w x y z s5 : SV) (r : Int) (M : Mem) (c : Slc (rd M) 3 (Ta Q9) u q.duties) (d : Slc (rd M) 2 (Ta Tg) w q.work) (e : Slc (rd M) 2 (Tf (rd M)) x q.vetoes.e0) (f : Slc (rd M) 2 (Tf (rd M)) y q.vetoes.e1) (a : Slc (rd M) 1 (Ta Qd) z q.data.e0) (g : Slc (rd M) 1 (Ta Qd) s5 q.data.e1) (h : Jb F q = some r) : CallsM Tryz.prog 37 [(.agg [u, w, x, y, z, s5])] M (fun s M' => s = (.int .i64 r) ∧ M' = M) := by
 refine CallsM.plain Tryz.func37 rfl rfl rfl (show Run _ _ _ (z5p r) _ _ _ from ?_)
 rw [Jb] at h
 replace c := c.mono (T3 M) (fun _ _ h => h)
 replace d := d.mono (T3 M) (fun _ _ h => h)
 replace e := e.mono (T3 M) (fun _ _ => z00 (T3 M))
 replace f := f.mono (T3 M) (fun _ _ => z00 (T3 M))
 replace a := a.mono (T3 M) (fun _ _ h => h)
 replace g := g.mono (T3 M) (fun _ _ h => h)
 have hH := Has.nil (frozen M)
 refine Run.seq (Run.region ?_)
 refine ox rfl (ExG.box rfl rfl hH) ?_
 rintro _ m ⟨p, rfl, b⟩
 refine av rfl rfl ?_
 refine Run.Wd (Run.seq (Run.region ?_))
 refine og (T4 rfl z8t) rfl <| og (Q6 rfl rfl (Qr (j := 0) rfl z4s)) rfl <| og (Tb rfl (b.cells (i := 0) rfl 4 rfl) T5 z4q) rfl <| og (Q3 rfl a z1u) rfl <| av rfl rfl <| Run.Wd ?_
 cases h
 exact Run.ret Tryz.func37 rfl (Tc rfl Te) rfl
theorem z8o : J8 Tryz.prog 37 = none := by kernel_rfl
theorem z8j : Ts Tryz.prog 37 = true := by kernel_rfl
theorem z7i : Vr Tryz.prog 32 = some .sl := by kernel_rfl
theorem z9p : Xd Tryz.prog 43 = some [(.str []), (.int .i64 0), (.int .i64 0)] := by kernel_rfl
theorem z7w : Zf Tryz.prog 32 = some (.sl 3) := by kernel_rfl
theorem z8g : Jw Tryz.prog 43 = some (some 3) := by kernel_rfl
theorem zd1 : Zx Tryz.prog 43 = some 3 := by kernel_rfl
theorem z44 : Jy Tryz.prog 43 0 = some 0 := by kernel_rfl
theorem z87 : Jw Tryz.prog 9 = some none := by kernel_rfl
theorem z8m : Vr Tryz.prog 9 = some .str := by kernel_rfl
theorem z99 : uvK Tryz.prog 9 160 = none := by kernel_rfl
theorem z91 : cvK Tryz.prog 9 160 = some (.bytes 5) := by kernel_rfl
def z89 (a : Int) : List SV := [(.int .u8 a)]
theorem z9m : Vr Tryz.prog 160 = some .sl := by kernel_rfl
theorem zaa : Zf Tryz.prog 160 = some (.sl 1) := by kernel_rfl
theorem zd5 : Jw Tryz.prog 5 = some none := by kernel_rfl
abbrev z02 (r : Bool) : SV → Mem → Prop := fun s _ => s = (.bool r)
def X9 (F : Nat) (a : (List Int) → Int → Int → Option Bool) (b : List Int) (c d : Int) (e : Bool) : Option Bool :=
 bif e then
  some false
 else
  a b c (w64 (d + 1))
theorem z29 (F : Nat) (p : (List Int) → Int → Int → Option Bool) (f : ∀ (a : List Int) (c g : Int) (b : SV) (Fr : Rd) (M : Mem) (r : Bool) (e : Slc Fr 1 (Ta z89) b a) (hH : Has Fr M []), p a c g = some r → Run Tryz.prog ⟨⟨70, [], none⟩, []⟩ 50 (z02 r) [(16, b), (17, (.int .i64 c)), (18, (.int .i64 g))] [T6 Tryz.prog 70 [1, 1, 0, 1, 0, 0], Tv Tryz.prog 70 [1, 1, 0, 1, 0, 0], .inBlock 0, T6 Tryz.prog 70 [1, 1, 1]] M) : ∀ (a : List Int) (c g : Int) (m : Bool) (b : SV) (Fr : Rd) (M : Mem) (r : Bool) (e : Slc Fr 1 (Ta z89) b a) (hH : Has Fr M []), X9 F p a c g m = some r → Run Tryz.prog ⟨⟨70, [], none⟩, []⟩ 50 (z02 r) [(16, b), (17, (.int .i64 c)), (18, (.int .i64 g)), (48, (.bool m))] [T6 Tryz.prog 70 [1, 1, 0, 1, 0, 0, 1, 1, 0, 0, 1, 1, 1, 1], .inBlock 1, T6 Tryz.prog 70 [1, 1, 0, 1, 0, 0, 1, 1, 1], Tv Tryz.prog 70 [1, 1, 0, 1, 0, 0], .inBlock 0, T6 Tryz.prog 70 [1, 1, 1]] M := by
 intro a c g m b Fr M r e hH h
 rw [X9] at h
 rcases btf (m) with d | d
 ·have h := Tm d h
  refine Run.Wf rfl d ?_
  refine Run.seq (Run.region ?_)
  refine av rfl rfl <| Run.Wd ?_
  cases h
  exact Run.ret Tryz.func70 rfl (Tc rfl Te) rfl
 ·have h := Tn d h
  refine Run.We rfl d ?_
  refine Run.skip (Run.inBlock (Run.region ?_))
  refine og (Qq rfl rfl) rfl <| mv rfl rfl ?_
  refine Run.Wd (Run.inLoop ?_)
  exact Run.pick [16, 17, 18] (f a c (w64 (g + 1)) b _ _ _ e hH h)
def Yg (F : Nat) (a : (List Int) → Int → Int → Option Bool) (b : List Int) (c d : Int) (e f : Bool) : Option Bool :=
 bif e then
  X9 F a b c d (!f)
 else
  X9 F a b c d false
theorem z43 (F : Nat) (m : (List Int) → Int → Int → Option Bool) (f : ∀ (a : List Int) (c g : Int) (b : SV) (Fr : Rd) (M : Mem) (r : Bool) (e : Slc Fr 1 (Ta z89) b a) (hH : Has Fr M []), m a c g = some r → Run Tryz.prog ⟨⟨70, [], none⟩, []⟩ 50 (z02 r) [(16, b), (17, (.int .i64 c)), (18, (.int .i64 g))] [T6 Tryz.prog 70 [1, 1, 0, 1, 0, 0], Tv Tryz.prog 70 [1, 1, 0, 1, 0, 0], .inBlock 0, T6 Tryz.prog 70 [1, 1, 1]] M) : ∀ (a : List Int) (c g : Int) (p q : Bool) (b : SV) (Fr : Rd) (M : Mem) (r : Bool) (e : Slc Fr 1 (Ta z89) b a) (hH : Has Fr M []), Yg F m a c g p q = some r → Run Tryz.prog ⟨⟨70, [], none⟩, []⟩ 50 (z02 r) [(16, b), (17, (.int .i64 c)), (18, (.int .i64 g)), (41, (.bool p)), (46, (.bool q))] [Tu Tryz.prog 70 [1, 1, 0, 1, 0, 0, 1, 1, 0, 0, 1, 1, 1, 0] 8, T6 Tryz.prog 70 [1, 1, 0, 1, 0, 0, 1, 1, 0, 0, 1, 1, 1, 1], .inBlock 1, T6 Tryz.prog 70 [1, 1, 0, 1, 0, 0, 1, 1, 1], Tv Tryz.prog 70 [1, 1, 0, 1, 0, 0], .inBlock 0, T6 Tryz.prog 70 [1, 1, 1]] M := by
 intro a c g p q b Fr M r e hH h
 rw [Yg] at h
 rcases btf (p) with d | d
 ·have h := Tm d h
  refine gy rfl rfl d (Jh rfl) rfl <| og (Tr rfl d rfl rfl) rfl <| Run.Wd ?_
  exact Run.pick [16, 17, 18, 48] (z29 F m f a c g (!q) b _ _ _ e hH h)
 ·have h := Tn d h
  refine gn rfl rfl d rfl <| og (Tt rfl d rfl rfl) rfl <| Run.Wd ?_
  exact Run.pick [16, 17, 18, 48] (z29 F m f a c g false b _ _ _ e hH h)
def Z0 (F : Nat) (a : (List Int) → Int → Int → Option Bool) (b : List Int) (c d : Int) (e : Bool) : Option Bool :=
 bif e then
  none
 else
  X9 F a b c d false
theorem z6r (F : Nat) (p : (List Int) → Int → Int → Option Bool) (f : ∀ (a : List Int) (c g : Int) (b : SV) (Fr : Rd) (M : Mem) (r : Bool) (e : Slc Fr 1 (Ta z89) b a) (hH : Has Fr M []), p a c g = some r → Run Tryz.prog ⟨⟨70, [], none⟩, []⟩ 50 (z02 r) [(16, b), (17, (.int .i64 c)), (18, (.int .i64 g))] [T6 Tryz.prog 70 [1, 1, 0, 1, 0, 0], Tv Tryz.prog 70 [1, 1, 0, 1, 0, 0], .inBlock 0, T6 Tryz.prog 70 [1, 1, 1]] M) : ∀ (a : List Int) (c g : Int) (m : Bool) (b : SV) (Fr : Rd) (M : Mem) (r : Bool) (e : Slc Fr 1 (Ta z89) b a) (hH : Has Fr M []), Z0 F p a c g m = some r → Run Tryz.prog ⟨⟨70, [], none⟩, []⟩ 50 (z02 r) [(16, b), (17, (.int .i64 c)), (18, (.int .i64 g)), (41, (.bool m)), (46, (.tuple []))] [Tu Tryz.prog 70 [1, 1, 0, 1, 0, 0, 1, 1, 0, 0, 1, 1, 1, 0] 8, T6 Tryz.prog 70 [1, 1, 0, 1, 0, 0, 1, 1, 0, 0, 1, 1, 1, 1], .inBlock 1, T6 Tryz.prog 70 [1, 1, 0, 1, 0, 0, 1, 1, 1], Tv Tryz.prog 70 [1, 1, 0, 1, 0, 0], .inBlock 0, T6 Tryz.prog 70 [1, 1, 1]] M := by
 intro a c g m b Fr M r e hH h
 rw [Z0] at h
 rcases btf (m) with d | d
 ·have h := Tm d h
  cases h
 ·have h := Tn d h
  refine gn rfl rfl d rfl <| og (Tt rfl d rfl rfl) rfl <| Run.Wd ?_
  exact Run.pick [16, 17, 18, 48] (z29 F p f a c g false b _ _ _ e hH h)
def Yf (F : Nat) (a : (List Int) → Int → Int → Option Bool) (g : Int) (f : Bool) (b : List Int) (c d : Int) (e : Bool) : Option Bool :=
 bif (!f) then
  bif e then
   Yg F a b c d (!f) (decide ((0 : Int) < g))
  else
   Yg F a b c d (!f) false
 else
  Z0 F a b c d (!f)
theorem z42 (F : Nat) (p : (List Int) → Int → Int → Option Bool) (g : ∀ (a : List Int) (c m : Int) (e : SV) (Fr : Rd) (M : Mem) (r : Bool) (f : Slc Fr 1 (Ta z89) e a) (hH : Has Fr M []), p a c m = some r → Run Tryz.prog ⟨⟨70, [], none⟩, []⟩ 50 (z02 r) [(16, e), (17, (.int .i64 c)), (18, (.int .i64 m))] [T6 Tryz.prog 70 [1, 1, 0, 1, 0, 0], Tv Tryz.prog 70 [1, 1, 0, 1, 0, 0], .inBlock 0, T6 Tryz.prog 70 [1, 1, 1]] M) : ∀ (u : Int) (s : Bool) (a : List Int) (c m : Int) (q : Bool) (e : SV) (Fr : Rd) (M : Mem) (r : Bool) (f : Slc Fr 1 (Ta z89) e a) (hH : Has Fr M []), Yf F p u s a c m q = some r → Run Tryz.prog ⟨⟨70, [], none⟩, []⟩ 50 (z02 r) [(3, (.int .i64 u)), (5, (.bool s)), (16, e), (17, (.int .i64 c)), (18, (.int .i64 m)), (38, (.bool q))] [Tu Tryz.prog 70 [1, 1, 0, 1, 0, 0, 1, 1, 0, 0, 1, 1, 0] 10, T6 Tryz.prog 70 [1, 1, 0, 1, 0, 0, 1, 1, 0, 0, 1, 1, 1], .inBlock 1, T6 Tryz.prog 70 [1, 1, 0, 1, 0, 0, 1, 1, 1], Tv Tryz.prog 70 [1, 1, 0, 1, 0, 0], .inBlock 0, T6 Tryz.prog 70 [1, 1, 1]] M := by
 intro u s a c m q e Fr M r f hH h
 rw [Yf] at h
 refine av rfl rfl ?_
 refine Run.Wd (Run.seq (Run.region ?_))
 refine mv rfl rfl <| og (Jh rfl) rfl <| mv rfl rfl ?_
 rcases btf ((!s)) with b | b
 ·have h := Tm b h
  refine gy rfl rfl b (Tk rfl) rfl <| gy rfl rfl b (Tk rfl) rfl ?_
  rcases btf (q) with d | d
  ·have h := Tm d h
   refine gy rfl rfl d (Tk rfl) rfl <| gy rfl rfl d (Xw rfl rfl) rfl <| gy rfl rfl b (Tr rfl d rfl rfl) rfl ?_
   exact Run.pick [16, 17, 18, 41, 46] (z43 F p g a c m (!s) (decide ((0 : Int) < u)) e _ _ _ f hH h)
  ·have h := Tn d h
   refine gn rfl rfl d rfl <| gn rfl rfl d rfl <| gy rfl rfl b (Tt rfl d rfl rfl) rfl ?_
   exact Run.pick [16, 17, 18, 41, 46] (z43 F p g a c m (!s) false e _ _ _ f hH h)
 ·have h := Tn b h
  refine gn rfl rfl b rfl <| gn rfl rfl b rfl <| Run.no (Ti rfl rfl) rfl <| Run.no (Ti rfl rfl) rfl <| gn rfl rfl b rfl ?_
  exact Run.pick [16, 17, 18, 41, 46] (z6r F p g a c m (!s) e _ _ _ f hH h)
def Ye (F : Nat) (a : (List Int) → Int → Int → Option Bool) (f m : Int) (g : Bool) (b : List Int) (c d : Int) (e : Bool) : Option Bool :=
 bif e then
  Yf F a f g b c d true
 else
  Yf F a f g b c d (m == (95 : Int))
theorem z41 (F : Nat) (m : (List Int) → Int → Int → Option Bool) (f : ∀ (a : List Int) (c g : Int) (d : SV) (Fr : Rd) (M : Mem) (r : Bool) (e : Slc Fr 1 (Ta z89) d a) (hH : Has Fr M []), m a c g = some r → Run Tryz.prog ⟨⟨70, [], none⟩, []⟩ 50 (z02 r) [(16, d), (17, (.int .i64 c)), (18, (.int .i64 g))] [T6 Tryz.prog 70 [1, 1, 0, 1, 0, 0], Tv Tryz.prog 70 [1, 1, 0, 1, 0, 0], .inBlock 0, T6 Tryz.prog 70 [1, 1, 1]] M) : ∀ (q u : Int) (s : Bool) (a : List Int) (c g : Int) (p : Bool) (d : SV) (Fr : Rd) (M : Mem) (r : Bool) (e : Slc Fr 1 (Ta z89) d a) (hH : Has Fr M []), Ye F m q u s a c g p = some r → Run Tryz.prog ⟨⟨70, [], none⟩, []⟩ 50 (z02 r) [(3, (.int .i64 q)), (4, (.int .u8 u)), (5, (.bool s)), (16, d), (17, (.int .i64 c)), (18, (.int .i64 g)), (34, (.bool p))] [Tu Tryz.prog 70 [1, 1, 0, 1, 0, 0, 1, 1, 0, 0, 1, 1, 0] 6, T6 Tryz.prog 70 [1, 1, 0, 1, 0, 0, 1, 1, 0, 0, 1, 1, 1], .inBlock 1, T6 Tryz.prog 70 [1, 1, 0, 1, 0, 0, 1, 1, 1], Tv Tryz.prog 70 [1, 1, 0, 1, 0, 0], .inBlock 0, T6 Tryz.prog 70 [1, 1, 1]] M := by
 intro q u s a c g p d Fr M r e hH h
 rw [Ye] at h
 refine mv rfl rfl ?_
 rcases btf (p) with b | b
 ·have h := Tm b h
  refine gn rfl rfl b rfl <| gn rfl rfl b rfl <| og (Tr rfl b rfl rfl) rfl ?_
  exact Run.pick [3, 5, 16, 17, 18, 38] (z42 F m f q s a c g true d _ _ _ e hH h)
 ·have h := Tn b h
  refine gy rfl rfl b (Tk rfl) rfl <| gy rfl rfl b (ex_eql rfl rfl) rfl <| og (Tt rfl b rfl rfl) rfl ?_
  exact Run.pick [3, 5, 16, 17, 18, 38] (z42 F m f q s a c g (u == (95 : Int)) d _ _ _ e hH h)
def Xc (F : Nat) (a : (List Int) → Int → Int → Option Bool) (g f : Int) (b : List Int) (c d : Int) (e : Bool) : Option Bool :=
 bif (decide ((48 : Int) ≤ f)) then
  Ye F a g f e b c d (decide (f ≤ (57 : Int)))
 else
  Ye F a g f e b c d false
theorem z40 (F : Nat) (m : (List Int) → Int → Int → Option Bool) (e : ∀ (a : List Int) (c f : Int) (b : SV) (Fr : Rd) (M : Mem) (r : Bool) (d : Slc Fr 1 (Ta z89) b a) (hH : Has Fr M []), m a c f = some r → Run Tryz.prog ⟨⟨70, [], none⟩, []⟩ 50 (z02 r) [(16, b), (17, (.int .i64 c)), (18, (.int .i64 f))] [T6 Tryz.prog 70 [1, 1, 0, 1, 0, 0], Tv Tryz.prog 70 [1, 1, 0, 1, 0, 0], .inBlock 0, T6 Tryz.prog 70 [1, 1, 1]] M) : ∀ (q p : Int) (a : List Int) (c f : Int) (g : Bool) (b : SV) (Fr : Rd) (M : Mem) (r : Bool) (d : Slc Fr 1 (Ta z89) b a) (hH : Has Fr M []), Xc F m q p a c f g = some r → Run Tryz.prog ⟨⟨70, [], none⟩, []⟩ 50 (z02 r) [(3, (.int .i64 q)), (4, (.int .u8 p)), (16, b), (17, (.int .i64 c)), (18, (.int .i64 f)), (28, (.bool g))] [Tu Tryz.prog 70 [1, 1, 0, 1, 0, 0, 1, 1, 0, 0, 1, 0] 6, T6 Tryz.prog 70 [1, 1, 0, 1, 0, 0, 1, 1, 0, 0, 1, 1], .inBlock 1, T6 Tryz.prog 70 [1, 1, 0, 1, 0, 0, 1, 1, 1], Tv Tryz.prog 70 [1, 1, 0, 1, 0, 0], .inBlock 0, T6 Tryz.prog 70 [1, 1, 1]] M := by
 intro q p a c f g b Fr M r d hH h
 rw [Xc] at h
 refine av rfl rfl ?_
 refine Run.Wd (Run.seq (Run.region ?_))
 refine mv rfl rfl <| og (Z5 rfl rfl) rfl <| mv rfl rfl ?_
 rcases btf ((decide ((48 : Int) ≤ p))) with hc32 | hc32
 ·have h := Tm hc32 h
  refine gy rfl rfl hc32 (Tk rfl) rfl <| gy rfl rfl hc32 (Xy rfl rfl) rfl <| og (Tr rfl hc32 rfl rfl) rfl ?_
  exact Run.pick [3, 4, 5, 16, 17, 18, 34] (z41 F m e q p g a c f (decide (p ≤ (57 : Int))) b _ _ _ d hH h)
 ·have h := Tn hc32 h
  refine gn rfl rfl hc32 rfl <| gn rfl rfl hc32 rfl <| og (Tt rfl hc32 rfl rfl) rfl ?_
  exact Run.pick [3, 4, 5, 16, 17, 18, 34] (z41 F m e q p g a c f false b _ _ _ d hH h)
def Ka (F : Nat) : Nat → List Int → Int → Int → Option Bool
 | 0, _, _, _ => none
 | N + 1, c, d, a =>
  bif (decide (a < d)) then
   bnd (idx c a) fun b =>
   bif (decide ((97 : Int) ≤ b)) then
    Xc F (Ka F N) a b c d a (decide (b ≤ (122 : Int)))
   else
    Xc F (Ka F N) a b c d a false
  else
   some true
theorem z6q (F : Nat) : ∀ (N : Nat), ∀ (m : List Int) (c a : Int) (b : SV) (Fr : Rd) (M : Mem) (r : Bool) (e : Slc Fr 1 (Ta z89) b m) (hH : Has Fr M []), Ka F N m c a = some r → Run Tryz.prog ⟨⟨70, [], none⟩, []⟩ 50 (z02 r) [(16, b), (17, (.int .i64 c)), (18, (.int .i64 a))] [T6 Tryz.prog 70 [1, 1, 0, 1, 0, 0], Tv Tryz.prog 70 [1, 1, 0, 1, 0, 0], .inBlock 0, T6 Tryz.prog 70 [1, 1, 1]] M := by
 intro N
 induction N with
 | zero =>
  intro m c a b Fr M r e hH h
  simp [Ka] at h
 | succ N ih =>
  intro m c a b Fr M r e hH h
  rw [Ka] at h
  refine Run.seq (Run.region ?_)
  refine og (Qz rfl rfl) rfl ?_
  refine Run.Wd (Run.seq ?_)
  rcases btf ((decide (a < c))) with d | d
  ·have h := Tm d h
   refine Run.Wf rfl d ?_
   refine Run.skip (Run.seq (Run.block (Run.seq (Run.region ?_))))
   refine mv rfl rfl ?_
   obtain ⟨p, f, h⟩ := T8 h
   obtain ⟨s, q, _, f, g, rfl⟩ := Jc (P := Tryz.prog) (t := 160) (kk := .i64) e f zaa
   refine og (Q6 rfl rfl f) rfl <| og (Tb rfl (hH.ptrF g) T5 zd5) rfl <| av rfl rfl <| av rfl rfl ?_
   refine Run.Wd (Run.seq (Run.region ?_))
   refine mv rfl rfl <| og (Z5 rfl rfl) rfl <| mv rfl rfl ?_
   rcases btf ((decide ((97 : Int) ≤ p))) with hc31 | hc31
   ·have h := Tm hc31 h
    refine gy rfl rfl hc31 (Tk rfl) rfl <| gy rfl rfl hc31 (Xy rfl rfl) rfl <| og (Tr rfl hc31 rfl rfl) rfl ?_
    exact Run.pick [3, 4, 16, 17, 18, 28] (z40 F (Ka F N) ih a p m c a (decide (p ≤ (122 : Int))) b _ _ _ e hH h)
   ·have h := Tn hc31 h
    refine gn rfl rfl hc31 rfl <| gn rfl rfl hc31 rfl <| og (Tt rfl hc31 rfl rfl) rfl ?_
    exact Run.pick [3, 4, 16, 17, 18, 28] (z40 F (Ka F N) ih a p m c a false b _ _ _ e hH h)
  ·have h := Tn d h
   refine Run.We rfl d ?_
   refine Run.exit rfl (Run.seq (Run.region ?_))
   refine av rfl rfl <| Run.Wd ?_
   cases h
   exact Run.ret Tryz.func70 rfl (Tc rfl Te) rfl
def Y9 (F : Nat) (c : List UInt8) (b : Bool) : Option Bool :=
 bif b then
  some false
 else
  bnd (byt c) fun a =>
  Ka F F a (a.length : Int) (0 : Int)
theorem z3z (F : Nat) : ∀ (u : List UInt8) (a : Bool) (Fr : Rd) (M : Mem) (r : Bool) (hH : Has Fr M []), Y9 F u a = some r → Run Tryz.prog ⟨⟨70, [], none⟩, []⟩ 50 (z02 r) [(0, (.str u)), (14, (.bool a))] [T6 Tryz.prog 70 [1, 0, 1], T6 Tryz.prog 70 [1, 1]] M := by
 intro u a Fr M r hH h
 rw [Y9] at h
 rcases btf (a) with b | b
 ·have h := Tm b h
  refine Run.Wf rfl b ?_
  refine Run.seq (Run.region ?_)
  refine av rfl rfl <| Run.Wd ?_
  cases h
  exact Run.ret Tryz.func70 rfl (Tc rfl Te) rfl
 ·have h := Tn b h
  refine Run.We rfl b ?_
  refine Run.skip (Run.seq (Run.seq (Run.region ?_)))
  refine mv rfl rfl ?_
  obtain ⟨c, d, h⟩ := T8 h
  refine ox rfl (ExG.bytes rfl z99 z91 d hH) ?_
  rintro _ s ⟨q, rfl, e⟩
  refine Run.freezeB (t := 16) (i := 0) (enc := z89) (fun _ => rfl) d rfl e rfl ?_
  intro m p g (f : Has m p [.vec 0 0 0 .nils []]) hf26
  refine og (Q3 rfl hf26 z9m) rfl <| mv rfl rfl ?_
  refine Run.Wd (Run.block (Run.loop ?_))
  exact Run.pick [16, 17, 18] (z6q F F c (c.length : Int) (0 : Int) (.ope q 0 c.length 1) _ _ _ hf26 (f.pick [] rfl rfl) h)
def Yr (F : Nat) (a : List UInt8) : Option Bool :=
 bif ((a.length : Int) == (0 : Int)) then
  Y9 F a true
 else
  Y9 F a (decide ((16 : Int) < (a.length : Int)))
theorem z5d (F : Nat) (a : List UInt8) (r : Bool) (M : Mem) (h : Yr F a = some r) : CallsM Tryz.prog 70 [(.str a)] M (fun s M' => s = (.bool r) ∧ M' = M) := by
 refine CallsM.plain Tryz.func70 rfl rfl rfl (show Run _ _ _ (z02 r) _ _ _ from ?_)
 rw [Yr] at h
 have hH := Has.nil (frozen M)
 refine Run.seq (Run.region ?_)
 refine av rfl rfl ?_
 refine Run.Wd (Run.seq (Run.seq (Run.region ?_)))
 refine mv rfl rfl <| og (Vk rfl z8m) rfl <| og (ex_eql rfl rfl) rfl <| mv rfl rfl ?_
 rcases btf (((a.length : Int) == (0 : Int))) with hc21 | hc21
 ·have h := Tm hc21 h
  refine gn rfl rfl hc21 rfl <| gn rfl rfl hc21 rfl <| gn rfl rfl hc21 rfl <| og (Tr rfl hc21 rfl rfl) rfl <| Run.Wd ?_
  exact Run.pick [0, 14] (z3z F a true _ _ _ hH h)
 ·have h := Tn hc21 h
  refine gy rfl rfl hc21 (Tk rfl) rfl <| gy rfl rfl hc21 (Vk rfl z8m) rfl <| gy rfl rfl hc21 (Xw rfl rfl) rfl <| og (Tt rfl hc21 rfl rfl) rfl <| Run.Wd ?_
  exact Run.pick [0, 14] (z3z F a (decide ((16 : Int) < (a.length : Int))) _ _ _ hH h)
theorem zav : J8 Tryz.prog 70 = none := by kernel_rfl
theorem za7 : Ts Tryz.prog 70 = true := by kernel_rfl
theorem z6s : Jy Tryz.prog 43 1 = some 1 := by kernel_rfl
theorem z47 : Jy Tryz.prog 43 2 = some 2 := by kernel_rfl
abbrev z07 (r : Bool) : SV → Mem → Prop := fun s _ => s = (.bool r)
def G9 (F : Nat) (b : Int → List T1 → Int → Int → T1 → Option Bool) (m : Int) (c : List T1) (d e : Int) (f : Bool) (g a : T1) : Option Bool :=
 bif f then
  some false
 else
  b m c d (w64 (e + 1)) a
theorem z2q (F : Nat) (x : Int → List T1 → Int → Int → T1 → Option Bool) (g : ∀ (z : Int) (p : List T1) (q s : Int) (c : T1) (b : SV) (m : Pos) (Fr : Rd) (M : Mem) (r : Bool) (e : Slc Fr 3 (Ta Q9) b p) (hH : Has Fr M [.obj m (.row 43 .whole [(.str c.Who), (.int .i64 c.From), (.int .i64 c.To)])]), x z p q s c = some r → Run Tryz.prog ⟨⟨61, [], none⟩, []⟩ 53 (z07 r) [(1, (.int .i64 z)), (5, (.ptr m 0)), (11, b), (12, (.int .i64 q)), (13, (.int .i64 s))] [T6 Tryz.prog 61 [1, 1, 1, 0, 1, 0, 0], Tv Tryz.prog 61 [1, 1, 1, 0, 1, 0, 0], .inBlock 0, T6 Tryz.prog 61 [1, 1, 1, 1]] M) : ∀ (z : Int) (p : List T1) (q s : Int) (w : Bool) (c a : T1) (b : SV) (m u : Pos) (Fr : Rd) (M : Mem) (r : Bool) (e : Slc Fr 3 (Ta Q9) b p) (hH : Has Fr M [.obj m (.row 43 .whole [(.str c.Who), (.int .i64 c.From), (.int .i64 c.To)]), .obj u (.row 43 .whole [(.str a.Who), (.int .i64 a.From), (.int .i64 a.To)])]), G9 F x z p q s w c a = some r → Run Tryz.prog ⟨⟨61, [], none⟩, []⟩ 53 (z07 r) [(1, (.int .i64 z)), (5, (.ptr m 0)), (7, (.ptr u 0)), (11, b), (12, (.int .i64 q)), (13, (.int .i64 s)), (46, (.bool w))] [T6 Tryz.prog 61 [1, 1, 1, 0, 1, 0, 0, 1, 1, 0, 0, 1, 0, 1], T6 Tryz.prog 61 [1, 1, 1, 0, 1, 0, 0, 1, 1, 0, 0, 1, 1], .inBlock 1, T6 Tryz.prog 61 [1, 1, 1, 0, 1, 0, 0, 1, 1, 1], Tv Tryz.prog 61 [1, 1, 1, 0, 1, 0, 0], .inBlock 0, T6 Tryz.prog 61 [1, 1, 1, 1]] M := by
 intro z p q s w c a b m u Fr M r e hH h
 rw [G9] at h
 rcases btf (w) with d | d
 ·have h := Tm d h
  refine Run.Wf rfl d ?_
  refine Run.seq (Run.region ?_)
  refine av rfl rfl <| Run.Wd ?_
  cases h
  exact Run.ret Tryz.func61 rfl (Tc rfl Te) rfl
 ·have h := Tn d h
  refine Run.We rfl d ?_
  refine Run.skip (Run.region ?_)
  refine og (Tj rfl (hH.cells (i := 1) rfl 0 rfl) T5 z8g rfl rfl rfl) rfl <| ox rfl (ExG.Wg (c' := [(.str a.Who), (.int .i64 a.From), (.int .i64 a.To)]) rfl rfl rfl hH (i := 0) rfl zd1 rfl rfl rfl rfl rfl) ?_
  rintro _ y ⟨rfl, (f : Has Fr y [.obj m (.row 43 .whole [(.str a.Who), (.int .i64 a.From), (.int .i64 a.To)]), .obj u (.row 43 .whole [(.str a.Who), (.int .i64 a.From), (.int .i64 a.To)])])⟩
  refine Run.Wd (Run.inBlock (Run.region ?_))
  refine og (Qq rfl rfl) rfl <| mv rfl rfl ?_
  refine Run.Wd (Run.inLoop ?_)
  exact Run.pick [1, 5, 11, 12, 13] (g z p q (w64 (s + 1)) a b m _ _ _ e (f.pick [0] rfl rfl) h)
def G7 (F : Nat) (c : Int → List T1 → Int → Int → T1 → Option Bool) (p : Int) (d : List T1) (e f : Int) (m : Bool) (b a : T1) : Option Bool :=
 bif m then
  G9 F c p d e f true b a
 else
  bnd (Gh F (w64 (a.From + 1)) a.To (w64 (a.From + 128))) fun g =>
  G9 F c p d e f (!g) b a
theorem z2p (F : Nat) (w : Int → List T1 → Int → Int → T1 → Option Bool) (f : ∀ (z : Int) (p : List T1) (q s : Int) (a : T1) (d : SV) (m : Pos) (Fr : Rd) (M : Mem) (r : Bool) (e : Slc Fr 3 (Ta Q9) d p) (hH : Has Fr M [.obj m (.row 43 .whole [(.str a.Who), (.int .i64 a.From), (.int .i64 a.To)])]), w z p q s a = some r → Run Tryz.prog ⟨⟨61, [], none⟩, []⟩ 53 (z07 r) [(1, (.int .i64 z)), (5, (.ptr m 0)), (11, d), (12, (.int .i64 q)), (13, (.int .i64 s))] [T6 Tryz.prog 61 [1, 1, 1, 0, 1, 0, 0], Tv Tryz.prog 61 [1, 1, 1, 0, 1, 0, 0], .inBlock 0, T6 Tryz.prog 61 [1, 1, 1, 1]] M) : ∀ (z : Int) (p : List T1) (q s : Int) (x : Bool) (a c : T1) (d : SV) (m u : Pos) (Fr : Rd) (M : Mem) (r : Bool) (e : Slc Fr 3 (Ta Q9) d p) (hH : Has Fr M [.obj m (.row 43 .whole [(.str a.Who), (.int .i64 a.From), (.int .i64 a.To)]), .obj u (.row 43 .whole [(.str c.Who), (.int .i64 c.From), (.int .i64 c.To)])]), G7 F w z p q s x a c = some r → Run Tryz.prog ⟨⟨61, [], none⟩, []⟩ 53 (z07 r) [(1, (.int .i64 z)), (5, (.ptr m 0)), (7, (.ptr u 0)), (11, d), (12, (.int .i64 q)), (13, (.int .i64 s)), (34, (.bool x))] [Tu Tryz.prog 61 [1, 1, 1, 0, 1, 0, 0, 1, 1, 0, 0, 1, 0, 0] 18, T6 Tryz.prog 61 [1, 1, 1, 0, 1, 0, 0, 1, 1, 0, 0, 1, 0, 1], T6 Tryz.prog 61 [1, 1, 1, 0, 1, 0, 0, 1, 1, 0, 0, 1, 1], .inBlock 1, T6 Tryz.prog 61 [1, 1, 1, 0, 1, 0, 0, 1, 1, 1], Tv Tryz.prog 61 [1, 1, 1, 0, 1, 0, 0], .inBlock 0, T6 Tryz.prog 61 [1, 1, 1, 1]] M := by
 intro z p q s x a c d m u Fr M r e hH h
 rw [G7] at h
 refine mv rfl rfl ?_
 rcases btf (x) with b | b
 ·have h := Tm b h
  refine gn rfl rfl b rfl <| gn rfl rfl b rfl <| gn rfl rfl b rfl <| gn rfl rfl b rfl <| gn rfl rfl b rfl <| gn rfl rfl b rfl <| gn rfl rfl b rfl <| gn rfl rfl b rfl <| gn rfl rfl b rfl <| gn rfl rfl b rfl <| og (Tr rfl b rfl rfl) rfl <| Run.Wd ?_
  exact Run.pick [1, 5, 7, 11, 12, 13, 46] (z2q F w f z p q s true a c d m u _ _ _ e hH h)
 ·have h := Tn b h
  refine gy rfl rfl b (T4 rfl z6s) rfl <| gy rfl rfl b (Tb rfl (hH.cells (i := 1) rfl 1 rfl) T5 z10) rfl <| gy rfl rfl b (Qq rfl rfl) rfl <| gy rfl rfl b (T4 rfl z47) rfl <| gy rfl rfl b (Tb rfl (hH.cells (i := 1) rfl 2 rfl) T5 z10) rfl <| gy rfl rfl b (T4 rfl z6s) rfl <| gy rfl rfl b (Tb rfl (hH.cells (i := 1) rfl 1 rfl) T5 z10) rfl <| gy rfl rfl b (Qq rfl rfl) rfl ?_
  obtain ⟨y, g, h⟩ := T8 h
  refine Run.callP (Kp rfl rfl b) (Tl rfl z8e z8d) rfl (z12 F (w64 (c.From + 1)) c.To (w64 (c.From + 128)) _ _ g) <| gy rfl rfl b (Jh rfl) rfl <| og (Tt rfl b rfl rfl) rfl <| Run.Wd ?_
  exact Run.pick [1, 5, 7, 11, 12, 13, 46] (z2q F w f z p q s (!y) a c d m u _ _ _ e hH h)
def Kl (F : Nat) (c : Int → List T1 → Int → Int → T1 → Option Bool) (m : Int) (d : List T1) (e f : Int) (g : Bool) (a b : T1) : Option Bool :=
 bif g then
  G7 F c m d e f true a b
 else
  G7 F c m d e f (!(b.From == a.To)) a b
theorem z2o (F : Nat) (u : Int → List T1 → Int → Int → T1 → Option Bool) (f : ∀ (x : Int) (m : List T1) (p q : Int) (a : T1) (d : SV) (c : Pos) (Fr : Rd) (M : Mem) (r : Bool) (e : Slc Fr 3 (Ta Q9) d m) (hH : Has Fr M [.obj c (.row 43 .whole [(.str a.Who), (.int .i64 a.From), (.int .i64 a.To)])]), u x m p q a = some r → Run Tryz.prog ⟨⟨61, [], none⟩, []⟩ 53 (z07 r) [(1, (.int .i64 x)), (5, (.ptr c 0)), (11, d), (12, (.int .i64 p)), (13, (.int .i64 q))] [T6 Tryz.prog 61 [1, 1, 1, 0, 1, 0, 0], Tv Tryz.prog 61 [1, 1, 1, 0, 1, 0, 0], .inBlock 0, T6 Tryz.prog 61 [1, 1, 1, 1]] M) : ∀ (x : Int) (m : List T1) (p q : Int) (w : Bool) (a g : T1) (d : SV) (c s : Pos) (Fr : Rd) (M : Mem) (r : Bool) (e : Slc Fr 3 (Ta Q9) d m) (hH : Has Fr M [.obj c (.row 43 .whole [(.str a.Who), (.int .i64 a.From), (.int .i64 a.To)]), .obj s (.row 43 .whole [(.str g.Who), (.int .i64 g.From), (.int .i64 g.To)])]), Kl F u x m p q w a g = some r → Run Tryz.prog ⟨⟨61, [], none⟩, []⟩ 53 (z07 r) [(1, (.int .i64 x)), (5, (.ptr c 0)), (7, (.ptr s 0)), (11, d), (12, (.int .i64 p)), (13, (.int .i64 q)), (27, (.bool w))] [Tu Tryz.prog 61 [1, 1, 1, 0, 1, 0, 0, 1, 1, 0, 0, 1, 0, 0] 11, T6 Tryz.prog 61 [1, 1, 1, 0, 1, 0, 0, 1, 1, 0, 0, 1, 0, 1], T6 Tryz.prog 61 [1, 1, 1, 0, 1, 0, 0, 1, 1, 0, 0, 1, 1], .inBlock 1, T6 Tryz.prog 61 [1, 1, 1, 0, 1, 0, 0, 1, 1, 1], Tv Tryz.prog 61 [1, 1, 1, 0, 1, 0, 0], .inBlock 0, T6 Tryz.prog 61 [1, 1, 1, 1]] M := by
 intro x m p q w a g d c s Fr M r e hH h
 rw [Kl] at h
 refine mv rfl rfl ?_
 rcases btf (w) with b | b
 ·have h := Tm b h
  refine gn rfl rfl b rfl <| gn rfl rfl b rfl <| gn rfl rfl b rfl <| gn rfl rfl b rfl <| gn rfl rfl b rfl <| og (Tr rfl b rfl rfl) rfl ?_
  exact Run.pick [1, 5, 7, 11, 12, 13, 34] (z2p F u f x m p q true a g d c s _ _ _ e hH h)
 ·have h := Tn b h
  refine gy rfl rfl b (T4 rfl z6s) rfl <| gy rfl rfl b (Tb rfl (hH.cells (i := 1) rfl 1 rfl) T5 z10) rfl <| gy rfl rfl b (T4 rfl z47) rfl <| gy rfl rfl b (Tb rfl (hH.cells (i := 0) rfl 2 rfl) T5 z10) rfl <| gy rfl rfl b (Gd rfl rfl) rfl <| og (Tt rfl b rfl rfl) rfl ?_
  exact Run.pick [1, 5, 7, 11, 12, 13, 34] (z2p F u f x m p q (!(g.From == a.To)) a g d c s _ _ _ e hH h)
def Q5 (F : Nat) : Nat → Int → List T1 → Int → Int → T1 → Option Bool
 | 0, _, _, _, _, _ => none
 | N + 1, g, d, e, b, a =>
  bif (decide (b < e)) then
   bnd (idx d b) fun c =>
   bnd (Yr F c.Who) fun f =>
   bif (!f) then
    Kl F (Q5 F N) g d e b true a c
   else
    Kl F (Q5 F N) g d e b (c.Who == a.Who) a c
  else
   some (a.To == g)
theorem z5n (F : Nat) : ∀ (N : Nat), ∀ (v1 : Int) (y : List T1) (w x : Int) (a : T1) (e : SV) (u : Pos) (Fr : Rd) (M : Mem) (r : Bool) (m : Slc Fr 3 (Ta Q9) e y) (hH : Has Fr M [.obj u (.row 43 .whole [(.str a.Who), (.int .i64 a.From), (.int .i64 a.To)])]), Q5 F N v1 y w x a = some r → Run Tryz.prog ⟨⟨61, [], none⟩, []⟩ 53 (z07 r) [(1, (.int .i64 v1)), (5, (.ptr u 0)), (11, e), (12, (.int .i64 w)), (13, (.int .i64 x))] [T6 Tryz.prog 61 [1, 1, 1, 0, 1, 0, 0], Tv Tryz.prog 61 [1, 1, 1, 0, 1, 0, 0], .inBlock 0, T6 Tryz.prog 61 [1, 1, 1, 1]] M := by
 intro N
 induction N with
 | zero =>
  intro v1 y w x a e u Fr M r m hH h
  simp [Q5] at h
 | succ N ih =>
  intro v1 y w x a e u Fr M r m hH h
  rw [Q5] at h
  refine Run.seq (Run.region ?_)
  refine og (Qz rfl rfl) rfl ?_
  refine Run.Wd (Run.seq ?_)
  rcases btf ((decide (x < w))) with g | g
  ·have h := Tm g h
   refine Run.Wf rfl g ?_
   refine Run.skip (Run.seq (Run.block (Run.seq (Run.region ?_))))
   obtain ⟨c, n, h⟩ := T8 h
   obtain ⟨a4, a3, _, n, q, rfl⟩ := Jc (P := Tryz.prog) (t := 32) (kk := .i64) m n z7w
   refine og (Q6 rfl rfl n) rfl <| og (Tj rfl (hH.ptrF q) T5 z8g rfl rfl rfl) rfl <| ox rfl (ExG.new (v := fun b => .ptr b 0) (Jz z9p) hH) ?_
   rintro _ a2 ⟨z, rfl, p⟩
   refine ox rfl (ExG.Wg (c' := [(.str c.Who), (.int .i64 c.From), (.int .i64 c.To)]) rfl rfl rfl p (i := 0) rfl zd1 rfl rfl rfl rfl rfl) ?_
   rintro _ a0 ⟨rfl, (f : Has Fr a0 [.obj z (.row 43 .whole [(.str c.Who), (.int .i64 c.From), (.int .i64 c.To)]), .obj u (.row 43 .whole [(.str a.Who), (.int .i64 a.From), (.int .i64 a.To)])])⟩
   refine Run.Wd (Run.seq (Run.seq (Run.region ?_)))
   refine og (T4 rfl z44) rfl <| og (Tb rfl (f.cells (i := 0) rfl 0 rfl) T5 z87) rfl ?_
   obtain ⟨a1, s, h⟩ := T8 h
   refine Run.callP T7 (Tl rfl zav za7) rfl (z5d F c.Who _ _ s) <| og (Jh rfl) rfl <| mv rfl rfl ?_
   rcases btf ((!a1)) with d | d
   ·have h := Tm d h
    refine gn rfl rfl d rfl <| gn rfl rfl d rfl <| gn rfl rfl d rfl <| gn rfl rfl d rfl <| gn rfl rfl d rfl <| og (Tr rfl d rfl rfl) rfl ?_
    exact Run.pick [1, 5, 7, 11, 12, 13, 27] (z2o F (Q5 F N) ih v1 y w x true a c e u z _ _ _ m (f.pick [1, 0] rfl rfl) h)
   ·have h := Tn d h
    refine gy rfl rfl d (T4 rfl z44) rfl <| gy rfl rfl d (Tb rfl (f.cells (i := 0) rfl 0 rfl) T5 z87) rfl <| gy rfl rfl d (T4 rfl z44) rfl <| gy rfl rfl d (Tb rfl (f.cells (i := 1) rfl 0 rfl) T5 z87) rfl <| gy rfl rfl d (ex_eqlS rfl rfl) rfl <| og (Tt rfl d rfl rfl) rfl ?_
    exact Run.pick [1, 5, 7, 11, 12, 13, 27] (z2o F (Q5 F N) ih v1 y w x (c.Who == a.Who) a c e u z _ _ _ m (f.pick [1, 0] rfl rfl) h)
  ·have h := Tn g h
   refine Run.We rfl g ?_
   refine Run.exit rfl (Run.seq (Run.region ?_))
   refine og (T4 rfl z47) rfl <| og (Tb rfl (hH.cells (i := 0) rfl 2 rfl) T5 z10) rfl <| mv rfl rfl <| og (ex_eql rfl rfl) rfl <| av rfl rfl <| Run.Wd ?_
   cases h
   exact Run.ret Tryz.func61 rfl (Tc rfl Te) rfl
def Gb (F : Nat) (a : List T1) (b : Int) : Option Bool :=
 bif (decide ((64 : Int) < (a.length : Int))) then
  some false
 else
  Q5 F F b a (a.length : Int) (0 : Int) (T1.mk [] 0 0)
theorem z6m (F : Nat) (f : List T1) (g : Int) (m : SV) (r : Bool) (M : Mem) (a : Slc (rd M) 3 (Ta Q9) m f) (h : Gb F f g = some r) : CallsM Tryz.prog 61 [m, (.int .i64 g)] M (fun s M' => s = (.bool r) ∧ M' = M) := by
 refine CallsM.plain Tryz.func61 rfl rfl rfl (show Run _ _ _ (z07 r) _ _ _ from ?_)
 rw [Gb] at h
 replace a := a.mono (T3 M) (fun _ _ h => h)
 have hH := Has.nil (frozen M)
 refine Run.seq (Run.region ?_)
 refine av rfl rfl ?_
 refine Run.Wd (Run.seq (Run.seq (Run.region ?_)))
 refine mv rfl rfl <| og (Q3 rfl a z7i) rfl <| og (Xw rfl rfl) rfl <| Run.Wd ?_
 rcases btf ((decide ((64 : Int) < (f.length : Int)))) with hc21 | hc21
 ·have h := Tm hc21 h
  refine Run.Wf rfl hc21 ?_
  refine Run.seq (Run.region ?_)
  refine av rfl rfl <| Run.Wd ?_
  cases h
  exact Run.ret Tryz.func61 rfl (Tc rfl Te) rfl
 ·have h := Tn hc21 h
  refine Run.We rfl hc21 ?_
  refine Run.skip (Run.seq (Run.region ?_))
  refine ox rfl (ExG.new (v := fun b => .ptr b 0) (Jz z9p) hH) ?_
  rintro _ e ⟨c, rfl, d⟩
  refine Run.Wd (Run.seq (Run.seq (Run.region ?_)))
  refine mv rfl rfl <| og (Q3 rfl a z7i) rfl <| mv rfl rfl ?_
  refine Run.Wd (Run.block (Run.loop ?_))
  exact Run.pick [1, 5, 11, 12, 13] (z5n F F g f (f.length : Int) (0 : Int) (T1.mk [] 0 0) m c _ _ _ a d h)
theorem zcj : J8 Tryz.prog 61 = none := by kernel_rfl
theorem zbj : Ts Tryz.prog 61 = true := by kernel_rfl
theorem z8r : Jy Tryz.prog 85 1 = some 1 := by kernel_rfl
theorem z2m : Vr Tryz.prog 33 = some .sl := by kernel_rfl
theorem z5a : Zf Tryz.prog 33 = some (.sl 2) := by kernel_rfl
theorem z2v : Jw Tryz.prog 106 = some (some 2) := by kernel_rfl
theorem z5t : Xd Tryz.prog 106 = some [(.int .i64 0), (.int .i64 0)] := by kernel_rfl
theorem z7s : Zx Tryz.prog 106 = some 2 := by kernel_rfl
theorem z0k : Jy Tryz.prog 106 0 = some 0 := by kernel_rfl
theorem z0e : Jy Tryz.prog 106 1 = some 1 := by kernel_rfl
theorem zcx : J8 Tryz.prog 95 = none := by kernel_rfl
theorem zbx : Ts Tryz.prog 95 = true := by kernel_rfl
theorem zat : J8 Tryz.prog 65 = none := by kernel_rfl
theorem za5 : Ts Tryz.prog 65 = true := by kernel_rfl
theorem zcw : J8 Tryz.prog 94 = none := by kernel_rfl
theorem zbw : Ts Tryz.prog 94 = true := by kernel_rfl
abbrev z04 (r : Bool) : SV → Mem → Prop := fun s _ => s = (.bool r)
def Js (F : Nat) (b : (List T1) → Int → List T0 → Int → Int → Option Bool) (g : List T1) (c : List T0) (d e : Int) (f : Bool) (a : T0) : Option Bool :=
 bif f then
  some false
 else
  b g a.To c d (w64 (e + 1))
theorem z0z (F : Nat) (w : (List T1) → Int → List T0 → Int → Int → Option Bool) (f : ∀ (x : List T1) (y : Int) (c : List T0) (g m : Int) (a b : SV) (Fr : Rd) (M : Mem) (r : Bool) (u : Slc Fr 3 (Ta Q9) a x) (e : Slc Fr 2 (Ta Tg) b c) (hH : Has Fr M []), w x y c g m = some r → Run Tryz.prog ⟨⟨62, [], none⟩, []⟩ 39 (z04 r) [(1, a), (5, (.int .i64 y)), (12, b), (13, (.int .i64 g)), (14, (.int .i64 m))] [T6 Tryz.prog 62 [1, 1, 1, 0, 1, 0, 0], Tv Tryz.prog 62 [1, 1, 1, 0, 1, 0, 0], .inBlock 0, T6 Tryz.prog 62 [1, 1, 1, 1]] M) : ∀ (x : List T1) (c : List T0) (g m : Int) (q : Bool) (p : T0) (a b : SV) (s : Pos) (Fr : Rd) (M : Mem) (r : Bool) (u : Slc Fr 3 (Ta Q9) a x) (e : Slc Fr 2 (Ta Tg) b c) (hH : Has Fr M [.obj s (.row 106 .whole [(.int .i64 p.From), (.int .i64 p.To)])]), Js F w x c g m q p = some r → Run Tryz.prog ⟨⟨62, [], none⟩, []⟩ 39 (z04 r) [(1, a), (7, (.ptr s 0)), (12, b), (13, (.int .i64 g)), (14, (.int .i64 m)), (35, (.bool q))] [T6 Tryz.prog 62 [1, 1, 1, 0, 1, 0, 0, 1, 1, 0, 0, 1, 1, 0, 1], T6 Tryz.prog 62 [1, 1, 1, 0, 1, 0, 0, 1, 1, 0, 0, 1, 1, 1], .inBlock 1, T6 Tryz.prog 62 [1, 1, 1, 0, 1, 0, 0, 1, 1, 1], Tv Tryz.prog 62 [1, 1, 1, 0, 1, 0, 0], .inBlock 0, T6 Tryz.prog 62 [1, 1, 1, 1]] M := by
 intro x c g m q p a b s Fr M r u e hH h
 rw [Js] at h
 rcases btf (q) with d | d
 ·have h := Tm d h
  refine Run.Wf rfl d ?_
  refine Run.seq (Run.region ?_)
  refine av rfl rfl <| Run.Wd ?_
  cases h
  exact Run.ret Tryz.func62 rfl (Tc rfl Te) rfl
 ·have h := Tn d h
  refine Run.We rfl d ?_
  refine Run.skip (Run.region ?_)
  refine og (T4 rfl z0e) rfl <| og (Tb rfl (hH.cells (i := 0) rfl 1 rfl) T5 z10) rfl <| av rfl rfl ?_
  refine Run.Wd (Run.inBlock (Run.region ?_))
  refine og (Qq rfl rfl) rfl <| mv rfl rfl ?_
  refine Run.Wd (Run.inLoop ?_)
  exact Run.pick [1, 5, 12, 13, 14] (f x p.To c g (w64 (m + 1)) a b _ _ _ u e (hH.pick [] rfl rfl) h)
def X8 (F : Nat) (c : (List T1) → Int → List T0 → Int → Int → Option Bool) (s : (List T1) → Int → Int → List T1 → List T0 → Int → Int → Bool → T0 → Option Bool) (u : Bool) (m : List T1) (n p q : Int) (f : List T1) (b : List T0) (d e : Int) (g : Bool) (a : T0) : Option Bool :=
 bif u then
  bif g then
   Js F c f b d e true a
  else
   Js F c f b d e (!(decide ((0 : Int) ≤ n))) a
 else
  s m p (w64 (q + 1)) f b d e g a
theorem z4l (F : Nat) (z : (List T1) → Int → List T0 → Int → Int → Option Bool) (b0 : ∀ (v1 : List T1) (v5 : Int) (c0 : List T0) (c1 c2 : Int) (b9 b1 : SV) (Fr : Rd) (M : Mem) (r : Bool) (c4 : Slc Fr 3 (Ta Q9) b9 v1) (b5 : Slc Fr 2 (Ta Tg) b1 c0) (hH : Has Fr M []), z v1 v5 c0 c1 c2 = some r → Run Tryz.prog ⟨⟨62, [], none⟩, []⟩ 39 (z04 r) [(1, b9), (5, (.int .i64 v5)), (12, b1), (13, (.int .i64 c1)), (14, (.int .i64 c2))] [T6 Tryz.prog 62 [1, 1, 1, 0, 1, 0, 0], Tv Tryz.prog 62 [1, 1, 1, 0, 1, 0, 0], .inBlock 0, T6 Tryz.prog 62 [1, 1, 1, 1]] M) (b7 : (List T1) → Int → Int → List T1 → List T0 → Int → Int → Bool → T0 → Option Bool) (b2 : ∀ (v0 : List T1) (v7 v8 : Int) (a9 : List T1) (a5 : List T0) (a6 a7 : Int) (a8 : Bool) (c : T0) (b8 a4 a2 : SV) (a : Pos) (Fr : Rd) (M : Mem) (r : Bool) (c3 : Slc Fr 3 (Ta Q9) b8 v0) (b4 : Slc Fr 3 (Ta Q9) a4 a9) (b3 : Slc Fr 2 (Ta Tg) a2 a5) (hH : Has Fr M [.obj a (.row 106 .whole [(.int .i64 c.From), (.int .i64 c.To)])]), b7 v0 v7 v8 a9 a5 a6 a7 a8 c = some r → Run Tryz.prog ⟨⟨65, [], none⟩, [.mk ⟨95, [], none⟩ 9 (treeOf []) [Tu Tryz.prog 95 [1, 0] 2, T6 Tryz.prog 95 [1, 1]], .mk ⟨62, [], none⟩ 39 (treeOf [(1, a4), (7, (.ptr a 0)), (12, a2), (13, (.int .i64 a6)), (14, (.int .i64 a7)), (30, (.bool a8))]) [Tu Tryz.prog 62 [1, 1, 1, 0, 1, 0, 0, 1, 1, 0, 0, 1, 1, 0, 0] 14, T6 Tryz.prog 62 [1, 1, 1, 0, 1, 0, 0, 1, 1, 0, 0, 1, 1, 0, 1], T6 Tryz.prog 62 [1, 1, 1, 0, 1, 0, 0, 1, 1, 0, 0, 1, 1, 1], .inBlock 1, T6 Tryz.prog 62 [1, 1, 1, 0, 1, 0, 0, 1, 1, 1], Tv Tryz.prog 62 [1, 1, 1, 0, 1, 0, 0], .inBlock 0, T6 Tryz.prog 62 [1, 1, 1, 1]]]⟩ 19 (z04 r) [(0, b8), (1, (.fn (.func 94) [] [(.ptr a 0)])), (7, (.int .i64 v7)), (8, (.int .i64 v8))] [T6 Tryz.prog 65 [1, 0, 1, 0, 0], Tv Tryz.prog 65 [1, 0, 1, 0, 0], .inBlock 0, T6 Tryz.prog 65 [1, 1]] M) : ∀ (b6 : Bool) (w : List T1) (x y a0 : Int) (p : List T1) (e : List T0) (f g : Int) (m : Bool) (c : T0) (u d b : SV) (a : Pos) (Fr : Rd) (M : Mem) (r : Bool) (a3 : Slc Fr 3 (Ta Q9) u w) (s : Slc Fr 3 (Ta Q9) d p) (n : Slc Fr 2 (Ta Tg) b e) (hH : Has Fr M [.obj a (.row 106 .whole [(.int .i64 c.From), (.int .i64 c.To)])]), X8 F z b7 b6 w x y a0 p e f g m c = some r → Run Tryz.prog ⟨⟨94, [], none⟩, [.mk ⟨65, [], none⟩ 19 (treeOf [(0, u), (1, (.fn (.func 94) [] [(.ptr a 0)])), (5, (.int .i64 x)), (7, (.int .i64 y)), (8, (.int .i64 a0))]) [Tu Tryz.prog 65 [1, 0, 1, 0, 0, 1, 1, 0, 0, 1, 0] 5, T6 Tryz.prog 65 [1, 0, 1, 0, 0, 1, 1, 0, 0, 1, 1], .inBlock 1, T6 Tryz.prog 65 [1, 0, 1, 0, 0, 1, 1, 1], Tv Tryz.prog 65 [1, 0, 1, 0, 0], .inBlock 0, T6 Tryz.prog 65 [1, 1]], .mk ⟨95, [], none⟩ 9 (treeOf []) [Tu Tryz.prog 95 [1, 0] 2, T6 Tryz.prog 95 [1, 1]], .mk ⟨62, [], none⟩ 39 (treeOf [(1, d), (7, (.ptr a 0)), (12, b), (13, (.int .i64 f)), (14, (.int .i64 g)), (30, (.bool m))]) [Tu Tryz.prog 62 [1, 1, 1, 0, 1, 0, 0, 1, 1, 0, 0, 1, 1, 0, 0] 14, T6 Tryz.prog 62 [1, 1, 1, 0, 1, 0, 0, 1, 1, 0, 0, 1, 1, 0, 1], T6 Tryz.prog 62 [1, 1, 1, 0, 1, 0, 0, 1, 1, 0, 0, 1, 1, 1], .inBlock 1, T6 Tryz.prog 62 [1, 1, 1, 0, 1, 0, 0, 1, 1, 1], Tv Tryz.prog 62 [1, 1, 1, 0, 1, 0, 0], .inBlock 0, T6 Tryz.prog 62 [1, 1, 1, 1]]]⟩ 16 (z04 r) [(15, (.bool b6))] [Tu Tryz.prog 94 [1, 0] 12, T6 Tryz.prog 94 [1, 1]] M := by
 intro b6 w x y a0 p e f g m c u d b a Fr M r a3 s n hH h
 rw [X8] at h
 refine av rfl rfl <| Run.Wd <| Run.Wi Tryz.func94 rfl (Tc rfl Te) rfl <| Run.Wd ?_
 rcases btf (b6) with a1 | a1
 ·have h := Tm a1 h
  refine Run.Wf rfl a1 ?_
  refine Run.seq (Run.region ?_)
  refine mv rfl rfl <| av rfl rfl <| Run.Wd <| Run.Wi Tryz.func65 rfl (Tc rfl Te) rfl <| og (Z5 rfl rfl) rfl <| av rfl rfl <| Run.Wd <| Run.Wi Tryz.func95 rfl (Tc rfl Te) rfl ?_
  rcases btf (m) with q | q
  ·have h := Tm q h
   refine gn rfl rfl q rfl <| og (Tr rfl q rfl rfl) rfl <| Run.Wd ?_
   exact Run.pick [1, 7, 12, 13, 14, 35] (z0z F z b0 p e f g true c d b a _ _ _ s n hH h)
  ·have h := Tn q h
   refine gy rfl rfl q (Jh rfl) rfl <| og (Tt rfl q rfl rfl) rfl <| Run.Wd ?_
   exact Run.pick [1, 7, 12, 13, 14, 35] (z0z F z b0 p e f g (!(decide ((0 : Int) ≤ x))) c d b a _ _ _ s n hH h)
 ·have h := Tn a1 h
  refine Run.We rfl a1 ?_
  refine Run.skip (Run.inBlock (Run.region ?_))
  refine og (Qq rfl rfl) rfl <| mv rfl rfl ?_
  refine Run.Wd (Run.inLoop ?_)
  exact Run.low (.cons (Jf [] rfl) (.cons (Jf [1, 7, 12, 13, 14, 30] rfl) .nil)) (Run.pick [0, 1, 7, 8] (b2 w y (w64 (a0 + 1)) p e f g m c u d b a _ _ _ a3 s n hH h))
def Qx (F : Nat) (c : (List T1) → Int → List T0 → Int → Int → Option Bool) : Nat → List T1 → Int → Int → List T1 → List T0 → Int → Int → Bool → T0 → Option Bool
 | 0, _, _, _, _, _, _, _, _, _ => none
 | N + 1, q, s, p, f, b, d, e, g, a =>
  bif (decide (p < s)) then
   bnd (idx q p) fun m =>
   bif (decide (m.From ≤ a.From)) then
    X8 F c (Qx F c N) (decide (a.To ≤ m.To)) q p s p f b d e g a
   else
    X8 F c (Qx F c N) false q p s p f b d e g a
  else
   bif g then
    Js F c f b d e true a
   else
    Js F c f b d e (!(decide ((0 : Int) ≤ ((-1) : Int)))) a
theorem z6z (F : Nat) (z : (List T1) → Int → List T0 → Int → Int → Option Bool) (y : ∀ (v1 : List T1) (v5 : Int) (a7 : List T0) (a8 a9 : Int) (a6 a1 : SV) (Fr : Rd) (M : Mem) (r : Bool) (b3 : Slc Fr 3 (Ta Q9) a6 v1) (a3 : Slc Fr 2 (Ta Tg) a1 a7) (hH : Has Fr M []), z v1 v5 a7 a8 a9 = some r → Run Tryz.prog ⟨⟨62, [], none⟩, []⟩ 39 (z04 r) [(1, a6), (5, (.int .i64 v5)), (12, a1), (13, (.int .i64 a8)), (14, (.int .i64 a9))] [T6 Tryz.prog 62 [1, 1, 1, 0, 1, 0, 0], Tv Tryz.prog 62 [1, 1, 1, 0, 1, 0, 0], .inBlock 0, T6 Tryz.prog 62 [1, 1, 1, 1]] M) : ∀ (N : Nat), ∀ (v0 : List T1) (v7 v8 : Int) (q : List T1) (f : List T0) (g m : Int) (p : Bool) (a : T0) (a4 e d : SV) (c : Pos) (Fr : Rd) (M : Mem) (r : Bool) (a5 : Slc Fr 3 (Ta Q9) a4 v0) (s : Slc Fr 3 (Ta Q9) e q) (n : Slc Fr 2 (Ta Tg) d f) (hH : Has Fr M [.obj c (.row 106 .whole [(.int .i64 a.From), (.int .i64 a.To)])]), Qx F z N v0 v7 v8 q f g m p a = some r → Run Tryz.prog ⟨⟨65, [], none⟩, [.mk ⟨95, [], none⟩ 9 (treeOf []) [Tu Tryz.prog 95 [1, 0] 2, T6 Tryz.prog 95 [1, 1]], .mk ⟨62, [], none⟩ 39 (treeOf [(1, e), (7, (.ptr c 0)), (12, d), (13, (.int .i64 g)), (14, (.int .i64 m)), (30, (.bool p))]) [Tu Tryz.prog 62 [1, 1, 1, 0, 1, 0, 0, 1, 1, 0, 0, 1, 1, 0, 0] 14, T6 Tryz.prog 62 [1, 1, 1, 0, 1, 0, 0, 1, 1, 0, 0, 1, 1, 0, 1], T6 Tryz.prog 62 [1, 1, 1, 0, 1, 0, 0, 1, 1, 0, 0, 1, 1, 1], .inBlock 1, T6 Tryz.prog 62 [1, 1, 1, 0, 1, 0, 0, 1, 1, 1], Tv Tryz.prog 62 [1, 1, 1, 0, 1, 0, 0], .inBlock 0, T6 Tryz.prog 62 [1, 1, 1, 1]]]⟩ 19 (z04 r) [(0, a4), (1, (.fn (.func 94) [] [(.ptr c 0)])), (7, (.int .i64 v7)), (8, (.int .i64 v8))] [T6 Tryz.prog 65 [1, 0, 1, 0, 0], Tv Tryz.prog 65 [1, 0, 1, 0, 0], .inBlock 0, T6 Tryz.prog 65 [1, 1]] M := by
 intro N
 induction N with
 | zero =>
  intro v0 v7 v8 q f g m p a a4 e d c Fr M r a5 s n hH h
  simp [Qx] at h
 | succ N ih =>
  intro v0 v7 v8 q f g m p a a4 e d c Fr M r a5 s n hH h
  rw [Qx] at h
  refine Run.seq (Run.region ?_)
  refine og (Qz rfl rfl) rfl ?_
  refine Run.Wd (Run.seq ?_)
  rcases btf ((decide (v8 < v7))) with x | x
  ·have h := Tm x h
   refine Run.Wf rfl x ?_
   refine Run.skip (Run.seq (Run.block (Run.seq (Run.region ?_))))
   refine mv rfl rfl <| av rfl rfl ?_
   refine Run.Wd (Run.seq (Run.region ?_))
   refine mv rfl rfl <| mv rfl rfl <| mv rfl rfl ?_
   obtain ⟨b0, a0, h⟩ := T8 h
   obtain ⟨b5, b4, _, a0, a2, rfl⟩ := Jc (P := Tryz.prog) (t := 32) (kk := .i64) a5 a0 z7w
   refine og (Q6 rfl rfl a0) rfl <| og (Tj rfl (hH.ptrF a2) T5 z8g rfl rfl rfl) rfl <| Run.enter T7 (Y4 rfl rfl zcw zbw) Tryz.func94 rfl rfl ?_
   refine Run.seq (Run.region ?_)
   refine ox rfl (ExG.box rfl rfl hH) ?_
   rintro _ b1 ⟨b2, rfl, w⟩
   refine av rfl rfl ?_
   refine Run.Wd (Run.seq (Run.region ?_))
   refine og (T4 rfl z6s) rfl <| og (Tb rfl (w.cells (i := 0) rfl 1 rfl) T5 z10) rfl <| og (T4 rfl z0k) rfl <| og (Tb rfl (w.cells (i := 1) rfl 0 rfl) T5 z10) rfl <| og (Xy rfl rfl) rfl <| mv rfl rfl ?_
   rcases btf ((decide (b0.From ≤ a.From))) with b | b
   ·have h := Tm b h
    refine gy rfl rfl b (T4 rfl z0e) rfl <| gy rfl rfl b (Tb rfl (w.cells (i := 1) rfl 1 rfl) T5 z10) rfl <| gy rfl rfl b (T4 rfl z47) rfl <| gy rfl rfl b (Tb rfl (w.cells (i := 0) rfl 2 rfl) T5 z10) rfl <| gy rfl rfl b (Xy rfl rfl) rfl <| og (Tr rfl b rfl rfl) rfl ?_
    exact Run.low (.cons (Jf [0, 1, 5, 7, 8] rfl) (.cons (Jf [] rfl) (.cons (Jf [1, 7, 12, 13, 14, 30] rfl) .nil))) (Run.pick [15] (z4l F z y (Qx F z N) ih (decide (a.To ≤ b0.To)) v0 v8 v7 v8 q f g m p a a4 e d c _ _ _ a5 s n (w.pick [1] rfl rfl) h))
   ·have h := Tn b h
    refine gn rfl rfl b rfl <| gn rfl rfl b rfl <| gn rfl rfl b rfl <| gn rfl rfl b rfl <| gn rfl rfl b rfl <| og (Tt rfl b rfl rfl) rfl ?_
    exact Run.low (.cons (Jf [0, 1, 5, 7, 8] rfl) (.cons (Jf [] rfl) (.cons (Jf [1, 7, 12, 13, 14, 30] rfl) .nil))) (Run.pick [15] (z4l F z y (Qx F z N) ih false v0 v8 v7 v8 q f g m p a a4 e d c _ _ _ a5 s n (w.pick [1] rfl rfl) h))
  ·have h := Tn x h
   refine Run.We rfl x ?_
   refine Run.exit rfl (Run.seq (Run.region ?_))
   refine av rfl rfl <| Run.Wd <| Run.Wi Tryz.func65 rfl (Tc rfl Te) rfl <| og (Z5 rfl rfl) rfl <| av rfl rfl <| Run.Wd <| Run.Wi Tryz.func95 rfl (Tc rfl Te) rfl ?_
   rcases btf (p) with u | u
   ·have h := Tm u h
    refine gn rfl rfl u rfl <| og (Tr rfl u rfl rfl) rfl <| Run.Wd ?_
    exact Run.pick [1, 7, 12, 13, 14, 35] (z0z F z y q f g m true a e d c _ _ _ s n hH h)
   ·have h := Tn u h
    refine gy rfl rfl u (Jh rfl) rfl <| og (Tt rfl u rfl rfl) rfl <| Run.Wd ?_
    exact Run.pick [1, 7, 12, 13, 14, 35] (z0z F z y q f g m (!(decide ((0 : Int) ≤ ((-1) : Int)))) a e d c _ _ _ s n hH h)
def Xa (F : Nat) (b : (List T1) → Int → List T0 → Int → Int → Option Bool) (g : List T1) (c : List T0) (d e : Int) (f : Bool) (a : T0) : Option Bool :=
 bif f then
  Js F b g c d e true a
 else
  Qx F b F g (g.length : Int) (0 : Int) g c d e f a
theorem z4k (F : Nat) (w : (List T1) → Int → List T0 → Int → Int → Option Bool) (f : ∀ (x : List T1) (y : Int) (c : List T0) (g m : Int) (a d : SV) (Fr : Rd) (M : Mem) (r : Bool) (s : Slc Fr 3 (Ta Q9) a x) (e : Slc Fr 2 (Ta Tg) d c) (hH : Has Fr M []), w x y c g m = some r → Run Tryz.prog ⟨⟨62, [], none⟩, []⟩ 39 (z04 r) [(1, a), (5, (.int .i64 y)), (12, d), (13, (.int .i64 g)), (14, (.int .i64 m))] [T6 Tryz.prog 62 [1, 1, 1, 0, 1, 0, 0], Tv Tryz.prog 62 [1, 1, 1, 0, 1, 0, 0], .inBlock 0, T6 Tryz.prog 62 [1, 1, 1, 1]] M) : ∀ (x : List T1) (c : List T0) (g m : Int) (u : Bool) (q : T0) (a d : SV) (p : Pos) (Fr : Rd) (M : Mem) (r : Bool) (s : Slc Fr 3 (Ta Q9) a x) (e : Slc Fr 2 (Ta Tg) d c) (hH : Has Fr M [.obj p (.row 106 .whole [(.int .i64 q.From), (.int .i64 q.To)])]), Xa F w x c g m u q = some r → Run Tryz.prog ⟨⟨62, [], none⟩, []⟩ 39 (z04 r) [(1, a), (7, (.ptr p 0)), (8, (.fn (.func 94) [] [(.ptr p 0)])), (12, d), (13, (.int .i64 g)), (14, (.int .i64 m)), (29, (.bool u))] [Tu Tryz.prog 62 [1, 1, 1, 0, 1, 0, 0, 1, 1, 0, 0, 1, 1, 0, 0] 11, T6 Tryz.prog 62 [1, 1, 1, 0, 1, 0, 0, 1, 1, 0, 0, 1, 1, 0, 1], T6 Tryz.prog 62 [1, 1, 1, 0, 1, 0, 0, 1, 1, 0, 0, 1, 1, 1], .inBlock 1, T6 Tryz.prog 62 [1, 1, 1, 0, 1, 0, 0, 1, 1, 1], Tv Tryz.prog 62 [1, 1, 1, 0, 1, 0, 0], .inBlock 0, T6 Tryz.prog 62 [1, 1, 1, 1]] M := by
 intro x c g m u q a d p Fr M r s e hH h
 rw [Xa] at h
 refine mv rfl rfl ?_
 rcases btf (u) with b | b
 ·have h := Tm b h
  refine gn rfl rfl b rfl <| gn rfl rfl b rfl <| gn rfl rfl b rfl <| gn rfl rfl b rfl <| og (Tr rfl b rfl rfl) rfl <| Run.Wd ?_
  exact Run.pick [1, 7, 12, 13, 14, 35] (z0z F w f x c g m true q a d p _ _ _ s e hH h)
 ·have h := Tn b h
  refine gy rfl rfl b (Tk rfl) rfl <| gy rfl rfl b (Tk rfl) rfl <| Run.enter (Kp rfl rfl b) (Tl rfl zcx zbx) Tryz.func95 rfl rfl ?_
  refine Run.seq (Run.region ?_)
  refine av rfl rfl ?_
  refine Run.Wd (Run.seq (Run.region ?_))
  refine mv rfl rfl <| mv rfl rfl <| Run.enter T7 (Tl rfl zat za5) Tryz.func65 rfl rfl ?_
  refine Run.seq (Run.region ?_)
  refine av rfl rfl ?_
  refine Run.Wd (Run.seq (Run.seq (Run.region ?_)))
  refine mv rfl rfl <| og (Q3 rfl s z7i) rfl <| mv rfl rfl ?_
  refine Run.Wd (Run.block (Run.loop ?_))
  exact Run.low (.cons (Jf [] rfl) (.cons (Jf [1, 7, 12, 13, 14, 30] rfl) .nil)) (Run.pick [0, 1, 7, 8] (z6z F w f F x (x.length : Int) (0 : Int) x c g m u q a a d p _ _ _ s s e hH h))
def Qe (F : Nat) : Nat → List T1 → Int → List T0 → Int → Int → Option Bool
 | 0, _, _, _, _, _ => none
 | N + 1, e, f, c, d, b =>
  bif (decide (b < d)) then
   bnd (idx c b) fun a =>
   bif (decide (a.From < f)) then
    Xa F (Qe F N) e c d b true a
   else
    Xa F (Qe F N) e c d b (decide (a.To ≤ a.From)) a
  else
   some true
theorem z6y (F : Nat) : ∀ (N : Nat), ∀ (v1 : List T1) (v5 : Int) (w : List T0) (c s : Int) (u e : SV) (Fr : Rd) (M : Mem) (r : Bool) (x : Slc Fr 3 (Ta Q9) u v1) (m : Slc Fr 2 (Ta Tg) e w) (hH : Has Fr M []), Qe F N v1 v5 w c s = some r → Run Tryz.prog ⟨⟨62, [], none⟩, []⟩ 39 (z04 r) [(1, u), (5, (.int .i64 v5)), (12, e), (13, (.int .i64 c)), (14, (.int .i64 s))] [T6 Tryz.prog 62 [1, 1, 1, 0, 1, 0, 0], Tv Tryz.prog 62 [1, 1, 1, 0, 1, 0, 0], .inBlock 0, T6 Tryz.prog 62 [1, 1, 1, 1]] M := by
 intro N
 induction N with
 | zero =>
  intro v1 v5 w c s u e Fr M r x m hH h
  simp [Qe] at h
 | succ N ih =>
  intro v1 v5 w c s u e Fr M r x m hH h
  rw [Qe] at h
  refine Run.seq (Run.region ?_)
  refine og (Qz rfl rfl) rfl ?_
  refine Run.Wd (Run.seq ?_)
  rcases btf ((decide (s < c))) with g | g
  ·have h := Tm g h
   refine Run.Wf rfl g ?_
   refine Run.skip (Run.seq (Run.block (Run.seq (Run.region ?_))))
   obtain ⟨a, n, h⟩ := T8 h
   obtain ⟨a2, a1, _, n, q, rfl⟩ := Jc (P := Tryz.prog) (t := 33) (kk := .i64) m n z5a
   refine og (Q6 rfl rfl n) rfl <| og (Tj rfl (hH.ptrF q) T5 z2v rfl rfl rfl) rfl <| ox rfl (ExG.new (v := fun b => .ptr b 0) (Jz z5t) hH) ?_
   rintro _ a0 ⟨y, rfl, p⟩
   refine ox rfl (ExG.Wg (c' := [(.int .i64 a.From), (.int .i64 a.To)]) rfl rfl rfl p (i := 0) rfl z7s rfl rfl rfl rfl rfl) ?_
   rintro _ z ⟨rfl, (f : Has Fr z [.obj y (.row 106 .whole [(.int .i64 a.From), (.int .i64 a.To)])])⟩
   refine Run.Wd (Run.seq (Run.region ?_))
   refine og (Zd rfl rfl) rfl <| av rfl rfl ?_
   refine Run.Wd (Run.seq (Run.seq (Run.region ?_)))
   refine og (T4 rfl z0k) rfl <| og (Tb rfl (f.cells (i := 0) rfl 0 rfl) T5 z10) rfl <| mv rfl rfl <| og (Qz rfl rfl) rfl <| mv rfl rfl ?_
   rcases btf ((decide (a.From < v5))) with d | d
   ·have h := Tm d h
    refine gn rfl rfl d rfl <| gn rfl rfl d rfl <| gn rfl rfl d rfl <| gn rfl rfl d rfl <| gn rfl rfl d rfl <| og (Tr rfl d rfl rfl) rfl ?_
    exact Run.pick [1, 7, 8, 12, 13, 14, 29] (z4k F (Qe F N) ih v1 w c s true a u e y _ _ _ x m f h)
   ·have h := Tn d h
    refine gy rfl rfl d (T4 rfl z0k) rfl <| gy rfl rfl d (Tb rfl (f.cells (i := 0) rfl 0 rfl) T5 z10) rfl <| gy rfl rfl d (T4 rfl z0e) rfl <| gy rfl rfl d (Tb rfl (f.cells (i := 0) rfl 1 rfl) T5 z10) rfl <| gy rfl rfl d (Z5 rfl rfl) rfl <| og (Tt rfl d rfl rfl) rfl ?_
    exact Run.pick [1, 7, 8, 12, 13, 14, 29] (z4k F (Qe F N) ih v1 w c s (decide (a.To ≤ a.From)) a u e y _ _ _ x m f h)
  ·have h := Tn g h
   refine Run.We rfl g ?_
   refine Run.exit rfl (Run.seq (Run.region ?_))
   refine av rfl rfl <| Run.Wd ?_
   cases h
   exact Run.ret Tryz.func62 rfl (Tc rfl Te) rfl
def Y2 (F : Nat) (a : List T0) (b : List T1) : Option Bool :=
 bif (decide ((16 : Int) < (a.length : Int))) then
  some false
 else
  Qe F F b (0 : Int) a (a.length : Int) (0 : Int)
theorem z7r (F : Nat) (c : List T0) (d : List T1) (e f : SV) (r : Bool) (M : Mem) (a : Slc (rd M) 2 (Ta Tg) e c) (b : Slc (rd M) 3 (Ta Q9) f d) (h : Y2 F c d = some r) : CallsM Tryz.prog 62 [e, f] M (fun s M' => s = (.bool r) ∧ M' = M) := by
 refine CallsM.plain Tryz.func62 rfl rfl rfl (show Run _ _ _ (z04 r) _ _ _ from ?_)
 rw [Y2] at h
 replace a := a.mono (T3 M) (fun _ _ h => h)
 replace b := b.mono (T3 M) (fun _ _ h => h)
 have hH := Has.nil (frozen M)
 refine Run.seq (Run.region ?_)
 refine av rfl rfl ?_
 refine Run.Wd (Run.seq (Run.seq (Run.region ?_)))
 refine mv rfl rfl <| og (Q3 rfl a z2m) rfl <| og (Xw rfl rfl) rfl <| Run.Wd ?_
 rcases btf ((decide ((16 : Int) < (c.length : Int)))) with hc21 | hc21
 ·have h := Tm hc21 h
  refine Run.Wf rfl hc21 ?_
  refine Run.seq (Run.region ?_)
  refine av rfl rfl <| Run.Wd ?_
  cases h
  exact Run.ret Tryz.func62 rfl (Tc rfl Te) rfl
 ·have h := Tn hc21 h
  refine Run.We rfl hc21 ?_
  refine Run.skip (Run.seq (Run.region ?_))
  refine av rfl rfl ?_
  refine Run.Wd (Run.seq (Run.seq (Run.region ?_)))
  refine mv rfl rfl <| og (Q3 rfl a z2m) rfl <| mv rfl rfl ?_
  refine Run.Wd (Run.block (Run.loop ?_))
  exact Run.pick [1, 5, 12, 13, 14] (z6y F F d (0 : Int) c (c.length : Int) (0 : Int) f e _ _ _ b a hH h)
theorem zck : J8 Tryz.prog 62 = none := by kernel_rfl
theorem zbk : Ts Tryz.prog 62 = true := by kernel_rfl
theorem z8s : Jy Tryz.prog 85 2 = some 2 := by kernel_rfl
theorem zaz : whole Tryz.prog 35 = some (.arr 2 34 1) := by kernel_rfl
theorem z72 : Jw Tryz.prog 34 = some none := by kernel_rfl
theorem z63 : Vr Tryz.prog 34 = some .sl := by kernel_rfl
def kv9 (a : List UInt8) : SV := (.str a)
def kv4 (a : Bool) : SV := (.bool a)
theorem kk9 : keyK Tryz.prog 9 = some .str := by kernel_rfl
theorem z9f : ∀ a, V4 Tryz.prog 8 9 (kv9 a) = true := fun a => congrFun (show (fun a => V4 Tryz.prog 8 9 (kv9 a)) = fun _ => true by kernel_rfl) a
theorem z9c : ∀ a b, Zt Tryz.prog 9 (kv9 a) (kv9 b) = some (eqB a b) := (fun a b => keyEq_string kk9)
theorem z9d : ∀ a b, eqB a b = true → a = b := (fun a b h => eq_of_beq h)
theorem zaf : zeroS Tryz.prog 4 = some (kv4 false) := by kernel_rfl
theorem z9e : mapT Tryz.prog 131 = some (9, 4) := by kernel_rfl
theorem z84 : Zf Tryz.prog 34 = some (.sl 2) := by kernel_rfl
theorem z7h : Jw Tryz.prog 127 = some (some 2) := by kernel_rfl
theorem z9h : Xd Tryz.prog 127 = some [(.str []), .nils] := by kernel_rfl
theorem zay : Zx Tryz.prog 127 = some 2 := by kernel_rfl
theorem z4p : Jy Tryz.prog 127 0 = some 0 := by kernel_rfl
theorem z3d : Jy Tryz.prog 127 1 = some 1 := by kernel_rfl
theorem zd0 : J8 Tryz.prog 98 = none := by kernel_rfl
theorem zc0 : Ts Tryz.prog 98 = true := by kernel_rfl
theorem zao : J8 Tryz.prog 134 = none := by kernel_rfl
theorem za0 : Ts Tryz.prog 134 = true := by kernel_rfl
theorem zcz : J8 Tryz.prog 97 = none := by kernel_rfl
theorem zbz : Ts Tryz.prog 97 = true := by kernel_rfl
abbrev z0j (r : Bool) : SV → Mem → Prop := fun s _ => s = (.bool r)
def J9 (F : Nat) (a : Bool) : Option Bool :=
 some (!a)
theorem z15 (F : Nat) : ∀ (a : Bool) (Fr : Rd) (M : Mem) (r : Bool) (hH : Has Fr M []), J9 F a = some r → Run Tryz.prog ⟨⟨97, [], none⟩, []⟩ 19 (z0j r) [(17, (.bool a))] [Tu Tryz.prog 97 [1, 0] 15, T6 Tryz.prog 97 [1, 1]] M := by
 intro a Fr M r hH h
 rw [J9] at h
 refine og (Jh rfl) rfl <| av rfl rfl <| Run.Wd ?_
 cases h
 exact Run.ret Tryz.func97 rfl (Tc rfl Te) rfl
def Ja (F : Nat) (b : Bool) (a : T0) : Option Bool :=
 bif b then
  J9 F (decide (a.To ≤ (1073741824 : Int)))
 else
  J9 F false
theorem z14 (F : Nat) : ∀ (c : Bool) (a : T0) (d : Pos) (Fr : Rd) (M : Mem) (r : Bool) (hH : Has Fr M [.obj d (.row 106 .whole [(.int .i64 a.From), (.int .i64 a.To)])]), Ja F c a = some r → Run Tryz.prog ⟨⟨97, [], none⟩, []⟩ 19 (z0j r) [(1, (.ptr d 0)), (12, (.bool c))] [Tu Tryz.prog 97 [1, 0] 10, T6 Tryz.prog 97 [1, 1]] M := by
 intro c a d Fr M r hH h
 rw [Ja] at h
 refine mv rfl rfl ?_
 rcases btf (c) with b | b
 ·have h := Tm b h
  refine gy rfl rfl b (T4 rfl z0e) rfl <| gy rfl rfl b (Tb rfl (hH.cells (i := 0) rfl 1 rfl) T5 z10) rfl <| gy rfl rfl b (Xy rfl rfl) rfl <| og (Tr rfl b rfl rfl) rfl ?_
  exact Run.pick [17] (z15 F (decide (a.To ≤ (1073741824 : Int))) _ _ _ (hH.pick [] rfl rfl) h)
 ·have h := Tn b h
  refine gn rfl rfl b rfl <| gn rfl rfl b rfl <| gn rfl rfl b rfl <| og (Tt rfl b rfl rfl) rfl ?_
  exact Run.pick [17] (z15 F false _ _ _ (hH.pick [] rfl rfl) h)
def Kd (F : Nat) (a : T0) : Option Bool :=
 bif (decide ((0 : Int) ≤ a.From)) then
  Ja F (decide (a.From < a.To)) a
 else
  Ja F false a
theorem z2y (F : Nat) (d : T0) (r : Bool) (M : Mem) (h : Kd F d = some r) : CallsM Tryz.prog 97 [(.agg [(.int .i64 d.From), (.int .i64 d.To)])] M (fun s M' => s = (.bool r) ∧ M' = M) := by
 refine CallsM.plain Tryz.func97 rfl rfl rfl (show Run _ _ _ (z0j r) _ _ _ from ?_)
 rw [Kd] at h
 have hH := Has.nil (frozen M)
 refine Run.seq (Run.region ?_)
 refine ox rfl (ExG.box rfl rfl hH) ?_
 rintro _ c ⟨a, rfl, b⟩
 refine av rfl rfl ?_
 refine Run.Wd (Run.seq (Run.region ?_))
 refine og (T4 rfl z0k) rfl <| og (Tb rfl (b.cells (i := 0) rfl 0 rfl) T5 z10) rfl <| og (Xy rfl rfl) rfl <| mv rfl rfl ?_
 rcases btf ((decide ((0 : Int) ≤ d.From))) with hc24 | hc24
 ·have h := Tm hc24 h
  refine gy rfl rfl hc24 (T4 rfl z0k) rfl <| gy rfl rfl hc24 (Tb rfl (b.cells (i := 0) rfl 0 rfl) T5 z10) rfl <| gy rfl rfl hc24 (T4 rfl z0e) rfl <| gy rfl rfl hc24 (Tb rfl (b.cells (i := 0) rfl 1 rfl) T5 z10) rfl <| gy rfl rfl hc24 (Qz rfl rfl) rfl <| og (Tr rfl hc24 rfl rfl) rfl ?_
  exact Run.pick [1, 12] (z14 F (decide (d.From < d.To)) d a _ _ _ b h)
 ·have h := Tn hc24 h
  refine gn rfl rfl hc24 rfl <| gn rfl rfl hc24 rfl <| gn rfl rfl hc24 rfl <| gn rfl rfl hc24 rfl <| gn rfl rfl hc24 rfl <| og (Tt rfl hc24 rfl rfl) rfl ?_
  exact Run.pick [1, 12] (z14 F false d a _ _ _ b h)
abbrev z0q (r : Bool) : SV → Mem → Prop := fun s _ => s = (.bool r)
def Qh (F : Nat) (a : Bool) : Option Bool :=
 some a
theorem z0d (F : Nat) : ∀ (a : Bool) (Fr : Rd) (M : Mem) (r : Bool) (hH : Has Fr M []), Qh F a = some r → Run Tryz.prog ⟨⟨71, [], none⟩, []⟩ 13 (z0q r) [(12, (.bool a))] [Tu Tryz.prog 71 [1, 1, 0] 9, T6 Tryz.prog 71 [1, 1, 1]] M := by
 intro a Fr M r hH h
 rw [Qh] at h
 refine av rfl rfl <| Run.Wd ?_
 cases h
 exact Run.ret Tryz.func71 rfl (Tc rfl Te) rfl
def Q8 (F : Nat) : Nat → List T0 → Int → Int → Bool → Option Bool
 | 0, _, _, _, _ => none
 | N + 1, e, f, d, b =>
  bif (decide (d < f)) then
   bnd (idx e d) fun c =>
   bnd (Kd F c) fun a =>
   bif a then
    bif b then
     Qh F (!(decide ((0 : Int) ≤ d)))
    else
     Qh F false
   else
    (Q8 F N) e f (w64 (d + 1)) b
  else
   bif b then
    Qh F (!(decide ((0 : Int) ≤ ((-1) : Int))))
   else
    Qh F false
theorem z3c (F : Nat) : ∀ (N : Nat), ∀ (z : List T0) (y x : Int) (b : Bool) (a : SV) (Fr : Rd) (M : Mem) (r : Bool) (c : Slc Fr 2 (Ta Tg) a z) (hH : Has Fr M []), Q8 F N z y x b = some r → Run Tryz.prog ⟨⟨134, [], none⟩, [.mk ⟨98, [], none⟩ 9 (treeOf []) [Tu Tryz.prog 98 [1, 0] 2, T6 Tryz.prog 98 [1, 1]], .mk ⟨71, [], none⟩ 13 (treeOf [(7, (.bool b))]) [Tu Tryz.prog 71 [1, 1, 0] 6, T6 Tryz.prog 71 [1, 1, 1]]]⟩ 19 (z0q r) [(0, a), (1, (.fn (.func 97) [] [])), (7, (.int .i64 y)), (8, (.int .i64 x))] [T6 Tryz.prog 134 [1, 0, 1, 0, 0], Tv Tryz.prog 134 [1, 0, 1, 0, 0], .inBlock 0, T6 Tryz.prog 134 [1, 1]] M := by
 intro N
 induction N with
 | zero =>
  intro z y x b a Fr M r c hH h
  simp [Q8] at h
 | succ N ih =>
  intro z y x b a Fr M r c hH h
  rw [Q8] at h
  refine Run.seq (Run.region ?_)
  refine og (Qz rfl rfl) rfl ?_
  refine Run.Wd (Run.seq ?_)
  rcases btf ((decide (x < y))) with f | f
  ·have h := Tm f h
   refine Run.Wf rfl f ?_
   refine Run.skip (Run.seq (Run.block (Run.seq (Run.region ?_))))
   refine mv rfl rfl <| av rfl rfl ?_
   refine Run.Wd (Run.seq (Run.region ?_))
   refine mv rfl rfl <| mv rfl rfl <| mv rfl rfl ?_
   obtain ⟨s, m, h⟩ := T8 h
   obtain ⟨w, u, _, m, n, rfl⟩ := Jc (P := Tryz.prog) (t := 33) (kk := .i64) c m z5a
   refine og (Q6 rfl rfl m) rfl <| og (Tj rfl (hH.ptrF n) T5 z2v rfl rfl rfl) rfl ?_
   obtain ⟨q, p, h⟩ := T8 h
   refine Run.callP T7 (Y4 rfl rfl zcz zbz) rfl (z2y F s _ _ p) <| Run.Wd ?_
   rcases btf (q) with g | g
   ·have h := Tm g h
    refine Run.Wf rfl g ?_
    refine Run.seq (Run.region ?_)
    refine mv rfl rfl <| av rfl rfl <| Run.Wd <| Run.Wi Tryz.func134 rfl (Tc rfl Te) rfl <| og (Z5 rfl rfl) rfl <| av rfl rfl <| Run.Wd <| Run.Wi Tryz.func98 rfl (Tc rfl Te) rfl ?_
    rcases btf (b) with d | d
    ·have h := Tm d h
     refine gy rfl rfl d (Jh rfl) rfl <| og (Tr rfl d rfl rfl) rfl ?_
     exact Run.pick [12] (z0d F (!(decide ((0 : Int) ≤ x))) _ _ _ hH h)
    ·have h := Tn d h
     refine gn rfl rfl d rfl <| og (Tt rfl d rfl rfl) rfl ?_
     exact Run.pick [12] (z0d F false _ _ _ hH h)
   ·have h := Tn g h
    refine Run.We rfl g ?_
    refine Run.skip (Run.inBlock (Run.region ?_))
    refine og (Qq rfl rfl) rfl <| mv rfl rfl ?_
    refine Run.Wd (Run.inLoop ?_)
    exact Run.low (.cons (Jf [] rfl) (.cons (Jf [7] rfl) .nil)) (Run.pick [0, 1, 7, 8] (ih z y (w64 (x + 1)) b a _ _ _ c hH h))
  ·have h := Tn f h
   refine Run.We rfl f ?_
   refine Run.exit rfl (Run.seq (Run.region ?_))
   refine av rfl rfl <| Run.Wd <| Run.Wi Tryz.func134 rfl (Tc rfl Te) rfl <| og (Z5 rfl rfl) rfl <| av rfl rfl <| Run.Wd <| Run.Wi Tryz.func98 rfl (Tc rfl Te) rfl ?_
   rcases btf (b) with e | e
   ·have h := Tm e h
    refine gy rfl rfl e (Jh rfl) rfl <| og (Tr rfl e rfl rfl) rfl ?_
    exact Run.pick [12] (z0d F (!(decide ((0 : Int) ≤ ((-1) : Int)))) _ _ _ hH h)
   ·have h := Tn e h
    refine gn rfl rfl e rfl <| og (Tt rfl e rfl rfl) rfl ?_
    exact Run.pick [12] (z0d F false _ _ _ hH h)
def Jd (F : Nat) (a : List T0) : Option Bool :=
 bif (decide ((a.length : Int) ≤ (32 : Int))) then
  Q8 F F a (a.length : Int) (0 : Int) (decide ((a.length : Int) ≤ (32 : Int)))
 else
  Qh F false
theorem z3v (F : Nat) (b : List T0) (c : SV) (r : Bool) (M : Mem) (a : Slc (rd M) 2 (Ta Tg) c b) (h : Jd F b = some r) : CallsM Tryz.prog 71 [c] M (fun s M' => s = (.bool r) ∧ M' = M) := by
 refine CallsM.plain Tryz.func71 rfl rfl rfl (show Run _ _ _ (z0q r) _ _ _ from ?_)
 rw [Jd] at h
 replace a := a.mono (T3 M) (fun _ _ h => h)
 have hH := Has.nil (frozen M)
 refine Run.seq (Run.region ?_)
 refine av rfl rfl ?_
 refine Run.Wd (Run.seq (Run.region ?_))
 refine av rfl rfl ?_
 refine Run.Wd (Run.seq (Run.region ?_))
 refine mv rfl rfl <| og (Q3 rfl a z2m) rfl <| og (Xy rfl rfl) rfl <| mv rfl rfl ?_
 rcases btf ((decide ((b.length : Int) ≤ (32 : Int)))) with hc21 | hc21
 ·have h := Tm hc21 h
  refine gy rfl rfl hc21 (Tk rfl) rfl <| gy rfl rfl hc21 (Tk rfl) rfl <| Run.enter (Kp rfl rfl hc21) (Tl rfl zd0 zc0) Tryz.func98 rfl rfl ?_
  refine Run.seq (Run.region ?_)
  refine av rfl rfl ?_
  refine Run.Wd (Run.seq (Run.region ?_))
  refine mv rfl rfl <| mv rfl rfl <| Run.enter T7 (Tl rfl zao za0) Tryz.func134 rfl rfl ?_
  refine Run.seq (Run.region ?_)
  refine av rfl rfl ?_
  refine Run.Wd (Run.seq (Run.seq (Run.region ?_)))
  refine mv rfl rfl <| og (Q3 rfl a z2m) rfl <| mv rfl rfl ?_
  refine Run.Wd (Run.block (Run.loop ?_))
  exact Run.low (.cons (Jf [] rfl) (.cons (Jf [7] rfl) .nil)) (Run.pick [0, 1, 7, 8] (z3c F F b (b.length : Int) (0 : Int) (decide ((b.length : Int) ≤ (32 : Int))) c _ _ _ a hH h))
 ·have h := Tn hc21 h
  refine gn rfl rfl hc21 rfl <| gn rfl rfl hc21 rfl <| gn rfl rfl hc21 rfl <| gn rfl rfl hc21 rfl <| og (Tt rfl hc21 rfl rfl) rfl ?_
  exact Run.pick [12] (z0d F false _ _ _ hH h)
theorem zcp : J8 Tryz.prog 71 = none := by kernel_rfl
theorem zbp : Ts Tryz.prog 71 = true := by kernel_rfl
abbrev z0c (r : Bool) : SV → Mem → Prop := fun s _ => s = (.bool r)
def Jp (F : Nat) (a : (List T2) → Int → Int → (List ((List UInt8) × Bool)) → Option Bool) (e : List T2) (f g : Int) (m : Bool) (b : List UInt8) (d : List T0) (c : (List ((List UInt8) × Bool))) : Option Bool :=
 bif m then
  some false
 else
  a e f (w64 (g + 1)) (mput eqB c b true)
theorem z1j (F : Nat) (z : (List T2) → Int → Int → (List ((List UInt8) × Bool)) → Option Bool) (q : ∀ (s : List T2) (u w : Int) (a : (List ((List UInt8) × Bool))) (d : SV) (c : Pos) (Fr : Rd) (M : Mem) (r : Bool) (m : Slc Fr 2 (Tf Fr) d s) (hH : Has Fr M [.obj c (.map (Z2 kv9 kv4 0 a) a.length)]), z s u w a = some r → Run Tryz.prog ⟨⟨43, [], none⟩, []⟩ 36 (z0c r) [(3, (.map c)), (10, d), (11, (.int .i64 u)), (12, (.int .i64 w))] [T6 Tryz.prog 43 [1, 1, 1, 0, 1, 0, 0], Tv Tryz.prog 43 [1, 1, 1, 0, 1, 0, 0], .inBlock 0, T6 Tryz.prog 43 [1, 1, 1, 1]] M) : ∀ (s : List T2) (u w : Int) (y : Bool) (b : List UInt8) (g : List T0) (a : (List ((List UInt8) × Bool))) (d e : SV) (c x : Pos) (Fr : Rd) (M : Mem) (r : Bool) (m : Slc Fr 2 (Tf Fr) d s) (n : Slc Fr 2 (Ta Tg) e g) (hH : Has Fr M [.obj c (.map (Z2 kv9 kv4 0 a) a.length), .obj x (.row 127 .whole [(.str b), e])]), Jp F z s u w y b g a = some r → Run Tryz.prog ⟨⟨43, [], none⟩, []⟩ 36 (z0c r) [(3, (.map c)), (5, (.ptr x 0)), (10, d), (11, (.int .i64 u)), (12, (.int .i64 w)), (31, (.bool y))] [T6 Tryz.prog 43 [1, 1, 1, 0, 1, 0, 0, 1, 1, 0, 0, 1, 0, 1], T6 Tryz.prog 43 [1, 1, 1, 0, 1, 0, 0, 1, 1, 0, 0, 1, 1], .inBlock 1, T6 Tryz.prog 43 [1, 1, 1, 0, 1, 0, 0, 1, 1, 1], Tv Tryz.prog 43 [1, 1, 1, 0, 1, 0, 0], .inBlock 0, T6 Tryz.prog 43 [1, 1, 1, 1]] M := by
 intro s u w y b g a d e c x Fr M r m n hH h
 rw [Jp] at h
 rcases btf (y) with f | f
 ·have h := Tm f h
  refine Run.Wf rfl f ?_
  refine Run.seq (Run.region ?_)
  refine av rfl rfl <| Run.Wd ?_
  cases h
  exact Run.ret Tryz.func43 rfl (Tc rfl Te) rfl
 ·have h := Tn f h
  refine Run.We rfl f ?_
  refine Run.skip (Run.region ?_)
  refine mv rfl rfl <| og (T4 rfl z4p) rfl <| og (Tb rfl (hH.cells (i := 1) rfl 0 rfl) T5 z87) rfl <| ox rfl (ExG.mapUpdate (ke := kv9) (ve := kv4) (k := b) (v := true) rfl rfl rfl hH (i := 0) rfl z9e (z9f _) z9c z9d rfl rfl) ?_
  rintro _ a0 ⟨rfl, (p : Has Fr a0 [.obj c (.map (Z2 kv9 kv4 0 (mput eqB a b true)) (mput eqB a b true).length), .obj x (.row 127 .whole [(.str b), e])])⟩
  refine Run.Wd (Run.inBlock (Run.region ?_))
  refine og (Qq rfl rfl) rfl <| mv rfl rfl ?_
  refine Run.Wd (Run.inLoop ?_)
  exact Run.pick [3, 10, 11, 12] (q s u (w64 (w + 1)) (mput eqB a b true) d c _ _ _ m (p.pick [0] rfl rfl) h)
def J1 (F : Nat) (a : (List T2) → Int → Int → (List ((List UInt8) × Bool)) → Option Bool) (e : List T2) (f g : Int) (p : Bool) (d : List UInt8) (b : List T0) (c : (List ((List UInt8) × Bool))) : Option Bool :=
 bif p then
  Jp F a e f g true d b c
 else
  bnd (Jd F b) fun m =>
  Jp F a e f g (!m) d b c
theorem z1i (F : Nat) (y : (List T2) → Int → Int → (List ((List UInt8) × Bool)) → Option Bool) (p : ∀ (s : List T2) (u w : Int) (a : (List ((List UInt8) × Bool))) (e : SV) (c : Pos) (Fr : Rd) (M : Mem) (r : Bool) (n : Slc Fr 2 (Tf Fr) e s) (hH : Has Fr M [.obj c (.map (Z2 kv9 kv4 0 a) a.length)]), y s u w a = some r → Run Tryz.prog ⟨⟨43, [], none⟩, []⟩ 36 (z0c r) [(3, (.map c)), (10, e), (11, (.int .i64 u)), (12, (.int .i64 w))] [T6 Tryz.prog 43 [1, 1, 1, 0, 1, 0, 0], Tv Tryz.prog 43 [1, 1, 1, 0, 1, 0, 0], .inBlock 0, T6 Tryz.prog 43 [1, 1, 1, 1]] M) : ∀ (s : List T2) (u w : Int) (z : Bool) (g : List UInt8) (f : List T0) (a : (List ((List UInt8) × Bool))) (e d : SV) (c x : Pos) (Fr : Rd) (M : Mem) (r : Bool) (n : Slc Fr 2 (Tf Fr) e s) (m : Slc Fr 2 (Ta Tg) d f) (hH : Has Fr M [.obj c (.map (Z2 kv9 kv4 0 a) a.length), .obj x (.row 127 .whole [(.str g), d])]), J1 F y s u w z g f a = some r → Run Tryz.prog ⟨⟨43, [], none⟩, []⟩ 36 (z0c r) [(3, (.map c)), (5, (.ptr x 0)), (10, e), (11, (.int .i64 u)), (12, (.int .i64 w)), (25, (.bool z))] [Tu Tryz.prog 43 [1, 1, 1, 0, 1, 0, 0, 1, 1, 0, 0, 1, 0, 0] 10, T6 Tryz.prog 43 [1, 1, 1, 0, 1, 0, 0, 1, 1, 0, 0, 1, 0, 1], T6 Tryz.prog 43 [1, 1, 1, 0, 1, 0, 0, 1, 1, 0, 0, 1, 1], .inBlock 1, T6 Tryz.prog 43 [1, 1, 1, 0, 1, 0, 0, 1, 1, 1], Tv Tryz.prog 43 [1, 1, 1, 0, 1, 0, 0], .inBlock 0, T6 Tryz.prog 43 [1, 1, 1, 1]] M := by
 intro s u w z g f a e d c x Fr M r n m hH h
 rw [J1] at h
 refine mv rfl rfl ?_
 rcases btf (z) with b | b
 ·have h := Tm b h
  refine gn rfl rfl b rfl <| gn rfl rfl b rfl <| gn rfl rfl b rfl <| gn rfl rfl b rfl <| og (Tr rfl b rfl rfl) rfl <| Run.Wd ?_
  exact Run.pick [3, 5, 10, 11, 12, 31] (z1j F y p s u w true g f a e d c x _ _ _ n m hH h)
 ·have h := Tn b h
  refine gy rfl rfl b (T4 rfl z3d) rfl <| gy rfl rfl b (Tb rfl (hH.cells (i := 1) rfl 1 rfl) T5 z2w) rfl ?_
  obtain ⟨a0, q, h⟩ := T8 h
  refine Run.callP (Kp rfl rfl b) (Tl rfl zcp zbp) rfl (z3v F f d _ _ (hH.slcF m) q) <| gy rfl rfl b (Jh rfl) rfl <| og (Tt rfl b rfl rfl) rfl <| Run.Wd ?_
  exact Run.pick [3, 5, 10, 11, 12, 31] (z1j F y p s u w (!a0) g f a e d c x _ _ _ n m hH h)
def Tw (F : Nat) : Nat → List T2 → Int → Int → (List ((List UInt8) × Bool)) → Option Bool
 | 0, _, _, _, _ => none
 | N + 1, d, e, b, c =>
  bif (decide (b < e)) then
   bnd (idx d b) fun a =>
   bnd (Yr F a.Name) fun f =>
   bif (!f) then
    J1 F (Tw F N) d e b true a.Name a.Segments c
   else
    J1 F (Tw F N) d e b (mget eqB false c a.Name) a.Name a.Segments c
  else
   some true
theorem z3w (F : Nat) : ∀ (N : Nat), ∀ (a0 : List T2) (y z : Int) (a : (List ((List UInt8) × Bool))) (e : SV) (x : Pos) (Fr : Rd) (M : Mem) (r : Bool) (p : Slc Fr 2 (Tf Fr) e a0) (hH : Has Fr M [.obj x (.map (Z2 kv9 kv4 0 a) a.length)]), Tw F N a0 y z a = some r → Run Tryz.prog ⟨⟨43, [], none⟩, []⟩ 36 (z0c r) [(3, (.map x)), (10, e), (11, (.int .i64 y)), (12, (.int .i64 z))] [T6 Tryz.prog 43 [1, 1, 1, 0, 1, 0, 0], Tv Tryz.prog 43 [1, 1, 1, 0, 1, 0, 0], .inBlock 0, T6 Tryz.prog 43 [1, 1, 1, 1]] M := by
 intro N
 induction N with
 | zero =>
  intro a0 y z a e x Fr M r p hH h
  simp [Tw] at h
 | succ N ih =>
  intro a0 y z a e x Fr M r p hH h
  rw [Tw] at h
  refine Run.seq (Run.region ?_)
  refine og (Qz rfl rfl) rfl ?_
  refine Run.Wd (Run.seq ?_)
  rcases btf ((decide (z < y))) with m | m
  ·have h := Tm m h
   refine Run.Wf rfl m ?_
   refine Run.skip (Run.seq (Run.block (Run.seq (Run.region ?_))))
   obtain ⟨c, q, h⟩ := T8 h
   obtain ⟨a6, a5, _, q, u, ⟨f, rfl, n⟩⟩ := Jc (P := Tryz.prog) (t := 34) (kk := .i64) p q z84
   refine og (Q6 rfl rfl q) rfl <| og (Tj rfl (hH.ptrF u) T5 z7h rfl rfl rfl) rfl <| ox rfl (ExG.new (v := fun b => .ptr b 0) (Jz z9h) hH) ?_
   rintro _ a4 ⟨a1, rfl, s⟩
   refine ox rfl (ExG.Wg (c' := [(.str c.Name), f]) rfl rfl rfl s (i := 0) rfl zay rfl rfl rfl (Q0 rfl (Q0 (Qa n) Ym)) rfl) ?_
   rintro _ a2 ⟨rfl, (g : Has Fr a2 [.obj a1 (.row 127 .whole [(.str c.Name), f]), .obj x (.map (Z2 kv9 kv4 0 a) a.length)])⟩
   refine Run.Wd (Run.seq (Run.seq (Run.region ?_)))
   refine og (T4 rfl z4p) rfl <| og (Tb rfl (g.cells (i := 0) rfl 0 rfl) T5 z87) rfl ?_
   obtain ⟨a3, w, h⟩ := T8 h
   refine Run.callP T7 (Tl rfl zav za7) rfl (z5d F c.Name _ _ w) <| og (Jh rfl) rfl <| mv rfl rfl ?_
   rcases btf ((!a3)) with d | d
   ·have h := Tm d h
    refine gn rfl rfl d rfl <| gn rfl rfl d rfl <| gn rfl rfl d rfl <| gn rfl rfl d rfl <| og (Tr rfl d rfl rfl) rfl ?_
    exact Run.pick [3, 5, 10, 11, 12, 25] (z1i F (Tw F N) ih a0 y z true c.Name c.Segments a e f x a1 _ _ _ p n (g.pick [1, 0] rfl rfl) h)
   ·have h := Tn d h
    refine gy rfl rfl d (Tk rfl) rfl <| gy rfl rfl d (T4 rfl z4p) rfl <| gy rfl rfl d (Tb rfl (g.cells (i := 0) rfl 0 rfl) T5 z87) rfl <| gy rfl rfl d (ex_lookup (ke := kv9) (ve := kv4) (k := c.Name) rfl rfl g (i := 1) rfl z9e (z9f _) z9c z9d zaf) rfl <| og (Tt rfl d rfl rfl) rfl ?_
    exact Run.pick [3, 5, 10, 11, 12, 25] (z1i F (Tw F N) ih a0 y z (mget eqB false a c.Name) c.Name c.Segments a e f x a1 _ _ _ p n (g.pick [1, 0] rfl rfl) h)
  ·have h := Tn m h
   refine Run.We rfl m ?_
   refine Run.exit rfl (Run.seq (Run.region ?_))
   refine av rfl rfl <| Run.Wd ?_
   cases h
   exact Run.ret Tryz.func43 rfl (Tc rfl Te) rfl
def Qi (F : Nat) (a : List T2) : Option Bool :=
 bif (decide ((12 : Int) < (a.length : Int))) then
  some false
 else
  Tw F F a (a.length : Int) (0 : Int) ([] : List ((List UInt8) × Bool))
theorem z28 (F : Nat) (e : List T2) (f : SV) (r : Bool) (M : Mem) (a : Slc (rd M) 2 (Tf (rd M)) f e) (h : Qi F e = some r) : CallsM Tryz.prog 43 [f] M (fun s M' => s = (.bool r) ∧ M' = M) := by
 refine CallsM.plain Tryz.func43 rfl rfl rfl (show Run _ _ _ (z0c r) _ _ _ from ?_)
 rw [Qi] at h
 replace a := a.mono (T3 M) (fun _ _ => z00 (T3 M))
 have hH := Has.nil (frozen M)
 refine Run.seq (Run.region ?_)
 refine av rfl rfl ?_
 refine Run.Wd (Run.seq (Run.seq (Run.region ?_)))
 refine mv rfl rfl <| og (Q3 rfl a z63) rfl <| og (Xw rfl rfl) rfl <| Run.Wd ?_
 rcases btf ((decide ((12 : Int) < (e.length : Int)))) with hc21 | hc21
 ·have h := Tm hc21 h
  refine Run.Wf rfl hc21 ?_
  refine Run.seq (Run.region ?_)
  refine av rfl rfl <| Run.Wd ?_
  cases h
  exact Run.ret Tryz.func43 rfl (Tc rfl Te) rfl
 ·have h := Tn hc21 h
  refine Run.We rfl hc21 ?_
  refine Run.skip (Run.seq (Run.region ?_))
  refine ox rfl (ExG.makeMap kv9 kv4 hH) ?_
  rintro _ d ⟨c, rfl, b⟩
  refine av rfl rfl ?_
  refine Run.Wd (Run.seq (Run.seq (Run.region ?_)))
  refine mv rfl rfl <| og (Q3 rfl a z63) rfl <| mv rfl rfl ?_
  refine Run.Wd (Run.block (Run.loop ?_))
  exact Run.pick [3, 10, 11, 12] (z3w F F e (e.length : Int) (0 : Int) ([] : List ((List UInt8) × Bool)) f c _ _ _ a b h)
theorem zas : J8 Tryz.prog 43 = none := by kernel_rfl
theorem za4 : Ts Tryz.prog 43 = true := by kernel_rfl
abbrev z3b (r : Int) : SV → Mem → Prop := fun s _ => s = (.int .i64 r)
def Jn (F : Nat) (b : List T2) : Option Int :=
 bnd (Qi F b) fun a =>
 bif (!a) then
  some (63 : Int)
 else
  some (0 : Int)
theorem z3u (F : Nat) (e : List T2) (f : SV) (r : Int) (M : Mem) (a : Slc (rd M) 2 (Tf (rd M)) f e) (h : Jn F e = some r) : CallsM Tryz.prog 63 [f] M (fun s M' => s = (.int .i64 r) ∧ M' = M) := by
 refine CallsM.plain Tryz.func63 rfl rfl rfl (show Run _ _ _ (z3b r) _ _ _ from ?_)
 rw [Jn] at h
 replace a := a.mono (T3 M) (fun _ _ => z00 (T3 M))
 have hH := Has.nil (frozen M)
 refine Run.seq (Run.region ?_)
 refine av rfl rfl ?_
 refine Run.Wd (Run.seq (Run.seq (Run.region ?_)))
 refine mv rfl rfl ?_
 obtain ⟨c, d, h⟩ := T8 h
 refine Run.callP T7 (Tl rfl zas za4) rfl (z28 F e f _ _ ((a).mono hH.le (fun _ _ => z00 hH.le)) d) <| og (Jh rfl) rfl <| Run.Wd ?_
 rcases btf ((!c)) with b | b
 ·have h := Tm b h
  refine Run.Wf rfl b ?_
  refine Run.seq (Run.region ?_)
  refine av rfl rfl <| Run.Wd ?_
  cases h
  exact Run.ret Tryz.func63 rfl (Tc rfl Te) rfl
 ·have h := Tn b h
  refine Run.We rfl b ?_
  refine Run.skip (Run.seq (Run.region ?_))
  refine av rfl rfl <| Run.Wd ?_
  cases h
  exact Run.ret Tryz.func63 rfl (Tc rfl Te) rfl
theorem zcl : J8 Tryz.prog 63 = none := by kernel_rfl
theorem zbl : Ts Tryz.prog 63 = true := by kernel_rfl
theorem z5e : Gy Tryz.prog (Vu (atC Tryz.prog 36 [1, 0, 0, 1, 1, 0])) = some [.fl 0, .fl 1, .fl 2, .an 3 [1, 0], .an 4 [], .fl 5, .fl 6, .sync] := by kernel_rfl
abbrev z0s (r : Int) : SV → Mem → Prop := fun s _ => s = (.int .i64 r)
def Jv (F : Nat) (c : (List T2) → List T2 → Int → Option Int) (b d : List T2) (e : Int) (f : List T2) : Option Int :=
 bnd (Jn F f) fun a =>
 bif (!(a == (0 : Int))) then
  some a
 else
  c b d (w64 (e + 1))
theorem z2f (F : Nat) (u : (List T2) → List T2 → Int → Option Int) (q : ∀ (e f : List T2) (a : Int) (b d : SV) (Fr : Rd) (M : Mem) (r : Int) (g : Slc Fr 2 (Tf Fr) b e) (m : Slc Fr 2 (Tf Fr) d f) (hH : Has Fr M []), u e f a = some r → Run Tryz.prog ⟨⟨36, [], none⟩, []⟩ 36 (z0s r) [(26, (.agg [b, d])), (27, (.int .i64 a))] [T6 Tryz.prog 36 [1, 1, 0, 1, 0, 0], Tv Tryz.prog 36 [1, 1, 0, 1, 0, 0], .inBlock 1, T6 Tryz.prog 36 [1, 1, 1]] M) : ∀ (e f : List T2) (a : Int) (c : List T2) (b d n : SV) (Fr : Rd) (M : Mem) (r : Int) (g : Slc Fr 2 (Tf Fr) b e) (m : Slc Fr 2 (Tf Fr) d f) (p : Slc Fr 2 (Tf Fr) n c) (hH : Has Fr M []), Jv F u e f a c = some r → Run Tryz.prog ⟨⟨36, [], none⟩, []⟩ 36 (z0s r) [(26, (.agg [b, d])), (27, (.int .i64 a)), (29, n)] [Tu Tryz.prog 36 [1, 1, 0, 1, 0, 0, 1, 1, 0, 0, 0] 1, T6 Tryz.prog 36 [1, 1, 0, 1, 0, 0, 1, 1, 0, 0, 1], .inBlock 2, T6 Tryz.prog 36 [1, 1, 0, 1, 0, 0, 1, 1, 1], Tv Tryz.prog 36 [1, 1, 0, 1, 0, 0], .inBlock 1, T6 Tryz.prog 36 [1, 1, 1]] M := by
 intro e f a c b d n Fr M r g m p hH h
 rw [Jv] at h
 refine av rfl rfl ?_
 refine Run.Wd (Run.seq (Run.region ?_))
 refine mv rfl rfl ?_
 obtain ⟨w, s, h⟩ := T8 h
 refine Run.callP T7 (Tl rfl zcl zbl) rfl (z3u F c n _ _ ((p).mono hH.le (fun _ _ => z00 hH.le)) s) <| av rfl rfl ?_
 refine Run.Wd (Run.seq (Run.region ?_))
 refine mv rfl rfl <| og (Gd rfl rfl) rfl <| Run.Wd ?_
 rcases btf ((!(w == (0 : Int)))) with hc42 | hc42
 ·have h := Tm hc42 h
  refine Run.Wf rfl hc42 ?_
  refine Run.seq (Run.region ?_)
  refine mv rfl rfl <| av rfl rfl <| Run.Wd ?_
  cases h
  exact Run.ret Tryz.func36 rfl (Tc rfl Te) rfl
 ·have h := Tn hc42 h
  refine Run.We rfl hc42 ?_
  refine Run.skip (Run.inBlock (Run.region ?_))
  refine og (Qq rfl rfl) rfl <| mv rfl rfl ?_
  refine Run.Wd (Run.inLoop ?_)
  exact Run.pick [26, 27] (q e f (w64 (a + 1)) b d _ _ _ g m hH h)
def Q7 (F : Nat) : Nat → List T2 → List T2 → Int → Option Int
 | 0, _, _, _ => none
 | N + 1, b, d, a =>
  bif (decide (a < (2 : Int))) then
   bif (a == (0 : Int)) then
    Jv F (Q7 F N) b d a b
   else
    bif (a == (1 : Int)) then
     Jv F (Q7 F N) b d a d
    else
     none
  else
   some (0 : Int)
theorem z4z (F : Nat) : ∀ (N : Nat), ∀ (e f : List T2) (a : Int) (b d : SV) (Fr : Rd) (M : Mem) (r : Int) (g : Slc Fr 2 (Tf Fr) b e) (m : Slc Fr 2 (Tf Fr) d f) (hH : Has Fr M []), Q7 F N e f a = some r → Run Tryz.prog ⟨⟨36, [], none⟩, []⟩ 36 (z0s r) [(26, (.agg [b, d])), (27, (.int .i64 a))] [T6 Tryz.prog 36 [1, 1, 0, 1, 0, 0], Tv Tryz.prog 36 [1, 1, 0, 1, 0, 0], .inBlock 1, T6 Tryz.prog 36 [1, 1, 1]] M := by
 intro N
 induction N with
 | zero =>
  intro e f a b d Fr M r g m hH h
  simp [Q7] at h
 | succ N ih =>
  intro e f a b d Fr M r g m hH h
  rw [Q7] at h
  refine Run.seq (Run.region ?_)
  refine og (Qz rfl rfl) rfl ?_
  refine Run.Wd (Run.seq ?_)
  rcases btf ((decide (a < (2 : Int)))) with hc37 | hc37
  ·have h := Tm hc37 h
   refine Run.Wf rfl hc37 ?_
   refine Run.skip (Run.seq (Run.block (Run.seq (Run.region ?_))))
   rcases btf ((a == (0 : Int))) with hc38 | hc38
   ·have h := Tm hc38 h
    refine og (ex_idxA (j := 0) rfl rfl zaz (Gf hc38 rfl rfl) (Zk z72 rfl)) rfl ?_
    exact Run.pick [26, 27, 29] (z2f F (Q7 F N) ih e f a e b d b _ _ _ g m g hH h)
   ·have h := Tn hc38 h
    rcases btf ((a == (1 : Int))) with hc43 | hc43
    ·have h := Tm hc43 h
     refine og (ex_idxA (j := 1) rfl rfl zaz (Gf hc43 rfl rfl) (Zk z72 rfl)) rfl ?_
     exact Run.pick [26, 27, 29] (z2f F (Q7 F N) ih e f a f b d d _ _ _ g m m hH h)
    ·have h := Tn hc43 h
     cases h
  ·have h := Tn hc37 h
   refine Run.We rfl hc37 ?_
   refine Run.exit rfl (Run.seq (Run.region ?_))
   refine av rfl rfl <| Run.Wd ?_
   cases h
   exact Run.ret Tryz.func36 rfl (Tc rfl Te) rfl
def J7 (F : Nat) (e : Tz) : Option Int :=
 bnd (G5 F e.data) fun a =>
 bif (!a) then
  some (110 : Int)
 else
  bnd (Jb F e) fun b =>
  bnd (Gb F e.duties b) fun c =>
  bif (!c) then
   some (111 : Int)
  else
   bnd (Y2 F e.work e.duties) fun d =>
   bif (!d) then
    some (112 : Int)
   else
    Q7 F F e.vetoes.e0 e.vetoes.e1 (0 : Int)
theorem z3a (F : Nat) (a0 : Tz) (s0 s1 s2 s3 s4 s5 : SV) (r : Int) (M : Mem) (a : Slc (rd M) 3 (Ta Q9) s0 a0.duties) (c : Slc (rd M) 2 (Ta Tg) s1 a0.work) (q : Slc (rd M) 2 (Tf (rd M)) s2 a0.vetoes.e0) (u : Slc (rd M) 2 (Tf (rd M)) s3 a0.vetoes.e1) (w : Slc (rd M) 1 (Ta Qd) s4 a0.data.e0) (x : Slc (rd M) 1 (Ta Qd) s5 a0.data.e1) (h : J7 F a0 = some r) : CallsM Tryz.prog 36 [(.agg [s0, s1, s2, s3, s4, s5])] M (fun s M' => s = (.int .i64 r) ∧ M' = M) := by
 refine CallsM.plain Tryz.func36 rfl rfl rfl (show Run _ _ _ (z0s r) _ _ _ from ?_)
 rw [J7] at h
 replace a := a.mono (T3 M) (fun _ _ h => h)
 replace c := c.mono (T3 M) (fun _ _ h => h)
 replace q := q.mono (T3 M) (fun _ _ => z00 (T3 M))
 replace u := u.mono (T3 M) (fun _ _ => z00 (T3 M))
 replace w := w.mono (T3 M) (fun _ _ h => h)
 replace x := x.mono (T3 M) (fun _ _ h => h)
 have hH := Has.nil (frozen M)
 refine Run.seq (Run.region ?_)
 refine ox rfl (ExG.box rfl rfl hH) ?_
 rintro _ a3 ⟨a4, rfl, b⟩
 refine av rfl rfl ?_
 refine Run.Wd (Run.seq (Run.block (Run.seq (Run.region ?_))))
 refine og (T4 rfl z8t) rfl <| og (Tj rfl (b.cells (i := 0) rfl 4 rfl) T5 z8c rfl rfl rfl) rfl ?_
 obtain ⟨y, g, h⟩ := T8 h
 refine Run.callP T7 (Tl rfl zci zbi) rfl (z60 F a0.data s4 s5 _ _ (b.slcF w) (b.slcF x) g) <| og (Jh rfl) rfl <| av rfl rfl <| Run.Wd ?_
 rcases btf ((!y)) with d | d
 ·have h := Tm d h
  refine Run.Wf rfl d ?_
  refine Run.seq (Run.region ?_)
  refine av rfl rfl <| Run.Wd ?_
  cases h
  exact Run.ret Tryz.func36 rfl (Tc rfl Te) rfl
 ·have h := Tn d h
  refine Run.We rfl d <| Run.seq <| Run.drawG z5e <| df rfl (T4 rfl z5v) rfl <| df rfl (Tb rfl (b.cells (i := 0) rfl 0 rfl) T5 z3q) rfl <| df rfl (Tj rfl (b.cells (i := 0) rfl 0 rfl) T5 z4r rfl rfl rfl) rfl ?_
  obtain ⟨z, m, h⟩ := T8 h
  refine DrawG.callP rfl T7 (Tl rfl z8o z8j) rfl (z0v F a0 s0 s1 s2 s3 s4 s5 _ _ (b.slcF a) (b.slcF c) ((q).mono b.le (fun _ _ => z00 b.le)) ((u).mono b.le (fun _ _ => z00 b.le)) (b.slcF w) (b.slcF x) m) (G4 rfl (Yy T7 (Tb rfl (b.cells (i := 0) rfl 0 rfl) T5 z3q)) rfl rfl (G2 a) (G4 rfl (Yy T7 (T4 rfl z5v)) rfl rfl rfl Gx)) ?_
  obtain ⟨a1, n, h⟩ := T8 h
  refine DrawG.callP rfl T7 (Tl rfl zcj zbj) rfl (z6m F a0.duties z s0 _ _ (b.slcF a) n) Gx <| df rfl (Jh rfl) rfl <| df rfl (G8 rfl) rfl <| DrawG.sync <| DrawG.nil ?_
  rcases btf ((!a1)) with e | e
  ·have h := Tm e h
   refine Run.Wf rfl e ?_
   refine Run.seq (Run.region ?_)
   refine av rfl rfl <| Run.Wd ?_
   cases h
   exact Run.ret Tryz.func36 rfl (Tc rfl Te) rfl
  ·have h := Tn e h
   refine Run.We rfl e ?_
   refine Run.seq (Run.region ?_)
   refine og (T4 rfl z8r) rfl <| og (Tb rfl (b.cells (i := 0) rfl 1 rfl) T5 z2w) rfl <| og (T4 rfl z5v) rfl <| og (Tb rfl (b.cells (i := 0) rfl 0 rfl) T5 z3q) rfl ?_
   obtain ⟨a2, p, h⟩ := T8 h
   refine Run.callP T7 (Tl rfl zck zbk) rfl (z7r F a0.work a0.duties s1 s0 _ _ (b.slcF c) (b.slcF a) p) <| og (Jh rfl) rfl <| av rfl rfl <| Run.Wd ?_
   rcases btf ((!a2)) with f | f
   ·have h := Tm f h
    refine Run.Wf rfl f ?_
    refine Run.seq (Run.region ?_)
    refine av rfl rfl <| Run.Wd ?_
    cases h
    exact Run.ret Tryz.func36 rfl (Tc rfl Te) rfl
   ·have h := Tn f h
    refine Run.We rfl f ?_
    refine Run.skip (Run.inBlock (Run.seq (Run.seq (Run.region ?_))))
    refine og (T4 rfl z8s) rfl <| og (Tj rfl (b.cells (i := 0) rfl 2 rfl) T5 z8b rfl rfl rfl) rfl <| mv rfl rfl ?_
    refine Run.Wd (Run.block (Run.loop ?_))
    exact Run.pick [26, 27] (z4z F F a0.vetoes.e0 a0.vetoes.e1 (0 : Int) s2 s3 _ _ _ q u (b.pick [] rfl rfl) h)
theorem zaq : J8 Tryz.prog 36 = none := by kernel_rfl
theorem za2 : Ts Tryz.prog 36 = true := by kernel_rfl
theorem zcm : J8 Tryz.prog 64 = none := by kernel_rfl
theorem zbm : Ts Tryz.prog 64 = true := by kernel_rfl
abbrev z0g (f : List T1) (b : Int) (e : SV) (d : Pos) (Fr0 : Rd) (Hr : List Ent) (r : Int) : SV → Mem → Prop := fun s Me => s = (.int .i64 r) ∧ Has Fr0 Me (([.obj d (.row 3 .whole [(.int .i64 b)])] : List Ent) ++ Hr)
def Qf (F : Nat) (d : List T1) (b : Int) : Nat → List T1 → Int → Int → Option Int
 | 0, _, _, _ => none
 | N + 1, e, f, c =>
  bif (decide (c < f)) then
   bnd (idx e c) fun a =>
   bif (decide (b < a.To)) then
    some c
   else
    (Qf F d b N) e f (w64 (c + 1))
  else
   some ((-1) : Int)
theorem z2h (F : Nat) (p : List T1) (d : Int) (q : SV) (e : Pos) (Fr0 : Rd) (Hr : List Ent) : ∀ (N : Nat), ∀ (v0 : List T1) (v7 v8 : Int) (a : SV) (M : Mem) (r : Int) (u : Slc Fr0 3 (Ta Q9) a v0) (hH : Has Fr0 M (([.obj e (.row 3 .whole [(.int .i64 d)])] : List Ent) ++ Hr)), Qf F p d N v0 v7 v8 = some r → Run Tryz.prog ⟨⟨65, [], none⟩, []⟩ 19 (z0g p d q e Fr0 Hr r) [(0, a), (1, (.fn (.func 64) [] [(.ptr e 0)])), (7, (.int .i64 v7)), (8, (.int .i64 v8))] [T6 Tryz.prog 65 [1, 0, 1, 0, 0], Tv Tryz.prog 65 [1, 0, 1, 0, 0], .inBlock 0, T6 Tryz.prog 65 [1, 1]] M := by
 intro N
 induction N with
 | zero =>
  intro v0 v7 v8 a M r u hH h
  simp [Qf] at h
 | succ N ih =>
  intro v0 v7 v8 a M r u hH h
  rw [Qf] at h
  refine Run.seq (Run.region ?_)
  refine og (Qz rfl rfl) rfl ?_
  refine Run.Wd (Run.seq ?_)
  rcases btf ((decide (v8 < v7))) with g | g
  ·have h := Tm g h
   refine Run.Wf rfl g ?_
   refine Run.skip (Run.seq (Run.block (Run.seq (Run.region ?_))))
   refine mv rfl rfl <| av rfl rfl ?_
   refine Run.Wd (Run.seq (Run.region ?_))
   refine mv rfl rfl <| mv rfl rfl <| mv rfl rfl ?_
   obtain ⟨w, n, h⟩ := T8 h
   obtain ⟨a0, z, _, n, s, rfl⟩ := Jc (P := Tryz.prog) (t := 32) (kk := .i64) u n z7w
   refine og (Q6 rfl rfl n) rfl <| og (Tj rfl (hH.ptrF s) T5 z8g rfl rfl rfl) rfl <| Run.enter T7 (Y4 rfl rfl zcm zbm) Tryz.func64 rfl rfl ?_
   refine Run.seq (Run.region ?_)
   refine ox rfl (ExG.box rfl rfl hH) ?_
   rintro _ x ⟨y, rfl, (f : Has Fr0 x (([.obj y (.row 43 .whole [(.str w.Who), (.int .i64 w.From), (.int .i64 w.To)]), .obj e (.row 3 .whole [(.int .i64 d)])] : List Ent) ++ Hr))⟩
   refine av rfl rfl ?_
   refine Run.Wd (Run.seq (Run.region ?_))
   refine og (Tb rfl (f.cells (i := 1) rfl 0 rfl) T5 z10) rfl <| og (T4 rfl z47) rfl <| og (Tb rfl (f.cells (i := 0) rfl 2 rfl) T5 z10) rfl <| og (Qz rfl rfl) rfl <| av rfl rfl <| Run.Wd <| Run.Wi Tryz.func64 rfl (Tc rfl Te) rfl <| Run.Wd ?_
   rcases btf ((decide (d < w.To))) with m | m
   ·have h := Tm m h
    refine Run.Wf rfl m ?_
    refine Run.seq (Run.region ?_)
    refine mv rfl rfl <| av rfl rfl <| Run.Wd ?_
    cases h
    exact Run.ret Tryz.func65 rfl (Tc rfl Te) ⟨rfl, (f.pickT [1] rfl rfl).upF (fun b c hb => f.base b c hb)⟩
   ·have h := Tn m h
    refine Run.We rfl m ?_
    refine Run.skip (Run.inBlock (Run.region ?_))
    refine og (Qq rfl rfl) rfl <| mv rfl rfl ?_
    refine Run.Wd (Run.inLoop ?_)
    exact Run.pick [0, 1, 7, 8] (ih v0 v7 (w64 (v8 + 1)) a _ _ u (f.pickT [1] rfl rfl) h)
  ·have h := Tn g h
   refine Run.We rfl g ?_
   refine Run.exit rfl (Run.seq (Run.region ?_))
   refine av rfl rfl <| Run.Wd ?_
   cases h
   exact Run.ret Tryz.func65 rfl (Tc rfl Te) ⟨rfl, (hH.pickT [0] rfl rfl).upF (fun b c hb => hH.base b c hb)⟩
def Km (F : Nat) (b : List T1) (d : Int) : Option Int :=
 Qf F b d F b (b.length : Int) (0 : Int)
theorem z2u (F : Nat) : ∀ (e : List T1) (b : Int) (d : SV) (f : Pos) (Fr0 : Rd) (Hr : List Ent) (M : Mem) (r : Int) (g : Slc Fr0 3 (Ta Q9) d e) (hH : Has Fr0 M (([.obj f (.row 3 .whole [(.int .i64 b)])] : List Ent) ++ Hr)) (h : Km F e b = some r), CallsM Tryz.prog 65 [d, (.fn (.func 64) [] [(.ptr f 0)])] M (z0g e b d f Fr0 Hr r) := by
 intro e b d f Fr0 Hr M r g hH h
 refine CallsM.run Tryz.func65 rfl rfl (show Run _ _ _ (z0g e b d f Fr0 Hr r) _ _ _ from ?_)
 rw [Km] at h
 refine Run.seq (Run.region ?_)
 refine av rfl rfl ?_
 refine Run.Wd (Run.seq (Run.seq (Run.region ?_)))
 refine mv rfl rfl <| og (Q3 rfl g z7i) rfl <| mv rfl rfl ?_
 refine Run.Wd (Run.block (Run.loop ?_))
 exact Run.pick [0, 1, 7, 8] (z2h F e b d f Fr0 Hr F e (e.length : Int) (0 : Int) d _ _ g hH h)
theorem z80 : Gy Tryz.prog (Vu (atC Tryz.prog 38 [1, 1, 0])) = some [.fl 0, .fl 1, .fl 2, .fl 3, .fl 4, .an 5 [1, 0], .fl 6, .fl 7, .fl 8, .fl 9, .sync] := by kernel_rfl
abbrev z4n (r : List UInt8) : SV → Mem → Prop := fun s _ => s = (.str r)
def X3 (F : Nat) (c : Tz) (d : Int) : Option ((List UInt8)) :=
 bnd (Km F c.duties d) fun a =>
 bnd (idx c.duties a) fun b =>
 some b.Who
theorem z59 (F : Nat) (a0 : Tz) (a1 : Int) (s0 s1 s2 s3 s4 s5 : SV) (r : List UInt8) (M : Mem) (a : Slc (rd M) 3 (Ta Q9) s0 a0.duties) (q : Slc (rd M) 2 (Ta Tg) s1 a0.work) (u : Slc (rd M) 2 (Tf (rd M)) s2 a0.vetoes.e0) (w : Slc (rd M) 2 (Tf (rd M)) s3 a0.vetoes.e1) (x : Slc (rd M) 1 (Ta Qd) s4 a0.data.e0) (y : Slc (rd M) 1 (Ta Qd) s5 a0.data.e1) (h : X3 F a0 a1 = some r) : CallsM Tryz.prog 38 [(.agg [s0, s1, s2, s3, s4, s5]), (.int .i64 a1)] M (fun s M' => s = (.str r) ∧ M' = M) := by
 refine CallsM.plain Tryz.func38 rfl rfl rfl (show Run _ _ _ (z4n r) _ _ _ from ?_)
 rw [X3] at h
 replace a := a.mono (T3 M) (fun _ _ h => h)
 replace q := q.mono (T3 M) (fun _ _ h => h)
 replace u := u.mono (T3 M) (fun _ _ => z00 (T3 M))
 replace w := w.mono (T3 M) (fun _ _ => z00 (T3 M))
 replace x := x.mono (T3 M) (fun _ _ h => h)
 replace y := y.mono (T3 M) (fun _ _ h => h)
 have hH := Has.nil (frozen M)
 refine Run.seq (Run.region ?_)
 refine ox rfl (ExG.box rfl rfl hH) ?_
 rintro _ a2 ⟨c, rfl, f⟩
 refine ox rfl (ExG.box rfl rfl f) ?_
 rintro _ a3 ⟨p, rfl, b⟩
 refine av rfl rfl ?_
 refine Run.Wd (Run.seq (Run.region ?_))
 refine og (Zd rfl rfl) rfl <| av rfl rfl ?_
 refine Run.Wd (Run.seq ?_)
 refine Run.drawG z80 <| df rfl (T4 rfl z5v) rfl <| df rfl (Tb rfl (b.cells (i := 1) rfl 0 rfl) T5 z3q) rfl <| df rfl (T4 rfl z5v) rfl <| df rfl (Tb rfl (b.cells (i := 1) rfl 0 rfl) T5 z3q) rfl <| df rfl (Tk rfl) rfl ?_
 obtain ⟨a6, n, h⟩ := T8 h
 refine DrawG.call rfl T7 (Tl rfl zat za5) rfl (z2u F a0.duties a1 s0 p (ro (frozen M)) [.obj c (.row 85 .whole [s0, s1, s2, s3, s4, s5])] _ _ a b n) ?_
 rintro _ z ⟨rfl, (e : Has (ro (frozen M)) z [.obj p (.row 3 .whole [(.int .i64 a1)]), .obj c (.row 85 .whole [s0, s1, s2, s3, s4, s5])])⟩
 refine ⟨(G4 rfl (Yy T7 (Tb rfl (e.cells (i := 1) rfl 0 rfl) T5 z3q)) rfl rfl (G2 a) (G4 rfl (Yy T7 (T4 rfl z5v)) rfl rfl rfl Gx)), ?_⟩
 obtain ⟨a7, d, h⟩ := T8 h
 obtain ⟨a5, a4, _, d, g, rfl⟩ := Jc (P := Tryz.prog) (t := 32) (kk := .i64) a d z7w
 refine df rfl (Q6 rfl rfl d) rfl ?_
 have m := (g.fld (o := 0) rfl)
 refine df rfl (T4 rfl z44) rfl <| df rfl (Tb rfl (e.ptrF m) T5 z87) rfl <| df rfl (G8 rfl) rfl <| DrawG.sync <| DrawG.nil ?_
 cases h
 exact Run.ret Tryz.func38 rfl (Tc rfl Te) rfl
theorem zcc : J8 Tryz.prog 38 = none := by kernel_rfl
theorem zbc : Ts Tryz.prog 38 = true := by kernel_rfl
abbrev z6l (r : (List UInt8) × Int) : SV → Mem → Prop := fun s _ => s = (.tuple [(.str r.1), (.int .i64 r.2)])
def Yv (F : Nat) (e : Th) (f : Int) : Option ((List UInt8) × Int) :=
 bnd (J7 F (Tz.mk e.Duties e.Work e.Vetoes e.Data)) fun a =>
 bif (!(a == (0 : Int))) then
  some ([], a)
 else
  bnd (Jb F (Tz.mk e.Duties e.Work e.Vetoes e.Data)) fun b =>
  bnd (Gh F (0 : Int) f (w64 (b - 1))) fun c =>
  bif (!c) then
   some ([], (8 : Int))
  else
   bnd (X3 F (Tz.mk e.Duties e.Work e.Vetoes e.Data) f) fun d =>
   some (d, (0 : Int))
theorem z7f (F : Nat) (a0 : Th) (a1 : Int) (s0 s1 s2 s3 s4 s5 : SV) (r : (List UInt8) × Int) (M : Mem) (a : Slc (rd M) 3 (Ta Q9) s0 a0.Duties) (c : Slc (rd M) 2 (Ta Tg) s1 a0.Work) (y : Slc (rd M) 2 (Tf (rd M)) s2 a0.Vetoes.e0) (z : Slc (rd M) 2 (Tf (rd M)) s3 a0.Vetoes.e1) (a2 : Slc (rd M) 1 (Ta Qd) s4 a0.Data.e0) (a3 : Slc (rd M) 1 (Ta Qd) s5 a0.Data.e1) (h : Yv F a0 a1 = some r) : CallsM Tryz.prog 13 [(.agg [s0, s1, s2, s3, s4, s5]), (.int .i64 a1)] M (fun s M' => s = (.tuple [(.str r.1), (.int .i64 r.2)]) ∧ M' = M) := by
 refine CallsM.plain Tryz.func13 rfl rfl rfl (show Run _ _ _ (z6l r) _ _ _ from ?_)
 rw [Yv] at h
 replace a := a.mono (T3 M) (fun _ _ h => h)
 replace c := c.mono (T3 M) (fun _ _ h => h)
 replace y := y.mono (T3 M) (fun _ _ => z00 (T3 M))
 replace z := z.mono (T3 M) (fun _ _ => z00 (T3 M))
 replace a2 := a2.mono (T3 M) (fun _ _ h => h)
 replace a3 := a3.mono (T3 M) (fun _ _ h => h)
 have hH := Has.nil (frozen M)
 refine Run.seq (Run.region ?_)
 refine ox rfl (ExG.box rfl rfl hH) ?_
 rintro _ b3 ⟨a4, rfl, g⟩
 refine av rfl rfl <| av rfl rfl ?_
 refine Run.Wd (Run.seq (Run.region ?_))
 refine og (Tj rfl (g.cells (i := 0) rfl 0 rfl) T5 z1c rfl rfl rfl) rfl <| Run.enter T7 (Tl rfl z8n z8i) Tryz.func35 rfl rfl ?_
 refine Run.seq (Run.region ?_)
 refine ox rfl (ExG.box rfl rfl g) ?_
 rintro _ b4 ⟨a5, rfl, n⟩
 refine ox rfl (ExG.new (v := fun b => .ptr b 0) (Jz z71) n) ?_
 rintro _ b5 ⟨a6, rfl, e⟩
 refine Run.Wd (Run.seq (Run.region ?_))
 refine og (T4 rfl z1r) rfl <| og (Tb rfl (e.cells (i := 1) rfl 0 rfl) T5 z3q) rfl <| og (T4 rfl z2a) rfl <| og (Tb rfl (e.cells (i := 1) rfl 1 rfl) T5 z2w) rfl <| og (T4 rfl z2t) rfl <| og (Tj rfl (e.cells (i := 1) rfl 2 rfl) T5 z8b rfl rfl rfl) rfl <| og (T4 rfl z19) rfl <| og (Tj rfl (e.cells (i := 1) rfl 4 rfl) T5 z8c rfl rfl rfl) rfl <| og (Yk (r := [s0, s1, s2, s3, s4, s5]) rfl z71 z8u (by simp only [Zw, Gk (Qa a), Gk (Qa c)]; rfl)) rfl <| ox rfl (ExG.Wg (c' := [s0, s1, s2, s3, s4, s5]) rfl rfl rfl e (i := 0) rfl z9r rfl rfl rfl (Q0 (Qa a) (Q0 (Qa c) (Q0 (Qa y) (Q0 (Qa z) (Q0 (Qa a2) (Q0 (Qa a3) Ym)))))) rfl) ?_
 rintro _ a7 ⟨rfl, (m : Has (ro (frozen M)) a7 [.obj a6 (.row 85 .whole [s0, s1, s2, s3, s4, s5]), .obj a5 (.row 38 .whole [s0, s1, s2, s3, s4, s5]), .obj a4 (.row 38 .whole [s0, s1, s2, s3, s4, s5])])⟩
 refine Run.Wd <| Run.Wi Tryz.func35 rfl (Ze rfl (Vn (Tj rfl (m.cells (i := 0) rfl 0 rfl) T5 z4r rfl rfl rfl)) Te) rfl <| ox rfl (ExG.new (v := fun b => .ptr b 0) (Jz z71) m) ?_
 rintro _ b6 ⟨a9, rfl, p⟩
 refine ox rfl (ExG.Wg (c' := [s0, s1, s2, s3, s4, s5]) rfl rfl rfl p (i := 0) rfl z9r rfl rfl rfl (Q0 (Qa a) (Q0 (Qa c) (Q0 (Qa y) (Q0 (Qa z) (Q0 (Qa a2) (Q0 (Qa a3) Ym)))))) rfl) ?_
 rintro _ a8 ⟨rfl, (d : Has (ro (frozen M)) a8 [.obj a9 (.row 85 .whole [s0, s1, s2, s3, s4, s5]), .obj a6 (.row 85 .whole [s0, s1, s2, s3, s4, s5]), .obj a5 (.row 38 .whole [s0, s1, s2, s3, s4, s5]), .obj a4 (.row 38 .whole [s0, s1, s2, s3, s4, s5])])⟩
 refine Run.Wd (Run.seq (Run.seq (Run.region ?_)))
 refine og (Tj rfl (d.cells (i := 0) rfl 0 rfl) T5 z4r rfl rfl rfl) rfl ?_
 obtain ⟨b0, q, h⟩ := T8 h
 refine Run.callP T7 (Tl rfl zaq za2) rfl (z3a F (Tz.mk a0.Duties a0.Work a0.Vetoes a0.Data) s0 s1 s2 s3 s4 s5 _ _ (d.slcF a) (d.slcF c) ((y).mono d.le (fun _ _ => z00 d.le)) ((z).mono d.le (fun _ _ => z00 d.le)) (d.slcF a2) (d.slcF a3) q) <| av rfl rfl ?_
 refine Run.Wd (Run.block (Run.seq (Run.region ?_)))
 refine mv rfl rfl <| og (Gd rfl rfl) rfl <| av rfl rfl <| Run.Wd ?_
 rcases btf ((!(b0 == (0 : Int)))) with hc38 | hc38
 ·have h := Tm hc38 h
  refine Run.Wf rfl hc38 ?_
  refine Run.seq (Run.region ?_)
  refine mv rfl rfl <| av rfl rfl <| av rfl rfl <| Run.Wd ?_
  cases h
  exact Run.ret Tryz.func13 rfl (Tc rfl (Tc rfl Te)) rfl
 ·have h := Tn hc38 h
  refine Run.We rfl hc38 ?_
  refine Run.seq (Run.region ?_)
  refine mv rfl rfl <| og (Tj rfl (d.cells (i := 0) rfl 0 rfl) T5 z4r rfl rfl rfl) rfl ?_
  obtain ⟨b1, u, h⟩ := T8 h
  refine Run.callP T7 (Tl rfl z8o z8j) rfl (z0v F (Tz.mk a0.Duties a0.Work a0.Vetoes a0.Data) s0 s1 s2 s3 s4 s5 _ _ (d.slcF a) (d.slcF c) ((y).mono d.le (fun _ _ => z00 d.le)) ((z).mono d.le (fun _ _ => z00 d.le)) (d.slcF a2) (d.slcF a3) u) <| og (Vb rfl rfl) rfl ?_
  obtain ⟨b2, w, h⟩ := T8 h
  refine Run.callP T7 (Tl rfl z8e z8d) rfl (z12 F (0 : Int) a1 (w64 (b1 - 1)) _ _ w) <| og (Jh rfl) rfl <| av rfl rfl <| Run.Wd ?_
  rcases btf ((!b2)) with f | f
  ·have h := Tm f h
   refine Run.Wf rfl f ?_
   refine Run.seq (Run.region ?_)
   refine av rfl rfl <| av rfl rfl <| Run.Wd ?_
   cases h
   exact Run.ret Tryz.func13 rfl (Tc rfl (Tc rfl Te)) rfl
  ·have h := Tn f h
   refine Run.We rfl f ?_
   refine Run.skip (Run.inBlock (Run.seq (Run.region ?_)))
   refine og (Tj rfl (d.cells (i := 0) rfl 0 rfl) T5 z4r rfl rfl rfl) rfl <| mv rfl rfl ?_
   obtain ⟨b7, x, h⟩ := T8 h
   refine Run.callP T7 (Tl rfl zcc zbc) rfl (z59 F (Tz.mk a0.Duties a0.Work a0.Vetoes a0.Data) a1 s0 s1 s2 s3 s4 s5 _ _ (d.slcF a) (d.slcF c) ((y).mono d.le (fun _ _ => z00 d.le)) ((z).mono d.le (fun _ _ => z00 d.le)) (d.slcF a2) (d.slcF a3) x) <| av rfl rfl <| av rfl rfl <| Run.Wd ?_
   cases h
   exact Run.ret Tryz.func13 rfl (Tc rfl (Tc rfl Te)) rfl
theorem zc3 : J8 Tryz.prog 13 = none := by kernel_rfl
theorem zb3 : Ts Tryz.prog 13 = true := by kernel_rfl
abbrev z5g (r : Bool) : SV → Mem → Prop := fun s _ => s = (.bool r)
def Z4 (F : Nat) (a : Bool) : Option Bool :=
 some a
theorem z5f (F : Nat) : ∀ (a : Bool) (Fr : Rd) (M : Mem) (r : Bool) (hH : Has Fr M []), Z4 F a = some r → Run Tryz.prog ⟨⟨11, [], none⟩, []⟩ 15 (z5g r) [(14, (.bool a))] [Tu Tryz.prog 11 [1, 0] 8, T6 Tryz.prog 11 [1, 1]] M := by
 intro a Fr M r hH h
 rw [Z4] at h
 refine av rfl rfl <| Run.Wd ?_
 cases h
 exact Run.ret Tryz.func11 rfl (Tc rfl Te) rfl
def X2 (F : Nat) (a b c : Int) : Option Bool :=
 bif (decide (b ≤ a)) then
  Z4 F (decide (a ≤ c))
 else
  Z4 F false
theorem z0x (F : Nat) (a c d : Int) (r : Bool) (M : Mem) (h : X2 F a c d = some r) : CallsM Tryz.prog 11 [(.int .i64 a), (.int .i64 c), (.int .i64 d)] M (fun s M' => s = (.bool r) ∧ M' = M) := by
 refine CallsM.plain Tryz.func11 rfl rfl rfl (show Run _ _ _ (z5g r) _ _ _ from ?_)
 rw [X2] at h
 have hH := Has.nil (frozen M)
 refine Run.seq (Run.region ?_)
 refine av rfl rfl ?_
 refine Run.Wd (Run.seq (Run.region ?_))
 refine mv rfl rfl <| mv rfl rfl <| og (Xy rfl rfl) rfl <| mv rfl rfl ?_
 rcases btf ((decide (c ≤ a))) with b | b
 ·have h := Tm b h
  refine gy rfl rfl b (Tk rfl) rfl <| gy rfl rfl b (Tk rfl) rfl <| gy rfl rfl b (Xy rfl rfl) rfl <| og (Tr rfl b rfl rfl) rfl ?_
  exact Run.pick [14] (z5f F (decide (a ≤ d)) _ _ _ hH h)
 ·have h := Tn b h
  refine gn rfl rfl b rfl <| gn rfl rfl b rfl <| gn rfl rfl b rfl <| og (Tt rfl b rfl rfl) rfl ?_
  exact Run.pick [14] (z5f F false _ _ _ hH h)
theorem z7z : J8 Tryz.prog 11 = none := by kernel_rfl
theorem z7v : Ts Tryz.prog 11 = true := by kernel_rfl
abbrev z03 (r : Bool) : SV → Mem → Prop := fun s _ => s = (.bool r)
def Xv (F : Nat) (a : Int → Int → Int → List T1 → List T0 → List T2 → List T2 → List Int → List Int → Option Bool) (s u q : Int) (d : List T1) (e : List T0) (f g : List T2) (b m : List Int) : Option Bool :=
 bnd (idx b q) fun p =>
 bnd (X2 F p ((-4096) : Int) (4096 : Int)) fun c =>
 bif (!c) then
  some false
 else
  a s u (w64 (q + 1)) d e f g b m
theorem z5l (F : Nat) (c : Int → Int → Int → List T1 → List T0 → List T2 → List T2 → List Int → List Int → Option Bool) (a6 : ∀ (v3 v4 v5 : Int) (n : List T1) (p : List T0) (q s : List T2) (u w : List Int) (b d e f g m : SV) (a : Pos) (Fr : Rd) (M : Mem) (r : Bool) (y : Slc Fr 3 (Ta Q9) b n) (a0 : Slc Fr 2 (Ta Tg) d p) (a1 : Slc Fr 2 (Tf Fr) e q) (a2 : Slc Fr 2 (Tf Fr) f s) (x : Slc Fr 1 (Ta Qd) g u) (a3 : Slc Fr 1 (Ta Qd) m w) (hH : Has Fr M [.obj a (.row 38 .whole [b, d, e, f, g, m])]), c v3 v4 v5 n p q s u w = some r → Run Tryz.prog ⟨⟨80, [], none⟩, []⟩ 39 (z03 r) [(1, (.ptr a 0)), (3, (.int .i64 v3)), (4, (.int .i64 v4)), (5, (.int .i64 v5))] [T6 Tryz.prog 80 [1, 1, 1, 0, 1, 0, 0, 1, 0, 0, 1, 0, 0], Tv Tryz.prog 80 [1, 1, 1, 0, 1, 0, 0, 1, 0, 0, 1, 0, 0], .inBlock 2, .inBlock 1, T6 Tryz.prog 80 [1, 1, 1, 0, 1, 0, 0, 1, 1], Tv Tryz.prog 80 [1, 1, 1, 0, 1, 0, 0], .inBlock 0, T6 Tryz.prog 80 [1, 1, 1, 1]] M) : ∀ (v3 v4 v5 : Int) (n : List T1) (p : List T0) (q s : List T2) (u w : List Int) (b d e f g m : SV) (a : Pos) (Fr : Rd) (M : Mem) (r : Bool) (y : Slc Fr 3 (Ta Q9) b n) (a0 : Slc Fr 2 (Ta Tg) d p) (a1 : Slc Fr 2 (Tf Fr) e q) (a2 : Slc Fr 2 (Tf Fr) f s) (x : Slc Fr 1 (Ta Qd) g u) (a3 : Slc Fr 1 (Ta Qd) m w) (hH : Has Fr M [.obj a (.row 38 .whole [b, d, e, f, g, m])]), Xv F c v3 v4 v5 n p q s u w = some r → Run Tryz.prog ⟨⟨80, [], none⟩, []⟩ 39 (z03 r) [(1, (.ptr a 0)), (3, (.int .i64 v3)), (4, (.int .i64 v4)), (5, (.int .i64 v5)), (32, (.ptr a 4))] [Tu Tryz.prog 80 [1, 1, 1, 0, 1, 0, 0, 1, 0, 0, 1, 0, 0, 1, 0, 0, 0] 3, T6 Tryz.prog 80 [1, 1, 1, 0, 1, 0, 0, 1, 0, 0, 1, 0, 0, 1, 0, 0, 1], .inBlock 3, T6 Tryz.prog 80 [1, 1, 1, 0, 1, 0, 0, 1, 0, 0, 1, 0, 0, 1, 1], Tv Tryz.prog 80 [1, 1, 1, 0, 1, 0, 0, 1, 0, 0, 1, 0, 0], .inBlock 2, .inBlock 1, T6 Tryz.prog 80 [1, 1, 1, 0, 1, 0, 0, 1, 1], Tv Tryz.prog 80 [1, 1, 1, 0, 1, 0, 0], .inBlock 0, T6 Tryz.prog 80 [1, 1, 1, 1]] M := by
 intro v3 v4 v5 n p q s u w b d e f g m a Fr M r y a0 a1 a2 x a3 hH h
 rw [Xv] at h
 refine og (Tb rfl (hH.cells (i := 0) rfl 4 rfl) T5 z4q) rfl <| mv rfl rfl ?_
 obtain ⟨a9, a5, h⟩ := T8 h
 obtain ⟨b1, b0, _, a5, a7, rfl⟩ := Jc (P := Tryz.prog) (t := 24) (kk := .i64) x a5 z8k
 refine og (Q6 rfl rfl a5) rfl <| og (Tb rfl (hH.ptrF a7) T5 z10) rfl ?_
 obtain ⟨z, a8, h⟩ := T8 h
 refine Run.callP T7 (Tl rfl z7z z7v) rfl (z0x F a9 ((-4096) : Int) (4096 : Int) _ _ a8) <| og (Jh rfl) rfl <| Run.Wd ?_
 rcases btf ((!z)) with a4 | a4
 ·have h := Tm a4 h
  refine Run.Wf rfl a4 ?_
  refine Run.seq (Run.region ?_)
  refine av rfl rfl <| Run.Wd ?_
  cases h
  exact Run.ret Tryz.func80 rfl (Tc rfl Te) rfl
 ·have h := Tn a4 h
  refine Run.We rfl a4 ?_
  refine Run.skip (Run.inBlock (Run.region ?_))
  refine mv rfl rfl <| og (Qq rfl rfl) rfl <| av rfl rfl ?_
  refine Run.Wd (Run.inLoop ?_)
  exact Run.pick [1, 3, 4, 5] (a6 v3 v4 (w64 (v5 + 1)) n p q s u w b d e f g m a _ _ _ y a0 a1 a2 x a3 hH h)
def Xj (F : Nat) (a : Int → Int → Int → List T1 → List T0 → List T2 → List T2 → List Int → List Int → Option Bool) (s u q : Int) (d : List T1) (e : List T0) (f g : List T2) (m b : List Int) : Option Bool :=
 bnd (idx b q) fun p =>
 bnd (X2 F p ((-4096) : Int) (4096 : Int)) fun c =>
 bif (!c) then
  some false
 else
  a s u (w64 (q + 1)) d e f g m b
theorem z5m (F : Nat) (c : Int → Int → Int → List T1 → List T0 → List T2 → List T2 → List Int → List Int → Option Bool) (a6 : ∀ (v3 v4 v5 : Int) (n : List T1) (p : List T0) (q s : List T2) (u w : List Int) (b d e f g m : SV) (a : Pos) (Fr : Rd) (M : Mem) (r : Bool) (y : Slc Fr 3 (Ta Q9) b n) (a0 : Slc Fr 2 (Ta Tg) d p) (a1 : Slc Fr 2 (Tf Fr) e q) (a2 : Slc Fr 2 (Tf Fr) f s) (a3 : Slc Fr 1 (Ta Qd) g u) (x : Slc Fr 1 (Ta Qd) m w) (hH : Has Fr M [.obj a (.row 38 .whole [b, d, e, f, g, m])]), c v3 v4 v5 n p q s u w = some r → Run Tryz.prog ⟨⟨80, [], none⟩, []⟩ 39 (z03 r) [(1, (.ptr a 0)), (3, (.int .i64 v3)), (4, (.int .i64 v4)), (5, (.int .i64 v5))] [T6 Tryz.prog 80 [1, 1, 1, 0, 1, 0, 0, 1, 0, 0, 1, 0, 0], Tv Tryz.prog 80 [1, 1, 1, 0, 1, 0, 0, 1, 0, 0, 1, 0, 0], .inBlock 2, .inBlock 1, T6 Tryz.prog 80 [1, 1, 1, 0, 1, 0, 0, 1, 1], Tv Tryz.prog 80 [1, 1, 1, 0, 1, 0, 0], .inBlock 0, T6 Tryz.prog 80 [1, 1, 1, 1]] M) : ∀ (v3 v4 v5 : Int) (n : List T1) (p : List T0) (q s : List T2) (u w : List Int) (b d e f g m : SV) (a : Pos) (Fr : Rd) (M : Mem) (r : Bool) (y : Slc Fr 3 (Ta Q9) b n) (a0 : Slc Fr 2 (Ta Tg) d p) (a1 : Slc Fr 2 (Tf Fr) e q) (a2 : Slc Fr 2 (Tf Fr) f s) (a3 : Slc Fr 1 (Ta Qd) g u) (x : Slc Fr 1 (Ta Qd) m w) (hH : Has Fr M [.obj a (.row 38 .whole [b, d, e, f, g, m])]), Xj F c v3 v4 v5 n p q s u w = some r → Run Tryz.prog ⟨⟨80, [], none⟩, []⟩ 39 (z03 r) [(1, (.ptr a 0)), (3, (.int .i64 v3)), (4, (.int .i64 v4)), (5, (.int .i64 v5)), (32, (.ptr a 5))] [Tu Tryz.prog 80 [1, 1, 1, 0, 1, 0, 0, 1, 0, 0, 1, 0, 0, 1, 0, 0, 0] 3, T6 Tryz.prog 80 [1, 1, 1, 0, 1, 0, 0, 1, 0, 0, 1, 0, 0, 1, 0, 0, 1], .inBlock 3, T6 Tryz.prog 80 [1, 1, 1, 0, 1, 0, 0, 1, 0, 0, 1, 0, 0, 1, 1], Tv Tryz.prog 80 [1, 1, 1, 0, 1, 0, 0, 1, 0, 0, 1, 0, 0], .inBlock 2, .inBlock 1, T6 Tryz.prog 80 [1, 1, 1, 0, 1, 0, 0, 1, 1], Tv Tryz.prog 80 [1, 1, 1, 0, 1, 0, 0], .inBlock 0, T6 Tryz.prog 80 [1, 1, 1, 1]] M := by
 intro v3 v4 v5 n p q s u w b d e f g m a Fr M r y a0 a1 a2 a3 x hH h
 rw [Xj] at h
 refine og (Tb rfl (hH.cells (i := 0) rfl 5 rfl) T5 z4q) rfl <| mv rfl rfl ?_
 obtain ⟨a9, a5, h⟩ := T8 h
 obtain ⟨b1, b0, _, a5, a7, rfl⟩ := Jc (P := Tryz.prog) (t := 24) (kk := .i64) x a5 z8k
 refine og (Q6 rfl rfl a5) rfl <| og (Tb rfl (hH.ptrF a7) T5 z10) rfl ?_
 obtain ⟨z, a8, h⟩ := T8 h
 refine Run.callP T7 (Tl rfl z7z z7v) rfl (z0x F a9 ((-4096) : Int) (4096 : Int) _ _ a8) <| og (Jh rfl) rfl <| Run.Wd ?_
 rcases btf ((!z)) with a4 | a4
 ·have h := Tm a4 h
  refine Run.Wf rfl a4 ?_
  refine Run.seq (Run.region ?_)
  refine av rfl rfl <| Run.Wd ?_
  cases h
  exact Run.ret Tryz.func80 rfl (Tc rfl Te) rfl
 ·have h := Tn a4 h
  refine Run.We rfl a4 ?_
  refine Run.skip (Run.inBlock (Run.region ?_))
  refine mv rfl rfl <| og (Qq rfl rfl) rfl <| av rfl rfl ?_
  refine Run.Wd (Run.inLoop ?_)
  exact Run.pick [1, 3, 4, 5] (a6 v3 v4 (w64 (v5 + 1)) n p q s u w b d e f g m a _ _ _ y a0 a1 a2 a3 x hH h)
def J2 (F : Nat) (a : Int → Int → List T1 → List T0 → List T2 → List T2 → List Int → List Int → Option Bool) : Nat → Int → Int → Int → List T1 → List T0 → List T2 → List T2 → List Int → List Int → Option Bool
 | 0, _, _, _, _, _, _, _, _, _ => none
 | N + 1, p, c, q, b, d, e, f, g, m =>
  bif (decide (q < p)) then
   bif (c == (0 : Int)) then
    Xv F (J2 F a N) p c q b d e f g m
   else
    bif (c == (1 : Int)) then
     Xj F (J2 F a N) p c q b d e f g m
    else
     none
  else
   a p (w64 (c + 1)) b d e f g m
theorem z5k (F : Nat) (c : Int → Int → List T1 → List T0 → List T2 → List T2 → List Int → List Int → Option Bool) (a5 : ∀ (v3 z : Int) (n : List T1) (p : List T0) (q s : List T2) (u w : List Int) (b d e f g m : SV) (a : Pos) (Fr : Rd) (M : Mem) (r : Bool) (x : Slc Fr 3 (Ta Q9) b n) (y : Slc Fr 2 (Ta Tg) d p) (a0 : Slc Fr 2 (Tf Fr) e q) (a1 : Slc Fr 2 (Tf Fr) f s) (a2 : Slc Fr 1 (Ta Qd) g u) (a3 : Slc Fr 1 (Ta Qd) m w) (hH : Has Fr M [.obj a (.row 38 .whole [b, d, e, f, g, m])]), c v3 z n p q s u w = some r → Run Tryz.prog ⟨⟨80, [], none⟩, []⟩ 39 (z03 r) [(1, (.ptr a 0)), (3, (.int .i64 v3)), (4, (.int .i64 z))] [T6 Tryz.prog 80 [1, 1, 1, 0, 1, 0, 0], Tv Tryz.prog 80 [1, 1, 1, 0, 1, 0, 0], .inBlock 0, T6 Tryz.prog 80 [1, 1, 1, 1]] M) : ∀ (N : Nat), ∀ (v3 z v5 : Int) (n : List T1) (p : List T0) (q s : List T2) (u w : List Int) (b d e f g m : SV) (a : Pos) (Fr : Rd) (M : Mem) (r : Bool) (x : Slc Fr 3 (Ta Q9) b n) (y : Slc Fr 2 (Ta Tg) d p) (a0 : Slc Fr 2 (Tf Fr) e q) (a1 : Slc Fr 2 (Tf Fr) f s) (a2 : Slc Fr 1 (Ta Qd) g u) (a3 : Slc Fr 1 (Ta Qd) m w) (hH : Has Fr M [.obj a (.row 38 .whole [b, d, e, f, g, m])]), J2 F c N v3 z v5 n p q s u w = some r → Run Tryz.prog ⟨⟨80, [], none⟩, []⟩ 39 (z03 r) [(1, (.ptr a 0)), (3, (.int .i64 v3)), (4, (.int .i64 z)), (5, (.int .i64 v5))] [T6 Tryz.prog 80 [1, 1, 1, 0, 1, 0, 0, 1, 0, 0, 1, 0, 0], Tv Tryz.prog 80 [1, 1, 1, 0, 1, 0, 0, 1, 0, 0, 1, 0, 0], .inBlock 2, .inBlock 1, T6 Tryz.prog 80 [1, 1, 1, 0, 1, 0, 0, 1, 1], Tv Tryz.prog 80 [1, 1, 1, 0, 1, 0, 0], .inBlock 0, T6 Tryz.prog 80 [1, 1, 1, 1]] M := by
 intro N
 induction N with
 | zero =>
  intro v3 z v5 n p q s u w b d e f g m a Fr M r x y a0 a1 a2 a3 hH h
  simp [J2] at h
 | succ N ih =>
  intro v3 z v5 n p q s u w b d e f g m a Fr M r x y a0 a1 a2 a3 hH h
  rw [J2] at h
  refine Run.seq (Run.seq (Run.region ?_))
  refine mv rfl rfl <| mv rfl rfl <| og (Qz rfl rfl) rfl <| Run.Wd ?_
  rcases btf ((decide (v5 < v3))) with a4 | a4
  ·have h := Tm a4 h
   refine Run.Wf rfl a4 ?_
   refine Run.skip (Run.seq (Run.block (Run.seq (Run.region ?_))))
   refine mv rfl rfl <| og (T4 rfl z19) rfl ?_
   rcases btf ((z == (0 : Int))) with hc34 | hc34
   ·have h := Tm hc34 h
    refine og (Q6 rfl rfl (Qr (j := 0) (Gf hc34 rfl rfl) z4s)) rfl ?_
    exact Run.pick [1, 3, 4, 5, 32] (z5l F (J2 F c N) ih v3 z v5 n p q s u w b d e f g m a _ _ _ x y a0 a1 a2 a3 hH h)
   ·have h := Tn hc34 h
    rcases btf ((z == (1 : Int))) with hc45 | hc45
    ·have h := Tm hc45 h
     refine og (Q6 rfl rfl (Qr (j := 1) (Gf hc45 rfl rfl) z4s)) rfl ?_
     exact Run.pick [1, 3, 4, 5, 32] (z5m F (J2 F c N) ih v3 z v5 n p q s u w b d e f g m a _ _ _ x y a0 a1 a2 a3 hH h)
    ·have h := Tn hc45 h
     cases h
  ·have h := Tn a4 h
   refine Run.We rfl a4 ?_
   refine Run.exit rfl (Run.inBlock (Run.region ?_))
   refine mv rfl rfl <| og (Qq rfl rfl) rfl <| av rfl rfl ?_
   refine Run.Wd (Run.inLoop ?_)
   exact Run.pick [1, 3, 4] (a5 v3 (w64 (z + 1)) n p q s u w b d e f g m a _ _ _ x y a0 a1 a2 a3 hH h)
def Qv (F : Nat) : Nat → Int → Int → List T1 → List T0 → List T2 → List T2 → List Int → List Int → Option Bool
 | 0, _, _, _, _, _, _, _, _ => none
 | N + 1, c, a, b, d, e, f, g, m =>
  bif (decide (a < (2 : Int))) then
   J2 F (Qv F N) F c a (0 : Int) b d e f g m
  else
   some true
theorem z5j (F : Nat) : ∀ (N : Nat), ∀ (z c : Int) (n : List T1) (p : List T0) (q s : List T2) (u w : List Int) (b d e f g m : SV) (a : Pos) (Fr : Rd) (M : Mem) (r : Bool) (x : Slc Fr 3 (Ta Q9) b n) (y : Slc Fr 2 (Ta Tg) d p) (a0 : Slc Fr 2 (Tf Fr) e q) (a1 : Slc Fr 2 (Tf Fr) f s) (a2 : Slc Fr 1 (Ta Qd) g u) (a3 : Slc Fr 1 (Ta Qd) m w) (hH : Has Fr M [.obj a (.row 38 .whole [b, d, e, f, g, m])]), Qv F N z c n p q s u w = some r → Run Tryz.prog ⟨⟨80, [], none⟩, []⟩ 39 (z03 r) [(1, (.ptr a 0)), (3, (.int .i64 z)), (4, (.int .i64 c))] [T6 Tryz.prog 80 [1, 1, 1, 0, 1, 0, 0], Tv Tryz.prog 80 [1, 1, 1, 0, 1, 0, 0], .inBlock 0, T6 Tryz.prog 80 [1, 1, 1, 1]] M := by
 intro N
 induction N with
 | zero =>
  intro z c n p q s u w b d e f g m a Fr M r x y a0 a1 a2 a3 hH h
  simp [Qv] at h
 | succ N ih =>
  intro z c n p q s u w b d e f g m a Fr M r x y a0 a1 a2 a3 hH h
  rw [Qv] at h
  refine Run.seq (Run.seq (Run.region ?_))
  refine mv rfl rfl <| og (Qz rfl rfl) rfl <| Run.Wd ?_
  rcases btf ((decide (c < (2 : Int)))) with hc30 | hc30
  ·have h := Tm hc30 h
   refine Run.Wf rfl hc30 ?_
   refine Run.skip (Run.seq (Run.block (Run.seq (Run.region ?_))))
   refine av rfl rfl ?_
   refine Run.Wd (Run.block (Run.loop ?_))
   exact Run.pick [1, 3, 4, 5] (z5k F (Qv F N) ih F z c (0 : Int) n p q s u w b d e f g m a _ _ _ x y a0 a1 a2 a3 hH h)
  ·have h := Tn hc30 h
   refine Run.We rfl hc30 ?_
   refine Run.exit rfl (Run.seq (Run.region ?_))
   refine av rfl rfl <| Run.Wd ?_
   cases h
   exact Run.ret Tryz.func80 rfl (Tc rfl Te) rfl
def Gj (F : Nat) (c : Int) (a : Bool) (b : List T1) (d : List T0) (e f : List T2) (g m : List Int) : Option Bool :=
 bif a then
  some false
 else
  Qv F F c (0 : Int) b d e f g m
theorem z2n (F : Nat) : ∀ (z : Int) (c : Bool) (n : List T1) (p : List T0) (q s : List T2) (u w : List Int) (b d e f g m : SV) (a : Pos) (Fr : Rd) (M : Mem) (r : Bool) (y : Slc Fr 3 (Ta Q9) b n) (a0 : Slc Fr 2 (Ta Tg) d p) (a1 : Slc Fr 2 (Tf Fr) e q) (a2 : Slc Fr 2 (Tf Fr) f s) (a3 : Slc Fr 1 (Ta Qd) g u) (a4 : Slc Fr 1 (Ta Qd) m w) (hH : Has Fr M [.obj a (.row 38 .whole [b, d, e, f, g, m])]), Gj F z c n p q s u w = some r → Run Tryz.prog ⟨⟨80, [], none⟩, []⟩ 39 (z03 r) [(1, (.ptr a 0)), (3, (.int .i64 z)), (20, (.bool c))] [T6 Tryz.prog 80 [1, 1, 0, 1], T6 Tryz.prog 80 [1, 1, 1]] M := by
 intro z c n p q s u w b d e f g m a Fr M r y a0 a1 a2 a3 a4 hH h
 rw [Gj] at h
 rcases btf (c) with x | x
 ·have h := Tm x h
  refine Run.Wf rfl x ?_
  refine Run.seq (Run.region ?_)
  refine av rfl rfl <| Run.Wd ?_
  cases h
  exact Run.ret Tryz.func80 rfl (Tc rfl Te) rfl
 ·have h := Tn x h
  refine Run.We rfl x ?_
  refine Run.skip (Run.seq (Run.seq (Run.region ?_)))
  refine av rfl rfl ?_
  refine Run.Wd (Run.block (Run.loop ?_))
  exact Run.pick [1, 3, 4] (z5j F F z (0 : Int) n p q s u w b d e f g m a _ _ _ y a0 a1 a2 a3 a4 hH h)
def Xt (F : Nat) (b : Th) : Option Bool :=
 bif (!((b.Data.e0.length : Int) == (b.Data.e1.length : Int))) then
  Gj F (b.Data.e0.length : Int) true b.Duties b.Work b.Vetoes.e0 b.Vetoes.e1 b.Data.e0 b.Data.e1
 else
  bnd (X2 F (b.Data.e0.length : Int) (1 : Int) (512 : Int)) fun a =>
  Gj F (b.Data.e0.length : Int) (!a) b.Duties b.Work b.Vetoes.e0 b.Vetoes.e1 b.Data.e0 b.Data.e1
theorem z6k (F : Nat) (w : Th) (x y z s3 s4 s5 : SV) (r : Bool) (M : Mem) (e : Slc (rd M) 3 (Ta Q9) x w.Duties) (f : Slc (rd M) 2 (Ta Tg) y w.Work) (g : Slc (rd M) 2 (Tf (rd M)) z w.Vetoes.e0) (m : Slc (rd M) 2 (Tf (rd M)) s3 w.Vetoes.e1) (a : Slc (rd M) 1 (Ta Qd) s4 w.Data.e0) (c : Slc (rd M) 1 (Ta Qd) s5 w.Data.e1) (h : Xt F w = some r) : CallsM Tryz.prog 80 [(.agg [x, y, z, s3, s4, s5])] M (fun s M' => s = (.bool r) ∧ M' = M) := by
 refine CallsM.plain Tryz.func80 rfl rfl rfl (show Run _ _ _ (z03 r) _ _ _ from ?_)
 rw [Xt] at h
 replace e := e.mono (T3 M) (fun _ _ h => h)
 replace f := f.mono (T3 M) (fun _ _ h => h)
 replace g := g.mono (T3 M) (fun _ _ => z00 (T3 M))
 replace m := m.mono (T3 M) (fun _ _ => z00 (T3 M))
 replace a := a.mono (T3 M) (fun _ _ h => h)
 replace c := c.mono (T3 M) (fun _ _ h => h)
 have hH := Has.nil (frozen M)
 refine Run.seq (Run.region ?_)
 refine ox rfl (ExG.box rfl rfl hH) ?_
 rintro _ u ⟨p, rfl, b⟩
 refine av rfl rfl ?_
 refine Run.Wd (Run.seq (Run.region ?_))
 refine og (T4 rfl z19) rfl <| og (Q6 rfl rfl (Qr (j := 0) rfl z4s)) rfl <| og (Tb rfl (b.cells (i := 0) rfl 4 rfl) T5 z4q) rfl <| og (Q3 rfl a z1u) rfl <| av rfl rfl ?_
 refine Run.Wd (Run.seq (Run.seq (Run.region ?_)))
 refine mv rfl rfl <| og (T4 rfl z19) rfl <| og (Q6 rfl rfl (Qr (j := 1) rfl z4s)) rfl <| og (Tb rfl (b.cells (i := 0) rfl 5 rfl) T5 z4q) rfl <| og (Q3 rfl c z1u) rfl <| og (Gd rfl rfl) rfl <| mv rfl rfl ?_
 rcases btf ((!((w.Data.e0.length : Int) == (w.Data.e1.length : Int)))) with hc28 | hc28
 ·have h := Tm hc28 h
  refine gn rfl rfl hc28 rfl <| gn rfl rfl hc28 rfl <| gn rfl rfl hc28 rfl <| og (Tr rfl hc28 rfl rfl) rfl <| Run.Wd ?_
  exact Run.pick [1, 3, 20] (z2n F (w.Data.e0.length : Int) true w.Duties w.Work w.Vetoes.e0 w.Vetoes.e1 w.Data.e0 w.Data.e1 x y z s3 s4 s5 p _ _ _ e f g m a c b h)
 ·have h := Tn hc28 h
  refine gy rfl rfl hc28 (Tk rfl) rfl ?_
  obtain ⟨q, d, h⟩ := T8 h
  refine Run.callP (Kp rfl rfl hc28) (Tl rfl z7z z7v) rfl (z0x F (w.Data.e0.length : Int) (1 : Int) (512 : Int) _ _ d) <| gy rfl rfl hc28 (Jh rfl) rfl <| og (Tt rfl hc28 rfl rfl) rfl <| Run.Wd ?_
  exact Run.pick [1, 3, 20] (z2n F (w.Data.e0.length : Int) (!q) w.Duties w.Work w.Vetoes.e0 w.Vetoes.e1 w.Data.e0 w.Data.e1 x y z s3 s4 s5 p _ _ _ e f g m a c b h)
theorem zct : J8 Tryz.prog 80 = none := by kernel_rfl
theorem zbt : Ts Tryz.prog 80 = true := by kernel_rfl
theorem zd2 : whole Tryz.prog 9 = some .str := by kernel_rfl
end Go.Ev.RunWatches
