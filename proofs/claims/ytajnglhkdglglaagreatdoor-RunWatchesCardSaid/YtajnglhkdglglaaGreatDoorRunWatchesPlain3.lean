/- Plain functions, and proofs of them. -/
import Derived.Test.YtajnglhkdglglaaGreatDoorSort
import Derived.Test.YtajnglhkdglglaaGreatDoorRunWatchesPlain2
namespace Go.Ev.RunWatches
open Go Go.Ev Go.Proofs
set_option maxRecDepth 100000
set_option linter.unusedVariables false
abbrev z7d (r : (List Bool) × Int) : SV → Mem → Prop := fun s Me => ∃ q1, s = (.tuple [q1, (.int .i64 r.2)]) ∧ Has (fun _ => none) Me [.vec 4 1 r.1.length q1 (r.1.flatMap z0h)]
def Z8 (F : Nat) (d : Th) (e : Int) : Option ((List Bool) × Int) :=
 bnd (Ki F d e) fun b =>
 bif (!(b == (0 : Int))) then
  some (([] : List Bool), b)
 else
  bnd (K7 F (Tz.mk d.Duties d.Work d.Vetoes d.Data) e) fun c =>
  some (c, (0 : Int))
theorem z81 (F : Nat) (a0 : Th) (a1 : Int) (s0 s1 s2 s3 s4 s5 : SV) (r : (List Bool) × Int) (M : Mem) (c : Slc (rd M) 3 (Ta Q9) s0 a0.Duties) (x : Slc (rd M) 2 (Ta Tg) s1 a0.Work) (y : Slc (rd M) 2 (Tf (rd M)) s2 a0.Vetoes.e0) (a2 : Slc (rd M) 2 (Tf (rd M)) s3 a0.Vetoes.e1) (a3 : Slc (rd M) 1 (Ta Qd) s4 a0.Data.e0) (a4 : Slc (rd M) 1 (Ta Qd) s5 a0.Data.e1) (h : Z8 F a0 a1 = some r) : CallsM Tryz.prog 15 [(.agg [s0, s1, s2, s3, s4, s5]), (.int .i64 a1)] M (fun s M' => ∃ q1, s = (.tuple [q1, (.int .i64 r.2)]) ∧ New M M' [.vec 4 1 r.1.length q1 (r.1.flatMap z0h)]) := by
 refine CallsM.fresh (Q := z7d r) Tryz.func15 rfl rfl ?_ (by rintro s Me ⟨q1, rfl, hx⟩ ha hw; exact ⟨_, rfl, New.of rfl hx ha hw⟩)
 rw [Z8] at h
 replace c := c.mono (T3 M) (fun _ _ h => h)
 replace x := x.mono (T3 M) (fun _ _ h => h)
 replace y := y.mono (T3 M) (fun _ _ => z00 (T3 M))
 replace a2 := a2.mono (T3 M) (fun _ _ => z00 (T3 M))
 replace a3 := a3.mono (T3 M) (fun _ _ h => h)
 replace a4 := a4.mono (T3 M) (fun _ _ h => h)
 have hH := Has.nil (frozen M)
 refine Run.seq (Run.region ?_)
 refine ox rfl (ExG.box rfl rfl hH) ?_
 rintro _ a9 ⟨a5, rfl, d⟩
 refine av rfl rfl <| av rfl rfl ?_
 refine Run.Wd (Run.seq (Run.seq (Run.region ?_)))
 refine og (Tj rfl (d.cells (i := 0) rfl 0 rfl) T5 z1c rfl rfl rfl) rfl <| mv rfl rfl ?_
 obtain ⟨b2, u, h⟩ := T8 h
 refine Run.callP T7 (Tl rfl zar za3) rfl (z1x F a0 a1 s0 s1 s2 s3 s4 s5 _ _ (d.slcF c) (d.slcF x) ((y).mono d.le (fun _ _ => z00 d.le)) ((a2).mono d.le (fun _ _ => z00 d.le)) (d.slcF a3) (d.slcF a4) u) <| av rfl rfl ?_
 refine Run.Wd (Run.seq (Run.region ?_))
 refine mv rfl rfl <| og (Gd rfl rfl) rfl <| Run.Wd ?_
 rcases btf ((!(b2 == (0 : Int)))) with hc27 | hc27
 ·have h := Tm hc27 h
  refine Run.Wf rfl hc27 ?_
  refine Run.seq (Run.region ?_)
  refine mv rfl rfl <| av rfl rfl <| av rfl rfl <| Run.Wd ?_
  have m : Has (ro (frozen M)) a9 [.vec 4 1 ([] : List Bool).length .nils (([] : List Bool).flatMap z0h), .obj a5 (.row 38 .whole [s0, s1, s2, s3, s4, s5])] := d.nils 4 1
  cases h
  exact Run.ret Tryz.func15 rfl (Tc rfl (Tc rfl Te)) ⟨_, rfl, (m.pick [0] rfl rfl).upF (Kn _)⟩
 ·have h := Tn hc27 h
  refine Run.We rfl hc27 ?_
  refine Run.skip (Run.seq (Run.region ?_))
  refine og (Tj rfl (d.cells (i := 0) rfl 0 rfl) T5 z1c rfl rfl rfl) rfl <| Run.enter T7 (Tl rfl z8n z8i) Tryz.func35 rfl rfl ?_
  refine Run.seq (Run.region ?_)
  refine ox rfl (ExG.box rfl rfl d) ?_
  rintro _ b3 ⟨a6, rfl, n⟩
  refine ox rfl (ExG.new (v := fun b => .ptr b 0) (Jz z71) n) ?_
  rintro _ b4 ⟨a7, rfl, f⟩
  refine Run.Wd (Run.seq (Run.region ?_))
  refine og (T4 rfl z1r) rfl <| og (Tb rfl (f.cells (i := 1) rfl 0 rfl) T5 z3q) rfl <| og (T4 rfl z2a) rfl <| og (Tb rfl (f.cells (i := 1) rfl 1 rfl) T5 z2w) rfl <| og (T4 rfl z2t) rfl <| og (Tj rfl (f.cells (i := 1) rfl 2 rfl) T5 z8b rfl rfl rfl) rfl <| og (T4 rfl z19) rfl <| og (Tj rfl (f.cells (i := 1) rfl 4 rfl) T5 z8c rfl rfl rfl) rfl <| og (Yk (r := [s0, s1, s2, s3, s4, s5]) rfl z71 z8u (by simp only [Zw, Gk (Qa c), Gk (Qa x)]; rfl)) rfl <| ox rfl (ExG.Wg (c' := [s0, s1, s2, s3, s4, s5]) rfl rfl rfl f (i := 0) rfl z9r rfl rfl rfl (Q0 (Qa c) (Q0 (Qa x) (Q0 (Qa y) (Q0 (Qa a2) (Q0 (Qa a3) (Q0 (Qa a4) Ym)))))) rfl) ?_
  rintro _ b0 ⟨rfl, (e : Has (ro (frozen M)) b0 [.obj a7 (.row 85 .whole [s0, s1, s2, s3, s4, s5]), .obj a6 (.row 38 .whole [s0, s1, s2, s3, s4, s5]), .obj a5 (.row 38 .whole [s0, s1, s2, s3, s4, s5])])⟩
  refine Run.Wd <| Run.Wi Tryz.func35 rfl (Ze rfl (Vn (Tj rfl (e.cells (i := 0) rfl 0 rfl) T5 z4r rfl rfl rfl)) Te) rfl <| mv rfl rfl ?_
  obtain ⟨a8, w, h⟩ := T8 h
  refine Run.callX T7 (Tl rfl z92 z8w) rfl (z13 F (Tz.mk a0.Duties a0.Work a0.Vetoes a0.Data) a1 s0 s1 s2 s3 s4 s5 _ _ (e.slcF c) (e.slcF x) ((y).mono e.le (fun _ _ => z00 e.le)) ((a2).mono e.le (fun _ _ => z00 e.le)) (e.slcF a3) (e.slcF a4) w) ?_
  rintro g b1 ⟨_, rfl, q⟩
  have p : Has (ro (frozen M)) b1 [.vec 4 1 a8.length g (a8.flatMap z0h), .obj a7 (.row 85 .whole [s0, s1, s2, s3, s4, s5]), .obj a6 (.row 38 .whole [s0, s1, s2, s3, s4, s5]), .obj a5 (.row 38 .whole [s0, s1, s2, s3, s4, s5])] := q.1 _ _ e
  refine av rfl rfl <| av rfl rfl <| Run.Wd ?_
  cases h
  exact Run.ret Tryz.func15 rfl (Tc rfl (Tc rfl Te)) ⟨_, rfl, (p.pick [0] rfl rfl).upF (Kn _)⟩
theorem zc4 : J8 Tryz.prog 15 = none := by kernel_rfl
theorem zb4 : Ts Tryz.prog 15 = true := by kernel_rfl
abbrev z18 (r : Bool) : SV → Mem → Prop := fun s _ => s = (.bool r)
def Xr (F : Nat) (b : (List T0) → Int → Int → Option Bool) (d : List T0) (e f : Int) (c : Bool) : Option Bool :=
 bif c then
  some true
 else
  b d e (w64 (f + 1))
theorem z3l (F : Nat) (g : (List T0) → Int → Int → Option Bool) (d : ∀ (m : List T0) (n p : Int) (c : SV) (Fr : Rd) (M : Mem) (r : Bool) (f : Slc Fr 2 (Ta Tg) c m) (hH : Has Fr M []), g m n p = some r → Run Tryz.prog ⟨⟨84, [], none⟩, []⟩ 28 (z18 r) [(0, c), (1, (.int .i64 n)), (5, (.int .i64 p))] [T6 Tryz.prog 84 [1, 0, 1, 0, 0], Tv Tryz.prog 84 [1, 0, 1, 0, 0], .inBlock 0, T6 Tryz.prog 84 [1, 1]] M) : ∀ (m : List T0) (n p : Int) (e : Bool) (c : SV) (Fr : Rd) (M : Mem) (r : Bool) (f : Slc Fr 2 (Ta Tg) c m) (hH : Has Fr M []), Xr F g m n p e = some r → Run Tryz.prog ⟨⟨84, [], none⟩, []⟩ 28 (z18 r) [(0, c), (1, (.int .i64 n)), (5, (.int .i64 p)), (27, (.bool e))] [T6 Tryz.prog 84 [1, 0, 1, 0, 0, 1, 0, 0, 1], .inBlock 1, T6 Tryz.prog 84 [1, 0, 1, 0, 0, 1, 1], Tv Tryz.prog 84 [1, 0, 1, 0, 0], .inBlock 0, T6 Tryz.prog 84 [1, 1]] M := by
 intro m n p e c Fr M r f hH h
 rw [Xr] at h
 rcases btf (e) with b | b
 ·have h := Tm b h
  refine Run.Wf rfl b ?_
  refine Run.seq (Run.region ?_)
  refine av rfl rfl <| Run.Wd ?_
  cases h
  exact Run.ret Tryz.func84 rfl (Tc rfl Te) rfl
 ·have h := Tn b h
  refine Run.We rfl b ?_
  refine Run.skip (Run.inBlock (Run.region ?_))
  refine mv rfl rfl <| og (Qq rfl rfl) rfl <| av rfl rfl ?_
  refine Run.Wd (Run.inLoop ?_)
  exact Run.pick [0, 1, 5] (d m n (w64 (p + 1)) c _ _ _ f hH h)
def Jm (F : Nat) : Nat → List T0 → Int → Int → Option Bool
 | 0, _, _, _ => none
 | N + 1, d, f, e =>
  bif (decide (e < (d.length : Int))) then
   bnd (idx d e) fun b =>
   bif (decide (b.From ≤ f)) then
    bnd (idx d e) fun c =>
    Xr F (Jm F N) d f e (decide (f < c.To))
   else
    Xr F (Jm F N) d f e false
  else
   some false
theorem z6f (F : Nat) : ∀ (N : Nat), ∀ (v0 : List T0) (v1 v5 : Int) (p : SV) (Fr : Rd) (M : Mem) (r : Bool) (c : Slc Fr 2 (Ta Tg) p v0) (hH : Has Fr M []), Jm F N v0 v1 v5 = some r → Run Tryz.prog ⟨⟨84, [], none⟩, []⟩ 28 (z18 r) [(0, p), (1, (.int .i64 v1)), (5, (.int .i64 v5))] [T6 Tryz.prog 84 [1, 0, 1, 0, 0], Tv Tryz.prog 84 [1, 0, 1, 0, 0], .inBlock 0, T6 Tryz.prog 84 [1, 1]] M := by
 intro N
 induction N with
 | zero =>
  intro v0 v1 v5 p Fr M r c hH h
  simp [Jm] at h
 | succ N ih =>
  intro v0 v1 v5 p Fr M r c hH h
  rw [Jm] at h
  refine Run.seq (Run.seq (Run.region ?_))
  refine mv rfl rfl <| mv rfl rfl <| og (Q3 rfl c z2m) rfl <| og (Qz rfl rfl) rfl <| Run.Wd ?_
  rcases btf ((decide (v5 < (v0.length : Int)))) with hc21 | hc21
  ·have h := Tm hc21 h
   refine Run.Wf rfl hc21 ?_
   refine Run.skip (Run.seq (Run.block (Run.seq (Run.region ?_))))
   refine mv rfl rfl <| mv rfl rfl ?_
   obtain ⟨q, d, h⟩ := T8 h
   obtain ⟨x, u, _, d, f, rfl⟩ := Jc (P := Tryz.prog) (t := 33) (kk := .i64) c d z5a
   refine og (Q6 rfl rfl d) rfl ?_
   have g := (f.fld (o := 0) rfl)
   refine og (T4 rfl z0k) rfl <| og (Tb rfl (hH.ptrF g) T5 z10) rfl <| mv rfl rfl <| og (Xy rfl rfl) rfl <| mv rfl rfl ?_
   rcases btf ((decide (q.From ≤ v1))) with b | b
   ·have h := Tm b h
    refine gy rfl rfl b (Tk rfl) rfl <| gy rfl rfl b (Tk rfl) rfl <| gy rfl rfl b (Tk rfl) rfl ?_
    obtain ⟨s, e, h⟩ := T8 h
    obtain ⟨y, w, _, e, m, rfl⟩ := Jc (P := Tryz.prog) (t := 33) (kk := .i64) c e z5a
    refine gy rfl rfl b (Q6 rfl rfl e) rfl ?_
    have n := (m.fld (o := 1) rfl)
    refine gy rfl rfl b (T4 rfl z0e) rfl <| gy rfl rfl b (Tb rfl (hH.ptrF n) T5 z10) rfl <| gy rfl rfl b (Qz rfl rfl) rfl <| og (Tr rfl b rfl rfl) rfl <| Run.Wd ?_
    exact Run.pick [0, 1, 5, 27] (z3l F (Jm F N) ih v0 v1 v5 (decide (v1 < s.To)) p _ _ _ c hH h)
   ·have h := Tn b h
    refine gn rfl rfl b rfl <| gn rfl rfl b rfl <| gn rfl rfl b rfl <| gn rfl rfl b rfl <| gn rfl rfl b rfl <| gn rfl rfl b rfl <| gn rfl rfl b rfl <| og (Tt rfl b rfl rfl) rfl <| Run.Wd ?_
    exact Run.pick [0, 1, 5, 27] (z3l F (Jm F N) ih v0 v1 v5 false p _ _ _ c hH h)
  ·have h := Tn hc21 h
   refine Run.We rfl hc21 ?_
   refine Run.exit rfl (Run.seq (Run.region ?_))
   refine av rfl rfl <| Run.Wd ?_
   cases h
   exact Run.ret Tryz.func84 rfl (Tc rfl Te) rfl
def X5 (F : Nat) (b : List T0) (c : Int) : Option Bool :=
 Jm F F b c (0 : Int)
theorem z1f (F : Nat) (c : List T0) (d : Int) (e : SV) (r : Bool) (M : Mem) (b : Slc (rd M) 2 (Ta Tg) e c) (h : X5 F c d = some r) : CallsM Tryz.prog 84 [e, (.int .i64 d)] M (fun s M' => s = (.bool r) ∧ M' = M) := by
 refine CallsM.plain Tryz.func84 rfl rfl rfl (show Run _ _ _ (z18 r) _ _ _ from ?_)
 rw [X5] at h
 replace b := b.mono (T3 M) (fun _ _ h => h)
 have hH := Has.nil (frozen M)
 refine Run.seq (Run.region ?_)
 refine av rfl rfl ?_
 refine Run.Wd (Run.seq (Run.seq (Run.region ?_)))
 refine av rfl rfl ?_
 refine Run.Wd (Run.block (Run.loop ?_))
 exact Run.pick [0, 1, 5] (z6f F F c d (0 : Int) e _ _ _ b hH h)
theorem z95 : J8 Tryz.prog 84 = none := by kernel_rfl
theorem z8z : Ts Tryz.prog 84 = true := by kernel_rfl
abbrev z05 (r : Bool) : SV → Mem → Prop := fun s _ => s = (.bool r)
def Xf (F : Nat) (c : Int → Int → Int → List T1 → List T0 → List T2 → List T2 → List Int → List Int → Option Bool) (u q s : Int) (d : List T1) (e : List T0) (b f : List T2) (g m : List Int) : Option Bool :=
 bnd (idx b s) fun p =>
 bnd (X5 F p.Segments q) fun n =>
 bif n then
  some false
 else
  c u q (w64 (s + 1)) d e b f g m
theorem z3m (F : Nat) (b2 : Int → Int → Int → List T1 → List T0 → List T2 → List T2 → List Int → List Int → Option Bool) (a8 : ∀ (v1 v2 v7 : Int) (n : List T1) (p : List T0) (q s : List T2) (u w : List Int) (b d e f g m : SV) (c : Pos) (Fr : Rd) (M : Mem) (r : Bool) (y : Slc Fr 3 (Ta Q9) b n) (a0 : Slc Fr 2 (Ta Tg) d p) (x : Slc Fr 2 (Tf Fr) e q) (a1 : Slc Fr 2 (Tf Fr) f s) (a2 : Slc Fr 1 (Ta Qd) g u) (a3 : Slc Fr 1 (Ta Qd) m w) (hH : Has Fr M [.obj c (.row 38 .whole [b, d, e, f, g, m])]), b2 v1 v2 v7 n p q s u w = some r → Run Tryz.prog ⟨⟨50, [], none⟩, []⟩ 32 (z05 r) [(1, (.int .i64 v1)), (2, (.int .i64 v2)), (3, (.ptr c 0)), (7, (.int .i64 v7))] [T6 Tryz.prog 50 [1, 0, 1, 0, 0], Tv Tryz.prog 50 [1, 0, 1, 0, 0], .inBlock 0, T6 Tryz.prog 50 [1, 1]] M) : ∀ (v1 v2 v7 : Int) (n : List T1) (p : List T0) (q s : List T2) (u w : List Int) (b d e f g m : SV) (c : Pos) (Fr : Rd) (M : Mem) (r : Bool) (y : Slc Fr 3 (Ta Q9) b n) (a0 : Slc Fr 2 (Ta Tg) d p) (x : Slc Fr 2 (Tf Fr) e q) (a1 : Slc Fr 2 (Tf Fr) f s) (a2 : Slc Fr 1 (Ta Qd) g u) (a3 : Slc Fr 1 (Ta Qd) m w) (hH : Has Fr M [.obj c (.row 38 .whole [b, d, e, f, g, m])]), Xf F b2 v1 v2 v7 n p q s u w = some r → Run Tryz.prog ⟨⟨50, [], none⟩, []⟩ 32 (z05 r) [(1, (.int .i64 v1)), (2, (.int .i64 v2)), (3, (.ptr c 0)), (7, (.int .i64 v7)), (19, (.ptr c 2))] [Tu Tryz.prog 50 [1, 0, 1, 0, 0, 1, 0, 0, 0] 3, T6 Tryz.prog 50 [1, 0, 1, 0, 0, 1, 0, 0, 1], .inBlock 1, T6 Tryz.prog 50 [1, 0, 1, 0, 0, 1, 1], Tv Tryz.prog 50 [1, 0, 1, 0, 0], .inBlock 0, T6 Tryz.prog 50 [1, 1]] M := by
 intro v1 v2 v7 n p q s u w b d e f g m c Fr M r y a0 x a1 a2 a3 hH h
 rw [Xf] at h
 refine og (Tb rfl (hH.cells (i := 0) rfl 2 rfl) T5 z72) rfl <| mv rfl rfl ?_
 obtain ⟨b4, a5, h⟩ := T8 h
 obtain ⟨b6, b5, _, a5, a9, ⟨a7, rfl, a6⟩⟩ := Jc (P := Tryz.prog) (t := 34) (kk := .i64) x a5 z84
 refine og (Q6 rfl rfl a5) rfl ?_
 have b0 := (a9.fld (o := 1) rfl)
 refine og (T4 rfl z3d) rfl <| og (Tb rfl (hH.ptrF b0) T5 z2w) rfl <| mv rfl rfl ?_
 obtain ⟨b3, b1, h⟩ := T8 h
 refine Run.callP T7 (Tl rfl z95 z8z) rfl (z1f F b4.Segments v2 a7 _ _ (hH.slcF a6) b1) <| Run.Wd ?_
 rcases btf (b3) with a4 | a4
 ·have h := Tm a4 h
  refine Run.Wf rfl a4 ?_
  refine Run.seq (Run.region ?_)
  refine av rfl rfl <| Run.Wd ?_
  cases h
  exact Run.ret Tryz.func50 rfl (Tc rfl Te) rfl
 ·have h := Tn a4 h
  refine Run.We rfl a4 ?_
  refine Run.skip (Run.inBlock (Run.region ?_))
  refine mv rfl rfl <| og (Qq rfl rfl) rfl <| av rfl rfl ?_
  refine Run.Wd (Run.inLoop ?_)
  exact Run.pick [1, 2, 3, 7] (a8 v1 v2 (w64 (v7 + 1)) n p q s u w b d e f g m c _ _ _ y a0 x a1 a2 a3 hH h)
def Xk (F : Nat) (c : Int → Int → Int → List T1 → List T0 → List T2 → List T2 → List Int → List Int → Option Bool) (u q s : Int) (d : List T1) (e : List T0) (f b : List T2) (g m : List Int) : Option Bool :=
 bnd (idx b s) fun p =>
 bnd (X5 F p.Segments q) fun n =>
 bif n then
  some false
 else
  c u q (w64 (s + 1)) d e f b g m
theorem z3n (F : Nat) (b2 : Int → Int → Int → List T1 → List T0 → List T2 → List T2 → List Int → List Int → Option Bool) (a8 : ∀ (v1 v2 v7 : Int) (n : List T1) (p : List T0) (q s : List T2) (u w : List Int) (b d e f g m : SV) (c : Pos) (Fr : Rd) (M : Mem) (r : Bool) (y : Slc Fr 3 (Ta Q9) b n) (a0 : Slc Fr 2 (Ta Tg) d p) (a1 : Slc Fr 2 (Tf Fr) e q) (x : Slc Fr 2 (Tf Fr) f s) (a2 : Slc Fr 1 (Ta Qd) g u) (a3 : Slc Fr 1 (Ta Qd) m w) (hH : Has Fr M [.obj c (.row 38 .whole [b, d, e, f, g, m])]), b2 v1 v2 v7 n p q s u w = some r → Run Tryz.prog ⟨⟨50, [], none⟩, []⟩ 32 (z05 r) [(1, (.int .i64 v1)), (2, (.int .i64 v2)), (3, (.ptr c 0)), (7, (.int .i64 v7))] [T6 Tryz.prog 50 [1, 0, 1, 0, 0], Tv Tryz.prog 50 [1, 0, 1, 0, 0], .inBlock 0, T6 Tryz.prog 50 [1, 1]] M) : ∀ (v1 v2 v7 : Int) (n : List T1) (p : List T0) (q s : List T2) (u w : List Int) (b d e f g m : SV) (c : Pos) (Fr : Rd) (M : Mem) (r : Bool) (y : Slc Fr 3 (Ta Q9) b n) (a0 : Slc Fr 2 (Ta Tg) d p) (a1 : Slc Fr 2 (Tf Fr) e q) (x : Slc Fr 2 (Tf Fr) f s) (a2 : Slc Fr 1 (Ta Qd) g u) (a3 : Slc Fr 1 (Ta Qd) m w) (hH : Has Fr M [.obj c (.row 38 .whole [b, d, e, f, g, m])]), Xk F b2 v1 v2 v7 n p q s u w = some r → Run Tryz.prog ⟨⟨50, [], none⟩, []⟩ 32 (z05 r) [(1, (.int .i64 v1)), (2, (.int .i64 v2)), (3, (.ptr c 0)), (7, (.int .i64 v7)), (19, (.ptr c 3))] [Tu Tryz.prog 50 [1, 0, 1, 0, 0, 1, 0, 0, 0] 3, T6 Tryz.prog 50 [1, 0, 1, 0, 0, 1, 0, 0, 1], .inBlock 1, T6 Tryz.prog 50 [1, 0, 1, 0, 0, 1, 1], Tv Tryz.prog 50 [1, 0, 1, 0, 0], .inBlock 0, T6 Tryz.prog 50 [1, 1]] M := by
 intro v1 v2 v7 n p q s u w b d e f g m c Fr M r y a0 a1 x a2 a3 hH h
 rw [Xk] at h
 refine og (Tb rfl (hH.cells (i := 0) rfl 3 rfl) T5 z72) rfl <| mv rfl rfl ?_
 obtain ⟨b4, a5, h⟩ := T8 h
 obtain ⟨b6, b5, _, a5, a9, ⟨a7, rfl, a6⟩⟩ := Jc (P := Tryz.prog) (t := 34) (kk := .i64) x a5 z84
 refine og (Q6 rfl rfl a5) rfl ?_
 have b0 := (a9.fld (o := 1) rfl)
 refine og (T4 rfl z3d) rfl <| og (Tb rfl (hH.ptrF b0) T5 z2w) rfl <| mv rfl rfl ?_
 obtain ⟨b3, b1, h⟩ := T8 h
 refine Run.callP T7 (Tl rfl z95 z8z) rfl (z1f F b4.Segments v2 a7 _ _ (hH.slcF a6) b1) <| Run.Wd ?_
 rcases btf (b3) with a4 | a4
 ·have h := Tm a4 h
  refine Run.Wf rfl a4 ?_
  refine Run.seq (Run.region ?_)
  refine av rfl rfl <| Run.Wd ?_
  cases h
  exact Run.ret Tryz.func50 rfl (Tc rfl Te) rfl
 ·have h := Tn a4 h
  refine Run.We rfl a4 ?_
  refine Run.skip (Run.inBlock (Run.region ?_))
  refine mv rfl rfl <| og (Qq rfl rfl) rfl <| av rfl rfl ?_
  refine Run.Wd (Run.inLoop ?_)
  exact Run.pick [1, 2, 3, 7] (a8 v1 v2 (w64 (v7 + 1)) n p q s u w b d e f g m c _ _ _ y a0 a1 x a2 a3 hH h)
def Xg (F : Nat) (c : Int → Int → Int → List T1 → List T0 → List T2 → List T2 → List Int → List Int → Option Bool) (p q s u : Int) (e : List T1) (b : List T0) (d f : List T2) (g m : List Int) : Option Bool :=
 bif (decide (u < (d.length : Int))) then
  bif (p == (0 : Int)) then
   Xf F c p q s e b d f g m
  else
   bif (p == (1 : Int)) then
    Xk F c p q s e b d f g m
   else
    none
 else
  bnd (X5 F b q) fun n =>
  some (!n)
theorem z6h (F : Nat) (a6 : Int → Int → Int → List T1 → List T0 → List T2 → List T2 → List Int → List Int → Option Bool) (a4 : ∀ (v1 v2 v7 : Int) (q : List T1) (n : List T0) (p s : List T2) (u w : List Int) (d b e f g m : SV) (c : Pos) (Fr : Rd) (M : Mem) (r : Bool) (a0 : Slc Fr 3 (Ta Q9) d q) (x : Slc Fr 2 (Ta Tg) b n) (y : Slc Fr 2 (Tf Fr) e p) (a1 : Slc Fr 2 (Tf Fr) f s) (a2 : Slc Fr 1 (Ta Qd) g u) (a3 : Slc Fr 1 (Ta Qd) m w) (hH : Has Fr M [.obj c (.row 38 .whole [d, b, e, f, g, m])]), a6 v1 v2 v7 q n p s u w = some r → Run Tryz.prog ⟨⟨50, [], none⟩, []⟩ 32 (z05 r) [(1, (.int .i64 v1)), (2, (.int .i64 v2)), (3, (.ptr c 0)), (7, (.int .i64 v7))] [T6 Tryz.prog 50 [1, 0, 1, 0, 0], Tv Tryz.prog 50 [1, 0, 1, 0, 0], .inBlock 0, T6 Tryz.prog 50 [1, 1]] M) : ∀ (v1 v2 v7 v8 : Int) (q : List T1) (n : List T0) (p s : List T2) (u w : List Int) (d b e f g m : SV) (c : Pos) (Fr : Rd) (M : Mem) (r : Bool) (a0 : Slc Fr 3 (Ta Q9) d q) (x : Slc Fr 2 (Ta Tg) b n) (y : Slc Fr 2 (Tf Fr) e p) (a1 : Slc Fr 2 (Tf Fr) f s) (a2 : Slc Fr 1 (Ta Qd) g u) (a3 : Slc Fr 1 (Ta Qd) m w) (hH : Has Fr M [.obj c (.row 38 .whole [d, b, e, f, g, m])]), Xg F a6 v1 v2 v7 v8 q n p s u w = some r → Run Tryz.prog ⟨⟨50, [], none⟩, []⟩ 32 (z05 r) [(1, (.int .i64 v1)), (2, (.int .i64 v2)), (3, (.ptr c 0)), (7, (.int .i64 v7)), (8, (.int .i64 v8)), (11, (.ptr c 2))] [Tu Tryz.prog 50 [1, 0, 1, 0, 0, 0, 0] 4, T6 Tryz.prog 50 [1, 0, 1, 0, 0, 0, 1], T6 Tryz.prog 50 [1, 0, 1, 0, 0, 1], Tv Tryz.prog 50 [1, 0, 1, 0, 0], .inBlock 0, T6 Tryz.prog 50 [1, 1]] M := by
 intro v1 v2 v7 v8 q n p s u w d b e f g m c Fr M r a0 x y a1 a2 a3 hH h
 rw [Xg] at h
 refine og (Tb rfl (hH.cells (i := 0) rfl 2 rfl) T5 z72) rfl <| og (Q3 rfl y z63) rfl <| og (Qz rfl rfl) rfl <| Run.Wd ?_
 rcases btf ((decide (v8 < (p.length : Int)))) with hc29 | hc29
 ·have h := Tm hc29 h
  refine Run.Wf rfl hc29 ?_
  refine Run.skip (Run.seq (Run.block (Run.seq (Run.region ?_))))
  refine mv rfl rfl <| og (T4 rfl z2t) rfl ?_
  rcases btf ((v1 == (0 : Int))) with hc32 | hc32
  ·have h := Tm hc32 h
   refine og (Q6 rfl rfl (Qr (j := 0) (Gf hc32 rfl rfl) z73)) rfl ?_
   exact Run.pick [1, 2, 3, 7, 19] (z3m F a6 a4 v1 v2 v7 q n p s u w d b e f g m c _ _ _ a0 x y a1 a2 a3 hH h)
  ·have h := Tn hc32 h
   rcases btf ((v1 == (1 : Int))) with hc45 | hc45
   ·have h := Tm hc45 h
    refine og (Q6 rfl rfl (Qr (j := 1) (Gf hc45 rfl rfl) z73)) rfl ?_
    exact Run.pick [1, 2, 3, 7, 19] (z3n F a6 a4 v1 v2 v7 q n p s u w d b e f g m c _ _ _ a0 x y a1 a2 a3 hH h)
   ·have h := Tn hc45 h
    cases h
 ·have h := Tn hc29 h
  refine Run.We rfl hc29 ?_
  refine Run.exit rfl (Run.seq (Run.region ?_))
  refine og (T4 rfl z2a) rfl <| og (Tb rfl (hH.cells (i := 0) rfl 1 rfl) T5 z2w) rfl <| mv rfl rfl ?_
  obtain ⟨a7, a5, h⟩ := T8 h
  refine Run.callP T7 (Tl rfl z95 z8z) rfl (z1f F n v2 b _ _ (hH.slcF x) a5) <| og (Jh rfl) rfl <| av rfl rfl <| Run.Wd ?_
  cases h
  exact Run.ret Tryz.func50 rfl (Tc rfl Te) rfl
def Xi (F : Nat) (c : Int → Int → Int → List T1 → List T0 → List T2 → List T2 → List Int → List Int → Option Bool) (p q s u : Int) (e : List T1) (b : List T0) (f d : List T2) (g m : List Int) : Option Bool :=
 bif (decide (u < (d.length : Int))) then
  bif (p == (0 : Int)) then
   Xf F c p q s e b f d g m
  else
   bif (p == (1 : Int)) then
    Xk F c p q s e b f d g m
   else
    none
 else
  bnd (X5 F b q) fun n =>
  some (!n)
theorem z6i (F : Nat) (a6 : Int → Int → Int → List T1 → List T0 → List T2 → List T2 → List Int → List Int → Option Bool) (a4 : ∀ (v1 v2 v7 : Int) (q : List T1) (n : List T0) (s p : List T2) (u w : List Int) (d b e f g m : SV) (c : Pos) (Fr : Rd) (M : Mem) (r : Bool) (a0 : Slc Fr 3 (Ta Q9) d q) (x : Slc Fr 2 (Ta Tg) b n) (a1 : Slc Fr 2 (Tf Fr) e s) (y : Slc Fr 2 (Tf Fr) f p) (a2 : Slc Fr 1 (Ta Qd) g u) (a3 : Slc Fr 1 (Ta Qd) m w) (hH : Has Fr M [.obj c (.row 38 .whole [d, b, e, f, g, m])]), a6 v1 v2 v7 q n s p u w = some r → Run Tryz.prog ⟨⟨50, [], none⟩, []⟩ 32 (z05 r) [(1, (.int .i64 v1)), (2, (.int .i64 v2)), (3, (.ptr c 0)), (7, (.int .i64 v7))] [T6 Tryz.prog 50 [1, 0, 1, 0, 0], Tv Tryz.prog 50 [1, 0, 1, 0, 0], .inBlock 0, T6 Tryz.prog 50 [1, 1]] M) : ∀ (v1 v2 v7 v8 : Int) (q : List T1) (n : List T0) (s p : List T2) (u w : List Int) (d b e f g m : SV) (c : Pos) (Fr : Rd) (M : Mem) (r : Bool) (a0 : Slc Fr 3 (Ta Q9) d q) (x : Slc Fr 2 (Ta Tg) b n) (a1 : Slc Fr 2 (Tf Fr) e s) (y : Slc Fr 2 (Tf Fr) f p) (a2 : Slc Fr 1 (Ta Qd) g u) (a3 : Slc Fr 1 (Ta Qd) m w) (hH : Has Fr M [.obj c (.row 38 .whole [d, b, e, f, g, m])]), Xi F a6 v1 v2 v7 v8 q n s p u w = some r → Run Tryz.prog ⟨⟨50, [], none⟩, []⟩ 32 (z05 r) [(1, (.int .i64 v1)), (2, (.int .i64 v2)), (3, (.ptr c 0)), (7, (.int .i64 v7)), (8, (.int .i64 v8)), (11, (.ptr c 3))] [Tu Tryz.prog 50 [1, 0, 1, 0, 0, 0, 0] 4, T6 Tryz.prog 50 [1, 0, 1, 0, 0, 0, 1], T6 Tryz.prog 50 [1, 0, 1, 0, 0, 1], Tv Tryz.prog 50 [1, 0, 1, 0, 0], .inBlock 0, T6 Tryz.prog 50 [1, 1]] M := by
 intro v1 v2 v7 v8 q n s p u w d b e f g m c Fr M r a0 x a1 y a2 a3 hH h
 rw [Xi] at h
 refine og (Tb rfl (hH.cells (i := 0) rfl 3 rfl) T5 z72) rfl <| og (Q3 rfl y z63) rfl <| og (Qz rfl rfl) rfl <| Run.Wd ?_
 rcases btf ((decide (v8 < (p.length : Int)))) with hc65 | hc65
 ·have h := Tm hc65 h
  refine Run.Wf rfl hc65 ?_
  refine Run.skip (Run.seq (Run.block (Run.seq (Run.region ?_))))
  refine mv rfl rfl <| og (T4 rfl z2t) rfl ?_
  rcases btf ((v1 == (0 : Int))) with hc68 | hc68
  ·have h := Tm hc68 h
   refine og (Q6 rfl rfl (Qr (j := 0) (Gf hc68 rfl rfl) z73)) rfl ?_
   exact Run.pick [1, 2, 3, 7, 19] (z3m F a6 a4 v1 v2 v7 q n s p u w d b e f g m c _ _ _ a0 x a1 y a2 a3 hH h)
  ·have h := Tn hc68 h
   rcases btf ((v1 == (1 : Int))) with hc73 | hc73
   ·have h := Tm hc73 h
    refine og (Q6 rfl rfl (Qr (j := 1) (Gf hc73 rfl rfl) z73)) rfl ?_
    exact Run.pick [1, 2, 3, 7, 19] (z3n F a6 a4 v1 v2 v7 q n s p u w d b e f g m c _ _ _ a0 x a1 y a2 a3 hH h)
   ·have h := Tn hc73 h
    cases h
 ·have h := Tn hc65 h
  refine Run.We rfl hc65 ?_
  refine Run.exit rfl (Run.seq (Run.region ?_))
  refine og (T4 rfl z2a) rfl <| og (Tb rfl (hH.cells (i := 0) rfl 1 rfl) T5 z2w) rfl <| mv rfl rfl ?_
  obtain ⟨a7, a5, h⟩ := T8 h
  refine Run.callP T7 (Tl rfl z95 z8z) rfl (z1f F n v2 b _ _ (hH.slcF x) a5) <| og (Jh rfl) rfl <| av rfl rfl <| Run.Wd ?_
  cases h
  exact Run.ret Tryz.func50 rfl (Tc rfl Te) rfl
def Jl (F : Nat) : Nat → Int → Int → Int → List T1 → List T0 → List T2 → List T2 → List Int → List Int → Option Bool
 | 0, _, _, _, _, _, _, _, _, _ => none
 | N + 1, c, p, n, b, d, e, f, g, m =>
  bif (c == (0 : Int)) then
   Xg F (Jl F N) c p n n b d e f g m
  else
   bif (c == (1 : Int)) then
    Xi F (Jl F N) c p n n b d e f g m
   else
    none
theorem z6g (F : Nat) : ∀ (N : Nat), ∀ (v1 v2 v7 : Int) (n : List T1) (p : List T0) (q s : List T2) (u w : List Int) (b d e f g m : SV) (c : Pos) (Fr : Rd) (M : Mem) (r : Bool) (x : Slc Fr 3 (Ta Q9) b n) (y : Slc Fr 2 (Ta Tg) d p) (a0 : Slc Fr 2 (Tf Fr) e q) (a1 : Slc Fr 2 (Tf Fr) f s) (a2 : Slc Fr 1 (Ta Qd) g u) (a3 : Slc Fr 1 (Ta Qd) m w) (hH : Has Fr M [.obj c (.row 38 .whole [b, d, e, f, g, m])]), Jl F N v1 v2 v7 n p q s u w = some r → Run Tryz.prog ⟨⟨50, [], none⟩, []⟩ 32 (z05 r) [(1, (.int .i64 v1)), (2, (.int .i64 v2)), (3, (.ptr c 0)), (7, (.int .i64 v7))] [T6 Tryz.prog 50 [1, 0, 1, 0, 0], Tv Tryz.prog 50 [1, 0, 1, 0, 0], .inBlock 0, T6 Tryz.prog 50 [1, 1]] M := by
 intro N
 induction N with
 | zero =>
  intro v1 v2 v7 n p q s u w b d e f g m c Fr M r x y a0 a1 a2 a3 hH h
  simp [Jl] at h
 | succ N ih =>
  intro v1 v2 v7 n p q s u w b d e f g m c Fr M r x y a0 a1 a2 a3 hH h
  rw [Jl] at h
  refine Run.seq (Run.seq (Run.region ?_))
  refine mv rfl rfl <| mv rfl rfl <| og (T4 rfl z2t) rfl ?_
  rcases btf ((v1 == (0 : Int))) with hc26 | hc26
  ·have h := Tm hc26 h
   refine og (Q6 rfl rfl (Qr (j := 0) (Gf hc26 rfl rfl) z73)) rfl ?_
   exact Run.pick [1, 2, 3, 7, 8, 11] (z6h F (Jl F N) ih v1 v2 v7 v7 n p q s u w b d e f g m c _ _ _ x y a0 a1 a2 a3 hH h)
  ·have h := Tn hc26 h
   rcases btf ((v1 == (1 : Int))) with hc62 | hc62
   ·have h := Tm hc62 h
    refine og (Q6 rfl rfl (Qr (j := 1) (Gf hc62 rfl rfl) z73)) rfl ?_
    exact Run.pick [1, 2, 3, 7, 8, 11] (z6i F (Jl F N) ih v1 v2 v7 v7 n p q s u w b d e f g m c _ _ _ x y a0 a1 a2 a3 hH h)
   ·have h := Tn hc62 h
    cases h
def K5 (F : Nat) (b : Th) (c d : Int) : Option Bool :=
 Jl F F c d (0 : Int) b.Duties b.Work b.Vetoes.e0 b.Vetoes.e1 b.Data.e0 b.Data.e1
theorem z1g (F : Nat) (q : Th) (u w : Int) (x y s2 s3 s4 s5 : SV) (r : Bool) (M : Mem) (c : Slc (rd M) 3 (Ta Q9) x q.Duties) (d : Slc (rd M) 2 (Ta Tg) y q.Work) (e : Slc (rd M) 2 (Tf (rd M)) s2 q.Vetoes.e0) (f : Slc (rd M) 2 (Tf (rd M)) s3 q.Vetoes.e1) (g : Slc (rd M) 1 (Ta Qd) s4 q.Data.e0) (m : Slc (rd M) 1 (Ta Qd) s5 q.Data.e1) (h : K5 F q u w = some r) : CallsM Tryz.prog 50 [(.agg [x, y, s2, s3, s4, s5]), (.int .i64 u), (.int .i64 w)] M (fun s M' => s = (.bool r) ∧ M' = M) := by
 refine CallsM.plain Tryz.func50 rfl rfl rfl (show Run _ _ _ (z05 r) _ _ _ from ?_)
 rw [K5] at h
 replace c := c.mono (T3 M) (fun _ _ h => h)
 replace d := d.mono (T3 M) (fun _ _ h => h)
 replace e := e.mono (T3 M) (fun _ _ => z00 (T3 M))
 replace f := f.mono (T3 M) (fun _ _ => z00 (T3 M))
 replace g := g.mono (T3 M) (fun _ _ h => h)
 replace m := m.mono (T3 M) (fun _ _ h => h)
 have hH := Has.nil (frozen M)
 refine Run.seq (Run.region ?_)
 refine ox rfl (ExG.box rfl rfl hH) ?_
 rintro _ p ⟨n, rfl, b⟩
 refine av rfl rfl ?_
 refine Run.Wd (Run.seq (Run.seq (Run.region ?_)))
 refine av rfl rfl ?_
 refine Run.Wd (Run.block (Run.loop ?_))
 exact Run.pick [1, 2, 3, 7] (z6g F F u w (0 : Int) q.Duties q.Work q.Vetoes.e0 q.Vetoes.e1 q.Data.e0 q.Data.e1 x y s2 s3 s4 s5 n _ _ _ c d e f g m b h)
theorem z94 : J8 Tryz.prog 50 = none := by kernel_rfl
theorem z8y : Ts Tryz.prog 50 = true := by kernel_rfl
theorem z8h : appT Tryz.prog 48 48 = some (⟨1, 1, [(.bool false)], 4⟩ : Elt) := by kernel_rfl
abbrev z3i (r : (List Bool) × Int) : SV → Mem → Prop := fun s Me => ∃ q1, s = (.tuple [q1, (.int .i64 r.2)]) ∧ Has (fun _ => none) Me [.vec 4 1 r.1.length q1 (r.1.flatMap z0h)]
def Kx (F : Nat) : Nat → Int → Int → List T1 → List T0 → List T2 → List T2 → List Int → List Int → List Bool → Option ((List Bool) × Int)
 | 0, _, _, _, _, _, _, _, _, _ => none
 | N + 1, s, q, d, e, f, g, b, m, c =>
  bif (decide (q < (b.length : Int))) then
   bnd (K5 F (Th.mk d e (Tx.mk f g) (Qn.mk b m)) s q) fun p =>
   bnd (apd 1 c ([p] : List Bool)) fun n =>
   (Kx F N) s (w64 (q + 1)) d e f g b m n
  else
   some (c, (0 : Int))
theorem z6c (F : Nat) : ∀ (N : Nat), ∀ (v1 v8 : Int) (q : List T1) (s : List T0) (u w : List T2) (n x : List Int) (a8 : List Bool) (b d e f g m : SV) (c : Pos) (b0 : SV) (Fr : Rd) (M : Mem) (r : (List Bool) × Int) (y : Slc Fr 3 (Ta Q9) b q) (a0 : Slc Fr 2 (Ta Tg) d s) (a1 : Slc Fr 2 (Tf Fr) e u) (a2 : Slc Fr 2 (Tf Fr) f w) (p : Slc Fr 1 (Ta Qd) g n) (a3 : Slc Fr 1 (Ta Qd) m x) (hH : Has Fr M [.obj c (.row 38 .whole [b, d, e, f, g, m]), .vec 4 1 a8.length b0 (a8.flatMap z0h)]), Kx F N v1 v8 q s u w n x a8 = some r → Run Tryz.prog ⟨⟨22, [], none⟩, []⟩ 33 (z3i r) [(1, (.int .i64 v1)), (2, (.ptr c 0)), (7, b0), (8, (.int .i64 v8))] [T6 Tryz.prog 22 [1, 1, 1, 1, 0, 1, 0, 0], Tv Tryz.prog 22 [1, 1, 1, 1, 0, 1, 0, 0], .inBlock 0, T6 Tryz.prog 22 [1, 1, 1, 1, 1]] M := by
 intro N
 induction N with
 | zero =>
  intro v1 v8 q s u w n x a8 b d e f g m c b0 Fr M r y a0 a1 a2 p a3 hH h
  simp [Kx] at h
 | succ N ih =>
  intro v1 v8 q s u w n x a8 b d e f g m c b0 Fr M r y a0 a1 a2 p a3 hH h
  rw [Kx] at h
  refine Run.seq (Run.seq (Run.region ?_))
  refine mv rfl rfl <| og (T4 rfl z19) rfl <| og (Q6 rfl rfl (Qr (j := 0) rfl z4s)) rfl <| og (Tb rfl (hH.cells (i := 0) rfl 4 rfl) T5 z4q) rfl <| og (Q3 rfl p z1u) rfl <| og (Qz rfl rfl) rfl <| Run.Wd ?_
  rcases btf ((decide (v8 < (n.length : Int)))) with hc40 | hc40
  ·have h := Tm hc40 h
   refine Run.Wf rfl hc40 ?_
   refine Run.skip (Run.seq (Run.block (Run.region ?_)))
   refine mv rfl rfl <| og (Tj rfl (hH.cells (i := 0) rfl 0 rfl) T5 z1c rfl rfl rfl) rfl <| mv rfl rfl <| mv rfl rfl ?_
   obtain ⟨a9, a7, h⟩ := T8 h
   refine Run.callP T7 (Tl rfl z94 z8y) rfl (z1g F (Th.mk q s (Tx.mk u w) (Qn.mk n x)) v1 v8 b d e f g m _ _ (hH.slcF y) (hH.slcF a0) ((a1).mono hH.le (fun _ _ => z00 hH.le)) ((a2).mono hH.le (fun _ _ => z00 hH.le)) (hH.slcF p) (hH.slcF a3) a7) <| ox rfl (ExG.built (enc := z0h) (l := ([a9] : List Bool)) (z := 1) rfl z7x rfl rfl rfl z06 hH) ?_
   rintro b2 b4 (a4 : Has Fr b4 [.vec 4 1 ([a9] : List Bool).length b2 (([a9] : List Bool).flatMap z0h), .obj c (.row 38 .whole [b, d, e, f, g, m]), .vec 4 1 a8.length b0 (a8.flatMap z0h)])
   obtain ⟨b1, a6, h⟩ := T8 h
   refine ox rfl (ExG.append rfl rfl a4 (i := 2) rfl z06 rfl z2x z8h rfl (V9 (a4.slc (i := 0) rfl z06)) (Zi (a4.slc (i := 0) rfl z06) (Yp _) z06) a6) ?_
   rintro b3 b5 (a5 : Has Fr b5 [.vec 4 1 ([a9] : List Bool).length b2 (([a9] : List Bool).flatMap z0h), .obj c (.row 38 .whole [b, d, e, f, g, m]), .vec 4 1 b1.length b3 (b1.flatMap z0h)])
   refine av rfl rfl ?_
   refine Run.Wd (Run.inBlock (Run.region ?_))
   refine mv rfl rfl <| og (Qq rfl rfl) rfl <| av rfl rfl ?_
   refine Run.Wd (Run.inLoop ?_)
   exact Run.pick [1, 2, 7, 8] (ih v1 (w64 (v8 + 1)) q s u w n x b1 b d e f g m c b3 _ _ _ y a0 a1 a2 p a3 (a5.pick [1, 2] rfl rfl) h)
  ·have h := Tn hc40 h
   refine Run.We rfl hc40 ?_
   refine Run.exit rfl (Run.seq (Run.region ?_))
   refine mv rfl rfl <| av rfl rfl <| av rfl rfl <| Run.Wd ?_
   cases h
   exact Run.ret Tryz.func22 rfl (Tc rfl (Tc rfl Te)) ⟨_, rfl, (hH.pick [1] rfl rfl).upF (Kn _)⟩
def Xz (F : Nat) (d : Th) (e : Int) : Option ((List Bool) × Int) :=
 bnd (Kf F d) fun b =>
 bif (!(b == (0 : Int))) then
  some (([] : List Bool), b)
 else
  bnd (X2 F e (0 : Int) (1 : Int)) fun c =>
  bif (!c) then
   some (([] : List Bool), (8 : Int))
  else
   Kx F F e (0 : Int) d.Duties d.Work d.Vetoes.e0 d.Vetoes.e1 d.Data.e0 d.Data.e1 ([] : List Bool)
theorem z79 (F : Nat) (a0 : Th) (a1 : Int) (s0 s1 s2 s3 s4 s5 : SV) (r : (List Bool) × Int) (M : Mem) (p : Slc (rd M) 3 (Ta Q9) s0 a0.Duties) (q : Slc (rd M) 2 (Ta Tg) s1 a0.Work) (u : Slc (rd M) 2 (Tf (rd M)) s2 a0.Vetoes.e0) (w : Slc (rd M) 2 (Tf (rd M)) s3 a0.Vetoes.e1) (x : Slc (rd M) 1 (Ta Qd) s4 a0.Data.e0) (y : Slc (rd M) 1 (Ta Qd) s5 a0.Data.e1) (h : Xz F a0 a1 = some r) : CallsM Tryz.prog 22 [(.agg [s0, s1, s2, s3, s4, s5]), (.int .i64 a1)] M (fun s M' => ∃ q1, s = (.tuple [q1, (.int .i64 r.2)]) ∧ New M M' [.vec 4 1 r.1.length q1 (r.1.flatMap z0h)]) := by
 refine CallsM.fresh (Q := z3i r) Tryz.func22 rfl rfl ?_ (by rintro s Me ⟨q1, rfl, hx⟩ ha hw; exact ⟨_, rfl, New.of rfl hx ha hw⟩)
 rw [Xz] at h
 replace p := p.mono (T3 M) (fun _ _ h => h)
 replace q := q.mono (T3 M) (fun _ _ h => h)
 replace u := u.mono (T3 M) (fun _ _ => z00 (T3 M))
 replace w := w.mono (T3 M) (fun _ _ => z00 (T3 M))
 replace x := x.mono (T3 M) (fun _ _ h => h)
 replace y := y.mono (T3 M) (fun _ _ h => h)
 have hH := Has.nil (frozen M)
 refine Run.seq (Run.region ?_)
 refine ox rfl (ExG.box rfl rfl hH) ?_
 rintro _ a2 ⟨c, rfl, b⟩
 refine av rfl rfl <| av rfl rfl ?_
 refine Run.Wd (Run.seq (Run.seq (Run.region ?_)))
 refine og (Tj rfl (b.cells (i := 0) rfl 0 rfl) T5 z1c rfl rfl rfl) rfl ?_
 obtain ⟨a3, m, h⟩ := T8 h
 refine Run.callP T7 (Tl rfl z93 z8x) rfl (z1e F a0 s0 s1 s2 s3 s4 s5 _ _ (b.slcF p) (b.slcF q) ((u).mono b.le (fun _ _ => z00 b.le)) ((w).mono b.le (fun _ _ => z00 b.le)) (b.slcF x) (b.slcF y) m) <| av rfl rfl ?_
 refine Run.Wd (Run.seq (Run.region ?_))
 refine mv rfl rfl <| og (Gd rfl rfl) rfl <| Run.Wd ?_
 rcases btf ((!(a3 == (0 : Int)))) with hc27 | hc27
 ·have h := Tm hc27 h
  refine Run.Wf rfl hc27 ?_
  refine Run.seq (Run.region ?_)
  refine mv rfl rfl <| av rfl rfl <| av rfl rfl <| Run.Wd ?_
  have e : Has (ro (frozen M)) a2 [.vec 4 1 ([] : List Bool).length .nils (([] : List Bool).flatMap z0h), .obj c (.row 38 .whole [s0, s1, s2, s3, s4, s5])] := b.nils 4 1
  cases h
  exact Run.ret Tryz.func22 rfl (Tc rfl (Tc rfl Te)) ⟨_, rfl, (e.pick [0] rfl rfl).upF (Kn _)⟩
 ·have h := Tn hc27 h
  refine Run.We rfl hc27 ?_
  refine Run.skip (Run.seq (Run.seq (Run.region ?_)))
  refine mv rfl rfl ?_
  obtain ⟨a4, n, h⟩ := T8 h
  refine Run.callP T7 (Tl rfl z7z z7v) rfl (z0x F a1 (0 : Int) (1 : Int) _ _ n) <| og (Jh rfl) rfl <| Run.Wd ?_
  rcases btf ((!a4)) with d | d
  ·have h := Tm d h
   refine Run.Wf rfl d ?_
   refine Run.seq (Run.region ?_)
   refine av rfl rfl <| av rfl rfl <| Run.Wd ?_
   have f : Has (ro (frozen M)) a2 [.vec 4 1 ([] : List Bool).length .nils (([] : List Bool).flatMap z0h), .obj c (.row 38 .whole [s0, s1, s2, s3, s4, s5])] := b.nils 4 1
   cases h
   exact Run.ret Tryz.func22 rfl (Tc rfl (Tc rfl Te)) ⟨_, rfl, (f.pick [0] rfl rfl).upF (Kn _)⟩
  ·have h := Tn d h
   refine Run.We rfl d ?_
   refine Run.skip (Run.seq (Run.region ?_))
   refine av rfl rfl ?_
   refine Run.Wd (Run.seq (Run.seq (Run.region ?_)))
   refine av rfl rfl ?_
   refine Run.Wd (Run.block (Run.loop ?_))
   have g : Has (ro (frozen M)) a2 [.vec 4 1 ([] : List Bool).length .nils (([] : List Bool).flatMap z0h), .obj c (.row 38 .whole [s0, s1, s2, s3, s4, s5])] := b.nils 4 1
   exact Run.pick [1, 2, 7, 8] (z6c F F a1 (0 : Int) a0.Duties a0.Work a0.Vetoes.e0 a0.Vetoes.e1 a0.Data.e0 a0.Data.e1 ([] : List Bool) s0 s1 s2 s3 s4 s5 c .nils _ _ _ p q u w x y (g.pick [1, 0] rfl rfl) h)
theorem zc8 : J8 Tryz.prog 22 = none := by kernel_rfl
theorem zb8 : Ts Tryz.prog 22 = true := by kernel_rfl
theorem z85 : Zf Tryz.prog 48 = some (.sl 1) := by kernel_rfl
theorem z9q : Jw Tryz.prog 4 = some none := by kernel_rfl
theorem zd7 : eqK Tryz.prog 4 = some .bool := by kernel_rfl
theorem z2j : Gy Tryz.prog (Vu (atC Tryz.prog 23 [1, 1, 0, 1, 0, 0, 1, 0, 0, 0])) = some [.fl 0, .fl 1, .fl 2, .fl 3, .fl 4, .fl 5, .fl 6, .fl 7, .fl 8, .sync] := by kernel_rfl
abbrev z1v (r : Bool) : SV → Mem → Prop := fun s _ => s = (.bool r)
def Jj (F : Nat) : Nat → List Bool → List Bool → Int → Option Bool
 | 0, _, _, _ => none
 | N + 1, e, f, d =>
  bif (decide (d < (e.length : Int))) then
   bnd (idx e d) fun b =>
   bnd (idx f d) fun c =>
   bif (!(b == c)) then
    some false
   else
    (Jj F N) e f (w64 (d + 1))
  else
   some true
theorem z4t (F : Nat) : ∀ (N : Nat), ∀ (v0 v1 : List Bool) (v5 : Int) (m n : SV) (Fr : Rd) (M : Mem) (r : Bool) (c : Slc Fr 1 (Ta z0h) m v0) (p : Slc Fr 1 (Ta z0h) n v1) (hH : Has Fr M []), Jj F N v0 v1 v5 = some r → Run Tryz.prog ⟨⟨23, [], none⟩, []⟩ 26 (z1v r) [(0, m), (1, n), (5, (.int .i64 v5))] [T6 Tryz.prog 23 [1, 1, 0, 1, 0, 0], Tv Tryz.prog 23 [1, 1, 0, 1, 0, 0], .inBlock 0, T6 Tryz.prog 23 [1, 1, 1]] M := by
 intro N
 induction N with
 | zero =>
  intro v0 v1 v5 m n Fr M r c p hH h
  simp [Jj] at h
 | succ N ih =>
  intro v0 v1 v5 m n Fr M r c p hH h
  rw [Jj] at h
  refine Run.seq (Run.seq (Run.region ?_))
  refine mv rfl rfl <| mv rfl rfl <| og (Q3 rfl c z5c) rfl <| og (Qz rfl rfl) rfl <| Run.Wd ?_
  rcases btf ((decide (v5 < (v0.length : Int)))) with hc22 | hc22
  ·have h := Tm hc22 h
   refine Run.Wf rfl hc22 ?_
   refine Run.skip (Run.seq (Run.block (Run.seq ?_)))
   refine Run.drawG z2j <| df rfl (Tk rfl) rfl <| df rfl (Tk rfl) rfl ?_
   obtain ⟨q, d, h⟩ := T8 h
   obtain ⟨x, u, _, d, f, rfl⟩ := Jc (P := Tryz.prog) (t := 48) (kk := .i64) c d z85
   refine df rfl (Q6 rfl rfl d) rfl <| df rfl (Tb rfl (hH.ptrF f) T5 z9q) rfl <| df rfl (Tk rfl) rfl <| df rfl (Tk rfl) rfl ?_
   obtain ⟨s, e, h⟩ := T8 h
   obtain ⟨y, w, _, e, g, rfl⟩ := Jc (P := Tryz.prog) (t := 48) (kk := .i64) p e z85
   refine df rfl (Q6 rfl rfl e) rfl <| df rfl (Tb rfl (hH.ptrF g) T5 z9q) rfl <| df rfl (ex_neqB rfl rfl zd7) rfl <| DrawG.sync <| DrawG.nil ?_
   rcases btf ((!(q == s))) with b | b
   ·have h := Tm b h
    refine Run.Wf rfl b ?_
    refine Run.seq (Run.region ?_)
    refine av rfl rfl <| Run.Wd ?_
    cases h
    exact Run.ret Tryz.func23 rfl (Tc rfl Te) rfl
   ·have h := Tn b h
    refine Run.We rfl b ?_
    refine Run.skip (Run.inBlock (Run.region ?_))
    refine mv rfl rfl <| og (Qq rfl rfl) rfl <| av rfl rfl ?_
    refine Run.Wd (Run.inLoop ?_)
    exact Run.pick [0, 1, 5] (ih v0 v1 (w64 (v5 + 1)) m n _ _ _ c p hH h)
  ·have h := Tn hc22 h
   refine Run.We rfl hc22 ?_
   refine Run.exit rfl (Run.seq (Run.region ?_))
   refine av rfl rfl <| Run.Wd ?_
   cases h
   exact Run.ret Tryz.func23 rfl (Tc rfl Te) rfl
def Gn (F : Nat) (b c : List Bool) : Option Bool :=
 bif (!((b.length : Int) == (c.length : Int))) then
  some false
 else
  Jj F F b c (0 : Int)
theorem z5h (F : Nat) (d e : List Bool) (f g : SV) (r : Bool) (M : Mem) (b : Slc (rd M) 1 (Ta z0h) f d) (c : Slc (rd M) 1 (Ta z0h) g e) (h : Gn F d e = some r) : CallsM Tryz.prog 23 [f, g] M (fun s M' => s = (.bool r) ∧ M' = M) := by
 refine CallsM.plain Tryz.func23 rfl rfl rfl (show Run _ _ _ (z1v r) _ _ _ from ?_)
 rw [Gn] at h
 replace b := b.mono (T3 M) (fun _ _ h => h)
 replace c := c.mono (T3 M) (fun _ _ h => h)
 have hH := Has.nil (frozen M)
 refine Run.seq (Run.region ?_)
 refine av rfl rfl ?_
 refine Run.Wd (Run.seq (Run.seq (Run.region ?_)))
 refine mv rfl rfl <| og (Q3 rfl b z5c) rfl <| mv rfl rfl <| og (Q3 rfl c z5c) rfl <| og (Gd rfl rfl) rfl <| Run.Wd ?_
 rcases btf ((!((d.length : Int) == (e.length : Int)))) with hc21 | hc21
 ·have h := Tm hc21 h
  refine Run.Wf rfl hc21 ?_
  refine Run.seq (Run.region ?_)
  refine av rfl rfl <| Run.Wd ?_
  cases h
  exact Run.ret Tryz.func23 rfl (Tc rfl Te) rfl
 ·have h := Tn hc21 h
  refine Run.We rfl hc21 ?_
  refine Run.skip (Run.seq (Run.seq (Run.region ?_)))
  refine av rfl rfl ?_
  refine Run.Wd (Run.block (Run.loop ?_))
  exact Run.pick [0, 1, 5] (z4t F F d e (0 : Int) f g _ _ _ b c hH h)
theorem zc9 : J8 Tryz.prog 23 = none := by kernel_rfl
theorem zb9 : Ts Tryz.prog 23 = true := by kernel_rfl
theorem z8q : Jy Tryz.prog 46 2 = some 2 := by kernel_rfl
theorem zac : Jx Tryz.prog 24 = some (⟨1, 8, [(.int .i64 0)], 3⟩ : Elt) := by kernel_rfl
theorem z7t : appT Tryz.prog 24 24 = some (⟨1, 8, [(.int .i64 0)], 3⟩ : Elt) := by kernel_rfl
abbrev z0t (r : List Int) : SV → Mem → Prop := fun s Me => ∃ q1, s = q1 ∧ Has (fun _ => none) Me [.vec 3 1 r.length q1 (r.flatMap Qd)]
def Kr (F : Nat) (b : Int → Int → Int → Int → List Int → List Bool → Option ((List Int))) (g m e f : Int) (d : List Int) (c : List Bool) : Option ((List Int)) :=
 b g m e (w64 (f + 1)) d c
theorem z1a (F : Nat) (n : Int → Int → Int → Int → List Int → List Bool → Option ((List Int))) (b : ∀ (p q g m : Int) (d : List Int) (c : List Bool) (f e : SV) (Fr : Rd) (M : Mem) (r : List Int) (hH : Has Fr M [.vec 3 1 d.length f (d.flatMap Qd), .vec 4 1 c.length e (c.flatMap z0h)]), n p q g m d c = some r → Run Tryz.prog ⟨⟨41, [], none⟩, []⟩ 38 (z0t r) [(2, (.int .i64 p)), (7, f), (8, (.int .i64 q)), (14, e), (15, (.int .i64 g)), (16, (.int .i64 m))] [T6 Tryz.prog 41 [1, 1, 1, 0, 1, 0, 0], Tv Tryz.prog 41 [1, 1, 1, 0, 1, 0, 0], .inBlock 0, T6 Tryz.prog 41 [1, 1, 1, 1]] M) : ∀ (p q g m : Int) (d : List Int) (c : List Bool) (f e : SV) (Fr : Rd) (M : Mem) (r : List Int) (hH : Has Fr M [.vec 3 1 d.length f (d.flatMap Qd), .vec 4 1 c.length e (c.flatMap z0h)]), Kr F n p q g m d c = some r → Run Tryz.prog ⟨⟨41, [], none⟩, []⟩ 38 (z0t r) [(2, (.int .i64 p)), (7, f), (8, (.int .i64 q)), (14, e), (15, (.int .i64 g)), (16, (.int .i64 m))] [Tu Tryz.prog 41 [1, 1, 1, 0, 1, 0, 0, 1, 1, 1] 0, Tv Tryz.prog 41 [1, 1, 1, 0, 1, 0, 0], .inBlock 0, T6 Tryz.prog 41 [1, 1, 1, 1]] M := by
 intro p q g m d c f e Fr M r hH h
 rw [Kr] at h
 refine og (Qq rfl rfl) rfl <| mv rfl rfl ?_
 refine Run.Wd (Run.inLoop ?_)
 exact Run.pick [2, 7, 8, 14, 15, 16] (b p q g (w64 (m + 1)) d c f e _ _ _ hH h)
def Qj (F : Nat) : Nat → Int → Int → Int → Int → List Int → List Bool → Option ((List Int))
 | 0, _, _, _, _, _, _ => none
 | N + 1, m, n, e, b, d, c =>
  bif (decide (b < e)) then
   bnd (idx c b) fun g =>
   bif (!g) then
    Kr F (Qj F N) m (w64 (b + 1)) e b d c
   else
    bif (decide (n ≤ (w64 ((w64 (b + 1)) - m)))) then
     bnd (apd 8 d ([(w64 ((w64 (b + 1)) - m))] : List Int)) fun f =>
     Kr F (Qj F N) m n e b f c
    else
     Kr F (Qj F N) m n e b d c
  else
   some d
theorem z57 (F : Nat) : ∀ (N : Nat), ∀ (v2 v8 w c : Int) (s : List Int) (q : List Bool) (x u : SV) (Fr : Rd) (M : Mem) (r : List Int) (hH : Has Fr M [.vec 3 1 s.length x (s.flatMap Qd), .vec 4 1 q.length u (q.flatMap z0h)]), Qj F N v2 v8 w c s q = some r → Run Tryz.prog ⟨⟨41, [], none⟩, []⟩ 38 (z0t r) [(2, (.int .i64 v2)), (7, x), (8, (.int .i64 v8)), (14, u), (15, (.int .i64 w)), (16, (.int .i64 c))] [T6 Tryz.prog 41 [1, 1, 1, 0, 1, 0, 0], Tv Tryz.prog 41 [1, 1, 1, 0, 1, 0, 0], .inBlock 0, T6 Tryz.prog 41 [1, 1, 1, 1]] M := by
 intro N
 induction N with
 | zero =>
  intro v2 v8 w c s q x u Fr M r hH h
  simp [Qj] at h
 | succ N ih =>
  intro v2 v8 w c s q x u Fr M r hH h
  rw [Qj] at h
  refine Run.seq (Run.region ?_)
  refine og (Qz rfl rfl) rfl ?_
  refine Run.Wd (Run.seq ?_)
  rcases btf ((decide (c < w))) with b | b
  ·have h := Tm b h
   refine Run.Wf rfl b ?_
   refine Run.skip (Run.seq (Run.block (Run.seq (Run.region ?_))))
   refine mv rfl rfl ?_
   obtain ⟨a2, f, h⟩ := T8 h
   obtain ⟨a6, a5, m, f, n⟩ := Yn (P := Tryz.prog) (t := 48) (kk := .i64) hH (i := 1) rfl f z85
   refine og (Q6 rfl rfl f) rfl <| og (Tb rfl (hH.at (enc := z0h) (a := a2) (i := 1) rfl m n z06) T5 z9q) rfl <| av rfl rfl <| av rfl rfl ?_
   refine Run.Wd (Run.seq (Run.region ?_))
   refine mv rfl rfl <| og (Qq rfl rfl) rfl <| mv rfl rfl <| og (Vb rfl rfl) rfl <| av rfl rfl ?_
   refine Run.Wd (Run.seq (Run.region ?_))
   refine mv rfl rfl <| og (Jh rfl) rfl <| Run.Wd ?_
   rcases btf ((!a2)) with d | d
   ·have h := Tm d h
    refine Run.Wf rfl d <| Run.region <| mv rfl rfl <| og (Qq rfl rfl) rfl <| av rfl rfl ?_
    refine Run.Wd (Run.inBlock (Run.region ?_))
    exact Run.pick [2, 7, 8, 14, 15, 16] (z1a F (Qj F N) ih v2 (w64 (c + 1)) w c s q x u _ _ _ hH h)
   ·have h := Tn d h
    refine Run.We rfl d ?_
    refine Run.seq (Run.region ?_)
    refine mv rfl rfl <| mv rfl rfl <| og (Z5 rfl rfl) rfl <| Run.Wd ?_
    rcases btf ((decide (v8 ≤ (w64 ((w64 (c + 1)) - v2))))) with hc35 | hc35
    ·have h := Tm hc35 h
     refine Run.Wf rfl hc35 <| Run.region <| mv rfl rfl <| mv rfl rfl <| ox rfl (ExG.built (enc := Qd) (l := ([(w64 ((w64 (c + 1)) - v2))] : List Int)) (z := 1) rfl zac rfl rfl rfl z17 hH) ?_
     rintro a0 a3 (e : Has Fr a3 [.vec 3 1 ([(w64 ((w64 (c + 1)) - v2))] : List Int).length a0 (([(w64 ((w64 (c + 1)) - v2))] : List Int).flatMap Qd), .vec 3 1 s.length x (s.flatMap Qd), .vec 4 1 q.length u (q.flatMap z0h)])
     obtain ⟨y, p, h⟩ := T8 h
     refine ox rfl (ExG.append rfl rfl e (i := 1) rfl z17 rfl z7y z7t rfl (V9 (e.slc (i := 0) rfl z17)) (Zi (e.slc (i := 0) rfl z17) (Yp _) z17) p) ?_
     rintro a1 a4 (g : Has Fr a4 [.vec 3 1 ([(w64 ((w64 (c + 1)) - v2))] : List Int).length a0 (([(w64 ((w64 (c + 1)) - v2))] : List Int).flatMap Qd), .vec 3 1 y.length a1 (y.flatMap Qd), .vec 4 1 q.length u (q.flatMap z0h)])
     refine av rfl rfl ?_
     refine Run.Wd (Run.inBlock (Run.region ?_))
     exact Run.pick [2, 7, 8, 14, 15, 16] (z1a F (Qj F N) ih v2 v8 w c y q a1 u _ _ _ (g.pick [1, 2] rfl rfl) h)
    ·have h := Tn hc35 h
     refine Run.We rfl hc35 ?_
     refine Run.skip (Run.inBlock (Run.region ?_))
     exact Run.pick [2, 7, 8, 14, 15, 16] (z1a F (Qj F N) ih v2 v8 w c s q x u _ _ _ hH h)
  ·have h := Tn b h
   refine Run.We rfl b ?_
   refine Run.exit rfl (Run.seq (Run.region ?_))
   refine mv rfl rfl <| av rfl rfl <| Run.Wd ?_
   cases h
   exact Run.ret Tryz.func41 rfl (Tc rfl Te) ⟨_, rfl, (hH.pick [0] rfl rfl).upF (Kn _)⟩
def Gi (F : Nat) (c : Tz) (d e : Int) : Option ((List Int)) :=
 bnd (K7 F c d) fun b =>
 Qj F F e (0 : Int) (b.length : Int) (0 : Int) ([] : List Int) b
theorem z62 (F : Nat) (a0 : Tz) (a1 a2 : Int) (s0 s1 s2 s3 s4 s5 : SV) (r : List Int) (M : Mem) (n : Slc (rd M) 3 (Ta Q9) s0 a0.duties) (p : Slc (rd M) 2 (Ta Tg) s1 a0.work) (q : Slc (rd M) 2 (Tf (rd M)) s2 a0.vetoes.e0) (u : Slc (rd M) 2 (Tf (rd M)) s3 a0.vetoes.e1) (w : Slc (rd M) 1 (Ta Qd) s4 a0.data.e0) (x : Slc (rd M) 1 (Ta Qd) s5 a0.data.e1) (h : Gi F a0 a1 a2 = some r) : CallsM Tryz.prog 41 [(.agg [s0, s1, s2, s3, s4, s5]), (.int .i64 a1), (.int .i64 a2)] M (fun s M' => ∃ q1, s = q1 ∧ New M M' [.vec 3 1 r.length q1 (r.flatMap Qd)]) := by
 refine CallsM.fresh (Q := z0t r) Tryz.func41 rfl rfl ?_ (by rintro s Me ⟨q1, rfl, hx⟩ ha hw; exact ⟨_, rfl, New.of rfl hx ha hw⟩)
 rw [Gi] at h
 replace n := n.mono (T3 M) (fun _ _ h => h)
 replace p := p.mono (T3 M) (fun _ _ h => h)
 replace q := q.mono (T3 M) (fun _ _ => z00 (T3 M))
 replace u := u.mono (T3 M) (fun _ _ => z00 (T3 M))
 replace w := w.mono (T3 M) (fun _ _ h => h)
 replace x := x.mono (T3 M) (fun _ _ h => h)
 have hH := Has.nil (frozen M)
 refine Run.seq (Run.region ?_)
 refine ox rfl (ExG.box rfl rfl hH) ?_
 rintro _ a4 ⟨a3, rfl, b⟩
 refine av rfl rfl ?_
 refine Run.Wd (Run.seq (Run.region ?_))
 refine av rfl rfl ?_
 refine Run.Wd (Run.seq (Run.region ?_))
 refine av rfl rfl ?_
 refine Run.Wd (Run.seq (Run.seq (Run.region ?_)))
 refine og (Tj rfl (b.cells (i := 0) rfl 0 rfl) T5 z4r rfl rfl rfl) rfl <| mv rfl rfl ?_
 obtain ⟨c, m, h⟩ := T8 h
 refine Run.callX T7 (Tl rfl z92 z8w) rfl (z13 F a0 a1 s0 s1 s2 s3 s4 s5 _ _ (b.slcF n) (b.slcF p) ((q).mono b.le (fun _ _ => z00 b.le)) ((u).mono b.le (fun _ _ => z00 b.le)) (b.slcF w) (b.slcF x) m) ?_
 rintro d y ⟨_, rfl, g⟩
 have e : Has (ro (frozen M)) y [.vec 4 1 c.length d (c.flatMap z0h), .obj a3 (.row 85 .whole [s0, s1, s2, s3, s4, s5])] := g.1 _ _ b
 refine og (Q3 rfl (e.slc (i := 0) rfl z06) z5c) rfl <| mv rfl rfl ?_
 refine Run.Wd (Run.block (Run.loop ?_))
 have f : Has (ro (frozen M)) y [.vec 3 1 ([] : List Int).length .nils (([] : List Int).flatMap Qd), .vec 4 1 c.length d (c.flatMap z0h), .obj a3 (.row 85 .whole [s0, s1, s2, s3, s4, s5])] := e.nils 3 1
 exact Run.pick [2, 7, 8, 14, 15, 16] (z57 F F a2 (0 : Int) (c.length : Int) (0 : Int) ([] : List Int) c .nils d _ _ _ (f.pick [0, 1] rfl rfl) h)
theorem zcd : J8 Tryz.prog 41 = none := by kernel_rfl
theorem zbd : Ts Tryz.prog 41 = true := by kernel_rfl
abbrev z7e (r : (List Int) × Int) : SV → Mem → Prop := fun s Me => ∃ q1, s = (.tuple [q1, (.int .i64 r.2)]) ∧ Has (fun _ => none) Me [.vec 3 1 r.1.length q1 (r.1.flatMap Qd)]
def Za (F : Nat) (e : Th) (f g : Int) : Option ((List Int) × Int) :=
 bnd (Ki F e f) fun b =>
 bif (!(b == (0 : Int))) then
  some (([] : List Int), b)
 else
  bnd (Gh F (1 : Int) g (512 : Int)) fun c =>
  bif (!c) then
   some (([] : List Int), (8 : Int))
  else
   bnd (Gi F (Tz.mk e.Duties e.Work e.Vetoes e.Data) f g) fun d =>
   some (d, (0 : Int))
theorem z82 (F : Nat) (a0 : Th) (a1 a2 : Int) (s0 s1 s2 s3 s4 s5 : SV) (r : (List Int) × Int) (M : Mem) (c : Slc (rd M) 3 (Ta Q9) s0 a0.Duties) (a4 : Slc (rd M) 2 (Ta Tg) s1 a0.Work) (a5 : Slc (rd M) 2 (Tf (rd M)) s2 a0.Vetoes.e0) (a6 : Slc (rd M) 2 (Tf (rd M)) s3 a0.Vetoes.e1) (a7 : Slc (rd M) 1 (Ta Qd) s4 a0.Data.e0) (a8 : Slc (rd M) 1 (Ta Qd) s5 a0.Data.e1) (h : Za F a0 a1 a2 = some r) : CallsM Tryz.prog 16 [(.agg [s0, s1, s2, s3, s4, s5]), (.int .i64 a1), (.int .i64 a2)] M (fun s M' => ∃ q1, s = (.tuple [q1, (.int .i64 r.2)]) ∧ New M M' [.vec 3 1 r.1.length q1 (r.1.flatMap Qd)]) := by
 refine CallsM.fresh (Q := z7e r) Tryz.func16 rfl rfl ?_ (by rintro s Me ⟨q1, rfl, hx⟩ ha hw; exact ⟨_, rfl, New.of rfl hx ha hw⟩)
 rw [Za] at h
 replace c := c.mono (T3 M) (fun _ _ h => h)
 replace a4 := a4.mono (T3 M) (fun _ _ h => h)
 replace a5 := a5.mono (T3 M) (fun _ _ => z00 (T3 M))
 replace a6 := a6.mono (T3 M) (fun _ _ => z00 (T3 M))
 replace a7 := a7.mono (T3 M) (fun _ _ h => h)
 replace a8 := a8.mono (T3 M) (fun _ _ h => h)
 have hH := Has.nil (frozen M)
 refine Run.seq (Run.region ?_)
 refine ox rfl (ExG.box rfl rfl hH) ?_
 rintro _ b0 ⟨a9, rfl, d⟩
 refine av rfl rfl <| av rfl rfl ?_
 refine Run.Wd (Run.seq (Run.seq (Run.region ?_)))
 refine og (Tj rfl (d.cells (i := 0) rfl 0 rfl) T5 z1c rfl rfl rfl) rfl <| mv rfl rfl ?_
 obtain ⟨b6, x, h⟩ := T8 h
 refine Run.callP T7 (Tl rfl zar za3) rfl (z1x F a0 a1 s0 s1 s2 s3 s4 s5 _ _ (d.slcF c) (d.slcF a4) ((a5).mono d.le (fun _ _ => z00 d.le)) ((a6).mono d.le (fun _ _ => z00 d.le)) (d.slcF a7) (d.slcF a8) x) <| av rfl rfl ?_
 refine Run.Wd (Run.block (Run.seq (Run.region ?_)))
 refine mv rfl rfl <| og (Gd rfl rfl) rfl <| av rfl rfl <| Run.Wd ?_
 rcases btf ((!(b6 == (0 : Int)))) with hc27 | hc27
 ·have h := Tm hc27 h
  refine Run.Wf rfl hc27 ?_
  refine Run.seq (Run.region ?_)
  refine mv rfl rfl <| av rfl rfl <| av rfl rfl <| Run.Wd ?_
  have n : Has (ro (frozen M)) b0 [.vec 3 1 ([] : List Int).length .nils (([] : List Int).flatMap Qd), .obj a9 (.row 38 .whole [s0, s1, s2, s3, s4, s5])] := d.nils 3 1
  cases h
  exact Run.ret Tryz.func16 rfl (Tc rfl (Tc rfl Te)) ⟨_, rfl, (n.pick [0] rfl rfl).upF (Kn _)⟩
 ·have h := Tn hc27 h
  refine Run.We rfl hc27 ?_
  refine Run.seq (Run.region ?_)
  refine mv rfl rfl ?_
  obtain ⟨b7, y, h⟩ := T8 h
  refine Run.callP T7 (Tl rfl z8e z8d) rfl (z12 F (1 : Int) a2 (512 : Int) _ _ y) <| og (Jh rfl) rfl <| av rfl rfl <| Run.Wd ?_
  rcases btf ((!b7)) with g | g
  ·have h := Tm g h
   refine Run.Wf rfl g ?_
   refine Run.seq (Run.region ?_)
   refine av rfl rfl <| av rfl rfl <| Run.Wd ?_
   have p : Has (ro (frozen M)) b0 [.vec 3 1 ([] : List Int).length .nils (([] : List Int).flatMap Qd), .obj a9 (.row 38 .whole [s0, s1, s2, s3, s4, s5])] := d.nils 3 1
   cases h
   exact Run.ret Tryz.func16 rfl (Tc rfl (Tc rfl Te)) ⟨_, rfl, (p.pick [0] rfl rfl).upF (Kn _)⟩
  ·have h := Tn g h
   refine Run.We rfl g ?_
   refine Run.skip (Run.inBlock (Run.seq (Run.region ?_)))
   refine og (Tj rfl (d.cells (i := 0) rfl 0 rfl) T5 z1c rfl rfl rfl) rfl <| Run.enter T7 (Tl rfl z8n z8i) Tryz.func35 rfl rfl ?_
   refine Run.seq (Run.region ?_)
   refine ox rfl (ExG.box rfl rfl d) ?_
   rintro _ b8 ⟨b1, rfl, q⟩
   refine ox rfl (ExG.new (v := fun b => .ptr b 0) (Jz z71) q) ?_
   rintro _ b9 ⟨b2, rfl, f⟩
   refine Run.Wd (Run.seq (Run.region ?_))
   refine og (T4 rfl z1r) rfl <| og (Tb rfl (f.cells (i := 1) rfl 0 rfl) T5 z3q) rfl <| og (T4 rfl z2a) rfl <| og (Tb rfl (f.cells (i := 1) rfl 1 rfl) T5 z2w) rfl <| og (T4 rfl z2t) rfl <| og (Tj rfl (f.cells (i := 1) rfl 2 rfl) T5 z8b rfl rfl rfl) rfl <| og (T4 rfl z19) rfl <| og (Tj rfl (f.cells (i := 1) rfl 4 rfl) T5 z8c rfl rfl rfl) rfl <| og (Yk (r := [s0, s1, s2, s3, s4, s5]) rfl z71 z8u (by simp only [Zw, Gk (Qa c), Gk (Qa a4)]; rfl)) rfl <| ox rfl (ExG.Wg (c' := [s0, s1, s2, s3, s4, s5]) rfl rfl rfl f (i := 0) rfl z9r rfl rfl rfl (Q0 (Qa c) (Q0 (Qa a4) (Q0 (Qa a5) (Q0 (Qa a6) (Q0 (Qa a7) (Q0 (Qa a8) Ym)))))) rfl) ?_
   rintro _ b4 ⟨rfl, (e : Has (ro (frozen M)) b4 [.obj b2 (.row 85 .whole [s0, s1, s2, s3, s4, s5]), .obj b1 (.row 38 .whole [s0, s1, s2, s3, s4, s5]), .obj a9 (.row 38 .whole [s0, s1, s2, s3, s4, s5])])⟩
   refine Run.Wd <| Run.Wi Tryz.func35 rfl (Ze rfl (Vn (Tj rfl (e.cells (i := 0) rfl 0 rfl) T5 z4r rfl rfl rfl)) Te) rfl <| mv rfl rfl <| mv rfl rfl ?_
   obtain ⟨b3, a3, h⟩ := T8 h
   refine Run.callX T7 (Tl rfl zcd zbd) rfl (z62 F (Tz.mk a0.Duties a0.Work a0.Vetoes a0.Data) a1 a2 s0 s1 s2 s3 s4 s5 _ _ (e.slcF c) (e.slcF a4) ((a5).mono e.le (fun _ _ => z00 e.le)) ((a6).mono e.le (fun _ _ => z00 e.le)) (e.slcF a7) (e.slcF a8) a3) ?_
   rintro m b5 ⟨_, rfl, w⟩
   have u : Has (ro (frozen M)) b5 [.vec 3 1 b3.length m (b3.flatMap Qd), .obj b2 (.row 85 .whole [s0, s1, s2, s3, s4, s5]), .obj b1 (.row 38 .whole [s0, s1, s2, s3, s4, s5]), .obj a9 (.row 38 .whole [s0, s1, s2, s3, s4, s5])] := w.1 _ _ e
   refine av rfl rfl <| av rfl rfl <| Run.Wd ?_
   cases h
   exact Run.ret Tryz.func16 rfl (Tc rfl (Tc rfl Te)) ⟨_, rfl, (u.pick [0] rfl rfl).upF (Kn _)⟩
theorem zc5 : J8 Tryz.prog 16 = none := by kernel_rfl
theorem zb5 : Ts Tryz.prog 16 = true := by kernel_rfl
abbrev z3o (r : Bool) : SV → Mem → Prop := fun s _ => s = (.bool r)
def Kw (F : Nat) : Nat → Int → Int → Int → Int → List T1 → List T0 → List T2 → List T2 → List Int → List Int → Option Bool
 | 0, _, _, _, _, _, _, _, _, _, _ => none
 | N + 1, p, q, s, n, b, d, e, f, g, m =>
  bif (decide (n < (w64 (q + s)))) then
   bnd (K5 F (Th.mk b d (Tx.mk e f) (Qn.mk g m)) p n) fun c =>
   bif (!c) then
    some false
   else
    (Kw F N) p q s (w64 (n + 1)) b d e f g m
  else
   some true
theorem z6j (F : Nat) : ∀ (N : Nat), ∀ (v1 v2 v3 v9 : Int) (n : List T1) (p : List T0) (q s : List T2) (u w : List Int) (b d e f g m : SV) (c : Pos) (Fr : Rd) (M : Mem) (r : Bool) (x : Slc Fr 3 (Ta Q9) b n) (y : Slc Fr 2 (Ta Tg) d p) (a0 : Slc Fr 2 (Tf Fr) e q) (a1 : Slc Fr 2 (Tf Fr) f s) (a2 : Slc Fr 1 (Ta Qd) g u) (a3 : Slc Fr 1 (Ta Qd) m w) (hH : Has Fr M [.obj c (.row 38 .whole [b, d, e, f, g, m])]), Kw F N v1 v2 v3 v9 n p q s u w = some r → Run Tryz.prog ⟨⟨51, [], none⟩, []⟩ 31 (z3o r) [(1, (.int .i64 v1)), (2, (.int .i64 v2)), (3, (.int .i64 v3)), (4, (.ptr c 0)), (9, (.int .i64 v9))] [T6 Tryz.prog 51 [1, 1, 0, 1, 0, 0], Tv Tryz.prog 51 [1, 1, 0, 1, 0, 0], .inBlock 0, T6 Tryz.prog 51 [1, 1, 1]] M := by
 intro N
 induction N with
 | zero =>
  intro v1 v2 v3 v9 n p q s u w b d e f g m c Fr M r x y a0 a1 a2 a3 hH h
  simp [Kw] at h
 | succ N ih =>
  intro v1 v2 v3 v9 n p q s u w b d e f g m c Fr M r x y a0 a1 a2 a3 hH h
  rw [Kw] at h
  refine Run.seq (Run.seq (Run.region ?_))
  refine mv rfl rfl <| mv rfl rfl <| mv rfl rfl <| og (Qq rfl rfl) rfl <| og (Qz rfl rfl) rfl <| Run.Wd ?_
  rcases btf ((decide (v9 < (w64 (v2 + v3))))) with a4 | a4
  ·have h := Tm a4 h
   refine Run.Wf rfl a4 ?_
   refine Run.skip (Run.seq (Run.block (Run.seq (Run.region ?_))))
   refine og (Tj rfl (hH.cells (i := 0) rfl 0 rfl) T5 z1c rfl rfl rfl) rfl <| mv rfl rfl <| mv rfl rfl ?_
   obtain ⟨a7, a6, h⟩ := T8 h
   refine Run.callP T7 (Tl rfl z94 z8y) rfl (z1g F (Th.mk n p (Tx.mk q s) (Qn.mk u w)) v1 v9 b d e f g m _ _ (hH.slcF x) (hH.slcF y) ((a0).mono hH.le (fun _ _ => z00 hH.le)) ((a1).mono hH.le (fun _ _ => z00 hH.le)) (hH.slcF a2) (hH.slcF a3) a6) <| og (Jh rfl) rfl <| Run.Wd ?_
   rcases btf ((!a7)) with a5 | a5
   ·have h := Tm a5 h
    refine Run.Wf rfl a5 ?_
    refine Run.seq (Run.region ?_)
    refine av rfl rfl <| Run.Wd ?_
    cases h
    exact Run.ret Tryz.func51 rfl (Tc rfl Te) rfl
   ·have h := Tn a5 h
    refine Run.We rfl a5 ?_
    refine Run.skip (Run.inBlock (Run.region ?_))
    refine mv rfl rfl <| og (Qq rfl rfl) rfl <| av rfl rfl ?_
    refine Run.Wd (Run.inLoop ?_)
    exact Run.pick [1, 2, 3, 4, 9] (ih v1 v2 v3 (w64 (v9 + 1)) n p q s u w b d e f g m c _ _ _ x y a0 a1 a2 a3 hH h)
  ·have h := Tn a4 h
   refine Run.We rfl a4 ?_
   refine Run.exit rfl (Run.seq (Run.region ?_))
   refine av rfl rfl <| Run.Wd ?_
   cases h
   exact Run.ret Tryz.func51 rfl (Tc rfl Te) rfl
def Y3 (F : Nat) (b : Th) (e c d : Int) : Option Bool :=
 bif (decide ((b.Data.e0.length : Int) < (w64 (c + d)))) then
  some false
 else
  Kw F F e c d c b.Duties b.Work b.Vetoes.e0 b.Vetoes.e1 b.Data.e0 b.Data.e1
theorem z7b (F : Nat) (q : Th) (x u w : Int) (y s1 s2 s3 s4 s5 : SV) (r : Bool) (M : Mem) (d : Slc (rd M) 3 (Ta Q9) y q.Duties) (e : Slc (rd M) 2 (Ta Tg) s1 q.Work) (f : Slc (rd M) 2 (Tf (rd M)) s2 q.Vetoes.e0) (g : Slc (rd M) 2 (Tf (rd M)) s3 q.Vetoes.e1) (c : Slc (rd M) 1 (Ta Qd) s4 q.Data.e0) (m : Slc (rd M) 1 (Ta Qd) s5 q.Data.e1) (h : Y3 F q x u w = some r) : CallsM Tryz.prog 51 [(.agg [y, s1, s2, s3, s4, s5]), (.int .i64 x), (.int .i64 u), (.int .i64 w)] M (fun s M' => s = (.bool r) ∧ M' = M) := by
 refine CallsM.plain Tryz.func51 rfl rfl rfl (show Run _ _ _ (z3o r) _ _ _ from ?_)
 rw [Y3] at h
 replace d := d.mono (T3 M) (fun _ _ h => h)
 replace e := e.mono (T3 M) (fun _ _ h => h)
 replace f := f.mono (T3 M) (fun _ _ => z00 (T3 M))
 replace g := g.mono (T3 M) (fun _ _ => z00 (T3 M))
 replace c := c.mono (T3 M) (fun _ _ h => h)
 replace m := m.mono (T3 M) (fun _ _ h => h)
 have hH := Has.nil (frozen M)
 refine Run.seq (Run.region ?_)
 refine ox rfl (ExG.box rfl rfl hH) ?_
 rintro _ p ⟨n, rfl, b⟩
 refine av rfl rfl ?_
 refine Run.Wd (Run.seq (Run.seq (Run.region ?_)))
 refine mv rfl rfl <| mv rfl rfl <| og (Qq rfl rfl) rfl <| og (T4 rfl z19) rfl <| og (Q6 rfl rfl (Qr (j := 0) rfl z4s)) rfl <| og (Tb rfl (b.cells (i := 0) rfl 4 rfl) T5 z4q) rfl <| og (Q3 rfl c z1u) rfl <| og (Xw rfl rfl) rfl <| Run.Wd ?_
 rcases btf ((decide ((q.Data.e0.length : Int) < (w64 (u + w))))) with hc26 | hc26
 ·have h := Tm hc26 h
  refine Run.Wf rfl hc26 ?_
  refine Run.seq (Run.region ?_)
  refine av rfl rfl <| Run.Wd ?_
  cases h
  exact Run.ret Tryz.func51 rfl (Tc rfl Te) rfl
 ·have h := Tn hc26 h
  refine Run.We rfl hc26 ?_
  refine Run.skip (Run.seq (Run.seq (Run.region ?_)))
  refine mv rfl rfl <| av rfl rfl ?_
  refine Run.Wd (Run.block (Run.loop ?_))
  exact Run.pick [1, 2, 3, 4, 9] (z6j F F x u w u q.Duties q.Work q.Vetoes.e0 q.Vetoes.e1 q.Data.e0 q.Data.e1 y s1 s2 s3 s4 s5 n _ _ _ d e f g c m b h)
theorem zcg : J8 Tryz.prog 51 = none := by kernel_rfl
theorem zbg : Ts Tryz.prog 51 = true := by kernel_rfl
abbrev z0u (r : (List Int) × Int) : SV → Mem → Prop := fun s Me => ∃ q1, s = (.tuple [q1, (.int .i64 r.2)]) ∧ Has (fun _ => none) Me [.vec 3 1 r.1.length q1 (r.1.flatMap Qd)]
def Xn (F : Nat) (c : Int → Int → Int → List T1 → List T0 → List T2 → List T2 → List Int → List Int → List Int → Option ((List Int) × Int)) (q s p : Int) (b : List T1) (d : List T0) (e f : List T2) (g m n : List Int) : Option ((List Int) × Int) :=
 c q s (w64 (p + 1)) b d e f g m n
theorem z3k (F : Nat) (a9 : Int → Int → Int → List T1 → List T0 → List T2 → List T2 → List Int → List Int → List Int → Option ((List Int) × Int)) (a4 : ∀ (v1 v2 a5 : Int) (n : List T1) (p : List T0) (q s : List T2) (u w a8 : List Int) (b d e f g m : SV) (c : Pos) (b0 : SV) (Fr : Rd) (M : Mem) (r : (List Int) × Int) (x : Slc Fr 3 (Ta Q9) b n) (y : Slc Fr 2 (Ta Tg) d p) (a0 : Slc Fr 2 (Tf Fr) e q) (a1 : Slc Fr 2 (Tf Fr) f s) (a2 : Slc Fr 1 (Ta Qd) g u) (a3 : Slc Fr 1 (Ta Qd) m w) (hH : Has Fr M [.obj c (.row 38 .whole [b, d, e, f, g, m]), .vec 3 1 a8.length b0 (a8.flatMap Qd)]), a9 v1 v2 a5 n p q s u w a8 = some r → Run Tryz.prog ⟨⟨24, [], none⟩, []⟩ 42 (z0u r) [(1, (.int .i64 v1)), (2, (.int .i64 v2)), (3, (.ptr c 0)), (9, b0), (10, (.int .i64 a5))] [T6 Tryz.prog 24 [1, 1, 1, 1, 0, 1, 0, 0], Tv Tryz.prog 24 [1, 1, 1, 1, 0, 1, 0, 0], .inBlock 0, T6 Tryz.prog 24 [1, 1, 1, 1, 1]] M) : ∀ (v1 v2 a5 : Int) (n : List T1) (p : List T0) (q s : List T2) (u w a6 : List Int) (b d e f g m : SV) (c : Pos) (a7 : SV) (Fr : Rd) (M : Mem) (r : (List Int) × Int) (x : Slc Fr 3 (Ta Q9) b n) (y : Slc Fr 2 (Ta Tg) d p) (a0 : Slc Fr 2 (Tf Fr) e q) (a1 : Slc Fr 2 (Tf Fr) f s) (a2 : Slc Fr 1 (Ta Qd) g u) (a3 : Slc Fr 1 (Ta Qd) m w) (hH : Has Fr M [.obj c (.row 38 .whole [b, d, e, f, g, m]), .vec 3 1 a6.length a7 (a6.flatMap Qd)]), Xn F a9 v1 v2 a5 n p q s u w a6 = some r → Run Tryz.prog ⟨⟨24, [], none⟩, []⟩ 42 (z0u r) [(1, (.int .i64 v1)), (2, (.int .i64 v2)), (3, (.ptr c 0)), (9, a7), (10, (.int .i64 a5))] [Tu Tryz.prog 24 [1, 1, 1, 1, 0, 1, 0, 0, 1, 1] 0, Tv Tryz.prog 24 [1, 1, 1, 1, 0, 1, 0, 0], .inBlock 0, T6 Tryz.prog 24 [1, 1, 1, 1, 1]] M := by
 intro v1 v2 a5 n p q s u w a6 b d e f g m c a7 Fr M r x y a0 a1 a2 a3 hH h
 rw [Xn] at h
 refine mv rfl rfl <| og (Qq rfl rfl) rfl <| av rfl rfl ?_
 refine Run.Wd (Run.inLoop ?_)
 exact Run.pick [1, 2, 3, 9, 10] (a4 v1 v2 (w64 (a5 + 1)) n p q s u w a6 b d e f g m c a7 _ _ _ x y a0 a1 a2 a3 hH h)
def Jk (F : Nat) : Nat → Int → Int → Int → List T1 → List T0 → List T2 → List T2 → List Int → List Int → List Int → Option ((List Int) × Int)
 | 0, _, _, _, _, _, _, _, _, _, _ => none
 | N + 1, s, u, c, d, e, f, g, b, m, n =>
  bif (decide (c < (b.length : Int))) then
   bnd (Y3 F (Th.mk d e (Tx.mk f g) (Qn.mk b m)) s c u) fun q =>
   bif q then
    bnd (apd 8 n ([c] : List Int)) fun p =>
    Xn F (Jk F N) s u c d e f g b m p
   else
    Xn F (Jk F N) s u c d e f g b m n
  else
   some (n, (0 : Int))
theorem z6d (F : Nat) : ∀ (N : Nat), ∀ (v1 v2 c : Int) (q : List T1) (s : List T0) (u w : List T2) (n x b0 : List Int) (b d e f g m : SV) (a9 : Pos) (b1 : SV) (Fr : Rd) (M : Mem) (r : (List Int) × Int) (y : Slc Fr 3 (Ta Q9) b q) (a0 : Slc Fr 2 (Ta Tg) d s) (a1 : Slc Fr 2 (Tf Fr) e u) (a2 : Slc Fr 2 (Tf Fr) f w) (p : Slc Fr 1 (Ta Qd) g n) (a3 : Slc Fr 1 (Ta Qd) m x) (hH : Has Fr M [.obj a9 (.row 38 .whole [b, d, e, f, g, m]), .vec 3 1 b0.length b1 (b0.flatMap Qd)]), Jk F N v1 v2 c q s u w n x b0 = some r → Run Tryz.prog ⟨⟨24, [], none⟩, []⟩ 42 (z0u r) [(1, (.int .i64 v1)), (2, (.int .i64 v2)), (3, (.ptr a9 0)), (9, b1), (10, (.int .i64 c))] [T6 Tryz.prog 24 [1, 1, 1, 1, 0, 1, 0, 0], Tv Tryz.prog 24 [1, 1, 1, 1, 0, 1, 0, 0], .inBlock 0, T6 Tryz.prog 24 [1, 1, 1, 1, 1]] M := by
 intro N
 induction N with
 | zero =>
  intro v1 v2 c q s u w n x b0 b d e f g m a9 b1 Fr M r y a0 a1 a2 p a3 hH h
  simp [Jk] at h
 | succ N ih =>
  intro v1 v2 c q s u w n x b0 b d e f g m a9 b1 Fr M r y a0 a1 a2 p a3 hH h
  rw [Jk] at h
  refine Run.seq (Run.seq (Run.region ?_))
  refine mv rfl rfl <| og (T4 rfl z19) rfl <| og (Q6 rfl rfl (Qr (j := 0) rfl z4s)) rfl <| og (Tb rfl (hH.cells (i := 0) rfl 4 rfl) T5 z4q) rfl <| og (Q3 rfl p z1u) rfl <| og (Qz rfl rfl) rfl <| Run.Wd ?_
  rcases btf ((decide (c < (n.length : Int)))) with hc41 | hc41
  ·have h := Tm hc41 h
   refine Run.Wf rfl hc41 ?_
   refine Run.skip (Run.seq (Run.block (Run.seq (Run.region ?_))))
   refine og (Tj rfl (hH.cells (i := 0) rfl 0 rfl) T5 z1c rfl rfl rfl) rfl <| mv rfl rfl <| mv rfl rfl <| mv rfl rfl ?_
   obtain ⟨b7, a8, h⟩ := T8 h
   refine Run.callP T7 (Tl rfl zcg zbg) rfl (z7b F (Th.mk q s (Tx.mk u w) (Qn.mk n x)) v1 c v2 b d e f g m _ _ (hH.slcF y) (hH.slcF a0) ((a1).mono hH.le (fun _ _ => z00 hH.le)) ((a2).mono hH.le (fun _ _ => z00 hH.le)) (hH.slcF p) (hH.slcF a3) a8) <| Run.Wd ?_
   rcases btf (b7) with a4 | a4
   ·have h := Tm a4 h
    refine Run.Wf rfl a4 <| Run.region <| mv rfl rfl <| mv rfl rfl <| ox rfl (ExG.built (enc := Qd) (l := ([c] : List Int)) (z := 1) rfl zac rfl rfl rfl z17 hH) ?_
    rintro b3 b5 (a5 : Has Fr b5 [.vec 3 1 ([c] : List Int).length b3 (([c] : List Int).flatMap Qd), .obj a9 (.row 38 .whole [b, d, e, f, g, m]), .vec 3 1 b0.length b1 (b0.flatMap Qd)])
    obtain ⟨b2, a7, h⟩ := T8 h
    refine ox rfl (ExG.append rfl rfl a5 (i := 2) rfl z17 rfl z7y z7t rfl (V9 (a5.slc (i := 0) rfl z17)) (Zi (a5.slc (i := 0) rfl z17) (Yp _) z17) a7) ?_
    rintro b4 b6 (a6 : Has Fr b6 [.vec 3 1 ([c] : List Int).length b3 (([c] : List Int).flatMap Qd), .obj a9 (.row 38 .whole [b, d, e, f, g, m]), .vec 3 1 b2.length b4 (b2.flatMap Qd)])
    refine av rfl rfl ?_
    refine Run.Wd (Run.inBlock (Run.region ?_))
    exact Run.pick [1, 2, 3, 9, 10] (z3k F (Jk F N) ih v1 v2 c q s u w n x b2 b d e f g m a9 b4 _ _ _ y a0 a1 a2 p a3 (a6.pick [1, 2] rfl rfl) h)
   ·have h := Tn a4 h
    refine Run.We rfl a4 ?_
    refine Run.skip (Run.inBlock (Run.region ?_))
    exact Run.pick [1, 2, 3, 9, 10] (z3k F (Jk F N) ih v1 v2 c q s u w n x b0 b d e f g m a9 b1 _ _ _ y a0 a1 a2 p a3 hH h)
  ·have h := Tn hc41 h
   refine Run.We rfl hc41 ?_
   refine Run.exit rfl (Run.seq (Run.region ?_))
   refine mv rfl rfl <| av rfl rfl <| av rfl rfl <| Run.Wd ?_
   cases h
   exact Run.ret Tryz.func24 rfl (Tc rfl (Tc rfl Te)) ⟨_, rfl, (hH.pick [1] rfl rfl).upF (Kn _)⟩
def Xo (F : Nat) (n p : Int) (c : Bool) (b : List T1) (d : List T0) (e f : List T2) (g m : List Int) : Option ((List Int) × Int) :=
 bif c then
  some (([] : List Int), (8 : Int))
 else
  Jk F F n p (0 : Int) b d e f g m ([] : List Int)
theorem z3j (F : Nat) : ∀ (v1 v2 : Int) (a7 : Bool) (n : List T1) (p : List T0) (q s : List T2) (u w : List Int) (b d e f g m : SV) (c : Pos) (Fr : Rd) (M : Mem) (r : (List Int) × Int) (y : Slc Fr 3 (Ta Q9) b n) (a0 : Slc Fr 2 (Ta Tg) d p) (a1 : Slc Fr 2 (Tf Fr) e q) (a2 : Slc Fr 2 (Tf Fr) f s) (a3 : Slc Fr 1 (Ta Qd) g u) (a4 : Slc Fr 1 (Ta Qd) m w) (hH : Has Fr M [.obj c (.row 38 .whole [b, d, e, f, g, m])]), Xo F v1 v2 a7 n p q s u w = some r → Run Tryz.prog ⟨⟨24, [], none⟩, []⟩ 42 (z0u r) [(1, (.int .i64 v1)), (2, (.int .i64 v2)), (3, (.ptr c 0)), (23, (.bool a7))] [T6 Tryz.prog 24 [1, 1, 0, 1], T6 Tryz.prog 24 [1, 1, 1]] M := by
 intro v1 v2 a7 n p q s u w b d e f g m c Fr M r y a0 a1 a2 a3 a4 hH h
 rw [Xo] at h
 rcases btf (a7) with x | x
 ·have h := Tm x h
  refine Run.Wf rfl x ?_
  refine Run.seq (Run.region ?_)
  refine av rfl rfl <| av rfl rfl <| Run.Wd ?_
  have a5 : Has Fr M [.vec 3 1 ([] : List Int).length .nils (([] : List Int).flatMap Qd), .obj c (.row 38 .whole [b, d, e, f, g, m])] := hH.nils 3 1
  cases h
  exact Run.ret Tryz.func24 rfl (Tc rfl (Tc rfl Te)) ⟨_, rfl, (a5.pick [0] rfl rfl).upF (Kn _)⟩
 ·have h := Tn x h
  refine Run.We rfl x ?_
  refine Run.skip (Run.seq (Run.region ?_))
  refine av rfl rfl ?_
  refine Run.Wd (Run.seq (Run.seq (Run.region ?_)))
  refine av rfl rfl ?_
  refine Run.Wd (Run.block (Run.loop ?_))
  have a6 : Has Fr M [.vec 3 1 ([] : List Int).length .nils (([] : List Int).flatMap Qd), .obj c (.row 38 .whole [b, d, e, f, g, m])] := hH.nils 3 1
  exact Run.pick [1, 2, 3, 9, 10] (z6d F F v1 v2 (0 : Int) n p q s u w ([] : List Int) b d e f g m c .nils _ _ _ y a0 a1 a2 a3 a4 (a6.pick [1, 0] rfl rfl) h)
def Y1 (F : Nat) (e : Th) (f g : Int) : Option ((List Int) × Int) :=
 bnd (Kf F e) fun b =>
 bif (!(b == (0 : Int))) then
  some (([] : List Int), b)
 else
  bnd (X2 F f (0 : Int) (1 : Int)) fun c =>
  bif (!c) then
   Xo F f g true e.Duties e.Work e.Vetoes.e0 e.Vetoes.e1 e.Data.e0 e.Data.e1
  else
   bnd (X2 F g (1 : Int) (512 : Int)) fun d =>
   Xo F f g (!d) e.Duties e.Work e.Vetoes.e0 e.Vetoes.e1 e.Data.e0 e.Data.e1
theorem z7a (F : Nat) (a0 : Th) (a1 a2 : Int) (s0 s1 s2 s3 s4 s5 : SV) (r : (List Int) × Int) (M : Mem) (c : Slc (rd M) 3 (Ta Q9) s0 a0.Duties) (n : Slc (rd M) 2 (Ta Tg) s1 a0.Work) (p : Slc (rd M) 2 (Tf (rd M)) s2 a0.Vetoes.e0) (q : Slc (rd M) 2 (Tf (rd M)) s3 a0.Vetoes.e1) (u : Slc (rd M) 1 (Ta Qd) s4 a0.Data.e0) (w : Slc (rd M) 1 (Ta Qd) s5 a0.Data.e1) (h : Y1 F a0 a1 a2 = some r) : CallsM Tryz.prog 24 [(.agg [s0, s1, s2, s3, s4, s5]), (.int .i64 a1), (.int .i64 a2)] M (fun s M' => ∃ q1, s = (.tuple [q1, (.int .i64 r.2)]) ∧ New M M' [.vec 3 1 r.1.length q1 (r.1.flatMap Qd)]) := by
 refine CallsM.fresh (Q := z0u r) Tryz.func24 rfl rfl ?_ (by rintro s Me ⟨q1, rfl, hx⟩ ha hw; exact ⟨_, rfl, New.of rfl hx ha hw⟩)
 rw [Y1] at h
 replace c := c.mono (T3 M) (fun _ _ h => h)
 replace n := n.mono (T3 M) (fun _ _ h => h)
 replace p := p.mono (T3 M) (fun _ _ => z00 (T3 M))
 replace q := q.mono (T3 M) (fun _ _ => z00 (T3 M))
 replace u := u.mono (T3 M) (fun _ _ h => h)
 replace w := w.mono (T3 M) (fun _ _ h => h)
 have hH := Has.nil (frozen M)
 refine Run.seq (Run.region ?_)
 refine ox rfl (ExG.box rfl rfl hH) ?_
 rintro _ y ⟨x, rfl, b⟩
 refine av rfl rfl <| av rfl rfl ?_
 refine Run.Wd (Run.seq (Run.seq (Run.region ?_)))
 refine og (Tj rfl (b.cells (i := 0) rfl 0 rfl) T5 z1c rfl rfl rfl) rfl ?_
 obtain ⟨a3, f, h⟩ := T8 h
 refine Run.callP T7 (Tl rfl z93 z8x) rfl (z1e F a0 s0 s1 s2 s3 s4 s5 _ _ (b.slcF c) (b.slcF n) ((p).mono b.le (fun _ _ => z00 b.le)) ((q).mono b.le (fun _ _ => z00 b.le)) (b.slcF u) (b.slcF w) f) <| av rfl rfl ?_
 refine Run.Wd (Run.seq (Run.region ?_))
 refine mv rfl rfl <| og (Gd rfl rfl) rfl <| Run.Wd ?_
 rcases btf ((!(a3 == (0 : Int)))) with hc27 | hc27
 ·have h := Tm hc27 h
  refine Run.Wf rfl hc27 ?_
  refine Run.seq (Run.region ?_)
  refine mv rfl rfl <| av rfl rfl <| av rfl rfl <| Run.Wd ?_
  have e : Has (ro (frozen M)) y [.vec 3 1 ([] : List Int).length .nils (([] : List Int).flatMap Qd), .obj x (.row 38 .whole [s0, s1, s2, s3, s4, s5])] := b.nils 3 1
  cases h
  exact Run.ret Tryz.func24 rfl (Tc rfl (Tc rfl Te)) ⟨_, rfl, (e.pick [0] rfl rfl).upF (Kn _)⟩
 ·have h := Tn hc27 h
  refine Run.We rfl hc27 ?_
  refine Run.skip (Run.seq (Run.seq (Run.region ?_)))
  refine mv rfl rfl ?_
  obtain ⟨a4, g, h⟩ := T8 h
  refine Run.callP T7 (Tl rfl z7z z7v) rfl (z0x F a1 (0 : Int) (1 : Int) _ _ g) <| og (Jh rfl) rfl <| mv rfl rfl ?_
  rcases btf ((!a4)) with d | d
  ·have h := Tm d h
   refine gn rfl rfl d rfl <| gn rfl rfl d rfl <| gn rfl rfl d rfl <| og (Tr rfl d rfl rfl) rfl <| Run.Wd ?_
   exact Run.pick [1, 2, 3, 23] (z3j F a1 a2 true a0.Duties a0.Work a0.Vetoes.e0 a0.Vetoes.e1 a0.Data.e0 a0.Data.e1 s0 s1 s2 s3 s4 s5 x _ _ _ c n p q u w b h)
  ·have h := Tn d h
   refine gy rfl rfl d (Tk rfl) rfl ?_
   obtain ⟨a5, m, h⟩ := T8 h
   refine Run.callP (Kp rfl rfl d) (Tl rfl z7z z7v) rfl (z0x F a2 (1 : Int) (512 : Int) _ _ m) <| gy rfl rfl d (Jh rfl) rfl <| og (Tt rfl d rfl rfl) rfl <| Run.Wd ?_
   exact Run.pick [1, 2, 3, 23] (z3j F a1 a2 (!a5) a0.Duties a0.Work a0.Vetoes.e0 a0.Vetoes.e1 a0.Data.e0 a0.Data.e1 s0 s1 s2 s3 s4 s5 x _ _ _ c n p q u w b h)
theorem zca : J8 Tryz.prog 24 = none := by kernel_rfl
theorem zba : Ts Tryz.prog 24 = true := by kernel_rfl
theorem z2i : Gy Tryz.prog (Vu (atC Tryz.prog 10 [1, 1, 0, 1, 0, 0, 1, 0, 0, 0])) = some [.fl 0, .fl 1, .fl 2, .fl 3, .fl 4, .fl 5, .fl 6, .fl 7, .fl 8, .sync] := by kernel_rfl
abbrev z2b (r : Bool) : SV → Mem → Prop := fun s _ => s = (.bool r)
def Jr (F : Nat) : Nat → List Int → List Int → Int → Option Bool
 | 0, _, _, _ => none
 | N + 1, e, f, d =>
  bif (decide (d < (e.length : Int))) then
   bnd (idx e d) fun b =>
   bnd (idx f d) fun c =>
   bif (!(b == c)) then
    some false
   else
    (Jr F N) e f (w64 (d + 1))
  else
   some true
theorem z4w (F : Nat) : ∀ (N : Nat), ∀ (v0 v1 : List Int) (v5 : Int) (m n : SV) (Fr : Rd) (M : Mem) (r : Bool) (c : Slc Fr 1 (Ta Qd) m v0) (p : Slc Fr 1 (Ta Qd) n v1) (hH : Has Fr M []), Jr F N v0 v1 v5 = some r → Run Tryz.prog ⟨⟨10, [], none⟩, []⟩ 26 (z2b r) [(0, m), (1, n), (5, (.int .i64 v5))] [T6 Tryz.prog 10 [1, 1, 0, 1, 0, 0], Tv Tryz.prog 10 [1, 1, 0, 1, 0, 0], .inBlock 0, T6 Tryz.prog 10 [1, 1, 1]] M := by
 intro N
 induction N with
 | zero =>
  intro v0 v1 v5 m n Fr M r c p hH h
  simp [Jr] at h
 | succ N ih =>
  intro v0 v1 v5 m n Fr M r c p hH h
  rw [Jr] at h
  refine Run.seq (Run.seq (Run.region ?_))
  refine mv rfl rfl <| mv rfl rfl <| og (Q3 rfl c z1u) rfl <| og (Qz rfl rfl) rfl <| Run.Wd ?_
  rcases btf ((decide (v5 < (v0.length : Int)))) with hc22 | hc22
  ·have h := Tm hc22 h
   refine Run.Wf rfl hc22 ?_
   refine Run.skip (Run.seq (Run.block (Run.seq ?_)))
   refine Run.drawG z2i <| df rfl (Tk rfl) rfl <| df rfl (Tk rfl) rfl ?_
   obtain ⟨q, d, h⟩ := T8 h
   obtain ⟨x, u, _, d, f, rfl⟩ := Jc (P := Tryz.prog) (t := 24) (kk := .i64) c d z8k
   refine df rfl (Q6 rfl rfl d) rfl <| df rfl (Tb rfl (hH.ptrF f) T5 z10) rfl <| df rfl (Tk rfl) rfl <| df rfl (Tk rfl) rfl ?_
   obtain ⟨s, e, h⟩ := T8 h
   obtain ⟨y, w, _, e, g, rfl⟩ := Jc (P := Tryz.prog) (t := 24) (kk := .i64) p e z8k
   refine df rfl (Q6 rfl rfl e) rfl <| df rfl (Tb rfl (hH.ptrF g) T5 z10) rfl <| df rfl (Gd rfl rfl) rfl <| DrawG.sync <| DrawG.nil ?_
   rcases btf ((!(q == s))) with b | b
   ·have h := Tm b h
    refine Run.Wf rfl b ?_
    refine Run.seq (Run.region ?_)
    refine av rfl rfl <| Run.Wd ?_
    cases h
    exact Run.ret Tryz.func10 rfl (Tc rfl Te) rfl
   ·have h := Tn b h
    refine Run.We rfl b ?_
    refine Run.skip (Run.inBlock (Run.region ?_))
    refine mv rfl rfl <| og (Qq rfl rfl) rfl <| av rfl rfl ?_
    refine Run.Wd (Run.inLoop ?_)
    exact Run.pick [0, 1, 5] (ih v0 v1 (w64 (v5 + 1)) m n _ _ _ c p hH h)
  ·have h := Tn hc22 h
   refine Run.We rfl hc22 ?_
   refine Run.exit rfl (Run.seq (Run.region ?_))
   refine av rfl rfl <| Run.Wd ?_
   cases h
   exact Run.ret Tryz.func10 rfl (Tc rfl Te) rfl
def Gw (F : Nat) (b c : List Int) : Option Bool :=
 bif (!((b.length : Int) == (c.length : Int))) then
  some false
 else
  Jr F F b c (0 : Int)
theorem z5w (F : Nat) (d e : List Int) (f g : SV) (r : Bool) (M : Mem) (b : Slc (rd M) 1 (Ta Qd) f d) (c : Slc (rd M) 1 (Ta Qd) g e) (h : Gw F d e = some r) : CallsM Tryz.prog 10 [f, g] M (fun s M' => s = (.bool r) ∧ M' = M) := by
 refine CallsM.plain Tryz.func10 rfl rfl rfl (show Run _ _ _ (z2b r) _ _ _ from ?_)
 rw [Gw] at h
 replace b := b.mono (T3 M) (fun _ _ h => h)
 replace c := c.mono (T3 M) (fun _ _ h => h)
 have hH := Has.nil (frozen M)
 refine Run.seq (Run.region ?_)
 refine av rfl rfl ?_
 refine Run.Wd (Run.seq (Run.seq (Run.region ?_)))
 refine mv rfl rfl <| og (Q3 rfl b z1u) rfl <| mv rfl rfl <| og (Q3 rfl c z1u) rfl <| og (Gd rfl rfl) rfl <| Run.Wd ?_
 rcases btf ((!((d.length : Int) == (e.length : Int)))) with hc21 | hc21
 ·have h := Tm hc21 h
  refine Run.Wf rfl hc21 ?_
  refine Run.seq (Run.region ?_)
  refine av rfl rfl <| Run.Wd ?_
  cases h
  exact Run.ret Tryz.func10 rfl (Tc rfl Te) rfl
 ·have h := Tn hc21 h
  refine Run.We rfl hc21 ?_
  refine Run.skip (Run.seq (Run.seq (Run.region ?_)))
  refine av rfl rfl ?_
  refine Run.Wd (Run.block (Run.loop ?_))
  exact Run.pick [0, 1, 5] (z4w F F d e (0 : Int) f g _ _ _ b c hH h)
theorem zc2 : J8 Tryz.prog 10 = none := by kernel_rfl
theorem zb2 : Ts Tryz.prog 10 = true := by kernel_rfl
structure T9 where
 N : Int
 Of : Int
def z21 (a : T9) : List SV := [(.int .i64 a.N), (.int .i64 a.Of)]
theorem z23 (a : T9) : (z21 a).length = 2 := rfl
theorem sz4 : Zx Tryz.prog 4 = some 1 := by kernel_rfl
theorem z8v : Xd Tryz.prog 56 = some [(.int .i64 0), (.int .i64 0)] := by kernel_rfl
theorem z96 : Zm Tryz.prog 56 = some (.st [(0, 1), (1, 1)]) := by kernel_rfl
theorem zda : Zx Tryz.prog 56 = some 2 := by kernel_rfl
theorem z9j : Jw Tryz.prog 56 = some (some 2) := by kernel_rfl
abbrev z1h (r : T9) : SV → Mem → Prop := fun s _ => s = (.agg [(.int .i64 r.N), (.int .i64 r.Of)])
def Yu (F : Nat) (c : (List Bool) → Int → List Bool → Int → Int → T9 → Option T9) (d : List Bool) (e : Int) (f : List Bool) (g m : Int) (b : T9) : Option T9 :=
 c d e f g (w64 (m + 1)) b
theorem z4u (F : Nat) (n : (List Bool) → Int → List Bool → Int → Int → T9 → Option T9) (b : ∀ (p : List Bool) (q : Int) (s : List Bool) (u w : Int) (c : T9) (e f : SV) (d : Pos) (Fr : Rd) (M : Mem) (r : T9) (g : Slc Fr 1 (Ta z0h) e p) (m : Slc Fr 1 (Ta z0h) f s) (hH : Has Fr M [.obj d (.row 56 .whole [(.int .i64 c.N), (.int .i64 c.Of)])]), n p q s u w c = some r → Run Tryz.prog ⟨⟨69, [], none⟩, []⟩ 20 (z1h r) [(0, e), (2, (.ptr d 0)), (3, (.int .i64 q)), (6, f), (7, (.int .i64 u)), (8, (.int .i64 w))] [T6 Tryz.prog 69 [1, 1, 0, 1, 0, 0], Tv Tryz.prog 69 [1, 1, 0, 1, 0, 0], .inBlock 0, T6 Tryz.prog 69 [1, 1, 1]] M) : ∀ (p : List Bool) (q : Int) (s : List Bool) (u w : Int) (c : T9) (e f : SV) (d : Pos) (Fr : Rd) (M : Mem) (r : T9) (g : Slc Fr 1 (Ta z0h) e p) (m : Slc Fr 1 (Ta z0h) f s) (hH : Has Fr M [.obj d (.row 56 .whole [(.int .i64 c.N), (.int .i64 c.Of)])]), Yu F n p q s u w c = some r → Run Tryz.prog ⟨⟨69, [], none⟩, []⟩ 20 (z1h r) [(0, e), (2, (.ptr d 0)), (3, (.int .i64 q)), (6, f), (7, (.int .i64 u)), (8, (.int .i64 w))] [Tu Tryz.prog 69 [1, 1, 0, 1, 0, 0, 1, 1, 1] 0, Tv Tryz.prog 69 [1, 1, 0, 1, 0, 0], .inBlock 0, T6 Tryz.prog 69 [1, 1, 1]] M := by
 intro p q s u w c e f d Fr M r g m hH h
 rw [Yu] at h
 refine og (Qq rfl rfl) rfl <| mv rfl rfl ?_
 refine Run.Wd (Run.inLoop ?_)
 exact Run.pick [0, 2, 3, 6, 7, 8] (b p q s u (w64 (w + 1)) c e f d _ _ _ g m hH h)
def Kj (F : Nat) : Nat → List Bool → Int → List Bool → Int → Int → T9 → Option T9
 | 0, _, _, _, _, _, _ => none
 | N + 1, e, f, g, m, d, b =>
  bif (decide (d < m)) then
   bnd (idx g d) fun c =>
   bif c then
    Yu F (Kj F N) e (w64 (f + 1)) g m d b
   else
    Yu F (Kj F N) e f g m d b
  else
   some (T9.mk f (e.length : Int))
theorem z7g (F : Nat) : ∀ (N : Nat), ∀ (v0 : List Bool) (v3 : Int) (v6 : List Bool) (v7 v8 : Int) (m : T9) (n p : SV) (c : Pos) (Fr : Rd) (M : Mem) (r : T9) (q : Slc Fr 1 (Ta z0h) n v0) (s : Slc Fr 1 (Ta z0h) p v6) (hH : Has Fr M [.obj c (.row 56 .whole [(.int .i64 m.N), (.int .i64 m.Of)])]), Kj F N v0 v3 v6 v7 v8 m = some r → Run Tryz.prog ⟨⟨69, [], none⟩, []⟩ 20 (z1h r) [(0, n), (2, (.ptr c 0)), (3, (.int .i64 v3)), (6, p), (7, (.int .i64 v7)), (8, (.int .i64 v8))] [T6 Tryz.prog 69 [1, 1, 0, 1, 0, 0], Tv Tryz.prog 69 [1, 1, 0, 1, 0, 0], .inBlock 0, T6 Tryz.prog 69 [1, 1, 1]] M := by
 intro N
 induction N with
 | zero =>
  intro v0 v3 v6 v7 v8 m n p c Fr M r q s hH h
  simp [Kj] at h
 | succ N ih =>
  intro v0 v3 v6 v7 v8 m n p c Fr M r q s hH h
  rw [Kj] at h
  refine Run.seq (Run.region ?_)
  refine og (Qz rfl rfl) rfl ?_
  refine Run.Wd (Run.seq ?_)
  rcases btf ((decide (v8 < v7))) with b | b
  ·have h := Tm b h
   refine Run.Wf rfl b ?_
   refine Run.skip (Run.seq (Run.block (Run.seq (Run.region ?_))))
   obtain ⟨w, e, h⟩ := T8 h
   obtain ⟨y, x, _, e, g, rfl⟩ := Jc (P := Tryz.prog) (t := 48) (kk := .i64) s e z85
   refine og (Q6 rfl rfl e) rfl <| og (Tb rfl (hH.ptrF g) T5 z9q) rfl <| av rfl rfl ?_
   refine Run.Wd (Run.seq (Run.region ?_))
   refine mv rfl rfl <| Run.Wd ?_
   rcases btf (w) with d | d
   ·have h := Tm d h
    refine Run.Wf rfl d <| Run.region <| mv rfl rfl <| og (Qq rfl rfl) rfl <| av rfl rfl ?_
    refine Run.Wd (Run.inBlock (Run.region ?_))
    exact Run.pick [0, 2, 3, 6, 7, 8] (z4u F (Kj F N) ih v0 (w64 (v3 + 1)) v6 v7 v8 m n p c _ _ _ q s hH h)
   ·have h := Tn d h
    refine Run.We rfl d ?_
    refine Run.skip (Run.inBlock (Run.region ?_))
    exact Run.pick [0, 2, 3, 6, 7, 8] (z4u F (Kj F N) ih v0 v3 v6 v7 v8 m n p c _ _ _ q s hH h)
  ·have h := Tn b h
   refine Run.We rfl b ?_
   refine Run.exit rfl (Run.seq (Run.region ?_))
   refine mv rfl rfl <| mv rfl rfl <| og (Q3 rfl q z5c) rfl <| og (Yk (r := [(.int .i64 v3), (.int .i64 (v0.length : Int))]) rfl z8v z96 rfl) rfl <| ox rfl (ExG.Wg (c' := [(.int .i64 v3), (.int .i64 (v0.length : Int))]) rfl rfl rfl hH (i := 0) rfl zda rfl rfl rfl rfl rfl) ?_
   rintro _ u ⟨rfl, (f : Has Fr u [.obj c (.row 56 .whole [(.int .i64 v3), (.int .i64 (v0.length : Int))])])⟩
   refine Run.Wd ?_
   cases h
   exact Run.ret Tryz.func69 rfl (Ze rfl (Vn (Tj rfl (f.cells (i := 0) rfl 0 rfl) T5 z9j rfl rfl rfl)) Te) rfl
def Yx (F : Nat) (b : List Bool) : Option T9 :=
 Kj F F b (0 : Int) b (b.length : Int) (0 : Int) (T9.mk 0 0)
theorem z4o (F : Nat) (g : List Bool) (m : SV) (r : T9) (M : Mem) (c : Slc (rd M) 1 (Ta z0h) m g) (h : Yx F g = some r) : CallsM Tryz.prog 69 [m] M (fun s M' => s = (.agg [(.int .i64 r.N), (.int .i64 r.Of)]) ∧ M' = M) := by
 refine CallsM.plain Tryz.func69 rfl rfl rfl (show Run _ _ _ (z1h r) _ _ _ from ?_)
 rw [Yx] at h
 replace c := c.mono (T3 M) (fun _ _ h => h)
 have hH := Has.nil (frozen M)
 refine Run.seq (Run.region ?_)
 refine ox rfl (ExG.new (v := fun b => .ptr b 0) (Jz z8v) hH) ?_
 rintro _ f ⟨e, rfl, d⟩
 refine Run.Wd (Run.seq (Run.region ?_))
 refine av rfl rfl ?_
 refine Run.Wd (Run.seq (Run.seq (Run.region ?_)))
 refine mv rfl rfl <| og (Q3 rfl c z5c) rfl <| mv rfl rfl ?_
 refine Run.Wd (Run.block (Run.loop ?_))
 exact Run.pick [0, 2, 3, 6, 7, 8] (z7g F F g (0 : Int) g (g.length : Int) (0 : Int) (T9.mk 0 0) m m e _ _ _ c c d h)
theorem z9o : J8 Tryz.prog 69 = none := by kernel_rfl
theorem z9l : Ts Tryz.prog 69 = true := by kernel_rfl
theorem zae : Jx Tryz.prog 52 = some (⟨2, 16, [(.int .i64 0), (.int .i64 0)], 56⟩ : Elt) := by kernel_rfl
theorem z8f : Gy Tryz.prog (Vu (atC Tryz.prog 42 [1, 0])) = some [.fl 0, .fl 2, .an 1 [2], .an 3 [], .fl 4, .fl 5, .sync] := by kernel_rfl
abbrev z0l (r : List T9) : SV → Mem → Prop := fun s Me => ∃ q1, s = q1 ∧ Has (fun _ => none) Me [.vec 56 2 r.length q1 (r.flatMap z21)]
def Ke (F : Nat) (c : Int → Int → List Bool → List Bool → List Bool → Option ((List T9))) (m n p : Int) (q : Bool) (d e b : List Bool) : Option ((List T9)) :=
 bnd (inn b p) fun g =>
 bnd (upd b g q) fun f =>
 c m (w64 (n + 1)) d e f
theorem z1q (F : Nat) (a2 : Int → Int → List Bool → List Bool → List Bool → Option ((List T9))) (e : ∀ (w x : Int) (c n q : List Bool) (s u p : SV) (Fr : Rd) (M : Mem) (r : List T9) (hH : Has Fr M [.vec 4 1 c.length s (c.flatMap z0h), .vec 4 1 n.length u (n.flatMap z0h), .vec 4 1 q.length p (q.flatMap z0h)]), a2 w x c n q = some r → Run Tryz.prog ⟨⟨42, [], none⟩, []⟩ 40 (z0l r) [(3, s), (4, u), (5, p), (15, (.int .i64 w)), (16, (.int .i64 x))] [T6 Tryz.prog 42 [1, 1, 1, 0, 1, 0, 0], Tv Tryz.prog 42 [1, 1, 1, 0, 1, 0, 0], .inBlock 0, T6 Tryz.prog 42 [1, 1, 1, 1]] M) : ∀ (w x a0 : Int) (a1 : Bool) (c n q : List Bool) (s u p : SV) (Fr : Rd) (M : Mem) (r : List T9) (hH : Has Fr M [.vec 4 1 c.length s (c.flatMap z0h), .vec 4 1 n.length u (n.flatMap z0h), .vec 4 1 q.length p (q.flatMap z0h)]), Ke F a2 w x a0 a1 c n q = some r → Run Tryz.prog ⟨⟨42, [], none⟩, []⟩ 40 (z0l r) [(3, s), (4, u), (5, p), (15, (.int .i64 w)), (16, (.int .i64 x)), (19, p), (20, (.int .i64 a0)), (30, (.bool a1))] [Tu Tryz.prog 42 [1, 1, 1, 0, 1, 0, 0, 1, 1, 0, 0, 1] 12, .inBlock 1, T6 Tryz.prog 42 [1, 1, 1, 0, 1, 0, 0, 1, 1, 1], Tv Tryz.prog 42 [1, 1, 1, 0, 1, 0, 0], .inBlock 0, T6 Tryz.prog 42 [1, 1, 1, 1]] M := by
 intro w x a0 a1 c n q s u p Fr M r hH h
 rw [Ke] at h
 obtain ⟨a4, g, h⟩ := T8 h
 obtain ⟨a5, d, m⟩ := Vm (P := Tryz.prog) (t := 48) (kk := .i64) hH (i := 2) rfl g z85
 refine og (Q6 rfl rfl m) rfl ?_
 obtain ⟨y, f, h⟩ := T8 h
 refine ox rfl (ExG.storeEl rfl rfl hH (i := 2) rfl d f sz4 rfl z06 z2x) ?_
 rintro _ a3 ⟨rfl, (b : Has Fr a3 [.vec 4 1 c.length s (c.flatMap z0h), .vec 4 1 n.length u (n.flatMap z0h), .vec 4 1 y.length p (y.flatMap z0h)])⟩
 refine Run.Wd (Run.inBlock (Run.region ?_))
 refine og (Qq rfl rfl) rfl <| mv rfl rfl ?_
 refine Run.Wd (Run.inLoop ?_)
 exact Run.pick [3, 4, 5, 15, 16] (e w (w64 (x + 1)) c n y s u p _ _ _ b h)
def Qb (F : Nat) : Nat → Int → Int → List Bool → List Bool → List Bool → Option ((List T9))
 | 0, _, _, _, _, _ => none
 | N + 1, f, b, c, d, e =>
  bif (decide (b < f)) then
   bnd (idx c b) fun p =>
   bif p then
    bnd (idx d b) fun q =>
    Ke F (Qb F N) f b b q c d e
   else
    Ke F (Qb F N) f b b false c d e
  else
   bnd (Yx F c) fun g =>
   bnd (Yx F d) fun m =>
   bnd (Yx F e) fun n =>
   some ([g, m, n] : List T9)
theorem z4m (F : Nat) : ∀ (N : Nat), ∀ (a4 a0 : Int) (c x y : List Bool) (a1 a2 a3 : SV) (Fr : Rd) (M : Mem) (r : List T9) (hH : Has Fr M [.vec 4 1 c.length a1 (c.flatMap z0h), .vec 4 1 x.length a2 (x.flatMap z0h), .vec 4 1 y.length a3 (y.flatMap z0h)]), Qb F N a4 a0 c x y = some r → Run Tryz.prog ⟨⟨42, [], none⟩, []⟩ 40 (z0l r) [(3, a1), (4, a2), (5, a3), (15, (.int .i64 a4)), (16, (.int .i64 a0))] [T6 Tryz.prog 42 [1, 1, 1, 0, 1, 0, 0], Tv Tryz.prog 42 [1, 1, 1, 0, 1, 0, 0], .inBlock 0, T6 Tryz.prog 42 [1, 1, 1, 1]] M := by
 intro N
 induction N with
 | zero =>
  intro a4 a0 c x y a1 a2 a3 Fr M r hH h
  simp [Qb] at h
 | succ N ih =>
  intro a4 a0 c x y a1 a2 a3 Fr M r hH h
  rw [Qb] at h
  refine Run.seq (Run.region ?_)
  refine og (Qz rfl rfl) rfl ?_
  refine Run.Wd (Run.seq ?_)
  rcases btf ((decide (a0 < a4))) with d | d
  ·have h := Tm d h
   refine Run.Wf rfl d ?_
   refine Run.skip (Run.seq (Run.block (Run.seq (Run.region ?_))))
   refine mv rfl rfl <| av rfl rfl ?_
   refine Run.Wd (Run.region ?_)
   refine mv rfl rfl <| mv rfl rfl <| mv rfl rfl <| mv rfl rfl ?_
   obtain ⟨a8, e, h⟩ := T8 h
   obtain ⟨b4, b2, m, e, p⟩ := Yn (P := Tryz.prog) (t := 48) (kk := .i64) hH (i := 0) rfl e z85
   refine og (Q6 rfl rfl e) rfl <| og (Tb rfl (hH.at (enc := z0h) (a := a8) (i := 0) rfl m p z06) T5 z9q) rfl <| mv rfl rfl ?_
   rcases btf (a8) with b | b
   ·have h := Tm b h
    refine gy rfl rfl b (Tk rfl) rfl <| gy rfl rfl b (Tk rfl) rfl ?_
    obtain ⟨a9, f, h⟩ := T8 h
    obtain ⟨b5, b3, n, f, q⟩ := Yn (P := Tryz.prog) (t := 48) (kk := .i64) hH (i := 1) rfl f z85
    refine gy rfl rfl b (Q6 rfl rfl f) rfl <| gy rfl rfl b (Tb rfl (hH.at (enc := z0h) (a := a9) (i := 1) rfl n q z06) T5 z9q) rfl <| og (Tr rfl b rfl rfl) rfl ?_
    exact Run.pick [3, 4, 5, 15, 16, 19, 20, 30] (z1q F (Qb F N) ih a4 a0 a0 a9 c x y a1 a2 a3 _ _ _ hH h)
   ·have h := Tn b h
    refine gn rfl rfl b rfl <| gn rfl rfl b rfl <| gn rfl rfl b rfl <| gn rfl rfl b rfl <| og (Tt rfl b rfl rfl) rfl ?_
    exact Run.pick [3, 4, 5, 15, 16, 19, 20, 30] (z1q F (Qb F N) ih a4 a0 a0 false c x y a1 a2 a3 _ _ _ hH h)
  ·have h := Tn d h
   refine Run.We rfl d ?_
   refine Run.exit rfl (Run.seq (Run.region ?_))
   refine mv rfl rfl ?_
   obtain ⟨a5, s, h⟩ := T8 h
   refine Run.callP T7 (Tl rfl z9o z9l) rfl (z4o F c a1 _ _ (hH.slc (i := 0) rfl z06) s) <| mv rfl rfl ?_
   obtain ⟨a6, u, h⟩ := T8 h
   refine Run.callP T7 (Tl rfl z9o z9l) rfl (z4o F x a2 _ _ (hH.slc (i := 1) rfl z06) u) <| mv rfl rfl ?_
   obtain ⟨a7, w, h⟩ := T8 h
   refine Run.callP T7 (Tl rfl z9o z9l) rfl (z4o F y a3 _ _ (hH.slc (i := 2) rfl z06) w) <| ox rfl (ExG.built (enc := z21) (l := ([a5, a6, a7] : List T9)) (z := 2) rfl zae rfl rfl rfl z23 hH) ?_
   rintro b1 b0 (g : Has Fr b0 [.vec 56 2 ([a5, a6, a7] : List T9).length b1 (([a5, a6, a7] : List T9).flatMap z21), .vec 4 1 c.length a1 (c.flatMap z0h), .vec 4 1 x.length a2 (x.flatMap z0h), .vec 4 1 y.length a3 (y.flatMap z0h)])
   refine av rfl rfl <| Run.Wd ?_
   cases h
   exact Run.ret Tryz.func42 rfl (Tc rfl Te) ⟨_, rfl, (g.pick [0] rfl rfl).upF (Kn _)⟩
def Kt (F : Nat) (f : Tz) : Option ((List T9)) :=
 bnd (K7 F f (0 : Int)) fun c =>
 bnd (K7 F f (1 : Int)) fun d =>
 bnd (Jb F f) fun e =>
 bnd (mk e 1 false) fun b =>
 Qb F F (b.length : Int) (0 : Int) c d b
theorem z58 (F : Nat) (a0 : Tz) (s0 s1 s2 s3 s4 s5 : SV) (r : List T9) (M : Mem) (y : Slc (rd M) 3 (Ta Q9) s0 a0.duties) (a1 : Slc (rd M) 2 (Ta Tg) s1 a0.work) (a2 : Slc (rd M) 2 (Tf (rd M)) s2 a0.vetoes.e0) (a3 : Slc (rd M) 2 (Tf (rd M)) s3 a0.vetoes.e1) (a4 : Slc (rd M) 1 (Ta Qd) s4 a0.data.e0) (a5 : Slc (rd M) 1 (Ta Qd) s5 a0.data.e1) (h : Kt F a0 = some r) : CallsM Tryz.prog 42 [(.agg [s0, s1, s2, s3, s4, s5])] M (fun s M' => ∃ q1, s = q1 ∧ New M M' [.vec 56 2 r.length q1 (r.flatMap z21)]) := by
 refine CallsM.fresh (Q := z0l r) Tryz.func42 rfl rfl ?_ (by rintro s Me ⟨q1, rfl, hx⟩ ha hw; exact ⟨_, rfl, New.of rfl hx ha hw⟩)
 rw [Kt] at h
 replace y := y.mono (T3 M) (fun _ _ h => h)
 replace a1 := a1.mono (T3 M) (fun _ _ h => h)
 replace a2 := a2.mono (T3 M) (fun _ _ => z00 (T3 M))
 replace a3 := a3.mono (T3 M) (fun _ _ => z00 (T3 M))
 replace a4 := a4.mono (T3 M) (fun _ _ h => h)
 replace a5 := a5.mono (T3 M) (fun _ _ h => h)
 have hH := Has.nil (frozen M)
 refine Run.seq (Run.region ?_)
 refine ox rfl (ExG.box rfl rfl hH) ?_
 rintro _ b3 ⟨a8, rfl, b⟩
 refine av rfl rfl ?_
 refine Run.Wd (Run.seq ?_)
 refine Run.drawG z8f <| df rfl (Tj rfl (b.cells (i := 0) rfl 0 rfl) T5 z4r rfl rfl rfl) rfl <| df rfl (Tj rfl (b.cells (i := 0) rfl 0 rfl) T5 z4r rfl rfl rfl) rfl ?_
 obtain ⟨c, u, h⟩ := T8 h
 refine DrawG.call rfl T7 (Tl rfl z92 z8w) rfl (z13 F a0 (0 : Int) s0 s1 s2 s3 s4 s5 _ _ (b.slcF y) (b.slcF a1) ((a2).mono b.le (fun _ _ => z00 b.le)) ((a3).mono b.le (fun _ _ => z00 b.le)) (b.slcF a4) (b.slcF a5) u) ?_
 rintro f b0 ⟨_, rfl, n⟩
 have d : Has (ro (frozen M)) b0 [.vec 4 1 c.length f (c.flatMap z0h), .obj a8 (.row 85 .whole [s0, s1, s2, s3, s4, s5])] := n.1 _ _ b
 refine ⟨(G4 rfl (Yy T7 (Tj rfl (d.cells (i := 1) rfl 0 rfl) T5 z4r rfl rfl rfl)) rfl rfl (W8 (G0 (G2 y) (G0 (G2 a1) (G0 (G2 a2) (G0 (G2 a3) (G0 (G2 a4) (G0 (G2 a5) Wb))))))) Gx), ?_⟩
 obtain ⟨a6, w, h⟩ := T8 h
 refine DrawG.call rfl T7 (Tl rfl z92 z8w) rfl (z13 F a0 (1 : Int) s0 s1 s2 s3 s4 s5 _ _ (d.slcF y) (d.slcF a1) ((a2).mono d.le (fun _ _ => z00 d.le)) ((a3).mono d.le (fun _ _ => z00 d.le)) (d.slcF a4) (d.slcF a5) w) ?_
 rintro g b1 ⟨_, rfl, p⟩
 have e : Has (ro (frozen M)) b1 [.vec 4 1 a6.length g (a6.flatMap z0h), .vec 4 1 c.length f (c.flatMap z0h), .obj a8 (.row 85 .whole [s0, s1, s2, s3, s4, s5])] := p.1 _ _ d
 refine ⟨Gx, ?_⟩
 refine df rfl (G8 rfl) rfl <| df rfl (G8 rfl) rfl <| DrawG.sync <| DrawG.nil ?_
 refine Run.seq (Run.region ?_)
 refine og (Tj rfl (e.cells (i := 2) rfl 0 rfl) T5 z4r rfl rfl rfl) rfl ?_
 obtain ⟨b4, x, h⟩ := T8 h
 refine Run.callP T7 (Tl rfl z8o z8j) rfl (z0v F a0 s0 s1 s2 s3 s4 s5 _ _ (e.slcF y) (e.slcF a1) ((a2).mono e.le (fun _ _ => z00 e.le)) ((a3).mono e.le (fun _ _ => z00 e.le)) (e.slcF a4) (e.slcF a5) x) ?_
 obtain ⟨a7, q, h⟩ := T8 h
 refine ox rfl (ExG.make (enc := z0h) (z := 1) rfl rfl q z7x rfl rfl z06 e) ?_
 rintro a9 b2 (m : Has (ro (frozen M)) b2 [.vec 4 1 a7.length a9 (a7.flatMap z0h), .vec 4 1 a6.length g (a6.flatMap z0h), .vec 4 1 c.length f (c.flatMap z0h), .obj a8 (.row 85 .whole [s0, s1, s2, s3, s4, s5])])
 refine av rfl rfl ?_
 refine Run.Wd (Run.seq (Run.seq (Run.region ?_)))
 refine mv rfl rfl <| og (Q3 rfl (m.slc (i := 0) rfl z06) z5c) rfl <| mv rfl rfl ?_
 refine Run.Wd (Run.block (Run.loop ?_))
 exact Run.pick [3, 4, 5, 15, 16] (z4m F F (a7.length : Int) (0 : Int) c a6 a7 f g a9 _ _ _ (m.pick [2, 1, 0] rfl rfl) h)
theorem zce : J8 Tryz.prog 42 = none := by kernel_rfl
theorem zbe : Ts Tryz.prog 42 = true := by kernel_rfl
abbrev z7q (r : (List T9) × Int) : SV → Mem → Prop := fun s Me => ∃ q1, s = (.tuple [q1, (.int .i64 r.2)]) ∧ Has (fun _ => none) Me [.vec 56 2 r.1.length q1 (r.1.flatMap z21)]
def Zr (F : Nat) (d : Th) : Option ((List T9) × Int) :=
 bnd (Zh F d) fun b =>
 bif (!(b == (0 : Int))) then
  some (([] : List T9), b)
 else
  bnd (Kt F (Tz.mk d.Duties d.Work d.Vetoes d.Data)) fun c =>
  some (c, (0 : Int))
theorem z86 (F : Nat) (a0 : Th) (s0 s1 s2 s3 s4 s5 : SV) (r : (List T9) × Int) (M : Mem) (c : Slc (rd M) 3 (Ta Q9) s0 a0.Duties) (x : Slc (rd M) 2 (Ta Tg) s1 a0.Work) (y : Slc (rd M) 2 (Tf (rd M)) s2 a0.Vetoes.e0) (a1 : Slc (rd M) 2 (Tf (rd M)) s3 a0.Vetoes.e1) (a2 : Slc (rd M) 1 (Ta Qd) s4 a0.Data.e0) (a3 : Slc (rd M) 1 (Ta Qd) s5 a0.Data.e1) (h : Zr F a0 = some r) : CallsM Tryz.prog 17 [(.agg [s0, s1, s2, s3, s4, s5])] M (fun s M' => ∃ q1, s = (.tuple [q1, (.int .i64 r.2)]) ∧ New M M' [.vec 56 2 r.1.length q1 (r.1.flatMap z21)]) := by
 refine CallsM.fresh (Q := z7q r) Tryz.func17 rfl rfl ?_ (by rintro s Me ⟨q1, rfl, hx⟩ ha hw; exact ⟨_, rfl, New.of rfl hx ha hw⟩)
 rw [Zr] at h
 replace c := c.mono (T3 M) (fun _ _ h => h)
 replace x := x.mono (T3 M) (fun _ _ h => h)
 replace y := y.mono (T3 M) (fun _ _ => z00 (T3 M))
 replace a1 := a1.mono (T3 M) (fun _ _ => z00 (T3 M))
 replace a2 := a2.mono (T3 M) (fun _ _ h => h)
 replace a3 := a3.mono (T3 M) (fun _ _ h => h)
 have hH := Has.nil (frozen M)
 refine Run.seq (Run.region ?_)
 refine ox rfl (ExG.box rfl rfl hH) ?_
 rintro _ a8 ⟨a4, rfl, d⟩
 refine av rfl rfl <| av rfl rfl ?_
 refine Run.Wd (Run.seq (Run.seq (Run.region ?_)))
 refine og (Tj rfl (d.cells (i := 0) rfl 0 rfl) T5 z1c rfl rfl rfl) rfl ?_
 obtain ⟨b1, u, h⟩ := T8 h
 refine Run.callP T7 (Tl rfl zak z9w) rfl (z64 F a0 s0 s1 s2 s3 s4 s5 _ _ (d.slcF c) (d.slcF x) ((y).mono d.le (fun _ _ => z00 d.le)) ((a1).mono d.le (fun _ _ => z00 d.le)) (d.slcF a2) (d.slcF a3) u) <| av rfl rfl ?_
 refine Run.Wd (Run.seq (Run.region ?_))
 refine mv rfl rfl <| og (Gd rfl rfl) rfl <| Run.Wd ?_
 rcases btf ((!(b1 == (0 : Int)))) with hc27 | hc27
 ·have h := Tm hc27 h
  refine Run.Wf rfl hc27 ?_
  refine Run.seq (Run.region ?_)
  refine mv rfl rfl <| av rfl rfl <| av rfl rfl <| Run.Wd ?_
  have m : Has (ro (frozen M)) a8 [.vec 56 2 ([] : List T9).length .nils (([] : List T9).flatMap z21), .obj a4 (.row 38 .whole [s0, s1, s2, s3, s4, s5])] := d.nils 56 2
  cases h
  exact Run.ret Tryz.func17 rfl (Tc rfl (Tc rfl Te)) ⟨_, rfl, (m.pick [0] rfl rfl).upF (Kn _)⟩
 ·have h := Tn hc27 h
  refine Run.We rfl hc27 ?_
  refine Run.skip (Run.seq (Run.region ?_))
  refine og (Tj rfl (d.cells (i := 0) rfl 0 rfl) T5 z1c rfl rfl rfl) rfl <| Run.enter T7 (Tl rfl z8n z8i) Tryz.func35 rfl rfl ?_
  refine Run.seq (Run.region ?_)
  refine ox rfl (ExG.box rfl rfl d) ?_
  rintro _ b2 ⟨a5, rfl, n⟩
  refine ox rfl (ExG.new (v := fun b => .ptr b 0) (Jz z71) n) ?_
  rintro _ b3 ⟨a6, rfl, f⟩
  refine Run.Wd (Run.seq (Run.region ?_))
  refine og (T4 rfl z1r) rfl <| og (Tb rfl (f.cells (i := 1) rfl 0 rfl) T5 z3q) rfl <| og (T4 rfl z2a) rfl <| og (Tb rfl (f.cells (i := 1) rfl 1 rfl) T5 z2w) rfl <| og (T4 rfl z2t) rfl <| og (Tj rfl (f.cells (i := 1) rfl 2 rfl) T5 z8b rfl rfl rfl) rfl <| og (T4 rfl z19) rfl <| og (Tj rfl (f.cells (i := 1) rfl 4 rfl) T5 z8c rfl rfl rfl) rfl <| og (Yk (r := [s0, s1, s2, s3, s4, s5]) rfl z71 z8u (by simp only [Zw, Gk (Qa c), Gk (Qa x)]; rfl)) rfl <| ox rfl (ExG.Wg (c' := [s0, s1, s2, s3, s4, s5]) rfl rfl rfl f (i := 0) rfl z9r rfl rfl rfl (Q0 (Qa c) (Q0 (Qa x) (Q0 (Qa y) (Q0 (Qa a1) (Q0 (Qa a2) (Q0 (Qa a3) Ym)))))) rfl) ?_
  rintro _ a9 ⟨rfl, (e : Has (ro (frozen M)) a9 [.obj a6 (.row 85 .whole [s0, s1, s2, s3, s4, s5]), .obj a5 (.row 38 .whole [s0, s1, s2, s3, s4, s5]), .obj a4 (.row 38 .whole [s0, s1, s2, s3, s4, s5])])⟩
  refine Run.Wd <| Run.Wi Tryz.func35 rfl (Ze rfl (Vn (Tj rfl (e.cells (i := 0) rfl 0 rfl) T5 z4r rfl rfl rfl)) Te) rfl ?_
  obtain ⟨a7, w, h⟩ := T8 h
  refine Run.callX T7 (Tl rfl zce zbe) rfl (z58 F (Tz.mk a0.Duties a0.Work a0.Vetoes a0.Data) s0 s1 s2 s3 s4 s5 _ _ (e.slcF c) (e.slcF x) ((y).mono e.le (fun _ _ => z00 e.le)) ((a1).mono e.le (fun _ _ => z00 e.le)) (e.slcF a2) (e.slcF a3) w) ?_
  rintro g b0 ⟨_, rfl, q⟩
  have p : Has (ro (frozen M)) b0 [.vec 56 2 a7.length g (a7.flatMap z21), .obj a6 (.row 85 .whole [s0, s1, s2, s3, s4, s5]), .obj a5 (.row 38 .whole [s0, s1, s2, s3, s4, s5]), .obj a4 (.row 38 .whole [s0, s1, s2, s3, s4, s5])] := q.1 _ _ e
  refine av rfl rfl <| av rfl rfl <| Run.Wd ?_
  cases h
  exact Run.ret Tryz.func17 rfl (Tc rfl (Tc rfl Te)) ⟨_, rfl, (p.pick [0] rfl rfl).upF (Kn _)⟩
theorem zc6 : J8 Tryz.prog 17 = none := by kernel_rfl
theorem zb6 : Ts Tryz.prog 17 = true := by kernel_rfl
theorem z1o : Gy Tryz.prog (Vu (atC Tryz.prog 25 [1, 1, 1, 1, 0, 1, 0, 0, 1, 0, 0, 0])) = some [.fl 0, .fl 1, .fl 3, .fl 4, .an 2 [4, 3], .an 5 [], .fl 6, .fl 7, .sync] := by kernel_rfl
abbrev z09 (r : (List T9) × Int) : SV → Mem → Prop := fun s Me => ∃ q1, s = (.tuple [q1, (.int .i64 r.2)]) ∧ Has (fun _ => none) Me [.vec 56 2 r.1.length q1 (r.1.flatMap z21)]
def Ya (F : Nat) (c : Int → Int → Int → Int → Int → List T1 → List T0 → List T2 → List T2 → List Int → List Int → Option ((List T9) × Int)) (n p q s u : Int) (b : List T1) (d : List T0) (e f : List T2) (g m : List Int) : Option ((List T9) × Int) :=
 c n p q s (w64 (u + 1)) b d e f g m
theorem z4f (F : Nat) (a5 : Int → Int → Int → Int → Int → List T1 → List T0 → List T2 → List T2 → List Int → List Int → Option ((List T9) × Int)) (a4 : ∀ (v5 v6 v7 v8 v9 : Int) (n : List T1) (p : List T0) (q s : List T2) (u w : List Int) (b d e f g m : SV) (c : Pos) (Fr : Rd) (M : Mem) (r : (List T9) × Int) (x : Slc Fr 3 (Ta Q9) b n) (y : Slc Fr 2 (Ta Tg) d p) (a0 : Slc Fr 2 (Tf Fr) e q) (a1 : Slc Fr 2 (Tf Fr) f s) (a2 : Slc Fr 1 (Ta Qd) g u) (a3 : Slc Fr 1 (Ta Qd) m w) (hH : Has Fr M [.obj c (.row 38 .whole [b, d, e, f, g, m])]), a5 v5 v6 v7 v8 v9 n p q s u w = some r → Run Tryz.prog ⟨⟨25, [], none⟩, []⟩ 54 (z09 r) [(1, (.ptr c 0)), (5, (.int .i64 v5)), (6, (.int .i64 v6)), (7, (.int .i64 v7)), (8, (.int .i64 v8)), (9, (.int .i64 v9))] [T6 Tryz.prog 25 [1, 1, 1, 1, 0, 1, 0, 0], Tv Tryz.prog 25 [1, 1, 1, 1, 0, 1, 0, 0], .inBlock 0, T6 Tryz.prog 25 [1, 1, 1, 1, 1]] M) : ∀ (v5 v6 v7 v8 v9 : Int) (n : List T1) (p : List T0) (q s : List T2) (u w : List Int) (b d e f g m : SV) (c : Pos) (Fr : Rd) (M : Mem) (r : (List T9) × Int) (x : Slc Fr 3 (Ta Q9) b n) (y : Slc Fr 2 (Ta Tg) d p) (a0 : Slc Fr 2 (Tf Fr) e q) (a1 : Slc Fr 2 (Tf Fr) f s) (a2 : Slc Fr 1 (Ta Qd) g u) (a3 : Slc Fr 1 (Ta Qd) m w) (hH : Has Fr M [.obj c (.row 38 .whole [b, d, e, f, g, m])]), Ya F a5 v5 v6 v7 v8 v9 n p q s u w = some r → Run Tryz.prog ⟨⟨25, [], none⟩, []⟩ 54 (z09 r) [(1, (.ptr c 0)), (5, (.int .i64 v5)), (6, (.int .i64 v6)), (7, (.int .i64 v7)), (8, (.int .i64 v8)), (9, (.int .i64 v9))] [Tu Tryz.prog 25 [1, 1, 1, 1, 0, 1, 0, 0, 1, 1] 0, Tv Tryz.prog 25 [1, 1, 1, 1, 0, 1, 0, 0], .inBlock 0, T6 Tryz.prog 25 [1, 1, 1, 1, 1]] M := by
 intro v5 v6 v7 v8 v9 n p q s u w b d e f g m c Fr M r x y a0 a1 a2 a3 hH h
 rw [Ya] at h
 refine mv rfl rfl <| og (Qq rfl rfl) rfl <| av rfl rfl ?_
 refine Run.Wd (Run.inLoop ?_)
 exact Run.pick [1, 5, 6, 7, 8, 9] (a4 v5 v6 v7 v8 (w64 (v9 + 1)) n p q s u w b d e f g m c _ _ _ x y a0 a1 a2 a3 hH h)
def Y7 (F : Nat) (c : Int → Int → Int → Int → Int → List T1 → List T0 → List T2 → List T2 → List Int → List Int → Option ((List T9) × Int)) (p q s u w : Int) (n : Bool) (b : List T1) (d : List T0) (e f : List T2) (g m : List Int) : Option ((List T9) × Int) :=
 bif n then
  Ya F c p q s (w64 (u + 1)) w b d e f g m
 else
  Ya F c p q s u w b d e f g m
theorem z4e (F : Nat) (a6 : Int → Int → Int → Int → Int → List T1 → List T0 → List T2 → List T2 → List Int → List Int → Option ((List T9) × Int)) (a5 : ∀ (v5 v6 v7 v8 v9 : Int) (n : List T1) (p : List T0) (q s : List T2) (u w : List Int) (b d e f g m : SV) (c : Pos) (Fr : Rd) (M : Mem) (r : (List T9) × Int) (x : Slc Fr 3 (Ta Q9) b n) (y : Slc Fr 2 (Ta Tg) d p) (a0 : Slc Fr 2 (Tf Fr) e q) (a1 : Slc Fr 2 (Tf Fr) f s) (a2 : Slc Fr 1 (Ta Qd) g u) (a3 : Slc Fr 1 (Ta Qd) m w) (hH : Has Fr M [.obj c (.row 38 .whole [b, d, e, f, g, m])]), a6 v5 v6 v7 v8 v9 n p q s u w = some r → Run Tryz.prog ⟨⟨25, [], none⟩, []⟩ 54 (z09 r) [(1, (.ptr c 0)), (5, (.int .i64 v5)), (6, (.int .i64 v6)), (7, (.int .i64 v7)), (8, (.int .i64 v8)), (9, (.int .i64 v9))] [T6 Tryz.prog 25 [1, 1, 1, 1, 0, 1, 0, 0], Tv Tryz.prog 25 [1, 1, 1, 1, 0, 1, 0, 0], .inBlock 0, T6 Tryz.prog 25 [1, 1, 1, 1, 1]] M) : ∀ (v5 v6 v7 v8 v9 : Int) (a7 : Bool) (n : List T1) (p : List T0) (q s : List T2) (u w : List Int) (b d e f g m : SV) (c : Pos) (Fr : Rd) (M : Mem) (r : (List T9) × Int) (x : Slc Fr 3 (Ta Q9) b n) (y : Slc Fr 2 (Ta Tg) d p) (a0 : Slc Fr 2 (Tf Fr) e q) (a1 : Slc Fr 2 (Tf Fr) f s) (a2 : Slc Fr 1 (Ta Qd) g u) (a3 : Slc Fr 1 (Ta Qd) m w) (hH : Has Fr M [.obj c (.row 38 .whole [b, d, e, f, g, m])]), Y7 F a6 v5 v6 v7 v8 v9 a7 n p q s u w = some r → Run Tryz.prog ⟨⟨25, [], none⟩, []⟩ 54 (z09 r) [(1, (.ptr c 0)), (5, (.int .i64 v5)), (6, (.int .i64 v6)), (7, (.int .i64 v7)), (8, (.int .i64 v8)), (9, (.int .i64 v9)), (41, (.bool a7))] [T6 Tryz.prog 25 [1, 1, 1, 1, 0, 1, 0, 0, 1, 0, 0, 1, 1, 1, 1], .inBlock 1, T6 Tryz.prog 25 [1, 1, 1, 1, 0, 1, 0, 0, 1, 1], Tv Tryz.prog 25 [1, 1, 1, 1, 0, 1, 0, 0], .inBlock 0, T6 Tryz.prog 25 [1, 1, 1, 1, 1]] M := by
 intro v5 v6 v7 v8 v9 a7 n p q s u w b d e f g m c Fr M r x y a0 a1 a2 a3 hH h
 rw [Y7] at h
 rcases btf (a7) with a4 | a4
 ·have h := Tm a4 h
  refine Run.Wf rfl a4 <| Run.region <| mv rfl rfl <| og (Qq rfl rfl) rfl <| av rfl rfl ?_
  refine Run.Wd (Run.inBlock (Run.region ?_))
  exact Run.pick [1, 5, 6, 7, 8, 9] (z4f F a6 a5 v5 v6 v7 (w64 (v8 + 1)) v9 n p q s u w b d e f g m c _ _ _ x y a0 a1 a2 a3 hH h)
 ·have h := Tn a4 h
  refine Run.We rfl a4 ?_
  refine Run.skip (Run.inBlock (Run.region ?_))
  exact Run.pick [1, 5, 6, 7, 8, 9] (z4f F a6 a5 v5 v6 v7 v8 v9 n p q s u w b d e f g m c _ _ _ x y a0 a1 a2 a3 hH h)
def Y8 (F : Nat) (c : Int → Int → Int → Int → Int → List T1 → List T0 → List T2 → List T2 → List Int → List Int → Option ((List T9) × Int)) (q s u w x : Int) (n p : Bool) (b : List T1) (d : List T0) (e f : List T2) (g m : List Int) : Option ((List T9) × Int) :=
 bif n then
  Y7 F c q s u w x p b d e f g m
 else
  Y7 F c q s u w x false b d e f g m
theorem z4d (F : Nat) (a6 : Int → Int → Int → Int → Int → List T1 → List T0 → List T2 → List T2 → List Int → List Int → Option ((List T9) × Int)) (a5 : ∀ (v5 v6 v7 v8 v9 : Int) (n : List T1) (p : List T0) (q s : List T2) (u w : List Int) (b d e f g m : SV) (c : Pos) (Fr : Rd) (M : Mem) (r : (List T9) × Int) (y : Slc Fr 3 (Ta Q9) b n) (a0 : Slc Fr 2 (Ta Tg) d p) (a1 : Slc Fr 2 (Tf Fr) e q) (a2 : Slc Fr 2 (Tf Fr) f s) (a3 : Slc Fr 1 (Ta Qd) g u) (a4 : Slc Fr 1 (Ta Qd) m w) (hH : Has Fr M [.obj c (.row 38 .whole [b, d, e, f, g, m])]), a6 v5 v6 v7 v8 v9 n p q s u w = some r → Run Tryz.prog ⟨⟨25, [], none⟩, []⟩ 54 (z09 r) [(1, (.ptr c 0)), (5, (.int .i64 v5)), (6, (.int .i64 v6)), (7, (.int .i64 v7)), (8, (.int .i64 v8)), (9, (.int .i64 v9))] [T6 Tryz.prog 25 [1, 1, 1, 1, 0, 1, 0, 0], Tv Tryz.prog 25 [1, 1, 1, 1, 0, 1, 0, 0], .inBlock 0, T6 Tryz.prog 25 [1, 1, 1, 1, 1]] M) : ∀ (v5 v6 v7 v8 v9 : Int) (a7 a8 : Bool) (n : List T1) (p : List T0) (q s : List T2) (u w : List Int) (b d e f g m : SV) (c : Pos) (Fr : Rd) (M : Mem) (r : (List T9) × Int) (y : Slc Fr 3 (Ta Q9) b n) (a0 : Slc Fr 2 (Ta Tg) d p) (a1 : Slc Fr 2 (Tf Fr) e q) (a2 : Slc Fr 2 (Tf Fr) f s) (a3 : Slc Fr 1 (Ta Qd) g u) (a4 : Slc Fr 1 (Ta Qd) m w) (hH : Has Fr M [.obj c (.row 38 .whole [b, d, e, f, g, m])]), Y8 F a6 v5 v6 v7 v8 v9 a7 a8 n p q s u w = some r → Run Tryz.prog ⟨⟨25, [], none⟩, []⟩ 54 (z09 r) [(1, (.ptr c 0)), (5, (.int .i64 v5)), (6, (.int .i64 v6)), (7, (.int .i64 v7)), (8, (.int .i64 v8)), (9, (.int .i64 v9)), (10, (.bool a7)), (11, (.bool a8))] [Tu Tryz.prog 25 [1, 1, 1, 1, 0, 1, 0, 0, 1, 0, 0, 1, 1, 1, 0] 0, T6 Tryz.prog 25 [1, 1, 1, 1, 0, 1, 0, 0, 1, 0, 0, 1, 1, 1, 1], .inBlock 1, T6 Tryz.prog 25 [1, 1, 1, 1, 0, 1, 0, 0, 1, 1], Tv Tryz.prog 25 [1, 1, 1, 1, 0, 1, 0, 0], .inBlock 0, T6 Tryz.prog 25 [1, 1, 1, 1, 1]] M := by
 intro v5 v6 v7 v8 v9 a7 a8 n p q s u w b d e f g m c Fr M r y a0 a1 a2 a3 a4 hH h
 rw [Y8] at h
 refine mv rfl rfl <| mv rfl rfl ?_
 rcases btf (a7) with x | x
 ·have h := Tm x h
  refine gy rfl rfl x (Tk rfl) rfl <| og (Tr rfl x rfl rfl) rfl <| Run.Wd ?_
  exact Run.pick [1, 5, 6, 7, 8, 9, 41] (z4e F a6 a5 v5 v6 v7 v8 v9 a8 n p q s u w b d e f g m c _ _ _ y a0 a1 a2 a3 a4 hH h)
 ·have h := Tn x h
  refine gn rfl rfl x rfl <| og (Tt rfl x rfl rfl) rfl <| Run.Wd ?_
  exact Run.pick [1, 5, 6, 7, 8, 9, 41] (z4e F a6 a5 v5 v6 v7 v8 v9 false n p q s u w b d e f g m c _ _ _ y a0 a1 a2 a3 a4 hH h)
def Yb (F : Nat) (n : Int → Int → Int → Int → Int → List T1 → List T0 → List T2 → List T2 → List Int → List Int → Option ((List T9) × Int)) (q s u w x : Int) (p c : Bool) (b : List T1) (d : List T0) (e f : List T2) (g m : List Int) : Option ((List T9) × Int) :=
 bif c then
  Y8 F n q s (w64 (u + 1)) w x p c b d e f g m
 else
  Y8 F n q s u w x p c b d e f g m
theorem z4c (F : Nat) (a8 : Int → Int → Int → Int → Int → List T1 → List T0 → List T2 → List T2 → List Int → List Int → Option ((List T9) × Int)) (a5 : ∀ (v5 v6 v7 v8 v9 : Int) (n : List T1) (p : List T0) (q s : List T2) (u w : List Int) (b d e f g m : SV) (c : Pos) (Fr : Rd) (M : Mem) (r : (List T9) × Int) (x : Slc Fr 3 (Ta Q9) b n) (y : Slc Fr 2 (Ta Tg) d p) (a0 : Slc Fr 2 (Tf Fr) e q) (a1 : Slc Fr 2 (Tf Fr) f s) (a2 : Slc Fr 1 (Ta Qd) g u) (a3 : Slc Fr 1 (Ta Qd) m w) (hH : Has Fr M [.obj c (.row 38 .whole [b, d, e, f, g, m])]), a8 v5 v6 v7 v8 v9 n p q s u w = some r → Run Tryz.prog ⟨⟨25, [], none⟩, []⟩ 54 (z09 r) [(1, (.ptr c 0)), (5, (.int .i64 v5)), (6, (.int .i64 v6)), (7, (.int .i64 v7)), (8, (.int .i64 v8)), (9, (.int .i64 v9))] [T6 Tryz.prog 25 [1, 1, 1, 1, 0, 1, 0, 0], Tv Tryz.prog 25 [1, 1, 1, 1, 0, 1, 0, 0], .inBlock 0, T6 Tryz.prog 25 [1, 1, 1, 1, 1]] M) : ∀ (v5 v6 v7 v8 v9 : Int) (a7 a6 : Bool) (n : List T1) (p : List T0) (q s : List T2) (u w : List Int) (b d e f g m : SV) (c : Pos) (Fr : Rd) (M : Mem) (r : (List T9) × Int) (x : Slc Fr 3 (Ta Q9) b n) (y : Slc Fr 2 (Ta Tg) d p) (a0 : Slc Fr 2 (Tf Fr) e q) (a1 : Slc Fr 2 (Tf Fr) f s) (a2 : Slc Fr 1 (Ta Qd) g u) (a3 : Slc Fr 1 (Ta Qd) m w) (hH : Has Fr M [.obj c (.row 38 .whole [b, d, e, f, g, m])]), Yb F a8 v5 v6 v7 v8 v9 a7 a6 n p q s u w = some r → Run Tryz.prog ⟨⟨25, [], none⟩, []⟩ 54 (z09 r) [(1, (.ptr c 0)), (5, (.int .i64 v5)), (6, (.int .i64 v6)), (7, (.int .i64 v7)), (8, (.int .i64 v8)), (9, (.int .i64 v9)), (10, (.bool a7)), (11, (.bool a6))] [Tu Tryz.prog 25 [1, 1, 1, 1, 0, 1, 0, 0, 1, 0, 0, 1, 1, 0, 0] 0, T6 Tryz.prog 25 [1, 1, 1, 1, 0, 1, 0, 0, 1, 0, 0, 1, 1, 0, 1], T6 Tryz.prog 25 [1, 1, 1, 1, 0, 1, 0, 0, 1, 0, 0, 1, 1, 1], .inBlock 1, T6 Tryz.prog 25 [1, 1, 1, 1, 0, 1, 0, 0, 1, 1], Tv Tryz.prog 25 [1, 1, 1, 1, 0, 1, 0, 0], .inBlock 0, T6 Tryz.prog 25 [1, 1, 1, 1, 1]] M := by
 intro v5 v6 v7 v8 v9 a7 a6 n p q s u w b d e f g m c Fr M r x y a0 a1 a2 a3 hH h
 rw [Yb] at h
 refine mv rfl rfl <| Run.Wd ?_
 rcases btf (a6) with a4 | a4
 ·have h := Tm a4 h
  refine Run.Wf rfl a4 <| Run.region <| mv rfl rfl <| og (Qq rfl rfl) rfl <| av rfl rfl ?_
  refine Run.Wd (Run.seq (Run.region ?_))
  exact Run.pick [1, 5, 6, 7, 8, 9, 10, 11] (z4d F a8 a5 v5 v6 (w64 (v7 + 1)) v8 v9 a7 a6 n p q s u w b d e f g m c _ _ _ x y a0 a1 a2 a3 hH h)
 ·have h := Tn a4 h
  refine Run.We rfl a4 ?_
  refine Run.skip (Run.seq (Run.region ?_))
  exact Run.pick [1, 5, 6, 7, 8, 9, 10, 11] (z4d F a8 a5 v5 v6 v7 v8 v9 a7 a6 n p q s u w b d e f g m c _ _ _ x y a0 a1 a2 a3 hH h)
def K9 (F : Nat) : Nat → Int → Int → Int → Int → Int → List T1 → List T0 → List T2 → List T2 → List Int → List Int → Option ((List T9) × Int)
 | 0, _, _, _, _, _, _, _, _, _, _, _ => none
 | N + 1, p, s, u, w, q, b, d, e, f, g, m =>
  bif (decide (q < p)) then
   bnd (K5 F (Th.mk b d (Tx.mk e f) (Qn.mk g m)) (0 : Int) q) fun c =>
   bnd (K5 F (Th.mk b d (Tx.mk e f) (Qn.mk g m)) (1 : Int) q) fun n =>
   bif c then
    Yb F (K9 F N) p (w64 (s + 1)) u w q c n b d e f g m
   else
    Yb F (K9 F N) p s u w q c n b d e f g m
  else
   some (([(T9.mk s p), (T9.mk u p), (T9.mk w p)] : List T9), (0 : Int))
theorem z6u (F : Nat) : ∀ (N : Nat), ∀ (v5 v6 v7 v8 v9 : Int) (x : List T1) (y : List T0) (a0 a1 : List T2) (a2 a3 : List Int) (b d e f g m : SV) (c : Pos) (Fr : Rd) (M : Mem) (r : (List T9) × Int) (n : Slc Fr 3 (Ta Q9) b x) (p : Slc Fr 2 (Ta Tg) d y) (q : Slc Fr 2 (Tf Fr) e a0) (s : Slc Fr 2 (Tf Fr) f a1) (u : Slc Fr 1 (Ta Qd) g a2) (w : Slc Fr 1 (Ta Qd) m a3) (hH : Has Fr M [.obj c (.row 38 .whole [b, d, e, f, g, m])]), K9 F N v5 v6 v7 v8 v9 x y a0 a1 a2 a3 = some r → Run Tryz.prog ⟨⟨25, [], none⟩, []⟩ 54 (z09 r) [(1, (.ptr c 0)), (5, (.int .i64 v5)), (6, (.int .i64 v6)), (7, (.int .i64 v7)), (8, (.int .i64 v8)), (9, (.int .i64 v9))] [T6 Tryz.prog 25 [1, 1, 1, 1, 0, 1, 0, 0], Tv Tryz.prog 25 [1, 1, 1, 1, 0, 1, 0, 0], .inBlock 0, T6 Tryz.prog 25 [1, 1, 1, 1, 1]] M := by
 intro N
 induction N with
 | zero =>
  intro v5 v6 v7 v8 v9 x y a0 a1 a2 a3 b d e f g m c Fr M r n p q s u w hH h
  simp [K9] at h
 | succ N ih =>
  intro v5 v6 v7 v8 v9 x y a0 a1 a2 a3 b d e f g m c Fr M r n p q s u w hH h
  rw [K9] at h
  refine Run.seq (Run.seq (Run.region ?_))
  refine mv rfl rfl <| mv rfl rfl <| og (Qz rfl rfl) rfl <| Run.Wd ?_
  rcases btf ((decide (v9 < v5))) with a4 | a4
  ·have h := Tm a4 h
   refine Run.Wf rfl a4 ?_
   refine Run.skip (Run.seq (Run.block (Run.seq ?_)))
   refine Run.drawG z1o <| df rfl (Tj rfl (hH.cells (i := 0) rfl 0 rfl) T5 z1c rfl rfl rfl) rfl <| df rfl (Tk rfl) rfl <| df rfl (Tj rfl (hH.cells (i := 0) rfl 0 rfl) T5 z1c rfl rfl rfl) rfl <| df rfl (Tk rfl) rfl ?_
   obtain ⟨a9, a7, h⟩ := T8 h
   refine DrawG.callP rfl T7 (Tl rfl z94 z8y) rfl (z1g F (Th.mk x y (Tx.mk a0 a1) (Qn.mk a2 a3)) (0 : Int) v9 b d e f g m _ _ (hH.slcF n) (hH.slcF p) ((q).mono hH.le (fun _ _ => z00 hH.le)) ((s).mono hH.le (fun _ _ => z00 hH.le)) (hH.slcF u) (hH.slcF w) a7) (G4 rfl (Yy T7 (Tk rfl)) rfl rfl rfl (G4 rfl (Yy T7 (Tj rfl (hH.cells (i := 0) rfl 0 rfl) T5 z1c rfl rfl rfl)) rfl rfl (W8 (G0 (G2 n) (G0 (G2 p) (G0 (G2 q) (G0 (G2 s) (G0 (G2 u) (G0 (G2 w) Wb))))))) Gx)) ?_
   obtain ⟨b0, a8, h⟩ := T8 h
   refine DrawG.callP rfl T7 (Tl rfl z94 z8y) rfl (z1g F (Th.mk x y (Tx.mk a0 a1) (Qn.mk a2 a3)) (1 : Int) v9 b d e f g m _ _ (hH.slcF n) (hH.slcF p) ((q).mono hH.le (fun _ _ => z00 hH.le)) ((s).mono hH.le (fun _ _ => z00 hH.le)) (hH.slcF u) (hH.slcF w) a8) Gx <| df rfl (G8 rfl) rfl <| df rfl (G8 rfl) rfl <| DrawG.sync <| DrawG.nil ?_
   refine Run.seq (Run.seq (Run.region ?_))
   refine mv rfl rfl <| Run.Wd ?_
   rcases btf (a9) with a5 | a5
   ·have h := Tm a5 h
    refine Run.Wf rfl a5 <| Run.region <| mv rfl rfl <| og (Qq rfl rfl) rfl <| av rfl rfl ?_
    refine Run.Wd (Run.seq (Run.seq (Run.region ?_)))
    exact Run.pick [1, 5, 6, 7, 8, 9, 10, 11] (z4c F (K9 F N) ih v5 (w64 (v6 + 1)) v7 v8 v9 a9 b0 x y a0 a1 a2 a3 b d e f g m c _ _ _ n p q s u w hH h)
   ·have h := Tn a5 h
    refine Run.We rfl a5 ?_
    refine Run.skip (Run.seq (Run.seq (Run.region ?_)))
    exact Run.pick [1, 5, 6, 7, 8, 9, 10, 11] (z4c F (K9 F N) ih v5 v6 v7 v8 v9 a9 b0 x y a0 a1 a2 a3 b d e f g m c _ _ _ n p q s u w hH h)
  ·have h := Tn a4 h
   refine Run.We rfl a4 ?_
   refine Run.exit rfl (Run.seq (Run.region ?_))
   refine mv rfl rfl <| mv rfl rfl <| og (Yk (r := [(.int .i64 v6), (.int .i64 v5)]) rfl z8v z96 rfl) rfl <| mv rfl rfl <| mv rfl rfl <| og (Yk (r := [(.int .i64 v7), (.int .i64 v5)]) rfl z8v z96 rfl) rfl <| mv rfl rfl <| mv rfl rfl <| og (Yk (r := [(.int .i64 v8), (.int .i64 v5)]) rfl z8v z96 rfl) rfl <| ox rfl (ExG.built (enc := z21) (l := ([(T9.mk v6 v5), (T9.mk v7 v5), (T9.mk v8 v5)] : List T9)) (z := 2) rfl zae rfl rfl rfl z23 hH) ?_
   rintro b2 b1 (a6 : Has Fr b1 [.vec 56 2 ([(T9.mk v6 v5), (T9.mk v7 v5), (T9.mk v8 v5)] : List T9).length b2 (([(T9.mk v6 v5), (T9.mk v7 v5), (T9.mk v8 v5)] : List T9).flatMap z21), .obj c (.row 38 .whole [b, d, e, f, g, m])])
   refine av rfl rfl <| av rfl rfl <| Run.Wd ?_
   cases h
   exact Run.ret Tryz.func25 rfl (Tc rfl (Tc rfl Te)) ⟨_, rfl, (a6.pick [0] rfl rfl).upF (Kn _)⟩
def Ys (F : Nat) (c : Th) : Option ((List T9) × Int) :=
 bnd (Kf F c) fun b =>
 bif (!(b == (0 : Int))) then
  some (([] : List T9), b)
 else
  K9 F F (c.Data.e0.length : Int) (0 : Int) (0 : Int) (0 : Int) (0 : Int) c.Duties c.Work c.Vetoes.e0 c.Vetoes.e1 c.Data.e0 c.Data.e1
theorem z7o (F : Nat) (x : Th) (y s1 s2 s3 s4 s5 : SV) (r : (List T9) × Int) (M : Mem) (f : Slc (rd M) 3 (Ta Q9) y x.Duties) (g : Slc (rd M) 2 (Ta Tg) s1 x.Work) (m : Slc (rd M) 2 (Tf (rd M)) s2 x.Vetoes.e0) (n : Slc (rd M) 2 (Tf (rd M)) s3 x.Vetoes.e1) (c : Slc (rd M) 1 (Ta Qd) s4 x.Data.e0) (p : Slc (rd M) 1 (Ta Qd) s5 x.Data.e1) (h : Ys F x = some r) : CallsM Tryz.prog 25 [(.agg [y, s1, s2, s3, s4, s5])] M (fun s M' => ∃ q1, s = (.tuple [q1, (.int .i64 r.2)]) ∧ New M M' [.vec 56 2 r.1.length q1 (r.1.flatMap z21)]) := by
 refine CallsM.fresh (Q := z09 r) Tryz.func25 rfl rfl ?_ (by rintro s Me ⟨q1, rfl, hx⟩ ha hw; exact ⟨_, rfl, New.of rfl hx ha hw⟩)
 rw [Ys] at h
 replace f := f.mono (T3 M) (fun _ _ h => h)
 replace g := g.mono (T3 M) (fun _ _ h => h)
 replace m := m.mono (T3 M) (fun _ _ => z00 (T3 M))
 replace n := n.mono (T3 M) (fun _ _ => z00 (T3 M))
 replace c := c.mono (T3 M) (fun _ _ h => h)
 replace p := p.mono (T3 M) (fun _ _ h => h)
 have hH := Has.nil (frozen M)
 refine Run.seq (Run.region ?_)
 refine ox rfl (ExG.box rfl rfl hH) ?_
 rintro _ u ⟨q, rfl, b⟩
 refine av rfl rfl <| av rfl rfl ?_
 refine Run.Wd (Run.seq (Run.seq (Run.region ?_)))
 refine og (Tj rfl (b.cells (i := 0) rfl 0 rfl) T5 z1c rfl rfl rfl) rfl ?_
 obtain ⟨w, e, h⟩ := T8 h
 refine Run.callP T7 (Tl rfl z93 z8x) rfl (z1e F x y s1 s2 s3 s4 s5 _ _ (b.slcF f) (b.slcF g) ((m).mono b.le (fun _ _ => z00 b.le)) ((n).mono b.le (fun _ _ => z00 b.le)) (b.slcF c) (b.slcF p) e) <| av rfl rfl ?_
 refine Run.Wd (Run.seq (Run.region ?_))
 refine mv rfl rfl <| og (Gd rfl rfl) rfl <| Run.Wd ?_
 rcases btf ((!(w == (0 : Int)))) with hc27 | hc27
 ·have h := Tm hc27 h
  refine Run.Wf rfl hc27 ?_
  refine Run.seq (Run.region ?_)
  refine mv rfl rfl <| av rfl rfl <| av rfl rfl <| Run.Wd ?_
  have d : Has (ro (frozen M)) u [.vec 56 2 ([] : List T9).length .nils (([] : List T9).flatMap z21), .obj q (.row 38 .whole [y, s1, s2, s3, s4, s5])] := b.nils 56 2
  cases h
  exact Run.ret Tryz.func25 rfl (Tc rfl (Tc rfl Te)) ⟨_, rfl, (d.pick [0] rfl rfl).upF (Kn _)⟩
 ·have h := Tn hc27 h
  refine Run.We rfl hc27 ?_
  refine Run.skip (Run.seq (Run.region ?_))
  refine og (T4 rfl z19) rfl <| og (Q6 rfl rfl (Qr (j := 0) rfl z4s)) rfl <| og (Tb rfl (b.cells (i := 0) rfl 4 rfl) T5 z4q) rfl <| og (Q3 rfl c z1u) rfl <| av rfl rfl ?_
  refine Run.Wd (Run.seq (Run.region ?_))
  refine av rfl rfl <| av rfl rfl <| av rfl rfl ?_
  refine Run.Wd (Run.seq (Run.seq (Run.region ?_)))
  refine av rfl rfl ?_
  refine Run.Wd (Run.block (Run.loop ?_))
  exact Run.pick [1, 5, 6, 7, 8, 9] (z6u F F (x.Data.e0.length : Int) (0 : Int) (0 : Int) (0 : Int) (0 : Int) x.Duties x.Work x.Vetoes.e0 x.Vetoes.e1 x.Data.e0 x.Data.e1 y s1 s2 s3 s4 s5 q _ _ _ f g m n c p b h)
theorem zcb : J8 Tryz.prog 25 = none := by kernel_rfl
theorem zbb : Ts Tryz.prog 25 = true := by kernel_rfl
theorem z8l : Vr Tryz.prog 52 = some .sl := by kernel_rfl
theorem zab : Zf Tryz.prog 52 = some (.sl 2) := by kernel_rfl
theorem zd4 : aggK Tryz.prog 3 = some .int := by kernel_rfl
theorem zb1 : aggK Tryz.prog 56 = some (.st [⟨ "N", 3, 0, false, "", "", 0⟩, ⟨ "Of", 3, 1, false, "", "", 8⟩]) := by kernel_rfl
theorem zb0 : aggEq Tryz.prog 56 = false := by kernel_rfl
theorem z0n : Gy Tryz.prog (Vu (atC Tryz.prog 7 [1, 1, 1, 1, 1, 1, 1, 1, 1, 1, 1, 1, 1, 0, 1, 0, 0, 1, 0, 0, 0])) = some [.fl 0, .fl 1, .fl 2, .fl 3, .fl 4, .fl 5, .fl 6, .fl 7, .fl 8, .sync] := by kernel_rfl
theorem zd8 : J8 Tryz.prog 9 = none := by kernel_rfl
theorem zd6 : Ts Tryz.prog 9 = true := by kernel_rfl
abbrev J3 (r : Bool) : SV → Mem → Prop := fun s _ => s = (.bool r)
def Je (F : Nat) : Nat → Int → List T9 → List T9 → Option Bool
 | 0, _, _, _ => none
 | N + 1, b, c, d =>
  bif (decide (b < (c.length : Int))) then
   bnd (idx c b) fun e =>
   bnd (idx d b) fun f =>
   bif (!((e.N == f.N) && ((e.Of == f.Of) && true))) then
    some false
   else
    (Je F N) (w64 (b + 1)) c d
  else
   bnd (works F) fun g =>
   some g
theorem z3y (F : Nat) : ∀ (N : Nat), ∀ (s : Int) (c q : List T9) (u w : SV) (Fr : Rd) (M : Mem) (r : Bool) (hH : Has Fr M [.vec 56 2 c.length u (c.flatMap z21), .vec 56 2 q.length w (q.flatMap z21), tb0, tb1, tb2, tb3]), Je F N s c q = some r → Run Tryz.prog ⟨⟨7, [], none⟩, []⟩ 124 (J3 r) [(13, u), (14, w), (15, (.int .i64 s))] [T6 Tryz.prog 7 [1, 1, 1, 1, 1, 1, 1, 1, 1, 1, 1, 1, 1, 0, 1, 0, 0], Tv Tryz.prog 7 [1, 1, 1, 1, 1, 1, 1, 1, 1, 1, 1, 1, 1, 0, 1, 0, 0], .inBlock 0, T6 Tryz.prog 7 [1, 1, 1, 1, 1, 1, 1, 1, 1, 1, 1, 1, 1, 1]] M := by
 intro N
 induction N with
 | zero =>
  intro s c q u w Fr M r hH h
  simp [Je] at h
 | succ N ih =>
  intro s c q u w Fr M r hH h
  rw [Je] at h
  refine Run.seq (Run.seq (Run.region ?_))
  refine mv rfl rfl <| mv rfl rfl <| og (Q3 rfl (hH.slc (i := 0) rfl z23) z8l) rfl <| og (Qz rfl rfl) rfl <| Run.Wd ?_
  rcases btf ((decide (s < (c.length : Int)))) with hc81 | hc81
  ·have h := Tm hc81 h
   refine Run.Wf rfl hc81 ?_
   refine Run.skip (Run.seq (Run.block (Run.seq ?_)))
   refine Run.drawG z0n <| df rfl (Tk rfl) rfl <| df rfl (Tk rfl) rfl ?_
   obtain ⟨x, d, h⟩ := T8 h
   obtain ⟨a3, a1, f, d, m⟩ := Yn (P := Tryz.prog) (t := 52) (kk := .i64) hH (i := 0) rfl d zab
   refine df rfl (Q6 rfl rfl d) rfl <| df rfl (Tj rfl (hH.at (enc := z21) (a := x) (i := 0) rfl f m z23) T5 z9j rfl rfl rfl) rfl <| df rfl (Tk rfl) rfl <| df rfl (Tk rfl) rfl ?_
   obtain ⟨y, e, h⟩ := T8 h
   obtain ⟨a4, a2, g, e, n⟩ := Yn (P := Tryz.prog) (t := 52) (kk := .i64) hH (i := 1) rfl e zab
   refine df rfl (Q6 rfl rfl e) rfl <| df rfl (Tj rfl (hH.at (enc := z21) (a := y) (i := 1) rfl g n z23) T5 z9j rfl rfl rfl) rfl <| df rfl (ex_neqA rfl rfl zb0 (eqA_st zb1 (eqFs_cons (by decide) (Zk z10 rfl) (Zk z10 rfl) (eqA_int zd4) (eqFs_cons (by decide) (Zk z10 rfl) (Zk z10 rfl) (eqA_int zd4) eqFs_nil)))) rfl <| DrawG.sync <| DrawG.nil ?_
   rcases btf ((!((x.N == y.N) && ((x.Of == y.Of) && true)))) with b | b
   ·have h := Tm b h
    refine Run.Wf rfl b ?_
    refine Run.seq (Run.region ?_)
    refine av rfl rfl <| Run.Wd ?_
    cases h
    exact Run.ret Tryz.func7 rfl (Tc rfl Te) rfl
   ·have h := Tn b h
    refine Run.We rfl b ?_
    refine Run.skip (Run.inBlock (Run.region ?_))
    refine mv rfl rfl <| og (Qq rfl rfl) rfl <| av rfl rfl ?_
    refine Run.Wd (Run.inLoop ?_)
    exact Run.pick [13, 14, 15] (ih (w64 (s + 1)) c q u w _ _ _ hH h)
  ·have h := Tn hc81 h
   refine Run.We rfl hc81 ?_
   refine Run.exit rfl (Run.seq (Run.region ?_))
   obtain ⟨a0, p, h⟩ := T8 h
   refine Run.callP T7 (Tl rfl zd8 zd6) rfl (z9a F a0 _ hH (List.mem_of_getElem? (i := 2) rfl) (List.mem_of_getElem? (i := 3) rfl) (List.mem_of_getElem? (i := 4) rfl) (List.mem_of_getElem? (i := 5) rfl) p) <| av rfl rfl <| Run.Wd ?_
   cases h
   exact Run.ret Tryz.func7 rfl (Tc rfl Te) rfl
def Kv (F : Nat) (b : Bool) (c d : List T9) : Option Bool :=
 bif b then
  some false
 else
  Je F F (0 : Int) c d
theorem z1n (F : Nat) : ∀ (d : Bool) (c e : List T9) (f g : SV) (Fr : Rd) (M : Mem) (r : Bool) (hH : Has Fr M [.vec 56 2 c.length f (c.flatMap z21), .vec 56 2 e.length g (e.flatMap z21), tb0, tb1, tb2, tb3]), Kv F d c e = some r → Run Tryz.prog ⟨⟨7, [], none⟩, []⟩ 124 (J3 r) [(13, f), (14, g), (107, (.bool d))] [T6 Tryz.prog 7 [1, 1, 1, 1, 1, 1, 1, 1, 1, 1, 1, 1, 0, 1], T6 Tryz.prog 7 [1, 1, 1, 1, 1, 1, 1, 1, 1, 1, 1, 1, 1]] M := by
 intro d c e f g Fr M r hH h
 rw [Kv] at h
 rcases btf (d) with b | b
 ·have h := Tm b h
  refine Run.Wf rfl b ?_
  refine Run.seq (Run.region ?_)
  refine av rfl rfl <| Run.Wd ?_
  cases h
  exact Run.ret Tryz.func7 rfl (Tc rfl Te) rfl
 ·have h := Tn b h
  refine Run.We rfl b ?_
  refine Run.skip (Run.seq (Run.seq (Run.region ?_)))
  refine av rfl rfl ?_
  refine Run.Wd (Run.block (Run.loop ?_))
  exact Run.pick [13, 14, 15] (z3y F F (0 : Int) c e f g _ _ _ hH h)
def Ku (F : Nat) (p : Bool) (b : List T1) (d : List T0) (e f : List T2) (g m : List Int) : Option Bool :=
 bif p then
  some false
 else
  bnd (Zr F (Th.mk b d (Tx.mk e f) (Qn.mk g m))) fun c =>
  bnd (Ys F (Th.mk b d (Tx.mk e f) (Qn.mk g m))) fun n =>
  bif (!((c.1.length : Int) == (n.1.length : Int))) then
   Kv F true c.1 n.1
  else
   Kv F (!(c.2 == n.2)) c.1 n.1
theorem z1m (F : Nat) : ∀ (b5 : Bool) (p : List T1) (q : List T0) (s u : List T2) (w x : List Int) (b d e f g m : SV) (b4 : Pos) (Fr : Rd) (M : Mem) (r : Bool) (a0 : Slc Fr 3 (Ta Q9) b p) (a1 : Slc Fr 2 (Ta Tg) d q) (a2 : Slc Fr 2 (Tf Fr) e s) (a3 : Slc Fr 2 (Tf Fr) f u) (a4 : Slc Fr 1 (Ta Qd) g w) (a5 : Slc Fr 1 (Ta Qd) m x) (hH : Has Fr M [.obj b4 (.row 38 .whole [b, d, e, f, g, m]), tb0, tb1, tb2, tb3]), Ku F b5 p q s u w x = some r → Run Tryz.prog ⟨⟨7, [], none⟩, []⟩ 124 (J3 r) [(2, (.ptr b4 0)), (87, (.bool b5))] [T6 Tryz.prog 7 [1, 1, 1, 1, 1, 1, 1, 1, 1, 0, 1], T6 Tryz.prog 7 [1, 1, 1, 1, 1, 1, 1, 1, 1, 1]] M := by
 intro b5 p q s u w x b d e f g m b4 Fr M r a0 a1 a2 a3 a4 a5 hH h
 rw [Ku] at h
 rcases btf (b5) with a6 | a6
 ·have h := Tm a6 h
  refine Run.Wf rfl a6 ?_
  refine Run.seq (Run.region ?_)
  refine av rfl rfl <| Run.Wd ?_
  cases h
  exact Run.ret Tryz.func7 rfl (Tc rfl Te) rfl
 ·have h := Tn a6 h
  refine Run.We rfl a6 ?_
  refine Run.skip (Run.seq (Run.region ?_))
  refine og (Tj rfl (hH.cells (i := 0) rfl 0 rfl) T5 z1c rfl rfl rfl) rfl ?_
  obtain ⟨c, b1, h⟩ := T8 h
  refine Run.callX T7 (Tl rfl zc6 zb6) rfl (z86 F (Th.mk p q (Tx.mk s u) (Qn.mk w x)) b d e f g m _ _ (hH.slcF a0) (hH.slcF a1) ((a2).mono hH.le (fun _ _ => z00 hH.le)) ((a3).mono hH.le (fun _ _ => z00 hH.le)) (hH.slcF a4) (hH.slcF a5) b1) ?_
  rintro _ b6 ⟨y, rfl, a9⟩
  have n : Has Fr b6 [.vec 56 2 c.1.length y (c.1.flatMap z21), .obj b4 (.row 38 .whole [b, d, e, f, g, m]), tb0, tb1, tb2, tb3] := a9.1 _ _ hH
  refine mv rfl rfl <| og (Qm rfl rfl) rfl <| og (Qm rfl rfl) rfl <| av rfl rfl <| av rfl rfl ?_
  refine Run.Wd (Run.seq (Run.region ?_))
  refine og (Tj rfl (n.cells (i := 1) rfl 0 rfl) T5 z1c rfl rfl rfl) rfl ?_
  obtain ⟨b3, b2, h⟩ := T8 h
  refine Run.callX T7 (Tl rfl zcb zbb) rfl (z7o F (Th.mk p q (Tx.mk s u) (Qn.mk w x)) b d e f g m _ _ (n.slcF a0) (n.slcF a1) ((a2).mono n.le (fun _ _ => z00 n.le)) ((a3).mono n.le (fun _ _ => z00 n.le)) (n.slcF a4) (n.slcF a5) b2) ?_
  rintro _ b7 ⟨a8, rfl, b0⟩
  have a7 : Has Fr b7 [.vec 56 2 b3.1.length a8 (b3.1.flatMap z21), .vec 56 2 c.1.length y (c.1.flatMap z21), .obj b4 (.row 38 .whole [b, d, e, f, g, m]), tb0, tb1, tb2, tb3] := b0.1 _ _ n
  refine mv rfl rfl <| og (Qm rfl rfl) rfl <| og (Qm rfl rfl) rfl <| av rfl rfl <| av rfl rfl ?_
  refine Run.Wd (Run.seq (Run.seq (Run.region ?_)))
  refine mv rfl rfl <| og (Q3 rfl (a7.slc (i := 1) rfl z23) z8l) rfl <| mv rfl rfl <| og (Q3 rfl (a7.slc (i := 0) rfl z23) z8l) rfl <| og (Gd rfl rfl) rfl <| mv rfl rfl ?_
  rcases btf ((!((c.1.length : Int) == (b3.1.length : Int)))) with hc79 | hc79
  ·have h := Tm hc79 h
   refine gn rfl rfl hc79 rfl <| gn rfl rfl hc79 rfl <| gn rfl rfl hc79 rfl <| og (Tr rfl hc79 rfl rfl) rfl <| Run.Wd ?_
   exact Run.pick [13, 14, 107] (z1n F true c.1 b3.1 y a8 _ _ _ (a7.pick [1, 0, 3, 4, 5, 6] rfl rfl) h)
  ·have h := Tn hc79 h
   refine gy rfl rfl hc79 (Tk rfl) rfl <| gy rfl rfl hc79 (Tk rfl) rfl <| gy rfl rfl hc79 (Gd rfl rfl) rfl <| og (Tt rfl hc79 rfl rfl) rfl <| Run.Wd ?_
   exact Run.pick [13, 14, 107] (z1n F (!(c.2 == b3.2)) c.1 b3.1 y a8 _ _ _ (a7.pick [1, 0, 3, 4, 5, 6] rfl rfl) h)
def Ky (F : Nat) (s : Bool) (b : List T1) (d : List T0) (e f : List T2) (g m : List Int) (c : Qp) : Option Bool :=
 bif s then
  some false
 else
  bnd (Za F (Th.mk b d (Tx.mk e f) (Qn.mk g m)) c.Detector c.Length) fun n =>
  bnd (Y1 F (Th.mk b d (Tx.mk e f) (Qn.mk g m)) c.Detector c.Length) fun p =>
  bnd (Gw F n.1 p.1) fun q =>
  bif (!q) then
   Ku F true b d e f g m
  else
   Ku F (!(n.2 == p.2)) b d e f g m
theorem z1l (F : Nat) : ∀ (b9 : Bool) (q : List T1) (s : List T0) (u w : List T2) (x y : List Int) (c : Qp) (b d e f g m : SV) (b5 b7 : Pos) (Fr : Rd) (M : Mem) (r : Bool) (a0 : Slc Fr 3 (Ta Q9) b q) (a1 : Slc Fr 2 (Ta Tg) d s) (a2 : Slc Fr 2 (Tf Fr) e u) (a3 : Slc Fr 2 (Tf Fr) f w) (a4 : Slc Fr 1 (Ta Qd) g x) (a5 : Slc Fr 1 (Ta Qd) m y) (hH : Has Fr M [.obj b5 (.row 38 .whole [b, d, e, f, g, m]), .obj b7 (.row 46 .whole [(.int .i64 c.Time), (.int .i64 c.Detector), (.int .i64 c.Length)]), tb0, tb1, tb2, tb3]), Ky F b9 q s u w x y c = some r → Run Tryz.prog ⟨⟨7, [], none⟩, []⟩ 124 (J3 r) [(2, (.ptr b5 0)), (3, (.ptr b7 0)), (60, (.bool b9))] [T6 Tryz.prog 7 [1, 1, 1, 1, 1, 1, 0, 1], T6 Tryz.prog 7 [1, 1, 1, 1, 1, 1, 1]] M := by
 intro b9 q s u w x y c b d e f g m b5 b7 Fr M r a0 a1 a2 a3 a4 a5 hH h
 rw [Ky] at h
 rcases btf (b9) with a6 | a6
 ·have h := Tm a6 h
  refine Run.Wf rfl a6 ?_
  refine Run.seq (Run.region ?_)
  refine av rfl rfl <| Run.Wd ?_
  cases h
  exact Run.ret Tryz.func7 rfl (Tc rfl Te) rfl
 ·have h := Tn a6 h
  refine Run.We rfl a6 ?_
  refine Run.skip (Run.seq (Run.region ?_))
  refine og (Tj rfl (hH.cells (i := 0) rfl 0 rfl) T5 z1c rfl rfl rfl) rfl <| og (T4 rfl z7l) rfl <| og (Tb rfl (hH.cells (i := 1) rfl 1 rfl) T5 z10) rfl <| og (T4 rfl z8q) rfl <| og (Tb rfl (hH.cells (i := 1) rfl 2 rfl) T5 z10) rfl ?_
  obtain ⟨b6, b2, h⟩ := T8 h
  refine Run.callX T7 (Tl rfl zc5 zb5) rfl (z82 F (Th.mk q s (Tx.mk u w) (Qn.mk x y)) c.Detector c.Length b d e f g m _ _ (hH.slcF a0) (hH.slcF a1) ((a2).mono hH.le (fun _ _ => z00 hH.le)) ((a3).mono hH.le (fun _ _ => z00 hH.le)) (hH.slcF a4) (hH.slcF a5) b2) ?_
  rintro _ c0 ⟨a8, rfl, b0⟩
  have n : Has Fr c0 [.vec 3 1 b6.1.length a8 (b6.1.flatMap Qd), .obj b5 (.row 38 .whole [b, d, e, f, g, m]), .obj b7 (.row 46 .whole [(.int .i64 c.Time), (.int .i64 c.Detector), (.int .i64 c.Length)]), tb0, tb1, tb2, tb3] := b0.1 _ _ hH
  refine mv rfl rfl <| og (Qm rfl rfl) rfl <| og (Qm rfl rfl) rfl <| av rfl rfl <| av rfl rfl ?_
  refine Run.Wd (Run.seq (Run.region ?_))
  refine og (Tj rfl (n.cells (i := 1) rfl 0 rfl) T5 z1c rfl rfl rfl) rfl <| og (T4 rfl z7l) rfl <| og (Tb rfl (n.cells (i := 2) rfl 1 rfl) T5 z10) rfl <| og (T4 rfl z8q) rfl <| og (Tb rfl (n.cells (i := 2) rfl 2 rfl) T5 z10) rfl ?_
  obtain ⟨b8, b3, h⟩ := T8 h
  refine Run.callX T7 (Tl rfl zca zba) rfl (z7a F (Th.mk q s (Tx.mk u w) (Qn.mk x y)) c.Detector c.Length b d e f g m _ _ (n.slcF a0) (n.slcF a1) ((a2).mono n.le (fun _ _ => z00 n.le)) ((a3).mono n.le (fun _ _ => z00 n.le)) (n.slcF a4) (n.slcF a5) b3) ?_
  rintro _ c1 ⟨a9, rfl, b1⟩
  have a7 : Has Fr c1 [.vec 3 1 b8.1.length a9 (b8.1.flatMap Qd), .vec 3 1 b6.1.length a8 (b6.1.flatMap Qd), .obj b5 (.row 38 .whole [b, d, e, f, g, m]), .obj b7 (.row 46 .whole [(.int .i64 c.Time), (.int .i64 c.Detector), (.int .i64 c.Length)]), tb0, tb1, tb2, tb3] := b1.1 _ _ n
  refine mv rfl rfl <| og (Qm rfl rfl) rfl <| og (Qm rfl rfl) rfl <| av rfl rfl <| av rfl rfl ?_
  refine Run.Wd (Run.seq (Run.seq (Run.region ?_)))
  refine mv rfl rfl <| mv rfl rfl ?_
  obtain ⟨c2, b4, h⟩ := T8 h
  refine Run.callP T7 (Tl rfl zc2 zb2) rfl (z5w F b6.1 b8.1 a8 a9 _ _ (a7.slc (i := 1) rfl z17) (a7.slc (i := 0) rfl z17) b4) <| og (Jh rfl) rfl <| mv rfl rfl ?_
  rcases btf ((!c2)) with p | p
  ·have h := Tm p h
   refine gn rfl rfl p rfl <| gn rfl rfl p rfl <| gn rfl rfl p rfl <| og (Tr rfl p rfl rfl) rfl <| Run.Wd ?_
   exact Run.pick [2, 87] (z1m F true q s u w x y b d e f g m b5 _ _ _ a0 a1 a2 a3 a4 a5 (a7.pick [2, 4, 5, 6, 7] rfl rfl) h)
  ·have h := Tn p h
   refine gy rfl rfl p (Tk rfl) rfl <| gy rfl rfl p (Tk rfl) rfl <| gy rfl rfl p (Gd rfl rfl) rfl <| og (Tt rfl p rfl rfl) rfl <| Run.Wd ?_
   exact Run.pick [2, 87] (z1m F (!(b6.2 == b8.2)) q s u w x y b d e f g m b5 _ _ _ a0 a1 a2 a3 a4 a5 (a7.pick [2, 4, 5, 6, 7] rfl rfl) h)
def G1 (F : Nat) (s : Bool) (b : List T1) (d : List T0) (e f : List T2) (g m : List Int) (c : Qp) : Option Bool :=
 bif s then
  some false
 else
  bnd (Z8 F (Th.mk b d (Tx.mk e f) (Qn.mk g m)) c.Detector) fun n =>
  bnd (Xz F (Th.mk b d (Tx.mk e f) (Qn.mk g m)) c.Detector) fun p =>
  bnd (Gn F n.1 p.1) fun q =>
  bif (!q) then
   Ky F true b d e f g m c
  else
   Ky F (!(n.2 == p.2)) b d e f g m c
theorem z1k (F : Nat) : ∀ (b9 : Bool) (q : List T1) (s : List T0) (u w : List T2) (x y : List Int) (c : Qp) (b d e f g m : SV) (b5 b6 : Pos) (Fr : Rd) (M : Mem) (r : Bool) (a0 : Slc Fr 3 (Ta Q9) b q) (a1 : Slc Fr 2 (Ta Tg) d s) (a2 : Slc Fr 2 (Tf Fr) e u) (a3 : Slc Fr 2 (Tf Fr) f w) (a4 : Slc Fr 1 (Ta Qd) g x) (a5 : Slc Fr 1 (Ta Qd) m y) (hH : Has Fr M [.obj b5 (.row 38 .whole [b, d, e, f, g, m]), .obj b6 (.row 46 .whole [(.int .i64 c.Time), (.int .i64 c.Detector), (.int .i64 c.Length)]), tb0, tb1, tb2, tb3]), G1 F b9 q s u w x y c = some r → Run Tryz.prog ⟨⟨7, [], none⟩, []⟩ 124 (J3 r) [(2, (.ptr b5 0)), (3, (.ptr b6 0)), (37, (.bool b9))] [T6 Tryz.prog 7 [1, 1, 1, 0, 1], T6 Tryz.prog 7 [1, 1, 1, 1]] M := by
 intro b9 q s u w x y c b d e f g m b5 b6 Fr M r a0 a1 a2 a3 a4 a5 hH h
 rw [G1] at h
 rcases btf (b9) with a6 | a6
 ·have h := Tm a6 h
  refine Run.Wf rfl a6 ?_
  refine Run.seq (Run.region ?_)
  refine av rfl rfl <| Run.Wd ?_
  cases h
  exact Run.ret Tryz.func7 rfl (Tc rfl Te) rfl
 ·have h := Tn a6 h
  refine Run.We rfl a6 ?_
  refine Run.skip (Run.seq (Run.region ?_))
  refine og (Tj rfl (hH.cells (i := 0) rfl 0 rfl) T5 z1c rfl rfl rfl) rfl <| og (T4 rfl z7l) rfl <| og (Tb rfl (hH.cells (i := 1) rfl 1 rfl) T5 z10) rfl ?_
  obtain ⟨b7, b2, h⟩ := T8 h
  refine Run.callX T7 (Tl rfl zc4 zb4) rfl (z81 F (Th.mk q s (Tx.mk u w) (Qn.mk x y)) c.Detector b d e f g m _ _ (hH.slcF a0) (hH.slcF a1) ((a2).mono hH.le (fun _ _ => z00 hH.le)) ((a3).mono hH.le (fun _ _ => z00 hH.le)) (hH.slcF a4) (hH.slcF a5) b2) ?_
  rintro _ c0 ⟨a8, rfl, b0⟩
  have n : Has Fr c0 [.vec 4 1 b7.1.length a8 (b7.1.flatMap z0h), .obj b5 (.row 38 .whole [b, d, e, f, g, m]), .obj b6 (.row 46 .whole [(.int .i64 c.Time), (.int .i64 c.Detector), (.int .i64 c.Length)]), tb0, tb1, tb2, tb3] := b0.1 _ _ hH
  refine mv rfl rfl <| og (Qm rfl rfl) rfl <| og (Qm rfl rfl) rfl <| av rfl rfl <| av rfl rfl ?_
  refine Run.Wd (Run.seq (Run.region ?_))
  refine og (Tj rfl (n.cells (i := 1) rfl 0 rfl) T5 z1c rfl rfl rfl) rfl <| og (T4 rfl z7l) rfl <| og (Tb rfl (n.cells (i := 2) rfl 1 rfl) T5 z10) rfl ?_
  obtain ⟨b8, b3, h⟩ := T8 h
  refine Run.callX T7 (Tl rfl zc8 zb8) rfl (z79 F (Th.mk q s (Tx.mk u w) (Qn.mk x y)) c.Detector b d e f g m _ _ (n.slcF a0) (n.slcF a1) ((a2).mono n.le (fun _ _ => z00 n.le)) ((a3).mono n.le (fun _ _ => z00 n.le)) (n.slcF a4) (n.slcF a5) b3) ?_
  rintro _ c1 ⟨a9, rfl, b1⟩
  have a7 : Has Fr c1 [.vec 4 1 b8.1.length a9 (b8.1.flatMap z0h), .vec 4 1 b7.1.length a8 (b7.1.flatMap z0h), .obj b5 (.row 38 .whole [b, d, e, f, g, m]), .obj b6 (.row 46 .whole [(.int .i64 c.Time), (.int .i64 c.Detector), (.int .i64 c.Length)]), tb0, tb1, tb2, tb3] := b1.1 _ _ n
  refine mv rfl rfl <| og (Qm rfl rfl) rfl <| og (Qm rfl rfl) rfl <| av rfl rfl <| av rfl rfl ?_
  refine Run.Wd (Run.seq (Run.seq (Run.region ?_)))
  refine mv rfl rfl <| mv rfl rfl ?_
  obtain ⟨c2, b4, h⟩ := T8 h
  refine Run.callP T7 (Tl rfl zc9 zb9) rfl (z5h F b7.1 b8.1 a8 a9 _ _ (a7.slc (i := 1) rfl z06) (a7.slc (i := 0) rfl z06) b4) <| og (Jh rfl) rfl <| mv rfl rfl ?_
  rcases btf ((!c2)) with p | p
  ·have h := Tm p h
   refine gn rfl rfl p rfl <| gn rfl rfl p rfl <| gn rfl rfl p rfl <| og (Tr rfl p rfl rfl) rfl <| Run.Wd ?_
   exact Run.pick [2, 3, 60] (z1l F true q s u w x y c b d e f g m b5 b6 _ _ _ a0 a1 a2 a3 a4 a5 (a7.pick [2, 3, 4, 5, 6, 7] rfl rfl) h)
  ·have h := Tn p h
   refine gy rfl rfl p (Tk rfl) rfl <| gy rfl rfl p (Tk rfl) rfl <| gy rfl rfl p (Gd rfl rfl) rfl <| og (Tt rfl p rfl rfl) rfl <| Run.Wd ?_
   exact Run.pick [2, 3, 60] (z1l F (!(b7.2 == b8.2)) q s u w x y c b d e f g m b5 b6 _ _ _ a0 a1 a2 a3 a4 a5 (a7.pick [2, 3, 4, 5, 6, 7] rfl rfl) h)
def X4 (F : Nat) (d : Th) (e : Qp) : Option Bool :=
 bnd (Yv F d e.Time) fun b =>
 bnd (Xm F d e.Time) fun c =>
 bif (!(b.1 == c.1)) then
  G1 F true d.Duties d.Work d.Vetoes.e0 d.Vetoes.e1 d.Data.e0 d.Data.e1 e
 else
  G1 F (!(b.2 == c.2)) d.Duties d.Work d.Vetoes.e0 d.Vetoes.e1 d.Data.e0 d.Data.e1 e
theorem Zu (F : Nat) (a0 : Th) (a1 : Qp) (s0 s1 s2 s3 s4 s5 : SV) (r : Bool) (M : Mem) (c : Slc (rd M) 3 (Ta Q9) s0 a0.Duties) (m : Slc (rd M) 2 (Ta Tg) s1 a0.Work) (n : Slc (rd M) 2 (Tf (rd M)) s2 a0.Vetoes.e0) (p : Slc (rd M) 2 (Tf (rd M)) s3 a0.Vetoes.e1) (q : Slc (rd M) 1 (Ta Qd) s4 a0.Data.e0) (s : Slc (rd M) 1 (Ta Qd) s5 a0.Data.e1) (hfx : FixIn M fixes) (h : X4 F a0 a1 = some r) : Run Tryz.prog (fx0 7) 124 (J3 r) [(0, (.agg [s0, s1, s2, s3, s4, s5])), (1, (.agg [(.int .i64 a1.Time), (.int .i64 a1.Detector), (.int .i64 a1.Length)]))] [T6 Tryz.prog 7 []] (frozen M) := by
 rw [X4] at h
 replace c := c.mono (T3 M) (fun _ _ h => h)
 replace m := m.mono (T3 M) (fun _ _ h => h)
 replace n := n.mono (T3 M) (fun _ _ => z00 (T3 M))
 replace p := p.mono (T3 M) (fun _ _ => z00 (T3 M))
 replace q := q.mono (T3 M) (fun _ _ h => h)
 replace s := s.mono (T3 M) (fun _ _ h => h)
 have hH : Has (ro (frozen M)) (frozen M) [tb0, tb1, tb2, tb3] := Has.ofFix hfx.frozen
 refine Run.seq (Run.region ?_)
 refine ox rfl (ExG.box rfl rfl hH) ?_
 rintro _ a2 ⟨u, rfl, e⟩
 refine ox rfl (ExG.box rfl rfl e) ?_
 rintro _ a3 ⟨w, rfl, b⟩
 refine av rfl rfl ?_
 refine Run.Wd (Run.seq (Run.region ?_))
 refine og (Tj rfl (b.cells (i := 1) rfl 0 rfl) T5 z1c rfl rfl rfl) rfl <| og (T4 rfl z8p) rfl <| og (Tb rfl (b.cells (i := 0) rfl 0 rfl) T5 z10) rfl ?_
 obtain ⟨x, f, h⟩ := T8 h
 refine Run.callP T7 (Tl rfl zc3 zb3) rfl (z7f F a0 a1.Time s0 s1 s2 s3 s4 s5 _ _ (b.slcF c) (b.slcF m) ((n).mono b.le (fun _ _ => z00 b.le)) ((p).mono b.le (fun _ _ => z00 b.le)) (b.slcF q) (b.slcF s) f) <| mv rfl rfl <| og (Qm rfl rfl) rfl <| og (Qm rfl rfl) rfl <| av rfl rfl <| av rfl rfl ?_
 refine Run.Wd (Run.seq (Run.region ?_))
 refine og (Tj rfl (b.cells (i := 1) rfl 0 rfl) T5 z1c rfl rfl rfl) rfl <| og (T4 rfl z8p) rfl <| og (Tb rfl (b.cells (i := 0) rfl 0 rfl) T5 z10) rfl ?_
 obtain ⟨y, g, h⟩ := T8 h
 refine Run.callP T7 (Tl rfl zc7 zb7) rfl (z6e F a0 a1.Time s0 s1 s2 s3 s4 s5 _ _ (b.slcF c) (b.slcF m) ((n).mono b.le (fun _ _ => z00 b.le)) ((p).mono b.le (fun _ _ => z00 b.le)) (b.slcF q) (b.slcF s) g) <| mv rfl rfl <| og (Qm rfl rfl) rfl <| og (Qm rfl rfl) rfl <| av rfl rfl <| av rfl rfl ?_
 refine Run.Wd (Run.seq (Run.seq (Run.region ?_)))
 refine mv rfl rfl <| mv rfl rfl <| og (ex_neqS rfl rfl) rfl <| mv rfl rfl ?_
 rcases btf ((!(x.1 == y.1))) with d | d
 ·have h := Tm d h
  refine gn rfl rfl d rfl <| gn rfl rfl d rfl <| gn rfl rfl d rfl <| og (Tr rfl d rfl rfl) rfl <| Run.Wd ?_
  exact Run.pick [2, 3, 37] (z1k F true a0.Duties a0.Work a0.Vetoes.e0 a0.Vetoes.e1 a0.Data.e0 a0.Data.e1 a1 s0 s1 s2 s3 s4 s5 u w _ _ _ c m n p q s (b.pick [1, 0, 2, 3, 4, 5] rfl rfl) h)
 ·have h := Tn d h
  refine gy rfl rfl d (Tk rfl) rfl <| gy rfl rfl d (Tk rfl) rfl <| gy rfl rfl d (Gd rfl rfl) rfl <| og (Tt rfl d rfl rfl) rfl <| Run.Wd ?_
  exact Run.pick [2, 3, 37] (z1k F (!(x.2 == y.2)) a0.Duties a0.Work a0.Vetoes.e0 a0.Vetoes.e1 a0.Data.e0 a0.Data.e1 a1 s0 s1 s2 s3 s4 s5 u w _ _ _ c m n p q s (b.pick [1, 0, 2, 3, 4, 5] rfl rfl) h)
end Go.Ev.RunWatches
