/- Plain functions, and proofs of them. -/
import Derived.Test.YtajnglhkdglglaaGreatDoorSort
import Derived.Test.YtajnglhkdglglaaGreatDoorRunWatchesPlain
namespace Go.Ev.RunWatches
open Go Go.Ev Go.Proofs
set_option maxRecDepth 100000
set_option linter.unusedVariables false
abbrev z01 (r : Bool) : SV → Mem → Prop := fun s _ => s = (.bool r)
def Gz (F : Nat) (b : (List UInt8) → Int → Option Bool) (e : List UInt8) (f : Int) (d : Bool) : Option Bool :=
 bif d then
  some false
 else
  b e (w64 (f + 1))
theorem z36 (F : Nat) (f : (List UInt8) → Int → Option Bool) (d : ∀ (g : List UInt8) (m : Int) (Fr : Rd) (M : Mem) (r : Bool) (hH : Has Fr M []), f g m = some r → Run Tryz.prog ⟨⟨106, [], none⟩, []⟩ 50 (z01 r) [(0, (.str g)), (3, (.int .i64 m))] [T6 Tryz.prog 106 [1, 1, 0, 1, 0, 0], Tv Tryz.prog 106 [1, 1, 0, 1, 0, 0], .inBlock 0, T6 Tryz.prog 106 [1, 1, 1]] M) : ∀ (g : List UInt8) (m : Int) (e : Bool) (Fr : Rd) (M : Mem) (r : Bool) (hH : Has Fr M []), Gz F f g m e = some r → Run Tryz.prog ⟨⟨106, [], none⟩, []⟩ 50 (z01 r) [(0, (.str g)), (3, (.int .i64 m)), (49, (.bool e))] [T6 Tryz.prog 106 [1, 1, 0, 1, 0, 0, 1, 0, 0, 1, 1], .inBlock 1, T6 Tryz.prog 106 [1, 1, 0, 1, 0, 0, 1, 1], Tv Tryz.prog 106 [1, 1, 0, 1, 0, 0], .inBlock 0, T6 Tryz.prog 106 [1, 1, 1]] M := by
 intro g m e Fr M r hH h
 rw [Gz] at h
 rcases btf (e) with b | b
 ·have h := Tm b h
  refine Run.Wf rfl b ?_
  refine Run.seq (Run.region ?_)
  refine av rfl rfl <| Run.Wd ?_
  cases h
  exact Run.ret Tryz.func106 rfl (Tc rfl Te) rfl
 ·have h := Tn b h
  refine Run.We rfl b ?_
  refine Run.skip (Run.inBlock (Run.region ?_))
  refine mv rfl rfl <| og (Qq rfl rfl) rfl <| av rfl rfl ?_
  refine Run.Wd (Run.inLoop ?_)
  exact Run.pick [0, 3] (d g (w64 (m + 1)) _ _ _ hH h)
def X0 (F : Nat) (b : (List UInt8) → Int → Option Bool) (e : List UInt8) (f g : Int) (d : Bool) : Option Bool :=
 bif d then
  Gz F b e f (!(g == (95 : Int)))
 else
  Gz F b e f false
theorem z34 (F : Nat) (e : (List UInt8) → Int → Option Bool) (d : ∀ (g : List UInt8) (m : Int) (Fr : Rd) (M : Mem) (r : Bool) (hH : Has Fr M []), e g m = some r → Run Tryz.prog ⟨⟨106, [], none⟩, []⟩ 50 (z01 r) [(0, (.str g)), (3, (.int .i64 m))] [T6 Tryz.prog 106 [1, 1, 0, 1, 0, 0], Tv Tryz.prog 106 [1, 1, 0, 1, 0, 0], .inBlock 0, T6 Tryz.prog 106 [1, 1, 1]] M) : ∀ (g : List UInt8) (m n : Int) (f : Bool) (Fr : Rd) (M : Mem) (r : Bool) (hH : Has Fr M []), X0 F e g m n f = some r → Run Tryz.prog ⟨⟨106, [], none⟩, []⟩ 50 (z01 r) [(0, (.str g)), (3, (.int .i64 m)), (4, (.int .u8 n)), (45, (.bool f))] [Tu Tryz.prog 106 [1, 1, 0, 1, 0, 0, 1, 0, 0, 1, 0] 14, T6 Tryz.prog 106 [1, 1, 0, 1, 0, 0, 1, 0, 0, 1, 1], .inBlock 1, T6 Tryz.prog 106 [1, 1, 0, 1, 0, 0, 1, 1], Tv Tryz.prog 106 [1, 1, 0, 1, 0, 0], .inBlock 0, T6 Tryz.prog 106 [1, 1, 1]] M := by
 intro g m n f Fr M r hH h
 rw [X0] at h
 refine mv rfl rfl ?_
 rcases btf (f) with b | b
 ·have h := Tm b h
  refine gy rfl rfl b (Tk rfl) rfl <| gy rfl rfl b (Gd rfl rfl) rfl <| og (Tr rfl b rfl rfl) rfl <| Run.Wd ?_
  exact Run.pick [0, 3, 49] (z36 F e d g m (!(n == (95 : Int))) _ _ _ hH h)
 ·have h := Tn b h
  refine gn rfl rfl b rfl <| gn rfl rfl b rfl <| og (Tt rfl b rfl rfl) rfl <| Run.Wd ?_
  exact Run.pick [0, 3, 49] (z36 F e d g m false _ _ _ hH h)
def Gt (F : Nat) (b : (List UInt8) → Int → Option Bool) (f : List UInt8) (g m : Int) (d e : Bool) : Option Bool :=
 X0 F b f g m (bif d then e else false)
theorem z33 (F : Nat) (f : (List UInt8) → Int → Option Bool) (b : ∀ (g : List UInt8) (m : Int) (Fr : Rd) (M : Mem) (r : Bool) (hH : Has Fr M []), f g m = some r → Run Tryz.prog ⟨⟨106, [], none⟩, []⟩ 50 (z01 r) [(0, (.str g)), (3, (.int .i64 m))] [T6 Tryz.prog 106 [1, 1, 0, 1, 0, 0], Tv Tryz.prog 106 [1, 1, 0, 1, 0, 0], .inBlock 0, T6 Tryz.prog 106 [1, 1, 1]] M) : ∀ (g : List UInt8) (m n : Int) (d e : Bool) (Fr : Rd) (M : Mem) (r : Bool) (hH : Has Fr M []), Gt F f g m n d e = some r → Run Tryz.prog ⟨⟨106, [], none⟩, []⟩ 50 (z01 r) [(0, (.str g)), (3, (.int .i64 m)), (4, (.int .u8 n)), (38, (.bool d)), (44, (.bool e))] [Tu Tryz.prog 106 [1, 1, 0, 1, 0, 0, 1, 0, 0, 1, 0] 13, T6 Tryz.prog 106 [1, 1, 0, 1, 0, 0, 1, 0, 0, 1, 1], .inBlock 1, T6 Tryz.prog 106 [1, 1, 0, 1, 0, 0, 1, 1], Tv Tryz.prog 106 [1, 1, 0, 1, 0, 0], .inBlock 0, T6 Tryz.prog 106 [1, 1, 1]] M := by
 intro g m n d e Fr M r hH h
 rw [Gt] at h
 refine og (ex_pickB rfl rfl rfl) rfl ?_
 exact Run.pick [0, 3, 4, 45] (z34 F f b g m n (bif d then e else false) _ _ _ hH h)
def Y5 (F : Nat) (b : (List UInt8) → Int → Option Bool) (e : List UInt8) (f g : Int) (d : Bool) : Option Bool :=
 bif d then
  none
 else
  X0 F b e f g false
theorem z5y (F : Nat) (f : (List UInt8) → Int → Option Bool) (d : ∀ (g : List UInt8) (m : Int) (Fr : Rd) (M : Mem) (r : Bool) (hH : Has Fr M []), f g m = some r → Run Tryz.prog ⟨⟨106, [], none⟩, []⟩ 50 (z01 r) [(0, (.str g)), (3, (.int .i64 m))] [T6 Tryz.prog 106 [1, 1, 0, 1, 0, 0], Tv Tryz.prog 106 [1, 1, 0, 1, 0, 0], .inBlock 0, T6 Tryz.prog 106 [1, 1, 1]] M) : ∀ (g : List UInt8) (m n : Int) (e : Bool) (Fr : Rd) (M : Mem) (r : Bool) (hH : Has Fr M []), Y5 F f g m n e = some r → Run Tryz.prog ⟨⟨106, [], none⟩, []⟩ 50 (z01 r) [(0, (.str g)), (3, (.int .i64 m)), (4, (.int .u8 n)), (38, (.bool e)), (44, (.tuple []))] [Tu Tryz.prog 106 [1, 1, 0, 1, 0, 0, 1, 0, 0, 1, 0] 13, T6 Tryz.prog 106 [1, 1, 0, 1, 0, 0, 1, 0, 0, 1, 1], .inBlock 1, T6 Tryz.prog 106 [1, 1, 0, 1, 0, 0, 1, 1], Tv Tryz.prog 106 [1, 1, 0, 1, 0, 0], .inBlock 0, T6 Tryz.prog 106 [1, 1, 1]] M := by
 intro g m n e Fr M r hH h
 rw [Y5] at h
 rcases btf (e) with b | b
 ·have h := Tm b h
  cases h
 ·have h := Tn b h
  refine og (Tt rfl b rfl rfl) rfl ?_
  exact Run.pick [0, 3, 4, 45] (z34 F f d g m n false _ _ _ hH h)
def G3 (F : Nat) (d : (List UInt8) → Int → Option Bool) (f : List UInt8) (g e : Int) (b : Bool) : Option Bool :=
 bif b then
  bif (decide (e < (48 : Int))) then
   Gt F d f g e b true
  else
   Gt F d f g e b (decide ((57 : Int) < e))
 else
  Y5 F d f g e b
theorem z32 (F : Nat) (f : (List UInt8) → Int → Option Bool) (d : ∀ (g : List UInt8) (m : Int) (Fr : Rd) (M : Mem) (r : Bool) (hH : Has Fr M []), f g m = some r → Run Tryz.prog ⟨⟨106, [], none⟩, []⟩ 50 (z01 r) [(0, (.str g)), (3, (.int .i64 m))] [T6 Tryz.prog 106 [1, 1, 0, 1, 0, 0], Tv Tryz.prog 106 [1, 1, 0, 1, 0, 0], .inBlock 0, T6 Tryz.prog 106 [1, 1, 1]] M) : ∀ (g : List UInt8) (m n : Int) (e : Bool) (Fr : Rd) (M : Mem) (r : Bool) (hH : Has Fr M []), G3 F f g m n e = some r → Run Tryz.prog ⟨⟨106, [], none⟩, []⟩ 50 (z01 r) [(0, (.str g)), (3, (.int .i64 m)), (4, (.int .u8 n)), (37, (.bool e))] [Tu Tryz.prog 106 [1, 1, 0, 1, 0, 0, 1, 0, 0, 1, 0] 6, T6 Tryz.prog 106 [1, 1, 0, 1, 0, 0, 1, 0, 0, 1, 1], .inBlock 1, T6 Tryz.prog 106 [1, 1, 0, 1, 0, 0, 1, 1], Tv Tryz.prog 106 [1, 1, 0, 1, 0, 0], .inBlock 0, T6 Tryz.prog 106 [1, 1, 1]] M := by
 intro g m n e Fr M r hH h
 rw [G3] at h
 refine mv rfl rfl ?_
 rcases btf (e) with b | b
 ·have h := Tm b h
  refine gy rfl rfl b (Tk rfl) rfl <| gy rfl rfl b (Qz rfl rfl) rfl <| gy rfl rfl b (Tk rfl) rfl ?_
  rcases btf ((decide (n < (48 : Int)))) with hc30 | hc30
  ·have h := Tm hc30 h
   refine gn rfl rfl hc30 rfl <| gn rfl rfl hc30 rfl <| gy rfl rfl b (Tr rfl hc30 rfl rfl) rfl ?_
   exact Run.pick [0, 3, 4, 38, 44] (z33 F f d g m n e true _ _ _ hH h)
  ·have h := Tn hc30 h
   refine gy rfl rfl hc30 (Tk rfl) rfl <| gy rfl rfl hc30 (Xw rfl rfl) rfl <| gy rfl rfl b (Tt rfl hc30 rfl rfl) rfl ?_
   exact Run.pick [0, 3, 4, 38, 44] (z33 F f d g m n e (decide ((57 : Int) < n)) _ _ _ hH h)
 ·have h := Tn b h
  refine gn rfl rfl b rfl <| gn rfl rfl b rfl <| gn rfl rfl b rfl <| Run.no (Ti rfl rfl) rfl <| Run.no (Ti rfl rfl) rfl <| gn rfl rfl b rfl ?_
  exact Run.pick [0, 3, 4, 38, 44] (z5y F f d g m n e _ _ _ hH h)
def J6 (F : Nat) : Nat → List UInt8 → Int → Option Bool
 | 0, _, _ => none
 | N + 1, d, e =>
  bif (decide (e < (d.length : Int))) then
   bnd (sAt d e) fun b =>
   bif (decide (b < (97 : Int))) then
    G3 F (J6 F N) d e b true
   else
    G3 F (J6 F N) d e b (decide ((122 : Int) < b))
  else
   some true
theorem z5x (F : Nat) : ∀ (N : Nat), ∀ (e : List UInt8) (f : Int) (Fr : Rd) (M : Mem) (r : Bool) (hH : Has Fr M []), J6 F N e f = some r → Run Tryz.prog ⟨⟨106, [], none⟩, []⟩ 50 (z01 r) [(0, (.str e)), (3, (.int .i64 f))] [T6 Tryz.prog 106 [1, 1, 0, 1, 0, 0], Tv Tryz.prog 106 [1, 1, 0, 1, 0, 0], .inBlock 0, T6 Tryz.prog 106 [1, 1, 1]] M := by
 intro N
 induction N with
 | zero =>
  intro e f Fr M r hH h
  simp [J6] at h
 | succ N ih =>
  intro e f Fr M r hH h
  rw [J6] at h
  refine Run.seq (Run.seq (Run.region ?_))
  refine mv rfl rfl <| mv rfl rfl <| og (Vk rfl z8m) rfl <| og (Qz rfl rfl) rfl <| Run.Wd ?_
  rcases btf ((decide (f < (e.length : Int)))) with hc25 | hc25
  ·have h := Tm hc25 h
   refine Run.Wf rfl hc25 ?_
   refine Run.skip (Run.seq (Run.block (Run.seq (Run.region ?_))))
   refine mv rfl rfl <| mv rfl rfl ?_
   obtain ⟨d, b, h⟩ := T8 h
   refine og (ex_sAt rfl rfl zd2 b) rfl <| av rfl rfl ?_
   refine Run.Wd (Run.seq (Run.region ?_))
   refine mv rfl rfl <| og (Qz rfl rfl) rfl <| mv rfl rfl ?_
   rcases btf ((decide (d < (97 : Int)))) with hc28 | hc28
   ·have h := Tm hc28 h
    refine gn rfl rfl hc28 rfl <| gn rfl rfl hc28 rfl <| og (Tr rfl hc28 rfl rfl) rfl ?_
    exact Run.pick [0, 3, 4, 37] (z32 F (J6 F N) ih e f d true _ _ _ hH h)
   ·have h := Tn hc28 h
    refine gy rfl rfl hc28 (Tk rfl) rfl <| gy rfl rfl hc28 (Xw rfl rfl) rfl <| og (Tt rfl hc28 rfl rfl) rfl ?_
    exact Run.pick [0, 3, 4, 37] (z32 F (J6 F N) ih e f d (decide ((122 : Int) < d)) _ _ _ hH h)
  ·have h := Tn hc25 h
   refine Run.We rfl hc25 ?_
   refine Run.exit rfl (Run.seq (Run.region ?_))
   refine av rfl rfl <| Run.Wd ?_
   cases h
   exact Run.ret Tryz.func106 rfl (Tc rfl Te) rfl
def Gs (F : Nat) (d : List UInt8) (b : Bool) : Option Bool :=
 bif b then
  some false
 else
  J6 F F d (0 : Int)
theorem z31 (F : Nat) : ∀ (e : List UInt8) (d : Bool) (Fr : Rd) (M : Mem) (r : Bool) (hH : Has Fr M []), Gs F e d = some r → Run Tryz.prog ⟨⟨106, [], none⟩, []⟩ 50 (z01 r) [(0, (.str e)), (22, (.bool d))] [T6 Tryz.prog 106 [1, 0, 1], T6 Tryz.prog 106 [1, 1]] M := by
 intro e d Fr M r hH h
 rw [Gs] at h
 rcases btf (d) with b | b
 ·have h := Tm b h
  refine Run.Wf rfl b ?_
  refine Run.seq (Run.region ?_)
  refine av rfl rfl <| Run.Wd ?_
  cases h
  exact Run.ret Tryz.func106 rfl (Tc rfl Te) rfl
 ·have h := Tn b h
  refine Run.We rfl b ?_
  refine Run.skip (Run.seq (Run.seq (Run.region ?_)))
  refine av rfl rfl ?_
  refine Run.Wd (Run.block (Run.loop ?_))
  exact Run.pick [0, 3] (z5x F F e (0 : Int) _ _ _ hH h)
def Gu (F : Nat) (e : List UInt8) (b : Bool) : Option Bool :=
 bif b then
  Gs F e true
 else
  bnd (sAt e (0 : Int)) fun d =>
  Gs F e (decide ((122 : Int) < d))
theorem z30 (F : Nat) : ∀ (g : List UInt8) (e : Bool) (Fr : Rd) (M : Mem) (r : Bool) (hH : Has Fr M []), Gu F g e = some r → Run Tryz.prog ⟨⟨106, [], none⟩, []⟩ 50 (z01 r) [(0, (.str g)), (17, (.bool e))] [Tu Tryz.prog 106 [1, 0, 0] 13, T6 Tryz.prog 106 [1, 0, 1], T6 Tryz.prog 106 [1, 1]] M := by
 intro g e Fr M r hH h
 rw [Gu] at h
 refine mv rfl rfl ?_
 rcases btf (e) with b | b
 ·have h := Tm b h
  refine gn rfl rfl b rfl <| gn rfl rfl b rfl <| gn rfl rfl b rfl <| og (Tr rfl b rfl rfl) rfl <| Run.Wd ?_
  exact Run.pick [0, 22] (z31 F g true _ _ _ hH h)
 ·have h := Tn b h
  refine gy rfl rfl b (Tk rfl) rfl ?_
  obtain ⟨f, d, h⟩ := T8 h
  refine gy rfl rfl b (ex_sAt rfl rfl zd2 d) rfl <| gy rfl rfl b (Xw rfl rfl) rfl <| og (Tt rfl b rfl rfl) rfl <| Run.Wd ?_
  exact Run.pick [0, 22] (z31 F g (decide ((122 : Int) < f)) _ _ _ hH h)
def Gv (F : Nat) (e : List UInt8) (b : Bool) : Option Bool :=
 bif b then
  Gu F e true
 else
  bnd (sAt e (0 : Int)) fun d =>
  Gu F e (decide (d < (97 : Int)))
theorem z2z (F : Nat) : ∀ (g : List UInt8) (e : Bool) (Fr : Rd) (M : Mem) (r : Bool) (hH : Has Fr M []), Gv F g e = some r → Run Tryz.prog ⟨⟨106, [], none⟩, []⟩ 50 (z01 r) [(0, (.str g)), (12, (.bool e))] [Tu Tryz.prog 106 [1, 0, 0] 8, T6 Tryz.prog 106 [1, 0, 1], T6 Tryz.prog 106 [1, 1]] M := by
 intro g e Fr M r hH h
 rw [Gv] at h
 refine mv rfl rfl ?_
 rcases btf (e) with b | b
 ·have h := Tm b h
  refine gn rfl rfl b rfl <| gn rfl rfl b rfl <| gn rfl rfl b rfl <| og (Tr rfl b rfl rfl) rfl ?_
  exact Run.pick [0, 17] (z30 F g true _ _ _ hH h)
 ·have h := Tn b h
  refine gy rfl rfl b (Tk rfl) rfl ?_
  obtain ⟨f, d, h⟩ := T8 h
  refine gy rfl rfl b (ex_sAt rfl rfl zd2 d) rfl <| gy rfl rfl b (Qz rfl rfl) rfl <| og (Tt rfl b rfl rfl) rfl ?_
  exact Run.pick [0, 17] (z30 F g (decide (f < (97 : Int))) _ _ _ hH h)
def Xb (F : Nat) (b : List UInt8) : Option Bool :=
 bif (decide ((b.length : Int) < (1 : Int))) then
  Gv F b true
 else
  Gv F b (decide ((16 : Int) < (b.length : Int)))
theorem z48 (F : Nat) (b : List UInt8) (r : Bool) (M : Mem) (h : Xb F b = some r) : CallsM Tryz.prog 106 [(.str b)] M (fun s M' => s = (.bool r) ∧ M' = M) := by
 refine CallsM.plain Tryz.func106 rfl rfl rfl (show Run _ _ _ (z01 r) _ _ _ from ?_)
 rw [Xb] at h
 have hH := Has.nil (frozen M)
 refine Run.seq (Run.region ?_)
 refine av rfl rfl ?_
 refine Run.Wd (Run.seq (Run.seq (Run.region ?_)))
 refine mv rfl rfl <| og (Vk rfl z8m) rfl <| og (Qz rfl rfl) rfl <| mv rfl rfl ?_
 rcases btf ((decide ((b.length : Int) < (1 : Int)))) with hc21 | hc21
 ·have h := Tm hc21 h
  refine gn rfl rfl hc21 rfl <| gn rfl rfl hc21 rfl <| gn rfl rfl hc21 rfl <| og (Tr rfl hc21 rfl rfl) rfl ?_
  exact Run.pick [0, 12] (z2z F b true _ _ _ hH h)
 ·have h := Tn hc21 h
  refine gy rfl rfl hc21 (Tk rfl) rfl <| gy rfl rfl hc21 (Vk rfl z8m) rfl <| gy rfl rfl hc21 (Xw rfl rfl) rfl <| og (Tt rfl hc21 rfl rfl) rfl ?_
  exact Run.pick [0, 12] (z2z F b (decide ((16 : Int) < (b.length : Int))) _ _ _ hH h)
theorem z9g : J8 Tryz.prog 106 = none := by kernel_rfl
theorem z9b : Ts Tryz.prog 106 = true := by kernel_rfl
theorem z1p : Gy Tryz.prog (Vu (atC Tryz.prog 81 [1, 1, 0, 1, 0, 0, 1, 0, 0, 1, 0, 0])) = some [.fl 0, .fl 1, .fl 2, .fl 3, .fl 4, .fl 5, .fl 6, .fl 7, .fl 8, .fl 9, .fl 10, .an 11 [], .fl 12, .fl 13, .fl 14, .fl 15, .fl 16, .an 17 [], .fl 18, .fl 19, .fl 20, .fl 21, .fl 22, .fl 23, .fl 24, .fl 25, .fl 26, .fl 27, .fl 28, .fl 29, .fl 30, .fl 31, .fl 32, .fl 33, .fl 34, .sync] := by kernel_rfl
abbrev z0p (r : Bool) : SV → Mem → Prop := fun s _ => s = (.bool r)
def J5 (F : Nat) (d : (List T1) → Int → Int → Int → Option Bool) (f : List T1) (g m : Int) (e : Bool) (b : T1) : Option Bool :=
 bif e then
  some false
 else
  d f g b.To (w64 (m + 1))
theorem z0o (F : Nat) (p : (List T1) → Int → Int → Int → Option Bool) (d : ∀ (q : List T1) (s w u : Int) (e : SV) (Fr : Rd) (M : Mem) (r : Bool) (n : Slc Fr 3 (Ta Q9) e q) (hH : Has Fr M []), p q s w u = some r → Run Tryz.prog ⟨⟨81, [], none⟩, []⟩ 63 (z0p r) [(0, e), (1, (.int .i64 s)), (5, (.int .i64 w)), (6, (.int .i64 u))] [T6 Tryz.prog 81 [1, 1, 0, 1, 0, 0], Tv Tryz.prog 81 [1, 1, 0, 1, 0, 0], .inBlock 0, T6 Tryz.prog 81 [1, 1, 1]] M) : ∀ (q : List T1) (s u : Int) (g : Bool) (f : T1) (e : SV) (m : Pos) (Fr : Rd) (M : Mem) (r : Bool) (n : Slc Fr 3 (Ta Q9) e q) (hH : Has Fr M [.obj m (.row 43 .whole [(.str f.Who), (.int .i64 f.From), (.int .i64 f.To)])]), J5 F p q s u g f = some r → Run Tryz.prog ⟨⟨81, [], none⟩, []⟩ 63 (z0p r) [(0, e), (1, (.int .i64 s)), (6, (.int .i64 u)), (7, (.ptr m 0)), (52, (.bool g))] [T6 Tryz.prog 81 [1, 1, 0, 1, 0, 0, 1, 0, 0, 1, 0, 1], T6 Tryz.prog 81 [1, 1, 0, 1, 0, 0, 1, 0, 0, 1, 1], .inBlock 1, T6 Tryz.prog 81 [1, 1, 0, 1, 0, 0, 1, 1], Tv Tryz.prog 81 [1, 1, 0, 1, 0, 0], .inBlock 0, T6 Tryz.prog 81 [1, 1, 1]] M := by
 intro q s u g f e m Fr M r n hH h
 rw [J5] at h
 rcases btf (g) with b | b
 ·have h := Tm b h
  refine Run.Wf rfl b ?_
  refine Run.seq (Run.region ?_)
  refine av rfl rfl <| Run.Wd ?_
  cases h
  exact Run.ret Tryz.func81 rfl (Tc rfl Te) rfl
 ·have h := Tn b h
  refine Run.We rfl b ?_
  refine Run.skip (Run.region ?_)
  refine og (T4 rfl z47) rfl <| og (Tb rfl (hH.cells (i := 0) rfl 2 rfl) T5 z10) rfl <| av rfl rfl ?_
  refine Run.Wd (Run.inBlock (Run.region ?_))
  refine mv rfl rfl <| og (Qq rfl rfl) rfl <| av rfl rfl ?_
  refine Run.Wd (Run.inLoop ?_)
  exact Run.pick [0, 1, 5, 6] (d q s f.To (w64 (u + 1)) e _ _ _ n (hH.pick [] rfl rfl) h)
def Gg (F : Nat) (b : Bool) : Option Bool :=
 some b
theorem z38 (F : Nat) : ∀ (b : Bool) (Fr : Rd) (M : Mem) (r : Bool) (hH : Has Fr M []), Gg F b = some r → Run Tryz.prog ⟨⟨81, [], none⟩, []⟩ 63 (z0p r) [(62, (.bool b))] [Tu Tryz.prog 81 [1, 1, 1, 0] 8, T6 Tryz.prog 81 [1, 1, 1, 1]] M := by
 intro b Fr M r hH h
 rw [Gg] at h
 refine av rfl rfl <| Run.Wd ?_
 cases h
 exact Run.ret Tryz.func81 rfl (Tc rfl Te) rfl
def Ty (F : Nat) : Nat → List T1 → Int → Int → Int → Option Bool
 | 0, _, _, _, _ => none
 | N + 1, g, n, p, m =>
  bif (decide (m < (g.length : Int))) then
   bnd (idx g m) fun b =>
   bif (!(b.From == p)) then
    J5 F (Ty F N) g n m true b
   else
    bnd (X2 F b.To (w64 (p + 1)) (w64 (p + 128))) fun d =>
    bif (!d) then
     J5 F (Ty F N) g n m true b
    else
     bnd (Xb F b.Who) fun e =>
     bif (!e) then
      J5 F (Ty F N) g n m true b
     else
      bif (decide ((0 : Int) < m)) then
       bnd (idx g (w64 (m - 1))) fun f =>
       J5 F (Ty F N) g n m (f.Who == b.Who) b
      else
       J5 F (Ty F N) g n m false b
  else
   bif (p == n) then
    Gg F (decide ((g.length : Int) ≤ (64 : Int)))
   else
    Gg F false
theorem z5z (F : Nat) : ∀ (N : Nat), ∀ (v0 : List T1) (v1 v5 v6 : Int) (a2 : SV) (Fr : Rd) (M : Mem) (r : Bool) (a1 : Slc Fr 3 (Ta Q9) a2 v0) (hH : Has Fr M []), Ty F N v0 v1 v5 v6 = some r → Run Tryz.prog ⟨⟨81, [], none⟩, []⟩ 63 (z0p r) [(0, a2), (1, (.int .i64 v1)), (5, (.int .i64 v5)), (6, (.int .i64 v6))] [T6 Tryz.prog 81 [1, 1, 0, 1, 0, 0], Tv Tryz.prog 81 [1, 1, 0, 1, 0, 0], .inBlock 0, T6 Tryz.prog 81 [1, 1, 1]] M := by
 intro N
 induction N with
 | zero =>
  intro v0 v1 v5 v6 a2 Fr M r a1 hH h
  simp [Ty] at h
 | succ N ih =>
  intro v0 v1 v5 v6 a2 Fr M r a1 hH h
  rw [Ty] at h
  refine Run.seq (Run.seq (Run.region ?_))
  refine mv rfl rfl <| mv rfl rfl <| og (Q3 rfl a1 z7i) rfl <| og (Qz rfl rfl) rfl <| Run.Wd ?_
  rcases btf ((decide (v6 < (v0.length : Int)))) with hc21 | hc21
  ·have h := Tm hc21 h
   refine Run.Wf rfl hc21 ?_
   refine Run.skip (Run.seq (Run.block (Run.seq (Run.region ?_))))
   refine mv rfl rfl <| mv rfl rfl ?_
   obtain ⟨a0, n, h⟩ := T8 h
   obtain ⟨b1, a9, _, n, s, rfl⟩ := Jc (P := Tryz.prog) (t := 32) (kk := .i64) a1 n z7w
   refine og (Q6 rfl rfl n) rfl <| og (Tj rfl (hH.ptrF s) T5 z8g rfl rfl rfl) rfl <| ox rfl (ExG.new (v := fun b => .ptr b 0) (Jz z9p) hH) ?_
   rintro _ a8 ⟨a3, rfl, q⟩
   refine ox rfl (ExG.Wg (c' := [(.str a0.Who), (.int .i64 a0.From), (.int .i64 a0.To)]) rfl rfl rfl q (i := 0) rfl zd1 rfl rfl rfl rfl rfl) ?_
   rintro _ a4 ⟨rfl, (m : Has Fr a4 [.obj a3 (.row 43 .whole [(.str a0.Who), (.int .i64 a0.From), (.int .i64 a0.To)])])⟩
   refine Run.Wd (Run.seq (Run.seq ?_))
   refine Run.drawG z1p <| df rfl (T4 rfl z6s) rfl <| df rfl (Tb rfl (m.cells (i := 0) rfl 1 rfl) T5 z10) rfl <| df rfl (Tk rfl) rfl <| df rfl (Gd rfl rfl) rfl <| df rfl (Tk rfl) rfl ?_
   rcases btf ((!(a0.From == v5))) with d | d
   ·have h := Tm d h
    refine dn rfl rfl rfl d rfl <| dn rfl rfl rfl d rfl <| dn rfl rfl rfl d rfl <| dn rfl rfl rfl d rfl <| dn rfl rfl rfl d rfl <| dn rfl rfl rfl d rfl <| DrawG.no rfl (Z7 rfl rfl d) rfl Gx <| dn rfl rfl rfl d rfl <| df rfl (Tr rfl d rfl rfl) rfl <| df rfl (Tk rfl) rfl <| dn rfl rfl rfl rfl rfl <| dn rfl rfl rfl rfl rfl <| DrawG.no rfl (Z7 rfl rfl rfl) rfl Gx <| dn rfl rfl rfl rfl rfl <| df rfl (Tr rfl rfl rfl rfl) rfl <| df rfl (Tk rfl) rfl <| dn rfl rfl rfl rfl rfl <| dn rfl rfl rfl rfl rfl <| dn rfl rfl rfl rfl rfl <| DrawG.fl rfl (Jq (Ti rfl rfl)) rfl <| DrawG.fl rfl (Jq (Ti rfl rfl)) rfl <| DrawG.fl rfl (Jq (Ti rfl rfl)) rfl <| DrawG.fl rfl (Jq (Ti rfl rfl)) rfl <| DrawG.fl rfl (Jq (Ti rfl rfl)) rfl <| DrawG.fl rfl (Jq (Ti rfl rfl)) rfl <| DrawG.fl rfl (Jq (Ti rfl rfl)) rfl <| DrawG.fl rfl (Jq (Ti rfl rfl)) rfl <| DrawG.fl rfl (Jq (Ti rfl rfl)) rfl <| dn rfl rfl rfl rfl rfl ?_
    refine df rfl (Tr rfl rfl rfl rfl) rfl <| DrawG.sync <| DrawG.nil ?_
    exact Run.pick [0, 1, 6, 7, 52] (z0o F (Ty F N) ih v0 v1 v6 true a0 a2 a3 _ _ _ a1 m h)
   ·have h := Tn d h
    refine dy rfl rfl rfl d (T4 rfl z47) rfl <| dy rfl rfl rfl d (Tb rfl (m.cells (i := 0) rfl 2 rfl) T5 z10) rfl <| dy rfl rfl rfl d (Tk rfl) rfl <| dy rfl rfl rfl d (Qq rfl rfl) rfl <| dy rfl rfl rfl d (Tk rfl) rfl <| dy rfl rfl rfl d (Qq rfl rfl) rfl ?_
    obtain ⟨a5, x, h⟩ := T8 h
    refine DrawG.callP rfl (Kp rfl rfl d) (Tl rfl z7z z7v) rfl (z0x F a0.To (w64 (v5 + 1)) (w64 (v5 + 128)) _ _ x) Gx <| dy rfl rfl rfl d (Jh rfl) rfl <| df rfl (Tt rfl d rfl rfl) rfl <| df rfl (Tk rfl) rfl ?_
    rcases btf ((!a5)) with f | f
    ·have h := Tm f h
     refine dn rfl rfl rfl f rfl <| dn rfl rfl rfl f rfl <| DrawG.no rfl (Z7 rfl rfl f) rfl Gx <| dn rfl rfl rfl f rfl <| df rfl (Tr rfl f rfl rfl) rfl <| df rfl (Tk rfl) rfl <| dn rfl rfl rfl rfl rfl <| dn rfl rfl rfl rfl rfl <| dn rfl rfl rfl rfl rfl <| DrawG.fl rfl (Jq (Ti rfl rfl)) rfl <| DrawG.fl rfl (Jq (Ti rfl rfl)) rfl <| DrawG.fl rfl (Jq (Ti rfl rfl)) rfl <| DrawG.fl rfl (Jq (Ti rfl rfl)) rfl <| DrawG.fl rfl (Jq (Ti rfl rfl)) rfl <| DrawG.fl rfl (Jq (Ti rfl rfl)) rfl <| DrawG.fl rfl (Jq (Ti rfl rfl)) rfl <| DrawG.fl rfl (Jq (Ti rfl rfl)) rfl <| DrawG.fl rfl (Jq (Ti rfl rfl)) rfl <| dn rfl rfl rfl rfl rfl <| df rfl (Tr rfl rfl rfl rfl) rfl <| DrawG.sync <| DrawG.nil ?_
     exact Run.pick [0, 1, 6, 7, 52] (z0o F (Ty F N) ih v0 v1 v6 true a0 a2 a3 _ _ _ a1 m h)
    ·have h := Tn f h
     refine dy rfl rfl rfl f (T4 rfl z44) rfl <| dy rfl rfl rfl f (Tb rfl (m.cells (i := 0) rfl 0 rfl) T5 z87) rfl ?_
     obtain ⟨a6, y, h⟩ := T8 h
     refine DrawG.callP rfl (Kp rfl rfl f) (Tl rfl z9g z9b) rfl (z48 F a0.Who _ _ y) Gx <| dy rfl rfl rfl f (Jh rfl) rfl <| df rfl (Tt rfl f rfl rfl) rfl <| df rfl (Tk rfl) rfl ?_
     rcases btf ((!a6)) with e | e
     ·have h := Tm e h
      refine dn rfl rfl rfl e rfl <| dn rfl rfl rfl e rfl <| dn rfl rfl rfl e rfl <| DrawG.fl rfl (Jq (Ti rfl rfl)) rfl <| DrawG.fl rfl (Jq (Ti rfl rfl)) rfl <| DrawG.fl rfl (Jq (Ti rfl rfl)) rfl <| DrawG.fl rfl (Jq (Ti rfl rfl)) rfl <| DrawG.fl rfl (Jq (Ti rfl rfl)) rfl <| DrawG.fl rfl (Jq (Ti rfl rfl)) rfl <| DrawG.fl rfl (Jq (Ti rfl rfl)) rfl <| DrawG.fl rfl (Jq (Ti rfl rfl)) rfl <| DrawG.fl rfl (Jq (Ti rfl rfl)) rfl <| dn rfl rfl rfl e rfl <| df rfl (Tr rfl e rfl rfl) rfl <| DrawG.sync <| DrawG.nil ?_
      exact Run.pick [0, 1, 6, 7, 52] (z0o F (Ty F N) ih v0 v1 v6 true a0 a2 a3 _ _ _ a1 m h)
     ·have h := Tn e h
      refine dy rfl rfl rfl e (Tk rfl) rfl <| dy rfl rfl rfl e (Xw rfl rfl) rfl <| dy rfl rfl rfl e (Tk rfl) rfl ?_
      rcases btf ((decide ((0 : Int) < v6))) with hc36 | hc36
      ·have h := Tm hc36 h
       refine dy rfl rfl rfl hc36 (Tk rfl) rfl <| dy rfl rfl rfl hc36 (Tk rfl) rfl <| dy rfl rfl rfl hc36 (Vb rfl rfl) rfl ?_
       obtain ⟨a7, p, h⟩ := T8 h
       obtain ⟨b2, b0, _, p, u, rfl⟩ := Jc (P := Tryz.prog) (t := 32) (kk := .i64) a1 p z7w
       refine dy rfl rfl rfl hc36 (Q6 rfl rfl p) rfl ?_
       have w := (u.fld (o := 0) rfl)
       refine dy rfl rfl rfl hc36 (T4 rfl z44) rfl <| dy rfl rfl rfl hc36 (Tb rfl (m.ptrF w) T5 z87) rfl <| dy rfl rfl rfl hc36 (T4 rfl z44) rfl <| dy rfl rfl rfl hc36 (Tb rfl (m.cells (i := 0) rfl 0 rfl) T5 z87) rfl <| dy rfl rfl rfl hc36 (ex_eqlS rfl rfl) rfl <| dy rfl rfl rfl e (Tr rfl hc36 rfl rfl) rfl <| df rfl (Tt rfl e rfl rfl) rfl <| DrawG.sync <| DrawG.nil ?_
       exact Run.pick [0, 1, 6, 7, 52] (z0o F (Ty F N) ih v0 v1 v6 (a7.Who == a0.Who) a0 a2 a3 _ _ _ a1 m h)
      ·have h := Tn hc36 h
       refine dn rfl rfl rfl hc36 rfl <| dn rfl rfl rfl hc36 rfl <| dn rfl rfl rfl hc36 rfl <| dn rfl rfl rfl hc36 rfl <| dn rfl rfl rfl hc36 rfl <| dn rfl rfl rfl hc36 rfl <| dn rfl rfl rfl hc36 rfl <| dn rfl rfl rfl hc36 rfl <| dn rfl rfl rfl hc36 rfl <| dy rfl rfl rfl e (Tt rfl hc36 rfl rfl) rfl <| df rfl (Tt rfl e rfl rfl) rfl <| DrawG.sync <| DrawG.nil ?_
       exact Run.pick [0, 1, 6, 7, 52] (z0o F (Ty F N) ih v0 v1 v6 false a0 a2 a3 _ _ _ a1 m h)
  ·have h := Tn hc21 h
   refine Run.We rfl hc21 ?_
   refine Run.exit rfl (Run.seq (Run.region ?_))
   refine mv rfl rfl <| mv rfl rfl <| og (ex_eql rfl rfl) rfl <| mv rfl rfl ?_
   rcases btf ((v5 == v1)) with g | g
   ·have h := Tm g h
    refine gy rfl rfl g (Tk rfl) rfl <| gy rfl rfl g (Q3 rfl a1 z7i) rfl <| gy rfl rfl g (Xy rfl rfl) rfl <| og (Tr rfl g rfl rfl) rfl ?_
    exact Run.pick [62] (z38 F (decide ((v0.length : Int) ≤ (64 : Int))) _ _ _ hH h)
   ·have h := Tn g h
    refine gn rfl rfl g rfl <| gn rfl rfl g rfl <| gn rfl rfl g rfl <| og (Tt rfl g rfl rfl) rfl ?_
    exact Run.pick [62] (z38 F false _ _ _ hH h)
def Z1 (F : Nat) (b : List T1) (d : Int) : Option Bool :=
 Ty F F b d (0 : Int) (0 : Int)
theorem z6v (F : Nat) (d : List T1) (e : Int) (f : SV) (r : Bool) (M : Mem) (b : Slc (rd M) 3 (Ta Q9) f d) (h : Z1 F d e = some r) : CallsM Tryz.prog 81 [f, (.int .i64 e)] M (fun s M' => s = (.bool r) ∧ M' = M) := by
 refine CallsM.plain Tryz.func81 rfl rfl rfl (show Run _ _ _ (z0p r) _ _ _ from ?_)
 rw [Z1] at h
 replace b := b.mono (T3 M) (fun _ _ h => h)
 have hH := Has.nil (frozen M)
 refine Run.seq (Run.region ?_)
 refine av rfl rfl ?_
 refine Run.Wd (Run.seq (Run.region ?_))
 refine av rfl rfl ?_
 refine Run.Wd (Run.seq (Run.seq (Run.region ?_)))
 refine av rfl rfl ?_
 refine Run.Wd (Run.block (Run.loop ?_))
 exact Run.pick [0, 1, 5, 6] (z5z F F d e (0 : Int) (0 : Int) f _ _ _ b hH h)
theorem zcu : J8 Tryz.prog 81 = none := by kernel_rfl
theorem zbu : Ts Tryz.prog 81 = true := by kernel_rfl
abbrev z4g (r : Int) : SV → Mem → Prop := fun s _ => s = (.int .i64 r)
def Gm (F : Nat) : Nat → List T1 → Int → Int → Option Int
 | 0, _, _, _ => none
 | N + 1, e, f, d =>
  bnd (idx e d) fun b =>
  bif (decide (b.To ≤ f)) then
   (Gm F N) e f (w64 (d + 1))
  else
   some d
theorem z6w (F : Nat) : ∀ (N : Nat), ∀ (u : List T1) (s w : Int) (g : SV) (Fr : Rd) (M : Mem) (r : Int) (m : Slc Fr 3 (Ta Q9) g u) (hH : Has Fr M []), Gm F N u s w = some r → Run Tryz.prog ⟨⟨49, [], none⟩, []⟩ 16 (z4g r) [(0, g), (1, (.int .i64 s)), (5, (.int .i64 w))] [T6 Tryz.prog 49 [1, 1, 0, 0, 0], Tv Tryz.prog 49 [1, 1, 0, 0, 0], .inBlock 0, T6 Tryz.prog 49 [1, 1, 1]] M := by
 intro N
 induction N with
 | zero =>
  intro u s w g Fr M r m hH h
  simp [Gm] at h
 | succ N ih =>
  intro u s w g Fr M r m hH h
  rw [Gm] at h
  refine Run.seq (Run.seq (Run.region ?_))
  refine mv rfl rfl <| mv rfl rfl ?_
  obtain ⟨n, d, h⟩ := T8 h
  obtain ⟨q, p, _, d, e, rfl⟩ := Jc (P := Tryz.prog) (t := 32) (kk := .i64) m d z7w
  refine og (Q6 rfl rfl d) rfl ?_
  have f := (e.fld (o := 2) rfl)
  refine og (T4 rfl z47) rfl <| og (Tb rfl (hH.ptrF f) T5 z10) rfl <| mv rfl rfl <| og (Xy rfl rfl) rfl <| Run.Wd ?_
  rcases btf ((decide (n.To ≤ s))) with b | b
  ·have h := Tm b h
   refine Run.Wf rfl b ?_
   refine Run.skip (Run.block (Run.region ?_))
   refine mv rfl rfl <| og (Qq rfl rfl) rfl <| av rfl rfl ?_
   refine Run.Wd (Run.inBlock (Run.inLoop ?_))
   exact Run.pick [0, 1, 5] (ih u s (w64 (w + 1)) g _ _ _ m hH h)
  ·have h := Tn b h
   refine Run.We rfl b ?_
   refine Run.exit rfl (Run.seq (Run.region ?_))
   refine mv rfl rfl <| av rfl rfl <| Run.Wd ?_
   cases h
   exact Run.ret Tryz.func49 rfl (Tc rfl Te) rfl
def Yo (F : Nat) (b : List T1) (d : Int) : Option Int :=
 Gm F F b d (0 : Int)
theorem z3e (F : Nat) (d : List T1) (e : Int) (f : SV) (r : Int) (M : Mem) (b : Slc (rd M) 3 (Ta Q9) f d) (h : Yo F d e = some r) : CallsM Tryz.prog 49 [f, (.int .i64 e)] M (fun s M' => s = (.int .i64 r) ∧ M' = M) := by
 refine CallsM.plain Tryz.func49 rfl rfl rfl (show Run _ _ _ (z4g r) _ _ _ from ?_)
 rw [Yo] at h
 replace b := b.mono (T3 M) (fun _ _ h => h)
 have hH := Has.nil (frozen M)
 refine Run.seq (Run.region ?_)
 refine av rfl rfl ?_
 refine Run.Wd (Run.seq (Run.region ?_))
 refine av rfl rfl ?_
 refine Run.Wd (Run.seq (Run.block (Run.loop ?_)))
 exact Run.pick [0, 1, 5] (z6w F F d e (0 : Int) f _ _ _ b hH h)
theorem z9n : J8 Tryz.prog 49 = none := by kernel_rfl
theorem z9k : Ts Tryz.prog 49 = true := by kernel_rfl
theorem z20 : Gy Tryz.prog (Vu (atC Tryz.prog 82 [1, 0, 1, 0, 0, 1, 0, 0, 1, 1, 0])) = some [.fl 0, .fl 1, .fl 2, .fl 3, .fl 5, .fl 6, .fl 7, .fl 8, .fl 9, .an 4 [9, 8, 7, 6, 5], .an 10 [], .fl 11, .sync] := by kernel_rfl
theorem z1z : Gy Tryz.prog (Vu (atC Tryz.prog 82 [1, 0, 1, 0, 0, 1, 0, 0, 1, 0, 0])) = some [.fl 0, .fl 1, .fl 2, .fl 3, .fl 4, .fl 5, .fl 6, .fl 7, .fl 8, .fl 9, .fl 10, .fl 11, .fl 12, .fl 13, .fl 14, .fl 15, .fl 16, .fl 17, .fl 18, .fl 19, .fl 20, .fl 21, .fl 22, .fl 23, .fl 24, .fl 25, .fl 26, .fl 27, .fl 28, .fl 29, .fl 30, .fl 31, .fl 32, .fl 33, .fl 34, .sync] := by kernel_rfl
abbrev z1d (r : Bool) : SV → Mem → Prop := fun s _ => s = (.bool r)
def Kg (F : Nat) (p : Int → List T1 → List T0 → List T2 → List T2 → List Int → List Int → Option Bool) (w : Int) (u : Bool) (b : List T1) (d : List T0) (e f : List T2) (g m : List Int) (n : T0) : Option Bool :=
 bif u then
  some false
 else
  bnd (Yo F b n.From) fun q =>
  bnd (Yo F b (w64 (n.To - 1))) fun s =>
  bif (!(q == s)) then
   some false
  else
   p (w64 (w + 1)) b d e f g m
theorem z0y (F : Nat) (b3 : Int → List T1 → List T0 → List T2 → List T2 → List Int → List Int → Option Bool) (a6 : ∀ (v3 : Int) (d : List T1) (q : List T0) (s u : List T2) (w x : List Int) (b e f g m n : SV) (a9 : Pos) (Fr : Rd) (M : Mem) (r : Bool) (p : Slc Fr 3 (Ta Q9) b d) (y : Slc Fr 2 (Ta Tg) e q) (a0 : Slc Fr 2 (Tf Fr) f s) (a1 : Slc Fr 2 (Tf Fr) g u) (a2 : Slc Fr 1 (Ta Qd) m w) (a3 : Slc Fr 1 (Ta Qd) n x) (hH : Has Fr M [.obj a9 (.row 38 .whole [b, e, f, g, m, n])]), b3 v3 d q s u w x = some r → Run Tryz.prog ⟨⟨82, [], none⟩, []⟩ 68 (z1d r) [(1, (.ptr a9 0)), (3, (.int .i64 v3))] [T6 Tryz.prog 82 [1, 0, 1, 0, 0], Tv Tryz.prog 82 [1, 0, 1, 0, 0], .inBlock 0, T6 Tryz.prog 82 [1, 1]] M) : ∀ (v3 : Int) (b1 : Bool) (d : List T1) (q : List T0) (s u : List T2) (w x : List Int) (b0 : T0) (b e f g m n : SV) (a9 b2 : Pos) (Fr : Rd) (M : Mem) (r : Bool) (p : Slc Fr 3 (Ta Q9) b d) (y : Slc Fr 2 (Ta Tg) e q) (a0 : Slc Fr 2 (Tf Fr) f s) (a1 : Slc Fr 2 (Tf Fr) g u) (a2 : Slc Fr 1 (Ta Qd) m w) (a3 : Slc Fr 1 (Ta Qd) n x) (hH : Has Fr M [.obj a9 (.row 38 .whole [b, e, f, g, m, n]), .obj b2 (.row 106 .whole [(.int .i64 b0.From), (.int .i64 b0.To)])]), Kg F b3 v3 b1 d q s u w x b0 = some r → Run Tryz.prog ⟨⟨82, [], none⟩, []⟩ 68 (z1d r) [(1, (.ptr a9 0)), (3, (.int .i64 v3)), (4, (.ptr b2 0)), (51, (.bool b1))] [T6 Tryz.prog 82 [1, 0, 1, 0, 0, 1, 0, 0, 1, 0, 1], T6 Tryz.prog 82 [1, 0, 1, 0, 0, 1, 0, 0, 1, 1], .inBlock 1, T6 Tryz.prog 82 [1, 0, 1, 0, 0, 1, 1], Tv Tryz.prog 82 [1, 0, 1, 0, 0], .inBlock 0, T6 Tryz.prog 82 [1, 1]] M := by
 intro v3 b1 d q s u w x b0 b e f g m n a9 b2 Fr M r p y a0 a1 a2 a3 hH h
 rw [Kg] at h
 rcases btf (b1) with a4 | a4
 ·have h := Tm a4 h
  refine Run.Wf rfl a4 ?_
  refine Run.seq (Run.region ?_)
  refine av rfl rfl <| Run.Wd ?_
  cases h
  exact Run.ret Tryz.func82 rfl (Tc rfl Te) rfl
 ·have h := Tn a4 h
  refine Run.We rfl a4 ?_
  refine Run.skip (Run.seq ?_)
  refine Run.drawG z20 <| df rfl (T4 rfl z1r) rfl <| df rfl (Tb rfl (hH.cells (i := 0) rfl 0 rfl) T5 z3q) rfl <| df rfl (T4 rfl z0k) rfl <| df rfl (Tb rfl (hH.cells (i := 1) rfl 0 rfl) T5 z10) rfl <| df rfl (T4 rfl z1r) rfl <| df rfl (Tb rfl (hH.cells (i := 0) rfl 0 rfl) T5 z3q) rfl <| df rfl (T4 rfl z0e) rfl <| df rfl (Tb rfl (hH.cells (i := 1) rfl 1 rfl) T5 z10) rfl <| df rfl (Vb rfl rfl) rfl ?_
  obtain ⟨b4, a7, h⟩ := T8 h
  refine DrawG.callP rfl T7 (Tl rfl z9n z9k) rfl (z3e F d b0.From b _ _ (hH.slcF p) a7) (G4 rfl (Yy T7 (Vb rfl rfl)) rfl rfl rfl (G4 rfl (Yy T7 (Tb rfl (hH.cells (i := 1) rfl 1 rfl) T5 z10)) rfl rfl rfl (G4 rfl (Yy T7 (T4 rfl z0e)) rfl rfl rfl (G4 rfl (Yy T7 (Tb rfl (hH.cells (i := 0) rfl 0 rfl) T5 z3q)) rfl rfl (G2 p) (G4 rfl (Yy T7 (T4 rfl z1r)) rfl rfl rfl Gx))))) ?_
  obtain ⟨b5, a8, h⟩ := T8 h
  refine DrawG.callP rfl T7 (Tl rfl z9n z9k) rfl (z3e F d (w64 (b0.To - 1)) b _ _ (hH.slcF p) a8) Gx <| df rfl (Gd rfl rfl) rfl <| DrawG.sync <| DrawG.nil ?_
  rcases btf ((!(b4 == b5))) with a5 | a5
  ·have h := Tm a5 h
   refine Run.Wf rfl a5 ?_
   refine Run.seq (Run.region ?_)
   refine av rfl rfl <| Run.Wd ?_
   cases h
   exact Run.ret Tryz.func82 rfl (Tc rfl Te) rfl
  ·have h := Tn a5 h
   refine Run.We rfl a5 ?_
   refine Run.skip (Run.inBlock (Run.region ?_))
   refine mv rfl rfl <| og (Qq rfl rfl) rfl <| av rfl rfl ?_
   refine Run.Wd (Run.inLoop ?_)
   exact Run.pick [1, 3] (a6 (w64 (v3 + 1)) d q s u w x b e f g m n a9 _ _ _ p y a0 a1 a2 a3 (hH.pick [0] rfl rfl) h)
def Qk (F : Nat) : Nat → Int → List T1 → List T0 → List T2 → List T2 → List Int → List Int → Option Bool
 | 0, _, _, _, _, _, _, _ => none
 | N + 1, q, e, b, f, g, d, m =>
  bif (decide (q < (b.length : Int))) then
   bnd (idx b q) fun n =>
   bif (decide (n.From < (0 : Int))) then
    Kg F (Qk F N) q true e b f g d m n
   else
    bif (decide (n.To ≤ n.From)) then
     Kg F (Qk F N) q true e b f g d m n
    else
     bif (decide ((d.length : Int) < n.To)) then
      Kg F (Qk F N) q true e b f g d m n
     else
      bif (decide ((0 : Int) < q)) then
       bnd (idx b (w64 (q - 1))) fun p =>
       Kg F (Qk F N) q (decide (n.From < p.To)) e b f g d m n
      else
       Kg F (Qk F N) q false e b f g d m n
  else
   some (decide ((b.length : Int) ≤ (16 : Int)))
theorem z6x (F : Nat) : ∀ (N : Nat), ∀ (v3 : Int) (y : List T1) (u : List T0) (a0 a1 : List T2) (w a2 : List Int) (f g m n p q : SV) (b4 : Pos) (Fr : Rd) (M : Mem) (r : Bool) (a3 : Slc Fr 3 (Ta Q9) f y) (e : Slc Fr 2 (Ta Tg) g u) (a4 : Slc Fr 2 (Tf Fr) m a0) (a5 : Slc Fr 2 (Tf Fr) n a1) (x : Slc Fr 1 (Ta Qd) p w) (a6 : Slc Fr 1 (Ta Qd) q a2) (hH : Has Fr M [.obj b4 (.row 38 .whole [f, g, m, n, p, q])]), Qk F N v3 y u a0 a1 w a2 = some r → Run Tryz.prog ⟨⟨82, [], none⟩, []⟩ 68 (z1d r) [(1, (.ptr b4 0)), (3, (.int .i64 v3))] [T6 Tryz.prog 82 [1, 0, 1, 0, 0], Tv Tryz.prog 82 [1, 0, 1, 0, 0], .inBlock 0, T6 Tryz.prog 82 [1, 1]] M := by
 intro N
 induction N with
 | zero =>
  intro v3 y u a0 a1 w a2 f g m n p q b4 Fr M r a3 e a4 a5 x a6 hH h
  simp [Qk] at h
 | succ N ih =>
  intro v3 y u a0 a1 w a2 f g m n p q b4 Fr M r a3 e a4 a5 x a6 hH h
  rw [Qk] at h
  refine Run.seq (Run.seq (Run.region ?_))
  refine mv rfl rfl <| og (T4 rfl z2a) rfl <| og (Tb rfl (hH.cells (i := 0) rfl 1 rfl) T5 z2w) rfl <| og (Q3 rfl e z2m) rfl <| og (Qz rfl rfl) rfl <| Run.Wd ?_
  rcases btf ((decide (v3 < (u.length : Int)))) with hc24 | hc24
  ·have h := Tm hc24 h
   refine Run.Wf rfl hc24 ?_
   refine Run.skip (Run.seq (Run.block (Run.seq (Run.region ?_))))
   refine og (T4 rfl z2a) rfl <| og (Tb rfl (hH.cells (i := 0) rfl 1 rfl) T5 z2w) rfl <| mv rfl rfl ?_
   obtain ⟨b3, a7, h⟩ := T8 h
   obtain ⟨c1, b9, _, a7, b0, rfl⟩ := Jc (P := Tryz.prog) (t := 33) (kk := .i64) e a7 z5a
   refine og (Q6 rfl rfl a7) rfl <| og (Tj rfl (hH.ptrF b0) T5 z2v rfl rfl rfl) rfl <| ox rfl (ExG.new (v := fun b => .ptr b 0) (Jz z5t) hH) ?_
   rintro _ b8 ⟨b5, rfl, a9⟩
   refine ox rfl (ExG.Wg (c' := [(.int .i64 b3.From), (.int .i64 b3.To)]) rfl rfl rfl a9 (i := 0) rfl z7s rfl rfl rfl rfl rfl) ?_
   rintro _ b6 ⟨rfl, (s : Has Fr b6 [.obj b5 (.row 106 .whole [(.int .i64 b3.From), (.int .i64 b3.To)]), .obj b4 (.row 38 .whole [f, g, m, n, p, q])])⟩
   refine Run.Wd (Run.seq (Run.seq ?_))
   refine Run.drawG z1z <| df rfl (T4 rfl z0k) rfl <| df rfl (Tb rfl (s.cells (i := 0) rfl 0 rfl) T5 z10) rfl <| df rfl (Qz rfl rfl) rfl <| df rfl (Tk rfl) rfl ?_
   rcases btf ((decide (b3.From < (0 : Int)))) with hc31 | hc31
   ·have h := Tm hc31 h
    refine dn rfl rfl rfl hc31 rfl <| dn rfl rfl rfl hc31 rfl <| dn rfl rfl rfl hc31 rfl <| dn rfl rfl rfl hc31 rfl <| dn rfl rfl rfl hc31 rfl <| df rfl (Tr rfl hc31 rfl rfl) rfl <| df rfl (Tk rfl) rfl <| dn rfl rfl rfl rfl rfl <| dn rfl rfl rfl rfl rfl <| dn rfl rfl rfl rfl rfl <| dn rfl rfl rfl rfl rfl <| dn rfl rfl rfl rfl rfl <| dn rfl rfl rfl rfl rfl <| dn rfl rfl rfl rfl rfl <| df rfl (Tr rfl rfl rfl rfl) rfl <| df rfl (Tk rfl) rfl <| dn rfl rfl rfl rfl rfl <| dn rfl rfl rfl rfl rfl <| dn rfl rfl rfl rfl rfl <| DrawG.fl rfl (Jq (Ti rfl rfl)) rfl <| DrawG.fl rfl (Jq (Ti rfl rfl)) rfl <| DrawG.fl rfl (Jq (Ti rfl rfl)) rfl <| DrawG.fl rfl (Jq (Ti rfl rfl)) rfl <| DrawG.fl rfl (Jq (Ti rfl rfl)) rfl <| DrawG.fl rfl (Jq (Ti rfl rfl)) rfl <| DrawG.fl rfl (Jq (Ti rfl rfl)) rfl <| DrawG.fl rfl (Jq (Ti rfl rfl)) rfl <| DrawG.fl rfl (Jq (Ti rfl rfl)) rfl <| DrawG.fl rfl (Jq (Ti rfl rfl)) rfl <| dn rfl rfl rfl rfl rfl ?_
    refine df rfl (Tr rfl rfl rfl rfl) rfl <| DrawG.sync <| DrawG.nil ?_
    exact Run.pick [1, 3, 4, 51] (z0y F (Qk F N) ih v3 true y u a0 a1 w a2 b3 f g m n p q b4 b5 _ _ _ a3 e a4 a5 x a6 (s.pick [1, 0] rfl rfl) h)
   ·have h := Tn hc31 h
    refine dy rfl rfl rfl hc31 (T4 rfl z0k) rfl <| dy rfl rfl rfl hc31 (Tb rfl (s.cells (i := 0) rfl 0 rfl) T5 z10) rfl <| dy rfl rfl rfl hc31 (T4 rfl z0e) rfl <| dy rfl rfl rfl hc31 (Tb rfl (s.cells (i := 0) rfl 1 rfl) T5 z10) rfl <| dy rfl rfl rfl hc31 (Z5 rfl rfl) rfl <| df rfl (Tt rfl hc31 rfl rfl) rfl <| df rfl (Tk rfl) rfl ?_
    rcases btf ((decide (b3.To ≤ b3.From))) with d | d
    ·have h := Tm d h
     refine dn rfl rfl rfl d rfl <| dn rfl rfl rfl d rfl <| dn rfl rfl rfl d rfl <| dn rfl rfl rfl d rfl <| dn rfl rfl rfl d rfl <| dn rfl rfl rfl d rfl <| dn rfl rfl rfl d rfl <| df rfl (Tr rfl d rfl rfl) rfl <| df rfl (Tk rfl) rfl <| dn rfl rfl rfl rfl rfl <| dn rfl rfl rfl rfl rfl <| dn rfl rfl rfl rfl rfl <| DrawG.fl rfl (Jq (Ti rfl rfl)) rfl <| DrawG.fl rfl (Jq (Ti rfl rfl)) rfl <| DrawG.fl rfl (Jq (Ti rfl rfl)) rfl <| DrawG.fl rfl (Jq (Ti rfl rfl)) rfl <| DrawG.fl rfl (Jq (Ti rfl rfl)) rfl <| DrawG.fl rfl (Jq (Ti rfl rfl)) rfl <| DrawG.fl rfl (Jq (Ti rfl rfl)) rfl <| DrawG.fl rfl (Jq (Ti rfl rfl)) rfl <| DrawG.fl rfl (Jq (Ti rfl rfl)) rfl <| DrawG.fl rfl (Jq (Ti rfl rfl)) rfl <| dn rfl rfl rfl rfl rfl <| df rfl (Tr rfl rfl rfl rfl) rfl <| DrawG.sync <| DrawG.nil ?_
     exact Run.pick [1, 3, 4, 51] (z0y F (Qk F N) ih v3 true y u a0 a1 w a2 b3 f g m n p q b4 b5 _ _ _ a3 e a4 a5 x a6 (s.pick [1, 0] rfl rfl) h)
    ·have h := Tn d h
     refine dy rfl rfl rfl d (T4 rfl z0e) rfl <| dy rfl rfl rfl d (Tb rfl (s.cells (i := 0) rfl 1 rfl) T5 z10) rfl <| dy rfl rfl rfl d (T4 rfl z19) rfl <| dy rfl rfl rfl d (Q6 rfl rfl (Qr (j := 0) rfl z4s)) rfl <| dy rfl rfl rfl d (Tb rfl (s.cells (i := 1) rfl 4 rfl) T5 z4q) rfl <| dy rfl rfl rfl d (Q3 rfl x z1u) rfl <| dy rfl rfl rfl d (Xw rfl rfl) rfl <| df rfl (Tt rfl d rfl rfl) rfl <| df rfl (Tk rfl) rfl ?_
     rcases btf ((decide ((w.length : Int) < b3.To))) with hc40 | hc40
     ·have h := Tm hc40 h
      refine dn rfl rfl rfl hc40 rfl <| dn rfl rfl rfl hc40 rfl <| dn rfl rfl rfl hc40 rfl <| DrawG.fl rfl (Jq (Ti rfl rfl)) rfl <| DrawG.fl rfl (Jq (Ti rfl rfl)) rfl <| DrawG.fl rfl (Jq (Ti rfl rfl)) rfl <| DrawG.fl rfl (Jq (Ti rfl rfl)) rfl <| DrawG.fl rfl (Jq (Ti rfl rfl)) rfl <| DrawG.fl rfl (Jq (Ti rfl rfl)) rfl <| DrawG.fl rfl (Jq (Ti rfl rfl)) rfl <| DrawG.fl rfl (Jq (Ti rfl rfl)) rfl <| DrawG.fl rfl (Jq (Ti rfl rfl)) rfl <| DrawG.fl rfl (Jq (Ti rfl rfl)) rfl <| dn rfl rfl rfl hc40 rfl <| df rfl (Tr rfl hc40 rfl rfl) rfl <| DrawG.sync <| DrawG.nil ?_
      exact Run.pick [1, 3, 4, 51] (z0y F (Qk F N) ih v3 true y u a0 a1 w a2 b3 f g m n p q b4 b5 _ _ _ a3 e a4 a5 x a6 (s.pick [1, 0] rfl rfl) h)
     ·have h := Tn hc40 h
      refine dy rfl rfl rfl hc40 (Tk rfl) rfl <| dy rfl rfl rfl hc40 (Xw rfl rfl) rfl <| dy rfl rfl rfl hc40 (Tk rfl) rfl ?_
      rcases btf ((decide ((0 : Int) < v3))) with hc41 | hc41
      ·have h := Tm hc41 h
       refine dy rfl rfl rfl hc41 (T4 rfl z2a) rfl <| dy rfl rfl rfl hc41 (Tb rfl (s.cells (i := 1) rfl 1 rfl) T5 z2w) rfl <| dy rfl rfl rfl hc41 (Tk rfl) rfl <| dy rfl rfl rfl hc41 (Vb rfl rfl) rfl ?_
       obtain ⟨b7, a8, h⟩ := T8 h
       obtain ⟨c2, c0, _, a8, b1, rfl⟩ := Jc (P := Tryz.prog) (t := 33) (kk := .i64) e a8 z5a
       refine dy rfl rfl rfl hc41 (Q6 rfl rfl a8) rfl ?_
       have b2 := (b1.fld (o := 1) rfl)
       refine dy rfl rfl rfl hc41 (T4 rfl z0e) rfl <| dy rfl rfl rfl hc41 (Tb rfl (s.ptrF b2) T5 z10) rfl <| dy rfl rfl rfl hc41 (T4 rfl z0k) rfl <| dy rfl rfl rfl hc41 (Tb rfl (s.cells (i := 0) rfl 0 rfl) T5 z10) rfl <| dy rfl rfl rfl hc41 (Xw rfl rfl) rfl <| dy rfl rfl rfl hc40 (Tr rfl hc41 rfl rfl) rfl <| df rfl (Tt rfl hc40 rfl rfl) rfl <| DrawG.sync <| DrawG.nil ?_
       exact Run.pick [1, 3, 4, 51] (z0y F (Qk F N) ih v3 (decide (b3.From < b7.To)) y u a0 a1 w a2 b3 f g m n p q b4 b5 _ _ _ a3 e a4 a5 x a6 (s.pick [1, 0] rfl rfl) h)
      ·have h := Tn hc41 h
       refine dn rfl rfl rfl hc41 rfl <| dn rfl rfl rfl hc41 rfl <| dn rfl rfl rfl hc41 rfl <| dn rfl rfl rfl hc41 rfl <| dn rfl rfl rfl hc41 rfl <| dn rfl rfl rfl hc41 rfl <| dn rfl rfl rfl hc41 rfl <| dn rfl rfl rfl hc41 rfl <| dn rfl rfl rfl hc41 rfl <| dn rfl rfl rfl hc41 rfl <| dy rfl rfl rfl hc40 (Tt rfl hc41 rfl rfl) rfl <| df rfl (Tt rfl hc40 rfl rfl) rfl <| DrawG.sync <| DrawG.nil ?_
       exact Run.pick [1, 3, 4, 51] (z0y F (Qk F N) ih v3 false y u a0 a1 w a2 b3 f g m n p q b4 b5 _ _ _ a3 e a4 a5 x a6 (s.pick [1, 0] rfl rfl) h)
  ·have h := Tn hc24 h
   refine Run.We rfl hc24 ?_
   refine Run.exit rfl (Run.seq (Run.region ?_))
   refine og (T4 rfl z2a) rfl <| og (Tb rfl (hH.cells (i := 0) rfl 1 rfl) T5 z2w) rfl <| og (Q3 rfl e z2m) rfl <| og (Xy rfl rfl) rfl <| av rfl rfl <| Run.Wd ?_
   cases h
   exact Run.ret Tryz.func82 rfl (Tc rfl Te) rfl
def Zp (F : Nat) (b : Th) : Option Bool :=
 Qk F F (0 : Int) b.Duties b.Work b.Vetoes.e0 b.Vetoes.e1 b.Data.e0 b.Data.e1
theorem z7p (F : Nat) (u : Th) (w x y s3 s4 s5 : SV) (r : Bool) (M : Mem) (d : Slc (rd M) 3 (Ta Q9) w u.Duties) (e : Slc (rd M) 2 (Ta Tg) x u.Work) (f : Slc (rd M) 2 (Tf (rd M)) y u.Vetoes.e0) (g : Slc (rd M) 2 (Tf (rd M)) s3 u.Vetoes.e1) (m : Slc (rd M) 1 (Ta Qd) s4 u.Data.e0) (n : Slc (rd M) 1 (Ta Qd) s5 u.Data.e1) (h : Zp F u = some r) : CallsM Tryz.prog 82 [(.agg [w, x, y, s3, s4, s5])] M (fun s M' => s = (.bool r) ∧ M' = M) := by
 refine CallsM.plain Tryz.func82 rfl rfl rfl (show Run _ _ _ (z1d r) _ _ _ from ?_)
 rw [Zp] at h
 replace d := d.mono (T3 M) (fun _ _ h => h)
 replace e := e.mono (T3 M) (fun _ _ h => h)
 replace f := f.mono (T3 M) (fun _ _ => z00 (T3 M))
 replace g := g.mono (T3 M) (fun _ _ => z00 (T3 M))
 replace m := m.mono (T3 M) (fun _ _ h => h)
 replace n := n.mono (T3 M) (fun _ _ h => h)
 have hH := Has.nil (frozen M)
 refine Run.seq (Run.region ?_)
 refine ox rfl (ExG.box rfl rfl hH) ?_
 rintro _ q ⟨p, rfl, b⟩
 refine av rfl rfl ?_
 refine Run.Wd (Run.seq (Run.seq (Run.region ?_)))
 refine av rfl rfl ?_
 refine Run.Wd (Run.block (Run.loop ?_))
 exact Run.pick [1, 3] (z6x F F (0 : Int) u.Duties u.Work u.Vetoes.e0 u.Vetoes.e1 u.Data.e0 u.Data.e1 w x y s3 s4 s5 p _ _ _ d e f g m n b h)
theorem zcv : J8 Tryz.prog 82 = none := by kernel_rfl
theorem zbv : Ts Tryz.prog 82 = true := by kernel_rfl
theorem z73 : Zf Tryz.prog 35 = some (.arr 2 1) := by kernel_rfl
abbrev z0f (r : Bool) : SV → Mem → Prop := fun s _ => s = (.bool r)
def Yh (F : Nat) (e : Int → List UInt8 → List T0 → Option Bool) (g : Int) (f : Bool) (b : List UInt8) (d : List T0) : Option Bool :=
 bif f then
  some false
 else
  e (w64 (g + 1)) b d
theorem z4b (F : Nat) (q : Int → List UInt8 → List T0 → Option Bool) (m : ∀ (s : Int) (d : List UInt8) (e : List T0) (b : SV) (n : Pos) (Fr : Rd) (M : Mem) (r : Bool) (f : Slc Fr 2 (Ta Tg) b e) (hH : Has Fr M [.obj n (.row 127 .whole [(.str d), b])]), q s d e = some r → Run Tryz.prog ⟨⟨107, [], none⟩, []⟩ 42 (z0f r) [(1, (.ptr n 0)), (3, (.int .i64 s))] [T6 Tryz.prog 107 [1, 1, 0, 1, 0, 0], Tv Tryz.prog 107 [1, 1, 0, 1, 0, 0], .inBlock 0, T6 Tryz.prog 107 [1, 1, 1]] M) : ∀ (s : Int) (p : Bool) (d : List UInt8) (e : List T0) (b : SV) (n : Pos) (Fr : Rd) (M : Mem) (r : Bool) (f : Slc Fr 2 (Ta Tg) b e) (hH : Has Fr M [.obj n (.row 127 .whole [(.str d), b])]), Yh F q s p d e = some r → Run Tryz.prog ⟨⟨107, [], none⟩, []⟩ 42 (z0f r) [(1, (.ptr n 0)), (3, (.int .i64 s)), (41, (.bool p))] [T6 Tryz.prog 107 [1, 1, 0, 1, 0, 0, 1, 0, 0, 1, 1], .inBlock 1, T6 Tryz.prog 107 [1, 1, 0, 1, 0, 0, 1, 1], Tv Tryz.prog 107 [1, 1, 0, 1, 0, 0], .inBlock 0, T6 Tryz.prog 107 [1, 1, 1]] M := by
 intro s p d e b n Fr M r f hH h
 rw [Yh] at h
 rcases btf (p) with g | g
 ·have h := Tm g h
  refine Run.Wf rfl g ?_
  refine Run.seq (Run.region ?_)
  refine av rfl rfl <| Run.Wd ?_
  cases h
  exact Run.ret Tryz.func107 rfl (Tc rfl Te) rfl
 ·have h := Tn g h
  refine Run.We rfl g ?_
  refine Run.skip (Run.inBlock (Run.region ?_))
  refine mv rfl rfl <| og (Qq rfl rfl) rfl <| av rfl rfl ?_
  refine Run.Wd (Run.inLoop ?_)
  exact Run.pick [1, 3] (m (w64 (s + 1)) d e b n _ _ _ f hH h)
def Yi (F : Nat) (e : Int → List UInt8 → List T0 → Option Bool) (m : Int) (g : Bool) (b : List UInt8) (d : List T0) (f : T0) : Option Bool :=
 bif g then
  Yh F e m true b d
 else
  Yh F e m (decide ((1073741824 : Int) < f.To)) b d
theorem z4a (F : Nat) (q : Int → List UInt8 → List T0 → Option Bool) (m : ∀ (w : Int) (e : List UInt8) (f : List T0) (b : SV) (n : Pos) (Fr : Rd) (M : Mem) (r : Bool) (g : Slc Fr 2 (Ta Tg) b f) (hH : Has Fr M [.obj n (.row 127 .whole [(.str e), b])]), q w e f = some r → Run Tryz.prog ⟨⟨107, [], none⟩, []⟩ 42 (z0f r) [(1, (.ptr n 0)), (3, (.int .i64 w))] [T6 Tryz.prog 107 [1, 1, 0, 1, 0, 0], Tv Tryz.prog 107 [1, 1, 0, 1, 0, 0], .inBlock 0, T6 Tryz.prog 107 [1, 1, 1]] M) : ∀ (w : Int) (s : Bool) (e : List UInt8) (f : List T0) (p : T0) (b : SV) (n u : Pos) (Fr : Rd) (M : Mem) (r : Bool) (g : Slc Fr 2 (Ta Tg) b f) (hH : Has Fr M [.obj n (.row 127 .whole [(.str e), b]), .obj u (.row 106 .whole [(.int .i64 p.From), (.int .i64 p.To)])]), Yi F q w s e f p = some r → Run Tryz.prog ⟨⟨107, [], none⟩, []⟩ 42 (z0f r) [(1, (.ptr n 0)), (3, (.int .i64 w)), (4, (.ptr u 0)), (36, (.bool s))] [Tu Tryz.prog 107 [1, 1, 0, 1, 0, 0, 1, 0, 0, 1, 0] 10, T6 Tryz.prog 107 [1, 1, 0, 1, 0, 0, 1, 0, 0, 1, 1], .inBlock 1, T6 Tryz.prog 107 [1, 1, 0, 1, 0, 0, 1, 1], Tv Tryz.prog 107 [1, 1, 0, 1, 0, 0], .inBlock 0, T6 Tryz.prog 107 [1, 1, 1]] M := by
 intro w s e f p b n u Fr M r g hH h
 rw [Yi] at h
 refine mv rfl rfl ?_
 rcases btf (s) with d | d
 ·have h := Tm d h
  refine gn rfl rfl d rfl <| gn rfl rfl d rfl <| gn rfl rfl d rfl <| og (Tr rfl d rfl rfl) rfl <| Run.Wd ?_
  exact Run.pick [1, 3, 41] (z4b F q m w true e f b n _ _ _ g (hH.pick [0] rfl rfl) h)
 ·have h := Tn d h
  refine gy rfl rfl d (T4 rfl z0e) rfl <| gy rfl rfl d (Tb rfl (hH.cells (i := 1) rfl 1 rfl) T5 z10) rfl <| gy rfl rfl d (Xw rfl rfl) rfl <| og (Tt rfl d rfl rfl) rfl <| Run.Wd ?_
  exact Run.pick [1, 3, 41] (z4b F q m w (decide ((1073741824 : Int) < p.To)) e f b n _ _ _ g (hH.pick [0] rfl rfl) h)
def Kb (F : Nat) : Nat → Int → List UInt8 → List T0 → Option Bool
 | 0, _, _, _ => none
 | N + 1, f, d, b =>
  bif (decide (f < (b.length : Int))) then
   bnd (idx b f) fun e =>
   bif (decide (e.From < (0 : Int))) then
    Yi F (Kb F N) f true d b e
   else
    Yi F (Kb F N) f (decide (e.To ≤ e.From)) d b e
  else
   some true
theorem z6t (F : Nat) : ∀ (N : Nat), ∀ (v3 : Int) (f : List UInt8) (g : List T0) (d : SV) (u : Pos) (Fr : Rd) (M : Mem) (r : Bool) (e : Slc Fr 2 (Ta Tg) d g) (hH : Has Fr M [.obj u (.row 127 .whole [(.str f), d])]), Kb F N v3 f g = some r → Run Tryz.prog ⟨⟨107, [], none⟩, []⟩ 42 (z0f r) [(1, (.ptr u 0)), (3, (.int .i64 v3))] [T6 Tryz.prog 107 [1, 1, 0, 1, 0, 0], Tv Tryz.prog 107 [1, 1, 0, 1, 0, 0], .inBlock 0, T6 Tryz.prog 107 [1, 1, 1]] M := by
 intro N
 induction N with
 | zero =>
  intro v3 f g d u Fr M r e hH h
  simp [Kb] at h
 | succ N ih =>
  intro v3 f g d u Fr M r e hH h
  rw [Kb] at h
  refine Run.seq (Run.seq (Run.region ?_))
  refine mv rfl rfl <| og (T4 rfl z3d) rfl <| og (Tb rfl (hH.cells (i := 0) rfl 1 rfl) T5 z2w) rfl <| og (Q3 rfl e z2m) rfl <| og (Qz rfl rfl) rfl <| Run.Wd ?_
  rcases btf ((decide (v3 < (g.length : Int)))) with hc29 | hc29
  ·have h := Tm hc29 h
   refine Run.Wf rfl hc29 ?_
   refine Run.skip (Run.seq (Run.block (Run.seq (Run.region ?_))))
   refine og (T4 rfl z3d) rfl <| og (Tb rfl (hH.cells (i := 0) rfl 1 rfl) T5 z2w) rfl <| mv rfl rfl ?_
   obtain ⟨s, n, h⟩ := T8 h
   obtain ⟨a1, a0, _, n, q, rfl⟩ := Jc (P := Tryz.prog) (t := 33) (kk := .i64) e n z5a
   refine og (Q6 rfl rfl n) rfl <| og (Tj rfl (hH.ptrF q) T5 z2v rfl rfl rfl) rfl <| ox rfl (ExG.new (v := fun b => .ptr b 0) (Jz z5t) hH) ?_
   rintro _ y ⟨w, rfl, p⟩
   refine ox rfl (ExG.Wg (c' := [(.int .i64 s.From), (.int .i64 s.To)]) rfl rfl rfl p (i := 0) rfl z7s rfl rfl rfl rfl rfl) ?_
   rintro _ x ⟨rfl, (m : Has Fr x [.obj w (.row 106 .whole [(.int .i64 s.From), (.int .i64 s.To)]), .obj u (.row 127 .whole [(.str f), d])])⟩
   refine Run.Wd (Run.seq (Run.region ?_))
   refine og (T4 rfl z0k) rfl <| og (Tb rfl (m.cells (i := 0) rfl 0 rfl) T5 z10) rfl <| og (Qz rfl rfl) rfl <| mv rfl rfl ?_
   rcases btf ((decide (s.From < (0 : Int)))) with hc36 | hc36
   ·have h := Tm hc36 h
    refine gn rfl rfl hc36 rfl <| gn rfl rfl hc36 rfl <| gn rfl rfl hc36 rfl <| gn rfl rfl hc36 rfl <| gn rfl rfl hc36 rfl <| og (Tr rfl hc36 rfl rfl) rfl ?_
    exact Run.pick [1, 3, 4, 36] (z4a F (Kb F N) ih v3 true f g s d u w _ _ _ e (m.pick [1, 0] rfl rfl) h)
   ·have h := Tn hc36 h
    refine gy rfl rfl hc36 (T4 rfl z0k) rfl <| gy rfl rfl hc36 (Tb rfl (m.cells (i := 0) rfl 0 rfl) T5 z10) rfl <| gy rfl rfl hc36 (T4 rfl z0e) rfl <| gy rfl rfl hc36 (Tb rfl (m.cells (i := 0) rfl 1 rfl) T5 z10) rfl <| gy rfl rfl hc36 (Z5 rfl rfl) rfl <| og (Tt rfl hc36 rfl rfl) rfl ?_
    exact Run.pick [1, 3, 4, 36] (z4a F (Kb F N) ih v3 (decide (s.To ≤ s.From)) f g s d u w _ _ _ e (m.pick [1, 0] rfl rfl) h)
  ·have h := Tn hc29 h
   refine Run.We rfl hc29 ?_
   refine Run.exit rfl (Run.seq (Run.region ?_))
   refine av rfl rfl <| Run.Wd ?_
   cases h
   exact Run.ret Tryz.func107 rfl (Tc rfl Te) rfl
def Yc (F : Nat) (e : Bool) (b : List UInt8) (d : List T0) : Option Bool :=
 bif e then
  some false
 else
  Kb F F (0 : Int) b d
theorem z49 (F : Nat) : ∀ (n : Bool) (d : List UInt8) (e : List T0) (b : SV) (m : Pos) (Fr : Rd) (M : Mem) (r : Bool) (g : Slc Fr 2 (Ta Tg) b e) (hH : Has Fr M [.obj m (.row 127 .whole [(.str d), b])]), Yc F n d e = some r → Run Tryz.prog ⟨⟨107, [], none⟩, []⟩ 42 (z0f r) [(1, (.ptr m 0)), (14, (.bool n))] [T6 Tryz.prog 107 [1, 0, 1], T6 Tryz.prog 107 [1, 1]] M := by
 intro n d e b m Fr M r g hH h
 rw [Yc] at h
 rcases btf (n) with f | f
 ·have h := Tm f h
  refine Run.Wf rfl f ?_
  refine Run.seq (Run.region ?_)
  refine av rfl rfl <| Run.Wd ?_
  cases h
  exact Run.ret Tryz.func107 rfl (Tc rfl Te) rfl
 ·have h := Tn f h
  refine Run.We rfl f ?_
  refine Run.skip (Run.seq (Run.seq (Run.region ?_)))
  refine av rfl rfl ?_
  refine Run.Wd (Run.block (Run.loop ?_))
  exact Run.pick [1, 3] (z6t F F (0 : Int) d e b m _ _ _ g hH h)
def Z6 (F : Nat) (d : T2) : Option Bool :=
 bnd (Xb F d.Name) fun b =>
 bif (!b) then
  Yc F true d.Name d.Segments
 else
  Yc F (decide ((32 : Int) < (d.Segments.length : Int))) d.Name d.Segments
theorem z7n (F : Nat) (p : T2) (q : SV) (r : Bool) (M : Mem) (f : Slc (rd M) 2 (Ta Tg) q p.Segments) (h : Z6 F p = some r) : CallsM Tryz.prog 107 [(.agg [(.str p.Name), q])] M (fun s M' => s = (.bool r) ∧ M' = M) := by
 refine CallsM.plain Tryz.func107 rfl rfl rfl (show Run _ _ _ (z0f r) _ _ _ from ?_)
 rw [Z6] at h
 replace f := f.mono (T3 M) (fun _ _ h => h)
 have hH := Has.nil (frozen M)
 refine Run.seq (Run.region ?_)
 refine ox rfl (ExG.box rfl rfl hH) ?_
 rintro _ n ⟨g, rfl, d⟩
 refine av rfl rfl ?_
 refine Run.Wd (Run.seq (Run.seq (Run.region ?_)))
 refine og (T4 rfl z4p) rfl <| og (Tb rfl (d.cells (i := 0) rfl 0 rfl) T5 z87) rfl ?_
 obtain ⟨m, e, h⟩ := T8 h
 refine Run.callP T7 (Tl rfl z9g z9b) rfl (z48 F p.Name _ _ e) <| og (Jh rfl) rfl <| mv rfl rfl ?_
 rcases btf ((!m)) with b | b
 ·have h := Tm b h
  refine gn rfl rfl b rfl <| gn rfl rfl b rfl <| gn rfl rfl b rfl <| gn rfl rfl b rfl <| og (Tr rfl b rfl rfl) rfl <| Run.Wd ?_
  exact Run.pick [1, 14] (z49 F true p.Name p.Segments q g _ _ _ f d h)
 ·have h := Tn b h
  refine gy rfl rfl b (T4 rfl z3d) rfl <| gy rfl rfl b (Tb rfl (d.cells (i := 0) rfl 1 rfl) T5 z2w) rfl <| gy rfl rfl b (Q3 rfl f z2m) rfl <| gy rfl rfl b (Xw rfl rfl) rfl <| og (Tt rfl b rfl rfl) rfl <| Run.Wd ?_
  exact Run.pick [1, 14] (z49 F (decide ((32 : Int) < (p.Segments.length : Int))) p.Name p.Segments q g _ _ _ f d h)
theorem zaj : J8 Tryz.prog 107 = none := by kernel_rfl
theorem z9v : Ts Tryz.prog 107 = true := by kernel_rfl
theorem z0w : Gy Tryz.prog (Vu (atC Tryz.prog 83 [1, 1, 0, 1, 0, 0, 1, 0, 0, 1, 1, 0, 0, 1, 0, 0, 0])) = some [.fl 0, .fl 1, .fl 2, .fl 3, .fl 4, .fl 5, .fl 6, .fl 7, .fl 8, .fl 9, .fl 10, .sync] := by kernel_rfl
abbrev z0i (r : Int) : SV → Mem → Prop := fun s _ => s = (.int .i64 r)
def Qs (F : Nat) (b : (List T2) → Int → Option Int) : Nat → List T2 → Int → Int → Option Int
 | 0, _, _, _ => none
 | N + 1, f, g, m =>
  bif (decide (m < g)) then
   bnd (idx f m) fun d =>
   bnd (idx f g) fun e =>
   bif (d.Name == e.Name) then
    some (63 : Int)
   else
    (Qs F b N) f g (w64 (m + 1))
  else
   b f (w64 (g + 1))
theorem z3s (F : Nat) (a1 : (List T2) → Int → Option Int) (g : ∀ (v0 : List T2) (v3 : Int) (y : SV) (Fr : Rd) (M : Mem) (r : Int) (a0 : Slc Fr 2 (Tf Fr) y v0) (hH : Has Fr M []), a1 v0 v3 = some r → Run Tryz.prog ⟨⟨83, [], none⟩, []⟩ 36 (z0i r) [(0, y), (3, (.int .i64 v3))] [T6 Tryz.prog 83 [1, 1, 0, 1, 0, 0], Tv Tryz.prog 83 [1, 1, 0, 1, 0, 0], .inBlock 0, T6 Tryz.prog 83 [1, 1, 1]] M) : ∀ (N : Nat), ∀ (v0 : List T2) (v3 v4 : Int) (y : SV) (Fr : Rd) (M : Mem) (r : Int) (a0 : Slc Fr 2 (Tf Fr) y v0) (hH : Has Fr M []), Qs F a1 N v0 v3 v4 = some r → Run Tryz.prog ⟨⟨83, [], none⟩, []⟩ 36 (z0i r) [(0, y), (3, (.int .i64 v3)), (4, (.int .i64 v4))] [T6 Tryz.prog 83 [1, 1, 0, 1, 0, 0, 1, 0, 0, 1, 1, 0, 0], Tv Tryz.prog 83 [1, 1, 0, 1, 0, 0, 1, 0, 0, 1, 1, 0, 0], .inBlock 2, .inBlock 1, T6 Tryz.prog 83 [1, 1, 0, 1, 0, 0, 1, 1], Tv Tryz.prog 83 [1, 1, 0, 1, 0, 0], .inBlock 0, T6 Tryz.prog 83 [1, 1, 1]] M := by
 intro N
 induction N with
 | zero =>
  intro v0 v3 v4 y Fr M r a0 hH h
  simp [Qs] at h
 | succ N ih =>
  intro v0 v3 v4 y Fr M r a0 hH h
  rw [Qs] at h
  refine Run.seq (Run.seq (Run.region ?_))
  refine mv rfl rfl <| mv rfl rfl <| og (Qz rfl rfl) rfl <| Run.Wd ?_
  rcases btf ((decide (v4 < v3))) with b | b
  ·have h := Tm b h
   refine Run.Wf rfl b ?_
   refine Run.skip (Run.seq (Run.block (Run.seq ?_)))
   refine Run.drawG z0w <| df rfl (Tk rfl) rfl <| df rfl (Tk rfl) rfl ?_
   obtain ⟨a2, e, h⟩ := T8 h
   obtain ⟨a6, a4, _, e, m, ⟨w, rfl, s⟩⟩ := Jc (P := Tryz.prog) (t := 34) (kk := .i64) a0 e z84
   refine df rfl (Q6 rfl rfl e) rfl ?_
   have n := (m.fld (o := 0) rfl)
   refine df rfl (T4 rfl z4p) rfl <| df rfl (Tb rfl (hH.ptrF n) T5 z87) rfl <| df rfl (Tk rfl) rfl <| df rfl (Tk rfl) rfl ?_
   obtain ⟨a3, f, h⟩ := T8 h
   obtain ⟨a7, a5, _, f, p, ⟨x, rfl, u⟩⟩ := Jc (P := Tryz.prog) (t := 34) (kk := .i64) a0 f z84
   refine df rfl (Q6 rfl rfl f) rfl ?_
   have q := (p.fld (o := 0) rfl)
   refine df rfl (T4 rfl z4p) rfl <| df rfl (Tb rfl (hH.ptrF q) T5 z87) rfl <| df rfl (ex_eqlS rfl rfl) rfl <| DrawG.sync <| DrawG.nil ?_
   rcases btf ((a2.Name == a3.Name)) with d | d
   ·have h := Tm d h
    refine Run.Wf rfl d ?_
    refine Run.seq (Run.region ?_)
    refine av rfl rfl <| Run.Wd ?_
    cases h
    exact Run.ret Tryz.func83 rfl (Tc rfl Te) rfl
   ·have h := Tn d h
    refine Run.We rfl d ?_
    refine Run.skip (Run.inBlock (Run.region ?_))
    refine mv rfl rfl <| og (Qq rfl rfl) rfl <| av rfl rfl ?_
    refine Run.Wd (Run.inLoop ?_)
    exact Run.pick [0, 3, 4] (ih v0 v3 (w64 (v4 + 1)) y _ _ _ a0 hH h)
  ·have h := Tn b h
   refine Run.We rfl b ?_
   refine Run.exit rfl (Run.inBlock (Run.region ?_))
   refine mv rfl rfl <| og (Qq rfl rfl) rfl <| av rfl rfl ?_
   refine Run.Wd (Run.inLoop ?_)
   exact Run.pick [0, 3] (g v0 (w64 (v3 + 1)) y _ _ _ a0 hH h)
def Qc (F : Nat) : Nat → List T2 → Int → Option Int
 | 0, _, _ => none
 | N + 1, e, f =>
  bif (decide (f < (e.length : Int))) then
   bnd (idx e f) fun d =>
   bnd (Z6 F d) fun b =>
   bif (!b) then
    some (63 : Int)
   else
    Qs F (Qc F N) F e f (0 : Int)
  else
   some (0 : Int)
theorem z3r (F : Nat) : ∀ (N : Nat), ∀ (x : List T2) (y : Int) (p : SV) (Fr : Rd) (M : Mem) (r : Int) (n : Slc Fr 2 (Tf Fr) p x) (hH : Has Fr M []), Qc F N x y = some r → Run Tryz.prog ⟨⟨83, [], none⟩, []⟩ 36 (z0i r) [(0, p), (3, (.int .i64 y))] [T6 Tryz.prog 83 [1, 1, 0, 1, 0, 0], Tv Tryz.prog 83 [1, 1, 0, 1, 0, 0], .inBlock 0, T6 Tryz.prog 83 [1, 1, 1]] M := by
 intro N
 induction N with
 | zero =>
  intro x y p Fr M r n hH h
  simp [Qc] at h
 | succ N ih =>
  intro x y p Fr M r n hH h
  rw [Qc] at h
  refine Run.seq (Run.seq (Run.region ?_))
  refine mv rfl rfl <| mv rfl rfl <| og (Q3 rfl n z63) rfl <| og (Qz rfl rfl) rfl <| Run.Wd ?_
  rcases btf ((decide (y < (x.length : Int)))) with hc22 | hc22
  ·have h := Tm hc22 h
   refine Run.Wf rfl hc22 ?_
   refine Run.skip (Run.seq (Run.block (Run.seq (Run.seq (Run.region ?_)))))
   refine mv rfl rfl <| mv rfl rfl ?_
   obtain ⟨s, d, h⟩ := T8 h
   obtain ⟨w, u, _, d, g, ⟨f, rfl, e⟩⟩ := Jc (P := Tryz.prog) (t := 34) (kk := .i64) n d z84
   refine og (Q6 rfl rfl d) rfl <| og (Tj rfl (hH.ptrF g) T5 z7h rfl rfl rfl) rfl ?_
   obtain ⟨q, m, h⟩ := T8 h
   refine Run.callP T7 (Tl rfl zaj z9v) rfl (z7n F s f _ _ (hH.slcF e) m) <| og (Jh rfl) rfl <| Run.Wd ?_
   rcases btf ((!q)) with b | b
   ·have h := Tm b h
    refine Run.Wf rfl b ?_
    refine Run.seq (Run.region ?_)
    refine av rfl rfl <| Run.Wd ?_
    cases h
    exact Run.ret Tryz.func83 rfl (Tc rfl Te) rfl
   ·have h := Tn b h
    refine Run.We rfl b ?_
    refine Run.skip (Run.seq (Run.region ?_))
    refine av rfl rfl ?_
    refine Run.Wd (Run.block (Run.loop ?_))
    exact Run.pick [0, 3, 4] (z3s F (Qc F N) ih F x y (0 : Int) p _ _ _ n hH h)
  ·have h := Tn hc22 h
   refine Run.We rfl hc22 ?_
   refine Run.exit rfl (Run.seq (Run.region ?_))
   refine av rfl rfl <| Run.Wd ?_
   cases h
   exact Run.ret Tryz.func83 rfl (Tc rfl Te) rfl
def Kh (F : Nat) (b : List T2) : Option Int :=
 bif (decide ((12 : Int) < (b.length : Int))) then
  some (63 : Int)
 else
  Qc F F b (0 : Int)
theorem z1w (F : Nat) (d : List T2) (e : SV) (r : Int) (M : Mem) (b : Slc (rd M) 2 (Tf (rd M)) e d) (h : Kh F d = some r) : CallsM Tryz.prog 83 [e] M (fun s M' => s = (.int .i64 r) ∧ M' = M) := by
 refine CallsM.plain Tryz.func83 rfl rfl rfl (show Run _ _ _ (z0i r) _ _ _ from ?_)
 rw [Kh] at h
 replace b := b.mono (T3 M) (fun _ _ => z00 (T3 M))
 have hH := Has.nil (frozen M)
 refine Run.seq (Run.region ?_)
 refine av rfl rfl ?_
 refine Run.Wd (Run.seq (Run.seq (Run.region ?_)))
 refine mv rfl rfl <| og (Q3 rfl b z63) rfl <| og (Xw rfl rfl) rfl <| Run.Wd ?_
 rcases btf ((decide ((12 : Int) < (d.length : Int)))) with hc21 | hc21
 ·have h := Tm hc21 h
  refine Run.Wf rfl hc21 ?_
  refine Run.seq (Run.region ?_)
  refine av rfl rfl <| Run.Wd ?_
  cases h
  exact Run.ret Tryz.func83 rfl (Tc rfl Te) rfl
 ·have h := Tn hc21 h
  refine Run.We rfl hc21 ?_
  refine Run.skip (Run.seq (Run.seq (Run.region ?_)))
  refine av rfl rfl ?_
  refine Run.Wd (Run.block (Run.loop ?_))
  exact Run.pick [0, 3] (z3r F F d (0 : Int) e _ _ _ b hH h)
theorem zaw : J8 Tryz.prog 83 = none := by kernel_rfl
theorem za8 : Ts Tryz.prog 83 = true := by kernel_rfl
abbrev z6b (r : Int) : SV → Mem → Prop := fun s _ => s = (.int .i64 r)
def Kf (F : Nat) (m : Th) : Option Int :=
 bnd (Xt F m) fun d =>
 bif (!d) then
  some (110 : Int)
 else
  bnd (Z1 F m.Duties (m.Data.e0.length : Int)) fun e =>
  bif (!e) then
   some (111 : Int)
  else
   bnd (Zp F m) fun f =>
   bif (!f) then
    some (112 : Int)
   else
    bnd (Kh F m.Vetoes.e0) fun b =>
    bif (!(b == (0 : Int))) then
     some b
    else
     bnd (Kh F m.Vetoes.e1) fun g =>
     some g
theorem z1e (F : Nat) (a0 : Th) (s0 s1 s2 s3 s4 s5 : SV) (r : Int) (M : Mem) (u : Slc (rd M) 3 (Ta Q9) s0 a0.Duties) (a1 : Slc (rd M) 2 (Ta Tg) s1 a0.Work) (w : Slc (rd M) 2 (Tf (rd M)) s2 a0.Vetoes.e0) (x : Slc (rd M) 2 (Tf (rd M)) s3 a0.Vetoes.e1) (y : Slc (rd M) 1 (Ta Qd) s4 a0.Data.e0) (a2 : Slc (rd M) 1 (Ta Qd) s5 a0.Data.e1) (h : Kf F a0 = some r) : CallsM Tryz.prog 48 [(.agg [s0, s1, s2, s3, s4, s5])] M (fun s M' => s = (.int .i64 r) ∧ M' = M) := by
 refine CallsM.plain Tryz.func48 rfl rfl rfl (show Run _ _ _ (z6b r) _ _ _ from ?_)
 rw [Kf] at h
 replace u := u.mono (T3 M) (fun _ _ h => h)
 replace a1 := a1.mono (T3 M) (fun _ _ h => h)
 replace w := w.mono (T3 M) (fun _ _ => z00 (T3 M))
 replace x := x.mono (T3 M) (fun _ _ => z00 (T3 M))
 replace y := y.mono (T3 M) (fun _ _ h => h)
 replace a2 := a2.mono (T3 M) (fun _ _ h => h)
 have hH := Has.nil (frozen M)
 refine Run.seq (Run.region ?_)
 refine ox rfl (ExG.box rfl rfl hH) ?_
 rintro _ a7 ⟨a8, rfl, b⟩
 refine av rfl rfl ?_
 refine Run.Wd (Run.seq (Run.seq (Run.region ?_)))
 refine og (Tj rfl (b.cells (i := 0) rfl 0 rfl) T5 z1c rfl rfl rfl) rfl ?_
 obtain ⟨a3, g, h⟩ := T8 h
 refine Run.callP T7 (Tl rfl zct zbt) rfl (z6k F a0 s0 s1 s2 s3 s4 s5 _ _ (b.slcF u) (b.slcF a1) ((w).mono b.le (fun _ _ => z00 b.le)) ((x).mono b.le (fun _ _ => z00 b.le)) (b.slcF y) (b.slcF a2) g) <| og (Jh rfl) rfl <| Run.Wd ?_
 rcases btf ((!a3)) with d | d
 ·have h := Tm d h
  refine Run.Wf rfl d ?_
  refine Run.seq (Run.region ?_)
  refine av rfl rfl <| Run.Wd ?_
  cases h
  exact Run.ret Tryz.func48 rfl (Tc rfl Te) rfl
 ·have h := Tn d h
  refine Run.We rfl d ?_
  refine Run.skip (Run.seq (Run.seq (Run.region ?_)))
  refine og (T4 rfl z1r) rfl <| og (Tb rfl (b.cells (i := 0) rfl 0 rfl) T5 z3q) rfl <| og (T4 rfl z19) rfl <| og (Q6 rfl rfl (Qr (j := 0) rfl z4s)) rfl <| og (Tb rfl (b.cells (i := 0) rfl 4 rfl) T5 z4q) rfl <| og (Q3 rfl y z1u) rfl ?_
  obtain ⟨a4, m, h⟩ := T8 h
  refine Run.callP T7 (Tl rfl zcu zbu) rfl (z6v F a0.Duties (a0.Data.e0.length : Int) s0 _ _ (b.slcF u) m) <| og (Jh rfl) rfl <| Run.Wd ?_
  rcases btf ((!a4)) with e | e
  ·have h := Tm e h
   refine Run.Wf rfl e ?_
   refine Run.seq (Run.region ?_)
   refine av rfl rfl <| Run.Wd ?_
   cases h
   exact Run.ret Tryz.func48 rfl (Tc rfl Te) rfl
  ·have h := Tn e h
   refine Run.We rfl e ?_
   refine Run.skip (Run.seq (Run.seq (Run.region ?_)))
   refine og (Tj rfl (b.cells (i := 0) rfl 0 rfl) T5 z1c rfl rfl rfl) rfl ?_
   obtain ⟨a5, n, h⟩ := T8 h
   refine Run.callP T7 (Tl rfl zcv zbv) rfl (z7p F a0 s0 s1 s2 s3 s4 s5 _ _ (b.slcF u) (b.slcF a1) ((w).mono b.le (fun _ _ => z00 b.le)) ((x).mono b.le (fun _ _ => z00 b.le)) (b.slcF y) (b.slcF a2) n) <| og (Jh rfl) rfl <| Run.Wd ?_
   rcases btf ((!a5)) with f | f
   ·have h := Tm f h
    refine Run.Wf rfl f ?_
    refine Run.seq (Run.region ?_)
    refine av rfl rfl <| Run.Wd ?_
    cases h
    exact Run.ret Tryz.func48 rfl (Tc rfl Te) rfl
   ·have h := Tn f h
    refine Run.We rfl f ?_
    refine Run.skip (Run.seq (Run.seq (Run.region ?_)))
    refine og (T4 rfl z2t) rfl <| og (Q6 rfl rfl (Qr (j := 0) rfl z73)) rfl <| og (Tb rfl (b.cells (i := 0) rfl 2 rfl) T5 z72) rfl ?_
    obtain ⟨a6, p, h⟩ := T8 h
    refine Run.callP T7 (Tl rfl zaw za8) rfl (z1w F a0.Vetoes.e0 s2 _ _ ((w).mono b.le (fun _ _ => z00 b.le)) p) <| av rfl rfl ?_
    refine Run.Wd (Run.seq (Run.region ?_))
    refine mv rfl rfl <| og (Gd rfl rfl) rfl <| Run.Wd ?_
    rcases btf ((!(a6 == (0 : Int)))) with hc43 | hc43
    ·have h := Tm hc43 h
     refine Run.Wf rfl hc43 ?_
     refine Run.seq (Run.region ?_)
     refine mv rfl rfl <| av rfl rfl <| Run.Wd ?_
     cases h
     exact Run.ret Tryz.func48 rfl (Tc rfl Te) rfl
    ·have h := Tn hc43 h
     refine Run.We rfl hc43 ?_
     refine Run.skip (Run.seq (Run.region ?_))
     refine og (T4 rfl z2t) rfl <| og (Q6 rfl rfl (Qr (j := 1) rfl z73)) rfl <| og (Tb rfl (b.cells (i := 0) rfl 3 rfl) T5 z72) rfl ?_
     obtain ⟨a9, q, h⟩ := T8 h
     refine Run.callP T7 (Tl rfl zaw za8) rfl (z1w F a0.Vetoes.e1 s3 _ _ ((x).mono b.le (fun _ _ => z00 b.le)) q) <| av rfl rfl <| Run.Wd ?_
     cases h
     exact Run.ret Tryz.func48 rfl (Tc rfl Te) rfl
theorem z93 : J8 Tryz.prog 48 = none := by kernel_rfl
theorem z8x : Ts Tryz.prog 48 = true := by kernel_rfl
theorem z78 : Gy Tryz.prog (Vu (atC Tryz.prog 21 [1, 1, 1, 0])) = some [.fl 0, .fl 1, .fl 2, .fl 3, .fl 4, .an 5 [1, 0], .fl 6, .fl 7, .fl 8, .fl 9, .fl 10, .sync] := by kernel_rfl
abbrev z5i (r : (List UInt8) × Int) : SV → Mem → Prop := fun s _ => s = (.tuple [(.str r.1), (.int .i64 r.2)])
def Xm (F : Nat) (g : Th) (m : Int) : Option ((List UInt8) × Int) :=
 bnd (Kf F g) fun b =>
 bif (!(b == (0 : Int))) then
  some ([], b)
 else
  bnd (X2 F m (0 : Int) (w64 ((g.Data.e0.length : Int) - 1))) fun d =>
  bif (!d) then
   some ([], (8 : Int))
  else
   bnd (Yo F g.Duties m) fun e =>
   bnd (idx g.Duties e) fun f =>
   some (f.Who, (0 : Int))
theorem z6e (F : Nat) (a0 : Th) (a1 : Int) (s0 s1 s2 s3 s4 s5 : SV) (r : (List UInt8) × Int) (M : Mem) (q : Slc (rd M) 3 (Ta Q9) s0 a0.Duties) (w : Slc (rd M) 2 (Ta Tg) s1 a0.Work) (x : Slc (rd M) 2 (Tf (rd M)) s2 a0.Vetoes.e0) (y : Slc (rd M) 2 (Tf (rd M)) s3 a0.Vetoes.e1) (u : Slc (rd M) 1 (Ta Qd) s4 a0.Data.e0) (a2 : Slc (rd M) 1 (Ta Qd) s5 a0.Data.e1) (h : Xm F a0 a1 = some r) : CallsM Tryz.prog 21 [(.agg [s0, s1, s2, s3, s4, s5]), (.int .i64 a1)] M (fun s M' => s = (.tuple [(.str r.1), (.int .i64 r.2)]) ∧ M' = M) := by
 refine CallsM.plain Tryz.func21 rfl rfl rfl (show Run _ _ _ (z5i r) _ _ _ from ?_)
 rw [Xm] at h
 replace q := q.mono (T3 M) (fun _ _ h => h)
 replace w := w.mono (T3 M) (fun _ _ h => h)
 replace x := x.mono (T3 M) (fun _ _ => z00 (T3 M))
 replace y := y.mono (T3 M) (fun _ _ => z00 (T3 M))
 replace u := u.mono (T3 M) (fun _ _ h => h)
 replace a2 := a2.mono (T3 M) (fun _ _ h => h)
 have hH := Has.nil (frozen M)
 refine Run.seq (Run.region ?_)
 refine ox rfl (ExG.box rfl rfl hH) ?_
 rintro _ a5 ⟨a6, rfl, b⟩
 refine av rfl rfl <| av rfl rfl ?_
 refine Run.Wd (Run.seq (Run.seq (Run.region ?_)))
 refine og (Tj rfl (b.cells (i := 0) rfl 0 rfl) T5 z1c rfl rfl rfl) rfl ?_
 obtain ⟨a3, m, h⟩ := T8 h
 refine Run.callP T7 (Tl rfl z93 z8x) rfl (z1e F a0 s0 s1 s2 s3 s4 s5 _ _ (b.slcF q) (b.slcF w) ((x).mono b.le (fun _ _ => z00 b.le)) ((y).mono b.le (fun _ _ => z00 b.le)) (b.slcF u) (b.slcF a2) m) <| av rfl rfl ?_
 refine Run.Wd (Run.seq (Run.region ?_))
 refine mv rfl rfl <| og (Gd rfl rfl) rfl <| Run.Wd ?_
 rcases btf ((!(a3 == (0 : Int)))) with hc27 | hc27
 ·have h := Tm hc27 h
  refine Run.Wf rfl hc27 ?_
  refine Run.seq (Run.region ?_)
  refine mv rfl rfl <| av rfl rfl <| av rfl rfl <| Run.Wd ?_
  cases h
  exact Run.ret Tryz.func21 rfl (Tc rfl (Tc rfl Te)) rfl
 ·have h := Tn hc27 h
  refine Run.We rfl hc27 ?_
  refine Run.skip (Run.seq (Run.seq (Run.region ?_)))
  refine mv rfl rfl <| og (T4 rfl z19) rfl <| og (Q6 rfl rfl (Qr (j := 0) rfl z4s)) rfl <| og (Tb rfl (b.cells (i := 0) rfl 4 rfl) T5 z4q) rfl <| og (Q3 rfl u z1u) rfl <| og (Vb rfl rfl) rfl ?_
  obtain ⟨a4, n, h⟩ := T8 h
  refine Run.callP T7 (Tl rfl z7z z7v) rfl (z0x F a1 (0 : Int) (w64 ((a0.Data.e0.length : Int) - 1)) _ _ n) <| og (Jh rfl) rfl <| Run.Wd ?_
  rcases btf ((!a4)) with d | d
  ·have h := Tm d h
   refine Run.Wf rfl d ?_
   refine Run.seq (Run.region ?_)
   refine av rfl rfl <| av rfl rfl <| Run.Wd ?_
   cases h
   exact Run.ret Tryz.func21 rfl (Tc rfl (Tc rfl Te)) rfl
  ·have h := Tn d h
   refine Run.We rfl d ?_
   refine Run.skip (Run.seq ?_)
   refine Run.drawG z78 <| df rfl (T4 rfl z1r) rfl <| df rfl (Tb rfl (b.cells (i := 0) rfl 0 rfl) T5 z3q) rfl <| df rfl (T4 rfl z1r) rfl <| df rfl (Tb rfl (b.cells (i := 0) rfl 0 rfl) T5 z3q) rfl <| df rfl (Tk rfl) rfl ?_
   obtain ⟨a9, p, h⟩ := T8 h
   refine DrawG.callP rfl T7 (Tl rfl z9n z9k) rfl (z3e F a0.Duties a1 s0 _ _ (b.slcF q) p) (G4 rfl (Yy T7 (Tb rfl (b.cells (i := 0) rfl 0 rfl) T5 z3q)) rfl rfl (G2 q) (G4 rfl (Yy T7 (T4 rfl z1r)) rfl rfl rfl Gx)) ?_
   obtain ⟨b0, e, h⟩ := T8 h
   obtain ⟨a8, a7, _, e, f, rfl⟩ := Jc (P := Tryz.prog) (t := 32) (kk := .i64) q e z7w
   refine df rfl (Q6 rfl rfl e) rfl ?_
   have g := (f.fld (o := 0) rfl)
   refine df rfl (T4 rfl z44) rfl <| df rfl (Tb rfl (b.ptrF g) T5 z87) rfl <| df rfl (G8 rfl) rfl <| df rfl (G8 rfl) rfl <| DrawG.sync <| DrawG.nil ?_
   cases h
   exact Run.ret Tryz.func21 rfl (Tc rfl (Tc rfl Te)) rfl
theorem zc7 : J8 Tryz.prog 21 = none := by kernel_rfl
theorem zb7 : Ts Tryz.prog 21 = true := by kernel_rfl
theorem z7l : Jy Tryz.prog 46 1 = some 1 := by kernel_rfl
def z0h (a : Bool) : List SV := [(.bool a)]
theorem z06 (a : Bool) : (z0h a).length = 1 := rfl
theorem z2x (a : Bool) : Zn (z0h a) = true := rfl
abbrev z7c (r : Int) : SV → Mem → Prop := fun s _ => s = (.int .i64 r)
def Zh (F : Nat) (d : Th) : Option Int :=
 bnd (J7 F (Tz.mk d.Duties d.Work d.Vetoes d.Data)) fun b =>
 some b
theorem z64 (F : Nat) (a0 : Th) (s0 s1 s2 s3 s4 s5 : SV) (r : Int) (M : Mem) (n : Slc (rd M) 3 (Ta Q9) s0 a0.Duties) (p : Slc (rd M) 2 (Ta Tg) s1 a0.Work) (q : Slc (rd M) 2 (Tf (rd M)) s2 a0.Vetoes.e0) (u : Slc (rd M) 2 (Tf (rd M)) s3 a0.Vetoes.e1) (w : Slc (rd M) 1 (Ta Qd) s4 a0.Data.e0) (x : Slc (rd M) 1 (Ta Qd) s5 a0.Data.e1) (h : Zh F a0 = some r) : CallsM Tryz.prog 12 [(.agg [s0, s1, s2, s3, s4, s5])] M (fun s M' => s = (.int .i64 r) ∧ M' = M) := by
 refine CallsM.plain Tryz.func12 rfl rfl rfl (show Run _ _ _ (z7c r) _ _ _ from ?_)
 rw [Zh] at h
 replace n := n.mono (T3 M) (fun _ _ h => h)
 replace p := p.mono (T3 M) (fun _ _ h => h)
 replace q := q.mono (T3 M) (fun _ _ => z00 (T3 M))
 replace u := u.mono (T3 M) (fun _ _ => z00 (T3 M))
 replace w := w.mono (T3 M) (fun _ _ h => h)
 replace x := x.mono (T3 M) (fun _ _ h => h)
 have hH := Has.nil (frozen M)
 refine Run.seq (Run.region ?_)
 refine ox rfl (ExG.box rfl rfl hH) ?_
 rintro _ a4 ⟨a1, rfl, f⟩
 refine av rfl rfl ?_
 refine Run.Wd (Run.seq (Run.region ?_))
 refine og (Tj rfl (f.cells (i := 0) rfl 0 rfl) T5 z1c rfl rfl rfl) rfl <| Run.enter T7 (Tl rfl z8n z8i) Tryz.func35 rfl rfl ?_
 refine Run.seq (Run.region ?_)
 refine ox rfl (ExG.box rfl rfl f) ?_
 rintro _ a5 ⟨a2, rfl, g⟩
 refine ox rfl (ExG.new (v := fun b => .ptr b 0) (Jz z71) g) ?_
 rintro _ a6 ⟨a3, rfl, e⟩
 refine Run.Wd (Run.seq (Run.region ?_))
 refine og (T4 rfl z1r) rfl <| og (Tb rfl (e.cells (i := 1) rfl 0 rfl) T5 z3q) rfl <| og (T4 rfl z2a) rfl <| og (Tb rfl (e.cells (i := 1) rfl 1 rfl) T5 z2w) rfl <| og (T4 rfl z2t) rfl <| og (Tj rfl (e.cells (i := 1) rfl 2 rfl) T5 z8b rfl rfl rfl) rfl <| og (T4 rfl z19) rfl <| og (Tj rfl (e.cells (i := 1) rfl 4 rfl) T5 z8c rfl rfl rfl) rfl <| og (Yk (r := [s0, s1, s2, s3, s4, s5]) rfl z71 z8u (by simp only [Zw, Gk (Qa n), Gk (Qa p)]; rfl)) rfl <| ox rfl (ExG.Wg (c' := [s0, s1, s2, s3, s4, s5]) rfl rfl rfl e (i := 0) rfl z9r rfl rfl rfl (Q0 (Qa n) (Q0 (Qa p) (Q0 (Qa q) (Q0 (Qa u) (Q0 (Qa w) (Q0 (Qa x) Ym)))))) rfl) ?_
 rintro _ y ⟨rfl, (d : Has (ro (frozen M)) y [.obj a3 (.row 85 .whole [s0, s1, s2, s3, s4, s5]), .obj a2 (.row 38 .whole [s0, s1, s2, s3, s4, s5]), .obj a1 (.row 38 .whole [s0, s1, s2, s3, s4, s5])])⟩
 refine Run.Wd <| Run.Wi Tryz.func35 rfl (Ze rfl (Vn (Tj rfl (d.cells (i := 0) rfl 0 rfl) T5 z4r rfl rfl rfl)) Te) rfl ?_
 obtain ⟨a7, m, h⟩ := T8 h
 refine Run.callP T7 (Tl rfl zaq za2) rfl (z3a F (Tz.mk a0.Duties a0.Work a0.Vetoes a0.Data) s0 s1 s2 s3 s4 s5 _ _ (d.slcF n) (d.slcF p) ((q).mono d.le (fun _ _ => z00 d.le)) ((u).mono d.le (fun _ _ => z00 d.le)) (d.slcF w) (d.slcF x) m) <| av rfl rfl <| Run.Wd ?_
 cases h
 exact Run.ret Tryz.func12 rfl (Tc rfl Te) rfl
theorem zak : J8 Tryz.prog 12 = none := by kernel_rfl
theorem z9w : Ts Tryz.prog 12 = true := by kernel_rfl
abbrev z4y (r : Bool) : SV → Mem → Prop := fun s _ => s = (.bool r)
def Y6 (F : Nat) (d : Int) : Option Bool :=
 bnd (Gh F (0 : Int) d (1 : Int)) fun b =>
 some b
theorem z61 (F : Nat) (e : Int) (r : Bool) (M : Mem) (h : Y6 F e = some r) : CallsM Tryz.prog 54 [(.int .i64 e)] M (fun s M' => s = (.bool r) ∧ M' = M) := by
 refine CallsM.plain Tryz.func54 rfl rfl rfl (show Run _ _ _ (z4y r) _ _ _ from ?_)
 rw [Y6] at h
 have hH := Has.nil (frozen M)
 refine Run.seq (Run.region ?_)
 refine av rfl rfl ?_
 refine Run.Wd (Run.seq (Run.region ?_))
 refine mv rfl rfl ?_
 obtain ⟨d, b, h⟩ := T8 h
 refine Run.callP T7 (Tl rfl z8e z8d) rfl (z12 F (0 : Int) e (1 : Int) _ _ b) <| av rfl rfl <| Run.Wd ?_
 cases h
 exact Run.ret Tryz.func54 rfl (Tc rfl Te) rfl
theorem zch : J8 Tryz.prog 54 = none := by kernel_rfl
theorem zbh : Ts Tryz.prog 54 = true := by kernel_rfl
abbrev z3t (r : Int) : SV → Mem → Prop := fun s _ => s = (.int .i64 r)
def Ki (F : Nat) (e : Th) (f : Int) : Option Int :=
 bnd (Zh F e) fun b =>
 bif (!(b == (0 : Int))) then
  some b
 else
  bnd (Y6 F f) fun d =>
  bif (!d) then
   some (8 : Int)
  else
   some (0 : Int)
theorem z1x (F : Nat) (a0 : Th) (a1 : Int) (s0 s1 s2 s3 s4 s5 : SV) (r : Int) (M : Mem) (g : Slc (rd M) 3 (Ta Q9) s0 a0.Duties) (m : Slc (rd M) 2 (Ta Tg) s1 a0.Work) (n : Slc (rd M) 2 (Tf (rd M)) s2 a0.Vetoes.e0) (p : Slc (rd M) 2 (Tf (rd M)) s3 a0.Vetoes.e1) (q : Slc (rd M) 1 (Ta Qd) s4 a0.Data.e0) (u : Slc (rd M) 1 (Ta Qd) s5 a0.Data.e1) (h : Ki F a0 a1 = some r) : CallsM Tryz.prog 39 [(.agg [s0, s1, s2, s3, s4, s5]), (.int .i64 a1)] M (fun s M' => s = (.int .i64 r) ∧ M' = M) := by
 refine CallsM.plain Tryz.func39 rfl rfl rfl (show Run _ _ _ (z3t r) _ _ _ from ?_)
 rw [Ki] at h
 replace g := g.mono (T3 M) (fun _ _ h => h)
 replace m := m.mono (T3 M) (fun _ _ h => h)
 replace n := n.mono (T3 M) (fun _ _ => z00 (T3 M))
 replace p := p.mono (T3 M) (fun _ _ => z00 (T3 M))
 replace q := q.mono (T3 M) (fun _ _ h => h)
 replace u := u.mono (T3 M) (fun _ _ h => h)
 have hH := Has.nil (frozen M)
 refine Run.seq (Run.region ?_)
 refine ox rfl (ExG.box rfl rfl hH) ?_
 rintro _ y ⟨a2, rfl, b⟩
 refine av rfl rfl ?_
 refine Run.Wd (Run.seq (Run.seq (Run.region ?_)))
 refine og (Tj rfl (b.cells (i := 0) rfl 0 rfl) T5 z1c rfl rfl rfl) rfl ?_
 obtain ⟨w, e, h⟩ := T8 h
 refine Run.callP T7 (Tl rfl zak z9w) rfl (z64 F a0 s0 s1 s2 s3 s4 s5 _ _ (b.slcF g) (b.slcF m) ((n).mono b.le (fun _ _ => z00 b.le)) ((p).mono b.le (fun _ _ => z00 b.le)) (b.slcF q) (b.slcF u) e) <| av rfl rfl ?_
 refine Run.Wd (Run.block (Run.seq (Run.region ?_)))
 refine mv rfl rfl <| og (Gd rfl rfl) rfl <| av rfl rfl <| Run.Wd ?_
 rcases btf ((!(w == (0 : Int)))) with hc27 | hc27
 ·have h := Tm hc27 h
  refine Run.Wf rfl hc27 ?_
  refine Run.seq (Run.region ?_)
  refine mv rfl rfl <| av rfl rfl <| Run.Wd ?_
  cases h
  exact Run.ret Tryz.func39 rfl (Tc rfl Te) rfl
 ·have h := Tn hc27 h
  refine Run.We rfl hc27 ?_
  refine Run.seq (Run.region ?_)
  refine mv rfl rfl ?_
  obtain ⟨x, f, h⟩ := T8 h
  refine Run.callP T7 (Tl rfl zch zbh) rfl (z61 F a1 _ _ f) <| og (Jh rfl) rfl <| av rfl rfl <| Run.Wd ?_
  rcases btf ((!x)) with d | d
  ·have h := Tm d h
   refine Run.Wf rfl d ?_
   refine Run.seq (Run.region ?_)
   refine av rfl rfl <| Run.Wd ?_
   cases h
   exact Run.ret Tryz.func39 rfl (Tc rfl Te) rfl
  ·have h := Tn d h
   refine Run.We rfl d ?_
   refine Run.skip (Run.inBlock (Run.seq (Run.region ?_)))
   refine av rfl rfl <| Run.Wd ?_
   cases h
   exact Run.ret Tryz.func39 rfl (Tc rfl Te) rfl
theorem zar : J8 Tryz.prog 39 = none := by kernel_rfl
theorem za3 : Ts Tryz.prog 39 = true := by kernel_rfl
theorem z7x : Jx Tryz.prog 48 = some (⟨1, 1, [(.bool false)], 4⟩ : Elt) := by kernel_rfl
theorem z5c : Vr Tryz.prog 48 = some .sl := by kernel_rfl
theorem z8a : uvK Tryz.prog 3 157 = none := by kernel_rfl
theorem z88 : cvK Tryz.prog 3 157 = some (.int .u64) := by kernel_rfl
abbrev z6o (r : Int × Int) : SV → Mem → Prop := fun s _ => s = (.tuple [(.int .u64 r.1), (.int .u64 r.2)])
def z5u (F : Nat) (f g : Int) : Option (Int × Int) :=
 bnd (bitZ Nat.land .u64 f (4294967295 : Int)) fun d =>
 bnd (bitZ Nat.land .u64 g (4294967295 : Int)) fun b =>
 bnd (bitZ Nat.land .u64 (IntKind.wrap .u64 ((IntKind.wrap .u64 ((Int.fdiv f (2 ^ (min 32 (IntKind.bits .u64)))) * b)) + (Int.fdiv (IntKind.wrap .u64 (d * b)) (2 ^ (min 32 (IntKind.bits .u64)))))) (4294967295 : Int)) fun e =>
 some ((IntKind.wrap .u64 ((IntKind.wrap .u64 ((IntKind.wrap .u64 ((Int.fdiv f (2 ^ (min 32 (IntKind.bits .u64)))) * (Int.fdiv g (2 ^ (min 32 (IntKind.bits .u64)))))) + (Int.fdiv (IntKind.wrap .u64 ((IntKind.wrap .u64 ((Int.fdiv f (2 ^ (min 32 (IntKind.bits .u64)))) * b)) + (Int.fdiv (IntKind.wrap .u64 (d * b)) (2 ^ (min 32 (IntKind.bits .u64)))))) (2 ^ (min 32 (IntKind.bits .u64)))))) + (Int.fdiv (IntKind.wrap .u64 (e + (IntKind.wrap .u64 (d * (Int.fdiv g (2 ^ (min 32 (IntKind.bits .u64)))))))) (2 ^ (min 32 (IntKind.bits .u64)))))), (IntKind.wrap .u64 (f * g)))
theorem z7j (F : Nat) (n p : Int) (r : Int × Int) (M : Mem) (h : z5u F n p = some r) : CallsM Tryz.prog 133 [(.int .u64 n), (.int .u64 p)] M (fun s M' => s = (.tuple [(.int .u64 r.1), (.int .u64 r.2)]) ∧ M' = M) := by
 refine CallsM.plain Tryz.func133 rfl rfl rfl (show Run _ _ _ (z6o r) _ _ _ from ?_)
 rw [z5u] at h
 have hH := Has.nil (frozen M)
 refine Run.seq (Run.region ?_)
 refine av rfl rfl <| av rfl rfl ?_
 refine Run.Wd (Run.seq (Run.region ?_))
 refine mv rfl rfl ?_
 obtain ⟨f, b, h⟩ := T8 h
 refine og (ex_and rfl rfl b) rfl <| av rfl rfl ?_
 refine Run.Wd (Run.seq (Run.region ?_))
 refine mv rfl rfl <| og (ex_shr (j := 32) rfl rfl) rfl <| av rfl rfl ?_
 refine Run.Wd (Run.seq (Run.region ?_))
 refine mv rfl rfl ?_
 obtain ⟨g, d, h⟩ := T8 h
 refine og (ex_and rfl rfl d) rfl <| av rfl rfl ?_
 refine Run.Wd (Run.seq (Run.region ?_))
 refine mv rfl rfl <| og (ex_shr (j := 32) rfl rfl) rfl <| av rfl rfl ?_
 refine Run.Wd (Run.seq (Run.region ?_))
 refine mv rfl rfl <| mv rfl rfl <| og (ex_mul rfl rfl) rfl <| av rfl rfl ?_
 refine Run.Wd (Run.seq (Run.region ?_))
 refine mv rfl rfl <| mv rfl rfl <| og (ex_mul rfl rfl) rfl <| mv rfl rfl <| og (ex_shr (j := 32) rfl rfl) rfl <| og (Qq rfl rfl) rfl <| av rfl rfl ?_
 refine Run.Wd (Run.seq (Run.region ?_))
 refine mv rfl rfl ?_
 obtain ⟨m, e, h⟩ := T8 h
 refine og (ex_and rfl rfl e) rfl <| av rfl rfl ?_
 refine Run.Wd (Run.seq (Run.region ?_))
 refine mv rfl rfl <| og (ex_shr (j := 32) rfl rfl) rfl <| av rfl rfl ?_
 refine Run.Wd (Run.seq (Run.region ?_))
 refine mv rfl rfl <| mv rfl rfl <| mv rfl rfl <| og (ex_mul rfl rfl) rfl <| og (Qq rfl rfl) rfl <| av rfl rfl ?_
 refine Run.Wd (Run.seq (Run.region ?_))
 refine mv rfl rfl <| mv rfl rfl <| og (ex_mul rfl rfl) rfl <| mv rfl rfl <| og (Qq rfl rfl) rfl <| mv rfl rfl <| og (ex_shr (j := 32) rfl rfl) rfl <| og (Qq rfl rfl) rfl <| av rfl rfl ?_
 refine Run.Wd (Run.seq (Run.region ?_))
 refine mv rfl rfl <| mv rfl rfl <| og (ex_mul rfl rfl) rfl <| av rfl rfl <| Run.Wd ?_
 cases h
 exact Run.ret Tryz.func133 rfl (Tc rfl (Tc rfl Te)) rfl
theorem zan : J8 Tryz.prog 133 = none := by kernel_rfl
theorem z9z : Ts Tryz.prog 133 = true := by kernel_rfl
abbrev z7k (r : Int × Int) : SV → Mem → Prop := fun s _ => s = (.tuple [(.int .u64 r.1), (.int .u64 r.2)])
def V7 (F : Nat) (d e : Int) : Option (Int × Int) :=
 bnd (z5u F d e) fun b =>
 some (b.1, b.2)
theorem z83 (F : Nat) (e f : Int) (r : Int × Int) (M : Mem) (h : V7 F e f = some r) : CallsM Tryz.prog 96 [(.int .u64 e), (.int .u64 f)] M (fun s M' => s = (.tuple [(.int .u64 r.1), (.int .u64 r.2)]) ∧ M' = M) := by
 refine CallsM.plain Tryz.func96 rfl rfl rfl (show Run _ _ _ (z7k r) _ _ _ from ?_)
 rw [V7] at h
 have hH := Has.nil (frozen M)
 refine Run.seq (Run.region ?_)
 refine av rfl rfl <| av rfl rfl ?_
 refine Run.Wd (Run.seq ?_)
 refine Run.We rfl rfl ?_
 refine Run.skip (Run.seq (Run.region ?_))
 refine mv rfl rfl <| mv rfl rfl ?_
 obtain ⟨d, b, h⟩ := T8 h
 refine Run.callP T7 (Tl rfl zan z9z) rfl (z7j F e f _ _ b) <| mv rfl rfl <| og (Qm rfl rfl) rfl <| og (Qm rfl rfl) rfl <| av rfl rfl <| av rfl rfl ?_
 refine Run.Wd (Run.seq (Run.region ?_))
 refine mv rfl rfl <| mv rfl rfl <| av rfl rfl <| av rfl rfl <| Run.Wd ?_
 cases h
 exact Run.ret Tryz.func96 rfl (Tc rfl (Tc rfl Te)) rfl
theorem zcy : J8 Tryz.prog 96 = none := by kernel_rfl
theorem zby : Ts Tryz.prog 96 = true := by kernel_rfl
theorem z98 : uvK Tryz.prog 157 3 = none := by kernel_rfl
theorem z90 : cvK Tryz.prog 157 3 = some (.int .i64) := by kernel_rfl
theorem z97 : slK Tryz.prog 48 = some (.sl 1) := by kernel_rfl
theorem z1y : Gy Tryz.prog (Vu (atC Tryz.prog 66 [1, 1, 1, 1, 1, 1, 0, 0, 0, 1, 0])) = some [.fl 0, .fl 1, .fl 2, .fl 3, .fl 4, .fl 5, .fl 6, .an 7 [0], .fl 8, .an 9 [], .sync] := by kernel_rfl
abbrev z0m (r : List Bool) : SV → Mem → Prop := fun s Me => ∃ q1, s = q1 ∧ Has (fun _ => none) Me [.vec 4 1 r.length q1 (r.flatMap z0h)]
def K8 (F : Nat) : Nat → Int → List Bool → Option ((List Bool))
 | 0, _, _ => none
 | N + 1, m, b =>
  bif (decide (m < (b.length : Int))) then
   bnd (subP b.length m ((b.length : Nat) : Int)) fun d =>
   bnd (subP b.length 0 m) fun e =>
   bnd (parL b (0 + e.1) e.2) fun f =>
   bnd (cpyP b (0 + d.1) d.2 f) fun g =>
   (K8 F N) (w64 (m + ((min f.length d.2 : Nat) : Int))) g
  else
   some b
theorem z5s (F : Nat) : ∀ (N : Nat), ∀ (v8 : Int) (x : List Bool) (y : SV) (Fr : Rd) (M : Mem) (r : List Bool) (hH : Has Fr M [.vec 4 1 x.length y (x.flatMap z0h)]), K8 F N v8 x = some r → Run Tryz.prog ⟨⟨66, [], none⟩, []⟩ 48 (z0m r) [(7, y), (8, (.int .i64 v8))] [T6 Tryz.prog 66 [1, 1, 1, 1, 1, 1, 0, 0, 0], Tv Tryz.prog 66 [1, 1, 1, 1, 1, 1, 0, 0, 0], .inBlock 0, T6 Tryz.prog 66 [1, 1, 1, 1, 1, 1, 1]] M := by
 intro N
 induction N with
 | zero =>
  intro v8 x y Fr M r hH h
  simp [K8] at h
 | succ N ih =>
  intro v8 x y Fr M r hH h
  rw [K8] at h
  refine Run.seq (Run.seq (Run.region ?_))
  refine mv rfl rfl <| mv rfl rfl <| og (Q3 rfl (hH.slc (i := 0) rfl z06) z5c) rfl <| og (Qz rfl rfl) rfl <| Run.Wd ?_
  rcases btf ((decide (v8 < (x.length : Int)))) with hc33 | hc33
  ·have h := Tm hc33 h
   refine Run.Wf rfl hc33 ?_
   refine Run.skip (Run.block ?_)
   refine Run.drawG z1y <| df rfl (Tk rfl) rfl <| df rfl (Tk rfl) rfl <| df rfl (Tk rfl) rfl ?_
   obtain ⟨a2, d, h⟩ := T8 h
   have p := V6 hH (i := 0) rfl
   obtain ⟨a5, u, m⟩ := part_cutL (P := Tryz.prog) (t := 48) (k0 := .i64) p d z97
   refine df rfl (ex_slX rfl (Zb rfl) (argO_none) u) rfl <| df rfl (Tk rfl) rfl <| df rfl (Tk rfl) rfl ?_
   obtain ⟨a4, e, h⟩ := T8 h
   have q := V6 hH (i := 0) rfl
   obtain ⟨a6, w, n⟩ := part_cutH (P := Tryz.prog) (t := 48) (k0 := .i64) q e z97
   refine df rfl (ex_slX rfl (argO_none) (Zb rfl) w) rfl ?_
   obtain ⟨a3, g, h⟩ := T8 h
   obtain ⟨a0, f, h⟩ := T8 h
   have s := part_slc hH (i := 0) rfl z06 n g
   refine DrawG.opX rfl T7 rfl (ExG.copyP rfl rfl hH (i := 0) rfl m f z7x rfl z06 z2x s (Yp _)) ?_
   rintro _ a1 ⟨rfl, (b : Has Fr a1 [.vec 4 1 a0.length y (a0.flatMap z0h)])⟩
   refine ⟨(G4 rfl (Yy T7 (Tk rfl)) rfl rfl rfl Gx), ?_⟩
   refine df rfl (Qq rfl rfl) rfl <| DrawG.val rfl T7 (G8 rfl) rfl Gx <| DrawG.sync <| DrawG.nil ?_
   refine Run.inBlock (Run.inLoop ?_)
   exact Run.pick [7, 8] (ih (w64 (v8 + ((min a3.length a2.2 : Nat) : Int))) a0 y _ _ _ b h)
  ·have h := Tn hc33 h
   refine Run.We rfl hc33 ?_
   refine Run.exit rfl (Run.seq (Run.region ?_))
   refine mv rfl rfl <| av rfl rfl <| Run.Wd ?_
   cases h
   exact Run.ret Tryz.func66 rfl (Tc rfl Te) ⟨_, rfl, (hH.pick [0] rfl rfl).upF (Kn _)⟩
def Xq (F : Nat) (e : List Bool) (f : Int) : Option ((List Bool)) :=
 bnd (mk (w64 f) 1 false) fun b =>
 bnd (cpyA b e) fun d =>
 K8 F F ((min e.length b.length : Nat) : Int) d
theorem z5r (F : Nat) : ∀ (w : List Bool) (x : Int) (p : SV) (Fr : Rd) (M : Mem) (r : List Bool) (q : Slc Fr 1 (Ta z0h) p w) (hH : Has Fr M []), Xq F w x = some r → Run Tryz.prog ⟨⟨66, [], none⟩, []⟩ 48 (z0m r) [(0, p), (6, (.int .u64 x))] [Tu Tryz.prog 66 [1, 1, 1, 1, 0] 0, T6 Tryz.prog 66 [1, 1, 1, 1, 1]] M := by
 intro w x p Fr M r q hH h
 rw [Xq] at h
 refine mv rfl rfl <| og (ex_conv rfl z98 z90) rfl ?_
 obtain ⟨g, e, h⟩ := T8 h
 refine ox rfl (ExG.make (enc := z0h) (z := 1) rfl rfl e z7x rfl rfl z06 hH) ?_
 rintro n s (b : Has Fr s [.vec 4 1 g.length n (g.flatMap z0h)])
 refine av rfl rfl ?_
 refine Run.Wd (Run.seq (Run.region ?_))
 refine mv rfl rfl <| mv rfl rfl ?_
 obtain ⟨m, f, h⟩ := T8 h
 refine ox rfl (ExG.copyA rfl rfl b (i := 0) rfl f z7x rfl z06 z2x q (rdLe_roF b)) ?_
 rintro _ u ⟨rfl, (d : Has Fr u [.vec 4 1 m.length n (m.flatMap z0h)])⟩
 refine av rfl rfl ?_
 refine Run.Wd (Run.seq (Run.block (Run.loop ?_)))
 exact Run.pick [7, 8] (z5s F F ((min w.length g.length : Nat) : Int) m n _ _ _ d h)
def G6 (F : Nat) (d : List Bool) (e : Int) (b : Bool) : Option ((List Bool)) :=
 bif b then
  none
 else
  Xq F d e
theorem z2s (F : Nat) : ∀ (g : List Bool) (m : Int) (e : Bool) (d : SV) (Fr : Rd) (M : Mem) (r : List Bool) (f : Slc Fr 1 (Ta z0h) d g) (hH : Has Fr M []), G6 F g m e = some r → Run Tryz.prog ⟨⟨66, [], none⟩, []⟩ 48 (z0m r) [(0, d), (6, (.int .u64 m)), (26, (.bool e))] [T6 Tryz.prog 66 [1, 1, 1, 0, 1], T6 Tryz.prog 66 [1, 1, 1, 1]] M := by
 intro g m e d Fr M r f hH h
 rw [G6] at h
 rcases btf (e) with b | b
 ·have h := Tm b h
  refine Run.Wf rfl b <| Run.region ?_
  cases h
 ·have h := Tn b h
  refine Run.We rfl b ?_
  refine Run.skip (Run.seq (Run.region ?_))
  exact Run.pick [0, 6] (z5r F g m d _ _ _ f hH h)
def Xe (F : Nat) (d : List Bool) (e : Int) : Option ((List Bool)) :=
 bnd (V7 F (IntKind.wrap .u64 (d.length : Int)) (IntKind.wrap .u64 e)) fun b =>
 bif (decide ((0 : Int) < b.1)) then
  G6 F d b.2 true
 else
  G6 F d b.2 (decide ((9223372036854775807 : Int) < b.2))
theorem z5q (F : Nat) : ∀ (g : List Bool) (m : Int) (d : SV) (Fr : Rd) (M : Mem) (r : List Bool) (e : Slc Fr 1 (Ta z0h) d g) (hH : Has Fr M []), Xe F g m = some r → Run Tryz.prog ⟨⟨66, [], none⟩, []⟩ 48 (z0m r) [(0, d), (1, (.int .i64 m))] [Tu Tryz.prog 66 [1, 1, 0] 0, T6 Tryz.prog 66 [1, 1, 1]] M := by
 intro g m d Fr M r e hH h
 rw [Xe] at h
 refine mv rfl rfl <| og (Q3 rfl e z5c) rfl <| og (ex_conv rfl z8a z88) rfl <| mv rfl rfl <| og (ex_conv rfl z8a z88) rfl ?_
 obtain ⟨f, b, h⟩ := T8 h
 refine Run.callP T7 (Tl rfl zcy zby) rfl (z83 F (IntKind.wrap .u64 (g.length : Int)) (IntKind.wrap .u64 m) _ _ b) <| mv rfl rfl <| og (Qm rfl rfl) rfl <| og (Qm rfl rfl) rfl <| av rfl rfl <| av rfl rfl ?_
 refine Run.Wd (Run.seq (Run.seq (Run.region ?_)))
 refine mv rfl rfl <| og (Xw rfl rfl) rfl <| mv rfl rfl ?_
 rcases btf ((decide ((0 : Int) < f.1))) with hc25 | hc25
 ·have h := Tm hc25 h
  refine gn rfl rfl hc25 rfl <| gn rfl rfl hc25 rfl <| og (Tr rfl hc25 rfl rfl) rfl <| Run.Wd ?_
  exact Run.pick [0, 6, 26] (z2s F g f.2 true d _ _ _ e hH h)
 ·have h := Tn hc25 h
  refine gy rfl rfl hc25 (Tk rfl) rfl <| gy rfl rfl hc25 (Xw rfl rfl) rfl <| og (Tt rfl hc25 rfl rfl) rfl <| Run.Wd ?_
  exact Run.pick [0, 6, 26] (z2s F g f.2 (decide ((9223372036854775807 : Int) < f.2)) d _ _ _ e hH h)
def Xh (F : Nat) (d : List Bool) (b : Int) : Option ((List Bool)) :=
 bif (decide (b < (0 : Int))) then
  none
 else
  Xe F d b
theorem z6n (F : Nat) (e : List Bool) (d : Int) (g : SV) (r : List Bool) (M : Mem) (b : Slc (rd M) 1 (Ta z0h) g e) (h : Xh F e d = some r) : CallsM Tryz.prog 66 [g, (.int .i64 d)] M (fun s M' => ∃ f, s = f ∧ New M M' [.vec 4 1 r.length f (r.flatMap z0h)]) := by
 refine CallsM.fresh (Q := z0m r) Tryz.func66 rfl rfl ?_ (by rintro s Me ⟨f, rfl, hx⟩ ha hw; exact ⟨_, rfl, New.of rfl hx ha hw⟩)
 rw [Xh] at h
 replace b := b.mono (T3 M) (fun _ _ h => h)
 have hH := Has.nil (frozen M)
 refine Run.seq (Run.region ?_)
 refine av rfl rfl ?_
 refine Run.Wd (Run.seq (Run.seq (Run.region ?_)))
 refine mv rfl rfl <| og (Qz rfl rfl) rfl <| Run.Wd ?_
 rcases btf ((decide (d < (0 : Int)))) with hc21 | hc21
 ·have h := Tm hc21 h
  refine Run.Wf rfl hc21 <| Run.region ?_
  cases h
 ·have h := Tn hc21 h
  refine Run.We rfl hc21 ?_
  refine Run.skip (Run.seq (Run.region ?_))
  exact Run.pick [0, 1] (z5q F e d g _ _ _ b hH h)
theorem zcn : J8 Tryz.prog 66 = none := by kernel_rfl
theorem zbn : Ts Tryz.prog 66 = true := by kernel_rfl
theorem zd3 : Xd Tryz.prog 48 = some [.nils] := by kernel_rfl
theorem zd9 : Zx Tryz.prog 48 = some 1 := by kernel_rfl
theorem zau : J8 Tryz.prog 67 = none := by kernel_rfl
theorem za6 : Ts Tryz.prog 67 = true := by kernel_rfl
theorem z9i : Jw Tryz.prog 48 = some none := by kernel_rfl
theorem zc1 : Jx Tryz.prog 34 = some (⟨2, 40, [(.str []), .nils], 127⟩ : Elt) := by kernel_rfl
abbrev z2l (r : Bool) : SV → Mem → Prop := fun s _ => s = (.bool r)
def Gl (F : Nat) (b : Bool) : Option Bool :=
 some b
theorem z2k (F : Nat) : ∀ (b : Bool) (Fr : Rd) (M : Mem) (r : Bool) (hH : Has Fr M []), Gl F b = some r → Run Tryz.prog ⟨⟨72, [], none⟩, []⟩ 15 (z2l r) [(14, (.bool b))] [Tu Tryz.prog 72 [1, 0] 8, T6 Tryz.prog 72 [1, 1]] M := by
 intro b Fr M r hH h
 rw [Gl] at h
 refine av rfl rfl <| Run.Wd ?_
 cases h
 exact Run.ret Tryz.func72 rfl (Tc rfl Te) rfl
def Xs (F : Nat) (d b e : Int) : Option Bool :=
 bif (decide (d ≤ b)) then
  Gl F (decide (b ≤ e))
 else
  Gl F false
theorem z69 (F : Nat) (e d f : Int) (r : Bool) (M : Mem) (h : Xs F e d f = some r) : CallsM Tryz.prog 72 [(.int .i64 e), (.int .i64 d), (.int .i64 f)] M (fun s M' => s = (.bool r) ∧ M' = M) := by
 refine CallsM.plain Tryz.func72 rfl rfl rfl (show Run _ _ _ (z2l r) _ _ _ from ?_)
 rw [Xs] at h
 have hH := Has.nil (frozen M)
 refine Run.seq (Run.region ?_)
 refine av rfl rfl ?_
 refine Run.Wd (Run.seq (Run.region ?_))
 refine mv rfl rfl <| mv rfl rfl <| og (Xy rfl rfl) rfl <| mv rfl rfl ?_
 rcases btf ((decide (e ≤ d))) with b | b
 ·have h := Tm b h
  refine gy rfl rfl b (Tk rfl) rfl <| gy rfl rfl b (Tk rfl) rfl <| gy rfl rfl b (Xy rfl rfl) rfl <| og (Tr rfl b rfl rfl) rfl ?_
  exact Run.pick [14] (z2k F (decide (d ≤ f)) _ _ _ hH h)
 ·have h := Tn b h
  refine gn rfl rfl b rfl <| gn rfl rfl b rfl <| gn rfl rfl b rfl <| og (Tt rfl b rfl rfl) rfl ?_
  exact Run.pick [14] (z2k F false _ _ _ hH h)
theorem zcq : J8 Tryz.prog 72 = none := by kernel_rfl
theorem zbq : Ts Tryz.prog 72 = true := by kernel_rfl
abbrev z5b (r : Bool) : SV → Mem → Prop := fun s _ => s = (.bool r)
def Yl (F : Nat) (d : Int) : Option Bool :=
 bnd (Xs F (1 : Int) d (1073741824 : Int)) fun b =>
 some b
theorem z6a (F : Nat) (e : Int) (r : Bool) (M : Mem) (h : Yl F e = some r) : CallsM Tryz.prog 78 [(.int .i64 e)] M (fun s M' => s = (.bool r) ∧ M' = M) := by
 refine CallsM.plain Tryz.func78 rfl rfl rfl (show Run _ _ _ (z5b r) _ _ _ from ?_)
 rw [Yl] at h
 have hH := Has.nil (frozen M)
 refine Run.seq (Run.region ?_)
 refine av rfl rfl ?_
 refine Run.Wd (Run.seq (Run.region ?_))
 refine mv rfl rfl ?_
 obtain ⟨d, b, h⟩ := T8 h
 refine Run.callP T7 (Tl rfl zcq zbq) rfl (z69 F (1 : Int) e (1073741824 : Int) _ _ b) <| av rfl rfl <| Run.Wd ?_
 cases h
 exact Run.ret Tryz.func78 rfl (Tc rfl Te) rfl
theorem zcr : J8 Tryz.prog 78 = none := by kernel_rfl
theorem zbr : Ts Tryz.prog 78 = true := by kernel_rfl
abbrev z3x (r : Int) : SV → Mem → Prop := fun s _ => s = (.int .i64 r)
def Gc (F : Nat) (e : List T2) (f : Int) : Option Int :=
 bnd (Qi F e) fun b =>
 bif (!b) then
  some (63 : Int)
 else
  bnd (Yl F f) fun d =>
  bif (!d) then
   some (8 : Int)
  else
   some (0 : Int)
theorem z4v (F : Nat) (p : List T2) (q : Int) (u : SV) (r : Int) (M : Mem) (g : Slc (rd M) 2 (Tf (rd M)) u p) (h : Gc F p q = some r) : CallsM Tryz.prog 46 [u, (.int .i64 q)] M (fun s M' => s = (.int .i64 r) ∧ M' = M) := by
 refine CallsM.plain Tryz.func46 rfl rfl rfl (show Run _ _ _ (z3x r) _ _ _ from ?_)
 rw [Gc] at h
 replace g := g.mono (T3 M) (fun _ _ => z00 (T3 M))
 have hH := Has.nil (frozen M)
 refine Run.seq (Run.region ?_)
 refine av rfl rfl ?_
 refine Run.Wd (Run.seq (Run.block (Run.seq (Run.region ?_))))
 refine mv rfl rfl ?_
 obtain ⟨m, e, h⟩ := T8 h
 refine Run.callP T7 (Tl rfl zas za4) rfl (z28 F p u _ _ ((g).mono hH.le (fun _ _ => z00 hH.le)) e) <| og (Jh rfl) rfl <| av rfl rfl <| Run.Wd ?_
 rcases btf ((!m)) with b | b
 ·have h := Tm b h
  refine Run.Wf rfl b ?_
  refine Run.seq (Run.region ?_)
  refine av rfl rfl <| Run.Wd ?_
  cases h
  exact Run.ret Tryz.func46 rfl (Tc rfl Te) rfl
 ·have h := Tn b h
  refine Run.We rfl b ?_
  refine Run.seq (Run.region ?_)
  refine mv rfl rfl ?_
  obtain ⟨n, f, h⟩ := T8 h
  refine Run.callP T7 (Tl rfl zcr zbr) rfl (z6a F q _ _ f) <| og (Jh rfl) rfl <| av rfl rfl <| Run.Wd ?_
  rcases btf ((!n)) with d | d
  ·have h := Tm d h
   refine Run.Wf rfl d ?_
   refine Run.seq (Run.region ?_)
   refine av rfl rfl <| Run.Wd ?_
   cases h
   exact Run.ret Tryz.func46 rfl (Tc rfl Te) rfl
  ·have h := Tn d h
   refine Run.We rfl d ?_
   refine Run.skip (Run.inBlock (Run.seq (Run.region ?_)))
   refine av rfl rfl <| Run.Wd ?_
   cases h
   exact Run.ret Tryz.func46 rfl (Tc rfl Te) rfl
theorem zcf : J8 Tryz.prog 46 = none := by kernel_rfl
theorem zbf : Ts Tryz.prog 46 = true := by kernel_rfl
theorem zag : J8 Tryz.prog 101 = none := by kernel_rfl
theorem z9s : Ts Tryz.prog 101 = true := by kernel_rfl
theorem zah : J8 Tryz.prog 102 = none := by kernel_rfl
theorem z9t : Ts Tryz.prog 102 = true := by kernel_rfl
theorem sz3 : Zx Tryz.prog 3 = some 1 := by kernel_rfl
theorem zad : Jx Tryz.prog 33 = some (⟨2, 16, [(.int .i64 0), (.int .i64 0)], 106⟩ : Elt) := by kernel_rfl
theorem z7u : appT Tryz.prog 33 33 = some (⟨2, 16, [(.int .i64 0), (.int .i64 0)], 106⟩ : Elt) := by kernel_rfl
theorem z7m : Gy Tryz.prog (Vu (atC Tryz.prog 102 [1, 1, 0])) = some [.fl 0, .fl 1, .fl 2, .fl 3, .fl 4, .fl 5, .an 6 [5, 4, 3, 2, 1], .fl 7, .sync] := by kernel_rfl
theorem zai : J8 Tryz.prog 103 = none := by kernel_rfl
theorem z9u : Ts Tryz.prog 103 = true := by kernel_rfl
theorem z11 : Gy Tryz.prog (Vu (atC Tryz.prog 79 [1, 1, 1, 1, 0, 1, 0, 0, 1, 1, 0, 0, 1, 1, 1, 0])) = some [.fl 0, .fl 1, .fl 2, .fl 3, .fl 4, .fl 5, .fl 6, .fl 7, .fl 8, .fl 9, .fl 10, .fl 11, .an 12 [], .sync] := by kernel_rfl
theorem z16 : Gy Tryz.prog (Vu (atC Tryz.prog 79 [1, 1, 1, 1, 0, 1, 0, 0, 1, 1, 0, 0, 1, 1, 0])) = some [.fl 0, .fl 1, .fl 2, .fl 3, .fl 4, .fl 5, .fl 6, .fl 7, .fl 8, .fl 9, .fl 10, .fl 11, .sync] := by kernel_rfl
abbrev z0a (r : List T0) : SV → Mem → Prop := fun s Me => ∃ q1, s = q1 ∧ Has (fun _ => none) Me [.vec 106 2 r.length q1 (r.flatMap Tg)]
def Xp (F : Nat) (d : (List T0) → Int → Int → Int → List T0 → Option ((List T0))) (f : List T0) (g m b : Int) (e : List T0) : Option ((List T0)) :=
 d f g (w64 (m + 1)) b e
theorem z3f (F : Nat) (w : (List T0) → Int → Int → Int → List T0 → Option ((List T0))) (f : ∀ (m : List T0) (n p b : Int) (u : List T0) (d : SV) (g : Pos) (x : SV) (Fr : Rd) (M : Mem) (r : List T0) (e : Slc Fr 2 (Ta Tg) d m) (hH : Has Fr M [.obj g (.row 3 .whole [(.int .i64 b)]), .vec 106 2 u.length x (u.flatMap Tg)]), w m n p b u = some r → Run Tryz.prog ⟨⟨101, [], none⟩, [.mk ⟨79, [], none⟩ 54 (treeOf []) [Tu Tryz.prog 79 [1, 0] 2, T6 Tryz.prog 79 [1, 1]]]⟩ 29 (z0a r) [(1, (.fn (.func 102) [] [(.ptr g 0)])), (5, x), (10, d), (11, (.int .i64 n)), (12, (.int .i64 p))] [T6 Tryz.prog 101 [1, 1, 0, 1, 0, 0], Tv Tryz.prog 101 [1, 1, 0, 1, 0, 0], .inBlock 0, T6 Tryz.prog 101 [1, 1, 1]] M) : ∀ (m : List T0) (n p b : Int) (q : List T0) (d : SV) (g : Pos) (s : SV) (Fr : Rd) (M : Mem) (r : List T0) (e : Slc Fr 2 (Ta Tg) d m) (hH : Has Fr M [.obj g (.row 3 .whole [(.int .i64 b)]), .vec 106 2 q.length s (q.flatMap Tg)]), Xp F w m n p b q = some r → Run Tryz.prog ⟨⟨101, [], none⟩, [.mk ⟨79, [], none⟩ 54 (treeOf []) [Tu Tryz.prog 79 [1, 0] 2, T6 Tryz.prog 79 [1, 1]]]⟩ 29 (z0a r) [(1, (.fn (.func 102) [] [(.ptr g 0)])), (5, s), (10, d), (11, (.int .i64 n)), (12, (.int .i64 p))] [Tu Tryz.prog 101 [1, 1, 0, 1, 0, 0, 1, 1, 1] 0, Tv Tryz.prog 101 [1, 1, 0, 1, 0, 0], .inBlock 0, T6 Tryz.prog 101 [1, 1, 1]] M := by
 intro m n p b q d g s Fr M r e hH h
 rw [Xp] at h
 refine og (Qq rfl rfl) rfl <| mv rfl rfl ?_
 refine Run.Wd (Run.inLoop ?_)
 exact Run.low (.cons (Jf [] rfl) .nil) (Run.pick [1, 5, 10, 11, 12] (f m n (w64 (p + 1)) b q d g s _ _ _ e hH h))
def Gq (F : Nat) (b : Int → Int → List T0 → List T0 → Option ((List T0))) (f g : Int) (e d : List T0) : Option ((List T0)) :=
 b f (w64 (g + 1)) e d
theorem z3h (F : Nat) (p : Int → Int → List T0 → List T0 → Option ((List T0))) (b : ∀ (m n : Int) (e d : List T0) (g f : SV) (Fr : Rd) (M : Mem) (r : List T0) (hH : Has Fr M [.vec 106 2 e.length g (e.flatMap Tg), .vec 106 2 d.length f (d.flatMap Tg)]), p m n e d = some r → Run Tryz.prog ⟨⟨79, [], none⟩, []⟩ 54 (z0a r) [(6, g), (15, f), (16, (.int .i64 m)), (17, (.int .i64 n))] [T6 Tryz.prog 79 [1, 1, 1, 1, 0, 1, 0, 0], Tv Tryz.prog 79 [1, 1, 1, 1, 0, 1, 0, 0], .inBlock 0, T6 Tryz.prog 79 [1, 1, 1, 1, 1]] M) : ∀ (m n : Int) (e d : List T0) (g f : SV) (Fr : Rd) (M : Mem) (r : List T0) (hH : Has Fr M [.vec 106 2 e.length g (e.flatMap Tg), .vec 106 2 d.length f (d.flatMap Tg)]), Gq F p m n e d = some r → Run Tryz.prog ⟨⟨79, [], none⟩, []⟩ 54 (z0a r) [(6, g), (15, f), (16, (.int .i64 m)), (17, (.int .i64 n))] [Tu Tryz.prog 79 [1, 1, 1, 1, 0, 1, 0, 0, 1, 1, 1] 0, Tv Tryz.prog 79 [1, 1, 1, 1, 0, 1, 0, 0], .inBlock 0, T6 Tryz.prog 79 [1, 1, 1, 1, 1]] M := by
 intro m n e d g f Fr M r hH h
 rw [Gq] at h
 refine og (Qq rfl rfl) rfl <| mv rfl rfl ?_
 refine Run.Wd (Run.inLoop ?_)
 exact Run.pick [6, 15, 16, 17] (b m (w64 (n + 1)) e d g f _ _ _ hH h)
def Gr (F : Nat) (e : Int → Int → List T0 → List T0 → Option ((List T0))) (x m n : Int) (s : Bool) (d : T0) (b f : List T0) : Option ((List T0)) :=
 bif s then
  bnd (idx b x) fun u =>
  bnd (inn b x) fun g =>
  bnd (b[g]?) fun w =>
  bnd (upd b g (T0.mk w.From (max u.To d.To))) fun p =>
  Gq F e m n p f
 else
  bnd (apd 16 b ([d] : List T0)) fun q =>
  Gq F e m n q f
theorem z3g (F : Nat) (a8 : Int → Int → List T0 → List T0 → Option ((List T0))) (f : ∀ (a5 a6 : Int) (a3 a0 : List T0) (a4 a2 : SV) (Fr : Rd) (M : Mem) (r : List T0) (hH : Has Fr M [.vec 106 2 a3.length a4 (a3.flatMap Tg), .vec 106 2 a0.length a2 (a0.flatMap Tg)]), a8 a5 a6 a3 a0 = some r → Run Tryz.prog ⟨⟨79, [], none⟩, []⟩ 54 (z0a r) [(6, a4), (15, a2), (16, (.int .i64 a5)), (17, (.int .i64 a6))] [T6 Tryz.prog 79 [1, 1, 1, 1, 0, 1, 0, 0], Tv Tryz.prog 79 [1, 1, 1, 1, 0, 1, 0, 0], .inBlock 0, T6 Tryz.prog 79 [1, 1, 1, 1, 1]] M) : ∀ (v9 a5 a6 : Int) (a9 : Bool) (a1 : T0) (a3 a0 : List T0) (a4 : SV) (a7 : Pos) (a2 : SV) (Fr : Rd) (M : Mem) (r : List T0) (hH : Has Fr M [.vec 106 2 a3.length a4 (a3.flatMap Tg), .obj a7 (.row 106 .whole [(.int .i64 a1.From), (.int .i64 a1.To)]), .vec 106 2 a0.length a2 (a0.flatMap Tg)]), Gr F a8 v9 a5 a6 a9 a1 a3 a0 = some r → Run Tryz.prog ⟨⟨79, [], none⟩, []⟩ 54 (z0a r) [(6, a4), (8, (.ptr a7 0)), (9, (.int .i64 v9)), (15, a2), (16, (.int .i64 a5)), (17, (.int .i64 a6)), (35, (.bool a9))] [T6 Tryz.prog 79 [1, 1, 1, 1, 0, 1, 0, 0, 1, 1, 0, 0, 1, 1, 1], .inBlock 1, T6 Tryz.prog 79 [1, 1, 1, 1, 0, 1, 0, 0, 1, 1, 1], Tv Tryz.prog 79 [1, 1, 1, 1, 0, 1, 0, 0], .inBlock 0, T6 Tryz.prog 79 [1, 1, 1, 1, 1]] M := by
 intro v9 a5 a6 a9 a1 a3 a0 a4 a7 a2 Fr M r hH h
 rw [Gr] at h
 rcases btf (a9) with b | b
 ·have h := Tm b h
  refine Run.Wf rfl b <| Run.drawG z11 <| df rfl (Tk rfl) rfl <| df rfl (Tk rfl) rfl <| df rfl (Tk rfl) rfl <| df rfl (Tk rfl) rfl ?_
  obtain ⟨b7, e, h⟩ := T8 h
  obtain ⟨c0, b8, n, e, q⟩ := Yn (P := Tryz.prog) (t := 33) (kk := .i64) hH (i := 0) rfl e z5a
  refine df rfl (Q6 rfl rfl e) rfl <| df rfl (T4 rfl z0e) rfl <| df rfl (Tb rfl ((hH.at (enc := Tg) (a := b7) (i := 0) rfl n q z08).fld (o := 1) rfl) T5 z10) rfl <| df rfl (T4 rfl z0e) rfl <| df rfl (Tb rfl (hH.cells (i := 1) rfl 1 rfl) T5 z10) rfl <| df rfl (ex_max rfl rfl) rfl ?_
  obtain ⟨b9, w, h⟩ := T8 h
  obtain ⟨c1, p, x⟩ := Vm (P := Tryz.prog) (t := 33) (kk := .i64) hH (i := 0) rfl w z5a
  refine df rfl (Q6 rfl rfl x) rfl <| df rfl (T4 rfl z0e) rfl ?_
  obtain ⟨c2, y, h⟩ := T8 h
  obtain ⟨b0, s, h⟩ := T8 h
  refine DrawG.opX rfl T7 rfl (ExG.storeFld (o := 1) rfl rfl hH (i := 0) rfl p y s sz3 rfl rfl rfl rfl z08) ?_
  rintro _ b4 ⟨rfl, (g : Has Fr b4 [.vec 106 2 b0.length a4 (b0.flatMap Tg), .obj a7 (.row 106 .whole [(.int .i64 a1.From), (.int .i64 a1.To)]), .vec 106 2 a0.length a2 (a0.flatMap Tg)])⟩
  refine ⟨Gx, ?_⟩
  refine DrawG.sync <| DrawG.nil ?_
  refine Run.inBlock (Run.region ?_)
  exact Run.pick [6, 15, 16, 17] (z3h F a8 f a5 a6 b0 a0 a4 a2 _ _ _ (g.pick [0, 2] rfl rfl) h)
 ·have h := Tn b h
  refine Run.We rfl b <| Run.region <| mv rfl rfl <| og (Tj rfl (hH.cells (i := 1) rfl 0 rfl) T5 z2v rfl rfl rfl) rfl <| ox rfl (ExG.built (enc := Tg) (l := ([a1] : List T0)) (z := 2) rfl zad rfl rfl rfl z08 hH) ?_
  rintro b2 b5 (d : Has Fr b5 [.vec 106 2 ([a1] : List T0).length b2 (([a1] : List T0).flatMap Tg), .vec 106 2 a3.length a4 (a3.flatMap Tg), .obj a7 (.row 106 .whole [(.int .i64 a1.From), (.int .i64 a1.To)]), .vec 106 2 a0.length a2 (a0.flatMap Tg)])
  obtain ⟨b1, u, h⟩ := T8 h
  refine ox rfl (ExG.append rfl rfl d (i := 1) rfl z08 rfl z6p z7u rfl (V9 (d.slc (i := 0) rfl z08)) (Zi (d.slc (i := 0) rfl z08) (Yp _) z08) u) ?_
  rintro b3 b6 (m : Has Fr b6 [.vec 106 2 ([a1] : List T0).length b2 (([a1] : List T0).flatMap Tg), .vec 106 2 b1.length b3 (b1.flatMap Tg), .obj a7 (.row 106 .whole [(.int .i64 a1.From), (.int .i64 a1.To)]), .vec 106 2 a0.length a2 (a0.flatMap Tg)])
  refine av rfl rfl ?_
  refine Run.Wd (Run.inBlock (Run.region ?_))
  exact Run.pick [6, 15, 16, 17] (z3h F a8 f a5 a6 b1 a0 b3 a2 _ _ _ (m.pick [1, 3] rfl rfl) h)
def J0 (F : Nat) : Nat → Int → Int → List T0 → List T0 → Option ((List T0))
 | 0, _, _, _, _ => none
 | N + 1, f, d, b, e =>
  bif (decide (d < f)) then
   bnd (idx e d) fun g =>
   bif (decide ((0 : Int) ≤ (w64 ((b.length : Int) - 1)))) then
    bnd (idx b (w64 ((b.length : Int) - 1))) fun m =>
    Gr F (J0 F N) (w64 ((b.length : Int) - 1)) f d (decide (g.From ≤ m.To)) g b e
   else
    Gr F (J0 F N) (w64 ((b.length : Int) - 1)) f d false g b e
  else
   some b
theorem z68 (F : Nat) : ∀ (N : Nat), ∀ (a1 a2 : Int) (u w : List T0) (a0 y : SV) (Fr : Rd) (M : Mem) (r : List T0) (hH : Has Fr M [.vec 106 2 u.length a0 (u.flatMap Tg), .vec 106 2 w.length y (w.flatMap Tg)]), J0 F N a1 a2 u w = some r → Run Tryz.prog ⟨⟨79, [], none⟩, []⟩ 54 (z0a r) [(6, a0), (15, y), (16, (.int .i64 a1)), (17, (.int .i64 a2))] [T6 Tryz.prog 79 [1, 1, 1, 1, 0, 1, 0, 0], Tv Tryz.prog 79 [1, 1, 1, 1, 0, 1, 0, 0], .inBlock 0, T6 Tryz.prog 79 [1, 1, 1, 1, 1]] M := by
 intro N
 induction N with
 | zero =>
  intro a1 a2 u w a0 y Fr M r hH h
  simp [J0] at h
 | succ N ih =>
  intro a1 a2 u w a0 y Fr M r hH h
  rw [J0] at h
  refine Run.seq (Run.region ?_)
  refine og (Qz rfl rfl) rfl ?_
  refine Run.Wd (Run.seq ?_)
  rcases btf ((decide (a2 < a1))) with e | e
  ·have h := Tm e h
   refine Run.Wf rfl e ?_
   refine Run.skip (Run.seq (Run.block (Run.seq (Run.region ?_))))
   obtain ⟨x, f, h⟩ := T8 h
   obtain ⟨a9, a7, n, f, q⟩ := Yn (P := Tryz.prog) (t := 33) (kk := .i64) hH (i := 1) rfl f z5a
   refine og (Q6 rfl rfl f) rfl <| og (Tj rfl (hH.at (enc := Tg) (a := x) (i := 1) rfl n q z08) T5 z2v rfl rfl rfl) rfl <| ox rfl (ExG.new (v := fun b => .ptr b 0) (Jz z5t) hH) ?_
   rintro _ a6 ⟨a3, rfl, m⟩
   refine ox rfl (ExG.Wg (c' := [(.int .i64 x.From), (.int .i64 x.To)]) rfl rfl rfl m (i := 0) rfl z7s rfl rfl rfl rfl rfl) ?_
   rintro _ a5 ⟨rfl, (d : Has Fr a5 [.obj a3 (.row 106 .whole [(.int .i64 x.From), (.int .i64 x.To)]), .vec 106 2 u.length a0 (u.flatMap Tg), .vec 106 2 w.length y (w.flatMap Tg)])⟩
   refine Run.Wd (Run.seq (Run.region ?_))
   refine mv rfl rfl <| og (Q3 rfl (d.slc (i := 1) rfl z08) z2m) rfl <| og (Vb rfl rfl) rfl <| av rfl rfl ?_
   refine Run.Wd (Run.seq ?_)
   refine Run.drawG z16 <| df rfl (Tk rfl) rfl <| df rfl (Z5 rfl rfl) rfl <| df rfl (Tk rfl) rfl ?_
   rcases btf ((decide ((0 : Int) ≤ (w64 ((u.length : Int) - 1))))) with hc66 | hc66
   ·have h := Tm hc66 h
    refine dy rfl rfl rfl hc66 (T4 rfl z0k) rfl <| dy rfl rfl rfl hc66 (Tb rfl (d.cells (i := 0) rfl 0 rfl) T5 z10) rfl <| dy rfl rfl rfl hc66 (Tk rfl) rfl <| dy rfl rfl rfl hc66 (Tk rfl) rfl ?_
    obtain ⟨a4, g, h⟩ := T8 h
    obtain ⟨b0, a8, p, g, s⟩ := Yn (P := Tryz.prog) (t := 33) (kk := .i64) d (i := 1) rfl g z5a
    refine dy rfl rfl rfl hc66 (Q6 rfl rfl g) rfl <| dy rfl rfl rfl hc66 (T4 rfl z0e) rfl <| dy rfl rfl rfl hc66 (Tb rfl ((d.at (enc := Tg) (a := a4) (i := 1) rfl p s z08).fld (o := 1) rfl) T5 z10) rfl <| dy rfl rfl rfl hc66 (Xy rfl rfl) rfl <| df rfl (Tr rfl hc66 rfl rfl) rfl <| DrawG.sync <| DrawG.nil ?_
    exact Run.pick [6, 8, 9, 15, 16, 17, 35] (z3g F (J0 F N) ih (w64 ((u.length : Int) - 1)) a1 a2 (decide (x.From ≤ a4.To)) x u w a0 a3 y _ _ _ (d.pick [1, 0, 2] rfl rfl) h)
   ·have h := Tn hc66 h
    refine dn rfl rfl rfl hc66 rfl <| dn rfl rfl rfl hc66 rfl <| dn rfl rfl rfl hc66 rfl <| dn rfl rfl rfl hc66 rfl <| dn rfl rfl rfl hc66 rfl <| dn rfl rfl rfl hc66 rfl <| dn rfl rfl rfl hc66 rfl <| dn rfl rfl rfl hc66 rfl <| df rfl (Tt rfl hc66 rfl rfl) rfl <| DrawG.sync <| DrawG.nil ?_
    exact Run.pick [6, 8, 9, 15, 16, 17, 35] (z3g F (J0 F N) ih (w64 ((u.length : Int) - 1)) a1 a2 false x u w a0 a3 y _ _ _ (d.pick [1, 0, 2] rfl rfl) h)
  ·have h := Tn e h
   refine Run.We rfl e ?_
   refine Run.exit rfl (Run.seq (Run.region ?_))
   refine mv rfl rfl <| av rfl rfl <| Run.Wd ?_
   cases h
   exact Run.ret Tryz.func79 rfl (Tc rfl Te) ⟨_, rfl, (hH.pick [0] rfl rfl).upF (Kn _)⟩
def Jo (F : Nat) : Nat → List T0 → Int → Int → Int → List T0 → Option ((List T0))
 | 0, _, _, _, _, _ => none
 | N + 1, g, m, d, b, f =>
  bif (decide (d < m)) then
   bnd (idx g d) fun e =>
   bif (decide (e.From < (min e.To b))) then
    bnd (apd 16 f ([(T0.mk e.From (min e.To b))] : List T0)) fun p =>
    Xp F (Jo F N) g m d b p
   else
    Xp F (Jo F N) g m d b f
  else
   bnd (sortP (fun a => a.From) f) fun n =>
   J0 F F (n.length : Int) (0 : Int) ([] : List T0) n
theorem z67 (F : Nat) : ∀ (N : Nat), ∀ (b6 : List T0) (b2 b3 d : Int) (a9 : List T0) (e : SV) (b0 : Pos) (b1 : SV) (Fr : Rd) (M : Mem) (r : List T0) (m : Slc Fr 2 (Ta Tg) e b6) (hH : Has Fr M [.obj b0 (.row 3 .whole [(.int .i64 d)]), .vec 106 2 a9.length b1 (a9.flatMap Tg)]), Jo F N b6 b2 b3 d a9 = some r → Run Tryz.prog ⟨⟨101, [], none⟩, [.mk ⟨79, [], none⟩ 54 (treeOf []) [Tu Tryz.prog 79 [1, 0] 2, T6 Tryz.prog 79 [1, 1]]]⟩ 29 (z0a r) [(1, (.fn (.func 102) [] [(.ptr b0 0)])), (5, b1), (10, e), (11, (.int .i64 b2)), (12, (.int .i64 b3))] [T6 Tryz.prog 101 [1, 1, 0, 1, 0, 0], Tv Tryz.prog 101 [1, 1, 0, 1, 0, 0], .inBlock 0, T6 Tryz.prog 101 [1, 1, 1]] M := by
 intro N
 induction N with
 | zero =>
  intro b6 b2 b3 d a9 e b0 b1 Fr M r m hH h
  simp [Jo] at h
 | succ N ih =>
  intro b6 b2 b3 d a9 e b0 b1 Fr M r m hH h
  rw [Jo] at h
  refine Run.seq (Run.region ?_)
  refine og (Qz rfl rfl) rfl ?_
  refine Run.Wd (Run.seq ?_)
  rcases btf ((decide (b3 < b2))) with f | f
  ·have h := Tm f h
   refine Run.Wf rfl f ?_
   refine Run.skip (Run.seq (Run.block (Run.seq (Run.region ?_))))
   obtain ⟨a8, w, h⟩ := T8 h
   obtain ⟨d5, d4, _, w, a7, rfl⟩ := Jc (P := Tryz.prog) (t := 33) (kk := .i64) m w z5a
   refine og (Q6 rfl rfl w) rfl <| og (Tj rfl (hH.ptrF a7) T5 z2v rfl rfl rfl) rfl <| ox rfl (ExG.new (v := fun b => .ptr b 0) (Jz z5t) hH) ?_
   rintro _ d0 ⟨b4, rfl, a0⟩
   refine ox rfl (ExG.Wg (c' := [(.int .i64 a8.From), (.int .i64 a8.To)]) rfl rfl rfl a0 (i := 0) rfl z7s rfl rfl rfl rfl rfl) ?_
   rintro _ c4 ⟨rfl, (x : Has Fr c4 [.obj b4 (.row 106 .whole [(.int .i64 a8.From), (.int .i64 a8.To)]), .obj b0 (.row 3 .whole [(.int .i64 d)]), .vec 106 2 a9.length b1 (a9.flatMap Tg)])⟩
   refine Run.Wd (Run.seq (Run.region ?_))
   refine mv rfl rfl <| og (Tj rfl (x.cells (i := 0) rfl 0 rfl) T5 z2v rfl rfl rfl) rfl <| Run.enter T7 (Y4 rfl rfl zah z9t) Tryz.func102 rfl rfl ?_
   refine Run.seq (Run.region ?_)
   refine ox rfl (ExG.box rfl rfl x) ?_
   rintro _ d1 ⟨b7, rfl, a1⟩
   refine ox rfl (ExG.new (v := fun b => .ptr b 0) (Jz z5t) a1) ?_
   rintro _ d2 ⟨b8, rfl, q⟩
   refine av rfl rfl ?_
   refine Run.Wd (Run.seq (Run.region ?_))
   refine og (T4 rfl z0e) rfl <| og (Tb rfl (q.cells (i := 1) rfl 1 rfl) T5 z10) rfl <| og (Tb rfl (q.cells (i := 3) rfl 0 rfl) T5 z10) rfl <| og (ex_min rfl rfl) rfl <| og (T4 rfl z0e) rfl <| ox rfl (ExG.Wg (c' := [(.int .i64 a8.From), (.int .i64 (min a8.To d))]) rfl rfl rfl q (i := 1) rfl sz3 rfl rfl rfl rfl rfl) ?_
   rintro _ c5 ⟨rfl, (n : Has Fr c5 [.obj b8 (.row 106 .whole [(.int .i64 0), (.int .i64 0)]), .obj b7 (.row 106 .whole [(.int .i64 a8.From), (.int .i64 (min a8.To d))]), .obj b4 (.row 106 .whole [(.int .i64 a8.From), (.int .i64 a8.To)]), .obj b0 (.row 3 .whole [(.int .i64 d)]), .vec 106 2 a9.length b1 (a9.flatMap Tg)])⟩
   refine Run.Wd (Run.seq ?_)
   refine Run.drawG z7m <| df rfl (Tj rfl (n.cells (i := 1) rfl 0 rfl) T5 z2v rfl rfl rfl) rfl <| df rfl (T4 rfl z0k) rfl <| df rfl (Tb rfl (n.cells (i := 1) rfl 0 rfl) T5 z10) rfl <| df rfl (T4 rfl z0e) rfl <| df rfl (Tb rfl (n.cells (i := 1) rfl 1 rfl) T5 z10) rfl <| df rfl (Qz rfl rfl) rfl <| DrawG.opX rfl T7 rfl (ExG.Wg (c' := [(.int .i64 a8.From), (.int .i64 (min a8.To d))]) rfl rfl rfl n (i := 0) rfl z7s rfl rfl rfl rfl rfl) ?_
   rintro _ c6 ⟨rfl, (p : Has Fr c6 [.obj b8 (.row 106 .whole [(.int .i64 a8.From), (.int .i64 (min a8.To d))]), .obj b7 (.row 106 .whole [(.int .i64 a8.From), (.int .i64 (min a8.To d))]), .obj b4 (.row 106 .whole [(.int .i64 a8.From), (.int .i64 a8.To)]), .obj b0 (.row 3 .whole [(.int .i64 d)]), .vec 106 2 a9.length b1 (a9.flatMap Tg)])⟩
   refine ⟨(G4 rfl (Yy T7 (Qz rfl rfl)) rfl rfl rfl (G4 rfl (Yy T7 (Tb rfl (p.cells (i := 1) rfl 1 rfl) T5 z10)) rfl rfl rfl (G4 rfl (Yy T7 (T4 rfl z0e)) rfl rfl rfl (G4 rfl (Yy T7 (Tb rfl (p.cells (i := 1) rfl 0 rfl) T5 z10)) rfl rfl rfl (G4 rfl (Yy T7 (T4 rfl z0k)) rfl rfl rfl Gx))))), ?_⟩
   refine df rfl (G8 rfl) rfl <| DrawG.sync <| DrawG.nil <| Run.Wi Tryz.func102 rfl (Ze rfl (Vn (Tj rfl (p.cells (i := 0) rfl 0 rfl) T5 z2v rfl rfl rfl)) (Tc rfl Te)) rfl <| mv rfl rfl <| og (Qm rfl rfl) rfl <| og (Qm rfl rfl) rfl <| ox rfl (ExG.new (v := fun b => .ptr b 0) (Jz z5t) p) ?_
   rintro _ d3 ⟨b9, rfl, a2⟩
   refine ox rfl (ExG.Wg (c' := [(.int .i64 a8.From), (.int .i64 (min a8.To d))]) rfl rfl rfl a2 (i := 0) rfl z7s rfl rfl rfl rfl rfl) ?_
   rintro _ c7 ⟨rfl, (s : Has Fr c7 [.obj b9 (.row 106 .whole [(.int .i64 a8.From), (.int .i64 (min a8.To d))]), .obj b8 (.row 106 .whole [(.int .i64 a8.From), (.int .i64 (min a8.To d))]), .obj b7 (.row 106 .whole [(.int .i64 a8.From), (.int .i64 (min a8.To d))]), .obj b4 (.row 106 .whole [(.int .i64 a8.From), (.int .i64 a8.To)]), .obj b0 (.row 3 .whole [(.int .i64 d)]), .vec 106 2 a9.length b1 (a9.flatMap Tg)])⟩
   refine av rfl rfl ?_
   refine Run.Wd (Run.seq (Run.region ?_))
   refine mv rfl rfl <| Run.Wd ?_
   rcases btf ((decide (a8.From < (min a8.To d)))) with g | g
   ·have h := Tm g h
    refine Run.Wf rfl g <| Run.region <| mv rfl rfl <| og (Tj rfl (s.cells (i := 0) rfl 0 rfl) T5 z2v rfl rfl rfl) rfl <| ox rfl (ExG.built (enc := Tg) (l := ([(T0.mk a8.From (min a8.To d))] : List T0)) (z := 2) rfl zad rfl rfl rfl z08 s) ?_
    rintro c2 c8 (u : Has Fr c8 [.vec 106 2 ([(T0.mk a8.From (min a8.To d))] : List T0).length c2 (([(T0.mk a8.From (min a8.To d))] : List T0).flatMap Tg), .obj b9 (.row 106 .whole [(.int .i64 a8.From), (.int .i64 (min a8.To d))]), .obj b8 (.row 106 .whole [(.int .i64 a8.From), (.int .i64 (min a8.To d))]), .obj b7 (.row 106 .whole [(.int .i64 a8.From), (.int .i64 (min a8.To d))]), .obj b4 (.row 106 .whole [(.int .i64 a8.From), (.int .i64 a8.To)]), .obj b0 (.row 3 .whole [(.int .i64 d)]), .vec 106 2 a9.length b1 (a9.flatMap Tg)])
    obtain ⟨c0, a5, h⟩ := T8 h
    refine ox rfl (ExG.append rfl rfl u (i := 6) rfl z08 rfl z6p z7u rfl (V9 (u.slc (i := 0) rfl z08)) (Zi (u.slc (i := 0) rfl z08) (Yp _) z08) a5) ?_
    rintro c3 c9 (a3 : Has Fr c9 [.vec 106 2 ([(T0.mk a8.From (min a8.To d))] : List T0).length c2 (([(T0.mk a8.From (min a8.To d))] : List T0).flatMap Tg), .obj b9 (.row 106 .whole [(.int .i64 a8.From), (.int .i64 (min a8.To d))]), .obj b8 (.row 106 .whole [(.int .i64 a8.From), (.int .i64 (min a8.To d))]), .obj b7 (.row 106 .whole [(.int .i64 a8.From), (.int .i64 (min a8.To d))]), .obj b4 (.row 106 .whole [(.int .i64 a8.From), (.int .i64 a8.To)]), .obj b0 (.row 3 .whole [(.int .i64 d)]), .vec 106 2 c0.length c3 (c0.flatMap Tg)])
    refine av rfl rfl ?_
    refine Run.Wd (Run.inBlock (Run.region ?_))
    exact Run.low (.cons (Jf [] rfl) .nil) (Run.pick [1, 5, 10, 11, 12] (z3f F (Jo F N) ih b6 b2 b3 d c0 e b0 c3 _ _ _ m (a3.pick [5, 6] rfl rfl) h))
   ·have h := Tn g h
    refine Run.We rfl g ?_
    refine Run.skip (Run.inBlock (Run.region ?_))
    exact Run.low (.cons (Jf [] rfl) .nil) (Run.pick [1, 5, 10, 11, 12] (z3f F (Jo F N) ih b6 b2 b3 d a9 e b0 b1 _ _ _ m (s.pick [4, 5] rfl rfl) h))
  ·have h := Tn f h
   refine Run.We rfl f ?_
   refine Run.exit rfl (Run.seq (Run.region ?_))
   refine mv rfl rfl <| av rfl rfl <| Run.Wd <| Run.Wi Tryz.func101 rfl (Tc rfl Te) rfl <| av rfl rfl ?_
   refine Run.Wd (Run.seq (Run.region ?_))
   refine mv rfl rfl ?_
   obtain ⟨b5, a6, h⟩ := T8 h
   refine Run.callX T7 (Tl rfl zai z9u) rfl ((sort103 Tg (fun a => a.From) (fun a => a.To) (fun _ => rfl)).callsP hH (i := 1) rfl a6) ?_
   rintro _ c1 ⟨rfl, (y : Has Fr c1 [.obj b0 (.row 3 .whole [(.int .i64 d)]), .vec 106 2 b5.length b1 (b5.flatMap Tg)])⟩
   refine Run.Wd (Run.seq (Run.region ?_))
   refine av rfl rfl ?_
   refine Run.Wd (Run.seq (Run.seq (Run.region ?_)))
   refine mv rfl rfl <| og (Q3 rfl (y.slc (i := 1) rfl z08) z2m) rfl <| mv rfl rfl ?_
   refine Run.Wd (Run.block (Run.loop ?_))
   have a4 : Has Fr c1 [.vec 106 2 ([] : List T0).length .nils (([] : List T0).flatMap Tg), .obj b0 (.row 3 .whole [(.int .i64 d)]), .vec 106 2 b5.length b1 (b5.flatMap Tg)] := y.nils 106 2
   exact Run.pick [6, 15, 16, 17] (z68 F F (b5.length : Int) (0 : Int) ([] : List T0) b5 .nils b1 _ _ _ (a4.pick [0, 2] rfl rfl) h)
def Yw (F : Nat) (b : List T0) (d : Int) : Option ((List T0)) :=
 Jo F F b (b.length : Int) (0 : Int) d ([] : List T0)
theorem z75 (F : Nat) (m : List T0) (n : Int) (q : SV) (r : List T0) (M : Mem) (e : Slc (rd M) 2 (Ta Tg) q m) (h : Yw F m n = some r) : CallsM Tryz.prog 79 [q, (.int .i64 n)] M (fun s M' => ∃ p, s = p ∧ New M M' [.vec 106 2 r.length p (r.flatMap Tg)]) := by
 refine CallsM.fresh (Q := z0a r) Tryz.func79 rfl rfl ?_ (by rintro s Me ⟨p, rfl, hx⟩ ha hw; exact ⟨_, rfl, New.of rfl hx ha hw⟩)
 rw [Yw] at h
 replace e := e.mono (T3 M) (fun _ _ h => h)
 have hH := Has.nil (frozen M)
 refine Run.seq (Run.region ?_)
 refine ox rfl (ExG.box rfl rfl hH) ?_
 rintro _ g ⟨f, rfl, b⟩
 refine av rfl rfl ?_
 refine Run.Wd (Run.seq (Run.region ?_))
 refine mv rfl rfl <| og (Zd rfl rfl) rfl <| Run.enter T7 (Tl rfl zag z9s) Tryz.func101 rfl rfl ?_
 refine Run.seq (Run.region ?_)
 refine av rfl rfl ?_
 refine Run.Wd (Run.seq (Run.region ?_))
 refine av rfl rfl ?_
 refine Run.Wd (Run.seq (Run.seq (Run.region ?_)))
 refine mv rfl rfl <| og (Q3 rfl e z2m) rfl <| mv rfl rfl ?_
 refine Run.Wd (Run.block (Run.loop ?_))
 have d : Has (ro (frozen M)) g [.vec 106 2 ([] : List T0).length .nils (([] : List T0).flatMap Tg), .obj f (.row 3 .whole [(.int .i64 n)])] := b.nils 106 2
 exact Run.low (.cons (Jf [] rfl) .nil) (Run.pick [1, 5, 10, 11, 12] (z67 F F m (m.length : Int) (0 : Int) n ([] : List T0) q f .nils _ _ _ e (d.pick [1, 0] rfl rfl) h))
theorem zcs : J8 Tryz.prog 79 = none := by kernel_rfl
theorem zbs : Ts Tryz.prog 79 = true := by kernel_rfl
abbrev z65 (r : (List T0) × Int) : SV → Mem → Prop := fun s Me => ∃ q1, s = (.tuple [q1, (.int .i64 r.2)]) ∧ Has (fun _ => none) Me [.vec 106 2 r.1.length q1 (r.1.flatMap Tg)]
def Y0 (F : Nat) (e : T2) (f : Int) : Option ((List T0) × Int) :=
 bnd (Gc F ([e] : List T2) f) fun b =>
 bif (!(b == (0 : Int))) then
  some (([] : List T0), b)
 else
  bnd (Yw F e.Segments f) fun d =>
  some (d, (0 : Int))
theorem z74 (F : Nat) (a0 : T2) (a1 : Int) (s0 : SV) (r : (List T0) × Int) (M : Mem) (u : Slc (rd M) 2 (Ta Tg) s0 a0.Segments) (h : Y0 F a0 a1 = some r) : CallsM Tryz.prog 68 [(.agg [(.str a0.Name), s0]), (.int .i64 a1)] M (fun s M' => ∃ q1, s = (.tuple [q1, (.int .i64 r.2)]) ∧ New M M' [.vec 106 2 r.1.length q1 (r.1.flatMap Tg)]) := by
 refine CallsM.fresh (Q := z65 r) Tryz.func68 rfl rfl ?_ (by rintro s Me ⟨q1, rfl, hx⟩ ha hw; exact ⟨_, rfl, New.of rfl hx ha hw⟩)
 rw [Y0] at h
 replace u := u.mono (T3 M) (fun _ _ h => h)
 have hH := Has.nil (frozen M)
 refine Run.seq (Run.region ?_)
 refine ox rfl (ExG.box rfl rfl hH) ?_
 rintro _ a5 ⟨x, rfl, d⟩
 refine av rfl rfl <| av rfl rfl ?_
 refine Run.Wd (Run.seq (Run.seq (Run.region ?_)))
 refine og (Tj rfl (d.cells (i := 0) rfl 0 rfl) T5 z7h rfl rfl rfl) rfl ?_
 have n : Rows (Tf (ro (frozen M))) 2 [(.str a0.Name), s0] ([a0] : List T2) := (Rows.cons (cs := [(.str a0.Name), s0]) rfl ⟨s0, rfl, u⟩ Rows.nil)
 refine ox rfl (ExG.builtR (z := 2) (c := [(.str a0.Name), s0]) rfl zc1 rfl rfl rfl d) ?_
 rintro w y (b : Has (ro (frozen M)) y [.vec 127 2 ([a0] : List T2).length w [(.str a0.Name), s0], .obj x (.row 127 .whole [(.str a0.Name), s0])])
 refine mv rfl rfl ?_
 obtain ⟨a4, p, h⟩ := T8 h
 refine Run.callP T7 (Tl rfl zcf zbf) rfl (z4v F ([a0] : List T2) a1 w _ _ (((b.slcR (i := 0) rfl n)).mono (fun _ _ h => h) (fun _ _ => z00 b.le)) p) <| av rfl rfl ?_
 refine Run.Wd (Run.seq (Run.region ?_))
 refine mv rfl rfl <| og (Gd rfl rfl) rfl <| Run.Wd ?_
 rcases btf ((!(a4 == (0 : Int)))) with hc30 | hc30
 ·have h := Tm hc30 h
  refine Run.Wf rfl hc30 ?_
  refine Run.seq (Run.region ?_)
  refine mv rfl rfl <| av rfl rfl <| av rfl rfl <| Run.Wd ?_
  have f : Has (ro (frozen M)) y [.vec 106 2 ([] : List T0).length .nils (([] : List T0).flatMap Tg), .vec 127 2 ([a0] : List T2).length w [(.str a0.Name), s0], .obj x (.row 127 .whole [(.str a0.Name), s0])] := b.nils 106 2
  cases h
  exact Run.ret Tryz.func68 rfl (Tc rfl (Tc rfl Te)) ⟨_, rfl, (f.pick [0] rfl rfl).upF (Kn _)⟩
 ·have h := Tn hc30 h
  refine Run.We rfl hc30 ?_
  refine Run.skip (Run.seq (Run.region ?_))
  refine og (T4 rfl z3d) rfl <| og (Tb rfl (b.cells (i := 1) rfl 1 rfl) T5 z2w) rfl <| mv rfl rfl ?_
  obtain ⟨a2, q, h⟩ := T8 h
  refine Run.callX T7 (Tl rfl zcs zbs) rfl (z75 F a0.Segments a1 s0 _ _ (b.slcF u) q) ?_
  rintro e a3 ⟨_, rfl, m⟩
  have g : Has (ro (frozen M)) a3 [.vec 106 2 a2.length e (a2.flatMap Tg), .vec 127 2 ([a0] : List T2).length w [(.str a0.Name), s0], .obj x (.row 127 .whole [(.str a0.Name), s0])] := m.1 _ _ b
  refine av rfl rfl <| av rfl rfl <| Run.Wd ?_
  cases h
  exact Run.ret Tryz.func68 rfl (Tc rfl (Tc rfl Te)) ⟨_, rfl, (g.pick [0] rfl rfl).upF (Kn _)⟩
theorem zco : J8 Tryz.prog 68 = none := by kernel_rfl
theorem zbo : Ts Tryz.prog 68 = true := by kernel_rfl
theorem z1b : Gy Tryz.prog (Vu (atC Tryz.prog 40 [1, 1, 1, 1, 0, 1, 0, 0, 1, 1, 0, 0, 1, 0])) = some [.fl 0, .fl 1, .an 2 [0], .an 3 [], .fl 4, .fl 5, .fl 6, .fl 7, .fl 8, .sync] := by kernel_rfl
abbrev z0b (r : List Bool) : SV → Mem → Prop := fun s Me => ∃ q1, s = q1 ∧ Has (fun _ => none) Me [.vec 4 1 r.length q1 (r.flatMap z0h)]
def Ju (F : Nat) (u : (List T2) → Int → Int → List T1 → List T0 → List T2 → List T2 → List Int → List Int → List Bool → Option ((List Bool))) : Nat → Int → Int → List T2 → Int → Int → List T1 → List T0 → List T2 → List T2 → List Int → List Int → List Bool → List T0 → Option ((List Bool))
 | 0, _, _, _, _, _, _, _, _, _, _, _, _, _ => none
 | N + 1, v6, v7, b, d, e, f, g, m, n, p, q, s, w =>
  bif (decide (v7 < v6)) then
   bnd (idx w v7) fun y =>
   bnd (subP s.length y.From y.To) fun x =>
   bnd (clrP s (0 + x.1) x.2 false) fun a0 =>
   (Ju F u N) v6 (w64 (v7 + 1)) b d e f g m n p q a0 w
  else
   u b d (w64 (e + 1)) f g m n p q s
theorem z54 (F : Nat) (d4 : (List T2) → Int → Int → List T1 → List T0 → List T2 → List T2 → List Int → List Int → List Bool → Option ((List Bool))) (b8 : ∀ (d5 : List T2) (d6 d7 : Int) (p : List T1) (q : List T0) (s u : List T2) (w x : List Int) (c7 : List Bool) (b3 d e f g m n : SV) (c8 c5 : Pos) (c6 : SV) (Fr : Rd) (M : Mem) (r : List Bool) (c4 : Slc Fr 2 (Tf Fr) b3 d5) (a3 : Slc Fr 3 (Ta Q9) d p) (a4 : Slc Fr 2 (Ta Tg) e q) (a5 : Slc Fr 2 (Tf Fr) f s) (a6 : Slc Fr 2 (Tf Fr) g u) (a7 : Slc Fr 1 (Ta Qd) m w) (a8 : Slc Fr 1 (Ta Qd) n x) (hH : Has Fr M [.obj c8 (.row 85 .whole [d, e, f, g, m, n]), .obj c5 (.row 48 .whole [c6]), .vec 4 1 c7.length c6 (c7.flatMap z0h)]), d4 d5 d6 d7 p q s u w x c7 = some r → Run Tryz.prog ⟨⟨40, [], none⟩, []⟩ 41 (z0b r) [(2, (.ptr c8 0)), (5, (.ptr c5 0)), (6, (.fn (.func 67) [] [(.ptr c5 0)])), (23, b3), (24, (.int .i64 d6)), (25, (.int .i64 d7))] [T6 Tryz.prog 40 [1, 1, 1, 1, 0, 1, 0, 0], Tv Tryz.prog 40 [1, 1, 1, 1, 0, 1, 0, 0], .inBlock 0, T6 Tryz.prog 40 [1, 1, 1, 1, 1]] M) : ∀ (N : Nat), ∀ (v6 v7 : Int) (a0 : List T2) (a1 a2 : Int) (p : List T1) (q : List T0) (s u : List T2) (w x : List Int) (c7 : List Bool) (c9 : List T0) (y d e f g m n : SV) (c5 : Pos) (c6 d0 : SV) (c8 : Pos) (Fr : Rd) (M : Mem) (r : List Bool) (a9 : Slc Fr 2 (Tf Fr) y a0) (a3 : Slc Fr 3 (Ta Q9) d p) (a4 : Slc Fr 2 (Ta Tg) e q) (a5 : Slc Fr 2 (Tf Fr) f s) (a6 : Slc Fr 2 (Tf Fr) g u) (a7 : Slc Fr 1 (Ta Qd) m w) (a8 : Slc Fr 1 (Ta Qd) n x) (hH : Has Fr M [.obj c5 (.row 48 .whole [c6]), .vec 4 1 c7.length c6 (c7.flatMap z0h), .vec 106 2 c9.length d0 (c9.flatMap Tg), .obj c8 (.row 85 .whole [d, e, f, g, m, n])]), Ju F d4 N v6 v7 a0 a1 a2 p q s u w x c7 c9 = some r → Run Tryz.prog ⟨⟨67, [], none⟩, [.mk ⟨40, [], none⟩ 41 (treeOf [(2, (.ptr c8 0)), (5, (.ptr c5 0)), (6, (.fn (.func 67) [] [(.ptr c5 0)])), (23, y), (24, (.int .i64 a1)), (25, (.int .i64 a2))]) [Tu Tryz.prog 40 [1, 1, 1, 1, 0, 1, 0, 0, 1, 1, 0, 0, 1, 1] 2, .inBlock 1, T6 Tryz.prog 40 [1, 1, 1, 1, 0, 1, 0, 0, 1, 1, 1], Tv Tryz.prog 40 [1, 1, 1, 1, 0, 1, 0, 0], .inBlock 0, T6 Tryz.prog 40 [1, 1, 1, 1, 1]]]⟩ 18 (z0b r) [(1, (.ptr c5 0)), (5, d0), (6, (.int .i64 v6)), (7, (.int .i64 v7))] [T6 Tryz.prog 67 [1, 0, 0], Tv Tryz.prog 67 [1, 0, 0], .inBlock 0] M := by
 intro N
 induction N with
 | zero =>
  intro v6 v7 a0 a1 a2 p q s u w x c7 c9 y d e f g m n c5 c6 d0 c8 Fr M r a9 a3 a4 a5 a6 a7 a8 hH h
  simp [Ju] at h
 | succ N ih =>
  intro v6 v7 a0 a1 a2 p q s u w x c7 c9 y d e f g m n c5 c6 d0 c8 Fr M r a9 a3 a4 a5 a6 a7 a8 hH h
  rw [Ju] at h
  refine Run.seq (Run.region ?_)
  refine og (Qz rfl rfl) rfl ?_
  refine Run.Wd (Run.seq ?_)
  rcases btf ((decide (v7 < v6))) with b1 | b1
  ·have h := Tm b1 h
   refine Run.Wf rfl b1 ?_
   refine Run.skip (Run.seq (Run.block (Run.seq (Run.region ?_))))
   obtain ⟨d1, b2, h⟩ := T8 h
   obtain ⟨e5, e4, b6, b2, b7⟩ := Yn (P := Tryz.prog) (t := 33) (kk := .i64) hH (i := 2) rfl b2 z5a
   refine og (Q6 rfl rfl b2) rfl <| og (Tj rfl (hH.at (enc := Tg) (a := d1) (i := 2) rfl b6 b7 z08) T5 z2v rfl rfl rfl) rfl <| ox rfl (ExG.new (v := fun b => .ptr b 0) (Jz z5t) hH) ?_
   rintro _ e2 ⟨d3, rfl, b4⟩
   refine ox rfl (ExG.Wg (c' := [(.int .i64 d1.From), (.int .i64 d1.To)]) rfl rfl rfl b4 (i := 0) rfl z7s rfl rfl rfl rfl rfl) ?_
   rintro _ d8 ⟨rfl, (b0 : Has Fr d8 [.obj d3 (.row 106 .whole [(.int .i64 d1.From), (.int .i64 d1.To)]), .obj c5 (.row 48 .whole [c6]), .vec 4 1 c7.length c6 (c7.flatMap z0h), .vec 106 2 c9.length d0 (c9.flatMap Tg), .obj c8 (.row 85 .whole [d, e, f, g, m, n])])⟩
   refine Run.Wd (Run.region ?_)
   refine og (Tb rfl (b0.cells (i := 1) rfl 0 rfl) T5 z9i) rfl <| og (T4 rfl z0k) rfl <| og (Tb rfl (b0.cells (i := 0) rfl 0 rfl) T5 z10) rfl <| og (T4 rfl z0e) rfl <| og (Tb rfl (b0.cells (i := 0) rfl 1 rfl) T5 z10) rfl ?_
   obtain ⟨e3, b9, h⟩ := T8 h
   have c2 := V6 b0 (i := 2) rfl
   obtain ⟨e6, c3, c1⟩ := part_cutB (P := Tryz.prog) (t := 48) (k0 := .i64) (k1 := .i64) c2 b9 z97
   refine og (ex_slX rfl (Zb rfl) (Zb rfl) c3) rfl ?_
   obtain ⟨d2, c0, h⟩ := T8 h
   refine ox rfl (ExG.clearP rfl b0 (i := 2) rfl c1 c0 z7x rfl z06 z2x) ?_
   rintro _ d9 ⟨rfl, (b5 : Has Fr d9 [.obj d3 (.row 106 .whole [(.int .i64 d1.From), (.int .i64 d1.To)]), .obj c5 (.row 48 .whole [c6]), .vec 4 1 d2.length c6 (d2.flatMap z0h), .vec 106 2 c9.length d0 (c9.flatMap Tg), .obj c8 (.row 85 .whole [d, e, f, g, m, n])])⟩
   refine Run.Wd (Run.inBlock (Run.region ?_))
   refine og (Qq rfl rfl) rfl <| mv rfl rfl ?_
   refine Run.Wd (Run.inLoop ?_)
   exact Run.low (.cons (Jf [2, 5, 6, 23, 24, 25] rfl) .nil) (Run.pick [1, 5, 6, 7] (ih v6 (w64 (v7 + 1)) a0 a1 a2 p q s u w x d2 c9 y d e f g m n c5 c6 d0 c8 _ _ _ a9 a3 a4 a5 a6 a7 a8 (b5.pick [1, 2, 3, 4] rfl rfl) h))
  ·have h := Tn b1 h
   refine Run.We rfl b1 <| Run.exit rfl <| Run.fallTo Tryz.func67 rfl Te rfl ?_
   refine Run.Wd (Run.inBlock (Run.region ?_))
   refine og (Qq rfl rfl) rfl <| mv rfl rfl ?_
   refine Run.Wd (Run.inLoop ?_)
   exact Run.pick [2, 5, 6, 23, 24, 25] (b8 a0 a1 (w64 (a2 + 1)) p q s u w x c7 y d e f g m n c8 c5 c6 _ _ _ a9 a3 a4 a5 a6 a7 a8 (hH.pick [3, 0, 1] rfl rfl) h)
def Qu (F : Nat) : Nat → List T2 → Int → Int → List T1 → List T0 → List T2 → List T2 → List Int → List Int → List Bool → Option ((List Bool))
 | 0, _, _, _, _, _, _, _, _, _, _ => none
 | N + 1, s, u, n, b, d, e, f, g, m, p =>
  bif (decide (n < u)) then
   bnd (idx s n) fun x =>
   bnd (Jb F (Tz.mk b d (Tx.mk e f) (Qn.mk g m))) fun w =>
   bnd (Y0 F x w) fun q =>
   Ju F (Qu F N) F (q.1.length : Int) (0 : Int) s u n b d e f g m p q.1
  else
   some p
theorem z2g (F : Nat) : ∀ (N : Nat), ∀ (c5 : List T2) (c3 c4 : Int) (q : List T1) (s : List T0) (u w : List T2) (x y : List Int) (b9 : List Bool) (a9 e f g m n p : SV) (c2 c1 : Pos) (c0 : SV) (Fr : Rd) (M : Mem) (r : List Bool) (b0 : Slc Fr 2 (Tf Fr) a9 c5) (a0 : Slc Fr 3 (Ta Q9) e q) (a1 : Slc Fr 2 (Ta Tg) f s) (a2 : Slc Fr 2 (Tf Fr) g u) (a3 : Slc Fr 2 (Tf Fr) m w) (a4 : Slc Fr 1 (Ta Qd) n x) (a5 : Slc Fr 1 (Ta Qd) p y) (hH : Has Fr M [.obj c2 (.row 85 .whole [e, f, g, m, n, p]), .obj c1 (.row 48 .whole [c0]), .vec 4 1 b9.length c0 (b9.flatMap z0h)]), Qu F N c5 c3 c4 q s u w x y b9 = some r → Run Tryz.prog ⟨⟨40, [], none⟩, []⟩ 41 (z0b r) [(2, (.ptr c2 0)), (5, (.ptr c1 0)), (6, (.fn (.func 67) [] [(.ptr c1 0)])), (23, a9), (24, (.int .i64 c3)), (25, (.int .i64 c4))] [T6 Tryz.prog 40 [1, 1, 1, 1, 0, 1, 0, 0], Tv Tryz.prog 40 [1, 1, 1, 1, 0, 1, 0, 0], .inBlock 0, T6 Tryz.prog 40 [1, 1, 1, 1, 1]] M := by
 intro N
 induction N with
 | zero =>
  intro c5 c3 c4 q s u w x y b9 a9 e f g m n p c2 c1 c0 Fr M r b0 a0 a1 a2 a3 a4 a5 hH h
  simp [Qu] at h
 | succ N ih =>
  intro c5 c3 c4 q s u w x y b9 a9 e f g m n p c2 c1 c0 Fr M r b0 a0 a1 a2 a3 a4 a5 hH h
  rw [Qu] at h
  refine Run.seq (Run.region ?_)
  refine og (Qz rfl rfl) rfl ?_
  refine Run.Wd (Run.seq ?_)
  rcases btf ((decide (c4 < c3))) with a7 | a7
  ·have h := Tm a7 h
   refine Run.Wf rfl a7 ?_
   refine Run.skip (Run.seq (Run.block (Run.seq (Run.region ?_))))
   obtain ⟨c7, b1, h⟩ := T8 h
   obtain ⟨d4, d3, _, b1, b6, ⟨a6, rfl, a8⟩⟩ := Jc (P := Tryz.prog) (t := 34) (kk := .i64) b0 b1 z84
   refine og (Q6 rfl rfl b1) rfl <| og (Tj rfl (hH.ptrF b6) T5 z7h rfl rfl rfl) rfl <| ox rfl (ExG.new (v := fun b => .ptr b 0) (Jz z9h) hH) ?_
   rintro _ d2 ⟨c8, rfl, b4⟩
   refine ox rfl (ExG.Wg (c' := [(.str c7.Name), a6]) rfl rfl rfl b4 (i := 0) rfl zay rfl rfl rfl (Q0 rfl (Q0 (Qa a8) Ym)) rfl) ?_
   rintro _ c9 ⟨rfl, (d : Has Fr c9 [.obj c8 (.row 127 .whole [(.str c7.Name), a6]), .obj c2 (.row 85 .whole [e, f, g, m, n, p]), .obj c1 (.row 48 .whole [c0]), .vec 4 1 b9.length c0 (b9.flatMap z0h)])⟩
   refine Run.Wd (Run.seq ?_)
   refine Run.drawG z1b <| df rfl (Tj rfl (d.cells (i := 0) rfl 0 rfl) T5 z7h rfl rfl rfl) rfl <| df rfl (Tj rfl (d.cells (i := 1) rfl 0 rfl) T5 z4r rfl rfl rfl) rfl ?_
   obtain ⟨d1, b7, h⟩ := T8 h
   refine DrawG.callP rfl T7 (Tl rfl z8o z8j) rfl (z0v F (Tz.mk q s (Tx.mk u w) (Qn.mk x y)) e f g m n p _ _ (d.slcF a0) (d.slcF a1) ((a2).mono d.le (fun _ _ => z00 d.le)) ((a3).mono d.le (fun _ _ => z00 d.le)) (d.slcF a4) (d.slcF a5) b7) (G4 rfl (Yy T7 (Tj rfl (d.cells (i := 0) rfl 0 rfl) T5 z7h rfl rfl rfl)) rfl rfl (W8 (G0 rfl (G0 (G2 a8) Wb))) Gx) ?_
   obtain ⟨c6, b8, h⟩ := T8 h
   refine DrawG.call rfl T7 (Tl rfl zco zbo) rfl (z74 F c7 d1 a6 _ _ (d.slcF a8) b8) ?_
   rintro _ d0 ⟨b2, rfl, b5⟩
   have b3 : Has Fr d0 [.vec 106 2 c6.1.length b2 (c6.1.flatMap Tg), .obj c8 (.row 127 .whole [(.str c7.Name), a6]), .obj c2 (.row 85 .whole [e, f, g, m, n, p]), .obj c1 (.row 48 .whole [c0]), .vec 4 1 b9.length c0 (b9.flatMap z0h)] := b5.1 _ _ d
   refine ⟨Gx, ?_⟩
   refine df rfl (Tk rfl) rfl <| df rfl (Qm rfl rfl) rfl <| df rfl (Qm rfl rfl) rfl <| df rfl (G8 rfl) rfl <| df rfl (G8 rfl) rfl <| DrawG.sync <| DrawG.nil <| Run.region <| mv rfl rfl <| mv rfl rfl <| Run.enter T7 (Y4 rfl rfl zau za6) Tryz.func67 rfl rfl ?_
   refine Run.seq (Run.region ?_)
   refine mv rfl rfl <| og (Q3 rfl (b3.slc (i := 0) rfl z08) z2m) rfl <| mv rfl rfl ?_
   refine Run.Wd (Run.block (Run.loop ?_))
   exact Run.low (.cons (Jf [2, 5, 6, 23, 24, 25] rfl) .nil) (Run.pick [1, 5, 6, 7] (z54 F (Qu F N) ih F (c6.1.length : Int) (0 : Int) c5 c3 c4 q s u w x y b9 c6.1 a9 e f g m n p c1 c0 b2 c2 _ _ _ b0 a0 a1 a2 a3 a4 a5 (b3.pick [3, 4, 0, 2] rfl rfl) h))
  ·have h := Tn a7 h
   refine Run.We rfl a7 ?_
   refine Run.exit rfl (Run.seq (Run.region ?_))
   refine og (Tb rfl (hH.cells (i := 1) rfl 0 rfl) T5 z9i) rfl <| av rfl rfl <| Run.Wd ?_
   cases h
   exact Run.ret Tryz.func40 rfl (Tc rfl Te) ⟨_, rfl, (hH.pick [2] rfl rfl).upF (Kn _)⟩
def z1s (F : Nat) (d : List T1) (e : List T0) (b f : List T2) (g m : List Int) (n : List Bool) : Option ((List Bool)) :=
 Qu F F b (b.length : Int) (0 : Int) d e b f g m n
theorem z52 (F : Nat) : ∀ (q : List T1) (s : List T0) (d u : List T2) (w x : List Int) (a6 : List Bool) (f g b m n p : SV) (a4 a5 : Pos) (a7 : SV) (Fr : Rd) (M : Mem) (r : List Bool) (y : Slc Fr 3 (Ta Q9) f q) (a0 : Slc Fr 2 (Ta Tg) g s) (e : Slc Fr 2 (Tf Fr) b d) (a1 : Slc Fr 2 (Tf Fr) m u) (a2 : Slc Fr 1 (Ta Qd) n w) (a3 : Slc Fr 1 (Ta Qd) p x) (hH : Has Fr M [.obj a4 (.row 85 .whole [f, g, b, m, n, p]), .obj a5 (.row 48 .whole [a7]), .vec 4 1 a6.length a7 (a6.flatMap z0h)]), z1s F q s d u w x a6 = some r → Run Tryz.prog ⟨⟨40, [], none⟩, []⟩ 41 (z0b r) [(2, (.ptr a4 0)), (5, (.ptr a5 0)), (6, (.fn (.func 67) [] [(.ptr a5 0)])), (22, (.ptr a4 2))] [Tu Tryz.prog 40 [1, 1, 1, 1, 0, 0] 3, T6 Tryz.prog 40 [1, 1, 1, 1, 0, 1], T6 Tryz.prog 40 [1, 1, 1, 1, 1]] M := by
 intro q s d u w x a6 f g b m n p a4 a5 a7 Fr M r y a0 e a1 a2 a3 hH h
 rw [z1s] at h
 refine og (Tb rfl (hH.cells (i := 0) rfl 2 rfl) T5 z72) rfl <| og (Q3 rfl e z63) rfl <| mv rfl rfl ?_
 refine Run.Wd (Run.block (Run.loop ?_))
 exact Run.pick [2, 5, 6, 23, 24, 25] (z2g F F d (d.length : Int) (0 : Int) q s d u w x a6 b f g b m n p a4 a5 a7 _ _ _ e y a0 e a1 a2 a3 hH h)
def z1t (F : Nat) (d : List T1) (e : List T0) (f b : List T2) (g m : List Int) (n : List Bool) : Option ((List Bool)) :=
 Qu F F b (b.length : Int) (0 : Int) d e f b g m n
theorem z56 (F : Nat) : ∀ (q : List T1) (s : List T0) (u d : List T2) (w x : List Int) (a6 : List Bool) (f g m b n p : SV) (a4 a5 : Pos) (a7 : SV) (Fr : Rd) (M : Mem) (r : List Bool) (y : Slc Fr 3 (Ta Q9) f q) (a0 : Slc Fr 2 (Ta Tg) g s) (a1 : Slc Fr 2 (Tf Fr) m u) (e : Slc Fr 2 (Tf Fr) b d) (a2 : Slc Fr 1 (Ta Qd) n w) (a3 : Slc Fr 1 (Ta Qd) p x) (hH : Has Fr M [.obj a4 (.row 85 .whole [f, g, m, b, n, p]), .obj a5 (.row 48 .whole [a7]), .vec 4 1 a6.length a7 (a6.flatMap z0h)]), z1t F q s u d w x a6 = some r → Run Tryz.prog ⟨⟨40, [], none⟩, []⟩ 41 (z0b r) [(2, (.ptr a4 0)), (5, (.ptr a5 0)), (6, (.fn (.func 67) [] [(.ptr a5 0)])), (22, (.ptr a4 3))] [Tu Tryz.prog 40 [1, 1, 1, 1, 0, 0] 3, T6 Tryz.prog 40 [1, 1, 1, 1, 0, 1], T6 Tryz.prog 40 [1, 1, 1, 1, 1]] M := by
 intro q s u d w x a6 f g m b n p a4 a5 a7 Fr M r y a0 a1 e a2 a3 hH h
 rw [z1t] at h
 refine og (Tb rfl (hH.cells (i := 0) rfl 3 rfl) T5 z72) rfl <| og (Q3 rfl e z63) rfl <| mv rfl rfl ?_
 refine Run.Wd (Run.block (Run.loop ?_))
 exact Run.pick [2, 5, 6, 23, 24, 25] (z2g F F d (d.length : Int) (0 : Int) q s u d w x a6 b f g m b n p a4 a5 a7 _ _ _ e y a0 a1 e a2 a3 hH h)
def Jt (F : Nat) : Nat → List T0 → Int → Int → Int → List T1 → List T0 → List T2 → List T2 → List Int → List Int → List Bool → Option ((List Bool))
 | 0, _, _, _, _, _, _, _, _, _, _, _ => none
 | N + 1, x, y, w, n, b, d, e, f, g, m, p =>
  bif (decide (w < y)) then
   bnd (idx x w) fun s =>
   bnd (subP p.length s.From s.To) fun q =>
   bnd (clrP p (0 + q.1) q.2 false) fun u =>
   (Jt F N) x y (w64 (w + 1)) n b d e f g m u
  else
   bif (n == (0 : Int)) then
    z1s F b d e f g m p
   else
    bif (n == (1 : Int)) then
     z1t F b d e f g m p
    else
     none
theorem z51 (F : Nat) : ∀ (N : Nat), ∀ (v5 : List T0) (v6 v7 y : Int) (p : List T1) (q : List T0) (s u : List T2) (w x : List Int) (c0 : List Bool) (c2 d e f g m n : SV) (b7 : Pos) (b8 : SV) (b9 : Pos) (Fr : Rd) (M : Mem) (r : List Bool) (c3 : Slc Fr 2 (Ta Tg) c2 v5) (a0 : Slc Fr 3 (Ta Q9) d p) (a1 : Slc Fr 2 (Ta Tg) e q) (a2 : Slc Fr 2 (Tf Fr) f s) (a3 : Slc Fr 2 (Tf Fr) g u) (a4 : Slc Fr 1 (Ta Qd) m w) (a5 : Slc Fr 1 (Ta Qd) n x) (hH : Has Fr M [.obj b7 (.row 48 .whole [b8]), .vec 4 1 c0.length b8 (c0.flatMap z0h), .obj b9 (.row 85 .whole [d, e, f, g, m, n])]), Jt F N v5 v6 v7 y p q s u w x c0 = some r → Run Tryz.prog ⟨⟨67, [], none⟩, [.mk ⟨40, [], none⟩ 41 (treeOf [(1, (.int .i64 y)), (2, (.ptr b9 0)), (5, (.ptr b7 0)), (6, (.fn (.func 67) [] [(.ptr b7 0)]))]) [Tu Tryz.prog 40 [1, 1, 1, 0] 3, T6 Tryz.prog 40 [1, 1, 1, 1]]]⟩ 18 (z0b r) [(1, (.ptr b7 0)), (5, c2), (6, (.int .i64 v6)), (7, (.int .i64 v7))] [T6 Tryz.prog 67 [1, 0, 0], Tv Tryz.prog 67 [1, 0, 0], .inBlock 0] M := by
 intro N
 induction N with
 | zero =>
  intro v5 v6 v7 y p q s u w x c0 c2 d e f g m n b7 b8 b9 Fr M r c3 a0 a1 a2 a3 a4 a5 hH h
  simp [Jt] at h
 | succ N ih =>
  intro v5 v6 v7 y p q s u w x c0 c2 d e f g m n b7 b8 b9 Fr M r c3 a0 a1 a2 a3 a4 a5 hH h
  rw [Jt] at h
  refine Run.seq (Run.region ?_)
  refine og (Qz rfl rfl) rfl ?_
  refine Run.Wd (Run.seq ?_)
  rcases btf ((decide (v7 < v6))) with a7 | a7
  ·have h := Tm a7 h
   refine Run.Wf rfl a7 ?_
   refine Run.skip (Run.seq (Run.block (Run.seq (Run.region ?_))))
   obtain ⟨c1, a8, h⟩ := T8 h
   obtain ⟨d1, d0, _, a8, b3, rfl⟩ := Jc (P := Tryz.prog) (t := 33) (kk := .i64) c3 a8 z5a
   refine og (Q6 rfl rfl a8) rfl <| og (Tj rfl (hH.ptrF b3) T5 z2v rfl rfl rfl) rfl <| ox rfl (ExG.new (v := fun b => .ptr b 0) (Jz z5t) hH) ?_
   rintro _ c8 ⟨c5, rfl, a9⟩
   refine ox rfl (ExG.Wg (c' := [(.int .i64 c1.From), (.int .i64 c1.To)]) rfl rfl rfl a9 (i := 0) rfl z7s rfl rfl rfl rfl rfl) ?_
   rintro _ c6 ⟨rfl, (a6 : Has Fr c6 [.obj c5 (.row 106 .whole [(.int .i64 c1.From), (.int .i64 c1.To)]), .obj b7 (.row 48 .whole [b8]), .vec 4 1 c0.length b8 (c0.flatMap z0h), .obj b9 (.row 85 .whole [d, e, f, g, m, n])])⟩
   refine Run.Wd (Run.region ?_)
   refine og (Tb rfl (a6.cells (i := 1) rfl 0 rfl) T5 z9i) rfl <| og (T4 rfl z0k) rfl <| og (Tb rfl (a6.cells (i := 0) rfl 0 rfl) T5 z10) rfl <| og (T4 rfl z0e) rfl <| og (Tb rfl (a6.cells (i := 0) rfl 1 rfl) T5 z10) rfl ?_
   obtain ⟨c9, b1, h⟩ := T8 h
   have b5 := V6 a6 (i := 2) rfl
   obtain ⟨d2, b6, b4⟩ := part_cutB (P := Tryz.prog) (t := 48) (k0 := .i64) (k1 := .i64) b5 b1 z97
   refine og (ex_slX rfl (Zb rfl) (Zb rfl) b6) rfl ?_
   obtain ⟨c4, b2, h⟩ := T8 h
   refine ox rfl (ExG.clearP rfl a6 (i := 2) rfl b4 b2 z7x rfl z06 z2x) ?_
   rintro _ c7 ⟨rfl, (b0 : Has Fr c7 [.obj c5 (.row 106 .whole [(.int .i64 c1.From), (.int .i64 c1.To)]), .obj b7 (.row 48 .whole [b8]), .vec 4 1 c4.length b8 (c4.flatMap z0h), .obj b9 (.row 85 .whole [d, e, f, g, m, n])])⟩
   refine Run.Wd (Run.inBlock (Run.region ?_))
   refine og (Qq rfl rfl) rfl <| mv rfl rfl ?_
   refine Run.Wd (Run.inLoop ?_)
   exact Run.low (.cons (Jf [1, 2, 5, 6] rfl) .nil) (Run.pick [1, 5, 6, 7] (ih v5 v6 (w64 (v7 + 1)) y p q s u w x c4 c2 d e f g m n b7 b8 b9 _ _ _ c3 a0 a1 a2 a3 a4 a5 (b0.pick [1, 2, 3] rfl rfl) h))
  ·have h := Tn a7 h
   refine Run.We rfl a7 <| Run.exit rfl <| Run.fallTo Tryz.func67 rfl Te rfl ?_
   refine Run.Wd (Run.seq (Run.seq (Run.region ?_)))
   refine mv rfl rfl <| og (T4 rfl z8s) rfl ?_
   rcases btf ((y == (0 : Int))) with hc53 | hc53
   ·have h := Tm hc53 h
    refine og (Q6 rfl rfl (Qr (j := 0) (Gf hc53 rfl rfl) z73)) rfl ?_
    exact Run.pick [2, 5, 6, 22] (z52 F p q s u w x c0 d e f g m n b9 b7 b8 _ _ _ a0 a1 a2 a3 a4 a5 (hH.pick [2, 0, 1] rfl rfl) h)
   ·have h := Tn hc53 h
    rcases btf ((y == (1 : Int))) with hc82 | hc82
    ·have h := Tm hc82 h
     refine og (Q6 rfl rfl (Qr (j := 1) (Gf hc82 rfl rfl) z73)) rfl ?_
     exact Run.pick [2, 5, 6, 22] (z56 F p q s u w x c0 d e f g m n b9 b7 b8 _ _ _ a0 a1 a2 a3 a4 a5 (hH.pick [2, 0, 1] rfl rfl) h)
    ·have h := Tn hc82 h
     cases h
def K7 (F : Nat) (e : Tz) (f : Int) : Option ((List Bool)) :=
 bnd (Jb F e) fun b =>
 bnd (Xh F ([true] : List Bool) b) fun d =>
 Jt F F e.work (e.work.length : Int) (0 : Int) f e.duties e.work e.vetoes.e0 e.vetoes.e1 e.data.e0 e.data.e1 d
theorem z13 (F : Nat) (a0 : Tz) (a1 : Int) (s0 s1 s2 s3 s4 s5 : SV) (r : List Bool) (M : Mem) (a2 : Slc (rd M) 3 (Ta Q9) s0 a0.duties) (w : Slc (rd M) 2 (Ta Tg) s1 a0.work) (a3 : Slc (rd M) 2 (Tf (rd M)) s2 a0.vetoes.e0) (a4 : Slc (rd M) 2 (Tf (rd M)) s3 a0.vetoes.e1) (a5 : Slc (rd M) 1 (Ta Qd) s4 a0.data.e0) (a6 : Slc (rd M) 1 (Ta Qd) s5 a0.data.e1) (h : K7 F a0 a1 = some r) : CallsM Tryz.prog 40 [(.agg [s0, s1, s2, s3, s4, s5]), (.int .i64 a1)] M (fun s M' => ∃ q1, s = q1 ∧ New M M' [.vec 4 1 r.length q1 (r.flatMap z0h)]) := by
 refine CallsM.fresh (Q := z0b r) Tryz.func40 rfl rfl ?_ (by rintro s Me ⟨q1, rfl, hx⟩ ha hw; exact ⟨_, rfl, New.of rfl hx ha hw⟩)
 rw [K7] at h
 replace a2 := a2.mono (T3 M) (fun _ _ h => h)
 replace w := w.mono (T3 M) (fun _ _ h => h)
 replace a3 := a3.mono (T3 M) (fun _ _ => z00 (T3 M))
 replace a4 := a4.mono (T3 M) (fun _ _ => z00 (T3 M))
 replace a5 := a5.mono (T3 M) (fun _ _ h => h)
 replace a6 := a6.mono (T3 M) (fun _ _ h => h)
 have hH := Has.nil (frozen M)
 refine Run.seq (Run.region ?_)
 refine ox rfl (ExG.box rfl rfl hH) ?_
 rintro _ b3 ⟨y, rfl, m⟩
 refine av rfl rfl ?_
 refine Run.Wd (Run.seq (Run.region ?_))
 refine ox rfl (ExG.built (enc := z0h) (l := ([true] : List Bool)) (z := 1) rfl z7x rfl rfl rfl z06 m) ?_
 rintro a7 a9 (d : Has (ro (frozen M)) a9 [.vec 4 1 ([true] : List Bool).length a7 (([true] : List Bool).flatMap z0h), .obj y (.row 85 .whole [s0, s1, s2, s3, s4, s5])])
 refine og (Tj rfl (d.cells (i := 1) rfl 0 rfl) T5 z4r rfl rfl rfl) rfl ?_
 obtain ⟨b2, q, h⟩ := T8 h
 refine Run.callP T7 (Tl rfl z8o z8j) rfl (z0v F a0 s0 s1 s2 s3 s4 s5 _ _ (d.slcF a2) (d.slcF w) ((a3).mono d.le (fun _ _ => z00 d.le)) ((a4).mono d.le (fun _ _ => z00 d.le)) (d.slcF a5) (d.slcF a6) q) ?_
 obtain ⟨x, u, h⟩ := T8 h
 refine Run.callX T7 (Tl rfl zcn zbn) rfl (z6n F ([true] : List Bool) b2 a7 _ _ (d.slc (i := 0) rfl z06) u) ?_
 rintro e b0 ⟨_, rfl, p⟩
 have n : Has (ro (frozen M)) b0 [.vec 4 1 x.length e (x.flatMap z0h), .vec 4 1 ([true] : List Bool).length a7 (([true] : List Bool).flatMap z0h), .obj y (.row 85 .whole [s0, s1, s2, s3, s4, s5])] := p.1 _ _ d
 refine ox rfl (ExG.new (v := fun b => .ptr b 0) (Jz zd3) n) ?_
 rintro _ b4 ⟨a8, rfl, f⟩
 refine ox rfl (ExG.Wg (c' := [e]) rfl rfl (Gk (vec_one f (i := 1) rfl)) f (i := 0) rfl zd9 rfl rfl rfl (Q0 (vec_one f (i := 1) rfl) Ym) rfl) ?_
 rintro _ b1 ⟨rfl, (g : Has (ro (frozen M)) b1 [.obj a8 (.row 48 .whole [e]), .vec 4 1 x.length e (x.flatMap z0h), .vec 4 1 ([true] : List Bool).length a7 (([true] : List Bool).flatMap z0h), .obj y (.row 85 .whole [s0, s1, s2, s3, s4, s5])])⟩
 refine Run.Wd (Run.seq (Run.region ?_))
 refine og (Zd rfl rfl) rfl <| av rfl rfl ?_
 refine Run.Wd (Run.seq (Run.region ?_))
 refine mv rfl rfl <| og (T4 rfl z8r) rfl <| og (Tb rfl (g.cells (i := 3) rfl 1 rfl) T5 z2w) rfl <| Run.enter T7 (Y4 rfl rfl zau za6) Tryz.func67 rfl rfl ?_
 refine Run.seq (Run.region ?_)
 refine mv rfl rfl <| og (Q3 rfl w z2m) rfl <| mv rfl rfl ?_
 refine Run.Wd (Run.block (Run.loop ?_))
 exact Run.low (.cons (Jf [1, 2, 5, 6] rfl) .nil) (Run.pick [1, 5, 6, 7] (z51 F F a0.work (a0.work.length : Int) (0 : Int) a1 a0.duties a0.work a0.vetoes.e0 a0.vetoes.e1 a0.data.e0 a0.data.e1 x s1 s0 s1 s2 s3 s4 s5 a8 e y _ _ _ w a2 w a3 a4 a5 a6 (g.pick [0, 1, 3] rfl rfl) h))
theorem z92 : J8 Tryz.prog 40 = none := by kernel_rfl
theorem z8w : Ts Tryz.prog 40 = true := by kernel_rfl
end Go.Ev.RunWatches
