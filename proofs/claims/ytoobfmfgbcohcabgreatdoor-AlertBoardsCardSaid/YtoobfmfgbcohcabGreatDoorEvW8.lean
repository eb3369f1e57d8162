/- A part of the small machine. -/
import Derived.Test.YtoobfmfgbcohcabGreatDoorEvW3
set_option linter.unusedVariables false
/- Closed calls: the small machine's start and end. -/
namespace Go.Ev
open Go.RowKit
variable {P : Program} {I : Known}

/-- The end is 'true'. -/
noncomputable def endsTrue (r : Res) : Bool :=
 match r with
 | .done (.bool true) _ => true
 | _ => false

theorem ztm {r : Res} (h : endsTrue r = true) : ∃ M, r = .done (.bool true) M := by
 unfold endsTrue at h
 split at h
 ·exact ⟨_, rfl⟩
 ·simp at h

noncomputable def zwz (I D : Known) (P : Program) (k : Nat) (f : FuncId) (as : List SV) (M : Mem) : Res :=
 match enterS P f as with
 | some g => runS I D P k g [] M
 | none => .bad

/-- Calls in regions that draw: run as a whole, one level below. -/
noncomputable def levelS (I : Known) (P : Program) (k : Nat) (d : Nat) : Known :=
 Nat.rec I (fun _ D f as M => match I f as M with
  | some r => some r
  | none => match zwz I D P k f as M with
   | .done v M => some (v, M)
   | _ => none) d

theorem ztg (I : Known) (k d : Nat) (f : FuncId) (as : List SV) (M : Mem) : levelS I P k (d + 1) f as M = match I f as M with
  | some r => some r
  | none => match zwz I (levelS I P k d) P k f as M with
   | .done v M => some (v, M)
   | _ => none := rfl

theorem levelS_sound {B : Nat} {I : Known} (hI : Sound P B I) (hmix : P.follows .mixedOrders = true) (k : Nat) : ∀ d, Sound P B (levelS I P k d)
 | 0 => hI
 | d + 1 => by
  intro f as M s M' h
  rw [ztg] at h
  split at h
  ·rename_i r hr
   simp only [Option.some.injEq] at h
   subst h
   exact hI f as M s M' hr
  ·split at h
   ·rename_i v M1 hs
    simp only [Option.some.injEq, Prod.mk.injEq] at h
    obtain ⟨rfl, rfl⟩ := h
    intro m w vs hr has c cs
    unfold zwz at hs
    split at hs
    ·rename_i g hg
     have hb : zpd g.fn [] = f := by
      unfold enterS at hg
      split at hg
      ·simp at hg
      ·split at hg
       ·simp only [Option.some.injEq] at hg; subst hg; rfl
       ·simp at hg
     have := zom hI (levelS_sound hI hmix k d) hmix (cs0 := c :: cs) k hr (zjl hg has) (zj3.nil (R := zlo m)) hb
     rw [hs] at this
     obtain ⟨fr, w', m', x, h1, h2, h3, h4, _⟩ := this
     exact ⟨m', w', x, h2, h3, h1.trans (.one (step_leave_returned h4))⟩
    ·simp at hs
   ·simp at h

noncomputable def noneKnown : Known := fun _ _ _ => none

end Go.Ev

/- A closed run in pieces: states that are written down, and the way from one to the next. -/
namespace Go.Ev
open Go.RowKit
variable {P : Program} {I D : Known}

/-- Where a run is. -/
structure St where
 f : zi2
 cs : List zi2
 M : Mem

/-- The model comes, from mach, to what stands for s. -/
def y05 (P : Program) (B : Nat) (cs0 : List Frame) (bt : FuncId) (w0 : World) (mach : Machine) (s : St) : Prop :=
 ∃ m w fr frs, Steps P mach (lone fr (frs ++ cs0) w) ∧ MRel B m s.M w ∧ zlo m s.f fr ∧ zj3 (zlo m) s.cs frs ∧ zpd s.f.fn s.cs = bt ∧ Below B w0 w

/-- The model comes from what stands for s to what stands for s'. -/
def Way (P : Program) (s s' : St) : Prop := ∀ B cs0 bt w0 mach, y05 P B cs0 bt w0 mach s → y05 P B cs0 bt w0 mach s'

theorem Way.refl (s : St) : Way P s s := fun _ _ _ _ _ h => h
theorem Way.trans {a b c : St} (h : Way P a b) (h' : Way P b c) : Way P a c := fun B cs0 bt w0 mach r => h' B cs0 bt w0 mach (h B cs0 bt w0 mach r)

theorem MRel.kept {B : Nat} {m : Map} {M : Mem} {w w' : World} (hr : MRel B m M w) (h : Below w.heap.size w w') : MRel B m M w' := by
 refine ⟨fun b o p hb hp => ?_, hr.inj, hr.fresh, fun b p hp => ?_, hr.low, Nat.le_trans hr.base h.size, hr.glob, hr.flo⟩
 ·rw [h.block _ (hr.bound b p hp)]
  exact hr.objs b o p hb hp
 ·have := hr.bound b p hp
  have := h.size
  omega

end Go.Ev

/- Where a piece of code lies in a program. -/
namespace Go.Ev
open Go.RowKit

noncomputable def y0m (c : Code) (i : Nat) : Code := match c with
 | .seq a b => match i with | 0 => a | _ => b
 | .cond _ a b => match i with | 0 => a | _ => b
 | .block _ a => a
 | .loop a => a
 | .scope a => a
 | .rangeFunc _ _ a b => match i with | 0 => a | _ => b
 | c => c
noncomputable def y1j (c : Code) (p : List Nat) : Code := List.rec (fun c => c) (fun i _ ih c => ih (y0m c i)) p c
noncomputable def y1d (P : Program) (f : Nat) : Code := match P.funcs[f]? with
 | some F => match F.body with
  | some c => c
  | none => .skip
 | none => .skip
noncomputable def atC (P : Program) (f : Nat) (p : List Nat) : Code := y1j (y1d P f) p
noncomputable def opsC (c : Code) : Array Oper := match c with
 | .region _ ops _ => ops
 | _ => #[]
noncomputable def y1b (l : List Oper) (i : Nat) : List Oper := Nat.rec (fun l => l) (fun _ ih l => List.rec [] (fun _ r _ => ih r) l) i l
/-- The operations of a region, and those from i on. -/
noncomputable def itemC (P : Program) (f : Nat) (p : List Nat) (i : Nat) : SItem := .ops (opsC (atC P f p)) (y1b (opsC (atC P f p)).toList i)
noncomputable def codeC (P : Program) (f : Nat) (p : List Nat) : SItem := .code (atC P f p)
noncomputable def loopC (P : Program) (f : Nat) (p : List Nat) : SItem := .inLoop (atC P f p)
end Go.Ev

/- Closed calls, where some calls are known. -/
namespace Go.Ev
open Go.RowKit
variable {P : Program} {I : Known}

end Go.Ev

/- Closed calls where some package variables are known: they are rows that are only read. -/
namespace Go.Ev
open Go.RowKit
variable {P : Program} {I D : Known}

/-- The rows of the package variables of which it is known what they hold. -/
noncomputable def zth (l : List (Nat × List SV)) : Tree SObj := List.rec .leaf (fun x _ ih => Tree.put (some (.fix x.2)) (Pos.ofNat x.1) ih) l
noncomputable def memFix (n : Nat) (l : List (Nat × List SV)) : Mem := ⟨zth l, Pos.ofNat n, 0⟩

/-- What is asked of the world: the variables hold this. -/
def FixOK (w : World) (l : List (Nat × List SV)) : Prop := ∀ x ∈ l, ∃ e vs, w.heap[x.1]? = some (.cells vs.toArray e (0, 0)) ∧ concs (fun _ => none) x.2 = some vs

theorem zlf : ∀ (l : List (Nat × List SV)) (b : Pos) (o : SObj), (zth l).get b = some o → ∃ x ∈ l, b = Pos.ofNat x.1 ∧ o = .fix x.2
 | [], b, o, h => by rw [show zth [] = .leaf from rfl, Tree.get_leaf] at h; simp at h
 | x :: l, b, o, h => by
  rw [show zth (x :: l) = Tree.put (some (.fix x.2)) (Pos.ofNat x.1) (zth l) from rfl] at h
  by_cases hb : Pos.ofNat x.1 = b
  ·subst hb
   rw [Tree.get_put_same] at h
   simp only [Option.some.injEq] at h
   exact ⟨x, by simp, rfl, h.symm⟩
  ·rw [Tree.get_put_other _ _ hb] at h
   obtain ⟨y, hy, h1, h2⟩ := zlf l b o h
   exact ⟨y, by simp [hy], h1, h2⟩

/-- Where a call without arguments begins. -/
noncomputable def startM (P : Program) (f : FuncId) (M : Mem) : St := ⟨(enterS P f []).getD (.mk ⟨f, [], none⟩ 0 .leaf []), [], M⟩

theorem call_way_mem (hI : ∀ B, Sound P B I) (hD : ∀ B, Sound P B D) (hmix : P.follows .mixedOrders = true) (k : Nat) {f : FuncId} {s : St} {M : Mem} (hg : (enterS P f []).isSome = true) (h : Way P (startM P f M) s) (he : endsTrue (runS I D P k s.f s.cs s.M) = true) {w : World} {m : Map} (hr : MRel w.heap.size m M w) :
  Calls P f #[] w fun e w' => e = .returned (.bool true) ∧ Below w.heap.size w w' := by
 intro cs0
 cases hgg : enterS P f [] with
 | none => rw [hgg] at hg; simp at hg
 | some g =>
  have hst : startM P f M = ⟨g, [], M⟩ := by unfold startM; rw [hgg]; rfl
  have hfr := zjl (m := m) (vs := #[]) hgg (concs_nil _)
  have r0 : y05 P w.heap.size cs0 f w (lone (Frame.enter P f #[] .normal) cs0 w) (startM P f M) := by
   rw [hst]
   exact ⟨m, w, _, [], .refl _ _, hr, hfr, .nil, zmz hgg, Below.refl _ _⟩
  obtain ⟨m, w1, fr, frs, hs, hm, hf, hc, hb, hw⟩ := h _ _ _ _ _ r0
  have hrun := zom (hI _) (hD _) hmix (cs0 := cs0) (bt := f) k hm hf hc hb
  obtain ⟨M', hM⟩ := ztm he
  rw [hM] at hrun
  obtain ⟨fr', w', m', x, hs', hst', hv, hl, hfn⟩ := hrun
  have hx : x = .bool true := by simp [conc] at hv; exact hv.symm
  subst hx
  exact ⟨.returned (.bool true), w', fr', ⟨rfl, hw.trans hst'.below⟩, hs.trans hs', hfn, hl⟩

end Go.Ev

