/- A part of the small machine. -/
import Derived.Test.YtajnglhkdglglaaGreatDoorEvW3
set_option linter.unusedVariables false
/- Closed calls: the small machine's start and end. -/
namespace Go.Ev
open Go.RowKit
variable {P : Program} {I : Jg}

/-- The end is 'true'. -/
noncomputable def Vj (r : Res) : Bool :=
 match r with
 | .done (.bool true) _ => true
 | _ => false

theorem zq2 {r : Res} (h : Vj r = true) : ∃ M, r = .done (.bool true) M := by
 unfold Vj at h
 split at h
 ·exact ⟨_, rfl⟩
 ·simp at h

noncomputable def Qt : Jg := fun _ _ _ => none

end Go.Ev

/- A closed run in pieces: states that are written down, and the way from one to the next. -/
namespace Go.Ev
open Go.RowKit
variable {P : Program} {I D : Jg}

/-- Where a run is. -/
structure St where
 f : zdd
 cs : List zdd
 M : Mem

/-- Only what lies under k's names. -/
noncomputable def ztj {α β : Type} (k : Tree α) : Tree β → Tree β :=
 Tree.rec (fun _ => .leaf) (fun _ v _ ihl ihr t => Tree.rec .leaf (fun l' v' r' _ _ => .node (ihl l') (Option.rec none (fun _ => v') v) (ihr r')) t) k

theorem zkk {α β : Type} : ∀ (k : Tree α) (t : Tree β) (b : Pos) (o : β), Tree.get b (ztj k t) = some o → Tree.get b t = some o
 | .leaf, t, b, o, h => by
  rw [show ztj (.leaf : Tree α) t = .leaf from rfl, Tree.get_leaf] at h
  simp at h
 | .node l v r, .leaf, b, o, h => by
  rw [show ztj (.node l v r : Tree α) (.leaf : Tree β) = .leaf from rfl, Tree.get_leaf] at h
  simp at h
 | .node l v r, .node l' v' r', b, o, h => by
  have e : ztj (.node l v r : Tree α) (.node l' v' r' : Tree β) = .node (ztj l l') (Option.rec none (fun _ => v') v) (ztj r r') := rfl
  rw [e] at h
  cases b with
  | one =>
   rw [Tree.get_one] at h
   rw [Tree.get_one]
   cases v with
   | none => exact absurd h (by simp)
   | some x => exact h
  | b0 b =>
   rw [Tree.get_b0] at h
   rw [Tree.get_b0]
   exact zkk l l' b o h
  | b1 b =>
   rw [Tree.get_b1] at h
   rw [Tree.get_b1]
   exact zkk r r' b o h

noncomputable def zzn (k : Mem) (M : Mem) : Mem := Mem.rec (fun t n f => Mem.rec (fun kt _ _ => ⟨ztj kt t, n, f⟩) k) M
noncomputable def zyc (k : zdd) (f : zdd) : zdd := zdd.rec (fun cx n σ todo => zdd.rec (fun _ _ kσ _ => .mk cx n (ztj kσ σ) todo) k) f
noncomputable def zti (k : List zdd) : List zdd → List zdd :=
 List.rec (fun fs => fs) (fun x _ ih fs => List.rec [] (fun f r _ => zyc x f :: ih r) fs) k

theorem zvx {B : Nat} {m : Map} {M : Mem} {w : World} (k : Mem) (hr : MRel B m M w) : MRel B m (zzn k M) w := by
 cases k with
 | mk kt kn kf =>
 cases M with
 | mk t n f =>
 have g : ∀ b o, Tree.get b (ztj kt t) = some o → Tree.get b t = some o := zkk kt t
 refine ⟨fun b o p h hp => hr.objs b o p (g b o h) hp, fun b b' o o' p p' h h' how hp hp' => hr.inj b b' o o' p p' (g b o h) (g b' o' h') how hp hp', fun b hb => ⟨(hr.fresh b hb).1, ?_⟩, hr.bound, fun b o p h => hr.low b o p (g b o h), hr.base, fun b c h => hr.glob b c (g b _ h), hr.flo⟩
 show Tree.get b (ztj kt t) = none
 cases h : Tree.get b (ztj kt t) with
 | none => rfl
 | some o =>
  have := g b o h
  have h2 : Tree.get b t = none := (hr.fresh b hb).2
  rw [h2] at this
  simp at this

theorem zrb {m : Map} (k : zdd) {f : zdd} {fr : Frame} (h : zfu m f fr) : zfu m (zyc k f) fr ∧ (zyc k f).fn = f.fn := by
 cases k with
 | mk kc kn kσ kt =>
 cases f with
 | mk cx n σ todo =>
 obtain ⟨c, tm, td, rfl, hc, ht, hn, hk⟩ := h
 exact ⟨⟨c, tm, td, rfl, hc, fun t s hs => ht t s (zkk _ _ _ _ hs), hn, hk⟩, rfl⟩

theorem zoo {m : Map} : ∀ (k : List zdd) {cs : List zdd} {frs : List Frame}, ze1 (zfu m) cs frs → cs.length = k.length → ze1 (zfu m) (zti k cs) frs ∧ ∀ f, zhy f (zti k cs) = zhy f cs
 | [], cs, _, h, hl => by
  cases cs with
  | nil => exact ⟨h, fun _ => rfl⟩
  | cons c cs => simp at hl
 | x :: k, _, _, .nil, hl => by simp at hl
 | x :: k, _, _, .cons (a := c) (l := cs) hx hc, hl => by
  have ih := zoo k hc (by simpa using hl)
  have h1 := zrb x hx
  refine ⟨.cons h1.1 ih.1, fun f => ?_⟩
  show zhy (zyc x c).fn (zti k cs) = zhy c.fn cs
  rw [h1.2, ih.2]

/-- The model comes, from mach, to what stands for s. -/
def zxg (P : Program) (B : Nat) (cs0 : List Frame) (bt : FuncId) (w0 : World) (mach : Machine) (s : St) : Prop :=
 ∃ m w fr frs, Steps P mach (lone fr (frs ++ cs0) w) ∧ MRel B m s.M w ∧ zfu m s.f fr ∧ ze1 (zfu m) s.cs frs ∧ zhy s.f.fn s.cs = bt ∧ Below B w0 w

/-- The model comes from what stands for s to what stands for s'. -/
def Way (P : Program) (s s' : St) : Prop := ∀ B cs0 bt w0 mach, zxg P B cs0 bt w0 mach s → zxg P B cs0 bt w0 mach s'

theorem Way.refl (s : St) : Way P s s := fun _ _ _ _ _ h => h
theorem Way.trans {a b c : St} (h : Way P a b) (h' : Way P b c) : Way P a c := fun B cs0 bt w0 mach r => h' B cs0 bt w0 mach (h B cs0 bt w0 mach r)

theorem MRel.kept {B : Nat} {m : Map} {M : Mem} {w w' : World} (hr : MRel B m M w) (h : Below w.heap.size w w') : MRel B m M w' := by
 refine ⟨fun b o p hb hp => ?_, hr.inj, hr.fresh, fun b p hp => ?_, hr.low, Nat.le_trans hr.base h.size, hr.glob, hr.flo⟩
 ·rw [h.block _ (hr.bound b p hp)]
  exact hr.objs b o p hb hp
 ·have := hr.bound b p hp
  have := h.size
  omega

end Go.Ev

/- Where a piece of code lies in a program. -/
namespace Go.Ev
open Go.RowKit

noncomputable def zyh (c : Code) (i : Nat) : Code := match c with
 | .seq a b => match i with | 0 => a | _ => b
 | .cond _ a b => match i with | 0 => a | _ => b
 | .block _ a => a
 | .loop a => a
 | .scope a => a
 | .rangeFunc _ _ a b => match i with | 0 => a | _ => b
 | c => c
noncomputable def zzj (c : Code) (p : List Nat) : Code := List.rec (fun c => c) (fun i _ ih c => ih (zyh c i)) p c
noncomputable def zz6 (P : Program) (f : Nat) : Code := match P.funcs[f]? with
 | some F => match F.body with
  | some c => c
  | none => .skip
 | none => .skip
noncomputable def atC (P : Program) (f : Nat) (p : List Nat) : Code := zzj (zz6 P f) p
noncomputable def Vu (c : Code) : Array Oper := match c with
 | .region _ ops _ => ops
 | _ => #[]
noncomputable def zz9 (l : List Oper) (i : Nat) : List Oper := Nat.rec (fun l => l) (fun _ ih l => List.rec [] (fun _ r _ => ih r) l) i l
/-- The operations of a region, and those from i on. -/
noncomputable def Tu (P : Program) (f : Nat) (p : List Nat) (i : Nat) : SItem := .ops (Vu (atC P f p)) (zz9 (Vu (atC P f p)).toList i)
noncomputable def T6 (P : Program) (f : Nat) (p : List Nat) : SItem := .code (atC P f p)
noncomputable def Tv (P : Program) (f : Nat) (p : List Nat) : SItem := .inLoop (atC P f p)
end Go.Ev

/- Closed calls, where some calls are known. -/
namespace Go.Ev
open Go.RowKit
variable {P : Program} {I : Jg}

end Go.Ev

/- Closed calls where some package variables are known: they are rows that are only read. -/
namespace Go.Ev
open Go.RowKit
variable {P : Program} {I D : Jg}

/-- The rows of the package variables of which it is known what they hold. -/
noncomputable def zq6 (l : List (Nat × List SV)) : Tree SObj := List.rec .leaf (fun x _ ih => Tree.put (some (.fix x.2)) (Pos.ofNat x.1) ih) l
noncomputable def Vp (n : Nat) (l : List (Nat × List SV)) : Mem := ⟨zq6 l, Pos.ofNat n, 0⟩

/-- What is asked of the world: the variables hold this. -/
def FixOK (w : World) (l : List (Nat × List SV)) : Prop := ∀ x ∈ l, ∃ e vs, w.heap[x.1]? = some (.cells vs.toArray e (0, 0)) ∧ concs (fun _ => none) x.2 = some vs

theorem zgy : ∀ (l : List (Nat × List SV)) (b : Pos) (o : SObj), (zq6 l).get b = some o → ∃ x ∈ l, b = Pos.ofNat x.1 ∧ o = .fix x.2
 | [], b, o, h => by rw [show zq6 [] = .leaf from rfl, Tree.get_leaf] at h; simp at h
 | x :: l, b, o, h => by
  rw [show zq6 (x :: l) = Tree.put (some (.fix x.2)) (Pos.ofNat x.1) (zq6 l) from rfl] at h
  by_cases hb : Pos.ofNat x.1 = b
  ·subst hb
   rw [Tree.get_put_same] at h
   simp only [Option.some.injEq] at h
   exact ⟨x, by simp, rfl, h.symm⟩
  ·rw [Tree.get_put_other _ _ hb] at h
   obtain ⟨y, hy, h1, h2⟩ := zgy l b o h
   exact ⟨y, by simp [hy], h1, h2⟩

/-- Where a call without arguments begins. -/
noncomputable def startM (P : Program) (f : FuncId) (M : Mem) : St := ⟨(Xx P f []).getD (.mk ⟨f, [], none⟩ 0 .leaf []), [], M⟩

end Go.Ev

