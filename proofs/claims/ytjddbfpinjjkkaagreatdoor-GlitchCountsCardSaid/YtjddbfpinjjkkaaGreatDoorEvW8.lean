/- A part of the small machine. -/
import Derived.Test.YtjddbfpinjjkkaaGreatDoorEvW3
set_option linter.unusedVariables false
namespace Go.Ev
open Go.RowKit
variable {P : Program} {I : Known}
noncomputable def endsTrue (r : Res) : Bool :=
 match r with
 | .done (.bool true) _ => true
 | _ => false
theorem zkl {r : Res} (h : endsTrue r = true) : ∃ M, r = .done (.bool true) M := by
 unfold endsTrue at h
 split at h
 ·exact ⟨_, rfl⟩
 ·simp at h
noncomputable def z9a : Known := fun _ _ _ => none
inductive Look where
 | bad | go | done (v : SV)
end Go.Ev
namespace Go.Ev
open Go.RowKit
variable {P : Program} {I D : Known}
structure St where
 f : z81
 cs : List z81
 M : Mem
noncomputable def znw {α β : Type} (k : Tree α) : Tree β → Tree β :=
 Tree.rec (fun _ => .leaf) (fun _ v _ ihl ihr t => Tree.rec .leaf (fun l' v' r' _ _ => .node (ihl l') (Option.rec none (fun _ => v') v) (ihr r')) t) k
theorem zf2 {α β : Type} : ∀ (k : Tree α) (t : Tree β) (b : Pos) (o : β), Tree.get b (znw k t) = some o → Tree.get b t = some o
 | .leaf, t, b, o, h => by
  rw [show znw (.leaf : Tree α) t = .leaf from rfl, Tree.get_leaf] at h
  simp at h
 | .node l v r, .leaf, b, o, h => by
  rw [show znw (.node l v r : Tree α) (.leaf : Tree β) = .leaf from rfl, Tree.get_leaf] at h
  simp at h
 | .node l v r, .node l' v' r', b, o, h => by
  have e : znw (.node l v r : Tree α) (.node l' v' r' : Tree β) = .node (znw l l') (Option.rec none (fun _ => v') v) (znw r r') := rfl
  rw [e] at h
  cases b with
  | one =>
   rw [Tree.get_one] at h
   rw [Tree.get_one]
   cases v with
   | none => exact absurd h (by simp)
   | some x => exact h
  | b0 b =>
   rw [Tree.get_b0] at h
   rw [Tree.get_b0]
   exact zf2 l l' b o h
  | b1 b =>
   rw [Tree.get_b1] at h
   rw [Tree.get_b1]
   exact zf2 r r' b o h
noncomputable def zu7 (k : Mem) (M : Mem) : Mem := Mem.rec (fun t n f => Mem.rec (fun kt _ _ => ⟨znw kt t, n, f⟩) k) M
noncomputable def zst (k : z81) (f : z81) : z81 := z81.rec (fun cx n σ todo => z81.rec (fun _ _ kσ _ => .mk cx n (znw kσ σ) todo) k) f
noncomputable def znv (k : List z81) : List z81 → List z81 :=
 List.rec (fun fs => fs) (fun x _ ih fs => List.rec [] (fun f r _ => zst x f :: ih r) fs) k
theorem zqd {B : Nat} {m : Map} {M : Mem} {w : World} (k : Mem) (hr : MRel B m M w) : MRel B m (zu7 k M) w := by
 cases k with
 | mk kt kn kf =>
 cases M with
 | mk t n f =>
 have g : ∀ b o, Tree.get b (znw kt t) = some o → Tree.get b t = some o := zf2 kt t
 refine ⟨fun b o p h hp => hr.objs b o p (g b o h) hp, fun b b' o o' p p' h h' how hp hp' => hr.inj b b' o o' p p' (g b o h) (g b' o' h') how hp hp', fun b hb => ⟨(hr.fresh b hb).1, ?_⟩, hr.bound, fun b o p h => hr.low b o p (g b o h), hr.base, fun b c h => hr.glob b c (g b _ h), hr.flo⟩
 show Tree.get b (znw kt t) = none
 cases h : Tree.get b (znw kt t) with
 | none => rfl
 | some o =>
  have := g b o h
  have h2 : Tree.get b t = none := (hr.fresh b hb).2
  rw [h2] at this
  simp at this
theorem zlo {m : Map} (k : z81) {f : z81} {fr : Frame} (h : zaj m f fr) : zaj m (zst k f) fr ∧ (zst k f).fn = f.fn := by
 cases k with
 | mk kc kn kσ kt =>
 cases f with
 | mk cx n σ todo =>
 obtain ⟨c, tm, td, rfl, hc, ht, hn, hk⟩ := h
 exact ⟨⟨c, tm, td, rfl, hc, fun t s hs => ht t s (zf2 _ _ _ _ hs), hn, hk⟩, rfl⟩
theorem zj9 {m : Map} : ∀ (k : List z81) {cs : List z81} {frs : List Frame}, z8p (zaj m) cs frs → cs.length = k.length → z8p (zaj m) (znv k cs) frs ∧ ∀ f, zcn f (znv k cs) = zcn f cs
 | [], cs, _, h, hl => by
  cases cs with
  | nil => exact ⟨h, fun _ => rfl⟩
  | cons c cs => simp at hl
 | x :: k, _, _, .nil, hl => by simp at hl
 | x :: k, _, _, .cons (a := c) (l := cs) hx hc, hl => by
  have ih := zj9 k hc (by simpa using hl)
  have h1 := zlo x hx
  refine ⟨.cons h1.1 ih.1, fun f => ?_⟩
  show zcn (zst x c).fn (znv k cs) = zcn c.fn cs
  rw [h1.2, ih.2]
def zrw (P : Program) (B : Nat) (cs0 : List Frame) (bt : FuncId) (w0 : World) (mach : Machine) (s : St) : Prop :=
 ∃ m w fr frs, Steps P mach (lone fr (frs ++ cs0) w) ∧ MRel B m s.M w ∧ zaj m s.f fr ∧ z8p (zaj m) s.cs frs ∧ zcn s.f.fn s.cs = bt ∧ Below B w0 w
def Way (P : Program) (s s' : St) : Prop := ∀ B cs0 bt w0 mach, zrw P B cs0 bt w0 mach s → zrw P B cs0 bt w0 mach s'
theorem Way.refl (s : St) : Way P s s := fun _ _ _ _ _ h => h
theorem Way.trans {a b c : St} (h : Way P a b) (h' : Way P b c) : Way P a c := fun B cs0 bt w0 mach r => h' B cs0 bt w0 mach (h B cs0 bt w0 mach r)
theorem MRel.kept {B : Nat} {m : Map} {M : Mem} {w w' : World} (hr : MRel B m M w) (h : Below w.heap.size w w') : MRel B m M w' := by
 refine ⟨fun b o p hb hp => ?_, hr.inj, hr.fresh, fun b p hp => ?_, hr.low, Nat.le_trans hr.base h.size, hr.glob, hr.flo⟩
 ·rw [h.block _ (hr.bound b p hp)]
  exact hr.objs b o p hb hp
 ·have := hr.bound b p hp
  have := h.size
  omega
end Go.Ev
namespace Go.Ev
open Go.RowKit
noncomputable def zsz (c : Code) (i : Nat) : Code := match c with
 | .seq a b => match i with | 0 => a | _ => b
 | .cond _ a b => match i with | 0 => a | _ => b
 | .block _ a => a
 | .loop a => a
 | .scope a => a
 | .rangeFunc _ _ a b => match i with | 0 => a | _ => b
 | c => c
noncomputable def zu4 (c : Code) (p : List Nat) : Code := List.rec (fun c => c) (fun i _ ih c => ih (zsz c i)) p c
noncomputable def ztr (P : Program) (f : Nat) : Code := match P.funcs[f]? with
 | some F => match F.body with
  | some c => c
  | none => .skip
 | none => .skip
noncomputable def atC (P : Program) (f : Nat) (p : List Nat) : Code := zu4 (ztr P f) p
noncomputable def opsC (c : Code) : Array Oper := match c with
 | .region _ ops _ => ops
 | _ => #[]
noncomputable def ztu (l : List Oper) (i : Nat) : List Oper := Nat.rec (fun l => l) (fun _ ih l => List.rec [] (fun _ r _ => ih r) l) i l
noncomputable def itemC (P : Program) (f : Nat) (p : List Nat) (i : Nat) : SItem := .ops (opsC (atC P f p)) (ztu (opsC (atC P f p)).toList i)
noncomputable def codeC (P : Program) (f : Nat) (p : List Nat) : SItem := .code (atC P f p)
noncomputable def loopC (P : Program) (f : Nat) (p : List Nat) : SItem := .inLoop (atC P f p)
end Go.Ev
namespace Go.Ev
open Go.RowKit
variable {P : Program} {I : Known}
end Go.Ev
namespace Go.Ev
open Go.RowKit
variable {P : Program} {I D : Known}
noncomputable def zls (l : List (Nat × List SV)) : Tree SObj := List.rec .leaf (fun x _ ih => Tree.put (some (.fix x.2)) (Pos.ofNat x.1) ih) l
noncomputable def memFix (n : Nat) (l : List (Nat × List SV)) : Mem := ⟨zls l, Pos.ofNat n, 0⟩
def FixOK (w : World) (l : List (Nat × List SV)) : Prop := ∀ x ∈ l, ∃ e vs, w.heap[x.1]? = some (.cells vs.toArray e (0, 0)) ∧ concs (fun _ => none) x.2 = some vs
theorem zbo : ∀ (l : List (Nat × List SV)) (b : Pos) (o : SObj), (zls l).get b = some o → ∃ x ∈ l, b = Pos.ofNat x.1 ∧ o = .fix x.2
 | [], b, o, h => by rw [show zls [] = .leaf from rfl, Tree.get_leaf] at h; simp at h
 | x :: l, b, o, h => by
  rw [show zls (x :: l) = Tree.put (some (.fix x.2)) (Pos.ofNat x.1) (zls l) from rfl] at h
  by_cases hb : Pos.ofNat x.1 = b
  ·subst hb
   rw [Tree.get_put_same] at h
   simp only [Option.some.injEq] at h
   exact ⟨x, by simp, rfl, h.symm⟩
  ·rw [Tree.get_put_other _ _ hb] at h
   obtain ⟨y, hy, h1, h2⟩ := zbo l b o h
   exact ⟨y, by simp [hy], h1, h2⟩
noncomputable def startM (P : Program) (f : FuncId) (M : Mem) : St := ⟨(enterS P f []).getD (.mk ⟨f, [], none⟩ 0 .leaf []), [], M⟩
end Go.Ev
