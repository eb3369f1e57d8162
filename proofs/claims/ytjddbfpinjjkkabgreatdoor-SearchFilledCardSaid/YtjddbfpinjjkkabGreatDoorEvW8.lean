/- A part of the small machine. -/
import Derived.Test.YtjddbfpinjjkkabGreatDoorEvW3
set_option linter.unusedVariables false
namespace Go.Ev
open Go.RowKit
variable {P : Program} {I : Known}
noncomputable def endsTrue (r : Res) : Bool :=
  match r with
  | .done (.bool true) _ => true
  | _ => false
theorem endsTrue_eq {r : Res} (h : endsTrue r = true) : ∃ M, r = .done (.bool true) M := by
  unfold endsTrue at h
  split at h
  · exact ⟨_, rfl⟩
  · simp at h
noncomputable def noneKnown : Known := fun _ _ _ => none
inductive Look where
  | bad | go | done (v : SV)
end Go.Ev
namespace Go.Ev
open Go.RowKit
variable {P : Program} {I D : Known}
structure St where
  f : SFrame
  cs : List SFrame
  M : Mem
noncomputable def cutT {α β : Type} (k : Tree α) : Tree β → Tree β :=
  Tree.rec (fun _ => .leaf) (fun _ v _ ihl ihr t => Tree.rec .leaf (fun l' v' r' _ _ => .node (ihl l') (Option.rec none (fun _ => v') v) (ihr r')) t) k
theorem cutT_get {α β : Type} : ∀ (k : Tree α) (t : Tree β) (b : Pos) (o : β), Tree.get b (cutT k t) = some o → Tree.get b t = some o
  | .leaf, t, b, o, h => by
    rw [show cutT (.leaf : Tree α) t = .leaf from rfl, Tree.get_leaf] at h
    simp at h
  | .node l v r, .leaf, b, o, h => by
    rw [show cutT (.node l v r : Tree α) (.leaf : Tree β) = .leaf from rfl, Tree.get_leaf] at h
    simp at h
  | .node l v r, .node l' v' r', b, o, h => by
    have e : cutT (.node l v r : Tree α) (.node l' v' r' : Tree β) = .node (cutT l l') (Option.rec none (fun _ => v') v) (cutT r r') := rfl
    rw [e] at h
    cases b with
    | one =>
      rw [Tree.get_one] at h
      rw [Tree.get_one]
      cases v with
      | none => exact absurd h (by simp)
      | some x => exact h
    | b0 b =>
      rw [Tree.get_b0] at h
      rw [Tree.get_b0]
      exact cutT_get l l' b o h
    | b1 b =>
      rw [Tree.get_b1] at h
      rw [Tree.get_b1]
      exact cutT_get r r' b o h
noncomputable def cutM (k : Mem) (M : Mem) : Mem := Mem.rec (fun t n f => Mem.rec (fun kt _ _ => ⟨cutT kt t, n, f⟩) k) M
noncomputable def cutF (k : SFrame) (f : SFrame) : SFrame := SFrame.rec (fun cx n σ todo => SFrame.rec (fun _ _ kσ _ => .mk cx n (cutT kσ σ) todo) k) f
noncomputable def cutFs (k : List SFrame) : List SFrame → List SFrame :=
  List.rec (fun fs => fs) (fun x _ ih fs => List.rec [] (fun f r _ => cutF x f :: ih r) fs) k
theorem cutM_rel {B : Nat} {m : Map} {M : Mem} {w : World} (k : Mem) (hr : MRel B m M w) : MRel B m (cutM k M) w := by
  cases k with
  | mk kt kn kf =>
  cases M with
  | mk t n f =>
  have g : ∀ b o, Tree.get b (cutT kt t) = some o → Tree.get b t = some o := cutT_get kt t
  refine ⟨fun b o p h hp => hr.objs b o p (g b o h) hp, fun b b' o o' p p' h h' how hp hp' => hr.inj b b' o o' p p' (g b o h) (g b' o' h') how hp hp', fun b hb => ⟨(hr.fresh b hb).1, ?_⟩, hr.bound, fun b o p h => hr.low b o p (g b o h), hr.base, fun b c h => hr.glob b c (g b _ h), hr.flo⟩
  show Tree.get b (cutT kt t) = none
  cases h : Tree.get b (cutT kt t) with
  | none => rfl
  | some o =>
    have := g b o h
    have h2 : Tree.get b t = none := (hr.fresh b hb).2
    rw [h2] at this
    simp at this
theorem cutF_rel {m : Map} (k : SFrame) {f : SFrame} {fr : Frame} (h : FRel m f fr) : FRel m (cutF k f) fr ∧ (cutF k f).fn = f.fn := by
  cases k with
  | mk kc kn kσ kt =>
  cases f with
  | mk cx n σ todo =>
  obtain ⟨c, tm, td, rfl, hc, ht, hn, hk⟩ := h
  exact ⟨⟨c, tm, td, rfl, hc, fun t s hs => ht t s (cutT_get _ _ _ _ hs), hn, hk⟩, rfl⟩
theorem cutFs_rel {m : Map} : ∀ (k : List SFrame) {cs : List SFrame} {frs : List Frame}, All2 (FRel m) cs frs → cs.length = k.length → All2 (FRel m) (cutFs k cs) frs ∧ ∀ f, botF f (cutFs k cs) = botF f cs
  | [], cs, _, h, hl => by
    cases cs with
    | nil => exact ⟨h, fun _ => rfl⟩
    | cons c cs => simp at hl
  | x :: k, _, _, .nil, hl => by simp at hl
  | x :: k, _, _, .cons (a := c) (l := cs) hx hc, hl => by
    have ih := cutFs_rel k hc (by simpa using hl)
    have h1 := cutF_rel x hx
    refine ⟨.cons h1.1 ih.1, fun f => ?_⟩
    show botF (cutF x c).fn (cutFs k cs) = botF c.fn cs
    rw [h1.2, ih.2]
def Reach (P : Program) (B : Nat) (cs0 : List Frame) (bt : FuncId) (w0 : World) (mach : Machine) (s : St) : Prop :=
  ∃ m w fr frs, Steps P mach (lone fr (frs ++ cs0) w) ∧ MRel B m s.M w ∧ FRel m s.f fr ∧ All2 (FRel m) s.cs frs ∧ botF s.f.fn s.cs = bt ∧ Below B w0 w
def Way (P : Program) (s s' : St) : Prop := ∀ B cs0 bt w0 mach, Reach P B cs0 bt w0 mach s → Reach P B cs0 bt w0 mach s'
theorem Way.refl (s : St) : Way P s s := fun _ _ _ _ _ h => h
theorem Way.trans {a b c : St} (h : Way P a b) (h' : Way P b c) : Way P a c := fun B cs0 bt w0 mach r => h' B cs0 bt w0 mach (h B cs0 bt w0 mach r)
theorem MRel.kept {B : Nat} {m : Map} {M : Mem} {w w' : World} (hr : MRel B m M w) (h : Below w.heap.size w w') : MRel B m M w' := by
  refine ⟨fun b o p hb hp => ?_, hr.inj, hr.fresh, fun b p hp => ?_, hr.low, Nat.le_trans hr.base h.size, hr.glob, hr.flo⟩
  · rw [h.block _ (hr.bound b p hp)]
    exact hr.objs b o p hb hp
  · have := hr.bound b p hp
    have := h.size
    omega
end Go.Ev
namespace Go.Ev
open Go.RowKit
noncomputable def childC (c : Code) (i : Nat) : Code := match c with
  | .seq a b => match i with | 0 => a | _ => b
  | .cond _ a b => match i with | 0 => a | _ => b
  | .block _ a => a
  | .loop a => a
  | .scope a => a
  | .rangeFunc _ _ a b => match i with | 0 => a | _ => b
  | c => c
noncomputable def pathC (c : Code) (p : List Nat) : Code := List.rec (fun c => c) (fun i _ ih c => ih (childC c i)) p c
noncomputable def bodyC (P : Program) (f : Nat) : Code := match P.funcs[f]? with
  | some F => match F.body with
    | some c => c
    | none => .skip
  | none => .skip
noncomputable def atC (P : Program) (f : Nat) (p : List Nat) : Code := pathC (bodyC P f) p
noncomputable def opsC (c : Code) : Array Oper := match c with
  | .region _ ops _ => ops
  | _ => #[]
noncomputable def dropC (l : List Oper) (i : Nat) : List Oper := Nat.rec (fun l => l) (fun _ ih l => List.rec [] (fun _ r _ => ih r) l) i l
noncomputable def itemC (P : Program) (f : Nat) (p : List Nat) (i : Nat) : SItem := .ops (opsC (atC P f p)) (dropC (opsC (atC P f p)).toList i)
noncomputable def codeC (P : Program) (f : Nat) (p : List Nat) : SItem := .code (atC P f p)
noncomputable def loopC (P : Program) (f : Nat) (p : List Nat) : SItem := .inLoop (atC P f p)
end Go.Ev
namespace Go.Ev
open Go.RowKit
variable {P : Program} {I : Known}
end Go.Ev
namespace Go.Ev
open Go.RowKit
variable {P : Program} {I D : Known}
noncomputable def fixT (l : List (Nat × List SV)) : Tree SObj := List.rec .leaf (fun x _ ih => Tree.put (some (.fix x.2)) (Pos.ofNat x.1) ih) l
noncomputable def memFix (n : Nat) (l : List (Nat × List SV)) : Mem := ⟨fixT l, Pos.ofNat n, 0⟩
def FixOK (w : World) (l : List (Nat × List SV)) : Prop := ∀ x ∈ l, ∃ e vs, w.heap[x.1]? = some (.cells vs.toArray e (0, 0)) ∧ concs (fun _ => none) x.2 = some vs
theorem fixT_get : ∀ (l : List (Nat × List SV)) (b : Pos) (o : SObj), (fixT l).get b = some o → ∃ x ∈ l, b = Pos.ofNat x.1 ∧ o = .fix x.2
  | [], b, o, h => by rw [show fixT [] = .leaf from rfl, Tree.get_leaf] at h; simp at h
  | x :: l, b, o, h => by
    rw [show fixT (x :: l) = Tree.put (some (.fix x.2)) (Pos.ofNat x.1) (fixT l) from rfl] at h
    by_cases hb : Pos.ofNat x.1 = b
    · subst hb
      rw [Tree.get_put_same] at h
      simp only [Option.some.injEq] at h
      exact ⟨x, by simp, rfl, h.symm⟩
    · rw [Tree.get_put_other _ _ hb] at h
      obtain ⟨y, hy, h1, h2⟩ := fixT_get l b o h
      exact ⟨y, by simp [hy], h1, h2⟩
noncomputable def startM (P : Program) (f : FuncId) (M : Mem) : St := ⟨(enterS P f []).getD (.mk ⟨f, [], none⟩ 0 .leaf []), [], M⟩
end Go.Ev
