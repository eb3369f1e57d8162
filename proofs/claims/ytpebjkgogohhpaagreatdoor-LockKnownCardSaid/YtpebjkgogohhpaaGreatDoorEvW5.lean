/- A closed run in pieces: states that are written down, and the way from one to the next. -/
import Derived.Test.YtpebjkgogohhpaaGreatDoorEvW4
namespace Go.Ev
open Go.RowKit
variable {P : Program} {I D : Known}

/-- Where a run is. -/
structure St where
  f : SFrame
  cs : List SFrame
  M : Mem

/-- Only what lies under k's names. -/
noncomputable def cutT {α β : Type} (k : Tree α) : Tree β → Tree β :=
  Tree.rec (fun _ => .leaf) (fun _ v _ ihl ihr t => Tree.rec .leaf (fun l' v' r' _ _ => .node (ihl l') (Option.rec none (fun _ => v') v) (ihr r')) t) k

theorem cutT_get {α β : Type} : ∀ (k : Tree α) (t : Tree β) (b : Pos) (o : β), Tree.get b (cutT k t) = some o → Tree.get b t = some o
  | .leaf, t, b, o, h => by
    rw [show cutT (.leaf : Tree α) t = .leaf from rfl, Tree.get_leaf] at h
    simp at h
  | .node l v r, .leaf, b, o, h => by
    rw [show cutT (.node l v r : Tree α) (.leaf : Tree β) = .leaf from rfl, Tree.get_leaf] at h
    simp at h
  | .node l v r, .node l' v' r', b, o, h => by
    have e : cutT (.node l v r : Tree α) (.node l' v' r' : Tree β) = .node (cutT l l') (Option.rec none (fun _ => v') v) (cutT r r') := rfl
    rw [e] at h
    cases b with
    | one =>
      rw [Tree.get_one] at h
      rw [Tree.get_one]
      cases v with
      | none => exact absurd h (by simp)
      | some x => exact h
    | b0 b =>
      rw [Tree.get_b0] at h
      rw [Tree.get_b0]
      exact cutT_get l l' b o h
    | b1 b =>
      rw [Tree.get_b1] at h
      rw [Tree.get_b1]
      exact cutT_get r r' b o h

noncomputable def cutM (k : Mem) (M : Mem) : Mem := Mem.rec (fun t n f => Mem.rec (fun kt _ _ => ⟨cutT kt t, n, f⟩) k) M
noncomputable def cutF (k : SFrame) (f : SFrame) : SFrame := SFrame.rec (fun cx n σ todo => SFrame.rec (fun _ _ kσ _ => .mk cx n (cutT kσ σ) todo) k) f
noncomputable def cutFs (k : List SFrame) : List SFrame → List SFrame :=
  List.rec (fun fs => fs) (fun x _ ih fs => List.rec [] (fun f r _ => cutF x f :: ih r) fs) k

theorem cutM_rel {B : Nat} {m : Map} {M : Mem} {w : World} (k : Mem) (hr : MRel B m M w) : MRel B m (cutM k M) w := by
  cases k with
  | mk kt kn kf =>
  cases M with
  | mk t n f =>
  have g : ∀ b o, Tree.get b (cutT kt t) = some o → Tree.get b t = some o := cutT_get kt t
  refine ⟨fun b o p h hp => hr.objs b o p (g b o h) hp, fun b b' o o' p p' h h' hp hp' => hr.inj b b' o o' p p' (g b o h) (g b' o' h') hp hp', fun b hb => ⟨(hr.fresh b hb).1, ?_⟩, hr.bound, fun b o p h => hr.low b o p (g b o h), hr.base, fun b c h => hr.glob b c (g b _ h), hr.flo⟩
  show Tree.get b (cutT kt t) = none
  cases h : Tree.get b (cutT kt t) with
  | none => rfl
  | some o =>
    have := g b o h
    have h2 : Tree.get b t = none := (hr.fresh b hb).2
    rw [h2] at this
    simp at this

theorem cutF_rel {m : Map} (k : SFrame) {f : SFrame} {fr : Frame} (h : FRel m f fr) : FRel m (cutF k f) fr ∧ (cutF k f).fn = f.fn := by
  cases k with
  | mk kc kn kσ kt =>
  cases f with
  | mk cx n σ todo =>
  obtain ⟨c, tm, td, rfl, hc, ht, hn, hk⟩ := h
  exact ⟨⟨c, tm, td, rfl, hc, fun t s hs => ht t s (cutT_get _ _ _ _ hs), hn, hk⟩, rfl⟩

theorem cutFs_rel {m : Map} : ∀ (k : List SFrame) {cs : List SFrame} {frs : List Frame}, All2 (FRel m) cs frs → cs.length = k.length → All2 (FRel m) (cutFs k cs) frs ∧ ∀ f, botF f (cutFs k cs) = botF f cs
  | [], cs, _, h, hl => by
    cases cs with
    | nil => exact ⟨h, fun _ => rfl⟩
    | cons c cs => simp at hl
  | x :: k, _, _, .nil, hl => by simp at hl
  | x :: k, _, _, .cons (a := c) (l := cs) hx hc, hl => by
    have ih := cutFs_rel k hc (by simpa using hl)
    have h1 := cutF_rel x hx
    refine ⟨.cons h1.1 ih.1, fun f => ?_⟩
    show botF (cutF x c).fn (cutFs k cs) = botF c.fn cs
    rw [h1.2, ih.2]

/-- 2^k steps lead from s to s', what s' doesn't name left out. -/
noncomputable def nextS (I D : Known) (P : Program) (k : Nat) (s' s : St) : Option St :=
  match runS I D P k s.f s.cs s.M with
  | .go f cs M => match Nat.beq cs.length s'.cs.length with
    | true => some ⟨cutF s'.f f, cutFs s'.cs cs, cutM s'.M M⟩
    | false => none
  | _ => none

/-- The model comes, from mach, to what stands for s. -/
def Reach (P : Program) (B : Nat) (cs0 : List Frame) (bt : FuncId) (w0 : World) (mach : Machine) (s : St) : Prop :=
  ∃ m w fr frs, Steps P mach (lone fr (frs ++ cs0) w) ∧ MRel B m s.M w ∧ FRel m s.f fr ∧ All2 (FRel m) s.cs frs ∧ botF s.f.fn s.cs = bt ∧ Below B w0 w

/-- The model comes from what stands for s to what stands for s'. -/
def Way (P : Program) (s s' : St) : Prop := ∀ B cs0 bt w0 mach, Reach P B cs0 bt w0 mach s → Reach P B cs0 bt w0 mach s'

theorem Way.refl (s : St) : Way P s s := fun _ _ _ _ _ h => h
theorem Way.trans {a b c : St} (h : Way P a b) (h' : Way P b c) : Way P a c := fun B cs0 bt w0 mach r => h' B cs0 bt w0 mach (h B cs0 bt w0 mach r)

theorem way_next (hI : ∀ B, Sound P B I) (hD : ∀ B, Sound P B D) (hmix : P.follows .mixedOrders = true) (k : Nat) {s s' : St} (h : nextS I D P k s' s = some s') : Way P s s' := by
  intro B cs0 bt w0 mach hr
  obtain ⟨m, w, fr, frs, hs, hm, hf, hc, hb, hw⟩ := hr
  have hg := run_goes (hI B) (hD B) hmix (cs0 := cs0) (bt := bt) k hm hf hc hb
  unfold nextS at h
  split at h
  · rename_i f cs M hrun
    rw [hrun] at hg
    obtain ⟨fr', frs', w', m', hs', hst, hf', hc', hb'⟩ := hg
    split at h
    · rename_i hl
      have hl' : cs.length = s'.cs.length := Nat.eq_of_beq_eq_true hl
      have h1 := cutF_rel s'.f hf'
      have h2 := cutFs_rel s'.cs hc' hl'
      have h3 := cutM_rel s'.M hst.rel
      have h' := Option.some.inj h
      refine ⟨m', w', fr', frs', hs.trans hs', ?_, ?_, ?_, ?_, hw.trans hst.below⟩
      · rw [← h']; exact h3
      · rw [← h']; exact h1.1
      · rw [← h']; exact h2.1
      · rw [← h']
        show botF (cutF s'.f f).fn (cutFs s'.cs cs) = bt
        rw [h2.2, h1.2]
        exact hb'
    · simp at h
  · simp at h

/-- Where a call without arguments begins. -/
noncomputable def startSt (P : Program) (f : FuncId) (n : Nat) : St := ⟨(enterS P f []).getD (.mk ⟨f, [], none⟩ 0 .leaf []), [], memOf n⟩

theorem call_way (hI : ∀ B, Sound P B I) (hD : ∀ B, Sound P B D) (hmix : P.follows .mixedOrders = true) (n k : Nat) {f : FuncId} {s : St} (hg : (enterS P f []).isSome = true) (h : Way P (startSt P f n) s) (he : endsTrue (runS I D P k s.f s.cs s.M) = true) (w : World) :
    Calls P f #[] w fun e w' => e = .returned (.bool true) ∧ Below w.heap.size w w' := by
  intro cs0
  cases hgg : enterS P f [] with
  | none => rw [hgg] at hg; simp at hg
  | some g =>
    have hst : startSt P f n = ⟨g, [], memOf n⟩ := by unfold startSt; rw [hgg]; rfl
    have hfr := enter_rel (m := fun _ => none) (vs := #[]) hgg (concs_nil _)
    have r0 : Reach P w.heap.size cs0 f w (lone (Frame.enter P f #[] .normal) cs0 w) (startSt P f n) := by
      rw [hst]
      refine ⟨fun _ => none, w, _, [], .refl _ _, memOf_rel n w, hfr, .nil, ?_, Below.refl _ _⟩
      exact enterS_fn hgg
    obtain ⟨m, w1, fr, frs, hs, hm, hf, hc, hb, hw⟩ := h _ _ _ _ _ r0
    have hrun := run_goes (hI _) (hD _) hmix (cs0 := cs0) (bt := f) k hm hf hc hb
    obtain ⟨M', hM⟩ := endsTrue_eq he
    rw [hM] at hrun
    obtain ⟨fr', w', m', x, hs', hst', hv, hl, hfn⟩ := hrun
    have hx : x = .bool true := by simp [conc] at hv; exact hv.symm
    subst hx
    exact ⟨.returned (.bool true), w', fr', ⟨rfl, hw.trans hst'.below⟩, hs.trans hs', hfn, hl⟩

/-- A call without arguments that answers true, and that is known to. -/
noncomputable def knownS (f0 : FuncId) : Known := fun f as M => match Nat.beq f f0 with
  | true => match as with
    | [] => some (.bool true, M)
    | _ => none
  | false => none

theorem MRel.kept {B : Nat} {m : Map} {M : Mem} {w w' : World} (hr : MRel B m M w) (h : Below w.heap.size w w') : MRel B m M w' := by
  refine ⟨fun b o p hb hp => ?_, hr.inj, hr.fresh, fun b p hp => ?_, hr.low, Nat.le_trans hr.base h.size, hr.glob, hr.flo⟩
  · rw [h.block _ (hr.bound b p hp)]
    exact hr.objs b o p hb hp
  · have := hr.bound b p hp
    have := h.size
    omega

theorem sound_known {f0 : FuncId} (hc : ∀ w, Calls P f0 #[] w fun e w' => e = .returned (.bool true) ∧ Below w.heap.size w w') (B : Nat) : Sound P B (knownS f0) := by
  intro f as M s M' h
  unfold knownS at h
  split at h
  · rename_i hf
    have hf' : f = f0 := Nat.eq_of_beq_eq_true hf
    subst hf'
    split at h
    · simp only [Option.some.injEq, Prod.mk.injEq] at h
      obtain ⟨rfl, rfl⟩ := h
      intro m w vs hr has c cs
      have hvs : vs = #[] := by
        have := concs_nil m
        rw [this] at has
        have := Option.some.inj has
        exact (Array.toList_eq_nil_iff.1 this.symm)
      subst hvs
      obtain ⟨e, w', fr, ⟨rfl, hb⟩, hcome, hfn, hl⟩ := hc w (c :: cs)
      refine ⟨m, w', .bool true, ⟨hr.kept hb, fun _ _ => rfl, fun _ _ _ => rfl, Nat.le_refl _, hb.mono hr.base, fun k hk _ => hb.block k hk, fun _ _ h => h, fun _ _ => rfl, rfl, fun _ _ h => h⟩, rfl, ?_⟩
      exact Steps.trans hcome (.one (step_leave_returned hl))
    · simp at h
  · simp at h

end Go.Ev
