/- A part of the small machine. -/
import Derived.Test.YtbpnoedmnkalpaaGreatDoorEvW3
set_option linter.unusedVariables false
/- Closed calls: the small machine's start and end. -/
namespace Go.Ev
open Go.RowKit
variable {P : Program} {I : Known}

/-- Nothing is in memory but the variables that are only read; the first free name is the one behind the program's variables. -/
noncomputable def memOf (n : Nat) : Mem := ⟨.leaf, Pos.ofNat n, 0⟩

theorem memOf_rel (n : Nat) (w : World) : MRel w.heap.size (fun _ => none) (memOf n) w := by
  refine ⟨?_, ?_, ?_, ?_, ?_, Nat.le_refl _, ?_, Nat.zero_le _⟩
  · intro b o p h _; rw [show (memOf n).t.get b = none from Tree.get_leaf b] at h; simp at h
  · intro b b' o o' p p' h _ _ _ _ _; rw [show (memOf n).t.get b = none from Tree.get_leaf b] at h; simp at h
  · intro b _; exact ⟨rfl, Tree.get_leaf b⟩
  · intro b p h; simp at h
  · intro b o p h _ _; rw [show (memOf n).t.get b = none from Tree.get_leaf b] at h; simp at h
  · intro b c h; rw [show (memOf n).t.get b = none from Tree.get_leaf b] at h; simp at h

/-- The end is 'true'. -/
noncomputable def endsTrue (r : Res) : Bool :=
  match r with
  | .done (.bool true) _ => true
  | _ => false

theorem endsTrue_eq {r : Res} (h : endsTrue r = true) : ∃ M, r = .done (.bool true) M := by
  unfold endsTrue at h
  split at h
  · exact ⟨_, rfl⟩
  · simp at h

noncomputable def startS (I D : Known) (P : Program) (k : Nat) (f : FuncId) (as : List SV) (M : Mem) : Res :=
  match enterS P f as with
  | some g => runS I D P k g [] M
  | none => .bad

/-- Calls in regions that draw: run as a whole, one level below. -/
noncomputable def levelS (I : Known) (P : Program) (k : Nat) (d : Nat) : Known :=
  Nat.rec I (fun _ D f as M => match I f as M with
    | some r => some r
    | none => match startS I D P k f as M with
      | .done v M => some (v, M)
      | _ => none) d

theorem levelS_succ (I : Known) (k d : Nat) (f : FuncId) (as : List SV) (M : Mem) : levelS I P k (d + 1) f as M = match I f as M with
    | some r => some r
    | none => match startS I (levelS I P k d) P k f as M with
      | .done v M => some (v, M)
      | _ => none := rfl

theorem levelS_sound {B : Nat} {I : Known} (hI : Sound P B I) (hmix : P.follows .mixedOrders = true) (k : Nat) : ∀ d, Sound P B (levelS I P k d)
  | 0 => hI
  | d + 1 => by
    intro f as M s M' h
    rw [levelS_succ] at h
    split at h
    · rename_i r hr
      simp only [Option.some.injEq] at h
      subst h
      exact hI f as M s M' hr
    · split at h
      · rename_i v M1 hs
        simp only [Option.some.injEq, Prod.mk.injEq] at h
        obtain ⟨rfl, rfl⟩ := h
        intro m w vs hr has c cs
        unfold startS at hs
        split at hs
        · rename_i g hg
          have hb : botF g.fn [] = f := by
            unfold enterS at hg
            split at hg
            · simp at hg
            · split at hg
              · simp only [Option.some.injEq] at hg; subst hg; rfl
              · simp at hg
          have := run_goes hI (levelS_sound hI hmix k d) hmix (cs0 := c :: cs) k hr (enter_rel hg has) (All2.nil (R := FRel m)) hb
          rw [hs] at this
          obtain ⟨fr, w', m', x, h1, h2, h3, h4, _⟩ := this
          exact ⟨m', w', x, h2, h3, h1.trans (.one (step_leave_returned h4))⟩
        · simp at hs
      · simp at h

/-- A CLOSED CALL THAT ANSWERS TRUE. -/
theorem call_true (hmix : P.follows .mixedOrders = true) (n k d : Nat) {f : FuncId} (h : endsTrue (startS (fun _ _ _ => none) (levelS (fun _ _ _ => none) P k d) P k f [] (memOf n)) = true) (w : World) :
    Calls P f #[] w fun e w' => e = .returned (.bool true) ∧ Below w.heap.size w w' := by
  unfold startS at h
  split at h
  · rename_i g hg
    obtain ⟨M', hM⟩ := endsTrue_eq h
    have := call_runs (P := P) (B := w.heap.size) (sound_none P _) (levelS_sound (sound_none P _) hmix k d) hmix k (memOf_rel n w) (as := []) (vs := #[]) (concs_nil _) hg hM
    refine this.mono ?_
    rintro e w' ⟨m', x, rfl, hx, hs⟩
    have : x = .bool true := by simp [conc] at hx; exact hx.symm
    subst this
    exact ⟨rfl, hs.below⟩
  · simp [endsTrue] at h

noncomputable def noneKnown : Known := fun _ _ _ => none

/-- Where a run has come to, for a look. -/
inductive Look where
  | bad | go | done (v : SV)
def lookOf : Res → Look
  | .bad => .bad
  | .go _ _ _ => .go
  | .done v _ => .done v

end Go.Ev

/- A closed run in pieces: states that are written down, and the way from one to the next. -/
namespace Go.Ev
open Go.RowKit
variable {P : Program} {I D : Known}

/-- Where a run is. -/
structure St where
  f : SFrame
  cs : List SFrame
  M : Mem

/-- Only what lies under k's names. -/
noncomputable def cutT {α β : Type} (k : Tree α) : Tree β → Tree β :=
  Tree.rec (fun _ => .leaf) (fun _ v _ ihl ihr t => Tree.rec .leaf (fun l' v' r' _ _ => .node (ihl l') (Option.rec none (fun _ => v') v) (ihr r')) t) k

theorem cutT_get {α β : Type} : ∀ (k : Tree α) (t : Tree β) (b : Pos) (o : β), Tree.get b (cutT k t) = some o → Tree.get b t = some o
  | .leaf, t, b, o, h => by
    rw [show cutT (.leaf : Tree α) t = .leaf from rfl, Tree.get_leaf] at h
    simp at h
  | .node l v r, .leaf, b, o, h => by
    rw [show cutT (.node l v r : Tree α) (.leaf : Tree β) = .leaf from rfl, Tree.get_leaf] at h
    simp at h
  | .node l v r, .node l' v' r', b, o, h => by
    have e : cutT (.node l v r : Tree α) (.node l' v' r' : Tree β) = .node (cutT l l') (Option.rec none (fun _ => v') v) (cutT r r') := rfl
    rw [e] at h
    cases b with
    | one =>
      rw [Tree.get_one] at h
      rw [Tree.get_one]
      cases v with
      | none => exact absurd h (by simp)
      | some x => exact h
    | b0 b =>
      rw [Tree.get_b0] at h
      rw [Tree.get_b0]
      exact cutT_get l l' b o h
    | b1 b =>
      rw [Tree.get_b1] at h
      rw [Tree.get_b1]
      exact cutT_get r r' b o h

noncomputable def cutM (k : Mem) (M : Mem) : Mem := Mem.rec (fun t n f => Mem.rec (fun kt _ _ => ⟨cutT kt t, n, f⟩) k) M
noncomputable def cutF (k : SFrame) (f : SFrame) : SFrame := SFrame.rec (fun cx n σ todo => SFrame.rec (fun _ _ kσ _ => .mk cx n (cutT kσ σ) todo) k) f
noncomputable def cutFs (k : List SFrame) : List SFrame → List SFrame :=
  List.rec (fun fs => fs) (fun x _ ih fs => List.rec [] (fun f r _ => cutF x f :: ih r) fs) k

theorem cutM_rel {B : Nat} {m : Map} {M : Mem} {w : World} (k : Mem) (hr : MRel B m M w) : MRel B m (cutM k M) w := by
  cases k with
  | mk kt kn kf =>
  cases M with
  | mk t n f =>
  have g : ∀ b o, Tree.get b (cutT kt t) = some o → Tree.get b t = some o := cutT_get kt t
  refine ⟨fun b o p h hp => hr.objs b o p (g b o h) hp, fun b b' o o' p p' h h' how hp hp' => hr.inj b b' o o' p p' (g b o h) (g b' o' h') how hp hp', fun b hb => ⟨(hr.fresh b hb).1, ?_⟩, hr.bound, fun b o p h => hr.low b o p (g b o h), hr.base, fun b c h => hr.glob b c (g b _ h), hr.flo⟩
  show Tree.get b (cutT kt t) = none
  cases h : Tree.get b (cutT kt t) with
  | none => rfl
  | some o =>
    have := g b o h
    have h2 : Tree.get b t = none := (hr.fresh b hb).2
    rw [h2] at this
    simp at this

theorem cutF_rel {m : Map} (k : SFrame) {f : SFrame} {fr : Frame} (h : FRel m f fr) : FRel m (cutF k f) fr ∧ (cutF k f).fn = f.fn := by
  cases k with
  | mk kc kn kσ kt =>
  cases f with
  | mk cx n σ todo =>
  obtain ⟨c, tm, td, rfl, hc, ht, hn, hk⟩ := h
  exact ⟨⟨c, tm, td, rfl, hc, fun t s hs => ht t s (cutT_get _ _ _ _ hs), hn, hk⟩, rfl⟩

theorem cutFs_rel {m : Map} : ∀ (k : List SFrame) {cs : List SFrame} {frs : List Frame}, All2 (FRel m) cs frs → cs.length = k.length → All2 (FRel m) (cutFs k cs) frs ∧ ∀ f, botF f (cutFs k cs) = botF f cs
  | [], cs, _, h, hl => by
    cases cs with
    | nil => exact ⟨h, fun _ => rfl⟩
    | cons c cs => simp at hl
  | x :: k, _, _, .nil, hl => by simp at hl
  | x :: k, _, _, .cons (a := c) (l := cs) hx hc, hl => by
    have ih := cutFs_rel k hc (by simpa using hl)
    have h1 := cutF_rel x hx
    refine ⟨.cons h1.1 ih.1, fun f => ?_⟩
    show botF (cutF x c).fn (cutFs k cs) = botF c.fn cs
    rw [h1.2, ih.2]

/-- 2^k steps lead from s to s', what s' doesn't name left out. -/
noncomputable def nextS (I D : Known) (P : Program) (k : Nat) (s' s : St) : Option St :=
  match runS I D P k s.f s.cs s.M with
  | .go f cs M => match Nat.beq cs.length s'.cs.length with
    | true => some ⟨cutF s'.f f, cutFs s'.cs cs, cutM s'.M M⟩
    | false => none
  | _ => none

/-- The model comes, from mach, to what stands for s. -/
def Reach (P : Program) (B : Nat) (cs0 : List Frame) (bt : FuncId) (w0 : World) (mach : Machine) (s : St) : Prop :=
  ∃ m w fr frs, Steps P mach (lone fr (frs ++ cs0) w) ∧ MRel B m s.M w ∧ FRel m s.f fr ∧ All2 (FRel m) s.cs frs ∧ botF s.f.fn s.cs = bt ∧ Below B w0 w

/-- The model comes from what stands for s to what stands for s'. -/
def Way (P : Program) (s s' : St) : Prop := ∀ B cs0 bt w0 mach, Reach P B cs0 bt w0 mach s → Reach P B cs0 bt w0 mach s'

theorem Way.refl (s : St) : Way P s s := fun _ _ _ _ _ h => h
theorem Way.trans {a b c : St} (h : Way P a b) (h' : Way P b c) : Way P a c := fun B cs0 bt w0 mach r => h' B cs0 bt w0 mach (h B cs0 bt w0 mach r)

theorem way_next (hI : ∀ B, Sound P B I) (hD : ∀ B, Sound P B D) (hmix : P.follows .mixedOrders = true) (k : Nat) {s s' : St} (h : nextS I D P k s' s = some s') : Way P s s' := by
  intro B cs0 bt w0 mach hr
  obtain ⟨m, w, fr, frs, hs, hm, hf, hc, hb, hw⟩ := hr
  have hg := run_goes (hI B) (hD B) hmix (cs0 := cs0) (bt := bt) k hm hf hc hb
  unfold nextS at h
  split at h
  · rename_i f cs M hrun
    rw [hrun] at hg
    obtain ⟨fr', frs', w', m', hs', hst, hf', hc', hb'⟩ := hg
    split at h
    · rename_i hl
      have hl' : cs.length = s'.cs.length := Nat.eq_of_beq_eq_true hl
      have h1 := cutF_rel s'.f hf'
      have h2 := cutFs_rel s'.cs hc' hl'
      have h3 := cutM_rel s'.M hst.rel
      have h' := Option.some.inj h
      refine ⟨m', w', fr', frs', hs.trans hs', ?_, ?_, ?_, ?_, hw.trans hst.below⟩
      · rw [← h']; exact h3
      · rw [← h']; exact h1.1
      · rw [← h']; exact h2.1
      · rw [← h']
        show botF (cutF s'.f f).fn (cutFs s'.cs cs) = bt
        rw [h2.2, h1.2]
        exact hb'
    · simp at h
  · simp at h

/-- Where a call without arguments begins. -/
noncomputable def startSt (P : Program) (f : FuncId) (n : Nat) : St := ⟨(enterS P f []).getD (.mk ⟨f, [], none⟩ 0 .leaf []), [], memOf n⟩

theorem call_way (hI : ∀ B, Sound P B I) (hD : ∀ B, Sound P B D) (hmix : P.follows .mixedOrders = true) (n k : Nat) {f : FuncId} {s : St} (hg : (enterS P f []).isSome = true) (h : Way P (startSt P f n) s) (he : endsTrue (runS I D P k s.f s.cs s.M) = true) (w : World) :
    Calls P f #[] w fun e w' => e = .returned (.bool true) ∧ Below w.heap.size w w' := by
  intro cs0
  cases hgg : enterS P f [] with
  | none => rw [hgg] at hg; simp at hg
  | some g =>
    have hst : startSt P f n = ⟨g, [], memOf n⟩ := by unfold startSt; rw [hgg]; rfl
    have hfr := enter_rel (m := fun _ => none) (vs := #[]) hgg (concs_nil _)
    have r0 : Reach P w.heap.size cs0 f w (lone (Frame.enter P f #[] .normal) cs0 w) (startSt P f n) := by
      rw [hst]
      refine ⟨fun _ => none, w, _, [], .refl _ _, memOf_rel n w, hfr, .nil, ?_, Below.refl _ _⟩
      exact enterS_fn hgg
    obtain ⟨m, w1, fr, frs, hs, hm, hf, hc, hb, hw⟩ := h _ _ _ _ _ r0
    have hrun := run_goes (hI _) (hD _) hmix (cs0 := cs0) (bt := f) k hm hf hc hb
    obtain ⟨M', hM⟩ := endsTrue_eq he
    rw [hM] at hrun
    obtain ⟨fr', w', m', x, hs', hst', hv, hl, hfn⟩ := hrun
    have hx : x = .bool true := by simp [conc] at hv; exact hv.symm
    subst hx
    exact ⟨.returned (.bool true), w', fr', ⟨rfl, hw.trans hst'.below⟩, hs.trans hs', hfn, hl⟩

/-- A call without arguments that answers true, and that is known to. -/
noncomputable def knownS (f0 : FuncId) : Known := fun f as M => match Nat.beq f f0 with
  | true => match as with
    | [] => some (.bool true, M)
    | _ => none
  | false => none

theorem MRel.kept {B : Nat} {m : Map} {M : Mem} {w w' : World} (hr : MRel B m M w) (h : Below w.heap.size w w') : MRel B m M w' := by
  refine ⟨fun b o p hb hp => ?_, hr.inj, hr.fresh, fun b p hp => ?_, hr.low, Nat.le_trans hr.base h.size, hr.glob, hr.flo⟩
  · rw [h.block _ (hr.bound b p hp)]
    exact hr.objs b o p hb hp
  · have := hr.bound b p hp
    have := h.size
    omega

theorem sound_known {f0 : FuncId} (hc : ∀ w, Calls P f0 #[] w fun e w' => e = .returned (.bool true) ∧ Below w.heap.size w w') (B : Nat) : Sound P B (knownS f0) := by
  intro f as M s M' h
  unfold knownS at h
  split at h
  · rename_i hf
    have hf' : f = f0 := Nat.eq_of_beq_eq_true hf
    subst hf'
    split at h
    · simp only [Option.some.injEq, Prod.mk.injEq] at h
      obtain ⟨rfl, rfl⟩ := h
      intro m w vs hr has c cs
      have hvs : vs = #[] := by
        have := concs_nil m
        rw [this] at has
        have := Option.some.inj has
        exact (Array.toList_eq_nil_iff.1 this.symm)
      subst hvs
      obtain ⟨e, w', fr, ⟨rfl, hb⟩, hcome, hfn, hl⟩ := hc w (c :: cs)
      refine ⟨m, w', .bool true, ⟨hr.kept hb, fun _ _ => rfl, fun _ _ _ => rfl, Nat.le_refl _, hb.mono hr.base, fun k hk _ => hb.block k hk, fun _ _ h => h, fun _ _ => rfl, rfl, fun _ _ h => h, fun b p hb hp _ => absurd hp (by rw [(hr.fresh b hb).1]; simp)⟩, rfl, ?_⟩
      exact Steps.trans hcome (.one (step_leave_returned hl))
    · simp at h
  · simp at h

end Go.Ev

/- Where a piece of code lies in a program. -/
namespace Go.Ev
open Go.RowKit

noncomputable def childC (c : Code) (i : Nat) : Code := match c with
  | .seq a b => match i with | 0 => a | _ => b
  | .cond _ a b => match i with | 0 => a | _ => b
  | .block _ a => a
  | .loop a => a
  | .scope a => a
  | .rangeFunc _ _ a b => match i with | 0 => a | _ => b
  | c => c
noncomputable def pathC (c : Code) (p : List Nat) : Code := List.rec (fun c => c) (fun i _ ih c => ih (childC c i)) p c
noncomputable def bodyC (P : Program) (f : Nat) : Code := match P.funcs[f]? with
  | some F => match F.body with
    | some c => c
    | none => .skip
  | none => .skip
noncomputable def atC (P : Program) (f : Nat) (p : List Nat) : Code := pathC (bodyC P f) p
noncomputable def opsC (c : Code) : Array Oper := match c with
  | .region _ ops _ => ops
  | _ => #[]
noncomputable def dropC (l : List Oper) (i : Nat) : List Oper := Nat.rec (fun l => l) (fun _ ih l => List.rec [] (fun _ r _ => ih r) l) i l
/-- The operations of a region, and those from i on. -/
noncomputable def itemC (P : Program) (f : Nat) (p : List Nat) (i : Nat) : SItem := .ops (opsC (atC P f p)) (dropC (opsC (atC P f p)).toList i)
noncomputable def codeC (P : Program) (f : Nat) (p : List Nat) : SItem := .code (atC P f p)
noncomputable def loopC (P : Program) (f : Nat) (p : List Nat) : SItem := .inLoop (atC P f p)
noncomputable def scopeC (P : Program) (f : Nat) (p : List Nat) : SItem := .inScope (atC P f p)

end Go.Ev

/- Closed calls, where some calls are known. -/
namespace Go.Ev
open Go.RowKit
variable {P : Program} {I : Known}

/-- A CLOSED CALL THAT ANSWERS TRUE, where the calls of I are known. -/
theorem call_true_from (hI : ∀ B, Sound P B I) (hmix : P.follows .mixedOrders = true) (n k d : Nat) {f : FuncId} (h : endsTrue (startS I (levelS I P k d) P k f [] (memOf n)) = true) (w : World) :
    Calls P f #[] w fun e w' => e = .returned (.bool true) ∧ Below w.heap.size w w' := by
  unfold startS at h
  split at h
  · rename_i g hg
    obtain ⟨M', hM⟩ := endsTrue_eq h
    have := call_runs (P := P) (B := w.heap.size) (hI _) (levelS_sound (hI _) hmix k d) hmix k (memOf_rel n w) (as := []) (vs := #[]) (concs_nil _) hg hM
    refine this.mono ?_
    rintro e w' ⟨m', x, rfl, hx, hs⟩
    have : x = .bool true := by simp [conc] at hx; exact hx.symm
    subst this
    exact ⟨rfl, hs.below⟩
  · simp [endsTrue] at h

end Go.Ev

/- Closed calls where some package variables are known: they are rows that are only read. -/
namespace Go.Ev
open Go.RowKit
variable {P : Program} {I D : Known}

/-- The rows of the package variables of which it is known what they hold. -/
noncomputable def fixT (l : List (Nat × List SV)) : Tree SObj := List.rec .leaf (fun x _ ih => Tree.put (some (.fix x.2)) (Pos.ofNat x.1) ih) l
noncomputable def memFix (n : Nat) (l : List (Nat × List SV)) : Mem := ⟨fixT l, Pos.ofNat n, 0⟩

/-- What is asked of the world: the variables hold this. -/
def FixOK (w : World) (l : List (Nat × List SV)) : Prop := ∀ x ∈ l, ∃ e vs, w.heap[x.1]? = some (.cells vs.toArray e (0, 0)) ∧ concs (fun _ => none) x.2 = some vs

theorem fixT_get : ∀ (l : List (Nat × List SV)) (b : Pos) (o : SObj), (fixT l).get b = some o → ∃ x ∈ l, b = Pos.ofNat x.1 ∧ o = .fix x.2
  | [], b, o, h => by rw [show fixT [] = .leaf from rfl, Tree.get_leaf] at h; simp at h
  | x :: l, b, o, h => by
    rw [show fixT (x :: l) = Tree.put (some (.fix x.2)) (Pos.ofNat x.1) (fixT l) from rfl] at h
    by_cases hb : Pos.ofNat x.1 = b
    · subst hb
      rw [Tree.get_put_same] at h
      simp only [Option.some.injEq] at h
      exact ⟨x, by simp, rfl, h.symm⟩
    · rw [Tree.get_put_other _ _ hb] at h
      obtain ⟨y, hy, h1, h2⟩ := fixT_get l b o h
      exact ⟨y, by simp [hy], h1, h2⟩

noncomputable def mapFix (l : List (Nat × List SV)) : Map := fun b => match (fixT l).get b with
  | some (.fix c) => some ⟨b.num - 1, 0, c.length⟩
  | _ => none

theorem memFix_rel (n : Nat) (l : List (Nat × List SV)) (hn : (l.all fun x => Nat.blt x.1 n) = true) {w : World} (h : FixOK w l) : MRel w.heap.size (mapFix l) (memFix n l) w := by
  have hn' : ∀ x ∈ l, x.1 < n := by
    intro x hx
    have := List.all_eq_true.1 hn x hx
    exact Nat.le_of_ble_eq_true this
  have hm : ∀ b p, mapFix l b = some p → ∃ x ∈ l, b = Pos.ofNat x.1 ∧ (fixT l).get b = some (.fix x.2) ∧ p = ⟨x.1, 0, x.2.length⟩ := by
    intro b p hp
    unfold mapFix at hp
    split at hp
    · rename_i c hc
      obtain ⟨x, hx, h1, h2⟩ := fixT_get l b _ hc
      simp only [SObj.fix.injEq] at h2
      subst h2
      simp only [Option.some.injEq] at hp
      refine ⟨x, hx, h1, hc, ?_⟩
      rw [← hp, h1, Pos.num_ofNat]
      simp
    · simp at hp
  refine ⟨?_, ?_, ?_, ?_, ?_, Nat.le_refl _, ?_, Nat.zero_le _⟩
  · intro b o p ho hp
    obtain ⟨x, hx, rfl, hg, rfl⟩ := hm b p hp
    have ho' : (fixT l).get (Pos.ofNat x.1) = some o := ho
    rw [hg] at ho'
    simp only [Option.some.injEq] at ho'
    subst ho'
    obtain ⟨e, vs, hh, hc⟩ := h x hx
    have hl := concs_length hc
    exact ⟨e, (0, 0), [], vs, [], by simp [hh], trivial, rfl, by simp [hl], concs_ext (fun _ _ hb => by simp at hb) _ _ hc, fun t ht => by simp at ht⟩
  · intro b b' o o' p p' _ _ _ hp hp' he
    obtain ⟨x, hx, rfl, _, rfl⟩ := hm b p hp
    obtain ⟨x', hx', rfl, _, rfl⟩ := hm b' p' hp'
    simp only at he
    rw [he]
  · intro b hb
    have hnone : (fixT l).get b = none := by
      cases hg : (fixT l).get b with
      | none => rfl
      | some o =>
        obtain ⟨x, hx, rfl, _⟩ := fixT_get l b o hg
        have h1 : (Pos.ofNat n).num ≤ (Pos.ofNat x.1).num := hb
        rw [Pos.num_ofNat, Pos.num_ofNat] at h1
        have := hn' x hx
        omega
    refine ⟨?_, hnone⟩
    unfold mapFix
    rw [hnone]
  · intro b p hp
    obtain ⟨x, hx, rfl, _, rfl⟩ := hm b p hp
    obtain ⟨e, vs, hh, _⟩ := h x hx
    exact (Array.getElem?_eq_some_iff.1 hh).1
  · intro b o p ho hown hp
    obtain ⟨x, hx, rfl, rfl⟩ := fixT_get l b o ho
    simp [SObj.own] at hown
  · intro b c hc
    have hc' : (fixT l).get b = some (.fix c) := hc
    refine ⟨c.length, ?_⟩
    unfold mapFix
    rw [hc']

/-- Where a call without arguments begins. -/
noncomputable def startM (P : Program) (f : FuncId) (M : Mem) : St := ⟨(enterS P f []).getD (.mk ⟨f, [], none⟩ 0 .leaf []), [], M⟩

theorem call_way_mem (hI : ∀ B, Sound P B I) (hD : ∀ B, Sound P B D) (hmix : P.follows .mixedOrders = true) (k : Nat) {f : FuncId} {s : St} {M : Mem} (hg : (enterS P f []).isSome = true) (h : Way P (startM P f M) s) (he : endsTrue (runS I D P k s.f s.cs s.M) = true) {w : World} {m : Map} (hr : MRel w.heap.size m M w) :
    Calls P f #[] w fun e w' => e = .returned (.bool true) ∧ Below w.heap.size w w' := by
  intro cs0
  cases hgg : enterS P f [] with
  | none => rw [hgg] at hg; simp at hg
  | some g =>
    have hst : startM P f M = ⟨g, [], M⟩ := by unfold startM; rw [hgg]; rfl
    have hfr := enter_rel (m := m) (vs := #[]) hgg (concs_nil _)
    have r0 : Reach P w.heap.size cs0 f w (lone (Frame.enter P f #[] .normal) cs0 w) (startM P f M) := by
      rw [hst]
      exact ⟨m, w, _, [], .refl _ _, hr, hfr, .nil, enterS_fn hgg, Below.refl _ _⟩
    obtain ⟨m, w1, fr, frs, hs, hm, hf, hc, hb, hw⟩ := h _ _ _ _ _ r0
    have hrun := run_goes (hI _) (hD _) hmix (cs0 := cs0) (bt := f) k hm hf hc hb
    obtain ⟨M', hM⟩ := endsTrue_eq he
    rw [hM] at hrun
    obtain ⟨fr', w', m', x, hs', hst', hv, hl, hfn⟩ := hrun
    have hx : x = .bool true := by simp [conc] at hv; exact hv.symm
    subst hx
    exact ⟨.returned (.bool true), w', fr', ⟨rfl, hw.trans hst'.below⟩, hs.trans hs', hfn, hl⟩

end Go.Ev

