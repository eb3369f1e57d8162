/- Closed calls: the small machine's start and end. -/
import Derived.Test.YtpebjkgogohhpaaGreatDoorEvW3
namespace Go.Ev
open Go.RowKit
variable {P : Program} {I : Known}

/-- Nothing is in memory but the variables that are only read; the first free name is the one behind the program's variables. -/
noncomputable def memOf (n : Nat) : Mem := ⟨.leaf, Pos.ofNat n, 0⟩

theorem memOf_rel (n : Nat) (w : World) : MRel w.heap.size (fun _ => none) (memOf n) w := by
  refine ⟨?_, ?_, ?_, ?_, ?_, Nat.le_refl _, ?_, Nat.zero_le _⟩
  · intro b o p h _; rw [show (memOf n).t.get b = none from Tree.get_leaf b] at h; simp at h
  · intro b b' o o' p p' h _ _ _ _; rw [show (memOf n).t.get b = none from Tree.get_leaf b] at h; simp at h
  · intro b _; exact ⟨rfl, Tree.get_leaf b⟩
  · intro b p h; simp at h
  · intro b o p h _ _; rw [show (memOf n).t.get b = none from Tree.get_leaf b] at h; simp at h
  · intro b c h; rw [show (memOf n).t.get b = none from Tree.get_leaf b] at h; simp at h

/-- The end is 'true'. -/
noncomputable def endsTrue (r : Res) : Bool :=
  match r with
  | .done (.bool true) _ => true
  | _ => false

theorem endsTrue_eq {r : Res} (h : endsTrue r = true) : ∃ M, r = .done (.bool true) M := by
  unfold endsTrue at h
  split at h
  · exact ⟨_, rfl⟩
  · simp at h

noncomputable def startS (I D : Known) (P : Program) (k : Nat) (f : FuncId) (as : List SV) (M : Mem) : Res :=
  match enterS P f as with
  | some g => runS I D P k g [] M
  | none => .bad

/-- Calls in regions that draw: run as a whole, one level below. -/
noncomputable def levelS (I : Known) (P : Program) (k : Nat) (d : Nat) : Known :=
  Nat.rec I (fun _ D f as M => match I f as M with
    | some r => some r
    | none => match startS I D P k f as M with
      | .done v M => some (v, M)
      | _ => none) d

theorem levelS_succ (I : Known) (k d : Nat) (f : FuncId) (as : List SV) (M : Mem) : levelS I P k (d + 1) f as M = match I f as M with
    | some r => some r
    | none => match startS I (levelS I P k d) P k f as M with
      | .done v M => some (v, M)
      | _ => none := rfl

theorem levelS_sound {B : Nat} {I : Known} (hI : Sound P B I) (hmix : P.follows .mixedOrders = true) (k : Nat) : ∀ d, Sound P B (levelS I P k d)
  | 0 => hI
  | d + 1 => by
    intro f as M s M' h
    rw [levelS_succ] at h
    split at h
    · rename_i r hr
      simp only [Option.some.injEq] at h
      subst h
      exact hI f as M s M' hr
    · split at h
      · rename_i v M1 hs
        simp only [Option.some.injEq, Prod.mk.injEq] at h
        obtain ⟨rfl, rfl⟩ := h
        intro m w vs hr has c cs
        unfold startS at hs
        split at hs
        · rename_i g hg
          have hb : botF g.fn [] = f := by
            unfold enterS at hg
            split at hg
            · simp at hg
            · split at hg
              · simp only [Option.some.injEq] at hg; subst hg; rfl
              · simp at hg
          have := run_goes hI (levelS_sound hI hmix k d) hmix (cs0 := c :: cs) k hr (enter_rel hg has) (All2.nil (R := FRel m)) hb
          rw [hs] at this
          obtain ⟨fr, w', m', x, h1, h2, h3, h4, _⟩ := this
          exact ⟨m', w', x, h2, h3, h1.trans (.one (step_leave_returned h4))⟩
        · simp at hs
      · simp at h

/-- A CLOSED CALL THAT ANSWERS TRUE. -/
theorem call_true (hmix : P.follows .mixedOrders = true) (n k d : Nat) {f : FuncId} (h : endsTrue (startS (fun _ _ _ => none) (levelS (fun _ _ _ => none) P k d) P k f [] (memOf n)) = true) (w : World) :
    Calls P f #[] w fun e w' => e = .returned (.bool true) ∧ Below w.heap.size w w' := by
  unfold startS at h
  split at h
  · rename_i g hg
    obtain ⟨M', hM⟩ := endsTrue_eq h
    have := call_runs (P := P) (B := w.heap.size) (sound_none P _) (levelS_sound (sound_none P _) hmix k d) hmix k (memOf_rel n w) (as := []) (vs := #[]) (concs_nil _) hg hM
    refine this.mono ?_
    rintro e w' ⟨m', x, rfl, hx, hs⟩
    have : x = .bool true := by simp [conc] at hx; exact hx.symm
    subst this
    exact ⟨rfl, hs.below⟩
  · simp [endsTrue] at h

noncomputable def noneKnown : Known := fun _ _ _ => none

/-- Where a run has come to, for a look. -/
inductive Look where
  | bad | go | done (v : SV)
def lookOf : Res → Look
  | .bad => .bad
  | .go _ _ _ => .go
  | .done v _ => .done v

end Go.Ev
