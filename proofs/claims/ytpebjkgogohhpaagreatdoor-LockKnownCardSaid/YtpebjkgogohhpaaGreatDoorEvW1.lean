/- Frames, temporaries, guards; calls that are known. -/
import Derived.Test.YtpebjkgogohhpaaGreatDoorEvV15
import Derived.RangeFuncLeaves
import Derived.RangeFuncNested
namespace Go.Ev
open Go.RowKit
variable {P : Program}

/-- Calls that are known. -/
abbrev Known := FuncId → List SV → Mem → Option (SV × Mem)

noncomputable def putD (σ : Tree SV) (n : Nat) (d : Option Tmp) (s : SV) : Option (Tree SV) :=
  match d with
  | none => some σ
  | some d => match Nat.ble (Nat.succ d) n with
    | true => some (σ.put (some s) (Pos.ofNat d))
    | false => none

/-- Is an operation to be carried out? -/
noncomputable def wantS (all : Array Oper) (σ : Tree SV) (o : Oper) : Option Bool :=
  match o.guard with
  | none => some true
  | some (j, want) => match (all[j]?).bind (·.dst) with
    | none => some false
    | some d => match σ.get (Pos.ofNat d) with
      | some (.bool b) => some (b == want)
      | some (.tuple []) => some false
      | _ => none

/-- A frame that runs. -/
structure Cx where
  fn : FuncId
  ds : List Deferred
  rd : Option Nat
def mkF (cx : Cx) (tm : Array Value) (todo : List Item) : Frame := { fn := cx.fn, tmps := tm, todo, defers := cx.ds, mode := .run, kind := .normal, roundOf := cx.rd }

theorem mkF_at (cx : Cx) (tm : Array Value) (todo todo' : List Item) (x : Array Value) : mkF cx tm todo = (mkF cx x todo').atR ⟨tm, cx.ds⟩ todo := rfl

theorem exec_nd {M : Mem} {σ : Tree SV} {o : Oper} (h : exec P M σ o ≠ .bad) : ∀ c, o.op ≠ .defer c := by
  intro c hc
  apply h
  unfold exec
  rw [hc]

theorem den_eval (tm : Array Value) (ds : List Deferred) : (Act.eval ⟨tm, ds⟩) = den tm := by
  funext x; cases x <;> rfl

/-- The known calls are as they are said to be. -/
def Sound (P : Program) (B : Nat) (I : Known) : Prop := ∀ f as M s M', I f as M = some (s, M') → ∀ (m : Map) (w : World) (vs : Array Value), MRel B m M w → concs m as = some vs.toList →
  ∀ (c : Frame) (cs : List Frame), ∃ m' w' v, Stepped B m M w m' M' w' ∧ conc m' s = some v ∧ Steps P (lone (Frame.enter P f vs .normal) (c :: cs) w) (lone (c.finish v) cs w')

theorem sound_none (P : Program) (B : Nat) : Sound P B (fun _ _ _ => none) := by
  intro f as M s M' h
  simp at h

section
variable {B : Nat} {m : Map} {M : Mem} {w : World}

theorem putD_rel {σ σ' : Tree SV} {tm : Array Value} {n : Nat} {d : Option Tmp} {s : SV} {v : Value} (h : putD σ n d s = some σ') (ht : TRel m σ tm) (hn : tm.size = n) (hv : conc m s = some v) :
    ∃ tm', (∀ ds, Act.put ⟨tm, ds⟩ d v = ⟨tm', ds⟩) ∧ TRel m σ' tm' ∧ tm'.size = n := by
  unfold putD at h
  split at h
  · simp only [Option.some.injEq] at h
    subst h
    exact ⟨tm, fun _ => rfl, ht, hn⟩
  · rename_i d
    split at h
    · rename_i hb
      simp only [Option.some.injEq] at h
      subst h
      have := Nat.le_of_ble_eq_true hb
      exact ⟨tm.setIfInBounds d v, fun _ => rfl, ht.put (by omega) hv, by simpa using hn⟩
    · simp at h

theorem wantS_rel {all : Array Oper} {σ : Tree SV} {tm : Array Value} {o : Oper} {b : Bool} (h : wantS all σ o = some b) (ht : TRel m σ tm) : Region.wanted o (yielded all tm) = b := by
  unfold wantS at h
  unfold Region.wanted
  split at h
  · rename_i hg
    rw [hg]
    simpa using h
  · rename_i j want hg
    rw [hg]
    simp only [yielded]
    split at h
    · rename_i hd
      simp only [Option.some.injEq] at h
      subst h
      rw [hd]
      rfl
    · rename_i d hd
      rw [hd]
      split at h
      · rename_i x hx
        simp only [Option.some.injEq] at h
        subst h
        obtain ⟨v, h1, h2⟩ := ht _ _ hx
        have : v = .bool x := by simp [conc] at h2; exact h2.symm
        subst this
        simp [h1]
      · rename_i hx
        simp only [Option.some.injEq] at h
        subst h
        obtain ⟨v, h1, h2⟩ := ht _ _ hx
        have : v = .tuple #[] := by simp [conc, concs] at h2; exact h2.symm
        subst this
        simp [h1]
      · simp at h

end
end Go.Ev
