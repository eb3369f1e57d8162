/- Regions of operations that write nothing that is older than themselves: in whatever order, they come to the same. -/
import Derived.Test.YtpebjkgogohhpaaGreatDoorEvV23
namespace Go.Ev
open Go.RowKit
variable {P : Program} {D : Known}

/-- What there is may not be written. -/
noncomputable def lift (M : Mem) : Mem := ⟨M.t, M.next, M.next.num⟩
noncomputable def unlift (f : Nat) (M : Mem) : Mem := ⟨M.t, M.next, f⟩

noncomputable def evalP (D : Known) (P : Program) (all : Array Oper) (M : Mem) (σ : Tree SV) (o : Oper) : Option (SV × Mem) :=
  match wantS all σ o with
  | none => none
  | some false => some (.tuple [], M)
  | some true => match exec P M σ o with
    | .val s M => some (s, M)
    | .enter f as M => D f as M
    | _ => none

noncomputable def pureS (D : Known) (P : Program) (n : Nat) (all : Array Oper) : List Oper → Tree SV → Mem → Option (Tree SV × Mem)
  | [], σ, M => some (σ, M)
  | o :: r, σ, M => match evalP D P all (lift M) σ o with
    | none => none
    | some (s, M1) => match putD σ n o.dst s with
      | none => none
      | some σ1 => pureS D P n all r σ1 M1

/-- Each writes a temporary of its own, and reads only what no other one writes, or what one wrote that comes before it. -/
def pureOK (ops : Array Oper) (ms : List Nat) : Bool :=
  (List.range ops.size).all fun j => match ops[j]? with
    | none => true
    | some o => (List.range ops.size).all fun i => match ops[i]? with
      | none => true
      | some p => match p.dst with
        | none => true
        | some d => (Nat.beq i j || !sameDst (some d) o.dst) && (!inter (readsOf ops o) (some d) || (befB ms i j && Nat.blt i j))

structure PureOK (ops : Array Oper) : Prop where
  one : ∀ (i j : Nat) (o p : Oper) (d : Tmp), ops[i]? = some o → ops[j]? = some p → o.dst = some d → p.dst = some d → i = j
  rd : ∀ (i j : Nat) (o p : Oper) (d : Tmp), ops[j]? = some o → ops[i]? = some p → p.dst = some d → d ∈ readsOf ops o → Before ops i j ∧ i < j

theorem pureOK_ok {ops : Array Oper} (h : pureOK ops (masks ops.toList) = true) : PureOK ops := by
  simp only [pureOK, List.all_eq_true, List.mem_range] at h
  have key : ∀ i j o p d, ops[j]? = some o → ops[i]? = some p → p.dst = some d → (i = j ∨ sameDst (some d) o.dst = false) ∧ (inter (readsOf ops o) (some d) = false ∨ (befB (masks ops.toList) i j = true ∧ i < j)) := by
    intro i j o p d ho hp hd
    have h1 := h j (Array.getElem?_eq_some_iff.1 ho).1
    rw [ho] at h1
    simp only [List.all_eq_true, List.mem_range] at h1
    have h2 := h1 i (Array.getElem?_eq_some_iff.1 hp).1
    rw [hp] at h2
    simp only [hd, Bool.and_eq_true, Bool.or_eq_true, Bool.not_eq_true'] at h2
    refine ⟨h2.1.imp (fun e => Nat.eq_of_beq_eq_true e) id, h2.2.imp id fun e => ⟨e.1, ?_⟩⟩
    exact Nat.lt_of_succ_le (Nat.le_of_ble_eq_true e.2)
  constructor
  · intro i j o p d ho hp hod hpd
    rcases (key i j p o d hp ho hod).1 with e | e
    · exact e
    · rw [hpd] at e
      simp [sameDst] at e
  · intro i j o p d ho hp hd hin
    rcases (key i j o p d ho hp hd).2 with e | e
    · rw [inter_mem.2 hin] at e; simp at e
    · exact ⟨befB_before (Array.getElem?_eq_some_iff.1 ho).1 e.1, e.2⟩

/-- The states of a run. -/
structure Trace (D : Known) (P : Program) (n : Nat) (all : Array Oper) (N i0 : Nat) (Ms : Nat → Mem) (σs : Nat → Tree SV) (ss : Nat → SV) : Prop where
  st : ∀ i o, i0 ≤ i → i < N → all[i]? = some o → evalP D P all (lift (Ms i)) (σs i) o = some (ss i, Ms (i + 1)) ∧ putD (σs i) n o.dst (ss i) = some (σs (i + 1))

theorem pureS_trace {n N : Nat} {all : Array Oper} {σ' : Tree SV} {M' : Mem} (hN : N ≤ all.size) : ∀ (r : List Oper) (i : Nat) (σ : Tree SV) (M : Mem), i ≤ N → (all.toList.take N).drop i = r → pureS D P n all r σ M = some (σ', M') →
    ∃ Ms σs ss, Trace D P n all N i Ms σs ss ∧ Ms i = M ∧ σs i = σ ∧ Ms N = M' ∧ σs N = σ'
  | [], i, σ, M, hi, hd, h => by
    simp only [pureS, Option.some.injEq, Prod.mk.injEq] at h
    obtain ⟨rfl, rfl⟩ := h
    have hl := congrArg List.length hd
    simp at hl
    refine ⟨fun _ => M, fun _ => σ, fun _ => .tuple [], ⟨fun k o hk hkN ho => ?_⟩, rfl, rfl, rfl, rfl⟩
    omega
  | o :: r, i, σ, M, hi, hd, h => by
    simp only [pureS] at h
    split at h
    · simp at h
    · rename_i s M1 he
      split at h
      · simp at h
      · rename_i σ1 hput
        have hlt : i < N := by
          have := congrArg List.length hd
          simp at this
          omega
        have ho : all[i]? = some o := by
          have : ((all.toList.take N).drop i)[0]? = some o := by rw [hd]; rfl
          rw [List.getElem?_drop, List.getElem?_take_of_lt (by omega)] at this
          simpa using this
        have hd' : (all.toList.take N).drop (i + 1) = r := by
          have := congrArg List.tail hd
          simpa using this
        obtain ⟨Ms, σs, ss, ht, h1, h2, h3, h4⟩ := pureS_trace hN r (i + 1) σ1 M1 (by omega) hd' h
        refine ⟨fun k => if k = i then M else Ms k, fun k => if k = i then σ else σs k, fun k => if k = i then s else ss k, ⟨fun k o' hk hkN ho' => ?_⟩, by simp, by simp, ?_, ?_⟩
        · by_cases e : k = i
          · subst e
            rw [ho] at ho'; cases ho'
            simp only [if_true, show ¬ (k + 1 = k) by omega, if_false, h1, h2]
            exact ⟨he, hput⟩
          · simp only [e, if_false, show ¬ (k + 1 = i) by omega]
            exact ht.st k o' (by omega) hkN ho'
        · simp only [show ¬ (N = i) by omega, if_false]; exact h3
        · simp only [show ¬ (N = i) by omega, if_false]; exact h4

section
variable {B : Nat} {m : Map} {M : Mem} {w : World} {σ : Tree SV} {tm : Array Value}

/-- An operation of a region: the model's steps. -/
theorem evalP_run (hD : Sound P B D) {all : Array Oper} {o : Oper} {s : SV} {M' : Mem} (hr : MRel B m M w) (ht : TRel m σ tm) (he : evalP D P all M σ o = some (s, M')) (cx : Cx) {i : Nat} (ho : all[i]? = some o) (rest : List Nat) (todo : List Item) (fs : List Frame) :
    ∃ m' w' v, Stepped B m M w m' M' w' ∧ conc m' s = some v ∧ ∀ (tm' : Array Value), (∀ ds, Act.put ⟨tm, ds⟩ o.dst v = ⟨tm', ds⟩) →
      Steps P (lone (mkF cx tm (.inRegion all (i :: rest) :: todo)) fs w) (lone (mkF cx tm' (.inRegion all rest :: todo)) fs w') := by
  unfold evalP at he
  cases hw : wantS all σ o with
  | none => rw [hw] at he; simp at he
  | some b =>
    rw [hw] at he
    have hw' := wantS_rel hw ht
    cases b with
    | false =>
      simp only [Option.some.injEq, Prod.mk.injEq] at he
      obtain ⟨rfl, rfl⟩ := he
      refine ⟨m, w, undef, .refl hr, by simp [conc, concs, undef], fun tm' hpt => .one ?_⟩
      have hst' := stepR_op_skip (P := P) (b := mkF cx tm []) (a := ⟨tm, cx.ds⟩) (k := todo) (cs := fs) (w := w) (ops := all) (i := i) (rest := rest) (by simp [ho, hw'])
      rw [ho, Option.bind_some, hpt] at hst'
      exact hst'
    | true =>
      simp only at he
      have hd := exec_does (P := P) hr ht o
      cases hex : exec P M σ o with
      | bad => rw [hex] at he; simp at he
      | round l as M2 => rw [hex] at he; simp at he
      | val s' M2 =>
        rw [hex] at he hd
        simp only [Option.some.injEq, Prod.mk.injEq] at he
        obtain ⟨rfl, rfl⟩ := he
        obtain ⟨x, m2, w2, hxr, hx, hst2⟩ := hd
        have hv : ∃ v, (x = .value v ∨ x = .skip ∧ v = undef) ∧ conc m2 s' = some v := by
          cases x with
          | value v => exact ⟨v, .inl rfl, hx⟩
          | skip => exact ⟨undef, .inr ⟨rfl, rfl⟩, by have : s' = .tuple [] := hx; subst this; simp [conc, concs, undef]⟩
          | _ => exact hx.elim
        obtain ⟨v, hxv, hv⟩ := hv
        refine ⟨m2, w2, v, hst2, hv, fun tm' hpt => .one ?_⟩
        have hg := stepGR_op (P := P) (b := mkF cx tm []) (a := ⟨tm, cx.ds⟩) (k := todo) (cs := fs) (w := w) (ops := all) (i := i) (rest := rest) ho hw'
        rw [Oper.semAt_eq _ _ _ (exec_nd (P := P) (M := M) (σ := σ) (by rw [hex]; simp)), den_eval] at hg
        have hfin : (mkF cx tm (.inRegion all (i :: rest) :: todo)).finish v = mkF cx tm' (.inRegion all rest :: todo) := by
          have := Frame.finish_atR (mkF cx tm []) ⟨tm, cx.ds⟩ all i rest todo v
          rw [ho, Option.bind_some, hpt] at this
          exact this
        refine step_lone_go ?_
        rw [← hfin]
        rcases hxv with rfl | ⟨rfl, rfl⟩
        · exact (congrArg GStep.bare hg).trans (by simp [stepG.apply, hxr]; rfl)
        · exact (congrArg GStep.bare hg).trans (by simp [stepG.apply, hxr]; rfl)
      | enter f as M2 =>
        rw [hex] at he hd
        simp only at he
        obtain ⟨vs, m2, w2, hxr, has, hst2⟩ := hd
        obtain ⟨m3, w3, v, hst3, hv, hsteps⟩ := hD f as M2 s M' he m2 w2 vs hst2.rel has (mkF cx tm (.inRegion all (i :: rest) :: todo)) fs
        refine ⟨m3, w3, v, hst2.trans hst3, hv, fun tm' hpt => ?_⟩
        have hg := stepGR_op (P := P) (b := mkF cx tm []) (a := ⟨tm, cx.ds⟩) (k := todo) (cs := fs) (w := w) (ops := all) (i := i) (rest := rest) ho hw'
        rw [Oper.semAt_eq _ _ _ (exec_nd (P := P) (M := M) (σ := σ) (by rw [hex]; simp)), den_eval] at hg
        have henter : step P (lone (mkF cx tm (.inRegion all (i :: rest) :: todo)) fs w) = .next (lone (Frame.enter P f vs .normal) (mkF cx tm (.inRegion all (i :: rest) :: todo) :: fs) w2) := by
          refine step_lone_go ?_
          exact (congrArg GStep.bare hg).trans (by simp [stepG.apply, hxr, Frame.atR, mkF])
        have hfin : (mkF cx tm (.inRegion all (i :: rest) :: todo)).finish v = mkF cx tm' (.inRegion all rest :: todo) := by
          have := Frame.finish_atR (mkF cx tm []) ⟨tm, cx.ds⟩ all i rest todo v
          rw [ho, Option.bind_some, hpt] at this
          exact this
        rw [hfin] at hsteps
        exact .head henter hsteps

end
end Go.Ev
