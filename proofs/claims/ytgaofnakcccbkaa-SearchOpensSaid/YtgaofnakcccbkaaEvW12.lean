/- A part of the small machine. -/
import Derived.Test.YtgaofnakcccbkaaEvW8
set_option linter.unusedVariables false
/- Calls that are known: pure ones; one list of them or another. -/
namespace Go.Ev
open Go.RowKit
noncomputable def intCells (k : IntKind) (zs : List Int) : List SV := List.rec [] (fun z _ ih => SV.int k z :: ih) zs
theorem intCells_conc (m : Map) (k : IntKind) : ∀ zs : List Int, concs m (intCells k zs) = some (zs.map fun z => Value.int k z)
  | [] => rfl
  | z :: zs => by
    show concs m (.int k z :: intCells k zs) = _
    exact concs_cons rfl (intCells_conc m k zs)

end Go.Ev
namespace Go.Ev
open Go.RowKit
variable {P : Program}

/-- What a call of f answers, if it is known, and that nothing but draws is done. -/
noncomputable def pureK (f : FuncId) (g : List SV → Option SV) : Known := fun h xs M => match Nat.beq h f with
  | true => match g xs with
    | some s => some (s, M)
    | none => none
  | false => none

def Idle (w w' : World) : Prop := w'.heap = w.heap ∧ w'.os = w.os ∧ w'.tape = w.tape ∧ w'.output = w.output

theorem sound_pure {f : FuncId} {g : List SV → Option SV} (h : ∀ (xs : List SV) (s : SV), g xs = some s → ∀ (m : Map) (w : World) (vs : Array Value), concs m xs = some vs.toList → ∃ v, conc m s = some v ∧ Calls P f vs w fun e w' => e = .returned v ∧ Idle w w') (B : Nat) : Sound P B (pureK f g) := by
  intro f' xs M s M' hk
  unfold pureK at hk
  split at hk
  · rename_i hb
    obtain rfl := Nat.eq_of_beq_eq_true hb
    split at hk
    · rename_i s' hs
      simp only [Option.some.injEq, Prod.mk.injEq] at hk
      obtain ⟨rfl, rfl⟩ := hk
      intro m w vs hr has c cs
      obtain ⟨v, hv, hc⟩ := h xs _ hs m w vs has
      obtain ⟨e, w', fr, ⟨rfl, h1, h2, h3, h4⟩, hcome, hfn, hl⟩ := hc (c :: cs)
      refine ⟨m, w', v, ⟨hr.drew h1, fun _ _ => rfl, fun _ _ _ => rfl, Nat.le_refl _, ⟨h2, h3, h4, by rw [h1]; exact Nat.le_refl _, fun k _ => by rw [h1]⟩, fun k _ _ => by rw [h1], fun _ _ h => h, fun _ _ => rfl, rfl, fun _ _ h => h, fun b p hb hp _ => absurd hp (by rw [(hr.fresh b hb).1]; simp)⟩, hv, ?_⟩
      exact Steps.trans hcome (.one (step_leave_returned hl))
    · simp at hk
  · simp at hk

noncomputable def orK (I J : Known) : Known := fun f xs M => match I f xs M with
  | some r => some r
  | none => J f xs M

theorem sound_or {I J : Known} {B : Nat} (hI : Sound P B I) (hJ : Sound P B J) : Sound P B (orK I J) := by
  intro f xs M s M' h
  unfold orK at h
  split at h
  · rename_i r hr
    simp only [Option.some.injEq] at h
    subst h
    exact hI f xs M s M' hr
  · exact hJ f xs M s M' h

end Go.Ev

/- Calls that are known, and make only memory that nobody sees. -/
namespace Go.Ev
open Go.RowKit
variable {P : Program}

theorem sound_quiet {f : FuncId} {g : List SV → Option SV} (h : ∀ (xs : List SV) (s : SV), g xs = some s → ∀ (m : Map) (w : World) (vs : Array Value), concs m xs = some vs.toList → ∃ v, conc m s = some v ∧ Calls P f vs w fun e w' => e = .returned v ∧ Below w.heap.size w w') (B : Nat) : Sound P B (pureK f g) := by
  intro f' xs M s M' hk
  unfold pureK at hk
  split at hk
  · rename_i hb
    obtain rfl := Nat.eq_of_beq_eq_true hb
    split at hk
    · rename_i s' hs
      simp only [Option.some.injEq, Prod.mk.injEq] at hk
      obtain ⟨rfl, rfl⟩ := hk
      intro m w vs hr has c cs
      obtain ⟨v, hv, hc⟩ := h xs _ hs m w vs has
      obtain ⟨e, w', fr, ⟨rfl, hb⟩, hcome, hfn, hl⟩ := hc (c :: cs)
      refine ⟨m, w', v, ⟨hr.kept hb, fun _ _ => rfl, fun _ _ _ => rfl, Nat.le_refl _, hb.mono hr.base, fun k hk _ => hb.block k hk, fun _ _ h => h, fun _ _ => rfl, rfl, fun _ _ h => h, fun b p hb hp _ => absurd hp (by rw [(hr.fresh b hb).1]; simp)⟩, hv, ?_⟩
      exact Steps.trans hcome (.one (step_leave_returned hl))
    · simp at hk
  · simp at hk

end Go.Ev

/- Calls that are known, and give a slice of a new row. -/
namespace Go.Ev
open Go.RowKit
variable {P : Program}

/-- A slice in a block that the call has made: its cells, and that its room ends where the block ends. -/
def NewRow (w w' : World) (e : Ending) (us : List Value) : Prop :=
  ∃ b off cap t fz pre post, e = .returned (.slice (some ⟨b, off, none⟩) us.length cap) ∧ w.heap.size ≤ b ∧ w'.heap[b]? = some (.cells (pre ++ (us ++ post)).toArray t fz) ∧ pre.length = off ∧ cap = us.length + post.length

noncomputable def lendM (M : Mem) (cells : List SV) : Mem := Mem.rec (fun t n f => ⟨t.put (some (.ro cells)) n, n.succ, f⟩) M

noncomputable def rowK (f : FuncId) (g : List SV → Mem → Option (List SV)) : Known := fun h xs M => match Nat.beq h f with
  | true => match g xs M with
    | some cells => some (.ope (nextOf M) 0 (len cells) 1, lendM M cells)
    | none => none
  | false => none

theorem sound_row {f : FuncId} {g : List SV → Mem → Option (List SV)} {B : Nat} (h : ∀ (xs : List SV) (M : Mem) (cells : List SV), g xs M = some cells → ∀ (m : Map) (w : World) (vs : Array Value), MRel B m M w → concs m xs = some vs.toList →
    ∃ us, (∀ m', concs m' cells = some us) ∧ Calls P f vs w fun e w' => NewRow w w' e us ∧ Below w.heap.size w w') : Sound P B (rowK f g) := by
  intro f' xs M s M' hk
  unfold rowK at hk
  split at hk
  · rename_i hb
    obtain rfl := Nat.eq_of_beq_eq_true hb
    split at hk
    · rename_i cells hs
      simp only [Option.some.injEq, Prod.mk.injEq] at hk
      obtain ⟨rfl, rfl⟩ := hk
      intro m w vs hr has c cs
      obtain ⟨us, hus, hc⟩ := h xs M cells hs m w vs hr has
      obtain ⟨e, w', fr, ⟨⟨b, off, cap, t, fz, pre, post, rfl, hnew, hh, hpre, hcap⟩, hb⟩, hcome, hfn, hl⟩ := hc (c :: cs)
      have hlen := concs_length (hus m)
      have hst := Stepped.lend (w' := w') hr hb ⟨b, off, pre.length + (us.length + post.length)⟩ cells (Array.getElem?_eq_some_iff.1 hh).1 hnew (fun m' _ => ⟨t, fz, pre, us, post, hh, trivial, hpre, rfl, hus m', fun t ht => by simp at ht⟩)
      refine ⟨_, w', .slice (some ⟨b, off, none⟩) us.length cap, hst, ?_, Steps.trans hcome (.one (step_leave_returned hl))⟩
      have hnx : nextOf M = M.next := nextOf_eq M
      rw [hnx, len_eq]
      simp only [conc, if_true, Option.bind_some, Nat.zero_add, Nat.mul_one, Nat.div_one, Nat.lt_add_one, true_and, ← hlen]
      rw [if_pos (by omega)]
      congr 2
      omega
    · simp at hk
  · simp at hk

end Go.Ev

