/- Operands; what an operation gives. -/
import Derived.Test.YtpebjkgogohhpaaGreatDoorEvV3
namespace Go.Ev
open Go.RowKit
variable {P : Program}

noncomputable def mapAll (f : Value → Option SV) (l : List Value) : Option (List SV) :=
  List.rec (some []) (fun a _ ih => Option.rec none (fun x => Option.rec none (fun r => some (x :: r)) ih) (f a)) l

theorem mapAll_conc {f : Value → Option SV} {m : Map} (hf : ∀ v s, f v = some s → conc m s = some v) : ∀ {l : List Value} {r : List SV}, mapAll f l = some r → concs m r = some l
  | [], r, h => by
    have h' : some [] = some r := h
    simp at h'; subst h'; simp [concs]
  | a :: l, r, h => by
    have h' : Option.rec none (fun x => Option.rec none (fun r => some (x :: r)) (mapAll f l)) (f a) = some r := h
    cases ha : f a with
    | none => rw [ha] at h'; simp at h'
    | some x =>
      rw [ha] at h'
      cases hl : mapAll f l with
      | none => simp [hl] at h'
      | some k =>
        simp only [hl, Option.some.injEq] at h'
        subst h'
        exact concs_cons (hf _ _ ha) (mapAll_conc hf hl)

/-- A value without a place, of one part. -/
def ofV0 : Value → Option SV
  | .bool b => some (.bool b)
  | .int k n => some (.int k n)
  | .string s => some (.str s.data.toList)
  | .pointer none => some .nilp
  | .slice none 0 0 => some .nils
  | .map none => some .nilm
  | .nilFunc => some .nilf
  | .nilIface => some .nili
  | _ => none

theorem ofV0_conc (m : Map) (v : Value) (s : SV) (h : ofV0 v = some s) : conc m s = some v := by
  unfold ofV0 at h
  split at h <;> first | (simp only [Option.some.injEq] at h; subst h; simp [conc]; done) | (simp at h; done)

noncomputable def ofV1 : Value → Option SV
  | .iface t v => (ofV0 v).map (.iface t ·)
  | .agg cs => (mapAll ofV0 cs.toList).map .agg
  | .tuple cs => (mapAll ofV0 cs.toList).map .tuple
  | v => ofV0 v

theorem ofV1_conc (m : Map) (v : Value) (s : SV) (h : ofV1 v = some s) : conc m s = some v := by
  unfold ofV1 at h
  split at h
  · simp only [Option.map_eq_some_iff] at h
    obtain ⟨x, hx, rfl⟩ := h
    simp [conc, ofV0_conc m _ _ hx]
  · simp only [Option.map_eq_some_iff] at h
    obtain ⟨x, hx, rfl⟩ := h
    simp [conc, mapAll_conc (ofV0_conc m) hx]
  · simp only [Option.map_eq_some_iff] at h
    obtain ⟨x, hx, rfl⟩ := h
    simp [conc, mapAll_conc (ofV0_conc m) hx]
  · exact ofV0_conc m _ _ h

noncomputable def ofV : Value → Option SV
  | .iface t v => (ofV1 v).map (.iface t ·)
  | .agg cs => (mapAll ofV1 cs.toList).map .agg
  | .tuple cs => (mapAll ofV1 cs.toList).map .tuple
  | v => ofV0 v

theorem ofV_conc (m : Map) (v : Value) (s : SV) (h : ofV v = some s) : conc m s = some v := by
  unfold ofV at h
  split at h
  · simp only [Option.map_eq_some_iff] at h
    obtain ⟨x, hx, rfl⟩ := h
    simp [conc, ofV1_conc m _ _ hx]
  · simp only [Option.map_eq_some_iff] at h
    obtain ⟨x, hx, rfl⟩ := h
    simp [conc, mapAll_conc (ofV1_conc m) hx]
  · simp only [Option.map_eq_some_iff] at h
    obtain ⟨x, hx, rfl⟩ := h
    simp [conc, mapAll_conc (ofV1_conc m) hx]
  · exact ofV0_conc m _ _ h

theorem TRel.put {m : Map} {σ : Tree SV} {tm : Array Value} (hr : TRel m σ tm) {d : Nat} (hd : d < tm.size) {s : SV} {v : Value} (hv : conc m s = some v) :
    TRel m (σ.put (some s) (Pos.ofNat d)) (tm.setIfInBounds d v) := by
  intro t x hx
  by_cases h : d = t
  · subst h
    rw [Tree.get_put_same] at hx
    cases hx
    exact ⟨v, by simp [hd], hv⟩
  · rw [Tree.get_put_other _ _ (fun e => h (Pos.ofNat_inj e))] at hx
    obtain ⟨u, h1, h2⟩ := hr t x hx
    exact ⟨u, by rw [Array.getElem?_setIfInBounds_ne h]; exact h1, h2⟩

/-- What an operand is in the model. -/
def den (tm : Array Value) : Operand → Value
  | .tmp t => tm.getD t undef
  | .const v => v
  | .global g => .pointer (some ⟨g, 0, none⟩)
  | .func f => .func (.func f) #[] #[]

noncomputable def fixOf (M : Mem) (b : Pos) : Bool := match M.t.get b with
  | some (.fix _) => true
  | _ => false

theorem fixOf_eq {M : Mem} {b : Pos} (h : fixOf M b = true) : ∃ c, M.t.get b = some (.fix c) := by
  unfold fixOf at h
  split at h
  · rename_i c hc; exact ⟨c, hc⟩
  · simp at h

noncomputable def arg (M : Mem) (σ : Tree SV) (x : Operand) : Option SV :=
  Operand.rec (fun t => σ.get (Pos.ofNat t)) (fun v => ofV v) (fun g => Bool.rec none (some (.ptr (Pos.ofNat g) 0)) (fixOf M (Pos.ofNat g))) (fun f => some (.fn (.func f) [] [])) x

section
variable {B : Nat} {m : Map} {M : Mem} {w : World} {σ : Tree SV} {tm : Array Value}

theorem arg_den (hr : MRel B m M w) (ht : TRel m σ tm) {x : Operand} {s : SV} (h : arg M σ x = some s) : conc m s = some (den tm x) := by
  cases x with
  | tmp t =>
    obtain ⟨v, h1, h2⟩ := ht t s h
    rw [h2]
    simp [den, Array.getD_eq_getD_getElem?, h1]
  | const v => exact ofV_conc m _ _ h
  | global g =>
    have h' : Bool.rec none (some (.ptr (Pos.ofNat g) 0)) (fixOf M (Pos.ofNat g)) = some s := h
    cases hf : fixOf M (Pos.ofNat g) with
    | false => rw [hf] at h'; simp at h'
    | true =>
      rw [hf] at h'
      simp only [Option.some.injEq] at h'
      subst h'
      obtain ⟨c, hc⟩ := fixOf_eq hf
      obtain ⟨z, hm⟩ := hr.glob _ _ hc
      simp [conc, hm, den, Pos.num_ofNat]
  | func f =>
    have h' : some (SV.fn (.func f) [] []) = some s := h
    simp only [Option.some.injEq] at h'
    subst h'
    simp [conc, concs, den]

noncomputable def args (M : Mem) (σ : Tree SV) (l : List Operand) : Option (List SV) :=
  List.rec (some []) (fun a _ ih => Option.rec none (fun x => Option.rec none (fun r => some (x :: r)) ih) (arg M σ a)) l

theorem args_den (hr : MRel B m M w) (ht : TRel m σ tm) : ∀ {l : List Operand} {r : List SV}, args M σ l = some r → concs m r = some (l.map (den tm))
  | [], r, h => by
    have h' : some [] = some r := h
    simp at h'; subst h'; simp [concs]
  | a :: l, r, h => by
    have h' : Option.rec none (fun x => Option.rec none (fun r => some (x :: r)) (args M σ l)) (arg M σ a) = some r := h
    cases ha : arg M σ a with
    | none => rw [ha] at h'; simp at h'
    | some x =>
      rw [ha] at h'
      cases hl : args M σ l with
      | none => simp [hl] at h'
      | some k =>
        simp only [hl, Option.some.injEq] at h'
        subst h'
        exact concs_cons (arg_den hr ht ha) (args_den hr ht hl)

end

/-- What an operation gives: a value, or a call, or a round of a loop over a function. -/
inductive Out where
  | bad
  | val (v : SV) (M : Mem)
  | enter (f : FuncId) (args : List SV) (M : Mem)
  | round (l : Pos) (args : List SV) (M : Mem)

def Nx (m : Map) (s : SV) : Next → Prop
  | .value v => conc m s = some v
  | .skip => s = .tuple []
  | _ => False

/-- The model does likewise. -/
def Does (P : Program) (B : Nat) (m : Map) (M : Mem) (w : World) (q : Sem Next) : Out → Prop
  | .bad => True
  | .val s M' => ∃ x m' w', q.run P w = .ok x w' ∧ Nx m' s x ∧ Stepped B m M w m' M' w'
  | .enter f as M' => ∃ vs m' w', q.run P w = .ok (.enter f vs) w' ∧ concs m' as = some vs.toList ∧ Stepped B m M w m' M' w'
  | .round l as M' => ∃ (p : Pl) (R : Loop) (vs : Array Value) (m' : Map) (w' : World), m' l = some p ∧ w'.heap[p.block]? = some (.loop R) ∧ vs.size = R.params.size ∧
      q.run P w = .ok (.round p.block R.fn ((R.params.zip vs).foldl (fun tmps (t, a) => tmps.setIfInBounds t a) R.tmps) R.assign R.body) w' ∧ concs m' as = some vs.toList ∧ Stepped B m M w m' M' w'

section
variable {B : Nat} {m : Map} {M : Mem} {w : World}

/-- A value that leaves memory alone. -/
theorem Does.pure (hr : MRel B m M w) {q : Sem Value} {s : SV} {v : Value} (hq : q.run P w = .ok v w) (hv : conc m s = some v) :
    Does P B m M w (do Pure.pure (Next.value (← q))) (.val s M) :=
  ⟨.value v, m, w, by simp [Sem.run_bind, hq], hv, .refl hr⟩

theorem Does.value {q : Sem Value} {s : SV} {v : Value} {m' M' w'} (hq : q.run P w = .ok v w') (hv : conc m' s = some v) (hs : Stepped B m M w m' M' w') :
    Does P B m M w (do Pure.pure (Next.value (← q))) (.val s M') :=
  ⟨.value v, m', w', by simp [Sem.run_bind, hq], hv, hs⟩

theorem Does.unit {q : Sem Unit} {m' M' w'} (hq : q.run P w = .ok () w') (hs : Stepped B m M w m' M' w') :
    Does P B m M w (do q; Pure.pure Next.skip) (.val (.tuple []) M') :=
  ⟨.skip, m', w', by simp [Sem.run_bind, hq], rfl, hs⟩
end

end Go.Ev
