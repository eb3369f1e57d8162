/- Parts: fields, elements, slices of slices and strings, composite values. -/
import Derived.Test.YtpebjkgogohhpaaGreatDoorEvV5
namespace Go.Ev
open Go.RowKit
variable {P : Program}

theorem addr_eq (b x y s : Nat) : (⟨b, x + s, none⟩ : Addr).add y = ⟨b, x + y + s, none⟩ := by rw [addr_add]; congr 1; omega

section
variable {B : Nat} {m : Map} {M : Mem} {w : World}

/-- FIELDS BY ADDRESS -/
noncomputable def fieldOff (P : Program) (t : TypeId) (k : Nat) : Option Nat :=
  (P.underlying t).bind fun d => match d with
    | .struct fs => (fs[k]?).bind fun f => (szOf P f.type).bind fun n => match Nat.beq n 0 with
      | true => none
      | false => some f.offset
    | _ => none

theorem fieldOff_run {t : TypeId} {k o : Nat} (h : fieldOff P t k = some o) (b x : Nat) (w : World) :
    (Instr.fieldAt t (.pointer (some ⟨b, x, none⟩)) k).run P w = .ok (.pointer (some ⟨b, x + o, none⟩)) w := by
  simp only [fieldOff, Option.bind_eq_some_iff] at h
  obtain ⟨d, hd, h⟩ := h
  split at h
  · rename_i fs
    simp only [Option.bind_eq_some_iff] at h
    obtain ⟨f, hf, n, hn, h⟩ := h
    split at h
    · simp at h
    · rename_i hn0
      simp only [Option.some.injEq] at h
      have hn1 : n ≠ 0 := by intro e; subst e; exact absurd hn0 (by decide)
      simp [Instr.fieldAt, Sem.run_bind, run_underlying hd, hf, Instr.sureAddr, fieldPlace, szOf_run hn, hn1, addr_add, h]
  · simp at h

noncomputable def xFieldAddr (P : Program) (t : TypeId) (k : Nat) (a : SV) (M : Mem) : Out :=
  match a with
  | .ptr b off => match fieldOff P t k with
    | some o => .val (.ptr b (Nat.add off o)) M
    | none => .bad
  | _ => .bad

theorem xFieldAddr_does (hr : MRel B m M w) {t : TypeId} {k : Nat} {a : SV} {v : Value} (ha : conc m a = some v) :
    Does P B m M w (do Pure.pure (Next.value (← Instr.fieldAt t v k))) (xFieldAddr P t k a M) := by
  unfold xFieldAddr
  split
  next b off =>
    split
    next o ho =>
      obtain ⟨p, hp, rfl⟩ := conc_ptr ha
      refine Does.pure hr (fieldOff_run ho _ _ _) ?_
      simp [conc, hp]; omega
    next => trivial
  next => trivial

/-- PARTS OF A COMPOSITE VALUE -/
noncomputable def partS (P : Program) (t : TypeId) (l : List SV) (off : Nat) : Option SV :=
  match aggSize P t with
  | some none => nth l off
  | some (some n) => match Nat.ble (Nat.add off n) (len l) with
    | true => some (.agg (tk n (dp off l)))
    | false => none
  | none => none

theorem partS_run {t : TypeId} {l : List SV} {off : Nat} {s : SV} (h : partS P t l off = some s) {vs : List Value} (hl : concs m l = some vs) (w : World) :
    ∃ v, (part t vs.toArray off).run P w = .ok v w ∧ conc m s = some v := by
  unfold partS at h
  split at h
  next hz =>
    rw [nth_eq] at h
    obtain ⟨v, hv, hi⟩ := concs_get hl h
    exact ⟨v, by simp [part, Sem.run_bind, aggSize_none hz, hi], hv⟩
  next n hz =>
    split at h
    next hn =>
      simp only [Option.some.injEq] at h
      subst h
      refine ⟨.agg (vs.toArray.extract off (off + n)), by simp [part, Sem.run_bind, (aggSize_some hz w).1, (aggSize_some hz w).2], ?_⟩
      rw [tk_eq, dp_eq]
      simp [conc, concs_take n (concs_drop off hl), List.extract_eq_take_drop]
    next => simp at h
  next => simp at h

noncomputable def fieldOf (P : Program) (t : TypeId) (k : Nat) : Option (TypeId × Nat) :=
  (P.underlying t).bind fun d => match d with
    | .struct fs => (fs[k]?).map fun f => (f.type, f.offset)
    | _ => none

noncomputable def xField (P : Program) (t : TypeId) (k : Nat) (a : SV) (M : Mem) : Out :=
  match a with
  | .agg l => match fieldOf P t k with
    | some (u, o) => match partS P u l o with
      | some s => .val s M
      | none => .bad
    | none => .bad
  | _ => .bad

theorem xField_does (hr : MRel B m M w) {t : TypeId} {k : Nat} {a : SV} {v : Value} (ha : conc m a = some v) :
    Does P B m M w (do Pure.pure (Next.value (← Instr.field t v k))) (xField P t k a M) := by
  unfold xField
  split
  next l =>
    split
    next u o hu =>
      split
      next s hs =>
        obtain ⟨vs, hvs, rfl⟩ := conc_agg ha
        obtain ⟨x, hx, hc⟩ := partS_run hs hvs w
        simp only [fieldOf, Option.bind_eq_some_iff] at hu
        obtain ⟨d, hd, hu⟩ := hu
        split at hu
        · rename_i fs
          simp only [Option.map_eq_some_iff, Prod.mk.injEq] at hu
          obtain ⟨f, hf, rfl, rfl⟩ := hu
          exact Does.pure hr (by simp [Instr.field, Sem.run_bind, run_underlying hd, hf, asAgg, hx]) hc
        · simp at hu
      next => trivial
    next => trivial
  next => trivial

/-- EXTRACT -/
noncomputable def xExtract (k : Nat) (a : SV) (M : Mem) : Out :=
  match a with
  | .tuple l => match nth l k with
    | some s => .val s M
    | none => .bad
  | _ => .bad

theorem xExtract_does (hr : MRel B m M w) {k : Nat} {a : SV} {v : Value} (ha : conc m a = some v) :
    Does P B m M w (do Pure.pure (Next.value (← Instr.extract v k))) (xExtract k a M) := by
  unfold xExtract
  split
  next l =>
    split
    next s hs =>
      rw [nth_eq] at hs
      obtain ⟨vs, hvs, rfl⟩ := conc_tuple ha
      obtain ⟨x, hx, hi⟩ := concs_get hvs hs
      exact Does.pure hr (by simp [Instr.extract, hi]) hx
    next => trivial
  next => trivial

/-- ELEMENTS BY ADDRESS -/
noncomputable def natIn (i : Int) (n : Nat) : Option Nat :=
  Int.rec (fun j => Bool.rec none (some j) (Nat.ble (Nat.succ j) n)) (fun _ => none) i

theorem natIn_eq {i : Int} {n j : Nat} (h : natIn i n = some j) : i = (j : Int) ∧ j < n := by
  cases i with
  | ofNat k =>
    have h' : Bool.rec none (some k) (Nat.ble (Nat.succ k) n) = some j := h
    cases hb : Nat.ble (Nat.succ k) n with
    | false => rw [hb] at h'; simp at h'
    | true =>
      rw [hb] at h'
      simp only [Option.some.injEq] at h'
      subst h'
      exact ⟨rfl, by have := Nat.le_of_ble_eq_true hb; omega⟩
  | negSucc k => exact absurd (show (none : Option Nat) = some j from h) (by simp)

inductive Elems where
  | arr (n size : Nat)
  | sl (size : Nat)
noncomputable def elems (P : Program) (t : TypeId) : Option Elems :=
  (P.underlying t).bind fun d => match d with
    | .array n e => (szOf P e).map (.arr n ·)
    | .slice e => (szOf P e).map (.sl ·)
    | _ => none

noncomputable def xIndexAddr (P : Program) (t : TypeId) (a i : SV) (M : Mem) : Out :=
  match a, i with
  | .ptr b off, .int _ k => match elems P t with
    | some (.arr n z) => match natIn k n with
      | some j => .val (.ptr b (Nat.add off (Nat.mul j z))) M
      | none => .bad
    | _ => .bad
  | .slice b off n _, .int _ k => match elems P t with
    | some (.sl z) => match natIn k n with
      | some j => .val (.ptr b (Nat.add off (Nat.mul j z))) M
      | none => .bad
    | _ => .bad
  | .ope b off n _, .int _ k => match elems P t with
    | some (.sl z) => match natIn k n with
      | some j => .val (.ptr b (Nat.add off (Nat.mul j z))) M
      | none => .bad
    | _ => .bad
  | _, _ => .bad

theorem conc_slice {b : Pos} {off n c : Nat} {v : Value} (h : conc m (.slice b off n c) = some v) :
    ∃ p, m b = some p ∧ v = .slice (some ⟨p.block, off + p.shift, none⟩) n c := by
  simp only [conc, Option.map_eq_some_iff] at h
  obtain ⟨p, hp, rfl⟩ := h
  exact ⟨p, hp, rfl⟩

theorem conc_ope {b : Pos} {off n z : Nat} {v : Value} (h : conc m (.ope b off n z) = some v) :
    ∃ p, m b = some p ∧ 0 < z ∧ off + p.shift + n * z ≤ p.size ∧ v = .slice (some ⟨p.block, off + p.shift, none⟩) n ((p.size - (off + p.shift)) / z) := by
  simp only [conc, Option.bind_eq_some_iff] at h
  obtain ⟨p, hp, h⟩ := h
  split at h
  · rename_i hz
    simp only [Option.some.injEq] at h
    exact ⟨p, hp, hz.1, hz.2, h.symm⟩
  · simp at h

theorem conc_int {k : IntKind} {n : Int} {v : Value} (h : conc m (.int k n) = some v) : v = .int k n := by simp [conc] at h; exact h.symm

theorem xIndexAddr_does (hr : MRel B m M w) {t : TypeId} {a i : SV} {v u : Value} (ha : conc m a = some v) (hi : conc m i = some u) :
    Does P B m M w (do Pure.pure (Next.value (← Instr.indexAt t v u))) (xIndexAddr P t a i M) := by
  unfold xIndexAddr
  split
  next b off ik k =>
    obtain rfl := conc_int hi
    split
    next n z hz =>
      split
      next j hj =>
        obtain ⟨rfl, hlt⟩ := natIn_eq hj
        obtain ⟨p, hp, rfl⟩ := conc_ptr ha
        simp only [elems, Option.bind_eq_some_iff] at hz
        obtain ⟨d, hd, hz⟩ := hz
        split at hz
        · rename_i n' e
          simp only [Option.map_eq_some_iff, Elems.arr.injEq] at hz
          obtain ⟨z', hz', rfl, rfl⟩ := hz
          refine Does.pure hr (v := .pointer (some ⟨p.block, off + j * z' + p.shift, none⟩)) ?_ (by simp [conc, hp])
          simp [Instr.indexAt, asIntOf, Sem.run_bind, run_underlying hd, Instr.sureAddr, hlt, szOf_run hz', addr_eq]
        · simp at hz
        · simp at hz
      next => trivial
    next => trivial
  next b off n cap ik k =>
    obtain rfl := conc_int hi
    split
    next z hz =>
      split
      next j hj =>
        obtain ⟨rfl, hlt⟩ := natIn_eq hj
        obtain ⟨p, hp, rfl⟩ := conc_slice ha
        simp only [elems, Option.bind_eq_some_iff] at hz
        obtain ⟨d, hd, hz⟩ := hz
        split at hz
        · simp at hz
        · rename_i e
          simp only [Option.map_eq_some_iff, Elems.sl.injEq] at hz
          obtain ⟨z', hz', rfl⟩ := hz
          refine Does.pure hr (v := .pointer (some ⟨p.block, off + j * z' + p.shift, none⟩)) ?_ (by simp [conc, hp])
          simp [Instr.indexAt, asIntOf, Sem.run_bind, run_underlying hd, hlt, szOf_run hz', addr_eq]
        · simp at hz
      next => trivial
    next => trivial
  next b off n cap ik k =>
    obtain rfl := conc_int hi
    split
    next z hz =>
      split
      next j hj =>
        obtain ⟨rfl, hlt⟩ := natIn_eq hj
        obtain ⟨p, hp, _, _, rfl⟩ := conc_ope ha
        simp only [elems, Option.bind_eq_some_iff] at hz
        obtain ⟨d, hd, hz⟩ := hz
        split at hz
        · simp at hz
        · rename_i e
          simp only [Option.map_eq_some_iff, Elems.sl.injEq] at hz
          obtain ⟨z', hz', rfl⟩ := hz
          refine Does.pure hr (v := .pointer (some ⟨p.block, off + j * z' + p.shift, none⟩)) ?_ (by simp [conc, hp])
          simp [Instr.indexAt, asIntOf, Sem.run_bind, run_underlying hd, hlt, szOf_run hz', addr_eq]
        · simp at hz
      next => trivial
    next => trivial
  next => trivial

/-- ELEMENTS OF STRINGS AND ARRAYS BY VALUE -/
noncomputable def byteAt (l : List UInt8) : Nat → Option UInt8 :=
  List.rec (fun _ => none) (fun a _ ih i => Nat.rec (some a) (fun j _ => ih j) i) l
theorem byteAt_eq : ∀ (l : List UInt8) (i : Nat), byteAt l i = l[i]?
  | [], _ => by simp [byteAt]
  | a :: l, 0 => rfl
  | a :: l, i + 1 => by
    show byteAt l i = _
    rw [byteAt_eq l i]; simp

noncomputable def intNat (i : Int) : Option Nat := Int.rec (fun j => some j) (fun _ => none) i
theorem intNat_eq {i : Int} {j : Nat} (h : intNat i = some j) : i = (j : Int) := by
  cases i with
  | ofNat k => have h' : some k = some j := h; simp at h'; subst h'; rfl
  | negSucc k => exact absurd (show (none : Option Nat) = some j from h) (by simp)

inductive Wh where
  | str
  | arr (n : Nat) (e : TypeId) (size : Nat)
noncomputable def whole (P : Program) (t : TypeId) : Option Wh :=
  (P.underlying t).bind fun d => match d with
    | .array n e => (szOf P e).map (.arr n e ·)
    | .string => some .str
    | _ => none

noncomputable def xIndex (P : Program) (t : TypeId) (a i : SV) (M : Mem) : Out :=
  match a, i with
  | .str s, .int _ k => match whole P t with
    | some .str => match intNat k with
      | some j => match byteAt s j with
        | some c => .val (.int .u8 (Int.ofNat c.toNat)) M
        | none => .bad
      | none => .bad
    | _ => .bad
  | .agg l, .int _ k => match whole P t with
    | some (.arr n e z) => match natIn k n with
      | some j => match partS P e l (Nat.mul j z) with
        | some s => .val s M
        | none => .bad
      | none => .bad
    | _ => .bad
  | _, _ => .bad

theorem conc_str {s : List UInt8} {v : Value} (h : conc m (.str s) = some v) : v = .string ⟨s.toArray⟩ := by simp [conc] at h; exact h.symm

theorem xIndex_does (hr : MRel B m M w) {t : TypeId} {a i : SV} {v u : Value} (ha : conc m a = some v) (hi : conc m i = some u) :
    Does P B m M w (do Pure.pure (Next.value (← Instr.index t v u))) (xIndex P t a i M) := by
  unfold xIndex
  split
  next s ik k =>
    obtain rfl := conc_int hi
    obtain rfl := conc_str ha
    split
    next hz =>
      split
      next j hj =>
        split
        next c hc =>
          obtain rfl := intNat_eq hj
          rw [byteAt_eq] at hc
          simp only [whole, Option.bind_eq_some_iff] at hz
          obtain ⟨d, hd, hz⟩ := hz
          split at hz
          · simp at hz
          · have hb : (⟨s.toArray⟩ : ByteArray)[j]? = some c := by
              obtain ⟨hlt, he⟩ := List.getElem?_eq_some_iff.1 hc
              rw [getElem?_pos _ _ (by simpa [ByteArray.size] using hlt)]
              simp only [Option.some.injEq]
              rw [← he]
              rfl
            refine Does.pure hr (v := .int .u8 c.toNat) ?_ rfl
            simp [Instr.index, asIntOf, Sem.run_bind, run_underlying hd, hb]
          · simp at hz
        next => trivial
      next => trivial
    next => trivial
  next l ik k =>
    obtain rfl := conc_int hi
    split
    next n e z hz =>
      split
      next j hj =>
        split
        next s hs =>
          obtain ⟨rfl, hlt⟩ := natIn_eq hj
          obtain ⟨vs, hvs, rfl⟩ := conc_agg ha
          obtain ⟨x, hx, hc⟩ := partS_run hs hvs w
          simp only [whole, Option.bind_eq_some_iff] at hz
          obtain ⟨d, hd, hz⟩ := hz
          split at hz
          · rename_i n' e'
            simp only [Option.map_eq_some_iff, Wh.arr.injEq] at hz
            obtain ⟨z', hz', rfl, rfl, rfl⟩ := hz
            simp only [Nat.mul_eq] at hx
            exact Does.pure hr (by simp [Instr.index, asIntOf, Sem.run_bind, run_underlying hd, hlt, szOf_run hz', hx]) hc
          · simp at hz
          · simp at hz
        next => trivial
      next => trivial
    next => trivial
  next => trivial

end
end Go.Ev
