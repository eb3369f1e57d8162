/- make, composite slices, slices of slices. -/
import Derived.Test.YtpebjkgogohhpaaGreatDoorEvV8
namespace Go.Ev
open Go.RowKit
variable {P : Program}

noncomputable def rep (n : Nat) (z : List SV) : List SV := Nat.rec [] (fun _ ih => app z ih) n
theorem rep_succ (n : Nat) (z : List SV) : rep (n + 1) z = z ++ rep n z := by show app z (rep n z) = _; rw [app_eq]

def repV (n : Nat) (z : List Value) : List Value := match n with
  | 0 => []
  | n + 1 => z ++ repV n z

theorem repV_length (n : Nat) (z : List Value) : (repV n z).length = n * z.length := by
  induction n with
  | zero => simp [repV]
  | succ n ih => rw [repV, List.length_append, ih, Nat.succ_mul]; omega

theorem repV_get (n : Nat) (z : List Value) (i : Nat) (h : i < n * z.length) : (repV n z)[i]? = z[i % z.length]? := by
  induction n generalizing i with
  | zero => simp at h
  | succ n ih =>
    rw [repV]
    by_cases hi : i < z.length
    · rw [List.getElem?_append_left hi, Nat.mod_eq_of_lt hi]
    · rw [List.getElem?_append_right (by omega), ih _ (by rw [Nat.succ_mul] at h; omega), ← Nat.mod_eq_sub_mod (by omega)]

theorem repV_range (n : Nat) (z : List Value) : (Array.range (n * z.length)).map (fun i => z.toArray[i % z.toArray.size]!) = (repV n z).toArray := by
  apply Array.ext'
  simp only [Array.toList_map, Array.toList_range, List.size_toArray]
  apply List.ext_getElem?
  intro i
  by_cases h : i < n * z.length
  · rw [repV_get n z i h, List.getElem?_map, List.getElem?_range h]
    have h0 : 0 < z.length := by
      rcases Nat.eq_zero_or_pos z.length with e | e
      · rw [e] at h; simp at h
      · exact e
    have hm := Nat.mod_lt i h0
    simp [hm]
  · rw [List.getElem?_eq_none (by simp; omega), List.getElem?_eq_none (by rw [repV_length]; omega)]

theorem rep_conc {m : Map} (n : Nat) {z : List SV} {zs : List Value} (h : concs m z = some zs) : concs m (rep n z) = some (repV n zs) := by
  induction n with
  | zero => show concs m [] = _; simp [concs, repV]
  | succ n ih => rw [rep_succ, repV]; exact concs_append h ih

theorem run_askRoom' (n : Nat) (w : World) : (askRoom n).run P w = .ok () w := by
  unfold askRoom
  split <;> rfl

/-- What is asked of the elements of a new slice. -/
structure Elt where
  size : Nat
  bytes : Nat
  zero : List SV
  ty : TypeId

noncomputable def eltOf (P : Program) (e : TypeId) : Option Elt :=
  match P.info? e, zerosOf P e with
  | some i, some z => match Nat.beq (len z) i.size with
    | true => some ⟨i.size, i.bytes, z, e⟩
    | false => none
  | _, _ => none

theorem eltOf_ty {e : TypeId} {x : Elt} (h : eltOf P e = some x) : e = x.ty := by
  unfold eltOf at h
  split at h
  · split at h
    · simp only [Option.some.injEq] at h
      subst h; rfl
    · simp at h
  · simp at h

theorem eltOf_run {e : TypeId} {x : Elt} (h : eltOf P e = some x) (m : Map) (w : World) :
    ∃ i z, P.info? e = some i ∧ i.size = x.size ∧ i.bytes = x.bytes ∧ (zeroValue e).run P w = .ok z w ∧ concs m x.zero = some z.cells.toList ∧ z.cells.size = x.size := by
  unfold eltOf at h
  split at h
  · rename_i i z hi hz
    split at h
    · rename_i hl
      simp only [Option.some.injEq] at h
      subst h
      obtain ⟨v, hv, hc⟩ := zerosOf_run (m := m) hz w
      refine ⟨i, v, hi, rfl, rfl, hv, hc, ?_⟩
      have := concs_length hc
      have h2 : z.length = i.size := by rw [← len_eq]; exact Nat.eq_of_beq_eq_true hl
      simp only [Array.length_toList] at this
      show v.cells.size = i.size
      omega
    · simp at h
  · simp at h

noncomputable def sliceElt (P : Program) (t : TypeId) : Option Elt :=
  (P.underlying t).bind fun d => match d with
    | .slice e => eltOf P e
    | _ => none
theorem sliceElt_run {t : TypeId} {x : Elt} (h : sliceElt P t = some x) : ∃ e, P.underlying t = some (.slice e) ∧ eltOf P e = some x := by
  simp only [sliceElt, Option.bind_eq_some_iff] at h
  obtain ⟨d, hd, h⟩ := h
  split at h
  · exact ⟨_, hd, h⟩
  · simp at h

section
variable {B : Nat} {m : Map} {M : Mem} {w : World}

noncomputable def xMake (P : Program) (t : TypeId) (l c : SV) (M : Mem) : Out :=
  match l, c with
  | .int _ l, .int _ c => match intNat l, intNat c, sliceElt P t with
    | some l, some c, some x => match Nat.ble l c, Nat.ble c 1073741824, Nat.ble (Nat.mul c x.bytes) 281474976710656 with
      | true, true, true => .val (.slice (nextOf M) 0 l c) (newRowS x.ty (.head 0) M (rep c x.zero))
      | _, _, _ => .bad
    | _, _, _ => .bad
  | _, _ => .bad

theorem newRowS_run (e : TypeId) (c : Array Value) (w : World) : (newRow e c).run P w = .ok ⟨w.heap.size, 0, none⟩ (w.alloc (.cells c e)) := by
  simp [newRow, newObj, Sem.run_bind, Sem.run]

theorem xMake_does (hr : MRel B m M w) {t : TypeId} {l c : SV} {v u : Value} (hl : conc m l = some v) (hc : conc m c = some u) :
    Does P B m M w (do Pure.pure (Next.value (← Instr.makeSlice t v u))) (xMake P t l c M) := by
  unfold xMake
  split
  next kl l kc c =>
    obtain rfl := conc_int hl
    obtain rfl := conc_int hc
    split
    next l' c' x e1 e2 hx =>
      obtain rfl := intNat_eq e1
      obtain rfl := intNat_eq e2
      split
      next h1 h2 h3 =>
        have h1' := Nat.le_of_ble_eq_true h1
        have h2' := Nat.le_of_ble_eq_true h2
        have h3' := Nat.le_of_ble_eq_true h3
        simp only [Nat.mul_eq] at h3'
        obtain ⟨e, he, hx⟩ := sliceElt_run hx
        obtain rfl := eltOf_ty hx
        obtain ⟨i, z, hi, hsz, hby, hz, hzc, hzs⟩ := eltOf_run hx m w
        have hrep := rep_conc c' hzc
        have hww := wrap_in .i64 (c' : Int) (by simp only [lowOf]; omega) (by simp only [topOf]; omega)
        have hwl := wrap_in .i64 (l' : Int) (by simp only [lowOf]; omega) (by simp only [topOf]; omega)
        obtain ⟨m', hs, hm⟩ := new_row hr (.head 0) (.inl (by simp)) x.ty hrep (post := []) (w' := w.alloc (.cells (repV c' z.cells.toList).toArray x.ty)) (by show w.heap.push _ = _; simp) rfl rfl rfl
        refine Does.value (v := .slice (some ⟨w.heap.size, 0, none⟩) l' c') ?_ (by simp [conc, nextOf_eq, hm]) hs
        have hcells : (Array.range (c' * x.size)).map (fun j => z.cells[j % z.cells.size]!) = (repV c' z.cells.toList).toArray := by
          have := repV_range c' z.cells.toList
          simpa [hzs] using this
        have hnb : ¬ ((i.bytes : Int) * c' > 2 ^ 48) := by
          rw [hby]
          have : ((c' * x.bytes : Nat) : Int) ≤ 281474976710656 := by omega
          rw [Int.mul_comm]
          simp only [Int.natCast_mul] at this
          omega
        have hlc : ¬ ((c' : Int) < l') := by omega
        simp only [Instr.makeSlice, Sem.run_bind, run_underlying he, Result.andThen_ok, asInt, asIntOf, Sem.run_pure, run_info hi, hww, hwl]
        have hg : ¬ ((decide ((c' : Int) < 0) || decide ((i.bytes : Int) * c' > 2 ^ 48) || decide ((l' : Int) < 0) || decide ((l' : Int) > c')) = true) := by
          have g1 : decide ((c' : Int) < 0) = false := decide_eq_false (by omega)
          have g2 : decide ((i.bytes : Int) * c' > 2 ^ 48) = false := decide_eq_false hnb
          have g3 : decide ((l' : Int) < 0) = false := decide_eq_false (by omega)
          have g4 : decide ((l' : Int) > c') = false := decide_eq_false (by omega)
          rw [g1, g2, g3, g4]
          decide
        rw [if_neg hg]
        simp only [Sem.run_bind, run_askRoom', Result.andThen_ok, Sem.run_pure, Int.toNat_natCast]
        simp only [sizeOf, Sem.run_bind, run_info hi, Result.andThen_ok, Sem.run_pure, hsz]
        by_cases hn : c' * x.size = 0
        · have hc2 : (Array.range (c' * x.size)).map (fun j => (#[] : Array Value)[j % (#[] : Array Value).size]!) = (repV c' z.cells.toList).toArray := by
            rw [← hcells, hn]; simp
          simp only [hn, if_true, Sem.run_bind, Sem.run_pure, Result.andThen_ok, newRowS_run] at hc2 ⊢
          rw [hc2]
        · simp only [hn, if_false, Sem.run_bind, hz, Result.andThen_ok, Sem.run_pure, newRowS_run, hcells]
      next => trivial
    next => trivial
  next => trivial

noncomputable def xBuildSlice (P : Program) (t : TypeId) (n : Nat) (ps : List (Nat × SV)) (M : Mem) : Out :=
  match sliceElt P t with
  | some x => match Nat.ble (Nat.mul n x.size) 16777216, fillS (fun i => some (Nat.mul i x.size, x.size)) (rep n x.zero) ps with
    | true, some r => .val (.slice (nextOf M) 0 n n) (newRowS x.ty (.head 0) M r)
    | _, _ => .bad
  | none => .bad

theorem xBuildSlice_does (hr : MRel B m M w) {t : TypeId} {n : Nat} {ps : List (Nat × SV)} {qs : Array (Nat × Value)} (hp : partsRel m ps qs.toList) :
    Does P B m M w (do Pure.pure (Next.value (← Instr.buildSlice t n qs))) (xBuildSlice P t n ps M) := by
  unfold xBuildSlice
  split
  next x hx =>
    split
    next r h1 hf =>
      have h1' := Nat.le_of_ble_eq_true h1
      simp only [Nat.mul_eq] at h1'
      obtain ⟨e, he, hx⟩ := sliceElt_run hx
      obtain rfl := eltOf_ty hx
      obtain ⟨i, z, hi, hsz, hby, hz, hzc, hzs⟩ := eltOf_run hx m w
      obtain ⟨us, hfill, hu⟩ := fillS_fill hp hf (rep_conc n hzc)
      obtain ⟨m', hs, hm⟩ := new_row hr (.head 0) (.inl (by simp)) x.ty hu (post := []) (w' := w.alloc (.cells us.toArray x.ty)) (by show w.heap.push _ = _; simp) rfl rfl rfl
      refine Does.value (v := .slice (some ⟨w.heap.size, 0, none⟩) n n) ?_ (by simp [conc, nextOf_eq, hm]) hs
      have hcells : (Array.range (n * x.size)).map (fun j => z.cells[j % z.cells.size]!) = (repV n z.cells.toList).toArray := by
        have := repV_range n z.cells.toList
        simpa [hzs] using this
      simp only [Nat.mul_eq] at hfill
      simp only [Instr.buildSlice, Sem.run_bind, run_underlying he, Result.andThen_ok, sizeOf, run_info hi, Sem.run_pure, hsz, gt_iff_lt, show ¬ (2 ^ 24 < n * x.size) by omega, if_false]
      by_cases hn : n * x.size = 0
      · have hc2 : (Array.range (n * x.size)).map (fun j => (#[] : Array Value)[j % (#[] : Array Value).size]!) = (repV n z.cells.toList).toArray := by
          rw [← hcells, hn]; simp
        simp only [hn, if_true, Sem.run_bind, Sem.run_pure, Result.andThen_ok] at hc2 ⊢
        rw [hc2, hfill]
        simp only [Sem.run_bind, newRowS_run, Result.andThen_ok, Sem.run_pure]
      · simp only [hn, if_false, Sem.run_bind, hz, Result.andThen_ok, Sem.run_pure, hcells]
        rw [hfill]
        simp only [Sem.run_bind, newRowS_run, Result.andThen_ok, Sem.run_pure]
    next => trivial
  next => trivial

/-- BOUNDS. none: left out. -/
noncomputable def boundS (x : Option SV) (d : Nat) (top : Nat) : Option Nat :=
  match x with
  | none => some d
  | some (.int _ i) => match intNat i with
    | some j => match Nat.ble j top with
      | true => some j
      | false => none
    | none => none
  | _ => none

theorem boundS_run {x : Option SV} {v : Option Value} {d top j : Nat} (h : boundS x d top = some j) (hx : ∀ s, x = some s → ∃ u, v = some u ∧ conc m s = some u) (hn : x = none → v = none) :
    (v = none ∧ j = d) ∨ ∃ k, v = some (.int k (j : Int)) ∧ j ≤ top := by
  unfold boundS at h
  split at h
  · simp only [Option.some.injEq] at h
    exact .inl ⟨hn rfl, h.symm⟩
  · rename_i k i
    obtain ⟨u, hu, hc⟩ := hx _ rfl
    obtain rfl := conc_int hc
    split at h
    · rename_i j' hj
      obtain rfl := intNat_eq hj
      split at h
      · rename_i hb
        simp only [Option.some.injEq] at h
        subst h
        exact .inr ⟨k, hu, Nat.le_of_ble_eq_true hb⟩
      · simp at h
    · simp at h
  · simp at h


end
end Go.Ev
