/- Composite values, new slices, slices of slices. -/
import Derived.Test.YtpebjkgogohhpaaGreatDoorEvV7
namespace Go.Ev
open Go.RowKit
variable {P : Program}

/-- FILLING -/
noncomputable def fillS (place : Nat → Option (Nat × Nat)) (cells : List SV) : List (Nat × SV) → Option (List SV)
  | [] => some cells
  | (i, v) :: rest =>
    match place i with
    | none => none
    | some (off, size) =>
      match Nat.beq (len (cellsOf v)) size, Nat.ble (Nat.add off size) (len cells) with
      | true, true => fillS place (app (tk off cells) (app (cellsOf v) (dp (Nat.add off size) cells))) rest
      | _, _ => none

theorem set_step (cs : Array Value) (off : Nat) : ∀ (vs : List Value) (j : Nat), off + j + vs.length ≤ cs.size →
    (vs.zipIdx j).foldl (fun cs (c, k) => cs.setIfInBounds (off + k) c) cs = (cs.toList.take (off + j) ++ (vs ++ cs.toList.drop (off + j + vs.length))).toArray := by
  intro vs
  induction vs generalizing cs with
  | nil => intro j _; simp
  | cons v vs ih =>
    intro j hj
    simp only [List.length_cons] at hj
    simp only [List.zipIdx_cons, List.foldl_cons]
    rw [ih _ (j + 1) (by simp; omega)]
    apply congrArg List.toArray
    simp only [Array.toList_setIfInBounds]
    have hlt : off + j < cs.toList.length := by simp; omega
    have hl : (cs.toList.take (off + j)).length = off + j := by rw [List.length_take]; omega
    rw [List.set_eq_take_append_cons_drop, if_pos hlt]
    have e1 : (cs.toList.take (off + j) ++ v :: cs.toList.drop (off + j + 1)).take (off + (j + 1)) = cs.toList.take (off + j) ++ [v] := by
      rw [List.take_append, List.take_of_length_le (by omega), hl, show off + (j + 1) - (off + j) = 1 by omega]
      rfl
    have e2 : (cs.toList.take (off + j) ++ v :: cs.toList.drop (off + j + 1)).drop (off + (j + 1) + vs.length) = cs.toList.drop (off + j + (vs.length + 1)) := by
      rw [List.drop_append, List.drop_of_length_le (by omega), hl, show off + (j + 1) + vs.length - (off + j) = vs.length + 1 by omega, List.nil_append, List.drop_succ_cons, List.drop_drop]
      congr 1
      omega
    rw [e1, e2]
    simp

section
variable {B : Nat} {m : Map} {M : Mem} {w : World}

/-- Numbers and values, both. -/
def partsRel (m : Map) : List (Nat × SV) → List (Nat × Value) → Prop := All2 fun a b => a.1 = b.1 ∧ conc m a.2 = some b.2

theorem fillS_fill {place : Nat → Option (Nat × Nat)} : ∀ {ps : List (Nat × SV)} {qs : List (Nat × Value)} {cells r : List SV} {vs : List Value}, partsRel m ps qs → fillS place cells ps = some r → concs m cells = some vs →
    ∃ us, Instr.fill place vs.toArray qs = some us.toArray ∧ concs m r = some us
  | [], _, cells, r, vs, .nil, h, hc => by
    simp only [fillS, Option.some.injEq] at h
    subst h
    exact ⟨vs, by simp [Instr.fill], hc⟩
  | (i, s) :: ps, (i', v) :: qs, cells, r, vs, .cons ⟨hi, hv⟩ hrest, h, hc => by
    simp only at hi hv
    subst hi
    simp only [fillS] at h
    split at h
    · simp at h
    · rename_i off size hp
      split at h
      · rename_i h1 h2
        have e1 : (cellsOf s).length = size := by rw [← len_eq]; exact Nat.eq_of_beq_eq_true h1
        have e2 : off + size ≤ cells.length := by rw [← len_eq]; exact Nat.le_of_ble_eq_true h2
        have hcs := cellsOf_conc hv
        have hl1 := concs_length hcs
        have hl2 := concs_length hc
        rw [app_eq, app_eq, tk_eq, dp_eq] at h
        have hn := concs_append (concs_take off hc) (concs_append hcs (concs_drop (off + size) hc))
        obtain ⟨us, hf, hu⟩ := fillS_fill (place := place) hrest h hn
        refine ⟨us, ?_, hu⟩
        have hsz : v.cells.size = size := by rw [← e1, ← hl1]; simp
        have hss := set_step vs.toArray off v.cells.toList 0 (by simp; omega)
        simp only [Nat.add_zero, Array.length_toList, hsz] at hss
        simp only [Instr.fill, hp, hsz, ne_eq, not_true, decide_false, Bool.false_or, List.size_toArray, gt_iff_lt, decide_eq_true_eq, show ¬ (vs.length < off + size) by omega, if_false]
        rw [← hf]
        congr 1
        rw [← hss, ← Array.foldl_toList]
        simp
      · simp at h

noncomputable def partArgs (M : Mem) (σ : Tree SV) : List (Nat × Operand) → Option (List (Nat × SV))
  | [] => some []
  | (i, x) :: l => match arg M σ x with
    | none => none
    | some s => match partArgs M σ l with
      | none => none
      | some r => some ((i, s) :: r)

theorem partArgs_rel {σ : Tree SV} {tm : Array Value} (hr : MRel B m M w) (ht : TRel m σ tm) : ∀ {l : List (Nat × Operand)} {r : List (Nat × SV)}, partArgs M σ l = some r → partsRel m r (l.map fun (i, x) => (i, den tm x))
  | [], r, h => by simp only [partArgs, Option.some.injEq] at h; subst h; exact .nil
  | (i, x) :: l, r, h => by
    simp only [partArgs] at h
    split at h
    · simp at h
    · rename_i s hs
      split at h
      · simp at h
      · rename_i k hk
        simp only [Option.some.injEq] at h
        subst h
        exact .cons ⟨rfl, arg_den hr ht hs⟩ (partArgs_rel hr ht hk)

/-- Where the parts of a struct or an array lie. -/
inductive Places where
  | st (l : List (Nat × Nat))
  | ar (size : Nat)
noncomputable def placesL (P : Program) : List Field → Option (List (Nat × Nat))
  | [] => some []
  | f :: l => match szOf P f.type with
    | none => none
    | some n => match placesL P l with
      | none => none
      | some r => some ((f.offset, n) :: r)
noncomputable def placesOf (P : Program) (t : TypeId) : Option Places :=
  (P.underlying t).bind fun d => match d with
    | .struct fs => (placesL P fs.toList).map .st
    | .array _ e => (szOf P e).map .ar
    | _ => none
noncomputable def placeAt (l : List (Nat × Nat)) : Nat → Option (Nat × Nat) :=
  List.rec (fun _ => none) (fun a _ ih i => Nat.rec (some a) (fun j _ => ih j) i) l
theorem placeAt_eq : ∀ (l : List (Nat × Nat)) (i : Nat), placeAt l i = l[i]?
  | [], _ => by simp [placeAt]
  | a :: l, 0 => rfl
  | a :: l, i + 1 => by
    show placeAt l i = _
    rw [placeAt_eq l i]; simp

theorem placesL_run (w : World) : ∀ {fs : List Field} {r : List (Nat × Nat)}, placesL P fs = some r → (fs.mapM fun f => (do pure (f.offset, ← sizeOf f.type) : Sem (Nat × Nat))).run P w = .ok r w
  | [], r, h => by simp only [placesL, Option.some.injEq] at h; subst h; rfl
  | f :: fs, r, h => by
    simp only [placesL] at h
    split at h
    · simp at h
    · rename_i n hn
      split at h
      · simp at h
      · rename_i k hk
        simp only [Option.some.injEq] at h
        subst h
        have ih := placesL_run w hk
        simp only [List.mapM_cons, Sem.run_bind, szOf_run hn, Result.andThen_ok, Sem.run_pure, ih]

noncomputable def xBuild (P : Program) (t : TypeId) (ps : List (Nat × SV)) (M : Mem) : Out :=
  match zerosOf P t with
  | none => .bad
  | some z => match placesOf P t with
    | some (.st l) => match fillS (placeAt l) z ps with
      | some r => .val (.agg r) M
      | none => .bad
    | some (.ar n) => match fillS (fun i => some (Nat.mul i n, n)) z ps with
      | some r => .val (.agg r) M
      | none => .bad
    | none => .bad

theorem xBuild_does (hr : MRel B m M w) {t : TypeId} {ps : List (Nat × SV)} {qs : Array (Nat × Value)} (hp : partsRel m ps qs.toList) :
    Does P B m M w (do Pure.pure (Next.value (← Instr.build t qs))) (xBuild P t ps M) := by
  unfold xBuild
  split
  next => trivial
  next z hz =>
    obtain ⟨zv, hzr, hzc⟩ := zerosOf_run (m := m) hz w
    split
    next l hl =>
      split
      next r hf =>
        simp only [placesOf, Option.bind_eq_some_iff] at hl
        obtain ⟨d, hd, hl⟩ := hl
        split at hl
        · rename_i fs
          simp only [Option.map_eq_some_iff, Places.st.injEq] at hl
          obtain ⟨l', hl', rfl⟩ := hl
          obtain ⟨us, hfill, hu⟩ := fillS_fill hp hf hzc
          have hm := placesL_run (P := P) w hl'
          have hpl : (fun i => (l'.toArray)[i]?) = placeAt l' := by funext i; rw [placeAt_eq]; simp
          have hmA : (fs.mapM fun f => (do pure (f.offset, ← sizeOf f.type) : Sem (Nat × Nat))).run P w = .ok l'.toArray w := by
            rw [← Array.toArray_toList (xs := fs)]
            rw [List.mapM_toArray]
            simp only [map_eq_pure_bind, Sem.run_bind, hm, Result.andThen_ok, Sem.run_pure]
          refine Does.pure hr (v := .agg us.toArray) ?_ (by simp [conc, hu])
          simp only [Instr.build, Sem.run_bind, hzr, Result.andThen_ok, run_underlying hd, hmA, hpl]
          simp only [Array.toArray_toList] at hfill
          rw [hfill]
          rfl
        · simp at hl
        · simp at hl
      next => trivial
    next n hn =>
      split
      next r hf =>
        simp only [placesOf, Option.bind_eq_some_iff] at hn
        obtain ⟨d, hd, hn⟩ := hn
        split at hn
        · simp at hn
        · rename_i k e
          simp only [Option.map_eq_some_iff, Places.ar.injEq] at hn
          obtain ⟨n', hn', rfl⟩ := hn
          obtain ⟨us, hfill, hu⟩ := fillS_fill hp hf hzc
          refine Does.pure hr (v := .agg us.toArray) ?_ (by simp [conc, hu])
          simp only [Instr.build, Sem.run_bind, hzr, Result.andThen_ok, run_underlying hd, szOf_run hn']
          simp only [Array.toArray_toList, Nat.mul_eq] at hfill
          rw [hfill]
          rfl
        · simp at hn
      next => trivial
    next => trivial

end
end Go.Ev
