/- append, copy, len. -/
import Derived.Test.YtpebjkgogohhpaaGreatDoorEvV10
namespace Go.Ev
open Go.RowKit
variable {P : Program}

section
variable {B : Nat} {m : Map} {M : Mem} {w : World}

/-- What is in a slice or a string, as cells; how many elements. -/
noncomputable def bytesS (l : List UInt8) : List SV := List.rec [] (fun a _ ih => .int .u8 (Int.ofNat a.toNat) :: ih) l
theorem bytesS_conc (m : Map) : ∀ l : List UInt8, concs m (bytesS l) = some (l.map fun b => Value.int .u8 b.toNat)
  | [] => rfl
  | a :: l => by
    show concs m (.int .u8 (Int.ofNat a.toNat) :: bytesS l) = _
    exact concs_cons rfl (bytesS_conc m l)

/-- The first n elements. -/
noncomputable def firstS (M : Mem) (z : Nat) (n : Nat) (x : SV) : Option (List SV) :=
  match x with
  | .nils => some []
  | .str s => some (bytesS (tkB n s))
  | .slice b off _ _ => match rowOf M b with
    | some cells => match Nat.ble (Nat.add off (Nat.mul n z)) (len cells) with
      | true => some (tk (Nat.mul n z) (dp off cells))
      | false => none
    | none => none
  | .ope b off _ _ => match rowOf M b with
    | some cells => match Nat.ble (Nat.add off (Nat.mul n z)) (len cells) with
      | true => some (tk (Nat.mul n z) (dp off cells))
      | false => none
    | none => none
  | _ => none

noncomputable def lenS (x : SV) : Option Nat :=
  match x with
  | .nils => some 0
  | .str s => some (lenB s)
  | .slice _ _ n _ => some n
  | .ope _ _ n _ => some n
  | _ => none

theorem lenS_run {x : SV} {v : Value} {n : Nat} (h : lenS x = some n) (hv : conc m x = some v) (w : World) : (Builtin.lenOf v).run P w = .ok n w := by
  unfold lenS at h
  split at h
  · have hv' : v = .slice none 0 0 := by simp [conc] at hv; exact hv.symm
    simp only [Option.some.injEq] at h
    subst hv' h; rfl
  · obtain rfl := conc_str hv
    simp only [Option.some.injEq] at h
    subst h
    rw [lenB_eq]; rfl
  · obtain ⟨p, _, rfl⟩ := conc_slice hv
    simp only [Option.some.injEq] at h
    subst h; rfl
  · obtain ⟨p, _, _, _, rfl⟩ := conc_ope hv
    simp only [Option.some.injEq] at h
    subst h; rfl
  · simp at h

theorem firstS_run (hr : MRel B m M w) {x : SV} {v : Value} {z n : Nat} {l : List SV} (h : firstS M z n x = some l) (hv : conc m x = some v) :
    ∃ vs, concs m l = some vs ∧ ∀ w', w'.heap = w.heap → (Builtin.firstCells z n v).run P w' = .ok vs.toArray w' := by
  have row : ∀ {b off cells} {p : Pl} {k c : Nat}, rowOf M b = some cells → Nat.ble (Nat.add off (Nat.mul n z)) (len cells) = true → m b = some p →
      ∃ vs, concs m (tk (Nat.mul n z) (dp off cells)) = some vs ∧ ∀ w', w'.heap = w.heap → (Builtin.firstCells z n (.slice (some ⟨p.block, off + p.shift, none⟩) k c)).run P w' = .ok vs.toArray w' := by
    intro b off cells p k c hc hb hp
    have hb' := Nat.le_of_ble_eq_true hb
    rw [len_eq] at hb'
    simp only [Nat.add_eq, Nat.mul_eq] at hb'
    rw [tk_eq, dp_eq]
    obtain ⟨vs, hvs, hl, hcell, _⟩ := run_cells (P := P) hr hc hp hb'
    refine ⟨vs, hvs, fun w' hw' => ?_⟩
    obtain ⟨vs', hvs', _, _, hrun⟩ := run_cells (P := P) (hr.drew hw') hc hp hb'
    rw [hvs] at hvs'
    cases hvs'
    simpa [Builtin.firstCells] using hrun
  unfold firstS at h
  split at h
  · have hv' : v = .slice none 0 0 := by simp [conc] at hv; exact hv.symm
    simp only [Option.some.injEq] at h
    subst hv' h
    exact ⟨[], concs_nil m, fun w' _ => by simp [Builtin.firstCells]⟩
  · rename_i s
    obtain rfl := conc_str hv
    simp only [Option.some.injEq] at h
    subst h
    refine ⟨_, bytesS_conc m _, fun w' _ => ?_⟩
    simp only [Builtin.firstCells, str_extract, tkB_eq]
    simp
  · rename_i b off n' c
    obtain ⟨p, hp, rfl⟩ := conc_slice hv
    split at h
    · rename_i cells hc
      split at h
      · rename_i hb
        simp only [Option.some.injEq] at h
        subst h
        exact row hc hb hp
      · simp at h
    · simp at h
  · rename_i b off n' c
    obtain ⟨p, hp, _, _, rfl⟩ := conc_ope hv
    split at h
    · rename_i cells hc
      split at h
      · rename_i hb
        simp only [Option.some.injEq] at h
        subst h
        exact row hc hb hp
      · simp at h
    · simp at h
  · simp at h

/-- Both arguments' types: a slice of what, and nothing that is a number. -/
noncomputable def appT (P : Program) (t u : TypeId) : Option Elt :=
  match sliceElt P t, P.underlying u with
  | some x, some (.slice _) => some x
  | some x, some .string => some x
  | _, _ => none

theorem appT_run {t u : TypeId} {x : Elt} (h : appT P t u = some x) : ∃ e, P.underlying t = some (.slice e) ∧ eltOf P e = some x ∧ ((∃ e', P.underlying u = some (.slice e')) ∨ P.underlying u = some .string) := by
  unfold appT at h
  split at h
  · rename_i y d hy hd
    simp only [Option.some.injEq] at h
    subst h
    obtain ⟨e, h1, h2⟩ := sliceElt_run hy
    exact ⟨e, h1, h2, .inl ⟨_, hd⟩⟩
  · rename_i y hy hd
    simp only [Option.some.injEq] at h
    subst h
    obtain ⟨e, h1, h2⟩ := sliceElt_run hy
    exact ⟨e, h1, h2, .inr hd⟩
  · simp at h

/-- A row is lost, and a new one takes its place. -/
noncomputable def dropRow (M : Mem) (b : Pos) : Mem := Mem.rec (fun t n f => ⟨t.put none b, n, f⟩) M

noncomputable def grow (kk : RK) (M : Mem) (x : Elt) (need : Nat) (cells : List SV) : Out :=
  match Nat.ble need 1073741824, Nat.ble (Nat.mul (Nat.mul 2 need) x.bytes) 281474976710656, Nat.ble 1 x.size with
  | true, true, true => .val (.ope (nextOf M) 0 need x.size) (newRowS x.ty kk M cells)
  | _, _, _ => .bad

/-- The number of elements of what is added. -/
noncomputable def lenZ (x : Elt) (y : SV) : Option Nat :=
  match y with
  | .str s => match Nat.beq x.size 1 with
    | true => some (lenB s)
    | false => none
  | y => lenS y

noncomputable def xAppend (P : Program) (t u : TypeId) (s y : SV) (M : Mem) : Out :=
  match appT P t u with
  | none => .bad
  | some x => match lenZ x y with
  | none => .bad
  | some n => match firstS M x.size n y with
    | none => .bad
    | some new => match s with
      | .nils => match n with
        | 0 => .val .nils M
        | _ => grow (.head 0) M x n new
      | .slice b off k c => match Nat.ble (Nat.add k n) c with
        | true => match new with
          | [] => .val (.slice b off (Nat.add k n) c) M
          | _ => match putCells M b (Nat.add off (Nat.mul k x.size)) new with
            | some M' => .val (.slice b off (Nat.add k n) c) M'
            | none => .bad
        | false => match firstS M x.size k s with
          | some old => grow (.head 0) M x (Nat.add k n) (app old new)
          | none => .bad
      | .ope b off k z => match Nat.beq z x.size, ownK M b, firstS M x.size k s with
        | true, some (e, kk), some old => match n with
          | 0 => .val s M
          | _ => match ones new, Nat.beq e x.ty, frzOK kk (Nat.add off (Nat.mul k x.size)) with
            | true, true, true => grow (shiftK kk off) (dropRow M b) x (Nat.add k n) (app old new)
            | _, _, _ => .bad
        | _, _, _ => .bad
      | _ => .bad

theorem nextcap_le {need old : Nat} (h : old < need) : Builtin.nextslicecap need old ≤ 2 * need := by
  unfold Builtin.nextslicecap
  split
  · omega
  · split
    · omega
    · have key : ∀ r c, c < need → 256 ≤ c → need ≤ 2 * old → old ≤ c → Builtin.growBy need r c ≤ 2 * need := by
        intro r
        induction r with
        | zero => intro c h1 h2 h3 h4; simp [Builtin.growBy]; omega
        | succ r ih =>
          intro c h1 h2 h3 h4
          simp only [Builtin.growBy]
          rw [if_neg (by omega)]
          by_cases h5 : c + (c + 768) / 4 < need
          · exact ih _ h5 (by omega) h3 (by omega)
          · have : ∀ q d, need ≤ d → Builtin.growBy need q d = d := by
              intro q
              cases q with
              | zero => intro d _; rfl
              | succ q => intro d hd; simp [Builtin.growBy, hd]
            rw [this r _ (by omega)]
            omega
      exact key 4 old h (by omega) (by omega) (Nat.le_refl _)

theorem zeroCells_len (z : Array Value) (n : Nat) : (Builtin.zeroCells z n).size = n * z.size := by simp [Builtin.zeroCells]

/-- append, where there is no room. -/
theorem run_grow {t u ty e : TypeId} {i : TypeInfo} {z : Value} (ht : P.underlying t = some (.slice e)) (hu : (∃ e', P.underlying u = some (.slice e')) ∨ P.underlying u = some .string) (hi : P.info? e = some i) (hz : ∀ w, (zeroValue e).run P w = .ok z w)
    {base : Option Addr} {k c n : Nat} {y : Value} {olds news : List Value} (hlen : (Builtin.lenOf y).run P w = .ok n w)
    (hold : ∀ w', w'.heap = w.heap → (Builtin.firstCells i.size k (.slice base k c)).run P w' = .ok olds.toArray w') (hnew : ∀ w', w'.heap = w.heap → (Builtin.firstCells i.size n y).run P w' = .ok news.toArray w')
    (hg : c < k + n) (h1 : k + n ≤ 1073741824) (h2 : 2 * (k + n) * i.bytes ≤ 281474976710656) :
    ∃ cap w', k + n ≤ cap ∧ (Builtin.append_ #[t, u] ty #[.slice base k c, y]).run P w = .ok (.slice (some ⟨w.heap.size, 0, none⟩) (k + n) cap) w' ∧
      w'.heap = w.heap.push (.cells (olds ++ news ++ (Builtin.zeroCells z.cells (cap - (k + n))).toList).toArray e (0, 0)) ∧ w'.os = w.os ∧ w'.tape = w.tape ∧ w'.output = w.output := by
  have hn : ¬ (k + n ≤ c) := by omega
  have h63 : ¬ (((k + n : Nat) : Int) > IntKind.i64.max) := by
    have : IntKind.i64.max = 9223372036854775807 := by simp [IntKind.max, IntKind.signed, IntKind.bits]
    rw [this]; omega
  have h48 : ¬ (Builtin.nextslicecap (k + n) c * i.bytes > 2 ^ 48) := by
    have := Nat.mul_le_mul_right i.bytes (nextcap_le hg)
    omega
  let w1 : World := { w with drawn := w.drawn + 1 }
  have hz' := hz w1
  refine ⟨grownCap w (k + n) c e, w1.alloc (.cells (olds ++ news ++ (Builtin.zeroCells z.cells (grownCap w (k + n) c e - (k + n))).toList).toArray e (0, 0)), grownCap_ge w (k + n) c e, ?_, rfl, rfl, rfl, rfl⟩
  have hch : (choose (.appendCap (k + n) c e)).run P w = .ok (grownCap w (k + n) c e) w1 := by
    simp [choose, Sem.run, Question.forced, grownCap, w1]
  have e1 : (sizeOf e).run P w = .ok i.size w := run_size hi w
  have e2 : (typeInfo e).run P w = .ok i w := run_info hi w
  have e2' : (typeInfo e).run P w1 = .ok i w1 := run_info hi w1
  have hnr := newRowS_run (P := P) e (olds.toArray ++ news.toArray ++ Builtin.zeroCells z.cells (grownCap w (k + n) c e - (k + n))) w1
  have hc : (olds ++ news ++ (Builtin.zeroCells z.cells (grownCap w (k + n) c e - (k + n))).toList).toArray = olds.toArray ++ news.toArray ++ Builtin.zeroCells z.cells (grownCap w (k + n) c e - (k + n)) := by simp
  rw [hc]
  rcases hu with ⟨e', hu⟩ | hu
  all_goals
    simp only [Builtin.append_, List.getElem?_toArray, List.getElem?_cons_zero, List.getElem?_cons_succ, Sem.run_bind, run_underlying ht, run_underlying hu, Result.andThen_ok, e1, hlen, Bool.false_eq_true, if_false, hn, h63, h48, e2, false_and, Sem.run_pure, hch, e2', run_askRoom', hold w1 rfl, hnew w1 rfl, hz', hnr, Bool.not_false, if_true]
    rfl

end
end Go.Ev
