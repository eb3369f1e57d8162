/- Slices of slices and strings; append; copy; len. -/
import Derived.Test.YtpebjkgogohhpaaGreatDoorEvV9
namespace Go.Ev
open Go.RowKit
variable {P : Program}

noncomputable def tkB (n : Nat) : List UInt8 → List UInt8 :=
  Nat.rec (fun _ => []) (fun _ ih l => List.rec [] (fun a r _ => a :: ih r) l) n
noncomputable def dpB (n : Nat) : List UInt8 → List UInt8 :=
  Nat.rec (fun l => l) (fun _ ih l => List.rec [] (fun _ r _ => ih r) l) n
noncomputable def lenB (l : List UInt8) : Nat := List.rec 0 (fun _ _ ih => Nat.succ ih) l
theorem tkB_eq : ∀ (n : Nat) (l : List UInt8), tkB n l = l.take n
  | 0, l => by show ([] : List UInt8) = _; simp
  | n + 1, [] => by simp [tkB]
  | n + 1, a :: l => by show a :: tkB n l = _; rw [tkB_eq n l]; simp
theorem dpB_eq : ∀ (n : Nat) (l : List UInt8), dpB n l = l.drop n
  | 0, l => by show l = _; simp
  | n + 1, [] => by simp [dpB]
  | n + 1, a :: l => by show dpB n l = _; rw [dpB_eq n l]; simp
theorem lenB_eq : ∀ l : List UInt8, lenB l = l.length
  | [] => rfl
  | a :: l => by show Nat.succ (lenB l) = _; rw [lenB_eq l]; rfl

section
variable {B : Nat} {m : Map} {M : Mem} {w : World}

inductive SlK where
  | str
  | sl (size : Nat)
  | arr (n size : Nat)
  | parr (n size : Nat)
noncomputable def slK (P : Program) (t : TypeId) : Option SlK :=
  (P.underlying t).bind fun d => match d with
    | .string => some .str
    | .slice e => (szOf P e).map .sl
    | .array n e => (szOf P e).map (.arr n ·)
    | .pointer a => (P.underlying a).bind fun d => match d with
      | .array n e => (szOf P e).map (.parr n ·)
      | _ => none
    | _ => none

/-- Low, high and max of a slice expression, as far as they are known. -/
noncomputable def bnds (lo hi mx : Option SV) (n top : Nat) : Option (Nat × Nat × Nat) :=
  match boundS mx top top with
  | none => none
  | some k => match boundS hi n k with
    | none => none
    | some h => match boundS lo 0 h with
      | none => none
      | some l => match Nat.ble l h, mx, hi with
        | true, some _, some _ => some (l, h, k)
        | true, none, _ => some (l, h, k)
        | _, _, _ => none

def OptRel (m : Map) (x : Option SV) (v : Option Value) : Prop := match x, v with
  | none, none => True
  | some s, some u => conc m s = some u
  | _, _ => False

theorem bnd_one {x : Option SV} {v : Option Value} {d top j : Nat} (h : boundS x d top = some j) (hx : OptRel m x v) :
    (x = none ∧ v = none ∧ j = d) ∨ ∃ s k, x = some s ∧ v = some (.int k (j : Int)) ∧ j ≤ top := by
  cases x with
  | none =>
    cases v with
    | none => simp only [boundS, Option.some.injEq] at h; exact .inl ⟨rfl, rfl, h.symm⟩
    | some u => exact hx.elim
  | some s =>
    cases v with
    | none => exact hx.elim
    | some u =>
      have hc : conc m s = some u := hx
      simp only [boundS] at h
      split at h
      · rename_i heq; simp at heq
      · rename_i k i heq
        simp only [Option.some.injEq] at heq
        subst heq
        obtain rfl := conc_int hc
        split at h
        · rename_i j' hj
          obtain rfl := intNat_eq hj
          split at h
          · rename_i hb
            simp only [Option.some.injEq] at h
            subst h
            exact .inr ⟨_, k, rfl, rfl, Nat.le_of_ble_eq_true hb⟩
          · simp at h
        · simp at h
      · simp at h

theorem run_bound (k : IntKind) {j top : Nat} (h : j ≤ top) (code : BoundsCode) (w : World) : (Instr.sliceBound (.int k (j : Int)) top code).run P w = .ok j w := by
  simp [Instr.sliceBound, asIntOf, Sem.run_bind, h]

/-- 'top' is at most what the model takes for the capacity; without max, the third number is the capacity itself. -/
theorem bnds_run {lo hi mx : Option SV} {lo' hi' mx' : Option Value} {n top cap l h k : Nat} (isS : Bool) (hb : bnds lo hi mx n top = some (l, h, k)) (h1 : OptRel m lo lo') (h2 : OptRel m hi hi') (h3 : OptRel m mx mx') (hn : n ≤ top) (hcap : top ≤ cap) (w : World) :
    ∃ k', (Instr.sliceBounds isS n cap lo' hi' mx').run P w = .ok (l, h, k') w ∧ l ≤ h ∧ h ≤ k' ∧ (mx.isSome → k' = k ∧ k ≤ top) ∧ (mx = none → k' = cap ∧ k = top ∧ h ≤ top) := by
  unfold bnds at hb
  split at hb
  · simp at hb
  · rename_i k0 hk0
    split at hb
    · simp at hb
    · rename_i h0 hh0
      split at hb
      · simp at hb
      · rename_i l0 hl0
        have r1 := bnd_one hk0 h3
        have r2 := bnd_one hh0 h2
        have r3 := bnd_one hl0 h1
        split at hb
        · rename_i hle hmx hhi
          simp only [Option.some.injEq, Prod.mk.injEq] at hb
          obtain ⟨rfl, rfl, rfl⟩ := hb
          rcases r1 with ⟨e, _, _⟩ | ⟨s1, c1, e1, rfl, b1⟩
          · simp at e
          rcases r2 with ⟨e, _, _⟩ | ⟨s2, c2, e2, rfl, b2⟩
          · simp at e
          rcases r3 with ⟨_, rfl, rfl⟩ | ⟨s3, c3, e3, rfl, b3⟩
          · refine ⟨k0, ?_, by omega, b2, by simp [b1], by simp⟩
            simp [Instr.sliceBounds, Sem.run_bind, run_bound _ (show k0 ≤ cap by omega), run_bound _ b2]
          · refine ⟨k0, ?_, b3, b2, by simp [b1], by simp⟩
            simp [Instr.sliceBounds, Sem.run_bind, run_bound _ (show k0 ≤ cap by omega), run_bound _ b2, run_bound _ b3]
        · rename_i hle
          simp only [Option.some.injEq, Prod.mk.injEq] at hb
          obtain ⟨rfl, rfl, rfl⟩ := hb
          have r1' : mx' = none ∧ k0 = top := by
            rcases r1 with ⟨_, e1, e2⟩ | ⟨s1, c1, e1, _, _⟩
            · exact ⟨e1, e2⟩
            · simp at e1
          obtain ⟨rfl, rfl⟩ := r1'
          have hh : h0 ≤ k0 := by rcases r2 with ⟨_, _, e⟩ | ⟨_, _, _, _, b⟩ <;> omega
          have hll := Nat.le_of_ble_eq_true hle
          refine ⟨cap, ?_, hll, by omega, by simp, fun _ => ⟨rfl, rfl, hh⟩⟩
          rcases r2 with ⟨_, rfl, rfl⟩ | ⟨s2, c2, e2, rfl, b2⟩ <;> rcases r3 with ⟨_, rfl, rfl⟩ | ⟨s3, c3, e3, rfl, b3⟩ <;> cases isS <;>
            first
              | (simp [Instr.sliceBounds, Sem.run_bind, run_bound _ (show h0 ≤ cap by omega), run_bound _ b3]; done)
              | (simp [Instr.sliceBounds, Sem.run_bind, run_bound _ b3]; done)
              | (simp [Instr.sliceBounds, Sem.run_bind, run_bound _ (show h0 ≤ cap by omega)]; done)
              | (simp [Instr.sliceBounds, Sem.run_bind]; done)
        · simp at hb

noncomputable def cutAt (b : Pos) (off l h k z : Nat) : SV := .slice b (Bool.rec (Nat.add off (Nat.mul l z)) off (Nat.beq k l)) (Nat.sub h l) (Nat.sub k l)

noncomputable def xSlice (P : Program) (t : TypeId) (a : SV) (lo hi mx : Option SV) (M : Mem) : Out :=
  match a with
  | .str s => match slK P t, mx with
    | some .str, none => match bnds lo hi none (lenB s) (lenB s) with
      | some (l, h, _) => .val (.str (tkB (Nat.sub h l) (dpB l s))) M
      | none => .bad
    | _, _ => .bad
  | .nils => match slK P t with
    | some (.sl _) => match bnds lo hi mx 0 0 with
      | some _ => .val .nils M
      | none => .bad
    | _ => .bad
  | .slice b off n c => match slK P t with
    | some (.sl z) => match Nat.ble n c, bnds lo hi mx n c with
      | true, some (l, h, k) => .val (cutAt b off l h k z) M
      | _, _ => .bad
    | _ => .bad
  | .ope b off n z' => match slK P t with
    | some (.sl z) => match Nat.beq z' z, bnds lo hi mx n n with
      | true, some (l, h, k) => match mx with
        | some _ => .val (cutAt b off l h k z) M
        | none => match Nat.ble n l with
          | true => .bad
          | false => .val (.ope b (Nat.add off (Nat.mul l z)) (Nat.sub h l) z) M
      | _, _ => .bad
    | _ => .bad
  | .ptr b off => match slK P t with
    | some (.arr n z) => match bnds lo hi mx n n with
      | some (l, h, k) => .val (cutAt b off l h k z) M
      | none => .bad
    | some (.parr n z) => match bnds lo hi mx n n with
      | some (l, h, k) => .val (cutAt b off l h k z) M
      | none => .bad
    | _ => .bad
  | _ => .bad

theorem third {mx : Option SV} {k k' top cap h : Nat} (h1 : mx.isSome → k' = k ∧ k ≤ top) (h2 : mx = none → k' = cap ∧ k = top ∧ h ≤ top) (hc : cap = top) : k' = k := by
  cases mx with
  | none => have := h2 rfl; omega
  | some x => exact (h1 rfl).1

theorem at_or (bk off s l z k : Nat) : (if k = l then (⟨bk, off + s, none⟩ : Addr) else (⟨bk, off + s, none⟩ : Addr).add (l * z)) = ⟨bk, (Bool.rec (motive := fun _ => Nat) (off + l * z) off (Nat.beq k l)) + s, none⟩ := by
  by_cases h : k = l
  · have hb : Nat.beq k l = true := by subst h; simp
    rw [if_pos h, hb]
  · have hb : Nat.beq k l = false := by
      cases hh : Nat.beq k l with
      | false => rfl
      | true => exact absurd (Nat.eq_of_beq_eq_true hh) h
    rw [if_neg h, hb, addr_eq]

theorem cutAt_conc {b : Pos} {p : Pl} (hp : m b = some p) (off l h k z : Nat) :
    conc m (cutAt b off l h k z) = some (.slice (some (if k = l then (⟨p.block, off + p.shift, none⟩ : Addr) else (⟨p.block, off + p.shift, none⟩ : Addr).add (l * z))) (h - l) (k - l)) := by
  rw [at_or]
  simp [cutAt, conc, hp]

theorem str_extract (s : List UInt8) (l h : Nat) : (⟨s.toArray⟩ : ByteArray).extract l h = ⟨((s.drop l).take (h - l)).toArray⟩ := by
  rw [ByteArray.ext_iff]
  simp [ByteArray.data_extract, List.extract_eq_take_drop]

theorem slK_sl {t : TypeId} {z : Nat} (hz : slK P t = some (.sl z)) : ∃ e, P.underlying t = some (.slice e) ∧ szOf P e = some z := by
  simp only [slK, Option.bind_eq_some_iff] at hz
  obtain ⟨d, hd, hz⟩ := hz
  split at hz
  · simp at hz
  · rename_i e
    simp only [Option.map_eq_some_iff, SlK.sl.injEq] at hz
    obtain ⟨_, h1, rfl⟩ := hz
    exact ⟨e, hd, h1⟩
  · simp at hz
  · simp only [Option.bind_eq_some_iff] at hz
    obtain ⟨d', hd', hz⟩ := hz
    split at hz <;> simp at hz
  · simp at hz

theorem slK_str {t : TypeId} (hz : slK P t = some .str) : P.underlying t = some .string := by
  simp only [slK, Option.bind_eq_some_iff] at hz
  obtain ⟨d, hd, hz⟩ := hz
  split at hz
  · exact hd
  · simp at hz
  · simp at hz
  · simp only [Option.bind_eq_some_iff] at hz
    obtain ⟨d', hd', hz⟩ := hz
    split at hz <;> simp at hz
  · simp at hz

theorem slK_arr {t : TypeId} {n z : Nat} (hz : slK P t = some (.arr n z)) : ∃ e, P.underlying t = some (.array n e) ∧ szOf P e = some z := by
  simp only [slK, Option.bind_eq_some_iff] at hz
  obtain ⟨d, hd, hz⟩ := hz
  split at hz
  · simp at hz
  · simp at hz
  · rename_i n' e
    simp only [Option.map_eq_some_iff, SlK.arr.injEq] at hz
    obtain ⟨_, h1, rfl, rfl⟩ := hz
    exact ⟨e, hd, h1⟩
  · simp only [Option.bind_eq_some_iff] at hz
    obtain ⟨d', hd', hz⟩ := hz
    split at hz <;> simp at hz
  · simp at hz

theorem slK_parr {t : TypeId} {n z : Nat} (hz : slK P t = some (.parr n z)) : ∃ a e, P.underlying t = some (.pointer a) ∧ P.underlying a = some (.array n e) ∧ szOf P e = some z := by
  simp only [slK, Option.bind_eq_some_iff] at hz
  obtain ⟨d, hd, hz⟩ := hz
  split at hz
  · simp at hz
  · simp at hz
  · simp at hz
  · simp only [Option.bind_eq_some_iff] at hz
    obtain ⟨d', hd', hz⟩ := hz
    split at hz
    · rename_i n' e
      simp only [Option.map_eq_some_iff, SlK.parr.injEq] at hz
      obtain ⟨_, h1, rfl, rfl⟩ := hz
      exact ⟨_, e, hd, hd', h1⟩
    · simp at hz
  · simp at hz

theorem xSlice_does (hr : MRel B m M w) {t : TypeId} {a : SV} {lo hi mx : Option SV} {v : Value} {lo' hi' mx' : Option Value} (ha : conc m a = some v) (h1 : OptRel m lo lo') (h2 : OptRel m hi hi') (h3 : OptRel m mx mx') :
    Does P B m M w (do Pure.pure (Next.value (← Instr.sliceAt t v lo' hi' mx'))) (xSlice P t a lo hi mx M) := by
  unfold xSlice
  split
  next s =>
    obtain rfl := conc_str ha
    split
    next hk =>
      have h3' : mx' = none := by cases mx' with | none => rfl | some _ => exact h3.elim
      subst h3'
      split
      next l h k hb =>
        have hd := slK_str hk
        have hs : (⟨s.toArray⟩ : ByteArray).size = lenB s := by rw [lenB_eq]; simp [ByteArray.size]
        obtain ⟨k', hrun, hle, hk', _, _⟩ := bnds_run (P := P) (m := m) (mx' := none) false hb h1 h2 trivial (Nat.le_refl _) (Nat.le_refl _) w
        refine Does.pure hr (v := .string ((⟨s.toArray⟩ : ByteArray).extract l h)) ?_ ?_
        · simp [Instr.sliceAt, Instr.slice, Sem.run_bind, run_underlying hd, hs, hrun]
        · rw [str_extract, tkB_eq, dpB_eq]; rfl
      next => trivial
    next => trivial
  next =>
    have hv : v = .slice none 0 0 := by simp [conc] at ha; exact ha.symm
    subst hv
    split
    next z hk =>
      split
      next x hb =>
        obtain ⟨l, h, k⟩ := x
        obtain ⟨e, hd, hz⟩ := slK_sl hk
        obtain ⟨k', hrun, hle, hk', g1, g2⟩ := bnds_run (P := P) true hb h1 h2 h3 (Nat.le_refl _) (Nat.le_refl _) w
        have hk0 : k' = 0 := by cases mx with | none => exact (g2 rfl).1 | some _ => have := g1 rfl; omega
        subst hk0
        obtain rfl : h = 0 := by omega
        obtain rfl : l = 0 := by omega
        refine Does.pure hr (v := .slice none 0 0) ?_ rfl
        simp [Instr.sliceAt, Instr.slice, Sem.run_bind, run_underlying hd, hrun, szOf_run hz]
      next => trivial
    next => trivial
  next b off n c =>
    obtain ⟨p, hp, rfl⟩ := conc_slice ha
    split
    next z hk =>
      split
      next l h k hn hb =>
        have hn' := Nat.le_of_ble_eq_true hn
        obtain ⟨e, hd, hz⟩ := slK_sl hk
        obtain ⟨k', hrun, hle, hk', g1, g2⟩ := bnds_run (P := P) true hb h1 h2 h3 hn' (Nat.le_refl _) w
        obtain rfl := third g1 g2 rfl
        refine Does.pure hr ?_ (cutAt_conc hp off l h k' z)
        simp [Instr.sliceAt, Instr.slice, Sem.run_bind, run_underlying hd, hrun, szOf_run hz]
        split <;> rfl
      next => trivial
    next => trivial
  next b off n z' =>
    obtain ⟨p, hp, hz0, hfit, rfl⟩ := conc_ope ha
    split
    next z hk =>
      split
      next l h k hzz hb =>
        obtain rfl := Nat.eq_of_beq_eq_true hzz
        obtain ⟨e, hd, hz⟩ := slK_sl hk
        have hnc : n ≤ (p.size - (off + p.shift)) / z' := by rw [Nat.le_div_iff_mul_le hz0]; omega
        obtain ⟨k', hrun, hle, hk', g1, g2⟩ := bnds_run (P := P) true hb h1 h2 h3 (Nat.le_refl _) hnc w
        split
        next mx0 =>
          obtain rfl := (g1 rfl).1
          refine Does.pure hr ?_ (cutAt_conc hp off l h k' z')
          simp [Instr.sliceAt, Instr.slice, Sem.run_bind, run_underlying hd, hrun, szOf_run hz]
          split <;> rfl
        next =>
          split
          next => trivial
          next hnl =>
            obtain ⟨rfl, rfl, hhn⟩ := g2 rfl
            have hln : l < k := by
              apply Classical.byContradiction
              intro hc
              rw [Nat.ble_eq_true_of_le (by omega : k ≤ l)] at hnl
              simp at hnl
            refine Does.pure hr (v := .slice (some ⟨p.block, off + l * z' + p.shift, none⟩) (h - l) ((p.size - (off + p.shift)) / z' - l)) ?_ ?_
            · have hne : ¬ ((p.size - (off + p.shift)) / z' = l) := by omega
              simp [Instr.sliceAt, Instr.slice, Sem.run_bind, run_underlying hd, hrun, szOf_run hz, hne, addr_eq]
            · have h1 : l * z' ≤ k * z' := Nat.mul_le_mul_right _ (by omega)
              have h2 : (h - l) * z' + l * z' ≤ k * z' := by rw [← Nat.add_mul]; exact Nat.mul_le_mul_right _ (by omega)
              have h3 : (p.size - (off + p.shift)) / z' - l = (p.size - (off + l * z' + p.shift)) / z' := by
                rw [show p.size - (off + l * z' + p.shift) = p.size - (off + p.shift) - l * z' by omega, Nat.mul_comm l z', Nat.sub_mul_div]
              simp only [Nat.add_eq, Nat.mul_eq, conc, hp, Option.bind_some, hz0, true_and]
              rw [if_pos (by show off + l * z' + p.shift + (h - l) * z' ≤ p.size; omega), h3]
              rfl
      next => trivial
    next => trivial
  next b off =>
    obtain ⟨p, hp, rfl⟩ := conc_ptr ha
    split
    next n z hk =>
      split
      next l h k hb =>
        obtain ⟨e, hd, hz⟩ := slK_arr hk
        obtain ⟨k', hrun, hle, hk', g1, g2⟩ := bnds_run (P := P) false hb h1 h2 h3 (Nat.le_refl _) (Nat.le_refl _) w
        obtain rfl := third g1 g2 rfl
        refine Does.pure hr ?_ (cutAt_conc hp off l h k' z)
        simp [Instr.sliceAt, Instr.sureAddr, Sem.run_bind, run_underlying hd, hrun, szOf_run hz]
      next => trivial
    next n z hk =>
      split
      next l h k hb =>
        obtain ⟨a, e, hd0, hd, hz⟩ := slK_parr hk
        obtain ⟨k', hrun, hle, hk', g1, g2⟩ := bnds_run (P := P) false hb h1 h2 h3 (Nat.le_refl _) (Nat.le_refl _) w
        obtain rfl := third g1 g2 rfl
        refine Does.pure hr ?_ (cutAt_conc hp off l h k' z)
        simp [Instr.sliceAt, Instr.slice, asAddr, Sem.run_bind, run_underlying hd0, run_underlying hd, hrun, szOf_run hz]
      next => trivial
    next => trivial
  next => trivial

end
end Go.Ev
