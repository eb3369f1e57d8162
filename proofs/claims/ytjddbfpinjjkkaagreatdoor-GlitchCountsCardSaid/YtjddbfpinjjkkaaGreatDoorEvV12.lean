/- A part of the small machine. -/
import Derived.Test.YtjddbfpinjjkkaaGreatDoorEvV9
set_option linter.unusedVariables false
namespace Go.Ev
open Go.RowKit
variable {P : Program}
noncomputable def tkB (n : Nat) : List UInt8 → List UInt8 :=
 Nat.rec (fun _ => []) (fun _ ih l => List.rec [] (fun a r _ => a :: ih r) l) n
noncomputable def dpB (n : Nat) : List UInt8 → List UInt8 :=
 Nat.rec (fun l => l) (fun _ ih l => List.rec [] (fun _ r _ => ih r) l) n
noncomputable def zno (l : List UInt8) : Nat := List.rec 0 (fun _ _ ih => Nat.succ ih) l
theorem zmj : ∀ (n : Nat) (l : List UInt8), tkB n l = l.take n
 | 0, l => by show ([] : List UInt8) = _; simp
 | n + 1, [] => by simp [tkB]
 | n + 1, a :: l => by show a :: tkB n l = _; rw [zmj n l]; simp
theorem zri : ∀ (n : Nat) (l : List UInt8), dpB n l = l.drop n
 | 0, l => by show l = _; simp
 | n + 1, [] => by simp [dpB]
 | n + 1, a :: l => by show dpB n l = _; rw [zri n l]; simp
theorem zc9 : ∀ l : List UInt8, zno l = l.length
 | [] => rfl
 | a :: l => by show Nat.succ (zno l) = _; rw [zc9 l]; rfl
section
variable {B : Nat} {m : Map} {M : Mem} {w : World}
inductive SlK where
 | str
 | sl (size : Nat)
 | arr (n size : Nat)
 | parr (n size : Nat)
noncomputable def slK (P : Program) (t : TypeId) : Option SlK :=
 (P.underlying t).bind fun d => match d with
  | .string => some .str
  | .slice e => (szOf P e).map .sl
  | .array n e => (szOf P e).map (.arr n ·)
  | .pointer a => (P.underlying a).bind fun d => match d with
   | .array n e => (szOf P e).map (.parr n ·)
   | _ => none
  | _ => none
noncomputable def znn (lo hi mx : Option SV) (n top : Nat) : Option (Nat × Nat × Nat) :=
 match zc3 mx top top with
 | none => none
 | some k => match zc3 hi n k with
  | none => none
  | some h => match zc3 lo 0 h with
   | none => none
   | some l => match Nat.ble l h, mx, hi with
    | true, some _, some _ => some (l, h, k)
    | true, none, _ => some (l, h, k)
    | _, _, _ => none
def zem (m : Map) (x : Option SV) (v : Option Value) : Prop := match x, v with
 | none, none => True
 | some s, some u => conc m s = some u
 | _, _ => False
theorem zkg {x : Option SV} {v : Option Value} {d top j : Nat} (h : zc3 x d top = some j) (hx : zem m x v) :
  (x = none ∧ v = none ∧ j = d) ∨ ∃ s k, x = some s ∧ v = some (.int k (j : Int)) ∧ j ≤ top := by
 cases x with
 | none =>
  cases v with
  | none => simp only [zc3, Option.some.injEq] at h; exact .inl ⟨rfl, rfl, h.symm⟩
  | some u => exact hx.elim
 | some s =>
  cases v with
  | none => exact hx.elim
  | some u =>
   have hc : conc m s = some u := hx
   simp only [zc3] at h
   split at h
   ·rename_i heq; simp at heq
   ·rename_i k i heq
    simp only [Option.some.injEq] at heq
    subst heq
    obtain rfl := conc_int hc
    split at h
    ·rename_i j' hj
     obtain rfl := intNat_eq hj
     split at h
     ·rename_i hb
      simp only [Option.some.injEq] at h
      subst h
      exact .inr ⟨_, k, rfl, rfl, Nat.le_of_ble_eq_true hb⟩
     ·simp at h
    ·simp at h
   ·simp at h
theorem za3 (k : IntKind) {j top : Nat} (h : j ≤ top) (code : BoundsCode) (w : World) : (Instr.sliceBound (.int k (j : Int)) top code).run P w = .ok j w := by
 simp [Instr.sliceBound, asIntOf, h]
theorem zaw {lo hi mx : Option SV} {lo' hi' mx' : Option Value} {n top cap l h k : Nat} (isS : Bool) (hb : znn lo hi mx n top = some (l, h, k)) (h1 : zem m lo lo') (h2 : zem m hi hi') (h3 : zem m mx mx') (hn : n ≤ top) (hcap : top ≤ cap) (w : World) :
  ∃ k', (Instr.sliceBounds isS n cap lo' hi' mx').run P w = .ok (l, h, k') w ∧ l ≤ h ∧ h ≤ k' ∧ (mx.isSome → k' = k ∧ k ≤ top) ∧ (mx = none → k' = cap ∧ k = top ∧ h ≤ top) := by
 unfold znn at hb
 split at hb
 ·simp at hb
 ·rename_i k0 hk0
  split at hb
  ·simp at hb
  ·rename_i h0 hh0
   split at hb
   ·simp at hb
   ·rename_i l0 hl0
    have r1 := zkg hk0 h3
    have r2 := zkg hh0 h2
    have r3 := zkg hl0 h1
    split at hb
    ·rename_i hle hmx hhi
     simp only [Option.some.injEq, Prod.mk.injEq] at hb
     obtain ⟨rfl, rfl, rfl⟩ := hb
     rcases r1 with ⟨e, _, _⟩ | ⟨s1, c1, e1, rfl, b1⟩
     ·simp at e
     rcases r2 with ⟨e, _, _⟩ | ⟨s2, c2, e2, rfl, b2⟩
     ·simp at e
     rcases r3 with ⟨_, rfl, rfl⟩ | ⟨s3, c3, e3, rfl, b3⟩
     ·refine ⟨k0, ?_, by omega, b2, by simp [b1], by simp⟩
      simp [Instr.sliceBounds, Sem.run_bind, za3 _ (show k0 ≤ cap by omega), za3 _ b2]
     ·refine ⟨k0, ?_, b3, b2, by simp [b1], by simp⟩
      simp [Instr.sliceBounds, Sem.run_bind, za3 _ (show k0 ≤ cap by omega), za3 _ b2, za3 _ b3]
    ·rename_i hle
     simp only [Option.some.injEq, Prod.mk.injEq] at hb
     obtain ⟨rfl, rfl, rfl⟩ := hb
     have r1' : mx' = none ∧ k0 = top := by
      rcases r1 with ⟨_, e1, e2⟩ | ⟨s1, c1, e1, _, _⟩
      ·exact ⟨e1, e2⟩
      ·simp at e1
     obtain ⟨rfl, rfl⟩ := r1'
     have hh : h0 ≤ k0 := by rcases r2 with ⟨_, _, e⟩ | ⟨_, _, _, _, b⟩ <;> omega
     have hll := Nat.le_of_ble_eq_true hle
     refine ⟨cap, ?_, hll, by omega, by simp, fun _ => ⟨rfl, rfl, hh⟩⟩
     rcases r2 with ⟨_, rfl, rfl⟩ | ⟨s2, c2, e2, rfl, b2⟩ <;> rcases r3 with ⟨_, rfl, rfl⟩ | ⟨s3, c3, e3, rfl, b3⟩ <;> cases isS <;>
      first
       | (simp [Instr.sliceBounds, Sem.run_bind, za3 _ (show h0 ≤ cap by omega), za3 _ b3]; done)
       | (simp [Instr.sliceBounds, Sem.run_bind, za3 _ b3]; done)
       | (simp [Instr.sliceBounds, za3 _ (show h0 ≤ cap by omega)]; done)
       | (simp [Instr.sliceBounds, Sem.run_bind]; done)
    ·simp at hb
noncomputable def zj8 (b : Pos) (off l h k z : Nat) : SV := .slice b (Bool.rec (Nat.add off (Nat.mul l z)) off (Nat.beq k l)) (Nat.sub h l) (Nat.sub k l)
noncomputable def zal (P : Program) (t : TypeId) (a : SV) (lo hi mx : Option SV) (M : Mem) : Out :=
 match a with
 | .str s => match slK P t, mx with
  | some .str, none => match znn lo hi none (zno s) (zno s) with
   | some (l, h, _) => .val (.str (tkB (Nat.sub h l) (dpB l s))) M
   | none => .bad
  | _, _ => .bad
 | .nils => match slK P t with
  | some (.sl _) => match znn lo hi mx 0 0 with
   | some _ => .val .nils M
   | none => .bad
  | _ => .bad
 | .slice b off n c => match slK P t with
  | some (.sl z) => match Nat.ble n c, znn lo hi mx n c with
   | true, some (l, h, k) => .val (zj8 b off l h k z) M
   | _, _ => .bad
  | _ => .bad
 | .ope b off n z' => match slK P t with
  | some (.sl z) => match Nat.beq z' z, znn lo hi mx n n with
   | true, some (l, h, k) => match mx with
    | some _ => .val (zj8 b off l h k z) M
    | none => match Nat.ble n l with
     | true => .val (.opz b off (Nat.add off (Nat.mul l z)) z) M
     | false => .val (.ope b (Nat.add off (Nat.mul l z)) (Nat.sub h l) z) M
   | _, _ => .bad
  | _ => .bad
 | .opz b o off z' => match slK P t with
  | some (.sl z) => match mx with
   | some _ => .bad
   | none => match Nat.beq z' z, znn lo hi none 0 0 with
    | true, some (_, _, _) => .val (.opz b o off z') M
    | _, _ => .bad
  | _ => .bad
 | .rawz a => match slK P t with
  | some (.sl _) => match mx with
   | some _ => .bad
   | none => match znn lo hi none 0 0 with
    | some (_, _, _) => .val (.rawz a) M
    | _ => .bad
  | _ => .bad
 | .ptr b off => match slK P t with
  | some (.arr n z) => match znn lo hi mx n n with
   | some (l, h, k) => .val (zj8 b off l h k z) M
   | none => .bad
  | some (.parr n z) => match znn lo hi mx n n with
   | some (l, h, k) => .val (zj8 b off l h k z) M
   | none => .bad
  | _ => .bad
 | _ => .bad
theorem zsp {mx : Option SV} {k k' top cap h : Nat} (h1 : mx.isSome → k' = k ∧ k ≤ top) (h2 : mx = none → k' = cap ∧ k = top ∧ h ≤ top) (hc : cap = top) : k' = k := by
 cases mx with
 | none => have := h2 rfl; omega
 | some x => exact (h1 rfl).1
theorem ztp (bk off s l z k : Nat) : (if k = l then (⟨bk, off + s, none⟩ : Addr) else (⟨bk, off + s, none⟩ : Addr).add (l * z)) = ⟨bk, (Bool.rec (motive := fun _ => Nat) (off + l * z) off (Nat.beq k l)) + s, none⟩ := by
 by_cases h : k = l
 ·have hb : Nat.beq k l = true := by subst h; simp
  rw [if_pos h, hb]
 ·have hb : Nat.beq k l = false := by
   cases hh : Nat.beq k l with
   | false => rfl
   | true => exact absurd (Nat.eq_of_beq_eq_true hh) h
  rw [if_neg h, hb, zd7]
theorem zco {b : Pos} {p : Pl} (hp : m b = some p) (off l h k z : Nat) :
  conc m (zj8 b off l h k z) = some (.slice (some (if k = l then (⟨p.block, off + p.shift, none⟩ : Addr) else (⟨p.block, off + p.shift, none⟩ : Addr).add (l * z))) (h - l) (k - l)) := by
 rw [ztp]
 simp [zj8, conc, hp]
theorem zgl (s : List UInt8) (l h : Nat) : (⟨s.toArray⟩ : ByteArray).extract l h = ⟨((s.drop l).take (h - l)).toArray⟩ := by
 rw [ByteArray.ext_iff]
 simp [ByteArray.data_extract, List.extract_eq_take_drop]
theorem zk1 {t : TypeId} {z : Nat} (hz : slK P t = some (.sl z)) : ∃ e, P.underlying t = some (.slice e) ∧ szOf P e = some z := by
 simp only [slK, Option.bind_eq_some_iff] at hz
 obtain ⟨d, hd, hz⟩ := hz
 split at hz
 ·simp at hz
 ·rename_i e
  simp only [Option.map_eq_some_iff, SlK.sl.injEq] at hz
  obtain ⟨_, h1, rfl⟩ := hz
  exact ⟨e, hd, h1⟩
 ·simp at hz
 ·simp only [Option.bind_eq_some_iff] at hz
  obtain ⟨d', hd', hz⟩ := hz
  split at hz <;> simp at hz
 ·simp at hz
theorem zsl {t : TypeId} (hz : slK P t = some .str) : P.underlying t = some .string := by
 simp only [slK, Option.bind_eq_some_iff] at hz
 obtain ⟨d, hd, hz⟩ := hz
 split at hz
 ·exact hd
 ·simp at hz
 ·simp at hz
 ·simp only [Option.bind_eq_some_iff] at hz
  obtain ⟨d', hd', hz⟩ := hz
  split at hz <;> simp at hz
 ·simp at hz
theorem zsk {t : TypeId} {n z : Nat} (hz : slK P t = some (.arr n z)) : ∃ e, P.underlying t = some (.array n e) ∧ szOf P e = some z := by
 simp only [slK, Option.bind_eq_some_iff] at hz
 obtain ⟨d, hd, hz⟩ := hz
 split at hz
 ·simp at hz
 ·simp at hz
 ·rename_i n' e
  simp only [Option.map_eq_some_iff, SlK.arr.injEq] at hz
  obtain ⟨_, h1, rfl, rfl⟩ := hz
  exact ⟨e, hd, h1⟩
 ·simp only [Option.bind_eq_some_iff] at hz
  obtain ⟨d', hd', hz⟩ := hz
  split at hz <;> simp at hz
 ·simp at hz
theorem zrb {t : TypeId} {n z : Nat} (hz : slK P t = some (.parr n z)) : ∃ a e, P.underlying t = some (.pointer a) ∧ P.underlying a = some (.array n e) ∧ szOf P e = some z := by
 simp only [slK, Option.bind_eq_some_iff] at hz
 obtain ⟨d, hd, hz⟩ := hz
 split at hz
 ·simp at hz
 ·simp at hz
 ·simp at hz
 ·simp only [Option.bind_eq_some_iff] at hz
  obtain ⟨d', hd', hz⟩ := hz
  split at hz
  ·rename_i n' e
   simp only [Option.map_eq_some_iff, SlK.parr.injEq] at hz
   obtain ⟨_, h1, rfl, rfl⟩ := hz
   exact ⟨_, e, hd, hd', h1⟩
  ·simp at hz
 ·simp at hz
theorem zli (hr : MRel B m M w) {t : TypeId} {a : SV} {lo hi mx : Option SV} {v : Value} {lo' hi' mx' : Option Value} (ha : conc m a = some v) (h1 : zem m lo lo') (h2 : zem m hi hi') (h3 : zem m mx mx') :
  z8f P B m M w (do Pure.pure (Next.value (← Instr.sliceAt t v lo' hi' mx'))) (zal P t a lo hi mx M) := by
 unfold zal
 split
 next s =>
  obtain rfl := z8y ha
  split
  next hk =>
   have h3' : mx' = none := by cases mx' with | none => rfl | some _ => exact h3.elim
   subst h3'
   split
   next l h k hb =>
    have hd := zsl hk
    have hs : (⟨s.toArray⟩ : ByteArray).size = zno s := by rw [zc9]; simp [ByteArray.size]
    obtain ⟨k', hrun, hle, hk', _, _⟩ := zaw (P := P) (m := m) (mx' := none) false hb h1 h2 trivial (Nat.le_refl _) (Nat.le_refl _) w
    refine z8f.pure hr (v := .string ((⟨s.toArray⟩ : ByteArray).extract l h)) ?_ ?_
    ·simp [Instr.sliceAt, Instr.slice, Sem.run_bind, run_underlying hd, hs, hrun]
    ·rw [zgl, zmj, zri]; rfl
   next => trivial
  next => trivial
 next =>
  have hv : v = .slice none 0 0 := by simp [conc] at ha; exact ha.symm
  subst hv
  split
  next z hk =>
   split
   next x hb =>
    obtain ⟨l, h, k⟩ := x
    obtain ⟨e, hd, hz⟩ := zk1 hk
    obtain ⟨k', hrun, hle, hk', g1, g2⟩ := zaw (P := P) true hb h1 h2 h3 (Nat.le_refl _) (Nat.le_refl _) w
    have hk0 : k' = 0 := by cases mx with | none => exact (g2 rfl).1 | some _ => have := g1 rfl; omega
    subst hk0
    obtain rfl : h = 0 := by omega
    obtain rfl : l = 0 := by omega
    refine z8f.pure hr (v := .slice none 0 0) ?_ rfl
    simp [Instr.sliceAt, Instr.slice, Sem.run_bind, run_underlying hd, hrun, z8q hz]
   next => trivial
  next => trivial
 next b off n c =>
  obtain ⟨p, hp, rfl⟩ := z8m ha
  split
  next z hk =>
   split
   next l h k hn hb =>
    have hn' := Nat.le_of_ble_eq_true hn
    obtain ⟨e, hd, hz⟩ := zk1 hk
    obtain ⟨k', hrun, hle, hk', g1, g2⟩ := zaw (P := P) true hb h1 h2 h3 hn' (Nat.le_refl _) w
    obtain rfl := zsp g1 g2 rfl
    refine z8f.pure hr ?_ (zco hp off l h k' z)
    simp [Instr.sliceAt, Instr.slice, Sem.run_bind, run_underlying hd, hrun, z8q hz]
    split <;> rfl
   next => trivial
  next => trivial
 next b off n z' =>
  obtain ⟨p, hp, hz0, hfit, rfl⟩ := z9d ha
  split
  next z hk =>
   split
   next l h k hzz hb =>
    obtain rfl := Nat.eq_of_beq_eq_true hzz
    obtain ⟨e, hd, hz⟩ := zk1 hk
    have hnc : n ≤ (p.size - (off + p.shift)) / z' := by rw [Nat.le_div_iff_mul_le hz0]; omega
    obtain ⟨k', hrun, hle, hk', g1, g2⟩ := zaw (P := P) true hb h1 h2 h3 (Nat.le_refl _) hnc w
    split
    next mx0 =>
     obtain rfl := (g1 rfl).1
     refine z8f.pure hr ?_ (zco hp off l h k' z')
     simp [Instr.sliceAt, Instr.slice, Sem.run_bind, run_underlying hd, hrun, z8q hz]
     split <;> rfl
    next =>
     split
     next hnl =>
      obtain ⟨rfl, rfl, hhn⟩ := g2 rfl
      have hnl' := Nat.le_of_ble_eq_true hnl
      obtain rfl : l = k := by omega
      obtain rfl : h = l := by omega
      have hsz : (p.size - (off + h * z' + p.shift)) / z' = (p.size - (off + p.shift)) / z' - h := by
       rw [show p.size - (off + h * z' + p.shift) = p.size - (off + p.shift) - h * z' by omega, Nat.mul_comm h z', Nat.sub_mul_div]
      refine z8f.pure hr (v := .slice (some (if (p.size - (off + p.shift)) / z' = h then (⟨p.block, off + p.shift, none⟩ : Addr) else (⟨p.block, off + p.shift, none⟩ : Addr).add (h * z'))) 0 ((p.size - (off + p.shift)) / z' - h)) ?_ ?_
      ·simp [Instr.sliceAt, Instr.slice, Sem.run_bind, run_underlying hd, hrun, z8q hz]
       split <;> rfl
      ·simp only [Nat.add_eq, Nat.mul_eq, conc, hp, Option.bind_some, hz0, true_and]
       rw [if_pos (by omega), hsz]
       by_cases hc : (p.size - (off + p.shift)) / z' = h
       ·rw [if_pos hc, if_pos (by omega)]
       ·rw [if_neg hc, if_neg (by omega), zd7]
     next hnl =>
      obtain ⟨rfl, rfl, hhn⟩ := g2 rfl
      have hln : l < k := by
       apply Classical.byContradiction
       intro hc
       rw [Nat.ble_eq_true_of_le (by omega : k ≤ l)] at hnl
       simp at hnl
      refine z8f.pure hr (v := .slice (some ⟨p.block, off + l * z' + p.shift, none⟩) (h - l) ((p.size - (off + p.shift)) / z' - l)) ?_ ?_
      ·have hne : ¬ ((p.size - (off + p.shift)) / z' = l) := by omega
       simp [Instr.sliceAt, Instr.slice, Sem.run_bind, run_underlying hd, hrun, z8q hz, hne, zd7]
      ·have h1 : l * z' ≤ k * z' := Nat.mul_le_mul_right _ (by omega)
       have h2 : (h - l) * z' + l * z' ≤ k * z' := by rw [← Nat.add_mul]; exact Nat.mul_le_mul_right _ (by omega)
       have h3 : (p.size - (off + p.shift)) / z' - l = (p.size - (off + l * z' + p.shift)) / z' := by
        rw [show p.size - (off + l * z' + p.shift) = p.size - (off + p.shift) - l * z' by omega, Nat.mul_comm l z', Nat.sub_mul_div]
       simp only [Nat.add_eq, Nat.mul_eq, conc, hp, Option.bind_some, hz0, true_and]
       rw [if_pos (by show off + l * z' + p.shift + (h - l) * z' ≤ p.size; omega), h3]
       rfl
   next => trivial
  next => trivial
 next b o off z' =>
  have hp' := ha
  obtain ⟨p, hp, hz0, hfit, hv⟩ := zax ha
  cases mx with
  | some mx0 => dsimp only; split <;> trivial
  | none =>
   have h3' : mx' = none := by cases mx' with | none => rfl | some _ => exact h3.elim
   subst h3'
   dsimp only
   split
   next z hk =>
    split
    next l h k hzz hb =>
     obtain rfl := Nat.eq_of_beq_eq_true hzz
     obtain ⟨e, hd, hz⟩ := zk1 hk
     obtain ⟨k', hrun, hle, hk', g1, g2⟩ := zaw (P := P) (m := m) (mx' := none) true hb h1 h2 trivial (Nat.le_refl _) (Nat.zero_le ((p.size - (off + p.shift)) / z')) w
     obtain ⟨e1, e2, hh0⟩ := g2 rfl
     obtain rfl : h = 0 := by omega
     obtain rfl : l = 0 := by omega
     rw [e1] at hrun
     subst hv
     refine z8f.pure hr (v := .slice (some ⟨p.block, (if (p.size - (off + p.shift)) / z' = 0 then o else off) + p.shift, none⟩) 0 ((p.size - (off + p.shift)) / z')) ?_ hp'
     simp [Instr.sliceAt, Instr.slice, Sem.run_bind, run_underlying hd, hrun, z8q hz, Addr.add]
    next => trivial
   next => trivial
 next a0 =>
  have hv : v = .slice (some a0) 0 0 := by simp [conc] at ha; exact ha.symm
  subst hv
  cases mx with
  | some mx0 => dsimp only; split <;> trivial
  | none =>
   have h3' : mx' = none := by cases mx' with | none => rfl | some _ => exact h3.elim
   subst h3'
   dsimp only
   split
   next z hk =>
    split
    next l h k hb =>
     obtain ⟨e, hd, hz⟩ := zk1 hk
     obtain ⟨k', hrun, hle, hk', g1, g2⟩ := zaw (P := P) (m := m) (mx' := none) true hb h1 h2 trivial (Nat.le_refl _) (Nat.le_refl 0) w
     obtain ⟨e1, e2, hh0⟩ := g2 rfl
     obtain rfl : h = 0 := by omega
     obtain rfl : l = 0 := by omega
     rw [e1] at hrun
     refine z8f.pure hr (v := .slice (some a0) 0 0) ?_ rfl
     simp [Instr.sliceAt, Instr.slice, Sem.run_bind, run_underlying hd, hrun, z8q hz]
    next => trivial
   next => trivial
 next b off =>
  obtain ⟨p, hp, rfl⟩ := z91 ha
  split
  next n z hk =>
   split
   next l h k hb =>
    obtain ⟨e, hd, hz⟩ := zsk hk
    obtain ⟨k', hrun, hle, hk', g1, g2⟩ := zaw (P := P) false hb h1 h2 h3 (Nat.le_refl _) (Nat.le_refl _) w
    obtain rfl := zsp g1 g2 rfl
    refine z8f.pure hr ?_ (zco hp off l h k' z)
    simp [Instr.sliceAt, Instr.sureAddr, Sem.run_bind, run_underlying hd, hrun, z8q hz]
   next => trivial
  next n z hk =>
   split
   next l h k hb =>
    obtain ⟨a, e, hd0, hd, hz⟩ := zrb hk
    obtain ⟨k', hrun, hle, hk', g1, g2⟩ := zaw (P := P) false hb h1 h2 h3 (Nat.le_refl _) (Nat.le_refl _) w
    obtain rfl := zsp g1 g2 rfl
    refine z8f.pure hr ?_ (zco hp off l h k' z)
    simp [Instr.sliceAt, Instr.slice, asAddr, Sem.run_bind, run_underlying hd0, run_underlying hd, hrun, z8q hz]
   next => trivial
  next => trivial
 next => trivial
end
end Go.Ev
namespace Go.Ev
open Go.RowKit
variable {P : Program}
section
variable {B : Nat} {m : Map} {M : Mem} {w : World}
noncomputable def zfh (l : List UInt8) : List SV := List.rec [] (fun a _ ih => .int .u8 (Int.ofNat a.toNat) :: ih) l
theorem zbm (m : Map) : ∀ l : List UInt8, concs m (zfh l) = some (l.map fun b => Value.int .u8 b.toNat)
 | [] => rfl
 | a :: l => by
  show concs m (.int .u8 (Int.ofNat a.toNat) :: zfh l) = _
  exact concs_cons rfl (zbm m l)
noncomputable def z8z (M : Mem) (z : Nat) (n : Nat) (x : SV) : Option (List SV) :=
 match x with
 | .nils => some []
 | .str s => some (zfh (tkB n s))
 | .slice b off _ _ => match z9k M b with
  | some cells => match Nat.ble (Nat.add off (Nat.mul n z)) (len cells) with
   | true => some (tk (Nat.mul n z) (dp off cells))
   | false => none
  | none => none
 | .ope b off _ _ => match z9k M b with
  | some cells => match Nat.ble (Nat.add off (Nat.mul n z)) (len cells) with
   | true => some (tk (Nat.mul n z) (dp off cells))
   | false => none
  | none => none
 | .opz _ _ _ _ => match n with
  | 0 => some []
  | _ => none
 | .rawz _ => match n with
  | 0 => some []
  | _ => none
 | _ => none
noncomputable def zq2 (x : SV) : Option Nat :=
 match x with
 | .nils => some 0
 | .str s => some (zno s)
 | .slice _ _ n _ => some n
 | .ope _ _ n _ => some n
 | .opz _ _ _ _ => some 0
 | .rawz _ => some 0
 | _ => none
theorem zm0 {x : SV} {v : Value} {n : Nat} (h : zq2 x = some n) (hv : conc m x = some v) (w : World) : (Builtin.lenOf v).run P w = .ok n w := by
 unfold zq2 at h
 split at h
 ·have hv' : v = .slice none 0 0 := by simp [conc] at hv; exact hv.symm
  simp only [Option.some.injEq] at h
  subst hv' h; rfl
 ·obtain rfl := z8y hv
  simp only [Option.some.injEq] at h
  subst h
  rw [zc9]; rfl
 ·obtain ⟨p, _, rfl⟩ := z8m hv
  simp only [Option.some.injEq] at h
  subst h; rfl
 ·obtain ⟨p, _, _, _, rfl⟩ := z9d hv
  simp only [Option.some.injEq] at h
  subst h; rfl
 ·obtain ⟨p, _, _, _, rfl⟩ := zax hv
  simp only [Option.some.injEq] at h
  subst h; rfl
 ·simp only [Option.some.injEq] at h
  simp [conc] at hv
  subst hv h; rfl
 ·simp at h
theorem z9x (hr : MRel B m M w) {x : SV} {v : Value} {z n : Nat} {l : List SV} (h : z8z M z n x = some l) (hv : conc m x = some v) :
  ∃ vs, concs m l = some vs ∧ ∀ w', w'.heap = w.heap → (Builtin.firstCells z n v).run P w' = .ok vs.toArray w' := by
 have row : ∀ {b off cells} {p : Pl} {k c : Nat}, z9k M b = some cells → Nat.ble (Nat.add off (Nat.mul n z)) (len cells) = true → m b = some p →
   ∃ vs, concs m (tk (Nat.mul n z) (dp off cells)) = some vs ∧ ∀ w', w'.heap = w.heap → (Builtin.firstCells z n (.slice (some ⟨p.block, off + p.shift, none⟩) k c)).run P w' = .ok vs.toArray w' := by
  intro b off cells p k c hc hb hp
  have hb' := Nat.le_of_ble_eq_true hb
  rw [z93] at hb'
  simp only [Nat.add_eq, Nat.mul_eq] at hb'
  rw [zck, zc6]
  obtain ⟨vs, hvs, hl, hcell, _⟩ := zcg (P := P) hr hc hp hb'
  refine ⟨vs, hvs, fun w' hw' => ?_⟩
  obtain ⟨vs', hvs', _, _, hrun⟩ := zcg (P := P) (hr.drew hw') hc hp hb'
  rw [hvs] at hvs'
  cases hvs'
  simpa [Builtin.firstCells] using hrun
 unfold z8z at h
 split at h
 ·have hv' : v = .slice none 0 0 := by simp [conc] at hv; exact hv.symm
  simp only [Option.some.injEq] at h
  subst hv' h
  exact ⟨[], concs_nil m, fun w' _ => by simp [Builtin.firstCells]⟩
 ·rename_i s
  obtain rfl := z8y hv
  simp only [Option.some.injEq] at h
  subst h
  refine ⟨_, zbm m _, fun w' _ => ?_⟩
  simp only [Builtin.firstCells, zgl, zmj]
  simp
 ·rename_i b off n' c
  obtain ⟨p, hp, rfl⟩ := z8m hv
  split at h
  ·rename_i cells hc
   split at h
   ·rename_i hb
    simp only [Option.some.injEq] at h
    subst h
    exact row hc hb hp
   ·simp at h
  ·simp at h
 ·rename_i b off n' c
  obtain ⟨p, hp, _, _, rfl⟩ := z9d hv
  split at h
  ·rename_i cells hc
   split at h
   ·rename_i hb
    simp only [Option.some.injEq] at h
    subst h
    exact row hc hb hp
   ·simp at h
  ·simp at h
 ·obtain ⟨p, hp, _, _, rfl⟩ := zax hv
  split at h
  ·simp only [Option.some.injEq] at h
   subst h
   exact ⟨[], concs_nil m, fun w' _ => by rw [Builtin.firstCells, Nat.zero_mul]; rfl⟩
  ·simp at h
 ·simp [conc] at hv
  subst hv
  split at h
  ·simp only [Option.some.injEq] at h
   subst h
   exact ⟨[], concs_nil m, fun w' _ => by rw [Builtin.firstCells, Nat.zero_mul]; rfl⟩
  ·simp at h
 ·simp at h
noncomputable def appT (P : Program) (t u : TypeId) : Option Elt :=
 match sliceElt P t, P.underlying u with
 | some x, some (.slice _) => some x
 | some x, some .string => some x
 | _, _ => none
theorem zq5 {t u : TypeId} {x : Elt} (h : appT P t u = some x) : ∃ e, P.underlying t = some (.slice e) ∧ zgx P e = some x ∧ ((∃ e', P.underlying u = some (.slice e')) ∨ P.underlying u = some .string) := by
 unfold appT at h
 split at h
 ·rename_i y d hy hd
  simp only [Option.some.injEq] at h
  subst h
  obtain ⟨e, h1, h2⟩ := z9b hy
  exact ⟨e, h1, h2, .inl ⟨_, hd⟩⟩
 ·rename_i y hy hd
  simp only [Option.some.injEq] at h
  subst h
  obtain ⟨e, h1, h2⟩ := z9b hy
  exact ⟨e, h1, h2, .inr hd⟩
 ·simp at h
noncomputable def zc7 (M : Mem) (b : Pos) : Mem := Mem.rec (fun t n f => ⟨t.put none b, n, f⟩) M
noncomputable def zlv (kk : RK) (M : Mem) (x : Elt) (need : Nat) (cells : List SV) : Out :=
 match Nat.ble need 4611686018427387904, Nat.ble (Nat.mul (Nat.mul 2 need) x.bytes) 281474976710656, Nat.ble 1 x.size with
 | true, true, true => .val (.ope (z90 M) 0 need x.size) (z8k x.ty kk M cells)
 | _, _, _ => .bad
noncomputable def zoz (x : Elt) (y : SV) : Option Nat :=
 match y with
 | .str s => match Nat.beq x.size 1 with
  | true => some (zno s)
  | false => none
 | y => zq2 y
noncomputable def zs8 (P : Program) (u : TypeId) : Bool :=
 match P.underlying u with
 | some (.int _) => true
 | _ => false
noncomputable def ziq (P : Program) (t u : TypeId) (s y : SV) (M : Mem) : Out :=
 match s, y with
 | .nils, .int _ a => match sliceElt P t, zs8 P u, intNat a with
  | some x, true, some n => match n with
   | 0 => .val .nils M
   | _ => zlv (.head 0) M x n (rep n x.zero)
  | _, _, _ => .bad
 | _, _ => .bad
noncomputable def za5 (P : Program) (t u : TypeId) (s y : SV) (M : Mem) : Out :=
 match appT P t u with
 | none => ziq P t u s y M
 | some x => match zoz x y with
 | none => .bad
 | some n => match z8z M x.size n y with
  | none => .bad
  | some new => match s with
   | .nils => match n with
    | 0 => .val .nils M
    | _ => zlv (.head 0) M x n new
   | .slice b off k c => match Nat.ble (Nat.add k n) c with
    | true => match new with
     | [] => .val (.slice b off (Nat.add k n) c) M
     | _ => match z9p M b (Nat.add off (Nat.mul k x.size)) new with
      | some M' => .val (.slice b off (Nat.add k n) c) M'
      | none => .bad
    | false => match z8z M x.size k s with
     | some old => zlv (.head 0) M x (Nat.add k n) (app old new)
     | none => .bad
   | .ope b off k z => match Nat.beq z x.size, zsg M b, z8z M x.size k s with
    | true, some (e, kk), some old => match n with
     | 0 => .val s M
     | _ => match ones new, Nat.beq e x.ty, zi8 kk (Nat.add off (Nat.mul k x.size)) with
      | true, true, true => zlv (zhk kk off) (zc7 M b) x (Nat.add k n) (app old new)
      | _, _, _ => .bad
    | _, _, _ => .bad
   | _ => .bad
theorem zha {need old : Nat} (h : old < need) : Builtin.nextslicecap need old ≤ 2 * need := by
 unfold Builtin.nextslicecap
 split
 ·omega
 ·split
  ·omega
  ·have key : ∀ r c, c < need → 256 ≤ c → need ≤ 2 * old → old ≤ c → Builtin.growBy need r c ≤ 2 * need := by
    intro r
    induction r with
    | zero => intro c h1 h2 h3 h4; simp [Builtin.growBy]; omega
    | succ r ih =>
     intro c h1 h2 h3 h4
     simp only [Builtin.growBy]
     rw [if_neg (by omega)]
     by_cases h5 : c + (c + 768) / 4 < need
     ·exact ih _ h5 (by omega) h3 (by omega)
     ·have : ∀ q d, need ≤ d → Builtin.growBy need q d = d := by
       intro q
       cases q with
       | zero => intro d _; rfl
       | succ q => intro d hd; simp [Builtin.growBy, hd]
      rw [this r _ (by omega)]
      omega
   exact key 4 old h (by omega) (by omega) (Nat.le_refl _)
theorem ze2 (z : Array Value) (n : Nat) : (Builtin.zeroCells z n).size = n * z.size := by simp [Builtin.zeroCells]
theorem zr9 {t u ty e : TypeId} {i : TypeInfo} {z : Value} (ht : P.underlying t = some (.slice e)) (hu : (∃ e', P.underlying u = some (.slice e')) ∨ P.underlying u = some .string) (hi : P.info? e = some i) (hz : ∀ w, (zeroValue e).run P w = .ok z w)
  {base : Option Addr} {k c n : Nat} {y : Value} {olds news : List Value} (hlen : (Builtin.lenOf y).run P w = .ok n w)
  (hold : ∀ w', w'.heap = w.heap → (Builtin.firstCells i.size k (.slice base k c)).run P w' = .ok olds.toArray w') (hnew : ∀ w', w'.heap = w.heap → (Builtin.firstCells i.size n y).run P w' = .ok news.toArray w')
  (hg : c < k + n) (h1 : k + n ≤ 4611686018427387904) (h2 : 2 * (k + n) * i.bytes ≤ 281474976710656) :
  ∃ cap w', k + n ≤ cap ∧ (Builtin.append_ #[t, u] ty #[.slice base k c, y]).run P w = .ok (.slice (some ⟨w.heap.size, 0, none⟩) (k + n) cap) w' ∧
   w'.heap = w.heap.push (.cells (olds ++ news ++ (Builtin.zeroCells z.cells (cap - (k + n))).toList).toArray e (0, 0)) ∧ w'.os = w.os ∧ w'.tape = w.tape ∧ w'.output = w.output := by
 have hn : ¬ (k + n ≤ c) := by omega
 have h63 : ¬ (((k + n : Nat) : Int) > IntKind.i64.max) := by
  have : IntKind.i64.max = 9223372036854775807 := by simp [IntKind.max, IntKind.signed, IntKind.bits]
  rw [this]; omega
 have h48 : ¬ (Builtin.nextslicecap (k + n) c * i.bytes > 2 ^ 48) := by
  have := Nat.mul_le_mul_right i.bytes (zha hg)
  omega
 let w1 : World := { w with drawn := w.drawn + 1 }
 have hz' := hz w1
 refine ⟨grownCap w (k + n) c e, w1.alloc (.cells (olds ++ news ++ (Builtin.zeroCells z.cells (grownCap w (k + n) c e - (k + n))).toList).toArray e (0, 0)), grownCap_ge w (k + n) c e, ?_, rfl, rfl, rfl, rfl⟩
 have hch : (choose (.appendCap (k + n) c e)).run P w = .ok (grownCap w (k + n) c e) w1 := by
  simp [choose, Sem.run, Question.forced, grownCap, w1]
 have e1 : (sizeOf e).run P w = .ok i.size w := zb2 hi w
 have e2 : (typeInfo e).run P w = .ok i w := za4 hi w
 have e2' : (typeInfo e).run P w1 = .ok i w1 := za4 hi w1
 have hnr := z9t (P := P) e (olds.toArray ++ news.toArray ++ Builtin.zeroCells z.cells (grownCap w (k + n) c e - (k + n))) w1
 have hc : (olds ++ news ++ (Builtin.zeroCells z.cells (grownCap w (k + n) c e - (k + n))).toList).toArray = olds.toArray ++ news.toArray ++ Builtin.zeroCells z.cells (grownCap w (k + n) c e - (k + n)) := by simp
 rw [hc]
 rcases hu with ⟨e', hu⟩ | hu
 all_goals
  simp only [Builtin.append_, List.getElem?_toArray, List.getElem?_cons_zero, List.getElem?_cons_succ, Sem.run_bind, run_underlying ht, run_underlying hu, Result.andThen_ok, e1, hlen, Bool.false_eq_true, if_false, hn, h63, h48, e2, false_and, Sem.run_pure, hch, e2', zcf, hold w1 rfl, hnew w1 rfl, hz', hnr, Bool.not_false, if_true]
  rfl
theorem zov {u : TypeId} (h : zs8 P u = true) : ∃ k, P.underlying u = some (.int k) := by
 unfold zs8 at h
 split at h
 ·exact ⟨_, by assumption⟩
 ·simp at h
theorem zpe {t u ty e : TypeId} {i : TypeInfo} {z : Value} {kk : IntKind} (ht : P.underlying t = some (.slice e)) (hu : P.underlying u = some (.int kk)) (hi : P.info? e = some i) (hz : ∀ w, (zeroValue e).run P w = .ok z w)
  {k : IntKind} {n : Nat} (hn0 : 0 < n) (hs0 : 0 < i.size) (h1 : n ≤ 4611686018427387904) (h2 : 2 * n * i.bytes ≤ 281474976710656) :
  ∃ cap w', n ≤ cap ∧ (Builtin.append_ #[t, u] ty #[.slice none 0 0, .int k (n : Int)]).run P w = .ok (.slice (some ⟨w.heap.size, 0, none⟩) n cap) w' ∧
   w'.heap = w.heap.push (.cells (zgu n z.cells.toList ++ (Builtin.zeroCells z.cells (cap - n)).toList).toArray e (0, 0)) ∧ w'.os = w.os ∧ w'.tape = w.tape ∧ w'.output = w.output := by
 have hn : ¬ (n = 0) := by omega
 have h63 : ¬ ((n : Int) > IntKind.i64.max) := by
  have : IntKind.i64.max = 9223372036854775807 := by simp [IntKind.max, IntKind.signed, IntKind.bits]
  rw [this]; omega
 have h48 : ¬ (Builtin.nextslicecap n 0 * i.bytes > 2 ^ 48) := by
  have := Nat.mul_le_mul_right i.bytes (zha hn0)
  omega
 let w1 : World := { w with drawn := w.drawn + 1 }
 have hz' := hz w1
 have hww := wrap_in .i64 (n : Int) (by simp only [zic]; omega) (by simp only [zbg]; omega)
 refine ⟨grownCap w n 0 e, w1.alloc (.cells (zgu n z.cells.toList ++ (Builtin.zeroCells z.cells (grownCap w n 0 e - n)).toList).toArray e (0, 0)), grownCap_ge w n 0 e, ?_, rfl, rfl, rfl, rfl⟩
 have hch : (choose (.appendCap n 0 e)).run P w = .ok (grownCap w n 0 e) w1 := by
  simp [choose, Sem.run, Question.forced, grownCap, w1]
 have e1 : (sizeOf e).run P w = .ok i.size w := zb2 hi w
 have e2 : (typeInfo e).run P w = .ok i w := za4 hi w
 have e2' : (typeInfo e).run P w1 = .ok i w1 := za4 hi w1
 have hcz : Builtin.zeroCells z.cells n = (zgu n z.cells.toList).toArray := by
  have := zcy n z.cells.toList
  unfold Builtin.zeroCells
  simpa using this
 have hnr := z9t (P := P) e ((#[] : Array Value) ++ Builtin.zeroCells z.cells n ++ Builtin.zeroCells z.cells (grownCap w n 0 e - n)) w1
 have hc : (zgu n z.cells.toList ++ (Builtin.zeroCells z.cells (grownCap w n 0 e - n)).toList).toArray = (#[] : Array Value) ++ Builtin.zeroCells z.cells n ++ Builtin.zeroCells z.cells (grownCap w n 0 e - n) := by rw [hcz]; simp
 rw [hc]
 have hl0 : ¬ ((n : Int) < 0) := by omega
 have hb48 : ¬ ((n : Int) * (i.bytes : Int) > 2 ^ 48) := by
  have h3 : n * i.bytes ≤ 281474976710656 := Nat.le_trans (Nat.mul_le_mul_right i.bytes (by omega : n ≤ 2 * n)) h2
  have h4 : ((n * i.bytes : Nat) : Int) ≤ 281474976710656 := by omega
  rw [Int.natCast_mul] at h4
  omega
 have hns : ¬ (n * i.size = 0) := Nat.ne_of_gt (Nat.mul_pos hn0 hs0)
 have hfc : (Builtin.firstCells i.size 0 (.slice none 0 0)).run P w1 = .ok #[] w1 := by simp [Builtin.firstCells]
 simp only [Builtin.append_, List.getElem?_toArray, List.getElem?_cons_zero, List.getElem?_cons_succ, Sem.run_bind, run_underlying ht, run_underlying hu, Result.andThen_ok, e1, asInt, asIntOf, Sem.run_pure, hww, hl0, if_true, if_false, e2, hb48, Int.toNat_natCast, Nat.zero_add, Nat.le_zero_eq, hn, h63, h48, false_and, hch, e2', zcf, hfc, Bool.not_true, Bool.false_eq_true, hns, hz', hnr]
 rfl
end
end Go.Ev
namespace Go.Ev
open Go.RowKit
variable {P : Program}
section
variable {B : Nat} {m : Map} {M : Mem} {w : World}
theorem zdv {t u ty e : TypeId} {i : TypeInfo} (ht : P.underlying t = some (.slice e)) (hu : (∃ e', P.underlying u = some (.slice e')) ∨ P.underlying u = some .string) (hi : P.info? e = some i)
  {a : Addr} {k c n : Nat} {y : Value} {news : List Value} (hlen : (Builtin.lenOf y).run P w = .ok n w)
  (hnew : (Builtin.firstCells i.size n y).run P w = .ok news.toArray w) (hg : k + n ≤ c) {w' : World} (hst : (storeCells (a.add (k * i.size)) news).run P w = .ok () w') :
  (Builtin.append_ #[t, u] ty #[.slice (some a) k c, y]).run P w = .ok (.slice (some a) (k + n) c) w' := by
 have e1 : (sizeOf e).run P w = .ok i.size w := zb2 hi w
 rcases hu with ⟨e', hu⟩ | hu
 all_goals
  simp only [Builtin.append_, List.getElem?_toArray, List.getElem?_cons_zero, List.getElem?_cons_succ, Sem.run_bind, run_underlying ht, run_underlying hu, Result.andThen_ok, e1, hlen, Bool.false_eq_true, if_false, hg, if_true, Sem.run_pure, hnew, hst, Bool.not_false]
theorem znd {t u ty e : TypeId} {i : TypeInfo} (ht : P.underlying t = some (.slice e)) (hu : (∃ e', P.underlying u = some (.slice e')) ∨ P.underlying u = some .string) (hi : P.info? e = some i)
  {y : Value} {news : List Value} (hlen : (Builtin.lenOf y).run P w = .ok 0 w) (hnew : (Builtin.firstCells i.size 0 y).run P w = .ok news.toArray w) :
  (Builtin.append_ #[t, u] ty #[.slice none 0 0, y]).run P w = .ok (.slice none 0 0) w := by
 have e1 : (sizeOf e).run P w = .ok i.size w := zb2 hi w
 rcases hu with ⟨e', hu⟩ | hu
 all_goals
  simp only [Builtin.append_, List.getElem?_toArray, List.getElem?_cons_zero, List.getElem?_cons_succ, Sem.run_bind, run_underlying ht, run_underlying hu, Result.andThen_ok, e1, hlen, Bool.false_eq_true, if_false, Nat.add_zero, Nat.le_refl, if_true, Sem.run_pure, hnew, Bool.not_false]
theorem zfq (hr : MRel B m M w) {kk : RK} (hkk : kk ≠ .whole) {x : Elt} {need : Nat} {cells : List SV} {q : Sem Value}
  (hq : need ≤ 4611686018427387904 → 2 * need * x.bytes ≤ 281474976710656 → 0 < x.size → ∃ vs post cap w', concs m cells = some vs ∧ need ≤ cap ∧ vs.length + post.length = cap * x.size ∧ q.run P w = .ok (.slice (some ⟨w.heap.size, 0, none⟩) need cap) w' ∧
   w'.heap = w.heap.push (.cells (vs ++ post).toArray x.ty (0, 0)) ∧ w'.os = w.os ∧ w'.tape = w.tape ∧ w'.output = w.output) :
  z8f P B m M w (do Pure.pure (Next.value (← q))) (zlv kk M x need cells) := by
 unfold zlv
 split
 next h1 h2 h3 =>
  have h1' := Nat.le_of_ble_eq_true h1
  have h2' := Nat.le_of_ble_eq_true h2
  have h3' := Nat.le_of_ble_eq_true h3
  simp only [Nat.mul_eq] at h2'
  obtain ⟨vs, post, cap, w', hc, hcap, hl, hrun, hh, ho, htp, hout⟩ := hq h1' h2' h3'
  obtain ⟨m', hs, hm⟩ := zeb hr kk (.inl hkk) x.ty hc hh ho htp hout
  refine z8f.value hrun ?_ hs
  have : need * x.size ≤ cap * x.size := Nat.mul_le_mul_right _ hcap
  simp only [conc, z9n, hm, Option.bind_some, hl, Nat.sub_zero, Nat.zero_add]
  rw [if_pos ⟨h3', this⟩, Nat.mul_div_cancel _ h3']
 next => trivial
theorem zor (hr : MRel B m M w) {kk : RK} (hkk : kk ≠ .whole) {b : Pos} {p : Pl} (hfl : M.floor ≤ b.num) (hp : m b = some p) {x : Elt} {need : Nat} {cells : List SV} {q : Sem Value}
  (hq : need ≤ 4611686018427387904 → 2 * need * x.bytes ≤ 281474976710656 → 0 < x.size → ∃ vs post cap w', concs m cells = some vs ∧ need ≤ cap ∧ vs.length + post.length = cap * x.size ∧ q.run P w = .ok (.slice (some ⟨w.heap.size, 0, none⟩) need cap) w' ∧
   w'.heap = w.heap.push (.cells (vs ++ post).toArray x.ty (0, 0)) ∧ w'.os = w.os ∧ w'.tape = w.tape ∧ w'.output = w.output) :
  z8f P B m M w (do Pure.pure (Next.value (← q))) (zlv kk (zc7 M b) x need cells) := by
 unfold zlv
 split
 next h1 h2 h3 =>
  have h1' := Nat.le_of_ble_eq_true h1
  have h2' := Nat.le_of_ble_eq_true h2
  have h3' := Nat.le_of_ble_eq_true h3
  simp only [Nat.mul_eq] at h2'
  obtain ⟨vs, post, cap, w', hc, hcap, hl, hrun, hh, ho, htp, hout⟩ := hq h1' h2' h3'
  have hs := z82.fresh hr (M.t.put none b) ⟨w.heap.size, 0, vs.length + post.length⟩ (.row x.ty kk cells) (w' := w')
   (fun b' y h => by
    by_cases he : b = b'
    ·subst he; rw [Tree.get_put_same] at h; simp at h
    ·rwa [Tree.get_put_other _ _ he] at h)
   (fun b' _ hm => by
    by_cases he : b = b'
    ·subst he; rw [hp] at hm; simp at hm
    ·rw [Tree.get_put_other _ _ he])
   (fun b' hlt => by
    have := hfl
    rw [Tree.get_put_other _ _ (fun he => by subst he; omega)])
   (fun b' y q h hq => by
    have hlt := hr.bound b' q hq
    refine ⟨by simp only; omega, ?_⟩
    rw [hh, Array.getElem?_push, if_neg (by omega)])
   ⟨ho, htp, hout, by rw [hh]; simp, fun k hk => by have := hr.base; rw [hh, Array.getElem?_push, if_neg (by omega)]⟩ (by rw [hh]; simp) hr.base rfl (fun m' hm' => by
    rw [hh]
    exact ⟨x.ty, (0, 0), [], vs, post, by simp, Frz.zero hkk _ _, rfl, by simp, z8s hm' _ _ hc, fun t h => Option.some.inj h⟩)
   (fun k hk _ => by rw [hh, Array.getElem?_push, if_neg (by omega)]) (fun h => absurd h (by simp))
  have hs' : z82 B m M w (fun c => if c = M.next then some ⟨w.heap.size, 0, vs.length + post.length⟩ else m c) (z8k x.ty kk (zc7 M b) cells) w' := by
   cases M with
   | mk t n => exact hs
  have hnx : z90 (zc7 M b) = M.next := by cases M; rfl
  refine z8f.value hrun ?_ hs'
  have : need * x.size ≤ cap * x.size := Nat.mul_le_mul_right _ hcap
  simp only [conc, hnx, if_true, Option.bind_some, hl, Nat.sub_zero, Nat.zero_add]
  rw [if_pos ⟨h3', this⟩, Nat.mul_div_cancel _ h3']
 next => trivial
theorem zf4 {e : TypeId} {x : Elt} (h : zgx P e = some x) : ∃ i z, P.info? e = some i ∧ i.size = x.size ∧ i.bytes = x.bytes ∧ (∀ w, (zeroValue e).run P w = .ok z w) ∧ z.cells.size = x.size := by
 unfold zgx at h
 split at h
 ·rename_i i z hi hz
  split at h
  ·rename_i hl
   simp only [Option.some.injEq] at h
   subst h
   simp only [zerosOf, hi, Option.bind_some, Option.bind_eq_some_iff, Option.map_eq_some_iff] at hz
   obtain ⟨v, hv, s, hs, rfl⟩ := hz
   refine ⟨i, v, hi, rfl, rfl, fun w => by simp [zeroValue, Sem.run_bind, za4 hi, hv], ?_⟩
   have h0 : concs (fun _ => none) (cellsOf s) = some v.cells.toList := zac (zf6 (fun _ => none) _ _ hs)
   have := z86 h0
   have h2 : (cellsOf s).length = i.size := by rw [← z93]; exact Nat.eq_of_beq_eq_true hl
   simp only [Array.length_toList] at this
   show v.cells.size = i.size
   omega
  ·simp at h
 ·simp at h
theorem zos (hr : MRel B m M w) {t u ty e : TypeId} {x : Elt} (ht : P.underlying t = some (.slice e)) (hu : (∃ e', P.underlying u = some (.slice e')) ∨ P.underlying u = some .string) (hx : zgx P e = some x)
  {base : Option Addr} {k c n : Nat} {y : Value} {old new : List SV} {olds news : List Value} (hlen : (Builtin.lenOf y).run P w = .ok n w) (ho : concs m old = some olds) (hn : concs m new = some news)
  (hol : olds.length = k * x.size) (hnl : news.length = n * x.size)
  (hold : ∀ w', w'.heap = w.heap → (Builtin.firstCells x.size k (.slice base k c)).run P w' = .ok olds.toArray w') (hnew : ∀ w', w'.heap = w.heap → (Builtin.firstCells x.size n y).run P w' = .ok news.toArray w') (hg : c < k + n)
  (h1 : k + n ≤ 4611686018427387904) (h2 : 2 * (k + n) * x.bytes ≤ 281474976710656) :
  ∃ vs post cap w', concs m (old ++ new) = some vs ∧ k + n ≤ cap ∧ vs.length + post.length = cap * x.size ∧ (Builtin.append_ #[t, u] ty #[.slice base k c, y]).run P w = .ok (.slice (some ⟨w.heap.size, 0, none⟩) (k + n) cap) w' ∧
   w'.heap = w.heap.push (.cells (vs ++ post).toArray x.ty (0, 0)) ∧ w'.os = w.os ∧ w'.tape = w.tape ∧ w'.output = w.output := by
 obtain rfl := zf3 hx
 obtain ⟨i, z, hi, hs, hb, hz, hzs⟩ := zf4 hx
 rw [← hs] at hold hnew
 rw [← hb] at h2
 obtain ⟨cap, w', hcap, hrun, hh, h3, h4, h5⟩ := zr9 (P := P) (w := w) (ty := ty) ht hu hi hz hlen hold hnew hg h1 h2
 refine ⟨olds ++ news, (Builtin.zeroCells z.cells (cap - (k + n))).toList, cap, w', z8b ho hn, hcap, ?_, hrun, hh, h3, h4, h5⟩
 simp only [List.length_append, Array.length_toList, ze2, hol, hnl, hzs, ← Nat.add_mul]
 congr 1
 omega
theorem zbn {x : SV} {z n : Nat} {l : List SV} (hn : zq2 x = some n) (hs : ∀ s, x = .str s → z = 1) (h : z8z M z n x = some l) : l.length = n * z := by
 unfold z8z at h
 split at h
 ·simp only [zq2, Option.some.injEq] at hn h; subst hn h; simp
 ·rename_i s
  simp only [zq2, Option.some.injEq] at hn h; subst hn h
  have h1 := z86 (zbm (fun _ => none) (tkB (zno s) s))
  rw [List.length_map] at h1
  rw [← h1, zmj, zc9, hs s rfl]; simp
 ·split at h
  ·split at h
   ·rename_i hb
    simp only [Option.some.injEq] at h; subst h
    have := Nat.le_of_ble_eq_true hb
    rw [z93] at this
    simp only [Nat.add_eq, Nat.mul_eq] at this
    rw [zck, zc6]; simp; omega
   ·simp at h
  ·simp at h
 ·split at h
  ·split at h
   ·rename_i hb
    simp only [Option.some.injEq] at h; subst h
    have := Nat.le_of_ble_eq_true hb
    rw [z93] at this
    simp only [Nat.add_eq, Nat.mul_eq] at this
    rw [zck, zc6]; simp; omega
   ·simp at h
  ·simp at h
 ·split at h
  ·simp only [Option.some.injEq] at h; subst h; simp
  ·simp at h
 ·split at h
  ·simp only [Option.some.injEq] at h; subst h; simp
  ·simp at h
 ·simp at h
theorem zp0 {x : Elt} {y : SV} {n : Nat} (h : zoz x y = some n) : zq2 y = some n ∧ ∀ s, y = .str s → x.size = 1 := by
 unfold zoz at h
 split at h
 ·rename_i s
  split at h
  ·rename_i hb
   exact ⟨h, fun _ _ => Nat.eq_of_beq_eq_true hb⟩
  ·simp at h
 ·rename_i hne
  exact ⟨h, fun s e => absurd e (hne s)⟩
theorem zqu (hr : MRel B m M w) {b : Pos} {cells old new : List SV} {p : Pl} {off k z n : Nat} {olds news : List Value} {te : TypeId} {kk : RK} (hb : M.t.get b = some (.row te kk cells)) (hfl : M.floor ≤ b.num) (hk : (∀ j, kk = .head j → j ≤ off + k * z) ∧ kk ≠ .lost) (hp : m b = some p)
  (ho : old = (cells.drop off).take (k * z)) (hoc : off + k * z ≤ cells.length) (hol : concs m old = some olds) (hnl : concs m new = some news) (hnn : news.length = n * z) (h1 : ones new = true) (hfit : off + p.shift + (k + n) * z ≤ p.size) :
  ∃ m' w', (storeCells ((⟨p.block, off + p.shift, none⟩ : Addr).add (k * z)) news).run P w = .ok () w' ∧ z82 B m M w m' (z8k te (zhk kk off) (zc7 M b) (old ++ new)) w' ∧ m' M.next = some ⟨p.block, off + p.shift, p.size⟩ := by
 obtain ⟨e, fz, pre, ws, post, hh, hz, hs, hl, hc, hte⟩ := hr.objs b _ p hb hp
 have hwl := z86 hc
 have hkn : (k + n) * z = k * z + n * z := Nat.add_mul _ _ _
 have hst := zeh (P := P) p.block (off + p.shift + k * z) e fz news 0 _ w hh (by simp; omega) (by have := hz.store hk (sz := (pre ++ (ws ++ post)).toArray.size) (by simp; omega); omega) (zg3 h1 hnl)
 have hol' : olds = (ws.drop off).take (k * z) := by
  have := zb9 (k * z) (zb8 off hc)
  rw [← ho, hol] at this
  exact Option.some.inj this
 have holl : olds.length = k * z := by rw [hol']; simp; omega
 generalize hD : w.setRow p.block ((pre ++ (ws ++ post)).toArray.toList.take (off + p.shift + k * z + 0) ++ news ++ (pre ++ (ws ++ post)).toArray.toList.drop (off + p.shift + k * z + 0 + news.length)).toArray = w' at hst
 have hheap : w'.heap[p.block]? = some (.cells ((pre ++ ws.take off) ++ ((olds ++ news) ++ ((pre ++ (ws ++ post)).drop (off + p.shift + k * z + news.length)))).toArray e fz) := by
  rw [← hD, setRow_heap w p.block _ _ e fz hh]
  congr 3
  have e1 : (pre ++ (ws ++ post)).take (off + p.shift + k * z + 0) = pre ++ ws.take off ++ olds := by
   rw [List.take_append, List.take_of_length_le (by omega), List.take_append, hol']
   rw [show off + p.shift + k * z + 0 - pre.length = off + k * z by omega, List.take_add, show off + k * z - ws.length = 0 by omega]
   simp
  simp only [Nat.add_zero] at e1 ⊢
  simp only [e1, List.append_assoc]
 have hother : ∀ j, j ≠ p.block → w'.heap[j]? = w.heap[j]? := fun j hj => by rw [← hD]; exact setRow_other w _ j _ hj
 have hlow := hr.low b _ p hb rfl hp
 have hbel : Below B w w' := by
  rw [← hD]
  exact ⟨rfl, rfl, rfl, by simp [World.setRow], fun j hj => setRow_other w _ j _ (by omega)⟩
 have hpb := hr.bound b p hp
 have := z82.fresh hr (M.t.put none b) ⟨p.block, off + p.shift, p.size⟩ (.row te (zhk kk off) (old ++ new)) (w' := w')
  (fun b' y h => by
   by_cases he : b = b'
   ·subst he; rw [Tree.get_put_same] at h; simp at h
   ·rwa [Tree.get_put_other _ _ he] at h)
  (fun b' _ hm => by
   by_cases he : b = b'
   ·subst he; rw [hp] at hm; simp at hm
   ·rw [Tree.get_put_other _ _ he])
  (fun b' hlt => by
   have := hfl
   rw [Tree.get_put_other _ _ (fun he => by subst he; omega)])
  (fun b' y q h hq => by
   by_cases he : b = b'
   ·subst he; rw [Tree.get_put_same] at h; simp at h
   ·rw [Tree.get_put_other _ _ he] at h
    have hne : q.block ≠ p.block := fun heq => he (hr.inj b b' _ _ p q hb h (.inl rfl) hp hq heq.symm)
    exact ⟨hne, hother _ hne⟩)
  hbel (by have := hbel.size; simp only; omega) hlow rfl
  (fun m' hm' => by
   refine ⟨e, fz, pre ++ ws.take off, olds ++ news, (pre ++ (ws ++ post)).drop (off + p.shift + k * z + news.length), hheap, ?_, by simp; omega, ?_, z8s hm' _ _ (z8b hol hnl), hte⟩
   ·cases kk with
    | mark => exact hz
    | head j =>
     have hz' : fz.2 ≤ p.shift + j := hz
     show fz.2 ≤ off + p.shift + (j - off)
     omega
    | whole =>
     have hz' : fz.2 = 0 ∧ p.shift = 0 ∧ p.size = ws.length := hz
     show fz.2 ≤ off + p.shift + 0
     omega
    | lost => exact absurd rfl hk.2
   simp only [List.length_append, List.length_take, List.length_drop]; omega)
  (fun k _ hk => hother k fun e => hk ⟨b, _, p, hb, rfl, hp, e.symm⟩) (fun _ => ⟨b, _, p, hb, rfl, hp, rfl⟩)
 refine ⟨fun c => if c = M.next then some ⟨p.block, off + p.shift, p.size⟩ else m c, w', ?_, ?_, ?_⟩
 ·rw [zdc]; exact hst
 ·cases M with
  | mk t nx => exact this
 ·simp
theorem zpf {t u ty e : TypeId} {i : TypeInfo} {kk k : IntKind} (ht : P.underlying t = some (.slice e)) (hu : P.underlying u = some (.int kk)) (hi : P.info? e = some i) :
  (Builtin.append_ #[t, u] ty #[.slice none 0 0, .int k ((0 : Nat) : Int)]).run P w = .ok (.slice none 0 0) w := by
 have e1 : (sizeOf e).run P w = .ok i.size w := zb2 hi w
 have e2 : (typeInfo e).run P w = .ok i w := za4 hi w
 have hww := wrap_in .i64 ((0 : Nat) : Int) (by simp [zic]) (by simp [zbg])
 simp only [Builtin.append_, List.getElem?_toArray, List.getElem?_cons_zero, List.getElem?_cons_succ, Sem.run_bind, run_underlying ht, run_underlying hu, Result.andThen_ok, e1, asInt, asIntOf, Sem.run_pure, hww, if_true]
 simp [e2]
theorem zir (hr : MRel B m M w) {t u ty : TypeId} {s y : SV} {v uv : Value} (hv : conc m s = some v) (hy : conc m y = some uv) :
  z8f P B m M w (do Pure.pure (Next.value (← Builtin.append_ #[t, u] ty #[v, uv]))) (ziq P t u s y M) := by
 unfold ziq
 split
 next k a =>
  have hv' : v = .slice none 0 0 := by simp [conc] at hv; exact hv.symm
  subst hv'
  obtain rfl := conc_int hy
  split
  next x n hx hu hn =>
   obtain rfl := intNat_eq hn
   obtain ⟨e, ht, hel⟩ := z9b hx
   obtain ⟨kk, hu⟩ := zov hu
   obtain rfl := zf3 hel
   obtain ⟨i, z, hi, hsz, hby, hz, hzs⟩ := zf4 hel
   split
   next => exact z8f.pure hr (zpf ht hu hi) rfl
   next hn0 =>
    have hn0' : n ≠ 0 := fun e => hn0 e
    refine zfq hr (by simp) fun h1 h2 h3 => ?_
    rw [← hby] at h2
    obtain ⟨i', z', hi', _, _, hz', hzc, _⟩ := zdg hel m w
    rw [hi] at hi'
    cases hi'
    have := (hz w).symm.trans hz'
    cases this
    obtain ⟨cap, w', hcap, hrun, hh, g3, g4, g5⟩ := zpe (P := P) (w := w) (ty := ty) (k := k) ht hu hi hz (by omega) (by omega) h1 h2
    refine ⟨zgu n z.cells.toList, (Builtin.zeroCells z.cells (cap - n)).toList, cap, w', zdr n hzc, hcap, ?_, hrun, hh, g3, g4, g5⟩
    simp only [Array.length_toList, ze2, zgf, hzs, ← Nat.add_mul]
    congr 1
    omega
  next => trivial
 next => trivial
theorem zk3 (hr : MRel B m M w) {t u ty : TypeId} {s y : SV} {v uv : Value} (hv : conc m s = some v) (hy : conc m y = some uv) :
    z8f P B m M w (do Pure.pure (Next.value (← Builtin.append_ #[t, u] ty #[v, uv]))) (za5 P t u s y M) := by
  unfold za5
  split
  next => exact zir hr hv hy
  next x hx =>
   split
   next => trivial
   next n hn =>
    split
    next => trivial
    next new hnew =>
      obtain ⟨e, ht, hel, hu⟩ := zq5 hx
      obtain ⟨i, z, hi, hsz, hby, hz, hzs⟩ := zf4 hel
      obtain ⟨hln, hstr⟩ := zp0 hn
      have hlen := zm0 (P := P) hln hy w
      obtain ⟨news, hnc, hnr⟩ := z9x (P := P) hr hnew hy
      have hnl := zbn hln hstr hnew
      have hnl2 := z86 hnc
      have hnr0 : (Builtin.firstCells i.size n uv).run P w = .ok news.toArray w := by rw [hsz]; exact hnr w rfl
      split
      next =>
        have hv' : v = .slice none 0 0 := by simp [conc] at hv; exact hv.symm
        subst hv'
        split
        next => exact z8f.pure hr (znd ht hu hi hlen hnr0) rfl
        next hn0 =>
          have hn0' : n ≠ 0 := fun e => hn0 e
          refine zfq hr (by simp) fun h1 h2 _ => ?_
          have := zos (P := P) (ty := ty) hr ht hu hel (base := none) (k := 0) (c := 0) (old := []) (olds := []) hlen (concs_nil m) hnc (by simp) (by omega) (fun w' _ => by simp [Builtin.firstCells]) hnr (by omega) (by omega) (by simpa using h2)
          simpa using this
      next b off k c =>
        obtain ⟨p, hp, rfl⟩ := z8m hv
        split
        next hle =>
          have hle' := Nat.le_of_ble_eq_true hle
          simp only [Nat.add_eq] at hle'
          split
          next =>
            have hnz : news = [] := List.eq_nil_of_length_eq_zero (by simpa using hnl2)
            subst hnz
            exact z8f.pure hr (zdv ht hu hi hlen hnr0 hle' (w' := w) rfl) (by simp [conc, hp])
          next hne =>
            split
            next M' hM =>
              obtain ⟨w', hst, hs⟩ := zeg (P := P) hr hM hp hnc
              refine z8f.value (zdv ht hu hi hlen hnr0 hle' (w' := w') ?_) ?_ hs
              · rw [hsz, zd7]; exact hst
              · simp [conc, hp]
            next => trivial
        next hnle =>
          split
          next old hold =>
            obtain ⟨olds, hoc, hor⟩ := z9x (P := P) hr hold hv
            have hol := zbn (n := k) rfl (fun _ e => by cases e) hold
            have hol2 := z86 hoc
            rw [z9i]
            refine zfq hr (by simp) fun h1 h2 _ => ?_
            simp only [Nat.add_eq] at h1 h2 ⊢
            have hlt : c < k + n := by
              apply Classical.byContradiction
              intro hc
              rw [Nat.add_eq, Nat.ble_eq_true_of_le (by omega : k + n ≤ c)] at hnle
              simp at hnle
            exact zos (P := P) (ty := ty) hr ht hu hel hlen hoc hnc (by omega) (by omega) hor hnr hlt h1 h2
          next => trivial
      next b off k z' =>
        split
        next te kk old hzz hownk hold =>
          obtain rfl := Nat.eq_of_beq_eq_true hzz
          obtain ⟨⟨cells, hown⟩, hfl⟩ := zp7 hownk
          obtain ⟨p, hp, hz0, hfit, rfl⟩ := z9d hv
          obtain ⟨olds, hoc, hor⟩ := z9x (P := P) hr hold hv
          have hol := zbn (n := k) rfl (fun _ e => by cases e) hold
          have hol2 := z86 hoc
          split
          next =>
            have hnz : news = [] := List.eq_nil_of_length_eq_zero (by rw [hnl2, hnl]; simp)
            subst hnz
            have hkc : k ≤ (p.size - (off + p.shift)) / x.size := by rw [Nat.le_div_iff_mul_le hz0]; omega
            exact z8f.pure hr (zdv ht hu hi hlen hnr0 (by omega) (w' := w) rfl) hv
          next hn0 =>
            have hn0' : n ≠ 0 := fun e => hn0 e
            split
            next hones htyb hfz =>
              rw [z9i]
              have hty := Nat.eq_of_beq_eq_true htyb
              subst hty
              have hkk := zlu hfz
              simp only [Nat.add_eq, Nat.mul_eq] at hkk
              have hold' := hold
              simp only [z8z, zdt hown] at hold'
              split at hold'
              case h_2 => simp at hold'
              rename_i hble
              have hble' := Nat.le_of_ble_eq_true hble
              simp only [z93, Nat.add_eq, Nat.mul_eq] at hble'
              simp only [Option.some.injEq, zck, zc6, Nat.mul_eq] at hold'
              by_cases hroom : k + n ≤ (p.size - (off + p.shift)) / x.size
              · have hfit2 : off + p.shift + (k + n) * x.size ≤ p.size := by
                  have h1 := (Nat.le_div_iff_mul_le hz0).1 hroom
                  have h2 : 0 < (k + n) * x.size := Nat.mul_pos (by omega) hz0
                  omega
                obtain ⟨m', w', hst, hs, hm⟩ := zqu (P := P) hr hown hfl hkk hp hold'.symm hble' hoc hnc (by omega) hones hfit2
                unfold zlv
                split
                · refine z8f.value (zdv ht hu hi hlen hnr0 hroom (w' := w') (by rw [hsz]; exact hst)) ?_ hs
                  have hnx : z90 (zc7 M b) = M.next := by cases M; rfl
                  simp only [conc, hnx, hm, Option.bind_some, Nat.zero_add]
                  rw [if_pos ⟨hz0, by simpa using hfit2⟩]
                  rfl
                · trivial
              · refine zor hr (zpj _ _) hfl hp fun h1 h2 _ => ?_
                simp only [Nat.add_eq] at h1 h2 ⊢
                exact zos (P := P) (ty := ty) hr ht hu hel hlen hoc hnc (by omega) (by omega) hor hnr (by omega) h1 h2
            next => trivial
        next => trivial
      next => trivial
end
end Go.Ev
