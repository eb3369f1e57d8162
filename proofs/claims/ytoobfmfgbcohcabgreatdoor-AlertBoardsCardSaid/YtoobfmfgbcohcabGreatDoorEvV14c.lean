/- A part of the small machine. -/
import Derived.Test.YtoobfmfgbcohcabGreatDoorEvV14
set_option linter.unusedVariables false
/- Equality of structs and arrays. -/
namespace Go.Ev
open Go.RowKit
variable {P : Program}

noncomputable def zxj (P : Program) (eq : TypeId → SV → SV → Option Bool) (xs ys : List SV) : List Field → Option Bool
 | [] => some true
 | f :: l => match f.name == "_" with
  | true => zxj P eq xs ys l
  | false => match znj P f.type xs f.offset, znj P f.type ys f.offset with
   | some a, some b => match eq f.type a b with
    | some true => zxj P eq xs ys l
    | some false => some false
    | none => none
   | _, _ => none

noncomputable def y12 (P : Program) (eq : SV → SV → Option Bool) (e : TypeId) (z : Nat) (xs ys : List SV) : (n i : Nat) → Option Bool
 | 0, _ => some true
 | n + 1, i => match znj P e xs (Nat.mul i z), znj P e ys (Nat.mul i z) with
  | some a, some b => match eq a b with
   | some true => y12 P eq e z xs ys n (Nat.succ i)
   | some false => some false
   | none => none
  | _, _ => none

inductive AggK where
 | int | str
 | st (fs : List Field)
 | ar (n : Nat) (e : TypeId) (z : Nat)
noncomputable def aggK (P : Program) (t : TypeId) : Option AggK :=
 match P.underlying t with
 | some (.int _) => some .int
 | some .string => some .str
 | some (.struct fs) => match P.stoodInHeld t with
  | true => none
  | false => some (.st fs.toList)
 | some (.array n e) => match szOf P e with
  | some z => some (.ar n e z)
  | none => none
 | _ => none

/-- Equality of whatever it is. -/
noncomputable def eqA (P : Program) : Nat → TypeId → SV → SV → Option Bool
 | 0, _, _, _ => none
 | d + 1, t, a, b => match aggK P t with
  | some .int => match a, b with
   | .int k x, .int k' y => match zkr k k' with
    | true => some (eqZ x y)
    | false => none
   | _, _ => none
  | some .str => match a, b with
   | .str x, .str y => some (zzr x y)
   | _, _ => none
  | some (.st fs) => match a, b with
   | .agg xs, .agg ys => zxj P (eqA P d) xs ys fs
   | _, _ => none
  | some (.ar n e z) => match a, b with
   | .agg xs, .agg ys => y12 P (eqA P d e) e z xs ys n 0
   | _, _ => none
  | none => eqS P t a b

def rOf (b : Bool) : Option Bool × Unit := if b then (none, ()) else (some false, ())

section
variable {m : Map}

theorem zxt (x y : List UInt8) : ((⟨x.toArray⟩ : ByteArray) == ⟨y.toArray⟩) = (x == y) := by
 have : ((⟨x.toArray⟩ : ByteArray) == ⟨y.toArray⟩) = (x.toArray == y.toArray) := rfl
 rw [this]
 simp

theorem zre {w : World} {n : Nat} {eq : TypeId → SV → SV → Option Bool} (hq : ∀ {t a b r v u}, eq t a b = some r → conc m a = some v → conc m b = some u → (Op.equalIn n t v u).run P w = .ok r w) {xs ys : List SV} {vs us : List Value} (hx : concs m xs = some vs) (hy : concs m ys = some us) :
  ∀ {l : List Field} {r : Bool}, zxj P eq xs ys l = some r → ∀ s0 : Option Bool × Unit, s0 = (none, ()) →
  (forIn (m := Sem) l s0 fun (f : Field) (_ : Option Bool × Unit) =>
       if f.name ≠ "_" then do
        let a ← part f.type vs.toArray f.offset
        let b ← part f.type us.toArray f.offset
        let c ← Op.equalIn n f.type a b
        if (!c) = true then pure (ForInStep.done (some false, ()))
         else pure (ForInStep.yield (none, ()))
       else pure (ForInStep.yield (none, ()))).run P w = .ok (rOf r) w
 | [], r, h, s0, hs => by
  simp only [zxj, Option.some.injEq] at h
  subst h hs
  rfl
 | f :: l, r, h, s0, hs => by
  subst hs
  simp only [zxj] at h
  rw [List.forIn_cons]
  split at h
  ·rename_i hn
   have hn' : ¬ (f.name ≠ "_") := by simpa using hn
   rw [if_neg hn']
   simp only [Sem.run_bind, Sem.run_pure, Result.andThen_ok]
   exact zre hq hx hy h _ rfl
  ·rename_i hn
   have hn' : f.name ≠ "_" := by simpa using hn
   rw [if_pos hn']
   split at h
   ·rename_i a b ha hb
    obtain ⟨v, hv, hvc⟩ := zl3 ha hx w
    obtain ⟨u, hu, huc⟩ := zl3 hb hy w
    split at h
    ·rename_i he
     have := hq he hvc huc
     simp only [Sem.run_bind, hv, hu, this, Result.andThen_ok, Bool.not_true, Bool.false_eq_true, if_false, Sem.run_pure]
     exact zre hq hx hy h _ rfl
    ·rename_i he
     simp only [Option.some.injEq] at h
     subst h
     have := hq he hvc huc
     simp only [Sem.run_bind, hv, hu, this, Result.andThen_ok, Bool.not_false, if_true, Sem.run_pure]
     rfl
    ·simp at h
   ·simp at h

theorem zui {w : World} {n : Nat} {eq : SV → SV → Option Bool} {e : TypeId} {z : Nat} (hq : ∀ {a b r v u}, eq a b = some r → conc m a = some v → conc m b = some u → (Op.equalIn n e v u).run P w = .ok r w) {xs ys : List SV} {vs us : List Value} (hx : concs m xs = some vs) (hy : concs m ys = some us) :
    ∀ {k i : Nat} {r : Bool}, y12 P eq e z xs ys k i = some r → ∀ s0 : Option Bool × Unit, s0 = (none, ()) →
    (forIn (m := Sem) (List.range' i k) s0 fun (i : Nat) (_ : Option Bool × Unit) => do
            let a ← part e vs.toArray (i * z)
            let b ← part e us.toArray (i * z)
            let c ← Op.equalIn n e a b
            if (!c) = true then pure (ForInStep.done (some false, ())) else pure (ForInStep.yield (none, ()))).run P w = .ok (rOf r) w
  | 0, i, r, h, s0, hs => by
    simp only [y12, Option.some.injEq] at h
    subst h hs
    rfl
  | k + 1, i, r, h, s0, hs => by
    subst hs
    simp only [y12] at h
    rw [List.range'_succ, List.forIn_cons]
    split at h
    · rename_i a b ha hb
      obtain ⟨v, hv, hvc⟩ := zl3 ha hx w
      obtain ⟨u, hu, huc⟩ := zl3 hb hy w
      simp only [Nat.mul_eq] at hv hu
      split at h
      · rename_i he
        have := hq he hvc huc
        simp only [Sem.run_bind, hv, hu, this, Result.andThen_ok, Bool.not_true, Bool.false_eq_true, if_false, Sem.run_pure]
        exact zui hq hx hy h _ rfl
      · rename_i he
        simp only [Option.some.injEq] at h
        subst h
        have := hq he hvc huc
        simp only [Sem.run_bind, hv, hu, this, Result.andThen_ok, Bool.not_false, if_true, Sem.run_pure]
        rfl
      · simp at h
    · simp at h

theorem zxf {w : World} : ∀ (d j : Nat) {t : TypeId} {a b : SV} {r : Bool}, eqA P d t a b = some r → ∀ {v u : Value}, conc m a = some v → conc m b = some u → (Op.equalIn (d + j) t v u).run P w = .ok r w
 | 0, j, t, a, b, r, h, _, _, _, _ => by simp [eqA] at h
 | d + 1, j, t, a, b, r, h, v, u, ha, hb => by
  rw [show d + 1 + j = (d + j) + 1 by omega]
  simp only [eqA] at h
  split at h
  next hk =>
   unfold aggK at hk
   split at hk
   next k hd =>
    split at h
    next kx x ky y =>
     split at h
     next hkk =>
      obtain rfl := zns hkk
      simp only [Option.some.injEq] at h
      subst h
      obtain rfl := zi8 ha
      obtain rfl := zi8 hb
      simp [Op.equalIn, Sem.run_bind, run_underlying hd, zlm]
     next => simp at h
    next => simp at h
   next => simp at hk
   next => split at hk <;> simp at hk
   next => split at hk <;> simp at hk
   next => simp at hk
  next hk =>
   unfold aggK at hk
   split at hk
   next => simp at hk
   next hd =>
    split at h
    next x y =>
     simp only [Option.some.injEq] at h
     subst h
     obtain rfl := zjj ha
     obtain rfl := zjj hb
     simp only [Op.equalIn, Sem.run_bind, run_underlying hd, Result.andThen_ok, Sem.run_pure, zxt, zle]
    next => simp at h
   next => split at hk <;> simp at hk
   next => split at hk <;> simp at hk
   next => simp at hk
  next fs hk =>
   unfold aggK at hk
   split at hk
   next => simp at hk
   next => simp at hk
   next fs' hd =>
    split at hk
    next => simp at hk
    next hs =>
     simp only [Option.some.injEq, AggK.st.injEq] at hk
     subst hk
     split at h
     next xs ys =>
      obtain ⟨vs, hvs, rfl⟩ := zjv ha
      obtain ⟨us, hus, rfl⟩ := zjv hb
      have := zre (P := P) (w := w) (n := d + j) (eq := eqA P d) (fun h1 h2 h3 => zxf d j h1 h2 h3) hvs hus h (none, ()) rfl
      rw [← Array.toArray_toList (xs := fs')] at hd
      simp only [Op.equalIn, Sem.run_bind, run_underlying hd, Result.andThen_ok, program, Sem.run, hs, Bool.false_eq_true, if_false, List.forIn_toArray]
      rw [this]
      cases r <;> rfl
     next => simp at h
   next => split at hk <;> simp at hk
   next => simp at hk
  next n e z hk =>
   unfold aggK at hk
   split at hk
   next => simp at hk
   next => simp at hk
   next => split at hk <;> simp at hk
   next n' e' hd =>
    split at hk
    next z' hz =>
     simp only [Option.some.injEq, AggK.ar.injEq] at hk
     obtain ⟨rfl, rfl, rfl⟩ := hk
     split at h
     next xs ys =>
      obtain ⟨vs, hvs, rfl⟩ := zjv ha
      obtain ⟨us, hus, rfl⟩ := zjv hb
      have := zui (P := P) (w := w) (n := d + j) (eq := eqA P d e') (fun h1 h2 h3 => zxf d j h1 h2 h3) hvs hus h (none, ()) rfl
      simp only [Op.equalIn, Sem.run_bind, run_underlying hd, Result.andThen_ok, zik hz, Std.Legacy.Range.forIn_eq_forIn_range', Std.Legacy.Range.size]
      simp only [Nat.sub_zero, Nat.add_sub_cancel, Nat.div_one] 
      rw [this]
      cases r <;> rfl
     next => simp at h
    next => simp at hk
   next => simp at hk
  next => exact zwr h ha hb w _

end
end Go.Ev

/- Maps. -/
namespace Go.Ev
open Go.RowKit
variable {P : Program}

section
variable {m : Map} {w : World}

theorem zx4 {w : World} {t : TypeId} {a b : SV} {r : Bool} (h : eqA P 12 t a b = some r) {v u : Value} (ha : conc m a = some v) (hb : conc m b = some u) : (Op.equal t v u).run P w = .ok r w :=
 zxf 12 9988 h ha hb

end
end Go.Ev

