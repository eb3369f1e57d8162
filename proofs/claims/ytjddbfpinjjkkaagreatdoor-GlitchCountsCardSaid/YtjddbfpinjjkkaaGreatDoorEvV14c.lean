/- A part of the small machine. -/
import Derived.Test.YtjddbfpinjjkkaaGreatDoorEvV14
set_option linter.unusedVariables false
namespace Go.Ev
open Go.RowKit
variable {P : Program}
noncomputable def zo8 (P : Program) (eq : TypeId → SV → SV → Option Bool) (xs ys : List SV) : List Field → Option Bool
 | [] => some true
 | f :: l => match f.name == "_" with
  | true => zo8 P eq xs ys l
  | false => match zdo P f.type xs f.offset, zdo P f.type ys f.offset with
   | some a, some b => match eq f.type a b with
    | some true => zo8 P eq xs ys l
    | some false => some false
    | none => none
   | _, _ => none
noncomputable def zt5 (P : Program) (eq : SV → SV → Option Bool) (e : TypeId) (z : Nat) (xs ys : List SV) : (n i : Nat) → Option Bool
 | 0, _ => some true
 | n + 1, i => match zdo P e xs (Nat.mul i z), zdo P e ys (Nat.mul i z) with
  | some a, some b => match eq a b with
   | some true => zt5 P eq e z xs ys n (Nat.succ i)
   | some false => some false
   | none => none
  | _, _ => none
inductive AggK where
 | int | str
 | st (fs : List Field)
 | ar (n : Nat) (e : TypeId) (z : Nat)
noncomputable def aggK (P : Program) (t : TypeId) : Option AggK :=
 match P.underlying t with
 | some (.int _) => some .int
 | some .string => some .str
 | some (.struct fs) => match P.stoodInHeld t with
  | true => none
  | false => some (.st fs.toList)
 | some (.array n e) => match szOf P e with
  | some z => some (.ar n e z)
  | none => none
 | _ => none
noncomputable def eqA (P : Program) : Nat → TypeId → SV → SV → Option Bool
 | 0, _, _, _ => none
 | d + 1, t, a, b => match aggK P t with
  | some .int => match a, b with
   | .int k x, .int k' y => match za8 k k' with
    | true => some (eqZ x y)
    | false => none
   | _, _ => none
  | some .str => match a, b with
   | .str x, .str y => some (zq6 x y)
   | _, _ => none
  | some (.st fs) => match a, b with
   | .agg xs, .agg ys => zo8 P (eqA P d) xs ys fs
   | _, _ => none
  | some (.ar n e z) => match a, b with
   | .agg xs, .agg ys => zt5 P (eqA P d e) e z xs ys n 0
   | _, _ => none
  | none => eqS P t a b
def rOf (b : Bool) : Option Bool × Unit := if b then (none, ()) else (some false, ())
section
variable {m : Map}
theorem zfd (x y : List UInt8) : ((⟨x.toArray⟩ : ByteArray) == ⟨y.toArray⟩) = (x == y) := by
 have : ((⟨x.toArray⟩ : ByteArray) == ⟨y.toArray⟩) = (x.toArray == y.toArray) := rfl
 rw [this]
 simp
theorem zi0 {w : World} {n : Nat} {eq : TypeId → SV → SV → Option Bool} (hq : ∀ {t a b r v u}, eq t a b = some r → conc m a = some v → conc m b = some u → (Op.equalIn n t v u).run P w = .ok r w) {xs ys : List SV} {vs us : List Value} (hx : concs m xs = some vs) (hy : concs m ys = some us) :
  ∀ {l : List Field} {r : Bool}, zo8 P eq xs ys l = some r → ∀ s0 : Option Bool × Unit, s0 = (none, ()) →
  (forIn (m := Sem) l s0 fun (f : Field) (_ : Option Bool × Unit) =>
       if f.name ≠ "_" then do
        let a ← part f.type vs.toArray f.offset
        let b ← part f.type us.toArray f.offset
        let c ← Op.equalIn n f.type a b
        if (!c) = true then pure (ForInStep.done (some false, ()))
         else pure (ForInStep.yield (none, ()))
       else pure (ForInStep.yield (none, ()))).run P w = .ok (rOf r) w
 | [], r, h, s0, hs => by
  simp only [zo8, Option.some.injEq] at h
  subst h hs
  rfl
 | f :: l, r, h, s0, hs => by
  subst hs
  simp only [zo8] at h
  rw [List.forIn_cons]
  split at h
  ·rename_i hn
   have hn' : ¬ (f.name ≠ "_") := by simpa using hn
   rw [if_neg hn']
   simp only [Sem.run_bind, Sem.run_pure, Result.andThen_ok]
   exact zi0 hq hx hy h _ rfl
  ·rename_i hn
   have hn' : f.name ≠ "_" := by simpa using hn
   rw [if_pos hn']
   split at h
   ·rename_i a b ha hb
    obtain ⟨v, hv, hvc⟩ := zah ha hx w
    obtain ⟨u, hu, huc⟩ := zah hb hy w
    split at h
    ·rename_i he
     have := hq he hvc huc
     simp only [Sem.run_bind, hv, hu, this, Result.andThen_ok, Bool.not_true, Bool.false_eq_true, if_false, Sem.run_pure]
     exact zi0 hq hx hy h _ rfl
    ·rename_i he
     simp only [Option.some.injEq] at h
     subst h
     have := hq he hvc huc
     simp only [Sem.run_bind, hv, hu, this, Result.andThen_ok, Bool.not_false, if_true, Sem.run_pure]
     rfl
    ·simp at h
   ·simp at h
theorem zlq {w : World} {n : Nat} {eq : SV → SV → Option Bool} {e : TypeId} {z : Nat} (hq : ∀ {a b r v u}, eq a b = some r → conc m a = some v → conc m b = some u → (Op.equalIn n e v u).run P w = .ok r w) {xs ys : List SV} {vs us : List Value} (hx : concs m xs = some vs) (hy : concs m ys = some us) :
    ∀ {k i : Nat} {r : Bool}, zt5 P eq e z xs ys k i = some r → ∀ s0 : Option Bool × Unit, s0 = (none, ()) →
    (forIn (m := Sem) (List.range' i k) s0 fun (i : Nat) (_ : Option Bool × Unit) => do
            let a ← part e vs.toArray (i * z)
            let b ← part e us.toArray (i * z)
            let c ← Op.equalIn n e a b
            if (!c) = true then pure (ForInStep.done (some false, ())) else pure (ForInStep.yield (none, ()))).run P w = .ok (rOf r) w
  | 0, i, r, h, s0, hs => by
    simp only [zt5, Option.some.injEq] at h
    subst h hs
    rfl
  | k + 1, i, r, h, s0, hs => by
    subst hs
    simp only [zt5] at h
    rw [List.range'_succ, List.forIn_cons]
    split at h
    · rename_i a b ha hb
      obtain ⟨v, hv, hvc⟩ := zah ha hx w
      obtain ⟨u, hu, huc⟩ := zah hb hy w
      simp only [Nat.mul_eq] at hv hu
      split at h
      · rename_i he
        have := hq he hvc huc
        simp only [Sem.run_bind, hv, hu, this, Result.andThen_ok, Bool.not_true, Bool.false_eq_true, if_false, Sem.run_pure]
        exact zlq hq hx hy h _ rfl
      · rename_i he
        simp only [Option.some.injEq] at h
        subst h
        have := hq he hvc huc
        simp only [Sem.run_bind, hv, hu, this, Result.andThen_ok, Bool.not_false, if_true, Sem.run_pure]
        rfl
      · simp at h
    · simp at h
theorem zde {b : Bool} {v : Value} (h : conc m (.bool b) = some v) : v = .bool b := by simp [conc] at h; exact h.symm
theorem zo7 {w : World} : ∀ (d j : Nat) {t : TypeId} {a b : SV} {r : Bool}, eqA P d t a b = some r → ∀ {v u : Value}, conc m a = some v → conc m b = some u → (Op.equalIn (d + j) t v u).run P w = .ok r w
 | 0, j, t, a, b, r, h, _, _, _, _ => by simp [eqA] at h
 | d + 1, j, t, a, b, r, h, v, u, ha, hb => by
  rw [show d + 1 + j = (d + j) + 1 by omega]
  simp only [eqA] at h
  split at h
  next hk =>
   unfold aggK at hk
   split at hk
   next k hd =>
    split at h
    next kx x ky y =>
     split at h
     next hkk =>
      obtain rfl := zcu hkk
      simp only [Option.some.injEq] at h
      subst h
      obtain rfl := conc_int ha
      obtain rfl := conc_int hb
      simp [Op.equalIn, Sem.run_bind, run_underlying hd, zay]
     next => simp at h
    next => simp at h
   next => simp at hk
   next => split at hk <;> simp at hk
   next => split at hk <;> simp at hk
   next => simp at hk
  next hk =>
   unfold aggK at hk
   split at hk
   next => simp at hk
   next hd =>
    split at h
    next x y =>
     simp only [Option.some.injEq] at h
     subst h
     obtain rfl := z8y ha
     obtain rfl := z8y hb
     simp only [Op.equalIn, Sem.run_bind, run_underlying hd, Result.andThen_ok, Sem.run_pure, zfd, zbl]
    next => simp at h
   next => split at hk <;> simp at hk
   next => split at hk <;> simp at hk
   next => simp at hk
  next fs hk =>
   unfold aggK at hk
   split at hk
   next => simp at hk
   next => simp at hk
   next fs' hd =>
    split at hk
    next => simp at hk
    next hs =>
     simp only [Option.some.injEq, AggK.st.injEq] at hk
     subst hk
     split at h
     next xs ys =>
      obtain ⟨vs, hvs, rfl⟩ := conc_agg ha
      obtain ⟨us, hus, rfl⟩ := conc_agg hb
      have := zi0 (P := P) (w := w) (n := d + j) (eq := eqA P d) (fun h1 h2 h3 => zo7 d j h1 h2 h3) hvs hus h (none, ()) rfl
      rw [← Array.toArray_toList (xs := fs')] at hd
      simp only [Op.equalIn, Sem.run_bind, run_underlying hd, Result.andThen_ok, program, Sem.run, hs, Bool.false_eq_true, if_false, List.forIn_toArray]
      rw [this]
      cases r <;> rfl
     next => simp at h
   next => split at hk <;> simp at hk
   next => simp at hk
  next n e z hk =>
   unfold aggK at hk
   split at hk
   next => simp at hk
   next => simp at hk
   next => split at hk <;> simp at hk
   next n' e' hd =>
    split at hk
    next z' hz =>
     simp only [Option.some.injEq, AggK.ar.injEq] at hk
     obtain ⟨rfl, rfl, rfl⟩ := hk
     split at h
     next xs ys =>
      obtain ⟨vs, hvs, rfl⟩ := conc_agg ha
      obtain ⟨us, hus, rfl⟩ := conc_agg hb
      have := zlq (P := P) (w := w) (n := d + j) (eq := eqA P d e') (fun h1 h2 h3 => zo7 d j h1 h2 h3) hvs hus h (none, ()) rfl
      simp only [Op.equalIn, Sem.run_bind, run_underlying hd, Result.andThen_ok, z8q hz, Std.Legacy.Range.forIn_eq_forIn_range', Std.Legacy.Range.size]
      simp only [Nat.sub_zero, Nat.add_sub_cancel, Nat.div_one] 
      rw [this]
      cases r <;> rfl
     next => simp at h
    next => simp at hk
   next => simp at hk
  next => exact zo9 h ha hb w _
end
end Go.Ev
namespace Go.Ev
open Go.RowKit
variable {P : Program}
noncomputable def keyOK (P : Program) : Nat → TypeId → SV → Bool
 | 0, _, _ => false
 | d + 1, t, s => match P.underlying t with
  | some (.array n e) => match s, szOf P e with
   | .agg l, some z => (List.range n).all fun i => match zdo P e l (Nat.mul i z) with
    | some x => keyOK P d e x
    | none => false
   | _, _ => false
  | some (.int _) => match s with | .int _ _ => true | _ => false
  | some .string => match s with | .str _ => true | _ => false
  | some .bool => match s with | .bool _ => true | _ => false
  | some (.struct fs) => match s with
   | .agg l => fs.toList.all fun f => f.name == "_" || match zdo P f.type l f.offset with
    | some x => keyOK P d f.type x
    | none => false
   | _ => false
  | _ => false
section
variable {m : Map} {w : World}
theorem zh7 {α : Type} {l : List α} {f : α → PUnit → Sem (ForInStep PUnit)} (h : ∀ x ∈ l, ∀ s, (f x s).run P w = .ok (.yield PUnit.unit) w) : (forIn (m := Sem) l PUnit.unit f).run P w = .ok PUnit.unit w := by
 induction l with
 | nil => rfl
 | cons a l ih =>
  rw [List.forIn_cons]
  simp only [Sem.run_bind, h a (by simp), Result.andThen_ok]
  exact ih fun x hx => h x (by simp [hx])
theorem zc8 (em : Bool) : ∀ (d j : Nat) {t : TypeId} {s : SV} {v : Value}, keyOK P d t s = true → conc m s = some v → (Instr.checkKey em (d + j) t v).run P w = .ok () w
 | 0, j, t, s, v, h, _ => by simp [keyOK] at h
 | d + 1, j, t, s, v, h, hv => by
  rw [show d + 1 + j = (d + j) + 1 by omega]
  simp only [keyOK] at h
  split at h
  next n e hd =>
   split at h
   next l z hz =>
    obtain ⟨vs, hvs, rfl⟩ := conc_agg hv
    simp only [List.all_eq_true, List.mem_range] at h
    simp only [Instr.checkKey, Sem.run_bind, run_underlying hd, Result.andThen_ok, Std.Legacy.Range.forIn_eq_forIn_range', Std.Legacy.Range.size]
    refine (congrArg (fun r => Result.andThen r _) (zh7 fun i hi s => ?_)).trans rfl
    have hi' : i < n := by
     have := List.mem_range'.1 hi
     obtain ⟨k, hk, rfl⟩ := this
     simp at hk ⊢; omega
    have := h i hi'
    split at this
    ·rename_i x hx
     obtain ⟨u, hu, huc⟩ := zah hx hvs w
     simp only [Nat.mul_eq] at hu
     have ih := zc8 em d j this huc
     simp only [Sem.run_bind, z8q hz, hu, Result.andThen_ok, ih, Sem.run_pure]
    ·simp at this
   next => simp at h
  next k hd =>
   split at h
   ·obtain rfl := conc_int hv
    simp [Instr.checkKey, Sem.run_bind, run_underlying hd]
   ·simp at h
  next hd =>
   split at h
   ·obtain rfl := z8y hv
    simp [Instr.checkKey, Sem.run_bind, run_underlying hd]
   ·simp at h
  next hd =>
   split at h
   ·obtain rfl := zde hv
    simp [Instr.checkKey, Sem.run_bind, run_underlying hd]
   ·simp at h
  next fs hd =>
   split at h
   next l =>
    obtain ⟨vs, hvs, rfl⟩ := conc_agg hv
    simp only [List.all_eq_true] at h
    rw [← Array.toArray_toList (xs := fs)] at hd
    simp only [Instr.checkKey, Sem.run_bind, run_underlying hd, Result.andThen_ok, List.forIn_toArray]
    refine (congrArg (fun r => Result.andThen r _) (zh7 fun f hf s => ?_)).trans rfl
    have := h f hf
    cases hn : f.name == "_" with
    | true =>
     have hn' : ¬ (f.name ≠ "_") := by simpa using hn
     rw [if_neg hn']
     rfl
    | false =>
     have hn' : f.name ≠ "_" := by simpa using hn
     rw [if_pos hn']
     rw [hn, Bool.false_or] at this
     split at this
     ·rename_i x hx
      obtain ⟨u, hu, huc⟩ := zah hx hvs w
      have ih := zc8 em d j this huc
      simp only [Sem.run_bind, hu, Result.andThen_ok, ih, Sem.run_pure]
     ·simp at this
   next => simp at h
  next => simp at h
inductive KeyK where
 | int | str | bool | ask
noncomputable def keyK (P : Program) (t : TypeId) : Option KeyK :=
 match P.underlying t with
 | some (.int _) => some .int
 | some .string => some .str
 | some .bool => some .bool
 | some (.array _ _) => some .ask
 | some (.struct _) => some .ask
 | _ => none
noncomputable def keyEq (P : Program) (t : TypeId) (a b : SV) : Option Bool :=
 match keyK P t with
 | some .int => match a, b with
  | .int k x, .int k' y => match za8 k k' with
   | true => some (eqZ x y)
   | false => none
  | _, _ => none
 | some .str => match a, b with
  | .str x, .str y => some (zq6 x y)
  | _, _ => none
 | some .bool => match a, b with
  | .bool x, .bool y => some (x == y)
  | _, _ => none
 | some .ask => eqA P 12 t a b
 | none => none
noncomputable def zd1 (P : Program) (t : TypeId) (k : SV) : List (SV × SV × Nat) → Nat → Option (Option (Nat × SV × SV))
 | [], _ => some none
 | (a, v, _) :: es, i => match keyEq P t k a with
  | some true => some (some (i, a, v))
  | some false => zd1 P t k es (Nat.succ i)
  | none => none
def zrv (m : Map) (es : List MapEntry) (i : Nat) : Option (Nat × SV × SV) → Option (Nat × Value) → Prop
 | none, none => True
 | some (n, a, s), some (n', v) => n = n' ∧ ∃ j, n = i + j ∧ conc m s = some v ∧ ∃ e : MapEntry, es[j]? = some e ∧ conc m a = some e.key
 | _, _ => False
theorem zrv.later {es : List MapEntry} {e : MapEntry} {i : Nat} : ∀ {r : Option (Nat × SV × SV)} {q : Option (Nat × Value)}, zrv m es (i + 1) r q → zrv m (e :: es) i r q
 | none, none, _ => trivial
 | some (n, a, s), some (n', v), ⟨h1, j, h2, h3, e', h4, h5⟩ => ⟨h1, j + 1, by omega, h3, e', by simpa using h4, h5⟩
theorem zfl {t : TypeId} {d : TypeDesc} {k : SV} {kv : Value} (hn : ∀ (a : SV) (av : Value) (b : Bool), keyEq P t k a = some b → conc m a = some av → Instr.sameNow d kv av = some b) : ∀ {ss : List (SV × SV × Nat)} {es : List MapEntry} (_ : z8p (z9h m) ss es) {i : Nat} {r : Option (Nat × SV × SV)} (_ : zd1 P t k ss i = some r),
  ∃ q, Instr.findNow d kv es i = some q ∧ zrv m es i r q
 | [], _, .nil, i, r, h => by
  simp only [zd1, Option.some.injEq] at h
  subst h
  exact ⟨none, rfl, trivial⟩
 | (a, v, b) :: ss, e :: es, .cons ⟨h1, h2, h3⟩ hr, i, r, h => by
  simp only [zd1] at h
  simp only at h1 h2
  split at h
  ·rename_i he
   simp only [Option.some.injEq] at h
   subst h
   exact ⟨some (i, e.val), by simp [Instr.findNow, hn a e.key true he h1], rfl, 0, rfl, h2, e, rfl, h1⟩
  ·rename_i he
   obtain ⟨q, hq, hf⟩ := zfl hn hr h
   exact ⟨q, by simp only [Instr.findNow, hn a e.key false he h1]; exact hq, hf.later⟩
  ·simp at h
theorem zfk {t : TypeId} {k : SV} {kv : Value} (hn : ∀ (a : SV) (av : Value) (b : Bool), keyEq P t k a = some b → conc m a = some av → (Op.equal t kv av).run P w = .ok b w) : ∀ {ss : List (SV × SV × Nat)} {es : List MapEntry} (_ : z8p (z9h m) ss es) {i : Nat} {r : Option (Nat × SV × SV)} (_ : zd1 P t k ss i = some r),
  ∃ q, (Instr.findAsking t kv es i).run P w = .ok q w ∧ zrv m es i r q
 | [], _, .nil, i, r, h => by
  simp only [zd1, Option.some.injEq] at h
  subst h
  exact ⟨none, rfl, trivial⟩
 | (a, v, b) :: ss, e :: es, .cons ⟨h1, h2, h3⟩ hr, i, r, h => by
  simp only [zd1] at h
  simp only at h1 h2
  split at h
  ·rename_i he
   simp only [Option.some.injEq] at h
   subst h
   exact ⟨some (i, e.val), by simp [Instr.findAsking, Sem.run_bind, hn a e.key true he h1], rfl, 0, rfl, h2, e, rfl, h1⟩
  ·rename_i he
   obtain ⟨q, hq, hf⟩ := zfk hn hr h
   exact ⟨q, by simp only [Instr.findAsking, Sem.run_bind, hn a e.key false he h1, Result.andThen_ok]; exact hq, hf.later⟩
  ·simp at h
theorem zkm {w : World} {t : TypeId} {a b : SV} {r : Bool} (h : eqA P 12 t a b = some r) {v u : Value} (ha : conc m a = some v) (hb : conc m b = some u) : (Op.equal t v u).run P w = .ok r w :=
 zo7 12 9988 h ha hb
theorem zl5 {d : TypeDesc} (hd : (∃ n e, d = .array n e) ∨ ∃ fs, d = .struct fs) (a b : Value) : Instr.sameNow d a b = none := by
 rcases hd with ⟨n, e, rfl⟩ | ⟨fs, rfl⟩ <;> cases a <;> cases b <;> rfl
theorem zbb {t : TypeId} {k : SV} {kv : Value} (hk : conc m k = some kv) {ss : List (SV × SV × Nat)} {es : List MapEntry} (hes : z8p (z9h m) ss es) {d : TypeDesc} (hd : P.underlying t = some d) {r : Option (Nat × SV × SV)} (h : zd1 P t k ss 0 = some r) :
  ∃ q, (Instr.findKey t kv es).run P w = .ok q w ∧ zrv m es 0 r q := by
 have now : ∀ (_ : ∀ (a : SV) (av : Value) (b : Bool), keyEq P t k a = some b → conc m a = some av → Instr.sameNow d kv av = some b), ∃ q, (Instr.findKey t kv es).run P w = .ok q w ∧ zrv m es 0 r q := by
  intro hn
  obtain ⟨q, hq, hf⟩ := zfl hn hes h
  exact ⟨q, by simp only [Instr.findKey, Sem.run_bind, run_underlying hd, Result.andThen_ok, hq, Sem.run_pure], hf⟩
 cases hkk : keyK P t with
 | none =>
  cases hes with
  | nil =>
   simp only [zd1, Option.some.injEq] at h
   subst h
   exact ⟨none, by simp [Instr.findKey, run_underlying hd, Instr.findNow], trivial⟩
  | cons a b =>
   rename_i a' b' l k'
   obtain ⟨x, y, z⟩ := a'
   simp [zd1, keyEq, hkk] at h
 | some kk =>
  have hkk' := hkk
  unfold keyK at hkk'
  rw [hd] at hkk'
  cases kk with
  | int =>
   refine now fun a av b he ha => ?_
   simp only [keyEq, hkk] at he
   split at he
   ·split at he
    ·rename_i hq
     obtain rfl := zcu hq
     simp only [Option.some.injEq] at he
     subst he
     obtain rfl := conc_int hk
     obtain rfl := conc_int ha
     cases d <;> simp at hkk'
     simp [Instr.sameNow, zay]
    ·simp at he
   ·simp at he
  | str =>
   refine now fun a av b he ha => ?_
   simp only [keyEq, hkk] at he
   split at he
   ·simp only [Option.some.injEq] at he
    subst he
    obtain rfl := z8y hk
    obtain rfl := z8y ha
    cases d <;> simp at hkk'
    simp only [Instr.sameNow, zfd, zbl]
   ·simp at he
  | bool =>
   refine now fun a av b he ha => ?_
   simp only [keyEq, hkk] at he
   split at he
   ·simp only [Option.some.injEq] at he
    subst he
    obtain rfl := zde hk
    obtain rfl := zde ha
    cases d <;> simp at hkk'
    rfl
   ·simp at he
  | ask =>
   have hn : ∀ (a : SV) (av : Value) (b : Bool), keyEq P t k a = some b → conc m a = some av → (Op.equal t kv av).run P w = .ok b w := by
    intro a av b he ha
    simp only [keyEq, hkk] at he
    exact zkm he hk ha
   have hdd : (∃ n e, d = .array n e) ∨ ∃ fs, d = .struct fs := by
    cases d <;> simp at hkk'
    ·exact .inl ⟨_, _, rfl⟩
    ·exact .inr ⟨_, rfl⟩
   cases hes with
   | nil =>
    simp only [zd1, Option.some.injEq] at h
    subst h
    exact ⟨none, by simp [Instr.findKey, run_underlying hd, Instr.findNow], trivial⟩
   | cons a b =>
    rename_i a' b' l k'
    obtain ⟨q, hq, hf⟩ := zfk hn (.cons a b) h
    refine ⟨q, ?_, hf⟩
    have : Instr.findNow d kv (b' :: k') 0 = none := by simp [Instr.findNow, zl5 hdd]
    simp only [Instr.findKey, Sem.run_bind, run_underlying hd, Result.andThen_ok, this]
    exact hq
end
end Go.Ev
