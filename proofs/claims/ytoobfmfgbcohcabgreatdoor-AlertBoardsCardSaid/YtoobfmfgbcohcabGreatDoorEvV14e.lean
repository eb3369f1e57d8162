/- A part of the small machine. -/
import Derived.Test.YtoobfmfgbcohcabGreatDoorEvV14c
import Derived.Lib.UnsafeStr
import Derived.Room.MakeNoZero
set_option linter.unusedVariables false
/- Operations on maps. -/
namespace Go.Ev
open Go.RowKit
variable {P : Program}

/-- EQUALITY of values of the small machine. -/
noncomputable def y1n (a b : Option Nat) : Bool := match a, b with
 | some x, some y => Nat.beq x y
 | none, none => true
 | _, _ => false
noncomputable def zyk (a b : Fn) : Bool := match a, b with
 | .func x, .func y => Nat.beq x y
 | .method x, .method y => x == y
 | _, _ => false
theorem zy8 {a b : Fn} (h : zyk a b = true) : a = b := by
 unfold zyk at h
 split at h
 ·rw [Nat.eq_of_beq_eq_true h]
 ·rw [eq_of_beq h]
 ·simp at h

mutual
noncomputable def zir : SV → SV → Bool
 | .bool a, .bool b => a == b
 | .int k a, .int j b => zkr k j && eqZ a b
 | .str a, .str b => zzr a b
 | .nilp, .nilp => true
 | .ptr b o, .ptr c q => b.beq c && Nat.beq o q
 | .nils, .nils => true
 | .slice b o n c, .slice b' o' n' c' => b.beq b' && (Nat.beq o o' && (Nat.beq n n' && Nat.beq c c'))
 | .ope b o n c, .ope b' o' n' c' => b.beq b' && (Nat.beq o o' && (Nat.beq n n' && Nat.beq c c'))
 | .opz b o n c, .opz b' o' n' c' => b.beq b' && (Nat.beq o o' && (Nat.beq n n' && Nat.beq c c'))
 | .rawz a, .rawz b => decide (a = b)
 | .nilm, .nilm => true
 | .map b, .map c => b.beq c
 | .nilf, .nilf => true
 | .fn f a b, .fn g c d => zyk f g && (zm4 a c && zm4 b d)
 | .yield a, .yield b => a.beq b
 | .nili, .nili => true
 | .iface t v, .iface u x => Nat.beq t u && zir v x
 | .agg a, .agg b => zm4 a b
 | .tuple a, .tuple b => zm4 a b
 | _, _ => false
noncomputable def zm4 : List SV → List SV → Bool
 | [], [] => true
 | a :: l, b :: k => zir a b && zm4 l k
 | _, _ => false
end

mutual
theorem zqx : ∀ (a b : SV), zir a b = true → a = b
 | .bool a, b, h => by cases b <;> simp [zir] at h; rw [h]
 | .int k a, b, h => by
  cases b <;> simp [zir, zlm] at h
  rw [zns h.1, h.2]
 | .str a, b, h => by cases b <;> simp [zir, zle] at h; rw [h]
 | .nilp, b, h => by cases b <;> simp [zir] at h; rfl
 | .ptr x o, b, h => by cases b <;> simp [zir, Pos.beq_iff] at h; rw [h.1, h.2]
 | .nils, b, h => by cases b <;> simp [zir] at h; rfl
 | .slice x o n c, b, h => by cases b <;> simp [zir, Pos.beq_iff] at h; rw [h.1, h.2.1, h.2.2.1, h.2.2.2]
 | .ope x o n c, b, h => by cases b <;> simp [zir, Pos.beq_iff] at h; rw [h.1, h.2.1, h.2.2.1, h.2.2.2]
 | .opz x o n c, b, h => by cases b <;> simp [zir, Pos.beq_iff] at h; rw [h.1, h.2.1, h.2.2.1, h.2.2.2]
 | .rawz x, b, h => by cases b <;> simp [zir] at h; rw [h]
 | .nilm, b, h => by cases b <;> simp [zir] at h; rfl
 | .map x, b, h => by cases b <;> simp [zir, Pos.beq_iff] at h; rw [h]
 | .nilf, b, h => by cases b <;> simp [zir] at h; rfl
 | .fn f a c, b, h => by
  cases b <;> simp [zir] at h
  rw [zy8 h.1, zlw _ _ h.2.1, zlw _ _ h.2.2]
 | .yield a, b, h => by cases b <;> simp [zir, Pos.beq_iff] at h; rw [h]
 | .nili, b, h => by cases b <;> simp [zir] at h; rfl
 | .iface t v, b, h => by
  cases b <;> simp [zir] at h
  rw [h.1, zqx _ _ h.2]
 | .agg a, b, h => by
  cases b <;> simp [zir] at h
  rw [zlw _ _ h]
 | .tuple a, b, h => by
  cases b <;> simp [zir] at h
  rw [zlw _ _ h]
theorem zlw : ∀ (a b : List SV), zm4 a b = true → a = b
 | [], b, h => by cases b <;> simp [zm4] at h; rfl
 | a :: l, b, h => by
  cases b <;> simp [zm4] at h
  rw [zqx _ _ h.1, zlw _ _ h.2]
end

noncomputable def zzc (M : Mem) (b : Pos) : Option (List (SV × SV × Nat) × Nat) := match M.t.get b with
 | some (.map es c) => some (es, c)
 | _ => none
theorem zz5 {M : Mem} {b : Pos} {es : List (SV × SV × Nat)} {c : Nat} (h : zzc M b = some (es, c)) : M.t.get b = some (.map es c) := by
 unfold zzc at h
 split at h
 ·rename_i hb; simp only [Option.some.injEq, Prod.mk.injEq] at h; obtain ⟨rfl, rfl⟩ := h; exact hb
 ·simp at h

noncomputable def putObj (M : Mem) (b : Pos) (o : SObj) : Mem := Mem.rec (fun t n f => ⟨t.put (some o) b, n, f⟩) M
/-- The types of a map. -/
noncomputable def mapT (P : Program) (t : TypeId) : Option (TypeId × TypeId) :=
 match P.underlying t with
 | some (.map k e) => some (k, e)
 | _ => none
section
variable {B : Nat} {m : Map} {M : Mem} {w : World}

theorem zyu {b : Pos} {v : Value} (h : conc m (.map b) = some v) : ∃ p, m b = some p ∧ v = .map (some p.block) := by
 simp only [conc, Option.map_eq_some_iff] at h
 obtain ⟨p, hp, rfl⟩ := h
 exact ⟨p, hp, rfl⟩

theorem y0r (hr : MRel B m M w) {b : Pos} {p : Pl} {es : List (SV × SV × Nat)} {c : Nat} (hb : zzc M b = some (es, c)) (hp : m b = some p) :
  ∃ a, w.heap[p.block]? = some (.map a c) ∧ zj3 (zko m) es a.toList := by
 have := hr.objs b _ p (zz5 hb) hp
 obtain ⟨a, h1, h2⟩ := this
 exact ⟨a, h1, h2⟩

/-- MAKE -/
noncomputable def zqs (M : Mem) : Out := .bad

theorem zqu (hr : MRel B m M w) (t : TypeId) : zib P B m M w (do Pure.pure (Next.value (← Instr.makeMap t none))) (zqs M) := trivial

noncomputable def zrx (P : Program) (t : TypeId) (x k : SV) (ok : Bool) (M : Mem) : Out := .bad

theorem zs6 (hr : MRel B m M w) {t : TypeId} {x k : SV} {ok : Bool} {v u : Value} (hx : conc m x = some v) (hk : conc m k = some u) :
  zib P B m M w (do Pure.pure (Next.value (← Instr.lookup t v u ok))) (zrx P t x k ok M) := trivial

noncomputable def zm7 (P : Program) (t : TypeId) (x k v : SV) (M : Mem) : Out := .bad

theorem zlu (hr : MRel B m M w) {t : TypeId} {x k s : SV} {v u sv : Value} (hx : conc m x = some v) (hk : conc m k = some u) (hs : conc m s = some sv) :
  zib P B m M w (do Instr.mapUpdate t v u sv; Pure.pure Next.skip) (zm7 P t x k s M) := trivial

noncomputable def zxi (P : Program) (t : TypeId) (x k : SV) (M : Mem) : Out := .bad

theorem zsc (hr : MRel B m M w) {t u ty : TypeId} {x k : SV} {v y : Value} (hx : conc m x = some v) (hk : conc m k = some y) :
  zib P B m M w (do Pure.pure (Next.value (← Builtin.delete_ #[t, u] ty #[v, y]))) (zxi P t x k M) := trivial

end
end Go.Ev

/- Unsafe pointers, capacities, bytes that are not set: what strings.Builder does. -/
namespace Go.Ev
open Go.RowKit
variable {P : Program}

section
variable {B : Nat} {m : Map} {M : Mem} {w : World}

inductive UvK where
 | to (n : Nat)
 | back (u : TypeId)

noncomputable def uvK (P : Program) (s d : TypeId) : Option UvK :=
 match P.underlying s, P.underlying d with
 | some (.pointer t), some .unsafePointer => match szOf P t with
  | some n => some (.to n)
  | none => none
 | some .unsafePointer, some (.pointer u) => some (.back u)
 | _, _ => none

theorem y0u {s d : TypeId} {n : Nat} (h : uvK P s d = some (.to n)) : ∃ t j, P.underlying s = some (.pointer t) ∧ P.underlying d = some .unsafePointer ∧ P.info? t = some j ∧ j.size = n := by
 unfold uvK at h
 split at h
 ·rename_i t h1 h2
  split at h
  ·rename_i n' hn
   simp only [Option.some.injEq, UvK.to.injEq] at h
   subst h
   simp only [szOf, Option.map_eq_some_iff] at hn
   obtain ⟨i, hi, rfl⟩ := hn
   exact ⟨t, i, h1, h2, hi, rfl⟩
  ·simp at h
 ·simp at h
 ·simp at h
theorem zyc {s d u : TypeId} (h : uvK P s d = some (.back u)) : P.underlying s = some .unsafePointer ∧ P.underlying d = some (.pointer u) := by
 unfold uvK at h
 split at h
 ·split at h <;> simp at h
 ·rename_i u' h1 h2
  simp only [Option.some.injEq, UvK.back.injEq] at h
  subst h
  exact ⟨h1, h2⟩
 ·simp at h

noncomputable def zor (M : Mem) (b : Pos) : Option (TypeId × List SV) := match M.t.get b with
 | some (.row e .whole cells) => some (e, cells)
 | _ => none
theorem zvd {b : Pos} {e : TypeId} {cells : List SV} (h : zor M b = some (e, cells)) : M.t.get b = some (.row e .whole cells) := by
 unfold zor at h
 split at h
 ·rename_i hb
  simp only [Option.some.injEq, Prod.mk.injEq] at h
  obtain ⟨rfl, rfl⟩ := h
  exact hb
 ·simp at h

noncomputable def ziq (P : Program) (s d : TypeId) (x : SV) (M : Mem) : Out :=
 match uvK P s d with
 | none => zkp P s d x M
 | some (.to n) => match x with
  | .nilp => .val .nilp M
  | .ptr b off => match zj7 M b with
   | some cells => match Nat.ble 1 n, Nat.ble (Nat.succ off) (len cells) with
    | true, true => .val (.ptr b off) M
    | _, _ => .bad
   | _ => .bad
  | _ => .bad
 | some (.back u) => match x with
  | .nilp => .val .nilp M
  | .ptr b off => match zor M b with
   | some (e, cells) => match Nat.beq off 0, Nat.beq e u, Nat.beq (P.cellsOf e) (len cells), Nat.ble 1 (len cells) with
    | true, true, true, true => .val (.ptr b off) M
    | _, _, _, _ => .bad
   | none => .bad
  | _ => .bad

theorem ztt {e : TypeId} (hs : P.cellsOf e ≠ 0) : liesAt P P.depth e (P.cellsOf e / P.cellsOf e) 0 e 1 = true := by
 have hd : P.depth = (2 * (P.types.size + Made.depth) + 1) + 1 := rfl
 have hss : P.cellsOf e / P.cellsOf e = 1 := Nat.div_self (by omega)
 rw [hss, hd]
 simp only [liesAt, Bool.or_eq_true]
 left
 rw [hd]
 simp [rowAt, hs, sameLayout]

theorem zq2 (hr : MRel B m M w) {s d : TypeId} {x : SV} {v : Value} (hv : conc m x = some v) :
  zib P B m M w (do Pure.pure (Next.value (← convert s d v))) (ziq P s d x M) := by
 unfold ziq
 split
 next => exact zr4 hr hv
 next n hk =>
  obtain ⟨t, j, h1, h2, h3, h4⟩ := y0u hk
  split
  next =>
   have hv' : v = .pointer none := by simp [conc] at hv; exact hv.symm
   subst hv'
   exact zib.pure hr (v := .pointer none) (by simp [convert, run_underlying h1, run_underlying h2, Conv.unsafePointer]) rfl
  next b off =>
   obtain ⟨p, hp, rfl⟩ := zit hv
   split
   next cells hc =>
    split
    next hn hl =>
     have hn' := Nat.le_of_ble_eq_true hn
     have hl' := Nat.le_of_ble_eq_true hl
     rw [zio] at hl'
     obtain ⟨e, fz, pre, vs, post, hh, hs, hsz, hcv⟩ := zw8 hr hc hp
     have hvl := zi5 hcv
     have hsh : w.shape? p.block = some (e, (pre ++ (vs ++ post)).toArray.size) := by simp [World.shape?, hh]
     refine zib.pure hr (v := .pointer (some ⟨p.block, off + p.shift, none⟩)) ?_ hv
     exact Lib.run_to_unsafe w ⟨p.block, off + p.shift, none⟩ h1 h2 h3 (by omega) hsh (by simp; omega)
    next => trivial
   next => trivial
  next => trivial
 next u hk =>
  obtain ⟨h1, h2⟩ := zyc hk
  split
  next =>
   have hv' : v = .pointer none := by simp [conc] at hv; exact hv.symm
   subst hv'
   exact zib.pure hr (v := .pointer none) (by simp [convert, run_underlying h1, run_underlying h2, Conv.unsafePointer]) rfl
  next b off =>
   obtain ⟨p, hp, rfl⟩ := zit hv
   split
   next e cells hw =>
    split
    next g1 g2 g3 g4 =>
     obtain rfl := Nat.eq_of_beq_eq_true g1
     obtain rfl := Nat.eq_of_beq_eq_true g2
     have g3' := Nat.eq_of_beq_eq_true g3
     have g4' := Nat.le_of_ble_eq_true g4
     rw [zio] at g3' g4'
     obtain ⟨e', fz, pre, vs, post, hh, hz, hs, hsz, hcv, hte⟩ := hr.objs b _ p (zvd hw) hp
     obtain rfl := hte _ rfl
     obtain ⟨_, hz2, hz3⟩ : fz.2 = 0 ∧ p.shift = 0 ∧ p.size = vs.length := hz
     have hvl := zi5 hcv
     have hne : P.cellsOf e' ≠ 0 := by omega
     obtain ⟨j, hj⟩ : ∃ j, P.info? e' = some j := by
      cases hi : P.info? e' with
      | none => simp [Program.cellsOf, hi] at hne
      | some j => exact ⟨j, rfl⟩
     have hsh : w.shape? p.block = some (e', P.cellsOf e') := by
      simp [World.shape?, hh]; omega
     refine zib.pure hr (v := .pointer (some ⟨p.block, 0 + p.shift, none⟩)) ?_ hv
     exact Lib.run_from_unsafe w ⟨p.block, 0 + p.shift, none⟩ h1 h2 hj hsh (by show liesAt P P.depth e' _ (0 + p.shift) e' 1 = true; rw [hz2]; exact ztt hne)
    next => trivial
   next => trivial
  next => trivial

/-- CAP -/
noncomputable def y16 (P : Program) (t : TypeId) (x : SV) (M : Mem) : Out :=
 match lenK P t with
 | some (.arr n) => .val (goI n) M
 | some .sl => match x with
  | .nils => .val (goI 0) M
  | .slice _ _ _ c => .val (goI c) M
  | _ => .bad
 | _ => .bad

theorem zwq (hr : MRel B m M w) {t ty : TypeId} {x : SV} {v : Value} (hv : conc m x = some v) :
  zib P B m M w (do Pure.pure (Next.value (← Builtin.cap_ #[t] ty #[v]))) (y16 P t x M) := by
 unfold y16
 split
 next n hk =>
  refine zib.pure hr (v := goInt n) ?_ rfl
  rcases zuu hk with ⟨e, hd⟩ | ⟨a, e, hd, hd'⟩
  ·simp [Builtin.cap_, Sem.run_bind, run_underlying hd]
  ·simp [Builtin.cap_, Sem.run_bind, run_underlying hd, run_underlying hd']
 next hk =>
  obtain ⟨e, hd⟩ := zxy hk
  split
  next =>
   have hv' : v = .slice none 0 0 := by simp [conc] at hv; exact hv.symm
   subst hv'
   exact zib.pure hr (v := goInt 0) (by simp [Builtin.cap_, Sem.run_bind, run_underlying hd]) rfl
  next b off n c =>
   obtain ⟨p, hp, rfl⟩ := ziu hv
   exact zib.pure hr (v := goInt c) (by simp [Builtin.cap_, Sem.run_bind, run_underlying hd]) rfl
  next => trivial
 next => trivial

/-- The address of a slice's cells. -/
noncomputable def zj8 (x : SV) (M : Mem) : Out :=
 match x with
 | .nils => .val .nilp M
 | .slice b off _ c => match Nat.ble 1 c with
  | true => .val (.ptr b off) M
  | false => .bad
 | .ope b off n _ => match Nat.ble 1 n with
  | true => .val (.ptr b off) M
  | false => .bad
 | _ => .bad

theorem zp4 (hr : MRel B m M w) {ts : Array TypeId} {ty : TypeId} {x : SV} {v : Value} (hv : conc m x = some v) :
  zib P B m M w (do Pure.pure (Next.value (← Builtin.unsafeSliceData_ ts ty #[v]))) (zj8 x M) := by
 unfold zj8
 split
 next =>
  have hv' : v = .slice none 0 0 := by simp [conc] at hv; exact hv.symm
  subst hv'
  exact zib.pure hr (v := .pointer none) (Lib.run_unsafeSliceData_nil w ts ty 0 0) rfl
 next b off n c =>
  obtain ⟨p, hp, rfl⟩ := ziu hv
  split
  next hc =>
   have := Nat.le_of_ble_eq_true hc
   exact zib.pure hr (v := .pointer (some ⟨p.block, off + p.shift, none⟩)) (Lib.run_unsafeSliceData_row w ts ty _ n c (by omega)) (by simp [conc, hp])
  next => trivial
 next b off n z =>
  obtain ⟨p, hp, hz0, hfit, rfl⟩ := zjt hv
  split
  next hc =>
   have := Nat.le_of_ble_eq_true hc
   have hcap : n ≤ (p.size - (off + p.shift)) / z := by rw [Nat.le_div_iff_mul_le hz0]; omega
   exact zib.pure hr (v := .pointer (some ⟨p.block, off + p.shift, none⟩)) (Lib.run_unsafeSliceData_row w ts ty _ n _ (by omega)) (by simp [conc, hp])
  next => trivial
 next => trivial

/-- A string over cells. -/
noncomputable def ptrElt (P : Program) (t : TypeId) : Option TypeId := match P.underlying t with
 | some (.pointer e) => some e
 | _ => none
theorem zsu {t e : TypeId} (h : ptrElt P t = some e) : P.underlying t = some (.pointer e) := by
 unfold ptrElt at h
 split at h
 ·rename_i hd; simp only [Option.some.injEq] at h; subst h; exact hd
 ·simp at h

noncomputable def y04 (k : RK) (n : Nat) : Option RK := match k with
 | .mark => none
 | .lost => none
 | .head j => some (.head (Bool.rec j n (Nat.ble j n)))
 | .whole => some (.head n)

noncomputable def zmw (P : Program) (ts : List TypeId) (x l : SV) (M : Mem) : Out :=
 match ts with
 | [pt, _] => match l with
  | .int .i64 i => match ziw i with
   | some 0 => match x with
    | .nilp => .val (.str []) M
    | .ptr _ _ => .val (.str []) M
    | _ => .bad
   | some n => match x with
    | .ptr b off => match M.t.get b with
     | some (.row e k cells) => match above M b, ptrElt P pt, Nat.beq (P.cellsOf e) 1, y04 k (Nat.add off n), Nat.ble (Nat.add off n) (len cells), zr8 (tk n (dp off cells)) with
      | true, some u, true, some k', true, some ns => match Nat.beq e u, Nat.ble n 1073741824 with
       | true, true => .val (.str (zk0 ns)) (zzk M b (some (.row e k' cells)))
       | _, _ => .bad
      | _, _, _, _, _, _ => .bad
     | _ => .bad
    | _ => .bad
   | none => .bad
  | _ => .bad
 | _ => .bad

theorem zr6 {e : TypeId} (hc : P.cellsOf e = 1) (count off n : Nat) (hn : off + n ≤ count) : liesAt P P.depth e count off e n = true := by
 have hd : P.depth = (2 * (P.types.size + Made.depth) + 1) + 1 := rfl
 rw [hd]
 simp only [liesAt, Bool.or_eq_true]
 left
 rw [hd]
 simp [rowAt, hc, hn, sameLayout, Nat.mod_one]

theorem zmi : ∀ (l : List Int) (a : Addr) (acc : ByteArray), (∀ j x, l[j]? = some x → w.cell? (a.add j) = some (.int .u8 x)) →
  (loadBytes a acc l.length).run P w = .ok ⟨acc.data ++ (zk0 l).toArray⟩ w
 | [], a, acc, _ => by simp [loadBytes, zk0]
 | x :: l, a, acc, h => by
  have h0 : w.cell? a = some (.int .u8 x) := by
   have := h 0 x rfl
   simpa [Addr.add] using this
  have ih := zmi l (a.add 1) (acc.push x.toNat.toUInt8) (fun j y hy => by
   have := h (j + 1) y (by simpa using hy)
   have e : (a.add 1).add j = a.add (j + 1) := by
    unfold Addr.add
    by_cases hj : j = 0
    ·subst hj; simp
    ·simp [hj]; omega
   rw [e]; exact this)
  simp only [List.length_cons, loadBytes, Sem.run_bind, run_load, h0, Result.andThen]
  rw [ih]
  congr 1
  apply ByteArray.ext
  have : zk0 (x :: l) = UInt8.ofNat x.toNat :: zk0 l := rfl
  rw [this]
  simp [ByteArray.push, Nat.toUInt8]

theorem ztf {pt it ty e : TypeId} (hp : P.underlying pt = some (.pointer e)) (hc : P.cellsOf e = 1) (g off cells : Nat) (hsh : w.shape? g = some (e, cells)) (l : List Int) (h0 : l ≠ []) (hn : off + l.length ≤ cells) (h63 : l.length ≤ 1073741824)
  (hcell : ∀ j x, l[j]? = some x → w.cell? ((⟨g, off, none⟩ : Addr).add j) = some (.int .u8 x)) :
  (Builtin.unsafeString_ #[pt, it] ty #[.pointer (some ⟨g, off, none⟩), .int .i64 l.length]).run P w = .ok (.string ⟨(zk0 l).toArray⟩) (w.freeze ⟨g, off, none⟩ l.length) := by
 have hl : l.length ≠ 0 := by simpa using h0
 have hlb := zmi (P := P) (w := w) l ⟨g, off, none⟩ .empty hcell
 have hlies := zr6 (P := P) hc (cells / P.cellsOf e) off l.length (by rw [hc]; simpa using hn)
 have b : ¬ (9223372036854775807 : Int) < (l.length : Int) := by omega
 obtain ⟨msg, hdef⟩ : ∃ msg : String, Builtin.unsafeString_ #[pt, it] ty #[.pointer (some ⟨g, off, none⟩), .int .i64 l.length] =
   (do
    let n ← asInt (.int .i64 l.length)
    if n < 0 then runtimePanic (.error msg)
    if n > IntKind.i64.max then unsupported (.unsafePointer "String: a length above the largest int")
    if n = 0 then pure (.string .empty)
    else if ← variablesAt ⟨g, off, none⟩ (← elemOf pt) n.toNat then do
     let s ← loadBytes ⟨g, off, none⟩ .empty n.toNat
     freeze ⟨g, off, none⟩ n.toNat
     pure (.string s)
    else unsupported (.unsafePointer "String: not so many bytes at ptr")) := ⟨_, rfl⟩
 rw [hdef]
 have hmax : IntKind.i64.max = 9223372036854775807 := rfl
 have hneg : ¬ (l.length : Int) < 0 := by omega
 simp [asInt, asIntOf, hmax, b, hneg, hl, variablesAt, hsh, elemOf, run_underlying hp, hlies, hlb]

theorem zo6 (w : World) (a : Addr) (n k : Nat) (hk : k ≠ a.block) : (w.freeze a n).heap[k]? = w.heap[k]? := by
 unfold World.freeze
 split
 ·rfl
 ·simp only [Array.getElem?_modify]
  rw [if_neg (by omega)]
theorem zxq (w : World) (a : Addr) (n : Nat) (hn : n ≠ 0) {c : Array Value} {e : TypeId} {fz : Nat × Nat} (h : w.heap[a.block]? = some (.cells c e fz)) :
  (w.freeze a n).heap[a.block]? = some (.cells c e (if fz.1 == fz.2 then (a.off, a.off + n) else (min fz.1 a.off, max fz.2 (a.off + n)))) := by
 unfold World.freeze
 rw [if_neg hn]
 simp only [Array.getElem?_modify, if_true, h, Option.map_some]
theorem ztz (w : World) (a : Addr) (n : Nat) : (w.freeze a n).heap.size = w.heap.size := by
 unfold World.freeze
 split
 ·rfl
 ·simp
theorem ztd (w : World) (a : Addr) (n : Nat) : (w.freeze a n).os = w.os ∧ (w.freeze a n).tape = w.tape ∧ (w.freeze a n).output = w.output := by
 unfold World.freeze
 split <;> exact ⟨rfl, rfl, rfl⟩

theorem zyo {k k' : RK} {p : Pl} {c n : Nat} {fz : Nat × Nat} {off : Nat} (hk : y04 k (off + n) = some k') (h : Frz k p c fz) :
  Frz k' p c (if fz.1 == fz.2 then (off + p.shift, off + p.shift + n) else (min fz.1 (off + p.shift), max fz.2 (off + p.shift + n))) := by
 have hle : ∀ j : Nat, j ≤ Bool.rec (motive := fun _ => Nat) j (off + n) (Nat.ble j (off + n)) ∧ off + n ≤ Bool.rec (motive := fun _ => Nat) j (off + n) (Nat.ble j (off + n)) := by
  intro j
  cases hb : Nat.ble j (off + n) with
  | true => have := Nat.le_of_ble_eq_true hb; exact ⟨this, Nat.le_refl _⟩
  | false =>
   have : ¬ j ≤ off + n := fun h => by rw [Nat.ble_eq_true_of_le h] at hb; simp at hb
   exact ⟨Nat.le_refl _, by show off + n ≤ j; omega⟩
 cases k with
 | mark => simp [y04] at hk
 | lost => simp [y04] at hk
 | head j =>
  simp only [y04, Option.some.injEq] at hk
  subst hk
  have h' : fz.2 ≤ p.shift + j := h
  have := hle j
  split
  ·show off + p.shift + n ≤ p.shift + _
   omega
  ·show max fz.2 (off + p.shift + n) ≤ p.shift + _
   omega
 | whole =>
  simp only [y04, Option.some.injEq] at hk
  subst hk
  have h' : fz.2 = 0 ∧ p.shift = 0 ∧ p.size = c := h
  split
  ·show off + p.shift + n ≤ p.shift + (off + n)
   omega
  ·show max fz.2 (off + p.shift + n) ≤ p.shift + (off + n)
   omega

theorem zrr (hr : MRel B m M w) {ts : List TypeId} {ty : TypeId} {x l : SV} {v u : Value} (hv : conc m x = some v) (hl : conc m l = some u) :
  zib P B m M w (do Pure.pure (Next.value (← Builtin.unsafeString_ ts.toArray ty #[v, u]))) (zmw P ts x l M) := by
 unfold zmw
 split
 next pt it =>
  split
  next i =>
   obtain rfl := zi8 hl
   split
   next hi =>
    obtain rfl := zia hi
    split
    next =>
     have hv' : v = .pointer none := by simp [conc] at hv; exact hv.symm
     subst hv'
     exact zib.pure hr (v := .string .empty) (Lib.run_unsafeString_none w pt it ty none) rfl
    next b off =>
     obtain ⟨p, hp, rfl⟩ := zit hv
     exact zib.pure hr (v := .string .empty) (Lib.run_unsafeString_none w pt it ty _) rfl
    next => trivial
   next n hn0 hi =>
    obtain rfl := zia hi
    split
    next b off =>
     obtain ⟨p, hp, rfl⟩ := zit hv
     split
     next e k cells hb =>
      split
      next ue k' ns ha hu h1 hk hle hns =>
       split
       next heu hn30 =>
        obtain rfl := Nat.eq_of_beq_eq_true heu
        have h1' := Nat.eq_of_beq_eq_true h1
        have hle' := Nat.le_of_ble_eq_true hle
        have c := Nat.le_of_ble_eq_true hn30
        rw [zio] at hle'
        simp only [Nat.add_eq] at hle' hk
        rw [zki, zkj] at hns
        obtain ⟨e', fz, pre, vs, post, hh, hz, hs, hsz, hcv, hte⟩ := hr.objs b _ p hb hp
        obtain rfl := hte _ rfl
        obtain ⟨cs, hcs, hcl, hcell, _⟩ := zlx (P := P) hr (zlt hb) hp hle'
        obtain rfl := znz hns hcs
        simp only [List.length_map] at hcl
        have hvl := zi5 hcv
        have hsh : w.shape? p.block = some (e', p.size) := by
         simp [World.shape?, hh]; omega
        have a : n ≠ 0 := fun h => by subst h; exact hn0 rfl
        have hrun := ztf (P := P) (w := w) (it := it) (ty := ty) (zsu hu) h1' p.block (off + p.shift) p.size hsh ns (by intro h; subst h; simp at hcl; omega) (by omega) (by omega) (fun j x hx => hcell j _ (by simp [hx]))
        rw [hcl] at hrun
        have hat := zxq w ⟨p.block, off + p.shift, none⟩ n a hh
        have hlow := hr.low b _ p hb rfl hp
        refine zib.value (m' := m) (w' := w.freeze ⟨p.block, off + p.shift, none⟩ n) hrun rfl ?_
        obtain ⟨f1, f2, f3⟩ := ztd w ⟨p.block, off + p.shift, none⟩ n
        refine zi0.update hr b _ _ p hb rfl hp (fun k hk => zo6 w _ n k hk) ⟨f1, f2, f3, by rw [ztz]; exact Nat.le_refl _, fun k hk => zo6 w _ n k (by show k ≠ p.block; omega)⟩ rfl ?_ (znc ha)
        exact ⟨e', _, pre, vs, post, hat, zyo hk hz, hs, hsz, hcv, hte⟩
       next => trivial
      next => trivial
     next => trivial
    next => trivial
   next => trivial
  next => trivial
 next => trivial

/-- internal/bytealg.MakeNoZero -/
noncomputable def makeK (P : Program) (f : FuncId) : Option TypeId :=
 match P.funcs[f]? with
 | none => none
 | some fn => match fn.body.isNone && fn.origin == "" && fn.name == "internal/bytealg.MakeNoZero" with
  | false => none
  | true => match fn.resultTypes.toList with
   | [t] => match P.underlying t with
    | some (.slice e) => some e
    | _ => none
   | _ => none

noncomputable def ztu (e : TypeId) (as : List SV) (M : Mem) : Out := match as with
 | [.int .i64 i] => match ziw i with
  | some n => match Nat.ble n 1073741824 with
   | true => .val (.ope (zk1 M) 0 n 1) (ziz e (.head 0) M [])
   | false => .bad
  | none => .bad
 | _ => .bad

theorem zu7 : ∀ (fn : Func), fn.name = "internal/bytealg.MakeNoZero" → fn.origin = "" → Extern.findNext fn = none ∧ Extern.find fn = some (Extern.BytealgMakeNoZero.makeNoZero fn.params fn.resultTypes) := by
 intro fn h1 h2
 constructor
 ·unfold Extern.findNext
  rw [h1, h2]
  have e1 : Extern.allNextRows.lookup "internal/bytealg.MakeNoZero" = none := by kernel_rfl
  have e2 : Extern.allNextRows.lookup "" = none := by kernel_rfl
  simp [e1, e2]
 ·unfold Extern.find
  rw [h1]
  have e1 : Extern.allGenericRows.lookup "internal/bytealg.MakeNoZero" = none := by kernel_rfl
  have e2 : Extern.allTypedRows.lookup "internal/bytealg.MakeNoZero" = some Extern.BytealgMakeNoZero.makeNoZero := by kernel_rfl
  simp [e1, e2]

theorem zt3 (hr : MRel B m M w) {f : FuncId} {e : TypeId} (hf : makeK P f = some e) {as : List SV} {vs : Array Value} (has : concs m as = some vs.toList) :
  zib P B m M w (callFunc f vs) (ztu e as M) := by
 unfold makeK at hf
 split at hf
 ·simp at hf
 ·rename_i fn hfn
  split at hf
  ·simp at hf
  ·rename_i hb
   simp only [Bool.and_eq_true, beq_iff_eq] at hb
   obtain ⟨⟨hbody, horig⟩, hname⟩ := hb
   split at hf
   ·rename_i t hrt
    split at hf
    ·rename_i e' hd
     simp only [Option.some.injEq] at hf
     subst hf
     unfold ztu
     split
     next i =>
      split
      next n hn =>
       split
       next hle =>
        have hle' := Nat.le_of_ble_eq_true hle
        obtain rfl := zia hn
        obtain ⟨v, h1, hvs⟩ := zkc has
        obtain rfl := zi8 h1
        have hvs' : vs = #[.int .i64 (n : Int)] := by
         apply Array.ext'; rw [hvs]
        subst hvs'
        obtain ⟨g1, g2⟩ := zu7 fn hname horig
        have hrt' : fn.resultTypes = #[t] := by apply Array.ext'; rw [hrt]
        have hrun := run_callFunc_extern hfn (by rw [hname]; decide) hbody g1 g2 #[.int .i64 (n : Int)] w
        rw [hrt'] at hrun
        obtain ⟨cs, hcs, a, _, _⟩ := Lib.run_makeNoZero_cap (P := P) w fn.params t e' hd n (by omega)
        rw [hcs] at hrun
        obtain ⟨m', hs, hm⟩ := znu hr (.head 0) (.inl (by simp)) e' (cells := []) (vs := []) (post := cs.toList) (concs_nil m) (w' := w.drew.drew.alloc (.cells cs e')) (by show w.heap.push _ = _; simp) rfl rfl rfl
        refine ⟨_, m', _, hrun, ?_, hs⟩
        show conc m' (.ope (zk1 M) 0 n 1) = some (.slice (some ⟨w.heap.size, 0, none⟩) n cs.size)
        simp only [conc, zjx, hm, Option.bind_some, Nat.zero_add, Nat.mul_one, Nat.sub_zero, Nat.div_one, List.length_nil, Array.length_toList]
        rw [if_pos ⟨by omega, by simpa using a⟩]
       next => trivial
      next => trivial
     next => trivial
    ·simp at hf
   ·simp at hf

noncomputable def zmj (P : Program) (f : SV) (as : List SV) (M : Mem) : Out :=
 match f with
 | .fn (.func k) first captured => match makeK P k with
  | some e => ztu e (app (app first as) captured) M
  | none => zte P (.fn (.func k) first captured) as M
 | f => zte P f as M

theorem zts (hr : MRel B m M w) {f : SV} {as : List SV} {v : Value} {vs : Array Value} (hf : conc m f = some v) (has : concs m as = some vs.toList) :
  zib P B m M w (do let d ← Deferred.ofValue v vs; invoke d.target d.args) (zmj P f as M) := by
 unfold zmj
 split
 next k first captured =>
  split
  next e he =>
   obtain ⟨fs, cs, h1, h2, rfl⟩ := zo1 hf
   have hargs : concs m (app (app first as) captured) = some (fs.toArray ++ vs ++ cs.toArray).toList := by
    rw [zj1, zj1]
    have := concs_append (concs_append h1 has) h2
    simpa using this
   exact zt3 hr he hargs
  next => exact zqa hr hf has
 next => exact zqa hr hf has

/-- Equality of pointers into one row. -/
noncomputable def zw0 (P : Program) (op : BinOp) (t : TypeId) (a b : SV) : Option Bool :=
 match op, a, b with
 | .eql, .ptr x o, .ptr y q => match ptrElt P t with
  | some e => match P.info? e, Pos.beq x y, Nat.beq o q with
   | some _, true, true => some true
   | _, _, _ => none
  | none => none
 | .neq, .ptr x o, .ptr y q => match ptrElt P t with
  | some e => match P.info? e, Pos.beq x y, Nat.beq o q with
   | some _, true, true => some false
   | _, _, _ => none
  | none => none
 | _, _, _ => none

theorem zps {tp te : TypeId} {j : TypeInfo} (a : Addr) (hp : P.underlying tp = some (.pointer te)) (hte : P.info? te = some j) :
  (binOp .eql tp (.pointer (some a)) (.pointer (some a))).run P w = .ok (.bool true) w := by
 have h : ∀ d : Nat, (Op.equalIn (d + 1) tp (.pointer (some a)) (.pointer (some a))).run P w = .ok true w := fun d => by
  simp [Op.equalIn, run_underlying hp, sizeOf, typeInfo, hte, run_sameAddr_same]
 simp only [binOp]
 simp [Op.equal, Op.maxDepth, h 9999]

theorem zx7 {op : BinOp} {t : TypeId} {a b : SV} {r : Bool} {v u : Value} (h : zw0 P op t a b = some r) (ha : conc m a = some v) (hb : conc m b = some u) (x y : Operand) :
  (do eqGuard op t x y v u; binOp op t v u : Sem Value).run P w = .ok (.bool r) w := by
 have key : ∀ {bb : Pos} {o : Nat} {e : TypeId} {j : TypeInfo}, a = .ptr bb o → b = .ptr bb o → ptrElt P t = some e → P.info? e = some j → ∃ ad, v = .pointer (some ad) ∧ u = .pointer (some ad) ∧ P.underlying t = some (.pointer e) := by
  intro bb o e j h1 h2 h3 h4
  subst h1 h2
  obtain ⟨p, hp, rfl⟩ := zit ha
  obtain ⟨q, hq, rfl⟩ := zit hb
  rw [hp] at hq
  cases hq
  exact ⟨_, rfl, rfl, zsu h3⟩
 unfold zw0 at h
 split at h
 ·split at h
  ·rename_i e he
   split at h
   ·rename_i j hj hx ho
    simp only [Option.some.injEq] at h
    subst h
    have hx' := (Pos.beq_iff _ _).1 hx
    have ho' := Nat.eq_of_beq_eq_true ho
    subst hx' ho'
    obtain ⟨ad, rfl, rfl, hd⟩ := key rfl rfl he hj
    have hg : (eqGuard .eql t x y (.pointer (some ad)) (.pointer (some ad))).run P w = .ok () w := rfl
    simp only [Sem.run_bind, hg, Result.andThen_ok]
    exact zps ad hd hj
   ·simp at h
  ·simp at h
 ·split at h
  ·rename_i e he
   split at h
   ·rename_i j hj hx ho
    simp only [Option.some.injEq] at h
    subst h
    have hx' := (Pos.beq_iff _ _).1 hx
    have ho' := Nat.eq_of_beq_eq_true ho
    subst hx' ho'
    obtain ⟨ad, rfl, rfl, hd⟩ := key rfl rfl he hj
    have hg : (eqGuard .neq t x y (.pointer (some ad)) (.pointer (some ad))).run P w = .ok () w := rfl
    simp only [Sem.run_bind, hg, Result.andThen_ok]
    exact Lib.run_neq_ptr_same w ad hd hj
   ·simp at h
  ·simp at h
 ·simp at h

end
end Go.Ev

