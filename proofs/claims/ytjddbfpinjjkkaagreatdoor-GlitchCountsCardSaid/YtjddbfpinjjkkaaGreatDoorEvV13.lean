/- A part of the small machine. -/
import Derived.Test.YtjddbfpinjjkkaaGreatDoorEvV12
import Derived.Lib.Bytealg
import Derived.Lib.Builder
import Derived.Laws.BytesString
import Derived.Laws.Externs
import Derived.RangeFuncRecord
set_option linter.unusedVariables false
namespace Go.Ev
open Go.RowKit
variable {P : Program}
section
variable {B : Nat} {m : Map} {M : Mem} {w : World}
noncomputable def goI (n : Nat) : SV := .int .i64 (Int.ofNat n)
noncomputable def zsr (P : Program) (t : TypeId) (d s : SV) (M : Mem) : Out :=
 match sliceElt P t with
 | none => .bad
 | some x => match zoz x s with
  | none => .bad
  | some n0 => match d with
   | .nils => .val (goI 0) M
   | .slice b off k _ => match z8z M x.size (Nat.min n0 k) s with
    | some [] => .val (goI (Nat.min n0 k)) M
    | some new => match z9p M b off new with
     | some M' => .val (goI (Nat.min n0 k)) M'
     | none => .bad
    | none => .bad
   | .ope b off k _ => match z8z M x.size (Nat.min n0 k) s with
    | some [] => .val (goI (Nat.min n0 k)) M
    | some new => match z9p M b off new with
     | some M' => .val (goI (Nat.min n0 k)) M'
     | none => .bad
    | none => .bad
   | _ => .bad
theorem zdu {t u ty e : TypeId} {i : TypeInfo} (ht : P.underlying t = some (.slice e)) (hi : P.info? e = some i) {base : Option Addr} {k c n0 : Nat} {y : Value} {vs : List Value} {w' : World}
  (hlen : (Builtin.lenOf y).run P w = .ok n0 w) (hnew : (Builtin.firstCells i.size (Nat.min n0 k) y).run P w = .ok vs.toArray w) (hst : ∀ a, base = some a → (storeCells a vs).run P w = .ok () w') (hnone : base = none → w' = w) :
  (Builtin.copy_ #[t, u] ty #[.slice base k c, y]).run P w = .ok (goInt (Nat.min n0 k)) w' := by
 have e1 : (sizeOf e).run P w = .ok i.size w := zb2 hi w
 cases base with
 | none =>
  obtain rfl := hnone rfl
  simp only [Builtin.copy_, List.getElem?_toArray, List.getElem?_cons_zero, List.getElem?_cons_succ, Sem.run_bind, run_underlying ht, Result.andThen_ok, hlen, e1, hnew, Sem.run_pure]
 | some a =>
  simp only [Builtin.copy_, List.getElem?_toArray, List.getElem?_cons_zero, List.getElem?_cons_succ, Sem.run_bind, run_underlying ht, Result.andThen_ok, hlen, e1, hnew, Sem.run_pure, hst a rfl]
theorem znh (hr : MRel B m M w) {t u ty : TypeId} {d s : SV} {v uv : Value} (hv : conc m d = some v) (hy : conc m s = some uv) :
  z8f P B m M w (do Pure.pure (Next.value (← Builtin.copy_ #[t, u] ty #[v, uv]))) (zsr P t d s M) := by
 unfold zsr
 split
 next => trivial
 next x hx =>
  split
  next => trivial
  next n0 hn =>
   obtain ⟨e, ht, hel⟩ := z9b hx
   obtain ⟨i, z, hi, hsz, hby, hz, hzs⟩ := zf4 hel
   obtain ⟨hln, hstr⟩ := zp0 hn
   have hlen := zm0 (P := P) hln hy w
   split
   next =>
    have hv' : v = .slice none 0 0 := by simp [conc] at hv; exact hv.symm
    subst hv'
    have hf : ∃ vs : List Value, (Builtin.firstCells i.size 0 uv).run P w = .ok vs.toArray w := by
     unfold zq2 at hln
     split at hln
     ·have hv' : uv = .slice none 0 0 := by simp [conc] at hy; exact hy.symm
      subst hv'; exact ⟨[], by simp [Builtin.firstCells]⟩
     ·obtain rfl := z8y hy
      exact ⟨[], by simp [Builtin.firstCells]⟩
     ·obtain ⟨p, _, rfl⟩ := z8m hy
      exact ⟨[], by simp [Builtin.firstCells, loadCells, loadCellsFrom]⟩
     ·obtain ⟨p, _, _, _, rfl⟩ := z9d hy
      exact ⟨[], by simp [Builtin.firstCells, loadCells, loadCellsFrom]⟩
     ·obtain ⟨p, _, _, _, rfl⟩ := zax hy
      exact ⟨[], by rw [Builtin.firstCells, Nat.zero_mul]; rfl⟩
     ·simp [conc] at hy
      subst hy
      exact ⟨[], by rw [Builtin.firstCells, Nat.zero_mul]; rfl⟩
     ·simp at hln
    obtain ⟨vs, hf⟩ := hf
    have := zdu (P := P) (w := w) (u := u) (ty := ty) (w' := w) (base := none) (c := 0) (k := 0) ht hi hlen (by simpa using hf) (by simp) (by simp)
    exact z8f.pure hr this (by simp [goI, conc, goInt])
   next b off k c =>
    obtain ⟨p, hp, rfl⟩ := z8m hv
    split
    next hnew =>
     obtain ⟨news, hnc, hnr⟩ := z9x (P := P) hr hnew hy
     have hnz : news = [] := List.eq_nil_of_length_eq_zero (z86 hnc)
     subst hnz
     have := zdu (P := P) (w := w) (u := u) (ty := ty) (w' := w) (base := some ⟨p.block, off + p.shift, none⟩) (c := c) (k := k) ht hi hlen (by rw [hsz]; exact hnr w rfl) (fun a ha => by rfl) (by simp)
     exact z8f.pure hr this rfl
    next new hne hnew =>
     obtain ⟨news, hnc, hnr⟩ := z9x (P := P) hr hnew hy
     split
     next M' hM =>
      obtain ⟨w', hst, hs⟩ := zeg (P := P) hr hM hp hnc
      have := zdu (P := P) (w := w) (u := u) (ty := ty) (w' := w') (base := some ⟨p.block, off + p.shift, none⟩) (c := c) (k := k) ht hi hlen (by rw [hsz]; exact hnr w rfl) (fun a ha => by cases ha; exact hst) (by simp)
      exact z8f.value this rfl hs
     next => trivial
    next => trivial
   next b off k c =>
    obtain ⟨p, hp, _, _, rfl⟩ := z9d hv
    split
    next hnew =>
     obtain ⟨news, hnc, hnr⟩ := z9x (P := P) hr hnew hy
     have hnz : news = [] := List.eq_nil_of_length_eq_zero (z86 hnc)
     subst hnz
     have := zdu (P := P) (w := w) (u := u) (ty := ty) (w' := w) (base := some ⟨p.block, off + p.shift, none⟩) (c := (p.size - (off + p.shift)) / c) (k := k) ht hi hlen (by rw [hsz]; exact hnr w rfl) (fun a ha => by rfl) (by simp)
     exact z8f.pure hr this rfl
    next new hne hnew =>
     obtain ⟨news, hnc, hnr⟩ := z9x (P := P) hr hnew hy
     split
     next M' hM =>
      obtain ⟨w', hst, hs⟩ := zeg (P := P) hr hM hp hnc
      have := zdu (P := P) (w := w) (u := u) (ty := ty) (w' := w') (base := some ⟨p.block, off + p.shift, none⟩) (c := (p.size - (off + p.shift)) / c) (k := k) ht hi hlen (by rw [hsz]; exact hnr w rfl) (fun a ha => by cases ha; exact hst) (by simp)
      exact z8f.value this rfl hs
     next => trivial
    next => trivial
   next => trivial
noncomputable def zpw (P : Program) (t : TypeId) (d : SV) (M : Mem) : Out :=
 match sliceElt P t with
 | none => .bad
 | some x => match d with
  | .nils => .val (.tuple []) M
  | .slice b off k _ => match k with
   | 0 => .val (.tuple []) M
   | k + 1 => match z9p M b off (rep (k + 1) x.zero) with
    | some M' => .val (.tuple []) M'
    | none => .bad
  | .ope b off k _ => match k with
   | 0 => .val (.tuple []) M
   | k + 1 => match z9p M b off (rep (k + 1) x.zero) with
    | some M' => .val (.tuple []) M'
    | none => .bad
  | _ => .bad
theorem zj0 (z : Array Value) (n : Nat) : (Builtin.zeroCells z n).toList = zgu n z.toList := by
 have := zcy n z.toList
 unfold Builtin.zeroCells
 simpa using congrArg Array.toList this
theorem zjz {t ty e : TypeId} {z : Value} {a : Addr} {n c : Nat} {w' : World} (ht : P.underlying t = some (.slice e)) (hz : (zeroValue e).run P w = .ok z w) (hst : (storeCells a (zgu (n + 1) z.cells.toList)).run P w = .ok () w') :
  (Builtin.clear_ #[t] ty #[.slice (some a) (n + 1) c]).run P w = .ok (.tuple #[]) w' := by
 simp only [Builtin.clear_, List.getElem?_toArray, List.getElem?_cons_zero, Sem.run_bind, run_underlying ht, Result.andThen_ok, hz, zj0, hst, Sem.run_pure]
theorem zef {t ty e : TypeId} {a : Option Addr} {c : Nat} (ht : P.underlying t = some (.slice e)) : (Builtin.clear_ #[t] ty #[.slice a 0 c]).run P w = .ok (.tuple #[]) w := by
 cases a <;> simp only [Builtin.clear_, List.getElem?_toArray, List.getElem?_cons_zero, Sem.run_bind, run_underlying ht, Result.andThen_ok, Sem.run_pure]
theorem zlc (hr : MRel B m M w) {t ty : TypeId} {d : SV} {v : Value} (hv : conc m d = some v) :
  z8f P B m M w (do Pure.pure (Next.value (← Builtin.clear_ #[t] ty #[v]))) (zpw P t d M) := by
 unfold zpw
 split
 next => trivial
 next x hx =>
  obtain ⟨e, ht, hel⟩ := z9b hx
  obtain ⟨i, z, hi, hsz, hby, hz, hzc, hzs⟩ := zdg hel m w
  split
  next =>
   have hv' : v = .slice none 0 0 := by simp [conc] at hv; exact hv.symm
   subst hv'
   exact z8f.pure hr (zef (w := w) (ty := ty) (a := none) (c := 0) ht) rfl
  next b off k c =>
   obtain ⟨p, hp, rfl⟩ := z8m hv
   split
   next => exact z8f.pure hr (zef (w := w) (ty := ty) (c := c) ht) rfl
   next k =>
    split
    next M' hM =>
     obtain ⟨w', hst, hs⟩ := zeg (P := P) hr hM hp (zdr _ hzc)
     exact z8f.value (zjz (ty := ty) (c := c) ht hz hst) rfl hs
    next => trivial
  next b off k c =>
   obtain ⟨p, hp, _, _, rfl⟩ := z9d hv
   split
   next => exact z8f.pure hr (zef (w := w) (ty := ty) (c := _) ht) rfl
   next k =>
    split
    next M' hM =>
     obtain ⟨w', hst, hs⟩ := zeg (P := P) hr hM hp (zdr _ hzc)
     exact z8f.value (zjz (ty := ty) (c := _) ht hz hst) rfl hs
    next => trivial
  next => trivial
inductive LenK where
 | sl
 | str
 | arr (n : Nat)
 | map
noncomputable def lenK (P : Program) (t : TypeId) : Option LenK :=
 match P.underlying t with
 | some .string => some .str
 | some (.slice _) => some .sl
 | some (.array n _) => some (.arr n)
 | some (.map _ _) => some .map
 | some (.pointer a) => match P.underlying a with
  | some (.array n _) => some (.arr n)
  | _ => none
 | _ => none
theorem zly {t : TypeId} {n : Nat} (h : lenK P t = some (.arr n)) : (∃ e, P.underlying t = some (.array n e)) ∨ ∃ a e, P.underlying t = some (.pointer a) ∧ P.underlying a = some (.array n e) := by
 unfold lenK at h
 split at h
 next => simp at h
 next => simp at h
 next n' e hd => simp only [Option.some.injEq, LenK.arr.injEq] at h; subst h; exact .inl ⟨e, hd⟩
 next => simp at h
 next a hd =>
  split at h
  next n' e hd' => simp only [Option.some.injEq, LenK.arr.injEq] at h; subst h; exact .inr ⟨a, e, hd, hd'⟩
  next => simp at h
 next => simp at h
theorem zoy {t : TypeId} (h : lenK P t = some .sl) : ∃ e, P.underlying t = some (.slice e) := by
 unfold lenK at h
 split at h
 next => simp at h
 next e hd => exact ⟨e, hd⟩
 next => simp at h
 next => simp at h
 next => split at h <;> simp at h
 next => simp at h
theorem zqz {t : TypeId} (h : lenK P t = some .str) : P.underlying t = some .string := by
 unfold lenK at h
 split at h
 next hd => exact hd
 next => simp at h
 next => simp at h
 next => simp at h
 next => split at h <;> simp at h
 next => simp at h
theorem zlz {t : TypeId} (h : lenK P t = some .map) : ∃ k e, P.underlying t = some (.map k e) := by
 unfold lenK at h
 split at h
 next => simp at h
 next => simp at h
 next => simp at h
 next k e hd => exact ⟨k, e, hd⟩
 next => split at h <;> simp at h
 next => simp at h
noncomputable def zss (P : Program) (t : TypeId) (x : SV) (M : Mem) : Out :=
 match lenK P t with
 | some (.arr n) => .val (goI n) M
 | some .sl => match x with
  | .nils => .val (goI 0) M
  | .slice _ _ n _ => .val (goI n) M
  | .ope _ _ n _ => .val (goI n) M
  | .opz _ _ _ _ => .val (goI 0) M
  | .rawz _ => .val (goI 0) M
  | _ => .bad
 | some .str => match x with
  | .str s => .val (goI (zno s)) M
  | _ => .bad
 | some .map => match x with
  | .nilm => .val (goI 0) M
  | _ => .bad
 | none => .bad
theorem zpy (hr : MRel B m M w) {t ty : TypeId} {x : SV} {v : Value} (hv : conc m x = some v) :
  z8f P B m M w (do Pure.pure (Next.value (← Builtin.len_ #[t] ty #[v]))) (zss P t x M) := by
 unfold zss
 split
 next n hk =>
  refine z8f.pure hr (v := goInt n) ?_ rfl
  rcases zly hk with ⟨e, hd⟩ | ⟨a, e, hd, hd'⟩
  ·simp [Builtin.len_, Sem.run_bind, run_underlying hd]
  ·simp [Builtin.len_, Sem.run_bind, run_underlying hd, run_underlying hd']
 next hk =>
  obtain ⟨e, hd⟩ := zoy hk
  split
  next =>
   have hv' : v = .slice none 0 0 := by simp [conc] at hv; exact hv.symm
   subst hv'
   exact z8f.pure hr (v := goInt 0) (by simp [Builtin.len_, Sem.run_bind, run_underlying hd]) rfl
  next b off n c =>
   obtain ⟨p, hp, rfl⟩ := z8m hv
   exact z8f.pure hr (v := goInt n) (by simp [Builtin.len_, Sem.run_bind, run_underlying hd]) rfl
  next b off n c =>
   obtain ⟨p, hp, _, _, rfl⟩ := z9d hv
   exact z8f.pure hr (v := goInt n) (by simp [Builtin.len_, Sem.run_bind, run_underlying hd]) rfl
  next =>
   obtain ⟨p, hp, _, _, rfl⟩ := zax hv
   exact z8f.pure hr (v := goInt 0) (by simp [Builtin.len_, Sem.run_bind, run_underlying hd]) rfl
  next =>
   simp [conc] at hv
   subst hv
   exact z8f.pure hr (v := goInt 0) (by simp [Builtin.len_, Sem.run_bind, run_underlying hd]) rfl
  next => trivial
 next hk =>
  have hd := zqz hk
  split
  next s =>
   obtain rfl := z8y hv
   refine z8f.pure hr (v := goInt (⟨s.toArray⟩ : ByteArray).size) (by simp [Builtin.len_, Sem.run_bind, run_underlying hd]) ?_
   rw [zc9]; rfl
  next => trivial
 next hk =>
  obtain ⟨k, e, hd⟩ := zlz hk
  split
  next =>
   have hv' : v = .map none := by simp [conc] at hv; exact hv.symm
   subst hv'
   exact z8f.pure hr (v := goInt 0) (by simp [Builtin.len_, Sem.run_bind, run_underlying hd]) rfl
  next => trivial
 next => trivial
inductive CvK where
 | int (k : IntKind)
 | str
 | bytes (e : TypeId)
 | ofBytes
 | rune
noncomputable def cvK (P : Program) (s d : TypeId) : Option CvK :=
 match P.underlying s, P.underlying d with
 | some (.int _), some (.int k) => some (.int k)
 | some .string, some .string => some .str
 | some .string, some (.slice e) => match P.underlying e with
  | some (.int .u8) => some (.bytes e)
  | _ => none
 | some (.slice e), some .string => match P.underlying e with
  | some (.int .u8) => some .ofBytes
  | _ => none
 | some (.int _), some .string => some .rune
 | _, _ => none
theorem zrz {s d : TypeId} {k : IntKind} (h : cvK P s d = some (.int k)) : ∃ k1, P.underlying s = some (.int k1) ∧ P.underlying d = some (.int k) := by
 unfold cvK at h
 split at h
 next k1 k2 h1 h2 => simp only [Option.some.injEq, CvK.int.injEq] at h; subst h; exact ⟨k1, h1, h2⟩
 next => simp at h
 next => split at h <;> simp at h
 next => split at h <;> simp at h
 next => simp at h
 next => simp at h
theorem zs0 {s d : TypeId} (h : cvK P s d = some .str) : P.underlying s = some .string ∧ P.underlying d = some .string := by
 unfold cvK at h
 split at h
 next => simp at h
 next h1 h2 => exact ⟨h1, h2⟩
 next => split at h <;> simp at h
 next => split at h <;> simp at h
 next => simp at h
 next => simp at h
theorem znx {s d e : TypeId} (h : cvK P s d = some (.bytes e)) : P.underlying s = some .string ∧ P.underlying d = some (.slice e) ∧ P.underlying e = some (.int .u8) := by
 unfold cvK at h
 split at h
 next => simp at h
 next => simp at h
 next e' h1 h2 =>
  split at h
  next h3 => simp only [Option.some.injEq, CvK.bytes.injEq] at h; subst h; exact ⟨h1, h2, h3⟩
  next => simp at h
 next => split at h <;> simp at h
 next => simp at h
 next => simp at h
theorem zkh {s d : TypeId} (h : cvK P s d = some .ofBytes) : ∃ e, P.underlying s = some (.slice e) ∧ P.underlying d = some .string ∧ P.underlying e = some (.int .u8) := by
 unfold cvK at h
 split at h
 next => simp at h
 next => simp at h
 next => split at h <;> simp at h
 next e' h1 h2 =>
  split at h
  next h3 => exact ⟨_, h1, h2, h3⟩
  next => simp at h
 next => simp at h
 next => simp at h
theorem zqe {s d : TypeId} (h : cvK P s d = some .rune) : ∃ k1, P.underlying s = some (.int k1) ∧ P.underlying d = some .string := by
 unfold cvK at h
 split at h
 next => simp at h
 next => simp at h
 next => split at h <;> simp at h
 next => split at h <;> simp at h
 next k1 h1 h2 => exact ⟨k1, h1, h2⟩
 next => simp at h
noncomputable def zkt : List SV → Option (List Int)
 | [] => some []
 | .int .u8 n :: l => match zkt l with
  | some r => some (n :: r)
  | none => none
 | _ :: _ => none
noncomputable def zb7 (l : List Int) : List UInt8 := List.rec [] (fun n _ ih => UInt8.ofNat n.toNat :: ih) l
theorem ze8 : ∀ {l : List SV} {ns : List Int} {vs : List Value}, zkt l = some ns → concs m l = some vs → vs = ns.map (Value.int .u8)
 | [], ns, vs, h, hc => by
  simp only [zkt, Option.some.injEq] at h
  simp only [concs, Option.some.injEq] at hc
  subst h hc
  rfl
 | s :: l, ns, vs, h, hc => by
  obtain ⟨v, r, hv, hr, rfl⟩ := z85 hc
  unfold zkt at h
  split at h
  ·rename_i heq
   simp at heq
  ·rename_i n l' heq
   simp only [List.cons.injEq] at heq
   obtain ⟨rfl, rfl⟩ := heq
   split at h
   ·rename_i k hk
    simp only [Option.some.injEq] at h
    subst h
    obtain rfl := conc_int hv
    rw [ze8 hk hr]
    rfl
   ·simp at h
  ·simp at h
theorem zjg : ∀ (ns : List Int) (acc : List UInt8), ns.foldl (fun (r : ByteArray) n => r.push (UInt8.ofNat n.toNat)) ⟨acc.toArray⟩ = ⟨(acc ++ zb7 ns).toArray⟩
 | [], acc => by simp [zb7]
 | n :: ns, acc => by
  rw [List.foldl_cons]
  have hp : (⟨acc.toArray⟩ : ByteArray).push (UInt8.ofNat n.toNat) = ⟨(acc ++ [UInt8.ofNat n.toNat]).toArray⟩ := by simp [ByteArray.push]
  rw [hp, zjg ns]
  have : zb7 (n :: ns) = UInt8.ofNat n.toNat :: zb7 ns := rfl
  rw [this]
  simp
noncomputable def zbu (P : Program) (s d : TypeId) (x : SV) (M : Mem) : Out :=
 match cvK P s d with
 | some (.int k) => match x with
  | .int _ n => .val (.int k (zew k n)) M
  | _ => .bad
 | some .str => match x with
  | .str l => .val (.str l) M
  | _ => .bad
 | some (.bytes e) => match x with
  | .str l => match Nat.ble (zno l) 1073741824 with
   | true => .val (.ope (z90 M) 0 (zno l) 1) (z8k e .mark M (zfh l))
   | false => .bad
  | _ => .bad
 | some .ofBytes => match zq2 x with
  | some n => match z8z M 1 n x with
   | some l => match zkt l with
    | some ns => match x with
     | .str _ => .bad
     | _ => .val (.str (zb7 ns)) M
    | none => .bad
   | none => .bad
  | none => .bad
 | some .rune => match x with
  | .int _ n => match intNat n with
   | some c => match Nat.ble c 127 with
    | true => .val (.str [UInt8.ofNat c]) M
    | false => .bad
   | none => .bad
  | _ => .bad
 | none => .bad
theorem zja {c : Nat} (h : c ≤ 127) : Utf8.encode (c : Int) = ⟨[UInt8.ofNat c].toArray⟩ := by
 have hv : Utf8.valid (c : Int) = true := by simp [Utf8.valid]; omega
 simp only [Utf8.encode, hv, if_true, Int.toNat_natCast]
 rw [if_pos (by omega)]
theorem zl3 (w : World) (e : TypeId) (l : List UInt8) (h : l.length ≤ 1073741824) :
  ∃ cap w' post, l.length ≤ cap ∧ (l.map fun b => Value.int .u8 b.toNat).length + post.length = cap ∧ (Conv.stringToBytes e ⟨l.toArray⟩).run P w = .ok (.slice (some ⟨w.heap.size, 0, none⟩) l.length cap) w' ∧
   w'.heap = w.heap.push (.cells ((l.map fun b => Value.int .u8 b.toNat) ++ post).toArray e (cap, cap + 1)) ∧ w'.os = w.os ∧ w'.tape = w.tape ∧ w'.output = w.output := by
 have hge := grownCap_ge w l.length 0 e
 generalize hc : grownCap w l.length 0 e = cap at hge
 let w1 : World := { w with drawn := w.drawn + 1 }
 have hch : (choose (.appendCap l.length 0 e)).run P w = .ok cap w1 := by
  simp [choose, Sem.run, Question.forced, ← hc, grownCap, w1]
 have hsz : (⟨l.toArray⟩ : ByteArray).size = l.length := by simp [ByteArray.size]
 let cells : Array Value := (l.toArray.map fun b => Value.int .u8 b.toNat) ++ Array.replicate (cap - l.length) (.int .u8 0)
 have hcsz : cells.size = cap := by simp [cells]; omega
 let w2 := w1.alloc (.cells cells e)
 have hnew := z9t (P := P) e cells w1
 have hget : w2.heap[w.heap.size]? = some (.cells cells e (0, 0)) := by
  show (w1.heap.push _)[w.heap.size]? = _
  rw [Array.getElem?_push, if_pos rfl]
 let w3 : World := { w2 with heap := w.heap.push (.cells cells e (cap, cap + 1)) }
 have hmark : (markStringish ⟨w.heap.size, 0, none⟩).run P w2 = .ok () w3 := by
  have hsh : w2.shape? w.heap.size = some (e, cap) := by simp [World.shape?, hget, hcsz]
  simp only [markStringish, Sem.run_bind, shape, Sem.run, hsh, Result.andThen_ok, freeze]
  congr 1
  show (if 1 = 0 then w2 else _) = _
  rw [if_neg (by simp)]
  simp only [w3, w2]
  congr 1
  apply Array.ext
  ·simp [World.alloc, w1]
  ·intro k h1 h2
   rw [Array.getElem_modify]
   by_cases hk : w.heap.size = k
   ·subst hk
    simp [World.alloc, w1]
   ·rw [if_neg hk]
    have hk2 : k < w.heap.size := by simp at h2; omega
    apply Option.some.inj
    rw [← Array.getElem?_eq_getElem, ← Array.getElem?_eq_getElem]
    show (w.heap.push _)[k]? = (w.heap.push _)[k]?
    rw [Array.getElem?_push, Array.getElem?_push, if_neg (by omega), if_neg (by omega)]
 refine ⟨cap, w3, List.replicate (cap - l.length) (.int .u8 0), hge, by simp; omega, ?_, ?_, rfl, rfl, rfl⟩
 ·have hcc : (⟨l.toArray⟩ : ByteArray).data.map (fun b => Value.int .u8 b.toNat) ++ Array.replicate (cap - l.length) (.int .u8 0) = cells := rfl
  simp only [Conv.stringToBytes, Sem.run_bind, hsz, hch, Result.andThen_ok, hcc, hnew]
  have : w1.alloc (.cells cells e) = w2 := rfl
  rw [this]
  have hws : w1.heap.size = w.heap.size := rfl
  rw [hws]
  simp only [hmark, Result.andThen_ok, Sem.run_pure]
 ·show w.heap.push _ = w.heap.push _
  congr 2
  simp [cells]
theorem zit (hr : MRel B m M w) {s d : TypeId} {x : SV} {v : Value} (hv : conc m x = some v) :
  z8f P B m M w (do Pure.pure (Next.value (← convert s d v))) (zbu P s d x M) := by
 unfold zbu
 split
 next k hk =>
  split
  next k' n =>
   obtain rfl := conc_int hv
   obtain ⟨k1, h1, h2⟩ := zrz hk
   exact z8f.pure hr (v := .int k (k.wrap n)) (by simp [convert, Sem.run_bind, run_underlying h1, run_underlying h2, Conv.intToInt]) (by rw [z8v]; rfl)
  next => trivial
 next hk =>
  split
  next l =>
   obtain rfl := z8y hv
   obtain ⟨h1, h2⟩ := zs0 hk
   exact z8f.pure hr (v := .string ⟨l.toArray⟩) (by simp [convert, Sem.run_bind, run_underlying h1, run_underlying h2]) rfl
  next => trivial
 next e hk =>
  split
  next l =>
   obtain rfl := z8y hv
   obtain ⟨h1, h2, h3⟩ := znx hk
   split
   next hb =>
    have hb' := Nat.le_of_ble_eq_true hb
    rw [zc9] at hb' ⊢
    obtain ⟨cap, w', post, hcap, hl, hrun, hh, ho, htp, hout⟩ := zl3 (P := P) w e l hb'
    have hs := z82.fresh hr M.t ⟨w.heap.size, 0, cap⟩ (.row e .mark (zfh l)) (w' := w') (fun _ _ h => h) (fun _ _ _ => rfl) (fun _ _ => rfl)
     (fun b x q hx hq => by
      have hlt := hr.bound b q hq
      refine ⟨by simp; omega, ?_⟩
      rw [hh, Array.getElem?_push, if_neg (by omega)])
     ⟨ho, htp, hout, by rw [hh]; simp, fun k hk => by have := hr.base; rw [hh, Array.getElem?_push, if_neg (by omega)]⟩ (by rw [hh]; simp) hr.base rfl (fun m' hm' => by
      rw [hh]
      exact ⟨e, (cap, cap + 1), [], _, post, by simp, .inr (Nat.le_refl _), rfl, by simp only [List.length_nil, Nat.zero_add]; exact hl, zbm m' l, fun t h => Option.some.inj h⟩)
     (fun k hk _ => by rw [hh, Array.getElem?_push, if_neg (by omega)]) (fun h => absurd h (by simp))
    have hs' : z82 B m M w (fun b => if b = M.next then some ⟨w.heap.size, 0, cap⟩ else m b) (z8k e .mark M (zfh l)) w' := by
     cases M with
     | mk t n => exact hs
    refine z8f.value (v := .slice (some ⟨w.heap.size, 0, none⟩) l.length cap) ?_ ?_ hs'
    ·simp only [convert, Sem.run_bind, run_underlying h1, run_underlying h2, run_underlying h3, Result.andThen_ok, hrun]
    ·simp only [conc, z9n, if_true, Option.bind_some, Nat.zero_add, Nat.mul_one, Nat.sub_zero, Nat.div_one]
     rw [if_pos ⟨by omega, hcap⟩]
   next => trivial
  next => trivial
 next hk =>
  split
  next n hn =>
   split
   next l hl =>
    split
    next ns hns =>
     obtain ⟨e, h1, h2, h3⟩ := zkh hk
     obtain ⟨vs, hvs, hrun⟩ := z9x (P := P) hr hl hv
     have hf := hrun w rfl
     obtain rfl := ze8 hns hvs
     have hfold := zjg ns []
     simp only [List.nil_append] at hfold
     have hfin : (ns.foldl (fun (r : ByteArray) n => r.push (UInt8.ofNat n.toNat)) ByteArray.empty) = ⟨(zb7 ns).toArray⟩ := hfold
     split
     next => trivial
     next hne =>
      refine z8f.pure hr (v := .string ⟨(zb7 ns).toArray⟩) ?_ rfl
      unfold zq2 at hn
      split at hn
      ·have hv' : v = .slice none 0 0 := by simp [conc] at hv; exact hv.symm
       subst hv'
       simp only [z8z, Option.some.injEq] at hl
       subst hl
       simp only [zkt, Option.some.injEq] at hns
       subst hns
       simp only [convert, Sem.run_bind, run_underlying h1, run_underlying h2, run_underlying h3, Result.andThen_ok, Conv.bytesToString]
       rfl
      ·exact absurd rfl (hne _)
      ·obtain ⟨p, hp, rfl⟩ := z8m hv
       simp only [Option.some.injEq] at hn
       subst hn
       simp only [Builtin.firstCells, Nat.mul_one] at hf
       rw [run_convert_bytes_string w s d e _ _ _ h1 h3 h2, run_bytesToString w _ _ _ ns hf, hfin]
      ·obtain ⟨p, hp, _, _, rfl⟩ := z9d hv
       simp only [Option.some.injEq] at hn
       subst hn
       simp only [Builtin.firstCells, Nat.mul_one] at hf
       rw [run_convert_bytes_string w s d e _ _ _ h1 h3 h2, run_bytesToString w _ _ _ ns hf, hfin]
      ·obtain ⟨p, hp, _, _, rfl⟩ := zax hv
       simp only [Option.some.injEq] at hn
       subst hn
       simp only [Builtin.firstCells, Nat.mul_one] at hf
       rw [run_convert_bytes_string w s d e _ _ _ h1 h3 h2, run_bytesToString w _ _ _ ns hf, hfin]
      ·simp [conc] at hv
       subst hv
       simp only [Option.some.injEq] at hn
       subst hn
       simp only [Builtin.firstCells, Nat.mul_one] at hf
       rw [run_convert_bytes_string w s d e _ _ _ h1 h3 h2, run_bytesToString w _ _ _ ns hf, hfin]
      ·simp at hn
    next => trivial
   next => trivial
  next => trivial
 next hk =>
  split
  next k' n =>
   obtain rfl := conc_int hv
   obtain ⟨k1, h1, h2⟩ := zqe hk
   split
   next c hc =>
    obtain rfl := intNat_eq hc
    split
    next hb =>
     have hb' := Nat.le_of_ble_eq_true hb
     exact z8f.pure hr (v := .string ⟨[UInt8.ofNat c].toArray⟩) (by simp [convert, Sem.run_bind, run_underlying h1, run_underlying h2, Conv.intToString, zja hb']) rfl
    next => trivial
   next => trivial
  next => trivial
 next => trivial
noncomputable def xUn (op : UnOp) (x : SV) (M : Mem) : Out :=
 match op, x with
 | .neg, .int k n => .val (.int k (zew k (Int.sub 0 n))) M
 | .not, .bool b => .val (.bool (Bool.rec true false b)) M
 | _, _ => .bad
theorem zrf (hr : MRel B m M w) {op : UnOp} {x : SV} {v : Value} (hv : conc m x = some v) :
  z8f P B m M w (do Pure.pure (Next.value (← Op.unary op v))) (xUn op x M) := by
 unfold xUn
 split
 next k n =>
  obtain rfl := conc_int hv
  exact z8f.pure hr (v := .int k (k.wrap (0 - n))) (by simp [Op.unary, Op.intArith]) (by rw [z8v]; rfl)
 next b =>
  have hv' : v = .bool b := by simp [conc] at hv; exact hv.symm
  subst hv'
  exact z8f.pure hr (v := .bool !b) (by simp [Op.unary]) (by cases b <;> rfl)
 next => trivial
noncomputable def zln (P : Program) (t : TypeId) : Bool :=
 match P.underlying t with
 | some (.interface _) => false
 | some _ => true
 | none => false
noncomputable def zhq (P : Program) (t : TypeId) (x : SV) (M : Mem) : Out :=
 match zln P t with
 | true => .val (.iface t x) M
 | false => .bad
theorem zlf (hr : MRel B m M w) {t : TypeId} {x : SV} {v : Value} (hv : conc m x = some v) :
  z8f P B m M w (do Pure.pure (Next.value (← Instr.makeInterface t v))) (zhq P t x M) := by
 unfold zhq
 split
 next hk =>
  refine z8f.pure hr (v := .iface t v) ?_ (by simp [conc, hv])
  unfold zln at hk
  split at hk
  ·simp at hk
  ·rename_i d hne hd
   have hne' : ∀ ms, d ≠ .interface ms := fun ms e => hne ms e
   simp only [Instr.makeInterface, Sem.run_bind, run_underlying hd, Result.andThen_ok]
   cases d <;> first | rfl | exact absurd rfl (hne' _)
  ·simp at hk
 next => trivial
theorem zni (hr : MRel B m M w) {fn : Fn} {a b : List SV} {as bs : Array Value} (ha : concs m a = some as.toList) (hb : concs m b = some bs.toList) :
  z8f P B m M w (do Pure.pure (Next.value (← Instr.makeFunc fn as bs))) (.val (.fn fn a b) M) := by
 exact z8f.pure hr (v := .func fn as bs) (by simp [Instr.makeFunc]) (by simp [conc, ha, hb])
noncomputable def zgs (x : SV) (M : Mem) : Out :=
 match x with
 | .ptr b off => .val (.ptr b off) M
 | .iface t v => .val (.iface t v) M
 | .fn (.func k) a b => .val (.fn (.func k) a b) M
 | _ => .bad
noncomputable def callable (P : Program) (f : FuncId) : Bool :=
 match P.funcs[f]? with
 | some fn => match fn.body with
  | some _ => !(fn.name == "runtime.NumGoroutine")
  | none => false
 | none => false
theorem zc5 {f : FuncId} (h : callable P f = true) (args : Array Value) (w : World) : (callFunc f args).run P w = .ok (.enter f args) w := by
 unfold callable at h
 split at h
 ·rename_i fn hf
  split at h
  ·rename_i b hb
   have hn : ¬ fn.name = "runtime.NumGoroutine" := by simpa using h
   simp [callFunc, Sem.run_bind, program, Sem.run, hf, hn, hb]
  ·simp at h
 ·simp at h
inductive ExtK where
 | add64 | sub64 | idxB | noEsc
noncomputable def ztz (P : Program) (f : FuncId) : Option ExtK :=
 match P.funcs[f]? with
 | none => none
 | some fn => match fn.body.isNone && fn.origin == "" with
  | false => none
  | true => match fn.name == "math/bits.Add64" with
   | true => some .add64
   | false => match fn.name == "math/bits.Sub64" with
    | true => some .sub64
    | false => match fn.name == "internal/bytealg.IndexByteString" with
     | true => some .idxB
     | false => match fn.name == "internal/abi.NoEscape" with
      | true => some .noEsc
      | false => none
noncomputable def zf0 (c : Int) : Option Nat := match c with
 | .ofNat 0 => some 0
 | .ofNat 1 => some 1
 | _ => none
theorem zfi {c : Int} {k : Nat} (h : zf0 c = some k) : c = (k : Int) ∧ k ≤ 1 := by
 unfold zf0 at h
 split at h
 ·simp only [Option.some.injEq] at h; subst h; exact ⟨rfl, by omega⟩
 ·simp only [Option.some.injEq] at h; subst h; exact ⟨rfl, by omega⟩
 ·simp at h
noncomputable def idxB (c : Nat) : Nat → List UInt8 → Int
 | _, [] => Int.negSucc 0
 | i, b :: l => match Nat.beq b.toNat c with
  | true => Int.ofNat i
  | false => idxB c (Nat.succ i) l
theorem zot (c : UInt8) : ∀ (l : List UInt8) (i : Nat), idxB c.toNat i l = if Lib.indexByte l c = -1 then -1 else Lib.indexByte l c + i
 | [], i => rfl
 | b :: l, i => by
  simp only [idxB]
  unfold Lib.indexByte
  split
  ·rename_i h
   have hb : b = c := UInt8.toNat_inj.1 (Nat.eq_of_beq_eq_true h)
   simp [hb]
  ·rename_i h
   have hb : (b == c) = false := by
    rw [beq_eq_false_iff_ne]
    intro e; subst e; simp at h
   rw [zot c l (Nat.succ i), hb]
   have := Lib.indexByte_ge l c
   by_cases h1 : Lib.indexByte l c = -1
   ·simp [h1]
   ·have h2 : (Lib.indexByte l c == -1) = false := by rw [beq_eq_false_iff_ne]; exact h1
    simp only [h1, h2, if_false, Bool.false_eq_true]
    rw [if_neg (by omega)]
    push_cast
    omega
noncomputable def zsx (k : ExtK) (as : List SV) (M : Mem) : Out :=
 match k, as with
 | .add64, [.int .u64 x, .int .u64 y, .int .u64 c] => match intNat x, intNat y, zf0 c with
  | some x, some y, some c => .val (.tuple [.int .u64 (Int.ofNat (Nat.mod (Nat.add (Nat.add x y) c) 18446744073709551616)), .int .u64 (Int.ofNat (Nat.div (Nat.add (Nat.add x y) c) 18446744073709551616))]) M
  | _, _, _ => .bad
 | .sub64, [.int .u64 x, .int .u64 y, .int .u64 c] => match intNat x, intNat y, zf0 c with
  | some x, some y, some c => .val (.tuple [.int .u64 (Int.ofNat (Nat.mod (Nat.sub (Nat.sub (Nat.add x 18446744073709551616) y) c) 18446744073709551616)), .int .u64 (Int.ofNat (Bool.rec 0 1 (Nat.ble (Nat.succ x) (Nat.add y c))))]) M
  | _, _, _ => .bad
 | .idxB, [.str s, .int .u8 c] => match intNat c with
  | some c => match Nat.ble c 255 with
   | true => .val (.int .i64 (idxB c 0 s)) M
   | false => .bad
  | none => .bad
 | .noEsc, [x] => .val x M
 | _, _ => .bad
def zek : Array Value → Sem Value := fun args => do
 let (x, y, b) ← Extern.MathBitsCarry.three "Sub64" args
 pure (Extern.MathBitsCarry.pair ((x + Extern.MathBitsCarry.m64 - y - b) % Extern.MathBitsCarry.m64) (if x < y + b then 1 else 0))
theorem zqk : ∀ (fn : Func), fn.name = "math/bits.Add64" → fn.origin = "" → Extern.findNext fn = none ∧ Extern.find fn = some add64Entry := by
 intro fn h1 h2
 constructor
 ·unfold Extern.findNext
  rw [h1, h2]
  have e1 : Extern.allNextRows.lookup "math/bits.Add64" = none := by kernel_rfl
  have e2 : Extern.allNextRows.lookup "" = none := by kernel_rfl
  simp [e1, e2]
 ·unfold Extern.find
  rw [h1]
  have e1 : Extern.allGenericRows.lookup "math/bits.Add64" = none := by kernel_rfl
  have e2 : Extern.allTypedRows.lookup "math/bits.Add64" = none := by kernel_rfl
  have e3 : Extern.allRows.lookup "math/bits.Add64" = some add64Entry := by kernel_rfl
  simp [e1, e2, e3]
theorem zqm : ∀ (fn : Func), fn.name = "math/bits.Sub64" → fn.origin = "" → Extern.findNext fn = none ∧ Extern.find fn = some zek := by
 intro fn h1 h2
 constructor
 ·unfold Extern.findNext
  rw [h1, h2]
  have e1 : Extern.allNextRows.lookup "math/bits.Sub64" = none := by kernel_rfl
  have e2 : Extern.allNextRows.lookup "" = none := by kernel_rfl
  simp [e1, e2]
 ·unfold Extern.find
  rw [h1]
  have e1 : Extern.allGenericRows.lookup "math/bits.Sub64" = none := by kernel_rfl
  have e2 : Extern.allTypedRows.lookup "math/bits.Sub64" = none := by kernel_rfl
  have e3 : Extern.allRows.lookup "math/bits.Sub64" = some zek := by kernel_rfl
  simp [e1, e2, e3]
theorem zql : ∀ (fn : Func), fn.name = "internal/bytealg.IndexByteString" → fn.origin = "" → Extern.findNext fn = none ∧ Extern.find fn = some Extern.BytealgIndexByte.indexByte := by
 intro fn h1 h2
 constructor
 ·unfold Extern.findNext
  rw [h1, h2]
  have e1 : Extern.allNextRows.lookup "internal/bytealg.IndexByteString" = none := by kernel_rfl
  have e2 : Extern.allNextRows.lookup "" = none := by kernel_rfl
  simp [e1, e2]
 ·unfold Extern.find
  rw [h1]
  have e1 : Extern.allGenericRows.lookup "internal/bytealg.IndexByteString" = none := by kernel_rfl
  have e2 : Extern.allTypedRows.lookup "internal/bytealg.IndexByteString" = none := by kernel_rfl
  have e3 : Extern.allRows.lookup "internal/bytealg.IndexByteString" = some Extern.BytealgIndexByte.indexByte := by kernel_rfl
  simp [e1, e2, e3]
theorem zmv : ∀ (fn : Func), fn.name = "internal/abi.NoEscape" → fn.origin = "" → Extern.findNext fn = none ∧ Extern.find fn = some Extern.AbiNoEscape.same := by
 intro fn h1 h2
 constructor
 ·unfold Extern.findNext
  rw [h1, h2]
  have e1 : Extern.allNextRows.lookup "internal/abi.NoEscape" = none := by kernel_rfl
  have e2 : Extern.allNextRows.lookup "" = none := by kernel_rfl
  simp [e1, e2]
 ·unfold Extern.find
  rw [h1]
  have e1 : Extern.allGenericRows.lookup "internal/abi.NoEscape" = none := by kernel_rfl
  have e2 : Extern.allTypedRows.lookup "internal/abi.NoEscape" = none := by kernel_rfl
  have e3 : Extern.allRows.lookup "internal/abi.NoEscape" = some Extern.AbiNoEscape.same := by kernel_rfl
  simp [e1, e2, e3]
theorem zpg (x y c : Nat) (hc : c ≤ 1) (w : World) :
  (zek #[.int .u64 (x : Int), .int .u64 (y : Int), .int .u64 (c : Int)]).run P w =
   .ok (.tuple #[.int .u64 (Int.ofNat ((x + 18446744073709551616 - y - c) % 18446744073709551616)), .int .u64 (Int.ofNat (if x < y + c then 1 else 0))]) w := by
 have : c = 0 ∨ c = 1 := by omega
 rcases this with rfl | rfl <;> rfl
noncomputable def loopOf (M : Mem) (b : Pos) : Option LoopS := match M.t.get b with
 | some (.loop L) => some L
 | _ => none
theorem zfx {M : Mem} {b : Pos} {L : LoopS} (h : loopOf M b = some L) : M.t.get b = some (.loop L) := by
 unfold loopOf at h
 split at h
 ·rename_i hb; simp only [Option.some.injEq] at h; subst h; exact hb
 ·simp at h
theorem ze9 (hr : MRel B m M w) {b : Pos} {p : Pl} {L : LoopS} (hb : loopOf M b = some L) (hp : m b = some p) : ∃ R, w.heap[p.block]? = some (.loop R) ∧ zf8 m L R :=
 hr.objs b _ p (zfx hb) hp
noncomputable def zmm (l : Pos) (as : List SV) (M : Mem) : Out :=
 match loopOf M l with
 | none => .bad
 | some L => match Nat.beq (len as) L.ps.length with
  | true => .round l as M
  | false => .bad
noncomputable def zk8 (P : Program) (f : SV) (as : List SV) (M : Mem) : Out :=
 match f with
 | .fn (.func k) first captured => match callable P k with
  | true => .enter k (app (app first as) captured) M
  | false => match ztz P k with
   | some e => zsx e (app (app first as) captured) M
   | none => .bad
 | .yield l => zmm l as M
 | _ => .bad
theorem ze4 {fn : Fn} {a b : List SV} {v : Value} (h : conc m (.fn fn a b) = some v) : ∃ as bs, concs m a = some as ∧ concs m b = some bs ∧ v = .func fn as.toArray bs.toArray := by
 simp only [conc, Option.bind_eq_some_iff, Option.map_eq_some_iff] at h
 obtain ⟨as, ha, bs, hb, rfl⟩ := h
 exact ⟨as, bs, ha, hb, rfl⟩
theorem zad {x : SV} {vs : List Value} (h : concs m [x] = some vs) : ∃ v, conc m x = some v ∧ vs = [v] := by
 obtain ⟨v, r, h1, h2, rfl⟩ := z85 h
 simp only [concs, Option.some.injEq] at h2
 subst h2
 exact ⟨v, h1, rfl⟩
theorem concs_two {x y : SV} {vs : List Value} (h : concs m [x, y] = some vs) : ∃ v u, conc m x = some v ∧ conc m y = some u ∧ vs = [v, u] := by
 obtain ⟨v, r, h1, h2, rfl⟩ := z85 h
 obtain ⟨u, h3, rfl⟩ := zad h2
 exact ⟨v, u, h1, h3, rfl⟩
theorem concs_three {x y z : SV} {vs : List Value} (h : concs m [x, y, z] = some vs) : ∃ v u t, conc m x = some v ∧ conc m y = some u ∧ conc m z = some t ∧ vs = [v, u, t] := by
 obtain ⟨v, r, h1, h2, rfl⟩ := z85 h
 obtain ⟨u, r, h3, h4, rfl⟩ := z85 h2
 obtain ⟨t, r, h5, h6, rfl⟩ := z85 h4
 simp only [concs, Option.some.injEq] at h6
 subst h6
 exact ⟨v, u, t, h1, h3, h5, rfl⟩
theorem zpx (hr : MRel B m M w) {k : FuncId} {e : ExtK} (hk : ztz P k = some e) {as : List SV} {vs : Array Value} (has : concs m as = some vs.toList) :
  z8f P B m M w (callFunc k vs) (zsx e as M) := by
 unfold ztz at hk
 split at hk
 next => simp at hk
 next fn hf =>
  split at hk
  next => simp at hk
  next hb =>
   simp only [Bool.and_eq_true, beq_iff_eq] at hb
   obtain ⟨hbody, horig⟩ := hb
   split at hk
   next hn =>
    simp only [Option.some.injEq] at hk
    subst hk
    have hname : fn.name = "math/bits.Add64" := by simpa using hn
    obtain ⟨g1, g2⟩ := zqk fn hname horig
    unfold zsx
    split
    next x y c heq =>
     split
     next x' y' c' hx hy hc =>
      obtain rfl := intNat_eq hx
      obtain rfl := intNat_eq hy
      obtain ⟨rfl, hc1⟩ := zfi hc
      obtain ⟨v, u, t, h1, h2, h3, hvs⟩ := concs_three has
      obtain rfl := conc_int h1
      obtain rfl := conc_int h2
      obtain rfl := conc_int h3
      have hvs' : vs = #[.int .u64 (x' : Int), .int .u64 (y' : Int), .int .u64 (c' : Int)] := by
       apply Array.ext'; rw [hvs]
      subst hvs'
      have hrun := run_callFunc_extern hf (by rw [hname]; decide) hbody g1 g2 #[.int .u64 (x' : Int), .int .u64 (y' : Int), .int .u64 (c' : Int)] w
      rw [run_add64 (P := P) (x' : Int) (y' : Int) (c' : Int) (by omega) (by omega) (by omega) (by omega) w] at hrun
      refine ⟨_, m, w, hrun, ?_, .refl hr⟩
      have q1 : Int.ofNat (Nat.mod (Nat.add (Nat.add x' y') c') 18446744073709551616) = ((x' : Int) + y' + c') % 18446744073709551616 := by
       show (((x' + y' + c') % 18446744073709551616 : Nat) : Int) = _
       omega
      have q2 : Int.ofNat (Nat.div (Nat.add (Nat.add x' y') c') 18446744073709551616) = ((x' : Int) + y' + c') / 18446744073709551616 := by
       show (((x' + y' + c') / 18446744073709551616 : Nat) : Int) = _
       omega
      rw [q1, q2]
      simp [Nx, conc, concs]
     next => trivial
    next heq => simp at heq
    next heq => simp at heq
    next heq => simp at heq
    next => trivial
   next =>
    split at hk
    next hn =>
     simp only [Option.some.injEq] at hk
     subst hk
     have hname : fn.name = "math/bits.Sub64" := by simpa using hn
     obtain ⟨g1, g2⟩ := zqm fn hname horig
     unfold zsx
     split
     next heq => simp at heq
     next x y c heq =>
      split
      next x' y' c' hx hy hc =>
       obtain rfl := intNat_eq hx
       obtain rfl := intNat_eq hy
       obtain ⟨rfl, hc1⟩ := zfi hc
       obtain ⟨v, u, t, h1, h2, h3, hvs⟩ := concs_three has
       obtain rfl := conc_int h1
       obtain rfl := conc_int h2
       obtain rfl := conc_int h3
       have hvs' : vs = #[.int .u64 (x' : Int), .int .u64 (y' : Int), .int .u64 (c' : Int)] := by
        apply Array.ext'; rw [hvs]
       subst hvs'
       have hrun := run_callFunc_extern hf (by rw [hname]; decide) hbody g1 g2 #[.int .u64 (x' : Int), .int .u64 (y' : Int), .int .u64 (c' : Int)] w
       rw [zpg (P := P) x' y' c' hc1 w] at hrun
       refine ⟨_, m, w, hrun, ?_, .refl hr⟩
       have hif : (Bool.rec (motive := fun _ => Nat) 0 1 (Nat.ble (Nat.succ x') (Nat.add y' c'))) = if x' < y' + c' then 1 else 0 := by
        cases hb : Nat.ble (Nat.succ x') (Nat.add y' c') with
        | true => rw [if_pos (by have := Nat.le_of_ble_eq_true hb; simp only [Nat.add_eq] at this; omega)]
        | false => rw [if_neg (by
          intro h
          rw [Nat.ble_eq_true_of_le (by simp only [Nat.add_eq]; omega : Nat.succ x' ≤ Nat.add y' c')] at hb
          simp at hb)]
       rw [hif]
       simp only [Nx, conc, concs, Option.bind_some, Option.map_some]
       rfl
      next => trivial
     next heq => simp at heq
     next heq => simp at heq
     next => trivial
    next =>
     split at hk
     next hn =>
      simp only [Option.some.injEq] at hk
      subst hk
      have hname : fn.name = "internal/bytealg.IndexByteString" := by simpa using hn
      obtain ⟨g1, g2⟩ := zql fn hname horig
      unfold zsx
      split
      next heq => simp at heq
      next heq => simp at heq
      next l c heq =>
       split
       next c' hc =>
        split
        next hle =>
         obtain rfl := intNat_eq hc
         have hle' := Nat.le_of_ble_eq_true hle
         obtain ⟨v, u, h1, h2, hvs⟩ := concs_two has
         have h1' : v = .string ⟨l.toArray⟩ := by simp [conc] at h1; exact h1.symm
         subst h1'
         obtain rfl := conc_int h2
         have hvs' : vs = #[.string ⟨l.toArray⟩, .int .u8 (c' : Int)] := by
          apply Array.ext'; rw [hvs]
         subst hvs'
         have hrun := run_callFunc_extern hf (by rw [hname]; decide) hbody g1 g2 #[.string ⟨l.toArray⟩, .int .u8 (c' : Int)] w
         rw [Lib.run_indexByteString] at hrun
         refine ⟨_, m, w, hrun, ?_, .refl hr⟩
         have hcc : (Int.toNat (c' : Int)).toUInt8.toNat = c' := by
          simp only [Int.toNat_natCast, Nat.toUInt8, UInt8.toNat_ofNat']
          omega
         have := zot (Int.toNat (c' : Int)).toUInt8 l 0
         rw [hcc] at this
         simp only [Nx, conc, Option.some.injEq, Value.int.injEq, true_and]
         rw [this]
         split
         ·rename_i h; exact h.symm
         ·simp
        next => trivial
       next => trivial
      next heq => simp at heq
      next => trivial
     next =>
      split at hk
      next hn =>
       simp only [Option.some.injEq] at hk
       subst hk
       have hname : fn.name = "internal/abi.NoEscape" := by simpa using hn
       obtain ⟨g1, g2⟩ := zmv fn hname horig
       unfold zsx
       split
       next heq => simp at heq
       next heq => simp at heq
       next heq => simp at heq
       next x heq =>
        obtain ⟨v, h1, hvs⟩ := zad has
        have hvs' : vs = #[v] := by
         apply Array.ext'; rw [hvs]
        subst hvs'
        have hrun := run_callFunc_extern hf (by rw [hname]; decide) hbody g1 g2 #[v] w
        rw [Lib.run_noEscape] at hrun
        exact ⟨_, m, w, hrun, h1, .refl hr⟩
       next => trivial
      next => simp at hk
theorem zho (hr : MRel B m M w) {f : SV} {as : List SV} {v : Value} {vs : Array Value} (hf : conc m f = some v) (has : concs m as = some vs.toList) :
  z8f P B m M w (do let d ← Deferred.ofValue v vs; invoke d.target d.args) (zk8 P f as M) := by
 unfold zk8
 split
 next k first captured =>
  obtain ⟨fs, cs, h1, h2, rfl⟩ := ze4 hf
  have hargs : concs m (app (app first as) captured) = some (fs.toArray ++ vs ++ cs.toArray).toList := by
   rw [z9i, z9i]
   have := z8b (z8b h1 has) h2
   simpa using this
  split
  next hk =>
   refine ⟨fs.toArray ++ vs ++ cs.toArray, m, w, ?_, hargs, .refl hr⟩
   simp only [Deferred.ofValue, Sem.run_bind, Sem.run_pure, Result.andThen_ok, invoke, zc5 hk]
  next =>
   split
   next e he => exact zpx hr he hargs
   next => trivial
 next l =>
  simp only [conc, Option.map_eq_some_iff] at hf
  obtain ⟨p, hp, rfl⟩ := hf
  unfold zmm
  split
  next => trivial
  next L hL =>
   split
   next hn =>
    obtain ⟨R, hR, hrel⟩ := ze9 hr hL hp
    have hps : R.params.size = L.ps.length := by rw [← hrel.2.2.2.2.2.1]; simp
    have hln := Nat.eq_of_beq_eq_true hn
    rw [z93] at hln
    have hvl := z86 has
    simp only [Array.length_toList] at hvl
    refine ⟨p, R, vs, m, w, hp, hR, by omega, ?_, has, .refl hr⟩
    have := run_yield (P := P) (args := vs) hR (by omega)
    simp only [Deferred.ofValue, Sem.run_bind, Sem.run_pure, Result.andThen_ok, invoke, Array.empty_append, this]
   next => trivial
 next => trivial
end
end Go.Ev
