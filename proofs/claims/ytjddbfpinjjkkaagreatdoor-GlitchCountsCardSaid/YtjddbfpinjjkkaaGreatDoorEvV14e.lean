/- A part of the small machine. -/
import Derived.Test.YtjddbfpinjjkkaaGreatDoorEvV14c
import Derived.Lib.UnsafeStr
import Derived.Room.MakeNoZero
set_option linter.unusedVariables false
namespace Go.Ev
open Go.RowKit
variable {P : Program}
noncomputable def zq7 (a b : Fn) : Bool := match a, b with
 | .func x, .func y => Nat.beq x y
 | .method x, .method y => x == y
 | _, _ => false
theorem zq8 {a b : Fn} (h : zq7 a b = true) : a = b := by
 unfold zq7 at h
 split at h
 ·rw [Nat.eq_of_beq_eq_true h]
 ·rw [eq_of_beq h]
 ·simp at h
mutual
noncomputable def z8x : SV → SV → Bool
 | .bool a, .bool b => a == b
 | .int k a, .int j b => za8 k j && eqZ a b
 | .str a, .str b => zq6 a b
 | .nilp, .nilp => true
 | .ptr b o, .ptr c q => b.beq c && Nat.beq o q
 | .nils, .nils => true
 | .slice b o n c, .slice b' o' n' c' => b.beq b' && (Nat.beq o o' && (Nat.beq n n' && Nat.beq c c'))
 | .ope b o n c, .ope b' o' n' c' => b.beq b' && (Nat.beq o o' && (Nat.beq n n' && Nat.beq c c'))
 | .opz b o n c, .opz b' o' n' c' => b.beq b' && (Nat.beq o o' && (Nat.beq n n' && Nat.beq c c'))
 | .rawz a, .rawz b => decide (a = b)
 | .nilm, .nilm => true
 | .map b, .map c => b.beq c
 | .nilf, .nilf => true
 | .fn f a b, .fn g c d => zq7 f g && (zc1 a c && zc1 b d)
 | .yield a, .yield b => a.beq b
 | .nili, .nili => true
 | .iface t v, .iface u x => Nat.beq t u && z8x v x
 | .agg a, .agg b => zc1 a b
 | .tuple a, .tuple b => zc1 a b
 | _, _ => false
noncomputable def zc1 : List SV → List SV → Bool
 | [], [] => true
 | a :: l, b :: k => z8x a b && zc1 l k
 | _, _ => false
end
mutual
theorem zey : ∀ (a b : SV), z8x a b = true → a = b
 | .bool a, b, h => by cases b <;> simp [z8x] at h; rw [h]
 | .int k a, b, h => by
  cases b <;> simp [z8x, zay] at h
  rw [zcu h.1, h.2]
 | .str a, b, h => by cases b <;> simp [z8x, zbl] at h; rw [h]
 | .nilp, b, h => by cases b <;> simp [z8x] at h; rfl
 | .ptr x o, b, h => by cases b <;> simp [z8x, Pos.beq_iff] at h; rw [h.1, h.2]
 | .nils, b, h => by cases b <;> simp [z8x] at h; rfl
 | .slice x o n c, b, h => by cases b <;> simp [z8x, Pos.beq_iff] at h; rw [h.1, h.2.1, h.2.2.1, h.2.2.2]
 | .ope x o n c, b, h => by cases b <;> simp [z8x, Pos.beq_iff] at h; rw [h.1, h.2.1, h.2.2.1, h.2.2.2]
 | .opz x o n c, b, h => by cases b <;> simp [z8x, Pos.beq_iff] at h; rw [h.1, h.2.1, h.2.2.1, h.2.2.2]
 | .rawz x, b, h => by cases b <;> simp [z8x] at h; rw [h]
 | .nilm, b, h => by cases b <;> simp [z8x] at h; rfl
 | .map x, b, h => by cases b <;> simp [z8x, Pos.beq_iff] at h; rw [h]
 | .nilf, b, h => by cases b <;> simp [z8x] at h; rfl
 | .fn f a c, b, h => by
  cases b <;> simp [z8x] at h
  rw [zq8 h.1, zc2 _ _ h.2.1, zc2 _ _ h.2.2]
 | .yield a, b, h => by cases b <;> simp [z8x, Pos.beq_iff] at h; rw [h]
 | .nili, b, h => by cases b <;> simp [z8x] at h; rfl
 | .iface t v, b, h => by
  cases b <;> simp [z8x] at h
  rw [h.1, zey _ _ h.2]
 | .agg a, b, h => by
  cases b <;> simp [z8x] at h
  rw [zc2 _ _ h]
 | .tuple a, b, h => by
  cases b <;> simp [z8x] at h
  rw [zc2 _ _ h]
theorem zc2 : ∀ (a b : List SV), zc1 a b = true → a = b
 | [], b, h => by cases b <;> simp [zc1] at h; rfl
 | a :: l, b, h => by
  cases b <;> simp [zc1] at h
  rw [zey _ _ h.1, zc2 _ _ h.2]
end
noncomputable def zh3 (M : Mem) (b : Pos) : Option (List (SV × SV × Nat) × Nat) := match M.t.get b with
 | some (.map es c) => some (es, c)
 | _ => none
theorem zie {M : Mem} {b : Pos} {es : List (SV × SV × Nat)} {c : Nat} (h : zh3 M b = some (es, c)) : M.t.get b = some (.map es c) := by
 unfold zh3 at h
 split at h
 ·rename_i hb; simp only [Option.some.injEq, Prod.mk.injEq] at h; obtain ⟨rfl, rfl⟩ := h; exact hb
 ·simp at h
noncomputable def putObj (M : Mem) (b : Pos) (o : SObj) : Mem := Mem.rec (fun t n f => ⟨t.put (some o) b, n, f⟩) M
theorem zgc (M : Mem) (b : Pos) (o : SObj) : putObj M b o = ⟨M.t.put (some o) b, M.next, M.floor⟩ := by cases M; rfl
noncomputable def mapT (P : Program) (t : TypeId) : Option (TypeId × TypeId) :=
 match P.underlying t with
 | some (.map k e) => some (k, e)
 | _ => none
theorem zkx {t k e : TypeId} (h : mapT P t = some (k, e)) : P.underlying t = some (.map k e) := by
 unfold mapT at h
 split at h
 ·rename_i hd; simp only [Option.some.injEq, Prod.mk.injEq] at h; obtain ⟨rfl, rfl⟩ := h; exact hd
 ·simp at h
section
variable {B : Nat} {m : Map} {M : Mem} {w : World}
theorem zf1 {b : Pos} {v : Value} (h : conc m (.map b) = some v) : ∃ p, m b = some p ∧ v = .map (some p.block) := by
 simp only [conc, Option.map_eq_some_iff] at h
 obtain ⟨p, hp, rfl⟩ := h
 exact ⟨p, hp, rfl⟩
theorem zm1 (hr : MRel B m M w) {b : Pos} {p : Pl} {es : List (SV × SV × Nat)} {c : Nat} (hb : zh3 M b = some (es, c)) (hp : m b = some p) :
  ∃ a, w.heap[p.block]? = some (.map a c) ∧ z8p (z9h m) es a.toList := by
 have := hr.objs b _ p (zie hb) hp
 obtain ⟨a, h1, h2⟩ := this
 exact ⟨a, h1, h2⟩
noncomputable def ze1 (M : Mem) : Out := .val (.map (z90 M)) (Mem.rec (fun t n f => ⟨t.put (some (.map [] 0)) n, n.succ, f⟩) M)
theorem zix (hr : MRel B m M w) (t : TypeId) : z8f P B m M w (do Pure.pure (Next.value (← Instr.makeMap t none))) (ze1 M) := by
  have hs := z82.fresh hr M.t ⟨w.heap.size, 0, 0⟩ (.map [] 0) (w' := w.alloc (.map #[] 0)) (fun _ _ h => h) (fun _ _ _ => rfl) (fun _ _ => rfl)
    (fun b x q hx hq => by
      have hlt := hr.bound b q hq
      refine ⟨by simp; omega, ?_⟩
      show (w.heap.push _)[q.block]? = _
      rw [Array.getElem?_push, if_neg (by omega)])
    ((Below.refl B w).alloc hr.base _) (by show _ < (w.heap.push _).size; simp) hr.base rfl (fun m' _ => by
      show zaq m' _ _ (w.heap.push _)[w.heap.size]?
      exact ⟨#[], by simp, .nil⟩)
    (fun k hk _ => by show (w.heap.push _)[k]? = _; rw [Array.getElem?_push, if_neg (by omega)]) (fun h => absurd h (by simp))
  have hs' : z82 B m M w (fun b => if b = M.next then some ⟨w.heap.size, 0, 0⟩ else m b) (Mem.rec (fun t n f => ⟨t.put (some (.map [] 0)) n, n.succ, f⟩) M) (w.alloc (.map #[] 0)) := by
    cases M with
    | mk t n f => exact hs
  refine z8f.value (v := .map (some w.heap.size)) ?_ (by simp [conc, z9n]) hs'
  simp only [Instr.makeMap, Sem.run_bind, newObj, Sem.run, Result.andThen_ok]
  rfl
noncomputable def zeroS (P : Program) (t : TypeId) : Option SV := ((P.info? t).bind (·.zero)).bind fun z => ofV z
theorem zke {t : TypeId} {s : SV} (h : zeroS P t = some s) (w : World) : ∃ z, (zeroValue t).run P w = .ok z w ∧ conc m s = some z := by
 simp only [zeroS, Option.bind_eq_some_iff] at h
 obtain ⟨z, ⟨i, hi, hz⟩, hs⟩ := h
 exact ⟨z, by simp [zeroValue, Sem.run_bind, za4 hi, hz], zf6 m _ _ hs⟩
noncomputable def zfw (M : Mem) (ok : Bool) (s : SV) (found : Bool) : Out := match ok with
 | true => .val (.tuple [s, .bool found]) M
 | false => .val s M
noncomputable def zbv (P : Program) (t : TypeId) (x k : SV) (ok : Bool) (M : Mem) : Out :=
 match mapT P t with
 | none => .bad
 | some (kt, et) => match keyOK P 8 kt k with
  | false => .bad
  | true => match x with
   | .nilm => match zeroS P et with
    | some z => zfw M ok z false
    | none => .bad
   | .map b => match zh3 M b with
    | none => .bad
    | some (es, _) => match zd1 P kt k es 0 with
     | some (some (_, _, s)) => zfw M ok s true
     | some none => match zeroS P et with
      | some z => zfw M ok z false
      | none => .bad
     | none => .bad
   | _ => .bad
theorem zku {n : Nat} {kt : TypeId} {k : SV} (h : keyOK P (n + 1) kt k = true) : ∃ d, P.underlying kt = some d := by
 simp only [keyOK] at h
 cases hd : P.underlying kt with
 | none => rw [hd] at h; simp at h
 | some d => exact ⟨d, rfl⟩
theorem zca {ok : Bool} {s : SV} {v : Value} {f : Bool} (hr : MRel B m M w) (h : conc m s = some v) {q : Sem Value} (hq : q.run P w = .ok (if ok then .tuple #[v, .bool f] else v) w) :
  z8f P B m M w (do Pure.pure (Next.value (← q))) (zfw M ok s f) := by
 cases ok with
 | true => exact z8f.pure hr hq (by simp [conc, concs, h])
 | false => exact z8f.pure hr hq h
theorem zkb (hr : MRel B m M w) {t : TypeId} {x k : SV} {ok : Bool} {v u : Value} (hx : conc m x = some v) (hk : conc m k = some u) :
  z8f P B m M w (do Pure.pure (Next.value (← Instr.lookup t v u ok))) (zbv P t x k ok M) := by
 unfold zbv
 split
 next => trivial
 next kt et ht =>
  have hd := zkx ht
  split
  next => trivial
  next hok =>
   have hck : ∀ em, (Instr.checkKey em 10000 kt u).run P w = .ok () w := fun em => zc8 em 8 9992 hok hk
   obtain ⟨d, hkd⟩ := zku (n := 7) hok
   split
   next =>
    have hv : v = .map none := by simp [conc] at hx; exact hx.symm
    subst hv
    split
    next z hz =>
     obtain ⟨zv, hzr, hzc⟩ := zke (m := m) hz w
     refine zca hr hzc ?_
     have hfind : (Instr.findKey kt u []).run P w = .ok none w := by simp [Instr.findKey, run_underlying hkd, Instr.findNow]
     simp only [Instr.lookup, Sem.run_bind, run_underlying hd, Result.andThen_ok, Sem.run_pure, hck, hfind, hzr]
    next => trivial
   next b =>
    obtain ⟨p, hp, rfl⟩ := zf1 hx
    split
    next => trivial
    next es c hb =>
     obtain ⟨a, ha, hent⟩ := zm1 hr hb hp
     have hget : (getObj p.block).run P w = .ok (.map a c) w := by simp [getObj, Sem.run, ha]
     split
     next i a' s hf =>
      obtain ⟨q, hq, hres⟩ := zbb (P := P) (w := w) hk hent hkd hf
      cases q with
      | none => exact hres.elim
      | some q =>
       obtain ⟨j, sv⟩ := q
       obtain ⟨_, _, _, hsc, _⟩ := hres
       refine zca hr hsc ?_
       simp only [Instr.lookup, Sem.run_bind, run_underlying hd, Result.andThen_ok, hget, Sem.run_pure, hck, hq]
     next hf =>
      obtain ⟨q, hq, hres⟩ := zbb (P := P) (w := w) hk hent hkd hf
      cases q with
      | some q => exact hres.elim
      | none =>
       split
       next z hz =>
        obtain ⟨zv, hzr, hzc⟩ := zke (m := m) hz w
        refine zca hr hzc ?_
        simp only [Instr.lookup, Sem.run_bind, run_underlying hd, Result.andThen_ok, hget, Sem.run_pure, hck, hq, hzr]
       next => trivial
     next => trivial
   next => trivial
noncomputable def zdm : SV → Bool
 | .int _ _ => true
 | .str _ => true
 | .bool _ => true
 | .agg l => l.all fun s => match s with
  | .int _ _ => true
  | .str _ => true
  | .bool _ => true
  | _ => false
 | _ => false
theorem zez {s : SV} {v : Value} (h : (match s with | .int _ _ => true | .str _ => true | .bool _ => true | _ => false) = true) (hv : conc m s = some v) (n : Nat) : Instr.sameBits n v v = true := by
 split at h
 ·obtain rfl := conc_int hv; cases n <;> simp [Instr.sameBits]
 ·obtain rfl := z8y hv
  cases n <;> simp [Instr.sameBits, zfd]
 ·obtain rfl := zde hv; cases n <;> simp [Instr.sameBits]
 ·simp at h
theorem zns {s : SV} {v : Value} (h : zdm s = true) (hv : conc m s = some v) (n : Nat) : Instr.sameBits (n + 1) v v = true := by
 cases s with
 | int k x => exact zez (s := .int k x) rfl hv _
 | str x => exact zez (s := .str x) rfl hv _
 | bool x => exact zez (s := .bool x) rfl hv _
 | agg l =>
  obtain ⟨vs, hvs, rfl⟩ := conc_agg hv
  simp only [zdm, List.all_eq_true] at h
  simp only [Instr.sameBits, List.size_toArray, beq_self_eq_true, Bool.true_and]
  have : ∀ (l : List SV) (vs : List Value), (∀ x ∈ l, (match x with | .int _ _ => true | .str _ => true | .bool _ => true | _ => false) = true) → concs m l = some vs → ((vs.zip vs).all fun (x, y) => Instr.sameBits n x y) = true := by
   intro l
   induction l with
   | nil => intro vs _ hc; simp only [concs, Option.some.injEq] at hc; subst hc; rfl
   | cons a l ih =>
    intro vs hl hc
    obtain ⟨v, r, h1, h2, rfl⟩ := z85 hc
    simp only [List.zip_cons_cons, List.all_cons, zez (hl a (by simp)) h1 n, Bool.true_and]
    exact ih r (fun x hx => hl x (by simp [hx])) h2
  exact this l vs h hvs
 | _ => simp [zdm] at h
noncomputable def zsj (x : SV) : Nat → List (SV × SV × Nat) → List (SV × SV × Nat)
 | _, [] => []
 | 0, (a, _, b) :: l => (a, x, b) :: l
 | n + 1, e :: l => e :: zsj x n l
noncomputable def zfz (M : Mem) (b : Pos) : Option (List (SV × SV × Nat) × Nat) := match above M b with
 | true => zh3 M b
 | false => none
noncomputable def z9g (P : Program) (t : TypeId) (x k v : SV) (M : Mem) : Out :=
 match mapT P t with
 | none => .bad
 | some (kt, _) => match keyOK P 8 kt k, x with
  | true, .map b => match zfz M b with
   | none => .bad
   | some (es, c) => match zd1 P kt k es 0 with
    | some none => .val (.tuple []) (putObj M b (.map (es ++ [(k, v, c)]) (Nat.succ c)))
    | some (some (i, a, _)) => match z8x a k, zdm k with
     | true, true => .val (.tuple []) (putObj M b (.map (zsj v i es) c))
     | _, _ => .bad
    | none => .bad
  | _, _ => .bad
theorem z8p.app {α β : Type} {R : α → β → Prop} : ∀ {l : List α} {k : List β} {l' : List α} {k' : List β}, z8p R l k → z8p R l' k' → z8p R (l ++ l') (k ++ k')
 | _, _, _, _, .nil, h => h
 | _, _, _, _, .cons a b, h => .cons a (z8p.app b h)
theorem zg0 {M : Mem} {b : Pos} {x : List (SV × SV × Nat) × Nat} (h : zfz M b = some x) : zh3 M b = some x ∧ M.floor ≤ b.num := by
 unfold zfz at h
 split at h
 ·rename_i ha; exact ⟨h, zcm ha⟩
 ·simp at h
theorem zmg {v : SV} {x u : Value} (hv : conc m v = some x) : ∀ {es : List (SV × SV × Nat)} {l : List MapEntry} {i : Nat}, z8p (z9h m) es l → (∀ e, l[i]? = some e → e.key = u) → z8p (z9h m) (zsj v i es) (l.modify i fun e => { e with key := u, val := x })
 | _, _, i, .nil, _ => by cases i <;> exact .nil
 | (a, b, c) :: es, e :: l, 0, .cons ⟨h1, h2, h3⟩ hr, hk => by
  have := hk e rfl
  simp only [zsj, List.modify_zero_cons]
  exact .cons ⟨by rw [← this]; exact h1, hv, h3⟩ hr
 | e' :: es, e :: l, i + 1, .cons h hr, hk => by
  simp only [zsj, List.modify_succ_cons]
  exact .cons h (zmg hv hr fun e he => hk e (by simpa using he))
theorem zcz {r : Nat} {a : Array MapEntry} {c : Nat} (o : Obj) (h : w.heap[r]? = some (.map a c)) : (setObj r o).run P w = .ok () { w with heap := w.heap.setIfInBounds r o } := by
 simp [setObj, Sem.run, h]
theorem zbt (hr : MRel B m M w) {b : Pos} {p : Pl} {es es' : List (SV × SV × Nat)} {c c' : Nat} (hbo : zfz M b = some (es, c)) (hp : m b = some p) (a' : Array MapEntry) (ha' : z8p (z9h m) es' a'.toList) :
  z82 B m M w m (putObj M b (.map es' c')) { w with heap := w.heap.setIfInBounds p.block (.map a' c') } := by
 rw [zgc]
 obtain ⟨hb, hfl⟩ := zg0 hbo
 have hlow := hr.low b _ p (zie hb) rfl hp
 have hbd := hr.bound b p hp
 refine z82.update hr b _ _ p (zie hb) rfl hp (fun k hk => ?_) ⟨rfl, rfl, rfl, by simp, fun k hk => ?_⟩ rfl ?_ hfl
 ·exact Array.getElem?_setIfInBounds_ne (fun e => hk e.symm)
 ·exact Array.getElem?_setIfInBounds_ne (by omega)
 ·refine ⟨a', ?_, ha'⟩
  show (w.heap.setIfInBounds p.block _)[p.block]? = _
  rw [Array.getElem?_setIfInBounds]
  simp [hbd]
theorem zcl (hr : MRel B m M w) {t : TypeId} {x k s : SV} {v u sv : Value} (hx : conc m x = some v) (hk : conc m k = some u) (hs : conc m s = some sv) :
  z8f P B m M w (do Instr.mapUpdate t v u sv; Pure.pure Next.skip) (z9g P t x k s M) := by
 unfold z9g
 split
 next => trivial
 next kt et ht =>
  have hd := zkx ht
  split
  next b hok =>
   have hck : ∀ em, (Instr.checkKey em 10000 kt u).run P w = .ok () w := fun em => zc8 em 8 9992 hok hk
   obtain ⟨d, hkd⟩ := zku (n := 7) hok
   obtain ⟨p, hp, rfl⟩ := zf1 hx
   split
   next => trivial
   next es c hb =>
    obtain ⟨a, ha, hent⟩ := zm1 hr (zg0 hb).1 hp
    have hget : (getObj p.block).run P w = .ok (.map a c) w := by simp [getObj, Sem.run, ha]
    split
    next hf =>
     obtain ⟨q, hq, hres⟩ := zbb (P := P) (w := w) hk hent hkd hf
     cases q with
     | some q => exact hres.elim
     | none =>
      refine z8f.unit ?_ (zbt hr hb hp (a.push { key := u, val := sv, born := c }) (c' := Nat.succ c) (by
       rw [Array.toList_push]
       exact hent.app (.cons ⟨hk, hs, rfl⟩ .nil)))
      simp only [Instr.mapUpdate, Sem.run_bind, run_underlying hd, Result.andThen_ok, hget, hck, hq, zcz _ ha]
    next i a' s' hf =>
     split
     next hbe hpl =>
      obtain rfl := zey _ _ hbe
      obtain ⟨q, hq, hres⟩ := zbb (P := P) (w := w) hk hent hkd hf
      cases q with
      | none => exact hres.elim
      | some q =>
       obtain ⟨j, ov⟩ := q
       obtain ⟨rfl, j', hj, hsc, e, he, hec⟩ := hres
       rw [Nat.zero_add] at hj
       subst hj
       rw [hk] at hec
       have hkey : e.key = u := (Option.some.inj hec).symm
       refine z8f.unit ?_ (zbt hr hb hp (a.modify i fun e => { e with key := u, val := sv }) (c' := c) (by
        rw [Array.toList_modify]
        exact zmg hs hent fun e' he' => by rw [he] at he'; cases he'; exact hkey))
       have hold : ((a[i]?).map (·.key)).getD u = u := by
        have : a[i]? = some e := by simpa using he
        rw [this]; exact hkey
       have hst : (Instr.keyThatStays u u).run P w = .ok u w := by
        unfold Instr.keyThatStays
        rw [zns hpl hk 9999]
        rfl
       simp only [Instr.mapUpdate, Sem.run_bind, run_underlying hd, Result.andThen_ok, hget, hck, hq, hold, hst, zcz _ ha]
     next => trivial
    next => trivial
  next => trivial
noncomputable def ztt : Nat → List (SV × SV × Nat) → List (SV × SV × Nat)
 | _, [] => []
 | 0, _ :: l => l
 | n + 1, e :: l => e :: ztt n l
theorem zlp : ∀ {es : List (SV × SV × Nat)} {l : List MapEntry} {i : Nat}, z8p (z9h m) es l → z8p (z9h m) (ztt i es) (l.eraseIdx i)
 | _, _, i, .nil => by cases i <;> exact .nil
 | _, _, 0, .cons _ hr => hr
 | _, _, _ + 1, .cons h hr => .cons h (zlp hr)
noncomputable def zld (P : Program) (t : TypeId) (x k : SV) (M : Mem) : Out :=
 match mapT P t with
 | none => .bad
 | some (kt, _) => match keyOK P 8 kt k, x with
  | true, .map b => match zfz M b with
   | none => .bad
   | some (es, c) => match zd1 P kt k es 0 with
    | some none => .val (.tuple []) (putObj M b (.map es c))
    | some (some (i, _, _)) => .val (.tuple []) (putObj M b (.map (ztt i es) c))
    | none => .bad
  | _, _ => .bad
theorem zk9 (hr : MRel B m M w) {t u ty : TypeId} {x k : SV} {v y : Value} (hx : conc m x = some v) (hk : conc m k = some y) :
  z8f P B m M w (do Pure.pure (Next.value (← Builtin.delete_ #[t, u] ty #[v, y]))) (zld P t x k M) := by
 unfold zld
 split
 next => trivial
 next kt et ht =>
  have hd := zkx ht
  split
  next b hok =>
   have hck : ∀ em, (Instr.checkKey em 10000 kt y).run P w = .ok () w := fun em => zc8 em 8 9992 hok hk
   obtain ⟨d, hkd⟩ := zku (n := 7) hok
   obtain ⟨p, hp, rfl⟩ := zf1 hx
   split
   next => trivial
   next es c hb =>
    obtain ⟨a, ha, hent⟩ := zm1 hr (zg0 hb).1 hp
    have hget : (getObj p.block).run P w = .ok (.map a c) w := by simp [getObj, Sem.run, ha]
    split
    next hf =>
     obtain ⟨q, hq, hres⟩ := zbb (P := P) (w := w) hk hent hkd hf
     cases q with
     | some q => exact hres.elim
     | none =>
      refine z8f.value (v := .tuple #[]) ?_ (by simp [conc, concs]) (zbt hr hb hp a (c' := c) hent)
      simp only [Builtin.delete_, List.getElem?_toArray, List.getElem?_cons_zero, List.getElem?_cons_succ, Sem.run_bind, run_underlying hd, Result.andThen_ok, hget, hck, hq, zcz _ ha, Sem.run_pure]
    next i a' s' hf =>
     obtain ⟨q, hq, hres⟩ := zbb (P := P) (w := w) hk hent hkd hf
     cases q with
     | none => exact hres.elim
     | some q =>
      obtain ⟨j, ov⟩ := q
      obtain ⟨rfl, j', hj, hsc, e, he, hec⟩ := hres
      rw [Nat.zero_add] at hj
      subst hj
      have hlt : i < a.size := by
       have := (List.getElem?_eq_some_iff.1 he).1
       simpa using this
      refine z8f.value (v := .tuple #[]) ?_ (by simp [conc, concs]) (zbt hr hb hp (a.eraseIdxIfInBounds i) (c' := c) (by
       have : (a.eraseIdxIfInBounds i).toList = a.toList.eraseIdx i := by simp [Array.eraseIdxIfInBounds, hlt]
       rw [this]
       exact zlp hent))
      simp only [Builtin.delete_, List.getElem?_toArray, List.getElem?_cons_zero, List.getElem?_cons_succ, Sem.run_bind, run_underlying hd, Result.andThen_ok, hget, hck, hq, zcz _ ha, Sem.run_pure]
    next => trivial
  next => trivial
end
end Go.Ev
namespace Go.Ev
open Go.RowKit
variable {P : Program}
section
variable {B : Nat} {m : Map} {M : Mem} {w : World}
inductive UvK where
 | to (n : Nat)
 | back (u : TypeId)
noncomputable def uvK (P : Program) (s d : TypeId) : Option UvK :=
 match P.underlying s, P.underlying d with
 | some (.pointer t), some .unsafePointer => match szOf P t with
  | some n => some (.to n)
  | none => none
 | some .unsafePointer, some (.pointer u) => some (.back u)
 | _, _ => none
theorem ztj {s d : TypeId} {n : Nat} (h : uvK P s d = some (.to n)) : ∃ t j, P.underlying s = some (.pointer t) ∧ P.underlying d = some .unsafePointer ∧ P.info? t = some j ∧ j.size = n := by
 unfold uvK at h
 split at h
 ·rename_i t h1 h2
  split at h
  ·rename_i n' hn
   simp only [Option.some.injEq, UvK.to.injEq] at h
   subst h
   simp only [szOf, Option.map_eq_some_iff] at hn
   obtain ⟨i, hi, rfl⟩ := hn
   exact ⟨t, i, h1, h2, hi, rfl⟩
  ·simp at h
 ·simp at h
 ·simp at h
theorem zrd {s d u : TypeId} (h : uvK P s d = some (.back u)) : P.underlying s = some .unsafePointer ∧ P.underlying d = some (.pointer u) := by
 unfold uvK at h
 split at h
 ·split at h <;> simp at h
 ·rename_i u' h1 h2
  simp only [Option.some.injEq, UvK.back.injEq] at h
  subst h
  exact ⟨h1, h2⟩
 ·simp at h
noncomputable def zl8 (M : Mem) (b : Pos) : Option (TypeId × List SV) := match M.t.get b with
 | some (.row e .whole cells) => some (e, cells)
 | _ => none
theorem znf {b : Pos} {e : TypeId} {cells : List SV} (h : zl8 M b = some (e, cells)) : M.t.get b = some (.row e .whole cells) := by
 unfold zl8 at h
 split at h
 ·rename_i hb
  simp only [Option.some.injEq, Prod.mk.injEq] at h
  obtain ⟨rfl, rfl⟩ := h
  exact hb
 ·simp at h
noncomputable def z9o (P : Program) (s d : TypeId) (x : SV) (M : Mem) : Out :=
 match uvK P s d with
 | none => zbu P s d x M
 | some (.to n) => match x with
  | .nilp => .val .nilp M
  | .ptr b off => match z9k M b with
   | some cells => match Nat.ble 1 n, Nat.ble (Nat.succ off) (len cells) with
    | true, true => .val (.ptr b off) M
    | _, _ => .bad
   | _ => .bad
  | _ => .bad
 | some (.back u) => match x with
  | .nilp => .val .nilp M
  | .ptr b off => match zl8 M b with
   | some (e, cells) => match Nat.beq off 0, Nat.beq e u, Nat.beq (P.cellsOf e) (len cells), Nat.ble 1 (len cells) with
    | true, true, true, true => .val (.ptr b off) M
    | _, _, _, _ => .bad
   | none => .bad
  | _ => .bad
theorem zkv {e : TypeId} (hs : P.cellsOf e ≠ 0) : liesAt P P.depth e (P.cellsOf e / P.cellsOf e) 0 e 1 = true := by
 have hd : P.depth = (2 * (P.types.size + Made.depth) + 1) + 1 := rfl
 have hss : P.cellsOf e / P.cellsOf e = 1 := Nat.div_self (by omega)
 rw [hss, hd]
 simp only [liesAt, Bool.or_eq_true]
 left
 rw [hd]
 simp [rowAt, hs, sameLayout]
theorem zh6 (hr : MRel B m M w) {s d : TypeId} {x : SV} {v : Value} (hv : conc m x = some v) :
  z8f P B m M w (do Pure.pure (Next.value (← convert s d v))) (z9o P s d x M) := by
 unfold z9o
 split
 next => exact zit hr hv
 next n hk =>
  obtain ⟨t, j, h1, h2, h3, h4⟩ := ztj hk
  split
  next =>
   have hv' : v = .pointer none := by simp [conc] at hv; exact hv.symm
   subst hv'
   exact z8f.pure hr (v := .pointer none) (by simp [convert, run_underlying h1, run_underlying h2, Conv.unsafePointer]) rfl
  next b off =>
   obtain ⟨p, hp, rfl⟩ := z91 hv
   split
   next cells hc =>
    split
    next hn hl =>
     have hn' := Nat.le_of_ble_eq_true hn
     have hl' := Nat.le_of_ble_eq_true hl
     rw [z93] at hl'
     obtain ⟨e, fz, pre, vs, post, hh, hs, hsz, hcv⟩ := zpd hr hc hp
     have hvl := z86 hcv
     have hsh : w.shape? p.block = some (e, (pre ++ (vs ++ post)).toArray.size) := by simp [World.shape?, hh]
     refine z8f.pure hr (v := .pointer (some ⟨p.block, off + p.shift, none⟩)) ?_ hv
     exact Lib.run_to_unsafe w ⟨p.block, off + p.shift, none⟩ h1 h2 h3 (by omega) hsh (by simp; omega)
    next => trivial
   next => trivial
  next => trivial
 next u hk =>
  obtain ⟨h1, h2⟩ := zrd hk
  split
  next =>
   have hv' : v = .pointer none := by simp [conc] at hv; exact hv.symm
   subst hv'
   exact z8f.pure hr (v := .pointer none) (by simp [convert, run_underlying h1, run_underlying h2, Conv.unsafePointer]) rfl
  next b off =>
   obtain ⟨p, hp, rfl⟩ := z91 hv
   split
   next e cells hw =>
    split
    next g1 g2 g3 g4 =>
     obtain rfl := Nat.eq_of_beq_eq_true g1
     obtain rfl := Nat.eq_of_beq_eq_true g2
     have g3' := Nat.eq_of_beq_eq_true g3
     have g4' := Nat.le_of_ble_eq_true g4
     rw [z93] at g3' g4'
     obtain ⟨e', fz, pre, vs, post, hh, hz, hs, hsz, hcv, hte⟩ := hr.objs b _ p (znf hw) hp
     obtain rfl := hte _ rfl
     obtain ⟨_, hz2, hz3⟩ : fz.2 = 0 ∧ p.shift = 0 ∧ p.size = vs.length := hz
     have hvl := z86 hcv
     have hne : P.cellsOf e' ≠ 0 := by omega
     obtain ⟨j, hj⟩ : ∃ j, P.info? e' = some j := by
      cases hi : P.info? e' with
      | none => simp [Program.cellsOf, hi] at hne
      | some j => exact ⟨j, rfl⟩
     have hsh : w.shape? p.block = some (e', P.cellsOf e') := by
      simp [World.shape?, hh]; omega
     refine z8f.pure hr (v := .pointer (some ⟨p.block, 0 + p.shift, none⟩)) ?_ hv
     exact Lib.run_from_unsafe w ⟨p.block, 0 + p.shift, none⟩ h1 h2 hj hsh (by show liesAt P P.depth e' _ (0 + p.shift) e' 1 = true; rw [hz2]; exact zkv hne)
    next => trivial
   next => trivial
  next => trivial
noncomputable def ztk (P : Program) (t : TypeId) (x : SV) (M : Mem) : Out :=
 match lenK P t with
 | some (.arr n) => .val (goI n) M
 | some .sl => match x with
  | .nils => .val (goI 0) M
  | .slice _ _ _ c => .val (goI c) M
  | _ => .bad
 | _ => .bad
theorem zpv (hr : MRel B m M w) {t ty : TypeId} {x : SV} {v : Value} (hv : conc m x = some v) :
  z8f P B m M w (do Pure.pure (Next.value (← Builtin.cap_ #[t] ty #[v]))) (ztk P t x M) := by
 unfold ztk
 split
 next n hk =>
  refine z8f.pure hr (v := goInt n) ?_ rfl
  rcases zly hk with ⟨e, hd⟩ | ⟨a, e, hd, hd'⟩
  ·simp [Builtin.cap_, Sem.run_bind, run_underlying hd]
  ·simp [Builtin.cap_, Sem.run_bind, run_underlying hd, run_underlying hd']
 next hk =>
  obtain ⟨e, hd⟩ := zoy hk
  split
  next =>
   have hv' : v = .slice none 0 0 := by simp [conc] at hv; exact hv.symm
   subst hv'
   exact z8f.pure hr (v := goInt 0) (by simp [Builtin.cap_, Sem.run_bind, run_underlying hd]) rfl
  next b off n c =>
   obtain ⟨p, hp, rfl⟩ := z8m hv
   exact z8f.pure hr (v := goInt c) (by simp [Builtin.cap_, Sem.run_bind, run_underlying hd]) rfl
  next => trivial
 next => trivial
noncomputable def zbh (x : SV) (M : Mem) : Out :=
 match x with
 | .nils => .val .nilp M
 | .slice b off _ c => match Nat.ble 1 c with
  | true => .val (.ptr b off) M
  | false => .bad
 | .ope b off n _ => match Nat.ble 1 n with
  | true => .val (.ptr b off) M
  | false => .bad
 | _ => .bad
theorem zgt (hr : MRel B m M w) {ts : Array TypeId} {ty : TypeId} {x : SV} {v : Value} (hv : conc m x = some v) :
  z8f P B m M w (do Pure.pure (Next.value (← Builtin.unsafeSliceData_ ts ty #[v]))) (zbh x M) := by
 unfold zbh
 split
 next =>
  have hv' : v = .slice none 0 0 := by simp [conc] at hv; exact hv.symm
  subst hv'
  exact z8f.pure hr (v := .pointer none) (Lib.run_unsafeSliceData_nil w ts ty 0 0) rfl
 next b off n c =>
  obtain ⟨p, hp, rfl⟩ := z8m hv
  split
  next hc =>
   have := Nat.le_of_ble_eq_true hc
   exact z8f.pure hr (v := .pointer (some ⟨p.block, off + p.shift, none⟩)) (Lib.run_unsafeSliceData_row w ts ty _ n c (by omega)) (by simp [conc, hp])
  next => trivial
 next b off n z =>
  obtain ⟨p, hp, hz0, hfit, rfl⟩ := z9d hv
  split
  next hc =>
   have := Nat.le_of_ble_eq_true hc
   have hcap : n ≤ (p.size - (off + p.shift)) / z := by rw [Nat.le_div_iff_mul_le hz0]; omega
   exact z8f.pure hr (v := .pointer (some ⟨p.block, off + p.shift, none⟩)) (Lib.run_unsafeSliceData_row w ts ty _ n _ (by omega)) (by simp [conc, hp])
  next => trivial
 next => trivial
noncomputable def zhe (P : Program) (t : TypeId) : Option TypeId := match P.underlying t with
 | some (.pointer e) => some e
 | _ => none
theorem zjt {t e : TypeId} (h : zhe P t = some e) : P.underlying t = some (.pointer e) := by
 unfold zhe at h
 split at h
 ·rename_i hd; simp only [Option.some.injEq] at h; subst h; exact hd
 ·simp at h
noncomputable def zsu (k : RK) (n : Nat) : Option RK := match k with
 | .mark => none
 | .lost => none
 | .head j => some (.head (Bool.rec j n (Nat.ble j n)))
 | .whole => some (.head n)
noncomputable def ziy (P : Program) (ts : List TypeId) (x l : SV) (M : Mem) : Out :=
 match ts with
 | [pt, _] => match l with
  | .int .i64 i => match intNat i with
   | some 0 => match x with
    | .nilp => .val (.str []) M
    | .ptr _ _ => .val (.str []) M
    | _ => .bad
   | some n => match x with
    | .ptr b off => match M.t.get b with
     | some (.row e k cells) => match above M b, zhe P pt, Nat.beq (P.cellsOf e) 1, zsu k (Nat.add off n), Nat.ble (Nat.add off n) (len cells), zkt (tk n (dp off cells)) with
      | true, some u, true, some k', true, some ns => match Nat.beq e u, Nat.ble n 1073741824 with
       | true, true => .val (.str (zb7 ns)) (setT M b (some (.row e k' cells)))
       | _, _ => .bad
      | _, _, _, _, _, _ => .bad
     | _ => .bad
    | _ => .bad
   | none => .bad
  | _ => .bad
 | _ => .bad
theorem zi9 {e : TypeId} (hc : P.cellsOf e = 1) (count off n : Nat) (hn : off + n ≤ count) : liesAt P P.depth e count off e n = true := by
 have hd : P.depth = (2 * (P.types.size + Made.depth) + 1) + 1 := rfl
 rw [hd]
 simp only [liesAt, Bool.or_eq_true]
 left
 rw [hd]
 simp [rowAt, hc, hn, sameLayout, Nat.mod_one]
theorem zd4 : ∀ (l : List Int) (a : Addr) (acc : ByteArray), (∀ j x, l[j]? = some x → w.cell? (a.add j) = some (.int .u8 x)) →
  (loadBytes a acc l.length).run P w = .ok ⟨acc.data ++ (zb7 l).toArray⟩ w
 | [], a, acc, _ => by simp [loadBytes, zb7]
 | x :: l, a, acc, h => by
  have h0 : w.cell? a = some (.int .u8 x) := by
   have := h 0 x rfl
   simpa [Addr.add] using this
  have ih := zd4 l (a.add 1) (acc.push x.toNat.toUInt8) (fun j y hy => by
   have := h (j + 1) y (by simpa using hy)
   have e : (a.add 1).add j = a.add (j + 1) := by
    unfold Addr.add
    by_cases hj : j = 0
    ·subst hj; simp
    ·simp [hj]; omega
   rw [e]; exact this)
  simp only [List.length_cons, loadBytes, Sem.run_bind, run_load, h0, Result.andThen]
  rw [ih]
  congr 1
  apply ByteArray.ext
  have : zb7 (x :: l) = UInt8.ofNat x.toNat :: zb7 l := rfl
  rw [this]
  simp [ByteArray.push, Nat.toUInt8]
theorem zl4 {pt it ty e : TypeId} (hp : P.underlying pt = some (.pointer e)) (hc : P.cellsOf e = 1) (g off cells : Nat) (hsh : w.shape? g = some (e, cells)) (l : List Int) (h0 : l ≠ []) (hn : off + l.length ≤ cells) (h63 : l.length ≤ 1073741824)
  (hcell : ∀ j x, l[j]? = some x → w.cell? ((⟨g, off, none⟩ : Addr).add j) = some (.int .u8 x)) :
  (Builtin.unsafeString_ #[pt, it] ty #[.pointer (some ⟨g, off, none⟩), .int .i64 l.length]).run P w = .ok (.string ⟨(zb7 l).toArray⟩) (w.freeze ⟨g, off, none⟩ l.length) := by
 have hl : l.length ≠ 0 := by simpa using h0
 have hlb := zd4 (P := P) (w := w) l ⟨g, off, none⟩ .empty hcell
 have hlies := zi9 (P := P) hc (cells / P.cellsOf e) off l.length (by rw [hc]; simpa using hn)
 have h63' : ¬ (9223372036854775807 : Int) < (l.length : Int) := by omega
 obtain ⟨msg, hdef⟩ : ∃ msg : String, Builtin.unsafeString_ #[pt, it] ty #[.pointer (some ⟨g, off, none⟩), .int .i64 l.length] =
   (do
    let n ← asInt (.int .i64 l.length)
    if n < 0 then runtimePanic (.error msg)
    if n > IntKind.i64.max then unsupported (.unsafePointer "String: a length above the largest int")
    if n = 0 then pure (.string .empty)
    else if ← variablesAt ⟨g, off, none⟩ (← elemOf pt) n.toNat then do
     let s ← loadBytes ⟨g, off, none⟩ .empty n.toNat
     freeze ⟨g, off, none⟩ n.toNat
     pure (.string s)
    else unsupported (.unsafePointer "String: not so many bytes at ptr")) := ⟨_, rfl⟩
 rw [hdef]
 have hmax : IntKind.i64.max = 9223372036854775807 := rfl
 have hneg : ¬ (l.length : Int) < 0 := by omega
 simp [asInt, asIntOf, hmax, h63', hneg, hl, variablesAt, hsh, elemOf, run_underlying hp, hlies, hlb]
theorem zer (w : World) (a : Addr) (n k : Nat) (hk : k ≠ a.block) : (w.freeze a n).heap[k]? = w.heap[k]? := by
 unfold World.freeze
 split
 ·rfl
 ·simp only [Array.getElem?_modify]
  rw [if_neg (by omega)]
theorem zon (w : World) (a : Addr) (n : Nat) (hn : n ≠ 0) {c : Array Value} {e : TypeId} {fz : Nat × Nat} (h : w.heap[a.block]? = some (.cells c e fz)) :
  (w.freeze a n).heap[a.block]? = some (.cells c e (if fz.1 == fz.2 then (a.off, a.off + n) else (min fz.1 a.off, max fz.2 (a.off + n)))) := by
 unfold World.freeze
 rw [if_neg hn]
 simp only [Array.getElem?_modify, if_true, h, Option.map_some]
theorem zks (w : World) (a : Addr) (n : Nat) : (w.freeze a n).heap.size = w.heap.size := by
 unfold World.freeze
 split
 ·rfl
 ·simp
theorem zkr (w : World) (a : Addr) (n : Nat) : (w.freeze a n).os = w.os ∧ (w.freeze a n).tape = w.tape ∧ (w.freeze a n).output = w.output := by
 unfold World.freeze
 split <;> exact ⟨rfl, rfl, rfl⟩
theorem zqr {k k' : RK} {p : Pl} {c n : Nat} {fz : Nat × Nat} {off : Nat} (hk : zsu k (off + n) = some k') (h : Frz k p c fz) :
  Frz k' p c (if fz.1 == fz.2 then (off + p.shift, off + p.shift + n) else (min fz.1 (off + p.shift), max fz.2 (off + p.shift + n))) := by
 have hle : ∀ j : Nat, j ≤ Bool.rec (motive := fun _ => Nat) j (off + n) (Nat.ble j (off + n)) ∧ off + n ≤ Bool.rec (motive := fun _ => Nat) j (off + n) (Nat.ble j (off + n)) := by
  intro j
  cases hb : Nat.ble j (off + n) with
  | true => have := Nat.le_of_ble_eq_true hb; exact ⟨this, Nat.le_refl _⟩
  | false =>
   have : ¬ j ≤ off + n := fun h => by rw [Nat.ble_eq_true_of_le h] at hb; simp at hb
   exact ⟨Nat.le_refl _, by show off + n ≤ j; omega⟩
 cases k with
 | mark => simp [zsu] at hk
 | lost => simp [zsu] at hk
 | head j =>
  simp only [zsu, Option.some.injEq] at hk
  subst hk
  have h' : fz.2 ≤ p.shift + j := h
  have := hle j
  split
  ·show off + p.shift + n ≤ p.shift + _
   omega
  ·show max fz.2 (off + p.shift + n) ≤ p.shift + _
   omega
 | whole =>
  simp only [zsu, Option.some.injEq] at hk
  subst hk
  have h' : fz.2 = 0 ∧ p.shift = 0 ∧ p.size = c := h
  split
  ·show off + p.shift + n ≤ p.shift + (off + n)
   omega
  ·show max fz.2 (off + p.shift + n) ≤ p.shift + (off + n)
   omega
theorem ziz (hr : MRel B m M w) {ts : List TypeId} {ty : TypeId} {x l : SV} {v u : Value} (hv : conc m x = some v) (hl : conc m l = some u) :
  z8f P B m M w (do Pure.pure (Next.value (← Builtin.unsafeString_ ts.toArray ty #[v, u]))) (ziy P ts x l M) := by
 unfold ziy
 split
 next pt it =>
  split
  next i =>
   obtain rfl := conc_int hl
   split
   next hi =>
    obtain rfl := intNat_eq hi
    split
    next =>
     have hv' : v = .pointer none := by simp [conc] at hv; exact hv.symm
     subst hv'
     exact z8f.pure hr (v := .string .empty) (Lib.run_unsafeString_none w pt it ty none) rfl
    next b off =>
     obtain ⟨p, hp, rfl⟩ := z91 hv
     exact z8f.pure hr (v := .string .empty) (Lib.run_unsafeString_none w pt it ty _) rfl
    next => trivial
   next n hn0 hi =>
    obtain rfl := intNat_eq hi
    split
    next b off =>
     obtain ⟨p, hp, rfl⟩ := z91 hv
     split
     next e k cells hb =>
      split
      next ue k' ns ha hu h1 hk hle hns =>
       split
       next heu hn30 =>
        obtain rfl := Nat.eq_of_beq_eq_true heu
        have h1' := Nat.eq_of_beq_eq_true h1
        have hle' := Nat.le_of_ble_eq_true hle
        have hn30' := Nat.le_of_ble_eq_true hn30
        rw [z93] at hle'
        simp only [Nat.add_eq] at hle' hk
        rw [zck, zc6] at hns
        obtain ⟨e', fz, pre, vs, post, hh, hz, hs, hsz, hcv, hte⟩ := hr.objs b _ p hb hp
        obtain rfl := hte _ rfl
        obtain ⟨cs, hcs, hcl, hcell, _⟩ := zcg (P := P) hr (zdt hb) hp hle'
        obtain rfl := ze8 hns hcs
        simp only [List.length_map] at hcl
        have hvl := z86 hcv
        have hsh : w.shape? p.block = some (e', p.size) := by
         simp [World.shape?, hh]; omega
        have hn0' : n ≠ 0 := fun h => by subst h; exact hn0 rfl
        have hrun := zl4 (P := P) (w := w) (it := it) (ty := ty) (zjt hu) h1' p.block (off + p.shift) p.size hsh ns (by intro h; subst h; simp at hcl; omega) (by omega) (by omega) (fun j x hx => hcell j _ (by simp [hx]))
        rw [hcl] at hrun
        have hat := zon w ⟨p.block, off + p.shift, none⟩ n hn0' hh
        have hlow := hr.low b _ p hb rfl hp
        refine z8f.value (m' := m) (w' := w.freeze ⟨p.block, off + p.shift, none⟩ n) hrun rfl ?_
        obtain ⟨f1, f2, f3⟩ := zkr w ⟨p.block, off + p.shift, none⟩ n
        refine z82.update hr b _ _ p hb rfl hp (fun k hk => zer w _ n k hk) ⟨f1, f2, f3, by rw [zks]; exact Nat.le_refl _, fun k hk => zer w _ n k (by show k ≠ p.block; omega)⟩ rfl ?_ (zcm ha)
        exact ⟨e', _, pre, vs, post, hat, zqr hk hz, hs, hsz, hcv, hte⟩
       next => trivial
      next => trivial
     next => trivial
    next => trivial
   next => trivial
  next => trivial
 next => trivial
noncomputable def makeK (P : Program) (f : FuncId) : Option TypeId :=
 match P.funcs[f]? with
 | none => none
 | some fn => match fn.body.isNone && fn.origin == "" && fn.name == "internal/bytealg.MakeNoZero" with
  | false => none
  | true => match fn.resultTypes.toList with
   | [t] => match P.underlying t with
    | some (.slice e) => some e
    | _ => none
   | _ => none
noncomputable def zlh (e : TypeId) (as : List SV) (M : Mem) : Out := match as with
 | [.int .i64 i] => match intNat i with
  | some n => match Nat.ble n 1073741824 with
   | true => .val (.ope (z90 M) 0 n 1) (z8k e (.head 0) M [])
   | false => .bad
  | none => .bad
 | _ => .bad
theorem zkn : ∀ (fn : Func), fn.name = "internal/bytealg.MakeNoZero" → fn.origin = "" → Extern.findNext fn = none ∧ Extern.find fn = some (Extern.BytealgMakeNoZero.makeNoZero fn.params fn.resultTypes) := by
 intro fn h1 h2
 constructor
 ·unfold Extern.findNext
  rw [h1, h2]
  have e1 : Extern.allNextRows.lookup "internal/bytealg.MakeNoZero" = none := by kernel_rfl
  have e2 : Extern.allNextRows.lookup "" = none := by kernel_rfl
  simp [e1, e2]
 ·unfold Extern.find
  rw [h1]
  have e1 : Extern.allGenericRows.lookup "internal/bytealg.MakeNoZero" = none := by kernel_rfl
  have e2 : Extern.allTypedRows.lookup "internal/bytealg.MakeNoZero" = some Extern.BytealgMakeNoZero.makeNoZero := by kernel_rfl
  simp [e1, e2]
theorem zkc (hr : MRel B m M w) {f : FuncId} {e : TypeId} (hf : makeK P f = some e) {as : List SV} {vs : Array Value} (has : concs m as = some vs.toList) :
  z8f P B m M w (callFunc f vs) (zlh e as M) := by
 unfold makeK at hf
 split at hf
 ·simp at hf
 ·rename_i fn hfn
  split at hf
  ·simp at hf
  ·rename_i hb
   simp only [Bool.and_eq_true, beq_iff_eq] at hb
   obtain ⟨⟨hbody, horig⟩, hname⟩ := hb
   split at hf
   ·rename_i t hrt
    split at hf
    ·rename_i e' hd
     simp only [Option.some.injEq] at hf
     subst hf
     unfold zlh
     split
     next i =>
      split
      next n hn =>
       split
       next hle =>
        have hle' := Nat.le_of_ble_eq_true hle
        obtain rfl := intNat_eq hn
        obtain ⟨v, h1, hvs⟩ := zad has
        obtain rfl := conc_int h1
        have hvs' : vs = #[.int .i64 (n : Int)] := by
         apply Array.ext'; rw [hvs]
        subst hvs'
        obtain ⟨g1, g2⟩ := zkn fn hname horig
        have hrt' : fn.resultTypes = #[t] := by apply Array.ext'; rw [hrt]
        have hrun := run_callFunc_extern hfn (by rw [hname]; decide) hbody g1 g2 #[.int .i64 (n : Int)] w
        rw [hrt'] at hrun
        obtain ⟨cs, hcs, hle2, _, _⟩ := Lib.run_makeNoZero_cap (P := P) w fn.params t e' hd n (by omega)
        rw [hcs] at hrun
        obtain ⟨m', hs, hm⟩ := zeb hr (.head 0) (.inl (by simp)) e' (cells := []) (vs := []) (post := cs.toList) (concs_nil m) (w' := w.drew.drew.alloc (.cells cs e')) (by show w.heap.push _ = _; simp) rfl rfl rfl
        refine ⟨_, m', _, hrun, ?_, hs⟩
        show conc m' (.ope (z90 M) 0 n 1) = some (.slice (some ⟨w.heap.size, 0, none⟩) n cs.size)
        simp only [conc, z9n, hm, Option.bind_some, Nat.zero_add, Nat.mul_one, Nat.sub_zero, Nat.div_one, List.length_nil, Array.length_toList]
        rw [if_pos ⟨by omega, by simpa using hle2⟩]
       next => trivial
      next => trivial
     next => trivial
    ·simp at hf
   ·simp at hf
noncomputable def zd5 (P : Program) (f : SV) (as : List SV) (M : Mem) : Out :=
 match f with
 | .fn (.func k) first captured => match makeK P k with
  | some e => zlh e (app (app first as) captured) M
  | none => zk8 P (.fn (.func k) first captured) as M
 | f => zk8 P f as M
theorem zlb (hr : MRel B m M w) {f : SV} {as : List SV} {v : Value} {vs : Array Value} (hf : conc m f = some v) (has : concs m as = some vs.toList) :
  z8f P B m M w (do let d ← Deferred.ofValue v vs; invoke d.target d.args) (zd5 P f as M) := by
 unfold zd5
 split
 next k first captured =>
  split
  next e he =>
   obtain ⟨fs, cs, h1, h2, rfl⟩ := ze4 hf
   have hargs : concs m (app (app first as) captured) = some (fs.toArray ++ vs ++ cs.toArray).toList := by
    rw [z9i, z9i]
    have := z8b (z8b h1 has) h2
    simpa using this
   exact zkc hr he hargs
  next => exact zho hr hf has
 next => exact zho hr hf has
noncomputable def zsh (P : Program) (op : BinOp) (t : TypeId) (a b : SV) : Option Bool :=
 match op, a, b with
 | .eql, .ptr x o, .ptr y q => match zhe P t with
  | some e => match P.info? e, Pos.beq x y, Nat.beq o q with
   | some _, true, true => some true
   | _, _, _ => none
  | none => none
 | .neq, .ptr x o, .ptr y q => match zhe P t with
  | some e => match P.info? e, Pos.beq x y, Nat.beq o q with
   | some _, true, true => some false
   | _, _, _ => none
  | none => none
 | _, _, _ => none
theorem zgh {tp te : TypeId} {j : TypeInfo} (a : Addr) (hp : P.underlying tp = some (.pointer te)) (hte : P.info? te = some j) :
  (binOp .eql tp (.pointer (some a)) (.pointer (some a))).run P w = .ok (.bool true) w := by
 have h : ∀ d : Nat, (Op.equalIn (d + 1) tp (.pointer (some a)) (.pointer (some a))).run P w = .ok true w := fun d => by
  simp [Op.equalIn, run_underlying hp, sizeOf, typeInfo, hte, run_sameAddr_same]
 simp only [binOp]
 simp [Op.equal, Op.maxDepth, h 9999]
theorem zp9 {op : BinOp} {t : TypeId} {a b : SV} {r : Bool} {v u : Value} (h : zsh P op t a b = some r) (ha : conc m a = some v) (hb : conc m b = some u) (x y : Operand) :
  (do eqGuard op t x y v u; binOp op t v u : Sem Value).run P w = .ok (.bool r) w := by
 have key : ∀ {bb : Pos} {o : Nat} {e : TypeId} {j : TypeInfo}, a = .ptr bb o → b = .ptr bb o → zhe P t = some e → P.info? e = some j → ∃ ad, v = .pointer (some ad) ∧ u = .pointer (some ad) ∧ P.underlying t = some (.pointer e) := by
  intro bb o e j h1 h2 h3 h4
  subst h1 h2
  obtain ⟨p, hp, rfl⟩ := z91 ha
  obtain ⟨q, hq, rfl⟩ := z91 hb
  rw [hp] at hq
  cases hq
  exact ⟨_, rfl, rfl, zjt h3⟩
 unfold zsh at h
 split at h
 ·split at h
  ·rename_i e he
   split at h
   ·rename_i j hj hx ho
    simp only [Option.some.injEq] at h
    subst h
    have hx' := (Pos.beq_iff _ _).1 hx
    have ho' := Nat.eq_of_beq_eq_true ho
    subst hx' ho'
    obtain ⟨ad, rfl, rfl, hd⟩ := key rfl rfl he hj
    have hg : (eqGuard .eql t x y (.pointer (some ad)) (.pointer (some ad))).run P w = .ok () w := rfl
    simp only [Sem.run_bind, hg, Result.andThen_ok]
    exact zgh ad hd hj
   ·simp at h
  ·simp at h
 ·split at h
  ·rename_i e he
   split at h
   ·rename_i j hj hx ho
    simp only [Option.some.injEq] at h
    subst h
    have hx' := (Pos.beq_iff _ _).1 hx
    have ho' := Nat.eq_of_beq_eq_true ho
    subst hx' ho'
    obtain ⟨ad, rfl, rfl, hd⟩ := key rfl rfl he hj
    have hg : (eqGuard .neq t x y (.pointer (some ad)) (.pointer (some ad))).run P w = .ok () w := rfl
    simp only [Sem.run_bind, hg, Result.andThen_ok]
    exact Lib.run_neq_ptr_same w ad hd hj
   ·simp at h
  ·simp at h
 ·simp at h
end
end Go.Ev
