/- Operations on maps. -/
import Derived.Test.YtpebjkgogohhpaaGreatDoorEvV14c
namespace Go.Ev
open Go.RowKit
variable {P : Program}

/-- EQUALITY of values of the small machine. -/
noncomputable def beqOpt (a b : Option Nat) : Bool := match a, b with
  | some x, some y => Nat.beq x y
  | none, none => true
  | _, _ => false
noncomputable def beqFn (a b : Fn) : Bool := match a, b with
  | .func x, .func y => Nat.beq x y
  | _, _ => false
theorem beqFn_eq {a b : Fn} (h : beqFn a b = true) : a = b := by
  unfold beqFn at h
  split at h
  · rw [Nat.eq_of_beq_eq_true h]
  · simp at h

mutual
noncomputable def beqSV : SV → SV → Bool
  | .bool a, .bool b => a == b
  | .int k a, .int j b => kindBeq k j && eqZ a b
  | .str a, .str b => beqB a b
  | .nilp, .nilp => true
  | .ptr b o, .ptr c q => b.beq c && Nat.beq o q
  | .nils, .nils => true
  | .slice b o n c, .slice b' o' n' c' => b.beq b' && (Nat.beq o o' && (Nat.beq n n' && Nat.beq c c'))
  | .ope b o n c, .ope b' o' n' c' => b.beq b' && (Nat.beq o o' && (Nat.beq n n' && Nat.beq c c'))
  | .nilm, .nilm => true
  | .map b, .map c => b.beq c
  | .nilf, .nilf => true
  | .fn f a b, .fn g c d => beqFn f g && (beqSVs a c && beqSVs b d)
  | .yield a, .yield b => a.beq b
  | .nili, .nili => true
  | .iface t v, .iface u x => Nat.beq t u && beqSV v x
  | .agg a, .agg b => beqSVs a b
  | .tuple a, .tuple b => beqSVs a b
  | _, _ => false
noncomputable def beqSVs : List SV → List SV → Bool
  | [], [] => true
  | a :: l, b :: k => beqSV a b && beqSVs l k
  | _, _ => false
end

mutual
theorem beqSV_eq : ∀ (a b : SV), beqSV a b = true → a = b
  | .bool a, b, h => by cases b <;> simp [beqSV] at h; rw [h]
  | .int k a, b, h => by
    cases b <;> simp [beqSV, eqZ_eq] at h
    rw [kindBeq_eq h.1, h.2]
  | .str a, b, h => by cases b <;> simp [beqSV, beqB_eq] at h; rw [h]
  | .nilp, b, h => by cases b <;> simp [beqSV] at h; rfl
  | .ptr x o, b, h => by cases b <;> simp [beqSV, Pos.beq_iff] at h; rw [h.1, h.2]
  | .nils, b, h => by cases b <;> simp [beqSV] at h; rfl
  | .slice x o n c, b, h => by cases b <;> simp [beqSV, Pos.beq_iff] at h; rw [h.1, h.2.1, h.2.2.1, h.2.2.2]
  | .ope x o n c, b, h => by cases b <;> simp [beqSV, Pos.beq_iff] at h; rw [h.1, h.2.1, h.2.2.1, h.2.2.2]
  | .nilm, b, h => by cases b <;> simp [beqSV] at h; rfl
  | .map x, b, h => by cases b <;> simp [beqSV, Pos.beq_iff] at h; rw [h]
  | .nilf, b, h => by cases b <;> simp [beqSV] at h; rfl
  | .fn f a c, b, h => by
    cases b <;> simp [beqSV] at h
    rw [beqFn_eq h.1, beqSVs_eq _ _ h.2.1, beqSVs_eq _ _ h.2.2]
  | .yield a, b, h => by cases b <;> simp [beqSV, Pos.beq_iff] at h; rw [h]
  | .nili, b, h => by cases b <;> simp [beqSV] at h; rfl
  | .iface t v, b, h => by
    cases b <;> simp [beqSV] at h
    rw [h.1, beqSV_eq _ _ h.2]
  | .agg a, b, h => by
    cases b <;> simp [beqSV] at h
    rw [beqSVs_eq _ _ h]
  | .tuple a, b, h => by
    cases b <;> simp [beqSV] at h
    rw [beqSVs_eq _ _ h]
theorem beqSVs_eq : ∀ (a b : List SV), beqSVs a b = true → a = b
  | [], b, h => by cases b <;> simp [beqSVs] at h; rfl
  | a :: l, b, h => by
    cases b <;> simp [beqSVs] at h
    rw [beqSV_eq _ _ h.1, beqSVs_eq _ _ h.2]
end

noncomputable def mapOf (M : Mem) (b : Pos) : Option (List (SV × SV × Nat) × Nat) := match M.t.get b with
  | some (.map es c) => some (es, c)
  | _ => none
theorem mapOf_eq {M : Mem} {b : Pos} {es : List (SV × SV × Nat)} {c : Nat} (h : mapOf M b = some (es, c)) : M.t.get b = some (.map es c) := by
  unfold mapOf at h
  split at h
  · rename_i hb; simp only [Option.some.injEq, Prod.mk.injEq] at h; obtain ⟨rfl, rfl⟩ := h; exact hb
  · simp at h

noncomputable def putObj (M : Mem) (b : Pos) (o : SObj) : Mem := Mem.rec (fun t n f => ⟨t.put (some o) b, n, f⟩) M
theorem putObj_eq (M : Mem) (b : Pos) (o : SObj) : putObj M b o = ⟨M.t.put (some o) b, M.next, M.floor⟩ := by cases M; rfl

/-- The types of a map. -/
noncomputable def mapT (P : Program) (t : TypeId) : Option (TypeId × TypeId) :=
  match P.underlying t with
  | some (.map k e) => some (k, e)
  | _ => none
theorem mapT_eq {t k e : TypeId} (h : mapT P t = some (k, e)) : P.underlying t = some (.map k e) := by
  unfold mapT at h
  split at h
  · rename_i hd; simp only [Option.some.injEq, Prod.mk.injEq] at h; obtain ⟨rfl, rfl⟩ := h; exact hd
  · simp at h

section
variable {B : Nat} {m : Map} {M : Mem} {w : World}

theorem conc_map {b : Pos} {v : Value} (h : conc m (.map b) = some v) : ∃ p, m b = some p ∧ v = .map (some p.block) := by
  simp only [conc, Option.map_eq_some_iff] at h
  obtain ⟨p, hp, rfl⟩ := h
  exact ⟨p, hp, rfl⟩

theorem map_at (hr : MRel B m M w) {b : Pos} {p : Pl} {es : List (SV × SV × Nat)} {c : Nat} (hb : mapOf M b = some (es, c)) (hp : m b = some p) :
    ∃ a, w.heap[p.block]? = some (.map a c) ∧ All2 (EntRel m) es a.toList := by
  have := hr.objs b _ p (mapOf_eq hb) hp
  obtain ⟨a, h1, h2⟩ := this
  exact ⟨a, h1, h2⟩

/-- MAKE -/
noncomputable def xMakeMap (M : Mem) : Out := .val (.map (nextOf M)) (Mem.rec (fun t n f => ⟨t.put (some (.map [] 0)) n, n.succ, f⟩) M)

theorem xMakeMap_does (hr : MRel B m M w) (t : TypeId) : Does P B m M w (do Pure.pure (Next.value (← Instr.makeMap t none))) (xMakeMap M) := by
  have hs := Stepped.fresh hr M.t ⟨w.heap.size, 0, 0⟩ (.map [] 0) (w' := w.alloc (.map #[] 0)) (fun _ _ h => h) (fun _ _ _ => rfl) (fun _ _ => rfl)
    (fun b x q hx hq => by
      have hlt := hr.bound b q hq
      refine ⟨by simp; omega, ?_⟩
      show (w.heap.push _)[q.block]? = _
      rw [Array.getElem?_push, if_neg (by omega)])
    ((Below.refl B w).alloc hr.base _) (by show _ < (w.heap.push _).size; simp) hr.base rfl (fun m' _ => by
      show ObjRel m' _ _ (w.heap.push _)[w.heap.size]?
      exact ⟨#[], by simp, .nil⟩)
    (fun k hk _ => by show (w.heap.push _)[k]? = _; rw [Array.getElem?_push, if_neg (by omega)]) (fun h => absurd h (by simp))
  have hs' : Stepped B m M w (fun b => if b = M.next then some ⟨w.heap.size, 0, 0⟩ else m b) (Mem.rec (fun t n f => ⟨t.put (some (.map [] 0)) n, n.succ, f⟩) M) (w.alloc (.map #[] 0)) := by
    cases M with
    | mk t n f => exact hs
  refine Does.value (v := .map (some w.heap.size)) ?_ (by simp [conc, nextOf_eq]) hs'
  simp only [Instr.makeMap, Sem.run_bind, newObj, Sem.run, Result.andThen_ok]
  rfl

/-- LOOKUP -/
noncomputable def zeroS (P : Program) (t : TypeId) : Option SV := ((P.info? t).bind (·.zero)).bind fun z => ofV z
theorem zeroS_run {t : TypeId} {s : SV} (h : zeroS P t = some s) (w : World) : ∃ z, (zeroValue t).run P w = .ok z w ∧ conc m s = some z := by
  simp only [zeroS, Option.bind_eq_some_iff] at h
  obtain ⟨z, ⟨i, hi, hz⟩, hs⟩ := h
  exact ⟨z, by simp [zeroValue, Sem.run_bind, run_info hi, hz], ofV_conc m _ _ hs⟩

noncomputable def lookOut (M : Mem) (ok : Bool) (s : SV) (found : Bool) : Out := match ok with
  | true => .val (.tuple [s, .bool found]) M
  | false => .val s M

noncomputable def xLookup (P : Program) (t : TypeId) (x k : SV) (ok : Bool) (M : Mem) : Out :=
  match mapT P t with
  | none => .bad
  | some (kt, et) => match keyOK P 8 kt k with
    | false => .bad
    | true => match x with
      | .nilm => match zeroS P et with
        | some z => lookOut M ok z false
        | none => .bad
      | .map b => match mapOf M b with
        | none => .bad
        | some (es, _) => match findS P kt k es 0 with
          | some (some (_, _, s)) => lookOut M ok s true
          | some none => match zeroS P et with
            | some z => lookOut M ok z false
            | none => .bad
          | none => .bad
      | _ => .bad

theorem keyOK_d {n : Nat} {kt : TypeId} {k : SV} (h : keyOK P (n + 1) kt k = true) : ∃ d, P.underlying kt = some d := by
  simp only [keyOK] at h
  cases hd : P.underlying kt with
  | none => rw [hd] at h; simp at h
  | some d => exact ⟨d, rfl⟩

theorem lookOut_conc {ok : Bool} {s : SV} {v : Value} {f : Bool} (hr : MRel B m M w) (h : conc m s = some v) {q : Sem Value} (hq : q.run P w = .ok (if ok then .tuple #[v, .bool f] else v) w) :
    Does P B m M w (do Pure.pure (Next.value (← q))) (lookOut M ok s f) := by
  cases ok with
  | true => exact Does.pure hr hq (by simp [conc, concs, h])
  | false => exact Does.pure hr hq h

theorem xLookup_does (hr : MRel B m M w) {t : TypeId} {x k : SV} {ok : Bool} {v u : Value} (hx : conc m x = some v) (hk : conc m k = some u) :
    Does P B m M w (do Pure.pure (Next.value (← Instr.lookup t v u ok))) (xLookup P t x k ok M) := by
  unfold xLookup
  split
  next => trivial
  next kt et ht =>
    have hd := mapT_eq ht
    split
    next => trivial
    next hok =>
      have hck : ∀ em, (Instr.checkKey em 10000 kt u).run P w = .ok () w := fun em => keyOK_run em 8 9992 hok hk
      obtain ⟨d, hkd⟩ := keyOK_d (n := 7) hok
      split
      next =>
        have hv : v = .map none := by simp [conc] at hx; exact hx.symm
        subst hv
        split
        next z hz =>
          obtain ⟨zv, hzr, hzc⟩ := zeroS_run (m := m) hz w
          refine lookOut_conc hr hzc ?_
          have hfind : (Instr.findKey kt u []).run P w = .ok none w := by simp [Instr.findKey, Sem.run_bind, run_underlying hkd, Instr.findNow]
          simp only [Instr.lookup, Sem.run_bind, run_underlying hd, Result.andThen_ok, Sem.run_pure, hck, hfind, hzr]
        next => trivial
      next b =>
        obtain ⟨p, hp, rfl⟩ := conc_map hx
        split
        next => trivial
        next es c hb =>
          obtain ⟨a, ha, hent⟩ := map_at hr hb hp
          have hget : (getObj p.block).run P w = .ok (.map a c) w := by simp [getObj, Sem.run, ha]
          split
          next i a' s hf =>
            obtain ⟨q, hq, hres⟩ := findS_run (P := P) (w := w) hk hent hkd hf
            cases q with
            | none => exact hres.elim
            | some q =>
              obtain ⟨j, sv⟩ := q
              obtain ⟨_, _, _, hsc, _⟩ := hres
              refine lookOut_conc hr hsc ?_
              simp only [Instr.lookup, Sem.run_bind, run_underlying hd, Result.andThen_ok, hget, Sem.run_pure, hck, hq]
          next hf =>
            obtain ⟨q, hq, hres⟩ := findS_run (P := P) (w := w) hk hent hkd hf
            cases q with
            | some q => exact hres.elim
            | none =>
              split
              next z hz =>
                obtain ⟨zv, hzr, hzc⟩ := zeroS_run (m := m) hz w
                refine lookOut_conc hr hzc ?_
                simp only [Instr.lookup, Sem.run_bind, run_underlying hd, Result.andThen_ok, hget, Sem.run_pure, hck, hq, hzr]
              next => trivial
          next => trivial
      next => trivial

/-- Keys whose equals are the same. -/
noncomputable def keyPlain : SV → Bool
  | .int _ _ => true
  | .str _ => true
  | .bool _ => true
  | .agg l => l.all fun s => match s with
    | .int _ _ => true
    | .str _ => true
    | .bool _ => true
    | _ => false
  | _ => false

theorem bits_one {s : SV} {v : Value} (h : (match s with | .int _ _ => true | .str _ => true | .bool _ => true | _ => false) = true) (hv : conc m s = some v) (n : Nat) : Instr.sameBits n v v = true := by
  split at h
  · obtain rfl := conc_int hv; cases n <;> simp [Instr.sameBits]
  · obtain rfl := conc_str hv
    cases n <;> simp [Instr.sameBits, beq_bytes]
  · obtain rfl := conc_bool hv; cases n <;> simp [Instr.sameBits]
  · simp at h

theorem bits_same {s : SV} {v : Value} (h : keyPlain s = true) (hv : conc m s = some v) (n : Nat) : Instr.sameBits (n + 1) v v = true := by
  cases s with
  | int k x => exact bits_one (s := .int k x) rfl hv _
  | str x => exact bits_one (s := .str x) rfl hv _
  | bool x => exact bits_one (s := .bool x) rfl hv _
  | agg l =>
    obtain ⟨vs, hvs, rfl⟩ := conc_agg hv
    simp only [keyPlain, List.all_eq_true] at h
    simp only [Instr.sameBits, List.size_toArray, beq_self_eq_true, Bool.true_and]
    have : ∀ (l : List SV) (vs : List Value), (∀ x ∈ l, (match x with | .int _ _ => true | .str _ => true | .bool _ => true | _ => false) = true) → concs m l = some vs → ((vs.zip vs).all fun (x, y) => Instr.sameBits n x y) = true := by
      intro l
      induction l with
      | nil => intro vs _ hc; simp only [concs, Option.some.injEq] at hc; subst hc; rfl
      | cons a l ih =>
        intro vs hl hc
        obtain ⟨v, r, h1, h2, rfl⟩ := concs_cons_inv hc
        simp only [List.zip_cons_cons, List.all_cons, bits_one (hl a (by simp)) h1 n, Bool.true_and]
        exact ih r (fun x hx => hl x (by simp [hx])) h2
    exact this l vs h hvs
  | _ => simp [keyPlain] at h

noncomputable def setE (x : SV) : Nat → List (SV × SV × Nat) → List (SV × SV × Nat)
  | _, [] => []
  | 0, (a, _, b) :: l => (a, x, b) :: l
  | n + 1, e :: l => e :: setE x n l

noncomputable def mapOwn (M : Mem) (b : Pos) : Option (List (SV × SV × Nat) × Nat) := match above M b with
  | true => mapOf M b
  | false => none

noncomputable def xMapUpdate (P : Program) (t : TypeId) (x k v : SV) (M : Mem) : Out :=
  match mapT P t with
  | none => .bad
  | some (kt, _) => match keyOK P 8 kt k, x with
    | true, .map b => match mapOwn M b with
      | none => .bad
      | some (es, c) => match findS P kt k es 0 with
        | some none => .val (.tuple []) (putObj M b (.map (es ++ [(k, v, c)]) (Nat.succ c)))
        | some (some (i, a, _)) => match beqSV a k, keyPlain k with
          | true, true => .val (.tuple []) (putObj M b (.map (setE v i es) c))
          | _, _ => .bad
        | none => .bad
    | _, _ => .bad

theorem All2.app {α β : Type} {R : α → β → Prop} : ∀ {l : List α} {k : List β} {l' : List α} {k' : List β}, All2 R l k → All2 R l' k' → All2 R (l ++ l') (k ++ k')
  | _, _, _, _, .nil, h => h
  | _, _, _, _, .cons a b, h => .cons a (All2.app b h)

theorem mapOwn_eq {M : Mem} {b : Pos} {x : List (SV × SV × Nat) × Nat} (h : mapOwn M b = some x) : mapOf M b = some x ∧ M.floor ≤ b.num := by
  unfold mapOwn at h
  split at h
  · rename_i ha; exact ⟨h, above_eq ha⟩
  · simp at h

theorem setE_rel {v : SV} {x u : Value} (hv : conc m v = some x) : ∀ {es : List (SV × SV × Nat)} {l : List MapEntry} {i : Nat}, All2 (EntRel m) es l → (∀ e, l[i]? = some e → e.key = u) → All2 (EntRel m) (setE v i es) (l.modify i fun e => { e with key := u, val := x })
  | _, _, i, .nil, _ => by cases i <;> exact .nil
  | (a, b, c) :: es, e :: l, 0, .cons ⟨h1, h2, h3⟩ hr, hk => by
    have := hk e rfl
    simp only [setE, List.modify_zero_cons]
    exact .cons ⟨by rw [← this]; exact h1, hv, h3⟩ hr
  | e' :: es, e :: l, i + 1, .cons h hr, hk => by
    simp only [setE, List.modify_succ_cons]
    exact .cons h (setE_rel hv hr fun e he => hk e (by simpa using he))

theorem setObj_run {r : Nat} {a : Array MapEntry} {c : Nat} (o : Obj) (h : w.heap[r]? = some (.map a c)) : (setObj r o).run P w = .ok () { w with heap := w.heap.setIfInBounds r o } := by
  simp [setObj, Sem.run, h]

theorem putMap_step (hr : MRel B m M w) {b : Pos} {p : Pl} {es es' : List (SV × SV × Nat)} {c c' : Nat} (hbo : mapOwn M b = some (es, c)) (hp : m b = some p) (a' : Array MapEntry) (ha' : All2 (EntRel m) es' a'.toList) :
    Stepped B m M w m (putObj M b (.map es' c')) { w with heap := w.heap.setIfInBounds p.block (.map a' c') } := by
  rw [putObj_eq]
  obtain ⟨hb, hfl⟩ := mapOwn_eq hbo
  have hlow := hr.low b _ p (mapOf_eq hb) rfl hp
  have hbd := hr.bound b p hp
  refine Stepped.update hr b _ _ p (mapOf_eq hb) rfl hp (fun k hk => ?_) ⟨rfl, rfl, rfl, by simp, fun k hk => ?_⟩ rfl ?_ hfl
  · exact Array.getElem?_setIfInBounds_ne (fun e => hk e.symm)
  · exact Array.getElem?_setIfInBounds_ne (by omega)
  · refine ⟨a', ?_, ha'⟩
    show (w.heap.setIfInBounds p.block _)[p.block]? = _
    rw [Array.getElem?_setIfInBounds]
    simp [hbd]

theorem xMapUpdate_does (hr : MRel B m M w) {t : TypeId} {x k s : SV} {v u sv : Value} (hx : conc m x = some v) (hk : conc m k = some u) (hs : conc m s = some sv) :
    Does P B m M w (do Instr.mapUpdate t v u sv; Pure.pure Next.skip) (xMapUpdate P t x k s M) := by
  unfold xMapUpdate
  split
  next => trivial
  next kt et ht =>
    have hd := mapT_eq ht
    split
    next b hok =>
      have hck : ∀ em, (Instr.checkKey em 10000 kt u).run P w = .ok () w := fun em => keyOK_run em 8 9992 hok hk
      obtain ⟨d, hkd⟩ := keyOK_d (n := 7) hok
      obtain ⟨p, hp, rfl⟩ := conc_map hx
      split
      next => trivial
      next es c hb =>
        obtain ⟨a, ha, hent⟩ := map_at hr (mapOwn_eq hb).1 hp
        have hget : (getObj p.block).run P w = .ok (.map a c) w := by simp [getObj, Sem.run, ha]
        split
        next hf =>
          obtain ⟨q, hq, hres⟩ := findS_run (P := P) (w := w) hk hent hkd hf
          cases q with
          | some q => exact hres.elim
          | none =>
            refine Does.unit ?_ (putMap_step hr hb hp (a.push { key := u, val := sv, born := c }) (c' := Nat.succ c) (by
              rw [Array.toList_push]
              exact hent.app (.cons ⟨hk, hs, rfl⟩ .nil)))
            simp only [Instr.mapUpdate, Sem.run_bind, run_underlying hd, Result.andThen_ok, hget, hck, hq, setObj_run _ ha]
        next i a' s' hf =>
          split
          next hbe hpl =>
            obtain rfl := beqSV_eq _ _ hbe
            obtain ⟨q, hq, hres⟩ := findS_run (P := P) (w := w) hk hent hkd hf
            cases q with
            | none => exact hres.elim
            | some q =>
              obtain ⟨j, ov⟩ := q
              obtain ⟨rfl, j', hj, hsc, e, he, hec⟩ := hres
              rw [Nat.zero_add] at hj
              subst hj
              rw [hk] at hec
              have hkey : e.key = u := (Option.some.inj hec).symm
              refine Does.unit ?_ (putMap_step hr hb hp (a.modify i fun e => { e with key := u, val := sv }) (c' := c) (by
                rw [Array.toList_modify]
                exact setE_rel hs hent fun e' he' => by rw [he] at he'; cases he'; exact hkey))
              have hold : ((a[i]?).map (·.key)).getD u = u := by
                have : a[i]? = some e := by simpa using he
                rw [this]; exact hkey
              have hst : (Instr.keyThatStays u u).run P w = .ok u w := by
                unfold Instr.keyThatStays
                rw [bits_same hpl hk 9999]
                rfl
              simp only [Instr.mapUpdate, Sem.run_bind, run_underlying hd, Result.andThen_ok, hget, hck, hq, hold, hst, setObj_run _ ha]
          next => trivial
        next => trivial
    next => trivial

end
end Go.Ev
