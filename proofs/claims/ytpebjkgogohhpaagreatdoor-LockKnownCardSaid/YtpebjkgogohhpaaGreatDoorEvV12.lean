/- append and copy do likewise. -/
import Derived.Test.YtpebjkgogohhpaaGreatDoorEvV11
namespace Go.Ev
open Go.RowKit
variable {P : Program}

section
variable {B : Nat} {m : Map} {M : Mem} {w : World}

/-- append, where there is room. -/
theorem run_roomy {t u ty e : TypeId} {i : TypeInfo} (ht : P.underlying t = some (.slice e)) (hu : (∃ e', P.underlying u = some (.slice e')) ∨ P.underlying u = some .string) (hi : P.info? e = some i)
    {a : Addr} {k c n : Nat} {y : Value} {news : List Value} (hlen : (Builtin.lenOf y).run P w = .ok n w)
    (hnew : (Builtin.firstCells i.size n y).run P w = .ok news.toArray w) (hg : k + n ≤ c) {w' : World} (hst : (storeCells (a.add (k * i.size)) news).run P w = .ok () w') :
    (Builtin.append_ #[t, u] ty #[.slice (some a) k c, y]).run P w = .ok (.slice (some a) (k + n) c) w' := by
  have e1 : (sizeOf e).run P w = .ok i.size w := run_size hi w
  rcases hu with ⟨e', hu⟩ | hu
  all_goals
    simp only [Builtin.append_, List.getElem?_toArray, List.getElem?_cons_zero, List.getElem?_cons_succ, Sem.run_bind, run_underlying ht, run_underlying hu, Result.andThen_ok, e1, hlen, Bool.false_eq_true, if_false, hg, if_true, Sem.run_pure, hnew, hst, Bool.not_false]

theorem run_nilnil {t u ty e : TypeId} {i : TypeInfo} (ht : P.underlying t = some (.slice e)) (hu : (∃ e', P.underlying u = some (.slice e')) ∨ P.underlying u = some .string) (hi : P.info? e = some i)
    {y : Value} {news : List Value} (hlen : (Builtin.lenOf y).run P w = .ok 0 w) (hnew : (Builtin.firstCells i.size 0 y).run P w = .ok news.toArray w) :
    (Builtin.append_ #[t, u] ty #[.slice none 0 0, y]).run P w = .ok (.slice none 0 0) w := by
  have e1 : (sizeOf e).run P w = .ok i.size w := run_size hi w
  rcases hu with ⟨e', hu⟩ | hu
  all_goals
    simp only [Builtin.append_, List.getElem?_toArray, List.getElem?_cons_zero, List.getElem?_cons_succ, Sem.run_bind, run_underlying ht, run_underlying hu, Result.andThen_ok, e1, hlen, Bool.false_eq_true, if_false, Nat.add_zero, Nat.le_refl, if_true, Sem.run_pure, hnew, Bool.not_false]

/-- What 'grow' gives, if the model takes a new row. -/
theorem grow_does (hr : MRel B m M w) {kk : RK} (hkk : kk ≠ .whole) {x : Elt} {need : Nat} {cells : List SV} {q : Sem Value}
    (hq : need ≤ 1073741824 → 2 * need * x.bytes ≤ 281474976710656 → 0 < x.size → ∃ vs post cap w', concs m cells = some vs ∧ need ≤ cap ∧ vs.length + post.length = cap * x.size ∧ q.run P w = .ok (.slice (some ⟨w.heap.size, 0, none⟩) need cap) w' ∧
      w'.heap = w.heap.push (.cells (vs ++ post).toArray x.ty (0, 0)) ∧ w'.os = w.os ∧ w'.tape = w.tape ∧ w'.output = w.output) :
    Does P B m M w (do Pure.pure (Next.value (← q))) (grow kk M x need cells) := by
  unfold grow
  split
  next h1 h2 h3 =>
    have h1' := Nat.le_of_ble_eq_true h1
    have h2' := Nat.le_of_ble_eq_true h2
    have h3' := Nat.le_of_ble_eq_true h3
    simp only [Nat.mul_eq] at h2'
    obtain ⟨vs, post, cap, w', hc, hcap, hl, hrun, hh, ho, htp, hout⟩ := hq h1' h2' h3'
    obtain ⟨m', hs, hm⟩ := new_row hr kk (.inl hkk) x.ty hc hh ho htp hout
    refine Does.value hrun ?_ hs
    have : need * x.size ≤ cap * x.size := Nat.mul_le_mul_right _ hcap
    simp only [conc, nextOf_eq, hm, Option.bind_some, hl, Nat.add_zero, Nat.sub_zero, Nat.zero_add]
    rw [if_pos ⟨h3', this⟩, Nat.mul_div_cancel _ h3']
  next => trivial

/-- The same, where a row is lost. -/
theorem grow_drop (hr : MRel B m M w) {kk : RK} (hkk : kk ≠ .whole) {b : Pos} {p : Pl} (hfl : M.floor ≤ b.num) (hp : m b = some p) {x : Elt} {need : Nat} {cells : List SV} {q : Sem Value}
    (hq : need ≤ 1073741824 → 2 * need * x.bytes ≤ 281474976710656 → 0 < x.size → ∃ vs post cap w', concs m cells = some vs ∧ need ≤ cap ∧ vs.length + post.length = cap * x.size ∧ q.run P w = .ok (.slice (some ⟨w.heap.size, 0, none⟩) need cap) w' ∧
      w'.heap = w.heap.push (.cells (vs ++ post).toArray x.ty (0, 0)) ∧ w'.os = w.os ∧ w'.tape = w.tape ∧ w'.output = w.output) :
    Does P B m M w (do Pure.pure (Next.value (← q))) (grow kk (dropRow M b) x need cells) := by
  unfold grow
  split
  next h1 h2 h3 =>
    have h1' := Nat.le_of_ble_eq_true h1
    have h2' := Nat.le_of_ble_eq_true h2
    have h3' := Nat.le_of_ble_eq_true h3
    simp only [Nat.mul_eq] at h2'
    obtain ⟨vs, post, cap, w', hc, hcap, hl, hrun, hh, ho, htp, hout⟩ := hq h1' h2' h3'
    have hs := Stepped.fresh hr (M.t.put none b) ⟨w.heap.size, 0, vs.length + post.length⟩ (.row x.ty kk cells) (w' := w')
      (fun b' y h => by
        by_cases he : b = b'
        · subst he; rw [Tree.get_put_same] at h; simp at h
        · rwa [Tree.get_put_other _ _ he] at h)
      (fun b' _ hm => by
        by_cases he : b = b'
        · subst he; rw [hp] at hm; simp at hm
        · rw [Tree.get_put_other _ _ he])
      (fun b' hlt => by
        have := hfl
        rw [Tree.get_put_other _ _ (fun he => by subst he; omega)])
      (fun b' y q h hq => by
        have hlt := hr.bound b' q hq
        refine ⟨by simp only; omega, ?_⟩
        rw [hh, Array.getElem?_push, if_neg (by omega)])
      ⟨ho, htp, hout, by rw [hh]; simp, fun k hk => by have := hr.base; rw [hh, Array.getElem?_push, if_neg (by omega)]⟩ (by rw [hh]; simp) hr.base rfl (fun m' hm' => by
        rw [hh]
        exact ⟨x.ty, (0, 0), [], vs, post, by simp, Frz.zero hkk _ _, rfl, by simp, concs_ext hm' _ _ hc, fun t h => Option.some.inj h⟩)
      (fun k hk _ => by rw [hh, Array.getElem?_push, if_neg (by omega)]) (fun h => absurd h (by simp))
    have hs' : Stepped B m M w (fun c => if c = M.next then some ⟨w.heap.size, 0, vs.length + post.length⟩ else m c) (newRowS x.ty kk (dropRow M b) cells) w' := by
      cases M with
      | mk t n => exact hs
    have hnx : nextOf (dropRow M b) = M.next := by cases M; rfl
    refine Does.value hrun ?_ hs'
    have : need * x.size ≤ cap * x.size := Nat.mul_le_mul_right _ hcap
    simp only [conc, hnx, if_true, Option.bind_some, hl, Nat.add_zero, Nat.sub_zero, Nat.zero_add]
    rw [if_pos ⟨h3', this⟩, Nat.mul_div_cancel _ h3']
  next => trivial

theorem elt_zero {e : TypeId} {x : Elt} (h : eltOf P e = some x) : ∃ i z, P.info? e = some i ∧ i.size = x.size ∧ i.bytes = x.bytes ∧ (∀ w, (zeroValue e).run P w = .ok z w) ∧ z.cells.size = x.size := by
  unfold eltOf at h
  split at h
  · rename_i i z hi hz
    split at h
    · rename_i hl
      simp only [Option.some.injEq] at h
      subst h
      simp only [zerosOf, hi, Option.bind_some, Option.bind_eq_some_iff, Option.map_eq_some_iff] at hz
      obtain ⟨v, hv, s, hs, rfl⟩ := hz
      refine ⟨i, v, hi, rfl, rfl, fun w => by simp [zeroValue, Sem.run_bind, run_info hi, hv], ?_⟩
      have h0 : concs (fun _ => none) (cellsOf s) = some v.cells.toList := cellsOf_conc (ofV_conc (fun _ => none) _ _ hs)
      have := concs_length h0
      have h2 : (cellsOf s).length = i.size := by rw [← len_eq]; exact Nat.eq_of_beq_eq_true hl
      simp only [Array.length_toList] at this
      show v.cells.size = i.size
      omega
    · simp at h
  · simp at h

/-- The model's growth, for whatever lies there. -/
theorem growth (hr : MRel B m M w) {t u ty e : TypeId} {x : Elt} (ht : P.underlying t = some (.slice e)) (hu : (∃ e', P.underlying u = some (.slice e')) ∨ P.underlying u = some .string) (hx : eltOf P e = some x)
    {base : Option Addr} {k c n : Nat} {y : Value} {old new : List SV} {olds news : List Value} (hlen : (Builtin.lenOf y).run P w = .ok n w) (ho : concs m old = some olds) (hn : concs m new = some news)
    (hol : olds.length = k * x.size) (hnl : news.length = n * x.size)
    (hold : ∀ w', w'.heap = w.heap → (Builtin.firstCells x.size k (.slice base k c)).run P w' = .ok olds.toArray w') (hnew : ∀ w', w'.heap = w.heap → (Builtin.firstCells x.size n y).run P w' = .ok news.toArray w') (hg : c < k + n)
    (h1 : k + n ≤ 1073741824) (h2 : 2 * (k + n) * x.bytes ≤ 281474976710656) :
    ∃ vs post cap w', concs m (old ++ new) = some vs ∧ k + n ≤ cap ∧ vs.length + post.length = cap * x.size ∧ (Builtin.append_ #[t, u] ty #[.slice base k c, y]).run P w = .ok (.slice (some ⟨w.heap.size, 0, none⟩) (k + n) cap) w' ∧
      w'.heap = w.heap.push (.cells (vs ++ post).toArray x.ty (0, 0)) ∧ w'.os = w.os ∧ w'.tape = w.tape ∧ w'.output = w.output := by
  obtain rfl := eltOf_ty hx
  obtain ⟨i, z, hi, hs, hb, hz, hzs⟩ := elt_zero hx
  rw [← hs] at hold hnew
  rw [← hb] at h2
  obtain ⟨cap, w', hcap, hrun, hh, h3, h4, h5⟩ := run_grow (P := P) (w := w) (ty := ty) ht hu hi hz hlen hold hnew hg h1 h2
  refine ⟨olds ++ news, (Builtin.zeroCells z.cells (cap - (k + n))).toList, cap, w', concs_append ho hn, hcap, ?_, hrun, hh, h3, h4, h5⟩
  simp only [List.length_append, Array.length_toList, zeroCells_len, hol, hnl, hzs, ← Nat.add_mul]
  congr 1
  omega

theorem firstS_length {x : SV} {z n : Nat} {l : List SV} (hn : lenS x = some n) (hs : ∀ s, x = .str s → z = 1) (h : firstS M z n x = some l) : l.length = n * z := by
  unfold firstS at h
  split at h
  · simp only [lenS, Option.some.injEq] at hn h; subst hn h; simp
  · rename_i s
    simp only [lenS, Option.some.injEq] at hn h; subst hn h
    have h1 := concs_length (bytesS_conc (fun _ => none) (tkB (lenB s) s))
    rw [List.length_map] at h1
    rw [← h1, tkB_eq, lenB_eq, hs s rfl]; simp
  · split at h
    · split at h
      · rename_i hb
        simp only [Option.some.injEq] at h; subst h
        have := Nat.le_of_ble_eq_true hb
        rw [len_eq] at this
        simp only [Nat.add_eq, Nat.mul_eq] at this
        rw [tk_eq, dp_eq]; simp; omega
      · simp at h
    · simp at h
  · split at h
    · split at h
      · rename_i hb
        simp only [Option.some.injEq] at h; subst h
        have := Nat.le_of_ble_eq_true hb
        rw [len_eq] at this
        simp only [Nat.add_eq, Nat.mul_eq] at this
        rw [tk_eq, dp_eq]; simp; omega
      · simp at h
    · simp at h
  · simp at h

theorem lenZ_eq {x : Elt} {y : SV} {n : Nat} (h : lenZ x y = some n) : lenS y = some n ∧ ∀ s, y = .str s → x.size = 1 := by
  unfold lenZ at h
  split at h
  · rename_i s
    split at h
    · rename_i hb
      exact ⟨h, fun _ _ => Nat.eq_of_beq_eq_true hb⟩
    · simp at h
  · rename_i hne
    exact ⟨h, fun s e => absurd e (hne s)⟩

/-- A row that takes the place of another one, in its block. -/
theorem in_place (hr : MRel B m M w) {b : Pos} {cells old new : List SV} {p : Pl} {off k z n : Nat} {olds news : List Value} {te : TypeId} {kk : RK} (hb : M.t.get b = some (.row te kk cells)) (hfl : M.floor ≤ b.num) (hk : ∀ j, kk = .head j → j ≤ off + k * z) (hp : m b = some p)
    (ho : old = (cells.drop off).take (k * z)) (hoc : off + k * z ≤ cells.length) (hol : concs m old = some olds) (hnl : concs m new = some news) (hnn : news.length = n * z) (h1 : ones new = true) (hfit : off + p.shift + (k + n) * z ≤ p.size) :
    ∃ m' w', (storeCells ((⟨p.block, off + p.shift, none⟩ : Addr).add (k * z)) news).run P w = .ok () w' ∧ Stepped B m M w m' (newRowS te (shiftK kk off) (dropRow M b) (old ++ new)) w' ∧ m' M.next = some ⟨p.block, off + p.shift, p.size⟩ := by
  obtain ⟨e, fz, pre, ws, post, hh, hz, hs, hl, hc, hte⟩ := hr.objs b _ p hb hp
  have hwl := concs_length hc
  have hkn : (k + n) * z = k * z + n * z := Nat.add_mul _ _ _
  have hst := run_stores (P := P) p.block (off + p.shift + k * z) e fz news 0 _ w hh (by simp; omega) (by have := hz.store hk (sz := (pre ++ (ws ++ post)).toArray.size) (by simp; omega); omega) (ones_conc h1 hnl)
  have hol' : olds = (ws.drop off).take (k * z) := by
    have := concs_take (k * z) (concs_drop off hc)
    rw [← ho, hol] at this
    exact Option.some.inj this
  have holl : olds.length = k * z := by rw [hol']; simp; omega
  generalize hD : w.setRow p.block ((pre ++ (ws ++ post)).toArray.toList.take (off + p.shift + k * z + 0) ++ news ++ (pre ++ (ws ++ post)).toArray.toList.drop (off + p.shift + k * z + 0 + news.length)).toArray = w' at hst
  have hheap : w'.heap[p.block]? = some (.cells ((pre ++ ws.take off) ++ ((olds ++ news) ++ ((pre ++ (ws ++ post)).drop (off + p.shift + k * z + news.length)))).toArray e fz) := by
    rw [← hD, setRow_heap w p.block _ _ e fz hh]
    congr 3
    have e1 : (pre ++ (ws ++ post)).take (off + p.shift + k * z + 0) = pre ++ ws.take off ++ olds := by
      rw [List.take_append, List.take_of_length_le (by omega), List.take_append, hol']
      rw [show off + p.shift + k * z + 0 - pre.length = off + k * z by omega, List.take_add, show off + k * z - ws.length = 0 by omega]
      simp
    simp only [Nat.add_zero] at e1 ⊢
    simp only [e1, List.append_assoc]
  have hother : ∀ j, j ≠ p.block → w'.heap[j]? = w.heap[j]? := fun j hj => by rw [← hD]; exact setRow_other w _ j _ hj
  have hlow := hr.low b _ p hb rfl hp
  have hbel : Below B w w' := by
    rw [← hD]
    exact ⟨rfl, rfl, rfl, by simp [World.setRow], fun j hj => setRow_other w _ j _ (by omega)⟩
  have hpb := hr.bound b p hp
  have := Stepped.fresh hr (M.t.put none b) ⟨p.block, off + p.shift, p.size⟩ (.row te (shiftK kk off) (old ++ new)) (w' := w')
    (fun b' y h => by
      by_cases he : b = b'
      · subst he; rw [Tree.get_put_same] at h; simp at h
      · rwa [Tree.get_put_other _ _ he] at h)
    (fun b' _ hm => by
      by_cases he : b = b'
      · subst he; rw [hp] at hm; simp at hm
      · rw [Tree.get_put_other _ _ he])
    (fun b' hlt => by
      have := hfl
      rw [Tree.get_put_other _ _ (fun he => by subst he; omega)])
    (fun b' y q h hq => by
      by_cases he : b = b'
      · subst he; rw [Tree.get_put_same] at h; simp at h
      · rw [Tree.get_put_other _ _ he] at h
        have hne : q.block ≠ p.block := fun heq => he (hr.inj b b' _ _ p q hb h hp hq heq.symm)
        exact ⟨hne, hother _ hne⟩)
    hbel (by have := hbel.size; simp only; omega) hlow rfl
    (fun m' hm' => by
      refine ⟨e, fz, pre ++ ws.take off, olds ++ news, (pre ++ (ws ++ post)).drop (off + p.shift + k * z + news.length), hheap, ?_, by simp; omega, ?_, concs_ext hm' _ _ (concs_append hol hnl), hte⟩
      · cases kk with
        | mark => exact hz
        | head j =>
          have hz' : fz.2 ≤ p.shift + j := hz
          show fz.2 ≤ off + p.shift + (j - off)
          omega
        | whole =>
          have hz' : fz.2 = 0 ∧ p.shift = 0 ∧ p.size = ws.length := hz
          show fz.2 ≤ off + p.shift + 0
          omega
      simp only [List.length_append, List.length_take, List.length_drop]; omega)
    (fun k _ hk => hother k fun e => hk ⟨b, _, p, hb, rfl, hp, e.symm⟩) (fun _ => ⟨b, _, p, hb, rfl, hp, rfl⟩)
  refine ⟨fun c => if c = M.next then some ⟨p.block, off + p.shift, p.size⟩ else m c, w', ?_, ?_, ?_⟩
  · rw [addr_add]; exact hst
  · cases M with
    | mk t nx => exact this
  · simp

theorem xAppend_does (hr : MRel B m M w) {t u ty : TypeId} {s y : SV} {v uv : Value} (hv : conc m s = some v) (hy : conc m y = some uv) :
    Does P B m M w (do Pure.pure (Next.value (← Builtin.append_ #[t, u] ty #[v, uv]))) (xAppend P t u s y M) := by
  unfold xAppend
  split
  next => trivial
  next x hx =>
   split
   next => trivial
   next n hn =>
    split
    next => trivial
    next new hnew =>
      obtain ⟨e, ht, hel, hu⟩ := appT_run hx
      obtain ⟨i, z, hi, hsz, hby, hz, hzs⟩ := elt_zero hel
      obtain ⟨hln, hstr⟩ := lenZ_eq hn
      have hlen := lenS_run (P := P) hln hy w
      obtain ⟨news, hnc, hnr⟩ := firstS_run (P := P) hr hnew hy
      have hnl := firstS_length hln hstr hnew
      have hnl2 := concs_length hnc
      have hnr0 : (Builtin.firstCells i.size n uv).run P w = .ok news.toArray w := by rw [hsz]; exact hnr w rfl
      split
      next =>
        have hv' : v = .slice none 0 0 := by simp [conc] at hv; exact hv.symm
        subst hv'
        split
        next => exact Does.pure hr (run_nilnil ht hu hi hlen hnr0) rfl
        next hn0 =>
          have hn0' : n ≠ 0 := fun e => hn0 e
          refine grow_does hr (by simp) fun h1 h2 _ => ?_
          have := growth (P := P) (ty := ty) hr ht hu hel (base := none) (k := 0) (c := 0) (old := []) (olds := []) hlen (concs_nil m) hnc (by simp) (by omega) (fun w' _ => by simp [Builtin.firstCells]) hnr (by omega) (by omega) (by simpa using h2)
          simpa using this
      next b off k c =>
        obtain ⟨p, hp, rfl⟩ := conc_slice hv
        split
        next hle =>
          have hle' := Nat.le_of_ble_eq_true hle
          simp only [Nat.add_eq] at hle'
          split
          next =>
            have hnz : news = [] := List.eq_nil_of_length_eq_zero (by simpa using hnl2)
            subst hnz
            exact Does.pure hr (run_roomy ht hu hi hlen hnr0 hle' (w' := w) rfl) (by simp [conc, hp])
          next hne =>
            split
            next M' hM =>
              obtain ⟨w', hst, hs⟩ := run_put (P := P) hr hM hp hnc
              refine Does.value (run_roomy ht hu hi hlen hnr0 hle' (w' := w') ?_) ?_ hs
              · rw [hsz, addr_eq]; exact hst
              · simp [conc, hp]
            next => trivial
        next hnle =>
          split
          next old hold =>
            obtain ⟨olds, hoc, hor⟩ := firstS_run (P := P) hr hold hv
            have hol := firstS_length (n := k) rfl (fun _ e => by cases e) hold
            have hol2 := concs_length hoc
            rw [app_eq]
            refine grow_does hr (by simp) fun h1 h2 _ => ?_
            simp only [Nat.add_eq] at h1 h2 ⊢
            have hlt : c < k + n := by
              apply Classical.byContradiction
              intro hc
              rw [Nat.add_eq, Nat.ble_eq_true_of_le (by omega : k + n ≤ c)] at hnle
              simp at hnle
            exact growth (P := P) (ty := ty) hr ht hu hel hlen hoc hnc (by omega) (by omega) hor hnr hlt h1 h2
          next => trivial
      next b off k z' =>
        split
        next te kk old hzz hownk hold =>
          obtain rfl := Nat.eq_of_beq_eq_true hzz
          obtain ⟨⟨cells, hown⟩, hfl⟩ := ownK_both hownk
          obtain ⟨p, hp, hz0, hfit, rfl⟩ := conc_ope hv
          obtain ⟨olds, hoc, hor⟩ := firstS_run (P := P) hr hold hv
          have hol := firstS_length (n := k) rfl (fun _ e => by cases e) hold
          have hol2 := concs_length hoc
          split
          next =>
            have hnz : news = [] := List.eq_nil_of_length_eq_zero (by rw [hnl2, hnl]; simp)
            subst hnz
            have hkc : k ≤ (p.size - (off + p.shift)) / x.size := by rw [Nat.le_div_iff_mul_le hz0]; omega
            exact Does.pure hr (run_roomy ht hu hi hlen hnr0 (by omega) (w' := w) rfl) hv
          next hn0 =>
            have hn0' : n ≠ 0 := fun e => hn0 e
            split
            next hones htyb hfz =>
              rw [app_eq]
              have hty := Nat.eq_of_beq_eq_true htyb
              subst hty
              have hkk := frzOK_eq hfz
              simp only [Nat.add_eq, Nat.mul_eq] at hkk
              have hold' := hold
              simp only [firstS, rowOf_row hown] at hold'
              split at hold'
              case h_2 => simp at hold'
              rename_i hble
              have hble' := Nat.le_of_ble_eq_true hble
              simp only [len_eq, Nat.add_eq, Nat.mul_eq] at hble'
              simp only [Option.some.injEq, tk_eq, dp_eq, Nat.mul_eq] at hold'
              by_cases hroom : k + n ≤ (p.size - (off + p.shift)) / x.size
              · have hfit2 : off + p.shift + (k + n) * x.size ≤ p.size := by
                  have h1 := (Nat.le_div_iff_mul_le hz0).1 hroom
                  have h2 : 0 < (k + n) * x.size := Nat.mul_pos (by omega) hz0
                  omega
                obtain ⟨m', w', hst, hs, hm⟩ := in_place (P := P) hr hown hfl hkk hp hold'.symm hble' hoc hnc (by omega) hones hfit2
                unfold grow
                split
                · refine Does.value (run_roomy ht hu hi hlen hnr0 hroom (w' := w') (by rw [hsz]; exact hst)) ?_ hs
                  have hnx : nextOf (dropRow M b) = M.next := by cases M; rfl
                  simp only [conc, hnx, hm, Option.bind_some, Nat.zero_add]
                  rw [if_pos ⟨hz0, by simpa using hfit2⟩]
                  rfl
                · trivial
              · refine grow_drop hr (shiftK_ne _ _) hfl hp fun h1 h2 _ => ?_
                simp only [Nat.add_eq] at h1 h2 ⊢
                exact growth (P := P) (ty := ty) hr ht hu hel hlen hoc hnc (by omega) (by omega) hor hnr (by omega) h1 h2
            next => trivial
        next => trivial
      next => trivial

end
end Go.Ev
