/- Reading and writing rows. -/
import Derived.Test.YtpebjkgogohhpaaGreatDoorEvV2
import Derived.Laws.AppendOwn
import Derived.Laws.IdiomCopy
namespace Go.Ev
open Go.RowKit
variable {P : Program}

noncomputable def nth (l : List SV) : Nat → Option SV :=
  List.rec (fun _ => none) (fun a _ ih i => Nat.rec (some a) (fun j _ => ih j) i) l
noncomputable def tk (n : Nat) : List SV → List SV :=
  Nat.rec (fun _ => []) (fun _ ih l => List.rec [] (fun a r _ => a :: ih r) l) n
noncomputable def dp (n : Nat) : List SV → List SV :=
  Nat.rec (fun l => l) (fun _ ih l => List.rec [] (fun _ r _ => ih r) l) n
noncomputable def len (l : List SV) : Nat := List.rec 0 (fun _ _ ih => Nat.succ ih) l
noncomputable def app (l k : List SV) : List SV := List.rec k (fun a _ ih => a :: ih) l

theorem nth_eq : ∀ (l : List SV) (i : Nat), nth l i = l[i]?
  | [], _ => by simp [nth]
  | a :: l, 0 => rfl
  | a :: l, i + 1 => by
    show nth l i = _
    rw [nth_eq l i]; simp
theorem tk_eq : ∀ (n : Nat) (l : List SV), tk n l = l.take n
  | 0, l => by show ([] : List SV) = _; simp
  | n + 1, [] => by simp [tk]
  | n + 1, a :: l => by show a :: tk n l = _; rw [tk_eq n l]; simp
theorem dp_eq : ∀ (n : Nat) (l : List SV), dp n l = l.drop n
  | 0, l => by show l = _; simp
  | n + 1, [] => by simp [dp]
  | n + 1, a :: l => by show dp n l = _; rw [dp_eq n l]; simp
theorem len_eq : ∀ l : List SV, len l = l.length
  | [] => rfl
  | a :: l => by show Nat.succ (len l) = _; rw [len_eq l]; rfl
theorem app_eq : ∀ l k : List SV, app l k = l ++ k
  | [], _ => rfl
  | a :: l, k => by show a :: app l k = _; rw [app_eq l k]; rfl

/-- The row under a name. -/
noncomputable def rowOf (M : Mem) (b : Pos) : Option (List SV) := match M.t.get b with
  | some (.row _ _ c) => some c
  | some (.fix c) => some c
  | _ => none
/-- The row under a name, if it may be written. -/
noncomputable def above (M : Mem) (b : Pos) : Bool := Nat.ble M.floor b.num
theorem above_eq {M : Mem} {b : Pos} (h : above M b = true) : M.floor ≤ b.num := Nat.le_of_ble_eq_true h
noncomputable def ownOf (M : Mem) (b : Pos) : Option (List SV) := match M.t.get b with
  | some (.row _ _ c) => match above M b with
    | true => some c
    | false => none
  | _ => none
/-- The type of a row that may be written, and its frozen head. -/
noncomputable def ownK (M : Mem) (b : Pos) : Option (TypeId × RK) := match M.t.get b with
  | some (.row e k _) => match above M b with
    | true => some (e, k)
    | false => none
  | _ => none
noncomputable def frzOK (k : RK) (off : Nat) : Bool := match k with
  | .head k => Nat.ble k off
  | _ => true
theorem frzOK_eq {k : RK} {off : Nat} (h : frzOK k off = true) : ∀ j, k = .head j → j ≤ off := by
  intro j hj
  subst hj
  exact Nat.le_of_ble_eq_true h
noncomputable def shiftK (k : RK) (off : Nat) : RK := match k with
  | .mark => .mark
  | .head k => .head (Nat.sub k off)
  | .whole => .head 0
theorem shiftK_ne (k : RK) (off : Nat) : shiftK k off ≠ .whole := by
  cases k <;> simp [shiftK]

theorem ownOf_both {M : Mem} {b : Pos} {c : List SV} (h : ownOf M b = some c) : (∃ e k, M.t.get b = some (.row e k c)) ∧ M.floor ≤ b.num := by
  unfold ownOf at h
  split at h
  · rename_i hb
    split at h
    · rename_i ha
      simp only [Option.some.injEq] at h
      subst h
      exact ⟨⟨_, _, hb⟩, above_eq ha⟩
    · simp at h
  · simp at h
theorem ownK_both {M : Mem} {b : Pos} {e : TypeId} {k : RK} (h : ownK M b = some (e, k)) : (∃ c, M.t.get b = some (.row e k c)) ∧ M.floor ≤ b.num := by
  unfold ownK at h
  split at h
  · rename_i hb
    split at h
    · rename_i ha
      simp only [Option.some.injEq, Prod.mk.injEq] at h
      obtain ⟨rfl, rfl⟩ := h
      exact ⟨⟨_, hb⟩, above_eq ha⟩
    · simp at h
  · simp at h

theorem rowOf_eq {M : Mem} {b : Pos} {c : List SV} (h : rowOf M b = some c) : (∃ e k, M.t.get b = some (.row e k c)) ∨ M.t.get b = some (.fix c) := by
  unfold rowOf at h
  cases hb : M.t.get b with
  | none => rw [hb] at h; simp at h
  | some o => rw [hb] at h; cases o <;> simp_all

theorem rowOf_row {M : Mem} {b : Pos} {e : TypeId} {k : RK} {c : List SV} (h : M.t.get b = some (.row e k c)) : rowOf M b = some c := by
  unfold rowOf
  rw [h]
theorem rowOf_own {M : Mem} {b : Pos} {c : List SV} (h : ownOf M b = some c) : rowOf M b = some c := by
  obtain ⟨⟨e, k, hb⟩, _⟩ := ownOf_both h
  exact rowOf_row hb

section
variable {B : Nat} {m : Map} {M : Mem} {w : World}

/-- The cells of a row that is placed. -/
theorem row_at (hr : MRel B m M w) {b : Pos} {cells : List SV} {p : Pl} (hb : rowOf M b = some cells) (hp : m b = some p) :
    ∃ e fz pre vs post, w.heap[p.block]? = some (.cells (pre ++ (vs ++ post)).toArray e fz) ∧ pre.length = p.shift ∧ pre.length + (vs.length + post.length) = p.size ∧ concs m cells = some vs := by
  rcases rowOf_eq hb with ⟨e, k, h⟩ | h
  · obtain ⟨e, fz, pre, vs, post, h1, _, h2, h3, h4, _⟩ := hr.objs b _ p h hp
    exact ⟨e, fz, pre, vs, post, h1, h2, h3, h4⟩
  · obtain ⟨e, fz, pre, vs, post, h1, _, h2, h3, h4, _⟩ := hr.objs b _ p h hp
    exact ⟨e, fz, pre, vs, post, h1, h2, h3, h4⟩

theorem cell_at (hr : MRel B m M w) {b : Pos} {cells : List SV} {p : Pl} (hb : rowOf M b = some cells) (hp : m b = some p) {i : Nat} {s : SV} (hi : cells[i]? = some s) :
    ∃ v, conc m s = some v ∧ w.cell? ⟨p.block, i + p.shift, none⟩ = some v := by
  obtain ⟨e, fz, pre, vs, post, hh, hs, hl, hc⟩ := row_at hr hb hp
  obtain ⟨v, hv, hvi⟩ := concs_get hc hi
  refine ⟨v, hv, ?_⟩
  have hlt : i < vs.length := (List.getElem?_eq_some_iff.1 hvi).1
  simp only [World.cell?, hh]
  simp only [Option.isSome_none, Bool.false_eq_true, if_false, List.getElem?_toArray]
  rw [List.getElem?_append_right (by omega), show i + p.shift - pre.length = i by omega, List.getElem?_append_left hlt, hvi]

theorem addr_add (b o n : Nat) : (⟨b, o, none⟩ : Addr).add n = ⟨b, o + n, none⟩ := by unfold Addr.add; split <;> simp_all

/-- Many cells are read. -/
theorem run_cells (hr : MRel B m M w) {b : Pos} {cells : List SV} {p : Pl} (hb : rowOf M b = some cells) (hp : m b = some p) {off n : Nat} (hn : off + n ≤ cells.length) :
    ∃ vs, concs m ((cells.drop off).take n) = some vs ∧ vs.length = n ∧ (∀ j v, vs[j]? = some v → w.cell? ((⟨p.block, off + p.shift, none⟩ : Addr).add j) = some v) ∧
      (loadCells ⟨p.block, off + p.shift, none⟩ n).run P w = .ok vs.toArray w := by
  obtain ⟨e, fz, pre, ws, post, hh, hs, hl, hc⟩ := row_at hr hb hp
  have h1 := concs_take n (concs_drop off hc)
  have hlen := concs_length h1
  have hlen' : ((ws.drop off).take n).length = n := by rw [hlen]; simp; omega
  have hcell : ∀ j v, ((ws.drop off).take n)[j]? = some v → w.cell? ((⟨p.block, off + p.shift, none⟩ : Addr).add j) = some v := by
    intro j v hj
    have hjn : j < n := by have := (List.getElem?_eq_some_iff.1 hj).1; omega
    rw [List.getElem?_take_of_lt hjn, List.getElem?_drop] at hj
    rw [addr_add]
    simp only [World.cell?, hh, Option.isSome_none, Bool.false_eq_true, if_false, List.getElem?_toArray]
    have hlt : off + j < ws.length := (List.getElem?_eq_some_iff.1 hj).1
    rw [List.getElem?_append_right (by omega), show off + p.shift + j - pre.length = off + j by omega, List.getElem?_append_left hlt, hj]
  refine ⟨_, h1, hlen', hcell, ?_⟩
  have := run_loadCells_list (P := P) w ⟨p.block, off + p.shift, none⟩ _ hcell
  rwa [hlen'] at this

/-- A value of one cell. -/
def one : SV → Bool
  | .agg _ => false
  | .tuple _ => false
  | _ => true

theorem one_conc {s : SV} {v : Value} (h : one s = true) (hv : conc m s = some v) : v.oneCell' = true := by
  cases s <;> simp only [conc, Option.map_eq_some_iff, Option.bind_eq_some_iff, Option.some.injEq] at hv
  case bool => subst hv; rfl
  case int => subst hv; rfl
  case str => subst hv; rfl
  case nilp => subst hv; rfl
  case ptr => obtain ⟨_, _, rfl⟩ := hv; rfl
  case nils => subst hv; rfl
  case slice => obtain ⟨_, _, rfl⟩ := hv; rfl
  case ope =>
    obtain ⟨p, _, hv⟩ := hv
    split at hv
    · simp only [Option.some.injEq] at hv; subst hv; rfl
    · exact absurd hv (by simp)
  case nilm => subst hv; rfl
  case map => obtain ⟨_, _, rfl⟩ := hv; rfl
  case nilf => subst hv; rfl
  case fn => obtain ⟨_, _, _, _, rfl⟩ := hv; rfl
  case yield => obtain ⟨_, _, rfl⟩ := hv; rfl
  case nili => subst hv; rfl
  case iface => obtain ⟨_, _, rfl⟩ := hv; rfl
  case agg => exact absurd h (by simp [one])
  case tuple => exact absurd h (by simp [one])

noncomputable def ones (l : List SV) : Bool := List.rec true (fun a _ ih => Bool.rec false ih (one a)) l

theorem ones_mem : ∀ {l : List SV}, ones l = true → ∀ s ∈ l, one s = true
  | a :: l, h, s, hs => by
    have h' : Bool.rec false (ones l) (one a) = true := h
    cases ha : one a with
    | false => rw [ha] at h'; exact absurd h' (by simp)
    | true =>
      rw [ha] at h'
      rcases List.mem_cons.1 hs with rfl | hm
      · exact ha
      · exact ones_mem h' s hm

theorem ones_conc : ∀ {l : List SV} {vs : List Value}, ones l = true → concs m l = some vs → ∀ v ∈ vs, v.oneCell' = true
  | [], vs, _, h, v, hv => by simp [concs] at h; subst h; simp at hv
  | a :: l, vs, h, hc, v, hv => by
    obtain ⟨x, r, hx, hr, rfl⟩ := concs_cons_inv hc
    rcases List.mem_cons.1 hv with rfl | hm
    · exact one_conc (ones_mem h a (by simp)) hx
    · exact ones_conc (l := l) (by
        have h' : Bool.rec false (ones l) (one a) = true := h
        cases ha : one a with
        | false => rw [ha] at h'; exact absurd h' (by simp)
        | true => rw [ha] at h'; exact h') hr v hm

/-- Cells are written. -/
noncomputable def putCells (M : Mem) (b : Pos) (off : Nat) (new : List SV) : Option Mem :=
  match M.t.get b with
  | some (.row e k cells) => match above M b, frzOK k off, Nat.ble (Nat.add off (len new)) (len cells), ones new with
    | true, true, true, true => some ⟨M.t.put (some (.row e k (app (tk off cells) (app new (dp (Nat.add off (len new)) cells))))) b, M.next, M.floor⟩
    | _, _, _, _ => none
  | _ => none

theorem putCells_eq {M M' : Mem} {b : Pos} {off : Nat} {new : List SV} (h : putCells M b off new = some M') :
    ∃ e k cells, M.t.get b = some (.row e k cells) ∧ M.floor ≤ b.num ∧ (∀ j, k = .head j → j ≤ off) ∧ off + new.length ≤ cells.length ∧ ones new = true ∧ M' = ⟨M.t.put (some (.row e k (cells.take off ++ (new ++ cells.drop (off + new.length))))) b, M.next, M.floor⟩ := by
  unfold putCells at h
  split at h
  · rename_i e k cells hb
    split at h
    · rename_i h1 h2 h3 h4
      simp only [len_eq, app_eq, tk_eq, dp_eq, Nat.add_eq, Option.some.injEq] at h h3
      exact ⟨e, k, cells, hb, above_eq h1, frzOK_eq h2, Nat.le_of_ble_eq_true h3, h4, h.symm⟩
    · simp at h
  · simp at h

/-- Cells are stored one by one into a block in which none of them is frozen. -/
theorem run_stores (g o : Nat) (t : TypeId) (fz : Nat × Nat) : ∀ (vs : List Value) (i : Nat) (cur : Array Value) (w : World), w.heap[g]? = some (.cells cur t fz) → o + i + vs.length ≤ cur.size → (fz.2 ≤ fz.1 ∨ cur.size ≤ fz.1 ∨ fz.2 ≤ o + i) → (∀ v ∈ vs, v.oneCell' = true) →
    (storeCells ⟨g, o, none⟩ vs i).run P w = .ok () (w.setRow g (cur.toList.take (o + i) ++ vs ++ cur.toList.drop (o + i + vs.length)).toArray)
  | [], i, cur, w, hg, _, _, _ => by
    simp only [storeCells, List.append_nil, List.length_nil, Nat.add_zero, List.take_append_drop, Array.toArray_toList]
    rw [setRow_self w g cur t fz hg]
    rfl
  | v :: rest, i, cur, w, hg, hl, hz, h1 => by
    have hi : o + i < cur.size := by simp at hl; omega
    have hc : w.cell? ⟨g, o + i, none⟩ = some cur[o + i] := by simp [World.cell?, hg, hi]
    have hf : w.frozen? ⟨g, o + i, none⟩ = false := by
      simp only [World.frozen?, hg]
      rw [Bool.and_eq_false_iff]
      rcases hz with h | h | h
      · by_cases h2 : fz.1 ≤ o + i
        · exact .inr (decide_eq_false (by omega))
        · exact .inl (decide_eq_false h2)
      · exact .inl (decide_eq_false (by omega))
      · exact .inr (decide_eq_false (by omega))
    have hst : (store ((⟨g, o, none⟩ : Addr).add i) v).run P w = .ok () (w.setCell ⟨g, o + i, none⟩ v) := by
      rw [addr_add, run_store P w _ v _ (h1 v (by simp))]
      simp [hc, hf]
    have hset : w.setCell ⟨g, o + i, none⟩ v = w.setRow g (cur.setIfInBounds (o + i) v) := by
      have hlt : g < w.heap.size := (Array.getElem?_eq_some_iff.1 hg).1
      have hv : w.heap[g] = .cells cur t fz := (Array.getElem?_eq_some_iff.1 hg).2
      unfold World.setCell World.setRow
      congr 1
      apply Array.ext
      · simp
      · intro k h1 h2
        rw [Array.getElem_modify, Array.getElem_modify]
        by_cases hk : g = k
        · subst hk; simp [hv]
        · simp [hk]
    have ih := run_stores g o t fz rest (i + 1) (cur.setIfInBounds (o + i) v) (w.setRow g (cur.setIfInBounds (o + i) v)) (setRow_heap w g cur _ t fz hg) (by simp at hl ⊢; omega) (by rw [Array.size_setIfInBounds]; omega) (fun x hx => h1 x (by simp [hx]))
    simp only [storeCells, Sem.run_bind, hst, Result.andThen_ok, hset, ih]
    congr 1
    have h2 : ∀ a b, (w.setRow g a).setRow g b = w.setRow g b := by
      intro a b
      unfold World.setRow
      congr 1
      apply Array.ext
      · simp
      · intro k h1 h2
        rw [Array.getElem_modify, Array.getElem_modify, Array.getElem_modify]
        by_cases hk : g = k
        · subst hk
          have hg2 : g < w.heap.size := by simpa using h2
          generalize w.heap[g] = ob
          cases ob <;> simp
        · simp [hk]
    rw [h2]
    congr 2
    have hlt : o + i < cur.toList.length := by simpa using hi
    rw [Array.toList_setIfInBounds, List.set_eq_take_append_cons_drop, if_pos hlt]
    have hl2 : (cur.toList.take (o + i)).length = o + i := by rw [List.length_take]; omega
    have e1 : (cur.toList.take (o + i) ++ v :: cur.toList.drop (o + i + 1)).take (o + (i + 1)) = cur.toList.take (o + i) ++ [v] := by
      rw [List.take_append, List.take_of_length_le (by omega), hl2, show o + (i + 1) - (o + i) = 1 by omega]
      rfl
    have e2 : (cur.toList.take (o + i) ++ v :: cur.toList.drop (o + i + 1)).drop (o + (i + 1) + rest.length) = cur.toList.drop (o + i + (rest.length + 1)) := by
      rw [List.drop_append, List.drop_of_length_le (by omega), hl2, show o + (i + 1) + rest.length - (o + i) = rest.length + 1 by omega, List.nil_append, List.drop_succ_cons, List.drop_drop]
      congr 1
      omega
    rw [e1, e2]
    simp

theorem run_put (hr : MRel B m M w) {b : Pos} {off : Nat} {new : List SV} {p : Pl} {vs : List Value} {M' : Mem} (h : putCells M b off new = some M') (hp : m b = some p) (hv : concs m new = some vs) :
    ∃ w', (storeCells ⟨p.block, off + p.shift, none⟩ vs).run P w = .ok () w' ∧ Stepped B m M w m M' w' := by
  obtain ⟨te, kk, cells, hb, hfl, hk, hn, ho, rfl⟩ := putCells_eq h
  obtain ⟨e, fz, pre, ws, post, hh, hz, hs, hl, hc, hte⟩ := hr.objs b _ p hb hp
  have hlen := concs_length hv
  have hwl := concs_length hc
  have hst := run_stores (P := P) p.block (off + p.shift) e fz vs 0 _ w hh (by simp; omega) (by have := hz.store hk (sz := (pre ++ (ws ++ post)).toArray.size) (by simp; omega); exact this) (ones_conc ho hv)
  refine ⟨_, hst, ?_⟩
  have hlow := hr.low b _ p hb rfl hp
  refine Stepped.update hr b _ _ p hb rfl hp (fun k hk => setRow_other w _ k _ hk) ⟨rfl, rfl, rfl, by simp [World.setRow], fun k hk => setRow_other w _ k _ (by omega)⟩ rfl ?_ hfl
  rw [setRow_heap w p.block _ _ e fz hh]
  refine ⟨e, fz, pre, ws.take off ++ (vs ++ ws.drop (off + new.length)), post, ?_, hz.len (by simp only [List.length_append, List.length_take, List.length_drop]; omega), hs, ?_, ?_, hte⟩
  · congr 2
    have e1 : (pre ++ (ws ++ post)).take (off + p.shift + 0) = pre ++ ws.take off := by
      rw [List.take_append, List.take_of_length_le (by omega), List.take_append, List.take_eq_nil_iff.2 (.inl (by omega : off + p.shift + 0 - pre.length - ws.length = 0)), List.append_nil]
      congr 2; omega
    have e2 : (pre ++ (ws ++ post)).drop (off + p.shift + 0 + vs.length) = ws.drop (off + new.length) ++ post := by
      rw [List.drop_append, List.drop_of_length_le (by omega), List.nil_append, List.drop_append, show off + p.shift + 0 + vs.length - pre.length = off + new.length by omega, show off + new.length - ws.length = 0 by omega, List.drop_zero]
    simp only [e1, e2, List.append_assoc]
  · simp only [List.length_append, List.length_take, List.length_drop]; omega
  · exact concs_append (concs_take _ hc) (concs_append hv (concs_drop _ hc))

/-- A new row. -/
noncomputable def newRowS (e : TypeId) (k : RK) (M : Mem) (cells : List SV) : Mem := Mem.rec (fun t n f => ⟨t.put (some (.row e k cells)) n, n.succ, f⟩) M

theorem alloc_row (hr : MRel B m M w) (kk : RK) (cells : List SV) (vs post : List Value) (hkk : kk ≠ .whole ∨ post = []) (e : TypeId) (hv : concs m cells = some vs) {w' : World} (hw : w'.heap = w.heap.push (.cells (vs ++ post).toArray e (0, 0))) (hos : w'.os = w.os) (htape : w'.tape = w.tape) (hout : w'.output = w.output) :
    Stepped B m M w (fun b => if b = M.next then some ⟨w.heap.size, 0, vs.length + post.length⟩ else m b) (newRowS e kk M cells) w' := by
  have := Stepped.fresh hr M.t ⟨w.heap.size, 0, vs.length + post.length⟩ (.row e kk cells) (w' := w') (fun _ _ h => h) (fun _ _ _ => rfl) (fun _ _ => rfl)
    (fun b x q hx hq => by
      have hlt := hr.bound b q hq
      refine ⟨by simp; omega, ?_⟩
      rw [hw, Array.getElem?_push, if_neg (by omega)])
    ⟨hos, htape, hout, by rw [hw]; simp, fun k hk => by have := hr.base; rw [hw, Array.getElem?_push, if_neg (by omega)]⟩ (by rw [hw]; simp) hr.base rfl (fun m' hm' => by
      rw [hw]
      exact ⟨e, (0, 0), [], vs, post, by simp, (by
        rcases hkk with h | h
        · exact Frz.zero h _ _
        · subst h
          cases kk with
          | whole => exact ⟨rfl, rfl, by simp⟩
          | mark => exact Frz.zero (by simp) _ _
          | head k => exact Frz.zero (by simp) _ _), rfl, by simp, concs_ext hm' _ _ hv, fun t h => Option.some.inj h⟩)
    (fun k hk _ => by rw [hw, Array.getElem?_push, if_neg (by omega)]) (fun h => absurd h (by simp))
  cases M with
  | mk t n f => exact this

end
end Go.Ev
