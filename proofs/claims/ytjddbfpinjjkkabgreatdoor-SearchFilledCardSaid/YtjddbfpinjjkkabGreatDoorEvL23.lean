/- A part of the small machine. -/
import Derived.Test.YtjddbfpinjjkkabGreatDoorEvL21
import Derived.Shelf.GgSortFunc.InsertionK
import Derived.Sort.AssemblyPlain
set_option linter.unusedVariables false
namespace Go.Ev
open Go.RowKit Go.Sort
variable {P : Program}
section
variable {α : Type} [Inhabited α]
end
section
variable {B : Nat} {m : Map} {M : Mem} {w : World}
theorem Stepped.grown (hr : MRel B m M w) (n : Nat) (os : Array Obj) : Stepped B m M w m M (Go.Sort.grow (Go.Sort.ahead w n) os) := by
  have hh : ∀ k, k < w.heap.size → (Go.Sort.grow (Go.Sort.ahead w n) os).heap[k]? = w.heap[k]? := fun k hk => by
    show (w.heap ++ os)[k]? = _
    rw [Array.getElem?_append_left hk]
  have hsz : w.heap.size ≤ (Go.Sort.grow (Go.Sort.ahead w n) os).heap.size := by
    show _ ≤ (w.heap ++ os).size
    simp
  refine ⟨⟨fun b o p hb hp => by rw [hh _ (hr.bound b p hp)]; exact hr.objs b o p hb hp, hr.inj, hr.fresh, fun b p hp => Nat.lt_of_lt_of_le (hr.bound b p hp) hsz, hr.low, Nat.le_trans hr.base hsz, hr.glob, hr.flo⟩,
    fun _ _ => rfl, fun _ _ _ => rfl, Nat.le_refl _, ⟨rfl, rfl, rfl, hsz, fun k hk => hh k (Nat.lt_of_lt_of_le hk hr.base)⟩, fun k hk _ => hh k hk, fun _ _ h => h, fun _ _ => rfl, rfl, fun _ _ h => h, fun b p hb hp _ => absurd hp (by rw [(hr.fresh b hb).1]; simp)⟩
theorem fm_get {α β : Type} {enc : α → List β} {k : Nat} (hk : ∀ x, (enc x).length = k) : ∀ (l : List α) (i r : Nat), r < k → (l.flatMap enc)[i * k + r]? = (l[i]?).bind fun a => (enc a)[r]?
  | [], i, r, _ => by simp
  | a :: l, 0, r, hr => by
    rw [List.flatMap_cons, Nat.zero_mul, Nat.zero_add, List.getElem?_append_left (by rw [hk]; exact hr)]
    simp
  | a :: l, i + 1, r, hr => by
    rw [List.flatMap_cons, List.getElem?_append_right (by rw [hk, Nat.succ_mul]; omega), hk, show (i + 1) * k + r - k = i * k + r by rw [Nat.succ_mul]; omega, fm_get hk l i r hr]
    simp
theorem flatK_list {α : Type} [Inhabited α] {enc : α → List Value} {k : Nat} (hk : ∀ x, (enc x).length = k) (l : List α) : (flatK enc k l.toArray).toList = l.flatMap enc := by
  apply List.ext_getElem?
  intro j
  by_cases hj : j < l.length * k
  · have k0 : 0 < k := by
      rcases Nat.eq_zero_or_pos k with h | h
      · subst h; simp at hj
      · exact h
    have h1 := get_flatK enc k l.toArray j (by simpa using hj)
    have hs : j < (flatK enc k l.toArray).size := by simpa using hj
    have hdm : j / k * k + j % k = j := by rw [Nat.mul_comm]; exact Nat.div_add_mod j k
    have hlt : j % k < k := Nat.mod_lt _ k0
    have hq : j / k < l.length := by rw [Nat.div_lt_iff_lt_mul k0]; exact hj
    have h2 := fm_get hk l (j / k) (j % k) hlt
    rw [hdm] at h2
    rw [h2, Array.getElem?_toList, Array.getElem?_eq_getElem hs]
    rw [getElem!_pos _ j hs] at h1
    rw [h1]
    have e1 : l[j / k]? = some (l[j / k]'hq) := List.getElem?_eq_getElem hq
    rw [e1, Option.bind_some]
    have e2 : (l.toArray)[j / k]! = l[j / k]'hq := by simp [e1]
    rw [e2]
    have hlen : j % k < (enc (l[j / k]'hq)).length := by rw [hk]; exact hlt
    rw [List.getElem?_eq_getElem hlen, getElem!_pos (enc (l[j / k]'hq)) (j % k) hlen]
  · have hlen : (l.flatMap enc).length = l.length * k := by
      clear hj
      induction l with
      | nil => simp
      | cons a l ih => rw [List.flatMap_cons, List.length_append, hk, ih, List.length_cons, Nat.succ_mul]; omega
    rw [List.getElem?_eq_none (by simp; omega), List.getElem?_eq_none (by omega)]
structure SortTo {α : Type} [Inhabited α] (P : Program) (f g : FuncId) (z : Nat) (enc : α → List SV) (encV : α → List Value) (srt : List α → List α) : Prop where
  len : ∀ l, (srt l).length = l.length
  nil : srt [] = []
  size : ∀ a, (enc a).length = z
  sizeV : ∀ a, (encV a).length = z
  gives : ∀ m a, concs m (enc a) = some (encV a)
  atNil : ∀ (p : Option Addr) (cap : Nat) (w : World), Calls P f #[.slice p 0 cap, .func (.func g) #[] #[]] w fun e w' => e = .returned (.tuple #[]) ∧ w' = w
  atRow : ∀ (blk off cap : Nat) (l : List α) (w : World), l.length < 4611686018427387904 → HoldsK encV z w blk off l.toArray → blk < w.heap.size →
    Calls P f #[.slice (some ⟨blk, off, none⟩) l.length cap, .func (.func g) #[] #[]] w fun e w' => e = .returned (.tuple #[]) ∧ ∃ n os, w' = Go.Proofs.sortWorldK encV z w blk off n (srt l).toArray os
theorem row_sorted {α : Type} [Inhabited α] {encV : α → List Value} {z : Nat} (hk : ∀ x, (encV x).length = z) (hr : MRel B m M w) {b : Pos} {tt : TypeId} {cs cs' : List SV} {p : Pl} (ho : Own M b (.row tt (.head 0) cs)) (hp : m b = some p) {l l' : List α}
    (hc : concs m cs = some (l.flatMap encV)) (hc' : concs m cs' = some (l'.flatMap encV)) (hl : l'.length = l.length) :
    HoldsK encV z w p.block (0 + p.shift) l.toArray ∧ p.block < w.heap.size ∧ ∀ (n : Nat) (os : Array Obj), Stepped B m M w m ⟨M.t.put (some (.row tt (.head 0) cs')) b, M.next, M.floor⟩ (Go.Proofs.sortWorldK encV z w p.block (0 + p.shift) n l'.toArray os) := by
  rw [Nat.zero_add]
  obtain ⟨e, fz, pre, vs, post, hh, hf, hl1, hl2, hcs, hte⟩ := hr.objs b _ p ho.get hp
  rw [hc] at hcs
  cases Option.some.inj hcs
  have hlen : ∀ l : List α, (l.flatMap encV).length = l.length * z := fun l => by
    induction l with
    | nil => simp
    | cons a l ih => rw [List.flatMap_cons, List.length_append, hk, ih, List.length_cons, Nat.succ_mul]; omega
  have hfz : fz.2 ≤ p.shift := by
    have : fz.2 ≤ p.shift + 0 := hf
    omega
  have hF : ∀ l : List α, (flatK encV z l.toArray).toList = l.flatMap encV := fun l => flatK_list hk l
  have hFs : ∀ l : List α, (flatK encV z l.toArray).size = l.length * z := fun l => by simp
  refine ⟨fun j hj => ⟨?_, ?_⟩, hr.bound b p hp, fun n os => ?_⟩
  · rw [hFs] at hj
    unfold World.cell?
    rw [hh]
    show (pre ++ (l.flatMap encV ++ post)).toArray[p.shift + j]? = _
    have hj' : j < (l.flatMap encV).length := by rw [hlen]; exact hj
    rw [List.getElem?_toArray, List.getElem?_append_right (by omega), List.getElem?_append_left (by omega), show p.shift + j - pre.length = j by omega]
    have hjs : j < (flatK encV z l.toArray).size := by rw [hFs]; exact hj
    show _ = some (flatK encV z l.toArray)[j]!
    rw [getElem!_pos _ j hjs, ← Array.getElem_toList hjs]
    rw [List.getElem?_eq_getElem hj']
    congr 1
    simp only [hF]
  · unfold World.frozen?
    rw [hh]
    obtain ⟨lo, hi⟩ := fz
    show (decide (lo ≤ p.shift + j) && decide (p.shift + j < hi)) = false
    have hfz' : hi ≤ p.shift := hfz
    rw [Bool.and_eq_false_iff]
    exact .inr (decide_eq_false (by omega))
  · have hst : Stepped B m M w m ⟨M.t.put (some (.row tt (.head 0) cs')) b, M.next, M.floor⟩ (putRowK encV z w p.block p.shift l'.toArray) := by
      have hcell : Go.Sort.putCells id p.shift (flatK encV z l'.toArray) (pre ++ (l.flatMap encV ++ post)).toArray = (pre ++ (l'.flatMap encV ++ post)).toArray := by
        have h1 := hlen l
        have h2 := hlen l'
        rw [hl] at h2
        have h3 := hFs l'
        rw [hl] at h3
        have h4 := hF l'
        apply Array.ext_getElem?
        intro q
        unfold Go.Sort.putCells
        rw [Array.getElem?_mapIdx, List.getElem?_toArray, List.getElem?_toArray]
        by_cases a : q < pre.length
        · rw [List.getElem?_append_left (l₁ := pre) a, List.getElem?_append_left (l₁ := pre) a]
          simp only [if_neg (show ¬ (p.shift ≤ q ∧ q < p.shift + (flatK encV z l'.toArray).size) by omega)]
          simp
        · rw [List.getElem?_append_right (l₁ := pre) (by omega), List.getElem?_append_right (l₁ := pre) (by omega)]
          by_cases c : q - pre.length < l.length * z
          · have hq : q - pre.length < (flatK encV z l'.toArray).size := by omega
            rw [List.getElem?_append_left (l₁ := l.flatMap encV) (by omega), List.getElem?_append_left (l₁ := l'.flatMap encV) (by omega)]
            simp only [if_pos (show p.shift ≤ q ∧ q < p.shift + (flatK encV z l'.toArray).size by omega), show q - p.shift = q - pre.length by omega]
            rw [List.getElem?_eq_getElem (by omega), getElem!_pos (flatK encV z l'.toArray) _ hq]
            simp only [← h4]
            simp
          · rw [List.getElem?_append_right (l₁ := l.flatMap encV) (by omega), List.getElem?_append_right (l₁ := l'.flatMap encV) (by omega), h1, h2]
            simp only [if_neg (show ¬ (p.shift ≤ q ∧ q < p.shift + (flatK encV z l'.toArray).size) by omega)]
            simp
      have hnew : (putRowK encV z w p.block p.shift l'.toArray).heap[p.block]? = some (.cells (pre ++ (l'.flatMap encV ++ post)).toArray e fz) := by
        show (w.heap.modify p.block (onCells (Go.Sort.putCells id p.shift (flatK encV z l'.toArray))))[p.block]? = _
        rw [Array.getElem?_modify, if_pos rfl, hh]
        show some (Obj.cells (Go.Sort.putCells id p.shift (flatK encV z l'.toArray) (pre ++ (l.flatMap encV ++ post)).toArray) e fz) = _
        rw [hcell]
      have hold : ∀ k, k ≠ p.block → (putRowK encV z w p.block p.shift l'.toArray).heap[k]? = w.heap[k]? := fun k hk => by
        show (w.heap.modify p.block (onCells (Go.Sort.putCells id p.shift (flatK encV z l'.toArray))))[k]? = _
        rw [Array.getElem?_modify, if_neg (fun e => hk e.symm)]
      have hsz : (putRowK encV z w p.block p.shift l'.toArray).heap.size = w.heap.size := by
        show (w.heap.modify p.block (onCells (Go.Sort.putCells id p.shift (flatK encV z l'.toArray)))).size = _
        simp
      refine Stepped.update hr b _ _ p ho.get rfl hp hold ⟨rfl, rfl, rfl, by rw [hsz]; exact Nat.le_refl _, fun k hk => hold k (fun e => by have := hr.low b _ p ho.get rfl hp; omega)⟩ rfl ?_ ho.low
      exact ⟨e, fz, pre, l'.flatMap encV, post, hnew, hf.len (by rw [hlen, hlen, hl]), hl1, by rw [hlen, hl, ← hlen]; exact hl2, hc', hte⟩
    have hg := Stepped.grown hst.rel n os
    have e : Go.Sort.grow (Go.Sort.ahead (putRowK encV z w p.block p.shift l'.toArray) n) os = Go.Proofs.sortWorldK encV z w p.block p.shift n l'.toArray os := rfl
    rw [e] at hg
    exact hst.trans hg
theorem SortTo.calls {α : Type} [Inhabited α] {f g : FuncId} {z i : Nat} {enc : α → List SV} {encV : α → List Value} {srt : List α → List α} (hS : SortTo P f g z enc encV srt) {F : Rd} {H : List Ent} {tt : TypeId} {sv : SV} {l : List α} (hH : Has F M H) (hi : H[i]? = some (.vec tt z l.length sv (l.flatMap enc))) (hl : l.length < 4611686018427387904) :
    CallsM P f [sv, .fn (.func g) [] []] M fun s M' => s = .tuple [] ∧ Has F M' (H.set i (.vec tt z (srt l).length sv ((srt l).flatMap enc))) := by
  intro hwf
  have hcc : ∀ (m : Map) (l : List α), concs m (l.flatMap enc) = some (l.flatMap encV) := fun m l => by
    induction l with
    | nil => exact concs_nil m
    | cons a l ih => exact concs_append (hS.gives m a) ih
  rcases hH.get hi with ⟨rfl, h0, hc0⟩ | ⟨b, hsv, hc, ho⟩
  · have hl0 : l = [] := List.length_eq_zero_iff.1 h0
    subst hl0
    refine ⟨.tuple [], M, ?_, .refl hwf, rfl, ?_⟩
    · intro _ B m w vs hr ha c cs
      obtain ⟨v1, r1, h1, h2, e1⟩ := concs_cons_inv ha
      obtain ⟨v2, r2, h3, h4, e2⟩ := concs_cons_inv h2
      have hv1 : v1 = .slice none 0 0 := by simp [conc] at h1; exact h1.symm
      have hv2 : v2 = .func (.func g) #[] #[] := by
        obtain ⟨xs, bs, g1, g2, g3⟩ := conc_fn h3
        simp [concs] at g1 g2
        subst g1; subst g2
        exact g3
      have hr2 : r2 = [] := by simpa [concs] using h4
      subst hv1; subst hv2; subst hr2; subst e2
      have hvs : vs = #[.slice none 0 0, .func (.func g) #[] #[]] := by
        have := congrArg List.toArray e1
        simpa using this
      subst hvs
      obtain ⟨e, w', fr, ⟨rfl, rfl⟩, hs, hfn, hlv⟩ := hS.atNil none 0 w (c :: cs)
      exact ⟨m, _, _, .refl hr, by simp [conc, concs], Steps.trans hs (.one (step_leave_returned hlv))⟩
    · rw [hS.nil]
      exact hH.upd hi (.refl M) (fun _ _ _ h => h) (.inl ⟨rfl, rfl, rfl⟩) (fun b hb => by simp [Ent.fp, blk] at hb)
  · refine ⟨.tuple [], ⟨M.t.put (some (.row tt (.head 0) ((srt l).flatMap enc))) b, M.next, M.floor⟩, ?_, hwf.put ho.low ho.lt, rfl, ?_⟩
    · intro _ B m w vs hr ha c cs
      obtain ⟨v1, r1, h1, h2, e1⟩ := concs_cons_inv ha
      obtain ⟨v2, r2, h3, h4, e2⟩ := concs_cons_inv h2
      have hv2 : v2 = .func (.func g) #[] #[] := by
        obtain ⟨xs, bs, g1, g2, g3⟩ := conc_fn h3
        simp [concs] at g1 g2
        subst g1; subst g2
        exact g3
      have hr2 : r2 = [] := by simpa [concs] using h4
      subst hv2; subst hr2; subst e2
      have hv1 : ∃ p cap, m b = some p ∧ v1 = .slice (some ⟨p.block, 0 + p.shift, none⟩) l.length cap := by
        rcases hsv with rfl | rfl
        · obtain ⟨p, g1, g2⟩ := conc_slice h1
          exact ⟨p, _, g1, g2⟩
        · obtain ⟨p, g1, _, _, g2⟩ := conc_ope h1
          exact ⟨p, _, g1, g2⟩
      obtain ⟨p, cap, hp, rfl⟩ := hv1
      have hvs : vs = #[.slice (some ⟨p.block, 0 + p.shift, none⟩) l.length cap, .func (.func g) #[] #[]] := by
        have := congrArg List.toArray e1
        simpa using this
      subst hvs
      obtain ⟨hh, hb, hst⟩ := row_sorted hS.sizeV hr ho hp (hcc m l) (hcc m (srt l)) (hS.len l)
      obtain ⟨e, w', fr, ⟨rfl, n, os, rfl⟩, hs, hfn, hlv⟩ := hS.atRow p.block (0 + p.shift) cap l w hl hh hb (c :: cs)
      exact ⟨m, _, _, hst n os, by simp [conc, concs], Steps.trans hs (.one (step_leave_returned hlv))⟩
    · refine hH.upd hi (put_ro ho rfl) ?_ (.inr ⟨b, by rw [hS.len]; exact hsv, by rw [flatm_len hS.size], ⟨Tree.get_put_same _ _ _, ho.low, ho.lt⟩⟩) fun c hc => .inl hc
      intro c o hcn hco
      exact put_keep c o (by rcases hsv with rfl | rfl <;> exact hcn) hco
end
end Go.Ev
namespace Go.Ev
open Go.RowKit Go.Sort
variable {P : Program}
def orI (a b : Int) : Int := if a = 0 then b else a
section
variable {α : Type} [Inhabited α]
def sortC (c : α → α → Int) (l : List α) : List α := (pdq (fun a b => decide (c a b < 0)) l.toArray 0 l.length (Lib.bitLen l.length) true true).toList
def sortCP (c : α → α → Int) (l : List α) : Option (List α) := if l.length < 4611686018427387904 then some (sortC c l) else none
theorem sortC_both (c : α → α → Int) (hc : SWO (fun a b : α => decide (c a b < 0))) (l : List α) : PermIn 0 l.length l.toArray (sortC c l).toArray ∧ SortedIn (fun a b : α => decide (c a b < 0)) 0 l.length (sortC c l).toArray := by
  have h := pdq_sorts (fun a b : α => decide (c a b < 0)) hc l.toArray 0 l.length (Lib.bitLen l.length) true true (Nat.zero_le _) (by simp) (Or.inl rfl)
  unfold sortC
  simpa using h
theorem sortC_len (c : α → α → Int) (hc : SWO (fun a b : α => decide (c a b < 0))) (l : List α) : (sortC c l).length = l.length := by
  have := (sortC_both c hc l).1.1
  simpa using this
theorem sortC_perm (c : α → α → Int) (hc : SWO (fun a b : α => decide (c a b < 0))) (l : List α) : (sortC c l).Perm l := by
  have h := (sortC_both c hc l).1.2.2
  have e1 : ((sortC c l).toArray.extract 0 l.length).toList = sortC c l := by
    rw [Array.toList_extract]
    simp [List.extract, List.take_of_length_le (Nat.le_of_eq (sortC_len c hc l))]
  have e2 : (l.toArray.extract 0 l.length).toList = l := by
    rw [Array.toList_extract]
    simp [List.extract]
  rw [e1, e2] at h
  exact h
theorem sortC_sorted (c : α → α → Int) (hc : SWO (fun a b : α => decide (c a b < 0))) (l : List α) (i j : Nat) (a b : α) (hij : i < j) (ha : (sortC c l)[i]? = some a) (hb : (sortC c l)[j]? = some b) : ¬ c b a < 0 := by
  have hj := (List.getElem?_eq_some_iff.1 hb).1
  have hl := sortC_len c hc l
  have h := (sortC_both c hc l).2 i j (Nat.zero_le _) hij (by omega)
  have e1 : (sortC c l).toArray[i]! = a := by simp [ha]
  have e2 : (sortC c l).toArray[j]! = b := by simp [hb]
  rw [e1, e2] at h
  simpa using h
theorem sortC_nil (c : α → α → Int) (hc : SWO (fun a b : α => decide (c a b < 0))) : sortC c ([] : List α) = [] := List.eq_nil_of_length_eq_zero (sortC_len c hc [])
end
theorem sortCP_some {α : Type} [Inhabited α] {c : α → α → Int} {l l' : List α} (h : sortCP c l = some l') : l.length < 4611686018427387904 ∧ sortC c l = l' := by
  unfold sortCP at h
  split at h
  · rename_i hl
    exact ⟨hl, Option.some.inj h⟩
  · simp at h
variable {M : Mem}
theorem SortTo.callsC {α : Type} [Inhabited α] {f g : FuncId} {z i : Nat} {enc : α → List SV} {encV : α → List Value} {c : α → α → Int} (hS : SortTo P f g z enc encV (sortC c)) {F : Rd} {H : List Ent} {tt : TypeId} {sv : SV} {l l' : List α} (hH : Has F M H) (hi : H[i]? = some (.vec tt z l.length sv (l.flatMap enc))) (h : sortCP c l = some l') :
    CallsM P f [sv, .fn (.func g) [] []] M fun s M' => s = .tuple [] ∧ Has F M' (H.set i (.vec tt z l'.length sv (l'.flatMap enc))) := by
  obtain ⟨hl, rfl⟩ := sortCP_some h
  exact hS.calls hH hi hl
theorem cmp2_lt (a b c d : Int) : orI (Lib.compareInt a b) (Lib.compareInt c d) < 0 ↔ a < b ∨ a = b ∧ c < d := by
  unfold orI Lib.compareInt
  by_cases h1 : a < b
  · simp [h1]
  · by_cases h2 : b < a
    · simp [h1, h2]; omega
    · have : a = b := by omega
      subst this
      by_cases h3 : c < d
      · simp [h3]
      · by_cases h4 : d < c <;> simp [h3, h4]
theorem swo_keys {α : Type} (p q : α → Int) : SWO (fun a b : α => decide (orI (Lib.compareInt (p a) (p b)) (Lib.compareInt (q a) (q b)) < 0)) where
  irrefl x := by simp only [cmp2_lt, decide_eq_false_iff_not]; omega
  trans x y z h1 h2 := by
    simp only [cmp2_lt, decide_eq_true_eq] at *
    omega
  ntrans x y z h1 h2 := by
    simp only [cmp2_lt, decide_eq_false_iff_not] at *
    omega
end Go.Ev
