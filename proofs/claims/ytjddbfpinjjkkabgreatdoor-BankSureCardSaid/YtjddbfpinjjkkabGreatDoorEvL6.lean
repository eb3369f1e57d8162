/- A part of the small machine. -/
import Derived.Test.YtjddbfpinjjkkabGreatDoorEvL4
import Derived.Deep.Slices
import Derived.ReadAgain
set_option linter.unusedVariables false
namespace Go.Ev
open Go.RowKit
variable {P : Program}
abbrev ARow := Option (Pl × List SV)
noncomputable def argS (r : ARow) (j len cap : Nat) : SV := match r with
  | none => .nils
  | some _ => .slice (Pos.ofNat j) 0 len cap
structure FlatArg {α : Type} (W : World) (z : Nat) (enc : α → List SV) (v : Value) (l : List α) (r : ARow) (cap : Nat) : Prop where
  row : ∀ x, r = some x → x.1.block < W.heap.size ∧ ∀ m, RowRel m x.1 none .lost x.2 W.heap[x.1.block]?
  val : ∀ (m : Map) (j : Nat), (∀ x, r = some x → m (Pos.ofNat j) = some x.1) → conc m (argS r j l.length cap) = some v
  slc : ∀ (f : Rd) (j : Nat), (∀ x, r = some x → f (Pos.ofNat j) = some x.2) → Slc f z (FlatR enc) (argS r j l.length cap) l
  len : l.length ≤ maxLen
theorem rowAt_off {fits : TypeId → Bool} {e : TypeId} {count off n : Nat} : ∀ {d : Nat}, rowAt P fits d e count off n = true → off ≤ count * P.cellsOf e
  | 0, h => by simp [rowAt] at h
  | d + 1, h => by
    unfold rowAt at h
    simp only at h
    split at h
    · simp at h
    · rename_i hs
      have hdm := Nat.div_add_mod off (P.cellsOf e)
      have hlt := Nat.mod_lt off (Nat.pos_of_ne_zero hs)
      rw [Bool.or_eq_true] at h
      rcases h with h | h
      · simp only [Bool.and_eq_true, beq_iff_eq, decide_eq_true_eq] at h
        have := Nat.mul_le_mul_right (P.cellsOf e) (show off / P.cellsOf e ≤ count by omega)
        rw [Nat.mul_comm] at this
        omega
      · simp only [Bool.and_eq_true, decide_eq_true_eq] at h
        have := Nat.mul_le_mul_right (P.cellsOf e) (show off / P.cellsOf e + 1 ≤ count by omega)
        rw [Nat.add_mul, Nat.one_mul, Nat.mul_comm] at this
        omega
theorem liesAt_off {e : TypeId} {count off : Nat} : ∀ {d : Nat} {u : TypeId} {n : Nat}, liesAt P d e count off u n = true → off ≤ count * P.cellsOf e
  | 0, _, _, h => by simp [liesAt] at h
  | d + 1, u, n, h => by
    unfold liesAt at h
    rw [Bool.or_eq_true] at h
    rcases h with h | h
    · exact rowAt_off h
    · split at h
      · exact liesAt_off h
      · simp at h
theorem concs_app {m : Map} : ∀ {a b : List SV} {x y : List Value}, concs m a = some x → concs m b = some y → concs m (a ++ b) = some (x ++ y)
  | [], b, x, y, h, h' => by
    rw [concs_nil] at h
    cases h
    exact h'
  | s :: a, b, x, y, h, h' => by
    obtain ⟨v, r, h1, h2, rfl⟩ := concs_cons_inv h
    exact concs_cons h1 (concs_app h2 h')
theorem concs_blocks {m : Map} {L : List Value} {z off : Nat} {g : Nat → List SV} : ∀ {n : Nat}, (∀ i, i < n → concs m (g i) = some ((L.drop (off + i * z)).take z)) → concs m ((List.range n).flatMap g) = some ((L.drop off).take (n * z))
  | 0, _ => by simp [concs_nil]
  | n + 1, h => by
    rw [List.range_succ, List.flatMap_append, Nat.succ_mul, List.take_add, List.drop_drop]
    refine concs_app (concs_blocks fun i hi => h i (by omega)) ?_
    simp only [List.flatMap_cons, List.flatMap_nil, List.append_nil]
    exact h n (by omega)
theorem arg_slice {α : Type} {H : Type} {henc : TypeId × Value → H} {W : World} {base : Nat} {held : Bool} {z : Nat} {enc : α → List SV} (hz : ∀ a, (enc a).length = z) {t e : TypeId} (hc : P.cellsOf e = z) (hin : Inhabited α)
    (ht : P.underlying t = some (.slice e)) {v : Value} (hok : Cell.okWide P W .any base t v) {fuel : Nat} {x : DataW H × List MemPlace} (h : DataW.trod henc P W 0 (fun _ => true) held fuel t [v] = some x)
    (hread : ∀ n cs x, DataW.trod henc P W 0 (fun _ => true) held n e cs = some x → ∃ a : α, ∀ m, concs m (enc a) = some cs) :
    ∃ l r cap, FlatArg W z enc v (l : List α) r cap := by
  rcases Deep.open_slice ht h with ⟨hcs, _⟩ | ⟨a, len, cap, mm, n, D, Pl', hcs, _, hl, hm, hmm, _, hel⟩
  · simp only [List.cons.injEq, and_true] at hcs
    subst hcs
    exact ⟨[], none, 0, ⟨fun x hx => by simp at hx, fun m j _ => rfl, fun f j _ => .inl ⟨.inl rfl, rfl⟩, Nat.zero_le _⟩⟩
  · simp only [List.cons.injEq, and_true] at hcs
    subst hcs
    simp only [Cell.okWide, ht, Cell.ok] at hok
    obtain ⟨_, _, _, hsp, row, cells, hsh, hlies⟩ := hok
    rw [if_pos rfl] at hmm
    subst hmm
    obtain ⟨ab, ao, asp⟩ := a
    simp only at hsp hsh hlies
    subst hsp
    unfold World.shape? at hsh
    split at hsh
    · rename_i c e' fz hobj
      simp only [Option.some.injEq, Prod.mk.injEq] at hsh
      obtain ⟨rfl, rfl⟩ := hsh
      have hoff : ao ≤ c.size := Nat.le_trans (liesAt_off hlies) (Nat.div_mul_le_self _ _)
      have hlt : ab < W.heap.size := by
        apply Classical.byContradiction
        intro hn
        rw [Array.getElem?_eq_none (by omega)] at hobj
        simp at hobj
      obtain ⟨A, hA⟩ := Deep.choose_lt (α := α) (p := fun i a => ∀ m, concs m (enc a) = some ((c.toList.drop (ao + i * z)).take z)) (n := len) (fun i hi => by
        obtain ⟨cs', hcells, htr⟩ := hel i (by omega)
        obtain ⟨a, ha⟩ := hread _ _ _ htr
        refine ⟨a, fun m => ?_⟩
        rw [ha m]
        congr 1
        rw [hc] at hcells
        obtain ⟨_, hlen, hat⟩ := World.cells?_some hcells
        apply List.ext_getElem?
        intro j
        by_cases hj : j < z
        · have := hat j hj
          rw [← this, Deep.add_add]
          have hadd : (Addr.mk ab ao none).add (i * z + j) = ⟨ab, ao + (i * z + j), none⟩ := by
            unfold Addr.add
            split
            · rename_i h0; rw [h0]; rfl
            · rfl
          rw [hadd]
          simp only [World.cell?, hobj, Option.isSome_none]
          rw [List.getElem?_take_of_lt hj, List.getElem?_drop, Array.getElem?_toList, Nat.add_assoc]
          rfl
        · rw [List.getElem?_eq_none (by omega), List.getElem?_eq_none (by rw [List.length_take]; omega)])
      refine ⟨(List.range len).map A, some (⟨ab, ao, c.size⟩, ((List.range len).map A).flatMap enc), mm, ⟨?_, ?_, ?_, ?_⟩⟩
      · rintro x hx
        simp only [Option.some.injEq] at hx
        subst hx
        refine ⟨hlt, fun m => ⟨e', fz, c.toList.take ao, (c.toList.drop ao).take (len * z), (c.toList.drop ao).drop (len * z), ?_, trivial, ?_, ?_, ?_, fun t h => by simp at h⟩⟩
        · rw [List.take_append_drop, List.take_append_drop]
          exact hobj
        · simp; omega
        · simp only [List.length_take, List.length_drop, Array.length_toList]; omega
        · rw [List.flatMap_map]
          exact concs_blocks fun i hi => hA i hi m
      · intro m j hj
        have := hj _ rfl
        show (m (Pos.ofNat j)).map _ = _
        rw [this]
        simp
      · intro f j hj
        have := hj _ rfl
        refine .inr ⟨Pos.ofNat j, 0, _, .inl ⟨mm, by simpa using hl, rfl⟩, this, ?_, ?_⟩
        · rw [flatm_len hz]; omega
        · intro i a ha
          rw [Nat.zero_add]
          exact flat_at hz _ _ _ ha
      · simp; omega
    · simp at hsh
section
variable {H : Type} {enc : TypeId × Value → H} {w w' : World} {base : Nat} {spare : Nat → Bool} {held : Bool}
theorem trodAll_carry : ∀ {ts : List TypeId} {vs : List Value} {ds : List (DataW H)} {ps : List MemPlace}, DataW.TrodAll enc P w base spare held ts vs ds ps → (∀ p ∈ ps, w.sameAt w' p) → DataW.TrodAll enc P w' base spare held ts vs ds ps
  | [], [], [], _, h, _ => h
  | _ :: _, _ :: _, _ :: _, _, ⟨p, q, ⟨n, h1⟩, h2, e⟩, hs => ⟨p, q, ⟨n, DataW.trod_carry n _ _ _ h1 (fun x hx => hs x (by rw [e]; exact List.mem_append_left _ hx))⟩, trodAll_carry h2 (fun x hx => hs x (by rw [e]; exact List.mem_append_right _ hx)), e⟩
theorem trodAll_below {T : TypeId → Prop} (K : Kids P T) (hz : ∀ t e, T t → P.underlying t = some (.slice e) → 0 < P.cellsOf e) (hb : Below w.heap.size w w') {ts : List TypeId} {vs : List Value} {ds : List (DataW H)} {ps : List MemPlace}
    (hT : ∀ t ∈ ts, T t) (h : DataW.TrodAll enc P w 0 (fun _ => true) true ts vs ds ps) : DataW.TrodAll enc P w' 0 (fun b => decide (b < w.heap.size)) true ts vs ds ps :=
  DataW.TrodAll.respare K hz hT (trodAll_carry h fun p hp => hb.same (h.lt p hp)) (fun p hp => by simpa using h.lt p hp)
end
end Go.Ev
namespace Go.Ev
open Go.RowKit
variable {P : Program}
section
variable {α : Type} {F : Rd} {H : List Ent} {M : Mem} {e : Env} {t u : TypeId} {p q : Operand} {f : Rd} {s sv : SV} {l l' : List α} {z i : Nat} {enc : α → List SV} {R : List SV → α → Prop} {tt : TypeId} {kk k0 k1 : IntKind} {a lo hi : Int} {el : α}
theorem natIn_lt {i n : Nat} (h : i < n) : natIn (i : Int) n = some i := by
  show Bool.rec none (some i) (Nat.ble (Nat.succ i) n) = some i
  rw [show Nat.ble (Nat.succ i) n = true from Nat.ble_eq_true_of_le h]
theorem sl_elem (hs : Slc f z R s l) (hi : idx l a = some el) (hz : elems P t = some (.sl z)) :
    ∃ b off cs, (∀ M, xIndexAddr P t s (.int kk a) M = .val (.ptr b off) M) ∧ PtrTo f (.ptr b off) cs ∧ R cs el := by
  obtain ⟨i, rfl, hlt, hel⟩ := idx_some hi
  rcases hs with ⟨_, rfl⟩ | ⟨b, off, c, hs, h2, h3, h4⟩
  · simp at hlt
  · have hle : (i + 1) * z ≤ l.length * z := Nat.mul_le_mul_right z hlt
    have hle2 : (i + 1) * z = i * z + z := Nat.succ_mul i z
    have hlen : ((c.drop (off + i * z)).take z).length = z := by simp; omega
    refine ⟨b, off + i * z, (c.drop (off + i * z)).take z, fun M => ?_, ⟨b, off + i * z, c, rfl, h2, by rw [hlen]; omega, by rw [hlen]⟩, h4 i el hel⟩
    rcases hs with ⟨cap, _, rfl⟩ | rfl
    · unfold xIndexAddr
      simp only [hz, natIn_lt hlt]
      rfl
    · unfold xIndexAddr
      simp only [hz, natIn_lt hlt]
      rfl
theorem vec_place {j : Nat} (hH : Has F M H) (hi : H[i]? = some (.vec tt z l.length sv (l.flatMap enc))) (ha : inn l a = some j) (hz : elems P t = some (.sl z)) :
    ∃ b, blk sv = [b] ∧ ∀ M', xIndexAddr P t sv (.int kk a) M' = .val (.ptr b (0 + j * z)) M' := by
  obtain ⟨rfl, hlt⟩ := inn_some ha
  rcases hH.get hi with ⟨rfl, h0, _⟩ | ⟨b, hsv, hc, ho⟩
  · omega
  · refine ⟨b, by rcases hsv with rfl | rfl <;> rfl, fun M' => ?_⟩
    rcases hsv with rfl | rfl
    · unfold xIndexAddr
      simp only [hz, natIn_lt hlt]
      rfl
    · unfold xIndexAddr
      simp only [hz, natIn_lt hlt]
      rfl
theorem vec_elem (hH : Has F M H) (hi : H[i]? = some (.vec tt z l.length sv (l.flatMap enc))) (ha : idx l a = some el) (hz : elems P t = some (.sl z)) :
    ∃ b j, blk sv = [b] ∧ (∀ M', xIndexAddr P t sv (.int kk a) M' = .val (.ptr b (0 + j * z)) M') ∧ l[j]? = some el := by
  obtain ⟨j, rfl, hlt, hel⟩ := idx_some ha
  have hin : inn l (j : Int) = some j := by
    show (bif Nat.blt j l.length then some j else none) = some j
    rw [show Nat.blt j l.length = true from Nat.ble_eq_true_of_le hlt]
    rfl
  obtain ⟨b, h1, h2⟩ := vec_place (kk := kk) hH hi hin hz
  exact ⟨b, j, h1, h2, hel⟩
theorem ex_elX {i v : SV} {M' : Mem} (h : ar e p = some s) (h' : ar e q = some i) (hx : ∀ M, xIndexAddr P t s i M = .val v M) : execO P M' (treeOf e) (.indexAddr t p q) = .val v M' := by
  show eIndexA P M' (treeOf e) t p q = _
  unfold eIndexA
  rw [ar_arg h, ar_arg h']
  exact hx M'
theorem xSlice_subA {α : Type} {f : Rd} {z : Nat} {R : List SV → α → Prop} {s : SV} {l : List α} (hs : Slc f z R s l) {lo hi : Option SV} {p q : Nat} (hpq : p ≤ q) (hq : q ≤ l.length)
    (hlo : lo = none ∧ p = 0 ∨ ∃ k', lo = some (.int k' (p : Int))) (hhi : hi = none ∧ q = l.length ∨ ∃ k', hi = some (.int k' (q : Int))) (hk : slK P t = some (.sl z)) :
    ∃ s', (∀ M, xSlice P t s lo hi none M = .val s' M) ∧ Slc f z R s' ((l.take q).drop p) := by
  have hbl : ∀ top, q ≤ top → boundS lo 0 q = some p := by
    intro top _
    rcases hlo with ⟨rfl, rfl⟩ | ⟨k', rfl⟩
    · rfl
    · have e1 : intNat (p : Int) = some p := rfl
      simp only [boundS, e1, Nat.ble_eq_true_of_le hpq]
  have hbh : ∀ top, l.length ≤ top → boundS hi l.length top = some q := by
    intro top ht
    rcases hhi with ⟨rfl, rfl⟩ | ⟨k', rfl⟩
    · rfl
    · have e1 : intNat (q : Int) = some q := rfl
      simp only [boundS, e1, Nat.ble_eq_true_of_le (Nat.le_trans hq ht)]
  have hb : ∀ top, l.length ≤ top → bnds lo hi none l.length top = some (p, q, top) := by
    intro top ht
    have e0 : boundS none top top = some top := rfl
    simp only [bnds, e0, hbh top ht, hbl top (by omega), Nat.ble_eq_true_of_le hpq]
  have hlen : ((l.take q).drop p).length = q - p := by simp; omega
  have hget : ∀ (i : Nat) (el : α), ((l.take q).drop p)[i]? = some el → l[p + i]? = some el := by
    intro i el h
    rw [List.getElem?_drop, List.getElem?_take] at h
    split at h
    · exact h
    · simp at h
  rcases hs with ⟨hn, rfl⟩ | ⟨bb, off, c, hs, h2, h3, h4⟩
  · have hp0 : p = 0 := by simp at hq; omega
    have hq0 : q = 0 := by simp at hq; omega
    subst hp0 hq0
    have := hb 0 (Nat.le_refl _)
    have h' : bnds lo hi none 0 0 = some (0, 0, 0) := this
    rcases hn with rfl | ⟨b, o, p, rfl⟩ | ⟨a0, rfl⟩
    · refine ⟨.nils, fun M => ?_, .inl ⟨.inl rfl, rfl⟩⟩
      unfold xSlice
      simp only [hk, h']
    · refine ⟨.opz b o p z, fun M => ?_, .inl ⟨.inr (.inl ⟨b, o, p, rfl⟩), rfl⟩⟩
      unfold xSlice
      simp only [hk, Nat.beq_refl, h']
    · refine ⟨.rawz a0, fun M => ?_, .inl ⟨.inr (.inr ⟨a0, rfl⟩), rfl⟩⟩
      unfold xSlice
      simp only [hk, h']
  · have hz1 : q * z ≤ l.length * z := Nat.mul_le_mul_right z hq
    have hz2 : p * z + (q - p) * z = q * z := by rw [← Nat.add_mul, Nat.add_sub_cancel' hpq]
    rcases hs with ⟨cap, hcap, rfl⟩ | rfl
    · have g1 : ((l.take q).drop p).length ≤ cap - p := by rw [hlen]; exact Nat.sub_le_sub_right (Nat.le_trans hq hcap) p
      by_cases hcp : cap = p
      · have hqp : q - p = 0 := by omega
        refine ⟨.slice bb off (q - p) (cap - p), fun M => ?_, .inr ⟨bb, off, c, .inl ⟨cap - p, g1, by rw [hlen]⟩, h2, by rw [hlen, hqp]; omega, fun i el h => ?_⟩⟩
        · unfold xSlice
          have hne : Nat.beq cap p = true := by rw [hcp]; exact Nat.beq_refl p
          simp only [hk, Nat.ble_eq_true_of_le hcap, hb cap hcap, cutAt, hne]
          rfl
        · have := (List.getElem?_eq_some_iff.1 h).1
          omega
      · have g2 : off + p * z + ((l.take q).drop p).length * z ≤ c.length := by rw [hlen, Nat.add_assoc, hz2]; exact Nat.le_trans (Nat.add_le_add_left hz1 off) h3
        refine ⟨.slice bb (off + p * z) (q - p) (cap - p), fun M => ?_, .inr ⟨bb, off + p * z, c, .inl ⟨cap - p, g1, by rw [hlen]⟩, h2, g2, fun i el h => ?_⟩⟩
        · unfold xSlice
          have hne : Nat.beq cap p = false := by
            cases hh : Nat.beq cap p with
            | false => rfl
            | true => exact absurd (Nat.eq_of_beq_eq_true hh) hcp
          simp only [hk, Nat.ble_eq_true_of_le hcap, hb cap hcap, cutAt, hne]
          rfl
        · have := h4 (p + i) el (hget i el h)
          rwa [Nat.add_mul, ← Nat.add_assoc] at this
    · by_cases hpn : l.length ≤ p
      · refine ⟨.opz bb off (off + p * z) z, fun M => ?_, .inl ⟨.inr (.inl ⟨bb, off, off + p * z, rfl⟩), List.eq_nil_of_length_eq_zero (by rw [hlen]; omega)⟩⟩
        unfold xSlice
        simp only [hk, Nat.beq_refl, hb l.length (Nat.le_refl _), Nat.ble_eq_true_of_le hpn]
        rfl
      · have g2 : off + p * z + ((l.take q).drop p).length * z ≤ c.length := by rw [hlen, Nat.add_assoc, hz2]; exact Nat.le_trans (Nat.add_le_add_left hz1 off) h3
        refine ⟨.ope bb (off + p * z) (q - p) z, fun M => ?_, .inr ⟨bb, off + p * z, c, .inr (by rw [hlen]), h2, g2, fun i el h => ?_⟩⟩
        · unfold xSlice
          have hnb : Nat.ble l.length p = false := by
            cases hh : Nat.ble l.length p with
            | false => rfl
            | true => exact absurd (Nat.le_of_ble_eq_true hh) hpn
          simp only [hk, Nat.beq_refl, hb l.length (Nat.le_refl _), hnb]
          rfl
        · have := h4 (p + i) el (hget i el h)
          rwa [Nat.add_mul, ← Nat.add_assoc] at this
theorem sl_subH (hs : Slc f z R s l) (hl : sub l 0 hi = some l') (hk : slK P t = some (.sl z)) : ∃ s', (∀ M, xSlice P t s none (some (.int k0 hi)) none M = .val s' M) ∧ Slc f z R s' l' := by
  obtain ⟨p, q, hp, rfl, hpq, hq, rfl⟩ := sub_some hl
  exact xSlice_subA hs hpq hq (.inl ⟨rfl, by omega⟩) (.inr ⟨k0, rfl⟩) hk
theorem sl_subL (hs : Slc f z R s l) (hl : sub l lo l.length = some l') (hk : slK P t = some (.sl z)) : ∃ s', (∀ M, xSlice P t s (some (.int k0 lo)) none none M = .val s' M) ∧ Slc f z R s' l' := by
  obtain ⟨p, q, rfl, hq', hpq, hq, rfl⟩ := sub_some hl
  exact xSlice_subA hs hpq hq (.inr ⟨k0, rfl⟩) (.inl ⟨rfl, by omega⟩) hk
theorem ex_slX {v : SV} {lo' hi' : Option SV} {x y : Option Operand} {M' : Mem} (h : ar e p = some s) (hx : ∀ M, argO M (treeOf e) x = some lo') (hy : ∀ M, argO M (treeOf e) y = some hi') (hv : ∀ M, xSlice P t s lo' hi' none M = .val v M) : execO P M' (treeOf e) (.slice t p x y none) = .val v M' := by
  show eSlice P M' (treeOf e) t p x y none = _
  unfold eSlice
  rw [ar_arg h, hx M', hy M']
  exact hv M'
theorem argO_none (M : Mem) : argO M (treeOf e) none = some none := rfl
theorem ex_makeFunc {g : Fn} {xs ys : Array Operand} {l1 l2 : List SV} (h1 : ars e xs.toList = some l1) (h2 : ars e ys.toList = some l2) : execO P M (treeOf e) (.makeFunc g xs ys) = .val (.fn g l1 l2) M := by
  show (Option.rec Out.bad (fun a => Option.rec Out.bad (fun b => Out.val (.fn g a b) M) (args M (treeOf e) ys.toList)) (args M (treeOf e) xs.toList) : Out) = _
  rw [ars_args h1 M, ars_args h2 M]
end
end Go.Ev
