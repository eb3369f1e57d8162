/- A part of the small machine. -/
import Derived.Test.YtjddbfpinjjkkabGreatDoorEvL4
import Derived.Deep.Slices
import Derived.ReadAgain
set_option linter.unusedVariables false
namespace Go.Ev
open Go.RowKit
variable {P : Program}
abbrev ARow := Option (Pl × List SV)
noncomputable def argS (r : ARow) (j len cap : Nat) : SV := match r with
  | none => .nils
  | some _ => .slice (Pos.ofNat j) 0 len cap
structure FlatArg {α : Type} (W : World) (z : Nat) (enc : α → List SV) (v : Value) (l : List α) (r : ARow) (cap : Nat) : Prop where
  row : ∀ x, r = some x → x.1.block < W.heap.size ∧ ∀ m, RowRel m x.1 none .lost x.2 W.heap[x.1.block]?
  val : ∀ (m : Map) (j : Nat), (∀ x, r = some x → m (Pos.ofNat j) = some x.1) → conc m (argS r j l.length cap) = some v
  slc : ∀ (f : Rd) (j : Nat), (∀ x, r = some x → f (Pos.ofNat j) = some x.2) → Slc f z (FlatR enc) (argS r j l.length cap) l
  len : l.length ≤ maxLen
section
variable {H : Type} {enc : TypeId × Value → H} {w w' : World} {base : Nat} {spare : Nat → Bool} {held : Bool}
theorem trodAll_carry : ∀ {ts : List TypeId} {vs : List Value} {ds : List (DataW H)} {ps : List MemPlace}, DataW.TrodAll enc P w base spare held ts vs ds ps → (∀ p ∈ ps, w.sameAt w' p) → DataW.TrodAll enc P w' base spare held ts vs ds ps
  | [], [], [], _, h, _ => h
  | _ :: _, _ :: _, _ :: _, _, ⟨p, q, ⟨n, h1⟩, h2, e⟩, hs => ⟨p, q, ⟨n, DataW.trod_carry n _ _ _ h1 (fun x hx => hs x (by rw [e]; exact List.mem_append_left _ hx))⟩, trodAll_carry h2 (fun x hx => hs x (by rw [e]; exact List.mem_append_right _ hx)), e⟩
theorem trodAll_below {T : TypeId → Prop} (K : Kids P T) (hz : ∀ t e, T t → P.underlying t = some (.slice e) → 0 < P.cellsOf e) (hb : Below w.heap.size w w') {ts : List TypeId} {vs : List Value} {ds : List (DataW H)} {ps : List MemPlace}
    (hT : ∀ t ∈ ts, T t) (h : DataW.TrodAll enc P w 0 (fun _ => true) true ts vs ds ps) : DataW.TrodAll enc P w' 0 (fun b => decide (b < w.heap.size)) true ts vs ds ps :=
  DataW.TrodAll.respare K hz hT (trodAll_carry h fun p hp => hb.same (h.lt p hp)) (fun p hp => by simpa using h.lt p hp)
end
end Go.Ev
namespace Go.Ev
open Go.RowKit
variable {P : Program}
section
variable {α : Type} {F : Rd} {H : List Ent} {M : Mem} {e : Env} {t u : TypeId} {p q : Operand} {f : Rd} {s sv : SV} {l l' : List α} {z i : Nat} {enc : α → List SV} {R : List SV → α → Prop} {tt : TypeId} {kk k0 k1 : IntKind} {a lo hi : Int} {el : α}
theorem natIn_lt {i n : Nat} (h : i < n) : natIn (i : Int) n = some i := by
  show Bool.rec none (some i) (Nat.ble (Nat.succ i) n) = some i
  rw [show Nat.ble (Nat.succ i) n = true from Nat.ble_eq_true_of_le h]
theorem sl_elem (hs : Slc f z R s l) (hi : idx l a = some el) (hz : elems P t = some (.sl z)) :
    ∃ b off cs, (∀ M, xIndexAddr P t s (.int kk a) M = .val (.ptr b off) M) ∧ PtrTo f (.ptr b off) cs ∧ R cs el := by
  obtain ⟨i, rfl, hlt, hel⟩ := idx_some hi
  rcases hs with ⟨_, rfl⟩ | ⟨b, off, c, hs, h2, h3, h4⟩
  · simp at hlt
  · have hle : (i + 1) * z ≤ l.length * z := Nat.mul_le_mul_right z hlt
    have hle2 : (i + 1) * z = i * z + z := Nat.succ_mul i z
    have hlen : ((c.drop (off + i * z)).take z).length = z := by simp; omega
    refine ⟨b, off + i * z, (c.drop (off + i * z)).take z, fun M => ?_, ⟨b, off + i * z, c, rfl, h2, by rw [hlen]; omega, by rw [hlen]⟩, h4 i el hel⟩
    rcases hs with ⟨cap, _, rfl⟩ | rfl
    · unfold xIndexAddr
      simp only [hz, natIn_lt hlt]
      rfl
    · unfold xIndexAddr
      simp only [hz, natIn_lt hlt]
      rfl
theorem vec_place {j : Nat} (hH : Has F M H) (hi : H[i]? = some (.vec tt z l.length sv (l.flatMap enc))) (ha : inn l a = some j) (hz : elems P t = some (.sl z)) :
    ∃ b, blk sv = [b] ∧ ∀ M', xIndexAddr P t sv (.int kk a) M' = .val (.ptr b (0 + j * z)) M' := by
  obtain ⟨rfl, hlt⟩ := inn_some ha
  rcases hH.get hi with ⟨rfl, h0, _⟩ | ⟨b, hsv, hc, ho⟩
  · omega
  · refine ⟨b, by rcases hsv with rfl | rfl <;> rfl, fun M' => ?_⟩
    rcases hsv with rfl | rfl
    · unfold xIndexAddr
      simp only [hz, natIn_lt hlt]
      rfl
    · unfold xIndexAddr
      simp only [hz, natIn_lt hlt]
      rfl
theorem vec_elem (hH : Has F M H) (hi : H[i]? = some (.vec tt z l.length sv (l.flatMap enc))) (ha : idx l a = some el) (hz : elems P t = some (.sl z)) :
    ∃ b j, blk sv = [b] ∧ (∀ M', xIndexAddr P t sv (.int kk a) M' = .val (.ptr b (0 + j * z)) M') ∧ l[j]? = some el := by
  obtain ⟨j, rfl, hlt, hel⟩ := idx_some ha
  have hin : inn l (j : Int) = some j := by
    show (bif Nat.blt j l.length then some j else none) = some j
    rw [show Nat.blt j l.length = true from Nat.ble_eq_true_of_le hlt]
    rfl
  obtain ⟨b, h1, h2⟩ := vec_place (kk := kk) hH hi hin hz
  exact ⟨b, j, h1, h2, hel⟩
theorem ex_elX {i v : SV} {M' : Mem} (h : ar e p = some s) (h' : ar e q = some i) (hx : ∀ M, xIndexAddr P t s i M = .val v M) : execO P M' (treeOf e) (.indexAddr t p q) = .val v M' := by
  show eIndexA P M' (treeOf e) t p q = _
  unfold eIndexA
  rw [ar_arg h, ar_arg h']
  exact hx M'
theorem xSlice_subA {α : Type} {f : Rd} {z : Nat} {R : List SV → α → Prop} {s : SV} {l : List α} (hs : Slc f z R s l) {lo hi : Option SV} {p q : Nat} (hpq : p ≤ q) (hq : q ≤ l.length)
    (hlo : lo = none ∧ p = 0 ∨ ∃ k', lo = some (.int k' (p : Int))) (hhi : hi = none ∧ q = l.length ∨ ∃ k', hi = some (.int k' (q : Int))) (hk : slK P t = some (.sl z)) :
    ∃ s', (∀ M, xSlice P t s lo hi none M = .val s' M) ∧ Slc f z R s' ((l.take q).drop p) := by
  have hbl : ∀ top, q ≤ top → boundS lo 0 q = some p := by
    intro top _
    rcases hlo with ⟨rfl, rfl⟩ | ⟨k', rfl⟩
    · rfl
    · have e1 : intNat (p : Int) = some p := rfl
      simp only [boundS, e1, Nat.ble_eq_true_of_le hpq]
  have hbh : ∀ top, l.length ≤ top → boundS hi l.length top = some q := by
    intro top ht
    rcases hhi with ⟨rfl, rfl⟩ | ⟨k', rfl⟩
    · rfl
    · have e1 : intNat (q : Int) = some q := rfl
      simp only [boundS, e1, Nat.ble_eq_true_of_le (Nat.le_trans hq ht)]
  have hb : ∀ top, l.length ≤ top → bnds lo hi none l.length top = some (p, q, top) := by
    intro top ht
    have e0 : boundS none top top = some top := rfl
    simp only [bnds, e0, hbh top ht, hbl top (by omega), Nat.ble_eq_true_of_le hpq]
  have hlen : ((l.take q).drop p).length = q - p := by simp; omega
  have hget : ∀ (i : Nat) (el : α), ((l.take q).drop p)[i]? = some el → l[p + i]? = some el := by
    intro i el h
    rw [List.getElem?_drop, List.getElem?_take] at h
    split at h
    · exact h
    · simp at h
  rcases hs with ⟨hn, rfl⟩ | ⟨bb, off, c, hs, h2, h3, h4⟩
  · have hp0 : p = 0 := by simp at hq; omega
    have hq0 : q = 0 := by simp at hq; omega
    subst hp0 hq0
    have := hb 0 (Nat.le_refl _)
    have h' : bnds lo hi none 0 0 = some (0, 0, 0) := this
    rcases hn with rfl | ⟨b, o, p, rfl⟩ | ⟨a0, rfl⟩
    · refine ⟨.nils, fun M => ?_, .inl ⟨.inl rfl, rfl⟩⟩
      unfold xSlice
      simp only [hk, h']
    · refine ⟨.opz b o p z, fun M => ?_, .inl ⟨.inr (.inl ⟨b, o, p, rfl⟩), rfl⟩⟩
      unfold xSlice
      simp only [hk, Nat.beq_refl, h']
    · refine ⟨.rawz a0, fun M => ?_, .inl ⟨.inr (.inr ⟨a0, rfl⟩), rfl⟩⟩
      unfold xSlice
      simp only [hk, h']
  · have hz1 : q * z ≤ l.length * z := Nat.mul_le_mul_right z hq
    have hz2 : p * z + (q - p) * z = q * z := by rw [← Nat.add_mul, Nat.add_sub_cancel' hpq]
    rcases hs with ⟨cap, hcap, rfl⟩ | rfl
    · have g1 : ((l.take q).drop p).length ≤ cap - p := by rw [hlen]; exact Nat.sub_le_sub_right (Nat.le_trans hq hcap) p
      by_cases hcp : cap = p
      · have hqp : q - p = 0 := by omega
        refine ⟨.slice bb off (q - p) (cap - p), fun M => ?_, .inr ⟨bb, off, c, .inl ⟨cap - p, g1, by rw [hlen]⟩, h2, by rw [hlen, hqp]; omega, fun i el h => ?_⟩⟩
        · unfold xSlice
          have hne : Nat.beq cap p = true := by rw [hcp]; exact Nat.beq_refl p
          simp only [hk, Nat.ble_eq_true_of_le hcap, hb cap hcap, cutAt, hne]
          rfl
        · have := (List.getElem?_eq_some_iff.1 h).1
          omega
      · have g2 : off + p * z + ((l.take q).drop p).length * z ≤ c.length := by rw [hlen, Nat.add_assoc, hz2]; exact Nat.le_trans (Nat.add_le_add_left hz1 off) h3
        refine ⟨.slice bb (off + p * z) (q - p) (cap - p), fun M => ?_, .inr ⟨bb, off + p * z, c, .inl ⟨cap - p, g1, by rw [hlen]⟩, h2, g2, fun i el h => ?_⟩⟩
        · unfold xSlice
          have hne : Nat.beq cap p = false := by
            cases hh : Nat.beq cap p with
            | false => rfl
            | true => exact absurd (Nat.eq_of_beq_eq_true hh) hcp
          simp only [hk, Nat.ble_eq_true_of_le hcap, hb cap hcap, cutAt, hne]
          rfl
        · have := h4 (p + i) el (hget i el h)
          rwa [Nat.add_mul, ← Nat.add_assoc] at this
    · by_cases hpn : l.length ≤ p
      · refine ⟨.opz bb off (off + p * z) z, fun M => ?_, .inl ⟨.inr (.inl ⟨bb, off, off + p * z, rfl⟩), List.eq_nil_of_length_eq_zero (by rw [hlen]; omega)⟩⟩
        unfold xSlice
        simp only [hk, Nat.beq_refl, hb l.length (Nat.le_refl _), Nat.ble_eq_true_of_le hpn]
        rfl
      · have g2 : off + p * z + ((l.take q).drop p).length * z ≤ c.length := by rw [hlen, Nat.add_assoc, hz2]; exact Nat.le_trans (Nat.add_le_add_left hz1 off) h3
        refine ⟨.ope bb (off + p * z) (q - p) z, fun M => ?_, .inr ⟨bb, off + p * z, c, .inr (by rw [hlen]), h2, g2, fun i el h => ?_⟩⟩
        · unfold xSlice
          have hnb : Nat.ble l.length p = false := by
            cases hh : Nat.ble l.length p with
            | false => rfl
            | true => exact absurd (Nat.le_of_ble_eq_true hh) hpn
          simp only [hk, Nat.beq_refl, hb l.length (Nat.le_refl _), hnb]
          rfl
        · have := h4 (p + i) el (hget i el h)
          rwa [Nat.add_mul, ← Nat.add_assoc] at this
theorem sl_subH (hs : Slc f z R s l) (hl : sub l 0 hi = some l') (hk : slK P t = some (.sl z)) : ∃ s', (∀ M, xSlice P t s none (some (.int k0 hi)) none M = .val s' M) ∧ Slc f z R s' l' := by
  obtain ⟨p, q, hp, rfl, hpq, hq, rfl⟩ := sub_some hl
  exact xSlice_subA hs hpq hq (.inl ⟨rfl, by omega⟩) (.inr ⟨k0, rfl⟩) hk
theorem sl_subL (hs : Slc f z R s l) (hl : sub l lo l.length = some l') (hk : slK P t = some (.sl z)) : ∃ s', (∀ M, xSlice P t s (some (.int k0 lo)) none none M = .val s' M) ∧ Slc f z R s' l' := by
  obtain ⟨p, q, rfl, hq', hpq, hq, rfl⟩ := sub_some hl
  exact xSlice_subA hs hpq hq (.inr ⟨k0, rfl⟩) (.inl ⟨rfl, by omega⟩) hk
theorem ex_slX {v : SV} {lo' hi' : Option SV} {x y : Option Operand} {M' : Mem} (h : ar e p = some s) (hx : ∀ M, argO M (treeOf e) x = some lo') (hy : ∀ M, argO M (treeOf e) y = some hi') (hv : ∀ M, xSlice P t s lo' hi' none M = .val v M) : execO P M' (treeOf e) (.slice t p x y none) = .val v M' := by
  show eSlice P M' (treeOf e) t p x y none = _
  unfold eSlice
  rw [ar_arg h, hx M', hy M']
  exact hv M'
theorem argO_none (M : Mem) : argO M (treeOf e) none = some none := rfl
theorem ex_makeFunc {g : Fn} {xs ys : Array Operand} {l1 l2 : List SV} (h1 : ars e xs.toList = some l1) (h2 : ars e ys.toList = some l2) : execO P M (treeOf e) (.makeFunc g xs ys) = .val (.fn g l1 l2) M := by
  show (Option.rec Out.bad (fun a => Option.rec Out.bad (fun b => Out.val (.fn g a b) M) (args M (treeOf e) ys.toList)) (args M (treeOf e) xs.toList) : Out) = _
  rw [ars_args h1 M, ars_args h2 M]
def nonN : SV → Bool
  | .slice _ _ _ _ => true
  | .ope _ _ _ _ => true
  | .opz _ _ _ _ => true
  | .rawz _ => true
  | _ => false
theorem slc_or (hs : Slc f z R s l) : (s = .nils ∧ l = []) ∨ nonN s = true := by
  rcases hs with ⟨rfl | ⟨_, _, _, rfl⟩ | ⟨_, rfl⟩, rfl⟩ | ⟨b, off, c, (⟨cap, _, rfl⟩ | rfl), _⟩
  · exact .inl ⟨rfl, rfl⟩
  · exact .inr rfl
  · exact .inr rfl
  · exact .inr rfl
  · exact .inr rfl
theorem ex_nilT (h : ar e p = some .nils) (h' : ar e q = some .nils) (hk : eqK P t = some .slice) : execO P M (treeOf e) (.binOp .eql t p q u) = .val (.bool true) M := by
  rw [ex_bin h h']
  show (match eqS P t .nils .nils with | some r => Out.val (.bool r) M | none => .bad) = _
  unfold eqS
  rw [hk]
theorem ex_nilF (h : ar e p = some s) (hs : nonN s = true) (h' : ar e q = some .nils) (hk : eqK P t = some .slice) : execO P M (treeOf e) (.binOp .eql t p q u) = .val (.bool false) M := by
  rw [ex_bin h h']
  cases s <;> simp only [nonN, Bool.false_eq_true] at hs
  · show (match eqS P t (.slice _ _ _ _) .nils with | some r => Out.val (.bool r) M | none => .bad) = _
    unfold eqS
    rw [hk]
  · show (match eqS P t (.ope _ _ _ _) .nils with | some r => Out.val (.bool r) M | none => .bad) = _
    unfold eqS
    rw [hk]
  · show (match eqS P t (.opz _ _ _ _) .nils with | some r => Out.val (.bool r) M | none => .bad) = _
    unfold eqS
    rw [hk]
  · show (match eqS P t (.rawz _) .nils with | some r => Out.val (.bool r) M | none => .bad) = _
    unfold eqS
    rw [hk]
end
end Go.Ev
