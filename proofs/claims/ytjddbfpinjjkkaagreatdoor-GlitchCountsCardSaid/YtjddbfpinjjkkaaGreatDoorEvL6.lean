/- A part of the small machine. -/
import Derived.Test.YtjddbfpinjjkkaaGreatDoorEvL4
import Derived.Deep.Slices
import Derived.ReadAgain
set_option linter.unusedVariables false
namespace Go.Ev
open Go.RowKit
variable {P : Program}
abbrev ARow := Option (Pl × List SV)
noncomputable def argS (r : ARow) (j len cap : Nat) : SV := match r with
 | none => .nils
 | some _ => .slice (Pos.ofNat j) 0 len cap
structure FlatArg {α : Type} (W : World) (z : Nat) (enc : α → List SV) (v : Value) (l : List α) (r : ARow) (cap : Nat) : Prop where
 row : ∀ x, r = some x → x.1.block < W.heap.size ∧ ∀ m, RowRel m x.1 none .lost x.2 W.heap[x.1.block]?
 val : ∀ (m : Map) (j : Nat), (∀ x, r = some x → m (Pos.ofNat j) = some x.1) → conc m (argS r j l.length cap) = some v
 slc : ∀ (f : Rd) (j : Nat), (∀ x, r = some x → f (Pos.ofNat j) = some x.2) → Slc f z (FlatR enc) (argS r j l.length cap) l
 len : l.length ≤ maxLen
theorem zpc {fits : TypeId → Bool} {e : TypeId} {count off n : Nat} : ∀ {d : Nat}, rowAt P fits d e count off n = true → off ≤ count * P.cellsOf e
 | 0, h => by simp [rowAt] at h
 | d + 1, h => by
  unfold rowAt at h
  simp only at h
  split at h
  ·simp at h
  ·rename_i hs
   have hdm := Nat.div_add_mod off (P.cellsOf e)
   have hlt := Nat.mod_lt off (Nat.pos_of_ne_zero hs)
   rw [Bool.or_eq_true] at h
   rcases h with h | h
   ·simp only [Bool.and_eq_true, beq_iff_eq, decide_eq_true_eq] at h
    have := Nat.mul_le_mul_right (P.cellsOf e) (show off / P.cellsOf e ≤ count by omega)
    rw [Nat.mul_comm] at this
    omega
   ·simp only [Bool.and_eq_true, decide_eq_true_eq] at h
    have := Nat.mul_le_mul_right (P.cellsOf e) (show off / P.cellsOf e + 1 ≤ count by omega)
    rw [Nat.add_mul, Nat.one_mul, Nat.mul_comm] at this
    omega
theorem zh8 {e : TypeId} {count off : Nat} : ∀ {d : Nat} {u : TypeId} {n : Nat}, liesAt P d e count off u n = true → off ≤ count * P.cellsOf e
 | 0, _, _, h => by simp [liesAt] at h
 | d + 1, u, n, h => by
  unfold liesAt at h
  rw [Bool.or_eq_true] at h
  rcases h with h | h
  ·exact zpc h
  ·split at h
   ·exact zh8 h
   ·simp at h
theorem zj7 {m : Map} : ∀ {a b : List SV} {x y : List Value}, concs m a = some x → concs m b = some y → concs m (a ++ b) = some (x ++ y)
 | [], b, x, y, h, h' => by
  rw [concs_nil] at h
  cases h
  exact h'
 | s :: a, b, x, y, h, h' => by
  obtain ⟨v, r, h1, h2, rfl⟩ := z85 h
  exact concs_cons h1 (zj7 h2 h')
theorem zeo {m : Map} {L : List Value} {z off : Nat} {g : Nat → List SV} : ∀ {n : Nat}, (∀ i, i < n → concs m (g i) = some ((L.drop (off + i * z)).take z)) → concs m ((List.range n).flatMap g) = some ((L.drop off).take (n * z))
 | 0, _ => by simp [concs_nil]
 | n + 1, h => by
  rw [List.range_succ, List.flatMap_append, Nat.succ_mul, List.take_add, List.drop_drop]
  refine zj7 (zeo fun i hi => h i (by omega)) ?_
  simp only [List.flatMap_cons, List.flatMap_nil, List.append_nil]
  exact h n (by omega)
theorem arg_slice {α : Type} {H : Type} {henc : TypeId × Value → H} {W : World} {base : Nat} {held : Bool} {z : Nat} {enc : α → List SV} (hz : ∀ a, (enc a).length = z) {t e : TypeId} (hc : P.cellsOf e = z) (hin : Inhabited α)
  (ht : P.underlying t = some (.slice e)) {v : Value} (hok : Cell.okWide P W .any base t v) {fuel : Nat} {x : DataW H × List MemPlace} (h : DataW.trod henc P W 0 (fun _ => true) held fuel t [v] = some x)
  (hread : ∀ n cs x, DataW.trod henc P W 0 (fun _ => true) held n e cs = some x → ∃ a : α, ∀ m, concs m (enc a) = some cs) :
  ∃ l r cap, FlatArg W z enc v (l : List α) r cap := by
 rcases Deep.open_slice ht h with ⟨hcs, _⟩ | ⟨a, len, cap, mm, n, D, Pl', hcs, _, hl, hm, hmm, _, hel⟩
 ·simp only [List.cons.injEq, and_true] at hcs
  subst hcs
  exact ⟨[], none, 0, ⟨fun x hx => by simp at hx, fun m j _ => rfl, fun f j _ => .inl ⟨.inl rfl, rfl⟩, Nat.zero_le _⟩⟩
 ·simp only [List.cons.injEq, and_true] at hcs
  subst hcs
  simp only [Cell.okWide, ht, Cell.ok] at hok
  obtain ⟨_, _, _, hsp, row, cells, hsh, hlies⟩ := hok
  rw [if_pos rfl] at hmm
  subst hmm
  obtain ⟨ab, ao, asp⟩ := a
  simp only at hsp hsh hlies
  subst hsp
  unfold World.shape? at hsh
  split at hsh
  ·rename_i c e' fz hobj
   simp only [Option.some.injEq, Prod.mk.injEq] at hsh
   obtain ⟨rfl, rfl⟩ := hsh
   have hoff : ao ≤ c.size := Nat.le_trans (zh8 hlies) (Nat.div_mul_le_self _ _)
   have hlt : ab < W.heap.size := by
    apply Classical.byContradiction
    intro hn
    rw [Array.getElem?_eq_none (by omega)] at hobj
    simp at hobj
   obtain ⟨A, hA⟩ := Deep.choose_lt (α := α) (p := fun i a => ∀ m, concs m (enc a) = some ((c.toList.drop (ao + i * z)).take z)) (n := len) (fun i hi => by
    obtain ⟨cs', hcells, htr⟩ := hel i (by omega)
    obtain ⟨a, ha⟩ := hread _ _ _ htr
    refine ⟨a, fun m => ?_⟩
    rw [ha m]
    congr 1
    rw [hc] at hcells
    obtain ⟨_, hlen, hat⟩ := World.cells?_some hcells
    apply List.ext_getElem?
    intro j
    by_cases hj : j < z
    ·have := hat j hj
     rw [← this, Deep.add_add]
     have hadd : (Addr.mk ab ao none).add (i * z + j) = ⟨ab, ao + (i * z + j), none⟩ := by
      unfold Addr.add
      split
      ·rename_i h0; rw [h0]; rfl
      ·rfl
     rw [hadd]
     simp only [World.cell?, hobj, Option.isSome_none]
     rw [List.getElem?_take_of_lt hj, List.getElem?_drop, Array.getElem?_toList, Nat.add_assoc]
     rfl
    ·rw [List.getElem?_eq_none (by omega), List.getElem?_eq_none (by rw [List.length_take]; omega)])
   refine ⟨(List.range len).map A, some (⟨ab, ao, c.size⟩, ((List.range len).map A).flatMap enc), mm, ⟨?_, ?_, ?_, ?_⟩⟩
   ·rintro x hx
    simp only [Option.some.injEq] at hx
    subst hx
    refine ⟨hlt, fun m => ⟨e', fz, c.toList.take ao, (c.toList.drop ao).take (len * z), (c.toList.drop ao).drop (len * z), ?_, trivial, ?_, ?_, ?_, fun t h => by simp at h⟩⟩
    ·rw [List.take_append_drop, List.take_append_drop]
     exact hobj
    ·simp; omega
    ·simp only [List.length_take, List.length_drop, Array.length_toList]; omega
    ·rw [List.flatMap_map]
     exact zeo fun i hi => hA i hi m
   ·intro m j hj
    have := hj _ rfl
    show (m (Pos.ofNat j)).map _ = _
    rw [this]
    simp
   ·intro f j hj
    have := hj _ rfl
    refine .inr ⟨Pos.ofNat j, 0, _, .inl ⟨mm, by simpa using hl, rfl⟩, this, ?_, ?_⟩
    ·rw [zag hz]; omega
    ·intro i a ha
     rw [Nat.zero_add]
     exact zd9 hz _ _ _ ha
   ·simp; omega
  ·simp at hsh
section
variable {H : Type} {enc : TypeId × Value → H} {w w' : World} {base : Nat} {spare : Nat → Bool} {held : Bool}
theorem zdz : ∀ {ts : List TypeId} {vs : List Value} {ds : List (DataW H)} {ps : List MemPlace}, DataW.TrodAll enc P w base spare held ts vs ds ps → (∀ p ∈ ps, w.sameAt w' p) → DataW.TrodAll enc P w' base spare held ts vs ds ps
 | [], [], [], _, h, _ => h
 | _ :: _, _ :: _, _ :: _, _, ⟨p, q, ⟨n, h1⟩, h2, e⟩, hs => ⟨p, q, ⟨n, DataW.trod_carry n _ _ _ h1 (fun x hx => hs x (by rw [e]; exact List.mem_append_left _ hx))⟩, zdz h2 (fun x hx => hs x (by rw [e]; exact List.mem_append_right _ hx)), e⟩
theorem trodAll_below {T : TypeId → Prop} (K : Kids P T) (hz : ∀ t e, T t → P.underlying t = some (.slice e) → 0 < P.cellsOf e) (hb : Below w.heap.size w w') {ts : List TypeId} {vs : List Value} {ds : List (DataW H)} {ps : List MemPlace}
  (hT : ∀ t ∈ ts, T t) (h : DataW.TrodAll enc P w 0 (fun _ => true) true ts vs ds ps) : DataW.TrodAll enc P w' 0 (fun b => decide (b < w.heap.size)) true ts vs ds ps :=
 DataW.TrodAll.respare K hz hT (zdz h fun p hp => hb.same (h.lt p hp)) (fun p hp => by simpa using h.lt p hp)
end
end Go.Ev
namespace Go.Ev
open Go.RowKit
variable {P : Program}
section
variable {α : Type} {F : Rd} {H : List Ent} {M : Mem} {e : Env} {t u : TypeId} {p q : Operand} {f : Rd} {s sv : SV} {l l' : List α} {z i : Nat} {enc : α → List SV} {R : List SV → α → Prop} {tt : TypeId} {kk k0 k1 : IntKind} {a lo hi : Int} {el : α}
theorem zcw {i n : Nat} (h : i < n) : zn5 (i : Int) n = some i := by
 show Bool.rec none (some i) (Nat.ble (Nat.succ i) n) = some i
 rw [show Nat.ble (Nat.succ i) n = true from Nat.ble_eq_true_of_le h]
theorem sl_elem (hs : Slc f z R s l) (hi : idx l a = some el) (hz : elems P t = some (.sl z)) :
  ∃ b off cs, (∀ M, z8h P t s (.int kk a) M = .val (.ptr b off) M) ∧ zar f (.ptr b off) cs ∧ R cs el := by
 obtain ⟨i, rfl, hlt, hel⟩ := zlx hi
 rcases hs with ⟨_, rfl⟩ | ⟨b, off, c, hs, h2, h3, h4⟩
 ·simp at hlt
 ·have hle : (i + 1) * z ≤ l.length * z := Nat.mul_le_mul_right z hlt
  have hle2 : (i + 1) * z = i * z + z := Nat.succ_mul i z
  have hlen : ((c.drop (off + i * z)).take z).length = z := by simp; omega
  refine ⟨b, off + i * z, (c.drop (off + i * z)).take z, fun M => ?_, ⟨b, off + i * z, c, rfl, h2, by rw [hlen]; omega, by rw [hlen]⟩, h4 i el hel⟩
  rcases hs with ⟨cap, _, rfl⟩ | rfl
  ·unfold z8h
   simp only [hz, zcw hlt]
   rfl
  ·unfold z8h
   simp only [hz, zcw hlt]
   rfl
theorem vec_place {j : Nat} (hH : Has F M H) (hi : H[i]? = some (.vec tt z l.length sv (l.flatMap enc))) (ha : inn l a = some j) (hz : elems P t = some (.sl z)) :
  ∃ b, blk sv = [b] ∧ ∀ M', z8h P t sv (.int kk a) M' = .val (.ptr b (0 + j * z)) M' := by
 obtain ⟨rfl, hlt⟩ := zqv ha
 rcases hH.get hi with ⟨rfl, h0, _⟩ | ⟨b, hsv, hc, ho⟩
 ·omega
 ·refine ⟨b, by rcases hsv with rfl | rfl <;> rfl, fun M' => ?_⟩
  rcases hsv with rfl | rfl
  ·unfold z8h
   simp only [hz, zcw hlt]
   rfl
  ·unfold z8h
   simp only [hz, zcw hlt]
   rfl
theorem vec_elem (hH : Has F M H) (hi : H[i]? = some (.vec tt z l.length sv (l.flatMap enc))) (ha : idx l a = some el) (hz : elems P t = some (.sl z)) :
  ∃ b j, blk sv = [b] ∧ (∀ M', z8h P t sv (.int kk a) M' = .val (.ptr b (0 + j * z)) M') ∧ l[j]? = some el := by
 obtain ⟨j, rfl, hlt, hel⟩ := zlx ha
 have hin : inn l (j : Int) = some j := by
  show (bif Nat.blt j l.length then some j else none) = some j
  rw [show Nat.blt j l.length = true from Nat.ble_eq_true_of_le hlt]
  rfl
 obtain ⟨b, h1, h2⟩ := vec_place (kk := kk) hH hi hin hz
 exact ⟨b, j, h1, h2, hel⟩
theorem ex_elX {i v : SV} {M' : Mem} (h : ar e p = some s) (h' : ar e q = some i) (hx : ∀ M, z8h P t s i M = .val v M) : execO P M' (treeOf e) (.indexAddr t p q) = .val v M' := by
 show zkk P M' (treeOf e) t p q = _
 unfold zkk
 rw [z8j h, z8j h']
 exact hx M'
theorem ex_slX {v : SV} {lo' hi' : Option SV} {x y : Option Operand} {M' : Mem} (h : ar e p = some s) (hx : ∀ M, zkf M (treeOf e) x = some lo') (hy : ∀ M, zkf M (treeOf e) y = some hi') (hv : ∀ M, zal P t s lo' hi' none M = .val v M) : execO P M' (treeOf e) (.slice t p x y none) = .val v M' := by
 show zo4 P M' (treeOf e) t p x y none = _
 unfold zo4
 rw [z8j h, hx M', hy M']
 exact hv M'
theorem argO_none (M : Mem) : zkf M (treeOf e) none = some none := rfl
theorem ex_makeFunc {g : Fn} {xs ys : Array Operand} {l1 l2 : List SV} (h1 : ars e xs.toList = some l1) (h2 : ars e ys.toList = some l2) : execO P M (treeOf e) (.makeFunc g xs ys) = .val (.fn g l1 l2) M := by
 show (Option.rec Out.bad (fun a => Option.rec Out.bad (fun b => Out.val (.fn g a b) M) (args M (treeOf e) ys.toList)) (args M (treeOf e) xs.toList) : Out) = _
 rw [zbk h1 M, zbk h2 M]
def zu3 : SV → Bool
 | .slice _ _ _ _ => true
 | .ope _ _ _ _ => true
 | .opz _ _ _ _ => true
 | .rawz _ => true
 | _ => false
theorem slc_or (hs : Slc f z R s l) : (s = .nils ∧ l = []) ∨ zu3 s = true := by
 rcases hs with ⟨rfl | ⟨_, _, _, rfl⟩ | ⟨_, rfl⟩, rfl⟩ | ⟨b, off, c, (⟨cap, _, rfl⟩ | rfl), _⟩
 ·exact .inl ⟨rfl, rfl⟩
 ·exact .inr rfl
 ·exact .inr rfl
 ·exact .inr rfl
 ·exact .inr rfl
theorem ex_nilT (h : ar e p = some .nils) (h' : ar e q = some .nils) (hk : eqK P t = some .slice) : execO P M (treeOf e) (.binOp .eql t p q u) = .val (.bool true) M := by
 rw [zae h h']
 show (match eqS P t .nils .nils with | some r => Out.val (.bool r) M | none => .bad) = _
 unfold eqS
 rw [hk]
theorem ex_nilF (h : ar e p = some s) (hs : zu3 s = true) (h' : ar e q = some .nils) (hk : eqK P t = some .slice) : execO P M (treeOf e) (.binOp .eql t p q u) = .val (.bool false) M := by
 rw [zae h h']
 cases s <;> simp only [zu3, Bool.false_eq_true] at hs
 ·show (match eqS P t (.slice _ _ _ _) .nils with | some r => Out.val (.bool r) M | none => .bad) = _
  unfold eqS
  rw [hk]
 ·show (match eqS P t (.ope _ _ _ _) .nils with | some r => Out.val (.bool r) M | none => .bad) = _
  unfold eqS
  rw [hk]
 ·show (match eqS P t (.opz _ _ _ _) .nils with | some r => Out.val (.bool r) M | none => .bad) = _
  unfold eqS
  rw [hk]
 ·show (match eqS P t (.rawz _) .nils with | some r => Out.val (.bool r) M | none => .bad) = _
  unfold eqS
  rw [hk]
end
end Go.Ev
