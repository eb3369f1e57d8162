/- A part of the small machine. -/
import Derived.Test.YtajnglhkdglglaaGreatDoorEvL4
import Derived.Deep.Slices
import Derived.ReadAgain
set_option linter.unusedVariables false
/- Arguments that are slices: rows that are only read. -/
namespace Go.Ev
open Go.RowKit
variable {P : Program}

theorem zol {m : Map} : ∀ {a b : List SV} {x y : List Value}, concs m a = some x → concs m b = some y → concs m (a ++ b) = some (x ++ y)
 | [], b, x, y, h, h' => by
  rw [Kk] at h
  cases h
  exact h'
 | s :: a, b, x, y, h, h' => by
  obtain ⟨v, r, h1, h2, rfl⟩ := zdf h
  exact K4 h1 (zol h2 h')
theorem zk3 {m : Map} {L : List Value} {z off : Nat} {g : Nat → List SV} : ∀ {n : Nat}, (∀ i, i < n → concs m (g i) = some ((L.drop (off + i * z)).take z)) → concs m ((List.range n).flatMap g) = some ((L.drop off).take (n * z))
 | 0, _ => by simp [Kk]
 | n + 1, h => by
  rw [List.range_succ, List.flatMap_append, Nat.succ_mul, List.take_add, List.drop_drop]
  refine zol (zk3 fun i hi => h i (by omega)) ?_
  simp only [List.flatMap_cons, List.flatMap_nil, List.append_nil]
  exact h n (by omega)

section
variable {H : Type} {enc : TypeId × Value → H} {w w' : World} {base : Nat} {spare : Nat → Bool} {held : Bool}
theorem zje : ∀ {ts : List TypeId} {vs : List Value} {ds : List (DataW H)} {ps : List MemPlace}, DataW.TrodAll enc P w base spare held ts vs ds ps → (∀ p ∈ ps, w.sameAt w' p) → DataW.TrodAll enc P w' base spare held ts vs ds ps
 | [], [], [], _, h, _ => h
 | _ :: _, _ :: _, _ :: _, _, ⟨p, q, ⟨n, h1⟩, h2, e⟩, hs => ⟨p, q, ⟨n, DataW.trod_carry n _ _ _ h1 (fun x hx => hs x (by rw [e]; exact List.mem_append_left _ hx))⟩, zje h2 (fun x hx => hs x (by rw [e]; exact List.mem_append_right _ hx)), e⟩
/-- What a call that only makes new blocks has read before, reads so again. -/
theorem W5 {T : TypeId → Prop} (K : Kids P T) (hz : ∀ t e, T t → P.underlying t = some (.slice e) → 0 < P.cellsOf e) (hb : Below w.heap.size w w') {ts : List TypeId} {vs : List Value} {ds : List (DataW H)} {ps : List MemPlace}
  (hT : ∀ t ∈ ts, T t) (h : DataW.TrodAll enc P w 0 (fun _ => true) true ts vs ds ps) : DataW.TrodAll enc P w' 0 (fun b => decide (b < w.heap.size)) true ts vs ds ps :=
 DataW.TrodAll.respare K hz hT (zje h fun p hp => hb.same (h.lt p hp)) (fun p hp => by simpa using h.lt p hp)
end
end Go.Ev

/- More of what operations give: places of elements and parts of slices, whatever memory is; functions as values; nil. -/
namespace Go.Ev
open Go.RowKit
variable {P : Program}
section
variable {α : Type} {F : Rd} {H : List Ent} {M : Mem} {e : Env} {t u : TypeId} {p q : Operand} {f : Rd} {s sv : SV} {l l' : List α} {z i : Nat} {enc : α → List SV} {R : List SV → α → Prop} {tt : TypeId} {kk k0 k1 : IntKind} {a lo hi : Int} {el : α}

theorem zko {i n : Nat} (h : i < n) : znt (i : Int) n = some i := by
 show Bool.rec none (some i) (Nat.ble (Nat.succ i) n) = some i
 rw [show Nat.ble (Nat.succ i) n = true from Nat.ble_eq_true_of_le h]
/-- An element of what is only read. -/
theorem Jc (hs : Slc f z R s l) (hi : idx l a = some el) (hz : Zf P t = some (.sl z)) :
  ∃ b off cs, (∀ M, zdr P t s (.int kk a) M = .val (.ptr b off) M) ∧ zgi f (.ptr b off) cs ∧ R cs el := by
 obtain ⟨i, rfl, hlt, hel⟩ := zrm hi
 rcases hs with ⟨_, rfl⟩ | ⟨b, off, c, hs, h2, h3, h4⟩
 ·simp at hlt
 ·have hle : (i + 1) * z ≤ l.length * z := Nat.mul_le_mul_right z hlt
  have d : (i + 1) * z = i * z + z := Nat.succ_mul i z
  have hlen : ((c.drop (off + i * z)).take z).length = z := by simp; omega
  refine ⟨b, off + i * z, (c.drop (off + i * z)).take z, fun M => ?_, ⟨b, off + i * z, c, rfl, h2, by rw [hlen]; omega, by rw [hlen]⟩, h4 i el hel⟩
  rcases hs with ⟨cap, _, rfl⟩ | rfl
  ·unfold zdr
   simp only [hz, zko hlt]
   rfl
  ·unfold zdr
   simp only [hz, zko hlt]
   rfl
/-- An element of what is owned: its place, and it. -/
theorem Vm {j : Nat} (hH : Has F M H) (hi : H[i]? = some (.vec tt z l.length sv (l.flatMap enc))) (ha : inn l a = some j) (hz : Zf P t = some (.sl z)) :
  ∃ b, blk sv = [b] ∧ ∀ M', zdr P t sv (.int kk a) M' = .val (.ptr b (0 + j * z)) M' := by
 obtain ⟨rfl, hlt⟩ := zwc ha
 rcases hH.get hi with ⟨rfl, h0, _⟩ | ⟨b, hsv, hc, ho⟩
 ·omega
 ·refine ⟨b, by rcases hsv with rfl | rfl <;> rfl, fun M' => ?_⟩
  rcases hsv with rfl | rfl
  ·unfold zdr
   simp only [hz, zko hlt]
   rfl
  ·unfold zdr
   simp only [hz, zko hlt]
   rfl
theorem Yn (hH : Has F M H) (hi : H[i]? = some (.vec tt z l.length sv (l.flatMap enc))) (ha : idx l a = some el) (hz : Zf P t = some (.sl z)) :
  ∃ b j, blk sv = [b] ∧ (∀ M', zdr P t sv (.int kk a) M' = .val (.ptr b (0 + j * z)) M') ∧ l[j]? = some el := by
 obtain ⟨j, rfl, hlt, hel⟩ := zrm ha
 have hin : inn l (j : Int) = some j := by
  show (bif Nat.blt j l.length then some j else none) = some j
  rw [show Nat.blt j l.length = true from Nat.ble_eq_true_of_le hlt]
  rfl
 obtain ⟨b, h1, h2⟩ := Vm (kk := kk) hH hi hin hz
 exact ⟨b, j, h1, h2, hel⟩
theorem Q6 {i v : SV} {M' : Mem} (h : ar e p = some s) (h' : ar e q = some i) (hx : ∀ M, zdr P t s i M = .val v M) : Qy P M' (treeOf e) (.indexAddr t p q) = .val v M' := by
 show zq1 P M' (treeOf e) t p q = _
 unfold zq1
 rw [zds h, zds h']
 exact hx M'
theorem ex_slX {v : SV} {lo' hi' : Option SV} {x y : Option Operand} {M' : Mem} (h : ar e p = some s) (hx : ∀ M, zpv M (treeOf e) x = some lo') (hy : ∀ M, zpv M (treeOf e) y = some hi') (hv : ∀ M, zft P t s lo' hi' none M = .val v M) : Qy P M' (treeOf e) (.slice t p x y none) = .val v M' := by
 show ztr P M' (treeOf e) t p x y none = _
 unfold ztr
 rw [zds h, hx M', hy M']
 exact hv M'
theorem argO_none (M : Mem) : zpv M (treeOf e) none = some none := rfl

/-- Functions as values. -/
theorem Zd {g : Fn} {xs ys : Array Operand} {l1 l2 : List SV} (h1 : ars e xs.toList = some l1) (h2 : ars e ys.toList = some l2) : Qy P M (treeOf e) (.makeFunc g xs ys) = .val (.fn g l1 l2) M := by
 show (Option.rec Out.bad (fun a => Option.rec Out.bad (fun b => Out.val (.fn g a b) M) (args M (treeOf e) ys.toList)) (args M (treeOf e) xs.toList) : Out) = _
 rw [zhx h1 M, zhx h2 M]
end
end Go.Ev

