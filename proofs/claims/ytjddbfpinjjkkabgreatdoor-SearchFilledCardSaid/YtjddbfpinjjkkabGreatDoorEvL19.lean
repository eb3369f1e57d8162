/- A part of the small machine. -/
import Derived.Test.YtjddbfpinjjkkabGreatDoorEvL18
set_option linter.unusedVariables false
set_option linter.unusedVariables false
namespace Go.Ev
open Go.RowKit
variable {P : Program}
def subP (len : Nat) (lo hi : Int) : Option (Nat × Nat) := match lo, hi with
  | .ofNat a, .ofNat b => bif decide (a ≤ b) && decide (b ≤ len) then some (a, b - a) else none
  | _, _ => none
theorem subP_some {len : Nat} {lo hi : Int} {r : Nat × Nat} (h : subP len lo hi = some r) : ∃ a b : Nat, lo = a ∧ hi = b ∧ a ≤ b ∧ b ≤ len ∧ r = (a, b - a) := by
  unfold subP at h
  split at h
  · rename_i a b
    rcases btf (decide (a ≤ b) && decide (b ≤ len)) with hc | hc
    · rw [hc] at h
      simp only [Bool.and_eq_true, decide_eq_true_eq] at hc
      exact ⟨a, b, rfl, rfl, hc.1, hc.2, (Option.some.inj h).symm⟩
    · rw [hc] at h
      exact absurd h (by simp)
  · exact absurd h (by simp)
def parL {α : Type} (l : List α) (off len : Nat) : Option (List α) := bif decide (off + len ≤ l.length) then some ((l.drop off).take len) else none
theorem parL_some {α : Type} {l l' : List α} {off len : Nat} (h : parL l off len = some l') : off + len ≤ l.length ∧ l' = (l.drop off).take len := by
  unfold parL at h
  rcases btf (decide (off + len ≤ l.length)) with hc | hc
  · exact ⟨of_decide_eq_true hc, (Option.some.inj (bif_t hc h)).symm⟩
  · exact absurd (bif_f hc h) (by simp)
theorem bndsA {lo hi : Option SV} {n p q top : Nat} (hpq : p ≤ q) (hq : q ≤ n) (hlo : lo = none ∧ p = 0 ∨ ∃ k', lo = some (.int k' (p : Int))) (hhi : hi = none ∧ q = n ∨ ∃ k', hi = some (.int k' (q : Int))) (ht : n ≤ top) : bnds lo hi none n top = some (p, q, top) := by
  have hbl : boundS lo 0 q = some p := by
    rcases hlo with ⟨rfl, rfl⟩ | ⟨k', rfl⟩
    · rfl
    · have e1 : intNat (p : Int) = some p := rfl
      simp only [boundS, e1, Nat.ble_eq_true_of_le hpq]
  have hbh : boundS hi n top = some q := by
    rcases hhi with ⟨rfl, rfl⟩ | ⟨k', rfl⟩
    · rfl
    · have e1 : intNat (q : Int) = some q := rfl
      simp only [boundS, e1, Nat.ble_eq_true_of_le (Nat.le_trans hq ht)]
  have e0 : boundS none top top = some top := rfl
  simp only [bnds, e0, hbh, hbl, Nat.ble_eq_true_of_le hpq]
section
variable {α : Type} {F : Rd} {M : Mem} {H : List Ent} {e : Env} {p q : Operand} {t u tt : TypeId} {i j z off len : Nat} {s sv : SV} {l l' : List α} {enc : α → List SV} {c : List SV} {k0 k1 kk : IntKind}
theorem flat_take (hz : ∀ a, (enc a).length = z) : ∀ (l : List α) (k : Nat), (l.take k).flatMap enc = (l.flatMap enc).take (k * z)
  | [], k => by simp
  | a :: l, 0 => by simp
  | a :: l, k + 1 => by
    rw [List.take_succ_cons, List.flatMap_cons, List.flatMap_cons, flat_take hz l k, Nat.succ_mul, show k * z + z = (enc a).length + k * z by rw [hz]; omega, List.take_length_add_append]
theorem flat_drop (hz : ∀ a, (enc a).length = z) : ∀ (l : List α) (k : Nat), (l.drop k).flatMap enc = (l.flatMap enc).drop (k * z)
  | [], k => by simp
  | a :: l, 0 => by simp
  | a :: l, k + 1 => by
    rw [List.drop_succ_cons, List.flatMap_cons, flat_drop hz l k, Nat.succ_mul, show k * z + z = (enc a).length + k * z by rw [hz]; omega, List.drop_length_add_append]
end
section
variable {α : Type} {F : Rd} {M : Mem} {H : List Ent} {e : Env} {i z off len : Nat} {s sv : SV} {l l' : List α} {R : List SV → α → Prop} {enc : α → List SV} {tt : TypeId} {c : List SV}
end
section
variable {α : Type} {fx : Fx} {n : Nat} {Q : SV → Mem → Prop} {e : Env} {k : List SItem} {M : Mem} {all : Array Oper} {ty : TypeId} {pos : String} {af : Array Edge} {g : Option (Nat × Bool)} {d : Option Tmp} {r tl : List Oper} {F : Rd} {H : List Ent}
theorem PureG.callX {op : Op} {f : FuncId} {xs : List SV} {R : SV → Mem → Prop} (hw : wantS all (treeOf e) ⟨d, op, ty, pos, af, g⟩ = some true) (hx : execO P (lift M) (treeOf e) op = .enter f xs (lift M)) (hd : okD d n = true) (hc : CallsM P f xs (lift M) R)
    (h : ∀ s M', R s M' → Aft (lift M) M' → PureG P fx n Q all k tl r (putE d s e) (unlift M.floor M')) : PureG P fx n Q all k tl (⟨d, op, ty, pos, af, g⟩ :: r) e M := PureG.callN hw hx hd hc h
end
end Go.Ev
