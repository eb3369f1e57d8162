/- A part of the small machine. -/
import Derived.Test.YtjddbfpinjjkkaaGreatDoorEvL18
set_option linter.unusedVariables false
set_option linter.unusedVariables false
namespace Go.Ev
open Go.RowKit
variable {P : Program}
def Part (sv : SV) (z off len : Nat) (s : SV) : Prop :=
 (sv = .nils ∧ len = 0 ∧ s = .nils) ∨ ∃ b, blk sv = [b] ∧ ((∃ o cap, s = .slice b o len cap ∧ len ≤ cap ∧ (o = off * z ∨ len = 0 ∧ o ≤ off * z)) ∨ s = .ope b (off * z) len z ∨ (len = 0 ∧ ∃ o p, s = .opz b o p z))
def subP (len : Nat) (lo hi : Int) : Option (Nat × Nat) := match lo, hi with
 | .ofNat a, .ofNat b => bif decide (a ≤ b) && decide (b ≤ len) then some (a, b - a) else none
 | _, _ => none
theorem zk2 {len : Nat} {lo hi : Int} {r : Nat × Nat} (h : subP len lo hi = some r) : ∃ a b : Nat, lo = a ∧ hi = b ∧ a ≤ b ∧ b ≤ len ∧ r = (a, b - a) := by
 unfold subP at h
 split at h
 ·rename_i a b
  rcases btf (decide (a ≤ b) && decide (b ≤ len)) with hc | hc
  ·rw [hc] at h
   simp only [Bool.and_eq_true, decide_eq_true_eq] at hc
   exact ⟨a, b, rfl, rfl, hc.1, hc.2, (Option.some.inj h).symm⟩
  ·rw [hc] at h
   exact absurd h (by simp)
 ·exact absurd h (by simp)
def inP {α : Type} (l : List α) (off len : Nat) (j : Int) : Option Nat := match j with
 | .ofNat i => bif Nat.blt i len && Nat.blt (off + i) l.length then some (off + i) else none
 | .negSucc _ => none
theorem zqt {α : Type} {l : List α} {off len o : Nat} {j : Int} (h : inP l off len j = some o) : ∃ i : Nat, j = i ∧ i < len ∧ o = off + i ∧ o < l.length := by
 cases j with
 | ofNat i =>
  rcases btf (Nat.blt i len && Nat.blt (off + i) l.length) with hc | hc
  ·have h1 := Option.some.inj (bif_t hc h)
   simp only [Bool.and_eq_true] at hc
   exact ⟨i, rfl, Nat.le_of_ble_eq_true hc.1, h1.symm, h1 ▸ Nat.le_of_ble_eq_true hc.2⟩
  ·exact absurd (bif_f hc h) (by simp)
 | negSucc i => simp [inP] at h
def parL {α : Type} (l : List α) (off len : Nat) : Option (List α) := bif decide (off + len ≤ l.length) then some ((l.drop off).take len) else none
theorem zp8 {α : Type} {l l' : List α} {off len : Nat} (h : parL l off len = some l') : off + len ≤ l.length ∧ l' = (l.drop off).take len := by
 unfold parL at h
 rcases btf (decide (off + len ≤ l.length)) with hc | hc
 ·exact ⟨of_decide_eq_true hc, (Option.some.inj (bif_t hc h)).symm⟩
 ·exact absurd (bif_f hc h) (by simp)
theorem ztq {lo hi : Option SV} {n p q top : Nat} (hpq : p ≤ q) (hq : q ≤ n) (hlo : lo = none ∧ p = 0 ∨ ∃ k', lo = some (.int k' (p : Int))) (hhi : hi = none ∧ q = n ∨ ∃ k', hi = some (.int k' (q : Int))) (ht : n ≤ top) : znn lo hi none n top = some (p, q, top) := by
 have hbl : zc3 lo 0 q = some p := by
  rcases hlo with ⟨rfl, rfl⟩ | ⟨k', rfl⟩
  ·rfl
  ·have e1 : intNat (p : Int) = some p := rfl
   simp only [zc3, e1, Nat.ble_eq_true_of_le hpq]
 have hbh : zc3 hi n top = some q := by
  rcases hhi with ⟨rfl, rfl⟩ | ⟨k', rfl⟩
  ·rfl
  ·have e1 : intNat (q : Int) = some q := rfl
   simp only [zc3, e1, Nat.ble_eq_true_of_le (Nat.le_trans hq ht)]
 have e0 : zc3 none top top = some top := rfl
 simp only [znn, e0, hbh, hbl, Nat.ble_eq_true_of_le hpq]
section
variable {α : Type} {F : Rd} {M : Mem} {H : List Ent} {e : Env} {p q : Operand} {t u tt : TypeId} {i j z off len : Nat} {s sv : SV} {l l' : List α} {enc : α → List SV} {c : List SV} {k0 k1 kk : IntKind}
theorem part_all {n : Nat} (hH : Has F M H) (hi : H[i]? = some (.vec tt z n sv c)) : Part sv z 0 n sv := by
 rcases hH.get hi with ⟨rfl, h0, _⟩ | ⟨b, hsv, _, _⟩
 ·exact .inl ⟨rfl, h0, rfl⟩
 ·rcases hsv with rfl | rfl
  ·exact .inr ⟨b, rfl, .inl ⟨0, n, rfl, Nat.le_refl _, .inl (by simp)⟩⟩
  ·exact .inr ⟨b, rfl, .inr (.inl (by simp))⟩
theorem zjr (hp : Part sv z off len s) {lo hi : Option SV} {a b : Nat} (hab : a ≤ b) (hb : b ≤ len) (hlo : lo = none ∧ a = 0 ∨ ∃ k', lo = some (.int k' (a : Int))) (hhi : hi = none ∧ b = len ∨ ∃ k', hi = some (.int k' (b : Int))) (hk : slK P t = some (.sl z)) :
  ∃ s', (∀ M, zal P t s lo hi none M = .val s' M) ∧ Part sv z (off + a) (b - a) s' := by
 have hbn := fun top ht => ztq (top := top) hab hb hlo hhi ht
 rcases hp with ⟨rfl, rfl, rfl⟩ | ⟨bb, hbl, hs⟩
 ·have h0 := hbn 0 (Nat.le_refl _)
  refine ⟨.nils, fun M => ?_, .inl ⟨rfl, by omega, rfl⟩⟩
  unfold zal
  simp only [hk, h0]
 ·rcases hs with ⟨o, cap, rfl, hcap, ho⟩ | rfl | ⟨rfl, o, p, rfl⟩
  ·by_cases hcp : cap = a
   ·refine ⟨.slice bb o (b - a) (cap - a), fun M => ?_, .inr ⟨bb, hbl, .inl ⟨o, cap - a, rfl, by omega, .inr ⟨by omega, ?_⟩⟩⟩⟩
    ·unfold zal
     have hne : Nat.beq cap a = true := by rw [hcp]; exact Nat.beq_refl a
     simp only [hk, Nat.ble_eq_true_of_le hcap, hbn cap hcap, zj8, hne]
     rfl
    ·have : off * z ≤ (off + a) * z := Nat.mul_le_mul_right z (Nat.le_add_right _ _)
     rcases ho with rfl | ⟨_, ho⟩
     ·exact this
     ·exact Nat.le_trans ho this
   ·refine ⟨.slice bb (o + a * z) (b - a) (cap - a), fun M => ?_, .inr ⟨bb, hbl, .inl ⟨o + a * z, cap - a, rfl, by omega, ?_⟩⟩⟩
    ·unfold zal
     have hne : Nat.beq cap a = false := by
      cases hh : Nat.beq cap a with
      | false => rfl
      | true => exact absurd (Nat.eq_of_beq_eq_true hh) hcp
     simp only [hk, Nat.ble_eq_true_of_le hcap, hbn cap hcap, zj8, hne]
     rfl
    ·rcases ho with rfl | ⟨h0, ho⟩
     ·exact .inl (Nat.add_mul _ _ _).symm
     ·have : a = 0 := by omega
      subst this
      exact .inr ⟨by omega, by simpa using ho⟩
  ·by_cases hpn : len ≤ a
   ·refine ⟨.opz bb (off * z) (off * z + a * z) z, fun M => ?_, .inr ⟨bb, hbl, .inr (.inr ⟨by omega, _, _, rfl⟩)⟩⟩
    unfold zal
    simp only [hk, Nat.beq_refl, hbn len (Nat.le_refl _), Nat.ble_eq_true_of_le hpn]
    rfl
   ·refine ⟨.ope bb (off * z + a * z) (b - a) z, fun M => ?_, .inr ⟨bb, hbl, .inr (.inl (by rw [Nat.add_mul]))⟩⟩
    unfold zal
    have hnb : Nat.ble len a = false := by
     cases hh : Nat.ble len a with
     | false => rfl
     | true => exact absurd (Nat.le_of_ble_eq_true hh) hpn
    simp only [hk, Nat.beq_refl, hbn len (Nat.le_refl _), hnb]
    rfl
  ·have h0 := hbn 0 (Nat.le_refl _)
   refine ⟨.opz bb o p z, fun M => ?_, .inr ⟨bb, hbl, .inr (.inr ⟨by omega, _, _, rfl⟩)⟩⟩
   unfold zal
   simp only [hk, Nat.beq_refl, h0]
theorem part_cutH {hi : Int} {r : Nat × Nat} (hp : Part sv z off len s) (h : subP len 0 hi = some r) (hk : slK P t = some (.sl z)) : ∃ s', (∀ M, zal P t s none (some (.int k0 hi)) none M = .val s' M) ∧ Part sv z (off + r.1) r.2 s' := by
 obtain ⟨a, b, ha, rfl, h1, h2, rfl⟩ := zk2 h
 exact zjr hp h1 h2 (.inl ⟨rfl, by omega⟩) (.inr ⟨k0, rfl⟩) hk
theorem part_cutB {lo hi : Int} {r : Nat × Nat} (hp : Part sv z off len s) (h : subP len lo hi = some r) (hk : slK P t = some (.sl z)) : ∃ s', (∀ M, zal P t s (some (.int k0 lo)) (some (.int k1 hi)) none M = .val s' M) ∧ Part sv z (off + r.1) r.2 s' := by
 obtain ⟨a, b, rfl, rfl, h1, h2, rfl⟩ := zk2 h
 exact zjr hp h1 h2 (.inr ⟨k0, rfl⟩) (.inr ⟨k1, rfl⟩) hk
theorem ex_lenPart {x : Operand} (h : ar e x = some s) (hp : Part sv z off len s) (hk : lenK P t = some .sl) : execO P M (treeOf e) (.call ⟨.builtin .len, #[x], #[t]⟩) = .val (.int .i64 (len : Int)) M := by
 rw [zba (l := [s]) (by show (match ar e x, ars e [] with | some s, some r => some (s :: r) | _, _ => none) = _; rw [h]; rfl)]
 show ziw P t s M = _
 rcases hp with ⟨_, rfl, rfl⟩ | ⟨_, _, ⟨_, _, rfl, _⟩ | rfl | ⟨rfl, _, _, rfl⟩⟩ <;> simp [ziw, zss, hk, goI]
theorem part_place {a : Int} {o : Nat} (hH : Has F M H) (hi : H[i]? = some (.vec tt z l.length sv (l.flatMap enc))) (hp : Part sv z off len s) (ha : inP l off len a = some o) (hz : elems P t = some (.sl z)) :
  ∃ b, blk sv = [b] ∧ ∀ M', z8h P t s (.int kk a) M' = .val (.ptr b (0 + o * z)) M' := by
 obtain ⟨n, rfl, hn, rfl, _⟩ := zqt ha
 have e1 : 0 + (off + n) * z = off * z + n * z := by rw [Nat.add_mul, Nat.zero_add]
 rcases hp with ⟨_, h0, _⟩ | ⟨b, hb, hs⟩
 ·omega
 ·refine ⟨b, hb, fun M' => ?_⟩
  rcases hs with ⟨o, cap, rfl, _, ho⟩ | rfl | ⟨h0, _⟩
  ·rcases ho with rfl | ⟨h0, _⟩
   ·unfold z8h
    simp only [hz, zcw hn, e1]
    rfl
   ·omega
  ·unfold z8h
   simp only [hz, zcw hn, e1]
   rfl
  ·omega
theorem zry {n : Nat} {b : Pos} (hH : Has F M H) (hi : H[i]? = some (.vec tt z n sv c)) (hb : blk sv = [b]) : c.length = n * z ∧ Own M b (.row tt (.head 0) c) := by
 rcases hH.get hi with ⟨rfl, _⟩ | ⟨b', hsv, hc, ho⟩
 ·simp [blk] at hb
 ·have hbb : b' = b := by rcases hsv with rfl | rfl <;> (simp only [blk, List.cons.injEq, and_true] at hb; exact hb)
  subst hbb
  exact ⟨hc, ho⟩
theorem part_slc (hH : Has F M H) (hi : H[i]? = some (.vec tt z l.length sv (l.flatMap enc))) (hlen : ∀ a, (enc a).length = z) (hp : Part sv z off len s) (hl : parL l off len = some l') : Slc (rd M) z (FlatR enc) s l' := by
 obtain ⟨hle, rfl⟩ := zp8 hl
 have hl' : ((l.drop off).take len).length = len := by simp; omega
 have hlz : off * z + len * z ≤ l.length * z := by rw [← Nat.add_mul]; exact Nat.mul_le_mul_right z hle
 rcases hp with ⟨_, rfl, rfl⟩ | ⟨b, hb, hs⟩
 ·exact .inl ⟨.inl rfl, by simp⟩
 ·obtain ⟨hc, ho⟩ := zry hH hi hb
  have hel : ∀ (k : Nat) (a : α), ((l.drop off).take len)[k]? = some a → FlatR enc (((l.flatMap enc).drop (off * z + k * z)).take z) a := by
   intro k a ha
   have hk := (List.getElem?_eq_some_iff.1 ha).1
   rw [List.getElem?_take_of_lt (by omega), List.getElem?_drop] at ha
   rw [← Nat.add_mul]
   exact zd9 hlen l (off + k) a ha
  rcases hs with ⟨o, cap, rfl, hcap, ho'⟩ | rfl | ⟨rfl, o, p, rfl⟩
  ·refine .inr ⟨b, o, _, .inl ⟨cap, by rw [hl']; exact hcap, by rw [hl']⟩, ho.rd, ?_, ?_⟩
   ·rw [hc, hl']
    rcases ho' with rfl | ⟨h0, ho'⟩
    ·exact hlz
    ·rw [h0] at hlz ⊢
     omega
   ·rcases ho' with rfl | ⟨h0, ho'⟩
    ·exact hel
    ·intro k a ha
     have := (List.getElem?_eq_some_iff.1 ha).1
     omega
  ·exact .inr ⟨b, off * z, _, .inr (by rw [hl']), ho.rd, by rw [hc, hl']; exact hlz, hel⟩
  ·exact .inl ⟨.inr (.inl ⟨_, _, _, rfl⟩), by simp⟩
end
section
variable {α : Type} {F : Rd} {M : Mem} {H : List Ent} {e : Env} {i z off len : Nat} {s sv : SV} {l l' : List α} {R : List SV → α → Prop} {enc : α → List SV} {tt : TypeId} {c : List SV}
end
section
variable {α : Type} {fx : Fx} {n : Nat} {Q : SV → Mem → Prop} {e : Env} {k : List SItem} {M : Mem} {all : Array Oper} {ty : TypeId} {pos : String} {af : Array Edge} {g : Option (Nat × Bool)} {d : Option Tmp} {r tl : List Oper} {F : Rd} {H : List Ent}
theorem z9j.callX {op : Op} {f : FuncId} {xs : List SV} {R : SV → Mem → Prop} (hw : z8e all (treeOf e) ⟨d, op, ty, pos, af, g⟩ = some true) (hx : execO P (lift M) (treeOf e) op = .enter f xs (lift M)) (hd : okD d n = true) (hc : CallsM P f xs (lift M) R)
  (h : ∀ s M', R s M' → Aft (lift M) M' → z9j P fx n Q all k tl r (putE d s e) (unlift M.floor M')) : z9j P fx n Q all k tl (⟨d, op, ty, pos, af, g⟩ :: r) e M := z9j.callN hw hx hd hc h
end
end Go.Ev
