/- A part of the small machine. -/
import Derived.Test.YtajnglhkdglglaaGreatDoorEvL18
set_option linter.unusedVariables false
/- Parts of what is owned: slices of slices that the run owns, which stay good while it is written; copy; elements of short arrays at places that were asked. -/
set_option linter.unusedVariables false
namespace Go.Ev
open Go.RowKit
variable {P : Program}

/-- s is the part of an owned slice sv (elements of z cells) from off on, len long. -/
def zs7 (sv : SV) (z off len : Nat) (s : SV) : Prop :=
 (sv = .nils ∧ len = 0 ∧ s = .nils) ∨ ∃ b, blk sv = [b] ∧ ((∃ o cap, s = .slice b o len cap ∧ len ≤ cap ∧ (o = off * z ∨ len = 0 ∧ o ≤ off * z)) ∨ s = .ope b (off * z) len z ∨ (len = 0 ∧ ∃ o p, s = .opz b o p z))
/-- A part of a part: where it begins, how long it is. -/
def subP (len : Nat) (lo hi : Int) : Option (Nat × Nat) := match lo, hi with
 | .ofNat a, .ofNat b => bif decide (a ≤ b) && decide (b ≤ len) then some (a, b - a) else none
 | _, _ => none
theorem zm3 {len : Nat} {lo hi : Int} {r : Nat × Nat} (h : subP len lo hi = some r) : ∃ a b : Nat, lo = a ∧ hi = b ∧ a ≤ b ∧ b ≤ len ∧ r = (a, b - a) := by
 unfold subP at h
 split at h
 ·rename_i a b
  rcases btf (decide (a ≤ b) && decide (b ≤ len)) with hc | hc
  ·rw [hc] at h
   simp only [Bool.and_eq_true, decide_eq_true_eq] at hc
   exact ⟨a, b, rfl, rfl, hc.1, hc.2, (Option.some.inj h).symm⟩
  ·rw [hc] at h
   exact absurd h (by simp)
 ·exact absurd h (by simp)
/-- What a part holds. -/
def parL {α : Type} (l : List α) (off len : Nat) : Option (List α) := bif decide (off + len ≤ l.length) then some ((l.drop off).take len) else none
theorem zuu {α : Type} {l l' : List α} {off len : Nat} (h : parL l off len = some l') : off + len ≤ l.length ∧ l' = (l.drop off).take len := by
 unfold parL at h
 rcases btf (decide (off + len ≤ l.length)) with hc | hc
 ·exact ⟨of_decide_eq_true hc, (Option.some.inj (Tm hc h)).symm⟩
 ·exact absurd (Tn hc h) (by simp)
/-- What is copied to a part; to all. -/
def cpyP {α : Type} (l : List α) (off len : Nat) (l2 : List α) : Option (List α) := bif decide (0 < len) && decide (off + len ≤ l.length) then some (l.take off ++ (l2.take (min l2.length len) ++ l.drop (off + min l2.length len))) else none
def cpyA {α : Type} (l l2 : List α) : Option (List α) := some (l2.take (min l2.length l.length) ++ l.drop (min l2.length l.length))

theorem zz5 {lo hi : Option SV} {n p q top : Nat} (hpq : p ≤ q) (hq : q ≤ n) (hlo : lo = none ∧ p = 0 ∨ ∃ k', lo = some (.int k' (p : Int))) (hhi : hi = none ∧ q = n ∨ ∃ k', hi = some (.int k' (q : Int))) (ht : n ≤ top) : zt9 lo hi none n top = some (p, q, top) := by
 have hbl : zhh lo 0 q = some p := by
  rcases hlo with ⟨rfl, rfl⟩ | ⟨k', rfl⟩
  ·rfl
  ·have e1 : ze9 (p : Int) = some p := rfl
   simp only [zhh, e1, Nat.ble_eq_true_of_le hpq]
 have hbh : zhh hi n top = some q := by
  rcases hhi with ⟨rfl, rfl⟩ | ⟨k', rfl⟩
  ·rfl
  ·have e1 : ze9 (q : Int) = some q := rfl
   simp only [zhh, e1, Nat.ble_eq_true_of_le (Nat.le_trans hq ht)]
 have e0 : zhh none top top = some top := rfl
 simp only [zt9, e0, hbh, hbl, Nat.ble_eq_true_of_le hpq]

section
variable {α : Type} {F : Rd} {M : Mem} {H : List Ent} {e : Env} {p q : Operand} {t u tt : TypeId} {i j z off len : Nat} {s sv : SV} {l l' : List α} {enc : α → List SV} {c : List SV} {k0 k1 kk : IntKind}
theorem V6 {n : Nat} (hH : Has F M H) (hi : H[i]? = some (.vec tt z n sv c)) : zs7 sv z 0 n sv := by
 rcases hH.get hi with ⟨rfl, h0, _⟩ | ⟨b, hsv, _, _⟩
 ·exact .inl ⟨rfl, h0, rfl⟩
 ·rcases hsv with rfl | rfl
  ·exact .inr ⟨b, rfl, .inl ⟨0, n, rfl, Nat.le_refl _, .inl (by simp)⟩⟩
  ·exact .inr ⟨b, rfl, .inr (.inl (by simp))⟩
theorem zlp (hp : zs7 sv z off len s) {lo hi : Option SV} {a b : Nat} (hab : a ≤ b) (hb : b ≤ len) (hlo : lo = none ∧ a = 0 ∨ ∃ k', lo = some (.int k' (a : Int))) (hhi : hi = none ∧ b = len ∨ ∃ k', hi = some (.int k' (b : Int))) (hk : slK P t = some (.sl z)) :
  ∃ s', (∀ M, zft P t s lo hi none M = .val s' M) ∧ zs7 sv z (off + a) (b - a) s' := by
 have hbn := fun top ht => zz5 (top := top) hab hb hlo hhi ht
 rcases hp with ⟨rfl, rfl, rfl⟩ | ⟨bb, hbl, hs⟩
 ·have h0 := hbn 0 (Nat.le_refl _)
  refine ⟨.nils, fun M => ?_, .inl ⟨rfl, by omega, rfl⟩⟩
  unfold zft
  simp only [hk, h0]
 ·rcases hs with ⟨o, cap, rfl, hcap, ho⟩ | rfl | ⟨rfl, o, p, rfl⟩
  ·by_cases hcp : cap = a
   ·refine ⟨.slice bb o (b - a) (cap - a), fun M => ?_, .inr ⟨bb, hbl, .inl ⟨o, cap - a, rfl, by omega, .inr ⟨by omega, ?_⟩⟩⟩⟩
    ·unfold zft
     have hne : Nat.beq cap a = true := by rw [hcp]; exact Nat.beq_refl a
     simp only [hk, Nat.ble_eq_true_of_le hcap, hbn cap hcap, zon, hne]
     rfl
    ·have : off * z ≤ (off + a) * z := Nat.mul_le_mul_right z (Nat.le_add_right _ _)
     rcases ho with rfl | ⟨_, ho⟩
     ·exact this
     ·exact Nat.le_trans ho this
   ·refine ⟨.slice bb (o + a * z) (b - a) (cap - a), fun M => ?_, .inr ⟨bb, hbl, .inl ⟨o + a * z, cap - a, rfl, by omega, ?_⟩⟩⟩
    ·unfold zft
     have hne : Nat.beq cap a = false := by
      cases hh : Nat.beq cap a with
      | false => rfl
      | true => exact absurd (Nat.eq_of_beq_eq_true hh) hcp
     simp only [hk, Nat.ble_eq_true_of_le hcap, hbn cap hcap, zon, hne]
     rfl
    ·rcases ho with rfl | ⟨h0, ho⟩
     ·exact .inl (Nat.add_mul _ _ _).symm
     ·have : a = 0 := by omega
      subst this
      exact .inr ⟨by omega, by simpa using ho⟩
  ·by_cases hpn : len ≤ a
   ·refine ⟨.opz bb (off * z) (off * z + a * z) z, fun M => ?_, .inr ⟨bb, hbl, .inr (.inr ⟨by omega, _, _, rfl⟩)⟩⟩
    unfold zft
    simp only [hk, Nat.beq_refl, hbn len (Nat.le_refl _), Nat.ble_eq_true_of_le hpn]
    rfl
   ·refine ⟨.ope bb (off * z + a * z) (b - a) z, fun M => ?_, .inr ⟨bb, hbl, .inr (.inl (by rw [Nat.add_mul]))⟩⟩
    unfold zft
    have hnb : Nat.ble len a = false := by
     cases hh : Nat.ble len a with
     | false => rfl
     | true => exact absurd (Nat.le_of_ble_eq_true hh) hpn
    simp only [hk, Nat.beq_refl, hbn len (Nat.le_refl _), hnb]
    rfl
  ·have h0 := hbn 0 (Nat.le_refl _)
   refine ⟨.opz bb o p z, fun M => ?_, .inr ⟨bb, hbl, .inr (.inr ⟨by omega, _, _, rfl⟩)⟩⟩
   unfold zft
   simp only [hk, Nat.beq_refl, h0]
theorem part_cutH {hi : Int} {r : Nat × Nat} (hp : zs7 sv z off len s) (h : subP len 0 hi = some r) (hk : slK P t = some (.sl z)) : ∃ s', (∀ M, zft P t s none (some (.int k0 hi)) none M = .val s' M) ∧ zs7 sv z (off + r.1) r.2 s' := by
 obtain ⟨a, b, ha, rfl, h1, h2, rfl⟩ := zm3 h
 exact zlp hp h1 h2 (.inl ⟨rfl, by omega⟩) (.inr ⟨k0, rfl⟩) hk
theorem part_cutL {lo : Int} {r : Nat × Nat} (hp : zs7 sv z off len s) (h : subP len lo (len : Int) = some r) (hk : slK P t = some (.sl z)) : ∃ s', (∀ M, zft P t s (some (.int k0 lo)) none none M = .val s' M) ∧ zs7 sv z (off + r.1) r.2 s' := by
 obtain ⟨a, b, rfl, hb, h1, h2, rfl⟩ := zm3 h
 exact zlp hp h1 h2 (.inr ⟨k0, rfl⟩) (.inl ⟨rfl, by omega⟩) hk
theorem part_cutB {lo hi : Int} {r : Nat × Nat} (hp : zs7 sv z off len s) (h : subP len lo hi = some r) (hk : slK P t = some (.sl z)) : ∃ s', (∀ M, zft P t s (some (.int k0 lo)) (some (.int k1 hi)) none M = .val s' M) ∧ zs7 sv z (off + r.1) r.2 s' := by
 obtain ⟨a, b, rfl, rfl, h1, h2, rfl⟩ := zm3 h
 exact zlp hp h1 h2 (.inr ⟨k0, rfl⟩) (.inr ⟨k1, rfl⟩) hk
theorem zpw {n : Nat} {b : Pos} (hH : Has F M H) (hi : H[i]? = some (.vec tt z n sv c)) (hb : blk sv = [b]) : c.length = n * z ∧ Own M b (.row tt (.head 0) c) := by
 rcases hH.get hi with ⟨rfl, _⟩ | ⟨b', hsv, hc, ho⟩
 ·simp [blk] at hb
 ·have hbb : b' = b := by rcases hsv with rfl | rfl <;> (simp only [blk, List.cons.injEq, and_true] at hb; exact hb)
  subst hbb
  exact ⟨hc, ho⟩
theorem part_slc (hH : Has F M H) (hi : H[i]? = some (.vec tt z l.length sv (l.flatMap enc))) (hlen : ∀ a, (enc a).length = z) (hp : zs7 sv z off len s) (hl : parL l off len = some l') : Slc (rd M) z (Ta enc) s l' := by
 obtain ⟨hle, rfl⟩ := zuu hl
 have hl' : ((l.drop off).take len).length = len := by simp; omega
 have hlz : off * z + len * z ≤ l.length * z := by rw [← Nat.add_mul]; exact Nat.mul_le_mul_right z hle
 rcases hp with ⟨_, rfl, rfl⟩ | ⟨b, hb, hs⟩
 ·exact .inl ⟨.inl rfl, by simp⟩
 ·obtain ⟨hc, ho⟩ := zpw hH hi hb
  have hel : ∀ (k : Nat) (a : α), ((l.drop off).take len)[k]? = some a → Ta enc (((l.flatMap enc).drop (off * z + k * z)).take z) a := by
   intro k a ha
   have hk := (List.getElem?_eq_some_iff.1 ha).1
   rw [List.getElem?_take_of_lt (by omega), List.getElem?_drop] at ha
   rw [← Nat.add_mul]
   exact zjk hlen l (off + k) a ha
  rcases hs with ⟨o, cap, rfl, hcap, ho'⟩ | rfl | ⟨rfl, o, p, rfl⟩
  ·refine .inr ⟨b, o, _, .inl ⟨cap, by rw [hl']; exact hcap, by rw [hl']⟩, ho.rd, ?_, ?_⟩
   ·rw [hc, hl']
    rcases ho' with rfl | ⟨h0, ho'⟩
    ·exact hlz
    ·rw [h0] at hlz ⊢
     omega
   ·rcases ho' with rfl | ⟨h0, ho'⟩
    ·exact hel
    ·intro k a ha
     have := (List.getElem?_eq_some_iff.1 ha).1
     omega
  ·exact .inr ⟨b, off * z, _, .inr (by rw [hl']), ho.rd, by rw [hc, hl']; exact hlz, hel⟩
  ·exact .inl ⟨.inr (.inl ⟨_, _, _, rfl⟩), by simp⟩
theorem zse {f : Rd} (h : Slc f z (Ta enc) s l) (hf : Vt f (zen M)) (hz : ∀ a, (enc a).length = z) {k : Nat} (hk : k ≤ l.length) : ze5 M z k s = some ((l.take k).flatMap enc) := by
 rcases h with ⟨rfl | ⟨_, _, _, rfl⟩ | ⟨_, rfl⟩, rfl⟩ | ⟨b, off, c, hs, hc, hle, hel⟩
 ·simp at hk; subst hk; rfl
 ·simp at hk; subst hk; rfl
 ·simp at hk; subst hk; rfl
 ·have hr := hf b c hc
  have hkz : k * z ≤ l.length * z := Nat.mul_le_mul_right z hk
  have hkl : (l.take k).length = k := by simp; omega
  have hb : Nat.ble (Nat.add off (k * z)) (Go.Ev.len c) = true := by
   rw [zef]
   exact Nat.ble_eq_true_of_le (Nat.le_trans (Nat.add_le_add_left hkz off) hle)
  have hfl := zig (enc := enc) hz (c := c) (l.take k) off (by rw [hkl]; exact Nat.le_trans (Nat.add_le_add_left hkz off) hle) fun i a ha => hel i a (by
   have := (List.getElem?_eq_some_iff.1 ha).1
   rwa [List.getElem?_take_of_lt (by omega)] at ha)
  rw [hkl] at hfl
  rcases hs with ⟨cap, hcap, rfl⟩ | rfl
  ·unfold ze5
   simp only [hr, zh6, zgw, Nat.mul_eq, hb, hfl]
  ·unfold ze5
   simp only [hr, zh6, zgw, Nat.mul_eq, hb, hfl]
theorem zl8 (hz : ∀ a, (enc a).length = z) : ∀ (l : List α) (k : Nat), (l.take k).flatMap enc = (l.flatMap enc).take (k * z)
 | [], k => by simp
 | a :: l, 0 => by simp
 | a :: l, k + 1 => by
  rw [List.take_succ_cons, List.flatMap_cons, List.flatMap_cons, zl8 hz l k, Nat.succ_mul, show k * z + z = (enc a).length + k * z by rw [hz]; omega, List.take_length_add_append]
theorem zl6 (hz : ∀ a, (enc a).length = z) : ∀ (l : List α) (k : Nat), (l.drop k).flatMap enc = (l.flatMap enc).drop (k * z)
 | [], k => by simp
 | a :: l, 0 => by simp
 | a :: l, k + 1 => by
  rw [List.drop_succ_cons, List.flatMap_cons, zl6 hz l k, Nat.succ_mul, show k * z + z = (enc a).length + k * z by rw [hz]; omega, List.drop_length_add_append]
/-- copy, to a part or to all. -/
theorem zom {el : Elt} {d s2 : SV} {l2 : List α} {f : Rd} (hH : Has F M H) (hi : H[i]? = some (.vec tt z l.length sv (l.flatMap enc))) (hp : zs7 sv z off len d) (hok : 0 < len ∨ d = sv) (hle : off + len ≤ l.length) (hk : Jx P t = some el) (hz : el.size = z)
  (hlen : ∀ a, (enc a).length = z) (h1 : ∀ a, Zn (enc a) = true) (hs : Slc f z (Ta enc) s2 l2) (hf : Vt f (zen M)) (hw : WF M) :
  ∃ M', zqy P t d s2 M = .val (.int .i64 ((min l2.length len : Nat) : Int)) M' ∧ Aft M M' ∧ Has F M' (H.set i (.vec tt z (l.take off ++ (l2.take (min l2.length len) ++ l.drop (off + min l2.length len))).length sv ((l.take off ++ (l2.take (min l2.length len) ++ l.drop (off + min l2.length len))).flatMap enc))) := by
 have hlz := V9 (x := el) hs
 have hn : min l2.length len ≤ l2.length := Nat.min_le_left _ _
 have hnew := zse (M := M) hs hf hlen hn
 rw [← hz] at hnew
 have hmin : Nat.min l2.length len = min l2.length len := rfl
 generalize min l2.length len = n at *
 have same : n = 0 → Has F M (H.set i (.vec tt z (l.take off ++ (l2.take n ++ l.drop (off + n))).length sv ((l.take off ++ (l2.take n ++ l.drop (off + n))).flatMap enc))) := by
  rintro rfl
  rw [List.take_zero, List.nil_append, Nat.add_zero, List.take_append_drop]
  obtain ⟨hlt, he⟩ := List.getElem?_eq_some_iff.1 hi
  rw [← he, List.set_getElem_self]
  exact hH
 have put : ∀ (b : Pos) (o : Nat), blk sv = [b] → (n ≠ 0 → o = off * z) → n ≤ len → (match (some ((l2.take n).flatMap enc) : Option (List SV)) with
    | some [] => Out.val (goI n) M
    | some new => match putCells M b o new with
     | some M' => .val (goI n) M'
     | none => .bad
    | none => .bad) = (if (l2.take n).flatMap enc = [] then Out.val (goI n) M else match putCells M b o ((l2.take n).flatMap enc) with
     | some M' => .val (goI n) M'
     | none => .bad) := by
  intro b o _ _ _
  split <;> simp_all
 have fin : ∀ (b : Pos) (o : Nat), blk sv = [b] → (n ≠ 0 → o = off * z) → n ≤ len → ∃ M', (if (l2.take n).flatMap enc = [] then Out.val (goI n) M else match putCells M b o ((l2.take n).flatMap enc) with
     | some M' => .val (goI n) M'
     | none => .bad) = .val (.int .i64 ((n : Nat) : Int)) M' ∧ Aft M M' ∧ Has F M' (H.set i (.vec tt z (l.take off ++ (l2.take n ++ l.drop (off + n))).length sv ((l.take off ++ (l2.take n ++ l.drop (off + n))).flatMap enc))) := by
  intro b o hb ho hnl
  obtain ⟨hc, hown⟩ := zpw hH hi hb
  have hnl' : (l2.take n).length = n := by simp; omega
  have hcl : ((l2.take n).flatMap enc).length = n * z := by rw [ze7 hlen, hnl']
  have hkeep : (l.take off ++ (l2.take n ++ l.drop (off + n))).length = l.length := by simp; omega
  have hflat : (l.take off ++ (l2.take n ++ l.drop (off + n))).flatMap enc = (l.flatMap enc).take (off * z) ++ ((l2.take n).flatMap enc ++ (l.flatMap enc).drop (off * z + n * z)) := by
   rw [List.flatMap_append, List.flatMap_append, zl8 hlen l, zl6 hlen l, Nat.add_mul]
  by_cases h0 : (l2.take n).flatMap enc = []
  ·rw [if_pos h0]
   refine ⟨M, rfl, .refl hw, ?_⟩
   by_cases hn0 : n = 0
   ·exact same hn0
   ·-- elements of no cells
    have hz0 : z = 0 := by
     rw [h0] at hcl
     have : n * z = 0 := hcl.symm
     rcases Nat.mul_eq_zero.1 this with h | h
     ·exact absurd h hn0
     ·exact h
    have e1 : (l.take off ++ (l2.take n ++ l.drop (off + n))).flatMap enc = l.flatMap enc := by
     have hx : ∀ x : List α, x.flatMap enc = [] := fun x => List.eq_nil_of_length_eq_zero (by rw [ze7 hlen, hz0, Nat.mul_zero])
     rw [hx, hx]
    rw [e1, hkeep]
    obtain ⟨hlt, he⟩ := List.getElem?_eq_some_iff.1 hi
    rw [← he, List.set_getElem_self]
    exact hH
  ·rw [if_neg h0]
   have hn0 : n ≠ 0 := by rintro rfl; simp at h0
   have ho' := ho hn0
   subst ho'
   have hle' : off * z + n * z ≤ l.length * z := by rw [← Nat.add_mul]; exact Nat.mul_le_mul_right z (by omega)
   have hput := zfr (l := (l2.take n).flatMap enc) (off := off * z) (zz := n * z) (c' := (l.take off ++ (l2.take n ++ l.drop (off + n))).flatMap enc) hown hcl rfl (by rw [hc]; exact hle') (zkq h1 _) hflat
   rw [hput]
   refine ⟨_, rfl, hw.put hown.low hown.lt, hH.upd hi (zka hown rfl) ?_ (.inr ⟨b, ?_, by rw [ze7 hlen], ⟨Tree.get_put_same _ _ _, hown.low, hown.lt⟩⟩) fun c hc => .inl hc⟩
   ·intro c o hc'
    refine zgd c o ?_
    show c ∉ [b]
    rw [← hb]
    exact hc'
   ·rw [hkeep]
    rcases hH.get hi with ⟨rfl, _⟩ | ⟨b', hsv, _, _⟩
    ·simp [blk] at hb
    ·have hbb : b' = b := by rcases hsv with rfl | rfl <;> (simp only [blk, List.cons.injEq, and_true] at hb; exact hb)
     subst hbb
     exact hsv
 rcases hp with ⟨rfl, rfl, rfl⟩ | ⟨b, hb, hds⟩
 ·have hn0 : n = 0 := by rw [← hmin]; exact Nat.min_zero _
  refine ⟨M, ?_, .refl hw, same hn0⟩
  subst hn0
  unfold zqy
  simp only [hk, hlz]
  rfl
 ·rcases hds with ⟨o, cap, rfl, _, ho⟩ | rfl | ⟨h0, o, p, rfl⟩
  ·have hnl : n ≤ len := by rw [← hmin]; exact Nat.min_le_right _ _
   obtain ⟨M', g1, g2, g3⟩ := fin b o hb (fun hn0 => ho.resolve_right (by omega)) hnl
   refine ⟨M', ?_, g2, g3⟩
   rw [← g1, ← put b o hb (fun hn0 => ho.resolve_right (by omega)) hnl]
   unfold zqy
   simp only [hk, hlz, hmin, hnew]
   rfl
  ·have hnl : n ≤ len := by rw [← hmin]; exact Nat.min_le_right _ _
   obtain ⟨M', g1, g2, g3⟩ := fin b (off * z) hb (fun _ => rfl) hnl
   refine ⟨M', ?_, g2, g3⟩
   rw [← g1, ← put b (off * z) hb (fun _ => rfl) hnl]
   unfold zqy
   simp only [hk, hlz, hmin, hnew]
   rfl
  ·rcases hok with hok | hok
   ·omega
   ·subst hok
    rcases hH.get hi with ⟨hx, _⟩ | ⟨b', hsv, _, _⟩
    ·cases hx
    ·rcases hsv with hx | hx <;> cases hx
theorem ExG.copyP {el : Elt} {d s2 : SV} {l2 : List α} {f : Rd} (h : ar e p = some d) (h' : ar e q = some s2) (hH : Has F M H) (hi : H[i]? = some (.vec tt z l.length sv (l.flatMap enc))) (hp : zs7 sv z off len d) (hl : cpyP l off len l2 = some l') (hk : Jx P t = some el) (hz : el.size = z)
  (hlen : ∀ a, (enc a).length = z) (h1 : ∀ a, Zn (enc a) = true) (hs : Slc f z (Ta enc) s2 l2) (hf : Vt f (zen M)) :
  ExG P M e (.call ⟨.builtin .copy, #[p, q], #[t, u]⟩) fun s' M' => s' = .int .i64 ((min l2.length len : Nat) : Int) ∧ Has F M' (H.set i (.vec tt z l'.length sv (l'.flatMap enc))) := by
 intro hw
 unfold cpyP at hl
 rcases btf (decide (0 < len) && decide (off + len ≤ l.length)) with hc | hc
 ·have hl := Option.some.inj (Tm hc hl)
  subst hl
  simp only [Bool.and_eq_true, decide_eq_true_eq] at hc
  obtain ⟨M', g1, g2, g3⟩ := zom hH hi hp (.inl hc.1) hc.2 hk hz hlen h1 hs hf hw
  exact ⟨_, M', by rw [zf5 (l := [d, s2]) (by show ars e [p, q] = _; simp only [ars, h, h'])]; exact g1, g2, rfl, g3⟩
 ·exact absurd (Tn hc hl) (by simp)
theorem ExG.copyA {el : Elt} {s2 : SV} {l2 : List α} {f : Rd} (h : ar e p = some sv) (h' : ar e q = some s2) (hH : Has F M H) (hi : H[i]? = some (.vec tt z l.length sv (l.flatMap enc))) (hl : cpyA l l2 = some l') (hk : Jx P t = some el) (hz : el.size = z)
  (hlen : ∀ a, (enc a).length = z) (h1 : ∀ a, Zn (enc a) = true) (hs : Slc f z (Ta enc) s2 l2) (hf : Vt f (zen M)) :
  ExG P M e (.call ⟨.builtin .copy, #[p, q], #[t, u]⟩) fun s' M' => s' = .int .i64 ((min l2.length l.length : Nat) : Int) ∧ Has F M' (H.set i (.vec tt z l'.length sv (l'.flatMap enc))) := by
 intro hw
 cases hl
 obtain ⟨M', g1, g2, g3⟩ := zom hH hi (V6 hH hi) (.inr rfl) (by omega) hk hz hlen h1 hs hf hw
 refine ⟨_, M', by rw [zf5 (l := [sv, s2]) (by show ars e [p, q] = _; simp only [ars, h, h'])]; exact g1, g2, rfl, ?_⟩
 simpa using g3
end
section
variable {α : Type} {F : Rd} {M : Mem} {H : List Ent} {e : Env} {i z off len : Nat} {s sv : SV} {l l' : List α} {R : List SV → α → Prop} {enc : α → List SV} {tt : TypeId} {c : List SV}
end
/-- What is cleared. -/
def clrP {α : Type} (l : List α) (off len : Nat) (z0 : α) : Option (List α) := bif decide (0 < len) && decide (off + len ≤ l.length) then some (l.take off ++ (List.replicate len z0 ++ l.drop (off + len))) else none
theorem ExG.clearP {α : Type} {F : Rd} {M : Mem} {H : List Ent} {e : Env} {p : Operand} {t tt : TypeId} {i z off len : Nat} {d sv : SV} {l l' : List α} {enc : α → List SV} {z0 : α} {el : Elt} (h : ar e p = some d) (hH : Has F M H) (hi : H[i]? = some (.vec tt z l.length sv (l.flatMap enc))) (hp : zs7 sv z off len d) (hl : clrP l off len z0 = some l') (hk : Jx P t = some el) (hz : el.zero = enc z0)
  (hlen : ∀ a, (enc a).length = z) (h1 : ∀ a, Zn (enc a) = true) :
  ExG P M e (.call ⟨.builtin .clear, #[p], #[t]⟩) fun s' M' => s' = .tuple [] ∧ Has F M' (H.set i (.vec tt z l'.length sv (l'.flatMap enc))) := by
 intro hw
 unfold clrP at hl
 rcases btf (decide (0 < len) && decide (off + len ≤ l.length)) with hc | hc
 ·have hl := Option.some.inj (Tm hc hl)
  subst hl
  simp only [Bool.and_eq_true, decide_eq_true_eq] at hc
  obtain ⟨hpos, hle⟩ := hc
  have hx : Qy P M (treeOf e) (.call ⟨.builtin .clear, #[p], #[t]⟩) = zn2 P t d M := by
   rw [zf5 (l := [d]) (by show ars e [p] = _; simp only [ars, h])]
   rfl
  obtain ⟨k, rfl⟩ : ∃ k, len = k + 1 := ⟨len - 1, by omega⟩
  have hkeep : (l.take off ++ (List.replicate (k + 1) z0 ++ l.drop (off + (k + 1)))).length = l.length := by simp; omega
  have fin : ∀ b, blk sv = [b] → ∃ s' M', (match putCells M b (off * z) (rep (k + 1) el.zero) with
     | some M' => Out.val (.tuple []) M'
     | none => .bad) = .val s' M' ∧ Aft M M' ∧ s' = .tuple [] ∧ Has F M' (H.set i (.vec tt z (l.take off ++ (List.replicate (k + 1) z0 ++ l.drop (off + (k + 1)))).length sv ((l.take off ++ (List.replicate (k + 1) z0 ++ l.drop (off + (k + 1)))).flatMap enc))) := by
   intro b hb
   obtain ⟨hcl, hown⟩ := zpw hH hi hb
   have hflat : (l.take off ++ (List.replicate (k + 1) z0 ++ l.drop (off + (k + 1)))).flatMap enc = (l.flatMap enc).take (off * z) ++ ((List.replicate (k + 1) z0).flatMap enc ++ (l.flatMap enc).drop (off * z + (k + 1) * z)) := by
    rw [List.flatMap_append, List.flatMap_append, zl8 hlen l, zl6 hlen l, Nat.add_mul]
   have hle' : off * z + (k + 1) * z ≤ l.length * z := by rw [← Nat.add_mul]; exact Nat.mul_le_mul_right z hle
   have hput := zfr (l := (List.replicate (k + 1) z0).flatMap enc) (off := off * z) (zz := (k + 1) * z) (c' := (l.take off ++ (List.replicate (k + 1) z0 ++ l.drop (off + (k + 1)))).flatMap enc) hown (by rw [ze7 hlen, List.length_replicate]) rfl (by rw [hcl]; exact hle') (zkq h1 _) hflat
   rw [zny hz, hput]
   refine ⟨_, _, rfl, hw.put hown.low hown.lt, rfl, hH.upd hi (zka hown rfl) ?_ (.inr ⟨b, ?_, by rw [ze7 hlen], ⟨Tree.get_put_same _ _ _, hown.low, hown.lt⟩⟩) fun c hc => .inl hc⟩
   ·intro c o hc'
    refine zgd c o ?_
    show c ∉ [b]
    rw [← hb]
    exact hc'
   ·rw [hkeep]
    rcases hH.get hi with ⟨rfl, _⟩ | ⟨b', hsv, _, _⟩
    ·simp [blk] at hb
    ·have hbb : b' = b := by rcases hsv with rfl | rfl <;> (simp only [blk, List.cons.injEq, and_true] at hb; exact hb)
     subst hbb
     exact hsv
  rcases hp with ⟨_, h0, _⟩ | ⟨b, hb, hs⟩
  ·omega
  ·obtain ⟨s', M', g1, g2, g3, g4⟩ := fin b hb
   refine ⟨s', M', ?_, g2, g3, g4⟩
   rw [hx, ← g1]
   rcases hs with ⟨o, cap, rfl, _, ho⟩ | rfl | ⟨h0, _⟩
   ·obtain rfl := ho.resolve_right (by omega)
    unfold zn2
    simp only [hk]
    rfl
   ·unfold zn2
    simp only [hk]
    rfl
   ·omega
 ·exact absurd (Tn hc hl) (by simp)
section
variable {α : Type} {fx : Fx} {n : Nat} {Q : SV → Mem → Prop} {e : Env} {k : List SItem} {M : Mem} {all : Array Oper} {ty : TypeId} {pos : String} {af : Array Edge} {g : Option (Nat × Bool)} {d : Option Tmp} {r tl : List Oper} {F : Rd} {H : List Ent}
end
/-- A place that was asked for. -/
theorem Gf {k q : Int} {n j : Nat} (h : (k == q) = true) (hq : q = (j : Int)) (hj : Nat.ble (j + 1) n = true) : znt k n = some j := by
 have : k = (j : Int) := by rw [← hq]; exact eq_of_beq h
 subst this
 show Bool.rec none (some j) (Nat.ble (Nat.succ j) n) = some j
 rw [show Nat.ble (Nat.succ j) n = true from hj]
end Go.Ev

