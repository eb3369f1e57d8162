/- A part of the small machine. -/
import Derived.Test.YtodkhehadlkbiaaGreatDoorEvR3
/- Branches, slices, what a call has made. -/
namespace Go.Ev
open Go.RowKit
variable {P : Program}

/- PLAIN WORDS -/
theorem btf (b : Bool) : b = true ∨ b = false := by cases b <;> simp
def bnd {α β : Type} (x : Option α) (f : α → Option β) : Option β := match x with
  | some a => f a
  | none => none
theorem bnd_some {α β : Type} {x : Option α} {f : α → Option β} {r : β} (h : bnd x f = some r) : ∃ a, x = some a ∧ f a = some r := by
  cases x with
  | none => simp [bnd] at h
  | some a => exact ⟨a, rfl, h⟩
theorem bif_t {α : Type} {b : Bool} {x y : α} {r : α} (hb : b = true) (h : (bif b then x else y) = r) : x = r := by subst hb; exact h
theorem bif_f {α : Type} {b : Bool} {x y : α} {r : α} (hb : b = false) (h : (bif b then x else y) = r) : y = r := by subst hb; exact h
abbrev w64 (n : Int) : Int := IntKind.wrap .i64 n
/-- The elements from lo on, before hi. -/
def sub {α : Type} (l : List α) (lo hi : Int) : Option (List α) := match lo, hi with
  | .ofNat a, .ofNat b => bif decide (a < b) && decide (b ≤ l.length) then some ((l.take b).drop a) else none
  | _, _ => none
theorem sub_some {α : Type} {l l' : List α} {lo hi : Int} (h : sub l lo hi = some l') : ∃ a b : Nat, lo = a ∧ hi = b ∧ a < b ∧ b ≤ l.length ∧ l' = (l.take b).drop a := by
  unfold sub at h
  split at h
  · rename_i a b
    rcases btf (decide (a < b) && decide (b ≤ l.length)) with hc | hc
    · rw [hc] at h
      simp only [Bool.and_eq_true, decide_eq_true_eq] at hc
      exact ⟨a, b, rfl, rfl, hc.1, hc.2, (Option.some.inj h).symm⟩
    · rw [hc] at h
      exact absurd h (by simp)
  · simp at h
def mk {α : Type} (n : Int) (bytes : Nat) (z : α) : Option (List α) := match n with
  | .ofNat j => bif Nat.ble j 1073741824 && Nat.ble (j * bytes) 281474976710656 then some (List.replicate j z) else none
  | .negSucc _ => none
theorem mk_some {α : Type} {n : Int} {bytes : Nat} {z : α} {l : List α} (h : mk n bytes z = some l) : ∃ j : Nat, n = j ∧ j ≤ 1073741824 ∧ j * bytes ≤ 281474976710656 ∧ l = List.replicate j z := by
  cases n with
  | ofNat j =>
    rcases btf (Nat.ble j 1073741824 && Nat.ble (j * bytes) 281474976710656) with hc | hc
    · have h' := bif_t hc h
      rw [Bool.and_eq_true] at hc
      exact ⟨j, rfl, Nat.le_of_ble_eq_true hc.1, Nat.le_of_ble_eq_true hc.2, (Option.some.inj h').symm⟩
    · have h' := bif_f hc h
      simp at h'
  | negSucc j => simp [mk] at h
def upd {α : Type} (l : List α) (j : Int) (a : α) : Option (List α) := match j with
  | .ofNat i => bif Nat.blt i l.length then some (l.set i a) else none
  | .negSucc _ => none
theorem upd_some {α : Type} {l l' : List α} {j : Int} {a : α} (h : upd l j a = some l') : ∃ i : Nat, j = i ∧ i < l.length ∧ l' = l.set i a := by
  cases j with
  | ofNat i =>
    rcases btf (Nat.blt i l.length) with hc | hc
    · exact ⟨i, rfl, Nat.le_of_ble_eq_true hc, (Option.some.inj (bif_t hc h)).symm⟩
    · exact absurd (bif_f hc h) (by simp)
  | negSucc i => simp [upd] at h
/-- Is j the place of an element? -/
def inn {α : Type} (l : List α) (j : Int) : Option Nat := match j with
  | .ofNat i => bif Nat.blt i l.length then some i else none
  | .negSucc _ => none
theorem inn_some {α : Type} {l : List α} {j : Int} {i : Nat} (h : inn l j = some i) : j = i ∧ i < l.length := by
  cases j with
  | ofNat q =>
    rcases btf (Nat.blt q l.length) with hc | hc
    · have := Option.some.inj (bif_t hc h)
      subst this
      exact ⟨rfl, Nat.le_of_ble_eq_true hc⟩
    · exact absurd (bif_f hc h) (by simp)
  | negSucc i => simp [inn] at h
/-- l, and then l'. -/
def apd {α : Type} (bytes : Nat) (l l' : List α) : Option (List α) :=
  bif Nat.ble (l.length + l'.length) 1073741824 && Nat.ble (2 * (l.length + l'.length) * bytes) 281474976710656 then some (l ++ l') else none
theorem apd_some {α : Type} {bytes : Nat} {l l' r : List α} (h : apd bytes l l' = some r) : l.length + l'.length ≤ 1073741824 ∧ 2 * (l.length + l'.length) * bytes ≤ 281474976710656 ∧ r = l ++ l' := by
  rcases btf (Nat.ble (l.length + l'.length) 1073741824 && Nat.ble (2 * (l.length + l'.length) * bytes) 281474976710656) with hc | hc
  · have h' := bif_t hc h
    rw [Bool.and_eq_true] at hc
    exact ⟨Nat.le_of_ble_eq_true hc.1, Nat.le_of_ble_eq_true hc.2, (Option.some.inj h').symm⟩
  · exact absurd (bif_f hc h) (by simp)
/-- A shift's number. -/
def shn (j : Int) : Option Nat := match j with
  | .ofNat i => some i
  | .negSucc _ => none
theorem shn_some {j : Int} {i : Nat} (h : shn j = some i) : j = i := by
  cases j with
  | ofNat q => simp only [shn, Option.some.injEq] at h; subst h; rfl
  | negSucc q => simp [shn] at h
def nz (b : Int) : Option Int := bif b == 0 then none else some b
theorem nz_some {b c : Int} (h : nz b = some c) : c = b ∧ b ≠ 0 := by
  rcases btf (b == 0) with hc | hc
  · exact absurd (bif_t hc h) (by simp)
  · exact ⟨(Option.some.inj (bif_f hc h)).symm, by simpa using hc⟩

theorem flatm_len {α : Type} {z : Nat} {enc : α → List SV} (hz : ∀ a, (enc a).length = z) : ∀ l : List α, (l.flatMap enc).length = l.length * z
  | [] => by simp
  | a :: l => by simp [hz, flatm_len hz l, Nat.succ_mul]; omega
theorem flat_at {α : Type} {z : Nat} {enc : α → List SV} (hz : ∀ a, (enc a).length = z) : ∀ (l : List α) (i : Nat) (a : α), l[i]? = some a → ((l.flatMap enc).drop (i * z)).take z = enc a
  | [], i, a, h => by simp at h
  | b :: l, 0, a, h => by
    simp only [List.getElem?_cons_zero, Option.some.injEq] at h
    subst h
    simp [List.flatMap_cons, hz]
  | b :: l, i + 1, a, h => by
    have ih := flat_at hz l i a (by simpa using h)
    rw [List.flatMap_cons, Nat.succ_mul, List.drop_append, hz, List.drop_of_length_le (by rw [hz]; omega), List.nil_append, show i * z + z - z = i * z by omega]
    exact ih
theorem flat_set {α : Type} {z : Nat} {enc : α → List SV} (hz : ∀ a, (enc a).length = z) : ∀ (l : List α) (i : Nat) (a : α), i < l.length → (l.set i a).flatMap enc = (l.flatMap enc).take (i * z) ++ (enc a ++ (l.flatMap enc).drop (i * z + z))
  | [], i, a, h => by simp at h
  | b :: l, 0, a, h => by
    simp only [List.set_cons_zero, List.flatMap_cons, Nat.zero_mul, List.take_zero, List.nil_append, Nat.zero_add]
    rw [List.drop_append, List.drop_of_length_le (by rw [hz]; exact Nat.le_refl _), hz]
    simp
  | b :: l, i + 1, a, h => by
    have ih := flat_set hz l i a (by simpa using h)
    have e1 : (i + 1) * z = (enc b).length + i * z := by rw [Nat.succ_mul, hz]; omega
    have e2 : (enc b).length + i * z + z = (enc b).length + (i * z + z) := by omega
    simp only [List.set_cons_succ, List.flatMap_cons]
    rw [ih, e1, e2, List.take_length_add_append, List.drop_length_add_append, List.append_assoc]
theorem rep_flat {α : Type} {enc : α → List SV} {zero : List SV} {a : α} (h : zero = enc a) : ∀ n : Nat, rep n zero = (List.replicate n a).flatMap enc
  | 0 => rfl
  | n + 1 => by
    show app zero (rep n zero) = _
    rw [app_eq, rep_flat h n, List.replicate_succ, List.flatMap_cons, h]

section
variable {B : Nat} {fn : FuncId} {n : Nat} {Q : SV → Mem → Prop} {e : Env} {k : List SItem} {M : Mem}

theorem Run.condT' {x : Operand} {a b : Code} {c : Bool} (h : ar e x = some (.bool c)) (hc : c = true) (next : Run P B fn n Q e (.code a :: k) M) : Run P B fn n Q e (.code (.cond x a b) :: k) M := by subst hc; exact Run.condT h next
theorem Run.condF' {x : Operand} {a b : Code} {c : Bool} (h : ar e x = some (.bool c)) (hc : c = false) (next : Run P B fn n Q e (.code b :: k) M) : Run P B fn n Q e (.code (.cond x a b) :: k) M := by subst hc; exact Run.condF h next
theorem wantS_yes' {all : Array Oper} {d : Option Tmp} {op : Op} {ty : TypeId} {pos : String} {af : Array Edge} {j : Nat} {want c : Bool} {t : Tmp} (h : (all[j]?).bind (·.dst) = some t) (hb : lk t e = some (.bool c)) (hc : c = want) :
    wantS all (treeOf e) ⟨d, op, ty, pos, af, some (j, want)⟩ = some true := by subst hc; exact wantS_yes h hb
theorem wantS_not' {all : Array Oper} {d : Option Tmp} {op : Op} {ty : TypeId} {pos : String} {af : Array Edge} {j : Nat} {want c : Bool} {t : Tmp} (h : (all[j]?).bind (·.dst) = some t) (hb : lk t e = some (.bool c)) (hc : c = !want) :
    wantS all (treeOf e) ⟨d, op, ty, pos, af, some (j, want)⟩ = some false := by subst hc; exact wantS_not h hb (by cases want <;> rfl)
variable {t u : TypeId} {x y : Operand} {kk : IntKind} {a b : Int}
theorem ex_pickT' {z : Operand} {c : Bool} {s s' : SV} (hx : ar e x = some (.bool c)) (hc : c = true) (h : ar e y = some s) (h' : ar e z = some s') : execO P M (treeOf e) (.pick x y z) = .val s M := by subst hc; exact ex_pickT hx h h'
theorem ex_pickF' {z : Operand} {c : Bool} {s s' : SV} (hx : ar e x = some (.bool c)) (hc : c = false) (h : ar e y = some s) (h' : ar e z = some s') : execO P M (treeOf e) (.pick x y z) = .val s' M := by subst hc; exact ex_pickF hx h h'
theorem ex_quo' {c : Int} (h : ar e x = some (.int kk a)) (h' : ar e y = some (.int kk b)) (hb : nz b = some c) : execO P M (treeOf e) (.binOp .quo t x y u) = .val (.int kk (kk.wrap (a.tdiv b))) M := ex_quo h h' (nz_some hb).2
theorem ex_rem' {c : Int} (h : ar e x = some (.int kk a)) (h' : ar e y = some (.int kk b)) (hb : nz b = some c) : execO P M (treeOf e) (.binOp .rem t x y u) = .val (.int kk (a.tmod b)) M := ex_rem h h' (nz_some hb).2
theorem ex_shl' {kj : IntKind} {j : Nat} {jj : Int} (h : ar e x = some (.int kk a)) (h' : ar e y = some (.int kj jj)) (hj : shn jj = some j) : execO P M (treeOf e) (.binOp .shl t x y u) = .val (.int kk (kk.wrap (a * 2 ^ (min j kk.bits)))) M := by
  obtain rfl := shn_some hj
  exact ex_shl h h'
theorem ex_shr' {kj : IntKind} {j : Nat} {jj : Int} (h : ar e x = some (.int kk a)) (h' : ar e y = some (.int kj jj)) (hj : shn jj = some j) : execO P M (treeOf e) (.binOp .shr t x y u) = .val (.int kk (a.fdiv (2 ^ (min j kk.bits)))) M := by
  obtain rfl := shn_some hj
  exact ex_shr h h'

theorem slc_nil {α : Type} {f : Rd} {z : Nat} {R : List SV → α → Prop} : Slc f z R .nils [] := .inl ⟨rfl, rfl⟩

/-- Parts of slices. -/
theorem xSlice_sub {α : Type} {f : Rd} {z : Nat} {R : List SV → α → Prop} {s : SV} {l : List α} (hs : Slc f z R s l) {lo hi : Option SV} {p q : Nat} (hpq : p < q) (hq : q ≤ l.length)
    (hlo : lo = none ∧ p = 0 ∨ ∃ k', lo = some (.int k' (p : Int))) (hhi : hi = none ∧ q = l.length ∨ ∃ k', hi = some (.int k' (q : Int))) (hk : slK P t = some (.sl z)) :
    ∃ s', xSlice P t s lo hi none M = .val s' M ∧ Slc f z R s' ((l.take q).drop p) := by
  have hbl : ∀ top, q ≤ top → boundS lo 0 q = some p := by
    intro top _
    rcases hlo with ⟨rfl, rfl⟩ | ⟨k', rfl⟩
    · rfl
    · have e1 : intNat (p : Int) = some p := rfl
      simp only [boundS, e1, Nat.ble_eq_true_of_le (Nat.le_of_lt hpq)]
  have hbh : ∀ top, l.length ≤ top → boundS hi l.length top = some q := by
    intro top ht
    rcases hhi with ⟨rfl, rfl⟩ | ⟨k', rfl⟩
    · rfl
    · have e1 : intNat (q : Int) = some q := rfl
      simp only [boundS, e1, Nat.ble_eq_true_of_le (Nat.le_trans hq ht)]
  have hb : ∀ top, l.length ≤ top → bnds lo hi none l.length top = some (p, q, top) := by
    intro top ht
    have e0 : boundS none top top = some top := rfl
    simp only [bnds, e0, hbh top ht, hbl top (by omega), Nat.ble_eq_true_of_le (Nat.le_of_lt hpq)]
  have hlen : ((l.take q).drop p).length = q - p := by simp; omega
  have hget : ∀ (i : Nat) (el : α), ((l.take q).drop p)[i]? = some el → l[p + i]? = some el := by
    intro i el h
    rw [List.getElem?_drop, List.getElem?_take] at h
    split at h
    · exact h
    · simp at h
  rcases hs with ⟨rfl, rfl⟩ | ⟨bb, off, c, hs, h2, h3, h4⟩
  · simp at hq; omega
  · have hz1 : q * z ≤ l.length * z := Nat.mul_le_mul_right z hq
    have hz2 : p * z + (q - p) * z = q * z := by rw [← Nat.add_mul, Nat.add_sub_cancel' (Nat.le_of_lt hpq)]
    have key : ∀ i el, ((l.take q).drop p)[i]? = some el → R ((c.drop (off + p * z + i * z)).take z) el := by
      intro i el h
      have := h4 (p + i) el (hget i el h)
      rwa [Nat.add_mul, ← Nat.add_assoc] at this
    rcases hs with ⟨cap, hcap, rfl⟩ | rfl
    · have g1 : ((l.take q).drop p).length ≤ cap - p := by rw [hlen]; exact Nat.sub_le_sub_right (Nat.le_trans hq hcap) p
      have g2 : off + p * z + ((l.take q).drop p).length * z ≤ c.length := by rw [hlen, Nat.add_assoc, hz2]; exact Nat.le_trans (Nat.add_le_add_left hz1 off) h3
      refine ⟨.slice bb (off + p * z) (q - p) (cap - p), ?_, .inr ⟨bb, off + p * z, c, .inl ⟨cap - p, g1, by rw [hlen]⟩, h2, g2, key⟩⟩
      unfold xSlice
      have hne : Nat.beq cap p = false := by
        cases hh : Nat.beq cap p with
        | false => rfl
        | true => have := Nat.eq_of_beq_eq_true hh; omega
      simp only [hk, Nat.ble_eq_true_of_le hcap, hb cap hcap, cutAt, hne]
      rfl
    · have g2 : off + p * z + ((l.take q).drop p).length * z ≤ c.length := by rw [hlen, Nat.add_assoc, hz2]; exact Nat.le_trans (Nat.add_le_add_left hz1 off) h3
      refine ⟨.ope bb (off + p * z) (q - p) z, ?_, .inr ⟨bb, off + p * z, c, .inr (by rw [hlen]), h2, g2, key⟩⟩
      unfold xSlice
      have hnb : Nat.ble l.length p = false := by
        cases hh : Nat.ble l.length p with
        | false => rfl
        | true => have := Nat.le_of_ble_eq_true hh; omega
      simp only [hk, Nat.beq_refl, hb l.length (Nat.le_refl _), hnb]
      rfl

theorem argO_some {y : Operand} {s : SV} (h : ar e y = some s) (M : Mem) : argO M (treeOf e) (some y) = some (some s) := by
  show (match arg M (treeOf e) y with | some s => some (some s) | none => none : Option (Option SV)) = _
  rw [ar_arg h M]

theorem ex_sub_hi {α : Type} {f : Rd} {z : Nat} {R : List SV → α → Prop} {s : SV} {l l' : List α} {hi : Int} (h : ar e x = some s) (h' : ar e y = some (.int kk hi)) (hs : Slc f z R s l) (hl : sub l 0 hi = some l') (hk : slK P t = some (.sl z)) :
    ∃ s', execO P M (treeOf e) (.slice t x none (some y) none) = .val s' M ∧ Slc f z R s' l' := by
  obtain ⟨p, q, hp, rfl, hpq, hq, rfl⟩ := sub_some hl
  have hp0 : p = 0 := by omega
  obtain ⟨s', h1, h2⟩ := xSlice_sub (P := P) (M := M) (t := t) hs (lo := none) (hi := some (.int kk (q : Int))) hpq hq (.inl ⟨rfl, hp0⟩) (.inr ⟨kk, rfl⟩) hk
  refine ⟨s', ?_, h2⟩
  show eSlice P M (treeOf e) t x none (some y) none = _
  unfold eSlice
  rw [ar_arg h]
  have e1 : argO M (treeOf e) (some y) = some (some (.int kk (q : Int))) := argO_some h' M
  rw [e1]
  exact h1
theorem ex_sub_lo {α : Type} {f : Rd} {z : Nat} {R : List SV → α → Prop} {s : SV} {l l' : List α} {lo : Int} (h : ar e x = some s) (h' : ar e y = some (.int kk lo)) (hs : Slc f z R s l) (hl : sub l lo l.length = some l') (hk : slK P t = some (.sl z)) :
    ∃ s', execO P M (treeOf e) (.slice t x (some y) none none) = .val s' M ∧ Slc f z R s' l' := by
  obtain ⟨p, q, rfl, hq', hpq, hq, rfl⟩ := sub_some hl
  have hq2 : q = l.length := by omega
  obtain ⟨s', h1, h2⟩ := xSlice_sub (P := P) (M := M) (t := t) hs (lo := some (.int kk (p : Int))) (hi := none) hpq hq (.inr ⟨kk, rfl⟩) (.inl ⟨rfl, hq2⟩) hk
  refine ⟨s', ?_, h2⟩
  show eSlice P M (treeOf e) t x (some y) none none = _
  unfold eSlice
  rw [ar_arg h]
  have e1 : argO M (treeOf e) (some y) = some (some (.int kk (p : Int))) := argO_some h' M
  rw [e1]
  exact h1
theorem ex_sub_both {α : Type} {f : Rd} {z : Nat} {R : List SV → α → Prop} {s : SV} {l l' : List α} {lo hi : Int} {y' : Operand} {kk' : IntKind} (h : ar e x = some s) (h' : ar e y = some (.int kk lo)) (h'' : ar e y' = some (.int kk' hi)) (hs : Slc f z R s l) (hl : sub l lo hi = some l') (hk : slK P t = some (.sl z)) :
    ∃ s', execO P M (treeOf e) (.slice t x (some y) (some y') none) = .val s' M ∧ Slc f z R s' l' := by
  obtain ⟨p, q, rfl, rfl, hpq, hq, rfl⟩ := sub_some hl
  obtain ⟨s', h1, h2⟩ := xSlice_sub (P := P) (M := M) (t := t) hs (lo := some (.int kk (p : Int))) (hi := some (.int kk' (q : Int))) hpq hq (.inr ⟨kk, rfl⟩) (.inr ⟨kk', rfl⟩) hk
  refine ⟨s', ?_, h2⟩
  show eSlice P M (treeOf e) t x (some y) (some y') none = _
  unfold eSlice
  rw [ar_arg h]
  have e1 : argO M (treeOf e) (some y) = some (some (.int kk (p : Int))) := argO_some h' M
  have e2 : argO M (treeOf e) (some y') = some (some (.int kk' (q : Int))) := argO_some h'' M
  rw [e1, e2]
  exact h1

/-- A new slice, of zeros. -/
theorem ex_make {j : Nat} {kk' : IntKind} {el : Elt} (h : ar e x = some (.int kk (j : Int))) (h' : ar e y = some (.int kk' (j : Int))) (hx : sliceElt P t = some el) (h1 : j ≤ 1073741824) (h2 : j * el.bytes ≤ 281474976710656) :
    execO P M (treeOf e) (.makeSlice t x y) = .val (.slice (nextOf M) 0 j j) (newRowS el.ty (.head 0) M (rep j el.zero)) := by
  show eMakeS P M (treeOf e) t x y = _
  unfold eMakeS
  rw [ar_arg h, ar_arg h']
  show xMake P t (.int kk (j : Int)) (.int kk' (j : Int)) M = _
  unfold xMake
  have e1 : intNat (j : Int) = some j := rfl
  have e2 : Nat.ble (Nat.mul j el.bytes) 281474976710656 = true := Nat.ble_eq_true_of_le h2
  simp only [e1, hx, Nat.ble_eq_true_of_le (Nat.le_refl j), Nat.ble_eq_true_of_le h1, e2]

noncomputable def pars (e : Env) : List (Nat × Operand) → Option (List (Nat × SV))
  | [] => some []
  | (i, x) :: l => match ar e x, pars e l with
    | some s, some r => some ((i, s) :: r)
    | _, _ => none
theorem pars_args : ∀ {l : List (Nat × Operand)} {r : List (Nat × SV)}, pars e l = some r → ∀ M, partArgs M (treeOf e) l = some r
  | [], r, h, M => h
  | (i, x) :: l, r, h, M => by
    unfold pars at h
    split at h
    · rename_i s r' hs hr
      simp only [Option.some.injEq] at h
      subst h
      simp only [partArgs, ar_arg hs, pars_args hr M]
    · simp at h
theorem ex_build {ps : Array (Nat × Operand)} {l : List (Nat × SV)} {z r : List SV} {pl : List (Nat × Nat)} (h : pars e ps.toList = some l) (hz : zerosOf P t = some z) (hp : placesOf P t = some (.st pl)) (hf : fillS (placeAt pl) z l = some r) :
    execO P M (treeOf e) (.build t ps) = .val (.agg r) M := by
  show eBuild P M (treeOf e) t ps = _
  unfold eBuild
  rw [pars_args h M]
  show xBuild P t l M = _
  unfold xBuild
  simp only [hz, hp, hf]
theorem ex_buildSlice {ps : Array (Nat × Operand)} {l : List (Nat × SV)} {r : List SV} {j : Nat} {el : Elt} (h : pars e ps.toList = some l) (hx : sliceElt P t = some el) (hj : Nat.ble (j * el.size) 16777216 = true) (hf : fillS (fun i => some (Nat.mul i el.size, el.size)) (rep j el.zero) l = some r) :
    execO P M (treeOf e) (.buildSlice t j ps) = .val (.slice (nextOf M) 0 j j) (newRowS el.ty (.head 0) M r) := by
  show eBuildS P M (treeOf e) t j ps = _
  unfold eBuildS
  rw [pars_args h M]
  show xBuildSlice P t j l M = _
  unfold xBuildSlice
  have hj' : Nat.ble (Nat.mul j el.size) 16777216 = true := hj
  simp only [hx, hj', hf]

/-- An element of a slice of the call's own, by address. -/
theorem ex_elemOwn {z off j cap i : Nat} {bb : Pos} (h : ar e x = some (.slice bb off j cap)) (h' : ar e y = some (.int kk (i : Int))) (hi : i < j) (hz : elems P t = some (.sl z)) : execO P M (treeOf e) (.indexAddr t x y) = .val (.ptr bb (off + i * z)) M := by
  show eIndexA P M (treeOf e) t x y = _
  unfold eIndexA
  rw [ar_arg h, ar_arg h']
  show xIndexAddr P t (.slice bb off j cap) (.int kk (i : Int)) M = _
  unfold xIndexAddr
  have hn : natIn (i : Int) j = some i := by
    show Bool.rec none (some i) (Nat.ble (Nat.succ i) j) = some i
    rw [show Nat.ble (Nat.succ i) j = true from Nat.ble_eq_true_of_le hi]
  simp only [hz, hn]
  rfl

/-- A slice that grows: of the call's own, in no row of av. -/
def App {α : Type} (M : Mem) (av : List Pos) (tt : TypeId) (z : Nat) (enc : α → List SV) (s : SV) (l : List α) : Prop :=
  (∀ b ∈ av, b.num < M.next.num) ∧ ((s = .nils ∧ l = []) ∨ ∃ b, s = .ope b 0 l.length z ∧ Own M b tt (.head 0) (l.flatMap enc) ∧ b ∉ av)
section
variable {α : Type} {M M' : Mem} {av : List Pos} {tt : TypeId} {z : Nat} {enc : α → List SV} {s : SV} {l : List α}
theorem App.le (h : App M av tt z enc s l) (hM : MemLe M M') : App M' av tt z enc s l := by
  obtain ⟨h0, h⟩ := h
  refine ⟨fun b hb => Nat.lt_of_lt_of_le (h0 b hb) hM.next, ?_⟩
  rcases h with h | ⟨b, h1, h2, h3⟩
  · exact .inl h
  · exact .inr ⟨b, h1, hM.own _ _ _ _ h2, h3⟩
theorem App.new (h : App M av tt z enc s l) (hM : MemLe M M') {b' : Pos} {t' : TypeId} {kk' : RK} {c' : List SV} (hb : M.next.num ≤ b'.num) (ho : Own M' b' t' kk' c') : App M' (b' :: av) tt z enc s l := by
  obtain ⟨h0, h⟩ := h.le hM
  refine ⟨fun b hb => ?_, ?_⟩
  · rcases List.mem_cons.1 hb with rfl | hb
    · exact ho.lt
    · exact h0 b hb
  rename_i hh
  rcases hh.2 with ⟨h1, h2⟩ | ⟨b, h1, h2, h3⟩
  · exact .inl ⟨h1, h2⟩
  · refine .inr ⟨b, h1, hM.own _ _ _ _ h2, ?_⟩
    simp only [List.mem_cons, not_or]
    exact ⟨fun he => by subst he; have := h2.lt; omega, h3⟩
theorem App.store (h : App M av tt z enc s l) {bb : Pos} (hb : bb ∈ av) (hM : RoLe M M') (ho : ∀ b t kk c, b ≠ bb → Own M b t kk c → Own M' b t kk c) : App M' av tt z enc s l := by
  obtain ⟨h0, h⟩ := h
  refine ⟨fun b hb => Nat.lt_of_lt_of_le (h0 b hb) hM.next, ?_⟩
  rcases h with h | ⟨b, h1, h2, h3⟩
  · exact .inl h
  · exact .inr ⟨b, h1, ho _ _ _ _ (fun he => by subst he; exact h3 hb) h2, h3⟩
theorem App.less {av' : List Pos} (h : App M av tt z enc s l) (hv : ∀ b ∈ av', b ∈ av) : App M av' tt z enc s l := by
  obtain ⟨h0, h⟩ := h
  refine ⟨fun b hb => h0 b (hv b hb), ?_⟩
  rcases h with h | ⟨b, h1, h2, h3⟩
  · exact .inl h
  · exact .inr ⟨b, h1, h2, fun hb => h3 (hv b hb)⟩
theorem App.nil : App M [] tt z enc .nils ([] : List α) := ⟨fun _ h => by simp at h, .inl ⟨rfl, rfl⟩⟩
end

theorem ones_enc {α : Type} {enc : α → List SV} (h1 : ∀ a, ones (enc a) = true) : ∀ l : List α, ones (l.flatMap enc) = true
  | [] => rfl
  | a :: l => by
    have happ : ∀ (p q : List SV), ones p = true → ones q = true → ones (p ++ q) = true := by
      intro p
      induction p with
      | nil => intro q _ h; exact h
      | cons x p ih =>
        intro q hp hq
        have hp' : Bool.rec (motive := fun _ => Bool) false (ones p) (one x) = true := hp
        show Bool.rec (motive := fun _ => Bool) false (ones (p ++ q)) (one x) = true
        cases hx : one x with
        | false => rw [hx] at hp'; exact absurd hp' (by simp)
        | true => rw [hx] at hp'; exact ih q hp' hq
    rw [List.flatMap_cons]
    exact happ _ _ (h1 a) (ones_enc h1 l)

theorem xAppend_nil0 {el : Elt} {s2 : SV} {new : List SV} (hx : appT P t u = some el) (hl : lenZ el s2 = some 0) (hn : firstS M el.size 0 s2 = some new) : xAppend P t u .nils s2 M = .val .nils M := by
  unfold xAppend
  simp only [hx, hl, hn]
theorem xAppend_nilS {el : Elt} {s2 : SV} {j : Nat} {new : List SV} (hx : appT P t u = some el) (hl : lenZ el s2 = some (j + 1)) (hn : firstS M el.size (j + 1) s2 = some new) : xAppend P t u .nils s2 M = grow (.head 0) M el (j + 1) new := by
  unfold xAppend
  simp only [hx, hl, hn]
theorem xAppend_ope0 {el : Elt} {s2 : SV} {off q z : Nat} {bb : Pos} {new old : List SV} {te : TypeId} {rk : RK} (hx : appT P t u = some el) (hl : lenZ el s2 = some 0) (hn : firstS M el.size 0 s2 = some new) (hz : Nat.beq z el.size = true) (ho : ownK M bb = some (te, rk)) (hf : firstS M el.size q (.ope bb off q z) = some old) :
    xAppend P t u (.ope bb off q z) s2 M = .val (.ope bb off q z) M := by
  unfold xAppend
  simp only [hx, hl, hn, hz, ho, hf]
theorem xAppend_opeS {el : Elt} {s2 : SV} {j off q z : Nat} {bb : Pos} {new old : List SV} {te : TypeId} {rk : RK} (hx : appT P t u = some el) (hl : lenZ el s2 = some (j + 1)) (hn : firstS M el.size (j + 1) s2 = some new) (hz : Nat.beq z el.size = true) (ho : ownK M bb = some (te, rk)) (hf : firstS M el.size q (.ope bb off q z) = some old)
    (h1 : ones new = true) (h2 : Nat.beq te el.ty = true) (h3 : frzOK rk (Nat.add off (Nat.mul q el.size)) = true) :
    xAppend P t u (.ope bb off q z) s2 M = grow (shiftK rk off) (dropRow M bb) el (Nat.add q (j + 1)) (app old new) := by
  unfold xAppend
  simp only [hx, hl, hn, hz, ho, hf, h1, h2, h3]

/-- append to a slice of the call's own. -/
theorem Run.append {α : Type} {z : Nat} {enc : α → List SV} {el : Elt} {av : List Pos} {s s2 : SV} {l l2 l' : List α} {all : Array Oper} {r : List Oper} {d : Tmp} {ty : TypeId} {pos : String} {af : Array Edge} {g : Option (Nat × Bool)}
    (hw : wantS all (treeOf e) ⟨some d, .call ⟨.builtin .append, #[x, y], #[t, u]⟩, ty, pos, af, g⟩ = some true) (hd : Nat.ble (Nat.succ d) n = true)
    (h : ar e x = some s) (h' : ar e y = some s2) (ha : App M av el.ty z enc s l) (hz : ∀ a, (enc a).length = z) (hz1 : 1 ≤ z) (ho : ∀ a, ones (enc a) = true) (hx : appT P t u = some el) (hsz : el.size = z)
    (hlz : lenZ el s2 = some l2.length) (hnew : firstS M z l2.length s2 = some (l2.flatMap enc)) (hl : apd el.bytes l l2 = some l')
    (next : ∀ s' M', App M' av el.ty z enc s' l' → RoLe M M' → (∀ b t kk c, b ∈ av → Own M b t kk c → Own M' b t kk c) → Run P B fn n Q ((d, s') :: e) (.ops all r :: k) M') :
    Run P B fn n Q e (.ops all (⟨some d, .call ⟨.builtin .append, #[x, y], #[t, u]⟩, ty, pos, af, g⟩ :: r) :: k) M := by
  obtain ⟨hl1, hl2, rfl⟩ := apd_some hl
  have hxx : execO P M (treeOf e) (.call ⟨.builtin .append, #[x, y], #[t, u]⟩) = xAppend P t u s s2 M := by
    rw [ex_builtin (l := [s, s2]) (by show ars e [x, y] = _; simp only [ars, h, h'])]
    rfl
  rw [← hsz] at hnew
  intro hmix m w tm todo cs hr ht hn hk
  obtain ⟨hav0, ha⟩ := ha
  rcases ha with ⟨rfl, rfl⟩ | ⟨bb, rfl, hown, hav⟩
  · cases hl0 : l2 with
    | nil =>
      subst hl0
      refine (Run.opG hw (v := .nils) (M' := M) (by rw [hxx]; exact xAppend_nil0 hx hlz hnew) hd (next .nils M ⟨hav0, .inl ⟨rfl, rfl⟩⟩ ⟨fun _ _ h => h, Nat.le_refl _⟩ (fun _ _ _ _ _ h => h))) hmix m w tm todo cs hr ht hn hk
    | cons a0 r0 =>
      have hlen : l2.length = r0.length + 1 := by rw [hl0]; rfl
      have hgr : grow (.head 0) M el l2.length (l2.flatMap enc) = .val (.ope (nextOf M) 0 l2.length el.size) (newRowS el.ty (.head 0) M (l2.flatMap enc)) := by
        unfold grow
        have g1 : Nat.ble l2.length 1073741824 = true := Nat.ble_eq_true_of_le (by simp at hl1; omega)
        have g2 : Nat.ble (Nat.mul (Nat.mul 2 l2.length) el.bytes) 281474976710656 = true := Nat.ble_eq_true_of_le (by simpa using hl2)
        have g3 : Nat.ble 1 el.size = true := Nat.ble_eq_true_of_le (by omega)
        simp only [g1, g2, g3]
      have hx2 : execO P M (treeOf e) (.call ⟨.builtin .append, #[x, y], #[t, u]⟩) = .val (.ope (nextOf M) 0 l2.length el.size) (newRowS el.ty (.head 0) M (l2.flatMap enc)) := by
        rw [hxx, ← hgr]
        rw [hlen] at hlz hnew ⊢
        exact xAppend_nilS hx hlz hnew
      refine (Run.new (v := fun b => .ope b 0 l2.length el.size) hw hx2 hd (fun b M' ho' hM hb => ?_)) hmix m w tm todo cs hr ht hn hk
      subst hl0
      refine next _ M' ⟨fun b' hb' => Nat.lt_of_lt_of_le (hav0 b' hb') hM.next, .inr ⟨b, ?_, ?_, ?_⟩⟩ hM.toRo (fun b' t' kk' c' _ h' => hM.own _ _ _ _ h')
      · rw [hsz]; rfl
      · simpa using ho'
      · intro hbv
        have := hav0 b hbv
        omega
  · have hfirst : firstS M el.size l.length (.ope bb 0 l.length z) = some (l.flatMap enc) := by
      unfold firstS
      have hle : Nat.ble (Nat.add 0 (Nat.mul l.length el.size)) (len (l.flatMap enc)) = true := by
        rw [len_eq, flatm_len hz, hsz]
        exact Nat.ble_eq_true_of_le (by simp)
      have hle' : Nat.ble (Nat.add 0 (l.length * el.size)) (len (l.flatMap enc)) = true := hle
      simp only [hown.row, tk_eq, dp_eq, Nat.mul_eq, List.drop_zero, hle']
      rw [hsz]
      rw [List.take_of_length_le (by rw [flatm_len hz]; exact Nat.le_refl _)]
    have hok : ownK M bb = some (el.ty, .head 0) := by
      unfold ownK
      have ha : above M bb = true := Nat.ble_eq_true_of_le hown.low
      simp only [hown.get, ha]
    cases hl0 : l2 with
    | nil =>
      subst hl0
      refine (Run.opG hw (v := .ope bb 0 l.length z) (M' := M) ?_ hd (next _ M ⟨hav0, .inr ⟨bb, by simp, by simpa using hown, hav⟩⟩ ⟨fun _ _ h => h, Nat.le_refl _⟩ (fun _ _ _ _ _ h => h))) hmix m w tm todo cs hr ht hn hk
      rw [hxx]
      exact xAppend_ope0 hx hlz hnew (by rw [hsz]; exact Nat.beq_refl z) hok hfirst
    | cons a0 r0 =>
      have hlen : l2.length = r0.length + 1 := by rw [hl0]; rfl
      have hdrop : dropRow M bb = ⟨M.t.put none bb, M.next, M.floor⟩ := by cases M; rfl
      have hgr : grow (shiftK (.head 0) 0) (dropRow M bb) el (Nat.add l.length l2.length) (app (l.flatMap enc) (l2.flatMap enc)) = .val (.ope M.next 0 (l.length + l2.length) el.size) ⟨(M.t.put none bb).put (some (.row el.ty (.head 0) ((l ++ l2).flatMap enc))) M.next, M.next.succ, M.floor⟩ := by
        unfold grow
        have g1 : Nat.ble (Nat.add l.length l2.length) 1073741824 = true := Nat.ble_eq_true_of_le hl1
        have g2 : Nat.ble (Nat.mul (Nat.mul 2 (Nat.add l.length l2.length)) el.bytes) 281474976710656 = true := Nat.ble_eq_true_of_le hl2
        have g3 : Nat.ble 1 el.size = true := Nat.ble_eq_true_of_le (by omega)
        simp only [g1, g2, g3, hdrop, app_eq, List.flatMap_append]
        rfl
      have hx2 : execO P M (treeOf e) (.call ⟨.builtin .append, #[x, y], #[t, u]⟩) = .val (.ope M.next 0 (l.length + l2.length) el.size) ⟨(M.t.put none bb).put (some (.row el.ty (.head 0) ((l ++ l2).flatMap enc))) M.next, M.next.succ, M.floor⟩ := by
        have f2 : Nat.beq el.ty el.ty = true := Nat.beq_refl _
        have f3 : frzOK (.head 0) (Nat.add 0 (Nat.mul l.length el.size)) = true := rfl
        rw [hxx, ← hgr]
        rw [hlen] at hlz hnew ⊢
        exact xAppend_opeS hx hlz hnew (by rw [hsz]; exact Nat.beq_refl z) hok hfirst (ones_enc ho l2) f2 f3
      have hfresh : ∀ b x, M.t.get b = some x → M.next ≠ b := by
        intro b x h he
        rw [← he, (hr.fresh M.next (Nat.le_refl _)).2] at h
        simp at h
      have hget : ∀ b x, b ≠ bb → M.t.get b = some x → Tree.get b ((M.t.put none bb).put (some (.row el.ty (.head 0) ((l ++ l2).flatMap enc))) M.next) = some x := by
        intro b x hne h
        rw [Tree.get_put_other _ _ (hfresh b x h), Tree.get_put_other _ _ (Ne.symm hne)]
        exact h
      have hnx : M.next.num < M.next.succ.num := by rw [Pos.num_succ]; omega
      refine (Run.opG hw hx2 hd (next _ _ ⟨fun b' hb' => Nat.lt_trans (hav0 b' hb') hnx, .inr ⟨M.next, ?_, ⟨Tree.get_put_same _ _ _, hr.flo, hnx⟩, ?_⟩⟩ ⟨fun b c hb => ?_, Nat.le_of_lt hnx⟩ (fun b' t' kk' c' hb' h' => ⟨hget b' _ ?_ h'.get, h'.low, Nat.lt_trans h'.lt hnx⟩))) hmix m w tm todo cs hr ht hn hk
      · rw [hsz, List.length_append]
      · intro hbv
        have := hav0 _ hbv
        omega
      · obtain ⟨hlt, hb⟩ := ro_get hb
        refine ro_mk (Nat.lt_trans hlt hnx) ?_
        have hne : b ≠ bb := by
          intro he
          subst he
          rw [hown.get] at hb
          simp at hb
        rcases hb with hb | hb
        · exact .inl (hget b _ hne hb)
        · exact .inr (hget b _ hne hb)
      · intro he
        subst he
        exact hav hb'
end

/- WHAT A CALL HAS MADE -/
/-- The caller's memory, with what a call has made, which is only read from now on. -/
noncomputable def given (M Me : Mem) : Mem := ⟨Tree.unT (Tree.filtT M.t fun b => decide (b.num < M.next.num)) (Tree.filtT (Tree.mapT frz Me.t) fun b => decide (M.next.num ≤ b.num)), Me.next, M.floor⟩
theorem given_old {M Me : Mem} {b : Pos} (h : b.num < M.next.num) : (given M Me).t.get b = M.t.get b := by
  show Tree.get b (Tree.unT _ _) = _
  rw [Tree.get_unT, Tree.get_filtT, Tree.get_filtT]
  have h1 : decide (b.num < M.next.num) = true := decide_eq_true h
  have h2 : decide (M.next.num ≤ b.num) = false := decide_eq_false (by omega)
  rw [h1, h2]
  cases Tree.get b M.t <;> rfl
theorem given_new {M Me : Mem} {b : Pos} (h : M.next.num ≤ b.num) : (given M Me).t.get b = (Me.t.get b).bind frz := by
  show Tree.get b (Tree.unT _ _) = _
  rw [Tree.get_unT, Tree.get_filtT, Tree.get_filtT, Tree.get_mapT]
  have h1 : decide (b.num < M.next.num) = false := decide_eq_false (by omega)
  have h2 : decide (M.next.num ≤ b.num) = true := decide_eq_true h
  rw [h1, h2]
  rfl

theorem given_led {B : Nat} {m m' : Map} {M Me : Mem} {w w' : World} (hr : MRel B m M w) (hl : Led w.heap.size m (frozen M) w m' Me w') : Led B m M w m' (given M Me) w' := by
  have h1 := merged_led hr hl
  have hg : ∀ b o, (given M Me).t.get b = some o → ∃ o', (merged M Me).t.get b = some o' ∧ (o = o' ∨ frz o' = some o ∧ M.next.num ≤ b.num) := by
    intro b o h
    by_cases hb : b.num < M.next.num
    · rw [given_old hb] at h
      exact ⟨o, by rw [merged_old hb]; exact h, .inl rfl⟩
    · rw [given_new (by omega), Option.bind_eq_some_iff] at h
      obtain ⟨o', h2, h3⟩ := h
      exact ⟨o', by rw [merged_new (by omega)]; exact h2, .inr ⟨h3, by omega⟩⟩
  have hown : ∀ b o, (given M Me).t.get b = some o → o.own = true → (merged M Me).t.get b = some o := by
    intro b o h ho
    obtain ⟨o', h2, h3 | ⟨h3, _⟩⟩ := hg b o h
    · subst h3; exact h2
    · rw [frz_own h3] at ho; simp at ho
  have hO : ∀ j, Owned m' (given M Me) j → Owned m' (merged M Me) j := fun j ⟨c, x, q, hx, hxo, hq, he⟩ => ⟨c, x, q, hown c x hx hxo, hxo, hq, he⟩
  refine ⟨⟨fun b o p hb hp => ?_, fun b b' o o' p p' hb hb' how hp hp' he => ?_, fun b hb => ⟨(h1.rel.fresh b hb).1, ?_⟩, h1.rel.bound, fun b o p hb ho hp => h1.rel.low b o p (hown b o hb ho) ho hp, h1.rel.base, fun b c hb => ?_, h1.rel.flo⟩, h1.same, h1.next, h1.below, fun b o hb hbo => ?_, rfl, fun j hj ho => h1.born j hj (hO j ho), h1.news⟩
  · obtain ⟨o', h2, h3 | ⟨h3, _⟩⟩ := hg b o hb
    · subst h3; exact h1.rel.objs b o p h2 hp
    · have hobj := h1.rel.objs b o' p h2 hp
      cases o' <;> simp only [frz, Option.some.injEq, reduceCtorEq] at h3 <;> subst h3
      · obtain ⟨e, fz, pre, vs, post, h1, _, h2, h3, h4, _⟩ := hobj
        exact ⟨e, fz, pre, vs, post, h1, trivial, h2, h3, h4, fun t ht => by simp at ht⟩
      · exact hobj
      · exact hobj
  · rcases how with ho | ho
    · obtain ⟨x, h2, _⟩ := hg b' o' hb'
      exact h1.rel.inj b b' o x p p' (hown b o hb ho) h2 (.inl ho) hp hp' he
    · obtain ⟨x, h2, _⟩ := hg b o hb
      exact h1.rel.inj b b' x o' p p' h2 (hown b' o' hb' ho) (.inr ho) hp hp' he
  · cases h : (given M Me).t.get b with
    | none => rfl
    | some o =>
      obtain ⟨o', h2, _⟩ := hg b o h
      rw [(h1.rel.fresh b hb).2] at h2
      simp at h2
  · obtain ⟨o', h2, h3 | ⟨h3, _⟩⟩ := hg b _ hb
    · subst h3; exact h1.rel.glob b c h2
    · cases o' <;> simp only [frz, Option.some.injEq, reduceCtorEq, SObj.fix.injEq] at h3
      subst h3
      exact h1.rel.glob b _ h2
  · rw [given_old (Nat.lt_of_lt_of_le hb hr.flo)] at hbo
    exact hbo

/-- Rows that the call has made. -/
noncomputable def rn (M : Mem) (b : Pos) : Option (List SV) := if M.floor ≤ b.num then rd M b else none
theorem rn_given {M Me : Mem} (hf : Me.floor = M.next.num) : RdLe (rn Me) (ro (given M Me)) := by
  intro b c h
  unfold rn at h
  split at h
  · rename_i hb
    rw [hf] at hb
    unfold rd at h
    split at h
    · rename_i hlt
      refine ro_mk hlt ?_
      rw [given_new hb]
      rcases rowOf_eq h with ⟨e, k, h1⟩ | h1 | h1 <;> rw [h1]
      · exact .inl rfl
      · exact .inr rfl
      · exact .inl rfl
    · simp at h
  · simp at h
theorem given_le {M Me : Mem} (hn : M.next.num ≤ Me.next.num) : MemLe M (given M Me) := by
  refine ⟨fun b c h => ?_, fun b t kk c h => ⟨?_, h.low, Nat.lt_of_lt_of_le h.lt hn⟩, hn⟩
  · obtain ⟨hb, h⟩ := ro_get h
    exact ro_mk (Nat.lt_of_lt_of_le hb hn) (by rw [given_old hb]; exact h)
  · rw [given_old h.lt]; exact h.get
theorem Own.rn {M : Mem} {b : Pos} {t : TypeId} {kk : RK} {c : List SV} (h : Own M b t kk c) : Go.Ev.rn M b = some c := by
  unfold Go.Ev.rn
  rw [if_pos h.low]
  exact h.rd

/-- A function that returns data that it has made. -/
theorem CallsTo.of_new {f : FuncId} {F : Func} {c : Code} {xs : List SV} {M : Mem} {Q : SV → Rd → Prop} (hF : P.funcs[f]? = some F) (hb : F.body = some c) (hn : Nat.ble xs.length F.ntmps = true)
    (hmono : ∀ s f g, RdLe f g → Q s f → Q s g) (h : ∀ B, Run P B f F.ntmps (fun s Me => Q s (Go.Ev.rn Me)) (argE 0 [] xs) [.code c] (frozen M)) : CallsTo P f xs M fun s M' => MemLe M M' ∧ Q s (ro M') := by
  intro hmix B m w vs hr has cf cs
  obtain ⟨w', m', Me, s, x, hl, hv, hq, hs⟩ := CallsTo.raw hmix hF hb hn h hr has cf cs
  exact ⟨m', w', given M Me, s, x, given_led hr hl, hv, ⟨given_le hl.next, hmono _ _ _ (rn_given hl.floor) hq⟩, hs⟩

/-- A slice of the call's own is data. -/
theorem App.slc {α : Type} {M : Mem} {av : List Pos} {tt : TypeId} {z : Nat} {enc : α → List SV} {s : SV} {l : List α} (h : App M av tt z enc s l) (hz : ∀ a, (enc a).length = z) : Slc (rn M) z (FlatR enc) s l := by
  rcases h.2 with h | ⟨b, h1, h2, _⟩
  · exact .inl h
  · exact .inr ⟨b, 0, _, .inr h1, h2.rn, by rw [flatm_len hz]; omega, fun i a ha => by rw [Nat.zero_add]; exact flat_at hz l i a ha⟩
theorem Own.slc {α : Type} {M : Mem} {b : Pos} {t : TypeId} {kk : RK} {z : Nat} {enc : α → List SV} {l : List α} (h : Own M b t kk (l.flatMap enc)) (hz : ∀ a, (enc a).length = z) : Slc (Go.Ev.rn M) z (FlatR enc) (.slice b 0 l.length l.length) l :=
  .inr ⟨b, 0, _, .inl ⟨_, Nat.le_refl _, rfl⟩, h.rn, by rw [flatm_len hz]; omega, fun i a ha => by rw [Nat.zero_add]; exact flat_at hz l i a ha⟩
theorem rn_rd (M : Mem) : RdLe (rn M) (rd M) := by
  intro b c h
  unfold rn at h
  split at h
  · exact h
  · simp at h

end Go.Ev

/- Calls of functions that return values without places; regions that draw their order. -/
namespace Go.Ev
open Go.RowKit
variable {P : Program}

/-- A call that returns s, and leaves what was there as it was. -/
def CallsP (P : Program) (g : FuncId) (xs : List SV) (M : Mem) (s : SV) : Prop :=
  P.follows .mixedOrders = true → ∀ (B : Nat) (m : Map) (w : World) (vs : Array Value), MRel B m M w → concs m xs = some vs.toList →
    Calls P g vs w fun e w' => ∃ v, e = .returned v ∧ conc m s = some v ∧ Below w.heap.size w w'
theorem CallsP.steps {g : FuncId} {xs : List SV} {M : Mem} {s : SV} (h : CallsP P g xs M s) (hmix : P.follows .mixedOrders = true) {B : Nat} {m : Map} {w : World} {vs : Array Value} (hr : MRel B m M w) (has : concs m xs = some vs.toList) (c : Frame) (cs : List Frame) :
    ∃ w' v, Below w.heap.size w w' ∧ conc m s = some v ∧ Steps P (lone (Frame.enter P g vs .normal) (c :: cs) w) (lone (c.finish v) cs w') := by
  obtain ⟨e, w', fr, ⟨v, rfl, hv, hb⟩, hcome, hfn, hl⟩ := h hmix B m w vs hr has (c :: cs)
  exact ⟨w', v, hb, hv, Steps.trans hcome (.one (step_leave_returned hl))⟩
theorem CallsP.to {g : FuncId} {xs : List SV} {M : Mem} {s : SV} (h : CallsP P g xs M s) : CallsTo P g xs M fun s' M' => s' = s ∧ M' = M := by
  intro hmix B m w vs hr has c cs
  obtain ⟨w', v, h1, h2, h3⟩ := h.steps hmix hr has c cs
  exact ⟨m, w', M, s, v, .kept hr h1, h2, ⟨rfl, rfl⟩, h3⟩
theorem CallsP.of_run {f : FuncId} {F : Func} {c : Code} {xs : List SV} {M : Mem} {s0 : SV} (hF : P.funcs[f]? = some F) (hb : F.body = some c) (hn : Nat.ble xs.length F.ntmps = true) (hp : Go.Ev.plain s0 = true)
    (h : ∀ B, Run P B f F.ntmps (fun s _ => s = s0) (argE 0 [] xs) [.code c] (frozen M)) : CallsP P f xs M s0 := by
  intro hmix B m w vs hr has
  refine (Run.calls hmix hF hb hn (frozen_rel hr) has (h w.heap.size)).mono fun e w' => ?_
  rintro ⟨m', M', s, x, rfl, hv, rfl, hl⟩
  exact ⟨x, rfl, by rw [← hv]; exact plain_conc hp _ _, hl.below⟩
theorem CallsP.closed {f : FuncId} (hc : ∀ w, Calls P f #[] w fun e w' => e = .returned (.bool true) ∧ Below w.heap.size w w') (M : Mem) : CallsP P f [] M (.bool true) := by
  intro _ B m w vs hr has
  have hvs : vs = #[] := by
    have := concs_nil m
    rw [this] at has
    have := Option.some.inj has
    exact (Array.toList_eq_nil_iff.1 this.symm)
  subst hvs
  refine (hc w).mono fun e w' => ?_
  rintro ⟨rfl, hb⟩
  exact ⟨.bool true, rfl, rfl, hb⟩

/-- One call that is known. -/
noncomputable def oneK (g : FuncId) (xs0 : List SV) (M0 : Mem) (s : SV) : Known := fun f xs M => @ite _ (f = g ∧ xs = xs0 ∧ M = M0) (Classical.propDecidable _) (some (s, M0)) none
theorem oneK_same (g : FuncId) (xs : List SV) (M : Mem) (s : SV) : oneK g xs M s g xs M = some (s, M) := by
  unfold oneK
  rw [if_pos ⟨rfl, rfl, rfl⟩]
theorem oneK_other {g f : FuncId} (h : Nat.beq f g = false) (xs xs' : List SV) (M M' : Mem) (s : SV) : oneK g xs M s f xs' M' = none := by
  unfold oneK
  rw [if_neg]
  rintro ⟨rfl, _⟩
  rw [Nat.beq_refl] at h
  exact absurd h (by simp)
theorem orK_left {I J : Known} {f : FuncId} {xs : List SV} {M : Mem} {r : SV × Mem} (h : I f xs M = some r) : orK I J f xs M = some r := by
  unfold orK; rw [h]
theorem orK_right {I J : Known} {f : FuncId} {xs : List SV} {M : Mem} {r : Option (SV × Mem)} (h : I f xs M = none) (h' : J f xs M = r) : orK I J f xs M = r := by
  unfold orK; rw [h]; exact h'
theorem sound_one {g : FuncId} {xs : List SV} {M : Mem} {s : SV} (hmix : P.follows .mixedOrders = true) (h : CallsP P g xs M s) (B : Nat) : Sound P B (oneK g xs M s) := by
  intro f xs' M' s' M'' hk m w vs hr has c cs
  unfold oneK at hk
  split at hk
  · rename_i hc
    obtain ⟨rfl, rfl, rfl⟩ := hc
    simp only [Option.some.injEq, Prod.mk.injEq] at hk
    obtain ⟨rfl, rfl⟩ := hk
    obtain ⟨w', v, hb, hv, hs⟩ := h.steps hmix hr has c cs
    exact ⟨m, w', v, ⟨hr.kept hb, fun _ _ => rfl, fun _ _ _ => rfl, Nat.le_refl _, hb.mono hr.base, fun k hk _ => hb.block k hk, fun _ _ h => h, fun _ _ => rfl, rfl, fun _ _ h => h, fun b p hb hp _ => absurd hp (by rw [(hr.fresh b hb).1]; simp)⟩, hv, hs⟩
  · simp at hk

section
variable {B : Nat} {fn : FuncId} {n : Nat} {Q : SV → Mem → Prop} {e : Env} {k : List SItem} {M : Mem} {D : Known} {all : Array Oper}

theorem Run.draw' {i : Nat} {ops : Array Oper} {plan : List PE} {M' : Mem} {e' : Env} (hD : P.follows .mixedOrders = true → Sound P B D) (hp : planOf P ops = some plan) (h : drawS D P n ops plan (treeOf e) M = some (treeOf e', M'))
    (next : Run P B fn n Q e' k M') : Run P B fn n Q e (.code (.region i ops true) :: k) M := by
  intro hmix
  exact Run.draw (hD hmix) hp h (fun t s hs => by rw [treeOf_get]; exact hs) next hmix
theorem sound_nil (B : Nat) : P.follows .mixedOrders = true → Sound P B noneKnown := fun _ => sound_none P B
theorem sound_cons {g : FuncId} {xs : List SV} {M : Mem} {s : SV} {J : Known} (h : CallsP P g xs M s) (hJ : P.follows .mixedOrders = true → Sound P B J) : P.follows .mixedOrders = true → Sound P B (orK (oneK g xs M s) J) := fun hmix => sound_or (sound_one hmix h B) (hJ hmix)

theorem ev_ex {d : Option Tmp} {op : Op} {ty : TypeId} {pos : String} {af : Array Edge} {g : Option (Nat × Bool)} {v : SV} {M' : Mem} (hw : wantS all (treeOf e) ⟨d, op, ty, pos, af, g⟩ = some true) (hx : execO P M (treeOf e) op = .val v M') : evalF P all M (treeOf e) ⟨d, op, ty, pos, af, g⟩ = some v := by
  unfold evalF
  have hx' : exec P M (treeOf e) ⟨d, op, ty, pos, af, g⟩ = .val v M' := hx
  simp only [hw, hx']
theorem ev_no {o : Oper} (hw : wantS all (treeOf e) o = some false) : evalF P all M (treeOf e) o = some (.tuple []) := by
  unfold evalF
  simp only [hw]
theorem dr_nil : drawS D P n all [] (treeOf e) M = some (treeOf e, M) := rfl
theorem dr_sync {r : List PE} {res : Option (Tree SV × Mem)} (h : drawS D P n all r (treeOf e) M = res) : drawS D P n all (.sync :: r) (treeOf e) M = res := h
theorem dr_fl {i : Nat} {o : Oper} {d : Tmp} {s : SV} {r : List PE} {res : Option (Tree SV × Mem)} (ho : all[i]? = some o) (hv : evalF P all M (treeOf e) o = some s) (hd : o.dst = some d) (hdn : Nat.ble (Nat.succ d) n = true)
    (h : drawS D P n all r (treeOf ((d, s) :: e)) M = res) : drawS D P n all (.fl i :: r) (treeOf e) M = res := by
  rw [drawS]
  simp only [ho, hv, hd, putD, hdn]
  exact h
theorem dr_call {i : Nat} {d : Option Tmp} {op : Op} {ty : TypeId} {pos : String} {af : Array Edge} {g : Option (Nat × Bool)} {dd : Tmp} {s : SV} {L : List Nat} {r : List PE} {res : Option (Tree SV × Mem)} {f : FuncId} {xs : List SV}
    (ho : all[i]? = some ⟨d, op, ty, pos, af, g⟩) (hd : d = some dd) (hw : wantS all (treeOf e) ⟨d, op, ty, pos, af, g⟩ = some true) (hx : execO P M (treeOf e) op = .enter f xs M) (hD : D f xs M = some (s, M)) (hdn : Nat.ble (Nat.succ dd) n = true)
    (hs : allStill P all M (treeOf ((dd, s) :: e)) L = true) (h : drawS D P n all r (treeOf ((dd, s) :: e)) M = res) : drawS D P n all (.an i L :: r) (treeOf e) M = res := by
  subst hd
  have hx' : exec P M (treeOf e) ⟨some dd, op, ty, pos, af, g⟩ = .enter f xs M := hx
  rw [drawS]
  simp only [ho, hw, hx', hD, putD, hdn]
  have hs' : allStill P all M ((treeOf e).put (some s) (Pos.ofNat dd)) L = true := hs
  simp only [hs']
  exact h
theorem dr_val {i : Nat} {d : Option Tmp} {op : Op} {ty : TypeId} {pos : String} {af : Array Edge} {g : Option (Nat × Bool)} {dd : Tmp} {s : SV} {M' : Mem} {L : List Nat} {r : List PE} {res : Option (Tree SV × Mem)}
    (ho : all[i]? = some ⟨d, op, ty, pos, af, g⟩) (hd : d = some dd) (hw : wantS all (treeOf e) ⟨d, op, ty, pos, af, g⟩ = some true) (hx : execO P M (treeOf e) op = .val s M') (hdn : Nat.ble (Nat.succ dd) n = true)
    (hs : allStill P all M' (treeOf ((dd, s) :: e)) L = true) (h : drawS D P n all r (treeOf ((dd, s) :: e)) M' = res) : drawS D P n all (.an i L :: r) (treeOf e) M = res := by
  subst hd
  have hx' : exec P M (treeOf e) ⟨some dd, op, ty, pos, af, g⟩ = .val s M' := hx
  rw [drawS]
  simp only [ho, hw, hx', putD, hdn]
  have hs' : allStill P all M' ((treeOf e).put (some s) (Pos.ofNat dd)) L = true := hs
  simp only [hs']
  exact h
theorem dr_no {i : Nat} {d : Option Tmp} {op : Op} {ty : TypeId} {pos : String} {af : Array Edge} {g : Option (Nat × Bool)} {dd : Tmp} {L : List Nat} {r : List PE} {res : Option (Tree SV × Mem)}
    (ho : all[i]? = some ⟨d, op, ty, pos, af, g⟩) (hd : d = some dd) (hw : wantS all (treeOf e) ⟨d, op, ty, pos, af, g⟩ = some false) (hdn : Nat.ble (Nat.succ dd) n = true)
    (hs : allStill P all M (treeOf ((dd, .tuple []) :: e)) L = true) (h : drawS D P n all r (treeOf ((dd, .tuple []) :: e)) M = res) : drawS D P n all (.an i L :: r) (treeOf e) M = res := by
  subst hd
  rw [drawS]
  simp only [ho, hw, putD, hdn]
  have hs' : allStill P all M ((treeOf e).put (some (.tuple [])) (Pos.ofNat dd)) L = true := hs
  simp only [hs']
  exact h

/-- Values that are the same as themselves. -/
def selfB : SV → Bool
  | .fn _ _ _ => false
  | .iface _ _ => false
  | .agg l => selfs l
  | .tuple l => selfs l
  | _ => true
where selfs : List SV → Bool
  | [] => true
  | s :: l => selfB s && selfs l
theorem pos_beq (p : Pos) : p.beq p = true := (Pos.beq_iff p p).2 rfl
mutual
theorem beqSV_self : ∀ {s : SV}, selfB s = true → beqSV s s = true
  | .bool _, _ => by simp [beqSV]
  | .int _ _, _ => by simp [beqSV, eqZ_eq, kindBeq]
  | .str _, _ => by simp [beqSV, beqB_eq]
  | .nilp, _ => by simp [beqSV]
  | .ptr _ _, _ => by simp [beqSV, pos_beq]
  | .nils, _ => by simp [beqSV]
  | .slice _ _ _ _, _ => by simp [beqSV, pos_beq]
  | .ope _ _ _ _, _ => by simp [beqSV, pos_beq]
  | .nilm, _ => by simp [beqSV]
  | .map _, _ => by simp [beqSV, pos_beq]
  | .nilf, _ => by simp [beqSV]
  | .yield _, _ => by simp [beqSV, pos_beq]
  | .nili, _ => by simp [beqSV]
  | .fn _ _ _, h => by simp [selfB] at h
  | .iface _ _, h => by simp [selfB] at h
  | .agg l, h => by simp only [beqSV]; exact beqSVs_self (l := l) h
  | .tuple l, h => by simp only [beqSV]; exact beqSVs_self (l := l) h
theorem beqSVs_self : ∀ {l : List SV}, selfB.selfs l = true → beqSVs l l = true
  | [], _ => by simp [beqSVs]
  | s :: l, h => by
    simp only [selfB.selfs, Bool.and_eq_true] at h
    simp only [beqSVs, beqSV_self h.1, beqSVs_self h.2, Bool.and_self]
end
theorem st_nil : allStill P all M (treeOf e) [] = true := rfl
theorem st_cons {q : Nat} {l : List Nat} {o : Oper} {d : Tmp} {s : SV} (ho : all[q]? = some o) (hv : evalF P all M (treeOf e) o = some s) (hd : o.dst = some d) (hl : lk d e = some s) (hb : selfB s = true) (h : allStill P all M (treeOf e) l = true) : allStill P all M (treeOf e) (q :: l) = true := by
  have : still P all M (treeOf e) q = true := by
    unfold still
    simp only [ho, hv, hd, treeOf_get, hl]
    exact beqSV_self hb
  simp only [allStill, this]
  exact h

/- Elements. -/
variable {t u : TypeId} {x y : Operand} {kk : IntKind} {a : Int}
theorem Run.el {α : Type} {z : Nat} {R : List SV → α → Prop} {f : Rd} {s : SV} {l : List α} {el : α} {r : List Oper} {d : Tmp} {ty : TypeId} {pos : String} {af : Array Edge} {g : Option (Nat × Bool)}
    (hw : wantS all (treeOf e) ⟨some d, .indexAddr t x y, ty, pos, af, g⟩ = some true) (h : ar e x = some s) (h' : ar e y = some (.int kk a)) (hs : Slc f z R s l) (hi : idx l a = some el) (hz : elems P t = some (.sl z)) (hd : Nat.ble (Nat.succ d) n = true)
    (next : ∀ b off cs, PtrTo f (.ptr b off) cs → R cs el → Run P B fn n Q ((d, .ptr b off) :: e) (.ops all r :: k) M) : Run P B fn n Q e (.ops all (⟨some d, .indexAddr t x y, ty, pos, af, g⟩ :: r) :: k) M := by
  refine Run.elem hw h h' hs hi hz hd fun s' cs hp hR _ => ?_
  obtain ⟨b, off, c, rfl, h2⟩ := hp
  exact next b off cs ⟨b, off, c, rfl, h2⟩ hR
theorem ex_el {α : Type} {z : Nat} {R : List SV → α → Prop} {f : Rd} {s : SV} {l : List α} {el : α} (h : ar e x = some s) (h' : ar e y = some (.int kk a)) (hs : Slc f z R s l) (hi : idx l a = some el) (hz : elems P t = some (.sl z)) :
    ∃ b off cs, execO P M (treeOf e) (.indexAddr t x y) = .val (.ptr b off) M ∧ PtrTo f (.ptr b off) cs ∧ R cs el := by
  obtain ⟨s', cs, h1, h2, h3, _⟩ := ex_elem (P := P) (M := M) h h' hs hi hz
  obtain ⟨b, off, c, rfl, h4⟩ := h2
  exact ⟨b, off, cs, h1, ⟨b, off, c, rfl, h4⟩, h3⟩
theorem PtrTo.fld {f : Rd} {b : Pos} {off o : Nat} {cs : List SV} (h : PtrTo f (.ptr b off) cs) (ho : Nat.ble o cs.length = true) : PtrTo f (.ptr b (off + o)) (cs.drop o) := by
  obtain ⟨b', off', h1, h2⟩ := h.field (o := o) rfl (Nat.le_of_ble_eq_true ho)
  simp only [SV.ptr.injEq] at h1
  obtain ⟨rfl, rfl⟩ := h1
  exact h2
/-- The first cell. -/
theorem ex_load1 {f : Rd} {s v : SV} {cs : List SV} (h : ar e x = some s) (hp : PtrTo f s (v :: cs)) (hf : RdLe f (rowOf M)) (hz : aggSize P t = some none) : execO P M (treeOf e) (.load t x) = .val v M := by
  obtain ⟨b, off, c, rfl, h2, h3, h4⟩ := hp
  refine ex_load (f := f) h ⟨b, off, c, rfl, h2, ?_, ?_⟩ hf hz
  · simp at h3 ⊢; omega
  · have := congrArg (List.take 1) h4
    simpa [List.take_take] using this
theorem ex_loadA {f : Rd} {s : SV} {cs ds : List SV} {j : Nat} (h : ar e x = some s) (hp : PtrTo f s cs) (hf : RdLe f (rowOf M)) (hz : aggSize P t = some (some j)) (hj : ds.length = j) (hd : cs.take j = ds) (hl : Nat.ble j cs.length = true) : execO P M (treeOf e) (.load t x) = .val (.agg ds) M := by
  obtain ⟨b, off, c, rfl, h2, h3, h4⟩ := hp
  have hl' := Nat.le_of_ble_eq_true hl
  subst hj
  refine ex_loadN (f := f) h ⟨b, off, c, rfl, h2, ?_, ?_⟩ hf hz
  · omega
  · have := congrArg (List.take ds.length) h4
    rw [List.take_take, Nat.min_eq_left hl', hd] at this
    exact this
/-- Cells of a row of the call's own, from off on. -/
theorem Own.at {M : Mem} {b : Pos} {t : TypeId} {kk : RK} {c : List SV} (h : Own M b t kk c) (off : Nat) (hl : Nat.ble off c.length = true) : PtrTo (rowOf M) (.ptr b off) (c.drop off) :=
  ⟨b, off, c, rfl, h.row, by have := Nat.le_of_ble_eq_true hl; simp; omega, List.take_of_length_le (Nat.le_refl _)⟩
theorem Own.el {α : Type} {M : Mem} {b : Pos} {t : TypeId} {kk : RK} {l : List α} {z : Nat} {enc : α → List SV} (h : Own M b t kk (l.flatMap enc)) (hz : ∀ a, (enc a).length = z) {i : Nat} {a : α} (ha : l[i]? = some a) : PtrTo (rowOf M) (.ptr b (0 + i * z)) (enc a) := by
  have hi := (List.getElem?_eq_some_iff.1 ha).1
  have h1 : (i + 1) * z ≤ l.length * z := Nat.mul_le_mul_right z hi
  refine ⟨b, 0 + i * z, _, rfl, h.row, ?_, ?_⟩
  · rw [flatm_len hz, hz, Nat.zero_add]; rw [Nat.succ_mul] at h1; exact h1
  · rw [Nat.zero_add, hz]; exact flat_at hz l i a ha

theorem Run.make {α : Type} {z0 : α} {enc : α → List SV} {el : Elt} {l : List α} {nn : Int} {by' : Nat} {kk' : IntKind} {r : List Oper} {d : Tmp} {ty : TypeId} {pos : String} {af : Array Edge} {g : Option (Nat × Bool)}
    (hw : wantS all (treeOf e) ⟨some d, .makeSlice t x y, ty, pos, af, g⟩ = some true) (h : ar e x = some (.int kk nn)) (h' : ar e y = some (.int kk' nn)) (hl : mk nn by' z0 = some l) (hel : sliceElt P t = some el) (hby : el.bytes = by') (hz : el.zero = enc z0) (hd : Nat.ble (Nat.succ d) n = true)
    (next : ∀ b M' (j : Nat), nn = j → l.length = j → Own M' b el.ty (.head 0) (l.flatMap enc) → MemLe M M' → M.next.num ≤ b.num → Run P B fn n Q ((d, .slice b 0 j j) :: e) (.ops all r :: k) M') : Run P B fn n Q e (.ops all (⟨some d, .makeSlice t x y, ty, pos, af, g⟩ :: r) :: k) M := by
  subst hby
  obtain ⟨j, rfl, h1, h2, rfl⟩ := mk_some hl
  refine Run.new (v := fun b => .slice b 0 j j) hw (ex_make h h' hel h1 h2) hd fun b M' ho hM hb => next b M' j rfl (by simp) ?_ hM hb
  rw [rep_flat hz] at ho
  exact ho

theorem Run.storeEl {α : Type} {enc : α → List SV} {z : Nat} {l l' : List α} {i : Nat} {v : α} {bb : Pos} {s : SV} {tt : TypeId} {rk : RK} {r : List Oper} {ty : TypeId} {pos : String} {af : Array Edge} {g : Option (Nat × Bool)}
    (hw : wantS all (treeOf e) ⟨none, .store t x y, ty, pos, af, g⟩ = some true) (h : ar e x = some (.ptr bb (0 + i * z))) (h' : ar e y = some s) (ho : Own M bb tt rk (l.flatMap enc)) (hl : upd l i v = some l') (hz : szOf P t = some z) (hs : cellsOf s = enc v) (hk : frzOK rk (0 + i * z) = true) (hlen : ∀ a, (enc a).length = z) (h1 : ∀ a, ones (enc a) = true)
    (next : ∀ M', Own M' bb tt rk (l'.flatMap enc) → l'.length = l.length → RoLe M M' → (∀ b t kk c, b ≠ bb → Own M b t kk c → Own M' b t kk c) → Run P B fn n Q e (.ops all r :: k) M') : Run P B fn n Q e (.ops all (⟨none, .store t x y, ty, pos, af, g⟩ :: r) :: k) M := by
  obtain ⟨j, hj, hlt, rfl⟩ := upd_some hl
  have hj' : j = i := by omega
  subst hj'
  have hle : (j + 1) * z ≤ l.length * z := Nat.mul_le_mul_right z hlt
  rw [Nat.succ_mul] at hle
  refine Run.store (zz := z) (c' := (l.set j v).flatMap enc) hw h h' ho hz (by rw [hs, hlen]) hk (by rw [flatm_len hlen]; omega) (by rw [hs]; exact h1 v) (by rw [hs, Nat.zero_add]; exact flat_set hlen l j v hlt) fun M' ho' hM hO => next M' ho' (by simp) hM hO

theorem first_own {α : Type} {enc : α → List SV} {z : Nat} {l : List α} {b : Pos} {tt : TypeId} {rk : RK} {c : Nat} (ho : Own M b tt rk (l.flatMap enc)) (hlen : ∀ a, (enc a).length = z) : firstS M z l.length (.slice b 0 l.length c) = some (l.flatMap enc) := by
  have hle : Nat.ble (Nat.add 0 (Nat.mul l.length z)) (len (l.flatMap enc)) = true := by
    rw [len_eq, flatm_len hlen]
    exact Nat.ble_eq_true_of_le (by simp)
  have hle' : Nat.ble (Nat.add 0 (l.length * z)) (len (l.flatMap enc)) = true := hle
  unfold firstS
  simp only [ho.row, tk_eq, dp_eq, Nat.mul_eq, List.drop_zero, hle']
  rw [List.take_of_length_le (by rw [flatm_len hlen]; exact Nat.le_refl _)]

theorem Run.callP {r : List Oper} {d : Tmp} {op : Op} {ty : TypeId} {pos : String} {af : Array Edge} {gd : Option (Nat × Bool)} {g : FuncId} {xs : List SV} {s : SV}
    (hw : wantS all (treeOf e) ⟨some d, op, ty, pos, af, gd⟩ = some true) (hx : execO P M (treeOf e) op = .enter g xs M) (hd : Nat.ble (Nat.succ d) n = true) (hc : CallsP P g xs M s)
    (next : Run P B fn n Q ((d, s) :: e) (.ops all r :: k) M) : Run P B fn n Q e (.ops all (⟨some d, op, ty, pos, af, gd⟩ :: r) :: k) M :=
  Run.callG hw hx hd hc.to fun _ _ h => by obtain ⟨h1, h2⟩ := h; rw [h1, h2]; exact next

theorem x_load {s v : SV} (h : execO P M (treeOf [(0, s)]) (.load t (.tmp 0)) = .val v M) : xLoad P t s M = .val v M := h
theorem own_slc {α : Type} {b : Pos} {tt : TypeId} {rk : RK} {z j : Nat} {enc : α → List SV} {l : List α} (h : Own M b tt rk (l.flatMap enc)) (hl : l.length = j) (hz : ∀ a, (enc a).length = z) : Slc (Go.Ev.rn M) z (FlatR enc) (.slice b 0 j j) l := by
  subst hl
  exact h.slc hz
theorem bnot_t {b : Bool} (h : b = false) : (!b) = true := by rw [h]; rfl
theorem bnot_f {b : Bool} (h : b = true) : (!b) = false := by rw [h]; rfl
theorem pos_ne {b c : Pos} (h : b.num < c.num) : b ≠ c := fun he => by subst he; exact Nat.lt_irrefl _ h
theorem pos_ne' {b c : Pos} (h : b.num < c.num) : c ≠ b := fun he => by subst he; exact Nat.lt_irrefl _ h
theorem slc_ro {α : Type} {M M' : Mem} {z : Nat} {R : List SV → α → Prop} {s : SV} {l : List α} (h : Slc (ro M) z R s l) (hM : RoLe M M') : Slc (ro M') z R s l := h.mono hM.ro (fun _ _ h => h)
theorem slc_rd {α : Type} {M : Mem} {z : Nat} {R : List SV → α → Prop} {s : SV} {l : List α} (h : Slc (ro M) z R s l) : Slc (rd M) z R s l := h.mono (rdLe_ro M) (fun _ _ h => h)
theorem slc_in {α : Type} {M : Mem} {z : Nat} {R : List SV → α → Prop} {s : SV} {l : List α} (h : Slc (rd M) z R s l) : Slc (ro (frozen M)) z R s l := h.mono (rdLe_frozen M) (fun _ _ h => h)
theorem slc_nd {α : Type} {M : Mem} {z : Nat} {R : List SV → α → Prop} {s : SV} {l : List α} (h : Slc (rn M) z R s l) : Slc (rd M) z R s l := h.mono (rn_rd M) (fun _ _ h => h)
theorem slc_mo {α : Type} {f g : Rd} (hf : RdLe f g) {z : Nat} {R : List SV → α → Prop} {s : SV} {l : List α} (h : Slc f z R s l) : Slc g z R s l := h.mono hf (fun _ _ h => h)
theorem ptr_ro {M M' : Mem} {s : SV} {cs : List SV} (h : PtrTo (ro M) s cs) (hM : RoLe M M') : PtrTo (ro M') s cs := h.mono hM.ro
end
end Go.Ev

