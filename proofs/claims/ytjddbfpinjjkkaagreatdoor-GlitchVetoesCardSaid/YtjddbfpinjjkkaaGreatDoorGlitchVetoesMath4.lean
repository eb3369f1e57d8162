/- Helpers for plain functions. -/
import Derived.Test.YtjddbfpinjjkkaaGreatDoorGlitchVetoesPlain2
namespace Go.Ev.GlitchVetoes
open Go Go.Ev
set_option linter.unusedVariables false
theorem w64_id {n : Int} (h1 : -9223372036854775808 ≤ n) (h2 : n ≤ 9223372036854775807) : w64 n = n := wrap_in .i64 n h1 h2
theorem up {i : Nat} (h : i < 9223372036854775807) : w64 ((i : Int) + 1) = ((i + 1 : Nat) : Int) := by rw [w64_id (by omega) (by omega)]; simp
theorem idx_nat {α : Type} (l : List α) (i : Nat) : idx l (i : Int) = l[i]? := rfl
theorem bnd_eq {α β : Type} (a : α) (f : α → Option β) : bnd (some a) f = f a := rfl
theorem bif_pos' {p : Prop} [Decidable p] (h : p) {α : Type} (x y : α) : (bif decide p then x else y) = x := by simp [h]
theorem bif_neg' {p : Prop} [Decidable p] (h : ¬ p) {α : Type} (x y : α) : (bif decide p then x else y) = y := by simp [h]
theorem upd_at {α : Type} {l : List α} {i : Nat} (h : i < l.length) (a : α) : upd l (i : Int) a = some (l.set i a) := by
 show (bif Nat.blt i l.length then some (l.set i a) else none) = _
 rw [show Nat.blt i l.length = true from Nat.ble_eq_true_of_le h]
 rfl
theorem inn_at {α : Type} {l : List α} {i : Nat} (h : i < l.length) : inn l (i : Int) = some i := by
 show (bif Nat.blt i l.length then some i else none) = _
 rw [show Nat.blt i l.length = true from Nat.ble_eq_true_of_le h]
 rfl
theorem apd_ok {α : Type} {l l' : List α} {z : Nat} (h : l.length + l'.length ≤ 1000000) (hz : z ≤ 64) : apd z l l' = some (l ++ l') := by
 unfold apd
 have : 2 * (l.length + l'.length) * z ≤ 2 * 1000000 * 64 := Nat.mul_le_mul (by omega) hz
 rw [show Nat.ble (l.length + l'.length) 4611686018427387904 = true from Nat.ble_eq_true_of_le (by omega), show Nat.ble (2 * (l.length + l'.length) * z) 281474976710656 = true from Nat.ble_eq_true_of_le (by omega)]
 rfl
theorem drop_get {α : Type} {l : List α} {i : Nat} {a : α} (h : l[i]? = some a) : l.drop i = a :: l.drop (i + 1) := by
 obtain ⟨hi, rfl⟩ := List.getElem?_eq_some_iff.1 h
 exact List.drop_eq_getElem_cons hi
theorem get_lt {α : Type} {l : List α} {i : Nat} (h : i < l.length) : ∃ a, l[i]? = some a := ⟨l[i], List.getElem?_eq_getElem h⟩
def inR (a b c : Int) : Bool := decide (a ≤ b) && decide (b ≤ c)
theorem inR_iff {a b c : Int} : inR a b c = true ↔ a ≤ b ∧ b ≤ c := by simp [inR]
theorem inR_false {a b c : Int} : inR a b c = false ↔ ¬ (a ≤ b ∧ b ≤ c) := by rw [← inR_iff]; simp
end Go.Ev.GlitchVetoes
namespace Go.Ev.GlitchVetoes
set_option linter.unusedVariables false
open Go Go.Ev
end Go.Ev.GlitchVetoes
namespace Go.Ev.GlitchVetoes
open Go Go.Ev Go.Proofs
set_option linter.unusedVariables false
def charB (i c : Int) : Bool := (decide (97 ≤ c) && decide (c ≤ 122)) || ((decide (48 ≤ c) && decide (c ≤ 57) || c == 95) && decide (0 < i))
def charsB : List Int → Int → Bool
 | [], _ => true
 | c :: r, i => charB i c && charsB r (i + 1)
def nameB (s : List UInt8) : Bool := decide (1 ≤ s.length) && (decide (s.length ≤ 16) && charsB (bytesI s) 0)
theorem nm3 (F : Nat) (hd : List Int → Int → Int → Option Bool) (c : Int) (l : List Int) (n i : Int) (lt : Bool) : num_IsName_3 F hd i c l n i lt = bif lt || ((decide (48 ≤ c) && decide (c ≤ 57) || c == 95) && decide (0 < i)) then hd l n (w64 (i + 1)) else some false := by
 unfold num_IsName_3 num_IsName_4 num_IsName_5 num_IsName_6 num_IsName_8 num_IsName_7
 cases lt <;> cases decide (48 ≤ c) <;> cases decide (c ≤ 57) <;> cases c == 95 <;> cases decide (0 < i) <;> rfl
theorem nm2 (F : Nat) (l : List Int) (hl : l.length ≤ 1000) : ∀ (k N i : Nat), k = l.length - i → i ≤ l.length → k < N → num_IsName_2 F N l l.length i = some (charsB (l.drop i) i)
 | k, 0, i, _, _, h => by omega
 | 0, N + 1, i, hk, hi, _ => by
  rw [num_IsName_2, bif_neg' (by omega), List.drop_of_length_le (by omega)]
  rfl
 | k + 1, N + 1, i, hk, hi, hN => by
  obtain ⟨c, hc⟩ := get_lt (l := l) (i := i) (by omega)
  rw [num_IsName_2, bif_pos' (by omega), idx_nat, hc, bnd_eq, nm3, nm3, up (by omega), nm2 F l hl k N (i + 1) (by omega) (by omega) (by omega), drop_get hc]
  show _ = some (charB i c && charsB (l.drop (i + 1)) ((i : Int) + 1))
  unfold charB
  rw [show ((i + 1 : Nat) : Int) = (i : Int) + 1 by omega]
  generalize charsB (l.drop (i + 1)) ((i : Int) + 1) = r
  cases decide (97 ≤ c) <;> cases decide (c ≤ 122) <;> cases ((decide (48 ≤ c) && decide (c ≤ 57) || c == 95) && decide (0 < (i : Int))) <;> rfl
theorem name_eq (F : Nat) (hF : 20 < F) (s : List UInt8) : num_IsName F s = some (nameB s) := by
 unfold num_IsName nameB num_IsName_1
 by_cases h0 : s.length = 0
 ·have e : s = [] := List.length_eq_zero_iff.1 h0
  subst e
  rfl
 ·have e0 : ((s.length : Int) == (0 : Int)) = false := by rw [beq_eq_false_iff_ne]; omega
  rw [e0, cond_false, decide_eq_true (show 1 ≤ s.length by omega), Bool.true_and]
  by_cases h1 : s.length ≤ 16
  ·rw [bif_neg' (by omega), decide_eq_true h1, Bool.true_and]
   have hb : byt s = some (bytesI s) := by
    unfold byt
    rw [Nat.ble_eq_true_of_le (by omega)]
    rfl
   have := nm2 F (bytesI s) (by rw [bytesI_len]; omega) (bytesI s).length F 0 rfl (by omega) (by rw [bytesI_len]; omega)
   rw [hb, bnd_eq]
   exact this
  ·rw [bif_pos' (by omega), decide_eq_false h1]
   rfl
end Go.Ev.GlitchVetoes
namespace Go.Ev.GlitchVetoes
open Go Go.Ev Go.Proofs
set_option linter.unusedVariables false
def letB (c : Int) : Bool := decide (97 ≤ c) && decide (c ≤ 122)
def othB (c : Int) : Bool := decide (48 ≤ c) && decide (c ≤ 57) || c == 95
theorem sAt_get {s : List UInt8} {i : Nat} {c : Int} (h : (bytesI s)[i]? = some c) : sAt s (i : Int) = some c := by
 unfold bytesI at h
 rw [List.getElem?_map] at h
 obtain ⟨b, hb, rfl⟩ := Option.map_eq_some_iff.1 h
 show (s[i]?).map _ = _
 rw [hb]
 rfl
theorem lt_not (a b : Int) : decide (a < b) = !decide (b ≤ a) := by
 by_cases h : b ≤ a
 ·rw [decide_eq_false (by omega), decide_eq_true h]; rfl
 ·rw [decide_eq_true (by omega), decide_eq_false h]; rfl
theorem rn5 (F : Nat) (hd : List UInt8 → Int → Option Bool) (s : List UInt8) (i c : Int) : (bif decide (c < 97) then ref01_IsName_5 F hd s i c true else ref01_IsName_5 F hd s i c (decide (122 < c))) = bif letB c || othB c then hd s (w64 (i + 1)) else some false := by
 unfold ref01_IsName_5 ref01_IsName_6 ref01_IsName_9 ref01_IsName_7 ref01_IsName_8 letB othB
 rw [lt_not c 97, lt_not 122 c, lt_not c 48, lt_not 57 c]
 cases decide (97 ≤ c) <;> cases decide (c ≤ 122) <;> cases decide (48 ≤ c) <;> cases decide (c ≤ 57) <;> cases c == 95 <;> rfl
theorem rn4 (F : Nat) (s : List UInt8) (hs : s.length ≤ 1000) : ∀ (k N i : Nat), k = s.length - i → i ≤ s.length → k < N → ref01_IsName_4 F N s i = some (((bytesI s).drop i).all fun c => letB c || othB c)
 | k, 0, i, _, _, h => by omega
 | 0, N + 1, i, hk, hi, _ => by
  rw [ref01_IsName_4, bif_neg' (by omega), List.drop_of_length_le (by rw [bytesI_len]; omega)]
  rfl
 | k + 1, N + 1, i, hk, hi, hN => by
  obtain ⟨c, hc⟩ := get_lt (l := bytesI s) (i := i) (by rw [bytesI_len]; omega)
  rw [ref01_IsName_4, bif_pos' (by omega), sAt_get hc, bnd_eq, rn5, up (by omega), rn4 F s hs k N (i + 1) (by omega) (by omega) (by omega), drop_get hc, List.all_cons]
  cases (letB c || othB c) <;> rfl
theorem charB_eq (i c : Int) : charB i c = (letB c || (othB c && decide (0 < i))) := rfl
theorem chars_pos : ∀ (l : List Int) (i : Int), 0 < i → charsB l i = l.all fun c => letB c || othB c
 | [], i, _ => rfl
 | c :: r, i, h => by
  show (charB i c && charsB r (i + 1)) = _
  rw [chars_pos r (i + 1) (by omega), charB_eq, decide_eq_true h, Bool.and_true, List.all_cons]
theorem rname_eq (F : Nat) (hF : 20 < F) (s : List UInt8) : ref01_IsName F s = some (nameB s) := by
 unfold ref01_IsName nameB ref01_IsName_1 ref01_IsName_2 ref01_IsName_3
 by_cases h0 : s.length = 0
 ·have e : s = [] := List.length_eq_zero_iff.1 h0
  subst e
  rfl
 ·rw [bif_neg' (by omega), decide_eq_true (show 1 ≤ s.length by omega), Bool.true_and]
  by_cases h1 : s.length ≤ 16
  ·obtain ⟨c, hc⟩ := get_lt (l := bytesI s) (i := 0) (by rw [bytesI_len]; omega)
   have hs0 : sAt s (0 : Int) = some c := sAt_get (i := 0) hc
   have hb : bytesI s = c :: (bytesI s).drop 1 := by
    have := drop_get hc
    rwa [List.drop_zero] at this
   have h4 := rn4 F s (by omega) s.length F 0 rfl (by omega) (by omega)
   rw [List.drop_zero] at h4
   have h4' : ref01_IsName_4 F F s (0 : Int) = _ := h4
   have e : charsB (bytesI s) 0 = (letB c && (bytesI s).all fun c => letB c || othB c) := by
    rw [hb]
    show (charB 0 c && charsB _ (0 + 1)) = _
    rw [chars_pos _ (0 + 1) (by omega), charB_eq, decide_eq_false (by omega), Bool.and_false, Bool.or_false, List.all_cons]
    cases letB c <;> simp
   rw [decide_eq_false (by omega), decide_eq_true h1, Bool.true_and, e, hs0, bnd_eq, bnd_eq, h4', lt_not c 97, lt_not 122 c]
   unfold letB
   cases decide (97 ≤ c) <;> cases decide (c ≤ 122) <;> rfl
  ·rw [decide_eq_true (by omega), decide_eq_false h1]
   rfl
end Go.Ev.GlitchVetoes
namespace Go.Ev.GlitchVetoes
open Go Go.Ev Go.Proofs
set_option linter.unusedVariables false
section
variable {K V : Type} {eq : K → K → Bool}
def lkM (eq : K → K → Bool) (k : K) : List (K × V) → Option V
 | [] => none
 | x :: l => bif eq k x.1 then some x.2 else lkM eq k l
theorem mfind_lk (k : K) : ∀ (l : List (K × V)) (i : Nat), (mfind eq k l i).map (·.2) = lkM eq k l
 | [], i => rfl
 | x :: l, i => by
  unfold mfind lkM
  cases eq k x.1 with
  | true => rfl
  | false => exact mfind_lk k l (i + 1)
theorem mget_lk (z : V) (l : List (K × V)) (k : K) : mget eq z l k = (lkM eq k l).getD z := by
 rw [← mfind_lk k l 0]
 unfold mget
 cases mfind eq k l 0 <;> rfl
def ptM (eq : K → K → Bool) (k : K) (v : V) : List (K × V) → List (K × V)
 | [] => [(k, v)]
 | x :: l => bif eq k x.1 then (k, v) :: l else x :: ptM eq k v l
theorem mput_pt (k : K) (v : V) : ∀ (l : List (K × V)) (i : Nat), (match mfind eq k l i with | some x => l.set (x.1 - i) (k, v) | none => l ++ [(k, v)]) = ptM eq k v l ∧ ∀ x, mfind eq k l i = some x → i ≤ x.1
 | [], i => ⟨rfl, fun x h => by simp [mfind] at h⟩
 | y :: l, i => by
  unfold mfind ptM
  cases h : eq k y.1 with
  | true =>
   refine ⟨?_, fun x hx => ?_⟩
   ·simp
   ·simp at hx
    rw [← hx]
    exact Nat.le_refl _
  | false =>
   obtain ⟨h1, h2⟩ := mput_pt k v l (i + 1)
   simp only [cond_false]
   cases hf : mfind eq k l (i + 1) with
   | none =>
    rw [hf] at h1
    refine ⟨?_, fun x hx => by simp at hx⟩
    simp only at h1 ⊢
    rw [← h1]
    rfl
   | some x =>
    have h3 := h2 x hf
    rw [hf] at h1
    refine ⟨?_, fun x' hx => ?_⟩
    ·simp only at h1 ⊢
     rw [← h1, show x.1 - i = (x.1 - (i + 1)) + 1 by omega]
     rfl
    ·simp only [Option.some.injEq] at hx
     subst hx
     omega
theorem mput_eq (l : List (K × V)) (k : K) (v : V) : mput eq l k v = ptM eq k v l := by
 rw [← (mput_pt k v l 0).1]
 unfold mput
 cases mfind eq k l 0 <;> rfl
theorem lk_pt (hE : ∀ a b, eq a b = true ↔ a = b) (k : K) (v : V) (x : K) : ∀ l : List (K × V), lkM eq x (ptM eq k v l) = bif eq x k then some v else lkM eq x l
 | [] => by
  unfold ptM lkM lkM
  rfl
 | y :: l => by
  unfold ptM
  cases h : eq k y.1 with
  | true =>
   have e := (hE _ _).1 h
   rw [cond_true]
   unfold lkM
   rw [← e]
   cases eq x k <;> rfl
  | false =>
   rw [cond_false]
   show (bif eq x y.1 then some y.2 else lkM eq x (ptM eq k v l)) = _
   rw [lk_pt hE k v x l]
   show _ = bif eq x k then some v else (bif eq x y.1 then some y.2 else lkM eq x l)
   cases h1 : eq x y.1 with
   | false => rfl
   | true =>
    cases h2 : eq x k with
    | false => rfl
    | true =>
     have e1 := (hE _ _).1 h1
     have e2 := (hE _ _).1 h2
     subst e2
     subst e1
     rw [(hE _ _).2 rfl] at h
     simp at h
theorem mget_put (hE : ∀ a b, eq a b = true ↔ a = b) (z : V) (l : List (K × V)) (k : K) (v : V) (x : K) : mget eq z (mput eq l k v) x = bif eq x k then v else mget eq z l x := by
 rw [mget_lk, mget_lk, mput_eq, lk_pt hE]
 cases eq x k <;> rfl
end
end Go.Ev.GlitchVetoes
