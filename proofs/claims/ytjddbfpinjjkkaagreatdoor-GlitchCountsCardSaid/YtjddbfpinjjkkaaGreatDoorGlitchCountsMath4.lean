/- Helpers for plain functions. -/
import Derived.Test.YtjddbfpinjjkkaaGreatDoorGlitchCountsPlain2
namespace Go.Ev.GlitchCounts
open Go Go.Ev
set_option linter.unusedVariables false
theorem w64_id {n : Int} (h1 : -9223372036854775808 ≤ n) (h2 : n ≤ 9223372036854775807) : w64 n = n := wrap_in .i64 n h1 h2
theorem up {i : Nat} (h : i < 9223372036854775807) : w64 ((i : Int) + 1) = ((i + 1 : Nat) : Int) := by rw [w64_id (by omega) (by omega)]; simp
theorem idx_nat {α : Type} (l : List α) (i : Nat) : idx l (i : Int) = l[i]? := rfl
theorem bnd_eq {α β : Type} (a : α) (f : α → Option β) : bnd (some a) f = f a := rfl
theorem bif_pos' {p : Prop} [Decidable p] (h : p) {α : Type} (x y : α) : (bif decide p then x else y) = x := by simp [h]
theorem bif_neg' {p : Prop} [Decidable p] (h : ¬ p) {α : Type} (x y : α) : (bif decide p then x else y) = y := by simp [h]
theorem upd_at {α : Type} {l : List α} {i : Nat} (h : i < l.length) (a : α) : upd l (i : Int) a = some (l.set i a) := by
 show (bif Nat.blt i l.length then some (l.set i a) else none) = _
 rw [show Nat.blt i l.length = true from Nat.ble_eq_true_of_le h]
 rfl
theorem inn_at {α : Type} {l : List α} {i : Nat} (h : i < l.length) : inn l (i : Int) = some i := by
 show (bif Nat.blt i l.length then some i else none) = _
 rw [show Nat.blt i l.length = true from Nat.ble_eq_true_of_le h]
 rfl
theorem apd_ok {α : Type} {l l' : List α} {z : Nat} (h : l.length + l'.length ≤ 1000000) (hz : z ≤ 64) : apd z l l' = some (l ++ l') := by
 unfold apd
 have : 2 * (l.length + l'.length) * z ≤ 2 * 1000000 * 64 := Nat.mul_le_mul (by omega) hz
 rw [show Nat.ble (l.length + l'.length) 4611686018427387904 = true from Nat.ble_eq_true_of_le (by omega), show Nat.ble (2 * (l.length + l'.length) * z) 281474976710656 = true from Nat.ble_eq_true_of_le (by omega)]
 rfl
theorem mk_ok {α : Type} {z : α} {n : Nat} {by' : Nat} (h : n ≤ 1000000) (hb : by' ≤ 64) : mk (n : Int) by' z = some (List.replicate n z) := by
 show (bif Nat.ble n 4611686018427387904 && Nat.ble (n * by') 281474976710656 then some (List.replicate n z) else none) = _
 have : n * by' ≤ 1000000 * 64 := Nat.mul_le_mul h hb
 rw [show Nat.ble n 4611686018427387904 = true from Nat.ble_eq_true_of_le (by omega), show Nat.ble (n * by') 281474976710656 = true from Nat.ble_eq_true_of_le (by omega)]
 rfl
theorem drop_get {α : Type} {l : List α} {i : Nat} {a : α} (h : l[i]? = some a) : l.drop i = a :: l.drop (i + 1) := by
 obtain ⟨hi, rfl⟩ := List.getElem?_eq_some_iff.1 h
 exact List.drop_eq_getElem_cons hi
theorem get_lt {α : Type} {l : List α} {i : Nat} (h : i < l.length) : ∃ a, l[i]? = some a := ⟨l[i], List.getElem?_eq_getElem h⟩
theorem w64_ex (n : Int) : ∃ p : Int, w64 n = n + 18446744073709551616 * p := by
 unfold w64 IntKind.wrap
 simp [IntKind.bits, IntKind.signed]
 split
 ·exact ⟨-(n / 18446744073709551616) - 1, by omega⟩
 ·exact ⟨-(n / 18446744073709551616), by omega⟩
theorem w64_cong {a b p : Int} (h : a = b + 18446744073709551616 * p) : w64 a = w64 b := by
 subst h
 unfold w64 IntKind.wrap
 simp [IntKind.bits, IntKind.signed]
theorem w64_addR (a b : Int) : w64 (a + w64 b) = w64 (a + b) := by
 obtain ⟨p, h⟩ := w64_ex b
 exact w64_cong (p := p) (by rw [h]; omega)
theorem w64_addL (a b : Int) : w64 (w64 a + b) = w64 (a + b) := by
 obtain ⟨p, h⟩ := w64_ex a
 exact w64_cong (p := p) (by rw [h]; omega)
theorem nz_ok {n : Int} (h : n ≠ 0) : nz n = some n := by
 unfold nz
 have : (n == 0) = false := by simpa using h
 rw [this]
 rfl
def inR (a b c : Int) : Bool := decide (a ≤ b) && decide (b ≤ c)
theorem inR_iff {a b c : Int} : inR a b c = true ↔ a ≤ b ∧ b ≤ c := by simp [inR]
end Go.Ev.GlitchCounts
namespace Go.Ev.GlitchCounts
set_option linter.unusedVariables false
open Go Go.Ev
theorem subP_ok {len a b : Nat} {lo hi : Int} (hlo : lo = a) (hhi : hi = b) (h1 : a ≤ b) (h2 : b ≤ len) : subP len lo hi = some (a, b - a) := by
 subst hlo; subst hhi
 show (bif decide (a ≤ b) && decide (b ≤ len) then some (a, b - a) else none) = _
 simp [h1, h2]
theorem parL_ok {α : Type} {l : List α} {off len : Nat} (h : off + len ≤ l.length) : parL l off len = some ((l.drop off).take len) := by
 unfold parL
 simp [h]
theorem inP_ok {α : Type} {l : List α} {off len i : Nat} {j : Int} (hj : j = i) (h1 : i < len) (h2 : off + i < l.length) : inP l off len j = some (off + i) := by
 subst hj
 show (bif Nat.blt i len && Nat.blt (off + i) l.length then some (off + i) else none) = _
 rw [show Nat.blt i len = true from Nat.ble_eq_true_of_le h1, show Nat.blt (off + i) l.length = true from Nat.ble_eq_true_of_le h2]
 rfl
end Go.Ev.GlitchCounts
namespace Go.Ev.GlitchCounts
open Go Go.Ev Go.Proofs
set_option linter.unusedVariables false
section
variable {K V : Type} {eq : K → K → Bool}
def lkM (eq : K → K → Bool) (k : K) : List (K × V) → Option V
 | [] => none
 | x :: l => bif eq k x.1 then some x.2 else lkM eq k l
theorem mfind_lk (k : K) : ∀ (l : List (K × V)) (i : Nat), (mfind eq k l i).map (·.2) = lkM eq k l
 | [], i => rfl
 | x :: l, i => by
  unfold mfind lkM
  cases eq k x.1 with
  | true => rfl
  | false => exact mfind_lk k l (i + 1)
theorem mget_lk (z : V) (l : List (K × V)) (k : K) : mget eq z l k = (lkM eq k l).getD z := by
 rw [← mfind_lk k l 0]
 unfold mget
 cases mfind eq k l 0 <;> rfl
def ptM (eq : K → K → Bool) (k : K) (v : V) : List (K × V) → List (K × V)
 | [] => [(k, v)]
 | x :: l => bif eq k x.1 then (k, v) :: l else x :: ptM eq k v l
theorem mput_pt (k : K) (v : V) : ∀ (l : List (K × V)) (i : Nat), (match mfind eq k l i with | some x => l.set (x.1 - i) (k, v) | none => l ++ [(k, v)]) = ptM eq k v l ∧ ∀ x, mfind eq k l i = some x → i ≤ x.1
 | [], i => ⟨rfl, fun x h => by simp [mfind] at h⟩
 | y :: l, i => by
  unfold mfind ptM
  cases h : eq k y.1 with
  | true =>
   refine ⟨?_, fun x hx => ?_⟩
   ·simp
   ·simp at hx
    rw [← hx]
    exact Nat.le_refl _
  | false =>
   obtain ⟨h1, h2⟩ := mput_pt k v l (i + 1)
   simp only [cond_false]
   cases hf : mfind eq k l (i + 1) with
   | none =>
    rw [hf] at h1
    refine ⟨?_, fun x hx => by simp at hx⟩
    simp only at h1 ⊢
    rw [← h1]
    rfl
   | some x =>
    have h3 := h2 x hf
    rw [hf] at h1
    refine ⟨?_, fun x' hx => ?_⟩
    ·simp only at h1 ⊢
     rw [← h1, show x.1 - i = (x.1 - (i + 1)) + 1 by omega]
     rfl
    ·simp only [Option.some.injEq] at hx
     subst hx
     omega
theorem mput_eq (l : List (K × V)) (k : K) (v : V) : mput eq l k v = ptM eq k v l := by
 rw [← (mput_pt k v l 0).1]
 unfold mput
 cases mfind eq k l 0 <;> rfl
end
end Go.Ev.GlitchCounts
namespace Go.Ev.GlitchCounts
open Go Go.Ev Go.Proofs
set_option linter.unusedVariables false
theorem put_at {α : Type} (P R : List α) (x y : α) : (P ++ x :: R).set P.length y = P ++ y :: R := by
 rw [List.set_append_right _ _ (Nat.le_refl _), Nat.sub_self]
 rfl
theorem put_far {α : Type} (P N Q : List α) (u x y : α) : (P ++ u :: (N ++ y :: Q)).set (P.length + 1 + N.length) x = P ++ u :: (N ++ x :: Q) := by
 have e : P ++ u :: (N ++ y :: Q) = (P ++ u :: N) ++ y :: Q := by simp
 have e2 : P.length + 1 + N.length = (P ++ u :: N).length := by simp; omega
 rw [e, e2, put_at]
 simp
theorem get_at {α : Type} (P R : List α) (x : α) : (P ++ x :: R)[P.length]? = some x := by
 rw [List.getElem?_append_right (Nat.le_refl _), Nat.sub_self]
 rfl
theorem get_far {α : Type} (P N Q : List α) (u y : α) : (P ++ u :: (N ++ y :: Q))[P.length + 1 + N.length]? = some y := by
 have e : P ++ u :: (N ++ y :: Q) = (P ++ u :: N) ++ y :: Q := by simp
 have e2 : P.length + 1 + N.length = (P ++ u :: N).length := by simp; omega
 rw [e, e2, get_at]
theorem swap_ok {α β : Type} (P N Q : List α) (x y : α) {i j : Int} (hi : i = (P.length : Nat)) (hj : j = ((P.length + 1 + N.length : Nat) : Int)) (f : List α → Option β) :
  (bnd (idx (P ++ x :: (N ++ y :: Q)) j) fun a => bnd (idx (P ++ x :: (N ++ y :: Q)) i) fun b => bnd (inn (P ++ x :: (N ++ y :: Q)) i) fun o => bnd (upd (P ++ x :: (N ++ y :: Q)) o a) fun l => bnd (inn l j) fun o2 => bnd (upd l o2 b) fun l2 => f l2) = f (P ++ y :: (N ++ x :: Q)) := by
 subst hi; subst hj
 rw [idx_nat, get_far, bnd_eq, idx_nat, get_at, bnd_eq, inn_at (by simp <;> omega), bnd_eq, upd_at (by simp <;> omega), bnd_eq, put_at, inn_at (by simp <;> omega), bnd_eq, upd_at (by simp <;> omega), bnd_eq, put_far]
theorem swap_ok' {α β : Type} (P N Q : List α) (x y : α) {i j : Int} (hi : i = (P.length : Nat)) (hj : j = ((P.length + 1 + N.length : Nat) : Int)) (f : List α → Option β) :
  (bnd (idx (P ++ x :: (N ++ y :: Q)) i) fun a => bnd (idx (P ++ x :: (N ++ y :: Q)) j) fun b => bnd (inn (P ++ x :: (N ++ y :: Q)) j) fun o => bnd (upd (P ++ x :: (N ++ y :: Q)) o a) fun l => bnd (inn l i) fun o2 => bnd (upd l o2 b) fun l2 => f l2) = f (P ++ y :: (N ++ x :: Q)) := by
 subst hi; subst hj
 rw [idx_nat, get_at, bnd_eq, idx_nat, get_far, bnd_eq, inn_at (by simp <;> omega), bnd_eq, upd_at (by simp <;> omega), bnd_eq, put_far, inn_at (by simp <;> omega), bnd_eq, upd_at (by simp <;> omega), bnd_eq, put_at]
section
variable (F : Nat) (e1 e2 e3 : Int) (el : List S_api_Glitch) (hdR : Int → Int → Int → List S_api_Glitch → Option (List S_api_Glitch)) (c1 c2 c3 c4 c5 : Int)
theorem l12 (m i j : Int) : ∀ (U V P M Q : List S_api_Glitch) (N a b n k : Nat), U.length = V.length → P.length = a + k → P.length + U.length + M.length = b + k → n = k + U.length → n + a + b ≤ 1000000 →
  slices_symMergeCmpFunc_h1_12 F e1 e2 e3 el hdR (U.length + (N + 1)) a b n k m i j c1 c2 c3 c4 c5 (P ++ U ++ M ++ V ++ Q) = slices_symMergeCmpFunc_h1_13 F e1 e2 e3 el (slices_symMergeCmpFunc_h1_12 F e1 e2 e3 el hdR N) hdR F m (w64 (i - j)) j c1 c2 c3 c4 c5 (P ++ V ++ M ++ U ++ Q)
 | [], [], P, M, Q, N, a, b, n, k, _, h1, h2, h3, h4 => by
  simp only [List.length_nil, Nat.zero_add, Nat.add_zero] at h2 h3 ⊢
  rw [slices_symMergeCmpFunc_h1_12, bif_neg' (by omega)]
 | x :: U, y :: V, P, M, Q, N, a, b, n, k, hl, h1, h2, h3, h4 => by
  have hl' : U.length = V.length := by simpa using hl
  simp only [List.length_cons] at h2 h3
  have ih := l12 m i j U V (P ++ [y]) (M ++ [x]) Q N a b n (k + 1) hl' (by simp <;> omega) (by simp <;> omega) (by omega) h4
  have e : P ++ x :: U ++ M ++ y :: V ++ Q = P ++ x :: ((U ++ M) ++ y :: (V ++ Q)) := by simp
  have e' : P ++ y :: ((U ++ M) ++ x :: (V ++ Q)) = (P ++ [y]) ++ U ++ (M ++ [x]) ++ V ++ Q := by simp
  have e3' : (x :: U).length + (N + 1) = (U.length + (N + 1)) + 1 := by simp <;> omega
  have ea : w64 ((a : Int) + k) = (P.length : Nat) := by rw [w64_id (by omega) (by omega)]; omega
  have eb : w64 ((b : Int) + k) = ((P.length + 1 + (U ++ M).length : Nat) : Int) := by rw [w64_id (by omega) (by omega)]; simp <;> omega
  rw [e3', slices_symMergeCmpFunc_h1_12, bif_pos' (by omega), e]
  refine (swap_ok P (U ++ M) (V ++ Q) x y ea eb _).trans ?_
  rw [up (by omega), e', ih]
  simp
 | [], y :: V, P, M, Q, N, a, b, n, k, hl, _, _, _, _ => by simp at hl
 | x :: U, [], P, M, Q, N, a, b, n, k, hl, _, _, _, _ => by simp at hl
theorem l21 (m i j : Int) : ∀ (U V P M Q : List S_api_Glitch) (N a b n k : Nat), U.length = V.length → P.length = a + k → P.length + U.length + M.length = b + k → n = k + U.length → n + a + b ≤ 1000000 →
  slices_symMergeCmpFunc_h1_21 F e1 e2 e3 el hdR (U.length + (N + 1)) a b n k m i j c1 c2 c3 c4 c5 (P ++ U ++ M ++ V ++ Q) = slices_symMergeCmpFunc_h1_22 F e1 e2 e3 el (slices_symMergeCmpFunc_h1_21 F e1 e2 e3 el hdR N) hdR F m i (w64 (j - i)) c1 c2 c3 c4 c5 (P ++ V ++ M ++ U ++ Q)
 | [], [], P, M, Q, N, a, b, n, k, _, h1, h2, h3, h4 => by
  simp only [List.length_nil, Nat.zero_add, Nat.add_zero] at h2 h3 ⊢
  rw [slices_symMergeCmpFunc_h1_21, bif_neg' (by omega)]
 | x :: U, y :: V, P, M, Q, N, a, b, n, k, hl, h1, h2, h3, h4 => by
  have hl' : U.length = V.length := by simpa using hl
  simp only [List.length_cons] at h2 h3
  have ih := l21 m i j U V (P ++ [y]) (M ++ [x]) Q N a b n (k + 1) hl' (by simp <;> omega) (by simp <;> omega) (by omega) h4
  have e : P ++ x :: U ++ M ++ y :: V ++ Q = P ++ x :: ((U ++ M) ++ y :: (V ++ Q)) := by simp
  have e' : P ++ y :: ((U ++ M) ++ x :: (V ++ Q)) = (P ++ [y]) ++ U ++ (M ++ [x]) ++ V ++ Q := by simp
  have e3' : (x :: U).length + (N + 1) = (U.length + (N + 1)) + 1 := by simp <;> omega
  have ea : w64 ((a : Int) + k) = (P.length : Nat) := by rw [w64_id (by omega) (by omega)]; omega
  have eb : w64 ((b : Int) + k) = ((P.length + 1 + (U ++ M).length : Nat) : Int) := by rw [w64_id (by omega) (by omega)]; simp <;> omega
  rw [e3', slices_symMergeCmpFunc_h1_21, bif_pos' (by omega), e]
  refine (swap_ok P (U ++ M) (V ++ Q) x y ea eb _).trans ?_
  rw [up (by omega), e', ih]
  simp
 | [], y :: V, P, M, Q, N, a, b, n, k, hl, _, _, _, _ => by simp at hl
 | x :: U, [], P, M, Q, N, a, b, n, k, hl, _, _, _, _ => by simp at hl
theorem l14 (hd13 : Int → Int → Int → Int → Int → Int → Int → Int → List S_api_Glitch → Option (List S_api_Glitch)) (m i j : Int) : ∀ (U V P M Q : List S_api_Glitch) (N a b n k : Nat), U.length = V.length → P.length = a + k → P.length + U.length + M.length = b + k → n = k + U.length → n + a + b ≤ 1000000 →
  slices_symMergeCmpFunc_h1_14 F e1 e2 e3 el hd13 (U.length + (N + 1)) a b n k m i j c1 c2 c3 c4 c5 (P ++ U ++ M ++ V ++ Q) = hd13 m i (w64 (j - i)) c1 c2 c3 c4 c5 (P ++ V ++ M ++ U ++ Q)
 | [], [], P, M, Q, N, a, b, n, k, _, h1, h2, h3, h4 => by
  simp only [List.length_nil, Nat.zero_add, Nat.add_zero] at h2 h3 ⊢
  rw [slices_symMergeCmpFunc_h1_14, bif_neg' (by omega)]
 | x :: U, y :: V, P, M, Q, N, a, b, n, k, hl, h1, h2, h3, h4 => by
  have hl' : U.length = V.length := by simpa using hl
  simp only [List.length_cons] at h2 h3
  have ih := l14 hd13 m i j U V (P ++ [y]) (M ++ [x]) Q N a b n (k + 1) hl' (by simp <;> omega) (by simp <;> omega) (by omega) h4
  have e : P ++ x :: U ++ M ++ y :: V ++ Q = P ++ x :: ((U ++ M) ++ y :: (V ++ Q)) := by simp
  have e' : P ++ y :: ((U ++ M) ++ x :: (V ++ Q)) = (P ++ [y]) ++ U ++ (M ++ [x]) ++ V ++ Q := by simp
  have e3' : (x :: U).length + (N + 1) = (U.length + (N + 1)) + 1 := by simp <;> omega
  have ea : w64 ((a : Int) + k) = (P.length : Nat) := by rw [w64_id (by omega) (by omega)]; omega
  have eb : w64 ((b : Int) + k) = ((P.length + 1 + (U ++ M).length : Nat) : Int) := by rw [w64_id (by omega) (by omega)]; simp <;> omega
  rw [e3', slices_symMergeCmpFunc_h1_14, bif_pos' (by omega), e]
  refine (swap_ok P (U ++ M) (V ++ Q) x y ea eb _).trans ?_
  rw [up (by omega), e', ih]
  simp
 | [], y :: V, P, M, Q, N, a, b, n, k, hl, _, _, _, _ => by simp at hl
 | x :: U, [], P, M, Q, N, a, b, n, k, hl, _, _, _, _ => by simp at hl
theorem l15 : ∀ (U V P M Q : List S_api_Glitch) (N a b n k : Nat), U.length = V.length → P.length = a + k → P.length + U.length + M.length = b + k → n = k + U.length → n + a + b ≤ 1000000 →
  slices_symMergeCmpFunc_h1_15 F e1 e2 e3 el hdR (U.length + (N + 1)) a b n k  c1 c2 c3 c4 c5 (P ++ U ++ M ++ V ++ Q) = slices_symMergeCmpFunc_h1_16 F e1 e2 e3 el hdR c1 c2 c3 c4 c5 (P ++ V ++ M ++ U ++ Q)
 | [], [], P, M, Q, N, a, b, n, k, _, h1, h2, h3, h4 => by
  simp only [List.length_nil, Nat.zero_add, Nat.add_zero] at h2 h3 ⊢
  rw [slices_symMergeCmpFunc_h1_15, bif_neg' (by omega)]
 | x :: U, y :: V, P, M, Q, N, a, b, n, k, hl, h1, h2, h3, h4 => by
  have hl' : U.length = V.length := by simpa using hl
  simp only [List.length_cons] at h2 h3
  have ih := l15 U V (P ++ [y]) (M ++ [x]) Q N a b n (k + 1) hl' (by simp <;> omega) (by simp <;> omega) (by omega) h4
  have e : P ++ x :: U ++ M ++ y :: V ++ Q = P ++ x :: ((U ++ M) ++ y :: (V ++ Q)) := by simp
  have e' : P ++ y :: ((U ++ M) ++ x :: (V ++ Q)) = (P ++ [y]) ++ U ++ (M ++ [x]) ++ V ++ Q := by simp
  have e3' : (x :: U).length + (N + 1) = (U.length + (N + 1)) + 1 := by simp <;> omega
  have ea : w64 ((a : Int) + k) = (P.length : Nat) := by rw [w64_id (by omega) (by omega)]; omega
  have eb : w64 ((b : Int) + k) = ((P.length + 1 + (U ++ M).length : Nat) : Int) := by rw [w64_id (by omega) (by omega)]; simp <;> omega
  rw [e3', slices_symMergeCmpFunc_h1_15, bif_pos' (by omega), e]
  refine (swap_ok P (U ++ M) (V ++ Q) x y ea eb _).trans ?_
  rw [up (by omega), e', ih]
  simp
 | [], y :: V, P, M, Q, N, a, b, n, k, hl, _, _, _, _ => by simp at hl
 | x :: U, [], P, M, Q, N, a, b, n, k, hl, _, _, _, _ => by simp at hl
end
end Go.Ev.GlitchCounts
namespace Go.Ev.GlitchCounts
open Go Go.Ev Go.Proofs
set_option linter.unusedVariables false
section
variable (F : Nat) (e1 e2 e3 : Int) (el : List S_api_Glitch) (hdR : Int → Int → Int → List S_api_Glitch → Option (List S_api_Glitch)) (c1 c2 c3 c4 c5 : Int)
theorem r13 (hF : 3000 < F) : ∀ (μ : Nat) (X Y P Q : List S_api_Glitch) (N N12 m i j : Nat), X.length + Y.length ≤ μ → μ ≤ 1100 → X.length = i → Y.length = j → 0 < i → 0 < j → m = P.length + i → m + j ≤ 1100 → μ < N → 2 * μ + 2 ≤ N12 →
  slices_symMergeCmpFunc_h1_13 F e1 e2 e3 el (slices_symMergeCmpFunc_h1_12 F e1 e2 e3 el hdR N12) hdR N m i j c1 c2 c3 c4 c5 (P ++ X ++ Y ++ Q) = slices_symMergeCmpFunc_h1_16 F e1 e2 e3 el hdR c1 c2 c3 c4 c5 (P ++ Y ++ X ++ Q)
 | 0, X, Y, P, Q, N, N12, m, i, j, h, _, hx, hy, hi, hj, hm, hb, hN, h12 => by omega
 | μ + 1, X, Y, P, Q, 0, N12, m, i, j, h, _, hx, hy, hi, hj, hm, hb, hN, h12 => by omega
 | μ + 1, X, Y, P, Q, N + 1, N12, m, i, j, h, hμ, hx, hy, hi, hj, hm, hb, hN, h12 => by
  have em : w64 ((m : Int) - i) = (P.length : Nat) := by rw [w64_id (by omega) (by omega)]; omega
  rw [slices_symMergeCmpFunc_h1_13, em]
  by_cases hij : i = j
  ·subst hij
   rw [show (!((i : Int) == (i : Int))) = false by simp, cond_false]
   obtain ⟨G, hG⟩ : ∃ G, F = X.length + (G + 1) := ⟨F - X.length - 1, by omega⟩
   have := l15 F e1 e2 e3 el hdR c1 c2 c3 c4 c5 X Y P [] Q G P.length m i 0 (by omega) rfl (by simp; omega) (by omega) (by omega)
   rw [← hG, List.append_nil, List.append_nil] at this
   exact this
  ·rw [show (!((i : Int) == (j : Int))) = true by simp; omega, cond_true]
   by_cases hlt : j < i
   ·rw [bif_pos' (by omega)]
    have hX1 : (X.take j).length = j := by rw [List.length_take]; omega
    have hX2 : (X.drop j).length = i - j := by rw [List.length_drop]; omega
    have eX : X = X.take j ++ X.drop j := (List.take_append_drop j X).symm
    generalize X.take j = X1 at hX1 eX
    generalize X.drop j = X2 at hX2 eX
    subst eX
    obtain ⟨G, hG⟩ : ∃ G, N12 = X1.length + (G + 1) := ⟨N12 - X1.length - 1, by omega⟩
    have h1 := l12 F e1 e2 e3 el hdR c1 c2 c3 c4 c5 m i j X1 Y P X2 Q G P.length m j 0 (by omega) rfl (by omega) (by omega) (by omega)
    rw [← hG] at h1
    have ew : w64 ((i : Int) - j) = ((i - j : Nat) : Int) := by rw [w64_id (by omega) (by omega)]; omega
    rw [ew] at h1
    have h2 := r13 hF (μ - (j - 1)) X2 X1 (P ++ Y) Q F G m (i - j) j (by omega) (by omega) hX2 hX1 (by omega) (by omega) (by simp; omega) (by omega) (by omega) (by omega)
    have e0 : P ++ (X1 ++ X2) ++ Y ++ Q = P ++ X1 ++ X2 ++ Y ++ Q := by simp
    have e9 : P ++ Y ++ (X1 ++ X2) ++ Q = P ++ Y ++ X1 ++ X2 ++ Q := by simp
    rw [e0, e9]
    exact h1.trans h2
   ·rw [bif_neg' (by omega)]
    have hY1 : (Y.take (j - i)).length = j - i := by rw [List.length_take]; omega
    have hY2 : (Y.drop (j - i)).length = i := by rw [List.length_drop]; omega
    have eY : Y = Y.take (j - i) ++ Y.drop (j - i) := (List.take_append_drop (j - i) Y).symm
    generalize Y.take (j - i) = Y1 at hY1 eY
    generalize Y.drop (j - i) = Y2 at hY2 eY
    subst eY
    obtain ⟨G, hG⟩ : ∃ G, F = X.length + (G + 1) := ⟨F - X.length - 1, by omega⟩
    have eb : w64 (w64 ((m : Int) + j) - i) = ((m + j - i : Nat) : Int) := by rw [w64_id (n := (m : Int) + j) (by omega) (by omega), w64_id (by omega) (by omega)]; omega
    have h1 := l14 F e1 e2 e3 el c1 c2 c3 c4 c5 (slices_symMergeCmpFunc_h1_13 F e1 e2 e3 el (slices_symMergeCmpFunc_h1_12 F e1 e2 e3 el hdR N12) hdR N) m i j X Y2 P Y1 Q G P.length (m + j - i) i 0 (by omega) rfl (by omega) (by omega) (by omega)
    rw [← hG] at h1
    have ew : w64 ((j : Int) - i) = ((j - i : Nat) : Int) := by rw [w64_id (by omega) (by omega)]; omega
    rw [ew] at h1
    have h2 := r13 hF (μ - (i - 1)) Y2 Y1 P (X ++ Q) N N12 m i (j - i) (by omega) (by omega) hY2 hY1 (by omega) (by omega) (by omega) (by omega) (by omega) (by omega)
    have e0 : P ++ X ++ (Y1 ++ Y2) ++ Q = P ++ X ++ Y1 ++ Y2 ++ Q := by simp
    have e8 : P ++ Y2 ++ Y1 ++ X ++ Q = P ++ Y2 ++ Y1 ++ (X ++ Q) := by simp
    have e9 : P ++ (Y1 ++ Y2) ++ X ++ Q = P ++ Y1 ++ Y2 ++ (X ++ Q) := by simp
    rw [e0, e9, eb]
    rw [e8] at h1
    exact h1.trans h2
termination_by μ => μ
decreasing_by all_goals omega
theorem r22 (hF : 3000 < F) : ∀ (μ : Nat) (X Y P Q : List S_api_Glitch) (N N21 m i j : Nat), X.length + Y.length ≤ μ → μ ≤ 1100 → X.length = i → Y.length = j → 0 < i → 0 < j → m = P.length + i → m + j ≤ 1100 → 0 < N → 2 * μ + 2 ≤ N21 →
  slices_symMergeCmpFunc_h1_22 F e1 e2 e3 el (slices_symMergeCmpFunc_h1_21 F e1 e2 e3 el hdR N21) hdR N m i j c1 c2 c3 c4 c5 (P ++ X ++ Y ++ Q) = slices_symMergeCmpFunc_h1_16 F e1 e2 e3 el hdR c1 c2 c3 c4 c5 (P ++ Y ++ X ++ Q)
 | 0, X, Y, P, Q, N, N12, m, i, j, h, _, hx, hy, hi, hj, hm, hb, hN, h12 => by omega
 | μ + 1, X, Y, P, Q, 0, N12, m, i, j, h, _, hx, hy, hi, hj, hm, hb, hN, h12 => by omega
 | μ + 1, X, Y, P, Q, N + 1, N21, m, i, j, h, hμ, hx, hy, hi, hj, hm, hb, hN, h12 => by
  have em : w64 ((m : Int) - i) = (P.length : Nat) := by rw [w64_id (by omega) (by omega)]; omega
  rw [slices_symMergeCmpFunc_h1_22, em]
  by_cases hij : i = j
  ·subst hij
   rw [show (!((i : Int) == (i : Int))) = false by simp, cond_false]
   obtain ⟨G, hG⟩ : ∃ G, F = X.length + (G + 1) := ⟨F - X.length - 1, by omega⟩
   have := l15 F e1 e2 e3 el hdR c1 c2 c3 c4 c5 X Y P [] Q G P.length m i 0 (by omega) rfl (by simp; omega) (by omega) (by omega)
   rw [← hG, List.append_nil, List.append_nil] at this
   exact this
  ·rw [show (!((i : Int) == (j : Int))) = true by simp; omega, cond_true]
   by_cases hlt : j < i
   ·rw [bif_pos' (by omega)]
    have hX1 : (X.take j).length = j := by rw [List.length_take]; omega
    have hX2 : (X.drop j).length = i - j := by rw [List.length_drop]; omega
    have eX : X = X.take j ++ X.drop j := (List.take_append_drop j X).symm
    generalize X.take j = X1 at hX1 eX
    generalize X.drop j = X2 at hX2 eX
    subst eX
    obtain ⟨G, hG⟩ : ∃ G, F = X1.length + (G + 1) := ⟨F - X1.length - 1, by omega⟩
    have h1 := l12 F e1 e2 e3 el hdR c1 c2 c3 c4 c5 m i j X1 Y P X2 Q G P.length m j 0 (by omega) rfl (by omega) (by omega) (by omega)
    rw [← hG] at h1
    have ew : w64 ((i : Int) - j) = ((i - j : Nat) : Int) := by rw [w64_id (by omega) (by omega)]; omega
    rw [ew] at h1
    have h2 := r13 F e1 e2 e3 el hdR c1 c2 c3 c4 c5 hF i X2 X1 (P ++ Y) Q F G m (i - j) j (by omega) (by omega) hX2 hX1 (by omega) (by omega) (by simp; omega) (by omega) (by omega) (by omega)
    have e0 : P ++ (X1 ++ X2) ++ Y ++ Q = P ++ X1 ++ X2 ++ Y ++ Q := by simp
    have e9 : P ++ Y ++ (X1 ++ X2) ++ Q = P ++ Y ++ X1 ++ X2 ++ Q := by simp
    rw [e0, e9]
    exact h1.trans h2
   ·rw [bif_neg' (by omega)]
    have hY1 : (Y.take (j - i)).length = j - i := by rw [List.length_take]; omega
    have hY2 : (Y.drop (j - i)).length = i := by rw [List.length_drop]; omega
    have eY : Y = Y.take (j - i) ++ Y.drop (j - i) := (List.take_append_drop (j - i) Y).symm
    generalize Y.take (j - i) = Y1 at hY1 eY
    generalize Y.drop (j - i) = Y2 at hY2 eY
    subst eY
    obtain ⟨G, hG⟩ : ∃ G, N21 = X.length + (G + 1) := ⟨N21 - X.length - 1, by omega⟩
    have eb : w64 (w64 ((m : Int) + j) - i) = ((m + j - i : Nat) : Int) := by rw [w64_id (n := (m : Int) + j) (by omega) (by omega), w64_id (by omega) (by omega)]; omega
    have h1 := l21 F e1 e2 e3 el hdR c1 c2 c3 c4 c5 m i j X Y2 P Y1 Q G P.length (m + j - i) i 0 (by omega) rfl (by omega) (by omega) (by omega)
    rw [← hG] at h1
    have ew : w64 ((j : Int) - i) = ((j - i : Nat) : Int) := by rw [w64_id (by omega) (by omega)]; omega
    rw [ew] at h1
    have h2 := r22 hF (μ - (i - 1)) Y2 Y1 P (X ++ Q) F G m i (j - i) (by omega) (by omega) hY2 hY1 (by omega) (by omega) (by omega) (by omega) (by omega) (by omega)
    have e0 : P ++ X ++ (Y1 ++ Y2) ++ Q = P ++ X ++ Y1 ++ Y2 ++ Q := by simp
    have e8 : P ++ Y2 ++ Y1 ++ X ++ Q = P ++ Y2 ++ Y1 ++ (X ++ Q) := by simp
    have e9 : P ++ (Y1 ++ Y2) ++ X ++ Q = P ++ Y1 ++ Y2 ++ (X ++ Q) := by simp
    rw [e0, e9, eb]
    rw [e8] at h1
    exact h1.trans h2
termination_by μ => μ
decreasing_by all_goals omega
end
section
variable (F : Nat) (e1 e2 e3 : Int) (hdR : Int → Int → Int → List S_api_Glitch → Option (List S_api_Glitch)) (c1 c2 c3 c4 c5 : Int)
theorem rot_eq (hF : 6000 < F) (X Y P Q : List S_api_Glitch) (m i j : Nat) (hx : X.length = i) (hy : Y.length = j) (hi : 0 < i) (hj : 0 < j) (hm : m = P.length + i) (hb : m + j ≤ 1100) :
  slices_symMergeCmpFunc_h1_10 F e1 e2 e3 (P ++ X ++ Y ++ Q) hdR F m i j c1 c2 c3 c4 c5 = slices_symMergeCmpFunc_h1_16 F e1 e2 e3 (P ++ X ++ Y ++ Q) hdR c1 c2 c3 c4 c5 (P ++ Y ++ X ++ Q) := by
 obtain ⟨F', hF'⟩ : ∃ F', F = F' + 1 := ⟨F - 1, by omega⟩
 have em : w64 ((m : Int) - i) = (P.length : Nat) := by rw [w64_id (by omega) (by omega)]; omega
 have unf : slices_symMergeCmpFunc_h1_10 F e1 e2 e3 (P ++ X ++ Y ++ Q) hdR F m i j c1 c2 c3 c4 c5 = slices_symMergeCmpFunc_h1_10 F e1 e2 e3 (P ++ X ++ Y ++ Q) hdR (F' + 1) m i j c1 c2 c3 c4 c5 := by rw [hF']
 rw [unf, slices_symMergeCmpFunc_h1_10, em]
 by_cases hij : i = j
 ·subst hij
  rw [show (!((i : Int) == (i : Int))) = false by simp, cond_false]
  obtain ⟨G, hG⟩ : ∃ G, F = X.length + (G + 1) := ⟨F - X.length - 1, by omega⟩
  have := l15 F e1 e2 e3 (P ++ X ++ Y ++ Q) hdR c1 c2 c3 c4 c5 X Y P [] Q G P.length m i 0 (by omega) rfl (by simp; omega) (by omega) (by omega)
  rw [← hG, List.append_nil, List.append_nil] at this
  exact this
 ·rw [show (!((i : Int) == (j : Int))) = true by simp; omega, cond_true]
  by_cases hlt : j < i
  ·rw [bif_pos' (by omega)]
   have hX1 : (X.take j).length = j := by rw [List.length_take]; omega
   have hX2 : (X.drop j).length = i - j := by rw [List.length_drop]; omega
   have eX : X = X.take j ++ X.drop j := (List.take_append_drop j X).symm
   generalize X.take j = X1 at hX1 eX
   generalize X.drop j = X2 at hX2 eX
   subst eX
   obtain ⟨x, X1, rfl⟩ : ∃ x l, X1 = x :: l := List.exists_cons_of_length_pos (by omega)
   obtain ⟨y, Y, rfl⟩ : ∃ x l, Y = x :: l := List.exists_cons_of_length_pos (by omega)
   simp only [List.length_cons] at hX1 hy
   have e0 : P ++ (x :: X1 ++ X2) ++ y :: Y ++ Q = P ++ x :: ((X1 ++ X2) ++ y :: (Y ++ Q)) := by simp
   have e0' : P ++ y :: ((X1 ++ X2) ++ x :: (Y ++ Q)) = (P ++ [y]) ++ X1 ++ (X2 ++ [x]) ++ Y ++ Q := by simp
   have e9 : P ++ y :: Y ++ (x :: X1 ++ X2) ++ Q = (P ++ y :: Y) ++ (x :: X1) ++ X2 ++ Q := by simp
   have ea : w64 ((P.length : Nat) + (0 : Int)) = (P.length : Nat) := by rw [w64_id (by omega) (by omega)]; omega
   have eb : w64 ((m : Int) + 0) = ((P.length + 1 + (X1 ++ X2).length : Nat) : Int) := by rw [w64_id (by omega) (by omega)]; simp; omega
   have ew : w64 ((i : Int) - j) = ((i - j : Nat) : Int) := by rw [w64_id (by omega) (by omega)]; omega
   obtain ⟨G, hG⟩ : ∃ G, F = X1.length + (G + 1) := ⟨F - X1.length - 1, by omega⟩
   have h1 := l12 F e1 e2 e3 (P ++ (x :: X1 ++ X2) ++ y :: Y ++ Q) hdR c1 c2 c3 c4 c5 m i j X1 Y (P ++ [y]) (X2 ++ [x]) Q G P.length m j 1 (by omega) (by simp) (by simp; omega) (by omega) (by omega)
   rw [← hG, ew] at h1
   have h2 := r13 F e1 e2 e3 (P ++ (x :: X1 ++ X2) ++ y :: Y ++ Q) hdR c1 c2 c3 c4 c5 (by omega) i X2 (x :: X1) (P ++ y :: Y) Q F G m (i - j) j (by simp; omega) (by omega) hX2 (by simp; omega) (by omega) (by omega) (by simp; omega) (by omega) (by omega) (by omega)
   have e7 : (P ++ [y]) ++ Y ++ (X2 ++ [x]) ++ X1 ++ Q = (P ++ y :: Y) ++ X2 ++ (x :: X1) ++ Q := by simp
   rw [e7] at h1
   have unf2 : ∀ hd, slices_symMergeCmpFunc_h1_11 F e1 e2 e3 (P ++ (x :: X1 ++ X2) ++ y :: Y ++ Q) hd hdR F (P.length : Nat) m j 0 m i j c1 c2 c3 c4 c5 = slices_symMergeCmpFunc_h1_11 F e1 e2 e3 (P ++ (x :: X1 ++ X2) ++ y :: Y ++ Q) hd hdR (F' + 1) (P.length : Nat) m j 0 m i j c1 c2 c3 c4 c5 := fun hd => by rw [hF']
   rw [unf2, slices_symMergeCmpFunc_h1_11, bif_pos' (by omega), e9]
   refine Eq.trans ?_ (h1.trans h2)
   generalize hel : P ++ (x :: X1 ++ X2) ++ y :: Y ++ Q = el at *
   have hel' : el = P ++ x :: ((X1 ++ X2) ++ y :: (Y ++ Q)) := by rw [← e0, ← hel]
   have := swap_ok P (X1 ++ X2) (Y ++ Q) x y ea eb (fun l155 => slices_symMergeCmpFunc_h1_12 F e1 e2 e3 el hdR F (P.length : Nat) m j (w64 ((0 : Int) + (1 : Int))) m i j c1 c2 c3 c4 c5 l155)
   rw [← hel', e0'] at this
   exact this
  ·rw [bif_neg' (by omega)]
   have hY1 : (Y.take (j - i)).length = j - i := by rw [List.length_take]; omega
   have hY2 : (Y.drop (j - i)).length = i := by rw [List.length_drop]; omega
   have eY : Y = Y.take (j - i) ++ Y.drop (j - i) := (List.take_append_drop (j - i) Y).symm
   generalize Y.take (j - i) = Y1 at hY1 eY
   generalize Y.drop (j - i) = Y2 at hY2 eY
   subst eY
   obtain ⟨x, X, rfl⟩ : ∃ x l, X = x :: l := List.exists_cons_of_length_pos (by omega)
   obtain ⟨y, Y2, rfl⟩ : ∃ x l, Y2 = x :: l := List.exists_cons_of_length_pos (by omega)
   simp only [List.length_cons] at hY2 hx
   have e0 : P ++ x :: X ++ (Y1 ++ y :: Y2) ++ Q = P ++ x :: ((X ++ Y1) ++ y :: (Y2 ++ Q)) := by simp
   have e0' : P ++ y :: ((X ++ Y1) ++ x :: (Y2 ++ Q)) = (P ++ [y]) ++ X ++ (Y1 ++ [x]) ++ Y2 ++ Q := by simp
   have e9 : P ++ (Y1 ++ y :: Y2) ++ x :: X ++ Q = P ++ Y1 ++ (y :: Y2) ++ (x :: X ++ Q) := by simp
   have ea : w64 ((P.length : Nat) + (0 : Int)) = (P.length : Nat) := by rw [w64_id (by omega) (by omega)]; omega
   have ebb : w64 (w64 ((m : Int) + j) - i) = ((m + j - i : Nat) : Int) := by rw [w64_id (n := (m : Int) + j) (by omega) (by omega), w64_id (by omega) (by omega)]; omega
   have eb : w64 (((m + j - i : Nat) : Int) + 0) = ((P.length + 1 + (X ++ Y1).length : Nat) : Int) := by rw [w64_id (by omega) (by omega)]; simp; omega
   have ew : w64 ((j : Int) - i) = ((j - i : Nat) : Int) := by rw [w64_id (by omega) (by omega)]; omega
   obtain ⟨G, hG⟩ : ∃ G, F = X.length + (G + 1) := ⟨F - X.length - 1, by omega⟩
   have h1 := l21 F e1 e2 e3 (P ++ x :: X ++ (Y1 ++ y :: Y2) ++ Q) hdR c1 c2 c3 c4 c5 m i j X Y2 (P ++ [y]) (Y1 ++ [x]) Q G P.length (m + j - i) i 1 (by omega) (by simp) (by simp; omega) (by omega) (by omega)
   rw [← hG, ew] at h1
   have h2 := r22 F e1 e2 e3 (P ++ x :: X ++ (Y1 ++ y :: Y2) ++ Q) hdR c1 c2 c3 c4 c5 (by omega) j (y :: Y2) Y1 P (x :: X ++ Q) F G m i (j - i) (by simp; omega) (by omega) (by simp; omega) hY1 (by omega) (by omega) (by omega) (by omega) (by omega) (by omega)
   have e7 : (P ++ [y]) ++ Y2 ++ (Y1 ++ [x]) ++ X ++ Q = P ++ (y :: Y2) ++ Y1 ++ (x :: X ++ Q) := by simp
   rw [e7] at h1
   have unf2 : ∀ hd, slices_symMergeCmpFunc_h1_20 F e1 e2 e3 (P ++ x :: X ++ (Y1 ++ y :: Y2) ++ Q) hd hdR F (P.length : Nat) ((m + j - i : Nat) : Int) i 0 m i j c1 c2 c3 c4 c5 = slices_symMergeCmpFunc_h1_20 F e1 e2 e3 (P ++ x :: X ++ (Y1 ++ y :: Y2) ++ Q) hd hdR (F' + 1) (P.length : Nat) ((m + j - i : Nat) : Int) i 0 m i j c1 c2 c3 c4 c5 := fun hd => by rw [hF']
   rw [ebb, unf2, slices_symMergeCmpFunc_h1_20, bif_pos' (by omega), e9]
   refine Eq.trans ?_ (h1.trans h2)
   generalize hel : P ++ x :: X ++ (Y1 ++ y :: Y2) ++ Q = el at *
   have hel' : el = P ++ x :: ((X ++ Y1) ++ y :: (Y2 ++ Q)) := by rw [← e0, ← hel]
   have := swap_ok P (X ++ Y1) (Y2 ++ Q) x y ea eb (fun l155 => slices_symMergeCmpFunc_h1_21 F e1 e2 e3 el hdR F (P.length : Nat) ((m + j - i : Nat) : Int) i (w64 ((0 : Int) + (1 : Int))) m i j c1 c2 c3 c4 c5 l155)
   rw [← hel', e0'] at this
   exact this
end
end Go.Ev.GlitchCounts
