/- Plain mathematics of words, long division, Lehmer's steps, Newton's root and decimal numerals: nothing of the program; no conditions. -/
import Derived.Lib.ItoaNum
namespace Go.Proofs.YtdjaigpcfhbcmaaGreatDoor
open Go.Lib

/-- The number that words say, the lowest first. -/
def wv : List Nat → Nat
  | [] => 0
  | x :: l => x + 18446744073709551616 * wv l

/-- 2^64 to the power n, behind a name. -/
def bp (n : Nat) : Nat := 18446744073709551616 ^ n

theorem bp_zero : bp 0 = 1 := rfl
theorem bp_succ (n : Nat) : bp (n + 1) = 18446744073709551616 * bp n := by unfold bp; rw [Nat.pow_succ, Nat.mul_comm]
theorem bp_add (m n : Nat) : bp (m + n) = bp m * bp n := by unfold bp; rw [Nat.pow_add]
theorem bp_pos (n : Nat) : 0 < bp n := Nat.pow_pos (by decide)
theorem bp_mono {m n : Nat} (h : m ≤ n) : bp m ≤ bp n := Nat.pow_le_pow_right (by decide) h
theorem bp_lt {m n : Nat} (h : m < n) : bp m < bp n := Nat.pow_lt_pow_right (by decide) h

theorem wv_nil : wv [] = 0 := rfl
theorem wv_cons (x : Nat) (l : List Nat) : wv (x :: l) = x + 18446744073709551616 * wv l := rfl

theorem wv_append : ∀ l m : List Nat, wv (l ++ m) = wv l + bp l.length * wv m
  | [], m => by simp [wv, bp_zero]
  | x :: l, m => by
    rw [List.cons_append, wv_cons, wv_cons, wv_append l m, List.length_cons, bp_succ, Nat.mul_add, Nat.mul_assoc, Nat.add_assoc]

theorem wv_snoc (l : List Nat) (x : Nat) : wv (l ++ [x]) = wv l + bp l.length * x := by
  rw [wv_append]; simp [wv]

theorem wv_replicate : ∀ n : Nat, wv (List.replicate n 0) = 0
  | 0 => rfl
  | n + 1 => by rw [List.replicate_succ, wv_cons, wv_replicate n]

def Small (l : List Nat) : Prop := ∀ x ∈ l, x < 18446744073709551616

theorem Small.nil : Small [] := fun _ h => by cases h
theorem Small.cons {x : Nat} {l : List Nat} (h : x < 18446744073709551616) (hl : Small l) : Small (x :: l) := fun y hy => by
  rcases List.mem_cons.1 hy with rfl | hy
  · exact h
  · exact hl y hy
theorem Small.append {l m : List Nat} (h : Small l) (k : Small m) : Small (l ++ m) := fun y hy => by
  rcases List.mem_append.1 hy with hy | hy
  · exact h y hy
  · exact k y hy
theorem Small.take {l : List Nat} (h : Small l) (n : Nat) : Small (l.take n) := fun y hy => h y (List.mem_of_mem_take hy)
theorem Small.drop {l : List Nat} (h : Small l) (n : Nat) : Small (l.drop n) := fun y hy => h y (List.mem_of_mem_drop hy)
theorem Small.replicate (n : Nat) : Small (List.replicate n 0) := fun y hy => by
  rw [List.mem_replicate] at hy; omega
theorem Small.set {l : List Nat} (h : Small l) (i : Nat) {x : Nat} (hx : x < 18446744073709551616) : Small (l.set i x) := fun y hy => by
  rcases List.mem_or_eq_of_mem_set hy with hy | rfl
  · exact h y hy
  · exact hx
theorem Small.getD {l : List Nat} (h : Small l) (i : Nat) : l.getD i 0 < 18446744073709551616 := by
  rw [List.getD_eq_getElem?_getD]
  by_cases hi : i < l.length
  · rw [List.getElem?_eq_getElem hi]; exact h _ (List.getElem_mem hi)
  · rw [List.getElem?_eq_none (by omega)]; decide

theorem wv_lt : ∀ {l : List Nat}, Small l → wv l < bp l.length
  | [], _ => by simp [wv, bp_zero]
  | x :: l, h => by
    have h0 : x < 18446744073709551616 := h x (List.mem_cons_self ..)
    have h1 := wv_lt (l := l) (fun y hy => h y (List.mem_cons_of_mem _ hy))
    rw [List.length_cons, bp_succ, wv_cons]
    have : 18446744073709551616 * (wv l + 1) ≤ 18446744073709551616 * bp l.length := Nat.mul_le_mul_left _ h1
    omega

theorem wv_split (l : List Nat) (k : Nat) (h : k ≤ l.length) : wv l = wv (l.take k) + bp k * wv (l.drop k) := by
  have := wv_append (l.take k) (l.drop k)
  rw [List.take_append_drop, List.length_take, Nat.min_eq_left h] at this
  exact this

theorem take_succ_getD (l : List Nat) (k : Nat) (h : k < l.length) : l.take (k + 1) = l.take k ++ [l.getD k 0] := by
  rw [List.take_succ_eq_append_getElem h, List.getD_eq_getElem?_getD, List.getElem?_eq_getElem h]; rfl

theorem wv_take_succ (l : List Nat) (k : Nat) (h : k < l.length) : wv (l.take (k + 1)) = wv (l.take k) + bp k * l.getD k 0 := by
  rw [take_succ_getD l k h, wv_snoc, List.length_take, Nat.min_eq_left (by omega)]

theorem drop_getD (l : List Nat) (k : Nat) (h : k < l.length) : l.drop k = l.getD k 0 :: l.drop (k + 1) := by
  rw [List.drop_eq_getElem_cons h, List.getD_eq_getElem?_getD, List.getElem?_eq_getElem h]; rfl

theorem wv_drop (l : List Nat) (k : Nat) (h : k < l.length) : wv (l.drop k) = l.getD k 0 + 18446744073709551616 * wv (l.drop (k + 1)) := by
  rw [drop_getD l k h, wv_cons]

/-- How many words are left when zeros are cut off behind. -/
def trimLen (l : List Nat) : Nat → Nat
  | 0 => 0
  | k + 1 => if l.getD k 0 = 0 then trimLen l k else k + 1

theorem trimLen_le (l : List Nat) : ∀ k, trimLen l k ≤ k
  | 0 => Nat.le_refl _
  | k + 1 => by unfold trimLen; split; exact Nat.le_succ_of_le (trimLen_le l k); exact Nat.le_refl _

theorem wv_trim (l : List Nat) : ∀ k, k ≤ l.length → wv (l.take (trimLen l k)) = wv (l.take k)
  | 0, _ => rfl
  | k + 1, h => by
    unfold trimLen
    split
    · rename_i h0
      rw [wv_trim l k (by omega), wv_take_succ l k (by omega), h0]; simp
    · rfl

theorem trim_last (l : List Nat) : ∀ k, k ≤ l.length → (l.take (trimLen l k)).getLast? ≠ some 0
  | 0, _ => by simp [trimLen]
  | k + 1, h => by
    unfold trimLen
    split
    · exact trim_last l k (by omega)
    · rename_i h0
      rw [take_succ_getD l k (by omega)]
      simpa using h0

theorem wv_zero : ∀ {l : List Nat}, wv l = 0 → l.getLast? ≠ some 0 → l = []
  | [], _, _ => rfl
  | [x], h, h2 => by unfold wv wv at h; simp at h2; omega
  | x :: y :: l, h, h2 => by
    have h3 : wv (y :: l) = 0 := by have := wv_cons x (y :: l); omega
    have := wv_zero h3 (by simpa using h2)
    simp at this

/-- A number without zeros behind is at least 2^64 to the power of its words less one. -/
theorem wv_ge {l : List Nat} (h : l ≠ []) (h2 : l.getLast? ≠ some 0) : bp (l.length - 1) ≤ wv l := by
  obtain ⟨x, m, rfl⟩ : ∃ x m, l = m ++ [x] := ⟨l.getLast h, l.dropLast, (List.dropLast_concat_getLast h).symm⟩
  rw [wv_snoc]
  have hx : x ≠ 0 := by simpa using h2
  simp only [List.length_append, List.length_singleton, Nat.add_sub_cancel]
  have : bp m.length * 1 ≤ bp m.length * x := Nat.mul_le_mul_left _ (Nat.pos_of_ne_zero hx)
  omega

/-- Words say what they are: two lists without zeros behind that say the same number are the same. -/
theorem wv_inj : ∀ {l m : List Nat}, Small l → Small m → l.length = m.length → wv l = wv m → l = m
  | [], [], _, _, _, _ => rfl
  | [], _ :: _, _, _, h, _ => by simp at h
  | _ :: _, [], _, _, h, _ => by simp at h
  | x :: l, y :: m, hl, hm, h, e => by
    have hx : x < 18446744073709551616 := hl x (List.mem_cons_self ..)
    have hy : y < 18446744073709551616 := hm y (List.mem_cons_self ..)
    rw [wv_cons, wv_cons] at e
    have h1 : x = y := by omega
    have h2 : wv l = wv m := by omega
    rw [h1, wv_inj (fun z hz => hl z (List.mem_cons_of_mem _ hz)) (fun z hz => hm z (List.mem_cons_of_mem _ hz)) (by simpa using h) h2]

/-- How many words a number has. -/
theorem len_lt {l m : List Nat} (hl : Small l) (hm : m.getLast? ≠ some 0) (h : l.length < m.length) : wv l < wv m := by
  have h1 := wv_lt hl
  have hne : m ≠ [] := by intro e; subst e; simp at h
  have h2 := wv_ge hne hm
  have h3 : bp l.length ≤ bp (m.length - 1) := bp_mono (by omega)
  omega

theorem wv_take_succ' (l : List Nat) (k : Nat) : wv (l.take (k + 1)) = wv (l.take k) + bp k * l.getD k 0 := by
  by_cases h : k < l.length
  · exact wv_take_succ l k h
  · rw [List.take_of_length_le (by omega), List.take_of_length_le (by omega), List.getD_eq_getElem?_getD, List.getElem?_eq_none (by omega)]; simp

theorem wv_set : ∀ (l : List Nat) (i x : Nat), i < l.length → wv (l.set i x) + bp i * l.getD i 0 = wv l + bp i * x
  | [], i, x, h => by simp at h
  | y :: l, 0, x, _ => by simp [wv, bp_zero]; omega
  | y :: l, i + 1, x, h => by
    have ih := wv_set l i x (by simpa using h)
    rw [List.set_cons_succ, wv_cons, wv_cons, List.getD_cons_succ, bp_succ, Nat.mul_assoc, Nat.mul_assoc]
    omega

theorem bp_lt_of_mul {n x y : Nat} (h : bp n * x < bp n * y) : x < y := Nat.lt_of_mul_lt_mul_left h

/-- The word and the carry of a sum. -/
def addW (x w c : Nat) : Nat := (x + w + c) % 18446744073709551616
def addC (x w c : Nat) : Nat := (x + w + c) / 18446744073709551616
theorem addW_lt (x w c : Nat) : addW x w c < 18446744073709551616 := by unfold addW; omega
theorem addC_le {x w c : Nat} (hx : x < 18446744073709551616) (hw : w < 18446744073709551616) (hc : c ≤ 1) : addC x w c ≤ 1 := by unfold addC; omega
theorem add_eq (x w c : Nat) : addW x w c + 18446744073709551616 * addC x w c = x + w + c := by unfold addW addC; omega

/-- One step of an addition at place p. -/
theorem add_step (l : List Nat) (p w c : Nat) (hp : p < l.length) :
    wv (l.set p (addW (l.getD p 0) w c)) + bp (p + 1) * addC (l.getD p 0) w c = wv l + bp p * (w + c) := by
  have h := wv_set l p (addW (l.getD p 0) w c) hp
  have e := congrArg (bp p * ·) (add_eq (l.getD p 0) w c)
  simp only [Nat.mul_add] at e
  rw [bp_succ, Nat.mul_add, Nat.mul_comm 18446744073709551616 (bp p), Nat.mul_assoc]
  omega

/-- The word and the borrow of a difference. -/
def subW (x y b : Nat) : Nat := (x + 18446744073709551616 - y - b) % 18446744073709551616
def subC (x y b : Nat) : Nat := if x < y + b then 1 else 0
theorem subW_lt (x w c : Nat) : subW x w c < 18446744073709551616 := by unfold subW; omega
theorem subC_le (x w c : Nat) : subC x w c ≤ 1 := by unfold subC; split <;> omega
theorem sub_eq {x y b : Nat} (hx : x < 18446744073709551616) (hy : y < 18446744073709551616) (hb : b ≤ 1) : x + 18446744073709551616 * subC x y b = subW x y b + y + b := by
  unfold subW subC; split <;> omega

/-- One step of a subtraction: a the first number so far, r the rest, b the second number. -/
theorem sub_step {A R V P x y b : Nat} (hx : x < 18446744073709551616) (hy : y < 18446744073709551616) (hb : b ≤ 1) (h : A + P * b = R + V) :
    (A + P * x) + (18446744073709551616 * P) * subC x y b = (R + P * subW x y b) + (V + P * y) := by
  have e := congrArg (P * ·) (sub_eq hx hy hb)
  simp only [Nat.mul_add] at e
  rw [Nat.mul_comm 18446744073709551616 P, Nat.mul_assoc]
  omega

/-- The upper and the lower word of a product and two words: no more than two words. -/
theorem mul_le {w f c r : Nat} (hw : w < 18446744073709551616) (hf : f < 18446744073709551616) (hc : c < 18446744073709551616) (hr : r < 18446744073709551616) :
    w * f + c + r < 340282366920938463463374607431768211456 := by
  have : w * f ≤ 18446744073709551615 * 18446744073709551615 := Nat.mul_le_mul (by omega) (by omega)
  omega

/-- One step of a product's row: the word at p, and the carry. -/
theorem mul_step (l : List Nat) (p w f c : Nat) (hp : p < l.length) :
    wv (l.set p ((w * f + c + l.getD p 0) % 18446744073709551616)) + bp (p + 1) * ((w * f + c + l.getD p 0) / 18446744073709551616) = wv l + bp p * (w * f + c) := by
  have h := wv_set l p ((w * f + c + l.getD p 0) % 18446744073709551616) hp
  have e := congrArg (bp p * ·) (Nat.div_add_mod (w * f + c + l.getD p 0) 18446744073709551616)
  simp only [Nat.mul_add] at e
  rw [bp_succ, Nat.mul_add, Nat.mul_comm 18446744073709551616 (bp p), Nat.mul_assoc]
  omega

/-- What the program reckons of a product with two carries is that. -/
theorem mul_parts {w f c r : Nat} (hw : w < 18446744073709551616) (hf : f < 18446744073709551616) (hc : c < 18446744073709551616) (hr : r < 18446744073709551616) :
    addW (addW (w * f % 18446744073709551616) c 0) 0 0 = addW (w * f % 18446744073709551616) c 0 ∧
    addW r (addW (w * f % 18446744073709551616) c 0) 0 = (w * f + c + r) % 18446744073709551616 ∧
    w * f / 18446744073709551616 + addC (w * f % 18446744073709551616) c 0 < 18446744073709551616 ∧
    w * f / 18446744073709551616 + addC (w * f % 18446744073709551616) c 0 + addC r (addW (w * f % 18446744073709551616) c 0) 0 = (w * f + c + r) / 18446744073709551616 ∧
    (w * f + c + r) / 18446744073709551616 < 18446744073709551616 := by
  have h := mul_le hw hf hc hr
  unfold addW addC
  generalize w * f = m at *
  omega

theorem dig_ge {K u a b n : Nat} (hn : n < K) (ha : 0 < a) : (u * K + n) / (a * K + b) ≤ u / a := by
  have h1 := Nat.div_add_mod u a
  have h2 := Nat.mod_lt u ha
  have hK : 0 < K := by omega
  have h0 : 0 < a * K := Nat.mul_pos ha hK
  apply Nat.le_of_lt_succ
  rw [Nat.div_lt_iff_lt_mul (by omega)]
  generalize u / a = q at *
  generalize u % a = r at *
  have h3 : (r + 1) * K ≤ a * K := Nat.mul_le_mul_right _ h2
  rw [Nat.add_mul, Nat.one_mul] at h3
  have h4 : (q + 1) * (a * K + b) = (a * q) * K + a * K + (q + 1) * b := by
    rw [Nat.mul_add, Nat.add_mul q 1 (a * K), Nat.one_mul, ← Nat.mul_assoc, Nat.mul_comm q a]
  rw [Nat.succ_eq_add_one, h4, ← h1, Nat.add_mul]
  omega

/-- The guess is right, or too small, where its product with the lower half is not too great. -/
theorem dig_done {K u a b n q r : Nat} (hs : q * a + r = u) (hv : 0 < a) (hK : 0 < K) (hd : q * b ≤ K * r + n) : q ≤ (u * K + n) / (a * K + b) := by
  have h0 : 0 < a * K := Nat.mul_pos hv hK
  rw [Nat.le_div_iff_mul_le (by omega)]
  rw [Nat.mul_add, ← Nat.mul_assoc, ← hs, Nat.add_mul, Nat.mul_comm r K]
  omega

/-- The guess is too great where its product is. -/
theorem dig_more {K u a b n q r : Nat} (hs : q * a + r = u) (hv : 0 < a) (hK : 0 < K) (hd : K * r + n < q * b) : (u * K + n) / (a * K + b) < q := by
  have h0 : 0 < a * K := Nat.mul_pos hv hK
  rw [Nat.div_lt_iff_lt_mul (by omega), Nat.mul_add, ← Nat.mul_assoc, ← hs, Nat.add_mul, Nat.mul_comm r K]
  omega

/-- A digit is less than the base. -/
theorem dig_lt {K u a b n : Nat} (hn : n < K) (hu : u < a * K + b) : (u * K + n) / (a * K + b) < K := by
  rw [Nat.div_lt_iff_lt_mul (by omega)]
  have h := Nat.mul_le_mul_right K hu
  rw [Nat.succ_mul] at h
  rw [Nat.mul_comm K]
  omega

/-- Behind the last step the rest is the base at least: then the guess is not too great. -/
theorem dig_out {K b n q r : Nat} (hq : q ≤ K) (hb : b ≤ K) (hr : K ≤ r) : q * b ≤ K * r + n := by
  have h1 := Nat.mul_le_mul_right b hq
  have h2 := Nat.mul_le_mul_left K (Nat.le_trans hb hr)
  omega

theorem dig_small {K u a b q r : Nat} (hs : q * a + r = u) (hu : u < a * K + b) (hr : b ≤ r) : q < K := by
  rcases Nat.lt_or_ge q K with h | h
  · exact h
  · have h3 := Nat.mul_le_mul_right a h
    rw [Nat.mul_comm K] at h3
    omega

theorem dig_two' {K u n1 n0 v q r : Nat} (e : v * q + r = u * K + n1) :
    u * (K * K) + (n1 * K + n0) = v * (q * K) + (r * K + n0) := by
  rw [← Nat.mul_assoc, ← Nat.mul_assoc, ← Nat.add_assoc, ← Nat.add_assoc, ← Nat.add_mul, ← Nat.add_mul, e]

/-- Two digits make the quotient. -/
theorem dig_two (K u n1 n0 v : Nat) (hv : 0 < v) :
    (u * (K * K) + (n1 * K + n0)) / v = (u * K + n1) / v * K + ((u * K + n1) % v * K + n0) / v ∧
    (u * (K * K) + (n1 * K + n0)) % v = ((u * K + n1) % v * K + n0) % v := by
  rw [dig_two' (Nat.div_add_mod (u * K + n1) v), Nat.mul_add_div hv, Nat.mul_add_mod]
  exact ⟨rfl, rfl⟩

/-- What is shifted up on both sides has the same quotient, and the rest shifted up. -/
theorem shift_div (N y s : Nat) : N * 2 ^ s / (y * 2 ^ s) = N / y ∧ N * 2 ^ s % (y * 2 ^ s) / 2 ^ s = N % y := by
  have hp : 0 < 2 ^ s := Nat.pow_pos (by decide)
  refine ⟨Nat.mul_div_mul_right _ _ hp, ?_⟩
  rw [Nat.mul_mod_mul_right, Nat.mul_div_cancel _ hp]

/-- The quotient of the three highest digits by the two highest is the whole quotient, or one more. P: the power of the base below; al, bl: what is below. -/
theorem knuth {U V P al bl K : Nat} (hal : al < P) (hbl : bl < P) (hV : K ≤ V) (hK : 0 < K) (hq : U / V ≤ K) :
    (U * P + al) / (V * P + bl) ≤ U / V ∧ U / V ≤ (U * P + al) / (V * P + bl) + 1 := by
  have hP : 0 < P := by omega
  have hV0 : 0 < V := by omega
  have hVP : 0 < V * P := Nat.mul_pos hV0 hP
  constructor
  · apply Nat.le_of_lt_succ
    rw [Nat.div_lt_iff_lt_mul (by omega)]
    have h1 := Nat.div_add_mod U V
    have h2 := Nat.mod_lt U hV0
    generalize U / V = q at *
    generalize U % V = r at *
    have h3 : (r + 1) * P ≤ V * P := Nat.mul_le_mul_right _ h2
    rw [Nat.add_mul, Nat.one_mul] at h3
    have h4 : (q + 1) * (V * P + bl) = (V * q) * P + V * P + (q + 1) * bl := by
      rw [Nat.mul_add, Nat.add_mul q 1 (V * P), Nat.one_mul, ← Nat.mul_assoc, Nat.mul_comm q V]
    rw [Nat.succ_eq_add_one, h4, ← h1, Nat.add_mul]
    omega
  · have h1 := Nat.div_mul_le_self U V
    generalize U / V = q at *
    rcases Nat.eq_zero_or_pos q with rfl | hq0
    · exact Nat.zero_le _
    · obtain ⟨p, rfl⟩ : ∃ p, q = p + 1 := ⟨q - 1, by omega⟩
      apply Nat.succ_le_succ
      rw [Nat.le_div_iff_mul_le (by omega)]
      -- p (V P + bl) ≤ p (V + 1) P ≤ U P
      have h5 : p * (V + 1) ≤ U := by
        rw [Nat.add_mul] at h1
        rw [Nat.mul_add]
        omega
      have h6 := Nat.mul_le_mul_right P h5
      have h7 : p * (V * P + bl) ≤ p * (V + 1) * P := by
        rw [Nat.mul_assoc, Nat.add_mul V 1 P, Nat.one_mul]
        exact Nat.mul_le_mul_left _ (by omega)
      omega

/-- One step of taking a multiple of b out: A what there was, R what is left so far, mb the multiple so far. -/
theorem take_step {K A R R' M P x w m l c c' br br' d : Nat} (hI : R + M = A + P * (br + c)) (e1 : w * m + c = l + K * c') (e2 : x + K * br' = d + l + br)
    (hR : R' + P * x = R + P * d) : R' + (M + P * (w * m)) = A + K * P * (br' + c') := by
  have f1 := congrArg (P * ·) e1
  have f2 := congrArg (P * ·) e2
  simp only [Nat.mul_add, ← Nat.mul_assoc] at f1 f2 hI ⊢
  rw [Nat.mul_comm K P]
  omega

/-- What the loop of leading steps keeps; x0, y0: the leading bits at the start. -/
structure Steps (x0 y0 x y a1 a2 b1 b2 : Nat) (odd : Bool) : Prop where
  ex : x0 = b2 * x + b1 * y
  ey : y0 = a2 * x + a1 * y
  det : if odd then a1 * b2 = a2 * b1 + 1 else a2 * b1 = a1 * b2 + 1
  le : y ≤ x
  ab : (a1 = 1 ∧ b1 = 0 ∧ a2 = 0 ∧ b2 = 1 ∧ odd = true) ∨ (a1 ≤ b1 ∧ a2 ≤ b2 ∧ 0 < b1 ∧ 0 < a2)

theorem Steps.start {x0 y0 : Nat} (h : y0 ≤ x0) : Steps x0 y0 x0 y0 1 0 0 1 true :=
  ⟨by simp, by simp, by simp, h, .inl (by simp)⟩

/-- One step more, where y is not 0. -/
theorem Steps.step {x0 y0 x y a1 a2 b1 b2 : Nat} {odd : Bool} (h : Steps x0 y0 x y a1 a2 b1 b2 odd) (hy : 0 < y) :
    Steps x0 y0 y (x - x / y * y) a2 (a1 + x / y * a2) b2 (b1 + x / y * b2) (!odd) := by
  have hm := Nat.div_add_mod x y
  have hl := Nat.mod_lt x hy
  have hq1 : 0 < x / y := Nat.div_pos h.le hy
  have hx : x = x / y * y + (x - x / y * y) := by rw [Nat.mul_comm]; omega
  have hr : x - x / y * y < y := by rw [Nat.mul_comm]; omega
  have hex := h.ex
  have hey := h.ey
  generalize x / y = q at *
  generalize x - q * y = r at *
  refine ⟨?_, ?_, ?_, by omega, ?_⟩
  · rw [hex, hx, Nat.add_mul, Nat.mul_add]
    have : b2 * (q * y) = q * b2 * y := by rw [Nat.mul_comm q b2, Nat.mul_assoc]
    omega
  · rw [hey, hx, Nat.add_mul, Nat.mul_add]
    have : a2 * (q * y) = q * a2 * y := by rw [Nat.mul_comm q a2, Nat.mul_assoc]
    omega
  · have hd := h.det
    have e1 : a2 * (b1 + q * b2) = a2 * b1 + a2 * q * b2 := by rw [Nat.mul_add, Nat.mul_assoc]
    have e2 : (a1 + q * a2) * b2 = a1 * b2 + a2 * q * b2 := by rw [Nat.add_mul, Nat.mul_comm q a2]
    cases odd
    · simp only [Bool.false_eq_true, if_false, Bool.not_false, if_true] at hd ⊢
      omega
    · simp only [if_true, Bool.not_true, Bool.false_eq_true, if_false] at hd ⊢
      omega
  · refine .inr ?_
    rcases h.ab with ⟨e1, e2, e3, e4, _⟩ | ⟨h1, h2, h3, h4⟩
    · subst e1; subst e2; subst e3; subst e4
      simp; omega
    · have h5 := Nat.mul_le_mul_left q h2
      have h6 := Nat.mul_le_mul hq1 h4
      refine ⟨h2, by omega, by omega, by omega⟩

/-- No word grows too great. -/
theorem Steps.bound {x0 y0 x y a1 a2 b1 b2 : Nat} {odd : Bool} (h : Steps x0 y0 x y a1 a2 b1 b2 odd) (hy : 0 < y) : b1 + b2 ≤ x0 ∧ a1 + a2 ≤ y0 := by
  have hx : 0 < x := Nat.lt_of_lt_of_le hy h.le
  have e1 := Nat.mul_le_mul_left b2 hx
  have e2 := Nat.mul_le_mul_left b1 hy
  have e3 := Nat.mul_le_mul_left a2 hx
  have e4 := Nat.mul_le_mul_left a1 hy
  have := h.ex
  have := h.ey
  omega

/-- What the steps make of the whole numbers A = x0 T + al and B = y0 T + be: a new pair X, Y in order, of which both are made; T: the power of 2 of the bits that were left out. -/
theorem Steps.whole {x0 y0 x y a1 a2 b1 b2 T al be : Nat} {odd : Bool} (h : Steps x0 y0 x y a1 a2 b1 b2 odd) (hal : al < T) (hbe : be < T)
    (hc1 : b2 ≤ y) (hc2 : b1 + b2 ≤ x - y) (hn : odd = false → b1 ≠ 0) :
    ∃ X Y : Nat, x0 * T + al = b2 * X + b1 * Y ∧ y0 * T + be = a2 * X + a1 * Y ∧ Y ≤ X ∧
      (if odd then a1 * (x0 * T + al) = X + b1 * (y0 * T + be) ∧ b2 * (y0 * T + be) = Y + a2 * (x0 * T + al)
       else b1 * (y0 * T + be) = X + a1 * (x0 * T + al) ∧ a2 * (x0 * T + al) = Y + b2 * (y0 * T + be)) := by
  have hex := h.ex
  have hey := h.ey
  have hd := h.det
  have hle := h.le
  have m1 := Nat.mul_le_mul_right T hc1
  have m2 := Nat.mul_le_mul_right T hc2
  rw [Nat.add_mul, Nat.sub_mul] at m2
  have n1 := Nat.mul_le_mul_left a1 (Nat.le_of_lt hal)
  have n2 := Nat.mul_le_mul_left a2 (Nat.le_of_lt hal)
  have n3 := Nat.mul_le_mul_left b1 (Nat.le_of_lt hbe)
  have n4 := Nat.mul_le_mul_left b2 (Nat.le_of_lt hbe)
  have xy := Nat.mul_le_mul_right T hle
  cases odd
  · simp only [Bool.false_eq_true, if_false] at hd ⊢
    obtain ⟨p1, p2, p3, p4⟩ : a1 ≤ b1 ∧ a2 ≤ b2 ∧ 0 < b1 ∧ 0 < a2 := by
      rcases h.ab with ⟨_, _, _, _, e⟩ | e
      · cases e
      · exact e
    have q1 := Nat.mul_le_mul_right T p1
    have q2 := Nat.mul_le_mul_right T p2
    have h1 : a2 * x0 = b2 * y0 + y := by grind
    have h2 : b1 * y0 = a1 * x0 + x := by grind
    have e1 : a2 * (x0 * T + al) = (y * T + a2 * al - b2 * be) + b2 * (y0 * T + be) := by
      have : a2 * (x0 * T + al) = b2 * y0 * T + y * T + a2 * al := by rw [Nat.mul_add, ← Nat.mul_assoc, h1, Nat.add_mul]
      rw [this, Nat.mul_add, ← Nat.mul_assoc]
      omega
    have e2 : b1 * (y0 * T + be) = (x * T + b1 * be - a1 * al) + a1 * (x0 * T + al) := by
      have : b1 * (y0 * T + be) = a1 * x0 * T + x * T + b1 * be := by rw [Nat.mul_add, ← Nat.mul_assoc, h2, Nat.add_mul]
      rw [this, Nat.mul_add, ← Nat.mul_assoc]
      omega
    refine ⟨x * T + b1 * be - a1 * al, y * T + a2 * al - b2 * be, ?_, ?_, by omega, e2, e1⟩
    · generalize x * T + b1 * be - a1 * al = X at *
      generalize y * T + a2 * al - b2 * be = Y at *
      generalize x0 * T + al = A at *
      generalize y0 * T + be = B at *
      grind
    · generalize x * T + b1 * be - a1 * al = X at *
      generalize y * T + a2 * al - b2 * be = Y at *
      generalize x0 * T + al = A at *
      generalize y0 * T + be = B at *
      grind
  · simp only [if_true] at hd ⊢
    have p2 : a2 ≤ b2 := by
      rcases h.ab with ⟨_, _, e1, e2, _⟩ | e
      · omega
      · exact e.2.1
    have q2 := Nat.mul_le_mul_right T p2
    have h1 : b2 * y0 = a2 * x0 + y := by grind
    have h2 : a1 * x0 = b1 * y0 + x := by grind
    have e1 : b2 * (y0 * T + be) = (y * T + b2 * be - a2 * al) + a2 * (x0 * T + al) := by
      have : b2 * (y0 * T + be) = a2 * x0 * T + y * T + b2 * be := by rw [Nat.mul_add, ← Nat.mul_assoc, h1, Nat.add_mul]
      rw [this, Nat.mul_add, ← Nat.mul_assoc]
      omega
    have e2 : a1 * (x0 * T + al) = (x * T + a1 * al - b1 * be) + b1 * (y0 * T + be) := by
      have : a1 * (x0 * T + al) = b1 * y0 * T + x * T + a1 * al := by rw [Nat.mul_add, ← Nat.mul_assoc, h2, Nat.add_mul]
      rw [this, Nat.mul_add, ← Nat.mul_assoc]
      omega
    refine ⟨x * T + a1 * al - b1 * be, y * T + b2 * be - a2 * al, ?_, ?_, by omega, e2, e1⟩
    · generalize x * T + a1 * al - b1 * be = X at *
      generalize y * T + b2 * be - a2 * al = Y at *
      generalize x0 * T + al = A at *
      generalize y0 * T + be = B at *
      grind
    · generalize x * T + a1 * al - b1 * be = X at *
      generalize y * T + b2 * be - a2 * al = Y at *
      generalize x0 * T + al = A at *
      generalize y0 * T + be = B at *
      grind

/-- A pair of which both numbers are made has the same greatest common divisor. -/
theorem gcd_of_pair {A B X Y a1 a2 b1 b2 : Nat} (hA : A = b2 * X + b1 * Y) (hB : B = a2 * X + a1 * Y)
    (hX : ∀ d, d ∣ A → d ∣ B → d ∣ X) (hY : ∀ d, d ∣ A → d ∣ B → d ∣ Y) : Nat.gcd X Y = Nat.gcd A B := by
  apply Nat.dvd_antisymm
  · apply Nat.dvd_gcd
    · rw [hA]; exact Nat.dvd_add (Nat.dvd_mul_left_of_dvd (Nat.gcd_dvd_left X Y) _) (Nat.dvd_mul_left_of_dvd (Nat.gcd_dvd_right X Y) _)
    · rw [hB]; exact Nat.dvd_add (Nat.dvd_mul_left_of_dvd (Nat.gcd_dvd_left X Y) _) (Nat.dvd_mul_left_of_dvd (Nat.gcd_dvd_right X Y) _)
  · exact Nat.dvd_gcd (hX _ (Nat.gcd_dvd_left A B) (Nat.gcd_dvd_right A B)) (hY _ (Nat.gcd_dvd_left A B) (Nat.gcd_dvd_right A B))

theorem dvd_of_diff {d p A q B X : Nat} (hA : d ∣ A) (hB : d ∣ B) (h : p * A = X + q * B) : d ∣ X := by
  have h1 : d ∣ p * A := Nat.dvd_mul_left_of_dvd hA _
  have h2 : d ∣ q * B := Nat.dvd_mul_left_of_dvd hB _
  rw [h] at h1
  exact (Nat.dvd_add_iff_left h2).2 h1

theorem amgm (g p : Nat) : 4 * (g * p) ≤ (g + p) * (g + p) := by
  rcases Nat.le_total g p with h | h
  · obtain ⟨d, rfl⟩ := Nat.le.dest h
    have : (g + (g + d)) * (g + (g + d)) = 4 * (g * (g + d)) + d * d := by grind
    omega
  · obtain ⟨d, rfl⟩ := Nat.le.dest h
    have : (p + d + p) * (p + d + p) = 4 * ((p + d) * p) + d * d := by grind
    omega

/-- The next guess is no less than the root. -/
theorem newton_up {a g : Nat} (hg : 0 < g) : a < ((g + a / g) / 2 + 1) * ((g + a / g) / 2 + 1) := by
  have h1 : a < g * (a / g + 1) := by
    have := Nat.div_add_mod a g
    have := Nat.mod_lt a hg
    rw [Nat.mul_add]; omega
  have h2 := amgm g (a / g + 1)
  have h3 : g + (a / g + 1) ≤ 2 * ((g + a / g) / 2 + 1) := by omega
  have h4 := Nat.mul_le_mul h3 h3
  have h5 : 2 * ((g + a / g) / 2 + 1) * (2 * ((g + a / g) / 2 + 1)) = 4 * (((g + a / g) / 2 + 1) * ((g + a / g) / 2 + 1)) := by
    generalize (g + a / g) / 2 + 1 = z
    grind
  omega

/-- A guess that does not get better is the root. -/
theorem newton_done {a g : Nat} (h : g ≤ (g + a / g) / 2) : g * g ≤ a := by
  have h1 : g ≤ a / g := by omega
  exact Nat.le_trans (Nat.mul_le_mul_left g h1) (Nat.mul_div_le a g)

theorem newton_start {a k : Nat} (h : a < 2 ^ k) : a < 2 ^ ((k + 1) / 2) * 2 ^ ((k + 1) / 2) := by
  rw [← Nat.pow_add]
  exact Nat.lt_of_lt_of_le h (Nat.pow_le_pow_right (by decide) (by omega))

/-- The root is the only number that is such. -/
theorem root_unique {a r s : Nat} (h1 : r * r ≤ a) (h2 : a < (r + 1) * (r + 1)) (h3 : s * s ≤ a) (h4 : a < (s + 1) * (s + 1)) : r = s := by
  rcases Nat.lt_trichotomy r s with h | h | h
  · have := Nat.mul_le_mul (Nat.succ_le_of_lt h) (Nat.succ_le_of_lt h)
    simp only [Nat.succ_eq_add_one] at this
    omega
  · exact h
  · have := Nat.mul_le_mul (Nat.succ_le_of_lt h) (Nat.succ_le_of_lt h)
    simp only [Nat.succ_eq_add_one] at this
    omega

theorem snocInd {α : Type} {motive : List α → Prop} (nil : motive []) (snoc : ∀ l c, motive l → motive (l ++ [c])) (l : List α) : motive l := by
  have : ∀ m : List α, motive m.reverse := fun m => by
    induction m with
    | nil => exact nil
    | cons c m ih => rw [List.reverse_cons]; exact snoc _ _ ih
  have h := this l.reverse
  rwa [List.reverse_reverse] at h

theorem dec_small {u : Nat} (h : u < 10) : decDigits u = [UInt8.ofNat (48 + u)] := by rw [decDigits, dif_pos h]
theorem dec_big {u : Nat} (h : ¬ u < 10) : decDigits u = decDigits (u / 10) ++ [UInt8.ofNat (48 + u % 10)] := by rw [decDigits, dif_neg h]
theorem dec_length (u : Nat) : (decDigits u).length = nDigits u := by
  induction u using Nat.strongRecOn with
  | _ u ih =>
    by_cases h : u < 10
    · rw [dec_small h, nDigits_small h]; rfl
    · rw [dec_big h, nDigits_big h, List.length_append, ih (u / 10) (by omega)]; rfl

/-- k digits of r, with zeros ahead. -/
def padDec : Nat → Nat → List UInt8
  | 0, _ => []
  | k + 1, r => padDec k (r / 10) ++ [UInt8.ofNat (48 + r % 10)]

theorem pad_length : ∀ k r, (padDec k r).length = k
  | 0, _ => rfl
  | k + 1, r => by rw [padDec, List.length_append, pad_length k]; rfl

theorem pad_zero : ∀ k, padDec k 0 = List.replicate k 48
  | 0 => rfl
  | k + 1 => by
    rw [padDec, Nat.zero_div, pad_zero k, List.replicate_succ']
    rfl

/-- Zeros ahead of the numeral. -/
theorem pad_eq : ∀ k r, r < 10 ^ (k + 1) → nDigits r ≤ k + 1 ∧ padDec (k + 1) r = List.replicate (k + 1 - nDigits r) 48 ++ decDigits r
  | 0, r, h => by
    have h' : r < 10 := by simpa using h
    rw [nDigits_small h', dec_small h']
    refine ⟨Nat.le_refl _, ?_⟩
    simp [padDec, Nat.mod_eq_of_lt h']
  | k + 1, r, h => by
    have h2 : r / 10 < 10 ^ (k + 1) := by rw [Nat.pow_succ] at h; omega
    have ih := pad_eq k (r / 10) h2
    by_cases h3 : r < 10
    · rw [nDigits_small h3, dec_small h3]
      refine ⟨by omega, ?_⟩
      rw [padDec, Nat.div_eq_of_lt h3, pad_zero, Nat.mod_eq_of_lt h3]
      rfl
    · rw [nDigits_big h3, dec_big h3]
      refine ⟨by omega, ?_⟩
      rw [padDec, ih.2, ← List.append_assoc]
      congr 3
      omega

/-- The numeral of a number that is more than its last k digits. -/
theorem dec_pad : ∀ k q r, 0 < q → r < 10 ^ k → decDigits (q * 10 ^ k + r) = decDigits q ++ padDec k r
  | 0, q, r, _, hr => by
    have : r = 0 := by simpa using hr
    subst this; simp [padDec]
  | k + 1, q, r, hq, hr => by
    have hp : 0 < 10 ^ k := Nat.pow_pos (by decide)
    have h1 : ¬ q * 10 ^ (k + 1) + r < 10 := by
      have := Nat.mul_le_mul hq hp
      rw [Nat.pow_succ, ← Nat.mul_assoc]
      omega
    have h2 : (q * 10 ^ (k + 1) + r) / 10 = q * 10 ^ k + r / 10 := by
      rw [Nat.pow_succ, ← Nat.mul_assoc]; omega
    have h3 : (q * 10 ^ (k + 1) + r) % 10 = r % 10 := by
      rw [Nat.pow_succ, ← Nat.mul_assoc]; omega
    rw [dec_big h1, h2, h3, dec_pad k q (r / 10) hq (by rw [Nat.pow_succ] at hr; omega), padDec, List.append_assoc]

/-- The number that digits say. -/
def decVal (l : List UInt8) : Nat := l.foldl (fun v c => v * 10 + (c.toNat - 48)) 0
def Digits (l : List UInt8) : Prop := ∀ c ∈ l, 48 ≤ c.toNat ∧ c.toNat ≤ 57

theorem decVal_snoc (l : List UInt8) (c : UInt8) : decVal (l ++ [c]) = decVal l * 10 + (c.toNat - 48) := by
  unfold decVal; rw [List.foldl_append]; rfl
theorem decVal_go : ∀ (m : List UInt8) (v : Nat), m.foldl (fun v c => v * 10 + (c.toNat - 48)) v = v * 10 ^ m.length + decVal m
  | [], v => by simp [decVal]
  | c :: m, v => by
    unfold decVal
    rw [List.foldl_cons, List.foldl_cons, decVal_go m, decVal_go m (0 * 10 + (c.toNat - 48)), List.length_cons, Nat.pow_succ, Nat.add_mul, Nat.zero_mul, Nat.zero_add, Nat.mul_assoc, Nat.mul_comm 10]
    omega
theorem decVal_append (l m : List UInt8) : decVal (l ++ m) = decVal l * 10 ^ m.length + decVal m := by
  have := decVal_go m (decVal l)
  rw [← this]; unfold decVal; rw [List.foldl_append]
theorem decVal_lt : ∀ {l : List UInt8}, Digits l → decVal l < 10 ^ l.length := by
  intro l
  induction l using snocInd with
  | nil => intro _; simp [decVal]
  | snoc l c ih =>
    intro h
    have h1 := ih (fun d hd => h d (List.mem_append_left _ hd))
    have h2 := h c (by simp)
    rw [decVal_snoc, List.length_append, List.length_singleton, Nat.pow_succ]
    omega

theorem dig_toNat {d : Nat} (h : d < 10) : (UInt8.ofNat (48 + d)).toNat = 48 + d := by
  rw [UInt8.toNat_ofNat']
  omega
theorem decVal_dec (u : Nat) : decVal (decDigits u) = u := by
  induction u using Nat.strongRecOn with
  | _ u ih =>
    by_cases h : u < 10
    · rw [dec_small h]
      show 0 * 10 + ((UInt8.ofNat (48 + u)).toNat - 48) = u
      rw [dig_toNat h]; omega
    · rw [dec_big h, decVal_snoc, ih (u / 10) (by omega), dig_toNat (Nat.mod_lt _ (by decide))]; omega
theorem digits_dec (u : Nat) : Digits (decDigits u) := by
  induction u using Nat.strongRecOn with
  | _ u ih =>
    by_cases h : u < 10
    · rw [dec_small h]
      intro c hc
      rw [List.mem_singleton] at hc
      subst hc; rw [dig_toNat h]; omega
    · rw [dec_big h]
      intro c hc
      rcases List.mem_append.1 hc with hc | hc
      · exact ih (u / 10) (by omega) c hc
      · rw [List.mem_singleton] at hc
        subst hc; rw [dig_toNat (Nat.mod_lt _ (by decide))]; omega

/-- A numeral in proper form: digits, none of them a 0 ahead unless it is the only one. -/
def Numeral (l : List UInt8) : Prop := Digits l ∧ l ≠ [] ∧ (l.head? = some 48 → l.length = 1)

theorem ofNat_sub {c : UInt8} (h : 48 ≤ c.toNat) : UInt8.ofNat (48 + (c.toNat - 48)) = c := by
  have : 48 + (c.toNat - 48) = c.toNat := by omega
  rw [this]; exact UInt8.ofNat_toNat

theorem dec_decVal : ∀ {l : List UInt8}, Numeral l → decDigits (decVal l) = l := by
  intro l
  induction l using snocInd with
  | nil => intro h; exact absurd rfl h.2.1
  | snoc l c ih =>
    intro h
    have hc := h.1 c (by simp)
    rw [decVal_snoc]
    cases l with
    | nil =>
      have : decVal [] * 10 + (c.toNat - 48) = c.toNat - 48 := by simp [decVal]
      rw [this, dec_small (by omega), ofNat_sub hc.1]; rfl
    | cons d m =>
      have hd := h.1 d (by simp)
      have hd48 : d ≠ 48 := fun e => by
        have := h.2.2 (by simp [e])
        simp at this
      have hpos : 0 < decVal (d :: m) := by
        show 0 < decVal ([d] ++ m)
        rw [decVal_append]
        have h1 : 0 < decVal [d] := by
          show 0 < 0 * 10 + (d.toNat - 48)
          have : d.toNat ≠ 48 := fun e => hd48 (by rw [← UInt8.toNat_inj]; exact e)
          omega
        have := Nat.mul_pos h1 (show 0 < 10 ^ m.length from Nat.pow_pos (by decide))
        omega
      have h2 : decDigits (decVal (d :: m)) = d :: m := ih ⟨fun x hx => h.1 x (List.mem_append_left _ hx), by simp, fun e => absurd (by simpa using e) hd48⟩
      rw [dec_big (by omega)]
      have e1 : (decVal (d :: m) * 10 + (c.toNat - 48)) / 10 = decVal (d :: m) := by omega
      have e2 : (decVal (d :: m) * 10 + (c.toNat - 48)) % 10 = c.toNat - 48 := by omega
      rw [e1, e2, h2, ofNat_sub hc.1]

/-- A word shifted up, and what was carried from the word below. -/
theorem or_up {x w s : Nat} (hs : s ≤ 63) (hx : x < 2 ^ s) : x ||| w * 2 ^ s % 18446744073709551616 = x + w * 2 ^ s % 18446744073709551616 := by
  have e : (18446744073709551616 : Nat) = 2 ^ (64 - s) * 2 ^ s := by rw [← Nat.pow_add, show 64 - s + s = 64 by omega]
  rw [e, Nat.mul_mod_mul_right, Nat.or_comm, Nat.mul_comm _ (2 ^ s), ← Nat.two_pow_add_eq_or_of_lt hx, Nat.add_comm]

theorem up_split (w s : Nat) : w * 2 ^ s % 18446744073709551616 + 18446744073709551616 * (w * 2 ^ s / 18446744073709551616) = w * 2 ^ s := by
  omega

theorem up_top {w s : Nat} (hs : s ≤ 63) (hw : w < 18446744073709551616) : w / 2 ^ (64 - s) = w * 2 ^ s / 18446744073709551616 ∧ w * 2 ^ s / 18446744073709551616 < 2 ^ s := by
  have e : (18446744073709551616 : Nat) = 2 ^ (64 - s) * 2 ^ s := by rw [← Nat.pow_add, show 64 - s + s = 64 by omega]
  have hp : 0 < 2 ^ s := Nat.pow_pos (by decide)
  constructor
  · rw [e, Nat.mul_div_mul_right _ _ hp]
  · rw [Nat.div_lt_iff_lt_mul (by decide), Nat.mul_comm]
    exact Nat.mul_lt_mul_of_pos_left hw hp

/-- A word shifted down, and what comes from the word above. -/
theorem or_down {x w s : Nat} (hs : s ≤ 63) (hx : x < 18446744073709551616) : x / 2 ^ s ||| w * 2 ^ (64 - s) % 18446744073709551616 = x / 2 ^ s + 2 ^ (64 - s) * (w % 2 ^ s) := by
  have e : (18446744073709551616 : Nat) = 2 ^ s * 2 ^ (64 - s) := by rw [← Nat.pow_add, show s + (64 - s) = 64 by omega]
  have h1 : x / 2 ^ s < 2 ^ (64 - s) := by
    rw [Nat.div_lt_iff_lt_mul (Nat.pow_pos (by decide)), Nat.mul_comm, ← e]; exact hx
  rw [e, Nat.mul_mod_mul_right, Nat.or_comm, Nat.mul_comm _ (2 ^ (64 - s)), ← Nat.two_pow_add_eq_or_of_lt h1, Nat.add_comm]

/-- One step of a shift downwards: M what has been made, V what has been looked at, r the bits that fall out. -/
theorem down_step {M V P r x y s : Nat} (hs : s ≤ 63) (h : M * 2 ^ s + r = V + P * (x % 2 ^ s)) :
    (M + P * (x / 2 ^ s + 2 ^ (64 - s) * (y % 2 ^ s))) * 2 ^ s + r = (V + P * x) + (18446744073709551616 * P) * (y % 2 ^ s) := by
  have e : (18446744073709551616 : Nat) = 2 ^ (64 - s) * 2 ^ s := by rw [← Nat.pow_add, show 64 - s + s = 64 by omega]
  have hx := Nat.div_add_mod x (2 ^ s)
  rw [e]
  generalize 2 ^ s = S at *
  generalize 2 ^ (64 - s) = Q at *
  generalize x / S = q at *
  generalize x % S = m at *
  generalize y % S = z at *
  subst hx
  grind

/-- How many bits a number has. -/
def nb (n : Nat) : Nat := if n = 0 then 0 else Nat.log2 n + 1
theorem nb_zero : nb 0 = 0 := rfl
theorem nb_lt (n : Nat) : n < 2 ^ nb n := by
  unfold nb
  split
  · rename_i h; subst h; decide
  · exact Nat.lt_log2_self
theorem nb_ge {n : Nat} (h : n ≠ 0) : 2 ^ (nb n - 1) ≤ n := by
  unfold nb
  rw [if_neg h, Nat.add_sub_cancel]
  exact Nat.log2_self_le h
theorem nb_unique {n k : Nat} (h1 : 2 ^ k ≤ n) (h2 : n < 2 ^ (k + 1)) : nb n = k + 1 := by
  have h0 : n ≠ 0 := by have := Nat.pow_pos (n := k) (show 0 < 2 by decide); omega
  have h3 := nb_lt n
  have h4 := nb_ge h0
  have h5 : 0 < nb n := by unfold nb; rw [if_neg h0]; omega
  have a1 : k < nb n := by
    apply Nat.lt_of_not_le; intro h
    have := Nat.pow_le_pow_right (show 0 < 2 by decide) h
    omega
  have a2 : nb n - 1 < k + 1 := by
    apply Nat.lt_of_not_le; intro h
    have := Nat.pow_le_pow_right (show 0 < 2 by decide) h
    omega
  omega
theorem nb_mono {m n : Nat} (h : m ≤ n) : nb m ≤ nb n := by
  rcases Nat.eq_zero_or_pos m with rfl | hm
  · rw [nb_zero]; exact Nat.zero_le _
  · apply Nat.le_of_not_lt; intro hlt
    have h1 := nb_ge (n := m) (by omega)
    have h2 := nb_lt n
    have h3 := Nat.pow_le_pow_right (show 0 < 2 by decide) (show nb n ≤ nb m - 1 by omega)
    omega

theorem bp_two (n : Nat) : bp n = 2 ^ (64 * n) := by
  unfold bp; rw [Nat.pow_mul]

/-- The bits of a number by its highest word. -/
theorem nb_words (l : List Nat) (x : Nat) (hl : Small l) (hx : x ≠ 0) : nb (wv (l ++ [x])) = 64 * l.length + nb x := by
  have h1 := wv_lt hl
  have h2 := nb_ge hx
  have h3 := nb_lt x
  have h0 : 0 < nb x := by unfold nb; rw [if_neg hx]; omega
  rw [wv_snoc, show 64 * l.length + nb x = 64 * l.length + (nb x - 1) + 1 by omega]
  apply nb_unique
  · rw [Nat.pow_add, ← bp_two]
    have := Nat.mul_le_mul_left (bp l.length) h2
    omega
  · rw [show 64 * l.length + (nb x - 1) + 1 = 64 * l.length + nb x by omega, Nat.pow_add, ← bp_two]
    have := Nat.mul_le_mul_left (bp l.length) (Nat.succ_le_of_lt h3)
    rw [Nat.mul_succ] at this
    omega

end Go.Proofs.YtdjaigpcfhbcmaaGreatDoor
