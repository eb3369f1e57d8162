/- Plain mathematics of words, long division, Lehmer's steps, Newton's root and decimal numerals: nothing of the program; no conditions. -/
import Derived.Lib.ItoaNum
namespace Go.Proofs.YtjddbfpinjjkkaaGreatDoor
open Go.Lib
def wv : List Nat → Nat
  | [] => 0
  | x :: l => x + 18446744073709551616 * wv l
def Small (l : List Nat) : Prop := ∀ x ∈ l, x < 18446744073709551616
theorem Small.nil : Small [] := fun _ h => by cases h
theorem Small.cons {x : Nat} {l : List Nat} (h : x < 18446744073709551616) (hl : Small l) : Small (x :: l) := fun y hy => by
  rcases List.mem_cons.1 hy with rfl | hy
  · exact h
  · exact hl y hy
theorem Small.append {l m : List Nat} (h : Small l) (k : Small m) : Small (l ++ m) := fun y hy => by
  rcases List.mem_append.1 hy with hy | hy
  · exact h y hy
  · exact k y hy
theorem Small.take {l : List Nat} (h : Small l) (n : Nat) : Small (l.take n) := fun y hy => h y (List.mem_of_mem_take hy)
theorem Small.drop {l : List Nat} (h : Small l) (n : Nat) : Small (l.drop n) := fun y hy => h y (List.mem_of_mem_drop hy)
theorem Small.replicate (n : Nat) : Small (List.replicate n 0) := fun y hy => by
  rw [List.mem_replicate] at hy; omega
theorem Small.set {l : List Nat} (h : Small l) (i : Nat) {x : Nat} (hx : x < 18446744073709551616) : Small (l.set i x) := fun y hy => by
  rcases List.mem_or_eq_of_mem_set hy with hy | rfl
  · exact h y hy
  · exact hx
theorem Small.getD {l : List Nat} (h : Small l) (i : Nat) : l.getD i 0 < 18446744073709551616 := by
  rw [List.getD_eq_getElem?_getD]
  by_cases hi : i < l.length
  · rw [List.getElem?_eq_getElem hi]; exact h _ (List.getElem_mem hi)
  · rw [List.getElem?_eq_none (by omega)]; decide
def addW (x w c : Nat) : Nat := (x + w + c) % 18446744073709551616
def addC (x w c : Nat) : Nat := (x + w + c) / 18446744073709551616
theorem add_eq (x w c : Nat) : addW x w c + 18446744073709551616 * addC x w c = x + w + c := by unfold addW addC; omega
theorem dig_ge {K u a b n : Nat} (hn : n < K) (ha : 0 < a) : (u * K + n) / (a * K + b) ≤ u / a := by
  have h1 := Nat.div_add_mod u a
  have h2 := Nat.mod_lt u ha
  have hK : 0 < K := by omega
  have h0 : 0 < a * K := Nat.mul_pos ha hK
  apply Nat.le_of_lt_succ
  rw [Nat.div_lt_iff_lt_mul (by omega)]
  generalize u / a = q at *
  generalize u % a = r at *
  have h3 : (r + 1) * K ≤ a * K := Nat.mul_le_mul_right _ h2
  rw [Nat.add_mul, Nat.one_mul] at h3
  have h4 : (q + 1) * (a * K + b) = (a * q) * K + a * K + (q + 1) * b := by
    rw [Nat.mul_add, Nat.add_mul q 1 (a * K), Nat.one_mul, ← Nat.mul_assoc, Nat.mul_comm q a]
  rw [Nat.succ_eq_add_one, h4, ← h1, Nat.add_mul]
  omega
theorem dig_done {K u a b n q r : Nat} (hs : q * a + r = u) (hv : 0 < a) (hK : 0 < K) (hd : q * b ≤ K * r + n) : q ≤ (u * K + n) / (a * K + b) := by
  have h0 : 0 < a * K := Nat.mul_pos hv hK
  rw [Nat.le_div_iff_mul_le (by omega)]
  rw [Nat.mul_add, ← Nat.mul_assoc, ← hs, Nat.add_mul, Nat.mul_comm r K]
  omega
theorem dig_more {K u a b n q r : Nat} (hs : q * a + r = u) (hv : 0 < a) (hK : 0 < K) (hd : K * r + n < q * b) : (u * K + n) / (a * K + b) < q := by
  have h0 : 0 < a * K := Nat.mul_pos hv hK
  rw [Nat.div_lt_iff_lt_mul (by omega), Nat.mul_add, ← Nat.mul_assoc, ← hs, Nat.add_mul, Nat.mul_comm r K]
  omega
theorem dig_lt {K u a b n : Nat} (hn : n < K) (hu : u < a * K + b) : (u * K + n) / (a * K + b) < K := by
  rw [Nat.div_lt_iff_lt_mul (by omega)]
  have h := Nat.mul_le_mul_right K hu
  rw [Nat.succ_mul] at h
  rw [Nat.mul_comm K]
  omega
theorem dig_out {K b n q r : Nat} (hq : q ≤ K) (hb : b ≤ K) (hr : K ≤ r) : q * b ≤ K * r + n := by
  have h1 := Nat.mul_le_mul_right b hq
  have h2 := Nat.mul_le_mul_left K (Nat.le_trans hb hr)
  omega
theorem dig_small {K u a b q r : Nat} (hs : q * a + r = u) (hu : u < a * K + b) (hr : b ≤ r) : q < K := by
  rcases Nat.lt_or_ge q K with h | h
  · exact h
  · have h3 := Nat.mul_le_mul_right a h
    rw [Nat.mul_comm K] at h3
    omega
theorem dig_two' {K u n1 n0 v q r : Nat} (e : v * q + r = u * K + n1) :
    u * (K * K) + (n1 * K + n0) = v * (q * K) + (r * K + n0) := by
  rw [← Nat.mul_assoc, ← Nat.mul_assoc, ← Nat.add_assoc, ← Nat.add_assoc, ← Nat.add_mul, ← Nat.add_mul, e]
theorem dig_two (K u n1 n0 v : Nat) (hv : 0 < v) :
    (u * (K * K) + (n1 * K + n0)) / v = (u * K + n1) / v * K + ((u * K + n1) % v * K + n0) / v ∧
    (u * (K * K) + (n1 * K + n0)) % v = ((u * K + n1) % v * K + n0) % v := by
  rw [dig_two' (Nat.div_add_mod (u * K + n1) v), Nat.mul_add_div hv, Nat.mul_add_mod]
  exact ⟨rfl, rfl⟩
theorem shift_div (N y s : Nat) : N * 2 ^ s / (y * 2 ^ s) = N / y ∧ N * 2 ^ s % (y * 2 ^ s) / 2 ^ s = N % y := by
  have hp : 0 < 2 ^ s := Nat.pow_pos (by decide)
  refine ⟨Nat.mul_div_mul_right _ _ hp, ?_⟩
  rw [Nat.mul_mod_mul_right, Nat.mul_div_cancel _ hp]
structure Steps (x0 y0 x y a1 a2 b1 b2 : Nat) (odd : Bool) : Prop where
  ex : x0 = b2 * x + b1 * y
  ey : y0 = a2 * x + a1 * y
  det : if odd then a1 * b2 = a2 * b1 + 1 else a2 * b1 = a1 * b2 + 1
  le : y ≤ x
  ab : (a1 = 1 ∧ b1 = 0 ∧ a2 = 0 ∧ b2 = 1 ∧ odd = true) ∨ (a1 ≤ b1 ∧ a2 ≤ b2 ∧ 0 < b1 ∧ 0 < a2)
theorem Steps.step {x0 y0 x y a1 a2 b1 b2 : Nat} {odd : Bool} (h : Steps x0 y0 x y a1 a2 b1 b2 odd) (hy : 0 < y) :
    Steps x0 y0 y (x - x / y * y) a2 (a1 + x / y * a2) b2 (b1 + x / y * b2) (!odd) := by
  have hm := Nat.div_add_mod x y
  have hl := Nat.mod_lt x hy
  have hq1 : 0 < x / y := Nat.div_pos h.le hy
  have hx : x = x / y * y + (x - x / y * y) := by rw [Nat.mul_comm]; omega
  have hr : x - x / y * y < y := by rw [Nat.mul_comm]; omega
  have hex := h.ex
  have hey := h.ey
  generalize x / y = q at *
  generalize x - q * y = r at *
  refine ⟨?_, ?_, ?_, by omega, ?_⟩
  · rw [hex, hx, Nat.add_mul, Nat.mul_add]
    have : b2 * (q * y) = q * b2 * y := by rw [Nat.mul_comm q b2, Nat.mul_assoc]
    omega
  · rw [hey, hx, Nat.add_mul, Nat.mul_add]
    have : a2 * (q * y) = q * a2 * y := by rw [Nat.mul_comm q a2, Nat.mul_assoc]
    omega
  · have hd := h.det
    have e1 : a2 * (b1 + q * b2) = a2 * b1 + a2 * q * b2 := by rw [Nat.mul_add, Nat.mul_assoc]
    have e2 : (a1 + q * a2) * b2 = a1 * b2 + a2 * q * b2 := by rw [Nat.add_mul, Nat.mul_comm q a2]
    cases odd
    · simp only [Bool.false_eq_true, if_false, Bool.not_false, if_true] at hd ⊢
      omega
    · simp only [if_true, Bool.not_true, Bool.false_eq_true, if_false] at hd ⊢
      omega
  · refine .inr ?_
    rcases h.ab with ⟨e1, e2, e3, e4, _⟩ | ⟨h1, h2, h3, h4⟩
    · subst e1; subst e2; subst e3; subst e4
      simp; omega
    · have h5 := Nat.mul_le_mul_left q h2
      have h6 := Nat.mul_le_mul hq1 h4
      refine ⟨h2, by omega, by omega, by omega⟩
theorem Steps.bound {x0 y0 x y a1 a2 b1 b2 : Nat} {odd : Bool} (h : Steps x0 y0 x y a1 a2 b1 b2 odd) (hy : 0 < y) : b1 + b2 ≤ x0 ∧ a1 + a2 ≤ y0 := by
  have hx : 0 < x := Nat.lt_of_lt_of_le hy h.le
  have e1 := Nat.mul_le_mul_left b2 hx
  have e2 := Nat.mul_le_mul_left b1 hy
  have e3 := Nat.mul_le_mul_left a2 hx
  have e4 := Nat.mul_le_mul_left a1 hy
  have := h.ex
  have := h.ey
  omega
theorem Steps.whole {x0 y0 x y a1 a2 b1 b2 T al be : Nat} {odd : Bool} (h : Steps x0 y0 x y a1 a2 b1 b2 odd) (hal : al < T) (hbe : be < T)
    (hc1 : b2 ≤ y) (hc2 : b1 + b2 ≤ x - y) (hn : odd = false → b1 ≠ 0) :
    ∃ X Y : Nat, x0 * T + al = b2 * X + b1 * Y ∧ y0 * T + be = a2 * X + a1 * Y ∧ Y ≤ X ∧
      (if odd then a1 * (x0 * T + al) = X + b1 * (y0 * T + be) ∧ b2 * (y0 * T + be) = Y + a2 * (x0 * T + al)
       else b1 * (y0 * T + be) = X + a1 * (x0 * T + al) ∧ a2 * (x0 * T + al) = Y + b2 * (y0 * T + be)) := by
  have hex := h.ex
  have hey := h.ey
  have hd := h.det
  have hle := h.le
  have m1 := Nat.mul_le_mul_right T hc1
  have m2 := Nat.mul_le_mul_right T hc2
  rw [Nat.add_mul, Nat.sub_mul] at m2
  have n1 := Nat.mul_le_mul_left a1 (Nat.le_of_lt hal)
  have n2 := Nat.mul_le_mul_left a2 (Nat.le_of_lt hal)
  have n3 := Nat.mul_le_mul_left b1 (Nat.le_of_lt hbe)
  have n4 := Nat.mul_le_mul_left b2 (Nat.le_of_lt hbe)
  have xy := Nat.mul_le_mul_right T hle
  cases odd
  · simp only [Bool.false_eq_true, if_false] at hd ⊢
    obtain ⟨p1, p2, p3, p4⟩ : a1 ≤ b1 ∧ a2 ≤ b2 ∧ 0 < b1 ∧ 0 < a2 := by
      rcases h.ab with ⟨_, _, _, _, e⟩ | e
      · cases e
      · exact e
    have q1 := Nat.mul_le_mul_right T p1
    have q2 := Nat.mul_le_mul_right T p2
    have h1 : a2 * x0 = b2 * y0 + y := by grind
    have h2 : b1 * y0 = a1 * x0 + x := by grind
    have e1 : a2 * (x0 * T + al) = (y * T + a2 * al - b2 * be) + b2 * (y0 * T + be) := by
      have : a2 * (x0 * T + al) = b2 * y0 * T + y * T + a2 * al := by rw [Nat.mul_add, ← Nat.mul_assoc, h1, Nat.add_mul]
      rw [this, Nat.mul_add, ← Nat.mul_assoc]
      omega
    have e2 : b1 * (y0 * T + be) = (x * T + b1 * be - a1 * al) + a1 * (x0 * T + al) := by
      have : b1 * (y0 * T + be) = a1 * x0 * T + x * T + b1 * be := by rw [Nat.mul_add, ← Nat.mul_assoc, h2, Nat.add_mul]
      rw [this, Nat.mul_add, ← Nat.mul_assoc]
      omega
    refine ⟨x * T + b1 * be - a1 * al, y * T + a2 * al - b2 * be, ?_, ?_, by omega, e2, e1⟩
    · generalize x * T + b1 * be - a1 * al = X at *
      generalize y * T + a2 * al - b2 * be = Y at *
      generalize x0 * T + al = A at *
      generalize y0 * T + be = B at *
      grind
    · generalize x * T + b1 * be - a1 * al = X at *
      generalize y * T + a2 * al - b2 * be = Y at *
      generalize x0 * T + al = A at *
      generalize y0 * T + be = B at *
      grind
  · simp only [if_true] at hd ⊢
    have p2 : a2 ≤ b2 := by
      rcases h.ab with ⟨_, _, e1, e2, _⟩ | e
      · omega
      · exact e.2.1
    have q2 := Nat.mul_le_mul_right T p2
    have h1 : b2 * y0 = a2 * x0 + y := by grind
    have h2 : a1 * x0 = b1 * y0 + x := by grind
    have e1 : b2 * (y0 * T + be) = (y * T + b2 * be - a2 * al) + a2 * (x0 * T + al) := by
      have : b2 * (y0 * T + be) = a2 * x0 * T + y * T + b2 * be := by rw [Nat.mul_add, ← Nat.mul_assoc, h1, Nat.add_mul]
      rw [this, Nat.mul_add, ← Nat.mul_assoc]
      omega
    have e2 : a1 * (x0 * T + al) = (x * T + a1 * al - b1 * be) + b1 * (y0 * T + be) := by
      have : a1 * (x0 * T + al) = b1 * y0 * T + x * T + a1 * al := by rw [Nat.mul_add, ← Nat.mul_assoc, h2, Nat.add_mul]
      rw [this, Nat.mul_add, ← Nat.mul_assoc]
      omega
    refine ⟨x * T + a1 * al - b1 * be, y * T + b2 * be - a2 * al, ?_, ?_, by omega, e2, e1⟩
    · generalize x * T + a1 * al - b1 * be = X at *
      generalize y * T + b2 * be - a2 * al = Y at *
      generalize x0 * T + al = A at *
      generalize y0 * T + be = B at *
      grind
    · generalize x * T + a1 * al - b1 * be = X at *
      generalize y * T + b2 * be - a2 * al = Y at *
      generalize x0 * T + al = A at *
      generalize y0 * T + be = B at *
      grind
theorem up_split (w s : Nat) : w * 2 ^ s % 18446744073709551616 + 18446744073709551616 * (w * 2 ^ s / 18446744073709551616) = w * 2 ^ s := by
  omega
theorem up_top {w s : Nat} (hs : s ≤ 63) (hw : w < 18446744073709551616) : w / 2 ^ (64 - s) = w * 2 ^ s / 18446744073709551616 ∧ w * 2 ^ s / 18446744073709551616 < 2 ^ s := by
  have e : (18446744073709551616 : Nat) = 2 ^ (64 - s) * 2 ^ s := by rw [← Nat.pow_add, show 64 - s + s = 64 by omega]
  have hp : 0 < 2 ^ s := Nat.pow_pos (by decide)
  constructor
  · rw [e, Nat.mul_div_mul_right _ _ hp]
  · rw [Nat.div_lt_iff_lt_mul (by decide), Nat.mul_comm]
    exact Nat.mul_lt_mul_of_pos_left hw hp
def nb (n : Nat) : Nat := if n = 0 then 0 else Nat.log2 n + 1
theorem nb_zero : nb 0 = 0 := rfl
theorem nb_lt (n : Nat) : n < 2 ^ nb n := by
  unfold nb
  split
  · rename_i h; subst h; decide
  · exact Nat.lt_log2_self
theorem nb_ge {n : Nat} (h : n ≠ 0) : 2 ^ (nb n - 1) ≤ n := by
  unfold nb
  rw [if_neg h, Nat.add_sub_cancel]
  exact Nat.log2_self_le h
theorem nb_unique {n k : Nat} (h1 : 2 ^ k ≤ n) (h2 : n < 2 ^ (k + 1)) : nb n = k + 1 := by
  have h0 : n ≠ 0 := by have := Nat.pow_pos (n := k) (show 0 < 2 by decide); omega
  have h3 := nb_lt n
  have h4 := nb_ge h0
  have h5 : 0 < nb n := by unfold nb; rw [if_neg h0]; omega
  have a1 : k < nb n := by
    apply Nat.lt_of_not_le; intro h
    have := Nat.pow_le_pow_right (show 0 < 2 by decide) h
    omega
  have a2 : nb n - 1 < k + 1 := by
    apply Nat.lt_of_not_le; intro h
    have := Nat.pow_le_pow_right (show 0 < 2 by decide) h
    omega
  omega
theorem nb_mono {m n : Nat} (h : m ≤ n) : nb m ≤ nb n := by
  rcases Nat.eq_zero_or_pos m with rfl | hm
  · rw [nb_zero]; exact Nat.zero_le _
  · apply Nat.le_of_not_lt; intro hlt
    have h1 := nb_ge (n := m) (by omega)
    have h2 := nb_lt n
    have h3 := Nat.pow_le_pow_right (show 0 < 2 by decide) (show nb n ≤ nb m - 1 by omega)
    omega
end Go.Proofs.YtjddbfpinjjkkaaGreatDoor
