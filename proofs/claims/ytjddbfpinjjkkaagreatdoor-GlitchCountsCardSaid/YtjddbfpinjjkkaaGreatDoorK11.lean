/- The field's power: squares and products from the upper bit on; the conditions: the prime is greater than 1, and all are words. -/
import Derived.Test.YtjddbfpinjjkkaaGreatDoorK10
import Derived.WalkSmall
namespace Go.Proofs.YtjddbfpinjjkkaaGreatDoor
open Go.RowKit

/-- What is left of the loop: k bits of n, the result so far. -/
def powL (a n p : Nat) : Nat → Nat → Nat
  | 0, r => r
  | k + 1, r => powL a n p k (if n / 2 ^ k % 2 = 1 then r * r % p * a % p else r * r % p)

theorem field_cell (w : World) (v u : Value) (t : TypeId) (w' : World) (h : Below (w.heap.size + 1) (w.alloc (.cells #[v, u] t)) w') : w'.cell? ⟨w.heap.size, 0, none⟩ = some v ∧ w'.cell? ⟨w.heap.size, 1, none⟩ = some u ∧ w.heap.size < w'.heap.size := by
  refine ⟨?_, ?_, ?_⟩
  · rw [h.cell (p := ⟨w.heap.size, 0, none⟩) (Nat.lt_succ_self _)]
    show (match (w.heap.push (.cells #[v, u] t))[w.heap.size]? with | some (.cells c _ _) => _ | _ => _) = _
    rw [Array.getElem?_push, if_pos rfl]
    rfl
  · rw [h.cell (p := ⟨w.heap.size, 1, none⟩) (Nat.lt_succ_self _)]
    show (match (w.heap.push (.cells #[v, u] t))[w.heap.size]? with | some (.cells c _ _) => _ | _ => _) = _
    rw [Array.getElem?_push, if_pos rfl]
    rfl
  · have := h.size
    have h2 : (w.alloc (.cells #[v, u] t)).heap.size = w.heap.size + 1 := Array.size_push _
    omega

set_option maxHeartbeats 1000000 in
theorem power_any (p g a n : Nat) (hp : p < 18446744073709551616) (hp1 : 1 < p) (ha : a < 18446744073709551616) (hn : n < 18446744073709551616) (w : World) :
    Calls Tryz.prog 253 #[.agg #[.int .u64 (p : Int), .int .u64 (g : Int)], .int .u64 (a : Int), .int .u64 (n : Int)] w fun e w' => e = .returned (.int .u64 ((powL a n p (nb n) 1 : Nat) : Int)) ∧ Below w.heap.size w w' := by
  have hl := fun w => len64 n hn w
  have hb64 := nb_le64 hn
  obtain ⟨K, hK⟩ : ∃ K, nb n = K := ⟨_, rfl⟩
  rw [hK] at hl hb64 ⊢
  have HL := Lib.hid hl
  have HW := Lib.hid (rfl : w.alloc (.cells #[.int .u64 (p : Int), .int .u64 (g : Int)] 222) = w.alloc (.cells #[.int .u64 (p : Int), .int .u64 (g : Int)] 222))
  clear hl hK
  go_enter Tryz.func253, Tryz.ntmps253
  go_wp2_with (go_at_call 157; refine (HL.out _).mono ?_; rintro e w1 ⟨rfl, rfl⟩)
  go_loopw [7, 8] (fun v x wr => ∃ k r : Nat, v = .int .u64 (r : Int) ∧ x = .int .i64 ((k : Int) - 1) ∧ k ≤ 64 ∧ r < p ∧ powL a n p k r = powL a n p K 1 ∧ Below (w.heap.size + 1) (w.alloc (.cells #[.int .u64 (p : Int), .int .u64 (g : Int)] 222)) wr) (fun _ x _ => (intOf x + 1).toNat)
  case atStart => exact ⟨K, 1, rfl, by go_num, hb64, hp1, rfl, Below.refl _ _⟩
  case round =>
    obtain ⟨k, r, rfl, rfl, hk, hr, hpow, hbr⟩ := hrel
    obtain ⟨hcell, hcell1, hlt⟩ := field_cell _ _ _ _ _ hbr
    have HH := Lib.hid hpow
    by_cases hk0 : k = 0
    · subst hk0
      have hge : decide ((((0 : Nat) : Int) - 1) ≥ 0) = false := by decide
      go_wp2
      go_ret
      exact ⟨by rw [← HH.out]; rfl, ((Below.refl _ _).alloc (Nat.le_refl _) _).trans (hbr.mono (Nat.le_succ _))⟩
    · obtain ⟨j, rfl⟩ : ∃ j, k = j + 1 := ⟨k - 1, by omega⟩
      have hx : ((j + 1 : Nat) : Int) - 1 = (j : Int) := by omega
      rw [hx]
      have hr64 : r < 18446744073709551616 := Nat.lt_trans hr hp
      have HT : Hid (∀ w, Calls Tryz.prog 224 #[.agg #[.int .u64 (p : Int), .int .u64 (g : Int)], .int .u64 (r : Int), .int .u64 (r : Int)] w fun e w' => e = .returned (.int .u64 ((r * r % p : Nat) : Int)) ∧ Below w.heap.size w w') :=
        Lib.hid fun w => times_any p g r r hp hr64 hr64 (by
          rw [Nat.div_lt_iff_lt_mul (by decide)]
          exact Nat.lt_of_le_of_lt (Nat.mul_le_mul_left r (Nat.le_of_lt hr64)) (Nat.mul_lt_mul_of_pos_right hr (by decide))) w
      have HP2 : Hid (powL a n p j (if n / 2 ^ j % 2 = 1 then r * r % p * a % p else r * r % p) = powL a n p K 1) := Lib.hid hpow
      have hr2 : r * r % p < p := Nat.mod_lt _ (by omega)
      generalize r * r % p = s at *
      have HT2 : Hid (∀ w, Calls Tryz.prog 224 #[.agg #[.int .u64 (p : Int), .int .u64 (g : Int)], .int .u64 (s : Int), .int .u64 (a : Int)] w fun e w' => e = .returned (.int .u64 ((s * a % p : Nat) : Int)) ∧ Below w.heap.size w w') :=
        Lib.hid fun w => times_any p g s a hp (Nat.lt_trans hr2 hp) ha (by
          rw [Nat.div_lt_iff_lt_mul (by decide)]
          exact Nat.lt_of_le_of_lt (Nat.mul_le_mul_left s (Nat.le_of_lt ha)) (Nat.mul_lt_mul_of_pos_right hr2 (by decide))) w
      clear hpow hx
      go_wp2_with (first
        | (go_at_call 224; refine (HT2.out w2).mono ?_; rintro e w3 ⟨rfl, hb3⟩)
        | (go_at_call 224; refine (HT.out _).mono ?_; rintro e w2 ⟨rfl, hb2⟩; have hcell2 := (hb2.cell (p := ⟨w.heap.size, 0, none⟩) hlt).trans hcell; have hcell3 := (hb2.cell (p := ⟨w.heap.size, 1, none⟩) hlt).trans hcell1))
      all_goals
        have hd0 : ((n : Int) / 2 ^ j) = ((n / 2 ^ j : Nat) : Int) := by rw [Int.natCast_ediv, Int.natCast_pow]; rfl
        have hdlt : n / 2 ^ j < 18446744073709551616 := Nat.lt_of_le_of_lt (Nat.div_le_self _ _) hn
        have hbv : bits .and .u64 ((n : Int) / 2 ^ j) 1 = ((n / 2 ^ j % 2 : Nat) : Int) := by
          rw [hd0]
          generalize n / 2 ^ j = x at *
          rw [and_one_u64 _ (by omega) (by omega)]
          omega
      · rename_i hbit
        rw [hbv, beq_iff_eq] at hbit
        have hb1 : n / 2 ^ j % 2 = 1 := by generalize n / 2 ^ j % 2 = x at *; omega
        have hv := HP2.out
        rw [if_pos hb1] at hv
        refine ⟨⟨j, s * a % p, rfl, rfl, by omega, Nat.mod_lt _ (by omega), hv, (hbr.trans (hb2.mono hlt)).trans (hb3.mono (by have := hb2.size; omega))⟩, ?_⟩
        simp only [intOf]
        omega
      · rename_i hbit
        rw [hbv, beq_eq_false_iff_ne] at hbit
        have hb1 : ¬ n / 2 ^ j % 2 = 1 := by generalize n / 2 ^ j % 2 = x at *; omega
        have hv := HP2.out
        rw [if_neg hb1] at hv
        refine ⟨⟨j, s, rfl, rfl, by omega, hr2, hv, hbr.trans (hb2.mono hlt)⟩, ?_⟩
        simp only [intOf]
        omega

end Go.Proofs.YtjddbfpinjjkkaaGreatDoor
