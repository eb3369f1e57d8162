/- Contracts of the library's functions on words, with the world that the caller has on the left; no conditions but that words are words. -/
import Derived.Test.YtjddbfpinjjkkaaGreatDoorB
import Derived.Test.YtjddbfpinjjkkaaGreatDoorShelf
import Derived.Deep.CutBlock
namespace Go.Proofs.YtjddbfpinjjkkaaGreatDoor
open Go.RowKit
theorem mul64 (x y : Nat) (hx : x < 18446744073709551616) (hy : y < 18446744073709551616) (w : World) :
    Calls Tryz.prog 247 #[.int .u64 (x : Int), .int .u64 (y : Int)] w fun e w' =>
      e = .returned (.tuple #[.int .u64 ((x * y / 18446744073709551616 : Nat) : Int), .int .u64 ((x * y % 18446744073709551616 : Nat) : Int)]) ∧ w = w' :=
  (Tryz.bits_Mul64 x y hx hy w).mono fun _ _ h => ⟨h.1, h.2.symm⟩
theorem bitLen_nb (x : Nat) (hx : x < 18446744073709551616) : Lib.bitLen x = nb x := by
  have key : ∀ (k y : Nat), y < 2 ^ k → k ≤ 64 → Lib.bitLen y = nb y := by
    intro k
    induction k with
    | zero => intro y hy _; have : y = 0 := by simpa using hy
              subst this; rfl
    | succ k ih =>
      intro y hy hk
      by_cases h0 : y = 0
      · subst h0; rfl
      · have h64 : y < 2 ^ 64 := Nat.lt_of_lt_of_le hy (Nat.pow_le_pow_right (by decide) hk)
        rw [Lib.bitLen_half y h0 h64, ih (y / 2) (by rw [Nat.pow_succ] at hy; omega) (by omega)]
        by_cases h1 : y = 1
        · subst h1; rfl
        · have h2 : y / 2 ≠ 0 := by omega
          have h3 := nb_ge h2
          have h4 := nb_lt (y / 2)
          have h5 : 0 < nb (y / 2) := by unfold nb; rw [if_neg h2]; omega
          symm
          rw [Nat.add_comm]
          apply nb_unique
          · have : 2 ^ nb (y / 2) = 2 ^ (nb (y / 2) - 1) * 2 := by rw [← Nat.pow_succ]; congr 1; omega
            omega
          · rw [Nat.pow_succ]; omega
  exact key 64 x hx (Nat.le_refl _)
theorem len64 (x : Nat) (hx : x < 18446744073709551616) (w : World) :
    Calls Tryz.prog 157 #[.int .u64 (x : Int)] w fun e w' => e = .returned (.int .i64 ((nb x : Nat) : Int)) ∧ w = w' :=
  (Tryz.bits_Len64 (x : Int) w (by omega) (by omega)).mono fun _ _ h => ⟨by rw [h.1, Int.toNat_natCast, bitLen_nb x hx], h.2.symm⟩
theorem nb_le64 {x : Nat} (hx : x < 18446744073709551616) : nb x ≤ 64 := by
  have : nb x ≤ nb 18446744073709551615 := nb_mono (by omega)
  exact Nat.le_trans this (by decide)
theorem lz64 (x : Nat) (hx : x < 18446744073709551616) (w : World) :
    Calls Tryz.prog 243 #[.int .u64 (x : Int)] w fun e w' => e = .returned (.int .i64 ((64 - nb x : Nat) : Int)) ∧ w = w' :=
  (Tryz.bits_LeadingZeros64 (x : Int) w (by omega) (by omega)).mono fun _ _ h => ⟨by
    have := nb_le64 hx
    rw [h.1, Int.toNat_natCast, bitLen_nb x hx, show ((64 - nb x : Nat) : Int) = 64 - (nb x : Int) from by omega], h.2.symm⟩
end Go.Proofs.YtjddbfpinjjkkaaGreatDoor
