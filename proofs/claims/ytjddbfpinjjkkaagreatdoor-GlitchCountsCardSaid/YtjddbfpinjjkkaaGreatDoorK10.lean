/- The field's times: the product's rest; the condition: the product is less than 2^64 times the prime. -/
import Derived.Test.YtjddbfpinjjkkaaGreatDoorD9
namespace Go.Proofs.YtjddbfpinjjkkaaGreatDoor
open Go.RowKit

theorem times_any (p g a b : Nat) (hp : p < 18446744073709551616) (ha : a < 18446744073709551616) (hb : b < 18446744073709551616) (h : a * b / 18446744073709551616 < p) (w : World) :
    Calls Tryz.prog 224 #[.agg #[.int .u64 (p : Int), .int .u64 (g : Int)], .int .u64 (a : Int), .int .u64 (b : Int)] w fun e w' => e = .returned (.int .u64 ((a * b % p : Nat) : Int)) ∧ Below w.heap.size w w' := by
  have HM : Hid (∀ w, Calls Tryz.prog 247 #[.int .u64 (a : Int), .int .u64 (b : Int)] w fun e w' =>
      e = .returned (.tuple #[.int .u64 ((a * b / 18446744073709551616 : Nat) : Int), .int .u64 ((a * b % 18446744073709551616 : Nat) : Int)]) ∧ w = w') := Lib.hid fun w => mul64 a b ha hb w
  have hd := fun w => div64 (a * b / 18446744073709551616) (a * b % 18446744073709551616) p (Nat.mod_lt _ (by decide)) hp h w
  have e1 : a * b / 18446744073709551616 * 18446744073709551616 + a * b % 18446744073709551616 = a * b := by generalize a * b = m; omega
  rw [e1] at hd
  generalize a * b / 18446744073709551616 = hi at *
  generalize a * b % 18446744073709551616 = lo at *
  generalize a * b % p = r at *
  generalize a * b / p = q at *
  have HD := Lib.hid hd
  clear hd e1 h ha hb hp
  go_enter Tryz.func224, Tryz.ntmps224
  go_wp2_with (first
    | (go_at_call 247; refine (HM.out _).mono ?_; rintro e w1 ⟨rfl, rfl⟩)
    | (go_at_call 251; refine (HD.out _).mono ?_; rintro e w2 ⟨rfl, n, rfl⟩))
  go_ret
  exact ⟨rfl, ((Below.refl _ _).alloc (Nat.le_refl _) _).trans (Drew.below ⟨_, rfl⟩ _)⟩

end Go.Proofs.YtjddbfpinjjkkaaGreatDoor
