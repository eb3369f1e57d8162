/- What math/bits' functions answer, for the small machine. -/
import Derived.Test.YtjddbfpinjjkkaaGreatDoorD9
import Derived.Test.YtjddbfpinjjkkaaGreatDoorEvW12
namespace Go.Proofs.YtjddbfpinjjkkaaGreatDoor
open Go.RowKit Go.Ev

noncomputable def isW (n : Nat) : Bool := Nat.ble (Nat.succ n) 18446744073709551616
theorem isW_eq {n : Nat} (h : isW n = true) : n < 18446744073709551616 := Nat.lt_of_succ_le (Nat.le_of_ble_eq_true h)

noncomputable def divG (xs : List SV) : Option SV := match xs with
  | [.int .u64 a, .int .u64 b, .int .u64 c] => match intNat a, intNat b, intNat c with
    | some hi, some lo, some y => match Nat.ble (Nat.succ hi) y, isW lo, isW y with
      | true, true, true => some (.tuple [.int .u64 (Int.ofNat (Nat.div (Nat.add (Nat.mul hi 18446744073709551616) lo) y)), .int .u64 (Int.ofNat (Nat.mod (Nat.add (Nat.mul hi 18446744073709551616) lo) y))])
      | _, _, _ => none
    | _, _, _ => none
  | _ => none

noncomputable def mulG (xs : List SV) : Option SV := match xs with
  | [.int .u64 a, .int .u64 b] => match intNat a, intNat b with
    | some x, some y => match isW x, isW y with
      | true, true => some (.tuple [.int .u64 (Int.ofNat (Nat.div (Nat.mul x y) 18446744073709551616)), .int .u64 (Int.ofNat (Nat.mod (Nat.mul x y) 18446744073709551616))])
      | _, _ => none
    | _, _ => none
  | _ => none

theorem div_known : ∀ (xs : List SV) (s : SV), divG xs = some s → ∀ (m : Map) (w : World) (vs : Array Value), concs m xs = some vs.toList → ∃ v, conc m s = some v ∧ Calls Tryz.prog 251 vs w fun e w' => e = .returned v ∧ Idle w w' := by
  intro xs s h m w vs hc
  unfold divG at h
  split at h
  · split at h
    · rename_i hi lo y e1 e2 e3
      obtain rfl := intNat_eq e1
      obtain rfl := intNat_eq e2
      obtain rfl := intNat_eq e3
      split at h
      · rename_i g1 g2 g3
        simp only [Option.some.injEq] at h
        subst h
        obtain ⟨v, u, t, h1, h2, h3, hvs⟩ := concs_three hc
        obtain rfl := conc_int h1
        obtain rfl := conc_int h2
        obtain rfl := conc_int h3
        have hvs' : vs = #[.int .u64 (hi : Int), .int .u64 (lo : Int), .int .u64 (y : Int)] := by
          apply Array.ext'; rw [hvs]
        subst hvs'
        refine ⟨_, by simp [conc, concs]; rfl, (div64 hi lo y (isW_eq g2) (isW_eq g3) (Nat.lt_of_succ_le (Nat.le_of_ble_eq_true g1)) w).mono ?_⟩
        rintro e w' ⟨rfl, q, rfl⟩
        exact ⟨rfl, rfl, rfl, rfl, rfl⟩
      · simp at h
    · simp at h
  · simp at h

theorem mul_known : ∀ (xs : List SV) (s : SV), mulG xs = some s → ∀ (m : Map) (w : World) (vs : Array Value), concs m xs = some vs.toList → ∃ v, conc m s = some v ∧ Calls Tryz.prog 247 vs w fun e w' => e = .returned v ∧ Idle w w' := by
  intro xs s h m w vs hc
  unfold mulG at h
  split at h
  · split at h
    · rename_i x y e1 e2
      obtain rfl := intNat_eq e1
      obtain rfl := intNat_eq e2
      split at h
      · rename_i g1 g2
        simp only [Option.some.injEq] at h
        subst h
        obtain ⟨v, u, h1, h2, hvs⟩ := concs_two hc
        obtain rfl := conc_int h1
        obtain rfl := conc_int h2
        have hvs' : vs = #[.int .u64 (x : Int), .int .u64 (y : Int)] := by
          apply Array.ext'; rw [hvs]
        subst hvs'
        refine ⟨_, by simp [conc, concs]; rfl, (mul64 x y (isW_eq g1) (isW_eq g2) w).mono ?_⟩
        rintro e w' ⟨rfl, rfl⟩
        exact ⟨rfl, rfl, rfl, rfl, rfl⟩
      · simp at h
    · simp at h
  · simp at h

noncomputable def bitsK : Known := orK (pureK 251 divG) (pureK 247 mulG)
theorem soundBits : ∀ B, Sound Tryz.prog B bitsK := fun B => sound_or (sound_pure div_known B) (sound_pure mul_known B)

end Go.Proofs.YtjddbfpinjjkkaaGreatDoor
