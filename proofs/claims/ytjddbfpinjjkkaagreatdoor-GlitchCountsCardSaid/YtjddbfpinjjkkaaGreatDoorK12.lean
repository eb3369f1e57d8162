/- Powers in the field are known to the small machine. -/
import Derived.Test.YtjddbfpinjjkkaaGreatDoorK11
import Derived.Test.YtjddbfpinjjkkaaGreatDoorK9
import Derived.Test.YtjddbfpinjjkkaaGreatDoorEvW12
namespace Go.Proofs.YtjddbfpinjjkkaaGreatDoor
open Go.RowKit Go.Ev

noncomputable def powG (xs : List SV) : Option SV := match xs with
  | [.agg [.int .u64 a1, .int .u64 a2], .int .u64 a3, .int .u64 a4] => match intNat a1, intNat a2, intNat a3, intNat a4 with
    | some p, some _, some a, some n => match isW p, Nat.ble 2 p, isW a, isW n with
      | true, true, true, true => some (.int .u64 (Int.ofNat (powL a n p (nb n) 1)))
      | _, _, _, _ => none
    | _, _, _, _ => none
  | _ => none

theorem pow_known : ∀ (xs : List SV) (s : SV), powG xs = some s → ∀ (m : Map) (w : World) (vs : Array Value), concs m xs = some vs.toList → ∃ v, conc m s = some v ∧ Calls Tryz.prog 253 vs w fun e w' => e = .returned v ∧ Below w.heap.size w w' := by
  intro xs s h m w vs hc
  unfold powG at h
  split at h
  · split at h
    · rename_i p g a n e1 e2 e3 e4
      obtain rfl := intNat_eq e1
      obtain rfl := intNat_eq e2
      obtain rfl := intNat_eq e3
      obtain rfl := intNat_eq e4
      split at h
      · rename_i g1 g2 g3 g4
        simp only [Option.some.injEq] at h
        subst h
        obtain ⟨v, u, t, h1, h2, h3, hvs⟩ := concs_three hc
        obtain ⟨l, hl, rfl⟩ := conc_agg h1
        obtain ⟨x, y, k1, k2, hl2⟩ := concs_two hl
        obtain rfl := conc_int k1
        obtain rfl := conc_int k2
        obtain rfl := conc_int h2
        obtain rfl := conc_int h3
        subst hl2
        have hvs' : vs = #[.agg #[.int .u64 (p : Int), .int .u64 (g : Int)], .int .u64 (a : Int), .int .u64 (n : Int)] := by
          apply Array.ext'; rw [hvs]
        subst hvs'
        exact ⟨.int .u64 ((powL a n p (nb n) 1 : Nat) : Int), rfl, power_any p g a n (isW_eq g1) (Nat.le_of_ble_eq_true g2) (isW_eq g3) (isW_eq g4) w⟩
      · simp at h
    · simp at h
  · simp at h

noncomputable def bitsP : Known := orK (pureK 253 powG) bitsK
theorem soundP : ∀ B, Sound Tryz.prog B bitsP := fun B => sound_or (sound_quiet pow_known B) (soundBits B)

end Go.Proofs.YtjddbfpinjjkkaaGreatDoor
