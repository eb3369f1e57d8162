/- Calls that are known by what they come to. -/
import Derived.Test.YtkmmplbbefijaaaGreatDoorEvL16
import Derived.Test.YtkmmplbbefijaaaGreatDoorSkyKnownPlain
namespace Go.Ev
open Go.RowKit
variable {P : Program}
theorem WF.of_rel {B : Nat} {m : Map} {M : Mem} {w : World} (hr : MRel B m M w) : WF M := ⟨fun b hb => (hr.fresh b hb).2, hr.flo⟩
theorem sound_calls {f : FuncId} {g : List SV → Option SV} (hmix : P.follows .mixedOrders = true) (h : ∀ (xs : List SV) (s : SV) (M : Mem), g xs = some s → CallsM P f xs M fun s' M' => s' = s ∧ M' = M) (B : Nat) : Sound P B (pureK f g) := by
  intro f' xs M s M' hk
  unfold pureK at hk
  split at hk
  · rename_i hb
    obtain rfl := Nat.eq_of_beq_eq_true hb
    split at hk
    · rename_i s' hs
      simp only [Option.some.injEq, Prod.mk.injEq] at hk
      obtain ⟨rfl, rfl⟩ := hk
      intro m w vs hr has c cs
      obtain ⟨s1, M1, h1, h2, rfl, rfl⟩ := h xs _ M hs (WF.of_rel hr)
      exact h1 hmix B m w vs hr has c cs
    · simp at hk
  · simp at hk
def isV (n x y z : Int) (xs : List SV) : Bool := match xs with
  | [.int .i64 n', .agg [.int .i64 x', .int .i64 y', .int .i64 z']] => (n' == n) && ((x' == x) && ((y' == y) && (z' == z)))
  | _ => false
theorem isV_is {n x y z : Int} {xs : List SV} (h : isV n x y z xs = true) : xs = [.int .i64 n, .agg [.int .i64 x, .int .i64 y, .int .i64 z]] := by
  unfold isV at h
  split at h
  · simp only [Bool.and_eq_true, beq_iff_eq] at h
    obtain ⟨rfl, rfl, rfl, rfl⟩ := h
    rfl
  · simp at h
def cellG (xs : List SV) : Option SV := bif isV 2 2 (-1) (-1) xs then some (.int .i64 0) else bif isV 2 5 0 (-5) xs then some (.int .i64 2) else none
noncomputable def cellK : Known := pureK 57 cellG
end Go.Ev
