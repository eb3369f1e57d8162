/- Closed calls, where some calls are known. -/
import Derived.Test.YtpebjkgogohhpaaGreatDoorEvW6
namespace Go.Ev
open Go.RowKit
variable {P : Program} {I : Known}

/-- A CLOSED CALL THAT ANSWERS TRUE, where the calls of I are known. -/
theorem call_true_from (hI : ∀ B, Sound P B I) (hmix : P.follows .mixedOrders = true) (n k d : Nat) {f : FuncId} (h : endsTrue (startS I (levelS I P k d) P k f [] (memOf n)) = true) (w : World) :
    Calls P f #[] w fun e w' => e = .returned (.bool true) ∧ Below w.heap.size w w' := by
  unfold startS at h
  split at h
  · rename_i g hg
    obtain ⟨M', hM⟩ := endsTrue_eq h
    have := call_runs (P := P) (B := w.heap.size) (hI _) (levelS_sound (hI _) hmix k d) hmix k (memOf_rel n w) (as := []) (vs := #[]) (concs_nil _) hg hM
    refine this.mono ?_
    rintro e w' ⟨m', x, rfl, hx, hs⟩
    have : x = .bool true := by simp [conc] at hx; exact hx.symm
    subst this
    exact ⟨rfl, hs.below⟩
  · simp [endsTrue] at h

end Go.Ev
