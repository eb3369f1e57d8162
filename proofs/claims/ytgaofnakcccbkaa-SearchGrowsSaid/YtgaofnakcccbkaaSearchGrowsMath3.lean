/- What checked triggers and clocks are. -/
import Derived.Test.YtgaofnakcccbkaaSearchGrowsMath2
namespace Go.Ev.SearchGrows
open Go Go.Ev Go.Proofs
set_option linter.unusedVariables false
def chkE (c : S_search_clock) (L : List (List S_api_Trigger)) : Int := bif L.all okT then (bif okC c && L.all (fit c.live) then 0 else 81) else 80
def okA (a : S_api_Trigger) : Prop := 0 ≤ a.Time ∧ a.Time ≤ 1073741823 ∧ 0 ≤ a.Loud ∧ a.Loud ≤ 1073741824 ∧ 0 ≤ a.Template ∧ a.Template ≤ 255
theorem trs_ok : ∀ {l : List S_api_Trigger} {last : Int}, trs last l = true → -1 ≤ last → ∀ a ∈ l, okA a
  | [], _, _, _, a, h => by cases h
  | b :: r, last, h, h1, a, ha => by
    rw [trs, Bool.and_eq_true, Bool.and_eq_true, Bool.and_eq_true] at h
    have g1 := inR_iff.1 h.1.1
    have g2 := inR_iff.1 h.1.2.1
    have g3 := inR_iff.1 h.1.2.2
    rcases List.mem_cons.1 ha with rfl | ha
    · exact ⟨by omega, g1.2, g2.1, g2.2, g3.1, g3.2⟩
    · exact trs_ok h.2 (by omega) a ha
theorem okT_len {l : List S_api_Trigger} (h : okT l = true) : l.length ≤ 256 := by
  rw [okT, Bool.and_eq_true, decide_eq_true_eq] at h
  exact h.1
theorem okT_ok {l : List S_api_Trigger} (h : okT l = true) : ∀ a ∈ l, okA a := by
  rw [okT, Bool.and_eq_true, decide_eq_true_eq] at h
  exact trs_ok h.2 (by omega)
theorem okC_live {c : S_search_clock} (h : okC c = true) : 1 ≤ c.live ∧ c.live ≤ 1073741824 ∧ 0 ≤ c.window ∧ c.window ≤ c.live - 1 ∧ 1 ≤ c.step ∧ c.step ≤ c.live := by
  rw [okC, Bool.and_eq_true, Bool.and_eq_true, Bool.and_eq_true] at h
  have g1 := inR_iff.1 h.1.1
  have g2 := inR_iff.1 h.1.2.1
  have g3 := inR_iff.1 h.1.2.2
  exact ⟨g1.1, g1.2, g2.1, g2.2, g3.1, g3.2⟩
theorem chkE_0 {c : S_search_clock} {L : List (List S_api_Trigger)} : chkE c L = 0 ↔ L.all okT = true ∧ okC c = true ∧ L.all (fit c.live) = true := by
  unfold chkE
  cases L.all okT <;> cases okC c <;> cases L.all (fit c.live) <;> simp
end Go.Ev.SearchGrows
