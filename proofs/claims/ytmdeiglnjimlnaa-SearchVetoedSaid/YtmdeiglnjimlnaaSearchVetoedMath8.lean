/- What checked triggers are. -/
import Derived.Test.YtmdeiglnjimlnaaSearchVetoedMath7
namespace Go.Ev.SearchVetoed
open Go Go.Ev Go.Proofs
set_option linter.unusedVariables false
def ltT (a b : S_api_Trigger) : Prop := a.Time < b.Time
theorem trs_fw : ∀ {l : List S_api_Trigger} {last : Int}, trs last l = true → -1 ≤ last → (∀ a ∈ l, last < a.Time ∧ okA a) ∧ l.Pairwise ltT
  | [], _, _, _ => ⟨fun a h => (by cases h), List.Pairwise.nil⟩
  | b :: r, last, h, h1 => by
    have hb := trs_ok h h1 b List.mem_cons_self
    rw [trs, Bool.and_eq_true, Bool.and_eq_true] at h
    have g1 := inR_iff.1 h.1.1
    obtain ⟨i1, i2⟩ := trs_fw h.2 (by omega)
    refine ⟨fun a ha => ?_, List.Pairwise.cons (fun a ha => (i1 a ha).1) i2⟩
    rcases List.mem_cons.1 ha with rfl | ha
    · exact ⟨by omega, hb⟩
    · exact ⟨by have := (i1 a ha).1; omega, (i1 a ha).2⟩
theorem trs_bw : ∀ {l : List S_api_Trigger} {last : Int}, (∀ a ∈ l, last < a.Time ∧ okA a) → l.Pairwise ltT → trs last l = true
  | [], _, _, _ => rfl
  | b :: r, last, h, hp => by
    obtain ⟨h1, b1, b2, b3, b4, b5, b6⟩ := h b List.mem_cons_self
    obtain ⟨p1, p2⟩ := List.pairwise_cons.1 hp
    have ih := trs_bw (l := r) (last := b.Time) (fun a ha => ⟨p1 a ha, (h a (List.mem_cons_of_mem _ ha)).2⟩) p2
    rw [trs, ih, inR_iff.2 ⟨by omega, b2⟩, inR_iff.2 ⟨b3, b4⟩, inR_iff.2 ⟨b5, b6⟩]
    rfl
theorem okT_fw {l : List S_api_Trigger} (h : okT l = true) : (∀ a ∈ l, okA a) ∧ l.Pairwise ltT := by
  rw [okT, Bool.and_eq_true] at h
  obtain ⟨h1, h2⟩ := trs_fw h.2 (by omega)
  exact ⟨fun a ha => (h1 a ha).2, h2⟩
theorem okT_bw {l : List S_api_Trigger} (h0 : l.length ≤ 256) (h1 : ∀ a ∈ l, okA a) (h2 : l.Pairwise ltT) : okT l = true := by
  rw [okT, Bool.and_eq_true]
  exact ⟨decide_eq_true h0, trs_bw (fun a ha => ⟨by have := (h1 a ha).1; omega, h1 a ha⟩) h2⟩
theorem fit_iff {T : Int} {l : List S_api_Trigger} : fit T l = true ↔ ∀ a ∈ l, a.Time < T := by simp [fit]
end Go.Ev.SearchVetoed
