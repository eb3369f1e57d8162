/- Bursts at a greater threshold lie in bursts at a lesser one. -/
import Derived.Test.YtgaofnakcccbkaaSearchLouderMath4
namespace Go.Ev.SearchLouder
open Go Go.Ev Go.Proofs
set_option linter.unusedVariables false
def cov (l m : S_api_Burst) : Prop := l.From ≤ m.From ∧ m.To ≤ l.To ∧ m.Peak ≤ l.Peak
theorem cov_trans {a b c : S_api_Burst} (h : cov a b) (h' : cov b c) : cov a c := ⟨Int.le_trans h.1 h'.1, Int.le_trans h'.2.1 h.2.1, Int.le_trans h'.2.2 h.2.2⟩
theorem cov_refl (a : S_api_Burst) : cov a a := ⟨Int.le_refl _, Int.le_refl _, Int.le_refl _⟩
theorem stepB_nil (w : Nat) (thr : Int) (t : Nat) (p : Int) : stepB w thr [] t p = if p < thr then [] else [⟨t, ((t + w : Nat) : Int), p⟩] := by
  unfold stepB
  split <;> rfl
theorem stepB_snoc (w : Nat) (thr : Int) (L : List S_api_Burst) (b : S_api_Burst) (t : Nat) (p : Int) : stepB w thr (L ++ [b]) t p = if p < thr then L ++ [b] else if (t : Int) ≤ b.To then L ++ [⟨b.From, ((t + w : Nat) : Int), max b.Peak p⟩] else L ++ [b] ++ [⟨t, ((t + w : Nat) : Int), p⟩] := by
  unfold stepB
  have e : (L ++ [b]).length - 1 = L.length := by simp
  have e2 : (L ++ [b])[L.length]? = some b := by simp
  have e3 : (L ++ [b]).set L.length ⟨b.From, ((t + w : Nat) : Int), max b.Peak p⟩ = L ++ [⟨b.From, ((t + w : Nat) : Int), max b.Peak p⟩] := by simp
  rw [e, e2]
  simp only [e3]
theorem nil_or (A : List S_api_Burst) : A = [] ∨ ∃ K b, A = K ++ [b] := by
  rcases List.eq_nil_or_concat A with h | ⟨K, b, h⟩
  · exact .inl h
  · exact .inr ⟨K, b, by rw [h, List.concat_eq_append]⟩
theorem mem_snoc {K : List S_api_Burst} {b l : S_api_Burst} (h : l ∈ K ++ [b]) : l ∈ K ∨ l = b := by
  rcases List.mem_append.1 h with h | h
  · exact .inl h
  · exact .inr (by simpa using h)
structure Lo (w t : Nat) (A B : List S_api_Burst) : Prop where
  all : ∀ m ∈ B, ∃ l ∈ A, cov l m
  last : ∀ L m, B = L ++ [m] → (t : Int) ≤ m.To → ∃ K b, A = K ++ [b] ∧ cov b m
  ends : ∀ l ∈ A, l.To < ((t + w : Nat) : Int) ∧ l.From ≤ (t : Int)
structure Up (w t : Nat) (p : Int) (A A' : List S_api_Burst) (K : List S_api_Burst) (b : S_api_Burst) : Prop where
  eq : A' = K ++ [b]
  to : b.To = ((t + w : Nat) : Int)
  peak : p ≤ b.Peak
  frm : b.From ≤ (t : Int)
  old : ∀ l ∈ A, ∃ l' ∈ A', cov l' l
  ends : ∀ l ∈ A', l.To < ((t + 1 + w : Nat) : Int) ∧ l.From ≤ ((t + 1 : Nat) : Int)
  last : ∀ K0 b0, A = K0 ++ [b0] → (t : Int) ≤ b0.To → cov b b0
theorem lo_up (w : Nat) (thr : Int) (t : Nat) (p : Int) (h1 : ¬ p < thr) {A : List S_api_Burst} (he : ∀ l ∈ A, l.To < ((t + w : Nat) : Int) ∧ l.From ≤ (t : Int)) : ∃ K b, Up w t p A (stepB w thr A t p) K b := by
  rcases nil_or A with rfl | ⟨K, b, rfl⟩
  · refine ⟨[], ⟨t, ((t + w : Nat) : Int), p⟩, by rw [stepB_nil, if_neg h1]; rfl, rfl, Int.le_refl _, Int.le_refl _, fun l hl => (by cases hl), fun l hl => ?_, fun K0 b0 e => by simp at e⟩
    rw [stepB_nil, if_neg h1] at hl
    have hl' : l = ⟨t, ((t + w : Nat) : Int), p⟩ := by simpa using hl
    subst hl'
    exact ⟨by show ((t + w : Nat) : Int) < _; omega, by show (t : Int) ≤ _; omega⟩
  · have hb := he b (by simp)
    by_cases h2 : (t : Int) ≤ b.To
    · have e : stepB w thr (K ++ [b]) t p = K ++ [⟨b.From, ((t + w : Nat) : Int), max b.Peak p⟩] := by rw [stepB_snoc, if_neg h1, if_pos h2]
      have hc : cov ⟨b.From, ((t + w : Nat) : Int), max b.Peak p⟩ b := ⟨Int.le_refl _, by show b.To ≤ ((t + w : Nat) : Int); omega, by show b.Peak ≤ max b.Peak p; omega⟩
      rw [e]
      refine ⟨K, _, rfl, rfl, by show p ≤ max b.Peak p; omega, hb.2, fun l hl => ?_, fun l hl => ?_, fun K0 b0 e0 hb0 => ?_⟩
      · rcases mem_snoc hl with hl | rfl
        · exact ⟨l, List.mem_append_left _ hl, cov_refl l⟩
        · exact ⟨_, List.mem_append_right _ List.mem_cons_self, hc⟩
      · rcases mem_snoc hl with hl | rfl
        · have := he l (List.mem_append_left _ hl)
          omega
        · exact ⟨by show ((t + w : Nat) : Int) < _; omega, by show b.From ≤ _; omega⟩
      · obtain ⟨_, e1⟩ := List.append_inj' e0 rfl
        have : b = b0 := by simpa using e1
        subst this
        exact hc
    · have e : stepB w thr (K ++ [b]) t p = K ++ [b] ++ [⟨t, ((t + w : Nat) : Int), p⟩] := by rw [stepB_snoc, if_neg h1, if_neg h2]
      rw [e]
      refine ⟨K ++ [b], _, rfl, rfl, Int.le_refl _, Int.le_refl _, fun l hl => ⟨l, List.mem_append_left _ hl, cov_refl l⟩, fun l hl => ?_, fun K0 b0 e0 hb0 => ?_⟩
      · rcases mem_snoc hl with hl | rfl
        · have := he l hl
          omega
        · exact ⟨by show ((t + w : Nat) : Int) < _; omega, by show (t : Int) ≤ _; omega⟩
      · obtain ⟨_, e1⟩ := List.append_inj' e0 rfl
        have : b = b0 := by simpa using e1
        subst this
        exact absurd hb0 h2
theorem lo_step (w : Nat) (thr thr' : Int) (hthr : thr ≤ thr') (t : Nat) (p : Int) {A B : List S_api_Burst} (h : Lo w t A B) : Lo w (t + 1) (stepB w thr A t p) (stepB w thr' B t p) := by
  by_cases h1 : p < thr
  · have eA : stepB w thr A t p = A := by unfold stepB; rw [if_pos h1]
    have eB : stepB w thr' B t p = B := by unfold stepB; rw [if_pos (by omega)]
    rw [eA, eB]
    exact ⟨h.all, fun L m e hm => h.last L m e (by omega), fun l hl => by have := h.ends l hl; omega⟩
  · obtain ⟨K, b, u⟩ := lo_up w thr t p h1 h.ends
    have hbm : b ∈ stepB w thr A t p := by rw [u.eq]; simp
    have hold : ∀ m ∈ B, ∃ l ∈ stepB w thr A t p, cov l m := fun m hm => by
      obtain ⟨l, hl, hc⟩ := h.all m hm
      obtain ⟨l', hl', hc'⟩ := u.old l hl
      exact ⟨l', hl', cov_trans hc' hc⟩
    have hlast : ∀ L m, B = L ++ [m] → (t : Int) ≤ m.To → cov b m := fun L m e hm => by
      obtain ⟨K0, b0, e0, hc⟩ := h.last L m e hm
      exact cov_trans (u.last K0 b0 e0 (by have := hc.2.1; omega)) hc
    by_cases h2 : p < thr'
    · have eB : stepB w thr' B t p = B := by unfold stepB; rw [if_pos h2]
      rw [eB]
      exact ⟨hold, fun L m e hm => ⟨K, b, u.eq, hlast L m e (by omega)⟩, u.ends⟩
    · have hnew : cov b ⟨t, ((t + w : Nat) : Int), p⟩ := ⟨u.frm, by rw [u.to]; exact Int.le_refl _, u.peak⟩
      rcases nil_or B with rfl | ⟨L, m, rfl⟩
      · have eB : stepB w thr' [] t p = [⟨t, ((t + w : Nat) : Int), p⟩] := by rw [stepB_nil, if_neg h2]
        rw [eB]
        refine ⟨fun m hm => ?_, fun L m e hm => ?_, u.ends⟩
        · have : m = ⟨t, ((t + w : Nat) : Int), p⟩ := by simpa using hm
          subst this
          exact ⟨b, hbm, hnew⟩
        · obtain ⟨_, e1⟩ := List.append_inj' (s₁ := []) e rfl
          have : (⟨t, ((t + w : Nat) : Int), p⟩ : S_api_Burst) = m := by simpa using e1
          subst this
          exact ⟨K, b, u.eq, hnew⟩
      · by_cases h3 : (t : Int) ≤ m.To
        · have eB : stepB w thr' (L ++ [m]) t p = L ++ [⟨m.From, ((t + w : Nat) : Int), max m.Peak p⟩] := by rw [stepB_snoc, if_neg h2, if_pos h3]
          have hm := hlast L m rfl h3
          have hm' : cov b ⟨m.From, ((t + w : Nat) : Int), max m.Peak p⟩ := ⟨hm.1, by rw [u.to]; exact Int.le_refl _, by have h1 := hm.2.2; have h2 := u.peak; show max m.Peak p ≤ b.Peak; omega⟩
          rw [eB]
          refine ⟨fun q hq => ?_, fun L' q e hq => ?_, u.ends⟩
          · rcases mem_snoc hq with hq | rfl
            · exact hold q (List.mem_append_left _ hq)
            · exact ⟨b, hbm, hm'⟩
          · obtain ⟨_, e1⟩ := List.append_inj' e rfl
            have : (⟨m.From, ((t + w : Nat) : Int), max m.Peak p⟩ : S_api_Burst) = q := by simpa using e1
            subst this
            exact ⟨K, b, u.eq, hm'⟩
        · have eB : stepB w thr' (L ++ [m]) t p = L ++ [m] ++ [⟨t, ((t + w : Nat) : Int), p⟩] := by rw [stepB_snoc, if_neg h2, if_neg h3]
          rw [eB]
          refine ⟨fun q hq => ?_, fun L' q e hq => ?_, u.ends⟩
          · rcases mem_snoc hq with hq | rfl
            · exact hold q hq
            · exact ⟨b, hbm, hnew⟩
          · obtain ⟨_, e1⟩ := List.append_inj' e rfl
            have : (⟨t, ((t + w : Nat) : Int), p⟩ : S_api_Burst) = q := by simpa using e1
            subst this
            exact ⟨K, b, u.eq, hnew⟩
theorem lo_brs (x : List Int) (w : Nat) (thr thr' : Int) (hthr : thr ≤ thr') : ∀ (k t : Nat) (A B : List S_api_Burst), Lo w t A B → ∀ m ∈ brs x w thr' k t B, ∃ l ∈ brs x w thr k t A, cov l m
  | 0, t, A, B, h => h.all
  | k + 1, t, A, B, h => lo_brs x w thr thr' hthr k (t + 1) _ _ (lo_step w thr thr' hthr t _ h)
theorem louder (x : List Int) (w : Nat) (thr thr' : Int) (hthr : thr ≤ thr') : ∀ m ∈ burF x w thr', ∃ l ∈ burF x w thr, cov l m :=
  lo_brs x w thr thr' hthr _ 0 [] [] ⟨fun m h => (by cases h), fun L m e => (by simp at e), fun l h => (by cases h)⟩
end Go.Ev.SearchLouder
