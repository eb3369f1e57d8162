/- Each hot window lies in exactly one burst. -/
import Derived.Test.YtmdeiglnjimlnaaSearchTilesMath9
namespace Go.Ev.SearchTiles
open Go Go.Ev Go.Proofs
set_option linter.unusedVariables false
theorem stepB_nil (w : Nat) (thr : Int) (t : Nat) (p : Int) : stepB w thr [] t p = if p < thr then [] else [⟨t, ((t + w : Nat) : Int), p⟩] := by
  unfold stepB
  split <;> rfl
theorem stepB_snoc (w : Nat) (thr : Int) (L : List S_api_Burst) (b : S_api_Burst) (t : Nat) (p : Int) : stepB w thr (L ++ [b]) t p = if p < thr then L ++ [b] else if (t : Int) ≤ b.To then L ++ [⟨b.From, ((t + w : Nat) : Int), max b.Peak p⟩] else L ++ [b] ++ [⟨t, ((t + w : Nat) : Int), p⟩] := by
  unfold stepB
  have e : (L ++ [b]).length - 1 = L.length := by simp
  have e2 : (L ++ [b])[L.length]? = some b := by simp
  have e3 : (L ++ [b]).set L.length ⟨b.From, ((t + w : Nat) : Int), max b.Peak p⟩ = L ++ [⟨b.From, ((t + w : Nat) : Int), max b.Peak p⟩] := by simp
  rw [e, e2]
  simp only [e3]
theorem nil_or (A : List S_api_Burst) : A = [] ∨ ∃ K b, A = K ++ [b] := by
  rcases List.eq_nil_or_concat A with h | ⟨K, b, h⟩
  · exact .inl h
  · exact .inr ⟨K, b, by rw [h, List.concat_eq_append]⟩
theorem mem_snoc {K : List S_api_Burst} {b l : S_api_Burst} (h : l ∈ K ++ [b]) : l ∈ K ∨ l = b := by
  rcases List.mem_append.1 h with h | h
  · exact .inl h
  · exact .inr (by simpa using h)
def gapR (a b : S_api_Burst) : Prop := a.To < b.From
def ins (w u : Nat) (a : S_api_Burst) : Prop := a.From ≤ (u : Int) ∧ ((u + w : Nat) : Int) ≤ a.To
structure Ho (x : List Int) (w : Nat) (thr : Int) (t : Nat) (A : List S_api_Burst) : Prop where
  gap : A.Pairwise gapR
  ends : ∀ a ∈ A, a.From ≤ (t : Int) ∧ a.To < ((t + w : Nat) : Int)
  some1 : ∀ u : Nat, u < t → thr ≤ pw x w u → ∃ a ∈ A, ins w u a
  peak1 : ∀ a ∈ A, ∃ u : Nat, u < t ∧ thr ≤ pw x w u ∧ ins w u a ∧ pw x w u = a.Peak
  peak2 : ∀ a ∈ A, ∀ u : Nat, u < t → thr ≤ pw x w u → ins w u a → pw x w u ≤ a.Peak
theorem ho_step (x : List Int) (w : Nat) (hw : 1 ≤ w) (thr : Int) (t : Nat) {A : List S_api_Burst} (h : Ho x w thr t A) : Ho x w thr (t + 1) (stepB w thr A t (pw x w t)) := by
  by_cases h1 : pw x w t < thr
  · have eA : stepB w thr A t (pw x w t) = A := by unfold stepB; rw [if_pos h1]
    rw [eA]
    have hu : ∀ u : Nat, u < t + 1 → thr ≤ pw x w u → u < t := fun u h2 h3 => by
      by_cases e : u = t
      · subst e; omega
      · omega
    refine ⟨h.gap, fun a ha => by have := h.ends a ha; omega, fun u h2 h3 => h.some1 u (hu u h2 h3) h3, fun a ha => ?_, fun a ha u h2 h3 h4 => h.peak2 a ha u (hu u h2 h3) h3 h4⟩
    obtain ⟨u, g1, g2, g3, g4⟩ := h.peak1 a ha
    exact ⟨u, by omega, g2, g3, g4⟩
  · have hnew : ins w t ⟨t, ((t + w : Nat) : Int), pw x w t⟩ := ⟨Int.le_refl _, Int.le_refl _⟩
    have hnot : ∀ a ∈ A, ¬ ins w t a := fun a ha hi => by
      have := (h.ends a ha).2
      have := hi.2
      omega
    rcases nil_or A with rfl | ⟨L, b, rfl⟩
    · have e : stepB w thr [] t (pw x w t) = [⟨t, ((t + w : Nat) : Int), pw x w t⟩] := by rw [stepB_nil, if_neg h1]
      have hno : ∀ u : Nat, u < t → ¬ thr ≤ pw x w u := fun u h2 h3 => by
        obtain ⟨a, ha, _⟩ := h.some1 u h2 h3
        cases ha
      rw [e]
      have hm : ∀ {a : S_api_Burst}, a ∈ [(⟨t, ((t + w : Nat) : Int), pw x w t⟩ : S_api_Burst)] → a = ⟨t, ((t + w : Nat) : Int), pw x w t⟩ := fun ha => by simpa using ha
      refine ⟨List.pairwise_singleton _ _, fun a ha => ?_, fun u h2 h3 => ?_, fun a ha => ?_, fun a ha u h2 h3 h4 => ?_⟩
      · rw [hm ha]
        exact ⟨by show (t : Int) ≤ _; omega, by show ((t + w : Nat) : Int) < _; omega⟩
      · by_cases e : u = t
        · subst e
          exact ⟨_, List.mem_cons_self, hnew⟩
        · exact absurd h3 (hno u (by omega))
      · rw [hm ha]
        exact ⟨t, by omega, by omega, hnew, rfl⟩
      · by_cases e : u = t
        · subst e
          rw [hm ha]
          exact Int.le_refl _
        · exact absurd h3 (hno u (by omega))
    · have hb := h.ends b (by simp)
      obtain ⟨p1, p2, p3⟩ := List.pairwise_append.1 h.gap
      have hLb : ∀ l ∈ L, l.To < b.From := fun l hl => p3 l hl b (by simp)
      by_cases h2 : (t : Int) ≤ b.To
      · have e : stepB w thr (L ++ [b]) t (pw x w t) = L ++ [⟨b.From, ((t + w : Nat) : Int), max b.Peak (pw x w t)⟩] := by rw [stepB_snoc, if_neg h1, if_pos h2]
        rw [e]
        have hbt : ins w t ⟨b.From, ((t + w : Nat) : Int), max b.Peak (pw x w t)⟩ := ⟨hb.1, Int.le_refl _⟩
        have hup : ∀ u : Nat, ins w u b → ins w u ⟨b.From, ((t + w : Nat) : Int), max b.Peak (pw x w t)⟩ := fun u hi => ⟨hi.1, by have := hi.2; show ((u + w : Nat) : Int) ≤ ((t + w : Nat) : Int); omega⟩
        refine ⟨?_, fun a ha => ?_, fun u h3 h4 => ?_, fun a ha => ?_, fun a ha u h3 h4 h5 => ?_⟩
        · rw [List.pairwise_append]
          refine ⟨p1, List.pairwise_singleton _ _, fun l hl q hq => ?_⟩
          have : q = ⟨b.From, ((t + w : Nat) : Int), max b.Peak (pw x w t)⟩ := by simpa using hq
          subst this
          exact hLb l hl
        · rcases mem_snoc ha with ha | rfl
          · have := h.ends a (List.mem_append_left _ ha); omega
          · exact ⟨by show b.From ≤ _; omega, by show ((t + w : Nat) : Int) < _; omega⟩
        · by_cases e : u = t
          · subst e
            exact ⟨_, List.mem_append_right _ List.mem_cons_self, hbt⟩
          · obtain ⟨a, ha, hi⟩ := h.some1 u (by omega) h4
            rcases mem_snoc ha with ha | rfl
            · exact ⟨a, List.mem_append_left _ ha, hi⟩
            · exact ⟨_, List.mem_append_right _ List.mem_cons_self, hup u hi⟩
        · rcases mem_snoc ha with ha | rfl
          · obtain ⟨u, g1, g2, g3, g4⟩ := h.peak1 a (List.mem_append_left _ ha)
            exact ⟨u, by omega, g2, g3, g4⟩
          · by_cases hp : b.Peak ≤ pw x w t
            · exact ⟨t, by omega, by omega, hbt, by show pw x w t = max b.Peak (pw x w t); omega⟩
            · obtain ⟨u, g1, g2, g3, g4⟩ := h.peak1 b (by simp)
              exact ⟨u, by omega, g2, hup u g3, by show pw x w u = max b.Peak (pw x w t); omega⟩
        · by_cases e : u = t
          · subst e
            rcases mem_snoc ha with ha | rfl
            · exact absurd h5 (hnot a (List.mem_append_left _ ha))
            · show pw x w u ≤ max b.Peak (pw x w u)
              omega
          · rcases mem_snoc ha with ha | rfl
            · exact h.peak2 a (List.mem_append_left _ ha) u (by omega) h4 h5
            · obtain ⟨a, ha, hi⟩ := h.some1 u (by omega) h4
              have hbu : b.From ≤ (u : Int) := h5.1
              rcases mem_snoc ha with ha | rfl
              · have h6 := hLb a ha
                have h7 := hi.2
                omega
              · have := h.peak2 a (by simp) u (by omega) h4 hi
                show pw x w u ≤ max a.Peak (pw x w t)
                omega
      · have e : stepB w thr (L ++ [b]) t (pw x w t) = L ++ [b] ++ [⟨t, ((t + w : Nat) : Int), pw x w t⟩] := by rw [stepB_snoc, if_neg h1, if_neg h2]
        rw [e]
        refine ⟨?_, fun a ha => ?_, fun u h3 h4 => ?_, fun a ha => ?_, fun a ha u h3 h4 h5 => ?_⟩
        · rw [List.pairwise_append]
          refine ⟨h.gap, List.pairwise_singleton _ _, fun l hl q hq => ?_⟩
          have : q = ⟨t, ((t + w : Nat) : Int), pw x w t⟩ := by simpa using hq
          subst this
          show l.To < (t : Int)
          rcases mem_snoc hl with hl | rfl
          · have := hLb l hl; omega
          · omega
        · rcases mem_snoc ha with ha | rfl
          · have := h.ends a ha; omega
          · exact ⟨by show (t : Int) ≤ _; omega, by show ((t + w : Nat) : Int) < _; omega⟩
        · by_cases e : u = t
          · subst e
            exact ⟨_, List.mem_append_right _ List.mem_cons_self, hnew⟩
          · obtain ⟨a, ha, hi⟩ := h.some1 u (by omega) h4
            exact ⟨a, List.mem_append_left _ ha, hi⟩
        · rcases mem_snoc ha with ha | rfl
          · obtain ⟨u, g1, g2, g3, g4⟩ := h.peak1 a ha
            exact ⟨u, by omega, g2, g3, g4⟩
          · exact ⟨t, by omega, by omega, hnew, rfl⟩
        · by_cases e : u = t
          · subst e
            rcases mem_snoc ha with ha | rfl
            · exact absurd h5 (hnot a ha)
            · exact Int.le_refl _
          · rcases mem_snoc ha with ha | rfl
            · exact h.peak2 a ha u (by omega) h4 h5
            · have : (t : Int) ≤ (u : Int) := h5.1
              omega
theorem ho_brs (x : List Int) (w : Nat) (hw : 1 ≤ w) (thr : Int) : ∀ (k t : Nat) (A : List S_api_Burst), Ho x w thr t A → Ho x w thr (t + k) (brs x w thr k t A)
  | 0, t, A, h => h
  | k + 1, t, A, h => by
    have := ho_brs x w hw thr k (t + 1) _ (ho_step x w hw thr t h)
    rw [show t + 1 + k = t + (k + 1) by omega] at this
    exact this
theorem ho_all (x : List Int) (w : Nat) (hw : 1 ≤ w) (thr : Int) : Ho x w thr (x.length + 1 - w) (burF x w thr) := by
  have := ho_brs x w hw thr (x.length + 1 - w) 0 [] ⟨List.Pairwise.nil, fun a h => (by cases h), fun u h => (by omega), fun a h => (by cases h), fun a h => (by cases h)⟩
  rw [Nat.zero_add] at this
  exact this
theorem ins_one {w : Nat} {L : List S_api_Burst} (hw : 1 ≤ w) (hg : L.Pairwise gapR) {u i j : Nat} {a b : S_api_Burst} (hi : L[i]? = some a) (hj : L[j]? = some b) (h1 : ins w u a) (h2 : ins w u b) : i = j := by
  obtain ⟨li, ei⟩ := List.getElem?_eq_some_iff.1 hi
  obtain ⟨lj, ej⟩ := List.getElem?_eq_some_iff.1 hj
  have hp := List.pairwise_iff_getElem.1 hg
  rcases Nat.lt_trichotomy i j with h | h | h
  · have := hp i j li lj h
    rw [ei, ej] at this
    have e1 : a.To < b.From := this
    have := h1.2
    have := h2.1
    omega
  · exact h
  · have := hp j i lj li h
    rw [ei, ej] at this
    have e1 : b.To < a.From := this
    have := h2.2
    have := h1.1
    omega
end Go.Ev.SearchTiles
