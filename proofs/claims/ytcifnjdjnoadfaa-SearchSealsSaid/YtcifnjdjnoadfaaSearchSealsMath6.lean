/- Waves: what the specification's check says. -/
import Derived.Test.YtcifnjdjnoadfaaSearchSealsMath5
namespace Go.Ev.SearchSeals
open Go Go.Ev Go.Proofs
set_option linter.unusedVariables false
theorem rwav3 (F : Nat) (hd : (List S_api_Wave) → Int → Int → Option (Bool)) (ws : List S_api_Wave) (n a g : Int) (i : Nat) (S : List Int) (hS : S.length ≤ 64) : ∀ (k N j : Nat), k = S.length - j → j ≤ S.length → k < N →
    ref08_waves_3 F hd N ws n i j a g S = bif (S.drop j).all fun x => inR (-256) x 256 then hd ws n (w64 ((i : Int) + 1)) else some false
  | k, 0, j, _, _, h => by omega
  | 0, N + 1, j, hk, hj, _ => by
    rw [ref08_waves_3, bif_neg' (by omega : ¬ ((j : Int) < S.length)), List.drop_of_length_le (by omega)]
    rfl
  | k + 1, N + 1, j, hk, hj, hN => by
    obtain ⟨x, hx⟩ := get_lt (l := S) (i := j) (by omega)
    rw [ref08_waves_3, bif_pos' (by omega : ((j : Int) < S.length)), idx_nat, hx, bnd_eq, In_eq, bnd_eq, drop_get hx, List.all_cons]
    cases e : inR (-256) x 256 with
    | false => rfl
    | true =>
      simp only [Bool.not_true, cond_false, Bool.true_and]
      rw [up (by omega), rwav3 F hd ws n a g i S hS k N (j + 1) (by omega) (by omega) (by omega)]
theorem rwav1 (F : Nat) (hF : 64 < F) (ws : List S_api_Wave) (hl : ws.length ≤ 64) (hlen : ∀ w ∈ ws, w.Samples.length ≤ 9223372036854775807) (n : Int) (hn : 0 ≤ n ∧ n ≤ 1024) : ∀ (k N i : Nat) (last : Int), k = ws.length - i → i ≤ ws.length → k < N → (i = 0 ∧ last = -1 ∨ ∃ j b, i = j + 1 ∧ ws[j]? = some b ∧ b.At = last ∧ 0 ≤ last) →
    ref08_waves_1 F N ws n i = some (wvs n last (ws.drop i))
  | k, 0, i, last, _, _, h, _ => by omega
  | 0, N + 1, i, last, hk, hi, _, _ => by
    rw [ref08_waves_1, bif_neg' (by omega : ¬ ((i : Int) < ws.length)), List.drop_of_length_le (by omega)]
    rfl
  | k + 1, N + 1, i, last, hk, hi, hN, hp => by
    obtain ⟨w, hw⟩ := get_lt (l := ws) (i := i) (by omega)
    have hlast : -1 ≤ last := by
      rcases hp with ⟨_, h⟩ | ⟨_, _, _, _, _, h⟩ <;> omega
    have hwl := hlen w (List.mem_of_getElem? hw)
    rw [ref08_waves_1, bif_pos' (by omega : ((i : Int) < ws.length)), idx_nat, hw, bnd_eq, drop_get hw, wvs, wOk]
    have hf : ∀ b, (inR (-64) w.Gain 64 && (inR 1 w.Samples.length 64 && w.Samples.all fun x => inR (-256) x 256) && inR (last + 1) w.At (n - (w.Samples.length : Int))) = false → ref08_waves_2 F (ref08_waves_1 F N) ws n i true w.At w.Gain w.Samples = some ((inR (-64) w.Gain 64 && (inR 1 w.Samples.length 64 && w.Samples.all fun x => inR (-256) x 256) && inR (last + 1) w.At (n - (w.Samples.length : Int))) && b) := by
      intro b h
      unfold ref08_waves_2
      rw [h]
      rfl
    by_cases hA : w.At < 0
    · rw [bif_pos' hA]
      exact hf _ (by rw [inR_false (a := last + 1).2 (by omega), Bool.and_false])
    rw [bif_neg' hA]
    by_cases hB : n ≤ w.At
    · rw [bif_pos' hB]
      refine hf _ ?_
      by_cases hl1 : 1 ≤ w.Samples.length
      · rw [inR_false (a := last + 1).2 (by omega), Bool.and_false]
      · rw [inR_false (a := 1).2 (by omega), Bool.false_and, Bool.and_false, Bool.false_and]
    rw [bif_neg' hB, In_eq, bnd_eq]
    cases e1 : inR (-64) w.Gain 64 with
    | false =>
      rw [e1] at hf
      exact hf _ rfl
    | true =>
      simp only [Bool.not_true, cond_false]
      rw [In_eq, bnd_eq]
      cases e2 : inR 1 w.Samples.length 64 with
      | false =>
        rw [e1, e2] at hf
        exact hf _ rfl
      | true =>
        have h2 := inR_iff.1 e2
        simp only [Bool.not_true, cond_false]
        rw [w64_id (n := w.At + _) (by omega) (by omega)]
        by_cases hE : n < w.At + (w.Samples.length : Int)
        · rw [bif_pos' hE]
          have := hf (wvs n w.At (ws.drop (i + 1))) (by rw [inR_false (a := last + 1).2 (by omega), Bool.and_false])
          rw [e1, e2] at this
          exact this
        rw [bif_neg' hE]
        have hgo : last + 1 ≤ w.At → ref08_waves_2 F (ref08_waves_1 F N) ws n i false w.At w.Gain w.Samples = some ((true && (true && w.Samples.all fun x => inR (-256) x 256) && inR (last + 1) w.At (n - (w.Samples.length : Int))) && wvs n w.At (ws.drop (i + 1))) := by
          clear hp
          intro h
          unfold ref08_waves_2
          have h3 := rwav3 F (ref08_waves_1 F N) ws n w.At w.Gain i w.Samples (by omega) w.Samples.length F 0 rfl (Nat.zero_le _) (by omega)
          rw [List.drop_zero] at h3
          rw [cond_false, inR_iff.2 ⟨h, by omega⟩]
          refine h3.trans ?_
          cases e3 : w.Samples.all fun x => inR (-256) x 256 with
          | false => rfl
          | true =>
            rw [cond_true, up (by omega), rwav1 F hF ws hl hlen n hn k N (i + 1) w.At (by omega) (by omega) (by omega) (.inr ⟨i, w, rfl, hw, rfl, by omega⟩)]
            rfl
        have hno : w.At ≤ last → ref08_waves_2 F (ref08_waves_1 F N) ws n i true w.At w.Gain w.Samples = some ((true && (true && w.Samples.all fun x => inR (-256) x 256) && inR (last + 1) w.At (n - (w.Samples.length : Int))) && wvs n w.At (ws.drop (i + 1))) := by
          clear hp
          intro h
          unfold ref08_waves_2
          rw [inR_false (a := last + 1).2 (by omega), Bool.and_false]
          rfl
        rcases hp with ⟨h0, hl0⟩ | ⟨j, b, hj, hb, hbl, hl0⟩
        · rw [bif_neg' (by omega : ¬ (0 : Int) < i)]
          exact hgo (by omega)
        · rw [bif_pos' (by omega : (0 : Int) < i), w64_id (n := (i : Int) - 1) (by omega) (by omega), show (i : Int) - 1 = (j : Nat) by omega, idx_nat, hb, bnd_eq]
          by_cases hF2 : w.At ≤ b.At
          · rw [decide_eq_true hF2]
            exact hno (by omega)
          · rw [decide_eq_false hF2]
            exact hgo (by omega)
theorem rwaves_eq (F : Nat) (hF : 64 < F) (ws : List S_api_Wave) (hlen : ∀ w ∈ ws, w.Samples.length ≤ 9223372036854775807) (n : Int) (hn : 0 ≤ n ∧ n ≤ 1024) : ref08_waves F ws n = some (wavesB n ws) := by
  unfold ref08_waves wavesB
  by_cases h : (64 : Int) < ws.length
  · rw [bif_pos' h, decide_eq_false (by omega)]
    rfl
  · rw [bif_neg' h, decide_eq_true (by omega), Bool.true_and]
    exact rwav1 F hF ws (by omega) hlen n hn ws.length F 0 (-1) rfl (Nat.zero_le _) (by omega) (.inl ⟨rfl, rfl⟩)
end Go.Ev.SearchSeals
