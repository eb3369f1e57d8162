/- GlitchTransforms. -/
import Derived.Test.YtdcgepenffjdcaaGreatDoorGlitchTransformsMath4
namespace Go.Ev.GlitchTransforms
open Go Go.Ev Go.Proofs
set_option linter.unusedVariables false
theorem energy1 (F : Nat) (x : List Int) (hl : x.length ≤ 9223372036854775807) : ∀ (k N i : Nat) (v : Int), k = x.length - i → i ≤ x.length → k < N → ∃ s : Int, glitch_product_1 F N x x v x.length i = some s ∧ ref06_Energy_1 F N x v i = some (w64 (s * x.length), 0)
  | k, 0, i, v, _, _, h => by omega
  | 0, N + 1, i, v, hk, hi, _ => by
    refine ⟨v, ?_, ?_⟩
    · rw [glitch_product_1, bif_neg' (by omega : ¬ ((i : Int) < x.length))]
    · rw [ref06_Energy_1, bif_neg' (by omega : ¬ ((i : Int) < x.length))]
  | k + 1, N + 1, i, v, hk, hi, hN => by
    obtain ⟨a, ha⟩ := get_lt (l := x) (i := i) (by omega)
    have e : w64 ((i : Int) + 1) = ((i + 1 : Nat) : Int) := by rw [w64_id (by omega) (by omega)]; simp
    obtain ⟨s, h1, h2⟩ := energy1 F x hl k N (i + 1) (w64 (v + w64 (a * a))) (by omega) (by omega) (by omega)
    refine ⟨s, ?_, ?_⟩
    · rw [glitch_product_1, bif_pos' (by omega : ((i : Int) < x.length)), idx_nat, ha, bnd_eq, bnd_eq, e]
      exact h1
    · rw [ref06_Energy_1, bif_pos' (by omega : ((i : Int) < x.length)), idx_nat, ha, bnd_eq, bnd_eq, e]
      exact h2
theorem energy_eq (F : Nat) (x : List Int) (hl : x.length ≤ 9223372036854775807) (hF : x.length + 11 < F) : ∃ r : Int × Int, glitch_Energy F x = some r ∧ ref06_Energy F x = some r := by
  unfold glitch_Energy ref06_Energy
  rw [isSignal_eq F x hl (by omega), bnd_eq, rCheck_eq F x hl hF, bnd_eq]
  cases sig x with
  | false => exact ⟨(0, 60), rfl, rfl⟩
  | true =>
    obtain ⟨s, h1, h2⟩ := energy1 F x hl x.length F 0 0 (by omega) (by omega) (by omega)
    have h1' : glitch_product F x x = some s := h1
    refine ⟨(w64 (s * x.length), 0), ?_, h2⟩
    simp only [Bool.not_true, cond_false]
    rw [h1', bnd_eq, Int.mul_comm]
theorem trans3 (F : Nat) (x : List Int) (hx : x.length ≤ 9223372036854775807) (hF : x.length + 1200 < F) (hw : works F = some true) : law06_GlitchTransforms_2 F x false = some true := by
  obtain ⟨r, h1, h2⟩ := energy_eq F x hx (by omega)
  unfold law06_GlitchTransforms_2 law06_GlitchTransforms_3 law06_GlitchTransforms_4
  simp only [cond_false]
  rw [h1, bnd_eq, h2, bnd_eq, hw]
  simp [bnd_eq]
theorem trans2 (F : Nat) (x c : List Int) (hx : x.length ≤ 9223372036854775807) (hc : c.length ≤ 9223372036854775807) (hF : x.length + 1200 < F) (hF2 : c.length + 1200 < F) (hw : works F = some true) : law06_GlitchTransforms_1 F x c false = some true := by
  obtain ⟨n, h1, h2⟩ := Inverse_eq F c hc (by omega)
  have h3 := rInverse_eq F c hc hF2 h2
  unfold law06_GlitchTransforms_1
  simp only [cond_false]
  rw [h1, bnd_eq, h3, bnd_eq]
  have key : ∀ p : List Int × Int, p.1.length ≤ 1100 → (bnd (ref00_SameInts F p.1 p.1) fun r22 => bif (!r22) then law06_GlitchTransforms_2 F x true else law06_GlitchTransforms_2 F x (!(p.2 == p.2))) = some true := by
    intro p hp
    rw [same_eq F p.1 p.1 (by omega) (by omega), bnd_eq]
    simp only [decide_true, Bool.not_true, cond_false, BEq.rfl]
    exact trans3 F x hx hF hw
  refine key _ ?_
  cases hs : (sigc c && (W n c && win 1048576 (I n c))) with
  | false => simp
  | true =>
    simp only [Bool.and_eq_true] at hs
    obtain ⟨g1, g2, g3⟩ := h2 hs.1
    have hpow : (2 : Nat) ^ n ≤ 2 ^ 10 := Nat.pow_le_pow_right (by omega) (by omega)
    simp only [cond_true]
    rw [I_len n c g2]
    omega
theorem law_eq (F : Nat) (x c : List Int) (hx : x.length ≤ 9223372036854775807) (hc : c.length ≤ 9223372036854775807) (hF3 : x.length + 1200 < F) (hF4 : c.length + 1200 < F) (hw : works F = some true) : law06_GlitchTransforms F x c = some true := by
  have hF : x.length + 1100 < F := by omega
  obtain ⟨k, h1, h2⟩ := Transform_eq F x hx hF
  have h3 := rTransform_eq F x hx hF3 h2
  have h4 := trans2 F x c hx hc hF3 hF4 hw
  unfold law06_GlitchTransforms
  rw [check_eq F x hx (by omega), bnd_eq, rCheck_eq F x hx (by omega), bnd_eq]
  simp only [BEq.rfl, Bool.not_true, cond_false]
  rw [h1, bnd_eq, h3, bnd_eq]
  have key : ∀ p : List Int × Int, p.1.length ≤ 1100 → (bnd (ref00_SameInts F p.1 p.1) fun r12 => bif (!r12) then law06_GlitchTransforms_1 F x c true else law06_GlitchTransforms_1 F x c (!(p.2 == p.2))) = some true := by
    intro p hp
    rw [same_eq F p.1 p.1 (by omega) (by omega), bnd_eq]
    simp only [decide_true, Bool.not_true, cond_false, BEq.rfl]
    exact h4
  refine key _ ?_
  cases hs : sig x with
  | false => simp
  | true =>
    obtain ⟨g1, g2, g3⟩ := h2 hs
    have hpow : (2 : Nat) ^ k ≤ 2 ^ 10 := Nat.pow_le_pow_right (by omega) (by omega)
    simp only [cond_true]
    rw [T_len k x g2]
    omega
end Go.Ev.GlitchTransforms
