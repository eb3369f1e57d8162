/- GlitchBack. -/
import Derived.Test.YtdcgepenffjdcaaGreatDoorGlitchBackMath3
namespace Go.Ev.GlitchBack
open Go Go.Ev Go.Proofs
set_option linter.unusedVariables false
theorem back2 (F : Nat) (c : List Int) (hl : c.length ≤ 9223372036854775807) (hF : c.length + 1100 < F) (hw : works F = some true) : law06_GlitchBack_2 F c = some true := by
  obtain ⟨n, h1, h2⟩ := Inverse_eq F c hl hF
  unfold law06_GlitchBack_2 law06_GlitchBack_3 law06_GlitchBack_4 law06_GlitchBack_5
  rw [h1, bnd_eq]
  cases hs : (sigc c && (W n c && win 1048576 (I n c))) with
  | false => simp [hw, bnd_eq]
  | true =>
    simp only [Bool.and_eq_true] at hs
    obtain ⟨hs1, hs2, hs3⟩ := hs
    obtain ⟨hn, hc, hwc⟩ := h2 hs1
    have hpow : (2 : Nat) ^ n ≤ 2 ^ 10 := Nat.pow_le_pow_right (by omega) (by omega)
    have hI := I_len n c hc
    obtain ⟨k, g1, g2⟩ := Transform_eq F (I n c) (by omega) (by omega)
    have hsig : sig (I n c) = true := by
      simp only [sig, Bool.and_eq_true]
      exact ⟨by rw [hI]; exact isPow_of hn, hs3⟩
    obtain ⟨_, hk, _⟩ := g2 hsig
    have hkn : k = n := pow2_inj (by rw [← hk, hI])
    subst hkn
    simp only [cond_true]
    rw [g1, hsig]
    simp only [cond_true, bnd_eq]
    rw [T_I k c hc hs2, same_eq F c c hl (by omega), hw]
    simp [bnd_eq]
theorem law_eq (F : Nat) (x c : List Int) (hx : x.length ≤ 9223372036854775807) (hc : c.length ≤ 9223372036854775807) (hF : x.length + 1100 < F) (hF2 : c.length + 1100 < F) (hw : works F = some true) : law06_GlitchBack F x c = some true := by
  have h0 := back2 F c hc hF2 hw
  obtain ⟨k, g1, g2⟩ := Transform_eq F x hx hF
  unfold law06_GlitchBack law06_GlitchBack_1
  rw [g1, bnd_eq, h0]
  cases hs : sig x with
  | false => rfl
  | true =>
    obtain ⟨hk, hxl, hwx⟩ := g2 hs
    have hpow : (2 : Nat) ^ k ≤ 2 ^ 10 := Nat.pow_le_pow_right (by omega) (by omega)
    have hT := T_len k x hxl
    obtain ⟨n, h1, h2⟩ := Inverse_eq F (T k x) (by omega) (by omega)
    have hwT : Wi 1073741824 (T k x) := by
      refine Bd_T (k := k) ?_
      intro a ha
      have h1 := hwx a ha
      have h2 : (2 : Int) ^ k ≤ 1024 := by
        have h3 : ((2 ^ k : Nat) : Int) = (2 : Int) ^ k := by simp
        omega
      have h4 := two_pow_pos' k
      generalize (2 : Int) ^ k = P at h2 h4
      have g1 : a * P ≤ 1048576 * P := Int.mul_le_mul_of_nonneg_right h1.2 (by omega)
      have g2 : -1048576 * P ≤ a * P := Int.mul_le_mul_of_nonneg_right h1.1 (by omega)
      omega
    have hsc : sigc (T k x) = true := by
      simp only [sigc, Bool.and_eq_true]
      exact ⟨by rw [hT]; exact isPow_of hk, win_iff.2 hwT⟩
    obtain ⟨_, hn, _⟩ := h2 hsc
    have hkn : k = n := pow2_inj (by rw [← hn, hT])
    subst hkn
    obtain ⟨e1, e2⟩ := I_T k x hxl
    simp only [cond_true]
    rw [h1, hsc, e1, e2, win_iff.2 hwx]
    simp [bnd_eq, same_eq F x x hx (by omega)]
end Go.Ev.GlitchBack
