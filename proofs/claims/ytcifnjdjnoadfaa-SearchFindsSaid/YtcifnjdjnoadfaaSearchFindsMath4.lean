/- Triggers and clocks: what the specification's checks say. -/
import Derived.Test.YtcifnjdjnoadfaaSearchFindsMath3
namespace Go.Ev.SearchFinds
open Go Go.Ev Go.Proofs
set_option linter.unusedVariables false
theorem rare1 (F : Nat) (l : List S_api_Trigger) (hl : l.length ≤ 256) : ∀ (k N i : Nat) (last : Int), k = l.length - i → i ≤ l.length → k < N → -1 ≤ last → (i = 0 ∧ last = -1 ∨ ∃ j b, i = j + 1 ∧ l[j]? = some b ∧ b.Time = last ∧ 0 ≤ last) →
    ref08_CheckTriggers_1 F N l i = some (bif trs last (l.drop i) then 0 else 80)
  | k, 0, i, last, _, _, h, _, _ => by omega
  | 0, N + 1, i, last, hk, hi, _, _, _ => by
    rw [ref08_CheckTriggers_1, bif_neg' (by omega : ¬ ((i : Int) < l.length)), List.drop_of_length_le (by omega)]
    rfl
  | k + 1, N + 1, i, last, hk, hi, hN, h1, h2 => by
    have hi2 : i < l.length := by clear h2; omega
    have hk2 : k = l.length - (i + 1) := by clear h2; omega
    have hN2 : k < N := by clear h2; omega
    have hi3 : (i : Int) < l.length := by clear h2; omega
    obtain ⟨a, ha⟩ := get_lt (l := l) (i := i) hi2
    have ih := rare1 F l hl k N (i + 1) a.Time hk2 hi2 hN2
    rw [ref08_CheckTriggers_1, bif_pos' hi3, idx_nat, ha, bnd_eq, In_eq, bnd_eq, drop_get ha, trs]
    cases e1 : inR 0 a.Time 1073741823 with
    | false =>
      have : inR (last + 1) a.Time 1073741823 = false := by
        rw [inR_false] at e1 ⊢
        clear h2
        omega
      rw [this]
      rfl
    | true =>
      have hb := inR_iff.1 e1
      simp only [Bool.not_true, cond_false, In_eq, bnd_eq]
      cases e2 : inR 0 a.Loud 1073741824 with
      | false =>
        simp only [Bool.not_false, cond_true, Bool.false_and, Bool.and_false, ref08_CheckTriggers_2, cond_false]
      | true =>
        simp only [Bool.not_true, cond_false, Bool.true_and]
        cases e3 : inR 0 a.Template 255 with
        | false => simp only [Bool.not_false, cond_true, Bool.false_and, Bool.and_false, ref08_CheckTriggers_2, cond_false]
        | true =>
          simp only [Bool.not_true, cond_false, Bool.and_true]
          rcases h2 with ⟨rfl, rfl⟩ | ⟨j, b, rfl, hb2, rfl, hb3⟩
          · have e4 : inR (-1 + 1) a.Time 1073741823 = true := e1
            rw [bif_neg' (by omega), e4, Bool.true_and]
            unfold ref08_CheckTriggers_2
            rw [cond_false, up (by omega)]
            exact ih (by omega) (.inr ⟨0, a, rfl, ha, rfl, by omega⟩)
          · rw [bif_pos' (by omega), w64_id (by omega) (by omega), show (((j + 1 : Nat) : Int) - 1) = (j : Int) by omega, idx_nat, hb2, bnd_eq]
            unfold ref08_CheckTriggers_2
            by_cases h : a.Time ≤ b.Time
            · have : inR (b.Time + 1) a.Time 1073741823 = false := by
                rw [inR_false]
                omega
              rw [bif_pos' h, this]
              rfl
            · have : inR (b.Time + 1) a.Time 1073741823 = true := by
                rw [inR_iff]
                omega
              rw [bif_neg' h, this, Bool.true_and, up (by omega)]
              exact ih (by omega) (.inr ⟨j + 1, a, rfl, ha, rfl, by omega⟩)
theorem rChk_eq (F : Nat) (l : List S_api_Trigger) (hF : 256 < F) (hl : l.length ≤ 9223372036854775807) : ref08_CheckTriggers F l = some (bif okT l then 0 else 80) := by
  unfold ref08_CheckTriggers okT
  by_cases h : (256 : Int) < l.length
  · rw [bif_pos' h, decide_eq_false (by omega)]
    rfl
  · have := rare1 F l (by omega) l.length F 0 (-1) (by omega) (by omega) (by omega) (by omega) (.inl ⟨rfl, rfl⟩)
    rw [bif_neg' h, decide_eq_true (by omega), Bool.true_and]
    exact this
end Go.Ev.SearchFinds
