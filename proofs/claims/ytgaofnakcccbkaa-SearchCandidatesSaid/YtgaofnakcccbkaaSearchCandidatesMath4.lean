/- Triggers and clocks: what the specification's checks say. -/
import Derived.Test.YtgaofnakcccbkaaSearchCandidatesMath3
namespace Go.Ev.SearchCandidates
open Go Go.Ev Go.Proofs
set_option linter.unusedVariables false
theorem rare1 (F : Nat) (l : List S_api_Trigger) (hl : l.length ≤ 256) : ∀ (k N i : Nat) (last : Int), k = l.length - i → i ≤ l.length → k < N → -1 ≤ last → (i = 0 ∧ last = -1 ∨ ∃ j b, i = j + 1 ∧ l[j]? = some b ∧ b.Time = last ∧ 0 ≤ last) →
    ref08_CheckTriggers_1 F N l i = some (bif trs last (l.drop i) then 0 else 80)
  | k, 0, i, last, _, _, h, _, _ => by omega
  | 0, N + 1, i, last, hk, hi, _, _, _ => by
    rw [ref08_CheckTriggers_1, bif_neg' (by omega : ¬ ((i : Int) < l.length)), List.drop_of_length_le (by omega)]
    rfl
  | k + 1, N + 1, i, last, hk, hi, hN, h1, h2 => by
    have hi2 : i < l.length := by clear h2; omega
    have hk2 : k = l.length - (i + 1) := by clear h2; omega
    have hN2 : k < N := by clear h2; omega
    have hi3 : (i : Int) < l.length := by clear h2; omega
    obtain ⟨a, ha⟩ := get_lt (l := l) (i := i) hi2
    have ih := rare1 F l hl k N (i + 1) a.Time hk2 hi2 hN2
    rw [ref08_CheckTriggers_1, bif_pos' hi3, idx_nat, ha, bnd_eq, In_eq, bnd_eq, drop_get ha, trs]
    cases e1 : inR 0 a.Time 1073741823 with
    | false =>
      have : inR (last + 1) a.Time 1073741823 = false := by
        rw [inR_false] at e1 ⊢
        clear h2
        omega
      rw [this]
      rfl
    | true =>
      have hb := inR_iff.1 e1
      simp only [Bool.not_true, cond_false, In_eq, bnd_eq]
      cases e2 : inR 0 a.Loud 1073741824 with
      | false =>
        simp only [Bool.not_false, cond_true, Bool.false_and, Bool.and_false, ref08_CheckTriggers_2, cond_false]
      | true =>
        simp only [Bool.not_true, cond_false, Bool.true_and]
        cases e3 : inR 0 a.Template 255 with
        | false => simp only [Bool.not_false, cond_true, Bool.false_and, Bool.and_false, ref08_CheckTriggers_2, cond_false]
        | true =>
          simp only [Bool.not_true, cond_false, Bool.and_true]
          rcases h2 with ⟨rfl, rfl⟩ | ⟨j, b, rfl, hb2, rfl, hb3⟩
          · have e4 : inR (-1 + 1) a.Time 1073741823 = true := e1
            rw [bif_neg' (by omega), e4, Bool.true_and]
            unfold ref08_CheckTriggers_2
            rw [cond_false, up (by omega)]
            exact ih (by omega) (.inr ⟨0, a, rfl, ha, rfl, by omega⟩)
          · rw [bif_pos' (by omega), w64_id (by omega) (by omega), show (((j + 1 : Nat) : Int) - 1) = (j : Int) by omega, idx_nat, hb2, bnd_eq]
            unfold ref08_CheckTriggers_2
            by_cases h : a.Time ≤ b.Time
            · have : inR (b.Time + 1) a.Time 1073741823 = false := by
                rw [inR_false]
                omega
              rw [bif_pos' h, this]
              rfl
            · have : inR (b.Time + 1) a.Time 1073741823 = true := by
                rw [inR_iff]
                omega
              rw [bif_neg' h, this, Bool.true_and, up (by omega)]
              exact ih (by omega) (.inr ⟨j + 1, a, rfl, ha, rfl, by omega⟩)
theorem rChk_eq (F : Nat) (l : List S_api_Trigger) (hF : 256 < F) (hl : l.length ≤ 9223372036854775807) : ref08_CheckTriggers F l = some (bif okT l then 0 else 80) := by
  unfold ref08_CheckTriggers okT
  by_cases h : (256 : Int) < l.length
  · rw [bif_pos' h, decide_eq_false (by omega)]
    rfl
  · have := rare1 F l (by omega) l.length F 0 (-1) (by omega) (by omega) (by omega) (by omega) (.inl ⟨rfl, rfl⟩)
    rw [bif_neg' h, decide_eq_true (by omega), Bool.true_and]
    exact this
def rC (c : S_ringdownref08_Clock) : S_search_clock := ⟨c.Live, c.Window, c.Step⟩
theorem rclock_eq (F : Nat) (c : S_ringdownref08_Clock) : ref08_clock F c = some (okC (rC c)) := by
  unfold ref08_clock okC rC
  simp only
  rw [In_eq, bnd_eq]
  cases e1 : inR 1 c.Live 1073741824 with
  | false => rfl
  | true =>
    have hb := inR_iff.1 e1
    simp only [cond_true, In_eq, bnd_eq, Bool.true_and]
    rw [w64_id (n := c.Live - 1) (by omega) (by omega)]
    cases e2 : inR 0 c.Window (c.Live - 1) with
    | false => rfl
    | true =>
      simp only [cond_true, ref08_clock_1, In_eq, bnd_eq, Bool.true_and]
      cases e3 : inR 1 c.Step c.Live with
      | false => rfl
      | true =>
        have hs := inR_iff.1 e3
        have := tdiv_in (a := c.Live) (b := c.Step) (by omega) (by omega) (by omega)
        simp only [cond_true, ref08_clock_2]
        rw [nz_ok (by omega), bnd_eq]
        unfold ref08_clock_3 ref08_clock_4
        cases (Int.tmod c.Live c.Step == 0) with
        | false => rfl
        | true => rw [cond_true, nz_ok (by omega), bnd_eq, w64_id (by omega) (by omega)]; rfl
theorem trs_fit {T : Int} : ∀ {l : List S_api_Trigger} {last : Int}, trs last l = true → ∀ {b : S_api_Trigger}, l.getLast? = some b → b.Time < T → fit T l = true
  | [], _, _, b, h, _ => by simp at h
  | [a], last, _, b, h, hb => by
    simp only [List.getLast?_singleton, Option.some.injEq] at h
    subst h
    simp [fit, hb]
  | a :: c :: r, last, ht, b, h, hb => by
    rw [List.getLast?_cons_cons] at h
    rw [trs, Bool.and_eq_true] at ht
    have ih := trs_fit ht.2 h hb
    have ht2 := ht.2
    rw [trs, Bool.and_eq_true, Bool.and_eq_true] at ht2
    have := inR_iff.1 ht2.1.1
    rw [fit, List.all_cons] at ih
    rw [fit, List.all_cons, List.all_cons, ih, Bool.and_true]
    rw [Bool.and_eq_true, decide_eq_true_eq] at ih
    exact decide_eq_true (by omega)
theorem rfits_eq (F : Nat) (l : List S_api_Trigger) (c : S_ringdownref08_Clock) (hl : l.length ≤ 256) (ht : trs (-1) l = true) : ref08_fits F l c = some (fit c.Live l) := by
  unfold ref08_fits ref08_fits_1
  cases e : l with
  | nil => rfl
  | cons a r =>
    rw [← e]
    have hn : l.length = r.length + 1 := by rw [e]; rfl
    have h0 : ((l.length : Int) == 0) = false := beq_eq_false_iff_ne.2 (by omega)
    rw [h0, cond_false, w64_id (by omega) (by omega), show ((l.length : Int) - 1) = (r.length : Int) by omega, idx_nat]
    obtain ⟨b, hb⟩ := get_lt (l := l) (i := r.length) (by omega)
    rw [hb, bnd_eq]
    have hla : l.getLast? = some b := by rw [List.getLast?_eq_getElem?, hn]; exact hb
    by_cases h : b.Time < c.Live
    · rw [decide_eq_true h, trs_fit ht hla h]
    · rw [decide_eq_false h]
      congr 1
      symm
      rw [Bool.eq_false_iff]
      intro hf
      exact h (of_decide_eq_true (List.all_eq_true.1 hf b (List.mem_of_getElem? hb)))
theorem ready_eq (F : Nat) (a b : List S_api_Trigger) (c : S_ringdownref08_Clock) (hF : 256 < F) (ha : a.length ≤ 9223372036854775807) (hb : b.length ≤ 9223372036854775807) :
    ref08_ready F a b c = some (bif [a, b].all okT then (bif okC (rC c) && [a, b].all (fit c.Live) then 0 else 81) else 80) := by
  unfold ref08_ready
  rw [rChk_eq F a hF ha, bnd_eq]
  simp only [List.all_cons, List.all_nil, Bool.and_true]
  cases e1 : okT a with
  | false => rfl
  | true =>
    have ta := e1
    rw [okT, Bool.and_eq_true, decide_eq_true_eq] at ta
    simp only [cond_true, beq_self_eq_true, Bool.not_true, cond_false, Bool.true_and]
    rw [rChk_eq F b hF hb, bnd_eq]
    cases e2 : okT b with
    | false => rfl
    | true =>
      have tb := e2
      rw [okT, Bool.and_eq_true, decide_eq_true_eq] at tb
      simp only [cond_true, beq_self_eq_true, Bool.not_true, cond_false]
      rw [rclock_eq, bnd_eq]
      cases e3 : okC (rC c) with
      | false => rfl
      | true =>
        simp only [Bool.not_true, cond_false, Bool.true_and]
        rw [rfits_eq F a c ta.1 ta.2, bnd_eq]
        cases e4 : fit c.Live a with
        | false => rfl
        | true =>
          simp only [Bool.not_true, ref08_ready_1, cond_false, Bool.true_and]
          rw [rfits_eq F b c tb.1 tb.2, bnd_eq]
          cases fit c.Live b <;> rfl
end Go.Ev.SearchCandidates
