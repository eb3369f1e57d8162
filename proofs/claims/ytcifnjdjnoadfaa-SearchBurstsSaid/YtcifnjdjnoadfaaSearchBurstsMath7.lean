/- Bursts: what the specification says. -/
import Derived.Test.YtcifnjdjnoadfaaSearchBurstsMath6
namespace Go.Ev.SearchBursts
open Go Go.Ev Go.Proofs
set_option linter.unusedVariables false
theorem rpow1 (F : Nat) (x : List Int) (hx : small x) (hxl : x.length ≤ 1024) (t w : Nat) (ht : t + w ≤ x.length) : ∀ (k N i : Nat) (s : Int), k = t + w - i → i ≤ t + w → k < N → 0 ≤ s → s ≤ sq x i →
    ref08_power_1 F N x t w s i = some (s + (sq x (t + w) - sq x i))
  | k, 0, i, s, _, _, h, _, _ => by omega
  | 0, N + 1, i, s, hk, hi, _, _, _ => by
    rw [ref08_power_1, w64_id (n := (t : Int) + w) (by omega) (by omega), bif_neg' (by omega), show t + w = i by omega, Int.sub_self, Int.add_zero]
  | k + 1, N + 1, i, s, hk, hi, hN, h0, hs => by
    obtain ⟨v, hv⟩ := get_lt (l := x) (i := i) (by omega)
    have hg : x[i]?.getD 0 = v := by rw [hv]; rfl
    have hvb := hx i
    rw [hg] at hvb
    have hvv := sqb hvb
    have m1 : (i : Int) * 268435456 ≤ 1024 * 268435456 := Int.mul_le_mul_of_nonneg_right (by omega) (by decide)
    have b1 := (sq_bound hx i).2
    have e1 : sq x (i + 1) = sq x i + v * v := by rw [sq, hg]
    rw [ref08_power_1, w64_id (n := (t : Int) + w) (by omega) (by omega), bif_pos' (by omega), idx_nat, hv, bnd_eq, bnd_eq, w64_id (n := v * v) (by omega) (by omega), w64_id (n := s + v * v) (by omega) (by omega), up (by omega),
      rpow1 F x hx hxl t w ht k N (i + 1) _ (by omega) (by omega) (by omega) (by omega) (by omega)]
    rw [e1]
    congr 1
    omega
theorem rpow_eq (F : Nat) (hF : 1024 < F) (x : List Int) (hx : small x) (hxl : x.length ≤ 1024) (t w : Nat) (ht : t + w ≤ x.length) : ref08_power F x t w = some (pw x w t) := by
  unfold ref08_power
  rw [rpow1 F x hx hxl t w ht (t + w - t) F t 0 rfl (by omega) (by omega) (Int.le_refl _) (sq_bound hx t).1, Int.zero_add]
  rfl
theorem rburs (F : Nat) (hF : 1024 < F) (x : List Int) (hx : small x) (hxl : x.length ≤ 1024) (w : Nat) (hw : 1 ≤ w ∧ w ≤ 1024) (thr : Int) : ∀ (k N t : Nat) (acc : List S_api_Burst), k = x.length + 1 - w - t → t ≤ x.length → k < N → acc.length ≤ t →
    ref08_Bursts_2 F N x w thr t acc = some (brs x w thr k t acc, 0)
  | k, 0, t, acc, _, _, h, _ => by omega
  | 0, N + 1, t, acc, hk, ht, _, _ => by
    rw [ref08_Bursts_2, w64_id (n := (t : Int) + w) (by omega) (by omega), bif_neg' (by omega), brs]
  | k + 1, N + 1, t, acc, hk, ht, hN, hacc => by
    have ih := fun acc' h => rburs F hF x hx hxl w hw thr k N (t + 1) acc' (by omega) (by omega) (by omega) h
    have hst := stepB_len w thr acc t (pw x w t)
    have ih2 := ih (stepB w thr acc t (pw x w t)) (by omega)
    rw [ref08_Bursts_2, w64_id (n := (t : Int) + w) (by omega) (by omega), bif_pos' (by omega), rpow_eq F hF x hx hxl t w (by omega), bnd_eq, brs]
    unfold ref08_Bursts_3
    rw [up (by omega)]
    by_cases hp : pw x w t < thr
    · rw [bif_pos' hp]
      rw [stepB, if_pos hp] at ih2
      rw [stepB, if_pos hp]
      exact ih2
    · rw [bif_neg' hp]
      have hno : ∀ q, ref08_Bursts_4 F (ref08_Bursts_2 F N) x w thr t (pw x w t) q false acc = ref08_Bursts_2 F N x w thr ((t + 1 : Nat) : Int) (acc ++ [⟨t, ((t + w : Nat) : Int), pw x w t⟩]) := fun q => by
        unfold ref08_Bursts_4 ref08_Bursts_3
        rw [cond_false, w64_id (n := (t : Int) + w) (by omega) (by omega), apd_ok (by simp; omega) (by omega), bnd_eq, up (by omega), Int.natCast_add t w]
      rw [w64_id (n := (acc.length : Int) - 1) (by omega) (by omega)]
      refine Eq.trans ?_ ih2
      rw [stepB, if_neg hp]
      by_cases h : 0 < acc.length
      · obtain ⟨b, hb⟩ : ∃ b, acc[acc.length - 1]? = some b := get_lt (by omega)
        have e : (acc.length : Int) - 1 = ((acc.length - 1 : Nat) : Int) := by omega
        rw [bif_pos' (by omega), e, idx_nat, hb, bnd_eq]
        simp only
        by_cases h2 : (t : Int) ≤ b.To
        · rw [decide_eq_true h2, if_pos h2]
          unfold ref08_Bursts_4 ref08_Bursts_3
          rw [cond_true, idx_nat, hb, bnd_eq, bnd_eq, inn_at (by omega), bnd_eq, w64_id (n := (t : Int) + w) (by omega) (by omega), upd_at (by omega), bnd_eq, up (by omega), Int.natCast_add t w]
        · rw [decide_eq_false h2, if_neg h2]
          exact hno _
      · have e : acc = [] := List.eq_nil_of_length_eq_zero (by omega)
        rw [bif_neg' (by omega), hno]
        subst e
        rfl
theorem rBursts_eq (F : Nat) (x : List Int) (w thr : Int) (hF : 1024 < F) (hFl : x.length < F) (hl : x.length ≤ 9223372036854775807) : ref08_Bursts F x w thr = some (bif errB x w thr == 0 then burF x w.toNat thr else [], errB x w thr) := by
  unfold ref08_Bursts errB
  rw [rrecord_eq F x hFl hl, bnd_eq]
  cases e : isRec x with
  | false => rfl
  | true =>
    obtain ⟨hxl, hxs⟩ := isRec_ok e
    simp only [Bool.not_true, cond_false, cond_true, In_eq, bnd_eq]
    cases e1 : inR 1 w 1024 with
    | false => rfl
    | true =>
      simp only [Bool.not_true, cond_false, Bool.true_and, ref08_Bursts_1]
      cases e2 : inR 1 thr 1152921504606846976 with
      | false => rfl
      | true =>
        have hw := inR_iff.1 e1
        obtain ⟨n, rfl⟩ : ∃ n : Nat, w = n := ⟨w.toNat, by omega⟩
        simp only [Bool.not_true, cond_false, cond_true, beq_self_eq_true, Int.toNat_natCast]
        have := rburs F hF x (small_of hxs) hxl n (by omega) thr (x.length + 1 - n - 0) F 0 [] rfl (Nat.zero_le _) (by omega) (Nat.le_refl _)
        rw [Nat.sub_zero] at this
        exact this
end Go.Ev.SearchBursts
