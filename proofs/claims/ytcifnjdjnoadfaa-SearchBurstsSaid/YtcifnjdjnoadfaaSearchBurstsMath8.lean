/- SearchBursts. -/
import Derived.Test.YtcifnjdjnoadfaaSearchBurstsMath7
namespace Go.Ev.SearchBursts
open Go Go.Ev Go.Proofs
set_option linter.unusedVariables false
theorem errB_len {x : List Int} {w thr : Int} : (bif errB x w thr == 0 then burF x w.toNat thr else []).length ≤ 1025 := by
  cases e : (errB x w thr == 0) with
  | false => exact Nat.zero_le _
  | true =>
    rw [beq_iff_eq] at e
    unfold errB at e
    cases e2 : isRec x with
    | false => rw [e2, cond_false] at e; exact absurd e (by decide)
    | true =>
      have := (isRec_ok e2).1
      have h2 := brs_len x w.toNat thr (x.length + 1 - w.toNat) 0 []
      rw [cond_true, burF]
      simp only [List.length_nil] at h2
      omega
theorem loop (F : Nat) (hw : works F = some true) (l : List S_api_Burst) (hl : l.length ≤ 1025) : ∀ (k N i : Nat), k = l.length - i → i ≤ l.length → k < N → law08_SearchBursts_2 F N i l l = some true
  | k, 0, i, _, _, h => by omega
  | 0, N + 1, i, hk, hi, _ => by
    rw [law08_SearchBursts_2, bif_neg' (by omega : ¬ ((i : Int) < l.length)), hw]
    rfl
  | k + 1, N + 1, i, hk, hi, hN => by
    obtain ⟨x, hx⟩ := get_lt (l := l) (i := i) (by omega)
    rw [law08_SearchBursts_2, bif_pos' (by omega : ((i : Int) < l.length)), idx_nat, hx, bnd_eq, bnd_eq]
    simp only [beq_self_eq_true, Bool.and_self, Bool.not_true, cond_false]
    rw [up (by omega), loop F hw l hl k N (i + 1) (by omega) (by omega) (by omega)]
theorem law_eq (F : Nat) (x : List Int) (w thr : Int) (hl : x.length ≤ 9223372036854775807) (hF : x.length + 1200 < F) (hw : works F = some true) : law08_SearchBursts F x w thr = some true := by
  unfold law08_SearchBursts
  rw [Bursts_eq F x w thr (by omega) hl, bnd_eq, rBursts_eq F x w thr (by omega) (by omega) hl, bnd_eq]
  simp only [beq_self_eq_true, Bool.not_true, cond_false, law08_SearchBursts_1]
  exact loop F hw _ errB_len _ F 0 rfl (Nat.zero_le _) (Nat.lt_of_le_of_lt (Nat.le_trans (Nat.sub_le _ _) errB_len) (by omega))
end Go.Ev.SearchBursts
