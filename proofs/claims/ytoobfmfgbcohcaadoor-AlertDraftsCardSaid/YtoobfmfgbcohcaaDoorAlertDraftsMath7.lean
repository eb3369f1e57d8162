/- Versions that follow, on both sides. -/
import Derived.Test.YtoobfmfgbcohcaaDoorAlertDraftsMath6
namespace Go.Ev.AlertDrafts
open Go Go.Ev Go.Proofs
set_option linter.unusedVariables false
theorem apd8 {l : List Int} (h : l.length ≤ 17592186044416) : apd 8 ([] : List Int) l = some l := by
  unfold apd
  simp only [List.length_nil, Nat.zero_add, List.nil_append]
  rw [Nat.ble_eq_true_of_le (by omega), Nat.ble_eq_true_of_le (by omega)]
  rfl
def zeroA : S_api_Alert := S_api_Alert.mk [] 0 0 (S_api_Chance.mk 0 0) 0 [] false 0
theorem chk_eq (F : Nat) (a : S_api_Alert) (hF0 : 20 < F) (hl : a.Cells.length ≤ 9223372036854775807) (hF : a.Cells.length < F) : alert_CheckAlert F a = some (bif vldB a then 0 else 101) := by
  unfold alert_CheckAlert
  rw [isAlert_eq F a hF0 hl hF, bnd_eq]
  cases vldB a <;> rfl
def validT (a : S_api_Alert) : S_api_Alert × Int := bif vldB a then (a, 0) else (zeroA, 101)
theorem checked_eq (F : Nat) (a : S_api_Alert) (hF0 : 1000 < F) (hl : a.Cells.length ≤ 9223372036854775807) (hF : a.Cells.length < F) : alert_checked F a = some (validT a) := by
  unfold alert_checked validT
  rw [chk_eq F a (by omega) hl hF, bnd_eq]
  cases hv : vldB a with
  | false => rfl
  | true =>
    have := (vld_fine hv).cl
    rw [cond_true, cond_true, show ((0 : Int) == 0) = true from rfl, Bool.not_true, cond_false]
    unfold alert_copyOfAlert slices_Clone
    rw [apd8 (by omega), bnd_eq, bnd_eq, bnd_eq]
theorem valid_eq (F : Nat) (a : S_api_Alert) (hF0 : 1000 < F) (hl : a.Cells.length ≤ 9223372036854775807) (hF : a.Cells.length < F) : ref10_valid F a = some (validT a) := by
  unfold ref10_valid validT
  rw [check_eq F a (by omega) hl hF, bnd_eq]
  cases hv : vldB a with
  | false => rfl
  | true =>
    have := (vld_fine hv).cl
    rw [cond_true, cond_true, show ((0 : Int) == 0) = true from rfl, Bool.not_true, cond_false]
    unfold ref00_OwnInts
    rw [apd8 (by omega), bnd_eq, bnd_eq]
def draftT (ev : List UInt8) (t : Int) (c : S_api_Candidate) (m g : Int) (l : List Int) : S_api_Alert × Int := bif decide (m < c.Chance.N) then (zeroA, 4) else validT (S_api_Alert.mk ev 1 t c.Chance g l false 0)
theorem draft_eq (F : Nat) (ev : List UInt8) (t : Int) (c : S_api_Candidate) (m g : Int) (l : List Int) (hF0 : 1000 < F) (hl : l.length ≤ 9223372036854775807) (hF : l.length < F) : alert_Draft F ev t c m g l = some (draftT ev t c m g l) := by
  unfold alert_Draft draftT
  rw [checked_eq F _ hF0 hl hF, bnd_eq]
  cases decide (m < c.Chance.N) <;> rfl
theorem rdraft_eq (F : Nat) (ev : List UInt8) (t : Int) (c : S_api_Candidate) (m g : Int) (l : List Int) (hF0 : 1000 < F) (hl : l.length ≤ 9223372036854775807) (hF : l.length < F) : ref10_Draft F ev t c m g l = some (draftT ev t c m g l) := by
  unfold ref10_Draft draftT
  rw [valid_eq F _ hF0 hl hF, bnd_eq]
  cases decide (m < c.Chance.N) <;> rfl
def nextT (a : S_api_Alert) (t : Int) (c : S_api_Chance) (g : Int) (l : List Int) (w : Bool) : S_api_Alert × Int :=
  bif vldB a then (bif a.Withdrawn then (zeroA, 107) else (bif decide (t < a.Time) then (zeroA, 108) else validT (S_api_Alert.mk a.Event (a.Version + 1) t c g l w (digT a)))) else (zeroA, 101)
theorem ver_up {a : S_api_Alert} (h : Fine a) : w64 (a.Version + 1) = a.Version + 1 := by
  have := small_iff.1 h.v
  exact w64_id (by omega) (by omega)
theorem next_eq (F : Nat) (a : S_api_Alert) (t : Int) (c : S_api_Chance) (g : Int) (l : List Int) (w : Bool) (hF0 : 20000 < F) (ha : a.Cells.length ≤ 9223372036854775807) (haF : a.Cells.length < F) (hl : l.length ≤ 9223372036854775807) (hF : l.length < F) :
    alert_next F a (S_api_Alert.mk [] 0 t c g l w 0) = some (nextT a t c g l w) := by
  unfold alert_next nextT
  rw [chk_eq F a (by omega) ha haF, bnd_eq]
  cases hv : vldB a with
  | false => rfl
  | true =>
    rw [cond_true, cond_true, show ((0 : Int) == 0) = true from rfl, Bool.not_true, cond_false, digestOf_eq F hF0 (vld_fine hv), bnd_eq, ver_up (vld_fine hv), checked_eq F _ (by omega) hl hF, bnd_eq]
    cases a.Withdrawn
    · cases decide (t < a.Time) <;> rfl
    · rfl
theorem follow_eq (F : Nat) (a : S_api_Alert) (t : Int) (c : S_api_Chance) (g : Int) (l : List Int) (hF0 : 20000 < F) (ha : a.Cells.length ≤ 9223372036854775807) (haF : a.Cells.length < F) (hl : l.length ≤ 9223372036854775807) (hF : l.length < F) :
    alert_Follow F a t c g l = some (nextT a t c g l false) := by
  unfold alert_Follow
  rw [next_eq F a t c g l false hF0 ha haF hl hF, bnd_eq]
theorem withdraw_eq (F : Nat) (a : S_api_Alert) (t : Int) (hF0 : 20000 < F) (ha : a.Cells.length ≤ 9223372036854775807) (haF : a.Cells.length < F) : alert_Withdraw F a t = some (nextT a t a.Chance a.Grid [] true) := by
  unfold alert_Withdraw
  rw [next_eq F a t a.Chance a.Grid [] true hF0 ha haF (by simp) (by simp; omega), bnd_eq]
theorem rnext_eq (F : Nat) (a : S_api_Alert) (t : Int) (hF0 : 20000 < F) (ha : a.Cells.length ≤ 9223372036854775807) (haF : a.Cells.length < F) : ref10_next F a t = some (bif vldB a then (bif a.Withdrawn then 107 else (bif decide (t < a.Time) then 108 else 0)) else 101) := by
  unfold ref10_next
  rw [check_eq F a (by omega) ha haF, bnd_eq]
  cases vldB a with
  | false => rfl
  | true =>
    cases a.Withdrawn
    · cases decide (t < a.Time) <;> rfl
    · rfl
theorem rfollow_eq (F : Nat) (a : S_api_Alert) (t : Int) (c : S_api_Chance) (g : Int) (l : List Int) (hF0 : 20000 < F) (ha : a.Cells.length ≤ 9223372036854775807) (haF : a.Cells.length < F) (hl : l.length ≤ 9223372036854775807) (hF : l.length < F) :
    ref10_Follow F a t c g l = some (nextT a t c g l false) := by
  unfold ref10_Follow nextT
  rw [rnext_eq F a t hF0 ha haF, bnd_eq]
  cases hv : vldB a with
  | false => rfl
  | true =>
    cases a.Withdrawn with
    | true => rfl
    | false =>
      cases decide (t < a.Time) with
      | true => rfl
      | false =>
        rw [cond_true, cond_true, cond_false, cond_false, cond_false, cond_false, show ((0 : Int) == 0) = true from rfl, Bool.not_true, cond_false, rdigest_eq F hF0 (vld_fine hv), bnd_eq, ver_up (vld_fine hv), valid_eq F _ (by omega) hl hF, bnd_eq]
theorem rwithdraw_eq (F : Nat) (a : S_api_Alert) (t : Int) (hF0 : 20000 < F) (ha : a.Cells.length ≤ 9223372036854775807) (haF : a.Cells.length < F) : ref10_Withdraw F a t = some (nextT a t a.Chance a.Grid [] true) := by
  unfold ref10_Withdraw nextT
  rw [rnext_eq F a t hF0 ha haF, bnd_eq]
  cases hv : vldB a with
  | false => rfl
  | true =>
    cases a.Withdrawn with
    | true => rfl
    | false =>
      cases decide (t < a.Time) with
      | true => rfl
      | false =>
        rw [cond_true, cond_true, cond_false, cond_false, cond_false, cond_false, show ((0 : Int) == 0) = true from rfl, Bool.not_true, cond_false, rdigest_eq F hF0 (vld_fine hv), bnd_eq, ver_up (vld_fine hv), valid_eq F _ (by omega) (by simp) (by simp; omega), bnd_eq]
theorem sm1 (F : Nat) (l : List Int) (hl : l.length ≤ 9223372036854775807) : ∀ (n N i : Nat), n = l.length - i → i ≤ l.length → n < N → ref00_SameInts_1 F N l l i = some true
  | n, 0, i, _, _, h => by omega
  | 0, N + 1, i, hn, hi, _ => by rw [ref00_SameInts_1, bif_neg' (by omega)]
  | n + 1, N + 1, i, hn, hi, hN => by
    obtain ⟨x, hx⟩ := get_lt (l := l) (i := i) (by omega)
    rw [ref00_SameInts_1, bif_pos' (by omega), idx_nat, hx, bnd_eq, bnd_eq, beq_self_eq_true, Bool.not_true, cond_false, up (by omega), sm1 F l hl n N (i + 1) (by omega) (by omega) (by omega)]
theorem sameInts_self (F : Nat) (l : List Int) (hl : l.length ≤ 9223372036854775807) (hF : l.length < F) : ref00_SameInts F l l = some true := by
  unfold ref00_SameInts
  rw [beq_self_eq_true, Bool.not_true, cond_false]
  exact sm1 F l hl l.length F 0 rfl (by omega) hF
theorem same_self (F : Nat) (a : S_api_Alert) (hl : a.Cells.length ≤ 9223372036854775807) (hF : a.Cells.length < F) : law10_same F a a = some true := by
  unfold law10_same ref10_Same ref10_Same_1 ref10_Same_2 ref10_Same_3 ref10_Same_4 ref10_Same_5 ref10_Same_6 ref10_Same_7
  rw [sameInts_self F _ hl hF, bnd_eq]
  simp only [beq_self_eq_true, cond_true, Bool.and_self, bnd_eq]
theorem valid_cells (a : S_api_Alert) : (validT a).1.Cells.length ≤ 384 := by
  unfold validT
  cases hv : vldB a with
  | false => exact Nat.zero_le _
  | true => exact (vld_fine hv).cl
theorem draft_cells (ev : List UInt8) (t : Int) (c : S_api_Candidate) (m g : Int) (l : List Int) : (draftT ev t c m g l).1.Cells.length ≤ 384 := by
  unfold draftT
  cases decide (m < c.Chance.N)
  · exact valid_cells _
  · exact Nat.zero_le _
theorem next_cells (a : S_api_Alert) (t : Int) (c : S_api_Chance) (g : Int) (l : List Int) (w : Bool) : (nextT a t c g l w).1.Cells.length ≤ 384 := by
  unfold nextT
  cases vldB a
  · exact Nat.zero_le _
  · cases a.Withdrawn
    · cases decide (t < a.Time)
      · exact valid_cells _
      · exact Nat.zero_le _
    · exact Nat.zero_le _
end Go.Ev.AlertDrafts
