/- Models and series: what is checked. -/
import Derived.Test.YtjddbfpinjjkkabGreatDoorBankBandsMath1
namespace Go.Ev.BankBands
open Go Go.Ev Go.Proofs
set_option linter.unusedVariables false
theorem bif_t' {α : Type} (x y : α) : (bif true then x else y) = x := rfl
theorem bif_f' {α : Type} (x y : α) : (bif false then x else y) = y := rfl
theorem isFrom_eq (F : Nat) (a b c : Int) : record_isFrom F a b c = some (inR a b c) := by
  unfold record_isFrom inR record_isFrom_1
  by_cases h : a ≤ b <;> simp [h]
def tapB (x : S_api_Tap) : Bool := !decide (x.High < x.Low) && (!decide (x.Low < -1048576) && !decide (1048576 < x.High))
theorem tapB_iff {x : S_api_Tap} : tapB x = true ↔ -1048576 ≤ x.Low ∧ x.Low ≤ x.High ∧ x.High ≤ 1048576 := by
  unfold tapB
  simp only [Bool.and_eq_true, Bool.not_eq_true', decide_eq_false_iff_not]
  omega
theorem cm2 (F : Nat) (l : List S_api_Tap) (hl : l.length ≤ 16) : ∀ (k N i : Nat), k = l.length - i → i ≤ l.length → k < N → record_CheckModel_2 F N l l.length i = some (bif (l.drop i).all tapB then 0 else 53)
  | k, 0, i, _, _, h => by omega
  | 0, N + 1, i, hk, hi, _ => by
    rw [record_CheckModel_2, bif_neg' (by omega), List.drop_of_length_le (by omega : l.length ≤ i)]
    rfl
  | k + 1, N + 1, i, hk, hi, hN => by
    obtain ⟨x, hx⟩ := get_lt (l := l) (i := i) (by omega)
    rw [record_CheckModel_2, bif_pos' (by omega), idx_nat, hx, bnd_eq, drop_get hx, List.all_cons]
    unfold record_CheckModel_3 record_CheckModel_4 tapB
    rw [up (by omega), cm2 F l hl k N (i + 1) (by omega) (by omega) (by omega)]
    unfold tapB
    cases decide (x.High < x.Low) <;> cases decide (x.Low < -1048576) <;> cases decide (1048576 < x.High) <;> rfl
def modelB (m : S_api_Model) : Bool := inR 1 m.Taps.length 16 && (inR 0 m.Shift 20 && m.Taps.all tapB)
theorem CheckModel_eq (F : Nat) (hF : 20 < F) (m : S_api_Model) : record_CheckModel F m = some (bif modelB m then 0 else 53) := by
  unfold record_CheckModel modelB
  rw [isFrom_eq, bnd_eq]
  unfold record_CheckModel_1
  cases e : inR 1 m.Taps.length 16 with
  | false => rfl
  | true =>
    have h := inR_iff.1 e
    rw [Bool.not_true, bif_f', isFrom_eq, bnd_eq]
    cases inR 0 m.Shift 20 with
    | false => rfl
    | true =>
      rw [Bool.not_true, bif_f']
      have := cm2 F m.Taps (by omega) m.Taps.length F 0 rfl (by omega) (by omega)
      rw [List.drop_zero] at this
      exact this
def numB (x : Int) : Bool := inR (-8388608) x 8388608
theorem af1 (F : Nat) (l : List Int) (hl : l.length ≤ 4096) : ∀ (k N i : Nat), k = l.length - i → i ≤ l.length → k < N → record_areFrom_1 F N 8388608 l l.length i = some ((l.drop i).all numB)
  | k, 0, i, _, _, h => by omega
  | 0, N + 1, i, hk, hi, _ => by
    rw [record_areFrom_1, bif_neg' (by omega), List.drop_of_length_le (by omega : l.length ≤ i)]
    rfl
  | k + 1, N + 1, i, hk, hi, hN => by
    obtain ⟨x, hx⟩ := get_lt (l := l) (i := i) (by omega)
    rw [record_areFrom_1, bif_pos' (by omega), idx_nat, hx, bnd_eq, show w64 (-8388608) = -8388608 from w64_id (by omega) (by omega), isFrom_eq, bnd_eq, drop_get hx, List.all_cons, up (by omega), af1 F l hl k N (i + 1) (by omega) (by omega) (by omega)]
    show (bif !(numB x) then _ else _) = _
    cases numB x <;> rfl
def seriesB (l : List Int) : Bool := decide (l.length ≤ 4096) && l.all numB
theorem CheckSeries_eq (F : Nat) (hF : 4100 < F) (l : List Int) : record_CheckSeries F l = some (bif seriesB l then 0 else 55) := by
  unfold record_CheckSeries seriesB
  by_cases h : l.length ≤ 4096
  · rw [bif_neg' (by omega), decide_eq_true h, Bool.true_and]
    unfold record_areFrom
    have := af1 F l h l.length F 0 rfl (by omega) (by omega)
    rw [List.drop_zero] at this
    have this' : record_areFrom_1 F F 8388608 l (l.length : Int) 0 = _ := this
    rw [this', bnd_eq]
    cases l.all numB <;> rfl
  · rw [bif_pos' (by omega), decide_eq_false h]
    rfl
end Go.Ev.BankBands
