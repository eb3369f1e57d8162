/- Names. -/
import Derived.Test.YtochmbjngflpiaaGreatDoorRunVetoedMath2
namespace Go.Ev.RunVetoed
open Go Go.Ev Go.Proofs
set_option linter.unusedVariables false
def charB (i c : Int) : Bool := (decide (97 ≤ c) && decide (c ≤ 122)) || ((decide (48 ≤ c) && decide (c ≤ 57) || c == 95) && decide (0 < i))
def charsB : List Int → Int → Bool
 | [], _ => true
 | c :: r, i => charB i c && charsB r (i + 1)
def nameB (s : List UInt8) : Bool := decide (1 ≤ s.length) && (decide (s.length ≤ 16) && charsB (bytesI s) 0)
theorem nm3 (F : Nat) (hd : List Int → Int → Int → Option Bool) (c : Int) (l : List Int) (n i : Int) (lt : Bool) : num_IsName_3 F hd i c l n i lt = bif lt || ((decide (48 ≤ c) && decide (c ≤ 57) || c == 95) && decide (0 < i)) then hd l n (w64 (i + 1)) else some false := by
 unfold num_IsName_3 num_IsName_4 num_IsName_5 num_IsName_6 num_IsName_8 num_IsName_7
 cases lt <;> cases decide (48 ≤ c) <;> cases decide (c ≤ 57) <;> cases c == 95 <;> cases decide (0 < i) <;> rfl
theorem nm2 (F : Nat) (l : List Int) (hl : l.length ≤ 1000) : ∀ (k N i : Nat), k = l.length - i → i ≤ l.length → k < N → num_IsName_2 F N l l.length i = some (charsB (l.drop i) i)
 | k, 0, i, _, _, h => by omega
 | 0, N + 1, i, hk, hi, _ => by
  rw [num_IsName_2, bif_neg' (by omega), List.drop_of_length_le (by omega)]
  rfl
 | k + 1, N + 1, i, hk, hi, hN => by
  obtain ⟨c, hc⟩ := get_lt (l := l) (i := i) (by omega)
  rw [num_IsName_2, bif_pos' (by omega), idx_nat, hc, bnd_eq, nm3, nm3, up (by omega), nm2 F l hl k N (i + 1) (by omega) (by omega) (by omega), drop_get hc]
  show _ = some (charB i c && charsB (l.drop (i + 1)) ((i : Int) + 1))
  unfold charB
  rw [show ((i + 1 : Nat) : Int) = (i : Int) + 1 by omega]
  generalize charsB (l.drop (i + 1)) ((i : Int) + 1) = r
  cases decide (97 ≤ c) <;> cases decide (c ≤ 122) <;> cases ((decide (48 ≤ c) && decide (c ≤ 57) || c == 95) && decide (0 < (i : Int))) <;> rfl
theorem name_eq (F : Nat) (hF : 20 < F) (s : List UInt8) : num_IsName F s = some (nameB s) := by
 unfold num_IsName nameB num_IsName_1
 by_cases h0 : s.length = 0
 ·have e : s = [] := List.length_eq_zero_iff.1 h0
  subst e
  rfl
 ·have e0 : ((s.length : Int) == (0 : Int)) = false := by rw [beq_eq_false_iff_ne]; omega
  rw [e0, cond_false, decide_eq_true (show 1 ≤ s.length by omega), Bool.true_and]
  by_cases h1 : s.length ≤ 16
  ·rw [bif_neg' (by omega), decide_eq_true h1, Bool.true_and]
   have hb : byt s = some (bytesI s) := by
    unfold byt
    rw [Nat.ble_eq_true_of_le (by omega)]
    rfl
   have := nm2 F (bytesI s) (by rw [bytesI_len]; omega) (bytesI s).length F 0 rfl (by omega) (by rw [bytesI_len]; omega)
   rw [hb, bnd_eq]
   exact this
  ·rw [bif_pos' (by omega), decide_eq_false h1]
   rfl
end Go.Ev.RunVetoed
