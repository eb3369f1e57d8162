/- The specification's names. -/
import Derived.Test.YtbpnoedmnkalpaaGreatDoorRecordSpansMath4
namespace Go.Ev.RecordSpans
open Go Go.Ev Go.Proofs
set_option linter.unusedVariables false
def letB (c : Int) : Bool := decide (97 ≤ c) && decide (c ≤ 122)
def othB (c : Int) : Bool := decide (48 ≤ c) && decide (c ≤ 57) || c == 95
theorem sAt_get {s : List UInt8} {i : Nat} {c : Int} (h : (bytesI s)[i]? = some c) : sAt s (i : Int) = some c := by
  unfold bytesI at h
  rw [List.getElem?_map] at h
  obtain ⟨b, hb, rfl⟩ := Option.map_eq_some_iff.1 h
  show (s[i]?).map _ = _
  rw [hb]
  rfl
theorem lt_not (a b : Int) : decide (a < b) = !decide (b ≤ a) := by
  by_cases h : b ≤ a
  · rw [decide_eq_false (by omega), decide_eq_true h]; rfl
  · rw [decide_eq_true (by omega), decide_eq_false h]; rfl
theorem rn5 (F : Nat) (hd : List UInt8 → Int → Option Bool) (s : List UInt8) (i c : Int) : (bif decide (c < 97) then ref01_IsName_5 F hd s i c true else ref01_IsName_5 F hd s i c (decide (122 < c))) = bif letB c || othB c then hd s (w64 (i + 1)) else some false := by
  unfold ref01_IsName_5 ref01_IsName_6 ref01_IsName_9 ref01_IsName_7 ref01_IsName_8 letB othB
  rw [lt_not c 97, lt_not 122 c, lt_not c 48, lt_not 57 c]
  cases decide (97 ≤ c) <;> cases decide (c ≤ 122) <;> cases decide (48 ≤ c) <;> cases decide (c ≤ 57) <;> cases c == 95 <;> rfl
theorem rn4 (F : Nat) (s : List UInt8) (hs : s.length ≤ 1000) : ∀ (k N i : Nat), k = s.length - i → i ≤ s.length → k < N → ref01_IsName_4 F N s i = some (((bytesI s).drop i).all fun c => letB c || othB c)
  | k, 0, i, _, _, h => by omega
  | 0, N + 1, i, hk, hi, _ => by
    rw [ref01_IsName_4, bif_neg' (by omega), List.drop_of_length_le (by rw [bytesI_len]; omega)]
    rfl
  | k + 1, N + 1, i, hk, hi, hN => by
    obtain ⟨c, hc⟩ := get_lt (l := bytesI s) (i := i) (by rw [bytesI_len]; omega)
    rw [ref01_IsName_4, bif_pos' (by omega), sAt_get hc, bnd_eq, rn5, up (by omega), rn4 F s hs k N (i + 1) (by omega) (by omega) (by omega), drop_get hc, List.all_cons]
    cases (letB c || othB c) <;> rfl
theorem charB_eq (i c : Int) : charB i c = (letB c || (othB c && decide (0 < i))) := rfl
theorem chars_pos : ∀ (l : List Int) (i : Int), 0 < i → charsB l i = l.all fun c => letB c || othB c
  | [], i, _ => rfl
  | c :: r, i, h => by
    show (charB i c && charsB r (i + 1)) = _
    rw [chars_pos r (i + 1) (by omega), charB_eq, decide_eq_true h, Bool.and_true, List.all_cons]
theorem rname_eq (F : Nat) (hF : 20 < F) (s : List UInt8) : ref01_IsName F s = some (nameB s) := by
  unfold ref01_IsName nameB ref01_IsName_1 ref01_IsName_2 ref01_IsName_3
  by_cases h0 : s.length = 0
  · have e : s = [] := List.length_eq_zero_iff.1 h0
    subst e
    rfl
  · rw [bif_neg' (by omega), decide_eq_true (show 1 ≤ s.length by omega), Bool.true_and]
    by_cases h1 : s.length ≤ 16
    · obtain ⟨c, hc⟩ := get_lt (l := bytesI s) (i := 0) (by rw [bytesI_len]; omega)
      have hs0 : sAt s (0 : Int) = some c := sAt_get (i := 0) hc
      have hb : bytesI s = c :: (bytesI s).drop 1 := by
        have := drop_get hc
        rwa [List.drop_zero] at this
      have h4 := rn4 F s (by omega) s.length F 0 rfl (by omega) (by omega)
      rw [List.drop_zero] at h4
      have h4' : ref01_IsName_4 F F s (0 : Int) = _ := h4
      have e : charsB (bytesI s) 0 = (letB c && (bytesI s).all fun c => letB c || othB c) := by
        rw [hb]
        show (charB 0 c && charsB _ (0 + 1)) = _
        rw [chars_pos _ (0 + 1) (by omega), charB_eq, decide_eq_false (by omega), Bool.and_false, Bool.or_false, List.all_cons]
        cases letB c <;> simp
      rw [decide_eq_false (by omega), decide_eq_true h1, Bool.true_and, e, hs0, bnd_eq, bnd_eq, h4', lt_not c 97, lt_not 122 c]
      unfold letB
      cases decide (97 ≤ c) <;> cases decide (c ≤ 122) <;> rfl
    · rw [decide_eq_true (by omega), decide_eq_false h1]
      rfl
end Go.Ev.RecordSpans
