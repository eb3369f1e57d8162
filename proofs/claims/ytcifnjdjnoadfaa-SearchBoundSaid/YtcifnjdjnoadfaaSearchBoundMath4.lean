/- SearchBound: at most m of the numbers have at most m that are at least as great. -/
import Derived.Test.YtcifnjdjnoadfaaSearchBoundMath3
namespace Go.Ev.SearchBound
open Go Go.Ev Go.Proofs
set_option linter.unusedVariables false
theorem least {p : Int → Bool} : ∀ {l : List Int}, (∃ x ∈ l, p x = true) → ∃ y ∈ l, p y = true ∧ ∀ x ∈ l, p x = true → y ≤ x
  | [], ⟨x, hx, _⟩ => by cases hx
  | a :: l, ⟨x, hx, hp⟩ => by
    by_cases h : ∃ x ∈ l, p x = true
    · obtain ⟨y, hy, hpy, hle⟩ := least h
      by_cases ha : p a = true ∧ a ≤ y
      · exact ⟨a, List.mem_cons_self, ha.1, fun z hz hpz => by
          rcases List.mem_cons.1 hz with rfl | hz
          · omega
          · have := hle z hz hpz; omega⟩
      · refine ⟨y, List.mem_cons_of_mem _ hy, hpy, fun z hz hpz => ?_⟩
        rcases List.mem_cons.1 hz with rfl | hz
        · have : ¬ z ≤ y := fun h => ha ⟨hpz, h⟩
          omega
        · exact hle z hz hpz
    · refine ⟨a, List.mem_cons_self, ?_, fun z hz hpz => ?_⟩
      · rcases List.mem_cons.1 hx with rfl | hx
        · exact hp
        · exact absurd ⟨x, hx, hp⟩ h
      · rcases List.mem_cons.1 hz with rfl | hz
        · omega
        · exact absurd ⟨z, hz, hpz⟩ h
theorem bound (l : List Int) (m : Nat) : l.countP (fun x => decide (cnt x l ≤ m)) ≤ m := by
  by_cases h : ∃ x ∈ l, decide (cnt x l ≤ m) = true
  · obtain ⟨y, hy, hp, hle⟩ := least h
    refine Nat.le_trans (List.countP_mono_left fun x hx hpx => ?_) (of_decide_eq_true hp)
    exact decide_eq_true (hle x hx hpx)
  · have : l.countP (fun x => decide (cnt x l ≤ m)) = 0 := List.countP_eq_zero.2 fun x hx hpx => h ⟨x, hx, hpx⟩
    omega
theorem cnt_pos {x : Int} {l : List Int} (h : x ∈ l) : 1 ≤ cnt x l := List.countP_pos_iff.2 ⟨x, h, by simp⟩
theorem bound3 (F : Nat) (l : List Int) (m : Nat) (hF : l.length < F) (h1 : 1 ≤ l.length) (h2 : l.length ≤ 256) (hw : works F = some true) : ∀ (k N i : Nat), k = l.length - i → i ≤ l.length → k < N →
    law08_SearchBound_3 F N l m (((l.take i).countP fun x => decide (cnt x l ≤ m) : Nat) : Int) i = some true
  | k, 0, i, _, _, h => by omega
  | 0, N + 1, i, hk, hi, _ => by
    have hb := bound l m
    have e : i = l.length := by omega
    subst e
    rw [law08_SearchBound_3, bif_neg' (by omega : ¬ ((l.length : Int) < l.length)), List.take_length, bif_pos' (by omega), hw]
    rfl
  | k + 1, N + 1, i, hk, hi, hN => by
    obtain ⟨s, hs⟩ := get_lt (l := l) (i := i) (by omega)
    have hms := cnt_pos (List.mem_of_getElem? hs)
    have hR : inR 1 l.length 256 = true := inR_iff.2 ⟨by omega, by omega⟩
    have ht : (l.take (i + 1)).countP (fun x => decide (cnt x l ≤ m)) = (l.take i).countP (fun x => decide (cnt x l ≤ m)) + if cnt s l ≤ m then 1 else 0 := by
      rw [List.take_add_one, hs, List.countP_append]
      simp [List.countP_cons]
    have hle : (l.take i).countP (fun x => decide (cnt x l ≤ m)) ≤ i := Nat.le_trans List.countP_le_length (by rw [List.length_take]; omega)
    have ih := bound3 F l m hF h1 h2 hw k N (i + 1) (by omega) (by omega) (by omega)
    rw [ht] at ih
    rw [law08_SearchBound_3, bif_pos' (by omega : ((i : Int) < l.length)), idx_nat, hs, bnd_eq, Chance_eq F l s hF (by omega), bnd_eq, hR]
    have hmx : max ((cnt s l : Nat) : Int) 1 = cnt s l := by omega
    simp only [cond_true, hmx, beq_self_eq_true, Bool.not_true, cond_false, law08_SearchBound_4, law08_SearchBound_5, law08_SearchBound_6]
    have hn : decide (((cnt s l : Nat) : Int) < 1) = false := by simp; omega
    rw [hn, cond_false, up (by omega), up (by omega)]
    by_cases h : cnt s l ≤ m
    · rw [if_pos h] at ih
      rw [bif_pos' (by omega)]
      exact ih
    · rw [if_neg h] at ih
      rw [bif_neg' (by omega)]
      exact ih
theorem bound1 (F : Nat) (l : List Int) (m : Int) (hF : 300 < F) (h2 : l.length ≤ 256) (hw : works F = some true) : law08_SearchBound_1 F l m = some true := by
  unfold law08_SearchBound_1
  by_cases h : l.length = 0
  · have e : ((l.length : Int) == 0) = true := by rw [h]; rfl
    have hR : inR 1 l.length 256 = false := inR_false.2 (by omega)
    rw [e, cond_true, Chance_eq F l 0 (by omega) (by omega), bnd_eq, hR]
    simp [law08_SearchBound_2, hw, bnd_eq]
  · have e : ((l.length : Int) == 0) = false := beq_eq_false_iff_ne.2 (by omega)
    have hw1 : w64 ((l.length : Int) + 1) = (l.length : Int) + 1 := w64_id (by omega) (by omega)
    rw [e, cond_false, hw1, Mod_eq F m ((l.length : Int) + 1) (by omega) (by omega), bnd_eq]
    have hm1 := Int.emod_nonneg m (show (l.length : Int) + 1 ≠ 0 by omega)
    obtain ⟨q, hq⟩ : ∃ q : Nat, m % ((l.length : Int) + 1) = q := ⟨_, (Int.toNat_of_nonneg hm1).symm⟩
    rw [hq]
    have := bound3 F l q (by omega) (by omega) h2 hw l.length F 0 (by omega) (by omega) (by omega)
    simpa using this
theorem law_eq (F : Nat) (l : List Int) (x : Int) (hl : l.length ≤ 9223372036854775807) (hF : l.length + 1200 < F) (hw : works F = some true) : law08_SearchBound F l x = some true := by
  unfold law08_SearchBound
  by_cases h : (256 : Int) < l.length
  · rw [bif_pos' h, show sub l 0 256 = some (l.take 256) from subc0 l 256 (by omega) rfl, bnd_eq]
    exact bound1 F _ x (by omega) (by rw [List.length_take]; omega) hw
  · rw [bif_neg' h]
    exact bound1 F _ x (by omega) (by omega) hw
end Go.Ev.SearchBound
