/- BankBands: the bands of exact taps within those of a model. -/
import Derived.Test.YtjddbfpinjjkkabGreatDoorBankBandsMath4
namespace Go.Ev.BankBands
open Go Go.Ev Go.Proofs
set_option linter.unusedVariables false
theorem Down_eq (F : Nat) (a b : Int) (h1 : 1 ≤ b) (h2 : b ≤ 4611686018427387904) (ha : -4611686018427387904 ≤ a ∧ a ≤ 4611686018427387904) : ref00_Down F a b = some (Int.fdiv a b) := by
  have hm1 := Int.emod_nonneg a (show b ≠ 0 by omega)
  have hm2 := Int.emod_lt_of_pos a (show 0 < b by omega)
  have hb : (b.natAbs : Int) = b := by omega
  have hdl : -4611686018427387904 ≤ a / b := by
    rw [Int.le_ediv_iff_mul_le (by omega)]
    have : (-4611686018427387904 : Int) * b ≤ -4611686018427387904 * 1 := Int.mul_le_mul_of_nonpos_left (by omega) (by omega)
    omega
  have hdu : a / b ≤ 4611686018427387904 := by
    by_cases h0 : 0 ≤ a
    · have := Int.ediv_le_self b h0; omega
    · have : a / b < 0 := Int.ediv_neg_of_neg_of_pos (by omega) (by omega)
      omega
  unfold ref00_Down ref00_Down_1
  rw [nz_ok (by omega), bnd_eq, bnd_eq, Int.tmod_eq_emod, Int.tdiv_eq_ediv, Int.fdiv_eq_ediv_of_nonneg _ (by omega)]
  by_cases h : 0 ≤ a ∨ b ∣ a
  · rw [if_pos h, if_pos h, Int.natCast_zero, Int.sub_zero, bif_neg' (by omega), Int.add_zero, w64_id (by omega) (by omega)]
  · rw [if_neg h, if_neg h, hb, bif_pos' (by omega), Int.sign_eq_one_of_pos (by omega), w64_id (n := a / b + 1) (by omega) (by omega), w64_id (by omega) (by omega)]
    congr 1
    omega
structure R3 (x e w : S_api_Tap) : Prop where
  eq : e.High = e.Low
  wh : w.High = e.Low
  lo : x.Low ≤ w.Low
  le : w.Low ≤ e.Low
  hi : e.Low ≤ x.High
inductive Rel3 : List S_api_Tap → List S_api_Tap → List S_api_Tap → Prop
  | nil : Rel3 [] [] []
  | cons {x e w l le lw} : R3 x e w → Rel3 l le lw → Rel3 (x :: l) (e :: le) (w :: lw)
theorem Rel3.snoc {x e w : S_api_Tap} (h : R3 x e w) : ∀ {l le lw : List S_api_Tap}, Rel3 l le lw → Rel3 (l ++ [x]) (le ++ [e]) (lw ++ [w])
  | _, _, _, .nil => .cons h .nil
  | _, _, _, .cons h1 h2 => .cons h1 (Rel3.snoc h h2)
def exP (x : S_api_Tap) (y : Int) : Int := x.Low * y
theorem one_le {x e w : S_api_Tap} (h : R3 x e w) (y : Int) : lowP x y ≤ lowP w y ∧ lowP w y ≤ exP e y ∧ exP e y ≤ highP w y ∧ highP w y ≤ highP x y ∧ lowP e y = exP e y ∧ highP e y = exP e y := by
  have h1 := h.lo
  have h2 := h.le
  have h3 := h.hi
  have h4 := h.eq
  have h5 := h.wh
  unfold lowP highP exP
  rw [h4, h5]
  by_cases hy : 0 ≤ y
  · have m1 := Int.mul_le_mul_of_nonneg_right h1 hy
    have m2 := Int.mul_le_mul_of_nonneg_right h2 hy
    have m3 := Int.mul_le_mul_of_nonneg_right h3 hy
    omega
  · have m1 := Int.mul_le_mul_of_nonpos_right h1 (show y ≤ 0 by omega)
    have m2 := Int.mul_le_mul_of_nonpos_right h2 (show y ≤ 0 by omega)
    have m3 := Int.mul_le_mul_of_nonpos_right h3 (show y ≤ 0 by omega)
    omega
theorem sums_le : ∀ {l e w : List S_api_Tap}, Rel3 l e w → ∀ r : List Int, sumT lowP l r ≤ sumT lowP w r ∧ sumT lowP w r ≤ sumT exP e r ∧ sumT exP e r ≤ sumT highP w r ∧ sumT highP w r ≤ sumT highP l r ∧ sumT lowP e r = sumT exP e r ∧ sumT highP e r = sumT exP e r
  | _, _, _, .nil, r => by simp [sumT]
  | _, _, _, .cons h1 h2, [] => by simp [sumT]
  | _, _, _, .cons h1 h2, y :: r => by
    have a := one_le h1 y
    have b := sums_le h2 r
    simp only [sumT]
    omega
theorem rel_len : ∀ {l e w : List S_api_Tap}, Rel3 l e w → e.length = l.length ∧ w.length = l.length
  | _, _, _, .nil => ⟨rfl, rfl⟩
  | _, _, _, .cons _ h => by
    obtain ⟨h1, h2⟩ := rel_len h
    rw [List.length_cons, List.length_cons, List.length_cons, h1, h2]
    exact ⟨rfl, rfl⟩
theorem rel_tap : ∀ {l e w : List S_api_Tap}, Rel3 l e w → (∀ x ∈ l, tapB x = true) → (∀ x ∈ e, tapB x = true ∧ x.High = x.Low) ∧ ∀ x ∈ w, tapB x = true
  | _, _, _, .nil, _ => ⟨fun _ h => (nomatch h), fun _ h => (nomatch h)⟩
  | _, _, _, .cons (x := x) (e := e) (w := w) h h2, hl => by
    obtain ⟨g1, g2⟩ := rel_tap h2 fun x hx => hl x (List.mem_cons_of_mem _ hx)
    have hx := tapB_iff.1 (hl x (by simp))
    have h1 := h.lo
    have h3 := h.le
    have h4 := h.hi
    have h5 := h.eq
    have h6 := h.wh
    refine ⟨fun y hy => ?_, fun y hy => ?_⟩
    · rcases List.mem_cons.1 hy with rfl | hy
      · exact ⟨tapB_iff.2 (by omega), h5⟩
      · exact g1 y hy
    · rcases List.mem_cons.1 hy with rfl | hy
      · exact tapB_iff.2 (by omega)
      · exact g2 y hy
theorem rel_model {m : S_api_Model} {e w : List S_api_Tap} (hm : modelB m = true) (h : Rel3 m.Taps e w) : modelB ⟨e, m.Shift⟩ = true ∧ modelB ⟨w, m.Shift⟩ = true := by
  unfold modelB at hm ⊢
  simp only [Bool.and_eq_true, List.all_eq_true] at hm ⊢
  obtain ⟨h1, h2⟩ := rel_len h
  obtain ⟨h3, h4⟩ := rel_tap h hm.2.2
  rw [h1, h2]
  exact ⟨⟨hm.1, hm.2.1, fun x hx => (h3 x hx).1⟩, ⟨hm.1, hm.2.1, h4⟩⟩
theorem fdiv_le {a b : Int} {sh : Nat} (h : a ≤ b) : Int.fdiv a (2 ^ sh) ≤ Int.fdiv b (2 ^ sh) := by
  have hp : (0 : Int) < 2 ^ sh := Int.pow_pos (by omega)
  rw [Int.fdiv_eq_ediv_of_nonneg _ (by omega), Int.fdiv_eq_ediv_of_nonneg _ (by omega)]
  exact Int.ediv_le_ediv hp h
theorem ceil_ge {a : Int} {sh : Nat} : Int.fdiv a (2 ^ sh) ≤ -(Int.fdiv (-a) (2 ^ sh)) := by
  have hp : (0 : Int) < 2 ^ sh := Int.pow_pos (by omega)
  rw [Int.fdiv_eq_ediv_of_nonneg _ (by omega), Int.fdiv_eq_ediv_of_nonneg _ (by omega)]
  have h1 := Int.emod_add_mul_ediv a (2 ^ sh)
  have h2 := Int.emod_add_mul_ediv (-a) (2 ^ sh)
  have h3 := Int.emod_nonneg a (show (2 ^ sh : Int) ≠ 0 by omega)
  have h4 := Int.emod_nonneg (-a) (show (2 ^ sh : Int) ≠ 0 by omega)
  have h5 : (2 ^ sh : Int) * (a / 2 ^ sh + (-a) / 2 ^ sh) = -(a % 2 ^ sh + (-a) % 2 ^ sh) := by rw [Int.mul_add]; omega
  apply Classical.byContradiction
  intro hc
  have : (2 ^ sh : Int) * 1 ≤ 2 ^ sh * (a / 2 ^ sh + (-a) / 2 ^ sh) := Int.mul_le_mul_of_nonneg_left (by omega) (by omega)
  omega
theorem band_in {m : S_api_Model} {e : List S_api_Tap} (h : Rel3 m.Taps e e) (sh : Nat) (v : List Int) : (bandM m.Taps sh v).Low ≤ (bandM e sh v).Low ∧ (bandM e sh v).Low ≤ (bandM m.Taps sh v).High := by
  obtain ⟨h1, h2, h3, h4, h5, h6⟩ := sums_le h v.reverse
  unfold bandM
  refine ⟨fdiv_le (by omega), ?_⟩
  refine Int.le_trans (fdiv_le (show sumT lowP e v.reverse ≤ sumT highP m.Taps v.reverse by omega)) ceil_ge
theorem sumT_in (f : S_api_Tap → Int → Int) (hf : ∀ x y, tapB x = true → numB y = true → -8796093022208 ≤ f x y ∧ f x y ≤ 8796093022208) : ∀ (l : List S_api_Tap) (r : List Int), (∀ x ∈ l, tapB x = true) → (∀ y ∈ r, numB y = true) → -(8796093022208 * l.length) ≤ sumT f l r ∧ sumT f l r ≤ 8796093022208 * l.length
  | [], r, _, _ => by simp [sumT]
  | x :: l, [], _, _ => by
    simp [sumT]
    omega
  | x :: l, y :: r, h1, h2 => by
    have ih := sumT_in f hf l r (fun z hz => h1 z (List.mem_cons_of_mem _ hz)) (fun z hz => h2 z (List.mem_cons_of_mem _ hz))
    have := hf x y (h1 x List.mem_cons_self) (h2 y List.mem_cons_self)
    simp only [sumT, List.length_cons]
    omega
theorem band_big {m : S_api_Model} (hm : modelB m = true) (v : List Int) (hv : ∀ y ∈ v, numB y = true) : (-1000000000000000 ≤ (bandM m.Taps m.Shift.toNat v).Low ∧ (bandM m.Taps m.Shift.toNat v).Low ≤ 1000000000000000) ∧ -1000000000000000 ≤ (bandM m.Taps m.Shift.toNat v).High ∧ (bandM m.Taps m.Shift.toNat v).High ≤ 1000000000000000 := by
  unfold modelB at hm
  simp only [Bool.and_eq_true, List.all_eq_true] at hm
  have h1 := inR_iff.1 hm.1
  have hv' : ∀ y ∈ v.reverse, numB y = true := fun y hy => hv y (List.mem_reverse.1 hy)
  have a := sumT_in lowP (fun x y hx hy => by have := prod_in hx hy; unfold lowP; omega) m.Taps v.reverse hm.2.2 hv'
  have b := sumT_in highP (fun x y hx hy => by have := prod_in hx hy; unfold highP; omega) m.Taps v.reverse hm.2.2 hv'
  have p := fdiv_in (a := sumT lowP m.Taps v.reverse) (sh := m.Shift.toNat) (by omega)
  have q := fdiv_in (a := -(sumT highP m.Taps v.reverse)) (sh := m.Shift.toNat) (by omega)
  unfold bandM
  refine ⟨p, ?_, ?_⟩
  · show _ ≤ -(Int.fdiv (-(sumT highP m.Taps v.reverse)) (2 ^ m.Shift.toNat)); omega
  · show -(Int.fdiv (-(sumT highP m.Taps v.reverse)) (2 ^ m.Shift.toNat)) ≤ _; omega
theorem strain_get (m : S_api_Model) (s : List Int) (t : Nat) (h : t < s.length) : (strainM m s)[t]? = some (bandM m.Taps m.Shift.toNat (s.take (t + 1))) := by simp [strainM, h]
theorem strain_len (m : S_api_Model) (s : List Int) : (strainM m s).length = s.length := by simp [strainM]
def loS : List Int → List S_api_Tap → Int
  | h :: r, b :: l => min (h * b.Low) (h * b.High) + loS r l
  | _, _ => 0
def hiS : List Int → List S_api_Tap → Int
  | h :: r, b :: l => max (h * b.Low) (h * b.High) + hiS r l
  | _, _ => 0
theorem between {h y lo hi : Int} (h1 : lo ≤ y) (h2 : y ≤ hi) : min (h * lo) (h * hi) ≤ h * y ∧ h * y ≤ max (h * lo) (h * hi) := by
  by_cases g : 0 ≤ h
  · have a := Int.mul_le_mul_of_nonneg_left h1 g
    have b := Int.mul_le_mul_of_nonneg_left h2 g
    omega
  · have a := Int.mul_le_mul_of_nonpos_left (show h ≤ 0 by omega) h1
    have b := Int.mul_le_mul_of_nonpos_left (show h ≤ 0 by omega) h2
    omega
theorem dot_in : ∀ (h y : List Int) (b : List S_api_Tap), h.length ≤ y.length → h.length ≤ b.length → (∀ (i : Nat) (z : Int) (x : S_api_Tap), y[i]? = some z → b[i]? = some x → x.Low ≤ z ∧ z ≤ x.High) → loS h b ≤ dot h y ∧ dot h y ≤ hiS h b
  | [], y, b, _, _, _ => by simp [loS, hiS, dot]
  | h :: r, [], b, hl, _, _ => by simp at hl
  | h :: r, z :: y, [], _, hl, _ => by simp at hl
  | h :: r, z :: y, x :: b, h1, h2, hb => by
    have ih := dot_in r y b (by simpa using h1) (by simpa using h2) (fun i z' x' hz hx => hb (i + 1) z' x' hz hx)
    obtain ⟨g1, g2⟩ := hb 0 z x rfl rfl
    have := between (h := h) g1 g2
    simp only [loS, hiS, dot]
    omega
theorem dot_big : ∀ (h y : List Int), (∀ x ∈ h, -127 ≤ x ∧ x ≤ 127) → (∀ x ∈ y, -32768 ≤ x ∧ x ≤ 32768) → -(4161536 * h.length) ≤ dot h y ∧ dot h y ≤ 4161536 * h.length
  | [], y, _, _ => by simp [dot]
  | h :: r, [], _, _ => by simp [dot]; omega
  | h :: r, z :: y, h1, h2 => by
    have ih := dot_big r y (fun x hx => h1 x (List.mem_cons_of_mem _ hx)) (fun x hx => h2 x (List.mem_cons_of_mem _ hx))
    have := mul_in (a := h) (b := z) (x := 127) (y := 32768) (h1 h List.mem_cons_self) (h2 z List.mem_cons_self) (by omega) (by omega)
    simp only [dot, List.length_cons]
    omega
end Go.Ev.BankBands
