/- Bands and strains. -/
import Derived.Test.YtjddbfpinjjkkabGreatDoorBankBandsMath2
namespace Go.Ev.BankBands
open Go Go.Ev Go.Proofs
set_option linter.unusedVariables false
def lowP (x : S_api_Tap) (y : Int) : Int := min (x.Low * y) (x.High * y)
def highP (x : S_api_Tap) (y : Int) : Int := max (x.Low * y) (x.High * y)
def sumT (f : S_api_Tap → Int → Int) : List S_api_Tap → List Int → Int
  | x :: l, y :: r => f x y + sumT f l r
  | _, _ => 0
theorem sumT_take (f : S_api_Tap → Int → Int) : ∀ (l : List S_api_Tap) (r : List Int) (k : Nat), min l.length r.length ≤ k → sumT f (l.take k) r = sumT f l r
  | [], r, k, _ => by simp [sumT]
  | x :: l, [], k, _ => by cases k <;> simp [sumT]
  | x :: l, y :: r, 0, h => by simp at h
  | x :: l, y :: r, k + 1, h => by
    simp only [List.length_cons] at h
    rw [List.take_succ_cons, sumT, sumT, sumT_take f l r k (by omega)]
theorem mul_in {a b x y : Int} (ha : -x ≤ a ∧ a ≤ x) (hb : -y ≤ b ∧ b ≤ y) (hx : 0 ≤ x) (hy : 0 ≤ y) : -(x * y) ≤ a * b ∧ a * b ≤ x * y := by
  have h1 : a.natAbs ≤ x.natAbs := by omega
  have h2 : b.natAbs ≤ y.natAbs := by omega
  have h3 : (a * b).natAbs ≤ (x * y).natAbs := by rw [Int.natAbs_mul, Int.natAbs_mul]; exact Nat.mul_le_mul h1 h2
  have h4 : 0 ≤ x * y := Int.mul_nonneg hx hy
  omega
theorem prod_in {x : S_api_Tap} {y : Int} (hx : tapB x = true) (hy : numB y = true) : (-8796093022208 ≤ x.Low * y ∧ x.Low * y ≤ 8796093022208) ∧ (-8796093022208 ≤ x.High * y ∧ x.High * y ≤ 8796093022208) := by
  have h := tapB_iff.1 hx
  have g := inR_iff.1 hy
  have m1 := mul_in (a := x.Low) (b := y) (x := 1048576) (y := 8388608) (by omega) (by omega) (by omega) (by omega)
  have m2 := mul_in (a := x.High) (b := y) (x := 1048576) (y := 8388608) (by omega) (by omega) (by omega) (by omega)
  omega
def bandM (taps : List S_api_Tap) (sh : Nat) (v : List Int) : S_api_Tap := ⟨Int.fdiv (sumT lowP taps v.reverse) (2 ^ sh), -(Int.fdiv (-(sumT highP taps v.reverse)) (2 ^ sh))⟩
theorem fdiv_in {a : Int} {sh : Nat} (h : -1000000000000000 ≤ a ∧ a ≤ 1000000000000000) : -1000000000000000 ≤ Int.fdiv a (2 ^ sh) ∧ Int.fdiv a (2 ^ sh) ≤ 1000000000000000 := by
  have hp : (0 : Int) < 2 ^ sh := Int.pow_pos (by omega)
  rw [Int.fdiv_eq_ediv_of_nonneg _ (by omega)]
  constructor
  · rw [Int.le_ediv_iff_mul_le hp]
    have : (-1000000000000000 : Int) * 2 ^ sh ≤ -1000000000000000 * 1 := Int.mul_le_mul_of_nonpos_left (by omega) (by omega)
    omega
  · by_cases h0 : 0 ≤ a
    · have := Int.ediv_le_self (2 ^ sh) h0
      omega
    · have : a / 2 ^ sh < 0 := Int.ediv_neg_of_neg_of_pos (by omega) hp
      omega
theorem bo1 (F : Nat) (v : List Int) (hv : v.length ≤ 4096) (hv2 : ∀ y ∈ v, numB y = true) (l : List S_api_Tap) (hl : l.length ≤ 16) (hlv : l.length ≤ v.length) (hl2 : ∀ x ∈ l, tapB x = true) (taps : List S_api_Tap) (sh : Nat) (hsh : sh ≤ 20) (c : S_api_Tap) :
    ∀ (k N i : Nat) (a b : Int), k = l.length - i → i ≤ l.length → k < N → (-(8796093022208 * i) ≤ a ∧ a ≤ 8796093022208 * i) → (-(8796093022208 * i) ≤ b ∧ b ≤ 8796093022208 * i) →
      record_bandOf_1 F N v a b l l.length i taps sh c = some ⟨Int.fdiv (a + sumT lowP (l.drop i) (v.reverse.drop i)) (2 ^ sh), -(Int.fdiv (-(b + sumT highP (l.drop i) (v.reverse.drop i))) (2 ^ sh))⟩
  | k, 0, i, a, b, _, _, h, _, _ => by omega
  | 0, N + 1, i, a, b, hk, hi, _, ha, hb => by
    have e : min sh (IntKind.bits .i64) = sh := by show min sh 64 = sh; omega
    rw [record_bandOf_1, bif_neg' (by omega), List.drop_of_length_le (by omega : l.length ≤ i)]
    show bnd (some sh) _ = _
    rw [bnd_eq]
    show bnd (some sh) _ = _
    rw [bnd_eq, e, w64_id (n := -b) (by omega) (by omega)]
    have := fdiv_in (a := -b) (sh := sh) (by omega)
    rw [w64_id (by omega) (by omega)]
    simp [sumT]
  | k + 1, N + 1, i, a, b, hk, hi, hN, ha, hb => by
    obtain ⟨x, hx⟩ := get_lt (l := l) (i := i) (by omega)
    obtain ⟨y, hy⟩ := get_lt (l := v.reverse) (i := i) (by simp; omega)
    have hyr := hy
    rw [List.getElem?_reverse (by omega)] at hy
    have my := hv2 y (List.mem_of_getElem? hy)
    have mx := hl2 x (List.mem_of_getElem? hx)
    obtain ⟨p1, p2⟩ := prod_in mx my
    rw [record_bandOf_1, bif_pos' (by omega), idx_nat, hx, bnd_eq, w64_id (n := (v.length : Int) - 1) (by omega) (by omega), w64_id (n := (v.length : Int) - 1 - i) (by omega) (by omega), show (v.length : Int) - 1 - (i : Int) = ((v.length - 1 - i : Nat) : Int) by omega, idx_nat, hy, bnd_eq, w64_id (n := x.Low * y) (by omega) (by omega), w64_id (n := x.High * y) (by omega) (by omega), up (by omega)]
    have e1 : w64 (a + min (x.Low * y) (x.High * y)) = a + lowP x y := by unfold lowP; exact w64_id (by omega) (by omega)
    have e2 : w64 (b + max (x.Low * y) (x.High * y)) = b + highP x y := by unfold highP; exact w64_id (by omega) (by omega)
    rw [e1, e2, bo1 F v hv hv2 l hl hlv hl2 taps sh hsh c k N (i + 1) _ _ (by omega) (by omega) (by omega) (by unfold lowP; omega) (by unfold highP; omega), drop_get hx, drop_get hyr, sumT, sumT, Int.add_assoc, Int.add_assoc]
theorem bandOf_eq (F : Nat) (hF : 20 < F) (m : S_api_Model) (hm : modelB m = true) (v : List Int) (hv : v.length ≤ 4096) (hv2 : ∀ y ∈ v, numB y = true) : record_bandOf F m v = some (bandM m.Taps m.Shift.toNat v) := by
  unfold modelB at hm
  simp only [Bool.and_eq_true, List.all_eq_true] at hm
  have h1 := inR_iff.1 hm.1
  have h2 := inR_iff.1 hm.2.1
  unfold record_bandOf
  rw [subc0 m.Taps (min m.Taps.length v.length) (by omega) (by omega), bnd_eq]
  have hlen : (m.Taps.take (min m.Taps.length v.length)).length = min m.Taps.length v.length := by rw [List.length_take]; omega
  have := bo1 F v hv hv2 (m.Taps.take (min m.Taps.length v.length)) (by omega) (by omega) (fun x hx => hm.2.2 x (List.mem_of_mem_take hx)) m.Taps m.Shift.toNat (by omega) ⟨0, 0⟩ _ F 0 0 0 rfl (by omega) (by omega) (by omega) (by omega)
  rw [show ((m.Shift.toNat : Nat) : Int) = m.Shift by omega] at this
  refine this.trans ?_
  unfold bandM
  rw [List.drop_zero, List.drop_zero, sumT_take _ _ _ _ (by rw [List.length_reverse]; omega), sumT_take _ _ _ _ (by rw [List.length_reverse]; omega), Int.zero_add, Int.zero_add]
def strainM (m : S_api_Model) (s : List Int) : List S_api_Tap := (List.range s.length).map fun k => bandM m.Taps m.Shift.toNat (s.take (k + 1))
theorem st1 (F : Nat) (hF : 20 < F) (m : S_api_Model) (hm : modelB m = true) (s : List Int) (hs : s.length ≤ 4096) (hs2 : ∀ y ∈ s, numB y = true) : ∀ (k N i : Nat) (acc : List S_api_Tap), k = s.length - i → i ≤ s.length → k < N → acc.length = s.length → acc.take i = (List.range i).map (fun k => bandM m.Taps m.Shift.toNat (s.take (k + 1))) → record_Strain_1 F N s s.length i m.Taps m.Shift acc = some (strainM m s, 0)
  | k, 0, i, acc, _, _, h, _, _ => by omega
  | 0, N + 1, i, acc, hk, hi, _, hl, hacc => by
    have e : i = s.length := by omega
    subst e
    rw [record_Strain_1, bif_neg' (by omega)]
    rw [List.take_of_length_le (by omega)] at hacc
    rw [hacc]
    rfl
  | k + 1, N + 1, i, acc, hk, hi, hN, hl, hacc => by
    rw [record_Strain_1, bif_pos' (by omega), up (by omega), subc0 s (i + 1) (by omega) rfl, bnd_eq]
    have hb := bandOf_eq F hF m hm (s.take (i + 1)) (by rw [List.length_take]; omega) (fun y hy => hs2 y (List.mem_of_mem_take hy))
    have hb' : record_bandOf F (S_api_Model.mk m.Taps m.Shift) (s.take (i + 1)) = _ := hb
    rw [hb', bnd_eq, inn_at (by omega), bnd_eq, upd_at (by omega), bnd_eq]
    refine st1 F hF m hm s hs hs2 k N (i + 1) _ (by omega) (by omega) (by omega) (by simpa using hl) ?_
    rw [List.take_add_one, List.take_set_of_le (by omega), hacc, List.getElem?_set_self (by omega), List.range_succ, List.map_append]
    rfl
def strainR (m : S_api_Model) (s : List Int) : List S_api_Tap × Int := bif modelB m then (bif seriesB s then (strainM m s, 0) else ([], 55)) else ([], 53)
theorem Strain_eq (F : Nat) (hF : 4200 < F) (m : S_api_Model) (s : List Int) : record_Strain F m s = some (strainR m s) := by
  unfold record_Strain strainR
  rw [CheckModel_eq F (by omega), bnd_eq]
  cases e1 : modelB m with
  | false => rfl
  | true =>
    rw [bif_t', bif_t']
    show (bnd (record_CheckSeries F s) fun r31 => _) = _
    rw [CheckSeries_eq F (by omega), bnd_eq]
    cases e2 : seriesB s with
    | false => rfl
    | true =>
      have h := e2
      unfold seriesB at h
      simp only [Bool.and_eq_true, decide_eq_true_eq, List.all_eq_true] at h
      rw [bif_t', bif_t']
      show (bnd (mk (s.length : Int) 16 (S_api_Tap.mk 0 0)) fun l37 => _) = _
      rw [mk_ok (by omega) (by omega), bnd_eq]
      exact st1 F (by omega) m e1 s h.1 h.2 s.length F 0 _ rfl (by omega) (by omega) (by simp) (by simp)
end Go.Ev.BankBands
