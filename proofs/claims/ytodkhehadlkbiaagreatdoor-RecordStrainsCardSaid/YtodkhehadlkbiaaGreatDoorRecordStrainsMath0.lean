/- RecordStrains: the plain functions agree. -/
import Derived.Test.YtodkhehadlkbiaaGreatDoorRecordStrainsPlain
namespace Go.Ev.RecordStrains
open Go Go.Ev Go.Proofs
set_option linter.unusedVariables false

theorem w64_id {n : Int} (h1 : -9223372036854775808 ≤ n) (h2 : n ≤ 9223372036854775807) : w64 n = n := wrap_in .i64 n h1 h2
theorem w64_lo (n : Int) : -9223372036854775808 ≤ w64 n := by
  unfold w64 IntKind.wrap
  simp [IntKind.bits, IntKind.signed]
  split <;> omega
theorem w64_hi (n : Int) : w64 n ≤ 9223372036854775807 := by
  unfold w64 IntKind.wrap
  simp [IntKind.bits, IntKind.signed]
  split <;> omega
theorem idx_nat {α : Type} (l : List α) (i : Nat) : idx l (i : Int) = l[i]? := rfl
theorem bnd_eq {α β : Type} (a : α) (f : α → Option β) : bnd (some a) f = f a := rfl

theorem isFrom_eq (F : Nat) (a b c : Int) : record_isFrom F a b c = some (decide (a ≤ b) && decide (b ≤ c)) := by
  unfold record_isFrom record_isFrom_1
  rcases btf (decide (a ≤ b)) with h | h <;> simp [h]
theorem In_eq (F : Nat) (n lo hi : Int) : ref00_In F n lo hi = some (decide (lo ≤ n) && decide (n ≤ hi)) := by
  unfold ref00_In ref00_In_1
  rcases btf (decide (lo ≤ n)) with h | h <;> simp [h]

theorem bif_pos' {p : Prop} [Decidable p] (h : p) {α : Type} (x y : α) : (bif decide p then x else y) = x := by simp [h]
theorem bif_neg' {p : Prop} [Decidable p] (h : ¬ p) {α : Type} (x y : α) : (bif decide p then x else y) = y := by simp [h]

def okT (t : S_api_Tap) : Bool := decide (t.Low ≤ t.High) && (decide (-1048576 ≤ t.Low) && decide (t.High ≤ 1048576))

theorem drop_get {α : Type} {l : List α} {i : Nat} (h : i < l.length) : l.drop i = l[i] :: l.drop (i + 1) := List.drop_eq_getElem_cons h

theorem cm2 (F : Nat) (taps : List S_api_Tap) (hl : taps.length ≤ 9223372036854775807) : ∀ (k N i : Nat), k = taps.length - i → i ≤ taps.length → k < N → record_CheckModel_2 F N taps taps.length i = some (bif (taps.drop i).all okT then 0 else 53)
  | k, 0, i, _, _, h => by omega
  | 0, N + 1, i, hk, hi, _ => by
    rw [record_CheckModel_2, bif_neg' (by omega : ¬ ((i : Int) < taps.length)), List.drop_of_length_le (by omega)]
    rfl
  | k + 1, N + 1, i, hk, hi, hN => by
    have hlt : i < taps.length := by omega
    rw [record_CheckModel_2, bif_pos' (by omega : ((i : Int) < taps.length)), idx_nat, List.getElem?_eq_getElem hlt, bnd_eq, drop_get hlt]
    have e : w64 ((i : Int) + 1) = ((i + 1 : Nat) : Int) := by rw [w64_id (by omega) (by omega)]; simp
    have ih := cm2 F taps hl k N (i + 1) (by omega) (by omega) (by omega)
    generalize taps[i] = t
    unfold record_CheckModel_3 record_CheckModel_4
    rw [e, ih]
    simp only [List.all_cons, okT]
    by_cases h1 : t.High < t.Low
    · simp [h1, show ¬ (t.Low ≤ t.High) by omega]
    · by_cases h2 : t.Low < -1048576
      · simp [h1, h2, show ¬ (-1048576 ≤ t.Low) by omega]
      · by_cases h3 : (1048576 : Int) < t.High
        · simp [h1, h2, h3, show ¬ (t.High ≤ 1048576) by omega]
        · simp [h1, h2, h3, show t.Low ≤ t.High by omega, show -1048576 ≤ t.Low by omega, show t.High ≤ 1048576 by omega]

def okM (m : S_api_Model) : Bool := (decide (1 ≤ m.Taps.length) && decide (m.Taps.length ≤ 16)) && ((decide (0 ≤ m.Shift) && decide (m.Shift ≤ 20)) && m.Taps.all okT)
theorem checkModel_eq (F : Nat) (m : S_api_Model) (hl : m.Taps.length ≤ 9223372036854775807) (hF : m.Taps.length < F) : record_CheckModel F m = some (bif okM m then 0 else 53) := by
  have h2 := cm2 F m.Taps hl m.Taps.length F 0 (by omega) (by omega) hF
  simp only [List.drop_zero] at h2
  unfold record_CheckModel record_CheckModel_1
  rw [isFrom_eq, bnd_eq, isFrom_eq, bnd_eq]
  have h0 : record_CheckModel_2 F F m.Taps m.Taps.length 0 = some (bif m.Taps.all okT then 0 else 53) := h2
  rw [h0]
  unfold okM
  by_cases h1 : 1 ≤ m.Taps.length
  · by_cases h3 : m.Taps.length ≤ 16
    · by_cases h4 : 0 ≤ m.Shift
      · by_cases h5 : m.Shift ≤ 20
        · simp [h1, h3, h4, h5, show (1 : Int) ≤ m.Taps.length by omega, show (m.Taps.length : Int) ≤ 16 by omega]
        · simp [h1, h3, h4, h5, show (1 : Int) ≤ m.Taps.length by omega, show (m.Taps.length : Int) ≤ 16 by omega]
      · simp [h1, h3, h4, show (1 : Int) ≤ m.Taps.length by omega, show (m.Taps.length : Int) ≤ 16 by omega]
    · simp [h1, h3, show (1 : Int) ≤ m.Taps.length by omega, show ¬ (m.Taps.length : Int) ≤ 16 by omega]
  · simp [h1, show ¬ (1 : Int) ≤ m.Taps.length by omega]

theorem rcm2 (F : Nat) (taps : List S_api_Tap) (sh : Int) (hl : taps.length ≤ 9223372036854775807) : ∀ (k N i : Nat) (b : Bool), k = taps.length - i → i ≤ taps.length → k < N → ref05_CheckModel_2 F N b i taps sh = some (bif b && (taps.drop i).all okT then 0 else 53)
  | k, 0, i, _, _, _, h => by omega
  | 0, N + 1, i, b, hk, hi, _ => by
    rw [ref05_CheckModel_2, bif_neg' (by omega : ¬ ((i : Int) < taps.length)), List.drop_of_length_le (by omega)]
    cases b <;> rfl
  | k + 1, N + 1, i, b, hk, hi, hN => by
    have hlt : i < taps.length := by omega
    rw [ref05_CheckModel_2, bif_pos' (by omega : ((i : Int) < taps.length)), idx_nat, List.getElem?_eq_getElem hlt, bnd_eq, drop_get hlt]
    have e : w64 ((i : Int) + 1) = ((i + 1 : Nat) : Int) := by rw [w64_id (by omega) (by omega)]; simp
    have ih := fun b => rcm2 F taps sh hl k N (i + 1) b (by omega) (by omega) (by omega)
    generalize taps[i] = t
    unfold ref05_CheckModel_3 ref05_CheckModel_4
    rw [e, In_eq, bnd_eq, ih, ih]
    simp only [List.all_cons, okT]
    cases b with
    | false => simp
    | true =>
      by_cases h1 : t.Low ≤ t.High
      · by_cases h2 : -1048576 ≤ t.Low
        · by_cases h3 : t.High ≤ 1048576
          · simp [h1, h2, h3]
          · simp [h1, h2, h3]
        · simp [h1, h2]
      · simp [h1]
theorem rcheckModel_eq (F : Nat) (m : S_api_Model) (hl : m.Taps.length ≤ 9223372036854775807) (hF : m.Taps.length < F) : ref05_CheckModel F m = some (bif okM m then 0 else 53) := by
  have h2 := fun b => rcm2 F m.Taps m.Shift hl m.Taps.length F 0 b (by omega) (by omega) hF
  simp only [List.drop_zero] at h2
  unfold ref05_CheckModel ref05_CheckModel_1
  have h0 : ∀ b, ref05_CheckModel_2 F F b 0 m.Taps m.Shift = some (bif b && m.Taps.all okT then 0 else 53) := h2
  rw [In_eq, bnd_eq, In_eq, bnd_eq, h0, h0]
  unfold okM
  by_cases h1 : 1 ≤ m.Taps.length
  · by_cases h3 : m.Taps.length ≤ 16
    · simp [h1, h3, show (1 : Int) ≤ m.Taps.length by omega, show (m.Taps.length : Int) ≤ 16 by omega]
    · simp [h1, h3, show (1 : Int) ≤ m.Taps.length by omega, show ¬ (m.Taps.length : Int) ≤ 16 by omega]
  · simp [h1, show ¬ (1 : Int) ≤ m.Taps.length by omega]

def okX (n : Int) : Bool := decide (-8388608 ≤ n) && decide (n ≤ 8388608)
theorem areFrom_go (F : Nat) (l : List Int) (hl : l.length ≤ 9223372036854775807) : ∀ (k N i : Nat), k = l.length - i → i ≤ l.length → k < N → record_areFrom_1 F N 8388608 l l.length i = some ((l.drop i).all okX)
  | k, 0, i, _, _, h => by omega
  | 0, N + 1, i, hk, hi, _ => by
    rw [record_areFrom_1, bif_neg' (by omega : ¬ ((i : Int) < l.length)), List.drop_of_length_le (by omega)]
    rfl
  | k + 1, N + 1, i, hk, hi, hN => by
    have hlt : i < l.length := by omega
    rw [record_areFrom_1, bif_pos' (by omega : ((i : Int) < l.length)), idx_nat, List.getElem?_eq_getElem hlt, bnd_eq, drop_get hlt, isFrom_eq, bnd_eq]
    have e : w64 ((i : Int) + 1) = ((i + 1 : Nat) : Int) := by rw [w64_id (by omega) (by omega)]; simp
    have e2 : w64 (-(8388608 : Int)) = -8388608 := by rw [w64_id (by omega) (by omega)]
    rw [e, e2, areFrom_go F l hl k N (i + 1) (by omega) (by omega) (by omega), List.all_cons]
    unfold okX
    generalize (decide (-8388608 ≤ l[i]) && decide (l[i] ≤ 8388608)) = b
    cases b <;> simp
def okS (x : List Int) : Bool := decide (x.length ≤ 4096) && x.all okX
theorem checkSeries_eq (F : Nat) (x : List Int) (hl : x.length ≤ 9223372036854775807) (hF : x.length < F) : record_CheckSeries F x = some (bif okS x then 0 else 55) := by
  have h := areFrom_go F x hl x.length F 0 (by omega) (by omega) hF
  simp only [List.drop_zero] at h
  have h' : record_areFrom F x 8388608 = some (x.all okX) := h
  unfold record_CheckSeries record_CheckSeries_1
  rw [h', bnd_eq]
  unfold okS
  by_cases h1 : x.length ≤ 4096
  · rw [bif_neg' (by omega : ¬ ((4096 : Int) < x.length))]
    cases x.all okX <;> simp [h1]
  · rw [bif_pos' (by omega : ((4096 : Int) < x.length))]
    simp [h1]
theorem rcs1 (F : Nat) (x : List Int) (hl : x.length ≤ 9223372036854775807) : ∀ (k N i : Nat) (b : Bool), k = x.length - i → i ≤ x.length → k < N → ref05_CheckSeries_1 F N x b i = some (bif b && (x.drop i).all okX then 0 else 55)
  | k, 0, i, _, _, _, h => by omega
  | 0, N + 1, i, b, hk, hi, _ => by
    rw [ref05_CheckSeries_1, bif_neg' (by omega : ¬ ((i : Int) < x.length)), List.drop_of_length_le (by omega)]
    cases b <;> rfl
  | k + 1, N + 1, i, b, hk, hi, hN => by
    have hlt : i < x.length := by omega
    rw [ref05_CheckSeries_1, bif_pos' (by omega : ((i : Int) < x.length)), idx_nat, List.getElem?_eq_getElem hlt, bnd_eq, drop_get hlt, In_eq, bnd_eq]
    have e : w64 ((i : Int) + 1) = ((i + 1 : Nat) : Int) := by rw [w64_id (by omega) (by omega)]; simp
    unfold ref05_CheckSeries_2
    rw [e, rcs1 F x hl k N (i + 1) _ (by omega) (by omega) (by omega), rcs1 F x hl k N (i + 1) _ (by omega) (by omega) (by omega), List.all_cons]
    cases b with
    | false => simp
    | true => simp [okX]
theorem rcheckSeries_eq (F : Nat) (x : List Int) (hl : x.length ≤ 9223372036854775807) (hF : x.length < F) : ref05_CheckSeries F x = some (bif okS x then 0 else 55) := by
  have h := fun b => rcs1 F x hl x.length F 0 b (by omega) (by omega) hF
  simp only [List.drop_zero] at h
  have h' : ∀ b, ref05_CheckSeries_1 F F x b 0 = some (bif b && x.all okX then 0 else 55) := h
  unfold ref05_CheckSeries
  rw [h']
  unfold okS
  by_cases h1 : x.length ≤ 4096
  · simp [h1, show (x.length : Int) ≤ 4096 by omega]
  · simp [h1, show ¬ (x.length : Int) ≤ 4096 by omega]

/- bands -/
theorem down_eq (F : Nat) (a : Int) (s : Nat) (h1 : -9223372036854775808 ≤ a) (h2 : a ≤ 9223372036854775807) : ref00_Down F a (2 ^ s) = some (a.fdiv (2 ^ s)) := by
  have hp : (0 : Int) < 2 ^ s := Int.pow_pos (by omega)
  generalize hb : (2 : Int) ^ s = b at *
  unfold ref00_Down ref00_Down_1
  have hnz : nz b = some b := by unfold nz; rw [show (b == 0) = false by simp; omega]; rfl
  rw [hnz, bnd_eq, bnd_eq]
  rw [Int.fdiv_eq_ediv_of_nonneg a (by omega : 0 ≤ b)]
  have e1 := Int.tdiv_eq_ediv (a := a) (b := b)
  have e2 := Int.tmod_eq_emod (a := a) (b := b)
  have e3 : a % b + b * (a / b) = a := Int.emod_add_mul_ediv a b
  have e4 := Int.emod_nonneg a (by omega : b ≠ 0)
  have e5 := Int.emod_lt_of_pos a hp
  have e6 : b.sign = 1 := Int.sign_eq_one_of_pos hp
  have hq : -9223372036854775808 ≤ a / b ∧ a / b ≤ 9223372036854775807 := by
    constructor
    · rcases Int.le_total 0 a with h | h
      · have := Int.ediv_nonneg h (by omega : 0 ≤ b); omega
      · have := Int.le_ediv_of_mul_le hp (a := -9223372036854775808) (b := a) (by
          have := Int.mul_le_mul_of_nonneg_left (show (1 : Int) ≤ b by omega) (show (0 : Int) ≤ 9223372036854775808 by omega)
          omega)
        exact this
    · rcases Int.le_total 0 a with h | h
      · have := Int.ediv_le_self b h; omega
      · have := Int.ediv_le_ediv hp h
        rw [Int.zero_ediv] at this
        omega
  by_cases hc : 0 ≤ a ∨ b ∣ a
  · rw [if_pos hc] at e1 e2
    rw [e1, e2]
    rw [bif_neg' (by omega), Int.add_zero, w64_id hq.1 hq.2]
  · rw [if_neg hc] at e1 e2
    rw [e1, e2, e6]
    have hn : (b.natAbs : Int) = b := by omega
    have hneg : a / b < 0 := Int.ediv_neg_of_neg_of_pos (by omega) hp
    rw [bif_pos' (by omega)]
    rw [w64_id (n := a / b + 1) (by omega) (by omega), show a / b + 1 - 1 = a / b by omega, w64_id hq.1 hq.2]

theorem up_eq (F : Nat) (a : Int) (s : Nat) : ref00_Up F a (2 ^ s) = some (w64 (-((w64 (-a)).fdiv (2 ^ s)))) := by
  unfold ref00_Up
  rw [down_eq F (w64 (-a)) s (w64_lo _) (w64_hi _), bnd_eq]

/-- The sums from the tap i on. -/
def lows (x : List Int) (t : Nat) : List S_api_Tap → Nat → Int → Int → Int × Int
  | [], _, lo, hi => (lo, hi)
  | p :: ps, i, lo, hi => bif decide (i ≤ t) then
      lows x t ps (i + 1) (w64 (lo + min (w64 (p.Low * x.getD (t - i) 0)) (w64 (p.High * x.getD (t - i) 0)))) (w64 (hi + max (w64 (p.Low * x.getD (t - i) 0)) (w64 (p.High * x.getD (t - i) 0))))
    else (lo, hi)
def bandAt (m : S_api_Model) (x : List Int) (t : Nat) : S_api_Tap :=
  S_api_Tap.mk ((lows x t m.Taps 0 0 0).1.fdiv (2 ^ m.Shift.toNat)) (w64 (-((w64 (-(lows x t m.Taps 0 0 0).2)).fdiv (2 ^ m.Shift.toNat))))

theorem lows_range (x : List Int) (t : Nat) : ∀ (ps : List S_api_Tap) (i : Nat) (lo hi : Int), -9223372036854775808 ≤ lo → lo ≤ 9223372036854775807 → -9223372036854775808 ≤ (lows x t ps i lo hi).1 ∧ (lows x t ps i lo hi).1 ≤ 9223372036854775807
  | [], i, lo, hi, h1, h2 => ⟨h1, h2⟩
  | p :: ps, i, lo, hi, h1, h2 => by
    unfold lows
    rcases btf (decide (i ≤ t)) with h | h
    · rw [h]; exact lows_range x t ps (i + 1) _ _ (w64_lo _) (w64_hi _)
    · rw [h]; exact ⟨h1, h2⟩

theorem shn_nat {j : Int} (h : 0 ≤ j) : shn j = some j.toNat := by
  cases j with
  | ofNat n => rfl
  | negSucc n => omega
theorem pow_w64 {j : Nat} (h : j ≤ 20) : w64 ((1 : Int) * 2 ^ (min j (IntKind.bits .i64))) = 2 ^ j := by
  have hb : IntKind.bits .i64 = 64 := rfl
  rw [hb, Nat.min_eq_left (by omega), Int.one_mul]
  have h1 : (2 : Int) ^ j ≤ 2 ^ 20 := by
    have := Nat.pow_le_pow_right (n := 2) (by omega) h
    exact_mod_cast this
  have h0 : (0 : Int) < 2 ^ j := Int.pow_pos (by omega)
  exact w64_id (by omega) (by omega)

theorem bandOf_go (F : Nat) (m : S_api_Model) (x x' : List Int) (t : Nat) (c0 c1 : Int) (hs0 : 0 ≤ m.Shift) (hs1 : m.Shift ≤ 20) (ht : t < x.length) (hx' : x' = x.take (t + 1)) (hx : x.length ≤ 4096) (hm : m.Taps.length ≤ 16) :
    ∀ (k N i : Nat) (lo hi : Int) (l3 : List S_api_Tap), l3 = m.Taps.take (min m.Taps.length (t + 1)) → k = l3.length - i → i ≤ l3.length → k < N →
      record_bandOf_1 F N x' lo hi l3 l3.length i m.Taps m.Shift c0 c1 = some (S_api_Tap.mk ((lows x t (m.Taps.drop i) i lo hi).1.fdiv (2 ^ m.Shift.toNat)) (w64 (-((w64 (-(lows x t (m.Taps.drop i) i lo hi).2)).fdiv (2 ^ m.Shift.toNat)))))
  | k, 0, i, lo, hi, l3, _, _, _, h => by omega
  | k, N + 1, i, lo, hi, l3, hl3, hk, hi', hN => by
    have hlen : l3.length = min m.Taps.length (t + 1) := by rw [hl3, List.length_take]; omega
    have hxl : x'.length = t + 1 := by rw [hx', List.length_take]; omega
    rw [record_bandOf_1]
    by_cases hlt : i < l3.length
    · rw [bif_pos' (by omega : ((i : Int) < l3.length)), idx_nat, List.getElem?_eq_getElem hlt, bnd_eq]
      have hi1 : i < m.Taps.length := by omega
      have hg : l3[i] = m.Taps[i] := by simp [hl3]
      have e0 : w64 (w64 ((x'.length : Int) - 1) - i) = ((t - i : Nat) : Int) := by
        rw [hxl, w64_id (n := ((t + 1 : Nat) : Int) - 1) (by omega) (by omega), w64_id (by omega) (by omega)]
        omega
      have hg2 : x'[t - i]? = some (x.getD (t - i) 0) := by
        rw [hx', List.getElem?_take_of_lt (by omega), List.getElem?_eq_getElem (by omega), List.getD_eq_getElem?_getD, List.getElem?_eq_getElem (by omega)]
        rfl
      have e : w64 ((i : Int) + 1) = ((i + 1 : Nat) : Int) := by rw [w64_id (by omega) (by omega)]; simp
      rw [e0, idx_nat, hg2, bnd_eq, e, hg]
      rw [bandOf_go F m x x' t c0 c1 hs0 hs1 ht hx' hx hm (l3.length - (i + 1)) N (i + 1) _ _ l3 hl3 rfl (by omega) (by omega)]
      rw [drop_get hi1]
      conv => rhs; rw [lows]
      rw [bif_pos' (by omega : i ≤ t)]
    · have hil : i = l3.length := by omega
      rw [bif_neg' (by omega : ¬ ((i : Int) < l3.length)), shn_nat hs0, bnd_eq, bnd_eq]
      have hb : min m.Shift.toNat (IntKind.bits .i64) = m.Shift.toNat := by
        have hb : IntKind.bits .i64 = 64 := rfl
        rw [hb]; omega
      rw [hb]
      have hlo : lows x t (m.Taps.drop i) i lo hi = (lo, hi) := by
        by_cases hc : i < m.Taps.length
        · rw [drop_get hc, lows, bif_neg' (by omega : ¬ i ≤ t)]
        · rw [List.drop_of_length_le (by omega)]; rfl
      rw [hlo]
end Go.Ev.RecordStrains
