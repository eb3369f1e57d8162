/- What some of glitch's functions of signals come to. -/
import Derived.Test.YtmdeiglnjimlnaaSearchTilesMath1
namespace Go.Ev.SearchTiles
open Go Go.Ev Go.Proofs
set_option linter.unusedVariables false
theorem gisFrom_eq (F : Nat) (a b c : Int) : glitch_isFrom F a b c = some (decide (a ≤ b) && decide (b ≤ c)) := by
  unfold glitch_isFrom glitch_isFrom_1
  rcases btf (decide (a ≤ b)) with h | h <;> simp [h]
/-- Are all within B? -/
def win (B : Int) (l : List Int) : Bool := l.all fun x => decide (-B ≤ x) && decide (x ≤ B)
theorem win_iff {B : Int} {l : List Int} : win B l = true ↔ Wi B l := by
  simp only [win, Wi, List.all_eq_true, Bool.and_eq_true, decide_eq_true_eq]
theorem gareFrom1 (F : Nat) (B : Int) (hB : -9223372036854775807 ≤ B ∧ B ≤ 9223372036854775807) (l : List Int) (hl : l.length ≤ 9223372036854775807) : ∀ (k N i : Nat), k = l.length - i → i ≤ l.length → k < N → glitch_areFrom_1 F N B l l.length i = some (win B (l.drop i))
  | k, 0, i, _, _, h => by omega
  | 0, N + 1, i, hk, hi, _ => by
    rw [glitch_areFrom_1, bif_neg' (by omega : ¬ ((i : Int) < l.length)), List.drop_of_length_le (by omega)]
    rfl
  | k + 1, N + 1, i, hk, hi, hN => by
    have hlt : i < l.length := by omega
    obtain ⟨x, hx⟩ := get_lt hlt
    have e : w64 ((i : Int) + 1) = ((i + 1 : Nat) : Int) := by rw [w64_id (by omega) (by omega)]; simp
    have ih := gareFrom1 F B hB l hl k N (i + 1) (by omega) (by omega) (by omega)
    rw [glitch_areFrom_1, bif_pos' (by omega : ((i : Int) < l.length)), idx_nat, hx, bnd_eq, gisFrom_eq, bnd_eq, e, ih, drop_get hx, w64_id (by omega) (by omega)]
    simp only [win, List.all_cons]
    cases (decide (-B ≤ x) && decide (x ≤ B)) <;> rfl
theorem gareFrom_eq (F : Nat) (B : Int) (hB : -9223372036854775807 ≤ B ∧ B ≤ 9223372036854775807) (l : List Int) (hl : l.length ≤ 9223372036854775807) (hF : l.length < F) : glitch_areFrom F l B = some (win B l) := by
  have := gareFrom1 F B hB l hl l.length F 0 (by omega) (by omega) hF
  rw [List.drop_zero] at this
  exact this
/-- Is n a power of 2, up to 1024? -/
def isPow (n : Nat) : Bool := decide (1 ≤ n) && decide (n ≤ 1024) && (Nat.land n (n - 1) == 0)
theorem isPow_all : ((List.range 1025).all fun n => !(isPow n) || (List.range 11).any fun k => n == 2 ^ k) = true := by decide +kernel
theorem isPow_k {n : Nat} (h : isPow n = true) : ∃ k, k ≤ 10 ∧ n = 2 ^ k := by
  have hn : n ≤ 1024 := by
    simp only [isPow, Bool.and_eq_true, decide_eq_true_eq] at h
    exact h.1.2
  have := List.all_eq_true.1 isPow_all n (by simp; omega)
  rw [h] at this
  simp only [Bool.not_true, Bool.false_or, List.any_eq_true, List.mem_range, beq_iff_eq] at this
  obtain ⟨k, hk, e⟩ := this
  exact ⟨k, by omega, e⟩
theorem pow_isPow : ((List.range 11).all fun k => isPow (2 ^ k)) = true := by decide +kernel
theorem isPow_of {k : Nat} (h : k ≤ 10) : isPow (2 ^ k) = true := List.all_eq_true.1 pow_isPow k (by simp; omega)
theorem isLength_eq (F : Nat) (n : Nat) (hn : n ≤ 9223372036854775807) : glitch_isLength F n = some (isPow n) := by
  unfold glitch_isLength glitch_isLength_1
  rw [gisFrom_eq, bnd_eq]
  unfold isPow
  by_cases h1 : 1 ≤ n
  · by_cases h2 : n ≤ 1024
    · have e : w64 ((n : Int) - 1) = ((n - 1 : Nat) : Int) := by rw [w64_id (by omega) (by omega)]; omega
      have e2 : bitZ Nat.land .i64 (n : Int) ((n - 1 : Nat) : Int) = some ((Nat.land n (n - 1) : Nat) : Int) := by
        show (bif Nat.ble n (top .i64) && Nat.ble (n - 1) (top .i64) then some (w64 (Nat.land n (n - 1) : Nat)) else none) = _
        have g1 : Nat.ble n (top .i64) = true := Nat.ble_eq_true_of_le (by simp only [top]; omega)
        have g2 : Nat.ble (n - 1) (top .i64) = true := Nat.ble_eq_true_of_le (by simp only [top]; omega)
        have g3 : Nat.land n (n - 1) ≤ n := Nat.and_le_left
        rw [g1, g2, w64_nat (by omega)]
        rfl
      rw [e, e2]
      simp only [h1, h2, decide_true, show (1 : Int) ≤ n by omega, show (n : Int) ≤ 1024 by omega, Bool.and_self, cond_true, bnd_eq, Bool.true_and]
      congr 1
      rw [Bool.eq_iff_iff, beq_iff_eq, beq_iff_eq]
      omega
    · simp [h1, h2, show (1 : Int) ≤ n by omega, show ¬ (n : Int) ≤ 1024 by omega]
  · simp [h1, show ¬ (1 : Int) ≤ n by omega]
def sig (l : List Int) : Bool := isPow l.length && win 1048576 l
theorem isSignal_eq (F : Nat) (l : List Int) (hl : l.length ≤ 9223372036854775807) (hF : l.length < F) : glitch_isSignal F l = some (sig l) := by
  unfold glitch_isSignal glitch_isSignal_1 sig
  rw [isLength_eq F _ hl, bnd_eq, gareFrom_eq F 1048576 (by omega) l hl hF, bnd_eq]
  cases isPow l.length <;> rfl
theorem clone_eq (F : Nat) (l : List Int) (hl : l.length ≤ 1048576) : slices_Clone F l = some l := by
  unfold slices_Clone
  rw [apd_eq (by simp; omega) (by simp; omega), bnd_eq]
  simp
/-- One level. -/
theorem tr2 (F : Nat) (hd : Int → List Int → Option (List Int)) (p : List Int) (m : Nat) (hp : p.length = 2 * m) (hb : ∀ a ∈ p, -1073741824 ≤ a ∧ a ≤ 1073741824) (hm : m ≤ 1048576) :
    ∀ (k N i : Nat) (l : List Int), k = m - i → i ≤ m → k < N → 2 * m ≤ l.length → (∀ t, t < i → l[t]? = (S p)[t]? ∧ l[m + t]? = (D p)[t]?) → glitch_transform_2 F hd N m m i m l p = hd (w64 (Int.tdiv m 2)) (S p ++ D p ++ l.drop (2 * m))
  | k, 0, i, l, _, _, h, _, _ => by omega
  | 0, N + 1, i, l, hk, hi, _, hl, hinv => by
    have him : i = m := by omega
    subst him
    rw [glitch_transform_2, bif_neg' (by omega : ¬ ((i : Int) < i))]
    congr 1
    have hS := S_len i p hp
    have hD := D_len i p hp
    apply List.ext_getElem?
    intro t
    by_cases h1 : t < i
    · rw [List.append_assoc, List.getElem?_append_left (by omega)]
      exact (hinv t h1).1
    · by_cases h2 : t < 2 * i
      · rw [List.getElem?_append_left (by simp; omega), List.getElem?_append_right (by omega), hS]
        have := (hinv (t - i) (by omega)).2
        rw [show i + (t - i) = t by omega] at this
        exact this
      · rw [List.getElem?_append_right (by simp; omega), List.getElem?_drop]
        congr 1
        simp
        omega
  | k + 1, N + 1, i, l, hk, hi, hN, hl, hinv => by
    have hlt : i < m := by omega
    obtain ⟨a, ha⟩ := get_lt (l := p) (i := 2 * i) (by omega)
    obtain ⟨b, hb'⟩ := get_lt (l := p) (i := 2 * i + 1) (by omega)
    have hab := hb a (List.mem_of_getElem? ha)
    have hbb := hb b (List.mem_of_getElem? hb')
    obtain ⟨hs, hd'⟩ := SD_get p i ha hb'
    have e1 : w64 ((2 : Int) * i) = ((2 * i : Nat) : Int) := by rw [w64_id (by omega) (by omega)]; simp
    have e2 : w64 (w64 ((2 : Int) * i) + 1) = ((2 * i + 1 : Nat) : Int) := by rw [e1, w64_id (by omega) (by omega)]; simp
    have e3 : w64 ((m : Int) + i) = ((m + i : Nat) : Int) := by rw [w64_id (by omega) (by omega)]; simp
    have e4 : w64 ((i : Int) + 1) = ((i + 1 : Nat) : Int) := by rw [w64_id (by omega) (by omega)]; simp
    rw [glitch_transform_2, bif_pos' (by omega : ((i : Int) < m)), idx_at ha e1, idx_at hb' e2, bnd_eq, bnd_eq, bnd_eq, bnd_eq, innj (by omega) rfl, bnd_eq, upd_at (by omega), bnd_eq, innj (i := m + i) (by simp; omega) e3, bnd_eq, upd_at (by simp; omega), bnd_eq, e4, w64_id (by omega) (by omega), w64_id (by omega) (by omega)]
    rw [tr2 F hd p m hp hb hm k N (i + 1) _ (by omega) (by omega) (by omega) (by simp; omega) ?_]
    · rw [List.drop_set_of_lt (by omega), List.drop_set_of_lt (by omega)]
    · intro t ht
      simp only [List.getElem?_set, List.length_set]
      by_cases h1 : t = i
      · subst h1
        rw [if_neg (by omega), if_pos rfl, if_pos (by omega), if_pos rfl, if_pos (by omega)]
        exact ⟨hs.symm, hd'.symm⟩
      · have := hinv t (by omega)
        rw [if_neg (by omega), if_neg (by omega), if_neg (by omega), if_neg (by omega)]
        exact this
theorem tr1 (F : Nat) : ∀ (j N : Nat) (p r : List Int), j ≤ 10 → p.length = 2 ^ j → Bd (2 ^ j) 1073741824 p → j < N → 2 ^ j < F → r.length + 2 ^ j ≤ 2000 → glitch_transform_1 F N ((2 ^ j / 2 : Nat) : Int) (p ++ r) = some (T j p ++ r)
  | j, 0, _, _, _, _, _, h, _, _ => by omega
  | 0, N + 1, p, r, _, _, _, _, _, _ => by
    rw [glitch_transform_1, bif_neg' (by simp)]
    rfl
  | j + 1, N + 1, p, r, hj, hp, hB, hN, hF, hr => by
    have hpow : (2 : Nat) ^ j ≤ 2 ^ 10 := Nat.pow_le_pow_right (by omega) (by omega)
    have hpos : 1 ≤ (2 : Nat) ^ j := Nat.one_le_two_pow
    have hp2 : p.length = 2 * 2 ^ j := by rw [hp, Nat.pow_succ]; omega
    rw [Int.pow_succ] at hB
    obtain ⟨hBS, hBD⟩ := Bd_SD hB
    have hin : ∀ a ∈ p, -1073741824 ≤ a ∧ a ≤ 1073741824 := by
      have : Bd (2 ^ (j + 1)) 1073741824 p := by rw [Int.pow_succ]; exact hB
      intro a ha
      have h1 := this a ha
      have h2 := two_pow_pos' (j + 1)
      generalize (2 : Int) ^ (j + 1) = P at h1 h2
      rcases Int.le_total 0 a with h0 | h0
      · have := Int.mul_le_mul_of_nonneg_left h2 h0
        rw [Int.mul_one] at this
        omega
      · have := Int.mul_le_mul_of_nonneg_left h2 (show 0 ≤ -a by omega)
        rw [Int.mul_one, Int.neg_mul] at this
        omega
    have em : (2 ^ (j + 1) / 2 : Nat) = 2 ^ j := by rw [Nat.pow_succ]; omega
    rw [em]
    have ih := tr1 F j N (S p) (D p ++ r) (by omega) (S_len _ p hp2) hBS (by omega) (by rw [Nat.pow_succ] at hF; omega)
    have hSl := S_len _ p hp2
    have hDl := D_len _ p hp2
    generalize hM : (2 : Nat) ^ j = m at *
    rw [glitch_transform_1, bif_pos' (by omega : (0 : Int) < m), sub0 _ (2 * m) (by omega) (by simp; omega) (by rw [w64_id (by omega) (by omega)]; simp), bnd_eq]
    have htk : (p ++ r).take (2 * m) = p := by rw [← hp2]; exact List.take_left
    rw [htk, clone_eq F p (by omega), bnd_eq]
    have h3 := tr2 F (glitch_transform_1 F N) p m hp2 hin (by omega) m F 0 (p ++ r) (by omega) (by omega) (by rw [Nat.pow_succ, hM] at hF; omega) (by simp; omega) (fun t ht => by omega)
    have hdr : (p ++ r).drop (2 * m) = r := by rw [← hp2]; exact List.drop_left
    rw [hdr] at h3
    have h4 : glitch_transform_2 F (glitch_transform_1 F N) F m m 0 m (p ++ r) p = glitch_transform_1 F N (w64 (Int.tdiv m 2)) (S p ++ D p ++ r) := h3
    rw [h4]
    have e5 : w64 (Int.tdiv (m : Int) 2) = ((m / 2 : Nat) : Int) := by
      have : Int.tdiv (m : Int) 2 = ((m / 2 : Nat) : Int) := tdiv_nat m 2
      rw [this, w64_nat (by omega)]
    rw [e5, List.append_assoc, ih (by simp; rw [Nat.pow_succ, hM] at hr; omega), T, List.append_assoc]
theorem transform_eq (F : Nat) (k : Nat) (x : List Int) (hk : k ≤ 10) (hx : x.length = 2 ^ k) (hw : Wi 1048576 x) (hF : 1100 < F) : glitch_transform F x = some (T k x) := by
  have hpow : (2 : Nat) ^ k ≤ 2 ^ 10 := Nat.pow_le_pow_right (by omega) (by omega)
  unfold glitch_transform
  rw [clone_eq F x (by omega), bnd_eq]
  have hB : Bd (2 ^ k) 1073741824 x := by
    intro a ha
    have h1 := hw a ha
    have h2 : (2 : Int) ^ k ≤ 1024 := by
      have h3 : ((2 ^ k : Nat) : Int) = (2 : Int) ^ k := by simp
      omega
    have h4 := two_pow_pos' k
    generalize (2 : Int) ^ k = P at h2 h4
    have g1 : a * P ≤ 1048576 * P := Int.mul_le_mul_of_nonneg_right h1.2 (by omega)
    have g2 : -1048576 * P ≤ a * P := Int.mul_le_mul_of_nonneg_right h1.1 (by omega)
    omega
  have := tr1 F k F x [] hk hx hB (by omega) (by omega) (by simp; omega)
  rw [List.append_nil, List.append_nil] at this
  have e : w64 (Int.tdiv (x.length : Int) 2) = ((2 ^ k / 2 : Nat) : Int) := by
    have h1 : Int.tdiv (x.length : Int) 2 = ((x.length / 2 : Nat) : Int) := tdiv_nat _ 2
    rw [h1, w64_nat (by omega), hx]
  rw [e, this]
end Go.Ev.SearchTiles
