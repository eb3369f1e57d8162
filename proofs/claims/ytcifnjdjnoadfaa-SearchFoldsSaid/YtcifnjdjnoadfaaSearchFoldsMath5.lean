/- Folds: sums over places, their squares. -/
import Derived.Test.YtcifnjdjnoadfaaSearchFoldsMath4
namespace Go.Ev.SearchFolds
open Go Go.Ev Go.Proofs
set_option linter.unusedVariables false
def vl (x : List Int) (i : Nat) : Int := x[i]?.getD 0
def fs (x : List Int) (p : Nat) : Nat → Nat → Int
  | 0, _ => 0
  | i + 1, j => fs x p i j + (if i % p = j then vl x i else 0)
def fc (p : Nat) : Nat → Nat → Nat
  | 0, _ => 0
  | i + 1, j => fc p i j + (if i % p = j then 1 else 0)
def fq (x : List Int) (p : Nat) : Nat → Nat → Int
  | 0, _ => 0
  | i + 1, j => fq x p i j + (if i % p = j then vl x i * vl x i else 0)
def fl (x : List Int) (p i : Nat) : List Int := (List.range p).map (fs x p i)
theorem fl_len (x : List Int) (p i : Nat) : (fl x p i).length = p := by rw [fl, List.length_map, List.length_range]
theorem fl_get (x : List Int) (p i j : Nat) (h : j < p) : (fl x p i)[j]? = some (fs x p i j) := by
  rw [fl, List.getElem?_map, List.getElem?_range h]
  rfl
theorem fl_zero (x : List Int) (p : Nat) : fl x p 0 = List.replicate p 0 := by
  apply List.ext_getElem?
  intro j
  by_cases h : j < p
  · rw [fl_get x p 0 j h, List.getElem?_replicate, if_pos h]
    rfl
  · rw [List.getElem?_eq_none (by rw [fl_len]; omega), List.getElem?_eq_none (by rw [List.length_replicate]; omega)]
theorem fl_step (x : List Int) (p i : Nat) (hp : 0 < p) {v : Int} (hv : x[i]? = some v) : (fl x p i).set (i % p) (fs x p i (i % p) + v) = fl x p (i + 1) := by
  have hm := Nat.mod_lt i hp
  have hg : vl x i = v := by rw [vl, hv]; rfl
  apply List.ext_getElem?
  intro j
  by_cases h : j < p
  · rw [fl_get x p (i + 1) j h, fs, hg]
    by_cases e : i % p = j
    · subst e
      rw [List.getElem?_set_self (by rw [fl_len]; exact hm), if_pos rfl]
    · rw [List.getElem?_set_ne e, fl_get x p i j h, if_neg e, Int.add_zero]
  · rw [List.getElem?_eq_none (by rw [List.length_set, fl_len]; omega), List.getElem?_eq_none (by rw [fl_len]; omega)]
def smallV (x : List Int) : Prop := ∀ n : Nat, -16384 ≤ vl x n ∧ vl x n ≤ 16384
theorem smallV_of {x : List Int} (h : ∀ a ∈ x, -16384 ≤ a ∧ a ≤ 16384) : smallV x := by
  intro n
  rw [vl]
  cases e : x[n]? with
  | none => exact ⟨by decide, by decide⟩
  | some a => exact h a (List.mem_of_getElem? e)
theorem fs_bound {x : List Int} (hx : smallV x) (p : Nat) (j : Nat) : ∀ i : Nat, -((fc p i j : Int) * 16384) ≤ fs x p i j ∧ fs x p i j ≤ (fc p i j : Int) * 16384
  | 0 => ⟨by simp [fs, fc], by simp [fs, fc]⟩
  | i + 1 => by
    have h1 := fs_bound hx p j i
    have h2 := hx i
    rw [fs, fc]
    split
    · have e : ((fc p i j + 1 : Nat) : Int) * 16384 = (fc p i j : Int) * 16384 + 16384 := by rw [Int.natCast_add, Int.add_mul]; rfl
      rw [e]
      omega
    · simp only [Nat.add_zero, Int.add_zero]
      exact h1
theorem fc_le (p j : Nat) : ∀ i : Nat, fc p i j ≤ i
  | 0 => Nat.le_refl _
  | i + 1 => by
    have := fc_le p j i
    rw [fc]
    split <;> omega
theorem fs_le {x : List Int} (hx : smallV x) (p j i : Nat) (hi : i ≤ 1024) : -16777216 ≤ fs x p i j ∧ fs x p i j ≤ 16777216 := by
  have h1 := fs_bound hx p j i
  have h2 := fc_le p j i
  have h3 : (fc p i j : Int) * 16384 ≤ 1024 * 16384 := Int.mul_le_mul_of_nonneg_right (by omega) (by decide)
  omega
theorem fold1 (F : Nat) (x : List Int) (hx : smallV x) (p : Nat) (hp : 0 < p) (n : Nat) (hn : n ≤ x.length) (hxl : x.length ≤ 1024) (m : Int) : ∀ (k N i : Nat), k = n - i → i ≤ n → k < N →
    search_fold_1 F N p m (x.take n) (x.take n).length i (fl x p i) = some (fl x p n, m)
  | k, 0, i, _, _, h => by omega
  | 0, N + 1, i, hk, hi, _ => by
    rw [search_fold_1, bif_neg' (by rw [List.length_take]; omega), show i = n by omega]
  | k + 1, N + 1, i, hk, hi, hN => by
    obtain ⟨v, hv⟩ := get_lt (l := x) (i := i) (by omega)
    have hv' : (x.take n)[i]? = some v := by rw [List.getElem?_take_of_lt (by omega)]; exact hv
    have hml := Nat.mod_lt i hp
    have hb := fs_le hx p (i % p) i (by omega)
    have hvb := hx i
    rw [show vl x i = v by rw [vl, hv]; rfl] at hvb
    have e : Int.tmod (i : Int) (p : Int) = ((i % p : Nat) : Int) := rfl
    rw [search_fold_1, bif_pos' (by rw [List.length_take]; omega), idx_nat, hv', bnd_eq, nz_ok (by omega), bnd_eq, e, idx_nat, fl_get x p i _ hml, bnd_eq, inn_at (by rw [fl_len]; exact hml), bnd_eq, w64_id (n := fs x p i (i % p) + v) (by omega) (by omega), upd_at (by rw [fl_len]; exact hml), bnd_eq,
      fl_step x p i hp hv, up (by omega)]
    exact fold1 F x hx p hp n hn hxl m k N (i + 1) (by omega) (by omega) (by omega)
def fo (x : List Int) (p : Nat) : List Int := fl x p (x.length / p * p)
theorem div_in {n p : Nat} : n / p * p ≤ n := Nat.div_mul_le_self n p
theorem fold_eq (F : Nat) (hF : 1024 < F) (x : List Int) (hx : smallV x) (hxl : x.length ≤ 1024) (p : Nat) (hp : 0 < p) (hpl : p ≤ x.length) : search_fold F x p = some (fo x p, ((x.length / p : Nat) : Int)) := by
  have hd := div_in (n := x.length) (p := p)
  have hq : x.length / p ≤ x.length := Nat.div_le_self _ _
  have e : Int.tdiv (x.length : Int) (p : Int) = ((x.length / p : Nat) : Int) := rfl
  unfold search_fold fo
  rw [e]
  generalize x.length / p = m at *
  rw [nz_ok (by omega), bnd_eq, mk_ok (by omega) (by omega), bnd_eq, w64_id (n := (m : Int)) (by omega) (by omega), ← Int.natCast_mul, w64_id (n := ((m * p : Nat) : Int)) (by omega) (by omega), subc0 x _ hd rfl, bnd_eq, ← fl_zero x p]
  exact fold1 F x hx p hp (m * p) hd hxl (m : Int) _ F 0 rfl (Nat.zero_le _) (by omega)
/- sums of squares -/
def ssq : List Int → Int
  | [] => 0
  | a :: l => a * a + ssq l
theorem sq_nn (a : Int) : 0 ≤ a * a := by
  have : a * a = ((a.natAbs * a.natAbs : Nat) : Int) := Int.natAbs_mul_self.symm
  omega
theorem ssq_nn : ∀ l : List Int, 0 ≤ ssq l
  | [] => Int.le_refl _
  | a :: l => by
    have h1 := sq_nn a
    have h2 := ssq_nn l
    rw [ssq]
    omega
theorem ssq_app : ∀ l k : List Int, ssq (l ++ k) = ssq l + ssq k
  | [], k => by simp [ssq]
  | a :: l, k => by rw [List.cons_append, ssq, ssq, ssq_app l k, Int.add_assoc]
theorem pow1 (F : Nat) (l : List Int) (hl : l.length ≤ 1000000) : ∀ (k N i : Nat) (s : Int), k = l.length - i → i ≤ l.length → k < N → 0 ≤ s → s + ssq (l.drop i) ≤ 4611686018427387904 →
    search_power_1 F N s l l.length i = some (s + ssq (l.drop i))
  | k, 0, i, s, _, _, h, _, _ => by omega
  | 0, N + 1, i, s, hk, hi, _, _, _ => by
    rw [search_power_1, bif_neg' (by omega : ¬ ((i : Int) < l.length)), List.drop_of_length_le (by omega), ssq, Int.add_zero]
  | k + 1, N + 1, i, s, hk, hi, hN, h0, hs => by
    obtain ⟨a, ha⟩ := get_lt (l := l) (i := i) (by omega)
    rw [drop_get ha, ssq] at hs
    have h1 := sq_nn a
    have h2 := ssq_nn (l.drop (i + 1))
    rw [search_power_1, bif_pos' (by omega : ((i : Int) < l.length)), idx_nat, ha, bnd_eq, w64_id (n := a * a) (by omega) (by omega), w64_id (n := s + a * a) (by omega) (by omega), up (by omega), pow1 F l hl k N (i + 1) _ (by omega) (by omega) (by omega) (by omega) (by omega), drop_get ha, ssq, Int.add_assoc]
theorem power_eq (F : Nat) (l : List Int) (hl : l.length ≤ 1000000) (hF : l.length < F) (hs : ssq l ≤ 4611686018427387904) : search_power F l = some (ssq l) := by
  unfold search_power
  have := pow1 F l hl l.length F 0 0 rfl (Nat.zero_le _) hF (Int.le_refl _) (by rw [List.drop_zero]; omega)
  rw [List.drop_zero, Int.zero_add] at this
  exact this
def sumR (f : Nat → Int) : Nat → Int
  | 0 => 0
  | n + 1 => sumR f n + f n
theorem ssq_range (f : Nat → Int) : ∀ n : Nat, ssq ((List.range n).map f) = sumR (fun j => f j * f j) n
  | 0 => rfl
  | n + 1 => by
    rw [List.range_succ, List.map_append, ssq_app, ssq_range f n, sumR]
    simp [ssq]
theorem sumR_le {f g : Nat → Int} : ∀ {n : Nat}, (∀ j, j < n → f j ≤ g j) → sumR f n ≤ sumR g n
  | 0, _ => Int.le_refl _
  | n + 1, h => by
    have h1 := sumR_le (n := n) fun j hj => h j (by omega)
    have h2 := h n (by omega)
    rw [sumR, sumR]
    omega
theorem sumR_eq {f g : Nat → Int} : ∀ {n : Nat}, (∀ j, j < n → f j = g j) → sumR f n = sumR g n
  | 0, _ => rfl
  | n + 1, h => by rw [sumR, sumR, sumR_eq (n := n) fun j hj => h j (by omega), h n (by omega)]
theorem sumR_const (c : Int) : ∀ n : Nat, sumR (fun _ => c) n = (n : Int) * c
  | 0 => by simp [sumR]
  | n + 1 => by rw [sumR, sumR_const c n, Int.natCast_add, Int.add_mul]; simp
theorem sumR_mul (c : Int) (f : Nat → Int) : ∀ n : Nat, sumR (fun j => c * f j) n = c * sumR f n
  | 0 => by simp [sumR]
  | n + 1 => by rw [sumR, sumR, sumR_mul c f n, Int.mul_add]
theorem sumR_add (f g : Nat → Int) : ∀ n : Nat, sumR (fun j => f j + g j) n = sumR f n + sumR g n
  | 0 => rfl
  | n + 1 => by rw [sumR, sumR, sumR, sumR_add f g n]; omega
theorem sumR_one (v : Int) (i : Nat) : ∀ n : Nat, sumR (fun j => if i = j then v else 0) n = if i < n then v else 0
  | 0 => by simp [sumR]
  | n + 1 => by
    rw [sumR, sumR_one v i n]
    by_cases h1 : i < n
    · rw [if_pos h1, if_neg (by omega), if_pos (by omega)]; omega
    · by_cases h2 : i = n
      · rw [if_neg h1, if_pos h2, if_pos (by omega)]; omega
      · rw [if_neg h1, if_neg h2, if_neg (by omega)]; rfl
/-- How often a place is met in whole rounds. -/
theorem fc_eq (p j : Nat) (hj : j < p) : ∀ i : Nat, fc p i j = i / p + if j < i % p then 1 else 0
  | 0 => by simp [fc]
  | i + 1 => by
    have hp : 0 < p := by omega
    have hm := Nat.mod_lt i hp
    have hd := Nat.div_add_mod i p
    rw [fc, fc_eq p j hj i]
    by_cases h : i % p + 1 < p
    · have e1 : (i + 1) / p = i / p ∧ (i + 1) % p = i % p + 1 := by
        rw [Nat.div_mod_unique hp]
        constructor <;> omega
      rw [e1.1, e1.2]
      split <;> split <;> split <;> omega
    · have e1 : (i + 1) / p = i / p + 1 ∧ (i + 1) % p = 0 := by
        rw [Nat.div_mod_unique hp]
        constructor
        · rw [Nat.mul_add]; omega
        · omega
      rw [e1.1, e1.2]
      split <;> split <;> split <;> omega
theorem fc_whole (p j m : Nat) (hj : j < p) : fc p (m * p) j = m := by
  rw [fc_eq p j hj, Nat.mul_div_cancel m (by omega), Nat.mul_mod_left]
  simp
end Go.Ev.SearchFolds
