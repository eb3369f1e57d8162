/- SearchSums. -/
import Derived.Test.YtcifnjdjnoadfaaSearchSumsMath6
namespace Go.Ev.SearchSums
open Go Go.Ev Go.Proofs
set_option linter.unusedVariables false
def tot (x : List Int) : Nat → Int
  | 0 => 0
  | i + 1 => tot x i + vl x i
theorem tot_bound {x : List Int} (hx : smallV x) : ∀ i : Nat, -((i : Int) * 16384) ≤ tot x i ∧ tot x i ≤ (i : Int) * 16384
  | 0 => ⟨by simp [tot], by simp [tot]⟩
  | i + 1 => by
    have h1 := tot_bound hx i
    have h2 := hx i
    have e : ((i + 1 : Nat) : Int) * 16384 = (i : Int) * 16384 + 16384 := by rw [Int.natCast_add, Int.add_mul]; rfl
    rw [tot]
    omega
theorem sum_fs (x : List Int) (p : Nat) (hp : 0 < p) : ∀ i : Nat, sumR (fs x p i) p = tot x i
  | 0 => by
    have e : sumR (fs x p 0) p = sumR (fun _ => 0) p := sumR_eq fun j _ => rfl
    rw [tot, e, sumR_const, Int.mul_zero]
  | i + 1 => by
    have e : sumR (fs x p (i + 1)) p = sumR (fun j => fs x p i j + (if i % p = j then vl x i else 0)) p := sumR_eq fun j _ => rfl
    rw [e, sumR_add, sum_fs x p hp i, sumR_one, if_pos (Nat.mod_lt i hp), tot]
theorem sumR_bound {f : Nat → Int} {n : Nat} (h : ∀ j, j < n → -16777216 ≤ f j ∧ f j ≤ 16777216) : ∀ k : Nat, k ≤ n → -((k : Int) * 16777216) ≤ sumR f k ∧ sumR f k ≤ (k : Int) * 16777216
  | 0, _ => ⟨by simp [sumR], by simp [sumR]⟩
  | k + 1, hk => by
    have h1 := sumR_bound h k (by omega)
    have h2 := h k (by omega)
    have e : ((k + 1 : Nat) : Int) * 16777216 = (k : Int) * 16777216 + 16777216 := by rw [Int.natCast_add, Int.add_mul]; rfl
    rw [sumR]
    omega
theorem sums2 (F : Nat) (x : List Int) (hx : smallV x) (p n : Nat) (hp : p ≤ 1024) (hn : n ≤ 1024) (v2 : Int) : ∀ (k N j : Nat), k = p - j → j ≤ p → k < N →
    law08_SearchSums_2 F N x p v2 (sumR (fs x p n) j) j (fl x p n) = law08_SearchSums_3 F F x p v2 (sumR (fs x p n) p) 0 (fl x p n)
  | k, 0, j, _, _, h => by omega
  | 0, N + 1, j, hk, hj, _ => by
    rw [law08_SearchSums_2, bif_neg' (by rw [fl_len]; omega), show j = p by omega]
  | k + 1, N + 1, j, hk, hj, hN => by
    have hb := fs_le hx p j n hn
    have hs := sumR_bound (f := fs x p n) (n := p) (fun j _ => fs_le hx p j n hn) j (by omega)
    have h3 : (j : Int) * 16777216 ≤ 1024 * 16777216 := Int.mul_le_mul_of_nonneg_right (by omega) (by decide)
    rw [law08_SearchSums_2, bif_pos' (by rw [fl_len]; omega), idx_nat, fl_get x p n j (by omega), bnd_eq, w64_id (n := sumR (fs x p n) j + fs x p n j) (by omega) (by omega), up (by omega)]
    exact sums2 F x hx p n hp hn v2 k N (j + 1) (by omega) (by omega) (by omega)
theorem sums3 (F : Nat) (x : List Int) (hx : smallV x) (hxl : x.length ≤ 1024) (p : Nat) (hp : 0 < p) (v2 : Int) (L : List Int) (hL : L.length = p) : ∀ (k N i : Nat), k = x.length / p * p - i → i ≤ x.length / p * p → k < N →
    law08_SearchSums_3 F N x p v2 (tot x (x.length / p * p) - tot x i) i L = law08_SearchSums_4 F x p v2 false := by
  have hd := div_in (n := x.length) (p := p)
  have hq : x.length / p ≤ x.length := Nat.div_le_self _ _
  have e : Int.tdiv (x.length : Int) (p : Int) = ((x.length / p : Nat) : Int) := rfl
  generalize x.length / p = m at *
  intro k
  induction k with
  | zero =>
    intro N i hk hi hN
    obtain ⟨N, rfl⟩ : ∃ M, N = M + 1 := ⟨N - 1, by omega⟩
    rw [law08_SearchSums_3, nz_ok (by omega), bnd_eq, e, w64_id (n := (m : Int)) (by omega) (by omega), ← Int.natCast_mul, w64_id (n := ((m * p : Nat) : Int)) (by omega) (by omega), bif_neg' (by omega), show i = m * p by omega, Int.sub_self]
    simp only [beq_self_eq_true, Bool.not_true, cond_false, hL]
  | succ k ih =>
    intro N i hk hi hN
    obtain ⟨N, rfl⟩ : ∃ M, N = M + 1 := ⟨N - 1, by omega⟩
    obtain ⟨v, hv⟩ := get_lt (l := x) (i := i) (by omega)
    have hg : vl x i = v := by rw [vl, hv]; rfl
    have b1 := tot_bound hx (m * p)
    have b2 := tot_bound hx (i + 1)
    have m1 : ((m * p : Nat) : Int) * 16384 ≤ 1024 * 16384 := Int.mul_le_mul_of_nonneg_right (by omega) (by decide)
    have m2 : ((i + 1 : Nat) : Int) * 16384 ≤ 1025 * 16384 := Int.mul_le_mul_of_nonneg_right (by omega) (by decide)
    have et : tot x (m * p) - tot x i - v = tot x (m * p) - tot x (i + 1) := by rw [tot, hg]; omega
    rw [law08_SearchSums_3, nz_ok (by omega), bnd_eq, e, w64_id (n := (m : Int)) (by omega) (by omega), ← Int.natCast_mul, w64_id (n := ((m * p : Nat) : Int)) (by omega) (by omega), bif_pos' (by omega), idx_nat, hv, bnd_eq, et, w64_id (n := tot x (m * p) - tot x (i + 1)) (by omega) (by omega), up (by omega)]
    exact ih N (i + 1) (by omega) (by omega) (by omega)
/- a record that repeats itself -/
def rp (y : List Int) : Nat → List Int
  | 0 => []
  | i + 1 => rp y i ++ y
theorem rp_len (y : List Int) : ∀ i : Nat, (rp y i).length = i * y.length
  | 0 => by simp [rp]
  | i + 1 => by rw [rp, List.length_append, rp_len y i, Nat.add_mul, Nat.one_mul]
theorem rp_mem {y : List Int} {a : Int} : ∀ {i : Nat}, a ∈ rp y i → a ∈ y
  | 0, h => by cases h
  | i + 1, h => by
    rcases List.mem_append.1 h with h | h
    · exact rp_mem h
    · exact h
theorem rp_get (y : List Int) (hy : 0 < y.length) : ∀ (i k : Nat), k < i * y.length → vl (rp y i) k = vl y (k % y.length)
  | 0, k, h => by omega
  | i + 1, k, h => by
    unfold vl
    rw [rp]
    by_cases hk : k < i * y.length
    · rw [List.getElem?_append_left (by rw [rp_len]; exact hk)]
      exact rp_get y hy i k hk
    · rw [Nat.add_mul, Nat.one_mul] at h
      rw [List.getElem?_append_right (by rw [rp_len]; omega), rp_len]
      have : k % y.length = k - i * y.length := by
        have e : k = (k - i * y.length) + i * y.length := by omega
        rw [e, Nat.add_mul_mod_self_right, Nat.mod_eq_of_lt (by omega)]
        omega
      rw [this]
theorem fs_per {x : List Int} {p : Nat} {z : Nat → Int} (j : Nat) : ∀ i : Nat, (∀ i', i' < i → vl x i' = z (i' % p)) → fs x p i j = (fc p i j : Int) * z j
  | 0, _ => by simp [fs, fc]
  | i + 1, h => by
    rw [fs, fc, fs_per j i fun i' hi => h i' (by omega)]
    by_cases e : i % p = j
    · rw [if_pos e, if_pos e, h i (by omega), e, Int.natCast_add, Int.add_mul]
      simp
    · rw [if_neg e, if_neg e, Int.add_zero, Nat.add_zero]
theorem sumR_split (f : Nat → Int) (a : Nat) : ∀ b : Nat, sumR f (a + b) = sumR f a + sumR (fun j => f (a + j)) b
  | 0 => by simp [sumR]
  | b + 1 => by rw [← Nat.add_assoc, sumR, sumR, sumR_split f a b, Int.add_assoc]
theorem sumR_per {f : Nat → Int} {q : Nat} (h : ∀ c j : Nat, j < q → f (c * q + j) = f j) : ∀ c : Nat, sumR f (c * q) = (c : Int) * sumR f q
  | 0 => by simp [sumR]
  | c + 1 => by
    rw [Nat.add_mul, Nat.one_mul, sumR_split, sumR_per h c, sumR_eq (fun j hj => h c j hj), Int.natCast_add, Int.add_mul]
    simp
theorem ssq_per (y : List Int) (hy : 0 < y.length) (c m : Nat) (hc : 0 < c) : ssq (fo (rp y (c * m)) (c * y.length)) = (m : Int) * m * ((c : Int) * sumR (fun j => vl y (j % y.length) * vl y (j % y.length)) y.length) ∧ (0 < m → (rp y (c * m)).length / (c * y.length) = m) := by
  have hl : (rp y (c * m)).length = m * (c * y.length) := by rw [rp_len, Nat.mul_comm c m, Nat.mul_assoc]
  have hdiv : (rp y (c * m)).length / (c * y.length) = m := by rw [hl, Nat.mul_div_cancel m (Nat.mul_pos hc hy)]
  refine ⟨?_, fun _ => hdiv⟩
  have hmod : ∀ i, i % (c * y.length) % y.length = i % y.length := fun i => Nat.mod_mul_left_mod i c y.length
  have hper : ∀ j, j < c * y.length → fs (rp y (c * m)) (c * y.length) (m * (c * y.length)) j = (m : Int) * vl y (j % y.length) := fun j hj => by
    rw [fs_per (z := fun j => vl y (j % y.length)) j _ fun i' hi => ?_, fc_whole _ j m hj]
    rw [rp_get y hy _ _ (by rw [Nat.mul_comm c m, Nat.mul_assoc]; exact hi), hmod]
  rw [fo, fl, hdiv, ssq_range, sumR_eq (g := fun j => ((m : Int) * m) * (vl y (j % y.length) * vl y (j % y.length))) (fun j hj => by rw [hper j hj]; grind), sumR_mul,
    sumR_per (f := fun j => vl y (j % y.length) * vl y (j % y.length)) (q := y.length) (fun c j hj => by rw [Nat.mul_comm c, Nat.mul_add_mod])]
theorem cmp_per (y : List Int) (hy : 0 < y.length) (c m : Nat) (hc : 0 < c) (hm : 0 < m) : cmpS (rp y (c * m)) y.length (c * y.length) = 0 := by
  obtain ⟨a1, a2⟩ := ssq_per y hy c m hc
  obtain ⟨b1, b2⟩ := ssq_per y hy 1 (c * m) (by omega)
  rw [Nat.one_mul, Nat.one_mul] at b1 b2
  have b2' := b2 (Nat.mul_pos hc hm)
  unfold cmpS
  rw [a2 hm, b2', a1, b1]
  generalize sumR (fun j => vl y (j % y.length) * vl y (j % y.length)) y.length = Y
  have e : ((c * m : Nat) : Int) * ((c * m : Nat) : Int) * (((1 : Nat) : Int) * Y) * (m : Int) = (m : Int) * m * ((c : Int) * Y) * ((c * m : Nat) : Int) := by
    rw [Int.natCast_mul]
    grind
  rw [e]
  unfold cmpI
  rw [if_neg (by omega), if_neg (by omega)]
theorem sums5 (F : Nat) (hF : 1024 < F) (hw : works F = some true) (x : List Int) (hx : ∀ a ∈ x, -16384 ≤ a ∧ a ≤ 16384) (q n : Nat) (hq : 1 ≤ q ∧ q ≤ 16) (hql : q ≤ x.length) (hn : 1 ≤ n ∧ n ≤ 4) : ∀ (k N i : Nat), k = 2 * n - i → i ≤ 2 * n → k < N →
    law08_SearchSums_5 F N x q n i (rp (x.take q) i) = some true
  | k, 0, i, _, _, h => by omega
  | 0, N + 1, i, hk, hi, _ => by
    have hy : (x.take q).length = q := by rw [List.length_take]; omega
    have hi' : i = n * 2 := by omega
    have hi2 : i = 2 * n * 1 := by omega
    have hlen := rp_len (x.take q) i
    rw [hy] at hlen
    have hlb : i * q ≤ 8 * 16 := Nat.mul_le_mul (by omega) hq.2
    have hrec : isRec (rp (x.take q) i) = true := by
      rw [isRec, Bool.and_eq_true]
      exact ⟨decide_eq_true (by omega), List.all_eq_true.2 fun a ha => inR_iff.2 (hx a ((List.take_sublist q x).mem (rp_mem ha)))⟩
    have hnq : n * q ≤ i * q := Nat.mul_le_mul_right q (by omega)
    have hqi : 1 * q ≤ i * q := Nat.mul_le_mul_right q (by omega)
    have hnq1 : 1 ≤ n * q := Nat.mul_pos (by omega) (by omega)
    have e1 : errP (rp (x.take q) i) [(q : Int), ((n * q : Nat) : Int)] = 0 := by
      unfold errP
      rw [hrec]
      have : ([(q : Int), ((n * q : Nat) : Int)].all fun p => inR 1 p (rp (x.take q) i).length) = true := by
        simp only [List.all_cons, List.all_nil, Bool.and_true, Bool.and_eq_true]
        exact ⟨inR_iff.2 ⟨by omega, by omega⟩, inR_iff.2 ⟨by omega, by omega⟩⟩
      rw [this]
      rfl
    have e2 : errP (rp (x.take q) i) [(q : Int), ((2 * n * q : Nat) : Int)] = 0 := by
      unfold errP
      rw [hrec]
      have h2n : 2 * n * q = i * q := by rw [show 2 * n = i by omega]
      have : ([(q : Int), ((2 * n * q : Nat) : Int)].all fun p => inR 1 p (rp (x.take q) i).length) = true := by
        simp only [List.all_cons, List.all_nil, Bool.and_true, Bool.and_eq_true]
        exact ⟨inR_iff.2 ⟨by omega, by omega⟩, inR_iff.2 ⟨by omega, by omega⟩⟩
      rw [this]
      rfl
    have c1 : cmpS (rp (x.take q) i) q (n * q) = 0 := by
      have := cmp_per (x.take q) (by omega) n 2 (by omega) (by omega)
      rw [hy, ← hi'] at this
      exact this
    have c2 : cmpS (rp (x.take q) i) q (2 * n * q) = 0 := by
      have := cmp_per (x.take q) (by omega) (2 * n) 1 (by omega) (by omega)
      rw [hy, ← hi2] at this
      exact this
    have w1 : w64 ((2 : Int) * n) = ((2 * n : Nat) : Int) := by rw [w64_id (by omega) (by omega)]; omega
    have w2 : w64 ((n : Int) * q) = ((n * q : Nat) : Int) := by rw [← Int.natCast_mul, w64_id (by omega) (by omega)]
    have w3 : w64 (((2 * n : Nat) : Int) * q) = ((2 * n * q : Nat) : Int) := by
      have : 2 * n * q ≤ 8 * 16 := Nat.mul_le_mul (by omega) hq.2
      rw [← Int.natCast_mul, w64_id (by omega) (by omega)]
    rw [law08_SearchSums_5, w1, bif_neg' (by omega), w2, w3, Compare_eq F hF _ _ _ (by omega), bnd_eq, Compare_eq F hF _ _ _ (by omega), bnd_eq, e1, e2]
    simp only [beq_self_eq_true, cond_true, Int.toNat_natCast, c1, c2, law08_SearchSums_6, law08_SearchSums_7, law08_SearchSums_8, law08_SearchSums_9, hw, bnd_eq]
  | k + 1, N + 1, i, hk, hi, hN => by
    have hy : (x.take q).length = q := by rw [List.length_take]; omega
    have hlen := rp_len (x.take q) i
    rw [hy] at hlen
    have hlb : i * q ≤ 8 * 16 := Nat.mul_le_mul (by omega) hq.2
    have w1 : w64 ((2 : Int) * n) = ((2 * n : Nat) : Int) := by rw [w64_id (by omega) (by omega)]; omega
    rw [law08_SearchSums_5, w1, bif_pos' (by omega), subc0 x q hql rfl, bnd_eq, apd_ok (by omega) (by omega), bnd_eq, up (by omega)]
    exact sums5 F hF hw x hx q n hq hql hn k N (i + 1) (by omega) (by omega) (by omega)
theorem law_eq (F : Nat) (x : List Int) (p v2 : Int) (hl : x.length ≤ 9223372036854775807) (hF : x.length + 1200 < F) (hw : works F = some true) : law08_SearchSums F x p v2 = some true := by
  unfold law08_SearchSums
  rw [Fold_eq F (by omega) x p hl, bnd_eq]
  cases e : (errP x [p] == 0) with
  | false => simp only [Bool.not_false, cond_true, cond_false, List.length_nil, Int.natCast_zero, beq_self_eq_true, hw, bnd_eq, law08_SearchSums_1]
  | true =>
    have e' := e
    rw [beq_iff_eq] at e'
    obtain ⟨h1, h2, h3⟩ := errP_0 e'
    have hp := h3 p (by simp)
    have hrec : isRec x = true := by
      unfold errP at e'
      cases r : isRec x with
      | true => rfl
      | false => rw [r, cond_false] at e'; exact absurd e' (by decide)
    obtain ⟨n, rfl⟩ : ∃ n : Nat, p = n := ⟨p.toNat, by omega⟩
    have hd := div_in (n := x.length) (p := n)
    simp only [Bool.not_true, cond_false, cond_true, Int.toNat_natCast]
    rw [In_eq, bnd_eq, inR_iff.2 ⟨hp.1, hp.2⟩, Bool.not_true, cond_false]
    have g2 := sums2 F x h2 n (x.length / n * n) (by omega) (by omega) v2 n F 0 rfl (Nat.zero_le _) (by omega)
    have g3 := sums3 F x h2 h1 n (by omega) v2 (fl x n (x.length / n * n)) (fl_len _ _ _) (x.length / n * n) F 0 rfl (Nat.zero_le _) (by omega)
    rw [show tot x 0 = 0 from rfl, Int.sub_zero] at g3
    rw [sum_fs x n (by omega)] at g2
    refine (g2.trans g3).trans ?_
    have hm1 := Int.emod_nonneg v2 (show (4 : Int) ≠ 0 by decide)
    have hm2 := Int.emod_lt_of_pos v2 (show (0 : Int) < 4 by decide)
    obtain ⟨r, hr⟩ : ∃ r : Nat, v2 % 4 = r := ⟨(v2 % 4).toNat, by omega⟩
    have hq : min (n : Int) 16 = ((min n 16 : Nat) : Int) := by omega
    unfold law08_SearchSums_4
    rw [cond_false, Mod_eq F v2 4 (by decide) (by decide), bnd_eq, hr, hq, w64_id (n := 1 + (r : Int)) (by omega) (by omega), show (1 : Int) + r = ((r + 1 : Nat) : Int) by omega]
    exact sums5 F (by omega) hw x (isRec_ok hrec).2 (min n 16) (r + 1) (by omega) (by omega) (by omega) (2 * (r + 1)) F 0 rfl (Nat.zero_le _) (by omega)
end Go.Ev.SearchSums
