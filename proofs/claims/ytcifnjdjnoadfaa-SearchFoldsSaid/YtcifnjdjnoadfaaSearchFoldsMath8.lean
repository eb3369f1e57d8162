/- SearchFolds. -/
import Derived.Test.YtcifnjdjnoadfaaSearchFoldsMath7
namespace Go.Ev.SearchFolds
open Go Go.Ev Go.Proofs
set_option linter.unusedVariables false
theorem rfold1 (F : Nat) (x : List Int) (hx : smallV x) (hxl : x.length ≤ 1024) (p : Nat) (hp : 0 < p) : ∀ (k N i : Nat), k = x.length / p * p - i → i ≤ x.length / p * p → k < N →
    ref08_fold_1 F N x p i (fl x p i) = some (fl x p (x.length / p * p)) := by
  have hd := div_in (n := x.length) (p := p)
  have hq : x.length / p ≤ x.length := Nat.div_le_self _ _
  have e : Int.tdiv (x.length : Int) (p : Int) = ((x.length / p : Nat) : Int) := rfl
  generalize x.length / p = m at *
  intro k
  induction k with
  | zero =>
    intro N i hk hi hN
    obtain ⟨N, rfl⟩ : ∃ M, N = M + 1 := ⟨N - 1, by omega⟩
    rw [ref08_fold_1, nz_ok (by omega), bnd_eq, e, w64_id (n := (m : Int)) (by omega) (by omega), ← Int.natCast_mul, w64_id (n := ((m * p : Nat) : Int)) (by omega) (by omega), bif_neg' (by omega), show i = m * p by omega]
  | succ k ih =>
    intro N i hk hi hN
    obtain ⟨N, rfl⟩ : ∃ M, N = M + 1 := ⟨N - 1, by omega⟩
    obtain ⟨v, hv⟩ := get_lt (l := x) (i := i) (by omega)
    have hml := Nat.mod_lt i hp
    have hb := fs_le hx p (i % p) i (by omega)
    have hvb := hx i
    rw [show vl x i = v by rw [vl, hv]; rfl] at hvb
    have e2 : Int.tmod (i : Int) (p : Int) = ((i % p : Nat) : Int) := rfl
    rw [ref08_fold_1, nz_ok (by omega), bnd_eq, e, w64_id (n := (m : Int)) (by omega) (by omega), ← Int.natCast_mul, w64_id (n := ((m * p : Nat) : Int)) (by omega) (by omega), bif_pos' (by omega), bnd_eq, e2, idx_nat, fl_get x p i _ hml, bnd_eq, idx_nat, hv, bnd_eq, inn_at (by rw [fl_len]; exact hml), bnd_eq,
      w64_id (n := fs x p i (i % p) + v) (by omega) (by omega), upd_at (by rw [fl_len]; exact hml), bnd_eq, fl_step x p i hp hv, up (by omega)]
    exact ih N (i + 1) (by omega) (by omega) (by omega)
theorem rfold_eq (F : Nat) (hF : 1024 < F) (x : List Int) (hx : smallV x) (hxl : x.length ≤ 1024) (p : Nat) (hp : 0 < p) (hpl : p ≤ x.length) : ref08_fold F x p = some (fo x p) := by
  have hd := div_in (n := x.length) (p := p)
  unfold ref08_fold
  rw [mk_ok (by omega) (by omega), bnd_eq, ← fl_zero x p]
  exact rfold1 F x hx hxl p hp (x.length / p * p) F 0 rfl (Nat.zero_le _) (by omega)
theorem rpow1 (F : Nat) (l : List Int) (hl : l.length ≤ 1000000) : ∀ (k N i : Nat) (s : Int), k = l.length - i → i ≤ l.length → k < N → 0 ≤ s → s + ssq (l.drop i) ≤ 4611686018427387904 →
    ref08_power_1 F N l 0 l.length s i = some (s + ssq (l.drop i))
  | k, 0, i, s, _, _, h, _, _ => by omega
  | 0, N + 1, i, s, hk, hi, _, _, _ => by
    rw [ref08_power_1, Int.zero_add, w64_id (n := (l.length : Int)) (by omega) (by omega), bif_neg' (by omega : ¬ ((i : Int) < l.length)), List.drop_of_length_le (by omega), ssq, Int.add_zero]
  | k + 1, N + 1, i, s, hk, hi, hN, h0, hs => by
    obtain ⟨a, ha⟩ := get_lt (l := l) (i := i) (by omega)
    rw [drop_get ha, ssq] at hs
    have h1 := sq_nn a
    have h2 := ssq_nn (l.drop (i + 1))
    rw [ref08_power_1, Int.zero_add, w64_id (n := (l.length : Int)) (by omega) (by omega), bif_pos' (by omega : ((i : Int) < l.length)), idx_nat, ha, bnd_eq, bnd_eq, w64_id (n := a * a) (by omega) (by omega), w64_id (n := s + a * a) (by omega) (by omega), up (by omega), rpow1 F l hl k N (i + 1) _ (by omega) (by omega) (by omega) (by omega) (by omega), drop_get ha, ssq, Int.add_assoc]
theorem rpower_eq (F : Nat) (l : List Int) (n : Nat) (hn : l.length = n) (hl : l.length ≤ 1000000) (hF : l.length < F) (hs : ssq l ≤ 4611686018427387904) : ref08_power F l 0 n = some (ssq l) := by
  subst hn
  unfold ref08_power
  have := rpow1 F l hl l.length F 0 0 rfl (Nat.zero_le _) hF (Int.le_refl _) (by rw [List.drop_zero]; omega)
  rw [List.drop_zero, Int.zero_add] at this
  exact this
theorem rcompare_eq (F : Nat) (hF : 1024 < F) (x : List Int) (hx : smallV x) (hxl : x.length ≤ 1024) (p q : Nat) (hp : 0 < p ∧ p ≤ x.length) (hq : 0 < q ∧ q ≤ x.length) : ref08_compare F x p q = some (cmpS x p q) := by
  have e1 : Int.tdiv (x.length : Int) (p : Int) = ((x.length / p : Nat) : Int) := rfl
  have e2 : Int.tdiv (x.length : Int) (q : Int) = ((x.length / q : Nat) : Int) := rfl
  have s1 := sqfo hx hxl p
  have s2 := sqfo hx hxl q
  have l1 : (fo x p).length = p := fl_len _ _ _
  have l2 : (fo x q).length = q := fl_len _ _ _
  have d1 : x.length / p ≤ 1024 := Nat.le_trans (Nat.div_le_self _ _) hxl
  have d2 : x.length / q ≤ 1024 := Nat.le_trans (Nat.div_le_self _ _) hxl
  have p1 := prod_in (ssq_nn (fo x p)) s1 d2
  have p2 := prod_in (ssq_nn (fo x q)) s2 d1
  unfold ref08_compare
  rw [rfold_eq F hF x hx hxl p hp.1 hp.2, bnd_eq, rfold_eq F hF x hx hxl q hq.1 hq.2, bnd_eq, nz_ok (by omega), bnd_eq, nz_ok (by omega), bnd_eq, rpower_eq F _ p l1 (by omega) (by omega) (by omega), bnd_eq, rpower_eq F _ q l2 (by omega) (by omega) (by omega), bnd_eq, e1, e2]
  unfold cmpS
  generalize x.length / p = a at *
  generalize x.length / q = b at *
  rw [w64_id (n := (a : Int)) (by omega) (by omega), w64_id (n := (b : Int)) (by omega) (by omega), w64_id (n := ssq (fo x p) * (b : Int)) (by omega) (by omega), w64_id (n := ssq (fo x q) * (a : Int)) (by omega) (by omega)]
  generalize ssq (fo x p) * (b : Int) = A at *
  generalize ssq (fo x q) * (a : Int) = B at *
  rw [w64_id (n := A - B) (by omega) (by omega)]
  unfold cmpI
  by_cases h : A < B
  · rw [bif_pos' (by omega), if_pos h]
  · rw [bif_neg' (by omega), if_neg h]
    by_cases h2 : B < A
    · rw [if_pos h2, show min (A - B) 1 = 1 by omega]
    · rw [if_neg h2, show min (A - B) 1 = 0 by omega]
theorem rperiod_eq (F : Nat) (hF : 1024 < F) (x : List Int) (p : Int) (hl : x.length ≤ 9223372036854775807) (hFl : x.length < F) : ref08_period F x p = some (errP x [p]) := by
  unfold ref08_period errP
  rw [rrecord_eq F x hFl hl, bnd_eq]
  cases isRec x with
  | false => rfl
  | true =>
    rw [Bool.not_true, cond_false, In_eq, bnd_eq]
    simp only [List.all_cons, List.all_nil, Bool.and_true]
    cases inR 1 p x.length <;> rfl
theorem errP_2 (x : List Int) (p q : Int) : errP x [p, q] = bif errP x [p] == 0 then errP x [q] else errP x [p] := by
  unfold errP
  simp only [List.all_cons, List.all_nil, Bool.and_true]
  cases isRec x <;> cases inR 1 p x.length <;> cases inR 1 q x.length <;> rfl
theorem rFold_eq (F : Nat) (hF : 1024 < F) (x : List Int) (p : Int) (hl : x.length ≤ 9223372036854775807) (hFl : x.length < F) : ref08_Fold F x p = some (bif errP x [p] == 0 then fo x p.toNat else [], errP x [p]) := by
  unfold ref08_Fold
  rw [rperiod_eq F hF x p hl hFl, bnd_eq]
  cases e : (errP x [p] == 0) with
  | false => rfl
  | true =>
    have e' := e
    rw [beq_iff_eq] at e'
    obtain ⟨h1, h2, h3⟩ := errP_0 e'
    have hp := h3 p (by simp)
    obtain ⟨n, rfl⟩ : ∃ n : Nat, p = n := ⟨p.toNat, by omega⟩
    rw [Bool.not_true, cond_false, rfold_eq F hF x h2 h1 n (by omega) (by omega), bnd_eq, e', Int.toNat_natCast]
    rfl
theorem rCompare_eq (F : Nat) (hF : 1024 < F) (x : List Int) (p q : Int) (hl : x.length ≤ 9223372036854775807) (hFl : x.length < F) : ref08_Compare F x p q = some (bif errP x [p, q] == 0 then cmpS x p.toNat q.toNat else 0, errP x [p, q]) := by
  unfold ref08_Compare
  rw [rperiod_eq F hF x p hl hFl, bnd_eq, errP_2]
  cases e : (errP x [p] == 0) with
  | false =>
    simp only [Bool.not_false, cond_true, cond_false, e]
  | true =>
    simp only [Bool.not_true, cond_true, cond_false]
    rw [rperiod_eq F hF x q hl hFl, bnd_eq]
    cases e2 : (errP x [q] == 0) with
    | false => simp only [Bool.not_false, cond_true, cond_false]
    | true =>
      rw [beq_iff_eq] at e e2
      obtain ⟨h1, h2, h3⟩ := errP_0 e
      have hp := h3 p (by simp)
      have hq := (errP_0 e2).2.2 q (by simp)
      obtain ⟨n, rfl⟩ : ∃ n : Nat, p = n := ⟨p.toNat, by omega⟩
      obtain ⟨k, rfl⟩ : ∃ k : Nat, q = k := ⟨q.toNat, by omega⟩
      rw [Bool.not_true, cond_false, rcompare_eq F hF x h2 h1 n k (by omega) (by omega), bnd_eq, e2, Int.toNat_natCast, Int.toNat_natCast]
      rfl
/- no strength is greater than the power of the record -/
theorem cs_uv (x : List Int) (p j : Nat) (u v : Int) : ∀ i : Nat, 0 ≤ u * u * fq x p i j - 2 * u * v * fs x p i j + (fc p i j : Int) * (v * v)
  | 0 => by simp [fq, fs, fc]
  | i + 1 => by
    have h1 := cs_uv x p j u v i
    have h2 := sq_nn (u * vl x i - v)
    rw [fq, fs, fc]
    split
    · have e : u * u * (fq x p i j + vl x i * vl x i) - 2 * u * v * (fs x p i j + vl x i) + ((fc p i j + 1 : Nat) : Int) * (v * v) = (u * u * fq x p i j - 2 * u * v * fs x p i j + (fc p i j : Int) * (v * v)) + (u * vl x i - v) * (u * vl x i - v) := by
        rw [Int.natCast_add]
        grind
      rw [e]
      omega
    · simp only [Int.add_zero, Nat.add_zero]
      exact h1
theorem cs (x : List Int) (p j i : Nat) : fs x p i j * fs x p i j ≤ (fc p i j : Int) * fq x p i j := by
  by_cases h0 : fc p i j = 0
  · have h1 := cs_uv x p j 1 (fs x p i j) i
    have h2 := cs_uv x p j 1 (2 * fs x p i j) i
    have h3 := sq_nn (fs x p i j)
    rw [h0] at h1 h2 ⊢
    -- no sample at all: both are 0
    have hz : ∀ i, fc p i j = 0 → fs x p i j = 0 := by
      intro i
      induction i with
      | zero => intro _; rfl
      | succ i ih =>
        intro h
        rw [fc] at h
        rw [fs]
        split at h
        · omega
        · rename_i hne
          rw [ih (by omega), if_neg hne]
          rfl
    rw [hz i h0]
    simp
  · have h1 := cs_uv x p j (fc p i j : Int) (fs x p i j) i
    generalize hc : (fc p i j : Int) = c at *
    generalize fs x p i j = s at *
    generalize fq x p i j = q at *
    have e : c * c * q - 2 * c * s * s + c * (s * s) = c * (c * q - s * s) := by grind
    rw [e] at h1
    have hc0 : 0 < c := by omega
    have := Int.nonneg_of_mul_nonneg_right h1 hc0
    omega
theorem sum_fq (x : List Int) (p : Nat) (hp : 0 < p) : ∀ i : Nat, sumR (fq x p i) p = ssq (x.take i)
  | 0 => by
    have e : sumR (fq x p 0) p = sumR (fun _ => 0) p := sumR_eq fun j _ => rfl
    rw [e, sumR_const, Int.mul_zero]
    rfl
  | i + 1 => by
    have e : sumR (fq x p (i + 1)) p = sumR (fun j => fq x p i j + (if i % p = j then vl x i * vl x i else 0)) p := sumR_eq fun j _ => rfl
    rw [e, sumR_add, sum_fq x p hp i, sumR_one, if_pos (Nat.mod_lt i hp), List.take_add_one, ssq_app]
    unfold vl
    cases h : x[i]? with
    | none => simp [ssq]
    | some a => simp [ssq]
theorem ssq_take (x : List Int) (i : Nat) : ssq (x.take i) ≤ ssq x := by
  have : ssq x = ssq (x.take i) + ssq (x.drop i) := by rw [← ssq_app, List.take_append_drop]
  have := ssq_nn (x.drop i)
  omega
theorem strength_le (x : List Int) (p : Nat) (hp : 0 < p) : ssq (fo x p) ≤ ssq x * ((x.length / p : Nat) : Int) := by
  unfold fo fl
  generalize x.length / p = m at *
  rw [ssq_range]
  refine Int.le_trans (sumR_le (g := fun j => (m : Int) * fq x p (m * p) j) fun j hj => ?_) ?_
  · have := cs x p j (m * p)
    rw [fc_whole p j m hj] at this
    exact this
  · rw [sumR_mul, sum_fq x p hp, Int.mul_comm]
    exact Int.mul_le_mul_of_nonneg_right (ssq_take x _) (by omega)
theorem ssq_small {x : List Int} (h : ∀ a ∈ x, -16384 ≤ a ∧ a ≤ 16384) : ssq x ≤ (x.length : Int) * 268435456 := by
  induction x with
  | nil => simp [ssq]
  | cons a x ih =>
    have h1 := ih fun b hb => h b (List.mem_cons_of_mem _ hb)
    have h2 := sq_le (M := 16384) (h a List.mem_cons_self)
    rw [ssq, List.length_cons, Int.natCast_add, Int.add_mul]
    have h3 : ((16384 * 16384 : Nat) : Int) = 268435456 := by decide
    have h4 : ((1 : Nat) : Int) * 268435456 = 268435456 := by decide
    rw [h3] at h2
    rw [h4]
    omega
/- the search for the greatest strength -/
def m (x : List Int) (p : Nat) : Int := ((x.length / p : Nat) : Int)
def st (x : List Int) (p : Nat) : S_search_strength := ⟨ssq (fo x p), m x p⟩
theorem m_pos {x : List Int} {p : Nat} (hp : 0 < p) (hpl : p ≤ x.length) : 1 ≤ m x p := by
  have : 1 ≤ x.length / p := (Nat.le_div_iff_mul_le hp).2 (by omega)
  unfold m
  omega
theorem mul_lt {a b c d e : Int} (h1 : a < b * c) (hd : 1 ≤ d) : a * d < b * d * c := by
  have := Int.mul_lt_mul_of_pos_right h1 (show 0 < d by omega)
  have e : b * c * d = b * d * c := by grind
  omega
theorem per2 (F : Nat) (hF : 1024 < F) (x : List Int) (hx : smallV x) (hxl : x.length ≤ 1024) (to b : Nat) (hto : to ≤ x.length) (hb : 0 < b ∧ b ≤ x.length) (hmax : ssq (fo x b) = ssq x * m x b) : ∀ (k N p : Nat), k = to + 1 - p → 0 < p → p ≤ to + 1 → k < N →
    ref08_Period_1 F N x to b p = some ((b : Int), 0)
  | k, 0, p, _, _, _, h => by omega
  | 0, N + 1, p, hk, h0, hp, _ => by rw [ref08_Period_1, bif_neg' (by omega)]
  | k + 1, N + 1, p, hk, h0, hp, hN => by
    have hle := strength_le x p h0
    have hmb := m_pos hb.1 hb.2
    have hmp := m_pos (x := x) h0 (by omega)
    have : ¬ (0 : Int) < cmpS x p b := by
      have h1 : ssq (fo x p) * m x b ≤ ssq (fo x b) * m x p := by
        have h2 : ssq (fo x p) * m x b ≤ ssq x * m x p * m x b := Int.mul_le_mul_of_nonneg_right hle (by omega)
        have e : ssq x * m x p * m x b = ssq x * m x b * m x p := by grind
        rw [hmax]
        omega
      show ¬ (0 : Int) < cmpI (ssq (fo x p) * m x b) (ssq (fo x b) * m x p)
      unfold cmpI
      split
      · decide
      · rw [if_neg (by omega)]
        decide
    rw [ref08_Period_1, bif_pos' (by omega), rcompare_eq F hF x hx hxl p b (by omega) hb, bnd_eq, bif_neg' this]
    unfold ref08_Period_2
    rw [up (by omega)]
    exact per2 F hF x hx hxl to b hto hb hmax k N (p + 1) (by omega) (by omega) (by omega) (by omega)
theorem scmpP (F : Nat) (x : List Int) (hx : smallV x) (hxl : x.length ≤ 1024) (hP : 0 ≤ ssq x ∧ ssq x ≤ 274877906944) (p : Nat) : search_strength_compare F (st x p) ⟨ssq x, 1⟩ = some (cmpI (ssq (fo x p)) (ssq x * m x p)) := by
  have h1 := sqfo hx hxl p
  have h0 := ssq_nn (fo x p)
  have h2 := prod_in (a := ssq x) hP.1 (by omega) (m := x.length / p) (Nat.le_trans (Nat.div_le_self _ _) hxl)
  have := scmp_eq F (st x p) ⟨ssq x, 1⟩ ⟨by show _ ≤ ssq (fo x p) * 1; omega, by show ssq (fo x p) * 1 ≤ _; omega⟩ ⟨by show _ ≤ ssq x * ((x.length / p : Nat) : Int); omega, by show ssq x * ((x.length / p : Nat) : Int) ≤ _; omega⟩
  rw [this]
  show some (cmpI (ssq (fo x p) * 1) (ssq x * m x p)) = _
  rw [Int.mul_one]
theorem cmpI_0 {a b : Int} : (cmpI a b == 0) = decide (a = b) := by
  unfold cmpI
  by_cases h : a < b
  · rw [if_pos h, decide_eq_false (by omega)]; rfl
  · rw [if_neg h]
    by_cases h2 : b < a
    · rw [if_pos h2, decide_eq_false (by omega)]; rfl
    · rw [if_neg h2, decide_eq_true (by omega)]; rfl
theorem per1 (F : Nat) (hF : 1024 < F) (x : List Int) (hx : smallV x) (hxl : x.length ≤ 1024) (hP : 0 ≤ ssq x ∧ ssq x ≤ 274877906944) (to : Nat) (hto : to ≤ x.length) : ∀ (k N N' p b : Nat), k = to + 1 - p → 0 < p → p ≤ to + 1 → k < N → k < N' → 0 < b → b ≤ x.length → ssq (fo x b) < ssq x * m x b →
    ∃ r : Int, search_strongest_1 F N x to b p (st x b) ⟨ssq x, 1⟩ = some r ∧ ref08_Period_1 F N' x to b p = some (r, 0)
  | k, 0, _, p, b, _, _, _, h, _, _, _, _ => by omega
  | k, _, 0, p, b, _, _, _, _, h, _, _, _ => by omega
  | 0, N + 1, N' + 1, p, b, hk, h0, hp, _, _, _, _, _ => by
    refine ⟨b, ?_, ?_⟩
    · rw [search_strongest_1, bif_neg' (by omega)]
      rfl
    · rw [ref08_Period_1, bif_neg' (by omega)]
  | k + 1, N + 1, N' + 1, p, b, hk, h0, hp, hN, hN', hb1, hb2, hlt => by
    have hmb := m_pos hb1 hb2
    have hmp := m_pos (x := x) h0 (by omega)
    have hle := strength_le x p h0
    have hle' : ssq (fo x p) ≤ ssq x * m x p := hle
    have hs : search_strongest_1 F (N + 1) x to b p (st x b) ⟨ssq x, 1⟩ = bif decide (ssq (fo x p) = ssq x * m x p) then some (p : Int) else bif decide ((0 : Int) < cmpS x p b) then search_strongest_1 F N x to p ((p + 1 : Nat) : Int) (st x p) ⟨ssq x, 1⟩ else search_strongest_1 F N x to b ((p + 1 : Nat) : Int) (st x b) ⟨ssq x, 1⟩ := by
      have hsc : search_strength_compare F (st x p) (st x b) = some (cmpS x p b) := scmp2 F hx hxl p b
      have hst : search_strengthOf F x p = some (st x p) := strength_eq F hF x hx hxl p h0 (by omega)
      rw [search_strongest_1, bif_pos' (by omega), hst, bnd_eq, scmpP F x hx hxl hP p, bnd_eq, cmpI_0, hsc]
      unfold search_strongest_2 search_strongest_3
      rw [bnd_eq, up (by omega)]
    have hr : ref08_Period_1 F (N' + 1) x to b p = bif decide ((0 : Int) < cmpS x p b) then ref08_Period_1 F N' x to p ((p + 1 : Nat) : Int) else ref08_Period_1 F N' x to b ((p + 1 : Nat) : Int) := by
      rw [ref08_Period_1, bif_pos' (by omega), rcompare_eq F hF x hx hxl p b (by omega) (by omega), bnd_eq]
      unfold ref08_Period_2
      rw [up (by omega)]
    have hcmp : cmpS x p b = cmpI (ssq (fo x p) * m x b) (ssq (fo x b) * m x p) := rfl
    by_cases he : ssq (fo x p) = ssq x * m x p
    · have hgt : (0 : Int) < cmpS x p b := by
        have h1 : ssq (fo x b) * m x p < ssq (fo x p) * m x b := by
          have h2 := Int.mul_lt_mul_of_pos_right hlt (show 0 < m x p by omega)
          have e : ssq x * m x b * m x p = ssq x * m x p * m x b := by grind
          rw [he]
          omega
        rw [hcmp]
        unfold cmpI
        rw [if_neg (by omega), if_pos h1]
        decide
      refine ⟨p, ?_, ?_⟩
      · rw [hs, decide_eq_true he, cond_true]
      · rw [hr, decide_eq_true hgt, cond_true]
        exact per2 F hF x hx hxl to p hto (by omega) he k N' (p + 1) (by omega) (by omega) (by omega) (by omega)
    · rw [hs, hr, decide_eq_false he, cond_false]
      by_cases hgt : (0 : Int) < cmpS x p b
      · rw [decide_eq_true hgt, cond_true, cond_true]
        exact per1 F hF x hx hxl hP to hto k N N' (p + 1) p (by omega) (by omega) (by omega) (by omega) (by omega) h0 (by omega) (by omega)
      · rw [decide_eq_false hgt, cond_false, cond_false]
        exact per1 F hF x hx hxl hP to hto k N N' (p + 1) b (by omega) (by omega) (by omega) (by omega) (by omega) hb1 hb2 hlt
theorem period_ex (F : Nat) (hF : 1026 < F) (x : List Int) (hxs : ∀ a ∈ x, -16384 ≤ a ∧ a ≤ 16384) (hxl : x.length ≤ 1024) (fr to : Nat) (h0 : 0 < fr) (hft : fr ≤ to) (hto : to ≤ x.length) : ∃ r : Int, search_strongest F x fr to = some r ∧ ref08_Period_1 F F x to fr fr = some (r, 0) := by
  have hx := smallV_of hxs
  have hP0 := ssq_nn x
  have hP1 := ssq_small hxs
  have hm1 : (x.length : Int) * 268435456 ≤ 1024 * 268435456 := Int.mul_le_mul_of_nonneg_right (by omega) (by decide)
  have hP : 0 ≤ ssq x ∧ ssq x ≤ 274877906944 := ⟨hP0, by omega⟩
  have hmf := m_pos (x := x) h0 (by omega)
  have hle' : ssq (fo x fr) ≤ ssq x * m x fr := strength_le x fr h0
  obtain ⟨G, rfl⟩ : ∃ G, F = G + 1 := ⟨F - 1, by omega⟩
  have hz : cmpS x fr fr = 0 := by
    unfold cmpS cmpI
    rw [if_neg (by omega), if_neg (by omega)]
  have hr : ref08_Period_1 (G + 1) (G + 1) x to fr fr = ref08_Period_1 (G + 1) G x to fr ((fr + 1 : Nat) : Int) := by
    rw [ref08_Period_1, bif_pos' (by omega), rcompare_eq (G + 1) (by omega) x hx hxl fr fr (by omega) (by omega), bnd_eq, hz, bif_neg' (by decide)]
    unfold ref08_Period_2
    rw [up (by omega)]
  have hmle : m x fr ≤ 1024 := by
    have : x.length / fr ≤ x.length := Nat.div_le_self _ _
    unfold m
    omega
  have hs0 : search_strength_compare (G + 1) (st x fr) ⟨-1, 1⟩ = some 1 := by
    have h1 := sqfo hx hxl fr
    have h2 := ssq_nn (fo x fr)
    rw [scmp_eq (G + 1) (st x fr) ⟨-1, 1⟩ ⟨by show _ ≤ ssq (fo x fr) * 1; omega, by show ssq (fo x fr) * 1 ≤ _; omega⟩ ⟨by show _ ≤ -1 * m x fr; omega, by show -1 * m x fr ≤ _; omega⟩]
    show some (cmpI (ssq (fo x fr) * 1) (-1 * m x fr)) = _
    unfold cmpI
    rw [if_neg (by omega), if_pos (by omega)]
  have hs : search_strongest (G + 1) x fr to = bif decide (ssq (fo x fr) = ssq x * m x fr) then some (fr : Int) else search_strongest_1 (G + 1) G x to fr ((fr + 1 : Nat) : Int) (st x fr) ⟨ssq x, 1⟩ := by
    unfold search_strongest
    have hst : search_strengthOf (G + 1) x fr = some (st x fr) := strength_eq (G + 1) (by omega) x hx hxl fr h0 (by omega)
    rw [power_eq (G + 1) x (by omega) (by omega) (by omega), bnd_eq, search_strongest_1, bif_pos' (by omega), hst, bnd_eq, scmpP (G + 1) x hx hxl hP fr, bnd_eq, cmpI_0, hs0]
    unfold search_strongest_2 search_strongest_3
    rw [bnd_eq, up (by omega), decide_eq_true (by decide : (0:Int) < 1), cond_true]
  by_cases he : ssq (fo x fr) = ssq x * m x fr
  · refine ⟨fr, ?_, ?_⟩
    · rw [hs, decide_eq_true he, cond_true]
    · rw [hr]
      exact per2 (G + 1) (by omega) x hx hxl to fr hto (by omega) he (to + 1 - (fr + 1)) G (fr + 1) rfl (by omega) (by omega) (by omega)
  · rw [hs, hr, decide_eq_false he, cond_false]
    exact per1 (G + 1) (by omega) x hx hxl hP to hto (to + 1 - (fr + 1)) G G (fr + 1) fr rfl (by omega) (by omega) (by omega) (by omega) h0 (by omega) (by omega)
theorem same_bif (F : Nat) (x : List Int) (p : Int) (hF : 1026 < F) : ref00_SameInts F (bif errP x [p] == 0 then fo x p.toNat else []) (bif errP x [p] == 0 then fo x p.toNat else []) = some true := by
  cases e : (errP x [p] == 0) with
  | false => exact same_self F _ (by simp) (by show 0 < F; omega)
  | true =>
    rw [beq_iff_eq] at e
    obtain ⟨h1, h2, h3⟩ := errP_0 e
    have hp := h3 p (by simp)
    have hl : (fo x p.toNat).length = p.toNat := fl_len _ _ _
    exact same_self F _ (by simp only [cond_true, hl]; omega) (by simp only [cond_true, hl]; omega)
theorem law_eq (F : Nat) (x : List Int) (p q : Int) (hl : x.length ≤ 9223372036854775807) (hF : x.length + 1200 < F) (hw : works F = some true) : law08_SearchFolds F x p q = some true := by
  unfold law08_SearchFolds
  rw [Fold_eq F (by omega) x p hl, bnd_eq, rFold_eq F (by omega) x p hl (by omega), bnd_eq, same_bif F x p (by omega)]
  simp only [bnd_eq, Bool.not_true, cond_false, beq_self_eq_true, law08_SearchFolds_1]
  rw [Compare_eq F (by omega) x p q hl, bnd_eq, rCompare_eq F (by omega) x p q hl (by omega)]
  simp only [bnd_eq, Bool.not_true, cond_false, beq_self_eq_true, law08_SearchFolds_2]
  have hfin : ∀ e : Int × Int, (bif (e.1 == e.1) then law08_SearchFolds_3 F (e.2 == e.2) else law08_SearchFolds_3 F false) = some true := fun e => by
    simp only [beq_self_eq_true, cond_true, law08_SearchFolds_3, law08_SearchFolds_4, hw, bnd_eq]
  suffices h : ∃ e, search_Period F x p q = some e ∧ ref08_Period F x p q = some e by
    obtain ⟨e, h1, h2⟩ := h
    rw [h1, bnd_eq, h2, bnd_eq]
    exact hfin e
  unfold search_Period ref08_Period
  rw [checkP_eq F (by omega) x [p, q] hl (by simp), bnd_eq, rperiod_eq F (by omega) x p hl (by omega), bnd_eq, errP_2]
  cases e : (errP x [p] == 0) with
  | false => exact ⟨(0, errP x [p]), by simp only [cond_false, e, Bool.not_false, cond_true], by simp only [Bool.not_false, cond_true]⟩
  | true =>
    simp only [cond_true, Bool.not_true, cond_false]
    rw [rperiod_eq F (by omega) x q hl (by omega), bnd_eq]
    cases e2 : (errP x [q] == 0) with
    | false => exact ⟨(0, errP x [q]), by simp only [Bool.not_false, cond_true], by simp only [Bool.not_false, cond_true]⟩
    | true =>
      simp only [Bool.not_true, cond_false]
      by_cases h : q < p
      · exact ⟨(0, 8), by rw [bif_pos' h], by rw [bif_pos' h]⟩
      · rw [bif_neg' h, bif_neg' h]
        rw [beq_iff_eq] at e e2
        have hrec : isRec x = true := by
          unfold errP at e
          cases r : isRec x with
          | true => rfl
          | false => rw [r, cond_false] at e; exact absurd e (by decide)
        obtain ⟨h1, h2, h3⟩ := errP_0 e
        have hp := h3 p (by simp)
        have hq := (errP_0 e2).2.2 q (by simp)
        obtain ⟨n, rfl⟩ : ∃ n : Nat, p = n := ⟨p.toNat, by omega⟩
        obtain ⟨k, rfl⟩ : ∃ k : Nat, q = k := ⟨q.toNat, by omega⟩
        obtain ⟨r, g1, g2⟩ := period_ex F (by omega) x (isRec_ok hrec).2 h1 n k (by omega) (by omega) (by omega)
        exact ⟨(r, 0), by rw [g1]; rfl, g2⟩
end Go.Ev.SearchFolds
