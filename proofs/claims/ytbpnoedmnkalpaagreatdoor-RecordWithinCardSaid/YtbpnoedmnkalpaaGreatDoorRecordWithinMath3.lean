/- RecordWithin. -/
import Derived.Test.YtbpnoedmnkalpaaGreatDoorRecordWithinMath2
namespace Go.Ev.RecordWithin
open Go Go.Ev Go.Proofs
set_option linter.unusedVariables false
theorem Mod_eq (F : Nat) (a b : Int) (h1 : 1 ≤ b) (h2 : b ≤ 4611686018427387904) : ref00_Mod F a b = some (a % b) := by
  have hm1 := Int.emod_nonneg a (show b ≠ 0 by omega)
  have hm2 := Int.emod_lt_of_pos a (show 0 < b by omega)
  unfold ref00_Mod ref00_Mod_1
  rw [bif_neg' (by omega), nz_ok (by omega), bnd_eq, Int.tmod_eq_emod]
  have hb : (b.natAbs : Int) = b := by omega
  by_cases h : 0 ≤ a ∨ b ∣ a
  · rw [if_pos h, Int.natCast_zero, Int.sub_zero, bif_neg' (by omega)]
  · rw [if_neg h, hb, bif_pos' (by omega), show a % b - b + b = a % b by omega, w64_id (by omega) (by omega)]
theorem Down_eq (F : Nat) (a b : Int) (h1 : 1 ≤ b) (h2 : b ≤ 4611686018427387904) (ha : -4611686018427387904 ≤ a ∧ a ≤ 4611686018427387904) : ref00_Down F a b = some (Int.fdiv a b) := by
  have hm1 := Int.emod_nonneg a (show b ≠ 0 by omega)
  have hm2 := Int.emod_lt_of_pos a (show 0 < b by omega)
  have hb : (b.natAbs : Int) = b := by omega
  have hdl : -4611686018427387904 ≤ a / b := by
    rw [Int.le_ediv_iff_mul_le (by omega)]
    have : (-4611686018427387904 : Int) * b ≤ -4611686018427387904 * 1 := Int.mul_le_mul_of_nonpos_left (by omega) (by omega)
    omega
  have hdu : a / b ≤ 4611686018427387904 := by
    by_cases h0 : 0 ≤ a
    · have := Int.ediv_le_self b h0; omega
    · have : a / b < 0 := Int.ediv_neg_of_neg_of_pos (by omega) (by omega)
      omega
  unfold ref00_Down ref00_Down_1
  rw [nz_ok (by omega), bnd_eq, bnd_eq, Int.tmod_eq_emod, Int.tdiv_eq_ediv, Int.fdiv_eq_ediv_of_nonneg _ (by omega)]
  by_cases h : 0 ≤ a ∨ b ∣ a
  · rw [if_pos h, if_pos h, Int.natCast_zero, Int.sub_zero, bif_neg' (by omega), Int.add_zero, w64_id (by omega) (by omega)]
  · rw [if_neg h, if_neg h, hb, bif_pos' (by omega), Int.sign_eq_one_of_pos (by omega), w64_id (n := a / b + 1) (by omega) (by omega), w64_id (by omega) (by omega)]
    congr 1
    omega
theorem Up_eq (F : Nat) (a b : Int) (h1 : 1 ≤ b) (h2 : b ≤ 4611686018427387904) (ha : -1000000000000000 ≤ a ∧ a ≤ 1000000000000000) (hd : -1000000000000000 ≤ Int.fdiv (-a) b ∧ Int.fdiv (-a) b ≤ 1000000000000000) : ref00_Up F a b = some (-(Int.fdiv (-a) b)) := by
  unfold ref00_Up
  rw [w64_id (n := -a) (by omega) (by omega), Down_eq F (-a) b h1 h2 (by omega), bnd_eq, w64_id (by omega) (by omega)]
theorem pick_in (F : Nat) (v : List Int) (hv : v.length ≤ 9223372036854775807) (i : Nat) (lo hi : Int) (h : -1048576 ≤ lo ∧ lo ≤ hi ∧ hi ≤ 1048576) : ∃ p, law05_pick F v i lo hi = some p ∧ lo ≤ p ∧ p ≤ hi := by
  unfold law05_pick
  by_cases h0 : v.length = 0
  · rw [show (((v.length : Int) == 0)) = true by simp [h0]]
    exact ⟨lo, rfl, by omega, by omega⟩
  · have hz : ((v.length : Int) == 0) = false := by rw [beq_eq_false_iff_ne]; omega
    have ht : Int.tmod (i : Int) (v.length : Int) = ((i % v.length : Nat) : Int) := by
      rw [Int.tmod_eq_emod_of_nonneg (by omega)]
      simp
    obtain ⟨x, hx⟩ := get_lt (l := v) (i := i % v.length) (Nat.mod_lt _ (by omega))
    have hm1 := Int.emod_nonneg x (show hi - lo + 1 ≠ 0 by omega)
    have hm2 := Int.emod_lt_of_pos x (show 0 < hi - lo + 1 by omega)
    rw [hz, bif_f', nz_ok (by omega), bnd_eq, ht, idx_nat, hx, bnd_eq, w64_id (n := hi - lo) (by omega) (by omega), w64_id (n := hi - lo + 1) (by omega) (by omega), Mod_eq F x _ (by omega) (by omega), bnd_eq, w64_id (by omega) (by omega)]
    exact ⟨_, rfl, by omega, by omega⟩
/-- A tap, one that is exact within it, one between. -/
structure R3 (x e w : S_api_Tap) : Prop where
  eq : e.High = e.Low
  wh : w.High = e.Low
  lo : x.Low ≤ w.Low
  le : w.Low ≤ e.Low
  hi : e.Low ≤ x.High
inductive Rel3 : List S_api_Tap → List S_api_Tap → List S_api_Tap → Prop
  | nil : Rel3 [] [] []
  | cons {x e w l le lw} : R3 x e w → Rel3 l le lw → Rel3 (x :: l) (e :: le) (w :: lw)
theorem Rel3.snoc {x e w : S_api_Tap} (h : R3 x e w) : ∀ {l le lw : List S_api_Tap}, Rel3 l le lw → Rel3 (l ++ [x]) (le ++ [e]) (lw ++ [w])
  | _, _, _, .nil => .cons h .nil
  | _, _, _, .cons h1 h2 => .cons h1 (Rel3.snoc h h2)
def exP (x : S_api_Tap) (y : Int) : Int := x.Low * y
theorem one_le {x e w : S_api_Tap} (h : R3 x e w) (y : Int) : lowP x y ≤ lowP w y ∧ lowP w y ≤ exP e y ∧ exP e y ≤ highP w y ∧ highP w y ≤ highP x y ∧ lowP e y = exP e y ∧ highP e y = exP e y := by
  have h1 := h.lo
  have h2 := h.le
  have h3 := h.hi
  have h4 := h.eq
  have h5 := h.wh
  unfold lowP highP exP
  rw [h4, h5]
  by_cases hy : 0 ≤ y
  · have m1 := Int.mul_le_mul_of_nonneg_right h1 hy
    have m2 := Int.mul_le_mul_of_nonneg_right h2 hy
    have m3 := Int.mul_le_mul_of_nonneg_right h3 hy
    omega
  · have m1 := Int.mul_le_mul_of_nonpos_right h1 (show y ≤ 0 by omega)
    have m2 := Int.mul_le_mul_of_nonpos_right h2 (show y ≤ 0 by omega)
    have m3 := Int.mul_le_mul_of_nonpos_right h3 (show y ≤ 0 by omega)
    omega
theorem sums_le : ∀ {l e w : List S_api_Tap}, Rel3 l e w → ∀ r : List Int, sumT lowP l r ≤ sumT lowP w r ∧ sumT lowP w r ≤ sumT exP e r ∧ sumT exP e r ≤ sumT highP w r ∧ sumT highP w r ≤ sumT highP l r ∧ sumT lowP e r = sumT exP e r ∧ sumT highP e r = sumT exP e r
  | _, _, _, .nil, r => by simp [sumT]
  | _, _, _, .cons h1 h2, [] => by simp [sumT]
  | _, _, _, .cons h1 h2, y :: r => by
    have a := one_le h1 y
    have b := sums_le h2 r
    simp only [sumT]
    omega
theorem rel_len : ∀ {l e w : List S_api_Tap}, Rel3 l e w → e.length = l.length ∧ w.length = l.length
  | _, _, _, .nil => ⟨rfl, rfl⟩
  | _, _, _, .cons _ h => by
    obtain ⟨h1, h2⟩ := rel_len h
    rw [List.length_cons, List.length_cons, List.length_cons, h1, h2]
    exact ⟨rfl, rfl⟩
theorem rel_tap : ∀ {l e w : List S_api_Tap}, Rel3 l e w → (∀ x ∈ l, tapB x = true) → (∀ x ∈ e, tapB x = true ∧ x.High = x.Low) ∧ ∀ x ∈ w, tapB x = true
  | _, _, _, .nil, _ => ⟨fun _ h => (nomatch h), fun _ h => (nomatch h)⟩
  | _, _, _, .cons (x := x) (e := e) (w := w) h h2, hl => by
    obtain ⟨g1, g2⟩ := rel_tap h2 fun x hx => hl x (List.mem_cons_of_mem _ hx)
    have hx := tapB_iff.1 (hl x (by simp))
    have h1 := h.lo
    have h3 := h.le
    have h4 := h.hi
    have h5 := h.eq
    have h6 := h.wh
    refine ⟨fun y hy => ?_, fun y hy => ?_⟩
    · rcases List.mem_cons.1 hy with rfl | hy
      · exact ⟨tapB_iff.2 (by omega), h5⟩
      · exact g1 y hy
    · rcases List.mem_cons.1 hy with rfl | hy
      · exact tapB_iff.2 (by omega)
      · exact g2 y hy
theorem rel_model {m : S_api_Model} {e w : List S_api_Tap} (hm : modelB m = true) (h : Rel3 m.Taps e w) : modelB ⟨e, m.Shift⟩ = true ∧ modelB ⟨w, m.Shift⟩ = true := by
  unfold modelB at hm ⊢
  simp only [Bool.and_eq_true, List.all_eq_true] at hm ⊢
  obtain ⟨h1, h2⟩ := rel_len h
  obtain ⟨h3, h4⟩ := rel_tap h hm.2.2
  rw [h1, h2]
  exact ⟨⟨hm.1, hm.2.1, fun x hx => (h3 x hx).1⟩, ⟨hm.1, hm.2.1, h4⟩⟩
/-- Within: what is checked at one place. -/
theorem fdiv_le {a b : Int} {sh : Nat} (h : a ≤ b) : Int.fdiv a (2 ^ sh) ≤ Int.fdiv b (2 ^ sh) := by
  have hp : (0 : Int) < 2 ^ sh := Int.pow_pos (by omega)
  rw [Int.fdiv_eq_ediv_of_nonneg _ (by omega), Int.fdiv_eq_ediv_of_nonneg _ (by omega)]
  exact Int.ediv_le_ediv hp h
theorem ceil_le {a : Int} {sh : Nat} : -(Int.fdiv (-a) (2 ^ sh)) - Int.fdiv a (2 ^ sh) ≤ 1 := by
  have hp : (0 : Int) < 2 ^ sh := Int.pow_pos (by omega)
  rw [Int.fdiv_eq_ediv_of_nonneg _ (by omega), Int.fdiv_eq_ediv_of_nonneg _ (by omega)]
  have h1 := Int.emod_add_mul_ediv a (2 ^ sh)
  have h2 := Int.emod_add_mul_ediv (-a) (2 ^ sh)
  have h3 := Int.emod_lt_of_pos a hp
  have h4 := Int.emod_lt_of_pos (-a) hp
  have h5 : (2 ^ sh : Int) * (a / 2 ^ sh + (-a) / 2 ^ sh) = -(a % 2 ^ sh + (-a) % 2 ^ sh) := by rw [Int.mul_add]; omega
  have h6 : -2 < a / 2 ^ sh + (-a) / 2 ^ sh := by
    apply Classical.byContradiction
    intro hc
    have : (2 ^ sh : Int) * (a / 2 ^ sh + (-a) / 2 ^ sh) ≤ 2 ^ sh * (-2) := Int.mul_le_mul_of_nonneg_left (by omega) (by omega)
    omega
  omega
theorem sum_in : ∀ (l : List S_api_Tap) (r : List Int), (∀ x ∈ l, tapB x = true) → (∀ y ∈ r, numB y = true) → -(8796093022208 * l.length) ≤ sumT exP l r ∧ sumT exP l r ≤ 8796093022208 * l.length
  | [], r, _, _ => by simp [sumT]
  | x :: l, [], _, _ => by simp only [sumT, List.length_cons]; omega
  | x :: l, y :: r, h1, h2 => by
    have a := (prod_in (h1 x (by simp)) (h2 y (by simp))).1
    have b := sum_in l r (fun z hz => h1 z (by simp [hz])) (fun z hz => h2 z (by simp [hz]))
    simp only [sumT, List.length_cons]
    unfold exP
    unfold exP at b
    omega
theorem exSnoc (e : List S_api_Tap) : ∀ (r : List Int) (t : Nat) (x : S_api_Tap) (y : Int), e[t]? = some x → r[t]? = some y → sumT exP (e.take (t + 1)) r = sumT exP (e.take t) r + x.Low * y := by
  induction e with
  | nil => intro r t x y h; simp at h
  | cons z e ih =>
    intro r t x y h1 h2
    cases r with
    | nil => simp at h2
    | cons u r =>
      cases t with
      | zero =>
        simp only [List.getElem?_cons_zero, Option.some.injEq] at h1 h2
        subst h1; subst h2
        simp [sumT, exP]
      | succ t =>
        simp only [List.getElem?_cons_succ] at h1 h2
        rw [List.take_succ_cons, List.take_succ_cons, sumT, sumT, ih r t x y h1 h2, Int.add_assoc]
section
variable {m : S_api_Model} {e w : List S_api_Tap} {s : List Int}
theorem lw7 (F : Nat) (hd : List Int → Int → List S_api_Tap → Int → Int → List S_api_Tap → List S_api_Tap → List S_api_Tap → List S_api_Tap → Option Bool) (hm : modelB m = true) (hs : seriesB s = true) (hr : Rel3 m.Taps e w) (z : Int) (i : Nat) (hi : i < s.length)
    (hnext : hd s ((i + 1 : Nat) : Int) m.Taps m.Shift z (strainM m s) e (strainM ⟨e, m.Shift⟩ s) (strainM ⟨w, m.Shift⟩ s) = some true) :
    ∀ (k N t : Nat), k = min e.length (i + 1) - t → t ≤ min e.length (i + 1) → k < N → law05_RecordWithin_7 F hd N s i (sumT exP (e.take t) (s.take (i + 1)).reverse) t m.Taps m.Shift z (strainM m s) e (strainM ⟨e, m.Shift⟩ s) (strainM ⟨w, m.Shift⟩ s) = some true
  | k, 0, t, _, _, h => by omega
  | 0, N + 1, t, hk, ht, _ => by
    obtain ⟨m1, m2⟩ := rel_model hm hr
    have hm' := hm
    unfold modelB at hm'
    simp only [Bool.and_eq_true, List.all_eq_true] at hm'
    have b1 := inR_iff.1 hm'.1
    have b2 := inR_iff.1 hm'.2.1
    have hs' := hs
    unfold seriesB at hs'
    simp only [Bool.and_eq_true, decide_eq_true_eq, List.all_eq_true] at hs'
    obtain ⟨l1, l2⟩ := rel_len hr
    obtain ⟨t1, t2⟩ := rel_tap hr hm'.2.2
    have hsum : sumT exP (e.take t) (s.take (i + 1)).reverse = sumT exP e (s.take (i + 1)).reverse := sumT_take _ _ _ _ (by rw [List.length_reverse, List.length_take]; omega)
    have hexit : law05_RecordWithin_7 F hd (N + 1) s i (sumT exP (e.take t) (s.take (i + 1)).reverse) t m.Taps m.Shift z (strainM m s) e (strainM ⟨e, m.Shift⟩ s) (strainM ⟨w, m.Shift⟩ s) = law05_RecordWithin_8 F hd (law05_RecordWithin_7 F hd N) s i (sumT exP e (s.take (i + 1)).reverse) t false m.Taps m.Shift z (strainM m s) e (strainM ⟨e, m.Shift⟩ s) (strainM ⟨w, m.Shift⟩ s) := by
      rw [law05_RecordWithin_7, hsum]
      by_cases h : t < e.length
      · rw [bif_pos' (by omega), decide_eq_false (by omega)]
      · rw [bif_neg' (by omega)]
    rw [hexit]
    obtain ⟨q1, q2, q3, q4, q5, q6⟩ := sums_le hr (s.take (i + 1)).reverse
    have hin := sum_in e (s.take (i + 1)).reverse (fun x hx => (t1 x hx).1) (fun y hy => hs'.2 y (List.mem_of_mem_take (List.mem_reverse.1 hy)))
    generalize hS : sumT exP e (s.take (i + 1)).reverse = S at q1 q2 q3 q4 q5 q6 hin
    have hp : (1 : Int) ≤ 2 ^ m.Shift.toNat := Int.pow_pos (by omega)
    have hp2 : (2 : Int) ^ m.Shift.toNat ≤ 2 ^ 20 := by
      have := Nat.pow_le_pow_right (show 0 < 2 by omega) (show m.Shift.toNat ≤ 20 by omega)
      exact_mod_cast this
    have hp3 : (2 : Int) ^ 20 = 1048576 := by decide
    have esh : ∀ {β : Type} (f : Nat → Option β), bnd (shn m.Shift) f = f m.Shift.toNat := by
      intro β f
      have : shn m.Shift = some m.Shift.toNat := by
        obtain ⟨n, hn⟩ : ∃ n : Nat, m.Shift = n := ⟨m.Shift.toNat, by omega⟩
        rw [hn]; rfl
      rw [this, bnd_eq]
    have emin : min m.Shift.toNat (IntKind.bits .i64) = m.Shift.toNat := by show min m.Shift.toNat 64 = _; omega
    have hg : ∀ m' : S_api_Model, m'.Shift = m.Shift → (strainM m' s)[i]? = some (bandM m'.Taps m.Shift.toNat (s.take (i + 1))) := by
      intro m' hm'
      unfold strainM
      rw [List.getElem?_map, List.getElem?_range (by omega), hm']
      rfl
    have f1 := fdiv_in (a := S) (sh := m.Shift.toNat) (by omega)
    have f2 := fdiv_in (a := -S) (sh := m.Shift.toNat) (by omega)
    have c := ceil_le (a := S) (sh := m.Shift.toNat)
    unfold law05_RecordWithin_8
    rw [bif_f', esh, esh, emin, w64_id (n := 1 * 2 ^ m.Shift.toNat) (by omega) (by omega), Int.one_mul, Down_eq F S _ hp (by omega) (by omega), bnd_eq, Up_eq F S _ hp (by omega) (by omega) f2, bnd_eq, idx_nat, hg m rfl, bnd_eq]
    have g1 : (bandM m.Taps m.Shift.toNat (s.take (i + 1))).Low ≤ Int.fdiv S (2 ^ m.Shift.toNat) := fdiv_le (by omega)
    have g2 : -(Int.fdiv (-S) (2 ^ m.Shift.toNat)) ≤ (bandM m.Taps m.Shift.toNat (s.take (i + 1))).High := by
      have := fdiv_le (a := -(sumT highP m.Taps (s.take (i + 1)).reverse)) (b := -S) (sh := m.Shift.toNat) (by omega)
      unfold bandM
      simp only
      omega
    have g3 : bandM e m.Shift.toNat (s.take (i + 1)) = ⟨Int.fdiv S (2 ^ m.Shift.toNat), -(Int.fdiv (-S) (2 ^ m.Shift.toNat))⟩ := by
      unfold bandM
      rw [q5, q6]
    have g4 : (bandM m.Taps m.Shift.toNat (s.take (i + 1))).Low ≤ (bandM w m.Shift.toNat (s.take (i + 1))).Low := fdiv_le q1
    have g5 : (bandM w m.Shift.toNat (s.take (i + 1))).High ≤ (bandM m.Taps m.Shift.toNat (s.take (i + 1))).High := by
      have := fdiv_le (a := -(sumT highP m.Taps (s.take (i + 1)).reverse)) (b := -(sumT highP w (s.take (i + 1)).reverse)) (sh := m.Shift.toNat) (by omega)
      unfold bandM
      simp only
      omega
    have g6 : (bandM w m.Shift.toNat (s.take (i + 1))).Low ≤ Int.fdiv S (2 ^ m.Shift.toNat) := fdiv_le q2
    have g7 : -(Int.fdiv (-S) (2 ^ m.Shift.toNat)) ≤ (bandM w m.Shift.toNat (s.take (i + 1))).High := by
      have := fdiv_le (a := -(sumT highP w (s.take (i + 1)).reverse)) (b := -S) (sh := m.Shift.toNat) (by omega)
      unfold bandM
      simp only
      omega
    rw [bif_neg' (by omega), bnd_eq, bif_neg' (by omega), idx_nat, hg ⟨e, m.Shift⟩ rfl, bnd_eq, g3]
    simp only [beq_self_eq_true, Bool.and_self, Bool.not_true, cond_false]
    rw [w64_id (by omega) (by omega), bif_neg' (by omega), idx_nat, hg ⟨w, m.Shift⟩ rfl, bnd_eq]
    simp only [bnd_eq]
    rw [bif_neg' (by omega), bif_neg' (by omega), bif_neg' (by omega), decide_eq_false (by omega)]
    unfold law05_RecordWithin_9
    rw [bif_f', up (by omega)]
    exact hnext
  | k + 1, N + 1, t, hk, ht, hN => by
    have hm' := hm
    unfold modelB at hm'
    simp only [Bool.and_eq_true, List.all_eq_true] at hm'
    have b1 := inR_iff.1 hm'.1
    have hs' := hs
    unfold seriesB at hs'
    simp only [Bool.and_eq_true, decide_eq_true_eq, List.all_eq_true] at hs'
    obtain ⟨l1, l2⟩ := rel_len hr
    obtain ⟨t1, t2⟩ := rel_tap hr hm'.2.2
    obtain ⟨x, hx⟩ := get_lt (l := e) (i := t) (by omega)
    obtain ⟨y, hy⟩ := get_lt (l := s) (i := i - t) (by omega)
    have hyr : (s.take (i + 1)).reverse[t]? = some y := by
      have hlen : (s.take (i + 1)).length = i + 1 := by rw [List.length_take]; omega
      rw [List.getElem?_reverse (by omega), hlen, List.getElem?_take_of_lt (by omega), show i + 1 - 1 - t = i - t by omega]
      exact hy
    have p := (prod_in (t1 x (List.mem_of_getElem? hx)).1 (hs'.2 y (List.mem_of_getElem? hy))).1
    have hin := sum_in (e.take t) (s.take (i + 1)).reverse (fun x hx => (t1 x (List.mem_of_mem_take hx)).1) (fun y hy => hs'.2 y (List.mem_of_mem_take (List.mem_reverse.1 hy)))
    have hlt : (e.take t).length ≤ 16 := by rw [List.length_take]; omega
    have hstep := exSnoc e (s.take (i + 1)).reverse t x y hx hyr
    rw [law05_RecordWithin_7, bif_pos' (by omega), decide_eq_true (by omega)]
    unfold law05_RecordWithin_8
    rw [bif_t', idx_nat, hx, bnd_eq, w64_id (n := (i : Int) - t) (by omega) (by omega), show (i : Int) - (t : Int) = ((i - t : Nat) : Int) by omega, idx_nat, hy, bnd_eq, w64_id (n := x.Low * y) (by omega) (by omega), w64_id (n := sumT exP (e.take t) (s.take (i + 1)).reverse + x.Low * y) (by omega) (by omega), ← hstep, up (by omega)]
    exact lw7 F hd hm hs hr z i hi hnext k N (t + 1) (by omega) (by omega) (by omega)
theorem lw6 (F : Nat) (hF : 100 < F) (hw : works F = some true) (hm : modelB m = true) (hs : seriesB s = true) (hr : Rel3 m.Taps e w) (z : Int) : ∀ (k N i : Nat), k = s.length - i → i ≤ s.length → k < N → law05_RecordWithin_6 F N s i m.Taps m.Shift z (strainM m s) e (strainM ⟨e, m.Shift⟩ s) (strainM ⟨w, m.Shift⟩ s) = some true
  | k, 0, i, _, _, h => by omega
  | 0, N + 1, i, hk, hi, _ => by
    rw [law05_RecordWithin_6, bif_neg' (by omega), hw]
    rfl
  | k + 1, N + 1, i, hk, hi, hN => by
    have hm' := hm
    unfold modelB at hm'
    simp only [Bool.and_eq_true] at hm'
    have b1 := inR_iff.1 hm'.1
    obtain ⟨l1, l2⟩ := rel_len hr
    rw [law05_RecordWithin_6, bif_pos' (by omega)]
    exact lw7 F _ hm hs hr z i (by omega) (lw6 F hF hw hm hs hr z k N (i + 1) (by omega) (by omega) (by omega)) _ F 0 rfl (by omega) (by omega)
theorem lw2 (F : Nat) (hF : 4300 < F) (hw : works F = some true) (hm : modelB m = true) (hs : seriesB s = true) (v : List Int) (hv : v.length ≤ 9223372036854775807) (z : Int) : ∀ (k N i : Nat) (e w : List S_api_Tap), k = m.Taps.length - i → i ≤ m.Taps.length → k < N → Rel3 (m.Taps.take i) e w → law05_RecordWithin_2 F N s v i m.Taps m.Shift m.Shift m.Shift (strainM m s) e w = some true
  | k, 0, i, e, w, _, _, h, _ => by omega
  | 0, N + 1, i, e, w, hk, hi, _, hr => by
    rw [List.take_of_length_le (by omega)] at hr
    obtain ⟨m1, m2⟩ := rel_model hm hr
    have hl : ∀ m', (strainM m' s).length = s.length := by intro m'; unfold strainM; simp
    have hs' := hs
    unfold seriesB at hs'
    simp only [Bool.and_eq_true, decide_eq_true_eq] at hs'
    rw [law05_RecordWithin_2, bif_neg' (by omega), Strain_eq F (by omega), bnd_eq, Strain_eq F (by omega), bnd_eq]
    unfold strainR law05_RecordWithin_3 law05_RecordWithin_4 law05_RecordWithin_5
    rw [m1, m2, hs]
    simp only [cond_true, beq_self_eq_true, Bool.not_true, cond_false, hl]
    exact lw6 F (by omega) hw hm hs hr m.Shift s.length F 0 rfl (by omega) (by omega)
  | k + 1, N + 1, i, e, w, hk, hi, hN, hr => by
    have hm' := hm
    unfold modelB at hm'
    simp only [Bool.and_eq_true, List.all_eq_true] at hm'
    have b1 := inR_iff.1 hm'.1
    obtain ⟨l1, l2⟩ := rel_len hr
    rw [List.length_take] at l1 l2
    obtain ⟨x, hx⟩ := get_lt (l := m.Taps) (i := i) (by omega)
    have tx := tapB_iff.1 (hm'.2.2 x (List.mem_of_getElem? hx))
    obtain ⟨p, hp, p1, p2⟩ := pick_in F v hv i x.Low x.High (by omega)
    obtain ⟨q, hq, q1, q2⟩ := pick_in F v hv (i + 1) x.Low p (by omega)
    rw [law05_RecordWithin_2, bif_pos' (by omega), idx_nat, hx, bnd_eq, bnd_eq, hp, bnd_eq, apd_ok (by simp; omega) (by omega), bnd_eq, bnd_eq, up (by omega), hq, bnd_eq, apd_ok (by simp; omega) (by omega), bnd_eq]
    refine lw2 F hF hw hm hs v hv z k N (i + 1) _ _ (by omega) (by omega) (by omega) ?_
    rw [List.take_add_one, hx]
    exact Rel3.snoc ⟨rfl, rfl, q1, q2, p2⟩ hr
end
theorem law_eq (F : Nat) (m : S_api_Model) (s v : List Int) (hF : 4300 < F) (hv : v.length ≤ 9223372036854775807) (hw : works F = some true) : law05_RecordWithin F m s v = some true := by
  unfold law05_RecordWithin
  rw [Strain_eq F (by omega), bnd_eq]
  unfold strainR law05_RecordWithin_1
  cases e1 : modelB m with
  | false => simp only [cond_false, hw]; rfl
  | true =>
    cases e2 : seriesB s with
    | false => simp only [cond_false, cond_true, hw]; rfl
    | true =>
      have hl : (strainM m s).length = s.length := by unfold strainM; simp
      have hm' := e1
      unfold modelB at hm'
      simp only [Bool.and_eq_true] at hm'
      have b1 := inR_iff.1 hm'.1
      simp only [cond_true, beq_self_eq_true, Bool.not_true, cond_false, hl]
      exact lw2 F hF hw e1 e2 v hv m.Shift m.Taps.length F 0 [] [] rfl (by omega) (by omega) (by rw [List.take_zero]; exact .nil)
end Go.Ev.RecordWithin
