/- The specification's rings and fits. -/
import Derived.Test.YtkmmplbbefijaaaGreatDoorSkyRingsMath10
namespace Go.Ev.SkyRings
open Go Go.Ev Go.Proofs
set_option linter.unusedVariables false
theorem rminus_eq (F : Nat) (v w : S__3_int) : ref09_minus F v w = sky_vector_minus F v w := rfl
theorem rdot_eq (F : Nat) (v w : S__3_int) : ref09_dot F v w = sky_vector_dot F v w := rfl
theorem signed (x u : Int) (hx : -16777216 ≤ x ∧ x ≤ 16777216) (hu : 1 ≤ u ∧ u ≤ 1000) : (bif decide (x < 0) then w64 (-(w64 (w64 (x * x) * u))) else w64 (w64 (x * x) * u)) = sq x * u ∧ -281474976710656000 ≤ sq x * u ∧ sq x * u ≤ 281474976710656000 := by
  have h1 := mul_in hx hx (by omega) (by omega)
  have h0 : 0 ≤ x * x := by
    by_cases h : 0 ≤ x
    · exact Int.mul_nonneg h h
    · have := Int.mul_nonneg (show 0 ≤ -x by omega) (show 0 ≤ -x by omega)
      rw [Int.neg_mul_neg] at this
      exact this
  have h2 : x * x * u ≤ 281474976710656 * 1000 := Int.mul_le_mul (by omega) hu.2 (by omega) (by omega)
  have h3 : 0 ≤ x * x * u := Int.mul_nonneg h0 (by omega)
  rw [w64_id (n := x * x) (by omega) (by omega), w64_id (n := x * x * u) (by omega) (by omega), w64_id (n := -(x * x * u)) (by omega) (by omega)]
  unfold sq
  cases decide (x < 0)
  · exact ⟨rfl, by simp only [cond_false]; omega, by simp only [cond_false]; omega⟩
  · simp only [cond_true, Int.neg_mul]
    exact ⟨trivial, by omega, by omega⟩
theorem sgn_le (F : Nat) (a b : Int) : ∃ r, ref09_rooted_2 F a b = some r ∧ (r ≤ 0 ↔ a ≤ b) ∧ (0 ≤ r ↔ b ≤ a) := by
  unfold ref09_rooted_2
  by_cases h1 : a < b
  · rw [bif_pos' h1]; exact ⟨_, rfl, by omega, by omega⟩
  · rw [bif_neg' h1]
    by_cases h2 : b < a
    · rw [bif_pos' h2]; exact ⟨_, rfl, by omega, by omega⟩
    · rw [bif_neg' h2]; exact ⟨_, rfl, by omega, by omega⟩
theorem sq_le_sq {y : Int} (h : -4000000 ≤ y ∧ y ≤ 4000000) : -16000000000000 ≤ sq y ∧ sq y ≤ 16000000000000 := by
  have hb := sq_top h
  unfold sq
  cases decide (y < 0)
  · simp only [cond_false]; omega
  · simp only [cond_true]; omega
theorem clamp_le {x u y : Int} (hu : 1 ≤ u ∧ u ≤ 1000) (hy : -4000000 ≤ y ∧ y ≤ 4000000) : (sq (max (-16777216) (min x 16777216)) * u ≤ sq y ↔ sq x * u ≤ sq y) ∧ (sq y ≤ sq (max (-16777216) (min x 16777216)) * u ↔ sq y ≤ sq x * u) := by
  have hs := sq_le_sq hy
  by_cases h1 : x < -16777216
  · have e : max (-16777216) (min x 16777216) = -16777216 := by omega
    have m : sq x * u ≤ sq (-16777216) * u := Int.mul_le_mul_of_nonneg_right (sq_mono (by omega)) (by omega)
    have c : sq (-16777216) * u ≤ -281474976710656 := by
      have : sq (-16777216) = -281474976710656 := by decide
      rw [this]; omega
    rw [e]
    omega
  · by_cases h2 : 16777216 < x
    · have e : max (-16777216) (min x 16777216) = 16777216 := by omega
      have m : sq 16777216 * u ≤ sq x * u := Int.mul_le_mul_of_nonneg_right (sq_mono (by omega)) (by omega)
      have c : 281474976710656 ≤ sq 16777216 * u := by
        have : sq 16777216 = 281474976710656 := by decide
        rw [this]; omega
      rw [e]
      omega
    · have e : max (-16777216) (min x 16777216) = x := by omega
      rw [e]
      exact ⟨Iff.rfl, Iff.rfl⟩
theorem rooted_eq (F : Nat) (x : Int) {u y : Int} (hu : 1 ≤ u ∧ u ≤ 1000) (hy : -4000000 ≤ y ∧ y ≤ 4000000) : ∃ r, ref09_rooted F x u y = some r ∧ (r ≤ 0 ↔ sq x * u ≤ sq y) ∧ (0 ≤ r ↔ sq y ≤ sq x * u) := by
  have hc := clamp_le (x := x) hu hy
  have hy2 := sq_top hy
  have hcl : -16777216 ≤ max (-16777216) (min x 16777216) ∧ max (-16777216) (min x 16777216) ≤ 16777216 := by omega
  have e0 : ref00_Clamp F x (-16777216) 16777216 = some (max (-16777216) (min x 16777216)) := rfl
  unfold ref09_rooted
  rw [e0, bnd_eq]
  generalize hcv : max (-16777216) (min x 16777216) = c at hc hcl
  obtain ⟨e1, b1, b2⟩ := signed c u hcl hu
  have e2 : ∀ v, ref09_rooted_1 F y v (w64 (y * y)) = ref09_rooted_2 F v (sq y) := by
    intro v
    unfold ref09_rooted_1 sq
    rw [w64_id (n := y * y) (by omega) (by omega), w64_id (n := -(y * y)) (by omega) (by omega)]
    cases decide (y < 0) <;> rfl
  have e3 : (bif decide (c < 0) then ref09_rooted_1 F y (w64 (-(w64 (w64 (c * c) * u)))) (w64 (y * y)) else ref09_rooted_1 F y (w64 (w64 (c * c) * u)) (w64 (y * y))) = ref09_rooted_2 F (sq c * u) (sq y) := by
    rw [e2, e2, ← e1]
    cases decide (c < 0) <;> rfl
  rw [e3]
  obtain ⟨r, h1, h2, h3⟩ := sgn_le F (sq c * u) (sq y)
  exact ⟨r, h1, by rw [h2]; exact hc.1, by rw [h3]; exact hc.2⟩
theorem on_eq (F : Nat) (a b : S_api_Site) {d : S__3_int} (ha : inV 65536 a.Place = true) (hb : inV 65536 b.Place = true) (hd : okDir d) (n s : Int) (hn : -4611686018427387904 ≤ n ∧ n ≤ 4611686018427387904) (hs : 0 ≤ s ∧ s ≤ 4294967296) : ref09_on F a b d n s = some (aboutB (dotM d d) (dotM (subM a.Place b.Place) d) n s) := by
  have h1 := dot_eq F (sub_in ha hb) hd.1 (by omega) (by omega)
  have h2 := dot_eq F hd.1 hd.1 (by omega) (by omega)
  have hu : 1 ≤ dotM d d ∧ dotM d d ≤ 1000 := ⟨hd.2.1, by have := hd.2.2; omega⟩
  have hy : -4000000 ≤ dotM (subM a.Place b.Place) d ∧ dotM (subM a.Place b.Place) d ≤ 4000000 := by omega
  obtain ⟨r1, e1, l1, _⟩ := rooted_eq F (n - s) hu hy
  obtain ⟨r2, e2, _, l2⟩ := rooted_eq F (n + s) hu hy
  unfold ref09_on ref09_on_1 aboutB
  rw [rminus_eq, minus_eq F ha hb (by omega) (by omega), bnd_eq, rdot_eq, h1.1, bnd_eq, rdot_eq, h2.1, bnd_eq, w64_id (n := n - s) (by omega) (by omega), w64_id (n := n + s) (by omega) (by omega), e1, bnd_eq, decide_eq_decide.2 l1, bnd_eq, e2, bnd_eq, decide_eq_decide.2 l2]
  cases decide (sq (n - s) * dotM d d ≤ sq (dotM (subM a.Place b.Place) d)) <;> rfl
theorem placed_eq (F : Nat) (hF : 20 < F) (l : List S_api_Site) (hl : l.length ≤ 9223372036854775807) (hlF : l.length < F) (n : Int) : ref09_placed F l n 0 = some (bif netB l then (bif inR 1 n 8 then 0 else 91) else 90) := by
  unfold ref09_placed
  rw [RCheckNet_eq F hF l hl hlF, bnd_eq]
  cases netB l with
  | false => rfl
  | true =>
    rw [bif_t', bif_t']
    show (bnd (ref09_there F n 0) fun r26 => _) = _
    rw [there_eq, bnd_eq]
    have : cellB n 0 = inR 1 n 8 := by
      unfold cellB
      cases e : inR 1 n 8 with
      | false => rfl
      | true =>
        rcases eight (inR_iff.1 e) with rfl | rfl | rfl | rfl | rfl | rfl | rfl | rfl <;> rfl
    rw [this]
    cases inR 1 n 8 <;> rfl
theorem idx_site {l : List S_api_Site} {i : Int} (h : 0 ≤ i ∧ i < l.length) : ∃ x, idx l i = some x ∧ x.Place = plc l i := by
  obtain ⟨j, rfl⟩ : ∃ j : Nat, i = j := ⟨i.toNat, by omega⟩
  obtain ⟨x, hx⟩ := get_lt (l := l) (i := j) (by omega)
  refine ⟨x, by rw [idx_nat, hx], ?_⟩
  unfold plc
  rw [show ((j : Nat) : Int).toNat = j by omega, hx]
theorem rr5 (F : Nat) (l : List S_api_Site) (hl : ∀ x ∈ l, inV 65536 x.Place = true) (n a b df s : Int) (ha : 0 ≤ a ∧ a < l.length) (hb : 0 ≤ b ∧ b < l.length) (hdf : -1099511627776 ≤ df ∧ df ≤ 1099511627776) (hs : 0 ≤ s ∧ s ≤ 131072) (hn : 1 ≤ n ∧ n ≤ 8) (C : Nat) (hC : (C : Int) = 6 * (n * n)) (hC2 : C ≤ 384) : ∀ (k N i : Nat) (acc : List Int), k = C - i → i ≤ C → k < N → acc.length ≤ i → ref09_Ring_5 F N l n a b df s i acc = some (acc ++ ((List.range' i k).map fun i : Nat => (i : Int)).filter (fun c => ringB l a b df s (dirM n c)), 0)
  | k, 0, i, acc, _, _, h, _ => by omega
  | 0, N + 1, i, acc, hk, hi, _, _ => by
    rw [ref09_Ring_5, rcells_eq F hn, bnd_eq, bif_neg' (by omega)]
    simp
  | k + 1, N + 1, i, acc, hk, hi, hN, hacc => by
    have hc : (1 ≤ n ∧ n ≤ 8) ∧ (0 : Int) ≤ i ∧ (i : Int) < 6 * (n * n) := ⟨hn, by omega, by omega⟩
    obtain ⟨x, hx, hx'⟩ := idx_site (l := l) ha
    obtain ⟨y, hy, hy'⟩ := idx_site (l := l) hb
    have px := plc_in hl a
    have py := plc_in hl b
    rw [← hx'] at px
    rw [← hy'] at py
    rw [ref09_Ring_5, rcells_eq F hn, bnd_eq, bif_pos' (by omega), hx, bnd_eq, hy, bnd_eq, rdirection_eq F hc, bnd_eq, on_eq F x y px py (dir_le hc) df s (by omega) (by omega), bnd_eq, hx', hy', List.range'_succ, List.map_cons]
    unfold ref09_Ring_6
    rw [up (by omega)]
    show (bif ringB l a b df s (dirM n i) then _ else _) = _
    cases e : ringB l a b df s (dirM n i) with
    | false => rw [bif_f', rr5 F l hl n a b df s ha hb hdf hs hn C hC hC2 k N (i + 1) _ (by omega) (by omega) (by omega) (by omega), List.filter_cons_of_neg (by simp [e])]
    | true => rw [bif_t', apd_ok (by simp; omega) (by omega), bnd_eq, rr5 F l hl n a b df s ha hb hdf hs hn C hC hC2 k N (i + 1) _ (by omega) (by omega) (by omega) (by simp; omega), List.filter_cons_of_pos (by simp [e]), List.append_assoc]; rfl
theorem RRing_eq (F : Nat) (hF : 400 < F) (l : List S_api_Site) (n a b df s : Int) (hl : l.length ≤ 9223372036854775807) (hlF : l.length < F) : ref09_Ring F l n a b df s = some (ringR l n a b df s) := by
  unfold ref09_Ring ringR
  rw [placed_eq F (by omega) l hl hlF, bnd_eq]
  cases e1 : netB l with
  | false => rfl
  | true =>
    obtain ⟨hl1, hl2⟩ := net_is e1
    rw [bif_t', bif_t']
    cases e2 : inR 1 n 8 with
    | false => rfl
    | true =>
      have hn := inR_iff.1 e2
      rw [bif_t', bif_t']
      show (bnd (ref00_In F a 0 (w64 ((l.length : Int) - 1))) fun r28 => _) = _
      rw [w64_id (n := (l.length : Int) - 1) (by omega) (by omega), In_eq, bnd_eq]
      unfold betwB ref09_Ring_1 ref09_Ring_2 ref09_Ring_3 ref09_Ring_4
      cases e3 : inR 0 a (l.length - 1) with
      | false => rfl
      | true =>
        rw [Bool.not_true, bif_f', In_eq, bnd_eq]
        cases e4 : inR 0 b (l.length - 1) with
        | false => rfl
        | true =>
          rw [Bool.not_true, bif_f']
          cases e5 : a == b with
          | true => rfl
          | false =>
            rw [bif_f', In_eq, bnd_eq]
            cases e6 : inR (-1099511627776) df 1099511627776 with
            | false => rfl
            | true =>
              rw [Bool.not_true, bif_f', In_eq, bnd_eq]
              cases e7 : inR 0 s 131072 with
              | false => rfl
              | true =>
                have i1 := inR_iff.1 e3
                have i2 := inR_iff.1 e4
                have hn2 : 0 ≤ 6 * (n * n) ∧ 6 * (n * n) ≤ 384 := by rcases eight hn with rfl | rfl | rfl | rfl | rfl | rfl | rfl | rfl <;> decide
                rw [Bool.not_true, bif_f']
                have := rr5 F l hl2 n a b df s (by omega) (by omega) (inR_iff.1 e6) (inR_iff.1 e7) hn (6 * (n * n)).toNat (by omega) (by omega) (6 * (n * n)).toNat F 0 [] (by omega) (by omega) (by omega) (by simp)
                refine this.trans ?_
                rw [List.nil_append, ← List.range_eq_range']
                rfl
end Go.Ev.SkyRings
