/- The specification's cell of a vector. -/
import Derived.Test.YtkmmplbbefijaaaGreatDoorSkyCellsMath5
namespace Go.Ev.SkyCells
open Go Go.Ev Go.Proofs
set_option linter.unusedVariables false
theorem place_e {n m p : Int} (hn : 1 ≤ n ∧ n ≤ 8) (hm : 0 < m ∧ m ≤ 1000) (hp : -m ≤ p ∧ p ≤ m) : w64 (2 * m) = 2 * m ∧ min (w64 (Int.tdiv (w64 ((w64 (p + m)) * n)) (2 * m))) (w64 (n - 1)) = placeM n m p := by
  have h0 : 0 ≤ (p + m) * n := Int.mul_nonneg (by omega) (by omega)
  have h1 : (p + m) * n ≤ 2000 * 8 := Int.mul_le_mul (by omega) (by omega) (by omega) (by omega)
  have h2 : 0 ≤ (p + m) * n / (2 * m) := Int.ediv_nonneg h0 (by omega)
  have h3 := Int.ediv_le_self (2 * m) h0
  refine ⟨w64_id (by omega) (by omega), ?_⟩
  unfold placeM
  rw [w64_id (n := p + m) (by omega) (by omega), w64_id (n := (p + m) * n) (by omega) (by omega), w64_id (n := n - 1) (by omega) (by omega), Int.tdiv_eq_ediv_of_nonneg h0, w64_id (by omega) (by omega)]
theorem in3 {k : Nat} (h : k < 3) : inA (k : Int) 3 = some k := by
  have : k = 0 ∨ k = 1 ∨ k = 2 := by omega
  rcases this with rfl | rfl | rfl <;> rfl
theorem r5skip (F N : Nat) (n m : Int) (v : S__3_int) (l : List Int) (k : Nat) (hk : k < 3) : ref09_CellOf_5 F (N + 1) n k m k v l = ref09_CellOf_5 F N n k m ((k + 1 : Nat) : Int) v l := by
  rw [ref09_CellOf_5, bif_pos' (by omega), beq_self_eq_true]
  show ref09_CellOf_6 F (ref09_CellOf_5 F N) n k m k v l = _
  unfold ref09_CellOf_6
  rw [up (by omega)]
theorem r5add (F N : Nat) {n m : Int} (hn : 1 ≤ n ∧ n ≤ 8) (hm : 0 < m ∧ m ≤ 1000) (v : S__3_int) (l : List Int) (hl : l.length ≤ 3) (a k : Nat) (hk : k < 3) (hne : k ≠ a) (hp : -m ≤ get22 v k ∧ get22 v k ≤ m) :
    ref09_CellOf_5 F (N + 1) n a m k v l = ref09_CellOf_5 F N n a m ((k + 1 : Nat) : Int) v (l ++ [placeM n m (get22 v k)]) := by
  have hb : ((k : Int) == (a : Int)) = false := by
    rw [beq_eq_false_iff_ne]
    omega
  obtain ⟨h1, h2⟩ := place_e hn hm hp
  rw [ref09_CellOf_5, bif_pos' (by omega), hb]
  show (bnd (inA (k : Int) 3) fun o55 => _) = _
  rw [in3 hk, bnd_eq, h1, nz_ok (by omega), bnd_eq, h2, apd_ok (by simp; omega) (by omega), bnd_eq]
  unfold ref09_CellOf_6
  rw [up (by omega)]
theorem r5end (F N : Nat) (n m : Int) (v : S__3_int) (a b : Int) (x : Nat) (hx : x < 3) : ref09_CellOf_5 F (N + 1) n x m 3 v [a, b] = ref09_CellOf_7 F n (bif decide (get22 v x < 0) then w64 (w64 (2 * (x : Int)) + 1) else w64 (2 * (x : Int))) [a, b] := by
  rw [ref09_CellOf_5, bif_neg' (by omega), in3 hx, bnd_eq]
  cases decide (get22 v x < 0) <;> rfl
theorem r7 (F : Nat) {n f a b : Int} (hn : 1 ≤ n ∧ n ≤ 8) (hf : 0 ≤ f ∧ f ≤ 5) (ha : 0 ≤ a ∧ a ≤ n - 1) (hb : 0 ≤ b ∧ b ≤ n - 1) : ref09_CellOf_7 F n f [a, b] = some ((f * n + a) * n + b, 0) := by
  have h6 := bound6 hn hf ha hb
  unfold ref09_CellOf_7
  rw [show idx [a, b] 0 = some a from rfl, bnd_eq, show idx [a, b] 1 = some b from rfl, bnd_eq, w64_id (n := f * n) (by omega) (by omega), w64_id (n := f * n + a) (by omega) (by omega), w64_id (n := (f * n + a) * n) (by omega) (by omega), w64_id (by omega) (by omega)]
/-- What is built for an axis. -/
theorem r5 (F N : Nat) {n : Int} (hn : 1 ≤ n ∧ n ≤ 8) (v : S__3_int) (x p q : Nat) (hx : (x, p, q) = (0, 1, 2) ∨ (x, p, q) = (1, 0, 2) ∨ (x, p, q) = (2, 0, 1)) (hm : 0 < absM (get22 v x) ∧ absM (get22 v x) ≤ 1000) (h1 : absM (get22 v p) ≤ absM (get22 v x)) (h2 : absM (get22 v q) ≤ absM (get22 v x)) :
    ref09_CellOf_5 F (N + 4) n x (absM (get22 v x)) 0 v [] = some (((bif decide (get22 v x < 0) then 2 * (x : Int) + 1 else 2 * (x : Int)) * n + placeM n (absM (get22 v x)) (get22 v p)) * n + placeM n (absM (get22 v x)) (get22 v q), 0) := by
  have ip := abs_in h1
  have iq := abs_in h2
  have pa := place_in hn hm.1 ip
  have pb := place_in hn hm.1 iq
  have fin : x < 3 → ref09_CellOf_5 F (N + 1) n x (absM (get22 v x)) 3 v [placeM n (absM (get22 v x)) (get22 v p), placeM n (absM (get22 v x)) (get22 v q)] = some (((bif decide (get22 v x < 0) then 2 * (x : Int) + 1 else 2 * (x : Int)) * n + placeM n (absM (get22 v x)) (get22 v p)) * n + placeM n (absM (get22 v x)) (get22 v q), 0) := by
    intro h3
    rw [r5end F N n _ v _ _ x h3, w64_id (n := 2 * (x : Int)) (by omega) (by omega), w64_id (n := 2 * (x : Int) + 1) (by omega) (by omega)]
    refine r7 F hn ?_ pa pb
    cases decide (get22 v x < 0) <;> simp <;> omega
  rcases hx with hx | hx | hx <;> cases hx
  · refine (r5skip F (N + 3) n _ v [] 0 (by omega)).trans ?_
    refine (r5add F (N + 2) hn hm v [] (by simp) 0 1 (by omega) (by omega) ip).trans ?_
    refine (r5add F (N + 1) hn hm v _ (by simp) 0 2 (by omega) (by omega) iq).trans ?_
    exact fin (by omega)
  · refine (r5add F (N + 3) hn hm v [] (by simp) 1 0 (by omega) (by omega) ip).trans ?_
    refine (r5skip F (N + 2) n _ v _ 1 (by omega)).trans ?_
    refine (r5add F (N + 1) hn hm v _ (by simp) 1 2 (by omega) (by omega) iq).trans ?_
    exact fin (by omega)
  · refine (r5add F (N + 3) hn hm v [] (by simp) 2 0 (by omega) (by omega) ip).trans ?_
    refine (r5add F (N + 2) hn hm v _ (by simp) 2 1 (by omega) (by omega) iq).trans ?_
    refine (r5skip F (N + 1) n _ v _ 2 (by omega)).trans ?_
    exact fin (by omega)
theorem r3step (F N : Nat) (n : Int) (v : S__3_int) (x k : Nat) (hx : x < 3) (hk : k < 3) (h : ∀ i, -1000 ≤ get22 v i ∧ get22 v i ≤ 1000) : ref09_CellOf_3 F (N + 1) n x k v = ref09_CellOf_3 F N n (bif decide (absM (get22 v x) < absM (get22 v k)) then ((k : Nat) : Int) else ((x : Nat) : Int)) ((k + 1 : Nat) : Int) v := by
  have h1 := h x
  have h2 := h k
  rw [ref09_CellOf_3, bif_pos' (by omega), in3 hk, bnd_eq, in3 hx, bnd_eq, Abs_eq F _ (by omega), bnd_eq, Abs_eq F _ (by omega), bnd_eq]
  unfold ref09_CellOf_4
  rw [up (by omega)]
  cases decide (absM (get22 v x) < absM (get22 v k)) <;> rfl
theorem r3end (F N : Nat) (n : Int) (v : S__3_int) (x : Nat) (hx : x < 3) (h : ∀ i, -1000 ≤ get22 v i ∧ get22 v i ≤ 1000) : ref09_CellOf_3 F (N + 1) n x 3 v = ref09_CellOf_5 F F n x (absM (get22 v x)) 0 v [] := by
  have h1 := h x
  rw [ref09_CellOf_3, bif_neg' (by omega), in3 hx, bnd_eq, Abs_eq F _ (by omega), bnd_eq]
theorem rcell_eq (F : Nat) (hF : 4 < F) {n : Int} (hn : 1 ≤ n ∧ n ≤ 8) (v : S__3_int) (h : (-1000 ≤ v.e0 ∧ v.e0 ≤ 1000) ∧ (-1000 ≤ v.e1 ∧ v.e1 ≤ 1000) ∧ (-1000 ≤ v.e2 ∧ v.e2 ≤ 1000)) (hz : isZ v = false) : ref09_CellOf_3 F F n 0 1 v = some (cellM n v, 0) := by
  obtain ⟨N, rfl⟩ : ∃ N, F = N + 4 := ⟨F - 4, by omega⟩
  have g0 : get22 v 0 = v.e0 := rfl
  have g1 : get22 v 1 = v.e1 := rfl
  have g2 : get22 v 2 = v.e2 := rfl
  have hb : ∀ i, -1000 ≤ get22 v i ∧ get22 v i ≤ 1000 := by
    intro i
    unfold get22
    cases Nat.beq i 0 with
    | true => exact h.1
    | false => cases Nat.beq i 1 with
      | true => exact h.2.1
      | false => exact h.2.2
  refine (r3step (N + 4) (N + 3) n v 0 1 (by omega) (by omega) hb).trans ?_
  -- the axis, and the face
  have key : ∀ (x p q : Nat) (_ : (x, p, q) = (0, 1, 2) ∨ (x, p, q) = (1, 0, 2) ∨ (x, p, q) = (2, 0, 1)) (_ : 0 < absM (get22 v x)) (_ : absM (get22 v p) ≤ absM (get22 v x)) (_ : absM (get22 v q) ≤ absM (get22 v x)) (f : Int) (_ : f = bif decide (get22 v x < 0) then 2 * (x : Int) + 1 else 2 * (x : Int)) (_ : cellM n v = (f * n + placeM n (absM (get22 v x)) (get22 v p)) * n + placeM n (absM (get22 v x)) (get22 v q)),
      ref09_CellOf_5 (N + 4) (N + 4) n x (absM (get22 v x)) 0 v [] = some (cellM n v, 0) := by
    intro x p q hx hm h1 h2 f hf hc
    rw [r5 (N + 4) N hn v x p q hx ⟨hm, by have := hb x; unfold absM; omega⟩ h1 h2, hc, hf]
  have hpos : ∀ x : Int, 0 < x → absM x = x := fun x h => by unfold absM; omega
  have hneg : ∀ x : Int, 0 < -x → absM x = -x := fun x h => by unfold absM; omega
  have hc : ∀ x : Int, 0 ≤ absM x := fun x => by unfold absM; omega
  rcases face_is v hz with ⟨e, h1, h2, h3⟩ | ⟨e, h1, h2, h3⟩ | ⟨e, h1, h2, h3⟩ | ⟨e, h1, h2, h3⟩ | ⟨e, h1, h2, h3⟩ | ⟨e, h1, h2, h3⟩
  · have e1 : decide (absM (get22 v 0) < absM (get22 v 1)) = false := by rw [g0, g1, hpos _ h1]; exact decide_eq_false (by omega)
    rw [e1]
    refine (r3step (N + 4) (N + 2) n v 0 2 (by omega) (by omega) hb).trans ?_
    have e2 : decide (absM (get22 v 0) < absM (get22 v 2)) = false := by rw [g0, g2, hpos _ h1]; exact decide_eq_false (by omega)
    rw [e2]
    refine (r3end (N + 4) (N + 1) n v 0 (by omega) hb).trans (key 0 1 2 (.inl rfl) (by rw [g0, hpos _ h1]; omega) (by rw [g0, g1, hpos _ h1]; exact h2) (by rw [g0, g2, hpos _ h1]; exact h3) 0 ?_ ?_)
    · rw [g0, decide_eq_false (by omega)]; rfl
    · unfold cellM viaM; rw [e]; rfl
  · have e1 : decide (absM (get22 v 0) < absM (get22 v 1)) = false := by rw [g0, g1, hneg _ h1]; exact decide_eq_false (by omega)
    rw [e1]
    refine (r3step (N + 4) (N + 2) n v 0 2 (by omega) (by omega) hb).trans ?_
    have e2 : decide (absM (get22 v 0) < absM (get22 v 2)) = false := by rw [g0, g2, hneg _ h1]; exact decide_eq_false (by omega)
    rw [e2]
    refine (r3end (N + 4) (N + 1) n v 0 (by omega) hb).trans (key 0 1 2 (.inl rfl) (by rw [g0, hneg _ h1]; omega) (by rw [g0, g1, hneg _ h1]; exact h2) (by rw [g0, g2, hneg _ h1]; exact h3) 1 ?_ ?_)
    · rw [g0, decide_eq_true (by omega)]; rfl
    · unfold cellM viaM; rw [e]; rfl
  · have e1 : decide (absM (get22 v 0) < absM (get22 v 1)) = true := by rw [g0, g1, hpos _ h1]; exact decide_eq_true (by omega)
    rw [e1]
    refine (r3step (N + 4) (N + 2) n v 1 2 (by omega) (by omega) hb).trans ?_
    have e2 : decide (absM (get22 v 1) < absM (get22 v 2)) = false := by rw [g1, g2, hpos _ h1]; exact decide_eq_false (by omega)
    rw [e2]
    refine (r3end (N + 4) (N + 1) n v 1 (by omega) hb).trans (key 1 0 2 (.inr (.inl rfl)) (by rw [g1, hpos _ h1]; omega) (by rw [g0, g1, hpos _ h1]; omega) (by rw [g1, g2, hpos _ h1]; exact h3) 2 ?_ ?_)
    · rw [g1, decide_eq_false (by omega)]; rfl
    · unfold cellM viaM; rw [e]; rfl
  · have e1 : decide (absM (get22 v 0) < absM (get22 v 1)) = true := by rw [g0, g1, hneg _ h1]; exact decide_eq_true (by omega)
    rw [e1]
    refine (r3step (N + 4) (N + 2) n v 1 2 (by omega) (by omega) hb).trans ?_
    have e2 : decide (absM (get22 v 1) < absM (get22 v 2)) = false := by rw [g1, g2, hneg _ h1]; exact decide_eq_false (by omega)
    rw [e2]
    refine (r3end (N + 4) (N + 1) n v 1 (by omega) hb).trans (key 1 0 2 (.inr (.inl rfl)) (by rw [g1, hneg _ h1]; omega) (by rw [g0, g1, hneg _ h1]; omega) (by rw [g1, g2, hneg _ h1]; exact h3) 3 ?_ ?_)
    · rw [g1, decide_eq_true (by omega)]; rfl
    · unfold cellM viaM; rw [e]; rfl
  · have e2 : ∀ x : Nat, x < 2 → decide (absM (get22 v x) < absM (get22 v 2)) = true := by
      intro x hx
      have : x = 0 ∨ x = 1 := by omega
      rcases this with rfl | rfl
      · rw [g0, g2, hpos _ h1]; exact decide_eq_true (by omega)
      · rw [g1, g2, hpos _ h1]; exact decide_eq_true (by omega)
    have fin := (r3end (N + 4) (N + 1) n v 2 (by omega) hb).trans (key 2 0 1 (.inr (.inr rfl)) (by rw [g2, hpos _ h1]; omega) (by rw [g0, g2, hpos _ h1]; omega) (by rw [g1, g2, hpos _ h1]; omega) 4 (by rw [g2, decide_eq_false (by omega)]; rfl) (by unfold cellM viaM; rw [e]; rfl))
    cases decide (absM (get22 v 0) < absM (get22 v 1)) with
    | false => exact (r3step (N + 4) (N + 2) n v 0 2 (by omega) (by omega) hb).trans (by rw [e2 0 (by omega)]; exact fin)
    | true => exact (r3step (N + 4) (N + 2) n v 1 2 (by omega) (by omega) hb).trans (by rw [e2 1 (by omega)]; exact fin)
  · have e2 : ∀ x : Nat, x < 2 → decide (absM (get22 v x) < absM (get22 v 2)) = true := by
      intro x hx
      have : x = 0 ∨ x = 1 := by omega
      rcases this with rfl | rfl
      · rw [g0, g2, hneg _ h1]; exact decide_eq_true (by omega)
      · rw [g1, g2, hneg _ h1]; exact decide_eq_true (by omega)
    have fin := (r3end (N + 4) (N + 1) n v 2 (by omega) hb).trans (key 2 0 1 (.inr (.inr rfl)) (by rw [g2, hneg _ h1]; omega) (by rw [g0, g2, hneg _ h1]; omega) (by rw [g1, g2, hneg _ h1]; omega) 5 (by rw [g2, decide_eq_true (by omega)]; rfl) (by unfold cellM viaM; rw [e]; rfl))
    cases decide (absM (get22 v 0) < absM (get22 v 1)) with
    | false => exact (r3step (N + 4) (N + 2) n v 0 2 (by omega) (by omega) hb).trans (by rw [e2 0 (by omega)]; exact fin)
    | true => exact (r3step (N + 4) (N + 2) n v 1 2 (by omega) (by omega) hb).trans (by rw [e2 1 (by omega)]; exact fin)
theorem RCellOf_eq (F : Nat) (hF : 4 < F) (n : Int) (v : S__3_int) : ref09_CellOf F n v = some (cellOfM n v) := by
  unfold ref09_CellOf cellOfM ref09_CellOf_1 ref09_CellOf_2
  rw [In_eq, bnd_eq]
  cases e1 : inR 1 n 8 with
  | false => rfl
  | true =>
    simp only [Bool.not_true, cond_false, cond_true]
    rw [In_eq, bnd_eq]
    have hn := inR_iff.1 e1
    have hV : inV 1000 v = (inR (-1000) v.e0 1000 && (inR (-1000) v.e1 1000 && inR (-1000) v.e2 1000)) := rfl
    rw [hV]
    cases f0 : inR (-1000) v.e0 1000 with
    | false => rfl
    | true =>
      simp only [Bool.not_true, cond_false, Bool.true_and]
      rw [In_eq, bnd_eq]
      cases f1 : inR (-1000) v.e1 1000 with
      | false => rfl
      | true =>
        simp only [Bool.not_true, cond_false, Bool.true_and]
        rw [In_eq, bnd_eq]
        cases f2 : inR (-1000) v.e2 1000 with
        | false => rfl
        | true =>
          rw [bif_t']
          show (bif isZ v then _ else _) = some (bif isZ v then _ else _)
          cases e3 : isZ v with
          | true => rfl
          | false => exact rcell_eq F hF hn v ⟨inR_iff.1 f0, inR_iff.1 f1, inR_iff.1 f2⟩ e3
end Go.Ev.SkyCells
