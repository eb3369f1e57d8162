/- Bursts: what the program says. -/
import Derived.Test.YtmdeiglnjimlnaaSearchTilesMath8
namespace Go.Ev.SearchTiles
open Go Go.Ev Go.Proofs
set_option linter.unusedVariables false
theorem inA_nat {j n : Nat} (h : j < n) : inA (j : Int) n = some j := by
  show (bif Nat.blt j n then some j else none) = _
  rw [show Nat.blt j n = true from Nat.ble_eq_true_of_le h]
  rfl
theorem last_get {α : Type} {l : List α} (h : 0 < l.length) : ∃ b, l[l.length - 1]? = some b := get_lt (by omega)
theorem bursts3 (F : Nat) (hd : (List Int) → Int → Int → Int → Int → Int → (List Int) → (List S_api_Burst) → (List Int) → Option ((List S_api_Burst))) (x : List Int) (n : Int) (i w t : Nat) (thr p : Int) (acc : List S_api_Burst) (R : List Int) (hi : i ≤ 1024) (hw : w ≤ 1024) (ht : t ≤ 1024) (ha : acc.length ≤ 1024) (hp : ¬ p < thr) :
    (bif decide ((0 : Int) ≤ (w64 ((acc.length : Int) - (1 : Int)))) then
      bnd (idx acc (w64 ((acc.length : Int) - (1 : Int)))) fun x74 =>
      search_bursts_3 F hd t p (w64 ((acc.length : Int) - (1 : Int))) (decide ((t : Int) ≤ x74.To)) x n i true w thr w x acc R
    else
      search_bursts_3 F hd t p (w64 ((acc.length : Int) - (1 : Int))) false x n i true w thr w x acc R) = hd x n ((i + 1 : Nat) : Int) w thr w x (stepB w thr acc t p) R := by
  have hfin : ∀ A, search_bursts_2 F hd x n i (!true) w thr w x A R = hd x n ((i + 1 : Nat) : Int) w thr w x A R := fun A => by
    unfold search_bursts_2
    rw [Bool.not_true, cond_false, up (by omega)]
  have hno : ∀ q, search_bursts_3 F hd t p q false x n i true w thr w x acc R = hd x n ((i + 1 : Nat) : Int) w thr w x (acc ++ [⟨t, ((t + w : Nat) : Int), p⟩]) R := fun q => by
    unfold search_bursts_3
    rw [cond_false, w64_id (n := (t : Int) + w) (by omega) (by omega), apd_ok (by simp; omega) (by omega), bnd_eq, cond_true, hfin, Int.natCast_add t w]
  rw [stepB, if_neg hp, w64_id (n := (acc.length : Int) - 1) (by omega) (by omega)]
  by_cases h : 0 < acc.length
  · obtain ⟨b, hb⟩ := last_get h
    have e : (acc.length : Int) - 1 = ((acc.length - 1 : Nat) : Int) := by omega
    rw [bif_pos' (by omega), e, idx_nat, hb, bnd_eq]
    simp only
    by_cases h2 : (t : Int) ≤ b.To
    · rw [decide_eq_true h2, if_pos h2]
      unfold search_bursts_3
      rw [cond_true, inn_at (by omega), bnd_eq, hb, bnd_eq, w64_id (n := (t : Int) + w) (by omega) (by omega), upd_at (by omega), bnd_eq, idx_nat, List.getElem?_set_self (by omega), bnd_eq, inn_at (by rw [List.length_set]; omega), bnd_eq, List.getElem?_set_self (by omega), bnd_eq,
        upd_at (by rw [List.length_set]; omega), bnd_eq, cond_true, hfin, List.set_set, Int.natCast_add t w]
    · rw [decide_eq_false h2, if_neg h2]
      exact hno _
  · have e : acc = [] := List.eq_nil_of_length_eq_zero (by omega)
    rw [bif_neg' (by omega), hno]
    subst e
    rfl
theorem bursts1 (F : Nat) (x : List Int) (hx : small x) (hxl : x.length ≤ 1024) (w : Nat) (hw : 1 ≤ w ∧ w ≤ 1024) (thr : Int) : ∀ (k N i : Nat) (acc : List S_api_Burst) (R : List Int), k = x.length - i → i ≤ x.length → k < N → acc.length ≤ i → Ring x w i R →
    search_bursts_1 F N x x.length i w thr w x acc R = some (brs x w thr ((x.length + 1 - w) - (i + 1 - w)) (i + 1 - w) acc)
  | k, 0, i, acc, R, _, _, h, _, _ => by omega
  | 0, N + 1, i, acc, R, hk, hi, _, _, _ => by
    rw [search_bursts_1, bif_neg' (by omega : ¬ ((i : Int) < x.length)), show x.length + 1 - w - (i + 1 - w) = 0 by omega, brs]
  | k + 1, N + 1, i, acc, R, hk, hi, hN, hacc, hR => by
    obtain ⟨v, hv⟩ := get_lt (l := x) (i := i) (by omega)
    obtain ⟨q, g1, g2, g3, g4⟩ := ring_step hw hR hv
    have hml := Nat.mod_lt i (show 0 < w by omega)
    have hlen := hR.len
    have hvb := hx i
    rw [show x[i]?.getD 0 = v by rw [hv]; rfl] at hvb
    have hvv := sqb hvb
    have b1 := sq_bound hx i
    have b2 := sq_bound hx (i + 1)
    have b3 := sq_bound hx (i - w)
    have b4 := sq_bound hx (i + 1 - w)
    have hi1 : (i : Int) ≤ 1024 := by omega
    have m1 : (i : Int) * 268435456 ≤ 1024 * 268435456 := Int.mul_le_mul_of_nonneg_right hi1 (by decide)
    have m2 : ((i + 1 : Nat) : Int) * 268435456 ≤ 1025 * 268435456 := Int.mul_le_mul_of_nonneg_right (by omega) (by decide)
    have m3 : ((i - w : Nat) : Int) * 268435456 ≤ 1024 * 268435456 := Int.mul_le_mul_of_nonneg_right (by omega) (by decide)
    have m4 : ((i + 1 - w : Nat) : Int) * 268435456 ≤ 1025 * 268435456 := Int.mul_le_mul_of_nonneg_right (by omega) (by decide)
    have hq : q ≤ 274877906944000 := by omega
    have ew : w64 (sq x i - sq x (i - w) + w64 (w64 (v * v) - q)) = sq x (i + 1) - sq x (i + 1 - w) := by
      rw [w64_id (n := v * v) (by omega) (by omega), w64_id (n := v * v - q) (by omega) (by omega), g2, w64_id (by omega) (by omega)]
    have en : Int.tmod (w64 (((i % w : Nat) : Int) + 1)) (w : Int) = (((i + 1) % w : Nat) : Int) := by
      rw [up (by omega), ← mod_up (show 0 < w by omega)]
      rfl
    have h51 : (R.set 1026 (sq x (i + 1) - sq x (i + 1 - w))).length = 1027 := by rw [List.length_set, hlen]
    rw [search_bursts_1, bif_pos' (by omega : ((i : Int) < x.length)), idx_nat, hv, bnd_eq, hR.power, bnd_eq, hR.next, bnd_eq, inA_nat (j := i % w) (by omega), bnd_eq, Nat.zero_add, Nat.mul_one, g1, bnd_eq, upd_at (i := 1026) (by omega), bnd_eq, ew,
      List.getElem?_set_ne (by omega), hR.next, bnd_eq, inA_nat (j := i % w) (by omega), bnd_eq, Nat.zero_add, Nat.mul_one, upd_at (i := i % w) (by omega), bnd_eq, w64_id (n := v * v) (by omega) (by omega),
      List.getElem?_set_ne (by omega), List.getElem?_set_ne (by omega), hR.next, bnd_eq, List.getElem?_set_ne (by omega), List.getElem?_set_ne (by omega), hR.size, bnd_eq, nz_ok (by omega), bnd_eq, upd_at (i := 1025) (by rw [List.length_set, h51]; omega), bnd_eq, en]
    have ih := fun acc' h => bursts1 F x hx hxl w hw thr k N (i + 1) acc' _ (by omega) (by omega) (by omega) h g4
    rw [up (by omega), w64_id (n := ((i + 1 : Nat) : Int) - w) (by omega) (by omega)]
    by_cases hwi : w ≤ i + 1
    · have et : ((i + 1 : Nat) : Int) - w = ((i + 1 - w : Nat) : Int) := by omega
      have hpw : pw x w (i + 1 - w) = sq x (i + 1) - sq x (i + 1 - w) := by rw [pw, show i + 1 - w + w = i + 1 by omega]
      rw [et, bif_pos' (by omega), g4.power, bnd_eq, show x.length + 1 - w - (i + 1 - w) = (x.length + 1 - w - (i + 1 + 1 - w)) + 1 by omega, brs, hpw, show i + 1 - w + 1 = i + 1 + 1 - w by omega]
      by_cases hp : sq x (i + 1) - sq x (i + 1 - w) < thr
      · rw [bif_pos' hp, stepB, if_pos hp]
        unfold search_bursts_2
        rw [Bool.not_true, cond_false, up (by omega)]
        exact ih acc (by omega)
      · rw [bif_neg' hp, decide_eq_true (by omega : (0 : Int) ≤ ((i + 1 - w : Nat) : Int))]
        refine (bursts3 F (search_bursts_1 F N) x x.length i w (i + 1 - w) thr _ acc _ (by omega) (by omega) (by omega) (by omega) hp).trans ?_
        exact ih _ (by have := stepB_len w thr acc (i + 1 - w) (sq x (i + 1) - sq x (i + 1 - w)); omega)
    · rw [bif_neg' (by omega)]
      unfold search_bursts_2
      rw [cond_false, up (by omega)]
      refine (ih acc (by omega)).trans ?_
      rw [show i + 1 + 1 - w = i + 1 - w by omega]
def errB (x : List Int) (w thr : Int) : Int := bif isRec x then (bif inR 1 w 1024 && inR 1 thr 1152921504606846976 then 0 else 8) else 82
def burF (x : List Int) (w : Nat) (thr : Int) : List S_api_Burst := brs x w thr (x.length + 1 - w) 0 []
theorem Bursts_eq (F : Nat) (x : List Int) (w thr : Int) (hF : 1024 < F) (hl : x.length ≤ 9223372036854775807) : search_Bursts F x w thr = some (bif errB x w thr == 0 then burF x w.toNat thr else [], errB x w thr) := by
  unfold search_Bursts errB
  rw [record_eq F x hF hl, bnd_eq]
  cases e : isRec x with
  | false => rfl
  | true =>
    obtain ⟨hxl, hxs⟩ := isRec_ok e
    simp only [Bool.not_true, cond_false, cond_true, isFrom_eq, bnd_eq]
    cases e1 : inR 1 w 1024 with
    | false => rfl
    | true =>
      simp only [Bool.not_true, cond_false, Bool.true_and, search_Bursts_1]
      cases e2 : inR 1 thr 1152921504606846976 with
      | false => rfl
      | true =>
        have hw := inR_iff.1 e1
        obtain ⟨n, rfl⟩ : ∃ n : Nat, w = n := ⟨w.toNat, by omega⟩
        simp only [Bool.not_true, cond_false, cond_true, beq_self_eq_true, Int.toNat_natCast]
        unfold search_bursts
        have := bursts1 F x (small_of hxs) hxl n (by omega) thr x.length F 0 [] _ rfl (Nat.zero_le _) (by omega) (Nat.le_refl _) (ring0 x n (by omega))
        rw [show 0 + 1 - n = 0 by omega, Nat.sub_zero] at this
        show bnd (search_bursts_1 F F x x.length ((0 : Nat) : Int) n thr n x [] _) _ = _
        rw [this]
        rfl
end Go.Ev.SearchTiles
