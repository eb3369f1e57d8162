/- The cells of a ring. -/
import Derived.Test.YtkmmplbbefijaaaGreatDoorSkyRingsMath5
namespace Go.Ev.SkyRings
open Go Go.Ev Go.Proofs
set_option linter.unusedVariables false
def ringB (l : List S_api_Site) (a b n s : Int) (d : S__3_int) : Bool := aboutB (dotM d d) (dotM (subM (plc l a) (plc l b)) d) n s
def ringM (l : List S_api_Site) (n a b df s : Int) : List Int := (cellsL n).filter fun c => ringB l a b df s (dirM n c)
def betwB (a b n : Int) : Bool := inR 0 a (n - 1) && (inR 0 b (n - 1) && !(a == b))
def ringR (l : List S_api_Site) (n a b df s : Int) : List Int × Int := bif netB l then (bif inR 1 n 8 then (bif betwB a b l.length && (inR (-1099511627776) df 1099511627776 && inR 0 s 131072) then (ringM l n a b df s, 0) else ([], 92)) else ([], 91)) else ([], 90)
theorem between_eq (F : Nat) (a b n : Int) (hn : 0 ≤ n ∧ n ≤ 1000) : sky_isBetween F a b n = some (betwB a b n) := by
  unfold sky_isBetween sky_isBetween_1 sky_isBetween_2 betwB
  rw [w64_id (n := n - 1) (by omega) (by omega), isFrom_eq, bnd_eq]
  cases inR 0 a (n - 1) with
  | false => rfl
  | true =>
    rw [bif_t', isFrom_eq, bnd_eq]
    cases inR 0 b (n - 1) <;> rfl
theorem ring3 (F : Nat) (hF : 64 < F) (l : List S_api_Site) (hl : ∀ x ∈ l, inV 65536 x.Place = true) (a b df s : Int) (ha : 0 ≤ a ∧ a < l.length) (hb : 0 ≤ b ∧ b < l.length) (hdf : -1099511627776 ≤ df ∧ df ≤ 1099511627776) (hs : 0 ≤ s ∧ s ≤ 131072) (n : Int) (hn : 1 ≤ n ∧ n ≤ 8) (C : Nat) (hC : (C : Int) = 6 * (n * n)) (hC2 : C ≤ 384) : ∀ (k N i : Nat) (acc : List Int), k = C - i → i ≤ C → k < N → acc.length ≤ i → sky_Ring_3 F N C i a b df s n (l.map siteOf) acc = some (acc ++ ((List.range' i k).map fun i : Nat => (i : Int)).filter (fun c => ringB l a b df s (dirM n c)), 0)
  | k, 0, i, acc, _, _, h, _ => by omega
  | 0, N + 1, i, acc, hk, hi, _, _ => by
    rw [sky_Ring_3, bif_neg' (by omega)]
    simp
  | k + 1, N + 1, i, acc, hk, hi, hN, hacc => by
    have hc : (1 ≤ n ∧ n ≤ 8) ∧ (0 : Int) ≤ i ∧ (i : Int) < 6 * (n * n) := ⟨hn, by omega, by omega⟩
    obtain ⟨x, hx, hx'⟩ := site_at (l := l) ha
    obtain ⟨y, hy, hy'⟩ := site_at (l := l) hb
    have hdq := diff_eq F (plc_in hl a) (plc_in hl b) (dir_le hc)
    rw [sky_Ring_3, bif_pos' (by omega), direction_eq F hc, bnd_eq, hx, bnd_eq, hy, bnd_eq, hx', hy', hdq.1, bnd_eq, about_eq F hF _ hdq.2 _ _ (by omega) (by omega), bnd_eq, up (by omega), List.range'_succ, List.map_cons]
    show (bif ringB l a b df s (dirM n i) then _ else _) = _
    cases e : ringB l a b df s (dirM n i) with
    | false => rw [bif_f', ring3 F hF l hl a b df s ha hb hdf hs n hn C hC hC2 k N (i + 1) _ (by omega) (by omega) (by omega) (by omega), List.filter_cons_of_neg (by simp [e])]
    | true => rw [bif_t', apd_ok (by simp; omega) (by omega), bnd_eq, ring3 F hF l hl a b df s ha hb hdf hs n hn C hC hC2 k N (i + 1) _ (by omega) (by omega) (by omega) (by simp; omega), List.filter_cons_of_pos (by simp [e]), List.append_assoc]; rfl
theorem Ring_eq (F : Nat) (hF : 400 < F) (l : List S_api_Site) (n a b df s : Int) (hl : l.length ≤ 9223372036854775807) : sky_Ring F l n a b df s = some (ringR l n a b df s) := by
  unfold sky_Ring ringR
  rw [checkNetGrid_eq F (by omega) l hl, bnd_eq]
  cases e1 : netB l with
  | false => rfl
  | true =>
    obtain ⟨hl1, hl2⟩ := net_is e1
    rw [bif_t', bif_t']
    cases e2 : inR 1 n 8 with
    | false => rfl
    | true =>
      have hn := inR_iff.1 e2
      rw [bif_t', bif_t']
      show (bnd (sky_isBetween F a b l.length) fun r40 => _) = _
      rw [between_eq F a b l.length (by omega), bnd_eq]
      unfold sky_Ring_1 sky_Ring_2 sky_isInstant
      cases e3 : betwB a b l.length with
      | false => rfl
      | true =>
        rw [Bool.not_true, bif_f', isFrom_eq, bnd_eq, bnd_eq]
        cases e4 : inR (-1099511627776) df 1099511627776 with
        | false => rfl
        | true =>
          rw [Bool.not_true, bif_f', isFrom_eq, bnd_eq]
          cases e5 : inR 0 s 131072 with
          | false => rfl
          | true =>
            have h3 := e3
            unfold betwB at h3
            simp only [Bool.and_eq_true] at h3
            have i1 := inR_iff.1 h3.1
            have i2 := inR_iff.1 h3.2.1
            have hn2 : 0 ≤ 6 * (n * n) ∧ 6 * (n * n) ≤ 384 := by rcases eight hn with rfl | rfl | rfl | rfl | rfl | rfl | rfl | rfl <;> decide
            rw [Bool.not_true, bif_f', sitesOf_eq F l (by omega) (by omega), bnd_eq, cells_eq F hn, bnd_eq]
            have := ring3 F (by omega) l hl2 a b df s (by omega) (by omega) (inR_iff.1 e4) (inR_iff.1 e5) n hn (6 * (n * n)).toNat (by omega) (by omega) (6 * (n * n)).toNat F 0 [] (by omega) (by omega) (by omega) (by simp)
            rw [show (((6 * (n * n)).toNat : Nat) : Int) = 6 * (n * n) by omega] at this
            refine this.trans ?_
            rw [List.nil_append, ← List.range_eq_range']
            rfl
end Go.Ev.SkyRings
