/- Noise. -/
import Derived.Test.YtochmbjngflpiaaGreatDoorRunSeedsMath3
namespace Go.Ev.RunSeeds
set_option linter.unusedVariables false
open Go Go.Ev Go.Proofs
def nxt (x : Int) : Int := Int.tmod (w64 (x * 69621)) 2147483647
def nel (x m : Int) : Int := w64 (Int.tmod x (w64 (w64 (2 * m) + 1)) - m)
def nl (m : Int) : Nat → Int → List Int
  | 0, _ => []
  | n + 1, x => nel (nxt x) m :: nl m n (nxt x)
theorem nl_len (m : Int) : ∀ (n : Nat) (x : Int), (nl m n x).length = n
  | 0, _ => rfl
  | n + 1, x => by rw [nl, List.length_cons, nl_len m n]
theorem nl_take (m : Int) : ∀ (n k : Nat) (x : Int), (nl m (n + k) x).take n = nl m n x
  | 0, k, x => by simp [nl]
  | n + 1, k, x => by rw [show n + 1 + k = (n + k) + 1 by omega, nl, List.take_succ_cons, nl_take m n k, nl]
theorem nxt_in {x : Int} (h0 : 0 ≤ x) (h1 : x < 2147483647) : 0 ≤ nxt x ∧ nxt x < 2147483647 := by
  unfold nxt
  rw [w64_id (by omega) (by omega)]
  have h2 : 0 ≤ x * 69621 := by omega
  generalize x * 69621 = y at h2
  rw [Int.tmod_eq_emod_of_nonneg h2]
  omega
theorem nel_in {x m : Int} (h0 : 0 ≤ x) (hm : 0 ≤ m) (hm2 : m ≤ 4096) : -m ≤ nel x m ∧ nel x m ≤ m := by
  unfold nel
  rw [w64_id (n := 2 * m) (by omega) (by omega), w64_id (n := 2 * m + 1) (by omega) (by omega), Int.tmod_eq_emod_of_nonneg h0]
  have h1 := Int.emod_nonneg x (show (2 * m + 1 : Int) ≠ 0 by omega)
  have h2 := Int.emod_lt_of_pos x (show (0 : Int) < 2 * m + 1 by omega)
  generalize x % (2 * m + 1) = r at h1 h2
  rw [w64_id (by omega) (by omega)]
  omega
theorem nl_in {m : Int} (hm : 0 ≤ m) (hm2 : m ≤ 4096) : ∀ (n : Nat) (x : Int), 0 ≤ x → x < 2147483647 → ∀ y ∈ nl m n x, -m ≤ y ∧ y ≤ m
  | 0, _, _, _, y, hy => by cases hy
  | n + 1, x, h0, h1, y, hy => by
    have hn := nxt_in h0 h1
    rcases List.mem_cons.1 hy with rfl | hy
    · exact nel_in hn.1 hm hm2
    · exact nl_in hm hm2 n _ hn.1 hn.2 y hy
theorem noise_loop (F : Nat) {m s n0 : Int} (hm : 0 ≤ m) (hm2 : m ≤ 4096) (n : Nat) (hn : n ≤ 100000) : ∀ (k i N : Nat) (x : Int) (acc : List Int), i + k = n → k < N → acc.length + k ≤ 100000 → run_noise_1 F N x (n : Int) (i : Int) m s n0 acc = some (acc ++ nl m k x) := by
  intro k
  induction k with
  | zero =>
    intro i N x acc hi hN hacc
    obtain ⟨N, rfl⟩ : ∃ n, N = n + 1 := ⟨N - 1, by omega⟩
    rw [run_noise_1, bif_neg' (by omega)]
    simp [nl]
  | succ k ih =>
    intro i N x acc hi hN hacc
    obtain ⟨N, rfl⟩ : ∃ n, N = n + 1 := ⟨N - 1, by omega⟩
    rw [run_noise_1, bif_pos' (by omega), nz_ok (by rw [w64_id (n := 2 * m) (by omega) (by omega), w64_id (by omega) (by omega)]; omega), bnd_eq, apd_ok (by simp; omega) (by omega), bnd_eq, up (by omega), ih (i + 1) N _ _ (by omega) (by omega) (by simp; omega), nl]
    simp [nxt, nel]
def okN (s n m : Int) : Bool := inR 0 s 1073741824 && (inR 0 n 512 && inR 0 m 4096)
theorem Noise_eq (F : Nat) (s n m : Int) (hF : 600 < F) : run_Noise F s n m = some (bif okN s n m then (nl m n.toNat (s + 1), 0) else ([], 8)) := by
  unfold run_Noise okN
  rw [isSeed_eq, bnd_eq]
  cases h1 : inR 0 s 1073741824 with
  | false => simp [run_Noise_1, run_Noise_2]
  | true =>
    simp only [Bool.not_true, cond_false, isFrom_eq, bnd_eq, Bool.true_and]
    unfold run_Noise_1
    cases h2 : inR 0 n 512 with
    | false => simp [run_Noise_2]
    | true =>
      simp only [Bool.not_true, cond_false, isFrom_eq, bnd_eq, Bool.true_and]
      unfold run_Noise_2
      cases h3 : inR 0 m 4096 with
      | false => simp
      | true =>
        rw [inR_iff] at h1 h2 h3
        simp only [Bool.not_true, cond_false, cond_true]
        unfold run_noise
        have h := noise_loop F (s := s) (n0 := n) h3.1 h3.2 n.toNat (by omega) n.toNat 0 F (w64 (s + 1)) [] (by omega) (by omega) (by simp; omega)
        rw [w64_id (by omega) (by omega)] at h ⊢
        rw [show ((n.toNat : Nat) : Int) = n by omega] at h
        rw [show ((0 : Nat) : Int) = 0 from rfl] at h
        rw [h, bnd_eq]
        simp
end Go.Ev.RunSeeds
