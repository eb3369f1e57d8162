/- RunSeeds answers true. -/
import Derived.Test.YtochmbjngflpiaaGreatDoorRunSeedsMath4
namespace Go.Ev.RunSeeds
set_option linter.unusedVariables false
open Go Go.Ev Go.Proofs
theorem seeds_loop (F : Nat) (hw : works F = some true) (c : S_ringdownlaw11_Seeds) (hB : 0 ≤ c.B) (hB2 : c.B ≤ 4096) (l : List Int) (hl : l.length ≤ 100000) (h : ∀ y ∈ l, -c.B ≤ y ∧ y ≤ c.B) : ∀ (k i N : Nat), i + k = l.length → k < N → law11_RunSeeds_4 F N (i : Int) c l = some true := by
  intro k
  induction k with
  | zero =>
    intro i N hi hN
    obtain ⟨N, rfl⟩ : ∃ n, N = n + 1 := ⟨N - 1, by omega⟩
    rw [law11_RunSeeds_4, bif_neg' (by omega), hw, bnd_eq]
  | succ k ih =>
    intro i N hi hN
    obtain ⟨N, rfl⟩ : ∃ n, N = n + 1 := ⟨N - 1, by omega⟩
    obtain ⟨x, hx⟩ := get_lt (l := l) (i := i) (by omega)
    have hx2 := h x (List.mem_of_getElem? hx)
    rw [law11_RunSeeds_4, bif_pos' (by omega), idx_nat, hx, bnd_eq, In_eq, bnd_eq, w64_id (n := -c.B) (by omega) (by omega), inR_iff.2 hx2, up (by omega), ih (i + 1) N (by omega) (by omega)]
    rfl
theorem law_eq (F : Nat) (a : S_ringdownlaw11_Seeds) (hF : 1000 < F) (hw : works F = some true) : law11_RunSeeds F a = some true := by
  unfold law11_RunSeeds
  rw [Noise_eq F _ _ _ (by omega), bnd_eq]
  cases hk : okN a.Seed a.A a.B with
  | false => simp [hw, law11_RunSeeds_1, bnd_eq]
  | true =>
    have hk' := hk
    simp only [okN, Bool.and_eq_true, inR_iff] at hk'
    obtain ⟨⟨s1, s2⟩, ⟨n1, n2⟩, m1, m2⟩ := hk'
    have h5 : okN a.Seed (min 512 (w64 (a.A + 5))) a.B = true := by
      rw [w64_id (by omega) (by omega)]
      simp only [okN, Bool.and_eq_true, inR_iff]
      omega
    simp only [cond_true, beq_self_eq_true, Bool.not_true, cond_false]
    rw [Noise_eq F _ _ _ (by omega), bnd_eq, h5]
    simp only [cond_true, beq_self_eq_true, Bool.not_true, cond_false]
    rw [w64_id (n := a.A + 5) (by omega) (by omega)]
    obtain ⟨n, hn⟩ : ∃ n : Nat, a.A = n := ⟨a.A.toNat, by omega⟩
    obtain ⟨k, hk2⟩ : ∃ k : Nat, (min 512 (a.A + 5)).toNat = n + k := ⟨(min 512 (a.A + 5)).toNat - n, by omega⟩
    rw [hk2, show a.A.toNat = n by omega]
    unfold law11_RunSeeds_2
    have e1 : (((nl a.B n (a.Seed + 1)).length : Int) == a.A) = true := by rw [nl_len]; simp [hn]
    rw [e1]
    simp only [Bool.not_true, cond_false]
    rw [subP_ok (len := (nl a.B (n + k) (a.Seed + 1)).length) (lo := 0) (hi := min ((nl a.B (n + k) (a.Seed + 1)).length : Int) a.A) (a := 0) (b := n) rfl (by rw [nl_len]; omega) (by omega) (by rw [nl_len]; omega), bnd_eq, parL_ok (by simp [nl_len]), bnd_eq]
    simp only [Nat.zero_add, Nat.sub_zero, List.drop_zero]
    rw [nl_take, SameInts_eq F _ _ (by rw [nl_len]; omega) (by rw [nl_len]; omega), bnd_eq]
    simp only [decide_true, Bool.not_true]
    unfold law11_RunSeeds_3
    simp only [cond_false]
    have := seeds_loop F hw a (by omega) (by omega) (nl a.B n (a.Seed + 1)) (by rw [nl_len]; omega) (nl_in m1 m2 n _ (by omega) (by omega)) n 0 F (by rw [nl_len]; omega) (by omega)
    exact this
end Go.Ev.RunSeeds
