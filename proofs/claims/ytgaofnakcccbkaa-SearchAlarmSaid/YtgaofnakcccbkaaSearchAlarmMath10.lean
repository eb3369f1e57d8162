/- Statistics: what the program says. -/
import Derived.Test.YtgaofnakcccbkaaSearchAlarmMath9
namespace Go.Ev.SearchAlarm
open Go Go.Ev Go.Proofs
set_option linter.unusedVariables false
def stF (c : S_search_clock) (a b : List S_api_Trigger) : Nat → Nat → List Int
  | 0, _ => []
  | m + 1, j => louF (-1) (prs c (sld c.live ((j : Int) * c.step) b) 0 a) :: stF c a b m (j + 1)
theorem stF_len (c : S_search_clock) (a b : List S_api_Trigger) : ∀ m j, (stF c a b m j).length = m
  | 0, _ => rfl
  | m + 1, j => by rw [stF, List.length_cons, stF_len c a b m (j + 1)]
def cntS (c : S_search_clock) : Nat := (Int.tdiv c.live c.step).toNat
theorem cntS_ok {c : S_search_clock} (h : okC c = true) : Int.tdiv c.live c.step = (cntS c : Int) ∧ cntS c ≤ 256 ∧ 1 ≤ cntS c ∧ ∀ j : Nat, j < cntS c → 0 ≤ (j : Int) * c.step ∧ (j : Int) * c.step < c.live := by
  obtain ⟨h1, h2, _, _, h5, h6⟩ := okC_live h
  have ht := tdiv_in h5 h6 h2
  rw [okC, Bool.and_eq_true] at h
  have h256 := of_decide_eq_true ((Bool.and_eq_true _ _).mp h.2).2
  have e : Int.tdiv c.live c.step = (cntS c : Int) := (Int.toNat_of_nonneg ht.1).symm
  have he : Int.tdiv c.live c.step = c.live / c.step := Int.tdiv_eq_ediv_of_nonneg (by omega)
  have h7 : 1 ≤ c.live / c.step := by
    rw [Int.le_ediv_iff_mul_le (by omega)]
    omega
  refine ⟨e, by omega, by omega, fun j hj => ⟨Int.mul_nonneg (by omega) (by omega), ?_⟩⟩
  have h8 : (cntS c : Int) * c.step ≤ c.live := by
    rw [← e, he]
    exact Int.ediv_mul_le _ (by omega)
  have h9 : ((j : Int) + 1) * c.step ≤ (cntS c : Int) * c.step := Int.mul_le_mul_of_nonneg_right (by omega) (by omega)
  rw [Int.add_mul, Int.one_mul] at h9
  omega
theorem loud_eq (F : Nat) (hF : 256 < F) (a b : List S_api_Trigger) (c : S_search_clock) (ha : a.length ≤ 256) (hb : b.length ≤ 256) (hA : ∀ y ∈ a, okA y) (hB : ∀ y ∈ b, okA y) (hc : 0 ≤ c.live ∧ c.live ≤ 1073741824) : search_clock_loudest F c a b = some (louF (-1) (prs c b 0 a)) := by
  unfold search_clock_loudest
  exact lou1 F hF a b c 0 ha hb hA hB hc a.length F 0 (-1) rfl (Nat.zero_le _) (Nat.lt_of_le_of_lt ha hF)
theorem stat1 (F : Nat) (hF : 256 < F) (a b : List S_api_Trigger) (c : S_search_clock) (ha : okT a = true) (hb : okT b = true) (hc : okC c = true) : ∀ (k N j : Nat) (acc : List Int), k = cntS c - j → j ≤ cntS c → k < N → acc.length = j →
    search_clock_statistics_1 F N a b (cntS c) j c acc = some (acc ++ stF c a b k j)
  | k, 0, j, acc, _, _, h, _ => by omega
  | 0, N + 1, j, acc, hk, hj, _, _ => by
    rw [search_clock_statistics_1, bif_neg' (by omega : ¬ ((j : Int) < (cntS c : Int))), stF, List.append_nil]
  | k + 1, N + 1, j, acc, hk, hj, hN, hacc => by
    obtain ⟨_, h256, _, hjs⟩ := cntS_ok hc
    obtain ⟨h1, h2, _⟩ := okC_live hc
    obtain ⟨d1, d2⟩ := hjs j (by omega)
    rw [search_clock_statistics_1, bif_pos' (by omega : ((j : Int) < (cntS c : Int))), w64_id (n := (j : Int) * c.step) (by omega) (by omega), slide_eq F hF c _ ⟨d1, by omega⟩ ⟨h1, h2⟩ b (okT_len hb) (okT_ok hb), bnd_eq,
      loud_eq F hF a _ c (okT_len ha) (by rw [sld_len]; exact okT_len hb) (okT_ok ha) (sld_okA d1 ⟨h1, h2⟩ (okT_ok hb)) ⟨by omega, h2⟩, bnd_eq, apd_ok (by simp; omega) (by omega), bnd_eq, up (by omega),
      stat1 F hF a b c ha hb hc k N (j + 1) _ (by omega) (by omega) (by omega) (by simp; omega), List.append_assoc]
    rfl
theorem stat_eq (F : Nat) (hF : 256 < F) (a b : List S_api_Trigger) (c : S_search_clock) (ha : okT a = true) (hb : okT b = true) (hc : okC c = true) : search_clock_statistics F c a b = some (stF c a b (cntS c) 0) := by
  obtain ⟨e, h256, _, hjs⟩ := cntS_ok hc
  obtain ⟨h1, h2, _, _, h5, h6⟩ := okC_live hc
  unfold search_clock_statistics
  rw [slides_eq F c h5 h6 h2, bnd_eq, e]
  exact stat1 F hF a b c ha hb hc (cntS c) F 0 [] rfl (Nat.zero_le _) (by omega) rfl
theorem Stat_eq (F : Nat) (a b : List S_api_Trigger) (T w s : Int) (hF0 : 256 < F) (ha : a.length ≤ 9223372036854775807) (hb : b.length ≤ 9223372036854775807) (hFa : a.length < F) (hFb : b.length < F) :
    search_Statistics F a b T w s = some (bif chkE ⟨T, w, s⟩ [a, b] == 0 then stF ⟨T, w, s⟩ a b (cntS ⟨T, w, s⟩) 0 else [], chkE ⟨T, w, s⟩ [a, b]) := by
  unfold search_Statistics
  rw [check_eq F ⟨T, w, s⟩ [a, b] hF0 (by simp) (by simp; omega) (by simp; omega), bnd_eq]
  show (bif !(chkE ⟨T, w, s⟩ [a, b] == 0) then some ([], chkE ⟨T, w, s⟩ [a, b]) else _) = _
  cases e : (chkE ⟨T, w, s⟩ [a, b] == 0) with
  | false => rfl
  | true =>
    rw [beq_iff_eq] at e
    obtain ⟨h1, h2, h3⟩ := chkE_0.1 e
    simp only [List.all_cons, List.all_nil, Bool.and_true, Bool.and_eq_true] at h1
    rw [e, Bool.not_true, cond_false, stat_eq F hF0 a b ⟨T, w, s⟩ h1.1 h1.2 h2]
    rfl
end Go.Ev.SearchAlarm
