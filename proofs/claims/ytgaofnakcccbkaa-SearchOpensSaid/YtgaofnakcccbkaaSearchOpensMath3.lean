/- Waves: what the program's check says. -/
import Derived.Test.YtgaofnakcccbkaaSearchOpensMath2
namespace Go.Ev.SearchOpens
open Go Go.Ev Go.Proofs
set_option linter.unusedVariables false
def wOk (w : S_api_Wave) : Bool := inR (-64) w.Gain 64 && (inR 1 w.Samples.length 64 && w.Samples.all fun x => inR (-256) x 256)
def wvs (n : Int) : Int → List S_api_Wave → Bool
  | _, [] => true
  | last, w :: r => (wOk w && inR (last + 1) w.At (n - (w.Samples.length : Int))) && wvs n w.At r
def wavesB (n : Int) (ws : List S_api_Wave) : Bool := decide (ws.length ≤ 64) && wvs n (-1) ws
theorem isWave_eq (F : Nat) (w : S_api_Wave) (hF : 64 < F) : search_isWave F w = some (wOk w) := by
  unfold search_isWave wOk
  rw [isFrom_eq, bnd_eq]
  cases inR (-64) w.Gain 64 with
  | false => rfl
  | true =>
    rw [cond_true, isFrom_eq, bnd_eq]
    cases e : inR 1 w.Samples.length 64 with
    | false => rfl
    | true =>
      have := inR_iff.1 e
      have h := areFrom1 F w.Samples 256 (by omega) ⟨by decide, by decide⟩ w.Samples.length F 0 rfl (Nat.zero_le _) (by omega)
      rw [List.drop_zero] at h
      unfold search_isWave_1 search_areFrom
      show bnd (search_areFrom_1 F F w.Samples w.Samples.length ((0 : Nat) : Int) 256) _ = _
      rw [h]
      rfl
theorem wOk_len {w : S_api_Wave} (h : wOk w = true) : 1 ≤ w.Samples.length ∧ w.Samples.length ≤ 64 := by
  rw [wOk, Bool.and_eq_true, Bool.and_eq_true] at h
  have := inR_iff.1 h.2.1
  omega
theorem waves1 (F : Nat) (hF : 64 < F) (ws : List S_api_Wave) (hl : ws.length ≤ 64) (n : Int) (hn : 0 ≤ n ∧ n ≤ 1024) : ∀ (k N i : Nat) (last : Int), k = ws.length - i → i ≤ ws.length → k < N → -1 ≤ last → last ≤ 1024 →
    search_areWaves_1 F N n last ws ws.length i = some (wvs n last (ws.drop i))
  | k, 0, i, last, _, _, h, _, _ => by omega
  | 0, N + 1, i, last, hk, hi, _, _, _ => by
    rw [search_areWaves_1, bif_neg' (by omega : ¬ ((i : Int) < ws.length)), List.drop_of_length_le (by omega)]
    rfl
  | k + 1, N + 1, i, last, hk, hi, hN, h1, h2 => by
    obtain ⟨w, hw⟩ := get_lt (l := ws) (i := i) (by omega)
    rw [search_areWaves_1, bif_pos' (by omega : ((i : Int) < ws.length)), idx_nat, hw, bnd_eq, isWave_eq F w hF, bnd_eq, drop_get hw, wvs]
    unfold search_areWaves_2
    cases e : wOk w with
    | false => rfl
    | true =>
      have hlen := wOk_len e
      simp only [Bool.not_true, cond_false, Bool.true_and]
      rw [w64_id (n := last + 1) (by omega) (by omega), w64_id (n := n - _) (by omega) (by omega), isFrom_eq, bnd_eq]
      cases e2 : inR (last + 1) w.At (n - (w.Samples.length : Int)) with
      | false => rfl
      | true =>
        have := inR_iff.1 e2
        simp only [Bool.not_true, cond_false, Bool.true_and]
        rw [up (by omega), waves1 F hF ws hl n hn k N (i + 1) w.At (by omega) (by omega) (by omega) (by omega) (by omega)]
theorem waves_eq (F : Nat) (hF : 64 < F) (ws : List S_api_Wave) (n : Int) (hn : 0 ≤ n ∧ n ≤ 1024) : search_areWaves F ws n = some (wavesB n ws) := by
  unfold search_areWaves wavesB
  by_cases h : (64 : Int) < ws.length
  · rw [bif_pos' h, decide_eq_false (by omega)]
    rfl
  · rw [bif_neg' h, decide_eq_true (by omega), Bool.true_and]
    exact waves1 F hF ws (by omega) n hn ws.length F 0 (-1) rfl (Nat.zero_le _) (by omega) (by omega) (by omega)
/-- What is known of waves that are right. -/
theorem wvs_at {n : Int} : ∀ {ws : List S_api_Wave} {last : Int}, wvs n last ws = true → -1 ≤ last → ∀ w ∈ ws, wOk w = true ∧ 0 ≤ w.At ∧ w.At + (w.Samples.length : Int) ≤ n
  | [], _, _, _, w, h => by cases h
  | b :: r, last, h, h1, w, hw => by
    rw [wvs, Bool.and_eq_true, Bool.and_eq_true] at h
    have := inR_iff.1 h.1.2
    rcases List.mem_cons.1 hw with rfl | hw
    · exact ⟨h.1.1, by omega, by omega⟩
    · exact wvs_at h.2 (by omega) w hw
theorem wavesB_ok {n : Int} {ws : List S_api_Wave} (h : wavesB n ws = true) : ws.length ≤ 64 ∧ ∀ w ∈ ws, wOk w = true ∧ 0 ≤ w.At ∧ w.At + (w.Samples.length : Int) ≤ n := by
  rw [wavesB, Bool.and_eq_true, decide_eq_true_eq] at h
  exact ⟨h.1, wvs_at h.2 (by omega)⟩
end Go.Ev.SearchOpens
