/- Statistics of the specification. -/
import Derived.Test.YtgaofnakcccbkaaSearchCandidatesMath13
namespace Go.Ev.SearchCandidates
open Go Go.Ev Go.Proofs
set_option linter.unusedVariables false
theorem rstat1 (F : Nat) (hF : 65536 < F) (a b : List S_api_Trigger) (c : S_ringdownref08_Clock) (ha : okT a = true) (hb : okT b = true) (hc : okC (rC c) = true) : ∀ (k N j : Nat) (acc : List Int), k = cntS (rC c) - j → j ≤ cntS (rC c) → k < N → acc.length = j →
    ref08_statistics_1 F N a b j c acc = some (acc ++ stF (rC c) a b k j)
  | k, 0, j, acc, _, _, h, _ => by omega
  | 0, N + 1, j, acc, hk, hj, _, _ => by
    obtain ⟨e, h256, _, hjs⟩ := cntS_ok hc
    obtain ⟨h1, h2, _, _, h5, h6⟩ := okC_live hc
    have e' : Int.tdiv c.Live c.Step = (cntS (rC c) : Int) := e
    have h5' : 1 ≤ c.Step := h5
    rw [ref08_statistics_1, nz_ok (by omega), bnd_eq, e', w64_id (n := ((cntS (rC c) : Nat) : Int)) (by omega) (by omega), bif_neg' (by omega), stF, List.append_nil]
  | k + 1, N + 1, j, acc, hk, hj, hN, hacc => by
    obtain ⟨e, h256, _, hjs⟩ := cntS_ok hc
    obtain ⟨h1, h2, _, _, h5, h6⟩ := okC_live hc
    obtain ⟨d1, d2⟩ := hjs j (by omega)
    have e' : Int.tdiv c.Live c.Step = (cntS (rC c) : Int) := e
    have h5' : 1 ≤ c.Step := h5
    have h1' : 1 ≤ c.Live := h1
    have h2' : c.Live ≤ 1073741824 := h2
    have d1' : 0 ≤ (j : Int) * c.Step := d1
    have d2' : (j : Int) * c.Step < c.Live := d2
    have hsl : (sld c.Live ((j : Int) * c.Step) b).length ≤ 256 := by rw [sld_len]; exact okT_len hb
    have hsA : ∀ y ∈ sld c.Live ((j : Int) * c.Step) b, okA y := sld_okA d1' ⟨h1', h2'⟩ (okT_ok hb)
    have hco : ref08_coincide F a (sld c.Live ((j : Int) * c.Step) b) c = some (prs (rC c) (sld c.Live ((j : Int) * c.Step) b) 0 a) := by
      unfold ref08_coincide
      exact rcoin1 F (by omega) a _ c (okT_len ha) hsl (okT_ok ha) hsA ⟨by omega, h2'⟩ a.length F 0 [] rfl (Nat.zero_le _) (by have := okT_len ha; omega) (Nat.zero_le _)
    rw [ref08_statistics_1, nz_ok (by omega), bnd_eq, e', w64_id (n := ((cntS (rC c) : Nat) : Int)) (by omega) (by omega), bif_pos' (by omega), w64_id (n := (j : Int) * c.Step) (by omega) (by omega), rslid_eq F (by omega) c.Live _ ⟨d1', by omega⟩ ⟨h1', h2'⟩ b hb, bnd_eq,
      hco, bnd_eq, rloudest_eq F _ (prs_len2 (okT_len ha) hsl) hF, bnd_eq, apd_ok (by simp; omega) (by omega), bnd_eq, up (by omega),
      rstat1 F hF a b c ha hb hc k N (j + 1) _ (by omega) (by omega) (by omega) (by simp; omega), List.append_assoc]
    rfl
end Go.Ev.SearchCandidates
