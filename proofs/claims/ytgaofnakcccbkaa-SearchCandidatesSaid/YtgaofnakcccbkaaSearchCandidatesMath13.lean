/- Triggers slid, and statistics: what the specification says. -/
import Derived.Test.YtgaofnakcccbkaaSearchCandidatesMath12
namespace Go.Ev.SearchCandidates
open Go Go.Ev Go.Proofs
set_option linter.unusedVariables false
theorem filt {T d : Int} : ∀ {l : List S_api_Trigger}, l.Pairwise ltT → l.filter (before T d) = l.takeWhile (before T d) ∧ l.filter (fun a => !before T d a) = l.dropWhile (before T d)
  | [], _ => ⟨rfl, rfl⟩
  | a :: l, hp => by
    obtain ⟨p1, p2⟩ := List.pairwise_cons.1 hp
    obtain ⟨g1, g2⟩ := filt (T := T) (d := d) p2
    rw [List.filter_cons, List.filter_cons, List.takeWhile_cons, List.dropWhile_cons]
    cases e : before T d a with
    | true => simp [g1, g2]
    | false =>
      have hall : ∀ b ∈ l, before T d b = false := fun b hb => by
        have h1 := of_decide_eq_false e
        have h2 : a.Time < b.Time := p1 b hb
        exact decide_eq_false (by omega)
      refine ⟨?_, ?_⟩
      · simp only [Bool.false_eq_true, if_false]
        exact List.filter_eq_nil_iff.2 fun b hb => by simp [hall b hb]
      · simp only [Bool.not_false, if_true, Bool.false_eq_true, if_false]
        rw [List.filter_eq_self.2 fun b hb => by simp [hall b hb]]
theorem rslid1 (F : Nat) (T d : Int) (hd : 0 ≤ d ∧ d ≤ 1073741824) (hT : 1 ≤ T ∧ T ≤ 1073741824) (l : List S_api_Trigger) (hl : l.length ≤ 256) (hA : ∀ a ∈ l, okA a) : ∀ (k N i : Nat) (X Y : List S_api_Trigger), k = l.length - i → i ≤ l.length → k < N → X.length + Y.length ≤ i →
    ref08_slid_1 F N l T d i X Y = some ((X ++ ((l.drop i).filter fun a => !before T d a).map (mv T d)) ++ (Y ++ ((l.drop i).filter (before T d)).map (mv T d)))
  | k, 0, i, X, Y, _, _, h, _ => by omega
  | 0, N + 1, i, X, Y, hk, hi, _, hxy => by
    rw [ref08_slid_1, bif_neg' (by omega : ¬ ((i : Int) < l.length)), List.drop_of_length_le (by omega), apd_ok (by omega) (by omega), bnd_eq, List.filter_nil, List.filter_nil, List.map_nil, List.append_nil, List.append_nil]
  | k + 1, N + 1, i, X, Y, hk, hi, hN, hxy => by
    obtain ⟨a, ha⟩ := get_lt (l := l) (i := i) (by omega)
    obtain ⟨a1, a2, _⟩ := hA a (List.mem_of_getElem? ha)
    rw [ref08_slid_1, bif_pos' (by omega : ((i : Int) < l.length)), idx_nat, ha, bnd_eq, nz_ok (by omega), bnd_eq, bnd_eq, w64_id (n := a.Time + d) (by omega) (by omega), drop_get ha, List.filter_cons, List.filter_cons]
    unfold ref08_slid_2
    by_cases h : T ≤ a.Time + d
    · have e : before T d a = false := decide_eq_false (by omega)
      rw [bif_pos' h, apd_ok (by simp; omega) (by omega), bnd_eq, up (by omega), rslid1 F T d hd hT l hl hA k N (i + 1) _ _ (by omega) (by omega) (by omega) (by simp; omega), e]
      simp [mv]
    · have e : before T d a = true := decide_eq_true (by omega)
      rw [bif_neg' h, apd_ok (by simp; omega) (by omega), bnd_eq, up (by omega), rslid1 F T d hd hT l hl hA k N (i + 1) _ _ (by omega) (by omega) (by omega) (by simp; omega), e]
      simp [mv]
theorem rslid_eq (F : Nat) (hF : 256 < F) (T d : Int) (hd : 0 ≤ d ∧ d ≤ 1073741824) (hT : 1 ≤ T ∧ T ≤ 1073741824) (l : List S_api_Trigger) (hl : okT l = true) : ref08_slid F l T d = some (sld T d l) := by
  obtain ⟨hA, hp⟩ := okT_fw hl
  unfold ref08_slid
  have := rslid1 F T d hd hT l (okT_len hl) hA l.length F 0 [] [] rfl (Nat.zero_le _) (by have := okT_len hl; omega) (Nat.le_refl _)
  obtain ⟨g1, g2⟩ := filt (T := T) (d := d) hp
  rw [List.drop_zero, g1, g2, List.nil_append, List.nil_append, ← List.map_append] at this
  exact this
end Go.Ev.SearchCandidates
