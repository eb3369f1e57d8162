/- Triggers slid, and statistics: what the specification says. -/
import Derived.Test.YtcifnjdjnoadfaaSearchSlidesMath12
namespace Go.Ev.SearchSlides
open Go Go.Ev Go.Proofs
set_option linter.unusedVariables false
theorem filt {T d : Int} : ∀ {l : List S_api_Trigger}, l.Pairwise ltT → l.filter (before T d) = l.takeWhile (before T d) ∧ l.filter (fun a => !before T d a) = l.dropWhile (before T d)
  | [], _ => ⟨rfl, rfl⟩
  | a :: l, hp => by
    obtain ⟨p1, p2⟩ := List.pairwise_cons.1 hp
    obtain ⟨g1, g2⟩ := filt (T := T) (d := d) p2
    rw [List.filter_cons, List.filter_cons, List.takeWhile_cons, List.dropWhile_cons]
    cases e : before T d a with
    | true => simp [g1, g2]
    | false =>
      have hall : ∀ b ∈ l, before T d b = false := fun b hb => by
        have h1 := of_decide_eq_false e
        have h2 : a.Time < b.Time := p1 b hb
        exact decide_eq_false (by omega)
      refine ⟨?_, ?_⟩
      · simp only [Bool.false_eq_true, if_false]
        exact List.filter_eq_nil_iff.2 fun b hb => by simp [hall b hb]
      · simp only [Bool.not_false, if_true, Bool.false_eq_true, if_false]
        rw [List.filter_eq_self.2 fun b hb => by simp [hall b hb]]
theorem rslid1 (F : Nat) (T d : Int) (hd : 0 ≤ d ∧ d ≤ 1073741824) (hT : 1 ≤ T ∧ T ≤ 1073741824) (l : List S_api_Trigger) (hl : l.length ≤ 256) (hA : ∀ a ∈ l, okA a) : ∀ (k N i : Nat) (X Y : List S_api_Trigger), k = l.length - i → i ≤ l.length → k < N → X.length + Y.length ≤ i →
    ref08_slid_1 F N l T d i X Y = some ((X ++ ((l.drop i).filter fun a => !before T d a).map (mv T d)) ++ (Y ++ ((l.drop i).filter (before T d)).map (mv T d)))
  | k, 0, i, X, Y, _, _, h, _ => by omega
  | 0, N + 1, i, X, Y, hk, hi, _, hxy => by
    rw [ref08_slid_1, bif_neg' (by omega : ¬ ((i : Int) < l.length)), List.drop_of_length_le (by omega), apd_ok (by omega) (by omega), bnd_eq, List.filter_nil, List.filter_nil, List.map_nil, List.append_nil, List.append_nil]
  | k + 1, N + 1, i, X, Y, hk, hi, hN, hxy => by
    obtain ⟨a, ha⟩ := get_lt (l := l) (i := i) (by omega)
    obtain ⟨a1, a2, _⟩ := hA a (List.mem_of_getElem? ha)
    rw [ref08_slid_1, bif_pos' (by omega : ((i : Int) < l.length)), idx_nat, ha, bnd_eq, nz_ok (by omega), bnd_eq, bnd_eq, w64_id (n := a.Time + d) (by omega) (by omega), drop_get ha, List.filter_cons, List.filter_cons]
    unfold ref08_slid_2
    by_cases h : T ≤ a.Time + d
    · have e : before T d a = false := decide_eq_false (by omega)
      rw [bif_pos' h, apd_ok (by simp; omega) (by omega), bnd_eq, up (by omega), rslid1 F T d hd hT l hl hA k N (i + 1) _ _ (by omega) (by omega) (by omega) (by simp; omega), e]
      simp [mv]
    · have e : before T d a = true := decide_eq_true (by omega)
      rw [bif_neg' h, apd_ok (by simp; omega) (by omega), bnd_eq, up (by omega), rslid1 F T d hd hT l hl hA k N (i + 1) _ _ (by omega) (by omega) (by omega) (by simp; omega), e]
      simp [mv]
theorem rslid_eq (F : Nat) (hF : 256 < F) (T d : Int) (hd : 0 ≤ d ∧ d ≤ 1073741824) (hT : 1 ≤ T ∧ T ≤ 1073741824) (l : List S_api_Trigger) (hl : okT l = true) : ref08_slid F l T d = some (sld T d l) := by
  obtain ⟨hA, hp⟩ := okT_fw hl
  unfold ref08_slid
  have := rslid1 F T d hd hT l (okT_len hl) hA l.length F 0 [] [] rfl (Nat.zero_le _) (by have := okT_len hl; omega) (Nat.le_refl _)
  obtain ⟨g1, g2⟩ := filt (T := T) (d := d) hp
  rw [List.drop_zero, g1, g2, List.nil_append, List.nil_append, ← List.map_append] at this
  exact this
theorem rSlide_eq (F : Nat) (hF : 256 < F) (l : List S_api_Trigger) (T d : Int) (hl : l.length ≤ 9223372036854775807) : ref08_Slide F l T d = some (bif errS T l d == 0 then sld T d l else [], errS T l d) := by
  have hn : okT [] = true := rfl
  have hf : fit T [] = true := rfl
  have hE : (bif [[], l].all okT then (bif okC (rC ⟨T, 0, T⟩) && [[], l].all (fit T) then 0 else 81) else 80 : Int) = chkE ⟨T, 0, T⟩ [l] := by
    unfold chkE
    simp only [List.all_cons, List.all_nil, hn, hf, Bool.true_and]
    rfl
  unfold ref08_Slide errS
  rw [ready_eq F [] l ⟨T, 0, T⟩ hF (by simp) hl, bnd_eq, hE]
  cases e : (chkE ⟨T, 0, T⟩ [l] == 0) with
  | false => simp only [Bool.not_false, cond_true, cond_false, e]
  | true =>
    have e' := e
    rw [beq_iff_eq] at e'
    obtain ⟨h1, h2, h3⟩ := chkE_0.1 e'
    simp only [List.all_cons, List.all_nil, Bool.and_true] at h1
    obtain ⟨t1, t2, _⟩ := okC_live h2
    have t1' : 1 ≤ T := t1
    have t2' : T ≤ 1073741824 := t2
    rw [Bool.not_true, cond_false, w64_id (n := T - 1) (by omega) (by omega), In_eq, bnd_eq]
    cases e2 : inR 0 d (T - 1) with
    | false => rfl
    | true =>
      have hd := inR_iff.1 e2
      simp only [Bool.not_true, cond_false, cond_true, beq_self_eq_true]
      rw [rslid_eq F hF T d ⟨by omega, by omega⟩ ⟨t1', t2'⟩ l h1]
      rfl
theorem rstat1 (F : Nat) (hF : 65536 < F) (a b : List S_api_Trigger) (c : S_ringdownref08_Clock) (ha : okT a = true) (hb : okT b = true) (hc : okC (rC c) = true) : ∀ (k N j : Nat) (acc : List Int), k = cntS (rC c) - j → j ≤ cntS (rC c) → k < N → acc.length = j →
    ref08_statistics_1 F N a b j c acc = some (acc ++ stF (rC c) a b k j)
  | k, 0, j, acc, _, _, h, _ => by omega
  | 0, N + 1, j, acc, hk, hj, _, _ => by
    obtain ⟨e, h256, _, hjs⟩ := cntS_ok hc
    obtain ⟨h1, h2, _, _, h5, h6⟩ := okC_live hc
    have e' : Int.tdiv c.Live c.Step = (cntS (rC c) : Int) := e
    have h5' : 1 ≤ c.Step := h5
    rw [ref08_statistics_1, nz_ok (by omega), bnd_eq, e', w64_id (n := ((cntS (rC c) : Nat) : Int)) (by omega) (by omega), bif_neg' (by omega), stF, List.append_nil]
  | k + 1, N + 1, j, acc, hk, hj, hN, hacc => by
    obtain ⟨e, h256, _, hjs⟩ := cntS_ok hc
    obtain ⟨h1, h2, _, _, h5, h6⟩ := okC_live hc
    obtain ⟨d1, d2⟩ := hjs j (by omega)
    have e' : Int.tdiv c.Live c.Step = (cntS (rC c) : Int) := e
    have h5' : 1 ≤ c.Step := h5
    have h1' : 1 ≤ c.Live := h1
    have h2' : c.Live ≤ 1073741824 := h2
    have d1' : 0 ≤ (j : Int) * c.Step := d1
    have d2' : (j : Int) * c.Step < c.Live := d2
    have hsl : (sld c.Live ((j : Int) * c.Step) b).length ≤ 256 := by rw [sld_len]; exact okT_len hb
    have hsA : ∀ y ∈ sld c.Live ((j : Int) * c.Step) b, okA y := sld_okA d1' ⟨h1', h2'⟩ (okT_ok hb)
    have hco : ref08_coincide F a (sld c.Live ((j : Int) * c.Step) b) c = some (prs (rC c) (sld c.Live ((j : Int) * c.Step) b) 0 a) := by
      unfold ref08_coincide
      exact rcoin1 F (by omega) a _ c (okT_len ha) hsl (okT_ok ha) hsA ⟨by omega, h2'⟩ a.length F 0 [] rfl (Nat.zero_le _) (by have := okT_len ha; omega) (Nat.zero_le _)
    rw [ref08_statistics_1, nz_ok (by omega), bnd_eq, e', w64_id (n := ((cntS (rC c) : Nat) : Int)) (by omega) (by omega), bif_pos' (by omega), w64_id (n := (j : Int) * c.Step) (by omega) (by omega), rslid_eq F (by omega) c.Live _ ⟨d1', by omega⟩ ⟨h1', h2'⟩ b hb, bnd_eq,
      hco, bnd_eq, rloudest_eq F _ (prs_len2 (okT_len ha) hsl) hF, bnd_eq, apd_ok (by simp; omega) (by omega), bnd_eq, up (by omega),
      rstat1 F hF a b c ha hb hc k N (j + 1) _ (by omega) (by omega) (by omega) (by simp; omega), List.append_assoc]
    rfl
theorem rStat_eq (F : Nat) (a b : List S_api_Trigger) (T w s : Int) (hF0 : 65536 < F) (ha : a.length ≤ 9223372036854775807) (hb : b.length ≤ 9223372036854775807) :
    ref08_Statistics F a b T w s = some (bif chkE ⟨T, w, s⟩ [a, b] == 0 then stF ⟨T, w, s⟩ a b (cntS ⟨T, w, s⟩) 0 else [], chkE ⟨T, w, s⟩ [a, b]) := by
  unfold ref08_Statistics
  rw [ready_eq F a b ⟨T, w, s⟩ (by omega) ha hb, bnd_eq]
  show (bif !(chkE ⟨T, w, s⟩ [a, b] == 0) then some ([], chkE ⟨T, w, s⟩ [a, b]) else _) = _
  cases e : (chkE ⟨T, w, s⟩ [a, b] == 0) with
  | false => rfl
  | true =>
    rw [beq_iff_eq] at e
    obtain ⟨h1, h2, h3⟩ := chkE_0.1 e
    simp only [List.all_cons, List.all_nil, Bool.and_true, Bool.and_eq_true] at h1
    rw [e, Bool.not_true, cond_false]
    unfold ref08_statistics
    have := rstat1 F hF0 a b ⟨T, w, s⟩ h1.1 h1.2 h2 (cntS ⟨T, w, s⟩) F 0 [] rfl (Nat.zero_le _) (by have := (cntS_ok h2).2.1; omega) rfl
    rw [List.nil_append] at this
    show bnd (ref08_statistics_1 F F a b ((0 : Nat) : Int) ⟨T, w, s⟩ []) _ = _
    rw [this]
    rfl
end Go.Ev.SearchSlides
