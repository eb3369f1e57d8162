/- SearchVetoed. -/
import Derived.Test.YtmdeiglnjimlnaaSearchVetoedMath8
namespace Go.Ev.SearchVetoed
open Go Go.Ev Go.Proofs
set_option linter.unusedVariables false
theorem louF_le {M : Int} : ∀ (l : List S_api_Pair) (m : Int), louF m l ≤ M ↔ m ≤ M ∧ ∀ p ∈ l, p.Loud ≤ M
  | [], m => ⟨fun h => ⟨h, fun p hp => nomatch hp⟩, fun h => h.1⟩
  | p :: l, m => by
    have ih := louF_le (M := M) l (max m p.Loud)
    have e : louF m (p :: l) = louF (max m p.Loud) l := rfl
    rw [e, ih]
    constructor
    · rintro ⟨h1, h2⟩
      refine ⟨by omega, fun q hq => ?_⟩
      rcases List.mem_cons.1 hq with rfl | hq
      · omega
      · exact h2 q hq
    · rintro ⟨h1, h2⟩
      have := h2 p (by simp)
      exact ⟨by omega, fun q hq => h2 q (by simp [hq])⟩
theorem rowP_mem {c : S_search_clock} {i : Nat} {x : S_api_Trigger} : ∀ {l : List S_api_Trigger} {k : Nat} {p : S_api_Pair}, p ∈ rowP c i x k l → ∃ y ∈ l, isOne c x y = true ∧ p.Loud = x.Loud + y.Loud
  | [], k, p, h => nomatch h
  | y :: r, k, p, h => by
    rw [rowP] at h
    cases e : isOne c x y with
    | true =>
      rw [e, cond_true] at h
      rcases List.mem_cons.1 h with rfl | h
      · exact ⟨y, by simp, e, rfl⟩
      · obtain ⟨z, h1, h2⟩ := rowP_mem h
        exact ⟨z, by simp [h1], h2⟩
    | false =>
      rw [e, cond_false] at h
      obtain ⟨z, h1, h2⟩ := rowP_mem h
      exact ⟨z, by simp [h1], h2⟩
theorem rowP_of {c : S_search_clock} {i : Nat} {x y : S_api_Trigger} (h : isOne c x y = true) : ∀ {l : List S_api_Trigger} {k : Nat}, y ∈ l → ∃ p ∈ rowP c i x k l, p.Loud = x.Loud + y.Loud
  | [], k, hy => nomatch hy
  | z :: r, k, hy => by
    rw [rowP]
    rcases List.mem_cons.1 hy with rfl | hy
    · rw [h, cond_true]
      exact ⟨_, List.mem_cons_self, rfl⟩
    · obtain ⟨p, h1, h2⟩ := rowP_of h (i := i) (k := k + 1) hy
      cases isOne c x z with
      | true => exact ⟨p, by simp [h1], h2⟩
      | false => exact ⟨p, h1, h2⟩
theorem prs_mem {c : S_search_clock} {b : List S_api_Trigger} : ∀ {l : List S_api_Trigger} {i : Nat} {p : S_api_Pair}, p ∈ prs c b i l → ∃ x ∈ l, ∃ y ∈ b, isOne c x y = true ∧ p.Loud = x.Loud + y.Loud
  | [], i, p, h => nomatch h
  | x :: r, i, p, h => by
    rw [prs] at h
    rcases List.mem_append.1 h with h | h
    · obtain ⟨y, h1, h2⟩ := rowP_mem h
      exact ⟨x, by simp, y, h1, h2⟩
    · obtain ⟨z, h1, h2⟩ := prs_mem h
      exact ⟨z, by simp [h1], h2⟩
theorem prs_of {c : S_search_clock} {b : List S_api_Trigger} {x y : S_api_Trigger} (h : isOne c x y = true) (hy : y ∈ b) : ∀ {l : List S_api_Trigger} {i : Nat}, x ∈ l → ∃ p ∈ prs c b i l, p.Loud = x.Loud + y.Loud
  | [], i, hx => nomatch hx
  | z :: r, i, hx => by
    rw [prs]
    rcases List.mem_cons.1 hx with rfl | hx
    · obtain ⟨p, h1, h2⟩ := rowP_of h (i := i) (k := 0) hy
      exact ⟨p, by simp [h1], h2⟩
    · obtain ⟨p, h1, h2⟩ := prs_of h hy (i := i + 1) hx
      exact ⟨p, by simp [h1], h2⟩
theorem lou_mono {c : S_search_clock} {a k : List S_api_Trigger} (h : ∀ x ∈ k, x ∈ a) : louF (-1) (prs c k 0 k) ≤ louF (-1) (prs c a 0 a) := by
  have hM := (louF_le (M := louF (-1) (prs c a 0 a)) (prs c a 0 a) (-1)).1 (Int.le_refl _)
  refine (louF_le _ _).2 ⟨hM.1, fun p hp => ?_⟩
  obtain ⟨x, hx, y, hy, h1, h2⟩ := prs_mem hp
  obtain ⟨q, hq, h3⟩ := prs_of h1 (h y hy) (i := 0) (h x hx)
  have := hM.2 q hq
  omega
theorem rowP_count (c : S_search_clock) (i : Nat) (x : S_api_Trigger) : ∀ (l : List S_api_Trigger) (k : Nat), (rowP c i x k l).length = l.countP (isOne c x)
  | [], k => rfl
  | y :: r, k => by
    rw [rowP, List.countP_cons, ← rowP_count c i x r (k + 1)]
    cases isOne c x y <;> simp
theorem one_self {T : Int} {x y : S_api_Trigger} (hx : okA x) (hy : okA y) (hx2 : x.Time < T) (hy2 : y.Time < T) : isOne ⟨T, 0, T⟩ x y = true ↔ x.Template = y.Template ∧ x.Time = y.Time := by
  unfold isOne dist
  rw [Bool.and_eq_true, beq_iff_eq, decide_eq_true_eq]
  have h1 := hx.1
  have h2 := hy.1
  simp only
  constructor
  · rintro ⟨h3, h4⟩
    exact ⟨h3, by omega⟩
  · rintro ⟨h3, h4⟩
    exact ⟨h3, by omega⟩
theorem count_one {T : Int} : ∀ {a : List S_api_Trigger}, (∀ x ∈ a, okA x ∧ x.Time < T) → a.Pairwise ltT → ∀ x ∈ a, a.countP (isOne ⟨T, 0, T⟩ x) = 1
  | [], _, _, x, h => nomatch h
  | z :: r, ha, hp, x, hx => by
    obtain ⟨p1, p2⟩ := List.pairwise_cons.1 hp
    rw [List.countP_cons]
    rcases List.mem_cons.1 hx with rfl | hx
    · have h1 := ha x (by simp)
      rw [if_pos ((one_self h1.1 h1.1 h1.2 h1.2).2 ⟨rfl, rfl⟩)]
      have : r.countP (isOne ⟨T, 0, T⟩ x) = 0 := by
        rw [List.countP_eq_zero]
        intro y hy hc
        have h2 := ha y (by simp [hy])
        have h3 := (one_self h1.1 h2.1 h1.2 h2.2).1 hc
        have h4 : x.Time < y.Time := p1 y hy
        omega
      omega
    · have h1 := ha x (by simp [hx])
      have h2 := ha z (by simp)
      have h4 : z.Time < x.Time := p1 x hx
      rw [if_neg (fun hc => by have h3 := (one_self h1.1 h2.1 h1.2 h2.2).1 hc; omega), count_one (fun y hy => ha y (by simp [hy])) p2 x hx]
theorem prs_one {T : Int} {a : List S_api_Trigger} (ha : ∀ x ∈ a, okA x ∧ x.Time < T) (hp : a.Pairwise ltT) : ∀ (k : List S_api_Trigger) (i : Nat), (∀ x ∈ k, x ∈ a) → (prs ⟨T, 0, T⟩ a i k).length = k.length
  | [], i, _ => rfl
  | x :: r, i, h => by
    rw [prs, List.length_append, rowP_count, count_one ha hp x (h x (by simp)), prs_one ha hp r (i + 1) (fun y hy => h y (by simp [hy])), List.length_cons]
    omega
theorem ve3 (F : Nat) (hF : 300 < F) (hw : works F = some true) (a : List S_api_Trigger) (ha : a.length ≤ 256) (c : S_ringdownlaw08_Clock) (P : Int → Bool) (ps : List Int) (hps : ps = (a.map fun x => x.Time).filter P) :
    ∀ (k N i : Nat) (acc : List S_api_Trigger), k = a.length - i → i ≤ a.length → k < N → acc = (a.take i).filter (fun x => P x.Time) → law08_SearchVetoed_3 F N a i c ps acc = some true
  | k, 0, i, acc, _, _, h, _ => by omega
  | 0, N + 1, i, acc, hk, hi, _, hacc => by
    rw [List.take_of_length_le (by omega)] at hacc
    have hsub : acc.Sublist a := by rw [hacc]; exact List.filter_sublist
    have hmem : ∀ x ∈ acc, x ∈ a := fun x hx => hsub.subset hx
    have hal : acc.length ≤ 256 := Nat.le_trans hsub.length_le ha
    have hlen : acc.length = ps.length := by
      rw [hacc, hps, List.filter_map, List.length_map]
      rfl
    rw [law08_SearchVetoed_3, bif_neg' (by omega), Loudest_eq F a a c.Live c.Window (by omega) (by omega) (by omega) (by omega) (by omega), bnd_eq]
    by_cases e : chkE ⟨c.Live, c.Window, c.Live⟩ [a, a] = 0
    · obtain ⟨h1, h2, h3⟩ := chkE_0.1 e
      simp only [List.all_cons, List.all_nil, Bool.and_true, Bool.and_eq_true] at h1 h3
      have hl := okC_live h2
      obtain ⟨hA, hP⟩ := okT_fw h1.1
      have hfit := fit_iff.1 h3.1
      have hokk : okT acc = true := okT_bw hal (fun x hx => hA x (hmem x hx)) (List.Pairwise.sublist hsub hP)
      have hfk : fit c.Live acc = true := fit_iff.2 fun x hx => hfit x (hmem x hx)
      have e2 : chkE ⟨c.Live, c.Window, c.Live⟩ [acc, acc] = 0 := chkE_0.2 ⟨by simp [hokk], h2, by simp [hfk]⟩
      have hC0 : okC ⟨c.Live, 0, c.Live⟩ = true := by
        unfold okC
        simp only
        have l1 : 1 ≤ c.Live ∧ c.Live ≤ 1073741824 := ⟨hl.1, hl.2.1⟩
        rw [inR_iff.2 l1, inR_iff.2 (show (0 : Int) ≤ 0 ∧ (0 : Int) ≤ c.Live - 1 by omega), inR_iff.2 (show (1 : Int) ≤ c.Live ∧ c.Live ≤ c.Live by omega), Int.tmod_self, Int.tdiv_self (by omega)]
        rfl
      have e3 : chkE ⟨c.Live, 0, c.Live⟩ [acc, a] = 0 := chkE_0.2 ⟨by simp [hokk, h1.1], hC0, by simp [hfk, h3.1]⟩
      have hm := lou_mono (c := ⟨c.Live, c.Window, c.Live⟩) hmem
      rw [e]
      simp only [beq_self_eq_true, cond_true, Bool.not_true, cond_false]
      rw [Loudest_eq F acc acc c.Live c.Window (by omega) (by omega) (by omega) (by omega) (by omega), bnd_eq, e2]
      simp only [beq_self_eq_true, cond_true, Bool.not_true, cond_false, hlen]
      unfold law08_SearchVetoed_5 law08_SearchVetoed_6 law08_SearchVetoed_7 law08_SearchVetoed_8
      rw [cond_false, decide_eq_false (by omega), cond_false, Coincide_eq F acc a c.Live 0 (by omega) (by omega) (by omega) (by omega) (by omega), bnd_eq, e3]
      simp only [beq_self_eq_true, cond_true]
      rw [prs_one (fun x hx => ⟨hA x hx, hfit x hx⟩) hP acc 0 hmem, hlen, hw]
      simp only [beq_self_eq_true, cond_true, bnd_eq]
    · have e' : (chkE ⟨c.Live, c.Window, c.Live⟩ [a, a] == 0) = false := by rw [beq_eq_false_iff_ne]; exact e
      rw [e']
      simp only [cond_false, Bool.not_false, cond_true, hw, bnd_eq]
  | k + 1, N + 1, i, acc, hk, hi, hN, hacc => by
    obtain ⟨x, hx⟩ := get_lt (l := a) (i := i) (by omega)
    have hal : acc.length ≤ i := by
      rw [hacc]
      have := List.length_filter_le (fun x : S_api_Trigger => P x.Time) (a.take i)
      rw [List.length_take] at this
      omega
    have hpl : ps.length ≤ 256 := by
      rw [hps]
      have := List.length_filter_le P (a.map fun x => x.Time)
      rw [List.length_map] at this
      omega
    obtain ⟨r, h1, h2, _⟩ := find_eq F ps x.Time (by omega) (by omega)
    have hin : x.Time ∈ ps ↔ P x.Time = true := by
      rw [hps, List.mem_filter]
      exact ⟨fun h => h.2, fun h => ⟨List.mem_map.2 ⟨x, List.mem_of_getElem? hx, rfl⟩, h⟩⟩
    have htk : a.take (i + 1) = a.take i ++ [x] := by rw [List.take_add_one, hx]; rfl
    rw [law08_SearchVetoed_3, bif_pos' (by omega), idx_nat, hx, bnd_eq, h1, bnd_eq]
    unfold law08_SearchVetoed_4
    rw [up (by omega)]
    by_cases hp : P x.Time = true
    · rw [bif_pos' (h2.2 (hin.2 hp)), bnd_eq, apd_ok (by simp; omega) (by omega), bnd_eq]
      refine ve3 F hF hw a ha c P ps hps k N (i + 1) _ (by omega) (by omega) (by omega) ?_
      rw [htk, List.filter_append, hacc]
      simp [hp]
    · rw [bif_neg' (fun h => hp (hin.1 (h2.1 h)))]
      refine ve3 F hF hw a ha c P ps hps k N (i + 1) _ (by omega) (by omega) (by omega) ?_
      rw [htk, List.filter_append, hacc]
      simp [hp]
theorem ve1 (F : Nat) (hF : 300 < F) (hw : works F = some true) (a : List S_api_Trigger) (hal : a.length ≤ 17000000000000) (l : List S_api_Veto) (c : S_ringdownlaw08_Clock) : ∀ (k N i : Nat) (acc : List Int), k = a.length - i → i ≤ a.length → k < N → acc = (a.take i).map (fun x => x.Time) → law08_SearchVetoed_1 F N a l i c acc = some true
  | k, 0, i, acc, _, _, h, _ => by omega
  | 0, N + 1, i, acc, hk, hi, _, hacc => by
    rw [List.take_of_length_le (by omega)] at hacc
    rw [law08_SearchVetoed_1, bif_neg' (by omega)]
    rcases Passed_ex F hF l acc with ⟨e, he, h⟩ | ⟨hlen, h⟩
    · have e' : (e == 0) = false := by rw [beq_eq_false_iff_ne]; exact he
      rw [h, bnd_eq]
      unfold law08_SearchVetoed_2
      simp only [e', Bool.not_false, cond_true, List.length_nil, hw, bnd_eq]
      rfl
    · rw [h, bnd_eq]
      simp only [beq_self_eq_true, Bool.not_true, cond_false]
      rw [hacc, List.length_map] at hlen
      exact ve3 F hF hw a hlen c (passB l) _ (by rw [hacc]) a.length F 0 [] rfl (by omega) (by omega) (by simp)
  | k + 1, N + 1, i, acc, hk, hi, hN, hacc => by
    obtain ⟨x, hx⟩ := get_lt (l := a) (i := i) (by omega)
    have htk : a.take (i + 1) = a.take i ++ [x] := by rw [List.take_add_one, hx]; rfl
    have hl : acc.length = i := by rw [hacc, List.length_map, List.length_take]; omega
    have hap : apd 8 acc [x.Time] = some (acc ++ [x.Time]) := by
      unfold apd
      rw [show Nat.ble (acc.length + [x.Time].length) 4611686018427387904 = true from Nat.ble_eq_true_of_le (by simp; omega), show Nat.ble (2 * (acc.length + [x.Time].length) * 8) 281474976710656 = true from Nat.ble_eq_true_of_le (by simp; omega)]
      rfl
    rw [law08_SearchVetoed_1, bif_pos' (by omega), idx_nat, hx, bnd_eq, hap, bnd_eq, up (by omega)]
    refine ve1 F hF hw a hal l c k N (i + 1) _ (by omega) (by omega) (by omega) ?_
    rw [htk, List.map_append, hacc]
    rfl
theorem law_eq (F : Nat) (a : List S_api_Trigger) (c : S_ringdownlaw08_Clock) (l : List S_api_Veto) (hal : a.length ≤ 17000000000000) (hF : a.length + 400 < F) (hw : works F = some true) : law08_SearchVetoed F a c l = some true := by
  unfold law08_SearchVetoed
  exact ve1 F (by omega) hw a hal l c a.length F 0 [] rfl (by omega) (by omega) (by simp)
end Go.Ev.SearchVetoed
