/- SkyRings. -/
import Derived.Test.YtkmmplbbefijaaaGreatDoorSkyRingsMath12
namespace Go.Ev.SkyRings
open Go Go.Ev Go.Proofs
set_option linter.unusedVariables false
theorem ra1 (F : Nat) (l : List S_api_Site) (hl : 2 ≤ l.length ∧ l.length ≤ 6) (t : List S_api_Arrival) (ht : t.length ≤ 9223372036854775807) : ∀ (k N i : Nat) (last : Int), k = t.length - i → i ≤ t.length → k < N → (-1 ≤ last ∧ last < 1000) → (i = 0 → last = -1) → (∀ j, i = j + 1 → 0 ≤ last ∧ ∃ a, t[j]? = some a ∧ a.Site = last) → ref09_arrivals_1 F N l t i = some (arrGo l.length last (t.drop i) && decide (2 ≤ t.length))
  | k, 0, i, last, _, _, h, _, _, _ => by omega
  | 0, N + 1, i, last, hk, hi, _, _, _, _ => by
    rw [ref09_arrivals_1, bif_neg' (by omega), List.drop_of_length_le (by omega)]
    show some (decide ((2 : Int) ≤ (t.length : Int))) = some (true && decide (2 ≤ t.length))
    rw [Bool.true_and, decide_eq_decide.2 (show (2 : Int) ≤ (t.length : Int) ↔ 2 ≤ t.length by omega)]
  | k + 1, N + 1, i, last, hk, hi, hN, hlast, h0, h1 => by
    obtain ⟨a, ha⟩ := get_lt (l := t) (i := i) (by omega)
    have e : inR (last + 1) a.Site (l.length - 1) = (inR 0 a.Site (l.length - 1) && !decide (a.Site ≤ last)) ∨ i = 0 := by
      by_cases hz : i = 0
      · exact .inr hz
      · have h2 := (h1 (i - 1) (by omega)).1
        refine .inl ?_
        by_cases h : last + 1 ≤ a.Site ∧ a.Site ≤ l.length - 1
        · rw [inR_iff.2 h, inR_iff.2 (by omega), decide_eq_false (by omega)]; rfl
        · rw [inR_false.2 h]
          by_cases h3 : a.Site ≤ last
          · rw [decide_eq_true h3, Bool.not_true, Bool.and_false]
          · rw [inR_false.2 (by omega), Bool.false_and]
    have next : inR 0 a.Site (l.length - 1) = true → ref09_arrivals_1 F N l t ((i + 1 : Nat) : Int) = some (arrGo l.length a.Site (t.drop (i + 1)) && decide (2 ≤ t.length)) := by
      intro e1
      have i1 := inR_iff.1 e1
      exact ra1 F l hl t ht k N (i + 1) a.Site (by omega) (by omega) (by omega) (by omega) (by omega) (fun j hj => ⟨by omega, a, by rw [show j = i by omega]; exact ha, rfl⟩)
    rw [ref09_arrivals_1, bif_pos' (by omega), idx_nat, ha, bnd_eq, w64_id (n := (l.length : Int) - 1) (by omega) (by omega), In_eq, bnd_eq, drop_get ha]
    show _ = some (((inR (last + 1) a.Site (l.length - 1) && (inR (-1099511627776) a.Time 1099511627776 && inR 0 a.Slack 65536)) && arrGo l.length a.Site (t.drop (i + 1))) && decide (2 ≤ t.length))
    unfold ref09_arrivals_2
    rw [up (by omega)]
    cases e1 : inR 0 a.Site (l.length - 1) with
    | false =>
      have : inR (last + 1) a.Site (l.length - 1) = false := by
        rw [inR_false] at e1 ⊢
        omega
      rw [this]
      rfl
    | true =>
      rw [Bool.not_true, bif_f', bnd_eq, In_eq, bnd_eq]
      cases e2 : inR (-1099511627776) a.Time 1099511627776 with
      | false => rw [Bool.false_and, Bool.and_false]; rfl
      | true =>
        rw [Bool.not_true, bif_f', bnd_eq, In_eq, bnd_eq]
        cases e3 : inR 0 a.Slack 65536 with
        | false => rw [Bool.and_false, Bool.and_false]; rfl
        | true =>
          rw [Bool.not_true, bif_f', next e1]
          rcases e with e | hz
          · by_cases hz : i = 0
            · rw [bif_neg' (by omega)]
              have := h0 hz
              subst this
              rw [show (-1 : Int) + 1 = 0 by decide, e1]
              rfl
            · obtain ⟨_, p, hp, hp'⟩ := h1 (i - 1) (by omega)
              rw [bif_pos' (by omega), w64_id (n := (i : Int) - 1) (by omega) (by omega), show (i : Int) - 1 = ((i - 1 : Nat) : Int) by omega, idx_nat, hp, bnd_eq, bnd_eq, hp', e, e1]
              cases decide (a.Site ≤ last) <;> rfl
          · rw [bif_neg' (by omega)]
            have := h0 hz
            subst this
            rw [show (-1 : Int) + 1 = 0 by decide, e1]
            rfl
theorem rarr_eq (F : Nat) (l : List S_api_Site) (hl : 2 ≤ l.length ∧ l.length ≤ 6) (t : List S_api_Arrival) (ht : t.length ≤ 9223372036854775807) (hF : t.length < F) : ref09_arrivals F l t = some (arrB l.length t) := by
  unfold ref09_arrivals
  exact ra1 F l hl t ht t.length F 0 (-1) rfl (by omega) (by omega) (by omega) (fun _ => rfl) (fun j hj => by omega)
theorem rf3 (F : Nat) (hd : List S_api_Site → Int → List S_api_Arrival → Int → Bool → Int → List Int → Option (List Int × Int)) (l : List S_api_Site) (hl : ∀ x ∈ l, inV 65536 x.Place = true) (n c : Int) (hc : (1 ≤ n ∧ n ≤ 8) ∧ 0 ≤ c ∧ c < 6 * (n * n)) (t : List S_api_Arrival) (ht : ∀ a ∈ t, OkA l.length a) (hlen : t.length ≤ 60) (i : Nat) (b : S_api_Arrival) (hb : t[i]? = some b) (acc : List Int) :
    ∀ (k N j : Nat) (ok : Bool), k = i - j → j ≤ i → k < N → ref09_Fits_3 F hd N l n t c ok i j acc = hd l n t c (ok && ((t.take i).drop j).all (fun a => pairB l (dirM n c) a b)) ((i + 1 : Nat) : Int) acc
  | k, 0, j, ok, _, _, h => by omega
  | 0, N + 1, j, ok, hk, hj, _ => by
    have hil := (List.getElem?_eq_some_iff.1 hb).1
    rw [ref09_Fits_3, bif_neg' (by omega), List.drop_of_length_le (by rw [List.length_take]; omega), up (by omega), List.all_nil, Bool.and_true]
  | k + 1, N + 1, j, ok, hk, hj, hN => by
    have hil := (List.getElem?_eq_some_iff.1 hb).1
    obtain ⟨a, ha⟩ := get_lt (l := t) (i := j) (by omega)
    have hda : (t.take i).drop j = a :: (t.take i).drop (j + 1) := drop_get (by rw [List.getElem?_take_of_lt (by omega)]; exact ha)
    have oa := ht a (List.mem_of_getElem? ha)
    have ob := ht b (List.mem_of_getElem? hb)
    obtain ⟨x, hx, hx'⟩ := idx_site (l := l) oa.site
    obtain ⟨y, hy, hy'⟩ := idx_site (l := l) ob.site
    have px := plc_in hl a.Site
    have py := plc_in hl b.Site
    rw [← hx'] at px
    rw [← hy'] at py
    have t1 := oa.time; have t2 := ob.time; have s1 := oa.slack; have s2 := ob.slack
    have ih := fun ok => rf3 F hd l hl n c hc t ht hlen i b hb acc k N (j + 1) ok (by omega) (by omega) (by omega)
    rw [ref09_Fits_3, bif_pos' (by omega), hda, List.all_cons]
    unfold ref09_Fits_4
    rw [up (by omega)]
    cases ok with
    | false => rw [bif_f', ih]; rfl
    | true =>
      rw [bif_t', idx_nat, ha, bnd_eq, hx, bnd_eq, idx_nat, hb, bnd_eq, hy, bnd_eq, bnd_eq, bnd_eq, bnd_eq, bnd_eq, rdirection_eq F hc, bnd_eq, w64_id (n := b.Time - a.Time) (by omega) (by omega), w64_id (n := b.Slack + a.Slack) (by omega) (by omega), on_eq F x y px py (dir_le hc) _ _ (by omega) (by omega), bnd_eq, hx', hy', Int.add_comm b.Slack a.Slack]
      show ref09_Fits_3 F hd N l n t c (pairB l (dirM n c) a b) i ((j + 1 : Nat) : Int) acc = _
      rw [ih]
      rfl
theorem rf2 (F : Nat) (hd : List S_api_Site → Int → List S_api_Arrival → Int → List Int → Option (List Int × Int)) (l : List S_api_Site) (hl : ∀ x ∈ l, inV 65536 x.Place = true) (n c : Int) (hc : (1 ≤ n ∧ n ≤ 8) ∧ 0 ≤ c ∧ c < 6 * (n * n)) (t : List S_api_Arrival) (ht : ∀ a ∈ t, OkA l.length a) (hlen : t.length ≤ 60) (hF : 100 < F) (acc : List Int) (hacc : acc.length ≤ 1000) :
    ∀ (k N i : Nat) (ok : Bool), k = t.length - i → i ≤ t.length → k < N → ref09_Fits_2 F hd N l n t c ok i acc = hd l n t (w64 (c + 1)) (bif ok && fitGo l (dirM n c) (t.take i) (t.drop i) then acc ++ [c] else acc)
  | k, 0, i, ok, _, _, h => by omega
  | 0, N + 1, i, ok, hk, hi, _ => by
    rw [ref09_Fits_2, bif_neg' (by omega), List.drop_of_length_le (by omega)]
    unfold ref09_Fits_5 fitGo
    cases ok with
    | false => rfl
    | true => rw [bif_t', apd_ok (by simp; omega) (by omega), bnd_eq]; rfl
  | k + 1, N + 1, i, ok, hk, hi, hN => by
    obtain ⟨b, hb⟩ := get_lt (l := t) (i := i) (by omega)
    have e : t.take (i + 1) = t.take i ++ [b] := by rw [List.take_add_one, hb]; rfl
    have h3 := rf3 F (ref09_Fits_2 F hd N) l hl n c hc t ht hlen i b hb acc i F 0 ok rfl (by omega) (by omega)
    rw [ref09_Fits_2, bif_pos' (by omega)]
    refine h3.trans ?_
    rw [rf2 F hd l hl n c hc t ht hlen hF acc hacc k N (i + 1) _ (by omega) (by omega) (by omega), e, drop_get hb, List.drop_zero]
    show _ = hd l n t (w64 (c + 1)) (bif ok && (((t.take i).all fun a => pairB l (dirM n c) a b) && fitGo l (dirM n c) (t.take i ++ [b]) (t.drop (i + 1))) then acc ++ [c] else acc)
    rw [Bool.and_assoc]
theorem rf1 (F : Nat) (hF : 100 < F) (l : List S_api_Site) (hl : ∀ x ∈ l, inV 65536 x.Place = true) (n : Int) (hn : 1 ≤ n ∧ n ≤ 8) (t : List S_api_Arrival) (ht : ∀ a ∈ t, OkA l.length a) (hlen : t.length ≤ 60) (C : Nat) (hC : (C : Int) = 6 * (n * n)) (hC2 : C ≤ 384) : ∀ (k N i : Nat) (acc : List Int), k = C - i → i ≤ C → k < N → acc.length ≤ i → ref09_Fits_1 F N l n t i acc = some (acc ++ ((List.range' i k).map fun i : Nat => (i : Int)).filter (fun c => fitM l (dirM n c) t), 0)
  | k, 0, i, acc, _, _, h, _ => by omega
  | 0, N + 1, i, acc, hk, hi, _, _ => by
    rw [ref09_Fits_1, rcells_eq F hn, bnd_eq, bif_neg' (by omega)]
    simp
  | k + 1, N + 1, i, acc, hk, hi, hN, hacc => by
    have hc : (1 ≤ n ∧ n ≤ 8) ∧ (0 : Int) ≤ i ∧ (i : Int) < 6 * (n * n) := ⟨hn, by omega, by omega⟩
    have h2 := rf2 F (ref09_Fits_1 F N) l hl n i hc t ht hlen hF acc (by omega) t.length F 0 true rfl (by omega) (by omega)
    rw [ref09_Fits_1, rcells_eq F hn, bnd_eq, bif_pos' (by omega)]
    refine h2.trans ?_
    rw [List.drop_zero, List.take_zero, up (by omega), Bool.true_and, List.range'_succ, List.map_cons]
    show ref09_Fits_1 F N l n t ((i + 1 : Nat) : Int) (bif fitM l (dirM n i) t then acc ++ [(i : Int)] else acc) = _
    cases e : fitM l (dirM n i) t with
    | false => rw [bif_f', rf1 F hF l hl n hn t ht hlen C hC hC2 k N (i + 1) _ (by omega) (by omega) (by omega) (by omega), List.filter_cons_of_neg (by simp [e])]
    | true => rw [bif_t', rf1 F hF l hl n hn t ht hlen C hC hC2 k N (i + 1) _ (by omega) (by omega) (by omega) (by simp; omega), List.filter_cons_of_pos (by simp [e]), List.append_assoc]; rfl
theorem RFits_eq (F : Nat) (hF : 400 < F) (l : List S_api_Site) (n : Int) (t : List S_api_Arrival) (hl : l.length ≤ 9223372036854775807) (hlF : l.length < F) (ht : t.length ≤ 9223372036854775807) (hFt : t.length < F) : ref09_Fits F l n t = some (fitsR l n t) := by
  unfold ref09_Fits fitsR
  rw [placed_eq F (by omega) l hl hlF, bnd_eq]
  cases e1 : netB l with
  | false => rfl
  | true =>
    obtain ⟨hl1, hl2⟩ := net_is e1
    rw [bif_t', bif_t']
    cases e2 : inR 1 n 8 with
    | false => rfl
    | true =>
      have hn := inR_iff.1 e2
      rw [bif_t', bif_t']
      show (bnd (ref09_arrivals F l t) fun r28 => _) = _
      rw [rarr_eq F l hl1 t ht hFt, bnd_eq]
      cases e3 : arrB l.length t with
      | false => rfl
      | true =>
        obtain ⟨ht1, ht2, ht3⟩ := arr_is (by omega) e3
        have hn2 : 0 ≤ 6 * (n * n) ∧ 6 * (n * n) ≤ 384 := by rcases eight hn with rfl | rfl | rfl | rfl | rfl | rfl | rfl | rfl <;> decide
        rw [bif_t', Bool.not_true, bif_f']
        have := rf1 F (by omega) l hl2 n hn t ht1 (by omega) (6 * (n * n)).toNat (by omega) (by omega) (6 * (n * n)).toNat F 0 [] (by omega) (by omega) (by omega) (by simp)
        refine this.trans ?_
        rw [List.nil_append, ← List.range_eq_range']
        rfl
theorem cells_le (n : Int) (hn : 1 ≤ n ∧ n ≤ 8) (p : Int → Bool) : ((cellsL n).filter p).length ≤ 384 := by
  have hn2 : 6 * (n * n) ≤ 384 := by rcases eight hn with rfl | rfl | rfl | rfl | rfl | rfl | rfl | rfl <;> decide
  have := List.length_filter_le p (cellsL n)
  have e : (cellsL n).length = (6 * (n * n)).toNat := by unfold cellsL; simp
  omega
theorem ringR_le (l : List S_api_Site) (n a b df s : Int) : (ringR l n a b df s).1.length ≤ 384 := by
  unfold ringR
  cases netB l with
  | false => exact Nat.zero_le _
  | true =>
    cases e : inR 1 n 8 with
    | false => exact Nat.zero_le _
    | true =>
      cases betwB a b l.length && (inR (-1099511627776) df 1099511627776 && inR 0 s 131072) with
      | false => exact Nat.zero_le _
      | true => exact cells_le n (inR_iff.1 e) _
theorem fitsR_le (l : List S_api_Site) (n : Int) (t : List S_api_Arrival) : (fitsR l n t).1.length ≤ 384 := by
  unfold fitsR
  cases netB l with
  | false => exact Nat.zero_le _
  | true =>
    cases e : inR 1 n 8 with
    | false => exact Nat.zero_le _
    | true =>
      cases arrB l.length t with
      | false => exact Nat.zero_le _
      | true => exact cells_le n (inR_iff.1 e) _
theorem law_eq (F : Nat) (x : S_ringdownlaw09_Net) (r : S__4_int) (t : List S_api_Arrival) (hl : x.L.length ≤ 9223372036854775807) (hF : x.L.length + 500 < F) (ht : t.length ≤ 9223372036854775807) (hFt : t.length + 500 < F) (hw : works F = some true) : law09_SkyRings F x r t = some true := by
  unfold law09_SkyRings
  rw [Ring_eq F (by omega) x.L x.N _ _ _ _ (by omega), bnd_eq, RRing_eq F (by omega) x.L x.N _ _ _ _ hl (by omega), bnd_eq, same_self F _ (by have := ringR_le x.L x.N r.e0 r.e1 r.e2 r.e3; omega) (by have := ringR_le x.L x.N r.e0 r.e1 r.e2 r.e3; omega), bnd_eq, Bool.not_true, bif_f', beq_self_eq_true, Bool.not_true]
  unfold law09_SkyRings_1
  rw [bif_f', Fits_eq F (by omega) x.L x.N t (by omega) (by omega) (by omega), bnd_eq, RFits_eq F (by omega) x.L x.N t hl (by omega) ht (by omega), bnd_eq, same_self F _ (by have := fitsR_le x.L x.N t; omega) (by have := fitsR_le x.L x.N t; omega), bnd_eq, bif_t', beq_self_eq_true]
  unfold law09_SkyRings_2 law09_SkyRings_3
  rw [bif_t', hw]
  rfl
end Go.Ev.SkyRings
