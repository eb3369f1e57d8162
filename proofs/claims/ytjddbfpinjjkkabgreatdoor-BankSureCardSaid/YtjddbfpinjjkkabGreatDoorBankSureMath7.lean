/- BankSure answers true. -/
import Derived.Test.YtjddbfpinjjkkabGreatDoorBankSureMath6
namespace Go.Ev.BankSure
open Go Go.Ev Go.Proofs
set_option linter.unusedVariables false
theorem index_ex (F : Nat) (l : List S_api_Chirp) (hl : l.length ≤ 1000) (c : S_api_Chirp) : ∀ (k N i : Nat), k = l.length - i → i ≤ l.length → k < N → ∃ r, slices_Index_1 F N l l.length i c = some r
  | k, 0, i, _, _, h => by omega
  | 0, N + 1, i, hk, hi, _ => by
    rw [slices_Index_1, bif_neg' (by omega)]
    exact ⟨_, rfl⟩
  | k + 1, N + 1, i, hk, hi, hN => by
    obtain ⟨x, hx⟩ := get_lt (l := l) (i := i) (by omega)
    rw [slices_Index_1, bif_pos' (by omega), idx_nat, hx, bnd_eq, up (by omega)]
    obtain ⟨r, hr⟩ := index_ex F l hl c k N (i + 1) (by omega) (by omega) (by omega)
    rw [hr]
    cases ((c.P == x.P) && ((c.Q == x.Q) && true)) with
    | true => exact ⟨_, rfl⟩
    | false => exact ⟨_, rfl⟩
theorem contains_ex (F : Nat) (l : List S_api_Chirp) (hl : l.length ≤ 1000) (hF : 1000 < F) (c : S_api_Chirp) : ∃ r, slices_Contains F l c = some r := by
  obtain ⟨r, hr⟩ := index_ex F l hl c l.length F 0 rfl (by omega) (by omega)
  have hr' : slices_Index F l c = some r := hr
  unfold slices_Contains
  rw [hr', bnd_eq]
  exact ⟨_, rfl⟩
theorem isBank1 (F : Nat) (hF : 1000 < F) (n : Nat) (hn : n ≤ 64) (L : List S_api_Chirp) (hL : L.length ≤ 64) : ∀ (k N i : Nat), k = L.length - i → i ≤ L.length → k < N → ∃ r, bank_isBank_1 F N n L L L.length i = some r ∧ (r = true → ∀ c ∈ L.drop i, chB c = true)
  | k, 0, i, _, _, h => by omega
  | 0, N + 1, i, hk, hi, _ => by
    rw [bank_isBank_1, bif_neg' (by omega), List.drop_of_length_le (by omega : L.length ≤ i)]
    exact ⟨true, rfl, fun _ c hc => nomatch hc⟩
  | k + 1, N + 1, i, hk, hi, hN => by
    obtain ⟨c, hci⟩ := get_lt (l := L) (i := i) (by omega)
    obtain ⟨r, hr, hr2⟩ := isBank1 F hF n hn L hL k N (i + 1) (by omega) (by omega) (by omega)
    have hb2 : ∀ b, ∃ q, bank_isBank_2 F (bank_isBank_1 F N) n L L L.length i b = some q ∧ (q = true → ∀ c ∈ L.drop (i + 1), chB c = true) := fun b => by
      unfold bank_isBank_2
      cases b with
      | true => exact ⟨false, rfl, fun h => by simp at h⟩
      | false => rw [cond_false, up (by omega)]; exact ⟨r, hr, hr2⟩
    have hch : bank_isChirp F c = some (chB c) := bChirp_eq F c
    rw [bank_isBank_1, bif_pos' (by omega), idx_nat, hci, bnd_eq, hch, bnd_eq, drop_get hci]
    cases ec : chB c with
    | false =>
      rw [Bool.not_false, cond_true]
      exact ⟨false, rfl, fun h => by simp at h⟩
    | true =>
      have hall : ∀ q : Bool, (q = true → ∀ c ∈ L.drop (i + 1), chB c = true) → (q = true → ∀ c' ∈ c :: L.drop (i + 1), chB c' = true) := fun q h hq c' hc' => by
        rcases List.mem_cons.1 hc' with rfl | hc'
        · exact ec
        · exact h hq c' hc'
      rw [Bool.not_true, cond_false, waveOf_eq F (by omega) c ec n hn, bnd_eq, silent_eq F c n hn, bnd_eq]
      cases silB c n with
      | true =>
        rw [cond_true]
        obtain ⟨q, hq, hq2⟩ := hb2 true
        exact ⟨q, hq, hall q hq2⟩
      | false =>
        obtain ⟨b, hb⟩ := contains_ex F (L.take i) (by rw [List.length_take]; omega) hF c
        rw [cond_false, subc0 L i (by omega) rfl, bnd_eq, hb, bnd_eq]
        obtain ⟨q, hq, hq2⟩ := hb2 b
        exact ⟨q, hq, hall q hq2⟩
theorem bank_ex (F : Nat) (hF : 1000 < F) (n : Int) (L : List S_api_Chirp) : ∃ r, bank_CheckBank F n L = some r ∧ (r = 0 → (4 ≤ n ∧ n ≤ 64) ∧ L.length ≤ 64 ∧ ∀ c ∈ L, chB c = true) := by
  unfold bank_CheckBank
  rw [bLength_eq, bnd_eq]
  cases el : inR 4 n 64 with
  | false => exact ⟨70, rfl, fun h => by simp at h⟩
  | true =>
    have hn := inR_iff.1 el
    obtain ⟨m, rfl⟩ : ∃ m : Nat, n = m := ⟨n.toNat, by omega⟩
    rw [Bool.not_true, cond_false]
    unfold bank_isBank
    by_cases hL : L.length ≤ 64
    · rw [bif_neg' (by omega)]
      obtain ⟨r, hr, hr2⟩ := isBank1 F hF m (by omega) L hL L.length F 0 rfl (by omega) (by omega)
      have hr' : bank_isBank_1 F F m L L (L.length : Int) (0 : Int) = some r := hr
      rw [hr', bnd_eq]
      rw [List.drop_zero] at hr2
      cases r with
      | false => exact ⟨72, rfl, fun h => by simp at h⟩
      | true => exact ⟨0, rfl, fun _ => ⟨hn, hL, hr2 rfl⟩⟩
    · rw [bif_pos' (by omega), bnd_eq]
      exact ⟨72, rfl, fun h => by simp at h⟩
def clp (b x : Int) : Int := max (-b) (min x b)
def bu (h : List Int) (a : Int) (tm : Nat) (b : Int) (t : Nat) (x : Int) : Int := if tm ≤ t ∧ t - tm < h.length then clp b x + a * h.getD (t - tm) 0 else clp b x
def burL (h : List Int) (a : Int) (tm : Nat) (b : Int) : Nat → List Int → List Int
  | _, [] => []
  | t, x :: r => bu h a tm b t x :: burL h a tm b (t + 1) r
theorem burL_len (h : List Int) (a : Int) (tm : Nat) (b : Int) : ∀ (l : List Int) (t : Nat), (burL h a tm b t l).length = l.length
  | [], t => rfl
  | x :: r, t => by rw [burL, List.length_cons, List.length_cons, burL_len h a tm b r]
theorem burL_drop (h : List Int) (a : Int) (tm : Nat) (b : Int) : ∀ (l : List Int) (t i : Nat), (burL h a tm b t l).drop i = burL h a tm b (t + i) (l.drop i)
  | l, t, 0 => rfl
  | [], t, i + 1 => rfl
  | x :: r, t, i + 1 => by
    rw [burL, List.drop_succ_cons, List.drop_succ_cons, burL_drop h a tm b r (t + 1) i, show t + 1 + i = t + (i + 1) by omega]
theorem dot_bur (h : List Int) (a : Int) (tm : Nat) (b : Int) : ∀ (k j : Nat) (l : List Int), k = h.length - j → j ≤ h.length → k ≤ l.length → dot (h.drop j) (burL h a tm b (tm + j) l) = a * dot (h.drop j) (h.drop j) + dot (h.drop j) (l.map (clp b))
  | 0, j, l, hk, hj, _ => by
    rw [List.drop_of_length_le (by omega : h.length ≤ j)]
    simp [dot]
  | k + 1, j, [], hk, hj, hl => by simp at hl
  | k + 1, j, x :: r, hk, hj, hl => by
    obtain ⟨y, hy⟩ := get_lt (l := h) (i := j) (by omega)
    have ih := dot_bur h a tm b k (j + 1) r (by omega) (by omega) (by simp at hl; omega)
    have e : bu h a tm b (tm + j) x = clp b x + a * y := by
      unfold bu
      rw [if_pos (by omega), show tm + j - tm = j by omega, List.getD_eq_getElem?_getD, hy]
      rfl
    rw [drop_get hy, burL, dot, dot, List.map_cons, dot, e, show tm + j + 1 = tm + (j + 1) by omega, ih]
    grind
section
variable (F : Nat) (c0 : Int) (c1 : List S_api_Chirp) (c2 c3 c4 : Int) (c5 : List Int) (b c7 c8 : Int)
theorem bur1 (h : List Int) (hh : ∀ x ∈ h, -127 ≤ x ∧ x ≤ 127) (hl : h.length ≤ 64) (a : Int) (ha : 0 ≤ a ∧ a ≤ 2000000) (tm : Nat) (htm : tm ≤ 1000) (hb : 0 ≤ b ∧ b ≤ 32768) (h5 : c5.length ≤ 512) : ∀ (k N i : Nat) (acc : List Int), k = c5.length - i → i ≤ c5.length → k < N → acc.length = i → law07_buried_1 F N h a tm i c0 c1 c2 c3 c4 c5 b c7 c8 acc = some (acc ++ burL h a tm b i (c5.drop i))
  | k, 0, i, acc, _, _, hh, _ => by omega
  | 0, N + 1, i, acc, hk, hi, _, _ => by
    rw [law07_buried_1, bif_neg' (by omega), List.drop_of_length_le (by omega : c5.length ≤ i), burL, List.append_nil]
  | k + 1, N + 1, i, acc, hk, hi, hN, hacc => by
    obtain ⟨x, hx⟩ := get_lt (l := c5) (i := i) (by omega)
    have ih := fun q => bur1 h hh hl a ha tm htm hb h5 k N (i + 1) (acc ++ [q]) (by omega) (by omega) (by omega) (by simp; omega)
    have ecl : ref00_Clamp F x (w64 (-b)) b = some (clp b x) := by
      unfold ref00_Clamp clp
      rw [w64_id (by omega) (by omega)]
    have hcl : -b ≤ clp b x ∧ clp b x ≤ b := by unfold clp; omega
    have fin : ∀ q, q = bu h a tm b i x → law07_buried_3 F (law07_buried_1 F N) h a tm i q c0 c1 c2 c3 c4 c5 b c7 c8 acc = some (acc ++ bu h a tm b i x :: burL h a tm b (i + 1) (c5.drop (i + 1))) := fun q hq => by
      unfold law07_buried_3
      rw [apd_ok (by simp; omega) (by omega), bnd_eq, up (by omega), ih, hq, List.append_assoc]
      rfl
    rw [law07_buried_1, bif_pos' (by omega), idx_nat, hx, bnd_eq, ecl, bnd_eq, drop_get hx, burL]
    by_cases g : tm ≤ i
    · have e1 : w64 ((i : Int) - (tm : Int)) = ((i - tm : Nat) : Int) := by rw [w64_id (by omega) (by omega)]; omega
      rw [bif_pos' (by omega), e1]
      by_cases g2 : i - tm < h.length
      · obtain ⟨y, hy⟩ := get_lt (l := h) (i := i - tm) g2
        have hyb := hh y (List.mem_of_getElem? hy)
        have m := mul_in (a := a) (b := y) (x := 2000000) (y := 127) (by omega) hyb (by omega) (by omega)
        rw [decide_eq_true (by omega)]
        unfold law07_buried_2
        rw [cond_true, e1, idx_nat, hy, bnd_eq]
        refine fin _ ?_
        unfold bu
        rw [if_pos ⟨g, g2⟩, List.getD_eq_getElem?_getD, hy, w64_id (n := a * y) (by omega) (by omega), w64_id (by omega) (by omega)]
        rfl
      · rw [decide_eq_false (by omega)]
        unfold law07_buried_2
        rw [cond_false]
        refine fin _ ?_
        unfold bu
        rw [if_neg (by omega)]
    · rw [bif_neg' (by omega)]
      unfold law07_buried_2
      rw [cond_false]
      refine fin _ ?_
      unfold bu
      rw [if_neg (by omega)]
end
theorem bs8 (F : Nat) (hw : works F = some true) (w tm : Int) (l : List S_api_Hit) (hl : l.length ≤ 100000) : ∀ (k N i : Nat) (g : Bool), k = l.length - i → i ≤ l.length → k < N → (g = true ∨ ∃ x ∈ l.drop i, x.Time = tm ∧ x.Chirp = w) → law07_BankSure_8 F N w tm 0 g i l = some true
  | k, 0, i, g, _, _, h, _ => by omega
  | 0, N + 1, i, g, hk, hi, _, hg => by
    rw [List.drop_of_length_le (by omega : l.length ≤ i)] at hg
    have : g = true := by
      rcases hg with h | ⟨x, hx, _⟩
      · exact h
      · exact nomatch hx
    subst this
    rw [law07_BankSure_8, bif_neg' (by omega), show ((0 : Int) == 0) = true from rfl, cond_true]
    unfold law07_BankSure_11 law07_BankSure_12
    rw [cond_true, hw]
    rfl
  | k + 1, N + 1, i, g, hk, hi, hN, hg => by
    obtain ⟨x, hx⟩ := get_lt (l := l) (i := i) (by omega)
    rw [drop_get hx] at hg
    have ih := fun q => bs8 F hw w tm l hl k N (i + 1) q (by omega) (by omega) (by omega)
    rw [law07_BankSure_8, bif_pos' (by omega)]
    unfold law07_BankSure_10 law07_BankSure_9
    rw [up (by omega)]
    cases g with
    | true =>
      rw [cond_true]
      exact ih true (.inl rfl)
    | false =>
      rw [cond_false, idx_nat, hx, bnd_eq]
      by_cases e1 : x.Time = tm
      · rw [show (x.Time == tm) = true from beq_iff_eq.2 e1, cond_true, bnd_eq, cond_false]
        refine ih _ ?_
        by_cases e2 : x.Chirp = w
        · exact .inl (beq_iff_eq.2 e2)
        · rcases hg with h | ⟨y, hy, hy1, hy2⟩
          · exact nomatch h
          · rcases List.mem_cons.1 hy with rfl | hy
            · exact absurd hy2 e2
            · exact .inr ⟨y, hy, hy1, hy2⟩
      · rw [show (x.Time == tm) = false from beq_eq_false_iff_ne.2 e1, cond_false, cond_false]
        refine ih _ ?_
        rcases hg with h | ⟨y, hy, hy1, hy2⟩
        · exact nomatch h
        · rcases List.mem_cons.1 hy with rfl | hy
          · exact absurd hy1 e1
          · exact .inr ⟨y, hy, hy1, hy2⟩
theorem Mod_get (F : Nat) (x n : Int) (h1 : 1 ≤ n) (h2 : n ≤ 1000) : ∃ r, ref00_Mod F x n = some r ∧ 0 ≤ r ∧ r < n := by
  unfold ref00_Mod ref00_Mod_1
  rw [bif_neg' (by omega), nz_ok (by omega), bnd_eq]
  have g1 : Int.tmod x n < n := Int.tmod_lt_of_pos x (by omega)
  have g2 : -n < Int.tmod x n := by
    have := Int.lt_tmod_of_pos x (show 0 < n by omega)
    omega
  by_cases h : Int.tmod x n < 0
  · rw [bif_pos' h, w64_id (by omega) (by omega)]
    exact ⟨_, rfl, by omega, by omega⟩
  · rw [bif_neg' h]
    exact ⟨_, rfl, by omega, by omega⟩
section
variable (F : Nat) (hw : works F = some true) (c0 : Int) (c1 : List S_api_Chirp) (c2 c3 c4 : Int) (c5 : List Int) (c6 c7 c8 : Int)
include hw
theorem bs5t : law07_BankSure_5 F true c0 c1 c2 c3 c4 c5 c6 c7 c8 = some true := by
  unfold law07_BankSure_5
  rw [cond_true, hw]
  rfl
theorem bs1t : law07_BankSure_1 F true c0 c1 c2 c3 c4 c5 c6 c7 c8 = some true := by
  unfold law07_BankSure_1 law07_BankSure_2 law07_BankSure_3 law07_BankSure_4
  rw [cond_true, cond_true, cond_true, cond_true]
  exact bs5t F hw c0 c1 c2 c3 c4 c5 c6 c7 c8
end
theorem loud_at (c : S_api_Chirp) (n : Nat) (hn : n ≤ 64) (nz bd a a' : Int) (hz : 0 ≤ nz ∧ nz ≤ 32768) (ha : a ≤ a') (h : LPa c n nz bd a = true) (tm : Nat) (l : List Int) (hl : tm + n ≤ l.length) : ldB c n (burL (wvL c n) a' tm nz 0 l) bd tm = true := by
  have hwl := wvL_len c n
  have h1 := dot_bur (wvL c n) a' tm nz n 0 (l.drop tm) (by omega) (by omega) (by rw [List.length_drop]; omega)
  rw [List.drop_zero, Nat.add_zero] at h1
  have h2 := dot_noise nz hz.1 (wvL c n) ((l.drop tm).map (clp nz)) (fun x hx => by
    obtain ⟨y, _, rfl⟩ := List.mem_map.1 hx
    unfold clp; omega)
  have hnr := nrm_in c n hn
  have h3 : a * nrm c n ≤ a' * nrm c n := Int.mul_le_mul_of_nonneg_right ha hnr.1
  unfold LPa at h
  rw [Bool.and_eq_true, decide_eq_true_eq, decide_eq_true_eq] at h
  obtain ⟨p1, p2⟩ := h
  have e : dot (wvL c n) ((burL (wvL c n) a' tm nz 0 l).drop tm) = a' * nrm c n + dot (wvL c n) ((l.drop tm).map (clp nz)) := by
    rw [burL_drop, Nat.zero_add, h1]
    rfl
  have h4 : a * nrm c n - nz * rch c n ≤ dot (wvL c n) ((burL (wvL c n) a' tm nz 0 l).drop tm) := by
    rw [e]
    unfold rch
    omega
  unfold ldB
  generalize dot (wvL c n) ((burL (wvL c n) a' tm nz 0 l).drop tm) = o at *
  generalize a * nrm c n - nz * rch c n = p at *
  have m : p * p ≤ o * o := Int.mul_le_mul h4 h4 (by omega) (by omega)
  rw [Bool.and_eq_true, decide_eq_true_eq, decide_eq_true_eq]
  omega
theorem law_eq (F : Nat) (x : S_ringdownlaw07_Signal) (hF : 50000 < F) (hL : x.L.length ≤ 9223372036854775807) (hN : x.Noise.length ≤ 9223372036854775807) (hw : works F = some true) : law07_BankSure F x = some true := by
  unfold law07_BankSure
  by_cases h0 : x.L.length = 0
  · rw [show ((x.L.length : Int) == 0) = true by simp [h0], cond_true]
    exact bs1t F hw _ _ _ _ _ _ _ _ _
  · rw [show ((x.L.length : Int) == 0) = false by simp; intro h; exact h0 (by simp [h]), cond_false]
    obtain ⟨r, hr, hr2⟩ := bank_ex F (by omega) x.Length x.L
    rw [hr, bnd_eq]
    by_cases hr0 : r = 0
    · subst hr0
      obtain ⟨hn, hL64, hch⟩ := hr2 rfl
      rw [show (!((0 : Int) == 0)) = false from rfl]
      unfold law07_BankSure_1 law07_BankSure_2 law07_BankSure_3 law07_BankSure_4
      rw [cond_false]
      have T := bs5t F hw x.Length x.L x.Which x.More x.Time x.Noise x.Bound x.Variance x.Floor
      by_cases g1 : (x.Noise.length : Int) < x.Length
      · rw [decide_eq_true g1, cond_true, cond_true, cond_true]
        exact T
      · rw [decide_eq_false g1, cond_false]
        by_cases g2 : (512 : Int) < (x.Noise.length : Int)
        · rw [decide_eq_true g2, cond_true, cond_true]
          exact T
        · rw [decide_eq_false g2, cond_false]
          by_cases g3 : x.Bound < 0
          · rw [decide_eq_true g3, cond_true]
            exact T
          · rw [decide_eq_false g3, cond_false]
            by_cases g4 : (32768 : Int) < x.Bound
            · rw [decide_eq_true g4]
              exact T
            · rw [decide_eq_false g4]
              unfold law07_BankSure_5
              obtain ⟨n, hnn⟩ : ∃ n : Nat, x.Length = n := ⟨x.Length.toNat, by omega⟩
              obtain ⟨wh, hwh, w1, w2⟩ := Mod_get F x.Which (x.L.length : Int) (by omega) (by omega)
              obtain ⟨W, hW⟩ : ∃ W : Nat, wh = W := ⟨wh.toNat, by omega⟩
              have ets : w64 (w64 ((x.Noise.length : Int) - x.Length) + 1) = (x.Noise.length : Int) - x.Length + 1 := by
                rw [w64_id (n := (x.Noise.length : Int) - x.Length) (by omega) (by omega), w64_id (by omega) (by omega)]
              obtain ⟨tm, htm, t1, t2⟩ := Mod_get F x.Time ((x.Noise.length : Int) - x.Length + 1) (by omega) (by omega)
              obtain ⟨T', hT'⟩ : ∃ T' : Nat, tm = T' := ⟨tm.toNat, by omega⟩
              obtain ⟨c, hcw⟩ := get_lt (l := x.L) (i := W) (by omega)
              have hcc := hch c (List.mem_of_getElem? hcw)
              obtain ⟨a, e, hs, hs2⟩ := Sure_ex F (by omega) c hcc n (by omega) (by omega) x.Bound x.Variance x.Floor
              have hwv := Wave_eq F (by omega) c hcc n (by omega) (by omega)
              rw [cond_false, hwh, bnd_eq, ets, htm, bnd_eq, hW, idx_nat, hcw, bnd_eq, hnn, hs, bnd_eq, bnd_eq, hwv, bnd_eq]
              have h6t : law07_BankSure_6 F (W : Int) tm a (wvL c n) 0 true n x.L x.Which x.More x.Time x.Noise x.Bound x.Variance x.Floor = some true := by
                unfold law07_BankSure_6 law07_BankSure_7
                rw [cond_true, show ((0 : Int) == 0) = true from rfl, cond_true, hw]
                rfl
              by_cases he : e = 0
              · subst he
                obtain ⟨q1, q2, q3, q4, q5⟩ := hs2 rfl
                show (bif (!((0 : Int) == 0)) then _ else law07_BankSure_6 F (W : Int) tm a (wvL c n) 0 (!((0 : Int) == 0)) n x.L x.Which x.More x.Time x.Noise x.Bound x.Variance x.Floor) = _
                rw [show (!((0 : Int) == 0)) = false from rfl, cond_false]
                obtain ⟨m, hm, m1, m2⟩ := Mod_get F x.More 20 (by omega) (by omega)
                unfold law07_BankSure_6
                rw [cond_false, hm, bnd_eq, w64_id (n := a + m) (by omega) (by omega)]
                have hbu := bur1 F n x.L x.Which x.More x.Time x.Noise x.Bound x.Variance x.Floor (wvL c n) (wvL_in c n) (by rw [wvL_len]; omega) (a + m) (by omega) T' (by omega) (by omega) (by omega) x.Noise.length F 0 [] rfl (by omega) (by omega) rfl
                rw [List.drop_zero, List.nil_append] at hbu
                have hbu' : law07_buried F (S_ringdownlaw07_Signal.mk n x.L x.Which x.More x.Time x.Noise x.Bound x.Variance x.Floor) (wvL c n) (a + m) tm = some (burL (wvL c n) (a + m) T' x.Bound 0 x.Noise) := by
                  rw [hT']
                  exact hbu
                have hdl := burL_len (wvL c n) (a + m) T' x.Bound x.Noise 0
                have hld := loud_at c n (by omega) x.Bound (x.Floor * x.Variance) a (a + m) q1 (by omega) q5 T' x.Noise (by omega)
                rw [hbu', bnd_eq]
                generalize burL (wvL c n) (a + m) T' x.Bound 0 x.Noise = d at *
                unfold bank_Hits bank_checkHits
                rw [hnn] at hr
                rw [hr, bnd_eq, show (!((0 : Int) == 0)) = false from rfl, cond_false, areData_eq F (by omega), bnd_eq]
                cases hd : areD d with
                | false =>
                  show (bif ((73 : Int) == 73) then (bnd (works F) fun r67 => some r67) else law07_BankSure_8 F F (W : Int) tm 73 false (0 : Int) []) = some true
                  rw [show ((73 : Int) == 73) = true from rfl, cond_true, hw]
                  rfl
                | true =>
                  have hh := hw1 F (by omega) n (by omega) (by omega) d hd x.Variance x.Floor q2 x.L hL64 hch x.L.length F 0 rfl (by omega) (by omega)
                  have hh' : bank_Hits_1 F F n x.L (x.L.length : Int) (0 : Int) d x.Variance x.Floor ([] : List (List Int)) = _ := hh
                  rw [Bool.not_true, cond_false, areB_eq, q2, bnd_eq, Bool.not_true, cond_false, bnd_eq, show (!((0 : Int) == 0)) = false from rfl, cond_false, hh', bnd_eq]
                  show (bif ((0 : Int) == 73) then _ else law07_BankSure_8 F F (W : Int) tm 0 false (0 : Int) (sortC (fun x y => orI (Lib.compareInt x.Time y.Time) (Lib.compareInt x.Chirp y.Chirp)) (hitsL n d (x.Floor * x.Variance) (d.length + 1 - n) 0 x.L))) = _
                  rw [show ((0 : Int) == 73) = false from rfl, cond_false]
                  have hmem := hitsL_mem n d (x.Floor * x.Variance) (d.length + 1 - n) c T' hld (by omega) x.L 0 W hcw
                  have hperm := sortC_perm (fun x y : S_api_Hit => orI (Lib.compareInt x.Time y.Time) (Lib.compareInt x.Chirp y.Chirp)) (swo_keys (fun x : S_api_Hit => x.Time) (fun x => x.Chirp)) (hitsL n d (x.Floor * x.Variance) (d.length + 1 - n) 0 x.L)
                  have hlen := hitsL_len n d (x.Floor * x.Variance) (d.length + 1 - n) x.L 0
                  have hm2 : (d.length + 1 - n) * x.L.length ≤ 600 * 64 := Nat.mul_le_mul (by omega) hL64
                  have hpl := hperm.length_eq
                  exact bs8 F hw W tm _ (by omega) _ F 0 false rfl (by omega) (by omega) (.inr ⟨_, hperm.mem_iff.2 hmem, hT'.symm, by show ((0 + W : Nat) : Int) = (W : Int); rw [Nat.zero_add]⟩)
              · show (bif (!(e == 0)) then _ else _) = _
                rw [show (!(e == 0)) = true by simp [he], cond_true]
                exact h6t
    · rw [show (!(r == 0)) = true by simp [hr0]]
      exact bs1t F hw _ _ _ _ _ _ _ _ _
end Go.Ev.BankSure
