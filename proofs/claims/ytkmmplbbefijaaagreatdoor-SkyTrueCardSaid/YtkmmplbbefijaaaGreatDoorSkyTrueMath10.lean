/- SkyTrue. -/
import Derived.Test.YtkmmplbbefijaaaGreatDoorSkyTrueMath9
namespace Go.Ev.SkyTrue
open Go Go.Ev Go.Proofs
set_option linter.unusedVariables false
theorem checkNetCell_eq (F : Nat) (hF : 20 < F) (l : List S_api_Site) (hl : l.length ≤ 9223372036854775807) (n c : Int) : sky_checkNetCell F l n c = some (bif netB l then (bif cellB n c then 0 else 91) else 90) := by
  unfold sky_checkNetCell
  rw [CheckNet_eq F hF l hl, bnd_eq]
  cases netB l with
  | false => rfl
  | true => rw [bif_t', bif_t', checkCell_eq, bnd_eq]; rfl
def zeroV : S__3_int := ⟨0, 0, 0⟩
theorem arrival_eq (F : Nat) {p d : S__3_int} (hp : inV 65536 p = true) (hd : okDir d) : sky_place_arrival F p d = some ⟨dotM (subM zeroV p) d, dotM d d⟩ ∧ RatB ⟨dotM (subM zeroV p) d, dotM d d⟩ := by
  have hz : inV 0 zeroV = true := rfl
  have h1 := dot_eq F (sub_in hz hp) hd.1 (by omega) (by omega)
  unfold sky_place_arrival sky_vector_along
  rw [show (⟨0, 0, 0⟩ : S__3_int) = zeroV from rfl, minus_eq F hz hp (by omega) (by omega), bnd_eq, h1.1, bnd_eq, square_eq F hd.1 (by omega), bnd_eq, bnd_eq]
  have h2 := hd.2
  exact ⟨rfl, ⟨by simp only; omega, by simp only; omega, h2.1, by simp only; omega⟩⟩
/-- y is the time of arrival at p, rounded down. -/
def atP (d p : S__3_int) (y : Int) : Prop := (-4000000 ≤ y ∧ y ≤ 4000000) ∧ ∀ k, k ≤ y ↔ leR (dotM d d) k (dotM (subM zeroV p) d)
theorem arrive1 (F : Nat) (hF : 64 < F) (l : List S_api_Site) (hl : ∀ x ∈ l, inV 65536 x.Place = true) (hlen : l.length ≤ 1000) (d : S__3_int) (hd : okDir d) : ∀ (k N i : Nat) (acc : List Int), k = l.length - i → i ≤ l.length → k < N → acc.length ≤ i → ∃ r, sky_Arrive_1 F N l.length i d acc (l.map siteOf) = some (acc ++ r, 0) ∧ r.length = l.length - i ∧ ∀ j x, l[i + j]? = some x → ∃ y, r[j]? = some y ∧ atP d x.Place y
  | k, 0, i, acc, _, _, h, _ => by omega
  | 0, N + 1, i, acc, hk, hi, _, _ => by
    rw [sky_Arrive_1, bif_neg' (by omega)]
    refine ⟨[], by simp, by simp; omega, fun j x hx => ?_⟩
    have := (List.getElem?_eq_some_iff.1 hx).1
    omega
  | k + 1, N + 1, i, acc, hk, hi, hN, ha => by
    obtain ⟨x, hx⟩ := get_lt (l := l) (i := i) (by omega)
    have hA := arrival_eq F (hl x (List.mem_of_getElem? hx)) hd
    obtain ⟨y, h1, h2, h3⟩ := down_spec F hF _ hA.2
    have hxm : idx (l.map siteOf) (i : Int) = some (siteOf x) := by rw [idx_nat, List.getElem?_map, hx]; rfl
    obtain ⟨r, h4, h5, h6⟩ := arrive1 F hF l hl hlen d hd k N (i + 1) (acc ++ [y]) (by omega) (by omega) (by omega) (by simp; omega)
    rw [sky_Arrive_1, bif_pos' (by omega), hxm, bnd_eq, show (siteOf x).place = x.Place from rfl, hA.1, bnd_eq, h1, bnd_eq, apd_ok (by simp; omega) (by omega), bnd_eq, up (by omega), h4]
    refine ⟨y :: r, by simp, by rw [List.length_cons]; omega, fun j z hz => ?_⟩
    cases j with
    | zero =>
      rw [Nat.add_zero, hx] at hz
      cases hz
      exact ⟨y, rfl, h2, h3⟩
    | succ j =>
      obtain ⟨y', h7, h8⟩ := h6 j z (by rw [show i + 1 + j = i + (j + 1) by omega]; exact hz)
      exact ⟨y', h7, h8⟩
theorem Arrive_eq (F : Nat) (hF : 64 < F) (l : List S_api_Site) (n c : Int) (hl : l.length ≤ 9223372036854775807) : (∃ e, sky_Arrive F l n c = some ([], e) ∧ e ≠ 0) ∨ (netB l = true ∧ cellB n c = true ∧ ∃ r, sky_Arrive F l n c = some (r, 0) ∧ r.length = l.length ∧ ∀ (j : Nat) x, l[j]? = some x → ∃ y, r[j]? = some y ∧ atP (dirM n c) x.Place y) := by
  unfold sky_Arrive
  rw [checkNetCell_eq F (by omega) l hl, bnd_eq]
  cases e1 : netB l with
  | false => exact .inl ⟨90, rfl, by omega⟩
  | true =>
    rw [bif_t']
    cases e2 : cellB n c with
    | false => exact .inl ⟨91, rfl, by omega⟩
    | true =>
      obtain ⟨hl1, hl2⟩ := net_is e1
      have hc := cellB_iff.1 e2
      rw [bif_t']
      obtain ⟨r, h1, h2, h3⟩ := arrive1 F hF l hl2 (by omega) (dirM n c) (dir_le hc) l.length F 0 [] rfl (by omega) (by omega) (by simp)
      refine .inr ⟨rfl, rfl, r, ?_, by omega, fun j x hx => h3 j x (by rw [Nat.zero_add]; exact hx)⟩
      show (bnd (sky_grid_direction F n c) fun r28 => _) = _
      rw [direction_eq F hc, bnd_eq, sitesOf_eq F l (by omega) (by omega), bnd_eq, List.length_map]
      exact h1
/-- What is heard. -/
structure HeardA (T : Int) (i : Nat) (y : Int) (a : S_api_Arrival) : Prop where
  site : a.Site = i
  slack : 1 ≤ a.Slack ∧ a.Slack ≤ 100
  time : y + T - (a.Slack - 1) ≤ a.Time ∧ a.Time ≤ y + T + (a.Slack - 1)
theorem apd24 {acc : List S_api_Arrival} {a : S_api_Arrival} (h : acc.length ≤ 1000) : apd 24 acc [a] = some (acc ++ [a]) := apd_ok (by simp; omega) (by omega)
theorem heard4 (F : Nat) (hd : List Int → Int → Int → List S_api_Site → Int → Int → Int → List Int → List Int → List S_api_Arrival → Option (List S_api_Arrival)) (at' : List Int) (m : Int) (i : Nat) (s w : Int) (L : List S_api_Site) (n c T0 : Int) (E S : List Int) (acc : List S_api_Arrival) (y : Int) (hy : at'[i]? = some y) (hyb : -4000000 ≤ y ∧ y ≤ 4000000) (hs : 1 ≤ s ∧ s ≤ 100) (hw : -(s - 1) ≤ w ∧ w ≤ s - 1) (hacc : acc.length ≤ 1000) (hi : i ≤ 1000) :
    law09_heard_4 F hd at' m i s w L n c T0 E S acc = hd at' m ((i + 1 : Nat) : Int) L n c T0 E S (acc ++ [⟨i, y + T0 % 1073741824 + w, s⟩]) := by
  have hm1 := Int.emod_nonneg T0 (show (1073741824 : Int) ≠ 0 by omega)
  have hm2 := Int.emod_lt_of_pos T0 (show (0 : Int) < 1073741824 by omega)
  unfold law09_heard_4
  rw [idx_nat, hy, bnd_eq, Mod_eq F _ _ (by omega) (by omega), bnd_eq, w64_id (n := y + T0 % 1073741824) (by omega) (by omega), w64_id (by omega) (by omega), apd24 hacc, bnd_eq, up (by omega)]
theorem heard1 (F : Nat) (at' : List Int) (hlen : at'.length ≤ 1000) (hat : ∀ y ∈ at', -4000000 ≤ y ∧ y ≤ 4000000) (L : List S_api_Site) (n c T0 : Int) (E S : List Int) (hE : E.length ≤ 9223372036854775807) (hS : S.length ≤ 9223372036854775807) : ∀ (k N i : Nat) (acc : List S_api_Arrival), k = at'.length - i → i ≤ at'.length → k < N → acc.length ≤ i → ∃ r, law09_heard_1 F N at' at'.length i L n c T0 E S acc = some (acc ++ r) ∧ r.length = at'.length - i ∧ ∀ j y, at'[i + j]? = some y → ∃ a, r[j]? = some a ∧ HeardA (T0 % 1073741824) (i + j) y a
  | k, 0, i, acc, _, _, h, _ => by omega
  | 0, N + 1, i, acc, hk, hi, _, _ => by
    rw [law09_heard_1, bif_neg' (by omega)]
    refine ⟨[], by unfold law09_heard_2; simp, by simp; omega, fun j y hy => ?_⟩
    have := (List.getElem?_eq_some_iff.1 hy).1
    omega
  | k + 1, N + 1, i, acc, hk, hi, hN, ha => by
    obtain ⟨y, hy⟩ := get_lt (l := at') (i := i) (by omega)
    have hyb := hat y (List.mem_of_getElem? hy)
    -- the slack and the error
    have key : ∃ s w, law09_heard_2 F (law09_heard_1 F N) at' at'.length i true L n c T0 E S acc = law09_heard_4 F (law09_heard_1 F N) at' at'.length i s w L n c T0 E S acc ∧ (1 ≤ s ∧ s ≤ 100) ∧ (-(s - 1) ≤ w ∧ w ≤ s - 1) := by
      have third : ∀ s, 1 ≤ s ∧ s ≤ 100 → ∃ w, law09_heard_3 F (law09_heard_1 F N) at' at'.length i s 0 L n c T0 E S acc = law09_heard_4 F (law09_heard_1 F N) at' at'.length i s w L n c T0 E S acc ∧ (-(s - 1) ≤ w ∧ w ≤ s - 1) := by
        intro s hs
        unfold law09_heard_3
        by_cases hE2 : (i : Int) < E.length
        · obtain ⟨e, he⟩ := get_lt (l := E) (i := i) (by omega)
          have hm1 := Int.emod_nonneg e (show 2 * s - 1 ≠ 0 by omega)
          have hm2 := Int.emod_lt_of_pos e (show 0 < 2 * s - 1 by omega)
          rw [bif_pos' hE2, idx_nat, he, bnd_eq, w64_id (n := 2 * s) (by omega) (by omega), w64_id (n := 2 * s - 1) (by omega) (by omega), Mod_eq F _ _ (by omega) (by omega), bnd_eq, w64_id (n := s - 1) (by omega) (by omega), w64_id (n := e % (2 * s - 1) - (s - 1)) (by omega) (by omega)]
          exact ⟨_, rfl, by omega⟩
        · rw [bif_neg' hE2]
          exact ⟨0, rfl, by omega⟩
      unfold law09_heard_2
      rw [bif_t']
      by_cases hS2 : (i : Int) < S.length
      · obtain ⟨e, he⟩ := get_lt (l := S) (i := i) (by omega)
        have hm1 := Int.emod_nonneg e (show (100 : Int) ≠ 0 by omega)
        have hm2 := Int.emod_lt_of_pos e (show (0 : Int) < 100 by omega)
        rw [bif_pos' hS2, idx_nat, he, bnd_eq, Mod_eq F _ _ (by omega) (by omega), bnd_eq, w64_id (n := 1 + e % 100) (by omega) (by omega)]
        obtain ⟨w, h1, h2⟩ := third (1 + e % 100) (by omega)
        exact ⟨_, w, h1, by omega, h2⟩
      · rw [bif_neg' hS2]
        obtain ⟨w, h1, h2⟩ := third 1 (by omega)
        exact ⟨1, w, h1, by omega, h2⟩
    obtain ⟨s, w, h1, h2, h3⟩ := key
    obtain ⟨r, h4, h5, h6⟩ := heard1 F at' hlen hat L n c T0 E S hE hS k N (i + 1) (acc ++ [⟨i, y + T0 % 1073741824 + w, s⟩]) (by omega) (by omega) (by omega) (by simp; omega)
    rw [law09_heard_1, bif_pos' (by omega), decide_eq_true (show (i : Int) < at'.length by omega), h1, heard4 F _ at' _ i s w L n c T0 E S acc y hy hyb h2 h3 (by omega) (by omega), h4]
    refine ⟨⟨i, y + T0 % 1073741824 + w, s⟩ :: r, by simp, by rw [List.length_cons]; omega, fun j z hz => ?_⟩
    cases j with
    | zero =>
      rw [Nat.add_zero, hy] at hz
      cases hz
      exact ⟨_, rfl, ⟨rfl, h2, by simp only; omega⟩⟩
    | succ j =>
      obtain ⟨a, h7, h8⟩ := h6 j z (by rw [show i + 1 + j = i + (j + 1) by omega]; exact hz)
      exact ⟨a, h7, by rw [show i + (j + 1) = i + 1 + j by omega]; exact h8⟩
theorem arrGo_of (n : Int) : ∀ (t : List S_api_Arrival) (i : Nat), (∀ j a, t[j]? = some a → a.Site = ((i + j : Nat) : Int) ∧ (-1099511627776 ≤ a.Time ∧ a.Time ≤ 1099511627776) ∧ (0 ≤ a.Slack ∧ a.Slack ≤ 65536)) → (i : Int) + t.length ≤ n → arrGo n ((i : Int) - 1) t = true
  | [], i, _, _ => rfl
  | a :: r, i, h, hn => by
    obtain ⟨h1, h2, h3⟩ := h 0 a rfl
    rw [List.length_cons] at hn
    unfold arrGo
    rw [inR_iff.2 (by omega), inR_iff.2 h2, inR_iff.2 h3, h1]
    have := arrGo_of n r (i + 1) (fun j b hb => by
      have := h (j + 1) b hb
      rw [show i + 1 + j = i + (j + 1) by omega]
      exact this) (by omega)
    rw [show ((i + 1 : Nat) : Int) - 1 = ((i + 0 : Nat) : Int) by omega] at this
    rw [this]
    rfl
theorem arr_of {n : Int} {t : List S_api_Arrival} (h : ∀ (j : Nat) a, t[j]? = some a → a.Site = (j : Int) ∧ (-1099511627776 ≤ a.Time ∧ a.Time ≤ 1099511627776) ∧ (0 ≤ a.Slack ∧ a.Slack ≤ 65536)) (hn : (t.length : Int) ≤ n) (h2 : 2 ≤ t.length) : arrB n t = true := by
  unfold arrB
  have := arrGo_of n t 0 (fun j a ha => by rw [Nat.zero_add]; exact h j a ha) (by omega)
  rw [show ((0 : Nat) : Int) - 1 = -1 by omega] at this
  rw [this, decide_eq_true h2]
  rfl
theorem leR_mono {u k k' a : Int} (hu : 1 ≤ u) (h : leR u k a) (hk : k' ≤ k) : leR u k' a := by
  unfold leR at h ⊢
  have := Int.mul_le_mul_of_nonneg_right (sq_mono hk) (show 0 ≤ u by omega)
  omega
theorem leR_neg {u k a : Int} : leR u (-k) (-a) ↔ sq a ≤ sq k * u := by
  unfold leR
  rw [sq_minus, sq_minus]
  have e : -(sq k) * u = -(sq k * u) := by grind
  rw [e]
  omega
theorem not_leR {u k a : Int} (h : ¬ leR u k a) : leR u (-k) (-a) := by
  rw [leR_neg]
  unfold leR at h
  omega
theorem dot_sub (p q d : S__3_int) : dotM (subM p q) d = dotM (subM zeroV q) d - dotM (subM zeroV p) d := by
  unfold dotM subM zeroV
  simp only
  grind
/-- What is heard from a direction fits it. -/
theorem pair_true {l : List S_api_Site} {d : S__3_int} (hd : okDir d) {T : Int} {i j : Nat} {a b : S_api_Arrival} {x y : Int} (ha : HeardA T i x a) (hb : HeardA T j y b) (hx : atP d (plc l i) x) (hy : atP d (plc l j) y) : pairB l d a b = true := by
  have hu := hd.2.1
  have sa := ha.slack; have ta := ha.time; have sb := hb.slack; have tb := hb.time
  unfold pairB aboutB
  rw [ha.site, hb.site, dot_sub]
  have x1 := (hx.2 x).1 (Int.le_refl _)
  have x2 := not_leR fun h => by have := (hx.2 (x + 1)).2 h; omega
  have y1 := (hy.2 y).1 (Int.le_refl _)
  have y2 := not_leR fun h => by have := (hy.2 (y + 1)).2 h; omega
  have c1 := leR_mono (k' := b.Time - a.Time - (a.Slack + b.Slack)) hu (le_add hu y1 x2) (by omega)
  have c2 := leR_mono (k' := -(b.Time - a.Time + (a.Slack + b.Slack))) hu (le_add hu x1 y2) (by omega)
  rw [show dotM (subM zeroV (plc l i)) d + -dotM (subM zeroV (plc l j)) d = -(dotM (subM zeroV (plc l j)) d - dotM (subM zeroV (plc l i)) d) by omega, leR_neg] at c2
  rw [show dotM (subM zeroV (plc l j)) d + -dotM (subM zeroV (plc l i)) d = dotM (subM zeroV (plc l j)) d - dotM (subM zeroV (plc l i)) d by omega] at c1
  unfold leR at c1
  rw [decide_eq_true c1, decide_eq_true c2]
  rfl
theorem inside1 (F : Nat) (a b : List Int) (ha : a.length ≤ 9223372036854775807) (hb : b.length ≤ 9223372036854775807) (hF : b.length < F) (h : ∀ x ∈ a, x ∈ b) : ∀ (k N i : Nat), k = a.length - i → i ≤ a.length → k < N → law09_inside_1 F N a b i = some true
  | k, 0, i, _, _, h => by omega
  | 0, N + 1, i, hk, hi, _ => by
    rw [law09_inside_1, bif_neg' (by omega)]
  | k + 1, N + 1, i, hk, hi, hN => by
    obtain ⟨x, hx⟩ := get_lt (l := a) (i := i) (by omega)
    obtain ⟨r, h1, h2, _⟩ := find_eq F b x hb hF
    have := h2.2 (h x (List.mem_of_getElem? hx))
    rw [law09_inside_1, bif_pos' (by omega), idx_nat, hx, bnd_eq, h1, bnd_eq, bif_neg' (by omega), up (by omega)]
    exact inside1 F a b ha hb hF h k N (i + 1) (by omega) (by omega) (by omega)
theorem inside_eq (F : Nat) (a b : List Int) (ha : a.length ≤ 9223372036854775807) (hb : b.length ≤ 9223372036854775807) (hFa : a.length < F) (hF : b.length < F) (h : ∀ x ∈ a, x ∈ b) : law09_inside F a b = some true := inside1 F a b ha hb hF h a.length F 0 rfl (by omega) (by omega)
def wider (a : S_api_Arrival) : S_api_Arrival := ⟨a.Site, a.Time, a.Slack + 3⟩
theorem pair_wider {l : List S_api_Site} {d : S__3_int} (hd : okDir d) {a b : S_api_Arrival} (h : pairB l d a b = true) : pairB l d (wider a) (wider b) = true := by
  have hu := hd.2.1
  unfold pairB aboutB at h ⊢
  rw [Bool.and_eq_true, decide_eq_true_eq, decide_eq_true_eq] at h ⊢
  unfold wider
  simp only
  have m1 := Int.mul_le_mul_of_nonneg_right (sq_mono (show b.Time - a.Time - (a.Slack + 3 + (b.Slack + 3)) ≤ b.Time - a.Time - (a.Slack + b.Slack) by omega)) (show 0 ≤ dotM d d by omega)
  have m2 := Int.mul_le_mul_of_nonneg_right (sq_mono (show b.Time - a.Time + (a.Slack + b.Slack) ≤ b.Time - a.Time + (a.Slack + 3 + (b.Slack + 3)) by omega)) (show 0 ≤ dotM d d by omega)
  omega
theorem fits_len (l : List S_api_Site) {n : Int} (hn : 1 ≤ n ∧ n ≤ 8) (t : List S_api_Arrival) : (fitsM l n t).length ≤ 384 := by
  have h := List.length_filter_le (fun c => fitM l (dirM n c) t) (cellsL n)
  have hn2 : 6 * (n * n) ≤ 384 := by rcases eight hn with rfl | rfl | rfl | rfl | rfl | rfl | rfl | rfl <;> decide
  unfold fitsM
  have hc : (cellsL n).length = (6 * (n * n)).toNat := by unfold cellsL; simp
  omega
theorem law4 (F : Nat) (hF : 500 < F) (hw : works F = some true) (l : List S_api_Site) (n c T0 : Int) (E S : List Int) (hl : l.length ≤ 9223372036854775807) (hnet : netB l = true) (hgrid : inR 1 n 8 = true) (t : List S_api_Arrival) (hA : arrB l.length (t.map wider) = true) (hs : ∀ a ∈ t, 0 ≤ a.Slack ∧ a.Slack ≤ 100) (hlen : t.length ≤ 100) (all : List Int) (hall : all = fitsM l n t) :
    ∀ (k N i : Nat), k = t.length - i → i ≤ t.length → k < N → law09_SkyTrue_4 F N i l n c T0 E S ((t.take i).map wider ++ t.drop i) all = some true
  | k, 0, i, _, _, h => by omega
  | 0, N + 1, i, hk, hi, _ => by
    have hn := inR_iff.1 hgrid
    have e : (t.take i).map wider ++ t.drop i = t.map wider := by rw [List.drop_of_length_le (by omega), List.take_of_length_le (by omega), List.append_nil]
    rw [law09_SkyTrue_4, bif_neg' (by rw [e, List.length_map]; omega), e, Fits_eq F (by omega) l n _ hl (by rw [List.length_map]; omega) (by rw [List.length_map]; omega), bnd_eq]
    unfold fitsR
    rw [hnet, hgrid, hA, bif_t', bif_t', bif_t']
    show (bnd (law09_inside F all (fitsM l n (t.map wider))) fun r70 => _) = _
    rw [inside_eq F all _ (by rw [hall]; have := fits_len l hn t; omega) (by have := fits_len l hn (t.map wider); omega) (by rw [hall]; have := fits_len l hn t; omega) (by have := fits_len l hn (t.map wider); omega) (fun x hx => by
      rw [hall] at hx
      unfold fitsM at hx ⊢
      obtain ⟨h1, h2⟩ := List.mem_filter.1 hx
      refine List.mem_filter.2 ⟨h1, ?_⟩
      rw [fitM_iff] at h2 ⊢
      exact h2.map wider fun a b h => pair_wider (dir_le ⟨hn, (mem_cells hn).1 h1⟩) h), bnd_eq]
    unfold law09_SkyTrue_5 law09_SkyTrue_6
    rw [bif_t', hw]
    rfl
  | k + 1, N + 1, i, hk, hi, hN => by
    obtain ⟨a, ha⟩ := get_lt (l := t) (i := i) (by omega)
    have hsa := hs a (List.mem_of_getElem? ha)
    have hml : ((t.take i).map wider).length = i := by rw [List.length_map, List.length_take]; omega
    have hlen2 : ((t.take i).map wider ++ t.drop i).length = t.length := by rw [List.length_append, hml, List.length_drop]; omega
    have hg : ((t.take i).map wider ++ t.drop i)[i]? = some a := by
      rw [List.getElem?_append_right (by omega), hml, Nat.sub_self, List.getElem?_drop, Nat.add_zero, ha]
    rw [law09_SkyTrue_4, bif_pos' (by rw [hlen2]; omega), idx_nat, hg, bnd_eq, bnd_eq, bnd_eq, inn_at (by rw [hlen2]; omega), bnd_eq, w64_id (n := a.Slack + 3) (by omega) (by omega), upd_at (by rw [hlen2]; omega), bnd_eq, up (by omega)]
    have e : (((t.take i).map wider ++ t.drop i).set i ⟨a.Site, a.Time, a.Slack + 3⟩) = (t.take (i + 1)).map wider ++ t.drop (i + 1) := by
      rw [List.set_append_right (h := by omega), hml, Nat.sub_self, drop_get ha, List.set_cons_zero, List.take_add_one, ha, List.map_append, List.append_assoc]
      rfl
    rw [e]
    exact law4 F hF hw l n c T0 E S hl hnet hgrid t hA hs hlen all hall k N (i + 1) (by omega) (by omega) (by omega)
theorem law_eq (F : Nat) (s : S_ringdownlaw09_Shout) (hl : s.X.L.length ≤ 9223372036854775807) (hE : s.Errors.length ≤ 9223372036854775807) (hS : s.Slack.length ≤ 9223372036854775807) (hF : 600 < F) (hw : works F = some true) : law09_SkyTrue F s = some true := by
  unfold law09_SkyTrue
  rcases Arrive_eq F (by omega) s.X.L s.X.N s.X.Cell hl with ⟨e, h1, h2⟩ | ⟨hnet, hcell, r, h1, h2, h3⟩
  · rw [h1, bnd_eq]
    have : (e == 0) = false := by rw [beq_eq_false_iff_ne]; exact h2
    simp only [this, Bool.not_false, cond_true]
    show (bif ((0 : Int) == (0 : Int)) then (bnd (works F) fun r35 => law09_SkyTrue_1 F r35) else _) = _
    rw [hw]
    rfl
  · have hc := cellB_iff.1 hcell
    obtain ⟨hl1, hl2⟩ := net_is hnet
    have hd := dir_le hc
    rw [h1, bnd_eq]
    show (bif !((r.length : Int) == (s.X.L.length : Int)) then some false else _) = _
    rw [h2, beq_self_eq_true, Bool.not_true, bif_f']
    have hrb : ∀ y ∈ r, -4000000 ≤ y ∧ y ≤ 4000000 := by
      intro y hy
      obtain ⟨j, hj⟩ := List.getElem?_of_mem hy
      have hlt := (List.getElem?_eq_some_iff.1 hj).1
      obtain ⟨x, hx⟩ := get_lt (l := s.X.L) (i := j) (by omega)
      obtain ⟨y', h4, h5⟩ := h3 j x hx
      rw [hj] at h4
      cases h4
      exact h5.1
    obtain ⟨t, h4, h5, h6⟩ := heard1 F r (by omega) hrb s.X.L s.X.N s.X.Cell s.Time s.Errors s.Slack hE hS r.length F 0 [] rfl (by omega) (by omega) (by simp)
    have h6' : ∀ (j : Nat) y, r[j]? = some y → ∃ a, t[j]? = some a ∧ HeardA (s.Time % 1073741824) j y a := fun j y hy => by
      have := h6 j y (by rw [Nat.zero_add]; exact hy)
      rwa [Nat.zero_add] at this
    rw [Nat.sub_zero] at h5
    have hm1 := Int.emod_nonneg s.Time (show (1073741824 : Int) ≠ 0 by omega)
    have hm2 := Int.emod_lt_of_pos s.Time (show (0 : Int) < 1073741824 by omega)
    -- what is known of each one heard
    have hk : ∀ (j : Nat) a, t[j]? = some a → ∃ y, HeardA (s.Time % 1073741824) j y a ∧ (-4000000 ≤ y ∧ y ≤ 4000000) ∧ atP (dirM s.X.N s.X.Cell) (plc s.X.L j) y := by
      intro j a ha
      have hlt := (List.getElem?_eq_some_iff.1 ha).1
      obtain ⟨x, hx⟩ := get_lt (l := s.X.L) (i := j) (by omega)
      obtain ⟨y, h7, h8⟩ := h3 j x hx
      obtain ⟨a', h9, h10⟩ := h6' j y h7
      rw [ha] at h9
      cases h9
      refine ⟨y, h10, h8.1, ?_⟩
      unfold plc
      rw [Int.toNat_natCast, hx]
      exact h8
    have hpair : ∀ (i j : Nat) a b, t[i]? = some a → t[j]? = some b → pairB s.X.L (dirM s.X.N s.X.Cell) a b = true := by
      intro i j a b ha hb
      obtain ⟨x, p1, _, p2⟩ := hk i a ha
      obtain ⟨y, q1, _, q2⟩ := hk j b hb
      exact pair_true hd p1 q1 p2 q2
    have hok : ∀ (j : Nat) a, t[j]? = some a → a.Site = (j : Int) ∧ (-1099511627776 ≤ a.Time ∧ a.Time ≤ 1099511627776) ∧ (1 ≤ a.Slack ∧ a.Slack ≤ 100) := by
      intro j a ha
      obtain ⟨x, p1, p3, _⟩ := hk j a ha
      have := p1.slack
      have := p1.time
      exact ⟨p1.site, by omega, by omega⟩
    have hA : arrB s.X.L.length t = true := arr_of (fun j a ha => by have := hok j a ha; omega) (by omega) (by omega)
    have hA2 : arrB s.X.L.length (t.take 2) = true := arr_of (fun j a ha => by
      have hlt := (List.getElem?_eq_some_iff.1 ha).1
      rw [List.length_take] at hlt
      rw [List.getElem?_take_of_lt (by omega)] at ha
      have := hok j a ha
      omega) (by rw [List.length_take]; omega) (by rw [List.length_take]; omega)
    have hA3 : arrB s.X.L.length (t.map wider) = true := arr_of (fun j a ha => by
      rw [List.getElem?_map] at ha
      obtain ⟨b, hb, rfl⟩ := Option.map_eq_some_iff.1 ha
      have := hok j b hb
      unfold wider
      simp only
      omega) (by rw [List.length_map]; omega) (by rw [List.length_map]; omega)
    have hgrid : inR 1 s.X.N 8 = true := inR_iff.2 hc.1
    have hin : s.X.Cell ∈ fitsM s.X.L s.X.N t := by
      unfold fitsM
      refine List.mem_filter.2 ⟨(mem_cells hc.1).2 hc.2, ?_⟩
      rw [fitM_iff, List.pairwise_iff_getElem]
      intro i j hi hj hij
      exact hpair i j _ _ (List.getElem?_eq_getElem hi) (List.getElem?_eq_getElem hj)
    have hfl := fits_len s.X.L hc.1 t
    have hfl2 := fits_len s.X.L hc.1 (t.take 2)
    have hheard : law09_heard F (S_ringdownlaw09_Shout.mk s.X s.Time s.Errors s.Slack) r (s.X.L.length : Int) = some t := by
      unfold law09_heard
      rw [h2, List.nil_append] at h4
      exact h4
    rw [hheard, bnd_eq, Fits_eq F (by omega) _ _ t hl (by omega) (by omega), bnd_eq]
    unfold fitsR
    rw [hnet, hgrid, hA, bif_t', bif_t', bif_t']
    obtain ⟨q, f1, f2, _⟩ := find_eq F (fitsM s.X.L s.X.N t) s.X.Cell (by omega) (by omega)
    have f3 := f2.2 hin
    show (bnd (ref00_Find F (fitsM s.X.L s.X.N t) s.X.Cell) fun r80 => _) = _
    rw [f1, bnd_eq, decide_eq_false (by omega : ¬ q < 0)]
    unfold law09_SkyTrue_2
    rw [bif_f', show sub t 0 (2 : Int) = some (t.take 2) from subc0 t 2 (by omega) rfl, bnd_eq, Fits_eq F (by omega) _ _ (t.take 2) hl (by rw [List.length_take]; omega) (by rw [List.length_take]; omega), bnd_eq]
    unfold fitsR
    rw [hnet, hgrid, hA2, bif_t', bif_t', bif_t']
    show (bnd (law09_inside F (fitsM s.X.L s.X.N t) (fitsM s.X.L s.X.N (t.take 2))) fun r77 => _) = _
    rw [inside_eq F _ _ (by omega) (by omega) (by omega) (by omega) (fun x hx => by
      unfold fitsM at hx ⊢
      obtain ⟨g1, g2⟩ := List.mem_filter.1 hx
      refine List.mem_filter.2 ⟨g1, ?_⟩
      rw [fitM_iff] at g2 ⊢
      exact g2.sublist (List.take_sublist 2 t)), bnd_eq]
    unfold law09_SkyTrue_3
    rw [Bool.not_true, bif_f']
    have := law4 F (by omega) hw s.X.L s.X.N s.X.Cell s.Time s.Errors s.Slack hl hnet hgrid t hA3 (fun a ha => by
      obtain ⟨j, hj⟩ := List.getElem?_of_mem ha
      have := hok j a hj
      omega) (by omega) _ rfl t.length F 0 rfl (by omega) (by omega)
    rw [List.take_zero, List.map_nil, List.nil_append, List.drop_zero] at this
    exact this
end Go.Ev.SkyTrue
