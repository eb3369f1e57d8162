/- The cells that fit. -/
import Derived.Test.YtkmmplbbefijaaaGreatDoorSkyRingsMath4
namespace Go.Ev.SkyRings
open Go Go.Ev Go.Proofs
set_option linter.unusedVariables false
def dotM (v w : S__3_int) : Int := v.e0 * w.e0 + v.e1 * w.e1 + v.e2 * w.e2
def subM (v w : S__3_int) : S__3_int := ⟨v.e0 - w.e0, v.e1 - w.e1, v.e2 - w.e2⟩
theorem mul_in {a b x y : Int} (ha : -x ≤ a ∧ a ≤ x) (hb : -y ≤ b ∧ b ≤ y) (hx : 0 ≤ x) (hy : 0 ≤ y) : -(x * y) ≤ a * b ∧ a * b ≤ x * y := by
  have h1 : a.natAbs ≤ x.natAbs := by omega
  have h2 : b.natAbs ≤ y.natAbs := by omega
  have h3 : (a * b).natAbs ≤ (x * y).natAbs := by rw [Int.natAbs_mul, Int.natAbs_mul]; exact Nat.mul_le_mul h1 h2
  have h4 : 0 ≤ x * y := Int.mul_nonneg hx hy
  omega
theorem dot_eq (F : Nat) {v w : S__3_int} {x y : Int} (hv : inV x v = true) (hw : inV y w = true) (hx : 0 ≤ x ∧ x ≤ 1000000) (hy : 0 ≤ y ∧ y ≤ 1000) : sky_vector_dot F v w = some (dotM v w) ∧ -(3 * (x * y)) ≤ dotM v w ∧ dotM v w ≤ 3 * (x * y) := by
  have h1 := inV_iff.1 hv
  have h2 := inV_iff.1 hw
  have m0 := mul_in h1.1 h2.1 hx.1 hy.1
  have m1 := mul_in h1.2.1 h2.2.1 hx.1 hy.1
  have m2 := mul_in h1.2.2 h2.2.2 hx.1 hy.1
  have hxy : x * y ≤ 1000000 * 1000 := Int.mul_le_mul hx.2 hy.2 hy.1 (by omega)
  unfold sky_vector_dot dotM
  rw [w64_id (n := v.e0 * w.e0) (by omega) (by omega), w64_id (n := v.e1 * w.e1) (by omega) (by omega), w64_id (n := v.e2 * w.e2) (by omega) (by omega), w64_id (n := v.e0 * w.e0 + v.e1 * w.e1) (by omega) (by omega), w64_id (by omega) (by omega)]
  exact ⟨rfl, by omega, by omega⟩
theorem square_eq (F : Nat) {v : S__3_int} {x : Int} (hv : inV x v = true) (hx : 0 ≤ x ∧ x ≤ 1000) : sky_vector_square F v = some (dotM v v) := by
  unfold sky_vector_square
  rw [(dot_eq F hv hv (by omega) hx).1, bnd_eq]
theorem sub_in {x y : Int} {v w : S__3_int} (hv : inV x v = true) (hw : inV y w = true) : inV (x + y) (subM v w) = true := by
  have h1 := inV_iff.1 hv
  have h2 := inV_iff.1 hw
  rw [inV_iff]
  unfold subM
  simp only
  omega
theorem minus_eq (F : Nat) {x y : Int} {v w : S__3_int} (hv : inV x v = true) (hw : inV y w = true) (hx : 0 ≤ x ∧ x ≤ 1000000) (hy : 0 ≤ y ∧ y ≤ 1000000) : sky_vector_minus F v w = some (subM v w) := by
  have h1 := inV_iff.1 hv
  have h2 := inV_iff.1 hw
  unfold sky_vector_minus subM
  rw [w64_id (n := v.e0 - w.e0) (by omega) (by omega), w64_id (n := v.e1 - w.e1) (by omega) (by omega), w64_id (n := v.e2 - w.e2) (by omega) (by omega)]
/-- A direction: its coordinates, and one of them is not 0. -/
def okDir (d : S__3_int) : Prop := inV 8 d = true ∧ 1 ≤ dotM d d ∧ dotM d d ≤ 192
theorem dir_le {n c : Int} (h : (1 ≤ n ∧ n ≤ 8) ∧ 0 ≤ c ∧ c < 6 * (n * n)) : okDir (dirM n c) := by
  have hi : 0 ≤ c / n % n ∧ c / n % n ≤ n - 1 := ⟨Int.emod_nonneg _ (by omega), by have := Int.emod_lt_of_pos (c / n) (show 0 < n by omega); omega⟩
  have hj : 0 ≤ c % n ∧ c % n ≤ n - 1 := ⟨Int.emod_nonneg _ (by omega), by have := Int.emod_lt_of_pos c (show 0 < n by omega); omega⟩
  have key : ∀ d : S__3_int, (-8 ≤ d.e0 ∧ d.e0 ≤ 8) ∧ (-8 ≤ d.e1 ∧ d.e1 ≤ 8) ∧ (-8 ≤ d.e2 ∧ d.e2 ≤ 8) → (d.e0 ≠ 0 ∨ d.e1 ≠ 0 ∨ d.e2 ≠ 0) → okDir d := by
    intro d h hz
    have s : ∀ x : Int, 0 ≤ x * x ∧ (x ≠ 0 → 1 ≤ x * x) := fun x => by
      by_cases hx : x = 0
      · subst hx; simp
      · have h1 : 0 < x.natAbs := by omega
        have h2 : ((x.natAbs * x.natAbs : Nat) : Int) = x * x := Int.natAbs_mul_self
        have h3 := Nat.mul_pos h1 h1
        omega
    have b : ∀ x : Int, -8 ≤ x ∧ x ≤ 8 → x * x ≤ 64 := fun x hx => (mul_in hx hx (by omega) (by omega)).2
    have b0 := b _ h.1; have b1 := b _ h.2.1; have b2 := b _ h.2.2
    have s0 := s d.e0; have s1 := s d.e1; have s2 := s d.e2
    refine ⟨inV_iff.2 h, ?_, ?_⟩
    · unfold dotM
      rcases hz with h | h | h
      · have := s0.2 h; omega
      · have := s1.2 h; omega
      · have := s2.2 h; omega
    · unfold dotM; omega
  refine key _ ?_ ?_
  · unfold dirM
    rcases face_lt h with e | e | e | e | e | e <;> rw [e] <;> simp only [if_true, show ¬ ((1 : Int) = 0) by decide, show ¬ ((2 : Int) = 0) by decide, show ¬ ((2 : Int) = 1) by decide, show ¬ ((3 : Int) = 0) by decide, show ¬ ((3 : Int) = 1) by decide, show ¬ ((3 : Int) = 2) by decide, show ¬ ((4 : Int) = 0) by decide, show ¬ ((4 : Int) = 1) by decide, show ¬ ((4 : Int) = 2) by decide, show ¬ ((4 : Int) = 3) by decide, show ¬ ((5 : Int) = 0) by decide, show ¬ ((5 : Int) = 1) by decide, show ¬ ((5 : Int) = 2) by decide, show ¬ ((5 : Int) = 3) by decide, show ¬ ((5 : Int) = 4) by decide, if_false] <;> omega
  · unfold dirM
    rcases face_lt h with e | e | e | e | e | e <;> rw [e] <;> simp only [if_true, show ¬ ((1 : Int) = 0) by decide, show ¬ ((2 : Int) = 0) by decide, show ¬ ((2 : Int) = 1) by decide, show ¬ ((3 : Int) = 0) by decide, show ¬ ((3 : Int) = 1) by decide, show ¬ ((3 : Int) = 2) by decide, show ¬ ((4 : Int) = 0) by decide, show ¬ ((4 : Int) = 1) by decide, show ¬ ((4 : Int) = 2) by decide, show ¬ ((4 : Int) = 3) by decide, show ¬ ((5 : Int) = 0) by decide, show ¬ ((5 : Int) = 1) by decide, show ¬ ((5 : Int) = 2) by decide, show ¬ ((5 : Int) = 3) by decide, show ¬ ((5 : Int) = 4) by decide, if_false] <;> omega
theorem diff_eq (F : Nat) {p q d : S__3_int} (hp : inV 65536 p = true) (hq : inV 65536 q = true) (hd : okDir d) : sky_place_difference F p q d = some ⟨dotM (subM p q) d, dotM d d⟩ ∧ RatB ⟨dotM (subM p q) d, dotM d d⟩ := by
  have h1 := dot_eq F (sub_in hp hq) hd.1 (by omega) (by omega)
  unfold sky_place_difference sky_vector_along
  rw [minus_eq F hp hq (by omega) (by omega), bnd_eq, h1.1, bnd_eq, square_eq F hd.1 (by omega), bnd_eq, bnd_eq]
  have h2 := hd.2
  exact ⟨rfl, ⟨by simp only; omega, by simp only; omega, h2.1, by simp only; omega⟩⟩
/-- The place of a site. -/
def plc (l : List S_api_Site) (i : Int) : S__3_int := match l[i.toNat]? with
  | some x => x.Place
  | none => ⟨0, 0, 0⟩
def pairB (l : List S_api_Site) (d : S__3_int) (a b : S_api_Arrival) : Bool := aboutB (dotM d d) (dotM (subM (plc l a.Site) (plc l b.Site)) d) (b.Time - a.Time) (a.Slack + b.Slack)
structure OkA (n : Int) (a : S_api_Arrival) : Prop where
  site : 0 ≤ a.Site ∧ a.Site < n
  time : -1099511627776 ≤ a.Time ∧ a.Time ≤ 1099511627776
  slack : 0 ≤ a.Slack ∧ a.Slack ≤ 65536
theorem plc_in {l : List S_api_Site} (hl : ∀ x ∈ l, inV 65536 x.Place = true) (i : Int) : inV 65536 (plc l i) = true := by
  unfold plc
  split
  · rename_i x hx
    exact hl x (List.mem_of_getElem? hx)
  · rfl
theorem site_at {l : List S_api_Site} {i : Int} (h : 0 ≤ i ∧ i < l.length) : ∃ x, idx (l.map siteOf) i = some x ∧ x.place = plc l i := by
  obtain ⟨j, rfl⟩ : ∃ j : Nat, i = j := ⟨i.toNat, by omega⟩
  obtain ⟨x, hx⟩ := get_lt (l := l) (i := j) (by omega)
  refine ⟨siteOf x, by rw [idx_nat, List.getElem?_map, hx]; rfl, ?_⟩
  unfold plc
  rw [show ((j : Nat) : Int).toNat = j by omega, hx]
  rfl
theorem fit2 (F : Nat) (hF : 64 < F) (hd : List S_sky_site → List S_api_Arrival → List S_api_Arrival → Int → Int → S__3_int → Option Bool) (l : List S_api_Site) (hl : ∀ x ∈ l, inV 65536 x.Place = true) (t t' : List S_api_Arrival) (n i : Int) (d : S__3_int) (hdir : okDir d) (b : S_api_Arrival) (hb : OkA l.length b) (pre : List S_api_Arrival) (hpre : ∀ a ∈ pre, OkA l.length a) (hlen : pre.length ≤ 1000) :
    ∀ (k N j : Nat), k = pre.length - j → j ≤ pre.length → k < N → sky_fit_2 F hd N (l.map siteOf) t t' n i pre pre.length j d b = bif (pre.drop j).all (fun a => pairB l d a b) then hd (l.map siteOf) t t' n (w64 (i + 1)) d else some false
  | k, 0, j, _, _, h => by omega
  | 0, N + 1, j, hk, hj, _ => by
    rw [sky_fit_2, bif_neg' (by omega), List.drop_of_length_le (by omega)]
    rfl
  | k + 1, N + 1, j, hk, hj, hN => by
    obtain ⟨a, ha⟩ := get_lt (l := pre) (i := j) (by omega)
    have oa := hpre a (List.mem_of_getElem? ha)
    obtain ⟨x, hx, hx'⟩ := site_at (l := l) oa.site
    obtain ⟨y, hy, hy'⟩ := site_at (l := l) hb.site
    have hdf := diff_eq F (plc_in hl a.Site) (plc_in hl b.Site) hdir
    have t1 := oa.time; have t2 := hb.time; have s1 := oa.slack; have s2 := hb.slack
    rw [sky_fit_2, bif_pos' (by omega), idx_nat, ha, bnd_eq, hx, bnd_eq, hy, bnd_eq, hx', hy', hdf.1, bnd_eq, w64_id (n := b.Time - a.Time) (by omega) (by omega), w64_id (n := a.Slack + b.Slack) (by omega) (by omega), about_eq F hF _ hdf.2 _ _ (by omega) (by omega), bnd_eq, drop_get ha, List.all_cons]
    show (bif !(pairB l d a b) then _ else _) = _
    cases pairB l d a b with
    | false => rfl
    | true =>
      rw [Bool.not_true, bif_f', up (by omega), fit2 F hF hd l hl t t' n i d hdir b hb pre hpre hlen k N (j + 1) (by omega) (by omega) (by omega), Bool.true_and]
def fitGo (l : List S_api_Site) (d : S__3_int) : List S_api_Arrival → List S_api_Arrival → Bool
  | _, [] => true
  | pre, b :: r => pre.all (fun a => pairB l d a b) && fitGo l d (pre ++ [b]) r
def fitM (l : List S_api_Site) (d : S__3_int) (t : List S_api_Arrival) : Bool := fitGo l d [] t
theorem fitGo_iff (l : List S_api_Site) (d : S__3_int) : ∀ (r pre : List S_api_Arrival), fitGo l d pre r = true ↔ (∀ a ∈ pre, ∀ b ∈ r, pairB l d a b = true) ∧ r.Pairwise fun a b => pairB l d a b = true
  | [], pre => by simp [fitGo]
  | b :: r, pre => by
    rw [fitGo, Bool.and_eq_true, fitGo_iff l d r (pre ++ [b]), List.pairwise_cons, List.all_eq_true]
    constructor
    · rintro ⟨h1, h2, h3⟩
      refine ⟨fun a ha c hc => ?_, fun c hc => h2 b (by simp) c hc, h3⟩
      rcases List.mem_cons.1 hc with rfl | hc
      · exact h1 a ha
      · exact h2 a (by simp [ha]) c hc
    · rintro ⟨h1, h2, h3⟩
      refine ⟨fun a ha => h1 a ha b (by simp), fun a ha c hc => ?_, h3⟩
      rcases List.mem_append.1 ha with ha | ha
      · exact h1 a ha c (by simp [hc])
      · rw [List.mem_singleton.1 ha]; exact h2 c hc
theorem fitM_iff {l : List S_api_Site} {d : S__3_int} {t : List S_api_Arrival} : fitM l d t = true ↔ t.Pairwise fun a b => pairB l d a b = true := by
  unfold fitM
  rw [fitGo_iff]
  simp
theorem fit1 (F : Nat) (hF : 64 < F) (l : List S_api_Site) (hl : ∀ x ∈ l, inV 65536 x.Place = true) (t : List S_api_Arrival) (ht : ∀ a ∈ t, OkA l.length a) (hlen : t.length ≤ 60) (d : S__3_int) (hdir : okDir d) : ∀ (k N i : Nat), k = t.length - i → i ≤ t.length → k < N → sky_fit_1 F N (l.map siteOf) t t t.length i d = some (fitGo l d (t.take i) (t.drop i))
  | k, 0, i, _, _, h => by omega
  | 0, N + 1, i, hk, hi, _ => by
    rw [sky_fit_1, bif_neg' (by omega), List.drop_of_length_le (by omega)]
    rfl
  | k + 1, N + 1, i, hk, hi, hN => by
    obtain ⟨b, hb⟩ := get_lt (l := t) (i := i) (by omega)
    have hp : ∀ a ∈ t.take i, OkA l.length a := fun a ha => ht a (List.mem_of_mem_take ha)
    have h2 := fit2 F hF (sky_fit_1 F N) l hl t t t.length i d hdir b (ht b (List.mem_of_getElem? hb)) (t.take i) hp (by rw [List.length_take]; omega) (t.take i).length F 0 rfl (by omega) (by rw [List.length_take]; omega)
    rw [sky_fit_1, bif_pos' (by omega), idx_nat, hb, bnd_eq, subc0 t i (by omega) rfl, bnd_eq]
    refine h2.trans ?_
    rw [drop_get hb, fitGo, List.drop_zero]
    cases (t.take i).all (fun a => pairB l d a b) with
    | false => rfl
    | true =>
      rw [bif_t', up (by omega), fit1 F hF l hl t ht hlen d hdir k N (i + 1) (by omega) (by omega) (by omega), Bool.true_and]
      have e : t.take (i + 1) = t.take i ++ [b] := by rw [List.take_add_one, hb]; rfl
      rw [e]
theorem fit_eq (F : Nat) (hF : 64 < F) (l : List S_api_Site) (hl : ∀ x ∈ l, inV 65536 x.Place = true) (t : List S_api_Arrival) (ht : ∀ a ∈ t, OkA l.length a) (hlen : t.length ≤ 60) (d : S__3_int) (hdir : okDir d) : sky_fit F (l.map siteOf) t d = some (fitM l d t) := by
  unfold sky_fit
  exact fit1 F hF l hl t ht hlen d hdir t.length F 0 rfl (by omega) (by omega)
/-- Arrivals. -/
def arrGo (n : Int) : Int → List S_api_Arrival → Bool
  | _, [] => true
  | last, a :: r => (inR (last + 1) a.Site (n - 1) && (inR (-1099511627776) a.Time 1099511627776 && inR 0 a.Slack 65536)) && arrGo n a.Site r
def arrB (n : Int) (t : List S_api_Arrival) : Bool := arrGo n (-1) t && decide (2 ≤ t.length)
theorem arr1 (F : Nat) (t : List S_api_Arrival) (n : Int) (hn : 0 ≤ n ∧ n ≤ 1000) (ht : t.length ≤ 9223372036854775807) : ∀ (k N i : Nat) (last : Int), k = t.length - i → i ≤ t.length → k < N → -1 ≤ last ∧ last < 1000 → sky_areArrivals_1 F N t n last t t.length i = some (arrGo n last (t.drop i) && decide (2 ≤ t.length))
  | k, 0, i, last, _, _, h, _ => by omega
  | 0, N + 1, i, last, hk, hi, _, _ => by
    rw [sky_areArrivals_1, bif_neg' (by omega), List.drop_of_length_le (by omega)]
    show some (decide ((2 : Int) ≤ (t.length : Int))) = some (true && decide (2 ≤ t.length))
    rw [Bool.true_and, decide_eq_decide.2 (show (2 : Int) ≤ (t.length : Int) ↔ 2 ≤ t.length by omega)]
  | k + 1, N + 1, i, last, hk, hi, hN, hlast => by
    obtain ⟨a, ha⟩ := get_lt (l := t) (i := i) (by omega)
    rw [sky_areArrivals_1, bif_pos' (by omega), idx_nat, ha, bnd_eq, w64_id (n := last + 1) (by omega) (by omega), w64_id (n := n - 1) (by omega) (by omega), isFrom_eq, bnd_eq, drop_get ha]
    show _ = some (((inR (last + 1) a.Site (n - 1) && (inR (-1099511627776) a.Time 1099511627776 && inR 0 a.Slack 65536)) && arrGo n a.Site (t.drop (i + 1))) && decide (2 ≤ t.length))
    unfold sky_areArrivals_2 sky_areArrivals_3 sky_isInstant
    cases e : inR (last + 1) a.Site (n - 1) with
    | false => rfl
    | true =>
      have h1 := inR_iff.1 e
      rw [Bool.not_true, bif_f', isFrom_eq, bnd_eq, bnd_eq]
      cases inR (-1099511627776) a.Time 1099511627776 with
      | false => rfl
      | true =>
        rw [Bool.not_true, bif_f', isFrom_eq, bnd_eq]
        cases inR 0 a.Slack 65536 with
        | false => rfl
        | true =>
          rw [Bool.not_true, bif_f', up (by omega), arr1 F t n hn ht k N (i + 1) a.Site (by omega) (by omega) (by omega) (by omega)]
          rfl
theorem areArrivals_eq (F : Nat) (t : List S_api_Arrival) (n : Int) (hn : 0 ≤ n ∧ n ≤ 1000) (ht : t.length ≤ 9223372036854775807) (hF : t.length < F) : sky_areArrivals F t n = some (arrB n t) := by
  unfold sky_areArrivals
  exact arr1 F t n hn ht t.length F 0 (-1) rfl (by omega) (by omega) (by omega)
theorem arrGo_is (n : Int) : ∀ (t : List S_api_Arrival) (last : Int), -1 ≤ last → last < n → arrGo n last t = true → (∀ a ∈ t, OkA n a) ∧ (t.length : Int) ≤ n - 1 - last
  | [], last, h, h2, _ => ⟨fun a ha => (nomatch ha), by simp; omega⟩
  | a :: r, last, h, h2, hg => by
    unfold arrGo at hg
    simp only [Bool.and_eq_true] at hg
    have h1 := inR_iff.1 hg.1.1
    obtain ⟨h3, h4⟩ := arrGo_is n r a.Site (by omega) (by omega) hg.2
    refine ⟨fun b hb => ?_, by rw [List.length_cons]; omega⟩
    rcases List.mem_cons.1 hb with rfl | hb
    · exact ⟨by omega, inR_iff.1 hg.1.2.1, inR_iff.1 hg.1.2.2⟩
    · exact h3 b hb
theorem arr_is {n : Int} {t : List S_api_Arrival} (hn : 0 ≤ n) (h : arrB n t = true) : (∀ a ∈ t, OkA n a) ∧ (t.length : Int) ≤ n ∧ 2 ≤ t.length := by
  unfold arrB at h
  rw [Bool.and_eq_true, decide_eq_true_eq] at h
  obtain ⟨h1, h2⟩ := arrGo_is n t (-1) (by omega) (by omega) h.1
  exact ⟨h1, by omega, h.2⟩
def cellsL (n : Int) : List Int := (List.range (6 * (n * n)).toNat).map fun i : Nat => (i : Int)
theorem fits1 (F : Nat) (hF : 64 < F) (l : List S_api_Site) (hl : ∀ x ∈ l, inV 65536 x.Place = true) (t : List S_api_Arrival) (ht : ∀ a ∈ t, OkA l.length a) (hlen : t.length ≤ 60) (n : Int) (hn : 1 ≤ n ∧ n ≤ 8) (C : Nat) (hC : (C : Int) = 6 * (n * n)) (hC2 : C ≤ 384) : ∀ (k N i : Nat) (acc : List Int), k = C - i → i ≤ C → k < N → acc.length ≤ i → sky_Fits_1 F N C i t n (l.map siteOf) acc = some (acc ++ ((List.range' i k).map fun i : Nat => (i : Int)).filter (fun c => fitM l (dirM n c) t), 0)
  | k, 0, i, acc, _, _, h, _ => by omega
  | 0, N + 1, i, acc, hk, hi, _, _ => by
    rw [sky_Fits_1, bif_neg' (by omega)]
    simp
  | k + 1, N + 1, i, acc, hk, hi, hN, ha => by
    have hc : (1 ≤ n ∧ n ≤ 8) ∧ (0 : Int) ≤ i ∧ (i : Int) < 6 * (n * n) := ⟨hn, by omega, by omega⟩
    rw [sky_Fits_1, bif_pos' (by omega), direction_eq F hc, bnd_eq, fit_eq F hF l hl t ht hlen _ (dir_le hc), bnd_eq, up (by omega), List.range'_succ, List.map_cons]
    cases e : fitM l (dirM n i) t with
    | false => rw [bif_f', fits1 F hF l hl t ht hlen n hn C hC hC2 k N (i + 1) _ (by omega) (by omega) (by omega) (by omega), List.filter_cons_of_neg (by simp [e])]
    | true => rw [bif_t', apd_ok (by simp; omega) (by omega), bnd_eq, fits1 F hF l hl t ht hlen n hn C hC hC2 k N (i + 1) _ (by omega) (by omega) (by omega) (by simp; omega), List.filter_cons_of_pos (by simp [e]), List.append_assoc]; rfl
def fitsM (l : List S_api_Site) (n : Int) (t : List S_api_Arrival) : List Int := (cellsL n).filter fun c => fitM l (dirM n c) t
def fitsR (l : List S_api_Site) (n : Int) (t : List S_api_Arrival) : List Int × Int := bif netB l then (bif inR 1 n 8 then (bif arrB l.length t then (fitsM l n t, 0) else ([], 92)) else ([], 91)) else ([], 90)
theorem Fits_eq (F : Nat) (hF : 400 < F) (l : List S_api_Site) (n : Int) (t : List S_api_Arrival) (hl : l.length ≤ 9223372036854775807) (ht : t.length ≤ 9223372036854775807) (hFt : t.length < F) : sky_Fits F l n t = some (fitsR l n t) := by
  unfold sky_Fits fitsR
  rw [checkNetGrid_eq F (by omega) l hl, bnd_eq]
  cases e1 : netB l with
  | false => rfl
  | true =>
    obtain ⟨hl1, hl2⟩ := net_is e1
    rw [bif_t', bif_t']
    cases e2 : inR 1 n 8 with
    | false => rfl
    | true =>
      have hn := inR_iff.1 e2
      rw [bif_t', bif_t']
      show (bnd (sky_areArrivals F t l.length) fun r31 => _) = _
      rw [areArrivals_eq F t l.length (by omega) ht hFt, bnd_eq]
      cases e3 : arrB l.length t with
      | false => rfl
      | true =>
        obtain ⟨ht1, ht2, ht3⟩ := arr_is (by omega) e3
        rw [bif_t', Bool.not_true, bif_f', sitesOf_eq F l (by omega) (by omega), bnd_eq, cells_eq F hn, bnd_eq]
        have hn2 : 0 ≤ 6 * (n * n) ∧ 6 * (n * n) ≤ 384 := by rcases eight hn with rfl | rfl | rfl | rfl | rfl | rfl | rfl | rfl <;> decide
        have := fits1 F (by omega) l hl2 t ht1 (by omega) n hn (6 * (n * n)).toNat (by omega) (by omega) (6 * (n * n)).toNat F 0 [] (by omega) (by omega) (by omega) (by simp)
        rw [show (((6 * (n * n)).toNat : Nat) : Int) = 6 * (n * n) by omega] at this
        refine this.trans ?_
        rw [List.nil_append, ← List.range_eq_range']
        rfl
theorem mem_cells {n c : Int} (hn : 1 ≤ n ∧ n ≤ 8) : c ∈ cellsL n ↔ 0 ≤ c ∧ c < 6 * (n * n) := by
  unfold cellsL
  rw [List.mem_map]
  constructor
  · rintro ⟨i, hi, rfl⟩
    have := List.mem_range.1 hi
    omega
  · intro h
    exact ⟨c.toNat, List.mem_range.2 (by omega), by omega⟩
end Go.Ev.SkyRings
