/- SkyAllRings. -/
import Derived.Test.YtkmmplbbefijaaaGreatDoorSkyAllRingsMath7
namespace Go.Ev.SkyAllRings
open Go Go.Ev Go.Proofs
set_option linter.unusedVariables false
theorem Cells_eq (F : Nat) (n : Int) : sky_Cells F n = some (bif inR 1 n 8 then (6 * (n * n), 0) else (0, 91)) := by
  unfold sky_Cells
  rw [checkGrid_eq, bnd_eq]
  cases e : inR 1 n 8 with
  | false => rfl
  | true => rw [bif_t', bif_t', cells_eq F (inR_iff.1 e)]; rfl
/-- All pairs, those before first. -/
def allP : List S_api_Arrival → List S_api_Arrival → List (S_api_Arrival × S_api_Arrival)
  | _, [] => []
  | pre, b :: r => pre.map (fun a => (a, b)) ++ allP (pre ++ [b]) r
theorem allP_fit (l : List S_api_Site) (d : S__3_int) : ∀ (r pre : List S_api_Arrival), fitGo l d pre r = (allP pre r).all fun p => pairB l d p.1 p.2
  | [], pre => rfl
  | b :: r, pre => by
    rw [fitGo, allP, List.all_append, allP_fit l d r (pre ++ [b]), List.all_map]
    rfl
theorem allP_len : ∀ (r pre : List S_api_Arrival), (allP pre r).length ≤ r.length * (pre.length + r.length)
  | [], pre => by simp [allP]
  | b :: r, pre => by
    have := allP_len r (pre ++ [b])
    rw [allP, List.length_append, List.length_map]
    simp only [List.length_append, List.length_cons, List.length_nil] at this ⊢
    have e : (r.length + 1) * (pre.length + (r.length + 1)) = r.length * (pre.length + 1 + r.length) + (pre.length + (r.length + 1)) := by
      rw [Nat.add_mul, Nat.one_mul]
      congr 2
      omega
    simp only [Nat.zero_add] at this
    omega
def cnt (l : List S_api_Site) (n : Int) (P : List (S_api_Arrival × S_api_Arrival)) (c : Int) : Int := (P.countP fun p => pairB l (dirM n c) p.1 p.2 : Nat)
def manyM (l : List S_api_Site) (n : Int) (P : List (S_api_Arrival × S_api_Arrival)) : List Int := (cellsL n).map (cnt l n P)
def bump : List Int → List Int → List Int
  | M, [] => M
  | M, x :: r => bump (M.set x.toNat (M[x.toNat]?.getD 0 + 1)) r
theorem bump_len : ∀ (xs M : List Int), (bump M xs).length = M.length
  | [], M => rfl
  | x :: r, M => by rw [bump, bump_len r]; simp
theorem bump_get : ∀ (xs M : List Int) (c : Nat), (∀ x ∈ xs, 0 ≤ x) → c < M.length → (bump M xs)[c]? = some (M[c]?.getD 0 + (xs.count (c : Int) : Nat))
  | [], M, c, _, hc => by
    obtain ⟨m, hm⟩ := get_lt hc
    rw [bump, hm]
    simp
  | x :: r, M, c, hx, hc => by
    have h0 := hx x (by simp)
    rw [bump, bump_get r _ c (fun y hy => hx y (by simp [hy])) (by simpa using hc), List.getElem?_set, List.count_cons]
    by_cases he : x.toNat = c
    · have : x = (c : Int) := by omega
      subst this
      rw [if_pos (by omega)]
      simp only [Int.toNat_natCast, hc, if_true, Option.getD_some, beq_self_eq_true]
      congr 1
      omega
    · have hne : (x == (c : Int)) = false := by rw [beq_eq_false_iff_ne]; omega
      rw [if_neg he, hne]
      simp
theorem cells_nodup (n : Int) : (cellsL n).Nodup := by
  unfold cellsL
  exact List.Pairwise.map _ (fun a b h he => h (by omega)) List.nodup_range
theorem cells_get {n : Int} {i : Nat} (h : (i : Int) < 6 * (n * n)) : (cellsL n)[i]? = some (i : Int) := by
  unfold cellsL
  rw [List.getElem?_map, List.getElem?_range (by omega)]
  rfl
theorem cells_len (n : Int) : (cellsL n).length = (6 * (n * n)).toNat := by
  unfold cellsL
  simp
theorem ring_is (l : List S_api_Site) (d : S__3_int) (a b : S_api_Arrival) : ringB l a.Site b.Site (b.Time - a.Time) (b.Slack + a.Slack) d = pairB l d a b := by
  unfold ringB pairB
  rw [Int.add_comm b.Slack a.Slack]
theorem bump_ring {l : List S_api_Site} {n : Int} (hn : 1 ≤ n ∧ n ≤ 8) (P : List (S_api_Arrival × S_api_Arrival)) (a b : S_api_Arrival) : bump (manyM l n P) (ringM l n a.Site b.Site (b.Time - a.Time) (b.Slack + a.Slack)) = manyM l n (P ++ [(a, b)]) := by
  apply List.ext_getElem?
  intro c
  by_cases hc : c < (6 * (n * n)).toNat
  · have hlen : (manyM l n P).length = (6 * (n * n)).toNat := by unfold manyM; rw [List.length_map, cells_len]
    have hpos : ∀ x ∈ ringM l n a.Site b.Site (b.Time - a.Time) (b.Slack + a.Slack), 0 ≤ x := by
      intro x hx
      have := (mem_cells hn).1 (List.mem_filter.1 hx).1
      omega
    rw [bump_get _ _ c hpos (by omega)]
    unfold manyM
    rw [List.getElem?_map, List.getElem?_map, cells_get (by omega)]
    simp only [Option.map_some, Option.getD_some]
    congr 1
    unfold cnt
    rw [List.countP_append]
    have hcount : (ringM l n a.Site b.Site (b.Time - a.Time) (b.Slack + a.Slack)).count (c : Int) = [(a, b)].countP fun p => pairB l (dirM n c) p.1 p.2 := by
      unfold ringM
      have hnd := cells_nodup n
      rw [List.Nodup.count (List.Pairwise.filter _ hnd), List.countP_cons, List.countP_nil]
      by_cases hp : pairB l (dirM n c) a b = true
      · rw [if_pos (List.mem_filter.2 ⟨(mem_cells hn).2 (by omega), by rw [ring_is]; exact hp⟩)]
        simp [hp]
      · rw [if_neg (fun h => hp (by have := (List.mem_filter.1 h).2; rwa [ring_is] at this))]
        simp [hp]
    rw [hcount]
    simp
  · rw [List.getElem?_eq_none (by rw [bump_len]; unfold manyM; rw [List.length_map, cells_len]; omega), List.getElem?_eq_none (by unfold manyM; rw [List.length_map, cells_len]; omega)]
theorem law5 (F : Nat) (hd : List S_api_Arrival → Int → Int → Int → Int → List S_api_Site → Int → Int → List Int → List Int → Option Bool) (t : List S_api_Arrival) (C : Nat) (p i j : Int) (L : List S_api_Site) (n z : Int) (all : List Int) (xs : List Int) (hxs : ∀ x ∈ xs, 0 ≤ x ∧ x < C) (hlen : xs.length ≤ 100000) :
    ∀ (k N q : Nat) (M : List Int), k = xs.length - q → q ≤ xs.length → k < N → M.length = C → (∀ m ∈ M, 0 ≤ m ∧ m ≤ 1000000000 + q) → law09_SkyAllRings_5 F hd N t C p i j q L n z all M xs = hd t C p i (w64 (j + 1)) L n z all (bump M (xs.drop q))
  | k, 0, q, M, _, _, h, _, _ => by omega
  | 0, N + 1, q, M, hk, hq, _, _, _ => by
    rw [law09_SkyAllRings_5, bif_neg' (by omega), List.drop_of_length_le (by omega)]
    rfl
  | k + 1, N + 1, q, M, hk, hq, hN, hM, hM2 => by
    obtain ⟨x, hx⟩ := get_lt (l := xs) (i := q) (by omega)
    have h1 := hxs x (List.mem_of_getElem? hx)
    obtain ⟨c, rfl⟩ : ∃ c : Nat, x = c := ⟨x.toNat, by omega⟩
    obtain ⟨m, hm⟩ := get_lt (l := M) (i := c) (by omega)
    have hm2 := hM2 m (List.mem_of_getElem? hm)
    rw [law09_SkyAllRings_5, bif_pos' (by omega), idx_nat, hx, bnd_eq, bif_neg' (by omega), bnd_eq, decide_eq_false (show ¬ ((C : Int) ≤ c) by omega)]
    unfold law09_SkyAllRings_6
    rw [bif_f', idx_nat, hx, bnd_eq, idx_nat, hm, bnd_eq, inn_at (by omega), bnd_eq, w64_id (n := m + 1) (by omega) (by omega), upd_at (by omega), bnd_eq, up (by omega)]
    rw [law5 F hd t C p i j L n z all xs hxs hlen k N (q + 1) _ (by omega) (by omega) (by omega) (by simpa using hM) (fun y hy => by
      rcases List.mem_or_eq_of_mem_set hy with h | h
      · have := hM2 y h; omega
      · subst h; omega), drop_get hx]
    show _ = hd t C p i (w64 (j + 1)) L n z all (bump (M.set ((c : Int)).toNat (M[((c : Int)).toNat]?.getD 0 + 1)) (xs.drop (q + 1)))
    rw [Int.toNat_natCast, hm]
    rfl
theorem many_le (l : List S_api_Site) (n : Int) (P : List (S_api_Arrival × S_api_Arrival)) (hP : P.length ≤ 1000) : ∀ m ∈ manyM l n P, 0 ≤ m ∧ m ≤ 1000000000 + 0 := by
  intro m hm
  obtain ⟨c, _, rfl⟩ := List.mem_map.1 hm
  have := List.countP_le_length (p := fun p : S_api_Arrival × S_api_Arrival => pairB l (dirM n c) p.1 p.2) (l := P)
  unfold cnt
  omega
theorem far {u t n s : Int} (hu : 1 ≤ u) (ht : -4000000 ≤ t ∧ t ≤ 4000000) (hs : 0 ≤ s ∧ s ≤ 131072) (hn : n < -1099511627776 ∨ 1099511627776 < n) : aboutB u t n s = false := by
  unfold aboutB
  have hb : t * t ≤ 16000000000000 := (sq_top ht).2
  have hb0 : 0 ≤ t * t := (sq_top ht).1
  have hsq : -16000000000000 ≤ sq t ∧ sq t ≤ 16000000000000 := by
    by_cases h0 : 0 ≤ t
    · rw [sq_pos h0]; omega
    · rw [sq_neg (by omega)]; omega
  have big : ∀ x : Int, 1000000000000 ≤ x → 1000000000000000000000000 ≤ x * x * u := by
    intro x hx
    have h1 : 1000000000000 * 1000000000000 ≤ x * x := Int.mul_le_mul hx hx (by omega) (by omega)
    have h2 : x * x * 1 ≤ x * x * u := Int.mul_le_mul_of_nonneg_left hu (by omega)
    omega
  rcases hn with hn | hn
  · have h1 := big (-(n + s)) (by omega)
    have e : sq (n + s) * u = -(-(n + s) * -(n + s) * u) := by rw [sq_neg (by omega)]; grind
    rw [decide_eq_false (show ¬ (sq t ≤ sq (n + s) * u) by omega), Bool.and_false]
  · have h1 := big (n - s) (by omega)
    have e : sq (n - s) * u = (n - s) * (n - s) * u := by rw [sq_pos (by omega)]
    rw [decide_eq_false (show ¬ (sq (n - s) * u ≤ sq t) by omega), Bool.false_and]
/-- The setting. -/
structure Set9 (l : List S_api_Site) (n : Int) (t : List S_api_Arrival) : Prop where
  net : netB l = true
  grid : inR 1 n 8 = true
  arr : arrB l.length t = true
theorem sorted (n : Int) : ∀ (t : List S_api_Arrival) (last : Int), arrGo n last t = true → t.Pairwise (fun a b => a.Site < b.Site) ∧ ∀ a ∈ t, last < a.Site
  | [], last, _ => ⟨.nil, fun a ha => nomatch ha⟩
  | a :: r, last, h => by
    unfold arrGo at h
    simp only [Bool.and_eq_true] at h
    have h1 := inR_iff.1 h.1.1
    obtain ⟨h2, h3⟩ := sorted n r a.Site h.2
    exact ⟨List.pairwise_cons.2 ⟨h3, h2⟩, fun b hb => by
      rcases List.mem_cons.1 hb with rfl | hb
      · omega
      · have := h3 b hb; omega⟩
theorem ring_pair {l : List S_api_Site} {n : Int} {t : List S_api_Arrival} (h : Set9 l n t) {a b : S_api_Arrival} (ha : a ∈ t) (hb : b ∈ t) (hab : a.Site < b.Site) :
    (ringR l n a.Site b.Site (b.Time - a.Time) (b.Slack + a.Slack) = (ringM l n a.Site b.Site (b.Time - a.Time) (b.Slack + a.Slack), 0)) ∨ (ringR l n a.Site b.Site (b.Time - a.Time) (b.Slack + a.Slack) = ([], 92) ∧ ∀ c, 0 ≤ c ∧ c < 6 * (n * n) → pairB l (dirM n c) a b = false) := by
  obtain ⟨ht1, ht2, _⟩ := arr_is (by omega) h.arr
  have oa := ht1 a ha
  have ob := ht1 b hb
  have hs : inR 0 (b.Slack + a.Slack) 131072 = true := inR_iff.2 (by have := oa.slack; have := ob.slack; omega)
  have hbt : betwB a.Site b.Site l.length = true := by
    unfold betwB
    have := oa.site
    have := ob.site
    rw [inR_iff.2 (by omega), inR_iff.2 (by omega), show (a.Site == b.Site) = false from by rw [beq_eq_false_iff_ne]; omega]
    rfl
  unfold ringR
  rw [h.net, h.grid, hbt, hs, bif_t', bif_t', Bool.true_and, Bool.and_true]
  cases e : inR (-1099511627776) (b.Time - a.Time) 1099511627776 with
  | true => exact .inl rfl
  | false =>
    refine .inr ⟨rfl, fun c hc => ?_⟩
    have hn := inR_iff.1 h.grid
    obtain ⟨_, hl2⟩ := net_is h.net
    have hd := diff_eq 0 (plc_in hl2 a.Site) (plc_in hl2 b.Site) (dir_le ⟨hn, hc⟩)
    have hnot := inR_false.1 e
    unfold pairB
    rw [Int.add_comm]
    exact far hd.2.u1 ⟨hd.2.t1, hd.2.t2⟩ (inR_iff.1 hs) (by omega)
theorem law3 (F : Nat) (hF : 500 < F) (hw : works F = some true) (hd : List S_api_Arrival → Int → Int → Int → List S_api_Site → Int → Int → List Int → List Int → Option Bool) (l : List S_api_Site) (n z : Int) (t : List S_api_Arrival) (h : Set9 l n t) (hl : l.length ≤ 9223372036854775807) (all : List Int) (hall : all = fitsM l n t) (C : Nat) (hC : (C : Int) = 6 * (n * n)) (i : Nat) (b : S_api_Arrival) (hb : t[i]? = some b) :
    ∀ (k N j : Nat) (P : List (S_api_Arrival × S_api_Arrival)), k = i - j → j ≤ i → k < N → P.length + (i - j) ≤ 900 → (∀ Q, Q = P ++ ((t.take i).drop j).map (fun a => (a, b)) → hd t C (Q.length : Nat) (w64 ((i : Int) + 1)) l n z all (manyM l n Q) = some true) → law09_SkyAllRings_3 F hd N t C (P.length : Nat) i j l n z all (manyM l n P) = some true
  | k, 0, j, P, _, _, h, _, _ => by omega
  | 0, N + 1, j, P, hk, hj, _, hP, hnext => by
    rw [law09_SkyAllRings_3, bif_neg' (by omega)]
    have e : (t.take i).drop j = [] := List.drop_of_length_le (by rw [List.length_take]; omega)
    exact hnext P (by rw [e]; simp)
  | k + 1, N + 1, j, P, hk, hj, hN, hP, hnext => by
    have hn := inR_iff.1 h.grid
    obtain ⟨ht1, ht2, _⟩ := arr_is (by omega) h.arr
    obtain ⟨hl1, hl2⟩ := net_is h.net
    have hil := (List.getElem?_eq_some_iff.1 hb).1
    obtain ⟨a, ha⟩ := get_lt (l := t) (i := j) (by omega)
    have hma := List.mem_of_getElem? ha
    have hmb := List.mem_of_getElem? hb
    have hab : a.Site < b.Site := by
      have hA := h.arr
      unfold arrB at hA
      rw [Bool.and_eq_true] at hA
      have := (sorted _ t (-1) hA.1).1
      rw [List.pairwise_iff_getElem] at this
      have := this j i (by omega) (by omega) (by omega)
      rw [(List.getElem?_eq_some_iff.1 ha).2, (List.getElem?_eq_some_iff.1 hb).2] at this
      exact this
    have oa := ht1 a hma
    have ob := ht1 b hmb
    have t1 := oa.time; have t2 := ob.time; have s1 := oa.slack; have s2 := ob.slack
    rw [law09_SkyAllRings_3, bif_pos' (by omega), idx_nat, ha, bnd_eq, idx_nat, hb, bnd_eq, bnd_eq, bnd_eq, bnd_eq, bnd_eq, w64_id (n := b.Time - a.Time) (by omega) (by omega), w64_id (n := b.Slack + a.Slack) (by omega) (by omega), Ring_eq F (by omega) l n _ _ _ _ hl, bnd_eq]
    rcases ring_pair h hma hmb hab with e | ⟨e, hno⟩
    · rw [e]
      show law09_SkyAllRings_5 F (law09_SkyAllRings_3 F hd N) F t C (w64 ((P.length : Nat) + 1)) i j 0 l n z all (manyM l n P) (ringM l n a.Site b.Site (b.Time - a.Time) (b.Slack + a.Slack)) = _
      have hn2 : 6 * (n * n) ≤ 384 := by rcases eight hn with rfl | rfl | rfl | rfl | rfl | rfl | rfl | rfl <;> decide
      have hrl : (ringM l n a.Site b.Site (b.Time - a.Time) (b.Slack + a.Slack)).length ≤ 384 := by
        have := List.length_filter_le (fun c => ringB l a.Site b.Site (b.Time - a.Time) (b.Slack + a.Slack) (dirM n c)) (cellsL n)
        unfold ringM
        rw [cells_len] at this
        omega
      have h5 := law5 F (law09_SkyAllRings_3 F hd N) t C (w64 ((P.length : Nat) + 1)) i j l n z all (ringM l n a.Site b.Site (b.Time - a.Time) (b.Slack + a.Slack)) (fun x hx => by have := (mem_cells hn).1 (List.mem_filter.1 hx).1; omega) (by omega) _ F 0 (manyM l n P) rfl (by omega) (by omega) (by unfold manyM; rw [List.length_map, cells_len]; omega) (many_le l n P (by omega))
      refine h5.trans ?_
      rw [List.drop_zero, bump_ring hn, up (by omega), up (by omega)]
      have := law3 F hF hw hd l n z t h hl all hall C hC i b hb k N (j + 1) (P ++ [(a, b)]) (by omega) (by omega) (by omega) (by simp; omega) (fun Q hQ => hnext Q (by
        rw [hQ, drop_get (l := t.take i) (i := j) (a := a) (by rw [List.getElem?_take_of_lt (by omega)]; exact ha)]
        simp))
      rw [List.length_append] at this
      exact this
    · rw [e]
      have hall0 : all = [] := by
        rw [hall]
        unfold fitsM
        rw [List.filter_eq_nil_iff]
        intro c hc hf
        have hp := fitM_iff.1 hf
        rw [List.pairwise_iff_getElem] at hp
        have := hp j i (by omega) (by omega) (by omega)
        rw [(List.getElem?_eq_some_iff.1 ha).2, (List.getElem?_eq_some_iff.1 hb).2, hno c ((mem_cells hn).1 hc)] at this
        simp at this
      rw [hall0]
      show (bnd (works F) fun r64 => law09_SkyAllRings_4 F r64) = _
      rw [hw]
      rfl
theorem law2 (F : Nat) (hF : 500 < F) (hw : works F = some true) (l : List S_api_Site) (n z : Int) (t : List S_api_Arrival) (h : Set9 l n t) (hl : l.length ≤ 9223372036854775807) (all : List Int) (hall : all = fitsM l n t) (C : Nat) (hC : (C : Int) = 6 * (n * n)) :
    ∀ (k N i : Nat) (P : List (S_api_Arrival × S_api_Arrival)), k = t.length - i → i ≤ t.length → k < N → P.length ≤ i * 20 → (∀ Q, Q = P ++ allP (t.take i) (t.drop i) → law09_SkyAllRings_7 F F C (Q.length : Nat) 0 all (manyM l n Q) = some true) → law09_SkyAllRings_2 F N t C (P.length : Nat) i l n z all (manyM l n P) = some true
  | k, 0, i, P, _, _, h, _, _ => by omega
  | 0, N + 1, i, P, hk, hi, _, _, hnext => by
    rw [law09_SkyAllRings_2, bif_neg' (by omega)]
    exact hnext P (by rw [List.drop_of_length_le (by omega : t.length ≤ i), allP]; simp)
  | k + 1, N + 1, i, P, hk, hi, hN, hP, hnext => by
    obtain ⟨ht1, ht2, _⟩ := arr_is (by omega) h.arr
    obtain ⟨hl1, _⟩ := net_is h.net
    obtain ⟨b, hb⟩ := get_lt (l := t) (i := i) (by omega)
    rw [law09_SkyAllRings_2, bif_pos' (by omega)]
    refine law3 F hF hw (law09_SkyAllRings_2 F N) l n z t h hl all hall C hC i b hb i F 0 P rfl (by omega) (by omega) (by omega) (fun Q hQ => ?_)
    rw [up (by omega)]
    refine law2 F hF hw l n z t h hl all hall C hC k N (i + 1) Q (by omega) (by omega) (by omega) (by rw [hQ]; simp; omega) (fun Q2 hQ2 => hnext Q2 ?_)
    have e : t.take (i + 1) = t.take i ++ [b] := by rw [List.take_add_one, hb]; rfl
    rw [hQ2, hQ, drop_get hb, allP, e, List.drop_zero, List.append_assoc]
theorem law7 (F : Nat) (hF : 500 < F) (hw : works F = some true) (l : List S_api_Site) (n : Int) (hn : 1 ≤ n ∧ n ≤ 8) (t : List S_api_Arrival) (C : Nat) (hC : (C : Int) = 6 * (n * n)) (Q : List (S_api_Arrival × S_api_Arrival)) (hQ : Q = allP [] t) : ∀ (k N c : Nat), k = C - c → c ≤ C → k < N → law09_SkyAllRings_7 F N C (Q.length : Nat) c (fitsM l n t) (manyM l n Q) = some true
  | k, 0, c, _, _, h => by omega
  | 0, N + 1, c, hk, hc, _ => by
    rw [law09_SkyAllRings_7, bif_neg' (by omega), hw]
    rfl
  | k + 1, N + 1, c, hk, hc, hN => by
    have hn2 : 6 * (n * n) ≤ 384 := by rcases eight hn with rfl | rfl | rfl | rfl | rfl | rfl | rfl | rfl <;> decide
    have hm : (manyM l n Q)[c]? = some (cnt l n Q c) := by
      unfold manyM
      rw [List.getElem?_map, cells_get (by omega)]
      rfl
    have hfl : (fitsM l n t).length ≤ 384 := by
      have := List.length_filter_le (fun c => fitM l (dirM n c) t) (cellsL n)
      unfold fitsM
      rw [cells_len] at this
      omega
    obtain ⟨r, h1, h2, _⟩ := find_eq F (fitsM l n t) c (by omega) (by omega)
    have hin : (c : Int) ∈ fitsM l n t ↔ cnt l n Q c = (Q.length : Nat) := by
      unfold fitsM cnt
      rw [List.mem_filter, mem_cells hn]
      have : fitM l (dirM n c) t = Q.all fun p => pairB l (dirM n c) p.1 p.2 := by rw [hQ]; exact allP_fit l (dirM n c) t []
      rw [this, List.all_eq_true]
      constructor
      · rintro ⟨_, h⟩
        rw [List.countP_eq_length.2 h]
      · intro h
        exact ⟨by omega, List.countP_eq_length.1 (by omega)⟩
    rw [law09_SkyAllRings_7, bif_pos' (by omega), idx_nat, hm, bnd_eq, h1, bnd_eq]
    have e : (cnt l n Q c == ((Q.length : Nat) : Int)) = decide (0 ≤ r) := by
      by_cases hx : (c : Int) ∈ fitsM l n t
      · rw [hin.1 hx, beq_self_eq_true, decide_eq_true (h2.2 hx)]
      · rw [decide_eq_false (fun h => hx (h2.1 h)), beq_eq_false_iff_ne]
        exact fun h => hx (hin.2 h)
    rw [e, beq_self_eq_true, Bool.not_true, bif_f', up (by omega)]
    exact law7 F hF hw l n hn t C hC Q hQ k N (c + 1) (by omega) (by omega) (by omega)
theorem law_eq (F : Nat) (x : S_ringdownlaw09_Net) (t : List S_api_Arrival) (hl : x.L.length ≤ 9223372036854775807) (hF : x.L.length + 500 < F) (ht : t.length ≤ 9223372036854775807) (hFt : t.length + 500 < F) (hw : works F = some true) : law09_SkyAllRings F x t = some true := by
  unfold law09_SkyAllRings
  rw [Fits_eq F (by omega) x.L x.N t hl ht (by omega), bnd_eq]
  unfold fitsR
  cases e1 : netB x.L with
  | false => simp only [cond_false]; rw [hw]; rfl
  | true =>
    cases e2 : inR 1 x.N 8 with
    | false => simp only [cond_false, cond_true]; rw [hw]; rfl
    | true =>
      cases e3 : arrB x.L.length t with
      | false => simp only [cond_false, cond_true]; rw [hw]; rfl
      | true =>
        have hn := inR_iff.1 e2
        have hn2 : 0 ≤ 6 * (x.N * x.N) ∧ 6 * (x.N * x.N) ≤ 384 := by rcases eight hn with h | h | h | h | h | h | h | h <;> rw [h] <;> decide
        rw [bif_t', bif_t', bif_t']
        show (bnd (sky_Cells F x.N) fun r38 => _) = _
        rw [Cells_eq, e2, bif_t', bnd_eq]
        show (bnd (mk (6 * (x.N * x.N)) 8 (0 : Int)) fun l42 => _) = _
        obtain ⟨C, hC⟩ : ∃ C : Nat, 6 * (x.N * x.N) = C := ⟨(6 * (x.N * x.N)).toNat, by omega⟩
        rw [hC, mk_ok (by omega) (by omega), bnd_eq]
        have hm0 : List.replicate C (0 : Int) = manyM x.L x.N [] := by
          apply List.ext_getElem?
          intro c
          unfold manyM
          rw [List.getElem?_map]
          by_cases hc : c < C
          · rw [cells_get (by omega)]
            simp [hc, cnt]
          · rw [List.getElem?_eq_none (by simp; omega), List.getElem?_eq_none (by rw [cells_len]; omega)]
            rfl
        rw [hm0]
        exact law2 F (by omega) hw x.L x.N x.Cell t ⟨e1, e2, e3⟩ hl _ rfl C hC.symm t.length F 0 [] rfl (by omega) (by omega) (by simp) (fun Q hQ => law7 F (by omega) hw x.L x.N hn t C hC.symm Q (by rw [hQ]; simp) C F 0 rfl (by omega) (by omega))
end Go.Ev.SkyAllRings
