/- The specification's tiles and parts; GlitchParts. -/
import Derived.Test.YtdcgepenffjdcaaGreatDoorGlitchPartsMath6
namespace Go.Ev.GlitchParts
open Go Go.Ev Go.Proofs
set_option linter.unusedVariables false
theorem rt2 (F : Nat) (hd : List Int → Int → List S_api_Tile → Option (List S_api_Tile)) (y d : List Int) (lev : Int) (hd1 : d.length ≤ 4096) :
    ∀ (k N i : Nat) (acc : List S_api_Tile), k = d.length - i → i ≤ d.length → k < N → acc.length + d.length ≤ 8192 + i → ref06_tiles_2 F hd N y lev i acc d = bnd (ref06_halves F y 1) fun r => hd r (w64 (lev + 1)) (acc ++ tilesOf lev i (d.drop i))
  | k, 0, i, acc, _, _, h, _ => by omega
  | 0, N + 1, i, acc, hk, hi, _, _ => by
    rw [ref06_tiles_2, bif_neg' (by omega : ¬ ((i : Int) < d.length)), List.drop_of_length_le (by omega)]
    simp [tilesOf]
  | k + 1, N + 1, i, acc, hk, hi, hN, ha => by
    obtain ⟨a, hx⟩ := get_lt (l := d) (i := i) (by omega)
    have e : w64 ((i : Int) + 1) = ((i + 1 : Nat) : Int) := by rw [w64_id (by omega) (by omega)]; simp
    rw [ref06_tiles_2, bif_pos' (by omega : ((i : Int) < d.length)), idx_nat, hx, bnd_eq, apd_eq (by simp; omega) (by simp; omega), bnd_eq, e, rt2 F hd y d lev hd1 k N (i + 1) _ (by omega) (by omega) (by omega) (by simp; omega), drop_get hx, tilesOf, List.append_assoc]
    rfl
theorem rt1 (F : Nat) (hF : 1100 < F) : ∀ (j N : Nat) (y : List Int) (lev : Int) (acc : List S_api_Tile), j ≤ 10 → y.length = 2 ^ j → Bd (2 ^ j) 1073741824 y → j < N → 0 ≤ lev → lev + j ≤ 100 → acc.length + y.length ≤ 4096 → ref06_tiles_1 F N y lev acc = some (acc ++ tl j lev y)
  | j, 0, _, _, _, _, _, _, h, _, _, _ => by omega
  | 0, N + 1, y, lev, acc, _, hy, _, _, _, _, _ => by
    rw [ref06_tiles_1, bif_neg' (by rw [hy]; simp)]
    simp [tl]
  | j + 1, N + 1, y, lev, acc, hj, hy, hB, hN, hl0, hl1, hac => by
    have hpow : (2 : Nat) ^ j ≤ 2 ^ 9 := Nat.pow_le_pow_right (by omega) (by omega)
    have hpos : 1 ≤ (2 : Nat) ^ j := Nat.one_le_two_pow
    have hy2 : y.length = 2 * 2 ^ j := by rw [hy, Nat.pow_succ]; omega
    have hS := S_len _ y hy2
    have hD := D_len _ y hy2
    have hw := Bd_Wi (two_pow_pos' (j + 1)) hB
    rw [Int.pow_succ] at hB
    obtain ⟨hBS, hBD⟩ := Bd_SD hB
    have el : w64 (lev + 1) = lev + 1 := w64_id (by omega) (by omega)
    have h2 := rt2 F (ref06_tiles_1 F N) y (D y) lev (by omega) (D y).length F 0 acc (by omega) (by omega) (by omega) (by omega)
    have h3 : ref06_tiles_2 F (ref06_tiles_1 F N) F y lev 0 acc (D y) = _ := h2
    rw [ref06_tiles_1, bif_pos' (by omega : ((1 : Int) < y.length)), halves_eq F y (-1) (2 ^ j) (.inr rfl) hy2 (by omega) hw (by omega), bnd_eq, SGm, h3, halves_eq F y 1 (2 ^ j) (.inl rfl) hy2 (by omega) hw (by omega), bnd_eq, SG1, List.drop_zero, el, rt1 F hF j N (S y) (lev + 1) _ (by omega) hS hBS (by omega) (by omega) (by omega) (by simp [tilesOf_len]; omega), tl, List.append_assoc]
def fnd (a : S_api_Tile) : List S_api_Tile → Option Nat
  | [] => none
  | t :: ts => bif eqT t a then some 0 else (fnd a ts).map (· + 1)
theorem strip_fnd (a : S_api_Tile) (l : List S_api_Tile) : ∀ ts : List S_api_Tile, strip ts (a :: l) = (match fnd a ts with
      | none => a :: l
      | some d => strip (ts.drop (d + 1)) l)
  | [] => rfl
  | t :: ts => by
    rw [strip, fnd, eqT_comm a t]
    cases eqT t a with
    | true => rfl
    | false =>
      simp only [cond_false]
      rw [strip_fnd a l ts]
      cases fnd a ts <;> rfl
theorem fnd_mem (a : S_api_Tile) : ∀ (ts : List S_api_Tile) (d : Nat), fnd a ts = some d → a ∈ ts ∧ d < ts.length
  | [], d, h => by simp [fnd] at h
  | t :: ts, d, h => by
    rw [fnd] at h
    cases hc : eqT t a with
    | true =>
      rw [hc] at h
      simp only [cond_true, Option.some.injEq] at h
      exact ⟨by rw [← eqT_iff.1 hc]; exact List.mem_cons_self, by simp; omega⟩
    | false =>
      rw [hc] at h
      simp only [cond_false, Option.map_eq_some_iff] at h
      obtain ⟨e, h1, h2⟩ := h
      have := fnd_mem a ts e h1
      exact ⟨List.mem_cons_of_mem _ this.1, by simp; omega⟩
theorem rp4 (F : Nat) (hd : List Int → List S_api_Tile → Int → Int → List S_api_Tile → List Int → Option (List Int × Int)) (x : List Int) (L ts : List S_api_Tile) (v9 : Int) (q : Nat) (a : S_api_Tile) (ha : L[q]? = some a) (lv : Nat) (h8 : shn a.Level = some lv) (h9 : min lv (IntKind.bits .i64) = lv) (W : Int) (h12 : Int.fdiv (x.length : Int) (2 ^ lv) = W) (f t m : Nat) (htf : t = f + 2 * m) (ht : t ≤ 4096) :
    ∀ (k N i : Nat) (p : List Int), k = t - i → f ≤ i → i ≤ t → k < N → t ≤ p.length → ref06_Part_4 F hd N x L v9 q f t i ts p = hd x L v9 (w64 ((q : Int) + 1)) ts (addR (w64 (a.D * W)) i (f + m) t p)
  | k, 0, i, p, _, _, _, hh, _ => by omega
  | 0, N + 1, i, p, hk, hf, hi, _, hp => by
    rw [ref06_Part_4, bif_neg' (by omega : ¬ ((i : Int) < t)), addR_end _ _ _ _ _ (by omega)]
  | k + 1, N + 1, i, p, hk, hf, hi, hN, hp => by
    obtain ⟨v, hv⟩ := get_lt (l := p) (i := i) (by omega)
    have e : w64 ((i : Int) + 1) = ((i + 1 : Nat) : Int) := by rw [w64_id (by omega) (by omega)]; simp
    have e2 : w64 ((t : Int) - f) = ((2 * m : Nat) : Int) := by rw [w64_id (by omega) (by omega)]; omega
    have e3 : w64 (2 * w64 ((i : Int) - f)) = ((2 * (i - f) : Nat) : Int) := by rw [w64_id (n := (i : Int) - f) (by omega) (by omega), w64_id (by omega) (by omega)]; omega
    have ih : ∀ p', t ≤ p'.length → ref06_Part_4 F hd N x L v9 q f t ((i + 1 : Nat) : Int) ts p' = hd x L v9 (w64 ((q : Int) + 1)) ts (addR (w64 (a.D * W)) (i + 1) (f + m) t p') := fun p' hp' => rp4 F hd x L ts v9 q a ha lv h8 h9 W h12 f t m htf ht k N (i + 1) p' (by omega) (by omega) (by omega) (by omega) hp'
    rw [ref06_Part_4, bif_pos' (by omega : ((i : Int) < t)), idx_at ha rfl, bnd_eq, bnd_eq, h8, bnd_eq, h9, h12, e2, e3, addR_step _ i (f + m) t p v (by omega) hv]
    unfold ref06_Part_5
    by_cases hc : 2 * m ≤ 2 * (i - f)
    · rw [bif_pos' (by omega : (((2 * m : Nat) : Int) ≤ ((2 * (i - f) : Nat) : Int))), idx_at hv rfl, bnd_eq, inn_at (i := i) (by omega) rfl, bnd_eq, upd_at (by omega), bnd_eq, e, ih _ (by simp; omega), if_neg (by omega), w64_addR]
      rfl
    · rw [bif_neg' (by omega : ¬ (((2 * m : Nat) : Int) ≤ ((2 * (i - f) : Nat) : Int))), idx_at hv rfl, bnd_eq, inn_at (i := i) (by omega) rfl, bnd_eq, upd_at (by omega), bnd_eq, e, ih _ (by simp; omega), if_pos (by omega)]
theorem rp2 (F : Nat) (hd : List Int → List S_api_Tile → Int → Int → List S_api_Tile → List Int → Option (List Int × Int)) (x : List Int) (hx : x.length ≤ 1024) (hF : 1100 < F) (L ts : List S_api_Tile) (hts : ts.length ≤ 4096) (hV : ∀ t ∈ ts, VT x.length t) (q : Nat) (a : S_api_Tile) (ha : L[q]? = some a) (p : List Int) (hp : p.length = x.length) :
    ∀ (k N i : Nat), k = ts.length - i → i ≤ ts.length → k < N → ref06_Part_2 F hd N x L i q ts p = match fnd a (ts.drop i) with
      | none => some ([], 61)
      | some d => hd x L ((i + d + 1 : Nat) : Int) (w64 ((q : Int) + 1)) ts (upT x.length p a)
  | k, 0, i, _, _, h => by omega
  | 0, N + 1, i, hk, hi, _ => by
    have hii : i = ts.length := by omega
    rw [ref06_Part_2, bif_neg' (by omega : ¬ ((i : Int) < ts.length)), List.drop_of_length_le (by omega)]
    unfold ref06_Part_3
    have : ((i : Int) == (ts.length : Int)) = true := by rw [beq_iff_eq]; omega
    rw [this]
    rfl
  | k + 1, N + 1, i, hk, hi, hN => by
    obtain ⟨t, ht⟩ := get_lt (l := ts) (i := i) (by omega)
    have e : w64 ((i : Int) + 1) = ((i + 1 : Nat) : Int) := by rw [w64_id (by omega) (by omega)]; simp
    have ih := rp2 F hd x hx hF L ts hts hV q a ha p hp k N (i + 1) (by omega) (by omega) (by omega)
    have e2 : ((t.Level == a.Level) && ((t.At == a.At) && ((t.D == a.D) && true))) = eqT t a := rfl
    rw [ref06_Part_2, bif_pos' (by omega : ((i : Int) < ts.length)), idx_nat, ht, bnd_eq, idx_at ha rfl, bnd_eq, e2, drop_get ht, fnd]
    unfold ref06_Part_3
    cases hc : eqT t a with
    | false =>
      simp only [Bool.not_false, cond_true, cond_false]
      rw [e, ih]
      cases fnd a (ts.drop (i + 1)) with
      | none => rfl
      | some d =>
        simp only [Option.map_some]
        congr 2
        omega
    | true =>
      have hta := eqT_iff.1 hc
      subst hta
      obtain ⟨lv, b, h1, h2, h4, h3, h5, h6, h7, h8, h9, h10, h11, h12⟩ := cover_eq (hV t (List.mem_of_getElem? ht)) hx
      have hpow := pow2_10 h4
      obtain ⟨m, hm⟩ : ∃ m, 2 ^ lv = 2 * m := ⟨2 ^ (lv - 1), by rw [show lv = (lv - 1) + 1 by omega, Nat.pow_succ]; simp; omega⟩
      have hne : ((i : Int) == (ts.length : Int)) = false := by rw [beq_eq_false_iff_ne]; omega
      have hcov : ref06_covers F t = some (((b * 2 ^ lv : Nat) : Int), (((b + 1) * 2 ^ lv : Nat) : Int)) := by
        unfold ref06_covers
        rw [h8]
        simp only [bnd_eq, h9, h10, h11]
      have hend : (b + 1) * 2 ^ lv = b * 2 ^ lv + 2 * m := by rw [Nat.succ_mul]; omega
      simp only [Bool.not_true, cond_false, hne, cond_true]
      rw [idx_at ha rfl, bnd_eq, hcov, bnd_eq, e, rp4 F hd x L ts _ q t ha lv h8 h9 _ h12 (b * 2 ^ lv) ((b + 1) * 2 ^ lv) m hend (by omega) ((b + 1) * 2 ^ lv - b * 2 ^ lv) F (b * 2 ^ lv) p (by omega) (by omega) (by omega) (by omega) (by omega)]
      have hup : upT x.length p t = addR (w64 (t.D * ((x.length / 2 ^ lv : Nat) : Int))) (b * 2 ^ lv) (b * 2 ^ lv + m) ((b + 1) * 2 ^ lv) p := by
        unfold upT
        rw [h6, h7, show 2 ^ lv / 2 = m by omega]
      rw [hup]
theorem upT_len (n : Nat) (p : List Int) (t : S_api_Tile) : (upT n p t).length = p.length := by unfold upT; exact addR_len _ _ _ _ _
theorem rp1 (F : Nat) (x : List Int) (hx : x.length ≤ 1024) (hF : 1100 < F) (L ts : List S_api_Tile) (hts : ts.length ≤ 1050) (hV : ∀ t ∈ ts, VT x.length t) (hLl : L.length ≤ 9223372036854775807) :
    ∀ (k N q i : Nat) (p : List Int), k = L.length - q → q ≤ L.length → i ≤ ts.length → k < N → p.length = x.length → ref06_Part_1 F N x L i q ts p = some (bif ((strip (ts.drop i) (L.drop q)).length : Int) == 0 then ((L.drop q).foldl (upT x.length) p, 0) else ([], 61))
  | k, 0, q, i, p, _, _, _, h, _ => by omega
  | 0, N + 1, q, i, p, hk, hq, hi, _, hp => by
    rw [ref06_Part_1, bif_neg' (by omega : ¬ ((q : Int) < L.length)), List.drop_of_length_le (by omega : L.length ≤ q), strip_nil]
    rfl
  | k + 1, N + 1, q, i, p, hk, hq, hi, hN, hp => by
    obtain ⟨a, ha⟩ := get_lt (l := L) (i := q) (by omega)
    have e : w64 ((q : Int) + 1) = ((q + 1 : Nat) : Int) := by rw [w64_id (by omega) (by omega)]; simp
    have h2 := rp2 F (ref06_Part_1 F N) x hx hF L ts (by omega) hV q a ha p hp (ts.length - i) F i rfl hi (by omega)
    rw [ref06_Part_1, bif_pos' (by omega : ((q : Int) < L.length)), h2, drop_get ha, strip_fnd]
    cases hf : fnd a (ts.drop i) with
    | none =>
      simp only []
      have : (((a :: L.drop (q + 1)).length : Int) == 0) = false := by rw [beq_eq_false_iff_ne]; simp; omega
      rw [this]
      rfl
    | some d =>
      have hd := (fnd_mem a _ d hf).2
      simp only [List.length_drop] at hd
      simp only []
      rw [e, rp1 F x hx hF L ts hts hV hLl k N (q + 1) (i + d + 1) _ (by omega) (by omega) (by omega) (by omega) (by rw [upT_len, hp]), List.drop_drop, show i + (d + 1) = i + d + 1 by omega]
      rfl
theorem rPart_eq (F : Nat) (x : List Int) (l : List S_api_Tile) (hl : x.length ≤ 9223372036854775807) (hll : l.length ≤ 9223372036854775807) (hF : x.length + 1200 < F) (hF2 : l.length + 1100 < F) {k : Nat} (hk : sig x = true → k ≤ 10 ∧ x.length = 2 ^ k ∧ Wi 1048576 x) : ref06_Part F x l = some (partR x l k) := by
  unfold ref06_Part partR
  rw [rCheck_eq F x hl (by omega), bnd_eq]
  cases hs : sig x with
  | false => rfl
  | true =>
    obtain ⟨h1, h2, h3⟩ := hk hs
    have hp := pow2_10 h1
    have htl := tl_len k 1 x h2
    have ht : ref06_tiles F x = some (tl k 1 x) := by
      have := rt1 F (by omega) k F x 1 [] h1 h2 (sig_Bd h1 h3) (by omega) (by omega) (by omega) (by simp; omega)
      rw [List.nil_append] at this
      exact this
    have hV : ∀ t ∈ tl k 1 x, VT x.length t := fun t ht => by
      rw [h2]
      exact VT_tl k 0 x (by omega) h2 t ht
    simp only [cond_true, BEq.rfl, Bool.not_true, cond_false]
    rw [ht, bnd_eq, mk_eq x.length (by omega), bnd_eq]
    have := rp1 F x (by omega) (by omega) l (tl k 1 x) (by omega) hV hll l.length F 0 0 (List.replicate x.length 0) (by omega) (by omega) (by omega) (by omega) (by simp)
    rw [List.drop_zero, List.drop_zero] at this
    exact this
theorem foldl_len (n : Nat) : ∀ (l : List S_api_Tile) (p : List Int), (l.foldl (upT n) p).length = p.length
  | [], _ => rfl
  | t :: l, p => by rw [List.foldl_cons, foldl_len n l, upT_len]
theorem law_eq (F : Nat) (x : List Int) (l : List S_api_Tile) (hx : x.length ≤ 9223372036854775807) (hl : l.length ≤ 9223372036854775807) (hF : x.length + 1200 < F) (hF2 : l.length + 1200 < F) (hw : works F = some true) : law06_GlitchParts F x l = some true := by
  obtain ⟨k, h1, h2⟩ := Transform_ex x
  unfold law06_GlitchParts law06_GlitchParts_1 law06_GlitchParts_2
  rw [Part_eq F x l hx hl (by omega) (by omega) h2, bnd_eq, rPart_eq F x l hx hl hF (by omega) h2, bnd_eq]
  have hlen : (partR x l k).1.length ≤ 1024 := by
    unfold partR
    cases hs : sig x with
    | false => simp
    | true =>
      obtain ⟨g1, g2, g3⟩ := h2 hs
      have hp := pow2_10 g1
      cases (((strip (tl k 1 x) l).length : Int) == 0) with
      | false => simp
      | true => simp only [cond_true]; rw [foldl_len, List.length_replicate]; omega
  rw [same_eq F _ _ (by omega) (by omega), bnd_eq, hw]
  simp [bnd_eq]
end Go.Ev.GlitchParts
