/- What is injected is taken out again; what envelopes tell apart. -/
import Derived.Test.YtgaofnakcccbkaaSearchOpensMath5
namespace Go.Ev.SearchOpens
open Go Go.Ev Go.Proofs
set_option linter.unusedVariables false
theorem w64_w64 (a : Int) : w64 (w64 a) = w64 a := by
  have := w64_addL a 0
  simpa using this
def cS (S : List Int) (o i : Nat) : Int := if o ≤ i then S[i - o]?.getD 0 else 0
theorem cS_cons (s : Int) (r : List Int) (o i : Nat) : cS (s :: r) o i = (if i = o then s else 0) + cS r (o + 1) i := by
  unfold cS
  by_cases h : i = o
  · subst h
    rw [if_pos (Nat.le_refl _), if_pos rfl, if_neg (by omega), Nat.sub_self]
    simp
  · rw [if_neg h]
    by_cases h2 : o ≤ i
    · rw [if_pos h2, if_pos (by omega), show i - o = (i - (o + 1)) + 1 by omega, List.getElem?_cons_succ]
      omega
    · rw [if_neg h2, if_neg (by omega)]
      omega
theorem addS_at (q : Int) : ∀ (S l : List Int) (o i : Nat) (x : Int), l[i]? = some x → w64 x = x → (addS q l o S)[i]? = some (w64 (x + q * cS S o i))
  | [], l, o, i, x, hx, hw => by
    have : cS [] o i = 0 := by
      unfold cS
      split <;> simp
    rw [addS, this, hx, Int.mul_zero, Int.add_zero, hw]
  | s :: r, l, o, i, x, hx, hw => by
    have h1 : (l.set o (w64 (l[o]?.getD 0 + w64 (q * s))))[i]? = some (w64 (x + q * (if i = o then s else 0))) := by
      have hi := (List.getElem?_eq_some_iff.1 hx).1
      rw [List.getElem?_set]
      by_cases h : o = i
      · subst h
        rw [if_pos rfl, if_pos hi, if_pos rfl, hx, Option.getD_some, w64_addR]
      · rw [if_neg h, if_neg (fun e => h e.symm), hx, Int.mul_zero, Int.add_zero, hw]
    rw [addS, addS_at q r _ (o + 1) i _ h1 (w64_w64 _), cS_cons, w64_addL, Int.mul_add, Int.add_assoc]
def tot : List S_api_Wave → Nat → Int
  | [], _ => 0
  | w :: r, i => w.Gain * cS w.Samples w.At.toNat i + tot r i
theorem addAll_at (k : Int) : ∀ (ws : List S_api_Wave) (l : List Int) (i : Nat) (x : Int), (∀ w ∈ ws, w64 (k * w.Gain) = k * w.Gain) → l[i]? = some x → w64 x = x → (addAll k l ws)[i]? = some (w64 (x + k * tot ws i))
  | [], l, i, x, _, hx, hw => by
    rw [addAll, tot, hx, Int.mul_zero, Int.add_zero, hw]
  | w :: r, l, i, x, hk, hx, hw => by
    have h1 := addS_at (w64 (k * w.Gain)) w.Samples l w.At.toNat i x hx hw
    rw [addAll, addAll_at k r _ i _ (fun w hw => hk w (List.mem_cons_of_mem _ hw)) h1 (w64_w64 _), hk w List.mem_cons_self, tot, w64_addL]
    congr 2
    rw [Int.mul_add, Int.mul_assoc, Int.add_assoc]
theorem wOk_gain {w : S_api_Wave} (h : wOk w = true) : -64 ≤ w.Gain ∧ w.Gain ≤ 64 := by
  rw [wOk, Bool.and_eq_true] at h
  exact inR_iff.1 h.1
theorem taken_out {x : List Int} {ws : List S_api_Wave} (h : chkW x ws = 0) : addAll (-1) (addAll 1 x ws) ws = x := by
  obtain ⟨h1, h2⟩ := chkW_0 h
  obtain ⟨_, w2⟩ := wavesB_ok h2
  obtain ⟨_, hx⟩ := isRec_ok h1
  have k1 : ∀ w ∈ ws, w64 (1 * w.Gain) = 1 * w.Gain := fun w hw => by
    have := wOk_gain (w2 w hw).1
    exact w64_id (by omega) (by omega)
  have k2 : ∀ w ∈ ws, w64 (-1 * w.Gain) = -1 * w.Gain := fun w hw => by
    have := wOk_gain (w2 w hw).1
    exact w64_id (by omega) (by omega)
  apply List.ext_getElem?
  intro i
  by_cases hi : i < x.length
  · obtain ⟨a, ha⟩ := get_lt (l := x) hi
    have hb := hx a (List.mem_of_getElem? ha)
    have hwa : w64 a = a := w64_id (by omega) (by omega)
    rw [addAll_at (-1) ws _ i _ k2 (addAll_at 1 ws x i a k1 ha hwa) (w64_w64 _), ha, w64_addL, show a + 1 * tot ws i + -1 * tot ws i = a by omega, hwa]
  · rw [List.getElem?_eq_none (by rw [addAll_len, addAll_len]; omega), List.getElem?_eq_none (by omega)]
/-- Codes. -/
theorem nxt_eq {c x : Int} (h1 : 0 ≤ c) (h2 : c < 2147483647) (h3 : -65536 ≤ x) (h4 : x ≤ 65536) : nxt c x = (c * 48271 + x + 65536) % 2147483647 := by
  unfold nxt
  rw [w64_id (n := c * 48271) (by omega) (by omega), w64_id (n := c * 48271 + x) (by omega) (by omega), w64_id (n := c * 48271 + x + 65536) (by omega) (by omega), Int.tmod_eq_emod_of_nonneg (by omega)]
theorem nxt_in {c x : Int} (h1 : 0 ≤ c) (h2 : c < 2147483647) (h3 : -65536 ≤ x) (h4 : x ≤ 65536) : 0 ≤ nxt c x ∧ nxt c x < 2147483647 := by
  rw [nxt_eq h1 h2 h3 h4]
  omega
theorem nxt_ne {c d x : Int} (h1 : 0 ≤ c) (h2 : c < 2147483647) (g1 : 0 ≤ d) (g2 : d < 2147483647) (h3 : -65536 ≤ x) (h4 : x ≤ 65536) (hne : c ≠ d) : nxt c x ≠ nxt d x := by
  rw [nxt_eq h1 h2 h3 h4, nxt_eq g1 g2 h3 h4]
  intro h
  have e1 := Int.mul_ediv_add_emod (c * 48271 + x + 65536) 2147483647
  have e2 := Int.mul_ediv_add_emod (d * 48271 + x + 65536) 2147483647
  generalize (c * 48271 + x + 65536) / 2147483647 = u at e1
  generalize (d * 48271 + x + 65536) / 2147483647 = v at e2
  rw [h] at e1
  have e3 : (c - d) * 48271 = 2147483647 * (u - v) := by omega
  have e4 : c - d = 2147483647 * ((c - d) * 22 - 0) - 2147483647 * ((c - d) * 22 - 0) + (c - d) := by omega
  omega
theorem nxt_ne2 {c x y : Int} (h1 : 0 ≤ c) (h2 : c < 2147483647) (h3 : -65536 ≤ x) (h4 : x ≤ 65536) (h5 : -65536 ≤ y) (h6 : y ≤ 65536) (hne : x ≠ y) : nxt c x ≠ nxt c y := by
  rw [nxt_eq h1 h2 h3 h4, nxt_eq h1 h2 h5 h6]
  omega
theorem fold_in : ∀ (S : List Int) (c : Int), 0 ≤ c → c < 2147483647 → (∀ s ∈ S, -65536 ≤ s ∧ s ≤ 65536) → 0 ≤ S.foldl nxt c ∧ S.foldl nxt c < 2147483647
  | [], c, h1, h2, _ => ⟨h1, h2⟩
  | s :: r, c, h1, h2, h => by
    have hs := h s List.mem_cons_self
    have := nxt_in h1 h2 hs.1 hs.2
    exact fold_in r _ this.1 this.2 fun s hs => h s (List.mem_cons_of_mem _ hs)
theorem fold_ne : ∀ (S : List Int) (c d : Int), 0 ≤ c → c < 2147483647 → 0 ≤ d → d < 2147483647 → (∀ s ∈ S, -65536 ≤ s ∧ s ≤ 65536) → c ≠ d → S.foldl nxt c ≠ S.foldl nxt d
  | [], c, d, _, _, _, _, _, h => h
  | s :: r, c, d, h1, h2, g1, g2, h, hne => by
    have hs := h s List.mem_cons_self
    have a1 := nxt_in h1 h2 hs.1 hs.2
    have a2 := nxt_in g1 g2 hs.1 hs.2
    exact fold_ne r _ _ a1.1 a1.2 a2.1 a2.2 (fun s hs => h s (List.mem_cons_of_mem _ hs)) (nxt_ne h1 h2 g1 g2 hs.1 hs.2 hne)
def wSm (w : S_api_Wave) : Prop := (0 ≤ w.At ∧ w.At ≤ 1024) ∧ (-64 ≤ w.Gain ∧ w.Gain ≤ 64) ∧ w.Samples.length ≤ 64 ∧ ∀ s ∈ w.Samples, -65536 ≤ s ∧ s ≤ 65536
theorem envW_in {w : S_api_Wave} (hw : wSm w) {c : Int} (h1 : 0 ≤ c) (h2 : c < 2147483647) : 0 ≤ envW c w ∧ envW c w < 2147483647 := by
  obtain ⟨a, g, l, s⟩ := hw
  have a1 := nxt_in (x := w.At) h1 h2 (by omega) (by omega)
  have a2 := nxt_in (x := w.Gain) a1.1 a1.2 (by omega) (by omega)
  have a3 := nxt_in (x := (w.Samples.length : Int)) a2.1 a2.2 (by omega) (by omega)
  exact fold_in w.Samples _ a3.1 a3.2 s
theorem envs_in : ∀ (ws : List S_api_Wave) (c : Int), 0 ≤ c → c < 2147483647 → (∀ w ∈ ws, wSm w) → 0 ≤ ws.foldl envW c ∧ ws.foldl envW c < 2147483647
  | [], c, h1, h2, _ => ⟨h1, h2⟩
  | w :: r, c, h1, h2, h => by
    have := envW_in (h w List.mem_cons_self) h1 h2
    exact envs_in r _ this.1 this.2 fun w hw => h w (List.mem_cons_of_mem _ hw)
theorem envW_ne {w : S_api_Wave} (hw : wSm w) {c g : Int} (h1 : 0 ≤ c) (h2 : c < 2147483647) (hg : -64 ≤ g ∧ g ≤ 64) (hne : w.Gain ≠ g) : envW c w ≠ envW c ⟨w.At, g, w.Samples⟩ := by
  obtain ⟨a, g', l, s⟩ := hw
  have a1 := nxt_in (x := w.At) h1 h2 (by omega) (by omega)
  have a2 := nxt_in (x := w.Gain) a1.1 a1.2 (by omega) (by omega)
  have b2 := nxt_in (x := g) a1.1 a1.2 (by omega) (by omega)
  have a3 := nxt_in (x := (w.Samples.length : Int)) a2.1 a2.2 (by omega) (by omega)
  have b3 := nxt_in (x := (w.Samples.length : Int)) b2.1 b2.2 (by omega) (by omega)
  have n2 := nxt_ne2 (x := w.Gain) (y := g) a1.1 a1.2 (by omega) (by omega) (by omega) (by omega) hne
  have n3 := nxt_ne (x := (w.Samples.length : Int)) a2.1 a2.2 b2.1 b2.2 (by omega) (by omega) n2
  exact fold_ne w.Samples _ _ a3.1 a3.2 b3.1 b3.2 s n3
theorem wavesB_sm {n : Int} {ws : List S_api_Wave} (hn : n ≤ 1024) (h : wavesB n ws = true) : ∀ w ∈ ws, wSm w := by
  obtain ⟨_, h2⟩ := wavesB_ok h
  intro w hw
  obtain ⟨a, b, c⟩ := h2 w hw
  have hl := wOk_len a
  have hg := wOk_gain a
  rw [wOk, Bool.and_eq_true, Bool.and_eq_true] at a
  exact ⟨by omega, hg, hl.2, fun s hs => by have := inR_iff.1 (List.all_eq_true.1 a.2.2 s hs); omega⟩
theorem wvs_bent {n : Int} {w w' : S_api_Wave} (h1 : w'.At = w.At) (h2 : w'.Samples = w.Samples) (hg : wOk w' = true) : ∀ (pre : List S_api_Wave) (last : Int), wvs n last (pre ++ [w]) = true → wvs n last (pre ++ [w']) = true
  | [], last, h => by
    have h' : ((wOk w && inR (last + 1) w.At (n - (w.Samples.length : Int))) && true) = true := h
    show ((wOk w' && inR (last + 1) w'.At (n - (w'.Samples.length : Int))) && true) = true
    rw [Bool.and_true, Bool.and_eq_true] at h' ⊢
    rw [h1, h2]
    exact ⟨hg, h'.2⟩
  | p :: r, last, h => by
    rw [List.cons_append, wvs, Bool.and_eq_true] at h ⊢
    exact ⟨h.1, wvs_bent h1 h2 hg r p.At h.2⟩
end Go.Ev.SearchOpens
