/- Signals: what the program's check says. -/
import Derived.Test.YtjddbfpinjjkkaaGreatDoorGlitchCountsMath9
namespace Go.Ev.GlitchCounts
open Go Go.Ev Go.Proofs
set_option linter.unusedVariables false
theorem gFrom_eq (F : Nat) (a b c : Int) : glitch_isFrom F a b c = some (inR a b c) := by
 unfold glitch_isFrom inR glitch_isFrom_1
 by_cases h : a ≤ b <;> simp [h]
theorem bitZ_ex {n : Nat} (h1 : 1 ≤ n) (h2 : n ≤ 1024) : ∃ z, bitZ Nat.land .i64 (n : Int) ((n - 1 : Nat) : Int) = some z := by
 refine ⟨IntKind.wrap .i64 ((Nat.land n (n - 1) : Nat) : Int), ?_⟩
 show (bif Nat.ble n (top .i64) && Nat.ble (n - 1) (top .i64) then some (IntKind.wrap .i64 ((Nat.land n (n - 1) : Nat) : Int)) else none) = _
 have ht : top .i64 = 9223372036854775807 := rfl
 rw [ht, show Nat.ble n 9223372036854775807 = true from Nat.ble_eq_true_of_le (by omega), show Nat.ble (n - 1) 9223372036854775807 = true from Nat.ble_eq_true_of_le (by omega)]
 rfl
theorem gLength_ex (F : Nat) (n : Nat) : ∃ s, glitch_isLength F (n : Int) = some s ∧ (s = true → 1 ≤ n ∧ n ≤ 1024) := by
 unfold glitch_isLength glitch_isLength_1
 rw [gFrom_eq, bnd_eq]
 cases e : inR 1 n 1024 with
 | false => exact ⟨false, rfl, fun h => by cases h⟩
 | true =>
  have := inR_iff.1 e
  obtain ⟨z, hz⟩ := bitZ_ex (n := n) (by omega) (by omega)
  rw [cond_true, w64_id (n := (n : Int) - 1) (by omega) (by omega), show (n : Int) - 1 = ((n - 1 : Nat) : Int) by omega, hz, bnd_eq]
  exact ⟨_, rfl, fun _ => ⟨by omega, by omega⟩⟩
theorem gAre1 (F : Nat) (l : List Int) (hl : l.length ≤ 9223372036854775807) : ∀ (k N i : Nat), k = l.length - i → i ≤ l.length → k < N →
  glitch_areFrom_1 F N 1048576 l l.length i = some ((l.drop i).all fun x => inR (-1048576) x 1048576)
 | k, 0, i, _, _, h => by omega
 | 0, N + 1, i, hk, hi, _ => by
  rw [glitch_areFrom_1, bif_neg' (by omega : ¬ ((i : Int) < l.length)), List.drop_of_length_le (by omega)]
  rfl
 | k + 1, N + 1, i, hk, hi, hN => by
  obtain ⟨x, hx⟩ := get_lt (l := l) (i := i) (by omega)
  have e0 : w64 (-(1048576 : Int)) = -1048576 := by decide
  rw [glitch_areFrom_1, bif_pos' (by omega : ((i : Int) < l.length)), idx_nat, hx, bnd_eq, e0, gFrom_eq, bnd_eq, drop_get hx, List.all_cons]
  cases e : inR (-1048576) x 1048576 with
  | false => rfl
  | true =>
   simp only [Bool.not_true, cond_false, Bool.true_and]
   rw [up (by omega), gAre1 F l hl k N (i + 1) (by omega) (by omega) (by omega)]
theorem gSignal_ex (F : Nat) (l : List Int) (hF : 1024 < F) (hl : l.length ≤ 9223372036854775807) : ∃ s, glitch_isSignal F l = some s ∧ (s = true → 1 ≤ l.length ∧ l.length ≤ 1024 ∧ ∀ x ∈ l, -1048576 ≤ x ∧ x ≤ 1048576) := by
 obtain ⟨s, h1, h2⟩ := gLength_ex F l.length
 unfold glitch_isSignal glitch_isSignal_1
 rw [h1, bnd_eq]
 cases s with
 | false => exact ⟨false, rfl, fun h => by cases h⟩
 | true =>
  obtain ⟨g1, g2⟩ := h2 rfl
  have := gAre1 F l hl l.length F 0 rfl (Nat.zero_le _) (by omega)
  rw [List.drop_zero] at this
  have this' : glitch_areFrom F l 1048576 = some (l.all fun x => inR (-1048576) x 1048576) := this
  rw [cond_true, this', bnd_eq]
  exact ⟨_, rfl, fun h => ⟨g1, g2, fun x hx => inR_iff.1 (List.all_eq_true.1 h x hx)⟩⟩
end Go.Ev.GlitchCounts
namespace Go.Ev.GlitchCounts
open Go Go.Ev Go.Proofs
set_option linter.unusedVariables false
def en (n : Nat) (t : S_api_Tile) : Int := w64 (w64 (t.D * t.D) * Int.fdiv (n : Int) (2 ^ (min t.Level.toNat (IntKind.bits .i64))))
theorem shn_ok {j : Int} (h : 0 ≤ j) : shn j = some j.toNat := by
 obtain ⟨k, rfl⟩ : ∃ k : Nat, j = k := ⟨j.toNat, by omega⟩
 rfl
theorem energy_ok (F n : Nat) (t : S_api_Tile) (h : 0 ≤ t.Level) : glitch_energy F t n = some (en n t) := by
 unfold glitch_energy
 rw [shn_ok h, bnd_eq]
 rfl
theorem half_eq (m : Nat) (h : m ≤ 1000000) : w64 (Int.tdiv (m : Int) (2 : Int)) = ((m / 2 : Nat) : Int) := by
 have : Int.tdiv (m : Int) (2 : Int) = ((m / 2 : Nat) : Int) := rfl
 rw [this, w64_id (by omega) (by omega)]
theorem cloneI (F : Nat) (l : List Int) (h : l.length ≤ 100000) : slices_Clone F l = some l := by
 unfold slices_Clone
 rw [apd_ok (by simp; omega) (by omega), bnd_eq, List.nil_append]
theorem tr2x (F : Nat) (hd : Int → List Int → Option (List Int)) (m n : Nat) (p : List Int) (hp : p.length = 2 * m) (hm : 2 * m ≤ n) (hn : n ≤ 1024) : ∀ (k N i : Nat) (l : List Int), k = m - i → i ≤ m → k < N → l.length = n →
  ∃ l', glitch_transform_2 F hd N m m i m l p = hd ((m / 2 : Nat) : Int) l' ∧ l'.length = n
 | k, 0, i, l, _, _, h, _ => by omega
 | 0, N + 1, i, l, hk, hi, _, hl => by
  rw [glitch_transform_2, bif_neg' (by omega), half_eq m (by omega)]
  exact ⟨l, rfl, hl⟩
 | k + 1, N + 1, i, l, hk, hi, hN, hl => by
  obtain ⟨a, ha⟩ := get_lt (l := p) (i := 2 * i) (by omega)
  obtain ⟨b, hb⟩ := get_lt (l := p) (i := 2 * i + 1) (by omega)
  have e1 : w64 ((2 : Int) * i) = ((2 * i : Nat) : Int) := by rw [w64_id (by omega) (by omega)]; omega
  have e3 : w64 ((m : Int) + i) = ((m + i : Nat) : Int) := by rw [w64_id (by omega) (by omega)]; omega
  rw [glitch_transform_2, bif_pos' (by omega), e1, up (by omega), idx_nat, ha, bnd_eq, idx_nat, hb, bnd_eq, bnd_eq, bnd_eq, inn_at (by omega), bnd_eq, upd_at (by omega), bnd_eq, e3, inn_at (by rw [List.length_set]; omega), bnd_eq, upd_at (by rw [List.length_set]; omega), bnd_eq, up (by omega)]
  exact tr2x F hd m n p hp hm hn k N (i + 1) _ (by omega) (by omega) (by omega) (by rw [List.length_set, List.length_set]; exact hl)
theorem tr1x (F n : Nat) (hn : n ≤ 1024) (hF : 2000 < F) : ∀ (k N m : Nat) (l : List Int), m ≤ k → k < N → 2 * m ≤ n → l.length = n → ∃ l', glitch_transform_1 F N m l = some l' ∧ l'.length = n
 | k, 0, m, l, _, h, _, _ => by omega
 | 0, N + 1, m, l, hk, _, hm, hl => by
  rw [glitch_transform_1, bif_neg' (by omega)]
  exact ⟨l, rfl, hl⟩
 | k + 1, N + 1, m, l, hk, hN, hm, hl => by
  rw [glitch_transform_1]
  by_cases h : 0 < m
  ·have e1 : w64 ((2 : Int) * m) = ((2 * m : Nat) : Int) := by rw [w64_id (by omega) (by omega)]; omega
   have es := subP_ok (len := l.length) (a := 0) (b := 2 * m) (lo := 0) (hi := ((2 * m : Nat) : Int)) rfl rfl (by omega) (by omega)
   have hp : ((l.drop (0 + 0)).take (2 * m - 0)).length = 2 * m := by rw [List.length_take, List.length_drop]; omega
   have hpar : parL l (0 + ((0, 2 * m - 0) : Nat × Nat).1) ((0, 2 * m - 0) : Nat × Nat).2 = some ((l.drop (0 + 0)).take (2 * m - 0)) := parL_ok (by show 0 + 0 + (2 * m - 0) ≤ _; omega)
   obtain ⟨l', t1, t2⟩ := tr2x F (glitch_transform_1 F N) m n _ hp hm hn m F 0 l rfl (by omega) (by omega) hl
   obtain ⟨l2, u1, u2⟩ := tr1x F n hn hF k N (m / 2) l' (by omega) (by omega) (by omega) t2
   rw [bif_pos' (by omega), e1, es, bnd_eq, hpar, bnd_eq, cloneI F _ (by rw [hp]; omega), bnd_eq]
   exact ⟨l2, Eq.trans t1 u1, u2⟩
  ·rw [bif_neg' (by omega)]
   exact ⟨l, rfl, hl⟩
theorem transform_ex (F : Nat) (hF : 2000 < F) (x : List Int) (hx : x.length ≤ 1024) : ∃ l, glitch_transform F x = some l ∧ l.length = x.length := by
 unfold glitch_transform
 rw [cloneI F x (by omega), bnd_eq, half_eq _ (by omega)]
 exact tr1x F x.length hx hF (x.length / 2) F (x.length / 2) x (Nat.le_refl _) (by omega) (by omega) rfl
def tOk (t : S_api_Tile) : Prop := (1 ≤ t.Level ∧ t.Level ≤ 10) ∧ 0 ≤ t.At ∧ t.At ≤ 1024
def lvT (c : List Int) (lv m : Nat) : Nat → Nat → List S_api_Tile
 | 0, _ => []
 | k + 1, i => ⟨((lv + 1 : Nat) : Int), (i : Int), c.getD (m + i) 0⟩ :: lvT c lv m k (i + 1)
def allT (c : List Int) : Nat → Nat → Nat → List S_api_Tile
 | 0, _, _ => []
 | f + 1, lv, m => if m = 0 then [] else lvT c lv m m 0 ++ allT c f (lv + 1) (m / 2)
theorem lvT_ok (c : List Int) (lv m : Nat) (h : lv < 10) : ∀ k i, i + k ≤ 1024 → (∀ t ∈ lvT c lv m k i, tOk t) ∧ (lvT c lv m k i).length = k
 | 0, i, _ => ⟨fun t ht => (nomatch ht), rfl⟩
 | k + 1, i, hi => by
  obtain ⟨h1, h2⟩ := lvT_ok c lv m h k (i + 1) (by omega)
  refine ⟨fun t ht => ?_, by rw [lvT, List.length_cons, h2]⟩
  rcases List.mem_cons.1 ht with rfl | ht
  ·exact ⟨⟨by show (1 : Int) ≤ ((lv + 1 : Nat) : Int); omega, by show ((lv + 1 : Nat) : Int) ≤ 10; omega⟩, by show (0 : Int) ≤ (i : Int); omega, by show (i : Int) ≤ 1024; omega⟩
  ·exact h1 t ht
theorem allT_ok (c : List Int) : ∀ f lv m, m < 2 ^ (10 - lv) → m ≤ 1024 → (∀ t ∈ allT c f lv m, tOk t) ∧ (allT c f lv m).length ≤ 2 * m
 | 0, lv, m, _, _ => ⟨fun t ht => (nomatch ht), Nat.zero_le _⟩
 | f + 1, lv, m, h, hm => by
  rw [allT]
  by_cases h0 : m = 0
  ·rw [if_pos h0]
   exact ⟨fun t ht => (nomatch ht), Nat.zero_le _⟩
  ·rw [if_neg h0]
   have hlv : lv < 10 := by
    rcases Nat.lt_or_ge lv 10 with g | g
    ·exact g
    ·rw [show 10 - lv = 0 by omega] at h
     simp at h
     omega
   obtain ⟨h1, h2⟩ := lvT_ok c lv m hlv m 0 (by omega)
   have hh : m / 2 < 2 ^ (10 - (lv + 1)) := by
    have e : 10 - lv = (10 - (lv + 1)) + 1 := by omega
    rw [e, Nat.pow_succ] at h
    generalize 2 ^ (10 - (lv + 1)) = q at *
    omega
   obtain ⟨g1, g2⟩ := allT_ok c f (lv + 1) (m / 2) hh (by omega)
   refine ⟨fun t ht => ?_, by rw [List.length_append, h2]; omega⟩
   rcases List.mem_append.1 ht with ht | ht
   ·exact h1 t ht
   ·exact g1 t ht
section
variable (F : Nat) (x : List Int) (hx : x.length ≤ 1024) (thr c3 : Int) (y : List Int) (c : List Int)
include hx
omit hx in
theorem ld2 (hd : Int → Int → List Int → Int → List Int → List S_api_Tile → List Int → Option (List S_api_Tile)) (lv m : Nat) (hlv : lv < 10) (hm : 2 * m ≤ c.length) (hc : c.length ≤ 1024) : ∀ (k N i : Nat) (acc : List S_api_Tile), k = m - i → i ≤ m → k < N → acc.length + k ≤ 5000 →
  glitch_loud_2 F hd N ((lv + 1 : Nat) : Int) m m m m i x thr y acc c = hd ((lv + 1 : Nat) : Int) ((m / 2 : Nat) : Int) x thr y (acc ++ (lvT c lv m k i).filter fun t => decide (thr ≤ en x.length t)) c
 | k, 0, i, acc, _, _, h, _ => by omega
 | 0, N + 1, i, acc, hk, hi, _, _ => by
  rw [glitch_loud_2, bif_neg' (by omega), half_eq m (by omega), lvT, List.filter_nil, List.append_nil]
 | k + 1, N + 1, i, acc, hk, hi, hN, ha => by
  obtain ⟨z, hz⟩ := get_lt (l := c) (i := m + i) (by omega)
  have hz' : c.getD (m + i) 0 = z := by rw [List.getD_eq_getElem?_getD, hz]; rfl
  have he := energy_ok F x.length ⟨((lv + 1 : Nat) : Int), (i : Int), z⟩ (by show (0 : Int) ≤ ((lv + 1 : Nat) : Int); omega)
  rw [glitch_loud_2, bif_pos' (by omega), inP_ok (i := i) rfl (by omega) (by omega), bnd_eq, hz, bnd_eq, he, bnd_eq, lvT, hz', List.filter_cons, up (by omega)]
  by_cases g : thr ≤ en x.length ⟨((lv + 1 : Nat) : Int), (i : Int), z⟩
  ·rw [bif_pos' g, if_pos (decide_eq_true g), apd_ok (by simp; omega) (by omega), bnd_eq, ld2 hd lv m hlv hm hc k N (i + 1) _ (by omega) (by omega) (by omega) (by simp; omega), List.append_assoc]
   rfl
  ·rw [bif_neg' g, if_neg (by simpa using g), ld2 hd lv m hlv hm hc k N (i + 1) _ (by omega) (by omega) (by omega) (by omega)]
omit hx in
theorem ld1 (hF : 2000 < F) (hc : c.length ≤ 1024) : ∀ (N lv m : Nat) (acc : List S_api_Tile), m < N → 2 * m ≤ c.length → m < 2 ^ (10 - lv) → acc.length + 2 * m ≤ 3000 →
  glitch_loud_1 F N lv m x thr y acc c = some (acc ++ (allT c N lv m).filter fun t => decide (thr ≤ en x.length t))
 | 0, lv, m, acc, h, _, _, _ => by omega
 | N + 1, lv, m, acc, hN, hm, h, ha => by
  rw [glitch_loud_1, allT]
  by_cases h0 : m = 0
  ·rw [bif_neg' (by omega), if_pos h0, List.filter_nil, List.append_nil]
  ·have hlv : lv < 10 := by
    rcases Nat.lt_or_ge lv 10 with g | g
    ·exact g
    ·rw [show 10 - lv = 0 by omega] at h
     simp at h
     omega
   have hh : m / 2 < 2 ^ (10 - (lv + 1)) := by
    have e : 10 - lv = (10 - (lv + 1)) + 1 := by omega
    rw [e, Nat.pow_succ] at h
    generalize 2 ^ (10 - (lv + 1)) = q at *
    omega
   have e1 : w64 ((2 : Int) * m) = ((2 * m : Nat) : Int) := by rw [w64_id (by omega) (by omega)]; omega
   have es := subP_ok (len := c.length) (a := m) (b := 2 * m) (lo := (m : Int)) (hi := ((2 * m : Nat) : Int)) rfl rfl (by omega) (by omega)
   have hfl := List.length_filter_le (fun t => decide (thr ≤ en x.length t)) (lvT c lv m m 0)
   have hll := (lvT_ok c lv m hlv m 0 (by omega)).2
   rw [bif_pos' (by omega), if_neg h0, e1, es, bnd_eq, up (by omega)]
   have h2 := ld2 F x thr y c (glitch_loud_1 F N) lv m hlv hm hc m F 0 acc rfl (by omega) (by omega) (by omega)
   have e3 : (0 + ((m, 2 * m - m) : Nat × Nat).1) = m := by show 0 + m = m; omega
   have e4 : ((m, 2 * m - m) : Nat × Nat).2 = m := by show 2 * m - m = m; omega
   rw [e3, e4]
   refine Eq.trans h2 ?_
   rw [ld1 hF hc N (lv + 1) (m / 2) _ (by omega) (by omega) hh (by rw [List.length_append]; omega), List.append_assoc, List.filter_append]
end
theorem loud_ex (F : Nat) (hF : 2000 < F) (x : List Int) (h1 : 1 ≤ x.length) (hx : x.length ≤ 1024) : ∃ L : List S_api_Tile, (∀ t ∈ L, tOk t) ∧ L.length ≤ 1024 ∧ ∀ thr, glitch_loud F x thr = some (L.filter fun t => decide (thr ≤ en x.length t)) := by
 obtain ⟨c, hc, hcl⟩ := transform_ex F hF x hx
 have hp : c.length / 2 < 2 ^ (10 - 0) := by omega
 obtain ⟨k1, k2⟩ := allT_ok c F 0 (c.length / 2) hp (by omega)
 refine ⟨allT c F 0 (c.length / 2), k1, by omega, fun thr => ?_⟩
 unfold glitch_loud
 rw [hc, bnd_eq, half_eq _ (by omega)]
 have := ld1 F x thr x c hF (by omega) F 0 (c.length / 2) [] (by omega) (by omega) hp (by simp; omega)
 rw [List.nil_append] at this
 exact this
end Go.Ev.GlitchCounts
namespace Go.Ev.GlitchCounts
open Go Go.Ev Go.Proofs
set_option linter.unusedVariables false
def Gi (n : Nat) (g : List Int) : Prop := g.length = n ∧ ∀ (i : Nat) (a : Int), g[i]? = some a → 0 ≤ a ∧ a ≤ i
theorem Gi.get {n : Nat} {g : List Int} (h : Gi n g) {i : Nat} (hi : i < n) : ∃ a : Nat, g[i]? = some (a : Int) ∧ a ≤ i := by
 obtain ⟨a, ha⟩ := get_lt (l := g) (i := i) (by rw [h.1]; exact hi)
 have := h.2 i a ha
 exact ⟨a.toNat, by rw [ha]; congr 1; omega, by omega⟩
theorem Gi.put {n : Nat} {g : List Int} (h : Gi n g) {i b : Nat} (hi : i < n) (hb : b ≤ i) : Gi n (g.set i (b : Int)) := by
 refine ⟨by rw [List.length_set]; exact h.1, fun j a hj => ?_⟩
 rw [List.getElem?_set] at hj
 by_cases e : i = j
 ·rw [if_pos e, if_pos (by rw [h.1]; exact hi)] at hj
  cases hj
  omega
 ·rw [if_neg e] at hj
  exact h.2 j a hj
theorem apart1 (F n : Nat) (hn : n ≤ 2000) : ∀ (k N i : Nat) (l : List Int), k = n - i → i ≤ n → k < N → l.length = n → (∀ (j : Nat) a, l[j]? = some a → 0 ≤ a ∧ a ≤ j) → ∃ g, glitch_apart_1 F N n i l = some g ∧ Gi n g
 | k, 0, i, l, _, _, h, _, _ => by omega
 | 0, N + 1, i, l, hk, hi, _, hl, hg => by
  rw [glitch_apart_1, bif_neg' (by omega)]
  exact ⟨l, rfl, hl, hg⟩
 | k + 1, N + 1, i, l, hk, hi, hN, hl, hg => by
  rw [glitch_apart_1, bif_pos' (by omega), inn_at (by omega), bnd_eq, upd_at (by omega), bnd_eq, up (by omega)]
  have hp := Gi.put (n := n) (g := l) ⟨hl, hg⟩ (i := i) (b := i) (by omega) (Nat.le_refl _)
  exact apart1 F n hn k N (i + 1) _ (by omega) (by omega) (by omega) hp.1 hp.2
theorem apart_ex (F n : Nat) (hn : n ≤ 2000) (hF : 3000 < F) : ∃ g, glitch_apart F (n : Int) = some g ∧ Gi n g := by
 unfold glitch_apart
 rw [mk_ok (by omega) (by omega), bnd_eq]
 have hl : (List.replicate n (0 : Int)).length = n := List.length_replicate
 obtain ⟨g, hg, hg2⟩ := apart1 F n hn n F 0 (List.replicate n 0) rfl (Nat.zero_le _) (by omega) hl (fun j a hj => by
  have := List.eq_of_mem_replicate (List.mem_of_getElem? hj)
  omega)
 refine ⟨g, ?_, hg2⟩
 rw [hl]
 exact hg
theorem mget_in {K : Type} (eq : K → K → Bool) (n : Nat) (hn : 0 < n) (l : List (K × Int)) (hl : ∀ e ∈ l, ∃ k : Nat, e.2 = k ∧ k < n) (x : K) : ∃ k : Nat, mget eq (0 : Int) l x = k ∧ k < n := by
 rw [mget_lk]
 have key : ∀ m : List (K × Int), (∀ e ∈ m, ∃ k : Nat, e.2 = k ∧ k < n) → ∃ k : Nat, (lkM eq x m).getD 0 = (k : Int) ∧ k < n := fun m => by
  induction m with
  | nil => exact fun _ => ⟨0, rfl, hn⟩
  | cons y m ih =>
   intro h
   unfold lkM
   cases eq x y.1 with
   | true => exact h y List.mem_cons_self
   | false => exact ih fun e he => h e (List.mem_cons_of_mem _ he)
 exact key l hl
theorem mput_in {K : Type} (eq : K → K → Bool) (n v : Nat) (hv : v < n) (l : List (K × Int)) (hl : ∀ e ∈ l, ∃ k : Nat, e.2 = k ∧ k < n) (x : K) : ∀ e ∈ mput eq l x (v : Int), ∃ k : Nat, e.2 = k ∧ k < n := by
 rw [mput_eq]
 have key : ∀ m : List (K × Int), (∀ e ∈ m, ∃ k : Nat, e.2 = k ∧ k < n) → ∀ e ∈ ptM eq x (v : Int) m, ∃ k : Nat, e.2 = k ∧ k < n := fun m => by
  induction m with
  | nil =>
   intro _ e he
   rw [List.mem_singleton.1 he]
   exact ⟨v, rfl, hv⟩
  | cons y m ih =>
   intro h e he
   unfold ptM at he
   cases hq : eq x y.1 with
   | true =>
    rw [hq, cond_true] at he
    rcases List.mem_cons.1 he with rfl | he
    ·exact ⟨v, rfl, hv⟩
    ·exact h e (List.mem_cons_of_mem _ he)
   | false =>
    rw [hq, cond_false] at he
    rcases List.mem_cons.1 he with rfl | he
    ·exact h _ List.mem_cons_self
    ·exact ih (fun e he => h e (List.mem_cons_of_mem _ he)) e he
 exact key l hl
section
variable (F : Nat) (hF : 3000 < F) (n : Nat) (hn : n ≤ 2000) (hd2 : Int → (List S_api_Tile) → Int → Int → Int → Int → (List S_api_Tile) → Int → S_api_Tile → (List Int) → (List (S_glitch_place × Int)) → (List S_glitch_place) → Option ((List S_api_Glitch))) (u5 : Int) (w12 : List S_api_Tile) (u13 u14 u21 u22 : Int) (w0 : List S_api_Tile) (u1 : Int) (c33 : S_api_Tile) (l27 : List (S_glitch_place × Int)) (l39 : List S_glitch_place)
include hF hn
omit hF hn in
theorem find4 (a : Nat) (ha : a < n) : ∀ (k N v : Nat) (g : List Int), v ≤ k → k < N → v < n → Gi n g → ∃ g', Gi n g' ∧ glitch_glitches_4 F hd2 N v a u5 w12 u13 u14 u21 u22 w0 u1 c33 g l27 l39 = hd2 u5 w12 u13 u14 u21 (w64 (u22 + (1 : Int))) w0 u1 c33 g' l27 l39 := by
 intro k
 induction k with
 | zero =>
  intro N v g hv hN hvn hg
  match N, hN with
  | N + 1, hN =>
   obtain ⟨x, hx, hx2⟩ := hg.get hvn
   have hxv : x = v := by omega
   subst hxv
   have e1 : max (a : Int) (x : Int) = ((max a x : Nat) : Int) := by omega
   have e2 : min (a : Int) (x : Int) = ((min a x : Nat) : Int) := by omega
   rw [glitch_glitches_4, idx_nat, hx, bnd_eq, show (!((x : Int) == (x : Int))) = false by simp, cond_false, e1, e2, inn_at (by rw [hg.1]; omega), bnd_eq, upd_at (by rw [hg.1]; omega), bnd_eq]
   exact ⟨_, hg.put (by omega) (by omega), rfl⟩
 | succ k ih =>
  intro N v g hv hN hvn hg
  match N, hN with
  | N + 1, hN =>
   obtain ⟨x, hx, hx2⟩ := hg.get hvn
   rw [glitch_glitches_4, idx_nat, hx, bnd_eq]
   by_cases hxv : x = v
   ·subst hxv
    have e1 : max (a : Int) (x : Int) = ((max a x : Nat) : Int) := by omega
    have e2 : min (a : Int) (x : Int) = ((min a x : Nat) : Int) := by omega
    rw [show (!((x : Int) == (x : Int))) = false by simp, cond_false, e1, e2, inn_at (by rw [hg.1]; omega), bnd_eq, upd_at (by rw [hg.1]; omega), bnd_eq]
    exact ⟨_, hg.put (by omega) (by omega), rfl⟩
   ·obtain ⟨y, hy, hy2⟩ := hg.get (show x < n by omega)
    have hg' := hg.put (i := v) (b := y) hvn (by omega)
    have hz : (g.set v (y : Int))[v]? = some (y : Int) := by rw [List.getElem?_set_self (by rw [hg.1]; exact hvn)]
    rw [show (!((x : Int) == (v : Int))) = true by simp; omega, cond_true, bnd_eq, idx_nat, hy, bnd_eq, inn_at (by rw [hg.1]; omega), bnd_eq, upd_at (by rw [hg.1]; omega), bnd_eq, idx_nat, hz, bnd_eq]
    exact ih N y _ (by omega) (by omega) (by omega) hg'
theorem find3 (b : Nat) (hb : b < n) : ∀ (k N v : Nat) (g : List Int), v ≤ k → k < N → v < n → Gi n g → ∃ g', Gi n g' ∧ glitch_glitches_3 F hd2 N v b u5 w12 u13 u14 u21 u22 w0 u1 c33 g l27 l39 = hd2 u5 w12 u13 u14 u21 (w64 (u22 + (1 : Int))) w0 u1 c33 g' l27 l39 := by
 intro k
 induction k with
 | zero =>
  intro N v g hv hN hvn hg
  match N, hN with
  | N + 1, hN =>
   obtain ⟨x, hx, hx2⟩ := hg.get hvn
   have hxv : x = v := by omega
   subst hxv
   rw [glitch_glitches_3, idx_nat, hx, bnd_eq, show (!((x : Int) == (x : Int))) = false by simp, cond_false]
   exact find4 F n hd2 u5 w12 u13 u14 u21 u22 w0 u1 c33 l27 l39 x hvn b F b g (Nat.le_refl _) (by omega) hb hg
 | succ k ih =>
  intro N v g hv hN hvn hg
  match N, hN with
  | N + 1, hN =>
   obtain ⟨x, hx, hx2⟩ := hg.get hvn
   rw [glitch_glitches_3, idx_nat, hx, bnd_eq]
   by_cases hxv : x = v
   ·subst hxv
    rw [show (!((x : Int) == (x : Int))) = false by simp, cond_false]
    exact find4 F n hd2 u5 w12 u13 u14 u21 u22 w0 u1 c33 l27 l39 x hvn b F b g (Nat.le_refl _) (by omega) hb hg
   ·obtain ⟨y, hy, hy2⟩ := hg.get (show x < n by omega)
    have hg' := hg.put (i := v) (b := y) hvn (by omega)
    have hz : (g.set v (y : Int))[v]? = some (y : Int) := by rw [List.getElem?_set_self (by rw [hg.1]; exact hvn)]
    rw [show (!((x : Int) == (v : Int))) = true by simp; omega, cond_true, bnd_eq, idx_nat, hy, bnd_eq, inn_at (by rw [hg.1]; omega), bnd_eq, upd_at (by rw [hg.1]; omega), bnd_eq, idx_nat, hz, bnd_eq]
    exact ih N y _ (by omega) (by omega) (by omega) hg'
end
theorem places1 (F : Nat) (t : S_api_Tile) (ht : tOk t) : ∀ (k N : Nat) (v : Int) (l : List S_glitch_place), (k : Int) = 2 * t.At + 3 - v → -5 ≤ v → k < N → l.length + k ≤ 100 → ∃ r, glitch_placesBefore_1 F N v t l = some r ∧ r.length ≤ 100
 | k, 0, v, l, _, _, h, _ => by omega
 | 0, N + 1, v, l, hk, h5, _, hl => by
  have := ht.2
  have e : w64 (w64 ((2 : Int) * t.At) + 2) = 2 * t.At + 2 := by rw [w64_id (n := (2 : Int) * t.At) (by omega) (by omega), w64_id (by omega) (by omega)]
  rw [glitch_placesBefore_1, e, bif_neg' (by omega)]
  exact ⟨l, rfl, by omega⟩
 | k + 1, N + 1, v, l, hk, h5, hN, hl => by
  have := ht.2
  have e : w64 (w64 ((2 : Int) * t.At) + 2) = 2 * t.At + 2 := by rw [w64_id (n := (2 : Int) * t.At) (by omega) (by omega), w64_id (by omega) (by omega)]
  rw [glitch_placesBefore_1, e, bif_pos' (by omega), apd_ok (by simp; omega) (by omega), bnd_eq, w64_id (n := v + 1) (by omega) (by omega)]
  exact places1 F t ht k N (v + 1) _ (by omega) (by omega) (by omega) (by simp; omega)
theorem places_ex (F : Nat) (hF : 3000 < F) (t : S_api_Tile) (ht : tOk t) : ∃ r, glitch_placesBefore F t = some r ∧ r.length ≤ 100 := by
 have := ht.2
 unfold glitch_placesBefore
 rw [w64_id (n := (2 : Int) * t.At) (by omega) (by omega), w64_id (n := (2 : Int) * t.At - 1) (by omega) (by omega)]
 exact places1 F t ht 4 F _ _ (by omega) (by omega) (by omega) (by simp)
section
variable (F : Nat) (hF : 3000 < F) (n : Nat) (hn : n ≤ 2000)
include hF hn
theorem gl2 (hd1 : (List S_api_Tile) → Int → Int → (List S_api_Tile) → Int → (List Int) → (List (S_glitch_place × Int)) → Option ((List S_api_Glitch))) (t : Nat) (ht : t < n) (w12 : List S_api_Tile) (u13 u14 : Int) (w0 : List S_api_Tile) (u1 : Int) (c33 : S_api_Tile) (l27 : List (S_glitch_place × Int)) (hM : ∀ e ∈ l27, ∃ k : Nat, e.2 = k ∧ k < n) (l39 : List S_glitch_place) (h39 : l39.length ≤ 100) : ∀ (k N i : Nat) (g : List Int), k = l39.length - i → i ≤ l39.length → k < N → Gi n g →
  ∃ g', Gi n g' ∧ glitch_glitches_2 F hd1 N t w12 u13 u14 l39.length i w0 u1 c33 g l27 l39 = hd1 w12 u13 (w64 (u14 + (1 : Int))) w0 u1 g' (mput keq160 l27 (S_glitch_place.mk c33.Level c33.At) t)
 | k, 0, i, g, _, _, h, _ => by omega
 | 0, N + 1, i, g, hk, hi, _, hg => by
  rw [glitch_glitches_2, bif_neg' (by omega)]
  exact ⟨g, hg, rfl⟩
 | k + 1, N + 1, i, g, hk, hi, hN, hg => by
  obtain ⟨p, hp⟩ := get_lt (l := l39) (i := i) (by omega)
  have ih := fun g' hg' => gl2 hd1 t ht w12 u13 u14 w0 u1 c33 l27 hM l39 h39 k N (i + 1) g' (by omega) (by omega) (by omega) hg'
  rw [glitch_glitches_2, bif_pos' (by omega), idx_nat, hp, bnd_eq]
  cases mhas keq160 l27 p with
  | true =>
   obtain ⟨b, hb, hb2⟩ := mget_in keq160 n (by omega) l27 hM p
   obtain ⟨g1, h1, h2⟩ := find3 F hF n hn (glitch_glitches_2 F hd1 N) t w12 u13 u14 l39.length i w0 u1 c33 l27 l39 t ht b F b g (Nat.le_refl _) (by omega) hb2 hg
   obtain ⟨g2, h3, h4⟩ := ih g1 h1
   refine ⟨g2, h3, ?_⟩
   rw [cond_true, hb]
   refine Eq.trans h2 ?_
   rw [up (by omega)]
   exact h4
  | false =>
   obtain ⟨g2, h3, h4⟩ := ih g hg
   refine ⟨g2, h3, ?_⟩
   rw [cond_false]
   unfold glitch_glitches_5
   rw [up (by omega)]
   exact h4
theorem gl1 (T : List S_api_Tile) (hT : ∀ t ∈ T, tOk t) (hTn : T.length = n) (u1 : Int) : ∀ (k N i : Nat) (g : List Int) (l27 : List (S_glitch_place × Int)), k = n - i → i ≤ n → k < N → Gi n g → (∀ e ∈ l27, ∃ k : Nat, e.2 = k ∧ k < n) →
  ∃ g', Gi n g' ∧ glitch_glitches_1 F N T n i T u1 g l27 = glitch_glitches_6 F F T u1 T n (0 : Int) g' [] []
 | k, 0, i, g, l27, _, _, h, _, _ => by omega
 | 0, N + 1, i, g, l27, hk, hi, _, hg, hM => by
  rw [glitch_glitches_1, bif_neg' (by omega), hTn]
  exact ⟨g, hg, rfl⟩
 | k + 1, N + 1, i, g, l27, hk, hi, hN, hg, hM => by
  obtain ⟨t, ht⟩ := get_lt (l := T) (i := i) (by omega)
  obtain ⟨r, hr, hr2⟩ := places_ex F hF t (hT t (List.mem_of_getElem? ht))
  obtain ⟨g1, h1, h2⟩ := gl2 F hF n hn (glitch_glitches_1 F N) i (by omega) T n i T u1 t l27 hM r hr2 r.length F 0 g rfl (Nat.zero_le _) (by omega) hg
  obtain ⟨g2, h3, h4⟩ := gl1 T hT hTn u1 k N (i + 1) g1 (mput keq160 l27 (S_glitch_place.mk t.Level t.At) i) (by omega) (by omega) (by omega) h1 (mput_in keq160 n i (by omega) l27 hM _)
  refine ⟨g2, h3, ?_⟩
  rw [glitch_glitches_1, bif_pos' (by omega), idx_nat, ht, bnd_eq, hr, bnd_eq]
  refine Eq.trans h2 ?_
  rw [up (by omega)]
  exact h4
end
end Go.Ev.GlitchCounts
namespace Go.Ev.GlitchCounts
open Go Go.Ev Go.Proofs
set_option linter.unusedVariables false
theorem covered_ex (F : Nat) (t : S_api_Tile) (ht : tOk t) : ∃ a b, glitch_covered F t = some (a, b) ∧ a < b := by
 obtain ⟨⟨h1, h2⟩, h3, h4⟩ := ht
 have hs := shn_ok (show 0 ≤ t.Level by omega)
 obtain ⟨L, hL⟩ : ∃ L : Nat, t.Level.toNat = L := ⟨_, rfl⟩
 have hL2 : L ≤ 10 := by omega
 have hm : min L (IntKind.bits .i64) = L := by show min L 64 = L; omega
 have hq : (1 : Int) ≤ 2 ^ L ∧ (2 : Int) ^ L ≤ 1024 := by
  have : ∀ k : Fin 11, (1 : Int) ≤ 2 ^ k.val ∧ (2 : Int) ^ k.val ≤ 1024 := by decide
  exact this ⟨L, by omega⟩
 unfold glitch_covered
 rw [hs, bnd_eq, bnd_eq, hL, hm]
 refine ⟨_, _, rfl, ?_⟩
 generalize (2 : Int) ^ L = q at *
 have m1 : 0 ≤ t.At * q := Int.mul_nonneg h3 (by omega)
 have m2 : t.At * q ≤ 1024 * 1024 := Int.mul_le_mul h4 hq.2 (by omega) (by omega)
 have m3 : (t.At + 1) * q = t.At * q + q := by rw [Int.add_mul, Int.one_mul]
 rw [w64_id (n := t.At + 1) (by omega) (by omega), m3, w64_id (n := t.At * q) (by omega) (by omega), w64_id (n := t.At * q + q) (by omega) (by omega)]
 omega
def sumG (f : S_api_Glitch → Int) : List S_api_Glitch → Int
 | [] => 0
 | x :: l => f x + sumG f l
theorem sumG_app (f : S_api_Glitch → Int) : ∀ a b, sumG f (a ++ b) = sumG f a + sumG f b
 | [], b => by simp [sumG]
 | x :: a, b => by rw [List.cons_append, sumG, sumG, sumG_app f a b, Int.add_assoc]
theorem sumG_set (f : S_api_Glitch → Int) (y : S_api_Glitch) : ∀ (l : List S_api_Glitch) (o : Nat) (x : S_api_Glitch), l[o]? = some x → sumG f (l.set o y) = sumG f l - f x + f y
 | [], o, x, h => by simp at h
 | z :: l, 0, x, h => by
  simp at h
  subst h
  rw [List.set_cons_zero, sumG, sumG]
  omega
 | z :: l, o + 1, x, h => by
  rw [List.set_cons_succ, sumG, sumG, sumG_set f y l o x (by simpa using h)]
  omega
theorem sumG_perm (f : S_api_Glitch → Int) {a b : List S_api_Glitch} (h : a.Perm b) : sumG f a = sumG f b := by
 induction h with
 | nil => rfl
 | cons x _ ih => rw [sumG, sumG, ih]
 | swap x y l => simp only [sumG]; omega
 | trans _ _ h1 h2 => rw [h1, h2]
def sumE (n : Nat) : List S_api_Tile → Int
 | [] => 0
 | x :: l => en n x + sumE n l
theorem sumE_take (n : Nat) : ∀ (T : List S_api_Tile) (i : Nat) (t : S_api_Tile), T[i]? = some t → sumE n (T.take (i + 1)) = sumE n (T.take i) + en n t
 | [], i, t, h => by simp at h
 | z :: T, 0, t, h => by
  simp at h
  subst h
  simp [sumE]
 | z :: T, i + 1, t, h => by
  rw [List.take_succ_cons, List.take_succ_cons, sumE, sumE, sumE_take n T i t (by simpa using h)]
  omega
def gOk (n : Nat) (g : S_api_Glitch) : Prop := (0 ≤ g.Peak ∧ g.Peak < n) ∧ g.From < g.To ∧ 0 ≤ g.Many
theorem many_le : ∀ (l : List S_api_Glitch) (x : S_api_Glitch), (∀ g ∈ l, 0 ≤ g.Many) → x ∈ l → x.Many ≤ sumG (·.Many) l ∧ 0 ≤ sumG (·.Many) l
 | [], x, _, h => nomatch h
 | z :: l, x, h, hx => by
  have hz := h z List.mem_cons_self
  have hl : 0 ≤ sumG (·.Many) l := by
   have key : ∀ m : List S_api_Glitch, (∀ g ∈ m, 0 ≤ g.Many) → 0 ≤ sumG (·.Many) m := fun m => by
    induction m with
    | nil => exact fun _ => Int.le_refl _
    | cons y m ih =>
     intro h
     have := h y List.mem_cons_self
     have := ih fun g hg => h g (List.mem_cons_of_mem _ hg)
     rw [sumG]
     omega
   exact key l fun g hg => h g (List.mem_cons_of_mem _ hg)
  rw [sumG]
  rcases List.mem_cons.1 hx with rfl | hx
  ·omega
  ·have := many_le l x (fun g hg => h g (List.mem_cons_of_mem _ hg)) hx
   omega
def St (n s : Nat) (T : List S_api_Tile) (i : Nat) (l : List S_api_Glitch) : Prop := (∀ g ∈ l, gOk n g) ∧ sumG (·.Many) l = i ∧ w64 (sumG (·.Energy) l) = w64 (sumE s (T.take i)) ∧ l.length ≤ i
section
variable (F : Nat) (n s : Nat) (hn : n ≤ 1024) (T : List S_api_Tile) (hT : ∀ t ∈ T, tOk t) (hTn : T.length = n) (hd6 : (List S_api_Tile) → Int → (List S_api_Tile) → Int → Int → (List Int) → (List S_api_Glitch) → (List (Int × Int)) → Option ((List S_api_Glitch)))
include hn hT hTn
omit hn hT hTn in
theorem gl9 (v22 : List S_api_Tile) (v23 v24 : Int) (l24 : List Int) (l84 : List (Int × Int)) (t : S_api_Tile) (ht : tOk t) (l : List S_api_Glitch) (o : Nat) (x : S_api_Glitch) (hx : l[o]? = some x) (hm : 0 ≤ x.Many ∧ x.Many ≤ 2000) (hf : x.From < x.To) :
  ∃ y : S_api_Glitch, glitch_glitches_9 F hd6 T s o v22 v23 v24 t l24 l l84 = hd6 T s v22 v23 (w64 (v24 + (1 : Int))) l24 (l.set o y) l84 ∧ y.Peak = x.Peak ∧ y.Many = x.Many + 1 ∧ y.Energy = w64 (x.Energy + en s t) ∧ y.From < y.To := by
 obtain ⟨a, b, hab, hlt⟩ := covered_ex F t ht
 have ho : o < l.length := (List.getElem?_eq_some_iff.1 hx).1
 have he := energy_ok F s t (by have := ht.1; omega)
 refine ⟨⟨min x.From a, max x.To b, x.Many + 1, w64 (x.Energy + en s t), x.Peak⟩, ?_, rfl, rfl, rfl, ?_⟩
 ·unfold glitch_glitches_9
  rw [hab, bnd_eq, hx, bnd_eq, bnd_eq, bnd_eq, upd_at ho, bnd_eq]
  rw [List.getElem?_set_self ho, bnd_eq, upd_at (by rw [List.length_set]; exact ho), bnd_eq, List.set_set]
  rw [List.getElem?_set_self ho, bnd_eq, bnd_eq, upd_at (by rw [List.length_set]; exact ho), bnd_eq, List.set_set]
  rw [List.getElem?_set_self ho, bnd_eq, he, bnd_eq, bnd_eq, upd_at (by rw [List.length_set]; exact ho), bnd_eq, List.set_set, w64_id (n := x.Many + 1) (by omega) (by omega)]
 ·show min x.From a < max x.To b
  omega
theorem gl8 (v22 : List S_api_Tile) (v23 v24 : Int) (l24 : List Int) (l84 : List (Int × Int)) (i : Nat) (t : S_api_Tile) (hti : T[i]? = some t) (r : Nat) (l : List S_api_Glitch) (hl : 0 < l.length) (hli : l.length ≤ i + 1) (hok : ∀ g ∈ l, gOk n g) (hsm : sumG (·.Many) l = i) (hse : w64 (sumG (·.Energy) l) = w64 (sumE s (T.take i))) (hM : ∀ e ∈ l84, ∃ k : Nat, e.2 = k ∧ k < l.length) :
  ∃ l', glitch_glitches_8 F hd6 T s i r v22 v23 v24 t l24 l l84 = hd6 T s v22 v23 (w64 (v24 + (1 : Int))) l24 l' l84 ∧ St n s T (i + 1) l' ∧ l'.length = l.length := by
 have hi : i < n := by rw [← hTn]; exact (List.getElem?_eq_some_iff.1 hti).1
 have htk := hT t (List.mem_of_getElem? hti)
 obtain ⟨o, ho1, ho2⟩ := mget_in eqI l.length hl l84 hM (r : Int)
 obtain ⟨x, hx⟩ := get_lt (l := l) (i := o) ho2
 have hxo := hok x (List.mem_of_getElem? hx)
 obtain ⟨p, hp⟩ : ∃ p : Nat, x.Peak = p := ⟨x.Peak.toNat, by have := hxo.1; omega⟩
 have hpn : p < n := by have := hxo.1; omega
 obtain ⟨q, hq⟩ := get_lt (l := T) (i := p) (by omega)
 have e1 := energy_ok F s t (by have := htk.1; omega)
 have e2 := energy_ok F s q (by have := (hT q (List.mem_of_getElem? hq)).1; omega)
 have hmx := many_le l x (fun g hg => (hok g hg).2.2) (List.mem_of_getElem? hx)
 have fin : ∀ (l1 : List S_api_Glitch) (x1 : S_api_Glitch), l1 = l.set o x1 → x1.Many = x.Many → x1.Energy = x.Energy → x1.From = x.From → x1.To = x.To → 0 ≤ x1.Peak ∧ x1.Peak < n →
   ∃ l', glitch_glitches_9 F hd6 T s o v22 v23 v24 t l24 l1 l84 = hd6 T s v22 v23 (w64 (v24 + (1 : Int))) l24 l' l84 ∧ St n s T (i + 1) l' ∧ l'.length = l.length := fun l1 x1 h1 h2 h3 h4 h5 h6 => by
  have hx1 : l1[o]? = some x1 := by rw [h1, List.getElem?_set_self ho2]
  obtain ⟨y, y1, y2, y3, y4, y5⟩ := gl9 F s T hd6 v22 v23 v24 l24 l84 t htk l1 o x1 hx1 (by rw [h2]; have := hxo.2.2; omega) (by rw [h4, h5]; exact hxo.2.1)
  have hs : l1.set o y = l.set o y := by rw [h1, List.set_set]
  rw [hs] at y1
  refine ⟨_, y1, ⟨fun g hg => ?_, ?_, ?_, by rw [List.length_set]; exact hli⟩, by rw [List.length_set]⟩
  ·rcases List.mem_or_eq_of_mem_set hg with hg | rfl
   ·exact hok g hg
   ·refine ⟨by rw [y2]; exact h6, y5, ?_⟩
    have := hxo.2.2
    omega
  ·rw [sumG_set _ y l o x hx, y3, hsm, h2]
   omega
  ·rw [sumG_set _ y l o x hx, y4, h3, sumE_take s T i t hti, w64_addR]
   have : sumG (fun g => g.Energy) l - x.Energy + (x.Energy + en s t) = sumG (fun g => g.Energy) l + en s t := by omega
   rw [this, ← w64_addL, hse, w64_addL]
 unfold glitch_glitches_8
 rw [ho1, inn_at ho2, bnd_eq, hx, bnd_eq, hp, idx_nat, hq, bnd_eq, e1, bnd_eq, e2, bnd_eq]
 by_cases c : en s q < en s t
 ·rw [bif_pos' c, bnd_eq, upd_at ho2, bnd_eq]
  exact fin _ ⟨x.From, x.To, x.Many, x.Energy, (i : Int)⟩ rfl rfl rfl rfl rfl ⟨by show (0 : Int) ≤ (i : Int); omega, by show (i : Int) < n; omega⟩
 ·rw [bif_neg' c]
  refine fin _ x ?_ rfl rfl rfl rfl hxo.1
  obtain ⟨hlt, rfl⟩ := List.getElem?_eq_some_iff.1 hx
  rw [List.set_getElem_self]
theorem gl7 (v22 : List S_api_Tile) (v23 v24 : Int) (l84 : List (Int × Int)) (i : Nat) (t : S_api_Tile) (hti : T[i]? = some t) (l : List S_api_Glitch) (hst : St n s T i l) (h0 : 0 < i → 0 < l.length) (hM : ∀ e ∈ l84, ∃ k : Nat, e.2 = k ∧ k < l.length) : ∀ (k N v : Nat) (g : List Int), v ≤ k → k < N → v ≤ i → Gi n g →
  ∃ g' l' m', Gi n g' ∧ glitch_glitches_7 F hd6 N v T s i v22 v23 v24 t g l l84 = hd6 T s v22 v23 (w64 (v24 + (1 : Int))) g' l' m' ∧ St n s T (i + 1) l' ∧ 0 < l'.length ∧ ∀ e ∈ m', ∃ k : Nat, e.2 = k ∧ k < l'.length := by
 have hi : i < n := by rw [← hTn]; exact (List.getElem?_eq_some_iff.1 hti).1
 have htk := hT t (List.mem_of_getElem? hti)
 obtain ⟨st1, st2, st3, st4⟩ := hst
 have stop : ∀ (N v : Nat) (g : List Int), v ≤ i → Gi n g → g[v]? = some (v : Int) → ∃ g' l' m', Gi n g' ∧ glitch_glitches_7 F hd6 (N + 1) v T s i v22 v23 v24 t g l l84 = hd6 T s v22 v23 (w64 (v24 + (1 : Int))) g' l' m' ∧ St n s T (i + 1) l' ∧ 0 < l'.length ∧ ∀ e ∈ m', ∃ k : Nat, e.2 = k ∧ k < l'.length := fun N v g hv hg hgv => by
  rw [glitch_glitches_7, idx_nat, hgv, bnd_eq, show (!((v : Int) == (v : Int))) = false by simp, cond_false]
  by_cases c : v = i
  ·subst c
   obtain ⟨a, b, hab, hlt⟩ := covered_ex F t htk
   have hlen : (l ++ [(⟨a, b, 0, 0, (v : Int)⟩ : S_api_Glitch)]).length = l.length + 1 := by simp
   obtain ⟨l', k1, k2, k3⟩ := gl8 F n s hn T hT hTn hd6 v22 v23 v24 g (mput eqI l84 (v : Int) (l.length : Int)) v t hti v (l ++ [⟨a, b, 0, 0, (v : Int)⟩]) (by omega) (by omega) (fun x hx => by
    rcases List.mem_append.1 hx with hx | hx
    ·exact st1 x hx
    ·rw [List.mem_singleton.1 hx]
     exact ⟨⟨by show (0 : Int) ≤ (v : Int); omega, by show (v : Int) < n; omega⟩, hlt, Int.le_refl _⟩) (by rw [sumG_app, st2]; simp [sumG]) (by
     rw [sumG_app]
     have : sumG (fun g => g.Energy) [(⟨a, b, 0, 0, (v : Int)⟩ : S_api_Glitch)] = 0 := rfl
     rw [this, Int.add_zero]
     exact st3) (by
     rw [hlen]
     exact mput_in eqI (l.length + 1) l.length (by omega) l84 (fun e he => by
      obtain ⟨k, h1, h2⟩ := hM e he
      exact ⟨k, h1, by omega⟩) _)
   refine ⟨g, l', mput eqI l84 (v : Int) (l.length : Int), hg, ?_, k2, by omega, fun e he => ?_⟩
   ·rw [show ((v : Int) == (v : Int)) = true by simp, cond_true, hab, bnd_eq, apd_ok (by simp; omega) (by omega), bnd_eq]
    exact k1
   ·obtain ⟨k, h1, h2⟩ := mput_in eqI (l.length + 1) l.length (by omega) l84 (fun e he => by
      obtain ⟨k, h1, h2⟩ := hM e he
      exact ⟨k, h1, by omega⟩) _ e he
    exact ⟨k, h1, by omega⟩
  ·have hl0 := h0 (by omega)
   obtain ⟨l', k1, k2, k3⟩ := gl8 F n s hn T hT hTn hd6 v22 v23 v24 g l84 i t hti v l hl0 (by omega) st1 st2 st3 hM
   refine ⟨g, l', l84, hg, ?_, k2, by omega, fun e he => ?_⟩
   ·rw [show ((v : Int) == (i : Int)) = false by simp; omega, cond_false]
    exact k1
   ·obtain ⟨k, h1, h2⟩ := hM e he
    exact ⟨k, h1, by omega⟩
 intro k
 induction k with
 | zero =>
  intro N v g hv hN hvi hg
  match N, hN with
  | N + 1, hN =>
   obtain ⟨x, hx, hx2⟩ := hg.get (show v < n by omega)
   have hxv : x = v := by omega
   subst hxv
   exact stop N x g hvi hg hx
 | succ k ih =>
  intro N v g hv hN hvi hg
  match N, hN with
  | N + 1, hN =>
   obtain ⟨x, hx, hx2⟩ := hg.get (show v < n by omega)
   by_cases hxv : x = v
   ·subst hxv
    exact stop N x g hvi hg hx
   ·obtain ⟨y, hy, hy2⟩ := hg.get (show x < n by omega)
    have hg' := hg.put (i := v) (b := y) (by omega) (by omega)
    have hz : (g.set v (y : Int))[v]? = some (y : Int) := by rw [List.getElem?_set_self (by rw [hg.1]; omega)]
    rw [glitch_glitches_7, idx_nat, hx, bnd_eq, show (!((x : Int) == (v : Int))) = true by simp; omega, cond_true, bnd_eq, idx_nat, hy, bnd_eq, inn_at (by rw [hg.1]; omega), bnd_eq, upd_at (by rw [hg.1]; omega), bnd_eq, idx_nat, hz, bnd_eq]
    exact ih N y _ (by omega) (by omega) (by omega) hg'
end
section
variable (F : Nat) (hF : 13000 < F) (n s : Nat) (hn : n ≤ 1024) (T : List S_api_Tile) (hT : ∀ t ∈ T, tOk t) (hTn : T.length = n)
include hF hn hT hTn
theorem gl6 : ∀ (k N i : Nat) (g : List Int) (l : List S_api_Glitch) (m : List (Int × Int)), k = n - i → i ≤ n → k < N → Gi n g → St n s T i l → (0 < i → 0 < l.length) → (∀ e ∈ m, ∃ k : Nat, e.2 = k ∧ k < l.length) →
  ∃ G, glitch_glitches_6 F N T s T n i g l m = some G ∧ St n s T n G ∧ Srt G
 | k, 0, i, g, l, m, _, _, h, _, _, _, _ => by omega
 | 0, N + 1, i, g, l, m, hk, hi, _, hg, hst, h0, hM => by
  obtain rfl : i = n := by omega
  obtain ⟨st1, st2, st3, st4⟩ := hst
  obtain ⟨G, h1, h2, h3⟩ := stable_ok F hF l (by omega)
  rw [glitch_glitches_6, bif_neg' (by omega)]
  exact ⟨G, h1, ⟨fun x hx => st1 x (h2.mem_iff.1 hx), by rw [sumG_perm _ h2]; exact st2, by rw [sumG_perm _ h2]; exact st3, by rw [h2.length_eq]; exact st4⟩, h3⟩
 | k + 1, N + 1, i, g, l, m, hk, hi, hN, hg, hst, h0, hM => by
  obtain ⟨t, ht⟩ := get_lt (l := T) (i := i) (by omega)
  obtain ⟨g', l', m', k1, k2, k3, k4, k5⟩ := gl7 F n s hn T hT hTn (glitch_glitches_6 F N) T n i m i t ht l hst h0 hM i F i g (Nat.le_refl _) (by omega) (Nat.le_refl _) hg
  obtain ⟨G, h1, h2, h3⟩ := gl6 k N (i + 1) g' l' m' (by omega) (by omega) (by omega) k1 k3 (fun _ => k4) k5
  refine ⟨G, ?_, h2, h3⟩
  rw [glitch_glitches_6, bif_pos' (by omega), idx_nat, ht, bnd_eq]
  refine Eq.trans k2 ?_
  rw [up (by omega)]
  exact h1
theorem glitches_ex : ∃ G, glitch_glitches F T s = some G ∧ St n s T n G ∧ Srt G := by
 obtain ⟨g, hg, hg2⟩ := apart_ex F n (by omega) (by omega)
 obtain ⟨g', h1, h2⟩ := gl1 F (by omega) n (by omega) T hT hTn s n F 0 g [] rfl (Nat.zero_le _) (by omega) hg2 (fun e he => nomatch he)
 obtain ⟨G, h3, h4, h5⟩ := gl6 F hF n s hn T hT hTn n F 0 g' [] [] rfl (Nat.zero_le _) (by omega) h1 ⟨fun x hx => (nomatch hx), rfl, rfl, Nat.le_refl _⟩ (fun h => by omega) (fun e he => nomatch he)
 refine ⟨G, ?_, h4, h5⟩
 unfold glitch_glitches
 rw [hTn, hg, bnd_eq]
 exact h2.trans h3
end
end Go.Ev.GlitchCounts
namespace Go.Ev.GlitchCounts
open Go Go.Ev Go.Proofs
set_option linter.unusedVariables false
theorem rIn (F : Nat) (a b c : Int) : ref00_In F a b c = some (inR b a c) := by
 unfold ref00_In ref00_In_1 inR
 by_cases h : b ≤ a <;> simp [h]
theorem Mod_get (F : Nat) (x n : Int) (h1 : 1 ≤ n) (h2 : n ≤ 2199023255552) : ∃ r, ref00_Mod F x n = some r ∧ 0 ≤ r ∧ r < n := by
 unfold ref00_Mod ref00_Mod_1
 rw [bif_neg' (by omega), nz_ok (by omega), bnd_eq]
 have g1 : Int.tmod x n < n := Int.tmod_lt_of_pos x (by omega)
 have g2 : -n < Int.tmod x n := by
  have := Int.lt_tmod_of_pos x (show 0 < n by omega)
  omega
 by_cases h : Int.tmod x n < 0
 ·rw [bif_pos' h, w64_id (by omega) (by omega)]
  exact ⟨_, rfl, by omega, by omega⟩
 ·rw [bif_neg' h]
  exact ⟨_, rfl, by omega, by omega⟩
theorem teq (x y : S_api_Tile) : ((x.Level == y.Level) && ((x.At == y.At) && ((x.D == y.D) && true))) = true ↔ x = y := by
 rw [Bool.and_true, Bool.and_eq_true, Bool.and_eq_true, beq_iff_eq, beq_iff_eq, beq_iff_eq]
 constructor
 ·rintro ⟨h1, h2, h3⟩
  cases x; cases y
  simp at h1 h2 h3
  rw [h1, h2, h3]
 ·rintro rfl
  exact ⟨rfl, rfl, rfl⟩
section
variable (F : Nat) (hw : works F = some true)
include hw
theorem ends (A B : List S_api_Tile) (hd : Int → Int → List S_api_Tile → List S_api_Tile → Option Bool) (k : Nat) (i : Int) (hk : k = B.length) : law06_GlitchCounts_12 F hd k i false A B = some true := by
 unfold law06_GlitchCounts_12 law06_GlitchCounts_14
 rw [cond_false, show ((k : Int) == (B.length : Int)) = true from beq_iff_eq.2 (by omega), cond_true, hw]
 rfl
theorem gr11 (A B : List S_api_Tile) (hA : A.length ≤ 2000) (hB : B.length ≤ 2000) : ∀ (q N k i : Nat), q = A.length - i → i ≤ A.length → q < N → k ≤ B.length → (B.drop k).Sublist (A.drop i) → law06_GlitchCounts_11 F N k i A B = some true
 | q, 0, k, i, _, _, h, _, _ => by omega
 | 0, N + 1, k, i, hq, hi, _, hk, hs => by
  rw [law06_GlitchCounts_11, bif_neg' (by omega)]
  rw [List.drop_of_length_le (by omega : A.length ≤ i)] at hs
  have := List.eq_nil_of_sublist_nil hs
  have := congrArg List.length this
  rw [List.length_drop, List.length_nil] at this
  exact ends F hw A B _ k i (by omega)
 | q + 1, N + 1, k, i, hq, hi, hN, hk, hs => by
  obtain ⟨x, hx⟩ := get_lt (l := A) (i := i) (by omega)
  rw [law06_GlitchCounts_11, bif_pos' (by omega)]
  by_cases c : k < B.length
  ·obtain ⟨y, hy⟩ := get_lt (l := B) (i := k) c
   rw [drop_get hx, drop_get hy] at hs
   rw [decide_eq_true (by omega)]
   unfold law06_GlitchCounts_12 law06_GlitchCounts_13
   rw [cond_true, idx_nat, hx, bnd_eq, idx_nat, hy, bnd_eq, up (by omega), up (by omega)]
   by_cases e : x = y
   ·rw [(teq x y).2 e, cond_true]
    subst e
    exact gr11 A B hA hB q N (k + 1) (i + 1) (by omega) (by omega) (by omega) (by omega) hs.of_cons_cons
   ·have hne : ((x.Level == y.Level) && ((x.At == y.At) && ((x.D == y.D) && true))) = false := by
     rw [← Bool.not_eq_true]
     exact fun h => e ((teq x y).1 h)
    rw [hne, cond_false]
    refine gr11 A B hA hB q N k (i + 1) (by omega) (by omega) (by omega) hk ?_
    rw [drop_get hy]
    cases hs with
    | cons _ h => exact h
    | cons_cons _ h => exact absurd rfl e
  ·rw [decide_eq_false (by omega)]
   exact ends F hw A B _ k i (by omega)
end
theorem thr_eq (F : Nat) (x : List Int) (thr : Int) {s : Bool} (hs : glitch_isSignal F x = some s) : glitch_checkThreshold F x thr = some (bif s then (bif inR 0 thr 1152921504606846976 then 0 else 8) else 60) := by
 unfold glitch_checkThreshold
 rw [hs, bnd_eq]
 cases s with
 | false => rfl
 | true =>
  rw [Bool.not_true, cond_false, gFrom_eq, bnd_eq, cond_true]
  cases inR 0 thr 1152921504606846976 <;> rfl
section
variable (F : Nat) (hF : 14000 < F) (x : List Int) (thr more : Int) (T : List S_api_Tile) (G : List S_api_Glitch)
theorem lw5 (hT : T.length ≤ 2000) (hG : ∀ g ∈ G, gOk T.length g) (hS : Srt G) (hGl : G.length ≤ 2000) : ∀ (k N i : Nat), k = G.length - i → i ≤ G.length → k < N →
  law06_GlitchCounts_5 F N x thr more (w64 (sumG (·.Many) (G.take i))) (w64 (sumG (·.Energy) (G.take i))) i T G = law06_GlitchCounts_7 F F x thr more (w64 (sumG (·.Many) G)) (w64 (sumG (·.Energy) G)) (0 : Int) T
 | k, 0, i, _, _, h => by omega
 | 0, N + 1, i, hk, hi, _ => by
  rw [law06_GlitchCounts_5, bif_neg' (by omega), List.take_of_length_le (by omega)]
 | k + 1, N + 1, i, hk, hi, hN => by
  obtain ⟨g, hg⟩ := get_lt (l := G) (i := i) (by omega)
  have hok := hG g (List.mem_of_getElem? hg)
  have ih := lw5 hT hG hS hGl k N (i + 1) (by omega) (by omega) (by omega)
  have et : G.take (i + 1) = G.take i ++ [g] := by rw [List.take_add_one, hg]; rfl
  have es : ∀ f : S_api_Glitch → Int, sumG f (G.take (i + 1)) = sumG f (G.take i) + f g := fun f => by rw [et, sumG_app]; simp [sumG]
  rw [es, es] at ih
  have h6 : law06_GlitchCounts_6 F (law06_GlitchCounts_5 F N) x thr more (w64 (sumG (·.Many) (G.take i))) (w64 (sumG (·.Energy) (G.take i))) i false T G = law06_GlitchCounts_7 F F x thr more (w64 (sumG (·.Many) G)) (w64 (sumG (·.Energy) G)) (0 : Int) T := by
   unfold law06_GlitchCounts_6
   rw [cond_false, idx_nat, hg, bnd_eq, bnd_eq, w64_addL, w64_addL, up (by omega)]
   exact ih
  have hpk : inR 0 g.Peak (w64 ((T.length : Int) - 1)) = true := inR_iff.2 (by rw [w64_id (by omega) (by omega)]; have := hok.1; omega)
  rw [law06_GlitchCounts_5, bif_pos' (by omega), idx_nat, hg, bnd_eq, rIn, hpk, bnd_eq, Bool.not_true, cond_false, bnd_eq, bnd_eq, bif_neg' (by have := hok.2.1; omega)]
  by_cases c : 0 < i
  ·obtain ⟨h, hh⟩ := get_lt (l := G) (i := i - 1) (by omega)
   have hle := hS.le (show i - 1 ≤ i by omega) hh hg
   have e : w64 ((i : Int) - 1) = ((i - 1 : Nat) : Int) := by rw [w64_id (by omega) (by omega)]; omega
   rw [bif_pos' (by omega), e, idx_nat, hh, bnd_eq, bnd_eq, decide_eq_false (by omega)]
   exact h6
  ·rw [bif_neg' (by omega)]
   exact h6
include hF
theorem lw7 (hw : works F = some true) (hTo : ∀ t ∈ T, tOk t) (hT : T.length ≤ 1024) (M E : Int) (hM : M = T.length) (hE : w64 E = w64 (sumE x.length T)) (hthr : 0 ≤ thr ∧ thr ≤ 1152921504606846976) (hL : ∀ thr', thr ≤ thr' → thr' ≤ 1152921504606846976 → ∃ B : List S_api_Tile, glitch_Loud F x thr' = some (B, 0) ∧ B.Sublist T) : ∀ (k N i : Nat), k = T.length - i → i ≤ T.length → k < N →
  law06_GlitchCounts_7 F N x thr more M (w64 (E - sumE x.length (T.take i))) i T = some true
 | k, 0, i, _, _, h => by omega
 | 0, N + 1, i, hk, hi, _ => by
  have e0 : w64 (E - sumE x.length (T.take i)) = 0 := by
   rw [List.take_of_length_le (by omega), Int.sub_eq_add_neg, ← w64_addL, hE, w64_addL, Int.add_right_neg]
   decide
  obtain ⟨r, hr, r1, r2⟩ := Mod_get F more 1099511627776 (by omega) (by omega)
  have em : w64 (thr + r) = thr + r := w64_id (by omega) (by omega)
  obtain ⟨B, hB, hB2⟩ := hL (min 1152921504606846976 (thr + r)) (by omega) (by omega)
  have hBl := hB2.length_le
  rw [law06_GlitchCounts_7, bif_neg' (by omega), hr, bnd_eq, em, hB, bnd_eq, e0, hM, show (!((T.length : Int) == (T.length : Int))) = false by simp, cond_false]
  show law06_GlitchCounts_8 F 0 (!((0 : Int) == 0)) T B = _
  unfold law06_GlitchCounts_8 law06_GlitchCounts_9 law06_GlitchCounts_10
  rw [show (!((0 : Int) == 0)) = false from rfl, cond_false, cond_false, decide_eq_false (by omega), cond_false]
  exact gr11 F hw T B (by omega) (by omega) T.length F 0 0 rfl (Nat.zero_le _) (by omega) (Nat.zero_le _) (by rw [List.drop_zero, List.drop_zero]; exact hB2)
 | k + 1, N + 1, i, hk, hi, hN => by
  obtain ⟨t, ht⟩ := get_lt (l := T) (i := i) (by omega)
  have hto := hTo t (List.mem_of_getElem? ht)
  have ih := lw7 hw hTo hT M E hM hE hthr hL k N (i + 1) (by omega) (by omega) (by omega)
  have es : w64 (w64 (E - sumE x.length (T.take i)) - en x.length t) = w64 (E - sumE x.length (T.take (i + 1))) := by
   have hsub : ∀ a b : Int, w64 (w64 a - b) = w64 (a - b) := fun a b => by rw [Int.sub_eq_add_neg, w64_addL, ← Int.sub_eq_add_neg]
   rw [sumE_take x.length T i t ht, hsub]
   congr 1
   omega
  rw [law06_GlitchCounts_7, bif_pos' (by omega), idx_nat, ht, bnd_eq, rIn, inR_iff.2 hto.1, bnd_eq, Bool.not_true, cond_false, bnd_eq, bnd_eq, bnd_eq, shn_ok (by have := hto.1; omega), bnd_eq, up (by omega)]
  show law06_GlitchCounts_7 F N x thr more M (w64 (w64 (E - sumE x.length (T.take i)) - en x.length t)) ((i + 1 : Nat) : Int) T = _
  rw [es]
  exact ih
end
theorem law_eq (F : Nat) (x : List Int) (thr more : Int) (hF : 14000 < F) (hx : x.length ≤ 9223372036854775807) (hw : works F = some true) : law06_GlitchCounts F x thr more = some true := by
 obtain ⟨s, hs, hs2⟩ := gSignal_ex F x (by omega) hx
 have hck := fun thr' => thr_eq F x thr' hs
 have bad : ∀ e : Int, (e == 0) = false → glitch_checkThreshold F x thr = some e → law06_GlitchCounts F x thr more = some true := fun e he h => by
  unfold law06_GlitchCounts glitch_Loud glitch_Glitches
  rw [h, bnd_eq, bnd_eq, he, Bool.not_false, cond_true, bnd_eq, cond_true, bnd_eq]
  show (bif (!(e == 0)) then law06_GlitchCounts_1 F x thr more e e true [] [] else _) = _
  rw [he, Bool.not_false, cond_true]
  unfold law06_GlitchCounts_1 law06_GlitchCounts_2 law06_GlitchCounts_3 law06_GlitchCounts_4
  rw [cond_true, show (e == e) = true by simp, cond_true]
  show (bif true then (bif true then (bnd (works F) fun r40 => some r40) else some false) else _) = _
  rw [cond_true, cond_true, hw]
  rfl
 cases s with
 | false => exact bad 60 rfl (hck thr)
 | true =>
  cases hi : inR 0 thr 1152921504606846976 with
  | false => exact bad 8 rfl (by rw [hck thr, hi]; rfl)
  | true =>
   have hthr := inR_iff.1 hi
   obtain ⟨x1, x2, _⟩ := hs2 rfl
   obtain ⟨L, l1, l2, l3⟩ := loud_ex F (by omega) x x1 x2
   have hc : ∀ thr', thr ≤ thr' → thr' ≤ 1152921504606846976 → glitch_checkThreshold F x thr' = some 0 := fun thr' a b => by
    rw [hck thr', inR_iff.2 ⟨by omega, b⟩]
    rfl
   have hld : ∀ thr', thr ≤ thr' → thr' ≤ 1152921504606846976 → glitch_Loud F x thr' = some (L.filter (fun t => decide (thr' ≤ en x.length t)), 0) := fun thr' a b => by
    unfold glitch_Loud
    rw [hc thr' a b, bnd_eq, show (!((0 : Int) == 0)) = false from rfl, cond_false, l3, bnd_eq]
   have hsub : ∀ thr', thr ≤ thr' → (L.filter (fun t => decide (thr' ≤ en x.length t))).Sublist (L.filter (fun t => decide (thr ≤ en x.length t))) := fun thr' a => by
    have : L.filter (fun t => decide (thr' ≤ en x.length t)) = (L.filter (fun t => decide (thr ≤ en x.length t))).filter (fun t => decide (thr' ≤ en x.length t)) := by
     rw [List.filter_filter]
     congr 1
     funext t
     rw [Bool.eq_iff_iff, Bool.and_eq_true, decide_eq_true_eq, decide_eq_true_eq]
     omega
    rw [this]
    exact List.filter_sublist
   have hfl := List.length_filter_le (fun t => decide (thr ≤ en x.length t)) L
   have hT : ∀ t ∈ L.filter (fun t => decide (thr ≤ en x.length t)), tOk t := fun t ht => l1 t (List.mem_filter.1 ht).1
   have hLt := hld thr (Int.le_refl _) hthr.2
   have hlt := l3 thr
   have hB : ∀ thr', thr ≤ thr' → thr' ≤ 1152921504606846976 → ∃ B : List S_api_Tile, glitch_Loud F x thr' = some (B, 0) ∧ B.Sublist (L.filter (fun t => decide (thr ≤ en x.length t))) := fun thr' a b => ⟨_, hld thr' a b, hsub thr' a⟩
   generalize L.filter (fun t => decide (thr ≤ en x.length t)) = T at *
   obtain ⟨G, g1, ⟨g2, g3, g4, g5⟩, g6⟩ := glitches_ex F (by omega) T.length x.length (by omega) T hT rfl
   rw [List.take_of_length_le (Nat.le_refl _)] at g4
   have hGs : glitch_Glitches F x thr = some (G, 0) := by
    unfold glitch_Glitches
    rw [hc thr (Int.le_refl _) hthr.2, bnd_eq, show (!((0 : Int) == 0)) = false from rfl, cond_false, hlt, bnd_eq, g1, bnd_eq]
   unfold law06_GlitchCounts
   rw [hLt, bnd_eq, hGs, bnd_eq]
   show law06_GlitchCounts_5 F F x thr more (w64 (sumG (·.Many) (G.take 0))) (w64 (sumG (·.Energy) (G.take 0))) ((0 : Nat) : Int) T G = _
   rw [lw5 F x thr more T G (by omega) g2 g6 (by omega) G.length F 0 rfl (Nat.zero_le _) (by omega), g3]
   have e1 : w64 (T.length : Int) = (T.length : Int) := w64_id (by omega) (by omega)
   have h7 := lw7 F hF x thr more T hw hT (by omega) T.length (sumG (·.Energy) G) rfl g4 hthr hB T.length F 0 rfl (Nat.zero_le _) (by omega)
   rw [List.take_zero] at h7
   have e2 : sumG (·.Energy) G - sumE x.length [] = sumG (·.Energy) G := by simp [sumE]
   rw [e2] at h7
   rw [e1]
   exact h7
end Go.Ev.GlitchCounts
