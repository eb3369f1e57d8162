/- RunVetoed answers true. -/
import Derived.Test.YtochmbjngflpiaaGreatDoorRunVetoedMath6
namespace Go.Ev.RunVetoed
open Go Go.Ev Go.Proofs
set_option linter.unusedVariables false
def rg : Nat → Nat → List Int
 | _, 0 => []
 | a, m + 1 => (a : Int) :: rg (a + 1) m
theorem rg_len : ∀ m a : Nat, (rg a m).length = m
 | 0, a => rfl
 | m + 1, a => by rw [rg, List.length_cons, rg_len m]
theorem rg_app : ∀ m k a : Nat, rg a (m + k) = rg a m ++ rg (a + m) k
 | 0, k, a => by rw [Nat.zero_add]; rfl
 | m + 1, k, a => by
  rw [show m + 1 + k = (m + k) + 1 by omega, rg, rg, rg_app m k (a + 1), List.cons_append, show a + 1 + m = a + (m + 1) by omega]
theorem rg_snoc (m a : Nat) : rg a (m + 1) = rg a m ++ [((a + m : Nat) : Int)] := by
 rw [rg_app m 1 a]
 rfl
theorem tim1 (F : Nat) (ts : List Int) (hl : ts.length ≤ 256) : ∀ (m N i a : Nat) (last : Int), ts.drop i = rg a m → i + m = ts.length → m < N → -1 ≤ last → last < a → a + m ≤ 1000000 → glitch_areTimes_1 F N last ts ts.length i = some true
 | m, 0, i, a, last, _, _, h, _, _, _ => by omega
 | 0, N + 1, i, a, last, _, hi, _, _, _, _ => by rw [glitch_areTimes_1, bif_neg' (by omega)]
 | m + 1, N + 1, i, a, last, hd, hi, hN, h1, h2, h3 => by
  have hx : ts[i]? = some (a : Int) := by
   have := congrArg (fun l : List Int => l[0]?) hd
   simpa [rg] using this
  have hd' : ts.drop (i + 1) = rg (a + 1) m := by
   have := congrArg List.tail hd
   simpa [rg] using this
  have e : inR (w64 (last + 1)) (a : Int) 1073741824 = true := by
   rw [w64_id (by omega) (by omega)]
   exact inR_iff.2 ⟨by omega, by omega⟩
  rw [glitch_areTimes_1, bif_pos' (by omega), idx_nat, hx, bnd_eq, gisF, e, bnd_eq, Bool.not_true, cond_false, up (by omega)]
  exact tim1 F ts hl m N (i + 1) (a + 1) a hd' (by omega) (by omega) (by omega) (by omega) (by omega)
theorem hol1 (F : Nat) (l : List S_api_Segment) (hl : l.length ≤ 32) (t : Int) : ∀ (k N i : Nat), k = l.length - i → i ≤ l.length → k < N → glitch_holdsAt_1 F N l l.length i t = some (covL (l.drop i) t)
 | k, 0, i, _, _, h => by omega
 | 0, N + 1, i, hk, hi, _ => by
  rw [glitch_holdsAt_1, bif_neg' (by omega), List.drop_of_length_le (by omega : l.length ≤ i)]
  rfl
 | k + 1, N + 1, i, hk, hi, hN => by
  obtain ⟨x, hx⟩ := get_lt (l := l) (i := i) (by omega)
  have e : covL (x :: l.drop (i + 1)) t = ((decide (x.From ≤ t) && decide (t < x.To)) || covL (l.drop (i + 1)) t) := rfl
  rw [glitch_holdsAt_1, bif_pos' (by omega), idx_nat, hx, bnd_eq, drop_get hx, e]
  unfold glitch_holdsAt_2
  rw [up (by omega), hol1 F l hl t k N (i + 1) (by omega) (by omega) (by omega), decide_eq_true (show (0 : Int) ≤ (i : Int) by omega)]
  cases decide (x.From ≤ t) <;> cases decide (t < x.To) <;> rfl
theorem con1 (F : Nat) (hF : 40 < F) (l : List S_api_Veto) (hl : l.length ≤ 12) (hv : ∀ v ∈ l, v.Segments.length ≤ 32) (t : Int) (l0 : List S_api_Veto) : ∀ (k N i : Nat), k = l.length - i → i ≤ l.length → k < N → slices_ContainsFunc_77_h1_1 F l0 t N l l.length i = some (covV (l.drop i) t)
 | k, 0, i, _, _, h => by omega
 | 0, N + 1, i, hk, hi, _ => by
  rw [slices_ContainsFunc_77_h1_1, bif_neg' (by omega), List.drop_of_length_le (by omega : l.length ≤ i)]
  rfl
 | k + 1, N + 1, i, hk, hi, hN => by
  obtain ⟨x, hx⟩ := get_lt (l := l) (i := i) (by omega)
  have hxl := hv x (List.mem_of_getElem? hx)
  have h1 := hol1 F x.Segments hxl t x.Segments.length F 0 rfl (by omega) (by omega)
  rw [List.drop_zero] at h1
  have h2 : glitch_holdsAt F x t = some (covL x.Segments t) := h1
  have e : covV (x :: l.drop (i + 1)) t = (covL x.Segments t || covV (l.drop (i + 1)) t) := rfl
  rw [slices_ContainsFunc_77_h1_1, bif_pos' (by omega), idx_nat, hx, bnd_eq, h2, bnd_eq, drop_get hx, e, up (by omega), con1 F hF l hl hv t l0 k N (i + 1) (by omega) (by omega) (by omega), decide_eq_true (show (0 : Int) ≤ (i : Int) by omega)]
  cases covL x.Segments t <;> rfl
theorem pas1 (F : Nat) (hF : 40 < F) (l : List S_api_Veto) (hl : l.length ≤ 12) (hv : ∀ v ∈ l, v.Segments.length ≤ 32) (ts : List Int) (ht : ts.length ≤ 256) : ∀ (k N i : Nat) (acc : List Int), k = ts.length - i → i ≤ ts.length → k < N → acc.length ≤ i → glitch_passed_1 F N ts ts.length i l acc = some (acc ++ (ts.drop i).filter (fun t => !covV l t))
 | k, 0, i, acc, _, _, h, _ => by omega
 | 0, N + 1, i, acc, hk, hi, _, _ => by
  rw [glitch_passed_1, bif_neg' (by omega), List.drop_of_length_le (by omega : ts.length ≤ i)]
  simp
 | k + 1, N + 1, i, acc, hk, hi, hN, hacc => by
  obtain ⟨x, hx⟩ := get_lt (l := ts) (i := i) (by omega)
  have h1 := con1 F hF l hl hv x l l.length F 0 rfl (by omega) (by omega)
  rw [List.drop_zero] at h1
  have h2 : slices_ContainsFunc_77_h1 F l x = some (covV l x) := h1
  rw [glitch_passed_1, bif_pos' (by omega), idx_nat, hx, bnd_eq, h2, bnd_eq, drop_get hx]
  unfold glitch_passed_2
  rw [up (by omega)]
  cases e : covV l x with
  | false => rw [Bool.not_false, cond_true, apd_ok (by simp; omega) (by omega), bnd_eq, pas1 F hF l hl hv ts ht k N (i + 1) _ (by omega) (by omega) (by omega) (by simp; omega), List.filter_cons_of_pos (by simp [e]), List.append_assoc]; rfl
  | true => rw [Bool.not_true, cond_false, pas1 F hF l hl hv ts ht k N (i + 1) _ (by omega) (by omega) (by omega) (by omega), List.filter_cons_of_neg (by simp [e])]
structure VsOK (F : Nat) (l : List S_api_Veto) : Prop where
 ok : glitch_areVetoes F l = some true
 len : l.length ≤ 12
 all : ∀ v ∈ l, VOK F v
theorem Passed_eq (F : Nat) (hF : 1000 < F) (l : List S_api_Veto) (h : VsOK F l) (a m : Nat) (hm : m ≤ 256) (ha : a + m ≤ 1000000) : glitch_Passed F l (rg a m) = some ((rg a m).filter (fun t => !covV l t), 0) := by
 have hlen := rg_len m a
 unfold glitch_Passed
 rw [h.ok, bnd_eq, Bool.not_true, cond_false]
 have e : glitch_areTimes F (rg a m) = some true := by
  unfold glitch_areTimes
  rw [bif_neg' (by omega)]
  exact tim1 F (rg a m) (by omega) m F 0 a (-1) (by simp) (by omega) (by omega) (by omega) (by omega) ha
 have e2 := pas1 F (by omega) l h.len (fun v hv => (h.all v hv).len) (rg a m) (by omega) (rg a m).length F 0 [] rfl (by omega) (by omega) (by simp)
 rw [List.drop_zero, List.nil_append] at e2
 have e3 : glitch_passed F l (rg a m) = _ := e2
 rw [e, bnd_eq, Bool.not_true, cond_false, e3, bnd_eq]
theorem ded2 (F n : Nat) (hn : n ≤ 512) (h : List S_api_Segment) (hh : h.length ≤ 400) (hi : ∀ s ∈ h, InS n s) : ∀ (k N i : Nat) (s : Int), k = h.length - i → i ≤ h.length → k < N → 0 ≤ s → s ≤ 512 * i → glitch_dead_2 F N s h.length i h = some (s + totS (h.drop i))
 | k, 0, i, s, _, _, g, _, _ => by omega
 | 0, N + 1, i, s, hk, hi', _, _, _ => by
  rw [glitch_dead_2, bif_neg' (by omega), List.drop_of_length_le (by omega : h.length ≤ i)]
  simp [totS]
 | k + 1, N + 1, i, s, hk, hi', hN, h0, h1 => by
  obtain ⟨x, hx⟩ := get_lt (l := h) (i := i) (by omega)
  obtain ⟨a1, a2, a3⟩ := hi x (List.mem_of_getElem? hx)
  have e : totS (x :: h.drop (i + 1)) = (x.To - x.From) + totS (h.drop (i + 1)) := by
   unfold totS
   simp only [List.map_cons, List.sum_cons]
  rw [glitch_dead_2, bif_pos' (by omega), idx_nat, hx, bnd_eq, drop_get hx, e, w64_id (n := x.To - x.From) (by omega) (by omega), w64_id (n := s + (x.To - x.From)) (by omega) (by omega), up (by omega), ded2 F n hn h hh hi k N (i + 1) _ (by omega) (by omega) (by omega) (by omega) (by omega)]
  congr 1
  omega
theorem ded1 (F : Nat) (hF : 1000 < F) (n : Nat) (h1 : 1 ≤ n) (h2 : n ≤ 512) (l : List S_api_Veto) (h : VsOK F l) : ∀ (k N i : Nat) (acc : List S_api_Segment), k = l.length - i → i ≤ l.length → k < N → acc.length ≤ 32 * i → acc ++ (l.drop i).flatMap (fun v => v.Segments) = l.flatMap (fun v => v.Segments) → glitch_dead_1 F N n l l.length i acc = some (totS (heldL n (l.flatMap fun v => v.Segments)))
 | k, 0, i, acc, _, _, g, _, _ => by omega
 | 0, N + 1, i, acc, hk, hi, _, ha, he => by
  have hl := h.len
  rw [List.drop_of_length_le (by omega : l.length ≤ i)] at he
  simp at he
  subst he
  have gl := held_len (n : Int) (l.flatMap fun v => v.Segments)
  obtain ⟨g1, g2, g3⟩ := held_all n (l.flatMap fun v => v.Segments) (fun s hs => by
   obtain ⟨v, hv, hs⟩ := List.mem_flatMap.1 hs
   exact ((h.all v hv).all s hs).1)
  rw [glitch_dead_1, bif_neg' (by omega), held_eq F (by omega) n _ (by omega), bnd_eq]
  have := ded2 F n h2 (heldL n (l.flatMap fun v => v.Segments)) (by omega) g1 (heldL n (l.flatMap fun v => v.Segments)).length F 0 0 rfl (by omega) (by omega) (Int.le_refl _) (by omega)
  rw [List.drop_zero, Int.zero_add] at this
  exact this
 | k + 1, N + 1, i, acc, hk, hi, hN, ha, he => by
  obtain ⟨x, hx⟩ := get_lt (l := l) (i := i) (by omega)
  have hxl := (h.all x (List.mem_of_getElem? hx)).len
  have hl := h.len
  rw [drop_get hx, List.flatMap_cons, ← List.append_assoc] at he
  rw [glitch_dead_1, bif_pos' (by omega), idx_nat, hx, bnd_eq, apd_ok (by omega) (by omega), bnd_eq, up (by omega)]
  exact ded1 F hF n h1 h2 l h k N (i + 1) _ (by omega) (by omega) (by omega) (by simp; omega) he
theorem cov_flat (t : Int) : ∀ l : List S_api_Veto, covL (l.flatMap fun v => v.Segments) t = covV l t
 | [] => rfl
 | v :: r => by
  have e : covV (v :: r) t = (covL v.Segments t || covV r t) := rfl
  rw [List.flatMap_cons, e, ← cov_flat t r]
  unfold covL
  rw [List.any_append]
theorem Dead_eq (F : Nat) (hF : 1000 < F) (n : Nat) (h1 : 1 ≤ n) (h2 : n ≤ 512) (l : List S_api_Veto) (h : VsOK F l) : glitch_Dead F l n = some ((cnT (covV l) n : Int), 0) := by
 have e := ded1 F hF n h1 h2 l h l.length F 0 [] rfl (by omega) (by have := h.len; omega) (by simp) (by simp)
 obtain ⟨g1, g2, g3⟩ := held_all n (l.flatMap fun v => v.Segments) (fun s hs => by
  obtain ⟨v, hv, hs⟩ := List.mem_flatMap.1 hs
  exact ((h.all v hv).all s hs).1)
 have e2 : (covL (l.flatMap fun v => v.Segments)) = covV l := funext fun t => cov_flat t l
 rw [e2] at g3
 rw [← g3] at e
 have e3 : glitch_dead F l n = _ := e
 unfold glitch_Dead
 rw [span_ok F l h.ok n (by omega) (by omega), bnd_eq]
 show bnd (glitch_dead F l n) _ = _
 rw [e3, bnd_eq]
theorem cnT_not (p : Int → Bool) : ∀ n : Nat, cnT p n + cnT (fun t => !p t) n = n
 | 0 => rfl
 | n + 1 => by
  have ih := cnT_not p n
  rw [cnT, cnT]
  cases p n <;> simp <;> omega
theorem own_len (p : Int → Bool) : ∀ n : Nat, ((rg 0 n).filter p).length = cnT p n
 | 0 => rfl
 | n + 1 => by
  rw [rg_snoc, List.filter_append, List.length_append, own_len p n, cnT, Nat.zero_add]
  congr 1
  cases e : p (n : Int) <;> simp [e]
theorem same1 (F : Nat) (l : List Int) (hl : l.length ≤ 1000) : ∀ (k N i : Nat), k = l.length - i → i ≤ l.length → k < N → ref00_SameInts_1 F N l l i = some true
 | k, 0, i, _, _, h => by omega
 | 0, N + 1, i, hk, hi, _ => by rw [ref00_SameInts_1, bif_neg' (by omega)]
 | k + 1, N + 1, i, hk, hi, hN => by
  obtain ⟨x, hx⟩ := get_lt (l := l) (i := i) (by omega)
  rw [ref00_SameInts_1, bif_pos' (by omega), idx_nat, hx, bnd_eq, bnd_eq, beq_self_eq_true, Bool.not_true, cond_false, up (by omega)]
  exact same1 F l hl k N (i + 1) (by omega) (by omega) (by omega)
theorem same_ok (F : Nat) (hF : 1000 < F) (l : List Int) (hl : l.length ≤ 1000) : ref00_SameInts F l l = some true := by
 unfold ref00_SameInts
 rw [beq_self_eq_true, Bool.not_true, cond_false]
 exact same1 F l hl l.length F 0 rfl (by omega) (by omega)
theorem Mod_ex (F : Nat) (x n : Int) (h1 : 1 ≤ n) (h2 : n ≤ 1000) : ∃ r, ref00_Mod F x n = some r ∧ 0 ≤ r ∧ r < n := by
 unfold ref00_Mod ref00_Mod_1
 rw [bif_neg' (by omega), nz_ok (by omega), bnd_eq]
 have g1 : Int.tmod x n < n := Int.tmod_lt_of_pos x (by omega)
 have g2 : -n < Int.tmod x n := by
  have := Int.lt_tmod_of_pos x (show 0 < n by omega)
  omega
 by_cases h : Int.tmod x n < 0
 ·rw [bif_pos' h, w64_id (by omega) (by omega)]
  exact ⟨_, rfl, by omega, by omega⟩
 ·rw [bif_neg' h]
  exact ⟨_, rfl, by omega, by omega⟩
theorem det_ok (F : Nat) (a : S_api_Plan) (d : Int) (hF : 1000 < F) (hd : d = 0 ∨ d = 1) (hc : run_Check F a = some 0) : run_checkDetector F a d = some 0 := by
 unfold run_checkDetector run_isDetector
 rw [hc, bnd_eq, show (!((0 : Int) == 0)) = false from rfl, cond_false, isFrom_eq, bnd_eq, bnd_eq]
 have : inR 0 d 1 = true := inR_iff.2 (by omega)
 rw [this]
 rfl
theorem det_bad (F : Nat) (a : S_api_Plan) (d : Int) (r : Int) (hr : r ≠ 0) (hc : run_Check F a = some r) : run_checkDetector F a d = some r := by
 unfold run_checkDetector
 rw [hc, bnd_eq, show (!(r == 0)) = true by simp [hr], cond_true]
section
variable (c0 : List S_api_Duty) (c2 c3 : List S_api_Veto) (c4 c5 : List Int)
theorem lv2 (F : Nat) (d : Int) (p : Int → Bool) (n : Nat) (hn : n ≤ 512) : ∀ (k N i : Nat), k = n - i → i ≤ n → k < N → law11_RunVetoed_2 F N d i c0 c2 c3 c4 c5 (QL p n) ((rg 0 i).filter p) = law11_RunVetoed_4 F F d 0 c0 c2 c3 c4 c5 (QL p n) ((rg 0 n).filter p) []
 | k, 0, i, _, _, h => by omega
 | 0, N + 1, i, hk, hi, _ => by
  obtain rfl : i = n := by omega
  rw [law11_RunVetoed_2, bif_neg' (by rw [QL_len]; omega)]
 | k + 1, N + 1, i, hk, hi, hN => by
  have hlen : ((rg 0 i).filter p).length ≤ i := Nat.le_trans (List.length_filter_le _ _) (Nat.le_of_eq (rg_len i 0))
  have ih := lv2 F d p n hn k N (i + 1) (by omega) (by omega) (by omega)
  rw [rg_snoc, List.filter_append, Nat.zero_add] at ih
  rw [law11_RunVetoed_2, bif_pos' (by rw [QL_len]; omega), idx_nat, QL_get p n i (by omega), bnd_eq]
  unfold law11_RunVetoed_3
  rw [up (by omega)]
  cases e : p (i : Int) with
  | true =>
   rw [cond_true, apd_ok (by simp; omega) (by omega), bnd_eq]
   rw [List.filter_cons_of_pos e, List.filter_nil] at ih
   exact ih
  | false =>
   rw [cond_false]
   rw [List.filter_cons_of_neg (by simp [e]), List.filter_nil, List.append_nil] at ih
   exact ih
theorem lv5 (F : Nat) (hd : Int → Int → (List S_api_Duty) → (List S_api_Veto) → (List S_api_Veto) → (List Int) → (List Int) → (List Bool) → (List Int) → (List Int) → Option (Bool)) (d : Int) (q : List Bool) (own acc : List Int) (n f e : Nat) (hq : q.length = n) (hn : n ≤ 512) (hf : f < n) (he : e = min n (f + 256)) : ∀ (k N t : Nat), k = e - t → f ≤ t → t ≤ e → k < N → ∃ h5, law11_RunVetoed_5 F hd N d f t c0 c2 c3 c4 c5 q own acc (rg f (t - f)) = law11_RunVetoed_6 F hd h5 d f e false c0 c2 c3 c4 c5 q own acc (rg f (e - f))
 | k, 0, t, _, _, _, h => by omega
 | 0, N + 1, t, hk, h1, h2, _ => by
  obtain rfl : t = e := by omega
  refine ⟨law11_RunVetoed_5 F hd N, ?_⟩
  rw [law11_RunVetoed_5]
  by_cases h : t < n
  ·rw [bif_pos' (by omega), w64_id (by omega) (by omega), decide_eq_false (by omega)]
  ·rw [bif_neg' (by omega)]
 | k + 1, N + 1, t, hk, h1, h2, hN => by
  obtain ⟨h5, ih⟩ := lv5 F hd d q own acc n f e hq hn hf he k N (t + 1) (by omega) (by omega) (by omega) (by omega)
  refine ⟨h5, ?_⟩
  have hlen := rg_len (t - f) f
  rw [law11_RunVetoed_5, bif_pos' (by omega), w64_id (by omega) (by omega), decide_eq_true (by omega)]
  conv => lhs; unfold law11_RunVetoed_6
  rw [cond_true, apd_ok (by simp; omega) (by omega), bnd_eq, up (by omega), ← ih, show t + 1 - f = (t - f) + 1 by omega, rg_snoc, show f + (t - f) = t by omega]
theorem lv4 (F : Nat) (hF : 1000 < F) (hw : works F = some true) (d : Int) (hd : d = 0 ∨ d = 1) (vs : List S_api_Veto) (hvs : vs = if d = 0 then c2 else c3) (h : VsOK F vs) (n : Nat) (h1 : 1 ≤ n) (hn : n ≤ 512) : ∀ (N f : Nat), n - f < N → f ≤ n + 256 → law11_RunVetoed_4 F N d f c0 c2 c3 c4 c5 (QL (fun t => !covV vs t) n) ((rg 0 n).filter fun t => !covV vs t) ((rg 0 (min f n)).filter fun t => !covV vs t) = some true
 | 0, f, hh, _ => by omega
 | N + 1, f, hN, hfn => by
  have hown := own_len (fun t => !covV vs t) n
  have hnot := cnT_not (covV vs) n
  have hq := QL_len (fun t => !covV vs t) n
  rw [law11_RunVetoed_4]
  by_cases hf : f < n
  ·rw [bif_pos' (by rw [hq]; omega)]
   obtain ⟨h5, e5⟩ := lv5 c0 c2 c3 c4 c5 F (law11_RunVetoed_4 F N) d (QL (fun t => !covV vs t) n) ((rg 0 n).filter fun t => !covV vs t) ((rg 0 (min f n)).filter fun t => !covV vs t) n f (min n (f + 256)) hq hn hf rfl (min n (f + 256) - f) F f rfl (Nat.le_refl _) (by omega) (by omega)
   rw [Nat.sub_self] at e5
   have e6 : law11_RunVetoed_5 F (law11_RunVetoed_4 F N) F d f f c0 c2 c3 c4 c5 (QL (fun t => !covV vs t) n) ((rg 0 n).filter fun t => !covV vs t) ((rg 0 (min f n)).filter fun t => !covV vs t) [] = _ := e5
   rw [e6]
   have ep := Passed_eq F hF vs h f (min n (f + 256) - f) (by omega) (by omega)
   have hlf : ((rg f (min n (f + 256) - f)).filter fun t => !covV vs t).length ≤ min n (f + 256) - f := Nat.le_trans (List.length_filter_le _ _) (Nat.le_of_eq (rg_len _ _))
   have hla : ((rg 0 (min f n)).filter fun t => !covV vs t).length ≤ min f n := Nat.le_trans (List.length_filter_le _ _) (Nat.le_of_eq (rg_len _ _))
   have eapp : ((rg 0 (min f n)).filter fun t => !covV vs t) ++ ((rg f (min n (f + 256) - f)).filter fun t => !covV vs t) = (rg 0 (min (f + 256) n)).filter fun t => !covV vs t := by
    rw [← List.filter_append, show min f n = f by omega]
    have := rg_app f (min n (f + 256) - f) 0
    rw [Nat.zero_add] at this
    rw [← this, show f + (min n (f + 256) - f) = min (f + 256) n by omega]
   have ih := lv4 F hF hw d hd vs hvs h n h1 hn N (f + 256) (by omega) (by omega)
   have ew : w64 ((f : Int) + 256) = ((f + 256 : Nat) : Int) := by rw [w64_id (by omega) (by omega)]; omega
   unfold law11_RunVetoed_6
   rw [cond_false]
   rcases hd with rfl | rfl
   ·have hv : vs = c2 := hvs
    subst hv
    rw [show ((0 : Int) == 0) = true from rfl, cond_true]
    unfold law11_RunVetoed_7
    rw [ep, bnd_eq]
    show (bif (!((0 : Int) == 0)) then _ else _) = _
    rw [show (!((0 : Int) == 0)) = false from rfl, cond_false]
    show bnd (apd 8 ((rg 0 (min f n)).filter fun t => !covV vs t) ((rg f (min n (f + 256) - f)).filter fun t => !covV vs t)) _ = _
    rw [apd_ok (by omega) (by omega), bnd_eq, eapp, ew]
    exact ih
   ·have hv : vs = c3 := hvs
    subst hv
    rw [show ((1 : Int) == 0) = false from rfl, cond_false, show ((1 : Int) == 1) = true from rfl, cond_true]
    unfold law11_RunVetoed_8
    rw [ep, bnd_eq]
    show (bif (!((0 : Int) == 0)) then _ else _) = _
    rw [show (!((0 : Int) == 0)) = false from rfl, cond_false]
    show bnd (apd 8 ((rg 0 (min f n)).filter fun t => !covV vs t) ((rg f (min n (f + 256) - f)).filter fun t => !covV vs t)) _ = _
    rw [apd_ok (by omega) (by omega), bnd_eq, eapp, ew]
    exact ih
  ·rw [bif_neg' (by rw [hq]; omega), show min f n = n by omega]
   have eD := Dead_eq F hF n h1 hn vs h
   have eS := same_ok F hF ((rg 0 n).filter fun t => !covV vs t) (by omega)
   have fin : law11_RunVetoed_10 F ((cnT (covV vs) n : Nat) : Int) true (QL (fun t => !covV vs t) n) ((rg 0 n).filter fun t => !covV vs t) = some true := by
    unfold law11_RunVetoed_10 law11_RunVetoed_11
    rw [cond_true, hq, hown, w64_id (by omega) (by omega)]
    have : (((cnT (covV vs) n : Nat) : Int) == (n : Int) - ((cnT (fun t => !covV vs t) n : Nat) : Int)) = true := by
     rw [beq_iff_eq]
     omega
    rw [this, cond_true, hw]
    rfl
   rcases hd with rfl | rfl
   ·have hv : vs = c2 := hvs
    subst hv
    rw [show ((0 : Int) == 0) = true from rfl, cond_true]
    unfold law11_RunVetoed_9
    rw [hq, eD, bnd_eq]
    show (bif ((0 : Int) == 0) then _ else _) = _
    rw [show ((0 : Int) == 0) = true from rfl, cond_true, eS, bnd_eq]
    exact fin
   ·have hv : vs = c3 := hvs
    subst hv
    rw [show ((1 : Int) == 0) = false from rfl, cond_false, show ((1 : Int) == 1) = true from rfl, cond_true]
    unfold law11_RunVetoed_13
    rw [hq, eD, bnd_eq]
    show (bif ((0 : Int) == 0) then _ else _) = _
    rw [show ((0 : Int) == 0) = true from rfl, cond_true, eS, bnd_eq]
    exact fin
end
theorem law_eq (F : Nat) (a : S_api_Plan) (x : Int) (hF : 1000 < F) (hw : works F = some true) : law11_RunVetoed F a x = some true := by
 obtain ⟨d, hd, hd1, hd2⟩ := Mod_ex F x 2 (by omega) (by omega)
 have hdd : d = 0 ∨ d = 1 := by omega
 obtain ⟨r, hr, hr1, hr2⟩ := Check_ex F hF (S_api_Plan.mk a.Duties [] a.Vetoes a.Data)
 unfold law11_RunVetoed run_Quiet
 rw [hd, bnd_eq]
 by_cases h : r = 0
 ·subst h
  have g := hr2 rfl
  have top := g.top
  have one := g.one
  have hq := quiet_eq F hF (planO (S_api_Plan.mk a.Duties [] a.Vetoes a.Data)) g rfl d hdd
  rw [det_ok F _ d hF hdd hr, bnd_eq, show (!((0 : Int) == 0)) = false from rfl, cond_false]
  show bnd (bnd (run_plan_quiet F (planO (S_api_Plan.mk a.Duties [] a.Vetoes a.Data)) d) _) _ = _
  rw [hq, bnd_eq, bnd_eq]
  show (bif (!((0 : Int) == 0)) then _ else law11_RunVetoed_2 F F d ((0 : Nat) : Int) a.Duties a.Vetoes.e0 a.Vetoes.e1 a.Data.e0 a.Data.e1 (QL (fun t => !covV (vetoesOf (planO (S_api_Plan.mk a.Duties [] a.Vetoes a.Data)) d) t) a.Data.e0.length) ((rg 0 0).filter fun t => !covV (vetoesOf (planO (S_api_Plan.mk a.Duties [] a.Vetoes a.Data)) d) t)) = _
  rw [show (!((0 : Int) == 0)) = false from rfl, cond_false, lv2 _ _ _ _ _ F d _ a.Data.e0.length top a.Data.e0.length F 0 rfl (by omega) (by have : a.Data.e0.length ≤ 512 := top; omega)]
  have hv : VsOK F (vetoesOf (planO (S_api_Plan.mk a.Duties [] a.Vetoes a.Data)) d) := by
   rcases hdd with rfl | rfl
   ·exact ⟨g.v0.1, g.v0.2.1, g.v0.2.2⟩
   ·exact ⟨g.v1.1, g.v1.2.1, g.v1.2.2⟩
  have := lv4 a.Duties a.Vetoes.e0 a.Vetoes.e1 a.Data.e0 a.Data.e1 F hF hw d hdd (vetoesOf (planO (S_api_Plan.mk a.Duties [] a.Vetoes a.Data)) d) rfl hv a.Data.e0.length one top F 0 (by have : a.Data.e0.length ≤ 512 := top; omega) (by omega)
  rw [Nat.zero_min] at this
  exact this
 ·rw [det_bad F _ d r h hr, bnd_eq, show (!(r == 0)) = true by simp [h], cond_true, bnd_eq]
  show (bif (!(r == 0)) then _ else _) = _
  rw [show (!(r == 0)) = true by simp [h], cond_true]
  show bnd (works F) _ = _
  rw [hw]
  rfl
end Go.Ev.RunVetoed
