/- Vetoes, as the specification checks them. -/
import Derived.Test.YtjddbfpinjjkkaaGreatDoorGlitchVetoesMath8
namespace Go.Ev.GlitchVetoes
open Go Go.Ev Go.Proofs
set_option linter.unusedVariables false
theorem rIn (F : Nat) (a b c : Int) : ref00_In F a b c = some (inR b a c) := by
 unfold ref00_In inR ref00_In_1
 by_cases h : b ≤ a <;> simp [h]
theorem rseg1 (F : Nat) (nm : List UInt8) (l : List S_api_Segment) (hl : l.length ≤ 32) : ∀ (k N i : Nat), k = l.length - i → i ≤ l.length → k < N → ref06_veto_2 F N i nm l = some (sgsB (l.drop i))
 | k, 0, i, _, _, h => by omega
 | 0, N + 1, i, hk, hi, _ => by
  rw [ref06_veto_2, bif_neg' (by omega), List.drop_of_length_le (by omega : l.length ≤ i)]
  rfl
 | k + 1, N + 1, i, hk, hi, hN => by
  obtain ⟨x, hx⟩ := get_lt (l := l) (i := i) (by omega)
  have ih := rseg1 F nm l hl k N (i + 1) (by omega) (by omega) (by omega)
  have e0 : sgsB (x :: l.drop (i + 1)) = (sgB x && sgsB (l.drop (i + 1))) := rfl
  rw [ref06_veto_2, bif_pos' (by omega), idx_nat, hx, bnd_eq, drop_get hx, e0]
  unfold ref06_veto_3 ref06_veto_4 sgB
  rw [up (by omega), ih, lt_not x.From 0, lt_not x.From x.To, lt_not 1073741824 x.To]
  cases decide (0 ≤ x.From) <;> cases decide (x.To ≤ x.From) <;> cases decide (x.To ≤ 1073741824) <;> rfl
theorem rvt (F : Nat) (hF : 40 < F) (v : S_api_Veto) : ref06_veto F v = some (vtB v) := by
 unfold ref06_veto vtB ref06_veto_1
 rw [rname_eq F (by omega), bnd_eq]
 cases nameB v.Name with
 | false => rfl
 | true =>
  rw [lt_not 32]
  by_cases h : v.Segments.length ≤ 32
  ·have e : decide ((v.Segments.length : Int) ≤ 32) = true := decide_eq_true (by omega)
   rw [e]
   exact rseg1 F v.Name v.Segments h v.Segments.length F 0 rfl (by omega) (by omega)
  ·have e : decide ((v.Segments.length : Int) ≤ 32) = false := decide_eq_false (by omega)
   rw [e]
   rfl
def vtsA (l : List S_api_Veto) : Int := bif vtsB (fun _ => false) l && decide ((l.length : Int) ≤ 12) then 0 else 63
theorem cvt_v (F : Nat) (hF : 40 < F) (l : List S_api_Veto) : glitch_CheckVetoes F l = some (vtsA l) := by
 unfold glitch_CheckVetoes glitch_areVetoes vtsA
 by_cases h : l.length ≤ 12
 ·have := vet1v F hF l h l.length F 0 [] (fun _ => false) rfl (by omega) (by omega) (fun x => rfl)
  rw [List.drop_zero] at this
  have h' : glitch_areVetoes_1 F F l (l.length : Int) (0 : Int) [] = _ := this
  rw [bif_neg' (by omega), h', bnd_eq, decide_eq_true (by omega : (l.length : Int) ≤ 12), Bool.and_true]
  cases vtsB (fun _ => false) l <;> rfl
 ·rw [bif_pos' (by omega), decide_eq_false (by omega : ¬ (l.length : Int) ≤ 12), Bool.and_false]
  rfl
def metB (l : List S_api_Veto) (x : List UInt8) : Bool := l.any fun u => u.Name == x
theorem rcv2 (F : Nat) (hd : List S_api_Veto → Int → Option Int) (l : List S_api_Veto) (hl : l.length ≤ 12) (i : Nat) (x : S_api_Veto) (hx : l[i]? = some x) : ∀ (k N j : Nat), k = i - j → j ≤ i → k < N → ref06_CheckVetoes_2 F hd N l i j = bif metB ((l.take i).drop j) x.Name then some 63 else hd l (w64 ((i : Int) + 1))
 | k, 0, j, _, _, h => by omega
 | 0, N + 1, j, hk, hj, _ => by
  have hi : i < l.length := (List.getElem?_eq_some_iff.1 hx).1
  rw [ref06_CheckVetoes_2, bif_neg' (by omega), List.drop_of_length_le (by rw [List.length_take]; omega)]
  rfl
 | k + 1, N + 1, j, hk, hj, hN => by
  have hi : i < l.length := (List.getElem?_eq_some_iff.1 hx).1
  obtain ⟨y, hy⟩ := get_lt (l := l) (i := j) (by omega)
  have hy' : (l.take i)[j]? = some y := by rw [List.getElem?_take_of_lt (by omega)]; exact hy
  have ih := rcv2 F hd l hl i x hx k N (j + 1) (by omega) (by omega) (by omega)
  have e : metB (y :: (l.take i).drop (j + 1)) x.Name = (y.Name == x.Name || metB ((l.take i).drop (j + 1)) x.Name) := rfl
  rw [ref06_CheckVetoes_2, bif_pos' (by omega), idx_nat, hy, bnd_eq, idx_nat, hx, bnd_eq, up (by omega : j < 9223372036854775807), ih, drop_get hy', e]
  cases y.Name == x.Name <;> rfl
theorem rcv1 (F : Nat) (hF : 40 < F) (l : List S_api_Veto) (hl : l.length ≤ 12) : ∀ (k N i : Nat) (f : List UInt8 → Bool), k = l.length - i → i ≤ l.length → k < N → (∀ x, f x = metB (l.take i) x) → ref06_CheckVetoes_1 F N l i = some (bif vtsB f (l.drop i) then 0 else 63)
 | k, 0, i, f, _, _, h, _ => by omega
 | 0, N + 1, i, f, hk, hi, _, _ => by
  rw [ref06_CheckVetoes_1, bif_neg' (by omega), List.drop_of_length_le (by omega : l.length ≤ i)]
  rfl
 | k + 1, N + 1, i, f, hk, hi, hN, hf => by
  obtain ⟨x, hx⟩ := get_lt (l := l) (i := i) (by omega)
  have ih := rcv1 F hF l hl k N (i + 1) (fun y => bif eqB y x.Name then true else f y) (by omega) (by omega) (by omega) (fun y => by
   have e : l.take (i + 1) = l.take i ++ [x] := by
    rw [List.take_add_one, hx]
    rfl
   have e2 : (x.Name == y) = (y == x.Name) := BEq.comm
   show (bif y == x.Name then true else f y) = _
   rw [e, hf]
   unfold metB
   rw [List.any_append, List.any_cons, List.any_nil, Bool.or_false, e2]
   cases y == x.Name <;> cases (l.take i).any (fun u => u.Name == y) <;> rfl)
  have h2 := rcv2 F (ref06_CheckVetoes_1 F N) l hl i x hx i F 0 rfl (by omega) (by omega)
  rw [List.drop_zero, ← hf, up (by omega), ih] at h2
  have h2' : ref06_CheckVetoes_2 F (ref06_CheckVetoes_1 F N) F l (i : Int) (0 : Int) = _ := h2
  have e0 : vtsB f (x :: l.drop (i + 1)) = ((vtB x && !f x.Name) && vtsB (fun y => bif eqB y x.Name then true else f y) (l.drop (i + 1))) := rfl
  rw [ref06_CheckVetoes_1, bif_pos' (by omega), idx_nat, hx, bnd_eq, rvt F hF, bnd_eq, h2', drop_get hx, e0]
  cases vtB x <;> cases f x.Name <;> rfl
theorem rcv (F : Nat) (hF : 40 < F) (l : List S_api_Veto) : ref06_CheckVetoes F l = some (vtsA l) := by
 unfold ref06_CheckVetoes vtsA
 by_cases h : l.length ≤ 12
 ·rw [bif_neg' (by omega), decide_eq_true (by omega : (l.length : Int) ≤ 12), Bool.and_true]
  exact rcv1 F hF l h l.length F 0 (fun _ => false) rfl (by omega) (by omega) (fun x => rfl)
 ·rw [bif_pos' (by omega), decide_eq_false (by omega : ¬ (l.length : Int) ≤ 12), Bool.and_false]
  rfl
theorem vtsA_eq (l : List S_api_Veto) : vtsA l = bif vA l then 0 else 63 := rfl
theorem rspan (F : Nat) (hF : 40 < F) (l : List S_api_Veto) (n : Int) : ref06_spanned F l n = some (bif vA l then (bif inR 1 n 1073741824 then 0 else 8) else 63) := by
 unfold ref06_spanned
 rw [rcv F hF, vtsA_eq, bnd_eq]
 cases vA l with
 | false => rfl
 | true =>
  show (bif (!((0 : Int) == 0)) then _ else _) = _
  rw [show (!((0 : Int) == 0)) = false from rfl, cond_false, rIn, bnd_eq]
  cases inR 1 n 1073741824 <;> rfl
end Go.Ev.GlitchVetoes
namespace Go.Ev.GlitchVetoes
open Go Go.Ev Go.Proofs
set_option linter.unusedVariables false
theorem radd1 (F : Nat) (l : List S_api_Segment) (hl : l.length ≤ 1000) : ∀ (k N i : Nat) (d : Bool) (s : S_api_Segment) (acc : List S_api_Segment), k = l.length - i → i ≤ l.length → k < N → acc.length ≤ 2 * i → ref06_add_1 F N l d i s acc = some (acc ++ addR (l.drop i) s d)
 | k, 0, i, d, s, acc, _, _, h, _ => by omega
 | 0, N + 1, i, d, s, acc, hk, hi, _, ha => by
  rw [ref06_add_1, bif_neg' (by omega), List.drop_of_length_le (by omega : l.length ≤ i), addR]
  unfold ref06_add_4
  cases d with
  | false => rw [Bool.not_false, cond_true, apd_ok (by simp; omega) (by omega), bnd_eq]; rfl
  | true => rw [Bool.not_true, cond_false, if_pos rfl, List.append_nil]
 | k + 1, N + 1, i, d, s, acc, hk, hi, hN, ha => by
  obtain ⟨x, hx⟩ := get_lt (l := l) (i := i) (by omega)
  rw [ref06_add_1, bif_pos' (by omega), idx_nat, hx, bnd_eq, drop_get hx, addR]
  by_cases h1 : x.To < s.From
  ·rw [bif_pos' h1, if_pos h1, bnd_eq, apd_ok (by simp; omega) (by omega), bnd_eq]
   unfold ref06_add_2
   rw [up (by omega), radd1 F l hl k N (i + 1) d s _ (by omega) (by omega) (by omega) (by simp; omega), List.append_assoc]
   rfl
  ·rw [bif_neg' h1, if_neg h1, bnd_eq]
   by_cases h2 : s.To < x.From
   ·rw [bif_pos' h2, if_pos h2]
    unfold ref06_add_3 ref06_add_2
    cases d with
    | false =>
     rw [Bool.not_false, cond_true, apd_ok (by simp; omega) (by omega), bnd_eq, idx_nat, hx, bnd_eq, apd_ok (by simp; omega) (by omega), bnd_eq, up (by omega), radd1 F l hl k N (i + 1) true s _ (by omega) (by omega) (by omega) (by simp; omega), if_neg (by decide), List.append_assoc, List.append_assoc]
     rfl
    | true =>
     rw [Bool.not_true, cond_false, idx_nat, hx, bnd_eq, apd_ok (by simp; omega) (by omega), bnd_eq, up (by omega), radd1 F l hl k N (i + 1) true s _ (by omega) (by omega) (by omega) (by simp; omega), if_pos rfl, List.append_assoc]
     rfl
   ·rw [bif_neg' h2, if_neg h2, bnd_eq, bnd_eq]
    unfold ref06_add_2
    rw [up (by omega)]
    exact radd1 F l hl k N (i + 1) d _ acc (by omega) (by omega) (by omega) (by omega)
theorem radd (F : Nat) (hF : 1000 < F) (l : List S_api_Segment) (hl : l.length ≤ 480) (s : S_api_Segment) : ref06_add F l s = some (addR l s false) := by
 have := radd1 F l (by omega) l.length F 0 false s [] rfl (by omega) (by omega) (by simp)
 rw [List.drop_zero, List.nil_append] at this
 exact this
def heldR (n : Int) : List S_api_Segment → List S_api_Segment → List S_api_Segment
 | [], acc => acc
 | s :: r, acc => heldR n r (if s.From < n then addR acc ⟨s.From, min s.To n⟩ false else acc)
theorem heldR_len (n : Int) : ∀ (l acc : List S_api_Segment), (heldR n l acc).length ≤ acc.length + l.length
 | [], acc => by rw [heldR]; simp
 | s :: r, acc => by
  rw [heldR]
  have := heldR_len n r (if s.From < n then addR acc ⟨s.From, min s.To n⟩ false else acc)
  have h2 : (if s.From < n then addR acc ⟨s.From, min s.To n⟩ false else acc).length ≤ acc.length + 1 := by
   split
   ·exact addR_len _ _ _
   ·omega
  simp
  omega
theorem heldR_app (n : Int) : ∀ (a b acc : List S_api_Segment), heldR n (a ++ b) acc = heldR n b (heldR n a acc)
 | [], b, acc => rfl
 | s :: r, b, acc => by rw [List.cons_append, heldR, heldR, heldR_app n r b]
theorem heldR_sep (n : Int) : ∀ (l acc : List S_api_Segment), (∀ s ∈ l, 0 ≤ s.From ∧ s.From < s.To) → SepF (-1) acc → (∀ s ∈ acc, InS n s) → SepF (-1) (heldR n l acc) ∧ (∀ s ∈ heldR n l acc, InS n s) ∧ ∀ t, t < n → covL (heldR n l acc) t = (covL acc t || covL l t)
 | [], acc, _, h1, h2 => ⟨h1, h2, fun t ht => by rw [heldR]; show covL acc t = (covL acc t || false); rw [Bool.or_false]⟩
 | s :: r, acc, h, h1, h2 => by
  obtain ⟨a1, a2⟩ := h s List.mem_cons_self
  have hr : ∀ z ∈ r, 0 ≤ z.From ∧ z.From < z.To := fun z hz => h z (List.mem_cons_of_mem _ hz)
  have ec : ∀ t, covL (s :: r) t = (covS s t || covL r t) := fun _ => rfl
  rw [heldR]
  split
  ·rename_i g
   obtain ⟨i1, i2⟩ := addR_sep acc ⟨s.From, min s.To n⟩ (-1) h1 (fun z hz => (h2 z hz).2.1) (by show -1 < s.From; omega) (by show s.From < min s.To n; omega)
   have i3 := addR_in n acc ⟨s.From, min s.To n⟩ false h2 ⟨a1, by show s.From < min s.To n; omega, by show min s.To n ≤ n; omega⟩
   obtain ⟨q1, q2, q3⟩ := heldR_sep n r _ hr i1 i3
   refine ⟨q1, q2, fun t ht => ?_⟩
   rw [q3 t ht, i2, ec]
   have e : covS (S_api_Segment.mk s.From (min s.To n)) t = covS s t := by
    unfold covS
    rw [Bool.eq_iff_iff]
    simp
    omega
   rw [e]
   cases covS s t <;> cases covL acc t <;> rfl
  ·rename_i g
   obtain ⟨q1, q2, q3⟩ := heldR_sep n r acc hr h1 h2
   refine ⟨q1, q2, fun t ht => ?_⟩
   have e : covS s t = false := by
    unfold covS
    rw [Bool.eq_false_iff]
    simp
    omega
   rw [q3 t ht, ec, e, Bool.false_or]
theorem heldR_eq (n : Int) (l : List S_api_Segment) (h : ∀ s ∈ l, 0 ≤ s.From ∧ s.From < s.To) : heldR n l [] = heldL n l := by
 obtain ⟨q1, q2, q3⟩ := heldR_sep n l [] h trivial (fun s hs => nomatch hs)
 obtain ⟨g1, g2, g3⟩ := held_sep n l (fun s hs => (h s hs).1)
 refine sep_uniq _ _ (-1) q1 g3 (fun s hs => (q2 s hs).2.1) (fun s hs => (g1 s hs).2.1) fun t ht => ?_
 by_cases hn : t < n
 ·rw [q3 t hn, g2 t hn]
  rfl
 ·have hiF : ∀ q : List S_api_Segment, (∀ s ∈ q, InS n s) → covL q t = false := fun q hq => by
   unfold covL
   rw [List.any_eq_false]
   intro s hs hc
   have := (hq s hs).2.2
   unfold covS at hc
   simp at hc
   omega
  rw [hiF _ q2, hiF _ g1]
theorem rheld1 (F : Nat) (hF : 1000 < F) (n : Int) (nm : List UInt8) (l : List S_api_Segment) (hl : l.length ≤ 32) : ∀ (k N i : Nat) (acc : List S_api_Segment), k = l.length - i → i ≤ l.length → k < N → acc.length ≤ i → ref06_Held_1 F N n i nm l acc = some (heldR n (l.drop i) acc, 0)
 | k, 0, i, acc, _, _, h, _ => by omega
 | 0, N + 1, i, acc, hk, hi, _, _ => by
  rw [ref06_Held_1, bif_neg' (by omega), List.drop_of_length_le (by omega : l.length ≤ i)]
  rfl
 | k + 1, N + 1, i, acc, hk, hi, hN, ha => by
  obtain ⟨x, hx⟩ := get_lt (l := l) (i := i) (by omega)
  rw [ref06_Held_1, bif_pos' (by omega), idx_nat, hx, bnd_eq, drop_get hx, heldR]
  unfold ref06_Held_2
  rw [up (by omega)]
  by_cases h : x.From < n
  ·have := addR_len acc ⟨x.From, min x.To n⟩ false
   rw [bif_pos' h, if_pos h, radd F hF acc (by omega), bnd_eq]
   exact rheld1 F hF n nm l hl k N (i + 1) _ (by omega) (by omega) (by omega) (by omega)
  ·rw [bif_neg' h, if_neg h]
   exact rheld1 F hF n nm l hl k N (i + 1) acc (by omega) (by omega) (by omega) (by omega)
theorem rHeld_v (F : Nat) (hF : 1000 < F) (v : S_api_Veto) (n : Int) : ref06_Held F v n = glitch_Held F v n := by
 rw [Held_v F (by omega)]
 unfold ref06_Held
 rw [rspan F (by omega), bnd_eq]
 cases ev : vA [v] with
 | false => rfl
 | true =>
  cases en : inR 1 n 1073741824 with
  | false => rfl
  | true =>
   have h := (vsok ev).all v List.mem_cons_self
   have h1 := rheld1 F hF n v.Name v.Segments h.len v.Segments.length F 0 [] rfl (by omega) (by have := h.len; omega) (by simp)
   rw [List.drop_zero, heldR_eq n v.Segments (fun s hs => ⟨(h.all s hs).1, (h.all s hs).2.1⟩)] at h1
   exact h1
theorem rlen1 (F : Nat) (n : Int) (hn : n ≤ 1073741824) (h : List S_api_Segment) (hh : h.length ≤ 480) (hi : ∀ s ∈ h, InS n s) : ∀ (k N i : Nat) (s : Int), k = h.length - i → i ≤ h.length → k < N → 0 ≤ s → s ≤ 1073741824 * i → ref06_length_1 F N h s i = some (s + totS (h.drop i))
 | k, 0, i, s, _, _, g, _, _ => by omega
 | 0, N + 1, i, s, hk, hi', _, _, _ => by
  rw [ref06_length_1, bif_neg' (by omega), List.drop_of_length_le (by omega : h.length ≤ i)]
  simp [totS]
 | k + 1, N + 1, i, s, hk, hi', hN, h0, h1 => by
  obtain ⟨x, hx⟩ := get_lt (l := h) (i := i) (by omega)
  obtain ⟨a1, a2, a3⟩ := hi x (List.mem_of_getElem? hx)
  have e : totS (x :: h.drop (i + 1)) = (x.To - x.From) + totS (h.drop (i + 1)) := by
   unfold totS
   simp only [List.map_cons, List.sum_cons]
  rw [ref06_length_1, bif_pos' (by omega), idx_nat, hx, bnd_eq, bnd_eq, drop_get hx, e, w64_id (n := x.To - x.From) (by omega) (by omega), w64_id (n := s + (x.To - x.From)) (by omega) (by omega), up (by omega), rlen1 F n hn h hh hi k N (i + 1) _ (by omega) (by omega) (by omega) (by omega) (by omega)]
  congr 1
  omega
theorem rlen (F : Nat) (hF : 500 < F) (n : Int) (hn : n ≤ 1073741824) (h : List S_api_Segment) (hh : h.length ≤ 480) (hi : ∀ s ∈ h, InS n s) : ref06_length F h = some (totS h) := by
 have := rlen1 F n hn h hh hi h.length F 0 0 rfl (by omega) (by omega) (Int.le_refl _) (by omega)
 rw [List.drop_zero, Int.zero_add] at this
 exact this
theorem rded2 (F : Nat) (hF : 1000 < F) (hd : (List S_api_Veto) → Int → Int → (List S_api_Segment) → Option (Int × Int)) (n : Int) (v0 : List S_api_Veto) (v8 : Int) (nm : List UInt8) (l : List S_api_Segment) (hl : l.length ≤ 32) (b : Nat) (hb : b ≤ 416) : ∀ (k N i : Nat) (acc : List S_api_Segment), k = l.length - i → i ≤ l.length → k < N → acc.length ≤ b + i → ref06_Dead_2 F hd N n i v0 n v8 nm l acc = hd v0 n (w64 (v8 + 1)) (heldR n (l.drop i) acc)
 | k, 0, i, acc, _, _, h, _ => by omega
 | 0, N + 1, i, acc, hk, hi, _, _ => by
  rw [ref06_Dead_2, bif_neg' (by omega), List.drop_of_length_le (by omega : l.length ≤ i)]
  rfl
 | k + 1, N + 1, i, acc, hk, hi, hN, ha => by
  obtain ⟨x, hx⟩ := get_lt (l := l) (i := i) (by omega)
  rw [ref06_Dead_2, bif_pos' (by omega), idx_nat, hx, bnd_eq, drop_get hx, heldR]
  unfold ref06_Dead_3
  rw [up (by omega)]
  by_cases h : x.From < n
  ·have := addR_len acc ⟨x.From, min x.To n⟩ false
   rw [bif_pos' h, if_pos h, radd F hF acc (by omega), bnd_eq]
   exact rded2 F hF hd n v0 v8 nm l hl b hb k N (i + 1) _ (by omega) (by omega) (by omega) (by omega)
  ·rw [bif_neg' h, if_neg h]
   exact rded2 F hF hd n v0 v8 nm l hl b hb k N (i + 1) acc (by omega) (by omega) (by omega) (by omega)
theorem rded1 (F : Nat) (hF : 1000 < F) (n : Int) (hn : n ≤ 1073741824) (l : List S_api_Veto) (h : VsOK l) : ∀ (k N i : Nat) (acc : List S_api_Segment), k = l.length - i → i ≤ l.length → k < N → acc.length ≤ 32 * i → heldR n (segs (l.drop i)) acc = heldL n (segs l) → ref06_Dead_1 F N l n i acc = some (ddL n l, 0)
 | k, 0, i, acc, _, _, g, _, _ => by omega
 | 0, N + 1, i, acc, hk, hi, _, ha, he => by
  have hlen := h.len
  rw [List.drop_of_length_le (by omega : l.length ≤ i)] at he
  have he' : acc = heldL n (segs l) := he
  subst he'
  obtain ⟨g1, g2, g3⟩ := held_sep n (segs l) (fun s hs => (segs_in h.all s hs).1)
  rw [ref06_Dead_1, bif_neg' (by omega), rlen F (by omega) n hn _ (by omega) g1, bnd_eq]
  rfl
 | k + 1, N + 1, i, acc, hk, hi, hN, ha, he => by
  have hlen := h.len
  obtain ⟨x, hx⟩ := get_lt (l := l) (i := i) (by omega)
  have hxl := (h.all x (List.mem_of_getElem? hx)).len
  have es : segs (x :: l.drop (i + 1)) = x.Segments ++ segs (l.drop (i + 1)) := List.flatMap_cons
  rw [drop_get hx, es, heldR_app] at he
  have := heldR_len n x.Segments acc
  have h2 := rded2 F hF (ref06_Dead_1 F N) n l i x.Name x.Segments hxl (32 * i) (by omega) x.Segments.length F 0 acc rfl (by omega) (by omega) (by omega)
  rw [List.drop_zero, up (by omega)] at h2
  rw [ref06_Dead_1, bif_pos' (by omega), idx_nat, hx, bnd_eq]
  refine Eq.trans h2 ?_
  exact rded1 F hF n hn l h k N (i + 1) _ (by omega) (by omega) (by omega) (by omega) he
theorem rDead_v (F : Nat) (hF : 1000 < F) (l : List S_api_Veto) (n : Int) : ref06_Dead F l n = glitch_Dead F l n := by
 rw [Dead_v F hF]
 unfold ref06_Dead
 rw [rspan F (by omega), bnd_eq]
 cases ev : vA l with
 | false => rfl
 | true =>
  cases en : inR 1 n 1073741824 with
  | false => rfl
  | true =>
   have h := vsok ev
   exact rded1 F hF n (inR_iff.1 en).2 l h l.length F 0 [] rfl (by omega) (by have := h.len; omega) (by simp) (heldR_eq n (segs l) (fun s hs => ⟨(segs_in h.all s hs).1, (segs_in h.all s hs).2.1⟩))
theorem rhol1 (F : Nat) (nm : List UInt8) (l : List S_api_Segment) (hl : l.length ≤ 32) (t : Int) : ∀ (k N i : Nat), k = l.length - i → i ≤ l.length → k < N → ref06_holds_1 F N t i nm l = some (covL (l.drop i) t)
 | k, 0, i, _, _, h => by omega
 | 0, N + 1, i, hk, hi, _ => by
  rw [ref06_holds_1, bif_neg' (by omega), List.drop_of_length_le (by omega : l.length ≤ i)]
  rfl
 | k + 1, N + 1, i, hk, hi, hN => by
  obtain ⟨x, hx⟩ := get_lt (l := l) (i := i) (by omega)
  have e : covL (x :: l.drop (i + 1)) t = ((decide (x.From ≤ t) && decide (t < x.To)) || covL (l.drop (i + 1)) t) := rfl
  rw [ref06_holds_1, bif_pos' (by omega), idx_nat, hx, bnd_eq, drop_get hx, e]
  unfold ref06_holds_2
  rw [up (by omega), rhol1 F nm l hl t k N (i + 1) (by omega) (by omega) (by omega), bnd_eq]
  cases decide (x.From ≤ t) <;> cases decide (t < x.To) <;> rfl
theorem rpas1 (F : Nat) (hF : 300 < F) (nm : List UInt8) (l : List S_api_Segment) (hl : l.length ≤ 32) (ts : List Int) (ht : ts.length ≤ 256) : ∀ (k N i : Nat) (acc : List Int), k = ts.length - i → i ≤ ts.length → k < N → acc.length ≤ i → ref06_passed_1 F N ts i nm l acc = some (acc ++ (ts.drop i).filter (fun t => !covL l t))
 | k, 0, i, acc, _, _, h, _ => by omega
 | 0, N + 1, i, acc, hk, hi, _, _ => by
  rw [ref06_passed_1, bif_neg' (by omega), List.drop_of_length_le (by omega : ts.length ≤ i)]
  simp
 | k + 1, N + 1, i, acc, hk, hi, hN, hacc => by
  obtain ⟨x, hx⟩ := get_lt (l := ts) (i := i) (by omega)
  have h1 := rhol1 F nm l hl x l.length F 0 rfl (by omega) (by omega)
  rw [List.drop_zero] at h1
  have h2 : ref06_holds F (S_api_Veto.mk nm l) x = some (covL l x) := h1
  rw [ref06_passed_1, bif_pos' (by omega), idx_nat, hx, bnd_eq, h2, bnd_eq, drop_get hx]
  unfold ref06_passed_2
  rw [up (by omega)]
  cases e : covL l x with
  | false => rw [Bool.not_false, cond_true, bnd_eq, apd_ok (by simp; omega) (by omega), bnd_eq, rpas1 F hF nm l hl ts ht k N (i + 1) _ (by omega) (by omega) (by omega) (by simp; omega), List.filter_cons_of_pos (by simp [e]), List.append_assoc]; rfl
  | true => rw [Bool.not_true, cond_false, rpas1 F hF nm l hl ts ht k N (i + 1) _ (by omega) (by omega) (by omega) (by omega), List.filter_cons_of_neg (by simp [e])]
theorem rpassed_v (F : Nat) (hF : 300 < F) (v : S_api_Veto) (hv : VOK v) (ts : List Int) (ht : ts.length ≤ 256) : ref06_passed F v ts = some (pasL [v] ts) := by
 have := rpas1 F hF v.Name v.Segments hv.len ts ht ts.length F 0 [] rfl (by omega) (by omega) (by simp)
 rw [List.drop_zero, List.nil_append] at this
 have e : pasL [v] ts = ts.filter (fun t => !covL v.Segments t) := by
  unfold pasL
  congr 1
  funext t
  show (!(covL v.Segments t || false)) = _
  rw [Bool.or_false]
 rw [e]
 exact this
theorem rPas1 (F : Nat) (hF : 300 < F) (l : List S_api_Veto) (h : VsOK l) (ts : List Int) (ht : ts.length ≤ 256) : ∀ (k N i : Nat), k = l.length - i → i ≤ l.length → k < N → ref06_Passed_1 F N l i (pasL (l.take i) ts) = some (pasL l ts, 0)
 | k, 0, i, _, _, g => by omega
 | 0, N + 1, i, hk, hi, _ => by
  rw [ref06_Passed_1, bif_neg' (by omega), List.take_of_length_le (by omega)]
 | k + 1, N + 1, i, hk, hi, hN => by
  have hlen := h.len
  obtain ⟨x, hx⟩ := get_lt (l := l) (i := i) (by omega)
  have ih := rPas1 F hF l h ts ht k N (i + 1) (by omega) (by omega) (by omega)
  have hp : (pasL (l.take i) ts).length ≤ 256 := Nat.le_trans (List.length_filter_le _ _) ht
  have e : pasL [x] (pasL (l.take i) ts) = pasL (l.take (i + 1)) ts := by
   unfold pasL
   rw [List.filter_filter, List.take_add_one, hx]
   congr 1
   funext t
   have : covV (l.take i ++ (some x).toList) t = (covV (l.take i) t || covV [x] t) := by
    unfold covV
    rw [List.any_append]
    rfl
   rw [this]
   cases covV (l.take i) t <;> cases covV [x] t <;> rfl
  rw [ref06_Passed_1, bif_pos' (by omega), idx_nat, hx, bnd_eq, rpassed_v F hF x (h.all x (List.mem_of_getElem? hx)) _ hp, bnd_eq, up (by omega), e]
  exact ih
theorem rtim1 (F : Nat) (ts : List Int) (hl : ts.length ≤ 9223372036854775807) : ∀ (k N i : Nat) (last : Int), k = ts.length - i → i ≤ ts.length → k < N → (i = 0 ∧ last = -1 ∨ 0 < i ∧ ts[i - 1]? = some last ∧ 0 ≤ last) → ref06_times_1 F N ts i = some (tmB last (ts.drop i) && decide ((ts.length : Int) ≤ 256))
 | k, 0, i, last, _, _, h, _ => by omega
 | 0, N + 1, i, last, hk, hi, _, _ => by
  rw [ref06_times_1, bif_neg' (by omega), List.drop_of_length_le (by omega : ts.length ≤ i)]
  rfl
 | k + 1, N + 1, i, last, hk, hi, hN, hp => by
  obtain ⟨x, hx⟩ := get_lt (l := ts) (i := i) (by omega)
  have e : tmB last (x :: ts.drop (i + 1)) = (inR (last + 1) x 1073741824 && tmB x (ts.drop (i + 1))) := rfl
  rw [ref06_times_1, bif_pos' (by omega), idx_nat, hx, bnd_eq, rIn, bnd_eq, drop_get hx, e]
  unfold ref06_times_2
  rw [up (by omega)]
  cases eb : inR 0 x 1073741824 with
  | false =>
   have h1 := inR_false.1 eb
   have h2 : inR (last + 1) x 1073741824 = false := inR_false.2 (by omega)
   rw [h2]
   rfl
  | true =>
   have h1 := inR_iff.1 eb
   have ih := rtim1 F ts hl k N (i + 1) x (by omega) (by omega) (by omega) (.inr ⟨by omega, by simpa using hx, h1.1⟩)
   rw [Bool.not_true, cond_false, ih]
   rcases hp with ⟨rfl, rfl⟩ | ⟨hi0, hpr, hp0⟩
   ·have h2 : inR (-1 + 1) x 1073741824 = true := inR_iff.2 ⟨by omega, by omega⟩
    rw [bif_neg' (by omega), h2]
    rfl
   ·have ej : w64 ((i : Int) - 1) = ((i - 1 : Nat) : Int) := by
     rw [w64_id (by omega) (by omega)]
     omega
    rw [bif_pos' (by omega), ej, idx_nat, hpr, bnd_eq, bnd_eq]
    by_cases hlt : x ≤ last
    ·have h2 : inR (last + 1) x 1073741824 = false := inR_false.2 (by omega)
     rw [decide_eq_true hlt, h2]
     rfl
    ·have h2 : inR (last + 1) x 1073741824 = true := inR_iff.2 ⟨by omega, by omega⟩
     rw [decide_eq_false hlt, h2]
     rfl
theorem rPassed_v (F : Nat) (l : List S_api_Veto) (ts : List Int) (hts : ts.length ≤ 9223372036854775807) (hF : 1000 + ts.length < F) : ref06_Passed F l ts = glitch_Passed F l ts := by
 rw [Passed_v F (by omega)]
 unfold ref06_Passed
 rw [rcv F (by omega), vtsA_eq, bnd_eq]
 cases ev : vA l with
 | false => rfl
 | true =>
  have et : ref06_times F ts = some (tA ts) := by
   have := rtim1 F ts hts ts.length F 0 (-1) rfl (by omega) (by omega) (.inl ⟨rfl, rfl⟩)
   rw [List.drop_zero] at this
   exact this
  show (bif (!((0 : Int) == 0)) then _ else _) = _
  rw [show (!((0 : Int) == 0)) = false from rfl, cond_false, et, bnd_eq]
  cases eT : tA ts with
  | false => rfl
  | true =>
   have h := vsok ev
   have ht : ts.length ≤ 256 := by
    unfold tA at eT
    simp only [Bool.and_eq_true, decide_eq_true_eq] at eT
    omega
   unfold ref00_OwnInts
   rw [Bool.not_true, cond_false, apd_ok (by simp; omega) (by omega), bnd_eq, bnd_eq, List.nil_append]
   have := rPas1 F (by omega) l h ts ht l.length F 0 rfl (by omega) (by have := h.len; omega)
   have e0 : pasL (l.take 0) ts = ts := by
    unfold pasL
    rw [List.take_zero]
    exact List.filter_eq_self.2 fun _ _ => rfl
   rw [e0] at this
   exact this
end Go.Ev.GlitchVetoes
namespace Go.Ev.GlitchVetoes
open Go Go.Ev Go.Proofs
set_option linter.unusedVariables false
theorem same1 (F : Nat) (l : List Int) (hl : l.length ≤ 1000) : ∀ (k N i : Nat), k = l.length - i → i ≤ l.length → k < N → ref00_SameInts_1 F N l l i = some true
 | k, 0, i, _, _, h => by omega
 | 0, N + 1, i, hk, hi, _ => by rw [ref00_SameInts_1, bif_neg' (by omega)]
 | k + 1, N + 1, i, hk, hi, hN => by
  obtain ⟨x, hx⟩ := get_lt (l := l) (i := i) (by omega)
  rw [ref00_SameInts_1, bif_pos' (by omega), idx_nat, hx, bnd_eq, bnd_eq, beq_self_eq_true, Bool.not_true, cond_false, up (by omega)]
  exact same1 F l hl k N (i + 1) (by omega) (by omega) (by omega)
theorem same_ok (F : Nat) (hF : 1000 < F) (l : List Int) (hl : l.length ≤ 1000) : ref00_SameInts F l l = some true := by
 unfold ref00_SameInts
 rw [beq_self_eq_true, Bool.not_true, cond_false]
 exact same1 F l hl l.length F 0 rfl (by omega) (by omega)
theorem gv4 (F : Nat) (hd : (List S_api_Veto) → Int → (List Int) → Int → Option (Bool)) (l : List S_api_Veto) (j : Int) (ts : List Int) (n : Int) (h : List S_api_Segment) (hh : h.length ≤ 1000) : ∀ (k N i : Nat), k = h.length - i → i ≤ h.length → k < N → law06_GlitchVetoes_4 F hd N l j i ts n h h = hd l (w64 (j + 1)) ts n
 | k, 0, i, _, _, g => by omega
 | 0, N + 1, i, hk, hi, _ => by rw [law06_GlitchVetoes_4, bif_neg' (by omega)]
 | k + 1, N + 1, i, hk, hi, hN => by
  obtain ⟨x, hx⟩ := get_lt (l := h) (i := i) (by omega)
  rw [law06_GlitchVetoes_4, bif_pos' (by omega), idx_nat, hx, bnd_eq, bnd_eq, beq_self_eq_true, beq_self_eq_true]
  show (bif false then _ else _) = _
  rw [cond_false, up (by omega)]
  exact gv4 F hd l j ts n h hh k N (i + 1) (by omega) (by omega) (by omega)
theorem gvE (F : Nat) (hw : works F = some true) (l : List S_api_Veto) (ts : List Int) (n : Int) (hts : ts.length ≤ 9223372036854775807) (hF : 1000 + ts.length < F) (hd : (List S_api_Veto) → Int → (List Int) → Int → Option (Bool)) (j : Int) : law06_GlitchVetoes_2 F hd l j false ts n = some true := by
 unfold law06_GlitchVetoes_2
 rw [cond_false, rDead_v F (by omega), Dead_v F (by omega), bnd_eq, bnd_eq, beq_self_eq_true, beq_self_eq_true]
 show (bif false then _ else law06_GlitchVetoes_5 F l false ts n) = _
 rw [cond_false]
 unfold law06_GlitchVetoes_5
 rw [cond_false, rPassed_v F l ts hts hF, Passed_v F (by omega), bnd_eq, bnd_eq]
 have hs : ∀ p : List Int × Int, p.1.length ≤ 256 → bnd (ref00_SameInts F p.1 p.1) (fun r69 => bif r69 then law06_GlitchVetoes_6 F (p.2 == p.2) else law06_GlitchVetoes_6 F false) = some true := fun p hp => by
  rw [same_ok F (by omega) p.1 (by omega), bnd_eq, cond_true, beq_self_eq_true]
  unfold law06_GlitchVetoes_6
  rw [cond_true, hw]
  rfl
 refine hs _ ?_
 cases vA l with
 | false => simp
 | true =>
  cases eT : tA ts with
  | false => simp
  | true =>
   have ht : ts.length ≤ 256 := by
    unfold tA at eT
    simp only [Bool.and_eq_true, decide_eq_true_eq] at eT
    omega
   exact Nat.le_trans (List.length_filter_le _ _) ht
theorem gv1 (F : Nat) (hw : works F = some true) (l : List S_api_Veto) (ts : List Int) (n : Int) (hts : ts.length ≤ 9223372036854775807) (hF : 1000 + ts.length < F) : ∀ (k N i : Nat), k = 12 - i → i ≤ 12 → k < N → law06_GlitchVetoes_1 F N l i ts n = some true
 | k, 0, i, _, _, h => by omega
 | k, N + 1, i, hk, hi, hN => by
  rw [law06_GlitchVetoes_1]
  by_cases h : i < l.length
  ·rw [bif_pos' (by omega)]
   by_cases h2 : i < 12
   ·obtain ⟨x, hx⟩ := get_lt (l := l) (i := i) h
    have ih := gv1 F hw l ts n hts hF (12 - (i + 1)) N (i + 1) rfl (by omega) (by omega)
    rw [decide_eq_true (by omega : (i : Int) < 12)]
    unfold law06_GlitchVetoes_2
    rw [cond_true, idx_nat, hx, bnd_eq, Held_v F (by omega), bnd_eq, bnd_eq, rHeld_v F (by omega), Held_v F (by omega), bnd_eq, beq_self_eq_true, beq_self_eq_true]
    show (bif false then _ else law06_GlitchVetoes_3 F _ l (i : Int) false ts n _ _) = _
    rw [cond_false]
    unfold law06_GlitchVetoes_3
    rw [cond_false]
    have fin : ∀ h : List S_api_Segment, h.length ≤ 1000 → law06_GlitchVetoes_4 F (law06_GlitchVetoes_1 F N) F l i (0 : Int) ts n h h = some true := fun h hh => by
     have := gv4 F (law06_GlitchVetoes_1 F N) l i ts n h hh h.length F 0 rfl (by omega) (by omega)
     refine Eq.trans this ?_
     rw [up (by omega)]
     exact ih
    refine fin _ ?_
    cases ev : vA [x] with
    | false => simp
    | true =>
     cases inR 1 n 1073741824 with
     | false => simp
     | true =>
      have h1 := held_len n x.Segments
      have h3 := ((vsok ev).all x List.mem_cons_self).len
      show (heldL n x.Segments).length ≤ 1000
      omega
   ·rw [decide_eq_false (by omega : ¬ (i : Int) < 12)]
    exact gvE F hw l ts n hts hF _ _
  ·rw [bif_neg' (by omega)]
   exact gvE F hw l ts n hts hF _ _
theorem law_eq (F : Nat) (l : List S_api_Veto) (x : S_ringdownlaw06_Watch) (hts : x.Times.length ≤ 9223372036854775807) (hF : 1000 + x.Times.length < F) (hw : works F = some true) : law06_GlitchVetoes F l x = some true := by
 unfold law06_GlitchVetoes
 rw [cvt_v F (by omega), bnd_eq, rcv F (by omega), bnd_eq, beq_self_eq_true]
 show (bif false then _ else law06_GlitchVetoes_1 F F l (0 : Int) x.Times x.Span) = _
 rw [cond_false]
 exact gv1 F hw l x.Times x.Span hts hF 12 F 0 rfl (by omega) (by omega)
end Go.Ev.GlitchVetoes
