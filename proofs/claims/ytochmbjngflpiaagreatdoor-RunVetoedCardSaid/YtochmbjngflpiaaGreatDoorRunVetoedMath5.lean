/- What a veto covers of a span, in full. -/
import Derived.Test.YtochmbjngflpiaaGreatDoorRunVetoedMath4
namespace Go.Ev.RunVetoed
open Go Go.Ev Go.Proofs
set_option linter.unusedVariables false
def covS (s : S_api_Segment) (t : Int) : Bool := decide (s.From ≤ t) && decide (t < s.To)
def covL (l : List S_api_Segment) (t : Int) : Bool := l.any fun s => covS s t
def InS (n : Int) (s : S_api_Segment) : Prop := 0 ≤ s.From ∧ s.From < s.To ∧ s.To ≤ n
def mg : S_api_Segment → List S_api_Segment → List S_api_Segment
 | y, [] => [y]
 | y, x :: r => if x.From ≤ y.To then mg ⟨y.From, max y.To x.To⟩ r else y :: mg x r
def mg0 : List S_api_Segment → List S_api_Segment
 | [] => []
 | x :: r => mg x r
theorem hef3 (F : Nat) (l : List S_api_Segment) (hl : l.length ≤ 400) : ∀ (k N i : Nat) (pre : List S_api_Segment) (y : S_api_Segment), k = l.length - i → i ≤ l.length → k < N → pre.length + 1 ≤ i → glitch_held_3 F N l.length i (pre ++ [y]) l = some (pre ++ mg y (l.drop i))
 | k, 0, i, pre, y, _, _, h, _ => by omega
 | 0, N + 1, i, pre, y, hk, hi, _, hp => by
  rw [glitch_held_3, bif_neg' (by omega), List.drop_of_length_le (by omega : l.length ≤ i), mg]
 | k + 1, N + 1, i, pre, y, hk, hi, hN, hp => by
  obtain ⟨x, hx⟩ := get_lt (l := l) (i := i) (by omega)
  have hlen : (pre ++ [y]).length = pre.length + 1 := by simp
  have e : w64 (((pre ++ [y]).length : Int) - 1) = (pre.length : Int) := by
   rw [hlen, w64_id (by omega) (by omega)]
   omega
  have hy : (pre ++ [y])[pre.length]? = some y := by simp
  rw [glitch_held_3, bif_pos' (by omega), idx_nat, hx, bnd_eq, e, bif_pos' (by omega), idx_nat, hy, bnd_eq, drop_get hx, mg]
  unfold glitch_held_4 glitch_held_5
  rw [up (by omega)]
  by_cases h : x.From ≤ y.To
  ·rw [decide_eq_true h, cond_true, if_pos h, idx_nat, hy, bnd_eq, inn_at (by omega), bnd_eq, hy, bnd_eq, upd_at (by omega), bnd_eq]
   have es : (pre ++ [y]).set pre.length (S_api_Segment.mk y.From (max y.To x.To)) = pre ++ [S_api_Segment.mk y.From (max y.To x.To)] := by
    rw [List.set_append_right _ _ (Nat.le_refl _)]
    simp
   rw [es]
   exact hef3 F l hl k N (i + 1) pre _ (by omega) (by omega) (by omega) (by omega)
  ·rw [decide_eq_false h, cond_false, if_neg h, apd_ok (by simp; omega) (by omega), bnd_eq, hef3 F l hl k N (i + 1) (pre ++ [y]) x (by omega) (by omega) (by omega) (by simp; omega)]
   simp
theorem hef0 (F : Nat) (hF : 500 < F) (l : List S_api_Segment) (hl : l.length ≤ 400) : glitch_held_3 F F l.length 0 [] l = some (mg0 l) := by
 obtain ⟨G, hG⟩ : ∃ G, F = G + 1 := ⟨F - 1, by omega⟩
 cases l with
 | nil =>
  conv => lhs; arg 2; rw [hG]
  rw [glitch_held_3, bif_neg' (by simp), mg0]
 | cons x r =>
  have h1 := hef3 F (x :: r) hl r.length G 1 [] x (by simp) (by simp) (by simp at hl; omega) (by simp)
  conv => lhs; arg 2; rw [hG]
  rw [glitch_held_3, bif_pos' (by simp <;> omega)]
  show bnd (some x) _ = _
  have e : w64 ((([] : List S_api_Segment).length : Int) - 1) = -1 := by decide
  rw [bnd_eq, e, bif_neg' (by decide)]
  unfold glitch_held_4 glitch_held_5
  rw [cond_false, apd_ok (by simp) (by omega), bnd_eq]
  have e2 : w64 ((0 : Int) + 1) = ((1 : Nat) : Int) := by decide
  rw [e2]
  exact h1
def cutS (n : Int) : List S_api_Segment → List S_api_Segment
 | [] => []
 | s :: r => if s.From < min s.To n then ⟨s.From, min s.To n⟩ :: cutS n r else cutS n r
theorem cutS_len (n : Int) : ∀ l, (cutS n l).length ≤ l.length
 | [] => Nat.le_refl _
 | s :: r => by
  have := cutS_len n r
  rw [cutS]
  split
  ·simp; exact this
  ·simp; omega
theorem hef1 (F : Nat) (hF : 500 < F) (n : Int) (l : List S_api_Segment) (hl : l.length ≤ 400) : ∀ (k N i : Nat) (acc : List S_api_Segment), k = l.length - i → i ≤ l.length → k < N → acc.length ≤ i → glitch_held_1 F N l l.length i n acc = some (mg0 (sortBy (fun a => a.From) (acc ++ cutS n (l.drop i))))
 | k, 0, i, acc, _, _, h, _ => by omega
 | 0, N + 1, i, acc, hk, hi, _, ha => by
  rw [glitch_held_1, bif_neg' (by omega), List.drop_of_length_le (by omega : l.length ≤ i), cutS, List.append_nil]
  have e : sortP (fun a : S_api_Segment => a.From) acc = some (sortBy (fun a => a.From) acc) := by
   unfold sortP
   rw [if_pos (by omega)]
  have hlen := sortBy_len (fun a : S_api_Segment => a.From) acc
  rw [e, bnd_eq]
  exact hef0 F hF _ (by omega)
 | k + 1, N + 1, i, acc, hk, hi, hN, ha => by
  obtain ⟨x, hx⟩ := get_lt (l := l) (i := i) (by omega)
  rw [glitch_held_1, bif_pos' (by omega), idx_nat, hx, bnd_eq, drop_get hx, cutS]
  unfold glitch_held_2
  rw [up (by omega)]
  by_cases h : x.From < min x.To n
  ·rw [bif_pos' h, if_pos h, apd_ok (by simp; omega) (by omega), bnd_eq, hef1 F hF n l hl k N (i + 1) _ (by omega) (by omega) (by omega) (by simp; omega), List.append_assoc]
   rfl
  ·rw [bif_neg' h, if_neg h]
   exact hef1 F hF n l hl k N (i + 1) acc (by omega) (by omega) (by omega) (by omega)
def heldL (n : Int) (l : List S_api_Segment) : List S_api_Segment := mg0 (sortBy (fun a => a.From) (cutS n l))
theorem held_eq (F : Nat) (hF : 500 < F) (n : Int) (l : List S_api_Segment) (hl : l.length ≤ 400) : glitch_held F l n = some (heldL n l) := by
 have := hef1 F hF n l hl l.length F 0 [] rfl (by omega) (by omega) (by simp)
 rw [List.drop_zero, List.nil_append] at this
 exact this
theorem cutS_cov (n t : Int) (ht : t < n) : ∀ l, covL (cutS n l) t = covL l t
 | [] => rfl
 | s :: r => by
  have ih := cutS_cov n t ht r
  have e : covL (s :: r) t = (covS s t || covL r t) := rfl
  rw [cutS, e]
  split
  ·have e2 : covL (S_api_Segment.mk s.From (min s.To n) :: cutS n r) t = (covS (S_api_Segment.mk s.From (min s.To n)) t || covL (cutS n r) t) := rfl
   rw [e2, ih]
   congr 1
   unfold covS
   rw [Bool.eq_iff_iff]
   simp
   omega
  ·rename_i h
   have : covS s t = false := by
    unfold covS
    rw [Bool.eq_false_iff]
    simp
    omega
   rw [this, ih, Bool.false_or]
theorem cutS_in (n : Int) : ∀ l, (∀ s ∈ l, 0 ≤ s.From) → ∀ s ∈ cutS n l, InS n s
 | [], _, s, hs => nomatch hs
 | x :: r, h, s, hs => by
  rw [cutS] at hs
  split at hs
  ·rename_i hx
   rcases List.mem_cons.1 hs with rfl | hs
   ·refine ⟨h x List.mem_cons_self, hx, ?_⟩
    show min x.To n ≤ n
    omega
   ·exact cutS_in n r (fun s hs => h s (List.mem_cons_of_mem _ hs)) s hs
  ·exact cutS_in n r (fun s hs => h s (List.mem_cons_of_mem _ hs)) s hs
theorem mg_cov (t : Int) : ∀ (r : List S_api_Segment) (y : S_api_Segment), (∀ x ∈ r, y.From ≤ x.From) → r.Pairwise (fun a b => a.From ≤ b.From) → covL (mg y r) t = (covS y t || covL r t)
 | [], y, _, _ => by rw [mg]; rfl
 | x :: r, y, h, hp => by
  have hx := h x List.mem_cons_self
  obtain ⟨p1, p2⟩ := List.pairwise_cons.1 hp
  have e : covL (x :: r) t = (covS x t || covL r t) := rfl
  rw [mg, e]
  split
  ·rename_i hle
   rw [mg_cov t r ⟨y.From, max y.To x.To⟩ (fun z hz => h z (List.mem_cons_of_mem _ hz)) p2, ← Bool.or_assoc]
   congr 1
   unfold covS
   rw [Bool.eq_iff_iff]
   simp
   omega
  ·have e2 : covL (y :: mg x r) t = (covS y t || covL (mg x r) t) := rfl
   rw [e2, mg_cov t r x p1 p2]
theorem mg_in (n : Int) : ∀ (r : List S_api_Segment) (y : S_api_Segment), InS n y → (∀ x ∈ r, InS n x) → ∀ s ∈ mg y r, InS n s
 | [], y, hy, _, s, hs => by
  rw [mg] at hs
  simp at hs
  subst hs; exact hy
 | x :: r, y, hy, h, s, hs => by
  have hx := h x List.mem_cons_self
  have hr : ∀ z ∈ r, InS n z := fun z hz => h z (List.mem_cons_of_mem _ hz)
  rw [mg] at hs
  split at hs
  ·refine mg_in n r _ ?_ hr s hs
   obtain ⟨a1, a2, a3⟩ := hy
   obtain ⟨b1, b2, b3⟩ := hx
   refine ⟨a1, ?_, ?_⟩
   ·show y.From < max y.To x.To
    omega
   ·show max y.To x.To ≤ n
    omega
  ·rcases List.mem_cons.1 hs with rfl | hs
   ·exact hy
   ·exact mg_in n r x hx hr s hs
def SepF : Int → List S_api_Segment → Prop
 | _, [] => True
 | a, s :: r => a < s.From ∧ SepF s.To r
theorem mg_sep : ∀ (r : List S_api_Segment) (y : S_api_Segment) (a : Int), a < y.From → SepF a (mg y r)
 | [], y, a, h => by
  rw [mg]
  exact ⟨h, trivial⟩
 | x :: r, y, a, h => by
  rw [mg]
  split
  ·exact mg_sep r _ a h
  ·exact ⟨h, mg_sep r x y.To (by omega)⟩
theorem sep_low (n : Int) : ∀ (l : List S_api_Segment) (a : Int), SepF a l → (∀ s ∈ l, InS n s) → ∀ s ∈ l, a < s.From
 | [], _, _, _, s, hs => nomatch hs
 | x :: r, a, h, hi, s, hs => by
  obtain ⟨h1, h2⟩ := h
  rcases List.mem_cons.1 hs with rfl | hs
  ·exact h1
  ·have := sep_low n r x.To h2 (fun z hz => hi z (List.mem_cons_of_mem _ hz)) s hs
   have := (hi x List.mem_cons_self).2.1
   omega
def cnT (p : Int → Bool) : Nat → Nat
 | 0 => 0
 | n + 1 => cnT p n + (p (n : Int)).toNat
theorem cnT_iv (a b : Int) (h0 : 0 ≤ a) (h1 : a ≤ b) : ∀ n : Nat, (cnT (fun t => decide (a ≤ t) && decide (t < b)) n : Int) = max (min b n - a) 0
 | 0 => by
  rw [cnT]
  omega
 | n + 1 => by
  have ih := cnT_iv a b h0 h1 n
  rw [cnT]
  by_cases g1 : a ≤ (n : Int) <;> by_cases g2 : (n : Int) < b <;> simp [g1, g2] <;> omega
theorem cnT_or (p q : Int → Bool) : ∀ n : Nat, (∀ t : Nat, t < n → ¬ (p t = true ∧ q t = true)) → cnT (fun t => p t || q t) n = cnT p n + cnT q n
 | 0, _ => rfl
 | n + 1, h => by
  have ih := cnT_or p q n (fun t ht => h t (by omega))
  have hn := h n (by omega)
  rw [cnT, cnT, cnT, ih]
  cases e1 : p n <;> cases e2 : q n <;> simp [e1, e2] at hn ⊢ <;> omega
def totS (l : List S_api_Segment) : Int := (l.map fun s => s.To - s.From).sum
theorem sep_tot (n : Nat) : ∀ (l : List S_api_Segment) (a : Int), SepF a l → (∀ s ∈ l, InS n s) → (cnT (covL l) n : Int) = totS l
 | [], a, _, _ => by
  have : ∀ n, cnT (covL []) n = 0 := fun n => by
   induction n with
   | zero => rfl
   | succ n ih => rw [cnT, ih]; rfl
  rw [this]
  rfl
 | x :: r, a, h, hi => by
  obtain ⟨h1, h2⟩ := h
  have hr : ∀ s ∈ r, InS n s := fun z hz => hi z (List.mem_cons_of_mem _ hz)
  obtain ⟨a1, a2, a3⟩ := hi x List.mem_cons_self
  have ih := sep_tot n r x.To h2 hr
  have e : covL (x :: r) = fun t => covS x t || covL r t := rfl
  have ev : (cnT (covS x) n : Int) = x.To - x.From := by
   have := cnT_iv x.From x.To a1 (by omega) n
   have e2 : covS x = fun t => decide (x.From ≤ t) && decide (t < x.To) := rfl
   rw [e2, this]
   omega
  rw [e, cnT_or (covS x) (covL r) n (fun t ht hb => by
   obtain ⟨b1, b2⟩ := hb
   unfold covS at b1
   simp at b1
   obtain ⟨s, hs, hc⟩ := List.any_eq_true.1 b2
   unfold covS at hc
   simp at hc
   have := sep_low n r x.To h2 hr s hs
   omega)]
  unfold totS at ih ⊢
  simp only [List.map_cons, List.sum_cons]
  omega
theorem any_perm {l l' : List S_api_Segment} (h : l.Perm l') (t : Int) : covL l t = covL l' t := by
 unfold covL
 rw [Bool.eq_iff_iff, List.any_eq_true, List.any_eq_true]
 exact ⟨fun ⟨s, h1, h2⟩ => ⟨s, h.mem_iff.1 h1, h2⟩, fun ⟨s, h1, h2⟩ => ⟨s, h.mem_iff.2 h1, h2⟩⟩
theorem held_all (n : Nat) (l : List S_api_Segment) (hl : ∀ s ∈ l, 0 ≤ s.From) : (∀ s ∈ heldL n l, InS n s) ∧ (∀ t : Int, t < n → covL (heldL n l) t = covL l t) ∧ (cnT (covL l) n : Int) = totS (heldL n l) := by
 have hp := sortBy_perm (fun a : S_api_Segment => a.From) (cutS n l)
 have hin : ∀ s ∈ sortBy (fun a : S_api_Segment => a.From) (cutS n l), InS n s := fun s hs => cutS_in n l hl s (hp.mem_iff.1 hs)
 have hpw : (sortBy (fun a : S_api_Segment => a.From) (cutS n l)).Pairwise (fun a b => a.From ≤ b.From) := by
  rw [List.pairwise_iff_getElem]
  intro i j hi hj hij
  exact sortBy_sorted (fun a : S_api_Segment => a.From) (cutS n l) i j _ _ hij (List.getElem?_eq_getElem hi) (List.getElem?_eq_getElem hj)
 have hcov : ∀ t : Int, t < n → covL (heldL n l) t = covL l t := fun t ht => by
  rw [← cutS_cov n t ht l, ← any_perm hp t]
  unfold heldL
  cases e : sortBy (fun a : S_api_Segment => a.From) (cutS n l) with
  | nil => rfl
  | cons x r =>
   rw [e] at hpw
   obtain ⟨p1, p2⟩ := List.pairwise_cons.1 hpw
   rw [mg0, mg_cov t r x p1 p2]
   rfl
 have hsep : (∀ s ∈ heldL n l, InS n s) ∧ SepF (-1) (heldL n l) := by
  unfold heldL
  cases e : sortBy (fun a : S_api_Segment => a.From) (cutS n l) with
  | nil => exact ⟨fun s hs => (nomatch hs), trivial⟩
  | cons x r =>
   rw [e] at hin
   have hx := hin x List.mem_cons_self
   rw [mg0]
   exact ⟨mg_in n r x hx (fun z hz => hin z (List.mem_cons_of_mem _ hz)), mg_sep r x (-1) (by have := hx.1; omega)⟩
 refine ⟨hsep.1, hcov, ?_⟩
 rw [← sep_tot n (heldL n l) (-1) hsep.2 hsep.1]
 have : ∀ m : Nat, m ≤ n → cnT (covL l) m = cnT (covL (heldL n l)) m := fun m hm => by
  induction m with
  | zero => rfl
  | succ m ih => rw [cnT, cnT, ih (by omega), hcov m (by omega)]
 rw [this n (Nat.le_refl _)]
end Go.Ev.RunVetoed
