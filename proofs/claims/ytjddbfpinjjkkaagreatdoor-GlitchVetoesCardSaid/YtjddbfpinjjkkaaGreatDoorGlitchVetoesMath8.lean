/- What a veto covers of a span, in full. -/
import Derived.Test.YtjddbfpinjjkkaaGreatDoorGlitchVetoesMath4
namespace Go.Ev.GlitchVetoes
open Go Go.Ev Go.Proofs
set_option linter.unusedVariables false
def covS (s : S_api_Segment) (t : Int) : Bool := decide (s.From ≤ t) && decide (t < s.To)
def covL (l : List S_api_Segment) (t : Int) : Bool := l.any fun s => covS s t
def InS (n : Int) (s : S_api_Segment) : Prop := 0 ≤ s.From ∧ s.From < s.To ∧ s.To ≤ n
def mg : S_api_Segment → List S_api_Segment → List S_api_Segment
 | y, [] => [y]
 | y, x :: r => if x.From ≤ y.To then mg ⟨y.From, max y.To x.To⟩ r else y :: mg x r
def mg0 : List S_api_Segment → List S_api_Segment
 | [] => []
 | x :: r => mg x r
theorem hef3 (F : Nat) (l : List S_api_Segment) (hl : l.length ≤ 480) : ∀ (k N i : Nat) (pre : List S_api_Segment) (y : S_api_Segment), k = l.length - i → i ≤ l.length → k < N → pre.length + 1 ≤ i → glitch_held_3 F N l.length i (pre ++ [y]) l = some (pre ++ mg y (l.drop i))
 | k, 0, i, pre, y, _, _, h, _ => by omega
 | 0, N + 1, i, pre, y, hk, hi, _, hp => by
  rw [glitch_held_3, bif_neg' (by omega), List.drop_of_length_le (by omega : l.length ≤ i), mg]
 | k + 1, N + 1, i, pre, y, hk, hi, hN, hp => by
  obtain ⟨x, hx⟩ := get_lt (l := l) (i := i) (by omega)
  have hlen : (pre ++ [y]).length = pre.length + 1 := by simp
  have e : w64 (((pre ++ [y]).length : Int) - 1) = (pre.length : Int) := by
   rw [hlen, w64_id (by omega) (by omega)]
   omega
  have hy : (pre ++ [y])[pre.length]? = some y := by simp
  rw [glitch_held_3, bif_pos' (by omega), idx_nat, hx, bnd_eq, e, bif_pos' (by omega), idx_nat, hy, bnd_eq, drop_get hx, mg]
  unfold glitch_held_4 glitch_held_5
  rw [up (by omega)]
  by_cases h : x.From ≤ y.To
  ·rw [decide_eq_true h, cond_true, if_pos h, idx_nat, hy, bnd_eq, inn_at (by omega), bnd_eq, hy, bnd_eq, upd_at (by omega), bnd_eq]
   have es : (pre ++ [y]).set pre.length (S_api_Segment.mk y.From (max y.To x.To)) = pre ++ [S_api_Segment.mk y.From (max y.To x.To)] := by
    rw [List.set_append_right _ _ (Nat.le_refl _)]
    simp
   rw [es]
   exact hef3 F l hl k N (i + 1) pre _ (by omega) (by omega) (by omega) (by omega)
  ·rw [decide_eq_false h, cond_false, if_neg h, apd_ok (by simp; omega) (by omega), bnd_eq, hef3 F l hl k N (i + 1) (pre ++ [y]) x (by omega) (by omega) (by omega) (by simp; omega)]
   simp
theorem hef0 (F : Nat) (hF : 500 < F) (l : List S_api_Segment) (hl : l.length ≤ 480) : glitch_held_3 F F l.length 0 [] l = some (mg0 l) := by
 obtain ⟨G, hG⟩ : ∃ G, F = G + 1 := ⟨F - 1, by omega⟩
 cases l with
 | nil =>
  conv => lhs; arg 2; rw [hG]
  rw [glitch_held_3, bif_neg' (by simp), mg0]
 | cons x r =>
  have h1 := hef3 F (x :: r) hl r.length G 1 [] x (by simp) (by simp) (by simp at hl; omega) (by simp)
  conv => lhs; arg 2; rw [hG]
  rw [glitch_held_3, bif_pos' (by simp <;> omega)]
  show bnd (some x) _ = _
  have e : w64 ((([] : List S_api_Segment).length : Int) - 1) = -1 := by decide
  rw [bnd_eq, e, bif_neg' (by decide)]
  unfold glitch_held_4 glitch_held_5
  rw [cond_false, apd_ok (by simp) (by omega), bnd_eq]
  have e2 : w64 ((0 : Int) + 1) = ((1 : Nat) : Int) := by decide
  rw [e2]
  exact h1
def cutS (n : Int) : List S_api_Segment → List S_api_Segment
 | [] => []
 | s :: r => if s.From < min s.To n then ⟨s.From, min s.To n⟩ :: cutS n r else cutS n r
theorem cutS_len (n : Int) : ∀ l, (cutS n l).length ≤ l.length
 | [] => Nat.le_refl _
 | s :: r => by
  have := cutS_len n r
  rw [cutS]
  split
  ·simp; exact this
  ·simp; omega
theorem hef1 (F : Nat) (hF : 500 < F) (n : Int) (l : List S_api_Segment) (hl : l.length ≤ 480) : ∀ (k N i : Nat) (acc : List S_api_Segment), k = l.length - i → i ≤ l.length → k < N → acc.length ≤ i → glitch_held_1 F N l l.length i n acc = some (mg0 (sortBy (fun a => a.From) (acc ++ cutS n (l.drop i))))
 | k, 0, i, acc, _, _, h, _ => by omega
 | 0, N + 1, i, acc, hk, hi, _, ha => by
  rw [glitch_held_1, bif_neg' (by omega), List.drop_of_length_le (by omega : l.length ≤ i), cutS, List.append_nil]
  have e : sortP (fun a : S_api_Segment => a.From) acc = some (sortBy (fun a => a.From) acc) := by
   unfold sortP
   rw [if_pos (by omega)]
  have hlen := sortBy_len (fun a : S_api_Segment => a.From) acc
  rw [e, bnd_eq]
  exact hef0 F hF _ (by omega)
 | k + 1, N + 1, i, acc, hk, hi, hN, ha => by
  obtain ⟨x, hx⟩ := get_lt (l := l) (i := i) (by omega)
  rw [glitch_held_1, bif_pos' (by omega), idx_nat, hx, bnd_eq, drop_get hx, cutS]
  unfold glitch_held_2
  rw [up (by omega)]
  by_cases h : x.From < min x.To n
  ·rw [bif_pos' h, if_pos h, apd_ok (by simp; omega) (by omega), bnd_eq, hef1 F hF n l hl k N (i + 1) _ (by omega) (by omega) (by omega) (by simp; omega), List.append_assoc]
   rfl
  ·rw [bif_neg' h, if_neg h]
   exact hef1 F hF n l hl k N (i + 1) acc (by omega) (by omega) (by omega) (by omega)
def heldL (n : Int) (l : List S_api_Segment) : List S_api_Segment := mg0 (sortBy (fun a => a.From) (cutS n l))
theorem held_eq (F : Nat) (hF : 500 < F) (n : Int) (l : List S_api_Segment) (hl : l.length ≤ 480) : glitch_held F l n = some (heldL n l) := by
 have := hef1 F hF n l hl l.length F 0 [] rfl (by omega) (by omega) (by simp)
 rw [List.drop_zero, List.nil_append] at this
 exact this
theorem cutS_cov (n t : Int) (ht : t < n) : ∀ l, covL (cutS n l) t = covL l t
 | [] => rfl
 | s :: r => by
  have ih := cutS_cov n t ht r
  have e : covL (s :: r) t = (covS s t || covL r t) := rfl
  rw [cutS, e]
  split
  ·have e2 : covL (S_api_Segment.mk s.From (min s.To n) :: cutS n r) t = (covS (S_api_Segment.mk s.From (min s.To n)) t || covL (cutS n r) t) := rfl
   rw [e2, ih]
   congr 1
   unfold covS
   rw [Bool.eq_iff_iff]
   simp
   omega
  ·rename_i h
   have : covS s t = false := by
    unfold covS
    rw [Bool.eq_false_iff]
    simp
    omega
   rw [this, ih, Bool.false_or]
theorem cutS_in (n : Int) : ∀ l, (∀ s ∈ l, 0 ≤ s.From) → ∀ s ∈ cutS n l, InS n s
 | [], _, s, hs => nomatch hs
 | x :: r, h, s, hs => by
  rw [cutS] at hs
  split at hs
  ·rename_i hx
   rcases List.mem_cons.1 hs with rfl | hs
   ·refine ⟨h x List.mem_cons_self, hx, ?_⟩
    show min x.To n ≤ n
    omega
   ·exact cutS_in n r (fun s hs => h s (List.mem_cons_of_mem _ hs)) s hs
  ·exact cutS_in n r (fun s hs => h s (List.mem_cons_of_mem _ hs)) s hs
theorem mg_cov (t : Int) : ∀ (r : List S_api_Segment) (y : S_api_Segment), (∀ x ∈ r, y.From ≤ x.From) → r.Pairwise (fun a b => a.From ≤ b.From) → covL (mg y r) t = (covS y t || covL r t)
 | [], y, _, _ => by rw [mg]; rfl
 | x :: r, y, h, hp => by
  have hx := h x List.mem_cons_self
  obtain ⟨p1, p2⟩ := List.pairwise_cons.1 hp
  have e : covL (x :: r) t = (covS x t || covL r t) := rfl
  rw [mg, e]
  split
  ·rename_i hle
   rw [mg_cov t r ⟨y.From, max y.To x.To⟩ (fun z hz => h z (List.mem_cons_of_mem _ hz)) p2, ← Bool.or_assoc]
   congr 1
   unfold covS
   rw [Bool.eq_iff_iff]
   simp
   omega
  ·have e2 : covL (y :: mg x r) t = (covS y t || covL (mg x r) t) := rfl
   rw [e2, mg_cov t r x p1 p2]
theorem mg_in (n : Int) : ∀ (r : List S_api_Segment) (y : S_api_Segment), InS n y → (∀ x ∈ r, InS n x) → ∀ s ∈ mg y r, InS n s
 | [], y, hy, _, s, hs => by
  rw [mg] at hs
  simp at hs
  subst hs; exact hy
 | x :: r, y, hy, h, s, hs => by
  have hx := h x List.mem_cons_self
  have hr : ∀ z ∈ r, InS n z := fun z hz => h z (List.mem_cons_of_mem _ hz)
  rw [mg] at hs
  split at hs
  ·refine mg_in n r _ ?_ hr s hs
   obtain ⟨a1, a2, a3⟩ := hy
   obtain ⟨b1, b2, b3⟩ := hx
   refine ⟨a1, ?_, ?_⟩
   ·show y.From < max y.To x.To
    omega
   ·show max y.To x.To ≤ n
    omega
  ·rcases List.mem_cons.1 hs with rfl | hs
   ·exact hy
   ·exact mg_in n r x hx hr s hs
def SepF : Int → List S_api_Segment → Prop
 | _, [] => True
 | a, s :: r => a < s.From ∧ SepF s.To r
theorem mg_sep : ∀ (r : List S_api_Segment) (y : S_api_Segment) (a : Int), a < y.From → SepF a (mg y r)
 | [], y, a, h => by
  rw [mg]
  exact ⟨h, trivial⟩
 | x :: r, y, a, h => by
  rw [mg]
  split
  ·exact mg_sep r _ a h
  ·exact ⟨h, mg_sep r x y.To (by omega)⟩
def totS (l : List S_api_Segment) : Int := (l.map fun s => s.To - s.From).sum
theorem any_perm {l l' : List S_api_Segment} (h : l.Perm l') (t : Int) : covL l t = covL l' t := by
 unfold covL
 rw [Bool.eq_iff_iff, List.any_eq_true, List.any_eq_true]
 exact ⟨fun ⟨s, h1, h2⟩ => ⟨s, h.mem_iff.1 h1, h2⟩, fun ⟨s, h1, h2⟩ => ⟨s, h.mem_iff.2 h1, h2⟩⟩
end Go.Ev.GlitchVetoes
namespace Go.Ev.GlitchVetoes
open Go Go.Ev Go.Proofs
set_option linter.unusedVariables false
def addR : List S_api_Segment → S_api_Segment → Bool → List S_api_Segment
 | [], s, d => if d then [] else [s]
 | x :: r, s, d => if x.To < s.From then x :: addR r s d else if x.From > s.To then (if d then x :: addR r s true else s :: x :: addR r s true) else addR r ⟨min s.From x.From, max s.To x.To⟩ d
theorem addR_done (s : S_api_Segment) : ∀ (r : List S_api_Segment), (∀ x ∈ r, s.To < x.From ∧ x.From < x.To) → s.From < s.To → addR r s true = r
 | [], _, _ => by rw [addR, if_pos rfl]
 | x :: r, h, hs => by
  obtain ⟨h1, h2⟩ := h x List.mem_cons_self
  rw [addR, if_neg (by omega), if_pos (by omega), if_pos rfl, addR_done s r (fun z hz => h z (List.mem_cons_of_mem _ hz)) hs]
theorem sep_lowF : ∀ (l : List S_api_Segment) (a : Int), SepF a l → (∀ s ∈ l, s.From < s.To) → ∀ s ∈ l, a < s.From
 | [], _, _, _, s, hs => nomatch hs
 | x :: r, a, h, hi, s, hs => by
  obtain ⟨h1, h2⟩ := h
  rcases List.mem_cons.1 hs with rfl | hs
  ·exact h1
  ·have := sep_lowF r x.To h2 (fun z hz => hi z (List.mem_cons_of_mem _ hz)) s hs
   have := hi x List.mem_cons_self
   omega
theorem addR_sep : ∀ (l : List S_api_Segment) (s : S_api_Segment) (a : Int), SepF a l → (∀ x ∈ l, x.From < x.To) → a < s.From → s.From < s.To → SepF a (addR l s false) ∧ ∀ t, covL (addR l s false) t = (covS s t || covL l t)
 | [], s, a, _, _, ha, _ => by
  rw [addR, if_neg (by decide)]
  exact ⟨⟨ha, trivial⟩, fun t => rfl⟩
 | x :: r, s, a, h, hl, ha, hs => by
  obtain ⟨h1, h2⟩ := h
  have hx := hl x List.mem_cons_self
  have hr : ∀ z ∈ r, z.From < z.To := fun z hz => hl z (List.mem_cons_of_mem _ hz)
  rw [addR]
  have ec : ∀ (y : S_api_Segment) (q : List S_api_Segment) (t : Int), covL (y :: q) t = (covS y t || covL q t) := fun _ _ _ => rfl
  split
  ·rename_i g
   obtain ⟨i1, i2⟩ := addR_sep r s x.To h2 hr g hs
   refine ⟨⟨h1, i1⟩, fun t => ?_⟩
   rw [ec, i2, ec]
   cases covS x t <;> cases covS s t <;> rfl
  ·rename_i g
   split
   ·rename_i g2
    have hlow := sep_lowF r x.To h2 hr
    rw [if_neg (by decide), addR_done s r (fun z hz => ⟨by have := hlow z hz; omega, hr z hz⟩) hs]
    exact ⟨⟨ha, by omega, h2⟩, fun t => rfl⟩
   ·rename_i g2
    have h2' : SepF a r := by
     cases r with
     | nil => trivial
     | cons z q => exact ⟨by have := h2.1; omega, h2.2⟩
    obtain ⟨i1, i2⟩ := addR_sep r ⟨min s.From x.From, max s.To x.To⟩ a h2' hr (by show a < min s.From x.From; omega) (by show min s.From x.From < max s.To x.To; omega)
    refine ⟨i1, fun t => ?_⟩
    rw [i2, ec, ← Bool.or_assoc]
    congr 1
    unfold covS
    rw [Bool.eq_iff_iff]
    simp
    omega
theorem addR_in (n : Int) : ∀ (l : List S_api_Segment) (s : S_api_Segment) (d : Bool), (∀ x ∈ l, InS n x) → InS n s → ∀ x ∈ addR l s d, InS n x
 | [], s, d, _, hs, x, hx => by
  rw [addR] at hx
  cases d <;> simp at hx
  subst hx; exact hs
 | y :: r, s, d, hl, hs, x, hx => by
  have hy := hl y List.mem_cons_self
  have hr : ∀ z ∈ r, InS n z := fun z hz => hl z (List.mem_cons_of_mem _ hz)
  rw [addR] at hx
  split at hx
  ·rcases List.mem_cons.1 hx with rfl | hx
   ·exact hy
   ·exact addR_in n r s d hr hs x hx
  ·split at hx
   ·split at hx
    ·rcases List.mem_cons.1 hx with rfl | hx
     ·exact hy
     ·exact addR_in n r s true hr hs x hx
    ·rcases List.mem_cons.1 hx with rfl | hx
     ·exact hs
     ·rcases List.mem_cons.1 hx with rfl | hx
      ·exact hy
      ·exact addR_in n r s true hr hs x hx
   ·obtain ⟨a1, a2, a3⟩ := hy
    obtain ⟨b1, b2, b3⟩ := hs
    exact addR_in n r ⟨min s.From y.From, max s.To y.To⟩ d hr ⟨by show 0 ≤ min s.From y.From; omega, by show min s.From y.From < max s.To y.To; omega, by show max s.To y.To ≤ n; omega⟩ x hx
theorem addR_len : ∀ (l : List S_api_Segment) (s : S_api_Segment) (d : Bool), (addR l s d).length ≤ l.length + 1
 | [], s, d => by rw [addR]; split <;> simp
 | y :: r, s, d => by
  rw [addR]
  split
  ·have := addR_len r s d
   simp; omega
  ·split
   ·split
    ·have := addR_len r s true
     simp; omega
    ·rename_i g1 g2 g3
     cases d with
     | true => simp at g3
     | false =>
      have := addR_len r s true
      have h2 : (addR r s true).length ≤ r.length := by
       clear this
       have key : ∀ (r : List S_api_Segment) (s : S_api_Segment), (addR r s true).length ≤ r.length := by
        intro r
        induction r with
        | nil => intro s; rw [addR, if_pos rfl]; exact Nat.le_refl _
        | cons z q ih =>
         intro s
         rw [addR]
         split
         ·have := ih s; simp; exact this
         ·split
          ·rw [if_pos rfl]; have := ih s; simp; exact this
          ·have := ih ⟨min s.From z.From, max s.To z.To⟩; simp; omega
       exact key r s
      simp; omega
   ·have := addR_len r ⟨min s.From y.From, max s.To y.To⟩ d
    simp; omega
theorem cov_low : ∀ (l : List S_api_Segment) (a t : Int), (∀ s ∈ l, a < s.From) → t ≤ a → covL l t = false := fun l a t h ht => by
 unfold covL
 rw [List.any_eq_false]
 intro s hs hc
 have := h s hs
 unfold covS at hc
 simp at hc
 omega
theorem sep_uniq : ∀ (l l' : List S_api_Segment) (a : Int), SepF a l → SepF a l' → (∀ s ∈ l, s.From < s.To) → (∀ s ∈ l', s.From < s.To) → (∀ t, a < t → covL l t = covL l' t) → l = l'
 | [], [], _, _, _, _, _, _ => rfl
 | [], y :: r', a, _, h', _, hp', hc => by
  have := hc y.From h'.1
  have e : covL (y :: r') y.From = true := by
   have := hp' y List.mem_cons_self
   unfold covL covS
   simp
   left; omega
  rw [e] at this
  exact Bool.noConfusion this
 | x :: r, [], a, h, _, hp, _, hc => by
  have := hc x.From h.1
  have e : covL (x :: r) x.From = true := by
   have := hp x List.mem_cons_self
   unfold covL covS
   simp
   left; omega
  rw [e] at this
  exact Bool.noConfusion this
 | x :: r, y :: r', a, h, h', hp, hp', hc => by
  have hx := hp x List.mem_cons_self
  have hy := hp' y List.mem_cons_self
  have hr : ∀ z ∈ r, z.From < z.To := fun z hz => hp z (List.mem_cons_of_mem _ hz)
  have hr' : ∀ z ∈ r', z.From < z.To := fun z hz => hp' z (List.mem_cons_of_mem _ hz)
  have lr := sep_lowF r x.To h.2 hr
  have lr' := sep_lowF r' y.To h'.2 hr'
  have ec : ∀ (y : S_api_Segment) (q : List S_api_Segment) (t : Int), covL (y :: q) t = (covS y t || covL q t) := fun _ _ _ => rfl
  have cT : ∀ (y : S_api_Segment) (t : Int), y.From ≤ t → t < y.To → covS y t = true := fun y t g1 g2 => by unfold covS; simp [g1, g2]
  have cF : ∀ (y : S_api_Segment) (t : Int), ¬ (y.From ≤ t ∧ t < y.To) → covS y t = false := fun y t g => by unfold covS; rw [Bool.eq_false_iff]; simp; omega
  have eF : x.From = y.From := by
   by_cases g : x.From < y.From
   ·have := hc x.From h.1
    rw [ec, ec, cT x _ (Int.le_refl _) hx, cF y _ (by omega), cov_low r' y.To x.From lr' (by omega)] at this
    simp at this
   ·by_cases g' : y.From < x.From
    ·have := hc y.From h'.1
     rw [ec, ec, cT y _ (Int.le_refl _) hy, cF x _ (by omega), cov_low r x.To y.From lr (by omega)] at this
     simp at this
    ·omega
  have eT : x.To = y.To := by
   have ha := h.1
   by_cases g : x.To < y.To
   ·have := hc x.To (by omega)
    rw [ec, ec, cF x x.To (by omega), cov_low r x.To x.To lr (Int.le_refl _), cT y x.To (by omega) g] at this
    simp at this
   ·by_cases g' : y.To < x.To
    ·have := hc y.To (by omega)
     rw [ec, ec, cF y y.To (by omega), cov_low r' y.To y.To lr' (Int.le_refl _), cT x y.To (by omega) g'] at this
     simp at this
    ·omega
  have exy : x = y := by
   cases x; cases y
   simp only at eF eT
   rw [eF, eT]
  have h2' : SepF x.To r' := by rw [eT]; exact h'.2
  rw [exy, sep_uniq r r' x.To h.2 h2' hr hr' (fun t ht => by
   have ha := h.1
   have := hc t (by omega)
   rw [ec, ec, cF x t (by omega), cF y t (by omega)] at this
   exact this)]
end Go.Ev.GlitchVetoes
namespace Go.Ev.GlitchVetoes
open Go Go.Ev Go.Proofs
set_option linter.unusedVariables false
theorem gisF (F : Nat) (a b c : Int) : glitch_isFrom F a b c = some (inR a b c) := by
 unfold glitch_isFrom inR glitch_isFrom_1
 by_cases h : a ≤ b <;> simp [h]
def sgB (s : S_api_Segment) : Bool := decide (0 ≤ s.From) && (decide (s.From < s.To) && decide (s.To ≤ 1073741824))
def sgsB (l : List S_api_Segment) : Bool := l.all sgB
theorem seg1v (F : Nat) (l : List S_api_Segment) (hl : l.length ≤ 32) : ∀ (k N i : Nat), k = l.length - i → i ≤ l.length → k < N → glitch_areSegments_1 F N l l.length i true = some (sgsB (l.drop i))
 | k, 0, i, _, _, h => by omega
 | 0, N + 1, i, hk, hi, _ => by
  rw [glitch_areSegments_1, bif_neg' (by omega), List.drop_of_length_le (by omega : l.length ≤ i)]
  rfl
 | k + 1, N + 1, i, hk, hi, hN => by
  obtain ⟨x, hx⟩ := get_lt (l := l) (i := i) (by omega)
  have ih := seg1v F l hl k N (i + 1) (by omega) (by omega) (by omega)
  have e0 : sgsB (x :: l.drop (i + 1)) = (sgB x && sgsB (l.drop (i + 1))) := rfl
  rw [glitch_areSegments_1, bif_pos' (by omega), idx_nat, hx, bnd_eq, drop_get hx, e0]
  unfold glitch_areSegments_f1 glitch_areSegments_f1_1 glitch_areSegments_f1_2 glitch_areSegments_2 sgB
  rw [up (by omega), ih]
  have e : (!(decide ((0 : Int) ≤ (i : Int)))) = false := by simp
  rw [e]
  cases e1 : decide (0 ≤ x.From) <;> cases e2 : decide (x.From < x.To) <;> cases e3 : decide (x.To ≤ 1073741824) <;> rfl
theorem seg_v (F : Nat) (hF : 40 < F) (l : List S_api_Segment) : glitch_areSegments F l = some (decide ((l.length : Int) ≤ 32) && sgsB l) := by
 unfold glitch_areSegments
 by_cases h : l.length ≤ 32
 ·have e : decide ((l.length : Int) ≤ 32) = true := decide_eq_true (by omega)
  rw [e, cond_true, Bool.true_and]
  exact seg1v F l h l.length F 0 rfl (by omega) (by omega)
 ·have e : decide ((l.length : Int) ≤ 32) = false := decide_eq_false (by omega)
  rw [e, cond_false, Bool.false_and]
  rfl
def vtB (v : S_api_Veto) : Bool := nameB v.Name && (decide ((v.Segments.length : Int) ≤ 32) && sgsB v.Segments)
def vtsB : (List UInt8 → Bool) → List S_api_Veto → Bool
 | _, [] => true
 | f, v :: r => (vtB v && !f v.Name) && vtsB (fun x => bif eqB x v.Name then true else f x) r
theorem vet1v (F : Nat) (hF : 40 < F) (l : List S_api_Veto) (hl : l.length ≤ 12) : ∀ (k N i : Nat) (m : List ((List UInt8) × Bool)) (f : List UInt8 → Bool), k = l.length - i → i ≤ l.length → k < N → (∀ x, mget eqB false m x = f x) → glitch_areVetoes_1 F N l l.length i m = some (vtsB f (l.drop i))
 | k, 0, i, m, f, _, _, h, _ => by omega
 | 0, N + 1, i, m, f, hk, hi, _, _ => by
  rw [glitch_areVetoes_1, bif_neg' (by omega), List.drop_of_length_le (by omega : l.length ≤ i)]
  rfl
 | k + 1, N + 1, i, m, f, hk, hi, hN, hm => by
  obtain ⟨x, hx⟩ := get_lt (l := l) (i := i) (by omega)
  have ih := vet1v F hF l hl k N (i + 1) (mput eqB m x.Name true) (fun y => bif eqB y x.Name then true else f y) (by omega) (by omega) (by omega) (fun y => by
   rw [mget_put (fun a b => beq_iff_eq), hm])
  have e0 : vtsB f (x :: l.drop (i + 1)) = ((vtB x && !f x.Name) && vtsB (fun y => bif eqB y x.Name then true else f y) (l.drop (i + 1))) := rfl
  rw [glitch_areVetoes_1, bif_pos' (by omega), idx_nat, hx, bnd_eq, name_eq F (by omega), bnd_eq, drop_get hx, e0, hm]
  unfold glitch_areVetoes_2 glitch_areVetoes_3 vtB
  rw [seg_v F hF, bnd_eq, up (by omega), ih]
  cases nameB x.Name <;> cases f x.Name <;> cases (decide ((x.Segments.length : Int) ≤ 32) && sgsB x.Segments) <;> rfl
def vA (l : List S_api_Veto) : Bool := vtsB (fun _ => false) l && decide ((l.length : Int) ≤ 12)
theorem are_v (F : Nat) (hF : 40 < F) (l : List S_api_Veto) : glitch_areVetoes F l = some (vA l) := by
 unfold glitch_areVetoes vA
 by_cases h : l.length ≤ 12
 ·have := vet1v F hF l h l.length F 0 [] (fun _ => false) rfl (by omega) (by omega) (fun x => rfl)
  rw [List.drop_zero] at this
  have h' : glitch_areVetoes_1 F F l (l.length : Int) (0 : Int) [] = _ := this
  rw [bif_neg' (by omega), h', decide_eq_true (by omega : (l.length : Int) ≤ 12), Bool.and_true]
 ·rw [bif_pos' (by omega), decide_eq_false (by omega : ¬ (l.length : Int) ≤ 12), Bool.and_false]
structure VOK (v : S_api_Veto) : Prop where
 len : v.Segments.length ≤ 32
 all : ∀ s ∈ v.Segments, 0 ≤ s.From ∧ s.From < s.To ∧ s.To ≤ 1073741824
theorem vok {v : S_api_Veto} (h : vtB v = true) : VOK v := by
 unfold vtB at h
 simp only [Bool.and_eq_true, decide_eq_true_eq] at h
 refine ⟨by omega, fun s hs => ?_⟩
 have := List.all_eq_true.1 h.2.2 s hs
 unfold sgB at this
 simp only [Bool.and_eq_true, decide_eq_true_eq] at this
 exact ⟨this.1, this.2.1, this.2.2⟩
theorem vts_iff : ∀ (l : List S_api_Veto) (f : List UInt8 → Bool), vtsB f l = true ↔ (∀ v ∈ l, vtB v = true ∧ f v.Name = false) ∧ l.Pairwise (fun a b => a.Name ≠ b.Name)
 | [], f => by simp [vtsB]
 | v :: r, f => by
  rw [vtsB, Bool.and_eq_true, vts_iff r, List.pairwise_cons]
  constructor
  ·rintro ⟨h1, h2, h3⟩
   simp only [Bool.and_eq_true, Bool.not_eq_true'] at h1
   refine ⟨fun u hu => ?_, fun u hu e => ?_, h3⟩
   ·rcases List.mem_cons.1 hu with rfl | hu
    ·exact h1
    ·have := (h2 u hu).2
     refine ⟨(h2 u hu).1, ?_⟩
     cases e : (eqB u.Name v.Name) with
     | true => rw [e] at this; simp at this
     | false => rw [e] at this; exact this
   ·have := (h2 u hu).2
    have e2 : eqB u.Name v.Name = true := beq_iff_eq.2 e.symm
    rw [e2] at this
    simp at this
  ·rintro ⟨h1, h2, h3⟩
   refine ⟨?_, fun u hu => ⟨(h1 u (List.mem_cons_of_mem _ hu)).1, ?_⟩, h3⟩
   ·have := h1 v List.mem_cons_self
    simp [this.1, this.2]
   ·have e2 : eqB u.Name v.Name = false := beq_eq_false_iff_ne.2 fun e => h2 u hu e.symm
    rw [e2]
    exact (h1 u (List.mem_cons_of_mem _ hu)).2
structure VsOK (l : List S_api_Veto) : Prop where
 ok : vA l = true
 len : l.length ≤ 12
 all : ∀ v ∈ l, VOK v
theorem vsok {l : List S_api_Veto} (h : vA l = true) : VsOK l := by
 have h0 := h
 unfold vA at h
 simp only [Bool.and_eq_true, decide_eq_true_eq] at h
 exact ⟨h0, by omega, fun v hv => vok (((vts_iff l _).1 h.1).1 v hv).1⟩
end Go.Ev.GlitchVetoes
namespace Go.Ev.GlitchVetoes
open Go Go.Ev Go.Proofs
set_option linter.unusedVariables false
def covV (vs : List S_api_Veto) (t : Int) : Bool := vs.any fun v => covL v.Segments t
theorem mg_len : ∀ (r : List S_api_Segment) (y : S_api_Segment), (mg y r).length ≤ r.length + 1
 | [], y => by rw [mg]; simp
 | x :: r, y => by
  rw [mg]
  split
  ·have := mg_len r ⟨y.From, max y.To x.To⟩
   simp; omega
  ·have := mg_len r x
   simp; omega
theorem held_len (n : Int) (l : List S_api_Segment) : (heldL n l).length ≤ l.length := by
 have h1 := cutS_len n l
 have h2 := sortBy_len (fun a : S_api_Segment => a.From) (cutS n l)
 unfold heldL
 cases e : sortBy (fun a : S_api_Segment => a.From) (cutS n l) with
 | nil => simp [mg0]
 | cons x r =>
  rw [e] at h2
  have := mg_len r x
  rw [mg0]
  simp at h2
  omega
theorem span_v (F : Nat) (hF : 40 < F) (l : List S_api_Veto) (n : Int) : glitch_checkSpan F l n = some (bif vA l then (bif inR 1 n 1073741824 then 0 else 8) else 63) := by
 unfold glitch_checkSpan glitch_isSpan
 rw [are_v F hF, bnd_eq]
 cases vA l with
 | false => rfl
 | true =>
  rw [Bool.not_true, cond_false, gisF, bnd_eq, bnd_eq]
  cases inR 1 n 1073741824 <;> rfl
theorem hol1 (F : Nat) (l : List S_api_Segment) (hl : l.length ≤ 32) (t : Int) : ∀ (k N i : Nat), k = l.length - i → i ≤ l.length → k < N → glitch_holdsAt_1 F N l l.length i t = some (covL (l.drop i) t)
 | k, 0, i, _, _, h => by omega
 | 0, N + 1, i, hk, hi, _ => by
  rw [glitch_holdsAt_1, bif_neg' (by omega), List.drop_of_length_le (by omega : l.length ≤ i)]
  rfl
 | k + 1, N + 1, i, hk, hi, hN => by
  obtain ⟨x, hx⟩ := get_lt (l := l) (i := i) (by omega)
  have e : covL (x :: l.drop (i + 1)) t = ((decide (x.From ≤ t) && decide (t < x.To)) || covL (l.drop (i + 1)) t) := rfl
  rw [glitch_holdsAt_1, bif_pos' (by omega), idx_nat, hx, bnd_eq, drop_get hx, e]
  unfold glitch_holdsAt_2
  rw [up (by omega), hol1 F l hl t k N (i + 1) (by omega) (by omega) (by omega), decide_eq_true (show (0 : Int) ≤ (i : Int) by omega)]
  cases decide (x.From ≤ t) <;> cases decide (t < x.To) <;> rfl
theorem con1 (F : Nat) (hF : 40 < F) (l : List S_api_Veto) (hl : l.length ≤ 12) (hv : ∀ v ∈ l, v.Segments.length ≤ 32) (t : Int) (l0 : List S_api_Veto) : ∀ (k N i : Nat), k = l.length - i → i ≤ l.length → k < N → slices_ContainsFunc_80_h1_1 F l0 t N l l.length i = some (covV (l.drop i) t)
 | k, 0, i, _, _, h => by omega
 | 0, N + 1, i, hk, hi, _ => by
  rw [slices_ContainsFunc_80_h1_1, bif_neg' (by omega), List.drop_of_length_le (by omega : l.length ≤ i)]
  rfl
 | k + 1, N + 1, i, hk, hi, hN => by
  obtain ⟨x, hx⟩ := get_lt (l := l) (i := i) (by omega)
  have hxl := hv x (List.mem_of_getElem? hx)
  have h1 := hol1 F x.Segments hxl t x.Segments.length F 0 rfl (by omega) (by omega)
  rw [List.drop_zero] at h1
  have h2 : glitch_holdsAt F x t = some (covL x.Segments t) := h1
  have e : covV (x :: l.drop (i + 1)) t = (covL x.Segments t || covV (l.drop (i + 1)) t) := rfl
  rw [slices_ContainsFunc_80_h1_1, bif_pos' (by omega), idx_nat, hx, bnd_eq, h2, bnd_eq, drop_get hx, e, up (by omega), con1 F hF l hl hv t l0 k N (i + 1) (by omega) (by omega) (by omega), decide_eq_true (show (0 : Int) ≤ (i : Int) by omega)]
  cases covL x.Segments t <;> rfl
theorem pas1 (F : Nat) (hF : 40 < F) (l : List S_api_Veto) (hl : l.length ≤ 12) (hv : ∀ v ∈ l, v.Segments.length ≤ 32) (ts : List Int) (ht : ts.length ≤ 256) : ∀ (k N i : Nat) (acc : List Int), k = ts.length - i → i ≤ ts.length → k < N → acc.length ≤ i → glitch_passed_1 F N ts ts.length i l acc = some (acc ++ (ts.drop i).filter (fun t => !covV l t))
 | k, 0, i, acc, _, _, h, _ => by omega
 | 0, N + 1, i, acc, hk, hi, _, _ => by
  rw [glitch_passed_1, bif_neg' (by omega), List.drop_of_length_le (by omega : ts.length ≤ i)]
  simp
 | k + 1, N + 1, i, acc, hk, hi, hN, hacc => by
  obtain ⟨x, hx⟩ := get_lt (l := ts) (i := i) (by omega)
  have h1 := con1 F hF l hl hv x l l.length F 0 rfl (by omega) (by omega)
  rw [List.drop_zero] at h1
  have h2 : slices_ContainsFunc_80_h1 F l x = some (covV l x) := h1
  rw [glitch_passed_1, bif_pos' (by omega), idx_nat, hx, bnd_eq, h2, bnd_eq, drop_get hx]
  unfold glitch_passed_2
  rw [up (by omega)]
  cases e : covV l x with
  | false => rw [Bool.not_false, cond_true, apd_ok (by simp; omega) (by omega), bnd_eq, pas1 F hF l hl hv ts ht k N (i + 1) _ (by omega) (by omega) (by omega) (by simp; omega), List.filter_cons_of_pos (by simp [e]), List.append_assoc]; rfl
  | true => rw [Bool.not_true, cond_false, pas1 F hF l hl hv ts ht k N (i + 1) _ (by omega) (by omega) (by omega) (by omega), List.filter_cons_of_neg (by simp [e])]
def tmB : Int → List Int → Bool
 | _, [] => true
 | a, t :: r => inR (a + 1) t 1073741824 && tmB t r
theorem tim1 (F : Nat) (ts : List Int) (hl : ts.length ≤ 256) : ∀ (k N i : Nat) (last : Int), k = ts.length - i → i ≤ ts.length → k < N → -1 ≤ last → last ≤ 1073741824 → glitch_areTimes_1 F N last ts ts.length i = some (tmB last (ts.drop i))
 | k, 0, i, last, _, _, h, _, _ => by omega
 | 0, N + 1, i, last, hk, hi, _, _, _ => by
  rw [glitch_areTimes_1, bif_neg' (by omega), List.drop_of_length_le (by omega : ts.length ≤ i)]
  rfl
 | k + 1, N + 1, i, last, hk, hi, hN, h1, h2 => by
  obtain ⟨x, hx⟩ := get_lt (l := ts) (i := i) (by omega)
  have e : tmB last (x :: ts.drop (i + 1)) = (inR (last + 1) x 1073741824 && tmB x (ts.drop (i + 1))) := rfl
  rw [glitch_areTimes_1, bif_pos' (by omega), idx_nat, hx, bnd_eq, gisF, w64_id (n := last + 1) (by omega) (by omega), drop_get hx, e, bnd_eq]
  cases eb : inR (last + 1) x 1073741824 with
  | false => rfl
  | true =>
   have := inR_iff.1 eb
   rw [Bool.not_true, cond_false, up (by omega)]
   exact tim1 F ts hl k N (i + 1) x (by omega) (by omega) (by omega) (by omega) (by omega)
def tA (ts : List Int) : Bool := tmB (-1) ts && decide ((ts.length : Int) ≤ 256)
theorem tim_v (F : Nat) (hF : 300 < F) (ts : List Int) : glitch_areTimes F ts = some (tA ts) := by
 unfold glitch_areTimes tA
 by_cases h : ts.length ≤ 256
 ·have := tim1 F ts h ts.length F 0 (-1) rfl (by omega) (by omega) (by omega) (by omega)
  rw [List.drop_zero] at this
  rw [bif_neg' (by omega), decide_eq_true (by omega : (ts.length : Int) ≤ 256), Bool.and_true]
  exact this
 ·rw [bif_pos' (by omega), decide_eq_false (by omega : ¬ (ts.length : Int) ≤ 256), Bool.and_false]
def pasL (l : List S_api_Veto) (ts : List Int) : List Int := ts.filter fun t => !covV l t
theorem passed_v (F : Nat) (hF : 300 < F) (l : List S_api_Veto) (hl : l.length ≤ 12) (hv : ∀ v ∈ l, v.Segments.length ≤ 32) (ts : List Int) (ht : ts.length ≤ 256) : glitch_passed F l ts = some (pasL l ts) := by
 have e2 := pas1 F (by omega) l hl hv ts ht ts.length F 0 [] rfl (by omega) (by omega) (by simp)
 rw [List.drop_zero, List.nil_append] at e2
 exact e2
theorem Passed_v (F : Nat) (hF : 300 < F) (l : List S_api_Veto) (ts : List Int) : glitch_Passed F l ts = some (bif vA l then (bif tA ts then (pasL l ts, 0) else ([], 64)) else ([], 63)) := by
 unfold glitch_Passed
 rw [are_v F (by omega), bnd_eq]
 cases ev : vA l with
 | false => rfl
 | true =>
  rw [Bool.not_true, cond_false, tim_v F hF, bnd_eq]
  cases et : tA ts with
  | false => rfl
  | true =>
   have h := vsok ev
   have ht : ts.length ≤ 256 := by
    unfold tA at et
    simp only [Bool.and_eq_true, decide_eq_true_eq] at et
    omega
   rw [Bool.not_true, cond_false, passed_v F hF l h.len (fun v hv => (h.all v hv).len) ts ht, bnd_eq]
   rfl
theorem Held_v (F : Nat) (hF : 500 < F) (v : S_api_Veto) (n : Int) : glitch_Held F v n = some (bif vA [v] then (bif inR 1 n 1073741824 then (heldL n v.Segments, 0) else ([], 8)) else ([], 63)) := by
 unfold glitch_Held
 rw [span_v F (by omega), bnd_eq]
 cases ev : vA [v] with
 | false => rfl
 | true =>
  cases en : inR 1 n 1073741824 with
  | false => rfl
  | true =>
   have h := (vsok ev).all v List.mem_cons_self
   have := h.len
   show bnd (glitch_held F v.Segments n) _ = _
   rw [held_eq F (by omega) n v.Segments (by omega), bnd_eq]
   rfl
theorem ded2 (F : Nat) (n : Int) (hn : n ≤ 1073741824) (h : List S_api_Segment) (hh : h.length ≤ 480) (hi : ∀ s ∈ h, InS n s) : ∀ (k N i : Nat) (s : Int), k = h.length - i → i ≤ h.length → k < N → 0 ≤ s → s ≤ 1073741824 * i → glitch_dead_2 F N s h.length i h = some (s + totS (h.drop i))
 | k, 0, i, s, _, _, g, _, _ => by omega
 | 0, N + 1, i, s, hk, hi', _, _, _ => by
  rw [glitch_dead_2, bif_neg' (by omega), List.drop_of_length_le (by omega : h.length ≤ i)]
  simp [totS]
 | k + 1, N + 1, i, s, hk, hi', hN, h0, h1 => by
  obtain ⟨x, hx⟩ := get_lt (l := h) (i := i) (by omega)
  obtain ⟨a1, a2, a3⟩ := hi x (List.mem_of_getElem? hx)
  have e : totS (x :: h.drop (i + 1)) = (x.To - x.From) + totS (h.drop (i + 1)) := by
   unfold totS
   simp only [List.map_cons, List.sum_cons]
  rw [glitch_dead_2, bif_pos' (by omega), idx_nat, hx, bnd_eq, drop_get hx, e, w64_id (n := x.To - x.From) (by omega) (by omega), w64_id (n := s + (x.To - x.From)) (by omega) (by omega), up (by omega), ded2 F n hn h hh hi k N (i + 1) _ (by omega) (by omega) (by omega) (by omega) (by omega)]
  congr 1
  omega
def segs (l : List S_api_Veto) : List S_api_Segment := l.flatMap fun v => v.Segments
theorem segs_len : ∀ l : List S_api_Veto, (∀ v ∈ l, VOK v) → (segs l).length ≤ 32 * l.length
 | [], _ => Nat.le_refl _
 | v :: r, h => by
  have ih := segs_len r fun u hu => h u (List.mem_cons_of_mem _ hu)
  have := (h v List.mem_cons_self).len
  have e : segs (v :: r) = v.Segments ++ segs r := List.flatMap_cons
  rw [e, List.length_append, List.length_cons]
  omega
theorem segs_in {l : List S_api_Veto} (h : ∀ v ∈ l, VOK v) : ∀ s ∈ segs l, 0 ≤ s.From ∧ s.From < s.To ∧ s.To ≤ 1073741824 := fun s hs => by
 obtain ⟨v, hv, hs⟩ := List.mem_flatMap.1 hs
 exact (h v hv).all s hs
theorem held_sep (n : Int) (l : List S_api_Segment) (hl : ∀ s ∈ l, 0 ≤ s.From) : (∀ s ∈ heldL n l, InS n s) ∧ (∀ t : Int, t < n → covL (heldL n l) t = covL l t) ∧ SepF (-1) (heldL n l) := by
 have hp := sortBy_perm (fun a : S_api_Segment => a.From) (cutS n l)
 have hin : ∀ s ∈ sortBy (fun a : S_api_Segment => a.From) (cutS n l), InS n s := fun s hs => cutS_in n l hl s (hp.mem_iff.1 hs)
 have hpw : (sortBy (fun a : S_api_Segment => a.From) (cutS n l)).Pairwise (fun a b => a.From ≤ b.From) := by
  rw [List.pairwise_iff_getElem]
  intro i j hi hj hij
  exact sortBy_sorted (fun a : S_api_Segment => a.From) (cutS n l) i j _ _ hij (List.getElem?_eq_getElem hi) (List.getElem?_eq_getElem hj)
 have hcov : ∀ t : Int, t < n → covL (heldL n l) t = covL l t := fun t ht => by
  rw [← cutS_cov n t ht l, ← any_perm hp t]
  unfold heldL
  cases e : sortBy (fun a : S_api_Segment => a.From) (cutS n l) with
  | nil => rfl
  | cons x r =>
   rw [e] at hpw
   obtain ⟨p1, p2⟩ := List.pairwise_cons.1 hpw
   rw [mg0, mg_cov t r x p1 p2]
   rfl
 have hsep : (∀ s ∈ heldL n l, InS n s) ∧ SepF (-1) (heldL n l) := by
  unfold heldL
  cases e : sortBy (fun a : S_api_Segment => a.From) (cutS n l) with
  | nil => exact ⟨fun s hs => (nomatch hs), trivial⟩
  | cons x r =>
   rw [e] at hin
   have hx := hin x List.mem_cons_self
   rw [mg0]
   exact ⟨mg_in n r x hx (fun z hz => hin z (List.mem_cons_of_mem _ hz)), mg_sep r x (-1) (by have := hx.1; omega)⟩
 exact ⟨hsep.1, hcov, hsep.2⟩
theorem ded1 (F : Nat) (hF : 1000 < F) (n : Int) (h2 : n ≤ 1073741824) (l : List S_api_Veto) (hlen : l.length ≤ 13) (h : ∀ v ∈ l, VOK v) : ∀ (k N i : Nat) (acc : List S_api_Segment), k = l.length - i → i ≤ l.length → k < N → acc.length ≤ 32 * i → acc ++ segs (l.drop i) = segs l → glitch_dead_1 F N n l l.length i acc = some (totS (heldL n (segs l)))
 | k, 0, i, acc, _, _, g, _, _ => by omega
 | 0, N + 1, i, acc, hk, hi, _, ha, he => by
  rw [List.drop_of_length_le (by omega : l.length ≤ i)] at he
  have he' : acc = segs l := by
   rw [← he]
   exact (List.append_nil acc).symm
  subst he'
  have gl := held_len n (segs l)
  have sl := segs_len l h
  obtain ⟨g1, g2, g3⟩ := held_sep n (segs l) (fun s hs => (segs_in h s hs).1)
  rw [glitch_dead_1, bif_neg' (by omega), held_eq F (by omega) n _ (by omega), bnd_eq]
  have := ded2 F n h2 (heldL n (segs l)) (by omega) g1 (heldL n (segs l)).length F 0 0 rfl (by omega) (by omega) (Int.le_refl _) (by omega)
  rw [List.drop_zero, Int.zero_add] at this
  exact this
 | k + 1, N + 1, i, acc, hk, hi, hN, ha, he => by
  obtain ⟨x, hx⟩ := get_lt (l := l) (i := i) (by omega)
  have hxl := (h x (List.mem_of_getElem? hx)).len
  have es : segs (x :: l.drop (i + 1)) = x.Segments ++ segs (l.drop (i + 1)) := List.flatMap_cons
  rw [drop_get hx, es, ← List.append_assoc] at he
  rw [glitch_dead_1, bif_pos' (by omega), idx_nat, hx, bnd_eq, apd_ok (by omega) (by omega), bnd_eq, up (by omega)]
  exact ded1 F hF n h2 l hlen h k N (i + 1) _ (by omega) (by omega) (by omega) (by simp; omega) he
def ddL (n : Int) (l : List S_api_Veto) : Int := totS (heldL n (segs l))
theorem dead_v (F : Nat) (hF : 1000 < F) (n : Int) (h2 : n ≤ 1073741824) (l : List S_api_Veto) (hlen : l.length ≤ 13) (h : ∀ v ∈ l, VOK v) : glitch_dead F l n = some (ddL n l) := ded1 F hF n h2 l hlen h l.length F 0 [] rfl (by omega) (by omega) (by simp) (by simp)
theorem Dead_v (F : Nat) (hF : 1000 < F) (l : List S_api_Veto) (n : Int) : glitch_Dead F l n = some (bif vA l then (bif inR 1 n 1073741824 then (ddL n l, 0) else (0, 8)) else (0, 63)) := by
 unfold glitch_Dead
 rw [span_v F (by omega), bnd_eq]
 cases ev : vA l with
 | false => rfl
 | true =>
  cases en : inR 1 n 1073741824 with
  | false => rfl
  | true =>
   have h := vsok ev
   have := h.len
   show bnd (glitch_dead F l n) _ = _
   rw [dead_v F hF n (inR_iff.1 en).2 l (by omega) h.all, bnd_eq]
   rfl
end Go.Ev.GlitchVetoes
