/- The merge of the stable sort. -/
import Derived.Test.YtjddbfpinjjkkaaGreatDoorGlitchCountsMath4
namespace Go.Ev.GlitchCounts
open Go Go.Ev Go.Proofs
set_option linter.unusedVariables false
theorem mid_eq (a b : Nat) (h : a + b ≤ 2000000) : w64 (Int.fdiv (IntKind.wrap .u64 (w64 ((a : Int) + b))) (2 ^ (min 1 (IntKind.bits .u64)))) = (((a + b) / 2 : Nat) : Int) := by
 have e1 : IntKind.wrap .u64 (((a + b : Nat) : Int)) = ((a + b : Nat) : Int) := wrap_in .u64 _ (by show (0 : Int) ≤ _; omega) (by show ((a + b : Nat) : Int) ≤ 18446744073709551615; omega)
 have e2 : (2 : Int) ^ (min 1 (IntKind.bits .u64)) = 2 := by decide
 have e3 : (a : Int) + b = ((a + b : Nat) : Int) := by omega
 rw [e3, w64_id (n := ((a + b : Nat) : Int)) (by omega) (by omega), e1, e2, Int.fdiv_eq_ediv_of_nonneg _ (by omega), w64_id (by omega) (by omega)]
 rfl
theorem fdlt (F : Nat) (x y : S_api_Glitch) : ∃ r, glitch_glitches_f1 F x y = some r ∧ decide (r < 0) = decide (x.From < y.From) := by
 unfold glitch_glitches_f1 cmp_Compare cmp_isNaN
 rw [bnd_eq, bnd_eq, beq_self_eq_true, beq_self_eq_true, Bool.not_true, cond_false, cond_false]
 by_cases h : x.From < y.From
 ·rw [bif_pos' h, bnd_eq]
  exact ⟨-1, rfl, by simp [h]⟩
 ·rw [bif_neg' h]
  by_cases g : y.From < x.From
  ·rw [bif_pos' g, bnd_eq]
   exact ⟨1, rfl, by simp [h]⟩
  ·rw [bif_neg' g, bnd_eq]
   exact ⟨0, rfl, by simp [h]⟩
def Srt (l : List S_api_Glitch) : Prop := l.Pairwise fun a b => a.From ≤ b.From
theorem Srt.le {l : List S_api_Glitch} (h : Srt l) {s t : Nat} {a b : S_api_Glitch} (hst : s ≤ t) (ha : l[s]? = some a) (hb : l[t]? = some b) : a.From ≤ b.From := by
 obtain ⟨hs, rfl⟩ := List.getElem?_eq_some_iff.1 ha
 obtain ⟨ht, rfl⟩ := List.getElem?_eq_some_iff.1 hb
 rcases Nat.lt_or_eq_of_le hst with hlt | rfl
 ·exact List.pairwise_iff_getElem.1 h s t hs ht hlt
 ·exact Int.le_refl _
section
variable (F : Nat) (e1 e2 e3 : Int)
theorem sh3 (el : List S_api_Glitch) (x : S_api_Glitch) (B : List S_api_Glitch) : ∀ (A P : List S_api_Glitch) (N b : Nat), A.length < N → b = P.length + 1 + A.length → b ≤ 1000000 →
  slices_symMergeCmpFunc_h1_3 F e1 e2 e3 el N b P.length (P ++ x :: (A ++ B)) = some (P ++ (A ++ x :: B))
 | A, P, 0, b, h, _, _ => by omega
 | [], P, N + 1, b, h, hb, hb2 => by
  have e : w64 ((b : Int) - 1) = ((b - 1 : Nat) : Int) := by rw [w64_id (by omega) (by omega)]; omega
  simp only [List.length_nil] at hb
  rw [slices_symMergeCmpFunc_h1_3, e, bif_neg' (by omega)]
  rfl
 | y :: A, P, N + 1, b, h, hb, hb2 => by
  simp only [List.length_cons] at h hb
  have e : w64 ((b : Int) - 1) = ((b - 1 : Nat) : Int) := by rw [w64_id (by omega) (by omega)]; omega
  have ih := sh3 el x B A (P ++ [y]) N b (by omega) (by simp; omega) hb2
  have ej : w64 ((P.length : Int) + 1) = ((P.length + 1 + ([] : List S_api_Glitch).length : Nat) : Int) := up (by omega)
  have el' : (P ++ [y]).length = P.length + 1 := by simp
  rw [slices_symMergeCmpFunc_h1_3, e, bif_pos' (by omega)]
  refine (swap_ok P [] (A ++ B) x y rfl ej _).trans ?_
  rw [el'] at ih
  rw [ej]
  have e0 : P ++ y :: ([] ++ x :: (A ++ B)) = (P ++ [y]) ++ x :: (A ++ B) := by simp
  rw [e0]
  refine Eq.trans ih ?_
  simp
theorem sh2 (hF : 10000 < F) (x : S_api_Glitch) (A P B : List S_api_Glitch) (b : Nat) (hA : A.length ≤ 2000) (hb : b = P.length + 1 + A.length) (hb2 : b ≤ 1000000) :
  slices_symMergeCmpFunc_h1_2 F e1 e2 e3 (P ++ x :: (A ++ B)) F b P.length = some (P ++ (A ++ x :: B)) := by
 obtain ⟨F', hF'⟩ : ∃ F', F = F' + 1 := ⟨F - 1, by omega⟩
 have e : w64 ((b : Int) - 1) = ((b - 1 : Nat) : Int) := by rw [w64_id (by omega) (by omega)]; omega
 have unf : ∀ el, slices_symMergeCmpFunc_h1_2 F e1 e2 e3 el F b P.length = slices_symMergeCmpFunc_h1_2 F e1 e2 e3 el (F' + 1) b P.length := fun el => by rw [hF']
 rw [unf, slices_symMergeCmpFunc_h1_2, e]
 match A, hA, hb with
 | [], hA, hb =>
  simp only [List.length_nil] at hb
  rw [bif_neg' (by omega)]
  rfl
 | y :: A, hA, hb =>
  simp only [List.length_cons] at hA hb
  rw [bif_pos' (by omega)]
  have ih := sh3 F e1 e2 e3 (P ++ x :: (y :: A ++ B)) x B A (P ++ [y]) F b (by omega) (by simp; omega) hb2
  have ej : w64 ((P.length : Int) + 1) = ((P.length + 1 + ([] : List S_api_Glitch).length : Nat) : Int) := up (by omega)
  have el' : (P ++ [y]).length = P.length + 1 := by simp
  rw [el'] at ih
  refine (swap_ok P [] (A ++ B) x y rfl ej (fun l101 => slices_symMergeCmpFunc_h1_3 F e1 e2 e3 (P ++ x :: (y :: A ++ B)) F b (w64 ((P.length : Int) + 1)) l101)).trans ?_
  have e0 : P ++ y :: ([] ++ x :: (A ++ B)) = (P ++ [y]) ++ x :: (A ++ B) := by simp
  rw [e0, ej]
  refine Eq.trans ih ?_
  simp
theorem sh6 (el : List S_api_Glitch) (y : S_api_Glitch) (P : List S_api_Glitch) : ∀ (k : Nat) (A B : List S_api_Glitch) (N v : Nat), A.length = k → k < N → v = P.length + k → v ≤ 1000000 →
  slices_symMergeCmpFunc_h1_6 F e1 e2 e3 el N P.length v (P ++ A ++ y :: B) = some (P ++ y :: (A ++ B))
 | k, A, B, 0, v, _, h, _, _ => by omega
 | 0, A, B, N + 1, v, hA, h, hv, hv2 => by
  obtain rfl := List.eq_nil_of_length_eq_zero hA
  rw [slices_symMergeCmpFunc_h1_6, bif_neg' (by omega)]
  simp
 | k + 1, A, B, N + 1, v, hA, h, hv, hv2 => by
  rcases List.eq_nil_or_concat A with rfl | ⟨A', a, rfl⟩
  ·simp at hA
  ·have hA' : A'.length = k := by simpa using hA
   have ih := sh6 el y P k A' (a :: B) N (P.length + k) hA' (by omega) rfl (by omega)
   have ei : w64 ((v : Int) - 1) = ((P ++ A').length : Nat) := by rw [w64_id (by omega) (by omega)]; simp; omega
   have ev : (v : Int) = (((P ++ A').length + 1 + ([] : List S_api_Glitch).length : Nat) : Int) := by simp; omega
   have e0 : P ++ (A'.concat a) ++ y :: B = (P ++ A') ++ a :: ([] ++ y :: B) := by simp
   rw [slices_symMergeCmpFunc_h1_6, bif_pos' (by omega), e0]
   refine (swap_ok' (P ++ A') [] B a y ei ev _).trans ?_
   have e1' : w64 ((v : Int) - 1) = ((P.length + k : Nat) : Int) := by rw [w64_id (by omega) (by omega)]; omega
   have e2' : P ++ A' ++ y :: ([] ++ a :: B) = P ++ A' ++ y :: (a :: B) := by simp
   rw [e1', e2', ih]
   simp
theorem sh5 (hF : 10000 < F) (y : S_api_Glitch) (P A B : List S_api_Glitch) (v : Nat) (hA : A.length ≤ 2000) (hv : v = P.length + A.length) (hv2 : v ≤ 1000000) :
  slices_symMergeCmpFunc_h1_5 F e1 e2 e3 (P ++ A ++ y :: B) F P.length v = some (P ++ y :: (A ++ B)) := by
 obtain ⟨F', hF'⟩ : ∃ F', F = F' + 1 := ⟨F - 1, by omega⟩
 have unf : ∀ el, slices_symMergeCmpFunc_h1_5 F e1 e2 e3 el F P.length v = slices_symMergeCmpFunc_h1_5 F e1 e2 e3 el (F' + 1) P.length v := fun el => by rw [hF']
 rw [unf, slices_symMergeCmpFunc_h1_5]
 rcases List.eq_nil_or_concat A with rfl | ⟨A', a, rfl⟩
 ·simp only [List.length_nil] at hv
  rw [bif_neg' (by omega)]
  simp
 ·simp only [List.concat_eq_append, List.length_append, List.length_cons, List.length_nil] at hA hv
  have ei : w64 ((v : Int) - 1) = ((P ++ A').length : Nat) := by rw [w64_id (by omega) (by omega)]; simp; omega
  have ev : (v : Int) = (((P ++ A').length + 1 + ([] : List S_api_Glitch).length : Nat) : Int) := by simp; omega
  have ih := sh6 F e1 e2 e3 (P ++ A' ++ a :: ([] ++ y :: B)) y P A'.length A' (a :: B) F (P.length + A'.length) rfl (by omega) rfl (by omega)
  have e0 : P ++ (A'.concat a) ++ y :: B = (P ++ A') ++ a :: ([] ++ y :: B) := by simp
  rw [bif_pos' (by omega), e0]
  refine (swap_ok' (P ++ A') [] B a y ei ev (fun l => slices_symMergeCmpFunc_h1_6 F e1 e2 e3 (P ++ A' ++ a :: ([] ++ y :: B)) F P.length (w64 ((v : Int) - 1)) l)).trans ?_
  have e1' : w64 ((v : Int) - 1) = ((P.length + A'.length : Nat) : Int) := by rw [w64_id (by omega) (by omega)]; omega
  have e2' : P ++ A' ++ y :: ([] ++ a :: B) = P ++ A' ++ y :: (a :: B) := by simp
  rw [e1', e2', ih]
  simp
theorem get_mid {P L R : List S_api_Glitch} {t : Nat} (h : t < L.length) : (P ++ (L ++ R))[P.length + t]? = L[t]? := by
 rw [List.getElem?_append_right (by omega), show P.length + t - P.length = t by omega, List.getElem?_append_left h]
theorem bsL (x : S_api_Glitch) (P R Q : List S_api_Glitch) (hR : Srt R) (hl : P.length + 1 + R.length ≤ 1000000) : ∀ (k N i j : Nat), k = j - i → i ≤ j → j ≤ R.length → k < N →
  (∀ t z, t < i → R[t]? = some z → z.From < x.From) → (∀ t z, j ≤ t → R[t]? = some z → x.From ≤ z.From) →
  ∃ r, r ≤ R.length ∧ (∀ t z, t < r → R[t]? = some z → z.From < x.From) ∧ (∀ t z, r ≤ t → R[t]? = some z → x.From ≤ z.From) ∧
   slices_symMergeCmpFunc_h1_1 F e1 e2 e3 (P ++ x :: (R ++ Q)) N P.length ((P.length + 1 + i : Nat) : Int) ((P.length + 1 + j : Nat) : Int) = slices_symMergeCmpFunc_h1_2 F e1 e2 e3 (P ++ x :: (R ++ Q)) F ((P.length + 1 + r : Nat) : Int) P.length := by
 intro k
 induction k using Nat.strongRecOn with
 | _ k ih =>
  intro N i j hk hij hj hN h1 h2
  match N, hN with
  | N + 1, hN =>
   by_cases hlt : i < j
   ·have em := mid_eq (P.length + 1 + i) (P.length + 1 + j) (by omega)
    have em2 : (P.length + 1 + i + (P.length + 1 + j)) / 2 = P.length + 1 + (i + j) / 2 := by omega
    rw [em2] at em
    obtain ⟨z, hz⟩ := get_lt (l := R) (i := (i + j) / 2) (by omega)
    have hz' : (P ++ x :: (R ++ Q))[P.length + 1 + (i + j) / 2]? = some z := by
     have := get_mid (P := P ++ [x]) (L := R) (R := Q) (t := (i + j) / 2) (by omega)
     rw [hz] at this
     simpa using this
    obtain ⟨r, hr, hr2⟩ := fdlt F z x
    rw [slices_symMergeCmpFunc_h1_1, bif_pos' (by omega), em, idx_nat, hz', bnd_eq, idx_nat, get_at, bnd_eq, hr, bnd_eq, hr2]
    by_cases hc : z.From < x.From
    ·rw [bif_pos' hc, up (by omega)]
     exact ih (j - ((i + j) / 2 + 1)) (by omega) N ((i + j) / 2 + 1) j rfl (by omega) hj (by omega) (fun t q ht hq => by have := hR.le (show t ≤ (i + j) / 2 by omega) hq hz; omega) h2
    ·rw [bif_neg' hc]
     exact ih ((i + j) / 2 - i) (by omega) N i ((i + j) / 2) rfl (by omega) (by omega) (by omega) h1 (fun t q ht hq => by have := hR.le (show (i + j) / 2 ≤ t by omega) hz hq; omega)
   ·obtain rfl : i = j := by omega
    rw [slices_symMergeCmpFunc_h1_1, bif_neg' (by omega)]
    exact ⟨i, hj, h1, h2, rfl⟩
theorem bsR (y : S_api_Glitch) (P L Q : List S_api_Glitch) (hL : Srt L) (hl : P.length + L.length ≤ 1000000) : ∀ (k N i j : Nat), k = j - i → i ≤ j → j ≤ L.length → k < N →
  (∀ t z, t < i → L[t]? = some z → z.From ≤ y.From) → (∀ t z, j ≤ t → L[t]? = some z → y.From < z.From) →
  ∃ r, r ≤ L.length ∧ (∀ t z, t < r → L[t]? = some z → z.From ≤ y.From) ∧ (∀ t z, r ≤ t → L[t]? = some z → y.From < z.From) ∧
   slices_symMergeCmpFunc_h1_4 F e1 e2 e3 (P ++ (L ++ y :: Q)) N ((P.length + L.length : Nat) : Int) ((P.length + i : Nat) : Int) ((P.length + j : Nat) : Int) = slices_symMergeCmpFunc_h1_5 F e1 e2 e3 (P ++ (L ++ y :: Q)) F ((P.length + r : Nat) : Int) ((P.length + L.length : Nat) : Int) := by
 intro k
 induction k using Nat.strongRecOn with
 | _ k ih =>
  intro N i j hk hij hj hN h1 h2
  match N, hN with
  | N + 1, hN =>
   by_cases hlt : i < j
   ·have em := mid_eq (P.length + i) (P.length + j) (by omega)
    have em2 : (P.length + i + (P.length + j)) / 2 = P.length + (i + j) / 2 := by omega
    rw [em2] at em
    obtain ⟨z, hz⟩ := get_lt (l := L) (i := (i + j) / 2) (by omega)
    have hz' : (P ++ (L ++ y :: Q))[P.length + (i + j) / 2]? = some z := by rw [get_mid (by omega), hz]
    have hy : (P ++ (L ++ y :: Q))[P.length + L.length]? = some y := by
     simp
    obtain ⟨r, hr, hr2⟩ := fdlt F y z
    rw [slices_symMergeCmpFunc_h1_4, bif_pos' (by omega), em, idx_nat, hy, bnd_eq, idx_nat, hz', bnd_eq, hr, bnd_eq, hr2]
    by_cases hc : y.From < z.From
    ·rw [decide_eq_true hc, Bool.not_true, cond_false]
     exact ih ((i + j) / 2 - i) (by omega) N i ((i + j) / 2) rfl (by omega) (by omega) (by omega) h1 (fun t q ht hq => by have := hL.le (show (i + j) / 2 ≤ t by omega) hz hq; omega)
    ·rw [decide_eq_false hc, Bool.not_false, cond_true, up (by omega)]
     exact ih (j - ((i + j) / 2 + 1)) (by omega) N ((i + j) / 2 + 1) j rfl (by omega) hj (by omega) (fun t q ht hq => by have := hL.le (show t ≤ (i + j) / 2 by omega) hq hz; omega) h2
   ·obtain rfl : i = j := by omega
    rw [slices_symMergeCmpFunc_h1_4, bif_neg' (by omega)]
    exact ⟨i, hj, h1, h2, rfl⟩
end
end Go.Ev.GlitchCounts
namespace Go.Ev.GlitchCounts
open Go Go.Ev Go.Proofs
set_option linter.unusedVariables false
section
variable (F : Nat) (e1 e2 e3 : Int)
def EdL (el : List S_api_Glitch) (n lo q : Nat) : Prop := q = lo ∨ ∃ x y, el[q - 1]? = some x ∧ el[n - q]? = some y ∧ x.From ≤ y.From
def EdR (el : List S_api_Glitch) (p r0 q : Nat) : Prop := q = r0 ∨ ∃ x y, el[q]? = some x ∧ el[p - q]? = some y ∧ y.From < x.From
theorem bsM (el : List S_api_Glitch) (hdR : Int → Int → Int → List S_api_Glitch → Option (List S_api_Glitch)) (a m b mid n lo r0 p : Nat) (hn : n ≤ 1000000) (hp : p + 1 = n) (hel : r0 ≤ 1000000) (hr0 : r0 ≤ el.length) (hp2 : ∀ c, lo ≤ c → c < r0 → c ≤ p ∧ p - c < el.length) : ∀ (k N s r : Nat), k = r - s → lo ≤ s → s ≤ r → r ≤ r0 → k < N →
  EdL el n lo s → EdR el p r0 r →
  ∃ q : Nat, lo ≤ q ∧ q ≤ r0 ∧ EdL el n lo q ∧ EdR el p r0 q ∧
   slices_symMergeCmpFunc_h1_8 F e1 e2 e3 el hdR N a m b mid n s r p = (bif decide ((q : Int) < m) then slices_symMergeCmpFunc_h1_9 F e1 e2 e3 el hdR a m b mid q (w64 ((n : Int) - q)) (decide ((m : Int) < w64 ((n : Int) - q))) else slices_symMergeCmpFunc_h1_9 F e1 e2 e3 el hdR a m b mid q (w64 ((n : Int) - q)) false) := by
 intro k
 induction k using Nat.strongRecOn with
 | _ k ih =>
  intro N s r hk hlo hsr hr hN h1 h2
  match N, hN with
  | N + 1, hN =>
   by_cases hlt : s < r
   ·have em := mid_eq s r (by omega)
    have hc := hp2 ((s + r) / 2) (by omega) (by omega)
    have ep : w64 ((p : Int) - (((s + r) / 2 : Nat) : Int)) = ((p - (s + r) / 2 : Nat) : Int) := by rw [w64_id (by omega) (by omega)]; omega
    obtain ⟨y, hy⟩ := get_lt (l := el) (i := p - (s + r) / 2) hc.2
    obtain ⟨x, hx⟩ := get_lt (l := el) (i := (s + r) / 2) (by omega)
    obtain ⟨g, hg, hg2⟩ := fdlt F y x
    rw [slices_symMergeCmpFunc_h1_8, bif_pos' (by omega), em, ep, idx_nat, hy, bnd_eq, idx_nat, hx, bnd_eq, hg, bnd_eq, hg2]
    by_cases hyx : y.From < x.From
    ·rw [decide_eq_true hyx, Bool.not_true, cond_false]
     exact ih ((s + r) / 2 - s) (by omega) N s ((s + r) / 2) rfl hlo (by omega) (by omega) (by omega) h1 (.inr ⟨x, y, hx, hy, hyx⟩)
    ·rw [decide_eq_false hyx, Bool.not_false, cond_true, up (by omega)]
     have e : n - ((s + r) / 2 + 1) = p - (s + r) / 2 := by omega
     exact ih (r - ((s + r) / 2 + 1)) (by omega) N ((s + r) / 2 + 1) r rfl (by omega) (by omega) hr (by omega) (.inr ⟨x, y, by rw [Nat.add_sub_cancel]; exact hx, by rw [e]; exact hy, by omega⟩) h2
   ·obtain rfl : s = r := by omega
    rw [slices_symMergeCmpFunc_h1_8, bif_neg' (by omega)]
    exact ⟨s, hlo, hr, h1, h2, rfl⟩
theorem srt_split {A B : List S_api_Glitch} (h : Srt (A ++ B)) : Srt A ∧ Srt B ∧ ∀ x ∈ A, ∀ y ∈ B, x.From ≤ y.From := List.pairwise_append.1 h
theorem srt_join {A B : List S_api_Glitch} (ha : Srt A) (hb : Srt B) (h : ∀ x ∈ A, ∀ y ∈ B, x.From ≤ y.From) : Srt (A ++ B) := List.pairwise_append.2 ⟨ha, hb, h⟩
end
def Mrg (hd : Int → Int → Int → List S_api_Glitch → Option (List S_api_Glitch)) (k : Nat) : Prop := ∀ (P L R Q : List S_api_Glitch) (a m b : Nat), Srt L → Srt R → 0 < L.length → 0 < R.length → L.length + R.length ≤ k → a = P.length → m = a + L.length → b = m + R.length → b ≤ 1100 →
  ∃ S, hd a m b (P ++ (L ++ (R ++ Q))) = some (P ++ (S ++ Q)) ∧ S.Perm (L ++ R) ∧ Srt S
theorem half (hd : Int → Int → Int → List S_api_Glitch → Option (List S_api_Glitch)) (k : Nat) (h : Mrg hd k) (P L R Q : List S_api_Glitch) (a m b : Nat) (hL : Srt L) (hR : Srt R) (hk : L.length + R.length ≤ k) (ha : a = P.length) (hm : m = a + L.length) (hb : b = m + R.length) (hb2 : b ≤ 1100) :
  ∃ S, (if a < m ∧ m < b then hd a m b (P ++ (L ++ (R ++ Q))) else some (P ++ (L ++ (R ++ Q)))) = some (P ++ (S ++ Q)) ∧ S.Perm (L ++ R) ∧ Srt S := by
 by_cases g : a < m ∧ m < b
 ·rw [if_pos g]
  exact h P L R Q a m b hL hR (by omega) (by omega) hk ha hm hb hb2
 ·rw [if_neg g]
  refine ⟨L ++ R, by simp, .refl _, ?_⟩
  by_cases g2 : a < m
  ·have : R = [] := List.eq_nil_of_length_eq_zero (by omega)
   subst this
   rw [List.append_nil]; exact hL
  ·have : L = [] := List.eq_nil_of_length_eq_zero (by omega)
   subst this
   exact hR
theorem h16 (F : Nat) (e1 e2 e3 : Int) (el : List S_api_Glitch) (hd : Int → Int → Int → List S_api_Glitch → Option (List S_api_Glitch)) (a b mid s e : Nat) (l l1 l2 : List S_api_Glitch) (h1 : (if a < s ∧ s < mid then hd a s mid l else some l) = some l1) (h2 : (if mid < e ∧ e < b then hd mid e b l1 else some l1) = some l2) : slices_symMergeCmpFunc_h1_16 F e1 e2 e3 el hd a b mid s e l = some l2 := by
 have k2 : slices_symMergeCmpFunc_h1_18 F e1 e2 e3 el hd b mid e l1 = some l2 := by
  unfold slices_symMergeCmpFunc_h1_18 slices_symMergeCmpFunc_h1_19
  by_cases g : mid < e
  ·rw [bif_pos' (by omega)]
   by_cases g2 : e < b
   ·rw [decide_eq_true (by omega), cond_true]
    rw [if_pos ⟨g, g2⟩] at h2
    rw [h2, bnd_eq]
   ·rw [decide_eq_false (by omega), cond_false]
    rw [if_neg (by omega)] at h2
    exact h2
  ·rw [bif_neg' (by omega), cond_false]
   rw [if_neg (by omega)] at h2
   exact h2
 unfold slices_symMergeCmpFunc_h1_16 slices_symMergeCmpFunc_h1_17
 by_cases g : a < s
 ·rw [bif_pos' (by omega)]
  by_cases g2 : s < mid
  ·rw [decide_eq_true (by omega), cond_true]
   rw [if_pos ⟨g, g2⟩] at h1
   rw [h1, bnd_eq]
   exact k2
  ·rw [decide_eq_false (by omega), cond_false]
   rw [if_neg (by omega)] at h1
   cases h1
   exact k2
 ·rw [bif_neg' (by omega), cond_false]
  rw [if_neg (by omega)] at h1
  cases h1
  exact k2
end Go.Ev.GlitchCounts
namespace Go.Ev.GlitchCounts
open Go Go.Ev Go.Proofs
set_option linter.unusedVariables false
theorem get_lo {P L X : List S_api_Glitch} {t : Nat} (h : t < L.length) : (P ++ (L ++ X))[P.length + t]? = L[t]? := get_mid h
theorem mem_ix {l : List S_api_Glitch} {x : S_api_Glitch} (h : x ∈ l) : ∃ t, t < l.length ∧ l[t]? = some x := by
 obtain ⟨t, ht, e⟩ := List.getElem_of_mem h
 exact ⟨t, ht, by rw [List.getElem?_eq_getElem ht, e]⟩
theorem ins_ok (x : S_api_Glitch) (R : List S_api_Glitch) (r : Nat) (hR : Srt R) (h1 : ∀ t z, t < r → R[t]? = some z → z.From ≤ x.From) (h2 : ∀ t z, r ≤ t → R[t]? = some z → x.From ≤ z.From) : Srt (R.take r ++ x :: R.drop r) := by
 have hs : Srt (R.take r ++ R.drop r) := by rw [List.take_append_drop]; exact hR
 obtain ⟨s1, s2, s3⟩ := srt_split hs
 have k1 : ∀ z ∈ R.take r, z.From ≤ x.From := fun z hz => by
  obtain ⟨t, ht, e⟩ := mem_ix hz
  rw [List.getElem?_take] at e
  split at e
  ·exact h1 t z (by assumption) e
  ·exact nomatch e
 have k2 : ∀ z ∈ R.drop r, x.From ≤ z.From := fun z hz => by
  obtain ⟨t, ht, e⟩ := mem_ix hz
  rw [List.getElem?_drop] at e
  exact h2 (r + t) z (by omega) e
 refine srt_join s1 (List.pairwise_cons.2 ⟨k2, s2⟩) fun a ha b hb => ?_
 rcases List.mem_cons.1 hb with rfl | hb
 ·exact k1 a ha
 ·exact s3 a ha b hb
theorem cross (P L1 L2 R1 R2 Q : List S_api_Glitch) (a m b mid n s p lo r0 : Nat) (hL : Srt (L1 ++ L2)) (hR : Srt (R1 ++ R2)) (ha : a = P.length) (hs : s = a + L1.length) (hm : m = s + L2.length) (hn : n = mid + m) (hp : p + 1 = n) (he : n - s = m + R1.length) (hb : b = m + R1.length + R2.length)
  (hlo : lo = a ∨ lo = n - b) (hr0 : r0 = mid ∨ r0 = m) (hsn : s < n)
  (h1 : EdL (P ++ ((L1 ++ L2) ++ ((R1 ++ R2) ++ Q))) n lo s) (h2 : EdR (P ++ ((L1 ++ L2) ++ ((R1 ++ R2) ++ Q))) p r0 s) : ∀ x ∈ L1 ++ R1, ∀ y ∈ L2 ++ R2, x.From ≤ y.From := by
 obtain ⟨l1, l2, l3⟩ := srt_split hL
 obtain ⟨q1, q2, q3⟩ := srt_split hR
 have gL : ∀ t, t < L1.length + L2.length → (P ++ ((L1 ++ L2) ++ ((R1 ++ R2) ++ Q)))[a + t]? = (L1 ++ L2)[t]? := fun t ht => by rw [ha]; exact get_lo (by simpa using ht)
 have gR : ∀ t, t < R1.length + R2.length → (P ++ ((L1 ++ L2) ++ ((R1 ++ R2) ++ Q)))[m + t]? = (R1 ++ R2)[t]? := fun t ht => by
  have := get_lo (P := P ++ (L1 ++ L2)) (L := R1 ++ R2) (X := Q) (t := t) (by simpa using ht)
  rw [List.append_assoc P] at this
  rw [← this]
  congr 1
  simp
  omega
 have cLR : ∀ x ∈ L1, ∀ y ∈ R2, x.From ≤ y.From := fun x hx y hy => by
  have p1 := List.length_pos_of_mem hx
  have p2 := List.length_pos_of_mem hy
  rcases h1 with h | ⟨u, v, hu, hv, huv⟩
  ·exfalso; rcases hlo with g | g <;> omega
  ·obtain ⟨t, ht, e⟩ := mem_ix hx
   obtain ⟨w, hw, f⟩ := mem_ix hy
   have eu : (L1 ++ L2)[s - 1 - a]? = some u := by
    rw [← gL (s - 1 - a) (by omega), show a + (s - 1 - a) = s - 1 by omega]; exact hu
   have ev : (R1 ++ R2)[n - s - m]? = some v := by
    rw [← gR (n - s - m) (by omega), show m + (n - s - m) = n - s by omega]; exact hv
   have e' : (L1 ++ L2)[t]? = some x := by rw [List.getElem?_append_left ht]; exact e
   have f' : (R1 ++ R2)[R1.length + w]? = some y := by rw [List.getElem?_append_right (by omega), show R1.length + w - R1.length = w by omega]; exact f
   have k1 := hL.le (show t ≤ s - 1 - a by omega) e' eu
   have k2 := hR.le (show n - s - m ≤ R1.length + w by omega) ev f'
   omega
 have cRL : ∀ x ∈ R1, ∀ y ∈ L2, x.From ≤ y.From := fun x hx y hy => by
  have p1 := List.length_pos_of_mem hx
  have p2 := List.length_pos_of_mem hy
  rcases h2 with h | ⟨u, v, hu, hv, huv⟩
  ·exfalso; rcases hr0 with g | g <;> omega
  ·obtain ⟨t, ht, e⟩ := mem_ix hx
   obtain ⟨w, hw, f⟩ := mem_ix hy
   have eu : (L1 ++ L2)[s - a]? = some u := by
    rw [← gL (s - a) (by omega), show a + (s - a) = s by omega]; exact hu
   have ev : (R1 ++ R2)[p - s - m]? = some v := by
    rw [← gR (p - s - m) (by omega), show m + (p - s - m) = p - s by omega]; exact hv
   have e' : (R1 ++ R2)[t]? = some x := by rw [List.getElem?_append_left ht]; exact e
   have f' : (L1 ++ L2)[L1.length + w]? = some y := by rw [List.getElem?_append_right (by omega), show L1.length + w - L1.length = w by omega]; exact f
   have k1 := hR.le (show t ≤ p - s - m by omega) e' ev
   have k2 := hL.le (show s - a ≤ L1.length + w by omega) eu f'
   omega
 intro x hx y hy
 rcases List.mem_append.1 hx with hx | hx <;> rcases List.mem_append.1 hy with hy | hy
 ·exact l3 x hx y hy
 ·exact cLR x hx y hy
 ·exact cRL x hx y hy
 ·exact q3 x hx y hy
theorem sym_main (F k : Nat) (IH : Mrg (slices_symMergeCmpFunc_h1 F) k) (hN : 10001 + k < F) (P L R Q : List S_api_Glitch) (a m b mid lo r0 n p : Nat) (hL : Srt L) (hR : Srt R) (c1 : 2 ≤ L.length) (c2 : 2 ≤ R.length) (hk : L.length + R.length ≤ k + 1) (ha : a = P.length) (hm : m = a + L.length) (hb : b = m + R.length) (hb2 : b ≤ 1100) (hm1 : 2 * mid ≤ a + b) (hm2 : a + b ≤ 2 * mid + 1) (hcase : lo = a ∧ r0 = m ∧ m ≤ mid ∨ lo = mid + m - b ∧ r0 = mid ∧ mid < m) (hn : n = mid + m) (hp : p + 1 = n) :
  ∃ S, slices_symMergeCmpFunc_h1_8 F a m b (P ++ (L ++ (R ++ Q))) (slices_symMergeCmpFunc_h1 F) F a m b mid n lo r0 p = some (P ++ (S ++ Q)) ∧ S.Perm (L ++ R) ∧ Srt S := by
 have hgl : (P ++ (L ++ (R ++ Q))).length = P.length + (L.length + (R.length + Q.length)) := by simp
 have hr0 : r0 ≤ m := by omega
 have hw1 : a ≤ lo ∧ lo ≤ r0 ∧ r0 ≤ mid := by omega
 have hw2 : ∀ c, lo ≤ c → c < r0 → c ≤ p ∧ p - c < (P ++ (L ++ (R ++ Q))).length := fun c h3 h4 => by
  rw [hgl]
  clear hgl
  omega
 obtain ⟨s, s1, s2, s3, s4, s5⟩ := bsM F a m b (P ++ (L ++ (R ++ Q))) (slices_symMergeCmpFunc_h1 F) a m b mid n lo r0 p (by omega) hp (by omega) (by rw [hgl]; omega) hw2 (r0 - lo) F lo r0 rfl (Nat.le_refl _) hw1.2.1 (Nat.le_refl _) (by omega) (.inl rfl) (.inl rfl)
 clear hw2 hgl
 have hs1 : a ≤ s ∧ s ≤ m ∧ s ≤ mid := by omega
 have hs2 : n - s ≤ b ∧ m ≤ n - s := by omega
 have hlo' : lo = a ∨ lo = n - b := by omega
 have hr0' : r0 = mid ∨ r0 = m := by omega
 clear hcase
 obtain ⟨e, he⟩ : ∃ e, e + s = n := ⟨n - s, by omega⟩
 have he2 : m ≤ e ∧ e ≤ b := by omega
 have ee : w64 ((n : Int) - s) = (e : Int) := by rw [w64_id (by omega) (by omega)]; omega
 rw [ee] at s5
 have hL1 : (L.take (s - a)).length = s - a := by rw [List.length_take]; omega
 have hL2 : (L.drop (s - a)).length = m - s := by rw [List.length_drop]; omega
 have hR1 : (R.take (e - m)).length = e - m := by rw [List.length_take]; omega
 have hR2 : (R.drop (e - m)).length = b - e := by rw [List.length_drop]; omega
 have eL : L = L.take (s - a) ++ L.drop (s - a) := (List.take_append_drop _ L).symm
 have eR : R = R.take (e - m) ++ R.drop (e - m) := (List.take_append_drop _ R).symm
 generalize L.take (s - a) = L1 at hL1 eL
 generalize L.drop (s - a) = L2 at hL2 eL
 generalize R.take (e - m) = R1 at hR1 eR
 generalize R.drop (e - m) = R2 at hR2 eR
 subst eL
 subst eR
 have hx := cross P L1 L2 R1 R2 Q a m b mid n s p lo r0 hL hR ha (by omega) (by omega) hn hp (by omega) (by omega) hlo' hr0' (by omega) s3 s4
 obtain ⟨l1, l2, _⟩ := srt_split hL
 obtain ⟨q1, q2, _⟩ := srt_split hR
 simp only [List.length_append] at hk hm hb c1 c2
 obtain ⟨S1, t1, t2, t3⟩ := half _ k IH P L1 R1 (L2 ++ (R2 ++ Q)) a s mid l1 q1 (by omega) ha (by omega) (by omega) (by omega)
 have hS1 := t2.length_eq
 rw [List.length_append] at hS1
 obtain ⟨S2, u1, u2, u3⟩ := half _ k IH (P ++ S1) L2 R2 Q mid e b l2 q2 (by omega) (by rw [List.length_append]; omega) (by omega) (by omega) (by omega)
 have ea : P ++ S1 ++ (L2 ++ (R2 ++ Q)) = P ++ (S1 ++ (L2 ++ (R2 ++ Q))) := by simp
 have ea2 : P ++ S1 ++ (S2 ++ Q) = P ++ ((S1 ++ S2) ++ Q) := by simp
 rw [ea, ea2] at u1
 have h16' := fun el => h16 F a m b el (slices_symMergeCmpFunc_h1 F) a b mid s e _ _ _ t1 u1
 refine ⟨S1 ++ S2, ?_, ?_, srt_join t3 u3 fun x hx' y hy => hx x (t2.mem_iff.1 hx') y (u2.mem_iff.1 hy)⟩
 ·refine Eq.trans s5 ?_
  unfold slices_symMergeCmpFunc_h1_9
  by_cases g1 : s < m
  ·rw [bif_pos' (by omega)]
   by_cases g2 : m < e
   ·rw [decide_eq_true (by omega), cond_true]
    have ew1 : w64 ((m : Int) - s) = ((m - s : Nat) : Int) := by rw [w64_id (by omega) (by omega)]; omega
    have ew2 : w64 ((e : Int) - m) = ((e - m : Nat) : Int) := by rw [w64_id (by omega) (by omega)]; omega
    have hrot := rot_eq F a m b (slices_symMergeCmpFunc_h1 F) a b mid s e (by omega) L2 R1 (P ++ L1) (R2 ++ Q) m (m - s) (e - m) hL2 hR1 (by omega) (by omega) (by rw [List.length_append]; omega) (by omega)
    have ed : P ++ L1 ++ L2 ++ R1 ++ (R2 ++ Q) = P ++ ((L1 ++ L2) ++ ((R1 ++ R2) ++ Q)) := by simp
    have ed2 : P ++ L1 ++ R1 ++ L2 ++ (R2 ++ Q) = P ++ (L1 ++ (R1 ++ (L2 ++ (R2 ++ Q)))) := by simp
    rw [ed, ed2] at hrot
    rw [ew1, ew2]
    exact hrot.trans (h16' _)
   ·rw [decide_eq_false (by omega), cond_false]
    have : R1 = [] := List.eq_nil_of_length_eq_zero (by omega)
    subst this
    have ed : P ++ ((L1 ++ L2) ++ (([] ++ R2) ++ Q)) = P ++ (L1 ++ ([] ++ (L2 ++ (R2 ++ Q)))) := by simp
    rw [ed]
    exact h16' _
  ·rw [bif_neg' (by omega), cond_false]
   have : L2 = [] := List.eq_nil_of_length_eq_zero (by omega)
   subst this
   have ed : P ++ ((L1 ++ []) ++ ((R1 ++ R2) ++ Q)) = P ++ (L1 ++ (R1 ++ ([] ++ (R2 ++ Q)))) := by simp
   rw [ed]
   exact h16' _
 ·refine (List.Perm.append t2 u2).trans ?_
  have k1 : (R1 ++ (L2 ++ R2)).Perm (L2 ++ (R1 ++ R2)) := by
   rw [← List.append_assoc, ← List.append_assoc]
   exact List.Perm.append_right R2 List.perm_append_comm
  have k2 := List.Perm.append_left L1 k1
  simpa using k2
theorem sym_ok : ∀ (k N : Nat), 10001 + k < N → Mrg (slices_symMergeCmpFunc_h1 N) k
 | 0, N, hN => fun P L R Q a m b hL hR h1 h2 hk ha hm hb hb2 => by omega
 | k + 1, 0, hN => by omega
 | k + 1, F + 1, hN => fun P L R Q a m b hL hR h1 h2 hk ha hm hb hb2 => by
  have IH := sym_ok k F (by omega)
  have em1 : w64 ((m : Int) - a) = (L.length : Nat) := by rw [w64_id (by omega) (by omega)]; omega
  have eb1 : w64 ((b : Int) - m) = (R.length : Nat) := by rw [w64_id (by omega) (by omega)]; omega
  rw [slices_symMergeCmpFunc_h1, em1, eb1]
  by_cases c1 : L.length = 1
  ·obtain ⟨x, rfl⟩ := List.length_eq_one_iff.1 c1
   rw [show (((([x] : List S_api_Glitch).length : Nat) : Int) == 1) = true from rfl, cond_true]
   obtain ⟨r, r1, r2, r3, r4⟩ := bsL F a m b x P R Q hR (by omega) R.length F 0 R.length rfl (by omega) (by omega) (by omega) (fun t z h _ => by omega) (fun t z h hz => by have := (List.getElem?_eq_some_iff.1 hz).1; omega)
   simp only [List.length_cons, List.length_nil] at hm
   have hs := sh2 F a m b (by omega) x (R.take r) P (R.drop r ++ Q) (P.length + 1 + r) (by rw [List.length_take]; omega) (by rw [List.length_take]; omega) (by omega)
   have e0 : P ++ x :: (R.take r ++ (R.drop r ++ Q)) = P ++ x :: (R ++ Q) := by rw [← List.append_assoc (R.take r), List.take_append_drop]
   rw [e0] at hs
   have ei : P.length + 1 = m := by omega
   have ej : m + R.length = b := by omega
   rw [Nat.add_zero, ei, ej, ← ha] at r4
   rw [ei, ← ha] at hs
   refine ⟨R.take r ++ x :: R.drop r, ?_, ?_, ins_ok x R r hR (fun t z ht hz => by have := r2 t z ht hz; omega) r3⟩
   ·refine Eq.trans r4 (Eq.trans hs ?_)
    simp
   ·refine List.perm_middle.trans ?_
    rw [List.take_append_drop]
    exact .refl _
  ·rw [show (((L.length : Nat) : Int) == 1) = false by simp; omega, cond_false]
   by_cases c2 : R.length = 1
   ·obtain ⟨y, rfl⟩ := List.length_eq_one_iff.1 c2
    rw [show (((([y] : List S_api_Glitch).length : Nat) : Int) == 1) = true from rfl, cond_true]
    obtain ⟨r, r1, r2, r3, r4⟩ := bsR F a m b y P L Q hL (by omega) L.length F 0 L.length rfl (by omega) (by omega) (by omega) (fun t z h _ => by omega) (fun t z h hz => by have := (List.getElem?_eq_some_iff.1 hz).1; omega)
    have hs := sh5 F a m b (by omega) y (P ++ L.take r) (L.drop r) Q (P.length + L.length) (by rw [List.length_drop]; omega) (by rw [List.length_append, List.length_take, List.length_drop]; omega) (by omega)
    have e0 : P ++ L.take r ++ L.drop r ++ y :: Q = P ++ (L ++ y :: Q) := by rw [List.append_assoc P, List.take_append_drop, List.append_assoc]
    have e1 : (P ++ L.take r).length = P.length + r := by rw [List.length_append, List.length_take]; omega
    rw [e0, e1] at hs
    have ei : P.length + 0 = a := by omega
    have ej : P.length + L.length = m := by omega
    rw [ei, ej] at r4
    rw [ej] at hs
    refine ⟨L.take r ++ y :: L.drop r, ?_, ?_, ins_ok y L r hL r2 (fun t z ht hz => by have := r3 t z ht hz; omega)⟩
    ·refine Eq.trans r4 (Eq.trans hs ?_)
     simp
    ·refine List.perm_middle.trans ?_
     rw [List.take_append_drop]
     exact List.perm_append_comm (l₁ := [y])
   ·rw [show (((R.length : Nat) : Int) == 1) = false by simp; omega, cond_false, mid_eq a b (by omega)]
    have fin : ∀ (lo r0 : Nat), (lo = a ∧ r0 = m ∧ m ≤ (a + b) / 2 ∨ lo = (a + b) / 2 + m - b ∧ r0 = (a + b) / 2 ∧ (a + b) / 2 < m) → ∃ S, slices_symMergeCmpFunc_h1_7 F a m b (P ++ (L ++ (R ++ Q))) (slices_symMergeCmpFunc_h1 F) a m b (((a + b) / 2 : Nat) : Int) (w64 ((((a + b) / 2 : Nat) : Int) + m)) lo r0 = some (P ++ (S ++ Q)) ∧ S.Perm (L ++ R) ∧ Srt S := fun lo r0 hcase => by
     have en : w64 ((((a + b) / 2 : Nat) : Int) + m) = (((a + b) / 2 + m : Nat) : Int) := by rw [w64_id (by omega) (by omega)]; omega
     obtain ⟨p, hp⟩ : ∃ p, p + 1 = (a + b) / 2 + m := ⟨(a + b) / 2 + m - 1, by omega⟩
     have ep : w64 ((((a + b) / 2 + m : Nat) : Int) - 1) = (p : Int) := by rw [w64_id (by omega) (by omega)]; omega
     rw [en]
     unfold slices_symMergeCmpFunc_h1_7
     rw [ep]
     exact sym_main F k IH (by omega) P L R Q a m b _ lo r0 _ p hL hR (by omega) (by omega) hk ha hm hb hb2 (by omega) (by omega) hcase rfl hp
    by_cases c3 : (a + b) / 2 < m
    ·have en : w64 ((((a + b) / 2 : Nat) : Int) + m) = (((a + b) / 2 + m : Nat) : Int) := by rw [w64_id (by omega) (by omega)]; omega
     have eo : w64 (w64 ((((a + b) / 2 : Nat) : Int) + m) - b) = (((a + b) / 2 + m - b : Nat) : Int) := by rw [en, w64_id (by omega) (by omega)]; omega
     rw [bif_pos' (by omega), eo]
     exact fin _ _ (.inr ⟨rfl, rfl, c3⟩)
    ·rw [bif_neg' (by omega)]
     exact fin _ _ (.inl ⟨rfl, rfl, by omega⟩)
end Go.Ev.GlitchCounts
namespace Go.Ev.GlitchCounts
open Go Go.Ev Go.Proofs
set_option linter.unusedVariables false
section
variable (F : Nat)
theorem in12 (hd : Int → Int → Int → Int → Int → Int → List S_api_Glitch → Option (List S_api_Glitch)) (u v w : Int) (P B : List S_api_Glitch) (y : S_api_Glitch) (a b i : Nat) (ha : a = P.length) (hi : i ≤ 2000) : ∀ (k N j : Nat) (A D : List S_api_Glitch), A.length = k → k < N → j = a + k → j ≤ 2000 → Srt A → Srt D → (∀ x ∈ A, ∀ z ∈ D, x.From ≤ z.From) → (∀ z ∈ D, y.From ≤ z.From) →
  ∃ S, glitch_glitches_12 F hd N a b i j u v w (P ++ (A ++ y :: (D ++ B))) = hd a b (w64 ((i : Int) + 1)) u v w (P ++ (S ++ B)) ∧ S.Perm (A ++ y :: D) ∧ Srt S
 | k, 0, j, A, D, _, h, _, _, _, _, _, _ => by omega
 | 0, N + 1, j, A, D, hA, h, hj, hj2, sA, sD, hAD, hyD => by
  obtain rfl := List.eq_nil_of_length_eq_zero hA
  refine ⟨y :: D, ?_, .refl _, List.pairwise_cons.2 ⟨hyD, sD⟩⟩
  rw [glitch_glitches_12, bif_neg' (by omega)]
  unfold glitch_glitches_13
  rw [cond_false]
  rfl
 | k + 1, N + 1, j, A, D, hA, h, hj, hj2, sA, sD, hAD, hyD => by
  rcases List.eq_nil_or_concat A with rfl | ⟨A', z, rfl⟩
  ·simp at hA
  ·have hA' : A'.length = k := by simpa using hA
   rw [List.concat_eq_append] at sA hAD ⊢
   obtain ⟨s1, s2, s3⟩ := srt_split sA
   have e0 : P ++ ((A' ++ [z]) ++ y :: (D ++ B)) = (P ++ A') ++ z :: ([] ++ y :: (D ++ B)) := by simp
   have ei : w64 ((j : Int) - 1) = ((P ++ A').length : Nat) := by rw [w64_id (by omega) (by omega)]; simp; omega
   have ej : (j : Int) = (((P ++ A').length + 1 + ([] : List S_api_Glitch).length : Nat) : Int) := by simp; omega
   have g1 : idx ((P ++ A') ++ z :: ([] ++ y :: (D ++ B))) (w64 ((j : Int) - 1)) = some z := by rw [ei, idx_nat, get_at]
   have g2 : idx ((P ++ A') ++ z :: ([] ++ y :: (D ++ B))) (j : Int) = some y := by rw [ej, idx_nat, get_far]
   obtain ⟨r, hr, hr2⟩ := fdlt F y z
   rw [glitch_glitches_12, bif_pos' (by omega), e0, g2, bnd_eq, g1, bnd_eq, hr, bnd_eq, hr2]
   unfold glitch_glitches_13
   by_cases hyz : y.From < z.From
   ·rw [decide_eq_true hyz, cond_true]
    have e1 : w64 ((j : Int) - 1) = ((a + k : Nat) : Int) := by rw [w64_id (by omega) (by omega)]; omega
    obtain ⟨S, t1, t2, t3⟩ := in12 hd u v w P B y a b i ha hi k N (a + k) A' (z :: D) hA' (by omega) rfl (by omega) s1 (List.pairwise_cons.2 ⟨fun q hq => hAD z (by simp) q hq, sD⟩) (fun x hx q hq => by
     rcases List.mem_cons.1 hq with rfl | hq
     ·exact s3 x hx q (by simp)
     ·exact hAD x (by simp [hx]) q hq) (fun q hq => by
     rcases List.mem_cons.1 hq with rfl | hq
     ·omega
     ·exact hyD q hq)
    refine ⟨S, ?_, t2.trans ?_, t3⟩
    ·refine (swap_ok' (P ++ A') [] (D ++ B) z y ei ej (fun l => glitch_glitches_12 F hd N a b i (w64 ((j : Int) - 1)) u v w l)).trans ?_
     have e2 : P ++ A' ++ y :: ([] ++ z :: (D ++ B)) = P ++ (A' ++ y :: (z :: D ++ B)) := by simp
     rw [e1, e2]
     exact t1
    ·have : (A' ++ [z] ++ y :: D) = A' ++ ([z, y] ++ D) := by simp
     rw [this]
     exact List.Perm.append_left A' (List.Perm.swap z y D)
   ·rw [decide_eq_false hyz, cond_false]
    refine ⟨(A' ++ [z]) ++ y :: D, by simp, .refl _, srt_join sA (List.pairwise_cons.2 ⟨hyD, sD⟩) fun x hx q hq => ?_⟩
    have hxy : x.From ≤ y.From := by
     rcases List.mem_append.1 hx with hx | hx
     ·have := s3 x hx z (by simp); omega
     ·rw [List.mem_singleton.1 hx]; omega
    rcases List.mem_cons.1 hq with rfl | hq
    ·exact hxy
    ·exact hAD x hx q hq
theorem in15 (hd : Int → Int → Int → Int → Int → List S_api_Glitch → Option (List S_api_Glitch)) (u v : Int) (P B : List S_api_Glitch) (y : S_api_Glitch) (a b i : Nat) (ha : a = P.length) (hi : i ≤ 2000) : ∀ (k N j : Nat) (A D : List S_api_Glitch), A.length = k → k < N → j = a + k → j ≤ 2000 → Srt A → Srt D → (∀ x ∈ A, ∀ z ∈ D, x.From ≤ z.From) → (∀ z ∈ D, y.From ≤ z.From) →
  ∃ S, glitch_glitches_15 F hd N a b i j u v (P ++ (A ++ y :: (D ++ B))) = hd a b (w64 ((i : Int) + 1)) u v (P ++ (S ++ B)) ∧ S.Perm (A ++ y :: D) ∧ Srt S
 | k, 0, j, A, D, _, h, _, _, _, _, _, _ => by omega
 | 0, N + 1, j, A, D, hA, h, hj, hj2, sA, sD, hAD, hyD => by
  obtain rfl := List.eq_nil_of_length_eq_zero hA
  refine ⟨y :: D, ?_, .refl _, List.pairwise_cons.2 ⟨hyD, sD⟩⟩
  rw [glitch_glitches_15, bif_neg' (by omega)]
  unfold glitch_glitches_16
  rw [cond_false]
  rfl
 | k + 1, N + 1, j, A, D, hA, h, hj, hj2, sA, sD, hAD, hyD => by
  rcases List.eq_nil_or_concat A with rfl | ⟨A', z, rfl⟩
  ·simp at hA
  ·have hA' : A'.length = k := by simpa using hA
   rw [List.concat_eq_append] at sA hAD ⊢
   obtain ⟨s1, s2, s3⟩ := srt_split sA
   have e0 : P ++ ((A' ++ [z]) ++ y :: (D ++ B)) = (P ++ A') ++ z :: ([] ++ y :: (D ++ B)) := by simp
   have ei : w64 ((j : Int) - 1) = ((P ++ A').length : Nat) := by rw [w64_id (by omega) (by omega)]; simp; omega
   have ej : (j : Int) = (((P ++ A').length + 1 + ([] : List S_api_Glitch).length : Nat) : Int) := by simp; omega
   have g1 : idx ((P ++ A') ++ z :: ([] ++ y :: (D ++ B))) (w64 ((j : Int) - 1)) = some z := by rw [ei, idx_nat, get_at]
   have g2 : idx ((P ++ A') ++ z :: ([] ++ y :: (D ++ B))) (j : Int) = some y := by rw [ej, idx_nat, get_far]
   obtain ⟨r, hr, hr2⟩ := fdlt F y z
   rw [glitch_glitches_15, bif_pos' (by omega), e0, g2, bnd_eq, g1, bnd_eq, hr, bnd_eq, hr2]
   unfold glitch_glitches_16
   by_cases hyz : y.From < z.From
   ·rw [decide_eq_true hyz, cond_true]
    have e1 : w64 ((j : Int) - 1) = ((a + k : Nat) : Int) := by rw [w64_id (by omega) (by omega)]; omega
    obtain ⟨S, t1, t2, t3⟩ := in15 hd u v P B y a b i ha hi k N (a + k) A' (z :: D) hA' (by omega) rfl (by omega) s1 (List.pairwise_cons.2 ⟨fun q hq => hAD z (by simp) q hq, sD⟩) (fun x hx q hq => by
     rcases List.mem_cons.1 hq with rfl | hq
     ·exact s3 x hx q (by simp)
     ·exact hAD x (by simp [hx]) q hq) (fun q hq => by
     rcases List.mem_cons.1 hq with rfl | hq
     ·omega
     ·exact hyD q hq)
    refine ⟨S, ?_, t2.trans ?_, t3⟩
    ·refine (swap_ok' (P ++ A') [] (D ++ B) z y ei ej (fun l => glitch_glitches_15 F hd N a b i (w64 ((j : Int) - 1)) u v l)).trans ?_
     have e2 : P ++ A' ++ y :: ([] ++ z :: (D ++ B)) = P ++ (A' ++ y :: (z :: D ++ B)) := by simp
     rw [e1, e2]
     exact t1
    ·have : (A' ++ [z] ++ y :: D) = A' ++ ([z, y] ++ D) := by simp
     rw [this]
     exact List.Perm.append_left A' (List.Perm.swap z y D)
   ·rw [decide_eq_false hyz, cond_false]
    refine ⟨(A' ++ [z]) ++ y :: D, by simp, .refl _, srt_join sA (List.pairwise_cons.2 ⟨hyD, sD⟩) fun x hx q hq => ?_⟩
    have hxy : x.From ≤ y.From := by
     rcases List.mem_append.1 hx with hx | hx
     ·have := s3 x hx z (by simp); omega
     ·rw [List.mem_singleton.1 hx]; omega
    rcases List.mem_cons.1 hq with rfl | hq
    ·exact hxy
    ·exact hAD x hx q hq
theorem in11 (hF : 3000 < F) (hd : Int → Int → Int → Int → List S_api_Glitch → Option (List S_api_Glitch)) (u v w : Int) (P Q : List S_api_Glitch) (a : Nat) (ha : a = P.length) : ∀ (B A : List S_api_Glitch) (N i b : Nat), 0 < A.length → Srt A → i = a + A.length → b = i + B.length → b ≤ 1100 → B.length < N →
  ∃ S, glitch_glitches_11 F hd N a b i u v w (P ++ (A ++ (B ++ Q))) = hd u v w (w64 (w + v)) (P ++ (S ++ Q)) ∧ S.Perm (A ++ B) ∧ Srt S
 | B, A, 0, i, b, _, _, _, _, _, h => by omega
 | [], A, N + 1, i, b, h0, sA, hi, hb, hb2, h => by
  simp only [List.length_nil] at hb
  refine ⟨A, ?_, by rw [List.append_nil], sA⟩
  rw [glitch_glitches_11, bif_neg' (by omega)]
  rfl
 | y :: B, A, N + 1, i, b, h0, sA, hi, hb, hb2, h => by
  simp only [List.length_cons] at hb h
  obtain ⟨S, t1, t2, t3⟩ := in12 F (glitch_glitches_11 F hd N) u v w P (B ++ Q) y a b i ha (by omega) A.length F i A [] rfl (by omega) hi (by omega) sA .nil (fun x _ z hz => nomatch hz) (fun z hz => nomatch hz)
  have hS := t2.length_eq
  rw [List.length_append] at hS
  obtain ⟨S', u1, u2, u3⟩ := in11 hF hd u v w P Q a ha B S N (i + 1) b (by omega) t3 (by rw [hS]; show i + 1 = a + (A.length + (0 + 1)); omega) (by omega) hb2 (by omega)
  refine ⟨S', ?_, u2.trans ?_, u3⟩
  ·rw [glitch_glitches_11, bif_pos' (by omega)]
   have e0 : P ++ (A ++ (y :: B ++ Q)) = P ++ (A ++ y :: ([] ++ (B ++ Q))) := by simp
   rw [e0]
   refine Eq.trans t1 ?_
   rw [up (by omega)]
   exact u1
  ·have := List.Perm.append_right B t2
   simpa using this
theorem in14 (hF : 3000 < F) (u v : Int) (P Q : List S_api_Glitch) (a : Nat) (ha : a = P.length) : ∀ (B A : List S_api_Glitch) (N i b : Nat), 0 < A.length → Srt A → i = a + A.length → b = i + B.length → b ≤ 1100 → B.length < N →
  ∃ S, glitch_glitches_14 F N a b i u v (P ++ (A ++ (B ++ Q))) = glitch_glitches_17 F F u v (P ++ (S ++ Q)) ∧ S.Perm (A ++ B) ∧ Srt S
 | B, A, 0, i, b, _, _, _, _, _, h => by omega
 | [], A, N + 1, i, b, h0, sA, hi, hb, hb2, h => by
  simp only [List.length_nil] at hb
  refine ⟨A, ?_, by rw [List.append_nil], sA⟩
  rw [glitch_glitches_14, bif_neg' (by omega)]
  rfl
 | y :: B, A, N + 1, i, b, h0, sA, hi, hb, hb2, h => by
  simp only [List.length_cons] at hb h
  obtain ⟨S, t1, t2, t3⟩ := in15 F (glitch_glitches_14 F N) u v P (B ++ Q) y a b i ha (by omega) A.length F i A [] rfl (by omega) hi (by omega) sA .nil (fun x _ z hz => nomatch hz) (fun z hz => nomatch hz)
  have hS := t2.length_eq
  rw [List.length_append] at hS
  obtain ⟨S', u1, u2, u3⟩ := in14 hF u v P Q a ha B S N (i + 1) b (by omega) t3 (by rw [hS]; show i + 1 = a + (A.length + (0 + 1)); omega) (by omega) hb2 (by omega)
  refine ⟨S', ?_, u2.trans ?_, u3⟩
  ·rw [glitch_glitches_14, bif_pos' (by omega)]
   have e0 : P ++ (A ++ (y :: B ++ Q)) = P ++ (A ++ y :: ([] ++ (B ++ Q))) := by simp
   rw [e0]
   refine Eq.trans t1 ?_
   rw [up (by omega)]
   exact u1
  ·have := List.Perm.append_right B t2
   simpa using this
end
end Go.Ev.GlitchCounts
namespace Go.Ev.GlitchCounts
open Go Go.Ev Go.Proofs
set_option linter.unusedVariables false
inductive Runs (s : Nat) : List S_api_Glitch → Prop
 | last (l : List S_api_Glitch) : l.length ≤ s → Srt l → Runs s l
 | cons (B l : List S_api_Glitch) : B.length = s → Srt B → Runs s l → Runs s (B ++ l)
theorem pass18 (F : Nat) (hF : 13000 < F) (hd : Int → Int → List S_api_Glitch → Option (List S_api_Glitch)) (s n : Nat) (hs : 0 < s) (hn : n ≤ 1100) (hs2 : s ≤ 4400) : ∀ (k N a : Nat) (P l : List S_api_Glitch), l.length ≤ k → k < N → a = P.length → n = a + l.length → Runs s l →
  ∃ l', glitch_glitches_18 F hd N n s a ((a + 2 * s : Nat) : Int) (P ++ l) = hd n ((2 * s : Nat) : Int) (P ++ l') ∧ l'.Perm l ∧ Runs (2 * s) l' := by
 intro k
 induction k using Nat.strongRecOn with
 | _ k ih =>
  intro N a P l hk hN ha hnl hr
  match N, hN with
  | N + 1, hN =>
   have hm := sym_ok 1100 F (by omega)
   have e2 : w64 ((s : Int) * 2) = ((2 * s : Nat) : Int) := by rw [w64_id (by omega) (by omega)]; omega
   have e1 : w64 ((a : Int) + s) = ((a + s : Nat) : Int) := by rw [w64_id (by omega) (by omega)]; omega
   rw [glitch_glitches_18]
   unfold glitch_glitches_19
   rw [e2, e1]
   cases hr with
   | last _ h1 h2 =>
    rw [bif_neg' (by omega), bif_neg' (by omega)]
    exact ⟨l, rfl, .refl _, .last l (by omega) h2⟩
   | cons B l1 hB sB hr1 =>
    rw [List.length_append] at hk hnl
    cases hr1 with
    | last _ h1 h2 =>
     by_cases c1 : l1.length = s
     ·rw [bif_pos' (by omega)]
      obtain ⟨S, t1, t2, t3⟩ := hm P B l1 [] a (a + s) (a + 2 * s) sB h2 (by omega) (by omega) (by omega) ha (by omega) (by omega) (by omega)
      have hS := t2.length_eq
      rw [List.length_append] at hS
      have e3 : w64 (((a + 2 * s : Nat) : Int) + w64 ((2 : Int) * s)) = ((a + 2 * s + 2 * s : Nat) : Int) := by rw [w64_id (n := (2 : Int) * s) (by omega) (by omega), w64_id (by omega) (by omega)]; omega
      rw [List.append_nil, List.append_nil] at t1
      obtain ⟨l', u1, u2, u3⟩ := ih 0 (by omega) N (a + 2 * s) (P ++ S) [] (by simp) (by omega) (by rw [List.length_append]; omega) (by simp; omega) (.last [] (by simp) .nil)
      have hl' : l' = [] := List.Perm.eq_nil u2
      subst hl'
      refine ⟨S, ?_, t2, .last S (by omega) t3⟩
      rw [t1, bnd_eq, e3]
      rw [List.append_nil] at u1
      exact u1
     ·rw [bif_neg' (by omega)]
      by_cases c2 : 0 < l1.length
      ·rw [bif_pos' (by omega)]
       obtain ⟨S, t1, t2, t3⟩ := hm P B l1 [] a (a + s) n sB h2 (by omega) (by omega) (by omega) ha (by omega) (by omega) (by omega)
       have hS := t2.length_eq
       rw [List.length_append] at hS
       rw [List.append_nil, List.append_nil] at t1
       rw [t1, bnd_eq]
       exact ⟨S, rfl, t2, .last S (by omega) t3⟩
      ·rw [bif_neg' (by omega)]
       have : l1 = [] := List.eq_nil_of_length_eq_zero (by omega)
       subst this
       rw [List.append_nil]
       exact ⟨B, rfl, .refl _, .last B (by omega) sB⟩
    | cons B2 l2 hB2 sB2 hr2 =>
     rw [List.length_append] at hk hnl
     rw [bif_pos' (by omega)]
     obtain ⟨S, t1, t2, t3⟩ := hm P B B2 l2 a (a + s) (a + 2 * s) sB sB2 (by omega) (by omega) (by omega) ha (by omega) (by omega) (by omega)
     have hS := t2.length_eq
     rw [List.length_append] at hS
     have e3 : w64 (((a + 2 * s : Nat) : Int) + w64 ((2 : Int) * s)) = ((a + 2 * s + 2 * s : Nat) : Int) := by rw [w64_id (n := (2 : Int) * s) (by omega) (by omega), w64_id (by omega) (by omega)]; omega
     obtain ⟨l', u1, u2, u3⟩ := ih l2.length (by omega) N (a + 2 * s) (P ++ S) l2 (Nat.le_refl _) (by omega) (by rw [List.length_append]; omega) (by omega) hr2
     refine ⟨S ++ l', ?_, ?_, .cons S l' (by omega) t3 u3⟩
     ·rw [t1, bnd_eq, e3]
      rw [List.append_assoc, List.append_assoc] at u1
      exact u1
     ·have := List.Perm.append t2 u2
      simpa using this
theorem runs_all {s : Nat} {l : List S_api_Glitch} (h : Runs s l) (hl : l.length ≤ s) : Srt l := by
 cases h with
 | last _ _ h => exact h
 | cons B l1 hB sB hr =>
  rw [List.length_append] at hl
  have : l1 = [] := List.eq_nil_of_length_eq_zero (by omega)
  subst this
  rw [List.append_nil]
  exact sB
theorem pass17 (F : Nat) (hF : 13000 < F) (n : Nat) (hn : n ≤ 1100) : ∀ (k N s : Nat) (l : List S_api_Glitch), n - s ≤ k → k < N → 0 < s → s ≤ 2200 → n = l.length → Runs s l →
  ∃ l', glitch_glitches_17 F N n s l = some l' ∧ l'.Perm l ∧ Srt l'
 | k, 0, s, l, _, h, _, _, _, _ => by omega
 | 0, N + 1, s, l, hk, hN, hs, hs2, hl, hr => by
  rw [glitch_glitches_17, bif_neg' (by omega)]
  exact ⟨l, rfl, .refl _, runs_all hr (by omega)⟩
 | k + 1, N + 1, s, l, hk, hN, hs, hs2, hl, hr => by
  rw [glitch_glitches_17]
  by_cases c : s < n
  ·rw [bif_pos' (by omega)]
   have e : w64 ((2 : Int) * s) = ((0 + 2 * s : Nat) : Int) := by rw [w64_id (by omega) (by omega)]; omega
   obtain ⟨l', t1, t2, t3⟩ := pass18 F hF (glitch_glitches_17 F N) s n hs hn (by omega) l.length F 0 [] l (Nat.le_refl _) (by omega) rfl (by omega) hr
   have hll := t2.length_eq
   obtain ⟨l2, u1, u2, u3⟩ := pass17 F hF n hn k N (2 * s) l' (by omega) (by omega) (by omega) (by omega) (by omega) t3
   refine ⟨l2, ?_, u2.trans t2, u3⟩
   rw [e]
   exact Eq.trans t1 u1
  ·rw [bif_neg' (by omega)]
   exact ⟨l, rfl, .refl _, runs_all hr (by omega)⟩
theorem blocks10 (F : Nat) (hF : 13000 < F) (n : Nat) (hn : n ≤ 1100) : ∀ (k N a : Nat) (P l : List S_api_Glitch), l.length ≤ k → k < N → a = P.length → n = a + l.length → (∀ l', Runs 20 l' → Runs 20 (P ++ l')) →
  ∃ l', glitch_glitches_10 F N n 20 a ((a + 20 : Nat) : Int) (P ++ l) = glitch_glitches_17 F F n 20 l' ∧ l'.Perm (P ++ l) ∧ Runs 20 l' := by
 intro k
 induction k using Nat.strongRecOn with
 | _ k ih =>
  intro N a P l hk hN ha hnl hP
  match N, hN with
  | N + 1, hN =>
   rw [glitch_glitches_10, up (by omega)]
   by_cases c : 20 ≤ l.length
   ·rw [bif_pos' (by omega)]
    have hA : (l.take 20).length = 20 := by rw [List.length_take]; omega
    have hQ : (l.drop 20).length = l.length - 20 := by rw [List.length_drop]
    have el : l = l.take 20 ++ l.drop 20 := (List.take_append_drop 20 l).symm
    generalize l.take 20 = B at hA el
    generalize l.drop 20 = Q at hQ el
    subst el
    rw [List.length_append] at hk hnl hQ c
    obtain ⟨x, B, rfl⟩ : ∃ x l, B = x :: l := List.exists_cons_of_length_pos (by omega)
    simp only [List.length_cons] at hA hk hnl hQ c
    obtain ⟨S, t1, t2, t3⟩ := in11 F (by omega) (glitch_glitches_10 F N) n 20 ((a + 20 : Nat) : Int) P Q a ha B [x] F (a + 1) (a + 20) (by simp) (List.pairwise_singleton _ x) (by simp) (by omega) (by omega) (by omega)
    have hS := t2.length_eq
    simp only [List.length_append, List.length_cons, List.length_nil] at hS
    have e : w64 (((a + 20 : Nat) : Int) + 20) = ((a + 20 + 20 : Nat) : Int) := by rw [w64_id (by omega) (by omega)]; omega
    obtain ⟨l', u1, u2, u3⟩ := ih Q.length (by omega) N (a + 20) (P ++ S) Q (Nat.le_refl _) (by omega) (by rw [List.length_append]; omega) (by omega) (fun l' h => by rw [List.append_assoc]; exact hP _ (.cons S l' (by omega) t3 h))
    refine ⟨l', ?_, u2.trans ?_, u3⟩
    ·have e0 : P ++ (x :: B ++ Q) = P ++ ([x] ++ (B ++ Q)) := by simp
     rw [e0]
     refine Eq.trans t1 ?_
     rw [e, ← List.append_assoc]
     exact u1
    ·have := List.Perm.append_left P (List.Perm.append_right Q t2)
     simpa using this
   ·rw [bif_neg' (by omega)]
    match l, hk, hnl, c with
    | [], hk, hnl, c =>
     obtain ⟨G, hG⟩ : ∃ G, F = G + 1 := ⟨F - 1, by omega⟩
     simp only [List.length_nil] at hnl
     refine ⟨P ++ [], ?_, .refl _, hP [] (.last [] (by simp) .nil)⟩
     have unf : glitch_glitches_14 F F a n ((a + 1 : Nat) : Int) n 20 (P ++ []) = glitch_glitches_14 F (G + 1) a n ((a + 1 : Nat) : Int) n 20 (P ++ []) := by rw [hG]
     rw [unf, glitch_glitches_14, bif_neg' (by omega)]
    | x :: B, hk, hnl, c =>
     simp only [List.length_cons] at hk hnl c
     obtain ⟨S, t1, t2, t3⟩ := in14 F (by omega) n 20 P [] a ha B [x] F (a + 1) n (by simp) (List.pairwise_singleton _ x) (by simp) (by omega) (by omega) (by omega)
     have hS := t2.length_eq
     simp only [List.length_append, List.length_cons, List.length_nil] at hS
     rw [List.append_nil, List.append_nil] at t1
     refine ⟨P ++ S, t1, ?_, hP S (.last S (by omega) t3)⟩
     have := List.Perm.append_left P t2
     simpa using this
theorem stable_ok (F : Nat) (hF : 13000 < F) (l : List S_api_Glitch) (hl : l.length ≤ 1100) : ∃ l', glitch_glitches_10 F F l.length 20 0 20 l = some l' ∧ l'.Perm l ∧ Srt l' := by
 obtain ⟨l1, t1, t2, t3⟩ := blocks10 F hF l.length hl l.length F 0 [] l (Nat.le_refl _) (by omega) rfl (by omega) (fun l' h => h)
 have hll := t2.length_eq
 obtain ⟨l2, u1, u2, u3⟩ := pass17 F hF l.length hl l.length F 20 l1 (by omega) (by omega) (by omega) (by omega) hll.symm t3
 exact ⟨l2, Eq.trans t1 u1, u2.trans t2, u3⟩
end Go.Ev.GlitchCounts
