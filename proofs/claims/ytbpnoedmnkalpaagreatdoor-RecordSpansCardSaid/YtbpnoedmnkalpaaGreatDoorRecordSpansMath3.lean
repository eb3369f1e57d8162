/- What is missing in a record. -/
import Derived.Test.YtbpnoedmnkalpaaGreatDoorRecordSpansMath2
namespace Go.Ev.RecordSpans
open Go Go.Ev Go.Proofs
set_option linter.unusedVariables false
def gapsR (to : Int) : Int → List S_api_Frame → List S_api_Span
  | v, [] => if v = to then [] else [⟨v, to⟩]
  | v, f :: r => if v ≤ f.Start ∧ f.Start < to then (if v = f.Start then gapsR to (f.Start + 1) r else ⟨v, f.Start⟩ :: gapsR to (f.Start + 1) r) else gapsR to v r
theorem gaps1 (F : Nat) (to : Int) (hto : 0 ≤ to ∧ to ≤ 1073741824) (L : List S_api_Frame) (hL : L.length ≤ 64) (hf : ∀ f ∈ L, 0 ≤ f.Start ∧ f.Start ≤ 1073741824) :
    ∀ (k N i : Nat) (v : Int) (acc : List S_api_Span), k = L.length - i → i ≤ L.length → k < N → acc.length ≤ i → (∀ s ∈ acc, s.To < v) → record_gaps_1 F N v to L L.length i acc = some (acc ++ gapsR to v (L.drop i))
  | k, 0, i, v, acc, _, _, h, _, _ => by omega
  | 0, N + 1, i, v, acc, hk, hi, _, hl, ha => by
    rw [record_gaps_1, bif_neg' (by omega), List.drop_of_length_le (by omega : L.length ≤ i), gapsR]
    by_cases h : v = to
    · subst h
      rw [if_pos rfl, beq_self_eq_true, cond_true, List.append_nil]
    · have e : (v == to) = false := by rw [beq_eq_false_iff_ne]; exact h
      have h5 : ∀ n, record_gaps_5 F n false ⟨v, to⟩ acc = some (acc ++ [⟨v, to⟩]) := by
        intro n
        unfold record_gaps_5
        rw [cond_false, apd_ok (by simp; omega) (by omega), bnd_eq]
      rw [if_neg h, e, cond_false, w64_id (n := (acc.length : Int) - 1) (by omega) (by omega)]
      by_cases h0 : acc.length = 0
      · rw [bif_neg' (by omega), h5]
      · obtain ⟨s, hs⟩ := get_lt (l := acc) (i := acc.length - 1) (by omega)
        have hlt := ha s (List.mem_of_getElem? hs)
        have e2 : (s.To == v) = false := by rw [beq_eq_false_iff_ne]; omega
        rw [bif_pos' (by omega), show (acc.length : Int) - 1 = ((acc.length - 1 : Nat) : Int) by omega, idx_nat, hs, bnd_eq, e2, h5]
  | k + 1, N + 1, i, v, acc, hk, hi, hN, hl, ha => by
    obtain ⟨x, hx⟩ := get_lt (l := L) (i := i) (by omega)
    have hb := hf x (List.mem_of_getElem? hx)
    have ih := fun v acc h1 h2 => gaps1 F to hto L hL hf k N (i + 1) v acc (by omega) (by omega) (by omega) h1 h2
    rw [record_gaps_1, bif_pos' (by omega), idx_nat, hx, bnd_eq, drop_get hx, gapsR]
    unfold record_gaps_2 record_gaps_4 record_gaps_3
    rw [up (by omega)]
    by_cases h1 : v ≤ x.Start
    · rw [bif_pos' h1]
      by_cases h2 : x.Start < to
      · rw [if_pos ⟨h1, h2⟩, decide_eq_true h2, cond_true, w64_id (n := x.Start + 1) (by omega) (by omega)]
        by_cases h3 : v = x.Start
        · have e : (v == x.Start) = true := by rw [beq_iff_eq]; exact h3
          rw [if_pos h3, e, cond_true, ih _ _ (by omega) (fun s hs => by have := ha s hs; omega)]
        · have e : (v == x.Start) = false := by rw [beq_eq_false_iff_ne]; exact h3
          have hn : record_gaps_1 F N (x.Start + 1) to L L.length ((i + 1 : Nat) : Int) (acc ++ [⟨v, x.Start⟩]) = some (acc ++ ⟨v, x.Start⟩ :: gapsR to (x.Start + 1) (L.drop (i + 1))) := by
            rw [ih _ _ (by simp; omega) (fun s hs => by
              rcases List.mem_append.1 hs with hs | hs
              · have := ha s hs; omega
              · rw [List.mem_singleton] at hs
                subst hs
                show x.Start < x.Start + 1
                omega), List.append_assoc]
            rfl
          rw [if_neg h3, e, cond_false, w64_id (n := (acc.length : Int) - 1) (by omega) (by omega)]
          by_cases h0 : acc.length = 0
          · rw [bif_neg' (by omega), cond_false, apd_ok (by simp; omega) (by omega), bnd_eq, hn]
          · obtain ⟨s, hs⟩ := get_lt (l := acc) (i := acc.length - 1) (by omega)
            have hlt := ha s (List.mem_of_getElem? hs)
            have e2 : (s.To == v) = false := by rw [beq_eq_false_iff_ne]; omega
            rw [bif_pos' (by omega), show (acc.length : Int) - 1 = ((acc.length - 1 : Nat) : Int) by omega, idx_nat, hs, bnd_eq, e2, cond_false, apd_ok (by simp; omega) (by omega), bnd_eq, hn]
      · rw [if_neg (by omega), decide_eq_false h2, cond_false, ih _ _ (by omega) ha]
    · rw [bif_neg' h1, cond_false, if_neg (by omega), ih _ _ (by omega) ha]
theorem gaps_eq (F : Nat) (hF : 100 < F) (u to : Int) (hto : 0 ≤ to ∧ to ≤ 1073741824) (L : List S_api_Frame) (hL : L.length ≤ 64) (hf : ∀ f ∈ L, 0 ≤ f.Start ∧ f.Start ≤ 1073741824) : record_gaps F L u to = some (gapsR to u L) := by
  have := gaps1 F to hto L hL hf L.length F 0 u [] rfl (by omega) (by omega) (by simp) (fun s hs => by cases hs)
  rw [List.drop_zero, List.nil_append] at this
  exact this
/-- Spans in order, apart from each other. -/
def spansOK (to : Int) : Int → List S_api_Span → Prop
  | _, [] => True
  | lo, s :: r => lo ≤ s.From ∧ s.From < s.To ∧ s.To ≤ to ∧ spansOK to (s.To + 1) r
theorem spansOK_lo {to : Int} {lo lo' : Int} (h : lo ≤ lo') : ∀ {l : List S_api_Span}, spansOK to lo' l → spansOK to lo l
  | [], _ => trivial
  | s :: r, hs => ⟨by have := hs.1; omega, hs.2⟩
theorem gaps_ok (to : Int) : ∀ (L : List S_api_Frame) (v : Int), v ≤ to → spansOK to v (gapsR to v L)
  | [], v, hv => by
    rw [gapsR]
    by_cases h : v = to
    · rw [if_pos h]; trivial
    · rw [if_neg h]; exact ⟨Int.le_refl _, by show v < to; omega, Int.le_refl _, trivial⟩
  | f :: r, v, hv => by
    rw [gapsR]
    by_cases h : v ≤ f.Start ∧ f.Start < to
    · have ih := gaps_ok to r (f.Start + 1) (by omega)
      rw [if_pos h]
      by_cases h2 : v = f.Start
      · rw [if_pos h2]
        exact spansOK_lo (by omega) ih
      · rw [if_neg h2]
        exact ⟨Int.le_refl _, by show v < f.Start; omega, by show f.Start ≤ to; omega, ih⟩
    · rw [if_neg h]
      exact gaps_ok to r v hv
def inS (G : List S_api_Span) (t : Int) : Bool := G.any fun s => decide (s.From ≤ t) && decide (t < s.To)
/-- What is missing is what no frame has. -/
theorem miss_iff (to : Int) : ∀ (L : List S_api_Frame) (v : Int), L.Pairwise ltF → ∀ t, v ≤ t → t < to → inS (gapsR to v L) t = !(L.any fun f => f.Start == t)
  | [], v, _, t, h1, h2 => by
    rw [gapsR, if_neg (by omega)]
    unfold inS
    simp only [List.any_cons, List.any_nil, Bool.or_false, Bool.not_false]
    rw [decide_eq_true h1, decide_eq_true h2]
    rfl
  | f :: r, v, hp, t, h1, h2 => by
    obtain ⟨p1, p2⟩ := List.pairwise_cons.1 hp
    rw [gapsR, List.any_cons]
    have later : t ≤ f.Start → (r.any fun f => f.Start == t) = false := by
      intro h
      rw [List.any_eq_false]
      intro g hg
      have : f.Start < g.Start := p1 g hg
      rw [beq_iff_eq]
      omega
    by_cases h : v ≤ f.Start ∧ f.Start < to
    · rw [if_pos h]
      by_cases hlt : t < f.Start
      · have hne : v ≠ f.Start := by omega
        have e : (f.Start == t) = false := by rw [beq_eq_false_iff_ne]; omega
        rw [if_neg hne, e, later (by omega)]
        unfold inS
        rw [List.any_cons, decide_eq_true (show v ≤ t by omega), decide_eq_true hlt]
        rfl
      · by_cases heq : t = f.Start
        · have e : (f.Start == t) = true := by rw [beq_iff_eq]; omega
          have hafter : inS (gapsR to (f.Start + 1) r) t = false := by
            have hok := gaps_ok to r (f.Start + 1) (by omega)
            have : ∀ (G : List S_api_Span) (lo : Int), spansOK to lo G → t < lo → inS G t = false := by
              intro G
              induction G with
              | nil => intro lo _ _; rfl
              | cons s G ih =>
                intro lo hs hlo
                have a1 := hs.1
                have a2 := hs.2.1
                have := ih (s.To + 1) hs.2.2.2 (by omega)
                unfold inS at this ⊢
                rw [List.any_cons, this, decide_eq_false (by omega)]
                rfl
            exact this _ _ hok (by omega)
          rw [e, Bool.true_or, Bool.not_true]
          by_cases h2 : v = f.Start
          · rw [if_pos h2]; exact hafter
          · rw [if_neg h2]
            unfold inS at hafter ⊢
            rw [List.any_cons, hafter, decide_eq_false (show ¬ t < f.Start by omega)]
            simp
        · have e : (f.Start == t) = false := by rw [beq_eq_false_iff_ne]; omega
          have ih := miss_iff to r (f.Start + 1) p2 t (by omega) h2
          rw [e, Bool.false_or]
          by_cases h3 : v = f.Start
          · rw [if_pos h3]; exact ih
          · rw [if_neg h3]
            unfold inS at ih ⊢
            rw [List.any_cons, decide_eq_false (show ¬ t < f.Start by omega), Bool.and_false, Bool.false_or]
            exact ih
    · have e : (f.Start == t) = false := by rw [beq_eq_false_iff_ne]; omega
      rw [if_neg h, e, Bool.false_or]
      exact miss_iff to r v p2 t h1 h2
end Go.Ev.RecordSpans
