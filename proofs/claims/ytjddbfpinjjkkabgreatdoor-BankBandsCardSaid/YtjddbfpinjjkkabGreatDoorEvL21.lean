/- A part of the small machine. -/
import Derived.Test.YtjddbfpinjjkkabGreatDoorEvL19
set_option linter.unusedVariables false
set_option linter.unusedVariables false
namespace Go.Ev
open Go.RowKit
variable {P : Program}
section
variable {α : Type} {F : Rd} {M : Mem} {H : List Ent} {e : Env} {p q : Operand} {t u tt : TypeId} {rk : RK} {i j N off len : Nat} {s : SV} {b : Pos} {l l' : List α} {enc : α → List SV} {k0 k1 kk : IntKind}
end
section
variable {fx : Fx} {n : Nat} {Q : SV → Mem → Prop} {e : Env} {k : List SItem} {M : Mem} {F : Rd} {H : List Ent}
end
def RopTo (f : Rd) (q : SV) (cs : List SV) : Prop := ∃ b, q = .ptr b 0 ∧ PtrTo f (.ptr b 0) cs
section
variable {f g : Rd} {q : SV} {cs : List SV} {b : Pos} {M : Mem} {F : Rd} {H : List Ent} {e : Env} {α : Type} {enc : α → List SV} {l l' : List α} {t tt : TypeId} {N off : Nat} {k0 k1 : IntKind}
theorem RopTo.mono (h : RopTo f q cs) (hf : RdLe f g) : RopTo g q cs := by
  obtain ⟨b, h1, h2⟩ := h
  exact ⟨b, h1, h2.mono hf⟩
theorem rop_open (h : RopTo f q cs) : ∃ b, q = .ptr b 0 ∧ RopTo f (.ptr b 0) cs := by
  obtain ⟨b, h1, h2⟩ := h
  exact ⟨b, h1, b, rfl, h2⟩
theorem rop_of (h : PtrTo f (.ptr b 0) cs) : RopTo f (.ptr b 0) cs := ⟨b, rfl, h⟩
theorem rop_row (h : RopTo f (.ptr b 0) cs) : ∃ c, f b = some c ∧ cs.length ≤ c.length ∧ c.take cs.length = cs := by
  obtain ⟨b', h1, b2, o, c, h2, h3, h4, h5⟩ := h
  cases h1
  cases h2
  exact ⟨c, h3, by omega, by simpa using h5⟩
theorem rop_els (h : RopTo f (.ptr b 0) (l.flatMap enc)) (hlen : ∀ a, (enc a).length = 1) : ∃ c, f b = some c ∧ l.length ≤ c.length ∧ ∀ (j : Nat) (a : α), l[j]? = some a → (c.drop j).take 1 = enc a := by
  obtain ⟨c, h1, h2, h3⟩ := rop_row h
  rw [flatm_len hlen, Nat.mul_one] at h2 h3
  refine ⟨c, h1, h2, fun j a ha => ?_⟩
  have hj := (List.getElem?_eq_some_iff.1 ha).1
  have h4 := flat_at hlen l j a ha
  rw [Nat.mul_one, ← h3, List.drop_take, List.take_take, Nat.min_eq_left (by omega)] at h4
  exact h4
theorem rop_at {j : Nat} {a : α} (h : RopTo f (.ptr b 0) (l.flatMap enc)) (hlen : ∀ a, (enc a).length = 1) (ha : l[j]? = some a) : PtrTo f (.ptr b j) (enc a) := by
  obtain ⟨c, h1, h2, h3⟩ := rop_els h hlen
  have hj := (List.getElem?_eq_some_iff.1 ha).1
  exact ⟨b, j, c, rfl, h1, by rw [hlen]; omega, by rw [hlen]; exact h3 j a ha⟩
theorem Has.ropO {i : Nat} {rk : RK} (hH : Has F M H) (hi : H[i]? = some (.obj b (.row tt rk cs))) : RopTo (rd M) (.ptr b 0) cs := rop_of ⟨b, 0, cs, rfl, (hH.get hi).1.rd, by simp, by simp⟩
theorem ex_nilR {x : Operand} (h : ar e x = some q) (hq : q = .ptr b 0) : execO P M (treeOf e) (.nilCheck x) = .val (.ptr b 0) M := by
  subst hq
  exact ex_nilP h
theorem rop_cutG {lo hi : Option SV} {a c : Nat} (hr : RopTo f (.ptr b 0) (l.flatMap enc)) (hlen : ∀ a, (enc a).length = 1) (hac : a ≤ c) (hc : c ≤ N) (hlo : lo = none ∧ a = 0 ∨ ∃ k', lo = some (.int k' (a : Int))) (hhi : hi = none ∧ c = N ∨ ∃ k', hi = some (.int k' (c : Int))) (hk : slK P t = some (.arr N 1)) (hl : parL l (off + a) (c - a) = some l') :
    ∃ s', (∀ M, xSlice P t (.ptr b off) lo hi none M = .val s' M) ∧ Slc f 1 (FlatR enc) s' l' := by
  obtain ⟨hle, rfl⟩ := parL_some hl
  obtain ⟨cc, h1, h2, h3⟩ := rop_els hr hlen
  have hl' : ((l.drop (off + a)).take (c - a)).length = c - a := by simp; omega
  have hbn := bndsA (top := N) hac hc hlo hhi (Nat.le_refl _)
  have hel : ∀ (k : Nat) (x : α), ((l.drop (off + a)).take (c - a))[k]? = some x → FlatR enc ((cc.drop (off + a * 1 + k * 1)).take 1) x := by
    intro k x hx
    have hk := (List.getElem?_eq_some_iff.1 hx).1
    rw [List.getElem?_take_of_lt (by omega), List.getElem?_drop] at hx
    have := h3 (off + a + k) x hx
    rwa [Nat.mul_one, Nat.mul_one]
  by_cases hcp : N = a
  · refine ⟨.slice b off (c - a) (N - a), fun M => ?_, .inr ⟨b, off, cc, .inl ⟨N - a, by omega, by rw [hl']⟩, h1, by rw [hl']; omega, fun k x hx => ?_⟩⟩
    · unfold xSlice
      have hne : Nat.beq N a = true := by rw [hcp]; exact Nat.beq_refl a
      simp only [hk, hbn, cutAt, hne]
      rfl
    · have := (List.getElem?_eq_some_iff.1 hx).1
      omega
  · refine ⟨.slice b (off + a * 1) (c - a) (N - a), fun M => ?_, .inr ⟨b, off + a * 1, cc, .inl ⟨N - a, by omega, by rw [hl']⟩, h1, by rw [hl']; omega, hel⟩⟩
    unfold xSlice
    have hne : Nat.beq N a = false := by
      cases hh : Nat.beq N a with
      | false => rfl
      | true => exact absurd (Nat.eq_of_beq_eq_true hh) hcp
    simp only [hk, hbn, cutAt, hne]
    rfl
theorem rop_cutH {hi : Int} {r : Nat × Nat} (hr : RopTo f (.ptr b 0) (l.flatMap enc)) (hlen : ∀ a, (enc a).length = 1) (h : subP N 0 hi = some r) (hk : slK P t = some (.arr N 1)) (hl : parL l (off + r.1) r.2 = some l') : ∃ s', (∀ M, xSlice P t (.ptr b off) none (some (.int k0 hi)) none M = .val s' M) ∧ Slc f 1 (FlatR enc) s' l' := by
  obtain ⟨a, c, ha, rfl, h1, h2, rfl⟩ := subP_some h
  exact rop_cutG hr hlen h1 h2 (.inl ⟨rfl, by omega⟩) (.inr ⟨k0, rfl⟩) hk hl
end
end Go.Ev
namespace Go.Ev
open Go
end Go.Ev
