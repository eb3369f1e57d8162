/- A part of the small machine. -/
import Derived.Test.YtjddbfpinjjkkabGreatDoorEvL19
set_option linter.unusedVariables false
set_option linter.unusedVariables false
namespace Go.Ev
open Go.RowKit
variable {P : Program}
section
variable {α : Type} {F : Rd} {M : Mem} {H : List Ent} {e : Env} {p q : Operand} {t u tt : TypeId} {rk : RK} {i j N off len : Nat} {s : SV} {b : Pos} {l l' : List α} {enc : α → List SV} {k0 k1 kk : IntKind}
end
section
variable {fx : Fx} {n : Nat} {Q : SV → Mem → Prop} {e : Env} {k : List SItem} {M : Mem} {F : Rd} {H : List Ent}
end
theorem parL_len {α : Type} {l l' : List α} {off n : Nat} (h : parL l off n = some l') : l'.length = n := by
  obtain ⟨h1, rfl⟩ := parL_some h
  simp
  omega
theorem flat_get {α : Type} {enc : α → List SV} {f : α → SV} (he : ∀ a, enc a = [f a]) {l : List α} {i : Nat} {a : α} (h : l[i]? = some a) : (l.flatMap enc)[i]? = some (f a) := by
  have := flat_at (enc := enc) (z := 1) (fun a => by rw [he]; rfl) l i a h
  rw [Nat.mul_one, he] at this
  have hlt := (List.getElem?_eq_some_iff.1 h).1
  have hfl : (l.flatMap enc).length = l.length * 1 := flatm_len (fun a => by rw [he]; rfl) l
  have h2 := congrArg (fun x => x[0]?) this
  simp only [List.getElem?_cons_zero] at h2
  rw [List.getElem?_take_of_lt (by omega), List.getElem?_drop, Nat.add_zero] at h2
  exact h2
theorem eqEs_ints {k : IntKind} {et : TypeId} {enc : Int → List SV} (he : ∀ a, enc a = [.int k a]) (ha : aggSize P et = some none) (hk : aggK P et = some .int) {d : Nat} {l l2 : List Int} (hl : l.length = l2.length) : ∀ (n i : Nat), i + n = l.length → eqEs P (eqA P (d + 1) et) et 1 (l.flatMap enc) (l2.flatMap enc) n i = some (decide (l.drop i = l2.drop i))
  | 0, i, hi => by
    rw [List.drop_of_length_le (by omega), List.drop_of_length_le (by omega)]
    simp [eqEs_nil]
  | n + 1, i, hi => by
    have hx : l[i]? = some l[i] := List.getElem?_eq_getElem (by omega)
    have hy : l2[i]? = some l2[i] := List.getElem?_eq_getElem (by omega)
    have h1 : partS P et (l.flatMap enc) (Nat.mul i 1) = some (.int k l[i]) := part_at ha (flat_get he hx)
    have h2 : partS P et (l2.flatMap enc) (Nat.mul i 1) = some (.int k l2[i]) := part_at ha (flat_get he hy)
    have e1 : l.drop i = l[i] :: l.drop (i + 1) := List.drop_eq_getElem_cons (show i < l.length by omega)
    have e2 : l2.drop i = l2[i] :: l2.drop (i + 1) := List.drop_eq_getElem_cons (show i < l2.length by omega)
    rw [eqEs_cons h1 h2 (eqA_int hk) (eqEs_ints he ha hk hl n (i + 1) (by omega)), e1, e2]
    generalize l[i] = a
    generalize l2[i] = b
    generalize l.drop (i + 1) = xs
    generalize l2.drop (i + 1) = ys
    by_cases hq : a = b
    · simp [hq]
    · have hb : (a == b) = false := by simpa using hq
      simp [hq, hb]
theorem eqA_ints {k : IntKind} {t et : TypeId} {N d : Nat} {enc : Int → List SV} {l l2 : List Int} (h : aggK P t = some (.ar N et 1)) (he : ∀ a, enc a = [.int k a]) (ha : aggSize P et = some none) (hk : aggK P et = some .int) (h1 : l.length = N) (h2 : l2.length = N) : eqA P (d + 1 + 1) t (.agg (l.flatMap enc)) (.agg (l2.flatMap enc)) = some (decide (l = l2)) := by
  refine eqA_ar h ?_
  have := eqEs_ints (P := P) (d := d) he ha hk (l := l) (l2 := l2) (by omega) N 0 (by omega)
  simpa using this
def RopTo (f : Rd) (q : SV) (cs : List SV) : Prop := ∃ b, q = .ptr b 0 ∧ PtrTo f (.ptr b 0) cs
section
variable {f g : Rd} {q : SV} {cs : List SV} {b : Pos} {M : Mem} {F : Rd} {H : List Ent} {e : Env} {α : Type} {enc : α → List SV} {l l' : List α} {t tt : TypeId} {N off : Nat} {k0 k1 : IntKind}
theorem RopTo.mono (h : RopTo f q cs) (hf : RdLe f g) : RopTo g q cs := by
  obtain ⟨b, h1, h2⟩ := h
  exact ⟨b, h1, h2.mono hf⟩
theorem rop_one (h : RopTo f q cs) : one q = true := by obtain ⟨b, rfl, _⟩ := h; rfl
theorem rop_open (h : RopTo f q cs) : ∃ b, q = .ptr b 0 ∧ RopTo f (.ptr b 0) cs := by
  obtain ⟨b, h1, h2⟩ := h
  exact ⟨b, h1, b, rfl, h2⟩
theorem rop_of (h : PtrTo f (.ptr b 0) cs) : RopTo f (.ptr b 0) cs := ⟨b, rfl, h⟩
theorem rop_row (h : RopTo f (.ptr b 0) cs) : ∃ c, f b = some c ∧ cs.length ≤ c.length ∧ c.take cs.length = cs := by
  obtain ⟨b', h1, b2, o, c, h2, h3, h4, h5⟩ := h
  cases h1
  cases h2
  exact ⟨c, h3, by omega, by simpa using h5⟩
theorem rop_els (h : RopTo f (.ptr b 0) (l.flatMap enc)) (hlen : ∀ a, (enc a).length = 1) : ∃ c, f b = some c ∧ l.length ≤ c.length ∧ ∀ (j : Nat) (a : α), l[j]? = some a → (c.drop j).take 1 = enc a := by
  obtain ⟨c, h1, h2, h3⟩ := rop_row h
  rw [flatm_len hlen, Nat.mul_one] at h2 h3
  refine ⟨c, h1, h2, fun j a ha => ?_⟩
  have hj := (List.getElem?_eq_some_iff.1 ha).1
  have h4 := flat_at hlen l j a ha
  rw [Nat.mul_one, ← h3, List.drop_take, List.take_take, Nat.min_eq_left (by omega)] at h4
  exact h4
theorem rop_at {j : Nat} {a : α} (h : RopTo f (.ptr b 0) (l.flatMap enc)) (hlen : ∀ a, (enc a).length = 1) (ha : l[j]? = some a) : PtrTo f (.ptr b j) (enc a) := by
  obtain ⟨c, h1, h2, h3⟩ := rop_els h hlen
  have hj := (List.getElem?_eq_some_iff.1 ha).1
  exact ⟨b, j, c, rfl, h1, by rw [hlen]; omega, by rw [hlen]; exact h3 j a ha⟩
theorem Has.ropF (hH : Has F M H) (h : RopTo F q cs) : RopTo (rd M) q cs := h.mono fun b c hb => ro_rd (hH.base b c hb)
theorem Has.ropO {i : Nat} {rk : RK} (hH : Has F M H) (hi : H[i]? = some (.obj b (.row tt rk cs))) : RopTo (rd M) (.ptr b 0) cs := rop_of ⟨b, 0, cs, rfl, (hH.get hi).1.rd, by simp, by simp⟩
theorem ex_nilR {x : Operand} (h : ar e x = some q) (hq : q = .ptr b 0) : execO P M (treeOf e) (.nilCheck x) = .val (.ptr b 0) M := by
  subst hq
  exact ex_nilP h
theorem ex_loadArrR {x : Operand} (h : ar e x = some (.ptr b off)) (hr : RopTo f (.ptr b 0) (l.flatMap enc)) (hf : RdLe f (rowOf M)) (hl : parL l off N = some l') (hlen : ∀ a, (enc a).length = 1) (hz : aggSize P t = some (some N)) : execO P M (treeOf e) (.load t x) = .val (.agg (l'.flatMap enc)) M := by
  obtain ⟨hle, rfl⟩ := parL_some hl
  obtain ⟨c, h1, h2, h3⟩ := rop_row hr
  rw [flatm_len hlen, Nat.mul_one] at h2 h3
  have hl' : ((l.drop off).take N).length = N := by simp; omega
  have hfl : ((l.drop off).take N).flatMap enc = ((l.flatMap enc).drop off).take N := by rw [flat_take hlen, flat_drop hlen, Nat.mul_one, Nat.mul_one]
  have hflen : (((l.drop off).take N).flatMap enc).length = N := by rw [flatm_len hlen, hl', Nat.mul_one]
  refine ex_loadA (f := f) h (cs := ((l.drop off).take N).flatMap enc) ⟨b, off, c, rfl, h1, by rw [hflen]; omega, ?_⟩ hf hz hflen (by rw [List.take_of_length_le (by rw [hflen]; exact Nat.le_refl _)]) (Nat.ble_eq_true_of_le (by rw [hflen]; exact Nat.le_refl _))
  rw [hflen, hfl, ← h3, List.drop_take, List.take_take, Nat.min_eq_left (by omega)]
theorem rop_cutG {lo hi : Option SV} {a c : Nat} (hr : RopTo f (.ptr b 0) (l.flatMap enc)) (hlen : ∀ a, (enc a).length = 1) (hac : a ≤ c) (hc : c ≤ N) (hlo : lo = none ∧ a = 0 ∨ ∃ k', lo = some (.int k' (a : Int))) (hhi : hi = none ∧ c = N ∨ ∃ k', hi = some (.int k' (c : Int))) (hk : slK P t = some (.arr N 1)) (hl : parL l (off + a) (c - a) = some l') :
    ∃ s', (∀ M, xSlice P t (.ptr b off) lo hi none M = .val s' M) ∧ Slc f 1 (FlatR enc) s' l' := by
  obtain ⟨hle, rfl⟩ := parL_some hl
  obtain ⟨cc, h1, h2, h3⟩ := rop_els hr hlen
  have hl' : ((l.drop (off + a)).take (c - a)).length = c - a := by simp; omega
  have hbn := bndsA (top := N) hac hc hlo hhi (Nat.le_refl _)
  have hel : ∀ (k : Nat) (x : α), ((l.drop (off + a)).take (c - a))[k]? = some x → FlatR enc ((cc.drop (off + a * 1 + k * 1)).take 1) x := by
    intro k x hx
    have hk := (List.getElem?_eq_some_iff.1 hx).1
    rw [List.getElem?_take_of_lt (by omega), List.getElem?_drop] at hx
    have := h3 (off + a + k) x hx
    rwa [Nat.mul_one, Nat.mul_one]
  by_cases hcp : N = a
  · refine ⟨.slice b off (c - a) (N - a), fun M => ?_, .inr ⟨b, off, cc, .inl ⟨N - a, by omega, by rw [hl']⟩, h1, by rw [hl']; omega, fun k x hx => ?_⟩⟩
    · unfold xSlice
      have hne : Nat.beq N a = true := by rw [hcp]; exact Nat.beq_refl a
      simp only [hk, hbn, cutAt, hne]
      rfl
    · have := (List.getElem?_eq_some_iff.1 hx).1
      omega
  · refine ⟨.slice b (off + a * 1) (c - a) (N - a), fun M => ?_, .inr ⟨b, off + a * 1, cc, .inl ⟨N - a, by omega, by rw [hl']⟩, h1, by rw [hl']; omega, hel⟩⟩
    unfold xSlice
    have hne : Nat.beq N a = false := by
      cases hh : Nat.beq N a with
      | false => rfl
      | true => exact absurd (Nat.eq_of_beq_eq_true hh) hcp
    simp only [hk, hbn, cutAt, hne]
    rfl
theorem rop_cutH {hi : Int} {r : Nat × Nat} (hr : RopTo f (.ptr b 0) (l.flatMap enc)) (hlen : ∀ a, (enc a).length = 1) (h : subP N 0 hi = some r) (hk : slK P t = some (.arr N 1)) (hl : parL l (off + r.1) r.2 = some l') : ∃ s', (∀ M, xSlice P t (.ptr b off) none (some (.int k0 hi)) none M = .val s' M) ∧ Slc f 1 (FlatR enc) s' l' := by
  obtain ⟨a, c, ha, rfl, h1, h2, rfl⟩ := subP_some h
  exact rop_cutG hr hlen h1 h2 (.inl ⟨rfl, by omega⟩) (.inr ⟨k0, rfl⟩) hk hl
end
end Go.Ev
namespace Go.Ev
open Go
def dsE (l : List Pos) : List Ent := l.map fun d => .obj d .defd
theorem Has.shutD {F : Rd} : ∀ (D : List Pos) {M : Mem} {H T : List Ent}, Has F M (H ++ (dsE D ++ T)) → ∃ M', shutS D M = some M' ∧ Has F M' (H ++ T)
  | [], M, H, T, h => ⟨M, rfl, h⟩
  | d :: D, M, H, T, h => by
    have hi : (H ++ (dsE (d :: D) ++ T))[H.length]? = some (.obj d .defd) := by
      rw [List.getElem?_append_right (Nat.le_refl _), Nat.sub_self]
      rfl
    obtain ⟨h1, h2⟩ := h.shut (ds := D) hi
    have e : (H ++ (dsE (d :: D) ++ T)).set H.length (.vec 0 0 0 .nils []) = (H ++ [.vec 0 0 0 .nils []]) ++ (dsE D ++ T) := by
      rw [List.set_append_right _ _ (Nat.le_refl _), Nat.sub_self, List.append_assoc]
      rfl
    rw [e] at h1
    obtain ⟨M', h3, h4⟩ := Has.shutD D h1
    refine ⟨M', h2 _ h3, h4.base, fun z hz => h4.ok z ?_, ?_⟩
    · rcases List.mem_append.1 hz with h | h
      · exact List.mem_append_left _ (List.mem_append_left _ h)
      · exact List.mem_append_right _ h
    · have := h4.nd
      rw [List.append_assoc, List.flatMap_append] at this
      rw [List.flatMap_append]
      exact this
end Go.Ev
