/- RecordSeconds, its end. -/
import Derived.Test.YtbpnoedmnkalpaaGreatDoorRecordSecondsMath6
namespace Go.Ev.RecordSeconds
open Go Go.Ev Go.Proofs
set_option linter.unusedVariables false
theorem series2 (F : Nat) {B : List S_api_Channel} {L : List S_api_Frame} (hr : Rec B L) (u v : Int) : ∀ (k N i : Nat), k = L.length - i → i ≤ L.length → k < N → record_Series_2 F N u v 0 L L.length i (ser u v (L.take i)) = some (ser u v L, 0)
  | k, 0, i, _, _, h => by omega
  | 0, N + 1, i, hk, hi, _ => by
    rw [record_Series_2, bif_neg' (by omega), List.take_of_length_le (by omega)]
  | k + 1, N + 1, i, hk, hi, hN => by
    have hl := hr.len
    obtain ⟨f, hf⟩ := get_lt (l := L) (i := i) (by omega)
    have hfr := hr.frames f (List.mem_of_getElem? hf)
    obtain ⟨hs, hs2⟩ := s0_get hr.book.1.1 hfr.2
    have htk : L.take (i + 1) = L.take i ++ [f] := by rw [List.take_add_one, hf]; rfl
    have ih := series2 F hr u v k N (i + 1) (by omega) (by omega) (by omega)
    rw [htk, ser_snoc] at ih
    have hsl := ser_len hr.book.1.1 u v (L.take i) (fun g hg => (hr.frames g (List.mem_of_mem_take hg)).2)
    rw [List.length_take] at hsl
    have hs' : idx f.Samples 0 = some (s0 f) := hs
    rw [record_Series_2, bif_pos' (by omega), idx_nat, hf, bnd_eq]
    unfold record_Series_3 record_Series_4
    rw [up (by omega)]
    unfold inr at ih
    by_cases h1 : u ≤ f.Start
    · rw [bif_pos' h1]
      by_cases h2 : f.Start < v
      · rw [decide_eq_true h1, decide_eq_true h2, Bool.and_self, cond_true] at ih
        rw [decide_eq_true h2, cond_true, hs', bnd_eq, apd_ok (by omega) (by omega), bnd_eq]
        exact ih
      · rw [decide_eq_false h2, Bool.and_false, cond_false, List.append_nil] at ih
        rw [decide_eq_false h2, cond_false]
        exact ih
    · rw [decide_eq_false h1, Bool.false_and, cond_false, List.append_nil] at ih
      rw [bif_neg' h1, cond_false]
      exact ih
theorem Series_eq (F : Nat) (hF : 200 < F) {B : List S_api_Channel} {L : List S_api_Frame} (hr : Rec B L) (u v : Int) (hv : 0 ≤ v ∧ v ≤ 1073741824) (hc : record_checkSeconds F B L u v = some 0) (x : S_api_Channel) (hx : B[0]? = some x) : record_Series F B L x.Name u v = some (if (gapsR v u L).length = 0 then (ser u v L, 0) else ([], 4)) := by
  have hx' : idx B ((0 : Nat) : Int) = some x := hx
  unfold record_Series
  rw [hc, bnd_eq]
  obtain ⟨N, rfl⟩ : ∃ N, F = N + 1 := ⟨F - 1, by omega⟩
  show record_Series_1 (N + 1) (N + 1) B B.length ((0 : Nat) : Int) L u v x.Name = _
  have hb := hr.book.1
  rw [record_Series_1, bif_pos' (by omega), hx', bnd_eq, beq_self_eq_true, cond_true, bif_neg' (by omega), gaps_eq (N + 1) (by omega) u v hv L hr.len (fun f hf => (hr.frames f hf).1), bnd_eq]
  by_cases h : (gapsR v u L).length = 0
  · rw [if_pos h, bif_neg' (by omega)]
    have := series2 (N + 1) hr u v L.length (N + 1) 0 rfl (by omega) (by have := hr.len; omega)
    rw [List.take_zero] at this
    exact this
  · rw [if_neg h, bif_pos' (by omega)]
theorem count_or {α : Type} (p q : α → Bool) : ∀ l : List α, (∀ x ∈ l, ¬ (p x = true ∧ q x = true)) → l.countP (fun x => p x || q x) = l.countP p + l.countP q
  | [], _ => rfl
  | a :: l, h => by
    have ih := count_or p q l fun x hx => h x (by simp [hx])
    have h1 := h a (by simp)
    rw [List.countP_cons, List.countP_cons, List.countP_cons, ih]
    cases hp : p a with
    | true =>
      have hq : q a = false := by
        cases hq : q a with
        | true => exact absurd ⟨hp, hq⟩ h1
        | false => rfl
      simp [hq]
      omega
    | false => simp; omega
theorem count_eq (u x : Int) : ∀ n : Nat, (List.range n).countP (fun k : Nat => x == u + (k : Int)) = if u ≤ x ∧ x < u + n then 1 else 0
  | 0 => by rw [if_neg (by omega)]; rfl
  | n + 1 => by
    rw [List.range_succ, List.countP_append, count_eq u x n, List.countP_cons, List.countP_nil]
    by_cases h : x = u + (n : Int)
    · have e : (x == u + (n : Int)) = true := by rw [beq_iff_eq]; exact h
      rw [if_neg (by omega), e, if_pos rfl, if_pos (by omega)]
    · have e : (x == u + (n : Int)) = false := by rw [beq_eq_false_iff_ne]; exact h
      rw [e]
      by_cases h2 : u ≤ x ∧ x < u + n
      · rw [if_pos h2, if_neg (by simp), if_pos (by omega)]
      · rw [if_neg h2, if_neg (by simp), if_neg (by omega)]
theorem count_any (u : Int) (n : Nat) : ∀ L : List S_api_Frame, L.Pairwise ltF → (List.range n).countP (fun k : Nat => L.any fun f => f.Start == u + (k : Int)) = L.countP (inr u (u + n))
  | [], _ => by simp
  | f :: r, hp => by
    obtain ⟨p1, p2⟩ := List.pairwise_cons.1 hp
    have ih := count_any u n r p2
    have e : (fun k : Nat => (f :: r).any fun f => f.Start == u + (k : Int)) = fun k : Nat => (f.Start == u + (k : Int)) || (r.any fun f => f.Start == u + (k : Int)) := by
      funext k
      rw [List.any_cons]
    rw [e, count_or, ih, count_eq, List.countP_cons]
    · unfold inr
      by_cases h : u ≤ f.Start ∧ f.Start < u + n
      · rw [if_pos h, decide_eq_true h.1, decide_eq_true h.2]
        simp
        omega
      · rw [if_neg h]
        have : (decide (u ≤ f.Start) && decide (f.Start < u + n)) = false := by
          rw [Bool.and_eq_false_iff, decide_eq_false_iff_not, decide_eq_false_iff_not]
          omega
        rw [this]
        simp
    · rintro k _ ⟨h1, h2⟩
      rw [beq_iff_eq] at h1
      rw [List.any_eq_true] at h2
      obtain ⟨g, hg, h3⟩ := h2
      rw [beq_iff_eq] at h3
      have : f.Start < g.Start := p1 g hg
      omega
theorem law8 (F : Nat) (hF : 200 < F) (hw : works F = some true) {B : List S_api_Channel} {L : List S_api_Frame} (hr : Rec B L) (u : Int) (n : Nat) (hu : 0 ≤ u ∧ u + n ≤ 1073741824) (hn : n ≤ 1000) (hc : record_checkSeconds F B L u (u + n) = some 0) (fs : List Bool) (hfs : fs.length = n) (hcnt : L.countP (inr u (u + n)) + fs.countP id = n) (x : S_api_Channel) (hx : B[0]? = some x) (hFl : L.length * 64 + 10 < F) :
    ∀ (k N i : Nat), k = fs.length - i → i ≤ fs.length → k < N → law05_RecordSeconds_8 F N u (u + n) ((L.countP (inr u (u + n)) + (fs.take i).countP id : Nat) : Int) i B L (gapsR (u + n) u L) fs (ser u (u + n) L) = some true
  | k, 0, i, _, _, h => by omega
  | 0, N + 1, i, hk, hi, _ => by
    have hx' : idx B 0 = some x := hx
    have hsl := ser_len hr.book.1.1 u (u + n) L fun g hg => (hr.frames g hg).2
    have hl := hr.len
    rw [law05_RecordSeconds_8, bif_neg' (by omega), hx', bnd_eq, Series_eq F hF hr u (u + n) (by omega) hc x hx, bnd_eq, List.take_of_length_le (by omega), hcnt, w64_id (n := u + (n : Int) - u) (by omega) (by omega)]
    have e : (((n : Nat) : Int) == u + (n : Int) - u) = true := by rw [beq_iff_eq]; omega
    have same := same_self F (ser u (u + n) L) (by omega) (by omega)
    rw [e, Bool.not_true, cond_false]
    unfold law05_RecordSeconds_10 law05_RecordSeconds_11 law05_RecordSeconds_14 law05_RecordSeconds_13 law05_RecordSeconds_12 law05_RecordSeconds_11 law05_RecordSeconds_13 law05_RecordSeconds_12
    by_cases h : (gapsR (u + n) u L).length = 0
    · rw [if_pos h, h]
      simp [same, hw, bnd_eq]
    · have e2 : (((gapsR (u + n) u L).length : Int) == 0) = false := by rw [beq_eq_false_iff_ne]; omega
      rw [if_neg h, e2]
      simp [hw, bnd_eq]
  | k + 1, N + 1, i, hk, hi, hN => by
    obtain ⟨b, hb⟩ := get_lt (l := fs) (i := i) (by omega)
    have htk : fs.take (i + 1) = fs.take i ++ [b] := by rw [List.take_add_one, hb]; rfl
    have ih := law8 F hF hw hr u n hu hn hc fs hfs hcnt x hx hFl k N (i + 1) (by omega) (by omega) (by omega)
    rw [htk, List.countP_append, List.countP_cons, List.countP_nil] at ih
    have hle := List.countP_le_length (p := id) (l := fs.take i)
    have hle2 := List.countP_le_length (p := inr u (u + n)) (l := L)
    rw [List.length_take] at hle
    have hl := hr.len
    rw [law05_RecordSeconds_8, bif_pos' (by omega), idx_nat, hb, bnd_eq]
    unfold law05_RecordSeconds_9
    rw [up (i := i) (by omega)]
    cases b with
    | true =>
      rw [cond_true, up (by omega)]
      exact ih
    | false =>
      rw [cond_false]
      exact ih
theorem law5 (F : Nat) (hF : 200 < F) {B : List S_api_Channel} {L : List S_api_Frame} (hr : Rec B L) (u : Int) (n : Nat) (hu : 0 ≤ u ∧ u + n ≤ 1073741824) (hn : n ≤ 1000)
    (hend : law05_RecordSeconds_8 F F u (u + n) (L.countP (inr u (u + n)) : Nat) 0 B L (gapsR (u + n) u L) (fl (inS (gapsR (u + n) u L)) u n) (ser u (u + n) L) = some true) :
    ∀ (k N i : Nat), k = L.length - i → i ≤ L.length → k < N → law05_RecordSeconds_5 F N u (u + n) ((L.take i).countP (inr u (u + n)) : Nat) i B L (gapsR (u + n) u L) (fl (inS (gapsR (u + n) u L)) u n) (ser u (u + n) (L.take i)) = some true
  | k, 0, i, _, _, h => by omega
  | 0, N + 1, i, hk, hi, _ => by
    rw [law05_RecordSeconds_5, bif_neg' (by omega), List.take_of_length_le (by omega)]
    exact hend
  | k + 1, N + 1, i, hk, hi, hN => by
    have hl := hr.len
    obtain ⟨f, hf⟩ := get_lt (l := L) (i := i) (by omega)
    have hfm := List.mem_of_getElem? hf
    have hfr := hr.frames f hfm
    obtain ⟨hs, hs2⟩ := s0_get hr.book.1.1 hfr.2
    have hs' : idx f.Samples 0 = some (s0 f) := hs
    have htk : L.take (i + 1) = L.take i ++ [f] := by rw [List.take_add_one, hf]; rfl
    have ih := law5 F hF hr u n hu hn hend k N (i + 1) (by omega) (by omega) (by omega)
    rw [htk, ser_snoc, List.countP_append, List.countP_cons, List.countP_nil] at ih
    have hsl := ser_len hr.book.1.1 u (u + n) (L.take i) (fun g hg => (hr.frames g (List.mem_of_mem_take hg)).2)
    rw [List.length_take] at hsl
    have hle := List.countP_le_length (p := inr u (u + n)) (l := L.take i)
    rw [List.length_take] at hle
    have skip : inr u (u + n) f = false → ∀ s, law05_RecordSeconds_6 F (law05_RecordSeconds_5 F N) u (u + n) ((L.take i).countP (inr u (u + n)) : Nat) i s true B L (gapsR (u + n) u L) (fl (inS (gapsR (u + n) u L)) u n) (ser u (u + n) (L.take i)) = some true := by
      intro h s
      rw [h] at ih
      unfold law05_RecordSeconds_6 law05_RecordSeconds_7
      rw [cond_true, up (by omega)]
      rw [cond_false, List.append_nil] at ih
      exact ih
    rw [law05_RecordSeconds_5, bif_pos' (by omega), idx_nat, hf, bnd_eq]
    by_cases h1 : f.Start < u
    · rw [bif_pos' h1]
      exact skip (by unfold inr; rw [decide_eq_false (by omega), Bool.false_and]) _
    · rw [bif_neg' h1]
      by_cases h2 : u + (n : Int) ≤ f.Start
      · rw [decide_eq_true h2]
        exact skip (by unfold inr; rw [decide_eq_false (show ¬ f.Start < u + n by omega), Bool.and_false]) _
      · have hin : inr u (u + n) f = true := by unfold inr; rw [decide_eq_true (by omega), decide_eq_true (by omega)]; rfl
        obtain ⟨q, hq⟩ : ∃ q : Nat, f.Start - u = q := ⟨(f.Start - u).toNat, by omega⟩
        have hmiss : inS (gapsR (u + n) u L) (u + (q : Int)) = false := by
          rw [miss_iff (u + n) L u hr.ord (u + (q : Int)) (by omega) (by omega), Bool.not_eq_false', List.any_eq_true]
          exact ⟨f, hfm, by rw [beq_iff_eq]; omega⟩
        rw [hin] at ih
        unfold law05_RecordSeconds_6 law05_RecordSeconds_7
        rw [decide_eq_false h2, cond_false, w64_id (n := f.Start - u) (by omega) (by omega), hq, idx_nat, fl_get _ _ (by omega), bnd_eq, hmiss, cond_false, idx_nat, hf, bnd_eq, hs', bnd_eq, apd_ok (by omega) (by omega), bnd_eq, up (by omega), up (by omega)]
        exact ih
theorem flags_count (u : Int) (n : Nat) (L : List S_api_Frame) (hp : L.Pairwise ltF) : L.countP (inr u (u + n)) + (fl (inS (gapsR (u + n) u L)) u n).countP id = n := by
  have e : (fl (inS (gapsR (u + n) u L)) u n).countP id = (List.range n).countP fun k : Nat => !(L.any fun f => f.Start == u + (k : Int)) := by
    unfold fl
    rw [List.countP_map]
    refine List.countP_congr fun k hk => ?_
    have hk' := List.mem_range.1 hk
    show inS (gapsR (u + n) u L) (u + (k : Int)) = true ↔ _
    rw [miss_iff (u + n) L u hp (u + (k : Int)) (by omega) (by omega)]
  rw [e, ← count_any u n L hp]
  have := List.length_eq_countP_add_countP (fun k : Nat => L.any fun f => f.Start == u + (k : Int)) (l := List.range n)
  rw [List.length_range] at this
  have e2 : (List.range n).countP (fun k : Nat => !(L.any fun f => f.Start == u + (k : Int))) = (List.range n).countP (fun a : Nat => decide ¬(L.any fun f => f.Start == u + (a : Int)) = true) := by
    refine List.countP_congr fun k hk => ?_
    simp
  rw [e2]
  omega
theorem law_eq (F : Nat) (t : S_ringdownlaw05_Tape) (a b : Int) (hF : 6000 < F) (hw : works F = some true) : law05_RecordSeconds F t a b = some true := by
  have a1 := Int.emod_nonneg a (show (1073741824 : Int) ≠ 0 by omega)
  have a2 := Int.emod_lt_of_pos a (show (0 : Int) < 1073741824 by omega)
  have b1 := Int.emod_nonneg b (show (200 : Int) ≠ 0 by omega)
  have b2 := Int.emod_lt_of_pos b (show (0 : Int) < 200 by omega)
  unfold law05_RecordSeconds
  rw [Mod_eq F a 1073741824 (by omega) (by omega), bnd_eq, Mod_eq F b 200 (by omega) (by omega), bnd_eq]
  generalize a % 1073741824 = u at *
  generalize b % 200 = d at *
  rw [w64_id (n := u + d) (by omega) (by omega)]
  obtain ⟨n, hn⟩ : ∃ n : Nat, min (u + d) 1073741824 = u + n := ⟨(min (u + d) 1073741824 - u).toNat, by omega⟩
  rw [hn]
  obtain ⟨e, he, he2⟩ := seconds_ex F (by omega) t.B t.L u (u + n)
  unfold record_Gaps law05_RecordSeconds_1
  rw [he, bnd_eq]
  by_cases h0 : e = 0
  · subst h0
    have hr := he2 rfl
    have hl := hr.len
    obtain ⟨x, hx⟩ := get_lt (l := t.B) (i := 0) (by have := hr.book.1; omega)
    have hok := gaps_ok (u + n) t.L u (by omega)
    have hG : (gapsR (u + n) u t.L).length ≤ 1000 := by
      have : ∀ (L : List S_api_Frame) (v : Int), (gapsR (u + n) v L).length ≤ L.length + 1 := by
        intro L
        induction L with
        | nil => intro v; rw [gapsR]; split <;> simp
        | cons f r ih =>
          intro v
          rw [gapsR]
          split
          · split
            · have := ih (f.Start + 1); simp; omega
            · have := ih (f.Start + 1); simp; omega
          · have := ih v; simp; omega
      have := this t.L u
      omega
    rw [beq_self_eq_true, Bool.not_true, cond_false, gaps_eq F (by omega) u (u + n) (by omega) t.L hl (fun f hf => (hr.frames f hf).1), bnd_eq, bnd_eq, beq_self_eq_true, Bool.not_true, cond_false, w64_id (n := u + (n : Int) - u) (by omega) (by omega), show u + (n : Int) - u = ((n : Nat) : Int) by omega, mk_ok (by omega) (by omega), bnd_eq, w64_id (n := u - 1) (by omega) (by omega)]
    have hz : List.replicate n false = fl (inS ((gapsR (u + n) u t.L).take 0)) u n := by
      apply List.ext_getElem?
      intro i
      by_cases hi : i < n
      · rw [fl_get _ _ hi]
        simp [hi, inS]
      · rw [List.getElem?_eq_none (by simp; omega), List.getElem?_eq_none (by rw [fl_len]; omega)]
    rw [hz]
    have h8 := law8 F (by omega) hw hr u n (by omega) (by omega) he (fl (inS (gapsR (u + n) u t.L)) u n) (fl_len _ _ _) (flags_count u n t.L hr.ord) x hx (by omega) n F 0 (by rw [fl_len]; rfl) (by omega) (by omega)
    rw [List.take_zero, List.countP_nil, Nat.add_zero] at h8
    have h5 := law5 F (by omega) hr u n (by omega) (by omega) h8 t.L.length F 0 rfl (by omega) (by omega)
    rw [List.take_zero] at h5
    exact law2 F t.B t.L (gapsR (u + n) u t.L) hG u n (by omega) (by omega) h5 (gapsR (u + n) u t.L).length F 0 (u - 1) rfl (by omega) (by omega) (by omega) (by rw [List.drop_zero, show u - 1 + 1 = u by omega]; exact hok)
  · have e' : (e == 0) = false := by rw [beq_eq_false_iff_ne]; exact h0
    rw [e', Bool.not_false, cond_true, bnd_eq]
    simp only [e', Bool.not_false, cond_true, List.length_nil, hw, bnd_eq]
    rfl
end Go.Ev.RecordSeconds
