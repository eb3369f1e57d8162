/- RecordSpans. -/
import Derived.Test.YtbpnoedmnkalpaaGreatDoorRecordSpansMath11
namespace Go.Ev.RecordSpans
open Go Go.Ev Go.Proofs
set_option linter.unusedVariables false
theorem rec_of {B : List S_api_Channel} {L : List S_api_Frame} (h : recE B L = 0) : Rec B L := by
  obtain ⟨e, he, he2⟩ := record_ex 200 (by omega) B L
  rw [prec_eq 200 (by omega)] at he
  exact he2 ((Option.some.inj he).symm.trans h)
theorem sec_of {B : List S_api_Channel} {L : List S_api_Frame} {u v : Int} (h : secE B L u v = 0) : recE B L = 0 ∧ 0 ≤ u ∧ u ≤ v ∧ v ≤ 1073741824 := by
  unfold secE at h
  by_cases h0 : recE B L = 0
  · rw [h0, beq_self_eq_true, cond_true] at h
    refine ⟨h0, ?_⟩
    by_cases h1 : 0 ≤ u
    · by_cases h2 : u ≤ v
      · by_cases h3 : v ≤ 1073741824
        · exact ⟨h1, h2, h3⟩
        · rw [decide_eq_false h3, Bool.and_false, Bool.and_false, cond_false] at h
          exact absurd h (by decide)
      · rw [decide_eq_false h2, Bool.false_and, Bool.and_false, cond_false] at h
        exact absurd h (by decide)
    · rw [decide_eq_false h1, Bool.false_and, cond_false] at h
      exact absurd h (by decide)
  · have e : (recE B L == 0) = false := by rw [beq_eq_false_iff_ne]; exact h0
    rw [e, cond_false] at h
    exact absurd h h0
def gapsP (B : List S_api_Channel) (L : List S_api_Frame) (u v : Int) : List S_api_Span × Int := bif secE B L u v == 0 then (gapsR v u L, 0) else ([], secE B L u v)
theorem pGaps_eq (F : Nat) (hF : 200 < F) (B : List S_api_Channel) (L : List S_api_Frame) (u v : Int) : record_Gaps F B L u v = some (gapsP B L u v) := by
  unfold record_Gaps gapsP
  rw [psec_eq F (by omega), bnd_eq]
  cases e : (secE B L u v == 0) with
  | false => rfl
  | true =>
    obtain ⟨h1, h2, h3, h4⟩ := sec_of (eq_of_beq e)
    have hr := rec_of h1
    rw [Bool.not_true, cond_false, gaps_eq F (by omega) u v (by omega) L hr.len (fun f hf => (hr.frames f hf).1), bnd_eq]
    rfl
theorem rgaps1 (F : Nat) (to : Int) (hto : 0 ≤ to ∧ to ≤ 1073741824) (L : List S_api_Frame) (hL : L.length ≤ 64) (hf : ∀ f ∈ L, 0 ≤ f.Start ∧ f.Start ≤ 1073741824) :
    ∀ (k N i : Nat) (v : Int) (acc : List S_api_Span), k = L.length - i → i ≤ L.length → k < N → acc.length ≤ i → v ≤ to → ref05_Gaps_1 F N L v to i acc = some (acc ++ gapsR to v (L.drop i), 0)
  | k, 0, i, v, acc, _, _, h, _, _ => by omega
  | 0, N + 1, i, v, acc, hk, hi, _, hl, hv => by
    rw [ref05_Gaps_1, bif_neg' (by omega), List.drop_of_length_le (by omega : L.length ≤ i), gapsR]
    unfold ref05_Gaps_5
    by_cases h : v = to
    · rw [if_pos h, bif_neg' (by omega), List.append_nil]
    · rw [if_neg h, bif_pos' (by omega), apd_ok (by simp; omega) (by omega), bnd_eq]
  | k + 1, N + 1, i, v, acc, hk, hi, hN, hl, hv => by
    obtain ⟨x, hx⟩ := get_lt (l := L) (i := i) (by omega)
    have hb := hf x (List.mem_of_getElem? hx)
    have ih := fun v acc h1 h2 => rgaps1 F to hto L hL hf k N (i + 1) v acc (by omega) (by omega) (by omega) h1 h2
    rw [ref05_Gaps_1, bif_pos' (by omega), idx_nat, hx, bnd_eq, drop_get hx, gapsR]
    unfold ref05_Gaps_2 ref05_Gaps_3 ref05_Gaps_4
    rw [up (by omega)]
    by_cases h1 : v ≤ x.Start
    · rw [bif_pos' h1]
      by_cases h2 : x.Start < to
      · rw [if_pos ⟨h1, h2⟩, decide_eq_true h2, cond_true, w64_id (n := x.Start + 1) (by omega) (by omega)]
        by_cases h3 : v = x.Start
        · rw [if_pos h3, bif_neg' (by omega), ih _ _ (by omega) (by omega)]
        · rw [if_neg h3, bif_pos' (by omega), apd_ok (by simp; omega) (by omega), bnd_eq, ih _ _ (by simp; omega) (by omega), List.append_assoc]
          rfl
      · rw [if_neg (by omega), decide_eq_false h2, cond_false, ih _ _ (by omega) hv]
    · rw [bif_neg' h1, cond_false, if_neg (by omega), ih _ _ (by omega) hv]
theorem rGaps_eq (F : Nat) (hF : 200 < F) (B : List S_api_Channel) (L : List S_api_Frame) (hl : B.length ≤ 9223372036854775807) (hlF : B.length < F) (u v : Int) : ref05_Gaps F B L u v = some (gapsP B L u v) := by
  unfold ref05_Gaps gapsP
  rw [rsec_eq F (by omega) B L hl hlF, bnd_eq]
  cases e : (secE B L u v == 0) with
  | false => rfl
  | true =>
    obtain ⟨h1, h2, h3, h4⟩ := sec_of (eq_of_beq e)
    have hr := rec_of h1
    have hlen := hr.len
    have := rgaps1 F v (by omega) L hr.len (fun f hf => (hr.frames f hf).1) L.length F 0 u [] rfl (by omega) (by omega) (by simp) (by omega)
    rw [Bool.not_true, cond_false, cond_true]
    exact this
def sqF (q : Nat) (f : S_api_Frame) : List Int := f.Samples[q]?.getD []
def serq (q : Nat) (u v : Int) (L : List S_api_Frame) : List Int := (L.filter (inr u v)).flatMap (sqF q)
theorem serq_snoc (q : Nat) (u v : Int) (L : List S_api_Frame) (f : S_api_Frame) : serq q u v (L ++ [f]) = serq q u v L ++ (bif inr u v f then sqF q f else []) := by
  unfold serq
  rw [List.filter_append, List.flatMap_append]
  cases e : inr u v f with
  | true => rw [List.filter_cons_of_pos (by simp [e])]; simp
  | false => rw [List.filter_cons_of_neg (by simp [e])]; simp
theorem sq_get {B : List S_api_Channel} {f : S_api_Frame} {q : Nat} (hq : q < B.length) (h : f.Samples.length = B.length ∧ smOK f.Samples) : f.Samples[q]? = some (sqF q f) ∧ (sqF q f).length ≤ 64 := by
  obtain ⟨y, hy⟩ := get_lt (l := f.Samples) (i := q) (by omega)
  unfold sqF
  rw [hy]
  exact ⟨rfl, h.2 y (List.mem_of_getElem? hy)⟩
theorem serq_len {B : List S_api_Channel} {q : Nat} (hq : q < B.length) (u v : Int) : ∀ (L : List S_api_Frame), (∀ f ∈ L, f.Samples.length = B.length ∧ smOK f.Samples) → (serq q u v L).length ≤ L.length * 64
  | [], _ => Nat.le_refl _
  | f :: r, h => by
    have ih := serq_len hq u v r fun g hg => h g (by simp [hg])
    have h1 := (sq_get hq (h f (by simp))).2
    have e : serq q u v (f :: r) = (bif inr u v f then sqF q f else []) ++ serq q u v r := by
      unfold serq
      cases e : inr u v f with
      | true => rw [List.filter_cons_of_pos (by simp [e])]; simp
      | false => rw [List.filter_cons_of_neg (by simp [e])]; simp
    rw [e, List.length_append, List.length_cons]
    cases inr u v f <;> simp <;> omega
theorem pser2 (F : Nat) {B : List S_api_Channel} {L : List S_api_Frame} (hr : Rec B L) {q : Nat} (hq : q < B.length) (u v : Int) : ∀ (k N i : Nat), k = L.length - i → i ≤ L.length → k < N → record_Series_2 F N u v q L L.length i (serq q u v (L.take i)) = some (serq q u v L, 0)
  | k, 0, i, _, _, h => by omega
  | 0, N + 1, i, hk, hi, _ => by
    rw [record_Series_2, bif_neg' (by omega), List.take_of_length_le (by omega)]
  | k + 1, N + 1, i, hk, hi, hN => by
    have hl := hr.len
    obtain ⟨f, hf⟩ := get_lt (l := L) (i := i) (by omega)
    have hfr := hr.frames f (List.mem_of_getElem? hf)
    obtain ⟨hs, hs2⟩ := sq_get hq hfr.2
    have htk : L.take (i + 1) = L.take i ++ [f] := by rw [List.take_add_one, hf]; rfl
    have ih := pser2 F hr hq u v k N (i + 1) (by omega) (by omega) (by omega)
    rw [htk, serq_snoc] at ih
    have hsl := serq_len hq u v (L.take i) (fun g hg => (hr.frames g (List.mem_of_mem_take hg)).2)
    rw [List.length_take] at hsl
    rw [record_Series_2, bif_pos' (by omega), idx_nat, hf, bnd_eq]
    unfold record_Series_3 record_Series_4
    rw [up (by omega)]
    unfold inr at ih
    by_cases h1 : u ≤ f.Start
    · rw [bif_pos' h1]
      by_cases h2 : f.Start < v
      · rw [decide_eq_true h1, decide_eq_true h2, Bool.and_self, cond_true] at ih
        rw [decide_eq_true h2, cond_true, idx_nat, hs, bnd_eq, apd_ok (by omega) (by omega), bnd_eq]
        exact ih
      · rw [decide_eq_false h2, Bool.and_false, cond_false, List.append_nil] at ih
        rw [decide_eq_false h2, cond_false]
        exact ih
    · rw [decide_eq_false h1, Bool.false_and, cond_false, List.append_nil] at ih
      rw [bif_neg' h1, cond_false]
      exact ih
theorem rser3 (F : Nat) {B : List S_api_Channel} {L : List S_api_Frame} (hr : Rec B L) {q : Nat} (hq : q < B.length) (u v : Int) (hu : 0 ≤ u ∧ u ≤ v ∧ v ≤ 1073741824) : ∀ (k N i : Nat), k = L.length - i → i ≤ L.length → k < N → ref05_Series_3 F N L u v q ((L.take i).countP (inr u v) : Nat) i (serq q u v (L.take i)) = some (if (L.countP (inr u v) : Nat) < v - u then ([], 4) else (serq q u v L, 0))
  | k, 0, i, _, _, h => by omega
  | 0, N + 1, i, hk, hi, _ => by
    rw [ref05_Series_3, bif_neg' (by omega), List.take_of_length_le (by omega), w64_id (n := v - u) (by omega) (by omega)]
    by_cases h : ((L.countP (inr u v) : Nat) : Int) < v - u
    · rw [bif_pos' h, if_pos h]
    · rw [bif_neg' h, if_neg h]
  | k + 1, N + 1, i, hk, hi, hN => by
    have hl := hr.len
    obtain ⟨f, hf⟩ := get_lt (l := L) (i := i) (by omega)
    have hfr := hr.frames f (List.mem_of_getElem? hf)
    obtain ⟨hs, hs2⟩ := sq_get hq hfr.2
    have htk : L.take (i + 1) = L.take i ++ [f] := by rw [List.take_add_one, hf]; rfl
    have ih := rser3 F hr hq u v hu k N (i + 1) (by omega) (by omega) (by omega)
    rw [htk, serq_snoc, List.countP_append, List.countP_cons, List.countP_nil] at ih
    have hsl := serq_len hq u v (L.take i) (fun g hg => (hr.frames g (List.mem_of_mem_take hg)).2)
    rw [List.length_take] at hsl
    have hle := List.countP_le_length (p := inr u v) (l := L.take i)
    rw [List.length_take] at hle
    have e : inR u f.Start (w64 (v - 1)) = inr u v f := by
      rw [w64_id (n := v - 1) (by omega) (by omega)]
      unfold inR inr
      congr 1
      exact decide_eq_decide.2 (by omega)
    rw [ref05_Series_3, bif_pos' (by omega), idx_nat, hf, bnd_eq, In_eq, bnd_eq, e]
    unfold ref05_Series_4
    rw [up (i := i) (by omega)]
    cases h : inr u v f with
    | true =>
      rw [h, if_pos rfl, cond_true] at ih
      rw [cond_true, bnd_eq, idx_nat, hs, bnd_eq, apd_ok (by omega) (by omega), bnd_eq, up (by omega)]
      exact ih
    | false =>
      rw [h, cond_false, List.append_nil] at ih
      rw [cond_false]
      exact ih
theorem gaps_empty {L : List S_api_Frame} (hp : L.Pairwise ltF) (u : Int) (n : Nat) : (gapsR (u + n) u L).length = 0 ↔ ¬ ((L.countP (inr u (u + n)) : Nat) : Int) < u + n - u := by
  have hc := flags_count u n L hp
  have hok := gaps_ok (u + n) L u (by omega)
  cases hG : gapsR (u + n) u L with
  | nil =>
    rw [hG] at hc
    have : (fl (inS []) u n).countP id = 0 := by
      rw [List.countP_eq_zero]
      intro b hb
      obtain ⟨k, _, rfl⟩ := List.mem_map.1 hb
      simp [inS]
    constructor
    · intro _; omega
    · intro _; rfl
  | cons s G =>
    rw [hG] at hc hok
    obtain ⟨o1, o2, o3, _⟩ := hok
    obtain ⟨k, hk⟩ : ∃ k : Nat, s.From - u = k := ⟨(s.From - u).toNat, by omega⟩
    have hpos : 0 < (fl (inS (s :: G)) u n).countP id := by
      rw [List.countP_pos_iff]
      refine ⟨true, ?_, rfl⟩
      have hg := fl_get (inS (s :: G)) u (n := n) (k := k) (by omega)
      have : inS (s :: G) (u + (k : Int)) = true := by
        unfold inS
        rw [List.any_cons, decide_eq_true (by omega), decide_eq_true (by omega)]
        rfl
      rw [this] at hg
      exact List.mem_of_getElem? hg
    constructor
    · intro h; simp at h
    · intro h; omega
theorem names_ne : ∀ (l pre : List S_api_Channel), rbookGo pre l = true → (∀ y ∈ pre, ∀ x ∈ l, (y.Name == x.Name) = false) ∧ l.Pairwise fun a b => (a.Name == b.Name) = false
  | [], pre, _ => ⟨fun y _ x hx => (nomatch hx), .nil⟩
  | x :: r, pre, h => by
    unfold rbookGo newB at h
    simp only [Bool.and_eq_true, List.all_eq_true, Bool.not_eq_true'] at h
    obtain ⟨h1, h2⟩ := names_ne r (pre ++ [x]) h.2
    refine ⟨fun y hy z hz => ?_, List.pairwise_cons.2 ⟨fun z hz => h1 x (by simp) z hz, h2⟩⟩
    rcases List.mem_cons.1 hz with rfl | hz
    · exact h.1.2 y hy
    · exact h1 y (by simp [hy]) z hz
theorem pser1 (F : Nat) (hF : 200 < F) {B : List S_api_Channel} {L : List S_api_Frame} (hr : Rec B L) (nm : List UInt8) (u v : Int) (hv : 0 ≤ v ∧ v ≤ 1073741824) (q : Nat) (x : S_api_Channel) (hx : B[q]? = some x) (hxn : (x.Name == nm) = true) (hfst : ∀ (j : Nat) y, j < q → B[j]? = some y → (y.Name == nm) = false) : ∀ (k N i : Nat), k = q - i → i ≤ q → k < N → record_Series_1 F N B B.length i L u v nm = some (if (gapsR v u L).length = 0 then (serq q u v L, 0) else ([], 4))
  | k, 0, i, _, _, h => by omega
  | 0, N + 1, i, hk, hi, _ => by
    have : i = q := by omega
    subst this
    have hlt := (List.getElem?_eq_some_iff.1 hx).1
    rw [record_Series_1, bif_pos' (by omega), idx_nat, hx, bnd_eq, hxn, cond_true, bif_neg' (by omega), gaps_eq F (by omega) u v hv L hr.len (fun f hf => (hr.frames f hf).1), bnd_eq]
    by_cases h : (gapsR v u L).length = 0
    · rw [if_pos h, bif_neg' (by omega)]
      have := pser2 F hr hlt u v L.length F 0 rfl (by omega) (by have := hr.len; omega)
      rw [List.take_zero] at this
      exact this
    · rw [if_neg h, bif_pos' (by omega)]
  | k + 1, N + 1, i, hk, hi, hN => by
    have hlt := (List.getElem?_eq_some_iff.1 hx).1
    have hb := hr.book.1
    obtain ⟨y, hy⟩ := get_lt (l := B) (i := i) (by omega)
    rw [record_Series_1, bif_pos' (by omega), idx_nat, hy, bnd_eq, hfst i y (by omega) hy, cond_false, up (by omega)]
    exact pser1 F hF hr nm u v hv q x hx hxn hfst k N (i + 1) (by omega) (by omega) (by omega)
theorem pser0 (F : Nat) {B : List S_api_Channel} (hB : B.length ≤ 16) (L : List S_api_Frame) (nm : List UInt8) (u v : Int) (hno : ∀ y ∈ B, (y.Name == nm) = false) : ∀ (k N i : Nat), k = B.length - i → i ≤ B.length → k < N → record_Series_1 F N B B.length i L u v nm = some ([], 2)
  | k, 0, i, _, _, h => by omega
  | 0, N + 1, i, hk, hi, _ => by
    rw [record_Series_1, bif_neg' (by omega), bif_pos' (by omega)]
  | k + 1, N + 1, i, hk, hi, hN => by
    obtain ⟨y, hy⟩ := get_lt (l := B) (i := i) (by omega)
    rw [record_Series_1, bif_pos' (by omega), idx_nat, hy, bnd_eq, hno y (List.mem_of_getElem? hy), cond_false, up (by omega)]
    exact pser0 F hB L nm u v hno k N (i + 1) (by omega) (by omega) (by omega)
theorem rser0 (F : Nat) {B : List S_api_Channel} (hB : B.length ≤ 16) (L : List S_api_Frame) (nm : List UInt8) (u v : Int) (hno : ∀ y ∈ B, (y.Name == nm) = false) : ∀ (k N i : Nat), k = B.length - i → i ≤ B.length → k < N → ref05_Series_1 F N B L nm u v (-1) i = some ([], 2)
  | k, 0, i, _, _, h => by omega
  | 0, N + 1, i, hk, hi, _ => by
    rw [ref05_Series_1, bif_neg' (by omega), bif_pos' (by omega)]
  | k + 1, N + 1, i, hk, hi, hN => by
    obtain ⟨y, hy⟩ := get_lt (l := B) (i := i) (by omega)
    rw [ref05_Series_1, bif_pos' (by omega), idx_nat, hy, bnd_eq, hno y (List.mem_of_getElem? hy), cond_false]
    unfold ref05_Series_2
    rw [up (by omega)]
    exact rser0 F hB L nm u v hno k N (i + 1) (by omega) (by omega) (by omega)
theorem rser1 (F : Nat) (hF : 200 < F) {B : List S_api_Channel} {L : List S_api_Frame} (hr : Rec B L) (nm : List UInt8) (u v : Int) (hu : 0 ≤ u ∧ u ≤ v ∧ v ≤ 1073741824) (q : Nat) (hq : q < B.length) (hone : ∀ (j : Nat) y, B[j]? = some y → (y.Name == nm) = decide (j = q)) : ∀ (k N i : Nat), k = B.length - i → i ≤ B.length → k < N → ref05_Series_1 F N B L nm u v (if q < i then (q : Int) else -1) i = some (if (L.countP (inr u v) : Nat) < v - u then ([], 4) else (serq q u v L, 0))
  | k, 0, i, _, _, h => by omega
  | 0, N + 1, i, hk, hi, _ => by
    rw [ref05_Series_1, bif_neg' (by omega), if_pos (by omega), bif_neg' (by omega)]
    have := rser3 F hr hq u v hu L.length F 0 rfl (by omega) (by have := hr.len; omega)
    rw [List.take_zero] at this
    exact this
  | k + 1, N + 1, i, hk, hi, hN => by
    have hb := hr.book.1
    obtain ⟨y, hy⟩ := get_lt (l := B) (i := i) (by omega)
    have ih := rser1 F hF hr nm u v hu q hq hone k N (i + 1) (by omega) (by omega) (by omega)
    rw [ref05_Series_1, bif_pos' (by omega), idx_nat, hy, bnd_eq, hone i y hy]
    unfold ref05_Series_2
    rw [up (by omega)]
    by_cases h : i = q
    · subst h
      rw [decide_eq_true rfl, cond_true]
      rw [if_pos (by omega)] at ih
      exact ih
    · rw [decide_eq_false h, cond_false]
      have e : (if q < i then (q : Int) else -1) = if q < i + 1 then (q : Int) else -1 := by
        by_cases h2 : q < i
        · rw [if_pos h2, if_pos (by omega)]
        · rw [if_neg h2, if_neg (by omega)]
      rw [e]
      exact ih
theorem series_same (F : Nat) (hF : 200 < F) (B : List S_api_Channel) (L : List S_api_Frame) (nm : List UInt8) (u v : Int) (hl : B.length ≤ 9223372036854775807) (hlF : B.length < F) : ∃ r, record_Series F B L nm u v = some r ∧ ref05_Series F B L nm u v = some r ∧ r.1.length ≤ 4096 := by
  unfold record_Series ref05_Series
  rw [psec_eq F (by omega), bnd_eq, rsec_eq F (by omega) B L hl hlF, bnd_eq]
  cases e : (secE B L u v == 0) with
  | false => exact ⟨_, rfl, rfl, by simp⟩
  | true =>
    obtain ⟨h1, h2, h3, h4⟩ := sec_of (eq_of_beq e)
    have hr := rec_of h1
    have hb := hr.book.1
    have hlen := hr.len
    rw [Bool.not_true, cond_false, cond_false]
    by_cases hno : ∀ y ∈ B, (y.Name == nm) = false
    · exact ⟨([], 2), pser0 F (by omega) L nm u v hno B.length F 0 rfl (by omega) (by omega), rser0 F (by omega) L nm u v hno B.length F 0 rfl (by omega) (by omega), by simp⟩
    · obtain ⟨x, hx, hxn⟩ : ∃ x ∈ B, (x.Name == nm) = true := by
        apply Classical.byContradiction
        intro hc
        exact hno fun y hy => Bool.eq_false_iff.2 fun h => hc ⟨y, hy, h⟩
      obtain ⟨q, hq⟩ := List.getElem?_of_mem hx
      have hqlt := (List.getElem?_eq_some_iff.1 hq).1
      have hbk : bookB B = true := by
        unfold recE at h1
        cases hb0 : bookB B with
        | true => rfl
        | false => rw [hb0, cond_false] at h1; exact absurd h1 (by decide)
      have hgo : rbookGo [] B = true := by
        unfold bookB at hbk
        rw [Bool.and_eq_true, book_same B [] [] (fun x => rfl)] at hbk
        exact hbk.2
      have hpw := (names_ne B [] hgo).2
      rw [List.pairwise_iff_getElem] at hpw
      have hone : ∀ (j : Nat) y, B[j]? = some y → (y.Name == nm) = decide (j = q) := by
        intro j y hy
        have hjlt := (List.getElem?_eq_some_iff.1 hy).1
        by_cases hj : j = q
        · subst hj
          rw [hq] at hy
          cases hy
          rw [hxn, decide_eq_true rfl]
        · rw [decide_eq_false hj]
          have hxe : x.Name = nm := eq_of_beq hxn
          rw [← hxe]
          rcases Nat.lt_or_gt_of_ne hj with h | h
          · have := hpw j q hjlt hqlt h
            rw [(List.getElem?_eq_some_iff.1 hy).2, (List.getElem?_eq_some_iff.1 hq).2] at this
            exact this
          · have := hpw q j hqlt hjlt h
            rw [(List.getElem?_eq_some_iff.1 hy).2, (List.getElem?_eq_some_iff.1 hq).2] at this
            rw [Bool.beq_comm]
            exact this
      have p := pser1 F hF hr nm u v (by omega) q x hq hxn (fun j y hj hy => by rw [hone j y hy, decide_eq_false (by omega)]) q F 0 rfl (by omega) (by omega)
      have r := rser1 F hF hr nm u v (by omega) q hqlt hone B.length F 0 rfl (by omega) (by omega)
      obtain ⟨n, hn⟩ : ∃ n : Nat, v = u + n := ⟨(v - u).toNat, by omega⟩
      have hge := gaps_empty hr.ord u n
      rw [← hn] at hge
      rw [if_neg (by omega)] at r
      refine ⟨_, p, ?_, ?_⟩
      · refine Eq.trans r ?_
        by_cases h : (gapsR v u L).length = 0
        · rw [if_pos h, if_neg (hge.1 h)]
        · rw [if_neg h, if_pos (Classical.byContradiction fun hc => h (hge.2 hc))]
      · split
        · have := serq_len hqlt u v L fun f hf => (hr.frames f hf).2
          show (serq q u v L).length ≤ 4096
          omega
        · simp
theorem spans_self (F : Nat) (l : List S_api_Span) (hl : l.length ≤ 1000) : ∀ (k N i : Nat), k = l.length - i → i ≤ l.length → k < N → law05_sameSpans_1 F N l l i = some true
  | k, 0, i, _, _, h => by omega
  | 0, N + 1, i, hk, hi, _ => by rw [law05_sameSpans_1, bif_neg' (by omega)]
  | k + 1, N + 1, i, hk, hi, hN => by
    obtain ⟨x, hx⟩ := get_lt (l := l) (i := i) (by omega)
    rw [law05_sameSpans_1, bif_pos' (by omega), idx_nat, hx, bnd_eq, bnd_eq]
    simp only [beq_self_eq_true, Bool.and_self, Bool.not_true, cond_false]
    rw [up (by omega)]
    exact spans_self F l hl k N (i + 1) (by omega) (by omega) (by omega)
theorem gapsR_len (to : Int) : ∀ (L : List S_api_Frame) (v : Int), (gapsR to v L).length ≤ L.length + 1 := by
  intro L
  induction L with
  | nil => intro v; rw [gapsR]; split <;> simp
  | cons f r ih =>
    intro v
    rw [gapsR]
    split
    · split
      · have := ih (f.Start + 1); simp; omega
      · have := ih (f.Start + 1); simp; omega
    · have := ih v; simp; omega
theorem sp3 (F : Nat) (hF : 5000 < F) (hw : works F = some true) (B : List S_api_Channel) (L : List S_api_Frame) (nm : List UInt8) (c : S__2_int) (r : List Int × Int) (hr : record_Series F B L nm c.e0 c.e1 = some r) (hrl : r.1.length ≤ 4096) : ∀ (k N i : Nat) (l : List Int), k = l.length - i → i ≤ l.length → k < N → l.length ≤ 4096 → law05_RecordSpans_3 F N nm r.2 i B L c l r.1 = some true
  | k, 0, i, l, _, _, h, _ => by omega
  | 0, N + 1, i, l, hk, hi, _, _ => by
    rw [law05_RecordSpans_3, bif_neg' (by omega), hr, bnd_eq, same_self F r.1 (by omega) (by omega), bnd_eq, cond_true, beq_self_eq_true]
    unfold law05_RecordSpans_4 law05_RecordSpans_5
    rw [cond_true, hw]
    rfl
  | k + 1, N + 1, i, l, hk, hi, hN, hl => by
    rw [law05_RecordSpans_3, bif_pos' (by omega), inn_at (by omega), bnd_eq, upd_at (by omega), bnd_eq, up (by omega)]
    exact sp3 F hF hw B L nm c r hr hrl k N (i + 1) _ (by rw [List.length_set]; omega) (by rw [List.length_set]; omega) (by omega) (by rw [List.length_set]; exact hl)
theorem law_eq (F : Nat) (t : S_ringdownlaw05_Tape) (nm : List UInt8) (c : S__2_int) (hl : t.B.length ≤ 9223372036854775807) (hF : t.B.length + 6000 < F) (hw : works F = some true) : law05_RecordSpans F t nm c = some true := by
  have hg : (gapsP t.B t.L c.e0 c.e1).1.length ≤ 1000 := by
    unfold gapsP
    cases e : (secE t.B t.L c.e0 c.e1 == 0) with
    | false => simp
    | true =>
      obtain ⟨h1, _⟩ := sec_of (eq_of_beq e)
      have := (rec_of h1).len
      have := gapsR_len c.e1 t.L c.e0
      show (gapsR c.e1 c.e0 t.L).length ≤ 1000
      omega
  obtain ⟨r, hp, hr, hrl⟩ := series_same F (by omega) t.B t.L nm c.e0 c.e1 hl (by omega)
  have hs := spans_self F (gapsP t.B t.L c.e0 c.e1).1 hg (gapsP t.B t.L c.e0 c.e1).1.length F 0 rfl (by omega) (by omega)
  have hs' : law05_sameSpans F (gapsP t.B t.L c.e0 c.e1).1 (gapsP t.B t.L c.e0 c.e1).1 = some true := by
    unfold law05_sameSpans
    rw [beq_self_eq_true, Bool.not_true, cond_false]
    exact hs
  unfold law05_RecordSpans
  rw [pGaps_eq F (by omega), bnd_eq, rGaps_eq F (by omega) t.B t.L hl (by omega), bnd_eq, hs', bnd_eq, Bool.not_true, cond_false, beq_self_eq_true, Bool.not_true]
  unfold law05_RecordSpans_1
  rw [cond_false, hp, bnd_eq, hr, bnd_eq, same_self F r.1 (by omega) (by omega), bnd_eq, Bool.not_true, cond_false, beq_self_eq_true, Bool.not_true]
  unfold law05_RecordSpans_2
  rw [cond_false]
  exact sp3 F (by omega) hw t.B t.L nm c r hp hrl r.1.length F 0 r.1 rfl (by omega) (by omega) hrl
end Go.Ev.RecordSpans
