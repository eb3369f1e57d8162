/- Records, said twice: frames and their order, what is missing, series. -/
import Derived.Test.YtbpnoedmnkalpaaGreatDoorRecordSpansMath8
namespace Go.Ev.RecordSpans
open Go Go.Ev Go.Proofs
set_option linter.unusedVariables false
def pB (x : S_api_Channel) : Int := w64 (1 * 2 ^ (min (x.Bits - 1).toNat (IntKind.bits .i64)))
def vB (x : S_api_Channel) (v : Int) : Bool := inR (w64 (-(pB x))) v (w64 (pB x - 1))
def frOK (x : S_api_Channel) (y : List Int) : Bool := ((y.length : Int) == x.Rate) && y.all (vB x)
def chGo : List S_api_Channel → List (List Int) → Bool
  | x :: B, y :: s => frOK x y && chGo B s
  | _, _ => true
theorem pframe4 (F : Nat) (hd : List S_api_Channel → Int → List S_api_Channel → Int → Int → Int → List (List Int) → Option Bool) (B : List S_api_Channel) (v5 : Int) (x : S_api_Channel) (v23 : List S_api_Channel) (v24 v25 st : Int) (sm : List (List Int)) (h5 : v5 ≠ B.length) (l : List Int) (hl : l.length ≤ 64) :
    ∀ (k N i : Nat), k = l.length - i → i ≤ l.length → k < N → record_isFrame_4 F hd N B v5 (pB x) v23 v24 v25 l l.length i st sm = bif (l.drop i).all (vB x) then hd B (w64 (v5 + 1)) v23 v24 (w64 (v25 + 1)) st sm else some false
  | k, 0, i, _, _, h => by omega
  | 0, N + 1, i, hk, hi, _ => by
    rw [record_isFrame_4, bif_neg' (by omega), List.drop_of_length_le (by omega : l.length ≤ i)]
    rfl
  | k + 1, N + 1, i, hk, hi, hN => by
    obtain ⟨v, hx⟩ := get_lt (l := l) (i := i) (by omega)
    rw [record_isFrame_4, bif_pos' (by omega), idx_nat, hx, bnd_eq, isFrom_eq, bnd_eq, up (by omega), pframe4 F hd B v5 x v23 v24 v25 st sm h5 l hl k N (i + 1) (by omega) (by omega) (by omega), drop_get hx, List.all_cons]
    unfold record_isFrame_3
    have e : (v5 == (B.length : Int)) = false := by rw [beq_eq_false_iff_ne]; exact h5
    rw [e]
    show (bif !(vB x v) then _ else _) = _
    cases vB x v <;> rfl
theorem pframe2 (F : Nat) (hF : 100 < F) (B : List S_api_Channel) (hB : B.length ≤ 16) (hB2 : ∀ x ∈ B, okCh x) (st : Int) (sm : List (List Int)) (hs : sm.length = B.length) : ∀ (k N i : Nat), k = B.length - i → i ≤ B.length → k < N → record_isFrame_2 F N B i B B.length i st sm = some (chGo (B.drop i) (sm.drop i))
  | k, 0, i, _, _, h => by omega
  | 0, N + 1, i, hk, hi, _ => by
    have : i = B.length := by omega
    subst this
    rw [record_isFrame_2, bif_neg' (by omega), List.drop_of_length_le (Nat.le_refl _)]
    unfold record_isFrame_3 chGo
    rw [beq_self_eq_true]
  | k + 1, N + 1, i, hk, hi, hN => by
    obtain ⟨x, hx⟩ := get_lt (l := B) (i := i) (by omega)
    obtain ⟨y, hy⟩ := get_lt (l := sm) (i := i) (by omega)
    have hc := hB2 x (List.mem_of_getElem? hx)
    have ih := pframe2 F hF B hB hB2 st sm hs k N (i + 1) (by omega) (by omega) (by omega)
    have e0 : ((i : Int) == (B.length : Int)) = false := by rw [beq_eq_false_iff_ne]; omega
    rw [record_isFrame_2, bif_pos' (by omega), idx_nat, hx, bnd_eq, idx_nat, hy, bnd_eq, drop_get hx, drop_get hy, chGo]
    unfold frOK
    cases e : ((y.length : Int) == x.Rate) with
    | false =>
      unfold record_isFrame_3
      rw [Bool.not_false, cond_true, e0]
      rfl
    | true =>
      have hr : (y.length : Int) = x.Rate := eq_of_beq e
      have h1 := hc.1
      have h2 := hc.2
      have hsh : ∀ {β : Type} (f : Nat → Option β), bnd (shn (x.Bits - 1)) f = f (x.Bits - 1).toNat := by
        intro β f
        obtain ⟨b, hb⟩ : ∃ b : Nat, x.Bits - 1 = b := ⟨(x.Bits - 1).toNat, by omega⟩
        rw [hb]
        rfl
      have := pframe4 F (record_isFrame_2 F N) B i x B B.length i st sm (by omega) y (by omega) y.length F 0 rfl (by omega) (by omega)
      rw [Bool.not_true, cond_false, w64_id (n := x.Bits - 1) (by omega) (by omega), hsh, bnd_eq]
      refine Eq.trans this ?_
      rw [List.drop_zero, up (by omega), ih, Bool.true_and]
      cases y.all (vB x) <;> rfl
def frameB (B : List S_api_Channel) (f : S_api_Frame) : Bool := inR 0 f.Start 1073741824 && (((f.Samples.length : Int) == (B.length : Int)) && chGo B f.Samples)
theorem pframe_eq (F : Nat) (hF : 100 < F) (B : List S_api_Channel) (hB : B.length ≤ 16) (hB2 : ∀ x ∈ B, okCh x) (f : S_api_Frame) : record_isFrame F B f = some (frameB B f) := by
  unfold record_isFrame record_isFrame_1 frameB
  rw [isFrom_eq, bnd_eq]
  cases e : inR 0 f.Start 1073741824 with
  | false => rfl
  | true =>
    cases e2 : ((f.Samples.length : Int) == (B.length : Int)) with
    | false => rfl
    | true =>
      have h2 : (f.Samples.length : Int) = B.length := eq_of_beq e2
      exact pframe2 F hF B hB hB2 f.Start f.Samples (by omega) B.length F 0 rfl (by omega) (by omega)
theorem rframe3 (F : Nat) (hd : List S_api_Channel → Int → Int → List (List Int) → Option Bool) (B : List S_api_Channel) (q : Nat) (x : S_api_Channel) (st : Int) (sm : List (List Int)) (l : List Int) (hq : sm[q]? = some l) (hl : l.length ≤ 64) :
    ∀ (k N i : Nat), k = l.length - i → i ≤ l.length → k < N → ref05_frame_3 F hd N B q (pB x) i st sm = bif (l.drop i).all (vB x) then hd B (w64 ((q : Int) + 1)) st sm else some false
  | k, 0, i, _, _, h => by omega
  | 0, N + 1, i, hk, hi, _ => by
    rw [ref05_frame_3, idx_nat, hq, bnd_eq, bif_neg' (by omega), List.drop_of_length_le (by omega : l.length ≤ i)]
    rfl
  | k + 1, N + 1, i, hk, hi, hN => by
    obtain ⟨v, hx⟩ := get_lt (l := l) (i := i) (by omega)
    rw [ref05_frame_3, idx_nat, hq, bnd_eq, bif_pos' (by omega), bnd_eq, idx_nat, hx, bnd_eq, In_eq, bnd_eq, up (by omega), rframe3 F hd B q x st sm l hq hl k N (i + 1) (by omega) (by omega) (by omega), drop_get hx, List.all_cons]
    show (bif !(vB x v) then _ else _) = _
    cases vB x v <;> rfl
theorem rframe2 (F : Nat) (hF : 100 < F) (B : List S_api_Channel) (hB : B.length ≤ 16) (hB2 : ∀ x ∈ B, okCh x) (st : Int) (sm : List (List Int)) (hs : sm.length = B.length) : ∀ (k N i : Nat), k = B.length - i → i ≤ B.length → k < N → ref05_frame_2 F N B i st sm = some (chGo (B.drop i) (sm.drop i))
  | k, 0, i, _, _, h => by omega
  | 0, N + 1, i, hk, hi, _ => by
    rw [ref05_frame_2, bif_neg' (by omega), List.drop_of_length_le (by omega : B.length ≤ i)]
    unfold chGo
    rfl
  | k + 1, N + 1, i, hk, hi, hN => by
    obtain ⟨x, hx⟩ := get_lt (l := B) (i := i) (by omega)
    obtain ⟨y, hy⟩ := get_lt (l := sm) (i := i) (by omega)
    have hc := hB2 x (List.mem_of_getElem? hx)
    have h1 := hc.1
    have h2 := hc.2
    have ih := rframe2 F hF B hB hB2 st sm hs k N (i + 1) (by omega) (by omega) (by omega)
    have hsh : ∀ {β : Type} (f : Nat → Option β), bnd (shn (x.Bits - 1)) f = f (x.Bits - 1).toNat := by
      intro β f
      obtain ⟨b, hb⟩ : ∃ b : Nat, x.Bits - 1 = b := ⟨(x.Bits - 1).toNat, by omega⟩
      rw [hb]
      rfl
    rw [ref05_frame_2, bif_pos' (by omega), idx_nat, hx, bnd_eq, w64_id (n := x.Bits - 1) (by omega) (by omega), hsh, idx_nat, hy, bnd_eq, bnd_eq, drop_get hx, drop_get hy, chGo]
    unfold frOK
    cases e : ((y.length : Int) == x.Rate) with
    | false => rfl
    | true =>
      have hr : (y.length : Int) = x.Rate := eq_of_beq e
      have := rframe3 F (ref05_frame_2 F N) B i x st sm y hy (by omega) y.length F 0 rfl (by omega) (by omega)
      rw [Bool.not_true, cond_false]
      refine Eq.trans this ?_
      rw [List.drop_zero, up (by omega), ih, Bool.true_and]
      cases y.all (vB x) <;> rfl
theorem rframe_eq (F : Nat) (hF : 100 < F) (B : List S_api_Channel) (hB : B.length ≤ 16) (hB2 : ∀ x ∈ B, okCh x) (f : S_api_Frame) : ref05_frame F B f = some (frameB B f) := by
  unfold ref05_frame ref05_frame_1 frameB
  rw [In_eq, bnd_eq]
  cases e : inR 0 f.Start 1073741824 with
  | false => rfl
  | true =>
    cases e2 : ((f.Samples.length : Int) == (B.length : Int)) with
    | false => rfl
    | true =>
      have h2 : (f.Samples.length : Int) = B.length := eq_of_beq e2
      exact rframe2 F hF B hB hB2 f.Start f.Samples (by omega) B.length F 0 rfl (by omega) (by omega)
def ordGo : List S_api_Frame → Bool
  | a :: b :: r => !decide (b.Start ≤ a.Start) && ordGo (b :: r)
  | _ => true
theorem ord_short {l : List S_api_Frame} (h : l.length ≤ 1) : ordGo l = true := by
  match l, h with
  | [], _ => rfl
  | [_], _ => rfl
theorem pord1 (F : Nat) (L : List S_api_Frame) (hL : L.length ≤ 64) : ∀ (k N i : Nat), k = L.length - i → 1 ≤ i → k < N → record_areInOrder_1 F N L i = some (ordGo (L.drop (i - 1)))
  | k, 0, i, _, _, h => by omega
  | 0, N + 1, i, hk, h1, _ => by
    rw [record_areInOrder_1, bif_neg' (by omega), ord_short (by rw [List.length_drop]; omega)]
  | k + 1, N + 1, i, hk, h1, hN => by
    obtain ⟨x, hx⟩ := get_lt (l := L) (i := i - 1) (by omega)
    obtain ⟨y, hy⟩ := get_lt (l := L) (i := i) (by omega)
    have hd : L.drop (i - 1) = x :: y :: L.drop (i + 1) := by rw [drop_get hx, show i - 1 + 1 = i by omega, drop_get hy]
    rw [record_areInOrder_1, bif_pos' (by omega), w64_id (n := (i : Int) - 1) (by omega) (by omega), show (i : Int) - 1 = ((i - 1 : Nat) : Int) by omega, idx_nat, hx, bnd_eq, idx_nat, hy, bnd_eq, up (by omega), pord1 F L hL k N (i + 1) (by omega) (by omega) (by omega), hd, ordGo, Nat.add_sub_cancel, drop_get hy]
    cases decide (y.Start ≤ x.Start) <;> rfl
theorem rord1 (F : Nat) (L : List S_api_Frame) (hL : L.length ≤ 64) : ∀ (k N i : Nat), k = L.length - i → 1 ≤ i → k < N → ref05_CheckRecord_2 F N L i = some (bif ordGo (L.drop (i - 1)) then 0 else 52)
  | k, 0, i, _, _, h => by omega
  | 0, N + 1, i, hk, h1, _ => by
    rw [ref05_CheckRecord_2, bif_neg' (by omega), ord_short (by rw [List.length_drop]; omega)]
    rfl
  | k + 1, N + 1, i, hk, h1, hN => by
    obtain ⟨x, hx⟩ := get_lt (l := L) (i := i - 1) (by omega)
    obtain ⟨y, hy⟩ := get_lt (l := L) (i := i) (by omega)
    have hd : L.drop (i - 1) = x :: y :: L.drop (i + 1) := by rw [drop_get hx, show i - 1 + 1 = i by omega, drop_get hy]
    rw [ref05_CheckRecord_2, bif_pos' (by omega), w64_id (n := (i : Int) - 1) (by omega) (by omega), show (i : Int) - 1 = ((i - 1 : Nat) : Int) by omega, idx_nat, hx, bnd_eq, idx_nat, hy, bnd_eq, up (by omega), rord1 F L hL k N (i + 1) (by omega) (by omega) (by omega), hd, ordGo, Nat.add_sub_cancel, drop_get hy]
    cases decide (y.Start ≤ x.Start) <;> rfl
def recE (B : List S_api_Channel) (L : List S_api_Frame) : Int := bif bookB B then (bif decide (L.length ≤ 64) then (bif L.all (frameB B) then (bif ordGo L then 0 else 52) else 51) else 3) else 50
theorem book_ch {B : List S_api_Channel} (h : bookB B = true) : B.length ≤ 16 ∧ ∀ x ∈ B, okCh x := by
  unfold bookB at h
  rw [Bool.and_eq_true] at h
  have h1 := inR_iff.1 h.1
  refine ⟨by omega, ?_⟩
  have : ∀ (l : List S_api_Channel) (m : List (List UInt8 × Bool)), bookGo l m = true → ∀ x ∈ l, okCh x := by
    intro l
    induction l with
    | nil => intro m _ x hx; cases hx
    | cons y r ih =>
      intro m hm x hx
      unfold bookGo chB at hm
      simp only [Bool.and_eq_true] at hm
      rcases List.mem_cons.1 hx with rfl | hx
      · exact ⟨rateB_in hm.1.1.2.2, inR_iff.1 hm.1.1.2.1⟩
      · exact ih _ hm.2 x hx
  exact this B [] h.2
theorem prec1 (F : Nat) (hF : 100 < F) (B : List S_api_Channel) (hB : B.length ≤ 16 ∧ ∀ x ∈ B, okCh x) (L : List S_api_Frame) (hL : L.length ≤ 64) : ∀ (k N i : Nat), k = L.length - i → i ≤ L.length → k < N → record_CheckRecord_1 F N L L.length i L B = some (bif (L.drop i).all (frameB B) then (bif ordGo L then 0 else 52) else 51)
  | k, 0, i, _, _, h => by omega
  | 0, N + 1, i, hk, hi, _ => by
    have := pord1 F L hL (L.length - 1) F 1 rfl (by omega) (by omega)
    have this' : record_areInOrder F L = _ := this
    rw [record_CheckRecord_1, bif_neg' (by omega), bif_neg' (by omega), this', bnd_eq, List.drop_of_length_le (by omega : L.length ≤ i)]
    show (bif !(ordGo L) then _ else _) = some (bif ordGo L then 0 else 52)
    cases ordGo L <;> rfl
  | k + 1, N + 1, i, hk, hi, hN => by
    obtain ⟨x, hx⟩ := get_lt (l := L) (i := i) (by omega)
    rw [record_CheckRecord_1, bif_pos' (by omega), idx_nat, hx, bnd_eq, pframe_eq F hF B hB.1 hB.2, bnd_eq, drop_get hx, List.all_cons, up (by omega), prec1 F hF B hB L hL k N (i + 1) (by omega) (by omega) (by omega)]
    cases frameB B x with
    | false => rw [Bool.not_false, cond_true, bif_pos' (by omega)]; rfl
    | true => rfl
theorem prec_eq (F : Nat) (hF : 100 < F) (B : List S_api_Channel) (L : List S_api_Frame) : record_CheckRecord F B L = some (recE B L) := by
  unfold record_CheckRecord recE
  rw [pbook_eq F (by omega), bnd_eq]
  cases e : bookB B with
  | false => rfl
  | true =>
    by_cases h : L.length ≤ 64
    · have := prec1 F hF B (book_ch e) L h L.length F 0 rfl (by omega) (by omega)
      rw [List.drop_zero] at this
      rw [Bool.not_true, cond_false, bif_neg' (by omega), cond_true, decide_eq_true h, cond_true]
      exact this
    · rw [Bool.not_true, cond_false, bif_pos' (by omega), cond_true, decide_eq_false h, cond_false]
theorem rrec1 (F : Nat) (hF : 100 < F) (B : List S_api_Channel) (hB : B.length ≤ 16 ∧ ∀ x ∈ B, okCh x) (L : List S_api_Frame) (hL : L.length ≤ 64) : ∀ (k N i : Nat), k = L.length - i → i ≤ L.length → k < N → ref05_CheckRecord_1 F N B L i = some (bif (L.drop i).all (frameB B) then (bif ordGo L then 0 else 52) else 51)
  | k, 0, i, _, _, h => by omega
  | 0, N + 1, i, hk, hi, _ => by
    have := rord1 F L hL (L.length - 1) F 1 rfl (by omega) (by omega)
    rw [ref05_CheckRecord_1, bif_neg' (by omega), List.drop_of_length_le (by omega : L.length ≤ i)]
    exact this
  | k + 1, N + 1, i, hk, hi, hN => by
    obtain ⟨x, hx⟩ := get_lt (l := L) (i := i) (by omega)
    rw [ref05_CheckRecord_1, bif_pos' (by omega), idx_nat, hx, bnd_eq, rframe_eq F hF B hB.1 hB.2, bnd_eq, drop_get hx, List.all_cons, up (by omega), rrec1 F hF B hB L hL k N (i + 1) (by omega) (by omega) (by omega)]
    cases frameB B x <;> rfl
theorem rrec_eq (F : Nat) (hF : 100 < F) (B : List S_api_Channel) (L : List S_api_Frame) (hl : B.length ≤ 9223372036854775807) (hlF : B.length < F) : ref05_CheckRecord F B L = some (recE B L) := by
  unfold ref05_CheckRecord recE
  rw [rbook_eq F (by omega) B hl hlF, bnd_eq]
  cases e : bookB B with
  | false => rfl
  | true =>
    by_cases h : L.length ≤ 64
    · have := rrec1 F hF B (book_ch e) L h L.length F 0 rfl (by omega) (by omega)
      rw [List.drop_zero] at this
      rw [cond_true, cond_true]
      show (bif decide ((64 : Int) < (L.length : Int)) then _ else _) = _
      rw [bif_neg' (by omega), decide_eq_true h, cond_true]
      exact this
    · rw [cond_true, cond_true]
      show (bif decide ((64 : Int) < (L.length : Int)) then _ else _) = _
      rw [bif_pos' (by omega), decide_eq_false h, cond_false]
def secE (B : List S_api_Channel) (L : List S_api_Frame) (u v : Int) : Int := bif recE B L == 0 then (bif decide (0 ≤ u) && (decide (u ≤ v) && decide (v ≤ 1073741824)) then 0 else 8) else recE B L
theorem psec_eq (F : Nat) (hF : 100 < F) (B : List S_api_Channel) (L : List S_api_Frame) (u v : Int) : record_checkSeconds F B L u v = some (secE B L u v) := by
  unfold record_checkSeconds record_checkSeconds_1 record_checkSeconds_2 secE
  rw [prec_eq F hF, bnd_eq]
  cases e : (recE B L == 0) <;> cases decide (0 ≤ u) <;> cases decide (u ≤ v) <;> cases decide (v ≤ 1073741824) <;> rfl
theorem rsec_eq (F : Nat) (hF : 100 < F) (B : List S_api_Channel) (L : List S_api_Frame) (hl : B.length ≤ 9223372036854775807) (hlF : B.length < F) (u v : Int) : ref05_span F B L u v = some (secE B L u v) := by
  unfold ref05_span ref05_span_1 ref05_span_2 secE
  rw [rrec_eq F hF B L hl hlF, bnd_eq]
  have l1 : decide (u < 0) = !decide (0 ≤ u) := by rw [lt_not]
  have l2 : decide (v < u) = !decide (u ≤ v) := by rw [lt_not]
  have l3 : decide (1073741824 < v) = !decide (v ≤ 1073741824) := by rw [lt_not]
  rw [l1, l2, l3]
  cases e : (recE B L == 0) <;> cases decide (0 ≤ u) <;> cases decide (u ≤ v) <;> cases decide (v ≤ 1073741824) <;> rfl
end Go.Ev.RecordSpans
