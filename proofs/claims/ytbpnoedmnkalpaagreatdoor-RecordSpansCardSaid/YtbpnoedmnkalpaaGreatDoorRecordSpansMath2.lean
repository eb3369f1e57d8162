/- Records of frames: what is checked. -/
import Derived.Test.YtbpnoedmnkalpaaGreatDoorRecordSpansMath1
namespace Go.Ev.RecordSpans
open Go Go.Ev Go.Proofs
set_option linter.unusedVariables false
theorem isFrom_eq (F : Nat) (a b c : Int) : record_isFrom F a b c = some (inR a b c) := by
  unfold record_isFrom inR record_isFrom_1
  by_cases h : a ≤ b <;> simp [h]
theorem bitZ_ex {n : Nat} (h1 : 1 ≤ n) (h2 : n ≤ 1024) : ∃ z, bitZ Nat.land .i64 (n : Int) ((n - 1 : Nat) : Int) = some z := by
  show ∃ z, (bif Nat.ble n (top .i64) && Nat.ble (n - 1) (top .i64) then some (w64 (Nat.land n (n - 1) : Nat)) else none) = some z
  have g1 : Nat.ble n (top .i64) = true := Nat.ble_eq_true_of_le (by simp only [top]; omega)
  have g2 : Nat.ble (n - 1) (top .i64) = true := Nat.ble_eq_true_of_le (by simp only [top]; omega)
  rw [g1, g2]
  exact ⟨_, rfl⟩
theorem rate_ex (F : Nat) (n : Int) : ∃ r, record_isRate F n = some r ∧ (r = true → 1 ≤ n ∧ n ≤ 64) := by
  unfold record_isRate record_isRate_1
  rw [isFrom_eq, bnd_eq]
  cases e : inR 1 n 64 with
  | false => exact ⟨false, rfl, fun h => by simp at h⟩
  | true =>
    have h := inR_iff.1 e
    obtain ⟨k, rfl⟩ : ∃ k : Nat, n = k := ⟨n.toNat, by omega⟩
    obtain ⟨z, hz⟩ := bitZ_ex (n := k) (by omega) (by omega)
    rw [cond_true, w64_id (n := (k : Int) - 1) (by omega) (by omega), show (k : Int) - 1 = ((k - 1 : Nat) : Int) by omega, hz]
    exact ⟨_, rfl, fun _ => h⟩
def okCh (x : S_api_Channel) : Prop := (1 ≤ x.Rate ∧ x.Rate ≤ 64) ∧ 2 ≤ x.Bits ∧ x.Bits ≤ 24
theorem book1 (F : Nat) (hF : 20 < F) (l : List S_api_Channel) (hl : l.length ≤ 16) : ∀ (k N i : Nat) (m : List ((List UInt8) × Bool)), k = l.length - i → i ≤ l.length → k < N → ∃ r, record_isBook_1 F N l l.length i m = some r ∧ (r = true → ∀ x ∈ l.drop i, okCh x)
  | k, 0, i, m, _, _, h => by omega
  | 0, N + 1, i, m, hk, hi, _ => by
    rw [record_isBook_1, bif_neg' (by omega), List.drop_of_length_le (by omega : l.length ≤ i)]
    exact ⟨_, rfl, fun _ x hx => (nomatch hx)⟩
  | k + 1, N + 1, i, m, hk, hi, hN => by
    obtain ⟨x, hx⟩ := get_lt (l := l) (i := i) (by omega)
    obtain ⟨q, hq, hq2⟩ := rate_ex F x.Rate
    obtain ⟨r, hr, hr2⟩ := book1 F hF l hl k N (i + 1) (mput eqB m x.Name true) (by omega) (by omega) (by omega)
    have key : ∀ b, ∃ r, record_isBook_2 F (record_isBook_1 F N) l l.length i b x m = some r ∧ (r = true → ∀ y ∈ x :: l.drop (i + 1), okCh y) := by
      intro b
      unfold record_isBook_2 record_isBook_3 record_isBook_4
      rw [hq, isFrom_eq, bnd_eq, bnd_eq, up (by omega), hr]
      cases b with
      | true => exact ⟨false, rfl, fun h => by simp at h⟩
      | false =>
        cases q with
        | false => exact ⟨false, rfl, fun h => by simp at h⟩
        | true =>
          cases e : inR 2 x.Bits 24 with
          | false => exact ⟨false, rfl, fun h => by simp at h⟩
          | true =>
            refine ⟨r, rfl, fun h y hy => ?_⟩
            rcases List.mem_cons.1 hy with rfl | hy
            · exact ⟨hq2 rfl, inR_iff.1 e⟩
            · exact hr2 h y hy
    rw [record_isBook_1, bif_pos' (by omega), idx_nat, hx, bnd_eq, name_eq F hF, bnd_eq, drop_get hx]
    cases nameB x.Name with
    | false => exact key true
    | true => exact key _
theorem book_ex (F : Nat) (hF : 20 < F) (l : List S_api_Channel) : ∃ r, record_isBook F l = some r ∧ (r = true → (1 ≤ l.length ∧ l.length ≤ 16) ∧ ∀ x ∈ l, okCh x) := by
  unfold record_isBook
  rw [isFrom_eq, bnd_eq]
  cases e : inR 1 l.length 16 with
  | false => exact ⟨false, rfl, fun h => by simp at h⟩
  | true =>
    have h := inR_iff.1 e
    obtain ⟨r, hr, hr2⟩ := book1 F hF l (by omega) l.length F 0 [] rfl (by omega) (by omega)
    exact ⟨r, hr, fun h' => ⟨by omega, hr2 h'⟩⟩
def smOK (sm : List (List Int)) : Prop := ∀ y ∈ sm, y.length ≤ 64
theorem frame4 (F : Nat) (hd : List S_api_Channel → Int → List S_api_Channel → Int → Int → Int → List (List Int) → Option Bool) (B : List S_api_Channel) (v5 v8 : Int) (v23 : List S_api_Channel) (v24 v25 st : Int) (sm : List (List Int)) (Pr : Prop) (h5 : v5 ≠ B.length) (hnext : ∃ r, hd B (w64 (v5 + 1)) v23 v24 (w64 (v25 + 1)) st sm = some r ∧ (r = true → Pr)) (l : List Int) (hl : l.length ≤ 64) :
    ∀ (k N i : Nat), k = l.length - i → i ≤ l.length → k < N → ∃ r, record_isFrame_4 F hd N B v5 v8 v23 v24 v25 l l.length i st sm = some r ∧ (r = true → Pr)
  | k, 0, i, _, _, h => by omega
  | 0, N + 1, i, hk, hi, _ => by
    rw [record_isFrame_4, bif_neg' (by omega)]
    exact hnext
  | k + 1, N + 1, i, hk, hi, hN => by
    obtain ⟨x, hx⟩ := get_lt (l := l) (i := i) (by omega)
    have ih := frame4 F hd B v5 v8 v23 v24 v25 st sm Pr h5 hnext l hl k N (i + 1) (by omega) (by omega) (by omega)
    rw [record_isFrame_4, bif_pos' (by omega), idx_nat, hx, bnd_eq, isFrom_eq, bnd_eq, up (by omega)]
    unfold record_isFrame_3
    have e : (v5 == (B.length : Int)) = false := by rw [beq_eq_false_iff_ne]; exact h5
    cases inR (w64 (-v8)) x (w64 (v8 - 1)) with
    | false => exact ⟨false, by rw [Bool.not_false, cond_true, e], fun h => by simp at h⟩
    | true => exact ih
theorem frame2 (F : Nat) (hF : 100 < F) (B : List S_api_Channel) (hB : B.length ≤ 16) (hB2 : ∀ x ∈ B, okCh x) (st : Int) (sm : List (List Int)) (hs : sm.length = B.length) : ∀ (k N i : Nat), k = B.length - i → i ≤ B.length → k < N → ∃ r, record_isFrame_2 F N B i B B.length i st sm = some r ∧ (r = true → smOK (sm.drop i))
  | k, 0, i, _, _, h => by omega
  | 0, N + 1, i, hk, hi, _ => by
    rw [record_isFrame_2, bif_neg' (by omega), List.drop_of_length_le (by omega : sm.length ≤ i)]
    exact ⟨_, rfl, fun _ y hy => (nomatch hy)⟩
  | k + 1, N + 1, i, hk, hi, hN => by
    obtain ⟨x, hx⟩ := get_lt (l := B) (i := i) (by omega)
    obtain ⟨y, hy⟩ := get_lt (l := sm) (i := i) (by omega)
    have hc := hB2 x (List.mem_of_getElem? hx)
    obtain ⟨r, ih, ih2⟩ := frame2 F hF B hB hB2 st sm hs k N (i + 1) (by omega) (by omega) (by omega)
    rw [record_isFrame_2, bif_pos' (by omega), idx_nat, hx, bnd_eq, idx_nat, hy, bnd_eq]
    have e0 : ((i : Int) == (B.length : Int)) = false := by rw [beq_eq_false_iff_ne]; omega
    cases e : ((y.length : Int) == x.Rate) with
    | false =>
      unfold record_isFrame_3
      exact ⟨false, by rw [Bool.not_false, cond_true, e0], fun h => by simp at h⟩
    | true =>
      have hr : (y.length : Int) = x.Rate := eq_of_beq e
      have h1 := hc.1
      have h2 := hc.2
      obtain ⟨b, hb⟩ : ∃ b : Nat, x.Bits - 1 = b := ⟨(x.Bits - 1).toNat, by omega⟩
      rw [Bool.not_true, cond_false, w64_id (n := x.Bits - 1) (by omega) (by omega), hb]
      show ∃ r, bnd (some b) _ = some r ∧ _
      rw [bnd_eq]
      refine frame4 F _ B i _ B B.length i st sm _ (by omega) ⟨r, by rw [up (by omega)]; exact ih, fun h => ?_⟩ y (by omega) y.length F 0 rfl (by omega) (by omega)
      rw [drop_get hy]
      intro z hz
      rcases List.mem_cons.1 hz with rfl | hz
      · omega
      · exact ih2 h z hz
theorem frame_ex (F : Nat) (hF : 100 < F) (B : List S_api_Channel) (hB : B.length ≤ 16) (hB2 : ∀ x ∈ B, okCh x) (f : S_api_Frame) : ∃ r, record_isFrame F B f = some r ∧ (r = true → (0 ≤ f.Start ∧ f.Start ≤ 1073741824) ∧ f.Samples.length = B.length ∧ smOK f.Samples) := by
  unfold record_isFrame record_isFrame_1
  rw [isFrom_eq, bnd_eq]
  cases e : inR 0 f.Start 1073741824 with
  | false => exact ⟨false, rfl, fun h => by simp at h⟩
  | true =>
    cases e2 : ((f.Samples.length : Int) == (B.length : Int)) with
    | false => exact ⟨false, rfl, fun h => by simp at h⟩
    | true =>
      have h2 : (f.Samples.length : Int) = B.length := eq_of_beq e2
      obtain ⟨r, hr, hr2⟩ := frame2 F hF B hB hB2 f.Start f.Samples (by omega) B.length F 0 rfl (by omega) (by omega)
      rw [List.drop_zero] at hr2
      exact ⟨r, hr, fun h => ⟨inR_iff.1 e, by omega, hr2 h⟩⟩
def ltF (a b : S_api_Frame) : Prop := a.Start < b.Start
theorem ord1 (F : Nat) (L : List S_api_Frame) (hL : L.length ≤ 64) : ∀ (k N i : Nat), k = L.length - i → 1 ≤ i → i ≤ L.length ∨ i = 1 → k < N → ∃ r, record_areInOrder_1 F N L i = some r ∧ (r = true → ∀ a ∈ L[i - 1]?, (a :: L.drop i).Pairwise ltF)
  | k, 0, i, _, _, _, h => by omega
  | 0, N + 1, i, hk, h1, hi, _ => by
    rw [record_areInOrder_1, bif_neg' (by omega), List.drop_of_length_le (by omega : L.length ≤ i)]
    exact ⟨_, rfl, fun _ a _ => by simp⟩
  | k + 1, N + 1, i, hk, h1, hi, hN => by
    obtain ⟨x, hx⟩ := get_lt (l := L) (i := i - 1) (by omega)
    obtain ⟨y, hy⟩ := get_lt (l := L) (i := i) (by omega)
    obtain ⟨r, hr, hr2⟩ := ord1 F L hL k N (i + 1) (by omega) (by omega) (by omega) (by omega)
    rw [record_areInOrder_1, bif_pos' (by omega), w64_id (n := (i : Int) - 1) (by omega) (by omega), show (i : Int) - 1 = ((i - 1 : Nat) : Int) by omega, idx_nat, hx, bnd_eq, idx_nat, hy, bnd_eq, up (by omega), hr]
    by_cases h : y.Start ≤ x.Start
    · rw [bif_pos' h]
      exact ⟨false, rfl, fun h => by simp at h⟩
    · rw [bif_neg' h]
      refine ⟨r, rfl, fun e a ha => ?_⟩
      have ha' : x = a := by
        have : (some x : Option S_api_Frame) = some a := ha
        exact Option.some.inj this
      subst ha'
      have hp := hr2 e y (by rw [Nat.add_sub_cancel, hy]; rfl)
      rw [drop_get hy]
      refine List.pairwise_cons.2 ⟨fun b hb => ?_, hp⟩
      have hxy : x.Start < y.Start := by omega
      rcases List.mem_cons.1 hb with rfl | hb
      · exact hxy
      · have : y.Start < b.Start := (List.pairwise_cons.1 hp).1 b hb
        show x.Start < b.Start
        omega
theorem ord_ex (F : Nat) (hF : 100 < F) (L : List S_api_Frame) (hL : L.length ≤ 64) : ∃ r, record_areInOrder F L = some r ∧ (r = true → L.Pairwise ltF) := by
  obtain ⟨r, hr, hr2⟩ := ord1 F L hL (L.length - 1) F 1 rfl (by omega) (by omega) (by omega)
  refine ⟨r, hr, fun h => ?_⟩
  cases L with
  | nil => exact .nil
  | cons a t =>
    exact hr2 h a rfl
structure Rec (B : List S_api_Channel) (L : List S_api_Frame) : Prop where
  book : (1 ≤ B.length ∧ B.length ≤ 16) ∧ ∀ x ∈ B, okCh x
  len : L.length ≤ 64
  frames : ∀ f ∈ L, (0 ≤ f.Start ∧ f.Start ≤ 1073741824) ∧ f.Samples.length = B.length ∧ smOK f.Samples
  ord : L.Pairwise ltF
theorem rec1 (F : Nat) (hF : 100 < F) (B : List S_api_Channel) (hB : (1 ≤ B.length ∧ B.length ≤ 16) ∧ ∀ x ∈ B, okCh x) (L : List S_api_Frame) (hL : L.length ≤ 64) : ∀ (k N i : Nat), k = L.length - i → i ≤ L.length → k < N → ∃ e, record_CheckRecord_1 F N L L.length i L B = some e ∧ (e = 0 → (∀ f ∈ L.drop i, (0 ≤ f.Start ∧ f.Start ≤ 1073741824) ∧ f.Samples.length = B.length ∧ smOK f.Samples) ∧ L.Pairwise ltF)
  | k, 0, i, _, _, h => by omega
  | 0, N + 1, i, hk, hi, _ => by
    obtain ⟨r, hr, hr2⟩ := ord_ex F hF L hL
    rw [record_CheckRecord_1, bif_neg' (by omega), bif_neg' (by omega), hr, bnd_eq, List.drop_of_length_le (by omega : L.length ≤ i)]
    cases r with
    | false => exact ⟨52, rfl, fun h => by simp at h⟩
    | true => exact ⟨0, rfl, fun _ => ⟨fun f hf => (nomatch hf), hr2 rfl⟩⟩
  | k + 1, N + 1, i, hk, hi, hN => by
    obtain ⟨x, hx⟩ := get_lt (l := L) (i := i) (by omega)
    obtain ⟨r, hr, hr2⟩ := frame_ex F hF B (by omega) hB.2 x
    obtain ⟨e, he, he2⟩ := rec1 F hF B hB L hL k N (i + 1) (by omega) (by omega) (by omega)
    rw [record_CheckRecord_1, bif_pos' (by omega), idx_nat, hx, bnd_eq, hr, bnd_eq, drop_get hx]
    cases r with
    | false =>
      rw [Bool.not_false, cond_true, bif_pos' (by omega)]
      exact ⟨51, rfl, fun h => by simp at h⟩
    | true =>
      rw [Bool.not_true, cond_false, up (by omega), he]
      refine ⟨e, rfl, fun h => ⟨fun f hf => ?_, (he2 h).2⟩⟩
      rcases List.mem_cons.1 hf with rfl | hf
      · exact hr2 rfl
      · exact (he2 h).1 f hf
theorem record_ex (F : Nat) (hF : 100 < F) (B : List S_api_Channel) (L : List S_api_Frame) : ∃ e, record_CheckRecord F B L = some e ∧ (e = 0 → Rec B L) := by
  obtain ⟨r, hr, hr2⟩ := book_ex F (by omega) B
  unfold record_CheckRecord
  rw [hr, bnd_eq]
  cases r with
  | false => exact ⟨50, rfl, fun h => by simp at h⟩
  | true =>
    have hb := hr2 rfl
    by_cases h : L.length ≤ 64
    · obtain ⟨e, he, he2⟩ := rec1 F hF B hb L h L.length F 0 rfl (by omega) (by omega)
      rw [Bool.not_true, cond_false, bif_neg' (by omega)]
      exact ⟨e, he, fun h0 => ⟨hb, h, (he2 h0).1, (he2 h0).2⟩⟩
    · rw [Bool.not_true, cond_false, bif_pos' (by omega)]
      exact ⟨3, rfl, fun h => by simp at h⟩
theorem seconds_ex (F : Nat) (hF : 100 < F) (B : List S_api_Channel) (L : List S_api_Frame) (u v : Int) : ∃ e, record_checkSeconds F B L u v = some e ∧ (e = 0 → Rec B L) := by
  obtain ⟨e, he, he2⟩ := record_ex F hF B L
  unfold record_checkSeconds record_checkSeconds_1 record_checkSeconds_2
  rw [he, bnd_eq]
  by_cases h : e = 0
  · subst h
    simp only [beq_self_eq_true, Bool.not_true, cond_false]
    cases decide (0 ≤ u) <;> cases decide (u ≤ v) <;> cases decide (v ≤ 1073741824) <;> first | exact ⟨8, rfl, fun h => by simp at h⟩ | exact ⟨0, rfl, he2⟩
  · have e' : (e == 0) = false := by rw [beq_eq_false_iff_ne]; exact h
    rw [e', Bool.not_false, cond_true]
    exact ⟨e, rfl, fun h' => absurd h' h⟩
end Go.Ev.RecordSpans
