/- Records, said twice. -/
import Derived.Test.YtbpnoedmnkalpaaGreatDoorRecordSpansMath7
namespace Go.Ev.RecordSpans
open Go Go.Ev Go.Proofs
set_option linter.unusedVariables false
def rateB (n : Int) : Bool := [1, 2, 4, 8, 16, 32, 64].any fun x : Int => x == n
theorem rate_all : ((List.range 65).all fun k => k == 0 || ((Nat.land k (k - 1) == 0) == rateB (k : Nat))) = true := by decide
theorem rateB_in {n : Int} (h : rateB n = true) : 1 ≤ n ∧ n ≤ 64 := by
  unfold rateB at h
  simp only [List.any_cons, List.any_nil, Bool.or_false, Bool.or_eq_true, beq_iff_eq] at h
  omega
theorem rate_eq (F : Nat) (n : Int) : record_isRate F n = some (rateB n) := by
  unfold record_isRate record_isRate_1
  rw [isFrom_eq, bnd_eq]
  cases e : inR 1 n 64 with
  | false =>
    have h := inR_false.1 e
    cases e2 : rateB n with
    | false => rfl
    | true => exact absurd (rateB_in e2) h
  | true =>
    have h := inR_iff.1 e
    obtain ⟨k, rfl⟩ : ∃ k : Nat, n = k := ⟨n.toNat, by omega⟩
    have hz : bitZ Nat.land .i64 (k : Int) ((k - 1 : Nat) : Int) = some ((Nat.land k (k - 1) : Nat) : Int) := by
      show (bif Nat.ble k (top .i64) && Nat.ble (k - 1) (top .i64) then some (w64 (Nat.land k (k - 1) : Nat)) else none) = _
      have g1 : Nat.ble k (top .i64) = true := Nat.ble_eq_true_of_le (by simp only [top]; omega)
      have g2 : Nat.ble (k - 1) (top .i64) = true := Nat.ble_eq_true_of_le (by simp only [top]; omega)
      have g3 : Nat.land k (k - 1) ≤ k := Nat.and_le_left
      rw [g1, g2, w64_id (by omega) (by omega)]
      rfl
    have ha := List.all_eq_true.1 rate_all k (List.mem_range.2 (by omega))
    have hk : (k == 0) = false := by rw [beq_eq_false_iff_ne]; omega
    rw [hk, Bool.false_or, beq_iff_eq] at ha
    rw [cond_true, w64_id (n := (k : Int) - 1) (by omega) (by omega), show (k : Int) - 1 = ((k - 1 : Nat) : Int) by omega, hz, bnd_eq, ← ha]
    congr 1
    rw [Bool.eq_iff_iff, beq_iff_eq, beq_iff_eq]
    omega
def chB (x : S_api_Channel) : Bool := nameB x.Name && (inR 2 x.Bits 24 && rateB x.Rate)
def bookGo : List S_api_Channel → List (List UInt8 × Bool) → Bool
  | [], _ => true
  | x :: r, m => (chB x && !(mget eqB false m x.Name)) && bookGo r (mput eqB m x.Name true)
theorem pbook1 (F : Nat) (hF : 20 < F) (l : List S_api_Channel) (hl : l.length ≤ 16) : ∀ (k N i : Nat) (m : List ((List UInt8) × Bool)), k = l.length - i → i ≤ l.length → k < N → record_isBook_1 F N l l.length i m = some (bookGo (l.drop i) m)
  | k, 0, i, m, _, _, h => by omega
  | 0, N + 1, i, m, hk, hi, _ => by
    rw [record_isBook_1, bif_neg' (by omega), List.drop_of_length_le (by omega : l.length ≤ i)]
    rfl
  | k + 1, N + 1, i, m, hk, hi, hN => by
    obtain ⟨x, hx⟩ := get_lt (l := l) (i := i) (by omega)
    rw [record_isBook_1, bif_pos' (by omega), idx_nat, hx, bnd_eq, name_eq F hF, bnd_eq, drop_get hx]
    unfold record_isBook_2 record_isBook_3 record_isBook_4
    rw [rate_eq, isFrom_eq, bnd_eq, bnd_eq, up (by omega), pbook1 F hF l hl k N (i + 1) _ (by omega) (by omega) (by omega)]
    show _ = some (((nameB x.Name && (inR 2 x.Bits 24 && rateB x.Rate)) && !(mget eqB false m x.Name)) && bookGo (l.drop (i + 1)) (mput eqB m x.Name true))
    cases nameB x.Name <;> cases inR 2 x.Bits 24 <;> cases rateB x.Rate <;> cases mget eqB false m x.Name <;> rfl
def bookB (l : List S_api_Channel) : Bool := inR 1 l.length 16 && bookGo l []
theorem pbook_eq (F : Nat) (hF : 20 < F) (l : List S_api_Channel) : record_isBook F l = some (bookB l) := by
  unfold record_isBook bookB
  rw [isFrom_eq, bnd_eq]
  cases e : inR 1 l.length 16 with
  | false => rfl
  | true =>
    have h := inR_iff.1 e
    have := pbook1 F hF l (by omega) l.length F 0 [] rfl (by omega) (by omega)
    rw [List.drop_zero] at this
    exact this
def newB (pre : List S_api_Channel) (x : S_api_Channel) : Bool := pre.all fun y => !(y.Name == x.Name)
def rbookGo : List S_api_Channel → List S_api_Channel → Bool
  | _, [] => true
  | pre, x :: r => (chB x && newB pre x) && rbookGo (pre ++ [x]) r
theorem book_same : ∀ (l pre : List S_api_Channel) (m : List (List UInt8 × Bool)), (∀ x, mget eqB false m x = pre.any fun y => y.Name == x) → bookGo l m = rbookGo pre l
  | [], pre, m, _ => rfl
  | x :: r, pre, m, h => by
    unfold bookGo rbookGo
    have h1 := book_same r (pre ++ [x]) (mput eqB m x.Name true) (fun z => by
      rw [mget_put (fun a b => by simp [eqB]), h z, List.any_append]
      simp only [List.any_cons, List.any_nil, Bool.or_false]
      rw [show eqB z x.Name = (x.Name == z) from by unfold eqB; exact Bool.beq_comm]
      cases (x.Name == z) <;> simp)
    rw [h1, h x.Name]
    have e : (!(pre.any fun y => y.Name == x.Name)) = newB pre x := by
      unfold newB
      rw [List.not_any_eq_all_not]
    rw [e]
theorem rb5 (F : Nat) (hd : List S_api_Channel → Bool → Int → Option Int) (l : List S_api_Channel) (hl : l.length ≤ 9223372036854775807) (i : Nat) (hi : i < l.length) (x : S_api_Channel) : ∀ (k N j : Nat) (ok : Bool), k = i - j → j ≤ i → k < N → ref05_CheckBook_5 F hd N l ok i j x = hd l (ok && newB ((l.take i).drop j) x) ((i + 1 : Nat) : Int)
  | k, 0, j, ok, _, _, h => by omega
  | 0, N + 1, j, ok, hk, hj, _ => by
    have e : (l.take i).drop j = [] := List.drop_of_length_le (by rw [List.length_take]; omega)
    rw [ref05_CheckBook_5, bif_neg' (by omega), e, up (by omega)]
    unfold newB
    rw [List.all_nil, Bool.and_true]
  | k + 1, N + 1, j, ok, hk, hj, hN => by
    obtain ⟨y, hy⟩ := get_lt (l := l) (i := j) (by omega)
    have hd' : (l.take i).drop j = y :: (l.take i).drop (j + 1) := drop_get (by rw [List.getElem?_take_of_lt (by omega)]; exact hy)
    rw [ref05_CheckBook_5, bif_pos' (by omega), hd']
    unfold ref05_CheckBook_6
    cases ok with
    | false =>
      rw [cond_false, up (by omega), rb5 F hd l hl i hi x k N (j + 1) false (by omega) (by omega) (by omega)]
      rfl
    | true =>
      rw [cond_true, idx_nat, hy, bnd_eq, up (by omega), rb5 F hd l hl i hi x k N (j + 1) _ (by omega) (by omega) (by omega)]
      rfl
theorem rfind (F : Nat) (hF : 20 < F) (n : Int) : ∃ r, ref00_Find F [1, 2, 4, 8, 16, 32, 64] n = some r ∧ decide (0 ≤ r) = rateB n := by
  obtain ⟨r, h1, h2, _⟩ := find_eq F [1, 2, 4, 8, 16, 32, 64] n (by decide) (by show 7 < F; omega)
  refine ⟨r, h1, ?_⟩
  unfold rateB
  rw [Bool.eq_iff_iff, decide_eq_true_eq, h2, List.any_eq_true]
  constructor
  · intro h
    exact ⟨n, h, by simp⟩
  · rintro ⟨x, hx, e⟩
    rw [beq_iff_eq] at e
    subst e
    exact hx
theorem rb1 (F : Nat) (hF : 20 < F) (l : List S_api_Channel) (hl : l.length ≤ 9223372036854775807) (hlF : l.length < F) : ∀ (k N i : Nat) (ok : Bool), k = l.length - i → i ≤ l.length → k < N → ref05_CheckBook_1 F N l ok i = some (bif ok && rbookGo (l.take i) (l.drop i) then 0 else 50)
  | k, 0, i, ok, _, _, h => by omega
  | 0, N + 1, i, ok, hk, hi, _ => by
    rw [ref05_CheckBook_1, bif_neg' (by omega), List.drop_of_length_le (by omega : l.length ≤ i)]
    unfold rbookGo
    cases ok <;> rfl
  | k + 1, N + 1, i, ok, hk, hi, hN => by
    obtain ⟨x, hx⟩ := get_lt (l := l) (i := i) (by omega)
    have e : l.take (i + 1) = l.take i ++ [x] := by rw [List.take_add_one, hx]; rfl
    obtain ⟨r, hr, hr2⟩ := rfind F hF x.Rate
    have h5 : ∀ b, ref05_CheckBook_5 F (ref05_CheckBook_1 F N) F l b i 0 x = some (bif (b && newB (l.take i) x) && rbookGo (l.take i ++ [x]) (l.drop (i + 1)) then 0 else 50) := by
      intro b
      have := rb5 F (ref05_CheckBook_1 F N) l hl i (by omega) x i F 0 b rfl (by omega) (by omega)
      have this' : ref05_CheckBook_5 F (ref05_CheckBook_1 F N) F l b i 0 x = _ := this
      rw [this', List.drop_zero, rb1 F hF l hl hlF k N (i + 1) _ (by omega) (by omega) (by omega), e]
    rw [ref05_CheckBook_1, bif_pos' (by omega), idx_nat, hx, bnd_eq, rname_eq F hF, bnd_eq, drop_get hx]
    unfold ref05_CheckBook_2 ref05_CheckBook_3 ref05_CheckBook_4
    rw [In_eq, bnd_eq, hr, bnd_eq, hr2]
    simp only [h5]
    show _ = some (bif ok && (((nameB x.Name && (inR 2 x.Bits 24 && rateB x.Rate)) && newB (l.take i) x) && rbookGo (l.take i ++ [x]) (l.drop (i + 1))) then 0 else 50)
    cases ok <;> cases nameB x.Name <;> cases inR 2 x.Bits 24 <;> cases rateB x.Rate <;> rfl
theorem rbook_eq (F : Nat) (hF : 20 < F) (l : List S_api_Channel) (hl : l.length ≤ 9223372036854775807) (hlF : l.length < F) : ref05_CheckBook F l = some (bif bookB l then 0 else 50) := by
  unfold ref05_CheckBook bookB
  rw [In_eq, bnd_eq]
  have := rb1 F hF l hl hlF l.length F 0 (inR 1 l.length 16) rfl (by omega) hlF
  rw [List.take_zero, List.drop_zero, ← book_same l [] [] (fun x => rfl)] at this
  exact this
end Go.Ev.RecordSpans
