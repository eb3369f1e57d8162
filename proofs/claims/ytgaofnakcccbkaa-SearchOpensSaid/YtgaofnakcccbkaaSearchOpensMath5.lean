/- Injections and envelopes: what the program makes. -/
import Derived.Test.YtgaofnakcccbkaaSearchOpensMath4
namespace Go.Ev.SearchOpens
open Go Go.Ev Go.Proofs
set_option linter.unusedVariables false
def chkW (x : List Int) (ws : List S_api_Wave) : Int := bif isRec x then (bif wavesB x.length ws then 0 else 83) else 82
theorem checkW_eq (F : Nat) (hF : 1024 < F) (x : List Int) (ws : List S_api_Wave) (hx : x.length ≤ 9223372036854775807) : search_checkWaves F x ws = some (chkW x ws) := by
  unfold search_checkWaves chkW
  rw [record_eq F x hF hx, bnd_eq]
  cases e : isRec x with
  | false => rfl
  | true =>
    have := (isRec_ok e).1
    simp only [Bool.not_true, cond_false, cond_true]
    rw [waves_eq F (by omega) ws x.length ⟨by omega, by omega⟩, bnd_eq]
    cases wavesB x.length ws <;> rfl
theorem chkW_0 {x : List Int} {ws : List S_api_Wave} (h : chkW x ws = 0) : isRec x = true ∧ wavesB x.length ws = true := by
  unfold chkW at h
  cases e : isRec x with
  | false => rw [e] at h; exact absurd (show (82 : Int) = 0 from h) (by decide)
  | true =>
    rw [e] at h
    cases e2 : wavesB x.length ws with
    | false => rw [e2] at h; exact absurd (show (83 : Int) = 0 from h) (by decide)
    | true => exact ⟨rfl, rfl⟩
def addS (q : Int) : List Int → Nat → List Int → List Int
  | l, _, [] => l
  | l, o, s :: r => addS q (l.set o (w64 (l[o]?.getD 0 + w64 (q * s)))) (o + 1) r
theorem addS_len (q : Int) : ∀ (S l : List Int) (o : Nat), (addS q l o S).length = l.length
  | [], l, o => rfl
  | s :: r, l, o => by rw [addS, addS_len q r, List.length_set]
def addAll (k : Int) : List Int → List S_api_Wave → List Int
  | l, [] => l
  | l, w :: r => addAll k (addS (w64 (k * w.Gain)) l w.At.toNat w.Samples) r
theorem addAll_len (k : Int) : ∀ (ws : List S_api_Wave) (l : List Int), (addAll k l ws).length = l.length
  | [], l => rfl
  | w :: r, l => by rw [addAll, addAll_len k r, addS_len]
theorem add2 (F : Nat) (hd : Int → (List S_api_Wave) → Int → Int → (List Int) → Option ((List Int))) (k : Int) (ws : List S_api_Wave) (n m : Int) (a g : Int) (S : List Int) (ha : 0 ≤ a) (hS : S.length ≤ 64) : ∀ (d N j : Nat) (l : List Int), d = S.length - j → j ≤ S.length → d < N → l.length ≤ 1024 → a + (S.length : Int) ≤ l.length →
    search_added_2 F hd N k ws n m S S.length j a g S l = hd k ws n (w64 (m + 1)) (addS (w64 (k * g)) l (a.toNat + j) (S.drop j))
  | d, 0, j, l, _, _, h, _, _ => by omega
  | 0, N + 1, j, l, hd', hj, _, _, _ => by
    rw [search_added_2, bif_neg' (by omega : ¬ ((j : Int) < S.length)), List.drop_of_length_le (by omega)]
    rfl
  | d + 1, N + 1, j, l, hd', hj, hN, hl, hal => by
    obtain ⟨s, hs⟩ := get_lt (l := S) (i := j) (by omega)
    obtain ⟨x, hx⟩ := get_lt (l := l) (i := a.toNat + j) (by omega)
    have e : w64 (a + (j : Int)) = ((a.toNat + j : Nat) : Int) := by rw [w64_id (by omega) (by omega)]; omega
    rw [search_added_2, bif_pos' (by omega : ((j : Int) < S.length)), idx_nat, hs, bnd_eq, e, idx_nat, hx, bnd_eq, inn_at (by omega), bnd_eq, upd_at (by omega), bnd_eq, up (by omega),
      add2 F hd k ws n m a g S ha hS d N (j + 1) _ (by omega) (by omega) (by omega) (by rw [List.length_set]; omega) (by rw [List.length_set]; omega), drop_get hs, addS, hx]
    rfl
theorem add1 (F : Nat) (hF : 64 < F) (k : Int) (ws : List S_api_Wave) (hws : ws.length ≤ 64) (t : Nat) (ht : t ≤ 1024) (hW : ∀ w ∈ ws, w.Samples.length ≤ 64 ∧ 0 ≤ w.At ∧ w.At + (w.Samples.length : Int) ≤ t) : ∀ (d N m : Nat) (l : List Int), d = ws.length - m → m ≤ ws.length → d < N → l.length = t →
    search_added_1 F N k ws ws.length m l = some (addAll k l (ws.drop m))
  | d, 0, m, l, _, _, h, _ => by omega
  | 0, N + 1, m, l, hd', hm, _, _ => by
    rw [search_added_1, bif_neg' (by omega : ¬ ((m : Int) < ws.length)), List.drop_of_length_le (by omega)]
    rfl
  | d + 1, N + 1, m, l, hd', hm, hN, hl => by
    obtain ⟨w, hw⟩ := get_lt (l := ws) (i := m) (by omega)
    obtain ⟨w1, w2, w3⟩ := hW w (List.mem_of_getElem? hw)
    have h2 := add2 F (search_added_1 F N) k ws ws.length m w.At w.Gain w.Samples w2 w1 w.Samples.length F 0 l rfl (Nat.zero_le _) (by omega) (by omega) (by omega)
    rw [List.drop_zero, Nat.add_zero] at h2
    rw [search_added_1, bif_pos' (by omega : ((m : Int) < ws.length)), idx_nat, hw, bnd_eq, drop_get hw, addAll]
    refine h2.trans ?_
    rw [up (by omega)]
    exact add1 F hF k ws hws t ht hW d N (m + 1) _ (by omega) (by omega) (by omega) (by rw [addS_len]; exact hl)
theorem waves_in {n : Int} {ws : List S_api_Wave} (h : wavesB n ws = true) : ws.length ≤ 64 ∧ ∀ w ∈ ws, w.Samples.length ≤ 64 ∧ 0 ≤ w.At ∧ w.At + (w.Samples.length : Int) ≤ n := by
  obtain ⟨h1, h2⟩ := wavesB_ok h
  exact ⟨h1, fun w hw => ⟨(wOk_len (h2 w hw).1).2, (h2 w hw).2.1, (h2 w hw).2.2⟩⟩
theorem added_eq (F : Nat) (hF : 1024 < F) (k : Int) (x : List Int) (ws : List S_api_Wave) (h : chkW x ws = 0) : search_added F x ws k = some (addAll k x ws) := by
  obtain ⟨h1, h2⟩ := chkW_0 h
  obtain ⟨w1, w2⟩ := waves_in h2
  have hx := (isRec_ok h1).1
  unfold search_added slices_Clone
  rw [apd_ok (by simp; omega) (by omega), bnd_eq, bnd_eq, List.nil_append]
  exact add1 F (by omega) k ws w1 x.length hx w2 ws.length F 0 x rfl (Nat.zero_le _) (by omega) rfl
def recR (l : List Int) : List Int × Int := bif isRec l then (l, 0) else ([], 8)
def injR (x : List Int) (ws : List S_api_Wave) : List Int × Int := bif chkW x ws == 0 then recR (addAll 1 x ws) else ([], chkW x ws)
theorem Inject_eq (F : Nat) (hF : 1024 < F) (x : List Int) (ws : List S_api_Wave) (hx : x.length ≤ 9223372036854775807) : search_Inject F x ws = some (injR x ws) := by
  unfold search_Inject injR
  rw [checkW_eq F hF x ws hx, bnd_eq]
  cases e : (chkW x ws == 0) with
  | false => rfl
  | true =>
    rw [beq_iff_eq] at e
    simp only [Bool.not_true, cond_false, cond_true]
    rw [added_eq F hF 1 x ws e, bnd_eq, record_eq F _ hF (by rw [addAll_len]; exact hx), bnd_eq]
    unfold recR
    cases isRec (addAll 1 x ws) <;> rfl
theorem recR_len (l : List Int) : (recR l).1.length ≤ 1024 := by
  unfold recR
  cases e : isRec l with
  | false => exact Nat.zero_le _
  | true => exact (isRec_ok e).1
theorem injR_len (x : List Int) (ws : List S_api_Wave) : (injR x ws).1.length ≤ 1024 := by
  unfold injR
  cases chkW x ws == 0 with
  | false => exact Nat.zero_le _
  | true => exact recR_len _
/-- Envelopes. -/
def nxt (c x : Int) : Int := Int.tmod (w64 (w64 (w64 (c * 48271) + x) + 65536)) 2147483647
def envW (c : Int) (w : S_api_Wave) : Int := w.Samples.foldl nxt (nxt (nxt (nxt c w.At) w.Gain) w.Samples.length)
theorem env2 (F : Nat) (hd : (List S_api_Wave) → Int → Int → (List S_api_Wave) → Int → S_api_Envelope → Option (S_api_Envelope)) (ws ws' : List S_api_Wave) (n m : Int) (S : List Int) (hS : S.length ≤ 64) (c22 : S_api_Envelope) : ∀ (d N j : Nat) (c : Int), d = S.length - j → j ≤ S.length → d < N →
    search_envelope_2 F hd N ws n m S S.length j ws' c c22 = hd ws n (w64 (m + 1)) ws' ((S.drop j).foldl nxt c) c22
  | d, 0, j, c, _, _, h => by omega
  | 0, N + 1, j, c, hd', hj, _ => by
    rw [search_envelope_2, bif_neg' (by omega : ¬ ((j : Int) < S.length)), List.drop_of_length_le (by omega)]
    rfl
  | d + 1, N + 1, j, c, hd', hj, hN => by
    obtain ⟨s, hs⟩ := get_lt (l := S) (i := j) (by omega)
    rw [search_envelope_2, bif_pos' (by omega : ((j : Int) < S.length)), idx_nat, hs, bnd_eq, up (by omega), env2 F hd ws ws' n m S hS c22 d N (j + 1) _ (by omega) (by omega) (by omega), drop_get hs]
    rfl
theorem env1 (F : Nat) (hF : 64 < F) (ws : List S_api_Wave) (hws : ws.length ≤ 64) (hW : ∀ w ∈ ws, w.Samples.length ≤ 64) (c22 : S_api_Envelope) : ∀ (d N m : Nat) (c : Int), d = ws.length - m → m ≤ ws.length → d < N →
    search_envelope_1 F N ws ws.length m ws c c22 = some ⟨ws.length, (ws.drop m).foldl envW c⟩
  | d, 0, m, c, _, _, h => by omega
  | 0, N + 1, m, c, hd', hm, _ => by
    rw [search_envelope_1, bif_neg' (by omega : ¬ ((m : Int) < ws.length)), List.drop_of_length_le (by omega)]
    rfl
  | d + 1, N + 1, m, c, hd', hm, hN => by
    obtain ⟨w, hw⟩ := get_lt (l := ws) (i := m) (by omega)
    have w1 := hW w (List.mem_of_getElem? hw)
    have h2 := env2 F (search_envelope_1 F N) ws ws ws.length m w.Samples w1 c22 w.Samples.length F 0 (nxt (nxt (nxt c w.At) w.Gain) w.Samples.length) rfl (Nat.zero_le _) (by omega)
    rw [List.drop_zero] at h2
    rw [search_envelope_1, bif_pos' (by omega : ((m : Int) < ws.length)), idx_nat, hw, bnd_eq, drop_get hw, List.foldl_cons]
    refine h2.trans ?_
    rw [up (by omega)]
    exact env1 F hF ws hws hW c22 d N (m + 1) _ (by omega) (by omega) (by omega)
def envE (ws : List S_api_Wave) (key : Int) : S_api_Envelope := ⟨ws.length, ws.foldl envW (w64 (key + 1))⟩
theorem envelope_eq (F : Nat) (hF : 64 < F) (ws : List S_api_Wave) (key : Int) (hws : ws.length ≤ 64) (hW : ∀ w ∈ ws, w.Samples.length ≤ 64) : search_envelope F ws key = some (envE ws key) := by
  unfold search_envelope
  exact env1 F hF ws hws hW ⟨0, 0⟩ ws.length F 0 (w64 (key + 1)) rfl (Nat.zero_le _) (by omega)
def chkS (x : List Int) (ws : List S_api_Wave) (key : Int) : Int := bif chkW x ws == 0 then (bif inR 0 key 1073741824 then 0 else 8) else chkW x ws
theorem checkS_eq (F : Nat) (hF : 1024 < F) (x : List Int) (ws : List S_api_Wave) (key : Int) (hx : x.length ≤ 9223372036854775807) : search_checkSeal F x ws key = some (chkS x ws key) := by
  unfold search_checkSeal chkS
  rw [checkW_eq F hF x ws hx, bnd_eq]
  cases e : (chkW x ws == 0) with
  | false => rfl
  | true =>
    simp only [Bool.not_true, cond_false, cond_true]
    rw [isFrom_eq, bnd_eq]
    cases inR 0 key 1073741824 <;> rfl
theorem chkS_0 {x : List Int} {ws : List S_api_Wave} {key : Int} (h : chkS x ws key = 0) : chkW x ws = 0 ∧ inR 0 key 1073741824 = true := by
  unfold chkS at h
  cases e : (chkW x ws == 0) with
  | false =>
    rw [e] at h
    have h' : chkW x ws = 0 := h
    rw [h'] at e
    exact absurd e (by decide)
  | true =>
    rw [e] at h
    cases e2 : inR 0 key 1073741824 with
    | false => rw [e2] at h; exact absurd (show (8 : Int) = 0 from h) (by decide)
    | true => exact ⟨eq_of_beq e, rfl⟩
def sealR (x : List Int) (ws : List S_api_Wave) (key : Int) : S_api_Envelope × Int := bif chkS x ws key == 0 then (envE ws key, 0) else (⟨0, 0⟩, chkS x ws key)
theorem Seal_eq (F : Nat) (hF : 1024 < F) (x : List Int) (ws : List S_api_Wave) (key : Int) (hx : x.length ≤ 9223372036854775807) : search_Seal F x ws key = some (sealR x ws key) := by
  unfold search_Seal sealR
  rw [checkS_eq F hF x ws key hx, bnd_eq]
  cases e : (chkS x ws key == 0) with
  | false => rfl
  | true =>
    obtain ⟨h1, _⟩ := chkS_0 (eq_of_beq e)
    obtain ⟨w1, w2⟩ := waves_in (chkW_0 h1).2
    simp only [Bool.not_true, cond_false, cond_true]
    rw [envelope_eq F (by omega) ws key w1 (fun w hw => (w2 w hw).1)]
    rfl
def sameE (a b : S_api_Envelope) : Bool := (a.Many == b.Many) && ((a.Code == b.Code) && true)
def openR (a : S_api_Envelope) (x : List Int) (ws : List S_api_Wave) (key : Int) : List Int × Int :=
  bif chkS x ws key == 0 then (bif sameE a (envE ws key) then recR (addAll (-1) x ws) else ([], 84)) else ([], chkS x ws key)
theorem Open_eq (F : Nat) (hF : 1024 < F) (a : S_api_Envelope) (x : List Int) (ws : List S_api_Wave) (key : Int) (hx : x.length ≤ 9223372036854775807) : search_Open F a x ws key = some (openR a x ws key) := by
  unfold search_Open openR
  rw [checkS_eq F hF x ws key hx, bnd_eq]
  cases e : (chkS x ws key == 0) with
  | false => rfl
  | true =>
    obtain ⟨h1, _⟩ := chkS_0 (eq_of_beq e)
    obtain ⟨w1, w2⟩ := waves_in (chkW_0 h1).2
    simp only [Bool.not_true, cond_false, cond_true]
    rw [envelope_eq F (by omega) ws key w1 (fun w hw => (w2 w hw).1), bnd_eq]
    show (bif !sameE a (envE ws key) then _ else _) = _
    cases e2 : sameE a (envE ws key) with
    | false => rfl
    | true =>
      simp only [Bool.not_true, cond_false, cond_true]
      rw [added_eq F hF (-1) x ws h1, bnd_eq, record_eq F _ hF (by rw [addAll_len]; exact hx), bnd_eq]
      unfold recR
      cases isRec (addAll (-1) x ws) <;> rfl
theorem openR_len (a : S_api_Envelope) (x : List Int) (ws : List S_api_Wave) (key : Int) : (openR a x ws key).1.length ≤ 1024 := by
  unfold openR
  cases chkS x ws key == 0 with
  | false => exact Nat.zero_le _
  | true =>
    cases sameE a (envE ws key) with
    | false => exact Nat.zero_le _
    | true => exact recR_len _
end Go.Ev.SearchOpens
