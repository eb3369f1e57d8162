/- Texts and digests of alerts, on both sides. -/
import Derived.Lib.ItoaLen
import Derived.Test.YtoobfmfgbcohcaaDoorAlertChainMath2
namespace Go.Ev.AlertChain
open Go Go.Ev Go.Proofs
set_option linter.unusedVariables false
theorem sCat_ok {a b : List UInt8} (h : a.length + b.length ≤ 1000000) : sCat a b = some (a ++ b) := by
  unfold sCat
  rw [Nat.ble_eq_true_of_le (by omega)]
  rfl
def smallB (n : Int) : Bool := decide (0 ≤ n) && decide (n ≤ 2147483647)
theorem small_iff {n : Int} : smallB n = true ↔ 0 ≤ n ∧ n ≤ 2147483647 := by simp [smallB]
theorem itoa_ok' (F : Nat) {n : Int} (h : smallB n = true) : itoa F n = some (Lib.itoa n) := by
  have := small_iff.1 h
  unfold itoa
  rw [decide_eq_true (by omega), decide_eq_true (by omega)]
  rfl
theorem itoa_len {n : Int} (h : smallB n = true) : (Lib.itoa n).length ≤ 21 := by
  have := small_iff.1 h
  exact Lib.itoa_length_le n (by omega) (by omega)
def nums (ns : List Int) : List UInt8 := ns.flatMap fun n => 32 :: Lib.itoa n
def lineT (s : List UInt8) (ns : List Int) : List UInt8 := s ++ nums ns ++ [10]
theorem nums_len : ∀ (ns : List Int), ns.all smallB = true → (nums ns).length ≤ 22 * ns.length
  | [], _ => by simp [nums]
  | n :: r, h => by
    simp only [List.all_cons, Bool.and_eq_true] at h
    have h1 := itoa_len h.1
    have h2 := nums_len r h.2
    unfold nums at h2 ⊢
    rw [List.flatMap_cons]
    simp only [List.length_append, List.length_cons]
    omega
theorem bytesI_app (a b : List UInt8) : bytesI a ++ bytesI b = bytesI (a ++ b) := by simp [bytesI]
theorem bytesU_I : ∀ l : List UInt8, bytesU (bytesI l) = l
  | [] => rfl
  | a :: l => by
    show UInt8.ofNat (Int.toNat (a.toNat : Int)) :: bytesU (bytesI l) = _
    rw [bytesU_I l]
    simp
theorem strOf_ok {l : List UInt8} (h1 : 1 ≤ l.length) (h2 : l.length ≤ 1000000) : strOf (bytesI l) = some l := by
  unfold strOf
  rw [bytesI_len, Nat.ble_eq_true_of_le h1, Nat.ble_eq_true_of_le (by omega), bytesU_I]
  rfl
theorem neB_ok {l : List UInt8} (h1 : 1 ≤ l.length) : neB (bytesI l) = some () := by
  unfold neB
  rw [bytesI_len, Nat.ble_eq_true_of_le h1]
  rfl
theorem apdI {a b : List UInt8} (h : a.length + b.length ≤ 1000000) : apd 1 (bytesI a) (bytesI b) = some (bytesI (a ++ b)) := by
  rw [apd_ok (by rw [bytesI_len, bytesI_len]; omega) (by omega), bytesI_app]
theorem ln1 (F : Nat) (ns : List Int) (hs : ns.all smallB = true) (hl : ns.length ≤ 1000) : ∀ (k N i : Nat) (p : List UInt8), k = ns.length - i → i ≤ ns.length → k < N → p.length ≤ 1000 + 22 * i → alert_line_1 F N ns ns.length i (bytesI p) = some (p ++ nums (ns.drop i) ++ [10])
  | k, 0, i, p, _, _, h, _ => by omega
  | 0, N + 1, i, p, hk, hi, _, hp => by
    have e : ([10] : List Int) = bytesI [10] := rfl
    rw [alert_line_1, bif_neg' (by omega), e, apdI (by simp; omega), bnd_eq, neB_ok (by simp), bnd_eq, strOf_ok (by simp) (by simp; omega), bnd_eq, List.drop_of_length_le (by omega)]
    simp [nums]
  | k + 1, N + 1, i, p, hk, hi, hN, hp => by
    obtain ⟨c, hc⟩ := get_lt (l := ns) (i := i) (by omega)
    have hcs : smallB c = true := List.all_eq_true.1 hs c (List.mem_of_getElem? hc)
    have e : ([32] : List Int) = bytesI [32] := rfl
    have hlc := itoa_len hcs
    rw [alert_line_1, bif_pos' (by omega), idx_nat, hc, bnd_eq, e, apdI (by simp; omega), bnd_eq, itoa_ok' F hcs, bnd_eq, apdI (by simp; omega), bnd_eq, up (by omega), ln1 F ns hs hl k N (i + 1) _ (by omega) (by omega) (by omega) (by simp; omega), drop_get hc]
    simp [nums]
theorem line_eq (F : Nat) (s : List UInt8) (ns : List Int) (hs : ns.all smallB = true) (hl : ns.length ≤ 1000) (hF : 1000 < F) (hsl : s.length ≤ 1000) : alert_line F s ns = some (lineT s ns) := by
  unfold alert_line
  have e : apd 1 ([] : List Int) (bytesI s) = some (bytesI s) := by rw [apd_ok (by rw [bytesI_len]; simp; omega) (by omega)]; rfl
  rw [e, bnd_eq]
  exact ln1 F ns hs hl ns.length F 0 s rfl (by omega) (by omega) (by omega)
theorem lineT_len {s : List UInt8} {ns : List Int} (hs : ns.all smallB = true) : (lineT s ns).length ≤ s.length + 22 * ns.length + 1 := by
  have := nums_len ns hs
  unfold lineT
  simp only [List.length_append, List.length_cons, List.length_nil]
  omega
structure Fine (a : S_api_Alert) : Prop where
  ev : a.Event.length ≤ 16
  v : smallB a.Version = true
  t : smallB a.Time = true
  n : smallB a.Chance.N = true
  o : smallB a.Chance.Of = true
  g : smallB a.Grid = true
  b : smallB a.Before = true
  c : a.Cells.all smallB = true
  cl : a.Cells.length ≤ 384
  w : a.Withdrawn = ((a.Cells.length : Int) == 0)
theorem inc_len (n : Int) : ∀ (l : List Int) (lo : Int), incB n lo l = true → l = [] ∨ (l.length : Int) ≤ n - 1 - lo
  | [], _, _ => .inl rfl
  | x :: l, lo, h => by
    rw [incB, Bool.and_eq_true] at h
    have h1 := inR_iff.1 h.1
    rcases inc_len n l x h.2 with rfl | h2
    · right; simp; omega
    · right; simp only [List.length_cons]; omega
theorem inc_all (n : Int) (hn : n ≤ 384) : ∀ (l : List Int) (lo : Int), -1 ≤ lo → incB n lo l = true → l.all smallB = true
  | [], _, _, _ => rfl
  | x :: l, lo, hlo, h => by
    rw [incB, Bool.and_eq_true] at h
    have h1 := inR_iff.1 h.1
    rw [List.all_cons, inc_all n hn l x (by omega) h.2, Bool.and_true]
    exact small_iff.2 (by omega)
theorem vld_fine {a : S_api_Alert} (h : vldB a = true) : Fine a := by
  unfold vldB plcB befB nameB at h
  simp only [Bool.and_eq_true] at h
  obtain ⟨⟨h1, h2, _⟩, hv, ht, ⟨hc, ho⟩, ⟨hg, hi, hw⟩, hb⟩ := h
  have hv' := inR_iff.1 hv
  have ht' := inR_iff.1 ht
  have hc' := inR_iff.1 hc
  have ho' := of_decide_eq_true ho
  have hg' := inR_iff.1 hg
  have hr := cells_rng hg
  refine ⟨of_decide_eq_true h2, small_iff.2 (by omega), small_iff.2 (by omega), small_iff.2 (by omega), small_iff.2 (by omega), small_iff.2 (by omega), ?_, inc_all _ hr.2 _ _ (by omega) hi, ?_, eq_of_beq hw⟩
  · cases hv1 : a.Version == 1 with
    | true =>
      rw [hv1, cond_true] at hb
      exact small_iff.2 (by have := eq_of_beq hb; omega)
    | false =>
      rw [hv1, cond_false] at hb
      exact small_iff.2 (by have := inR_iff.1 hb; omega)
  · rcases inc_len _ _ _ hi with h | h
    · rw [h]; simp
    · omega
def whereT (a : S_api_Alert) : List UInt8 := bif a.Withdrawn then lineT [119, 105, 116, 104, 100, 114, 97, 119, 110] [] else lineT [99, 101, 108, 108, 115] a.Cells
def textT (a : S_api_Alert) : List UInt8 := lineT ([97, 108, 101, 114, 116, 32] ++ a.Event) [a.Version] ++ lineT [116, 105, 109, 101] [a.Time] ++ lineT [99, 104, 97, 110, 99, 101] [a.Chance.N, a.Chance.Of] ++ lineT [103, 114, 105, 100] [a.Grid] ++ whereT a ++ lineT [98, 101, 102, 111, 114, 101] [a.Before] ++ lineT [101, 110, 100] []
theorem where_len {a : S_api_Alert} (h : Fine a) : (whereT a).length ≤ 9000 := by
  have h1 := lineT_len (s := [99, 101, 108, 108, 115]) h.c
  have h2 := h.cl
  have h3 := lineT_len (s := [119, 105, 116, 104, 100, 114, 97, 119, 110]) (ns := []) rfl
  unfold whereT
  simp only [List.length_cons, List.length_nil] at h1 h3
  cases a.Withdrawn
  · rw [cond_false]; omega
  · rw [cond_true]; omega
theorem one_all {n : Int} (h : smallB n = true) : [n].all smallB = true := by simp [h]
theorem two_all {n m : Int} (h : smallB n = true) (h' : smallB m = true) : [n, m].all smallB = true := by simp [h, h']
theorem where_eq (F : Nat) (hF : 1000 < F) {a : S_api_Alert} (h : Fine a) : alert_sheet_where F a = some (whereT a) := by
  unfold alert_sheet_where whereT
  have := h.cl
  rw [line_eq F _ [] rfl (by simp) hF (by simp), line_eq F _ a.Cells h.c (by omega) hF (by simp), bnd_eq, bnd_eq]
  cases a.Withdrawn <;> rfl
theorem textOf_eq (F : Nat) (hF : 1000 < F) {a : S_api_Alert} (h : Fine a) : alert_textOf F a = some (textT a) := by
  obtain ⟨N, rfl⟩ : ∃ N, F = N + 1 := ⟨F - 1, by omega⟩
  have hev := h.ev
  have hw := where_len h
  have l1 := lineT_len (s := [97, 108, 101, 114, 116, 32] ++ a.Event) (one_all h.v)
  have l2 := lineT_len (s := [116, 105, 109, 101]) (one_all h.t)
  have l3 := lineT_len (s := [99, 104, 97, 110, 99, 101]) (two_all h.n h.o)
  have l4 := lineT_len (s := [103, 114, 105, 100]) (one_all h.g)
  have l5 := lineT_len (s := [98, 101, 102, 111, 114, 101]) (one_all h.b)
  have l6 := lineT_len (s := [101, 110, 100]) (ns := []) rfl
  simp only [List.length_append, List.length_cons, List.length_nil] at l1 l2 l3 l4 l5 l6
  have e : S_api_Alert.mk a.Event a.Version a.Time (S_api_Chance.mk a.Chance.N a.Chance.Of) a.Grid a.Cells a.Withdrawn a.Before = a := rfl
  have e0 : ∀ x : List UInt8, x.length ≤ 1000 → apd 1 ([] : List Int) (bytesI x) = some (bytesI x) := fun x hx => by rw [apd_ok (by rw [bytesI_len]; simp; omega) (by omega)]; rfl
  unfold alert_textOf
  rw [alert_textOf_1, e, alert_sheet_head, sCat_ok (by simp; omega), bnd_eq, line_eq _ _ _ (one_all h.v) (by simp) hF (by simp; omega), bnd_eq, bnd_eq, e0 _ (by omega), bnd_eq]
  rw [alert_textOf_2, e, alert_sheet_time, line_eq _ _ _ (one_all h.t) (by simp) hF (by simp), bnd_eq, bnd_eq, apdI (by omega), bnd_eq]
  rw [alert_textOf_3, e, alert_sheet_chance, line_eq _ _ _ (two_all h.n h.o) (by simp) hF (by simp), bnd_eq, bnd_eq, apdI (by simp only [List.length_append]; omega), bnd_eq]
  rw [alert_textOf_4, e, alert_sheet_grid, line_eq _ _ _ (one_all h.g) (by simp) hF (by simp), bnd_eq, bnd_eq, apdI (by simp only [List.length_append]; omega), bnd_eq]
  rw [alert_textOf_5, e, where_eq _ hF h, bnd_eq, apdI (by simp only [List.length_append]; omega), bnd_eq]
  rw [alert_textOf_6, e, alert_sheet_before, line_eq _ _ _ (one_all h.b) (by simp) hF (by simp), bnd_eq, bnd_eq, apdI (by simp only [List.length_append]; omega), bnd_eq]
  rw [alert_textOf_7, e, alert_sheet_end, line_eq _ _ [] rfl (by simp) hF (by simp), bnd_eq, bnd_eq, apdI (by simp only [List.length_append]; omega), bnd_eq]
  rw [alert_textOf_8, neB_ok (by simp [lineT]), bnd_eq, strOf_ok (by simp [lineT]) (by simp only [List.length_append]; omega), bnd_eq]
  rfl
theorem text_len {a : S_api_Alert} (h : Fine a) : (textT a).length ≤ 10000 := by
  have hev := h.ev
  have hw := where_len h
  have l1 := lineT_len (s := [97, 108, 101, 114, 116, 32] ++ a.Event) (one_all h.v)
  have l2 := lineT_len (s := [116, 105, 109, 101]) (one_all h.t)
  have l3 := lineT_len (s := [99, 104, 97, 110, 99, 101]) (two_all h.n h.o)
  have l4 := lineT_len (s := [103, 114, 105, 100]) (one_all h.g)
  have l5 := lineT_len (s := [98, 101, 102, 111, 114, 101]) (one_all h.b)
  have l6 := lineT_len (s := [101, 110, 100]) (ns := []) rfl
  simp only [List.length_append, List.length_cons, List.length_nil] at l1 l2 l3 l4 l5 l6
  unfold textT
  simp only [List.length_append]
  omega
def stepD (d : Nat) (c : UInt8) : Nat := (d * 31 + c.toNat + 1) % 2147483647
def digT (a : S_api_Alert) : Nat := (textT a).foldl stepD 7
theorem stepD_lt (d : Nat) (c : UInt8) : stepD d c < 2147483647 := Nat.mod_lt _ (by omega)
theorem step_w {d : Nat} (hd : d < 2147483647) (c : UInt8) : Int.tmod (w64 ((w64 ((w64 ((d : Int) * (31 : Int))) + (w64 (c.toNat : Int)))) + (1 : Int))) (2147483647 : Int) = (stepD d c : Int) := by
  have hc : c.toNat < 256 := c.toNat_lt
  rw [w64_id (n := (d : Int) * 31) (by omega) (by omega), w64_id (n := (c.toNat : Int)) (by omega) (by omega), w64_id (n := (d : Int) * 31 + (c.toNat : Int)) (by omega) (by omega), w64_id (by omega) (by omega)]
  have e : (d : Int) * 31 + (c.toNat : Int) + 1 = ((d * 31 + c.toNat + 1 : Nat) : Int) := by push_cast; rfl
  rw [e]
  rfl
theorem dgA (F : Nat) (s : List UInt8) (hl : s.length ≤ 1000000) : ∀ (k N i d : Nat), k = s.length - i → i ≤ s.length → k < N → d < 2147483647 → alert_digestOf_1 F N d (bytesI s) (s.length : Int) i = some (((s.drop i).foldl stepD d : Nat) : Int)
  | k, 0, i, d, _, _, h, _ => by omega
  | 0, N + 1, i, d, hk, hi, _, hd => by
    rw [alert_digestOf_1, bif_neg' (by omega), List.drop_of_length_le (by omega)]
    rfl
  | k + 1, N + 1, i, d, hk, hi, hN, hd => by
    obtain ⟨c, hc⟩ := get_lt (l := s) (i := i) (by omega)
    have hc' : (bytesI s)[i]? = some (c.toNat : Int) := by unfold bytesI; rw [List.getElem?_map, hc]; rfl
    rw [alert_digestOf_1, bif_pos' (by omega), idx_nat, hc', bnd_eq, step_w hd, up (by omega), dgA F s hl k N (i + 1) _ (by omega) (by omega) (by omega) (stepD_lt d c), drop_get hc]
    rfl
theorem digestOf_eq (F : Nat) (hF : 20000 < F) {a : S_api_Alert} (h : Fine a) : alert_digestOf F a = some (digT a : Int) := by
  have hl := text_len h
  have hb : byt (textT a) = some (bytesI (textT a)) := by
    unfold byt
    rw [Nat.ble_eq_true_of_le (by omega)]
    rfl
  unfold alert_digestOf
  rw [textOf_eq F (by omega) h, bnd_eq, hb, bnd_eq, bytesI_len]
  exact dgA F (textT a) (by omega) _ F 0 7 rfl (by omega) (by omega) (by omega)
end Go.Ev.AlertChain
