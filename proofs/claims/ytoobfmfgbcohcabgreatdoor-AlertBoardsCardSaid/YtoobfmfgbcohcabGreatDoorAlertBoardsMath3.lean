/- Texts and digests of alerts, on both sides. -/
import Derived.Lib.ItoaLen
import Derived.Test.YtoobfmfgbcohcabGreatDoorAlertBoardsMath2
namespace Go.Ev.AlertBoards
open Go Go.Ev Go.Proofs
set_option linter.unusedVariables false
theorem sCat_ok {a b : List UInt8} (h : a.length + b.length ≤ 1000000) : sCat a b = some (a ++ b) := by
 unfold sCat
 rw [Nat.ble_eq_true_of_le (by omega)]
 rfl
def smallB (n : Int) : Bool := decide (0 ≤ n) && decide (n ≤ 2147483647)
theorem small_iff {n : Int} : smallB n = true ↔ 0 ≤ n ∧ n ≤ 2147483647 := by simp [smallB]
def digs (v : Nat) : List UInt8 := if v = 0 then [] else Lib.decDigits v
theorem digs_step {v : Nat} (h : v ≠ 0) (s : List UInt8) : digs (v / 10) ++ (UInt8.ofNat (48 + v % 10) :: s) = digs v ++ s := by
 unfold digs
 rw [if_neg h]
 by_cases h10 : v < 10
 ·rw [if_pos (by omega), Lib.decDigits, dif_pos h10, Nat.mod_eq_of_lt h10]
  rfl
 ·rw [if_neg (by omega)]
  conv => rhs; rw [Lib.decDigits, dif_neg h10]
  simp
theorem wrap32_id {n : Int} (h1 : 0 ≤ n) (h2 : n ≤ 1000) : IntKind.wrap .i32 n = n := by
 unfold IntKind.wrap
 simp [IntKind.bits, IntKind.signed]
 omega
theorem rune_ok {c : Nat} (h : c ≤ 127) : runeS (c : Int) = some [UInt8.ofNat c] := by
 show (bif Nat.ble c 127 then some [UInt8.ofNat c] else none) = _
 rw [Nat.ble_eq_true_of_le h]
 rfl
theorem dc1 (F : Nat) : ∀ (k N v : Nat) (s : List UInt8), v < 10 ^ k → k < N → k ≤ 20 → s.length + k ≤ 100 → v < 9223372036854775807 → ref00_Decimal_1 F N v s false = some (digs v ++ s)
 | k, 0, v, s, _, h, _, _, _ => by omega
 | 0, N + 1, v, s, hv, _, _, _, _ => by
  have : v = 0 := by simpa using hv
  subst this
  rfl
 | k + 1, N + 1, v, s, hv, hN, hk, hs, hb => by
  rw [ref00_Decimal_1]
  by_cases h : v = 0
  ·subst h; rfl
  ·have e0 : ((v : Int) == 0) = false := by rw [beq_eq_false_iff_ne]; omega
   have e1 : Int.tmod (v : Int) 10 = ((v % 10 : Nat) : Int) := rfl
   have e2 : Int.tdiv (v : Int) 10 = ((v / 10 : Nat) : Int) := rfl
   have e3 : decide (((v % 10 : Nat) : Int) < 0) = false := decide_eq_false (by omega)
   rw [e0, Bool.not_false, cond_true, e1, e3, cond_false, ref00_Decimal_2]
   have e4 : IntKind.wrap .i32 (w64 ((48 : Int) + ((v % 10 : Nat) : Int))) = ((48 + v % 10 : Nat) : Int) := by
    rw [w64_id (by omega) (by omega), wrap32_id (by omega) (by omega)]; omega
   rw [e4, rune_ok (by omega), bnd_eq, sCat_ok (by simp; omega), bnd_eq, e2, w64_id (by omega) (by omega)]
   have hv' : v / 10 < 10 ^ k := by rw [Nat.pow_succ] at hv; omega
   have := dc1 F k N (v / 10) ([UInt8.ofNat (48 + v % 10)] ++ s) hv' (by omega) (by omega) (by simp; omega) (by omega)
   rw [this]
   exact congrArg some (digs_step h s)
theorem decimal_eq (F : Nat) (hF : 30 < F) (n : Int) (h : smallB n = true) : ref00_Decimal F n = some (Lib.itoa n) := by
 have hn := small_iff.1 h
 obtain ⟨v, rfl⟩ : ∃ v : Nat, n = v := ⟨n.toNat, by omega⟩
 unfold ref00_Decimal
 have hneg : ¬ (v : Int) < 0 := by omega
 by_cases h0 : v = 0
 ·subst h0
  have : Lib.itoa ((0 : Nat) : Int) = [48] := by
   unfold Lib.itoa
   rw [if_neg hneg]
   show Lib.decDigits 0 = _
   rw [Lib.decDigits]; rfl
  rw [this]; rfl
 ·have e0 : ((v : Int) == 0) = false := by rw [beq_eq_false_iff_ne]; omega
  have e1 : decide ((v : Int) < 0) = false := decide_eq_false hneg
  rw [e0, cond_false, e1, dc1 F 10 F v [] (by omega) (by omega) (by omega) (by simp) (by omega)]
  unfold Lib.itoa digs
  rw [if_neg hneg, if_neg h0, List.append_nil]
  rfl
theorem itoa_ok' (F : Nat) {n : Int} (h : smallB n = true) : itoa F n = some (Lib.itoa n) := by
 have := small_iff.1 h
 unfold itoa
 rw [decide_eq_true (by omega), decide_eq_true (by omega)]
 rfl
theorem itoa_len {n : Int} (h : smallB n = true) : (Lib.itoa n).length ≤ 21 := by
 have := small_iff.1 h
 exact Lib.itoa_length_le n (by omega) (by omega)
/- Lines. -/
def nums (ns : List Int) : List UInt8 := ns.flatMap fun n => 32 :: Lib.itoa n
def lineT (s : List UInt8) (ns : List Int) : List UInt8 := s ++ nums ns ++ [10]
theorem nums_len : ∀ (ns : List Int), ns.all smallB = true → (nums ns).length ≤ 22 * ns.length
 | [], _ => by simp [nums]
 | n :: r, h => by
  simp only [List.all_cons, Bool.and_eq_true] at h
  have h1 := itoa_len h.1
  have h2 := nums_len r h.2
  unfold nums at h2 ⊢
  rw [List.flatMap_cons]
  simp only [List.length_append, List.length_cons]
  omega
theorem bytesI_app (a b : List UInt8) : bytesI a ++ bytesI b = bytesI (a ++ b) := by simp [bytesI]
theorem bytesU_I : ∀ l : List UInt8, bytesU (bytesI l) = l
 | [] => rfl
 | a :: l => by
  show UInt8.ofNat (Int.toNat (a.toNat : Int)) :: bytesU (bytesI l) = _
  rw [bytesU_I l]
  simp
theorem strOf_ok {l : List UInt8} (h1 : 1 ≤ l.length) (h2 : l.length ≤ 1000000) : strOf (bytesI l) = some l := by
 unfold strOf
 rw [bytesI_len, Nat.ble_eq_true_of_le h1, Nat.ble_eq_true_of_le (by omega), bytesU_I]
 rfl
theorem neB_ok {l : List UInt8} (h1 : 1 ≤ l.length) : neB (bytesI l) = some () := by
 unfold neB
 rw [bytesI_len, Nat.ble_eq_true_of_le h1]
 rfl
theorem apdI {a b : List UInt8} (h : a.length + b.length ≤ 1000000) : apd 1 (bytesI a) (bytesI b) = some (bytesI (a ++ b)) := by
 rw [apd_ok (by rw [bytesI_len, bytesI_len]; omega) (by omega), bytesI_app]
theorem ln1 (F : Nat) (ns : List Int) (hs : ns.all smallB = true) (hl : ns.length ≤ 1000) : ∀ (k N i : Nat) (p : List UInt8), k = ns.length - i → i ≤ ns.length → k < N → p.length ≤ 1000 + 22 * i → alert_line_1 F N ns ns.length i (bytesI p) = some (p ++ nums (ns.drop i) ++ [10])
 | k, 0, i, p, _, _, h, _ => by omega
 | 0, N + 1, i, p, hk, hi, _, hp => by
  have e : ([10] : List Int) = bytesI [10] := rfl
  rw [alert_line_1, bif_neg' (by omega), e, apdI (by simp; omega), bnd_eq, neB_ok (by simp), bnd_eq, strOf_ok (by simp) (by simp; omega), bnd_eq, List.drop_of_length_le (by omega)]
  simp [nums]
 | k + 1, N + 1, i, p, hk, hi, hN, hp => by
  obtain ⟨c, hc⟩ := get_lt (l := ns) (i := i) (by omega)
  have hcs : smallB c = true := List.all_eq_true.1 hs c (List.mem_of_getElem? hc)
  have e : ([32] : List Int) = bytesI [32] := rfl
  have hlc := itoa_len hcs
  rw [alert_line_1, bif_pos' (by omega), idx_nat, hc, bnd_eq, e, apdI (by simp; omega), bnd_eq, itoa_ok' F hcs, bnd_eq, apdI (by simp; omega), bnd_eq, up (by omega), ln1 F ns hs hl k N (i + 1) _ (by omega) (by omega) (by omega) (by simp; omega), drop_get hc]
  simp [nums]
theorem line_eq (F : Nat) (s : List UInt8) (ns : List Int) (hs : ns.all smallB = true) (hl : ns.length ≤ 1000) (hF : 1000 < F) (hsl : s.length ≤ 1000) : alert_line F s ns = some (lineT s ns) := by
 unfold alert_line
 have e : apd 1 ([] : List Int) (bytesI s) = some (bytesI s) := by rw [apd_ok (by rw [bytesI_len]; simp; omega) (by omega)]; rfl
 rw [e, bnd_eq]
 exact ln1 F ns hs hl ns.length F 0 s rfl (by omega) (by omega) (by omega)
theorem lineT_len {s : List UInt8} {ns : List Int} (hs : ns.all smallB = true) : (lineT s ns).length ≤ s.length + 22 * ns.length + 1 := by
 have := nums_len ns hs
 unfold lineT
 simp only [List.length_append, List.length_cons, List.length_nil]
 omega
/- What valid alerts are like. -/
structure Fine (a : S_api_Alert) : Prop where
 ev : a.Event.length ≤ 16
 v : smallB a.Version = true
 t : smallB a.Time = true
 n : smallB a.Chance.N = true
 o : smallB a.Chance.Of = true
 g : smallB a.Grid = true
 b : smallB a.Before = true
 c : a.Cells.all smallB = true
 cl : a.Cells.length ≤ 384
 w : a.Withdrawn = ((a.Cells.length : Int) == 0)
theorem inc_len (n : Int) : ∀ (l : List Int) (lo : Int), incB n lo l = true → l = [] ∨ (l.length : Int) ≤ n - 1 - lo
 | [], _, _ => .inl rfl
 | x :: l, lo, h => by
  rw [incB, Bool.and_eq_true] at h
  have h1 := inR_iff.1 h.1
  rcases inc_len n l x h.2 with rfl | h2
  ·right; simp; omega
  ·right; simp only [List.length_cons]; omega
theorem inc_all (n : Int) (hn : n ≤ 384) : ∀ (l : List Int) (lo : Int), -1 ≤ lo → incB n lo l = true → l.all smallB = true
 | [], _, _, _ => rfl
 | x :: l, lo, hlo, h => by
  rw [incB, Bool.and_eq_true] at h
  have h1 := inR_iff.1 h.1
  rw [List.all_cons, inc_all n hn l x (by omega) h.2, Bool.and_true]
  exact small_iff.2 (by omega)
theorem vld_fine {a : S_api_Alert} (h : vldB a = true) : Fine a := by
 unfold vldB plcB befB nameB at h
 simp only [Bool.and_eq_true] at h
 obtain ⟨⟨h1, h2, _⟩, hv, ht, ⟨hc, ho⟩, ⟨hg, hi, hw⟩, hb⟩ := h
 have hv' := inR_iff.1 hv
 have ht' := inR_iff.1 ht
 have hc' := inR_iff.1 hc
 have ho' := of_decide_eq_true ho
 have hg' := inR_iff.1 hg
 have hr := cells_rng hg
 refine ⟨of_decide_eq_true h2, small_iff.2 (by omega), small_iff.2 (by omega), small_iff.2 (by omega), small_iff.2 (by omega), small_iff.2 (by omega), ?_, inc_all _ hr.2 _ _ (by omega) hi, ?_, eq_of_beq hw⟩
 ·cases hv1 : a.Version == 1 with
  | true =>
   rw [hv1, cond_true] at hb
   exact small_iff.2 (by have := eq_of_beq hb; omega)
  | false =>
   rw [hv1, cond_false] at hb
   exact small_iff.2 (by have := inR_iff.1 hb; omega)
 ·rcases inc_len _ _ _ hi with h | h
  ·rw [h]; simp
  ·omega
/- The text. -/
def whereT (a : S_api_Alert) : List UInt8 := bif a.Withdrawn then lineT [119, 105, 116, 104, 100, 114, 97, 119, 110] [] else lineT [99, 101, 108, 108, 115] a.Cells
def textT (a : S_api_Alert) : List UInt8 := lineT ([97, 108, 101, 114, 116, 32] ++ a.Event) [a.Version] ++ lineT [116, 105, 109, 101] [a.Time] ++ lineT [99, 104, 97, 110, 99, 101] [a.Chance.N, a.Chance.Of] ++ lineT [103, 114, 105, 100] [a.Grid] ++ whereT a ++ lineT [98, 101, 102, 111, 114, 101] [a.Before] ++ lineT [101, 110, 100] []
theorem where_len {a : S_api_Alert} (h : Fine a) : (whereT a).length ≤ 9000 := by
 have h1 := lineT_len (s := [99, 101, 108, 108, 115]) h.c
 have h2 := h.cl
 have h3 := lineT_len (s := [119, 105, 116, 104, 100, 114, 97, 119, 110]) (ns := []) rfl
 unfold whereT
 simp only [List.length_cons, List.length_nil] at h1 h3
 cases a.Withdrawn
 ·rw [cond_false]; omega
 ·rw [cond_true]; omega
theorem one_all {n : Int} (h : smallB n = true) : [n].all smallB = true := by simp [h]
theorem two_all {n m : Int} (h : smallB n = true) (h' : smallB m = true) : [n, m].all smallB = true := by simp [h, h']
theorem where_eq (F : Nat) (hF : 1000 < F) {a : S_api_Alert} (h : Fine a) : alert_sheet_where F a = some (whereT a) := by
 unfold alert_sheet_where whereT
 have := h.cl
 rw [line_eq F _ [] rfl (by simp) hF (by simp), line_eq F _ a.Cells h.c (by omega) hF (by simp), bnd_eq, bnd_eq]
 cases a.Withdrawn <;> rfl
theorem textOf_eq (F : Nat) (hF : 1000 < F) {a : S_api_Alert} (h : Fine a) : alert_textOf F a = some (textT a) := by
 obtain ⟨N, rfl⟩ : ∃ N, F = N + 1 := ⟨F - 1, by omega⟩
 have hev := h.ev
 have hw := where_len h
 have l1 := lineT_len (s := [97, 108, 101, 114, 116, 32] ++ a.Event) (one_all h.v)
 have l2 := lineT_len (s := [116, 105, 109, 101]) (one_all h.t)
 have l3 := lineT_len (s := [99, 104, 97, 110, 99, 101]) (two_all h.n h.o)
 have l4 := lineT_len (s := [103, 114, 105, 100]) (one_all h.g)
 have l5 := lineT_len (s := [98, 101, 102, 111, 114, 101]) (one_all h.b)
 have l6 := lineT_len (s := [101, 110, 100]) (ns := []) rfl
 simp only [List.length_append, List.length_cons, List.length_nil] at l1 l2 l3 l4 l5 l6
 have e : S_api_Alert.mk a.Event a.Version a.Time (S_api_Chance.mk a.Chance.N a.Chance.Of) a.Grid a.Cells a.Withdrawn a.Before = a := rfl
 have e0 : ∀ x : List UInt8, x.length ≤ 1000 → apd 1 ([] : List Int) (bytesI x) = some (bytesI x) := fun x hx => by rw [apd_ok (by rw [bytesI_len]; simp; omega) (by omega)]; rfl
 unfold alert_textOf
 rw [alert_textOf_1, e, alert_sheet_head, sCat_ok (by simp; omega), bnd_eq, line_eq _ _ _ (one_all h.v) (by simp) hF (by simp; omega), bnd_eq, bnd_eq, e0 _ (by omega), bnd_eq]
 rw [alert_textOf_2, e, alert_sheet_time, line_eq _ _ _ (one_all h.t) (by simp) hF (by simp), bnd_eq, bnd_eq, apdI (by omega), bnd_eq]
 rw [alert_textOf_3, e, alert_sheet_chance, line_eq _ _ _ (two_all h.n h.o) (by simp) hF (by simp), bnd_eq, bnd_eq, apdI (by simp only [List.length_append]; omega), bnd_eq]
 rw [alert_textOf_4, e, alert_sheet_grid, line_eq _ _ _ (one_all h.g) (by simp) hF (by simp), bnd_eq, bnd_eq, apdI (by simp only [List.length_append]; omega), bnd_eq]
 rw [alert_textOf_5, e, where_eq _ hF h, bnd_eq, apdI (by simp only [List.length_append]; omega), bnd_eq]
 rw [alert_textOf_6, e, alert_sheet_before, line_eq _ _ _ (one_all h.b) (by simp) hF (by simp), bnd_eq, bnd_eq, apdI (by simp only [List.length_append]; omega), bnd_eq]
 rw [alert_textOf_7, e, alert_sheet_end, line_eq _ _ [] rfl (by simp) hF (by simp), bnd_eq, bnd_eq, apdI (by simp only [List.length_append]; omega), bnd_eq]
 rw [alert_textOf_8, neB_ok (by simp [lineT]), bnd_eq, strOf_ok (by simp [lineT]) (by simp only [List.length_append]; omega), bnd_eq]
 rfl
theorem text_len {a : S_api_Alert} (h : Fine a) : (textT a).length ≤ 10000 := by
 have hev := h.ev
 have hw := where_len h
 have l1 := lineT_len (s := [97, 108, 101, 114, 116, 32] ++ a.Event) (one_all h.v)
 have l2 := lineT_len (s := [116, 105, 109, 101]) (one_all h.t)
 have l3 := lineT_len (s := [99, 104, 97, 110, 99, 101]) (two_all h.n h.o)
 have l4 := lineT_len (s := [103, 114, 105, 100]) (one_all h.g)
 have l5 := lineT_len (s := [98, 101, 102, 111, 114, 101]) (one_all h.b)
 have l6 := lineT_len (s := [101, 110, 100]) (ns := []) rfl
 simp only [List.length_append, List.length_cons, List.length_nil] at l1 l2 l3 l4 l5 l6
 unfold textT
 simp only [List.length_append]
 omega
/- The other side's text. -/
theorem tx2 (F : Nat) (hF : 1000 < F) (ev : List UInt8) (v t cn co g : Int) (wd : Bool) (bf : Int) (l : List Int) (hl : l.length ≤ 384) (hs : l.all smallB = true) (hb : smallB bf = true) : ∀ (k N i : Nat) (p : List UInt8), k = l.length - i → i ≤ l.length → k < N → p.length ≤ 1000 + 22 * i →
  ref10_text_2 F N p i ev v t cn co g l wd bf = some (p ++ nums (l.drop i) ++ [10, 98, 101, 102, 111, 114, 101, 32] ++ Lib.itoa bf ++ [10, 101, 110, 100, 10])
 | k, 0, i, p, _, _, h, _ => by omega
 | 0, N + 1, i, p, hk, hi, _, hp => by
  have hbl := itoa_len hb
  rw [ref10_text_2, bif_neg' (by omega), sCat_ok (by simp; omega), bnd_eq, decimal_eq F (by omega) bf hb, bnd_eq, sCat_ok (by simp; omega), bnd_eq, sCat_ok (by simp; omega), bnd_eq, List.drop_of_length_le (by omega)]
  simp [nums]
 | k + 1, N + 1, i, p, hk, hi, hN, hp => by
  obtain ⟨c, hc⟩ := get_lt (l := l) (i := i) (by omega)
  have hcs : smallB c = true := List.all_eq_true.1 hs c (List.mem_of_getElem? hc)
  have hlc := itoa_len hcs
  rw [ref10_text_2, bif_pos' (by omega), sCat_ok (by simp; omega), bnd_eq, idx_nat, hc, bnd_eq, decimal_eq F (by omega) c hcs, bnd_eq, sCat_ok (by simp; omega), bnd_eq, up (by omega), tx2 F hF ev v t cn co g wd bf l hl hs hb k N (i + 1) _ (by omega) (by omega) (by omega) (by simp; omega), drop_get hc]
  simp [nums]
theorem rtext_eq (F : Nat) (hF : 1000 < F) {a : S_api_Alert} (h : Fine a) : ref10_text F a = some (textT a) := by
 have hev := h.ev
 have i1 := itoa_len h.v
 have i2 := itoa_len h.t
 have i3 := itoa_len h.n
 have i4 := itoa_len h.o
 have i5 := itoa_len h.g
 have hcl := h.cl
 unfold ref10_text
 rw [sCat_ok (by simp; omega), bnd_eq, sCat_ok (by simp; omega), bnd_eq, decimal_eq F (by omega) _ h.v, bnd_eq, sCat_ok (by simp; omega), bnd_eq, sCat_ok (by simp; omega), bnd_eq, decimal_eq F (by omega) _ h.t, bnd_eq, sCat_ok (by simp; omega), bnd_eq, sCat_ok (by simp; omega), bnd_eq,
  decimal_eq F (by omega) _ h.n, bnd_eq, sCat_ok (by simp; omega), bnd_eq, sCat_ok (by simp; omega), bnd_eq, decimal_eq F (by omega) _ h.o, bnd_eq, sCat_ok (by simp; omega), bnd_eq, sCat_ok (by simp; omega), bnd_eq, decimal_eq F (by omega) _ h.g, bnd_eq, sCat_ok (by simp; omega), bnd_eq, sCat_ok (by simp; omega), bnd_eq]
 have key := fun (p : List UInt8) (hp : p.length ≤ 1000) => tx2 F hF a.Event a.Version a.Time a.Chance.N a.Chance.Of a.Grid a.Withdrawn a.Before a.Cells hcl h.c h.b a.Cells.length F 0 p rfl (by omega) (by omega) (by omega)
 have e0 : ((0 : Nat) : Int) = 0 := rfl
 have hw := h.w
 unfold textT whereT
 cases hwd : a.Withdrawn with
 | true =>
  rw [hwd] at hw
  have hc0 : a.Cells = [] := by
   have := eq_of_beq hw.symm
   exact List.length_eq_zero_iff.1 (by omega)
  rw [hwd] at key
  rw [cond_true, sCat_ok (by simp; omega), bnd_eq, ref10_text_1, ← e0, key _ (by simp; omega), hc0]
  simp [lineT, nums]
 | false =>
  rw [hwd] at key
  rw [cond_false, sCat_ok (by simp; omega), bnd_eq, ref10_text_1, ← e0, key _ (by simp; omega)]
  simp [lineT, nums]
/- Digests. -/
def stepD (d : Nat) (c : UInt8) : Nat := (d * 31 + c.toNat + 1) % 2147483647
def digT (a : S_api_Alert) : Nat := (textT a).foldl stepD 7
theorem stepD_lt (d : Nat) (c : UInt8) : stepD d c < 2147483647 := Nat.mod_lt _ (by omega)
theorem step_w {d : Nat} (hd : d < 2147483647) (c : UInt8) : Int.tmod (w64 ((w64 ((w64 ((d : Int) * (31 : Int))) + (w64 (c.toNat : Int)))) + (1 : Int))) (2147483647 : Int) = (stepD d c : Int) := by
 have hc : c.toNat < 256 := c.toNat_lt
 rw [w64_id (n := (d : Int) * 31) (by omega) (by omega), w64_id (n := (c.toNat : Int)) (by omega) (by omega), w64_id (n := (d : Int) * 31 + (c.toNat : Int)) (by omega) (by omega), w64_id (by omega) (by omega)]
 have e : (d : Int) * 31 + (c.toNat : Int) + 1 = ((d * 31 + c.toNat + 1 : Nat) : Int) := by push_cast; rfl
 rw [e]
 rfl
theorem dgA (F : Nat) (s : List UInt8) (hl : s.length ≤ 1000000) : ∀ (k N i d : Nat), k = s.length - i → i ≤ s.length → k < N → d < 2147483647 → alert_digestOf_1 F N d (bytesI s) (s.length : Int) i = some (((s.drop i).foldl stepD d : Nat) : Int)
 | k, 0, i, d, _, _, h, _ => by omega
 | 0, N + 1, i, d, hk, hi, _, hd => by
  rw [alert_digestOf_1, bif_neg' (by omega), List.drop_of_length_le (by omega)]
  rfl
 | k + 1, N + 1, i, d, hk, hi, hN, hd => by
  obtain ⟨c, hc⟩ := get_lt (l := s) (i := i) (by omega)
  have hc' : (bytesI s)[i]? = some (c.toNat : Int) := by unfold bytesI; rw [List.getElem?_map, hc]; rfl
  rw [alert_digestOf_1, bif_pos' (by omega), idx_nat, hc', bnd_eq, step_w hd, up (by omega), dgA F s hl k N (i + 1) _ (by omega) (by omega) (by omega) (stepD_lt d c), drop_get hc]
  rfl
theorem dgR (F : Nat) (s : List UInt8) (hl : s.length ≤ 1000000) : ∀ (k N i d : Nat), k = s.length - i → i ≤ s.length → k < N → d < 2147483647 → ref10_digest_1 F N d s i = some (((s.drop i).foldl stepD d : Nat) : Int)
 | k, 0, i, d, _, _, h, _ => by omega
 | 0, N + 1, i, d, hk, hi, _, hd => by
  rw [ref10_digest_1, bif_neg' (by omega), List.drop_of_length_le (by omega)]
  rfl
 | k + 1, N + 1, i, d, hk, hi, hN, hd => by
  obtain ⟨c, hc⟩ := get_lt (l := s) (i := i) (by omega)
  have hs : sAt s (i : Int) = some (c.toNat : Int) := by
   show (s[i]?).map _ = _
   rw [hc]; rfl
  rw [ref10_digest_1, bif_pos' (by omega), hs, bnd_eq, step_w hd, up (by omega), dgR F s hl k N (i + 1) _ (by omega) (by omega) (by omega) (stepD_lt d c), drop_get hc]
  rfl
theorem digestOf_eq (F : Nat) (hF : 20000 < F) {a : S_api_Alert} (h : Fine a) : alert_digestOf F a = some (digT a : Int) := by
 have hl := text_len h
 have hb : byt (textT a) = some (bytesI (textT a)) := by
  unfold byt
  rw [Nat.ble_eq_true_of_le (by omega)]
  rfl
 unfold alert_digestOf
 rw [textOf_eq F (by omega) h, bnd_eq, hb, bnd_eq, bytesI_len]
 exact dgA F (textT a) (by omega) _ F 0 7 rfl (by omega) (by omega) (by omega)
theorem rdigest_eq (F : Nat) (hF : 20000 < F) {a : S_api_Alert} (h : Fine a) : ref10_digest F a = some (digT a : Int) := by
 have hl := text_len h
 unfold ref10_digest
 rw [rtext_eq F (by omega) h, bnd_eq]
 exact dgR F (textT a) (by omega) _ F 0 7 rfl (by omega) (by omega) (by omega)
end Go.Ev.AlertBoards
