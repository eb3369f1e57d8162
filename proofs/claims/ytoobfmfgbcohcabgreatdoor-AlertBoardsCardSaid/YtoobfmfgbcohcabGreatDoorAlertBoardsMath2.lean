/- Alerts: which are valid, on both sides. -/
import Derived.Test.YtoobfmfgbcohcabGreatDoorAlertBoardsMath1
namespace Go.Ev.AlertBoards
open Go Go.Ev Go.Proofs
set_option linter.unusedVariables false
theorem isFrom_eq (F : Nat) (a b c : Int) : alert_isFrom F a b c = some (inR a b c) := by
 unfold alert_isFrom alert_isFrom_1 inR
 cases decide (a ≤ b) <;> rfl
theorem sFrom_eq (F : Nat) (a b c : Int) : sky_isFrom F a b c = some (inR a b c) := by
 unfold sky_isFrom sky_isFrom_1 inR
 cases decide (a ≤ b) <;> rfl
theorem rIn_eq (F : Nat) (a b c : Int) : ref00_In F a b c = some (inR b a c) := by
 unfold ref00_In ref00_In_1 inR
 cases decide (b ≤ a) <;> rfl
/-- Names, on the other side. -/
theorem rn8 (F : Nat) (hd : List UInt8 → Int → Option Bool) (s : List UInt8) (i c : Int) (lt : Bool) : ref01_IsName_5 F hd s i c lt = bif lt && ((decide (c < 48) || decide (57 < c)) && !(c == 95)) then some false else hd s (w64 (i + 1)) := by
 unfold ref01_IsName_5 ref01_IsName_6 ref01_IsName_9 ref01_IsName_7 ref01_IsName_8
 cases lt <;> cases decide (c < 48) <;> cases decide (57 < c) <;> cases c == 95 <;> rfl
/-- A character that is no letter is a digit or a line, behind the first. -/
def lateB (c : Int) : Bool := (decide (97 ≤ c) && decide (c ≤ 122)) || (decide (48 ≤ c) && decide (c ≤ 57) || c == 95)
theorem lt_not (a b : Int) : decide (a < b) = !decide (b ≤ a) := by
 by_cases h : a < b
 ·rw [decide_eq_true h, decide_eq_false (by omega)]; rfl
 ·rw [decide_eq_false h, decide_eq_true (by omega)]; rfl
theorem rn4 (F : Nat) (s : List UInt8) (hl : s.length ≤ 1000) : ∀ (k N i : Nat), k = s.length - i → i ≤ s.length → k < N → ref01_IsName_4 F N s i = some (((bytesI s).drop i).all lateB)
 | k, 0, i, _, _, h => by omega
 | 0, N + 1, i, hk, hi, _ => by
  rw [ref01_IsName_4, bif_neg' (by omega), List.drop_of_length_le (by rw [bytesI_len]; omega)]
  rfl
 | k + 1, N + 1, i, hk, hi, hN => by
  obtain ⟨c, hc⟩ := get_lt (l := s) (i := i) (by omega)
  have hc' : (bytesI s)[i]? = some (c.toNat : Int) := by unfold bytesI; rw [List.getElem?_map, hc]; rfl
  have hs : sAt s (i : Int) = some (c.toNat : Int) := by
   show (s[i]?).map _ = _
   rw [hc]; rfl
  rw [ref01_IsName_4, bif_pos' (by omega), hs, bnd_eq, rn8, rn8, up (by omega), rn4 F s hl k N (i + 1) (by omega) (by omega) (by omega), drop_get hc', List.all_cons]
  generalize (c.toNat : Int) = c
  generalize ((bytesI s).drop (i + 1)).all lateB = r
  unfold lateB
  rw [lt_not c 97, lt_not 122 c, lt_not c 48, lt_not 57 c]
  cases decide (97 ≤ c) <;> cases decide (c ≤ 122) <;> cases decide (48 ≤ c) <;> cases decide (c ≤ 57) <;> cases c == 95 <;> rfl
theorem chars_late : ∀ (l : List Int) (i : Int), 0 < i → charsB l i = l.all lateB
 | [], _, _ => rfl
 | c :: r, i, hi => by
  rw [charsB, chars_late r (i + 1) (by omega), List.all_cons]
  unfold charB lateB
  rw [decide_eq_true hi, Bool.and_true]
theorem rName_eq (F : Nat) (hF : 20 < F) (s : List UInt8) : ref01_IsName F s = some (nameB s) := by
 unfold ref01_IsName nameB
 cases s with
 | nil => rfl
 | cons c r =>
  have e1 : ((c :: r).length : Int) = (r.length : Int) + 1 := by simp
  have hs : sAt (c :: r) 0 = some (c.toNat : Int) := rfl
  by_cases h16 : r.length < 16
  ·have h1 : decide (((c :: r).length : Int) < 1) = false := by rw [e1]; exact decide_eq_false (by omega)
   have h2 : decide ((16 : Int) < ((c :: r).length : Int)) = false := by rw [e1]; exact decide_eq_false (by omega)
   have h3 : decide (1 ≤ (c :: r).length) = true := decide_eq_true (by simp)
   have h4 : decide ((c :: r).length ≤ 16) = true := decide_eq_true (by simp; omega)
   have := rn4 F (c :: r) (by simp; omega) (c :: r).length F 0 rfl (by omega) (by simp; omega)
   rw [List.drop_zero] at this
   simp only [h1, h2, h3, h4, cond_false, Bool.true_and, ref01_IsName_1, ref01_IsName_2, ref01_IsName_3, hs, bnd_eq]
   rw [show (bytesI (c :: r)) = (c.toNat : Int) :: bytesI r from rfl] at this ⊢
   rw [charsB, chars_late _ (0 + 1) (by omega)]
   have h0 : ref01_IsName_4 F F (c :: r) 0 = some (((c.toNat : Int) :: bytesI r).all lateB) := this
   simp only [h0, List.all_cons, lt_not (c.toNat : Int) 97, lt_not 122 (c.toNat : Int)]
   generalize (bytesI r).all lateB = q
   generalize (c.toNat : Int) = c
   unfold charB lateB
   cases decide (97 ≤ c) <;> cases decide (c ≤ 122) <;> cases decide (48 ≤ c) <;> cases decide (c ≤ 57) <;> cases c == 95 <;> cases q <;> rfl
  ·have h1 : decide (((c :: r).length : Int) < 1) = false := by rw [e1]; exact decide_eq_false (by omega)
   have h2 : decide ((16 : Int) < ((c :: r).length : Int)) = true := by rw [e1]; exact decide_eq_true (by omega)
   have h3 : decide ((c :: r).length ≤ 16) = false := decide_eq_false (by simp; omega)
   simp only [h1, h2, h3, cond_false, cond_true, Bool.false_and, Bool.and_false, ref01_IsName_1, ref01_IsName_2, ref01_IsName_3]
/-- Cells: strictly increasing, each from lo + 1 to n - 1. -/
def incB (n : Int) : Int → List Int → Bool
 | _, [] => true
 | lo, x :: l => inR (lo + 1) x (n - 1) && incB n x l
theorem ac1 (F : Nat) (n : Int) (hn : 0 ≤ n) (hn1 : n ≤ 1000) (l : List Int) (hl : l.length ≤ 9223372036854775807) : ∀ (k N i : Nat) (lo : Int), k = l.length - i → i ≤ l.length → k < N → -1 ≤ lo → lo ≤ n → alert_areCells_1 F N n lo l l.length i = some (incB n lo (l.drop i))
 | k, 0, i, _, _, _, h, _, _ => by omega
 | 0, N + 1, i, lo, hk, hi, _, h1, h2 => by
  rw [alert_areCells_1, bif_neg' (by omega), List.drop_of_length_le (by omega)]
  rfl
 | k + 1, N + 1, i, lo, hk, hi, hN, h1, h2 => by
  obtain ⟨c, hc⟩ := get_lt (l := l) (i := i) (by omega)
  rw [alert_areCells_1, bif_pos' (by omega), idx_nat, hc, bnd_eq, isFrom_eq, bnd_eq, w64_id (by omega) (by omega), w64_id (n := n - 1) (by omega) (by omega), drop_get hc, incB]
  cases hr : inR (lo + 1) c (n - 1) with
  | false => rfl
  | true =>
   have := inR_iff.1 hr
   rw [up (by omega)]
   simp only [Bool.not_true, cond_false, Bool.true_and]
   exact ac1 F n hn hn1 l hl k N (i + 1) c (by omega) (by omega) (by omega) (by omega) (by omega)
theorem areCells_eq (F : Nat) (n : Int) (hn : 0 ≤ n) (hn1 : n ≤ 1000) (l : List Int) (hl : l.length ≤ 9223372036854775807) (hF : l.length < F) : alert_areCells F n l = some (incB n (-1) l) := by
 unfold alert_areCells
 exact ac1 F n hn hn1 l hl l.length F 0 (-1) rfl (by omega) hF (by omega) (by omega)
def cellsN (g : Int) : Int := 6 * (g * g)
theorem cells_rng {g : Int} (h : inR 1 g 8 = true) : 6 ≤ cellsN g ∧ cellsN g ≤ 384 := by
 have := inR_iff.1 h
 have hg : g = 1 ∨ g = 2 ∨ g = 3 ∨ g = 4 ∨ g = 5 ∨ g = 6 ∨ g = 7 ∨ g = 8 := by omega
 rcases hg with rfl | rfl | rfl | rfl | rfl | rfl | rfl | rfl <;> simp [cellsN]
theorem skyCells_eq (F : Nat) (g : Int) : sky_Cells F g = some (bif inR 1 g 8 then (cellsN g, 0) else (0, 91)) := by
 unfold sky_Cells sky_checkGrid sky_grid_isValid
 rw [sFrom_eq, bnd_eq, bnd_eq]
 cases h : inR 1 g 8 with
 | false => rfl
 | true =>
  unfold sky_grid_cells
  have h2 := inR_iff.1 h
  have := cells_rng h
  unfold cellsN at this
  have e : w64 (6 * w64 (g * g)) = 6 * (g * g) := by
   rw [w64_id (n := g * g) (by omega) (by omega), w64_id (by omega) (by omega)]
  simp only [Bool.not_true, cond_false, bnd_eq, cond_true, e]
  rfl
/-- Valid alerts. -/
def befB (a : S_api_Alert) : Bool := bif a.Version == 1 then a.Before == 0 else inR 0 a.Before 2147483646
def plcB (a : S_api_Alert) : Bool := inR 1 a.Grid 8 && (incB (cellsN a.Grid) (-1) a.Cells && (a.Withdrawn == ((a.Cells.length : Int) == 0)))
def vldB (a : S_api_Alert) : Bool := nameB a.Event && (inR 1 a.Version 1000 && (inR 0 a.Time 1073741824 && ((inR 1 a.Chance.N a.Chance.Of && decide (a.Chance.Of ≤ 256)) && (plcB a && befB a))))
theorem isChance_eq (F : Nat) (c : S_api_Chance) : alert_isChance F c = some (inR 1 c.N c.Of && decide (c.Of ≤ 256)) := by
 unfold alert_isChance alert_isChance_1
 rw [isFrom_eq, bnd_eq]
 cases inR 1 c.N c.Of <;> rfl
theorem isBefore_eq (F : Nat) (a : S_api_Alert) : alert_isBefore F a = some (befB a) := by
 unfold alert_isBefore befB
 rw [isFrom_eq, bnd_eq]
 cases a.Version == 1 <;> rfl
theorem isPlaced_eq (F : Nat) (a : S_api_Alert) (hl : a.Cells.length ≤ 9223372036854775807) (hF : a.Cells.length < F) : alert_isPlaced F a = some (plcB a) := by
 unfold alert_isPlaced plcB
 rw [skyCells_eq, bnd_eq]
 cases h : inR 1 a.Grid 8 with
 | false => rfl
 | true =>
  have := cells_rng h
  simp only [cond_true]
  rw [areCells_eq F _ (by omega) (by omega) _ hl hF, bnd_eq]
  unfold alert_isPlaced_1 alert_isPlaced_2
  cases incB (cellsN a.Grid) (-1) a.Cells <;> rfl
theorem isAlert_eq (F : Nat) (a : S_api_Alert) (hF0 : 20 < F) (hl : a.Cells.length ≤ 9223372036854775807) (hF : a.Cells.length < F) : alert_isAlert F a = some (vldB a) := by
 unfold alert_isAlert
 simp only [name_eq F hF0, isFrom_eq, bnd_eq, alert_isAlert_1, alert_isAlert_2, alert_isAlert_3, alert_isAlert_4, alert_isAlert_5, isChance_eq]
 have e : S_api_Alert.mk a.Event a.Version a.Time (S_api_Chance.mk a.Chance.N a.Chance.Of) a.Grid a.Cells a.Withdrawn a.Before = a := rfl
 rw [e, isPlaced_eq F a hl hF, isBefore_eq, bnd_eq, bnd_eq]
 unfold vldB
 cases nameB a.Event <;> cases inR 1 a.Version 1000 <;> cases inR 0 a.Time 1073741824 <;> cases (inR 1 a.Chance.N a.Chance.Of && decide (a.Chance.Of ≤ 256)) <;> cases plcB a <;> cases befB a <;> rfl
/-- The other side's cells. -/
def inc2 (n : Int) : Option Int → List Int → Bool
 | _, [] => true
 | none, x :: l => inR 0 x (n - 1) && inc2 n (some x) l
 | some lo, x :: l => (inR 0 x (n - 1) && decide (lo < x)) && inc2 n (some x) l
theorem inc2_eq (n : Int) : ∀ (l : List Int) (lo : Int), -1 ≤ lo → inc2 n (some lo) l = incB n lo l
 | [], _, _ => rfl
 | x :: l, lo, h => by
  rw [inc2, incB]
  have e : (inR 0 x (n - 1) && decide (lo < x)) = inR (lo + 1) x (n - 1) := by
   unfold inR
   by_cases h1 : lo < x
   ·rw [decide_eq_true h1, Bool.and_true, decide_eq_true (show (0 : Int) ≤ x by omega), decide_eq_true (show lo + 1 ≤ x by omega)]
   ·rw [decide_eq_false h1, decide_eq_false (show ¬ lo + 1 ≤ x by omega)]; simp
  rw [e]
  cases hr : inR (lo + 1) x (n - 1) with
  | false => rfl
  | true =>
   have := inR_iff.1 hr
   rw [inc2_eq n l x (by omega)]
theorem inc2_none (n : Int) (l : List Int) : inc2 n none l = incB n (-1) l := by
 cases l with
 | nil => rfl
 | cons x l =>
  rw [inc2, incB]
  show (inR 0 x (n - 1) && _) = (inR 0 x (n - 1) && _)
  cases hr : inR 0 x (n - 1) with
  | false => rfl
  | true =>
   have := inR_iff.1 hr
   rw [inc2_eq n l x (by omega)]
def prevO (l : List Int) : Nat → Option Int
 | 0 => none
 | i + 1 => l[i]?
theorem ca10 (F : Nat) (ev : List UInt8) (v t cn co g : Int) (l : List Int) (wd : Bool) (bf : Int) (hg : inR 1 g 8 = true) (hl : l.length ≤ 9223372036854775807) : ∀ (k N i : Nat), k = l.length - i → i ≤ l.length → k < N → ref10_CheckAlert_10 F N true i ev v t cn co g l wd bf = some (bif inc2 (cellsN g) (prevO l i) (l.drop i) then 0 else 101)
 | k, 0, i, _, _, h => by omega
 | 0, N + 1, i, hk, hi, _ => by
  rw [ref10_CheckAlert_10, bif_neg' (by omega), List.drop_of_length_le (by omega)]
  unfold ref10_CheckAlert_11
  cases prevO l i <;> rfl
 | k + 1, N + 1, i, hk, hi, hN => by
  obtain ⟨c, hc⟩ := get_lt (l := l) (i := i) (by omega)
  have hcr := cells_rng hg
  have hgg : 6 * g * g = cellsN g := by unfold cellsN; rw [Int.mul_assoc]
  have h8 := inR_iff.1 hg
  rw [ref10_CheckAlert_10, bif_pos' (by omega), ref10_CheckAlert_11, cond_true, idx_nat, hc, bnd_eq, rIn_eq, bnd_eq, w64_id (n := 6 * g) (by omega) (by omega), hgg, w64_id (n := cellsN g) (by omega) (by omega), w64_id (by omega) (by omega), drop_get hc]
  have hfalse : ∀ j : Int, ref10_CheckAlert_12 F (ref10_CheckAlert_10 F N) false j ev v t cn co g l wd bf = some 101 := by
   intro j
   unfold ref10_CheckAlert_12
   cases N with
   | zero => omega
   | succ N =>
    rw [ref10_CheckAlert_10]
    unfold ref10_CheckAlert_11
    cases decide (w64 (j + 1) < (l.length : Int)) <;> rfl
  have htrue : ref10_CheckAlert_12 F (ref10_CheckAlert_10 F N) true i ev v t cn co g l wd bf = some (bif inc2 (cellsN g) (some c) (l.drop (i + 1)) then 0 else 101) := by
   unfold ref10_CheckAlert_12
   rw [up (by omega), ca10 F ev v t cn co g l wd bf hg hl k N (i + 1) (by omega) (by omega) (by omega)]
   show _ = _
   rw [show prevO l (i + 1) = some c from hc]
  cases hr : inR 0 c (cellsN g - 1) with
  | false =>
   rw [cond_false, hfalse]
   cases i with
   | zero => simp [prevO, inc2, hr]
   | succ i =>
    obtain ⟨p, hp⟩ := get_lt (l := l) (i := i) (by omega)
    simp [prevO, hp, inc2, hr]
  | true =>
   rw [cond_true]
   cases i with
   | zero =>
    have e0 : (((0 : Nat) : Int) == 0) = true := rfl
    rw [e0, cond_true, htrue]
    simp [prevO, inc2, hr]
   | succ i =>
    obtain ⟨p, hp⟩ := get_lt (l := l) (i := i) (by omega)
    have e0 : (((i + 1 : Nat) : Int) == 0) = false := by rw [beq_eq_false_iff_ne]; omega
    have e1 : w64 (((i + 1 : Nat) : Int) - 1) = (i : Int) := by rw [w64_id (by omega) (by omega)]; omega
    rw [e0, cond_false, e1, idx_nat, hp, bnd_eq, bnd_eq]
    simp only [prevO, hp, inc2, hr, Bool.true_and]
    cases decide (p < c) with
    | false => rw [hfalse]; rfl
    | true => rw [htrue]; rfl
theorem ca10f (F : Nat) (ev : List UInt8) (v t cn co g : Int) (l : List Int) (wd : Bool) (bf : Int) (N : Nat) (hN : 0 < N) (i : Int) : ref10_CheckAlert_10 F N false i ev v t cn co g l wd bf = some 101 := by
 cases N with
 | zero => omega
 | succ N =>
  rw [ref10_CheckAlert_10]
  unfold ref10_CheckAlert_11
  cases decide (i < (l.length : Int)) <;> rfl
theorem check_eq (F : Nat) (a : S_api_Alert) (hF0 : 20 < F) (hl : a.Cells.length ≤ 9223372036854775807) (hF : a.Cells.length < F) : ref10_CheckAlert F a = some (bif vldB a then 0 else 101) := by
 unfold ref10_CheckAlert
 simp only [rName_eq F hF0, rIn_eq, bnd_eq, ref10_CheckAlert_1, ref10_CheckAlert_2, ref10_CheckAlert_3, ref10_CheckAlert_4, ref10_CheckAlert_5, ref10_CheckAlert_6, ref10_CheckAlert_7, ref10_CheckAlert_13, ref10_CheckAlert_8, ref10_CheckAlert_9]
 have hff := ca10f F a.Event a.Version a.Time a.Chance.N a.Chance.Of a.Grid a.Cells a.Withdrawn a.Before F (by omega) 0
 have e0 : ((0 : Nat) : Int) = 0 := rfl
 unfold vldB plcB befB
 rw [← inc2_none]
 cases hg : inR 1 a.Grid 8 with
 | false =>
  cases nameB a.Event <;> cases inR 1 a.Version 1000 <;> cases inR 0 a.Time 1073741824 <;> cases inR 1 a.Chance.N a.Chance.Of <;> cases decide (a.Chance.Of ≤ 256) <;> exact hff
 | true =>
  have hok := ca10 F a.Event a.Version a.Time a.Chance.N a.Chance.Of a.Grid a.Cells a.Withdrawn a.Before hg hl a.Cells.length F 0 rfl (by omega) hF
  have hok' : ref10_CheckAlert_10 F F true 0 a.Event a.Version a.Time a.Chance.N a.Chance.Of a.Grid a.Cells a.Withdrawn a.Before = some (bif inc2 (cellsN a.Grid) none a.Cells then 0 else 101) := hok
  clear hok
  generalize hok2 : inc2 (cellsN a.Grid) none a.Cells = q at *
  clear hok2
  generalize a.Withdrawn = wd at *
  cases hv : inR 1 a.Version 1000 with
  | false => cases nameB a.Event <;> cases inR 0 a.Time 1073741824 <;> cases inR 1 a.Chance.N a.Chance.Of <;> cases decide (a.Chance.Of ≤ 256) <;> exact hff
  | true =>
   have hv' := inR_iff.1 hv
   have hb : inR 0 a.Before 2147483646 = true ∨ inR 0 a.Before 2147483646 = false := by cases inR 0 a.Before 2147483646 <;> simp
   by_cases h1 : a.Version = 1
   ·have e1 : (a.Version == 1) = true := by simp [h1]
    have e2 : decide ((1 : Int) < a.Version) = false := decide_eq_false (by omega)
    rw [e1, e2]
    cases hz : a.Before == 0 with
    | false => cases nameB a.Event <;> cases inR 0 a.Time 1073741824 <;> cases inR 1 a.Chance.N a.Chance.Of <;> cases decide (a.Chance.Of ≤ 256) <;> cases inR 0 a.Before 2147483646 <;> cases q <;> cases hc : (wd == ((a.Cells.length : Int) == 0)) <;> exact hff
    | true =>
     have hz' : a.Before = 0 := by simpa using hz
     have e3 : inR 0 a.Before 2147483646 = true := by rw [hz']; rfl
     rw [e3]
     cases nameB a.Event <;> cases inR 0 a.Time 1073741824 <;> cases inR 1 a.Chance.N a.Chance.Of <;> cases decide (a.Chance.Of ≤ 256) <;> cases wd <;> cases ((a.Cells.length : Int) == 0) <;> cases q <;> first | exact hff | exact hok'
   ·have e1 : (a.Version == 1) = false := by simp [h1]
    have e2 : decide ((1 : Int) < a.Version) = true := decide_eq_true (by omega)
    rw [e1, e2]
    cases nameB a.Event <;> cases inR 0 a.Time 1073741824 <;> cases inR 1 a.Chance.N a.Chance.Of <;> cases decide (a.Chance.Of ≤ 256) <;> cases inR 0 a.Before 2147483646 <;> cases wd <;> cases ((a.Cells.length : Int) == 0) <;> cases q <;> first | exact hff | exact hok'
theorem alert_eta (a : S_api_Alert) : S_api_Alert.mk a.Event a.Version a.Time (S_api_Chance.mk a.Chance.N a.Chance.Of) a.Grid a.Cells a.Withdrawn a.Before = a := rfl
end Go.Ev.AlertBoards
