/- Alerts: which are valid, on both sides. -/
import Derived.Test.YtoobfmfgbcohcaaDoorAlertChainMath1
namespace Go.Ev.AlertChain
open Go Go.Ev Go.Proofs
set_option linter.unusedVariables false
theorem isFrom_eq (F : Nat) (a b c : Int) : alert_isFrom F a b c = some (inR a b c) := by
  unfold alert_isFrom alert_isFrom_1 inR
  cases decide (a ≤ b) <;> rfl
theorem sFrom_eq (F : Nat) (a b c : Int) : sky_isFrom F a b c = some (inR a b c) := by
  unfold sky_isFrom sky_isFrom_1 inR
  cases decide (a ≤ b) <;> rfl
def incB (n : Int) : Int → List Int → Bool
  | _, [] => true
  | lo, x :: l => inR (lo + 1) x (n - 1) && incB n x l
theorem ac1 (F : Nat) (n : Int) (hn : 0 ≤ n) (hn1 : n ≤ 1000) (l : List Int) (hl : l.length ≤ 9223372036854775807) : ∀ (k N i : Nat) (lo : Int), k = l.length - i → i ≤ l.length → k < N → -1 ≤ lo → lo ≤ n → alert_areCells_1 F N n lo l l.length i = some (incB n lo (l.drop i))
  | k, 0, i, _, _, _, h, _, _ => by omega
  | 0, N + 1, i, lo, hk, hi, _, h1, h2 => by
    rw [alert_areCells_1, bif_neg' (by omega), List.drop_of_length_le (by omega)]
    rfl
  | k + 1, N + 1, i, lo, hk, hi, hN, h1, h2 => by
    obtain ⟨c, hc⟩ := get_lt (l := l) (i := i) (by omega)
    rw [alert_areCells_1, bif_pos' (by omega), idx_nat, hc, bnd_eq, isFrom_eq, bnd_eq, w64_id (by omega) (by omega), w64_id (n := n - 1) (by omega) (by omega), drop_get hc, incB]
    cases hr : inR (lo + 1) c (n - 1) with
    | false => rfl
    | true =>
      have := inR_iff.1 hr
      rw [up (by omega)]
      simp only [Bool.not_true, cond_false, Bool.true_and]
      exact ac1 F n hn hn1 l hl k N (i + 1) c (by omega) (by omega) (by omega) (by omega) (by omega)
theorem areCells_eq (F : Nat) (n : Int) (hn : 0 ≤ n) (hn1 : n ≤ 1000) (l : List Int) (hl : l.length ≤ 9223372036854775807) (hF : l.length < F) : alert_areCells F n l = some (incB n (-1) l) := by
  unfold alert_areCells
  exact ac1 F n hn hn1 l hl l.length F 0 (-1) rfl (by omega) hF (by omega) (by omega)
def cellsN (g : Int) : Int := 6 * (g * g)
theorem cells_rng {g : Int} (h : inR 1 g 8 = true) : 6 ≤ cellsN g ∧ cellsN g ≤ 384 := by
  have := inR_iff.1 h
  have hg : g = 1 ∨ g = 2 ∨ g = 3 ∨ g = 4 ∨ g = 5 ∨ g = 6 ∨ g = 7 ∨ g = 8 := by omega
  rcases hg with rfl | rfl | rfl | rfl | rfl | rfl | rfl | rfl <;> simp [cellsN]
theorem skyCells_eq (F : Nat) (g : Int) : sky_Cells F g = some (bif inR 1 g 8 then (cellsN g, 0) else (0, 91)) := by
  unfold sky_Cells sky_checkGrid sky_grid_isValid
  rw [sFrom_eq, bnd_eq, bnd_eq]
  cases h : inR 1 g 8 with
  | false => rfl
  | true =>
    unfold sky_grid_cells
    have h2 := inR_iff.1 h
    have := cells_rng h
    unfold cellsN at this
    have e : w64 (6 * w64 (g * g)) = 6 * (g * g) := by
      rw [w64_id (n := g * g) (by omega) (by omega), w64_id (by omega) (by omega)]
    simp only [Bool.not_true, cond_false, bnd_eq, cond_true, e]
    rfl
def befB (a : S_api_Alert) : Bool := bif a.Version == 1 then a.Before == 0 else inR 0 a.Before 2147483646
def plcB (a : S_api_Alert) : Bool := inR 1 a.Grid 8 && (incB (cellsN a.Grid) (-1) a.Cells && (a.Withdrawn == ((a.Cells.length : Int) == 0)))
def vldB (a : S_api_Alert) : Bool := nameB a.Event && (inR 1 a.Version 1000 && (inR 0 a.Time 1073741824 && ((inR 1 a.Chance.N a.Chance.Of && decide (a.Chance.Of ≤ 256)) && (plcB a && befB a))))
theorem isChance_eq (F : Nat) (c : S_api_Chance) : alert_isChance F c = some (inR 1 c.N c.Of && decide (c.Of ≤ 256)) := by
  unfold alert_isChance alert_isChance_1
  rw [isFrom_eq, bnd_eq]
  cases inR 1 c.N c.Of <;> rfl
theorem isBefore_eq (F : Nat) (a : S_api_Alert) : alert_isBefore F a = some (befB a) := by
  unfold alert_isBefore befB
  rw [isFrom_eq, bnd_eq]
  cases a.Version == 1 <;> rfl
theorem isPlaced_eq (F : Nat) (a : S_api_Alert) (hl : a.Cells.length ≤ 9223372036854775807) (hF : a.Cells.length < F) : alert_isPlaced F a = some (plcB a) := by
  unfold alert_isPlaced plcB
  rw [skyCells_eq, bnd_eq]
  cases h : inR 1 a.Grid 8 with
  | false => rfl
  | true =>
    have := cells_rng h
    simp only [cond_true]
    rw [areCells_eq F _ (by omega) (by omega) _ hl hF, bnd_eq]
    unfold alert_isPlaced_1 alert_isPlaced_2
    cases incB (cellsN a.Grid) (-1) a.Cells <;> rfl
theorem isAlert_eq (F : Nat) (a : S_api_Alert) (hF0 : 20 < F) (hl : a.Cells.length ≤ 9223372036854775807) (hF : a.Cells.length < F) : alert_isAlert F a = some (vldB a) := by
  unfold alert_isAlert
  simp only [name_eq F hF0, isFrom_eq, bnd_eq, alert_isAlert_1, alert_isAlert_2, alert_isAlert_3, alert_isAlert_4, alert_isAlert_5, isChance_eq]
  have e : S_api_Alert.mk a.Event a.Version a.Time (S_api_Chance.mk a.Chance.N a.Chance.Of) a.Grid a.Cells a.Withdrawn a.Before = a := rfl
  rw [e, isPlaced_eq F a hl hF, isBefore_eq, bnd_eq, bnd_eq]
  unfold vldB
  cases nameB a.Event <;> cases inR 1 a.Version 1000 <;> cases inR 0 a.Time 1073741824 <;> cases (inR 1 a.Chance.N a.Chance.Of && decide (a.Chance.Of ≤ 256)) <;> cases plcB a <;> cases befB a <;> rfl
end Go.Ev.AlertChain
