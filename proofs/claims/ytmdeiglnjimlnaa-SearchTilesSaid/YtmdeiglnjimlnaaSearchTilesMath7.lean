/- Bursts: the ring of squares. -/
import Derived.Test.YtmdeiglnjimlnaaSearchTilesMath6
namespace Go.Ev.SearchTiles
open Go Go.Ev Go.Proofs
set_option linter.unusedVariables false
/-- The sum of the first squares. -/
def sq (x : List Int) : Nat → Int
  | 0 => 0
  | n + 1 => sq x n + (x[n]?.getD 0) * (x[n]?.getD 0)
def small (x : List Int) : Prop := ∀ n : Nat, -16384 ≤ x[n]?.getD 0 ∧ x[n]?.getD 0 ≤ 16384
theorem small_of {x : List Int} (h : ∀ a ∈ x, -16384 ≤ a ∧ a ≤ 16384) : small x := by
  intro n
  cases e : x[n]? with
  | none => exact ⟨by decide, by decide⟩
  | some a => exact h a (List.mem_of_getElem? e)
theorem sqb {a : Int} (h : -16384 ≤ a ∧ a ≤ 16384) : 0 ≤ a * a ∧ a * a ≤ 268435456 := by
  have h1 : a.natAbs ≤ 16384 := by omega
  have h2 : a * a = ((a.natAbs * a.natAbs : Nat) : Int) := Int.natAbs_mul_self.symm
  have h3 : a.natAbs * a.natAbs ≤ 16384 * 16384 := Nat.mul_le_mul h1 h1
  omega
theorem sq_step {x : List Int} (hx : small x) (n : Nat) : sq x n ≤ sq x (n + 1) ∧ sq x (n + 1) ≤ sq x n + 268435456 := by
  have := sqb (hx n)
  rw [sq]
  omega
theorem sq_bound {x : List Int} (hx : small x) : ∀ n : Nat, 0 ≤ sq x n ∧ sq x n ≤ (n : Int) * 268435456
  | 0 => ⟨Int.le_refl _, by simp [sq]⟩
  | n + 1 => by
    have h1 := sq_bound hx n
    have h2 := sq_step hx n
    have h3 : ((n + 1 : Nat) : Int) * 268435456 = (n : Int) * 268435456 + 268435456 := by rw [Int.natCast_add, Int.add_mul]; rfl
    omega
theorem sq_mono {x : List Int} (hx : small x) (n : Nat) : ∀ k : Nat, sq x n ≤ sq x (n + k)
  | 0 => Int.le_refl _
  | k + 1 => Int.le_trans (sq_mono hx n k) (sq_step hx (n + k)).1
def pw (x : List Int) (w t : Nat) : Int := sq x (t + w) - sq x t
def stepB (w : Nat) (thr : Int) (acc : List S_api_Burst) (t : Nat) (p : Int) : List S_api_Burst :=
  if p < thr then acc else match acc[acc.length - 1]? with
    | some b => if (t : Int) ≤ b.To then acc.set (acc.length - 1) ⟨b.From, ((t + w : Nat) : Int), max b.Peak p⟩ else acc ++ [⟨t, ((t + w : Nat) : Int), p⟩]
    | none => acc ++ [⟨t, ((t + w : Nat) : Int), p⟩]
def brs (x : List Int) (w : Nat) (thr : Int) : Nat → Nat → List S_api_Burst → List S_api_Burst
  | 0, _, acc => acc
  | k + 1, t, acc => brs x w thr k (t + 1) (stepB w thr acc t (pw x w t))
theorem stepB_len (w : Nat) (thr : Int) (acc : List S_api_Burst) (t : Nat) (p : Int) : (stepB w thr acc t p).length ≤ acc.length + 1 := by
  unfold stepB
  split
  · omega
  · split
    · split
      · rw [List.length_set]; omega
      · simp
    · simp
theorem brs_len (x : List Int) (w : Nat) (thr : Int) : ∀ (k t : Nat) (acc : List S_api_Burst), (brs x w thr k t acc).length ≤ acc.length + k
  | 0, t, acc => Nat.le_refl _
  | k + 1, t, acc => by
    have h1 := brs_len x w thr k (t + 1) (stepB w thr acc t (pw x w t))
    have h2 := stepB_len w thr acc t (pw x w t)
    rw [brs]
    omega
/-- The ring after i samples. -/
structure Ring (x : List Int) (w i : Nat) (R : List Int) : Prop where
  len : R.length = 1027
  size : R[1024]? = some (w : Int)
  next : R[1025]? = some ((i % w : Nat) : Int)
  power : R[1026]? = some (sq x i - sq x (i - w))
  old : ∀ t, t < i → i ≤ t + w → R[t % w]? = some ((x[t]?.getD 0) * (x[t]?.getD 0))
  new : ∀ j, j < w → i ≤ j → R[j]? = some 0
theorem ring0 (x : List Int) (w : Nat) (hw : 1 ≤ w ∧ w ≤ 1024) : Ring x w 0 ((List.replicate 1027 (0 : Int)).set 1024 (w : Int)) := by
  refine ⟨by rw [List.length_set, List.length_replicate], List.getElem?_set_self (by rw [List.length_replicate]; omega), ?_, ?_, fun t h _ => by omega, fun j h _ => ?_⟩
  · rw [List.getElem?_set_ne (by omega), List.getElem?_replicate, if_pos (by omega), Nat.zero_mod]
    rfl
  · rw [List.getElem?_set_ne (by omega), List.getElem?_replicate, if_pos (by omega), Nat.zero_sub, Int.sub_self]
  · rw [List.getElem?_set_ne (by omega), List.getElem?_replicate, if_pos (by omega)]
theorem mod_ne {w i t : Nat} (hw : 0 < w) (h1 : t < i) (h2 : i < t + w) : t % w ≠ i % w := by
  intro h
  have h3 : (i - t) % w = 0 := by
    rw [show i = t + (i - t) by omega, Nat.add_mod] at h
    have e1 := Nat.mod_lt t hw
    have e2 : (i - t) % w = i - t := Nat.mod_eq_of_lt (by omega)
    rw [e2] at h
    by_cases h4 : t % w + (i - t) < w
    · rw [Nat.mod_eq_of_lt h4] at h; omega
    · have : (t % w + (i - t)) % w = t % w + (i - t) - w := by
        rw [Nat.mod_eq_sub_mod (by omega), Nat.mod_eq_of_lt (by omega)]
      omega
  rw [Nat.mod_eq_of_lt (by omega)] at h3
  omega
theorem mod_up {w i : Nat} (hw : 0 < w) : (i % w + 1) % w = (i + 1) % w := by
  rw [Nat.add_mod i 1 w, Nat.add_mod (i % w) 1 w, Nat.mod_mod]
theorem ring_step {x : List Int} {w i : Nat} {R : List Int} (hw : 1 ≤ w ∧ w ≤ 1024) (h : Ring x w i R) {v : Int} (hv : x[i]? = some v) :
    ∃ q, R[i % w]? = some q ∧ sq x i - sq x (i - w) + (v * v - q) = sq x (i + 1) - sq x (i + 1 - w) ∧ 0 ≤ q ∧
      Ring x w (i + 1) (((R.set 1026 (sq x (i + 1) - sq x (i + 1 - w))).set (i % w) (v * v)).set 1025 (((i + 1) % w : Nat) : Int)) := by
  have hml := Nat.mod_lt i (show 0 < w by omega)
  have hg : x[i]?.getD 0 = v := by rw [hv]; rfl
  have hlen := h.len
  refine ⟨if i < w then 0 else (x[i - w]?.getD 0) * (x[i - w]?.getD 0), ?_, ?_, ?_, ?_⟩
  · by_cases hi : i < w
    · rw [if_pos hi, Nat.mod_eq_of_lt hi]
      exact h.new i hi (Nat.le_refl _)
    · rw [if_neg hi]
      have := h.old (i - w) (by omega) (by omega)
      rw [← Nat.mod_eq_sub_mod (by omega)] at this
      exact this
  · rw [sq, hg]
    by_cases hi : i < w
    · rw [if_pos hi, show i - w = 0 by omega, show i + 1 - w = 0 by omega]
      omega
    · rw [if_neg hi, show i + 1 - w = i - w + 1 by omega, sq]
      omega
  · by_cases hi : i < w
    · rw [if_pos hi]; exact Int.le_refl _
    · rw [if_neg hi]
      have : (x[i - w]?.getD 0) * (x[i - w]?.getD 0) = (((x[i - w]?.getD 0).natAbs * (x[i - w]?.getD 0).natAbs : Nat) : Int) := Int.natAbs_mul_self.symm
      omega
  · refine ⟨by simp [hlen], ?_, ?_, ?_, fun t h1 h2 => ?_, fun j h1 h2 => ?_⟩
    · rw [List.getElem?_set_ne (by omega), List.getElem?_set_ne (by omega), List.getElem?_set_ne (by omega)]
      exact h.size
    · rw [List.getElem?_set_self (by simp [hlen])]
    · rw [List.getElem?_set_ne (by omega), List.getElem?_set_ne (by omega), List.getElem?_set_self (by omega)]
    · have ht := Nat.mod_lt t (show 0 < w by omega)
      rw [List.getElem?_set_ne (by omega)]
      by_cases hti : t = i
      · subst hti
        rw [List.getElem?_set_self (by simp; omega), hg]
      · have := mod_ne (show 0 < w by omega) (show t < i by omega) (show i < t + w by omega)
        rw [List.getElem?_set_ne (by omega), List.getElem?_set_ne (by omega)]
        exact h.old t (by omega) (by omega)
    · have hiw : i % w = i := Nat.mod_eq_of_lt (by omega)
      rw [List.getElem?_set_ne (by omega), List.getElem?_set_ne (by omega), List.getElem?_set_ne (by omega)]
      exact h.new j h1 (by omega)
end Go.Ev.SearchTiles
