/- Waves as the program keeps them: samples, zeros, the length and the norm. -/
import Derived.Test.YtjddbfpinjjkkabGreatDoorBankSureMath2
namespace Go.Ev.BankSure
open Go Go.Ev Go.Proofs
set_option linter.unusedVariables false
theorem mul_in {a b x y : Int} (ha : -x ≤ a ∧ a ≤ x) (hb : -y ≤ b ∧ b ≤ y) (hx : 0 ≤ x) (hy : 0 ≤ y) : -(x * y) ≤ a * b ∧ a * b ≤ x * y := by
  have h1 : a.natAbs ≤ x.natAbs := by omega
  have h2 : b.natAbs ≤ y.natAbs := by omega
  have h3 : (a * b).natAbs ≤ (x * y).natAbs := by rw [Int.natAbs_mul, Int.natAbs_mul]; exact Nat.mul_le_mul h1 h2
  have h4 : 0 ≤ x * y := Int.mul_nonneg hx hy
  omega
def nrm (c : S_api_Chirp) (n : Nat) : Int := dot (wvL c n) (wvL c n)
def w64L (c : S_api_Chirp) (n : Nat) : List Int := wvL c n ++ List.replicate (64 - n) 0
def WV (c : S_api_Chirp) (n : Nat) : List Int := w64L c n ++ [(n : Int), nrm c n]
def WI (c : S_api_Chirp) (n i : Nat) : List Int := wvL c i ++ List.replicate (64 - i) 0 ++ [(n : Int), 0]
theorem w64L_len (c : S_api_Chirp) (n : Nat) (h : n ≤ 64) : (w64L c n).length = 64 := by
  unfold w64L
  rw [List.length_append, wvL_len, List.length_replicate]
  omega
theorem WV_len (c : S_api_Chirp) (n : Nat) (h : n ≤ 64) : (WV c n).length = 66 := by
  unfold WV
  rw [List.length_append, w64L_len c n h]
  rfl
theorem WI_len (c : S_api_Chirp) (n i : Nat) (h : i ≤ 64) : (WI c n i).length = 66 := by
  unfold WI
  rw [List.length_append, List.length_append, wvL_len, List.length_replicate]
  show _ + 2 = 66
  omega
theorem WI_64 (c : S_api_Chirp) (n i : Nat) (h : i ≤ 64) : (WI c n i)[64]? = some (n : Int) := by
  unfold WI
  rw [List.getElem?_append_right (by rw [List.length_append, wvL_len, List.length_replicate]; omega), List.length_append, wvL_len, List.length_replicate, show 64 - (i + (64 - i)) = 0 by omega]
  rfl
theorem WV_64 (c : S_api_Chirp) (n : Nat) (h : n ≤ 64) : (WV c n)[64]? = some (n : Int) := by
  unfold WV
  rw [List.getElem?_append_right (by rw [w64L_len c n h]; omega), w64L_len c n h]
  rfl
theorem WV_65 (c : S_api_Chirp) (n : Nat) (h : n ≤ 64) : (WV c n)[65]? = some (nrm c n) := by
  unfold WV
  rw [List.getElem?_append_right (by rw [w64L_len c n h]; omega), w64L_len c n h]
  rfl
theorem WI_take (c : S_api_Chirp) (n i : Nat) : (WI c n i).take i = wvL c i := by
  unfold WI
  rw [List.append_assoc, List.take_left' (wvL_len c i)]
theorem WV_take (c : S_api_Chirp) (n : Nat) : (WV c n).take n = wvL c n := by
  unfold WV w64L
  rw [List.append_assoc, List.take_left' (wvL_len c n)]
theorem WV_par (c : S_api_Chirp) (n : Nat) (h : n ≤ 64) : parL (WV c n) 0 64 = some (w64L c n) := by
  rw [parL_ok (by rw [WV_len c n h]; omega), List.drop_zero]
  unfold WV
  rw [List.take_left' (w64L_len c n h)]
theorem WI_set (c : S_api_Chirp) (n i : Nat) (h : i < 64) : upd (WI c n i) (((0 + i * 1 : Nat) : Int)) (wv c i) = some (WI c n (i + 1)) := by
  rw [upd_at (by rw [WI_len c n i (by omega)]; omega), show 0 + i * 1 = i by omega]
  congr 1
  unfold WI
  have e1 : List.replicate (64 - i) (0 : Int) = 0 :: List.replicate (64 - (i + 1)) 0 := by
    rw [show 64 - i = (64 - (i + 1)) + 1 by omega]
    rfl
  have e2 : wvL c (i + 1) = wvL c i ++ [wv c i] := by
    unfold wvL
    rw [List.range_succ, List.map_append]
    rfl
  rw [e1, e2, List.append_assoc, List.set_append_right _ _ (by rw [wvL_len]; omega), wvL_len, Nat.sub_self, List.append_assoc, List.append_assoc]
  rfl
theorem sq_le : ∀ h : List Int, (∀ x ∈ h, -127 ≤ x ∧ x ≤ 127) → 0 ≤ dot h h ∧ dot h h ≤ 16129 * h.length
  | [], _ => by simp [dot]
  | x :: r, h => by
    obtain ⟨a1, a2⟩ := sq_le r fun y hy => h y (List.mem_cons_of_mem _ hy)
    have hx := h x List.mem_cons_self
    have b1 : x.natAbs * x.natAbs ≤ 127 * 127 := Nat.mul_le_mul (by omega) (by omega)
    have b2 : x * x = ((x.natAbs * x.natAbs : Nat) : Int) := Int.natAbs_mul_self.symm
    rw [dot, b2, List.length_cons]
    omega
theorem wvL_in (c : S_api_Chirp) (n : Nat) : ∀ x ∈ wvL c n, -127 ≤ x ∧ x ≤ 127 := fun x hx => by
  unfold wvL at hx
  obtain ⟨i, _, rfl⟩ := List.mem_map.1 hx
  exact wv_in c i
theorem nrm_in (c : S_api_Chirp) (n : Nat) (h : n ≤ 64) : 0 ≤ nrm c n ∧ nrm c n ≤ 1032256 := by
  have := sq_le (wvL c n) (wvL_in c n)
  rw [wvL_len] at this
  unfold nrm
  omega
theorem WI_end (F : Nat) (hF : 70 < F) (c : S_api_Chirp) (n : Nat) (h : n ≤ 64) : bank_wave_samples F (WI c n n) = some (wvL c n) ∧ bank_product F (wvL c n) (wvL c n) = some (nrm c n) ∧ upd (WI c n n) ((65 : Nat) : Int) (nrm c n) = some (WV c n) := by
  have h1 := samples_eq F h (WI_len c n n h) (WI_64 c n n h)
  rw [WI_take] at h1
  have h2 := product_eq F (wvL c n) (wvL c n) (by rw [wvL_len]; omega) (by rw [wvL_len]; omega)
  have h3 := nrm_in c n h
  unfold nrm at h3
  rw [w64_id (by omega) (by omega)] at h2
  refine ⟨h1, h2, ?_⟩
  rw [upd_at (by rw [WI_len c n n h]; omega)]
  congr 1
  unfold WI WV w64L
  rw [List.set_append_right _ _ (by rw [List.length_append, wvL_len, List.length_replicate]; omega), List.length_append, wvL_len, List.length_replicate, show 65 - (n + (64 - n)) = 1 by omega]
  rfl
theorem WV_samplesH (F : Nat) (c : S_api_Chirp) (n : Nat) (h : n ≤ 64) : bank_wave_samples_h1 F (WV c n) = some (wvL c n) := by
  have := samplesH_eq F h (WV_len c n h) (WV_64 c n h)
  rw [WV_take] at this
  exact this
def silB (c : S_api_Chirp) (n : Nat) : Bool := decide (w64L c n = List.replicate 64 (0 : Int))
theorem silent_eq (F : Nat) (c : S_api_Chirp) (n : Nat) (h : n ≤ 64) : bank_wave_isSilent F (WV c n) = some (silB c n) := by
  unfold bank_wave_isSilent
  rw [WV_par c n h, bnd_eq]
  rfl
def absS : List Int → Int
  | [] => 0
  | x :: r => max x (-x) + absS r
theorem absS_app : ∀ a b : List Int, absS (a ++ b) = absS a + absS b
  | [], b => by simp [absS]
  | x :: r, b => by rw [List.cons_append, absS, absS, absS_app r b]; omega
theorem absS_zero : ∀ k, absS (List.replicate k 0) = 0
  | 0 => rfl
  | k + 1 => by rw [List.replicate_succ, absS, absS_zero k]; rfl
theorem absS_in : ∀ h : List Int, (∀ x ∈ h, -127 ≤ x ∧ x ≤ 127) → 0 ≤ absS h ∧ absS h ≤ 127 * h.length
  | [], _ => by simp [absS]
  | x :: r, h => by
    obtain ⟨a1, a2⟩ := absS_in r fun y hy => h y (List.mem_cons_of_mem _ hy)
    have hx := h x List.mem_cons_self
    rw [absS, List.length_cons]
    omega
theorem dot_noise (b : Int) (hb : 0 ≤ b) : ∀ h y : List Int, (∀ x ∈ y, -b ≤ x ∧ x ≤ b) → -(b * absS h) ≤ dot h y
  | [], y, _ => by simp [dot, absS]
  | x :: r, [], _ => by
    rw [dot, absS]
    have h1 : 0 ≤ absS r := by
      have key : ∀ l : List Int, 0 ≤ absS l := fun l => by
        induction l with
        | nil => simp [absS]
        | cons z q ih => rw [absS]; omega
      exact key r
    have h2 : 0 ≤ max x (-x) := by omega
    have := Int.mul_nonneg hb (show 0 ≤ max x (-x) + absS r by omega)
    omega
    all_goals simp
  | x :: r, z :: y, h => by
    have ih := dot_noise b hb r y fun q hq => h q (List.mem_cons_of_mem _ hq)
    have hz := h z List.mem_cons_self
    have m := mul_in (a := x) (b := z) (x := max x (-x)) (y := b) (by omega) hz (by omega) hb
    rw [dot, absS, Int.mul_add, Int.mul_comm b (max x (-x))]
    omega
end Go.Ev.BankSure
