/- Networks. -/
import Derived.Test.YtkmmplbbefijaaaGreatDoorSkyRingsMath3
namespace Go.Ev.SkyRings
open Go Go.Ev Go.Proofs
set_option linter.unusedVariables false
/-- Is a character one of a name, at a place? -/
def charB (i c : Int) : Bool := (decide (97 ≤ c) && decide (c ≤ 122)) || ((decide (48 ≤ c) && decide (c ≤ 57) || c == 95) && decide (0 < i))
def charsB : List Int → Int → Bool
  | [], _ => true
  | c :: r, i => charB i c && charsB r (i + 1)
def nameB (s : List UInt8) : Bool := decide (1 ≤ s.length) && (decide (s.length ≤ 16) && charsB (bytesI s) 0)
theorem nm3 (F : Nat) (hd : List Int → Int → Int → Option Bool) (c : Int) (l : List Int) (n i : Int) (lt : Bool) : num_IsName_3 F hd i c l n i lt = bif lt || ((decide (48 ≤ c) && decide (c ≤ 57) || c == 95) && decide (0 < i)) then hd l n (w64 (i + 1)) else some false := by
  unfold num_IsName_3 num_IsName_4 num_IsName_5 num_IsName_6 num_IsName_8 num_IsName_7
  cases lt <;> cases decide (48 ≤ c) <;> cases decide (c ≤ 57) <;> cases c == 95 <;> cases decide (0 < i) <;> rfl
theorem nm2 (F : Nat) (l : List Int) (hl : l.length ≤ 1000) : ∀ (k N i : Nat), k = l.length - i → i ≤ l.length → k < N → num_IsName_2 F N l l.length i = some (charsB (l.drop i) i)
  | k, 0, i, _, _, h => by omega
  | 0, N + 1, i, hk, hi, _ => by
    rw [num_IsName_2, bif_neg' (by omega), List.drop_of_length_le (by omega)]
    rfl
  | k + 1, N + 1, i, hk, hi, hN => by
    obtain ⟨c, hc⟩ := get_lt (l := l) (i := i) (by omega)
    rw [num_IsName_2, bif_pos' (by omega), idx_nat, hc, bnd_eq, nm3, nm3, up (by omega), nm2 F l hl k N (i + 1) (by omega) (by omega) (by omega), drop_get hc]
    show _ = some (charB i c && charsB (l.drop (i + 1)) ((i : Int) + 1))
    unfold charB
    rw [show ((i + 1 : Nat) : Int) = (i : Int) + 1 by omega]
    generalize charsB (l.drop (i + 1)) ((i : Int) + 1) = r
    cases decide (97 ≤ c) <;> cases decide (c ≤ 122) <;> cases ((decide (48 ≤ c) && decide (c ≤ 57) || c == 95) && decide (0 < (i : Int))) <;> rfl
theorem name_eq (F : Nat) (hF : 20 < F) (s : List UInt8) : num_IsName F s = some (nameB s) := by
  unfold num_IsName nameB num_IsName_1
  by_cases h0 : s.length = 0
  · have e : s = [] := List.length_eq_zero_iff.1 h0
    subst e
    rfl
  · have e0 : ((s.length : Int) == (0 : Int)) = false := by rw [beq_eq_false_iff_ne]; omega
    rw [e0, bif_f', decide_eq_true (show 1 ≤ s.length by omega), Bool.true_and]
    by_cases h1 : s.length ≤ 16
    · rw [bif_neg' (by omega), decide_eq_true h1, Bool.true_and]
      have hb : byt s = some (bytesI s) := by
        unfold byt
        rw [Nat.ble_eq_true_of_le (by omega)]
        rfl
      have := nm2 F (bytesI s) (by rw [bytesI_len]; omega) (bytesI s).length F 0 rfl (by omega) (by rw [bytesI_len]; omega)
      rw [hb, bnd_eq]
      exact this
    · rw [bif_pos' (by omega), decide_eq_false h1]
      rfl
def armB (v : S__3_int) : Bool := inV 100 v && !isZ v
def siteB (x : S_api_Site) : Bool := inV 65536 x.Place && (armB x.ArmU && armB x.ArmV)
def netGo : List S_api_Site → List (List UInt8 × Bool) → Bool
  | [], _ => true
  | x :: r, m => (nameB x.Name && (!(mget eqB false m x.Name) && siteB x)) && netGo r (mput eqB m x.Name true)
def netB (l : List S_api_Site) : Bool := inR 2 l.length 6 && netGo l []
theorem arm_eq (F : Nat) (hF : 20 < F) (v : S__3_int) : sky_isArm F v = some (armB v) := by
  unfold sky_isArm sky_isArm_1 armB sky_vector_isNone
  rw [isWithin_eq F (by omega) v 100 (by omega), bnd_eq]
  cases inV 100 v <;> rfl
theorem net2 (F : Nat) (hF : 20 < F) (hd : List S_api_Site → Int → Int → List (List UInt8 × Bool) → Option Bool) (l : List S_api_Site) (n i : Int) (x : S_api_Site) (m : List (List UInt8 × Bool)) (b : Bool) :
    sky_isNet_2 F hd x.Name l n i b x m = bif !b && siteB x then hd l n (w64 (i + 1)) (mput eqB m x.Name true) else some false := by
  unfold sky_isNet_2 sky_isNet_4 sky_isNet_5 sky_isNet_3 siteB
  cases b with
  | true => rfl
  | false =>
    rw [bif_f', isWithin_eq F (by omega) x.Place 65536 (by omega), bnd_eq]
    cases inV 65536 x.Place with
    | false => rfl
    | true =>
      rw [bif_t', arm_eq F hF, bnd_eq]
      cases armB x.ArmU with
      | false => rfl
      | true =>
        rw [bif_t', arm_eq F hF, bnd_eq]
        cases armB x.ArmV <;> rfl
theorem net1 (F : Nat) (hF : 20 < F) (l : List S_api_Site) (hl : l.length ≤ 1000) : ∀ (k N i : Nat) (m : List (List UInt8 × Bool)), k = l.length - i → i ≤ l.length → k < N → sky_isNet_1 F N l l.length i m = some (netGo (l.drop i) m)
  | k, 0, i, m, _, _, h => by omega
  | 0, N + 1, i, m, hk, hi, _ => by
    rw [sky_isNet_1, bif_neg' (by omega), List.drop_of_length_le (by omega)]
    rfl
  | k + 1, N + 1, i, m, hk, hi, hN => by
    obtain ⟨x, hx⟩ := get_lt (l := l) (i := i) (by omega)
    rw [sky_isNet_1, bif_pos' (by omega), idx_nat, hx, bnd_eq, name_eq F hF, bnd_eq, net2 F hF, net2 F hF, up (by omega), net1 F hF l hl k N (i + 1) _ (by omega) (by omega) (by omega), drop_get hx]
    show _ = some ((nameB x.Name && (!(mget eqB false m x.Name) && siteB x)) && netGo (l.drop (i + 1)) (mput eqB m x.Name true))
    cases nameB x.Name <;> cases mget eqB false m x.Name <;> cases siteB x <;> rfl
theorem net_eq (F : Nat) (hF : 20 < F) (l : List S_api_Site) (hl : l.length ≤ 9223372036854775807) : sky_isNet F l = some (netB l) := by
  unfold sky_isNet netB
  rw [isFrom_eq, bnd_eq]
  cases e : inR 2 (l.length : Int) 6 with
  | false => rfl
  | true =>
    have := inR_iff.1 e
    exact net1 F hF l (by omega) l.length F 0 [] rfl (by omega) (by omega)
theorem CheckNet_eq (F : Nat) (hF : 20 < F) (l : List S_api_Site) (hl : l.length ≤ 9223372036854775807) : sky_CheckNet F l = some (bif netB l then 0 else 90) := by
  unfold sky_CheckNet
  rw [net_eq F hF l hl, bnd_eq]
  cases netB l <;> rfl
theorem netGo_sites : ∀ (l : List S_api_Site) (m : List (List UInt8 × Bool)), netGo l m = true → ∀ x ∈ l, siteB x = true
  | [], _, _, x, hx => by cases hx
  | y :: r, m, h, x, hx => by
    unfold netGo at h
    simp only [Bool.and_eq_true] at h
    rcases List.mem_cons.1 hx with rfl | hx
    · exact h.1.2.2
    · exact netGo_sites r _ h.2 x hx
theorem net_is {l : List S_api_Site} (h : netB l = true) : (2 ≤ l.length ∧ l.length ≤ 6) ∧ ∀ x ∈ l, inV 65536 x.Place = true := by
  unfold netB at h
  rw [Bool.and_eq_true] at h
  have h1 := inR_iff.1 h.1
  refine ⟨by omega, fun x hx => ?_⟩
  have := netGo_sites l [] h.2 x hx
  unfold siteB at this
  rw [Bool.and_eq_true] at this
  exact this.1
theorem checkNetGrid_eq (F : Nat) (hF : 20 < F) (l : List S_api_Site) (hl : l.length ≤ 9223372036854775807) (n : Int) : sky_checkNetGrid F l n = some (bif netB l then (bif inR 1 n 8 then 0 else 91) else 90) := by
  unfold sky_checkNetGrid
  rw [CheckNet_eq F hF l hl, bnd_eq]
  cases netB l with
  | false => rfl
  | true => rw [bif_t', bif_t', checkGrid_eq, bnd_eq]; rfl
def siteOf (x : S_api_Site) : S_sky_site := ⟨x.Place, x.ArmU, x.ArmV⟩
theorem sites1 (F : Nat) (l : List S_api_Site) (hl : l.length ≤ 1000) : ∀ (k N i : Nat) (acc : List S_sky_site), k = l.length - i → i ≤ l.length → k < N → acc.length = i → sky_sitesOf_1 F N l l.length i acc = some (acc ++ (l.drop i).map siteOf)
  | k, 0, i, acc, _, _, h, _ => by omega
  | 0, N + 1, i, acc, hk, hi, _, _ => by
    rw [sky_sitesOf_1, bif_neg' (by omega), List.drop_of_length_le (by omega)]
    simp
  | k + 1, N + 1, i, acc, hk, hi, hN, ha => by
    obtain ⟨x, hx⟩ := get_lt (l := l) (i := i) (by omega)
    have e : apd 72 acc [S_sky_site.mk x.Place x.ArmU x.ArmV] = some (acc ++ [siteOf x]) := by
      unfold apd
      rw [show Nat.ble (acc.length + [S_sky_site.mk x.Place x.ArmU x.ArmV].length) 4611686018427387904 = true from Nat.ble_eq_true_of_le (by simp; omega), show Nat.ble (2 * (acc.length + [S_sky_site.mk x.Place x.ArmU x.ArmV].length) * 72) 281474976710656 = true from Nat.ble_eq_true_of_le (by simp; omega)]
      rfl
    rw [sky_sitesOf_1, bif_pos' (by omega), idx_nat, hx, bnd_eq, e, bnd_eq, up (by omega), sites1 F l hl k N (i + 1) _ (by omega) (by omega) (by omega) (by simp; omega), drop_get hx]
    simp
theorem sitesOf_eq (F : Nat) (l : List S_api_Site) (hl : l.length ≤ 1000) (hF : l.length < F) : sky_sitesOf F l = some (l.map siteOf) := by
  unfold sky_sitesOf
  exact sites1 F l hl l.length F 0 [] rfl (by omega) (by omega) rfl
end Go.Ev.SkyRings
