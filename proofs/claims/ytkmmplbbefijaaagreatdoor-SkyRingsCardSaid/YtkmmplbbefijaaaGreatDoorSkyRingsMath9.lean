/- The specification's names and networks. -/
import Derived.Test.YtkmmplbbefijaaaGreatDoorSkyRingsMath8
namespace Go.Ev.SkyRings
open Go Go.Ev Go.Proofs
set_option linter.unusedVariables false
def letB (c : Int) : Bool := decide (97 ≤ c) && decide (c ≤ 122)
def othB (c : Int) : Bool := decide (48 ≤ c) && decide (c ≤ 57) || c == 95
theorem sAt_get {s : List UInt8} {i : Nat} {c : Int} (h : (bytesI s)[i]? = some c) : sAt s (i : Int) = some c := by
  unfold bytesI at h
  rw [List.getElem?_map] at h
  obtain ⟨b, hb, rfl⟩ := Option.map_eq_some_iff.1 h
  show (s[i]?).map _ = _
  rw [hb]
  rfl
theorem lt_not (a b : Int) : decide (a < b) = !decide (b ≤ a) := by
  by_cases h : b ≤ a
  · rw [decide_eq_false (by omega), decide_eq_true h]; rfl
  · rw [decide_eq_true (by omega), decide_eq_false h]; rfl
theorem rn5 (F : Nat) (hd : List UInt8 → Int → Option Bool) (s : List UInt8) (i c : Int) : (bif decide (c < 97) then ref01_IsName_5 F hd s i c true else ref01_IsName_5 F hd s i c (decide (122 < c))) = bif letB c || othB c then hd s (w64 (i + 1)) else some false := by
  unfold ref01_IsName_5 ref01_IsName_6 ref01_IsName_9 ref01_IsName_7 ref01_IsName_8 letB othB
  rw [lt_not c 97, lt_not 122 c, lt_not c 48, lt_not 57 c]
  cases decide (97 ≤ c) <;> cases decide (c ≤ 122) <;> cases decide (48 ≤ c) <;> cases decide (c ≤ 57) <;> cases c == 95 <;> rfl
theorem rn4 (F : Nat) (s : List UInt8) (hs : s.length ≤ 1000) : ∀ (k N i : Nat), k = s.length - i → i ≤ s.length → k < N → ref01_IsName_4 F N s i = some (((bytesI s).drop i).all fun c => letB c || othB c)
  | k, 0, i, _, _, h => by omega
  | 0, N + 1, i, hk, hi, _ => by
    rw [ref01_IsName_4, bif_neg' (by omega), List.drop_of_length_le (by rw [bytesI_len]; omega)]
    rfl
  | k + 1, N + 1, i, hk, hi, hN => by
    obtain ⟨c, hc⟩ := get_lt (l := bytesI s) (i := i) (by rw [bytesI_len]; omega)
    rw [ref01_IsName_4, bif_pos' (by omega), sAt_get hc, bnd_eq, rn5, up (by omega), rn4 F s hs k N (i + 1) (by omega) (by omega) (by omega), drop_get hc, List.all_cons]
    cases (letB c || othB c) <;> rfl
theorem charB_eq (i c : Int) : charB i c = (letB c || (othB c && decide (0 < i))) := rfl
theorem chars_pos : ∀ (l : List Int) (i : Int), 0 < i → charsB l i = l.all fun c => letB c || othB c
  | [], i, _ => rfl
  | c :: r, i, h => by
    show (charB i c && charsB r (i + 1)) = _
    rw [chars_pos r (i + 1) (by omega), charB_eq, decide_eq_true h, Bool.and_true, List.all_cons]
theorem rname_eq (F : Nat) (hF : 20 < F) (s : List UInt8) : ref01_IsName F s = some (nameB s) := by
  unfold ref01_IsName nameB ref01_IsName_1 ref01_IsName_2 ref01_IsName_3
  by_cases h0 : s.length = 0
  · have e : s = [] := List.length_eq_zero_iff.1 h0
    subst e
    rfl
  · rw [bif_neg' (by omega), decide_eq_true (show 1 ≤ s.length by omega), Bool.true_and]
    by_cases h1 : s.length ≤ 16
    · obtain ⟨c, hc⟩ := get_lt (l := bytesI s) (i := 0) (by rw [bytesI_len]; omega)
      have hs0 : sAt s (0 : Int) = some c := sAt_get (i := 0) hc
      have hb : bytesI s = c :: (bytesI s).drop 1 := by
        have := drop_get hc
        rwa [List.drop_zero] at this
      have h4 := rn4 F s (by omega) s.length F 0 rfl (by omega) (by omega)
      rw [List.drop_zero] at h4
      have h4' : ref01_IsName_4 F F s (0 : Int) = _ := h4
      have e : charsB (bytesI s) 0 = (letB c && (bytesI s).all fun c => letB c || othB c) := by
        rw [hb]
        show (charB 0 c && charsB _ (0 + 1)) = _
        rw [chars_pos _ (0 + 1) (by omega), charB_eq, decide_eq_false (by omega), Bool.and_false, Bool.or_false, List.all_cons]
        cases letB c <;> simp
      rw [decide_eq_false (by omega), decide_eq_true h1, Bool.true_and, e, hs0, bnd_eq, bnd_eq, h4', lt_not c 97, lt_not 122 c]
      unfold letB
      cases decide (97 ≤ c) <;> cases decide (c ≤ 122) <;> rfl
    · rw [decide_eq_true (by omega), decide_eq_false h1]
      rfl
theorem rvector_eq (F : Nat) (v : S__3_int) (m : Int) (hm : 0 ≤ m ∧ m ≤ 4611686018427387904) : ref09_vector F v m = some (inV m v) := by
  have e : w64 (-m) = -m := w64_id (by omega) (by omega)
  unfold ref09_vector ref09_vector_1 ref09_vector_2 inV
  rw [e, In_eq, bnd_eq]
  cases inR (-m) v.e0 m with
  | false => rfl
  | true =>
    rw [bif_t', In_eq, bnd_eq]
    cases inR (-m) v.e1 m with
    | false => rfl
    | true => rw [bif_t', In_eq, bnd_eq]; rfl
def newB (pre : List S_api_Site) (x : S_api_Site) : Bool := pre.all fun y => !(y.Name == x.Name)
theorem rn8 (F : Nat) (hd : List S_api_Site → Bool → Int → Option Int) (l : List S_api_Site) (i : Nat) (hi : i < l.length) (hl : l.length ≤ 9223372036854775807) (x : S_api_Site) : ∀ (k N j : Nat) (ok : Bool), k = i - j → j ≤ i → k < N → ref09_CheckNet_8 F hd N l ok i j x = hd l (ok && newB ((l.take i).drop j) x) ((i + 1 : Nat) : Int)
  | k, 0, j, ok, _, _, h => by omega
  | 0, N + 1, j, ok, hk, hj, _ => by
    have e : (l.take i).drop j = [] := List.drop_of_length_le (by rw [List.length_take]; omega)
    rw [ref09_CheckNet_8, bif_neg' (by omega), e, up (by omega)]
    unfold newB
    rw [List.all_nil, Bool.and_true]
  | k + 1, N + 1, j, ok, hk, hj, hN => by
    obtain ⟨y, hy⟩ := get_lt (l := l) (i := j) (by omega)
    have hd' : (l.take i).drop j = y :: (l.take i).drop (j + 1) := drop_get (by rw [List.getElem?_take_of_lt (by omega)]; exact hy)
    rw [ref09_CheckNet_8, bif_pos' (by omega), hd']
    unfold ref09_CheckNet_9
    cases ok with
    | false =>
      rw [bif_f', up (by omega), rn8 F hd l i hi hl x k N (j + 1) false (by omega) (by omega) (by omega)]
      rfl
    | true =>
      rw [bif_t', idx_nat, hy, bnd_eq, up (by omega), rn8 F hd l i hi hl x k N (j + 1) _ (by omega) (by omega) (by omega)]
      rfl
def rnetGo : List S_api_Site → List S_api_Site → Bool
  | _, [] => true
  | pre, x :: r => (nameB x.Name && siteB x && newB pre x) && rnetGo (pre ++ [x]) r
theorem rn2 (F : Nat) (hd : List S_api_Site → Bool → Int → Option Int) (l : List S_api_Site) (i : Nat) (hi : i < l.length) (hiF : i < F) (hl : l.length ≤ 9223372036854775807) (x : S_api_Site) (b : Bool) : ref09_CheckNet_2 F hd l i b x = hd l (b && siteB x && newB (l.take i) x) ((i + 1 : Nat) : Int) := by
  have h8 : ∀ ok, ref09_CheckNet_8 F hd F l ok i 0 x = hd l (ok && newB (l.take i) x) ((i + 1 : Nat) : Int) := fun ok => rn8 F hd l i hi hl x i F 0 ok rfl (by omega) hiF
  unfold ref09_CheckNet_2 ref09_CheckNet_3 ref09_CheckNet_4 ref09_CheckNet_5 ref09_CheckNet_6 ref09_CheckNet_7
  simp only [h8]
  unfold siteB armB
  rw [rvector_eq F _ _ (by omega), rvector_eq F _ _ (by omega), rvector_eq F _ _ (by omega), bnd_eq, bnd_eq, bnd_eq]
  show (bif b then _ else _) = _
  have eU : ((x.ArmU.e0 == (0 : Int)) && ((x.ArmU.e1 == (0 : Int)) && ((x.ArmU.e2 == (0 : Int)) && true))) = isZ x.ArmU := rfl
  have eV : ((x.ArmV.e0 == (0 : Int)) && ((x.ArmV.e1 == (0 : Int)) && ((x.ArmV.e2 == (0 : Int)) && true))) = isZ x.ArmV := rfl
  rw [eU, eV]
  cases b <;> cases inV 65536 x.Place <;> cases inV 100 x.ArmU <;> cases inV 100 x.ArmV <;> cases isZ x.ArmU <;> cases isZ x.ArmV <;> rfl
theorem rn1 (F : Nat) (hF : 20 < F) (l : List S_api_Site) (hl : l.length ≤ 9223372036854775807) (hlF : l.length < F) : ∀ (k N i : Nat) (ok : Bool), k = l.length - i → i ≤ l.length → k < N → ref09_CheckNet_1 F N l ok i = some (bif ok && rnetGo (l.take i) (l.drop i) then 0 else 90)
  | k, 0, i, ok, _, _, h => by omega
  | 0, N + 1, i, ok, hk, hi, _ => by
    rw [ref09_CheckNet_1, bif_neg' (by omega), List.drop_of_length_le (by omega : l.length ≤ i)]
    unfold rnetGo
    cases ok <;> rfl
  | k + 1, N + 1, i, ok, hk, hi, hN => by
    obtain ⟨x, hx⟩ := get_lt (l := l) (i := i) (by omega)
    have e : l.take (i + 1) = l.take i ++ [x] := by rw [List.take_add_one, hx]; rfl
    have key : ∀ b, ref09_CheckNet_2 F (ref09_CheckNet_1 F N) l i b x = some (bif (b && siteB x && newB (l.take i) x) && rnetGo (l.take i ++ [x]) (l.drop (i + 1)) then 0 else 90) := by
      intro b
      rw [rn2 F _ l i (by omega) (by omega) hl x b, rn1 F hF l hl hlF k N (i + 1) _ (by omega) (by omega) (by omega), e]
    rw [ref09_CheckNet_1, bif_pos' (by omega), idx_nat, hx, bnd_eq, rname_eq F hF, bnd_eq, key, key, drop_get hx]
    show _ = some (bif ok && ((nameB x.Name && siteB x && newB (l.take i) x) && rnetGo (l.take i ++ [x]) (l.drop (i + 1))) then 0 else 90)
    cases ok <;> rfl
theorem net_same : ∀ (l pre : List S_api_Site) (m : List (List UInt8 × Bool)), (∀ x, mget eqB false m x = pre.any fun y => y.Name == x) → netGo l m = rnetGo pre l
  | [], pre, m, _ => rfl
  | x :: r, pre, m, h => by
    unfold netGo rnetGo
    have h1 := net_same r (pre ++ [x]) (mput eqB m x.Name true) (fun z => by
      rw [mget_put (fun a b => by simp [eqB]), h z, List.any_append]
      simp only [List.any_cons, List.any_nil, Bool.or_false]
      rw [show eqB z x.Name = (x.Name == z) from by unfold eqB; exact Bool.beq_comm]
      cases (x.Name == z) <;> simp)
    rw [h1, h x.Name]
    have e : (!(pre.any fun y => y.Name == x.Name)) = newB pre x := by
      unfold newB
      rw [List.not_any_eq_all_not]
    rw [e]
    cases nameB x.Name <;> cases siteB x <;> cases newB pre x <;> rfl
theorem RCheckNet_eq (F : Nat) (hF : 20 < F) (l : List S_api_Site) (hl : l.length ≤ 9223372036854775807) (hlF : l.length < F) : ref09_CheckNet F l = some (bif netB l then 0 else 90) := by
  unfold ref09_CheckNet netB
  rw [In_eq, bnd_eq]
  have := rn1 F hF l hl hlF l.length F 0 (inR 2 l.length 6) rfl (by omega) hlF
  rw [List.take_zero, List.drop_zero, ← net_same l [] [] (fun x => rfl)] at this
  exact this
end Go.Ev.SkyRings
