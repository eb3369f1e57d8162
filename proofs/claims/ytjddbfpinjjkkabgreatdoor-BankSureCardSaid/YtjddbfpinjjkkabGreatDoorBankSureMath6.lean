/- Sure, Wave, what is buried, and the hits of a bank, as plain functions. -/
import Derived.Test.YtjddbfpinjjkkabGreatDoorBankSureMath5
namespace Go.Ev.BankSure
open Go Go.Ev Go.Proofs
set_option linter.unusedVariables false
def areB (v f : Int) : Bool := inR 1 v 1048576 && inR 0 f 65536
theorem areB_eq (F : Nat) (v f : Int) : bank_areBounds F v f = some (areB v f) := by
  unfold bank_areBounds bank_areBounds_1 areB
  rw [bFrom_eq, bnd_eq]
  cases inR 1 v 1048576 with
  | false => rfl
  | true => rw [cond_true, bFrom_eq, bnd_eq]; rfl
def chB (c : S_api_Chirp) : Bool := inR 0 c.P 63 && inR 0 c.Q 63
theorem chB_iff {c : S_api_Chirp} (h : chB c = true) : (0 ≤ c.P ∧ c.P ≤ 63) ∧ 0 ≤ c.Q ∧ c.Q ≤ 63 := by
  unfold chB at h
  rw [Bool.and_eq_true] at h
  exact ⟨inR_iff.1 h.1, inR_iff.1 h.2⟩
section
variable (F : Nat) (hF : 70 < F) (c : S_api_Chirp) (hc : chB c = true) (n : Nat) (hn : n ≤ 64)
include hF hc hn
theorem step_arg (i : Nat) (hi : i < n) : bank_table F (Int.tmod (w64 (w64 (c.P * i) + w64 (w64 (c.Q * i) * i))) 64) = some (wv c i) := wv_arg c (chB_iff hc).1 (chB_iff hc).2 i (by omega) F (by omega)
theorem sure1 (nz v f : Int) : ∀ (k N i : Nat), k = n - i → i ≤ n → k < N → ∃ a e, bank_Sure_1 F N n i nz v f c (WI c n i) = some (a, e) ∧ (e = 0 → (0 ≤ nz ∧ nz ≤ 32768) ∧ areB v f = true ∧ 1 ≤ a ∧ a ≤ 1048576 ∧ LPa c n nz (f * v) a = true)
  | k, 0, i, _, _, h => by omega
  | 0, N + 1, i, hk, hi, _ => by
    obtain rfl : i = n := by omega
    obtain ⟨g1, g2, g3⟩ := WI_end F hF c i hn
    rw [bank_Sure_1, bif_neg' (by omega), g1, bnd_eq, bnd_eq, g2, bnd_eq, g3, bnd_eq, silent_eq F c i hn, bnd_eq]
    cases silB c i with
    | true => exact ⟨0, 4, rfl, fun h => by simp at h⟩
    | false =>
      rw [cond_false, show (!((0 : Int) == 0)) = false from rfl, cond_false, bFrom_eq, bnd_eq]
      cases en : inR 0 nz 32768 with
      | false => exact ⟨0, 8, rfl, fun h => by simp at h⟩
      | true =>
        rw [Bool.not_true, cond_false, areB_eq, bnd_eq]
        unfold bank_Sure_3
        cases eb : areB v f with
        | false => exact ⟨0, 8, rfl, fun h => by simp at h⟩
        | true =>
          have hz := inR_iff.1 en
          have hb := eb
          unfold areB at hb
          rw [Bool.and_eq_true] at hb
          have hv := inR_iff.1 hb.1
          have hf := inR_iff.1 hb.2
          have m := mul_le_n hf.1 hf.2 (show 0 ≤ v by omega) hv.2
          rw [Bool.not_true, cond_false, w64_id (n := f * v) (by omega) (by omega)]
          obtain ⟨r, r1, r2, r3, r4⟩ := sr1 F hF c i hn nz (f * v) hz (by omega) 21 F 0 1048576 (by decide) (by omega) (by omega) (by omega) (fun h => by omega)
          have r4' : bank_sure F (WV c i) nz (f * v) = some ((r : Int) + 1) := r4
          rw [r4', bnd_eq]
          by_cases h : (1048576 : Int) < (r : Int) + 1
          · rw [bif_pos' h]
            exact ⟨0, 4, rfl, fun h => by simp at h⟩
          · rw [bif_neg' h]
            exact ⟨_, 0, rfl, fun _ => ⟨hz, rfl, by omega, by omega, r3 (by omega)⟩⟩
  | k + 1, N + 1, i, hk, hi, hN => by
    rw [bank_Sure_1, bif_pos' (by omega), step_arg F hF c hc n hn i (by omega), bnd_eq, inA_nat (j := i) (by omega) rfl, bnd_eq, WI_set c n i (by omega), bnd_eq, up (by omega)]
    exact sure1 nz v f k N (i + 1) (by omega) (by omega) (by omega)
theorem Sure_ex (h4 : 4 ≤ n) (nz v f : Int) : ∃ a e, bank_Sure F n c nz v f = some (a, e) ∧ (e = 0 → (0 ≤ nz ∧ nz ≤ 32768) ∧ areB v f = true ∧ 1 ≤ a ∧ a ≤ 1048576 ∧ LPa c n nz (f * v) a = true) := by
  have hok : okC (n : Int) c = true := by
    unfold okC
    rw [Bool.and_eq_true]
    exact ⟨inR_iff.2 ⟨by omega, by omega⟩, hc⟩
  unfold bank_Sure
  rw [bCheck_eq, hok, cond_true, bnd_eq]
  exact sure1 F hF c hc n hn nz v f n F 0 rfl (by omega) (by omega)
theorem wave1 (e0 : Int) (e1 : S_api_Chirp) : ∀ (k N i : Nat), k = n - i → i ≤ n → k < N → bank_Wave_h1_1 F e0 e1 N n i c (WI c n i) = some (wvL c n, 0)
  | k, 0, i, _, _, h => by omega
  | 0, N + 1, i, hk, hi, _ => by
    obtain rfl : i = n := by omega
    obtain ⟨g1, g2, g3⟩ := WI_end F hF c i hn
    have e := subP_ok (len := 64) (a := 0) (b := i) (lo := 0) (hi := (i : Int)) rfl rfl (by omega) hn
    rw [bank_Wave_h1_1, bif_neg' (by omega), g1, bnd_eq, bnd_eq, g2, bnd_eq, g3, bnd_eq, WV_64 c i hn, bnd_eq, e, bnd_eq, parL_ok (by rw [WV_len c i hn]; simp; omega), bnd_eq]
    have : ((WV c i).drop (0 + 0)).take (i - 0) = wvL c i := by
      rw [Nat.add_zero, List.drop_zero, Nat.sub_zero, WV_take]
    have this' : (List.drop (0 + ((0, i - 0) : Nat × Nat).1) (WV c i)).take ((0, i - 0) : Nat × Nat).2 = wvL c i := this
    rw [this']
  | k + 1, N + 1, i, hk, hi, hN => by
    rw [bank_Wave_h1_1, bif_pos' (by omega), step_arg F hF c hc n hn i (by omega), bnd_eq, inA_nat (j := i) (by omega) rfl, bnd_eq, WI_set c n i (by omega), bnd_eq, up (by omega)]
    exact wave1 e0 e1 k N (i + 1) (by omega) (by omega) (by omega)
theorem Wave_eq (h4 : 4 ≤ n) : bank_Wave_h1 F n c = some (wvL c n, 0) := by
  have hok : okC (n : Int) c = true := by
    unfold okC
    rw [Bool.and_eq_true]
    exact ⟨inR_iff.2 ⟨by omega, by omega⟩, hc⟩
  unfold bank_Wave_h1
  rw [bCheck_eq, hok, cond_true, bnd_eq]
  exact wave1 F hF c hc n hn n c n F 0 rfl (by omega) (by omega)
theorem waveOf1 (e0 : Int) (e1 : S_api_Chirp) : ∀ (k N i : Nat), k = n - i → i ≤ n → k < N → bank_waveOf_h1_1 F e0 e1 N n i c (WI c n i) = some (WV c n)
  | k, 0, i, _, _, h => by omega
  | 0, N + 1, i, hk, hi, _ => by
    obtain rfl : i = n := by omega
    obtain ⟨g1, g2, g3⟩ := WI_end F hF c i hn
    rw [bank_waveOf_h1_1, bif_neg' (by omega), g1, bnd_eq, bnd_eq, g2, bnd_eq, g3, bnd_eq]
  | k + 1, N + 1, i, hk, hi, hN => by
    rw [bank_waveOf_h1_1, bif_pos' (by omega), step_arg F hF c hc n hn i (by omega), bnd_eq, inA_nat (j := i) (by omega) rfl, bnd_eq, WI_set c n i (by omega), bnd_eq, up (by omega)]
    exact waveOf1 e0 e1 k N (i + 1) (by omega) (by omega) (by omega)
theorem waveOf_eq : bank_waveOf_h1 F n c = some (WV c n) := waveOf1 F hF c hc n hn n c n F 0 rfl (by omega) (by omega)
theorem hw2 (hd : Int → (List S_api_Chirp) → Int → Int → (List Int) → Int → Int → (List (List Int)) → Option ((List S_api_Hit) × Int)) (n0 : Int) (L : List S_api_Chirp) (len j : Int) (d : List Int) (v f : Int) (acc : List (List Int)) (ha : acc.length ≤ 1000) : ∀ (k N i : Nat), k = n - i → i ≤ n → k < N → bank_Hits_2 F hd N n i n0 L len j d v f c (WI c n i) acc = hd n0 L len (w64 (j + 1)) d v f (acc ++ [WV c n])
  | k, 0, i, _, _, h => by omega
  | 0, N + 1, i, hk, hi, _ => by
    obtain rfl : i = n := by omega
    obtain ⟨g1, g2, g3⟩ := WI_end F hF c i hn
    rw [bank_Hits_2, bif_neg' (by omega), g1, bnd_eq, bnd_eq, g2, bnd_eq, g3, bnd_eq, apd_ok (by simp; omega) (by omega), bnd_eq]
  | k + 1, N + 1, i, hk, hi, hN => by
    rw [bank_Hits_2, bif_pos' (by omega), step_arg F hF c hc n hn i (by omega), bnd_eq, inA_nat (j := i) (by omega) rfl, bnd_eq, WI_set c n i (by omega), bnd_eq, up (by omega)]
    exact hw2 hd n0 L len j d v f acc ha k N (i + 1) (by omega) (by omega) (by omega)
end
def ldB (c : S_api_Chirp) (n : Nat) (d : List Int) (bd : Int) (t : Nat) : Bool := decide (0 < dot (wvL c n) (d.drop t)) && decide (bd * nrm c n ≤ dot (wvL c n) (d.drop t) * dot (wvL c n) (d.drop t))
def hitF (c : S_api_Chirp) (n j : Nat) (d : List Int) (bd : Int) : Nat → Nat → List S_api_Hit
  | 0, _ => []
  | k + 1, t => (if ldB c n d bd t then [⟨(t : Int), (j : Int), dot (wvL c n) (d.drop t)⟩] else []) ++ hitF c n j d bd k (t + 1)
theorem hitF_len (c : S_api_Chirp) (n j : Nat) (d : List Int) (bd : Int) : ∀ k t, (hitF c n j d bd k t).length ≤ k
  | 0, _ => Nat.le_refl _
  | k + 1, t => by
    have := hitF_len c n j d bd k (t + 1)
    rw [hitF, List.length_append]
    split <;> simp <;> omega
theorem hitF_mem (c : S_api_Chirp) (n j : Nat) (d : List Int) (bd : Int) (t : Nat) (h : ldB c n d bd t = true) : ∀ k s, s ≤ t → t < s + k → (⟨(t : Int), (j : Int), dot (wvL c n) (d.drop t)⟩ : S_api_Hit) ∈ hitF c n j d bd k s
  | 0, s, h1, h2 => by omega
  | k + 1, s, h1, h2 => by
    rw [hitF]
    by_cases e : s = t
    · subst e
      rw [if_pos h]
      exact List.mem_append_left _ (List.mem_singleton.2 rfl)
    · exact List.mem_append_right _ (hitF_mem c n j d bd t h k (s + 1) (by omega) (by omega))
def hitsL (n : Nat) (d : List Int) (bd : Int) (K : Nat) : Nat → List S_api_Chirp → List S_api_Hit
  | _, [] => []
  | j, c :: r => hitF c n j d bd K 0 ++ hitsL n d bd K (j + 1) r
theorem hitsL_len (n : Nat) (d : List Int) (bd : Int) (K : Nat) : ∀ (L : List S_api_Chirp) (j : Nat), (hitsL n d bd K j L).length ≤ K * L.length
  | [], j => by simp [hitsL]
  | c :: r, j => by
    have h1 := hitF_len c n j d bd K 0
    have h2 := hitsL_len n d bd K r (j + 1)
    rw [hitsL, List.length_append, List.length_cons, Nat.mul_succ]
    omega
theorem hitsL_mem (n : Nat) (d : List Int) (bd : Int) (K : Nat) (c : S_api_Chirp) (t : Nat) (h : ldB c n d bd t = true) (ht : t < K) : ∀ (L : List S_api_Chirp) (j w : Nat), L[w]? = some c → (⟨(t : Int), ((j + w : Nat) : Int), dot (wvL c n) (d.drop t)⟩ : S_api_Hit) ∈ hitsL n d bd K j L
  | [], j, w, hw => by simp at hw
  | x :: r, j, 0, hw => by
    simp at hw
    subst hw
    rw [hitsL]
    exact List.mem_append_left _ (hitF_mem x n j d bd t h K 0 (by omega) (by omega))
  | x :: r, j, w + 1, hw => by
    rw [hitsL]
    have := hitsL_mem n d bd K c t h ht r (j + 1) w (by simpa using hw)
    rw [show j + 1 + w = j + (w + 1) by omega] at this
    exact List.mem_append_right _ this
section
variable (F : Nat) (hF : 1000 < F) (n : Nat) (h4 : 4 ≤ n) (hn : n ≤ 64) (d : List Int) (hd : areD d = true) (bd : Int) (hb : 0 ≤ bd ∧ bd ≤ 68719476736)
include hF h4 hn hd hb
theorem hi2 (c : S_api_Chirp) (hd' : List Int → List (List Int) → Int → Int → Int → List S_api_Hit → Option (List S_api_Hit)) (ws : List (List Int)) (len : Int) (j : Nat) (g1 : List Int) (g2 : List (List Int)) (g3 g4 : Int) : ∀ (k N t : Nat) (acc : List S_api_Hit), k = d.length + 1 - n - t → t ≤ d.length + 1 - n → k < N → acc.length + k ≤ 1000000 →
    bank_hits_2 F hd' N t d ws len j g1 g2 g3 g4 bd j (WV c n) (WV c n) d acc = hd' d ws len (w64 ((j : Int) + 1)) bd (acc ++ hitF c n j d bd k t)
  | k, 0, t, acc, _, _, h, _ => by omega
  | 0, N + 1, t, acc, hk, ht, _, _ => by
    have hdl : d.length ≤ 512 := by
      unfold areD at hd
      rw [Bool.and_eq_true] at hd
      simpa using hd.1
    have e : w64 ((d.length : Int) - n) = (d.length : Int) - n := w64_id (by omega) (by omega)
    have hf : inR 0 (t : Int) ((d.length : Int) - n) = false := inR_false.2 (by omega)
    rw [bank_hits_2, WV_64 c n hn, bnd_eq, bank_isTime, bFrom_eq, e, hf, bnd_eq, bnd_eq, cond_false, hitF, List.append_nil]
  | k + 1, N + 1, t, acc, hk, ht, hN, ha => by
    have hd0 := hd
    unfold areD at hd0
    rw [Bool.and_eq_true, decide_eq_true_eq, List.all_eq_true] at hd0
    have hdl := hd0.1
    have e : w64 ((d.length : Int) - n) = (d.length : Int) - n := w64_id (by omega) (by omega)
    have hf : inR 0 (t : Int) ((d.length : Int) - n) = true := inR_iff.2 (by omega)
    have hwl := wvL_len c n
    have hbig := dot_big (wvL c n) (d.drop t) (wvL_in c n) (fun x hx => inR_iff.1 (hd0.2 x (List.mem_of_mem_drop hx)))
    rw [hwl] at hbig
    have hp := product_eq F (wvL c n) (d.drop t) (by omega) (by omega)
    rw [w64_id (by omega) (by omega)] at hp
    have ho : bank_output F (WV c n) d (t : Int) = some (dot (wvL c n) (d.drop t)) := by
      unfold bank_output
      rw [subcL d t (by omega) rfl, bnd_eq, WV_samplesH F c n hn, bnd_eq, hp, bnd_eq]
    have h1 := nrm_in c n hn
    have m3 := mul_le_n hb.1 hb.2 h1.1 h1.2
    have hl := loud_eq F (by omega) (dot (wvL c n) (d.drop t)) (bd * nrm c n) (by omega) (by omega)
    have hl' : bank_isLoud F (dot (wvL c n) (d.drop t)) (bd * nrm c n) = some (ldB c n d bd t) := hl
    rw [bank_hits_2, WV_64 c n hn, bnd_eq, bank_isTime, bFrom_eq, e, hf, bnd_eq, bnd_eq, cond_true, ho, bnd_eq, WV_65 c n hn, bnd_eq, w64_id (n := bd * nrm c n) (by omega) (by omega), hl', bnd_eq, hitF, up (by omega)]
    cases ldB c n d bd t with
    | false =>
      rw [cond_false, hi2 c hd' ws len j g1 g2 g3 g4 k N (t + 1) acc (by omega) (by omega) (by omega) (by omega)]
      rfl
    | true =>
      rw [cond_true, apd_ok (by simp; omega) (by omega), bnd_eq, hi2 c hd' ws len j g1 g2 g3 g4 k N (t + 1) _ (by omega) (by omega) (by omega) (by simp; omega), List.append_assoc]
      rfl
theorem hi1 (L : List S_api_Chirp) (hL : L.length ≤ 64) : ∀ (k N j : Nat) (acc : List S_api_Hit), k = L.length - j → j ≤ L.length → k < N → acc.length ≤ 600 * j → bank_hits_1 F N d (L.map fun c => WV c n) ((L.map fun c => WV c n).length : Int) j bd acc = some (acc ++ hitsL n d bd (d.length + 1 - n) j (L.drop j))
  | k, 0, j, acc, _, _, h, _ => by omega
  | 0, N + 1, j, acc, hk, hj, _, _ => by
    rw [bank_hits_1, bif_neg' (by rw [List.length_map]; omega), List.drop_of_length_le (by omega : L.length ≤ j), hitsL, List.append_nil]
  | k + 1, N + 1, j, acc, hk, hj, hN, ha => by
    have hdl : d.length ≤ 512 := by
      unfold areD at hd
      rw [Bool.and_eq_true] at hd
      simpa using hd.1
    obtain ⟨c, hc⟩ := get_lt (l := L) (i := j) (by omega)
    have hcm : (L.map fun c => WV c n)[j]? = some (WV c n) := by rw [List.getElem?_map, hc]; rfl
    have hlen := hitF_len c n j d bd (d.length + 1 - n) 0
    have h2 := hi2 F hF n h4 hn d hd bd hb c (bank_hits_1 F N) (L.map fun c => WV c n) ((L.map fun c => WV c n).length : Int) j d (L.map fun c => WV c n) ((L.map fun c => WV c n).length : Int) (j : Int) (d.length + 1 - n) F 0 acc rfl (by omega) (by omega) (by omega)
    rw [bank_hits_1, bif_pos' (by rw [List.length_map]; omega), idx_nat, hcm, bnd_eq]
    refine Eq.trans h2 ?_
    rw [up (by omega), hi1 L hL k N (j + 1) _ (by omega) (by omega) (by omega) (by rw [List.length_append]; omega), drop_get hc, hitsL, List.append_assoc]
end
section
variable (F : Nat) (hF : 1000 < F) (n : Nat) (h4 : 4 ≤ n) (hn : n ≤ 64) (d : List Int) (hd : areD d = true) (v f : Int) (hv : areB v f = true) (L : List S_api_Chirp) (hL : L.length ≤ 64) (hc : ∀ c ∈ L, chB c = true)
include hF h4 hn hd hv hL hc
theorem hw1 : ∀ (k N j : Nat), k = L.length - j → j ≤ L.length → k < N → bank_Hits_1 F N n L L.length j d v f ((L.take j).map fun c => WV c n) = some (sortC (fun x y => orI (Lib.compareInt x.Time y.Time) (Lib.compareInt x.Chirp y.Chirp)) (hitsL n d (f * v) (d.length + 1 - n) 0 L), 0)
  | k, 0, j, _, _, h => by omega
  | 0, N + 1, j, hk, hj, _ => by
    have hdl : d.length ≤ 512 := by
      unfold areD at hd
      rw [Bool.and_eq_true] at hd
      simpa using hd.1
    have hb := hv
    unfold areB at hb
    rw [Bool.and_eq_true] at hb
    have hv1 := inR_iff.1 hb.1
    have hf1 := inR_iff.1 hb.2
    have m := mul_le_n hf1.1 hf1.2 (show 0 ≤ v by omega) hv1.2
    have h1 := hi1 F hF n h4 hn d hd (f * v) (by omega) L hL L.length F 0 [] rfl (by omega) (by omega) (by simp)
    rw [List.drop_zero, List.nil_append] at h1
    have h1' : bank_hits F (L.map fun c => WV c n) d (f * v) = _ := h1
    have hlen := hitsL_len n d (f * v) (d.length + 1 - n) L 0
    have hm : (d.length + 1 - n) * L.length ≤ 600 * 64 := Nat.mul_le_mul (by omega) hL
    rw [bank_Hits_1, bif_neg' (by omega), List.take_of_length_le (by omega), w64_id (n := f * v) (by omega) (by omega), h1', bnd_eq]
    unfold sortCP
    rw [if_pos (by omega), bnd_eq]
  | k + 1, N + 1, j, hk, hj, hN => by
    obtain ⟨c, hcj⟩ := get_lt (l := L) (i := j) (by omega)
    have h2 := hw2 F (by omega) c (hc c (List.mem_of_getElem? hcj)) n hn (bank_Hits_1 F N) n L L.length j d v f ((L.take j).map fun c => WV c n) (by rw [List.length_map, List.length_take]; omega) n F 0 rfl (by omega) (by omega)
    have et : (L.take (j + 1)).map (fun c => WV c n) = (L.take j).map (fun c => WV c n) ++ [WV c n] := by
      rw [List.take_add_one, hcj, List.map_append]
      rfl
    rw [bank_Hits_1, bif_pos' (by omega), idx_nat, hcj, bnd_eq]
    refine Eq.trans h2 ?_
    rw [up (by omega), ← et]
    exact hw1 k N (j + 1) (by omega) (by omega) (by omega)
end
end Go.Ev.BankSure
