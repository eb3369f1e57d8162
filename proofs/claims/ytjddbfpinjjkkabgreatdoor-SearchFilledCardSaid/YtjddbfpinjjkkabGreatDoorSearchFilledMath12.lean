/- The hits of a bank, as a plain function. -/
import Derived.Test.YtjddbfpinjjkkabGreatDoorSearchFilledMath10
namespace Go.Ev.SearchFilled
open Go Go.Ev Go.Proofs
set_option linter.unusedVariables false
theorem dot_big : ∀ (h y : List Int), (∀ x ∈ h, -127 ≤ x ∧ x ≤ 127) → (∀ x ∈ y, -32768 ≤ x ∧ x ≤ 32768) → -(4161536 * h.length) ≤ dot h y ∧ dot h y ≤ 4161536 * h.length
  | [], y, _, _ => by simp [dot]
  | h :: r, [], _, _ => by simp [dot]; omega
  | h :: r, z :: y, h1, h2 => by
    have ih := dot_big r y (fun x hx => h1 x (List.mem_cons_of_mem _ hx)) (fun x hx => h2 x (List.mem_cons_of_mem _ hx))
    have := mul_in (a := h) (b := z) (x := 127) (y := 32768) (h1 h List.mem_cons_self) (h2 z List.mem_cons_self) (by omega) (by omega)
    simp only [dot, List.length_cons]
    omega
theorem mul_le_n {a b A B : Int} (h1 : 0 ≤ a) (h2 : a ≤ A) (h3 : 0 ≤ b) (h4 : b ≤ B) : 0 ≤ a * b ∧ a * b ≤ A * B := ⟨Int.mul_nonneg h1 h3, Int.mul_le_mul h2 h4 h3 (by omega)⟩
def areB (v f : Int) : Bool := inR 1 v 1048576 && inR 0 f 65536
theorem areB_eq (F : Nat) (v f : Int) : bank_areBounds F v f = some (areB v f) := by
  unfold bank_areBounds bank_areBounds_1 areB
  rw [bFrom_eq, bnd_eq]
  cases inR 1 v 1048576 with
  | false => rfl
  | true => rw [cond_true, bFrom_eq, bnd_eq]; rfl
def chB (c : S_api_Chirp) : Bool := inR 0 c.P 63 && inR 0 c.Q 63
theorem chB_iff {c : S_api_Chirp} (h : chB c = true) : (0 ≤ c.P ∧ c.P ≤ 63) ∧ 0 ≤ c.Q ∧ c.Q ≤ 63 := by
  unfold chB at h
  rw [Bool.and_eq_true] at h
  exact ⟨inR_iff.1 h.1, inR_iff.1 h.2⟩
section
variable (F : Nat) (hF : 70 < F) (c : S_api_Chirp) (hc : chB c = true) (n : Nat) (hn : n ≤ 64)
include hF hc hn
theorem step_arg (i : Nat) (hi : i < n) : bank_table F (Int.tmod (w64 (w64 (c.P * i) + w64 (w64 (c.Q * i) * i))) 64) = some (wv c i) := wv_arg c (chB_iff hc).1 (chB_iff hc).2 i (by omega) F (by omega)
theorem waveOf1 (e0 : Int) (e1 : S_api_Chirp) : ∀ (k N i : Nat), k = n - i → i ≤ n → k < N → bank_waveOf_h1_1 F e0 e1 N n i c (WI c n i) = some (WV c n)
  | k, 0, i, _, _, h => by omega
  | 0, N + 1, i, hk, hi, _ => by
    obtain rfl : i = n := by omega
    obtain ⟨g1, g2, g3⟩ := WI_end F hF c i hn
    rw [bank_waveOf_h1_1, bif_neg' (by omega), g1, bnd_eq, bnd_eq, g2, bnd_eq, g3, bnd_eq]
  | k + 1, N + 1, i, hk, hi, hN => by
    rw [bank_waveOf_h1_1, bif_pos' (by omega), step_arg F hF c hc n hn i (by omega), bnd_eq, inA_nat (j := i) (by omega) rfl, bnd_eq, WI_set c n i (by omega), bnd_eq, up (by omega)]
    exact waveOf1 e0 e1 k N (i + 1) (by omega) (by omega) (by omega)
theorem waveOf_eq : bank_waveOf_h1 F n c = some (WV c n) := waveOf1 F hF c hc n hn n c n F 0 rfl (by omega) (by omega)
theorem hw2 (hd : Int → (List S_api_Chirp) → Int → Int → (List Int) → Int → Int → (List (List Int)) → Option ((List S_api_Hit) × Int)) (n0 : Int) (L : List S_api_Chirp) (len j : Int) (d : List Int) (v f : Int) (acc : List (List Int)) (ha : acc.length ≤ 1000) : ∀ (k N i : Nat), k = n - i → i ≤ n → k < N → bank_Hits_2 F hd N n i n0 L len j d v f c (WI c n i) acc = hd n0 L len (w64 (j + 1)) d v f (acc ++ [WV c n])
  | k, 0, i, _, _, h => by omega
  | 0, N + 1, i, hk, hi, _ => by
    obtain rfl : i = n := by omega
    obtain ⟨g1, g2, g3⟩ := WI_end F hF c i hn
    rw [bank_Hits_2, bif_neg' (by omega), g1, bnd_eq, bnd_eq, g2, bnd_eq, g3, bnd_eq, apd_ok (by simp; omega) (by omega), bnd_eq]
  | k + 1, N + 1, i, hk, hi, hN => by
    rw [bank_Hits_2, bif_pos' (by omega), step_arg F hF c hc n hn i (by omega), bnd_eq, inA_nat (j := i) (by omega) rfl, bnd_eq, WI_set c n i (by omega), bnd_eq, up (by omega)]
    exact hw2 hd n0 L len j d v f acc ha k N (i + 1) (by omega) (by omega) (by omega)
end
def ldB (c : S_api_Chirp) (n : Nat) (d : List Int) (bd : Int) (t : Nat) : Bool := decide (0 < dot (wvL c n) (d.drop t)) && decide (bd * nrm c n ≤ dot (wvL c n) (d.drop t) * dot (wvL c n) (d.drop t))
def hitF (c : S_api_Chirp) (n j : Nat) (d : List Int) (bd : Int) : Nat → Nat → List S_api_Hit
  | 0, _ => []
  | k + 1, t => (if ldB c n d bd t then [⟨(t : Int), (j : Int), dot (wvL c n) (d.drop t)⟩] else []) ++ hitF c n j d bd k (t + 1)
theorem hitF_len (c : S_api_Chirp) (n j : Nat) (d : List Int) (bd : Int) : ∀ k t, (hitF c n j d bd k t).length ≤ k
  | 0, _ => Nat.le_refl _
  | k + 1, t => by
    have := hitF_len c n j d bd k (t + 1)
    rw [hitF, List.length_append]
    split <;> simp <;> omega
theorem hitF_mem (c : S_api_Chirp) (n j : Nat) (d : List Int) (bd : Int) (t : Nat) (h : ldB c n d bd t = true) : ∀ k s, s ≤ t → t < s + k → (⟨(t : Int), (j : Int), dot (wvL c n) (d.drop t)⟩ : S_api_Hit) ∈ hitF c n j d bd k s
  | 0, s, h1, h2 => by omega
  | k + 1, s, h1, h2 => by
    rw [hitF]
    by_cases e : s = t
    · subst e
      rw [if_pos h]
      exact List.mem_append_left _ (List.mem_singleton.2 rfl)
    · exact List.mem_append_right _ (hitF_mem c n j d bd t h k (s + 1) (by omega) (by omega))
def hitsL (n : Nat) (d : List Int) (bd : Int) (K : Nat) : Nat → List S_api_Chirp → List S_api_Hit
  | _, [] => []
  | j, c :: r => hitF c n j d bd K 0 ++ hitsL n d bd K (j + 1) r
theorem hitsL_len (n : Nat) (d : List Int) (bd : Int) (K : Nat) : ∀ (L : List S_api_Chirp) (j : Nat), (hitsL n d bd K j L).length ≤ K * L.length
  | [], j => by simp [hitsL]
  | c :: r, j => by
    have h1 := hitF_len c n j d bd K 0
    have h2 := hitsL_len n d bd K r (j + 1)
    rw [hitsL, List.length_append, List.length_cons, Nat.mul_succ]
    omega
section
variable (F : Nat) (hF : 1000 < F) (n : Nat) (h4 : 4 ≤ n) (hn : n ≤ 64) (d : List Int) (hd : areD d = true) (bd : Int) (hb : 0 ≤ bd ∧ bd ≤ 68719476736)
include hF h4 hn hd hb
theorem hi2 (c : S_api_Chirp) (hd' : List Int → List (List Int) → Int → Int → Int → List S_api_Hit → Option (List S_api_Hit)) (ws : List (List Int)) (len : Int) (j : Nat) (g1 : List Int) (g2 : List (List Int)) (g3 g4 : Int) : ∀ (k N t : Nat) (acc : List S_api_Hit), k = d.length + 1 - n - t → t ≤ d.length + 1 - n → k < N → acc.length + k ≤ 1000000 →
    bank_hits_2 F hd' N t d ws len j g1 g2 g3 g4 bd j (WV c n) (WV c n) d acc = hd' d ws len (w64 ((j : Int) + 1)) bd (acc ++ hitF c n j d bd k t)
  | k, 0, t, acc, _, _, h, _ => by omega
  | 0, N + 1, t, acc, hk, ht, _, _ => by
    have hdl : d.length ≤ 512 := by
      unfold areD at hd
      rw [Bool.and_eq_true] at hd
      simpa using hd.1
    have e : w64 ((d.length : Int) - n) = (d.length : Int) - n := w64_id (by omega) (by omega)
    have hf : inR 0 (t : Int) ((d.length : Int) - n) = false := inR_false.2 (by omega)
    rw [bank_hits_2, WV_64 c n hn, bnd_eq, bank_isTime, bFrom_eq, e, hf, bnd_eq, bnd_eq, cond_false, hitF, List.append_nil]
  | k + 1, N + 1, t, acc, hk, ht, hN, ha => by
    have hd0 := hd
    unfold areD at hd0
    rw [Bool.and_eq_true, decide_eq_true_eq, List.all_eq_true] at hd0
    have hdl := hd0.1
    have e : w64 ((d.length : Int) - n) = (d.length : Int) - n := w64_id (by omega) (by omega)
    have hf : inR 0 (t : Int) ((d.length : Int) - n) = true := inR_iff.2 (by omega)
    have hwl := wvL_len c n
    have hbig := dot_big (wvL c n) (d.drop t) (wvL_in c n) (fun x hx => inR_iff.1 (hd0.2 x (List.mem_of_mem_drop hx)))
    rw [hwl] at hbig
    have hp := product_eq F (wvL c n) (d.drop t) (by omega) (by omega)
    rw [w64_id (by omega) (by omega)] at hp
    have ho : bank_output F (WV c n) d (t : Int) = some (dot (wvL c n) (d.drop t)) := by
      unfold bank_output
      rw [subcL d t (by omega) rfl, bnd_eq, WV_samplesH F c n hn, bnd_eq, hp, bnd_eq]
    have h1 := nrm_in c n hn
    have m3 := mul_le_n hb.1 hb.2 h1.1 h1.2
    have hl := loud_eq F (by omega) (dot (wvL c n) (d.drop t)) (bd * nrm c n) (by omega) (by omega)
    have hl' : bank_isLoud F (dot (wvL c n) (d.drop t)) (bd * nrm c n) = some (ldB c n d bd t) := hl
    rw [bank_hits_2, WV_64 c n hn, bnd_eq, bank_isTime, bFrom_eq, e, hf, bnd_eq, bnd_eq, cond_true, ho, bnd_eq, WV_65 c n hn, bnd_eq, w64_id (n := bd * nrm c n) (by omega) (by omega), hl', bnd_eq, hitF, up (by omega)]
    cases ldB c n d bd t with
    | false =>
      rw [cond_false, hi2 c hd' ws len j g1 g2 g3 g4 k N (t + 1) acc (by omega) (by omega) (by omega) (by omega)]
      rfl
    | true =>
      rw [cond_true, apd_ok (by simp; omega) (by omega), bnd_eq, hi2 c hd' ws len j g1 g2 g3 g4 k N (t + 1) _ (by omega) (by omega) (by omega) (by simp; omega), List.append_assoc]
      rfl
theorem hi1 (L : List S_api_Chirp) (hL : L.length ≤ 64) : ∀ (k N j : Nat) (acc : List S_api_Hit), k = L.length - j → j ≤ L.length → k < N → acc.length ≤ 600 * j → bank_hits_1 F N d (L.map fun c => WV c n) ((L.map fun c => WV c n).length : Int) j bd acc = some (acc ++ hitsL n d bd (d.length + 1 - n) j (L.drop j))
  | k, 0, j, acc, _, _, h, _ => by omega
  | 0, N + 1, j, acc, hk, hj, _, _ => by
    rw [bank_hits_1, bif_neg' (by rw [List.length_map]; omega), List.drop_of_length_le (by omega : L.length ≤ j), hitsL, List.append_nil]
  | k + 1, N + 1, j, acc, hk, hj, hN, ha => by
    have hdl : d.length ≤ 512 := by
      unfold areD at hd
      rw [Bool.and_eq_true] at hd
      simpa using hd.1
    obtain ⟨c, hc⟩ := get_lt (l := L) (i := j) (by omega)
    have hcm : (L.map fun c => WV c n)[j]? = some (WV c n) := by rw [List.getElem?_map, hc]; rfl
    have hlen := hitF_len c n j d bd (d.length + 1 - n) 0
    have h2 := hi2 F hF n h4 hn d hd bd hb c (bank_hits_1 F N) (L.map fun c => WV c n) ((L.map fun c => WV c n).length : Int) j d (L.map fun c => WV c n) ((L.map fun c => WV c n).length : Int) (j : Int) (d.length + 1 - n) F 0 acc rfl (by omega) (by omega) (by omega)
    rw [bank_hits_1, bif_pos' (by rw [List.length_map]; omega), idx_nat, hcm, bnd_eq]
    refine Eq.trans h2 ?_
    rw [up (by omega), hi1 L hL k N (j + 1) _ (by omega) (by omega) (by omega) (by rw [List.length_append]; omega), drop_get hc, hitsL, List.append_assoc]
end
section
variable (F : Nat) (hF : 1000 < F) (n : Nat) (h4 : 4 ≤ n) (hn : n ≤ 64) (d : List Int) (hd : areD d = true) (v f : Int) (hv : areB v f = true) (L : List S_api_Chirp) (hL : L.length ≤ 64) (hc : ∀ c ∈ L, chB c = true)
include hF h4 hn hd hv hL hc
theorem hw1 : ∀ (k N j : Nat), k = L.length - j → j ≤ L.length → k < N → bank_Hits_1 F N n L L.length j d v f ((L.take j).map fun c => WV c n) = some (sortC (fun x y => orI (Lib.compareInt x.Time y.Time) (Lib.compareInt x.Chirp y.Chirp)) (hitsL n d (f * v) (d.length + 1 - n) 0 L), 0)
  | k, 0, j, _, _, h => by omega
  | 0, N + 1, j, hk, hj, _ => by
    have hdl : d.length ≤ 512 := by
      unfold areD at hd
      rw [Bool.and_eq_true] at hd
      simpa using hd.1
    have hb := hv
    unfold areB at hb
    rw [Bool.and_eq_true] at hb
    have hv1 := inR_iff.1 hb.1
    have hf1 := inR_iff.1 hb.2
    have m := mul_le_n hf1.1 hf1.2 (show 0 ≤ v by omega) hv1.2
    have h1 := hi1 F hF n h4 hn d hd (f * v) (by omega) L hL L.length F 0 [] rfl (by omega) (by omega) (by simp)
    rw [List.drop_zero, List.nil_append] at h1
    have h1' : bank_hits F (L.map fun c => WV c n) d (f * v) = _ := h1
    have hlen := hitsL_len n d (f * v) (d.length + 1 - n) L 0
    have hm : (d.length + 1 - n) * L.length ≤ 600 * 64 := Nat.mul_le_mul (by omega) hL
    rw [bank_Hits_1, bif_neg' (by omega), List.take_of_length_le (by omega), w64_id (n := f * v) (by omega) (by omega), h1', bnd_eq]
    unfold sortCP
    rw [if_pos (by omega), bnd_eq]
  | k + 1, N + 1, j, hk, hj, hN => by
    obtain ⟨c, hcj⟩ := get_lt (l := L) (i := j) (by omega)
    have h2 := hw2 F (by omega) c (hc c (List.mem_of_getElem? hcj)) n hn (bank_Hits_1 F N) n L L.length j d v f ((L.take j).map fun c => WV c n) (by rw [List.length_map, List.length_take]; omega) n F 0 rfl (by omega) (by omega)
    have et : (L.take (j + 1)).map (fun c => WV c n) = (L.take j).map (fun c => WV c n) ++ [WV c n] := by
      rw [List.take_add_one, hcj, List.map_append]
      rfl
    rw [bank_Hits_1, bif_pos' (by omega), idx_nat, hcj, bnd_eq]
    refine Eq.trans h2 ?_
    rw [up (by omega), ← et]
    exact hw1 k N (j + 1) (by omega) (by omega) (by omega)
end
end Go.Ev.SearchFilled
namespace Go.Ev.SearchFilled
open Go Go.Ev Go.Proofs
set_option linter.unusedVariables false
theorem setW (c : S_api_Chirp) {l : List Int} {i : Nat} (hl : l.length = 66) (hi : i < 64) (ht : l.take i = wvL c i) : (l.set (0 + i * 1) (wv c i)).take (i + 1) = wvL c (i + 1) := by
  rw [show 0 + i * 1 = i by omega, List.take_add_one, List.take_set_of_le (by omega), ht, List.getElem?_set_self (by omega)]
  unfold wvL
  rw [List.range_succ, List.map_append]
  rfl
theorem f1 (F : Nat) (hF : 70 < F) (n : Nat) (hn : n ≤ 64) (c : S_api_Chirp) (hP : 0 ≤ c.P ∧ c.P ≤ 63) (hQ : 0 ≤ c.Q ∧ c.Q ≤ 63) : ∀ (k N i : Nat) (l : List Int), k = n - i → i ≤ n → k < N → l.length = 66 → l[64]? = some (n : Int) → l.take i = wvL c i →
    ∃ W : List Int, W.length = 66 ∧ W[64]? = some (n : Int) ∧ W.take n = wvL c n ∧ ∀ d v, bank_Filter_1 F N n i d v c l = bank_Filter_2 F F 0 v d [] W
  | k, 0, i, l, _, _, h, _, _, _ => by omega
  | 0, N + 1, i, l, hk, hi, _, hl, h64, ht => by
    obtain rfl : i = n := by omega
    have hs := samples_eq F hn hl h64
    have hp := product_eq F (l.take i) (l.take i) (by simp; omega) (by simp; omega)
    refine ⟨l.set 65 (w64 (dot (l.take i) (l.take i))), by simp [hl], by rw [List.getElem?_set_ne (by omega)]; exact h64, by rw [List.take_set_of_le (by omega)]; exact ht, fun d v => ?_⟩
    rw [bank_Filter_1, bif_neg' (by omega : ¬ ((i : Int) < i)), hs, bnd_eq, bnd_eq, hp, bnd_eq, upd_at (by omega), bnd_eq]
  | k + 1, N + 1, i, l, hk, hi, hN, hl, h64, ht => by
    obtain ⟨W, w1, w2, w4, w3⟩ := f1 F hF n hn c hP hQ k N (i + 1) (l.set (0 + i * 1) (wv c i)) (by omega) (by omega) (by omega) (by simp [hl]) (by rw [List.getElem?_set_ne (by omega)]; exact h64) (setW c hl (by omega) ht)
    refine ⟨W, w1, w2, w4, fun d v => ?_⟩
    rw [bank_Filter_1, bif_pos' (by omega : ((i : Int) < n)), wv_arg c hP hQ i (by omega) F (by omega), bnd_eq, inA_nat (j := i) (by omega) rfl, bnd_eq, upd_at (by omega), bnd_eq, up (by omega), w3]
theorem f2 (F : Nat) (hF : 700 < F) {W : List Int} {n : Nat} (h4 : 4 ≤ n) (hn : n ≤ 64) (hl : W.length = 66) (h64 : W[64]? = some (n : Int)) (d : List Int) (hd : d.length ≤ 512) : ∀ (k N t : Nat) (acc : List Int) (v : Int), k = d.length + 1 - n - t → t ≤ d.length + 1 - n → k < N → acc.length + k ≤ 1000 →
    bank_Filter_2 F N t v d acc W = some (acc ++ outF (W.take n) d k t, 0)
  | k, 0, t, acc, v, _, _, h, _ => by omega
  | 0, N + 1, t, acc, v, hk, ht, _, _ => by
    have e : w64 ((d.length : Int) - n) = (d.length : Int) - n := w64_id (by omega) (by omega)
    have hf : inR 0 (t : Int) ((d.length : Int) - n) = false := by unfold inR; simp; omega
    rw [bank_Filter_2, h64, bnd_eq, bank_isTime, bFrom_eq, e, hf]
    simp [bnd_eq, outF]
  | k + 1, N + 1, t, acc, v, hk, ht, hN, ha => by
    have e : w64 ((d.length : Int) - n) = (d.length : Int) - n := w64_id (by omega) (by omega)
    have hf : inR 0 (t : Int) ((d.length : Int) - n) = true := by unfold inR; simp; omega
    have hp := product_eq F (W.take n) (d.drop t) (by simp; omega) (by simp; omega)
    have ih := f2 F hF h4 hn hl h64 d hd k N (t + 1) (acc ++ [w64 (dot (W.take n) (d.drop t))]) v (by omega) (by omega) (by omega) (by simp; omega)
    have ho : bank_output F W d (t : Int) = some (w64 (dot (W.take n) (d.drop t))) := by
      unfold bank_output
      rw [subcL d t (by omega) rfl, bnd_eq, samplesH_eq F hn hl h64, bnd_eq, hp, bnd_eq]
    rw [bank_Filter_2, h64, bnd_eq, bank_isTime, bFrom_eq, e, hf]
    simp only [bnd_eq, cond_true]
    rw [ho, bnd_eq, apd_ok (by simp; omega) (by omega), bnd_eq, up (by omega), ih, outF]
    simp
theorem Filter_eq (F : Nat) (hF : 700 < F) (n : Nat) (c : S_api_Chirp) (hc : okC n c = true) (d : List Int) (hd : areD d = true) : bank_Filter F n c d = some (outF (wvL c n) d (d.length + 1 - n) 0, 0) := by
  obtain ⟨g1, g2, g3⟩ := okC_iff hc
  have hd' : d.length ≤ 512 := by
    unfold areD at hd
    rw [Bool.and_eq_true] at hd
    simpa using hd.1
  obtain ⟨W, w1, w2, w4, w3⟩ := f1 F (by omega) n (by omega) c g2 g3 n F 0 ([0, 0, 0, 0, 0, 0, 0, 0, 0, 0, 0, 0, 0, 0, 0, 0, 0, 0, 0, 0, 0, 0, 0, 0, 0, 0, 0, 0, 0, 0, 0, 0, 0, 0, 0, 0, 0, 0, 0, 0, 0, 0, 0, 0, 0, 0, 0, 0, 0, 0, 0, 0, 0, 0, 0, 0, 0, 0, 0, 0, 0, 0, 0, 0, (n : Int), 0] : List Int) (by omega) (by omega) (by omega) rfl rfl rfl
  have h2 := f2 F hF (n := n) (by omega) (by omega) w1 w2 d hd' (d.length + 1 - n) F 0 [] 0 (by omega) (by omega) (by omega) (by simp; omega)
  rw [w4] at h2
  have h3 := w3 d 0
  unfold bank_Filter
  rw [bCheck_eq, hc, cond_true, bnd_eq, areData_eq F (by omega), bnd_eq, hd]
  exact h3.trans h2
section
variable (F : Nat) (hF : 70 < F) (c : S_api_Chirp) (hc : chB c = true) (n : Nat) (hn : n ≤ 64)
include hF hc hn
theorem norm1 : ∀ (k N i : Nat), k = n - i → i ≤ n → k < N → bank_Norm_1 F N n i c (WI c n i) = some (nrm c n, 0)
  | k, 0, i, _, _, h => by omega
  | 0, N + 1, i, hk, hi, _ => by
    obtain rfl : i = n := by omega
    obtain ⟨g1, g2, g3⟩ := WI_end F hF c i hn
    rw [bank_Norm_1, bif_neg' (by omega), g1, bnd_eq, bnd_eq, g2, bnd_eq, g3, bnd_eq, WV_65 c i hn, bnd_eq]
  | k + 1, N + 1, i, hk, hi, hN => by
    rw [bank_Norm_1, bif_pos' (by omega), step_arg F hF c hc n hn i (by omega), bnd_eq, inA_nat (j := i) (by omega) rfl, bnd_eq, WI_set c n i (by omega), bnd_eq, up (by omega)]
    exact norm1 k N (i + 1) (by omega) (by omega) (by omega)
theorem Norm_eq (h4 : 4 ≤ n) : bank_Norm F n c = some (nrm c n, 0) := by
  have hok : okC (n : Int) c = true := by
    unfold okC
    rw [Bool.and_eq_true]
    exact ⟨inR_iff.2 ⟨by omega, by omega⟩, hc⟩
  unfold bank_Norm
  rw [bCheck_eq, hok, cond_true, bnd_eq]
  exact norm1 F hF c hc n hn n F 0 rfl (by omega) (by omega)
end
theorem dot_rep : ∀ k, dot (List.replicate k 0) (List.replicate k 0) = 0
  | 0 => rfl
  | k + 1 => by rw [List.replicate_succ, dot, dot_rep k]; rfl
theorem not_sil (c : S_api_Chirp) (n : Nat) (hn : n ≤ 64) (h : nrm c n ≠ 0) : silB c n = false := by
  unfold silB
  refine decide_eq_false fun e => h ?_
  have e2 : wvL c n = List.replicate n 0 := by
    have := congrArg (List.take n) e
    unfold w64L at this
    rw [List.take_left' (wvL_len c n), List.take_replicate, Nat.min_eq_left hn] at this
    exact this
  unfold nrm
  rw [e2, dot_rep]
theorem bank_one (F : Nat) (hF : 1000 < F) (n : Nat) (h4 : 4 ≤ n) (hn : n ≤ 64) (c : S_api_Chirp) (hc : chB c = true) (h : nrm c n ≠ 0) : bank_CheckBank F n [c] = some 0 := by
  obtain ⟨G, rfl⟩ : ∃ G, F = G + 2 := ⟨F - 2, by omega⟩
  have hch : bank_isChirp (G + 2) c = some (chB c) := bChirp_eq (G + 2) c
  have hcn : slices_Contains (G + 2) [] c = some false := by
    unfold slices_Contains slices_Index
    rw [slices_Index_1, bif_neg' (by simp), bnd_eq]
    rfl
  have hin : inR 4 (n : Int) 64 = true := inR_iff.2 ⟨by omega, by omega⟩
  have hsub : sub [c] 0 (0 : Int) = some [] := subc0 [c] 0 (by omega) rfl
  have h1 : bank_isBank_1 (G + 2) (G + 2) n [c] [c] (([c] : List S_api_Chirp).length : Int) (0 : Int) = some true := by
    rw [bank_isBank_1, bif_pos' (by simp)]
    show bnd (some c) _ = _
    rw [bnd_eq, hch, bnd_eq, hc, Bool.not_true, cond_false, waveOf_eq (G + 2) (by omega) c hc n hn, bnd_eq, silent_eq (G + 2) c n hn, bnd_eq, not_sil c n hn h, cond_false, hsub, bnd_eq, hcn, bnd_eq]
    unfold bank_isBank_2
    rw [cond_false, show w64 ((0 : Int) + 1) = 1 by decide, bank_isBank_1, bif_neg' (by simp)]
  unfold bank_CheckBank
  rw [bLength_eq, hin, bnd_eq, Bool.not_true, cond_false]
  unfold bank_isBank
  rw [bif_neg' (by simp), h1, bnd_eq]
  rfl
end Go.Ev.SearchFilled
