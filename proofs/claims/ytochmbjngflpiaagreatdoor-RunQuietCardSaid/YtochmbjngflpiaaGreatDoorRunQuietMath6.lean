/- RunQuiet answers true. -/
import Derived.Test.YtochmbjngflpiaaGreatDoorRunQuietMath5
namespace Go.Ev.RunQuiet
open Go Go.Ev Go.Proofs
set_option linter.unusedVariables false
def rdyL (len : Int) : List Bool → Int → Int → List Int
  | [], _, _ => []
  | false :: r, s, t => rdyL len r (t + 1) (t + 1)
  | true :: r, s, t => if s ≤ t + 1 - len then (t + 1 - len) :: rdyL len r s (t + 1) else rdyL len r s (t + 1)
def posL : List Bool → Int → List Int
  | [], _ => []
  | false :: r, t => posL r (t + 1)
  | true :: r, t => t :: posL r (t + 1)
theorem rdyL_one : ∀ (l : List Bool) (s t : Int), s ≤ t → rdyL 1 l s t = posL l t
  | [], _, _, _ => rfl
  | false :: r, s, t, h => by
    rw [rdyL, posL]
    exact rdyL_one r (t + 1) (t + 1) (Int.le_refl _)
  | true :: r, s, t, h => by
    rw [rdyL, posL, if_pos (by omega), rdyL_one r s (t + 1) (by omega)]
    simp
theorem rdyL_len (len : Int) : ∀ (l : List Bool) (s t : Int), (rdyL len l s t).length ≤ l.length
  | [], _, _ => Nat.le_refl _
  | false :: r, s, t => by
    have := rdyL_len len r (t + 1) (t + 1)
    rw [rdyL, List.length_cons]; omega
  | true :: r, s, t => by
    have := rdyL_len len r s (t + 1)
    rw [rdyL]
    split
    · simp; exact this
    · simp; omega
theorem rd_ok (F : Nat) (q : List Bool) (hq : q.length ≤ 512) (len : Int) (h1 : 1 ≤ len) (h2 : len ≤ 512) : ∀ (k N t : Nat) (s : Int) (acc : List Int), k = q.length - t → t ≤ q.length → k < N → 0 ≤ s → s ≤ t → acc.length ≤ t → run_plan_ready_1 F N len s q.length t acc q = some (acc ++ rdyL len (q.drop t) s t)
  | k, 0, t, s, acc, _, _, h, _, _, _ => by omega
  | 0, N + 1, t, s, acc, hk, hi, _, _, _, _ => by
    rw [run_plan_ready_1, bif_neg' (by omega), List.drop_of_length_le (by omega : q.length ≤ t)]
    simp [rdyL]
  | k + 1, N + 1, t, s, acc, hk, hi, hN, hs0, hs1, ha => by
    obtain ⟨x, hx⟩ := get_lt (l := q) (i := t) (by omega)
    have e1 : w64 ((t : Int) + 1) = (t : Int) + 1 := w64_id (by omega) (by omega)
    have e2 : w64 ((t : Int) + 1 - len) = (t : Int) + 1 - len := w64_id (by omega) (by omega)
    have e3 : (t : Int) + 1 = ((t + 1 : Nat) : Int) := by simp
    rw [run_plan_ready_1, bif_pos' (by omega), idx_nat, hx, bnd_eq, drop_get hx]
    unfold run_plan_ready_2
    rw [e1, e2]
    cases x with
    | false =>
      rw [Bool.not_false, cond_true, rdyL, e3]
      exact rd_ok F q hq len h1 h2 k N (t + 1) _ acc (by omega) (by omega) (by omega) (by omega) (by omega) (by omega)
    | true =>
      rw [Bool.not_true, cond_false, rdyL]
      by_cases h : s ≤ (t : Int) + 1 - len
      · rw [bif_pos' h, if_pos h, apd_ok (by simp; omega) (by omega), bnd_eq, e3, rd_ok F q hq len h1 h2 k N (t + 1) s _ (by omega) (by omega) (by omega) hs0 (by omega) (by simp; omega)]
        simp
      · rw [bif_neg' h, if_neg h, e3]
        exact rd_ok F q hq len h1 h2 k N (t + 1) s acc (by omega) (by omega) (by omega) hs0 (by omega) (by omega)
def RdyP (q : List Bool) (len x : Int) : Prop := 0 ≤ x ∧ x + len ≤ q.length ∧ ∀ i : Nat, x ≤ i → (i : Int) < x + len → q[i]? = some true
theorem rd_mem1 (q : List Bool) (len : Int) (h1 : 1 ≤ len) : ∀ (k t : Nat) (s x : Int), k = q.length - t → t ≤ q.length → 0 ≤ s → s ≤ t → (∀ i : Nat, s ≤ i → i < t → q[i]? = some true) → x ∈ rdyL len (q.drop t) s t → RdyP q len x
  | 0, t, s, x, hk, hi, _, _, _, h => by
    rw [List.drop_of_length_le (by omega : q.length ≤ t)] at h
    simp [rdyL] at h
  | k + 1, t, s, x, hk, hi, hs0, hs1, hall, h => by
    obtain ⟨b, hb⟩ := get_lt (l := q) (i := t) (by omega)
    have e3 : (t : Int) + 1 = ((t + 1 : Nat) : Int) := by simp
    rw [drop_get hb] at h
    cases b with
    | false =>
      rw [rdyL, e3] at h
      exact rd_mem1 q len h1 k (t + 1) _ x (by omega) (by omega) (by omega) (by omega) (fun i g1 g2 => absurd (Int.ofNat_le.1 g1) (Nat.not_le.2 g2)) h
    | true =>
      have hall' : ∀ i : Nat, s ≤ i → i < t + 1 → q[i]? = some true := fun i g1 g2 => by
        by_cases e : i = t
        · subst e; exact hb
        · exact hall i g1 (by omega)
      rw [rdyL] at h
      have rc : x ∈ rdyL len (q.drop (t + 1)) s ((t : Int) + 1) → RdyP q len x := fun h => by
        rw [e3] at h
        exact rd_mem1 q len h1 k (t + 1) s x (by omega) (by omega) hs0 (by omega) hall' h
      split at h
      · rename_i hle
        rcases List.mem_cons.1 h with rfl | h
        · clear rc e3 hb hall
          exact ⟨by omega, by omega, fun i g1 g2 => hall' i (by omega) (by omega)⟩
        · exact rc h
      · exact rc h
theorem rd_mem2 (q : List Bool) (len : Int) (h1 : 1 ≤ len) (x : Int) (hx : RdyP q len x) : ∀ (k t : Nat) (s : Int), k = q.length - t → t ≤ q.length → 0 ≤ s → s ≤ t → (s = 0 ∨ ∃ j : Nat, s = j + 1 ∧ q[j]? = some false) → (t : Int) ≤ x + len - 1 → x ∈ rdyL len (q.drop t) s t
  | 0, t, s, hk, hi, _, _, _, h => by
    have := hx.2.1
    omega
  | k + 1, t, s, hk, hi, hs0, hs1, hf, h => by
    obtain ⟨b, hb⟩ := get_lt (l := q) (i := t) (by clear hf; omega)
    have e3 : (t : Int) + 1 = ((t + 1 : Nat) : Int) := by simp
    obtain ⟨g0, g1, g2⟩ := hx
    rw [drop_get hb]
    cases b with
    | false =>
      rw [rdyL, e3]
      by_cases e : (t : Int) = x + len - 1
      · have := g2 t (by clear hf; omega) (by clear hf; omega)
        rw [hb] at this
        simp at this
      · exact rd_mem2 q len h1 x ⟨g0, g1, g2⟩ k (t + 1) _ (by clear hf; omega) (by clear hf; omega) (by clear hf; omega) (by clear hf; omega) (.inr ⟨t, by simp, hb⟩) (by clear hf; omega)
    | true =>
      rw [rdyL]
      by_cases e : (t : Int) = x + len - 1
      · have hsx : s ≤ (t : Int) + 1 - len := by
          rcases hf with h0 | ⟨j, hj, hq⟩
          · omega
          · apply Classical.byContradiction
            intro hn
            have := g2 j (by omega) (by omega)
            rw [hq] at this
            simp at this
        rw [if_pos hsx]
        exact List.mem_cons.2 (.inl (by clear hf; omega))
      · have := rd_mem2 q len h1 x ⟨g0, g1, g2⟩ k (t + 1) s (by clear hf; omega) (by clear hf; omega) hs0 (by clear hf; omega) hf (by clear hf; omega)
        rw [← e3] at this
        split
        · exact List.mem_cons_of_mem _ this
        · exact this
def cntB : List Bool → Nat
  | [] => 0
  | b :: r => cond b 1 0 + cntB r
theorem posL_len : ∀ (l : List Bool) (t : Int), (posL l t).length = cntB l
  | [], _ => rfl
  | false :: r, t => by rw [posL, cntB, posL_len r]; simp
  | true :: r, t => by rw [posL, cntB, List.length_cons, posL_len r]; simp; omega
theorem cntB_le : ∀ l : List Bool, cntB l ≤ l.length
  | [] => Nat.le_refl _
  | b :: r => by
    have := cntB_le r
    rw [cntB, List.length_cons]
    cases b <;> simp <;> omega
theorem cnt_le : ∀ (b a : List Bool), (∀ i : Nat, b[i]? = some true → a[i]? = some true) → cntB b ≤ cntB a
  | [], a, _ => Nat.zero_le _
  | x :: b, [], h => by
    have := cnt_le b [] fun i hi => by have := h (i + 1) (by simpa using hi); simp at this
    cases x with
    | false =>
      have h0 : cntB b ≤ 0 := this
      show cond false 1 0 + cntB b ≤ 0
      simp; omega
    | true => have := h 0 rfl; simp at this
  | x :: b, y :: a, h => by
    have := cnt_le b a fun i hi => by simpa using h (i + 1) (by simpa using hi)
    rw [cntB, cntB]
    cases x with
    | false => cases y <;> simp <;> omega
    | true =>
      have hy : y = true := by simpa using h 0 rfl
      subst hy
      simp; omega
theorem tal1 (F : Nat) (q : List Bool) (hq : q.length ≤ 512) (c : S_api_Tally) : ∀ (k N i m : Nat), k = q.length - i → i ≤ q.length → k < N → m ≤ i → run_tally_1 F N q m q q.length i c = some (S_api_Tally.mk ((m + cntB (q.drop i) : Nat) : Int) (q.length : Int))
  | k, 0, i, m, _, _, h, _ => by omega
  | 0, N + 1, i, m, hk, hi, _, hm => by
    rw [run_tally_1, bif_neg' (by omega), List.drop_of_length_le (by omega : q.length ≤ i)]
    rfl
  | k + 1, N + 1, i, m, hk, hi, hN, hm => by
    obtain ⟨x, hx⟩ := get_lt (l := q) (i := i) (by omega)
    rw [run_tally_1, bif_pos' (by omega), idx_nat, hx, bnd_eq, drop_get hx, cntB]
    unfold run_tally_2
    cases x with
    | true =>
      rw [cond_true, up (i := m) (by omega), up (i := i) (by omega), tal1 F q hq c k N (i + 1) (m + 1) (by omega) (by omega) (by omega) (by omega)]
      congr 2
      simp; omega
    | false =>
      rw [cond_false, up (i := i) (by omega), tal1 F q hq c k N (i + 1) m (by omega) (by omega) (by omega) (by omega)]
      congr 2
      simp
theorem tally_ok (F : Nat) (hF : 1000 < F) (q : List Bool) (hq : q.length ≤ 512) : run_tally F q = some (S_api_Tally.mk (cntB q : Int) (q.length : Int)) := by
  have := tal1 F q hq (S_api_Tally.mk 0 0) q.length F 0 0 rfl (by omega) (by omega) (by omega)
  rw [List.drop_zero, Nat.zero_add] at this
  exact this
theorem tls1 (F : Nat) (hF : 1000 < F) (a b : List Bool) (n : Nat) (hn : n ≤ 512) (ha : a.length = n) (hb : b.length = n) : ∀ (k N t : Nat) (l : List Bool), k = n - t → t ≤ n → k < N → l.length = n → (∀ i : Nat, l[i]? = some true → a[i]? = some true ∧ b[i]? = some true) → ∃ m : Nat, m ≤ cntB a ∧ m ≤ cntB b ∧ run_plan_tallies_1 F N n t a b l = some [S_api_Tally.mk (cntB a : Int) (n : Int), S_api_Tally.mk (cntB b : Int) (n : Int), S_api_Tally.mk (m : Int) (n : Int)]
  | k, 0, t, l, _, _, h, _, _ => by omega
  | 0, N + 1, t, l, hk, hi, _, hl, hp => by
    refine ⟨cntB l, cnt_le l a fun i h => (hp i h).1, cnt_le l b fun i h => (hp i h).2, ?_⟩
    rw [run_plan_tallies_1, bif_neg' (by omega), tally_ok F hF a (by omega), bnd_eq, tally_ok F hF b (by omega), bnd_eq, tally_ok F hF l (by omega), bnd_eq, ha, hb, hl]
  | k + 1, N + 1, t, l, hk, hi, hN, hl, hp => by
    obtain ⟨x, hx⟩ := get_lt (l := a) (i := t) (by omega)
    obtain ⟨y, hy⟩ := get_lt (l := b) (i := t) (by omega)
    rw [run_plan_tallies_1, bif_pos' (by omega), idx_nat, hx, bnd_eq]
    have key : ∀ v : Bool, (v = true → x = true ∧ y = true) → ∃ m : Nat, m ≤ cntB a ∧ m ≤ cntB b ∧ run_plan_tallies_2 F (run_plan_tallies_1 F N) n t t v a b l = some [S_api_Tally.mk (cntB a : Int) (n : Int), S_api_Tally.mk (cntB b : Int) (n : Int), S_api_Tally.mk (m : Int) (n : Int)] := by
      intro v hv
      unfold run_plan_tallies_2
      rw [inn_at (by omega), bnd_eq, upd_at (by omega), bnd_eq, up (by omega)]
      refine tls1 F hF a b n hn ha hb k N (t + 1) (l.set t v) (by omega) (by omega) (by omega) (by simp; exact hl) (fun i h => ?_)
      by_cases e : t = i
      · subst e
        rw [List.getElem?_set_self (by omega)] at h
        obtain ⟨g1, g2⟩ := hv (by simpa using h)
        exact ⟨by rw [hx, g1], by rw [hy, g2]⟩
      · rw [List.getElem?_set_ne e] at h
        exact hp i h
    cases x with
    | false => exact key false (fun h => by simp at h)
    | true =>
      rw [cond_true, idx_nat, hy, bnd_eq]
      exact key y (fun h => ⟨rfl, h⟩)
theorem tls_ok (F : Nat) (hF : 1000 < F) (p : S_run_plan) (g : Good F p) (a b : List Bool) (ha : run_plan_quiet F p 0 = some a) (hb : run_plan_quiet F p 1 = some b) (la : a.length = p.data.e0.length) (lb : b.length = p.data.e0.length) : ∃ m : Nat, m ≤ cntB a ∧ m ≤ cntB b ∧ run_plan_tallies F p = some [S_api_Tally.mk (cntB a : Int) (p.data.e0.length : Int), S_api_Tally.mk (cntB b : Int) (p.data.e0.length : Int), S_api_Tally.mk (m : Int) (p.data.e0.length : Int)] := by
  have g2 := g.top
  obtain ⟨m, h1, h2, h3⟩ := tls1 F hF a b p.data.e0.length g2 la lb p.data.e0.length F 0 (List.replicate p.data.e0.length false) rfl (by omega) (by omega) (by simp) (fun i h => by
    rw [List.getElem?_replicate] at h
    split at h <;> simp at h)
  refine ⟨m, h1, h2, ?_⟩
  unfold run_plan_tallies run_plan_span
  rw [ha, bnd_eq, hb, bnd_eq, bnd_eq, mk_ok (by omega) (by omega), bnd_eq, List.length_replicate]
  exact h3
theorem same1 (F : Nat) (l : List Int) (hl : l.length ≤ 1000) : ∀ (k N i : Nat), k = l.length - i → i ≤ l.length → k < N → ref00_SameInts_1 F N l l i = some true
  | k, 0, i, _, _, h => by omega
  | 0, N + 1, i, hk, hi, _ => by rw [ref00_SameInts_1, bif_neg' (by omega)]
  | k + 1, N + 1, i, hk, hi, hN => by
    obtain ⟨x, hx⟩ := get_lt (l := l) (i := i) (by omega)
    rw [ref00_SameInts_1, bif_pos' (by omega), idx_nat, hx, bnd_eq, bnd_eq, beq_self_eq_true, Bool.not_true, cond_false, up (by omega)]
    exact same1 F l hl k N (i + 1) (by omega) (by omega) (by omega)
theorem same_ok (F : Nat) (hF : 1000 < F) (l : List Int) (hl : l.length ≤ 1000) : ref00_SameInts F l l = some true := by
  unfold ref00_SameInts
  rw [beq_self_eq_true, Bool.not_true, cond_false]
  exact same1 F l hl l.length F 0 rfl (by omega) (by omega)
theorem find1 (F : Nat) (l : List Int) (x : Int) (hl : l.length ≤ 1000) : ∀ (k N i : Nat), k = l.length - i → i ≤ l.length → k < N → x ∈ l.drop i → ∃ j : Nat, ref00_Find_1 F N l x i = some (j : Int)
  | k, 0, i, _, _, h, _ => by omega
  | 0, N + 1, i, hk, hi, _, h => by
    rw [List.drop_of_length_le (by omega : l.length ≤ i)] at h
    simp at h
  | k + 1, N + 1, i, hk, hi, hN, h => by
    obtain ⟨y, hy⟩ := get_lt (l := l) (i := i) (by omega)
    rw [drop_get hy] at h
    rw [ref00_Find_1, bif_pos' (by omega), idx_nat, hy, bnd_eq]
    by_cases e : y = x
    · subst e
      rw [beq_self_eq_true, cond_true]
      exact ⟨i, rfl⟩
    · have e' : (y == x) = false := by simp [e]
      rw [e', cond_false, up (by omega)]
      exact find1 F l x hl k N (i + 1) (by omega) (by omega) (by omega) ((List.mem_cons.1 h).resolve_left (fun h => e h.symm))
theorem find_ok (F : Nat) (hF : 1000 < F) (l : List Int) (x : Int) (hl : l.length ≤ 1000) (h : x ∈ l) : ∃ j : Nat, ref00_Find F l x = some (j : Int) :=
  find1 F l x hl l.length F 0 rfl (by omega) (by omega) (by rw [List.drop_zero]; exact h)
theorem Mod_ex (F : Nat) (x n : Int) (h1 : 1 ≤ n) (h2 : n ≤ 1000) : ∃ r, ref00_Mod F x n = some r ∧ 0 ≤ r ∧ r < n := by
  unfold ref00_Mod ref00_Mod_1
  rw [bif_neg' (by omega), nz_ok (by omega), bnd_eq]
  have g1 : Int.tmod x n < n := Int.tmod_lt_of_pos x (by omega)
  have g2 : -n < Int.tmod x n := by
    have := Int.lt_tmod_of_pos x (show 0 < n by omega)
    omega
  by_cases h : Int.tmod x n < 0
  · rw [bif_pos' h, w64_id (by omega) (by omega)]
    exact ⟨_, rfl, by omega, by omega⟩
  · rw [bif_neg' h]
    exact ⟨_, rfl, by omega, by omega⟩
section
variable (F : Nat) (hF : 1000 < F) (a : S_api_Plan) (d : Int) (hd : d = 0 ∨ d = 1)
theorem det_ok (hF : 1000 < F) (hd : d = 0 ∨ d = 1) (hc : run_Check F a = some 0) : run_checkDetector F a d = some 0 := by
  unfold run_checkDetector run_isDetector
  rw [hc, bnd_eq, show (!((0 : Int) == 0)) = false from rfl, cond_false, isFrom_eq, bnd_eq, bnd_eq]
  have : inR 0 d 1 = true := inR_iff.2 (by omega)
  rw [this]
  rfl
theorem det_bad (r : Int) (hr : r ≠ 0) (hc : run_Check F a = some r) : run_checkDetector F a d = some r := by
  unfold run_checkDetector
  rw [hc, bnd_eq, show (!(r == 0)) = true by simp [hr], cond_true]
theorem Ready_ok (hF : 1000 < F) (hd : d = 0 ∨ d = 1) (hc : run_Check F a = some 0) (q : List Bool) (hq : run_plan_quiet F (planO a) d = some q) (hl : q.length ≤ 512) (len : Int) (h1 : 1 ≤ len) (h2 : len ≤ 512) : run_Ready F a d len = some (rdyL len q 0 0, 0) := by
  unfold run_Ready
  rw [det_ok F a d hF hd hc, bnd_eq, show (!((0 : Int) == 0)) = false from rfl, cond_false, isFrom_eq, bnd_eq]
  have e : inR 1 len 512 = true := inR_iff.2 (by omega)
  rw [e, Bool.not_true, cond_false]
  unfold run_plan_ready
  show bnd (bnd (run_plan_quiet F (planO a) d) _) _ = _
  rw [hq, bnd_eq]
  have := rd_ok F q hl len h1 h2 q.length F 0 0 [] rfl (by omega) (by omega) (Int.le_refl _) (by omega) (by simp)
  rw [List.drop_zero, List.nil_append] at this
  show bnd (run_plan_ready_1 F F len 0 q.length ((0 : Nat) : Int) [] q) _ = _
  rw [this, bnd_eq]
  rfl
end
theorem law8 (F : Nat) (hF : 1000 < F) (hw : works F = some true) (l m : List Int) (hl : l.length ≤ 512) (hm : m.length ≤ 512) (h : ∀ x ∈ l, x ∈ m) : ∀ (k N i : Nat), k = l.length - i → i ≤ l.length → k < N → law11_RunQuiet_8 F N i l m = some true
  | k, 0, i, _, _, h => by omega
  | 0, N + 1, i, hk, hi, _ => by
    rw [law11_RunQuiet_8, bif_neg' (by omega), hw]
    rfl
  | k + 1, N + 1, i, hk, hi, hN => by
    obtain ⟨x, hx⟩ := get_lt (l := l) (i := i) (by omega)
    obtain ⟨j, hj⟩ := find_ok F hF m x (by omega) (h x (List.mem_of_getElem? hx))
    rw [law11_RunQuiet_8, bif_pos' (by omega), idx_nat, hx, bnd_eq, hj, bnd_eq, bif_neg' (by omega), up (by omega)]
    exact law8 F hF hw l m hl hm h k N (i + 1) (by omega) (by omega) (by omega)
theorem law4 (F : Nat) (hF : 1000 < F) (d : Int) (c0 : List S_api_Duty) (c1 : List S_api_Segment) (c2 c3 : List S_api_Veto) (c4 c5 : List Int) (x : S_ringdownlaw11_Look) (q : List Bool) (hq : q.length ≤ 512) (ta tb : S_api_Tally) (tl : List S_api_Tally) (h2 : idx tl d = some ta) (h3 : idx tl 2 = some tb) (e1 : ta.N = cntB q) (e2 : ta.Of = q.length) (e3 : ¬ ta.N < tb.N) : ∀ (k N i : Nat) (acc : List Int), k = q.length - i → i ≤ q.length → k < N → acc.length ≤ i → acc ++ posL (q.drop i) i = posL q 0 →
    law11_RunQuiet_4 F N d i c0 c1 c2 c3 c4 c5 x q (posL q 0) tl acc = law11_RunQuiet_6 F d false c0 c1 c2 c3 c4 c5 x
  | k, 0, i, acc, _, _, h, _, _ => by omega
  | 0, N + 1, i, acc, hk, hi, _, ha, hp => by
    rw [List.drop_of_length_le (by omega : q.length ≤ i)] at hp
    have hp' : acc = posL q 0 := by simpa [posL] using hp
    subst hp'
    have hpl := posL_len q 0
    have hcl := cntB_le q
    rw [law11_RunQuiet_4, bif_neg' (by omega), same_ok F hF (posL q 0) (by omega), bnd_eq, Bool.not_true, cond_false, h2, bnd_eq, e1, e2, hpl, beq_self_eq_true, beq_self_eq_true, Bool.and_self, Bool.and_self, Bool.not_true, cond_false, h3, bnd_eq, bnd_eq, decide_eq_false e3]
  | k + 1, N + 1, i, acc, hk, hi, hN, ha, hp => by
    obtain ⟨b, hb⟩ := get_lt (l := q) (i := i) (by omega)
    have e3' : (i : Int) + 1 = ((i + 1 : Nat) : Int) := by simp
    rw [drop_get hb] at hp
    rw [law11_RunQuiet_4, bif_pos' (by omega), idx_nat, hb, bnd_eq]
    unfold law11_RunQuiet_5
    rw [up (by omega)]
    cases b with
    | true =>
      rw [posL, e3'] at hp
      rw [cond_true, apd_ok (by simp; omega) (by omega), bnd_eq]
      exact law4 F hF d c0 c1 c2 c3 c4 c5 x q hq ta tb tl h2 h3 e1 e2 e3 k N (i + 1) (acc ++ [(i : Int)]) (by omega) (by omega) (by omega) (by simp; omega) (by rw [List.append_assoc]; exact hp)
    | false =>
      rw [posL, e3'] at hp
      exact law4 F hF d c0 c1 c2 c3 c4 c5 x q hq ta tb tl h2 h3 e1 e2 e3 k N (i + 1) acc (by omega) (by omega) (by omega) (by omega) hp
theorem law_eq (F : Nat) (a : S_api_Plan) (x : S_ringdownlaw11_Look) (hF : 1000 < F) (hw : works F = some true) : law11_RunQuiet F a x = some true := by
  obtain ⟨d, hd, hd1, hd2⟩ := Mod_ex F x.Detector 2 (by omega) (by omega)
  have hdd : d = 0 ∨ d = 1 := by omega
  obtain ⟨r, hr, hr1, hr2⟩ := Check_ex F hF a
  unfold law11_RunQuiet run_Quiet
  rw [hd, bnd_eq]
  by_cases h : r = 0
  · subst h
    have g := hr2 rfl
    obtain ⟨q0, hq0, l0⟩ := quiet_ex F hF (planO a) g 0 (.inl rfl)
    obtain ⟨q1, hq1, l1⟩ := quiet_ex F hF (planO a) g 1 (.inr rfl)
    obtain ⟨q, hq, lq⟩ := quiet_ex F hF (planO a) g d hdd
    have top := g.top
    obtain ⟨m, m0, m1, ht⟩ := tls_ok F hF (planO a) g q0 q1 hq0 hq1 l0 l1
    have hD : run_Duty F a = some ([S_api_Tally.mk (cntB q0 : Int) ((planO a).data.e0.length : Int), S_api_Tally.mk (cntB q1 : Int) ((planO a).data.e0.length : Int), S_api_Tally.mk (m : Int) ((planO a).data.e0.length : Int)], 0) := by
      unfold run_Duty
      rw [hr, bnd_eq, show (!((0 : Int) == 0)) = false from rfl, cond_false]
      show bnd (run_plan_tallies F (planO a)) _ = _
      rw [ht, bnd_eq]
    rw [det_ok F a d hF hdd hr, bnd_eq, show (!((0 : Int) == 0)) = false from rfl, cond_false]
    show bnd (bnd (run_plan_quiet F (planO a) d) _) _ = _
    rw [hq, bnd_eq, bnd_eq]
    show (bif (!((0 : Int) == 0)) then _ else bnd (run_Ready F a d 1) _) = _
    rw [show (!((0 : Int) == 0)) = false from rfl, cond_false, Ready_ok F a d hF hdd hr q hq (by omega) 1 (by omega) (by omega), bnd_eq, hD, bnd_eq]
    show (bif (!((0 : Int) == 0)) then _ else law11_RunQuiet_2 F d (!((0 : Int) == 0)) a.Duties a.Work a.Vetoes.e0 a.Vetoes.e1 a.Data.e0 a.Data.e1 x q (rdyL 1 q 0 0) [S_api_Tally.mk (cntB q0 : Int) ((planO a).data.e0.length : Int), S_api_Tally.mk (cntB q1 : Int) ((planO a).data.e0.length : Int), S_api_Tally.mk (m : Int) ((planO a).data.e0.length : Int)]) = _
    rw [show (!((0 : Int) == 0)) = false from rfl, cond_false]
    unfold law11_RunQuiet_2 law11_RunQuiet_3
    rw [cond_false, rdyL_one q 0 0 (Int.le_refl _)]
    have e3 : (!((([S_api_Tally.mk (cntB q0 : Int) ((planO a).data.e0.length : Int), S_api_Tally.mk (cntB q1 : Int) ((planO a).data.e0.length : Int), S_api_Tally.mk (m : Int) ((planO a).data.e0.length : Int)] : List S_api_Tally).length : Int) == (3 : Int))) = false := rfl
    rw [e3, cond_false]
    have l4 : law11_RunQuiet_4 F F d ((0 : Nat) : Int) a.Duties a.Work a.Vetoes.e0 a.Vetoes.e1 a.Data.e0 a.Data.e1 x q (posL q 0) [S_api_Tally.mk (cntB q0 : Int) ((planO a).data.e0.length : Int), S_api_Tally.mk (cntB q1 : Int) ((planO a).data.e0.length : Int), S_api_Tally.mk (m : Int) ((planO a).data.e0.length : Int)] [] = law11_RunQuiet_6 F d false a.Duties a.Work a.Vetoes.e0 a.Vetoes.e1 a.Data.e0 a.Data.e1 x := by
      rcases hdd with rfl | rfl
      · rw [hq0] at hq
        cases Option.some.inj hq
        exact law4 F hF 0 _ _ _ _ _ _ x q0 (by omega) _ _ _ rfl rfl rfl (by show ((planO a).data.e0.length : Int) = _; omega) (by show ¬ (cntB q0 : Int) < (m : Int); omega) q0.length F 0 [] rfl (by omega) (by omega) (by simp) (by simp)
      · rw [hq1] at hq
        cases Option.some.inj hq
        exact law4 F hF 1 _ _ _ _ _ _ x q1 (by omega) _ _ _ rfl rfl rfl (by show ((planO a).data.e0.length : Int) = _; omega) (by show ¬ (cntB q1 : Int) < (m : Int); omega) q1.length F 0 [] rfl (by omega) (by omega) (by simp) (by simp)
    refine Eq.trans l4 ?_
    obtain ⟨s, hs, hs1, hs2⟩ := Mod_ex F x.Length 40 (by omega) (by omega)
    unfold law11_RunQuiet_6
    rw [cond_false, hs, bnd_eq, w64_id (n := 2 + s) (by omega) (by omega), w64_id (n := 2 + s - 1) (by omega) (by omega)]
    show bnd (run_Ready F a d (2 + s)) _ = _
    rw [Ready_ok F a d hF hdd hr q hq (by omega) (2 + s) (by omega) (by omega), bnd_eq]
    show bnd (run_Ready F a d (2 + s - 1)) _ = _
    rw [Ready_ok F a d hF hdd hr q hq (by omega) (2 + s - 1) (by omega) (by omega), bnd_eq]
    have g1 := rdyL_len (2 + s) q 0 0
    have g2 := rdyL_len (2 + s - 1) q 0 0
    have sub : ∀ y ∈ rdyL (2 + s) q 0 0, y ∈ rdyL (2 + s - 1) q 0 0 := fun y hy => by
      have hy' : y ∈ rdyL (2 + s) (q.drop 0) 0 ((0 : Nat) : Int) := by rw [List.drop_zero]; exact hy
      obtain ⟨p1, p2, p3⟩ := rd_mem1 q (2 + s) (by omega) q.length 0 0 y rfl (by omega) (Int.le_refl _) (by omega) (fun i _ h => by omega) hy'
      have := rd_mem2 q (2 + s - 1) (by omega) y ⟨p1, by omega, fun i k1 k2 => p3 i k1 (by omega)⟩ q.length 0 0 rfl (by omega) (Int.le_refl _) (by omega) (.inl rfl) (by omega)
      rw [List.drop_zero] at this
      exact this
    show (bif (!((0 : Int) == 0)) then _ else law11_RunQuiet_7 F (!((0 : Int) == 0)) (rdyL (2 + s) q 0 0) (rdyL (2 + s - 1) q 0 0)) = _
    rw [show (!((0 : Int) == 0)) = false from rfl, cond_false]
    unfold law11_RunQuiet_7
    rw [cond_false]
    exact law8 F hF hw _ _ (by omega) (by omega) sub _ F 0 rfl (by omega) (by omega)
  · rw [det_bad F a d r h hr, bnd_eq, show (!(r == 0)) = true by simp [h], cond_true, bnd_eq]
    show (bif (!(r == 0)) then _ else _) = _
    rw [show (!(r == 0)) = true by simp [h], cond_true]
    show bnd (works F) _ = _
    rw [hw]
    rfl
end Go.Ev.RunQuiet
