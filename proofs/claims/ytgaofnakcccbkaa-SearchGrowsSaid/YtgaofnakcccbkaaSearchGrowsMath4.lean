/- Triggers slid along a clock: what the program makes. -/
import Derived.Test.YtgaofnakcccbkaaSearchGrowsMath3
namespace Go.Ev.SearchGrows
open Go Go.Ev Go.Proofs
set_option linter.unusedVariables false
theorem mkz_ok {α : Type} {z : α} {n by' : Nat} (h1 : 1 ≤ n) (h : n ≤ 1000000) (hb : by' ≤ 64) : mkz (n : Int) by' z = some (List.replicate n z) := by
  obtain ⟨j, rfl⟩ : ∃ j, n = j + 1 := ⟨n - 1, by omega⟩
  have : 2 * (j + 1) * by' ≤ 2 * 1000000 * 64 := Nat.mul_le_mul (by omega) hb
  show (bif Nat.ble (j + 1) 4611686018427387904 && Nat.ble (2 * (j + 1) * by') 281474976710656 then some (List.replicate (j + 1) z) else none) = _
  rw [show Nat.ble (j + 1) 4611686018427387904 = true from Nat.ble_eq_true_of_le (by omega), show Nat.ble (2 * (j + 1) * by') 281474976710656 = true from Nat.ble_eq_true_of_le (by omega)]
  rfl
theorem concat_eq (F : Nat) (hF : 256 < F) (x y : List S_api_Trigger) (hx : x.length ≤ 256) (hy : y.length ≤ 256) : slices_Concat F [x, y] = some (x ++ y) := by
  obtain ⟨G, rfl⟩ : ∃ G, F = G + 3 := ⟨F - 3, by omega⟩
  have h4 : slices_Concat_4 (G + 3) [x, y] [] = some (x ++ y) := by
    unfold slices_Concat_4
    rw [slices_Concat_5, bif_pos' (by show (0 : Int) < 2; decide)]
    show bnd (some x) _ = _
    rw [bnd_eq, apd_ok (by simp; omega) (by omega), bnd_eq, List.nil_append, slices_Concat_5, bif_pos' (by show w64 (0 + 1) < (2 : Int); decide)]
    show bnd (some y) _ = _
    rw [bnd_eq, apd_ok (by omega) (by omega), bnd_eq, slices_Concat_5, bif_neg' (by show ¬ w64 (w64 (0 + 1) + 1) < (2 : Int); decide)]
  have h3 : slices_Concat_3 (G + 3) ((x.length : Int) + y.length) [x, y] = some (x ++ y) := by
    unfold slices_Concat_3
    rw [h4, show w64 ((0 : Int) - 0) = 0 by decide, Int.sub_zero, w64_id (by omega) (by omega)]
    by_cases h : (0 : Int) < (x.length : Int) + y.length
    · rw [bif_pos' h, show sub ([] : List S_api_Trigger) 0 0 = some [] from rfl, bnd_eq, show (x.length : Int) + y.length = ((x.length + y.length : Nat) : Int) by omega, mkz_ok (by omega) (by omega) (by omega)]
      rfl
    · rw [bif_neg' h]
  unfold slices_Concat
  rw [slices_Concat_1, bif_pos' (by show (0 : Int) < 2; decide)]
  show bnd (some x) _ = _
  rw [bnd_eq, Int.zero_add, w64_id (n := (x.length : Int)) (by omega) (by omega), bif_neg' (by omega)]
  unfold slices_Concat_2
  rw [slices_Concat_1, bif_pos' (by show w64 (0 + 1) < (2 : Int); decide)]
  show bnd (some y) _ = _
  rw [bnd_eq, w64_id (n := (x.length : Int) + y.length) (by omega) (by omega), bif_neg' (by omega)]
  unfold slices_Concat_2
  rw [slices_Concat_1, bif_neg' (by show ¬ w64 (w64 (0 + 1) + 1) < (2 : Int); decide), bif_neg' (by omega), h3]
theorem rotate_eq (F : Nat) (hF : 256 < F) (l : List S_api_Trigger) (hl : l.length ≤ 256) (i : Nat) (hi : i ≤ l.length) {k : Int} (hk : k = i) : search_rotate F l k = some (l.drop i ++ l.take i) := by
  unfold search_rotate
  rw [subcL l i hi hk, bnd_eq, subc0 l i hi hk, bnd_eq, concat_eq F hF _ _ (by rw [List.length_drop]; omega) (by rw [List.length_take]; omega)]
  rfl
def mv (T d : Int) (a : S_api_Trigger) : S_api_Trigger := ⟨Int.tmod (a.Time + d) T, a.Loud, a.Template⟩
def before (T d : Int) (a : S_api_Trigger) : Bool := decide (a.Time + d < T)
def rotd (T d : Int) (l : List S_api_Trigger) : List S_api_Trigger := l.dropWhile (before T d) ++ l.takeWhile (before T d)
def sld (T d : Int) (l : List S_api_Trigger) : List S_api_Trigger := (rotd T d l).map (mv T d)
theorem slide2 (F : Nat) (c : S_search_clock) (d : Int) (hd : 0 ≤ d ∧ d ≤ 1073741824) (hc : 1 ≤ c.live ∧ c.live ≤ 1073741824) (l : List S_api_Trigger) (hl : l.length ≤ 256) (hA : ∀ a ∈ l, okA a) : ∀ (k N j : Nat), k = l.length - j → j ≤ l.length → k < N →
    search_clock_slide_2 F N l.length j c d ((l.take j).map (mv c.live d) ++ l.drop j) = some (l.map (mv c.live d))
  | k, 0, j, _, _, h => by omega
  | 0, N + 1, j, hk, hj, _ => by
    rw [search_clock_slide_2, bif_neg' (by omega : ¬ ((j : Int) < l.length)), List.drop_of_length_le (by omega), List.take_of_length_le (by omega), List.append_nil]
  | k + 1, N + 1, j, hk, hj, hN => by
    obtain ⟨a, ha⟩ := get_lt (l := l) (i := j) (by omega)
    obtain ⟨a1, a2, _⟩ := hA a (List.mem_of_getElem? ha)
    have hlen : ((l.take j).map (mv c.live d)).length = j := by rw [List.length_map, List.length_take]; omega
    have hg : ((l.take j).map (mv c.live d) ++ l.drop j)[j]? = some a := by
      rw [List.getElem?_append_right (by omega), hlen, Nat.sub_self, List.getElem?_drop, Nat.add_zero, ha]
    have hll : ((l.take j).map (mv c.live d) ++ l.drop j).length = l.length := by rw [List.length_append, hlen, List.length_drop]; omega
    have hset : ((l.take j).map (mv c.live d) ++ l.drop j).set j (mv c.live d a) = (l.take (j + 1)).map (mv c.live d) ++ l.drop (j + 1) := by
      rw [List.set_append_right _ _ (by omega), hlen, Nat.sub_self, drop_get ha, List.set_cons_zero, List.take_add_one, ha, List.map_append, List.append_assoc]
      rfl
    rw [search_clock_slide_2, bif_pos' (by omega : ((j : Int) < l.length)), idx_nat, hg, bnd_eq, nz_ok (by omega), bnd_eq, inn_at (by omega), bnd_eq, hg, bnd_eq, w64_id (n := a.Time + d) (by omega) (by omega)]
    show bnd (upd _ (j : Int) (mv c.live d a)) _ = _
    rw [upd_at (by omega), bnd_eq, hset, up (by omega)]
    exact slide2 F c d hd hc l hl hA k N (j + 1) (by omega) (by omega) (by omega)
theorem slide2' (F : Nat) (hF : 256 < F) (c : S_search_clock) (d : Int) (hd : 0 ≤ d ∧ d ≤ 1073741824) (hc : 1 ≤ c.live ∧ c.live ≤ 1073741824) (l : List S_api_Trigger) (hl : l.length ≤ 256) (hA : ∀ a ∈ l, okA a) : search_clock_slide_2 F F l.length 0 c d l = some (l.map (mv c.live d)) :=
  slide2 F c d hd hc l hl hA l.length F 0 rfl (Nat.zero_le _) (Nat.lt_of_le_of_lt hl hF)
theorem rotd_mem {T d : Int} {l : List S_api_Trigger} {a : S_api_Trigger} (h : a ∈ rotd T d l) : a ∈ l := by
  rcases List.mem_append.1 h with h | h
  · exact List.dropWhile_sublist _ |>.mem h
  · exact List.takeWhile_sublist _ |>.mem h
theorem rotd_len (T d : Int) (l : List S_api_Trigger) : (rotd T d l).length = l.length := by
  have := congrArg List.length (List.takeWhile_append_dropWhile (p := before T d) (l := l))
  rw [List.length_append] at this
  rw [rotd, List.length_append]
  omega
theorem sld_len (T d : Int) (l : List S_api_Trigger) : (sld T d l).length = l.length := by rw [sld, List.length_map, rotd_len]
theorem sld_okA {T d : Int} (hd : 0 ≤ d) (hT : 1 ≤ T ∧ T ≤ 1073741824) {l : List S_api_Trigger} (hA : ∀ a ∈ l, okA a) : ∀ a ∈ sld T d l, okA a := by
  intro a ha
  obtain ⟨b, hb, rfl⟩ := List.mem_map.1 ha
  obtain ⟨b1, b2, b3, b4, b5, b6⟩ := hA b (rotd_mem hb)
  refine ⟨?_, ?_, b3, b4, b5, b6⟩
  · show 0 ≤ Int.tmod (b.Time + d) T
    rw [Int.tmod_eq_emod_of_nonneg (by omega)]
    exact Int.emod_nonneg _ (by omega)
  · show Int.tmod (b.Time + d) T ≤ _
    rw [Int.tmod_eq_emod_of_nonneg (by omega)]
    have := Int.emod_lt_of_pos (b.Time + d) (show 0 < T by omega)
    omega
theorem takeWhile_at {α : Type} {p : α → Bool} : ∀ {l : List α} {i : Nat} {a : α}, l[i]? = some a → (∀ b ∈ l.take i, p b = true) → p a = false → l.takeWhile p = l.take i ∧ l.dropWhile p = l.drop i
  | [], i, a, h, _, _ => by simp at h
  | x :: l, 0, a, h, _, h2 => by
    simp only [List.getElem?_cons_zero, Option.some.injEq] at h
    subst h
    rw [List.takeWhile_cons, List.dropWhile_cons, h2]
    simp
  | x :: l, i + 1, a, h, h1, h2 => by
    have hx := h1 x (by simp)
    obtain ⟨g1, g2⟩ := takeWhile_at (l := l) (i := i) (p := p) (by simpa using h) (fun b hb => h1 b (by simp [hb])) h2
    rw [List.takeWhile_cons, List.dropWhile_cons, hx]
    simp [g1, g2]
theorem takeWhile_all {α : Type} {p : α → Bool} {l : List α} (h : ∀ b ∈ l, p b = true) : l.takeWhile p = l ∧ l.dropWhile p = [] := by
  induction l with
  | nil => exact ⟨rfl, rfl⟩
  | cons x l ih =>
    obtain ⟨g1, g2⟩ := ih fun b hb => h b (List.mem_cons_of_mem _ hb)
    rw [List.takeWhile_cons, List.dropWhile_cons, h x List.mem_cons_self]
    simp [g1, g2]
theorem slide1 (F : Nat) (hF : 256 < F) (c : S_search_clock) (d : Int) (hd : 0 ≤ d ∧ d ≤ 1073741824) (hc : 1 ≤ c.live ∧ c.live ≤ 1073741824) (l : List S_api_Trigger) (hl : l.length ≤ 256) (hA : ∀ a ∈ l, okA a) : ∀ (k N i : Nat), k = l.length - i → i ≤ l.length → k < N → (∀ b ∈ l.take i, before c.live d b = true) →
    search_clock_slide_1 F N l l.length i l d c = some (sld c.live d l)
  | k, 0, i, _, _, h, _ => by omega
  | 0, N + 1, i, hk, hi, _, hb => by
    obtain ⟨g1, g2⟩ := takeWhile_all (p := before c.live d) (l := l) (by rw [List.take_of_length_le (by omega)] at hb; exact hb)
    have hr := rotate_eq F hF l hl 0 (Nat.zero_le _) (k := max (-1) 0) (by decide)
    rw [search_clock_slide_1, bif_neg' (by omega : ¬ ((i : Int) < l.length)), hr, bnd_eq, List.drop_zero, List.take_zero, List.append_nil, slide2' F hF c d hd hc l hl hA, sld, rotd, g1, g2, List.nil_append]
  | k + 1, N + 1, i, hk, hi, hN, hb => by
    obtain ⟨a, ha⟩ := get_lt (l := l) (i := i) (by omega)
    obtain ⟨a1, a2, _⟩ := hA a (List.mem_of_getElem? ha)
    rw [search_clock_slide_1, bif_pos' (by omega : ((i : Int) < l.length)), idx_nat, ha, bnd_eq, w64_id (n := a.Time + d) (by omega) (by omega)]
    by_cases h : c.live ≤ a.Time + d
    · obtain ⟨g1, g2⟩ := takeWhile_at (p := before c.live d) ha hb (decide_eq_false (by omega))
      have hr := rotate_eq F hF l hl i hi (k := max (i : Int) 0) (by omega)
      have hrr : l.drop i ++ l.take i = rotd c.live d l := by rw [rotd, g1, g2]
      rw [bif_pos' h, hr, bnd_eq, hrr, slide2' F hF c d hd hc _ (by rw [rotd_len]; exact hl) (fun b hb => hA b (rotd_mem hb)), sld]
    · rw [bif_neg' h, up (by omega)]
      refine slide1 F hF c d hd hc l hl hA k N (i + 1) (by omega) (by omega) (by omega) fun b hb' => ?_
      rw [List.take_add_one, ha] at hb'
      rcases List.mem_append.1 hb' with hb' | hb'
      · exact hb b hb'
      · simp only [Option.toList_some, List.mem_cons, List.not_mem_nil, or_false] at hb'
        subst hb'
        exact decide_eq_true (by omega)
theorem slide_eq (F : Nat) (hF : 256 < F) (c : S_search_clock) (d : Int) (hd : 0 ≤ d ∧ d ≤ 1073741824) (hc : 1 ≤ c.live ∧ c.live ≤ 1073741824) (l : List S_api_Trigger) (hl : l.length ≤ 256) (hA : ∀ a ∈ l, okA a) : search_clock_slide F c l d = some (sld c.live d l) := by
  unfold search_clock_slide
  exact slide1 F hF c d hd hc l hl hA l.length F 0 rfl (Nat.zero_le _) (by omega) (by simp)
end Go.Ev.SearchGrows
