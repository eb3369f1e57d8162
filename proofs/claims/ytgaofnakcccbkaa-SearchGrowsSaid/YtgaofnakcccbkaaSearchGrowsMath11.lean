/- Chances: the program's and the specification's count alike. -/
import Derived.Test.YtgaofnakcccbkaaSearchGrowsMath10
namespace Go.Ev.SearchGrows
open Go Go.Ev Go.Proofs
set_option linter.unusedVariables false
def cnt (x : Int) (l : List Int) : Nat := l.countP fun s => decide (x ≤ s)
theorem cnt_cons (x s : Int) (l : List Int) : cnt x (s :: l) = cnt x l + (if x ≤ s then 1 else 0) := by
  unfold cnt
  rw [List.countP_cons]
  simp
theorem chance1 (F : Nat) (l : List Int) (x : Int) (c : S_api_Chance) (hl : l.length ≤ 1000000) : ∀ (k N i n : Nat), k = l.length - i → i ≤ l.length → k < N → n ≤ i →
    search_chance_1 F N l x n l l.length i c = some ⟨max ((n + cnt x (l.drop i) : Nat) : Int) 1, l.length⟩
  | k, 0, i, n, _, _, h, _ => by omega
  | 0, N + 1, i, n, hk, hi, _, _ => by
    rw [search_chance_1, bif_neg' (by omega : ¬ ((i : Int) < l.length)), List.drop_of_length_le (by omega)]
    rfl
  | k + 1, N + 1, i, n, hk, hi, hN, hn => by
    obtain ⟨s, hs⟩ := get_lt (l := l) (i := i) (by omega)
    rw [search_chance_1, bif_pos' (by omega : ((i : Int) < l.length)), idx_nat, hs, bnd_eq, drop_get hs, cnt_cons]
    unfold search_chance_2
    rw [up (by omega), up (by omega)]
    by_cases h : x ≤ s
    · rw [bif_pos' h, chance1 F l x c hl k N (i + 1) (n + 1) (by omega) (by omega) (by omega) (by omega), if_pos h, show n + 1 + cnt x (l.drop (i + 1)) = n + (cnt x (l.drop (i + 1)) + 1) by omega]
    · rw [bif_neg' h, chance1 F l x c hl k N (i + 1) n (by omega) (by omega) (by omega) (by omega), if_neg h]; simp only [Nat.add_zero]
theorem chance_eq (F : Nat) (l : List Int) (x : Int) (hF : l.length < F) (hl : l.length ≤ 1000000) : search_chance F l x = some ⟨max ((cnt x l : Nat) : Int) 1, l.length⟩ := by
  unfold search_chance
  have := chance1 F l x ⟨0, 0⟩ hl l.length F 0 0 (by omega) (by omega) (by omega) (by omega)
  rw [List.drop_zero, Nat.zero_add] at this
  exact this
end Go.Ev.SearchGrows
