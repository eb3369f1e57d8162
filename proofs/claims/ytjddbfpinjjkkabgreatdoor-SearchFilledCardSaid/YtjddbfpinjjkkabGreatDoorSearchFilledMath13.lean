/- What is laid on zeros; the hits as triggers. -/
import Derived.Test.YtjddbfpinjjkkabGreatDoorSearchFilledMath12
namespace Go.Ev.SearchFilled
open Go Go.Ev Go.Proofs
set_option linter.unusedVariables false
theorem addS_zero (q : Int) : ∀ (S pre : List Int) (m : Nat), S.length ≤ m → (∀ s ∈ S, -1000000 ≤ q * s ∧ q * s ≤ 1000000) → addS q (pre ++ List.replicate m 0) pre.length S = pre ++ S.map (fun s => q * s) ++ List.replicate (m - S.length) 0
  | [], pre, m, _, _ => by simp [addS]
  | s :: r, pre, 0, h, _ => by simp at h
  | s :: r, pre, m + 1, h, hb => by
    have hs := hb s List.mem_cons_self
    have ih := addS_zero q r (pre ++ [q * s]) m (by simpa using h) fun x hx => hb x (List.mem_cons_of_mem _ hx)
    have e1 : (pre ++ List.replicate (m + 1) (0 : Int))[pre.length]? = some 0 := by
      rw [List.getElem?_append_right (Nat.le_refl _), Nat.sub_self]
      rfl
    have e2 : (pre ++ List.replicate (m + 1) (0 : Int)).set pre.length (q * s) = (pre ++ [q * s]) ++ List.replicate m 0 := by
      rw [List.set_append_right _ _ (Nat.le_refl _), Nat.sub_self, List.append_assoc]
      rfl
    have e3 : pre.length + 1 = (pre ++ [q * s]).length := by simp
    have e4 : w64 ((some (0 : Int)).getD 0 + w64 (q * s)) = q * s := by
      rw [Option.getD_some, w64_id (n := q * s) (by omega) (by omega), w64_id (by omega) (by omega)]
      omega
    rw [addS, e1, e4, e2, e3, ih]
    simp
theorem dot_scale (g : Int) (z : List Int) : ∀ a b : List Int, a.length = b.length → dot a (b.map (fun s => g * s) ++ z) = g * dot a b
  | [], [], _ => by simp [dot]
  | x :: r, y :: k, h => by
    have ih := dot_scale g z r k (by simpa using h)
    rw [List.map_cons, List.cons_append, dot, dot, ih]
    grind
  | [], y :: k, h => by simp at h
  | x :: r, [], h => by simp at h
def dF (c : S_api_Chirp) (A : Nat) (g : Int) : List Int := List.replicate A 0 ++ (wvL c 8).map (fun s => g * s) ++ List.replicate (32 - A) 0
theorem dF_len (c : S_api_Chirp) (A : Nat) (g : Int) (h : A ≤ 32) : (dF c A g).length = 40 := by
  unfold dF
  rw [List.length_append, List.length_append, List.length_map, wvL_len, List.length_replicate, List.length_replicate]
  omega
theorem gs_in (c : S_api_Chirp) (g : Int) (hg : 1 ≤ g ∧ g ≤ 64) : ∀ s ∈ wvL c 8, -8128 ≤ g * s ∧ g * s ≤ 8128 := fun s hs => by
  have := mul_in (a := g) (b := s) (x := 64) (y := 127) (by omega) (wvL_in c 8 s hs) (by omega) (by omega)
  omega
theorem dF_in (c : S_api_Chirp) (A : Nat) (g : Int) (hg : 1 ≤ g ∧ g ≤ 64) : ∀ x ∈ dF c A g, -8128 ≤ x ∧ x ≤ 8128 := fun x hx => by
  unfold dF at hx
  rcases List.mem_append.1 hx with hx | hx
  · rcases List.mem_append.1 hx with hx | hx
    · rw [List.eq_of_mem_replicate hx]; omega
    · obtain ⟨s, hs, rfl⟩ := List.mem_map.1 hx
      exact gs_in c g hg s hs
  · rw [List.eq_of_mem_replicate hx]; omega
theorem dF_out (c : S_api_Chirp) (A : Nat) (g : Int) : dot (wvL c 8) ((dF c A g).drop A) = g * nrm c 8 := by
  unfold dF
  rw [List.append_assoc, List.drop_left' (List.length_replicate ..), dot_scale g _ _ _ rfl]
  rfl
theorem dF_add (c : S_api_Chirp) (A : Nat) (g : Int) (h : A ≤ 32) (hg : 1 ≤ g ∧ g ≤ 64) : addAll 1 (List.replicate 40 0) [⟨(A : Int), g, wvL c 8⟩] = dF c A g := by
  have e : List.replicate 40 (0 : Int) = List.replicate A 0 ++ List.replicate (40 - A) 0 := by
    rw [List.replicate_append_replicate, show A + (40 - A) = 40 by omega]
  have e2 : w64 (1 * g) = g := by rw [w64_id (by omega) (by omega)]; omega
  have := addS_zero g (wvL c 8) (List.replicate A 0) (40 - A) (by rw [wvL_len]; omega) (fun s hs => by have := gs_in c g hg s hs; omega)
  rw [List.length_replicate, wvL_len, show 40 - A - 8 = 32 - A by omega] at this
  rw [addAll, addAll]
  show addS (w64 (1 * g)) (List.replicate 40 0) (A : Int).toNat (wvL c 8) = _
  rw [e2, Int.toNat_natCast, e, this]
  rfl
theorem inject_one (F : Nat) (hF : 1024 < F) (c : S_api_Chirp) (A : Nat) (g : Int) (h : A ≤ 32) (hg : 1 ≤ g ∧ g ≤ 64) : search_Inject F (List.replicate 40 0) [⟨(A : Int), g, wvL c 8⟩] = some (dF c A g, 0) ∧ wavesB 40 [⟨(A : Int), g, wvL c 8⟩] = true := by
  have hr : isRec (List.replicate 40 0) = true := by decide
  have hwo : wOk ⟨(A : Int), g, wvL c 8⟩ = true := by
    unfold wOk
    rw [Bool.and_eq_true, Bool.and_eq_true, List.all_eq_true]
    exact ⟨inR_iff.2 ⟨by show -64 ≤ g; omega, hg.2⟩, inR_iff.2 (by show (1 : Int) ≤ (wvL c 8).length ∧ ((wvL c 8).length : Int) ≤ 64; rw [wvL_len]; omega), fun x hx => inR_iff.2 (by have := wvL_in c 8 x hx; omega)⟩
  have hw : wavesB 40 [⟨(A : Int), g, wvL c 8⟩] = true := by
    unfold wavesB wvs wvs
    rw [hwo, Bool.true_and, Bool.and_true, Bool.and_eq_true]
    refine ⟨rfl, inR_iff.2 ?_⟩
    show (-1 : Int) + 1 ≤ (A : Int) ∧ (A : Int) ≤ 40 - ((wvL c 8).length : Int)
    rw [wvL_len]
    omega
  refine ⟨?_, hw⟩
  have hck : chkW (List.replicate 40 0) [⟨(A : Int), g, wvL c 8⟩] = 0 := by
    unfold chkW
    rw [hr, cond_true, List.length_replicate]
    have hw' : wavesB ((40 : Nat) : Int) [⟨(A : Int), g, wvL c 8⟩] = true := hw
    rw [hw']
    rfl
  have hrd : isRec (dF c A g) = true := by
    unfold isRec
    rw [Bool.and_eq_true, decide_eq_true_eq, List.all_eq_true, dF_len c A g h]
    exact ⟨by omega, fun x hx => inR_iff.2 (by have := dF_in c A g hg x hx; omega)⟩
  rw [Inject_eq F hF _ _ (by rw [List.length_replicate]; omega)]
  unfold injR recR
  rw [hck, dF_add c A g h hg, hrd]
  rfl
theorem dF_data (c : S_api_Chirp) (A : Nat) (g : Int) (h : A ≤ 32) (hg : 1 ≤ g ∧ g ≤ 64) : areD (dF c A g) = true := by
  unfold areD
  rw [Bool.and_eq_true, decide_eq_true_eq, List.all_eq_true, dF_len c A g h]
  exact ⟨by omega, fun x hx => inR_iff.2 (by have := dF_in c A g hg x hx; omega)⟩
theorem hitF_times (c : S_api_Chirp) (n j : Nat) (d : List Int) (bd : Int) : ∀ (k t : Nat), (∀ x ∈ hitF c n j d bd k t, (t : Int) ≤ x.Time ∧ x.Time < t + k) ∧ (hitF c n j d bd k t).Pairwise fun a b => a.Time ≠ b.Time
  | 0, t => ⟨fun x hx => (nomatch hx), .nil⟩
  | k + 1, t => by
    obtain ⟨h1, h2⟩ := hitF_times c n j d bd k (t + 1)
    rw [hitF]
    by_cases e : ldB c n d bd t = true
    · rw [if_pos e, List.singleton_append]
      refine ⟨fun x hx => ?_, .cons (fun x hx => ?_) h2⟩
      · rcases List.mem_cons.1 hx with rfl | hx
        · exact ⟨Int.le_refl _, by show (t : Int) < t + ((k + 1 : Nat) : Int); omega⟩
        · have := h1 x hx; omega
      · have := h1 x hx
        show (t : Int) ≠ x.Time
        omega
    · rw [if_neg e, List.nil_append]
      exact ⟨fun x hx => by have := h1 x hx; omega, h2⟩
def trg (h : S_api_Hit) : S_api_Trigger := ⟨h.Time, 1, 0⟩
theorem trs_map : ∀ (l : List S_api_Hit) (last : Int), l.Pairwise (fun a b => a.Time < b.Time) → (∀ x ∈ l, last < x.Time ∧ x.Time ≤ 1073741823) → trs last (l.map trg) = true
  | [], last, _, _ => rfl
  | x :: r, last, hp, hb => by
    obtain ⟨p1, p2⟩ := List.pairwise_cons.1 hp
    have hx := hb x List.mem_cons_self
    have ih := trs_map r x.Time p2 fun y hy => ⟨p1 y hy, (hb y (List.mem_cons_of_mem _ hy)).2⟩
    rw [List.map_cons, trs, Bool.and_eq_true]
    refine ⟨?_, ih⟩
    rw [Bool.and_eq_true, Bool.and_eq_true]
    exact ⟨inR_iff.2 (by show last + 1 ≤ x.Time ∧ x.Time ≤ 1073741823; omega), rfl, rfl⟩
def srt (l : List S_api_Hit) : List S_api_Hit := sortC (fun x y => orI (Lib.compareInt x.Time y.Time) (Lib.compareInt x.Chirp y.Chirp)) l
theorem srt_perm (l : List S_api_Hit) : (srt l).Perm l := sortC_perm (fun x y : S_api_Hit => orI (Lib.compareInt x.Time y.Time) (Lib.compareInt x.Chirp y.Chirp)) (swo_keys (fun x : S_api_Hit => x.Time) (fun x => x.Chirp)) l
theorem srt_inc (l : List S_api_Hit) (h : l.Pairwise fun a b => a.Time ≠ b.Time) : (srt l).Pairwise fun a b => a.Time < b.Time := by
  have hne : (srt l).Pairwise fun a b => a.Time ≠ b.Time := ((srt_perm l).pairwise_iff fun h => Ne.symm h).2 h
  rw [List.pairwise_iff_getElem] at hne ⊢
  intro i j hi hj hij
  have h1 := hne i j hi hj hij
  have h2 := sortC_sorted (fun x y : S_api_Hit => orI (Lib.compareInt x.Time y.Time) (Lib.compareInt x.Chirp y.Chirp)) (swo_keys (fun x : S_api_Hit => x.Time) (fun x => x.Chirp)) l i j _ _ hij (List.getElem?_eq_getElem hi) (List.getElem?_eq_getElem hj)
  have h3 : ¬ (orI (Lib.compareInt (srt l)[j].Time (srt l)[i].Time) (Lib.compareInt (srt l)[j].Chirp (srt l)[i].Chirp) < 0) := h2
  rw [cmp2_lt] at h3
  omega
theorem srt_ok (l : List S_api_Hit) (h : l.Pairwise fun a b => a.Time ≠ b.Time) (hb : ∀ x ∈ l, 0 ≤ x.Time ∧ x.Time ≤ 1000) (hl : l.length ≤ 100) : okT ((srt l).map trg) = true := by
  unfold okT
  rw [Bool.and_eq_true, decide_eq_true_eq, List.length_map, (srt_perm l).length_eq]
  exact ⟨by omega, trs_map _ _ (srt_inc l h) fun x hx => by have := hb x ((srt_perm l).mem_iff.1 hx); omega⟩
end Go.Ev.SearchFilled
