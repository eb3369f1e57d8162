/- Slid triggers are triggers; slid back they are as before. -/
import Derived.Test.YtgaofnakcccbkaaSearchGrowsMath4
namespace Go.Ev.SearchGrows
open Go Go.Ev Go.Proofs
set_option linter.unusedVariables false
def ltT (a b : S_api_Trigger) : Prop := a.Time < b.Time
theorem trs_fw : ∀ {l : List S_api_Trigger} {last : Int}, trs last l = true → -1 ≤ last → (∀ a ∈ l, last < a.Time ∧ okA a) ∧ l.Pairwise ltT
  | [], _, _, _ => ⟨fun a h => (by cases h), List.Pairwise.nil⟩
  | b :: r, last, h, h1 => by
    have hb := trs_ok h h1 b List.mem_cons_self
    rw [trs, Bool.and_eq_true, Bool.and_eq_true] at h
    have g1 := inR_iff.1 h.1.1
    obtain ⟨i1, i2⟩ := trs_fw h.2 (by omega)
    refine ⟨fun a ha => ?_, List.Pairwise.cons (fun a ha => (i1 a ha).1) i2⟩
    rcases List.mem_cons.1 ha with rfl | ha
    · exact ⟨by omega, hb⟩
    · exact ⟨by have := (i1 a ha).1; omega, (i1 a ha).2⟩
theorem trs_bw : ∀ {l : List S_api_Trigger} {last : Int}, (∀ a ∈ l, last < a.Time ∧ okA a) → l.Pairwise ltT → trs last l = true
  | [], _, _, _ => rfl
  | b :: r, last, h, hp => by
    obtain ⟨h1, b1, b2, b3, b4, b5, b6⟩ := h b List.mem_cons_self
    obtain ⟨p1, p2⟩ := List.pairwise_cons.1 hp
    have ih := trs_bw (l := r) (last := b.Time) (fun a ha => ⟨p1 a ha, (h a (List.mem_cons_of_mem _ ha)).2⟩) p2
    rw [trs, ih, inR_iff.2 ⟨by omega, b2⟩, inR_iff.2 ⟨b3, b4⟩, inR_iff.2 ⟨b5, b6⟩]
    rfl
theorem okT_fw {l : List S_api_Trigger} (h : okT l = true) : (∀ a ∈ l, okA a) ∧ l.Pairwise ltT := by
  rw [okT, Bool.and_eq_true] at h
  obtain ⟨h1, h2⟩ := trs_fw h.2 (by omega)
  exact ⟨fun a ha => (h1 a ha).2, h2⟩
theorem okT_bw {l : List S_api_Trigger} (h0 : l.length ≤ 256) (h1 : ∀ a ∈ l, okA a) (h2 : l.Pairwise ltT) : okT l = true := by
  rw [okT, Bool.and_eq_true]
  exact ⟨decide_eq_true h0, trs_bw (fun a ha => ⟨by have := (h1 a ha).1; omega, h1 a ha⟩) h2⟩
theorem fit_iff {T : Int} {l : List S_api_Trigger} : fit T l = true ↔ ∀ a ∈ l, a.Time < T := by simp [fit]
theorem drop_over {T d : Int} : ∀ {l : List S_api_Trigger}, l.Pairwise ltT → ∀ a ∈ l.dropWhile (before T d), T ≤ a.Time + d
  | [], _, a, h => by cases h
  | b :: r, hp, a, h => by
    obtain ⟨p1, p2⟩ := List.pairwise_cons.1 hp
    rw [List.dropWhile_cons] at h
    cases e : before T d b with
    | true => rw [e] at h; exact drop_over p2 a h
    | false =>
      rw [e] at h
      have hb : T ≤ b.Time + d := by
        have := of_decide_eq_false e
        omega
      rcases List.mem_cons.1 h with rfl | h
      · exact hb
      · have : b.Time < a.Time := p1 a h
        omega
theorem take_under {T d : Int} {l : List S_api_Trigger} : ∀ a ∈ l.takeWhile (before T d), a.Time + d < T := by
  intro a ha
  exact of_decide_eq_true (List.all_eq_true.1 List.all_takeWhile a ha)
theorem mod0 {x T : Int} (h1 : 0 ≤ x) (h2 : x < T) : Int.tmod x T = x := by
  rw [Int.tmod_eq_emod_of_nonneg h1, Int.emod_eq_of_lt h1 h2]
theorem mod1 {x T : Int} (h0 : 0 < T) (h1 : T ≤ x) (h2 : x < T + T) : Int.tmod x T = x - T := by
  rw [Int.tmod_eq_emod_of_nonneg (by omega)]
  exact ((Int.ediv_emod_unique (a := x) (b := T) (r := x - T) (q := 1) h0).2 ⟨by omega, by omega, by omega⟩).2
theorem mem_mapmv {T d : Int} {l : List S_api_Trigger} {a : S_api_Trigger} (h : a ∈ l.map (mv T d)) : ∃ b ∈ l, a = mv T d b := by
  obtain ⟨b, hb, rfl⟩ := List.mem_map.1 h
  exact ⟨b, hb, rfl⟩
theorem sld_ok {T d : Int} (hd : 0 ≤ d ∧ d < T) (hT : T ≤ 1073741824) {l : List S_api_Trigger} (hl : okT l = true) (hf : fit T l = true) : okT (sld T d l) = true ∧ fit T (sld T d l) = true := by
  obtain ⟨hA, hp⟩ := okT_fw hl
  have hf' := fit_iff.1 hf
  have ht : ∀ a ∈ l.takeWhile (before T d), (mv T d a).Time = a.Time + d := fun a ha => by
    have h1 := take_under a ha
    have h2 := hA a ((List.takeWhile_sublist _).mem ha)
    exact mod0 (by have := h2.1; omega) h1
  have hdr : ∀ a ∈ l.dropWhile (before T d), (mv T d a).Time = a.Time + d - T := fun a ha => by
    have h1 := drop_over hp a ha
    have h2 := hf' a ((List.dropWhile_sublist _).mem ha)
    exact mod1 (by omega) h1 (by omega)
  have hmem : ∀ a ∈ sld T d l, okA a := sld_okA hd.1 ⟨by omega, hT⟩ hA
  refine ⟨okT_bw (by rw [sld_len]; exact okT_len hl) hmem ?_, fit_iff.2 fun a ha => ?_⟩
  · rw [sld, rotd, List.map_append, List.pairwise_append]
    refine ⟨?_, ?_, ?_⟩
    · rw [List.pairwise_map]
      refine List.Pairwise.imp_of_mem (R := ltT) (fun {a b} ha hb hab => ?_) (List.Pairwise.sublist (List.dropWhile_sublist _) hp)
      show (mv T d a).Time < (mv T d b).Time
      rw [hdr a ha, hdr b hb]
      have : a.Time < b.Time := hab
      omega
    · rw [List.pairwise_map]
      refine List.Pairwise.imp_of_mem (R := ltT) (fun {a b} ha hb hab => ?_) (List.Pairwise.sublist (List.takeWhile_sublist _) hp)
      show (mv T d a).Time < (mv T d b).Time
      rw [ht a ha, ht b hb]
      have : a.Time < b.Time := hab
      omega
    · intro a ha b hb
      obtain ⟨x, hx, rfl⟩ := mem_mapmv ha
      obtain ⟨y, hy, rfl⟩ := mem_mapmv hb
      show (mv T d x).Time < (mv T d y).Time
      rw [hdr x hx, ht y hy]
      have h1 := hf' x ((List.dropWhile_sublist _).mem hx)
      have h2 := (hA y ((List.takeWhile_sublist _).mem hy)).1
      omega
  · obtain ⟨b, hb, rfl⟩ := mem_mapmv ha
    rcases List.mem_append.1 hb with hb | hb
    · rw [hdr b hb]
      have := hf' b ((List.dropWhile_sublist _).mem hb)
      omega
    · rw [ht b hb]
      exact take_under b hb
theorem takeWhile_app {α : Type} {p : α → Bool} {x y : List α} (hx : ∀ a ∈ x, p a = true) (hy : ∀ a ∈ y, p a = false) : (x ++ y).takeWhile p = x ∧ (x ++ y).dropWhile p = y := by
  induction x with
  | nil =>
    cases y with
    | nil => exact ⟨rfl, rfl⟩
    | cons a y =>
      rw [List.nil_append, List.takeWhile_cons, List.dropWhile_cons, hy a List.mem_cons_self]
      simp
  | cons a x ih =>
    obtain ⟨g1, g2⟩ := ih fun b hb => hx b (List.mem_cons_of_mem _ hb)
    rw [List.cons_append, List.takeWhile_cons, List.dropWhile_cons, hx a List.mem_cons_self]
    simp [g1, g2]
theorem sld_zero {T : Int} {l : List S_api_Trigger} (hA : ∀ a ∈ l, okA a) (hf : fit T l = true) : sld T 0 l = l := by
  have hf' := fit_iff.1 hf
  obtain ⟨g1, g2⟩ := takeWhile_all (p := before T 0) (l := l) fun b hb => decide_eq_true (by have := hf' b hb; omega)
  rw [sld, rotd, g1, g2, List.nil_append]
  refine (List.map_congr_left fun a ha => ?_).trans (List.map_id l)
  unfold mv
  rw [Int.add_zero, mod0 (hA a ha).1 (hf' a ha)]
  rfl
theorem sld_back {T d : Int} (hd : 0 < d ∧ d < T) (hT : T ≤ 1073741824) {l : List S_api_Trigger} (hl : okT l = true) (hf : fit T l = true) : sld T (T - d) (sld T d l) = l := by
  obtain ⟨hA, hp⟩ := okT_fw hl
  have hf' := fit_iff.1 hf
  have ht : ∀ a ∈ l.takeWhile (before T d), mv T d a = ⟨a.Time + d, a.Loud, a.Template⟩ := fun a ha => by
    have h1 := take_under a ha
    have h2 := hA a ((List.takeWhile_sublist _).mem ha)
    unfold mv
    rw [mod0 (by have := h2.1; omega) h1]
  have hdr : ∀ a ∈ l.dropWhile (before T d), mv T d a = ⟨a.Time + d - T, a.Loud, a.Template⟩ := fun a ha => by
    have h1 := drop_over hp a ha
    have h2 := hf' a ((List.dropWhile_sublist _).mem ha)
    unfold mv
    rw [mod1 (by omega) h1 (by omega)]
  obtain ⟨g1, g2⟩ := takeWhile_app (p := before T (T - d)) (x := (l.dropWhile (before T d)).map (mv T d)) (y := (l.takeWhile (before T d)).map (mv T d)) (fun a ha => by
    obtain ⟨b, hb, rfl⟩ := mem_mapmv ha
    have := hf' b ((List.dropWhile_sublist _).mem hb)
    rw [hdr b hb]
    exact decide_eq_true (by show b.Time + d - T + (T - d) < T; omega)) (fun a ha => by
    obtain ⟨b, hb, rfl⟩ := mem_mapmv ha
    have := (hA b ((List.takeWhile_sublist _).mem hb)).1
    rw [ht b hb]
    exact decide_eq_false (by show ¬ b.Time + d + (T - d) < T; omega))
  have e : sld T d l = (l.dropWhile (before T d)).map (mv T d) ++ (l.takeWhile (before T d)).map (mv T d) := by rw [sld, rotd, List.map_append]
  rw [sld, rotd, e, g1, g2, List.map_append, List.map_map, List.map_map]
  have h1 : (l.takeWhile (before T d)).map (mv T (T - d) ∘ mv T d) = l.takeWhile (before T d) := by
    refine (List.map_congr_left fun a ha => ?_).trans (List.map_id _)
    have h0 := (hA a ((List.takeWhile_sublist _).mem ha)).1
    have h2 := hf' a ((List.takeWhile_sublist _).mem ha)
    rw [Function.comp, ht a ha]
    unfold mv
    show (⟨Int.tmod (a.Time + d + (T - d)) T, a.Loud, a.Template⟩ : S_api_Trigger) = a
    rw [mod1 (by omega) (by omega) (by omega), show a.Time + d + (T - d) - T = a.Time by omega]
  have h2 : (l.dropWhile (before T d)).map (mv T (T - d) ∘ mv T d) = l.dropWhile (before T d) := by
    refine (List.map_congr_left fun a ha => ?_).trans (List.map_id _)
    have h0 := (hA a ((List.dropWhile_sublist _).mem ha)).1
    have h2 := hf' a ((List.dropWhile_sublist _).mem ha)
    rw [Function.comp, hdr a ha]
    unfold mv
    show (⟨Int.tmod (a.Time + d - T + (T - d)) T, a.Loud, a.Template⟩ : S_api_Trigger) = a
    rw [mod0 (by omega) (by omega), show a.Time + d - T + (T - d) = a.Time by omega]
  rw [h1, h2, List.takeWhile_append_dropWhile]
end Go.Ev.SearchGrows
