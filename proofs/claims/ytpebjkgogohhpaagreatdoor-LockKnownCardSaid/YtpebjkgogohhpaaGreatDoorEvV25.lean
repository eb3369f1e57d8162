/- Pure regions: the states in between, in whatever order. -/
import Derived.Test.YtpebjkgogohhpaaGreatDoorEvV24
namespace Go.Ev
open Go.RowKit
variable {P : Program} {D : Known}

def cut (m : Map) (k : Nat) : Map := fun b => if b.num < k then m b else none
theorem cut_lt {m : Map} {k : Nat} {b : Pos} (h : b.num < k) : cut m k b = m b := by simp [cut, h]
theorem cut_some {m : Map} {k : Nat} {b : Pos} {p : Pl} (h : cut m k b = some p) : b.num < k ∧ m b = some p := by
  unfold cut at h
  split at h
  · rename_i hb; exact ⟨hb, h⟩
  · simp at h
theorem cut_ext {m : Map} {k l : Nat} (h : k ≤ l) : Ext (cut m k) (cut m l) := by
  intro b p hp
  obtain ⟨h1, h2⟩ := cut_some hp
  rw [cut_lt (by omega)]; exact h2

/-- What is known of an object in a smaller map, when it is seen in a greater one. -/
theorem EntRel.back {m m' : Map} (h : Ext m m') {s e e'} (h1 : EntRel m s e) (h2 : EntRel m' s e') : EntRel m s e' := by
  have a1 := conc_ext h _ _ h1.1
  have a2 := conc_ext h _ _ h1.2.1
  rw [h2.1] at a1
  rw [h2.2.1] at a2
  simp only [Option.some.injEq] at a1 a2
  exact ⟨a1 ▸ h1.1, a2 ▸ h1.2.1, h2.2.2⟩

theorem ObjRel.back {m m' : Map} (h : Ext m m') {p : Pl} {o : SObj} {x x' : Option Obj} (h1 : ObjRel m p o x) (h2 : ObjRel m' p o x') : ObjRel m p o x' := by
  have row : ∀ te k cells, RowRel m p te k cells x → RowRel m' p te k cells x' → RowRel m p te k cells x' := by
    rintro te k cells ⟨e, fz, pre, vs, post, hx, hz, hs, hl, hc, ht⟩ ⟨e', fz', pre', vs', post', hx', hz', hs', hl', hc', ht'⟩
    have := concs_ext h _ _ hc
    rw [hc'] at this
    simp only [Option.some.injEq] at this
    exact ⟨e', fz', pre', vs', post', hx', hz', hs', hl', this ▸ hc, ht'⟩
  cases o with
  | row e k cells => exact row _ _ _ h1 h2
  | fix cells => exact row _ _ _ h1 h2
  | map es clock =>
    obtain ⟨a, hx, ha⟩ := h1
    obtain ⟨a', hx', ha'⟩ := h2
    refine ⟨a', hx', ?_⟩
    have : ∀ {es : List (SV × SV × Nat)} {l l' : List MapEntry}, All2 (EntRel m) es l → All2 (EntRel m') es l' → All2 (EntRel m) es l' := by
      intro es
      induction es with
      | nil => intro l l' g1 g2; cases g2; exact .nil
      | cons s es ih =>
        intro l l' g1 g2
        cases g1 with
        | cons a b => cases g2 with
          | cons a' b' => exact .cons (EntRel.back h a a') (ih b b')
    exact this ha ha'
  | siter s pos => exact h2
  | loop L =>
    obtain ⟨R, hx, a1, a2, a3, a4, a5, a6, a7, a8, q, a9, a10⟩ := h1
    obtain ⟨R', hx', b1, b2, b3, b4, b5, b6, b7, b8, q', b9, b10⟩ := h2
    refine ⟨R', hx', b1, b2, b3, fun t s ht => ?_, b5, b6, b7, b8, q, a9, ?_⟩
    · obtain ⟨v, g1, g2⟩ := a4 t s ht
      obtain ⟨v', g3, g4⟩ := b4 t s ht
      have := conc_ext h _ _ g2
      rw [g4] at this
      simp only [Option.some.injEq] at this
      exact ⟨v', g3, this ▸ g2⟩
    · have := h _ _ a9
      rw [b9] at this
      simp only [Option.some.injEq] at this
      rw [b10, this]
  | defd => exact h2

theorem MRel.lift {B m M w} (hr : MRel B m M w) : MRel B m (Go.Ev.lift M) w := ⟨hr.objs, hr.inj, hr.fresh, hr.bound, hr.low, hr.base, hr.glob, Nat.le_refl _⟩

/-- What the memories of a run have in common. -/
structure Sym (N : Nat) (Ms : Nat → Mem) : Prop where
  next : ∀ i j, i ≤ j → j ≤ N → (Ms i).next.num ≤ (Ms j).next.num
  old : ∀ i j, i ≤ j → j ≤ N → ∀ b, b.num < (Ms i).next.num → (Ms j).t.get b = (Ms i).t.get b
  none : ∀ i, i ≤ N → ∀ b, (Ms i).next.num ≤ b.num → (Ms i).t.get b = none
  flo : ∀ i, i ≤ N → (Ms i).floor ≤ (Ms i).next.num
  fixes : ∀ i, i ≤ N → ∀ b c, (Ms i).t.get b = some (.fix c) → (Ms 0).t.get b = some (.fix c)

section
variable {B : Nat} {m : Map} {M : Mem} {w : World} {σ : Tree SV} {tm : Array Value}
variable {n N : Nat} {all : Array Oper} {Ms : Nat → Mem} {σs : Nat → Tree SV} {ss : Nat → SV}

theorem hyp (hD : Sound P B D) (hNs : N ≤ all.size) (ht : Trace D P n all N 0 Ms σs ss) (hr : MRel B m (Ms 0) w) (hT : TRel m (σs 0) tm) (hn : tm.size = n) :
    ∀ i, i ≤ N → (∃ m' w' tm', MRel B m' (Ms i) w' ∧ TRel m' (σs i) tm' ∧ tm'.size = n) ∧
      ∀ k, k < i → (Ms k).next.num ≤ (Ms (k + 1)).next.num ∧ (∀ b, b.num < (Ms k).next.num → (Ms (k + 1)).t.get b = (Ms k).t.get b) ∧ (∀ b c, (Ms (k + 1)).t.get b = some (.fix c) → (Ms k).t.get b = some (.fix c))
  | 0, _ => ⟨⟨m, w, tm, hr, hT, hn⟩, fun k hk => absurd hk (by omega)⟩
  | i + 1, hi => by
    obtain ⟨⟨m1, w1, tm1, hr1, hT1, hn1⟩, hk⟩ := hyp hD hNs ht hr hT hn i (by omega)
    have ho : all[i]? = some all[i] := Array.getElem?_eq_getElem (by omega)
    obtain ⟨he, hput⟩ := ht.st i _ (Nat.zero_le _) (by omega) ho
    obtain ⟨m2, w2, v, hst, hv, -⟩ := evalP_run (P := P) hD hr1.lift hT1 he ⟨0, [], none⟩ ho [] [] []
    obtain ⟨tm2, _, hT2, hn2⟩ := putD_rel hput (hT1.ext (hst.ext hr1.lift)) hn1 hv
    refine ⟨⟨m2, w2, tm2, hst.rel, hT2, hn2⟩, fun k hlt => ?_⟩
    by_cases e : k = i
    · subst e
      exact ⟨hst.next, fun b hb => hst.under b hb, fun b c h => hst.fixes b c h⟩
    · exact hk k (by omega)

theorem sym (hD : Sound P B D) (hNs : N ≤ all.size) (ht : Trace D P n all N 0 Ms σs ss) (hr : MRel B m (Ms 0) w) (hT : TRel m (σs 0) tm) (hn : tm.size = n) : Sym N Ms := by
  have h := hyp hD hNs ht hr hT hn
  have hs := (h N (Nat.le_refl _)).2
  have hnext : ∀ i d, i + d ≤ N → (Ms i).next.num ≤ (Ms (i + d)).next.num := by
    intro i d
    induction d with
    | zero => intro _; exact Nat.le_refl _
    | succ d ih =>
      intro hd
      exact Nat.le_trans (ih (by omega)) (hs (i + d) (by omega)).1
  have hold : ∀ i d, i + d ≤ N → ∀ b, b.num < (Ms i).next.num → (Ms (i + d)).t.get b = (Ms i).t.get b := by
    intro i d
    induction d with
    | zero => intro _ b _; rfl
    | succ d ih =>
      intro hd b hb
      have := hnext i d (by omega)
      rw [← ih (by omega) b hb]
      exact (hs (i + d) (by omega)).2.1 b (by omega)
  refine ⟨fun i j hij hj => ?_, fun i j hij hj => ?_, fun i hi b hb => ?_, fun i hi => ?_, fun i hi => ?_⟩
  · have := hnext i (j - i) (by omega)
    rwa [show i + (j - i) = j by omega] at this
  · have := hold i (j - i) (by omega)
    rwa [show i + (j - i) = j by omega] at this
  · obtain ⟨⟨m1, w1, tm1, hr1, _, _⟩, _⟩ := h i hi
    exact (hr1.fresh b hb).2
  · obtain ⟨⟨m1, w1, tm1, hr1, _, _⟩, _⟩ := h i hi
    exact hr1.flo
  · induction i with
    | zero => intro b c h; exact h
    | succ i ih => intro b c h; exact ih (by omega) b c ((hs i (by omega)).2.2 b c h)

theorem sig_other (hNs : N ≤ all.size) (ht : Trace D P n all N 0 Ms σs ss) : ∀ j, j ≤ N → ∀ t, (∀ i o, i < j → all[i]? = some o → o.dst ≠ some t) → (σs j).get (Pos.ofNat t) = (σs 0).get (Pos.ofNat t)
  | 0, _, _, _ => rfl
  | j + 1, hj, t, h => by
    have ho : all[j]? = some all[j] := Array.getElem?_eq_getElem (by omega)
    obtain ⟨_, hput⟩ := ht.st j _ (Nat.zero_le _) (by omega) ho
    rw [(putD_inv hput).1 t (h j _ (by omega) ho), sig_other hNs ht j (by omega) t fun i o hi => h i o (by omega)]

theorem sig_own (hok : PureOK all) (hNs : N ≤ all.size) (ht : Trace D P n all N 0 Ms σs ss) {i : Nat} {o : Oper} {t : Nat} (ho : all[i]? = some o) (hd : o.dst = some t) : ∀ j, i < j → j ≤ N → (σs j).get (Pos.ofNat t) = some (ss i) ∧ t < n
  | 0, h, _ => absurd h (by omega)
  | j + 1, hij, hj => by
    have hoj : all[j]? = some all[j] := Array.getElem?_eq_getElem (by omega)
    obtain ⟨_, hput⟩ := ht.st j _ (Nat.zero_le _) (by omega) hoj
    by_cases e : i = j
    · subst e
      rw [hoj] at ho; cases ho
      have := (putD_inv hput).2 t hd
      exact ⟨this.2, this.1⟩
    · obtain ⟨h1, h2⟩ := sig_own hok hNs ht ho hd j (by omega) (by omega)
      refine ⟨?_, h2⟩
      rw [(putD_inv hput).1 t fun h => e (hok.one _ _ _ _ _ ho hoj hd h)]
      exact h1

end
end Go.Ev
