/- Regions that draw their order: the model comes to the same, whatever it draws. -/
import Derived.Test.YtpebjkgogohhpaaGreatDoorEvV21
namespace Go.Ev
open Go.RowKit
variable {P : Program} {D : Known}

section
variable {B : Nat} {m : Map} {M : Mem} {w : World} {σ : Tree SV} {tm : Array Value}

/-- The model's step, where an operation gives a value. -/
theorem val_step {cx : Cx} {all : Array Oper} {i : Nat} {rest : List Nat} {o : Oper} {todo : List Item} {fs : List Frame} {x : Next} {w' : World} {m' : Map} {s : SV}
    (ho : all[i]? = some o) (hw : Region.wanted o (yielded all tm) = true) (hrun : (execOp (den tm) o).run P w = .ok x w') (hx : Nx m' s x) (hnd : ∀ c, o.op ≠ .defer c) :
    ∃ v, conc m' s = some v ∧ ∀ tm', (∀ ds, Act.put ⟨tm, ds⟩ o.dst v = ⟨tm', ds⟩) →
      step P (lone (mkF cx tm (.inRegion all (i :: rest) :: todo)) fs w) = .next (lone (mkF cx tm' (.inRegion all rest :: todo)) fs w') := by
  have hg := stepGR_op (P := P) (b := mkF cx tm []) (a := ⟨tm, cx.ds⟩) (k := todo) (cs := fs) (w := w) (ops := all) (i := i) (rest := rest) ho hw
  rw [Oper.semAt_eq _ _ _ hnd, den_eval] at hg
  have hv : ∃ v, (x = .value v ∨ x = .skip ∧ v = undef) ∧ conc m' s = some v := by
    cases x with
    | value v => exact ⟨v, .inl rfl, hx⟩
    | skip => exact ⟨undef, .inr ⟨rfl, rfl⟩, by have : s = .tuple [] := hx; subst this; simp [conc, concs, undef]⟩
    | _ => exact hx.elim
  obtain ⟨v, hxv, hv⟩ := hv
  refine ⟨v, hv, fun tm' hp => ?_⟩
  have hfin : (mkF cx tm (.inRegion all (i :: rest) :: todo)).finish v = mkF cx tm' (.inRegion all rest :: todo) := by
    have := Frame.finish_atR (mkF cx tm []) ⟨tm, cx.ds⟩ all i rest todo v
    rw [ho, Option.bind_some, hp] at this
    exact this
  refine step_lone_go ?_
  rw [← hfin]
  rcases hxv with rfl | ⟨rfl, rfl⟩
  · exact (congrArg GStep.bare hg).trans (by simp [stepG.apply, hrun]; rfl)
  · exact (congrArg GStep.bare hg).trans (by simp [stepG.apply, hrun]; rfl)

theorem put_any (d : Option Tmp) (v : Value) : ∃ tm', (∀ ds, Act.put ⟨tm, ds⟩ d v = ⟨tm', ds⟩) ∧ tm'.size = tm.size ∧ (∀ t, d ≠ some t → tm'[t]? = tm[t]?) ∧ (∀ t, d = some t → t < tm.size → tm'[t]? = some v) := by
  cases d with
  | none => exact ⟨tm, fun _ => rfl, rfl, fun _ _ => rfl, fun t h => by simp at h⟩
  | some d =>
    refine ⟨tm.setIfInBounds d v, fun _ => rfl, by simp, fun t h => ?_, fun t h hl => ?_⟩
    · exact Array.getElem?_setIfInBounds_ne (fun e => h (by rw [e]))
    · cases h; simp [hl]

/-- What an operation that waits would give is what it gave. -/
def Waits (P : Program) (all : Array Oper) (M : Mem) (σ : Tree SV) (q : Nat) : Prop :=
  ∃ o s, all[q]? = some o ∧ evalF P all M σ o = some s ∧ ∀ d, o.dst = some d → σ.get (Pos.ofNat d) = some s

theorem still_waits {all : Array Oper} {q : Nat} (h : still P all M σ q = true) : Waits P all M σ q := by
  unfold still at h
  split at h
  · simp at h
  · rename_i o ho
    split at h
    · simp at h
    · rename_i s hs
      refine ⟨o, s, ho, hs, fun d hd => ?_⟩
      rw [hd] at h
      simp only at h
      split at h
      · simp at h
      · rename_i s' hs'
        rw [beqSV_eq _ _ h]
        exact hs'

theorem allStill_waits {all : Array Oper} : ∀ {l : List Nat}, allStill P all M σ l = true → ∀ q ∈ l, Waits P all M σ q
  | a :: l, h, q, hq => by
    simp only [allStill] at h
    split at h
    · rename_i h1
      rcases List.mem_cons.1 hq with rfl | hm
      · exact still_waits h1
      · exact allStill_waits h q hm
    · simp at h

/-- The state of a region in the midst of its schedule. S: carried out by the model; E: by the small machine; Q: what may be waiting. -/
structure Mid (P : Program) (B : Nat) (all : Array Oper) (n : Nat) (m : Map) (M : Mem) (w : World) (σ : Tree SV) (tm : Array Value) (S rest E Q : List Nat) : Prop where
  mem : MRel B m M w
  size : tm.size = n
  topo : Topo all S rest
  closed : ∀ i ∈ S, ∀ k, Before all k i → k ∈ S
  sub : ∀ i ∈ S, i ∈ E
  pend : ∀ i ∈ E, i ∉ S → i ∈ Q
  pd : ∀ i ∈ E, i ∉ S → Waits P all M σ i
  rel : ∀ t s, σ.get (Pos.ofNat t) = some s → (∀ i ∈ E, i ∉ S → ∀ o, all[i]? = some o → o.dst ≠ some t) → ∃ v, tm[t]? = some v ∧ conc m s = some v
  qr : ∀ p ∈ Q, ∀ q ∈ Q, p ≠ q → ∀ o o', all[p]? = some o → all[q]? = some o' → inter (readsOf all o) o'.dst = true → Before all q p
  qf : ∀ q ∈ Q, ∀ o, all[q]? = some o → floatOp P o.op = true ∧ inter (readsOf all o) o.dst = false
  dn : ∀ i ∈ E, ∀ o d, all[i]? = some o → o.dst = some d → d < n

theorem before_mem {all : Array Oper} {S : List Nat} {j : Nat} {o : Oper} (ho : all[j]? = some o) (hp : ∀ k ∈ predsOf o, k ∈ S) (hc : ∀ i ∈ S, ∀ k, Before all k i → k ∈ S) {q : Nat} (h : Before all q j) : q ∈ S := by
  induction h with
  | dir h1 h2 => rw [ho] at h1; cases h1; exact hp _ h2
  | trans h1 h2 _ ih2 => exact hc _ (ih2 ho) _ h1

/-- Without the entries that wait. -/
noncomputable def erase (ds : List Nat) (σ : Tree SV) : Tree SV := ds.foldl (fun σ d => σ.put none (Pos.ofNat d)) σ
theorem get_erase : ∀ (ds : List Nat) (σ : Tree SV) (t : Nat), (erase ds σ).get (Pos.ofNat t) = if t ∈ ds then none else σ.get (Pos.ofNat t)
  | [], σ, t => by simp [erase]
  | d :: ds, σ, t => by
    show (erase ds (σ.put none (Pos.ofNat d))).get (Pos.ofNat t) = _
    rw [get_erase ds]
    by_cases h : t ∈ ds
    · simp [h]
    · by_cases hd : d = t
      · subst hd; simp [h, Tree.get_put_same]
      · rw [if_neg h, Tree.get_put_other _ _ (fun e => hd (Pos.ofNat_inj e))]
        simp [h, Ne.symm hd]

theorem inter_mem {l : List Nat} {d : Nat} : inter l (some d) = true ↔ d ∈ l := hasN_iff

/-- The temporaries of what does not wait. -/
theorem Mid.part {all : Array Oper} {n : Nat} {S rest E Q : List Nat} (h : Mid P B all n m M w σ tm S rest E Q) {j : Nat} {o : Oper} (ho : all[j]? = some o) (hread : ∀ i ∈ E, i ∉ S → ∀ o', all[i]? = some o' → inter (readsOf all o) o'.dst = false) :
    ∃ σr, TRel m σr tm ∧ wantS all σ o = wantS all σr o ∧ exec P M σ o = exec P M σr o := by
  let ds := (E.filter (fun i => decide (i ∉ S))).filterMap fun i => (all[i]?).bind (·.dst)
  have hds : ∀ t, t ∈ ds ↔ ∃ i ∈ E, i ∉ S ∧ ∃ o', all[i]? = some o' ∧ o'.dst = some t := by
    intro t
    simp only [ds, List.mem_filterMap, List.mem_filter, decide_eq_true_eq, Option.bind_eq_some_iff]
    constructor
    · rintro ⟨i, ⟨h1, h2⟩, o', h3, h4⟩; exact ⟨i, h1, h2, o', h3, h4⟩
    · rintro ⟨i, h1, h2, o', h3, h4⟩; exact ⟨i, ⟨h1, h2⟩, o', h3, h4⟩
  have hag : Agree (readsOf all o) σ (erase ds σ) := by
    intro t ht
    rw [get_erase]
    split
    · rename_i hin
      obtain ⟨i, h1, h2, o', h3, h4⟩ := (hds t).1 hin
      have := hread i h1 h2 o' h3
      rw [h4] at this
      exact absurd (inter_mem.2 ht) (by simp [this])
    · rfl
  refine ⟨erase ds σ, fun t s hs => ?_, wantS_agree hag, exec_agree (fun t ht => hag t (by simp only [readsOf, List.mem_append]; exact .inr ht))⟩
  rw [get_erase] at hs
  split at hs
  · simp at hs
  · rename_i hin
    exact h.rel t s hs fun i h1 h2 o' h3 h4 => hin ((hds t).2 ⟨i, h1, h2, o', h3, h4⟩)

/-- What waits is carried out. -/
theorem Mid.wait {all : Array Oper} {n : Nat} {S rest E Q : List Nat} {j : Nat} (h : Mid P B all n m M w σ tm S (j :: rest) E Q) (hj : j ∈ E) (cx : Cx) (todo : List Item) (fs : List Frame) :
    ∃ m' w' tm', step P (lone (mkF cx tm (.inRegion all (j :: rest) :: todo)) fs w) = .next (lone (mkF cx tm' (.inRegion all rest :: todo)) fs w') ∧ Mid P B all n m' M w' σ tm' (j :: S) rest E Q ∧ Stepped B m M w m' M w' := by
  have htopo := h.topo
  cases htopo with
  | cons hn ho hp ht =>
  rename_i o
  have hjQ := h.pend j hj hn
  obtain ⟨hfl, hself⟩ := h.qf j hjQ o ho
  obtain ⟨o', s, ho', hev, hdst⟩ := h.pd j hj hn
  rw [ho] at ho'; cases ho'
  obtain ⟨σr, htr, hwr, her⟩ := h.part ho (fun i hi hiS o' ho' => by
    by_cases hij : i = j
    · subst hij; rw [ho] at ho'; cases ho'; exact hself
    · cases hin : inter (readsOf all o) o'.dst with
      | false => rfl
      | true => exact absurd (before_mem ho hp h.closed (h.qr j hjQ i (h.pend i hi hiS) (Ne.symm hij) o o' ho ho' hin)) hiS)
  have key : ∀ (m' : Map) (w' : World) (v : Value) (tm' : Array Value), Stepped B m M w m' M w' → conc m' s = some v → (∀ ds, Act.put ⟨tm, ds⟩ o.dst v = ⟨tm', ds⟩) → tm'.size = tm.size → (∀ t, o.dst ≠ some t → tm'[t]? = tm[t]?) → (∀ t, o.dst = some t → t < tm.size → tm'[t]? = some v) →
      Mid P B all n m' M w' σ tm' (j :: S) rest E Q := by
    intro m' w' v tm' hs hv _ hsz hne heq
    refine ⟨hs.rel, hsz.trans h.size, ht, ?_, ?_, ?_, ?_, ?_, h.qr, h.qf, h.dn⟩
    · intro i hi k hk
      rcases List.mem_cons.1 hi with rfl | hi
      · exact List.mem_cons_of_mem _ (before_mem ho hp h.closed hk)
      · exact List.mem_cons_of_mem _ (h.closed i hi k hk)
    · intro i hi
      rcases List.mem_cons.1 hi with rfl | hi
      · exact hj
      · exact h.sub i hi
    · intro i hi hiS
      exact h.pend i hi (fun e => hiS (List.mem_cons_of_mem _ e))
    · intro i hi hiS
      exact h.pd i hi (fun e => hiS (List.mem_cons_of_mem _ e))
    · intro t x hx hcond
      by_cases hd : o.dst = some t
      · have := hdst t hd
        rw [this] at hx
        cases hx
        exact ⟨v, heq t hd (by rw [h.size]; exact h.dn j hj o t ho hd), hv⟩
      · obtain ⟨u, h1, h2⟩ := h.rel t x hx fun i hi hiS o' ho' hd' => by
          by_cases hij : i = j
          · subst hij; rw [ho] at ho'; cases ho'; exact hd hd'
          · exact hcond i hi (fun e => (List.mem_cons.1 e).elim hij hiS) o' ho' hd'
        exact ⟨u, by rw [hne t hd]; exact h1, conc_ext (hs.ext h.mem) _ _ h2⟩
  unfold evalF at hev
  split at hev
  · simp at hev
  · rename_i hw
    simp only [Option.some.injEq] at hev
    subst hev
    rw [hwr] at hw
    have hw' := wantS_rel hw htr
    obtain ⟨tm', hp', hsz, hne, heq⟩ := put_any (tm := tm) o.dst undef
    have hst := stepR_op_skip (P := P) (b := mkF cx tm []) (a := ⟨tm, cx.ds⟩) (k := todo) (cs := fs) (w := w) (ops := all) (i := j) (rest := rest) (by simp [ho, hw'])
    rw [ho, Option.bind_some, hp'] at hst
    exact ⟨m, w, tm', hst, key m w undef tm' (.refl h.mem) (by simp [conc, concs, undef]) hp' hsz hne heq, .refl h.mem⟩
  · rename_i hw
    rw [hwr] at hw
    have hw' := wantS_rel hw htr
    split at hev
    · rename_i s' M1 he
      simp only [Option.some.injEq] at hev
      subst hev
      have hM : M1 = M := by
        have := exec_flat (P := P) (M := M) (σ := σ) hfl
        rw [he] at this
        exact this
      subst hM
      have hd := exec_does (P := P) h.mem htr o
      rw [← her, he] at hd
      obtain ⟨x, m', w', hrun, hx, hst⟩ := hd
      obtain ⟨v, hv, hstep⟩ := val_step (P := P) (cx := cx) (rest := rest) (todo := todo) (fs := fs) ho hw' hrun hx (exec_nd (P := P) (M := M1) (σ := σ) (by rw [he]; simp))
      obtain ⟨tm', hp', hsz, hne, heq⟩ := put_any (tm := tm) o.dst v
      exact ⟨m', w', tm', hstep tm' hp', key m' w' v tm' hst hv hp' hsz hne heq, hst⟩
    · simp at hev

/-- All that waits before a is carried out. -/
theorem Mid.upto {all : Array Oper} {n : Nat} {E Q : List Nat} {a : Nat} (ha : a < all.size) (haE : a ∉ E) (hst : ∀ j o, all[j]? = some o → j ∉ E → j ≠ a → ∃ k ∈ predsOf o, k ∉ E) (cx : Cx) (todo : List Item) (fs : List Frame) :
    ∀ (rest : List Nat) {S : List Nat} {m : Map} {w : World} {tm : Array Value}, Mid P B all n m M w σ tm S rest E Q →
      ∃ m' w' tm' S' rest', Steps P (lone (mkF cx tm (.inRegion all rest :: todo)) fs w) (lone (mkF cx tm' (.inRegion all (a :: rest') :: todo)) fs w') ∧ Mid P B all n m' M w' σ tm' S' (a :: rest') E Q ∧ Stepped B m M w m' M w' := by
  intro rest
  induction rest with
  | nil =>
    intro S m w tm h
    have ht := h.topo
    cases ht with
    | nil hall => exact absurd (h.sub a (hall a ha)) haE
  | cons j rest ih =>
    intro S m w tm h
    by_cases hja : j = a
    · subst hja
      exact ⟨m, w, tm, S, rest, .refl _ _, h, .refl h.mem⟩
    · by_cases hjE : j ∈ E
      · obtain ⟨m1, w1, tm1, hs1, h1, hst1⟩ := h.wait hjE cx todo fs
        obtain ⟨m2, w2, tm2, S2, rest2, hs2, h2, hst2⟩ := ih h1
        exact ⟨m2, w2, tm2, S2, rest2, .head hs1 hs2, h2, hst1.trans hst2⟩
      · have ht := h.topo
        cases ht with
        | cons hn ho hp _ =>
          obtain ⟨k, hk, hkE⟩ := hst j _ ho hjE hja
          exact absurd (h.sub k (hp k hk)) hkE

/-- All that waits is carried out. -/
theorem Mid.drain {all : Array Oper} {n : Nat} {E Q : List Nat} (hst : ∀ j o, all[j]? = some o → j ∉ E → ∀ q ∈ Q, Before all q j) (cx : Cx) (todo : List Item) (fs : List Frame) :
    ∀ (rest : List Nat) {S : List Nat} {m : Map} {w : World} {tm : Array Value}, Mid P B all n m M w σ tm S rest E Q →
      ∃ m' w' tm' S' rest', Steps P (lone (mkF cx tm (.inRegion all rest :: todo)) fs w) (lone (mkF cx tm' (.inRegion all rest' :: todo)) fs w') ∧ Mid P B all n m' M w' σ tm' S' rest' E Q ∧ Stepped B m M w m' M w' ∧ ∀ i ∈ E, i < all.size → i ∈ S' := by
  intro rest
  induction rest with
  | nil =>
    intro S m w tm h
    have ht := h.topo
    cases ht with
    | nil hall => exact ⟨m, w, tm, S, [], .refl _ _, h, .refl h.mem, fun i _ hi => hall i hi⟩
  | cons j rest ih =>
    intro S m w tm h
    by_cases hE : ∀ i ∈ E, i < all.size → i ∈ S
    · exact ⟨m, w, tm, S, j :: rest, .refl _ _, h, .refl h.mem, hE⟩
    · by_cases hjE : j ∈ E
      · obtain ⟨m1, w1, tm1, hs1, h1, hst1⟩ := h.wait hjE cx todo fs
        obtain ⟨m2, w2, tm2, S2, rest2, hs2, h2, hst2, h3⟩ := ih h1
        exact ⟨m2, w2, tm2, S2, rest2, .head hs1 hs2, h2, hst1.trans hst2, h3⟩
      · exfalso
        apply hE
        intro i hi hil
        apply Classical.byContradiction
        intro hiS
        have ht := h.topo
        cases ht with
        | cons hn ho hp _ => exact hiS (before_mem ho hp h.closed (hst j _ ho hjE i (h.pend i hi hiS)))

end
end Go.Ev
