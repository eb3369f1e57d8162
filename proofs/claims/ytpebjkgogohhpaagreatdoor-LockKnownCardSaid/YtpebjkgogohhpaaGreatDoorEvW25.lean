/- Loops over functions: what their steps do to memory. -/
import Derived.Test.YtpebjkgogohhpaaGreatDoorEvW2
namespace Go.Ev
open Go.RowKit
variable {P : Program} {I D : Known}

section
variable {B : Nat} {m : Map} {M : Mem} {w : World}

theorem below_putObj {r : Nat} (o : Obj) (h : B ≤ r) : Below B w (w.putObj r o) :=
  ⟨rfl, rfl, rfl, by simp, fun k hk => World.putObj_heap_other (by omega)⟩

theorem loopOwn_eq {l : Pos} {L : LoopS} (h : loopOwn M l = some L) : loopOf M l = some L ∧ M.floor ≤ l.num := by
  unfold loopOwn at h
  split at h
  · rename_i ha; exact ⟨h, above_eq ha⟩
  · simp at h

theorem loop_set (hr : MRel B m M w) {l : Pos} {p : Pl} {L : LoopS} (hL : loopOwn M l = some L) (hp : m l = some p) {L' : LoopS} {R' : Loop} (hrel : LoopRel m L' R') :
    Stepped B m M w m ⟨M.t.put (some (.loop L')) l, M.next, M.floor⟩ (w.putObj p.block (.loop R')) :=
  Stepped.update hr l _ _ p (loopOf_eq (loopOwn_eq hL).1) rfl hp (fun k hk => World.putObj_heap_other hk) (below_putObj _ (hr.low _ _ _ (loopOf_eq (loopOwn_eq hL).1) rfl hp)) rfl
    ⟨R', World.putObj_heap_same (hr.bound _ _ hp), hrel⟩ (loopOwn_eq hL).2

/-- What lies under a name is no longer looked at. -/
theorem Stepped.erase (hr : MRel B m M w) {w' : World} (b : Pos) (x : SObj) (p : Pl) (hx : M.t.get b = some x) (hown : x.own = true) (hp : m b = some p)
    (hold : ∀ k, k ≠ p.block → w'.heap[k]? = w.heap[k]?) (hb : Below B w w') (hfl : M.floor ≤ b.num) : Stepped B m M w m ⟨M.t.put none b, M.next, M.floor⟩ w' := by
  have f : ∀ {c y}, Tree.get c (M.t.put none b) = some y → b ≠ c ∧ M.t.get c = some y := by
    intro c y h
    by_cases hb : b = c
    · subst hb; simp only [Tree.get_put_same] at h; simp at h
    · simp only [Tree.get_put_other _ _ hb] at h; exact ⟨hb, h⟩
  refine ⟨⟨?_, ?_, ?_, ?_, ?_, Nat.le_trans hr.base hb.size, ?_, hr.flo⟩, fun _ _ => rfl, ?_, Nat.le_refl _, hb, ?_, ?_, ?_, rfl, fun c y hy => (f hy).2⟩
  · intro c y q hy hq
    obtain ⟨h1, h2⟩ := f hy
    have hne : q.block ≠ p.block := fun he => h1 (hr.inj b c x y p q hx h2 hp hq he.symm)
    rw [hold _ hne]
    exact hr.objs c y q h2 hq
  · intro c c' y y' q q' hy hy' hq hq' he
    exact hr.inj c c' y y' q q' (f hy).2 (f hy').2 hq hq' he
  · intro c hc
    have hc' : M.next.num ≤ c.num := hc
    refine ⟨(hr.fresh c hc').1, ?_⟩
    by_cases h : b = c
    · subst h; exact Tree.get_put_same _ _ _
    · simp only [Tree.get_put_other _ _ h]; exact (hr.fresh c hc').2
  · intro c q hq
    have := hr.bound c q hq
    have := hb.size
    omega
  · intro c y q hy hyo hq
    exact hr.low c y q (f hy).2 hyo hq
  · intro c y hy
    exact hr.glob c y (f hy).2
  · intro c hc hm
    have hne : b ≠ c := by intro h; subst h; rw [hp] at hm; exact absurd hm (by simp)
    simp only [Tree.get_put_other _ _ hne]
  · intro k _ hk
    exact hold k fun e => hk ⟨b, x, p, hx, hown, hp, e.symm⟩
  · rintro k _ ⟨c, y, q, hy, hyo, hq, rfl⟩
    exact ⟨c, y, q, (f hy).2, hyo, hq, rfl⟩
  · intro c hc
    have hne : b ≠ c := by intro h; subst h; omega
    simp only [Tree.get_put_other _ _ hne]

/-- A new block. -/
theorem Stepped.lay (hr : MRel B m M w) (o : SObj) (x : Obj) (hown : o.own = true) (ho : ∀ m', Ext m m' → ObjRel m' ⟨w.heap.size, 0, 0⟩ o (some x)) :
    Stepped B m M w (fun b => if b = M.next then some ⟨w.heap.size, 0, 0⟩ else m b) ⟨M.t.put (some o) M.next, M.next.succ, M.floor⟩ (w.alloc x) := by
  have hnew := World.alloc_heap_new w x
  refine Stepped.fresh hr M.t ⟨w.heap.size, 0, 0⟩ o (fun _ _ h => h) (fun _ _ _ => rfl) (fun _ _ => rfl) (fun b y q hy hq => ?_) (Below.alloc (Below.refl _ _) hr.base _) (by show _ < (w.heap.push x).size; simp) hr.base hown (fun m' hm' => by rw [hnew]; exact ho m' hm')
    (fun k hk _ => Below.heap_alloc _ _ _ hk) (fun h => absurd h (by simp))
  have hlt := hr.bound b q hq
  exact ⟨by show q.block ≠ w.heap.size; omega, Below.heap_alloc _ _ _ hlt⟩

theorem Stepped.laid (hr : MRel B m M w) (o : SObj) (x : Obj) (hown : o.own = true) (ho : ∀ m', Ext m m' → ObjRel m' ⟨w.heap.size, 0, 0⟩ o (some x)) :
    ∃ m', Stepped B m M w m' ⟨M.t.put (some o) M.next, M.next.succ, M.floor⟩ (w.alloc x) ∧ m' M.next = some ⟨w.heap.size, 0, 0⟩ := ⟨_, Stepped.lay hr o x hown ho, by simp⟩

/-- The blocks for rounds' deferred calls are shut. -/
theorem shut_steps : ∀ {ds : List Pos} {M M' : Mem} {w : World} {cds : List Deferred}, MRel B m M w → shutS ds M = some M' →
    All2 (fun b (d : Deferred) => ∃ p, m b = some p ∧ d = { target := .collected p.block, args := #[] }) ds cds →
    ∀ (fr : Frame) (fs : List Frame), fr.mode = .returning → fr.defers = cds → ∃ w', Steps P (lone fr fs w) (lone { fr with defers := [] } fs w') ∧ Stepped B m M w m M' w'
  | [], M, M', w, _, hr, h, .nil, fr, fs, hm, hd => by
    simp only [shutS, Option.some.injEq] at h
    subst h
    refine ⟨w, ?_, .refl hr⟩
    rw [show ({ fr with defers := [] } : Frame) = fr by cases fr; simp_all]
    exact .refl _ _
  | b :: ds, M, M', w, _, hr, h, .cons (b := d) (k := cds) ⟨p, hp, hdd⟩ hds, fr, fs, hm, hd => by
    simp only [shutS] at h
    split at h
    · rename_i hb
      have hab : above M b = true := by
        cases hh : above M b with
        | true => rfl
        | false => rw [hh] at h; simp at h
      rw [hab] at h
      simp only at h
      have hobj : w.heap[p.block]? = some (.deferred (some [])) := hr.objs b _ p hb hp
      have htake := run_takeDeferred (P := P) hobj
      have hs := step_collected (P := P) (cs := fs) (by rw [hm]; simp) hd (by rw [hdd]) htake
      have hst : Stepped B m M w m ⟨M.t.put none b, M.next, M.floor⟩ (w.putObj p.block (.deferred none)) :=
        Stepped.erase hr b _ p hb rfl hp (fun k hk => World.putObj_heap_other hk) (below_putObj _ (hr.low _ _ _ hb rfl hp)) (above_eq hab)
      obtain ⟨w', h1, h2⟩ := shut_steps hst.rel h hds { fr with defers := [] ++ cds } fs hm rfl
      exact ⟨w', .head hs h1, hst.trans h2⟩
    · simp at h

/-- A loop's parameters. -/
theorem putPs_rel {n : Nat} : ∀ {ts : List Tmp} {l : List SV} {vs : List Value} {σ σ' : Tree SV} {tm : Array Value}, putPs n ts l σ = some σ' → concs m l = some vs → TRel m σ tm → tm.size = n →
    TRel m σ' ((ts.zip vs).foldl (fun tmps (t, a) => tmps.setIfInBounds t a) tm) ∧ ((ts.zip vs).foldl (fun tmps (t, a) => tmps.setIfInBounds t a) tm).size = n
  | [], [], vs, σ, σ', tm, h, hv, ht, hn => by
    simp only [putPs, Option.some.injEq] at h
    subst h
    exact ⟨ht, hn⟩
  | t :: ts, s :: l, vs, σ, σ', tm, h, hv, ht, hn => by
    obtain ⟨v, r, h1, h2, rfl⟩ := concs_cons_inv hv
    simp only [putPs] at h
    split at h
    · rename_i hb
      have := Nat.le_of_ble_eq_true hb
      have q := putPs_rel (tm := tm.setIfInBounds t v) h h2 (ht.put (by omega) h1) (by simpa using hn)
      exact q
    · simp at h
  | [], _ :: _, vs, σ, σ', tm, h, hv, ht, hn => by simp [putPs] at h
  | _ :: _, [], vs, σ, σ', tm, h, hv, ht, hn => by simp [putPs] at h

end
end Go.Ev
