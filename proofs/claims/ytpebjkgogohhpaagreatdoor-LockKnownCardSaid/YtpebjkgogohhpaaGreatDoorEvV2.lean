/- The small machine's memory, and the model's memory that it stands for. -/
import Derived.Test.YtpebjkgogohhpaaGreatDoorEvV1
import Derived.Below
namespace Go.Ev
open Go.RowKit

/-- The temporaries. -/
def TRel (m : Map) (σ : Tree SV) (tm : Array Value) : Prop := ∀ t s, σ.get (Pos.ofNat t) = some s → ∃ v, tm[t]? = some v ∧ conc m s = some v

theorem TRel.ext {m m' : Map} (h : Ext m m') {σ tm} (hr : TRel m σ tm) : TRel m' σ tm := fun t s e =>
  let ⟨v, h1, h2⟩ := hr t s e; ⟨v, h1, conc_ext h _ _ h2⟩

/-- The record of a loop over a function. -/
structure LoopS where
  st : LoopState
  pend : Option Code
  fn : FuncId
  n : Nat
  tmps : Tree SV
  ps : List Tmp
  assign : Code
  body : Code
  df : Pos

/-- What is known of a row's block: it may bear a mark behind its end; none is frozen but of the row's first cells; none is frozen, and it is the whole block. -/
inductive RK where
  | mark
  | head (k : Nat)
  | whole

/-- What lies under a name. (row: of which type its block is. fix: a row that is only read.) -/
inductive SObj where
  | row (e : TypeId) (k : RK) (cells : List SV)
  | fix (cells : List SV)
  | map (es : List (SV × SV × Nat)) (clock : Nat)
  | siter (s : List UInt8) (pos : Nat)
  | loop (L : LoopS)
  | defd

def SObj.own : SObj → Bool
  | .fix _ => false
  | _ => true

/-- (floor: what lies under lower names may not be written.) -/
structure Mem where
  t : Tree SObj
  next : Pos
  floor : Nat

inductive All2 {α β : Type} (R : α → β → Prop) : List α → List β → Prop
  | nil : All2 R [] []
  | cons {a b l k} : R a b → All2 R l k → All2 R (a :: l) (b :: k)

/-- An entry of a map. -/
def EntRel (m : Map) (s : SV × SV × Nat) (e : MapEntry) : Prop := conc m s.1 = some e.key ∧ conc m s.2.1 = some e.val ∧ s.2.2 = e.born

def Frz (k : RK) (p : Pl) (n : Nat) (fz : Nat × Nat) : Prop := match k with
  | .mark => fz.2 ≤ fz.1 ∨ p.size ≤ fz.1
  | .head k => fz.2 ≤ p.shift + k
  | .whole => fz.2 = 0 ∧ p.shift = 0 ∧ p.size = n

theorem Frz.zero {k : RK} (h : k ≠ .whole) (p : Pl) (n : Nat) : Frz k p n (0, 0) := by
  cases k with
  | mark => exact .inl (Nat.le_refl _)
  | head k => exact Nat.zero_le _
  | whole => exact absurd rfl h

theorem Frz.store {k : RK} {p : Pl} {n : Nat} {fz : Nat × Nat} {off sz : Nat} (h : Frz k p n fz) (hk : ∀ j, k = .head j → j ≤ off) (hs : p.size = sz) : fz.2 ≤ fz.1 ∨ sz ≤ fz.1 ∨ fz.2 ≤ off + p.shift := by
  cases k with
  | mark => rcases h with h | h <;> omega
  | head j =>
    have := hk j rfl
    have h' : fz.2 ≤ p.shift + j := h
    omega
  | whole =>
    have h' : fz.2 = 0 ∧ p.shift = 0 ∧ p.size = n := h
    omega

theorem Frz.len {k : RK} {p : Pl} {n n' : Nat} {fz : Nat × Nat} (h : Frz k p n fz) (hn : n' = n) : Frz k p n' fz := hn ▸ h

def RowRel (m : Map) (p : Pl) (te : Option TypeId) (k : RK) (cells : List SV) (o : Option Obj) : Prop :=
  ∃ e fz pre vs post, o = some (.cells (pre ++ (vs ++ post)).toArray e fz) ∧ Frz k p vs.length fz ∧ pre.length = p.shift ∧ pre.length + (vs.length + post.length) = p.size ∧ concs m cells = some vs ∧ ∀ t, te = some t → e = t

def LoopRel (m : Map) (L : LoopS) (R : Loop) : Prop :=
  R.state = L.st ∧ R.pending = L.pend ∧ R.fn = L.fn ∧ TRel m L.tmps R.tmps ∧ R.tmps.size = L.n ∧ R.params.toList = L.ps ∧ R.assign = L.assign ∧ R.body = L.body ∧ ∃ q, m L.df = some q ∧ R.defers = q.block

def ObjRel (m : Map) (p : Pl) : SObj → Option Obj → Prop
  | .row e k cells, o => RowRel m p (some e) k cells o
  | .fix cells, o => RowRel m p none .mark cells o
  | .map es clock, o => ∃ a, o = some (.map a clock) ∧ All2 (EntRel m) es a.toList
  | .siter s pos, o => o = some (.stringIter ⟨s.toArray⟩ pos)
  | .loop L, o => ∃ R, o = some (.loop R) ∧ LoopRel m L R
  | .defd, o => o = some (.deferred (some []))

theorem EntRel.ext {m m' : Map} (h : Ext m m') {s e} (hr : EntRel m s e) : EntRel m' s e := ⟨conc_ext h _ _ hr.1, conc_ext h _ _ hr.2.1, hr.2.2⟩

theorem All2.mono {α β : Type} {R S : α → β → Prop} (h : ∀ a b, R a b → S a b) : ∀ {l : List α} {k : List β}, All2 R l k → All2 S l k
  | _, _, .nil => .nil
  | _, _, .cons a b => .cons (h _ _ a) (All2.mono h b)

theorem RowRel.ext {m m' : Map} (h : Ext m m') {p : Pl} {te : Option TypeId} {k : RK} {o : List SV} {x : Option Obj} (hr : RowRel m p te k o x) : RowRel m' p te k o x := by
  obtain ⟨e, fz, pre, vs, post, hx, hz, hs, hl, hc, ht⟩ := hr
  exact ⟨e, fz, pre, vs, post, hx, hz, hs, hl, concs_ext h _ _ hc, ht⟩

theorem ObjRel.ext {m m' : Map} (h : Ext m m') {p : Pl} {o : SObj} {x : Option Obj} (hr : ObjRel m p o x) : ObjRel m' p o x := by
  cases o with
  | row e k cells => exact RowRel.ext h hr
  | fix cells => exact RowRel.ext h hr
  | map es clock =>
    obtain ⟨a, hx, ha⟩ := hr
    exact ⟨a, hx, All2.mono (fun _ _ => EntRel.ext h) ha⟩
  | siter s pos => exact hr
  | loop L =>
    obtain ⟨R, hx, h1, h2, h3, h4, h5, h6, h7, h8, q, h9, h10⟩ := hr
    exact ⟨R, hx, h1, h2, h3, h4.ext h, h5, h6, h7, h8, q, h _ _ h9, h10⟩
  | defd => exact hr

/-- The memory of the small machine stands for the world's, each row where m places it. (A row that is not placed is not there yet.) What lies below block B is only read. -/
structure MRel (B : Nat) (m : Map) (M : Mem) (w : World) : Prop where
  objs : ∀ b o p, M.t.get b = some o → m b = some p → ObjRel m p o w.heap[p.block]?
  inj : ∀ b b' o o' p p', M.t.get b = some o → M.t.get b' = some o' → m b = some p → m b' = some p' → p.block = p'.block → b = b'
  fresh : ∀ b, M.next.num ≤ b.num → m b = none ∧ M.t.get b = none
  bound : ∀ b p, m b = some p → p.block < w.heap.size
  low : ∀ b o p, M.t.get b = some o → o.own = true → m b = some p → B ≤ p.block
  base : B ≤ w.heap.size
  glob : ∀ b c, M.t.get b = some (.fix c) → ∃ z, m b = some ⟨b.num - 1, 0, z⟩
  flo : M.floor ≤ M.next.num

/-- A block that something under a name lies in that may be written. -/
def Owned (m : Map) (M : Mem) (k : Nat) : Prop := ∃ c x q, M.t.get c = some x ∧ x.own = true ∧ m c = some q ∧ q.block = k

/-- What an operation does to both. -/
structure Stepped (B : Nat) (m : Map) (M : Mem) (w : World) (m' : Map) (M' : Mem) (w' : World) : Prop where
  rel : MRel B m' M' w'
  same : ∀ b, b.num < M.next.num → m' b = m b
  keep : ∀ b, b.num < M.next.num → m b = none → M'.t.get b = M.t.get b
  next : M.next.num ≤ M'.next.num
  below : Below B w w'
  frame : ∀ k, k < w.heap.size → ¬ Owned m M k → w'.heap[k]? = w.heap[k]?
  born : ∀ k, k < w.heap.size → Owned m' M' k → Owned m M k
  under : ∀ b, b.num < M.floor → M'.t.get b = M.t.get b
  floor : M'.floor = M.floor
  fixes : ∀ b c, M'.t.get b = some (.fix c) → M.t.get b = some (.fix c)

theorem MRel.ext {B m M w} (hr : MRel B m M w) {m' : Map} (h : ∀ b, b.num < M.next.num → m' b = m b) : Ext m m' := by
  intro b p hp
  by_cases hb : b.num < M.next.num
  · rw [h b hb]; exact hp
  · have := (hr.fresh b (by omega)).1
    rw [this] at hp
    exact absurd hp (by simp)

theorem Stepped.ext {B m M w m' M' w'} (hr : MRel B m M w) (h : Stepped B m M w m' M' w') : Ext m m' := hr.ext h.same

theorem Stepped.refl {B m M w} (hr : MRel B m M w) : Stepped B m M w m M w := ⟨hr, fun _ _ => rfl, fun _ _ _ => rfl, Nat.le_refl _, Below.refl _ _, fun _ _ _ => rfl, fun _ _ h => h, fun _ _ => rfl, rfl, fun _ _ h => h⟩

theorem Stepped.trans {B m M w m1 M1 w1 m2 M2 w2} (h1 : Stepped B m M w m1 M1 w1) (h2 : Stepped B m1 M1 w1 m2 M2 w2) : Stepped B m M w m2 M2 w2 := by
  refine ⟨h2.rel, fun b hb => ?_, fun b hb hm => ?_, Nat.le_trans h1.next h2.next, h1.below.trans h2.below, fun k hk ho => ?_, fun k hk ho => ?_, fun b hb => ?_, h2.floor.trans h1.floor, fun b c h => h1.fixes b c (h2.fixes b c h)⟩
  · rw [h2.same b (by have := h1.next; omega), h1.same b hb]
  · rw [h2.keep b (by have := h1.next; omega) (by rw [h1.same b hb]; exact hm), h1.keep b hb hm]
  · rw [h2.frame k (by have := h1.below.size; omega) (fun h => ho (h1.born k hk h)), h1.frame k hk ho]
  · exact h1.born k hk (h2.born k (by have := h1.below.size; omega) ho)
  · rw [h2.under b (by rw [h1.floor]; exact hb), h1.under b hb]

/-- Draws change nothing. -/
theorem MRel.drew {B m M w w'} (hr : MRel B m M w) (h : w'.heap = w.heap) : MRel B m M w' :=
  ⟨fun b o p h1 h2 => h ▸ hr.objs b o p h1 h2, hr.inj, hr.fresh, fun b p h1 => h ▸ hr.bound b p h1, hr.low, h ▸ hr.base, hr.glob, hr.flo⟩

/-- A new name for a row, maybe in the place of one that is lost. -/
theorem Stepped.fresh {B : Nat} {m : Map} {M : Mem} {w w' : World} (hr : MRel B m M w) (M1 : Tree SObj) (p : Pl) (o : SObj)
    (hM1 : ∀ b x, M1.get b = some x → M.t.get b = some x)
    (hkeep : ∀ b, b.num < M.next.num → m b = none → M1.get b = M.t.get b)
    (hunder : ∀ b, b.num < M.floor → M1.get b = M.t.get b)
    (hold : ∀ b x q, M1.get b = some x → m b = some q → q.block ≠ p.block ∧ w'.heap[q.block]? = w.heap[q.block]?)
    (hb : Below B w w') (hp : p.block < w'.heap.size) (hB : B ≤ p.block) (hown : o.own = true)
    (ho : ∀ m', Ext m m' → ObjRel m' p o w'.heap[p.block]?)
    (hframe : ∀ k, k < w.heap.size → ¬ Owned m M k → w'.heap[k]? = w.heap[k]?) (hborn : p.block < w.heap.size → Owned m M p.block) :
    Stepped B m M w (fun b => if b = M.next then some p else m b) ⟨M1.put (some o) M.next, M.next.succ, M.floor⟩ w' := by
  have hnone : ∀ b, M.next.num ≤ b.num → M1.get b = none := by
    intro b hb
    cases h : M1.get b with
    | none => rfl
    | some x => have := hM1 b x h; rw [(hr.fresh b hb).2] at this; exact absurd this (by simp)
  have hext : Ext m (fun b => if b = M.next then some p else m b) := by
    intro b q hq
    by_cases hb : b = M.next
    · rw [hb, (hr.fresh _ (Nat.le_refl _)).1] at hq; exact absurd hq (by simp)
    · simp [hb, hq]
  refine ⟨⟨?_, ?_, ?_, ?_, ?_, Nat.le_trans hr.base hb.size, ?_, ?_⟩, ?_, ?_, ?_, hb, hframe, ?_, ?_, rfl, ?_⟩
  · intro b x q hx hq
    by_cases hb : b = M.next
    · subst hb
      simp only [Tree.get_put_same, Option.some.injEq] at hx
      simp only [if_true, Option.some.injEq] at hq
      subst hx; subst hq
      exact ho _ hext
    · simp only [Tree.get_put_other _ _ (Ne.symm hb)] at hx
      simp only [hb, if_false] at hq
      obtain ⟨_, he⟩ := hold b x q hx hq
      rw [he]
      exact (hr.objs b x q (hM1 _ _ hx) hq).ext hext
  · intro b b' x x' q q' hx hx' hq hq' he
    by_cases hb : b = M.next <;> by_cases hb' : b' = M.next
    · rw [hb, hb']
    · subst hb
      simp only [Tree.get_put_other _ _ (Ne.symm hb')] at hx'
      simp only [if_true, Option.some.injEq] at hq
      simp only [hb', if_false] at hq'
      subst hq
      exact absurd he.symm (hold b' x' q' hx' hq').1
    · subst hb'
      simp only [Tree.get_put_other _ _ (Ne.symm hb)] at hx
      simp only [if_true, Option.some.injEq] at hq'
      simp only [hb, if_false] at hq
      subst hq'
      exact absurd he (hold b x q hx hq).1
    · simp only [Tree.get_put_other _ _ (Ne.symm hb)] at hx
      simp only [Tree.get_put_other _ _ (Ne.symm hb')] at hx'
      simp only [hb, if_false] at hq
      simp only [hb', if_false] at hq'
      exact hr.inj b b' x x' q q' (hM1 _ _ hx) (hM1 _ _ hx') hq hq' he
  · intro b hb
    simp only [Pos.num_succ] at hb
    have hne : b ≠ M.next := by intro h; subst h; omega
    simp only [hne, if_false, Tree.get_put_other _ _ (Ne.symm hne)]
    exact ⟨(hr.fresh b (by omega)).1, hnone b (by omega)⟩
  · intro b q hq
    by_cases hb' : b = M.next
    · simp only [hb', if_true, Option.some.injEq] at hq; subst hq; exact hp
    · simp only [hb', if_false] at hq
      have := hr.bound b q hq
      have := hb.size
      omega
  · intro b x q hx hown hq
    by_cases hb' : b = M.next
    · simp only [hb', if_true, Option.some.injEq] at hq; subst hq; exact hB
    · simp only [hb', if_false] at hq
      simp only [Tree.get_put_other _ _ (Ne.symm hb')] at hx
      exact hr.low b x q (hM1 _ _ hx) hown hq
  · intro b c hc
    by_cases hb' : b = M.next
    · subst hb'
      simp only [Tree.get_put_same, Option.some.injEq] at hc
      subst hc
      simp [SObj.own] at hown
    · simp only [Tree.get_put_other _ _ (Ne.symm hb')] at hc
      obtain ⟨z, h⟩ := hr.glob b c (hM1 _ _ hc)
      exact ⟨z, by simp [hb', h]⟩
  · have := hr.flo; simp only [Pos.num_succ]; omega
  · intro b hb
    have hne : b ≠ M.next := by intro h; subst h; omega
    simp [hne]
  · intro b hb hm
    have hne : b ≠ M.next := by intro h; subst h; omega
    simp only [Tree.get_put_other _ _ (Ne.symm hne)]
    exact hkeep b hb hm
  · simp only [Pos.num_succ]; omega
  · rintro k hk ⟨c, x, q, hx, hxo, hq, rfl⟩
    by_cases hc : c = M.next
    · simp only [hc, if_true, Option.some.injEq] at hq
      subst hq
      exact hborn hk
    · simp only [hc, if_false] at hq
      simp only [Tree.get_put_other _ _ (Ne.symm hc)] at hx
      exact ⟨c, x, q, hM1 _ _ hx, hxo, hq, rfl⟩
  · intro b hb
    have hne : b ≠ M.next := by intro h; subst h; have := hr.flo; omega
    simp only [Tree.get_put_other _ _ (Ne.symm hne)]
    exact hunder b hb
  · intro b c hc
    by_cases hb' : b = M.next
    · subst hb'
      simp only [Tree.get_put_same, Option.some.injEq] at hc
      subst hc
      simp [SObj.own] at hown
    · simp only [Tree.get_put_other _ _ (Ne.symm hb')] at hc
      exact hM1 _ _ hc

/-- What lies under a name turns, in its own block. -/
theorem Stepped.update {B : Nat} {m : Map} {M : Mem} {w w' : World} (hr : MRel B m M w) (b : Pos) (x o : SObj) (p : Pl)
    (hx : M.t.get b = some x) (hown : x.own = true) (hp : m b = some p)
    (hold : ∀ k, k ≠ p.block → w'.heap[k]? = w.heap[k]?) (hb : Below B w w')
    (hown' : o.own = true) (ho : ObjRel m p o w'.heap[p.block]?) (hfl : M.floor ≤ b.num) :
    Stepped B m M w m ⟨M.t.put (some o) b, M.next, M.floor⟩ w' := by
  have hlt : b.num < M.next.num := by
    apply Classical.byContradiction
    intro h
    have := (hr.fresh b (by omega)).1
    rw [this] at hp; exact absurd hp (by simp)
  refine ⟨⟨?_, ?_, ?_, ?_, ?_, Nat.le_trans hr.base hb.size, ?_, hr.flo⟩, fun _ _ => rfl, ?_, Nat.le_refl _, hb, ?_, ?_, ?_, rfl, ?_⟩
  · intro c y q hy hq
    by_cases hb : b = c
    · subst hb
      simp only [Tree.get_put_same, Option.some.injEq] at hy
      subst hy
      rw [hp] at hq; cases hq
      exact ho
    · simp only [Tree.get_put_other _ _ hb] at hy
      have hne : q.block ≠ p.block := fun he => hb (hr.inj b c x y p q hx hy hp hq he.symm)
      rw [hold _ hne]
      exact hr.objs c y q hy hq
  · intro c c' y y' q q' hy hy' hq hq' he
    have f : ∀ {c y}, Tree.get c (M.t.put (some o) b) = some y → ∃ z, M.t.get c = some z := by
      intro c y h
      by_cases hb : b = c
      · subst hb; exact ⟨x, hx⟩
      · simp only [Tree.get_put_other _ _ hb] at h; exact ⟨y, h⟩
    obtain ⟨z, hz⟩ := f hy
    obtain ⟨z', hz'⟩ := f hy'
    exact hr.inj c c' z z' q q' hz hz' hq hq' he
  · intro c hc
    have hc' : M.next.num ≤ c.num := hc
    have hne : b ≠ c := by intro h; subst h; omega
    simp only [Tree.get_put_other _ _ hne]
    exact hr.fresh c hc'
  · intro c q hq
    have := hr.bound c q hq
    have := hb.size
    omega
  · intro c y q hy hyo hq
    by_cases hbc : b = c
    · subst hbc
      rw [hp] at hq; cases hq
      exact hr.low b x p hx hown hp
    · simp only [Tree.get_put_other _ _ hbc] at hy
      exact hr.low c y q hy hyo hq
  · intro c y hy
    by_cases hbc : b = c
    · subst hbc
      simp only [Tree.get_put_same, Option.some.injEq] at hy
      subst hy
      simp [SObj.own] at hown'
    · simp only [Tree.get_put_other _ _ hbc] at hy
      exact hr.glob c y hy
  · intro c hc hm
    have hne : b ≠ c := by intro h; subst h; rw [hp] at hm; exact absurd hm (by simp)
    simp only [Tree.get_put_other _ _ hne]
  · intro k _ hk
    exact hold k fun e => hk ⟨b, x, p, hx, hown, hp, e.symm⟩
  · rintro k _ ⟨c, y, q, hy, hyo, hq, rfl⟩
    by_cases hc : b = c
    · subst hc
      exact ⟨b, x, q, hx, hown, hq, rfl⟩
    · simp only [Tree.get_put_other _ _ hc] at hy
      exact ⟨c, y, q, hy, hyo, hq, rfl⟩
  · intro c hc
    have hne : b ≠ c := by intro h; subst h; omega
    simp only [Tree.get_put_other _ _ hne]
  · intro c y hy
    by_cases hbc : b = c
    · subst hbc
      simp only [Tree.get_put_same, Option.some.injEq] at hy
      subst hy
      simp [SObj.own] at hown'
    · simp only [Tree.get_put_other _ _ hbc] at hy
      exact hy

end Go.Ev
