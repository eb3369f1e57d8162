/- A part of the small machine. -/
import Derived.Test.YtjddbfpinjjkkaaGreatDoorEvL2
set_option linter.unusedVariables false
namespace Go.Ev
open Go.RowKit
variable {P : Program}
def zhu (P : Program) (g : FuncId) (xs : List SV) (M : Mem) (s : SV) (M' : Mem) : Prop :=
 P.follows .mixedOrders = true → ∀ (B : Nat) (m : Map) (w : World) (vs : Array Value), MRel B m M w → concs m xs = some vs.toList → ∀ (c : Frame) (cs : List Frame),
  ∃ m' w' v, z82 B m M w m' M' w' ∧ conc m' s = some v ∧ Steps P (lone (Frame.enter P g vs .normal) (c :: cs) w) (lone (c.finish v) cs w')
def CallsM (P : Program) (g : FuncId) (xs : List SV) (M : Mem) (R : SV → Mem → Prop) : Prop := WF M → ∃ s M', zhu P g xs M s M' ∧ Aft M M' ∧ R s M'
theorem CallsM.imp {g : FuncId} {xs : List SV} {M : Mem} {R R' : SV → Mem → Prop} (h : CallsM P g xs M R) (hr : ∀ s M', R s M' → R' s M') : CallsM P g xs M R' := fun hw => by
 obtain ⟨s, M', h1, h2, h3⟩ := h hw
 exact ⟨s, M', h1, h2, hr _ _ h3⟩
namespace Tree
variable {α β : Type}
def mapT (f : α → Option β) : Tree α → Tree β
 | .leaf => .leaf
 | .node l v r => .node (mapT f l) (v.bind f) (mapT f r)
theorem get_mapT (f : α → Option β) : ∀ (t : Tree α) (p : Pos), get p (mapT f t) = (get p t).bind f
 | .leaf, p => by rw [mapT, get_leaf, get_leaf]; rfl
 | .node l v r, .one => rfl
 | .node l v r, .b0 p => get_mapT f l p
 | .node l v r, .b1 p => get_mapT f r p
def filtT : Tree α → (Pos → Bool) → Tree α
 | .leaf, _ => .leaf
 | .node l v r, q => .node (filtT l fun p => q (.b0 p)) (bif q .one then v else none) (filtT r fun p => q (.b1 p))
theorem get_filtT : ∀ (t : Tree α) (q : Pos → Bool) (p : Pos), get p (filtT t q) = bif q p then get p t else none
 | .leaf, q, p => by rw [filtT, get_leaf]; cases q p <;> rfl
 | .node l v r, q, .one => rfl
 | .node l v r, q, .b0 p => get_filtT l _ p
 | .node l v r, q, .b1 p => get_filtT r _ p
def unT : Tree α → Tree α → Tree α
 | .leaf, t => t
 | .node l v r, .leaf => .node l v r
 | .node l v r, .node l' v' r' => .node (unT l l') (v.or v') (unT r r')
theorem get_unT : ∀ (t u : Tree α) (p : Pos), get p (unT t u) = (get p t).or (get p u)
 | .leaf, t, p => by rw [unT, get_leaf]; rfl
 | .node l v r, .leaf, p => by rw [unT, get_leaf]; cases get p (.node l v r) <;> rfl
 | .node l v r, .node l' v' r', .one => rfl
 | .node l v r, .node l' v' r', .b0 p => get_unT l l' p
 | .node l v r, .node l' v' r', .b1 p => get_unT r r' p
end Tree
def frz : SObj → Option SObj
 | .row _ _ c => some (.ro c)
 | .fix c => some (.fix c)
 | .ro c => some (.ro c)
 | _ => none
theorem zoo {o o' : SObj} (h : frz o = some o') : o'.own = false := by
 cases o <;> simp [frz] at h <;> subst h <;> rfl
noncomputable def frozen (M : Mem) : Mem := ⟨Tree.mapT frz M.t, M.next, M.next.num⟩
theorem z9y (M : Mem) (b : Pos) : (frozen M).t.get b = (M.t.get b).bind frz := Tree.get_mapT _ _ _
theorem zct {M : Mem} {b : Pos} {o : SObj} (h : (frozen M).t.get b = some o) : o.own = false := by
 rw [z9y, Option.bind_eq_some_iff] at h
 obtain ⟨x, _, hx⟩ := h
 exact zoo hx
theorem zbw {m : Map} {M : Mem} {j : Nat} (h : zbj m (frozen M) j) : False := by
 obtain ⟨c, x, q, hx, ho, _⟩ := h
 rw [zct hx] at ho
 exact absurd ho (by simp)
theorem frozen_rel {B : Nat} {m : Map} {M : Mem} {w : World} (hr : MRel B m M w) : MRel w.heap.size m (frozen M) w := by
 refine ⟨fun b o p hb hp => ?_, fun b b' o o' p p' hb hb' how _ _ _ => ?_, fun b hb => ⟨(hr.fresh b hb).1, ?_⟩, hr.bound, fun b o p hb ho _ => ?_, Nat.le_refl _, fun b c hb => ?_, Nat.le_refl _⟩
 ·rw [z9y, Option.bind_eq_some_iff] at hb
  obtain ⟨x, hx, hf⟩ := hb
  have hobj := hr.objs b x p hx hp
  cases x <;> simp only [frz, Option.some.injEq, reduceCtorEq] at hf <;> subst hf
  ·obtain ⟨e, fz, pre, vs, post, h1, _, h2, h3, h4, _⟩ := hobj
   exact ⟨e, fz, pre, vs, post, h1, trivial, h2, h3, h4, fun t ht => by simp at ht⟩
  ·exact hobj
  ·exact hobj
 ·rcases how with h | h
  ·rw [zct hb] at h; simp at h
  ·rw [zct hb'] at h; simp at h
 ·rw [z9y, (hr.fresh b hb).2]; rfl
 ·rw [zct hb] at ho; simp at ho
 ·rw [z9y, Option.bind_eq_some_iff] at hb
  obtain ⟨x, hx, hf⟩ := hb
  cases x <;> simp only [frz, Option.some.injEq, reduceCtorEq, SObj.fix.injEq] at hf
  subst hf
  exact hr.glob b _ hx
noncomputable def zcc (M Me : Mem) : Mem := ⟨Tree.unT (Tree.filtT M.t fun b => decide (b.num < M.next.num)) (Tree.filtT Me.t fun b => decide (M.next.num ≤ b.num)), Me.next, M.floor⟩
theorem z8n {M Me : Mem} {b : Pos} (h : b.num < M.next.num) : (zcc M Me).t.get b = M.t.get b := by
 show Tree.get b (Tree.unT _ _) = _
 rw [Tree.get_unT, Tree.get_filtT, Tree.get_filtT]
 have h1 : decide (b.num < M.next.num) = true := decide_eq_true h
 have h2 : decide (M.next.num ≤ b.num) = false := decide_eq_false (by omega)
 rw [h1, h2]
 cases Tree.get b M.t <;> rfl
theorem z9z {M Me : Mem} {b : Pos} (h : M.next.num ≤ b.num) : (zcc M Me).t.get b = Me.t.get b := by
 show Tree.get b (Tree.unT _ _) = _
 rw [Tree.get_unT, Tree.get_filtT, Tree.get_filtT]
 have h1 : decide (b.num < M.next.num) = false := decide_eq_false (by omega)
 have h2 : decide (M.next.num ≤ b.num) = true := decide_eq_true h
 rw [h1, h2]
 rfl
theorem zg1 {B : Nat} {m m' : Map} {M Me : Mem} {w w' : World} (hr : MRel B m M w) (hl : z82 w.heap.size m (frozen M) w m' Me w') : z82 B m M w m' (zcc M Me) w' := by
 have hsame : ∀ b, b.num < M.next.num → m' b = m b := hl.same
 have hext : Ext m m' := hr.ext hsame
 have hnext : M.next.num ≤ Me.next.num := hl.next
 have hnew : ∀ b p, M.next.num ≤ b.num → m' b = some p → w.heap.size ≤ p.block := by
  intro b p hb hp
  apply Classical.byContradiction
  intro h
  exact zbw (hl.news b p hb hp (by omega))
 refine ⟨⟨fun b o p hb hp => ?_, fun b b' o o' p p' hb hb' how hp hp' he => ?_, fun b hb => ?_, hl.rel.bound, fun b o p hb ho hp => ?_, Nat.le_trans hr.base hl.below.size, fun b c hb => ?_, ?_⟩, hsame, fun b hb _ => z8n hb, hnext, hl.below.mono hr.base, fun k hk _ => hl.frame k hk fun h => zbw h, fun j hj ho => ?_, fun b hb => z8n (Nat.lt_of_lt_of_le hb hr.flo), rfl, fun b c hb => ?_, fun b p hb hp hlt => ?_⟩
 ·by_cases h : b.num < M.next.num
  ·rw [z8n h] at hb
   rw [hsame b h] at hp
   rw [hl.below.block _ (hr.bound b p hp)]
   exact (hr.objs b o p hb hp).ext hext
  ·rw [z9z (by omega)] at hb
   exact hl.rel.objs b o p hb hp
 ·by_cases h : b.num < M.next.num <;> by_cases h' : b'.num < M.next.num
  ·rw [z8n h] at hb
   rw [z8n h'] at hb'
   rw [hsame b h] at hp
   rw [hsame b' h'] at hp'
   exact hr.inj b b' o o' p p' hb hb' how hp hp' he
  ·rw [hsame b h] at hp
   have := hr.bound b p hp
   have := hnew b' p' (by omega) hp'
   omega
  ·rw [hsame b' h'] at hp'
   have := hr.bound b' p' hp'
   have := hnew b p (by omega) hp
   omega
  ·rw [z9z (by omega)] at hb hb'
   exact hl.rel.inj b b' o o' p p' hb hb' how hp hp' he
 ·have hb' : Me.next.num ≤ b.num := hb
  rw [z9z (by omega)]
  exact hl.rel.fresh b hb'
 ·by_cases h : b.num < M.next.num
  ·rw [z8n h] at hb
   rw [hsame b h] at hp
   exact hr.low b o p hb ho hp
  ·exact Nat.le_trans hr.base (hnew b p (by omega) hp)
 ·by_cases h : b.num < M.next.num
  ·rw [z8n h] at hb
   rw [hsame b h]
   exact hr.glob b c hb
  ·rw [z9z (by omega)] at hb
   exact hl.rel.glob b c hb
 ·exact Nat.le_trans hr.flo hnext
 ·obtain ⟨b, x, q, hx, hxo, hq, rfl⟩ := ho
  by_cases h : b.num < M.next.num
  ·rw [z8n h] at hx
   rw [hsame b h] at hq
   exact ⟨b, x, q, hx, hxo, hq, rfl⟩
  ·have := hnew b q (by omega) hq
   omega
 ·by_cases h : b.num < M.next.num
  ·rw [z8n h] at hb; exact hb
  ·rw [z9z (by omega)] at hb
   have h2 := hl.fixes b c hb
   rw [z9y, (hr.fresh b (by omega)).2] at h2
   simp at h2
 ·have := hnew b p hb hp
  omega
noncomputable def zh2 (M Me : Mem) : Mem := ⟨Tree.unT (Tree.filtT M.t fun b => decide (b.num < M.next.num)) (Tree.filtT (Tree.mapT frz Me.t) fun b => decide (M.next.num ≤ b.num)), Me.next, M.floor⟩
theorem zdk {M Me : Mem} {b : Pos} (h : b.num < M.next.num) : (zh2 M Me).t.get b = M.t.get b := by
 show Tree.get b (Tree.unT _ _) = _
 rw [Tree.get_unT, Tree.get_filtT, Tree.get_filtT]
 have h1 : decide (b.num < M.next.num) = true := decide_eq_true h
 have h2 : decide (M.next.num ≤ b.num) = false := decide_eq_false (by omega)
 rw [h1, h2]
 cases Tree.get b M.t <;> rfl
theorem zji {M Me : Mem} {b : Pos} (h : M.next.num ≤ b.num) : (zh2 M Me).t.get b = (Me.t.get b).bind frz := by
 show Tree.get b (Tree.unT _ _) = _
 rw [Tree.get_unT, Tree.get_filtT, Tree.get_filtT, Tree.get_mapT]
 have h1 : decide (b.num < M.next.num) = false := decide_eq_false (by omega)
 have h2 : decide (M.next.num ≤ b.num) = true := decide_eq_true h
 rw [h1, h2]
 rfl
theorem zn1 {B : Nat} {m m' : Map} {M Me : Mem} {w w' : World} (hr : MRel B m M w) (hl : z82 w.heap.size m (frozen M) w m' Me w') : z82 B m M w m' (zh2 M Me) w' := by
 have h1 := zg1 hr hl
 have hg : ∀ b o, (zh2 M Me).t.get b = some o → ∃ o', (zcc M Me).t.get b = some o' ∧ (o = o' ∨ frz o' = some o ∧ M.next.num ≤ b.num) := by
  intro b o h
  by_cases hb : b.num < M.next.num
  ·rw [zdk hb] at h
   exact ⟨o, by rw [z8n hb]; exact h, .inl rfl⟩
  ·rw [zji (by omega), Option.bind_eq_some_iff] at h
   obtain ⟨o', h2, h3⟩ := h
   exact ⟨o', by rw [z9z (by omega)]; exact h2, .inr ⟨h3, by omega⟩⟩
 have hown : ∀ b o, (zh2 M Me).t.get b = some o → o.own = true → (zcc M Me).t.get b = some o := by
  intro b o h ho
  obtain ⟨o', h2, h3 | ⟨h3, _⟩⟩ := hg b o h
  ·subst h3; exact h2
  ·rw [zoo h3] at ho; simp at ho
 have hO : ∀ j, zbj m' (zh2 M Me) j → zbj m' (zcc M Me) j := fun j ⟨c, x, q, hx, hxo, hq, he⟩ => ⟨c, x, q, hown c x hx hxo, hxo, hq, he⟩
 refine ⟨⟨fun b o p hb hp => ?_, fun b b' o o' p p' hb hb' how hp hp' he => ?_, fun b hb => ⟨(h1.rel.fresh b hb).1, ?_⟩, h1.rel.bound, fun b o p hb ho hp => h1.rel.low b o p (hown b o hb ho) ho hp, h1.rel.base, fun b c hb => ?_, h1.rel.flo⟩, h1.same, fun b hb _ => zdk hb, h1.next, h1.below, h1.frame, fun j hj ho => h1.born j hj (hO j ho), fun b hb => zdk (Nat.lt_of_lt_of_le hb hr.flo), rfl, fun b c hb => ?_, h1.news⟩
 ·obtain ⟨o', h2, h3 | ⟨h3, _⟩⟩ := hg b o hb
  ·subst h3; exact h1.rel.objs b o p h2 hp
  ·have hobj := h1.rel.objs b o' p h2 hp
   cases o' <;> simp only [frz, Option.some.injEq, reduceCtorEq] at h3 <;> subst h3
   ·obtain ⟨e, fz, pre, vs, post, h1, _, h2, h3, h4, _⟩ := hobj
    exact ⟨e, fz, pre, vs, post, h1, trivial, h2, h3, h4, fun t ht => by simp at ht⟩
   ·exact hobj
   ·exact hobj
 ·rcases how with ho | ho
  ·obtain ⟨x, h2, _⟩ := hg b' o' hb'
   exact h1.rel.inj b b' o x p p' (hown b o hb ho) h2 (.inl ho) hp hp' he
  ·obtain ⟨x, h2, _⟩ := hg b o hb
   exact h1.rel.inj b b' x o' p p' h2 (hown b' o' hb' ho) (.inr ho) hp hp' he
 ·cases h : (zh2 M Me).t.get b with
  | none => rfl
  | some o =>
   obtain ⟨o', h2, _⟩ := hg b o h
   rw [(h1.rel.fresh b hb).2] at h2
   simp at h2
 ·obtain ⟨o', h2, h3 | ⟨h3, _⟩⟩ := hg b _ hb
  ·subst h3; exact h1.rel.glob b c h2
  ·cases o' <;> simp only [frz, Option.some.injEq, reduceCtorEq, SObj.fix.injEq] at h3
   subst h3
   exact h1.rel.glob b _ h2
 ·obtain ⟨o', h2, h3 | ⟨h3, _⟩⟩ := hg b _ hb
  ·subst h3; exact h1.fixes b c h2
  ·cases o' <;> simp only [frz, Option.some.injEq, reduceCtorEq, SObj.fix.injEq] at h3
   subst h3
   exact h1.fixes b _ h2
theorem zjh {M : Mem} (h : WF M) : WF (frozen M) := by
 refine ⟨fun b hb => ?_, Nat.le_refl _⟩
 rw [z9y, h.1 b hb]
 rfl
theorem zn3 {M Me : Mem} (h : WF M) (h' : Aft (frozen M) Me) : Aft M (zcc M Me) := by
 have hn : M.next.num ≤ Me.next.num := h'.next
 refine ⟨⟨fun b hb => ?_, Nat.le_trans h.2 hn⟩, rfl, hn, fun b hb => z8n (Nat.lt_of_lt_of_le hb h.2)⟩
 have hb' : Me.next.num ≤ b.num := hb
 rw [z9z (by omega)]
 exact h'.wf.1 b hb'
theorem zop {M Me : Mem} (h : WF M) (h' : Aft (frozen M) Me) : Aft M (zh2 M Me) := by
 have hn : M.next.num ≤ Me.next.num := h'.next
 refine ⟨⟨fun b hb => ?_, Nat.le_trans h.2 hn⟩, rfl, hn, fun b hb => zdk (Nat.lt_of_lt_of_le hb h.2)⟩
 have hb' : Me.next.num ≤ b.num := hb
 rw [zji (by omega), h'.wf.1 b hb']
 rfl
inductive DrawR (P : Program) (n : Nat) (all : Array Oper) : List PE → Tree SV → Mem → Tree SV → Mem → Prop
 | nil {σ M} : DrawR P n all [] σ M σ M
 | sync {r σ M σ' M'} : DrawR P n all r σ M σ' M' → DrawR P n all (.sync :: r) σ M σ' M'
 | fl {i r σ M σ' M' o s σ1} (ho : all[i]? = some o) (hev : zd0 P all M σ o = some s) (hput : zam σ n o.dst s = some σ1) (h : DrawR P n all r σ1 M σ' M') : DrawR P n all (.fl i :: r) σ M σ' M'
 | no {i L r σ M σ' M' o σ1} (ho : all[i]? = some o) (hw : z8e all σ o = some false) (hput : zam σ n o.dst (.tuple []) = some σ1) (hst : z8g P all M σ1 L = true) (h : DrawR P n all r σ1 M σ' M') : DrawR P n all (.an i L :: r) σ M σ' M'
 | val {i L r σ M σ' M' o s M2 σ1} (ho : all[i]? = some o) (hw : z8e all σ o = some true) (hx : exec P M σ o = .val s M2) (hput : zam σ n o.dst s = some σ1) (hst : z8g P all M2 σ1 L = true) (h : DrawR P n all r σ1 M2 σ' M') : DrawR P n all (.an i L :: r) σ M σ' M'
 | enter {i L r σ M σ' M' o f xs M2 s M3 σ1} (ho : all[i]? = some o) (hw : z8e all σ o = some true) (hx : exec P M σ o = .enter f xs M2) (hc : zhu P f xs M2 s M3) (hput : zam σ n o.dst s = some σ1) (hst : z8g P all M3 σ1 L = true) (h : DrawR P n all r σ1 M3 σ' M') : DrawR P n all (.an i L :: r) σ M σ' M'
theorem zmt (hmix : P.follows .mixedOrders = true) {B : Nat} {all : Array Oper} {n : Nat} (cx : Cx) (todo : List Item) (fs : List Frame) :
  ∀ (plan : List PE) {E Q S rest : List Nat} {m : Map} {M : Mem} {w : World} {σ : Tree SV} {tm : Array Value} {σ' : Tree SV} {M' : Mem},
   DrawR P n all plan σ M σ' M' → zav P all (z94 all.toList) plan E Q = true → Mid P B all n m M w σ tm S rest E Q →
   ∃ m' w' tm', Steps P (lone (mkF cx tm (.inRegion all rest :: todo)) fs w) (lone (mkF cx tm' todo) fs w') ∧ z82 B m M w m' M' w' ∧ za6 m' σ' tm' ∧ tm'.size = n := by
 intro plan
 induction plan with
 | nil =>
  intro E Q S rest m M w σ tm σ' M' hrun hval h
  cases hrun
  simp only [zav, List.all_eq_true, List.mem_range] at hval
  have hall : ∀ i, i < all.size → i ∈ E := fun i hi => z8t.1 (hval i hi)
  obtain ⟨m1, w1, tm1, S1, rest1, hs, h1, hst, hE⟩ := h.drain (fun j o ho hj => absurd (hall j (Array.getElem?_eq_some_iff.1 ho).1) hj) cx todo fs
  have ht := h1.topo
  cases ht with
  | cons hn ho hp _ =>
   have hj := (Array.getElem?_eq_some_iff.1 ho).1
   exact absurd (hE _ (hall _ hj) hj) hn
  | nil _ =>
   refine ⟨m1, w1, tm1, hs.trans (.one (stepR_region_end (P := P) (b := mkF cx tm1 []) (a := ⟨tm1, cx.ds⟩))), hst, fun t s hts => ?_, h1.size⟩
   exact h1.rel t s hts fun i hi hiS o ho => absurd (hE i hi (Array.getElem?_eq_some_iff.1 ho).1) hiS
 | cons pe plan ih =>
  intro E Q S rest m M w σ tm σ' M' hrun hval h
  cases pe with
  | sync =>
   cases hrun with
   | sync hrun =>
   simp only [zav, Bool.and_eq_true, List.all_eq_true, List.mem_range, Bool.or_eq_true] at hval
   obtain ⟨hv, hval⟩ := hval
   obtain ⟨m1, w1, tm1, S1, rest1, hs, h1, hst, hE⟩ := h.drain (fun j o ho hj q hq => by
    have hj' := (Array.getElem?_eq_some_iff.1 ho).1
    rcases hv j hj' with hin | hb
    ·exact absurd (z8t.1 hin) hj
    ·exact z8o hj' (hb q hq)) cx todo fs
   have hmid : Mid P B all n m1 M w1 σ tm1 S1 rest1 E [] := by
    refine ⟨h1.mem, h1.size, h1.topo, h1.closed, h1.sub, ?_, h1.pd, h1.rel, by simp, by simp, h1.dn⟩
    intro i hi hiS
    obtain ⟨o, _, ho, _⟩ := h1.pd i hi hiS
    exact absurd (hE i hi (Array.getElem?_eq_some_iff.1 ho).1) hiS
   obtain ⟨m2, w2, tm2, hs2, hst2, ht2, hn2⟩ := ih hrun hval hmid
   exact ⟨m2, w2, tm2, hs.trans hs2, hst.trans hst2, ht2, hn2⟩
  | fl i =>
   cases hrun with
   | fl ho hev hput hrun =>
      rename_i o s σ1
      simp only [zav] at hval
      rw [ho] at hval
      simp only at hval
      simp only [Bool.and_eq_true, Bool.not_eq_true', List.all_eq_true] at hval
      obtain ⟨⟨⟨⟨hiE, hfl⟩, hself⟩, hQ⟩, hval⟩ := hval
      have hiE' : i ∉ E := fun e => by rw [z8t.2 e] at hiE; simp at hiE
      have hQ' : ∀ q ∈ Q, ∃ p, all[q]? = some p ∧ (zbq (z8d all o) p.dst = true → zhw (z94 all.toList) q i = true) ∧ zbq (z8d all p) o.dst = false ∧ zau o.dst p.dst = false := by
       intro q hq
       have := hQ q hq
       split at this
       ·simp at this
       ·rename_i p hp
        simp only [Bool.and_eq_true, Bool.or_eq_true, Bool.not_eq_true'] at this
        refine ⟨p, hp, fun hin => ?_, this.1.2, this.2⟩
        rcases this.1.1 with h1 | h1
        ·rw [hin] at h1; simp at h1
        ·exact h1
      obtain ⟨hp1, hp2⟩ := z8u hput
      refine ih hrun hval (E := i :: E) (Q := i :: Q) ⟨h.mem, h.size, h.topo, h.closed, fun x hx => List.mem_cons_of_mem _ (h.sub x hx), ?_, ?_, ?_, ?_, ?_, ?_⟩
      ·intro x hx hxS
       rcases List.mem_cons.1 hx with rfl | hx
       ·simp
       ·exact List.mem_cons_of_mem _ (h.pend x hx hxS)
      ·intro x hx hxS
       rcases List.mem_cons.1 hx with rfl | hx
       ·refine ⟨o, s, ho, ?_, fun d hd => (hp2 d hd).2⟩
        have hag := zdd (all := all) (o := o) hput hself
        unfold zd0 at hev ⊢
        rw [z9c hag, z9w (fun t ht => hag t (by simp only [z8d, List.mem_append]; exact .inr ht))]
        exact hev
       ·obtain ⟨p, hp, h1, h2, h3⟩ := hQ' x (h.pend x hx hxS)
        refine zgn (h.pd x hx hxS) (fun o' ho' => ?_) (fun o' d ho' hd => ?_)
        ·rw [hp] at ho'; cases ho'; exact zdd hput h2
        ·rw [hp] at ho'; cases ho'
         exact hp1 d fun e => zhj h3 e hd
      ·intro t x hx hcond
       have hne : o.dst ≠ some t := hcond i (by simp) (fun e => hiE' (h.sub i e)) o ho
       rw [hp1 t hne] at hx
       exact h.rel t x hx fun y hy hyS o' ho' => hcond y (List.mem_cons_of_mem _ hy) hyS o' ho'
      ·intro p hp q hq hpq o1 o2 h1 h2 hin
       rcases List.mem_cons.1 hp with rfl | hp2 <;> rcases List.mem_cons.1 hq with rfl | hq2
       ·exact absurd rfl hpq
       ·obtain ⟨p', hp', g1, g2, g3⟩ := hQ' q hq2
        rw [ho] at h1; cases h1
        rw [hp'] at h2; cases h2
        exact z8o (Array.getElem?_eq_some_iff.1 ho).1 (g1 hin)
       ·obtain ⟨p', hp', g1, g2, g3⟩ := hQ' p hp2
        rw [hp'] at h1; cases h1
        rw [ho] at h2; cases h2
        rw [g2] at hin; simp at hin
       ·exact h.qr p hp2 q hq2 hpq o1 o2 h1 h2 hin
      ·intro q hq o' ho'
       rcases List.mem_cons.1 hq with rfl | hq
       ·rw [ho] at ho'; cases ho'; exact ⟨hfl, hself⟩
       ·exact h.qf q hq o' ho'
      ·intro x hx o' d ho' hd
       rcases List.mem_cons.1 hx with rfl | hx
       ·rw [ho] at ho'; cases ho'; exact (hp2 d hd).1
       ·exact h.dn x hx o' d ho' hd
  | an a L =>
   simp only [zav] at hval
   cases ho : all[a]? with
   | none => cases hrun <;> rename_i h1 _ _ _ <;> simp_all
   | some o =>
    rw [ho] at hval
    simp only at hval
    simp only [Bool.and_eq_true, Bool.not_eq_true', List.all_eq_true, List.mem_range, Bool.or_eq_true] at hval
    obtain ⟨⟨⟨⟨haE, hready⟩, hQL⟩, hL⟩, hval⟩ := hval
    have haE' : a ∉ E := fun e => by rw [z8t.2 e] at haE; simp at haE
    have hal := (Array.getElem?_eq_some_iff.1 ho).1
    have hL' : ∀ q ∈ L, q ∈ Q ∧ ∃ p, all[q]? = some p ∧ zbq (z8d all o) p.dst = false ∧ zau o.dst p.dst = false := by
     intro q hq
     have := hL q hq
     refine ⟨z8t.1 this.1, ?_⟩
     have := this.2
     split at this
     ·simp at this
     ·rename_i p hp
      simp only [Bool.and_eq_true, Bool.not_eq_true'] at this
      exact ⟨p, hp, this.1, this.2⟩
    obtain ⟨m1, w1, tm1, S1, rest1, hs, h1, hst⟩ := h.upto hal haE' (fun j p hp hj hja => by
     have hjl := (Array.getElem?_eq_some_iff.1 hp).1
     rcases hready j hjl with (hin | heq) | hk
     ·exact absurd (z8t.1 hin) hj
     ·exact absurd (Nat.eq_of_beq_eq_true heq) hja
     ·rw [hp] at hk
      simp only [List.any_eq_true, Bool.not_eq_true'] at hk
      obtain ⟨k, hk1, hk2⟩ := hk
      exact ⟨k, hk1, fun e => by rw [z8t.2 e] at hk2; simp at hk2⟩) cx todo fs
    have htopo := h1.topo
    cases htopo with
    | cons hn ho2 hp ht =>
    rename_i o2
    rw [ho] at ho2; cases ho2
    have hwaitL : ∀ i ∈ E, i ∉ S1 → i ∈ L := by
     intro i hi hiS
     rcases hQL i (h1.pend i hi hiS) with hb | hin
     ·exact absurd (z8a ho hp h1.closed (z8o hal hb)) hiS
     ·exact z8t.1 hin
    obtain ⟨σr, htr, hwr, her⟩ := h1.part ho (fun i hi hiS o' ho' => by
     obtain ⟨_, p, hp', g1, _⟩ := hL' i (hwaitL i hi hiS)
     rw [ho'] at hp'; cases hp'; exact g1)
    have key : ∀ (s : SV) (M2 : Mem) (σ2 : Tree SV), zam σ n o.dst s = some σ2 → z8g P all M2 σ2 L = true → DrawR P n all plan σ2 M2 σ' M' →
      (∃ m2 w2 v, z82 B m1 M w1 m2 M2 w2 ∧ conc m2 s = some v ∧ ∀ tm', (∀ ds, Act.put ⟨tm1, ds⟩ o.dst v = ⟨tm', ds⟩) → Steps P (lone (mkF cx tm1 (.inRegion all (a :: rest1) :: todo)) fs w1) (lone (mkF cx tm' (.inRegion all rest1 :: todo)) fs w2)) →
      ∃ m' w' tm', Steps P (lone (mkF cx tm (.inRegion all rest :: todo)) fs w) (lone (mkF cx tm' todo) fs w') ∧ z82 B m M w m' M' w' ∧ za6 m' σ' tm' ∧ tm'.size = n := by
     rintro s M2 σ2 hput hstill hrun2 ⟨m2, w2, v, hst2, hv, hsteps⟩
     obtain ⟨hp1, hp2⟩ := z8u hput
     obtain ⟨tm', hpt, hsz, hne, heq⟩ := zb6 (tm := tm1) o.dst v
     have hext := hst2.ext h1.mem
     have hmid : Mid P B all n m2 M2 w2 σ2 tm' (a :: S1) rest1 (a :: E) L := by
      refine ⟨hst2.rel, hsz.trans h1.size, ht, ?_, ?_, ?_, ?_, ?_, ?_, ?_, ?_⟩
      ·intro i hi k hk
       rcases List.mem_cons.1 hi with rfl | hi
       ·exact List.mem_cons_of_mem _ (z8a ho hp h1.closed hk)
       ·exact List.mem_cons_of_mem _ (h1.closed i hi k hk)
      ·intro i hi
       rcases List.mem_cons.1 hi with rfl | hi
       ·simp
       ·exact List.mem_cons_of_mem _ (h1.sub i hi)
      ·intro i hi hiS
       rcases List.mem_cons.1 hi with rfl | hi
       ·exact absurd (by simp) hiS
       ·exact hwaitL i hi fun e => hiS (List.mem_cons_of_mem _ e)
      ·intro i hi hiS
       rcases List.mem_cons.1 hi with rfl | hi
       ·exact absurd (by simp) hiS
       ·exact z9l hstill i (hwaitL i hi fun e => hiS (List.mem_cons_of_mem _ e))
      ·intro t x hx hcond
       by_cases hd : o.dst = some t
       ·rw [(hp2 t hd).2] at hx
        cases hx
        exact ⟨v, heq t hd (by rw [h1.size]; exact (hp2 t hd).1), hv⟩
       ·rw [hp1 t hd] at hx
        obtain ⟨u, g1, g2⟩ := h1.rel t x hx fun i hi hiS o' ho' => hcond i (List.mem_cons_of_mem _ hi) (fun e => (List.mem_cons.1 e).elim (fun e => haE' (e ▸ hi)) hiS) o' ho'
        exact ⟨u, by rw [hne t hd]; exact g1, z8c hext _ _ g2⟩
      ·intro p hp' q hq hpq o1 o2 g1 g2 hin
       exact h1.qr p (hL' p hp').1 q (hL' q hq).1 hpq o1 o2 g1 g2 hin
      ·intro q hq o' ho'
       exact h1.qf q (hL' q hq).1 o' ho'
      ·intro x hx o' d ho' hd
       rcases List.mem_cons.1 hx with rfl | hx
       ·rw [ho] at ho'; cases ho'; exact (hp2 d hd).1
       ·exact h1.dn x hx o' d ho' hd
     obtain ⟨m3, w3, tm3, hs3, hst3, ht3, hn3⟩ := ih hrun2 hval hmid
     exact ⟨m3, w3, tm3, hs.trans ((hsteps tm' hpt).trans hs3), (hst.trans hst2).trans hst3, ht3, hn3⟩
    cases hrun with
    | no ho' hw hput hstill hrun =>
     rw [ho] at ho'
     cases ho'
     have hw' := z95 (hwr ▸ hw) htr
     refine key _ _ _ hput hstill hrun ⟨m1, w1, undef, .refl h1.mem, by simp [conc, concs, undef], fun tm' hpt => .one ?_⟩
     have hst' := stepR_op_skip (P := P) (b := mkF cx tm1 []) (a := ⟨tm1, cx.ds⟩) (k := todo) (cs := fs) (w := w1) (ops := all) (i := a) (rest := rest1) (by simp [ho, hw'])
     rw [ho, Option.bind_some, hpt] at hst'
     exact hst'
    | val ho' hw hex hput hstill hrun =>
     rw [ho] at ho'
     cases ho'
     have hw' := z95 (hwr ▸ hw) htr
     have hd := zaf (P := P) h1.mem htr o
     rw [← her, hex] at hd
     obtain ⟨x, m2, w2, hxr, hx, hst2⟩ := hd
     obtain ⟨v, hv, hstep⟩ := zio (P := P) (cx := cx) (rest := rest1) (todo := todo) (fs := fs) ho hw' hxr hx (za7 (P := P) (M := M) (σ := σ) (by rw [hex]; simp))
     exact key _ _ _ hput hstill hrun ⟨m2, w2, v, hst2, hv, fun tm' hpt => .one (hstep tm' hpt)⟩
    | enter ho' hw hex hc hput hstill hrun =>
     rw [ho] at ho'
     cases ho'
     rename_i f ss M2 s M3 σ1
     have hw' := z95 (hwr ▸ hw) htr
     have hd := zaf (P := P) h1.mem htr o
     rw [← her, hex] at hd
     obtain ⟨vs, m2, w2, hxr, has, hst2⟩ := hd
     obtain ⟨m3, w3, v, hst3, hv, hsteps⟩ := hc hmix B m2 w2 vs hst2.rel has (mkF cx tm1 (.inRegion all (a :: rest1) :: todo)) fs
     refine key _ _ _ hput hstill hrun ⟨m3, w3, v, hst2.trans hst3, hv, fun tm' hpt => ?_⟩
     have hg := stepGR_op (P := P) (b := mkF cx tm1 []) (a := ⟨tm1, cx.ds⟩) (k := todo) (cs := fs) (w := w1) (ops := all) (i := a) (rest := rest1) ho hw'
     rw [Oper.semAt_eq _ _ _ (za7 (P := P) (M := M) (σ := σ) (by rw [hex]; simp)), z96] at hg
     have henter : step P (lone (mkF cx tm1 (.inRegion all (a :: rest1) :: todo)) fs w1) = .next (lone (Frame.enter P f vs .normal) (mkF cx tm1 (.inRegion all (a :: rest1) :: todo) :: fs) w2) := by
      refine step_lone_go ?_
      exact (congrArg GStep.bare hg).trans (by simp [stepG.apply, hxr, Frame.atR, mkF])
     have hfin : (mkF cx tm1 (.inRegion all (a :: rest1) :: todo)).finish v = mkF cx tm' (.inRegion all rest1 :: todo) := by
      have := Frame.finish_atR (mkF cx tm1 []) ⟨tm1, cx.ds⟩ all a rest1 todo v
      rw [ho, Option.bind_some, hpt] at this
      exact this
     rw [hfin] at hsteps
     exact .head henter hsteps
section
variable {fx : Fx} {n : Nat} {Q : SV → Mem → Prop} {e : Env} {k : List SItem} {M : Mem} {all : Array Oper}
def DrawG (P : Program) (fx : Fx) (n : Nat) (Q : SV → Mem → Prop) (all : Array Oper) (k : List SItem) (pl : List PE) (e : Env) (M : Mem) : Prop :=
 WF M → ∃ e' M1, DrawR P n all pl (treeOf e) M (treeOf e') M1 ∧ Aft M M1 ∧ Run P fx n Q e' k M1
theorem Run.drawG {i : Nat} {ops : Array Oper} {pl : List PE} (hp : planOf P ops = some pl) (h : DrawG P fx n Q ops k pl e M) : Run P fx n Q e (.code (.region i ops true) :: k) M := by
 intro hw
 obtain ⟨e', M1, hdr, ha, hrun⟩ := h hw
 obtain ⟨s, M', hq, ha2, hto⟩ := hrun ha.wf
 refine ⟨s, M', hq, ha.trans ha2, ?_⟩
 intro hmix B m w fr frs cs0 hr hf hc
 obtain ⟨cc, tm, todo, rfl, hcx, ht, hn, hk⟩ := hf
 cases hk with
 | cons hi hk =>
 rename_i it todo
 cases it <;> simp only [zak] at hi
 subst hi
 obtain ⟨hfw, hval⟩ := zjs hp
 have hs0 := stepR_region_draw (P := P) (b := mkF cc tm []) (a := ⟨tm, cc.ds⟩) (k := todo) (cs := frs ++ cs0) (w := w) (ops := ops) (id := i)
 rw [hmix] at hs0
 have hr1 : MRel B m M { w with drawn := w.drawn + 1 } := hr.drew rfl
 have hmid : Mid P B ops n m M { w with drawn := w.drawn + 1 } (treeOf e) tm [] (Region.schedule true ops (w.tape w.drawn (.order cc.fn i))) [] [] :=
  ⟨hr1, hn, z92 hfw _, by simp, by simp, by simp, by simp, fun t s hts _ => ht t s hts, by simp, by simp, by simp⟩
 obtain ⟨m', w', tm', hs, hst, ht', hn'⟩ := zmt (P := P) hmix cc todo (frs ++ cs0) pl hdr hval hmid
 have hst' : z82 B m M w m' M1 w' := ⟨hst.rel, hst.same, hst.keep, hst.next, ⟨hst.below.os, hst.below.tape, hst.below.output, hst.below.size, hst.below.block⟩, hst.frame, hst.born, hst.under, hst.floor, hst.fixes, hst.news⟩
 have hext := hst'.ext hr
 obtain ⟨fr2, w2, m2, x, g1, g2, g3, g4, g5⟩ := hto hmix B m' w' (mkF cc tm' todo) frs cs0 hst'.rel ⟨cc, tm', todo, rfl, hcx.ext hext, ht', hn', z8p.mono (fun _ _ => zak.ext hext) hk⟩ (z8w hext hc)
 exact ⟨fr2, w2, m2, x, (Steps.head hs0 hs).trans g1, hst'.trans g2, g3, g4, g5⟩
theorem DrawG.nil (h : Run P fx n Q e k M) : DrawG P fx n Q all k [] e M := fun hw => ⟨e, M, .nil, .refl hw, h⟩
theorem DrawG.sync {r : List PE} (h : DrawG P fx n Q all k r e M) : DrawG P fx n Q all k (.sync :: r) e M := fun hw => by
 obtain ⟨e', M', h1, h2⟩ := h hw
 exact ⟨e', M', .sync h1, h2⟩
section
variable {i : Nat} {op : Op} {ty : TypeId} {pos : String} {af : Array Edge} {g : Option (Nat × Bool)} {d : Option Tmp} {s : SV} {L : List Nat} {r : List PE}
theorem ev_ex {M' : Mem} (hw : z8e all (treeOf e) ⟨d, op, ty, pos, af, g⟩ = some true) (hx : execO P M (treeOf e) op = .val s M') : zd0 P all M (treeOf e) ⟨d, op, ty, pos, af, g⟩ = some s := by
 unfold zd0
 have hx' : exec P M (treeOf e) ⟨d, op, ty, pos, af, g⟩ = .val s M' := hx
 simp only [hw, hx']
theorem ev_no {o : Oper} (hw : z8e all (treeOf e) o = some false) : zd0 P all M (treeOf e) o = some (.tuple []) := by
 unfold zd0
 simp only [hw]
theorem st_nil : z8g P all M (treeOf e) [] = true := rfl
theorem st_cons {q : Nat} {l : List Nat} {o : Oper} {d : Tmp} {s : SV} (ho : all[q]? = some o) (hv : zd0 P all M (treeOf e) o = some s) (hd : o.dst = some d) (hl : lk d e = some s) (hb : zh4 s = true) (h : z8g P all M (treeOf e) l = true) : z8g P all M (treeOf e) (q :: l) = true := by
 have : zpl P all M (treeOf e) q = true := by
  unfold zpl
  simp only [ho, hv, hd, z88, hl]
  exact ze3 hb
 simp only [z8g, this]
 exact h
theorem DrawG.fl {o : Oper} (ho : all[i]? = some o) (hv : zd0 P all M (treeOf e) o = some s) (hd : okD o.dst n = true)
  (h : DrawG P fx n Q all k r (putE o.dst s e) M) : DrawG P fx n Q all k (.fl i :: r) e M := fun hw => by
 obtain ⟨e', M', h1, h2⟩ := h hw
 exact ⟨e', M', .fl ho hv (z89 hd) h1, h2⟩
theorem DrawG.val (ho : all[i]? = some ⟨d, op, ty, pos, af, g⟩) (hw : z8e all (treeOf e) ⟨d, op, ty, pos, af, g⟩ = some true) (hx : execO P M (treeOf e) op = .val s M) (hd : okD d n = true)
  (hs : z8g P all M (treeOf (putE d s e)) L = true) (h : DrawG P fx n Q all k r (putE d s e) M) : DrawG P fx n Q all k (.an i L :: r) e M := fun hwf => by
 obtain ⟨e', M', h1, h2⟩ := h hwf
 exact ⟨e', M', .val ho hw hx (z89 hd) hs h1, h2⟩
theorem DrawG.no (ho : all[i]? = some ⟨d, op, ty, pos, af, g⟩) (hw : z8e all (treeOf e) ⟨d, op, ty, pos, af, g⟩ = some false) (hd : okD d n = true)
  (hs : z8g P all M (treeOf (putE d (.tuple []) e)) L = true) (h : DrawG P fx n Q all k r (putE d (.tuple []) e) M) : DrawG P fx n Q all k (.an i L :: r) e M := fun hwf => by
 obtain ⟨e', M', h1, h2⟩ := h hwf
 exact ⟨e', M', .no ho hw (z89 hd) hs h1, h2⟩
theorem DrawG.opX {R : SV → Mem → Prop} (ho : all[i]? = some ⟨d, op, ty, pos, af, g⟩) (hw : z8e all (treeOf e) ⟨d, op, ty, pos, af, g⟩ = some true) (hd : okD d n = true) (hx : ExG P M e op R)
  (h : ∀ v M', R v M' → z8g P all M' (treeOf (putE d v e)) L = true ∧ DrawG P fx n Q all k r (putE d v e) M') : DrawG P fx n Q all k (.an i L :: r) e M := fun hwf => by
 obtain ⟨v, M', h1, h2, h3⟩ := hx hwf
 obtain ⟨h4, h5⟩ := h v M' h3
 obtain ⟨e', M2, h6, h7, h8⟩ := h5 h2.wf
 exact ⟨e', M2, .val ho hw h1 (z89 hd) h4 h6, h2.trans h7, h8⟩
theorem DrawG.call {R : SV → Mem → Prop} {f : FuncId} {xs : List SV} (ho : all[i]? = some ⟨d, op, ty, pos, af, g⟩) (hw : z8e all (treeOf e) ⟨d, op, ty, pos, af, g⟩ = some true) (hx : execO P M (treeOf e) op = .enter f xs M) (hd : okD d n = true) (hc : CallsM P f xs M R)
  (h : ∀ v M', R v M' → z8g P all M' (treeOf (putE d v e)) L = true ∧ DrawG P fx n Q all k r (putE d v e) M') : DrawG P fx n Q all k (.an i L :: r) e M := fun hwf => by
 obtain ⟨v, M', h1, h2, h3⟩ := hc hwf
 obtain ⟨h4, h5⟩ := h v M' h3
 obtain ⟨e', M2, h6, h7, h8⟩ := h5 h2.wf
 exact ⟨e', M2, .enter ho hw hx h1 (z89 hd) h4 h6, h2.trans h7, h8⟩
end
end
end Go.Ev
namespace Go.Ev
open Go.RowKit
variable {P : Program}
def zbi (P : Program) (all : Array Oper) (M : Mem) (σ : Tree SV) (o : Oper) (s : SV) (M' : Mem) : Prop :=
 (z8e all σ o = some false ∧ s = .tuple [] ∧ M' = M) ∨ (z8e all σ o = some true ∧ (exec P M σ o = .val s M' ∨ ∃ f l M2, exec P M σ o = .enter f l M2 ∧ zhu P f l M2 s M'))
inductive PureR (P : Program) (n : Nat) (all : Array Oper) : List Oper → Tree SV → Mem → Tree SV → Mem → Prop
 | nil {σ M} : PureR P n all [] σ M σ M
 | cons {o r σ M s M1 σ1 σ' M'} : zbi P all (lift M) σ o s M1 → zam σ n o.dst s = some σ1 → PureR P n all r σ1 M1 σ' M' → PureR P n all (o :: r) σ M σ' M'
inductive SeqR (P : Program) (n : Nat) (all : Array Oper) : List Oper → Tree SV → Mem → Tree SV → Mem → Prop
 | nil {σ M} : SeqR P n all [] σ M σ M
 | cons {o r σ M s M1 σ1 σ' M'} : zbi P all M σ o s M1 → zam σ n o.dst s = some σ1 → SeqR P n all r σ1 M1 σ' M' → SeqR P n all (o :: r) σ M σ' M'
structure TraceR (P : Program) (n : Nat) (all : Array Oper) (N i0 : Nat) (Ms : Nat → Mem) (σs : Nat → Tree SV) (ss : Nat → SV) : Prop where
 st : ∀ i o, i0 ≤ i → i < N → all[i]? = some o → zbi P all (lift (Ms i)) (σs i) o (ss i) (Ms (i + 1)) ∧ zam (σs i) n o.dst (ss i) = some (σs (i + 1))
theorem zg9 {n N : Nat} {all : Array Oper} {σ' : Tree SV} {M' : Mem} (hN : N ≤ all.size) : ∀ (r : List Oper) (i : Nat) (σ : Tree SV) (M : Mem), i ≤ N → (all.toList.take N).drop i = r → PureR P n all r σ M σ' M' →
  ∃ Ms σs ss, TraceR P n all N i Ms σs ss ∧ Ms i = M ∧ σs i = σ ∧ Ms N = M' ∧ σs N = σ'
 | [], i, σ, M, hi, hd, h => by
  obtain ⟨rfl, rfl⟩ : σ = σ' ∧ M = M' := by cases h; exact ⟨rfl, rfl⟩
  have hl := congrArg List.length hd
  simp at hl
  refine ⟨fun _ => M, fun _ => σ, fun _ => .tuple [], ⟨fun k o hk hkN ho => ?_⟩, rfl, rfl, rfl, rfl⟩
  omega
 | o :: r, i, σ, M, hi, hd, h => by
  cases h with
  | cons he hput hr =>
    rename_i s M1 σ1
    have hlt : i < N := by
     have := congrArg List.length hd
     simp at this
     omega
    have ho : all[i]? = some o := by
     have : ((all.toList.take N).drop i)[0]? = some o := by rw [hd]; rfl
     rw [List.getElem?_drop, List.getElem?_take_of_lt (by omega)] at this
     simpa using this
    have hd' : (all.toList.take N).drop (i + 1) = r := by
     have := congrArg List.tail hd
     simpa using this
    obtain ⟨Ms, σs, ss, ht, h1, h2, h3, h4⟩ := zg9 hN r (i + 1) σ1 M1 (by omega) hd' hr
    refine ⟨fun k => if k = i then M else Ms k, fun k => if k = i then σ else σs k, fun k => if k = i then s else ss k, ⟨fun k o' hk hkN ho' => ?_⟩, by simp, by simp, ?_, ?_⟩
    ·by_cases e : k = i
     ·subst e
      rw [ho] at ho'; cases ho'
      simp only [if_true, show ¬ (k + 1 = k) by omega, if_false, h1, h2]
      exact ⟨he, hput⟩
     ·simp only [e, if_false, show ¬ (k + 1 = i) by omega]
      exact ht.st k o' (by omega) hkN ho'
    ·simp only [show ¬ (N = i) by omega, if_false]; exact h3
    ·simp only [show ¬ (N = i) by omega, if_false]; exact h4
section
variable {B : Nat} {m : Map} {M : Mem} {w : World} {σ : Tree SV} {tm : Array Value}
theorem zdj (hmix : P.follows .mixedOrders = true) {all : Array Oper} {o : Oper} {s : SV} {M' : Mem} (hr : MRel B m M w) (ht : za6 m σ tm) (he : zbi P all M σ o s M') (cx : Cx) {i : Nat} (ho : all[i]? = some o) (rest : List Nat) (todo : List Item) (fs : List Frame) :
  ∃ m' w' v, z82 B m M w m' M' w' ∧ conc m' s = some v ∧ ∀ (tm' : Array Value), (∀ ds, Act.put ⟨tm, ds⟩ o.dst v = ⟨tm', ds⟩) →
   Steps P (lone (mkF cx tm (.inRegion all (i :: rest) :: todo)) fs w) (lone (mkF cx tm' (.inRegion all rest :: todo)) fs w') := by
 rcases he with ⟨hw, rfl, rfl⟩ | ⟨hw, he⟩
 ·have hw' := z95 hw ht
  refine ⟨m, w, undef, .refl hr, by simp [conc, concs, undef], fun tm' hpt => .one ?_⟩
  have hst' := stepR_op_skip (P := P) (b := mkF cx tm []) (a := ⟨tm, cx.ds⟩) (k := todo) (cs := fs) (w := w) (ops := all) (i := i) (rest := rest) (by simp [ho, hw'])
  rw [ho, Option.bind_some, hpt] at hst'
  exact hst'
 ·have hw' := z95 hw ht
  have hd := zaf (P := P) hr ht o
  rcases he with hex | ⟨f, l, M2, hex, hcall⟩
  ·rw [hex] at hd
   obtain ⟨x, m2, w2, hxr, hx, hst2⟩ := hd
   have hv : ∃ v, (x = .value v ∨ x = .skip ∧ v = undef) ∧ conc m2 s = some v := by
    cases x with
    | value v => exact ⟨v, .inl rfl, hx⟩
    | skip => exact ⟨undef, .inr ⟨rfl, rfl⟩, by have : s = .tuple [] := hx; subst this; simp [conc, concs, undef]⟩
    | _ => exact hx.elim
   obtain ⟨v, hxv, hv⟩ := hv
   refine ⟨m2, w2, v, hst2, hv, fun tm' hpt => .one ?_⟩
   have hg := stepGR_op (P := P) (b := mkF cx tm []) (a := ⟨tm, cx.ds⟩) (k := todo) (cs := fs) (w := w) (ops := all) (i := i) (rest := rest) ho hw'
   rw [Oper.semAt_eq _ _ _ (za7 (P := P) (M := M) (σ := σ) (by rw [hex]; simp)), z96] at hg
   have hfin : (mkF cx tm (.inRegion all (i :: rest) :: todo)).finish v = mkF cx tm' (.inRegion all rest :: todo) := by
    have := Frame.finish_atR (mkF cx tm []) ⟨tm, cx.ds⟩ all i rest todo v
    rw [ho, Option.bind_some, hpt] at this
    exact this
   refine step_lone_go ?_
   rw [← hfin]
   rcases hxv with rfl | ⟨rfl, rfl⟩
   ·exact (congrArg GStep.bare hg).trans (by simp [stepG.apply, hxr]; rfl)
   ·exact (congrArg GStep.bare hg).trans (by simp [stepG.apply, hxr]; rfl)
  ·rw [hex] at hd
   obtain ⟨vs, m2, w2, hxr, has, hst2⟩ := hd
   obtain ⟨m3, w3, v, hst3, hv, hsteps⟩ := hcall hmix B m2 w2 vs hst2.rel has (mkF cx tm (.inRegion all (i :: rest) :: todo)) fs
   refine ⟨m3, w3, v, hst2.trans hst3, hv, fun tm' hpt => ?_⟩
   have hg := stepGR_op (P := P) (b := mkF cx tm []) (a := ⟨tm, cx.ds⟩) (k := todo) (cs := fs) (w := w) (ops := all) (i := i) (rest := rest) ho hw'
   rw [Oper.semAt_eq _ _ _ (za7 (P := P) (M := M) (σ := σ) (by rw [hex]; simp)), z96] at hg
   have henter : step P (lone (mkF cx tm (.inRegion all (i :: rest) :: todo)) fs w) = .next (lone (Frame.enter P f vs .normal) (mkF cx tm (.inRegion all (i :: rest) :: todo) :: fs) w2) := by
    refine step_lone_go ?_
    exact (congrArg GStep.bare hg).trans (by simp [stepG.apply, hxr, Frame.atR, mkF])
   have hfin : (mkF cx tm (.inRegion all (i :: rest) :: todo)).finish v = mkF cx tm' (.inRegion all rest :: todo) := by
    have := Frame.finish_atR (mkF cx tm []) ⟨tm, cx.ds⟩ all i rest todo v
    rw [ho, Option.bind_some, hpt] at this
    exact this
   rw [hfin] at hsteps
   exact .head henter hsteps
end
section
variable {B : Nat} {m : Map} {M : Mem} {w : World} {σ : Tree SV} {tm : Array Value}
variable {n N : Nat} {all : Array Oper} {Ms : Nat → Mem} {σs : Nat → Tree SV} {ss : Nat → SV}
theorem zu8 (hmix : P.follows .mixedOrders = true) (hNs : N ≤ all.size) (ht : TraceR P n all N 0 Ms σs ss) (hr : MRel B m (Ms 0) w) (hT : za6 m (σs 0) tm) (hn : tm.size = n) :
  ∀ i, i ≤ N → (∃ m' w' tm', MRel B m' (Ms i) w' ∧ za6 m' (σs i) tm' ∧ tm'.size = n) ∧
   ∀ k, k < i → (Ms k).next.num ≤ (Ms (k + 1)).next.num ∧ (∀ b, b.num < (Ms k).next.num → (Ms (k + 1)).t.get b = (Ms k).t.get b) ∧ (∀ b c, (Ms (k + 1)).t.get b = some (.fix c) → (Ms k).t.get b = some (.fix c))
 | 0, _ => ⟨⟨m, w, tm, hr, hT, hn⟩, fun k hk => absurd hk (by omega)⟩
 | i + 1, hi => by
  obtain ⟨⟨m1, w1, tm1, hr1, hT1, hn1⟩, hk⟩ := zu8 hmix hNs ht hr hT hn i (by omega)
  have ho : all[i]? = some all[i] := Array.getElem?_eq_getElem (by omega)
  obtain ⟨he, hput⟩ := ht.st i _ (Nat.zero_le _) (by omega) ho
  obtain ⟨m2, w2, v, hst, hv, -⟩ := zdj (P := P) hmix hr1.lift hT1 he ⟨0, [], none⟩ ho [] [] []
  obtain ⟨tm2, _, hT2, hn2⟩ := zb1 hput (hT1.ext (hst.ext hr1.lift)) hn1 hv
  refine ⟨⟨m2, w2, tm2, hst.rel, hT2, hn2⟩, fun k hlt => ?_⟩
  by_cases e : k = i
  ·subst e
   exact ⟨hst.next, fun b hb => hst.under b hb, fun b c h => hst.fixes b c h⟩
  ·exact hk k (by omega)
theorem zud (hmix : P.follows .mixedOrders = true) (hNs : N ≤ all.size) (ht : TraceR P n all N 0 Ms σs ss) (hr : MRel B m (Ms 0) w) (hT : za6 m (σs 0) tm) (hn : tm.size = n) : Sym N Ms := by
 have h := zu8 hmix hNs ht hr hT hn
 have hs := (h N (Nat.le_refl _)).2
 have hnext : ∀ i d, i + d ≤ N → (Ms i).next.num ≤ (Ms (i + d)).next.num := by
  intro i d
  induction d with
  | zero => intro _; exact Nat.le_refl _
  | succ d ih =>
   intro hd
   exact Nat.le_trans (ih (by omega)) (hs (i + d) (by omega)).1
 have hold : ∀ i d, i + d ≤ N → ∀ b, b.num < (Ms i).next.num → (Ms (i + d)).t.get b = (Ms i).t.get b := by
  intro i d
  induction d with
  | zero => intro _ b _; rfl
  | succ d ih =>
   intro hd b hb
   have := hnext i d (by omega)
   rw [← ih (by omega) b hb]
   exact (hs (i + d) (by omega)).2.1 b (by omega)
 refine ⟨fun i j hij hj => ?_, fun i j hij hj => ?_, fun i hi b hb => ?_, fun i hi => ?_, fun i hi => ?_⟩
 ·have := hnext i (j - i) (by omega)
  rwa [show i + (j - i) = j by omega] at this
 ·have := hold i (j - i) (by omega)
  rwa [show i + (j - i) = j by omega] at this
 ·obtain ⟨⟨m1, w1, tm1, hr1, _, _⟩, _⟩ := h i hi
  exact (hr1.fresh b hb).2
 ·obtain ⟨⟨m1, w1, tm1, hr1, _, _⟩, _⟩ := h i hi
  exact hr1.flo
 ·induction i with
  | zero => intro b c h; exact h
  | succ i ih => intro b c h; exact ih (by omega) b c ((hs i (by omega)).2.2 b c h)
theorem zei (hNs : N ≤ all.size) (ht : TraceR P n all N 0 Ms σs ss) : ∀ j, j ≤ N → ∀ t, (∀ i o, i < j → all[i]? = some o → o.dst ≠ some t) → (σs j).get (Pos.ofNat t) = (σs 0).get (Pos.ofNat t)
 | 0, _, _, _ => rfl
 | j + 1, hj, t, h => by
  have ho : all[j]? = some all[j] := Array.getElem?_eq_getElem (by omega)
  obtain ⟨_, hput⟩ := ht.st j _ (Nat.zero_le _) (by omega) ho
  rw [(z8u hput).1 t (h j _ (by omega) ho), zei hNs ht j (by omega) t fun i o hi => h i o (by omega)]
theorem zf7 (hok : PureOK all) (hNs : N ≤ all.size) (ht : TraceR P n all N 0 Ms σs ss) {i : Nat} {o : Oper} {t : Nat} (ho : all[i]? = some o) (hd : o.dst = some t) : ∀ j, i < j → j ≤ N → (σs j).get (Pos.ofNat t) = some (ss i) ∧ t < n
 | 0, h, _ => absurd h (by omega)
 | j + 1, hij, hj => by
  have hoj : all[j]? = some all[j] := Array.getElem?_eq_getElem (by omega)
  obtain ⟨_, hput⟩ := ht.st j _ (Nat.zero_le _) (by omega) hoj
  by_cases e : i = j
  ·subst e
   rw [hoj] at ho; cases ho
   have := (z8u hput).2 t hd
   exact ⟨this.2, this.1⟩
  ·obtain ⟨h1, h2⟩ := zf7 hok hNs ht ho hd j (by omega) (by omega)
   refine ⟨?_, h2⟩
   rw [(z8u hput).1 t fun h => e (hok.one _ _ _ _ _ ho hoj hd h)]
   exact h1
end
section
variable {B : Nat} {n N : Nat} {all : Array Oper} {Ms : Nat → Mem} {σs : Nat → Tree SV} {ss : Nat → SV} {m0 : Map} {w0 : World}
theorem Inv.stepR (hmix : P.follows .mixedOrders = true) (hok : PureOK all) (hNs : N ≤ all.size) (ht : TraceR P n all N 0 Ms σs ss) (hs : Sym N Ms) {m : Map} {w : World} {tm : Array Value} {S rest : List Nat} {j : Nat}
  (h : Inv B all N n Ms σs ss m0 w0 m w tm S) (topo : Topo all S (j :: rest)) (hj : j < N) (cx : Cx) (todo : List Item) (fs : List Frame) :
  ∃ m' w' tm', Steps P (lone (mkF cx tm (.inRegion all (j :: rest) :: todo)) fs w) (lone (mkF cx tm' (.inRegion all rest :: todo)) fs w') ∧ Inv B all N n Ms σs ss m0 w0 m' w' tm' (j :: S) := by
 cases topo with
 | cons hn ho hp htopo =>
 rename_i o
 obtain ⟨he, hput⟩ := ht.st j o (Nat.zero_le _) hj ho
 obtain ⟨_, hput2⟩ := z8u hput
 let ds := ((List.range N).filter (fun i => decide (i ∉ S ∨ j ≤ i))).filterMap fun i => (all[i]?).bind (·.dst)
 have hds : ∀ t, t ∈ ds ↔ ∃ i, i < N ∧ (i ∉ S ∨ j ≤ i) ∧ ∃ o', all[i]? = some o' ∧ o'.dst = some t := by
  intro t
  simp only [ds, List.mem_filterMap, List.mem_filter, List.mem_range, decide_eq_true_eq, Option.bind_eq_some_iff]
  constructor
  ·rintro ⟨i, ⟨h1, h2⟩, o', h3, h4⟩; exact ⟨i, h1, h2, o', h3, h4⟩
  ·rintro ⟨i, h1, h2, o', h3, h4⟩; exact ⟨i, ⟨h1, h2⟩, o', h3, h4⟩
 have hag : zdb (z8d all o) (σs j) (erase ds (σs j)) := by
  intro t htr
  rw [z99]
  split
  ·rename_i hin
   obtain ⟨i, h1, h2, o', h3, h4⟩ := (hds t).1 hin
   obtain ⟨g1, g2⟩ := hok.rd i j o o' t ho h3 h4 htr
   have := z8a ho hp h.closed g1
   rcases h2 with h2 | h2
   ·exact absurd this h2
   ·omega
  ·rfl
 have htr : za6 (cut m (Ms j).next.num) (erase ds (σs j)) tm := by
  intro t s hts
  rw [z99] at hts
  split at hts
  ·simp at hts
  ·rename_i hin
   by_cases hex : ∃ (i : Nat) (o' : Oper), i < N ∧ all[i]? = some o' ∧ o'.dst = some t
   ·obtain ⟨i, o', hi, h3, h4⟩ := hex
    have hiS : i ∈ S ∧ i < j := by
     constructor
     ·apply Classical.byContradiction
      intro e
      exact hin ((hds t).2 ⟨i, hi, .inl e, o', h3, h4⟩)
     ·apply Classical.byContradiction
      intro e
      exact hin ((hds t).2 ⟨i, hi, .inr (by omega), o', h3, h4⟩)
    have := (zf7 hok hNs ht h3 h4 j hiS.2 (by omega)).1
    rw [this] at hts
    cases hts
    obtain ⟨v, g1, g2⟩ := h.fin i hiS.1 o' t h3 h4
    exact ⟨v, g1, z8c (zb4 (hs.next (i + 1) j (by omega) (by omega))) _ _ g2⟩
   ·have hno : ∀ (i : Nat) (o' : Oper), i < N → all[i]? = some o' → o'.dst ≠ some t := fun i o' hi h3 h4 => hex ⟨i, o', hi, h3, h4⟩
    rw [zei hNs ht j (by omega) t fun i o' hi h3 => hno i o' (by omega) h3] at hts
    obtain ⟨v, g1, g2⟩ := h.old t s hts hno
    exact ⟨v, g1, z8c (zb4 (hs.next 0 j (by omega) (by omega))) _ _ g2⟩
 have he' : zbi P all (lift (Ms j)) (erase ds (σs j)) o (ss j) (Ms (j + 1)) := by
  have e1 : z8e all (erase ds (σs j)) o = z8e all (σs j) o := (z9c hag).symm
  have e2 : exec P (lift (Ms j)) (erase ds (σs j)) o = exec P (lift (Ms j)) (σs j) o := (z9w (fun t htr => hag t (by simp only [z8d, List.mem_append]; exact .inr htr))).symm
  unfold zbi at he ⊢
  rw [e1, e2]
  exact he
 obtain ⟨m1, w1, v, hst, hv, hsteps⟩ := zdj (P := P) hmix (h.rel j (by omega)).lift htr he' cx ho rest todo fs
 obtain ⟨tm', hpt, hsz, hne, heq⟩ := zb6 (tm := tm) o.dst v
 let m2 : Map := fun b => if (Ms j).next.num ≤ b.num ∧ b.num < (Ms (j + 1)).next.num then m1 b else m b
 have hin : ∀ b, (Ms j).next.num ≤ b.num → b.num < (Ms (j + 1)).next.num → m2 b = m1 b := fun b h1 h2 => by simp [m2, h1, h2]
 have hout : ∀ b, ¬ ((Ms j).next.num ≤ b.num ∧ b.num < (Ms (j + 1)).next.num) → m2 b = m b := fun b h1 => by simp only [m2]; rw [if_neg h1]
 have F1 : ∀ b, b.num < (Ms j).next.num → m1 b = m b := fun b hb => by rw [hst.same b hb, z98 hb]
 have F2 : ∀ b, (Ms (j + 1)).next.num ≤ b.num → m1 b = none := fun b hb => (hst.rel.fresh b hb).1
 have hjj := hs.next j (j + 1) (by omega) (by omega)
 have Flo : ∀ b, b.num < (Ms (j + 1)).next.num → m2 b = m1 b := fun b hb => by
  by_cases hb' : (Ms j).next.num ≤ b.num
  ·exact hin b hb' hb
  ·rw [hout b (by omega), F1 b (by omega)]
 have E1 : ∀ i, j + 1 ≤ i → i ≤ N → Ext m1 (cut m2 (Ms i).next.num) := by
  intro i hi hi' b p hb
  have hlt : b.num < (Ms (j + 1)).next.num := by
   apply Classical.byContradiction
   intro e
   rw [F2 b (by omega)] at hb
   simp at hb
  have := hs.next (j + 1) i hi hi'
  rw [z98 (by omega), Flo b hlt]
  exact hb
 have E2 : ∀ i, i ≤ N → Ext (cut m (Ms i).next.num) (cut m2 (Ms i).next.num) := by
  intro i hi b p hb
  obtain ⟨hlt, hmb⟩ := z8l hb
  rw [z98 hlt]
  by_cases hr : (Ms j).next.num ≤ b.num ∧ b.num < (Ms (j + 1)).next.num
  ·rw [h.later j hj hn b hr.1 hr.2] at hmb
   simp at hmb
  ·rw [hout b hr]; exact hmb
 have C1 : ∀ i, i ≤ j → cut m2 (Ms i).next.num = cut m (Ms i).next.num := by
  intro i hi
  funext b
  unfold cut
  split
  ·rename_i hb
   have := hs.next i j hi (by omega)
   exact hout b (by omega)
  ·rfl
 have hsize := hst.below.size
 have hup : ∀ k, zbj (cut m (Ms j).next.num) (lift (Ms j)) k → zbj (cut m (Ms N).next.num) (Ms N) k := fun k hk => zm9 hs (by omega) (Nat.le_refl _) rfl hk
 refine ⟨m2, w1, tm', hsteps tm' hpt, ⟨?_, hsz.trans h.size, ?_, ?_, ?_, ?_, h.below.trans hst.below, ?_, ?_, ?_, ?_, ?_⟩⟩
 ·-- memory
  intro i hi
  by_cases hij : i ≤ j
  ·rw [C1 i hij]
   have hr := h.rel i hi
   have hnx := hs.next i j hij (by omega)
   refine ⟨fun b o' p hb hp' => ?_, hr.inj, hr.fresh, fun b p hp' => Nat.lt_of_lt_of_le (hr.bound b p hp') hsize, hr.low, Nat.le_trans hr.base hsize, hr.glob, hr.flo⟩
   obtain ⟨hlt, hmb⟩ := z8l hp'
   refine zaq.back (m' := m1) (fun c q hc => ?_) (hr.objs b o' p hb hp') (hst.rel.objs b o' p ?_ ?_)
   ·obtain ⟨hcl, hcm⟩ := z8l hc
    rw [F1 c (by omega)]; exact hcm
   ·rw [hs.old i (j + 1) (by omega) (by omega) b hlt]; exact hb
   ·rw [F1 b (by omega)]; exact hmb
  ·have hr := h.rel i hi
   have hji : j + 1 ≤ i := by omega
   have hnx := hs.next (j + 1) i hji hi
   have e1 := E1 i hji hi
   have e2 := E2 i hi
   have kind : ∀ b o' p, (Ms i).t.get b = some o' → cut m2 (Ms i).next.num b = some p → (b.num < (Ms (j + 1)).next.num ∧ (Ms (j + 1)).t.get b = some o' ∧ m1 b = some p) ∨ ((Ms (j + 1)).next.num ≤ b.num ∧ cut m (Ms i).next.num b = some p) := by
    intro b o' p hb hp'
    obtain ⟨hlt, hmb⟩ := z8l hp'
    by_cases hb1 : b.num < (Ms (j + 1)).next.num
    ·exact .inl ⟨hb1, by rw [← hs.old (j + 1) i hji hi b hb1]; exact hb, by rw [← Flo b hb1]; exact hmb⟩
    ·exact .inr ⟨by omega, by rw [z98 hlt, ← hout b (by omega)]; exact hmb⟩
   have mixed : ∀ b b' x x' p p', (Ms i).t.get b = some x → (Ms i).t.get b' = some x' → (x.own = true ∨ x'.own = true) → b.num < (Ms (j + 1)).next.num → (Ms (j + 1)).t.get b = some x → m1 b = some p → (Ms (j + 1)).next.num ≤ b'.num → cut m (Ms i).next.num b' = some p' → p.block ≠ p'.block := by
    intro b b' x x' p p' hx hx' how hb1 hx1 hp1 hb' hp' heq
    have hbd := hr.bound b' p' hp'
    by_cases hb2 : b.num < (Ms j).next.num
    ·have := hr.inj b b' x x' p p' hx hx' how (by rw [z98 (by omega), ← F1 b hb2]; exact hp1) hp' heq
     subst this; omega
    ·obtain ⟨c, y, q, hy, hyo, hq, hqe⟩ := hst.news b p (by show (Ms j).next.num ≤ b.num; omega) hp1 (by rw [heq]; exact hbd)
     obtain ⟨hcl, hcm⟩ := z8l hq
     have := hr.inj c b' y x' q p' (by rw [hs.old j i (by omega) hi c hcl]; exact hy) hx' (.inl hyo) (by rw [z98 (by omega)]; exact hcm) hp' (hqe.trans heq)
     subst this; omega
   refine ⟨fun b o' p hb hp' => ?_, fun b b' x x' p p' hx hx' how hp1 hp2 heq => ?_, fun b hb => ?_, fun b p hp' => ?_, fun b o' p hb hown hp' => ?_, hst.rel.base, fun b c hc => ?_, hr.flo⟩
   ·rcases kind b o' p hb hp' with ⟨_, h2, h3⟩ | ⟨h1, h2⟩
    ·exact (hst.rel.objs b o' p h2 h3).ext e1
    ·have hobj := hr.objs b o' p hb h2
     have hbd := hr.bound b p h2
     rw [hst.frame p.block hbd ?_]
     ·exact hobj.ext e2
     ·rintro ⟨c, x, q, hx, hxo, hq, hqe⟩
      obtain ⟨hcl, hcm⟩ := z8l hq
      have := hr.inj c b x o' q p (by rw [hs.old j i (by omega) hi c hcl]; exact hx) hb (.inl hxo) (by rw [z98 (by omega)]; exact hcm) h2 hqe
      subst this; omega
   ·rcases kind b x p hx hp1 with ⟨a1, a2, a3⟩ | ⟨a1, a2⟩ <;> rcases kind b' x' p' hx' hp2 with ⟨b1, b2, b3⟩ | ⟨b1, b2⟩
    ·exact hst.rel.inj b b' x x' p p' a2 b2 how a3 b3 heq
    ·exact absurd heq (mixed b b' x x' p p' hx hx' how a1 a2 a3 b1 b2)
    ·exact absurd heq.symm (mixed b' b x' x p' p hx' hx how.symm b1 b2 b3 a1 a2)
    ·exact hr.inj b b' x x' p p' hx hx' how a2 b2 heq
   ·exact ⟨by unfold cut; rw [if_neg (by omega)], hs.none i hi b hb⟩
   ·obtain ⟨hlt, hmb⟩ := z8l hp'
    by_cases hb1 : b.num < (Ms (j + 1)).next.num
    ·exact hst.rel.bound b p (by rw [← Flo b hb1]; exact hmb)
    ·exact Nat.lt_of_lt_of_le (hr.bound b p (by rw [z98 hlt, ← hout b (by omega)]; exact hmb)) hsize
   ·rcases kind b o' p hb hp' with ⟨_, h2, h3⟩ | ⟨h1, h2⟩
    ·exact hst.rel.low b o' p h2 hown h3
    ·exact hr.low b o' p hb hown h2
   ·obtain ⟨z, hz, hl⟩ := hr.glob b c hc
    exact ⟨z, e2 _ _ hz, hl⟩
 ·-- what is done
  intro i hi o' d ho' hd
  rcases List.mem_cons.1 hi with rfl | hiS
  ·rw [ho] at ho'; cases ho'
   exact ⟨v, heq d hd (by rw [h.size]; exact (hput2 d hd).1), z8c (E1 (i + 1) (by omega) (by omega)) _ _ hv⟩
  ·obtain ⟨u, g1, g2⟩ := h.fin i hiS o' d ho' hd
   have hil := h.sub i hiS
   refine ⟨u, ?_, z8c (E2 (i + 1) (by omega)) _ _ g2⟩
   rw [hne d fun e => hn (by have := hok.one i j o' o d ho' ho hd e; rw [← this]; exact hiS)]
   exact g1
 ·intro t s hts hno
  obtain ⟨u, g1, g2⟩ := h.old t s hts hno
  exact ⟨u, by rw [hne t (hno j o hj ho)]; exact g1, z8c (E2 0 (by omega)) _ _ g2⟩
 ·intro i hi hiS b h1 h2
  have hij : i ≠ j := fun e => hiS (by subst e; simp)
  have : ¬ ((Ms j).next.num ≤ b.num ∧ b.num < (Ms (j + 1)).next.num) := by
   rintro ⟨g1, g2⟩
   by_cases hlt : i < j
   ·have := hs.next (i + 1) j (by omega) (by omega); omega
   ·have := hs.next (j + 1) i (by omega) (by omega); omega
  rw [hout b this]
  exact h.later i hi (fun e => hiS (List.mem_cons_of_mem _ e)) b h1 h2
 ·intro b hb
  have := hs.next 0 j (by omega) (by omega)
  rw [hout b (by omega)]
  exact h.same b hb
 ·intro k hk hko
  rw [hst.frame k (by have := h.below.size; omega) (fun e => hko (h.born k hk (hup k e)))]
  exact h.frame k hk hko
 ·rintro k hk ⟨c, x, q, hx, hxo, hq, hqe⟩
  obtain ⟨hcl, hcm⟩ := z8l hq
  by_cases hc1 : c.num < (Ms (j + 1)).next.num
  ·refine h.born k hk (hup k (hst.born k (by have := h.below.size; omega) ⟨c, x, q, ?_, hxo, ?_, hqe⟩))
   ·rw [← hs.old (j + 1) N (by omega) (Nat.le_refl _) c hc1]; exact hx
   ·rw [← Flo c hc1]; exact hcm
  ·refine h.born k hk ⟨c, x, q, hx, hxo, ?_, hqe⟩
   rw [z98 hcl, ← hout c (by omega)]; exact hcm
 ·intro b p hb hp hlt
  by_cases hr2 : (Ms j).next.num ≤ b.num ∧ b.num < (Ms (j + 1)).next.num
  ·rw [hin b hr2.1 hr2.2] at hp
   exact h.born _ hlt (hup _ (hst.news b p hr2.1 hp (by have := h.below.size; omega)))
  ·rw [hout b hr2] at hp
   exact h.news b p hb hp hlt
 ·intro i hi k hk
  rcases List.mem_cons.1 hi with rfl | hi
  ·exact List.mem_cons_of_mem _ (z8a ho hp h.closed hk)
  ·exact List.mem_cons_of_mem _ (h.closed i hi k hk)
 ·intro i hi
  rcases List.mem_cons.1 hi with rfl | hi
  ·exact hj
  ·exact h.sub i hi
end
end Go.Ev
namespace Go.Ev
open Go.RowKit
variable {P : Program}
section
variable {fx : Fx} {n : Nat} {Q : SV → Mem → Prop} {e : Env} {k : List SItem} {M : Mem} {all : Array Oper}
theorem ztc {all : Array Oper} {o : Oper} {r : List Oper} {i : Nat} (hdrop : o :: r = all.toList.drop i) : all[i]? = some o ∧ r = all.toList.drop (i + 1) ∧ (List.range all.size).drop i = i :: (List.range all.size).drop (i + 1) := by
 have hlt : i < all.size := by
  apply Classical.byContradiction
  intro hge
  rw [List.drop_eq_nil_of_le (by simp; omega)] at hdrop
  simp at hdrop
 refine ⟨?_, ?_, ?_⟩
 ·have : (all.toList.drop i)[0]? = some o := by rw [← hdrop]; rfl
  simpa using this
 ·have := congrArg List.tail hdrop
  simpa using this
 ·rw [List.drop_eq_getElem_cons (by simpa using hlt)]
  simp
theorem Run.callX {r : List Oper} {d : Option Tmp} {op : Op} {ty : TypeId} {pos : String} {af : Array Edge} {gd : Option (Nat × Bool)} {g : FuncId} {xs : List SV} {R : SV → Mem → Prop}
  (hw : z8e all (treeOf e) ⟨d, op, ty, pos, af, gd⟩ = some true) (hx : execO P M (treeOf e) op = .enter g xs M) (hd : okD d n = true) (hc : CallsM P g xs M R)
  (next : ∀ s M', R s M' → Run P fx n Q (putE d s e) (.ops all r :: k) M') : Run P fx n Q e (.ops all (⟨d, op, ty, pos, af, gd⟩ :: r) :: k) M := by
 intro hwf
 obtain ⟨s, M1, hct, ha, hR⟩ := hc hwf
 obtain ⟨s2, M2, hq, ha2, hrun⟩ := next s M1 hR ha.wf
 refine ⟨s2, M2, hq, ha.trans ha2, ?_⟩
 intro hmix B m w fr frs cs0 hr hf hcs
 obtain ⟨cc, tm, todo, rfl, hcx, ht, hn, hk⟩ := hf
 cases hk with
 | cons hi hk =>
 rename_i it todo
 cases it <;> simp only [zak] at hi
 obtain ⟨rfl, i, hdrop, rfl⟩ := hi
 obtain ⟨ho, hr', hrange⟩ := ztc hdrop
 rw [hrange]
 have hw' := z95 hw ht
 have hg := stepGR_op (P := P) (b := mkF cc tm []) (a := ⟨tm, cc.ds⟩) (k := todo) (cs := frs ++ cs0) (w := w) (ops := all) (i := i) (rest := (List.range all.size).drop (i + 1)) ho hw'
 have hx' : exec P M (treeOf e) ⟨d, op, ty, pos, af, gd⟩ = .enter g xs M := hx
 have hdo := zaf (P := P) hr ht ⟨d, op, ty, pos, af, gd⟩
 rw [hx'] at hdo
 rw [Oper.semAt_eq _ _ _ (za7 (P := P) (M := M) (σ := treeOf e) (by rw [hx']; simp)), z96] at hg
 obtain ⟨vs, m1, w1, hrunA, has, hst⟩ := hdo
 have henter : step P (lone (mkF cc tm (.inRegion all (i :: (List.range all.size).drop (i + 1)) :: todo)) (frs ++ cs0) w) = .next (lone (Frame.enter P g vs .normal) (mkF cc tm (.inRegion all (i :: (List.range all.size).drop (i + 1)) :: todo) :: (frs ++ cs0)) w1) := by
  refine step_lone_go ?_
  exact (congrArg GStep.bare hg).trans (by simp [stepG.apply, hrunA, Frame.atR, mkF])
 obtain ⟨m2, w2, v, hst2, hv, hsteps⟩ := hct hmix B m1 w1 vs hst.rel has (mkF cc tm (.inRegion all (i :: (List.range all.size).drop (i + 1)) :: todo)) (frs ++ cs0)
 have e1 := hst.ext hr
 have e2 := hst2.ext hst.rel
 obtain ⟨tm', hp, ht', hn'⟩ := zb1 (n := n) (d := d) (s := s) (z89 (e := e) hd) ((ht.ext e1).ext e2) hn hv
 have hfin : (mkF cc tm (.inRegion all (i :: (List.range all.size).drop (i + 1)) :: todo)).finish v = mkF cc tm' (.inRegion all ((List.range all.size).drop (i + 1)) :: todo) := by
  have := Frame.finish_atR (mkF cc tm []) ⟨tm, cc.ds⟩ all i ((List.range all.size).drop (i + 1)) todo v
  rw [ho, Option.bind_some, hp] at this
  exact this
 rw [hfin] at hsteps
 obtain ⟨fr3, w3, m3, x, g1, g2, g3, g4, g5⟩ := hrun hmix B m2 w2 (mkF cc tm' (.inRegion all ((List.range all.size).drop (i + 1)) :: todo)) frs cs0 hst2.rel ⟨cc, tm', _, rfl, (hcx.ext e1).ext e2, ht', hn', .cons ⟨rfl, i + 1, hr', rfl⟩ (z8p.mono (fun _ _ => zak.ext e2) (z8p.mono (fun _ _ => zak.ext e1) hk))⟩ (z8w e2 (z8w e1 hcs))
 exact ⟨fr3, w3, m3, x, (Steps.head henter hsteps).trans g1, (hst.trans hst2).trans g2, g3, g4, g5⟩
end
abbrev fx0 (f : FuncId) : Fx := ⟨⟨f, [], none⟩, []⟩
theorem CallsM.run {f : FuncId} {F : Func} {c : Code} {xs : List SV} {M : Mem} {R : SV → Mem → Prop} (hF : P.funcs[f]? = some F) (hb : F.body = some c) (hn : Nat.ble xs.length F.ntmps = true)
  (h : Run P (fx0 f) F.ntmps R (zmp 0 [] xs) [.code c] M) : CallsM P f xs M R := by
 intro hw
 obtain ⟨s, M', hq, ha, hrun⟩ := h hw
 refine ⟨s, M', ?_, ha, hq⟩
 intro hmix B m w vs hr has cf cs
 have hfr := za2 (zcp hF hb hn) has
 obtain ⟨fr, w', m', x, g1, g2, g3, g4, _⟩ := hrun hmix B m w _ [] (cf :: cs) hr hfr .nil
 exact ⟨m', w', x, g2, g3, Steps.trans g1 (.one (step_leave_returned g4))⟩
theorem CallsM.ofFrozen {f : FuncId} {F : Func} {c : Code} {xs : List SV} {M : Mem} {Q R : SV → Mem → Prop} (G : Mem → Mem → Mem) (hF : P.funcs[f]? = some F) (hb : F.body = some c) (hn : Nat.ble xs.length F.ntmps = true)
  (h : Run P (fx0 f) F.ntmps Q (zmp 0 [] xs) [.code c] (frozen M)) (hG : ∀ Me, Aft (Go.Ev.frozen M) Me → WF M → Aft M (G M Me)) (hS : ∀ {B m m' Me w w'}, MRel B m M w → z82 w.heap.size m (Go.Ev.frozen M) w m' Me w' → z82 B m M w m' (G M Me) w')
  (hR : ∀ s Me, Q s Me → Aft (Go.Ev.frozen M) Me → WF M → R s (G M Me)) : CallsM P f xs M R := by
 intro hw
 obtain ⟨s, Me, hq, ha, hrun⟩ := h (zjh hw)
 refine ⟨s, G M Me, ?_, hG Me ha hw, hR s Me hq ha hw⟩
 intro hmix B m w vs hr has cf cs
 have hfr := za2 (zcp hF hb hn) has
 obtain ⟨fr, w', m', x, g1, g2, g3, g4, _⟩ := hrun hmix w.heap.size m w _ [] (cf :: cs) (frozen_rel hr) hfr .nil
 exact ⟨m', w', x, hS hr g2, g3, Steps.trans g1 (.one (step_leave_returned g4))⟩
theorem CallsM.plain {f : FuncId} {F : Func} {c : Code} {xs : List SV} {M : Mem} {s0 : SV} (hF : P.funcs[f]? = some F) (hb : F.body = some c) (hn : Nat.ble xs.length F.ntmps = true) (hp : Go.Ev.plain s0 = true)
  (h : Run P (fx0 f) F.ntmps (fun s _ => s = s0) (zmp 0 [] xs) [.code c] (frozen M)) : CallsM P f xs M fun s M' => s = s0 ∧ M' = M := by
 intro hw
 obtain ⟨s, Me, hq, ha, hrun⟩ := h (zjh hw)
 subst hq
 refine ⟨s, M, ?_, .refl hw, rfl, rfl⟩
 intro hmix B m w vs hr has cf cs
 have hfr := za2 (zcp hF hb hn) has
 obtain ⟨fr, w', m', x, g1, g2, g3, g4, _⟩ := hrun hmix w.heap.size m w _ [] (cf :: cs) (frozen_rel hr) hfr .nil
 refine ⟨m, w', x, ⟨hr.kept g2.below, fun _ _ => rfl, fun _ _ _ => rfl, Nat.le_refl _, g2.below.mono hr.base, fun k hk _ => g2.below.block k hk, fun _ _ h => h, fun _ _ => rfl, rfl, fun _ _ h => h, fun b p hbn hp _ => absurd hp (by rw [(hr.fresh b hbn).1]; simp)⟩, ?_, Steps.trans g1 (.one (step_leave_returned g4))⟩
 rw [← g3]
 exact zhd hp _ _
def New (M M' : Mem) (L : List Ent) : Prop := (∀ F H, Has F M H → Has F M' (L ++ H)) ∧ (∀ b, b.num < M.next.num → M'.t.get b = M.t.get b)
theorem zp4 {M Me : Mem} (hn : M.next.num ≤ Me.next.num) : zd6 M (zcc M Me) := by
 refine ⟨⟨fun b o hb _ h => ?_, hn⟩, fun b o h => ⟨?_, h.low, Nat.lt_of_lt_of_le h.lt hn⟩⟩
 ·rw [z8n hb]; exact h
 ·rw [z8n h.lt]; exact h.get
theorem Ent.low {M : Mem} {x : Ent} (h : x.ok M) : ∀ b ∈ x.fp, M.floor ≤ b.num := by
 intro b hb
 cases x with
 | obj c o =>
  simp only [Ent.fp, List.mem_cons, List.not_mem_nil, or_false] at hb
  subst hb
  exact h.1.low
 | vec tt z n s c =>
  rcases h with ⟨rfl, _⟩ | ⟨c, hs, _, ho⟩
  ·simp [Ent.fp, blk] at hb
  ·rcases hs with rfl | rfl <;> (simp only [Ent.fp, blk, List.mem_cons, List.not_mem_nil, or_false] at hb; subst hb; exact ho.low)
 | fixd c r => simp [Ent.fp] at hb
def Ent.isFix : Ent → Bool
 | .fixd _ _ => true
 | _ => false
theorem Ent.ok_map {M M' : Mem} {x : Ent} (hx : x.isFix = false) (hk : ∀ b o, b ∈ x.fp → Own M b o → Own M' b o) (h : x.ok M) : x.ok M' := by
 cases x with
 | obj b o => exact ⟨hk b o (by simp [Ent.fp]) h.1, h.2⟩
 | vec tt z n s c =>
  rcases h with h | ⟨b, hs, hc, ho⟩
  ·exact .inl h
  ·exact .inr ⟨b, hs, hc, hk b _ (by rcases hs with rfl | rfl <;> simp [Ent.fp, blk]) ho⟩
 | fixd b c => simp [Ent.isFix] at hx
theorem New.of {F : Rd} {M Me : Mem} {L : List Ent} (hL : L.all (fun x => !x.isFix) = true) (h : Has F Me L) (ha : Aft (frozen M) Me) (hw : WF M) : New M (zcc M Me) L := by
 refine ⟨?_, fun b hb => z8n hb⟩
 intro F' H hH
 have hn : M.next.num ≤ Me.next.num := ha.next
 have hfl : Me.floor = M.next.num := ha.floor
 have h' := hH.mem (zp4 hn)
 have hlow : ∀ z ∈ L, ∀ b ∈ z.fp, M.next.num ≤ b.num := fun z hz b hb => by have := Ent.low (h.ok z hz) b hb; omega
 refine ⟨h'.base, fun z hz => ?_, ?_⟩
 ·rcases List.mem_append.1 hz with hz | hz
  ·refine Ent.ok_map (M := Me) (by have := List.all_eq_true.1 hL z hz; simpa using this) (fun b o hb ho => ⟨?_, Nat.le_trans hw.2 (hlow z hz b hb), ho.lt⟩) (h.ok z hz)
   rw [z9z (hlow z hz b hb)]
   exact ho.get
  ·exact h'.ok z hz
 ·rw [List.flatMap_append, List.nodup_append]
  refine ⟨h.nd, hH.nd, ?_⟩
  rintro b hb c hc rfl
  obtain ⟨z, hz, hbz⟩ := List.mem_flatMap.1 hb
  obtain ⟨y, hy, hby⟩ := List.mem_flatMap.1 hc
  have := hlow z hz b hbz
  have := Ent.lt (hH.ok y hy) b hby
  omega
theorem WF.lift {M : Mem} (h : WF M) : WF (Go.Ev.lift M) := ⟨h.1, Nat.le_refl _⟩
theorem Aft.unlift {M M' : Mem} (hw : WF M) (h : Aft (Go.Ev.lift M) M') : Aft M (Go.Ev.unlift M.floor M') := by
 have h1 : M.next.num ≤ M'.next.num := h.next
 exact ⟨⟨h.wf.1, Nat.le_trans hw.2 h1⟩, rfl, h1, fun b hb => h.old b (Nat.lt_of_lt_of_le hb hw.2)⟩
theorem New.unlift {M M' : Mem} {L H : List Ent} {F : Rd} (hN : New (Go.Ev.lift M) M' L) (ha : Aft (Go.Ev.lift M) M') (hw : WF M) (hH : Has F M H) : Has F (Go.Ev.unlift M.floor M') (L ++ H) := by
 have hn : M.next.num ≤ M'.next.num := ha.next
 have hfl : M'.floor = M.next.num := ha.floor
 have h0 : Has F M' L := by
  have := hN.1 F [] ⟨hH.base, fun x hx => by simp at hx, by simp⟩
  simpa using this
 have hm : zd6 M (Go.Ev.unlift M.floor M') := by
  refine ⟨⟨fun b o hb _ h => ?_, hn⟩, fun b o h => ⟨?_, h.low, Nat.lt_of_lt_of_le h.lt hn⟩⟩
  ·have := hN.2 b hb
   exact this.trans h
  ·have := hN.2 b h.lt
   exact this.trans h.get
 have h' := hH.mem hm
 have hlow : ∀ z ∈ L, ∀ b ∈ z.fp, M.next.num ≤ b.num := fun z hz b hb => by have := Ent.low (h0.ok z hz) b hb; omega
 refine ⟨h'.base, fun z hz => ?_, ?_⟩
 ·rcases List.mem_append.1 hz with hz | hz
  ·have hok := h0.ok z hz
   cases z with
   | obj b o => exact ⟨⟨hok.1.get, Nat.le_trans hw.2 (hlow _ hz b (by simp [Ent.fp])), hok.1.lt⟩, hok.2⟩
   | vec tt zz n s c =>
    rcases hok with h | ⟨b, hs, hc, ho⟩
    ·exact .inl h
    ·exact .inr ⟨b, hs, hc, ho.get, Nat.le_trans hw.2 (hlow _ hz b (by rcases hs with rfl | rfl <;> simp [Ent.fp, blk])), ho.lt⟩
   | fixd b c => exact hok
  ·exact h'.ok z hz
 ·rw [List.flatMap_append, List.nodup_append]
  refine ⟨h0.nd, hH.nd, ?_⟩
  rintro b hb c hc rfl
  obtain ⟨z, hz, hbz⟩ := List.mem_flatMap.1 hb
  obtain ⟨y, hy, hby⟩ := List.mem_flatMap.1 hc
  have := hlow z hz b hbz
  have := Ent.lt (hH.ok y hy) b hby
  omega
theorem CallsM.fresh {f : FuncId} {F : Func} {c : Code} {xs : List SV} {M : Mem} {Q R : SV → Mem → Prop} (hF : P.funcs[f]? = some F) (hb : F.body = some c) (hn : Nat.ble xs.length F.ntmps = true)
  (h : Run P (fx0 f) F.ntmps Q (zmp 0 [] xs) [.code c] (Go.Ev.frozen M)) (hR : ∀ s Me, Q s Me → Aft (Go.Ev.frozen M) Me → WF M → R s (zcc M Me)) : CallsM P f xs M R :=
 CallsM.ofFrozen zcc hF hb hn h (fun _ ha hw => zn3 hw ha) (fun hr hs => zg1 hr hs) hR
theorem CallsM.data {f : FuncId} {F : Func} {c : Code} {xs : List SV} {M : Mem} {Q R : SV → Mem → Prop} (hF : P.funcs[f]? = some F) (hb : F.body = some c) (hn : Nat.ble xs.length F.ntmps = true)
  (h : Run P (fx0 f) F.ntmps Q (zmp 0 [] xs) [.code c] (Go.Ev.frozen M)) (hR : ∀ s Me, Q s Me → Aft (Go.Ev.frozen M) Me → WF M → R s (zh2 M Me)) : CallsM P f xs M R :=
 CallsM.ofFrozen zh2 hF hb hn h (fun _ ha hw => zop hw ha) (fun hr hs => zn1 hr hs) hR
theorem rdLe_frozen (M : Mem) : zj2 (rd M) (ro (frozen M)) := by
 intro b c h
 unfold Go.Ev.rd at h
 split at h
 ·rename_i hb
  refine zr8 hb ?_
  rw [z9y]
  rcases zmd h with ⟨e, k, h1⟩ | h1 | h1 <;> rw [h1]
  ·exact .inl rfl
  ·exact .inr rfl
  ·exact .inl rfl
 ·simp at h
theorem Run.calls {f : FuncId} {F : Func} {c : Code} {xs : List SV} {vs : Array Value} {M : Mem} {m : Map} {w : World} {Q : SV → Mem → Prop} (hmix : P.follows .mixedOrders = true) (hF : P.funcs[f]? = some F) (hb : F.body = some c) (hn : Nat.ble xs.length F.ntmps = true)
  (hr : MRel w.heap.size m M w) (has : concs m xs = some vs.toList) (h : Run P (fx0 f) F.ntmps Q (zmp 0 [] xs) [.code c] M) :
  Calls P f vs w fun e w' => ∃ m' M' s x, e = .returned x ∧ conc m' s = some x ∧ Q s M' ∧ z82 w.heap.size m M w m' M' w' := by
 intro cs
 have hfr := za2 (zcp hF hb hn) has
 obtain ⟨s, M', hq, ha, hrun⟩ := h hr.wf
 obtain ⟨fr, w', m', x, g1, g2, g3, g4, g5⟩ := hrun hmix w.heap.size m w _ [] cs hr hfr .nil
 exact ⟨.returned x, w', fr, ⟨m', M', s, x, rfl, g3, hq, g2⟩, g1, g5, g4⟩
theorem CallsM.closed {f : FuncId} (hc : ∀ w, Calls P f #[] w fun e w' => e = .returned (.bool true) ∧ Below w.heap.size w w') (M : Mem) : CallsM P f [] M fun s M' => s = .bool true ∧ M' = M := by
 intro hw
 refine ⟨.bool true, M, ?_, .refl hw, rfl, rfl⟩
 intro _ B m w vs hr has c cs
 have hvs : vs = #[] := by
  have := concs_nil m
  rw [this] at has
  have := Option.some.inj has
  exact (Array.toList_eq_nil_iff.1 this.symm)
 subst hvs
 obtain ⟨e, w', fr, ⟨rfl, hb⟩, hcome, hfn, hl⟩ := hc w (c :: cs)
 exact ⟨m, w', .bool true, ⟨hr.kept hb, fun _ _ => rfl, fun _ _ _ => rfl, Nat.le_refl _, hb.mono hr.base, fun k hk _ => hb.block k hk, fun _ _ h => h, fun _ _ => rfl, rfl, fun _ _ h => h, fun b p hbn hp _ => absurd hp (by rw [(hr.fresh b hbn).1]; simp)⟩, rfl, Steps.trans hcome (.one (step_leave_returned hl))⟩
section
variable {fx : Fx} {n : Nat} {Q : SV → Mem → Prop} {e : Env} {k : List SItem} {M : Mem} {all : Array Oper}
theorem zeu {n : Nat} {all : Array Oper} {f : Nat} {r : List Oper} {σ σ' : Tree SV} {M M' : Mem} (h : PureR P n all r σ (unlift f M) σ' M') : ∃ M'', PureR P n all r σ M σ' M'' ∧ ∀ g, unlift g M'' = unlift g M' := by
 cases h with
 | nil => exact ⟨M, .nil, fun _ => rfl⟩
 | cons h1 h2 h3 => exact ⟨M', .cons h1 h2 h3, fun _ => rfl⟩
def zf9 (P : Program) (fx : Fx) (n : Nat) (Q : SV → Mem → Prop) (all : Array Oper) (k : List SItem) (r : List Oper) (e : Env) (M : Mem) : Prop :=
 WF M → ∃ e' M', SeqR P n all r (treeOf e) M (treeOf e') M' ∧ Aft M M' ∧ Run P fx n Q e' k M'
def z9j (P : Program) (fx : Fx) (n : Nat) (Q : SV → Mem → Prop) (all : Array Oper) (k : List SItem) (tl : List Oper) (r : List Oper) (e : Env) (M : Mem) : Prop :=
 WF M → ∃ e' M', PureR P n all r (treeOf e) M (treeOf e') M' ∧ Aft M (unlift M.floor M') ∧ zf9 P fx n Q all k tl e' (unlift M.floor M')
theorem z9j.nil {tl : List Oper} (h : zf9 P fx n Q all k tl e M) : z9j P fx n Q all k tl [] e M := fun hw => ⟨e, M, .nil, .refl hw, h⟩
theorem zf9.nil (h : Run P fx n Q e k M) : zf9 P fx n Q all k [] e M := fun hw => ⟨e, M, .nil, .refl hw, h⟩
section
variable {op : Op} {ty : TypeId} {pos : String} {af : Array Edge} {g : Option (Nat × Bool)} {d : Option Tmp} {s : SV} {r tl : List Oper}
theorem z9j.step {o : Oper} {M1 : Mem} {e1 : Env} {s : SV} (hv : zbi P all (lift M) (treeOf e) o s M1) (hp : zam (treeOf e) n o.dst s = some (treeOf e1)) (hw : WF M → Aft M (unlift M.floor M1))
  (h : z9j P fx n Q all k tl r e1 (unlift M.floor M1)) : z9j P fx n Q all k tl (o :: r) e M := fun hwf => by
 obtain ⟨e', M', h1, h2, h3⟩ := h (hw hwf).wf
 obtain ⟨M'', h4, h5⟩ := zeu h1
 refine ⟨e', M'', .cons hv hp h4, ?_, ?_⟩
 ·rw [h5]; exact (hw hwf).trans h2
 ·rw [h5]; exact h3
theorem z9j.val (hw : z8e all (treeOf e) ⟨d, op, ty, pos, af, g⟩ = some true) (hx : execO P (lift M) (treeOf e) op = .val s (lift M)) (hd : okD d n = true)
  (h : z9j P fx n Q all k tl r (putE d s e) M) : z9j P fx n Q all k tl (⟨d, op, ty, pos, af, g⟩ :: r) e M := by
 refine z9j.step (M1 := lift M) (s := s) ?_ (z89 hd) (fun hw => .refl hw) h
 have hx' : exec P (lift M) (treeOf e) ⟨d, op, ty, pos, af, g⟩ = .val s (lift M) := hx
 exact .inr ⟨hw, .inl hx'⟩
theorem z9j.no (hw : z8e all (treeOf e) ⟨d, op, ty, pos, af, g⟩ = some false) (hd : okD d n = true)
  (h : z9j P fx n Q all k tl r (putE d (.tuple []) e) M) : z9j P fx n Q all k tl (⟨d, op, ty, pos, af, g⟩ :: r) e M := by
 refine z9j.step (M1 := lift M) (s := .tuple []) ?_ (z89 hd) (fun hw => .refl hw) h
 exact .inl ⟨hw, rfl, rfl⟩
theorem z9j.new {F : Rd} {H : List Ent} {tt : TypeId} {rk : RK} {v : Pos → SV} {c : List SV} (hw : z8e all (treeOf e) ⟨d, op, ty, pos, af, g⟩ = some true) (hx : execO P (lift M) (treeOf e) op = .val (v (z90 (lift M))) (z8k tt rk (lift M) c)) (hd : okD d n = true) (hH : Has F M H)
  (h : ∀ b M', Has F M' (.obj b (.row tt rk c) :: H) → z9j P fx n Q all k tl r (putE d (v b) e) M') : z9j P fx n Q all k tl (⟨d, op, ty, pos, af, g⟩ :: r) e M := fun hwf => by
 have hnr : z8k tt rk (lift M) c = ⟨M.t.put (some (.row tt rk c)) M.next, M.next.succ, M.next.num⟩ := rfl
 have hnx : z90 (lift M) = M.next := rfl
 rw [hnr, hnx] at hx
 have h' := h M.next ⟨M.t.put (some (.row tt rk c)) M.next, M.next.succ, M.floor⟩ (hH.newObj hwf rfl)
 refine z9j.step (M1 := ⟨M.t.put (some (.row tt rk c)) M.next, M.next.succ, M.next.num⟩) (s := v M.next) ?_ (z89 hd) (fun hw => hw.anew _) h' hwf
 have hx' : exec P (lift M) (treeOf e) ⟨d, op, ty, pos, af, g⟩ = .val (v M.next) ⟨M.t.put (some (.row tt rk c)) M.next, M.next.succ, M.next.num⟩ := hx
 exact .inr ⟨hw, .inl hx'⟩
theorem z9j.newVec {F : Rd} {H : List Ent} {tt : TypeId} {j z : Nat} {c : List SV} (hw : z8e all (treeOf e) ⟨d, op, ty, pos, af, g⟩ = some true) (hx : execO P (lift M) (treeOf e) op = .val (.slice (z90 (lift M)) 0 j j) (z8k tt (.head 0) (lift M) c)) (hd : okD d n = true) (hc : c.length = j * z) (hH : Has F M H)
  (h : ∀ s M', Has F M' (.vec tt z j s c :: H) → z9j P fx n Q all k tl r (putE d s e) M') : z9j P fx n Q all k tl (⟨d, op, ty, pos, af, g⟩ :: r) e M := fun hwf => by
 have hnr : z8k tt (.head 0) (lift M) c = ⟨M.t.put (some (.row tt (.head 0) c)) M.next, M.next.succ, M.next.num⟩ := rfl
 have hnx : z90 (lift M) = M.next := rfl
 rw [hnr, hnx] at hx
 have h' := h (.slice M.next 0 j j) ⟨M.t.put (some (.row tt (.head 0) c)) M.next, M.next.succ, M.floor⟩ (hH.cons (hwf.memLe_new _) (.inr ⟨M.next, .inl rfl, hc, hwf.own_new _⟩) fun b hb => by
  simp only [Ent.fp, blk, List.mem_cons, List.not_mem_nil, or_false] at hb
  subst hb
  exact Nat.le_refl _)
 refine z9j.step (M1 := ⟨M.t.put (some (.row tt (.head 0) c)) M.next, M.next.succ, M.next.num⟩) (s := .slice M.next 0 j j) ?_ (z89 hd) (fun hw => hw.anew _) h' hwf
 have hx' : exec P (lift M) (treeOf e) ⟨d, op, ty, pos, af, g⟩ = .val (.slice M.next 0 j j) ⟨M.t.put (some (.row tt (.head 0) c)) M.next, M.next.succ, M.next.num⟩ := hx
 exact .inr ⟨hw, .inl hx'⟩
theorem zf9.step {o : Oper} {M1 : Mem} {e1 : Env} {s : SV} (hv : zbi P all M (treeOf e) o s M1) (hp : zam (treeOf e) n o.dst s = some (treeOf e1)) (hw : Aft M M1)
  (h : zf9 P fx n Q all k r e1 M1) : zf9 P fx n Q all k (o :: r) e M := fun _ => by
 obtain ⟨e', M', h1, h2, h3⟩ := h hw.wf
 exact ⟨e', M', .cons hv hp h1, hw.trans h2, h3⟩
theorem z9j.callP {f : FuncId} {xs : List SV} {s0 : SV} (hw : z8e all (treeOf e) ⟨d, op, ty, pos, af, g⟩ = some true) (hx : execO P (lift M) (treeOf e) op = .enter f xs (lift M)) (hd : okD d n = true) (hc : CallsM P f xs (lift M) fun s M' => s = s0 ∧ M' = lift M)
  (h : z9j P fx n Q all k tl r (putE d s0 e) M) : z9j P fx n Q all k tl (⟨d, op, ty, pos, af, g⟩ :: r) e M := fun hwf => by
 obtain ⟨s, M', h1, h2, rfl, rfl⟩ := hc (WF.lift hwf)
 refine z9j.step (M1 := lift M) (s := s) ?_ (z89 hd) (fun hw => .refl hw) h hwf
 exact .inr ⟨hw, .inr ⟨f, xs, lift M, hx, h1⟩⟩
theorem z9j.callN {f : FuncId} {xs : List SV} {R : SV → Mem → Prop} (hw : z8e all (treeOf e) ⟨d, op, ty, pos, af, g⟩ = some true) (hx : execO P (lift M) (treeOf e) op = .enter f xs (lift M)) (hd : okD d n = true) (hc : CallsM P f xs (lift M) R)
  (h : ∀ s M', R s M' → Aft (lift M) M' → z9j P fx n Q all k tl r (putE d s e) (unlift M.floor M')) : z9j P fx n Q all k tl (⟨d, op, ty, pos, af, g⟩ :: r) e M := fun hwf => by
 obtain ⟨s, M', h1, h2, h3⟩ := hc (WF.lift hwf)
 refine z9j.step (M1 := M') (s := s) ?_ (z89 hd) (fun hw => Aft.unlift hw h2) (h s M' h3 h2) hwf
 exact .inr ⟨hw, .inr ⟨f, xs, lift M, hx, h1⟩⟩
theorem zf9.callX {f : FuncId} {xs : List SV} {R : SV → Mem → Prop} (hw : z8e all (treeOf e) ⟨d, op, ty, pos, af, g⟩ = some true) (hd : okD d n = true) (hx : execO P M (treeOf e) op = .enter f xs M) (hc : CallsM P f xs M R)
  (h : ∀ v M', R v M' → zf9 P fx n Q all k r (putE d v e) M') : zf9 P fx n Q all k (⟨d, op, ty, pos, af, g⟩ :: r) e M := fun hwf => by
 obtain ⟨s, M', h1, h2, h3⟩ := hc hwf
 refine zf9.step (M1 := M') (s := s) ?_ (z89 hd) h2 (h s M' h3) hwf
 exact .inr ⟨hw, .inr ⟨f, xs, M, hx, h1⟩⟩
theorem zf9.val (hw : z8e all (treeOf e) ⟨d, op, ty, pos, af, g⟩ = some true) (hx : execO P M (treeOf e) op = .val s M) (hd : okD d n = true)
  (h : zf9 P fx n Q all k r (putE d s e) M) : zf9 P fx n Q all k (⟨d, op, ty, pos, af, g⟩ :: r) e M := fun hwf => by
 refine zf9.step (M1 := M) (s := s) ?_ (z89 hd) (.refl hwf) h hwf
 have hx' : exec P M (treeOf e) ⟨d, op, ty, pos, af, g⟩ = .val s M := hx
 exact .inr ⟨hw, .inl hx'⟩
theorem zf9.no (hw : z8e all (treeOf e) ⟨d, op, ty, pos, af, g⟩ = some false) (hd : okD d n = true)
  (h : zf9 P fx n Q all k r (putE d (.tuple []) e) M) : zf9 P fx n Q all k (⟨d, op, ty, pos, af, g⟩ :: r) e M := fun hwf => by
 refine zf9.step (M1 := M) (s := .tuple []) ?_ (z89 hd) (.refl hwf) h hwf
 exact .inl ⟨hw, rfl, rfl⟩
theorem zf9.opX {R : SV → Mem → Prop} (hw : z8e all (treeOf e) ⟨d, op, ty, pos, af, g⟩ = some true) (hd : okD d n = true) (hx : ExG P M e op R)
  (h : ∀ v M', R v M' → zf9 P fx n Q all k r (putE d v e) M') : zf9 P fx n Q all k (⟨d, op, ty, pos, af, g⟩ :: r) e M := fun hwf => by
 obtain ⟨v, M1, h1, h2, h3⟩ := hx hwf
 refine zf9.step (M1 := M1) (s := v) ?_ (z89 hd) h2 (h v M1 h3) hwf
 have hx' : exec P M (treeOf e) ⟨d, op, ty, pos, af, g⟩ = .val v M1 := h1
 exact .inr ⟨hw, .inl hx'⟩
end
end
section
variable {F : Rd} {H : List Ent} {fx : Fx} {n : Nat} {Q : SV → Mem → Prop} {e : Env} {k : List SItem} {M : Mem} {all : Array Oper}
theorem Has.loopOf {i : Nat} {b : Pos} {L : LoopS} (hH : Has F M H) (hi : H[i]? = some (.obj b (.loop L))) : Go.Ev.loopOf M b = some L := by
 unfold Go.Ev.loopOf
 rw [(hH.get hi).1.get]
theorem Has.loopOwn {i : Nat} {b : Pos} {L : LoopS} (hH : Has F M H) (hi : H[i]? = some (.obj b (.loop L))) : Go.Ev.loopOwn M b = some L := by
 unfold Go.Ev.loopOwn
 have ha : above M b = true := Nat.ble_eq_true_of_le (hH.get hi).1.low
 rw [ha]
 exact hH.loopOf hi
theorem Has.setLoop {i : Nat} {b : Pos} {L L' : LoopS} (hH : Has F M H) (hi : H[i]? = some (.obj b (.loop L))) : Has F (setT M b (some (.loop L'))) (H.set i (.obj b (.loop L'))) := hH.putObj hi rfl
theorem Run.rangeX {f : FuncId} {ds : List Pos} {cs : List z81} {x : Operand} {ps : Array Tmp} {asg bd c : Code} {gf : FuncId} {Fn : Func} {first captured : List SV} (hx : ar e x = some (.fn (.func gf) first captured)) (hcl : callable P gf = true) (hF : P.funcs[gf]? = some Fn) (hb : Fn.body = some c) (hn : Nat.ble (first.length + 1 + captured.length) Fn.ntmps = true) (hH : Has F M H)
  (next : ∀ d l M1, Has F M1 (.obj l (.loop ⟨.ready, none, f, n, treeOf e, ps.toList, asg, bd, d⟩) :: .obj d .defd :: H) → Run P ⟨⟨gf, [], none⟩, .mk ⟨f, d :: ds, none⟩ n (treeOf e) (.inRange l :: k) :: cs⟩ Fn.ntmps Q (zmp 0 [] ((first ++ [SV.yield l]) ++ captured)) [.code c] M1) : Run P ⟨⟨f, ds, none⟩, cs⟩ n Q e (.code (.rangeFunc x ps asg bd) :: k) M := by
 intro hw
 refine Run.rangeFn hx hcl hF hb (by rw [List.length_append, List.length_append]; exact hn) (next M.next M.next.succ _ ?_) hw
 exact (hH.newObj hw (o := .defd) rfl).newObj (hw.new _) (o := .loop ⟨.ready, none, f, n, treeOf e, ps.toList, asg, bd, M.next⟩) rfl
theorem ex_yield {i : Nat} {b : Pos} {L : LoopS} {f : Operand} {xs : Array Operand} {ts : Array TypeId} {l : List SV} (hH : Has F M H) (hi : H[i]? = some (.obj b (.loop L))) (hf : ar e f = some (.yield b)) (h : ars e xs.toList = some l) (hl : Nat.beq l.length L.ps.length = true) : execO P M (treeOf e) (.call ⟨.value f, xs, ts⟩) = .round b l M := by
 show zfj P M (treeOf e) xs f = _
 unfold zfj
 rw [zbk h M, z8j hf]
 show zd5 P (.yield b) l M = _
 unfold zd5
 show zk8 P (.yield b) l M = _
 unfold zk8
 show zmm b l M = _
 unfold zmm
 rw [z93]
 simp only [hH.loopOf hi, hl]
theorem ex_closure {f : FuncId} {x : Operand} {xs : Array Operand} {ts : Array TypeId} {l first captured : List SV} (hf : ar e x = some (.fn (.func f) first captured)) (h : ars e xs.toList = some l) (hk : makeK P f = none) (hc : callable P f = true) : execO P M (treeOf e) (.call ⟨.value x, xs, ts⟩) = .enter f ((first ++ l) ++ captured) M := by
 show zfj P M (treeOf e) xs x = _
 unfold zfj
 rw [zbk h M, z8j hf]
 show zd5 P (.fn (.func f) first captured) l M = _
 unfold zd5
 simp only [hk]
 unfold zk8
 simp only [hc, z9i]
theorem Run.beginX {f : FuncId} {ds : List Pos} {b : Pos} {cs : List z81} {i : Nat} {L : LoopS} (hH : Has F M H) (hi : H[i]? = some (.obj b (.loop L))) (hs : L.st = .ready) (next : ∀ M', Has F M' (H.set i (.obj b (.loop { L with st := .busy }))) → Run P ⟨⟨f, ds, some b⟩, cs⟩ n Q e k M') : Run P ⟨⟨f, ds, some b⟩, cs⟩ n Q e (.beginRound :: k) M :=
 Run.beginRound (hH.loopOwn hi) hs (next _ (hH.setLoop hi))
section
variable {f : FuncId} {ds : List Pos} {cx' : SCx} {n' : Nat} {e' : Env} {r : List Oper} {d : Option Tmp} {op : Op} {ty : TypeId} {pos : String} {af : Array Edge} {g : Option (Nat × Bool)} {k' : List SItem} {cs' : List z81} {i : Nat} {b : Pos} {L : LoopS}
theorem Run.roundEndX (hH : Has F M H) (hi : H[i]? = some (.obj b (.loop L))) (hd : okD d n' = true) (next : ∀ M', Has F M' (H.set i (.obj b (.loop { L with st := .ready, pend := none }))) → Run P ⟨cx', cs'⟩ n' Q (putE d (.bool true) e') (.ops all r :: k') M') :
  Run P ⟨⟨f, ds, some b⟩, .mk cx' n' (treeOf e') (.ops all (⟨d, op, ty, pos, af, g⟩ :: r) :: k') :: cs'⟩ n Q e [] M := Run.roundEnd (hH.loopOwn hi) hd (next _ (hH.setLoop hi))
end
theorem Run.endX {i : Nat} {b : Pos} {L : LoopS} (hH : Has F M H) (hi : H[i]? = some (.obj b (.loop L))) (hs : L.st ≠ .busy) (next : ∀ M', Has F M' (H.set i (.obj b (.loop { L with st := .exhausted }))) → Run P fx n Q e (ztd L.pend k) M') : Run P fx n Q e (.endRange b :: k) M :=
 Run.endRange (hH.loopOwn hi) hs (next _ (hH.setLoop hi))
theorem Has.shut {i : Nat} {d : Pos} {ds : List Pos} (hH : Has F M H) (hi : H[i]? = some (.obj d .defd)) : Has F (setT M d none) (H.set i (.vec 0 0 0 .nils [])) ∧ ∀ M1, zcj ds (setT M d none) = some M1 → zcj (d :: ds) M = some M1 := by
 have ho := (hH.get hi).1
 refine ⟨hH.upd hi (zhg ho rfl) zcx (.inl ⟨rfl, rfl, rfl⟩) (fun b hb => by simp [Ent.fp, blk] at hb), fun M1 h => ?_⟩
 unfold zcj
 have ha : above M d = true := Nat.ble_eq_true_of_le ho.low
 simp only [ho.get, ha, h]
end
end Go.Ev
