/- A part of the small machine. -/
import Derived.Test.YtoobfmfgbcohcabGreatDoorEvL2
set_option linter.unusedVariables false
/- Calls: what a call comes to, whoever calls; regions that draw, with calls in them. -/
namespace Go.Ev
open Go.RowKit
variable {P : Program}

/-- A call of g with these arguments, in this memory, gives s and leaves M'. -/
def zv3 (P : Program) (g : FuncId) (xs : List SV) (M : Mem) (s : SV) (M' : Mem) : Prop :=
 P.follows .mixedOrders = true → ∀ (B : Nat) (m : Map) (w : World) (vs : Array Value), MRel B m M w → concs m xs = some vs.toList → ∀ (c : Frame) (cs : List Frame),
  ∃ m' w' v, zi0 B m M w m' M' w' ∧ conc m' s = some v ∧ Steps P (lone (Frame.enter P g vs .normal) (c :: cs) w) (lone (c.finish v) cs w')
def CallsM (P : Program) (g : FuncId) (xs : List SV) (M : Mem) (R : SV → Mem → Prop) : Prop := WF M → ∃ s M', zv3 P g xs M s M' ∧ Aft M M' ∧ R s M'
/- TREES -/
namespace Tree
variable {α β : Type}
def mapT (f : α → Option β) : Tree α → Tree β
 | .leaf => .leaf
 | .node l v r => .node (mapT f l) (v.bind f) (mapT f r)
theorem get_mapT (f : α → Option β) : ∀ (t : Tree α) (p : Pos), get p (mapT f t) = (get p t).bind f
 | .leaf, p => by rw [mapT, get_leaf, get_leaf]; rfl
 | .node l v r, .one => rfl
 | .node l v r, .b0 p => get_mapT f l p
 | .node l v r, .b1 p => get_mapT f r p
def filtT : Tree α → (Pos → Bool) → Tree α
 | .leaf, _ => .leaf
 | .node l v r, q => .node (filtT l fun p => q (.b0 p)) (bif q .one then v else none) (filtT r fun p => q (.b1 p))
theorem get_filtT : ∀ (t : Tree α) (q : Pos → Bool) (p : Pos), get p (filtT t q) = bif q p then get p t else none
 | .leaf, q, p => by rw [filtT, get_leaf]; cases q p <;> rfl
 | .node l v r, q, .one => rfl
 | .node l v r, q, .b0 p => get_filtT l _ p
 | .node l v r, q, .b1 p => get_filtT r _ p
def unT : Tree α → Tree α → Tree α
 | .leaf, t => t
 | .node l v r, .leaf => .node l v r
 | .node l v r, .node l' v' r' => .node (unT l l') (v.or v') (unT r r')
theorem get_unT : ∀ (t u : Tree α) (p : Pos), get p (unT t u) = (get p t).or (get p u)
 | .leaf, t, p => by rw [unT, get_leaf]; rfl
 | .node l v r, .leaf, p => by rw [unT, get_leaf]; cases get p (.node l v r) <;> rfl
 | .node l v r, .node l' v' r', .one => rfl
 | .node l v r, .node l' v' r', .b0 p => get_unT l l' p
 | .node l v r, .node l' v' r', .b1 p => get_unT r r' p
end Tree

/-- A row that is only read. -/
def frz : SObj → Option SObj
 | .row _ _ c => some (.ro c)
 | .fix c => some (.fix c)
 | .ro c => some (.ro c)
 | _ => none
theorem y0e {o o' : SObj} (h : frz o = some o') : o'.own = false := by
 cases o <;> simp [frz] at h <;> subst h <;> rfl

noncomputable def frozen (M : Mem) : Mem := ⟨Tree.mapT frz M.t, M.next, M.next.num⟩
theorem zjf (M : Mem) (b : Pos) : (frozen M).t.get b = (M.t.get b).bind frz := Tree.get_mapT _ _ _
theorem zme {M : Mem} {b : Pos} {o : SObj} (h : (frozen M).t.get b = some o) : o.own = false := by
 rw [zjf, Option.bind_eq_some_iff] at h
 obtain ⟨x, _, hx⟩ := h
 exact y0e hx
theorem zll {m : Map} {M : Mem} {j : Nat} (h : zms m (frozen M) j) : False := by
 obtain ⟨c, x, q, hx, ho, _⟩ := h
 rw [zme hx] at ho
 exact absurd ho (by simp)

theorem frozen_rel {B : Nat} {m : Map} {M : Mem} {w : World} (hr : MRel B m M w) : MRel w.heap.size m (frozen M) w := by
 refine ⟨fun b o p hb hp => ?_, fun b b' o o' p p' hb hb' how _ _ _ => ?_, fun b hb => ⟨(hr.fresh b hb).1, ?_⟩, hr.bound, fun b o p hb ho _ => ?_, Nat.le_refl _, fun b c hb => ?_, Nat.le_refl _⟩
 ·rw [zjf, Option.bind_eq_some_iff] at hb
  obtain ⟨x, hx, hf⟩ := hb
  have hobj := hr.objs b x p hx hp
  cases x <;> simp only [frz, Option.some.injEq, reduceCtorEq] at hf <;> subst hf
  ·obtain ⟨e, fz, pre, vs, post, h1, _, h2, h3, h4, _⟩ := hobj
   exact ⟨e, fz, pre, vs, post, h1, trivial, h2, h3, h4, fun t ht => by simp at ht⟩
  ·exact hobj
  ·exact hobj
 ·rcases how with h | h
  ·rw [zme hb] at h; simp at h
  ·rw [zme hb'] at h; simp at h
 ·rw [zjf, (hr.fresh b hb).2]; rfl
 ·rw [zme hb] at ho; simp at ho
 ·rw [zjf, Option.bind_eq_some_iff] at hb
  obtain ⟨x, hx, hf⟩ := hb
  cases x <;> simp only [frz, Option.some.injEq, reduceCtorEq, SObj.fix.injEq] at hf
  subst hf
  exact hr.glob b _ hx

/-- The caller's memory, with what a call has made. -/
noncomputable def zog (M Me : Mem) : Mem := ⟨Tree.unT (Tree.filtT M.t fun b => decide (b.num < M.next.num)) (Tree.filtT Me.t fun b => decide (M.next.num ≤ b.num)), Me.next, M.floor⟩
theorem zim {M Me : Mem} {b : Pos} (h : b.num < M.next.num) : (zog M Me).t.get b = M.t.get b := by
 show Tree.get b (Tree.unT _ _) = _
 rw [Tree.get_unT, Tree.get_filtT, Tree.get_filtT]
 have h1 : decide (b.num < M.next.num) = true := decide_eq_true h
 have h2 : decide (M.next.num ≤ b.num) = false := decide_eq_false (by omega)
 rw [h1, h2]
 cases Tree.get b M.t <;> rfl
theorem zjn {M Me : Mem} {b : Pos} (h : M.next.num ≤ b.num) : (zog M Me).t.get b = Me.t.get b := by
 show Tree.get b (Tree.unT _ _) = _
 rw [Tree.get_unT, Tree.get_filtT, Tree.get_filtT]
 have h1 : decide (b.num < M.next.num) = false := decide_eq_false (by omega)
 have h2 : decide (M.next.num ≤ b.num) = true := decide_eq_true h
 rw [h1, h2]
 rfl

theorem zu3 {B : Nat} {m m' : Map} {M Me : Mem} {w w' : World} (hr : MRel B m M w) (hl : zi0 w.heap.size m (frozen M) w m' Me w') : zi0 B m M w m' (zog M Me) w' := by
 have hsame : ∀ b, b.num < M.next.num → m' b = m b := hl.same
 have hext : Ext m m' := hr.ext hsame
 have hnext : M.next.num ≤ Me.next.num := hl.next
 have hnew : ∀ b p, M.next.num ≤ b.num → m' b = some p → w.heap.size ≤ p.block := by
  intro b p hb hp
  apply Classical.byContradiction
  intro h
  exact zll (hl.news b p hb hp (by omega))
 refine ⟨⟨fun b o p hb hp => ?_, fun b b' o o' p p' hb hb' how hp hp' he => ?_, fun b hb => ?_, hl.rel.bound, fun b o p hb ho hp => ?_, Nat.le_trans hr.base hl.below.size, fun b c hb => ?_, ?_⟩, hsame, fun b hb _ => zim hb, hnext, hl.below.mono hr.base, fun k hk _ => hl.frame k hk fun h => zll h, fun j hj ho => ?_, fun b hb => zim (Nat.lt_of_lt_of_le hb hr.flo), rfl, fun b c hb => ?_, fun b p hb hp hlt => ?_⟩
 ·by_cases h : b.num < M.next.num
  ·rw [zim h] at hb
   rw [hsame b h] at hp
   rw [hl.below.block _ (hr.bound b p hp)]
   exact (hr.objs b o p hb hp).ext hext
  ·rw [zjn (by omega)] at hb
   exact hl.rel.objs b o p hb hp
 ·by_cases h : b.num < M.next.num <;> by_cases h' : b'.num < M.next.num
  ·rw [zim h] at hb
   rw [zim h'] at hb'
   rw [hsame b h] at hp
   rw [hsame b' h'] at hp'
   exact hr.inj b b' o o' p p' hb hb' how hp hp' he
  ·rw [hsame b h] at hp
   have := hr.bound b p hp
   have := hnew b' p' (by omega) hp'
   omega
  ·rw [hsame b' h'] at hp'
   have := hr.bound b' p' hp'
   have := hnew b p (by omega) hp
   omega
  ·rw [zjn (by omega)] at hb hb'
   exact hl.rel.inj b b' o o' p p' hb hb' how hp hp' he
 ·have hb' : Me.next.num ≤ b.num := hb
  rw [zjn (by omega)]
  exact hl.rel.fresh b hb'
 ·by_cases h : b.num < M.next.num
  ·rw [zim h] at hb
   rw [hsame b h] at hp
   exact hr.low b o p hb ho hp
  ·exact Nat.le_trans hr.base (hnew b p (by omega) hp)
 ·by_cases h : b.num < M.next.num
  ·rw [zim h] at hb
   rw [hsame b h]
   exact hr.glob b c hb
  ·rw [zjn (by omega)] at hb
   exact hl.rel.glob b c hb
 ·exact Nat.le_trans hr.flo hnext
 ·obtain ⟨b, x, q, hx, hxo, hq, rfl⟩ := ho
  by_cases h : b.num < M.next.num
  ·rw [zim h] at hx
   rw [hsame b h] at hq
   exact ⟨b, x, q, hx, hxo, hq, rfl⟩
  ·have := hnew b q (by omega) hq
   omega
 ·by_cases h : b.num < M.next.num
  ·rw [zim h] at hb; exact hb
  ·rw [zjn (by omega)] at hb
   have h2 := hl.fixes b c hb
   rw [zjf, (hr.fresh b (by omega)).2] at h2
   simp at h2
 ·have := hnew b p hb hp
  omega

theorem zsw {M : Mem} (h : WF M) : WF (frozen M) := by
 refine ⟨fun b hb => ?_, Nat.le_refl _⟩
 rw [zjf, h.1 b hb]
 rfl
theorem zv9 {M Me : Mem} (h : WF M) (h' : Aft (frozen M) Me) : Aft M (zog M Me) := by
 have hn : M.next.num ≤ Me.next.num := h'.next
 refine ⟨⟨fun b hb => ?_, Nat.le_trans h.2 hn⟩, rfl, hn⟩
 have hb' : Me.next.num ≤ b.num := hb
 rw [zjn (by omega)]
 exact h'.wf.1 b hb'
/- A REGION THAT DRAWS -/
inductive DrawR (P : Program) (n : Nat) (all : Array Oper) : List PE → Tree SV → Mem → Tree SV → Mem → Prop
 | nil {σ M} : DrawR P n all [] σ M σ M
 | sync {r σ M σ' M'} : DrawR P n all r σ M σ' M' → DrawR P n all (.sync :: r) σ M σ' M'
 | fl {i r σ M σ' M' o s σ1} (ho : all[i]? = some o) (hev : zmn P all M σ o = some s) (hput : zlp σ n o.dst s = some σ1) (h : DrawR P n all r σ1 M σ' M') : DrawR P n all (.fl i :: r) σ M σ' M'
 | no {i L r σ M σ' M' o σ1} (ho : all[i]? = some o) (hw : zil all σ o = some false) (hput : zlp σ n o.dst (.tuple []) = some σ1) (hst : zij P all M σ1 L = true) (h : DrawR P n all r σ1 M σ' M') : DrawR P n all (.an i L :: r) σ M σ' M'
 | val {i L r σ M σ' M' o s M2 σ1} (ho : all[i]? = some o) (hw : zil all σ o = some true) (hx : exec P M σ o = .val s M2) (hput : zlp σ n o.dst s = some σ1) (hst : zij P all M2 σ1 L = true) (h : DrawR P n all r σ1 M2 σ' M') : DrawR P n all (.an i L :: r) σ M σ' M'
 | enter {i L r σ M σ' M' o f xs M2 s M3 σ1} (ho : all[i]? = some o) (hw : zil all σ o = some true) (hx : exec P M σ o = .enter f xs M2) (hc : zv3 P f xs M2 s M3) (hput : zlp σ n o.dst s = some σ1) (hst : zij P all M3 σ1 L = true) (h : DrawR P n all r σ1 M3 σ' M') : DrawR P n all (.an i L :: r) σ M σ' M'

theorem zvr (hmix : P.follows .mixedOrders = true) {B : Nat} {all : Array Oper} {n : Nat} (cx : Cx) (todo : List Item) (fs : List Frame) :
  ∀ (plan : List PE) {E Q S rest : List Nat} {m : Map} {M : Mem} {w : World} {σ : Tree SV} {tm : Array Value} {σ' : Tree SV} {M' : Mem},
   DrawR P n all plan σ M σ' M' → zk9 P all (zjo all.toList) plan E Q = true → Mid P B all n m M w σ tm S rest E Q →
   ∃ m' w' tm', Steps P (lone (mkF cx tm (.inRegion all rest :: todo)) fs w) (lone (mkF cx tm' todo) fs w') ∧ zi0 B m M w m' M' w' ∧ zku m' σ' tm' ∧ tm'.size = n := by
 intro plan
 induction plan with
 | nil =>
  intro E Q S rest m M w σ tm σ' M' hrun hval h
  cases hrun
  simp only [zk9, List.all_eq_true, List.mem_range] at hval
  have hall : ∀ i, i < all.size → i ∈ E := fun i hi => zin.1 (hval i hi)
  obtain ⟨m1, w1, tm1, S1, c, hs, h1, hst, hE⟩ := h.drain (fun j o ho hj => absurd (hall j (Array.getElem?_eq_some_iff.1 ho).1) hj) cx todo fs
  have ht := h1.topo
  cases ht with
  | cons hn ho hp _ =>
   have hj := (Array.getElem?_eq_some_iff.1 ho).1
   exact absurd (hE _ (hall _ hj) hj) hn
  | nil _ =>
   refine ⟨m1, w1, tm1, hs.trans (.one (stepR_region_end (P := P) (b := mkF cx tm1 []) (a := ⟨tm1, cx.ds⟩))), hst, fun t s hts => ?_, h1.size⟩
   exact h1.rel t s hts fun i hi hiS o ho => absurd (hE i hi (Array.getElem?_eq_some_iff.1 ho).1) hiS
 | cons pe plan ih =>
  intro E Q S rest m M w σ tm σ' M' hrun hval h
  cases pe with
  | sync =>
   cases hrun with
   | sync hrun =>
   simp only [zk9, Bool.and_eq_true, List.all_eq_true, List.mem_range, Bool.or_eq_true] at hval
   obtain ⟨hv, hval⟩ := hval
   obtain ⟨m1, w1, tm1, S1, c, hs, h1, hst, hE⟩ := h.drain (fun j o ho hj q hq => by
    have hj' := (Array.getElem?_eq_some_iff.1 ho).1
    rcases hv j hj' with hin | hb
    ·exact absurd (zin.1 hin) hj
    ·exact zix hj' (hb q hq)) cx todo fs
   have hmid : Mid P B all n m1 M w1 σ tm1 S1 c E [] := by
    refine ⟨h1.mem, h1.size, h1.topo, h1.closed, h1.sub, ?_, h1.pd, h1.rel, by simp, by simp, h1.dn⟩
    intro i hi hiS
    obtain ⟨o, _, ho, _⟩ := h1.pd i hi hiS
    exact absurd (hE i hi (Array.getElem?_eq_some_iff.1 ho).1) hiS
   obtain ⟨m2, w2, tm2, hs2, g, ht2, hn2⟩ := ih hrun hval hmid
   exact ⟨m2, w2, tm2, hs.trans hs2, hst.trans g, ht2, hn2⟩
  | fl i =>
   cases hrun with
   | fl ho hev hput hrun =>
      rename_i o s σ1
      simp only [zk9] at hval
      rw [ho] at hval
      simp only at hval
      simp only [Bool.and_eq_true, Bool.not_eq_true', List.all_eq_true] at hval
      obtain ⟨⟨⟨⟨hiE, hfl⟩, hself⟩, hQ⟩, hval⟩ := hval
      have hiE' : i ∉ E := fun e => by rw [zin.2 e] at hiE; simp at hiE
      have hQ' : ∀ q ∈ Q, ∃ p, all[q]? = some p ∧ (zlg (zi9 all o) p.dst = true → befB (zjo all.toList) q i = true) ∧ zlg (zi9 all p) o.dst = false ∧ zke o.dst p.dst = false := by
       intro q hq
       have := hQ q hq
       split at this
       ·simp at this
       ·rename_i p hp
        simp only [Bool.and_eq_true, Bool.or_eq_true, Bool.not_eq_true'] at this
        refine ⟨p, hp, fun hin => ?_, this.1.2, this.2⟩
        rcases this.1.1 with h1 | h1
        ·rw [hin] at h1; simp at h1
        ·exact h1
      obtain ⟨hp1, hp2⟩ := zjm hput
      refine ih hrun hval (E := i :: E) (Q := i :: Q) ⟨h.mem, h.size, h.topo, h.closed, fun x hx => List.mem_cons_of_mem _ (h.sub x hx), ?_, ?_, ?_, ?_, ?_, ?_⟩
      ·intro x hx hxS
       rcases List.mem_cons.1 hx with rfl | hx
       ·simp
       ·exact List.mem_cons_of_mem _ (h.pend x hx hxS)
      ·intro x hx hxS
       rcases List.mem_cons.1 hx with rfl | hx
       ·refine ⟨o, s, ho, ?_, fun d hd => (hp2 d hd).2⟩
        have hag := zn0 (all := all) (o := o) hput hself
        unfold zmn at hev ⊢
        rw [zjq hag, zk6 (fun t ht => hag t (by simp only [zi9, List.mem_append]; exact .inr ht))]
        exact hev
       ·obtain ⟨p, hp, h1, h2, h3⟩ := hQ' x (h.pend x hx hxS)
        refine zpf (h.pd x hx hxS) (fun o' ho' => ?_) (fun o' d ho' hd => ?_)
        ·rw [hp] at ho'; cases ho'; exact zn0 hput h2
        ·rw [hp] at ho'; cases ho'
         exact hp1 d fun e => zq8 h3 e hd
      ·intro t x hx hcond
       have hne : o.dst ≠ some t := hcond i (by simp) (fun e => hiE' (h.sub i e)) o ho
       rw [hp1 t hne] at hx
       exact h.rel t x hx fun y hy hyS o' ho' => hcond y (List.mem_cons_of_mem _ hy) hyS o' ho'
      ·intro p hp q hq hpq o1 o2 h1 h2 hin
       rcases List.mem_cons.1 hp with rfl | hp2 <;> rcases List.mem_cons.1 hq with rfl | hq2
       ·exact absurd rfl hpq
       ·obtain ⟨p', hp', g1, g2, g3⟩ := hQ' q hq2
        rw [ho] at h1; cases h1
        rw [hp'] at h2; cases h2
        exact zix (Array.getElem?_eq_some_iff.1 ho).1 (g1 hin)
       ·obtain ⟨p', hp', g1, g2, g3⟩ := hQ' p hp2
        rw [hp'] at h1; cases h1
        rw [ho] at h2; cases h2
        rw [g2] at hin; simp at hin
       ·exact h.qr p hp2 q hq2 hpq o1 o2 h1 h2 hin
      ·intro q hq o' ho'
       rcases List.mem_cons.1 hq with rfl | hq
       ·rw [ho] at ho'; cases ho'; exact ⟨hfl, hself⟩
       ·exact h.qf q hq o' ho'
      ·intro x hx o' d ho' hd
       rcases List.mem_cons.1 hx with rfl | hx
       ·rw [ho] at ho'; cases ho'; exact (hp2 d hd).1
       ·exact h.dn x hx o' d ho' hd
  | an a L =>
   simp only [zk9] at hval
   cases ho : all[a]? with
   | none => cases hrun <;> rename_i h1 _ _ _ <;> simp_all
   | some o =>
    rw [ho] at hval
    simp only at hval
    simp only [Bool.and_eq_true, Bool.not_eq_true', List.all_eq_true, List.mem_range, Bool.or_eq_true] at hval
    obtain ⟨⟨⟨⟨haE, hready⟩, hQL⟩, hL⟩, hval⟩ := hval
    have haE' : a ∉ E := fun e => by rw [zin.2 e] at haE; simp at haE
    have hal := (Array.getElem?_eq_some_iff.1 ho).1
    have hL' : ∀ q ∈ L, q ∈ Q ∧ ∃ p, all[q]? = some p ∧ zlg (zi9 all o) p.dst = false ∧ zke o.dst p.dst = false := by
     intro q hq
     have := hL q hq
     refine ⟨zin.1 this.1, ?_⟩
     have := this.2
     split at this
     ·simp at this
     ·rename_i p hp
      simp only [Bool.and_eq_true, Bool.not_eq_true'] at this
      exact ⟨p, hp, this.1, this.2⟩
    obtain ⟨m1, w1, tm1, S1, c, hs, h1, hst⟩ := h.upto hal haE' (fun j p hp hj hja => by
     have hjl := (Array.getElem?_eq_some_iff.1 hp).1
     rcases hready j hjl with (hin | heq) | hk
     ·exact absurd (zin.1 hin) hj
     ·exact absurd (Nat.eq_of_beq_eq_true heq) hja
     ·rw [hp] at hk
      simp only [List.any_eq_true, Bool.not_eq_true'] at hk
      obtain ⟨k, hk1, hk2⟩ := hk
      exact ⟨k, hk1, fun e => by rw [zin.2 e] at hk2; simp at hk2⟩) cx todo fs
    have htopo := h1.topo
    cases htopo with
    | cons hn ho2 hp ht =>
    rename_i o2
    rw [ho] at ho2; cases ho2
    have hwaitL : ∀ i ∈ E, i ∉ S1 → i ∈ L := by
     intro i hi hiS
     rcases hQL i (h1.pend i hi hiS) with hb | hin
     ·exact absurd (zid ho hp h1.closed (zix hal hb)) hiS
     ·exact zin.1 hin
    obtain ⟨σr, htr, hwr, her⟩ := h1.part ho (fun i hi hiS o' ho' => by
     obtain ⟨_, p, hp', g1, _⟩ := hL' i (hwaitL i hi hiS)
     rw [ho'] at hp'; cases hp'; exact g1)
    -- what the operation gives, in both
    have key : ∀ (s : SV) (M2 : Mem) (σ2 : Tree SV), zlp σ n o.dst s = some σ2 → zij P all M2 σ2 L = true → DrawR P n all plan σ2 M2 σ' M' →
      (∃ m2 w2 v, zi0 B m1 M w1 m2 M2 w2 ∧ conc m2 s = some v ∧ ∀ tm', (∀ ds, Act.put ⟨tm1, ds⟩ o.dst v = ⟨tm', ds⟩) → Steps P (lone (mkF cx tm1 (.inRegion all (a :: c) :: todo)) fs w1) (lone (mkF cx tm' (.inRegion all c :: todo)) fs w2)) →
      ∃ m' w' tm', Steps P (lone (mkF cx tm (.inRegion all rest :: todo)) fs w) (lone (mkF cx tm' todo) fs w') ∧ zi0 B m M w m' M' w' ∧ zku m' σ' tm' ∧ tm'.size = n := by
     rintro s M2 σ2 hput hstill z ⟨m2, w2, v, g, hv, hsteps⟩
     obtain ⟨hp1, hp2⟩ := zjm hput
     obtain ⟨tm', hpt, hsz, hne, heq⟩ := zmt (tm := tm1) o.dst v
     have hext := g.ext h1.mem
     have hmid : Mid P B all n m2 M2 w2 σ2 tm' (a :: S1) c (a :: E) L := by
      refine ⟨g.rel, hsz.trans h1.size, ht, ?_, ?_, ?_, ?_, ?_, ?_, ?_, ?_⟩
      ·intro i hi k hk
       rcases List.mem_cons.1 hi with rfl | hi
       ·exact List.mem_cons_of_mem _ (zid ho hp h1.closed hk)
       ·exact List.mem_cons_of_mem _ (h1.closed i hi k hk)
      ·intro i hi
       rcases List.mem_cons.1 hi with rfl | hi
       ·simp
       ·exact List.mem_cons_of_mem _ (h1.sub i hi)
      ·intro i hi hiS
       rcases List.mem_cons.1 hi with rfl | hi
       ·exact absurd (by simp) hiS
       ·exact hwaitL i hi fun e => hiS (List.mem_cons_of_mem _ e)
      ·intro i hi hiS
       rcases List.mem_cons.1 hi with rfl | hi
       ·exact absurd (by simp) hiS
       ·exact zkq hstill i (hwaitL i hi fun e => hiS (List.mem_cons_of_mem _ e))
      ·intro t x hx hcond
       by_cases hd : o.dst = some t
       ·rw [(hp2 t hd).2] at hx
        cases hx
        exact ⟨v, heq t hd (by rw [h1.size]; exact (hp2 t hd).1), hv⟩
       ·rw [hp1 t hd] at hx
        obtain ⟨u, g1, g2⟩ := h1.rel t x hx fun i hi hiS o' ho' => hcond i (List.mem_cons_of_mem _ hi) (fun e => (List.mem_cons.1 e).elim (fun e => haE' (e ▸ hi)) hiS) o' ho'
        exact ⟨u, by rw [hne t hd]; exact g1, zie hext _ _ g2⟩
      ·intro p hp' q hq hpq o1 o2 g1 g2 hin
       exact h1.qr p (hL' p hp').1 q (hL' q hq).1 hpq o1 o2 g1 g2 hin
      ·intro q hq o' ho'
       exact h1.qf q (hL' q hq).1 o' ho'
      ·intro x hx o' d ho' hd
       rcases List.mem_cons.1 hx with rfl | hx
       ·rw [ho] at ho'; cases ho'; exact (hp2 d hd).1
       ·exact h1.dn x hx o' d ho' hd
     obtain ⟨m3, w3, tm3, hs3, l, ht3, hn3⟩ := ih z hval hmid
     exact ⟨m3, w3, tm3, hs.trans ((hsteps tm' hpt).trans hs3), (hst.trans g).trans l, ht3, hn3⟩
    -- the three ways
    cases hrun with
    | no ho' hw hput hstill hrun =>
     rw [ho] at ho'
     cases ho'
     have hw' := zj9 (hwr ▸ hw) htr
     refine key _ _ _ hput hstill hrun ⟨m1, w1, undef, .refl h1.mem, by simp [conc, concs, undef], fun tm' hpt => .one ?_⟩
     have hst' := stepR_op_skip (P := P) (b := mkF cx tm1 []) (a := ⟨tm1, cx.ds⟩) (k := todo) (cs := fs) (w := w1) (ops := all) (i := a) (rest := c) (by simp [ho, hw'])
     rw [ho, Option.bind_some, hpt] at hst'
     exact hst'
    | val ho' hw hex hput hstill hrun =>
     rw [ho] at ho'
     cases ho'
     have hw' := zj9 (hwr ▸ hw) htr
     have hd := zkh (P := P) h1.mem htr o
     rw [← her, hex] at hd
     obtain ⟨x, m2, w2, hxr, hx, g⟩ := hd
     obtain ⟨v, hv, hstep⟩ := zrq (P := P) (cx := cx) (rest := c) (todo := todo) (fs := fs) ho hw' hxr hx (zkf (P := P) (M := M) (σ := σ) (by rw [hex]; simp))
     exact key _ _ _ hput hstill hrun ⟨m2, w2, v, g, hv, fun tm' hpt => .one (hstep tm' hpt)⟩
    | enter ho' hw hex hc hput hstill hrun =>
     rw [ho] at ho'
     cases ho'
     rename_i f ss M2 s M3 σ1
     have hw' := zj9 (hwr ▸ hw) htr
     have hd := zkh (P := P) h1.mem htr o
     rw [← her, hex] at hd
     obtain ⟨vs, m2, w2, hxr, has, g⟩ := hd
     obtain ⟨m3, w3, v, l, hv, hsteps⟩ := hc hmix B m2 w2 vs g.rel has (mkF cx tm1 (.inRegion all (a :: c) :: todo)) fs
     refine key _ _ _ hput hstill hrun ⟨m3, w3, v, g.trans l, hv, fun tm' hpt => ?_⟩
     have hg := stepGR_op (P := P) (b := mkF cx tm1 []) (a := ⟨tm1, cx.ds⟩) (k := todo) (cs := fs) (w := w1) (ops := all) (i := a) (rest := c) ho hw'
     rw [Oper.semAt_eq _ _ _ (zkf (P := P) (M := M) (σ := σ) (by rw [hex]; simp)), zja] at hg
     have henter : step P (lone (mkF cx tm1 (.inRegion all (a :: c) :: todo)) fs w1) = .next (lone (Frame.enter P f vs .normal) (mkF cx tm1 (.inRegion all (a :: c) :: todo) :: fs) w2) := by
      refine step_lone_go ?_
      exact (congrArg GStep.bare hg).trans (by simp [stepG.apply, hxr, Frame.atR, mkF])
     have hfin : (mkF cx tm1 (.inRegion all (a :: c) :: todo)).finish v = mkF cx tm' (.inRegion all c :: todo) := by
      have := Frame.finish_atR (mkF cx tm1 []) ⟨tm1, cx.ds⟩ all a c todo v
      rw [ho, Option.bind_some, hpt] at this
      exact this
     rw [hfin] at hsteps
     exact .head henter hsteps

section
variable {fx : Fx} {n : Nat} {Q : SV → Mem → Prop} {e : Env} {k : List SItem} {M : Mem} {all : Array Oper}
def DrawG (P : Program) (fx : Fx) (n : Nat) (Q : SV → Mem → Prop) (all : Array Oper) (k : List SItem) (pl : List PE) (e : Env) (M : Mem) : Prop :=
 WF M → ∃ e' M1, DrawR P n all pl (treeOf e) M (treeOf e') M1 ∧ Aft M M1 ∧ Run P fx n Q e' k M1
theorem Run.drawG {i : Nat} {ops : Array Oper} {pl : List PE} (hp : planOf P ops = some pl) (h : DrawG P fx n Q ops k pl e M) : Run P fx n Q e (.code (.region i ops true) :: k) M := by
 intro hw
 obtain ⟨e', M1, hdr, ha, hrun⟩ := h hw
 obtain ⟨s, M', hq, ha2, hto⟩ := hrun ha.wf
 refine ⟨s, M', hq, ha.trans ha2, ?_⟩
 intro hmix B m w fr frs cs0 hr hf hc
 obtain ⟨cc, tm, todo, rfl, hcx, ht, hn, hk⟩ := hf
 cases hk with
 | cons hi hk =>
 rename_i it todo
 cases it <;> simp only [zl8] at hi
 subst hi
 obtain ⟨hfw, hval⟩ := zsf hp
 have hs0 := stepR_region_draw (P := P) (b := mkF cc tm []) (a := ⟨tm, cc.ds⟩) (k := todo) (cs := frs ++ cs0) (w := w) (ops := ops) (id := i)
 rw [hmix] at hs0
 have hr1 : MRel B m M { w with drawn := w.drawn + 1 } := hr.drew rfl
 have hmid : Mid P B ops n m M { w with drawn := w.drawn + 1 } (treeOf e) tm [] (Region.schedule true ops (w.tape w.drawn (.order cc.fn i))) [] [] :=
  ⟨hr1, hn, zk3 hfw _, by simp, by simp, by simp, by simp, fun t s hts _ => ht t s hts, by simp, by simp, by simp⟩
 obtain ⟨m', w', tm', hs, hst, ht', hn'⟩ := zvr (P := P) hmix cc todo (frs ++ cs0) pl hdr hval hmid
 have hst' : zi0 B m M w m' M1 w' := ⟨hst.rel, hst.same, hst.keep, hst.next, ⟨hst.below.os, hst.below.tape, hst.below.output, hst.below.size, hst.below.block⟩, hst.frame, hst.born, hst.under, hst.floor, hst.fixes, hst.news⟩
 have hext := hst'.ext hr
 obtain ⟨fr2, w2, m2, x, g1, g2, g3, g4, g5⟩ := hto hmix B m' w' (mkF cc tm' todo) frs cs0 hst'.rel ⟨cc, tm', todo, rfl, hcx.ext hext, ht', hn', zj3.mono (fun _ _ => zl8.ext hext) hk⟩ (zj4 hext hc)
 exact ⟨fr2, w2, m2, x, (Steps.head hs0 hs).trans g1, hst'.trans g2, g3, g4, g5⟩
theorem DrawG.nil (h : Run P fx n Q e k M) : DrawG P fx n Q all k [] e M := fun hw => ⟨e, M, .nil, .refl hw, h⟩
theorem DrawG.sync {r : List PE} (h : DrawG P fx n Q all k r e M) : DrawG P fx n Q all k (.sync :: r) e M := fun hw => by
 obtain ⟨e', M', h1, h2⟩ := h hw
 exact ⟨e', M', .sync h1, h2⟩
section
variable {i : Nat} {op : Op} {ty : TypeId} {pos : String} {af : Array Edge} {g : Option (Nat × Bool)} {d : Option Tmp} {s : SV} {L : List Nat} {r : List PE}
theorem ev_ex {M' : Mem} (hw : zil all (treeOf e) ⟨d, op, ty, pos, af, g⟩ = some true) (hx : execO P M (treeOf e) op = .val s M') : zmn P all M (treeOf e) ⟨d, op, ty, pos, af, g⟩ = some s := by
 unfold zmn
 have hx' : exec P M (treeOf e) ⟨d, op, ty, pos, af, g⟩ = .val s M' := hx
 simp only [hw, hx']
theorem ev_no {o : Oper} (hw : zil all (treeOf e) o = some false) : zmn P all M (treeOf e) o = some (.tuple []) := by
 unfold zmn
 simp only [hw]
theorem st_nil : zij P all M (treeOf e) [] = true := rfl
theorem st_cons {q : Nat} {l : List Nat} {o : Oper} {d : Tmp} {s : SV} (ho : all[q]? = some o) (hv : zmn P all M (treeOf e) o = some s) (hd : o.dst = some d) (hl : lk d e = some s) (hb : zmf s = true) (h : zij P all M (treeOf e) l = true) : zij P all M (treeOf e) (q :: l) = true := by
 have : zso P all M (treeOf e) q = true := by
  unfold zso
  simp only [ho, hv, hd, zi7, hl]
  exact zqk hb
 simp only [zij, this]
 exact h
theorem DrawG.fl {o : Oper} (ho : all[i]? = some o) (hv : zmn P all M (treeOf e) o = some s) (hd : okD o.dst n = true)
  (h : DrawG P fx n Q all k r (putE o.dst s e) M) : DrawG P fx n Q all k (.fl i :: r) e M := fun hw => by
 obtain ⟨e', M', h1, h2⟩ := h hw
 exact ⟨e', M', .fl ho hv (zjk hd) h1, h2⟩
theorem DrawG.val (ho : all[i]? = some ⟨d, op, ty, pos, af, g⟩) (hw : zil all (treeOf e) ⟨d, op, ty, pos, af, g⟩ = some true) (hx : execO P M (treeOf e) op = .val s M) (hd : okD d n = true)
  (hs : zij P all M (treeOf (putE d s e)) L = true) (h : DrawG P fx n Q all k r (putE d s e) M) : DrawG P fx n Q all k (.an i L :: r) e M := fun hwf => by
 obtain ⟨e', M', h1, h2⟩ := h hwf
 exact ⟨e', M', .val ho hw hx (zjk hd) hs h1, h2⟩
theorem DrawG.no (ho : all[i]? = some ⟨d, op, ty, pos, af, g⟩) (hw : zil all (treeOf e) ⟨d, op, ty, pos, af, g⟩ = some false) (hd : okD d n = true)
  (hs : zij P all M (treeOf (putE d (.tuple []) e)) L = true) (h : DrawG P fx n Q all k r (putE d (.tuple []) e) M) : DrawG P fx n Q all k (.an i L :: r) e M := fun hwf => by
 obtain ⟨e', M', h1, h2⟩ := h hwf
 exact ⟨e', M', .no ho hw (zjk hd) hs h1, h2⟩
theorem DrawG.opX {R : SV → Mem → Prop} (ho : all[i]? = some ⟨d, op, ty, pos, af, g⟩) (hw : zil all (treeOf e) ⟨d, op, ty, pos, af, g⟩ = some true) (hd : okD d n = true) (hx : ExG P M e op R)
  (h : ∀ v M', R v M' → zij P all M' (treeOf (putE d v e)) L = true ∧ DrawG P fx n Q all k r (putE d v e) M') : DrawG P fx n Q all k (.an i L :: r) e M := fun hwf => by
 obtain ⟨v, M', h1, h2, h3⟩ := hx hwf
 obtain ⟨h4, h5⟩ := h v M' h3
 obtain ⟨e', M2, h6, h7, h8⟩ := h5 h2.wf
 exact ⟨e', M2, .val ho hw h1 (zjk hd) h4 h6, h2.trans h7, h8⟩
theorem DrawG.call {R : SV → Mem → Prop} {f : FuncId} {xs : List SV} (ho : all[i]? = some ⟨d, op, ty, pos, af, g⟩) (hw : zil all (treeOf e) ⟨d, op, ty, pos, af, g⟩ = some true) (hx : execO P M (treeOf e) op = .enter f xs M) (hd : okD d n = true) (hc : CallsM P f xs M R)
  (h : ∀ v M', R v M' → zij P all M' (treeOf (putE d v e)) L = true ∧ DrawG P fx n Q all k r (putE d v e) M') : DrawG P fx n Q all k (.an i L :: r) e M := fun hwf => by
 obtain ⟨v, M', h1, h2, h3⟩ := hc hwf
 obtain ⟨h4, h5⟩ := h v M' h3
 obtain ⟨e', M2, h6, h7, h8⟩ := h5 h2.wf
 exact ⟨e', M2, .enter ho hw hx h1 (zjk hd) h4 h6, h2.trans h7, h8⟩
end
end
end Go.Ev

/- Regions of operations that write nothing older than themselves, with calls in them by what they come to. -/
namespace Go.Ev
open Go.RowKit
variable {P : Program}

section
variable {B : Nat} {m : Map} {M : Mem} {w : World} {σ : Tree SV} {tm : Array Value}

end
section
variable {B : Nat} {m : Map} {M : Mem} {w : World} {σ : Tree SV} {tm : Array Value}
variable {n N : Nat} {all : Array Oper} {Ms : Nat → Mem} {σs : Nat → Tree SV} {ss : Nat → SV}

end
section
variable {B : Nat} {n N : Nat} {all : Array Oper} {Ms : Nat → Mem} {σs : Nat → Tree SV} {ss : Nat → SV} {m0 : Map} {w0 : World}

end
end Go.Ev

/- Calls within runs, runs as calls; regions whose operations are free of order; loops over functions. -/
namespace Go.Ev
open Go.RowKit
variable {P : Program}

section
variable {fx : Fx} {n : Nat} {Q : SV → Mem → Prop} {e : Env} {k : List SItem} {M : Mem} {all : Array Oper}

theorem y17 {all : Array Oper} {o : Oper} {r : List Oper} {i : Nat} (hdrop : o :: r = all.toList.drop i) : all[i]? = some o ∧ r = all.toList.drop (i + 1) ∧ (List.range all.size).drop i = i :: (List.range all.size).drop (i + 1) := by
 have hlt : i < all.size := by
  apply Classical.byContradiction
  intro hge
  rw [List.drop_eq_nil_of_le (by simp; omega)] at hdrop
  simp at hdrop
 refine ⟨?_, ?_, ?_⟩
 ·have : (all.toList.drop i)[0]? = some o := by rw [← hdrop]; rfl
  simpa using this
 ·have := congrArg List.tail hdrop
  simpa using this
 ·rw [List.drop_eq_getElem_cons (by simpa using hlt)]
  simp

theorem Run.callX {r : List Oper} {d : Option Tmp} {op : Op} {ty : TypeId} {pos : String} {af : Array Edge} {gd : Option (Nat × Bool)} {g : FuncId} {xs : List SV} {R : SV → Mem → Prop}
  (hw : zil all (treeOf e) ⟨d, op, ty, pos, af, gd⟩ = some true) (hx : execO P M (treeOf e) op = .enter g xs M) (hd : okD d n = true) (hc : CallsM P g xs M R)
  (next : ∀ s M', R s M' → Run P fx n Q (putE d s e) (.ops all r :: k) M') : Run P fx n Q e (.ops all (⟨d, op, ty, pos, af, gd⟩ :: r) :: k) M := by
 intro hwf
 obtain ⟨s, M1, hct, ha, hR⟩ := hc hwf
 obtain ⟨s2, M2, hq, ha2, hrun⟩ := next s M1 hR ha.wf
 refine ⟨s2, M2, hq, ha.trans ha2, ?_⟩
 intro hmix B m w fr frs cs0 hr hf hcs
 obtain ⟨cc, tm, todo, rfl, hcx, ht, hn, hk⟩ := hf
 cases hk with
 | cons hi hk =>
 rename_i it todo
 cases it <;> simp only [zl8] at hi
 obtain ⟨rfl, i, hdrop, rfl⟩ := hi
 obtain ⟨ho, hr', hrange⟩ := y17 hdrop
 rw [hrange]
 have hw' := zj9 hw ht
 have hg := stepGR_op (P := P) (b := mkF cc tm []) (a := ⟨tm, cc.ds⟩) (k := todo) (cs := frs ++ cs0) (w := w) (ops := all) (i := i) (rest := (List.range all.size).drop (i + 1)) ho hw'
 have hx' : exec P M (treeOf e) ⟨d, op, ty, pos, af, gd⟩ = .enter g xs M := hx
 have hdo := zkh (P := P) hr ht ⟨d, op, ty, pos, af, gd⟩
 rw [hx'] at hdo
 rw [Oper.semAt_eq _ _ _ (zkf (P := P) (M := M) (σ := treeOf e) (by rw [hx']; simp)), zja] at hg
 obtain ⟨vs, m1, w1, hrunA, has, hst⟩ := hdo
 have henter : step P (lone (mkF cc tm (.inRegion all (i :: (List.range all.size).drop (i + 1)) :: todo)) (frs ++ cs0) w) = .next (lone (Frame.enter P g vs .normal) (mkF cc tm (.inRegion all (i :: (List.range all.size).drop (i + 1)) :: todo) :: (frs ++ cs0)) w1) := by
  refine step_lone_go ?_
  exact (congrArg GStep.bare hg).trans (by simp [stepG.apply, hrunA, Frame.atR, mkF])
 obtain ⟨m2, w2, v, c, hv, hsteps⟩ := hct hmix B m1 w1 vs hst.rel has (mkF cc tm (.inRegion all (i :: (List.range all.size).drop (i + 1)) :: todo)) (frs ++ cs0)
 have e1 := hst.ext hr
 have e2 := c.ext hst.rel
 obtain ⟨tm', hp, ht', hn'⟩ := zm9 (n := n) (d := d) (s := s) (zjk (e := e) hd) ((ht.ext e1).ext e2) hn hv
 have hfin : (mkF cc tm (.inRegion all (i :: (List.range all.size).drop (i + 1)) :: todo)).finish v = mkF cc tm' (.inRegion all ((List.range all.size).drop (i + 1)) :: todo) := by
  have := Frame.finish_atR (mkF cc tm []) ⟨tm, cc.ds⟩ all i ((List.range all.size).drop (i + 1)) todo v
  rw [ho, Option.bind_some, hp] at this
  exact this
 rw [hfin] at hsteps
 obtain ⟨fr3, w3, m3, x, g1, g2, g3, g4, g5⟩ := hrun hmix B m2 w2 (mkF cc tm' (.inRegion all ((List.range all.size).drop (i + 1)) :: todo)) frs cs0 c.rel ⟨cc, tm', _, rfl, (hcx.ext e1).ext e2, ht', hn', .cons ⟨rfl, i + 1, hr', rfl⟩ (zj3.mono (fun _ _ => zl8.ext e2) (zj3.mono (fun _ _ => zl8.ext e1) hk))⟩ (zj4 e2 (zj4 e1 hcs))
 exact ⟨fr3, w3, m3, x, (Steps.head henter hsteps).trans g1, (hst.trans c).trans g2, g3, g4, g5⟩
end

/- RUNS AS CALLS -/
abbrev fx0 (f : FuncId) : Fx := ⟨⟨f, [], none⟩, []⟩
theorem CallsM.run {f : FuncId} {F : Func} {c : Code} {xs : List SV} {M : Mem} {R : SV → Mem → Prop} (hF : P.funcs[f]? = some F) (hb : F.body = some c) (hn : Nat.ble xs.length F.ntmps = true)
  (h : Run P (fx0 f) F.ntmps R (zy4 0 [] xs) [.code c] M) : CallsM P f xs M R := by
 intro hw
 obtain ⟨s, M', hq, ha, hrun⟩ := h hw
 refine ⟨s, M', ?_, ha, hq⟩
 intro hmix B m w vs hr has cf cs
 have hfr := zjl (znf hF hb hn) has
 obtain ⟨fr, w', m', x, g1, g2, g3, g4, _⟩ := hrun hmix B m w _ [] (cf :: cs) hr hfr .nil
 exact ⟨m', w', x, g2, g3, Steps.trans g1 (.one (step_leave_returned g4))⟩
theorem CallsM.ofFrozen {f : FuncId} {F : Func} {c : Code} {xs : List SV} {M : Mem} {Q R : SV → Mem → Prop} (G : Mem → Mem → Mem) (hF : P.funcs[f]? = some F) (hb : F.body = some c) (hn : Nat.ble xs.length F.ntmps = true)
  (h : Run P (fx0 f) F.ntmps Q (zy4 0 [] xs) [.code c] (frozen M)) (hG : ∀ Me, Aft (Go.Ev.frozen M) Me → WF M → Aft M (G M Me)) (hS : ∀ {B m m' Me w w'}, MRel B m M w → zi0 w.heap.size m (Go.Ev.frozen M) w m' Me w' → zi0 B m M w m' (G M Me) w')
  (hR : ∀ s Me, Q s Me → Aft (Go.Ev.frozen M) Me → WF M → R s (G M Me)) : CallsM P f xs M R := by
 intro hw
 obtain ⟨s, Me, hq, ha, hrun⟩ := h (zsw hw)
 refine ⟨s, G M Me, ?_, hG Me ha hw, hR s Me hq ha hw⟩
 intro hmix B m w vs hr has cf cs
 have hfr := zjl (znf hF hb hn) has
 obtain ⟨fr, w', m', x, g1, g2, g3, g4, _⟩ := hrun hmix w.heap.size m w _ [] (cf :: cs) (frozen_rel hr) hfr .nil
 exact ⟨m', w', x, hS hr g2, g3, Steps.trans g1 (.one (step_leave_returned g4))⟩
/-- A function that returns a value without places. -/
theorem CallsM.plain {f : FuncId} {F : Func} {c : Code} {xs : List SV} {M : Mem} {s0 : SV} (hF : P.funcs[f]? = some F) (hb : F.body = some c) (hn : Nat.ble xs.length F.ntmps = true) (hp : Go.Ev.plain s0 = true)
  (h : Run P (fx0 f) F.ntmps (fun s _ => s = s0) (zy4 0 [] xs) [.code c] (frozen M)) : CallsM P f xs M fun s M' => s = s0 ∧ M' = M := by
 intro hw
 obtain ⟨s, Me, hq, ha, hrun⟩ := h (zsw hw)
 subst hq
 refine ⟨s, M, ?_, .refl hw, rfl, rfl⟩
 intro hmix B m w vs hr has cf cs
 have hfr := zjl (znf hF hb hn) has
 obtain ⟨fr, w', m', x, g1, g2, g3, g4, _⟩ := hrun hmix w.heap.size m w _ [] (cf :: cs) (frozen_rel hr) hfr .nil
 refine ⟨m, w', x, ⟨hr.kept g2.below, fun _ _ => rfl, fun _ _ _ => rfl, Nat.le_refl _, g2.below.mono hr.base, fun k hk _ => g2.below.block k hk, fun _ _ h => h, fun _ _ => rfl, rfl, fun _ _ h => h, fun b p hbn hp _ => absurd hp (by rw [(hr.fresh b hbn).1]; simp)⟩, ?_, Steps.trans g1 (.one (step_leave_returned g4))⟩
 rw [← g3]
 exact zqb hp _ _
/-- What a call has made, for the caller to own. -/
def New (M M' : Mem) (L : List Ent) : Prop := (∀ F H, Has F M H → Has F M' (L ++ H)) ∧ (∀ b, b.num < M.next.num → M'.t.get b = M.t.get b)
theorem zy0 {M Me : Mem} (hn : M.next.num ≤ Me.next.num) : zse M (zog M Me) := by
 refine ⟨⟨fun b o hb _ h => ?_, hn⟩, fun b o h => ⟨?_, h.low, Nat.lt_of_lt_of_le h.lt hn⟩⟩
 ·rw [zim hb]; exact h
 ·rw [zim h.lt]; exact h.get
theorem Ent.low {M : Mem} {x : Ent} (h : x.ok M) : ∀ b ∈ x.fp, M.floor ≤ b.num := by
 intro b hb
 cases x with
 | obj c o =>
  simp only [Ent.fp, List.mem_cons, List.not_mem_nil, or_false] at hb
  subst hb
  exact h.1.low
 | vec tt z n s c =>
  rcases h with ⟨rfl, _⟩ | ⟨c, hs, _, ho⟩
  ·simp [Ent.fp, blk] at hb
  ·rcases hs with rfl | rfl <;> (simp only [Ent.fp, blk, List.mem_cons, List.not_mem_nil, or_false] at hb; subst hb; exact ho.low)
 | fixd c r => simp [Ent.fp] at hb
def Ent.isFix : Ent → Bool
 | .fixd _ _ => true
 | _ => false
theorem Ent.ok_map {M M' : Mem} {x : Ent} (hx : x.isFix = false) (hk : ∀ b o, b ∈ x.fp → Own M b o → Own M' b o) (h : x.ok M) : x.ok M' := by
 cases x with
 | obj b o => exact ⟨hk b o (by simp [Ent.fp]) h.1, h.2⟩
 | vec tt z n s c =>
  rcases h with h | ⟨b, hs, hc, ho⟩
  ·exact .inl h
  ·exact .inr ⟨b, hs, hc, hk b _ (by rcases hs with rfl | rfl <;> simp [Ent.fp, blk]) ho⟩
 | fixd b c => simp [Ent.isFix] at hx
theorem New.of {F : Rd} {M Me : Mem} {L : List Ent} (hL : L.all (fun x => !x.isFix) = true) (h : Has F Me L) (ha : Aft (frozen M) Me) (hw : WF M) : New M (zog M Me) L := by
 refine ⟨?_, fun b hb => zim hb⟩
 intro F' H hH
 have hn : M.next.num ≤ Me.next.num := ha.next
 have hfl : Me.floor = M.next.num := ha.floor
 have h' := hH.mem (zy0 hn)
 have hlow : ∀ z ∈ L, ∀ b ∈ z.fp, M.next.num ≤ b.num := fun z hz b hb => by have := Ent.low (h.ok z hz) b hb; omega
 refine ⟨h'.base, fun z hz => ?_, ?_⟩
 ·rcases List.mem_append.1 hz with hz | hz
  ·refine Ent.ok_map (M := Me) (by have := List.all_eq_true.1 hL z hz; simpa using this) (fun b o hb ho => ⟨?_, Nat.le_trans hw.2 (hlow z hz b hb), ho.lt⟩) (h.ok z hz)
   rw [zjn (hlow z hz b hb)]
   exact ho.get
  ·exact h'.ok z hz
 ·rw [List.flatMap_append, List.nodup_append]
  refine ⟨h.nd, hH.nd, ?_⟩
  rintro b hb c hc rfl
  obtain ⟨z, hz, hbz⟩ := List.mem_flatMap.1 hb
  obtain ⟨y, hy, hby⟩ := List.mem_flatMap.1 hc
  have := hlow z hz b hbz
  have := Ent.lt (hH.ok y hy) b hby
  omega
theorem CallsM.fresh {f : FuncId} {F : Func} {c : Code} {xs : List SV} {M : Mem} {Q R : SV → Mem → Prop} (hF : P.funcs[f]? = some F) (hb : F.body = some c) (hn : Nat.ble xs.length F.ntmps = true)
  (h : Run P (fx0 f) F.ntmps Q (zy4 0 [] xs) [.code c] (Go.Ev.frozen M)) (hR : ∀ s Me, Q s Me → Aft (Go.Ev.frozen M) Me → WF M → R s (zog M Me)) : CallsM P f xs M R :=
 CallsM.ofFrozen zog hF hb hn h (fun _ ha hw => zv9 hw ha) (fun hr hs => zu3 hr hs) hR
theorem rdLe_frozen (M : Mem) : RdLe (rd M) (ro (frozen M)) := by
 intro b c h
 unfold Go.Ev.rd at h
 split at h
 ·rename_i hb
  refine zvx hb ?_
  rw [zjf]
  rcases zug h with ⟨e, k, h1⟩ | h1 | h1 <;> rw [h1]
  ·exact .inl rfl
  ·exact .inr rfl
  ·exact .inl rfl
 ·simp at h
/-- A call as a whole. -/
theorem Run.calls {f : FuncId} {F : Func} {c : Code} {xs : List SV} {vs : Array Value} {M : Mem} {m : Map} {w : World} {Q : SV → Mem → Prop} (hmix : P.follows .mixedOrders = true) (hF : P.funcs[f]? = some F) (hb : F.body = some c) (hn : Nat.ble xs.length F.ntmps = true)
  (hr : MRel w.heap.size m M w) (has : concs m xs = some vs.toList) (h : Run P (fx0 f) F.ntmps Q (zy4 0 [] xs) [.code c] M) :
  Calls P f vs w fun e w' => ∃ m' M' s x, e = .returned x ∧ conc m' s = some x ∧ Q s M' ∧ zi0 w.heap.size m M w m' M' w' := by
 intro cs
 have hfr := zjl (znf hF hb hn) has
 obtain ⟨s, M', hq, ha, hrun⟩ := h hr.wf
 obtain ⟨fr, w', m', x, g1, g2, g3, g4, g5⟩ := hrun hmix w.heap.size m w _ [] cs hr hfr .nil
 exact ⟨.returned x, w', fr, ⟨m', M', s, x, rfl, g3, hq, g2⟩, g1, g5, g4⟩
/- REGIONS THAT ARE FREE OF ORDER -/
section
variable {fx : Fx} {n : Nat} {Q : SV → Mem → Prop} {e : Env} {k : List SItem} {M : Mem} {all : Array Oper}
section
variable {op : Op} {ty : TypeId} {pos : String} {af : Array Edge} {g : Option (Nat × Bool)} {d : Option Tmp} {s : SV} {r tl : List Oper}
end
end

/- LOOPS OVER FUNCTIONS -/
section
variable {F : Rd} {H : List Ent} {fx : Fx} {n : Nat} {Q : SV → Mem → Prop} {e : Env} {k : List SItem} {M : Mem} {all : Array Oper}
theorem ex_closure {f : FuncId} {x : Operand} {xs : Array Operand} {ts : Array TypeId} {l first captured : List SV} (hf : ar e x = some (.fn (.func f) first captured)) (h : ars e xs.toList = some l) (hk : makeK P f = none) (hc : callable P f = true) : execO P M (treeOf e) (.call ⟨.value x, xs, ts⟩) = .enter f ((first ++ l) ++ captured) M := by
 show zpv P M (treeOf e) xs x = _
 unfold zpv
 rw [zlb h M, zig hf]
 show zmj P (.fn (.func f) first captured) l M = _
 unfold zmj
 simp only [hk]
 unfold zte
 simp only [hc, zj1]
section
variable {f : FuncId} {ds : List Pos} {cx' : SCx} {n' : Nat} {e' : Env} {r : List Oper} {d : Option Tmp} {op : Op} {ty : TypeId} {pos : String} {af : Array Edge} {g : Option (Nat × Bool)} {k' : List SItem} {cs' : List zi2} {i : Nat} {b : Pos} {L : LoopS}
end
end
end Go.Ev

