/- A part of the small machine. -/
import Derived.Test.YtjddbfpinjjkkaaGreatDoorEvV23
set_option linter.unusedVariables false
namespace Go.Ev
open Go.RowKit
variable {P : Program} {D : Known}
noncomputable def lift (M : Mem) : Mem := ⟨M.t, M.next, M.next.num⟩
noncomputable def unlift (f : Nat) (M : Mem) : Mem := ⟨M.t, M.next, f⟩
noncomputable def zbx (D : Known) (P : Program) (all : Array Oper) (M : Mem) (σ : Tree SV) (o : Oper) : Option (SV × Mem) :=
 match z8e all σ o with
 | none => none
 | some false => some (.tuple [], M)
 | some true => match exec P M σ o with
  | .val s M => some (s, M)
  | .enter f as M => D f as M
  | _ => none
noncomputable def zbd (D : Known) (P : Program) (n : Nat) (all : Array Oper) : List Oper → Tree SV → Mem → Option (Tree SV × Mem)
 | [], σ, M => some (σ, M)
 | o :: r, σ, M => match zbx D P all (lift M) σ o with
  | none => none
  | some (s, M1) => match zam σ n o.dst s with
   | none => none
   | some σ1 => zbd D P n all r σ1 M1
def zhf (ops : Array Oper) (ms : List Nat) : Bool :=
 (List.range ops.size).all fun j => match ops[j]? with
  | none => true
  | some o => (List.range ops.size).all fun i => match ops[i]? with
   | none => true
   | some p => match p.dst with
    | none => true
    | some d => (Nat.beq i j || !zau (some d) o.dst) && (!zbq (z8d ops o) (some d) || (zhw ms i j && Nat.blt i j))
structure PureOK (ops : Array Oper) : Prop where
 one : ∀ (i j : Nat) (o p : Oper) (d : Tmp), ops[i]? = some o → ops[j]? = some p → o.dst = some d → p.dst = some d → i = j
 rd : ∀ (i j : Nat) (o p : Oper) (d : Tmp), ops[j]? = some o → ops[i]? = some p → p.dst = some d → d ∈ z8d ops o → Before ops i j ∧ i < j
theorem zdq {ops : Array Oper} (h : zhf ops (z94 ops.toList) = true) : PureOK ops := by
 simp only [zhf, List.all_eq_true, List.mem_range] at h
 have key : ∀ i j o p d, ops[j]? = some o → ops[i]? = some p → p.dst = some d → (i = j ∨ zau (some d) o.dst = false) ∧ (zbq (z8d ops o) (some d) = false ∨ (zhw (z94 ops.toList) i j = true ∧ i < j)) := by
  intro i j o p d ho hp hd
  have h1 := h j (Array.getElem?_eq_some_iff.1 ho).1
  rw [ho] at h1
  simp only [List.all_eq_true, List.mem_range] at h1
  have h2 := h1 i (Array.getElem?_eq_some_iff.1 hp).1
  rw [hp] at h2
  simp only [hd, Bool.and_eq_true, Bool.or_eq_true, Bool.not_eq_true'] at h2
  refine ⟨h2.1.imp (fun e => Nat.eq_of_beq_eq_true e) id, h2.2.imp id fun e => ⟨e.1, ?_⟩⟩
  exact Nat.lt_of_succ_le (Nat.le_of_ble_eq_true e.2)
 constructor
 ·intro i j o p d ho hp hod hpd
  rcases (key i j p o d hp ho hod).1 with e | e
  ·exact e
  ·rw [hpd] at e
   simp [zau] at e
 ·intro i j o p d ho hp hd hin
  rcases (key i j o p d ho hp hd).2 with e | e
  ·rw [zfr.2 hin] at e; simp at e
  ·exact ⟨z8o (Array.getElem?_eq_some_iff.1 ho).1 e.1, e.2⟩
def zfp (o : Oper) : Bool := o.guard.isNone && match o.op with
 | .move (.tmp _) => true
 | .assign (.tmp _) => true
 | .extract (.tmp _) _ => true
 | _ => false
def zbc (ops : Array Oper) (k : Nat) : Bool := match ops[k]? with
 | some o => zfp o
 | none => false
theorem zkq {all : Array Oper} {o : Oper} (hf : zfp o = true) {M M2 : Mem} {σ σ2 : Tree SV} (hag : ∀ t ∈ zbf o.op, σ.get (Pos.ofNat t) = σ2.get (Pos.ofNat t)) :
  (z8e all σ o = some true ∧ z8e all σ2 o = some true) ∧ ((∃ s, exec P M σ o = .val s M ∧ exec P M2 σ2 o = .val s M2) ∨ (exec P M σ o = .bad)) := by
 obtain ⟨dst, op, type, pos, after, guard⟩ := o
 simp only [zfp, Bool.and_eq_true, Option.isNone_iff_eq_none] at hf
 obtain ⟨rfl, hop⟩ := hf
 refine ⟨⟨rfl, rfl⟩, ?_⟩
 split at hop
 ·rename_i t
  have e := hag t (by simp [zbf, Op.operands, zbe, zge])
  have h1 : ∀ (M : Mem) (σ : Tree SV), exec P M σ ⟨dst, .move (.tmp t), type, pos, after, none⟩ = (match σ.get (Pos.ofNat t) with | some s => .val s M | none => .bad) := fun M σ => by
   rw [zaz]; show z87 (arg M σ (.tmp t)) _ = _; show z87 (σ.get (Pos.ofNat t)) _ = _; cases σ.get (Pos.ofNat t) <;> rfl
  rw [h1, h1, ← e]
  cases σ.get (Pos.ofNat t) with
  | none => exact .inr rfl
  | some s => exact .inl ⟨s, rfl, rfl⟩
 ·rename_i t
  have e := hag t (by simp [zbf, Op.operands, zbe, zge])
  have h1 : ∀ (M : Mem) (σ : Tree SV), exec P M σ ⟨dst, .assign (.tmp t), type, pos, after, none⟩ = (match σ.get (Pos.ofNat t) with | some s => .val s M | none => .bad) := fun M σ => by
   rw [zaz]; show z87 (arg M σ (.tmp t)) _ = _; show z87 (σ.get (Pos.ofNat t)) _ = _; cases σ.get (Pos.ofNat t) <;> rfl
  rw [h1, h1, ← e]
  cases σ.get (Pos.ofNat t) with
  | none => exact .inr rfl
  | some s => exact .inl ⟨s, rfl, rfl⟩
 ·rename_i t k
  have e := hag t (by simp [zbf, Op.operands, zbe, zge])
  have h1 : ∀ (M : Mem) (σ : Tree SV), exec P M σ ⟨dst, .extract (.tmp t) k, type, pos, after, none⟩ = (match σ.get (Pos.ofNat t) with | some s => z9f k s M | none => .bad) := fun M σ => by
   rw [zaz]; show z87 (arg M σ (.tmp t)) _ = _; show z87 (σ.get (Pos.ofNat t)) _ = _; cases σ.get (Pos.ofNat t) <;> rfl
  rw [h1, h1, ← e]
  cases σ.get (Pos.ofNat t) with
  | none => exact .inr rfl
  | some s =>
   show (∃ s', z9f k s M = .val s' M ∧ z9f k s M2 = .val s' M2) ∨ z9f k s M = .bad
   unfold z9f
   split
   ·split
    ·exact .inl ⟨_, rfl, rfl⟩
    ·exact .inr rfl
   ·exact .inr rfl
 ·simp at hop
structure Trace (D : Known) (P : Program) (n : Nat) (all : Array Oper) (N i0 : Nat) (Ms : Nat → Mem) (σs : Nat → Tree SV) (ss : Nat → SV) : Prop where
 st : ∀ i o, i0 ≤ i → i < N → all[i]? = some o → zbx D P all (lift (Ms i)) (σs i) o = some (ss i, Ms (i + 1)) ∧ zam (σs i) n o.dst (ss i) = some (σs (i + 1))
theorem zbs {n N : Nat} {all : Array Oper} {σ' : Tree SV} {M' : Mem} (hN : N ≤ all.size) : ∀ (r : List Oper) (i : Nat) (σ : Tree SV) (M : Mem), i ≤ N → (all.toList.take N).drop i = r → zbd D P n all r σ M = some (σ', M') →
  ∃ Ms σs ss, Trace D P n all N i Ms σs ss ∧ Ms i = M ∧ σs i = σ ∧ Ms N = M' ∧ σs N = σ'
 | [], i, σ, M, hi, hd, h => by
  simp only [zbd, Option.some.injEq, Prod.mk.injEq] at h
  obtain ⟨rfl, rfl⟩ := h
  have hl := congrArg List.length hd
  simp at hl
  refine ⟨fun _ => M, fun _ => σ, fun _ => .tuple [], ⟨fun k o hk hkN ho => ?_⟩, rfl, rfl, rfl, rfl⟩
  omega
 | o :: r, i, σ, M, hi, hd, h => by
  simp only [zbd] at h
  split at h
  ·simp at h
  ·rename_i s M1 he
   split at h
   ·simp at h
   ·rename_i σ1 hput
    have hlt : i < N := by
     have := congrArg List.length hd
     simp at this
     omega
    have ho : all[i]? = some o := by
     have : ((all.toList.take N).drop i)[0]? = some o := by rw [hd]; rfl
     rw [List.getElem?_drop, List.getElem?_take_of_lt (by omega)] at this
     simpa using this
    have hd' : (all.toList.take N).drop (i + 1) = r := by
     have := congrArg List.tail hd
     simpa using this
    obtain ⟨Ms, σs, ss, ht, h1, h2, h3, h4⟩ := zbs hN r (i + 1) σ1 M1 (by omega) hd' h
    refine ⟨fun k => if k = i then M else Ms k, fun k => if k = i then σ else σs k, fun k => if k = i then s else ss k, ⟨fun k o' hk hkN ho' => ?_⟩, by simp, by simp, ?_, ?_⟩
    ·by_cases e : k = i
     ·subst e
      rw [ho] at ho'; cases ho'
      simp only [if_true, show ¬ (k + 1 = k) by omega, if_false, h1, h2]
      exact ⟨he, hput⟩
     ·simp only [e, if_false, show ¬ (k + 1 = i) by omega]
      exact ht.st k o' (by omega) hkN ho'
    ·simp only [show ¬ (N = i) by omega, if_false]; exact h3
    ·simp only [show ¬ (N = i) by omega, if_false]; exact h4
section
variable {B : Nat} {m : Map} {M : Mem} {w : World} {σ : Tree SV} {tm : Array Value}
theorem zdi (hD : Sound P B D) {all : Array Oper} {o : Oper} {s : SV} {M' : Mem} (hr : MRel B m M w) (ht : za6 m σ tm) (he : zbx D P all M σ o = some (s, M')) (cx : Cx) {i : Nat} (ho : all[i]? = some o) (rest : List Nat) (todo : List Item) (fs : List Frame) :
  ∃ m' w' v, z82 B m M w m' M' w' ∧ conc m' s = some v ∧ ∀ (tm' : Array Value), (∀ ds, Act.put ⟨tm, ds⟩ o.dst v = ⟨tm', ds⟩) →
   Steps P (lone (mkF cx tm (.inRegion all (i :: rest) :: todo)) fs w) (lone (mkF cx tm' (.inRegion all rest :: todo)) fs w') := by
 unfold zbx at he
 cases hw : z8e all σ o with
 | none => rw [hw] at he; simp at he
 | some b =>
  rw [hw] at he
  have hw' := z95 hw ht
  cases b with
  | false =>
   simp only [Option.some.injEq, Prod.mk.injEq] at he
   obtain ⟨rfl, rfl⟩ := he
   refine ⟨m, w, undef, .refl hr, by simp [conc, concs, undef], fun tm' hpt => .one ?_⟩
   have hst' := stepR_op_skip (P := P) (b := mkF cx tm []) (a := ⟨tm, cx.ds⟩) (k := todo) (cs := fs) (w := w) (ops := all) (i := i) (rest := rest) (by simp [ho, hw'])
   rw [ho, Option.bind_some, hpt] at hst'
   exact hst'
  | true =>
   simp only at he
   have hd := zaf (P := P) hr ht o
   cases hex : exec P M σ o with
   | bad => rw [hex] at he; simp at he
   | round l as M2 => rw [hex] at he; simp at he
   | val s' M2 =>
    rw [hex] at he hd
    simp only [Option.some.injEq, Prod.mk.injEq] at he
    obtain ⟨rfl, rfl⟩ := he
    obtain ⟨x, m2, w2, hxr, hx, hst2⟩ := hd
    have hv : ∃ v, (x = .value v ∨ x = .skip ∧ v = undef) ∧ conc m2 s' = some v := by
     cases x with
     | value v => exact ⟨v, .inl rfl, hx⟩
     | skip => exact ⟨undef, .inr ⟨rfl, rfl⟩, by have : s' = .tuple [] := hx; subst this; simp [conc, concs, undef]⟩
     | _ => exact hx.elim
    obtain ⟨v, hxv, hv⟩ := hv
    refine ⟨m2, w2, v, hst2, hv, fun tm' hpt => .one ?_⟩
    have hg := stepGR_op (P := P) (b := mkF cx tm []) (a := ⟨tm, cx.ds⟩) (k := todo) (cs := fs) (w := w) (ops := all) (i := i) (rest := rest) ho hw'
    rw [Oper.semAt_eq _ _ _ (za7 (P := P) (M := M) (σ := σ) (by rw [hex]; simp)), z96] at hg
    have hfin : (mkF cx tm (.inRegion all (i :: rest) :: todo)).finish v = mkF cx tm' (.inRegion all rest :: todo) := by
     have := Frame.finish_atR (mkF cx tm []) ⟨tm, cx.ds⟩ all i rest todo v
     rw [ho, Option.bind_some, hpt] at this
     exact this
    refine step_lone_go ?_
    rw [← hfin]
    rcases hxv with rfl | ⟨rfl, rfl⟩
    ·exact (congrArg GStep.bare hg).trans (by simp [stepG.apply, hxr]; rfl)
    ·exact (congrArg GStep.bare hg).trans (by simp [stepG.apply, hxr]; rfl)
   | enter f as M2 =>
    rw [hex] at he hd
    simp only at he
    obtain ⟨vs, m2, w2, hxr, has, hst2⟩ := hd
    obtain ⟨m3, w3, v, hst3, hv, hsteps⟩ := hD f as M2 s M' he m2 w2 vs hst2.rel has (mkF cx tm (.inRegion all (i :: rest) :: todo)) fs
    refine ⟨m3, w3, v, hst2.trans hst3, hv, fun tm' hpt => ?_⟩
    have hg := stepGR_op (P := P) (b := mkF cx tm []) (a := ⟨tm, cx.ds⟩) (k := todo) (cs := fs) (w := w) (ops := all) (i := i) (rest := rest) ho hw'
    rw [Oper.semAt_eq _ _ _ (za7 (P := P) (M := M) (σ := σ) (by rw [hex]; simp)), z96] at hg
    have henter : step P (lone (mkF cx tm (.inRegion all (i :: rest) :: todo)) fs w) = .next (lone (Frame.enter P f vs .normal) (mkF cx tm (.inRegion all (i :: rest) :: todo) :: fs) w2) := by
     refine step_lone_go ?_
     exact (congrArg GStep.bare hg).trans (by simp [stepG.apply, hxr, Frame.atR, mkF])
    have hfin : (mkF cx tm (.inRegion all (i :: rest) :: todo)).finish v = mkF cx tm' (.inRegion all rest :: todo) := by
     have := Frame.finish_atR (mkF cx tm []) ⟨tm, cx.ds⟩ all i rest todo v
     rw [ho, Option.bind_some, hpt] at this
     exact this
    rw [hfin] at hsteps
    exact .head henter hsteps
end
end Go.Ev
namespace Go.Ev
open Go.RowKit
variable {P : Program} {D : Known}
def cut (m : Map) (k : Nat) : Map := fun b => if b.num < k then m b else none
theorem z98 {m : Map} {k : Nat} {b : Pos} (h : b.num < k) : cut m k b = m b := by simp [cut, h]
theorem z8l {m : Map} {k : Nat} {b : Pos} {p : Pl} (h : cut m k b = some p) : b.num < k ∧ m b = some p := by
 unfold cut at h
 split at h
 ·rename_i hb; exact ⟨hb, h⟩
 ·simp at h
theorem zb4 {m : Map} {k l : Nat} (h : k ≤ l) : Ext (cut m k) (cut m l) := by
 intro b p hp
 obtain ⟨h1, h2⟩ := z8l hp
 rw [z98 (by omega)]; exact h2
theorem z9h.back {m m' : Map} (h : Ext m m') {s e e'} (h1 : z9h m s e) (h2 : z9h m' s e') : z9h m s e' := by
 have a1 := z8c h _ _ h1.1
 have a2 := z8c h _ _ h1.2.1
 rw [h2.1] at a1
 rw [h2.2.1] at a2
 simp only [Option.some.injEq] at a1 a2
 exact ⟨a1 ▸ h1.1, a2 ▸ h1.2.1, h2.2.2⟩
theorem zaq.back {m m' : Map} (h : Ext m m') {p : Pl} {o : SObj} {x x' : Option Obj} (h1 : zaq m p o x) (h2 : zaq m' p o x') : zaq m p o x' := by
 have row : ∀ te k cells, RowRel m p te k cells x → RowRel m' p te k cells x' → RowRel m p te k cells x' := by
  rintro te k cells ⟨e, fz, pre, vs, post, hx, hz, hs, hl, hc, ht⟩ ⟨e', fz', pre', vs', post', hx', hz', hs', hl', hc', ht'⟩
  have := z8s h _ _ hc
  rw [hc'] at this
  simp only [Option.some.injEq] at this
  exact ⟨e', fz', pre', vs', post', hx', hz', hs', hl', this ▸ hc, ht'⟩
 cases o with
 | row e k cells => exact row _ _ _ h1 h2
 | fix cells => exact row _ _ _ h1 h2
 | ro cells => exact row _ _ _ h1 h2
 | map es clock =>
  obtain ⟨a, hx, ha⟩ := h1
  obtain ⟨a', hx', ha'⟩ := h2
  refine ⟨a', hx', ?_⟩
  have : ∀ {es : List (SV × SV × Nat)} {l l' : List MapEntry}, z8p (z9h m) es l → z8p (z9h m') es l' → z8p (z9h m) es l' := by
   intro es
   induction es with
   | nil => intro l l' g1 g2; cases g2; exact .nil
   | cons s es ih =>
    intro l l' g1 g2
    cases g1 with
    | cons a b => cases g2 with
     | cons a' b' => exact .cons (z9h.back h a a') (ih b b')
  exact this ha ha'
 | siter s pos => exact h2
 | loop L =>
  obtain ⟨R, hx, a1, a2, a3, a4, a5, a6, a7, a8, q, a9, a10⟩ := h1
  obtain ⟨R', hx', b1, b2, b3, b4, b5, b6, b7, b8, q', b9, b10⟩ := h2
  refine ⟨R', hx', b1, b2, b3, fun t s ht => ?_, b5, b6, b7, b8, q, a9, ?_⟩
  ·obtain ⟨v, g1, g2⟩ := a4 t s ht
   obtain ⟨v', g3, g4⟩ := b4 t s ht
   have := z8c h _ _ g2
   rw [g4] at this
   simp only [Option.some.injEq] at this
   exact ⟨v', g3, this ▸ g2⟩
  ·have := h _ _ a9
   rw [b9] at this
   simp only [Option.some.injEq] at this
   rw [b10, this]
 | defd => exact h2
theorem MRel.lift {B m M w} (hr : MRel B m M w) : MRel B m (Go.Ev.lift M) w := ⟨hr.objs, hr.inj, hr.fresh, hr.bound, hr.low, hr.base, hr.glob, Nat.le_refl _⟩
structure Sym (N : Nat) (Ms : Nat → Mem) : Prop where
 next : ∀ i j, i ≤ j → j ≤ N → (Ms i).next.num ≤ (Ms j).next.num
 old : ∀ i j, i ≤ j → j ≤ N → ∀ b, b.num < (Ms i).next.num → (Ms j).t.get b = (Ms i).t.get b
 none : ∀ i, i ≤ N → ∀ b, (Ms i).next.num ≤ b.num → (Ms i).t.get b = none
 flo : ∀ i, i ≤ N → (Ms i).floor ≤ (Ms i).next.num
 fixes : ∀ i, i ≤ N → ∀ b c, (Ms i).t.get b = some (.fix c) → (Ms 0).t.get b = some (.fix c)
section
variable {B : Nat} {m : Map} {M : Mem} {w : World} {σ : Tree SV} {tm : Array Value}
variable {n N : Nat} {all : Array Oper} {Ms : Nat → Mem} {σs : Nat → Tree SV} {ss : Nat → SV}
theorem hyp (hD : Sound P B D) (hNs : N ≤ all.size) (ht : Trace D P n all N 0 Ms σs ss) (hr : MRel B m (Ms 0) w) (hT : za6 m (σs 0) tm) (hn : tm.size = n) :
  ∀ i, i ≤ N → (∃ m' w' tm', MRel B m' (Ms i) w' ∧ za6 m' (σs i) tm' ∧ tm'.size = n) ∧
   ∀ k, k < i → (Ms k).next.num ≤ (Ms (k + 1)).next.num ∧ (∀ b, b.num < (Ms k).next.num → (Ms (k + 1)).t.get b = (Ms k).t.get b) ∧ (∀ b c, (Ms (k + 1)).t.get b = some (.fix c) → (Ms k).t.get b = some (.fix c))
 | 0, _ => ⟨⟨m, w, tm, hr, hT, hn⟩, fun k hk => absurd hk (by omega)⟩
 | i + 1, hi => by
  obtain ⟨⟨m1, w1, tm1, hr1, hT1, hn1⟩, hk⟩ := hyp hD hNs ht hr hT hn i (by omega)
  have ho : all[i]? = some all[i] := Array.getElem?_eq_getElem (by omega)
  obtain ⟨he, hput⟩ := ht.st i _ (Nat.zero_le _) (by omega) ho
  obtain ⟨m2, w2, v, hst, hv, -⟩ := zdi (P := P) hD hr1.lift hT1 he ⟨0, [], none⟩ ho [] [] []
  obtain ⟨tm2, _, hT2, hn2⟩ := zb1 hput (hT1.ext (hst.ext hr1.lift)) hn1 hv
  refine ⟨⟨m2, w2, tm2, hst.rel, hT2, hn2⟩, fun k hlt => ?_⟩
  by_cases e : k = i
  ·subst e
   exact ⟨hst.next, fun b hb => hst.under b hb, fun b c h => hst.fixes b c h⟩
  ·exact hk k (by omega)
theorem sym (hD : Sound P B D) (hNs : N ≤ all.size) (ht : Trace D P n all N 0 Ms σs ss) (hr : MRel B m (Ms 0) w) (hT : za6 m (σs 0) tm) (hn : tm.size = n) : Sym N Ms := by
 have h := hyp hD hNs ht hr hT hn
 have hs := (h N (Nat.le_refl _)).2
 have hnext : ∀ i d, i + d ≤ N → (Ms i).next.num ≤ (Ms (i + d)).next.num := by
  intro i d
  induction d with
  | zero => intro _; exact Nat.le_refl _
  | succ d ih =>
   intro hd
   exact Nat.le_trans (ih (by omega)) (hs (i + d) (by omega)).1
 have hold : ∀ i d, i + d ≤ N → ∀ b, b.num < (Ms i).next.num → (Ms (i + d)).t.get b = (Ms i).t.get b := by
  intro i d
  induction d with
  | zero => intro _ b _; rfl
  | succ d ih =>
   intro hd b hb
   have := hnext i d (by omega)
   rw [← ih (by omega) b hb]
   exact (hs (i + d) (by omega)).2.1 b (by omega)
 refine ⟨fun i j hij hj => ?_, fun i j hij hj => ?_, fun i hi b hb => ?_, fun i hi => ?_, fun i hi => ?_⟩
 ·have := hnext i (j - i) (by omega)
  rwa [show i + (j - i) = j by omega] at this
 ·have := hold i (j - i) (by omega)
  rwa [show i + (j - i) = j by omega] at this
 ·obtain ⟨⟨m1, w1, tm1, hr1, _, _⟩, _⟩ := h i hi
  exact (hr1.fresh b hb).2
 ·obtain ⟨⟨m1, w1, tm1, hr1, _, _⟩, _⟩ := h i hi
  exact hr1.flo
 ·induction i with
  | zero => intro b c h; exact h
  | succ i ih => intro b c h; exact ih (by omega) b c ((hs i (by omega)).2.2 b c h)
theorem zdx (hNs : N ≤ all.size) (ht : Trace D P n all N 0 Ms σs ss) : ∀ j, j ≤ N → ∀ t, (∀ i o, i < j → all[i]? = some o → o.dst ≠ some t) → (σs j).get (Pos.ofNat t) = (σs 0).get (Pos.ofNat t)
 | 0, _, _, _ => rfl
 | j + 1, hj, t, h => by
  have ho : all[j]? = some all[j] := Array.getElem?_eq_getElem (by omega)
  obtain ⟨_, hput⟩ := ht.st j _ (Nat.zero_le _) (by omega) ho
  rw [(z8u hput).1 t (h j _ (by omega) ho), zdx hNs ht j (by omega) t fun i o hi => h i o (by omega)]
theorem zgj (hok : PureOK all) (hNs : N ≤ all.size) (ht : Trace D P n all N 0 Ms σs ss) {i : Nat} {o : Oper} {t : Nat} (ho : all[i]? = some o) (hd : o.dst = some t) : ∀ j, i < j → j ≤ N → (σs j).get (Pos.ofNat t) = some (ss i) ∧ t < n
 | 0, h, _ => absurd h (by omega)
 | j + 1, hij, hj => by
  have hoj : all[j]? = some all[j] := Array.getElem?_eq_getElem (by omega)
  obtain ⟨_, hput⟩ := ht.st j _ (Nat.zero_le _) (by omega) hoj
  by_cases e : i = j
  ·subst e
   rw [hoj] at ho; cases ho
   have := (z8u hput).2 t hd
   exact ⟨this.2, this.1⟩
  ·obtain ⟨h1, h2⟩ := zgj hok hNs ht ho hd j (by omega) (by omega)
   refine ⟨?_, h2⟩
   rw [(z8u hput).1 t fun h => e (hok.one _ _ _ _ _ ho hoj hd h)]
   exact h1
end
end Go.Ev
namespace Go.Ev
open Go.RowKit
variable {P : Program} {D : Known}
section
variable {B : Nat} {n N : Nat} {all : Array Oper} {Ms : Nat → Mem} {σs : Nat → Tree SV} {ss : Nat → SV} {m0 : Map} {w0 : World}
structure Inv (B : Nat) (all : Array Oper) (N n : Nat) (Ms : Nat → Mem) (σs : Nat → Tree SV) (ss : Nat → SV) (m0 : Map) (w0 : World) (m : Map) (w : World) (tm : Array Value) (S : List Nat) : Prop where
 rel : ∀ i, i ≤ N → MRel B (cut m (Ms i).next.num) (Ms i) w
 size : tm.size = n
 fin : ∀ i ∈ S, ∀ o d, all[i]? = some o → o.dst = some d → ∃ v, tm[d]? = some v ∧ conc (cut m (Ms (i + 1)).next.num) (ss i) = some v
 old : ∀ t s, (σs 0).get (Pos.ofNat t) = some s → (∀ (i : Nat) (o : Oper), i < N → all[i]? = some o → o.dst ≠ some t) → ∃ v, tm[t]? = some v ∧ conc (cut m (Ms 0).next.num) s = some v
 later : ∀ j, j < N → j ∉ S → ∀ b, (Ms j).next.num ≤ b.num → b.num < (Ms (j + 1)).next.num → m b = none
 same : ∀ b, b.num < (Ms 0).next.num → m b = m0 b
 below : Below B w0 w
 frame : ∀ k, k < w0.heap.size → ¬ zbj m0 (Ms 0) k → w.heap[k]? = w0.heap[k]?
 born : ∀ k, k < w0.heap.size → zbj (cut m (Ms N).next.num) (Ms N) k → zbj m0 (Ms 0) k
 news : ∀ b p, (Ms 0).next.num ≤ b.num → m b = some p → p.block < w0.heap.size → zbj m0 (Ms 0) p.block
 closed : ∀ i ∈ S, ∀ k, Before all k i → k ∈ S
 sub : ∀ i ∈ S, i < N
theorem zm9 (hs : Sym N Ms) {m : Map} {i j : Nat} (hij : i ≤ j) (hj : j ≤ N) {k : Nat} {M : Mem} (hM : M.t = (Ms i).t) (h : zbj (cut m (Ms i).next.num) M k) : zbj (cut m (Ms j).next.num) (Ms j) k := by
 obtain ⟨c, x, q, hx, hxo, hq, hk⟩ := h
 obtain ⟨hc, hmc⟩ := z8l hq
 have := hs.next i j hij hj
 exact ⟨c, x, q, by rw [hs.old i j hij hj c hc, ← hM]; exact hx, hxo, by rw [z98 (by omega)]; exact hmc, hk⟩
theorem Inv.step (hD : Sound P B D) (hok : PureOK all) (hNs : N ≤ all.size) (ht : Trace D P n all N 0 Ms σs ss) (hs : Sym N Ms) {m : Map} {w : World} {tm : Array Value} {S rest : List Nat} {j : Nat}
  (h : Inv B all N n Ms σs ss m0 w0 m w tm S) (topo : Topo all S (j :: rest)) (hj : j < N) (cx : Cx) (todo : List Item) (fs : List Frame) :
  ∃ m' w' tm', Steps P (lone (mkF cx tm (.inRegion all (j :: rest) :: todo)) fs w) (lone (mkF cx tm' (.inRegion all rest :: todo)) fs w') ∧ Inv B all N n Ms σs ss m0 w0 m' w' tm' (j :: S) := by
 cases topo with
 | cons hn ho hp htopo =>
 rename_i o
 obtain ⟨he, hput⟩ := ht.st j o (Nat.zero_le _) hj ho
 obtain ⟨_, hput2⟩ := z8u hput
 let ds := ((List.range N).filter (fun i => decide (i ∉ S ∨ j ≤ i))).filterMap fun i => (all[i]?).bind (·.dst)
 have hds : ∀ t, t ∈ ds ↔ ∃ i, i < N ∧ (i ∉ S ∨ j ≤ i) ∧ ∃ o', all[i]? = some o' ∧ o'.dst = some t := by
  intro t
  simp only [ds, List.mem_filterMap, List.mem_filter, List.mem_range, decide_eq_true_eq, Option.bind_eq_some_iff]
  constructor
  ·rintro ⟨i, ⟨h1, h2⟩, o', h3, h4⟩; exact ⟨i, h1, h2, o', h3, h4⟩
  ·rintro ⟨i, h1, h2, o', h3, h4⟩; exact ⟨i, ⟨h1, h2⟩, o', h3, h4⟩
 have hag : zdb (z8d all o) (σs j) (erase ds (σs j)) := by
  intro t htr
  rw [z99]
  split
  ·rename_i hin
   obtain ⟨i, h1, h2, o', h3, h4⟩ := (hds t).1 hin
   obtain ⟨g1, g2⟩ := hok.rd i j o o' t ho h3 h4 htr
   have := z8a ho hp h.closed g1
   rcases h2 with h2 | h2
   ·exact absurd this h2
   ·omega
  ·rfl
 have htr : za6 (cut m (Ms j).next.num) (erase ds (σs j)) tm := by
  intro t s hts
  rw [z99] at hts
  split at hts
  ·simp at hts
  ·rename_i hin
   by_cases hex : ∃ (i : Nat) (o' : Oper), i < N ∧ all[i]? = some o' ∧ o'.dst = some t
   ·obtain ⟨i, o', hi, h3, h4⟩ := hex
    have hiS : i ∈ S ∧ i < j := by
     constructor
     ·apply Classical.byContradiction
      intro e
      exact hin ((hds t).2 ⟨i, hi, .inl e, o', h3, h4⟩)
     ·apply Classical.byContradiction
      intro e
      exact hin ((hds t).2 ⟨i, hi, .inr (by omega), o', h3, h4⟩)
    have := (zgj hok hNs ht h3 h4 j hiS.2 (by omega)).1
    rw [this] at hts
    cases hts
    obtain ⟨v, g1, g2⟩ := h.fin i hiS.1 o' t h3 h4
    exact ⟨v, g1, z8c (zb4 (hs.next (i + 1) j (by omega) (by omega))) _ _ g2⟩
   ·have hno : ∀ (i : Nat) (o' : Oper), i < N → all[i]? = some o' → o'.dst ≠ some t := fun i o' hi h3 h4 => hex ⟨i, o', hi, h3, h4⟩
    rw [zdx hNs ht j (by omega) t fun i o' hi h3 => hno i o' (by omega) h3] at hts
    obtain ⟨v, g1, g2⟩ := h.old t s hts hno
    exact ⟨v, g1, z8c (zb4 (hs.next 0 j (by omega) (by omega))) _ _ g2⟩
 have he' : zbx D P all (lift (Ms j)) (erase ds (σs j)) o = some (ss j, Ms (j + 1)) := by
  rw [← he]
  unfold zbx
  rw [z9c hag, z9w (fun t htr => hag t (by simp only [z8d, List.mem_append]; exact .inr htr))]
 obtain ⟨m1, w1, v, hst, hv, hsteps⟩ := zdi (P := P) hD (h.rel j (by omega)).lift htr he' cx ho rest todo fs
 obtain ⟨tm', hpt, hsz, hne, heq⟩ := zb6 (tm := tm) o.dst v
 let m2 : Map := fun b => if (Ms j).next.num ≤ b.num ∧ b.num < (Ms (j + 1)).next.num then m1 b else m b
 have hin : ∀ b, (Ms j).next.num ≤ b.num → b.num < (Ms (j + 1)).next.num → m2 b = m1 b := fun b h1 h2 => by simp [m2, h1, h2]
 have hout : ∀ b, ¬ ((Ms j).next.num ≤ b.num ∧ b.num < (Ms (j + 1)).next.num) → m2 b = m b := fun b h1 => by simp only [m2]; rw [if_neg h1]
 have F1 : ∀ b, b.num < (Ms j).next.num → m1 b = m b := fun b hb => by rw [hst.same b hb, z98 hb]
 have F2 : ∀ b, (Ms (j + 1)).next.num ≤ b.num → m1 b = none := fun b hb => (hst.rel.fresh b hb).1
 have hjj := hs.next j (j + 1) (by omega) (by omega)
 have Flo : ∀ b, b.num < (Ms (j + 1)).next.num → m2 b = m1 b := fun b hb => by
  by_cases hb' : (Ms j).next.num ≤ b.num
  ·exact hin b hb' hb
  ·rw [hout b (by omega), F1 b (by omega)]
 have E1 : ∀ i, j + 1 ≤ i → i ≤ N → Ext m1 (cut m2 (Ms i).next.num) := by
  intro i hi hi' b p hb
  have hlt : b.num < (Ms (j + 1)).next.num := by
   apply Classical.byContradiction
   intro e
   rw [F2 b (by omega)] at hb
   simp at hb
  have := hs.next (j + 1) i hi hi'
  rw [z98 (by omega), Flo b hlt]
  exact hb
 have E2 : ∀ i, i ≤ N → Ext (cut m (Ms i).next.num) (cut m2 (Ms i).next.num) := by
  intro i hi b p hb
  obtain ⟨hlt, hmb⟩ := z8l hb
  rw [z98 hlt]
  by_cases hr : (Ms j).next.num ≤ b.num ∧ b.num < (Ms (j + 1)).next.num
  ·rw [h.later j hj hn b hr.1 hr.2] at hmb
   simp at hmb
  ·rw [hout b hr]; exact hmb
 have C1 : ∀ i, i ≤ j → cut m2 (Ms i).next.num = cut m (Ms i).next.num := by
  intro i hi
  funext b
  unfold cut
  split
  ·rename_i hb
   have := hs.next i j hi (by omega)
   exact hout b (by omega)
  ·rfl
 have hsize := hst.below.size
 have hup : ∀ k, zbj (cut m (Ms j).next.num) (lift (Ms j)) k → zbj (cut m (Ms N).next.num) (Ms N) k := fun k hk => zm9 hs (by omega) (Nat.le_refl _) rfl hk
 refine ⟨m2, w1, tm', hsteps tm' hpt, ⟨?_, hsz.trans h.size, ?_, ?_, ?_, ?_, h.below.trans hst.below, ?_, ?_, ?_, ?_, ?_⟩⟩
 ·-- memory
  intro i hi
  by_cases hij : i ≤ j
  ·rw [C1 i hij]
   have hr := h.rel i hi
   have hnx := hs.next i j hij (by omega)
   refine ⟨fun b o' p hb hp' => ?_, hr.inj, hr.fresh, fun b p hp' => Nat.lt_of_lt_of_le (hr.bound b p hp') hsize, hr.low, Nat.le_trans hr.base hsize, hr.glob, hr.flo⟩
   obtain ⟨hlt, hmb⟩ := z8l hp'
   refine zaq.back (m' := m1) (fun c q hc => ?_) (hr.objs b o' p hb hp') (hst.rel.objs b o' p ?_ ?_)
   ·obtain ⟨hcl, hcm⟩ := z8l hc
    rw [F1 c (by omega)]; exact hcm
   ·rw [hs.old i (j + 1) (by omega) (by omega) b hlt]; exact hb
   ·rw [F1 b (by omega)]; exact hmb
  ·have hr := h.rel i hi
   have hji : j + 1 ≤ i := by omega
   have hnx := hs.next (j + 1) i hji hi
   have e1 := E1 i hji hi
   have e2 := E2 i hi
   have kind : ∀ b o' p, (Ms i).t.get b = some o' → cut m2 (Ms i).next.num b = some p → (b.num < (Ms (j + 1)).next.num ∧ (Ms (j + 1)).t.get b = some o' ∧ m1 b = some p) ∨ ((Ms (j + 1)).next.num ≤ b.num ∧ cut m (Ms i).next.num b = some p) := by
    intro b o' p hb hp'
    obtain ⟨hlt, hmb⟩ := z8l hp'
    by_cases hb1 : b.num < (Ms (j + 1)).next.num
    ·exact .inl ⟨hb1, by rw [← hs.old (j + 1) i hji hi b hb1]; exact hb, by rw [← Flo b hb1]; exact hmb⟩
    ·exact .inr ⟨by omega, by rw [z98 hlt, ← hout b (by omega)]; exact hmb⟩
   have mixed : ∀ b b' x x' p p', (Ms i).t.get b = some x → (Ms i).t.get b' = some x' → (x.own = true ∨ x'.own = true) → b.num < (Ms (j + 1)).next.num → (Ms (j + 1)).t.get b = some x → m1 b = some p → (Ms (j + 1)).next.num ≤ b'.num → cut m (Ms i).next.num b' = some p' → p.block ≠ p'.block := by
    intro b b' x x' p p' hx hx' how hb1 hx1 hp1 hb' hp' heq
    have hbd := hr.bound b' p' hp'
    by_cases hb2 : b.num < (Ms j).next.num
    ·have := hr.inj b b' x x' p p' hx hx' how (by rw [z98 (by omega), ← F1 b hb2]; exact hp1) hp' heq
     subst this; omega
    ·obtain ⟨c, y, q, hy, hyo, hq, hqe⟩ := hst.news b p (by show (Ms j).next.num ≤ b.num; omega) hp1 (by rw [heq]; exact hbd)
     obtain ⟨hcl, hcm⟩ := z8l hq
     have := hr.inj c b' y x' q p' (by rw [hs.old j i (by omega) hi c hcl]; exact hy) hx' (.inl hyo) (by rw [z98 (by omega)]; exact hcm) hp' (hqe.trans heq)
     subst this; omega
   refine ⟨fun b o' p hb hp' => ?_, fun b b' x x' p p' hx hx' how hp1 hp2 heq => ?_, fun b hb => ?_, fun b p hp' => ?_, fun b o' p hb hown hp' => ?_, hst.rel.base, fun b c hc => ?_, hr.flo⟩
   ·rcases kind b o' p hb hp' with ⟨_, h2, h3⟩ | ⟨h1, h2⟩
    ·exact (hst.rel.objs b o' p h2 h3).ext e1
    ·have hobj := hr.objs b o' p hb h2
     have hbd := hr.bound b p h2
     rw [hst.frame p.block hbd ?_]
     ·exact hobj.ext e2
     ·rintro ⟨c, x, q, hx, hxo, hq, hqe⟩
      obtain ⟨hcl, hcm⟩ := z8l hq
      have := hr.inj c b x o' q p (by rw [hs.old j i (by omega) hi c hcl]; exact hx) hb (.inl hxo) (by rw [z98 (by omega)]; exact hcm) h2 hqe
      subst this; omega
   ·rcases kind b x p hx hp1 with ⟨a1, a2, a3⟩ | ⟨a1, a2⟩ <;> rcases kind b' x' p' hx' hp2 with ⟨b1, b2, b3⟩ | ⟨b1, b2⟩
    ·exact hst.rel.inj b b' x x' p p' a2 b2 how a3 b3 heq
    ·exact absurd heq (mixed b b' x x' p p' hx hx' how a1 a2 a3 b1 b2)
    ·exact absurd heq.symm (mixed b' b x' x p' p hx' hx how.symm b1 b2 b3 a1 a2)
    ·exact hr.inj b b' x x' p p' hx hx' how a2 b2 heq
   ·exact ⟨by unfold cut; rw [if_neg (by omega)], hs.none i hi b hb⟩
   ·obtain ⟨hlt, hmb⟩ := z8l hp'
    by_cases hb1 : b.num < (Ms (j + 1)).next.num
    ·exact hst.rel.bound b p (by rw [← Flo b hb1]; exact hmb)
    ·exact Nat.lt_of_lt_of_le (hr.bound b p (by rw [z98 hlt, ← hout b (by omega)]; exact hmb)) hsize
   ·rcases kind b o' p hb hp' with ⟨_, h2, h3⟩ | ⟨h1, h2⟩
    ·exact hst.rel.low b o' p h2 hown h3
    ·exact hr.low b o' p hb hown h2
   ·obtain ⟨z, hz, hl⟩ := hr.glob b c hc
    exact ⟨z, e2 _ _ hz, hl⟩
 ·-- what is done
  intro i hi o' d ho' hd
  rcases List.mem_cons.1 hi with rfl | hiS
  ·rw [ho] at ho'; cases ho'
   exact ⟨v, heq d hd (by rw [h.size]; exact (hput2 d hd).1), z8c (E1 (i + 1) (by omega) (by omega)) _ _ hv⟩
  ·obtain ⟨u, g1, g2⟩ := h.fin i hiS o' d ho' hd
   have hil := h.sub i hiS
   refine ⟨u, ?_, z8c (E2 (i + 1) (by omega)) _ _ g2⟩
   rw [hne d fun e => hn (by have := hok.one i j o' o d ho' ho hd e; rw [← this]; exact hiS)]
   exact g1
 ·intro t s hts hno
  obtain ⟨u, g1, g2⟩ := h.old t s hts hno
  exact ⟨u, by rw [hne t (hno j o hj ho)]; exact g1, z8c (E2 0 (by omega)) _ _ g2⟩
 ·intro i hi hiS b h1 h2
  have hij : i ≠ j := fun e => hiS (by subst e; simp)
  have : ¬ ((Ms j).next.num ≤ b.num ∧ b.num < (Ms (j + 1)).next.num) := by
   rintro ⟨g1, g2⟩
   by_cases hlt : i < j
   ·have := hs.next (i + 1) j (by omega) (by omega); omega
   ·have := hs.next (j + 1) i (by omega) (by omega); omega
  rw [hout b this]
  exact h.later i hi (fun e => hiS (List.mem_cons_of_mem _ e)) b h1 h2
 ·intro b hb
  have := hs.next 0 j (by omega) (by omega)
  rw [hout b (by omega)]
  exact h.same b hb
 ·intro k hk hko
  rw [hst.frame k (by have := h.below.size; omega) (fun e => hko (h.born k hk (hup k e)))]
  exact h.frame k hk hko
 ·rintro k hk ⟨c, x, q, hx, hxo, hq, hqe⟩
  obtain ⟨hcl, hcm⟩ := z8l hq
  by_cases hc1 : c.num < (Ms (j + 1)).next.num
  ·refine h.born k hk (hup k (hst.born k (by have := h.below.size; omega) ⟨c, x, q, ?_, hxo, ?_, hqe⟩))
   ·rw [← hs.old (j + 1) N (by omega) (Nat.le_refl _) c hc1]; exact hx
   ·rw [← Flo c hc1]; exact hcm
  ·refine h.born k hk ⟨c, x, q, hx, hxo, ?_, hqe⟩
   rw [z98 hcl, ← hout c (by omega)]; exact hcm
 ·intro b p hb hp hlt
  by_cases hr2 : (Ms j).next.num ≤ b.num ∧ b.num < (Ms (j + 1)).next.num
  ·rw [hin b hr2.1 hr2.2] at hp
   exact h.born _ hlt (hup _ (hst.news b p hr2.1 hp (by have := h.below.size; omega)))
  ·rw [hout b hr2] at hp
   exact h.news b p hb hp hlt
 ·intro i hi k hk
  rcases List.mem_cons.1 hi with rfl | hi
  ·exact List.mem_cons_of_mem _ (z8a ho hp h.closed hk)
  ·exact List.mem_cons_of_mem _ (h.closed i hi k hk)
 ·intro i hi
  rcases List.mem_cons.1 hi with rfl | hi
  ·exact hj
  ·exact h.sub i hi
noncomputable def zsw (D : Known) (P : Program) (n : Nat) (all : Array Oper) : List Oper → Tree SV → Mem → Option (Tree SV × Mem)
 | [], σ, M => some (σ, M)
 | o :: r, σ, M => match zbx D P all M σ o with
  | none => none
  | some (s, M1) => match zam σ n o.dst s with
   | none => none
   | some σ1 => zsw D P n all r σ1 M1
theorem ze7 {all : Array Oper} {o : Oper} (hf : zfp o = true) {M M2 M' : Mem} {σ σ2 : Tree SV} {s : SV} (he : zbx D P all M σ o = some (s, M')) (hag : ∀ t ∈ z8d all o, σ.get (Pos.ofNat t) = σ2.get (Pos.ofNat t)) : zbx D P all M2 σ2 o = some (s, M2) := by
 obtain ⟨⟨h1, h2⟩, h3⟩ := zkq (P := P) (all := all) hf (M := M) (M2 := M2) (σ := σ) (σ2 := σ2) fun t ht => hag t (by simp only [z8d, List.mem_append]; exact .inr ht)
 unfold zbx at he ⊢
 rw [h1] at he
 rw [h2]
 rcases h3 with ⟨s', h4, h5⟩ | h4
 ·rw [h4] at he
  simp only [Option.some.injEq, Prod.mk.injEq] at he
  simp only [h5, he.1]
 ·rw [h4] at he
  simp at he
theorem zmi (hNs : N ≤ all.size) (ht : Trace D P n all N 0 Ms σs ss) (k : Nat) : ∀ j, k + j ≤ N → ∀ t, (∀ i o, k ≤ i → i < k + j → all[i]? = some o → o.dst ≠ some t) → (σs (k + j)).get (Pos.ofNat t) = (σs k).get (Pos.ofNat t)
 | 0, _, _, _ => rfl
 | j + 1, hj, t, h => by
  have ho : all[k + j]? = some all[k + j] := Array.getElem?_eq_getElem (by omega)
  obtain ⟨_, hput⟩ := ht.st (k + j) _ (Nat.zero_le _) (by omega) ho
  show (σs (k + j + 1)).get _ = _
  rw [(z8u hput).1 t (h (k + j) _ (by omega) (by omega) ho), zmi hNs ht k j (by omega) t fun i o hi hi' => h i o hi (by omega)]
theorem zme (hD : Sound P B D) {all : Array Oper} (hok : PureOK all) {N : Nat} (htail : ∀ i, N ≤ i → i < all.size → ∀ k, k < i → Before all k i ∨ (k < N ∧ zbc all k = true)) (cx : Cx) (todo : List Item) (fs : List Frame) :
  ∀ (rest : List Nat) {r : List Oper} {i : Nat} {S : List Nat} {m : Map} {M : Mem} {w : World} {σ σ' : Tree SV} {tm : Array Value} {M' : Mem}, N ≤ i → i ≤ all.size → all.toList.drop i = r → zsw D P n all r σ M = some (σ', M') →
   MRel B m M w → (∀ t s, σ.get (Pos.ofNat t) = some s → (∀ (k : Nat) (o : Oper), k < N → k ∉ S → all[k]? = some o → o.dst ≠ some t) → ∃ v, tm[t]? = some v ∧ conc m s = some v) → tm.size = n → Topo all S rest → (∀ k ∈ S, ∀ l, Before all l k → l ∈ S) → (∀ k ∈ S, k < i) → (∀ k, k < i → k ∈ S ∨ (k < N ∧ zbc all k = true)) →
   (∀ (k : Nat) (o : Oper), k < N → k ∉ S → all[k]? = some o → ∃ s, zbx D P all M σ o = some (s, M) ∧ ∀ d, o.dst = some d → σ.get (Pos.ofNat d) = some s ∧ d < n) →
   ∃ m' w' tm', Steps P (lone (mkF cx tm (.inRegion all rest :: todo)) fs w) (lone (mkF cx tm' todo) fs w') ∧ z82 B m M w m' M' w' ∧ za6 m' σ' tm' ∧ tm'.size = n := by
 intro rest
 induction rest with
 | nil =>
  intro r i S m M w σ σ' tm M' hNi hi hd hrun hr hT hn tp hcl hS hS2 hP
  cases tp with
  | nil hall =>
   have hie : i = all.size := by
    apply Classical.byContradiction
    intro e
    have := hS i (hall i (by omega))
    omega
   have hr0 : r = [] := by
    have := congrArg List.length hd
    simp at this
    exact List.eq_nil_of_length_eq_zero (by omega)
   subst hr0
   simp only [zsw, Option.some.injEq, Prod.mk.injEq] at hrun
   obtain ⟨rfl, rfl⟩ := hrun
   refine ⟨m, w, tm, .one (stepR_region_end (P := P) (b := mkF cx tm []) (a := ⟨tm, cx.ds⟩)), .refl hr, fun t s hts => hT t s hts fun k o hk hkS ho => ?_, hn⟩
   exact absurd (hall k (Array.getElem?_eq_some_iff.1 ho).1) hkS
 | cons j rest ih =>
  intro r i S m M w σ σ' tm M' hNi hi hd hrun hr hT hn tp hcl hS hS2 hP
  have htopo := tp
  cases tp with
  | cons hj ho hp tp' =>
  rename_i o
  have hjs := (Array.getElem?_eq_some_iff.1 ho).1
  let ds := ((List.range N).filter (fun k => decide (k ∉ S))).filterMap fun k => (all[k]?).bind (·.dst)
  have hds : ∀ t, t ∈ ds ↔ ∃ k, k < N ∧ k ∉ S ∧ ∃ o', all[k]? = some o' ∧ o'.dst = some t := by
   intro t
   simp only [ds, List.mem_filterMap, List.mem_filter, List.mem_range, decide_eq_true_eq, Option.bind_eq_some_iff]
   constructor
   ·rintro ⟨k, ⟨h1, h2⟩, o', h3, h4⟩; exact ⟨k, h1, h2, o', h3, h4⟩
   ·rintro ⟨k, h1, h2, o', h3, h4⟩; exact ⟨k, ⟨h1, h2⟩, o', h3, h4⟩
  have hag : zdb (z8d all o) σ (erase ds σ) := by
   intro t htr
   rw [z99]
   split
   ·rename_i hin
    obtain ⟨k, h1, h2, o', h3, h4⟩ := (hds t).1 hin
    exact absurd (z8a ho hp hcl (hok.rd k j o o' t ho h3 h4 htr).1) h2
   ·rfl
  have htr : za6 m (erase ds σ) tm := by
   intro t s hts
   rw [z99] at hts
   split at hts
   ·simp at hts
   ·rename_i hin
    exact hT t s hts fun k o' hk hkS h3 h4 => hin ((hds t).2 ⟨k, hk, hkS, o', h3, h4⟩)
  have hcl' : ∀ k ∈ j :: S, ∀ l, Before all l k → l ∈ j :: S := by
   intro k hk l hl
   rcases List.mem_cons.1 hk with rfl | hk
   ·exact List.mem_cons_of_mem _ (z8a ho hp hcl hl)
   ·exact List.mem_cons_of_mem _ (hcl k hk l hl)
  have hevE : ∀ {M0 : Mem} {s : SV} {M1 : Mem}, zbx D P all M0 σ o = some (s, M1) → zbx D P all M0 (erase ds σ) o = some (s, M1) := by
   intro M0 s M1 he
   rw [← he]
   unfold zbx
   rw [z9c hag, z9w (fun t htr => hag t (by simp only [z8d, List.mem_append]; exact .inr htr))]
  by_cases hjN : j < N
  ·-- one that has waited
   obtain ⟨s, he, hdst⟩ := hP j o hjN hj ho
   obtain ⟨m1, w1, v, hst, hv, hsteps⟩ := zdi (P := P) hD hr htr (hevE he) cx ho rest todo fs
   obtain ⟨tm', hpt, hsz, hne, heq⟩ := zb6 (tm := tm) o.dst v
   have hext := hst.ext hr
   obtain ⟨m2, w2, tm2, hs2, hst2, hT2, hn2⟩ := ih hNi hi hd hrun hst.rel (fun t x hx hcond => by
     by_cases hd' : o.dst = some t
     ·obtain ⟨g1, g2⟩ := hdst t hd'
      rw [g1] at hx
      cases hx
      exact ⟨v, heq t hd' (by rw [hn]; exact g2), hv⟩
     ·obtain ⟨u, g1, g2⟩ := hT t x hx fun k o' hk hkS h3 => by
       by_cases e : k = j
       ·subst e
        rw [ho] at h3; cases h3
        exact hd'
       ·exact hcond k o' hk (fun e' => (List.mem_cons.1 e').elim e hkS) h3
      exact ⟨u, by rw [hne t hd']; exact g1, z8c hext _ _ g2⟩) (hsz.trans hn) tp' hcl' (fun k hk => (List.mem_cons.1 hk).elim (fun e => by subst e; omega) (hS k)) (fun k hk => (hS2 k hk).imp (List.mem_cons_of_mem _) id) (fun k o' hk hkS h3 => hP k o' hk (fun e => hkS (List.mem_cons_of_mem _ e)) h3)
   exact ⟨m2, w2, tm2, (hsteps tm' hpt).trans hs2, hst.trans hst2, hT2, hn2⟩
  ·-- the next one of the tail
   have hji : j = i := by
    apply Classical.byContradiction
    intro e
    by_cases hlt : j < i
    ·rcases hS2 j hlt with h | h
     ·exact hj h
     ·omega
    ·rcases htail j (by omega) hjs i (by omega) with h | h
     ·have := hS i (z8a ho hp hcl h)
      omega
     ·omega
   subst hji
   have hd1 : all.toList.drop j = o :: all.toList.drop (j + 1) := by
    have hlt' : j < all.toList.length := by simpa using hjs
    have := List.drop_eq_getElem_cons hlt'
    rw [this]
    have e : all.toList[j] = o := by
     have := (Array.getElem?_eq_some_iff.1 ho).2
     simpa using this
    rw [e]
   rw [hd1] at hd
   subst hd
   simp only [zsw] at hrun
   split at hrun
   ·simp at hrun
   ·rename_i s M1 he
    split at hrun
    ·simp at hrun
    ·rename_i σ1 hput
     obtain ⟨hp1, hp2⟩ := z8u hput
     obtain ⟨m1, w1, v, hst, hv, hsteps⟩ := zdi (P := P) hD hr htr (hevE he) cx ho rest todo fs
     obtain ⟨tm', hpt, hsz, hne, heq⟩ := zb6 (tm := tm) o.dst v
     have hext := hst.ext hr
     obtain ⟨m2, w2, tm2, hs2, hst2, hT2, hn2⟩ := ih (i := j + 1) (by omega) (by omega) rfl hrun hst.rel (fun t x hx hcond => by
       by_cases hd' : o.dst = some t
       ·obtain ⟨g1, g2⟩ := hp2 t hd'
        rw [g2] at hx
        cases hx
        exact ⟨v, heq t hd' (by rw [hn]; exact g1), hv⟩
       ·rw [hp1 t hd'] at hx
        obtain ⟨u, g1, g2⟩ := hT t x hx fun k o' hk hkS h3 => hcond k o' hk (fun e' => (List.mem_cons.1 e').elim (fun e => by omega) hkS) h3
        exact ⟨u, by rw [hne t hd']; exact g1, z8c hext _ _ g2⟩) (hsz.trans hn) tp' hcl' (fun k hk => (List.mem_cons.1 hk).elim (fun e => by omega) (fun h => by have := hS k h; omega)) (fun k hk => by
       by_cases e : k = j
       ·exact .inl (by simp [e])
       ·exact (hS2 k (by omega)).imp (List.mem_cons_of_mem _) id) (fun k o' hk hkS h3 => by
       have hkS' : k ∉ S := fun e => hkS (List.mem_cons_of_mem _ e)
       obtain ⟨s', g1, g2⟩ := hP k o' hk hkS' h3
       have hfr : zfp o' = true := by
        rcases hS2 k (by omega) with h | h
        ·exact absurd h hkS'
        ·have := h.2
         unfold zbc at this
         rw [h3] at this
         exact this
       refine ⟨s', ze7 hfr g1 fun t ht => ?_, fun d hd' => ?_⟩
       ·refine (hp1 t fun e => ?_).symm
        have := (hok.rd j k o' o t h3 ho e ht).2
        omega
       ·obtain ⟨q1, q2⟩ := g2 d hd'
        refine ⟨?_, q2⟩
        rw [hp1 d fun e => ?_]
        ·exact q1
        ·have := hok.one j k o o' d ho h3 e hd'
         omega)
     exact ⟨m2, w2, tm2, (hsteps tm' hpt).trans hs2, hst.trans hst2, hT2, hn2⟩
theorem zpb (hD : Sound P B D) {all : Array Oper} (hok : PureOK all) {N : Nat} (hNs : N ≤ all.size) (htail : ∀ i, N ≤ i → i < all.size → ∀ k, k < i → Before all k i ∨ (k < N ∧ zbc all k = true)) {m : Map} {M : Mem} {w : World} {σ σ1 σ' : Tree SV} {tm : Array Value} {M1 M' : Mem} {rest : List Nat}
  (hrun : zbd D P n all (all.toList.take N) σ M = some (σ1, M1)) (hrun2 : zsw D P n all (all.toList.drop N) σ1 (unlift M.floor M1) = some (σ', M'))
  (hr : MRel B m M w) (hT : za6 m σ tm) (hn : tm.size = n) (topo : Topo all [] rest) (cx : Cx) (todo : List Item) (fs : List Frame) :
  ∃ m' w' tm', Steps P (lone (mkF cx tm (.inRegion all rest :: todo)) fs w) (lone (mkF cx tm' todo) fs w') ∧ z82 B m M w m' M' w' ∧ za6 m' σ' tm' ∧ tm'.size = n := by
 obtain ⟨Ms, σs, ss, ht, rfl, rfl, rfl, rfl⟩ := zbs hNs (all.toList.take N) 0 σ M (Nat.zero_le _) rfl hrun
 have hs := sym (P := P) hD hNs ht hr hT hn
 have hext0 : ∀ b p, m b = some p → b.num < (Ms 0).next.num := by
  intro b p hb
  apply Classical.byContradiction
  intro e
  rw [(hr.fresh b (by omega)).1] at hb
  simp at hb
 have hcut : ∀ i, i ≤ N → cut m (Ms i).next.num = m := by
  intro i hi
  funext b
  unfold cut
  split
  ·rfl
  ·rename_i hb
   have := hs.next 0 i (by omega) hi
   exact ((hr.fresh b (by omega)).1).symm
 have h0 : Inv B all N n Ms σs ss m w m w tm [] := by
  refine ⟨fun i hi => ?_, hn, by simp, fun t s hts _ => by rw [hcut 0 (Nat.zero_le _)]; exact hT t s hts, fun j hj _ b h1 _ => ?_, fun _ _ => rfl, Below.refl _ _, fun _ _ _ => rfl, fun k hk ho => ?_, fun b p hb hp _ => absurd hp (by rw [(hr.fresh b hb).1]; simp), by simp, by simp⟩
  ·rw [hcut i hi]
   have hnx := hs.next 0 i (by omega) hi
   have hg : ∀ b p, m b = some p → (Ms i).t.get b = (Ms 0).t.get b := fun b p hb => hs.old 0 i (by omega) hi b (hext0 b p hb)
   refine ⟨fun b o p hb hp => hr.objs b o p (by rw [← hg b p hp]; exact hb) hp, fun b b' o o' p p' h1 h2 how h3 h4 he => hr.inj b b' o o' p p' (by rw [← hg b p h3]; exact h1) (by rw [← hg b' p' h4]; exact h2) how h3 h4 he,
    fun b hb => ⟨(hr.fresh b (by omega)).1, hs.none i hi b hb⟩, hr.bound, fun b o p hb hown hp => hr.low b o p (by rw [← hg b p hp]; exact hb) hown hp, hr.base, fun b c hc => hr.glob b c (hs.fixes i hi b c hc), hs.flo i hi⟩
  ·have := hs.next 0 j (by omega) (by omega)
   exact (hr.fresh b (by omega)).1
  ·rw [hcut _ (Nat.le_refl _)] at ho
   obtain ⟨c, x, q, hx, hxo, hq, hqe⟩ := ho
   exact ⟨c, x, q, by rw [← hs.old 0 N (by omega) (Nat.le_refl _) c (hext0 c q hq)]; exact hx, hxo, hq, hqe⟩
 have key : ∀ (rest : List Nat) (S : List Nat) (m1 : Map) (w1 : World) (tm1 : Array Value), Inv B all N n Ms σs ss m w m1 w1 tm1 S → Topo all S rest →
   ∃ m' w' tm' S' rest', Steps P (lone (mkF cx tm1 (.inRegion all rest :: todo)) fs w1) (lone (mkF cx tm' (.inRegion all rest' :: todo)) fs w') ∧ Inv B all N n Ms σs ss m w m' w' tm' S' ∧ Topo all S' rest' ∧ ∀ i, i < N → i ∈ S' ∨ zbc all i = true := by
  intro rest
  induction rest with
  | nil =>
   intro S m1 w1 tm1 h tp
   cases tp with
   | nil hall => exact ⟨m1, w1, tm1, S, [], .refl _ _, h, .nil hall, fun i hi => .inl (hall i (by omega))⟩
  | cons j rest ih =>
   intro S m1 w1 tm1 h tp
   by_cases hj : j < N
   ·obtain ⟨m2, w2, tm2, hs2, h2⟩ := h.step (P := P) hD hok hNs ht hs tp hj cx todo fs
    cases tp with
    | cons _ _ _ tp' =>
     obtain ⟨m3, w3, tm3, S3, r3, hs3, h3, tp3, hall⟩ := ih _ _ _ _ h2 tp'
     exact ⟨m3, w3, tm3, S3, r3, hs2.trans hs3, h3, tp3, hall⟩
   ·refine ⟨m1, w1, tm1, S, j :: rest, .refl _ _, h, tp, fun i hi => ?_⟩
    cases tp with
    | cons hjS ho hp _ =>
     rcases htail j (by omega) (Array.getElem?_eq_some_iff.1 ho).1 i (by omega) with hb | hb
     ·exact .inl (z8a ho hp h.closed hb)
     ·exact .inr hb.2
 obtain ⟨m1, w1, tm1, S, rest1, hsteps, h, tp1, hall⟩ := key rest [] m w tm h0 topo
 have hN := hs.next 0 N (Nat.zero_le _) (Nat.le_refl _)
 have hrN := h.rel N (Nat.le_refl _)
 have hst1 : z82 B m (Ms 0) w (cut m1 (Ms N).next.num) (unlift (Ms 0).floor (Ms N)) w1 := by
  refine ⟨⟨hrN.objs, hrN.inj, hrN.fresh, hrN.bound, hrN.low, hrN.base, hrN.glob, ?_⟩, fun b hb => ?_, fun b hb _ => hs.old 0 N (Nat.zero_le _) (Nat.le_refl _) b hb, hN, h.below, h.frame, h.born, fun b hb => ?_, rfl, fun b c hc => hs.fixes N (Nat.le_refl _) b c hc, fun b p hb hp hlt => h.news b p hb (z8l hp).2 hlt⟩
  ·show (Ms 0).floor ≤ (Ms N).next.num
   have := hr.flo
   omega
  ·rw [z98 (by omega)]; exact h.same b hb
  ·have := hr.flo
   exact hs.old 0 N (Nat.zero_le _) (Nat.le_refl _) b (by omega)
 have hT1 : ∀ t s, (σs N).get (Pos.ofNat t) = some s → (∀ (k : Nat) (o : Oper), k < N → k ∉ S → all[k]? = some o → o.dst ≠ some t) → ∃ v, tm1[t]? = some v ∧ conc (cut m1 (Ms N).next.num) s = some v := by
  intro t s hts hcond
  by_cases hex : ∃ (i : Nat) (o' : Oper), i < N ∧ all[i]? = some o' ∧ o'.dst = some t
  ·obtain ⟨i, o', hi, h3, h4⟩ := hex
   have hiS : i ∈ S := by
    apply Classical.byContradiction
    intro e
    exact hcond i o' hi e h3 h4
   rw [(zgj hok hNs ht h3 h4 N hi (Nat.le_refl _)).1] at hts
   cases hts
   obtain ⟨v, g1, g2⟩ := h.fin i hiS o' t h3 h4
   exact ⟨v, g1, z8c (zb4 (hs.next (i + 1) N (by omega) (Nat.le_refl _))) _ _ g2⟩
  ·have hno : ∀ (i : Nat) (o' : Oper), i < N → all[i]? = some o' → o'.dst ≠ some t := fun i o' hi h3 h4 => hex ⟨i, o', hi, h3, h4⟩
   rw [zdx hNs ht N (Nat.le_refl _) t fun i o' hi h3 => hno i o' hi h3] at hts
   obtain ⟨v, g1, g2⟩ := h.old t s hts hno
   exact ⟨v, g1, z8c (zb4 hN) _ _ g2⟩
 have hP1 : ∀ (k : Nat) (o : Oper), k < N → k ∉ S → all[k]? = some o → ∃ s, zbx D P all (unlift (Ms 0).floor (Ms N)) (σs N) o = some (s, unlift (Ms 0).floor (Ms N)) ∧ ∀ d, o.dst = some d → (σs N).get (Pos.ofNat d) = some s ∧ d < n := by
  intro k o hk hkS ho
  obtain ⟨he, hput⟩ := ht.st k o (Nat.zero_le _) hk ho
  have hfr : zfp o = true := by
   rcases hall k hk with e | e
   ·exact absurd e hkS
   ·unfold zbc at e
    rw [ho] at e
    exact e
  refine ⟨ss k, ze7 hfr he fun t htr => ?_, fun d hd => zgj hok hNs ht ho hd N hk (Nat.le_refl _)⟩
  have := zmi hNs ht k (N - k) (by omega) t fun i o' h1 h2 h3 h4 => by
   have := (hok.rd i k o o' t ho h3 h4 htr).2
   omega
  rw [show k + (N - k) = N by omega] at this
  exact this.symm
 obtain ⟨m2, w2, tm2, hs2, hst2, hT2, hn2⟩ := zme (P := P) hD hok htail cx todo fs rest1 (Nat.le_refl N) hNs rfl hrun2 hst1.rel hT1 h.size tp1 h.closed h.sub (fun k hk => (hall k hk).imp id fun e => ⟨hk, e⟩) hP1
 exact ⟨m2, w2, tm2, hsteps.trans hs2, hst1.trans hst2, hT2, hn2⟩
theorem zmk {all : Array Oper} : ∀ (rest : List Nat) {i : Nat} {S : List Nat}, i ≤ all.size → (∀ j, i ≤ j → j < all.size → ∀ k, k < j → Before all k j) → (∀ k, k ∈ S ↔ k < i) → (∀ k ∈ S, ∀ l, Before all l k → l ∈ S) → Topo all S rest → rest = (List.range all.size).drop i
 | [], i, S, hi, _, hS, _, tp => by
  cases tp with
  | nil hall =>
   have : all.size ≤ i := by
    apply Classical.byContradiction
    intro e
    have := (hS i).1 (hall i (by omega))
    omega
   rw [List.drop_eq_nil_of_le (by simpa using this)]
 | j :: rest, i, S, hi, ht, hS, hcl, tp => by
  cases tp with
  | cons hj ho hp tp' =>
   have hjs := (Array.getElem?_eq_some_iff.1 ho).1
   have hji : j = i := by
    apply Classical.byContradiction
    intro e
    have h1 : ¬ j < i := fun h => hj ((hS j).2 h)
    have h2 := ht j (by omega) hjs i (by omega)
    have h3 := z8a ho hp hcl h2
    exact absurd ((hS i).1 h3) (by omega)
   subst hji
   have := zmk rest (i := j + 1) (S := j :: S) (by omega) (fun q h1 h2 => ht q (by omega) h2) (fun k => by rw [List.mem_cons, hS k]; omega) (fun k hk l hl => (List.mem_cons.1 hk).elim (fun e => by subst e; exact List.mem_cons_of_mem _ (z8a ho hp hcl hl)) fun hk => List.mem_cons_of_mem _ (hcl k hk l hl)) tp'
   rw [this]
   have hl : j < (List.range all.size).length := by simpa using hjs
   rw [List.drop_eq_getElem_cons hl]
   simp
theorem zjv (hD : Sound P B D) {all : Array Oper} (hok : PureOK all) {N : Nat} (hNs : N ≤ all.size) (htail : ∀ i, N ≤ i → i < all.size → ∀ k, k < N → Before all k i) {m : Map} {M : Mem} {w : World} {σ σ1 : Tree SV} {tm : Array Value} {M1 : Mem} {rest : List Nat}
  (hrun : zbd D P n all (all.toList.take N) σ M = some (σ1, M1))
  (hr : MRel B m M w) (hT : za6 m σ tm) (hn : tm.size = n) (topo : Topo all [] rest) (cx : Cx) (todo : List Item) (fs : List Frame) :
  ∃ m' w' tm' rest1 S, Steps P (lone (mkF cx tm (.inRegion all rest :: todo)) fs w) (lone (mkF cx tm' (.inRegion all rest1 :: todo)) fs w') ∧ z82 B m M w m' (unlift M.floor M1) w' ∧ za6 m' σ1 tm' ∧ tm'.size = n ∧ Topo all S rest1 ∧ (∀ k, k ∈ S ↔ k < N) ∧ ∀ k ∈ S, ∀ l, Before all l k → l ∈ S := by
 obtain ⟨Ms, σs, ss, ht, rfl, rfl, rfl, rfl⟩ := zbs hNs (all.toList.take N) 0 σ M (Nat.zero_le _) rfl hrun
 have hs := sym (P := P) hD hNs ht hr hT hn
 have hext0 : ∀ b p, m b = some p → b.num < (Ms 0).next.num := by
  intro b p hb
  apply Classical.byContradiction
  intro e
  rw [(hr.fresh b (by omega)).1] at hb
  simp at hb
 have hcut : ∀ i, i ≤ N → cut m (Ms i).next.num = m := by
  intro i hi
  funext b
  unfold cut
  split
  ·rfl
  ·rename_i hb
   have := hs.next 0 i (by omega) hi
   exact ((hr.fresh b (by omega)).1).symm
 have h0 : Inv B all N n Ms σs ss m w m w tm [] := by
  refine ⟨fun i hi => ?_, hn, by simp, fun t s hts _ => by rw [hcut 0 (Nat.zero_le _)]; exact hT t s hts, fun j hj _ b h1 _ => ?_, fun _ _ => rfl, Below.refl _ _, fun _ _ _ => rfl, fun k hk ho => ?_, fun b p hb hp _ => absurd hp (by rw [(hr.fresh b hb).1]; simp), by simp, by simp⟩
  ·rw [hcut i hi]
   have hnx := hs.next 0 i (by omega) hi
   have hg : ∀ b p, m b = some p → (Ms i).t.get b = (Ms 0).t.get b := fun b p hb => hs.old 0 i (by omega) hi b (hext0 b p hb)
   refine ⟨fun b o p hb hp => hr.objs b o p (by rw [← hg b p hp]; exact hb) hp, fun b b' o o' p p' h1 h2 how h3 h4 he => hr.inj b b' o o' p p' (by rw [← hg b p h3]; exact h1) (by rw [← hg b' p' h4]; exact h2) how h3 h4 he,
    fun b hb => ⟨(hr.fresh b (by omega)).1, hs.none i hi b hb⟩, hr.bound, fun b o p hb hown hp => hr.low b o p (by rw [← hg b p hp]; exact hb) hown hp, hr.base, fun b c hc => hr.glob b c (hs.fixes i hi b c hc), hs.flo i hi⟩
  ·have := hs.next 0 j (by omega) (by omega)
   exact (hr.fresh b (by omega)).1
  ·rw [hcut _ (Nat.le_refl _)] at ho
   obtain ⟨c, x, q, hx, hxo, hq, hqe⟩ := ho
   exact ⟨c, x, q, by rw [← hs.old 0 N (by omega) (Nat.le_refl _) c (hext0 c q hq)]; exact hx, hxo, hq, hqe⟩
 have key : ∀ (rest : List Nat) (S : List Nat) (m1 : Map) (w1 : World) (tm1 : Array Value), Inv B all N n Ms σs ss m w m1 w1 tm1 S → Topo all S rest →
   ∃ m' w' tm' S' rest', Steps P (lone (mkF cx tm1 (.inRegion all rest :: todo)) fs w1) (lone (mkF cx tm' (.inRegion all rest' :: todo)) fs w') ∧ Inv B all N n Ms σs ss m w m' w' tm' S' ∧ Topo all S' rest' ∧ ∀ i, i < N → i ∈ S' := by
  intro rest
  induction rest with
  | nil =>
   intro S m1 w1 tm1 h tp
   cases tp with
   | nil hall => exact ⟨m1, w1, tm1, S, [], .refl _ _, h, .nil hall, fun i hi => hall i (by omega)⟩
  | cons j rest ih =>
   intro S m1 w1 tm1 h tp
   by_cases hj : j < N
   ·obtain ⟨m2, w2, tm2, hs2, h2⟩ := h.step (P := P) hD hok hNs ht hs tp hj cx todo fs
    cases tp with
    | cons _ _ _ tp' =>
     obtain ⟨m3, w3, tm3, S3, r3, hs3, h3, tp3, hall⟩ := ih _ _ _ _ h2 tp'
     exact ⟨m3, w3, tm3, S3, r3, hs2.trans hs3, h3, tp3, hall⟩
   ·refine ⟨m1, w1, tm1, S, j :: rest, .refl _ _, h, tp, fun i hi => ?_⟩
    cases tp with
    | cons hjS ho hp _ =>
     exact z8a ho hp h.closed (htail j (by omega) (Array.getElem?_eq_some_iff.1 ho).1 i (by omega))
 obtain ⟨m1, w1, tm1, S, rest1, hsteps, h, tp1, hall⟩ := key rest [] m w tm h0 topo
 have hN := hs.next 0 N (Nat.zero_le _) (Nat.le_refl _)
 have hrN := h.rel N (Nat.le_refl _)
 have hst1 : z82 B m (Ms 0) w (cut m1 (Ms N).next.num) (unlift (Ms 0).floor (Ms N)) w1 := by
  refine ⟨⟨hrN.objs, hrN.inj, hrN.fresh, hrN.bound, hrN.low, hrN.base, hrN.glob, ?_⟩, fun b hb => ?_, fun b hb _ => hs.old 0 N (Nat.zero_le _) (Nat.le_refl _) b hb, hN, h.below, h.frame, h.born, fun b hb => ?_, rfl, fun b c hc => hs.fixes N (Nat.le_refl _) b c hc, fun b p hb hp hlt => h.news b p hb (z8l hp).2 hlt⟩
  ·show (Ms 0).floor ≤ (Ms N).next.num
   have := hr.flo
   omega
  ·rw [z98 (by omega)]; exact h.same b hb
  ·have := hr.flo
   exact hs.old 0 N (Nat.zero_le _) (Nat.le_refl _) b (by omega)
 have hT1 : ∀ t s, (σs N).get (Pos.ofNat t) = some s → (∀ (k : Nat) (o : Oper), k < N → k ∉ S → all[k]? = some o → o.dst ≠ some t) → ∃ v, tm1[t]? = some v ∧ conc (cut m1 (Ms N).next.num) s = some v := by
  intro t s hts hcond
  by_cases hex : ∃ (i : Nat) (o' : Oper), i < N ∧ all[i]? = some o' ∧ o'.dst = some t
  ·obtain ⟨i, o', hi, h3, h4⟩ := hex
   have hiS : i ∈ S := by
    apply Classical.byContradiction
    intro e
    exact hcond i o' hi e h3 h4
   rw [(zgj hok hNs ht h3 h4 N hi (Nat.le_refl _)).1] at hts
   cases hts
   obtain ⟨v, g1, g2⟩ := h.fin i hiS o' t h3 h4
   exact ⟨v, g1, z8c (zb4 (hs.next (i + 1) N (by omega) (Nat.le_refl _))) _ _ g2⟩
  ·have hno : ∀ (i : Nat) (o' : Oper), i < N → all[i]? = some o' → o'.dst ≠ some t := fun i o' hi h3 h4 => hex ⟨i, o', hi, h3, h4⟩
   rw [zdx hNs ht N (Nat.le_refl _) t fun i o' hi h3 => hno i o' hi h3] at hts
   obtain ⟨v, g1, g2⟩ := h.old t s hts hno
   exact ⟨v, g1, z8c (zb4 hN) _ _ g2⟩
 exact ⟨_, w1, tm1, rest1, S, hsteps, hst1, fun t s hts => hT1 t s hts fun k o hk hkS _ => absurd (hall k hk) hkS, h.size, tp1, fun k => ⟨h.sub k, hall k⟩, h.closed⟩
theorem zju (hD : Sound P B D) {all : Array Oper} (hok : PureOK all) {N : Nat} (hNs : N ≤ all.size) (htail : ∀ i, N ≤ i → i < all.size → ∀ k, k < i → Before all k i) {m : Map} {M : Mem} {w : World} {σ σ1 : Tree SV} {tm : Array Value} {M1 : Mem} {rest : List Nat}
  (hrun : zbd D P n all (all.toList.take N) σ M = some (σ1, M1))
  (hr : MRel B m M w) (hT : za6 m σ tm) (hn : tm.size = n) (topo : Topo all [] rest) (cx : Cx) (todo : List Item) (fs : List Frame) :
  ∃ m' w' tm', Steps P (lone (mkF cx tm (.inRegion all rest :: todo)) fs w) (lone (mkF cx tm' (.inRegion all ((List.range all.size).drop N) :: todo)) fs w') ∧ z82 B m M w m' (unlift M.floor M1) w' ∧ za6 m' σ1 tm' ∧ tm'.size = n := by
 obtain ⟨m', w', tm', rest1, S, hsteps, hst1, hT, hn, tp1, hS, hcl⟩ := zjv hD hok hNs (fun i h1 h2 k hk => htail i h1 h2 k (by omega)) hrun hr hT hn topo cx todo fs
 have hrest : rest1 = (List.range all.size).drop N := zmk rest1 hNs htail hS hcl tp1
 subst hrest
 exact ⟨m', w', tm', hsteps, hst1, hT, hn⟩
end
end Go.Ev
