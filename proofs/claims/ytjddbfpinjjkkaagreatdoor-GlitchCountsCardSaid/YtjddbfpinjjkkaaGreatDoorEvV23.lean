/- A part of the small machine. -/
import Derived.Test.YtjddbfpinjjkkaaGreatDoorEvV19
set_option linter.unusedVariables false
namespace Go.Ev
open Go.RowKit
variable {P : Program}
def z9u (o : Oper) : List Nat := o.after.toList.filterMap fun e => if Region.binds .any e then some e.on else none
inductive Before (ops : Array Oper) : Nat → Nat → Prop
 | dir {k i : Nat} {o : Oper} : ops[i]? = some o → k ∈ z9u o → Before ops k i
 | trans {k j i : Nat} : Before ops k j → Before ops j i → Before ops k i
inductive Topo (ops : Array Oper) : List Nat → List Nat → Prop
 | nil {S} : (∀ i, i < ops.size → i ∈ S) → Topo ops S []
 | cons {S j rest o} : j ∉ S → ops[j]? = some o → (∀ k ∈ z9u o, k ∈ S) → Topo ops (j :: S) rest → Topo ops S (j :: rest)
def z9s (ops : Array Oper) : Bool := ops.toList.zipIdx.all fun (o, i) => (z9u o).all fun k => Nat.blt k i
theorem zcr {ops : Array Oper} (h : z9s ops = true) {i k : Nat} {o : Oper} (ho : ops[i]? = some o) (hk : k ∈ z9u o) : k < i := by
 unfold z9s at h
 rw [List.all_eq_true] at h
 have hm : (o, i) ∈ ops.toList.zipIdx := by
  rw [List.mem_zipIdx_iff_getElem?]
  simpa using ho
 have := h _ hm
 simp only [List.all_eq_true] at this
 exact Nat.lt_of_succ_le (Nat.le_of_ble_eq_true (this k hk))
theorem zjy {ops : Array Oper} {listed : Array Bool} {S : List Nat} (hS : ∀ i, i < ops.size → (listed.getD i false = true ↔ i ∈ S)) (hf : z9s ops = true) {i : Nat} {o : Oper} (ho : ops[i]? = some o) :
  (o.after.all fun e => !Region.binds .any e || listed.getD e.on false) = true ↔ ∀ k ∈ z9u o, k ∈ S := by
 have hi : i < ops.size := (Array.getElem?_eq_some_iff.1 ho).1
 rw [← Array.all_toList, List.all_eq_true]
 constructor
 ·intro h k hk
  simp only [z9u, List.mem_filterMap] at hk
  obtain ⟨e, he, hb⟩ := hk
  split at hb
  ·rename_i hbind
   simp only [Option.some.injEq] at hb
   subst hb
   have := h e he
   simp only [hbind, Bool.not_true, Bool.false_or] at this
   have hlt := zcr hf ho (k := e.on) (by simp only [z9u, List.mem_filterMap]; exact ⟨e, he, by simp [hbind]⟩)
   exact (hS e.on (by omega)).1 this
  ·simp at hb
 ·intro h e he
  cases hbind : Region.binds .any e with
  | false => rfl
  | true =>
   have hk : e.on ∈ z9u o := by simp only [z9u, List.mem_filterMap]; exact ⟨e, he, by simp [hbind]⟩
   have hlt := zcr hf ho hk
   have := (hS e.on (by omega)).2 (h e.on hk)
   rw [this]; rfl
def zfu (n : Nat) (S : List Nat) : Nat := ((List.range n).filter fun i => decide (i ∉ S)).length
theorem zmu (p q : Nat → Bool) (j : Nat) (hp : p j = false) (hq : q j = true) (h : ∀ a, a ≠ j → p a = q a) : ∀ l : List Nat, (l.filter p).length + (if j ∈ l then 1 else 0) ≤ (l.filter q).length := by
 intro l
 induction l with
 | nil => simp
 | cons a l ih =>
  by_cases ha : a = j
  ·subst ha
   rw [List.filter_cons_of_neg (by simp [hp]), List.filter_cons_of_pos (by simp [hq]), if_pos (by simp), List.length_cons]
   split at ih <;> omega
  ·have e2 : (j ∈ a :: l) = (j ∈ l) := by simp [Ne.symm ha]
   simp only [e2]
   cases hqa : q a with
   | true =>
    rw [List.filter_cons_of_pos (by rw [h a ha, hqa]), List.filter_cons_of_pos hqa, List.length_cons, List.length_cons]
    omega
   | false =>
    rw [List.filter_cons_of_neg (by rw [h a ha, hqa]; simp), List.filter_cons_of_neg (by rw [hqa]; simp)]
    exact ih
theorem zfv {n j : Nat} {S : List Nat} (hj : j < n) (hS : j ∉ S) : zfu n (j :: S) + 1 ≤ zfu n S := by
 unfold zfu
 have := zmu (fun i => decide (i ∉ j :: S)) (fun i => decide (i ∉ S)) j (by simp) (by simp [hS]) (fun a ha => by simp [ha]) (List.range n)
 rw [if_pos (by simpa using hj)] at this
 exact this
theorem zoq {ops : Array Oper} (hf : z9s ops = true) : ∀ (fuel t : Nat) (listed : Array Bool) (acc S : List Nat), listed.size = ops.size → (∀ i, i < ops.size → (listed.getD i false = true ↔ i ∈ S)) → zfu ops.size S ≤ fuel →
  ∃ s, Region.linearise.go .any ops fuel t listed acc = acc.reverse ++ s ∧ Topo ops S s
 | 0, t, listed, acc, S, hsz, hS, hl => by
  refine ⟨[], by simp [Region.linearise.go], .nil fun i hi => ?_⟩
  apply Classical.byContradiction
  intro hn
  have : zfu ops.size (i :: S) + 1 ≤ zfu ops.size S := zfv hi hn
  omega
 | fuel + 1, t, listed, acc, S, hsz, hS, hl => by
  simp only [Region.linearise.go]
  generalize hrs : ((List.range ops.size).filter fun i => !listed.getD i true && ((ops[i]?).map fun o => o.after.all fun e => !Region.binds .any e || listed.getD e.on false).getD false) = rs
  have hmem : ∀ i, i ∈ rs ↔ i < ops.size ∧ i ∉ S ∧ ∃ o, ops[i]? = some o ∧ ∀ k ∈ z9u o, k ∈ S := by
   intro i
   rw [← hrs, List.mem_filter, List.mem_range]
   constructor
   ·rintro ⟨hi, hb⟩
    rw [Bool.and_eq_true] at hb
    have ho : ops[i]? = some ops[i] := Array.getElem?_eq_getElem hi
    rw [ho] at hb
    simp only [Option.map_some, Option.getD_some] at hb
    refine ⟨hi, fun hin => ?_, ops[i], ho, (zjy hS hf ho).1 hb.2⟩
    have := (hS i hi).2 hin
    have h1 := hb.1
    rw [Array.getD_eq_getD_getElem?, Array.getElem?_eq_getElem (by omega)] at h1 this
    simp only [Option.getD_some] at h1 this
    rw [this] at h1
    simp at h1
   ·rintro ⟨hi, hn, o, ho, hk⟩
    refine ⟨hi, ?_⟩
    rw [ho]
    simp only [Option.map_some, Option.getD_some]
    rw [(zjy hS hf ho).2 hk, Bool.and_true]
    have hne : ¬ listed.getD i false = true := fun h => hn ((hS i hi).1 h)
    rw [Array.getD_eq_getD_getElem?, Array.getElem?_eq_getElem (by omega)] at hne ⊢
    simp only [Option.getD_some] at hne ⊢
    simpa using hne
  split
  ·rename_i i hi
   have him : i ∈ rs := List.mem_of_getElem? hi
   obtain ⟨hlt, hn, o, ho, hk⟩ := (hmem i).1 him
   obtain ⟨s, hs, ht⟩ := zoq hf fuel (t / rs.length) (listed.setIfInBounds i true) (i :: acc) (i :: S) (by simpa using hsz) (fun j hj => by
    rw [Array.getD_eq_getD_getElem?, Array.getElem?_setIfInBounds]
    by_cases hij : i = j
    ·subst hij; simp [hsz, hlt]
    ·rw [if_neg hij, ← Array.getD_eq_getD_getElem?, hS j hj]
     simp [Ne.symm hij]) (by have := zfv hlt hn; omega)
   exact ⟨i :: s, by rw [hs]; simp, .cons hn ho hk ht⟩
  ·rename_i hnone
   have hempty : rs = [] := by
    cases rs with
    | nil => rfl
    | cons a l =>
     exfalso
     have : t % (a :: l).length < (a :: l).length := Nat.mod_lt _ (by simp)
     rw [List.getElem?_eq_getElem this] at hnone
     simp at hnone
   refine ⟨[], by simp, .nil fun i hi => ?_⟩
   have key : ∀ n i, i < n → i < ops.size → i ∈ S := by
    intro n
    induction n with
    | zero => intro i h; omega
    | succ n ih =>
     intro i h hi
     apply Classical.byContradiction
     intro hn
     have ho : ops[i]? = some ops[i] := Array.getElem?_eq_getElem hi
     have : i ∈ rs := (hmem i).2 ⟨hi, hn, ops[i], ho, fun k hk => ih k (by have := zcr hf ho hk; omega) (by have := zcr hf ho hk; omega)⟩
     rw [hempty] at this
     simp at this
   exact key (i + 1) i (by omega) hi
theorem z92 {ops : Array Oper} (hf : z9s ops = true) (t : Nat) : Topo ops [] (Region.schedule true ops t) := by
 simp only [Region.schedule, Bool.true_or, if_true, Region.linearise]
 obtain ⟨s, hs, ht⟩ := zoq hf ops.size t (Array.replicate ops.size false) [] [] (by simp) (fun i hi => by simp [Array.getD_eq_getD_getElem?, hi]) (by
  unfold zfu
  exact Nat.le_trans (List.length_filter_le _ _) (by simp))
 rw [hs]
 simpa using ht
end Go.Ev
namespace Go.Ev
open Go.RowKit
variable {P : Program}
inductive PE where
 | fl (i : Nat)
 | an (i : Nat) (L : List Nat)
 | sync
def zp3 (acc : List Nat) (o : Oper) : Nat := (z9u o).foldl (fun s k => (s ||| 2 ^ k) ||| acc.getD k 0) 0
def z94 (ops : List Oper) : List Nat := ops.foldl (fun acc o => acc ++ [zp3 acc o]) []
theorem zeq (acc : List Nat) (j : Nat) : ∀ (l : List Nat) (s : Nat), (l.foldl (fun s k => (s ||| 2 ^ k) ||| acc.getD k 0) s).testBit j = true → s.testBit j = true ∨ ∃ k ∈ l, j = k ∨ (acc.getD k 0).testBit j = true
 | [], s, h => .inl h
 | k :: l, s, h => by
  rcases zeq acc j l _ h with h1 | ⟨k', hk', h1⟩
  ·rw [Nat.testBit_or, Nat.testBit_or, Bool.or_eq_true, Bool.or_eq_true] at h1
   rcases h1 with (h1 | h1) | h1
   ·exact .inl h1
   ·rw [Nat.testBit_two_pow] at h1
    have hkj : k = j := by simpa using h1
    exact .inr ⟨k, by simp, .inl hkj.symm⟩
   ·exact .inr ⟨k, by simp, .inr h1⟩
  ·exact .inr ⟨k', by simp [hk'], h1⟩
theorem zh9 (l : List Oper) (o : Oper) : z94 (l ++ [o]) = z94 l ++ [zp3 (z94 l) o] := by simp [z94, List.foldl_append]
theorem zjo (n : Nat) : ∀ l : List Oper, l.length = n → (z94 l).length = n := by
 induction n with
 | zero => intro l h; have : l = [] := List.eq_nil_of_length_eq_zero h; subst this; rfl
 | succ n ih =>
  intro l h
  have hl : l = l.take n ++ [l[n]'(by omega)] := by
   rw [List.take_append_getElem]
   rw [List.take_of_length_le (by omega)]
  rw [hl, zh9, List.length_append, ih _ (by rw [List.length_take]; omega)]
  rfl
theorem zjn {ops : Array Oper} : ∀ n, n ≤ ops.size → ∀ i, i < n → ∀ k, ((z94 (ops.toList.take n)).getD i 0).testBit k = true → Before ops k i := by
 intro n
 induction n with
 | zero => intro _ i hi; omega
 | succ n ih =>
  intro hn i hi k hk
  have hlt : n < ops.toList.length := by rw [Array.length_toList]; omega
  have hl : ops.toList.take (n + 1) = ops.toList.take n ++ [ops.toList[n]] := (List.take_append_getElem hlt).symm
  have hlen : (z94 (ops.toList.take n)).length = n := zjo n _ (by rw [List.length_take]; omega)
  rw [hl, zh9, List.getD_eq_getElem?_getD] at hk
  by_cases hin : i < n
  ·rw [List.getElem?_append_left (by omega), ← List.getD_eq_getElem?_getD] at hk
   exact ih (by omega) i hin k hk
  ·have hi' : i = n := by omega
   subst hi'
   rw [List.getElem?_append_right (by omega), hlen, Nat.sub_self] at hk
   simp only [List.getElem?_cons_zero, Option.getD_some, zp3] at hk
   have ho : ops[i]? = some ops.toList[i] := by
    rw [Array.getElem?_eq_getElem (by simpa using hlt)]
    simp
   rcases zeq _ _ _ _ hk with h | ⟨j, hj, h⟩
   ·simp at h
   ·rcases h with rfl | h
    ·exact .dir ho hj
    ·by_cases hji : j < i
     ·exact .trans (ih (by omega) j hji k h) (.dir ho hj)
     ·rw [List.getD_eq_getElem?_getD, List.getElem?_eq_none (by omega)] at h
      simp at h
def zhw (ms : List Nat) (k i : Nat) : Bool := (ms.getD i 0).testBit k
theorem z8o {ops : Array Oper} {k i : Nat} (hi : i < ops.size) (h : zhw (z94 ops.toList) k i = true) : Before ops k i := by
 have := zjn (ops := ops) ops.size (Nat.le_refl _) i hi k
 rw [List.take_of_length_le (by simp)] at this
 exact this h
def zlw (l : List Nat) (n : Nat) : Bool := l.any (Nat.beq n)
theorem z8t {l : List Nat} {n : Nat} : zlw l n = true ↔ n ∈ l := by
 simp only [zlw, List.any_eq_true]
 constructor
 ·rintro ⟨x, hx, he⟩; rw [Nat.eq_of_beq_eq_true he]; exact hx
 ·intro h; exact ⟨n, h, by simp⟩
def zbq (l : List Nat) (d : Option Tmp) : Bool := match d with
 | some x => zlw l x
 | none => false
def zau (a b : Option Tmp) : Bool := match a, b with
 | some x, some y => Nat.beq x y
 | _, _ => false
noncomputable def zav (P : Program) (ops : Array Oper) (ms : List Nat) : List PE → List Nat → List Nat → Bool
 | [], E, _ => (List.range ops.size).all (zlw E)
 | .fl i :: r, E, Q => match ops[i]? with
  | none => false
  | some o => !zlw E i && z9r P o.op && !zbq (z8d ops o) o.dst && Q.all (fun q => match ops[q]? with
    | none => false
    | some p => (!zbq (z8d ops o) p.dst || zhw ms q i) && !zbq (z8d ops p) o.dst && !zau o.dst p.dst)
   && zav P ops ms r (i :: E) (i :: Q)
 | .an a L :: r, E, Q => match ops[a]? with
  | none => false
  | some o => !zlw E a && (List.range ops.size).all (fun j => zlw E j || Nat.beq j a || match ops[j]? with
     | none => true
     | some p => (z9u p).any fun k => !zlw E k)
   && Q.all (fun q => zhw ms q a || zlw L q)
   && L.all (fun q => zlw Q q && match ops[q]? with
    | none => false
    | some p => !zbq (z8d ops o) p.dst && !zau o.dst p.dst)
   && zav P ops ms r (a :: E) L
 | .sync :: r, E, Q => (List.range ops.size).all (fun j => zlw E j || Q.all fun q => zhw ms q j) && zav P ops ms r E []
noncomputable def zd0 (P : Program) (all : Array Oper) (M : Mem) (σ : Tree SV) (o : Oper) : Option SV :=
 match z8e all σ o with
 | none => none
 | some false => some (.tuple [])
 | some true => match exec P M σ o with
  | .val s _ => some s
  | _ => none
noncomputable def zpl (P : Program) (all : Array Oper) (M : Mem) (σ : Tree SV) (q : Nat) : Bool :=
 match all[q]? with
 | none => false
 | some o => match zd0 P all M σ o with
  | none => false
  | some s => match o.dst with
   | none => true
   | some d => match σ.get (Pos.ofNat d) with
    | none => false
    | some s' => z8x s s'
noncomputable def z8g (P : Program) (all : Array Oper) (M : Mem) (σ : Tree SV) : List Nat → Bool
 | [] => true
 | q :: l => match zpl P all M σ q with
  | true => z8g P all M σ l
  | false => false
noncomputable def zgw (D : Known) (P : Program) (n : Nat) (all : Array Oper) : List PE → Tree SV → Mem → Option (Tree SV × Mem)
 | [], σ, M => some (σ, M)
 | .sync :: r, σ, M => zgw D P n all r σ M
 | .fl i :: r, σ, M => match all[i]? with
  | none => none
  | some o => match zd0 P all M σ o with
   | none => none
   | some s => match zam σ n o.dst s with
    | none => none
    | some σ => zgw D P n all r σ M
 | .an i L :: r, σ, M => match all[i]? with
  | none => none
  | some o => match (match z8e all σ o with
    | none => none
    | some false => some (.tuple [], M)
    | some true => match exec P M σ o with
     | .bad => none
     | .val s M => some (s, M)
     | .enter f as M => D f as M
     | .round _ _ _ => none : Option (SV × Mem)) with
   | none => none
   | some (s, M) => match zam σ n o.dst s with
    | none => none
    | some σ => match z8g P all M σ L with
     | false => none
     | true => zgw D P n all r σ M
end Go.Ev
namespace Go.Ev
open Go.RowKit
variable {P : Program} {D : Known}
section
variable {B : Nat} {m : Map} {M : Mem} {w : World} {σ : Tree SV} {tm : Array Value}
theorem zio {cx : Cx} {all : Array Oper} {i : Nat} {rest : List Nat} {o : Oper} {todo : List Item} {fs : List Frame} {x : Next} {w' : World} {m' : Map} {s : SV}
  (ho : all[i]? = some o) (hw : Region.wanted o (yielded all tm) = true) (hrun : (execOp (den tm) o).run P w = .ok x w') (hx : Nx m' s x) (hnd : ∀ c, o.op ≠ .defer c) :
  ∃ v, conc m' s = some v ∧ ∀ tm', (∀ ds, Act.put ⟨tm, ds⟩ o.dst v = ⟨tm', ds⟩) →
   step P (lone (mkF cx tm (.inRegion all (i :: rest) :: todo)) fs w) = .next (lone (mkF cx tm' (.inRegion all rest :: todo)) fs w') := by
 have hg := stepGR_op (P := P) (b := mkF cx tm []) (a := ⟨tm, cx.ds⟩) (k := todo) (cs := fs) (w := w) (ops := all) (i := i) (rest := rest) ho hw
 rw [Oper.semAt_eq _ _ _ hnd, z96] at hg
 have hv : ∃ v, (x = .value v ∨ x = .skip ∧ v = undef) ∧ conc m' s = some v := by
  cases x with
  | value v => exact ⟨v, .inl rfl, hx⟩
  | skip => exact ⟨undef, .inr ⟨rfl, rfl⟩, by have : s = .tuple [] := hx; subst this; simp [conc, concs, undef]⟩
  | _ => exact hx.elim
 obtain ⟨v, hxv, hv⟩ := hv
 refine ⟨v, hv, fun tm' hp => ?_⟩
 have hfin : (mkF cx tm (.inRegion all (i :: rest) :: todo)).finish v = mkF cx tm' (.inRegion all rest :: todo) := by
  have := Frame.finish_atR (mkF cx tm []) ⟨tm, cx.ds⟩ all i rest todo v
  rw [ho, Option.bind_some, hp] at this
  exact this
 refine step_lone_go ?_
 rw [← hfin]
 rcases hxv with rfl | ⟨rfl, rfl⟩
 ·exact (congrArg GStep.bare hg).trans (by simp [stepG.apply, hrun]; rfl)
 ·exact (congrArg GStep.bare hg).trans (by simp [stepG.apply, hrun]; rfl)
theorem zb6 (d : Option Tmp) (v : Value) : ∃ tm', (∀ ds, Act.put ⟨tm, ds⟩ d v = ⟨tm', ds⟩) ∧ tm'.size = tm.size ∧ (∀ t, d ≠ some t → tm'[t]? = tm[t]?) ∧ (∀ t, d = some t → t < tm.size → tm'[t]? = some v) := by
 cases d with
 | none => exact ⟨tm, fun _ => rfl, rfl, fun _ _ => rfl, fun t h => by simp at h⟩
 | some d =>
  refine ⟨tm.setIfInBounds d v, fun _ => rfl, by simp, fun t h => ?_, fun t h hl => ?_⟩
  ·exact Array.getElem?_setIfInBounds_ne (fun e => h (by rw [e]))
  ·cases h; simp [hl]
def zmo (P : Program) (all : Array Oper) (M : Mem) (σ : Tree SV) (q : Nat) : Prop :=
 ∃ o s, all[q]? = some o ∧ zd0 P all M σ o = some s ∧ ∀ d, o.dst = some d → σ.get (Pos.ofNat d) = some s
theorem zl7 {all : Array Oper} {q : Nat} (h : zpl P all M σ q = true) : zmo P all M σ q := by
 unfold zpl at h
 split at h
 ·simp at h
 ·rename_i o ho
  split at h
  ·simp at h
  ·rename_i s hs
   refine ⟨o, s, ho, hs, fun d hd => ?_⟩
   rw [hd] at h
   simp only at h
   split at h
   ·simp at h
   ·rename_i s' hs'
    rw [zey _ _ h]
    exact hs'
theorem z9l {all : Array Oper} : ∀ {l : List Nat}, z8g P all M σ l = true → ∀ q ∈ l, zmo P all M σ q
 | a :: l, h, q, hq => by
  simp only [z8g] at h
  split at h
  ·rename_i h1
   rcases List.mem_cons.1 hq with rfl | hm
   ·exact zl7 h1
   ·exact z9l h q hm
  ·simp at h
structure Mid (P : Program) (B : Nat) (all : Array Oper) (n : Nat) (m : Map) (M : Mem) (w : World) (σ : Tree SV) (tm : Array Value) (S rest E Q : List Nat) : Prop where
 mem : MRel B m M w
 size : tm.size = n
 topo : Topo all S rest
 closed : ∀ i ∈ S, ∀ k, Before all k i → k ∈ S
 sub : ∀ i ∈ S, i ∈ E
 pend : ∀ i ∈ E, i ∉ S → i ∈ Q
 pd : ∀ i ∈ E, i ∉ S → zmo P all M σ i
 rel : ∀ t s, σ.get (Pos.ofNat t) = some s → (∀ i ∈ E, i ∉ S → ∀ o, all[i]? = some o → o.dst ≠ some t) → ∃ v, tm[t]? = some v ∧ conc m s = some v
 qr : ∀ p ∈ Q, ∀ q ∈ Q, p ≠ q → ∀ o o', all[p]? = some o → all[q]? = some o' → zbq (z8d all o) o'.dst = true → Before all q p
 qf : ∀ q ∈ Q, ∀ o, all[q]? = some o → z9r P o.op = true ∧ zbq (z8d all o) o.dst = false
 dn : ∀ i ∈ E, ∀ o d, all[i]? = some o → o.dst = some d → d < n
theorem z8a {all : Array Oper} {S : List Nat} {j : Nat} {o : Oper} (ho : all[j]? = some o) (hp : ∀ k ∈ z9u o, k ∈ S) (hc : ∀ i ∈ S, ∀ k, Before all k i → k ∈ S) {q : Nat} (h : Before all q j) : q ∈ S := by
 induction h with
 | dir h1 h2 => rw [ho] at h1; cases h1; exact hp _ h2
 | trans h1 h2 _ ih2 => exact hc _ (ih2 ho) _ h1
noncomputable def erase (ds : List Nat) (σ : Tree SV) : Tree SV := ds.foldl (fun σ d => σ.put none (Pos.ofNat d)) σ
theorem z99 : ∀ (ds : List Nat) (σ : Tree SV) (t : Nat), (erase ds σ).get (Pos.ofNat t) = if t ∈ ds then none else σ.get (Pos.ofNat t)
 | [], σ, t => by simp [erase]
 | d :: ds, σ, t => by
  show (erase ds (σ.put none (Pos.ofNat d))).get (Pos.ofNat t) = _
  rw [z99 ds]
  by_cases h : t ∈ ds
  ·simp [h]
  ·by_cases hd : d = t
   ·subst hd; simp [h, Tree.get_put_same]
   ·rw [if_neg h, Tree.get_put_other _ _ (fun e => hd (Pos.ofNat_inj e))]
    simp [h, Ne.symm hd]
theorem zfr {l : List Nat} {d : Nat} : zbq l (some d) = true ↔ d ∈ l := z8t
theorem Mid.part {all : Array Oper} {n : Nat} {S rest E Q : List Nat} (h : Mid P B all n m M w σ tm S rest E Q) {j : Nat} {o : Oper} (ho : all[j]? = some o) (hread : ∀ i ∈ E, i ∉ S → ∀ o', all[i]? = some o' → zbq (z8d all o) o'.dst = false) :
  ∃ σr, za6 m σr tm ∧ z8e all σ o = z8e all σr o ∧ exec P M σ o = exec P M σr o := by
 let ds := (E.filter (fun i => decide (i ∉ S))).filterMap fun i => (all[i]?).bind (·.dst)
 have hds : ∀ t, t ∈ ds ↔ ∃ i ∈ E, i ∉ S ∧ ∃ o', all[i]? = some o' ∧ o'.dst = some t := by
  intro t
  simp only [ds, List.mem_filterMap, List.mem_filter, decide_eq_true_eq, Option.bind_eq_some_iff]
  constructor
  ·rintro ⟨i, ⟨h1, h2⟩, o', h3, h4⟩; exact ⟨i, h1, h2, o', h3, h4⟩
  ·rintro ⟨i, h1, h2, o', h3, h4⟩; exact ⟨i, ⟨h1, h2⟩, o', h3, h4⟩
 have hag : zdb (z8d all o) σ (erase ds σ) := by
  intro t ht
  rw [z99]
  split
  ·rename_i hin
   obtain ⟨i, h1, h2, o', h3, h4⟩ := (hds t).1 hin
   have := hread i h1 h2 o' h3
   rw [h4] at this
   exact absurd (zfr.2 ht) (by simp [this])
  ·rfl
 refine ⟨erase ds σ, fun t s hs => ?_, z9c hag, z9w (fun t ht => hag t (by simp only [z8d, List.mem_append]; exact .inr ht))⟩
 rw [z99] at hs
 split at hs
 ·simp at hs
 ·rename_i hin
  exact h.rel t s hs fun i h1 h2 o' h3 h4 => hin ((hds t).2 ⟨i, h1, h2, o', h3, h4⟩)
theorem Mid.wait {all : Array Oper} {n : Nat} {S rest E Q : List Nat} {j : Nat} (h : Mid P B all n m M w σ tm S (j :: rest) E Q) (hj : j ∈ E) (cx : Cx) (todo : List Item) (fs : List Frame) :
  ∃ m' w' tm', step P (lone (mkF cx tm (.inRegion all (j :: rest) :: todo)) fs w) = .next (lone (mkF cx tm' (.inRegion all rest :: todo)) fs w') ∧ Mid P B all n m' M w' σ tm' (j :: S) rest E Q ∧ z82 B m M w m' M w' := by
 have htopo := h.topo
 cases htopo with
 | cons hn ho hp ht =>
 rename_i o
 have hjQ := h.pend j hj hn
 obtain ⟨hfl, hself⟩ := h.qf j hjQ o ho
 obtain ⟨o', s, ho', hev, hdst⟩ := h.pd j hj hn
 rw [ho] at ho'; cases ho'
 obtain ⟨σr, htr, hwr, her⟩ := h.part ho (fun i hi hiS o' ho' => by
  by_cases hij : i = j
  ·subst hij; rw [ho] at ho'; cases ho'; exact hself
  ·cases hin : zbq (z8d all o) o'.dst with
   | false => rfl
   | true => exact absurd (z8a ho hp h.closed (h.qr j hjQ i (h.pend i hi hiS) (Ne.symm hij) o o' ho ho' hin)) hiS)
 have key : ∀ (m' : Map) (w' : World) (v : Value) (tm' : Array Value), z82 B m M w m' M w' → conc m' s = some v → (∀ ds, Act.put ⟨tm, ds⟩ o.dst v = ⟨tm', ds⟩) → tm'.size = tm.size → (∀ t, o.dst ≠ some t → tm'[t]? = tm[t]?) → (∀ t, o.dst = some t → t < tm.size → tm'[t]? = some v) →
   Mid P B all n m' M w' σ tm' (j :: S) rest E Q := by
  intro m' w' v tm' hs hv _ hsz hne heq
  refine ⟨hs.rel, hsz.trans h.size, ht, ?_, ?_, ?_, ?_, ?_, h.qr, h.qf, h.dn⟩
  ·intro i hi k hk
   rcases List.mem_cons.1 hi with rfl | hi
   ·exact List.mem_cons_of_mem _ (z8a ho hp h.closed hk)
   ·exact List.mem_cons_of_mem _ (h.closed i hi k hk)
  ·intro i hi
   rcases List.mem_cons.1 hi with rfl | hi
   ·exact hj
   ·exact h.sub i hi
  ·intro i hi hiS
   exact h.pend i hi (fun e => hiS (List.mem_cons_of_mem _ e))
  ·intro i hi hiS
   exact h.pd i hi (fun e => hiS (List.mem_cons_of_mem _ e))
  ·intro t x hx hcond
   by_cases hd : o.dst = some t
   ·have := hdst t hd
    rw [this] at hx
    cases hx
    exact ⟨v, heq t hd (by rw [h.size]; exact h.dn j hj o t ho hd), hv⟩
   ·obtain ⟨u, h1, h2⟩ := h.rel t x hx fun i hi hiS o' ho' hd' => by
     by_cases hij : i = j
     ·subst hij; rw [ho] at ho'; cases ho'; exact hd hd'
     ·exact hcond i hi (fun e => (List.mem_cons.1 e).elim hij hiS) o' ho' hd'
    exact ⟨u, by rw [hne t hd]; exact h1, z8c (hs.ext h.mem) _ _ h2⟩
 unfold zd0 at hev
 split at hev
 ·simp at hev
 ·rename_i hw
  simp only [Option.some.injEq] at hev
  subst hev
  rw [hwr] at hw
  have hw' := z95 hw htr
  obtain ⟨tm', hp', hsz, hne, heq⟩ := zb6 (tm := tm) o.dst undef
  have hst := stepR_op_skip (P := P) (b := mkF cx tm []) (a := ⟨tm, cx.ds⟩) (k := todo) (cs := fs) (w := w) (ops := all) (i := j) (rest := rest) (by simp [ho, hw'])
  rw [ho, Option.bind_some, hp'] at hst
  exact ⟨m, w, tm', hst, key m w undef tm' (.refl h.mem) (by simp [conc, concs, undef]) hp' hsz hne heq, .refl h.mem⟩
 ·rename_i hw
  rw [hwr] at hw
  have hw' := z95 hw htr
  split at hev
  ·rename_i s' M1 he
   simp only [Option.some.injEq] at hev
   subst hev
   have hM : M1 = M := by
    have := zjb (P := P) (M := M) (σ := σ) hfl
    rw [he] at this
    exact this
   subst hM
   have hd := zaf (P := P) h.mem htr o
   rw [← her, he] at hd
   obtain ⟨x, m', w', hrun, hx, hst⟩ := hd
   obtain ⟨v, hv, hstep⟩ := zio (P := P) (cx := cx) (rest := rest) (todo := todo) (fs := fs) ho hw' hrun hx (za7 (P := P) (M := M1) (σ := σ) (by rw [he]; simp))
   obtain ⟨tm', hp', hsz, hne, heq⟩ := zb6 (tm := tm) o.dst v
   exact ⟨m', w', tm', hstep tm' hp', key m' w' v tm' hst hv hp' hsz hne heq, hst⟩
  ·simp at hev
theorem Mid.upto {all : Array Oper} {n : Nat} {E Q : List Nat} {a : Nat} (ha : a < all.size) (haE : a ∉ E) (hst : ∀ j o, all[j]? = some o → j ∉ E → j ≠ a → ∃ k ∈ z9u o, k ∉ E) (cx : Cx) (todo : List Item) (fs : List Frame) :
  ∀ (rest : List Nat) {S : List Nat} {m : Map} {w : World} {tm : Array Value}, Mid P B all n m M w σ tm S rest E Q →
   ∃ m' w' tm' S' rest', Steps P (lone (mkF cx tm (.inRegion all rest :: todo)) fs w) (lone (mkF cx tm' (.inRegion all (a :: rest') :: todo)) fs w') ∧ Mid P B all n m' M w' σ tm' S' (a :: rest') E Q ∧ z82 B m M w m' M w' := by
 intro rest
 induction rest with
 | nil =>
  intro S m w tm h
  have ht := h.topo
  cases ht with
  | nil hall => exact absurd (h.sub a (hall a ha)) haE
 | cons j rest ih =>
  intro S m w tm h
  by_cases hja : j = a
  ·subst hja
   exact ⟨m, w, tm, S, rest, .refl _ _, h, .refl h.mem⟩
  ·by_cases hjE : j ∈ E
   ·obtain ⟨m1, w1, tm1, hs1, h1, hst1⟩ := h.wait hjE cx todo fs
    obtain ⟨m2, w2, tm2, S2, rest2, hs2, h2, hst2⟩ := ih h1
    exact ⟨m2, w2, tm2, S2, rest2, .head hs1 hs2, h2, hst1.trans hst2⟩
   ·have ht := h.topo
    cases ht with
    | cons hn ho hp _ =>
     obtain ⟨k, hk, hkE⟩ := hst j _ ho hjE hja
     exact absurd (h.sub k (hp k hk)) hkE
theorem Mid.drain {all : Array Oper} {n : Nat} {E Q : List Nat} (hst : ∀ j o, all[j]? = some o → j ∉ E → ∀ q ∈ Q, Before all q j) (cx : Cx) (todo : List Item) (fs : List Frame) :
  ∀ (rest : List Nat) {S : List Nat} {m : Map} {w : World} {tm : Array Value}, Mid P B all n m M w σ tm S rest E Q →
   ∃ m' w' tm' S' rest', Steps P (lone (mkF cx tm (.inRegion all rest :: todo)) fs w) (lone (mkF cx tm' (.inRegion all rest' :: todo)) fs w') ∧ Mid P B all n m' M w' σ tm' S' rest' E Q ∧ z82 B m M w m' M w' ∧ ∀ i ∈ E, i < all.size → i ∈ S' := by
 intro rest
 induction rest with
 | nil =>
  intro S m w tm h
  have ht := h.topo
  cases ht with
  | nil hall => exact ⟨m, w, tm, S, [], .refl _ _, h, .refl h.mem, fun i _ hi => hall i hi⟩
 | cons j rest ih =>
  intro S m w tm h
  by_cases hE : ∀ i ∈ E, i < all.size → i ∈ S
  ·exact ⟨m, w, tm, S, j :: rest, .refl _ _, h, .refl h.mem, hE⟩
  ·by_cases hjE : j ∈ E
   ·obtain ⟨m1, w1, tm1, hs1, h1, hst1⟩ := h.wait hjE cx todo fs
    obtain ⟨m2, w2, tm2, S2, rest2, hs2, h2, hst2, h3⟩ := ih h1
    exact ⟨m2, w2, tm2, S2, rest2, .head hs1 hs2, h2, hst1.trans hst2, h3⟩
   ·exfalso
    apply hE
    intro i hi hil
    apply Classical.byContradiction
    intro hiS
    have ht := h.topo
    cases ht with
    | cons hn ho hp _ => exact hiS (z8a ho hp h.closed (hst j _ ho hjE i (h.pend i hi hiS)))
end
end Go.Ev
namespace Go.Ev
open Go.RowKit
variable {P : Program} {D : Known}
section
variable {B : Nat} {m : Map} {M : Mem} {w : World} {σ : Tree SV} {tm : Array Value}
theorem zhj {a b : Option Tmp} (h : zau a b = false) {d : Nat} (h1 : a = some d) : b ≠ some d := by
 intro h2
 subst h1 h2
 simp [zau] at h
theorem z8u {σ σ' : Tree SV} {n : Nat} {d : Option Tmp} {s : SV} (h : zam σ n d s = some σ') :
  (∀ t, d ≠ some t → σ'.get (Pos.ofNat t) = σ.get (Pos.ofNat t)) ∧ (∀ t, d = some t → t < n ∧ σ'.get (Pos.ofNat t) = some s) := by
 unfold zam at h
 split at h
 ·simp only [Option.some.injEq] at h; subst h
  exact ⟨fun _ _ => rfl, fun t e => by simp at e⟩
 ·rename_i d
  split at h
  ·rename_i hb
   simp only [Option.some.injEq] at h; subst h
   refine ⟨fun t ht => Tree.get_put_other _ _ (fun e => ht (by rw [Pos.ofNat_inj e])), fun t ht => ?_⟩
   cases ht
   exact ⟨Nat.lt_of_succ_le (Nat.le_of_ble_eq_true hb), Tree.get_put_same _ _ _⟩
  ·simp at h
theorem zgn {all : Array Oper} {σ' : Tree SV} {q : Nat} (h : zmo P all M σ q) (hr : ∀ o, all[q]? = some o → zdb (z8d all o) σ' σ) (hd : ∀ o d, all[q]? = some o → o.dst = some d → σ'.get (Pos.ofNat d) = σ.get (Pos.ofNat d)) : zmo P all M σ' q := by
 obtain ⟨o, s, ho, hev, hdst⟩ := h
 refine ⟨o, s, ho, ?_, fun d hod => by rw [hd o d ho hod]; exact hdst d hod⟩
 have hag := hr o ho
 unfold zd0 at hev ⊢
 rw [z9c hag, z9w (fun t ht => hag t (by simp only [z8d, List.mem_append]; exact .inr ht))]
 exact hev
theorem zdd {all : Array Oper} {o o' : Oper} {σ' : Tree SV} {n : Nat} {s : SV} (h : zam σ n o'.dst s = some σ') (hr : zbq (z8d all o) o'.dst = false) : zdb (z8d all o) σ' σ := by
 intro t ht
 refine (z8u h).1 t fun e => ?_
 rw [e] at hr
 rw [zfr.2 ht] at hr
 simp at hr
theorem zny (hD : Sound P B D) {all : Array Oper} {n : Nat} (cx : Cx) (todo : List Item) (fs : List Frame) :
  ∀ (plan : List PE) {E Q S rest : List Nat} {m : Map} {M : Mem} {w : World} {σ : Tree SV} {tm : Array Value} {σ' : Tree SV} {M' : Mem},
   zgw D P n all plan σ M = some (σ', M') → zav P all (z94 all.toList) plan E Q = true → Mid P B all n m M w σ tm S rest E Q →
   ∃ m' w' tm', Steps P (lone (mkF cx tm (.inRegion all rest :: todo)) fs w) (lone (mkF cx tm' todo) fs w') ∧ z82 B m M w m' M' w' ∧ za6 m' σ' tm' ∧ tm'.size = n := by
 intro plan
 induction plan with
 | nil =>
  intro E Q S rest m M w σ tm σ' M' hrun hval h
  simp only [zgw, Option.some.injEq, Prod.mk.injEq] at hrun
  obtain ⟨rfl, rfl⟩ := hrun
  simp only [zav, List.all_eq_true, List.mem_range] at hval
  have hall : ∀ i, i < all.size → i ∈ E := fun i hi => z8t.1 (hval i hi)
  obtain ⟨m1, w1, tm1, S1, rest1, hs, h1, hst, hE⟩ := h.drain (fun j o ho hj => absurd (hall j (Array.getElem?_eq_some_iff.1 ho).1) hj) cx todo fs
  have ht := h1.topo
  cases ht with
  | cons hn ho hp _ =>
   have hj := (Array.getElem?_eq_some_iff.1 ho).1
   exact absurd (hE _ (hall _ hj) hj) hn
  | nil _ =>
   refine ⟨m1, w1, tm1, hs.trans (.one (stepR_region_end (P := P) (b := mkF cx tm1 []) (a := ⟨tm1, cx.ds⟩))), hst, fun t s hts => ?_, h1.size⟩
   exact h1.rel t s hts fun i hi hiS o ho => absurd (hE i hi (Array.getElem?_eq_some_iff.1 ho).1) hiS
 | cons pe plan ih =>
  intro E Q S rest m M w σ tm σ' M' hrun hval h
  cases pe with
  | sync =>
   simp only [zgw] at hrun
   simp only [zav, Bool.and_eq_true, List.all_eq_true, List.mem_range, Bool.or_eq_true] at hval
   obtain ⟨hv, hval⟩ := hval
   obtain ⟨m1, w1, tm1, S1, rest1, hs, h1, hst, hE⟩ := h.drain (fun j o ho hj q hq => by
    have hj' := (Array.getElem?_eq_some_iff.1 ho).1
    rcases hv j hj' with hin | hb
    ·exact absurd (z8t.1 hin) hj
    ·exact z8o hj' (hb q hq)) cx todo fs
   have hmid : Mid P B all n m1 M w1 σ tm1 S1 rest1 E [] := by
    refine ⟨h1.mem, h1.size, h1.topo, h1.closed, h1.sub, ?_, h1.pd, h1.rel, by simp, by simp, h1.dn⟩
    intro i hi hiS
    obtain ⟨o, _, ho, _⟩ := h1.pd i hi hiS
    exact absurd (hE i hi (Array.getElem?_eq_some_iff.1 ho).1) hiS
   obtain ⟨m2, w2, tm2, hs2, hst2, ht2, hn2⟩ := ih hrun hval hmid
   exact ⟨m2, w2, tm2, hs.trans hs2, hst.trans hst2, ht2, hn2⟩
  | fl i =>
   simp only [zgw] at hrun
   simp only [zav] at hval
   cases ho : all[i]? with
   | none => rw [ho] at hrun; simp at hrun
   | some o =>
    rw [ho] at hrun hval
    simp only at hrun hval
    cases hev : zd0 P all M σ o with
    | none => rw [hev] at hrun; simp at hrun
    | some s =>
     rw [hev] at hrun
     simp only at hrun
     cases hput : zam σ n o.dst s with
     | none => rw [hput] at hrun; simp at hrun
     | some σ1 =>
      rw [hput] at hrun
      simp only at hrun
      simp only [Bool.and_eq_true, Bool.not_eq_true', List.all_eq_true] at hval
      obtain ⟨⟨⟨⟨hiE, hfl⟩, hself⟩, hQ⟩, hval⟩ := hval
      have hiE' : i ∉ E := fun e => by rw [z8t.2 e] at hiE; simp at hiE
      have hQ' : ∀ q ∈ Q, ∃ p, all[q]? = some p ∧ (zbq (z8d all o) p.dst = true → zhw (z94 all.toList) q i = true) ∧ zbq (z8d all p) o.dst = false ∧ zau o.dst p.dst = false := by
       intro q hq
       have := hQ q hq
       split at this
       ·simp at this
       ·rename_i p hp
        simp only [Bool.and_eq_true, Bool.or_eq_true, Bool.not_eq_true'] at this
        refine ⟨p, hp, fun hin => ?_, this.1.2, this.2⟩
        rcases this.1.1 with h1 | h1
        ·rw [hin] at h1; simp at h1
        ·exact h1
      obtain ⟨hp1, hp2⟩ := z8u hput
      refine ih hrun hval (E := i :: E) (Q := i :: Q) ⟨h.mem, h.size, h.topo, h.closed, fun x hx => List.mem_cons_of_mem _ (h.sub x hx), ?_, ?_, ?_, ?_, ?_, ?_⟩
      ·intro x hx hxS
       rcases List.mem_cons.1 hx with rfl | hx
       ·simp
       ·exact List.mem_cons_of_mem _ (h.pend x hx hxS)
      ·intro x hx hxS
       rcases List.mem_cons.1 hx with rfl | hx
       ·refine ⟨o, s, ho, ?_, fun d hd => (hp2 d hd).2⟩
        have hag := zdd (all := all) (o := o) hput hself
        unfold zd0 at hev ⊢
        rw [z9c hag, z9w (fun t ht => hag t (by simp only [z8d, List.mem_append]; exact .inr ht))]
        exact hev
       ·obtain ⟨p, hp, h1, h2, h3⟩ := hQ' x (h.pend x hx hxS)
        refine zgn (h.pd x hx hxS) (fun o' ho' => ?_) (fun o' d ho' hd => ?_)
        ·rw [hp] at ho'; cases ho'; exact zdd hput h2
        ·rw [hp] at ho'; cases ho'
         exact hp1 d fun e => zhj h3 e hd
      ·intro t x hx hcond
       have hne : o.dst ≠ some t := hcond i (by simp) (fun e => hiE' (h.sub i e)) o ho
       rw [hp1 t hne] at hx
       exact h.rel t x hx fun y hy hyS o' ho' => hcond y (List.mem_cons_of_mem _ hy) hyS o' ho'
      ·intro p hp q hq hpq o1 o2 h1 h2 hin
       rcases List.mem_cons.1 hp with rfl | hp2 <;> rcases List.mem_cons.1 hq with rfl | hq2
       ·exact absurd rfl hpq
       ·obtain ⟨p', hp', g1, g2, g3⟩ := hQ' q hq2
        rw [ho] at h1; cases h1
        rw [hp'] at h2; cases h2
        exact z8o (Array.getElem?_eq_some_iff.1 ho).1 (g1 hin)
       ·obtain ⟨p', hp', g1, g2, g3⟩ := hQ' p hp2
        rw [hp'] at h1; cases h1
        rw [ho] at h2; cases h2
        rw [g2] at hin; simp at hin
       ·exact h.qr p hp2 q hq2 hpq o1 o2 h1 h2 hin
      ·intro q hq o' ho'
       rcases List.mem_cons.1 hq with rfl | hq
       ·rw [ho] at ho'; cases ho'; exact ⟨hfl, hself⟩
       ·exact h.qf q hq o' ho'
      ·intro x hx o' d ho' hd
       rcases List.mem_cons.1 hx with rfl | hx
       ·rw [ho] at ho'; cases ho'; exact (hp2 d hd).1
       ·exact h.dn x hx o' d ho' hd
  | an a L =>
   simp only [zgw] at hrun
   simp only [zav] at hval
   cases ho : all[a]? with
   | none => rw [ho] at hrun; simp at hrun
   | some o =>
    rw [ho] at hrun hval
    simp only at hrun hval
    simp only [Bool.and_eq_true, Bool.not_eq_true', List.all_eq_true, List.mem_range, Bool.or_eq_true] at hval
    obtain ⟨⟨⟨⟨haE, hready⟩, hQL⟩, hL⟩, hval⟩ := hval
    have haE' : a ∉ E := fun e => by rw [z8t.2 e] at haE; simp at haE
    have hal := (Array.getElem?_eq_some_iff.1 ho).1
    have hL' : ∀ q ∈ L, q ∈ Q ∧ ∃ p, all[q]? = some p ∧ zbq (z8d all o) p.dst = false ∧ zau o.dst p.dst = false := by
     intro q hq
     have := hL q hq
     refine ⟨z8t.1 this.1, ?_⟩
     have := this.2
     split at this
     ·simp at this
     ·rename_i p hp
      simp only [Bool.and_eq_true, Bool.not_eq_true'] at this
      exact ⟨p, hp, this.1, this.2⟩
    obtain ⟨m1, w1, tm1, S1, rest1, hs, h1, hst⟩ := h.upto hal haE' (fun j p hp hj hja => by
     have hjl := (Array.getElem?_eq_some_iff.1 hp).1
     rcases hready j hjl with (hin | heq) | hk
     ·exact absurd (z8t.1 hin) hj
     ·exact absurd (Nat.eq_of_beq_eq_true heq) hja
     ·rw [hp] at hk
      simp only [List.any_eq_true, Bool.not_eq_true'] at hk
      obtain ⟨k, hk1, hk2⟩ := hk
      exact ⟨k, hk1, fun e => by rw [z8t.2 e] at hk2; simp at hk2⟩) cx todo fs
    have htopo := h1.topo
    cases htopo with
    | cons hn ho2 hp ht =>
    rename_i o2
    rw [ho] at ho2; cases ho2
    have hwaitL : ∀ i ∈ E, i ∉ S1 → i ∈ L := by
     intro i hi hiS
     rcases hQL i (h1.pend i hi hiS) with hb | hin
     ·exact absurd (z8a ho hp h1.closed (z8o hal hb)) hiS
     ·exact z8t.1 hin
    obtain ⟨σr, htr, hwr, her⟩ := h1.part ho (fun i hi hiS o' ho' => by
     obtain ⟨_, p, hp', g1, _⟩ := hL' i (hwaitL i hi hiS)
     rw [ho'] at hp'; cases hp'; exact g1)
    have key : ∀ (s : SV) (M2 : Mem) (σ2 : Tree SV), zam σ n o.dst s = some σ2 → z8g P all M2 σ2 L = true → zgw D P n all plan σ2 M2 = some (σ', M') →
      (∃ m2 w2 v, z82 B m1 M w1 m2 M2 w2 ∧ conc m2 s = some v ∧ ∀ tm', (∀ ds, Act.put ⟨tm1, ds⟩ o.dst v = ⟨tm', ds⟩) → Steps P (lone (mkF cx tm1 (.inRegion all (a :: rest1) :: todo)) fs w1) (lone (mkF cx tm' (.inRegion all rest1 :: todo)) fs w2)) →
      ∃ m' w' tm', Steps P (lone (mkF cx tm (.inRegion all rest :: todo)) fs w) (lone (mkF cx tm' todo) fs w') ∧ z82 B m M w m' M' w' ∧ za6 m' σ' tm' ∧ tm'.size = n := by
     rintro s M2 σ2 hput hstill hrun2 ⟨m2, w2, v, hst2, hv, hsteps⟩
     obtain ⟨hp1, hp2⟩ := z8u hput
     obtain ⟨tm', hpt, hsz, hne, heq⟩ := zb6 (tm := tm1) o.dst v
     have hext := hst2.ext h1.mem
     have hmid : Mid P B all n m2 M2 w2 σ2 tm' (a :: S1) rest1 (a :: E) L := by
      refine ⟨hst2.rel, hsz.trans h1.size, ht, ?_, ?_, ?_, ?_, ?_, ?_, ?_, ?_⟩
      ·intro i hi k hk
       rcases List.mem_cons.1 hi with rfl | hi
       ·exact List.mem_cons_of_mem _ (z8a ho hp h1.closed hk)
       ·exact List.mem_cons_of_mem _ (h1.closed i hi k hk)
      ·intro i hi
       rcases List.mem_cons.1 hi with rfl | hi
       ·simp
       ·exact List.mem_cons_of_mem _ (h1.sub i hi)
      ·intro i hi hiS
       rcases List.mem_cons.1 hi with rfl | hi
       ·exact absurd (by simp) hiS
       ·exact hwaitL i hi fun e => hiS (List.mem_cons_of_mem _ e)
      ·intro i hi hiS
       rcases List.mem_cons.1 hi with rfl | hi
       ·exact absurd (by simp) hiS
       ·exact z9l hstill i (hwaitL i hi fun e => hiS (List.mem_cons_of_mem _ e))
      ·intro t x hx hcond
       by_cases hd : o.dst = some t
       ·rw [(hp2 t hd).2] at hx
        cases hx
        exact ⟨v, heq t hd (by rw [h1.size]; exact (hp2 t hd).1), hv⟩
       ·rw [hp1 t hd] at hx
        obtain ⟨u, g1, g2⟩ := h1.rel t x hx fun i hi hiS o' ho' => hcond i (List.mem_cons_of_mem _ hi) (fun e => (List.mem_cons.1 e).elim (fun e => haE' (e ▸ hi)) hiS) o' ho'
        exact ⟨u, by rw [hne t hd]; exact g1, z8c hext _ _ g2⟩
      ·intro p hp' q hq hpq o1 o2 g1 g2 hin
       exact h1.qr p (hL' p hp').1 q (hL' q hq).1 hpq o1 o2 g1 g2 hin
      ·intro q hq o' ho'
       exact h1.qf q (hL' q hq).1 o' ho'
      ·intro x hx o' d ho' hd
       rcases List.mem_cons.1 hx with rfl | hx
       ·rw [ho] at ho'; cases ho'; exact (hp2 d hd).1
       ·exact h1.dn x hx o' d ho' hd
     obtain ⟨m3, w3, tm3, hs3, hst3, ht3, hn3⟩ := ih hrun2 hval hmid
     exact ⟨m3, w3, tm3, hs.trans ((hsteps tm' hpt).trans hs3), (hst.trans hst2).trans hst3, ht3, hn3⟩
    cases hw : z8e all σ o with
    | none => rw [hw] at hrun; simp at hrun
    | some b =>
     rw [hw] at hrun
     have hw' := z95 (hwr ▸ hw) htr
     cases b with
     | false =>
      simp only at hrun
      split at hrun
      ·simp at hrun
      ·rename_i σ2 hput
       split at hrun
       ·simp at hrun
       ·rename_i hstill
        refine key _ _ _ hput hstill hrun ⟨m1, w1, undef, .refl h1.mem, by simp [conc, concs, undef], fun tm' hpt => .one ?_⟩
        have hst' := stepR_op_skip (P := P) (b := mkF cx tm1 []) (a := ⟨tm1, cx.ds⟩) (k := todo) (cs := fs) (w := w1) (ops := all) (i := a) (rest := rest1) (by simp [ho, hw'])
        rw [ho, Option.bind_some, hpt] at hst'
        exact hst'
     | true =>
      simp only at hrun
      have hd := zaf (P := P) h1.mem htr o
      rw [← her] at hd
      cases hex : exec P M σ o with
      | bad => rw [hex] at hrun; simp at hrun
      | round l as M2 => rw [hex] at hrun; simp at hrun
      | val s M2 =>
       rw [hex] at hrun hd
       simp only at hrun
       obtain ⟨x, m2, w2, hxr, hx, hst2⟩ := hd
       obtain ⟨v, hv, hstep⟩ := zio (P := P) (cx := cx) (rest := rest1) (todo := todo) (fs := fs) ho hw' hxr hx (za7 (P := P) (M := M) (σ := σ) (by rw [hex]; simp))
       split at hrun
       ·simp at hrun
       ·rename_i σ2 hput
        split at hrun
        ·simp at hrun
        ·rename_i hstill
         exact key _ _ _ hput hstill hrun ⟨m2, w2, v, hst2, hv, fun tm' hpt => .one (hstep tm' hpt)⟩
      | enter f as M2 =>
       rw [hex] at hrun hd
       simp only at hrun
       obtain ⟨vs, m2, w2, hxr, has, hst2⟩ := hd
       cases hDf : D f as M2 with
       | none => rw [hDf] at hrun; simp at hrun
       | some r =>
        obtain ⟨s, M3⟩ := r
        rw [hDf] at hrun
        simp only at hrun
        split at hrun
        ·simp at hrun
        ·rename_i σ2 hput
         split at hrun
         ·simp at hrun
         ·rename_i hstill
          obtain ⟨m3, w3, v, hst3, hv, hsteps⟩ := hD f as M2 s M3 hDf m2 w2 vs hst2.rel has (mkF cx tm1 (.inRegion all (a :: rest1) :: todo)) fs
          refine key _ _ _ hput hstill hrun ⟨m3, w3, v, hst2.trans hst3, hv, fun tm' hpt => ?_⟩
          have hg := stepGR_op (P := P) (b := mkF cx tm1 []) (a := ⟨tm1, cx.ds⟩) (k := todo) (cs := fs) (w := w1) (ops := all) (i := a) (rest := rest1) ho hw'
          rw [Oper.semAt_eq _ _ _ (za7 (P := P) (M := M) (σ := σ) (by rw [hex]; simp)), z96] at hg
          have henter : step P (lone (mkF cx tm1 (.inRegion all (a :: rest1) :: todo)) fs w1) = .next (lone (Frame.enter P f vs .normal) (mkF cx tm1 (.inRegion all (a :: rest1) :: todo) :: fs) w2) := by
           refine step_lone_go ?_
           exact (congrArg GStep.bare hg).trans (by simp [stepG.apply, hxr, Frame.atR, mkF])
          have hfin : (mkF cx tm1 (.inRegion all (a :: rest1) :: todo)).finish v = mkF cx tm' (.inRegion all rest1 :: todo) := by
           have := Frame.finish_atR (mkF cx tm1 []) ⟨tm1, cx.ds⟩ all a rest1 todo v
           rw [ho, Option.bind_some, hpt] at this
           exact this
          rw [hfin] at hsteps
          exact .head henter hsteps
end
end Go.Ev
